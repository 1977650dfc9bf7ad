/-
  The document's world: a call that goes on with a world of its own, and hands it back.
-/
import Derived.Test.YthbkcdbmimhhkaaRwC
namespace Go.Proofs.Ythbkcdbmimhhkaa.Rw
open Go.RowKit Go.Maps Wo

theorem Own.typed {α : Type} {f : α → List Value} {k : Nat} {w : World} {B : Nat} {t : TypeId} {v : Value} {l : List α} (h : Own w B t k f v l) {b : Nat} (hb : v.ownBlock = some b) {cs : Array Value} {t2 : TypeId} {z : Nat × Nat} (ht : t ≠ t2) : w.heap[b]? ≠ some (.cells cs t2 z) := by
  rcases h.2 with ⟨h1, _⟩ | ⟨g, cap, cur, h1, _, h3, _⟩
  · subst h1; cases hb
  · subst h1
    have e : g = b := by simpa [Value.ownBlock] using hb
    subst e
    intro e2
    rw [h3] at e2
    simp only [Option.some.injEq, Obj.cells.injEq] at e2
    exact ht e2.2.1
/- What is turned in a block of a world's value turns nothing of the lists. -/
theorem RefAt.kept {w wr w2 : World} {S : Scpt} {r : RSt} {s : Shp} (h : RefAt wr S r s) (ho : Row3 w s.oR S.reps ∧ RowF w s.oX S.fails) (hbw : Below w.heap.size w w2) {b : Nat} {cs : Array Value} (hbox : wr.heap[b]? = some (.cells cs 38)) (hb : ∀ k, k ≠ b → w2.heap[k]? = wr.heap[k]?) (hz : wr.heap.size ≤ w2.heap.size := by first | (rw [put12_size]; exact Nat.le_refl _) | (rw [size_set]; exact Nat.le_refl _)) : RefAt w2 S r s :=
  ⟨ho.1.below hbw, ho.2.below hbw, h.rf.of_block fun k hk => hb k fun e => h.rf.typed hk (by decide) (e ▸ hbox), h.ro.of_block fun k hk => hb k fun e => h.ro.typed hk (by decide) (e ▸ hbox), h.re.of_block fun k hk => hb k fun e => h.re.typed hk (by decide) (e ▸ hbox), h.gh.grow hz⟩
structure Run (w wr : World) (S : Scpt) (r : RSt) (s : Shp) (b0 b2 : Nat) : Prop where
  below : Below w.heap.size w wr
  box : wr.heap[b0]? = some (.cells (s.cells S r) 38)
  res : wr.heap[b2]? = some (.cells (s0.cells S0 r0) 38)
  ref : RefAt wr S r s
  old : Row3 w s.oR S.reps ∧ RowF w s.oX S.fails
  lt : w.heap.size ≤ b0 ∧ w.heap.size ≤ b2 ∧ b0 ≠ b2
theorem old_scr {w : World} {S : Scpt} {s s' : Shp} (h : Row3 w s.oR S.reps ∧ RowF w s.oX S.fails) (e : s'.scr = s.scr) : Row3 w s'.oR S.reps ∧ RowF w s'.oX S.fails := by
  unfold Shp.scr at e
  simp only [Prod.mk.injEq] at e
  rw [e.2.2.1, e.2.2.2.2.1]; exact h
section
variable {w wr : World} {S : Scpt} {r : RSt} {s : Shp} {b0 b2 : Nat}
theorem Run.two (h : RefAt w S r s) : Run w ((w.alloc (.cells (s.cells S r) 38)).alloc (.cells #[.slice none 0 0, .string ⟨#[]⟩, .slice none 0 0, .slice none 0 0, .int .i64 0, .int .i64 0, .int .u64 0, .slice none 0 0, .int .i64 0, .slice none 0 0, .int .u64 0, .slice none 0 0] 38)) S r s w.heap.size (w.heap.size + 1) := by
  have hb : Below w.heap.size w ((w.alloc (.cells (s.cells S r) 38)).alloc (.cells #[.slice none 0 0, .string ⟨#[]⟩, .slice none 0 0, .slice none 0 0, .int .i64 0, .int .i64 0, .int .u64 0, .slice none 0 0, .int .i64 0, .slice none 0 0, .int .u64 0, .slice none 0 0] 38)) := ((Below.refl _ w).alloc (Nat.le_refl _) _).alloc (by rw [alloc_size]; omega) _
  refine ⟨hb, ?_, ?_, h.below hb, ⟨h.rr, h.rx⟩, Nat.le_refl _, Nat.le_succ _, by omega⟩
  · rw [alloc_old _ _ (by rw [alloc_size]; omega)]; exact alloc_new _ _
  · rw [← alloc_size w]; exact alloc_new _ _
theorem Run.later {w2 : World} (h : Run w wr S r s b0 b2) (hb : Below wr.heap.size wr w2) : Run w w2 S r s b0 b2 :=
  ⟨h.below.trans (hb.mono h.below.size), (hb.block _ (Array.getElem?_eq_some_iff.1 h.box).1).trans h.box, (hb.block _ (Array.getElem?_eq_some_iff.1 h.res).1).trans h.res, h.ref.below hb, h.old, h.lt⟩
/- Another world's value in its place. -/
theorem Run.put (h : Run w wr S r s b0 b2) {r' : RSt} {s' : Shp} (hr : RefAt wr S r' s') (he : s'.scr = s.scr) : Run w (put12 wr b0 S r' s') S r' s' b0 b2 :=
  ⟨put12_below h.below h.lt.1 _ _ _, put12_blk h.box rfl _ _ _, (put12_heap _ _ _ _ _ (Ne.symm h.lt.2.2)).trans h.res, hr.kept (old_scr h.old he) (put12_below h.below h.lt.1 _ _ _) h.box (fun k hk => put12_heap _ _ _ _ _ hk), old_scr h.old he, h.lt⟩
/- One field of it. -/
theorem Run.field (h : Run w wr S r s b0 b2) {i : Nat} {v : Value} {r' : RSt} {s' : Shp} (hc : (s.cells S r).setIfInBounds i v = s'.cells S r') (hr : RefAt wr S r' s') (he : s'.scr = s.scr) : Run w (wr.setCell ⟨b0, i, none⟩ v) S r' s' b0 b2 :=
  ⟨below_set h.below h.lt.1 _ _, by rw [blk_set h.box, hc], (heap_set _ _ _ (show b2 ≠ b0 from Ne.symm h.lt.2.2)).trans h.res, hr.kept (old_scr h.old he) (below_set h.below h.lt.1 _ _) h.box (fun k hk => heap_set _ _ _ hk), old_scr h.old he, h.lt⟩
/- Handed back. -/
theorem Run.done (h : Run w wr S r s b0 b2) : RefAt (put12 wr b2 S r s) S r s ∧ Below w.heap.size w (put12 wr b2 S r s) ∧ RBox (put12 wr b2 S r s) b2 S r s :=
  ⟨h.ref.kept h.old (put12_below h.below h.lt.2.1 _ _ _) h.res (fun k hk => put12_heap _ _ _ _ _ hk), put12_below h.below h.lt.2.1 _ _ _, rbox_of (put12_blk h.res rfl _ _ _)⟩
theorem Run.rbox (h : Run w wr S r s b0 b2) : RBox wr b0 S r s := rbox_of h.box
theorem Run.rres (h : Run w wr S r s b0 b2) : RBox wr b2 S0 r0 s0 := rbox_of h.res
end

/- Chance. -/
def chanceR (r : RSt) : RSt := { r with number := IntKind.u64.wrap (IntKind.u64.wrap (r.number * 6364136223846793005) + 1442695040888963407) }
set_option maxHeartbeats 1000000 in
set_option maxRecDepth 100000 in
theorem chanceRef {w : World} {S : Scpt} {r : RSt} {s : Shp} (h : RefAt w S r s) :
    Calls Try.prog 38 #[.agg (s.cells S r)] w fun x w' => ∃ s', x = .returned (.tuple #[.agg (s'.cells S (chanceR r)), .int .u64 r.number]) ∧ s'.scr = s.scr ∧ RefAt w' S (chanceR r) s' ∧ Below w.heap.size w w' := by
  have hR := Run.two h
  have h1 : 0 ≤ 1 := by decide
  go_enter Try.func38, Try.ntmps38
  go_upto_region 1 with fail
  obtain ⟨wA, hA⟩ : ∃ wA, wA = (w.alloc (.cells (s.cells S r) 38)).alloc (.cells #[.slice none 0 0, .string ⟨#[]⟩, .slice none 0 0, .slice none 0 0, .int .i64 0, .int .i64 0, .int .u64 0, .slice none 0 0, .int .i64 0, .slice none 0 0, .int .u64 0, .slice none 0 0] 38) := ⟨_, rfl⟩
  rw [← hA] at hR ⊢
  clear hA h
  generalize w.heap.size + 1 = b2 at *
  generalize w.heap.size = b0 at hR ⊢
  have HR := Lib.hid hR
  have c10 := hR.rbox.c10
  have z10 := hR.rbox.z 10
  clear hR
  go_upto_region 3 with fail
  have hF := HR.out.field (i := 10) (v := .int .u64 (IntKind.u64.wrap (IntKind.u64.wrap (r.number * 6364136223846793005) + 1442695040888963407))) (r' := chanceR r) (s' := s) rfl ⟨HR.out.ref.rr, HR.out.ref.rx, HR.out.ref.rf, HR.out.ref.ro, HR.out.ref.re, HR.out.ref.gh⟩ rfl
  obtain ⟨wB, hB⟩ : ∃ wB, wB = wA.setCell ⟨b0, 10, none⟩ (.int .u64 (IntKind.u64.wrap (IntKind.u64.wrap (r.number * 6364136223846793005) + 1442695040888963407))) := ⟨_, rfl⟩
  rw [← hB] at hF ⊢
  clear hB
  obtain ⟨r2, hr2⟩ : ∃ x, x = chanceR r := ⟨_, rfl⟩
  rw [← hr2] at hF
  have HN := Lib.hid hr2
  clear hr2
  have HF := Lib.hid hF
  obtain ⟨y0, y1, y2, y3, y4, y5, y6, y7, y8, y9, y10, y11, _, _⟩ := hF.rbox
  obtain ⟨q0, q1, q2, q3, q4, q5, q6, q7, q8, q9, q10, q11, qz, _⟩ := hF.rres
  have qz0 := qz 0
  have qz1 := qz 1
  have qz2 := qz 2
  have qz3 := qz 3
  have qz4 := qz 4
  have qz5 := qz 5
  have qz6 := qz 6
  have qz7 := qz 7
  have qz8 := qz 8
  have qz9 := qz 9
  have qz10 := qz 10
  have qz11 := qz 11
  clear qz hF c10 z10
  go_wp2_with fail
  rw [put12_def]
  obtain ⟨d1, d2, d3⟩ := HF.out.done
  obtain ⟨z0, z1, z2, z3, z4, z5, z6, z7, z8, z9, z10, z11, _, _⟩ := d3
  generalize put12 wB b2 S r2 s = w9 at *
  refine bodyPost_ret (v := .tuple #[.agg (s.cells S r2), .int .u64 r.number]) (by simp [results, Try.results38, go_sem, z0, z1, z2, z3, z4, z5, z6, z7, z8, z9, z10, z11]) rfl ?_
  obtain rfl := HN.out
  exact ⟨s, rfl, rfl, d1, d2⟩
end Go.Proofs.Ythbkcdbmimhhkaa.Rw
