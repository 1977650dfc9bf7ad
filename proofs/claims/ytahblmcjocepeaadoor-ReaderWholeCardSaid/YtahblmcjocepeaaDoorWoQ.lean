/-
  Package world: a world made of its script (New).
-/
import Derived.Test.YtahblmcjocepeaaDoorWoO
namespace Go.Proofs.YtahblmcjocepeaaDoor.Wo
open Go.RowKit Go.Maps

theorem makeMap1 (w : World) : (Instr.makeMap 99 none).run Tryd.prog w = .ok (.map (some w.heap.size)) (w.alloc (.map #[] 0)) := by
  simp [Instr.makeMap]
theorem makeMap2 (w : World) : (Instr.makeMap 100 none).run Tryd.prog w = .ok (.map (some w.heap.size)) (w.alloc (.map #[] 0)) := by
  simp [Instr.makeMap]
theorem makeMap3 (w : World) : (Instr.makeMap 101 none).run Tryd.prog w = .ok (.map (some w.heap.size)) (w.alloc (.map #[] 0)) := by
  simp [Instr.makeMap]
theorem bld_neq_nil (w : World) : (binOp .neq 89 (.pointer none) (.pointer none)).run Tryd.prog w = .ok (.bool false) w := by
  have h : ∀ d : Nat, (Op.equalIn (d + 1) 89 (.pointer none) (.pointer none)).run Tryd.prog w = .ok true w := fun d => by
    simp [Op.equalIn, run_underlying Tryd.underlying89]
  simp only [binOp]
  simp [Op.equal, Op.maxDepth, h 9999]

abbrev FileD := ByteArray × ByteArray
def Row2 (w : World) (oa : Option Addr) (L : List FileD) : Prop := ∀ (i : Nat) p, L[i]? = some p → ∃ g o, oa = some ⟨g, o, none⟩ ∧ w.cell? ⟨g, o + i * 2, none⟩ = some (.string p.1) ∧ w.cell? ⟨g, o + i * 2 + 1, none⟩ = some (.string p.2)
theorem Row2.below {w w' : World} {oa : Option Addr} {L : List FileD} (h : Row2 w oa L) (hb : Below w.heap.size w w') : Row2 w' oa L := fun i p hp => by
  obtain ⟨g, o, h1, h2, h3⟩ := h i p hp
  exact ⟨g, o, h1, (hb.cell (World.block_lt_of_cell? w _ h2)).trans h2, (hb.cell (World.block_lt_of_cell? w _ h3)).trans h3⟩
def st0 (stdin : ByteArray) (most clk ch : Int) : St := ⟨fun _ => none, stdin, fun _ => none, fun _ _ => false, most, clk, ch, [], [], 0⟩
def fileS (st : St) (p : FileD) : St := { beginS st p.1 with file := setF (beginS st p.1).file p.1 (((st.file p.1).getD []) ++ p.2.data.toList) }
def filesTo (st : St) (L : List FileD) : St := L.foldl fileS st
theorem filesTo_snoc (st : St) (L : List FileD) (p : FileD) : filesTo st (L ++ [p]) = fileS (filesTo st L) p := by simp [filesTo]
def Once2 (L : List FileD) : Prop := L.Pairwise fun a b => a.1 ≠ b.1
theorem filesTo_none (st : St) (n : ByteArray) : ∀ L : List FileD, st.file n = none → (∀ p ∈ L, p.1 ≠ n) → (filesTo st L).file n = none := by
  intro L
  induction L generalizing st with
  | nil => exact fun h _ => h
  | cons p L ih =>
    intro h hL
    refine ih (fileS st p) ?_ fun q hq => hL q (List.mem_cons_of_mem _ hq)
    have hp := hL p List.mem_cons_self
    show setF (beginS st p.1).file p.1 _ n = none
    rw [setF, if_neg fun e => hp e.symm]
    unfold beginS
    split
    · exact h
    · show setF st.file p.1 [] n = none
      rw [setF, if_neg fun e => hp e.symm]
      exact h
theorem filesTo_made (st : St) : ∀ L : List FileD, (filesTo st L).made ≤ st.made + L.length := by
  intro L
  induction L generalizing st with
  | nil => exact Nat.le_refl _
  | cons p L ih =>
    have h1 := ih (fileS st p)
    have h2 : (fileS st p).made ≤ st.made + 1 := by
      show (beginS st p.1).made ≤ _
      unfold beginS
      split
      · omega
      · exact Nat.le_refl _
    show (filesTo (fileS st p) L).made ≤ _
    rw [List.length_cons]; omega

/- The world's own blocks, all new. -/
def newTags (H : Nat) : Tags := fun k => if k = H + 1 then .files else if k = H + 1 + 1 then .replies else if k = H + 1 + 1 + 1 then .fails else if k = H + 1 + 1 + 1 + 1 then .self else .no
def OnlyNew (o : Obj) (w wr : World) (T : Tags) : Prop := (∀ k, T k ≠ .no → w.heap.size ≤ k) ∧ Below w.heap.size w wr ∧ T w.heap.size = .no ∧ wr.heap[w.heap.size]? = some o
theorem new_only (H : Nat) : ∀ k, newTags H k ≠ .no → H ≤ k := by
  intro k hk
  unfold newTags at hk
  split at hk
  · omega
  · split at hk
    · omega
    · split at hk
      · omega
      · split at hk
        · omega
        · exact absurd rfl hk
theorem OnlyNew.step {o : Obj} {w wr w2 : World} {T T2 : Tags} (h : OnlyNew o w wr T) (e : ∀ k, k < wr.heap.size → T2 k = T k) (t : Turn (fun k => T k ≠ .no) wr w2) : OnlyNew o w w2 T2 := by
  have hl : w.heap.size < wr.heap.size := (Array.getElem?_eq_some_iff.1 h.2.2.2).1
  refine ⟨fun k hk => ?_, h.2.1.trans ⟨t.os, t.tape, t.output, t.size, fun k hk => t.block k (Nat.lt_of_lt_of_le hk h.2.1.size) fun e2 => by have := h.1 k e2; omega⟩, (e _ hl).trans h.2.2.1, (t.block _ hl fun e2 => e2 h.2.2.1).trans h.2.2.2⟩
  by_cases hlt : k < wr.heap.size
  · rw [e k hlt] at hk; exact h.1 k hk
  · omega
theorem once_take {L : List FileD} (h : Once2 L) {j : Nat} {p : FileD} (hp : L[j]? = some p) : ∀ q ∈ L.take j, q.1 ≠ p.1 := by
  intro q hq
  obtain ⟨i, hi, rfl⟩ := List.mem_iff_getElem.1 hq
  rw [List.length_take] at hi
  obtain ⟨hj, rfl⟩ := List.getElem?_eq_some_iff.1 hp
  rw [List.getElem_take]
  unfold Once2 at h
  rw [List.pairwise_iff_getElem] at h
  exact h i j (by omega) hj (by omega)
theorem noneLook {sv : Value} {w : World} {B fm rm xm : Nat} {D : DataW Unit} {vs vt : Value} {ps : List Value} {T : Tags} {st : St} {n : ByteArray} (h : WdAtS sv w B fm rm xm D vs vt ps T st) (hn : Small n) (hf : st.file n = none) (m : Nat) : (Instr.lookup 99 (.map (some fm)) (.string n) false).run Tryd.prog (w.drewN m) = .ok (.pointer none) (w.drewN m) := by
  have h2 : WdAtS sv (w.drewN m) B fm rm xm D vs vt ps T st := h.later (Nat.le_refl _) fun _ _ => rfl
  rcases h2.look n hn with ⟨_, h2⟩ | ⟨l, b, buf, h1, _⟩
  · exact h2
  · rw [hf] at h1; cases h1
theorem cell_lt {w : World} {p : Addr} {v : Value} (h : w.cell? p = some v) : p.block < w.heap.size := World.block_lt_of_cell? w p h
theorem newTags_box (H : Nat) : newTags H H = .no := by
  unfold newTags
  rw [if_neg (by omega), if_neg (by omega), if_neg (by omega), if_neg (by omega)]
theorem five_below (w : World) (a b c d e : Obj) : Below w.heap.size w (((((w.alloc a).alloc b).alloc c).alloc d).alloc e) :=
  ((((((Below.refl _ w).alloc (Nat.le_refl _) a).alloc (by rw [alloc_size]; omega) b).alloc (by rw [alloc_size, alloc_size]; omega) c).alloc (by rw [alloc_size, alloc_size, alloc_size]; omega) d).alloc (by rw [alloc_size, alloc_size, alloc_size, alloc_size]; omega) e)
theorem five (w : World) (a b c d e : Obj) : (((((w.alloc a).alloc b).alloc c).alloc d).alloc e).heap[w.heap.size]? = some a ∧ (((((w.alloc a).alloc b).alloc c).alloc d).alloc e).heap[w.heap.size + 1]? = some b ∧ (((((w.alloc a).alloc b).alloc c).alloc d).alloc e).heap[w.heap.size + 1 + 1]? = some c ∧
    (((((w.alloc a).alloc b).alloc c).alloc d).alloc e).heap[w.heap.size + 1 + 1 + 1]? = some d ∧ (((((w.alloc a).alloc b).alloc c).alloc d).alloc e).heap[w.heap.size + 1 + 1 + 1 + 1]? = some e := by
  have h1 := alloc_new w a
  have h2 := alloc_new (w.alloc a) b
  have h3 := alloc_new ((w.alloc a).alloc b) c
  have h4 := alloc_new (((w.alloc a).alloc b).alloc c) d
  have h5 := alloc_new ((((w.alloc a).alloc b).alloc c).alloc d) e
  simp only [alloc_size] at h2 h3 h4 h5
  have s1 : (w.alloc a).heap.size = w.heap.size + 1 := alloc_size _ _
  have s2 : ((w.alloc a).alloc b).heap.size = w.heap.size + 1 + 1 := by rw [alloc_size, alloc_size]
  have s3 : (((w.alloc a).alloc b).alloc c).heap.size = w.heap.size + 1 + 1 + 1 := by rw [alloc_size, alloc_size, alloc_size]
  have s4 : ((((w.alloc a).alloc b).alloc c).alloc d).heap.size = w.heap.size + 1 + 1 + 1 + 1 := by rw [alloc_size, alloc_size, alloc_size, alloc_size]
  have o5 : ∀ k, k < w.heap.size + 1 + 1 + 1 + 1 → (((((w.alloc a).alloc b).alloc c).alloc d).alloc e).heap[k]? = ((((w.alloc a).alloc b).alloc c).alloc d).heap[k]? := fun k hk => alloc_old _ _ (by omega)
  have o4 : ∀ k, k < w.heap.size + 1 + 1 + 1 → ((((w.alloc a).alloc b).alloc c).alloc d).heap[k]? = (((w.alloc a).alloc b).alloc c).heap[k]? := fun k hk => alloc_old _ _ (by omega)
  have o3 : ∀ k, k < w.heap.size + 1 + 1 → (((w.alloc a).alloc b).alloc c).heap[k]? = ((w.alloc a).alloc b).heap[k]? := fun k hk => alloc_old _ _ (by omega)
  have o2 : ∀ k, k < w.heap.size + 1 → ((w.alloc a).alloc b).heap[k]? = (w.alloc a).heap[k]? := fun k hk => alloc_old _ _ (by omega)
  refine ⟨?_, ?_, ?_, ?_, h5⟩
  · rw [o5 _ (by omega), o4 _ (by omega), o3 _ (by omega), o2 _ (by omega)]; exact h1
  · rw [o5 _ (by omega), o4 _ (by omega), o3 _ (by omega)]; exact h2
  · rw [o5 _ (by omega), o4 _ (by omega)]; exact h3
  · rw [o5 _ (by omega)]; exact h4
theorem five_box (w : World) (a b c d e : Obj) : (((((w.alloc a).alloc b).alloc c).alloc d).alloc e).heap[w.heap.size]? = some a := (five w a b c d e).1
theorem mapMade {w : World} {mb : Nat} (h : w.heap[mb]? = some (.map #[] 0)) : MapIs w mb 0 (.map []) := by
  obtain ⟨es, clock, h1, h2⟩ := World.ownsMap_made (H := Unit) w Tryd.prog 9 rdPtr
  rw [alloc_new] at h1
  simp only [Option.some.injEq, Obj.map.injEq] at h1
  obtain ⟨rfl, rfl⟩ := h1
  exact ⟨_, _, h, h2⟩
theorem rep_empty {w : World} {rm : Nat} (h : w.heap[rm]? = some (.map #[] 0)) : Replies w rm fun _ => none := by
  obtain ⟨es, clock, h1, h2⟩ := World.ownsMap_made (H := Unit) w Tryd.prog 9 rdRep
  rw [alloc_new] at h1
  simp only [Option.some.injEq, Obj.map.injEq] at h1
  obtain ⟨rfl, rfl⟩ := h1
  exact ⟨0, .map [], Nat.zero_le _, ⟨_, _, h, h2⟩, fun n _ => ⟨rfl, rfl⟩⟩
theorem fail_empty {w : World} {xm : Nat} (h : w.heap[xm]? = some (.map #[] 0)) : Fails w xm fun _ _ => false := by
  obtain ⟨es, clock, h1, h2⟩ := World.ownsMap_made (H := Unit) w Tryd.prog 32 unitElem
  rw [alloc_new] at h1
  simp only [Option.some.injEq, Obj.map.injEq] at h1
  obtain ⟨rfl, rfl⟩ := h1
  exact ⟨0, .map [], Nat.zero_le _, ⟨_, _, h, h2⟩, fun op n _ _ _ => rfl⟩
theorem WdAtS.selfed {sv : Value} {w : World} {B fm rm xm : Nat} {D : DataW Unit} {vs vt : Value} {ps : List Value} {T : Tags} {st : St} (h : WdAtS sv w B fm rm xm D vs vt ps T st) :
    WdAt (w.setCell ⟨B, 0, none⟩ (ptr B)) B fm rm xm D vs vt ps T st ∧ Turn (fun k => T k ≠ .no) w (w.setCell ⟨B, 0, none⟩ (ptr B)) := by
  have hBn : T B ≠ .no := by rw [h.tB]; simp
  have f := h.frame (fun p => p = .self) (w' := w.setCell ⟨B, 0, none⟩ (ptr B)) (T' := T) (fun k h0 hz => heap_set _ _ _ (fun e => hz (by rw [e]; exact h.tB))) (fun k _ => rfl) (fun k hk => by rw [size_set]; exact h.lt k hk)
  refine ⟨⟨?_, f.tB, f.tf, f.tr, f.tx, ⟨f.map (by simp), fun n hn => f.file n hn (by simp) (by simp)⟩, f.replies (by simp), f.fails (by simp), ⟨f.slen, f.srow (by simp), f.stag, fun i s p h1 h2 => f.src i s p h1 h2 (by simp), f.kinds, f.uniq⟩, ⟨f.trow (by simp), f.ttag⟩, f.lt⟩, (Turn.of_set _ _ _).mono fun k hk => by rw [hk]; exact hBn⟩
  rw [blk_set h.blk]
  rfl
theorem new_at {w : World} (stdin : ByteArray) (most clk ch : Int) (o : Obj) :
    WdAtS (.pointer none) (((((w.alloc o).alloc (.map #[] 0)).alloc (.map #[] 0)).alloc (.map #[] 0)).alloc (.cells #[.pointer none, .map (some (w.heap.size + 1)), .string stdin, .map (some (w.heap.size + 1 + 1)), .map (some (w.heap.size + 1 + 1 + 1)), .int .i64 most, .int .i64 clk, .int .u64 ch, .slice none 0 0, .slice none 0 0] 104))
      (w.heap.size + 1 + 1 + 1 + 1) (w.heap.size + 1) (w.heap.size + 1 + 1) (w.heap.size + 1 + 1 + 1) (.map []) (.slice none 0 0) (.slice none 0 0) [] (newTags w.heap.size) (st0 stdin most clk ch) := by
  obtain ⟨q0, q1, q2, q3, q4⟩ := five w o (.map #[] 0) (.map #[] 0) (.map #[] 0) (.cells #[.pointer none, .map (some (w.heap.size + 1)), .string stdin, .map (some (w.heap.size + 1 + 1)), .map (some (w.heap.size + 1 + 1 + 1)), .int .i64 most, .int .i64 clk, .int .u64 ch, .slice none 0 0, .slice none 0 0] 104)
  refine ⟨q4, ?_, ?_, ?_, ?_, ⟨mapMade q1, fun n hn => rfl⟩, rep_empty q2, fail_empty q3, { len := rfl, row := World.ownsRow_nil _ _ _ _, tag := (fun k hk => by cases hk), each := (fun i s p h1 => by simp [st0] at h1), kinds := (fun s hs => by simp [st0] at hs), uniq := List.Pairwise.nil }, ⟨World.ownsRow_nil _ _ _ _, fun k hk => by cases hk⟩, fun k hk => ?_⟩
  · unfold newTags; rw [if_neg (by omega), if_neg (by omega), if_neg (by omega), if_pos rfl]
  · unfold newTags; rw [if_pos rfl]
  · unfold newTags; rw [if_neg (by omega), if_pos rfl]
  · unfold newTags; rw [if_neg (by omega), if_neg (by omega), if_pos rfl]
  · have := five_below w o (.map #[] 0) (.map #[] 0) (.map #[] 0) (.cells #[.pointer none, .map (some (w.heap.size + 1)), .string stdin, .map (some (w.heap.size + 1 + 1)), .map (some (w.heap.size + 1 + 1 + 1)), .int .i64 most, .int .i64 clk, .int .u64 ch, .slice none 0 0, .slice none 0 0] 104)
    simp only [alloc_size]
    unfold newTags at hk
    split at hk
    · omega
    · split at hk
      · omega
      · split at hk
        · omega
        · split at hk
          · omega
          · exact absurd rfl hk

structure RepD where
  cmd : ByteArray
  out : ByteArray
  status : Int
structure FailD where
  op : Int
  name : ByteArray
def Row3 (w : World) (oa : Option Addr) (L : List RepD) : Prop := ∀ (i : Nat) r, L[i]? = some r → ∃ g o, oa = some ⟨g, o, none⟩ ∧ w.cell? ⟨g, o + i * 3, none⟩ = some (.string r.cmd) ∧ w.cell? ⟨g, o + i * 3 + 1, none⟩ = some (.string r.out) ∧ w.cell? ⟨g, o + i * 3 + 2, none⟩ = some (.int .i64 r.status)
theorem Row3.below {w w' : World} {oa : Option Addr} {L : List RepD} (h : Row3 w oa L) (hb : Below w.heap.size w w') : Row3 w' oa L := fun i p hp => by
  obtain ⟨g, o, h1, h2, h3, h4⟩ := h i p hp
  exact ⟨g, o, h1, (hb.cell (World.block_lt_of_cell? w _ h2)).trans h2, (hb.cell (World.block_lt_of_cell? w _ h3)).trans h3, (hb.cell (World.block_lt_of_cell? w _ h4)).trans h4⟩
def RowF (w : World) (oa : Option Addr) (L : List FailD) : Prop := ∀ (i : Nat) r, L[i]? = some r → ∃ g o, oa = some ⟨g, o, none⟩ ∧ w.cell? ⟨g, o + i * 2, none⟩ = some (.int .u8 r.op) ∧ w.cell? ⟨g, o + i * 2 + 1, none⟩ = some (.string r.name)
theorem RowF.below {w w' : World} {oa : Option Addr} {L : List FailD} (h : RowF w oa L) (hb : Below w.heap.size w w') : RowF w' oa L := fun i p hp => by
  obtain ⟨g, o, h1, h2, h3⟩ := h i p hp
  exact ⟨g, o, h1, (hb.cell (World.block_lt_of_cell? w _ h2)).trans h2, (hb.cell (World.block_lt_of_cell? w _ h3)).trans h3⟩
def Once3 (L : List RepD) : Prop := L.Pairwise fun a b => a.cmd ≠ b.cmd
def repS (g : ByteArray → Option (ByteArray × Int)) (r : RepD) : ByteArray → Option (ByteArray × Int) := fun n => if n = r.cmd then some (r.out, r.status) else g n
def repTo (L : List RepD) : ByteArray → Option (ByteArray × Int) := L.foldl repS fun _ => none
def failS (g : Int → ByteArray → Bool) (x : FailD) : Int → ByteArray → Bool := fun op n => if op = x.op ∧ n = x.name then true else g op n
def failTo (L : List FailD) : Int → ByteArray → Bool := L.foldl failS fun _ _ => false
theorem repTo_snoc (L : List RepD) (r : RepD) : repTo (L ++ [r]) = repS (repTo L) r := by simp [repTo]
theorem failTo_snoc (L : List FailD) (x : FailD) : failTo (L ++ [x]) = failS (failTo L) x := by simp [failTo]
theorem repTo_none (n : ByteArray) (L : List RepD) : (∀ r ∈ L, r.cmd ≠ n) → repTo L n = none := by
  have key : ∀ (L : List RepD) (g : ByteArray → Option (ByteArray × Int)), g n = none → (∀ r ∈ L, r.cmd ≠ n) → (L.foldl repS g) n = none := by
    intro L
    induction L with
    | nil => exact fun g h _ => h
    | cons r L ih =>
      intro g h hL
      refine ih (repS g r) ?_ fun q hq => hL q (List.mem_cons_of_mem _ hq)
      unfold repS
      rw [if_neg fun e => hL r List.mem_cons_self e.symm]
      exact h
  exact key L _ rfl
theorem once3_take {L : List RepD} (h : Once3 L) {j : Nat} {p : RepD} (hp : L[j]? = some p) : ∀ q ∈ L.take j, q.cmd ≠ p.cmd := by
  intro q hq
  obtain ⟨i, hi, rfl⟩ := List.mem_iff_getElem.1 hq
  rw [List.length_take] at hi
  obtain ⟨hj, rfl⟩ := List.getElem?_eq_some_iff.1 hp
  rw [List.getElem_take]
  unfold Once3 at h
  rw [List.pairwise_iff_getElem] at h
  exact h i j (by omega) hj (by omega)

def RepN (w : World) (rm N : Nat) (g : ByteArray → Option (ByteArray × Int)) : Prop := ∃ D, w.ownsMap Tryd.prog 9 rdRep rm N D ∧ ∀ n, Small n → has D (kl n) = (g n).isSome ∧ D.atKey (kl n) (encR (noText, 0)) = encR ((g n).getD (noText, 0))
theorem RepN.replies {w : World} {rm N : Nat} {g : ByteArray → Option (ByteArray × Int)} (h : RepN w rm N g) (hN : N ≤ 1000000) : Replies w rm g := by
  obtain ⟨D, h1, h2⟩ := h
  exact ⟨N, D, hN, h1, h2⟩
theorem RepN.of_block {w w' : World} {rm N : Nat} {g : ByteArray → Option (ByteArray × Int)} (h : RepN w rm N g) (hb : w'.heap[rm]? = w.heap[rm]?) : RepN w' rm N g := by
  obtain ⟨D, ⟨es, clock, h1, h2⟩, h3⟩ := h
  exact ⟨D, ⟨es, clock, by rw [hb]; exact h1, h2⟩, h3⟩
theorem RepN.put {w : World} {rm N : Nat} {g : ByteArray → Option (ByteArray × Int)} {D : DataW Unit} {r : RepD} (hD : IsMap D) (h2 : ∀ n, Small n → has D (kl n) = (g n).isSome ∧ D.atKey (kl n) (encR (noText, 0)) = encR ((g n).getD (noText, 0))) (h : w.ownsMap Tryd.prog 9 rdRep rm N (D.put (kl r.cmd) (encR (r.out, r.status)))) : RepN w rm N (repS g r) := by
  refine ⟨_, h, fun n hn => ?_⟩
  unfold repS
  by_cases e : n = r.cmd
  · subst e
    rw [if_pos rfl]
    exact ⟨has_put_same hD (kl_key _) _, atKey_put_same hD (kl_key _) _ _⟩
  · rw [if_neg e]
    have hne : kl n ≠ kl r.cmd := fun e2 => e (kl_inj e2)
    obtain ⟨q1, q2⟩ := h2 n hn
    exact ⟨(has_put_other hne _).trans q1, (atKey_put_other hne _ _).trans q2⟩
def FailN (w : World) (xm N : Nat) (g : Int → ByteArray → Bool) : Prop := ∃ D : DataW Unit, w.ownsMap Tryd.prog 32 unitElem xm N D ∧ ∀ (op : Int) (n : ByteArray), 0 ≤ op → op < 256 → Small n → has D (failK op n) = g op n
theorem FailN.fails {w : World} {xm N : Nat} {g : Int → ByteArray → Bool} (h : FailN w xm N g) (hN : N ≤ 1000000) : Fails w xm g := by
  obtain ⟨D, h1, h2⟩ := h
  exact ⟨N, D, hN, h1, h2⟩
theorem FailN.of_block {w w' : World} {xm N : Nat} {g : Int → ByteArray → Bool} (h : FailN w xm N g) (hb : w'.heap[xm]? = w.heap[xm]?) : FailN w' xm N g := by
  obtain ⟨D, ⟨es, clock, h1, h2⟩, h3⟩ := h
  exact ⟨D, ⟨es, clock, by rw [hb]; exact h1, h2⟩, h3⟩
theorem failK_inj {o1 o2 : Int} {n1 n2 : ByteArray} (a0 : 0 ≤ o1) (a1 : o1 < 256) (b0 : 0 ≤ o2) (b1 : o2 < 256) (h : failK o1 n1 = failK o2 n2) : o1 = o2 ∧ n1 = n2 := by
  unfold failK at h
  injection h with h
  have h' : bytesBE 1 (o1 % 2 ^ 8).toNat ++ (bytesBE 8 n1.data.toList.length ++ n1.data.toList) = bytesBE 1 (o2 % 2 ^ 8).toNat ++ (bytesBE 8 n2.data.toList.length ++ n2.data.toList) := by simpa [keyBytes, Lit.keyBytes, IntKind.bits] using h
  obtain ⟨e1, e2⟩ := List.append_inj h' (by rw [length_bytesBE, length_bytesBE])
  obtain ⟨_, e3⟩ := List.append_inj e2 (by rw [length_bytesBE, length_bytesBE])
  have e4 := bytesBE_inj (w := 1) (by omega) (by omega) e1
  exact ⟨by omega, ByteArray.ext (Array.toList_inj.1 e3)⟩
theorem failK_key (op : Int) (n : ByteArray) : WideAt.IsKeyLit (failK op n) := by
  unfold WideAt.IsKeyLit failK
  first | trivial | exact ⟨_, rfl⟩ | simp
theorem FailN.put {w : World} {xm N : Nat} {g : Int → ByteArray → Bool} {D d : DataW Unit} {x : FailD} (hD : IsMap D) (x0 : 0 ≤ x.op) (x1 : x.op < 256) (h2 : ∀ (op : Int) (n : ByteArray), 0 ≤ op → op < 256 → Small n → has D (failK op n) = g op n) (h : w.ownsMap Tryd.prog 32 unitElem xm N (D.put (failK x.op x.name) d)) : FailN w xm N (failS g x) := by
  refine ⟨_, h, fun op n h0 h1 hn => ?_⟩
  unfold failS
  by_cases e : op = x.op ∧ n = x.name
  · obtain ⟨rfl, rfl⟩ := e
    rw [if_pos ⟨rfl, rfl⟩]
    exact has_put_same hD (failK_key _ _) _
  · rw [if_neg e]
    exact (has_put_other (fun e2 => e (failK_inj h0 h1 x0 x1 e2)) _).trans (h2 op n h0 h1 hn)
section
variable {sv : Value} {w : World} {B fm rm xm : Nat} {D : DataW Unit} {vs vt : Value} {ps : List Value} {T : Tags} {st : St}
theorem WdAtS.replied (h : WdAtS sv w B fm rm xm D vs vt ps T st) {w' : World} {g : ByteArray → Option (ByteArray × Int)} (ht : Turn (fun k => k = rm) w w') (hr : Replies w' rm g) : WdAtS sv w' B fm rm xm D vs vt ps T { st with reply := g } ∧ Turn (fun k => T k ≠ .no) w w' := by
  have hn : T rm ≠ .no := by rw [h.tr]; simp
  have f := h.frame (fun p => p = .replies) (w' := w') (T' := T) (fun k h0 hz => ht.block k (h.lt k h0) fun e => hz (by rw [e]; exact h.tr)) (fun k _ => rfl) (fun k hk => Nat.lt_of_lt_of_le (h.lt k hk) ht.size)
  exact ⟨⟨f.blk (by simp), f.tB, f.tf, f.tr, f.tx, ⟨f.map (by simp), fun n hn => f.file n hn (by simp) (by simp)⟩, hr, f.fails (by simp), ⟨f.slen, f.srow (by simp), f.stag, fun i s p h1 h2 => f.src i s p h1 h2 (by simp), f.kinds, f.uniq⟩, ⟨f.trow (by simp), f.ttag⟩, f.lt⟩, ht.mono fun k hk => by rw [hk]; exact hn⟩
theorem WdAtS.failsNow (h : WdAtS sv w B fm rm xm D vs vt ps T st) {w' : World} {g : Int → ByteArray → Bool} (ht : Turn (fun k => k = xm) w w') (hr : Fails w' xm g) : WdAtS sv w' B fm rm xm D vs vt ps T { st with fails := g } ∧ Turn (fun k => T k ≠ .no) w w' := by
  have hn : T xm ≠ .no := by rw [h.tx]; simp
  have f := h.frame (fun p => p = .fails) (w' := w') (T' := T) (fun k h0 hz => ht.block k (h.lt k h0) fun e => hz (by rw [e]; exact h.tx)) (fun k _ => rfl) (fun k hk => Nat.lt_of_lt_of_le (h.lt k hk) ht.size)
  exact ⟨⟨f.blk (by simp), f.tB, f.tf, f.tr, f.tx, ⟨f.map (by simp), fun n hn => f.file n hn (by simp) (by simp)⟩, f.replies (by simp), hr, ⟨f.slen, f.srow (by simp), f.stag, fun i s p h1 h2 => f.src i s p h1 h2 (by simp), f.kinds, f.uniq⟩, ⟨f.trow (by simp), f.ttag⟩, f.lt⟩, ht.mono fun k hk => by rw [hk]; exact hn⟩
end

end Go.Proofs.YtahblmcjocepeaaDoor.Wo
