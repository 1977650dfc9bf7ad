/-
  Package match: the states that a builder lays: add.
-/
import Derived.Test.YtmnghdccikoaoaaMtA
import Derived.Deep.AppendLies
import Derived.Deep.RegionLaw
namespace Go.Proofs.Ytmnghdccikoaoaa.Mt
open Go.RowKit Go.Proofs.Ytmnghdccikoaoaa.Sh

structure St where
  act : Int
  s0 : Int
  s1 : Int
  s2 : Int
  s3 : Int
  next : Int
  other : Int
def St.cells (s : St) : List Value := [.int .u8 s.act, .int .u64 s.s0, .int .u64 s.s1, .int .u64 s.s2, .int .u64 s.s3, .int .i64 s.next, .int .i64 s.other]
def flat : List St → List Value
  | [] => []
  | s :: l => s.cells ++ flat l
theorem flat_length : ∀ l : List St, (flat l).length = l.length * 7
  | [] => rfl
  | s :: l => by simp [flat, flat_length l, St.cells]; omega
theorem flat_append : ∀ l r : List St, flat (l ++ r) = flat l ++ flat r
  | [], r => rfl
  | s :: l, r => by simp [flat, flat_append l r]

structure Bld (w : World) (B pb : Nat) (v : Value) (sts : List St) : Prop where
  at_ : w.cell? ⟨pb, 0, none⟩ = some v
  fr : w.frozen? ⟨pb, 0, none⟩ = false
  ge : B ≤ pb
  row : w.ownsRow B 81 7 v sts.length (flat sts)
  ne : v.ownBlock ≠ some pb
/- What a builder's call may turn: its cell, and the row that its states lie in. -/
structure Grew (pb : Nat) (w : World) (v : Value) (w' : World) (v' : Value) : Prop where
  os : w'.os = w.os
  tape : w'.tape = w.tape
  output : w'.output = w.output
  size : w.heap.size ≤ w'.heap.size
  block : ∀ k, k < w.heap.size → k ≠ pb → v.ownBlock ≠ some k → w'.heap[k]? = w.heap[k]?
  own : v'.ownBlock = v.ownBlock ∨ ∃ g, w.heap.size ≤ g ∧ v'.ownBlock = some g
theorem Grew.refl (pb : Nat) (w : World) (v : Value) : Grew pb w v w v := ⟨rfl, rfl, rfl, Nat.le_refl _, fun _ _ _ _ => rfl, .inl rfl⟩
theorem Grew.trans {pb : Nat} {a b c : World} {u v x : Value} (h : Grew pb a u b v) (k : Grew pb b v c x) : Grew pb a u c x := by
  refine ⟨k.os.trans h.os, k.tape.trans h.tape, k.output.trans h.output, Nat.le_trans h.size k.size, fun i hi hn hu => ?_, ?_⟩
  · refine (k.block i (Nat.lt_of_lt_of_le hi h.size) hn ?_).trans (h.block i hi hn hu)
    rcases h.own with e | ⟨g, hg, e⟩
    · rw [e]; exact hu
    · rw [e]; intro e2; cases e2; omega
  · rcases k.own with e | ⟨g, hg, e⟩
    · rw [e]; exact h.own
    · exact .inr ⟨g, Nat.le_trans h.size hg, e⟩
theorem Grew.of_below {pb : Nat} {a b : World} (v : Value) (h : Below a.heap.size a b) : Grew pb a v b v := ⟨h.os, h.tape, h.output, h.size, fun k hk _ _ => h.block k hk, .inl rfl⟩
theorem Bld.below {w w' : World} {B pb : Nat} {v : Value} {sts : List St} (h : Bld w B pb v sts) (hb : Below w.heap.size w w') : Bld w' B pb v sts := by
  have hlt := cell_lt h.at_
  refine ⟨(hb.cell (p := ⟨pb, 0, none⟩) hlt).trans h.at_, (hb.frozen (p := ⟨pb, 0, none⟩) hlt).trans h.fr, h.ge, h.row.kept (row := none) ⟨hb.os, hb.tape, hb.output, hb.size, fun k hk _ => hb.block k hk⟩ ?_, h.ne⟩
  cases h2 : v.ownBlock
  · exact .inl rfl
  · exact .inr (by simp)
theorem state_info : ∃ i z, Try.prog.info? 81 = some i ∧ i.zero = some z ∧ i.size = 7 ∧ i.bytes = 56 ∧ z.cells.size = 7 := by
  have h : (Try.prog.info? 81).map (fun i => (i.zero.map (·.cells.size), i.size, i.bytes)) = some (some 7, 7, 56) := by kernel_rfl
  cases hi : Try.prog.info? 81 with
  | none => rw [hi] at h; cases h
  | some i =>
    rw [hi] at h
    simp only [Option.map_some, Option.some.injEq, Prod.mk.injEq] at h
    cases hz : i.zero with
    | none => rw [hz] at h; cases h.1
    | some z => rw [hz] at h; exact ⟨i, z, rfl, hz, h.2.1, h.2.2, by simpa using h.1⟩

theorem St.one (s : St) : ∀ u ∈ s.cells, u.oneCell' = true := by
  intro u hu
  simp only [St.cells, List.mem_cons, List.not_mem_nil, or_false] at hu
  rcases hu with rfl | rfl | rfl | rfl | rfl | rfl | rfl <;> rfl
theorem second_new (w : World) (o : Obj) (cs : Array Value) (t : TypeId) : ((w.alloc o).drew.alloc (.cells cs t)).heap[w.heap.size + 1]? = some (.cells cs t) := by
  have h := heap_alloc_new (w.alloc o) (.cells cs t)
  rw [alloc_size] at h
  exact h
theorem after_app {w W w' : World} {B pb : Nat} {v : Value} {sts : List St} (h : Bld w B pb v sts) (hb : Below w.heap.size w W) (hg : W.grownBy w' v.ownBlock) : w'.cell? ⟨pb, 0, none⟩ = some v ∧ w'.frozen? ⟨pb, 0, none⟩ = false := by
  have h2 := h.below hb
  have hlt := cell_lt h2.at_
  exact ⟨(hg.cell_far ⟨pb, 0, none⟩ hlt fun e => h.ne e.symm).trans h2.at_, (hg.frozen_far ⟨pb, 0, none⟩ hlt fun e => h.ne e.symm).trans h2.fr⟩

theorem add_end {w W w' : World} {B pb g cap : Nat} {v : Value} {sts : List St} {s : St} (h : Bld w B pb v sts) (hb : Below w.heap.size w W) (hown : w'.ownsRow B 81 7 (.slice (some ⟨g, 0, none⟩) (sts.length + 1) cap) (sts.length + 1) (flat sts ++ s.cells))
    (hg : W.grownBy w' v.ownBlock) (hat : v.ownBlock = some g ∨ g = W.heap.size) :
    Bld (w'.setCell ⟨pb, 0, none⟩ (.slice (some ⟨g, 0, none⟩) (sts.length + 1) cap)) B pb (.slice (some ⟨g, 0, none⟩) (sts.length + 1) cap) (sts ++ [s]) ∧
      Grew pb w v (w'.setCell ⟨pb, 0, none⟩ (.slice (some ⟨g, 0, none⟩) (sts.length + 1) cap)) (.slice (some ⟨g, 0, none⟩) (sts.length + 1) cap) := by
  obtain ⟨q1, q2⟩ := after_app h hb hg
  have hpl := cell_lt h.at_
  have hpl : pb < w.heap.size := hpl
  have hne : (Value.slice (some ⟨g, 0, none⟩) (sts.length + 1) cap).ownBlock ≠ some pb := by
    rcases hat with e | e
    · intro e2; exact h.ne (e.trans e2)
    · intro e2
      have : g = pb := by simpa [Value.ownBlock] using e2
      have := hb.size
      omega
  have hset : ∀ (u : Value), w'.grownBy (w'.setCell ⟨pb, 0, none⟩ u) (some pb) := fun u => ⟨rfl, rfl, rfl, by simp [World.setCell], fun k _ hn => Below.heap_setCell w' ⟨pb, 0, none⟩ u k fun e => hn (by rw [e])⟩
  refine ⟨⟨World.cell?_setCell_same' w' _ _ (by rw [q1]; rfl), by rw [World.frozen?_setCell]; exact q2, h.ge, ?_, hne⟩, ⟨hg.os.trans hb.os, hg.tape.trans hb.tape, hg.output.trans hb.output, ?_, fun k hk hn hu => ?_, ?_⟩⟩
  · have e : flat (sts ++ [s]) = flat sts ++ s.cells := by rw [flat_append]; simp [flat]
    rw [e, List.length_append]
    exact hown.kept (hset _) (.inr hne)
  · exact Nat.le_trans hb.size (Nat.le_trans hg.size (hset _).size)
  · rw [Below.heap_setCell w' ⟨pb, 0, none⟩ _ k hn, hg.block k (Nat.lt_of_lt_of_le hk hb.size) (fun e => hu e.symm), hb.block k hk]
  · rcases hat with e | e
    · exact .inl e.symm
    · exact .inr ⟨g, by rw [e]; exact hb.size, rfl⟩

set_option maxRecDepth 100000 in
theorem add (B pb : Nat) (v : Value) (sts : List St) (s : St) (w : World) (h : Bld w B pb v sts) (hB : B ≤ w.heap.size) (hl : sts.length ≤ 100000) :
    Calls Try.prog 36 #[.pointer (some ⟨pb, 0, none⟩), .agg ⟨s.cells⟩] w
      fun e w' => e = .returned (.int .i64 sts.length) ∧ ∃ v', Bld w' B pb v' (sts ++ [s]) ∧ Grew pb w v w' v' := by
  obtain ⟨i, z, hi, hz, hs, hby, hzs⟩ := state_info
  have hpl := cell_lt h.at_
  have c0 := h.at_
  have c1 := h.fr
  have HH := Lib.hid h
  have HZ := Lib.hid (⟨hi, hz, hs, hby, hzs⟩ : _ ∧ _ ∧ _ ∧ _ ∧ _)
  clear h hi hz hs hby hzs
  unfold St.cells
  go_enter Try.func36, Try.ntmps36
  go_wp2_with fail
  go_region_law (refine step_append_lies _ rfl (.tmp 9) (.tmp 11) 48 rfl B 81 i z 7 56 Try.underlying48 HZ.out.1 HZ.out.2.1 HZ.out.2.2.1 HZ.out.2.2.2.1 HZ.out.2.2.2.2 (by decide) v sts.length (flat sts) (by simp [Act.eval]) (((HH.out.row.alloc _).drew).alloc _) ⟨w.heap.size + 1, 0, none⟩ 1 1 s.cells (by simp [Act.eval]) rfl (World.news_of_block (second_new w _ _ _)) s.one (by decide) (by unfold maxLen; omega) (by omega) (two_size (two_size hB)) _ rfl ?_; intro g cap w' hown hgrow hat hlt; obtain ⟨q1, q2⟩ := after_app HH.out ((((Below.refl _ w).alloc (Nat.le_refl _) _).drew).alloc (two_size (Nat.le_refl _)) _) hgrow; have HO := Lib.hid (⟨hown, hgrow, hat, hlt⟩ : _ ∧ _ ∧ _ ∧ _); clear hown hgrow hat hlt)
  all_goals go_wp2_with fail
  all_goals go_ret
  all_goals exact ⟨rfl, _, add_end HH.out ((((Below.refl _ w).alloc (Nat.le_refl _) _).alloc (two_size (Nat.le_refl _)) _).drew) HO.out.1 HO.out.2.1 HO.out.2.2.1⟩
end Go.Proofs.Ytmnghdccikoaoaa.Mt
