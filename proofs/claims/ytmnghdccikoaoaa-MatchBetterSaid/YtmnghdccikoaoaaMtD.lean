/-
  Package match: a kid that is taken any number of times (loop).
-/
import Derived.Test.YtmnghdccikoaoaaMtC
import Derived.Laws.OwnMore
namespace Go.Proofs.Ytmnghdccikoaoaa.Mt
open Go.RowKit Go.Proofs.Ytmnghdccikoaoaa.Sh

theorem flat_setNext : ∀ (l : List St) (i : Nat) (next : Int), i < l.length → flat (setNext l i next) = (flat l).set (i * 7 + 5) (.int .i64 next)
  | [], i, _, h => by simp at h
  | s :: l, 0, next, _ => by simp [setNext, flat, St.cells]
  | s :: l, i + 1, next, h => by
    have ih := flat_setNext l i next (by simpa using h)
    simp only [setNext] at ih
    have e : (i + 1) * 7 + 5 = s.cells.length + (i * 7 + 5) := by simp [St.cells]; omega
    simp only [setNext, List.modify_succ_cons, flat]
    rw [ih, e, List.set_append_right _ _ (Nat.le_add_right _ _), Nat.add_sub_cancel_left]

theorem loop_end {w : World} {B pb g cap i : Nat} {sts : List St} (h : Bld w B pb (.slice (some ⟨g, 0, none⟩) sts.length cap) sts) (hi : i < sts.length) (next : Int) :
    Bld (w.setCell ⟨g, i * 7 + 5, none⟩ (.int .i64 next)) B pb (.slice (some ⟨g, 0, none⟩) sts.length cap) (setNext sts i next) ∧
      Grew pb w (.slice (some ⟨g, 0, none⟩) sts.length cap) (w.setCell ⟨g, i * 7 + 5, none⟩ (.int .i64 next)) (.slice (some ⟨g, 0, none⟩) sts.length cap) := by
  obtain ⟨h1, h2⟩ := h.row.stored (i * 7 + 5) (.int .i64 next)
  have hne : some pb ≠ some g := fun e => h.ne e.symm
  have hlt := cell_lt h.at_
  refine ⟨⟨(h2.cell_far ⟨pb, 0, none⟩ hlt hne).trans h.at_, (h2.frozen_far ⟨pb, 0, none⟩ hlt hne).trans h.fr, h.ge, ?_, h.ne⟩, ⟨h2.os, h2.tape, h2.output, h2.size, fun k hk _ hu => h2.block k hk fun e => hu e.symm, .inl rfl⟩⟩
  rw [setNext_length, flat_setNext _ _ _ hi]
  exact h1

set_option maxRecDepth 100000 in
theorem loop {W0 : World} {l : Nat} (ht : TreeOk W0 l) (r : Re) (cs : List Value) (n : Int) (B pb : Nat) (v : Value) (sts : List St) (next : Int) (w : World)
    (h0 : 0 ≤ n) (hn : n ≤ 10000) (hr : (rightG l r n).1 = true) (hL : Lies W0 r cs) (hW : Below W0.heap.size W0 w) (hB0 : W0.heap.size ≤ B) (hB : B ≤ w.heap.size) (hb : Bld w B pb v sts) (hlen : (layLoop (lay l r) next sts).1.length ≤ 100000) :
    Calls Try.prog 66 #[.pointer (some ⟨pb, 0, none⟩), .agg ⟨cs⟩, .int .i64 next] w
      fun e w' => e = .returned (.tuple #[.int .i64 (layLoop (lay l r) next sts).2.1, .int .i64 (layLoop (lay l r) next sts).2.2]) ∧ ∃ v', Bld w' B pb v' (layLoop (lay l r) next sts).1 ∧ Grew pb w v w' v' := by
  obtain ⟨k, s0, s1, s2, s3, a, b, kids, sl, cap, hr', rfl, _, _⟩ := hL.open
  have hp1 : sts.length + 1 ≤ 100000 := Nat.le_trans (layLoop_adds (lay_adds l r) next sts) hlen
  have hp2 : (lay l r (sts.length : Int) (sts ++ [fork 0 next])).1.length ≤ 100000 := by
    simpa only [layLoop, setNext_length] using hlen
  have HB := Lib.hid hb
  have HW := Lib.hid hW
  have HL := Lib.hid hL
  have HR := Lib.hid hr
  have HT := Lib.hid ht
  have HP := Lib.hid hp2
  clear hb hW hL hr ht hlen hr' hp2
  go_enter Try.func66, Try.ntmps66
  have hB1 : B ≤ (w.alloc (.cells ⟨[.int .u8 k, .int .u64 s0, .int .u64 s1, .int .u64 s2, .int .u64 s3, .int .i64 a, .int .i64 b, .slice sl kids.length cap]⟩ 34)).heap.size := two_size hB
  have hq : sts.length + 1 ≤ (lay l r (sts.length : Int) (sts ++ [fork 0 next])).1.length := by
    have := lay_adds l r (sts.length : Int) (sts ++ [fork 0 next]); rw [List.length_append] at this; simpa using this
  have hq' : (sts.length : Int) < ((lay l r (sts.length : Int) (sts ++ [fork 0 next])).1.length : Int) := by omega
  go_wp2_with (first
    | (go_at_call 36; refine (add B pb v sts (fork 0 next) _ (HB.out.below ((Below.refl _ _).alloc (Nat.le_refl _) _)) hB1 (by omega)).mono ?_; rintro e w2 ⟨rfl, v2, hb2, hg2⟩; have f := hg2.boxed HB.out; have f0 := f 0 _ rfl; have f1 := f 1 _ rfl; have f2 := f 2 _ rfl; have f3 := f 3 _ rfl; have f4 := f 4 _ rfl; have f5 := f 5 _ rfl; have f6 := f 6 _ rfl; have f7 := f 7 _ rfl; have HC := Lib.hid (⟨hb2, hg2⟩ : _ ∧ _); clear f hb2 hg2)
    | (go_at_call 35; refine (HT.out r _ n B pb v2 (sts ++ [fork 0 next]) _ w2 h0 hn HR.out HL.out (HW.out.trans (((Below.refl _ w).alloc (Nat.le_refl _) _).mono HW.out.size |>.trans (HC.out.2.below (HB.out.below ((Below.refl _ _).alloc (Nat.le_refl _) _)) hB0 (Nat.le_trans HW.out.size (two_size (Nat.le_refl _)))))) hB0 (Nat.le_trans hB1 HC.out.2.size) HC.out.1 HP.out).mono ?_; rintro e w3 ⟨rfl, v3, hb3, hg3⟩; obtain ⟨g3, cap3, rfl, hge3, hlt3⟩ := hb3.row.form (by omega); have c1 := hb3.at_; have c2 := hb3.row.frozenAt (sts.length * 7 + 5); have c3 := hb3.row.cellAt (sts.length * 7 + 5) (by omega); rw [List.getElem?_eq_getElem (by rw [flat_length]; omega)] at c3; have HD := Lib.hid (⟨hb3, hg3⟩ : _ ∧ _); clear hb3 hg3))
  go_ret2
  exact ⟨rfl, _, (loop_end HD.out.1 (by omega) _).1, (((Grew.of_below v ((Below.refl _ w).alloc (Nat.le_refl _) _)).trans HC.out.2).trans HD.out.2).trans (loop_end HD.out.1 (by omega) _).2⟩
end Go.Proofs.Ytmnghdccikoaoaa.Mt
