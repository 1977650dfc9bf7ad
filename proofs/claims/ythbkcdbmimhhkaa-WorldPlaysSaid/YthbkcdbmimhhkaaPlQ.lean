/-
  WorldPlays: the walk, where nothing is played.
-/
import Derived.Test.YthbkcdbmimhhkaaPlP
import Derived.Test.YthbkcdbmimhhkaaRgB
import Derived.Deep.CutRange
namespace Go.Proofs.Ythbkcdbmimhhkaa.Rw
open Go.RowKit Go.Maps Wo

structure SBox (w : World) (b : Nat) (S : Scpt) (s : Shp) : Prop where
  c0 : w.cell? ⟨b, 0, none⟩ = some (.slice s.oa S.files.length s.ca)
  c1 : w.cell? ⟨b, 1, none⟩ = some (.string S.stdin)
  c2 : w.cell? ⟨b, 2, none⟩ = some (.slice s.oR S.reps.length s.cR)
  c3 : w.cell? ⟨b, 3, none⟩ = some (.slice s.oX S.fails.length s.cX)
  c4 : w.cell? ⟨b, 4, none⟩ = some (.int .i64 S.most)
  c5 : w.cell? ⟨b, 5, none⟩ = some (.int .i64 S.clk)
  c6 : w.cell? ⟨b, 6, none⟩ = some (.int .u64 S.chance)
abbrev ScrB (w : World) (b : Nat) (S : Scpt) (s : Shp) : Prop := w.heap[b]? = some (.cells (scr7 S s) 27)
theorem sbox_of {w : World} {b : Nat} {S : Scpt} {s : Shp} (h : ScrB w b S s) : SBox w b S s := by
  refine ⟨?_, ?_, ?_, ?_, ?_, ?_, ?_⟩
  all_goals simp [World.cell?, h]
theorem blk_lt {w : World} {b : Nat} {o : Obj} (h : w.heap[b]? = some o) : b < w.heap.size := (Array.getElem?_eq_some_iff.1 h).1
set_option maxHeartbeats 4000000 in
set_option maxRecDepth 100000 in
theorem idle {K : Nat} (haw : AwakeOk K) {w : World} {S : Scpt} {s : Shp} (hK : K ≤ w.heap.size) (h : ScrAt w S s) (v : Value) (hno : ¬ (Short S ∧ OkS S)) :
    Calls Try.prog 3 #[.agg (scr7 S s), v] w fun e w' => e = .returned (.bool true) ∧ Below w.heap.size w w' := by
  have HA := Lib.hid haw
  have HW0 := Lib.hid h
  have heq := world_eq_nil
  clear haw h
  go_enter Try.func3, Try.ntmps3
  go_upto_region 1 with fail
  obtain ⟨wA, hA⟩ : ∃ wA, wA = w.alloc (.cells (scr7 S s) 27) := ⟨_, rfl⟩
  have hbA : Below w.heap.size w wA := by rw [hA]; exact (Below.refl _ w).alloc (Nat.le_refl _) _
  have hblA : ScrB wA w.heap.size S s := by rw [hA]; exact alloc_new _ _
  rw [← hA]
  have HB := Lib.hid (⟨hbA, hblA⟩ : _ ∧ _)
  obtain ⟨k0, k1, k2, k3, k4, k5, k6⟩ := sbox_of hblA
  clear hbA hA hblA
  by_cases hS : Short S
  · have ho : ¬ OkS S := fun e => hno ⟨hS, e⟩
    have HS := Lib.hid (⟨hS, ho⟩ : _ ∧ _)
    have HE := Lib.hid (shortB_yes hS)
    clear hS ho hno
    go_wp2_with (first
      | (go_at_call 7; have hh := H3.out; refine (HA.out _ (by rw [alloc_size]; have := hh.1.size; omega)).mono ?_; rintro e w4 ⟨rfl, hb4⟩; have H4 := Lib.hid ((hh.1.alloc hh.1.size _).trans (hb4.mono (by rw [alloc_size]; have := hh.1.size; omega))); clear hb4 hh)
      | (go_at_call 9; have hh := H2.out; refine (refBad (HW0.out.below hh.1) HS.out.1 HS.out.2).mono ?_; rintro e w3 ⟨rfl, hb3⟩; have hl3 := (hb3.block _ (blk_lt hh.2)).trans hh.2; have H3 := Lib.hid (⟨hh.1.trans (hb3.mono hh.1.size), hl3⟩ : _ ∧ _); clear hb3 hh k0 k1 k2 k3 k4 k5 k6; obtain ⟨k0, k1, k2, k3, k4, k5, k6⟩ := sbox_of hl3; clear hl3)
      | (go_at_call 8; have hh := H1.out; refine (progBad (HW0.out.below hh.1) HS.out.1 HS.out.2).mono ?_; rintro e w2 ⟨rfl, hb2⟩; have hl2 := (hb2.block _ (blk_lt hh.2)).trans hh.2; have H2 := Lib.hid (⟨hh.1.trans (hb2.mono hh.1.size), hl2⟩ : _ ∧ _); clear hb2 hh k0 k1 k2 k3 k4 k5 k6; obtain ⟨k0, k1, k2, k3, k4, k5, k6⟩ := sbox_of hl2; clear hl2)
      | (go_at_call 6; have hh := HB.out; refine (shortScript (HW0.out.below hh.1)).mono ?_; rintro e w1 ⟨rfl, hb1⟩; rw [HE.out]; have hl1 := (hb1.block _ (blk_lt hh.2)).trans hh.2; have H1 := Lib.hid (⟨hh.1.trans (hb1.mono hh.1.size), hl1⟩ : _ ∧ _); clear hb1 hh k0 k1 k2 k3 k4 k5 k6; obtain ⟨k0, k1, k2, k3, k4, k5, k6⟩ := sbox_of hl1; clear hl1))
    go_ret
    exact ⟨rfl, H4.out⟩
  · have HE := Lib.hid (shortB_no hS)
    clear hS hno
    go_wp2_with (first
      | (go_at_call 7; have hh := H1.out; refine (HA.out _ (Nat.le_trans hK hh.1.size)).mono ?_; rintro e w4 ⟨rfl, hb4⟩; have H4 := Lib.hid (hh.1.trans (hb4.mono hh.1.size)); clear hb4 hh)
      | (go_at_call 6; have hh := HB.out; refine (shortScript (HW0.out.below hh.1)).mono ?_; rintro e w1 ⟨rfl, hb1⟩; rw [HE.out]; have hl1 := (hb1.block _ (blk_lt hh.2)).trans hh.2; have H1 := Lib.hid (⟨hh.1.trans (hb1.mono hh.1.size), hl1⟩ : _ ∧ _); clear hb1 hh k0 k1 k2 k3 k4 k5 k6))
    go_ret
    exact ⟨rfl, H4.out⟩
end Go.Proofs.Ythbkcdbmimhhkaa.Rw
