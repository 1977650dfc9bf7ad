/-
  What a law of layer 12 asks beside: the chapter's own examples: 'awake' answers true in every world.
-/
import Derived.Test.YtefpkgdakihceaaDoorLxY
import Derived.Deep.CutRange
import Derived.KernelRfl
namespace Go.Proofs.YtefpkgdakihceaaDoor.Lx
open Go.RowKit

structure BX (n : Nat) (W : World) (t1 : Int) (t2 : ByteArray) (l a e f1 f2 : Int) : Prop where
  a0 : W.cell? ⟨n, 0, none⟩ = some (.int .u8 t1)
  a1 : W.cell? ⟨n, 1, none⟩ = some (.string t2)
  a2 : W.cell? ⟨n, 2, none⟩ = some (.int .i64 l)
  a3 : W.cell? ⟨n, 3, none⟩ = some (.int .i64 a)
  a4 : W.cell? ⟨n, 4, none⟩ = some (.int .i64 e)
  b0 : W.cell? ⟨n + 1, 0, none⟩ = some (.int .i64 f1)
  b1 : W.cell? ⟨n + 1, 1, none⟩ = some (.int .i64 f2)
  size : n + 2 ≤ W.heap.size
theorem BX.later {n : Nat} {W W' : World} {t1 : Int} {t2 : ByteArray} {l a e f1 f2 : Int} (h : BX n W t1 t2 l a e f1 f2) (hb : Below W.heap.size W W') : BX n W' t1 t2 l a e f1 f2 :=
  ⟨by rw [hb.cell (p := ⟨n, 0, none⟩) (by have := h.size; show n < _; omega)]; exact h.a0, by rw [hb.cell (p := ⟨n, 1, none⟩) (by have := h.size; show n < _; omega)]; exact h.a1, by rw [hb.cell (p := ⟨n, 2, none⟩) (by have := h.size; show n < _; omega)]; exact h.a2, by rw [hb.cell (p := ⟨n, 3, none⟩) (by have := h.size; show n < _; omega)]; exact h.a3, by rw [hb.cell (p := ⟨n, 4, none⟩) (by have := h.size; show n < _; omega)]; exact h.a4, by rw [hb.cell (p := ⟨n + 1, 0, none⟩) (by have := h.size; show n + 1 < _; omega)]; exact h.b0, by rw [hb.cell (p := ⟨n + 1, 1, none⟩) (by have := h.size; show n + 1 < _; omega)]; exact h.b1, by have := h.size; have := hb.size; omega⟩
theorem BX.new (w : World) (t1 : Int) (t2 : ByteArray) (l a e f1 f2 : Int) : BX w.heap.size ((w.alloc (.cells #[.int .u8 t1, .string t2, .int .i64 l, .int .i64 a, .int .i64 e] 24)).alloc (.cells #[.int .i64 f1, .int .i64 f2] 27)) t1 t2 l a e f1 f2 := by
  refine ⟨?_, ?_, ?_, ?_, ?_, ?_, ?_, by simp⟩
  all_goals simp [go_sem]
theorem told0 : nextR ⟨#[97, 32, 43, 61, 49, 46, 53, 101, 51, 120]⟩ 1 false = .tuple #[.agg #[.int .u8 7, .string ⟨#[43, 61]⟩, .int .i64 1, .int .i64 2, .int .i64 4], .agg #[.int .i64 0, .int .i64 0]] := by kernel_rfl
theorem told1 : nextR ⟨#[97, 32, 43, 61, 49, 46, 53, 101, 51, 120]⟩ 4 false = .tuple #[.agg #[.int .u8 1, .string ⟨#[49, 46, 53, 101, 51]⟩, .int .i64 1, .int .i64 4, .int .i64 9], .agg #[.int .i64 0, .int .i64 0]] := by kernel_rfl
theorem told2 : nextR ⟨#[102, 40]⟩ 0 false = .tuple #[.agg #[.int .u8 5, .string ⟨#[102]⟩, .int .i64 1, .int .i64 0, .int .i64 1], .agg #[.int .i64 0, .int .i64 0]] := by kernel_rfl
theorem told3 : nextR ⟨#[47, 97, 92, 47, 98, 47]⟩ 0 true = .tuple #[.agg #[.int .u8 3, .string ⟨#[97, 47, 98]⟩, .int .i64 1, .int .i64 0, .int .i64 6], .agg #[.int .i64 0, .int .i64 0]] := by kernel_rfl
theorem told4 : nextR ⟨#[34, 97, 92, 110, 92, 49, 48, 49, 34]⟩ 0 false = .tuple #[.agg #[.int .u8 2, .string ⟨#[97, 10, 65]⟩, .int .i64 1, .int .i64 0, .int .i64 9], .agg #[.int .i64 0, .int .i64 0]] := by kernel_rfl
theorem told5 : nextR ⟨#[10, 34, 97]⟩ 1 false = .tuple #[.agg #[.int .u8 0, .string ⟨#[]⟩, .int .i64 0, .int .i64 0, .int .i64 0], .agg #[.int .i64 100, .int .i64 2]] := by kernel_rfl
set_option maxHeartbeats 6400000 in
set_option maxRecDepth 100000 in
theorem awake (m : Int) (w : World) (hz : 0 < w.heap.size) (hm : w.cell? ⟨0, 0, none⟩ = some (.int .i64 m)) :
    Calls Tryd.prog 10 #[] w fun e w' => e = .returned (.bool true) ∧ Below w.heap.size w w' := by
  have HL0 := Lib.hid (Live.refl hz hm)
  have HS0 := HL0
  go_enter Tryd.func10, Tryd.ntmps10
  go_upto_region 2 with (first
    | (go_at_call 6; (with_reducible refine (next ⟨#[97, 32, 43, 61, 49, 46, 53, 101, 51, 120]⟩ 1 false m w _ HS0.out (by decide) (by decide)).mono ?_); rintro e' u0 ⟨rfl, hLu⟩; rw [told0]))
  have HN0 := Lib.hid (BX.new u0 7 ⟨#[43, 61]⟩ 1 2 4 0 0)
  have HV0 := Lib.hid (show Below u0.heap.size u0 ((u0.alloc (.cells #[.int .u8 7, .string ⟨#[43, 61]⟩, .int .i64 1, .int .i64 2, .int .i64 4] 24)).alloc (.cells #[.int .i64 0, .int .i64 0] 27)) from ((Below.refl _ u0).alloc (Nat.le_refl _) _).alloc (by simp) _)
  generalize hVV : ((u0.alloc (.cells #[.int .u8 7, .string ⟨#[43, 61]⟩, .int .i64 1, .int .i64 2, .int .i64 4] 24)).alloc (.cells #[.int .i64 0, .int .i64 0] 27)) = V0 at *
  clear hVV
  have HL1 := Lib.hid (HL0.out.step (hLu.step HV0.out).b)
  have HB0_0 := HN0
  have HS1 := Lib.hid (Live.refl (by have := HL1.out.b.size; omega) HL1.out.hm : Live m V0 V0)
  clear hLu
  go_upto_region 3 with (first
    | (go_at_call 6; (with_reducible refine (next ⟨#[97, 32, 43, 61, 49, 46, 53, 101, 51, 120]⟩ 4 false m V0 _ HS1.out (by decide) (by decide)).mono ?_); rintro e' u1 ⟨rfl, hLu⟩; rw [told1]))
  have HN1 := Lib.hid (BX.new u1 1 ⟨#[49, 46, 53, 101, 51]⟩ 1 4 9 0 0)
  have HV1 := Lib.hid (show Below u1.heap.size u1 ((u1.alloc (.cells #[.int .u8 1, .string ⟨#[49, 46, 53, 101, 51]⟩, .int .i64 1, .int .i64 4, .int .i64 9] 24)).alloc (.cells #[.int .i64 0, .int .i64 0] 27)) from ((Below.refl _ u1).alloc (Nat.le_refl _) _).alloc (by simp) _)
  generalize hVV : ((u1.alloc (.cells #[.int .u8 1, .string ⟨#[49, 46, 53, 101, 51]⟩, .int .i64 1, .int .i64 4, .int .i64 9] 24)).alloc (.cells #[.int .i64 0, .int .i64 0] 27)) = V1 at *
  clear hVV
  have HL2 := Lib.hid (HL1.out.step (hLu.step HV1.out).b)
  have HB0_1 := Lib.hid (HB0_0.out.later (hLu.step HV1.out).b)
  have HB1_1 := HN1
  have HS2 := Lib.hid (Live.refl (by have := HL2.out.b.size; omega) HL2.out.hm : Live m V1 V1)
  clear hLu
  go_upto_region 4 with (first
    | (go_at_call 6; (with_reducible refine (next ⟨#[102, 40]⟩ 0 false m V1 _ HS2.out (by decide) (by decide)).mono ?_); rintro e' u2 ⟨rfl, hLu⟩; rw [told2]))
  have HN2 := Lib.hid (BX.new u2 5 ⟨#[102]⟩ 1 0 1 0 0)
  have HV2 := Lib.hid (show Below u2.heap.size u2 ((u2.alloc (.cells #[.int .u8 5, .string ⟨#[102]⟩, .int .i64 1, .int .i64 0, .int .i64 1] 24)).alloc (.cells #[.int .i64 0, .int .i64 0] 27)) from ((Below.refl _ u2).alloc (Nat.le_refl _) _).alloc (by simp) _)
  generalize hVV : ((u2.alloc (.cells #[.int .u8 5, .string ⟨#[102]⟩, .int .i64 1, .int .i64 0, .int .i64 1] 24)).alloc (.cells #[.int .i64 0, .int .i64 0] 27)) = V2 at *
  clear hVV
  have HL3 := Lib.hid (HL2.out.step (hLu.step HV2.out).b)
  have HB0_2 := Lib.hid (HB0_1.out.later (hLu.step HV2.out).b)
  have HB1_2 := Lib.hid (HB1_1.out.later (hLu.step HV2.out).b)
  have HB2_2 := HN2
  have HS3 := Lib.hid (Live.refl (by have := HL3.out.b.size; omega) HL3.out.hm : Live m V2 V2)
  clear hLu
  go_upto_region 5 with (first
    | (go_at_call 6; (with_reducible refine (next ⟨#[47, 97, 92, 47, 98, 47]⟩ 0 true m V2 _ HS3.out (by decide) (by decide)).mono ?_); rintro e' u3 ⟨rfl, hLu⟩; rw [told3]))
  have HN3 := Lib.hid (BX.new u3 3 ⟨#[97, 47, 98]⟩ 1 0 6 0 0)
  have HV3 := Lib.hid (show Below u3.heap.size u3 ((u3.alloc (.cells #[.int .u8 3, .string ⟨#[97, 47, 98]⟩, .int .i64 1, .int .i64 0, .int .i64 6] 24)).alloc (.cells #[.int .i64 0, .int .i64 0] 27)) from ((Below.refl _ u3).alloc (Nat.le_refl _) _).alloc (by simp) _)
  generalize hVV : ((u3.alloc (.cells #[.int .u8 3, .string ⟨#[97, 47, 98]⟩, .int .i64 1, .int .i64 0, .int .i64 6] 24)).alloc (.cells #[.int .i64 0, .int .i64 0] 27)) = V3 at *
  clear hVV
  have HL4 := Lib.hid (HL3.out.step (hLu.step HV3.out).b)
  have HB0_3 := Lib.hid (HB0_2.out.later (hLu.step HV3.out).b)
  have HB1_3 := Lib.hid (HB1_2.out.later (hLu.step HV3.out).b)
  have HB2_3 := Lib.hid (HB2_2.out.later (hLu.step HV3.out).b)
  have HB3_3 := HN3
  have HS4 := Lib.hid (Live.refl (by have := HL4.out.b.size; omega) HL4.out.hm : Live m V3 V3)
  clear hLu
  go_upto_region 6 with (first
    | (go_at_call 6; (with_reducible refine (next ⟨#[34, 97, 92, 110, 92, 49, 48, 49, 34]⟩ 0 false m V3 _ HS4.out (by decide) (by decide)).mono ?_); rintro e' u4 ⟨rfl, hLu⟩; rw [told4]))
  have HN4 := Lib.hid (BX.new u4 2 ⟨#[97, 10, 65]⟩ 1 0 9 0 0)
  have HV4 := Lib.hid (show Below u4.heap.size u4 ((u4.alloc (.cells #[.int .u8 2, .string ⟨#[97, 10, 65]⟩, .int .i64 1, .int .i64 0, .int .i64 9] 24)).alloc (.cells #[.int .i64 0, .int .i64 0] 27)) from ((Below.refl _ u4).alloc (Nat.le_refl _) _).alloc (by simp) _)
  generalize hVV : ((u4.alloc (.cells #[.int .u8 2, .string ⟨#[97, 10, 65]⟩, .int .i64 1, .int .i64 0, .int .i64 9] 24)).alloc (.cells #[.int .i64 0, .int .i64 0] 27)) = V4 at *
  clear hVV
  have HL5 := Lib.hid (HL4.out.step (hLu.step HV4.out).b)
  have HB0_4 := Lib.hid (HB0_3.out.later (hLu.step HV4.out).b)
  have HB1_4 := Lib.hid (HB1_3.out.later (hLu.step HV4.out).b)
  have HB2_4 := Lib.hid (HB2_3.out.later (hLu.step HV4.out).b)
  have HB3_4 := Lib.hid (HB3_3.out.later (hLu.step HV4.out).b)
  have HB4_4 := HN4
  have HS5 := Lib.hid (Live.refl (by have := HL5.out.b.size; omega) HL5.out.hm : Live m V4 V4)
  clear hLu
  go_upto_region 7 with (first
    | (go_at_call 6; (with_reducible refine (next ⟨#[10, 34, 97]⟩ 1 false m V4 _ HS5.out (by decide) (by decide)).mono ?_); rintro e' u5 ⟨rfl, hLu⟩; rw [told5]))
  have HN5 := Lib.hid (BX.new u5 0 ⟨#[]⟩ 0 0 0 100 2)
  have HV5 := Lib.hid (show Below u5.heap.size u5 ((u5.alloc (.cells #[.int .u8 0, .string ⟨#[]⟩, .int .i64 0, .int .i64 0, .int .i64 0] 24)).alloc (.cells #[.int .i64 100, .int .i64 2] 27)) from ((Below.refl _ u5).alloc (Nat.le_refl _) _).alloc (by simp) _)
  generalize hVV : ((u5.alloc (.cells #[.int .u8 0, .string ⟨#[]⟩, .int .i64 0, .int .i64 0, .int .i64 0] 24)).alloc (.cells #[.int .i64 100, .int .i64 2] 27)) = V5 at *
  clear hVV
  have HL6 := Lib.hid (HL5.out.step (hLu.step HV5.out).b)
  have HB0_5 := Lib.hid (HB0_4.out.later (hLu.step HV5.out).b)
  have HB1_5 := Lib.hid (HB1_4.out.later (hLu.step HV5.out).b)
  have HB2_5 := Lib.hid (HB2_4.out.later (hLu.step HV5.out).b)
  have HB3_5 := Lib.hid (HB3_4.out.later (hLu.step HV5.out).b)
  have HB4_5 := Lib.hid (HB4_4.out.later (hLu.step HV5.out).b)
  have HB5_5 := HN5
  have HS6 := Lib.hid (Live.refl (by have := HL6.out.b.size; omega) HL6.out.hm : Live m V5 V5)
  clear hLu
  obtain ⟨p0a0, p0a1, p0a2, p0a3, p0a4, p0b0, p0b1, pz0⟩ := HB0_5.out
  clear pz0
  obtain ⟨p1a0, p1a1, p1a2, p1a3, p1a4, p1b0, p1b1, pz1⟩ := HB1_5.out
  clear pz1
  obtain ⟨p2a0, p2a1, p2a2, p2a3, p2a4, p2b0, p2b1, pz2⟩ := HB2_5.out
  clear pz2
  obtain ⟨p3a0, p3a1, p3a2, p3a3, p3a4, p3b0, p3b1, pz3⟩ := HB3_5.out
  clear pz3
  obtain ⟨p4a0, p4a1, p4a2, p4a3, p4a4, p4b0, p4b1, pz4⟩ := HB4_5.out
  clear pz4
  obtain ⟨p5a0, p5a1, p5a2, p5a3, p5a4, p5b0, p5b1, pz5⟩ := HB5_5.out
  clear pz5
  go_wp2_with fail
  go_ret
  exact ⟨rfl, HL6.out.b⟩
end Go.Proofs.YtefpkgdakihceaaDoor.Lx
