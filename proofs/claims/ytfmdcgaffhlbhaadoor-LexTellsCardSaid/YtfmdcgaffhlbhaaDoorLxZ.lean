/-
  LexTells: what Next and Line answer is what the document's own answer, for every text, place and flag.
-/
import Derived.Test.YtfmdcgaffhlbhaaDoorLxAw
namespace Go.Proofs.YtfmdcgaffhlbhaaDoor.Lx
open Go.RowKit

theorem nextR_open (s : ByteArray) (x : Int) (re : Bool) : ∃ (t1 : Int) (t2 : ByteArray) (l a e f1 f2 : Int), nextR s x re = .tuple #[.agg #[.int .u8 t1, .string t2, .int .i64 l, .int .i64 a, .int .i64 e], .agg #[.int .i64 f1, .int .i64 f2]] := by
  unfold nextR
  split
  · exact ⟨_, _, _, _, _, _, _, rfl⟩
  · split
    · exact ⟨_, _, _, _, _, _, _, rfl⟩
    · split
      · exact ⟨_, _, _, _, _, _, _, rfl⟩
      · exact ⟨_, _, _, _, _, _, _, rfl⟩
set_option maxHeartbeats 6400000 in
set_option maxRecDepth 100000 in
theorem lexTells (s : ByteArray) (x : Int) (re : Bool) (m : Int) (w : World) (hz : 0 < w.heap.size) (hm : w.cell? ⟨0, 0, none⟩ = some (.int .i64 m)) (hx : -9223372036854775808 ≤ x ∧ x ≤ 9223372036854775807) (hs : s.size ≤ 281474976710656) :
    Calls Tryd.prog 3 #[.string s, .int .i64 x, .bool re] w fun e w' => e = .returned (.bool true) ∧ Below w.heap.size w w' := by
  have hL := Live.refl hz hm
  obtain ⟨y, hy, hyc⟩ : ∃ y : ByteArray, y.size ≤ 281474976710656 ∧ ((y = s ∧ (s.size ≤ 3000 ∨ (3000 < s.size ∧ 65536 < s.size))) ∨ (y = s.extract 0 3000 ∧ 3000 < s.size ∧ s.size ≤ 65536)) := by
    by_cases c : 3000 < s.size ∧ s.size ≤ 65536
    · exact ⟨_, by rw [ByteArray.size_extract]; omega, .inr ⟨rfl, c.1, c.2⟩⟩
    · exact ⟨s, hs, .inl ⟨rfl, by omega⟩⟩
  have hyr : (y = s ∧ s.size ≤ 3000) ∨ (y = s ∧ 3000 < s.size ∧ 65536 < s.size) ∨ (y = s.extract 0 3000 ∧ 3000 < s.size ∧ s.size ≤ 65536) := by
    rcases hyc with ⟨h, h1 | h1⟩ | h
    · exact .inl ⟨h, h1⟩
    · exact .inr (.inl ⟨h, h1⟩)
    · exact .inr (.inr h)
  clear hyc
  obtain ⟨t1, t2, l, a, e, f1, f2, hN⟩ := nextR_open y x re
  have HN := Lib.hid hN
  clear hN
  rcases hyr with ⟨hys, h1⟩ | ⟨hys, h1, h2⟩ | ⟨hyq, h1, h2⟩
  all_goals
    first
    | (obtain rfl := hys; have HY := Lib.hid (rfl : y = y))
    | (have HY := Lib.hid hyq; clear hyq)
    go_enter Tryd.func3, Tryd.ntmps3
    go_upto_region 4 with (first
      | (go_at_call 6; (try rw [← HY.out]); (with_reducible refine (next y x re m w _ hL hx hy).mono ?_); rintro e' w1 ⟨rfl, hL1⟩; rw [HN.out]; have HB1 := Lib.hid (BX.new w1 t1 t2 l a e f1 f2)))
    have HV1 := Lib.hid (show Below w1.heap.size w1 ((w1.alloc (.cells #[.int .u8 t1, .string t2, .int .i64 l, .int .i64 a, .int .i64 e] 24)).alloc (.cells #[.int .i64 f1, .int .i64 f2] 27)) from ((Below.refl _ w1).alloc (Nat.le_refl _) _).alloc (by simp) _)
    generalize hV1 : ((w1.alloc (.cells #[.int .u8 t1, .string t2, .int .i64 l, .int .i64 a, .int .i64 e] 24)).alloc (.cells #[.int .i64 f1, .int .i64 f2] 27)) = V1 at *
    have HL1 := Lib.hid (hL1.step HV1.out)
    have HLV := Lib.hid (Live.refl (by have := HL1.out.b.size; omega) HL1.out.hm : Live m V1 V1)
    clear hV1 hL1 hL
    go_upto_region 5 with (first
      | (go_at_call 7; (try rw [← HY.out]); (with_reducible refine (refNext y x re m V1 _ HLV.out hx hy).mono ?_); rintro e' w2 ⟨rfl, hL2⟩; rw [HN.out]; have HB2 := Lib.hid (BX.new w2 t1 t2 l a e f1 f2)))
    have HV2 := Lib.hid (show Below w2.heap.size w2 ((w2.alloc (.cells #[.int .u8 t1, .string t2, .int .i64 l, .int .i64 a, .int .i64 e] 24)).alloc (.cells #[.int .i64 f1, .int .i64 f2] 27)) from ((Below.refl _ w2).alloc (Nat.le_refl _) _).alloc (by simp) _)
    generalize hV2 : ((w2.alloc (.cells #[.int .u8 t1, .string t2, .int .i64 l, .int .i64 a, .int .i64 e] 24)).alloc (.cells #[.int .i64 f1, .int .i64 f2] 27)) = V2 at *
    have HC1 := Lib.hid (HB1.out.later (hL2.step HV2.out).b)
    have HL2 := Lib.hid (HL1.out.step (hL2.step HV2.out).b)
    clear hV2 hL2
    obtain ⟨x0, x1, x2, x3, x4, x5, x6, xz⟩ := HC1.out
    obtain ⟨z0, z1, z2, z3, z4, z5, z6, zz⟩ := HB2.out
    clear xz zz
    go_wp2_with (first
      | (go_at_call 8; (with_reducible refine (line _ _ _ (by first | exact hy | exact hs | (rw [← HY.out]; exact hy))).mono ?_); rintro e' w' ⟨rfl, rfl⟩)
      | (go_at_call 9; (with_reducible refine (refLine _ _ _ (by first | exact hy | exact hs | (rw [← HY.out]; exact hy))).mono ?_); rintro e' w' ⟨rfl, rfl⟩)
      | (go_at_call 10; (refine (awake m _ (by have := HL2.out.b.size; omega) HL2.out.hm).mono ?_); rintro e' w' ⟨rfl, hb3⟩))
    go_ret
    exact ⟨rfl, HL2.out.b.trans (hb3.mono HL2.out.b.size)⟩
end Go.Proofs.YtfmdcgaffhlbhaaDoor.Lx
