/-
  LexLimits: a source of as many bytes as there may be has tokens (here: none but a fault of the right kind); one byte more, and it has none.
-/
import Derived.Test.YtfmdcgaffhlbhaaDoorLxAw
import Derived.Laws.OwnMore
namespace Go.Proofs.YtfmdcgaffhlbhaaDoor.Lx
open Go.RowKit

theorem and1023 (n : Int) : bits .and .i64 n 1023 = n % 1024 := by
  have h1 : (BitVec.ofInt 64 1023).toNat = 2 ^ 10 - 1 := by decide
  show IntKind.i64.wrap ((BitVec.ofInt 64 n &&& BitVec.ofInt 64 1023).toNat : Nat) = n % 1024
  rw [BitVec.toNat_and, BitVec.toNat_ofInt, h1, Nat.and_two_pow_sub_one_eq_mod, IntKind.wrap_i64]
  omega
def zerosL : List UInt8 := List.replicate 65536 0
def zerosB : ByteArray := ⟨zerosL.toArray⟩
theorem zeros_size : zerosB.size = 65536 := by
  show zerosL.toArray.size = 65536
  rw [List.size_toArray]
  exact List.length_replicate
theorem zeros_at (k : Nat) : bAt zerosB k = 0 := by
  by_cases h : k < zerosB.size
  · rw [bAt_in h]
    have e : zerosB[k] = 0 := by
      have hk : k < zerosL.length := by
        have : zerosL.length = 65536 := List.length_replicate
        rw [this, ← zeros_size]; exact h
      have e2 : zerosB[k] = zerosL[k]'hk := rfl
      exact e2.trans (List.getElem_replicate _)
    rw [e]; rfl
  · exact bAt_out h
theorem zeros_stands (k j : Nat) (h : j < signsL.length) : standsB zerosB k signsL[j] = false := by
  rw [Bool.eq_false_iff]
  intro hs
  have hl := sign_lens j h
  have h0 : ∀ t ∈ signsL, t.headD 0 ≠ 0 := by decide
  have h1 := h0 _ (List.getElem_mem h)
  unfold standsB at hs
  simp only [Bool.and_eq_true, decide_eq_true_eq, beq_iff_eq] at hs
  apply h1
  rw [← hs.2, Lib.toList_data, Lib.extract_eq]
  have hk : k < zerosB.size := by omega
  have e := zeros_at k
  rw [bAt_in hk] at e
  have e2 : zerosB[k] = 0 := byte_eq.1 e
  show ((zerosB.data.toList.drop k).take _).headD 0 = 0
  rw [drop_cons hk, show k + signsL[j].length - k = (signsL[j].length - 1) + 1 by omega, List.take_succ_cons]
  exact e2
theorem zeros_next (x : Nat) (hx : x < 1024) : nextR zerosB (x : Int) false = .tuple #[.agg #[.int .u8 0, .string ⟨#[]⟩, .int .i64 0, .int .i64 0, .int .i64 0], .agg #[.int .i64 100, .int .i64 (lineN zerosB x)]] := by
  have hz := zeros_size
  have h0 := zeros_at x
  have hp : pass zerosB x = x := pass_stay (by rw [h0]; decide) (by rw [h0]; omega) (by rw [h0]; omega)
  have hn : numE zerosB x = x := numE_other (by rw [h0]; decide) (by rw [h0]; omega)
  have hw : upTo wordI zerosB x = x := upTo_bno (by rw [h0]; decide)
  have hs : signE zerosB x = x := sign_miss (fun j h => zeros_stands x j h)
  have ht : tokR zerosB x false = (0, ⟨#[]⟩, x) := by
    unfold tokR
    rw [if_neg (by omega), if_neg (by omega), if_neg (by omega), if_neg (by omega), hn, hw, hs, if_neg (by omega), if_neg (by omega), if_neg (by omega)]
  unfold nextR
  rw [if_neg (by omega), if_neg (by omega), Int.toNat_natCast, hp, ht, if_pos rfl]
  rfl
theorem zeros_more : nextR (zerosB ++ ⟨#[97]⟩) 0 false = .tuple #[.agg #[.int .u8 0, .string ⟨#[]⟩, .int .i64 0, .int .i64 0, .int .i64 0], .agg #[.int .i64 3, .int .i64 0]] := by
  have hz : (zerosB ++ ⟨#[97]⟩ : ByteArray).size = 65537 := by
    rw [ByteArray.size_append, zeros_size]; rfl
  unfold nextR
  rw [if_pos (by omega)]
  rfl
theorem zeros_conv (w : World) (g : Nat) (hc : ∀ j, j < 65536 → w.cell? ⟨g, j, none⟩ = some (.int .u8 0)) :
    (convert 33 9 (.slice (some ⟨g, 0, none⟩) 65536 65536)).run Tryd.prog w = .ok (.string zerosB) w := by
  have hl : zerosL.length = 65536 := List.length_replicate
  have := run_convert_bytes_back (P := Tryd.prog) w 33 9 5 ⟨g, 0, none⟩ 65536 zerosL Tryd.underlying33 Tryd.underlying5 Tryd.underlying9 (fun j hj => by
    have e : (zerosL[j]'hj) = 0 := List.getElem_replicate _
    rw [e]
    have := hc j (by rw [← hl]; exact hj)
    have hp : (⟨g, 0, none⟩ : Addr).add j = ⟨g, j, none⟩ := by unfold Addr.add; split <;> simp_all
    rw [hp]
    exact this)
  rw [hl] at this
  exact this
theorem made_cells (w : World) (g : Nat) (h : w.ownsRow g 5 1 (.slice (some ⟨g, 0, none⟩) 65536 65536) 65536 (madeCells #[Value.int .u8 0] (65536 * 1)).toList) : ∀ j, j < 65536 → w.cell? ⟨g, j, none⟩ = some (.int .u8 0) := by
  intro j hj
  have e := h.cellAt (j := j) (by omega)
  rw [toList_madeCells_one, Nat.mul_one] at e
  rw [e, List.getElem?_replicate]
  rw [if_pos hj]
theorem infoByte : (Tryd.prog.info? 5).map (fun i => (i.zero, i.size, i.bytes)) = some (some (.int .u8 0), 1, 1) := by kernel_rfl
set_option maxHeartbeats 3200000 in
set_option maxRecDepth 100000 in
theorem lexLimits (n : Int) (m : Int) (w : World) (hz : 0 < w.heap.size) (hm : w.cell? ⟨0, 0, none⟩ = some (.int .i64 m)) :
    Calls Tryd.prog 4 #[.int .i64 n] w fun e w' => e = .returned (.bool true) ∧ Below w.heap.size w w' := by
  have hL := Lib.hid (Live.refl hz hm)
  obtain ⟨i0, hi, hz0, hz1, hz2⟩ := info_parts infoByte
  obtain ⟨x, hx, hxn⟩ : ∃ x : Nat, x < 1024 ∧ bits .and .i64 n 1023 = (x : Int) := ⟨(n % 1024).toNat, by omega, by rw [and1023]; omega⟩
  have HX := Lib.hid hxn
  have HZ := Lib.hid zeros_size
  have hzs : zerosB.size ≤ 65536 := by rw [zeros_size]; omega
  have HN := Lib.hid (zeros_next x hx)
  go_enter Tryd.func4, Tryd.ntmps4
  go_upto_region 2 with (at_make; refine wpList_make_full _ rfl _ _ 33 rfl w.heap.size 5 i0 (.int .u8 0) 1 Tryd.underlying33 hi hz0 hz1 .i64 .i64 65536 65536 65536 rfl rfl rfl rfl (by rw [hz2]; omega) (by unfold maxLen; omega) (by omega) ?_; intro w1 hown hgrow; have hcv := zeros_conv w1 w.heap.size (made_cells w1 w.heap.size hown))
  have hB1 : Below w.heap.size w w1 := (Below.refl _ w).grown hgrow (Nat.le_refl _) (fun _ h => by cases h)
  have HL0 := Lib.hid (hL.out.step hB1)
  have HS0 := Lib.hid (Live.refl (by have := HL0.out.b.size; omega) HL0.out.hm : Live m w1 w1)
  obtain ⟨lz, hlz⟩ : ∃ lz, lineN zerosB x = lz := ⟨_, rfl⟩
  rw [hlz] at HN
  clear hlz hown hgrow hB1
  have hza : (⟨#[97]⟩ : ByteArray).size ≤ 1 := by decide
  go_upto_region 3 with (first
    | (go_at_call 6; (with_reducible refine (next zerosB x false m w1 _ HS0.out (by omega) (by omega)).mono ?_); rintro e' u0 ⟨rfl, hLu⟩; rw [HN.out]))
  have HN0 := Lib.hid (BX.new u0 0 ⟨#[]⟩ 0 0 0 100 lz)
  have HV0 := Lib.hid (show Below u0.heap.size u0 ((u0.alloc (.cells #[.int .u8 0, .string ⟨#[]⟩, .int .i64 0, .int .i64 0, .int .i64 0] 24)).alloc (.cells #[.int .i64 100, .int .i64 lz] 27)) from ((Below.refl _ u0).alloc (Nat.le_refl _) _).alloc (by simp) _)
  generalize hVV : ((u0.alloc (.cells #[.int .u8 0, .string ⟨#[]⟩, .int .i64 0, .int .i64 0, .int .i64 0] 24)).alloc (.cells #[.int .i64 100, .int .i64 lz] 27)) = V0 at *
  clear hVV hcv
  have HL1 := Lib.hid (HL0.out.step (hLu.step HV0.out).b)
  have HS1 := Lib.hid (Live.refl (by have := HL1.out.b.size; omega) HL1.out.hm : Live m V0 V0)
  clear hLu
  go_upto_region 4 with (first
    | (go_at_call 6; (with_reducible refine (next (zerosB ++ ⟨#[97]⟩) 0 false m V0 _ HS1.out (by decide) (by rw [ByteArray.size_append, HZ.out]; omega)).mono ?_); rintro e' u1 ⟨rfl, hLu⟩; rw [zeros_more]))
  have HN1 := Lib.hid (BX.new u1 0 ⟨#[]⟩ 0 0 0 3 0)
  have HV1 := Lib.hid (show Below u1.heap.size u1 ((u1.alloc (.cells #[.int .u8 0, .string ⟨#[]⟩, .int .i64 0, .int .i64 0, .int .i64 0] 24)).alloc (.cells #[.int .i64 3, .int .i64 0] 27)) from ((Below.refl _ u1).alloc (Nat.le_refl _) _).alloc (by simp) _)
  generalize hVV : ((u1.alloc (.cells #[.int .u8 0, .string ⟨#[]⟩, .int .i64 0, .int .i64 0, .int .i64 0] 24)).alloc (.cells #[.int .i64 3, .int .i64 0] 27)) = V1 at *
  clear hVV
  have HL2 := Lib.hid (HL1.out.step (hLu.step HV1.out).b)
  have HB0 := Lib.hid (HN0.out.later (hLu.step HV1.out).b)
  clear hLu
  obtain ⟨p0, p1, p2, p3, p4, p5, p6, pz⟩ := HB0.out
  obtain ⟨q0, q1, q2, q3, q4, q5, q6, qz⟩ := HN1.out
  clear pz qz
  go_wp2_with (first
    | (go_at_call 10; (refine (awake m _ (by have := HL2.out.b.size; omega) HL2.out.hm).mono ?_); rintro e' w' ⟨rfl, hb3⟩))
  go_ret
  exact ⟨rfl, HL2.out.b.trans (hb3.mono HL2.out.b.size)⟩
end Go.Proofs.YtfmdcgaffhlbhaaDoor.Lx
