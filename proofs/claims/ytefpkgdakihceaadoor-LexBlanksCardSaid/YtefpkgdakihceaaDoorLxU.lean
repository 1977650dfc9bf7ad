/-
  The document's own side of layer 12 (winnowerref12), fourth part: texts and patterns.
-/
import Derived.Test.YtefpkgdakihceaaDoorLxT
namespace Go.Proofs.YtefpkgdakihceaaDoor.Lx
open Go.RowKit

theorem strL_app (a b : List UInt8) : strL a ++ strL b = strL (a ++ b) := by
  apply ByteArray.ext
  unfold strL
  rw [ByteArray.data_append]
  simp
/- What the document's own 'quoted' answers. -/
def qV (s : ByteArray) (k : Nat) (q : UInt8) : Value := match qL q (s.data.toList.drop (k + 1)) with
  | some x => .tuple #[.string (strL x.1), .int .i64 ((k + 1 + x.2 : Nat))]
  | none => .tuple #[.string ⟨#[]⟩, .int .i64 (-1)]
theorem qV_some {s : ByteArray} {k : Nat} {q : UInt8} {x : List UInt8 × Nat} (h : qL q (s.data.toList.drop (k + 1)) = some x) : qV s k q = .tuple #[.string (strL x.1), .int .i64 ((k + 1 + x.2 : Nat))] := by unfold qV; rw [h]
theorem qV_none {s : ByteArray} {k : Nat} {q : UInt8} (h : qL q (s.data.toList.drop (k + 1)) = none) : qV s k q = .tuple #[.string ⟨#[]⟩, .int .i64 (-1)] := by unfold qV; rw [h]
/- What has been gone over. -/
def Over (s : ByteArray) (k : Nat) (q : UInt8) (j : Nat) (acc : List UInt8) : Prop := k + 1 ≤ j ∧ j ≤ s.size ∧ acc.length ≤ 2 * j ∧
  qL q (s.data.toList.drop (k + 1)) = (qL q (s.data.toList.drop j)).map fun x => (acc ++ x.1, x.2 + (j - (k + 1)))
theorem Over.fail {s : ByteArray} {k : Nat} {q : UInt8} {j : Nat} {acc : List UInt8} (h : Over s k q j acc) (hn : qL q (s.data.toList.drop j) = none) : qV s k q = .tuple #[.string ⟨#[]⟩, .int .i64 (-1)] :=
  qV_none (by rw [h.2.2.2, hn]; rfl)
theorem Over.done {s : ByteArray} {k : Nat} {q : UInt8} {j : Nat} {acc : List UInt8} (h : Over s k q j acc) (hn : qL q (s.data.toList.drop j) = some ([], 1)) : qV s k q = .tuple #[.string (strL acc), .int .i64 ((j : Int) + 1)] := by
  rw [qV_some (x := (acc ++ [], 1 + (j - (k + 1)))) (by rw [h.2.2.2, hn]; rfl), List.append_nil]
  have := h.1
  congr 5
  omega
theorem Over.step {s : ByteArray} {k : Nat} {q : UInt8} {j j' : Nat} {acc l : List UInt8} (h : Over s k q j acc) (hj : j ≤ j') (hs : j' ≤ s.size) (hl : l.length ≤ 2 * (j' - j)) (hn : qL q (s.data.toList.drop j) = (qL q (s.data.toList.drop j')).map fun x => (l ++ x.1, x.2 + (j' - j))) : Over s k q j' (acc ++ l) := by
  obtain ⟨h1, h2, h3, h4⟩ := h
  refine ⟨by omega, hs, by rw [List.length_append]; omega, ?_⟩
  rw [h4, hn, Option.map_map]
  congr 1
  funext x
  simp only [Function.comp, List.append_assoc, Prod.mk.injEq, true_and]
  omega
theorem Over.start (s : ByteArray) (k : Nat) (q : UInt8) (hk : k < s.size) : Over s k q (k + 1) [] :=
  ⟨Nat.le_refl _, hk, by simp, by simp⟩
set_option maxHeartbeats 6400000 in
set_option maxRecDepth 100000 in
theorem refQuoted (s : ByteArray) (k : Nat) (q : UInt8) (m : Int) (w0 w : World) (hL : Live m w0 w) (hk : k < s.size) (hq : s[k] = q) (hqv : q = 34 ∨ q = 47) (hs : s.size ≤ 65536) :
    Calls Tryd.prog 33 #[.string s, .int .i64 k] w fun e w' => e = .returned (qV s k q) ∧ Live m w0 w' := by
  have HQ := Lib.hid hq
  have hqb := q.toNat_lt
  have hkl : (k : Int) < (s.size : Int) := by omega
  have hq2 : ((s[k]).toNat : Int) = (q.toNat : Int) := by rw [hq]
  have h0 := Over.start s k q hk
  clear hq
  go_enter Tryd.func33, Tryd.ntmps33
  go_wp2_with fail
  go_loopw [1, 7] (fun i v wr => ∃ (j : Nat) (acc : List UInt8), i = .int .i64 j ∧ v = .string (strL acc) ∧ Over s k q j acc ∧ Live m w0 wr) (fun i _ _ => s.size - (intOf i).toNat)
  case atStart => exact ⟨k + 1, [], by simp, rfl, h0, hL⟩
  case round =>
    clear h0 hL
    obtain ⟨j, acc, rfl, rfl, hO, hLr⟩ := hrel
    have HO := Lib.hid hO
    have o1 := hO.1
    have o2 := hO.2.1
    have o3 := hO.2.2.1
    have hsa : (strL acc).size ≤ 131072 := by rw [strL_size]; omega
    have hse1 : (s.extract j (j + 1)).size ≤ 65536 := by rw [ByteArray.size_extract]; omega
    have hse2 : (s.extract j (j + 2)).size ≤ 65536 := by rw [ByteArray.size_extract]; omega
    clear hO
    by_cases hlt : j < s.size
    · have hcons := drop_cons hlt
      have hbd := (s[j]).toNat_lt
      have hjl : (j : Int) < (s.size : Int) := by omega
      by_cases c10 : s[j] = 10
      · have HF := Lib.hid (HO.out.fail (by rw [hcons, qL_cons, if_pos c10]))
        have b10 : ((s[j]).toNat : Int) = 10 := by rw [c10]; rfl
        have bq2 : ((10 : Int) != (q.toNat : Int)) = true := by rcases hqv with h | h <;> rw [h] <;> decide
        clear hcons c10
        go_wp2_with fail
        go_ret2
        exact ⟨by rw [HF.out]; rfl, hLr⟩
      by_cases cq : s[j] = q
      · have HF := Lib.hid (HO.out.done (by rw [hcons, qL_cons, if_neg c10, if_pos cq]))
        have bj : ((s[j]).toNat : Int) = (q.toNat : Int) := by rw [cq]
        have b10 : ((q.toNat : Int) != 10) = true := by rcases hqv with h | h <;> rw [h] <;> decide
        clear hcons c10 cq
        go_wp2_with fail
        go_ret2
        exact ⟨by rw [HF.out]; rfl, hLr⟩
      have n10 : (((s[j]).toNat : Int) != 10) = true := by
        rw [bne_iff_ne]; exact fun h => c10 (byte_eq.1 h)
      have nq : (((s[j]).toNat : Int) != (q.toNat : Int)) = true := by
        rw [bne_iff_ne]; exact fun h => cq (byte_eq.1 h)
      by_cases c92 : s[j] = 92
      · have m92 : (((s[j]).toNat : Int) != 92) = false := by rw [c92]; rfl
        by_cases hl2 : j + 1 < s.size
        · have hbd2 := (s[j + 1]).toNat_lt
          have hjl2 : (j : Int) + 1 < (s.size : Int) := by omega
          have hcons2 := drop_cons hl2
          by_cases d10 : s[j + 1] = 10
          · have HF := Lib.hid (HO.out.fail (by rw [hcons, hcons2, qL_cons, if_neg c10, if_neg cq, if_neg (by rw [c92]; decide)]; simp only [if_pos d10]))
            have e10 : (((s[j + 1]).toNat : Int) == 10) = true := by rw [d10]; rfl
            clear hcons c10 cq c92 hcons2 d10
            go_wp2_with fail
            go_ret2
            exact ⟨by rw [HF.out]; rfl, hLr⟩
          have m10 : (((s[j + 1]).toNat : Int) == 10) = false := by
            rw [beq_eq_false_iff_ne]; exact fun h => d10 (byte_eq.1 h)
          have hqc : qL q (s.data.toList.drop j) = if q = 47 then (qL q (s.data.toList.drop (j + 2))).map fun x => ((if s[j + 1] = 47 then [47] else [92, s[j + 1]]) ++ x.1, x.2 + 2)
              else (qL q ((s.data.toList.drop (j + 1)).drop (markN (s.data.toList.drop (j + 1))))).map fun x => (markS (s.data.toList.drop (j + 1)) ++ x.1, x.2 + 1 + markN (s.data.toList.drop (j + 1))) := by
            rw [hcons, hcons2, qL_cons, if_neg c10, if_neg cq, if_neg (by rw [c92]; decide)]
            simp only [if_neg d10]
          by_cases hs : q = 47
          · have q47 : ((q.toNat : Int) == 47) = true := by rw [hs]; decide
            by_cases d47 : s[j + 1] = 47
            · have HN := Lib.hid (HO.out.step (j' := j + 2) (l := [47]) (by omega) (by omega) (by simp only [List.length_cons, List.length_nil]; omega) (by rw [hqc, if_pos hs, if_pos d47]; congr 1; funext x; simp))
              have e47 : (((s[j + 1]).toNat : Int) == 47) = true := by rw [d47]; rfl
              clear hcons c10 cq c92 hcons2 d10 d47 hqc hs
              go_wp2_with fail
              go_roundw
              case rel => exact ⟨j + 2, _, by go_num, congrArg Value.string (strL_app acc [47]), HN.out, hLr⟩
              case measure => simp [intOf]; omega
            · have HN := Lib.hid (HO.out.step (j' := j + 2) (l := [92, s[j + 1]]) (by omega) (by omega) (by simp only [List.length_cons, List.length_nil]; omega) (by rw [hqc, if_pos hs, if_neg d47]; congr 1; funext x; simp))
              have e47 : (((s[j + 1]).toNat : Int) == 47) = false := by rw [beq_eq_false_iff_ne]; exact fun h => d47 (byte_eq.1 h)
              have HX := Lib.hid (show s.extract j (j + 2) = strL [92, s[j + 1]] by rw [ext_two s j hl2, c92])
              clear hcons c10 cq c92 hcons2 d10 d47 hqc hs
              go_wp2_with fail
              go_roundw
              case rel => exact ⟨j + 2, _, by go_num, by rw [HX.out, strL_app], HN.out, hLr⟩
              case measure => simp [intOf]; omega
          · have q47 : ((q.toNat : Int) == 47) = false := by rw [beq_eq_false_iff_ne]; exact fun h => hs (byte_eq.1 h)
            have hml := markS_len (s.data.toList.drop (j + 1))
            have hmp := markN_pos (s.data.toList.drop (j + 1))
            have hmn : j + 1 + markN (s.data.toList.drop (j + 1)) ≤ s.size := by
              have h1 := markN_le s[j + 1] (s.data.toList.drop (j + 1 + 1))
              rw [← hcons2, List.length_drop, ← Lib.size_eq] at h1
              omega
            have HN := Lib.hid (HO.out.step (j' := j + 1 + markN (s.data.toList.drop (j + 1))) (l := markS (s.data.toList.drop (j + 1))) (by omega) hmn (by omega) (by
              rw [hqc, if_neg hs, List.drop_drop]
              congr 1; funext x
              simp only [Prod.mk.injEq, true_and]
              omega))
            have H92 := Lib.hid c92
            generalize hms : markS (s.data.toList.drop (j + 1)) = ms at *
            generalize hmk : markN (s.data.toList.drop (j + 1)) = mk at *
            have hmz : (strL ms).size ≤ 2 := by rw [strL_size]; exact hml
            have HMS := Lib.hid hms
            have HMK := Lib.hid hmk
            clear hcons c10 cq c92 hcons2 d10 hqc hs hms hmk
            go_wp2_with (go_at_call 55; (with_reducible refine (refMark s j _ hl2 H92.out hs).mono ?_); rintro e w' ⟨rfl, hb1⟩; rw [HMS.out, HMK.out]; have hL2 := hLr.step hb1)
            go_roundw
            case rel => exact ⟨j + 1 + mk, _, by go_num, congrArg Value.string (strL_app acc ms), HN.out, hL2⟩
            case measure => simp [intOf]; omega
        · have HF := Lib.hid (HO.out.fail (by rw [hcons, drop_none hl2, qL_cons, if_neg c10, if_neg cq, if_neg (by rw [c92]; decide)]))
          have hge : (s.size : Int) ≤ (j : Int) + 1 := by omega
          clear hcons c10 cq c92
          go_wp2_with fail
          go_ret2
          exact ⟨by rw [HF.out]; rfl, hLr⟩
      · have n92 : (((s[j]).toNat : Int) != 92) = true := by
          rw [bne_iff_ne]; exact fun h => c92 (byte_eq.1 h)
        have HN := Lib.hid (HO.out.step (j' := j + 1) (l := [s[j]]) (by omega) (by omega) (by simp only [List.length_cons, List.length_nil]; omega) (by
          rw [hcons, qL_cons, if_neg c10, if_neg cq, if_pos c92]
          congr 1; funext x; simp))
        have HX := Lib.hid (ext_at s j hlt)
        clear hcons c10 cq c92
        go_wp2_with fail
        go_roundw
        case rel => exact ⟨j + 1, _, by go_num, by rw [HX.out, strL_app], HN.out, hLr⟩
        case measure => simp [intOf]; omega
    · have HF := Lib.hid (HO.out.fail (by rw [drop_none hlt, qL_nil]))
      have hge : (s.size : Int) ≤ (j : Int) := by omega
      go_wp2_with fail
      go_ret2
      exact ⟨by rw [HF.out]; rfl, hLr⟩
end Go.Proofs.YtefpkgdakihceaaDoor.Lx
