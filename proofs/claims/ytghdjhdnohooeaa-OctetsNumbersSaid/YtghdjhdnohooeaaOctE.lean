/-
  The document's own Index and Cut (package winnowerref01): they answer what octets' answer.
-/
import Derived.Test.YtghdjhdnohooeaaOctD
import Derived.Lib.IndexMore
namespace Go.Proofs.Ytghdjhdnohooeaa.Oct
open Go.RowKit

theorem occ_extract (s t : ByteArray) (k : Nat) (h : k + t.size ≤ s.size) : ((s.extract k (k + t.size)).toList == t.toList) = Lib.occAt s.data.toList t.data.toList k := by
  have hz := Lib.size_eq s
  have hzt := Lib.size_eq t
  have h2 := Lib.hasPrefix_of_take (s.data.toList.drop k) t.data.toList
  rw [Lib.extract_toList, Lib.toList_data]
  unfold Lib.occAt
  rw [decide_eq_true (by rw [List.length_drop]; omega)] at h2
  rw [show k + t.size - k = t.data.toList.length by omega]
  simpa [Lib.hasPrefix] using h2
theorem refIndex (s t : ByteArray) (w : World) (hs : s.size ≤ 100000) (ht : t.size ≤ 100000) :
    Calls Try.prog 21 #[.string s, .string t] w fun e w' => e = .returned (.int .i64 (idxI s t)) ∧ w = w' := by
  have hz := Lib.size_eq s
  have hzt := Lib.size_eq t
  by_cases h0 : t.size = 0
  · have hn : t.data.toList = [] := List.eq_nil_of_length_eq_zero (by omega)
    have e0 := Lib.hid (show (0 : Int) = idxI s t by unfold idxI; rw [if_pos hn])
    have hb : ((t.size : Int) == 0) = true := by rw [h0]; rfl
    clear hz hzt hn h0
    go_enter Try.func21, Try.ntmps21
    go_wp2_with fail
    go_ret
    exact ⟨ret_int e0.out, rfl⟩
  · have hn : t.data.toList ≠ [] := fun h => h0 (by rw [hzt, h]; rfl)
    have hi : idxI s t = Lib.index s.data.toList t.data.toList + 1 := by unfold idxI; rw [if_neg hn]
    have HI := Lib.hid hi
    have HN := Lib.hid hn
    have HZ := Lib.hid hz
    have HZT := Lib.hid hzt
    have hb : ((t.size : Int) == 0) = false := by rw [beq_eq_false_iff_ne]; omega
    have hp : 0 < t.size := by omega
    clear hi hn hz hzt h0
    go_enter Try.func21, Try.ntmps21
    go_wp2_with fail
    go_loop [5] (fun i => ∃ k : Nat, k ≤ s.size ∧ i = .int .i64 k ∧ Lib.NoOcc s.data.toList t.data.toList k) (fun i => s.size - (intOf i).toNat)
    case atStart => exact ⟨0, Nat.zero_le _, rfl, Lib.NoOcc.zero _ _⟩
    case round =>
      obtain ⟨k, hk, rfl, hno⟩ := hrel
      have HNO := Lib.hid hno
      clear hno
      by_cases hlt : k + t.size ≤ s.size
      · have hocc := occ_extract s t k hlt
        by_cases ho : Lib.occAt s.data.toList t.data.toList k = true
        · have hq : ((s.extract k (k + t.size)).toList == t.toList) = true := by rw [hocc]; exact ho
          have HO := Lib.hid ho
          clear ho hocc
          go_wp2_with fail
          go_ret
          exact ⟨ret_int (by rw [HI.out, Lib.index_hit HNO.out (by rw [← HZ.out]; omega) HO.out]), rfl⟩
        · have hf : Lib.occAt s.data.toList t.data.toList k = false := by simpa using ho
          have hq : ((s.extract k (k + t.size)).toList == t.toList) = false := by rw [hocc]; exact hf
          have HO := Lib.hid hf
          clear ho hocc hf
          go_wp2_with fail
          go_round
          case rel => exact ⟨k + 1, by omega, by go_num, HNO.out.succ HO.out⟩
          case measure => simp [intOf]; omega
      · go_wp2_with fail
        go_ret
        exact ⟨ret_int (by rw [HI.out, Lib.index_past HN.out HNO.out (by rw [← HZ.out, ← HZT.out]; omega)]; rfl), rfl⟩

theorem cutL_snoc (l : List UInt8) (f n : Int) (k : Nat) (hk : k < l.length) (h1 : f ≤ k + 1) (h3 : (k : Int) + 1 - n < f) : cutL (l.take (k + 1)) f n = cutL (l.take k) f n ++ [l[k]] := by
  unfold cutL
  rw [List.take_take, List.take_take, show min (f + n - 1).toNat (k + 1) = k + 1 by omega, show min (f + n - 1).toNat k = k by omega, List.take_succ_eq_append_getElem hk, List.drop_append_of_le_length (by rw [List.length_take]; omega)]
theorem cutL_same (l : List UInt8) (f n : Int) (k : Nat) (h : (k : Int) + 1 < f ∨ n ≤ 0 ∨ f ≤ (k : Int) + 1 - n) : cutL (l.take (k + 1)) f n = cutL (l.take k) f n := by
  unfold cutL
  rw [List.take_take, List.take_take]
  by_cases h' : f + n - 1 ≤ (k : Int)
  · rw [show min (f + n - 1).toNat (k + 1) = (f + n - 1).toNat by omega, show min (f + n - 1).toNat k = (f + n - 1).toNat by omega]
  · rw [List.drop_eq_nil_of_le (by rw [List.length_take]; omega), List.drop_eq_nil_of_le (by rw [List.length_take]; omega)]
theorem cutL_len (l : List UInt8) (f n : Int) : (cutL l f n).length ≤ l.length := by
  unfold cutL
  rw [List.length_drop, List.length_take]; omega

set_option maxHeartbeats 1600000 in
theorem refCut (s : ByteArray) (f n : Int) (w : World) (hs : s.size ≤ 100000) (hf : -9223372036854775808 ≤ f ∧ f ≤ 9223372036854775807) (hn : -9223372036854775808 ≤ n ∧ n ≤ 9223372036854775807) :
    Calls Try.prog 22 #[.string s, .int .i64 f, .int .i64 n] w fun e w' => e = .returned (.string (cutB s f n)) ∧ Below w.heap.size w w' := by
  obtain ⟨f0, f1⟩ := hf
  obtain ⟨n0, n1⟩ := hn
  go_enter Try.func22, Try.ntmps22
  go_wp2_with fail
  go_loopw [7, 8] (fun v i wr => ∃ k : Nat, k ≤ s.size ∧ i = .int .i64 (k + 1) ∧ Gathered (cutL (s.data.toList.take k) f n) w wr v) (fun _ i _ => s.size + 1 - (intOf i).toNat)
  case atStart => exact ⟨0, Nat.zero_le _, rfl, by simpa [cutL] using gathered_start w⟩
  case round =>
    obtain ⟨k, hk, rfl, hG⟩ := hrel
    by_cases hlt : k < s.size
    · have HG := Lib.hid hG
      clear hG
      have hlen : (cutL (s.data.toList.take k) f n).length ≤ 10000000 := by
        have := Lib.size_eq s
        have := cutL_len (s.data.toList.take k) f n
        rw [List.length_take] at this; omega
      have hL := Lib.hid hlen
      clear hlen
      have hbd := (s[k]).toNat_lt
      by_cases c1 : f ≤ (k : Int) + 1
      · by_cases c2 : 0 < n
        · by_cases c3 : (k : Int) + 1 - n < f
          · have hsn := Lib.hid (cutL_snoc s.data.toList f n k (by rw [← Lib.size_eq]; exact hlt) c1 c3)
            go_wp2_with (at_builtin; refine wpList_push rfl _ _ rfl s[k] rfl HG.out rfl rfl hL.out ?_; intro v' w1 hG1; have HG1 := Lib.hid hG1; clear hG1)
            go_roundw
            case rel => exact ⟨k + 1, by omega, by go_num, by rw [hsn.out]; exact HG1.out⟩
            case measure => simp [intOf]; omega
          · have hsn := Lib.hid (cutL_same s.data.toList f n k (by omega))
            go_wp2_with fail
            go_roundw
            case rel => exact ⟨k + 1, by omega, by go_num, by rw [hsn.out]; exact HG.out⟩
            case measure => simp [intOf]; omega
        · have hsn := Lib.hid (cutL_same s.data.toList f n k (by omega))
          go_wp2_with fail
          go_roundw
          case rel => exact ⟨k + 1, by omega, by go_num, by rw [hsn.out]; exact HG.out⟩
          case measure => simp [intOf]; omega
      · have hsn := Lib.hid (cutL_same s.data.toList f n k (by omega))
        go_wp2_with fail
        go_roundw
        case rel => exact ⟨k + 1, by omega, by go_num, by rw [hsn.out]; exact HG.out⟩
        case measure => simp [intOf]; omega
    · rw [List.take_of_length_le (by have := Lib.size_eq s; omega)] at hG
      have hb := Lib.hid hG.2
      have hconv := gathered_end hG
      clear hG
      go_wp2_with fail
      go_ret
      exact ⟨rfl, hb.out⟩
end Go.Proofs.Ytghdjhdnohooeaa.Oct
