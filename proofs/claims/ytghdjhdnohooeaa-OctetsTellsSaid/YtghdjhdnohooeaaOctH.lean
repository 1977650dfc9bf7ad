/-
  OctetsParts, walked: it answers true.
-/
import Derived.Test.YtghdjhdnohooeaaOctG
namespace Go.Proofs.Ytghdjhdnohooeaa.Oct
open Go.RowKit

theorem cutB_size (s : ByteArray) (f n : Int) : (cutB s f n).size ≤ s.size := by
  have := cutL_len s.data.toList f n
  have h := Lib.size_eq s
  have h2 : (cutB s f n).size = (cutL s.data.toList f n).length := by unfold cutB; simp [ByteArray.size]
  omega
theorem cut_join (s : ByteArray) (f m : Int) (hf : 0 ≤ f) (hm : 0 ≤ m) : cutB s f m ++ cutB s (f + m) (s.size + 3) = cutB s f (m + s.size + 3) := by
  have h := Lib.size_eq s
  apply ByteArray.ext
  unfold cutB cutL
  rw [ByteArray.data_append]
  simp only [List.append_toArray]
  congr 1
  rw [List.drop_take, List.drop_take, List.drop_take]
  generalize s.data.toList = l at *
  rw [List.take_of_length_le (l := l.drop (f + m - 1).toNat) (by rw [List.length_drop]; omega), List.take_of_length_le (l := l.drop (f - 1).toNat) (i := (f + (m + ↑s.size + 3) - 1).toNat - (f - 1).toNat) (by rw [List.length_drop]; omega)]
  have e : l.drop (f + m - 1).toNat = (l.drop (f - 1).toNat).drop ((f + m - 1).toNat - (f - 1).toNat) := by
    rw [List.drop_drop]; congr 1; omega
  rw [e, List.take_append_drop]

theorem cut_occ (s t : ByteArray) (k : Nat) : ((cutB s ((k : Int) + 1) t.size).toList == t.toList) = Lib.occAt s.data.toList t.data.toList k := by
  have hz := Lib.size_eq t
  rw [Lib.toList_data, Lib.toList_data]
  unfold cutB cutL Lib.occAt
  rw [show ((k : Int) + 1 + t.size - 1).toNat = k + t.data.toList.length by omega, show ((k : Int) + 1 - 1).toNat = k by omega, List.drop_take, show k + t.data.toList.length - k = t.data.toList.length by omega]
  rw [Bool.eq_iff_iff, List.isPrefixOf_iff_prefix, List.prefix_iff_eq_take]
  simp
  exact ⟨fun h => h.symm, fun h => h.symm⟩
theorem idx_spec (s t : ByteArray) : (t.size = 0 ∧ idxI s t = 0) ∨ (0 < t.size ∧ idxI s t = 0 ∧ ∀ j, j ≤ s.size → ((cutB s ((j : Int) + 1) t.size).toList == t.toList) = false) ∨
    (∃ i : Nat, 0 < t.size ∧ idxI s t = (i : Int) + 1 ∧ i < s.size ∧ cutB s ((i : Int) + 1) t.size = t ∧ ∀ j, j < i → ((cutB s ((j : Int) + 1) t.size).toList == t.toList) = false) := by
  have hz := Lib.size_eq s
  have hzt := Lib.size_eq t
  by_cases h0 : t.data.toList = []
  · refine .inl ⟨by rw [hzt, h0]; rfl, ?_⟩
    unfold idxI; rw [if_pos h0]
  · have hp : 0 < t.size := by
      rcases Nat.eq_zero_or_pos t.size with h | h
      · exact absurd (List.eq_nil_of_length_eq_zero (by omega)) h0
      · exact h
    have hi : idxI s t = Lib.index s.data.toList t.data.toList + 1 := by unfold idxI; rw [if_neg h0]
    rcases Lib.index_spec s.data.toList t.data.toList with ⟨h1, h2⟩ | ⟨i, h1, h2, h3, h4⟩
    · exact .inr (.inl ⟨hp, by rw [hi, h1]; rfl, fun j hj => by rw [cut_occ]; exact h2 j (by omega)⟩)
    · have hr := Lib.index_room s.data.toList t.data.toList (by rw [h1]; omega)
      rw [h1] at hr
      refine .inr (.inr ⟨i, hp, by rw [hi, h1], by omega, ?_, fun j hj => by rw [cut_occ]; exact h4 j hj⟩)
      have h5 := cut_occ s t i
      rw [h3] at h5
      have h6 : (cutB s ((i : Int) + 1) t.size).toList = t.toList := by simpa using h5
      rw [Lib.toList_data, Lib.toList_data] at h6
      apply ByteArray.ext
      apply Array.ext'
      exact h6

theorem mapB_size (g : UInt8 → UInt8) (s : ByteArray) : (mapB g s).size = s.size := by
  show (s.data.toList.map g).toArray.size = s.size
  rw [List.size_toArray, List.length_map, ← Lib.size_eq]
theorem mapB_append (g : UInt8 → UInt8) (s t : ByteArray) : mapB g s ++ mapB g t = mapB g (s ++ t) := by
  apply ByteArray.ext
  unfold mapB
  rw [ByteArray.data_append, ByteArray.data_append]
  simp
theorem mapB_mapB (g h k : UInt8 → UInt8) (e : ∀ b, g (h b) = k b) (s : ByteArray) : mapB g (mapB h s) = mapB k s := by
  unfold mapB
  have h2 : List.map (g ∘ h) s.data.toList = List.map k s.data.toList := List.map_congr_left (fun b _ => e b)
  simp only [List.map_map, h2]
theorem byte_of_toNat {a b : UInt8} (h : (a.toNat : Int) = b.toNat) : a = b := UInt8.toNat_inj.1 (by omega)
theorem low_up (b : UInt8) : lowByte (upByte b) = lowByte b := by
  apply byte_of_toNat
  rw [toNat_lowByte, toNat_lowByte, toNat_upByte]
  unfold lowI upI; repeat' split
  all_goals omega
theorem up_low (b : UInt8) : upByte (lowByte b) = upByte b := by
  apply byte_of_toNat
  rw [toNat_upByte, toNat_upByte, toNat_lowByte]
  unfold lowI upI; repeat' split
  all_goals omega

/- What the last region asks of Lower and Upper. -/
theorem tail_facts (s t : ByteArray) : lowB (upB s) = lowB s ∧ upB (lowB s) = upB s ∧ (lowB s).size = s.size ∧ (upB s).size = s.size ∧ (lowB t).size = t.size ∧ lowB s ++ lowB t = lowB (s ++ t) ∧ (s ++ t).size = s.size + t.size :=
  ⟨mapB_mapB _ _ _ low_up s, mapB_mapB _ _ _ up_low s, mapB_size _ _, mapB_size _ _, mapB_size _ _, mapB_append _ _ _, ByteArray.size_append⟩

set_option maxHeartbeats 4000000 in
theorem parts_nil (s t : ByteArray) (f0 m0 : Int) (w0 w : World) (hL : Live w0 w) (hs : s.size ≤ 5000) (ht : t.size ≤ 5000) (hf : -9223372036854775808 ≤ f0 ∧ f0 ≤ 9223372036854775807) (hn : -9223372036854775808 ≤ m0 ∧ m0 ≤ 9223372036854775807)
    (h0 : t.size = 0) (hi : idxI s t = 0) :
    Calls Try.prog 5 #[.string s, .string t, .int .i64 f0, .int .i64 m0] w fun e w' => e = .returned (.bool true) ∧ Live w0 w' := by
  have hb : ((t.size : Int) == 0) = true := by rw [h0]; rfl
  have hle : t.size ≤ 0 := by omega
  clear h0
  obtain ⟨F1, F2, F3, F4, F5, F6, F7⟩ := tail_facts s t
  go_enter Try.func5, Try.ntmps5
  go_wp2_with fail
  refine (pick _ _ _ hf (by omega) (by omega)).mono ?_
  rintro e w' ⟨⟨f, hf0, hf1, rfl⟩, rfl⟩
  go_wp2_with fail
  refine (pick _ _ _ hn (by omega) (by omega)).mono ?_
  rintro e w' ⟨⟨m, hm0, hm1, rfl⟩, rfl⟩
  have z1 : (cutB s f m).size ≤ 5000 := by have := cutB_size s f m; omega
  have z2 : (cutB s (f + m) (s.size + 3)).size ≤ 5000 := by have := cutB_size s (f + m) (s.size + 3); omega
  have E1 := cut_join s f m hf0 hm0
  have E2 : cutB s 1 s.size = s := (cutB_all s 1 s.size (by omega) (by omega)).symm
  go_wp2_with (first
    | (go_at_call 14; refine (cutC _ _ _ w0 _ (by assumption) (by omega) (by omega) (by omega)).mono ?_; rintro e w' ⟨rfl, hL'⟩)
    | (go_at_call 15; refine (indexL _ _ w0 _ (by assumption) (by omega)).mono ?_; rintro e w' ⟨rfl, rfl⟩))
  go_loopw [10] (fun i wr => Live w0 wr ∧ ∃ k : Nat, k ≤ s.size ∧ i = .int .i64 ((k : Int) + 1)) (fun i _ => s.size + 1 - (intOf i).toNat)
  case atStart => exact ⟨by assumption, 0, Nat.zero_le _, rfl⟩
  case round =>
    obtain ⟨hLr, k, hk, rfl⟩ := hrel
    clear E1 E2
    by_cases hlt : k < s.size
    · skip
      go_wp2_with (first
        | (go_at_call 17; refine (lowerL _ w0 _ (by assumption) (by omega)).mono ?_; rintro e w' ⟨rfl, hL'⟩)
        | (go_at_call 19; refine (upperL _ w0 _ (by assumption) (by omega)).mono ?_; rintro e w' ⟨rfl, hL'⟩)
        | (go_at_call 16; refine (awake w0 _ (by assumption)).mono ?_; rintro e w' ⟨rfl, hL'⟩))
      go_ret
      exact ⟨rfl, by assumption⟩
    · skip
      go_wp2_with (first
        | (go_at_call 17; refine (lowerL _ w0 _ (by assumption) (by omega)).mono ?_; rintro e w' ⟨rfl, hL'⟩)
        | (go_at_call 19; refine (upperL _ w0 _ (by assumption) (by omega)).mono ?_; rintro e w' ⟨rfl, hL'⟩)
        | (go_at_call 16; refine (awake w0 _ (by assumption)).mono ?_; rintro e w' ⟨rfl, hL'⟩))
      go_ret
      exact ⟨rfl, by assumption⟩
set_option maxHeartbeats 4000000 in
theorem parts_none (s t : ByteArray) (f0 m0 : Int) (w0 w : World) (hL : Live w0 w) (hs : s.size ≤ 5000) (ht : t.size ≤ 5000) (hf : -9223372036854775808 ≤ f0 ∧ f0 ≤ 9223372036854775807) (hn : -9223372036854775808 ≤ m0 ∧ m0 ≤ 9223372036854775807)
    (hp : 0 < t.size) (hi : idxI s t = 0) (hno : ∀ j, j ≤ s.size → ((cutB s ((j : Int) + 1) t.size).toList == t.toList) = false) :
    Calls Try.prog 5 #[.string s, .string t, .int .i64 f0, .int .i64 m0] w fun e w' => e = .returned (.bool true) ∧ Live w0 w' := by
  have HNO := Lib.hid hno
  have hb : ((t.size : Int) == 0) = false := by rw [beq_eq_false_iff_ne]; omega
  clear hno
  obtain ⟨F1, F2, F3, F4, F5, F6, F7⟩ := tail_facts s t
  go_enter Try.func5, Try.ntmps5
  go_wp2_with fail
  refine (pick _ _ _ hf (by omega) (by omega)).mono ?_
  rintro e w' ⟨⟨f, hf0, hf1, rfl⟩, rfl⟩
  go_wp2_with fail
  refine (pick _ _ _ hn (by omega) (by omega)).mono ?_
  rintro e w' ⟨⟨m, hm0, hm1, rfl⟩, rfl⟩
  have z1 : (cutB s f m).size ≤ 5000 := by have := cutB_size s f m; omega
  have z2 : (cutB s (f + m) (s.size + 3)).size ≤ 5000 := by have := cutB_size s (f + m) (s.size + 3); omega
  have E1 := cut_join s f m hf0 hm0
  have E2 : cutB s 1 s.size = s := (cutB_all s 1 s.size (by omega) (by omega)).symm
  go_wp2_with (first
    | (go_at_call 14; refine (cutC _ _ _ w0 _ (by assumption) (by omega) (by omega) (by omega)).mono ?_; rintro e w' ⟨rfl, hL'⟩)
    | (go_at_call 15; refine (indexL _ _ w0 _ (by assumption) (by omega)).mono ?_; rintro e w' ⟨rfl, rfl⟩))
  go_loopw [10] (fun i wr => Live w0 wr ∧ ∃ k : Nat, k ≤ s.size ∧ i = .int .i64 ((k : Int) + 1)) (fun i _ => s.size + 1 - (intOf i).toNat)
  case atStart => exact ⟨by assumption, 0, Nat.zero_le _, rfl⟩
  case round =>
    obtain ⟨hLr, k, hk, rfl⟩ := hrel
    clear E1 E2
    by_cases hlt : k < s.size
    · have hne := HNO.out k hk
      go_wp2_with (go_at_call 14; refine (cutC _ _ _ w0 _ (by assumption) (by omega) (by omega) (by omega)).mono ?_; rintro e w' ⟨rfl, hL'⟩)
      go_roundw
      case rel => exact ⟨by assumption, k + 1, by omega, by go_num⟩
      case measure => simp [intOf]; omega
    · skip
      go_wp2_with (first
        | (go_at_call 17; refine (lowerL _ w0 _ (by assumption) (by omega)).mono ?_; rintro e w' ⟨rfl, hL'⟩)
        | (go_at_call 19; refine (upperL _ w0 _ (by assumption) (by omega)).mono ?_; rintro e w' ⟨rfl, hL'⟩)
        | (go_at_call 16; refine (awake w0 _ (by assumption)).mono ?_; rintro e w' ⟨rfl, hL'⟩))
      go_ret
      exact ⟨rfl, by assumption⟩
set_option maxHeartbeats 4000000 in
theorem parts_at (s t : ByteArray) (f0 m0 : Int) (w0 w : World) (hL : Live w0 w) (hs : s.size ≤ 5000) (ht : t.size ≤ 5000) (hf : -9223372036854775808 ≤ f0 ∧ f0 ≤ 9223372036854775807) (hn : -9223372036854775808 ≤ m0 ∧ m0 ≤ 9223372036854775807)
    (i : Nat) (hp : 0 < t.size) (hi : idxI s t = (i : Int) + 1) (hi2 : i < s.size) (hc : cutB s ((i : Int) + 1) t.size = t) (hno : ∀ j, j < i → ((cutB s ((j : Int) + 1) t.size).toList == t.toList) = false) :
    Calls Try.prog 5 #[.string s, .string t, .int .i64 f0, .int .i64 m0] w fun e w' => e = .returned (.bool true) ∧ Live w0 w' := by
  have HNO := Lib.hid hno
  have hb : ((t.size : Int) == 0) = false := by rw [beq_eq_false_iff_ne]; omega
  have hng : decide ((i : Int) + 1 < 0) = false := by simp; omega
  clear hno
  obtain ⟨F1, F2, F3, F4, F5, F6, F7⟩ := tail_facts s t
  go_enter Try.func5, Try.ntmps5
  go_wp2_with fail
  refine (pick _ _ _ hf (by omega) (by omega)).mono ?_
  rintro e w' ⟨⟨f, hf0, hf1, rfl⟩, rfl⟩
  go_wp2_with fail
  refine (pick _ _ _ hn (by omega) (by omega)).mono ?_
  rintro e w' ⟨⟨m, hm0, hm1, rfl⟩, rfl⟩
  have z1 : (cutB s f m).size ≤ 5000 := by have := cutB_size s f m; omega
  have z2 : (cutB s (f + m) (s.size + 3)).size ≤ 5000 := by have := cutB_size s (f + m) (s.size + 3); omega
  have E1 := cut_join s f m hf0 hm0
  have E2 : cutB s 1 s.size = s := (cutB_all s 1 s.size (by omega) (by omega)).symm
  go_wp2_with (first
    | (go_at_call 14; refine (cutC _ _ _ w0 _ (by assumption) (by omega) (by omega) (by omega)).mono ?_; rintro e w' ⟨rfl, hL'⟩)
    | (go_at_call 15; refine (indexL _ _ w0 _ (by assumption) (by omega)).mono ?_; rintro e w' ⟨rfl, rfl⟩))
  go_loopw [10] (fun j wr => Live w0 wr ∧ ∃ k : Nat, k ≤ i ∧ j = .int .i64 ((k : Int) + 1)) (fun j _ => s.size + 1 - (intOf j).toNat)
  case atStart => exact ⟨by assumption, 0, Nat.zero_le _, rfl⟩
  case round =>
    obtain ⟨hLr, k, hk, rfl⟩ := hrel
    clear E1 E2
    by_cases hlt : k < i
    · have hne := HNO.out k hlt
      go_wp2_with (go_at_call 14; refine (cutC _ _ _ w0 _ (by assumption) (by omega) (by omega) (by omega)).mono ?_; rintro e w' ⟨rfl, hL'⟩)
      go_roundw
      case rel => exact ⟨by assumption, k + 1, by omega, by go_num⟩
      case measure => simp [intOf]; omega
    · obtain rfl : k = i := by omega
      clear hlt HNO
      go_wp2_with (first
        | (go_at_call 14; refine (cutC _ _ _ w0 _ (by assumption) (by omega) (by omega) (by omega)).mono ?_; rintro e w' ⟨rfl, hL'⟩)
        | (go_at_call 17; refine (lowerL _ w0 _ (by assumption) (by omega)).mono ?_; rintro e w' ⟨rfl, hL'⟩)
        | (go_at_call 19; refine (upperL _ w0 _ (by assumption) (by omega)).mono ?_; rintro e w' ⟨rfl, hL'⟩)
        | (go_at_call 16; refine (awake w0 _ (by assumption)).mono ?_; rintro e w' ⟨rfl, hL'⟩))
      go_ret
      exact ⟨rfl, by assumption⟩

set_option maxHeartbeats 4000000 in
theorem parts (s t : ByteArray) (f n : Int) (w0 w : World) (hL : Live w0 w) (hs : s.size ≤ 9223372036854775807) (ht : t.size ≤ 9223372036854775807) (hf : -9223372036854775808 ≤ f ∧ f ≤ 9223372036854775807) (hn : -9223372036854775808 ≤ n ∧ n ≤ 9223372036854775807) :
    Calls Try.prog 5 #[.string s, .string t, .int .i64 f, .int .i64 n] w fun e w' => e = .returned (.bool true) ∧ Live w0 w' := by
  by_cases c1 : 5000 < s.size
  · go_enter Try.func5, Try.ntmps5
    go_wp2_with (go_at_call 16; refine (awake w0 _ (by assumption)).mono ?_; rintro e w' ⟨rfl, hL'⟩)
    go_ret
    exact ⟨rfl, hL'⟩
  by_cases c2 : 5000 < t.size
  · have c1' : s.size ≤ 5000 := by omega
    go_enter Try.func5, Try.ntmps5
    go_wp2_with (go_at_call 16; refine (awake w0 _ (by assumption)).mono ?_; rintro e w' ⟨rfl, hL'⟩)
    go_ret
    exact ⟨rfl, hL'⟩
  rcases idx_spec s t with ⟨h0, hi⟩ | ⟨hp, hi, hno⟩ | ⟨i, hp, hi, hi2, hc, hno⟩
  · exact parts_nil s t f n w0 w hL (by omega) (by omega) hf hn h0 hi
  · exact parts_none s t f n w0 w hL (by omega) (by omega) hf hn hp hi hno
  · exact parts_at s t f n w0 w hL (by omega) (by omega) hf hn i hp hi hi2 hc hno
end Go.Proofs.Ytghdjhdnohooeaa.Oct
