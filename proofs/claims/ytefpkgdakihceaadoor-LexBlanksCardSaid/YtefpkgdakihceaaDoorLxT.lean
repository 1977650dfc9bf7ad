/-
  The document's own side of layer 12 (winnowerref12), third part: marks; texts and patterns.
-/
import Derived.Test.YtefpkgdakihceaaDoorLxL
namespace Go.Proofs.YtefpkgdakihceaaDoor.Lx
open Go.RowKit

def plS : ByteArray := ⟨#[34, 92, 47, 97, 98, 102, 110, 114, 116, 118]⟩
def slS : ByteArray := ⟨#[34, 92, 47, 7, 8, 12, 10, 13, 9, 11]⟩
theorem plS_size : plS.size = 10 := rfl
theorem slS_size : slS.size = 10 := rfl
theorem plain_hit (c : UInt8) : ∀ (k : Nat) (h : k < plS.size), (c.toNat : Int) = ((plS[k]'h).toNat : Int) → octB c = false ∧ slS.extract k (k + 1) = strL (oneM c) := by
  intro k h e
  have e2 : c = plS[k]'h := byte_eq.1 e
  subst e2
  have h' : k < 10 := h
  rcases (by omega : k = 0 ∨ k = 1 ∨ k = 2 ∨ k = 3 ∨ k = 4 ∨ k = 5 ∨ k = 6 ∨ k = 7 ∨ k = 8 ∨ k = 9) with rfl | rfl | rfl | rfl | rfl | rfl | rfl | rfl | rfl | rfl
  all_goals clear e h'
  all_goals exact ⟨by revert h; decide, by revert h; decide⟩
theorem plain_miss (c : UInt8) (h : ∀ (k : Nat) (h : k < plS.size), ¬ (c.toNat : Int) = ((plS[k]'h).toNat : Int)) : oneM c = [92, c] := by
  have g : ∀ (k : Nat) (h : k < plS.size), c ≠ plS[k]'h := fun k hk e => h k hk (byte_eq.2 e)
  have g0 : c ≠ 34 := g 0 (by decide)
  have g1 : c ≠ 92 := g 1 (by decide)
  have g2 : c ≠ 47 := g 2 (by decide)
  have g3 : c ≠ 97 := g 3 (by decide)
  have g4 : c ≠ 98 := g 4 (by decide)
  have g5 : c ≠ 102 := g 5 (by decide)
  have g6 : c ≠ 110 := g 6 (by decide)
  have g7 : c ≠ 114 := g 7 (by decide)
  have g8 : c ≠ 116 := g 8 (by decide)
  have g9 : c ≠ 118 := g 9 (by decide)
  unfold oneM plainM
  rw [if_neg g0, if_neg g1, if_neg g2, if_neg g3, if_neg g4, if_neg g5, if_neg g6, if_neg g7, if_neg g8, if_neg g9]
theorem one_byteI (x : Int) (h0 : 0 ≤ x) (h1 : x < 256) (w : World) :
    (convert 33 9 (.slice (some ⟨w.heap.size, 0, none⟩) 1 1)).run Tryd.prog (w.alloc (.cells #[.int .u8 x] 5)) = .ok (.string ⟨#[UInt8.ofNat x.toNat]⟩) (w.alloc (.cells #[.int .u8 x] 5)) := by
  obtain ⟨v, rfl⟩ : ∃ v : Nat, x = (v : Int) := ⟨x.toNat, by omega⟩
  exact one_byte v (by omega) w
theorem octN_step (s : ByteArray) (a k : Nat) (hk : k ≤ octN 3 (s.data.toList.drop a)) : k < octN 3 (s.data.toList.drop a) ↔ (k < 3 ∧ octI (bAt s (a + k)) = true) := by
  have gen : ∀ (n : Nat) (l : List UInt8) (k : Nat), k ≤ octN n l → (k < octN n l ↔ (k < n ∧ ∃ h : k < l.length, octB l[k] = true)) := by
    intro n
    induction n with
    | zero => intro l k _; simp [octN]
    | succ n ih =>
      intro l k hk
      cases l with
      | nil => simp [octN]
      | cons c l =>
        unfold octN at hk ⊢
        by_cases hc : octB c = true
        · rw [if_pos hc] at hk ⊢
          cases k with
          | zero => simp [hc]
          | succ k =>
            have := ih l k (by omega)
            constructor
            · intro h
              obtain ⟨h1, h2, h3⟩ := this.1 (by omega)
              exact ⟨by omega, by simpa using h2, by simpa using h3⟩
            · rintro ⟨h1, h2, h3⟩
              have := this.2 ⟨by omega, by simpa using h2, by simpa using h3⟩
              omega
        · rw [if_neg hc] at hk ⊢
          obtain rfl : k = 0 := by omega
          simp [hc]
  rw [gen 3 _ k hk]
  have hz := Lib.size_eq s
  constructor
  · rintro ⟨h1, h2, h3⟩
    rw [List.length_drop] at h2
    have h4 : a + k < s.size := by omega
    refine ⟨h1, ?_⟩
    rw [bAt_in h4]
    rw [List.getElem_drop] at h3
    have e : s.data.toList[a + k]'(by omega) = s[a + k] := rfl
    rw [e] at h3
    simp only [octB, octI, decide_eq_true_eq] at h3 ⊢
    omega
  · rintro ⟨h1, h2⟩
    have h4 : a + k < s.size := bAt_lt (fun e => by rw [e] at h2; exact absurd h2 (by decide))
    rw [bAt_in h4] at h2
    refine ⟨h1, by rw [List.length_drop]; omega, ?_⟩
    rw [List.getElem_drop]
    have e : s.data.toList[a + k]'(by omega) = s[a + k] := rfl
    rw [e]
    simp only [octB, octI, decide_eq_true_eq] at h2 ⊢
    omega
theorem drop_take_snoc (s : ByteArray) (a k : Nat) (h : a + k < s.size) : (s.data.toList.drop a).take (k + 1) = (s.data.toList.drop a).take k ++ [s[a + k]] := by
  have hz := Lib.size_eq s
  rw [List.take_succ_eq_append_getElem (by rw [List.length_drop]; omega), List.getElem_drop]
  rfl
theorem ext_two (s : ByteArray) (a : Nat) (h : a + 1 < s.size) : s.extract a (a + 2) = strL [s[a], s[a + 1]] := by
  apply ByteArray.ext
  apply Array.ext'
  rw [Lib.extract_eq, show a + 2 - a = 2 by omega, drop_cons (by omega : a < s.size), drop_cons h]
  rfl
theorem ext_at (s : ByteArray) (a : Nat) (h : a < s.size) : s.extract a (a + 1) = strL [s[a]] := by
  apply ByteArray.ext
  apply Array.ext'
  rw [Lib.extract_eq, show a + 1 - a = 1 by omega, drop_cons h]
  rfl
set_option maxHeartbeats 6400000 in
theorem refMark (s : ByteArray) (a : Nat) (w : World) (h : a + 1 < s.size) (h92 : s[a] = 92) (hs : s.size ≤ 65536) :
    Calls Tryd.prog 55 #[.string s, .int .i64 a] w fun e w' => e = .returned (.tuple #[.string (strL (markS (s.data.toList.drop (a + 1)))), .int .i64 ((a + 1 + markN (s.data.toList.drop (a + 1)) : Nat))]) ∧ Below w.heap.size w w' := by
  have hd := drop_cons h
  have hb := bAt_in h
  have hbd := (s[a + 1]).toNat_lt
  have HB := Lib.hid hb
  have hhd : (s.data.toList.drop (a + 1)).headD 0 = s[a + 1] := by rw [hd]; rfl
  have hoc : octB s[a + 1] = false → octN 3 (s.data.toList.drop (a + 1)) = 0 := by
    intro ho
    rw [hd, octN, if_neg (by rw [ho]; decide)]
  have HX := Lib.hid (ext_two s a h)
  have HS := Lib.hid (show octN 3 (s.data.toList.drop (a + 1)) = 0 → markS (s.data.toList.drop (a + 1)) = oneM s[a + 1] ∧ markN (s.data.toList.drop (a + 1)) = 1 from fun ho => ⟨by unfold markS; rw [if_pos ho, hhd], by unfold markN; rw [if_pos ho]⟩)
  have HO := Lib.hid hoc
  have hpz : (⟨#[34, 92, 47, 97, 98, 102, 110, 114, 116, 118]⟩ : ByteArray) = plS := rfl
  have hsz : (⟨#[34, 92, 47, 7, 8, 12, 10, 13, 9, 11]⟩ : ByteArray) = slS := rfl
  clear hd hhd hoc hb
  go_enter Tryd.func55, Tryd.ntmps55
  go_wp2_with (first
    | (go_at_call 29; (with_reducible refine (refByte s (a + 1) _ (by omega) _).mono ?_); rintro e w' ⟨rfl, rfl⟩; rw [HB.out]))
  rw [hpz, hsz]
  clear hpz hsz
  have P1 := plS_size
  have P2 := slS_size
  go_loop [9] (fun i => ∃ k : Nat, k ≤ 10 ∧ i = .int .i64 k ∧ ∀ (j : Nat) (hj : j < plS.size), j < k → ¬ ((s[a + 1]).toNat : Int) = ((plS[j]'hj).toNat : Int)) (fun i => 10 - (intOf i).toNat)
  case atStart => exact ⟨0, by omega, rfl, fun j _ hj => by omega⟩
  case round =>
    obtain ⟨k, hk, rfl, hno⟩ := hrel
    have HNO := Lib.hid hno
    clear hno
    by_cases hlt : k < plS.size
    · have hlt' : k < 10 := hlt
      have hbk := (plS[k]'hlt).toNat_lt
      by_cases he : ((s[a + 1]).toNat : Int) = ((plS[k]'hlt).toNat : Int)
      · obtain ⟨h1, h2⟩ := plain_hit s[a + 1] k hlt he
        have HE := Lib.hid h2
        obtain ⟨f1, f2⟩ := HS.out (HO.out h1)
        have HF1 := Lib.hid f1
        have HF2 := Lib.hid f2
        clear h1 h2 f1 f2
        go_wp2_with fail
        go_ret2
        exact ⟨ret_si (by rw [HF1.out, HE.out]) (by rw [HF2.out]; omega), Below.refl _ _⟩
      · have hef : (((s[a + 1]).toNat : Int) == ((plS[k]'hlt).toNat : Int)) = false := by rw [beq_eq_false_iff_ne]; exact he
        have HE := Lib.hid he
        clear he
        go_wp2_with fail
        go_round
        case rel => exact ⟨k + 1, by omega, by go_num, fun j hj hjk => by
          rcases Nat.lt_or_eq_of_le (Nat.lt_succ_iff.1 hjk) with h | rfl
          · exact HNO.out j hj h
          · exact HE.out⟩
        case measure => simp [intOf]; omega
    · obtain rfl : k = 10 := by have : ¬ k < 10 := hlt; omega
      have HM := Lib.hid (plain_miss s[a + 1] (fun j hj => HNO.out j hj hj))
      have hoct := octN_le 3 (s.data.toList.drop (a + 1))
      have HST := Lib.hid (octN_step s (a + 1))
      clear hlt HNO
      go_wp2_with fail
      go_loop [10, 11] (fun n e => ∃ k : Nat, k ≤ octN 3 (s.data.toList.drop (a + 1)) ∧ e = .int .i64 ((a + 1 + k : Nat)) ∧ n = .int .i64 (octVal ((s.data.toList.drop (a + 1)).take k)) ∧ octVal ((s.data.toList.drop (a + 1)).take k) < 8 ^ k) (fun _ e => s.size + 4 - (intOf e).toNat)
      case atStart => exact ⟨0, by omega, by simp, rfl, by simp [octVal]⟩
      case round =>
        obtain ⟨k, hk, rfl, rfl, hv⟩ := hrel
        have hk3 : k ≤ 3 := by omega
        by_cases hlt : k < octN 3 (s.data.toList.drop (a + 1))
        · obtain ⟨k3, ho⟩ := (HST.out k hk).1 hlt
          have hsz : a + 1 + k < s.size := bAt_lt (fun e => by rw [e] at ho; exact absurd ho (by decide))
          have HSN := Lib.hid (drop_take_snoc s (a + 1) k hsz)
          have HVS := Lib.hid (octVal_snoc ((s.data.toList.drop (a + 1)).take k) s[a + 1 + k])
          have hbk := Lib.hid (bAt_in hsz)
          have o2 : 48 ≤ ((s[a + 1 + k]).toNat : Int) ∧ ((s[a + 1 + k]).toNat : Int) ≤ 55 := by rw [bAt_in hsz] at ho; simpa [octI] using ho
          obtain ⟨o3, o4⟩ := o2
          have hp : 8 ^ k ≤ 8 ^ 2 := Nat.pow_le_pow_right (by decide) (by omega)
          have hv2 : octVal ((s.data.toList.drop (a + 1)).take k) < 64 := by omega
          have HP := Lib.hid (show 8 ^ (k + 1) = 8 ^ k * 8 from Nat.pow_succ 8 k)
          have HPV := Lib.hid hv
          generalize hvv : octVal ((s.data.toList.drop (a + 1)).take k) = v at *
          have HV := Lib.hid hvv
          clear hvv ho hp hv
          go_wp2_with (first
            | (go_at_call 29; (with_reducible refine (refByte s (a + 1 + k) _ (by omega) _).mono ?_); rintro e w' ⟨rfl, rfl⟩; rw [hbk.out]))
          go_round
          case rel =>
            refine ⟨k + 1, by omega, by go_num, ?_, ?_⟩
            · rw [HSN.out, HVS.out]
              congr 1
              omega
            · rw [HSN.out, HVS.out, HP.out]
              have := HPV.out
              omega
          case measure => simp [intOf]; omega
        · have hke : k = octN 3 (s.data.toList.drop (a + 1)) := by omega
          have HQ := Lib.hid (show strL [92, s[a + 1]] = strL [s[a], s[a + 1]] by rw [h92])
          by_cases c3 : k = 3
          · have c3' : decide ((a : Int) + 1 + (k : Int) < (a : Int) + 4) = false := by simp; omega
            have HKE := Lib.hid hke
            have n1 : octN 3 (s.data.toList.drop (a + 1)) ≠ 0 := by omega
            have HF1 := Lib.hid (show markS (s.data.toList.drop (a + 1)) = [UInt8.ofNat (octVal ((s.data.toList.drop (a + 1)).take k) % 256)] by unfold markS; rw [if_neg n1, ← hke])
            have HF2 := Lib.hid (show markN (s.data.toList.drop (a + 1)) = k by unfold markN; rw [if_neg n1, ← hke])
            have hv2 : octVal ((s.data.toList.drop (a + 1)).take k) < 512 := by
              have : 8 ^ k ≤ 8 ^ 3 := Nat.pow_le_pow_right (by decide) (by omega)
              omega
            generalize hvv : octVal ((s.data.toList.drop (a + 1)).take k) = v at *
            have HV := Lib.hid hvv
            obtain ⟨y, hy⟩ : ∃ y : Int, (v : Int) % 256 = y := ⟨_, rfl⟩
            have HY := Lib.hid hy
            have hm0 : 0 ≤ y := by omega
            have hm1 : y < 256 := by omega
            have hcv := one_byteI y hm0 hm1
            have k1 : 1 ≤ k := by omega
            clear hvv n1 hke hv c3
            go_wp2_with (first
              | (go_at_call 29; (with_reducible refine (refByte s (a + 1 + k) _ (by omega) _).mono ?_); rintro e w' ⟨rfl, rfl⟩))
            go_ret2
            exact ⟨ret_si (by rw [HF1.out]; show (⟨#[UInt8.ofNat y.toNat]⟩ : ByteArray) = _; rw [show y.toNat = v % 256 by have := HY.out; omega]; rfl) (by rw [HF2.out]; first | done | omega), (Below.refl _ _).alloc (Nat.le_refl _) _⟩
          · have c3' : decide ((a : Int) + 1 + (k : Int) < (a : Int) + 4) = true := by simp; omega
            have ho : octI (bAt s (a + 1 + k)) = false := Bool.eq_false_iff.mpr fun h => hlt ((HST.out k hk).2 ⟨by omega, h⟩)
            have ho2 : bAt s (a + 1 + k) < 48 ∨ (48 ≤ bAt s (a + 1 + k) ∧ 55 < bAt s (a + 1 + k)) := by
              simp only [octI, decide_eq_false_iff_not] at ho
              omega
            clear ho
            rcases ho2 with ho | ⟨ho, ho3⟩
            all_goals
              have HKE := Lib.hid hke
              by_cases hk0 : k = 0
              · have hq0 : decide ((a : Int) + 1 < (a : Int) + 1 + (k : Int)) = false := by simp; omega
                obtain ⟨f1, f2⟩ := HS.out (by omega)
                have HF1 := Lib.hid f1
                have HF2 := Lib.hid f2
                clear f1 f2 hke hk0
                go_wp2_with (first
                  | (go_at_call 29; (with_reducible refine (refByte s (a + 1 + k) _ (by omega) _).mono ?_); rintro e w' ⟨rfl, rfl⟩))
                go_ret2
                exact ⟨ret_si (by rw [HF1.out, HM.out, HX.out, HQ.out]) (by rw [HF2.out]; omega), Below.refl _ _⟩
              · have n1 : octN 3 (s.data.toList.drop (a + 1)) ≠ 0 := by omega
                have HF1 := Lib.hid (show markS (s.data.toList.drop (a + 1)) = [UInt8.ofNat (octVal ((s.data.toList.drop (a + 1)).take k) % 256)] by unfold markS; rw [if_neg n1, ← hke])
                have HF2 := Lib.hid (show markN (s.data.toList.drop (a + 1)) = k by unfold markN; rw [if_neg n1, ← hke])
                have hv2 : octVal ((s.data.toList.drop (a + 1)).take k) < 512 := by
                  have : 8 ^ k ≤ 8 ^ 3 := Nat.pow_le_pow_right (by decide) (by omega)
                  omega
                generalize hvv : octVal ((s.data.toList.drop (a + 1)).take k) = v at *
                have HV := Lib.hid hvv
                obtain ⟨y, hy⟩ : ∃ y : Int, (v : Int) % 256 = y := ⟨_, rfl⟩
                have HY := Lib.hid hy
                have hm0 : 0 ≤ y := by omega
                have hm1 : y < 256 := by omega
                have hcv := one_byteI y hm0 hm1
                have k1 : 1 ≤ k := by omega
                clear hvv n1 hke hv
                go_wp2_with (first
                  | (go_at_call 29; (with_reducible refine (refByte s (a + 1 + k) _ (by omega) _).mono ?_); rintro e w' ⟨rfl, rfl⟩))
                go_ret2
                exact ⟨ret_si (by rw [HF1.out]; show (⟨#[UInt8.ofNat y.toNat]⟩ : ByteArray) = _; rw [show y.toNat = v % 256 by have := HY.out; omega]; rfl) (by rw [HF2.out]; first | done | omega), (Below.refl _ _).alloc (Nat.le_refl _) _⟩
end Go.Proofs.YtefpkgdakihceaaDoor.Lx
