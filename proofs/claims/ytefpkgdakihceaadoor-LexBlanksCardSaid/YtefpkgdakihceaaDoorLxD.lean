/-
  Package lex: powers, numbers, names, words, signs: as the plain functions tell.
-/
import Derived.Test.YtefpkgdakihceaaDoorLxC
namespace Go.Proofs.YtefpkgdakihceaaDoor.Lx
open Go.RowKit

theorem someB_two (a b : UInt8) (ha : (a.toNat : Int) ≠ 0) (hb : (b.toNat : Int) ≠ 0) (s : ByteArray) (k : Nat) : someB [a, b] s k = true ↔ (bAt s k = (a.toNat : Int) ∨ bAt s k = (b.toNat : Int)) := by
  unfold someB
  by_cases h : k < s.size
  · rw [dif_pos h, bAt_in h]
    simp [byte_eq]
  · rw [dif_neg h, bAt_out h]
    simp only [Bool.false_eq_true, false_iff, not_or]
    exact ⟨fun e => ha e.symm, fun e => hb e.symm⟩
theorem oneE_e (s : ByteArray) (k : Nat) : oneE [101, 69] s k = if bAt s k = 101 ∨ bAt s k = 69 then k + 1 else k := by
  have h := someB_two 101 69 (by decide) (by decide) s k
  show (if someB [101, 69] s k = true then k + 1 else k) = (if bAt s k = 101 ∨ bAt s k = 69 then k + 1 else k)
  by_cases c : bAt s k = 101 ∨ bAt s k = 69
  · rw [if_pos c, if_pos (h.2 c)]
  · rw [if_neg c, if_neg (fun e => c (h.1 e))]
theorem oneE_sgn (s : ByteArray) (k : Nat) : oneE [43, 45] s k = sgnE s k := by
  have h := someB_two 43 45 (by decide) (by decide) s k
  show (if someB [43, 45] s k = true then k + 1 else k) = (if bAt s k = 43 ∨ bAt s k = 45 then k + 1 else k)
  by_cases c : bAt s k = 43 ∨ bAt s k = 45
  · rw [if_pos c, if_pos (h.2 c)]
  · rw [if_neg c, if_neg (fun e => c (h.1 e))]
theorem one_of' (s l : ByteArray) (k : Nat) (n : Nat) (hn : oneE l.data.toList s k = n) (x : Int) (hx : x = (k : Int)) (w : World) (hs : s.size ≤ 281474976710656) :
    Calls Tryd.prog 50 #[.string s, .int .i64 x, .string l] w fun e w' => e = .returned (.int .i64 n) ∧ w = w' := by
  subst hx hn
  exact one_of s l k w hs
set_option maxHeartbeats 1600000 in
theorem power (s : ByteArray) (k : Nat) (x : Int) (hx : x = (k : Int)) (m : Int) (w0 w : World) (hL : Live m w0 w) (hs : s.size ≤ 65536) :
    Calls Tryd.prog 46 #[.string s, .int .i64 x] w fun e w' => e = .returned (.int .i64 (powE s k)) ∧ Live m w0 w' := by
  subst hx
  by_cases c1 : bAt s k = 101 ∨ bAt s k = 69
  · have h1 : oneE [101, 69] s k = k + 1 := by rw [oneE_e, if_pos c1]
    have hk1 : k + 1 ≤ s.size := bAt_lt (by omega)
    have h2 := oneE_sgn s (k + 1)
    have g2 := sgnE_le s (k + 1) hk1
    have g3 := upTo_ge digitI s (sgnE s (k + 1))
    have g4 := upTo_le digitI s (sgnE s (k + 1)) g2.2.2
    have n1 : (((k + 1 : Nat) : Int) == (k : Int)) = false := by rw [beq_eq_false_iff_ne]; omega
    by_cases c2 : digitI (bAt s (sgnE s (k + 1))) = true
    · have HE := Lib.hid (show powE s k = upTo digitI s (sgnE s (k + 1)) by unfold powE; rw [if_pos c1, if_pos c2])
      have g5 : sgnE s (k + 1) < upTo digitI s (sgnE s (k + 1)) := by
        rw [upTo_byes (digit_of c2) c2]; exact upTo_ge _ _ _
      generalize hf : sgnE s (k + 1) = f at *
      clear c1 c2 g3
      generalize he : upTo digitI s f = e at *
      have HEE := Lib.hid he
      clear he hf
      have H1 := Lib.hid h1
      have H2 := Lib.hid h2
      clear h1 h2
      obtain ⟨g21, g22, g23⟩ := g2
      go_enter Tryd.func46, Tryd.ntmps46
      go_wp2_with (first
        | (go_at_call 50; (with_reducible refine (one_of' s _ k _ H1.out _ (by omega) _ (by omega)).mono ?_); rintro e w' ⟨rfl, rfl⟩)
        | (go_at_call 50; (with_reducible refine (one_of' s _ (k + 1) _ H2.out _ (by omega) _ (by omega)).mono ?_); rintro e w' ⟨rfl, rfl⟩)
        | (go_at_call 17; (with_reducible refine (runL _ _ classDigit s f _ (by omega) m w0 _ hL g23 (by omega)).mono ?_); rintro e w' ⟨rfl, hL1⟩; rw [HEE.out]))
      go_ret
      exact ⟨ret_int (by rw [HE.out]), by assumption⟩
    · have HE := Lib.hid (show powE s k = k by unfold powE; rw [if_pos c1, if_neg c2])
      have he : upTo digitI s (sgnE s (k + 1)) = sgnE s (k + 1) := upTo_bno (Bool.eq_false_iff.mpr c2)
      generalize hf : sgnE s (k + 1) = f at *
      clear c1 c2 g3 g4
      have HEE := Lib.hid he
      clear he hf
      have H1 := Lib.hid h1
      have H2 := Lib.hid h2
      clear h1 h2
      obtain ⟨g21, g22, g23⟩ := g2
      go_enter Tryd.func46, Tryd.ntmps46
      go_wp2_with (first
        | (go_at_call 50; (with_reducible refine (one_of' s _ k _ H1.out _ (by omega) _ (by omega)).mono ?_); rintro e w' ⟨rfl, rfl⟩)
        | (go_at_call 50; (with_reducible refine (one_of' s _ (k + 1) _ H2.out _ (by omega) _ (by omega)).mono ?_); rintro e w' ⟨rfl, rfl⟩)
        | (go_at_call 17; (with_reducible refine (runL _ _ classDigit s f _ (by omega) m w0 _ hL g23 (by omega)).mono ?_); rintro e w' ⟨rfl, hL1⟩; rw [HEE.out]))
      go_ret
      exact ⟨ret_int (by rw [HE.out]), by assumption⟩
  · have h1 : oneE [101, 69] s k = k := by rw [oneE_e, if_neg c1]
    have HE := Lib.hid (show powE s k = k by unfold powE; rw [if_neg c1])
    have H1 := Lib.hid h1
    clear h1 c1
    go_enter Tryd.func46, Tryd.ntmps46
    go_wp2_with (first
      | (go_at_call 50; (with_reducible refine (one_of' s _ k _ H1.out _ (by omega) _ (by omega)).mono ?_); rintro e w' ⟨rfl, rfl⟩))
    go_ret
    exact ⟨ret_int (by rw [HE.out]), hL⟩

/- Numbers. -/
set_option maxHeartbeats 3200000 in
theorem number (s : ByteArray) (k : Nat) (x : Int) (hx : x = (k : Int)) (m : Int) (w0 w : World) (hL : Live m w0 w) (hk : k ≤ s.size) (hs : s.size ≤ 65536) :
    Calls Tryd.prog 24 #[.string s, .int .i64 x] w fun e w' => e = .returned (.int .i64 (numE s k)) ∧ Live m w0 w' := by
  subst hx
  have a1 := upTo_ge digitI s k
  have a2 := upTo_le digitI s k hk
  have HM : Hid (mantE s k = if bAt s (upTo digitI s k) = 46 ∧ (k < upTo digitI s k ∨ digitI (bAt s (upTo digitI s k + 1)) = true) then upTo digitI s (upTo digitI s k + 1) else upTo digitI s k) := rfl
  generalize hd1 : upTo digitI s k = d1 at *
  have HD1 := Lib.hid hd1
  clear hd1
  by_cases c1 : bAt s d1 = 46
  · have hp : preB s d1 46 = true := preB_yes c1
    have b1 : d1 + 1 ≤ s.size := bAt_lt (by omega)
    have b2 := upTo_ge digitI s (d1 + 1)
    have b22 := upTo_le digitI s (d1 + 1) b1
    by_cases c2 : k < d1 ∨ digitI (bAt s (d1 + 1)) = true
    · have HM2 := Lib.hid (show mantE s k = upTo digitI s (d1 + 1) by rw [HM.out, if_pos ⟨c1, c2⟩])
      have c3 : d1 = k → d1 + 1 < upTo digitI s (d1 + 1) := by
        intro e
        have hd := c2.resolve_left (by omega)
        rw [upTo_byes (digit_of hd) hd]
        exact upTo_ge _ _ _
      generalize hd2 : upTo digitI s (d1 + 1) = d2 at *
      have HD2 := Lib.hid hd2
      have n1 : ((d2 : Int) == (k : Int)) = false := by rw [beq_eq_false_iff_ne]; omega
      have n2 : ((d1 : Int) == (k : Int)) = true → ((d2 : Int) == (d1 : Int) + 1) = false := by
        intro e
        rw [beq_iff_eq] at e
        rw [beq_eq_false_iff_ne]
        have := c3 (by omega)
        omega
      have HN := Lib.hid (show numE s k = powE s d2 by unfold numE; rw [HM2.out, if_neg (by omega)])
      clear hd2 c1 c2 c3
      by_cases c4 : ((d1 : Int) == (k : Int)) = true
      · have n3 := n2 c4
        clear n2
        go_enter Tryd.func24, Tryd.ntmps24
        go_wp2_with (first
          | (go_at_call 17; (with_reducible refine (runL _ _ classDigit s k _ (by omega) m w0 _ hL hk (by omega)).mono ?_); rintro e w' ⟨rfl, hL1⟩; rw [HD1.out])
          | (go_at_call 17; (with_reducible refine (runL _ _ classDigit s (d1 + 1) _ (by omega) m w0 _ (by assumption) b1 (by omega)).mono ?_); rintro e w' ⟨rfl, hL2⟩; rw [HD2.out])
          | (go_at_call 19; (with_reducible refine (pre1 s _ _ (by decide) _).mono ?_); rintro e w' ⟨rfl, rfl⟩)
          | (go_at_call 46; (with_reducible refine (power s d2 _ (by omega) m w0 _ (by assumption) hs).mono ?_); rintro e w' ⟨rfl, hL3⟩))
        go_ret
        exact ⟨ret_int (by rw [HN.out]), by assumption⟩
      · have n3 := Bool.eq_false_iff.mpr c4
        clear n2 c4
        go_enter Tryd.func24, Tryd.ntmps24
        go_wp2_with (first
          | (go_at_call 17; (with_reducible refine (runL _ _ classDigit s k _ (by omega) m w0 _ hL hk (by omega)).mono ?_); rintro e w' ⟨rfl, hL1⟩; rw [HD1.out])
          | (go_at_call 17; (with_reducible refine (runL _ _ classDigit s (d1 + 1) _ (by omega) m w0 _ (by assumption) b1 (by omega)).mono ?_); rintro e w' ⟨rfl, hL2⟩; rw [HD2.out])
          | (go_at_call 19; (with_reducible refine (pre1 s _ _ (by decide) _).mono ?_); rintro e w' ⟨rfl, rfl⟩)
          | (go_at_call 46; (with_reducible refine (power s d2 _ (by omega) m w0 _ (by assumption) hs).mono ?_); rintro e w' ⟨rfl, hL3⟩))
        go_ret
        exact ⟨ret_int (by rw [HN.out]), by assumption⟩
    · have e1 : d1 = k := by omega
      have HD2 := Lib.hid (show upTo digitI s (d1 + 1) = d1 + 1 from upTo_bno (Bool.eq_false_iff.mpr fun h => c2 (.inr h)))
      have HM2 := Lib.hid (show mantE s k = d1 by rw [HM.out, if_neg (fun h => c2 h.2)])
      have HN := Lib.hid (show numE s k = k by unfold numE; rw [HM2.out, if_pos e1])
      subst e1
      clear c1 c2 b2 b22
      go_enter Tryd.func24, Tryd.ntmps24
      go_wp2_with (first
        | (go_at_call 17; (with_reducible refine (runL _ _ classDigit s d1 _ (by omega) m w0 _ hL hk (by omega)).mono ?_); rintro e w' ⟨rfl, hL1⟩; rw [HD1.out])
        | (go_at_call 17; (with_reducible refine (runL _ _ classDigit s (d1 + 1) _ (by omega) m w0 _ (by assumption) b1 (by omega)).mono ?_); rintro e w' ⟨rfl, hL2⟩; rw [HD2.out])
        | (go_at_call 19; (with_reducible refine (pre1 s _ _ (by decide) _).mono ?_); rintro e w' ⟨rfl, rfl⟩))
      go_ret
      exact ⟨ret_int (by rw [HN.out]), by assumption⟩
  · have hp : preB s d1 46 = false := preB_no c1
    have HM2 := Lib.hid (show mantE s k = d1 by rw [HM.out, if_neg (fun h => c1 h.1)])
    by_cases c0 : d1 = k
    · have HN := Lib.hid (show numE s k = k by unfold numE; rw [HM2.out, if_pos c0])
      subst c0
      clear c1
      go_enter Tryd.func24, Tryd.ntmps24
      go_wp2_with (first
        | (go_at_call 17; (with_reducible refine (runL _ _ classDigit s d1 _ (by omega) m w0 _ hL hk (by omega)).mono ?_); rintro e w' ⟨rfl, hL1⟩; rw [HD1.out])
        | (go_at_call 19; (with_reducible refine (pre1 s _ _ (by decide) _).mono ?_); rintro e w' ⟨rfl, rfl⟩))
      go_ret
      exact ⟨ret_int (by rw [HN.out]), by assumption⟩
    · have n1 : ((d1 : Int) == (k : Int)) = false := by rw [beq_eq_false_iff_ne]; omega
      have HN := Lib.hid (show numE s k = powE s d1 by unfold numE; rw [HM2.out, if_neg c0])
      clear c1 c0
      go_enter Tryd.func24, Tryd.ntmps24
      go_wp2_with (first
        | (go_at_call 17; (with_reducible refine (runL _ _ classDigit s k _ (by omega) m w0 _ hL hk (by omega)).mono ?_); rintro e w' ⟨rfl, hL1⟩; rw [HD1.out])
        | (go_at_call 19; (with_reducible refine (pre1 s _ _ (by decide) _).mono ?_); rintro e w' ⟨rfl, rfl⟩)
        | (go_at_call 46; (with_reducible refine (power s d1 _ (by omega) m w0 _ (by assumption) hs).mono ?_); rintro e w' ⟨rfl, hL3⟩))
      go_ret
      exact ⟨ret_int (by rw [HN.out]), by assumption⟩

theorem name (s : ByteArray) (k : Nat) (x : Int) (hx : x = (k : Int)) (m : Int) (w0 w : World) (hL : Live m w0 w) (hk : k ≤ s.size) (hs : s.size ≤ 65536) :
    Calls Tryd.prog 25 #[.string s, .int .i64 x] w fun e w' => e = .returned (.int .i64 (upTo wordI s k)) ∧ Live m w0 w' := by
  subst hx
  go_enter Tryd.func25, Tryd.ntmps25
  go_wp2_with (go_at_call 17; (with_reducible refine (runL _ _ classWord s k _ (by omega) m w0 _ hL hk (by omega)).mono ?_); rintro e w' ⟨rfl, hL1⟩)
  go_ret
  exact ⟨rfl, by assumption⟩
end Go.Proofs.YtefpkgdakihceaaDoor.Lx
