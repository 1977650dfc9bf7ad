/-
  Package lex: the token that stands at a place.
-/
import Derived.Test.YtefpkgdakihceaaDoorLxJ
namespace Go.Proofs.YtefpkgdakihceaaDoor.Lx
open Go.RowKit

theorem signE_le (s : ByteArray) (k : Nat) (h : k ≤ s.size) : signE s k ≤ s.size := by
  unfold signE
  split
  · rename_i c
    unfold twoAt twoB at c
    have hl : ∀ t ∈ twosL, t.length = 2 := by decide
    have h2 := hl _ (List.contains_iff_mem.1 c)
    rw [Lib.toList_data] at h2
    have h3 := Lib.size_eq (s.extract k (min (k + 2) s.size))
    rw [h2, ByteArray.size_extract] at h3
    omega
  · exact (oneE_le onesL s k h).2.2
set_option maxHeartbeats 6400000 in
theorem tokenRest (s : ByteArray) (k : Nat) (re : Bool) (m : Int) (w0 w : World) (hL : Live m w0 w) (hk : k < s.size) (hs : s.size ≤ 65536) (c10 : bAt s k ≠ 10) (c34 : bAt s k ≠ 34) (c47 : ¬ (bAt s k = 47 ∧ re = true)) :
    Calls Tryd.prog 12 #[.string s, .int .i64 k, .bool re] w fun e w' => e = .returned (tokT (tokR s k re)) ∧ Live m w0 w' := by
  have HR := Lib.hid (show tokR s k re = if k < numE s k then (1, s.extract k (numE s k), numE s k)
    else if k < upTo wordI s k then (kindN s k (upTo wordI s k), s.extract k (upTo wordI s k), upTo wordI s k)
    else if k < signE s k then (7, s.extract k (signE s k), signE s k)
    else (0, ⟨#[]⟩, k) by unfold tokR; rw [if_neg (by omega), if_neg c10, if_neg c34, if_neg c47])
  have hb := bAt_in hk
  have q10 : (((s[k]).toNat : Int) == 10) = false := by rw [← hb, beq_eq_false_iff_ne]; exact c10
  have q34 : (((s[k]).toNat : Int) == 34) = false := by rw [← hb, beq_eq_false_iff_ne]; exact c34
  have hkl : (k : Int) < (s.size : Int) := by omega
  have n5 : k < signE s k → signE s k ≤ s.size := fun _ => signE_le s k (by omega)
  cases re with
  | true =>
    have q47 : (((s[k]).toNat : Int) == 47) = false := by rw [← hb, beq_eq_false_iff_ne]; exact fun h => c47 ⟨h, rfl⟩
    clear c10 c34 c47 hb
    obtain ⟨n1, n2⟩ := numE_le s k (by omega)
    have n3 := upTo_ge wordI s k
    have n4 := upTo_le wordI s k (by omega)
    generalize hn : numE s k = n at *
    generalize hw : upTo wordI s k = wd at *
    generalize hg : signE s k = g at *
    have HN := Lib.hid hn
    have HW := Lib.hid hw
    have HG := Lib.hid hg
    clear hn hw hg
    by_cases c1 : k < n
    · have HF := Lib.hid (show tokR s k true = (1, s.extract k n, n) by rw [HR.out, if_pos c1])
      have d1 : (k : Int) < (n : Int) := by omega
      go_enter Tryd.func12, Tryd.ntmps12
      go_wp2_with (first
        | (go_at_call 24; (with_reducible refine (number s k _ (by omega) m w0 _ hL (by omega) hs).mono ?_); rintro e' w' ⟨rfl, hL1⟩; rw [HN.out])
        | (go_at_call 25; (with_reducible refine (name s k _ (by omega) m w0 _ hL1 (by omega) hs).mono ?_); rintro e' w' ⟨rfl, hL2⟩; rw [HW.out])
        | (go_at_call 27; (with_reducible refine (sign s k _ (by omega) _ (by omega) hs).mono ?_); rintro e' w' ⟨rfl, rfl⟩; rw [HG.out]))
      all_goals
        go_quiet (fail)
        go_wp2
        go_ret3
        rw [HF.out]
        exact ⟨ret_tok rfl rfl rfl, hL1.step (below_drewN (Below.refl _ _) nq)⟩
    · have d1 : n ≤ k := by omega
      have e1 : k = n := by omega
      have d1' : decide ((k : Int) < (k : Int)) = false := by simp
      by_cases c2 : k < wd
      · have HF := Lib.hid (show tokR s k true = (kindN s k wd, s.extract k wd, wd) by rw [HR.out, if_neg c1, if_pos c2])
        have d2 : (k : Int) < (wd : Int) := by omega
        subst e1
        go_enter Tryd.func12, Tryd.ntmps12
        go_wp2_with (first
          | (go_at_call 24; (with_reducible refine (number s k _ (by omega) m w0 _ hL (by omega) hs).mono ?_); rintro e' w' ⟨rfl, hL1⟩; rw [HN.out])
          | (go_at_call 25; (with_reducible refine (name s k _ (by omega) m w0 _ hL1 (by omega) hs).mono ?_); rintro e' w' ⟨rfl, hL2⟩; rw [HW.out])
          | (go_at_call 27; (with_reducible refine (sign s k _ (by omega) _ (by omega) hs).mono ?_); rintro e' w' ⟨rfl, rfl⟩; rw [HG.out]))
        all_goals
          go_quiet ((go_at_call 26; exact Calls.quiet_of_same ((nameKind s k wd _ (by omega) (by omega)).mono fun _ _ h => ⟨h.1, h.2.symm⟩)))
          go_wp2
          go_ret3
          rw [HF.out]
          exact ⟨ret_tok rfl rfl rfl, hL2.step (below_drewN (Below.refl _ _) nq)⟩
      · have e2 : k = wd := by omega
        have d2' : decide ((k : Int) < (k : Int)) = false := by simp
        by_cases c3 : k < g
        · have HF := Lib.hid (show tokR s k true = (7, s.extract k g, g) by rw [HR.out, if_neg c1, if_neg c2, if_pos c3])
          have d3 : (k : Int) < (g : Int) := by omega
          have d4 := n5 c3
          subst e1
          subst e2
          go_enter Tryd.func12, Tryd.ntmps12
          go_wp2_with (first
            | (go_at_call 24; (with_reducible refine (number s k _ (by omega) m w0 _ hL (by omega) hs).mono ?_); rintro e' w' ⟨rfl, hL1⟩; rw [HN.out])
            | (go_at_call 25; (with_reducible refine (name s k _ (by omega) m w0 _ hL1 (by omega) hs).mono ?_); rintro e' w' ⟨rfl, hL2⟩; rw [HW.out])
            | (go_at_call 27; (with_reducible refine (sign s k _ (by omega) _ (by omega) hs).mono ?_); rintro e' w' ⟨rfl, rfl⟩; rw [HG.out]))
          all_goals
            go_quiet (fail)
            go_wp2
            go_ret3
            rw [HF.out]
            exact ⟨ret_tok rfl rfl rfl, hL2.step (below_drewN (Below.refl _ _) nq)⟩
        · have HF := Lib.hid (show tokR s k true = (0, ⟨#[]⟩, k) by rw [HR.out, if_neg c1, if_neg c2, if_neg c3])
          have d3' : decide ((k : Int) < (g : Int)) = false := by simp; omega
          subst e1
          subst e2
          go_enter Tryd.func12, Tryd.ntmps12
          go_wp2_with (first
            | (go_at_call 24; (with_reducible refine (number s k _ (by omega) m w0 _ hL (by omega) hs).mono ?_); rintro e' w' ⟨rfl, hL1⟩; rw [HN.out])
            | (go_at_call 25; (with_reducible refine (name s k _ (by omega) m w0 _ hL1 (by omega) hs).mono ?_); rintro e' w' ⟨rfl, hL2⟩; rw [HW.out])
            | (go_at_call 27; (with_reducible refine (sign s k _ (by omega) _ (by omega) hs).mono ?_); rintro e' w' ⟨rfl, rfl⟩; rw [HG.out]))
          all_goals
            go_ret3
            rw [HF.out]
            exact ⟨ret_tok rfl rfl rfl, hL2⟩
  | false =>
    clear c10 c34 c47 hb
    obtain ⟨n1, n2⟩ := numE_le s k (by omega)
    have n3 := upTo_ge wordI s k
    have n4 := upTo_le wordI s k (by omega)
    generalize hn : numE s k = n at *
    generalize hw : upTo wordI s k = wd at *
    generalize hg : signE s k = g at *
    have HN := Lib.hid hn
    have HW := Lib.hid hw
    have HG := Lib.hid hg
    clear hn hw hg
    by_cases c1 : k < n
    · have HF := Lib.hid (show tokR s k false = (1, s.extract k n, n) by rw [HR.out, if_pos c1])
      have d1 : (k : Int) < (n : Int) := by omega
      go_enter Tryd.func12, Tryd.ntmps12
      go_wp2_with (first
        | (go_at_call 24; (with_reducible refine (number s k _ (by omega) m w0 _ hL (by omega) hs).mono ?_); rintro e' w' ⟨rfl, hL1⟩; rw [HN.out])
        | (go_at_call 25; (with_reducible refine (name s k _ (by omega) m w0 _ hL1 (by omega) hs).mono ?_); rintro e' w' ⟨rfl, hL2⟩; rw [HW.out])
        | (go_at_call 27; (with_reducible refine (sign s k _ (by omega) _ (by omega) hs).mono ?_); rintro e' w' ⟨rfl, rfl⟩; rw [HG.out]))
      all_goals
        go_quiet (fail)
        go_wp2
        go_ret3
        rw [HF.out]
        exact ⟨ret_tok rfl rfl rfl, hL1.step (below_drewN (Below.refl _ _) nq)⟩
    · have d1 : n ≤ k := by omega
      have e1 : k = n := by omega
      have d1' : decide ((k : Int) < (k : Int)) = false := by simp
      by_cases c2 : k < wd
      · have HF := Lib.hid (show tokR s k false = (kindN s k wd, s.extract k wd, wd) by rw [HR.out, if_neg c1, if_pos c2])
        have d2 : (k : Int) < (wd : Int) := by omega
        subst e1
        go_enter Tryd.func12, Tryd.ntmps12
        go_wp2_with (first
          | (go_at_call 24; (with_reducible refine (number s k _ (by omega) m w0 _ hL (by omega) hs).mono ?_); rintro e' w' ⟨rfl, hL1⟩; rw [HN.out])
          | (go_at_call 25; (with_reducible refine (name s k _ (by omega) m w0 _ hL1 (by omega) hs).mono ?_); rintro e' w' ⟨rfl, hL2⟩; rw [HW.out])
          | (go_at_call 27; (with_reducible refine (sign s k _ (by omega) _ (by omega) hs).mono ?_); rintro e' w' ⟨rfl, rfl⟩; rw [HG.out]))
        all_goals
          go_quiet ((go_at_call 26; exact Calls.quiet_of_same ((nameKind s k wd _ (by omega) (by omega)).mono fun _ _ h => ⟨h.1, h.2.symm⟩)))
          go_wp2
          go_ret3
          rw [HF.out]
          exact ⟨ret_tok rfl rfl rfl, hL2.step (below_drewN (Below.refl _ _) nq)⟩
      · have e2 : k = wd := by omega
        have d2' : decide ((k : Int) < (k : Int)) = false := by simp
        by_cases c3 : k < g
        · have HF := Lib.hid (show tokR s k false = (7, s.extract k g, g) by rw [HR.out, if_neg c1, if_neg c2, if_pos c3])
          have d3 : (k : Int) < (g : Int) := by omega
          have d4 := n5 c3
          subst e1
          subst e2
          go_enter Tryd.func12, Tryd.ntmps12
          go_wp2_with (first
            | (go_at_call 24; (with_reducible refine (number s k _ (by omega) m w0 _ hL (by omega) hs).mono ?_); rintro e' w' ⟨rfl, hL1⟩; rw [HN.out])
            | (go_at_call 25; (with_reducible refine (name s k _ (by omega) m w0 _ hL1 (by omega) hs).mono ?_); rintro e' w' ⟨rfl, hL2⟩; rw [HW.out])
            | (go_at_call 27; (with_reducible refine (sign s k _ (by omega) _ (by omega) hs).mono ?_); rintro e' w' ⟨rfl, rfl⟩; rw [HG.out]))
          all_goals
            go_quiet (fail)
            go_wp2
            go_ret3
            rw [HF.out]
            exact ⟨ret_tok rfl rfl rfl, hL2.step (below_drewN (Below.refl _ _) nq)⟩
        · have HF := Lib.hid (show tokR s k false = (0, ⟨#[]⟩, k) by rw [HR.out, if_neg c1, if_neg c2, if_neg c3])
          have d3' : decide ((k : Int) < (g : Int)) = false := by simp; omega
          subst e1
          subst e2
          go_enter Tryd.func12, Tryd.ntmps12
          go_wp2_with (first
            | (go_at_call 24; (with_reducible refine (number s k _ (by omega) m w0 _ hL (by omega) hs).mono ?_); rintro e' w' ⟨rfl, hL1⟩; rw [HN.out])
            | (go_at_call 25; (with_reducible refine (name s k _ (by omega) m w0 _ hL1 (by omega) hs).mono ?_); rintro e' w' ⟨rfl, hL2⟩; rw [HW.out])
            | (go_at_call 27; (with_reducible refine (sign s k _ (by omega) _ (by omega) hs).mono ?_); rintro e' w' ⟨rfl, rfl⟩; rw [HG.out]))
          all_goals
            go_ret3
            rw [HF.out]
            exact ⟨ret_tok rfl rfl rfl, hL2⟩
set_option maxHeartbeats 3200000 in
theorem token (s : ByteArray) (k : Nat) (re : Bool) (m : Int) (w0 w : World) (hL : Live m w0 w) (hk : k ≤ s.size) (hs : s.size ≤ 65536) :
    Calls Tryd.prog 12 #[.string s, .int .i64 k, .bool re] w fun e w' => e = .returned (tokT (tokR s k re)) ∧ Live m w0 w' := by
  by_cases c0 : k = s.size
  · have HF := Lib.hid (show tokR s k re = (9, ⟨#[]⟩, k) by unfold tokR; rw [if_pos (by omega)])
    have q0 : ((k : Int) == (s.size : Int)) = true := by rw [c0]; simp
    clear c0
    go_enter Tryd.func12, Tryd.ntmps12
    go_wp2_with fail
    go_ret3
    rw [HF.out]
    exact ⟨ret_tok rfl rfl rfl, hL⟩
  have hlt : k < s.size := by omega
  have hkl : (k : Int) < (s.size : Int) := by omega
  have hb := bAt_in hlt
  by_cases c10 : bAt s k = 10
  · have HF := Lib.hid (show tokR s k re = (8, ⟨#[]⟩, k + 1) by unfold tokR; rw [if_neg (by omega), if_pos c10])
    have q10 : ((s[k]).toNat : Int) = 10 := by rw [← hb]; exact c10
    clear c0 c10 hb
    go_enter Tryd.func12, Tryd.ntmps12
    go_wp2_with fail
    go_ret3
    rw [HF.out]
    exact ⟨ret_tok rfl rfl (by simp), hL⟩
  by_cases c34 : bAt s k = 34
  · have HF := Lib.hid (show tokR s k re = qR 2 s k by unfold tokR; rw [if_neg (by omega), if_neg c10, if_pos c34])
    have q34 : ((s[k]).toNat : Int) = 34 := by rw [← hb]; exact c34
    have HQ := Lib.hid (show s[k] = 34 from byte_eq.1 q34)
    clear c0 c10 c34 hb
    go_enter Tryd.func12, Tryd.ntmps12
    go_wp2_with (first
      | (go_at_call 21; (with_reducible refine (quoted _ 34 saysText (.inl rfl) s k 2 m w0 _ hL hlt HQ.out hs).mono ?_); rintro e' w' ⟨rfl, hL1⟩; rw [← HF.out]; unfold tokT))
    go_ret3
    exact ⟨rfl, hL1⟩
  by_cases c47 : bAt s k = 47 ∧ re = true
  · have HF := Lib.hid (show tokR s k re = qR 3 s k by unfold tokR; rw [if_neg (by omega), if_neg c10, if_neg c34, if_pos c47])
    obtain ⟨c471, rfl⟩ := c47
    have q47 : ((s[k]).toNat : Int) = 47 := by rw [← hb]; exact c471
    have HQ := Lib.hid (show s[k] = 47 from byte_eq.1 q47)
    clear c0 c10 c34 hb c471
    go_enter Tryd.func12, Tryd.ntmps12
    go_wp2_with (first
      | (go_at_call 21; (with_reducible refine (quoted _ 47 saysPat (.inr rfl) s k 3 m w0 _ hL hlt HQ.out hs).mono ?_); rintro e' w' ⟨rfl, hL1⟩; rw [← HF.out]; unfold tokT))
    go_ret3
    exact ⟨rfl, hL1⟩
  exact tokenRest s k re m w0 w hL hlt hs c10 c34 c47
end Go.Proofs.YtefpkgdakihceaaDoor.Lx
