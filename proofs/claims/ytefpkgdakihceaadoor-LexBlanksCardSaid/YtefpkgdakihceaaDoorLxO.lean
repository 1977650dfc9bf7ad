/-
  Layer 12, plain: a token that is said again, with a blank (a name of a function: its bracket) behind it, is the same token; where what is passed over ends.
-/
import Derived.Test.YtefpkgdakihceaaDoorLxN
namespace Go.Proofs.YtefpkgdakihceaaDoor.Lx
open Go.RowKit

theorem same_take {u s : ByteArray} {a k n : Nat} (h : Same u s a k n) : (s.data.toList.drop k).take n = (u.data.toList.drop a).take n := by
  have e := ext_same h
  rw [Lib.extract_eq, Lib.extract_eq] at e
  have e2 := congrArg (fun b : ByteArray => b.data.toList) e
  simp only at e2
  rw [show k + n - k = n by omega, show a + n - a = n by omega] at e2
  exact e2
theorem stands_head {s : ByteArray} {k : Nat} {t : List UInt8} (h : standsB s k t = true) (ht : 1 ≤ t.length) : ((t.headD 0).toNat : Int) = bAt s k := by
  unfold standsB at h
  simp only [Bool.and_eq_true, decide_eq_true_eq, beq_iff_eq] at h
  have hk : k < s.size := by omega
  rw [bAt_in hk, ← h.2, Lib.toList_data, Lib.extract_eq]
  show ((((s.data.toList.drop k).take _).headD 0).toNat : Int) = _
  rw [drop_cons hk, show k + t.length - k = (t.length - 1) + 1 by omega, List.take_succ_cons]
  rfl
theorem sign_lens' (n : Nat) (h : n < signsL.length) : 1 ≤ (signsL[n]'h).length := by
  have : ∀ t ∈ signsL, 1 ≤ t.length := by decide
  exact this _ (List.getElem_mem h)
theorem sign_head {s : ByteArray} {k : Nat} (h : k < signE s k) : bAt s k ≠ 46 ∧ bAt s k ≠ 92 := by
  have hex : ∃ (j : Nat) (hj : j < signsL.length), standsB s k signsL[j] = true := by
    by_cases hc : ∃ (j : Nat) (hj : j < signsL.length), standsB s k signsL[j] = true
    · exact hc
    · have := sign_miss (s := s) (k := k) (fun j hj => Bool.eq_false_iff.mpr fun e => hc ⟨j, hj, e⟩)
      omega
  obtain ⟨j, hj, hs⟩ := hex
  have hh := stands_head hs (sign_lens' j hj)
  have h46 : ∀ t ∈ signsL, t.headD 0 ≠ 46 ∧ t.headD 0 ≠ 92 := by decide
  have := h46 _ (List.getElem_mem hj)
  rw [← hh]
  exact ⟨fun e => this.1 (byte_eq.1 e), fun e => this.2 (byte_eq.1 e)⟩
theorem tok_same {u s : ByteArray} {a k n : Nat} (h : Same u s a k n) {kind : Int} {S : ByteArray} (ht : tokR u a false = (kind, S, a + n)) (h0 : 0 < n) (hk0 : kind ≠ 0) (hk8 : kind ≠ 8)
    (hf : (kind ≠ 5 ∧ bAt s (k + n) = 32) ∨ (kind = 5 ∧ bAt s (k + n) = 40)) : tokR s k false = (kind, S, k + n) := by
  have hu := h.hu
  have hs := h.hs
  have e0 : bAt s k = bAt u a := by have := h.at_ (j := 0) h0; simpa using this
  unfold tokR at ht ⊢
  rw [if_neg (by omega)] at ht ⊢
  by_cases c10 : bAt u a = 10
  · rw [if_pos c10] at ht
    simp only [Prod.mk.injEq] at ht
    exact absurd ht.1.symm hk8
  rw [if_neg c10] at ht
  rw [e0, if_neg c10]
  by_cases c34 : bAt u a = 34
  · rw [if_pos c34] at ht ⊢
    have hau : a < u.size := by omega
    have hks : k < s.size := by omega
    have q1 : u[a] = 34 := byte_eq.1 (by rw [← bAt_in hau]; exact c34)
    have q2 : s[k] = 34 := byte_eq.1 (by rw [← bAt_in hks, e0]; exact c34)
    unfold qR at ht ⊢
    rw [dif_pos hau, q1] at ht
    rw [dif_pos hks, q2]
    cases hq : qL 34 (u.data.toList.drop (a + 1)) with
    | none =>
      rw [hq] at ht
      simp only [Prod.mk.injEq] at ht
      exact absurd ht.1.symm hk0
    | some x =>
      obtain ⟨x1, x2⟩ := x
      rw [hq] at ht
      simp only [Prod.mk.injEq] at ht
      obtain ⟨t1, t2, t3⟩ := ht
      have hx2 : n - 1 = x2 := by omega
      have hsh := same_take (h.shift (j := 1) h0)
      rw [hx2] at hsh
      rw [qL_same _ _ _ x1 x2 (Nat.le_refl _) hq hsh (by rw [List.length_drop, ← Lib.size_eq]; omega)]
      simp only [Prod.mk.injEq]
      exact ⟨t1, t2, by omega⟩
  rw [if_neg c34, if_neg (by simp)] at ht
  rw [if_neg c34, if_neg (by simp)]
  by_cases cn : a < numE u a
  · rw [if_pos cn] at ht
    simp only [Prod.mk.injEq] at ht
    obtain ⟨t1, t2, t3⟩ := ht
    have f32 : bAt s (k + n) = 32 := by
      rcases hf with hf | hf
      · exact hf.2
      · exact absurd (t1.symm.trans rfl) (by rw [hf.1]; decide)
    have es := numE_same h t3 h0 f32
    rw [es, if_pos (by omega), ext_same h, ← t3, t2, t1]
  rw [if_neg cn] at ht
  have hna : numE u a = a := by have := (numE_le u a (by omega)).1; omega
  have hnd : digitI (bAt u a) = false := Bool.eq_false_iff.mpr fun e => by have := numE_digit e; omega
  by_cases cw : a < upTo wordI u a
  · rw [if_pos cw] at ht
    simp only [Prod.mk.injEq] at ht
    obtain ⟨t1, t2, t3⟩ := ht
    have hwb : wordI (bAt u a) = true := by
      by_cases e : wordI (bAt u a) = true
      · exact e
      · rw [upTo_bno (Bool.eq_false_iff.mpr e)] at cw; omega
    have hlet : letterI (bAt u a) = true := by
      unfold wordI at hwb
      rw [hnd, Bool.or_false] at hwb
      exact hwb
    have hns : numE s k = k := by
      obtain ⟨l1, l2, _⟩ := letter_facts hlet
      exact numE_other (by rw [e0]; exact l1) (by rw [e0]; exact l2)
    have hfw : wordI (bAt s (k + n)) = false := by
      rcases hf with hf | hf <;> rw [hf.2] <;> decide
    have es := name_same h t3 hfw
    rw [hns, if_neg (by omega), es, if_pos (by omega), ext_same h]
    rw [t3] at t1 t2
    rw [t2]
    have hkk : kindN s k (k + n) = kind := by
      unfold kindN at t1 ⊢
      rw [ext_same h]
      by_cases hw : isWordB (u.extract a (a + n)) = true
      · rw [if_pos hw] at t1 ⊢; exact t1
      · rw [if_neg hw] at t1 ⊢
        by_cases hb : bAt u (a + n) = 40
        · rw [if_pos hb] at t1
          rcases hf with hf | hf
          · exact absurd t1.symm hf.1
          · rw [if_pos hf.2]; exact t1
        · rw [if_neg hb] at t1
          rcases hf with hf | hf
          · rw [if_neg (by rw [hf.2]; decide)]; exact t1
          · rw [hf.1] at t1; cases t1
    rw [hkk]
  rw [if_neg cw] at ht
  have hwa : upTo wordI u a = a := by have := upTo_ge wordI u a; omega
  by_cases cs : a < signE u a
  · rw [if_pos cs] at ht
    simp only [Prod.mk.injEq] at ht
    obtain ⟨t1, t2, t3⟩ := ht
    have f32 : bAt s (k + n) = 32 := by
      rcases hf with hf | hf
      · exact hf.2
      · rw [hf.1] at t1; cases t1
    have hns : numE s k = k := numE_other (by rw [e0]; exact hnd) (by rw [e0]; exact (sign_head cs).1)
    have hws : upTo wordI s k = k := by
      refine upTo_bno ?_
      rw [e0, Bool.eq_false_iff]
      intro e
      rw [upTo_byes (show a < u.size by omega) e] at hwa
      have := upTo_ge wordI u (a + 1)
      omega
    have es := sign_same h t3 h0 f32
    rw [hns, hws, es, if_neg (by omega), if_neg (by omega), if_pos (by omega), ext_same h, t1]
    rw [t3] at t2
    rw [t2]
  · rw [if_neg cs] at ht
    simp only [Prod.mk.injEq] at ht
    exact absurd ht.1.symm hk0
/- Where what is passed over ends. -/
theorem pass_stop (s : ByteArray) (k : Nat) : blankI (bAt s (pass s k)) = false ∧ ¬ (bAt s (pass s k) = 92 ∧ bAt s (pass s k + 1) = 10) ∧ bAt s (pass s k) ≠ 35 := by
  by_cases hk : k < s.size
  · by_cases h1 : blankI (bAt s k) = true
    · rw [pass_blank hk h1]
      exact pass_stop s (k + 1)
    · by_cases h2 : bAt s k = 92 ∧ bAt s (k + 1) = 10
      · rw [pass_join h2.1 h2.2]
        exact pass_stop s (k + 2)
      · by_cases h3 : bAt s k = 35
        · have hg : k + 1 ≤ upTo notLfI s k := by rw [upTo_byes hk (by rw [h3]; decide)]; exact upTo_ge _ _ _
          rw [pass_hash h3]
          exact pass_stop s (upTo notLfI s k)
        · rw [pass_stay (Bool.eq_false_iff.mpr h1) h2 h3]
          exact ⟨Bool.eq_false_iff.mpr h1, h2, h3⟩
  · rw [pass_past hk, bAt_out hk]
    exact ⟨by decide, by omega, by omega⟩
termination_by s.size - k
decreasing_by all_goals omega
/- No token begins with a backslash. -/
theorem tok_92 {s : ByteArray} {k : Nat} (h : bAt s k = 92) : (tokR s k false).1 = 0 := by
  have hk : k < s.size := bAt_lt (by omega)
  have hn : numE s k = k := numE_other (by rw [h]; decide) (by omega)
  have hw : upTo wordI s k = k := upTo_bno (by rw [h]; decide)
  have hs : ¬ k < signE s k := fun e => (sign_head e).2 h
  unfold tokR
  rw [if_neg (by omega), if_neg (by omega), if_neg (by omega), if_neg (by simp), hn, hw, if_neg (by omega), if_neg (by omega), if_neg hs]
end Go.Proofs.YtefpkgdakihceaaDoor.Lx
