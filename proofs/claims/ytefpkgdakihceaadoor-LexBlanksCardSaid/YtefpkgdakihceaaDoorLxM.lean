/-
  Layer 12, plain: a token that is said again, with a blank behind it, is the same token.
-/
import Derived.Test.YtefpkgdakihceaaDoorLxW
namespace Go.Proofs.YtefpkgdakihceaaDoor.Lx
open Go.RowKit

/- The same n bytes stand at a place of each text. -/
structure Same (u s : ByteArray) (a k n : Nat) : Prop where
  hu : a + n ≤ u.size
  hs : k + n ≤ s.size
  eq : ∀ i, i < n → bAt s (k + i) = bAt u (a + i)
theorem Same.shift {u s : ByteArray} {a k n : Nat} (h : Same u s a k n) {j : Nat} (hj : j ≤ n) : Same u s (a + j) (k + j) (n - j) :=
  ⟨by have := h.hu; omega, by have := h.hs; omega, fun i hi => by rw [Nat.add_assoc, Nat.add_assoc]; exact h.eq (j + i) (by omega)⟩
theorem Same.at_ {u s : ByteArray} {a k n : Nat} (h : Same u s a k n) {j : Nat} (hj : j < n) : bAt s (k + j) = bAt u (a + j) := h.eq j hj
theorem upTo_same {p : Int → Bool} {u s : ByteArray} {a k n j : Nat} (h : Same u s a k n) (hj : upTo p u a = a + j) (hjn : j ≤ n) (hf : j = n → p (bAt s (k + n)) = false) : upTo p s k = k + j := by
  have hu := h.hu
  have hs := h.hs
  have h1 : upTo p s (k + j) = upTo p s k := upTo_all p s k j (by omega) fun i hi => by
    obtain ⟨hlt, hp⟩ := upTo_mid p u a (a + i) (by omega) (by omega)
    have e := h.eq i (by omega)
    rw [bAt_in hlt, bAt_in (show k + i < s.size by omega)] at e
    rw [e]
    exact hp
  rw [← h1]
  refine upTo_bno ?_
  rcases Nat.lt_or_eq_of_le hjn with hlt | heq
  · rw [h.at_ hlt]
    have hlu : a + j < u.size := by omega
    rw [bAt_in hlu]
    have := upTo_stop p u a (by rw [hj]; exact hlu)
    simp only [hj] at this
    exact this
  · subst heq
    exact hf rfl
theorem numE_same {u s : ByteArray} {a k n : Nat} (h : Same u s a k n) (hn : numE u a = a + n) (h0 : 0 < n) (hf : bAt s (k + n) = 32) : numE s k = k + n := by
  have hu := h.hu
  have hfd : digitI (bAt s (k + n)) = false := by rw [hf]; decide
  have ha : a ≤ u.size := by omega
  have m1 := mantE_le u a ha
  have hne : mantE u a ≠ a := by
    intro e
    unfold numE at hn
    rw [if_pos e] at hn
    omega
  have hp : powE u (mantE u a) = a + n := by
    unfold numE at hn
    rwa [if_neg hne] at hn
  have p1 := powE_le u (mantE u a) m1.2
  obtain ⟨j1, hj1⟩ : ∃ j1, upTo digitI u a = a + j1 := ⟨upTo digitI u a - a, by have := upTo_ge digitI u a; omega⟩
  -- the mantissa
  have hm : ∃ j2, mantE u a = a + j2 ∧ mantE s k = k + j2 ∧ 0 < j2 ∧ j2 ≤ n := by
    by_cases hc : bAt u (upTo digitI u a) = 46 ∧ (a < upTo digitI u a ∨ digitI (bAt u (upTo digitI u a + 1)) = true)
    · have e2 : mantE u a = upTo digitI u (a + j1 + 1) := by unfold mantE; rw [if_pos hc, hj1]
      have g2 := upTo_ge digitI u (a + j1 + 1)
      obtain ⟨j2, hj2⟩ : ∃ j2, upTo digitI u (a + j1 + 1) = a + j1 + 1 + j2 := ⟨upTo digitI u (a + j1 + 1) - (a + j1 + 1), by omega⟩
      have hle : j1 + 1 + j2 ≤ n := by omega
      rw [hj1] at hc
      have s1 : upTo digitI s k = k + j1 := upTo_same h hj1 (by omega) (fun e => by omega)
      have s2 : upTo digitI s (k + j1 + 1) = k + j1 + 1 + j2 := by
        have hsh := h.shift (j := j1 + 1) (by omega)
        exact upTo_same (u := u) (a := a + (j1 + 1)) (n := n - (j1 + 1)) hsh hj2 (by omega) (fun e => by
          rw [show k + j1 + 1 + (n - (j1 + 1)) = k + n by omega]; exact hfd)
      refine ⟨j1 + 1 + j2, by omega, ?_, by omega, hle⟩
      unfold mantE
      rw [s1, if_pos]
      · omega
      · refine ⟨by rw [h.at_ (by omega)]; exact hc.1, ?_⟩
        rcases hc.2 with h3 | h3
        · exact .inl (by omega)
        · right
          have h4 : j2 ≠ 0 := by
            intro e
            have h5 := digit_of h3
            have := upTo_byes (p := digitI) h5 h3
            have := upTo_ge digitI u (a + j1 + 1 + 1)
            omega
          rw [show k + j1 + 1 = k + (j1 + 1) by omega, h.at_ (by omega)]
          exact h3
    · have e2 : mantE u a = a + j1 := by unfold mantE; rw [if_neg hc, hj1]
      have hj0 : 0 < j1 := by omega
      have hle : j1 ≤ n := by omega
      have s1 : upTo digitI s k = k + j1 := upTo_same h hj1 hle (fun e => hfd)
      refine ⟨j1, e2, ?_, hj0, hle⟩
      unfold mantE
      rw [s1, if_neg]
      rintro ⟨h3, _⟩
      rw [hj1] at hc
      rcases Nat.lt_or_eq_of_le hle with h4 | h4
      · rw [h.at_ h4] at h3
        exact hc ⟨h3, .inl (by omega)⟩
      · rw [h4, hf] at h3
        omega
  obtain ⟨j2, hm1, hm2, hm0, hm3⟩ := hm
  rw [hm1] at hp
  unfold numE
  rw [hm2, if_neg (by omega)]
  -- the power
  by_cases hc : bAt u (a + j2) = 101 ∨ bAt u (a + j2) = 69
  · by_cases hd : digitI (bAt u (sgnE u (a + j2 + 1))) = true
    · have hpu : powE u (a + j2) = upTo digitI u (sgnE u (a + j2 + 1)) := by unfold powE; rw [if_pos hc, if_pos hd]
      have hsg : sgnE u (a + j2 + 1) = a + j2 + 1 ∨ sgnE u (a + j2 + 1) = a + j2 + 2 := by unfold sgnE; split <;> omega
      obtain ⟨j3, hj3⟩ : ∃ j3, sgnE u (a + j2 + 1) = a + j3 := ⟨sgnE u (a + j2 + 1) - a, by omega⟩
      have hgt : a + j3 < upTo digitI u (a + j3) := by
        rw [hj3] at hd
        rw [upTo_byes (digit_of hd) hd]
        exact upTo_ge _ _ _
      rw [hj3] at hpu hd hsg
      have hn3 : j3 < n := by omega
      have ssg : sgnE s (k + j2 + 1) = k + j3 := by
        have e := h.at_ (j := j2 + 1) (by omega)
        have eu : sgnE u (a + j2 + 1) = a + j3 := hj3
        unfold sgnE at eu ⊢
        rw [show k + j2 + 1 = k + (j2 + 1) by omega, e, show a + (j2 + 1) = a + j2 + 1 by omega]
        split at eu <;> rename_i hcc
        · rw [if_pos hcc]; omega
        · rw [if_neg hcc]; omega
      have s3 : upTo digitI s (k + j3) = k + n := by
        have hsh := h.shift (j := j3) (by omega)
        have := upTo_same (p := digitI) (j := n - j3) hsh (by rw [← hpu, hp]; omega) (by omega) (fun _ => by rw [show k + j3 + (n - j3) = k + n by omega]; exact hfd)
        rw [this]; omega
      unfold powE
      rw [ssg, if_pos (by rw [h.at_ (by omega)]; exact hc), if_pos (by rw [h.at_ hn3]; exact hd), s3]
    · have : powE u (a + j2) = a + j2 := by unfold powE; rw [if_pos hc, if_neg hd]
      have hjn : j2 = n := by omega
      subst hjn
      unfold powE
      rw [if_neg (by rw [hf]; omega)]
  · have : powE u (a + j2) = a + j2 := by unfold powE; rw [if_neg hc]
    have hjn : j2 = n := by omega
    subst hjn
    unfold powE
    rw [if_neg (by rw [hf]; omega)]

/- Parts that are the same. -/
theorem ext_same {u s : ByteArray} {a k n : Nat} (h : Same u s a k n) : s.extract k (k + n) = u.extract a (a + n) := by
  have hu := h.hu
  have hs := h.hs
  apply ByteArray.ext_getElem
  · rw [ByteArray.size_extract, ByteArray.size_extract]; omega
  · intro i h1 h2
    rw [get_extract, get_extract]
    rw [ByteArray.size_extract] at h1
    have e := h.eq i (by omega)
    rw [bAt_in (show k + i < s.size by omega), bAt_in (show a + i < u.size by omega)] at e
    exact byte_eq.1 e
theorem name_same {u s : ByteArray} {a k n : Nat} (h : Same u s a k n) (hn : upTo wordI u a = a + n) (hf : wordI (bAt s (k + n)) = false) : upTo wordI s k = k + n :=
  upTo_same h hn (Nat.le_refl _) (fun _ => hf)
theorem sign_same {u s : ByteArray} {a k n : Nat} (h : Same u s a k n) (hn : signE u a = a + n) (h0 : 0 < n) (hf : bAt s (k + n) = 32) : signE s k = k + n := by
  have hu := h.hu
  have hs := h.hs
  by_cases h2 : twoAt u a = true
  · have hn2 : n = 2 := by unfold signE at hn; rw [if_pos h2] at hn; omega
    subst hn2
    have e : twoAt s k = true := by
      unfold twoAt at h2 ⊢
      rw [show min (k + 2) s.size = k + 2 by omega, ext_same h]
      rwa [show min (a + 2) u.size = a + 2 by omega] at h2
    unfold signE
    rw [if_pos e]
  · have h2' := Bool.eq_false_iff.mpr h2
    unfold signE at hn
    rw [if_neg h2] at hn
    have ho : someB onesL u a = true ∧ n = 1 := by
      unfold oneE at hn
      split at hn
      · exact ⟨by assumption, by omega⟩
      · omega
    obtain ⟨ho, rfl⟩ := ho
    have e0 := h.at_ (j := 0) (by omega)
    rw [Nat.add_zero, Nat.add_zero] at e0
    have hks : k < s.size := by omega
    have hau : a < u.size := by omega
    rw [bAt_in hks, bAt_in hau] at e0
    have eb := byte_eq.1 e0
    have hs1 : someB onesL s k = true := by
      unfold someB at ho ⊢
      rw [dif_pos hau] at ho
      rw [dif_pos hks, eb]
      exact ho
    have ht : twoAt s k = false := by
      rw [Bool.eq_false_iff]
      intro ht
      obtain ⟨t, htm, hst, hk2⟩ := two_stands ht
      have h32 : ∀ t ∈ twosL, t[1]? ≠ some 32 := by decide
      apply h32 t htm
      unfold standsB at hst
      rw [twos_len t htm] at hst
      simp only [Bool.and_eq_true, decide_eq_true_eq, beq_iff_eq] at hst
      rw [← hst.2, ext_two s k (by omega), Lib.toList_data]
      have : s[k + 1] = 32 := byte_eq.1 (by rw [← bAt_in (show k + 1 < s.size by omega)]; exact hf)
      show [s[k], s[k + 1]][1]? = some 32
      rw [this]
      rfl
    unfold signE oneE
    rw [if_neg (by rw [ht]; decide), if_pos hs1]
end Go.Proofs.YtefpkgdakihceaaDoor.Lx
