/-
  Layer 12, plain: tokens told one behind the other, said again with the gaps between them, play again.
-/
import Derived.Test.YtefpkgdakihceaaDoorLxP
namespace Go.Proofs.YtefpkgdakihceaaDoor.Lx
open Go.RowKit

theorem plays {u : ByteArray} : ∀ (L : List Tk) (at_ fin : Nat) (pre s : ByteArray) (p : Nat), at_ ≤ u.size → From u at_ L fin → ((tokR u (pass u fin) false).1 = 0 ∨ (tokR u (pass u fin) false).1 = 9) →
    s = pre ++ pieces u L → p ≤ s.size → pass s p = pass s pre.size → Plays s p L
  | [], at_, fin, pre, s, p, hat, hF, hE, hs, hp, hpp => by
    have hz : s.size = pre.size := by rw [hs, pieces, ByteArray.size_append]; rfl
    exact ⟨hp, by rw [hpp, hz, pass_past (by omega)]⟩
  | t :: l, at_, fin, pre, s, p, hat, hF, hE, hs, hp, hpp => by
    obtain ⟨ha, htk, h0, h9, hF'⟩ := hF
    have hale : t.a ≤ u.size := by rw [ha]; exact (pass_le u at_ hat).2
    obtain ⟨hlt, hle, hS8, h5, h8⟩ := tok_place hale htk h0 h9
    have hst := pass_stop u at_
    rw [← ha] at hst
    have h92 : bAt u t.a ≠ 92 := fun e => by
      have := tok_92 e
      rw [htk] at this
      exact h0 this
    have ste : t.a + (t.e - t.a) = t.e := by omega
    have stay : ∀ {k : Nat}, Same u s t.a k (t.e - t.a) → pass s k = k := fun {k} hS => by
      have e0 := hS.eq 0 (by omega)
      rw [Nat.add_zero, Nat.add_zero] at e0
      exact pass_stay (by rw [e0]; exact hst.1) (by rw [e0]; omega) (by rw [e0]; exact hst.2.2)
    by_cases c8 : t.kind = 8
    · have hpc : piece u t = gapA := by unfold piece; rw [if_pos c8]
      rw [pieces, hpc] at hs
      obtain ⟨hp1, hb, hz⟩ := pass_gapA hs
      refine ⟨hp, pre.size + 14, ?_, h0, ?_⟩
      · rw [hpp, hp1]
        unfold tokR
        rw [if_neg (by omega), if_pos hb, c8, hS8 c8]
      · have hz2 : (pre ++ gapA).size = pre.size + 14 := by rw [ByteArray.size_append]; rfl
        exact plays l t.e fin (pre ++ gapA) s (pre.size + 14) hle hF' hE (by rw [hs, ByteArray.append_assoc]) hz (by rw [hz2])
    by_cases c5 : t.kind = 5
    · have hpc : piece u t = gapF ++ u.extract t.a t.e := by unfold piece; rw [if_neg c8, if_pos c5]
      rw [pieces, hpc] at hs
      have hzF : (pre ++ gapF).size = pre.size + 4 := by rw [ByteArray.size_append]; rfl
      have hs1 : s = pre ++ (gapF ++ (u.extract t.a t.e ++ pieces u l)) := by rw [hs]; simp only [ByteArray.append_assoc]
      have hs2 : s = (pre ++ gapF) ++ (u.extract t.a t.e ++ pieces u l) := by rw [hs1]; simp only [ByteArray.append_assoc]
      have hs3 : s = ((pre ++ gapF) ++ u.extract t.a t.e) ++ pieces u l := by rw [hs2]; simp only [ByteArray.append_assoc]
      have hSame := same_part hs2 (by omega) hle
      rw [hzF] at hSame
      have hp1 := pass_gapF hs1
      have hzE : (u.extract t.a t.e).size = t.e - t.a := by rw [ByteArray.size_extract]; omega
      have hz3 : ((pre ++ gapF) ++ u.extract t.a t.e).size = pre.size + 4 + (t.e - t.a) := by rw [ByteArray.size_append, hzF, hzE]
      obtain ⟨ho1, ho2⟩ := tok_open (h5 c5)
      have hb40 : bAt s (pre.size + 4 + (t.e - t.a)) = 40 := by
        cases l with
        | nil =>
          have hf : fin = t.e := hF'
          rw [hf, ho1, ho2] at hE
          rcases hE with h | h <;> (simp only at h; omega)
        | cons t2 l2 =>
          obtain ⟨ha2, htk2, _, _, _⟩ := hF'
          rw [ho1] at ha2
          rw [ha2, ho2] at htk2
          simp only [Prod.mk.injEq] at htk2
          obtain ⟨k2, _, e2⟩ := htk2
          have hlt2 : t.e < u.size := bAt_lt (by rw [h5 c5]; omega)
          have hpc2 : piece u t2 = u.extract t2.a t2.e ++ gapB := by unfold piece; rw [if_neg (by omega), if_neg (by omega)]
          have hz2 : (u.extract t2.a t2.e).size = 1 := by rw [ByteArray.size_extract]; omega
          have := bAt_right ((pre ++ gapF) ++ u.extract t.a t.e) (pieces u (t2 :: l2)) 0
          rw [← hs3, hz3, Nat.add_zero] at this
          rw [this, pieces, hpc2, bAt_left (by rw [ByteArray.size_append]; omega), bAt_left (by omega), bAt_in (by omega), get_extract]
          have hx := h5 c5
          rw [bAt_in hlt2] at hx
          simp only [ha2, Nat.add_zero]
          exact hx
      have htok := tok_same hSame (by rw [ste]; exact htk) (by omega) h0 c8 (.inr ⟨c5, hb40⟩)
      refine ⟨hp, _, by rw [hpp, hp1, stay hSame]; exact htok, h0, ?_⟩
      exact plays l t.e fin _ s _ hle hF' hE hs3 hSame.hs (by rw [hz3])
    · have hpc : piece u t = u.extract t.a t.e ++ gapB := by unfold piece; rw [if_neg c8, if_neg c5]
      rw [pieces, hpc] at hs
      have hs1 : s = pre ++ (u.extract t.a t.e ++ (gapB ++ pieces u l)) := by rw [hs]; simp only [ByteArray.append_assoc]
      have hs2 : s = (pre ++ u.extract t.a t.e) ++ (gapB ++ pieces u l) := by rw [hs1]; simp only [ByteArray.append_assoc]
      have hs3 : s = ((pre ++ u.extract t.a t.e) ++ gapB) ++ pieces u l := by rw [hs2]; simp only [ByteArray.append_assoc]
      have hSame := same_part hs1 (by omega) hle
      have hzE : (u.extract t.a t.e).size = t.e - t.a := by rw [ByteArray.size_extract]; omega
      have hz2 : (pre ++ u.extract t.a t.e).size = pre.size + (t.e - t.a) := by rw [ByteArray.size_append, hzE]
      have hz3 : ((pre ++ u.extract t.a t.e) ++ gapB).size = pre.size + (t.e - t.a) + 5 := by rw [ByteArray.size_append, hz2]; rfl
      obtain ⟨hg, hb⟩ := pass_gapB hs2
      rw [hz2] at hg hb
      have htok := tok_same hSame (by rw [ste]; exact htk) (by omega) h0 c8 (.inl ⟨c5, hb⟩)
      refine ⟨hp, _, by rw [hpp, stay hSame]; exact htok, h0, ?_⟩
      exact plays l t.e fin _ s _ hle hF' hE hs3 hSame.hs (by rw [hg, hz3])
end Go.Proofs.YtefpkgdakihceaaDoor.Lx
