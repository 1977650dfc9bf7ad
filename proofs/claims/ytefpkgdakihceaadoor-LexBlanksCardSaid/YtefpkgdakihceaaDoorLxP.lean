/-
  Layer 12, plain: tokens told one behind the other, said again with blanks, remarks and joined lines between them, are told again, one behind the other.
-/
import Derived.Test.YtefpkgdakihceaaDoorLxO
namespace Go.Proofs.YtefpkgdakihceaaDoor.Lx
open Go.RowKit

theorem bAt_left {x y : ByteArray} {i : Nat} (h : i < x.size) : bAt (x ++ y) i = bAt x i := by
  have h2 : i < (x ++ y).size := by rw [ByteArray.size_append]; omega
  rw [bAt_in h2, bAt_in h, ByteArray.getElem_append_left h]
theorem bAt_right (x y : ByteArray) (i : Nat) : bAt (x ++ y) (x.size + i) = bAt y i := by
  by_cases h : i < y.size
  · have h2 : x.size + i < (x ++ y).size := by rw [ByteArray.size_append]; omega
    rw [bAt_in h2, bAt_in h, ByteArray.getElem_append_right (by omega)]
    congr 3
    omega
  · rw [bAt_out h, bAt_out (by rw [ByteArray.size_append]; omega)]
structure Tk where
  kind : Int
  says : ByteArray
  line : Int
  a : Nat
  e : Nat
def gapA : ByteArray := ⟨#[32, 35, 32, 97, 32, 34, 32, 114, 101, 109, 97, 114, 107, 10]⟩
def gapF : ByteArray := ⟨#[32, 92, 10, 32]⟩
def gapB : ByteArray := ⟨#[32, 9, 92, 10, 32]⟩
def piece (u : ByteArray) (t : Tk) : ByteArray := if t.kind = 8 then gapA else if t.kind = 5 then gapF ++ u.extract t.a t.e else u.extract t.a t.e ++ gapB
def pieces (u : ByteArray) : List Tk → ByteArray
  | [] => ⟨#[]⟩
  | t :: l => piece u t ++ pieces u l
/- Tokens told one behind the other. -/
def From (u : ByteArray) : Nat → List Tk → Nat → Prop
  | at_, [], fin => fin = at_
  | at_, t :: l, fin => t.a = pass u at_ ∧ tokR u t.a false = (t.kind, t.says, t.e) ∧ t.kind ≠ 0 ∧ t.kind ≠ 9 ∧ From u t.e l fin
def Plays (s : ByteArray) : Nat → List Tk → Prop
  | p, [] => p ≤ s.size ∧ pass s p = s.size
  | p, t :: l => p ≤ s.size ∧ ∃ e, tokR s (pass s p) false = (t.kind, t.says, e) ∧ t.kind ≠ 0 ∧ Plays s e l
/- What a token told says of its places. -/
theorem tok_place {u : ByteArray} {a : Nat} {kind : Int} {S : ByteArray} {e : Nat} (ha : a ≤ u.size) (h : tokR u a false = (kind, S, e)) (h0 : kind ≠ 0) (h9 : kind ≠ 9) : a < e ∧ e ≤ u.size ∧ (kind = 8 → S = ⟨#[]⟩) ∧ (kind = 5 → bAt u e = 40) ∧ (kind = 8 → bAt u a = 10) := by
  unfold tokR at h
  by_cases c0 : u.size ≤ a
  · rw [if_pos c0] at h
    simp only [Prod.mk.injEq] at h
    exact absurd h.1.symm h9
  rw [if_neg c0] at h
  by_cases c10 : bAt u a = 10
  · rw [if_pos c10] at h
    simp only [Prod.mk.injEq] at h
    obtain ⟨h1, h2, h3⟩ := h
    exact ⟨by omega, by omega, fun _ => h2.symm, fun h => by omega, fun _ => c10⟩
  rw [if_neg c10] at h
  by_cases c34 : bAt u a = 34
  · rw [if_pos c34] at h
    have hau : a < u.size := by omega
    have q1 : u[a] = 34 := byte_eq.1 (by rw [← bAt_in hau]; exact c34)
    unfold qR at h
    rw [dif_pos hau, q1] at h
    cases hq : qL 34 (u.data.toList.drop (a + 1)) with
    | none =>
      rw [hq] at h
      simp only [Prod.mk.injEq] at h
      exact absurd h.1.symm h0
    | some x =>
      have hp := qL_pos (.inl rfl) hq
      rw [List.length_drop, ← Lib.size_eq] at hp
      rw [hq] at h
      simp only [Prod.mk.injEq] at h
      obtain ⟨h1, h2, h3⟩ := h
      exact ⟨by omega, by omega, fun h => by omega, fun h => by omega, fun h => by omega⟩
  rw [if_neg c34, if_neg (by simp)] at h
  by_cases cn : a < numE u a
  · rw [if_pos cn] at h
    simp only [Prod.mk.injEq] at h
    obtain ⟨h1, h2, h3⟩ := h
    have := (numE_le u a ha).2
    exact ⟨by omega, by omega, fun h => by omega, fun h => by omega, fun h => by omega⟩
  rw [if_neg cn] at h
  by_cases cw : a < upTo wordI u a
  · rw [if_pos cw] at h
    simp only [Prod.mk.injEq] at h
    obtain ⟨h1, h2, h3⟩ := h
    have := upTo_le wordI u a ha
    refine ⟨by omega, by omega, fun h8 => ?_, fun h5 => ?_, fun h8 => ?_⟩
    · unfold kindN at h1; split at h1 <;> (try split at h1) <;> omega
    · unfold kindN at h1
      split at h1
      · omega
      · split at h1
        · rw [← h3]; assumption
        · omega
    · unfold kindN at h1; split at h1 <;> (try split at h1) <;> omega
  rw [if_neg cw] at h
  by_cases cs : a < signE u a
  · rw [if_pos cs] at h
    simp only [Prod.mk.injEq] at h
    obtain ⟨h1, h2, h3⟩ := h
    have := signE_le u a ha
    exact ⟨by omega, by omega, fun h => by omega, fun h => by omega, fun h => by omega⟩
  · rw [if_neg cs] at h
    simp only [Prod.mk.injEq] at h
    exact absurd h.1.symm h0
/- A bracket is a sign by itself. -/
theorem tok_open {u : ByteArray} {a : Nat} (h : bAt u a = 40) : pass u a = a ∧ tokR u a false = (7, u.extract a (a + 1), a + 1) := by
  have ha : a < u.size := bAt_lt (by omega)
  refine ⟨pass_stay (by rw [h]; decide) (by omega) (by omega), ?_⟩
  have hn : numE u a = a := numE_other (by rw [h]; decide) (by omega)
  have hw : upTo wordI u a = a := upTo_bno (by rw [h]; decide)
  have h40 : u[a] = 40 := byte_eq.1 (by rw [← bAt_in ha]; exact h)
  have ht : twoAt u a = false := by
    rw [Bool.eq_false_iff]
    intro e
    obtain ⟨t, htm, hst, _⟩ := two_stands e
    have hh := stands_head hst (by rw [twos_len t htm]; omega)
    have hno : ∀ t ∈ twosL, t.headD 0 ≠ 40 := by decide
    exact hno t htm (byte_eq.1 (by rw [hh, h]; rfl))
  have hs : signE u a = a + 1 := by
    unfold signE oneE someB
    rw [if_neg (by rw [ht]; decide), dif_pos ha, h40, if_pos (by decide)]
  unfold tokR
  rw [if_neg (by omega), if_neg (by omega), if_neg (by omega), if_neg (by simp), hn, hw, hs, if_neg (by omega), if_neg (by omega), if_pos (by omega)]
/- What stands between. -/
theorem gapA_at (i : Nat) (h : i < 14) : bAt gapA i = if i = 0 then 32 else if i = 1 then 35 else if i = 13 then 10 else bAt gapA i := by
  by_cases h0 : i = 0
  · subst h0; decide
  by_cases h1 : i = 1
  · subst h1; decide
  by_cases h2 : i = 13
  · subst h2; decide
  rw [if_neg h0, if_neg h1, if_neg h2]
theorem gapA_not (i : Nat) (h : i < 13) : bAt gapA i ≠ 10 := by
  have : ∀ i : Fin 13, bAt gapA i.val ≠ 10 := by decide
  exact this ⟨i, h⟩
theorem pass_gapA {s pre rest : ByteArray} (h : s = pre ++ (gapA ++ rest)) : pass s pre.size = pre.size + 13 ∧ bAt s (pre.size + 13) = 10 ∧ pre.size + 14 ≤ s.size := by
  have hz : gapA.size = 14 := rfl
  have hb : ∀ i, i < 14 → bAt s (pre.size + i) = bAt gapA i := fun i hi => by rw [h, bAt_right, bAt_left (by rw [hz]; exact hi)]
  have hsz : pre.size + 14 ≤ s.size := by rw [h, ByteArray.size_append, ByteArray.size_append, hz]; omega
  have b0 := hb 0 (by omega)
  have b1 := hb 1 (by omega)
  have b13 := hb 13 (by omega)
  have e0 : bAt gapA 0 = 32 := by decide
  have e1 : bAt gapA 1 = 35 := by decide
  have e13 : bAt gapA 13 = 10 := by decide
  rw [e0, Nat.add_zero] at b0
  rw [e1] at b1
  rw [e13] at b13
  refine ⟨?_, b13, hsz⟩
  rw [pass_blank (by omega) (by rw [b0]; decide), pass_hash b1]
  have hu : upTo notLfI s (pre.size + 1) = pre.size + 13 := by
    have := upTo_all notLfI s (pre.size + 1) 12 (by omega) (fun i hi => by
      have e := hb (1 + i) (by omega)
      rw [← Nat.add_assoc] at e
      rw [← bAt_in (show pre.size + 1 + i < s.size by omega), e]
      have := gapA_not (1 + i) (by omega)
      unfold notLfI
      exact decide_eq_true this)
    rw [← this]
    exact upTo_bno (by rw [b13]; decide)
  rw [hu]
  exact pass_stay (by rw [b13]; decide) (by omega) (by omega)
theorem pass_gapF {s pre rest : ByteArray} (h : s = pre ++ (gapF ++ rest)) : pass s pre.size = pass s (pre.size + 4) := by
  have hz : gapF.size = 4 := rfl
  have hb : ∀ i, i < 4 → bAt s (pre.size + i) = bAt gapF i := fun i hi => by rw [h, bAt_right, bAt_left (by rw [hz]; exact hi)]
  have hsz : pre.size + 4 ≤ s.size := by rw [h, ByteArray.size_append, ByteArray.size_append, hz]; omega
  have b0 : bAt s pre.size = 32 := by have := hb 0 (by omega); rw [Nat.add_zero] at this; rw [this]; decide
  have b1 : bAt s (pre.size + 1) = 92 := by rw [hb 1 (by omega)]; decide
  have b2 : bAt s (pre.size + 2) = 10 := by rw [hb 2 (by omega)]; decide
  have b3 : bAt s (pre.size + 3) = 32 := by rw [hb 3 (by omega)]; decide
  rw [pass_blank (by omega) (by rw [b0]; decide), pass_join b1 b2, pass_blank (show pre.size + 1 + 2 < s.size by omega) (by rw [show pre.size + 1 + 2 = pre.size + 3 by omega, b3]; decide)]
theorem pass_gapB {s pre rest : ByteArray} (h : s = pre ++ (gapB ++ rest)) : pass s pre.size = pass s (pre.size + 5) ∧ bAt s pre.size = 32 := by
  have hz : gapB.size = 5 := rfl
  have hb : ∀ i, i < 5 → bAt s (pre.size + i) = bAt gapB i := fun i hi => by rw [h, bAt_right, bAt_left (by rw [hz]; exact hi)]
  have hsz : pre.size + 5 ≤ s.size := by rw [h, ByteArray.size_append, ByteArray.size_append, hz]; omega
  have b0 : bAt s pre.size = 32 := by have := hb 0 (by omega); rw [Nat.add_zero] at this; rw [this]; decide
  have b1 : bAt s (pre.size + 1) = 9 := by rw [hb 1 (by omega)]; decide
  have b2 : bAt s (pre.size + 2) = 92 := by rw [hb 2 (by omega)]; decide
  have b3 : bAt s (pre.size + 3) = 10 := by rw [hb 3 (by omega)]; decide
  have b4 : bAt s (pre.size + 4) = 32 := by rw [hb 4 (by omega)]; decide
  refine ⟨?_, b0⟩
  rw [pass_blank (by omega) (by rw [b0]; decide), pass_blank (by omega) (by rw [b1]; decide), pass_join b2 b3, pass_blank (show pre.size + 1 + 1 + 2 < s.size by omega) (by rw [show pre.size + 1 + 1 + 2 = pre.size + 4 by omega, b4]; decide)]
theorem same_part {u s pre rest : ByteArray} {a e : Nat} (h : s = pre ++ (u.extract a e ++ rest)) (hae : a ≤ e) (he : e ≤ u.size) : Same u s a pre.size (e - a) := by
  have hz : (u.extract a e).size = e - a := by rw [ByteArray.size_extract]; omega
  refine ⟨by omega, by rw [h, ByteArray.size_append, ByteArray.size_append, hz]; omega, fun i hi => ?_⟩
  rw [h, bAt_right, bAt_left (by rw [hz]; exact hi), bAt_in (by rw [hz]; exact hi), bAt_in (show a + i < u.size by omega), get_extract]
end Go.Proofs.YtefpkgdakihceaaDoor.Lx
