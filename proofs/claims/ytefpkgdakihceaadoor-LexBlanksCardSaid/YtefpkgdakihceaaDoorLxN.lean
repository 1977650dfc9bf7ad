/-
  Layer 12, plain: a text that is said again is the same text; a token that is said again is the same token.
-/
import Derived.Test.YtefpkgdakihceaaDoorLxM
namespace Go.Proofs.YtefpkgdakihceaaDoor.Lx
open Go.RowKit

theorem mark_same {r r' : List UInt8} {j : Nat} (h : r'.take j = r.take j) (h1 : 1 ≤ j) (h2 : markN r < j) : markS r' = markS r ∧ markN r' = markN r := by
  have e1 := octN_take 3 r j
  have e2 := octN_take 3 r' j
  rw [h, e1] at e2
  have ho : octN 3 r < j := by unfold markN at h2; split at h2 <;> omega
  have e : octN 3 r' = octN 3 r := by omega
  have hN : markN r' = markN r := by unfold markN; rw [e]
  have t1 := markS_take (r := r) (j := j) h1 (by omega)
  have t2 := markS_take (r := r') (j := j) h1 (by omega)
  rw [h] at t2
  exact ⟨t2.1.symm.trans t1.1, hN⟩
theorem qL_pos {q : UInt8} {l : List UInt8} {x : List UInt8 × Nat} (hq : q = 34 ∨ q = 47) (h : qL q l = some x) : 1 ≤ x.2 ∧ x.2 ≤ l.length := by
  have H := qL_eq q hq l
  by_cases hc : closeL q l false < l.length ∧ l[closeL q l false]? ≠ some 10
  · have := (H.1 hc.1 hc.2).1
    rw [h] at this
    simp only [Option.some.injEq] at this
    rw [this]
    exact ⟨by simp, hc.1⟩
  · rw [H.2 hc] at h; cases h
theorem qL_same : ∀ (m : Nat) (l l' : List UInt8) (x : List UInt8) (n : Nat), l.length ≤ m → qL 34 l = some (x, n) → l'.take n = l.take n → n ≤ l'.length → qL 34 l' = some (x, n)
  | 0, l, l', x, n, hm, h, _, _ => by
    obtain rfl : l = [] := List.eq_nil_of_length_eq_zero (by omega)
    rw [qL_nil] at h; cases h
  | m + 1, [], l', x, n, hm, h, _, _ => by rw [qL_nil] at h; cases h
  | m + 1, c :: r, l', x, n, hm, h, ht, hl => by
    have hp := qL_pos (.inl rfl) h
    obtain ⟨n0, rfl⟩ : ∃ n0, n = n0 + 1 := ⟨n - 1, by have := hp.1; simp only at this; omega⟩
    cases l' with
    | nil => simp at hl
    | cons c' r' =>
      simp only [List.take_succ_cons, List.cons.injEq] at ht
      obtain ⟨rfl, ht⟩ := ht
      rw [qL_cons] at h ⊢
      by_cases c1 : c' = 10
      · rw [if_pos c1] at h; cases h
      rw [if_neg c1] at h ⊢
      by_cases c2 : c' = 34
      · rw [if_pos c2] at h ⊢
        exact h
      rw [if_neg c2] at h ⊢
      by_cases c3 : c' ≠ 92
      · rw [if_pos c3] at h ⊢
        cases hq : qL 34 r with
        | none => rw [hq] at h; cases h
        | some y =>
          obtain ⟨y1, y2⟩ := y
          rw [hq] at h
          simp only [Option.map_some, Option.some.injEq, Prod.mk.injEq] at h
          obtain ⟨h1, h2⟩ := h
          obtain rfl : y2 = n0 := by omega
          rw [qL_same m r r' y1 y2 (by simpa using hm) hq ht (by simpa using hl)]
          simp [h1]
      · rw [if_neg c3] at h ⊢
        cases r with
        | nil => simp at h
        | cons d r0 =>
          simp only at h
          by_cases d1 : d = 10
          · rw [if_pos d1] at h; cases h
          rw [if_neg d1, if_neg (by decide)] at h
          cases hq : qL 34 ((d :: r0).drop (markN (d :: r0))) with
          | none => rw [hq] at h; cases h
          | some y =>
            obtain ⟨y1, y2⟩ := y
            rw [hq] at h
            simp only [Option.map_some, Option.some.injEq, Prod.mk.injEq] at h
            obtain ⟨h1, h2⟩ := h
            have hy := qL_pos (.inl rfl) hq
            have hy1 : 1 ≤ y2 := hy.1
            have hmp := markN_pos (d :: r0)
            have hn0 : n0 = y2 + markN (d :: r0) := by omega
            obtain ⟨hS, hN⟩ := mark_same ht (by omega) (by omega)
            cases r' with
            | nil => simp at hl; omega
            | cons d' r0' =>
              have hdd : d' = d := by
                obtain ⟨n1, hn1⟩ : ∃ n1, n0 = n1 + 1 := ⟨n0 - 1, by omega⟩
                rw [hn1] at ht
                simp only [List.take_succ_cons, List.cons.injEq] at ht
                exact ht.1
              subst hdd
              simp only
              rw [if_neg d1, if_neg (by decide), hS, hN]
              have hq' : qL 34 ((d' :: r0').drop (markN (d' :: r0))) = some (y1, y2) := by
                refine qL_same m ((d' :: r0).drop (markN (d' :: r0))) _ y1 y2 (by simp only [List.length_drop, List.length_cons] at *; omega) hq ?_ ?_
                · have e : ∀ (z : List UInt8), (z.drop (markN (d' :: r0))).take y2 = (z.take n0).drop (markN (d' :: r0)) := fun z => by
                    rw [List.drop_take]; congr 1; omega
                  rw [e, e, ht]
                · rw [List.length_drop]
                  simp only [List.length_cons] at hl ⊢
                  omega
              rw [hq']
              simp [h1]
              omega
end Go.Proofs.YtefpkgdakihceaaDoor.Lx
