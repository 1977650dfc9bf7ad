/-
  Package match's statements: what is found, by what is taken.
-/
import Derived.Test.YtmnghdccikoaoaaMuI
import Derived.Test.YtmnghdccikoaoaaMuL
namespace Go.Proofs.Ytmnghdccikoaoaa.Mt
open Go.RowKit Go.Proofs.Ytmnghdccikoaoaa.Sh

/- A place further on, up to what was found. -/
theorem Found.mid {r : Re} {t : List Nat} {lo mid : Nat} {X Y : LS} (h : Found r t lo X) (h2 : Found r t mid Y) (e : X.found = true) (hlo : lo ≤ mid) (hm : (mid : Int) ≤ X.at_) :
    Y.found = true ∧ Y.at_ = X.at_ ∧ Y.n = X.n := by
  obtain ⟨i, j, a1, a2, a3, a4, a5, a6, a7, a8⟩ := h.yes e
  have hmi : mid ≤ i := by omega
  cases hY : Y.found with
  | false => exact absurd a6 ((h2.no hY).2.2 i j hmi (by omega))
  | true =>
    obtain ⟨i', j', b1, b2, b3, b4, b5, b6, b7, b8⟩ := h2.yes hY
    have e1 : ¬ i < i' := fun q => b7 i j hmi q a6
    have e2 : ¬ i' < i := fun q => a7 i' j' (by omega) q b6
    have e3 : i' = i := by omega
    subst e3
    have e4 := a8 j' b6
    have e5 := b8 j a6
    exact ⟨rfl, by omega, by omega⟩
theorem Found.later {r : Re} {t : List Nat} {lo mid : Nat} {X Y : LS} (h : Found r t lo X) (h2 : Found r t mid Y) (e : X.found = false) (hlo : lo ≤ mid) : Y.found = false := by
  cases hY : Y.found with
  | false => rfl
  | true =>
    obtain ⟨i', j', b1, b2, b3, b4, b5, b6, b7, b8⟩ := h2.yes hY
    exact absurd b6 ((h.no e).2.2 i' j' (by omega) (by omega))

theorem iter_mono {R Q : Nat → Nat → Prop} (h : ∀ i j, R i j → Q i j) : ∀ n i j, iter R n i j → iter Q n i j
  | 0, _, _, e => e
  | n + 1, i, j, ⟨k, h1, h2⟩ => ⟨k, h i k h1, iter_mono h n k j h2⟩
theorem cat_mono {R Q : Re → Nat → Nat → Prop} : ∀ (l : List Re), (∀ r ∈ l, ∀ i j, R r i j → Q r i j) → ∀ i j, cat R l i j → cat Q l i j
  | [], _, _, _, e => e
  | r :: l, h, i, j, ⟨k, h1, h2⟩ => ⟨k, h r (by simp) i k h1, cat_mono l (fun x hx => h x (by simp [hx])) k j h2⟩

theorem short_kids {l : Nat} {k s0 s1 s2 s3 a b : Int} {kids : List Re} (h : shortB (l + 1) (.mk k s0 s1 s2 s3 a b kids) = true) : ∀ x ∈ kids, shortB l x = true := by
  unfold shortB at h
  rw [Bool.and_eq_true, List.all_eq_true] at h
  exact h.2
theorem ends_kids {l : Nat} {k s0 s1 s2 s3 a b : Int} {kids : List Re} (h : endsB (l + 1) (.mk k s0 s1 s2 s3 a b kids) = false) : k ≠ 4 ∧ ∀ x ∈ kids, endsB l x = false := by
  unfold endsB at h
  rw [Bool.or_eq_false_iff, decide_eq_false_iff_not, List.any_eq_false] at h
  exact ⟨h.1, fun x hx => by simpa using h.2 x hx⟩
/- Bytes behind take nothing away, where no end is asked. -/
theorem takes_more (t u : List Nat) : ∀ (l l1 : Nat) (r : Re) (i j : Nat), shortB l1 r = true → endsB l1 r = false → takes t l r i j → takes (t ++ u) l r i j
  | 0, _, _, _, _, _, _, h => h
  | l + 1, 0, r, i, j, hs, _, _ => by
    unfold shortB at hs
    exact absurd hs Bool.false_ne_true
  | l + 1, l1 + 1, .mk k s0 s1 s2 s3 a b kids, i, j, hs, he, h => by
    have hk := short_kids hs
    obtain ⟨h4, hke⟩ := ends_kids he
    have ih : ∀ x ∈ kids, ∀ i j, takes t l x i j → takes (t ++ u) l x i j := fun x hx i j => takes_more t u l l1 x i j (hk x hx) (hke x hx)
    unfold takes at h ⊢
    by_cases k2 : k = 2
    · rw [if_pos k2] at h ⊢
      obtain ⟨e, c, h1, h2⟩ := h
      exact ⟨e, c, by rw [List.getElem?_append_left (List.getElem?_eq_some_iff.mp h1).1]; exact h1, h2⟩
    rw [if_neg k2] at h ⊢
    by_cases k3 : k = 3
    · rw [if_pos k3] at h ⊢
      exact h
    rw [if_neg k3, if_neg h4] at h ⊢
    by_cases k5 : k = 5
    · rw [if_pos k5] at h ⊢
      exact cat_mono kids ih i j h
    rw [if_neg k5] at h ⊢
    by_cases k6 : k = 6
    · rw [if_pos k6] at h ⊢
      obtain ⟨x, hx, h⟩ := h
      exact ⟨x, hx, ih x hx i j h⟩
    rw [if_neg k6] at h ⊢
    by_cases k7 : k = 7
    · rw [if_pos k7] at h ⊢
      cases kids with
      | nil => exact h
      | cons x rest =>
        obtain ⟨n, h1, h2, h3⟩ := h
        exact ⟨n, h1, h2, iter_mono (ih x (by simp)) n i j h3⟩
    rw [if_neg k7] at h ⊢
    exact h
theorem Found.more {r : Re} {t u : List Nat} {lo : Nat} {X Y : LS} {l1 : Nat} (hs : shortB l1 r = true) (he : endsB l1 r = false) (h : Found r t lo X) (h2 : Found r (t ++ u) lo Y) (e : X.found = true) :
    Y.found = true ∧ Y.at_ ≤ X.at_ ∧ (Y.at_ < X.at_ ∨ X.n ≤ Y.n) := by
  obtain ⟨i, j, a1, a2, a3, a4, a5, a6, a7, a8⟩ := h.yes e
  have hm := takes_more t u 200 l1 r i j hs he a6
  cases hY : Y.found with
  | false => exact absurd hm ((h2.no hY).2.2 i j a3 (by rw [List.length_append]; omega))
  | true =>
    obtain ⟨i', j', b1, b2, b3, b4, b5, b6, b7, b8⟩ := h2.yes hY
    have e1 : ¬ i < i' := fun q => b7 i j a3 q hm
    refine ⟨rfl, by omega, ?_⟩
    rcases Nat.lt_or_ge i' i with q | q
    · exact .inl (by omega)
    · have e2 : i' = i := by omega
      subst e2
      have := b8 j hm
      exact .inr (by omega)

/- Levels beyond a tree's own change nothing. -/
theorem takes_deep (t : List Nat) : ∀ (l1 l l2 : Nat) (r : Re) (i j : Nat), shortB l1 r = true → l1 ≤ l → l1 ≤ l2 → takes t l r i j → takes t l2 r i j
  | 0, _, _, r, i, j, hs, _, _, _ => by
    unfold shortB at hs
    exact absurd hs Bool.false_ne_true
  | l1 + 1, 0, _, _, _, _, _, hl, _, _ => absurd hl (by omega)
  | l1 + 1, _ + 1, 0, _, _, _, _, _, hl, _ => absurd hl (by omega)
  | l1 + 1, l + 1, l2 + 1, .mk k s0 s1 s2 s3 a b kids, i, j, hs, hl, hl2, h => by
    have hk := short_kids hs
    have ih : ∀ x ∈ kids, ∀ i j, takes t l x i j → takes t l2 x i j := fun x hx i j => takes_deep t l1 l l2 x i j (hk x hx) (by omega) (by omega)
    unfold takes at h ⊢
    by_cases k2 : k = 2
    · rw [if_pos k2] at h ⊢
      exact h
    rw [if_neg k2] at h ⊢
    by_cases k3 : k = 3
    · rw [if_pos k3] at h ⊢
      exact h
    rw [if_neg k3] at h ⊢
    by_cases k4 : k = 4
    · rw [if_pos k4] at h ⊢
      exact h
    rw [if_neg k4] at h ⊢
    by_cases k5 : k = 5
    · rw [if_pos k5] at h ⊢
      exact cat_mono kids ih i j h
    rw [if_neg k5] at h ⊢
    by_cases k6 : k = 6
    · rw [if_pos k6] at h ⊢
      obtain ⟨x, hx, h⟩ := h
      exact ⟨x, hx, ih x hx i j h⟩
    rw [if_neg k6] at h ⊢
    by_cases k7 : k = 7
    · rw [if_pos k7] at h ⊢
      cases kids with
      | nil => exact h
      | cons x rest =>
        obtain ⟨n, h1, h2, h3⟩ := h
        exact ⟨n, h1, h2, iter_mono (ih x (by simp)) n i j h3⟩
    rw [if_neg k7] at h ⊢
    exact h
theorem takes_alt (t : List Nat) {x y : Re} {l1 : Nat} (hx : shortB l1 x = true) (hy : shortB l1 y = true) (hl : l1 ≤ 199) (s0 s1 s2 s3 a b : Int) (i j : Nat) :
    takes t 200 (.mk 6 s0 s1 s2 s3 a b [x, y]) i j ↔ takes t 200 x i j ∨ takes t 200 y i j := by
  have e : takes t 200 (.mk 6 s0 s1 s2 s3 a b [x, y]) i j ↔ ∃ kid ∈ [x, y], takes t 199 kid i j := Iff.rfl
  rw [e]
  constructor
  · rintro ⟨kid, hk, h⟩
    simp at hk
    rcases hk with rfl | rfl
    · exact .inl (takes_deep t l1 199 200 _ i j hx hl (by omega) h)
    · exact .inr (takes_deep t l1 199 200 _ i j hy hl (by omega) h)
  · rintro (h | h)
    · exact ⟨x, by simp, takes_deep t l1 200 199 _ i j hx (by omega) hl h⟩
    · exact ⟨y, by simp, takes_deep t l1 200 199 _ i j hy (by omega) hl h⟩
theorem takes_maybe (t : List Nat) {x : Re} {l1 : Nat} (hx : shortB l1 x = true) (hl : l1 ≤ 199) (s0 s1 s2 s3 : Int) (i j : Nat) :
    takes t 200 (.mk 7 s0 s1 s2 s3 0 1 [x]) i j ↔ j = i ∨ takes t 200 x i j := by
  have e : takes t 200 (.mk 7 s0 s1 s2 s3 0 1 [x]) i j ↔ ∃ n : Nat, (0 : Int) ≤ n ∧ ((1 : Int) < 0 ∨ (n : Int) ≤ 1) ∧ iter (takes t 199 x) n i j := Iff.rfl
  rw [e]
  constructor
  · rintro ⟨n, _, h2, h3⟩
    have : n = 0 ∨ n = 1 := by omega
    rcases this with rfl | rfl
    · exact .inl h3
    · obtain ⟨k, h4, h5⟩ := h3
      have h6 : j = k := h5
      subst h6
      exact .inr (takes_deep t l1 199 200 _ i j hx hl (by omega) h4)
  · rintro (h | h)
    · exact ⟨0, by omega, by omega, h⟩
    · exact ⟨1, by omega, by omega, j, takes_deep t l1 200 199 _ i j hx (by omega) hl h, rfl⟩

/- What either finds. -/
theorem Found.either {x y z : Re} {t : List Nat} {lo : Nat} {X Y Z : LS} (hz : ∀ i j, takes t 200 z i j ↔ takes t 200 x i j ∨ takes t 200 y i j) (h1 : Found x t lo X) (h2 : Found y t lo Y) (h3 : Found z t lo Z) :
    Z.found = (X.found || Y.found) ∧ (X.found = true → (Y.found = false ∨ X.at_ < Y.at_) → Z.at_ = X.at_ ∧ X.n ≤ Z.n) ∧ (Y.found = true → (X.found = false ∨ Y.at_ < X.at_) → Z.at_ = Y.at_ ∧ Y.n ≤ Z.n) ∧ (X.found = true → Y.found = true → X.at_ = Y.at_ → Z.at_ = X.at_ ∧ Z.n = max X.n Y.n) := by
  have key : ∀ {x y : Re} {X Y : LS}, (∀ i j, takes t 200 z i j ↔ takes t 200 x i j ∨ takes t 200 y i j) → Found x t lo X → Found y t lo Y → X.found = true → (Y.found = false ∨ X.at_ ≤ Y.at_) → Z.found = true ∧ Z.at_ = X.at_ ∧ X.n ≤ Z.n ∧ (Z.n ≤ X.n ∨ Y.found = true ∧ Z.n ≤ Y.n ∧ Y.at_ = X.at_) := by
    intro x y X Y hz h1 h2 e hy
    obtain ⟨i, j, a1, a2, a3, a4, a5, a6, a7, a8⟩ := h1.yes e
    have hm := (hz i j).mpr (.inl a6)
    cases hZ : Z.found with
    | false => exact absurd hm ((h3.no hZ).2.2 i j a3 (by omega))
    | true =>
      obtain ⟨p, q, b1, b2, b3, b4, b5, b6, b7, b8⟩ := h3.yes hZ
      have e1 : ¬ i < p := fun w => b7 i j a3 w hm
      have e2 : ¬ p < i := fun w => by
        rcases (hz p q).mp b6 with c | c
        · exact a7 p q b3 w c
        · rcases hy with hy | hy
          · exact (h2.no hy).2.2 p q b3 (by omega) c
          · cases hY : Y.found with
            | false => exact (h2.no hY).2.2 p q b3 (by omega) c
            | true =>
              obtain ⟨i', j', d1, d2, d3, d4, d5, d6, d7, d8⟩ := h2.yes hY
              exact d7 p q b3 (by omega) c
      have e3 : p = i := by omega
      subst e3
      have e4 := b8 j hm
      refine ⟨rfl, by omega, by omega, ?_⟩
      rcases (hz p q).mp b6 with c | c
      · have := a8 q c
        exact .inl (by omega)
      · cases hY : Y.found with
        | false => exact absurd c ((h2.no hY).2.2 p q b3 (by omega))
        | true =>
          obtain ⟨i', j', d1, d2, d3, d4, d5, d6, d7, d8⟩ := h2.yes hY
          have f1 : ¬ p < i' := fun w => d7 p q b3 w c
          have f2 : (p : Int) ≤ (i' : Int) := by
            rcases hy with hy | hy
            · rw [hY] at hy; cases hy
            · omega
          have f3 : i' = p := by omega
          subst f3
          have := d8 q c
          exact .inr ⟨rfl, by omega, by omega⟩
  have hz2 : ∀ i j, takes t 200 z i j ↔ takes t 200 y i j ∨ takes t 200 x i j := fun i j => (hz i j).trans Or.comm
  refine ⟨?_, fun e hy => ?_, fun e hx => ?_, fun e e2 e3 => ?_⟩
  · cases hX : X.found with
    | true =>
      cases hY : Y.found with
      | false => exact (key hz h1 h2 hX (.inl hY)).1
      | true =>
        rcases Int.le_total X.at_ Y.at_ with q | q
        · exact (key hz h1 h2 hX (.inr q)).1
        · exact (key hz2 h2 h1 hY (.inr q)).1
    | false =>
      cases hY : Y.found with
      | true => exact (key hz2 h2 h1 hY (.inl hX)).1
      | false =>
        cases hZ : Z.found with
        | false => rfl
        | true =>
          obtain ⟨p, q, b1, b2, b3, b4, b5, b6, b7, b8⟩ := h3.yes hZ
          rcases (hz p q).mp b6 with c | c
          · exact absurd c ((h1.no hX).2.2 p q b3 (by omega))
          · exact absurd c ((h2.no hY).2.2 p q b3 (by omega))
  · obtain ⟨_, a, b, _⟩ := key hz h1 h2 e (hy.imp id (by omega))
    exact ⟨a, b⟩
  · obtain ⟨_, a, b, _⟩ := key hz2 h2 h1 e (hx.imp id (by omega))
    exact ⟨a, b⟩
  · obtain ⟨_, a, b, c⟩ := key hz h1 h2 e (.inr (by omega))
    obtain ⟨_, a', b', c'⟩ := key hz2 h2 h1 e2 (.inr (by omega))
    refine ⟨a, ?_⟩
    rcases c with c | ⟨_, c, _⟩ <;> omega
/- What a tree that may be left out finds. -/
theorem Found.maybe {x z : Re} {t : List Nat} {lo : Nat} {X Z : LS} (hz : ∀ i j, takes t 200 z i j ↔ j = i ∨ takes t 200 x i j) (hlo : lo ≤ t.length) (h1 : Found x t lo X) (h3 : Found z t lo Z) :
    Z.found = true ∧ Z.at_ = lo ∧ (X.found = true → X.at_ = lo → Z.n = X.n) ∧ (X.found = false ∨ (lo : Int) < X.at_ → Z.n = 0) := by
  have hm : takes t 200 z lo lo := (hz lo lo).mpr (.inl rfl)
  cases hZ : Z.found with
  | false => exact absurd hm ((h3.no hZ).2.2 lo lo (Nat.le_refl _) hlo)
  | true =>
    obtain ⟨p, q, b1, b2, b3, b4, b5, b6, b7, b8⟩ := h3.yes hZ
    have e1 : ¬ lo < p := fun w => b7 lo lo (Nat.le_refl _) w hm
    have e2 : p = lo := by omega
    subst e2
    refine ⟨rfl, b1, fun e ea => ?_, fun hn => ?_⟩
    · obtain ⟨i, j, a1, a2, a3, a4, a5, a6, a7, a8⟩ := h1.yes e
      have e3 : i = p := by omega
      subst e3
      have := b8 j ((hz i j).mpr (.inr a6))
      rcases (hz i q).mp b6 with c | c
      · omega
      · have := a8 q c
        omega
    · rcases (hz p q).mp b6 with c | c
      · omega
      · cases hX : X.found with
        | false => exact absurd c ((h1.no hX).2.2 p q (Nat.le_refl _) hlo)
        | true =>
          obtain ⟨i, j, a1, a2, a3, a4, a5, a6, a7, a8⟩ := h1.yes hX
          rcases hn with hn | hn
          · rw [hX] at hn; cases hn
          · exact absurd c (a7 p q (Nat.le_refl _) (by omega))
end Go.Proofs.Ytmnghdccikoaoaa.Mt
