/-
  Package match: what the states of a tree take is what the tree takes: ways, times, all right trees.
-/
import Derived.Test.YtmnghdccikoaoaaMtN
namespace Go.Proofs.Ytmnghdccikoaoaa.Mt
open Go.RowKit Go.Proofs.Ytmnghdccikoaoaa.Sh

variable {t : List Nat}

theorem at_end {L : List St} {s : St} : (L ++ [s])[((L.length : Int)).toNat]? = some s := by simp
theorem of_agrees {S L L' : List St} {s : St} {n : Nat} (h : Agrees S L n) (hn : n ≤ L'.length) (hl : L'.length + 1 ≤ L.length) (hp : ∀ q, q < L'.length + 1 → L[q]? = (L' ++ [s])[q]?) : S[((L'.length : Int)).toNat]? = some s := by
  have e : ((L'.length : Int)).toNat = L'.length := by simp
  rw [e, h _ hn (by omega), hp _ (by omega)]
  simp

/- One state alone. -/
theorem frag_one {g : Int → St} {R : Nat → Nat → Prop} (h1 : ∀ next S q i j n, S[q]? = some (g next) → (Acc S t (n + 1) (q : Nat) i j ↔ ∃ k, R i k ∧ Acc S t n next k j)) (h0 : ∀ next, (g next).act ≠ 0) :
    Frag t (fun next sts => (sts ++ [g next], (sts.length : Int))) R where
  adds := fun _ _ => by simp
  pre := fun next sts q hq => by simp [List.getElem?_append_left hq]
  fwd := fun next sts S hA n i j h => by
    have hs : S[sts.length]? = some (g next) := by rw [hA _ (Nat.le_refl _) (by simp)]; simp
    cases n with
    | zero =>
      obtain ⟨st, q1, q2, _⟩ := h
      have q1 : S[sts.length]? = some st := q1
      rw [hs] at q1
      cases q1
      exact absurd q2 (h0 next)
    | succ n =>
      obtain ⟨k, q1, q2⟩ := (h1 next S _ i j n hs).mp h
      exact ⟨k, n, Nat.le_succ _, q1, q2⟩
  bwd := fun next sts S hA n i k j h2 h3 => by
    have hs : S[sts.length]? = some (g next) := by rw [hA _ (Nat.le_refl _) (by simp)]; simp
    exact ⟨n + 1, (h1 next S _ i j n hs).mpr ⟨k, h2, h3⟩⟩

theorem frag_set (s0 s1 s2 s3 : Int) : Frag t (fun next sts => (sts ++ [⟨1, s0, s1, s2, s3, next, 0⟩], (sts.length : Int))) (fun i j => j = i + 1 ∧ ∃ c, t[i]? = some c ∧ inSet s0 s1 s2 s3 c = true) :=
  frag_one (g := fun next => ⟨1, s0, s1, s2, s3, next, 0⟩) (fun next S q i j n hs => by
    constructor
    · rintro ⟨st, q1, q2⟩
      have q1 : S[q]? = some st := q1
      rw [hs] at q1
      cases q1
      simp at q2
      exact ⟨i + 1, ⟨rfl, q2.1⟩, q2.2⟩
    · rintro ⟨k, ⟨rfl, q1⟩, q2⟩
      exact ⟨_, hs, .inl ⟨rfl, q1, q2⟩⟩) (fun _ => by simp)
theorem frag_begin : Frag t (fun next sts => (sts ++ [⟨3, 0, 0, 0, 0, next, 0⟩], (sts.length : Int))) (fun i j => i = 0 ∧ j = i) :=
  frag_one (g := fun next => ⟨3, 0, 0, 0, 0, next, 0⟩) (fun next S q i j n hs => by
    constructor
    · rintro ⟨st, q1, q2⟩
      have q1 : S[q]? = some st := q1
      rw [hs] at q1
      cases q1
      simp at q2
      exact ⟨i, ⟨q2.1, rfl⟩, q2.2⟩
    · rintro ⟨k, ⟨q0, rfl⟩, q2⟩
      exact ⟨_, hs, .inr (.inr (.inl ⟨rfl, q0, q2⟩))⟩) (fun _ => by simp)
theorem frag_end : Frag t (fun next sts => (sts ++ [⟨4, 0, 0, 0, 0, next, 0⟩], (sts.length : Int))) (fun i j => i = t.length ∧ j = i) :=
  frag_one (g := fun next => ⟨4, 0, 0, 0, 0, next, 0⟩) (fun next S q i j n hs => by
    constructor
    · rintro ⟨st, q1, q2⟩
      have q1 : S[q]? = some st := q1
      rw [hs] at q1
      cases q1
      simp at q2
      exact ⟨i, ⟨q2.1, rfl⟩, q2.2⟩
    · rintro ⟨k, ⟨q0, rfl⟩, q2⟩
      exact ⟨_, hs, .inr (.inr (.inr ⟨rfl, q0, q2⟩))⟩) (fun _ => by simp)

/- As many as may be left out. -/
theorem may_pre {f : Lay} {R : Nat → Nat → Prop} (h : Frag t f R) (out : Int) : ∀ (n : Nat) (first : Int) (sts : List St) (q : Nat), q < sts.length → (layMay f out n first sts).1[q]? = sts[q]?
  | 0, _, _, _, _ => rfl
  | n + 1, first, sts, q, hq => by
    have h1 := h.adds first sts
    unfold layMay
    rw [may_pre h out n _ _ q (by rw [List.length_append]; omega), List.getElem?_append_left (by omega)]
    exact h.pre first sts q hq
theorem may_fwd {f : Lay} {R : Nat → Nat → Prop} (h : Frag t f R) (out : Int) : ∀ (d : Nat) (first : Int) (sts : List St) (S : List St), Agrees S (layMay f out d first sts).1 sts.length → ∀ n i j, Acc S t n (layMay f out d first sts).2 i j →
    ∃ k m c, c ≤ n ∧ m ≤ d ∧ iter R m i k ∧ ((m = d ∧ Acc S t c first k j) ∨ Acc S t c out k j)
  | 0, first, sts, S, _, n, i, j, ha => ⟨i, 0, n, Nat.le_refl _, Nat.le_refl _, rfl, .inl ⟨rfl, ha⟩⟩
  | d + 1, first, sts, S, hA, n, i, j, ha => by
    have h1 := h.adds first sts
    have h2 := layMay_adds h.adds out d ((f first sts).1.length : Int) ((f first sts).1 ++ [fork (f first sts).2 out])
    rw [List.length_append] at h2
    have hpre := may_pre h out d ((f first sts).1.length : Int) ((f first sts).1 ++ [fork (f first sts).2 out])
    rw [layMay] at hA ha
    have hs := of_agrees (s := fork (f first sts).2 out) hA h1 (by simpa using h2) (fun q hq => hpre q (by rw [List.length_append]; simpa using hq))
    obtain ⟨k, m, c, q1, q2, q3, q4⟩ := may_fwd h out d _ _ S (hA.less (by rw [List.length_append]; omega)) n i j ha
    rcases q4 with ⟨rfl, q4⟩ | q4
    · cases c with
      | zero => exact absurd q4 (acc_fork0 hs)
      | succ c =>
        rcases (acc_fork hs).mp q4 with q5 | q5
        · have hA2 : Agrees S (f first sts).1 sts.length := hA.head (by omega) fun q hq => by
            rw [hpre q (by rw [List.length_append]; omega), List.getElem?_append_left hq]
          obtain ⟨k2, c2, p1, p2, p3⟩ := h.fwd first sts S hA2 c k j q5
          exact ⟨k2, m + 1, c2, by omega, Nat.le_refl _, (iter_snoc m i k2).mpr ⟨k, q3, p2⟩, .inl ⟨rfl, p3⟩⟩
        · exact ⟨k, m, c, by omega, by omega, q3, .inr q5⟩
    · exact ⟨k, m, c, q1, by omega, q3, .inr q4⟩
theorem may_bwd {f : Lay} {R : Nat → Nat → Prop} (h : Frag t f R) (out : Int) : ∀ (d : Nat) (first : Int) (sts : List St) (S : List St), Agrees S (layMay f out d first sts).1 sts.length → ∀ k j i m c, m ≤ d → iter R m i k → ((m = d ∧ Acc S t c first k j) ∨ (m < d ∧ Acc S t c out k j)) →
    ∃ n, Acc S t n (layMay f out d first sts).2 i j
  | 0, first, sts, S, _, k, j, i, m, c, hm, hi, ha => by
    obtain rfl : m = 0 := by omega
    rcases ha with ⟨_, ha⟩ | ⟨h0, _⟩
    · exact ⟨c, by rw [← (hi : k = i)]; exact ha⟩
    · omega
  | d + 1, first, sts, S, hA, k, j, i, m, c, hm, hi, ha => by
    have h1 := h.adds first sts
    have h2 := layMay_adds h.adds out d ((f first sts).1.length : Int) ((f first sts).1 ++ [fork (f first sts).2 out])
    rw [List.length_append] at h2
    have hpre := may_pre h out d ((f first sts).1.length : Int) ((f first sts).1 ++ [fork (f first sts).2 out])
    rw [layMay] at hA ⊢
    have hs := of_agrees (s := fork (f first sts).2 out) hA h1 (by simpa using h2) (fun q hq => hpre q (by rw [List.length_append]; simpa using hq))
    have ih := may_bwd h out d _ _ S (hA.less (by rw [List.length_append]; omega))
    have hA2 : Agrees S (f first sts).1 sts.length := hA.head (by omega) fun q hq => by
      rw [hpre q (by rw [List.length_append]; omega), List.getElem?_append_left hq]
    rcases ha with ⟨rfl, ha⟩ | ⟨hlt, ha⟩
    · obtain ⟨k2, q1, q2⟩ := (iter_snoc d i k).mp hi
      obtain ⟨c2, q3⟩ := h.bwd first sts S hA2 c k2 k j q2 ha
      exact ih k2 j i d (c2 + 1) (Nat.le_refl _) q1 (.inl ⟨rfl, (acc_fork hs).mpr (.inl q3)⟩)
    · rcases Nat.lt_or_ge m d with h3 | h3
      · exact ih k j i m c (by omega) hi (.inr ⟨h3, ha⟩)
      · obtain rfl : m = d := by omega
        exact ih k j i m (c + 1) (Nat.le_refl _) hi (.inl ⟨rfl, (acc_fork hs).mpr (.inr ha)⟩)
theorem frag_may {f : Lay} {R : Nat → Nat → Prop} (h : Frag t f R) (d : Nat) : Frag t (fun next sts => layMay f next d next sts) (fun i j => ∃ m, m ≤ d ∧ iter R m i j) where
  adds := fun next sts => layMay_adds h.adds next d next sts
  pre := fun next sts q hq => may_pre h next d next sts q hq
  fwd := fun next sts S hA n i j ha => by
    obtain ⟨k, m, c, q1, q2, q3, q4⟩ := may_fwd h next d next sts S hA n i j ha
    exact ⟨k, c, q1, ⟨m, q2, q3⟩, q4.elim (·.2) id⟩
  bwd := fun next sts S hA n i k j ⟨m, q1, q2⟩ ha => by
    refine may_bwd h next d next sts S hA k j i m n q1 q2 ?_
    rcases Nat.lt_or_ge m d with h3 | h3
    · exact .inr ⟨h3, ha⟩
    · exact .inl ⟨by omega, ha⟩
end Go.Proofs.Ytmnghdccikoaoaa.Mt
