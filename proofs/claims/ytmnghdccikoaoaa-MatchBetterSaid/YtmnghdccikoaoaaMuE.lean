/-
  Package match: what a walk does to what a search knows.
-/
import Derived.Test.YtmnghdccikoaoaaMuD
import Derived.Test.YtmnghdccikoaoaaMuC
namespace Go.Proofs.Ytmnghdccikoaoaa.Mt
open Go.RowKit Go.Proofs.Ytmnghdccikoaoaa.Sh

variable {sts : List St} {t : List Nat} {f : Nat}

def isTake (sts : List St) (q : Nat) : Bool := match sts[q]? with
  | some s => decide (s.act = 1)
  | none => false
def isGoal (sts : List St) (q : Nat) : Bool := match sts[q]? with
  | some s => !decide (s.act = 1)
  | none => false
theorem isTake_iff (sts : List St) (q : Nat) : isTake sts q = true ↔ ∃ s, sts[q]? = some s ∧ s.act = 1 := by
  unfold isTake
  split
  · rename_i s hs; simp [hs]
  · rename_i hs; simp [hs]
theorem isGoal_iff (sts : List St) (q : Nat) : isGoal sts q = true ↔ ∃ s, sts[q]? = some s ∧ s.act ≠ 1 := by
  unfold isGoal
  split
  · rename_i s hs; simp [hs]
  · rename_i hs; simp [hs]
theorem fold_L (i p : Nat) : ∀ (ps : List Nat) (X : LS), (ps.foldl (put1s sts i p) X).L = X.L ++ (ps.filter (isTake sts)).map (fun q => (q, i))
  | [], X => by simp
  | q :: l, X => by
    rw [List.foldl_cons, fold_L i p l]
    unfold put1s isTake
    cases hs : sts[q]? with
    | none => simp [hs]
    | some s =>
      by_cases ha : s.act = 1
      · simp [hs, ha]
      · simp [hs, ha]
theorem fold_same (i p : Nat) : ∀ (ps : List Nat) (X : LS), (∀ q ∈ ps, isGoal sts q = false) → (ps.foldl (put1s sts i p) X).at_ = X.at_ ∧ (ps.foldl (put1s sts i p) X).n = X.n ∧ (ps.foldl (put1s sts i p) X).found = X.found
  | [], X, _ => ⟨rfl, rfl, rfl⟩
  | q :: l, X, h => by
    have h1 := h q (by simp)
    have ih := fold_same i p l (put1s sts i p X q) fun x hx => h x (by simp [hx])
    rw [List.foldl_cons]
    have e : (put1s sts i p X q).at_ = X.at_ ∧ (put1s sts i p X q).n = X.n ∧ (put1s sts i p X q).found = X.found := by
      unfold put1s
      unfold isGoal at h1
      cases hs : sts[q]? with
      | none => simp
      | some s =>
        rw [hs] at h1
        simp at h1
        simp [h1]
    exact ⟨ih.1.trans e.1, ih.2.1.trans e.2.1, ih.2.2.trans e.2.2⟩
theorem fold_goal (i p : Nat) : ∀ (ps : List Nat) (X : LS), (∃ q ∈ ps, isGoal sts q = true) → (ps.foldl (put1s sts i p) X).at_ = (i : Int) ∧ (ps.foldl (put1s sts i p) X).n = (p : Int) - (i : Int) ∧ (ps.foldl (put1s sts i p) X).found = true
  | [], X, h => by simp at h
  | q :: l, X, h => by
    rw [List.foldl_cons]
    by_cases hl : ∃ x ∈ l, isGoal sts x = true
    · exact fold_goal i p l _ hl
    · have hq : isGoal sts q = true := by
        obtain ⟨x, hx, hg⟩ := h
        rcases List.mem_cons.mp hx with rfl | hx
        · exact hg
        · exact absurd ⟨x, hx, hg⟩ hl
      have h2 := fold_same i p l (put1s sts i p X q) fun x hx => by
        cases hc : isGoal sts x with
        | false => rfl
        | true => exact absurd ⟨x, hx, hc⟩ hl
      obtain ⟨s, hs, ha⟩ := (isGoal_iff sts q).mp hq
      have e : put1s sts i p X q = { L := X.L, at_ := (i : Int), n := (p : Int) - (i : Int), found := true } := by
        unfold put1s; rw [hs]; simp [ha]
      rw [e] at h2 ⊢
      exact h2

/- What a search knows at a place. -/
structure Now (sts : List St) (t : List Nat) (f lo p cur : Nat) (seen : List Int) (X : LS) : Prop where
  sl : seen.length = sts.length
  sv : ∀ (q : Nat) (x : Int), seen[q]? = some x → x ≤ (p : Int) + 1
  cl : ∀ q q', marked (p : Int) seen q → eps1 sts (p : Int) (t.length : Int) q q' → marked (p : Int) seen q'
  li : ∀ e ∈ X.L, marked (p : Int) seen e.1 ∧ (∃ s, sts[e.1]? = some s ∧ s.act = 1) ∧ AtP sts t f e.2 p e.1 ∧ lo ≤ e.2 ∧ e.2 ≤ cur
  lc : ∀ q s, marked (p : Int) seen q → sts[q]? = some s → s.act = 1 → ∃ i, (q, i) ∈ X.L
  nd : (X.L.map Prod.fst).Nodup
  so : X.L.Pairwise (fun a b => a.2 ≤ b.2)
  gl : ∀ q s, marked (p : Int) seen q → sts[q]? = some s → s.act = 0 → X.found = true ∧ X.at_ + X.n = (p : Int) ∧ X.at_ ≤ (cur : Int)
  fd : X.found = true → ∃ i j : Nat, X.at_ = i ∧ X.at_ + X.n = j ∧ lo ≤ i ∧ j ≤ p ∧ Goes sts t f i j
  nf : X.found = false → X.at_ = 0 ∧ X.n = 0
theorem nodup_len : ∀ (n : Nat) (l : List Nat), l.Nodup → (∀ x ∈ l, x < n) → l.length ≤ n
  | 0, l, _, h => by
    cases l with
    | nil => simp
    | cons x l => exact absurd (h x (by simp)) (by omega)
  | n + 1, l, hd, h => by
    by_cases hn : n ∈ l
    · have h1 := nodup_len n (l.erase n) (hd.erase n) fun x hx => by
        obtain ⟨h2, h3⟩ := (hd.mem_erase_iff).mp hx
        have := h x h3
        omega
      have h4 := List.length_erase_of_mem hn
      omega
    · have h1 := nodup_len n l hd fun x hx => by
        have := h x hx
        have : x ≠ n := fun e => hn (e ▸ hx)
        omega
      omega
theorem Now.len {lo p cur : Nat} {seen : List Int} {X : LS} (h : Now sts t f lo p cur seen X) : X.L.length ≤ sts.length := by
  have h1 := nodup_len sts.length (X.L.map Prod.fst) h.nd fun q hq => by
    obtain ⟨e, he, rfl⟩ := List.mem_map.mp hq
    obtain ⟨s, hs, _⟩ := (h.li e he).2.1
    exact (List.getElem?_eq_some_iff.mp hs).1
  simpa using h1
def One (sts : List St) : Prop := ∀ (q : Nat) (s : St), sts[q]? = some s → s.act = 0 → q = 0

/- A walk from a state, for a start. -/
structure Walked (sts : List St) (t : List Nat) (f lo p : Nat) (seen : List Int) (X : LS) (q0 i : Nat) (seen' : List Int) (X' : LS) : Prop where
  now : Now sts t f lo p i seen' X'
  gr : ∀ e ∈ X.L, e ∈ X'.L
  re : ∀ q, Reach sts (p : Int) (t.length : Int) q0 q → marked (p : Int) seen' q
  old : ∀ q, marked (p : Int) seen q → marked (p : Int) seen' q
  mono : X.found = true → X'.found = true ∧ X'.at_ ≤ X.at_ ∧ (X'.at_ = X.at_ → X.n ≤ X'.n)
  keep : (∃ q s, marked (p : Int) seen q ∧ sts[q]? = some s ∧ s.act = 0) → X'.at_ = X.at_ ∧ X'.n = X.n ∧ X'.found = X.found
  new_at : X.found = false → X'.found = true → X'.at_ ≤ (i : Int)
theorem Now.walked (one : One sts) {lo p cur : Nat} {seen : List Int} {X : LS} (h : Now sts t f lo p cur seen X) {q0 i : Nat} (hq : AtP sts t f i p q0) (hlo : lo ≤ i) (hi : cur ≤ i) (hf : X.found = true → (i : Int) ≤ X.at_) {cF : Cfg}
    (hE : Ended sts (p : Int) (t.length : Int) { i := q0, op := [], seen := seen, ps := [] } cF) : Walked sts t f lo p seen X q0 i cF.seen (cF.ps.foldl (put1s sts i p) X) := by
  obtain ⟨c1, hs1, hr1, ho1⟩ := hE
  obtain ⟨hw, hm, hc⟩ := inv_ended h.sl rfl hs1 hr1 ho1
  obtain ⟨new, hps, hnd, hmem⟩ := hw.ps
  simp only [List.nil_append] at hps
  rw [hps]
  have hcl : ∀ q q', marked (p : Int) cF.seen q → eps1 sts (p : Int) (t.length : Int) q q' → marked (p : Int) cF.seen q' := fun q q' h1 h2 => by
    by_cases h3 : marked (p : Int) seen q
    · exact hw.m2 q' (h.cl q q' h3 h2)
    · exact hc q q' h1 h3 h2
  have hre : ∀ q, Reach sts (p : Int) (t.length : Int) q0 q → marked (p : Int) cF.seen q := fun q hr => by
    induction hr with
    | refl => exact hm
    | tail b c _ h2 ih => exact hcl b c ih h2
  have hip : i ≤ p := hq.le
  have hnew : ∀ q ∈ new, AtP sts t f i p q ∧ ¬ marked (p : Int) seen q ∧ marked (p : Int) cF.seen q ∧ puts sts q := fun q hqn => by
    obtain ⟨h1, h2, h3⟩ := (hmem q).mp hqn
    rcases hw.m1 q h1 with h4 | h4
    · exact absurd h4 h2
    · exact ⟨hq.reach h4, h2, h1, h3⟩
  have hL := fold_L (sts := sts) i p new X
  have hmemL : ∀ e, e ∈ (new.foldl (put1s sts i p) X).L ↔ e ∈ X.L ∨ (e.2 = i ∧ e.1 ∈ new ∧ isTake sts e.1 = true) := fun e => by
    rw [hL, List.mem_append, List.mem_map]
    constructor
    · rintro (h1 | ⟨q, h1, rfl⟩)
      · exact .inl h1
      · obtain ⟨h2, h3⟩ := List.mem_filter.mp h1
        exact .inr ⟨rfl, h2, h3⟩
    · rintro (h1 | ⟨rfl, h2, h3⟩)
      · exact .inl h1
      · exact .inr ⟨e.1, List.mem_filter.mpr ⟨h2, h3⟩, rfl⟩
  have hgoal : ∀ q ∈ new, isGoal sts q = true → ∃ s, sts[q]? = some s ∧ s.act = 0 := fun q hqn hg => by
    obtain ⟨s, hs, ha⟩ := (isGoal_iff sts q).mp hg
    obtain ⟨s', hs', ha'⟩ := (hnew q hqn).2.2.2
    rw [hs] at hs'
    cases hs'
    exact ⟨s, hs, ha'.resolve_left ha⟩
  have hval : ((∃ q ∈ new, isGoal sts q = true) ∧ (new.foldl (put1s sts i p) X).at_ = (i : Int) ∧ (new.foldl (put1s sts i p) X).n = (p : Int) - (i : Int) ∧ (new.foldl (put1s sts i p) X).found = true) ∨
      ((∀ q ∈ new, isGoal sts q = false) ∧ (new.foldl (put1s sts i p) X).at_ = X.at_ ∧ (new.foldl (put1s sts i p) X).n = X.n ∧ (new.foldl (put1s sts i p) X).found = X.found) := by
    by_cases hg : ∃ q ∈ new, isGoal sts q = true
    · exact .inl ⟨hg, fold_goal i p new X hg⟩
    · have hg2 : ∀ q ∈ new, isGoal sts q = false := fun q hqn => by
        cases hc : isGoal sts q with
        | false => rfl
        | true => exact absurd ⟨q, hqn, hc⟩ hg
      exact .inr ⟨hg2, fold_same i p new X hg2⟩
  refine ⟨⟨hw.sl, fun q x hx => ?_, hcl, fun e he => ?_, fun q s h1 h2 h3 => ?_, ?_, ?_, fun q s h1 h2 h3 => ?_, fun hfd => ?_, fun hfd => ?_⟩, fun e he => (hmemL e).mpr (.inl he), hre, hw.m2, fun hfd => ?_, fun hk => ?_, fun hf1 hf2 => ?_⟩
  · by_cases hmk : marked (p : Int) cF.seen q
    · unfold marked at hmk
      rw [hx] at hmk
      simp only [Option.some.injEq] at hmk
      omega
    · have := hw.m3 q hmk
      rw [hx] at this
      exact h.sv q x this.symm
  · rcases (hmemL e).mp he with h1 | ⟨rfl, h1, h2⟩
    · obtain ⟨q1, q2, q3, q4, q5⟩ := h.li e h1
      exact ⟨hw.m2 _ q1, q2, q3, q4, by omega⟩
    · obtain ⟨q1, q2, q3, q4⟩ := hnew e.1 h1
      exact ⟨q3, (isTake_iff sts e.1).mp h2, q1, hlo, Nat.le_refl _⟩
  · by_cases h4 : marked (p : Int) seen q
    · obtain ⟨i', hi'⟩ := h.lc q s h4 h2 h3
      exact ⟨i', (hmemL _).mpr (.inl hi')⟩
    · refine ⟨i, (hmemL _).mpr (.inr ⟨rfl, (hmem q).mpr ⟨h1, h4, ⟨s, h2, .inl h3⟩⟩, (isTake_iff sts q).mpr ⟨s, h2, h3⟩⟩)⟩
  · rw [hL, List.map_append, List.map_map]
    refine List.nodup_append.mpr ⟨h.nd, ?_, fun a ha b hb => ?_⟩
    · have e : (Prod.fst ∘ fun q => (q, i)) = (id : Nat → Nat) := rfl
      rw [e, List.map_id]
      exact hnd.filter _
    · obtain ⟨e, he, rfl⟩ := List.mem_map.mp ha
      obtain ⟨q, hq2, rfl⟩ := List.mem_map.mp hb
      intro hh
      have h5 := (hnew q (List.mem_filter.mp hq2).1).2.1
      have h6 := (h.li e he).1
      simp only [Function.comp] at hh
      rw [hh] at h6
      exact h5 h6
  · rw [hL]
    refine List.pairwise_append.mpr ⟨h.so, ?_, fun a ha b hb => ?_⟩
    · rw [List.pairwise_map]
      exact List.pairwise_of_forall fun _ _ => Nat.le_refl _
    · obtain ⟨q, _, rfl⟩ := List.mem_map.mp hb
      have := (h.li a ha).2.2.2.2
      show a.2 ≤ i
      omega
  · rcases hval with ⟨_, e1, e2, e3⟩ | ⟨hg, e1, e2, e3⟩
    · rw [e1, e2]
      exact ⟨e3, by omega, Int.le_refl _⟩
    · have h4 : marked (p : Int) seen q := Classical.byContradiction fun h4 => by
        have h5 : q ∈ new := (hmem q).mpr ⟨h1, h4, ⟨s, h2, .inr h3⟩⟩
        have h6 := hg q h5
        have h7 : isGoal sts q = true := (isGoal_iff sts q).mpr ⟨s, h2, by omega⟩
        rw [h6] at h7
        cases h7
      obtain ⟨q1, q2, q3⟩ := h.gl q s h4 h2 h3
      rw [e1, e2, e3]
      exact ⟨q1, q2, by omega⟩
  · rcases hval with ⟨⟨q, hqn, hg⟩, e1, e2, e3⟩ | ⟨hg, e1, e2, e3⟩
    · obtain ⟨s, hs, ha⟩ := hgoal q hqn hg
      exact ⟨i, p, e1, by rw [e1, e2]; omega, hlo, Nat.le_refl _, q, s, (hnew q hqn).1, hs, ha⟩
    · rw [e3] at hfd
      rw [e1, e2]
      exact h.fd hfd
  · rcases hval with ⟨_, e1, e2, e3⟩ | ⟨hg, e1, e2, e3⟩
    · rw [e3] at hfd; cases hfd
    · rw [e3] at hfd
      rw [e1, e2]
      exact h.nf hfd
  · rcases hval with ⟨⟨q, hqn, hg⟩, e1, e2, e3⟩ | ⟨hg, e1, e2, e3⟩
    · have h5 := hf hfd
      obtain ⟨i0, j0, q1, q2, q3, q4, _⟩ := h.fd hfd
      rw [e1, e2, e3]
      exact ⟨rfl, h5, fun e => by omega⟩
    · rw [e1, e2, e3]
      exact ⟨hfd, Int.le_refl _, fun _ => Int.le_refl _⟩
  · rcases hval with ⟨⟨q, hqn, hg⟩, e1, e2, e3⟩ | ⟨hg, e1, e2, e3⟩
    · obtain ⟨q', s', h1, h2, h3⟩ := hk
      obtain ⟨s, hs, ha⟩ := hgoal q hqn hg
      have e4 := one q s hs ha
      have e5 := one q' s' h2 h3
      have h6 := (hnew q hqn).2.1
      rw [e4, ← e5] at h6
      exact absurd h1 h6
    · exact ⟨e1, e2, e3⟩
  · rcases hval with ⟨_, e1, e2, e3⟩ | ⟨hg, e1, e2, e3⟩
    · rw [e1]; exact Int.le_refl _
    · rw [e3, hf1] at hf2; cases hf2
end Go.Proofs.Ytmnghdccikoaoaa.Mt
