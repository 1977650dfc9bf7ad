/-
  Package match: a search, place by place: what is known, and what it tells in the end.
-/
import Derived.Test.YtmnghdccikoaoaaMuE
namespace Go.Proofs.Ytmnghdccikoaoaa.Mt
open Go.RowKit Go.Proofs.Ytmnghdccikoaoaa.Sh

variable {sts : List St} {t : List Nat} {f : Nat} {lo p b cur : Nat} {seen seen' : List Int} {X X' Y : LS}

theorem AtP.same {i q : Nat} (h : AtP sts t f i i q) : Reach sts (i : Int) (t.length : Int) f q := by
  rcases h.back with ⟨_, hr⟩ | ⟨p0, q0, s, c, e, h1, _⟩
  · exact hr
  · have := h1.le; omega
/- Nothing is taken from a place. -/
def Dead (sts : List St) (t : List Nat) (f i : Nat) : Prop := ∀ q, AtP sts t f i i q → ¬ Live sts t i q ∧ ∀ s, sts[q]? = some s → s.act ≠ 0
theorem Dead.goes {i j : Nat} (h : Dead sts t f i) : ¬ Goes sts t f i j := by
  rintro ⟨q, s, ha, hs, h0⟩
  have hij := ha.le
  rcases Nat.lt_or_ge i j with e | e
  · obtain ⟨q0, h1, h2⟩ := ha.through i (Nat.le_refl _) e
    exact (h q0 h1).1 h2
  · have : j = i := by omega
    subst this
    exact (h q ha).2 s hs h0
theorem Dead.at_ {i p q : Nat} (h : Dead sts t f i) (hp : i < p) : ¬ AtP sts t f i p q := fun ha => by
  obtain ⟨q0, h1, h2⟩ := ha.through i (Nat.le_refl _) hp
  exact (h q0 h1).1 h2

structure Top (sts : List St) (t : List Nat) (f lo p b : Nat) (seen : List Int) (X : LS) : Prop where
  now : ∃ cur, cur ≤ p ∧ Now sts t f lo p cur seen X
  c1 : ∀ i q, lo ≤ i → i < b → AtP sts t f i p q → Live sts t p q → (X.found = true → (i : Int) ≤ X.at_) → ∃ i', i' ≤ i ∧ (q, i') ∈ X.L
  c2 : ∀ i j, lo ≤ i → i < b → j ≤ p → Goes sts t f i j → X.found = true ∧ X.at_ ≤ (i : Int) ∧ (X.at_ = (i : Int) → (j : Int) ≤ X.at_ + X.n)
  fb : X.found = true → X.at_ < (b : Int)
theorem no_mark {n : Nat} {p : Nat} (q : Nat) : ¬ marked (p : Int) (List.replicate n (0 : Int)) q := unmarked n (p : Int) (by omega) q
theorem no_more {n p : Nat} (q : Nat) (x : Int) (hx : (List.replicate n (0 : Int))[q]? = some x) : x ≤ (p : Int) + 1 := by
  rw [List.getElem?_replicate] at hx
  split at hx
  · cases hx; omega
  · cases hx
/- At the first place. -/
theorem top_first (hd : ∀ i, lo ≤ i → i < p → Dead sts t f i) : Top sts t f lo p p (List.replicate sts.length 0) ⟨[], 0, 0, false⟩ where
  now := ⟨0, Nat.zero_le _, ⟨by simp, fun q x hx => no_more q x hx, fun q q' h1 _ => absurd h1 (no_mark q), (fun e he => by simp at he), fun q s h1 _ _ => absurd h1 (no_mark q), by simp, by simp, fun q s h1 _ _ => absurd h1 (no_mark q), (fun h => by cases h), fun _ => ⟨rfl, rfl⟩⟩⟩
  c1 := fun i q h1 h2 h3 _ _ => absurd h3 ((hd i h1 h2).at_ h2)
  c2 := fun i j h1 h2 _ h4 => absurd h4 (hd i h1 h2).goes
  fb := fun h => by cases h
theorem Now.at_le (h : Now sts t f lo p cur seen X) (hf : X.found = true) : X.at_ ≤ (p : Int) := by
  obtain ⟨i, j, e1, e2, _, e4, q, s, ha, _⟩ := h.fd hf
  have := ha.le
  omega
/- Something begins at the place. -/
theorem Top.begun (h : Top sts t f lo p p seen X) (hnf : X.found = false) (hw : Walked sts t f lo p seen X f p seen' X') : Top sts t f lo p (p + 1) seen' X' where
  now := ⟨p, Nat.le_refl _, hw.now⟩
  c1 := fun i q h1 h2 h3 h4 h5 => by
    rcases Nat.lt_or_ge i p with e | e
    · obtain ⟨i', q1, q2⟩ := h.c1 i q h1 e h3 h4 (fun e2 => by rw [hnf] at e2; cases e2)
      exact ⟨i', q1, hw.gr _ q2⟩
    · have : i = p := by omega
      subst this
      obtain ⟨s, c, hs, ha, _, _⟩ := h4
      obtain ⟨i', hi'⟩ := hw.now.lc q s (hw.re q h3.same) hs ha
      exact ⟨i', (hw.now.li _ hi').2.2.2.2, hi'⟩
  c2 := fun i j h1 h2 h3 h4 => by
    rcases Nat.lt_or_ge i p with e | e
    · have := (h.c2 i j h1 e h3 h4).1
      rw [hnf] at this
      cases this
    · have : i = p := by omega
      subst this
      obtain ⟨q, s, ha, hs, h0⟩ := h4
      have hj : j = i := by have := ha.le; omega
      subst hj
      obtain ⟨e1, e2, e3⟩ := hw.now.gl q s (hw.re q ha.same) hs h0
      exact ⟨e1, e3, fun _ => by omega⟩
  fb := fun e => by have := hw.now.at_le e; omega
/- Nothing begins there. -/
theorem Top.passed (h : Top sts t f lo p p seen X) (hs : X.found = true ∨ Dead sts t f p) : Top sts t f lo p (p + 1) seen X where
  now := h.now
  c1 := fun i q h1 h2 h3 h4 h5 => by
    rcases Nat.lt_or_ge i p with e | e
    · exact h.c1 i q h1 e h3 h4 h5
    · have : i = p := by omega
      subst this
      rcases hs with e | e
      · have := h.fb e; have := h5 e; omega
      · exact absurd h4 (e q h3).1
  c2 := fun i j h1 h2 h3 h4 => by
    rcases Nat.lt_or_ge i p with e | e
    · exact h.c2 i j h1 e h3 h4
    · have : i = p := by omega
      subst this
      rcases hs with e | e
      · have := h.fb e; exact ⟨e, by omega, fun _ => by omega⟩
      · exact absurd h4 e.goes
  fb := fun e => by have := h.fb e; omega

/- The threads at a place, one behind the other, are on the way to the next one. -/
structure Thr (sts : List St) (t : List Nat) (f lo p : Nat) (Y : LS) (k : Nat) (seen : List Int) (X : LS) : Prop where
  now : ∃ cur, cur ≤ p ∧ Now sts t f lo (p + 1) cur seen X ∧ ∀ e ∈ Y.L.drop k, cur ≤ e.2
  pr : ∀ e ∈ Y.L.take k, ∀ s c, sts[e.1]? = some s → t[p]? = some c → inSet s.s0 s.s1 s.s2 s.s3 c = true → ∀ q, Reach sts ((p + 1 : Nat) : Int) (t.length : Int) s.next.toNat q → marked ((p + 1 : Nat) : Int) seen q ∧ (∀ x, sts[q]? = some x → x.act = 1 → ∃ i', i' ≤ e.2 ∧ (q, i') ∈ X.L) ∧
    (∀ x, sts[q]? = some x → x.act = 0 → X.found = true ∧ X.at_ ≤ (e.2 : Int) ∧ X.at_ + X.n = ((p + 1 : Nat) : Int))
  mo : Y.found = true → X.found = true ∧ X.at_ ≤ Y.at_ ∧ (X.at_ = Y.at_ → Y.n ≤ X.n)
  fb : X.found = true → X.at_ < ((p + 1 : Nat) : Int)
theorem Thr.first (h : Top sts t f lo p (p + 1) seen Y) : Thr sts t f lo p Y 0 seen { Y with L := [] } where
  now := by
    obtain ⟨cur, hc, hn⟩ := h.now
    have hno : ∀ q, ¬ marked ((p + 1 : Nat) : Int) seen q := fun q hm => by
      have := hn.sv q _ hm
      omega
    refine ⟨0, Nat.zero_le _, ⟨hn.sl, fun q x hx => by have := hn.sv q x hx; omega, fun q q' h1 _ => absurd h1 (hno q), fun e he => by simp at he, fun q s h1 _ _ => absurd h1 (hno q), by simp, by simp, fun q s h1 _ _ => absurd h1 (hno q), fun hf => ?_, hn.nf⟩, fun e _ => Nat.zero_le _⟩
    obtain ⟨i, j, e1, e2, e3, e4, e5⟩ := hn.fd hf
    exact ⟨i, j, e1, e2, e3, by omega, e5⟩
  pr := fun e he => by simp at he
  mo := fun e => ⟨e, Int.le_refl _, fun _ => Int.le_refl _⟩
  fb := h.fb
theorem take_succ_mem {α : Type} {l : List α} {k : Nat} {a e : α} (ha : l[k]? = some a) (h : e ∈ l.take (k + 1)) : e ∈ l.take k ∨ e = a := by
  rw [List.take_add_one, ha] at h
  simpa using h
theorem drop_of_get {α : Type} {l : List α} {k : Nat} {a : α} (ha : l[k]? = some a) : l.drop k = a :: l.drop (k + 1) := by
  obtain ⟨hk, e⟩ := List.getElem?_eq_some_iff.mp ha
  rw [List.drop_eq_getElem_cons hk, e]
/- A thread whose byte is not there. -/
theorem Thr.skip {k : Nat} (h : Thr sts t f lo p Y k seen X) {e : Nat × Nat} (he : Y.L[k]? = some e) (hb : ∀ s c, sts[e.1]? = some s → t[p]? = some c → inSet s.s0 s.s1 s.s2 s.s3 c = false) : Thr sts t f lo p Y (k + 1) seen X where
  now := by
    obtain ⟨cur, h1, h2, h3⟩ := h.now
    exact ⟨cur, h1, h2, fun x hx => h3 x (by rw [drop_of_get he]; exact List.mem_cons_of_mem _ hx)⟩
  pr := fun x hx s c hs hc hin => by
    rcases take_succ_mem he hx with q | rfl
    · exact h.pr x q s c hs hc hin
    · rw [hb s c hs hc] at hin; cases hin
  mo := h.mo
  fb := h.fb
/- A thread that goes on. -/
theorem Thr.goes {k : Nat} (h : Thr sts t f lo p Y k seen X) (hso : Y.L.Pairwise (fun a b => a.2 ≤ b.2)) {e : Nat × Nat} (he : Y.L[k]? = some e) (hep : e.2 ≤ p) {s : St} (hs : sts[e.1]? = some s) (hw : Walked sts t f lo (p + 1) seen X s.next.toNat e.2 seen' X') : Thr sts t f lo p Y (k + 1) seen' X' where
  now := by
    refine ⟨e.2, hep, hw.now, fun x hx => ?_⟩
    have hk := drop_of_get he
    have h1 : (Y.L.drop k).Pairwise (fun a b => a.2 ≤ b.2) := hso.sublist (List.drop_sublist _ _)
    rw [hk] at h1
    exact (List.pairwise_cons.mp h1).1 x hx
  pr := fun x hx s' c hs' hc hin q hr => by
    rcases take_succ_mem he hx with hq | rfl
    · obtain ⟨h1, h2, h3⟩ := h.pr x hq s' c hs' hc hin q hr
      refine ⟨hw.old q h1, fun y hy ha => ?_, fun y hy ha => ?_⟩
      · obtain ⟨i', q1, q2⟩ := h2 y hy ha
        exact ⟨i', q1, hw.gr _ q2⟩
      · obtain ⟨k1, k2, k3⟩ := hw.keep ⟨q, y, h1, hy, ha⟩
        rw [k1, k2, k3]
        exact h3 y hy ha
    · rw [hs] at hs'
      cases hs'
      have hm := hw.re q hr
      refine ⟨hm, fun y hy ha => ?_, fun y hy ha => ?_⟩
      · obtain ⟨i', hi'⟩ := hw.now.lc q y hm hy ha
        exact ⟨i', (hw.now.li _ hi').2.2.2.2, hi'⟩
      · obtain ⟨e1, e2, e3⟩ := hw.now.gl q y hm hy ha
        exact ⟨e1, e3, e2⟩
  mo := fun hy => by
    obtain ⟨m1, m2, m3⟩ := h.mo hy
    obtain ⟨w1, w2, w3⟩ := hw.mono m1
    exact ⟨w1, by omega, fun e => by have := m3 (by omega); have := w3 (by omega); omega⟩
  fb := fun hx => by
    obtain ⟨i, j, e1, _, _, _, q, s', ha, _⟩ := hw.now.fd hx
    cases hf : X.found with
    | true =>
      have := h.fb hf
      have := (hw.mono hf).2.1
      omega
    | false =>
      by_cases hz : X'.at_ ≤ (e.2 : Int)
      · omega
      · exfalso
        exact absurd (hw.new_at hf hx) hz
/- All of them are, or the next one stands behind what was found. -/
theorem Thr.ended {k : Nat} (h : Thr sts t f lo p Y k seen X) (hT : Top sts t f lo p (p + 1) seen' Y) (hend : k = Y.L.length ∨ ∃ e, Y.L[k]? = some e ∧ X.found = true ∧ X.at_ < (e.2 : Int)) : Top sts t f lo (p + 1) (p + 1) seen X := by
  obtain ⟨cur0, _, hn0⟩ := hT.now
  have hproc : ∀ e ∈ Y.L, e ∈ Y.L.take k ∨ (X.found = true ∧ X.at_ < (e.2 : Int)) := fun e he => by
    rcases hend with rfl | ⟨e0, h1, h2, h3⟩
    · exact .inl (by rw [List.take_length]; exact he)
    · rw [← List.take_append_drop k Y.L] at he
      rcases List.mem_append.mp he with q | q
      · exact .inl q
      · right
        have h4 : (Y.L.drop k).Pairwise (fun a b => a.2 ≤ b.2) := hn0.so.sublist (List.drop_sublist _ _)
        rw [drop_of_get h1] at h4 q
        rcases List.mem_cons.mp q with rfl | q
        · exact ⟨h2, h3⟩
        · have := (List.pairwise_cons.mp h4).1 e q
          exact ⟨h2, by omega⟩
  refine ⟨?_, fun i q h1 h2 h3 h4 h5 => ?_, fun i j h1 h2 h3 h4 => ?_, h.fb⟩
  · obtain ⟨cur, hc, hn, _⟩ := h.now
    exact ⟨cur, by omega, hn⟩
  · rcases h3.back with ⟨e, _⟩ | ⟨p0, q0, s, c, e, a1, a2, a3, a4, a5, a6⟩
    · omega
    · have : p0 = p := by omega
      subst this
      have hl : Live sts t p0 q0 := ⟨s, c, a2, a3, a4, a5⟩
      obtain ⟨i', b1, b2⟩ := hT.c1 i q0 h1 h2 a1 hl (fun hy => by have := h.mo hy; have := h5 this.1; omega)
      obtain ⟨s1, c1, d1, d2, _, _⟩ := h4
      rcases hproc _ b2 with e3 | ⟨e3, e4⟩
      · obtain ⟨_, g2, _⟩ := h.pr _ e3 s c a2 a4 a5 q a6
        obtain ⟨i2, g3, g4⟩ := g2 s1 d1 d2
        exact ⟨i2, Nat.le_trans g3 b1, g4⟩
      · have := h5 e3
        simp only at e4
        omega
  · rcases Nat.lt_or_ge p j with e | e
    · have : j = p + 1 := by omega
      subst this
      obtain ⟨q, x, ha, hx, h0⟩ := h4
      rcases ha.back with ⟨e, _⟩ | ⟨p0, q0, s, c, e, a1, a2, a3, a4, a5, a6⟩
      · omega
      · have : p0 = p := by omega
        subst this
        have hl : Live sts t p0 q0 := ⟨s, c, a2, a3, a4, a5⟩
        by_cases hy : Y.found = true ∧ Y.at_ < (i : Int)
        · obtain ⟨m1, m2, _⟩ := h.mo hy.1
          exact ⟨m1, by omega, fun e => by omega⟩
        · obtain ⟨i', b1, b2⟩ := hT.c1 i q0 h1 h2 a1 hl (fun hy2 => by
            rcases Int.lt_or_le Y.at_ (i : Int) with q | q
            · exact absurd ⟨hy2, q⟩ hy
            · exact q)
          rcases hproc _ b2 with e3 | ⟨e3, e4⟩
          · obtain ⟨_, _, g3⟩ := h.pr _ e3 s c a2 a4 a5 q a6
            obtain ⟨k1, k2, k3⟩ := g3 x hx h0
            simp only at k2
            exact ⟨k1, by omega, fun _ => by omega⟩
          · simp only at e4
            exact ⟨e3, by omega, fun e => by omega⟩
    · obtain ⟨k1, k2, k3⟩ := hT.c2 i j h1 h2 e h4
      obtain ⟨m1, m2, m3⟩ := h.mo k1
      exact ⟨m1, by omega, fun e => by have := m3 (by omega); have := k3 (by omega); omega⟩

/- What a search tells. -/
structure Told (sts : List St) (t : List Nat) (f lo : Nat) (X : LS) : Prop where
  yes : X.found = true → ∃ i j : Nat, X.at_ = i ∧ X.n = (j : Int) - (i : Int) ∧ lo ≤ i ∧ i ≤ j ∧ j ≤ t.length ∧ Goes sts t f i j ∧ (∀ i' j', lo ≤ i' → i' < i → ¬ Goes sts t f i' j') ∧ ∀ j', Goes sts t f i j' → j' ≤ j
  no : X.found = false → X.at_ = 0 ∧ X.n = 0 ∧ ∀ i j, lo ≤ i → i ≤ t.length → ¬ Goes sts t f i j
theorem Top.told (h : Top sts t f lo p (p + 1) seen X) (hp : p ≤ t.length) (hend : p = t.length ∨ (X.found = true ∧ X.L = [])) : Told sts t f lo X := by
  obtain ⟨cur, _, hn⟩ := h.now
  have hj : ∀ i j, lo ≤ i → i ≤ p → (X.found = true → (i : Int) ≤ X.at_) → Goes sts t f i j → j ≤ p := fun i j h1 h2 h3 ⟨q, s, ha, _⟩ => by
    rcases hend with e | ⟨e1, e2⟩
    · have := ha.len (by omega)
      omega
    · rcases Nat.lt_or_ge p j with e | e
      · obtain ⟨q0, b1, b2⟩ := ha.through p h2 e
        obtain ⟨i', _, b3⟩ := h.c1 i q0 h1 (by omega) b1 b2 h3
        rw [e2] at b3
        simp at b3
      · exact e
  refine ⟨fun hf => ?_, fun hf => ?_⟩
  · obtain ⟨i, j, e1, e2, e3, e4, e5⟩ := hn.fd hf
    have hij : i ≤ j := by obtain ⟨q, s, ha, _⟩ := e5; exact ha.le
    have hip : i ≤ p := by omega
    refine ⟨i, j, e1, by omega, e3, hij, by omega, e5, fun i' j' h1 h2 h3 => ?_, fun j' h3 => ?_⟩
    · have h4 := hj i' j' h1 (by omega) (fun _ => by omega) h3
      have := (h.c2 i' j' h1 (by omega) h4 h3).2.1
      omega
    · have h4 := hj i j' e3 hip (fun _ => by omega) h3
      have := (h.c2 i j' e3 (by omega) h4 h3).2.2 e1
      omega
  · obtain ⟨n1, n2⟩ := hn.nf hf
    refine ⟨n1, n2, fun i j h1 h2 h3 => ?_⟩
    rcases hend with e | ⟨e, _⟩
    · have h4 := hj i j h1 (by omega) (fun e => by rw [hf] at e; cases e) h3
      have := (h.c2 i j h1 (by omega) h4 h3).1
      rw [hf] at this
      cases this
    · rw [hf] at e; cases e
end Go.Proofs.Ytmnghdccikoaoaa.Mt
