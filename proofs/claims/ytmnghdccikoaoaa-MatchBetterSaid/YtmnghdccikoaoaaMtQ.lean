/-
  Package match: what a walk marks and hands on.
-/
import Derived.Test.YtmnghdccikoaoaaMtW
namespace Go.Proofs.Ytmnghdccikoaoaa.Mt
open Go.RowKit Go.Proofs.Ytmnghdccikoaoaa.Sh

variable {sts : List St} {p len : Int}

/- Without a byte. -/
def eps1 (sts : List St) (p len : Int) (q q' : Nat) : Prop := ∃ s, sts[q]? = some s ∧ ((s.act = 2 ∧ (q' = s.next.toNat ∨ q' = s.other.toNat)) ∨ (((s.act = 3 ∧ p = 0) ∨ (s.act = 4 ∧ p = len)) ∧ q' = s.next.toNat))
inductive Reach (sts : List St) (p len : Int) : Nat → Nat → Prop where
  | refl (q : Nat) : Reach sts p len q q
  | tail (a b c : Nat) (h : Reach sts p len a b) (h2 : eps1 sts p len b c) : Reach sts p len a c
def puts (sts : List St) (q : Nat) : Prop := ∃ s, sts[q]? = some s ∧ (s.act = 1 ∨ s.act = 0)
def marked (p : Int) (seen : List Int) (q : Nat) : Prop := seen[q]? = some (p + 1)

/- What holds between rounds (X: what is still to be gone to beside the list). -/
structure WInv (sts : List St) (p len : Int) (c0 : Cfg) (X : Nat → Prop) (c : Cfg) : Prop where
  sl : c.seen.length = sts.length
  r1 : Reach sts p len c0.i c.i
  r2 : ∀ x ∈ c.op, Reach sts p len c0.i x
  m1 : ∀ q, marked p c.seen q → marked p c0.seen q ∨ Reach sts p len c0.i q
  m2 : ∀ q, marked p c0.seen q → marked p c.seen q
  m3 : ∀ q, ¬ marked p c.seen q → c.seen[q]? = c0.seen[q]?
  cl : ∀ q q', marked p c.seen q → ¬ marked p c0.seen q → eps1 sts p len q q' → marked p c.seen q' ∨ q' ∈ c.op ∨ X q'
  ps : ∃ new, c.ps = c0.ps ++ new ∧ new.Nodup ∧ ∀ q, q ∈ new ↔ (marked p c.seen q ∧ ¬ marked p c0.seen q ∧ puts sts q)
  st : marked p c.seen c0.i ∨ c0.i ∈ c.op ∨ X c0.i
theorem marked_set {seen : List Int} {i q : Nat} (hi : i < seen.length) : marked p (seen.set i (p + 1)) q ↔ (q = i ∨ marked p seen q) := by
  unfold marked
  rw [List.getElem?_set]
  by_cases h : i = q
  · subst h; simp [hi]
  · simp [h, Ne.symm h]
theorem set_other {seen : List Int} {i q : Nat} (h : ¬ marked p (seen.set i (p + 1)) q) (hi : i < seen.length) : (seen.set i (p + 1))[q]? = seen[q]? := by
  rw [List.getElem?_set]
  by_cases e : i = q
  · exact absurd ((marked_set hi).mpr (.inl e.symm)) h
  · simp [e]
theorem inv_start {c0 : Cfg} (hs : c0.seen.length = sts.length) (ho : c0.op = []) : WInv sts p len c0 (fun q => q = c0.i) c0 :=
  ⟨hs, .refl _, by rw [ho]; simp, fun _ h => .inl h, fun _ h => h, fun _ _ => rfl, fun _ _ h1 h2 => absurd h1 h2, ⟨[], by simp, List.nodup_nil, fun q => by simp; intro h1 h2; exact absurd h1 h2⟩, .inr (.inr rfl)⟩
/- A state that was not marked is. -/
theorem inv_mark {c0 c : Cfg} (h : WInv sts p len c0 (fun q => q = c.i) c) {s : St} (hs : sts[c.i]? = some s) (hn : c.seen[c.i]? ≠ some (p + 1)) (op : List Nat) (i : Nat) (new' : List Nat) (hop : ∀ x ∈ c.op, x ∈ op) (hr1 : Reach sts p len c0.i i) (hr2 : ∀ x ∈ op, Reach sts p len c0.i x) (X : Nat → Prop)
    (hX : ∀ q', eps1 sts p len c.i q' → q' ∈ op ∨ X q') (hp : (puts sts c.i ∧ new' = [c.i]) ∨ (¬ puts sts c.i ∧ new' = [])) : WInv sts p len c0 X { i := i, op := op, seen := c.seen.set c.i (p + 1), ps := c.ps ++ new' } := by
  obtain ⟨hi, _⟩ := List.getElem?_eq_some_iff.mp hs
  have hi : c.i < c.seen.length := by rw [h.sl]; exact hi
  have hms : ∀ q, marked p (c.seen.set c.i (p + 1)) q ↔ (q = c.i ∨ marked p c.seen q) := fun q => marked_set hi
  have hn0 : ¬ marked p c0.seen c.i := fun e => hn (h.m2 _ e)
  refine ⟨by simpa using h.sl, hr1, hr2, fun q hq => ?_, fun q hq => (hms q).mpr (.inr (h.m2 q hq)), fun q hq => ?_, fun q q' hq hq0 he => ?_, ?_, ?_⟩
  · rcases (hms q).mp hq with rfl | hq
    · exact .inr h.r1
    · exact h.m1 q hq
  · have h1 : ¬ marked p c.seen q := fun e => hq ((hms q).mpr (.inr e))
    exact (set_other hq hi).trans (h.m3 q h1)
  · rcases (hms q).mp hq with rfl | hq
    · exact .inr (hX q' he)
    · rcases h.cl q q' hq hq0 he with e | e | e
      · exact .inl ((hms q').mpr (.inr e))
      · exact .inr (.inl (hop q' e))
      · exact .inl ((hms q').mpr (.inl e))
  · obtain ⟨new, e, hnd, hm⟩ := h.ps
    have hni : c.i ∉ new := fun e => hn ((hm c.i).mp e).1
    refine ⟨new ++ new', by simp only [e, List.append_assoc], ?_, fun q => ?_⟩
    · rcases hp with ⟨_, rfl⟩ | ⟨_, rfl⟩
      · refine List.nodup_append.mpr ⟨hnd, by simp, fun a ha b hb => ?_⟩
        simp at hb
        subst hb
        exact fun e => hni (e ▸ ha)
      · simpa using hnd
    · show q ∈ new ++ new' ↔ (marked p (c.seen.set c.i (p + 1)) q ∧ _ ∧ _)
      rw [List.mem_append, hm q, hms q]
      rcases hp with ⟨h1, rfl⟩ | ⟨h1, rfl⟩
      · simp only [List.mem_singleton]
        constructor
        · rintro (⟨a, b, c⟩ | rfl)
          · exact ⟨.inr a, b, c⟩
          · exact ⟨.inl rfl, hn0, h1⟩
        · rintro ⟨rfl | a, b, c⟩
          · exact .inr rfl
          · exact .inl ⟨a, b, c⟩
      · simp only [List.not_mem_nil, or_false]
        constructor
        · rintro ⟨a, b, c⟩; exact ⟨.inr a, b, c⟩
        · rintro ⟨rfl | a, b, c⟩
          · exact absurd c h1
          · exact ⟨a, b, c⟩
  · rcases h.st with e | e | e
    · exact .inl ((hms _).mpr (.inr e))
    · exact .inr (.inl (hop _ e))
    · exact .inl ((hms _).mpr (.inl e))
theorem no_eps {q : Nat} {s : St} (hs : sts[q]? = some s) (ha : s.act ≠ 2 ∧ ¬ (s.act = 3 ∧ p = 0) ∧ ¬ (s.act = 4 ∧ p = len)) (q' : Nat) : ¬ eps1 sts p len q q' := by
  rintro ⟨s', h1, h2⟩
  rw [hs] at h1
  cases h1
  rcases h2 with ⟨h2, _⟩ | ⟨h2 | h2, _⟩
  · exact ha.1 h2
  · exact ha.2.1 h2
  · exact ha.2.2 h2
theorem inv_round {c0 c c1 : Cfg} (h : WInv sts p len c0 (fun q => q = c.i) c) (hr : Round sts p len c c1) : WInv sts p len c0 (fun _ => False) c1 := by
  cases hr with
  | again hm => exact ⟨h.sl, h.r1, h.r2, h.m1, h.m2, h.m3, fun q q' h1 h2 h3 => (h.cl q q' h1 h2 h3).elim .inl fun e => e.elim (fun e => .inr (.inl e)) fun e => .inl (e ▸ hm), h.ps, h.st.elim .inl fun e => e.elim (fun e => .inr (.inl e)) fun e => .inl (e ▸ hm)⟩
  | put s hs hn ha => exact inv_mark h hs hn c.op c.i [c.i] (fun _ e => e) h.r1 h.r2 _ (fun q' e => absurd e (no_eps hs (by omega) q')) (.inl ⟨⟨s, hs, ha⟩, rfl⟩)
  | stop s hs hn ha =>
    have := inv_mark h hs hn c.op c.i [] (fun _ e => e) h.r1 h.r2 (fun _ => False) (fun q' e => absurd e (no_eps hs ⟨ha.2.2.1, ha.2.2.2.1, ha.2.2.2.2⟩ q')) (.inr ⟨by
      rintro ⟨s', h1, h2⟩
      rw [hs] at h1
      cases h1
      rcases h2 with e | e
      · exact ha.1 e
      · exact ha.2.1 e, rfl⟩)
    simpa [mark] using this
theorem inv_step {c0 c c1 : Cfg} (h : WInv sts p len c0 (fun q => q = c.i) c) (hs : Step sts p len c c1) : WInv sts p len c0 (fun q => q = c1.i) c1 := by
  cases hs with
  | pop c2 x l hr ho =>
    have h2 := inv_round h hr
    have hx : ∀ y, y ∈ c2.op ↔ (y ∈ l ∨ y = x) := fun y => by rw [ho]; simp
    exact ⟨h2.sl, h2.r2 x ((hx x).mpr (.inr rfl)), fun y hy => h2.r2 y ((hx y).mpr (.inl hy)), h2.m1, h2.m2, h2.m3, fun q q' e1 e2 e3 => (h2.cl q q' e1 e2 e3).elim .inl fun e => e.elim (fun e => ((hx q').mp e).elim (fun e => .inr (.inl e)) fun e => .inr (.inr e)) False.elim, h2.ps,
      h2.st.elim .inl fun e => e.elim (fun e => ((hx _).mp e).elim (fun e => .inr (.inl e)) fun e => .inr (.inr e)) False.elim⟩
  | fork s hs hn ha =>
    have hnp : ¬ puts sts c.i := by
      rintro ⟨s', h1, h2⟩
      rw [hs] at h1
      cases h1
      rw [ha] at h2
      rcases h2 with e | e <;> cases e
    have := inv_mark h hs hn (c.op ++ [s.other.toNat]) s.next.toNat [] (fun x e => by simp [e]) (.tail _ _ _ h.r1 ⟨s, hs, .inl ⟨ha, .inl rfl⟩⟩) (fun x hx => by
      rcases List.mem_append.mp hx with e | e
      · exact h.r2 x e
      · simp at e
        rw [e]
        exact .tail _ _ _ h.r1 ⟨s, hs, .inl ⟨ha, .inr rfl⟩⟩) (fun q => q = s.next.toNat) (fun q' e => by
      obtain ⟨s', h1, h2⟩ := e
      rw [hs] at h1
      cases h1
      rcases h2 with ⟨_, e | e⟩ | ⟨_, e⟩
      · exact .inr e
      · exact .inl (by simp [e])
      · exact .inr e) (.inr ⟨hnp, rfl⟩)
    simpa [mark] using this
  | go s hs hn ha =>
    have hnp : ¬ puts sts c.i := by
      rintro ⟨s', h1, h2⟩
      rw [hs] at h1
      cases h1
      rcases ha with ⟨e, _⟩ | ⟨e, _⟩ <;> rw [e] at h2 <;> rcases h2 with e | e <;> cases e
    have := inv_mark h hs hn c.op s.next.toNat [] (fun x e => e) (.tail _ _ _ h.r1 ⟨s, hs, .inr ⟨ha, rfl⟩⟩) h.r2 (fun q => q = s.next.toNat) (fun q' e => by
      obtain ⟨s', h1, h2⟩ := e
      rw [hs] at h1
      cases h1
      rcases h2 with ⟨e, _⟩ | ⟨_, e⟩
      · rcases ha with ⟨e2, _⟩ | ⟨e2, _⟩ <;> rw [e2] at e <;> cases e
      · exact .inr e) (.inr ⟨hnp, rfl⟩)
    simpa [mark] using this
theorem inv_steps {c0 c : Cfg} (hs : c0.seen.length = sts.length) (ho : c0.op = []) (h : Steps sts p len c0 c) : WInv sts p len c0 (fun q => q = c.i) c := by
  induction h with
  | refl => exact inv_start hs ho
  | tail b d _ h2 ih => exact inv_step ih h2
/- At the end: what is marked is closed. -/
theorem inv_ended {c0 c1 cF : Cfg} (hs : c0.seen.length = sts.length) (ho : c0.op = []) (h : Steps sts p len c0 c1) (hr : Round sts p len c1 cF) (he : cF.op = []) : WInv sts p len c0 (fun _ => False) cF ∧ marked p cF.seen c0.i ∧ ∀ q q', marked p cF.seen q → ¬ marked p c0.seen q → eps1 sts p len q q' → marked p cF.seen q' := by
  have h2 := inv_round (inv_steps hs ho h) hr
  refine ⟨h2, ?_, fun q q' e1 e2 e3 => ?_⟩
  · rcases h2.st with e | e | e
    · exact e
    · rw [he] at e; simp at e
    · exact e.elim
  · rcases h2.cl q q' e1 e2 e3 with e | e | e
    · exact e
    · rw [he] at e; simp at e
    · exact e.elim
end Go.Proofs.Ytmnghdccikoaoaa.Mt
