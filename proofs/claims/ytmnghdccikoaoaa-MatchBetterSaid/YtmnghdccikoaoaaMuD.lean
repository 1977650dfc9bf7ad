/-
  Package match: what a search comes to, as a relation: places, states and starts.
-/
import Derived.Test.YtmnghdccikoaoaaMtQ
import Derived.Test.YtmnghdccikoaoaaMtN
namespace Go.Proofs.Ytmnghdccikoaoaa.Mt
open Go.RowKit Go.Proofs.Ytmnghdccikoaoaa.Sh

variable {sts : List St} {t : List Nat} {f : Nat}

/- From the state f at a place i one comes to a state at a place. -/
inductive AtP (sts : List St) (t : List Nat) (f i : Nat) : Nat → Nat → Prop where
  | start : AtP sts t f i i f
  | eps (p q q' : Nat) (h : AtP sts t f i p q) (e : eps1 sts (p : Int) (t.length : Int) q q') : AtP sts t f i p q'
  | byte (p q : Nat) (s : St) (c : Nat) (h : AtP sts t f i p q) (hs : sts[q]? = some s) (ha : s.act = 1) (hc : t[p]? = some c) (hb : inSet s.s0 s.s1 s.s2 s.s3 c = true) : AtP sts t f i (p + 1) s.next.toNat
def Goes (sts : List St) (t : List Nat) (f i j : Nat) : Prop := ∃ q s, AtP sts t f i j q ∧ sts[q]? = some s ∧ s.act = 0
theorem AtP.reach {i p q q' : Nat} (h : AtP sts t f i p q) (hr : Reach sts (p : Int) (t.length : Int) q q') : AtP sts t f i p q' := by
  induction hr with
  | refl => exact h
  | tail b c _ h2 ih => exact .eps p b c ih h2
theorem AtP.le {i p q : Nat} (h : AtP sts t f i p q) : i ≤ p := by
  induction h with
  | start => exact Nat.le_refl _
  | eps _ _ _ _ _ ih => exact ih
  | byte _ _ _ _ _ _ _ _ _ ih => exact Nat.le_succ_of_le ih
theorem AtP.len {i p q : Nat} (h : AtP sts t f i p q) (hi : i ≤ t.length) : p ≤ t.length := by
  induction h with
  | start => exact hi
  | eps _ _ _ _ _ ih => exact ih
  | byte p q s c _ _ _ hc _ ih => exact (List.getElem?_eq_some_iff.mp hc).1

/- The same by steps. -/
theorem acc_of_at {i p q : Nat} (hcl : Closed sts) (h : AtP sts t f i p q) : ∀ n j (qi : Int), qi.toNat = q → Acc sts t n qi p j → ∃ m, Acc sts t m (f : Int) i j := by
  induction h with
  | start => intro n j qi hq ha; exact ⟨n, by
      have e : ∀ (n : Nat) (a b : Int) (i j : Nat), a.toNat = b.toNat → Acc sts t n a i j → Acc sts t n b i j := fun n a b i j e h => by cases n <;> (unfold Acc at h ⊢; rw [← e]; exact h)
      exact e n qi _ _ _ (by omega) ha⟩
  | eps p q q' _ he ih =>
    intro n j qi hq ha
    obtain ⟨s, hs, hc⟩ := he
    have e : ∀ (n : Nat) (a b : Int) (i j : Nat), a.toNat = b.toNat → Acc sts t n a i j → Acc sts t n b i j := fun n a b i j e h => by cases n <;> (unfold Acc at h ⊢; rw [← e]; exact h)
    refine ih (n + 1) j (q : Int) (by omega) ⟨s, by simpa using hs, ?_⟩
    rcases hc with ⟨h2, rfl | rfl⟩ | ⟨⟨h3, h0⟩ | ⟨h4, hl⟩, rfl⟩
    · exact .inr (.inl ⟨h2, .inl (e n qi _ _ _ hq ha)⟩)
    · exact .inr (.inl ⟨h2, .inr (e n qi _ _ _ hq ha)⟩)
    · exact .inr (.inr (.inl ⟨h3, by omega, e n qi _ _ _ hq ha⟩))
    · exact .inr (.inr (.inr ⟨h4, by omega, e n qi _ _ _ hq ha⟩))
  | byte p q s c _ hs ha1 hc hb ih =>
    intro n j qi hq ha
    have e : ∀ (n : Nat) (a b : Int) (i j : Nat), a.toNat = b.toNat → Acc sts t n a i j → Acc sts t n b i j := fun n a b i j e h => by cases n <;> (unfold Acc at h ⊢; rw [← e]; exact h)
    exact ih (n + 1) j (q : Int) (by omega) ⟨s, by simpa using hs, .inl ⟨ha1, ⟨c, hc, hb⟩, e n qi _ _ _ hq ha⟩⟩
theorem goes_of_acc : ∀ (n : Nat) (q : Int) (i p j : Nat), Acc sts t n q p j → AtP sts t f i p q.toNat → Goes sts t f i j
  | 0, q, i, p, j, ⟨s, hs, ha, hj⟩, h => by subst hj; exact ⟨_, s, h, hs, ha⟩
  | n + 1, q, i, p, j, ⟨s, hs, hc⟩, h => by
    rcases hc with ⟨ha, ⟨c, hc, hb⟩, hA⟩ | ⟨ha, hA | hA⟩ | ⟨ha, h0, hA⟩ | ⟨ha, hl, hA⟩
    · exact goes_of_acc n s.next i (p + 1) j hA (.byte p _ s c h hs ha hc hb)
    · exact goes_of_acc n s.next i p j hA (.eps p _ _ h ⟨s, hs, .inl ⟨ha, .inl rfl⟩⟩)
    · exact goes_of_acc n s.other i p j hA (.eps p _ _ h ⟨s, hs, .inl ⟨ha, .inr rfl⟩⟩)
    · exact goes_of_acc n s.next i p j hA (.eps p _ _ h ⟨s, hs, .inr ⟨.inl ⟨ha, by omega⟩, rfl⟩⟩)
    · exact goes_of_acc n s.next i p j hA (.eps p _ _ h ⟨s, hs, .inr ⟨.inr ⟨ha, by omega⟩, rfl⟩⟩)
theorem acc_goes (hcl : Closed sts) (i j : Nat) : (∃ n, Acc sts t n (f : Int) i j) ↔ Goes sts t f i j := by
  constructor
  · rintro ⟨n, h⟩
    exact goes_of_acc n _ i i j h (by simpa using AtP.start)
  · rintro ⟨q, s, h, hs, ha⟩
    exact acc_of_at hcl h 0 j (q : Int) (by omega) ⟨s, by simpa using hs, ha, rfl⟩

/- A state that takes the byte at a place. -/
def Live (sts : List St) (t : List Nat) (p q : Nat) : Prop := ∃ s c, sts[q]? = some s ∧ s.act = 1 ∧ t[p]? = some c ∧ inSet s.s0 s.s1 s.s2 s.s3 c = true
/- What is come to behind a place is come to by a byte there. -/
theorem AtP.back {i p q : Nat} (h : AtP sts t f i p q) : (p = i ∧ Reach sts (p : Int) (t.length : Int) f q) ∨ ∃ p0 q0 s c, p = p0 + 1 ∧ AtP sts t f i p0 q0 ∧ sts[q0]? = some s ∧ s.act = 1 ∧ t[p0]? = some c ∧ inSet s.s0 s.s1 s.s2 s.s3 c = true ∧ Reach sts (p : Int) (t.length : Int) s.next.toNat q := by
  induction h with
  | start => exact .inl ⟨rfl, .refl _⟩
  | eps p q q' _ he ih =>
    rcases ih with ⟨e, hr⟩ | ⟨p0, q0, s, c, e, h1, h2, h3, h4, h5, hr⟩
    · exact .inl ⟨e, .tail _ _ _ hr he⟩
    · exact .inr ⟨p0, q0, s, c, e, h1, h2, h3, h4, h5, .tail _ _ _ hr he⟩
  | byte p q s c h hs ha hc hb _ => exact .inr ⟨p, q, s, c, rfl, h, hs, ha, hc, hb, .refl _⟩
/- What ends behind a place goes through a live state there. -/
theorem AtP.through {i j q : Nat} (h : AtP sts t f i j q) (p : Nat) (hp : i ≤ p) (hj : p < j) : ∃ q0, AtP sts t f i p q0 ∧ Live sts t p q0 := by
  induction h with
  | start => omega
  | eps p' q q' _ _ ih => exact ih hj
  | byte p' q s c h hs ha hc hb ih =>
    rcases Nat.lt_or_ge p p' with e | e
    · exact ih e
    · have : p = p' := by omega
      subst this
      exact ⟨q, h, s, c, hs, ha, hc, hb⟩
end Go.Proofs.Ytmnghdccikoaoaa.Mt
