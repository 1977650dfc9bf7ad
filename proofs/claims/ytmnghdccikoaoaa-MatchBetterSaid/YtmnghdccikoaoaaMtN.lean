/-
  Package match: what the states of a tree take is what the tree takes.
-/
import Derived.Test.YtmnghdccikoaoaaMtC
namespace Go.Proofs.Ytmnghdccikoaoaa.Mt
open Go.RowKit Go.Proofs.Ytmnghdccikoaoaa.Sh

/- Is a byte in a set? -/
def inSet (s0 s1 s2 s3 : Int) (c : Nat) : Bool := (if c < 64 then s0 else if c < 128 then s1 else if c < 192 then s2 else s3).toNat.testBit (c % 64)

/- One relation behind the other, so many times. -/
def iter (R : Nat → Nat → Prop) : Nat → Nat → Nat → Prop
  | 0, i, j => j = i
  | n + 1, i, j => ∃ k, R i k ∧ iter R n k j
def cat (R : Re → Nat → Nat → Prop) : List Re → Nat → Nat → Prop
  | [], i, j => j = i
  | r :: l, i, j => ∃ k, R r i k ∧ cat R l k j
/- What a tree takes of a text t. -/
def takes (t : List Nat) : Nat → Re → Nat → Nat → Prop
  | 0, _ => fun i j => j = i
  | l + 1, .mk k s0 s1 s2 s3 a b kids => fun i j =>
    if k = 2 then j = i + 1 ∧ ∃ c, t[i]? = some c ∧ inSet s0 s1 s2 s3 c = true
    else if k = 3 then i = 0 ∧ j = i
    else if k = 4 then i = t.length ∧ j = i
    else if k = 5 then cat (takes t l) kids i j
    else if k = 6 then ∃ kid ∈ kids, takes t l kid i j
    else if k = 7 then match kids with
      | kid :: _ => ∃ n : Nat, a ≤ n ∧ (b < 0 ∨ (n : Int) ≤ b) ∧ iter (takes t l kid) n i j
      | [] => j = i
    else j = i

/- From a state at a place the goal is come to at a place, in so many steps. -/
def Acc (S : List St) (t : List Nat) : Nat → Int → Nat → Nat → Prop
  | 0, q, i, j => ∃ st, S[q.toNat]? = some st ∧ st.act = 0 ∧ j = i
  | n + 1, q, i, j => ∃ st, S[q.toNat]? = some st ∧
      ((st.act = 1 ∧ (∃ c, t[i]? = some c ∧ inSet st.s0 st.s1 st.s2 st.s3 c = true) ∧ Acc S t n st.next (i + 1) j) ∨
       (st.act = 2 ∧ (Acc S t n st.next i j ∨ Acc S t n st.other i j)) ∨
       (st.act = 3 ∧ i = 0 ∧ Acc S t n st.next i j) ∨
       (st.act = 4 ∧ i = t.length ∧ Acc S t n st.next i j))

def Agrees (S L : List St) (n : Nat) : Prop := ∀ q, n ≤ q → q < L.length → S[q]? = L[q]?
/- A layer of states is a fragment for a relation. -/
structure Frag (t : List Nat) (f : Lay) (R : Nat → Nat → Prop) : Prop where
  adds : Adds f
  pre : ∀ next sts q, q < sts.length → (f next sts).1[q]? = sts[q]?
  fwd : ∀ next sts S, Agrees S (f next sts).1 sts.length → ∀ n i j, Acc S t n (f next sts).2 i j → ∃ k m, m ≤ n ∧ R i k ∧ Acc S t m next k j
  bwd : ∀ next sts S, Agrees S (f next sts).1 sts.length → ∀ n i k j, R i k → Acc S t n next k j → ∃ m, Acc S t m (f next sts).2 i j

theorem Agrees.less {S L : List St} {n m : Nat} (h : Agrees S L n) (hm : n ≤ m) : Agrees S L m := fun q h1 h2 => h q (by omega) h2
theorem Agrees.head {S L L' : List St} {n : Nat} (h : Agrees S L' n) (hl : L.length ≤ L'.length) (hp : ∀ q, q < L.length → L'[q]? = L[q]?) : Agrees S L n := fun q h1 h2 => (h q h1 (by omega)).trans (hp q h2)

variable {t : List Nat}

theorem frag_id : Frag t (fun next sts => (sts, next)) (fun i j => j = i) where
  adds := fun _ _ => Nat.le_refl _
  pre := fun _ _ _ _ => rfl
  fwd := fun _ _ _ _ n i _ h => ⟨i, n, Nat.le_refl _, rfl, h⟩
  bwd := fun _ _ _ _ n _ _ _ h1 h2 => ⟨n, by rw [← h1]; exact h2⟩
theorem Frag.congr {f : Lay} {R R' : Nat → Nat → Prop} (h : Frag t f R) (e : ∀ i j, R i j ↔ R' i j) : Frag t f R' where
  adds := h.adds
  pre := h.pre
  fwd := fun next sts S hA n i j ha => let ⟨k, m, h1, h2, h3⟩ := h.fwd next sts S hA n i j ha; ⟨k, m, h1, (e _ _).mp h2, h3⟩
  bwd := fun next sts S hA n i k j h1 h2 => h.bwd next sts S hA n i k j ((e _ _).mpr h1) h2

/- One behind the other: g is laid first, and stands behind. -/
theorem frag_then {f g : Lay} {R Q : Nat → Nat → Prop} (hf : Frag t f R) (hg : Frag t g Q) : Frag t (fun next sts => f (g next sts).2 (g next sts).1) (fun i j => ∃ k, R i k ∧ Q k j) where
  adds := fun next sts => Nat.le_trans (hg.adds next sts) (hf.adds _ _)
  pre := fun next sts q hq => (hf.pre _ _ q (Nat.lt_of_lt_of_le hq (hg.adds next sts))).trans (hg.pre next sts q hq)
  fwd := fun next sts S hA n i j h => by
    have hg1 := hg.adds next sts
    obtain ⟨k, m, h1, h2, h3⟩ := hf.fwd _ _ S (hA.less hg1) n i j h
    obtain ⟨k2, m2, q1, q2, q3⟩ := hg.fwd next sts S (hA.head (hf.adds _ _) (hf.pre _ _)) m k j h3
    exact ⟨k2, m2, Nat.le_trans q1 h1, ⟨k, h2, q2⟩, q3⟩
  bwd := fun next sts S hA n i k j ⟨k1, h1, h2⟩ h3 => by
    obtain ⟨m, q⟩ := hg.bwd next sts S (hA.head (hf.adds _ _) (hf.pre _ _)) n k1 k j h2 h3
    exact hf.bwd _ _ S (hA.less (hg.adds next sts)) m i k1 j h1 q

theorem iter_snoc {R : Nat → Nat → Prop} : ∀ (n : Nat) (i j : Nat), iter R (n + 1) i j ↔ ∃ k, iter R n i k ∧ R k j
  | 0, i, j => by simp [iter]
  | n + 1, i, j => by
    constructor
    · rintro ⟨k, h1, h2⟩
      obtain ⟨k2, h3, h4⟩ := (iter_snoc n k j).mp h2
      exact ⟨k2, ⟨k, h1, h3⟩, h4⟩
    · rintro ⟨k, ⟨k2, h1, h2⟩, h3⟩
      exact ⟨k2, h1, (iter_snoc n k2 j).mpr ⟨k, h2, h3⟩⟩
theorem frag_row {f : Lay} {R : Nat → Nat → Prop} (h : Frag t f R) : ∀ n, Frag t (layRow f n) (iter R n)
  | 0 => frag_id
  | n + 1 => (frag_then (frag_row h n) h).congr fun i j => (iter_snoc n i j).symm
theorem frag_cat {f : Re → Lay} {R : Re → Nat → Nat → Prop} : ∀ (l : List Re), (∀ r ∈ l, Frag t (f r) (R r)) → Frag t (layCat f l) (cat R l)
  | [], _ => frag_id
  | r :: l, h => frag_then (h r (by simp)) (frag_cat l fun x hx => h x (by simp [hx]))

/- A fork. -/
theorem acc_fork {S : List St} {q : Int} {next other : Int} (h : S[q.toNat]? = some (fork next other)) {n i j : Nat} : Acc S t (n + 1) q i j ↔ (Acc S t n next i j ∨ Acc S t n other i j) := by
  constructor
  · rintro ⟨st, h1, h2⟩
    rw [h] at h1
    cases h1
    simp [fork] at h2
    exact h2
  · intro h2
    exact ⟨_, h, .inr (.inl ⟨rfl, h2⟩)⟩
theorem acc_fork0 {S : List St} {q : Int} {next other : Int} (h : S[q.toNat]? = some (fork next other)) {i j : Nat} : ¬ Acc S t 0 q i j := by
  rintro ⟨st, h1, h2, _⟩
  rw [h] at h1
  cases h1
  simp [fork] at h2
end Go.Proofs.Ytmnghdccikoaoaa.Mt
