/-
  A region that draws, with operations ahead that turn memory: which of them may have come up when another one does.
-/
import Derived.StillTail
import Derived.Deep.Quiet
namespace Go.Ev
open Go

variable {P : Program} {ops : Array Oper} {md : Region.Mode}

/- What is laid down of such a region: the operations that turn memory ('eff'); the sets of them that may have come up ('labels': first those of the order in which they stand, from none to all ('fin'); then perhaps one more); between which of the sets an operation leads ('tr');
   a row of constants that is made ahead of the append that takes it ('flt': its place, the append's); two stores that may come in either order ('cm'). -/
structure RS where
  n : Nat
  eff : List Nat
  labels : List (List Nat)
  tr : List (List (Nat × Nat))
  fin : Nat
  flt : Option (Nat × Nat)
  cm : Option (Nat × Nat)
def memN (x : Nat) : List Nat → Bool
  | [] => false
  | y :: l => bif Nat.beq y x then true else memN x l
def memP (p q : Nat) : List (Nat × Nat) → Bool
  | [] => false
  | (a, b) :: l => bif Nat.beq a p && Nat.beq b q then true else memP p q l
def labelOf (rs : RS) (p : Nat) : List Nat :=
  match rs.labels[p]? with
  | some l => l
  | none => []
def trOf (rs : RS) (i : Nat) : List (Nat × Nat) :=
  match rs.tr[i]? with
  | some l => l
  | none => []
def prOf (rs : RS) (i p q : Nat) : Prop := memP p q (trOf rs i) = true
def reach (md : Region.Mode) (ops : Array Oper) : Nat → Nat → Nat → Bool
  | 0, _, _ => false
  | f + 1, j, i => match ops[j]? with
    | some oj => oj.after.toList.any fun e => Region.binds md e && (Nat.beq e.on i || reach md ops f e.on i)
    | none => false
def shut (md : Region.Mode) (ops : Array Oper) (rs : RS) (i p : Nat) : Bool :=
  rs.eff.any (fun e => !(memN e (labelOf rs p)) && reach md ops rs.n i e) || rs.eff.any (fun e => memN e (labelOf rs p) && reach md ops rs.n e i) || (memN i rs.eff && memN i (labelOf rs p))
def leads (rs : RS) (i p q : Nat) : Bool := memP p q (trOf rs i) && Nat.blt q rs.labels.length && rs.eff.all fun e => (memN e (labelOf rs q)) == (memN e (labelOf rs p) || Nat.beq e i)
def phasesOk (md : Region.Mode) (ops : Array Oper) (rs : RS) : Bool :=
  Nat.blt 0 rs.labels.length && rs.eff.all (fun e => Nat.blt e rs.n && !(memN e (labelOf rs 0))) &&
  (List.range rs.labels.length).all (fun p => Nat.beq p rs.fin || rs.eff.any fun e => !(memN e (labelOf rs p))) &&
  (List.range rs.n).all fun i => (List.range rs.labels.length).all fun p => shut md ops rs i p || (List.range rs.labels.length).any fun q => leads rs i p q

theorem reach_listed {listed : Array Bool} (hcl : ∀ j oj, ops[j]? = some oj → listed.getD j false = true → ∀ e ∈ oj.after, Region.binds md e = true → listed.getD e.on false = true) :
    ∀ (f j i : Nat), reach md ops f j i = true → listed.getD j false = true → listed.getD i false = true
  | 0, j, i, h, _ => by simp [reach] at h
  | f + 1, j, i, h, hj => by
    simp only [reach] at h
    split at h
    · rename_i oj hoj
      obtain ⟨e, he, hb⟩ := List.any_eq_true.1 h
      simp only [Bool.and_eq_true, Bool.or_eq_true, Nat.beq_eq] at hb
      have h1 := hcl j oj hoj hj e (by simpa using he) hb.1
      rcases hb.2 with h2 | h2
      · rw [← h2]; exact h1
      · exact reach_listed hcl f e.on i h2 h1
    · cases h
theorem reach_ready {listed : Array Bool} (hcl : ∀ j oj, ops[j]? = some oj → listed.getD j false = true → ∀ e ∈ oj.after, Region.binds md e = true → listed.getD e.on false = true)
    {f j i : Nat} (h : reach md ops f j i = true) (hj : j ∈ Region.ready md ops listed) : listed.getD i false = true := by
  obtain ⟨_, oj, hoj, hall⟩ := mem_ready.1 hj
  cases f with
  | zero => simp [reach] at h
  | succ f =>
    simp only [reach, hoj] at h
    obtain ⟨e, he, hb⟩ := List.any_eq_true.1 h
    simp only [Bool.and_eq_true, Bool.or_eq_true, Nat.beq_eq] at hb
    have h1 := hall e (by simpa using he) hb.1
    rcases hb.2 with h2 | h2
    · rw [← h2]; exact h1
    · exact reach_listed hcl f e.on i h2 h1
theorem memN_iff {x : Nat} : ∀ {l : List Nat}, memN x l = true ↔ x ∈ l
  | [] => by simp [memN]
  | y :: l => by
    simp only [memN, Bool.cond_eq_ite, List.mem_cons]
    split
    · rename_i h; simp [Nat.eq_of_beq_eq_true h]
    · rename_i h
      have hne : ¬ x = y := fun e => h (by rw [e]; exact Nat.beq_refl _)
      rw [memN_iff]; simp [hne]

structure PhInv (md : Region.Mode) (ops : Array Oper) (rs : RS) (listed : Array Bool) (p : Nat) : Prop where
  head : HeadInv md ops rs.n listed
  le : p < rs.labels.length
  eff : ∀ e, e ∈ rs.eff → (listed.getD e false = true ↔ memN e (labelOf rs p) = true)

theorem phStep {rs : RS} (hok : ∀ i p, i < rs.n → p < rs.labels.length → shut md ops rs i p = true ∨ ∃ q, leads rs i p q = true)
    (listed : Array Bool) (p i : Nat) (inv : PhInv md ops rs listed p) (hr : i ∈ Region.ready md ops listed) (hin : i < rs.n) : ∃ q, prOf rs i p q ∧ PhInv md ops rs (listed.setIfInBounds i true) q := by
  have hun := getD_both (mem_ready.1 hr).1
  have hcl := inv.head.closed
  have hopen : shut md ops rs i p = false := by
    cases hs : shut md ops rs i p with
    | false => rfl
    | true =>
      exfalso
      simp only [shut, Bool.or_eq_true, Bool.and_eq_true, List.any_eq_true, Bool.not_eq_true'] at hs
      rcases hs with (⟨e, he, h1, h2⟩ | ⟨e, he, h1, h2⟩) | ⟨h1, h2⟩
      · have := (inv.eff e he).1 (reach_ready hcl h2 hr)
        rw [h1] at this; cases this
      · have := reach_listed hcl rs.n e i h2 ((inv.eff e he).2 h1)
        rw [hun] at this; cases this
      · have := (inv.eff i (memN_iff.1 h1)).2 h2
        rw [hun] at this; cases this
  obtain ⟨q, hq⟩ := (hok i p hin inv.le).resolve_left (by rw [hopen]; simp)
  simp only [leads, Bool.and_eq_true, Nat.blt_eq, List.all_eq_true, beq_iff_eq] at hq
  obtain ⟨⟨h1, h2⟩, h3⟩ := hq
  refine ⟨q, h1, inv.head.set hr hin, h2, fun e he => ?_⟩
  rw [h3 e he]
  by_cases hie : i = e
  · subst hie
    have hsz : i < listed.size := by
      rw [inv.head.size]
      obtain ⟨_, oj, hoj, _⟩ := mem_ready.1 hr
      exact (Array.getElem?_eq_some_iff.1 hoj).1
    simp [hsz]
  · rw [getD_set_ne false hie, inv.eff e he]
    have : Nat.beq e i = false := by
      cases hb : Nat.beq e i with
      | false => rfl
      | true => exact absurd (Nat.eq_of_beq_eq_true hb).symm hie
    simp [this]

theorem phasesOk_spec {rs : RS} (h : phasesOk md ops rs = true) : 0 < rs.labels.length ∧ (∀ e ∈ rs.eff, e < rs.n ∧ memN e (labelOf rs 0) = false) ∧ (∀ p, p < rs.labels.length → (∀ e ∈ rs.eff, memN e (labelOf rs p) = true) → p = rs.fin) ∧
    ∀ i p, i < rs.n → p < rs.labels.length → shut md ops rs i p = true ∨ ∃ q, leads rs i p q = true := by
  simp only [phasesOk, Bool.and_eq_true, List.all_eq_true, List.mem_range, Bool.or_eq_true, List.any_eq_true, Nat.blt_eq, Nat.beq_eq, Bool.not_eq_true'] at h
  obtain ⟨⟨⟨h1, h2⟩, h3⟩, h4⟩ := h
  refine ⟨h1, h2, fun p hp hall => ?_, fun i p hi hp => ?_⟩
  · rcases h3 p hp with h | ⟨e, he, hn⟩
    · exact h
    · rw [hall e he] at hn; cases hn
  · rcases h4 i hi p hp with h | ⟨q, _, hq⟩
    · exact .inl h
    · exact .inr ⟨q, hq⟩

end Go.Ev
