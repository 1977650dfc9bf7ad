/-
  Tables for the evaluator: trees, and what must be asked of their leaves.
-/
import Derived.Test.YtmoglfooadcemaaEvR
import Derived.KernelRfl
namespace Go.Ev
open Go.RowKit

inductive Tr (α : Type) where
  | leaf (i : Nat) (a : α)
  | node (m : Nat) (l r : Tr α)
def Tr.get {α : Type} : Tr α → Nat → Option α
  | .leaf i a, t => bif Nat.beq i t then some a else none
  | .node m l r, t => bif Nat.blt t m then l.get t else r.get t
def Tr.All {α : Type} (p : Nat → α → Prop) : Tr α → Prop
  | .leaf i a => p i a
  | .node _ l r => l.All p ∧ r.All p
theorem Tr.All.get {α : Type} {p : Nat → α → Prop} : ∀ {t : Tr α} {i : Nat} {a : α}, t.All p → t.get i = some a → p i a
  | .leaf j b, i, a, h, hg => by
    simp only [Tr.get, Bool.cond_eq_ite] at hg
    split at hg
    · rename_i hb
      have := Nat.eq_of_beq_eq_true hb
      cases hg; subst this; exact h
    · cases hg
  | .node m l r, i, a, h, hg => by
    simp only [Tr.get, Bool.cond_eq_ite] at hg
    split at hg
    · exact h.1.get hg
    · exact h.2.get hg

/- Types, functions, and functions without a body. -/
structure TL where
  und : Option TypeDesc
  inf : Option TypeInfo
def hasN (g : Nat) : List Nat → Bool
  | [] => false
  | i :: l => bif Nat.beq i g then true else hasN g l
theorem hasN_mem {g : Nat} : ∀ {l : List Nat}, hasN g l = true → g ∈ l
  | i :: l, h => by
    simp only [hasN, Bool.cond_eq_ite] at h
    split at h
    · rename_i hb; rw [Nat.eq_of_beq_eq_true hb]; simp
    · exact List.mem_cons_of_mem _ (hasN_mem h)
def hasL (e n off u : Nat) : List (Nat × Nat × Nat × Nat) → Bool
  | [] => false
  | (a, b, c, d) :: l => bif Nat.beq a e && Nat.beq b n && Nat.beq c off && Nat.beq d u then true else hasL e n off u l
theorem hasL_mem {e n off u : Nat} : ∀ {l : List (Nat × Nat × Nat × Nat)}, hasL e n off u l = true → (e, n, off, u) ∈ l
  | (a, b, c, d) :: l, h => by
    simp only [hasL, Bool.cond_eq_ite] at h
    split at h
    · rename_i hb
      simp only [Bool.and_eq_true, Nat.beq_eq] at hb
      obtain ⟨⟨⟨rfl, rfl⟩, rfl⟩, rfl⟩ := hb
      simp
    · exact List.mem_cons_of_mem _ (hasL_mem h)
def TE.of (t : Tr TL) (fs : Nat → Option VF) (ex : Nat → Option (List Value → Option Value)) (ids : List Nat) (ls : List (Nat × Nat × Nat × Nat)) : TE where
  und i := match t.get i with
    | some x => x.und
    | none => none
  inf i := match t.get i with
    | some x => x.inf
    | none => none
  body g := (fs g).isSome
  ext := ex
  idf g := hasN g ids
  lies e n off u := hasL e n off u ls
def TL.ok (P : Program) (i : Nat) (x : TL) : Prop := x.und = P.underlying i ∧ x.inf = P.info? i
theorem tl_ok {P : Program} {i : Nat} {x : TL} (h1 : x.und = P.underlying i) (h2 : x.inf = P.info? i) : TL.ok P i x := ⟨h1, h2⟩
theorem tok_of {P : Program} {ng : Nat} {t : Tr TL} {fs : Nat → Option VF} {ex : Nat → Option (List Value → Option Value)} {ids : List Nat} {ls : List (Nat × Nat × Nat × Nat)} (h : t.All (TL.ok P)) (hf : TblOk P ng fs) (he : ∀ g h, ex g = some h → ExtOk P g h)
    (hi : ∀ g ∈ ids, ∀ v W, (callFunc g #[v]).run P W = .ok (.value v) W) (hl : ∀ x ∈ ls, liesAt P P.depth x.1 (x.2.1 / P.cellsOf x.1) x.2.2.1 x.2.2.2 1 = true) : TOk P (TE.of t fs ex ids ls) where
  und := fun {i d} hd => by
    simp only [TE.of] at hd
    split at hd
    · rename_i x hx; rw [← (h.get hx).1]; exact hd
    · cases hd
  inf := fun {i d} hd => by
    simp only [TE.of] at hd
    split at hd
    · rename_i x hx; rw [← (h.get hx).2]; exact hd
    · cases hd
  body := fun {g} hg => by
    simp only [TE.of] at hg
    obtain ⟨F, hF⟩ := Option.isSome_iff_exists.1 hg
    obtain ⟨_, fn, h1, h2, _⟩ := hf g F hF
    simp [hasBody, h1, h2]
  ext := fun {g h} hg => he g h hg
  idf := fun {g} hg => hi g (hasN_mem hg)
  lies := fun {e n off u} hg => hl _ (hasL_mem hg)

/- Functions. -/
def VF.ok (P : Program) (ng : Nat) (f : Nat) (F : VF) : Prop := codeOk ng (tlOf F.tails) F.body = true ∧ ∃ fn, P.funcs[f]? = some fn ∧ fn.body = some F.body ∧ fn.ntmps = F.ntmps ∧ fn.results.toList = F.results
theorem tbl_of {P : Program} {ng : Nat} {t : Tr VF} (h : t.All (VF.ok P ng)) : TblOk P ng t.get := fun _ _ hf => h.get hf

def namesB (P : Program) : Bool := P.funcs.toList.all fun fn => fn.body.isNone || !(fn.name == "runtime.NumGoroutine")
theorem names_of {P : Program} (h : namesB P = true) : NamesOk P := fun f fn hf hb => by
  have := List.all_eq_true.1 h fn (by simpa using Array.mem_of_getElem? hf)
  cases hbd : fn.body with
  | none => rw [hbd] at hb; cases hb
  | some c => rw [hbd] at this; simpa using this


def sayB (b : Bool) : Option (VE × VS) → Bool
  | some (.ret (.bool c), _) => b == c
  | _ => false
theorem sayB_some {b : Bool} {x : Option (VE × VS)} (h : sayB b x = true) : ∃ vs1, x = some (.ret (.bool b), vs1) := by
  unfold sayB at h
  split at h
  · rename_i c vs1; simp at h; subst h; exact ⟨vs1, rfl⟩
  · cases h
def sayS (l : List UInt8) : Option (VE × VS) → Bool
  | some (.ret (.string s), _) => beqL l s.data.toList
  | _ => false
theorem sayS_some {l : List UInt8} {x : Option (VE × VS)} (h : sayS l x = true) : ∃ vs1, x = some (.ret (.string ⟨⟨l⟩⟩), vs1) := by
  unfold sayS at h
  split at h
  · rename_i s vs1
    rw [beqL_eq] at h
    have h := eq_of_beq h
    refine ⟨vs1, ?_⟩
    rw [h]
  · cases h

end Go.Ev
