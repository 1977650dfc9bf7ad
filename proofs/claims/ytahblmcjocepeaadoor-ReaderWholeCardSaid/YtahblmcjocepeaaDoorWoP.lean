/-
  Package world, plain: what a world holds, and what its calls make of it.
-/
import Derived.Test.YtahblmcjocepeaaDoorRows
import Derived.WalkKit
import Derived.WalkSpells
import Derived.WalkLawsBesides
import Derived.Lib.Hide
import Derived.BigQuiet
import Derived.Deep.Quiet
import Derived.ChangeKeysEq
import Derived.WalkSmall
import Derived.Deep.Light
import Derived.Deep.QuietTactic
import Derived.StillTactics
import Derived.Maps.OwnSet
import Derived.Maps.Views
import Derived.Deep.AppendLies
import Derived.Deep.RegionLaw
import Derived.Laws.OwnMore
namespace Go.Proofs.YtahblmcjocepeaaDoor.Wo

structure Ev where
  kind : Int
  stream : Int
  name : ByteArray
  data : ByteArray
  status : Int
inductive Src where
  | none
  | stdin
  | own (s : ByteArray)
structure Strm where
  kind : Int
  name : ByteArray
  src : Src
structure St where
  file : ByteArray → Option (List UInt8)
  stdin : ByteArray
  reply : ByteArray → Option (ByteArray × Int)
  fails : Int → ByteArray → Bool
  most : Int
  clock : Int
  chance : Int
  streams : List Strm
  trace : List Ev
  made : Nat

def txt (l : List UInt8) : ByteArray := ⟨l.toArray⟩
abbrev noText : ByteArray := ⟨#[]⟩
def dash : ByteArray := ⟨#[45]⟩
def isIt (k : Int) (n : ByteArray) (s : Strm) : Bool := decide (s.kind = k) && decide (s.name = n)
/- Where a stream stands; -1: nowhere. -/
def placeL (k : Int) (n : ByteArray) : List Strm → Int
  | [] => -1
  | s :: r => if isIt k n s then 0 else if placeL k n r < 0 then -1 else placeL k n r + 1
theorem placeL_cons (k : Int) (n : ByteArray) (s : Strm) (r : List Strm) : placeL k n (s :: r) = if isIt k n s then 0 else if placeL k n r < 0 then -1 else placeL k n r + 1 := rfl
def anyL (k : Int) (n : ByteArray) (l : List Strm) : Bool := l.any (isIt k n)
theorem placeL_ge (k : Int) (n : ByteArray) : ∀ l, -1 ≤ placeL k n l
  | [] => Int.le_refl _
  | s :: r => by
    have := placeL_ge k n r
    rw [placeL_cons]
    split
    · omega
    · split <;> omega
theorem placeL_lt (k : Int) (n : ByteArray) : ∀ l, placeL k n l < l.length
  | [] => by simp [placeL]
  | s :: r => by
    have := placeL_lt k n r
    rw [placeL_cons]
    rw [List.length_cons]
    split
    · omega
    · split <;> omega
theorem placeL_any (k : Int) (n : ByteArray) : ∀ l, anyL k n l = decide (0 ≤ placeL k n l)
  | [] => by simp [anyL, placeL]
  | s :: r => by
    have ih := placeL_any k n r
    have hg := placeL_ge k n r
    unfold anyL at ih ⊢
    rw [List.any_cons, ih]
    rw [placeL_cons]
    by_cases h : isIt k n s = true
    · rw [if_pos h, h]; simp
    · rw [if_neg h]
      have h2 : isIt k n s = false := by simpa using h
      rw [h2, Bool.false_or]
      by_cases h3 : placeL k n r < 0
      · rw [if_pos h3, decide_eq_false (by omega), decide_eq_false (by omega)]
      · rw [if_neg h3, decide_eq_true (by omega), decide_eq_true (by omega)]
theorem placeL_not (k : Int) (n : ByteArray) : ∀ (i : Nat) (l : List Strm), (∀ j s, j < i → l[j]? = some s → isIt k n s = false) → (i = l.length → placeL k n l = -1) ∧ ∀ s, l[i]? = some s → isIt k n s = true → placeL k n l = i
  | 0, [], _ => ⟨fun _ => rfl, fun s hs => by simp at hs⟩
  | 0, s :: r, _ => ⟨fun h => by simp at h, fun t ht hi => by
      have : s = t := by simpa using ht
      subst this
      rw [placeL_cons, if_pos hi]; rfl⟩
  | i + 1, [], _ => ⟨fun h => by simp at h, fun s hs => by simp at hs⟩
  | i + 1, s :: r, h => by
    have h0 := h 0 s (by omega) rfl
    obtain ⟨ih1, ih2⟩ := placeL_not k n i r fun j t hj ht => h (j + 1) t (by omega) (by simpa using ht)
    refine ⟨fun hl => ?_, fun t ht hi => ?_⟩
    · have := ih1 (by simpa using hl)
      rw [placeL_cons]
      rw [h0, if_neg (by decide), if_pos (by omega)]
    · have := ih2 t (by simpa using ht) hi
      rw [placeL_cons]
      rw [h0, if_neg (by decide), if_neg (by omega), this]
      push_cast; rfl
theorem placeL_get (k : Int) (n : ByteArray) : ∀ (l : List Strm) (i : Nat), placeL k n l = i → ∃ s, l[i]? = some s ∧ isIt k n s = true
  | [], i, h => by simp [placeL] at h
  | s :: r, i, h => by
    rw [placeL_cons] at h
    split at h
    · obtain rfl : i = 0 := by omega
      exact ⟨s, rfl, by assumption⟩
    · split at h
      · omega
      · obtain ⟨j, rfl⟩ : ∃ j, i = j + 1 := ⟨i - 1, by omega⟩
        obtain ⟨t, h1, h2⟩ := placeL_get k n r j (by push_cast at h; omega)
        exact ⟨t, by simpa using h1, h2⟩
theorem isIt_iff {k : Int} {n : ByteArray} {s : Strm} : isIt k n s = true ↔ s.kind = k ∧ s.name = n := by simp [isIt]
/- One stream of each kind and name at most. -/
def Uniq (l : List Strm) : Prop := l.Pairwise fun a b => ¬ (a.kind = b.kind ∧ a.name = b.name)
end Go.Proofs.YtahblmcjocepeaaDoor.Wo
