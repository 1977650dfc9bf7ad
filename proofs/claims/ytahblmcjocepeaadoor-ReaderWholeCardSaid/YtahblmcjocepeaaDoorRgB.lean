/-
  A region that draws its order, cut behind a chain: its first operations only read, all others wait for them; what is left is walked from there on.
-/
import Derived.Test.YtahblmcjocepeaaDoorRgA
import Derived.Deep.Quiet
namespace Go.Proofs.YtahblmcjocepeaaDoor.Rg
open Go Go.RowKit

section
variable {P : Program} {ops : Array Oper} {md : Region.Mode} {w : World}
def marks : Nat → Nat → Array Bool → Array Bool
  | 0, _, listed => listed
  | f + 1, k, listed => marks f (k + 1) (listed.setIfInBounds k true)
def cutHead (md : Region.Mode) (ops : Array Oper) : Nat → Nat → Array Bool → Bool
  | 0, k, listed => decide (Region.ready md ops listed = [k])
  | f + 1, k, listed => (Region.ready md ops listed).contains k && Region.free md ops listed k && cutHead md ops f (k + 1) (listed.setIfInBounds k true)
def cutB (md : Region.Mode) (ops : Array Oper) (n : Nat) : Bool :=
  Region.noSelect ops && decide (n < ops.size) && Region.sinkB md ops n && anchB md ops n && cutHead md ops n 0 (Array.replicate ops.size false)
def CutL (md : Region.Mode) (ops : Array Oper) (n : Nat) (m : Array Bool) (Lq : Act → Prop) (listed : Array Bool) (a : Act) : Prop := Region.ready md ops listed = [n] ∧ listed = m ∧ Lq a
theorem head_cut {n : Nat} {Lq : Act → Prop} (hsel : Region.noSelect ops = true) (hs : Region.sinkB md ops n = true) (hc : anchB md ops n = true) (hn : n < ops.size) :
    ∀ (l : List Oper) (k : Nat) (listed : Array Bool) (a : Act), (∀ j, j < l.length → l[j]? = ops[k + j]?) → k + l.length = n → HeadInv md ops n listed →
    cutHead md ops l.length k listed = true → wpStill P ops w Lq l a → wpAnyL P md ops w n (CutL md ops n (marks l.length k listed) Lq) l.length listed a
  | [], k, listed, a, _, hk, _, hB, h => by
    obtain rfl : k = n := by simpa using hk
    exact ⟨of_decide_eq_true hB, rfl, h⟩
  | o :: l, k, listed, a, hl, hk, inv, hB, h => by
    have h0 : ops[k]? = some o := by simpa using (hl 0 (by simp)).symm
    obtain ⟨hB1, hB'⟩ := Bool.and_eq_true_iff.1 hB
    obtain ⟨hr, hf⟩ := Bool.and_eq_true_iff.1 hB1
    rw [List.length_cons] at hk
    have hkn : k < n := by omega
    have hr' : k ∈ Region.ready md ops listed := by simpa using hr
    obtain ⟨v, hy, hK⟩ := yieldsAt_of_stOp h0 (show stOp P ops w k (wpStill P ops w Lq l) a by unfold stOp; simp only [h0]; exact h)
    refine take_first h0 (Region.noSelect_spec hsel) hs hc hn hkn (fun listed' a' hL j hj => ?_) l.length listed a inv (Region.free_spec h0 hf) hr' hy ?_
    · rw [hL.1] at hj
      have : j = n := by simpa using hj
      omega
    · exact head_cut hsel hs hc hn l (k + 1) _ _ (fun j hj => by have := hl (j + 1) (by rw [List.length_cons]; omega); simpa [Nat.add_assoc, Nat.add_comm 1 j] using this) (by omega) (inv.set hr' hkn) hB' hK
end
theorem wp_region_cut {P : Program} {id : Nat} {Q : Exit → Act → World → Prop} {a : Act} {w : World} {l : List Oper} (n g : Nat) (hg : n + g = l.length) (hm : P.follows .mixedOrders = true) (hB : cutB .any l.toArray n = true)
    (h : ∀ w2, Below w.heap.size w w2 → w2.heap = w.heap → wpStill P l.toArray w2 (fun a' => wpAny P .any l.toArray Q g (marks n 0 (Array.replicate l.length false)) a' w2) (l.take n) a) :
    (Code.region id l.toArray true).wp P Q a w := by
  have h := h { w with drawn := w.drawn + 1 } ⟨rfl, rfl, rfl, Nat.le_refl _, fun _ _ => rfl⟩ rfl
  simp only [cutB, Bool.and_eq_true, decide_eq_true_eq] at hB
  obtain ⟨⟨⟨⟨hsel, hn⟩, hs⟩, hc⟩, hlex⟩ := hB
  have hn' : n < l.length := by simpa using hn
  have htl : (l.take n).length = n := by rw [List.length_take]; omega
  have hsz : l.toArray.size = n + g := by simpa using hg.symm
  have H := head_cut (md := .any) hsel hs hc hn (l.take n) 0 (Array.replicate l.toArray.size false) a (fun j hj => by
    have hj' : j < n := by rw [htl] at hj; exact hj
    simp [hj']) (by rw [htl, Nat.zero_add]) ⟨by simp, fun j oj _ hl => (by rw [getD_replicate_false] at hl; cases hl), fun t _ ht => getD_in (by simpa using ht) (getD_replicate_false _ _)⟩ (by rw [htl]; exact hlex) h
  refine wp_region_any hm ?_
  have R := wpAny_of_head (Q' := Q) (g := g) (fun listed a' hL => (by
    obtain ⟨_, h2, h3⟩ := hL
    rw [htl] at h2
    rw [h2]
    simpa using h3)) _ _ _ H
  rw [htl, ← hsz] at R
  exact R
/- From a place on: operations that yield the same in every world of a class. -/
theorem wpAny_quiet_from {P : Program} {md : Region.Mode} {ops : Array Oper} {Q : Exit → Act → World → Prop} (C : World → Prop) {l : List Oper} (k : Nat) {g : Nat} {listed : Array Bool} {a : Act} {w : World} (hg : g = l.length) (hs : Region.noSelect ops = true) (hl : ops.toList.drop k = l) (hB : Region.lexFrom md ops l.length k listed = true) (hC : C w)
    (h : wpQuiet P ops C (fun a' => ∀ w', C w' → Q .normal a' w') l a) : wpAny P md ops Q g listed a w := by
  subst hg
  refine wpAny_of_quiet (Q := fun a' => ∀ w', C w' → Q .normal a' w') (fun _ w' hw' h => h w' hw') _ _ _ _ hC (wpAnyQ_lex hs l k listed a (fun j => ?_) hB h)
  rw [← hl, List.getElem?_drop, Array.getElem?_toList]
end Go.Proofs.YtahblmcjocepeaaDoor.Rg
