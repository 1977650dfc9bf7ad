/-
  A region that draws its order: operations that only read, then one that turns memory and waits for all of them, then others that only read and wait for that one.
-/
import Derived.StillTail
import Derived.Test.YtahblmcjocepeaaDoorRows
import Derived.WalkKit
import Derived.Below
namespace Go.Proofs.YtahblmcjocepeaaDoor.Rg
open Go Go.RowKit

section
variable {P : Program} {ops : Array Oper} {md : Region.Mode} {w : World}

/- Each operation behind place n waits for one at n or behind it. -/
def anchB (md : Region.Mode) (ops : Array Oper) (n : Nat) : Bool :=
  (List.range ops.size).all fun t => decide (t ≤ n) || (List.range t).any fun u => decide (n ≤ u) && Region.waitsFor md ops t u
theorem no_ready {n : Nat} {listed : Array Bool} (hs : Region.sinkB md ops n = true) (hc : anchB md ops n = true) (hn : n < ops.size) (inv : HeadInv md ops n listed) :
    ∀ (d i : Nat), n - i = d → i < n → listed.getD i true = false → ∀ t, n ≤ t → t ∉ Region.ready md ops listed := by
  intro d
  induction d using Nat.strongRecOn with
  | _ d ih =>
    intro i hd hi hun t ht hr
    have hr0 := hr
    obtain ⟨_, ot, hot, hall⟩ := mem_ready.1 hr
    have htlt : t < ops.size := (Array.getElem?_eq_some_iff.1 hot).1
    rcases Nat.lt_or_ge n t with hlt | hge
    · have q := List.all_eq_true.1 hc t (List.mem_range.2 htlt)
      rcases Bool.or_eq_true_iff.1 q with q | q
      · have := of_decide_eq_true q; omega
      · obtain ⟨u, hu, q2⟩ := List.any_eq_true.1 q
        obtain ⟨q3, q4⟩ := Bool.and_eq_true_iff.1 q2
        have hnu := of_decide_eq_true q3
        have hut := List.mem_range.1 hu
        obtain ⟨o', ho', e, he, hb, hon⟩ := Region.waitsFor_spec q4
        obtain rfl : o' = ot := Option.some.inj (ho'.symm.trans hot)
        have q5 := hall e he hb
        rw [hon, getD_both (inv.tail u hnu (by omega))] at q5
        cases q5
    · obtain rfl : t = n := by omega
      obtain ⟨j, hj, q⟩ := List.any_eq_true.1 (List.all_eq_true.1 hs i (List.mem_range.2 hi))
      obtain ⟨q1, q2⟩ := Bool.and_eq_true_iff.1 q
      have hij := of_decide_eq_true q1
      have hjt := List.mem_range.1 hj
      obtain ⟨oj, hoj, e, he, hb, hon⟩ := Region.waitsFor_spec q2
      have hoff : ∀ (x : Bool), listed.getD e.on false = x → x = false := fun x hx => by rw [← hx, hon]; exact getD_both hun
      rcases Nat.lt_or_ge j t with hjl | hjg
      · by_cases hl : listed.getD j false = true
        · have := hoff _ (inv.closed j oj hoj hl e he hb)
          cases this
        · have hjs : j < listed.size := by rw [inv.size]; omega
          exact ih (t - j) (by omega) j rfl hjl (getD_in hjs (by simpa using hl)) t (Nat.le_refl _) hr0
      · obtain rfl : j = t := by omega
        obtain rfl : oj = ot := Option.some.inj (hoj.symm.trans hot)
        have := hoff _ (hall e he hb)
        cases this
theorem head_lt {n i : Nat} {listed : Array Bool} (hs : Region.sinkB md ops n = true) (hc : anchB md ops n = true) (hn : n < ops.size) (inv : HeadInv md ops n listed) (hin : i < n) (hr : i ∈ Region.ready md ops listed) : ∀ j ∈ Region.ready md ops listed, j < n := fun j hj =>
  Nat.lt_of_not_le fun h => no_ready hs hc hn inv _ i rfl hin (mem_ready.1 hr).1 j h hj

/- One that may come first, taken first. -/
theorem take_first {n i : Nat} {oi : Oper} {v : Value} {L : Array Bool → Act → Prop} (hi : ops[i]? = some oi) (hsel : ∀ (j : Nat) (o : Oper) cs b, ops[j]? = some o → o.op ≠ .select cs b)
    (hs : Region.sinkB md ops n = true) (hc : anchB md ops n = true) (hn : n < ops.size) (hin : i < n) (hdone : ∀ listed a, L listed a → ∀ j ∈ Region.ready md ops listed, n ≤ j) (f : Nat) :
    ∀ (listed : Array Bool) (a : Act), HeadInv md ops n listed →
      (∀ j oj, ops[j]? = some oj → j ≠ i → listed.getD j true = false → (∀ e ∈ oj.after, Region.binds md e = true → e.on ≠ i) → oi.apart ops oj = true) →
      i ∈ Region.ready md ops listed → YieldsAt P ops w oi v a →
      wpAnyL P md ops w n L f (listed.setIfInBounds i true) (a.put oi.dst v) → wpAnyL P md ops w n L (f + 1) listed a := by
  induction f with
  | zero =>
    intro listed a inv hfree hr hy H
    have hlt := head_lt hs hc hn inv hin hr
    refine ⟨List.ne_nil_of_mem hr, fun j hj => ⟨hlt j hj, ?_⟩⟩
    by_cases hji : j = i
    · rw [hji]; exact hy.stOp hi H
    · exact absurd (hlt j hj) (by have := hdone _ _ H j (ready_mono hj hji); omega)
  | succ f ih =>
    intro listed a inv hfree hr hy H
    have hlt := head_lt hs hc hn inv hin hr
    refine ⟨List.ne_nil_of_mem hr, fun j hj => ⟨hlt j hj, ?_⟩⟩
    by_cases hji : j = i
    · rw [hji]; exact hy.stOp hi H
    · obtain ⟨hjun, oj, hoj, hall⟩ := mem_ready.1 hj
      have hun := (mem_ready.1 hr).1
      have hap : oi.apart ops oj = true := hfree j oj hoj hji hjun fun e he hb heq => by
        have q := hall e he hb
        rw [heq, getD_both hun] at q
        cases q
      have step := stOp_put hoj hap (fun cs b => hsel i oi cs b hi) (fun cs b => hsel j oj cs b hoj) hy (H.2 j (ready_mono hj hji)).2
      refine stOp_mono (fun a' hq => ?_) step
      refine ih (listed.setIfInBounds j true) a' (inv.set hj (hlt j hj)) (fun k ok hk hki hkun hno => hfree k ok hk hki ?_ hno) (ready_mono hr (Ne.symm hji)) hq.1 ?_
      · by_cases hjk : j = k
        · rw [← hjk]; exact hjun
        · rw [getD_set_ne true hjk] at hkun; exact hkun
      · rw [Array.setIfInBounds_comm _ _ hji]
        exact hq.2

/- In the order of the text: the head one by one, then n alone, then the rest. -/
def midHead (md : Region.Mode) (ops : Array Oper) (g : Nat) : Nat → Nat → Array Bool → Bool
  | 0, k, listed => decide (Region.ready md ops listed = [k]) && Region.lexFrom md ops g (k + 1) (listed.setIfInBounds k true)
  | f + 1, k, listed => (Region.ready md ops listed).contains k && Region.free md ops listed k && midHead md ops g f (k + 1) (listed.setIfInBounds k true)
def midB (md : Region.Mode) (ops : Array Oper) (n : Nat) : Bool :=
  Region.noSelect ops && decide (n < ops.size) && Region.sinkB md ops n && anchB md ops n && midHead md ops (ops.size - (n + 1)) n 0 (Array.replicate ops.size false)
def MidL (md : Region.Mode) (ops : Array Oper) (n g : Nat) (Lq : Act → Prop) (listed : Array Bool) (a : Act) : Prop := Region.ready md ops listed = [n] ∧ Region.lexFrom md ops g (n + 1) (listed.setIfInBounds n true) = true ∧ Lq a
theorem head_lex {n g : Nat} {Lq : Act → Prop} (hsel : Region.noSelect ops = true) (hs : Region.sinkB md ops n = true) (hc : anchB md ops n = true) (hn : n < ops.size) :
    ∀ (l : List Oper) (k : Nat) (listed : Array Bool) (a : Act), (∀ j, j < l.length → l[j]? = ops[k + j]?) → k + l.length = n → HeadInv md ops n listed →
    midHead md ops g l.length k listed = true → wpStill P ops w Lq l a → wpAnyL P md ops w n (MidL md ops n g Lq) l.length listed a
  | [], k, listed, a, _, hk, _, hB, h => by
    obtain rfl : k = n := by simpa using hk
    obtain ⟨h1, h2⟩ := Bool.and_eq_true_iff.1 hB
    exact ⟨of_decide_eq_true h1, h2, h⟩
  | o :: l, k, listed, a, hl, hk, inv, hB, h => by
    have h0 : ops[k]? = some o := by simpa using (hl 0 (by simp)).symm
    obtain ⟨hB1, hB'⟩ := Bool.and_eq_true_iff.1 hB
    obtain ⟨hr, hf⟩ := Bool.and_eq_true_iff.1 hB1
    rw [List.length_cons] at hk
    have hkn : k < n := by omega
    have hr' : k ∈ Region.ready md ops listed := by simpa using hr
    obtain ⟨v, hy, hK⟩ := yieldsAt_of_stOp h0 (show stOp P ops w k (wpStill P ops w Lq l) a by unfold stOp; simp only [h0]; exact h)
    refine take_first h0 (Region.noSelect_spec hsel) hs hc hn hkn (fun listed' a' hL j hj => ?_) l.length listed a inv (Region.free_spec h0 hf) hr' hy ?_
    · rw [hL.1] at hj
      have : j = n := by simpa using hj
      omega
    · exact head_lex hsel hs hc hn l (k + 1) _ _ (fun j hj => by have := hl (j + 1) (by rw [List.length_cons]; omega); simpa [Nat.add_assoc, Nat.add_comm 1 j] using this) (by omega) (inv.set hr' hkn) hB' hK
end
theorem wp_region_mid {P : Program} {id : Nat} {Q : Exit → Act → World → Prop} {a : Act} {w : World} {l : List Oper} (n : Nat) {o : Oper} (ho : l[n]? = some o) (hm : P.follows .mixedOrders = true) (hB : midB .any l.toArray n = true)
    (h : ∀ w2, Below w.heap.size w w2 → w2.heap = w.heap → wpStill P l.toArray w2 (fun a' => ∀ K : Act → World → Prop, (∀ a2 w3, wpStill P l.toArray w3 (fun a3 => Q .normal a3 w3) (l.drop (n + 1)) a2 → K a2 w3) → if Region.wanted o (yielded l.toArray a'.tmps) then o.wp P a' w2 K Q else K (a'.put o.dst undef) w2) (l.take n) a) :
    (Code.region id l.toArray true).wp P Q a w := by
  have h := h { w with drawn := w.drawn + 1 } ⟨rfl, rfl, rfl, Nat.le_refl _, fun _ _ => rfl⟩ rfl
  simp only [midB, Bool.and_eq_true, decide_eq_true_eq] at hB
  obtain ⟨⟨⟨⟨hsel, hn⟩, hs⟩, hc⟩, hlex⟩ := hB
  have hn' : n < l.length := by simpa using hn
  have htl : (l.take n).length = n := by rw [List.length_take]; omega
  have hsz : l.toArray.size = n + ((l.toArray.size - (n + 1)) + 1) := by omega
  have H := head_lex (md := .any) (g := l.toArray.size - (n + 1)) hsel hs hc hn (l.take n) 0 (Array.replicate l.toArray.size false) a (fun j hj => by
    have hj' : j < n := by rw [htl] at hj; exact hj
    simp [hj']) (by rw [htl, Nat.zero_add]) ⟨by simp, fun j oj _ hl => (by rw [getD_replicate_false] at hl; cases hl), fun t _ ht => getD_in (by simpa using ht) (getD_replicate_false _ _)⟩ (by rw [htl]; exact hlex) h
  refine wp_region_any hm ?_
  have R := wpAny_of_head (Q' := Q) (g := (l.toArray.size - (n + 1)) + 1) (fun listed a' hL => ?_) _ _ _ H
  · rw [htl, ← hsz] at R
    exact R
  · obtain ⟨h1, h2, h3⟩ := hL
    refine ⟨fun h0 => (by rw [h1] at h0; cases h0), fun i hi => ?_⟩
    rw [h1] at hi
    obtain rfl : i = n := by simpa using hi
    have hdl : (l.drop (i + 1)).length = l.toArray.size - (i + 1) := by simp
    have h4 := h3 (wpAny P .any l.toArray Q (l.toArray.size - (i + 1)) (listed.setIfInBounds i true)) fun a2 w3 hst => by
      rw [← hdl]
      exact wpAny_of_still (Q := fun a3 => Q .normal a3 w3) (fun _ h => h) _ _ _ (wpAnyS_lex (md := .any) hsel (l.drop (i + 1)) (i + 1) _ a2 (fun j => by simp [List.getElem?_drop]) (by rw [hdl]; exact h2) hst)
    have ho' : l.toArray[i]? = some o := by simpa using ho
    unfold wpOp
    simp only [ho']
    split
    · rename_i hw; rw [if_pos hw] at h4; exact .inl h4
    · rename_i hw; rw [if_neg hw] at h4; exact h4
end Go.Proofs.YtahblmcjocepeaaDoor.Rg
