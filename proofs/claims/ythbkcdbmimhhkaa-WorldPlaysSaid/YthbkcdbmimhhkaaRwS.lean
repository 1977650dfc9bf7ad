/-
  The document's world beside the program's, plain: closing.
-/
import Derived.Test.YthbkcdbmimhhkaaRwQ
namespace Go.Proofs.Ythbkcdbmimhhkaa.Rw
open Go.RowKit Go.Maps Wo

theorem uniq_tail {s : Strm} {l : List Strm} (h : Uniq (s :: l)) : Uniq l := (List.pairwise_cons.1 h).2
theorem erase_place (k : Int) (n : ByteArray) : ∀ l : List Strm, Uniq l → 0 ≤ placeL k n l → l.eraseIdx (placeL k n l).toNat = l.filter fun s => !isIt k n s
  | [], _, h => by simp [placeL] at h
  | s :: r, hu, h => by
    rw [placeL_cons] at h ⊢
    by_cases hs : isIt k n s = true
    · rw [if_pos hs] at h ⊢
      have hn : ∀ t ∈ r, isIt k n t = false := fun t ht => by
        rw [Bool.eq_false_iff]
        intro e
        obtain ⟨a1, a2⟩ := isIt_iff.1 hs
        obtain ⟨b1, b2⟩ := isIt_iff.1 e
        exact (List.pairwise_cons.1 hu).1 t ht ⟨a1.trans b1.symm, a2.trans b2.symm⟩
      rw [List.filter_cons, hs]
      show r = _
      simp only [Bool.not_true, Bool.false_eq_true, if_false]
      exact (List.filter_eq_self.2 fun t ht => by rw [hn t ht]; rfl).symm
    · have hs2 : isIt k n s = false := by simpa using hs
      rw [if_neg hs] at h ⊢
      by_cases hp : placeL k n r < 0
      · rw [if_pos hp] at h; omega
      · rw [if_neg hp]
        have ih := erase_place k n r (uniq_tail hu) (by omega)
        have e : (placeL k n r + 1).toNat = (placeL k n r).toNat + 1 := by omega
        rw [e, List.eraseIdx_cons_succ, List.filter_cons, hs2, ih]
        rfl
/- Those that stand when kinds up to i of that name are closed. -/
def stayB (n : ByteArray) (i : Nat) (s : Strm) : Bool := !(decide (s.name = n) && decide (s.kind ≤ (i : Int)))
theorem stay_place (n : ByteArray) (i : Nat) (l : List Strm) : (placeL ((i : Int) + 1) n (l.filter (stayB n i)) < 0) ↔ (placeL ((i : Int) + 1) n l < 0) := by
  have h1 := placeL_any ((i : Int) + 1) n (l.filter (stayB n i))
  have h2 := placeL_any ((i : Int) + 1) n l
  have h3 : anyL ((i : Int) + 1) n (l.filter (stayB n i)) = anyL ((i : Int) + 1) n l := by
    unfold anyL
    rw [List.any_filter]
    congr 1
    funext s
    by_cases h : isIt ((i : Int) + 1) n s = true
    · have hk := (isIt_iff.1 h).1
      rw [h, Bool.and_true]
      unfold stayB
      rw [decide_eq_false (show ¬ s.kind ≤ (i : Int) by omega), Bool.and_false]; rfl
    · have : isIt ((i : Int) + 1) n s = false := by simpa using h
      rw [this, Bool.and_false]
  rw [h1, h2] at h3
  have h4 : (0 ≤ placeL ((i : Int) + 1) n (l.filter (stayB n i))) ↔ (0 ≤ placeL ((i : Int) + 1) n l) := by simpa using h3
  omega
section
variable {S : Scpt} {st : St} {r : RSt}
structure CloseA (S : Scpt) (st : St) (r : RSt) (n : ByteArray) (i : Nat) : Prop where
  strms : (closeTo n i (st, 0, false)).1.streams = st.streams.filter (stayB n i)
  same : (closeTo n i (st, 0, false)).1.most = st.most ∧ (closeTo n i (st, 0, false)).1.clock = st.clock ∧ (closeTo n i (st, 0, false)).1.chance = st.chance ∧ (closeTo n i (st, 0, false)).1.reply = st.reply ∧ (closeTo n i (st, 0, false)).1.fails = st.fails ∧ (closeTo n i (st, 0, false)).1.stdin = st.stdin ∧ (closeTo n i (st, 0, false)).1.file = st.file
  same2 : (rCloseTo S r n i).1.files = r.files ∧ (rCloseTo S r n i).1.taken = r.taken ∧ (rCloseTo S r n i).1.number = r.number
  trace : (closeTo n i (st, 0, false)).1.trace = (rCloseTo S r n i).1.events
  told : (closeTo n i (st, 0, false)).2 = (rCloseTo S r n i).2
theorem status_same (h : Agree S st r) {a : St} (hr : a.reply = st.reply) (k : Int) (n : ByteArray) : statusOf a k n = rClSt S k n := by
  unfold statusOf rClSt
  rw [hr, (out_of h n).2]
theorem Agree.closeTo (h : Agree S st r) (hu : Uniq st.streams) (hk : ∀ s ∈ st.streams, 1 ≤ s.kind ∧ s.kind ≤ 5) (n : ByteArray) : ∀ i, CloseA S st r n i
  | 0 => by
    refine ⟨?_, ⟨rfl, rfl, rfl, rfl, rfl, rfl, rfl⟩, ⟨rfl, rfl, rfl⟩, h.trace, rfl⟩
    show st.streams = _
    refine (List.filter_eq_self.2 fun s hs => ?_).symm
    have := (hk s hs).1
    unfold stayB
    rw [decide_eq_false (show ¬ s.kind ≤ ((0 : Nat) : Int) by omega), Bool.and_false]; rfl
  | i + 1 => by
    have ih := h.closeTo hu hk n i
    obtain ⟨a1, a2, a3, a4, a5⟩ := ih
    have hP : Wo.closeTo n (i + 1) (st, 0, false) = closeStep n ((i : Int) + 1) (Wo.closeTo n i (st, 0, false)) := rfl
    have hR : rCloseTo S r n (i + 1) = rCloseStep S r n ((i : Int) + 1) (rCloseTo S r n i) := rfl
    have hiff := stay_place n i st.streams
    rw [h.place] at hiff
    have hnext : ∀ s : Strm, stayB n (i + 1) s = (stayB n i s && !isIt ((i : Int) + 1) n s) := fun s => by
      unfold stayB isIt
      by_cases h1 : s.name = n
      · rw [decide_eq_true h1]
        by_cases h2 : s.kind ≤ (i : Int)
        · rw [decide_eq_true h2, decide_eq_true (show s.kind ≤ ((i + 1 : Nat) : Int) by omega)]; rfl
        · by_cases h3 : s.kind = (i : Int) + 1
          · rw [decide_eq_false h2, decide_eq_true h3, decide_eq_true (show s.kind ≤ ((i + 1 : Nat) : Int) by omega)]; rfl
          · rw [decide_eq_false h2, decide_eq_false h3, decide_eq_false (show ¬ s.kind ≤ ((i + 1 : Nat) : Int) by omega)]; rfl
      · rw [decide_eq_false h1]; simp
    have hfil : st.streams.filter (stayB n (i + 1)) = (st.streams.filter (stayB n i)).filter fun s => !isIt ((i : Int) + 1) n s := by
      rw [List.filter_filter]
      congr 1
      funext s
      rw [hnext s, Bool.and_comm]
    by_cases hp : rplace ((i : Int) + 1) n r.opn < 0
    · have e1 : Wo.closeTo n (i + 1) (st, 0, false) = Wo.closeTo n i (st, 0, false) := by
        rw [hP]; unfold closeStep; rw [a1, if_pos (hiff.2 hp)]
      have e2 : rCloseTo S r n (i + 1) = rCloseTo S r n i := by
        rw [hR]; unfold rCloseStep; rw [if_pos hp]
      refine ⟨?_, by rw [e1]; exact a2, by rw [e2]; exact a3, by rw [e1, e2]; exact a4, by rw [e1, e2]; exact a5⟩
      rw [e1, a1, hfil]
      refine (List.filter_eq_self.2 fun s hs => ?_).symm
      cases hb : isIt ((i : Int) + 1) n s with
      | false => rfl
      | true =>
        exfalso
        have hany : anyL ((i : Int) + 1) n (st.streams.filter (stayB n i)) = true := List.any_eq_true.2 ⟨s, hs, hb⟩
        rw [placeL_any] at hany
        have := of_decide_eq_true hany
        have := hiff.2 hp
        omega
    · have hp2 : ¬ placeL ((i : Int) + 1) n (st.streams.filter (stayB n i)) < 0 := fun e => hp (hiff.1 e)
      have hst : statusOf (Wo.closeTo n i (st, 0, false)).1 ((i : Int) + 1) n = rClSt S ((i : Int) + 1) n := status_same h a2.2.2.2.1 _ _
      have e1 : Wo.closeTo n (i + 1) (st, 0, false) = (closedS (Wo.closeTo n i (st, 0, false)).1 ((i : Int) + 1) n, rClSt S ((i : Int) + 1) n, true) := by
        rw [hP]; unfold closeStep; rw [if_neg (by rw [a1]; exact hp2), hst]
      have e2 : rCloseTo S r n (i + 1) = (eventR (rCloseTo S r n i).1 ⟨3, (i : Int) + 1, n, noText, rClSt S ((i : Int) + 1) n⟩, rClSt S ((i : Int) + 1) n, true) := by
        rw [hR]; unfold rCloseStep; rw [if_neg hp]
      refine ⟨?_, by rw [e1]; exact a2, by rw [e2]; exact a3, ?_, by rw [e1, e2]⟩
      · rw [e1]
        show (Wo.closeTo n i (st, 0, false)).1.streams.eraseIdx (atOf _ _ n) = _
        unfold atOf
        rw [a1, hfil]
        exact erase_place _ _ _ (hu.sublist List.filter_sublist) (by omega)
      · rw [e1, e2]
        show (Wo.closeTo n i (st, 0, false)).1.trace ++ [_] = (rCloseTo S r n i).1.events ++ [_]
        rw [a4, hst]
theorem Agree.close (h : Agree S st r) (hu : Uniq st.streams) (hk : ∀ s ∈ st.streams, 1 ≤ s.kind ∧ s.kind ≤ 5) (n : ByteArray) : Agree S (Wo.closeTo n 5 (st, 0, false)).1 (rCloseS S r n) ∧ (Wo.closeTo n 5 (st, 0, false)).2 = (rCloseTo S r n 5).2 ∧ Uniq (Wo.closeTo n 5 (st, 0, false)).1.streams ∧ ∀ s ∈ (Wo.closeTo n 5 (st, 0, false)).1.streams, 1 ≤ s.kind ∧ s.kind ≤ 5 := by
  obtain ⟨a1, ⟨b1, b2, b3, b4, b5, b6, b7⟩, ⟨c1, c2, c3⟩, a4, a5⟩ := h.closeTo hu hk n 5
  have hkeep : st.streams.filter (stayB n 5) = (keepS n r.opn).map live := by
    rw [h.strms]
    unfold keepS
    rw [List.filter_map]
    congr 1
    refine List.filter_congr fun s hs => ?_
    have := hk (live s) (by rw [h.strms]; exact List.mem_map.2 ⟨s, hs, rfl⟩)
    show stayB n 5 (live s) = _
    unfold stayB
    have e : (live s).kind ≤ ((5 : Nat) : Int) := this.2
    rw [decide_eq_true e, Bool.and_true]
    rfl
  refine ⟨⟨b1.trans h.most, b2.trans h.clk, ?_, ?_, fun m => by rw [b4]; exact h.reply m, fun op m => by rw [b5]; exact h.fails op m, ?_, ?_, a4, a1.trans hkeep, ?_, ?_⟩, a5, ?_, ?_⟩
  · rw [b3]; show _ = (rCloseTo S r n 5).1.number; rw [c3]; exact h.chance
  · intro m
    rw [b7]
    show _ = (lookF m (rCloseTo S r n 5).1.files).map _
    rw [c1]; exact h.file m
  · rw [b6]; show _ = S.stdin.extract (rCloseTo S r n 5).1.taken _; rw [c2]; exact h.stdin
  · show (rCloseTo S r n 5).1.taken ≤ _; rw [c2]; exact h.taken
  · intro s hs
    exact h.tk s (List.filter_sublist.subset hs)
  · show (rCloseTo S r n 5).1.files.Pairwise _; rw [c1]; exact h.once
  · rw [a1]; exact hu.sublist List.filter_sublist
  · rw [a1]; exact fun s hs => hk s (List.filter_sublist.subset hs)
theorem Agree.all (h : Agree S st r) (hu : Uniq st.streams) (hk : ∀ s ∈ st.streams, 1 ≤ s.kind ∧ s.kind ≤ 5) : ∀ j, Agree S (allTo j st) (rAllTo S j r) ∧ Uniq (allTo j st).streams ∧ ∀ s ∈ (allTo j st).streams, 1 ≤ s.kind ∧ s.kind ≤ 5
  | 0 => ⟨h, hu, hk⟩
  | j + 1 => by
    obtain ⟨h1, h2, h3⟩ := h.all hu hk j
    show Agree S (allStep (allTo j st)) (rAllStep S (rAllTo S j r)) ∧ Uniq (allStep (allTo j st)).streams ∧ ∀ s ∈ (allStep (allTo j st)).streams, _
    have hs := h1.strms
    unfold allStep rAllStep
    cases ho : (rAllTo S j r).opn with
    | nil =>
      rw [ho] at hs
      rw [show (allTo j st).streams = [] from hs]
      exact ⟨h1, by rw [show (allTo j st).streams = [] from hs] at h2; rw [show (allTo j st).streams = [] from hs]; exact h2, by rw [show (allTo j st).streams = [] from hs]; exact fun s hs => by cases hs⟩
    | cons s l =>
      rw [ho] at hs
      have hs2 : (allTo j st).streams = live s :: l.map live := hs
      rw [hs2]
      obtain ⟨q1, _, q3, q4⟩ := h1.close h2 h3 s.name
      exact ⟨q1, q3, q4⟩
end
end Go.Proofs.Ythbkcdbmimhhkaa.Rw
