/-
  Package world, plain: what the openings and closings of WorldLimits keep; Pick.
-/
import Derived.Test.YthbkcdbmimhhkaaWoU
namespace Go.Proofs.Ythbkcdbmimhhkaa.Wo
open Go.RowKit Go.Maps

def pickI (x n : Int) : Int := if n ≤ 0 then 0 else x % n
theorem pickI_lt {x n : Int} (h : 0 < n) : 0 ≤ pickI x n ∧ pickI x n < n := by
  unfold pickI
  rw [if_neg (by omega)]
  exact ⟨Int.emod_nonneg _ (by omega), Int.emod_lt_of_pos _ h⟩
theorem tmod_pick {x n : Int} (h : 0 < n) : (if x.tmod n < 0 then x.tmod n + n else x.tmod n) = pickI x n := by
  have e : pickI x n = x % n := by unfold pickI; rw [if_neg (by omega)]
  rw [e]
  clear e
  have h1 := Int.tmod_eq_emod (a := x) (b := n)
  have h2 := Int.emod_nonneg x (show n ≠ 0 by omega)
  have h3 := Int.emod_lt_of_pos x h
  have h4 : (n.natAbs : Int) = n := by omega
  by_cases hc : 0 ≤ x ∨ n ∣ x
  · rw [if_pos hc] at h1
    generalize x.tmod n = y at *
    generalize x % n = z at *
    split <;> omega
  · rw [if_neg hc] at h1
    generalize x.tmod n = y at *
    generalize x % n = z at *
    split <;> omega
set_option maxRecDepth 100000 in
theorem Pick (x n : Int) (w : World) (hn : 0 < n) (hn2 : n ≤ 2000000) :
    Calls Try.prog 20 #[.int .i64 x, .int .i64 n] w fun e w' => e = .returned (.int .i64 (pickI x n)) ∧ w' = w := by
  have h1 : ¬ n ≤ 0 := by omega
  have h0 : ¬ n = 0 := by omega
  have hp := tmod_pick (x := x) hn
  have hr1 : x.tmod n < n := Int.tmod_lt_of_pos x hn
  have hr2 : -n ≤ x.tmod n := by
    by_cases h : x.tmod n < 0
    · rw [if_pos h] at hp
      have := (pickI_lt (x := x) hn).1
      omega
    · omega
  by_cases h : x.tmod n < 0
  · rw [if_pos h] at hp
    rw [← hp]
    have HP := Lib.hid hp
    clear hp
    go_enter Try.func20, Try.ntmps20
    go_wp2_with fail
    go_ret
    exact ⟨rfl, rfl⟩
  · rw [if_neg h] at hp
    rw [← hp]
    have HP := Lib.hid hp
    clear hp
    go_enter Try.func20, Try.ntmps20
    go_wp2_with fail
    go_ret
    exact ⟨rfl, rfl⟩

/- How many events of a kind. -/
def cnt (x : Int) (l : List Ev) : Nat := l.countP fun e => decide (e.kind = x)
theorem cnt_snoc (x : Int) (l : List Ev) (e : Ev) : cnt x (l ++ [e]) = cnt x l + if e.kind = x then 1 else 0 := by
  unfold cnt
  rw [List.countP_append, List.countP_cons, List.countP_nil]
  simp
/- What is kept. -/
structure Kept (lim : Int) (st : St) : Prop where
  most : st.most = lim
  few : (st.streams.length : Int) ≤ lim
  even : cnt 1 st.trace = cnt 3 st.trace + st.streams.length
  kinds : ∀ s ∈ st.streams, 1 ≤ s.kind ∧ s.kind ≤ 5
theorem placeL_out {k : Int} {n : ByteArray} (hk : ¬ (1 ≤ k ∧ k ≤ 5)) : ∀ l : List Strm, (∀ s ∈ l, 1 ≤ s.kind ∧ s.kind ≤ 5) → placeL k n l < 0
  | [], _ => by simp [placeL]
  | s :: r, h => by
    have ih := placeL_out (n := n) hk r fun x hx => h x (List.mem_cons_of_mem _ hx)
    have hs := h s List.mem_cons_self
    rw [placeL_cons, if_neg (fun e => hk (by rw [← (isIt_iff.1 e).1]; exact hs)), if_pos ih]
    omega
theorem placeL_snoc {k : Int} {n : ByteArray} {s : Strm} (hs : isIt k n s = true) : ∀ l : List Strm, 0 ≤ placeL k n (l ++ [s])
  | [] => by rw [List.nil_append, placeL_cons, if_pos hs]; omega
  | x :: r => by
    have ih := placeL_snoc hs r
    rw [List.cons_append, placeL_cons]
    split
    · omega
    · rw [if_neg (by omega)]; omega
theorem begunS_most (st : St) (k : Int) (n : ByteArray) : (begunS st k n).most = st.most ∧ (begunS st k n).made ≤ st.made + 1 := by
  have hb : (beginS st n).most = st.most ∧ (beginS st n).made ≤ st.made + 1 := by
    unfold beginS
    split
    · exact ⟨rfl, by omega⟩
    · exact ⟨rfl, Nat.le_refl _⟩
  unfold begunS
  split
  · exact hb
  · split
    · exact hb
    · exact ⟨rfl, by omega⟩
/- An opening: what it answers, and whether the stream is open then. -/
theorem open_kept {lim : Int} {st : St} (h : Kept lim st) (k : Int) (n : ByteArray) : Kept lim (openS st k n) ∧ (openS st k n).trace.length ≤ st.trace.length + 1 ∧ (openS st k n).made ≤ st.made + 1 := by
  unfold openS
  split
  · rename_i ho
    obtain ⟨h1, h2, h3, h4, h5⟩ := ho
    obtain ⟨b1, b2⟩ := begunS_most st k n
    refine ⟨⟨b1.trans h.most, ?_, ?_, ?_⟩, ?_, b2⟩
    · show ((st.streams ++ [_]).length : Int) ≤ lim
      rw [List.length_append, List.length_singleton, ← h.most]; push_cast; omega
    · show cnt 1 (st.trace ++ [_]) = cnt 3 (st.trace ++ [_]) + (st.streams ++ [_]).length
      rw [cnt_snoc, cnt_snoc, List.length_append, List.length_singleton, h.even]
      show _ + 1 = _ + 0 + _
      omega
    · intro s hs
      rcases List.mem_append.1 hs with h6 | h6
      · exact h.kinds s h6
      · have e : s = ⟨k, n, srcOf st k n⟩ := by simpa using h6
        subst e
        exact h1
    · show (st.trace ++ [_]).length ≤ _
      rw [List.length_append, List.length_singleton]; omega
  · exact ⟨h, by omega, by omega⟩
theorem open_tells {lim : Int} {st : St} (h : Kept lim st) (k : Int) (n : ByteArray) :
    (k ≠ 6 → openB k n (openS st k n).streams = decide (openE st k n = 0)) ∧ (decide ((openS st k n).streams.length = st.streams.length + 1)) = (decide (openE st k n = 0) && !openB k n st.streams) := by
  by_cases hk : 1 ≤ k ∧ k ≤ 5
  · have h6 : k ≠ 6 := by omega
    have h6d : decide (k = 6) = false := decide_eq_false h6
    by_cases hp : 0 ≤ placeL k n st.streams
    · have hx : openS st k n = st := if_neg fun e => by have := e.2.1; omega
      have he : openE st k n = 0 := by unfold openE; rw [if_neg (fun e => e hk), if_pos hp]
      rw [hx, he]
      unfold openB
      rw [h6d, decide_eq_true hp]
      simp
    · by_cases hn : openNew st k n
      · have hx : openS st k n = openedS st k n := if_pos hn
        have he : openE st k n = 0 := by
          unfold openE
          rw [if_neg (fun e => e hk), if_neg hp, if_neg (by have := hn.2.2.1; omega), if_neg (fun e => e.elim (fun e => by rw [hn.2.2.2.1] at e; cases e) hn.2.2.2.2)]
        rw [hx, he]
        have hq : 0 ≤ placeL k n (openedS st k n).streams := placeL_snoc (s := ⟨k, n, srcOf st k n⟩) (isIt_iff.2 ⟨rfl, rfl⟩) st.streams
        have hl : (openedS st k n).streams.length = st.streams.length + 1 := by
          show (st.streams ++ [_]).length = _
          rw [List.length_append, List.length_singleton]
        unfold openB
        rw [h6d, decide_eq_true hq, decide_eq_false hp, hl]
        simp
      · have hx : openS st k n = st := if_neg hn
        have he : openE st k n ≠ 0 := by
          unfold openE
          rw [if_neg (fun e => e hk), if_neg hp]
          split
          · decide
          · split
            · decide
            · rename_i e1 e2
              exfalso
              refine hn ⟨hk, by omega, by omega, ?_, fun e => e2 (.inr e)⟩
              cases hf : st.fails 1 n
              · rfl
              · exact absurd (.inl hf) e2
        rw [hx]
        unfold openB
        rw [h6d, decide_eq_false hp, decide_eq_false he]
        simp
  · have hp : placeL k n st.streams < 0 := placeL_out hk (n := n) _ h.kinds
    have hx : openS st k n = st := if_neg fun e => hk e.1
    have he : openE st k n = 2 := by unfold openE; rw [if_pos hk]
    rw [hx, he]
    refine ⟨fun h6 => ?_, by simp⟩
    unfold openB
    rw [decide_eq_false h6, decide_eq_false (by omega)]
    rfl
def CloseK (lim : Int) (st : St) (i : Nat) (R : ClR) : Prop := Kept lim R.1 ∧ R.1.trace.length ≤ st.trace.length + i ∧ R.1.made = st.made ∧ ((R.2.2 = false ∧ R.1.streams.length = st.streams.length) ∨ (R.2.2 = true ∧ R.1.streams.length < st.streams.length))
theorem close_kept {lim : Int} {st : St} (h : Kept lim st) (n : ByteArray) : ∀ i, CloseK lim st i (closeTo n i (st, 0, false))
  | 0 => ⟨h, Nat.le_refl _, rfl, .inl ⟨rfl, rfl⟩⟩
  | i + 1 => by
    have ih := close_kept h n i
    show CloseK lim st (i + 1) (closeStep n ((i : Int) + 1) (closeTo n i (st, 0, false)))
    generalize closeTo n i (st, 0, false) = R at ih
    obtain ⟨s1, a, b⟩ := R
    obtain ⟨h1, h2, h3, h4⟩ := ih
    have g1 : Kept lim s1 := h1
    have g2 : s1.trace.length ≤ st.trace.length + i := h2
    unfold closeStep
    by_cases hp : placeL ((i : Int) + 1) n s1.streams < 0
    · rw [if_pos hp]
      exact ⟨g1, by show s1.trace.length ≤ _; omega, h3, h4⟩
    · rw [if_neg hp]
      have hlt := placeL_lt ((i : Int) + 1) n s1.streams
      have hat : atOf s1 ((i : Int) + 1) n < s1.streams.length := by unfold atOf; omega
      have hl : (s1.streams.eraseIdx (atOf s1 ((i : Int) + 1) n)).length = s1.streams.length - 1 := List.length_eraseIdx_of_lt hat
      refine ⟨⟨g1.most, ?_, ?_, fun s hs => g1.kinds s ((List.eraseIdx_sublist _ _).subset hs)⟩, ?_, h3, .inr ⟨rfl, ?_⟩⟩
      · show ((s1.streams.eraseIdx _).length : Int) ≤ lim
        have := g1.few
        rw [hl]; omega
      · show cnt 1 (s1.trace ++ [_]) = cnt 3 (s1.trace ++ [_]) + (s1.streams.eraseIdx _).length
        rw [cnt_snoc, cnt_snoc, hl, g1.even]
        show _ + 0 = _ + 1 + _
        omega
      · show (s1.trace ++ [_]).length ≤ _
        rw [List.length_append, List.length_singleton]; omega
      · show (s1.streams.eraseIdx _).length < _
        rw [hl]
        rcases h4 with ⟨_, h5⟩ | ⟨_, h5⟩
        · have h5' : s1.streams.length = st.streams.length := h5
          omega
        · have h5' : s1.streams.length < st.streams.length := h5
          omega
theorem all_kept {lim : Int} {st : St} (h : Kept lim st) : ∀ j, Kept lim (allTo j st)
  | 0 => h
  | j + 1 => by
    have ih := all_kept h j
    show Kept lim (allStep (allTo j st))
    unfold allStep
    split
    · exact ih
    · exact (close_kept ih _ 5).1
end Go.Proofs.Ythbkcdbmimhhkaa.Wo
