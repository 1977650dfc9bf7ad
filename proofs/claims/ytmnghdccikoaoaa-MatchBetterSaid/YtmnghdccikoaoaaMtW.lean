/-
  Package match: a walker: what it goes through, as a function; its memory.
-/
import Derived.Test.YtmnghdccikoaoaaMtI
namespace Go.Proofs.Ytmnghdccikoaoaa.Mt
open Go.RowKit Go.Proofs.Ytmnghdccikoaoaa.Sh

structure Cfg where
  i : Nat
  op : List Nat
  seen : List Int
  ps : List Nat
/- A round: what follows, or the end. -/
def pop (c : Cfg) : Option Cfg :=
  match c.op.getLast? with
  | none => none
  | some x => some { c with i := x, op := c.op.dropLast }
def ends (c : Cfg) : Prop := c.op = []
def mark (c : Cfg) (p : Int) : Cfg := { c with seen := c.seen.set c.i (p + 1) }
inductive Round (sts : List St) (p len : Int) : Cfg → Cfg → Prop where
  | again (c : Cfg) (h : c.seen[c.i]? = some (p + 1)) : Round sts p len c c
  | put (c : Cfg) (st : St) (hs : sts[c.i]? = some st) (h : c.seen[c.i]? ≠ some (p + 1)) (ha : st.act = 1 ∨ st.act = 0) : Round sts p len c { mark c p with ps := c.ps ++ [c.i] }
  | stop (c : Cfg) (st : St) (hs : sts[c.i]? = some st) (h : c.seen[c.i]? ≠ some (p + 1)) (ha : st.act ≠ 1 ∧ st.act ≠ 0 ∧ st.act ≠ 2 ∧ ¬ (st.act = 3 ∧ p = 0) ∧ ¬ (st.act = 4 ∧ p = len)) : Round sts p len c (mark c p)
inductive Step (sts : List St) (p len : Int) : Cfg → Cfg → Prop where
  | pop (c c1 : Cfg) (x : Nat) (l : List Nat) (h : Round sts p len c c1) (ho : c1.op = l ++ [x]) : Step sts p len c { c1 with i := x, op := l }
  | fork (c : Cfg) (st : St) (hs : sts[c.i]? = some st) (h : c.seen[c.i]? ≠ some (p + 1)) (ha : st.act = 2) : Step sts p len c { mark c p with i := st.next.toNat, op := c.op ++ [st.other.toNat] }
  | go (c : Cfg) (st : St) (hs : sts[c.i]? = some st) (h : c.seen[c.i]? ≠ some (p + 1)) (ha : (st.act = 3 ∧ p = 0) ∨ (st.act = 4 ∧ p = len)) : Step sts p len c { mark c p with i := st.next.toNat }
inductive Steps (sts : List St) (p len : Int) : Cfg → Cfg → Prop where
  | refl (c : Cfg) : Steps sts p len c c
  | tail (a b c : Cfg) (h : Steps sts p len a b) (h2 : Step sts p len b c) : Steps sts p len a c
def unseen (seen : List Int) (p : Int) : Nat := (seen.filter (· ≠ p + 1)).length
theorem unseen_set : ∀ (seen : List Int) (p : Int) (i : Nat), i < seen.length → seen[i]? ≠ some (p + 1) → unseen (seen.set i (p + 1)) p + 1 = unseen seen p
  | [], _, _, h, _ => by simp at h
  | x :: l, p, 0, _, h => by
    have : x ≠ p + 1 := by simpa using h
    simp [unseen, this]
  | x :: l, p, i + 1, h, h2 => by
    have ih := unseen_set l p i (by simpa using h) (by simpa using h2)
    unfold unseen at ih ⊢
    by_cases hx : x = p + 1
    · simp [hx] at ih ⊢; exact ih
    · simp [hx] at ih ⊢; omega
def measure (p : Int) (c : Cfg) : Nat := 2 * unseen c.seen p + c.op.length

/- The states lead to states. -/
def Closed (sts : List St) : Prop := ∀ (q : Nat) (s : St), sts[q]? = some s → 0 ≤ s.next ∧ s.next < sts.length ∧ 0 ≤ s.other ∧ s.other < sts.length

/- The walker's memory. -/
structure Wk (w : World) (B wb gs gn cap : Nat) (pv ov : Value) (sts : List St) (seen : List Int) (op : List Nat) : Prop where
  c0 : w.cell? ⟨wb, 0, none⟩ = some (.slice (some ⟨gs, 0, none⟩) sts.length cap)
  c1 : w.cell? ⟨wb, 1, none⟩ = some (.slice (some ⟨gn, 0, none⟩) sts.length sts.length)
  c2 : w.cell? ⟨wb, 2, none⟩ = some ov
  c3 : w.cell? ⟨wb, 3, none⟩ = some pv
  f2 : w.frozen? ⟨wb, 2, none⟩ = false
  st : ∀ (q : Nat) (s : St), sts[q]? = some s → ∀ (j : Nat) (u : Value), s.cells[j]? = some u → w.cell? ⟨gs, q * 7 + j, none⟩ = some u
  sn : w.heap[gn]? = some (.cells ⟨seen.map (.int .i64)⟩ 3)
  sl : seen.length = sts.length
  row : w.ownsRow B 3 1 ov op.length (op.map fun (n : Nat) => Value.int .i64 (n : Int))
  lt : gs < B ∧ gn < B ∧ wb < B ∧ B ≤ w.heap.size
  ne : gs ≠ wb ∧ gs ≠ gn ∧ gn ≠ wb
structure Same (w w' : World) : Prop where
  os : w'.os = w.os
  tape : w'.tape = w.tape
  output : w'.output = w.output
  size : w.heap.size ≤ w'.heap.size
theorem Same.refl (w : World) : Same w w := ⟨rfl, rfl, rfl, Nat.le_refl _⟩
theorem Same.trans {a b c : World} (h : Same a b) (k : Same b c) : Same a c := ⟨k.os.trans h.os, k.tape.trans h.tape, k.output.trans h.output, Nat.le_trans h.size k.size⟩

variable {w : World} {B wb gs gn cap : Nat} {pv ov : Value} {sts : List St} {seen : List Int} {op : List Nat}
theorem Wk.seen_cell (h : Wk w B wb gs gn cap pv ov sts seen op) {i : Nat} {x : Int} (hx : seen[i]? = some x) : w.cell? ⟨gn, i, none⟩ = some (.int .i64 x) := by
  rw [cell_of_row w gn i _ _ _ h.sn]
  simp [hx]
theorem Wk.seen_frozen (h : Wk w B wb gs gn cap pv ov sts seen op) (i : Nat) : w.frozen? ⟨gn, i, none⟩ = false := frozen_of_row w gn i _ _ h.sn
/- What other blocks hold may turn. -/
theorem Wk.keep (h : Wk w B wb gs gn cap pv ov sts seen op) {w' : World} (hb : Same w w') (hk : ∀ k, k = wb ∨ k = gs ∨ k = gn ∨ ov.ownBlock = some k → w'.heap[k]? = w.heap[k]?) : Wk w' B wb gs gn cap pv ov sts seen op := by
  have e : ∀ (k j : Nat), (k = wb ∨ k = gs ∨ k = gn ∨ ov.ownBlock = some k) → w'.cell? ⟨k, j, none⟩ = w.cell? ⟨k, j, none⟩ := fun k j h2 => World.cell?_of_block (hk k h2)
  refine ⟨(e wb 0 (.inl rfl)).trans h.c0, (e wb 1 (.inl rfl)).trans h.c1, (e wb 2 (.inl rfl)).trans h.c2, (e wb 3 (.inl rfl)).trans h.c3, (World.frozen?_of_block (a := ⟨wb, 2, none⟩) (hk wb (.inl rfl))).trans h.f2,
    fun q s hq j u hu => (e gs _ (.inr (.inl rfl))).trans (h.st q s hq j u hu), (hk gn (.inr (.inr (.inl rfl)))).trans h.sn, h.sl, ?_, ⟨h.lt.1, h.lt.2.1, h.lt.2.2.1, Nat.le_trans h.lt.2.2.2 hb.size⟩, h.ne⟩
  obtain ⟨h1, h2⟩ := h.row
  refine ⟨h1, ?_⟩
  rcases h2 with h2 | ⟨g, c, cur, hv, h3, h4, h5⟩
  · exact .inl h2
  · exact .inr ⟨g, c, cur, hv, h3, (hk g (.inr (.inr (.inr (by rw [hv]; rfl))))).trans h4, h5⟩
/- A state is marked. -/
theorem Wk.marked (h : Wk w B wb gs gn cap pv ov sts seen op) (i : Nat) (x : Int) : Wk (w.setCell ⟨gn, i, none⟩ (.int .i64 x)) B wb gs gn cap pv ov sts (seen.set i x) op := by
  have hne : ∀ k, k ≠ gn → (w.setCell ⟨gn, i, none⟩ (.int .i64 x)).heap[k]? = w.heap[k]? := fun k hk => heap_setCell_other w ⟨gn, i, none⟩ k _ hk
  have e : ∀ (k j : Nat), k ≠ gn → (w.setCell ⟨gn, i, none⟩ (.int .i64 x)).cell? ⟨k, j, none⟩ = w.cell? ⟨k, j, none⟩ := fun k j h2 => World.cell?_of_block (hne k h2)
  have hn := h.ne
  refine ⟨(e wb 0 (by omega)).trans h.c0, (e wb 1 (by omega)).trans h.c1, (e wb 2 (by omega)).trans h.c2, (e wb 3 (by omega)).trans h.c3, (World.frozen?_setCell _ _ _ _).trans h.f2,
    fun q s hq j u hu => (e gs _ (by omega)).trans (h.st q s hq j u hu), ?_, by rw [List.length_set]; exact h.sl, ?_, ⟨h.lt.1, h.lt.2.1, h.lt.2.2.1, by simpa [World.setCell] using h.lt.2.2.2⟩, h.ne⟩
  · rw [heap_setCell_same w gn i _ _ _ h.sn]
    simp [List.map_set]
  · refine h.row.kept (row := some gn) ⟨rfl, rfl, rfl, by simp [World.setCell], fun k _ hk => hne k fun e => hk (by rw [e])⟩ ?_
    refine .inr fun e => ?_
    have := (h.row.lt gn e).1
    have := h.lt
    omega
end Go.Proofs.Ytmnghdccikoaoaa.Mt
