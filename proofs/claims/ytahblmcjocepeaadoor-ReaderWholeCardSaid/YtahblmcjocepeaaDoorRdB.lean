/-
  Package reader: a world that is played beside blocks that are not its own.
-/
import Derived.Test.YtahblmcjocepeaaDoorWoU
import Derived.Test.YtahblmcjocepeaaDoorRdA
import Derived.Test.YtahblmcjocepeaaDoorRdP
namespace Go.Proofs.YtahblmcjocepeaaDoor.Rd
open Go.RowKit Go.Maps Wo

def Keep (bx : List Nat) (w w2 : World) : Prop := ∀ b ∈ bx, w2.heap[b]? = w.heap[b]?
theorem Keep.refl (bx : List Nat) (w : World) : Keep bx w w := fun _ _ => rfl
theorem Keep.trans {bx : List Nat} {a b c : World} (h : Keep bx a b) (k : Keep bx b c) : Keep bx a c := fun i hi => (k i hi).trans (h i hi)
def Rp (w0 w : World) (B : Nat) (st : St) (bx : List Nat) : Prop :=
  ∃ fm rm xm D vs vt ps T, WdAt w B fm rm xm D vs vt ps T st ∧ (∀ k, T k ≠ .no → w0.heap.size ≤ k) ∧ Below w0.heap.size w0 w ∧ ∀ b ∈ bx, b < w.heap.size ∧ w0.heap.size ≤ b ∧ T b = .no
section
variable {w0 w : World} {B : Nat} {st : St} {bx : List Nat}
theorem tag_no {T : Tags} {n : Nat} (h : ∀ k, T k ≠ .no → k < n) {b : Nat} (hb : n ≤ b) : T b = .no :=
  Classical.byContradiction fun e => by have := h b e; omega
theorem Rp.call {f : FuncId} {args : Array Value} {R : Ending → St → Prop} (h : Rp w0 w B st bx)
    (op : ∀ fm rm xm D vs vt ps T, WdAt w B fm rm xm D vs vt ps T st → Calls Tryd.prog f args w fun e w2 => ∃ st2, R e st2 ∧ Goes w w2 B T st2) :
    Calls Tryd.prog f args w fun e w2 => ∃ st2, R e st2 ∧ Rp w0 w2 B st2 bx ∧ Keep bx w w2 := by
  obtain ⟨fm, rm, xm, D, vs, vt, ps, T, h1, h2, h3, h4⟩ := h
  refine (op _ _ _ _ _ _ _ _ h1).mono fun e w2 ⟨st2, he, g⟩ => ⟨st2, he, ?_⟩
  obtain ⟨fm2, rm2, xm2, D2, vs2, vt2, ps2, T2, g1, g2, g3⟩ := g
  refine ⟨⟨fm2, rm2, xm2, D2, vs2, vt2, ps2, T2, g1, fun k hk => ?_, h3.trans ⟨g3.os, g3.tape, g3.output, g3.size, fun k hk => g3.block k (Nat.lt_of_lt_of_le hk h3.size) fun e => by have := h2 k e; omega⟩, fun b hb => ⟨Nat.lt_of_lt_of_le (h4 b hb).1 g3.size, (h4 b hb).2.1, (g2 b (h4 b hb).1).trans (h4 b hb).2.2⟩⟩, fun b hb => g3.block b (h4 b hb).1 fun e => e (h4 b hb).2.2⟩
  by_cases hl : k < w.heap.size
  · rw [g2 k hl] at hk; exact h2 k hk
  · have := h3.size; omega
theorem Rp.turn {w2 : World} (h : Rp w0 w B st bx) (t : Turn (fun k => k ∈ bx) w w2) : Rp w0 w2 B st bx := by
  obtain ⟨fm, rm, xm, D, vs, vt, ps, T, h1, h2, h3, h4⟩ := h
  refine ⟨fm, rm, xm, D, vs, vt, ps, T, h1.later t.size fun k hk => t.block k (h1.lt k hk) fun e => hk (h4 k e).2.2, h2, h3.trans ⟨t.os, t.tape, t.output, t.size, fun k hk => t.block k (Nat.lt_of_lt_of_le hk h3.size) fun e => by have := (h4 k e).2.1; omega⟩, fun b hb => ⟨Nat.lt_of_lt_of_le (h4 b hb).1 t.size, (h4 b hb).2⟩⟩
theorem Rp.below {w2 : World} (h : Rp w0 w B st bx) (hb : Below w.heap.size w w2) : Rp w0 w2 B st bx ∧ Keep bx w w2 := by
  refine ⟨h.turn (Turn.of_below hb), fun b q => ?_⟩
  obtain ⟨fm, rm, xm, D, vs, vt, ps, T, h1, h2, h3, h4⟩ := h
  exact hb.block b (h4 b q).1
theorem Rp.more {w2 : World} (h : Rp w0 w B st bx) (hb : Below w.heap.size w w2) {nb : List Nat} (hn : ∀ b ∈ nb, w.heap.size ≤ b ∧ b < w2.heap.size) : Rp w0 w2 B st (nb ++ bx) ∧ Keep bx w w2 := by
  obtain ⟨fm, rm, xm, D, vs, vt, ps, T, h1, h2, h3, h4⟩ := h
  refine ⟨⟨fm, rm, xm, D, vs, vt, ps, T, h1.below hb, h2, h3.trans (hb.mono h3.size), fun b q => ?_⟩, fun b q => hb.block b (h4 b q).1⟩
  rcases List.mem_append.1 q with q | q
  · exact ⟨(hn b q).2, Nat.le_trans h3.size (hn b q).1, tag_no h1.lt (hn b q).1⟩
  · exact ⟨Nat.lt_of_lt_of_le (h4 b q).1 hb.size, (h4 b q).2⟩
theorem Rp.turnMore {w2 : World} (h : Rp w0 w B st bx) (t : Turn (fun k => k ∈ bx) w w2) {nb : List Nat} (hn : ∀ b ∈ nb, (w.heap.size ≤ b ∧ b < w2.heap.size) ∨ b ∈ bx) : Rp w0 w2 B st (nb ++ bx) := by
  obtain ⟨fm, rm, xm, D, vs, vt, ps, T, h1, h2, h3, h4⟩ := h
  refine ⟨fm, rm, xm, D, vs, vt, ps, T, h1.later t.size fun k hk => t.block k (h1.lt k hk) fun e => hk (h4 k e).2.2, h2, h3.trans ⟨t.os, t.tape, t.output, t.size, fun k hk => t.block k (Nat.lt_of_lt_of_le hk h3.size) fun e => by have := (h4 k e).2.1; omega⟩, fun b q => ?_⟩
  have old : b ∈ bx → b < w2.heap.size ∧ w0.heap.size ≤ b ∧ T b = .no := fun q => ⟨Nat.lt_of_lt_of_le (h4 b q).1 t.size, (h4 b q).2⟩
  rcases List.mem_append.1 q with q | q
  · rcases hn b q with hb | hb
    · exact ⟨hb.2, Nat.le_trans h3.size hb.1, tag_no h1.lt hb.1⟩
    · exact old hb
  · exact old q
theorem Rp.less {bx2 : List Nat} (h : Rp w0 w B st bx) (hs : ∀ b ∈ bx2, b ∈ bx) : Rp w0 w B st bx2 := by
  obtain ⟨fm, rm, xm, D, vs, vt, ps, T, h1, h2, h3, h4⟩ := h
  exact ⟨fm, rm, xm, D, vs, vt, ps, T, h1, h2, h3, fun b q => h4 b (hs b q)⟩
theorem Rp.lt (h : Rp w0 w B st bx) {b : Nat} (hb : b ∈ bx) : b < w.heap.size ∧ w0.heap.size ≤ b := by
  obtain ⟨fm, rm, xm, D, vs, vt, ps, T, h1, h2, h3, h4⟩ := h
  exact ⟨(h4 b hb).1, (h4 b hb).2.1⟩
theorem Rp.b (h : Rp w0 w B st bx) : Below w0.heap.size w0 w := by
  obtain ⟨fm, rm, xm, D, vs, vt, ps, T, h1, h2, h3, h4⟩ := h
  exact h3
end
end Go.Proofs.YtahblmcjocepeaaDoor.Rd
