/-
  Package world: writing to a stream (Write).
-/
import Derived.Test.YtahblmcjocepeaaDoorWoJ
namespace Go.Proofs.YtahblmcjocepeaaDoor.Wo
open Go.RowKit Go.Maps

def wname (k : Int) (n : ByteArray) : ByteArray := if k = 6 then noText else n
def writeE (st : St) (k : Int) (n : ByteArray) : Int := if k < 3 ∨ openB k (wname k n) st.streams = false then 16 else if st.fails 3 (wname k n) = true then 14 else 0
def wroteS (st : St) (k : Int) (n d : ByteArray) : St :=
  { (if k = 3 ∨ k = 4 then { beginS st n with file := setF (beginS st n).file n (((st.file n).getD []) ++ d.data.toList) } else st) with trace := st.trace ++ [⟨2, k, wname k n, d, 0⟩] }
def writeS (st : St) (k : Int) (n d : ByteArray) : St := if writeE st k n = 0 ∧ d ≠ noText then wroteS st k n d else st
theorem beginS_file (st : St) (n : ByteArray) : (beginS st n).file n = some ((st.file n).getD []) := by
  unfold beginS
  cases ho : st.file n with
  | none => simp [setF]
  | some l => simp [ho]
theorem beginS_trace (st : St) (n : ByteArray) : (beginS st n).trace = st.trace := by
  unfold beginS
  split <;> rfl
theorem noText_list : noText.toList = [] := by rw [Lib.toList_data]

section
variable {w : World} {B fm rm xm : Nat} {D : DataW Unit} {vs vt : Value} {ps : List Value} {T : Tags} {st : St} {n d : ByteArray} {k : Int}

theorem wroteS_note (h : ¬ (k = 3 ∨ k = 4)) : wroteS st k n d = { st with trace := st.trace ++ [(⟨2, k, wname k n, d, 0⟩ : Ev)] } := by
  unfold wroteS
  rw [if_neg h]
theorem wroteS_file (h : k = 3 ∨ k = 4) (hw : wname k n = n) : wroteS st k n d = { { beginS st n with file := setF (beginS st n).file n (((st.file n).getD []) ++ d.data.toList) } with trace := (beginS st n).trace ++ [(⟨2, k, n, d, 0⟩ : Ev)] } := by
  unfold wroteS
  rw [if_pos h, beginS_trace, hw]
theorem Goes.step {w3 w6 : World} {T6 : Tags} {st' : St} (hb : Below w.heap.size w w3) (e6 : ∀ k, k < w3.heap.size → T6 k = T k) (t6 : Turn (fun k => T k ≠ .no) w3 w6) (h : WdAt w6 B fm rm xm D vs vt ps T6 st') : Goes w w6 B T st' :=
  ⟨fm, rm, xm, D, vs, vt, ps, T6, h, fun k hk => e6 k (Nat.lt_of_lt_of_le hk hb.size), t6.before hb⟩

theorem Goes.chain2 {w3 w4 w5 w6 : World} {T4 T5 T6 : Tags} {st' : St} (hb : Below w.heap.size w w3) (h4 : ∀ k, k < w3.heap.size → T4 k = T k) (t4 : Turn (fun k => T k ≠ .no) w3 w4) (h5 : ∀ k, k < w4.heap.size → T5 k = T4 k) (t5 : Turn (fun k => T4 k ≠ .no) w4 w5) (h6 : ∀ k, k < w5.heap.size → T6 k = T5 k) (t6 : Turn (fun k => T5 k ≠ .no) w5 w6)
    (h : WdAt w6 B fm rm xm D vs vt ps T6 st') : Goes w w6 B T st' :=
  Goes.chain hb h4 ⟨t4.os, t4.tape, t4.output, t4.size, t4.block⟩ h5 t5 h6 t6 h
end
end Go.Proofs.YtahblmcjocepeaaDoor.Wo
