/-
  Package world: a world in memory, block by block, each with a tag that says what it is part of.
-/
import Derived.Test.YtjlenfnflonfoaaWoB2
namespace Go.Proofs.Ytjlenfnflonfoaa.Wo
open Go.RowKit Go.Maps

inductive Part where
  | no
  | self
  | files
  | replies
  | fails
  | streams
  | trace
  | bld (n : ByteArray)
  | buf (n : ByteArray)
  | left (k : Int) (n : ByteArray)
abbrev Tags := Nat → Part

/- How a file's builder reads in the map of files: by its block. -/
def rdPtr (v : Value) : Option (DataW Unit × List MemPlace) :=
  match v with
  | .pointer none => some (.lit (.bool false), [])
  | .pointer (some ⟨b, 0, none⟩) => some (.lit (.int .i64 b), [])
  | _ => none
def nilD : DataW Unit := .lit (.bool false)
def ptrD (b : Nat) : DataW Unit := .lit (.int .i64 b)
theorem rdPtr_inv {v : Value} {d : DataW Unit} {ps : List MemPlace} (h : rdPtr v = some (d, ps)) : (v = .pointer none ∧ d = nilD) ∨ ∃ b, v = ptr b ∧ d = ptrD b := by
  unfold rdPtr at h
  split at h
  · cases h; exact .inl ⟨rfl, rfl⟩
  · cases h; exact .inr ⟨_, rfl, rfl⟩
  · cases h
abbrev MapIs (w : World) (mb N : Nat) (D : DataW Unit) : Prop := w.ownsMap Try.prog 9 rdPtr mb N D
theorem MapIs.of_block {w w' : World} {mb N : Nat} {D : DataW Unit} (h : MapIs w mb N D) (hb : w'.heap[mb]? = w.heap[mb]?) : MapIs w' mb N D := by
  obtain ⟨es, clock, h1, h2⟩ := h
  exact ⟨es, clock, by rw [hb]; exact h1, h2⟩
def kl (s : ByteArray) : Lit := .string s.data.toList
theorem kl_inj {a b : ByteArray} (h : kl a = kl b) : a = b := by
  unfold kl at h
  injection h with h
  exact ByteArray.ext (Array.toList_inj.1 h)
theorem keyed : Keyed Try.prog 9 := string_keyed Try.underlying9
theorem key_of {s : ByteArray} (h : s.size ≤ 1000000) : keyOf Try.prog 9 (.string s) = some (kl s) := WideMaps.keyOf_string_mk Try.underlying9 (by unfold maxLen; omega)

def FileIs (w : World) (T : Tags) (D : DataW Unit) (n : ByteArray) : Option (List UInt8) → Prop
  | none => D.atKey (kl n) nilD = nilD
  | some l => ∃ b buf, D.atKey (kl n) nilD = ptrD b ∧ Bd w b buf l ∧ T b = .bld n ∧ ∀ k, buf = some k → T k = .buf n
theorem FileIs.later {w w' : World} {T : Tags} {D : DataW Unit} {n : ByteArray} {o : Option (List UInt8)} (h : FileIs w T D n o) (hb : ∀ k, T k = .bld n ∨ T k = .buf n → w'.heap[k]? = w.heap[k]?) : FileIs w' T D n o := by
  cases o with
  | none => exact h
  | some l =>
    obtain ⟨b, buf, h1, h2, h3, h4⟩ := h
    exact ⟨b, buf, h1, h2.later (hb b (.inl h3)) fun k hk => hb k (.inr (h4 k hk)), h3, h4⟩
theorem FileIs.retag {w : World} {T T' : Tags} {D : DataW Unit} {n : ByteArray} {o : Option (List UInt8)} (h : FileIs w T D n o) (ht : ∀ k, k < w.heap.size → T' k = T k) : FileIs w T' D n o := by
  cases o with
  | none => exact h
  | some l =>
    obtain ⟨b, buf, h1, h2, h3, h4⟩ := h
    exact ⟨b, buf, h1, h2, (ht b h2.lt).trans h3, fun k hk => (ht k (h2.ltBuf k hk)).trans (h4 k hk)⟩
def Small (n : ByteArray) : Prop := n.size ≤ 1000000
structure Files (w : World) (T : Tags) (fm N : Nat) (D : DataW Unit) (f : ByteArray → Option (List UInt8)) : Prop where
  map : MapIs w fm N D
  each : ∀ n, Small n → FileIs w T D n (f n)

def Replies (w : World) (rm : Nat) (g : ByteArray → Option (ByteArray × Int)) : Prop :=
  ∀ W : World, W.heap[rm]? = w.heap[rm]? → ∀ n, Small n → (∃ c : ByteArray,
    (Instr.lookup 82 (.map (some rm)) (.string n) true).run Try.prog W = .ok (.tuple #[.agg #[.string c, .string ((g n).getD (noText, 0)).1, .int .i64 ((g n).getD (noText, 0)).2], .bool (g n).isSome]) W) ∧
    ∃ c : ByteArray, (Instr.lookup 82 (.map (some rm)) (.string n) false).run Try.prog W = .ok (.agg #[.string c, .string ((g n).getD (noText, 0)).1, .int .i64 ((g n).getD (noText, 0)).2]) W
def Fails (w : World) (xm : Nat) (g : Int → ByteArray → Bool) : Prop :=
  ∀ W : World, W.heap[xm]? = w.heap[xm]? → ∀ (op : Int) (n : ByteArray), 0 ≤ op → op < 256 → Small n →
    (Instr.lookup 83 (.map (some xm)) (.agg #[.int .u8 op, .string n]) true).run Try.prog W = .ok (.tuple #[.agg #[], .bool (g op n)]) W

def Strm.cells (s : Strm) (p : Value) : List Value := [.int .u8 s.kind, .string s.name, p]
def flatS : List Strm → List Value → List Value
  | s :: r, p :: q => s.cells p ++ flatS r q
  | _, _ => []
def SrcAt (w : World) (B : Nat) (T : Tags) (s : Strm) (p : Value) : Prop :=
  match s.src with
  | .none => p = .pointer none
  | .stdin => p = .pointer (some ⟨B, 2, none⟩)
  | .own t => ∃ b, p = ptr b ∧ w.heap[b]? = some (.cells #[.string t] 9) ∧ T b = .left s.kind s.name
theorem SrcAt.later {w w' : World} {B : Nat} {T : Tags} {s : Strm} {p : Value} (h : SrcAt w B T s p) (hb : ∀ k, T k = .left s.kind s.name → w'.heap[k]? = w.heap[k]?) : SrcAt w' B T s p := by
  unfold SrcAt at h ⊢
  cases hs : s.src with
  | none => rw [hs] at h; exact h
  | stdin => rw [hs] at h; exact h
  | own t =>
    rw [hs] at h
    obtain ⟨b, h1, h2, h3⟩ := h
    exact ⟨b, h1, (hb b h3).trans h2, h3⟩
theorem SrcAt.retag {w : World} {B : Nat} {T T' : Tags} {s : Strm} {p : Value} (h : SrcAt w B T s p) (ht : ∀ k, k < w.heap.size → T' k = T k) : SrcAt w B T' s p := by
  unfold SrcAt at h ⊢
  cases hs : s.src with
  | none => rw [hs] at h; exact h
  | stdin => rw [hs] at h; exact h
  | own t =>
    rw [hs] at h
    obtain ⟨b, h1, h2, h3⟩ := h
    exact ⟨b, h1, h2, (ht b (Array.getElem?_eq_some_iff.1 h2).1).trans h3⟩
structure Streams (w : World) (B : Nat) (T : Tags) (vs : Value) (ps : List Value) (l : List Strm) : Prop where
  len : ps.length = l.length
  row : w.ownsRow 0 113 3 vs l.length (flatS l ps)
  tag : ∀ k, vs.ownBlock = some k → T k = .streams
  each : ∀ (i : Nat) s p, l[i]? = some s → ps[i]? = some p → SrcAt w B T s p
  kinds : ∀ s ∈ l, 1 ≤ s.kind ∧ s.kind ≤ 5 ∧ Small s.name
  uniq : Uniq l

def Ev.cells (e : Ev) : List Value := [.int .u8 e.kind, .int .u8 e.stream, .string e.name, .string e.data, .int .i64 e.status]
def flatE (l : List Ev) : List Value := (l.map Ev.cells).flatten
structure Trace (w : World) (T : Tags) (vt : Value) (l : List Ev) : Prop where
  row : w.ownsRow 0 67 5 vt l.length (flatE l)
  tag : ∀ k, vt.ownBlock = some k → T k = .trace

structure WdAtS (sv : Value) (w : World) (B fm rm xm : Nat) (D : DataW Unit) (vs vt : Value) (ps : List Value) (T : Tags) (st : St) : Prop where
  blk : w.heap[B]? = some (.cells #[sv, .map (some fm), .string st.stdin, .map (some rm), .map (some xm), .int .i64 st.most, .int .i64 st.clock, .int .u64 st.chance, vs, vt] 86)
  tB : T B = .self
  tf : T fm = .files
  tr : T rm = .replies
  tx : T xm = .fails
  files : Files w T fm st.made D st.file
  replies : Replies w rm st.reply
  fails : Fails w xm st.fails
  streams : Streams w B T vs ps st.streams
  trace : Trace w T vt st.trace
  lt : ∀ k, T k ≠ .no → k < w.heap.size

/- What is of other parts stands. -/
theorem WdAtS.later {sv : Value} {w w' : World} {B fm rm xm : Nat} {D : DataW Unit} {vs vt : Value} {ps : List Value} {T : Tags} {st : St} (h : WdAtS sv w B fm rm xm D vs vt ps T st) (hs : w.heap.size ≤ w'.heap.size) (hb : ∀ k, T k ≠ .no → w'.heap[k]? = w.heap[k]?) : WdAtS sv w' B fm rm xm D vs vt ps T st where
  blk := (hb B (by rw [h.tB]; simp)).trans h.blk
  tB := h.tB
  tf := h.tf
  tr := h.tr
  tx := h.tx
  files := ⟨h.files.map.of_block (hb fm (by rw [h.tf]; simp)), fun n hn => (h.files.each n hn).later fun k hk => hb k (by rcases hk with hk | hk <;> rw [hk] <;> simp)⟩
  replies := fun W hW => h.replies W (hW.trans (hb rm (by rw [h.tr]; simp)))
  fails := fun W hW => h.fails W (hW.trans (hb xm (by rw [h.tx]; simp)))
  streams := { h.streams with row := row_of_block h.streams.row fun k hk => hb k (by rw [h.streams.tag k hk]; simp), each := fun i s p h1 h2 => (h.streams.each i s p h1 h2).later fun k hk => hb k (by rw [hk]; simp) }
  trace := { h.trace with row := row_of_block h.trace.row fun k hk => hb k (by rw [h.trace.tag k hk]; simp) }
  lt := fun k hk => Nat.lt_of_lt_of_le (h.lt k hk) hs
theorem WdAtS.below {sv : Value} {w w' : World} {B fm rm xm : Nat} {D : DataW Unit} {vs vt : Value} {ps : List Value} {T : Tags} {st : St} (h : WdAtS sv w B fm rm xm D vs vt ps T st) (hb : Below w.heap.size w w') : WdAtS sv w' B fm rm xm D vs vt ps T st :=
  h.later hb.size fun k hk => hb.block k (h.lt k hk)
abbrev WdAt (w : World) (B fm rm xm : Nat) (D : DataW Unit) (vs vt : Value) (ps : List Value) (T : Tags) (st : St) : Prop := WdAtS (ptr B) w B fm rm xm D vs vt ps T st
def Wd (w : World) (B : Nat) (T : Tags) (st : St) : Prop := ∃ fm rm xm D vs vt ps, WdAt w B fm rm xm D vs vt ps T st
theorem Wd.below {w w' : World} {B : Nat} {T : Tags} {st : St} (h : Wd w B T st) (hb : Below w.heap.size w w') : Wd w' B T st := by
  obtain ⟨fm, rm, xm, D, vs, vt, ps, h⟩ := h
  exact ⟨fm, rm, xm, D, vs, vt, ps, h.below hb⟩
theorem Wd.lt {w : World} {B : Nat} {T : Tags} {st : St} (h : Wd w B T st) : ∀ k, T k ≠ .no → k < w.heap.size := by
  obtain ⟨fm, rm, xm, D, vs, vt, ps, h⟩ := h
  exact h.lt
end Go.Proofs.Ytjlenfnflonfoaa.Wo
