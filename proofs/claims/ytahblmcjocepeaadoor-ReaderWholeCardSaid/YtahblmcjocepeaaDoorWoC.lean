/-
  Package world: a world in memory, block by block, each with a tag that says what it is part of.
-/
import Derived.Test.YtahblmcjocepeaaDoorWoB2
import Derived.DeepKeys4
namespace Go.Proofs.YtahblmcjocepeaaDoor.Wo
open Go.RowKit Go.Maps

inductive Part where
  | no
  | self
  | files
  | replies
  | fails
  | streams
  | trace
  | bld (n : ByteArray)
  | buf (n : ByteArray)
  | left (k : Int) (n : ByteArray)
abbrev Tags := Nat → Part

/- How a file's builder reads in the map of files: by its block. -/
def rdPtr (v : Value) : Option (DataW Unit × List MemPlace) :=
  match v with
  | .pointer none => some (.lit (.bool false), [])
  | .pointer (some ⟨b, 0, none⟩) => some (.lit (.int .i64 b), [])
  | _ => none
def nilD : DataW Unit := .lit (.bool false)
def ptrD (b : Nat) : DataW Unit := .lit (.int .i64 b)
theorem rdPtr_inv {v : Value} {d : DataW Unit} {ps : List MemPlace} (h : rdPtr v = some (d, ps)) : (v = .pointer none ∧ d = nilD) ∨ ∃ b, v = ptr b ∧ d = ptrD b := by
  unfold rdPtr at h
  split at h
  · cases h; exact .inl ⟨rfl, rfl⟩
  · cases h; exact .inr ⟨_, rfl, rfl⟩
  · cases h
abbrev MapIs (w : World) (mb N : Nat) (D : DataW Unit) : Prop := w.ownsMap Tryd.prog 9 rdPtr mb N D
theorem MapIs.of_block {w w' : World} {mb N : Nat} {D : DataW Unit} (h : MapIs w mb N D) (hb : w'.heap[mb]? = w.heap[mb]?) : MapIs w' mb N D := by
  obtain ⟨es, clock, h1, h2⟩ := h
  exact ⟨es, clock, by rw [hb]; exact h1, h2⟩
def kl (s : ByteArray) : Lit := .string s.data.toList
theorem kl_inj {a b : ByteArray} (h : kl a = kl b) : a = b := by
  unfold kl at h
  injection h with h
  exact ByteArray.ext (Array.toList_inj.1 h)
theorem keyed : Keyed Tryd.prog 9 := string_keyed Tryd.underlying9
theorem key_of {s : ByteArray} (h : s.size ≤ 1000000) : keyOf Tryd.prog 9 (.string s) = some (kl s) := WideMaps.keyOf_string_mk Tryd.underlying9 (by unfold maxLen; omega)

def FileIs (w : World) (T : Tags) (D : DataW Unit) (n : ByteArray) : Option (List UInt8) → Prop
  | none => D.atKey (kl n) nilD = nilD
  | some l => ∃ b buf, D.atKey (kl n) nilD = ptrD b ∧ Bd w b buf l ∧ T b = .bld n ∧ ∀ k, buf = some k → T k = .buf n
theorem FileIs.later {w w' : World} {T : Tags} {D : DataW Unit} {n : ByteArray} {o : Option (List UInt8)} (h : FileIs w T D n o) (hb : ∀ k, T k = .bld n ∨ T k = .buf n → w'.heap[k]? = w.heap[k]?) : FileIs w' T D n o := by
  cases o with
  | none => exact h
  | some l =>
    obtain ⟨b, buf, h1, h2, h3, h4⟩ := h
    exact ⟨b, buf, h1, h2.later (hb b (.inl h3)) fun k hk => hb k (.inr (h4 k hk)), h3, h4⟩
theorem FileIs.retag {w : World} {T T' : Tags} {D : DataW Unit} {n : ByteArray} {o : Option (List UInt8)} (h : FileIs w T D n o) (ht : ∀ k, k < w.heap.size → T' k = T k) : FileIs w T' D n o := by
  cases o with
  | none => exact h
  | some l =>
    obtain ⟨b, buf, h1, h2, h3, h4⟩ := h
    exact ⟨b, buf, h1, h2, (ht b h2.lt).trans h3, fun k hk => (ht k (h2.ltBuf k hk)).trans (h4 k hk)⟩
def Small (n : ByteArray) : Prop := n.size ≤ 1000000
structure Files (w : World) (T : Tags) (fm N : Nat) (D : DataW Unit) (f : ByteArray → Option (List UInt8)) : Prop where
  map : MapIs w fm N D
  each : ∀ n, Small n → FileIs w T D n (f n)

/- How a reply reads in the map of replies: its output and its status. -/
def encR (r : ByteArray × Int) : DataW Unit := .agg [.lit (.string r.1.data.toList), .lit (.int .i64 r.2)]
def rdRep (v : Value) : Option (DataW Unit × List MemPlace) :=
  match v with
  | .agg ⟨[.string _, .string o, .int .i64 s]⟩ => some (encR (o, s), [])
  | _ => none
theorem rdRep_inv {v : Value} {r : ByteArray × Int} {ps : List MemPlace} (h : rdRep v = some (encR r, ps)) : ∃ c, v = .agg #[.string c, .string r.1, .int .i64 r.2] := by
  unfold rdRep at h
  split at h
  · rename_i c o s
    simp only [Option.some.injEq, Prod.mk.injEq, encR, DataW.agg.injEq, List.cons.injEq, DataW.lit.injEq, Lit.string.injEq, Lit.int.injEq, true_and, and_true] at h
    obtain ⟨⟨h1, h2⟩, _⟩ := h
    refine ⟨c, ?_⟩
    rw [← h2, show r.1 = o from (ByteArray.ext (Array.toList_inj.1 h1)).symm]
  · cases h
theorem zero_reply (W : World) : (zeroValue 107).run Tryd.prog W = .ok (.agg #[.string noText, .string noText, .int .i64 0]) W := by kernel_rfl
def Replies (w : World) (rm : Nat) (g : ByteArray → Option (ByteArray × Int)) : Prop :=
  ∃ N D, N ≤ 1000000 ∧ w.ownsMap Tryd.prog 9 rdRep rm N D ∧ ∀ n, Small n → has D (kl n) = (g n).isSome ∧ D.atKey (kl n) (encR (noText, 0)) = encR ((g n).getD (noText, 0))
theorem Replies.of_block {w w' : World} {rm : Nat} {g : ByteArray → Option (ByteArray × Int)} (h : Replies w rm g) (hb : w'.heap[rm]? = w.heap[rm]?) : Replies w' rm g := by
  obtain ⟨N, D, h0, ⟨es, clock, h1, h2⟩, h3⟩ := h
  exact ⟨N, D, h0, ⟨es, clock, by rw [hb]; exact h1, h2⟩, h3⟩
theorem Replies.look {w : World} {rm : Nat} {g : ByteArray → Option (ByteArray × Int)} (h : Replies w rm g) {n : ByteArray} (hn : Small n) :
    (∃ c : ByteArray, (Instr.lookup 100 (.map (some rm)) (.string n) true).run Tryd.prog w = .ok (.tuple #[.agg #[.string c, .string ((g n).getD (noText, 0)).1, .int .i64 ((g n).getD (noText, 0)).2], .bool (g n).isSome]) w) ∧
    ∃ c : ByteArray, (Instr.lookup 100 (.map (some rm)) (.string n) false).run Tryd.prog w = .ok (.agg #[.string c, .string ((g n).getD (noText, 0)).1, .int .i64 ((g n).getD (noText, 0)).2]) w := by
  obtain ⟨N, D, _, h1, h2⟩ := h
  obtain ⟨e1, e2⟩ := h2 n hn
  obtain ⟨v, q, r1, r2⟩ := h1.look_ok keyed Tryd.underlying100 (zero_reply w) (zd := encR (noText, 0)) (zp := []) rfl (key_of hn)
  obtain ⟨v2, q2, r3, r4⟩ := h1.lookup keyed Tryd.underlying100 (zero_reply w) (zd := encR (noText, 0)) (zp := []) rfl (key_of hn)
  rw [e2] at r2 r4
  obtain ⟨c, rfl⟩ := rdRep_inv r2
  obtain ⟨c2, rfl⟩ := rdRep_inv r4
  rw [e1] at r1
  exact ⟨⟨c, r1⟩, c2, r3⟩

theorem failed : Keyed Tryd.prog 32 := Keyed.of_law (deep_law_laid (by kernel_rfl) (m := 2) (by omega) (by decide +kernel) (by kernel_rfl) (by kernel_rfl))
abbrev failV (op : Int) (n : ByteArray) : Value := .agg #[.int .u8 op, .string n]
theorem zero_unit (W : World) : (zeroValue 109).run Tryd.prog W = .ok (.agg #[]) W := by kernel_rfl
def failK (op : Int) (n : ByteArray) : Lit := .string (keyBytes [.int .u8 op, .string n.data.toList])
def Fails (w : World) (xm : Nat) (g : Int → ByteArray → Bool) : Prop :=
  ∃ N, ∃ D : DataW Unit, N ≤ 1000000 ∧ w.ownsMap Tryd.prog 32 unitElem xm N D ∧ ∀ (op : Int) (n : ByteArray), 0 ≤ op → op < 256 → Small n → has D (failK op n) = g op n
theorem Fails.of_block {w w' : World} {xm : Nat} {g : Int → ByteArray → Bool} (h : Fails w xm g) (hb : w'.heap[xm]? = w.heap[xm]?) : Fails w' xm g := by
  obtain ⟨N, D, h0, ⟨es, clock, h1, h2⟩, h3⟩ := h
  exact ⟨N, D, h0, ⟨es, clock, by rw [hb]; exact h1, h2⟩, h3⟩
set_option maxRecDepth 100000 in
theorem fail_key {op : Int} {n : ByteArray} (h0 : 0 ≤ op) (h1 : op < 256) (hn : Small n) : keyOf Tryd.prog 32 (failV op n) = some (failK op n) := by
  have hk : Tryd.prog.keyType 32 = true := by kernel_rfl
  have hf : (failV op n).formed Tryd.prog 32 = true := by kernel_rfl
  obtain ⟨m, hm⟩ : ∃ m, Tryd.prog.types.size + 1 = m + 1 + 1 := by
    have : 2 ≤ Tryd.prog.types.size := of_decide_eq_true (by kernel_rfl)
    exact ⟨Tryd.prog.types.size - 1, by omega⟩
  have hw : (Lit.int .u8 op).wf = true := by
    simp [Lit.wf, IntKind.min, IntKind.max, IntKind.signed, IntKind.bits]
    omega
  have hs : n.size ≤ maxLen := by unfold Small at hn; unfold maxLen; omega
  have c1 : Tryd.prog.cellsOf 32 = 2 := by kernel_rfl
  have c2 : Tryd.prog.cellsOf 5 = 1 := by kernel_rfl
  have c3 : Tryd.prog.cellsOf 9 = 1 := by kernel_rfl
  unfold keyOf
  rw [Tryd.underlying32]
  simp only [hk, hf, Bool.and_self, if_true]
  rw [hm]
  simp [Program.keyLits, Tryd.underlying32, Tryd.underlying5, Tryd.underlying9, c1, c2, c3, hw, hs, Value.cells, failK]
theorem Fails.look {w : World} {xm : Nat} {g : Int → ByteArray → Bool} (h : Fails w xm g) {op : Int} {n : ByteArray} (h0 : 0 ≤ op) (h1 : op < 256) (hn : Small n) :
    (Instr.lookup 101 (.map (some xm)) (failV op n) true).run Tryd.prog w = .ok (.tuple #[.agg #[], .bool (g op n)]) w := by
  obtain ⟨N, D, _, q1, q2⟩ := h
  obtain ⟨v, q, r1, r2⟩ := q1.look_ok failed Tryd.underlying101 (zero_unit w) unitElem_mk (fail_key h0 h1 hn)
  obtain ⟨rfl, _⟩ := unitElem_inv r2
  rw [q2 op n h0 h1 hn] at r1
  exact r1

def Strm.cells (s : Strm) (p : Value) : List Value := [.int .u8 s.kind, .string s.name, p]
def flatS : List Strm → List Value → List Value
  | s :: r, p :: q => s.cells p ++ flatS r q
  | _, _ => []
def SrcAt (w : World) (B : Nat) (T : Tags) (s : Strm) (p : Value) : Prop :=
  match s.src with
  | .none => p = .pointer none
  | .stdin => p = .pointer (some ⟨B, 2, none⟩)
  | .own t => ∃ b, p = ptr b ∧ w.heap[b]? = some (.cells #[.string t] 9) ∧ T b = .left s.kind s.name
theorem SrcAt.later {w w' : World} {B : Nat} {T : Tags} {s : Strm} {p : Value} (h : SrcAt w B T s p) (hb : ∀ k, T k = .left s.kind s.name → w'.heap[k]? = w.heap[k]?) : SrcAt w' B T s p := by
  unfold SrcAt at h ⊢
  cases hs : s.src with
  | none => rw [hs] at h; exact h
  | stdin => rw [hs] at h; exact h
  | own t =>
    rw [hs] at h
    obtain ⟨b, h1, h2, h3⟩ := h
    exact ⟨b, h1, (hb b h3).trans h2, h3⟩
theorem SrcAt.retag {w : World} {B : Nat} {T T' : Tags} {s : Strm} {p : Value} (h : SrcAt w B T s p) (ht : ∀ k, k < w.heap.size → T' k = T k) : SrcAt w B T' s p := by
  unfold SrcAt at h ⊢
  cases hs : s.src with
  | none => rw [hs] at h; exact h
  | stdin => rw [hs] at h; exact h
  | own t =>
    rw [hs] at h
    obtain ⟨b, h1, h2, h3⟩ := h
    exact ⟨b, h1, h2, (ht b (Array.getElem?_eq_some_iff.1 h2).1).trans h3⟩
structure Streams (w : World) (B : Nat) (T : Tags) (vs : Value) (ps : List Value) (l : List Strm) : Prop where
  len : ps.length = l.length
  row : w.ownsRow 0 115 3 vs l.length (flatS l ps)
  tag : ∀ k, vs.ownBlock = some k → T k = .streams
  each : ∀ (i : Nat) s p, l[i]? = some s → ps[i]? = some p → SrcAt w B T s p
  kinds : ∀ s ∈ l, 1 ≤ s.kind ∧ s.kind ≤ 5 ∧ Small s.name
  uniq : Uniq l

def Ev.cells (e : Ev) : List Value := [.int .u8 e.kind, .int .u8 e.stream, .string e.name, .string e.data, .int .i64 e.status]
def flatE (l : List Ev) : List Value := (l.map Ev.cells).flatten
structure Trace (w : World) (T : Tags) (vt : Value) (l : List Ev) : Prop where
  row : w.ownsRow 0 119 5 vt l.length (flatE l)
  tag : ∀ k, vt.ownBlock = some k → T k = .trace

structure WdAtS (sv : Value) (w : World) (B fm rm xm : Nat) (D : DataW Unit) (vs vt : Value) (ps : List Value) (T : Tags) (st : St) : Prop where
  blk : w.heap[B]? = some (.cells #[sv, .map (some fm), .string st.stdin, .map (some rm), .map (some xm), .int .i64 st.most, .int .i64 st.clock, .int .u64 st.chance, vs, vt] 104)
  tB : T B = .self
  tf : T fm = .files
  tr : T rm = .replies
  tx : T xm = .fails
  files : Files w T fm st.made D st.file
  replies : Replies w rm st.reply
  fails : Fails w xm st.fails
  streams : Streams w B T vs ps st.streams
  trace : Trace w T vt st.trace
  lt : ∀ k, T k ≠ .no → k < w.heap.size

/- What is of other parts stands. -/
theorem WdAtS.later {sv : Value} {w w' : World} {B fm rm xm : Nat} {D : DataW Unit} {vs vt : Value} {ps : List Value} {T : Tags} {st : St} (h : WdAtS sv w B fm rm xm D vs vt ps T st) (hs : w.heap.size ≤ w'.heap.size) (hb : ∀ k, T k ≠ .no → w'.heap[k]? = w.heap[k]?) : WdAtS sv w' B fm rm xm D vs vt ps T st where
  blk := (hb B (by rw [h.tB]; simp)).trans h.blk
  tB := h.tB
  tf := h.tf
  tr := h.tr
  tx := h.tx
  files := ⟨h.files.map.of_block (hb fm (by rw [h.tf]; simp)), fun n hn => (h.files.each n hn).later fun k hk => hb k (by rcases hk with hk | hk <;> rw [hk] <;> simp)⟩
  replies := h.replies.of_block (hb rm (by rw [h.tr]; simp))
  fails := h.fails.of_block (hb xm (by rw [h.tx]; simp))
  streams := { h.streams with row := row_of_block h.streams.row fun k hk => hb k (by rw [h.streams.tag k hk]; simp), each := fun i s p h1 h2 => (h.streams.each i s p h1 h2).later fun k hk => hb k (by rw [hk]; simp) }
  trace := { h.trace with row := row_of_block h.trace.row fun k hk => hb k (by rw [h.trace.tag k hk]; simp) }
  lt := fun k hk => Nat.lt_of_lt_of_le (h.lt k hk) hs
theorem WdAtS.below {sv : Value} {w w' : World} {B fm rm xm : Nat} {D : DataW Unit} {vs vt : Value} {ps : List Value} {T : Tags} {st : St} (h : WdAtS sv w B fm rm xm D vs vt ps T st) (hb : Below w.heap.size w w') : WdAtS sv w' B fm rm xm D vs vt ps T st :=
  h.later hb.size fun k hk => hb.block k (h.lt k hk)
abbrev WdAt (w : World) (B fm rm xm : Nat) (D : DataW Unit) (vs vt : Value) (ps : List Value) (T : Tags) (st : St) : Prop := WdAtS (ptr B) w B fm rm xm D vs vt ps T st
def Wd (w : World) (B : Nat) (T : Tags) (st : St) : Prop := ∃ fm rm xm D vs vt ps, WdAt w B fm rm xm D vs vt ps T st
theorem Wd.below {w w' : World} {B : Nat} {T : Tags} {st : St} (h : Wd w B T st) (hb : Below w.heap.size w w') : Wd w' B T st := by
  obtain ⟨fm, rm, xm, D, vs, vt, ps, h⟩ := h
  exact ⟨fm, rm, xm, D, vs, vt, ps, h.below hb⟩
theorem Wd.lt {w : World} {B : Nat} {T : Tags} {st : St} (h : Wd w B T st) : ∀ k, T k ≠ .no → k < w.heap.size := by
  obtain ⟨fm, rm, xm, D, vs, vt, ps, h⟩ := h
  exact h.lt
end Go.Proofs.YtahblmcjocepeaaDoor.Wo
