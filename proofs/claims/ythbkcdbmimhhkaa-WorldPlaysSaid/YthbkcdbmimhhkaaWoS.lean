/-
  A world that is being played with.
-/
import Derived.Test.YthbkcdbmimhhkaaWoR
namespace Go.Proofs.Ythbkcdbmimhhkaa.Wo
open Go.RowKit Go.Maps

structure OpR where
  kind : Int
  k : Int
  name : ByteArray
  data : ByteArray
  n : Int
def OpAt (w : World) (a : Addr) (o : OpR) : Prop := ∃ l p, a = ⟨l, p, none⟩ ∧ w.cell? ⟨l, p, none⟩ = some (.int .i64 o.kind) ∧ w.cell? ⟨l, p + 1, none⟩ = some (.int .u8 o.k) ∧ w.cell? ⟨l, p + 2, none⟩ = some (.string o.name) ∧ w.cell? ⟨l, p + 3, none⟩ = some (.string o.data) ∧ w.cell? ⟨l, p + 4, none⟩ = some (.int .i64 o.n)
/- A list of calls in memory. -/
def Scr (w : World) (v : Value) (X : List OpR) : Prop := ∃ oa c, v = .slice oa X.length c ∧ ∀ (i : Nat) o, X[i]? = some o → ∃ l p, oa = some ⟨l, p, none⟩ ∧ w.cell? ⟨l, p + i * 5, none⟩ = some (.int .i64 o.kind) ∧ w.cell? ⟨l, p + i * 5 + 1, none⟩ = some (.int .u8 o.k) ∧ w.cell? ⟨l, p + i * 5 + 2, none⟩ = some (.string o.name) ∧ w.cell? ⟨l, p + i * 5 + 3, none⟩ = some (.string o.data) ∧ w.cell? ⟨l, p + i * 5 + 4, none⟩ = some (.int .i64 o.n)
def AwakeOk (K : Nat) : Prop := ∀ W : World, K ≤ W.heap.size → Calls Try.prog 7 #[] W fun e W' => e = .returned (.bool true) ∧ Below W.heap.size W W'

def twoFiles : List FileD := [(⟨#[97]⟩, noText), (⟨#[98]⟩, noText)]
theorem filesTo_keeps (st : St) : ∀ L : List FileD, (filesTo st L).streams = st.streams ∧ (filesTo st L).trace = st.trace ∧ (filesTo st L).most = st.most := by
  intro L
  induction L generalizing st with
  | nil => exact ⟨rfl, rfl, rfl⟩
  | cons p L ih =>
    obtain ⟨h1, h2, h3⟩ := ih (fileS st p)
    have hb : (beginS st p.1).streams = st.streams ∧ (beginS st p.1).trace = st.trace ∧ (beginS st p.1).most = st.most := by unfold beginS; split <;> exact ⟨rfl, rfl, rfl⟩
    exact ⟨h1.trans hb.1, h2.trans hb.2.1, h3.trans hb.2.2⟩
theorem start_kept (lim : Int) (h : 0 ≤ lim) (L : List FileD) : Kept lim (filesTo (st0 noText lim 0 0) L) := by
  obtain ⟨h1, h2, h3⟩ := filesTo_keeps (st0 noText lim 0 0) L
  have h1' : (filesTo (st0 noText lim 0 0) L).streams = [] := h1
  have h2' : (filesTo (st0 noText lim 0 0) L).trace = [] := h2
  refine ⟨h3, by rw [h1']; exact h, by rw [h1', h2']; rfl, fun s hs => by rw [h1'] at hs; cases hs⟩
theorem two_small : ∀ p ∈ twoFiles, Small p.1 ∧ p.2.size ≤ 1000000 := by
  intro p hp
  unfold twoFiles at hp
  simp only [List.mem_cons, List.not_mem_nil, or_false] at hp
  rcases hp with rfl | rfl <;> exact ⟨by unfold Small; decide, by decide⟩
theorem two_once : Once2 twoFiles := by
  unfold Once2 twoFiles
  simp
/- A world that is being played with: all its blocks are new. -/
def Play (w wr : World) (B : Nat) (st : St) : Prop := ∃ fm rm xm D vs vt ps T, WdAt wr B fm rm xm D vs vt ps T st ∧ (∀ k, T k ≠ .no → w.heap.size ≤ k) ∧ Below w.heap.size w wr
theorem Play.goes {w wr w2 : World} {B : Nat} {st st2 : St} {T : Tags} (h : (∀ k, T k ≠ .no → w.heap.size ≤ k) ∧ Below w.heap.size w wr) (g : Goes wr w2 B T st2) : Play w w2 B st2 := by
  obtain ⟨fm, rm, xm, D, vs, vt, ps, T2, h2, e, t⟩ := g
  refine ⟨fm, rm, xm, D, vs, vt, ps, T2, h2, fun k hk => ?_, h.2.trans ⟨t.os, t.tape, t.output, t.size, fun k hk => t.block k (Nat.lt_of_lt_of_le hk h.2.size) fun e2 => by have := h.1 k e2; omega⟩⟩
  by_cases hlt : k < wr.heap.size
  · rw [e k hlt] at hk; exact h.1 k hk
  · have := h.2.size; omega
theorem Play.below {w wr w2 : World} {B : Nat} {st : St} (h : Play w wr B st) (hb : Below wr.heap.size wr w2) : Play w w2 B st := by
  obtain ⟨fm, rm, xm, D, vs, vt, ps, T, h1, h2, h3⟩ := h
  exact ⟨fm, rm, xm, D, vs, vt, ps, T, h1.below hb, h2, h3.trans (hb.mono h3.size)⟩
/- A call of the world, played. -/
theorem Play.call {w wr : World} {B : Nat} {st : St} {f : FuncId} {args : Array Value} {R : Ending → St → Prop} (h : Play w wr B st)
    (op : ∀ fm rm xm D vs vt ps T, WdAt wr B fm rm xm D vs vt ps T st → Calls Try.prog f args wr fun e w2 => ∃ st2, R e st2 ∧ Goes wr w2 B T st2) : Calls Try.prog f args wr fun e w2 => ∃ st2, R e st2 ∧ Play w w2 B st2 := by
  obtain ⟨fm, rm, xm, D, vs, vt, ps, T, h1, h2, h3⟩ := h
  exact (op _ _ _ _ _ _ _ _ h1).mono fun e w2 ⟨st2, he, hg⟩ => ⟨st2, he, Play.goes (st := st) ⟨h2, h3⟩ hg⟩
/- One that only reads. -/
theorem Play.read {w wr : World} {B : Nat} {st : St} {f : FuncId} {args : Array Value} {v : Value} (h : Play w wr B st)
    (op : ∀ fm rm xm D vs vt ps T, WdAt wr B fm rm xm D vs vt ps T st → Calls Try.prog f args wr fun e w2 => e = .returned v ∧ Below wr.heap.size wr w2) : Calls Try.prog f args wr fun e w2 => e = .returned v ∧ Play w w2 B st := by
  obtain ⟨fm, rm, xm, D, vs, vt, ps, T, h1, h2, h3⟩ := h
  exact (op _ _ _ _ _ _ _ _ h1).mono fun e w2 ⟨he, hb⟩ => ⟨he, fm, rm, xm, D, vs, vt, ps, T, h1.below hb, h2, h3.trans (hb.mono h3.size)⟩
/- .. beside a block of the law's own. -/
def PlayB (w wr : World) (B : Nat) (st : St) (bx : Nat) (cs : Array Value) (t : TypeId) : Prop := ∃ fm rm xm D vs vt ps T, WdAt wr B fm rm xm D vs vt ps T st ∧ (∀ k, T k ≠ .no → w.heap.size ≤ k) ∧ Below w.heap.size w wr ∧ T bx = .no ∧ wr.heap[bx]? = some (.cells cs t)
theorem Play.box {w wr : World} {B : Nat} {st : St} (h : Play w wr B st) (cs : Array Value) (t : TypeId) : PlayB w (wr.alloc (.cells cs t)) B st wr.heap.size cs t := by
  obtain ⟨fm, rm, xm, D, vs, vt, ps, T, h1, h2, h3⟩ := h
  have hb : Below wr.heap.size wr (wr.alloc (.cells cs t)) := (Below.refl _ wr).alloc (Nat.le_refl _) _
  exact ⟨fm, rm, xm, D, vs, vt, ps, T, h1.below hb, h2, h3.trans (hb.mono h3.size), Classical.byContradiction fun e => by have := h1.lt _ e; omega, alloc_new _ _⟩
theorem PlayB.play {w wr : World} {B : Nat} {st : St} {bx : Nat} {cs : Array Value} {t : TypeId} (h : PlayB w wr B st bx cs t) : Play w wr B st := by
  obtain ⟨fm, rm, xm, D, vs, vt, ps, T, h1, h2, h3, _⟩ := h
  exact ⟨fm, rm, xm, D, vs, vt, ps, T, h1, h2, h3⟩
theorem PlayB.cell {w wr : World} {B : Nat} {st : St} {bx : Nat} {cs : Array Value} {t : TypeId} (h : PlayB w wr B st bx cs t) (i : Nat) : wr.cell? ⟨bx, i, none⟩ = cs[i]? := by
  obtain ⟨fm, rm, xm, D, vs, vt, ps, T, h1, h2, h3, h4, h5⟩ := h
  simp [World.cell?, h5]
theorem PlayB.drewN {w wr : World} {B : Nat} {st : St} {bx : Nat} {cs : Array Value} {t : TypeId} (h : PlayB w wr B st bx cs t) (m : Nat) : PlayB w (wr.drewN m) B st bx cs t := by
  obtain ⟨fm, rm, xm, D, vs, vt, ps, T, h1, h2, h3, h4, h5⟩ := h
  exact ⟨fm, rm, xm, D, vs, vt, ps, T, h1.drewN m, h2, below_drewN h3 m, h4, h5⟩
theorem PlayB.call {w wr : World} {B : Nat} {st st2 : St} {bx : Nat} {cs : Array Value} {t : TypeId} {f : FuncId} {args : Array Value} {v : Value} (h : PlayB w wr B st bx cs t)
    (op : ∀ fm rm xm D vs vt ps T, WdAt wr B fm rm xm D vs vt ps T st → Calls Try.prog f args wr fun e w2 => e = .returned v ∧ Goes wr w2 B T st2) : Calls Try.prog f args wr fun e w2 => e = .returned v ∧ PlayB w w2 B st2 bx cs t := by
  obtain ⟨fm, rm, xm, D, vs, vt, ps, T, h1, h2, h3, h4, h5⟩ := h
  refine (op _ _ _ _ _ _ _ _ h1).mono fun e w2 ⟨he, hg⟩ => ⟨he, ?_⟩
  obtain ⟨fm, rm, xm, D, vs, vt, ps, T2, g1, g2, g3⟩ := hg
  have hlt := (Array.getElem?_eq_some_iff.1 h5).1
  refine ⟨fm, rm, xm, D, vs, vt, ps, T2, g1, fun k hk => ?_, h3.trans ⟨g3.os, g3.tape, g3.output, g3.size, fun k hk => g3.block k (Nat.lt_of_lt_of_le hk h3.size) fun e2 => by have := h2 k e2; omega⟩, (g2 bx hlt).trans h4, (g3.block bx hlt fun e2 => e2 h4).trans h5⟩
  by_cases hl : k < wr.heap.size
  · rw [g2 k hl] at hk; exact h2 k hk
  · have := h3.size; omega
theorem PlayB.read {w wr : World} {B : Nat} {st : St} {bx : Nat} {cs : Array Value} {t : TypeId} {f : FuncId} {args : Array Value} {v : Value} (h : PlayB w wr B st bx cs t)
    (op : ∀ fm rm xm D vs vt ps T, WdAt wr B fm rm xm D vs vt ps T st → Calls Try.prog f args wr fun e w2 => e = .returned v ∧ Below wr.heap.size wr w2) : Calls Try.prog f args wr fun e w2 => e = .returned v ∧ PlayB w w2 B st bx cs t :=
  h.call fun _ _ _ _ _ _ _ _ q => (op _ _ _ _ _ _ _ _ q).mono fun _ _ ⟨he, hb⟩ => ⟨he, q.goes hb⟩
theorem PlayB.below {w wr w2 : World} {B : Nat} {st : St} {bx : Nat} {cs : Array Value} {t : TypeId} (h : PlayB w wr B st bx cs t) (hb : Below wr.heap.size wr w2) : PlayB w w2 B st bx cs t := by
  obtain ⟨fm, rm, xm, D, vs, vt, ps, T, h1, h2, h3, h4, h5⟩ := h
  exact ⟨fm, rm, xm, D, vs, vt, ps, T, h1.below hb, h2, h3.trans (hb.mono h3.size), h4, (hb.block bx (Array.getElem?_eq_some_iff.1 h5).1).trans h5⟩
theorem PlayB.streams {w wr : World} {B : Nat} {st : St} {bx : Nat} {cs : Array Value} {t : TypeId} (h : PlayB w wr B st bx cs t) :
    Calls Try.prog 11 #[ptr B] wr fun e w2 => e = .returned (.int .i64 st.streams.length) ∧ w2 = wr := by
  obtain ⟨fm, rm, xm, D, vs, vt, ps, T, h1, h2, h3, h4, h5⟩ := h
  exact streamsN h1
theorem PlayB.isOpen {w wr : World} {B : Nat} {st : St} {bx : Nat} {cs : Array Value} {t : TypeId} (h : PlayB w wr B st bx cs t) (k : Int) (n : ByteArray) (hl : st.streams.length ≤ 1000000) :
    Calls Try.prog 14 #[ptr B, .int .u8 k, .string n] wr fun e w2 => e = .returned (.bool (openB k n st.streams)) ∧ Below wr.heap.size wr w2 := by
  obtain ⟨fm, rm, xm, D, vs, vt, ps, T, h1, h2, h3, h4, h5⟩ := h
  exact Wo.isOpen h1 k n hl
theorem PlayB.kinds {w wr : World} {B : Nat} {st : St} {bx : Nat} {cs : Array Value} {t : TypeId} (h : PlayB w wr B st bx cs t) : Below w.heap.size w wr := by
  obtain ⟨fm, rm, xm, D, vs, vt, ps, T, h1, h2, h3, h4, h5⟩ := h
  exact h3
structure Later (u : World) where
  w : World
  h : Below u.heap.size u w
instance (u : World) : Nonempty (Later u) := ⟨⟨u, Below.refl _ _⟩⟩
theorem wp_region_later {P : Program} {id : Nat} {Q : Exit → Act → World → Prop} {a : Act} {w : World} {l : List Oper} (hm : P.follows .mixedOrders = true) (hB : Region.lexB .any l.toArray = true)
    (h : wpQuiet P l.toArray (fun w' => ∃ x : Later w, w' = x.w) (fun a' => ∀ w', (∃ x : Later w, w' = x.w) → Q .normal a' w') l a) : (Code.region id l.toArray true).wp P Q a w :=
  wp_region_quiet (C := fun w' => ∃ x : Later w, w' = x.w) hm hB ⟨⟨{ w with drawn := w.drawn + 1 }, ⟨rfl, rfl, rfl, Nat.le_refl _, fun _ _ => rfl⟩⟩, rfl⟩ (by simpa using h)
theorem Later.cell {w : World} (x : Later w) {p : Addr} {v : Value} (h : w.cell? p = some v) : x.w.cell? p = some v := (x.h.cell (cell_lt h)).trans h
theorem later_call {P : Program} {f : FuncId} {args : Array Value} {w : World} {x : Later w} {v : Value} (h : Calls P f args x.w fun e w' => e = .returned v ∧ Below x.w.heap.size x.w w') :
    Calls P f args x.w fun e w'' => e = .returned v ∧ ∃ y : Later w, w'' = y.w :=
  h.mono fun _ w' ⟨he, hb⟩ => ⟨he, ⟨w', x.h.trans (hb.mono x.h.size)⟩, rfl⟩
theorem later_same {P : Program} {f : FuncId} {args : Array Value} {w : World} {x : Later w} {v : Value} (h : Calls P f args x.w fun e w' => e = .returned v ∧ w' = x.w) :
    Calls P f args x.w fun e w'' => e = .returned v ∧ ∃ y : Later w, w'' = y.w :=
  h.mono fun _ _ ⟨he, hb⟩ => ⟨he, x, hb⟩
theorem len_eq {a b : Nat} (h : decide (a = b + 1) = (true && !false)) : ((a : Int) == (b : Int) + 1) = true := by
  have : a = b + 1 := by simpa using h
  rw [this]; push_cast; exact beq_self_eq_true _
theorem len_ne {a b : Nat} {x : Bool} (h : decide (a = b + 1) = x) (hx : x = false := by rfl) : ((a : Int) == (b : Int) + 1) = false := by
  rw [hx] at h
  have : a ≠ b + 1 := by simpa using h
  exact beq_eq_false_iff_ne.2 (by omega)
theorem Play.closeAll {w wr : World} {B : Nat} {st : St} (h : Play w wr B st) (hs : st.streams.length ≤ 1000) (ht : st.trace.length ≤ 800000) :
    Calls Try.prog 25 #[ptr B] wr fun e w2 => e = .returned (.tuple #[]) ∧ ∃ j, j ≤ st.streams.length ∧ Play w w2 B (allTo j st) ∧ (allTo j st).streams = [] := by
  obtain ⟨fm, rm, xm, D, vs, vt, ps, T, h1, h2, h3⟩ := h
  exact (closeAll_ h1 hs ht).mono fun e w2 ⟨he, j, hj, hg, hn⟩ => ⟨he, j, hj, Play.goes (st := st) ⟨h2, h3⟩ hg, hn⟩
theorem Play.trace {w wr : World} {B : Nat} {st : St} (h : Play w wr B st) (ht : st.trace.length ≤ 1000000) :
    Calls Try.prog 13 #[ptr B] wr fun e w2 => ∃ v, e = .returned v ∧ w2.ownsRow wr.heap.size 67 5 v st.trace.length (flatE st.trace) ∧ Play w w2 B st := by
  obtain ⟨fm, rm, xm, D, vs, vt, ps, T, h1, h2, h3⟩ := h
  exact (traceOf h1 ht).mono fun e w2 ⟨v, he, hr, hb⟩ => ⟨v, he, hr, fm, rm, xm, D, vs, vt, ps, T, h1.below hb, h2, h3.trans (hb.mono h3.size)⟩
theorem Play.streams {w wr : World} {B : Nat} {st : St} (h : Play w wr B st) :
    Calls Try.prog 11 #[ptr B] wr fun e w2 => e = .returned (.int .i64 st.streams.length) ∧ w2 = wr := by
  obtain ⟨fm, rm, xm, D, vs, vt, ps, T, h1, h2, h3⟩ := h
  exact streamsN h1
theorem Play.b {w wr : World} {B : Nat} {st : St} (h : Play w wr B st) : Below w.heap.size w wr := by
  obtain ⟨fm, rm, xm, D, vs, vt, ps, T, h1, h2, h3⟩ := h
  exact h3
theorem flatE_get : ∀ (l : List Ev) (i : Nat) (e : Ev), l[i]? = some e → ∀ j, j < 5 → (flatE l)[i * 5 + j]? = e.cells[j]?
  | x :: l, 0, e, h, j, hj => by
    simp at h; subst h
    have : j < x.cells.length := hj
    show ((x.cells ++ flatE l))[0 * 5 + j]? = _
    rw [Nat.zero_mul, Nat.zero_add, List.getElem?_append_left this]
  | x :: l, i + 1, e, h, j, hj => by
    have ih := flatE_get l i e (by simpa using h) j hj
    have ee : (i + 1) * 5 + j = x.cells.length + (i * 5 + j) := by show _ = 5 + _; omega
    show ((x.cells ++ flatE l))[(i + 1) * 5 + j]? = _
    rw [ee, List.getElem?_append_right (Nat.le_add_right _ _), Nat.add_sub_cancel_left]
    exact ih
theorem events_at {w : World} {b : Nat} {oa : Option Addr} {n c : Nat} {l : List Ev} (h : w.ownsRow b 67 5 (.slice oa n c) l.length (flatE l)) {i : Nat} {e : Ev} (hi : l[i]? = some e) :
    ∃ g, oa = some ⟨g, 0, none⟩ ∧ w.cell? ⟨g, i * 5, none⟩ = some (.int .u8 e.kind) ∧ w.cell? ⟨g, i * 5 + 1, none⟩ = some (.int .u8 e.stream) ∧ w.cell? ⟨g, i * 5 + 2, none⟩ = some (.string e.name) ∧ w.cell? ⟨g, i * 5 + 3, none⟩ = some (.string e.data) ∧ w.cell? ⟨g, i * 5 + 4, none⟩ = some (.int .i64 e.status) := by
  have hlt := (List.getElem?_eq_some_iff.1 hi).1
  have h2 := h
  rcases h.2 with ⟨h1, h0⟩ | ⟨g, oc, cur, h1, _⟩
  · omega
  · simp only [Value.slice.injEq] at h1
    obtain ⟨rfl, rfl, rfl⟩ := h1
    have hc : ∀ j, j < 5 → w.cell? ⟨g, i * 5 + j, none⟩ = e.cells[j]? := fun j hj => by
      rw [h2.cellAt (i * 5 + j) (by omega), flatE_get l i e hi j hj]
    exact ⟨g, rfl, hc 0 (by omega), hc 1 (by omega), hc 2 (by omega), hc 3 (by omega), hc 4 (by omega)⟩
theorem one_letter (a b : Nat) : Small ((⟨#[97, 98, 99, 100]⟩ : ByteArray).extract a b) := by
  unfold Small
  rw [ByteArray.size_extract]
  show min b 4 - a ≤ 1000000
  omega
theorem files_row {w : World} {c1 c2 c3 c4 : ByteArray} {t : TypeId} : Row2 (w.alloc (.cells #[.string c1, .string c2, .string c3, .string c4] t)) (some ⟨w.heap.size, 0, none⟩) [(c1, c2), (c3, c4)] := fun i p hp => by
  have hb : ∀ j, (w.alloc (.cells #[.string c1, .string c2, .string c3, .string c4] t)).cell? ⟨w.heap.size, j, none⟩ = (#[.string c1, .string c2, .string c3, .string c4] : Array Value)[j]? := fun j => box_cell j
  match i, hp with
  | 0, hp => cases hp; exact ⟨_, 0, rfl, hb 0, hb 1⟩
  | 1, hp => cases hp; exact ⟨_, 0, rfl, hb 2, hb 3⟩
  | i + 2, hp => simp at hp

end Go.Proofs.Ythbkcdbmimhhkaa.Wo
