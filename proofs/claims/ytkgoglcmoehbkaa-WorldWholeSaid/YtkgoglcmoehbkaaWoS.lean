/-
  WorldLimits: the walk.
-/
import Derived.Test.YtkgoglcmoehbkaaWoR
namespace Go.Proofs.Ytkgoglcmoehbkaa.Wo
open Go.RowKit Go.Maps

structure OpR where
  kind : Int
  k : Int
  name : ByteArray
  data : ByteArray
  n : Int
def OpAt (w : World) (a : Addr) (o : OpR) : Prop := ∃ l p, a = ⟨l, p, none⟩ ∧ w.cell? ⟨l, p, none⟩ = some (.int .i64 o.kind) ∧ w.cell? ⟨l, p + 1, none⟩ = some (.int .u8 o.k) ∧ w.cell? ⟨l, p + 2, none⟩ = some (.string o.name) ∧ w.cell? ⟨l, p + 3, none⟩ = some (.string o.data) ∧ w.cell? ⟨l, p + 4, none⟩ = some (.int .i64 o.n)
/- A list of calls in memory. -/
def Scr (w : World) (v : Value) (X : List OpR) : Prop := ∃ oa c, v = .slice oa X.length c ∧ ∀ (i : Nat) o, X[i]? = some o → ∃ l p, oa = some ⟨l, p, none⟩ ∧ w.cell? ⟨l, p + i * 5, none⟩ = some (.int .i64 o.kind) ∧ w.cell? ⟨l, p + i * 5 + 1, none⟩ = some (.int .u8 o.k) ∧ w.cell? ⟨l, p + i * 5 + 2, none⟩ = some (.string o.name) ∧ w.cell? ⟨l, p + i * 5 + 3, none⟩ = some (.string o.data) ∧ w.cell? ⟨l, p + i * 5 + 4, none⟩ = some (.int .i64 o.n)
def AwakeOk (K : Nat) : Prop := ∀ W : World, K ≤ W.heap.size → Calls Try.prog 7 #[] W fun e W' => e = .returned (.bool true) ∧ Below W.heap.size W W'

def twoFiles : List FileD := [(⟨#[97]⟩, noText), (⟨#[98]⟩, noText)]
theorem filesTo_keeps (st : St) : ∀ L : List FileD, (filesTo st L).streams = st.streams ∧ (filesTo st L).trace = st.trace ∧ (filesTo st L).most = st.most := by
  intro L
  induction L generalizing st with
  | nil => exact ⟨rfl, rfl, rfl⟩
  | cons p L ih =>
    obtain ⟨h1, h2, h3⟩ := ih (fileS st p)
    have hb : (beginS st p.1).streams = st.streams ∧ (beginS st p.1).trace = st.trace ∧ (beginS st p.1).most = st.most := by unfold beginS; split <;> exact ⟨rfl, rfl, rfl⟩
    exact ⟨h1.trans hb.1, h2.trans hb.2.1, h3.trans hb.2.2⟩
theorem start_kept (lim : Int) (h : 0 ≤ lim) (L : List FileD) : Kept lim (filesTo (st0 noText lim 0 0) L) := by
  obtain ⟨h1, h2, h3⟩ := filesTo_keeps (st0 noText lim 0 0) L
  have h1' : (filesTo (st0 noText lim 0 0) L).streams = [] := h1
  have h2' : (filesTo (st0 noText lim 0 0) L).trace = [] := h2
  refine ⟨h3, by rw [h1']; exact h, by rw [h1', h2']; rfl, fun s hs => by rw [h1'] at hs; cases hs⟩
theorem two_small : ∀ p ∈ twoFiles, Small p.1 ∧ p.2.size ≤ 1000000 := by
  intro p hp
  unfold twoFiles at hp
  simp only [List.mem_cons, List.not_mem_nil, or_false] at hp
  rcases hp with rfl | rfl <;> exact ⟨by unfold Small; decide, by decide⟩
theorem two_once : Once2 twoFiles := by
  unfold Once2 twoFiles
  simp
/- A world that is being played with: all its blocks are new. -/
def Play (w wr : World) (B : Nat) (st : St) : Prop := ∃ fm rm xm D vs vt ps T, WdAt wr B fm rm xm D vs vt ps T st ∧ (∀ k, T k ≠ .no → w.heap.size ≤ k) ∧ Below w.heap.size w wr
theorem Play.goes {w wr w2 : World} {B : Nat} {st st2 : St} {T : Tags} (h : (∀ k, T k ≠ .no → w.heap.size ≤ k) ∧ Below w.heap.size w wr) (g : Goes wr w2 B T st2) : Play w w2 B st2 := by
  obtain ⟨fm, rm, xm, D, vs, vt, ps, T2, h2, e, t⟩ := g
  refine ⟨fm, rm, xm, D, vs, vt, ps, T2, h2, fun k hk => ?_, h.2.trans ⟨t.os, t.tape, t.output, t.size, fun k hk => t.block k (Nat.lt_of_lt_of_le hk h.2.size) fun e2 => by have := h.1 k e2; omega⟩⟩
  by_cases hlt : k < wr.heap.size
  · rw [e k hlt] at hk; exact h.1 k hk
  · have := h.2.size; omega
theorem Play.below {w wr w2 : World} {B : Nat} {st : St} (h : Play w wr B st) (hb : Below wr.heap.size wr w2) : Play w w2 B st := by
  obtain ⟨fm, rm, xm, D, vs, vt, ps, T, h1, h2, h3⟩ := h
  exact ⟨fm, rm, xm, D, vs, vt, ps, T, h1.below hb, h2, h3.trans (hb.mono h3.size)⟩
/- A call of the world, played. -/
theorem Play.call {w wr : World} {B : Nat} {st : St} {f : FuncId} {args : Array Value} {R : Ending → St → Prop} (h : Play w wr B st)
    (op : ∀ fm rm xm D vs vt ps T, WdAt wr B fm rm xm D vs vt ps T st → Calls Try.prog f args wr fun e w2 => ∃ st2, R e st2 ∧ Goes wr w2 B T st2) : Calls Try.prog f args wr fun e w2 => ∃ st2, R e st2 ∧ Play w w2 B st2 := by
  obtain ⟨fm, rm, xm, D, vs, vt, ps, T, h1, h2, h3⟩ := h
  exact (op _ _ _ _ _ _ _ _ h1).mono fun e w2 ⟨st2, he, hg⟩ => ⟨st2, he, Play.goes (st := st) ⟨h2, h3⟩ hg⟩
/- One that only reads. -/
theorem Play.read {w wr : World} {B : Nat} {st : St} {f : FuncId} {args : Array Value} {v : Value} (h : Play w wr B st)
    (op : ∀ fm rm xm D vs vt ps T, WdAt wr B fm rm xm D vs vt ps T st → Calls Try.prog f args wr fun e w2 => e = .returned v ∧ Below wr.heap.size wr w2) : Calls Try.prog f args wr fun e w2 => e = .returned v ∧ Play w w2 B st := by
  obtain ⟨fm, rm, xm, D, vs, vt, ps, T, h1, h2, h3⟩ := h
  exact (op _ _ _ _ _ _ _ _ h1).mono fun e w2 ⟨he, hb⟩ => ⟨he, fm, rm, xm, D, vs, vt, ps, T, h1.below hb, h2, h3.trans (hb.mono h3.size)⟩
/- .. beside a block of the law's own. -/
def PlayB (w wr : World) (B : Nat) (st : St) (bx : Nat) (cs : Array Value) (t : TypeId) : Prop := ∃ fm rm xm D vs vt ps T, WdAt wr B fm rm xm D vs vt ps T st ∧ (∀ k, T k ≠ .no → w.heap.size ≤ k) ∧ Below w.heap.size w wr ∧ T bx = .no ∧ wr.heap[bx]? = some (.cells cs t)
theorem Play.box {w wr : World} {B : Nat} {st : St} (h : Play w wr B st) (cs : Array Value) (t : TypeId) : PlayB w (wr.alloc (.cells cs t)) B st wr.heap.size cs t := by
  obtain ⟨fm, rm, xm, D, vs, vt, ps, T, h1, h2, h3⟩ := h
  have hb : Below wr.heap.size wr (wr.alloc (.cells cs t)) := (Below.refl _ wr).alloc (Nat.le_refl _) _
  exact ⟨fm, rm, xm, D, vs, vt, ps, T, h1.below hb, h2, h3.trans (hb.mono h3.size), Classical.byContradiction fun e => by have := h1.lt _ e; omega, alloc_new _ _⟩
theorem PlayB.play {w wr : World} {B : Nat} {st : St} {bx : Nat} {cs : Array Value} {t : TypeId} (h : PlayB w wr B st bx cs t) : Play w wr B st := by
  obtain ⟨fm, rm, xm, D, vs, vt, ps, T, h1, h2, h3, _⟩ := h
  exact ⟨fm, rm, xm, D, vs, vt, ps, T, h1, h2, h3⟩
theorem PlayB.cell {w wr : World} {B : Nat} {st : St} {bx : Nat} {cs : Array Value} {t : TypeId} (h : PlayB w wr B st bx cs t) (i : Nat) : wr.cell? ⟨bx, i, none⟩ = cs[i]? := by
  obtain ⟨fm, rm, xm, D, vs, vt, ps, T, h1, h2, h3, h4, h5⟩ := h
  simp [World.cell?, h5]
theorem PlayB.drewN {w wr : World} {B : Nat} {st : St} {bx : Nat} {cs : Array Value} {t : TypeId} (h : PlayB w wr B st bx cs t) (m : Nat) : PlayB w (wr.drewN m) B st bx cs t := by
  obtain ⟨fm, rm, xm, D, vs, vt, ps, T, h1, h2, h3, h4, h5⟩ := h
  exact ⟨fm, rm, xm, D, vs, vt, ps, T, h1.drewN m, h2, below_drewN h3 m, h4, h5⟩
theorem PlayB.call {w wr : World} {B : Nat} {st st2 : St} {bx : Nat} {cs : Array Value} {t : TypeId} {f : FuncId} {args : Array Value} {v : Value} (h : PlayB w wr B st bx cs t)
    (op : ∀ fm rm xm D vs vt ps T, WdAt wr B fm rm xm D vs vt ps T st → Calls Try.prog f args wr fun e w2 => e = .returned v ∧ Goes wr w2 B T st2) : Calls Try.prog f args wr fun e w2 => e = .returned v ∧ PlayB w w2 B st2 bx cs t := by
  obtain ⟨fm, rm, xm, D, vs, vt, ps, T, h1, h2, h3, h4, h5⟩ := h
  refine (op _ _ _ _ _ _ _ _ h1).mono fun e w2 ⟨he, hg⟩ => ⟨he, ?_⟩
  obtain ⟨fm, rm, xm, D, vs, vt, ps, T2, g1, g2, g3⟩ := hg
  have hlt := (Array.getElem?_eq_some_iff.1 h5).1
  refine ⟨fm, rm, xm, D, vs, vt, ps, T2, g1, fun k hk => ?_, h3.trans ⟨g3.os, g3.tape, g3.output, g3.size, fun k hk => g3.block k (Nat.lt_of_lt_of_le hk h3.size) fun e2 => by have := h2 k e2; omega⟩, (g2 bx hlt).trans h4, (g3.block bx hlt fun e2 => e2 h4).trans h5⟩
  by_cases hl : k < wr.heap.size
  · rw [g2 k hl] at hk; exact h2 k hk
  · have := h3.size; omega
theorem PlayB.read {w wr : World} {B : Nat} {st : St} {bx : Nat} {cs : Array Value} {t : TypeId} {f : FuncId} {args : Array Value} {v : Value} (h : PlayB w wr B st bx cs t)
    (op : ∀ fm rm xm D vs vt ps T, WdAt wr B fm rm xm D vs vt ps T st → Calls Try.prog f args wr fun e w2 => e = .returned v ∧ Below wr.heap.size wr w2) : Calls Try.prog f args wr fun e w2 => e = .returned v ∧ PlayB w w2 B st bx cs t :=
  h.call fun _ _ _ _ _ _ _ _ q => (op _ _ _ _ _ _ _ _ q).mono fun _ _ ⟨he, hb⟩ => ⟨he, q.goes hb⟩
theorem PlayB.below {w wr w2 : World} {B : Nat} {st : St} {bx : Nat} {cs : Array Value} {t : TypeId} (h : PlayB w wr B st bx cs t) (hb : Below wr.heap.size wr w2) : PlayB w w2 B st bx cs t := by
  obtain ⟨fm, rm, xm, D, vs, vt, ps, T, h1, h2, h3, h4, h5⟩ := h
  exact ⟨fm, rm, xm, D, vs, vt, ps, T, h1.below hb, h2, h3.trans (hb.mono h3.size), h4, (hb.block bx (Array.getElem?_eq_some_iff.1 h5).1).trans h5⟩
theorem PlayB.streams {w wr : World} {B : Nat} {st : St} {bx : Nat} {cs : Array Value} {t : TypeId} (h : PlayB w wr B st bx cs t) :
    Calls Try.prog 11 #[ptr B] wr fun e w2 => e = .returned (.int .i64 st.streams.length) ∧ w2 = wr := by
  obtain ⟨fm, rm, xm, D, vs, vt, ps, T, h1, h2, h3, h4, h5⟩ := h
  exact streamsN h1
theorem PlayB.isOpen {w wr : World} {B : Nat} {st : St} {bx : Nat} {cs : Array Value} {t : TypeId} (h : PlayB w wr B st bx cs t) (k : Int) (n : ByteArray) (hl : st.streams.length ≤ 1000000) :
    Calls Try.prog 14 #[ptr B, .int .u8 k, .string n] wr fun e w2 => e = .returned (.bool (openB k n st.streams)) ∧ Below wr.heap.size wr w2 := by
  obtain ⟨fm, rm, xm, D, vs, vt, ps, T, h1, h2, h3, h4, h5⟩ := h
  exact Wo.isOpen h1 k n hl
theorem PlayB.kinds {w wr : World} {B : Nat} {st : St} {bx : Nat} {cs : Array Value} {t : TypeId} (h : PlayB w wr B st bx cs t) : Below w.heap.size w wr := by
  obtain ⟨fm, rm, xm, D, vs, vt, ps, T, h1, h2, h3, h4, h5⟩ := h
  exact h3
structure Later (u : World) where
  w : World
  h : Below u.heap.size u w
instance (u : World) : Nonempty (Later u) := ⟨⟨u, Below.refl _ _⟩⟩
theorem wp_region_later {P : Program} {id : Nat} {Q : Exit → Act → World → Prop} {a : Act} {w : World} {l : List Oper} (hm : P.follows .mixedOrders = true) (hB : Region.lexB .any l.toArray = true)
    (h : wpQuiet P l.toArray (fun w' => ∃ x : Later w, w' = x.w) (fun a' => ∀ w', (∃ x : Later w, w' = x.w) → Q .normal a' w') l a) : (Code.region id l.toArray true).wp P Q a w :=
  wp_region_quiet (C := fun w' => ∃ x : Later w, w' = x.w) hm hB ⟨⟨{ w with drawn := w.drawn + 1 }, ⟨rfl, rfl, rfl, Nat.le_refl _, fun _ _ => rfl⟩⟩, rfl⟩ (by simpa using h)
theorem Later.cell {w : World} (x : Later w) {p : Addr} {v : Value} (h : w.cell? p = some v) : x.w.cell? p = some v := (x.h.cell (cell_lt h)).trans h
theorem later_call {P : Program} {f : FuncId} {args : Array Value} {w : World} {x : Later w} {v : Value} (h : Calls P f args x.w fun e w' => e = .returned v ∧ Below x.w.heap.size x.w w') :
    Calls P f args x.w fun e w'' => e = .returned v ∧ ∃ y : Later w, w'' = y.w :=
  h.mono fun _ w' ⟨he, hb⟩ => ⟨he, ⟨w', x.h.trans (hb.mono x.h.size)⟩, rfl⟩
theorem later_same {P : Program} {f : FuncId} {args : Array Value} {w : World} {x : Later w} {v : Value} (h : Calls P f args x.w fun e w' => e = .returned v ∧ w' = x.w) :
    Calls P f args x.w fun e w'' => e = .returned v ∧ ∃ y : Later w, w'' = y.w :=
  h.mono fun _ w' ⟨he, hb⟩ => ⟨he, x, hb⟩
theorem len_eq {a b : Nat} (h : decide (a = b + 1) = (true && !false)) : ((a : Int) == (b : Int) + 1) = true := by
  have : a = b + 1 := by simpa using h
  rw [this]; push_cast; exact beq_self_eq_true _
theorem len_ne {a b : Nat} {x : Bool} (h : decide (a = b + 1) = x) (hx : x = false := by rfl) : ((a : Int) == (b : Int) + 1) = false := by
  rw [hx] at h
  have : a ≠ b + 1 := by simpa using h
  exact beq_eq_false_iff_ne.2 (by omega)
theorem Play.closeAll {w wr : World} {B : Nat} {st : St} (h : Play w wr B st) (hs : st.streams.length ≤ 1000) (ht : st.trace.length ≤ 800000) :
    Calls Try.prog 25 #[ptr B] wr fun e w2 => e = .returned (.tuple #[]) ∧ ∃ j, j ≤ st.streams.length ∧ Play w w2 B (allTo j st) ∧ (allTo j st).streams = [] := by
  obtain ⟨fm, rm, xm, D, vs, vt, ps, T, h1, h2, h3⟩ := h
  exact (closeAll_ h1 hs ht).mono fun e w2 ⟨he, j, hj, hg, hn⟩ => ⟨he, j, hj, Play.goes (st := st) ⟨h2, h3⟩ hg, hn⟩
theorem Play.trace {w wr : World} {B : Nat} {st : St} (h : Play w wr B st) (ht : st.trace.length ≤ 1000000) :
    Calls Try.prog 13 #[ptr B] wr fun e w2 => ∃ v, e = .returned v ∧ w2.ownsRow wr.heap.size 67 5 v st.trace.length (flatE st.trace) ∧ Play w w2 B st := by
  obtain ⟨fm, rm, xm, D, vs, vt, ps, T, h1, h2, h3⟩ := h
  exact (traceOf h1 ht).mono fun e w2 ⟨v, he, hr, hb⟩ => ⟨v, he, hr, fm, rm, xm, D, vs, vt, ps, T, h1.below hb, h2, h3.trans (hb.mono h3.size)⟩
theorem Play.streams {w wr : World} {B : Nat} {st : St} (h : Play w wr B st) :
    Calls Try.prog 11 #[ptr B] wr fun e w2 => e = .returned (.int .i64 st.streams.length) ∧ w2 = wr := by
  obtain ⟨fm, rm, xm, D, vs, vt, ps, T, h1, h2, h3⟩ := h
  exact streamsN h1
theorem Play.b {w wr : World} {B : Nat} {st : St} (h : Play w wr B st) : Below w.heap.size w wr := by
  obtain ⟨fm, rm, xm, D, vs, vt, ps, T, h1, h2, h3⟩ := h
  exact h3
theorem flatE_get : ∀ (l : List Ev) (i : Nat) (e : Ev), l[i]? = some e → ∀ j, j < 5 → (flatE l)[i * 5 + j]? = e.cells[j]?
  | x :: l, 0, e, h, j, hj => by
    simp at h; subst h
    have : j < x.cells.length := hj
    show ((x.cells ++ flatE l))[0 * 5 + j]? = _
    rw [Nat.zero_mul, Nat.zero_add, List.getElem?_append_left this]
  | x :: l, i + 1, e, h, j, hj => by
    have ih := flatE_get l i e (by simpa using h) j hj
    have ee : (i + 1) * 5 + j = x.cells.length + (i * 5 + j) := by show _ = 5 + _; omega
    show ((x.cells ++ flatE l))[(i + 1) * 5 + j]? = _
    rw [ee, List.getElem?_append_right (Nat.le_add_right _ _), Nat.add_sub_cancel_left]
    exact ih
theorem events_at {w : World} {b : Nat} {oa : Option Addr} {n c : Nat} {l : List Ev} (h : w.ownsRow b 67 5 (.slice oa n c) l.length (flatE l)) {i : Nat} {e : Ev} (hi : l[i]? = some e) :
    ∃ g, oa = some ⟨g, 0, none⟩ ∧ w.cell? ⟨g, i * 5, none⟩ = some (.int .u8 e.kind) ∧ w.cell? ⟨g, i * 5 + 1, none⟩ = some (.int .u8 e.stream) ∧ w.cell? ⟨g, i * 5 + 2, none⟩ = some (.string e.name) ∧ w.cell? ⟨g, i * 5 + 3, none⟩ = some (.string e.data) ∧ w.cell? ⟨g, i * 5 + 4, none⟩ = some (.int .i64 e.status) := by
  have hlt := (List.getElem?_eq_some_iff.1 hi).1
  have h2 := h
  rcases h.2 with ⟨h1, h0⟩ | ⟨g, oc, cur, h1, _⟩
  · omega
  · simp only [Value.slice.injEq] at h1
    obtain ⟨rfl, rfl, rfl⟩ := h1
    have hc : ∀ j, j < 5 → w.cell? ⟨g, i * 5 + j, none⟩ = e.cells[j]? := fun j hj => by
      rw [h2.cellAt (i * 5 + j) (by omega), flatE_get l i e hi j hj]
    exact ⟨g, rfl, hc 0 (by omega), hc 1 (by omega), hc 2 (by omega), hc 3 (by omega), hc 4 (by omega)⟩
theorem one_letter (a b : Nat) : Small ((⟨#[97, 98, 99, 100]⟩ : ByteArray).extract a b) := by
  unfold Small
  rw [ByteArray.size_extract]
  show min b 4 - a ≤ 1000000
  omega
theorem files_row {w : World} {c1 c2 c3 c4 : ByteArray} {t : TypeId} : Row2 (w.alloc (.cells #[.string c1, .string c2, .string c3, .string c4] t)) (some ⟨w.heap.size, 0, none⟩) [(c1, c2), (c3, c4)] := fun i p hp => by
  have hb : ∀ j, (w.alloc (.cells #[.string c1, .string c2, .string c3, .string c4] t)).cell? ⟨w.heap.size, j, none⟩ = (#[.string c1, .string c2, .string c3, .string c4] : Array Value)[j]? := fun j => box_cell j
  match i, hp with
  | 0, hp => cases hp; exact ⟨_, 0, rfl, hb 0, hb 1⟩
  | 1, hp => cases hp; exact ⟨_, 0, rfl, hb 2, hb 3⟩
  | i + 2, hp => simp at hp

set_option maxHeartbeats 4000000 in
set_option maxRecDepth 100000 in
theorem limits {K : Nat} (haw : AwakeOk K) (lim0 : Int) (v : Value) (X : List OpR) (w : World) (hK : K ≤ w.heap.size) (hX : Scr w v X) (hXk : ∀ o ∈ X, 0 ≤ o.k ∧ o.k < 256) :
    Calls Try.prog 5 #[.int .i64 lim0, v] w fun e w' => e = .returned (.bool true) ∧ Below w.heap.size w w' := by
  obtain ⟨oa, c, rfl, hX⟩ := hX
  have HA := Lib.hid haw
  have HX := Lib.hid (⟨hX, hXk⟩ : _ ∧ _)
  clear haw hX hXk
  go_enter Try.func5, Try.ntmps5
  have hl := pickI_lt (x := lim0) (n := 17) (by decide)
  generalize hlim : pickI lim0 17 = lim at hl
  have HL := Lib.hid hlim
  clear hlim
  go_wp2_with (first
    | (go_at_call 8; refine (new_ (L := twoFiles) (by omega) files_row rfl (by decide) two_small two_once).mono ?_; rintro e w2 ⟨B, T, rfl, hw, hT, hb⟩; obtain ⟨fm, rm, xm, D, vs, vt, ps, hw⟩ := hw; have H2 := Lib.hid (show Play w w2 B _ from ⟨fm, rm, xm, D, vs, vt, ps, T, hw, fun k hk => Nat.le_trans (by rw [alloc_size]; omega) (hT k hk), ((Below.refl _ w).alloc (Nat.le_refl _) _).trans (hb.mono (by rw [alloc_size]; omega))⟩); clear hw hT hb)
    | (go_at_call 20; refine (Pick _ _ _ (by decide) (by decide)).mono ?_; rintro e w' ⟨rfl, hw⟩; obtain rfl := hw.symm; clear hw; rw [HL.out]))
  have hst := start_kept lim hl.1 twoFiles
  have hmd := filesTo_made (st0 noText lim 0 0) twoFiles
  have htr := (filesTo_keeps (st0 noText lim 0 0) twoFiles).2.1
  go_loopg [7] X.length (fun q i wr => ∃ j st, X.length - j = q ∧ j ≤ X.length ∧ j ≤ 60 ∧ i = .int .i64 (j : Int) ∧ Play w wr B st ∧ Kept lim st ∧ st.trace.length ≤ 10 * j ∧ st.made ≤ 2 + j)
  case atStart => exact ⟨0, _, rfl, Nat.zero_le _, by omega, rfl, H2.out, hst, by rw [htr]; exact Nat.le_refl _, hmd⟩
  case round =>
    obtain ⟨j, st, hq, hj, hj6, rfl, hP, hKp, htr1, hmd1⟩ := hrel
    clear hst hmd htr
    by_cases hlt : j < X.length ∧ j < 60
    · obtain ⟨hlt, hlt6⟩ := hlt
      have hlt' : (j : Int) < (X.length : Int) := by omega
      have hlt6' : (j : Int) < 60 := by omega
      obtain ⟨o, ho⟩ : ∃ o, X[j]? = some o := ⟨_, List.getElem?_eq_getElem hlt⟩
      have hok := HX.out.2 o (List.mem_of_getElem? ho)
      have hX1 := HX.out.1 j o ho
      obtain ⟨kd, k, on, od, onn⟩ := o
      dsimp only at hok hX1
      obtain ⟨l, p, rfl, d0, d1, d2, d3, d4⟩ := hX1
      have hbw : Below w.heap.size w wr := by obtain ⟨_, _, _, _, _, _, _, _, _, _, h3⟩ := hP; exact h3
      have d0 := (hbw.cell (World.block_lt_of_cell? w _ d0)).trans d0
      have d1 := (hbw.cell (World.block_lt_of_cell? w _ d1)).trans d1
      have d2 := (hbw.cell (World.block_lt_of_cell? w _ d2)).trans d2
      have d3 := (hbw.cell (World.block_lt_of_cell? w _ d3)).trans d3
      have d4 := (hbw.cell (World.block_lt_of_cell? w _ d4)).trans d4
      obtain ⟨wB, hB⟩ : ∃ wB, wB = wr.alloc (.cells #[.int .i64 kd, .int .u8 k, .string on, .string od, .int .i64 onn] 43) := ⟨_, rfl⟩
      have hPB := hP.box #[.int .i64 kd, .int .u8 k, .string on, .string od, .int .i64 onn] 43
      rw [← hB] at hPB
      have b0 : wB.cell? ⟨wr.heap.size, 0, none⟩ = some (.int .i64 kd) := hPB.cell 0
      have b1 : wB.cell? ⟨wr.heap.size, 1, none⟩ = some (.int .u8 k) := hPB.cell 1
      have b4 : wB.cell? ⟨wr.heap.size, 4, none⟩ = some (.int .i64 onn) := hPB.cell 4
      have hpk := pickI_lt (x := onn) (n := 4) (by decide)
      have HW := Lib.hid (⟨hPB, hKp⟩ : _ ∧ _)
      clear hP hPB hKp hbw ho
      go_wp2_with fail
      rw [← hB]
      clear hB
      generalize wr.heap.size = bx at *
      obtain ⟨pk1, pk2⟩ := hpk
      have pk3 : pickI onn 4 ≤ pickI onn 4 + 1 := by omega
      have pk4 : pickI onn 4 + 1 ≤ 4 := by omega
      go_quiet ((go_at_call 20; exact Calls.quiet_of_same (Pick _ 4 _ (by decide) (by decide))))
      have hnm := one_letter (pickI onn 4).toNat (pickI onn 4 + 1).toNat
      generalize (⟨#[97, 98, 99, 100]⟩ : ByteArray).extract (pickI onn 4).toNat (pickI onn 4 + 1).toNat = nm at *
      have hPC := HW.out.1.drewN nq
      have hKp := HW.out.2
      have b0 : (wB.drewN nq).cell? ⟨bx, 0, none⟩ = some (.int .i64 kd) := hPC.cell 0
      have b1 : (wB.drewN nq).cell? ⟨bx, 1, none⟩ = some (.int .u8 k) := hPC.cell 1
      generalize wB.drewN nq = wC at *
      have hfew := hKp.few
      have hsl : st.streams.length ≤ 1000000 := by omega
      have htl : st.trace.length ≤ 800000 := by omega
      have htr6 : st.trace.length ≤ 1000000 := by omega
      have hmd6 : st.made ≤ 1000000 := by omega
      by_cases hkd : kd.tmod 3 = 0
      · obtain ⟨k1, k2, k3, k4⟩ := close_kept hKp nm 5
        have HC := Lib.hid (⟨hPC, k1, k2, k3⟩ : _ ∧ _ ∧ _ ∧ _)
        clear hPC k1 k2 k3
        rcases k4 with ⟨k5, k6⟩ | ⟨k5, k6⟩
        · have HF := Lib.hid (⟨k5, k6⟩ : _ ∧ _)
          have k7 : ¬ (st.streams.length : Int) < (st.streams.length : Int) := by omega
          clear k5 k6
          go_wp2_with (first
            | (go_at_call 11; have HH4 := H4.out; refine HH4.streams.mono ?_; rintro e w' ⟨rfl, hw⟩; obtain rfl := hw.symm; clear hw HH4; rw [HF.out.2])
            | (go_at_call 23; refine (HC.out.1.call fun _ _ _ _ _ _ _ _ q => close_ q hnm hsl (Nat.le_trans htl (by decide))).mono ?_; rintro e w4 ⟨rfl, hP4⟩; rw [HF.out.1]; have H4 := Lib.hid hP4; clear hP4)
            | (go_at_call 11; refine HC.out.1.streams.mono ?_; rintro e w' ⟨rfl, hw⟩; obtain rfl := hw.symm; clear hw))
          go_roundg (X.length - (j + 1))
          case measure => omega
          case rel =>
            obtain ⟨_, q1, q2, q3⟩ := HC.out
            have q2' : (closeTo nm 5 (st, 0, false)).1.trace.length ≤ st.trace.length + 5 := q2
            have q3' : (closeTo nm 5 (st, 0, false)).1.made = st.made := q3
            exact ⟨j + 1, _, rfl, hlt, hlt6, by go_num, H4.out.play, q1, by omega, by omega⟩
        · have HF := Lib.hid (⟨k5, k6⟩ : _ ∧ _)
          have k7 : (((closeTo nm 5 (st, 0, false)).1.streams.length : Nat) : Int) < (st.streams.length : Int) := by omega
          clear k5 k6
          go_wp2_with (first
            | (go_at_call 11; have HH4 := H4.out; refine HH4.streams.mono ?_; rintro e w' ⟨rfl, hw⟩; obtain rfl := hw.symm; clear hw HH4)
            | (go_at_call 23; refine (HC.out.1.call fun _ _ _ _ _ _ _ _ q => close_ q hnm hsl (Nat.le_trans htl (by decide))).mono ?_; rintro e w4 ⟨rfl, hP4⟩; rw [HF.out.1]; have H4 := Lib.hid hP4; clear hP4)
            | (go_at_call 11; refine HC.out.1.streams.mono ?_; rintro e w' ⟨rfl, hw⟩; obtain rfl := hw.symm; clear hw))
          go_roundg (X.length - (j + 1))
          case measure => omega
          case rel =>
            obtain ⟨_, q1, q2, q3⟩ := HC.out
            have q2' : (closeTo nm 5 (st, 0, false)).1.trace.length ≤ st.trace.length + 5 := q2
            have q3' : (closeTo nm 5 (st, 0, false)).1.made = st.made := q3
            exact ⟨j + 1, _, rfl, hlt, hlt6, by go_num, H4.out.play, q1, by omega, by omega⟩
      · obtain ⟨kp2, tr2, md2⟩ := open_kept hKp k nm
        obtain ⟨t1, t2⟩ := open_tells hKp k nm
        have hf2 := kp2.few
        have hf3 : ¬ lim < (((openS st k nm).streams.length : Nat) : Int) := by omega
        have h2l : (openS st k nm).streams.length ≤ 1000000 := by omega
        have HC := Lib.hid (⟨hPC, kp2, tr2, md2, t1, t2⟩ : _ ∧ _ ∧ _ ∧ _ ∧ _ ∧ _)
        have b1L := fun x : Later wC => x.cell b1
        clear hPC kp2 t1 t2
        go_wp2_with fail
        refine wp_region_later (by kernel_rfl) (by kernel_rfl) ?_
        repeat (with_reducible refine wpQuiet_step ?_; intro K hK; go_simp; first | (refine hK _ ?_; clear hK K) | (apply Exists.intro; refine ⟨fun q => ?_, hK _ ?_⟩; (first | (go_at_call 11; exact later_same ((HC.out.1.below q.h).streams)) | (go_at_call 14; exact later_call ((HC.out.1.below q.h).isOpen _ _ hsl))); clear hK K))
        refine wpQuiet_nil ?_
        rintro wQ ⟨q, rfl⟩
        have hPQ := HC.out.1.below q.h
        clear b1L
        generalize q.w = wQ at *
        have b1Q : wQ.cell? ⟨bx, 1, none⟩ = some (.int .u8 k) := hPQ.cell 1
        have HQ := Lib.hid hPQ
        clear hPQ hlt' hlt6' d0 d1 d2 d3 d4 b0 b1 pk1 pk2 pk3 pk4 b4
        obtain ⟨_, _, _, _, t1, t2⟩ := HC.out
        generalize hob : openB k nm st.streams = ob at *
        by_cases h6 : k = 6
        · subst h6
          have hE : openE st 6 nm = 2 := by unfold openE; rw [if_pos (by decide)]
          have hz6 : decide (openE st 6 nm = 0) = false := decide_eq_false (by rw [hE]; decide)
          rw [hz6] at t2
          clear hz6
          have hq : ((((openS st 6 nm).streams.length : Nat) : Int) == (st.streams.length : Int) + 1) = false := len_ne t2
          have HE := Lib.hid hE
          clear t1 t2 hE hob
          go_wp2_with (first
            | (go_at_call 14; have HH4 := H4.out; refine (HH4.read fun _ _ _ _ _ _ _ _ q => Wo.isOpen q 6 nm h2l).mono ?_; rintro e w5 ⟨rfl, hP5⟩; rw [HT.out]; have HI := Lib.hid hP5; clear hP5 HH4)
            | (go_at_call 11; have HH4 := HI.out; refine HH4.streams.mono ?_; rintro e w' ⟨rfl, hw⟩; obtain rfl := hw.symm; clear hw HH4)
            | (go_at_call 11; have HH4 := H4.out; refine HH4.streams.mono ?_; rintro e w' ⟨rfl, hw⟩; obtain rfl := hw.symm; clear hw HH4)
            | (go_at_call 24; refine (HQ.out.call fun _ _ _ _ _ _ _ _ q => open_ q hok hnm hmd6 hsl htr6).mono ?_; rintro e w4 ⟨rfl, hP4⟩; rw [HE.out]; have b14 : w4.cell? ⟨bx, 1, none⟩ = some (.int .u8 6) := hP4.cell 1; have H4 := Lib.hid hP4; clear hP4))
          go_roundg (X.length - (j + 1))
          case measure => omega
          case rel =>
            obtain ⟨_, q1, q2, q3, _⟩ := HC.out
            exact ⟨j + 1, _, rfl, hlt, hlt6, by go_num, by first | exact HI.out.play | exact H4.out.play, q1, by omega, by omega⟩
        · have hx6 : (k == 6) = false := beq_eq_false_iff_ne.2 h6
          have t3 := t1 h6
          by_cases hE : openE st k nm = 0
          · rw [decide_eq_true hE] at t2 t3
            have HE := Lib.hid hE
            have HT := Lib.hid t3
            cases ob
            · have hq : ((((openS st k nm).streams.length : Nat) : Int) == (st.streams.length : Int) + 1) = true := len_eq t2
              clear t1 t2 t3 hE hob
              go_wp2_with (first
                | (go_at_call 14; have HH4 := H4.out; refine (HH4.read fun _ _ _ _ _ _ _ _ q => Wo.isOpen q k nm h2l).mono ?_; rintro e w5 ⟨rfl, hP5⟩; rw [HT.out]; have HI := Lib.hid hP5; clear hP5 HH4)
                | (go_at_call 11; have HH4 := HI.out; refine HH4.streams.mono ?_; rintro e w' ⟨rfl, hw⟩; obtain rfl := hw.symm; clear hw HH4)
                | (go_at_call 11; have HH4 := H4.out; refine HH4.streams.mono ?_; rintro e w' ⟨rfl, hw⟩; obtain rfl := hw.symm; clear hw HH4)
                | (go_at_call 24; refine (HQ.out.call fun _ _ _ _ _ _ _ _ q => open_ q hok hnm hmd6 hsl htr6).mono ?_; rintro e w4 ⟨rfl, hP4⟩; rw [HE.out]; have b14 : w4.cell? ⟨bx, 1, none⟩ = some (.int .u8 k) := hP4.cell 1; have H4 := Lib.hid hP4; clear hP4))
              go_roundg (X.length - (j + 1))
              case measure => omega
              case rel =>
                obtain ⟨_, q1, q2, q3, _⟩ := HC.out
                exact ⟨j + 1, _, rfl, hlt, hlt6, by go_num, by first | exact HI.out.play | exact H4.out.play, q1, by omega, by omega⟩
            · have hq : ((((openS st k nm).streams.length : Nat) : Int) == (st.streams.length : Int) + 1) = false := len_ne t2
              clear t1 t2 t3 hE hob
              go_wp2_with (first
                | (go_at_call 14; have HH4 := H4.out; refine (HH4.read fun _ _ _ _ _ _ _ _ q => Wo.isOpen q k nm h2l).mono ?_; rintro e w5 ⟨rfl, hP5⟩; rw [HT.out]; have HI := Lib.hid hP5; clear hP5 HH4)
                | (go_at_call 11; have HH4 := HI.out; refine HH4.streams.mono ?_; rintro e w' ⟨rfl, hw⟩; obtain rfl := hw.symm; clear hw HH4)
                | (go_at_call 11; have HH4 := H4.out; refine HH4.streams.mono ?_; rintro e w' ⟨rfl, hw⟩; obtain rfl := hw.symm; clear hw HH4)
                | (go_at_call 24; refine (HQ.out.call fun _ _ _ _ _ _ _ _ q => open_ q hok hnm hmd6 hsl htr6).mono ?_; rintro e w4 ⟨rfl, hP4⟩; rw [HE.out]; have b14 : w4.cell? ⟨bx, 1, none⟩ = some (.int .u8 k) := hP4.cell 1; have H4 := Lib.hid hP4; clear hP4))
              go_roundg (X.length - (j + 1))
              case measure => omega
              case rel =>
                obtain ⟨_, q1, q2, q3, _⟩ := HC.out
                exact ⟨j + 1, _, rfl, hlt, hlt6, by go_num, by first | exact HI.out.play | exact H4.out.play, q1, by omega, by omega⟩
          · rw [decide_eq_false hE] at t2 t3
            have HT := Lib.hid t3
            have hq : ((((openS st k nm).streams.length : Nat) : Int) == (st.streams.length : Int) + 1) = false := len_ne t2
            obtain ⟨eE, hEe⟩ : ∃ e, openE st k nm = e := ⟨_, rfl⟩
            rw [hEe] at hE
            have HE := Lib.hid hEe
            have hE2 : (eE == 0) = false := beq_eq_false_iff_ne.2 hE
            clear t1 t2 t3 hEe hob
            go_wp2_with (first
              | (go_at_call 14; have HH4 := H4.out; refine (HH4.read fun _ _ _ _ _ _ _ _ q => Wo.isOpen q k nm h2l).mono ?_; rintro e w5 ⟨rfl, hP5⟩; rw [HT.out]; have HI := Lib.hid hP5; clear hP5 HH4)
              | (go_at_call 11; have HH4 := HI.out; refine HH4.streams.mono ?_; rintro e w' ⟨rfl, hw⟩; obtain rfl := hw.symm; clear hw HH4)
              | (go_at_call 11; have HH4 := H4.out; refine HH4.streams.mono ?_; rintro e w' ⟨rfl, hw⟩; obtain rfl := hw.symm; clear hw HH4)
              | (go_at_call 24; refine (HQ.out.call fun _ _ _ _ _ _ _ _ q => open_ q hok hnm hmd6 hsl htr6).mono ?_; rintro e w4 ⟨rfl, hP4⟩; rw [HE.out]; have b14 : w4.cell? ⟨bx, 1, none⟩ = some (.int .u8 k) := hP4.cell 1; have H4 := Lib.hid hP4; clear hP4))
            go_roundg (X.length - (j + 1))
            case measure => omega
            case rel =>
              obtain ⟨_, q1, q2, q3, _⟩ := HC.out
              exact ⟨j + 1, _, rfl, hlt, hlt6, by go_num, by first | exact HI.out.play | exact H4.out.play, q1, by omega, by omega⟩
    · have hfew := hKp.few
      have HW := Lib.hid (⟨hP, hKp⟩ : _ ∧ _)
      clear hP hKp
      have hgeA : j < X.length → ¬ (j : Int) < 60 := by omega
      by_cases hjX : j < X.length
      all_goals
        first
        | (have hlt1 : (j : Int) < (X.length : Int) := by omega
           have hge : ¬ (j : Int) < 60 := by omega)
        | (have hge : ¬ (j : Int) < (X.length : Int) := by omega)
        clear hgeA hjX
        go_wp2_with (first
          | (go_at_call 25; refine (HW.out.1.closeAll (by omega) (by omega)).mono ?_; rintro e w4 ⟨rfl, jj, hjj, hP4, hn4⟩; have H4 := Lib.hid (⟨hP4, hn4⟩ : _ ∧ _); clear hP4 hn4)
          | (go_at_call 13; have htl := allTo_len st jj; refine (H4.out.1.trace (by omega)).mono ?_; rintro e w5 ⟨v, rfl, hr5, hP5⟩; obtain ⟨oe, ce, rfl, _⟩ := slice_of hr5; have H5 := Lib.hid (⟨hr5, hP5, H4.out.2⟩ : _ ∧ _ ∧ _); clear hr5 hP5))
        go_loopg [16, 17, 123] (allTo jj st).trace.length (fun q a b i w9 => ∃ m, (allTo jj st).trace.length - m = q ∧ m ≤ (allTo jj st).trace.length ∧ i = .int .i64 (m : Int) ∧ a = .int .i64 (cnt 1 ((allTo jj st).trace.take m) : Nat) ∧ b = .int .i64 (cnt 3 ((allTo jj st).trace.take m) : Nat) ∧ Below w5.heap.size w5 w9)
        case atStart => exact ⟨0, rfl, Nat.zero_le _, rfl, rfl, rfl, Below.refl _ _⟩
        case round =>
          obtain ⟨m, hq, hm, rfl, rfl, rfl, hb9⟩ := hrel
          have hkept := all_kept HW.out.2 jj
          have htl := allTo_len st jj
          have hz0 := H4.out.2
          generalize allTo jj st = s3 at *
          by_cases hlt : m < s3.trace.length
          · have hlt' : (m : Int) < (s3.trace.length : Int) := by omega
            obtain ⟨ev, hev⟩ : ∃ ev, s3.trace[m]? = some ev := ⟨_, List.getElem?_eq_getElem hlt⟩
            obtain ⟨g, rfl, d0, d1, d2, d3, d4⟩ := events_at H5.out.1 hev
            have d0 := (hb9.cell (World.block_lt_of_cell? w5 _ d0)).trans d0
            have d1 := (hb9.cell (World.block_lt_of_cell? w5 _ d1)).trans d1
            have d2 := (hb9.cell (World.block_lt_of_cell? w5 _ d2)).trans d2
            have d3 := (hb9.cell (World.block_lt_of_cell? w5 _ d3)).trans d3
            have d4 := (hb9.cell (World.block_lt_of_cell? w5 _ d4)).trans d4
            have htk : s3.trace.take (m + 1) = s3.trace.take m ++ [ev] := by rw [List.take_add_one, hev]; rfl
            have c1 : cnt 1 (s3.trace.take (m + 1)) = cnt 1 (s3.trace.take m) + if ev.kind = 1 then 1 else 0 := by rw [htk]; exact cnt_snoc _ _ _
            have c3 : cnt 3 (s3.trace.take (m + 1)) = cnt 3 (s3.trace.take m) + if ev.kind = 3 then 1 else 0 := by rw [htk]; exact cnt_snoc _ _ _
            have l1 : cnt 1 (s3.trace.take m) ≤ m := Nat.le_trans List.countP_le_length (by rw [List.length_take]; omega)
            have l3 : cnt 3 (s3.trace.take m) ≤ m := Nat.le_trans List.countP_le_length (by rw [List.length_take]; omega)
            have hbox := hb9.trans (((Below.refl _ wr).alloc (Nat.le_refl _) (.cells #[.int .u8 ev.kind, .int .u8 ev.stream, .string ev.name, .string ev.data, .int .i64 ev.status] 67)).mono hb9.size)
            have HE := Lib.hid (⟨c1, c3, hbox⟩ : _ ∧ _ ∧ _)
            clear c1 c3 hbox htk hev
            generalize cnt 1 (s3.trace.take m) = n1 at *
            generalize cnt 3 (s3.trace.take m) = n3 at *
            by_cases hk1 : ev.kind = 1
            · go_wp2_with fail
              go_roundg (s3.trace.length - (m + 1))
              case measure => omega
              case rel =>
                obtain ⟨c1, c3, hbx⟩ := HE.out
                refine ⟨m + 1, rfl, hlt, by go_num, ?_, ?_, ?_⟩
                · rw [c1, if_pos hk1]; go_num
                · rw [c3, if_neg (by omega)]; rfl
                · rw [hk1] at hbx; exact hbx
            · by_cases hk3 : ev.kind = 3
              · go_wp2_with fail
                go_roundg (s3.trace.length - (m + 1))
                case measure => omega
                case rel =>
                  obtain ⟨c1, c3, hbx⟩ := HE.out
                  refine ⟨m + 1, rfl, hlt, by go_num, ?_, ?_, ?_⟩
                  · rw [c1, if_neg hk1]; rfl
                  · rw [c3, if_pos hk3]; go_num
                  · rw [hk3] at hbx; exact hbx
              · go_wp2_with fail
                go_roundg (s3.trace.length - (m + 1))
                case measure => omega
                case rel =>
                  obtain ⟨c1, c3, hbx⟩ := HE.out
                  refine ⟨m + 1, rfl, hlt, by go_num, ?_, ?_, ?_⟩
                  · rw [c1, if_neg hk1]; rfl
                  · rw [c3, if_neg hk3]; rfl
                  · exact hbx
          · obtain rfl : m = s3.trace.length := by omega
            have hge2 : ¬ (s3.trace.length : Int) < (s3.trace.length : Int) := by omega
            have hev2 := hkept.even
            rw [hz0, List.length_nil, Nat.add_zero] at hev2
            rw [List.take_length, ← hev2]
            have hP9 := H5.out.2.1.below hb9
            have HZ := Lib.hid (⟨hP9, hz0⟩ : _ ∧ _)
            clear hP9 hz0 hev2
            go_wp2_with (first
              | (go_at_call 7; refine (HA.out _ (Nat.le_trans hK HZ.out.1.b.size)).mono ?_; rintro e w' ⟨rfl, hbZ⟩)
              | (go_at_call 11; refine HZ.out.1.streams.mono ?_; rintro e w' ⟨rfl, hw⟩; obtain rfl := hw.symm; clear hw; rw [HZ.out.2]))
            go_ret
            exact ⟨rfl, HZ.out.1.b.trans (hbZ.mono HZ.out.1.b.size)⟩
end Go.Proofs.Ytkgoglcmoehbkaa.Wo
