/-
  The document's world (winnowerref07): what it is, plain, and how it lies in memory.
-/
import Derived.Test.YthbkcdbmimhhkaaWoS
import Derived.Test.YthbkcdbmimhhkaaRgA
import Derived.Deep.CutRange
namespace Go.Proofs.Ythbkcdbmimhhkaa.Rw
open Go.RowKit Go.Maps Wo

structure RStrm where
  kind : Int
  name : ByteArray
  source : ByteArray
  taken : Nat
structure RSt where
  files : List FileD
  taken : Nat
  opn : List RStrm
  number : Int
  events : List Ev
structure Scpt where
  files : List FileD
  stdin : ByteArray
  reps : List RepD
  fails : List FailD
  most : Int
  clk : Int
  chance : Int
  base : Nat
  ok : Nat → Prop
  up : ∀ b, base ≤ b → ok b

def cellsF (p : FileD) : List Value := [.string p.1, .string p.2]
def RStrm.cells (s : RStrm) : List Value := [.int .u8 s.kind, .string s.name, .string s.source, .int .i64 (s.taken : Int)]
def flatL {α : Type} (f : α → List Value) (l : List α) : List Value := (l.map f).flatten
section
variable {α : Type} {f : α → List Value} {k : Nat}
theorem flatL_snoc (l : List α) (a : α) : flatL f (l ++ [a]) = flatL f l ++ f a := by simp [flatL]
theorem flatL_append (l r : List α) : flatL f (l ++ r) = flatL f l ++ flatL f r := by simp [flatL]
theorem flatL_length (hf : ∀ a, (f a).length = k) : ∀ l : List α, (flatL f l).length = l.length * k
  | [] => by simp [flatL]
  | a :: l => by
    have := flatL_length hf l
    unfold flatL at this ⊢
    rw [List.map_cons, List.flatten_cons, List.length_append, this, hf, List.length_cons, Nat.succ_mul, Nat.add_comm]
theorem flatL_get (hf : ∀ a, (f a).length = k) : ∀ (l : List α) (i : Nat) (a : α), l[i]? = some a → ∀ j, j < k → (flatL f l)[i * k + j]? = (f a)[j]?
  | x :: l, 0, a, h, j, hj => by
    simp at h; subst h
    show ((f x ++ flatL f l))[0 * k + j]? = _
    rw [Nat.zero_mul, Nat.zero_add, List.getElem?_append_left (by rw [hf]; exact hj)]
  | x :: l, i + 1, a, h, j, hj => by
    have ih := flatL_get hf l i a (by simpa using h) j hj
    have ee : (i + 1) * k + j = (f x).length + (i * k + j) := by rw [hf, Nat.succ_mul]; omega
    show ((f x ++ flatL f l))[(i + 1) * k + j]? = _
    rw [ee, List.getElem?_append_right (Nat.le_add_right _ _), Nat.add_sub_cancel_left]
    exact ih
theorem flatL_one (h1 : ∀ a, ∀ u ∈ f a, u.oneCell' = true) (l : List α) : ∀ u ∈ flatL f l, u.oneCell' = true := by
  intro u hu
  unfold flatL at hu
  obtain ⟨x, hx, hu⟩ := List.mem_flatten.1 hu
  obtain ⟨a, _, rfl⟩ := List.mem_map.1 hx
  exact h1 a u hu
/- A list in memory, owned. -/
abbrev Own (w : World) (B : Nat) (t : TypeId) (k : Nat) (f : α → List Value) (v : Value) (l : List α) : Prop := w.ownsRow B t k v l.length (flatL f l)
theorem Own.of_block {w w' : World} {B : Nat} {t : TypeId} {v : Value} {l : List α} (h : Own w B t k f v l) (hb : ∀ b, v.ownBlock = some b → w'.heap[b]? = w.heap[b]?) : Own w' B t k f v l := by
  have h2 := h
  rcases h.2 with ⟨h1, h0⟩ | ⟨g, oc, cur, h1, _⟩
  · exact ⟨h.1, .inl ⟨h1, h0⟩⟩
  · subst h1
    exact row_of_block h2 hb
theorem Own.below {w w' : World} {B : Nat} {t : TypeId} {v : Value} {l : List α} (h : Own w B t k f v l) (hb : Below w.heap.size w w') : Own w' B t k f v l :=
  h.of_block fun b hk => hb.block b (h.lt b hk).2
theorem Own.base {w : World} {B C : Nat} {t : TypeId} {v : Value} {l : List α} (h : Own w B t k f v l) (hc : C ≤ B) : Own w C t k f v l := by
  refine ⟨h.1, ?_⟩
  rcases h.2 with h1 | ⟨g, oc, cur, h1, h2, h3⟩
  · exact .inl h1
  · exact .inr ⟨g, oc, cur, h1, Nat.le_trans hc h2, h3⟩
theorem Own.shape {w : World} {B : Nat} {t : TypeId} {v : Value} {l : List α} (h : Own w B t k f v l) : ∃ oa oc, v = .slice oa l.length oc ∧ (oa = none → oc = 0) ∧ ∀ b, oa = some b → b.off = 0 ∧ b.spot = none := by
  rcases h.2 with ⟨h1, h2⟩ | ⟨g, oc, cur, h1, _⟩
  · exact ⟨none, 0, by rw [h1, h2], fun _ => rfl, fun b h => by cases h⟩
  · exact ⟨_, _, h1, (fun h => by cases h), fun b h => by cases h; exact ⟨rfl, rfl⟩⟩
theorem Own.setOther {w : World} {B : Nat} {t : TypeId} {v : Value} {l : List α} (h : Own w B t k f v l) {b : Nat} (hb : v.ownBlock ≠ some b) (i : Nat) (u : Value) : Own (w.setCell ⟨b, i, none⟩ u) B t k f v l :=
  h.of_block fun c hc => heap_set _ _ _ fun e => hb (by rw [hc, e])
theorem Own.nilCap {w : World} {B : Nat} {t : TypeId} {oa : Option Addr} {n c : Nat} {l : List α} (h : Own w B t k f (.slice oa n c) l) : oa = none → c = 0 := by
  intro e
  subst e
  rcases h.2 with ⟨h1, h2⟩ | ⟨g, oc, cur, h1, _⟩
  · simp only [Value.slice.injEq] at h1
    exact h1.2.2
  · cases h1
theorem Own.at (hf : ∀ a, (f a).length = k) {w : World} {B : Nat} {t : TypeId} {oa : Option Addr} {n c : Nat} {l : List α} (h : Own w B t k f (.slice oa n c) l) {i : Nat} {a : α} (hi : l[i]? = some a) :
    ∃ g, oa = some ⟨g, 0, none⟩ ∧ ∀ j, j < k → w.cell? ⟨g, i * k + j, none⟩ = (f a)[j]? := by
  have hlt := (List.getElem?_eq_some_iff.1 hi).1
  have h2 := h
  rcases h.2 with ⟨h1, h0⟩ | ⟨g, oc, cur, h1, _⟩
  · omega
  · simp only [Value.slice.injEq] at h1
    obtain ⟨rfl, rfl, rfl⟩ := h1
    refine ⟨g, rfl, fun j hj => ?_⟩
    have hik : i * k + j < l.length * k := Nat.lt_of_lt_of_le (Nat.add_lt_add_left hj _) (by rw [← Nat.succ_mul]; exact Nat.mul_le_mul_right k hlt)
    rw [h2.cellAt (i * k + j) hik, flatL_get hf l i a hi j hj]
end
theorem lenF (p : FileD) : (cellsF p).length = 2 := rfl
theorem lenS (s : RStrm) : s.cells.length = 4 := rfl
theorem lenE (e : Ev) : (Ev.cells e).length = 5 := rfl
theorem oneF (p : FileD) : ∀ u ∈ cellsF p, u.oneCell' = true := by
  intro u hu
  simp only [cellsF, List.mem_cons, List.not_mem_nil, or_false] at hu
  rcases hu with rfl | rfl <;> rfl
theorem oneS (s : RStrm) : ∀ u ∈ s.cells, u.oneCell' = true := by
  intro u hu
  simp only [RStrm.cells, List.mem_cons, List.not_mem_nil, or_false] at hu
  rcases hu with rfl | rfl | rfl | rfl <;> rfl
theorem flat_ev (l : List Ev) : flatE l = flatL Ev.cells l := rfl
abbrev OwnF (w : World) (B : Nat) (v : Value) (l : List FileD) : Prop := Own w B 54 2 cellsF v l
abbrev OwnS (w : World) (B : Nat) (v : Value) (l : List RStrm) : Prop := Own w B 109 4 RStrm.cells v l
abbrev OwnE (w : World) (B : Nat) (v : Value) (l : List Ev) : Prop := Own w B 67 5 Ev.cells v l

/- The shape of a world's value. -/
structure Shp where
  oa : Option Addr
  ca : Nat
  oR : Option Addr
  cR : Nat
  oX : Option Addr
  cX : Nat
  oF : Option Addr
  cF : Nat
  oO : Option Addr
  cO : Nat
  oE : Option Addr
  cE : Nat
abbrev Shp.cells (s : Shp) (S : Scpt) (r : RSt) : Array Value := #[.slice s.oa S.files.length s.ca, .string S.stdin, .slice s.oR S.reps.length s.cR, .slice s.oX S.fails.length s.cX, .int .i64 S.most, .int .i64 S.clk, .int .u64 S.chance, .slice s.oF r.files.length s.cF, .int .i64 (r.taken : Int), .slice s.oO r.opn.length s.cO, .int .u64 r.number, .slice s.oE r.events.length s.cE]
/- The script's part of it. -/
def Shp.scr (s : Shp) := (s.oa, s.ca, s.oR, s.cR, s.oX, s.cX)
/- Where its lists may lie. -/
structure Gh (w : World) (S : Scpt) (s : Shp) : Prop where
  bs : S.base ≤ w.heap.size
  f : ∀ a, s.oF = some a → S.ok a.block
  o : ∀ a, s.oO = some a → S.ok a.block
  e : ∀ a, s.oE = some a → S.ok a.block
theorem Gh.grow {w w' : World} {S : Scpt} {s : Shp} (h : Gh w S s) (hz : w.heap.size ≤ w'.heap.size) : Gh w' S s := ⟨Nat.le_trans h.bs hz, h.f, h.o, h.e⟩
theorem Gh.setF {w : World} {S : Scpt} {s : Shp} (h : Gh w S s) {oa : Option Addr} (ha : ∀ a, oa = some a → S.ok a.block) (c : Nat) : Gh w S { s with oF := oa, cF := c } := ⟨h.bs, ha, h.o, h.e⟩
theorem Gh.setO {w : World} {S : Scpt} {s : Shp} (h : Gh w S s) {oa : Option Addr} (ha : ∀ a, oa = some a → S.ok a.block) (c : Nat) : Gh w S { s with oO := oa, cO := c } := ⟨h.bs, h.f, ha, h.e⟩
theorem Own.okb {α : Type} {f : α → List Value} {k : Nat} {w : World} {B : Nat} {t : TypeId} {oa : Option Addr} {n c : Nat} {l : List α} {S : Scpt} (h : Own w B t k f (.slice oa n c) l) (hB : S.base ≤ B) : ∀ a, oa = some a → S.ok a.block := fun a e => by
  subst e
  exact S.up _ (Nat.le_trans hB (h.lt a.block rfl).1)
theorem rows_okb {w : World} {B : Nat} {t : TypeId} {k n c m : Nat} {oa : Option Addr} {xs : List Value} {S : Scpt} (h : w.ownsRow B t k (.slice oa n c) m xs) (hB : S.base ≤ B) : ∀ a, oa = some a → S.ok a.block := fun a e => by
  subst e
  exact S.up _ (Nat.le_trans hB (h.lt a.block rfl).1)
structure RefAt (w : World) (S : Scpt) (r : RSt) (s : Shp) : Prop where
  rr : Row3 w s.oR S.reps
  rx : RowF w s.oX S.fails
  rf : OwnF w 0 (.slice s.oF r.files.length s.cF) r.files
  ro : OwnS w 0 (.slice s.oO r.opn.length s.cO) r.opn
  re : OwnE w 0 (.slice s.oE r.events.length s.cE) r.events
  gh : Gh w S s
theorem RefAt.below {w w' : World} {S : Scpt} {r : RSt} {s : Shp} (h : RefAt w S r s) (hb : Below w.heap.size w w') : RefAt w' S r s :=
  ⟨h.rr.below hb, h.rx.below hb, h.rf.below hb, h.ro.below hb, h.re.below hb, h.gh.grow hb.size⟩
/- Sizes. -/
structure Few (S : Scpt) (r : RSt) : Prop where
  reps : S.reps.length ≤ 100000
  fails : S.fails.length ≤ 100000
  files : r.files.length ≤ 100000
  opn : r.opn.length ≤ 100000
  events : r.events.length ≤ 100000
/- A world's value in a block of its own. -/
structure RBox (w : World) (b : Nat) (S : Scpt) (r : RSt) (s : Shp) : Prop where
  c0 : w.cell? ⟨b, 0, none⟩ = some (.slice s.oa S.files.length s.ca)
  c1 : w.cell? ⟨b, 1, none⟩ = some (.string S.stdin)
  c2 : w.cell? ⟨b, 2, none⟩ = some (.slice s.oR S.reps.length s.cR)
  c3 : w.cell? ⟨b, 3, none⟩ = some (.slice s.oX S.fails.length s.cX)
  c4 : w.cell? ⟨b, 4, none⟩ = some (.int .i64 S.most)
  c5 : w.cell? ⟨b, 5, none⟩ = some (.int .i64 S.clk)
  c6 : w.cell? ⟨b, 6, none⟩ = some (.int .u64 S.chance)
  c7 : w.cell? ⟨b, 7, none⟩ = some (.slice s.oF r.files.length s.cF)
  c8 : w.cell? ⟨b, 8, none⟩ = some (.int .i64 (r.taken : Int))
  c9 : w.cell? ⟨b, 9, none⟩ = some (.slice s.oO r.opn.length s.cO)
  c10 : w.cell? ⟨b, 10, none⟩ = some (.int .u64 r.number)
  c11 : w.cell? ⟨b, 11, none⟩ = some (.slice s.oE r.events.length s.cE)
  z : ∀ i, w.frozen? ⟨b, i, none⟩ = false
  lt : b < w.heap.size
theorem rbox_of {w : World} {b : Nat} {S : Scpt} {r : RSt} {s : Shp} {t : TypeId} (h : w.heap[b]? = some (.cells (s.cells S r) t)) : RBox w b S r s := by
  refine ⟨?_, ?_, ?_, ?_, ?_, ?_, ?_, ?_, ?_, ?_, ?_, ?_, fun i => by simp [World.frozen?, h], (Array.getElem?_eq_some_iff.1 h).1⟩
  all_goals simp [World.cell?, h]
theorem RBox.later {w w' : World} {b : Nat} {S : Scpt} {r : RSt} {s : Shp} (h : RBox w b S r s) (hb : w'.heap[b]? = w.heap[b]?) : RBox w' b S r s := by
  have e : ∀ i, w'.cell? ⟨b, i, none⟩ = w.cell? ⟨b, i, none⟩ := fun i => World.cell?_of_block hb
  have e2 : ∀ i, w'.frozen? ⟨b, i, none⟩ = w.frozen? ⟨b, i, none⟩ := fun i => World.frozen?_of_block hb
  have hlt : b < w'.heap.size := by
    have := h.lt
    rcases Nat.lt_or_ge b w'.heap.size with h1 | h1
    · exact h1
    · rw [Array.getElem?_eq_none h1, Array.getElem?_eq_getElem this] at hb
      cases hb
  exact ⟨(e _).trans h.c0, (e _).trans h.c1, (e _).trans h.c2, (e _).trans h.c3, (e _).trans h.c4, (e _).trans h.c5, (e _).trans h.c6, (e _).trans h.c7, (e _).trans h.c8, (e _).trans h.c9, (e _).trans h.c10, (e _).trans h.c11, fun i => (e2 i).trans (h.z i), hlt⟩
theorem RBox.below {w w' : World} {b : Nat} {S : Scpt} {r : RSt} {s : Shp} (h : RBox w b S r s) (hb : Below w.heap.size w w') : RBox w' b S r s := h.later (hb.block b h.lt)

/- A world's value that is made and not written to yet. -/
abbrev S0 : Scpt := ⟨[], noText, [], [], 0, 0, 0, 0, fun _ => True, fun _ _ => trivial⟩
abbrev r0 : RSt := ⟨[], 0, [], 0, []⟩
abbrev s0 : Shp := ⟨none, 0, none, 0, none, 0, none, 0, none, 0, none, 0⟩
theorem below_set {w w' : World} {B b : Nat} (h : Below B w w') (hb : B ≤ b) (i : Nat) (v : Value) : Below B w (w'.setCell ⟨b, i, none⟩ v) :=
  ⟨h.os, h.tape, h.output, by rw [size_set]; exact h.size, fun k hk => (heap_set _ _ _ (fun e => by have e2 : k = b := e; omega)).trans (h.block k hk)⟩
/- Twelve cells stored. -/
def put12 (w : World) (b : Nat) (S : Scpt) (r : RSt) (s : Shp) : World := (((((((((((w.setCell ⟨b, 0, none⟩ (.slice s.oa S.files.length s.ca)).setCell ⟨b, 1, none⟩ (.string S.stdin)).setCell ⟨b, 2, none⟩ (.slice s.oR S.reps.length s.cR)).setCell ⟨b, 3, none⟩ (.slice s.oX S.fails.length s.cX)).setCell ⟨b, 4, none⟩ (.int .i64 S.most)).setCell ⟨b, 5, none⟩ (.int .i64 S.clk)).setCell ⟨b, 6, none⟩ (.int .u64 S.chance)).setCell ⟨b, 7, none⟩ (.slice s.oF r.files.length s.cF)).setCell ⟨b, 8, none⟩ (.int .i64 (r.taken : Int))).setCell ⟨b, 9, none⟩ (.slice s.oO r.opn.length s.cO)).setCell ⟨b, 10, none⟩ (.int .u64 r.number)).setCell ⟨b, 11, none⟩ (.slice s.oE r.events.length s.cE)
theorem put12_def (w : World) (b : Nat) (S : Scpt) (r : RSt) (s : Shp) : (((((((((((w.setCell ⟨b, 0, none⟩ (.slice s.oa S.files.length s.ca)).setCell ⟨b, 1, none⟩ (.string S.stdin)).setCell ⟨b, 2, none⟩ (.slice s.oR S.reps.length s.cR)).setCell ⟨b, 3, none⟩ (.slice s.oX S.fails.length s.cX)).setCell ⟨b, 4, none⟩ (.int .i64 S.most)).setCell ⟨b, 5, none⟩ (.int .i64 S.clk)).setCell ⟨b, 6, none⟩ (.int .u64 S.chance)).setCell ⟨b, 7, none⟩ (.slice s.oF r.files.length s.cF)).setCell ⟨b, 8, none⟩ (.int .i64 (r.taken : Int))).setCell ⟨b, 9, none⟩ (.slice s.oO r.opn.length s.cO)).setCell ⟨b, 10, none⟩ (.int .u64 r.number)).setCell ⟨b, 11, none⟩ (.slice s.oE r.events.length s.cE) = put12 w b S r s := rfl
theorem put12_below {w w' : World} {B b : Nat} (h : Below B w w') (hb : B ≤ b) (S : Scpt) (r : RSt) (s : Shp) : Below B w (put12 w' b S r s) :=
  below_set (below_set (below_set (below_set (below_set (below_set (below_set (below_set (below_set (below_set (below_set (below_set h hb _ _) hb _ _) hb _ _) hb _ _) hb _ _) hb _ _) hb _ _) hb _ _) hb _ _) hb _ _) hb _ _) hb _ _
theorem put12_size (w : World) (b : Nat) (S : Scpt) (r : RSt) (s : Shp) : (put12 w b S r s).heap.size = w.heap.size := by
  unfold put12
  simp only [size_set]
theorem put12_heap (w : World) (b : Nat) (S : Scpt) (r : RSt) (s : Shp) {k : Nat} (hk : k ≠ b) : (put12 w b S r s).heap[k]? = w.heap[k]? := by
  unfold put12
  exact (heap_set _ _ _ hk).trans ((heap_set _ _ _ hk).trans ((heap_set _ _ _ hk).trans ((heap_set _ _ _ hk).trans ((heap_set _ _ _ hk).trans ((heap_set _ _ _ hk).trans ((heap_set _ _ _ hk).trans ((heap_set _ _ _ hk).trans ((heap_set _ _ _ hk).trans ((heap_set _ _ _ hk).trans ((heap_set _ _ _ hk).trans (heap_set _ _ _ hk)))))))))))
theorem put12_blk {w : World} {b : Nat} {cs : Array Value} {t : TypeId} (h : w.heap[b]? = some (.cells cs t)) (hc : cs.size = 12) (S : Scpt) (r : RSt) (s : Shp) : (put12 w b S r s).heap[b]? = some (.cells (s.cells S r) t) := by
  unfold put12
  rw [blk_set (blk_set (blk_set (blk_set (blk_set (blk_set (blk_set (blk_set (blk_set (blk_set (blk_set (blk_set h _ _) _ _) _ _) _ _) _ _) _ _) _ _) _ _) _ _) _ _) _ _) _ _]
  obtain ⟨l⟩ := cs
  match l, hc with
  | [_, _, _, _, _, _, _, _, _, _, _, _], _ => simp [List.setIfInBounds_toArray, List.set_cons_succ, List.set_cons_zero]
/- What is found first in a list. -/
theorem find_at {α : Type} (p : α → Bool) : ∀ (l : List α) (j : Nat), (∀ i a, i < j → l[i]? = some a → p a = false) → (∀ a, l[j]? = some a → p a = true → l.find? p = some a) ∧ (l.length ≤ j → l.find? p = none)
  | [], j, h => ⟨fun a ha => by simp at ha, fun _ => rfl⟩
  | x :: l, 0, h => ⟨fun a ha hp => by simp at ha; subst ha; rw [List.find?_cons, hp], fun hl => by simp at hl⟩
  | x :: l, j + 1, h => by
    have h0 := h 0 x (by omega) rfl
    obtain ⟨i1, i2⟩ := find_at p l j fun i a hi ha => h (i + 1) a (by omega) (by simpa using ha)
    refine ⟨fun a ha hp => ?_, fun hl => ?_⟩
    · rw [List.find?_cons, h0]; exact i1 a (by simpa using ha) hp
    · rw [List.find?_cons, h0]; exact i2 (by simpa using hl)
def lookF (n : ByteArray) (l : List FileD) : Option FileD := l.find? fun p => decide (p.1 = n)
def lookR (n : ByteArray) (l : List RepD) : Option RepD := l.find? fun p => decide (p.cmd = n)
def lookX (op : Int) (n : ByteArray) (l : List FailD) : Option FailD := l.find? fun p => decide (p.op = op) && decide (p.name = n)
def RStrm.strm (s : RStrm) : Strm := ⟨s.kind, s.name, .none⟩
def rplace (k : Int) (n : ByteArray) (l : List RStrm) : Int := placeL k n (l.map RStrm.strm)
end Go.Proofs.Ythbkcdbmimhhkaa.Rw
