/-
  A small evaluator for closed calls, told by the kernel, and what it says of the machine: the part on values and memory.
-/
import Derived.WalkKit
import Derived.Below
import Derived.Deep.Quiet
import Derived.Laws.Cells
import Derived.Laws.CopyRow
import Derived.Laws.IdiomCopy
import Derived.Laws.Entries
namespace Go.Ev
open Go.RowKit

/- Where a block of the evaluator lies in the world. -/
structure Loc where
  blk : Nat
  off : Nat
  extra : Nat
  esz : Nat
  len : Nat

abbrev Mu := Nat → Option Loc
def Mu.le (μ ν : Mu) : Prop := ∀ a l, μ a = some l → ν a = some l
theorem Mu.le_refl (μ : Mu) : μ.le μ := fun _ _ h => h
theorem Mu.le_trans {a b c : Mu} (h : a.le b) (k : b.le c) : a.le c := fun _ _ x => k _ _ (h _ _ x)

def amap (l : Loc) (a : Addr) : Addr := ⟨l.blk, l.off + a.off, a.spot⟩

inductive R (μ : Mu) : Value → Value → Prop
  | bool (b : Bool) : R μ (.bool b) (.bool b)
  | int (k : IntKind) (n : Int) : R μ (.int k n) (.int k n)
  | float (k : FloatKind) (n : Nat) : R μ (.float k n) (.float k n)
  | complex (k : FloatKind) (a b : Nat) : R μ (.complex k a b) (.complex k a b)
  | string (s : ByteArray) : R μ (.string s) (.string s)
  | nilptr : R μ (.pointer none) (.pointer none)
  | ptr (a : Addr) (l : Loc) (h : μ a.block = some l) : R μ (.pointer (some a)) (.pointer (some (amap l a)))
  | nilslice (n c : Nat) : R μ (.slice none n c) (.slice none n c)
  | slice (a : Addr) (l : Loc) (n c : Nat) (h : μ a.block = some l) (hx : l.extra = 0 ∨ a.off + c * l.esz = l.len) : R μ (.slice (some a) n c) (.slice (some (amap l a)) n (c + l.extra))
  | nilmap : R μ (.map none) (.map none)
  | map (r : Nat) (l : Loc) (h : μ r = some l) : R μ (.map (some r)) (.map (some l.blk))
  | nilFunc : R μ .nilFunc .nilFunc
  | nilIface : R μ .nilIface .nilIface
  | func (fn : Fn) (a b a' b' : Array Value) (ha : a.size = a'.size) (hb : b.size = b'.size)
      (ra : ∀ (i : Nat) x y, a[i]? = some x → a'[i]? = some y → R μ x y) (rb : ∀ (i : Nat) x y, b[i]? = some x → b'[i]? = some y → R μ x y) : R μ (.func fn a b) (.func fn a' b')
  | iface (t : TypeId) (v v' : Value) (h : R μ v v') : R μ (.iface t v) (.iface t v')
  | agg (a a' : Array Value) (ha : a.size = a'.size) (ra : ∀ (i : Nat) x y, a[i]? = some x → a'[i]? = some y → R μ x y) : R μ (.agg a) (.agg a')
  | tuple (a a' : Array Value) (ha : a.size = a'.size) (ra : ∀ (i : Nat) x y, a[i]? = some x → a'[i]? = some y → R μ x y) : R μ (.tuple a) (.tuple a')

def RA (μ : Mu) (a a' : Array Value) : Prop := a.size = a'.size ∧ ∀ (i : Nat) x y, a[i]? = some x → a'[i]? = some y → R μ x y

theorem R.mono {μ ν : Mu} (hl : μ.le ν) {v v' : Value} (h : R μ v v') : R ν v v' := by
  induction h with
  | bool b => exact .bool b
  | int k n => exact .int k n
  | float k n => exact .float k n
  | complex k a b => exact .complex k a b
  | string s => exact .string s
  | nilptr => exact .nilptr
  | ptr a l h => exact .ptr a l (hl _ _ h)
  | nilslice n c => exact .nilslice n c
  | slice a l n c h hx => exact .slice a l n c (hl _ _ h) hx
  | nilmap => exact .nilmap
  | map r l h => exact .map r l (hl _ _ h)
  | nilFunc => exact .nilFunc
  | nilIface => exact .nilIface
  | func fn a b a' b' ha hb _ _ ia ib => exact .func fn a b a' b' ha hb ia ib
  | iface t v v' _ ih => exact .iface t v v' ih
  | agg a a' ha _ ia => exact .agg a a' ha ia
  | tuple a a' ha _ ia => exact .tuple a a' ha ia
theorem RA.mono {μ ν : Mu} (hl : μ.le ν) {a a' : Array Value} (h : RA μ a a') : RA ν a a' := ⟨h.1, fun i x y hx hy => (h.2 i x y hx hy).mono hl⟩

theorem arr_ext {a b : Array Value} (hs : a.size = b.size) (h : ∀ (i : Nat) x y, a[i]? = some x → b[i]? = some y → x = y) : a = b := by
  apply Array.ext hs
  intro i h1 h2
  exact h i _ _ (by simp [h1]) (by simp [h2])

/- One value of the evaluator is one value of the world. -/
theorem R.fn {μ : Mu} {v a b : Value} (h : R μ v a) (k : R μ v b) : a = b := by
  induction h generalizing b with
  | ptr x l h => cases k with | ptr _ m h' => rw [h] at h'; cases h'; rfl
  | slice x l n c h _ => cases k with | slice _ m _ _ h' => rw [h] at h'; cases h'; rfl
  | map r l h => cases k with | map _ m h' => rw [h] at h'; cases h'; rfl
  | func fn p q p' q' hp hq rp rq ip iq =>
    cases k with
    | func _ _ _ p'' q'' hp' hq' rp' rq' =>
      have e1 : p' = p'' := arr_ext (hp.symm.trans hp') fun i x y hx hy => by
        have hi : i < p.size := by
          have := (Array.getElem?_eq_some_iff.1 hx).1; omega
        exact ip i p[i] x (by simp [hi]) hx (rp' i p[i] y (by simp [hi]) hy)
      have e2 : q' = q'' := arr_ext (hq.symm.trans hq') fun i x y hx hy => by
        have hi : i < q.size := by
          have := (Array.getElem?_eq_some_iff.1 hx).1; omega
        exact iq i q[i] x (by simp [hi]) hx (rq' i q[i] y (by simp [hi]) hy)
      rw [e1, e2]
  | iface t v v' _ ih => cases k with | iface _ _ v'' h' => rw [ih h']
  | agg p p' hp rp ip =>
    cases k with
    | agg _ p'' hp' rp' =>
      have e1 : p' = p'' := arr_ext (hp.symm.trans hp') fun i x y hx hy => by
        have hi : i < p.size := by
          have := (Array.getElem?_eq_some_iff.1 hx).1; omega
        exact ip i p[i] x (by simp [hi]) hx (rp' i p[i] y (by simp [hi]) hy)
      rw [e1]
  | tuple p p' hp rp ip =>
    cases k with
    | tuple _ p'' hp' rp' =>
      have e1 : p' = p'' := arr_ext (hp.symm.trans hp') fun i x y hx hy => by
        have hi : i < p.size := by
          have := (Array.getElem?_eq_some_iff.1 hx).1; omega
        exact ip i p[i] x (by simp [hi]) hx (rp' i p[i] y (by simp [hi]) hy)
      rw [e1]
  | _ => cases k; rfl
theorem RA.fn {μ : Mu} {v a b : Array Value} (h : RA μ v a) (k : RA μ v b) : a = b :=
  arr_ext (h.1.symm.trans k.1) fun i x y hx hy => by
    have hi : i < v.size := by
      have := (Array.getElem?_eq_some_iff.1 hx).1; have := h.1; omega
    exact (h.2 i v[i] x (by simp [hi]) hx).fn (k.2 i v[i] y (by simp [hi]) hy)

mutual
def plainB : Value → Bool
  | .bool _ | .int _ _ | .float _ _ | .complex _ _ _ | .string _ | .nilFunc | .nilIface => true
  | .pointer a => a.isNone
  | .slice a _ _ => a.isNone
  | .map r => r.isNone
  | .chan _ => false
  | .func _ a b => plainA a && plainA b
  | .iface _ v => plainB v
  | .agg a => plainA a
  | .tuple a => plainA a
def plainA : Array Value → Bool
  | ⟨l⟩ => plainL l
def plainL : List Value → Bool
  | [] => true
  | v :: l => plainB v && plainL l
end

theorem plainL_get : ∀ {l : List Value} {i : Nat} {x : Value}, plainL l = true → l[i]? = some x → plainB x = true
  | v :: l, 0, x, h, hx => by simp [plainL] at h; simp at hx; exact hx ▸ h.1
  | v :: l, i + 1, x, h, hx => by simp [plainL] at h; simp at hx; exact plainL_get h.2 hx
theorem plainA_get {a : Array Value} {i : Nat} {x : Value} (h : plainA a = true) (hx : a[i]? = some x) : plainB x = true := by
  obtain ⟨l⟩ := a
  exact plainL_get (l := l) (by simpa [plainA] using h) (by simpa using hx)

theorem R.plain {μ : Mu} {v v' : Value} (h : R μ v v') : plainB v = true → v' = v := by
  induction h with
  | ptr a l h => intro hp; simp [plainB] at hp
  | slice a l n c h => intro hp; simp [plainB] at hp
  | map r l h => intro hp; simp [plainB] at hp
  | func fn a b a' b' ha hb ra rb ia ib =>
    intro hp
    simp only [plainB, Bool.and_eq_true] at hp
    have e1 : a' = a := arr_ext ha.symm fun i x y hx hy => ia i y x hy hx (plainA_get hp.1 hy)
    have e2 : b' = b := arr_ext hb.symm fun i x y hx hy => ib i y x hy hx (plainA_get hp.2 hy)
    rw [e1, e2]
  | iface t v v' _ ih => intro hp; simp only [plainB] at hp; rw [ih hp]
  | agg a a' ha ra ia =>
    intro hp
    simp only [plainB] at hp
    rw [arr_ext ha.symm fun i x y hx hy => ia i y x hy hx (plainA_get hp hy)]
  | tuple a a' ha ra ia =>
    intro hp
    simp only [plainB] at hp
    rw [arr_ext ha.symm fun i x y hx hy => ia i y x hy hx (plainA_get hp hy)]
  | _ => intro _; rfl

mutual
theorem plain_self (μ : Mu) : ∀ v, plainB v = true → R μ v v
  | .bool b, _ => .bool b
  | .int k n, _ => .int k n
  | .float k n, _ => .float k n
  | .complex k a b, _ => .complex k a b
  | .string s, _ => .string s
  | .nilFunc, _ => .nilFunc
  | .nilIface, _ => .nilIface
  | .pointer none, _ => .nilptr
  | .pointer (some _), h => by simp [plainB] at h
  | .slice none n c, _ => .nilslice n c
  | .slice (some _) _ _, h => by simp [plainB] at h
  | .map none, _ => .nilmap
  | .map (some _), h => by simp [plainB] at h
  | .chan _, h => by simp [plainB] at h
  | .func fn a b, h => by
    simp only [plainB, Bool.and_eq_true] at h
    exact .func fn a b a b rfl rfl (fun i x y hx hy => by rw [hx] at hy; cases hy; exact plainA_self μ a h.1 i x hx) (fun i x y hx hy => by rw [hx] at hy; cases hy; exact plainA_self μ b h.2 i x hx)
  | .iface t v, h => .iface t v v (plain_self μ v (by simpa [plainB] using h))
  | .agg a, h => .agg a a rfl fun i x y hx hy => by rw [hx] at hy; cases hy; exact plainA_self μ a (by simpa [plainB] using h) i x hx
  | .tuple a, h => .tuple a a rfl fun i x y hx hy => by rw [hx] at hy; cases hy; exact plainA_self μ a (by simpa [plainB] using h) i x hx
theorem plainA_self (μ : Mu) : ∀ (a : Array Value), plainA a = true → ∀ (i : Nat) x, a[i]? = some x → R μ x x
  | ⟨l⟩, h, i, x, hx => plainL_self μ l (by simpa [plainA] using h) i x (by simpa using hx)
theorem plainL_self (μ : Mu) : ∀ (l : List Value), plainL l = true → ∀ (i : Nat) x, l[i]? = some x → R μ x x
  | v :: l, h, 0, x, hx => by simp [plainL] at h; simp at hx; exact hx ▸ plain_self μ v h.1
  | v :: l, h, i + 1, x, hx => by simp [plainL] at h; simp at hx; exact plainL_self μ l h.2 i x hx
end
theorem RA_self (μ : Mu) {a : Array Value} (h : plainA a = true) : RA μ a a := ⟨rfl, fun i x y hx hy => by rw [hx] at hy; cases hy; exact plainA_self μ a h i x hx⟩
theorem RA.plain {μ : Mu} {a a' : Array Value} (h : RA μ a a') (hp : plainA a = true) : a' = a := h.fn (RA_self μ hp)

end Go.Ev

/-
  The evaluator's memory, and how it stands to a world.
-/
namespace Go.Ev
open Go.RowKit

structure VB where
  cells : List Value
  elem : TypeId
  esz : Nat
  fam : Nat
  rw : Bool
  grow : Bool
  whole : Bool
  tail : Bool
/- Maps and iterators over texts. -/
inductive VO where
  | map (es : List (Value × Value × Nat)) (clock : Nat)
  | iter (s : ByteArray) (pos : Nat)
structure VOb where
  o : VO
  rw : Bool
/- A call that was put off. -/
structure VD where
  g : FuncId
  cap : List Value
  args : List Value
structure VS where
  heap : List (Nat × VB)
  next : Nat
  ng : Nat
  objs : List (Nat × VOb)
  dfr : List VD

def find : List (Nat × VB) → Nat → Option VB
  | [], _ => none
  | (i, b) :: l, a => bif Nat.beq i a then some b else find l a
def upd (l : List (Nat × VB)) (id fam : Nat) (B : VB) : List (Nat × VB) :=
  match l with
  | [] => []
  | (i, b) :: r => bif Nat.beq i id then (i, B) :: upd r id fam B else bif Nat.beq b.fam fam then upd r id fam B else (i, b) :: upd r id fam B

theorem find_mem : ∀ {l : List (Nat × VB)} {a : Nat} {b : VB}, find l a = some b → (a, b) ∈ l
  | (i, c) :: l, a, b, h => by
    simp only [find, Bool.cond_eq_ite] at h
    split at h
    · rename_i hi
      have := Nat.eq_of_beq_eq_true hi
      cases h; subst this; simp
    · exact List.mem_cons_of_mem _ (find_mem h)
theorem upd_mem : ∀ {l : List (Nat × VB)} {id fam : Nat} {B : VB} {a : Nat} {b : VB}, (a, b) ∈ upd l id fam B → (a = id ∧ b = B) ∨ (a ≠ id ∧ (a, b) ∈ l ∧ b.fam ≠ fam)
  | (i, c) :: l, id, fam, B, a, b, h => by
    simp only [upd, Bool.cond_eq_ite] at h
    split at h
    · rename_i hi
      have := Nat.eq_of_beq_eq_true hi
      rcases List.mem_cons.1 h with h | h
      · cases h; exact .inl ⟨this, rfl⟩
      · rcases upd_mem h with h | ⟨h1, h2, h3⟩
        · exact .inl h
        · exact .inr ⟨h1, List.mem_cons_of_mem _ h2, h3⟩
    · rename_i hi
      split at h
      · rcases upd_mem h with h | ⟨h1, h2, h3⟩
        · exact .inl h
        · exact .inr ⟨h1, List.mem_cons_of_mem _ h2, h3⟩
      · rename_i hf
        rcases List.mem_cons.1 h with h | h
        · cases h
          refine .inr ⟨fun e => hi (by rw [e]; exact Nat.beq_refl _), by simp, fun e => hf (by rw [e]; exact Nat.beq_refl _)⟩
        · rcases upd_mem h with h | ⟨h1, h2, h3⟩
          · exact .inl h
          · exact .inr ⟨h1, List.mem_cons_of_mem _ h2, h3⟩

/- These blocks are as they were. -/
structure Kept (S : Nat → Prop) (w w' : World) : Prop where
  os : w'.os = w.os
  tape : w'.tape = w.tape
  output : w'.output = w.output
  size : w.heap.size ≤ w'.heap.size
  block : ∀ k, S k → w'.heap[k]? = w.heap[k]?
theorem Kept.refl (S : Nat → Prop) (w : World) : Kept S w w := ⟨rfl, rfl, rfl, Nat.le_refl _, fun _ _ => rfl⟩
theorem Kept.trans {S : Nat → Prop} {a b c : World} (h : Kept S a b) (k : Kept S b c) : Kept S a c :=
  ⟨k.os.trans h.os, k.tape.trans h.tape, k.output.trans h.output, Nat.le_trans h.size k.size, fun i hi => (k.block i hi).trans (h.block i hi)⟩
theorem Kept.mono {S S' : Nat → Prop} {a b : World} (h : Kept S a b) (hs : ∀ k, S' k → S k) : Kept S' a b := ⟨h.os, h.tape, h.output, h.size, fun k hk => h.block k (hs k hk)⟩
theorem Kept.below {n : Nat} {a b : World} (h : Kept (fun k => k < n) a b) : Below n a b := ⟨h.os, h.tape, h.output, h.size, h.block⟩
theorem Kept.of_below {n : Nat} {a b : World} (h : Below n a b) : Kept (fun k => k < n) a b := ⟨h.os, h.tape, h.output, h.size, h.block⟩
def old (w : World) : Nat → Prop := fun k => k < w.heap.size
theorem Kept.new (w : World) (o : Obj) : Kept (old w) w (w.alloc o) := .of_below ((Below.refl _ _).alloc (Nat.le_refl _) o)

/- What holds of the world that a run began in (the tables that lie in it), as long as what it says is kept. -/
class Base where
  ok : (Nat → Prop) → World → Prop
  keep : ∀ {N N' : Nat → Prop} {w w' : World}, Kept N w w' → (∀ k, N k → N' k) → ok N w → ok N' w'
variable [Base]

/- A block of the evaluator in the world. -/
structure Lies (N0 : Nat → Prop) (W : World) (μ : Mu) (B : VB) (l : Loc) (c : Array Value) (z : Nat × Nat) : Prop where
  at_ : W.heap[l.blk]? = some (.cells c B.elem z)
  own : B.rw = true → (z.2 ≤ z.1 ∨ c.size ≤ z.1) ∧ ¬ N0 l.blk
  len : l.len = B.cells.length
  esz : l.esz = B.esz
  room : l.off + l.len + l.extra * l.esz ≤ c.size
  fixed : B.grow = false → l.extra = 0
  whole : B.whole = true → l.off = 0 ∧ c.size = B.cells.length
  tail : B.tail = true → z.2 ≤ l.off + l.len ∧ ¬ N0 l.blk
  cells : ∀ (i : Nat) v, B.cells[i]? = some v → ∃ v', c[l.off + i]? = some v' ∧ R μ v v'

def RE (μ : Mu) : List (Value × Value × Nat) → List MapEntry → Prop
  | [], [] => True
  | (k, v, b) :: l, e :: l' => (e.key = k ∧ R μ v e.val ∧ e.born = b) ∧ RE μ l l'
  | _, _ => False
omit [Base] in
theorem RE.mono {μ ν : Mu} (hl : μ.le ν) : ∀ {l : List (Value × Value × Nat)} {l' : List MapEntry}, RE μ l l' → RE ν l l'
  | [], [], h => h
  | (_, _, _) :: _, _ :: _, h => ⟨⟨h.1.1, h.1.2.1.mono hl, h.1.2.2⟩, RE.mono hl h.2⟩
  | [], _ :: _, h => h.elim
  | (_, _, _) :: _, [], h => h.elim
def RO (μ : Mu) : VO → Obj → Prop
  | .map es c, .map es' c' => c' = c ∧ RE μ es es'.toList
  | .iter s p, .stringIter s' p' => s' = s ∧ p' = p
  | _, _ => False
omit [Base] in
theorem RO.mono {μ ν : Mu} (hl : μ.le ν) : ∀ {v : VO} {o : Obj}, RO μ v o → RO ν v o
  | .map _ _, .map _ _, h => ⟨h.1, h.2.mono hl⟩
  | .iter _ _, .stringIter _ _, h => h
def notCells : Obj → Bool
  | .cells _ _ _ => false
  | _ => true
omit [Base] in
theorem RO.nc {μ : Mu} : ∀ {v : VO} {o : Obj}, RO μ v o → notCells o = true
  | .map _ _, .map _ _, _ => rfl
  | .iter _ _, .stringIter _ _, _ => rfl
structure OG (N0 : Nat → Prop) (W : World) (objs : List (Nat × VOb)) (μ : Mu) : Prop where
  at_ : ∀ id O, (id, O) ∈ objs → ∃ l o, μ id = some l ∧ W.heap[l.blk]? = some o ∧ RO μ O.o o ∧ (O.rw = true → ¬ N0 l.blk) ∧ l.off = 0
  apart : ∀ id O id' O', (id, O) ∈ objs → (id', O') ∈ objs → id ≠ id' → ∀ l l', μ id = some l → μ id' = some l' → l.blk ≠ l'.blk
omit [Base] in
theorem OG.keep {N0 : Nat → Prop} {W W1 : World} {objs : List (Nat × VOb)} {μ : Mu} (h : OG N0 W objs μ) (hk : ∀ (b : Nat) (o : Obj), W.heap[b]? = some o → notCells o = true → W1.heap[b]? = some o) : OG N0 W1 objs μ :=
  ⟨fun id O hm => let ⟨l, o, h1, h2, h3, h4⟩ := h.at_ id O hm; ⟨l, o, h1, hk _ _ h2 h3.nc, h3, h4⟩, h.apart⟩
omit [Base] in
theorem OG.up {N0 : Nat → Prop} {W : World} {objs : List (Nat × VOb)} {μ ν : Mu} (h : OG N0 W objs μ) (hl : μ.le ν) : OG N0 W objs ν := by
  refine ⟨fun id O hm => let ⟨l, o, h1, h2, h3, h4⟩ := h.at_ id O hm; ⟨l, o, hl _ _ h1, h2, h3.mono hl, h4⟩, fun id O id' O' hm hm' hne l l' e e' => ?_⟩
  obtain ⟨m, _, h1, _⟩ := h.at_ id O hm
  obtain ⟨m', _, h1', _⟩ := h.at_ id' O' hm'
  rw [hl _ _ h1] at e; rw [hl _ _ h1'] at e'; cases e; cases e'
  exact h.apart id O id' O' hm hm' hne _ _ h1 h1'

structure G (N0 : Nat → Prop) (W0 : World) (vs : VS) (W : World) (μ : Mu) : Prop where
  below : Kept N0 W0 W
  start : ∀ k, N0 k → k < W.heap.size
  fresh : ∀ a, vs.next ≤ a → μ a = none
  globs : ∀ g l, μ g = some l → l.blk < W.heap.size
  glo : ∀ g, g < vs.ng → ∃ l, μ g = some l ∧ l.blk = g ∧ l.off = 0
  blocks : ∀ id B, (id, B) ∈ vs.heap → ∃ l c z, μ id = some l ∧ Lies N0 W μ B l c z
  apart : ∀ id B id' B', (id, B) ∈ vs.heap → (id', B') ∈ vs.heap → B.fam ≠ B'.fam → ∀ l l', μ id = some l → μ id' = some l' → l.blk ≠ l'.blk
  objs : OG N0 W vs.objs μ
  base : Base.ok N0 W0

omit [Base] in
theorem Lies.mono {N0 : Nat → Prop} {W : World} {μ ν : Mu} (hl : μ.le ν) {B : VB} {l : Loc} {c : Array Value} {z : Nat × Nat} (h : Lies N0 W μ B l c z) : Lies N0 W ν B l c z :=
  ⟨h.at_, h.own, h.len, h.esz, h.room, h.fixed, h.whole, h.tail, fun i v hv => let ⟨v', h1, h2⟩ := h.cells i v hv; ⟨v', h1, h2.mono hl⟩⟩

variable {N0 : Nat → Prop} {W0 W : World} {vs : VS} {μ : Mu} {P : Program}

theorem G.drawn (h : G N0 W0 vs W μ) (n : Nat) : G N0 W0 vs { W with drawn := n } μ :=
  ⟨⟨h.below.os, h.below.tape, h.below.output, h.below.size, h.below.block⟩, h.start, h.fresh, h.globs, h.glo,
   fun id B hm => let ⟨l, c, z, h1, h2⟩ := h.blocks id B hm; ⟨l, c, z, h1, ⟨h2.at_, h2.own, h2.len, h2.esz, h2.room, h2.fixed, h2.whole, h2.tail, h2.cells⟩⟩, h.apart, h.objs.keep fun _ _ e _ => e, h.base⟩

/- Reading. -/
def takeX : Nat → List Value → Option (List Value)
  | 0, _ => some []
  | _ + 1, [] => none
  | n + 1, x :: l => match takeX n l with
    | some r => some (x :: r)
    | none => none
def dropX : Nat → List Value → List Value
  | 0, l => l
  | _ + 1, [] => []
  | n + 1, _ :: l => dropX n l
omit [Base] in
theorem takeX_spec : ∀ (n : Nat) (l xs : List Value), takeX n l = some xs → xs = l.take n ∧ n ≤ l.length
  | 0, l, xs, h => by simp only [takeX] at h; cases h; simp
  | n + 1, [], xs, h => by simp only [takeX] at h; cases h
  | n + 1, x :: l, xs, h => by
    simp only [takeX] at h
    split at h
    · rename_i r hr; cases h; obtain ⟨rfl, h2⟩ := takeX_spec n l r hr; simpa using h2
    · cases h
omit [Base] in
theorem dropX_eq : ∀ (n : Nat) (l : List Value), dropX n l = l.drop n
  | 0, l => rfl
  | n + 1, [] => by simp [dropX]
  | n + 1, _ :: l => by simp [dropX, dropX_eq n l]
def vread (vs : VS) (a : Addr) (n : Nat) : Option (List Value) :=
  match find vs.heap a.block with
  | some B => bif a.spot.isNone then takeX n (dropX a.off B.cells) else none
  | none => none

omit [Base] in
theorem RA_of_lists {μ : Mu} {xs ys : List Value} (hl : xs.length = ys.length) (h : ∀ (i : Nat) x y, xs[i]? = some x → ys[i]? = some y → R μ x y) : RA μ xs.toArray ys.toArray :=
  ⟨by simpa using hl, fun i x y hx hy => h i x y (by simpa using hx) (by simpa using hy)⟩

omit [Base] in
theorem amap_add (l : Loc) (a : Addr) (n : Nat) : (amap l a).add n = amap l (a.add n) := by
  unfold Addr.add amap; split <;> simp [Nat.add_assoc]

theorem G.read (h : G N0 W0 vs W μ) {a : Addr} {n : Nat} {xs : List Value} (hr : vread vs a n = some xs) {l : Loc} (hl : μ a.block = some l) :
    ∃ ys : List Value, xs.length = n ∧ ys.length = n ∧ (∀ (j : Nat) v, ys[j]? = some v → W.cell? ((amap l a).add j) = some v) ∧ RA μ xs.toArray ys.toArray := by
  unfold vread at hr
  cases hf : find vs.heap a.block with
  | none => rw [hf] at hr; cases hr
  | some B =>
    rw [hf] at hr
    simp only [Bool.cond_eq_ite] at hr
    split at hr
    · rename_i hc
      simp only [Option.isNone_iff_eq_none] at hc
      obtain ⟨rfl, hn⟩ := takeX_spec _ _ _ hr
      rw [dropX_eq] at hn ⊢
      simp only [List.length_drop] at hn
      obtain ⟨l', c, z, hm, L⟩ := h.blocks _ _ (find_mem hf)
      rw [hl] at hm; cases hm
      have hcl : ∀ i, i < n → ∃ v v', B.cells[a.off + i]? = some v ∧ c[l.off + (a.off + i)]? = some v' ∧ R μ v v' := fun i hi => by
        have hlt : a.off + i < B.cells.length := by omega
        obtain ⟨v', h1, h2⟩ := L.cells (a.off + i) B.cells[a.off + i] (List.getElem?_eq_getElem hlt)
        exact ⟨_, v', List.getElem?_eq_getElem hlt, h1, h2⟩
      refine ⟨(List.range n).map fun i => (c[l.off + (a.off + i)]?).getD undef, by simp; omega, by simp, ?_, ?_⟩
      · intro j v hj
        have hjn : j < n := by
          have := (List.getElem?_eq_some_iff.1 hj).1; simpa using this
        simp [hjn] at hj
        obtain ⟨u, v', _, h1, _⟩ := hcl j hjn
        rw [h1] at hj
        simp at hj
        subst hj
        have hs : (amap l a).add j = ⟨l.blk, l.off + (a.off + j), none⟩ := by
          unfold Addr.add amap; split <;> simp_all [Nat.add_assoc]
        rw [hs]
        simp [World.cell?, L.at_, h1]
      · refine RA_of_lists (by simp; omega) ?_
        intro i x y hx hy
        have hin : i < n := by
          have := (List.getElem?_eq_some_iff.1 hy).1; simpa using this
        obtain ⟨u, v', h0, h1, h2⟩ := hcl i hin
        simp [hin, h1] at hy
        simp [hin, List.getElem?_drop, h0] at hx
        subst hx; subst hy; exact h2
    · cases hr

theorem G.run_load (h : G N0 W0 vs W μ) {a : Addr} {n : Nat} {xs : List Value} (hr : vread vs a n = some xs) {l : Loc} (hl : μ a.block = some l) :
    ∃ ys : Array Value, (loadCells (amap l a) n).run P W = .ok ys W ∧ RA μ xs.toArray ys := by
  obtain ⟨ys, h1, h2, h3, h4⟩ := h.read hr hl
  have := run_loadCells_list (P := P) W (amap l a) ys h3
  rw [h2] at this
  exact ⟨_, this, h4⟩


omit [Base] in
theorem splice_get {c : List Value} {p : Nat} {ys : List Value} (hp : p + ys.length ≤ c.length) (k : Nat) : (c.take p ++ ys ++ c.drop (p + ys.length))[k]? = if k < p then c[k]? else if k < p + ys.length then ys[k - p]? else c[k]? := by
  have hm : min p c.length = p := by omega
  split
  · rename_i h
    rw [List.getElem?_append_left (by simp; omega), List.getElem?_append_left (by simp; omega), List.getElem?_take_of_lt h]
  · rename_i h
    split
    · rename_i h2
      rw [List.getElem?_append_left (by simp; omega), List.getElem?_append_right (by simp; omega)]
      simp [hm]
    · rename_i h2
      rw [List.getElem?_append_right (by simp; omega), List.getElem?_drop]
      congr 1
      simp; omega

omit [Base] in
theorem setCells_row (g : Nat) (t : TypeId) (z : Nat × Nat) (vs : List Value) : ∀ (k : Nat) (cur : Array Value) (w : World), w.heap[g]? = some (.cells cur t z) → k + vs.length ≤ cur.size →
    w.setCells g k vs = w.setRow g (cur.toList.take k ++ vs ++ cur.toList.drop (k + vs.length)).toArray := by
  induction vs with
  | nil =>
    intro k cur w hg _
    have e : (cur.toList.take k ++ [] ++ cur.toList.drop (k + 0)).toArray = cur := by simp
    rw [List.length_nil, e, setRow_self w g cur t z hg]
    rfl
  | cons v r ih =>
    intro k cur w hg hk
    simp only [List.length_cons] at hk
    show (w.setCell ⟨g, k, none⟩ v).setCells g (k + 1) r = _
    rw [setCell_eq_setRow w g k cur t z v hg, ih (k + 1) (cur.setIfInBounds k v) _ (setRow_heap w g cur _ t z hg) (by simp; omega), setRow_setRow]
    congr 1
    apply Array.ext_getElem?
    intro m
    rw [List.getElem?_toArray, List.getElem?_toArray, splice_get (by simp; omega), splice_get (by simp; omega)]
    simp only [Array.toList_setIfInBounds, List.getElem?_set, List.length_cons]
    by_cases h1 : m < k
    · rw [if_pos (by omega), if_neg (by omega), if_pos h1]
    · by_cases h2 : m = k
      · subst h2
        have : m < cur.size := by omega
        simp [this]
      · have a1 : ¬ m < k + 1 := by omega
        have a2 : ¬ k = m := by omega
        by_cases h3 : m < k + 1 + r.length
        · have a3 : m < k + (r.length + 1) := by omega
          have a4 : m - k = (m - (k + 1)) + 1 := by omega
          simp only [if_neg a1, if_neg h1, if_pos h3, if_pos a3]
          rw [a4, List.getElem?_cons_succ]
        · have a3 : ¬ m < k + (r.length + 1) := by omega
          simp only [if_neg a1, if_neg h1, if_neg h3, if_neg a3, if_neg a2]
omit [Base] in
theorem run_storeCells_z (g o : Nat) (t : TypeId) (z : Nat × Nat) (vs : List Value) (cur : Array Value) (w : World) (hg : w.heap[g]? = some (.cells cur t z)) (hz : z.2 ≤ z.1 ∨ cur.size ≤ z.1 ∨ z.2 ≤ o) (hl : o + vs.length ≤ cur.size) (h1 : ∀ v ∈ vs, v.oneCell' = true) :
    (storeCells ⟨g, o, none⟩ vs).run P w = .ok () (w.setRow g (cur.toList.take o ++ vs ++ cur.toList.drop (o + vs.length)).toArray) := by
  have hc : ∀ j, j < vs.length → (w.cell? ⟨g, o + 0 + j, none⟩).isSome = true := fun j hj => by
    have : o + j < cur.size := by omega
    simp [World.cell?, hg, this]
  have hf : ∀ j, j < vs.length → w.frozen? ⟨g, o + 0 + j, none⟩ = false := fun j hj => by
    simp only [World.frozen?, hg, Bool.and_eq_false_iff, decide_eq_false_iff_not]
    omega
  rw [run_storeCells_cells g o vs 0 w hc hf h1, Nat.add_zero, setCells_row g t z vs o cur w hg hl]

omit [Base] in
theorem R.one {v v' : Value} (h : R μ v v') : v'.oneCell' = v.oneCell' := by cases h <;> rfl

/- Writing: what may lie over the block goes. -/
def vwrite (vs : VS) (a : Addr) (xs : List Value) : Option VS :=
  match find vs.heap a.block with
  | some B => bif B.rw && a.spot.isNone && Nat.ble (a.off + xs.length) B.cells.length && xs.all Value.oneCell' then
      some { vs with heap := upd vs.heap a.block B.fam { B with cells := B.cells.take a.off ++ (xs ++ B.cells.drop (a.off + xs.length)) } } else none
  | none => none

theorem G.write (h : G N0 W0 vs W μ) {a : Addr} {xs ys : List Value} {vs1 : VS} (hw : vwrite vs a xs = some vs1) {l : Loc} (hl : μ a.block = some l) (hxy : RA μ xs.toArray ys.toArray) :
    ∃ W1, (storeCells (amap l a) ys).run P W = .ok () W1 ∧ G N0 W0 vs1 W1 μ := by
  unfold vwrite at hw
  cases hf : find vs.heap a.block with
  | none => rw [hf] at hw; cases hw
  | some B =>
    rw [hf] at hw
    simp only [Bool.cond_eq_ite] at hw
    split at hw
    case isFalse => cases hw
    rename_i hc
    simp only [Bool.and_eq_true, Option.isNone_iff_eq_none, Nat.ble_eq, List.all_eq_true] at hc
    obtain ⟨⟨⟨hrw, hsp⟩, hlen⟩, hone⟩ := hc
    cases hw
    have hmem := find_mem hf
    obtain ⟨l', c, z, hm, L⟩ := h.blocks _ _ hmem
    rw [hl] at hm; cases hm
    obtain ⟨hz, hN⟩ := L.own hrw
    have hyl : ys.length = xs.length := by simpa using hxy.1.symm
    have hxy' : ∀ (i : Nat) x y, xs[i]? = some x → ys[i]? = some y → R μ x y := fun i x y hx hy => hxy.2 i x y (by simpa using hx) (by simpa using hy)
    have hlen2 := L.len
    have hroom := L.room
    have hrun := run_storeCells_z (P := P) l.blk (l.off + a.off) B.elem z ys c W L.at_ (hz.imp id .inl) (by rw [hyl]; omega) (fun v hv => by
      obtain ⟨i, hi, he⟩ := List.mem_iff_getElem.1 hv
      have hR := hxy' i (xs[i]'(by omega)) v (List.getElem?_eq_getElem _) (by rw [← he]; exact List.getElem?_eq_getElem _)
      rw [hR.one]
      exact hone _ (by simp))
    have ha : amap l a = ⟨l.blk, l.off + a.off, none⟩ := by simp [amap, hsp]
    rw [ha]
    refine ⟨_, hrun, ?_⟩
    have hother : ∀ k, k ≠ l.blk → (W.setRow l.blk (c.toList.take (l.off + a.off) ++ ys ++ c.toList.drop (l.off + a.off + ys.length)).toArray).heap[k]? = W.heap[k]? := fun k hk => setRow_other _ _ _ _ hk
    have hsame := setRow_heap W l.blk c (c.toList.take (l.off + a.off) ++ ys ++ c.toList.drop (l.off + a.off + ys.length)).toArray B.elem z L.at_
    refine ⟨?_, by simpa using h.start, h.fresh, fun g l h0 => by simpa using h.globs g l h0, h.glo, ?_, ?_, h.objs.keep fun b o e hn => ?_, h.base⟩
    · exact h.below.trans ⟨rfl, rfl, rfl, by simp, fun k hk => hother k fun e => hN (e ▸ hk)⟩
    · intro id B' hin
      rcases upd_mem hin with ⟨rfl, rfl⟩ | ⟨hne, hin', hfam⟩
      · refine ⟨l, _, z, hl, ⟨hsame, fun _ => ⟨?_, hN⟩, ?_, L.esz, ?_, L.fixed, fun x => ⟨(L.whole x).1, ?_⟩, fun x => ⟨(L.tail x).1, hN⟩, ?_⟩⟩
        · refine hz.imp id fun h => ?_
          simp; omega
        · simp; omega
        · simp; omega
        · have := (L.whole x).2
          simp; omega
        · intro i v hv
          by_cases h1 : i < a.off
          · rw [List.getElem?_append_left (by simp; omega)] at hv
            rw [List.getElem?_take_of_lt h1] at hv
            obtain ⟨v', e1, e2⟩ := L.cells i v hv
            refine ⟨v', ?_, e2⟩
            rw [← e1]
            simp [List.getElem?_append, List.getElem?_take]
            rw [if_pos (by omega), if_pos (by omega)]
          · rw [List.getElem?_append_right (by simp; omega)] at hv
            have ht : (List.take a.off B.cells).length = a.off := by simp; omega
            rw [ht] at hv
            by_cases h2 : i - a.off < xs.length
            · rw [List.getElem?_append_left h2] at hv
              have hy : i - a.off < ys.length := by omega
              refine ⟨ys[i - a.off], ?_, hxy' _ _ _ hv (by simp)⟩
              have e : l.off + i - (l.off + a.off) = i - a.off := by omega
              have hmin : min (l.off + a.off) c.size = l.off + a.off := by omega
              simp [List.getElem?_append, hmin, e, hy]
              omega
            · rw [List.getElem?_append_right (by omega), List.getElem?_drop] at hv
              have e0 : a.off + xs.length + (i - a.off - xs.length) = i := by omega
              rw [e0] at hv
              obtain ⟨v', e1, e2⟩ := L.cells i v hv
              refine ⟨v', ?_, e2⟩
              rw [← e1]
              have hmin : min (l.off + a.off) c.size = l.off + a.off := by omega
              have e4 : ¬ l.off + i < l.off + a.off := by omega
              have e5 : ¬ l.off + i - (l.off + a.off) < ys.length := by omega
              simp only [List.getElem?_toArray, List.append_assoc, List.getElem?_append, List.length_take, Array.length_toList, hmin, if_neg e4, if_neg e5, List.getElem?_drop]
              rw [Array.getElem?_toList]
              congr 1
              omega
      · obtain ⟨l', c', z', hm', L'⟩ := h.blocks _ _ hin'
        have hb : l'.blk ≠ l.blk := fun e => h.apart _ _ _ _ hin' hmem hfam _ _ hm' hl e
        exact ⟨l', c', z', hm', ⟨by rw [hother _ hb]; exact L'.at_, L'.own, L'.len, L'.esz, L'.room, L'.fixed, L'.whole, L'.tail, L'.cells⟩⟩
    · intro id B1 id' B2 h1 h2 hfam l1 l2 e1 e2
      rcases upd_mem h1 with ⟨rfl, rfl⟩ | ⟨_, h1', _⟩ <;> rcases upd_mem h2 with ⟨rfl, rfl⟩ | ⟨_, h2', _⟩
      · exact absurd rfl hfam
      · exact h.apart _ _ _ _ hmem h2' hfam _ _ e1 e2
      · exact h.apart _ _ _ _ h1' hmem hfam _ _ e1 e2
      · exact h.apart _ _ _ _ h1' h2' hfam _ _ e1 e2
    · by_cases hb : b = l.blk
      · rw [hb, L.at_] at e; cases e; cases hn
      · rw [hother _ hb]; exact e


/- A world that has more blocks. -/
theorem G.world (h : G N0 W0 vs W μ) {W1 : World} (hb : Kept (old W) W W1) : G N0 W0 vs W1 μ := by
  have hlt : ∀ id B, (id, B) ∈ vs.heap → ∀ l, μ id = some l → W1.heap[l.blk]? = W.heap[l.blk]? := fun id B hm l hl => by
    obtain ⟨l', c, z, h1, L⟩ := h.blocks id B hm
    rw [hl] at h1; cases h1
    exact hb.block _ (Array.getElem?_eq_some_iff.1 L.at_).1
  refine ⟨h.below.trans (hb.mono h.start), fun k hk => Nat.lt_of_lt_of_le (h.start k hk) hb.size, h.fresh, fun g l h0 => Nat.lt_of_lt_of_le (h.globs g l h0) hb.size, h.glo, ?_, h.apart, h.objs.keep fun b o e _ => by rw [hb.block _ (Array.getElem?_eq_some_iff.1 e).1]; exact e, h.base⟩
  intro id B hm
  obtain ⟨l, c, z, h1, L⟩ := h.blocks id B hm
  exact ⟨l, c, z, h1, ⟨by rw [hlt id B hm l h1]; exact L.at_, L.own, L.len, L.esz, L.room, L.fixed, L.whole, L.tail, L.cells⟩⟩

def Mu.put (μ : Mu) (a : Nat) (l : Loc) : Mu := fun i => if i = a then some l else μ i
omit [Base] in
theorem Mu.put_self (μ : Mu) (a : Nat) (l : Loc) : μ.put a l a = some l := by simp [Mu.put]
omit [Base] in
theorem Mu.put_le {μ : Mu} {a : Nat} (h : μ a = none) (l : Loc) : μ.le (μ.put a l) := fun i m hi => by
  unfold Mu.put; split
  · rename_i e; rw [e, h] at hi; cases hi
  · exact hi

def VS.add (vs : VS) (B : VB) : VS := { heap := (vs.next, B) :: vs.heap, next := vs.next + 1, ng := vs.ng, objs := vs.objs, dfr := vs.dfr }

/- One more block of the evaluator. -/
theorem G.add (h : G N0 W0 vs W μ) {B : VB} {l : Loc} {c : Array Value} {z : Nat × Nat} (hL : Lies N0 W (μ.put vs.next l) B l c z)
    (hap : ∀ id' B', (id', B') ∈ vs.heap → B'.fam ≠ B.fam → ∀ l', μ id' = some l' → l'.blk ≠ l.blk) : G N0 W0 (vs.add B) W (μ.put vs.next l) := by
  have hn : μ vs.next = none := h.fresh _ (Nat.le_refl _)
  have hle : μ.le (μ.put vs.next l) := Mu.put_le hn l
  have hold : ∀ id B', (id, B') ∈ vs.heap → id ≠ vs.next := fun id B' hm e => by
    obtain ⟨l', _, _, h1, _⟩ := h.blocks id B' hm
    rw [e, hn] at h1; cases h1
  have hput : ∀ id B', (id, B') ∈ vs.heap → ∀ l', (μ.put vs.next l) id = some l' → μ id = some l' := fun id B' hm l' hl => by
    simpa [Mu.put, hold id B' hm] using hl
  refine ⟨h.below, h.start, ?_, ?_, fun g hg => let ⟨m, h1, h2⟩ := h.glo g hg; ⟨m, hle _ _ h1, h2⟩, ?_, ?_, h.objs.up hle, h.base⟩
  · intro a ha
    simp only [VS.add] at ha
    have : a ≠ vs.next := by omega
    simp [Mu.put, this, h.fresh a (by omega)]
  · intro g m hg
    unfold Mu.put at hg
    split at hg
    · cases hg; exact (Array.getElem?_eq_some_iff.1 hL.at_).1
    · exact h.globs _ _ hg
  · intro id B' hm
    rcases List.mem_cons.1 hm with e | hm
    · cases e; exact ⟨l, c, z, Mu.put_self _ _ _, hL⟩
    · obtain ⟨l', c', z', h1, L⟩ := h.blocks id B' hm
      exact ⟨l', c', z', hle _ _ h1, L.mono hle⟩
  · intro id B1 id' B2 h1 h2 hfam l1 l2 e1 e2
    rcases List.mem_cons.1 h1 with e | h1 <;> rcases List.mem_cons.1 h2 with e' | h2
    · cases e; cases e'; exact absurd rfl hfam
    · cases e
      rw [Mu.put_self] at e1; cases e1
      exact (hap _ _ h2 (Ne.symm hfam) _ (hput _ _ h2 _ e2)).symm
    · cases e'
      rw [Mu.put_self] at e2; cases e2
      exact hap _ _ h1 hfam _ (hput _ _ h1 _ e1)
    · exact h.apart _ _ _ _ h1 h2 hfam _ _ (hput _ _ h1 _ e1) (hput _ _ h2 _ e2)

/- A new row of cells, perhaps with more room behind. -/
theorem G.alloc (h : G N0 W0 vs W μ) {xs : List Value} {ys rest : Array Value} {elem : TypeId} {esz extra fam : Nat} {rw grow whole tail : Bool} (hxy : RA μ xs.toArray ys) (hroom : extra * esz ≤ rest.size) (hfix : grow = false → extra = 0) (hwh : whole = true → rest.size = 0) :
    G N0 W0 (vs.add ⟨xs, elem, esz, fam, rw, grow, whole, tail⟩) (W.alloc (.cells (ys ++ rest) elem)) (μ.put vs.next ⟨W.heap.size, 0, extra, esz, xs.length⟩) := by
  have hle := Mu.put_le (h.fresh vs.next (Nat.le_refl _)) ⟨W.heap.size, 0, extra, esz, xs.length⟩
  have h1 : G N0 W0 vs (W.alloc (.cells (ys ++ rest) elem)) μ := h.world (Kept.new _ _)
  have hs : xs.length = ys.size := by simpa using hxy.1
  refine h1.add (c := ys ++ rest) (z := (0, 0)) ⟨?_, fun _ => ⟨.inl (Nat.le_refl _), fun hk => Nat.lt_irrefl _ (h.start _ hk)⟩, rfl, rfl, ?_, hfix, fun x => ⟨rfl, by have := hwh x; simp; omega⟩, (fun _ => ⟨Nat.zero_le _, fun hk => Nat.lt_irrefl _ (h.start _ hk)⟩), ?_⟩ ?_
  · show (W.heap.push _)[W.heap.size]? = _
    simp
  · simp; omega
  · intro i v hv
    have hi : i < xs.length := (List.getElem?_eq_some_iff.1 hv).1
    have hi' : i < ys.size := by omega
    refine ⟨ys[i], ?_, (hxy.2 i v _ (by simpa using hv) (by simp [hi'])).mono hle⟩
    simp [Array.getElem?_append, hi']
  · intro id' B' hm _ l' hl'
    obtain ⟨m, c, z, e1, L⟩ := h.blocks id' B' hm
    rw [hl'] at e1; cases e1
    have := (Array.getElem?_eq_some_iff.1 L.at_).1
    show l'.blk ≠ W.heap.size
    omega

end Go.Ev

/-
  The evaluator's operations that leave memory alone.
-/
namespace Go.Ev
open Go.RowKit
variable [Base]

/- What the evaluator asks of types. -/
def hasBody (P : Program) (g : FuncId) : Bool :=
  match P.funcs[g]? with
  | some fn => fn.body.isSome
  | none => false
/- A function without a body: what it answers to plain arguments. -/
def ExtOk (P : Program) (g : FuncId) (h : List Value → Option Value) : Prop := ∀ (args : List Value) v, h args = some v → plainB v = true ∧ ∀ W, (callFunc g ⟨args⟩).run P W = .ok (.value v) W
structure TE where
  und : TypeId → Option TypeDesc
  inf : TypeId → Option TypeInfo
  body : FuncId → Bool
  ext : FuncId → Option (List Value → Option Value)
  idf : FuncId → Bool
  lies : TypeId → Nat → Nat → TypeId → Bool
  noz : FuncId → Option TypeId
/- A function that makes a row of whatever bytes. -/
def NozOk (P : Program) (g : FuncId) (e : TypeId) : Prop := ∀ n : Nat, n ≤ 281474976710656 → ∀ W : World, ∃ cs : Array Value, (callFunc g #[.int .i64 n]).run P W = .ok (.value (.slice (some ⟨W.heap.size, 0, none⟩) n cs.size)) (W.drew.drew.alloc (.cells cs e))
class TOk (P : Program) (T : TE) : Prop where
  und : ∀ {t d}, T.und t = some d → P.underlying t = some d
  inf : ∀ {t i}, T.inf t = some i → P.info? t = some i
  body : ∀ {g}, T.body g = true → hasBody P g = true
  ext : ∀ {g h}, T.ext g = some h → ExtOk P g h
  idf : ∀ {g}, T.idf g = true → ∀ v W, (callFunc g #[v]).run P W = .ok (.value v) W
  lies : ∀ {e n off u}, T.lies e n off u = true → liesAt P P.depth e (n / P.cellsOf e) off u 1 = true
  noz : ∀ {g e}, T.noz g = some e → NozOk P g e

variable {N0 : Nat → Prop} {W0 W : World} {vs : VS} {μ : Mu} {P : Program} {T : TE} [TOk P T]

def purely {α : Type} (P : Program) : Sem α → Option α
  | .pure a => some a
  | .program k => purely P (k P)
  | .mark _ k => purely P k
  | _ => none

omit [Base] in
theorem purely_run {α : Type} (P : Program) (W : World) (s : Sem α) : ∀ a, purely P s = some a → s.run P W = .ok a W := by
  induction s with
  | pure a => intro b h; simp [purely] at h; simp [Sem.run, h]
  | program k ih => intro b h; simp only [purely] at h; simp only [Sem.run]; exact ih P b h
  | mark m k ih => intro b h; simp only [purely] at h; simp only [Sem.run]; exact ih b h
  | _ => intro b h; simp [purely] at h

inductive VN where
  | value (v : Value)
  | skip
  | enter (f : FuncId) (args : Array Value)
  | defer (g : FuncId) (cap args : List Value)

def RN (μ : Mu) : VN → Next → Prop
  | .value v, .value v' => R μ v v'
  | .skip, .skip => True
  | .enter f a, .enter g b => f = g ∧ RA μ a b
  | .defer g cap args, .defer d => ∃ cap', d.target = .fn (.func g) cap' ∧ RA μ cap.toArray cap' ∧ RA μ args.toArray d.args
  | _, _ => False
omit [Base] in
theorem RN.mono {μ ν : Mu} (hl : μ.le ν) : ∀ {n : VN} {n' : Next}, RN μ n n' → RN ν n n'
  | .value _, .value _, h => R.mono hl h
  | .skip, .skip, h => h
  | .enter _ _, .enter _ _, h => ⟨h.1, h.2.mono hl⟩
  | .defer _ _ _, .defer _, h => let ⟨c, h1, h2, h3⟩ := h; ⟨c, h1, h2.mono hl, h3.mono hl⟩

def vplain (P : Program) (ρ : Operand → Value) (o : Oper) : Option VN :=
  bif o.op.operands.all (fun x => plainB (ρ x)) then
    match purely P (execOp ρ o) with
    | some (.value v) => bif plainB v then some (.value v) else none
    | some .skip => some .skip
    | some (.enter f args) => bif plainA args then some (.enter f args) else none
    | _ => none
  else none

def notSelect : Op → Bool
  | .select _ _ => false
  | _ => true

omit [Base] in
theorem vplain_sound {ρ ρ' : Operand → Value} {o : Oper} {n : VN} (hs : notSelect o.op = true) (h : vplain P ρ o = some n) (hρ : ∀ x ∈ o.op.operands, R μ (ρ x) (ρ' x)) :
    ∃ n', (execOp ρ' o).run P W = .ok n' W ∧ RN μ n n' := by
  unfold vplain at h
  simp only [Bool.cond_eq_ite] at h
  split at h
  case isFalse => cases h
  rename_i hall
  have he : execOp ρ' o = execOp ρ o := execOp_congr o (fun cs b e => by rw [e] at hs; simp [notSelect] at hs) fun x hx => (hρ x hx).plain (by
    have := Array.all_eq_true.1 hall
    obtain ⟨i, hi, e⟩ := Array.mem_iff_getElem.1 hx
    rw [← e]; exact this i hi)
  rw [he]
  cases hp : purely P (execOp ρ o) with
  | none => rw [hp] at h; cases h
  | some nx =>
    rw [hp] at h
    have hrun := purely_run P W _ _ hp
    refine ⟨nx, hrun, ?_⟩
    cases nx with
    | value v =>
      simp only at h
      split at h
      · rename_i hv; cases h; exact plain_self μ v hv
      · cases h
    | skip => cases h; trivial
    | enter f args =>
      simp only at h
      split at h
      · rename_i hv; cases h; exact ⟨rfl, RA_self μ hv⟩
      · cases h
    | _ => cases h

/- Taking apart what stands to a value of a known form. -/
omit [Base] in
theorem R.inv_ptr {a : Addr} {v : Value} (h : R μ (.pointer (some a)) v) : ∃ l, μ a.block = some l ∧ v = .pointer (some (amap l a)) := by
  cases h with | ptr _ l h => exact ⟨l, h, rfl⟩
omit [Base] in
theorem R.inv_slice {a : Addr} {n c : Nat} {v : Value} (h : R μ (.slice (some a) n c) v) : ∃ l, μ a.block = some l ∧ (l.extra = 0 ∨ a.off + c * l.esz = l.len) ∧ v = .slice (some (amap l a)) n (c + l.extra) := by
  cases h with | slice _ l _ _ h hx => exact ⟨l, h, hx, rfl⟩
omit [Base] in
theorem R.inv_bool {b : Bool} {v : Value} (h : R μ (.bool b) v) : v = .bool b := by cases h; rfl
omit [Base] in
theorem R.inv_int {k : IntKind} {n : Int} {v : Value} (h : R μ (.int k n) v) : v = .int k n := by cases h; rfl
omit [Base] in
theorem R.inv_agg {a : Array Value} {v : Value} (h : R μ (.agg a) v) : ∃ a', v = .agg a' ∧ RA μ a a' := by
  cases h with | agg _ a' h1 h2 => exact ⟨a', rfl, h1, h2⟩
omit [Base] in
theorem R.inv_tuple {a : Array Value} {v : Value} (h : R μ (.tuple a) v) : ∃ a', v = .tuple a' ∧ RA μ a a' := by
  cases h with | tuple _ a' h1 h2 => exact ⟨a', rfl, h1, h2⟩
omit [Base] in
theorem R.inv_iface {t : TypeId} {x v : Value} (h : R μ (.iface t x) v) : ∃ x', v = .iface t x' ∧ R μ x x' := by
  cases h with | iface _ _ x' h => exact ⟨x', rfl, h⟩
omit [Base] in
theorem R.inv_func {f : Fn} {a b : Array Value} {v : Value} (h : R μ (.func f a b) v) : ∃ a' b', v = .func f a' b' ∧ RA μ a a' ∧ RA μ b b' := by
  cases h with | func _ _ _ a' b' h1 h2 h3 h4 => exact ⟨a', b', rfl, ⟨h1, h3⟩, ⟨h2, h4⟩⟩

/- A cell of a part of what stands so. -/
omit [Base] in
theorem RA.get {a a' : Array Value} (h : RA μ a a') {i : Nat} {x : Value} (hx : a[i]? = some x) : ∃ y, a'[i]? = some y ∧ R μ x y := by
  have hi := (Array.getElem?_eq_some_iff.1 hx).1
  have hi' : i < a'.size := by rw [← h.1]; exact hi
  exact ⟨a'[i], by simp [hi'], h.2 i x _ hx (by simp [hi'])⟩
omit [Base] in
theorem RA.append {a a' b b' : Array Value} (h : RA μ a a') (k : RA μ b b') : RA μ (a ++ b) (a' ++ b') := by
  refine ⟨by simp [h.1, k.1], fun i x y hx hy => ?_⟩
  rw [Array.getElem?_append] at hx hy
  rw [← h.1] at hy
  split at hx
  · rename_i hi; rw [if_pos hi] at hy; exact h.2 i x y hx hy
  · rename_i hi; rw [if_neg hi] at hy; exact k.2 _ x y hx hy
omit [Base] in
theorem RA.extract {a a' : Array Value} (h : RA μ a a') (i j : Nat) : RA μ (a.extract i j) (a'.extract i j) := by
  refine ⟨by simp [h.1], fun k x y hx hy => ?_⟩
  rw [Array.getElem?_extract] at hx hy
  rw [← h.1] at hy
  split at hx
  · rename_i hk; rw [if_pos hk] at hy; exact h.2 _ x y hx hy
  · cases hx
omit [Base] in
theorem RA.map {ρ ρ' : Operand → Value} {xs : Array Operand} (h : ∀ x ∈ xs, R μ (ρ x) (ρ' x)) : RA μ (xs.map ρ) (xs.map ρ') := by
  refine ⟨by simp, fun i x y hx hy => ?_⟩
  simp only [Array.getElem?_map, Option.map_eq_some_iff] at hx hy
  obtain ⟨u, hu, rfl⟩ := hx
  obtain ⟨u', hu', rfl⟩ := hy
  rw [hu] at hu'; cases hu'
  exact h u (Array.mem_of_getElem? hu)
omit [Base] in
theorem RA.empty : RA μ #[] #[] := ⟨rfl, fun i x y hx _ => by simp at hx⟩
omit [Base] in
theorem RA.one {x y : Value} (h : R μ x y) : RA μ #[x] #[y] := ⟨rfl, fun i a b ha hb => by
  cases i with
  | zero => simp at ha hb; subst ha; subst hb; exact h
  | succ i => simp at ha⟩
omit [Base] in
theorem RA.two {x y u v : Value} (h : R μ x y) (k : R μ u v) : RA μ #[x, u] #[y, v] := ⟨rfl, fun i a b ha hb => by
  match i with
  | 0 => simp at ha hb; subst ha; subst hb; exact h
  | 1 => simp at ha hb; subst ha; subst hb; exact k
  | i + 2 => simp at ha⟩
omit [Base] in
theorem R.cells {v v' : Value} (h : R μ v v') : RA μ v.cells v'.cells := by
  cases h with
  | agg a a' h1 h2 => exact ⟨h1, h2⟩
  | _ => exact RA.one (by constructor <;> assumption)

def aggD : TypeDesc → Bool
  | .struct _ | .array _ _ => true
  | _ => false
omit [Base] in
theorem run_isAgg' {t : TypeId} {d : TypeDesc} (h : P.underlying t = some d) : (isAgg t).run P W = .ok (aggD d) W := by
  unfold isAgg
  simp only [Sem.run_bind, run_underlying h, Result.andThen_ok]
  cases d <;> rfl
omit [Base] in
theorem run_typeInfo' {t : TypeId} {i : TypeInfo} (h : P.info? t = some i) : (typeInfo t).run P W = .ok i W := by
  simp [typeInfo, h]
omit [Base] in
theorem run_sizeOf' {t : TypeId} {i : TypeInfo} (h : P.info? t = some i) : (sizeOf t).run P W = .ok i.size W := by
  simp [sizeOf, run_typeInfo' h]
omit [Base] in
theorem run_zero' {t : TypeId} {i : TypeInfo} {z : Value} (h : P.info? t = some i) (hz : i.zero = some z) : (zeroValue t).run P W = .ok z W := by
  simp [zeroValue, run_typeInfo' h, hz]

def vload (T : TE) (vs : VS) (t : TypeId) (a : Addr) : Option Value :=
  match T.und t with
  | none => none
  | some d => bif aggD d then
      match T.inf t with
      | some i => match vread vs a i.size with
        | some l => some (.agg l.toArray)
        | none => none
      | none => none
    else match vread vs a 1 with
      | some [v] => some v
      | _ => none

theorem vload_run (h : G N0 W0 vs W μ) {t : TypeId} {a : Addr} {v : Value} (hv : vload T vs t a = some v) {l : Loc} (hl : μ a.block = some l) :
    ∃ v', (loadVar t (amap l a)).run P W = .ok v' W ∧ R μ v v' := by
  unfold vload at hv
  cases hu : T.und t with
  | none => rw [hu] at hv; cases hv
  | some d =>
    rw [hu] at hv
    simp only [Bool.cond_eq_ite] at hv
    unfold loadVar
    simp only [Sem.run_bind, run_isAgg' (TOk.und (P := P) hu), Result.andThen_ok]
    split at hv
    · rename_i hd
      simp only [hd, if_true]
      cases hi : T.inf t with
      | none => rw [hi] at hv; cases hv
      | some i =>
        rw [hi] at hv
        simp only at hv
        cases hr : vread vs a i.size with
        | none => rw [hr] at hv; cases hv
        | some xs =>
          rw [hr] at hv; cases hv
          obtain ⟨ys, h1, h2⟩ := h.run_load (P := P) hr hl
          refine ⟨.agg ys, by simp [Sem.run_bind, run_sizeOf' (TOk.inf (P := P) hi), h1], .agg _ _ h2.1 h2.2⟩
    · rename_i hd
      simp only [Bool.not_eq_true] at hd
      simp only [hd, Bool.false_eq_true, if_false]
      cases hr : vread vs a 1 with
      | none => rw [hr] at hv; cases hv
      | some xs =>
        obtain ⟨ys, h1, h2, h3, h4⟩ := h.read hr hl
        rw [hr] at hv
        match xs, ys, h1, h2, hv with
        | [x], [y], _, _, hv =>
          cases hv
          refine ⟨y, ?_, h4.2 0 v y (by simp) (by simp)⟩
          have := h3 0 y (by simp)
          have e : (amap l a).add 0 = amap l a := by simp [Addr.add]
          rw [e] at this
          simp [run_load, this]

def vpart (T : TE) (t : TypeId) (cs : Array Value) (off : Nat) : Option Value :=
  match T.und t with
  | none => none
  | some d => bif aggD d then
      match T.inf t with
      | some i => some (.agg ⟨(dropX off cs.toList).take i.size⟩)
      | none => none
    else cs.toList[off]?
omit [Base] in
theorem vpart_run {t : TypeId} {cs cs' : Array Value} {off : Nat} {v : Value} (hv : vpart T t cs off = some v) (hc : RA μ cs cs') : ∃ v', (part t cs' off).run P W = .ok v' W ∧ R μ v v' := by
  unfold vpart at hv
  cases hu : T.und t with
  | none => rw [hu] at hv; cases hv
  | some d =>
    rw [hu] at hv
    simp only [Bool.cond_eq_ite] at hv
    unfold part
    simp only [Sem.run_bind, run_isAgg' (TOk.und (P := P) hu), Result.andThen_ok]
    split at hv
    · rename_i hd
      simp only [hd, if_true]
      cases hi : T.inf t with
      | none => rw [hi] at hv; cases hv
      | some i =>
        rw [hi] at hv; cases hv
        have := hc.extract off (off + i.size)
        have e : cs.extract off (off + i.size) = ⟨(dropX off cs.toList).take i.size⟩ := by
          apply Array.ext'
          simp [dropX_eq, List.extract]
        rw [e] at this
        exact ⟨.agg (cs'.extract off (off + i.size)), by simp [run_sizeOf' (TOk.inf (P := P) hi)], .agg _ _ this.1 this.2⟩
    · rename_i hd
      simp only [Bool.not_eq_true] at hd
      simp only [hd, Bool.false_eq_true, if_false]
      obtain ⟨y, h1, h2⟩ := hc.get (by simpa using hv)
      exact ⟨y, by simp [h1], h2⟩

end Go.Ev

/-
  Lists in the place of arrays: what the kernel reckons with.
-/
namespace Go.Ev
open Go.RowKit
variable [Base]

def lfill (place : Nat → Option (Nat × Nat)) (cs : List Value) : List (Nat × Value) → Option (List Value)
  | [] => some cs
  | (i, v) :: rest => match place i with
    | none => none
    | some (off, size) => bif Nat.beq v.cells.toList.length size && Nat.ble (off + size) cs.length then lfill place (cs.take off ++ (v.cells.toList ++ cs.drop (off + size))) rest else none

omit [Base] in
theorem fold_get (off : Nat) : ∀ (l : List Value) (k : Nat) (cs : Array Value) (i : Nat), off + k + l.length ≤ cs.size →
    ((l.zipIdx k).foldl (fun cs (c, j) => cs.setIfInBounds (off + j) c) cs)[i]? = if off + k ≤ i ∧ i < off + k + l.length then l[i - (off + k)]? else cs[i]?
  | [], k, cs, i, _ => by
    have : ¬ (off + k ≤ i ∧ i < off + k + 0) := by omega
    simp only [List.zipIdx_nil, List.foldl_nil, List.length_nil, if_neg this]
  | v :: l, k, cs, i, h => by
    simp only [List.length_cons] at h
    simp only [List.zipIdx_cons, List.foldl_cons]
    rw [fold_get off l (k + 1) _ i (by simp; omega), Array.getElem?_setIfInBounds]
    by_cases h1 : off + (k + 1) ≤ i ∧ i < off + (k + 1) + l.length
    · rw [if_pos h1, if_pos (by simp; omega)]
      have : i - (off + k) = (i - (off + (k + 1))) + 1 := by omega
      rw [this, List.getElem?_cons_succ]
    · rw [if_neg h1]
      by_cases h2 : off + k = i
      · subst h2
        rw [if_pos rfl, if_pos (by omega), if_pos (by simp)]
        simp
      · rw [if_neg h2, if_neg (by simp; omega)]

omit [Base] in
theorem fill_list (place : Nat → Option (Nat × Nat)) : ∀ (l : List (Nat × Value)) (cs r : List Value), lfill place cs l = some r → Instr.fill place cs.toArray l = some r.toArray
  | [], cs, r, h => by simp only [lfill] at h; cases h; rfl
  | (i, v) :: rest, cs, r, h => by
    simp only [lfill] at h
    simp only [Instr.fill]
    cases hp : place i with
    | none => rw [hp] at h; cases h
    | some os =>
      obtain ⟨off, size⟩ := os
      rw [hp] at h
      simp only [Bool.cond_eq_ite] at h ⊢
      split at h
      case isFalse => cases h
      rename_i hc
      simp only [Bool.and_eq_true, Nat.beq_eq, Nat.ble_eq, Array.length_toList] at hc
      obtain ⟨h1, h2⟩ := hc
      have hn : ¬ (((decide (v.cells.size ≠ size)) || decide (off + v.cells.size > cs.toArray.size)) = true) := by simp; omega
      rw [if_neg hn, ← fill_list place rest _ r h]
      congr 1
      apply Array.ext_getElem?
      intro j
      rw [← Array.foldl_toList, Array.toList_zipIdx, fold_get off v.cells.toList 0 cs.toArray j (by simp; omega)]
      simp only [List.getElem?_toArray, Nat.add_zero, Array.length_toList, h1]
      by_cases hj : off ≤ j ∧ j < off + size
      · rw [if_pos hj, List.getElem?_append_right (by simp; omega), List.getElem?_append_left (by simp; omega)]
        congr 1
        simp; omega
      · rw [if_neg hj]
        by_cases hj2 : j < off
        · rw [List.getElem?_append_left (by simp; omega), List.getElem?_take_of_lt hj2]
        · rw [List.getElem?_append_right (by simp; omega), List.getElem?_append_right (by simp; omega), List.getElem?_drop]
          congr 1
          simp; omega

def rep (zs : List Value) : Nat → List Value
  | 0 => []
  | n + 1 => zs ++ rep zs n
omit [Base] in
theorem rep_length (zs : List Value) : ∀ n, (rep zs n).length = n * zs.length
  | 0 => by simp [rep]
  | n + 1 => by simp [rep, rep_length zs n, Nat.add_mul]; omega
omit [Base] in
theorem rep_get (zs : List Value) : ∀ n i, i < n * zs.length → (rep zs n)[i]? = zs[i % zs.length]?
  | 0, i, h => by simp at h
  | n + 1, i, h => by
    simp only [rep]
    by_cases hi : i < zs.length
    · rw [List.getElem?_append_left hi, Nat.mod_eq_of_lt hi]
    · rw [List.getElem?_append_right (by omega), rep_get zs n _ (by rw [Nat.add_mul] at h; omega), ← Nat.mod_eq_sub_mod (by omega)]
omit [Base] in
theorem rep_zeros (zs : Array Value) (n : Nat) : (Array.range (n * zs.size)).map (zs[· % zs.size]!) = (rep zs.toList n).toArray := by
  apply Array.ext_getElem?
  intro i
  simp only [Array.getElem?_map, List.getElem?_toArray]
  by_cases hi : i < n * zs.size
  · rw [rep_get zs.toList n i (by simpa using hi)]
    have hpos : 0 < zs.size := by
      rcases Nat.eq_zero_or_pos zs.size with h | h
      · rw [h] at hi; simp at hi
      · exact h
    have hm : i % zs.size < zs.size := Nat.mod_lt _ hpos
    simp [hi, hm]
  · have h1 : (Array.range (n * zs.size))[i]? = none := by simp; omega
    have h2 : (rep zs.toList n)[i]? = none := by rw [List.getElem?_eq_none_iff, rep_length]; simp; omega
    rw [h1, h2]; rfl

omit [Base] in
theorem plainA_toList (a : Array Value) : plainA a = plainL a.toList := by cases a; rfl
omit [Base] in
theorem plainL_app : ∀ {a b : List Value}, plainL a = true → plainL b = true → plainL (a ++ b) = true
  | [], _, _, h => h
  | v :: a, b, h, k => by simp only [plainL, Bool.and_eq_true, List.cons_append] at *; exact ⟨h.1, plainL_app h.2 k⟩
omit [Base] in
theorem plain_rep {zs : List Value} (h : plainL zs = true) : ∀ n, plainL (rep zs n) = true
  | 0 => rfl
  | n + 1 => plainL_app h (plain_rep h n)

variable {N0 : Nat → Prop} {W0 W : World} {vs : VS} {μ : Mu} {P : Program} {T : TE} [TOk P T]

def placesOf (T : TE) : List Field → Option (List (Nat × Nat))
  | [] => some []
  | f :: l => match T.inf f.type, placesOf T l with
    | some i, some r => some ((f.offset, i.size) :: r)
    | _, _ => none
omit [Base] in
theorem placesOf_run : ∀ (l : List Field) (r : List (Nat × Nat)), placesOf T l = some r → (l.mapM fun f : Field => (do pure (f.offset, ← sizeOf f.type) : Sem (Nat × Nat))).run P W = .ok r W
  | [], r, h => by simp only [placesOf] at h; cases h; simp
  | f :: l, r, h => by
    simp only [placesOf] at h
    split at h
    case h_2 => cases h
    rename_i i r' hi hr
    cases h
    simp only [List.mapM_cons, Sem.run_bind, run_sizeOf' (TOk.inf (P := P) hi), Result.andThen_ok, Sem.run_pure, placesOf_run l r' hr]
omit [Base] in
theorem places_run {fields : Array Field} {r : List (Nat × Nat)} (h : placesOf T fields.toList = some r) : (fields.mapM fun f : Field => (do pure (f.offset, ← sizeOf f.type) : Sem (Nat × Nat))).run P W = .ok r.toArray W := by
  have e : fields = fields.toList.toArray := by simp
  rw [e, List.mapM_toArray, Sem.run_map, placesOf_run (P := P) fields.toList r h]
  rfl

end Go.Ev

/-
  The evaluator's operations that leave memory alone, one by one.
-/
namespace Go.Ev
open Go.RowKit
variable [Base]

def Sound (P : Program) (vs : VS) (ρ : Operand → Value) (o : Oper) (n : VN) : Prop :=
  ∀ (N0 : Nat → Prop) (W0 W : World) (μ : Mu) (ρ' : Operand → Value), G N0 W0 vs W μ → (∀ x ∈ o.op.operands, R μ (ρ x) (ρ' x)) → ∃ n', (execOp ρ' o).run P W = .ok n' W ∧ RN μ n n'

variable {P : Program} {T : TE} [TOk P T] {vs : VS} {ρ : Operand → Value} {o : Oper} {n : VN}

theorem sound_plain (hs : notSelect o.op = true) (h : vplain P ρ o = some n) : Sound P vs ρ o n := fun _ _ _ _ _ _ hρ => vplain_sound hs h hρ

theorem sound_move {x : Operand} (ho : o.op = .move x ∨ o.op = .assign x) : Sound P vs ρ o (.value (ρ x)) := by
  intro N0 W0 W μ ρ' hG hρ
  rcases ho with ho | ho <;> exact ⟨.value (ρ' x), by simp [execOp, ho], hρ x (by simp [ho, Op.operands])⟩

theorem sound_pick {c a b : Operand} {t : Bool} (ho : o.op = .pick c a b) (hc : ρ c = .bool t) : Sound P vs ρ o (.value (bif t then ρ a else ρ b)) := by
  intro N0 W0 W μ ρ' hG hρ
  have h1 := hρ c (by simp [ho, Op.operands])
  rw [hc] at h1
  have h2 := hρ a (by simp [ho, Op.operands])
  have h3 := hρ b (by simp [ho, Op.operands])
  cases t
  · exact ⟨.value (ρ' b), by simp [execOp, ho, h1.inv_bool, asBool], h3⟩
  · exact ⟨.value (ρ' a), by simp [execOp, ho, h1.inv_bool, asBool], h2⟩

theorem sound_load {t : TypeId} {x : Operand} {a : Addr} {v : Value} (ho : o.op = .load t x) (hx : ρ x = .pointer (some a)) (hv : vload T vs t a = some v) : Sound P vs ρ o (.value v) := by
  intro N0 W0 W μ ρ' hG hρ
  have h1 := hρ x (by simp [ho, Op.operands])
  rw [hx] at h1
  obtain ⟨l, hl, e⟩ := h1.inv_ptr
  obtain ⟨v', h2, h3⟩ := vload_run (P := P) hG hv hl
  exact ⟨.value v', by simp [execOp, ho, e, Instr.loadAt, Instr.sureAddr, h2], h3⟩

def nilOk : Value → Bool
  | .pointer (some _) => true
  | .func (.func _) _ _ => true
  | .iface _ _ => true
  | _ => false
theorem sound_nilCheck {x : Operand} (ho : o.op = .nilCheck x) (hx : nilOk (ρ x) = true) : Sound P vs ρ o (.value (ρ x)) := by
  intro N0 W0 W μ ρ' hG hρ
  have h1 := hρ x (by simp [ho, Op.operands])
  refine ⟨.value (ρ' x), ?_, h1⟩
  generalize hv : ρ x = v at *
  generalize hv' : ρ' x = v' at *
  cases h1 <;> first
    | (simp [nilOk] at hx; done)
    | (simp [execOp, ho, hv']; done)
    | skip
  rename_i fn _ _ _ _ _ _ _ _
  cases fn <;> first
    | (simp [nilOk] at hx; done)
    | (simp [execOp, ho, hv']; done)

def vfield (T : TE) (s : TypeId) (a : Addr) (f : Nat) : Option Value :=
  match T.und s with
  | some (.struct fields) => match fields.toList[f]? with
    | some fl => match T.inf fl.type with
      | some i => bif Nat.beq i.size 0 then none else some (.pointer (some (a.add fl.offset)))
      | none => none
    | none => none
  | _ => none
theorem sound_fieldAddr {s : TypeId} {x : Operand} {f : Nat} {a : Addr} {v : Value} (ho : o.op = .fieldAddr s x f) (hx : ρ x = .pointer (some a)) (hv : vfield T s a f = some v) : Sound P vs ρ o (.value v) := by
  intro N0 W0 W μ ρ' hG hρ
  have h1 := hρ x (by simp [ho, Op.operands])
  rw [hx] at h1
  obtain ⟨l, hl, e⟩ := h1.inv_ptr
  unfold vfield at hv
  split at hv
  case h_2 => cases hv
  rename_i fields hu
  split at hv
  case h_2 => cases hv
  rename_i fl hf
  have hf : fields[f]? = some fl := by simpa using hf
  split at hv
  case h_2 => cases hv
  rename_i i hi
  simp only [Bool.cond_eq_ite] at hv
  split at hv
  · cases hv
  · rename_i hz
    cases hv
    have hz' : ¬ i.size = 0 := fun e => hz (by rw [e]; rfl)
    refine ⟨.value (.pointer (some ((amap l a).add fl.offset))), ?_, ?_⟩
    · simp [execOp, ho, e, Instr.fieldAt, Instr.sureAddr, run_underlying (TOk.und (P := P) hu), hf, fieldPlace, run_sizeOf' (TOk.inf (P := P) hi), hz']
    · rw [amap_add]
      refine R.ptr _ l ?_
      unfold Addr.add; split <;> exact hl

def vindexAt (T : TE) (t : TypeId) (x i : Value) : Option Value :=
  match i with
  | .int _ n => match T.und t, x with
    | some (.array len elem), .pointer (some a) => match T.inf elem with
      | some inf => bif decide (0 ≤ n) && decide (n < len) then some (.pointer (some (a.add (n.toNat * inf.size)))) else none
      | none => none
    | some (.slice elem), .slice (some a) len _ => match T.inf elem with
      | some inf => bif decide (0 ≤ n) && decide (n < len) then some (.pointer (some (a.add (n.toNat * inf.size)))) else none
      | none => none
    | _, _ => none
  | _ => none
omit [Base] in
theorem R_ptr_add {μ : Mu} {a : Addr} {l : Loc} (hl : μ a.block = some l) (k : Nat) : R μ (.pointer (some (a.add k))) (.pointer (some ((amap l a).add k))) := by
  rw [amap_add]
  refine R.ptr _ l ?_
  unfold Addr.add; split <;> exact hl
theorem sound_indexAddr {t : TypeId} {x i : Operand} {v : Value} (ho : o.op = .indexAddr t x i) (hv : vindexAt T t (ρ x) (ρ i) = some v) : Sound P vs ρ o (.value v) := by
  intro N0 W0 W μ ρ' hG hρ
  have h1 := hρ x (by simp [ho, Op.operands])
  have h2 := hρ i (by simp [ho, Op.operands])
  generalize ρ x = vx at *
  generalize ρ i = vi at *
  unfold vindexAt at hv
  split at hv
  case h_2 => cases hv
  rename_i k n
  have ei := h2.inv_int
  split at hv
  · rename_i len elem a hu
    obtain ⟨l, hl, e⟩ := h1.inv_ptr
    split at hv
    case h_2 => cases hv
    rename_i inf hi
    simp only [Bool.cond_eq_ite] at hv
    split at hv
    case isFalse => cases hv
    rename_i hb
    simp only [Bool.and_eq_true, decide_eq_true_eq] at hb
    cases hv
    refine ⟨.value (.pointer (some ((amap l a).add (n.toNat * inf.size)))), ?_, R_ptr_add hl _⟩
    simp [execOp, ho, e, ei, Instr.indexAt, asIntOf, Instr.sureAddr, run_underlying (TOk.und (P := P) hu), run_sizeOf' (TOk.inf (P := P) hi), hb]
  · rename_i elem a len c hu
    obtain ⟨l, hl, _, e⟩ := h1.inv_slice
    split at hv
    case h_2 => cases hv
    rename_i inf hi
    simp only [Bool.cond_eq_ite] at hv
    split at hv
    case isFalse => cases hv
    rename_i hb
    simp only [Bool.and_eq_true, decide_eq_true_eq] at hb
    cases hv
    refine ⟨.value (.pointer (some ((amap l a).add (n.toNat * inf.size)))), ?_, R_ptr_add hl _⟩
    simp [execOp, ho, e, ei, Instr.indexAt, asIntOf, run_underlying (TOk.und (P := P) hu), run_sizeOf' (TOk.inf (P := P) hi), hb]
  · cases hv

theorem sound_extract {x : Operand} {ix : Nat} {a : Array Value} {v : Value} (ho : o.op = .extract x ix) (hx : ρ x = .tuple a) (hv : a.toList[ix]? = some v) : Sound P vs ρ o (.value v) := by
  intro N0 W0 W μ ρ' hG hρ
  have h1 := hρ x (by simp [ho, Op.operands])
  rw [hx] at h1
  obtain ⟨a', e, h2⟩ := h1.inv_tuple
  obtain ⟨y, h3, h4⟩ := h2.get (by simpa using hv)
  exact ⟨.value y, by simp [execOp, ho, e, Instr.extract, h3], h4⟩

theorem sound_field {t : TypeId} {x : Operand} {f : Nat} {fields : Array Field} {fl : Field} {a : Array Value} {v : Value} (ho : o.op = .field t x f) (hu : T.und t = some (.struct fields)) (hx : ρ x = .agg a) (hf : fields.toList[f]? = some fl) (hv : vpart T fl.type a fl.offset = some v) : Sound P vs ρ o (.value v) := by
  intro N0 W0 W μ ρ' hG hρ
  have h1 := hρ x (by simp [ho, Op.operands])
  rw [hx] at h1
  obtain ⟨a', e, h2⟩ := h1.inv_agg
  obtain ⟨y, h3, h4⟩ := vpart_run (P := P) (W := W) hv h2
  have hf : fields[f]? = some fl := by simpa using hf
  exact ⟨.value y, by simp [execOp, ho, e, Instr.field, run_underlying (TOk.und (P := P) hu), hf, asAgg, h3], h4⟩

theorem sound_index {t elem : TypeId} {x i : Operand} {k : IntKind} {m : Int} {len : Nat} {inf : TypeInfo} {a : Array Value} {v : Value} (ho : o.op = .index t x i) (hu : T.und t = some (.array len elem)) (hx : ρ x = .agg a) (hi : ρ i = .int k m)
    (hinf : T.inf elem = some inf) (hb : 0 ≤ m ∧ m < len) (hv : vpart T elem a (m.toNat * inf.size) = some v) : Sound P vs ρ o (.value v) := by
  intro N0 W0 W μ ρ' hG hρ
  have h1 := hρ x (by simp [ho, Op.operands])
  have h2 := hρ i (by simp [ho, Op.operands])
  rw [hx] at h1
  rw [hi] at h2
  obtain ⟨a', e, h3⟩ := h1.inv_agg
  obtain ⟨y, h4, h5⟩ := vpart_run (P := P) (W := W) hv h3
  exact ⟨.value y, by simp [execOp, ho, e, h2.inv_int, Instr.index, asIntOf, run_underlying (TOk.und (P := P) hu), run_sizeOf' (TOk.inf (P := P) hinf), hb, h4], h5⟩

def concrete : TypeDesc → Bool
  | .interface _ => false
  | _ => true
theorem sound_makeInterface {t : TypeId} {x : Operand} {d : TypeDesc} (ho : o.op = .makeInterface t x) (hu : T.und t = some d) (hd : concrete d = true) : Sound P vs ρ o (.value (.iface t (ρ x))) := by
  intro N0 W0 W μ ρ' hG hρ
  have h1 := hρ x (by simp [ho, Op.operands])
  refine ⟨.value (.iface t (ρ' x)), ?_, .iface _ _ _ h1⟩
  cases d <;> first
    | (simp [concrete] at hd; done)
    | (simp [execOp, ho, Instr.makeInterface, run_underlying (TOk.und (P := P) hu)]; done)

theorem sound_makeFunc {fn : Fn} {first captured : Array Operand} (ho : o.op = .makeFunc fn first captured) : Sound P vs ρ o (.value (.func fn ⟨first.toList.map ρ⟩ ⟨captured.toList.map ρ⟩)) := by
  intro N0 W0 W μ ρ' hG hρ
  have h1 : RA μ (first.map ρ) (first.map ρ') := RA.map fun x hx => hρ x (by simp [ho, Op.operands, hx])
  have h2 : RA μ (captured.map ρ) (captured.map ρ') := RA.map fun x hx => hρ x (by simp [ho, Op.operands, hx])
  rw [show first.map ρ = ⟨first.toList.map ρ⟩ from Array.ext' (by simp)] at h1
  rw [show captured.map ρ = ⟨captured.toList.map ρ⟩ from Array.ext' (by simp)] at h2
  exact ⟨.value (.func fn (first.map ρ') (captured.map ρ')), by simp [execOp, ho, Instr.makeFunc], .func _ _ _ _ _ h1.1 h2.1 h1.2 h2.2⟩


/- A slice of a slice, if room is left behind its beginning. -/
def bound (x : Option Value) (d : Nat) : Option Nat :=
  match x with
  | none => some d
  | some (.int _ i) => bif decide (0 ≤ i) then some i.toNat else none
  | _ => none
def vsliceAt (T : TE) (vs : VS) (t : TypeId) (a : Addr) (len cap : Nat) (lo hi : Option Value) : Option (Nat × Nat × Nat) :=
  match T.und t, find vs.heap a.block with
  | some (.slice elem), some B => match T.inf elem with
    | some inf => match bound hi len, bound lo 0 with
      | some h, some l => bif ((!B.grow) || Nat.beq inf.size B.esz) && Nat.ble h cap && Nat.ble l h then some (l, h, inf.size) else none
      | _, _ => none
    | none => none
  | _, _ => none

omit [Base] in
theorem bound_run {x x' : Option Value} {d b : Nat} {μ : Mu} (h : bound x d = some b) (hx : ∀ v, x = some v → ∃ v', x' = some v' ∧ R μ v v') (hn : x = none → x' = none) :
    (x' = none ∧ b = d) ∨ ∃ k i, x' = some (.int k i) ∧ 0 ≤ i ∧ b = i.toNat := by
  cases x with
  | none => rw [hn rfl]; simp [bound] at h; exact .inl ⟨rfl, h.symm⟩
  | some v =>
    obtain ⟨v', e, hr⟩ := hx v rfl
    unfold bound at h
    split at h
    · rename_i e; cases e
    · rename_i k i e
      cases e
      have := hr.inv_int
      subst this
      simp only [Bool.cond_eq_ite, decide_eq_true_eq] at h
      split at h
      case isFalse => cases h
      rename_i h0
      cases h
      exact .inr ⟨k, i, e, h0, rfl⟩
    · cases h

theorem slice_run {μ : Mu} {N0 : Nat → Prop} {W0 W : World} {t : TypeId} {a : Addr} {len cap l h sz : Nat} {lo hi lo' hi' : Option Value} (hG : G N0 W0 vs W μ) (hv : vsliceAt T vs t a len cap lo hi = some (l, h, sz))
    (hlo : ∀ v, lo = some v → ∃ v', lo' = some v' ∧ R μ v v') (hlo0 : lo = none → lo' = none) (hhi : ∀ v, hi = some v → ∃ v', hi' = some v' ∧ R μ v v') (hhi0 : hi = none → hi' = none)
    {L : Loc} (hL : μ a.block = some L) :
    l ≤ h ∧ h ≤ cap ∧ (L.extra = 0 ∨ L.esz = sz) ∧ (Instr.sliceAt t (.slice (some (amap L a)) len (cap + L.extra)) lo' hi' none).run P W =
      .ok (.slice (if cap + L.extra = l then some (amap L a) else some ((amap L a).add (l * sz))) (h - l) (cap + L.extra - l)) W := by
  unfold vsliceAt at hv
  split at hv
  case h_2 => cases hv
  rename_i elem B hu hf
  split at hv
  case h_2 => cases hv
  rename_i inf hinf
  split at hv
  case h_2 => cases hv
  rename_i h' l' eh el
  simp only [Bool.cond_eq_ite] at hv
  split at hv
  case isFalse => cases hv
  rename_i hc
  simp only [Bool.and_eq_true, Bool.or_eq_true, Bool.not_eq_true', Nat.ble_eq, Nat.beq_eq] at hc
  obtain ⟨⟨h1, h2⟩, h3⟩ := hc
  cases hv
  obtain ⟨L', c, z, e1, LL⟩ := hG.blocks _ _ (find_mem hf)
  rw [hL] at e1; cases e1
  refine ⟨h3, h2, h1.imp LL.fixed fun h1 => by rw [LL.esz, h1], ?_⟩
  rcases bound_run eh hhi hhi0 with ⟨rfl, e1⟩ | ⟨k1, i1, rfl, p1, e1⟩ <;> rcases bound_run el hlo hlo0 with ⟨rfl, e2⟩ | ⟨k2, i2, rfl, p2, e2⟩
  · subst e1; subst e2
    simp [Instr.sliceAt, run_underlying (TOk.und (P := P) hu), Instr.slice, Instr.sliceBounds, run_sizeOf' (TOk.inf (P := P) hinf)]
  · have q2 : i2 ≤ (h : Int) := by omega
    subst e1; subst e2
    simp [Instr.sliceAt, run_underlying (TOk.und (P := P) hu), Instr.slice, Instr.sliceBounds, Instr.sliceBound, asIntOf, p2, q2, run_sizeOf' (TOk.inf (P := P) hinf)]
  · have q1 : i1 ≤ (cap : Int) + L.extra := by omega
    subst e1; subst e2
    simp [Instr.sliceAt, run_underlying (TOk.und (P := P) hu), Instr.slice, Instr.sliceBounds, Instr.sliceBound, asIntOf, p1, q1, run_sizeOf' (TOk.inf (P := P) hinf)]
  · have q1 : i1 ≤ (cap : Int) + L.extra := by omega
    have q2 : i2 ≤ i1 := by omega
    subst e1; subst e2
    simp [Instr.sliceAt, run_underlying (TOk.und (P := P) hu), Instr.slice, Instr.sliceBounds, Instr.sliceBound, asIntOf, p1, q1, p2, Int.toNat_of_nonneg p1, q2, run_sizeOf' (TOk.inf (P := P) hinf)]

theorem sound_slice {t : TypeId} {x : Operand} {lo hi : Option Operand} {a : Addr} {len cap l h sz : Nat} (ho : o.op = .slice t x lo hi none) (hx : ρ x = .slice (some a) len cap) (hv : vsliceAt T vs t a len cap (lo.map ρ) (hi.map ρ) = some (l, h, sz)) (hne : l ≠ cap) :
    Sound P vs ρ o (.value (.slice (some (a.add (l * sz))) (h - l) (cap - l))) := by
  intro N0 W0 W μ ρ' hG hρ
  have h1 := hρ x (by simp [ho, Op.operands])
  rw [hx] at h1
  obtain ⟨L, hL, hex, e⟩ := h1.inv_slice
  obtain ⟨c1, c2, c3, hr⟩ := slice_run (P := P) (lo' := lo.map ρ') (hi' := hi.map ρ') hG hv
    (fun v hv => by
      obtain ⟨y, rfl, rfl⟩ := Option.map_eq_some_iff.1 hv
      exact ⟨ρ' y, rfl, hρ y (by simp [ho, Op.operands])⟩)
    (fun hv => by cases lo <;> simp_all)
    (fun v hv => by
      obtain ⟨y, rfl, rfl⟩ := Option.map_eq_some_iff.1 hv
      exact ⟨ρ' y, rfl, hρ y (by simp [ho, Op.operands])⟩)
    (fun hv => by cases hi <;> simp_all) hL
  have hne' : ¬ cap + L.extra = l := by omega
  rw [if_neg hne'] at hr
  refine ⟨.value (.slice (some ((amap L a).add (l * sz))) (h - l) (cap + L.extra - l)), ?_, ?_⟩
  · simp [execOp, ho, e, hr]
  · rw [amap_add]
    have e2 : cap + L.extra - l = cap - l + L.extra := by omega
    rw [e2]
    have hblk : (a.add (l * sz)).block = a.block := by unfold Addr.add; split <;> rfl
    have hoff : (a.add (l * sz)).off = a.off + l * sz := by unfold Addr.add; split <;> simp_all
    refine R.slice _ L _ _ (by rw [hblk]; exact hL) ?_
    rcases c3 with c3 | c3
    · exact .inl c3
    rcases hex with h0 | h0
    · exact .inl h0
    · refine .inr ?_
      rw [hoff, c3]
      rw [c3] at h0
      have : l * sz + (cap - l) * sz = cap * sz := by rw [← Nat.add_mul]; congr 1; omega
      omega

end Go.Ev
