/-
  A small evaluator for closed calls, told by the kernel, and what it says of the machine: the part on values and memory.
-/
import Derived.WalkKit
import Derived.Below
import Derived.Deep.Quiet
import Derived.Laws.Cells
namespace Go.Ev
open Go.RowKit

/- Where a block of the evaluator lies in the world. -/
structure Loc where
  blk : Nat
  off : Nat
  extra : Nat
  esz : Nat
  len : Nat

abbrev Mu := Nat → Option Loc
def Mu.le (μ ν : Mu) : Prop := ∀ a l, μ a = some l → ν a = some l
theorem Mu.le_refl (μ : Mu) : μ.le μ := fun _ _ h => h
theorem Mu.le_trans {a b c : Mu} (h : a.le b) (k : b.le c) : a.le c := fun _ _ x => k _ _ (h _ _ x)

def amap (l : Loc) (a : Addr) : Addr := ⟨l.blk, l.off + a.off, a.spot⟩

inductive R (μ : Mu) : Value → Value → Prop
  | bool (b : Bool) : R μ (.bool b) (.bool b)
  | int (k : IntKind) (n : Int) : R μ (.int k n) (.int k n)
  | float (k : FloatKind) (n : Nat) : R μ (.float k n) (.float k n)
  | complex (k : FloatKind) (a b : Nat) : R μ (.complex k a b) (.complex k a b)
  | string (s : ByteArray) : R μ (.string s) (.string s)
  | nilptr : R μ (.pointer none) (.pointer none)
  | ptr (a : Addr) (l : Loc) (h : μ a.block = some l) : R μ (.pointer (some a)) (.pointer (some (amap l a)))
  | nilslice (n c : Nat) : R μ (.slice none n c) (.slice none n c)
  | slice (a : Addr) (l : Loc) (n c : Nat) (h : μ a.block = some l) (hx : l.extra = 0 ∨ a.off + c * l.esz = l.len) : R μ (.slice (some a) n c) (.slice (some (amap l a)) n (c + l.extra))
  | nilmap : R μ (.map none) (.map none)
  | map (r : Nat) (l : Loc) (h : μ r = some l) : R μ (.map (some r)) (.map (some l.blk))
  | nilFunc : R μ .nilFunc .nilFunc
  | nilIface : R μ .nilIface .nilIface
  | func (fn : Fn) (a b a' b' : Array Value) (ha : a.size = a'.size) (hb : b.size = b'.size)
      (ra : ∀ (i : Nat) x y, a[i]? = some x → a'[i]? = some y → R μ x y) (rb : ∀ (i : Nat) x y, b[i]? = some x → b'[i]? = some y → R μ x y) : R μ (.func fn a b) (.func fn a' b')
  | iface (t : TypeId) (v v' : Value) (h : R μ v v') : R μ (.iface t v) (.iface t v')
  | agg (a a' : Array Value) (ha : a.size = a'.size) (ra : ∀ (i : Nat) x y, a[i]? = some x → a'[i]? = some y → R μ x y) : R μ (.agg a) (.agg a')
  | tuple (a a' : Array Value) (ha : a.size = a'.size) (ra : ∀ (i : Nat) x y, a[i]? = some x → a'[i]? = some y → R μ x y) : R μ (.tuple a) (.tuple a')

def RA (μ : Mu) (a a' : Array Value) : Prop := a.size = a'.size ∧ ∀ (i : Nat) x y, a[i]? = some x → a'[i]? = some y → R μ x y

theorem R.mono {μ ν : Mu} (hl : μ.le ν) {v v' : Value} (h : R μ v v') : R ν v v' := by
  induction h with
  | bool b => exact .bool b
  | int k n => exact .int k n
  | float k n => exact .float k n
  | complex k a b => exact .complex k a b
  | string s => exact .string s
  | nilptr => exact .nilptr
  | ptr a l h => exact .ptr a l (hl _ _ h)
  | nilslice n c => exact .nilslice n c
  | slice a l n c h hx => exact .slice a l n c (hl _ _ h) hx
  | nilmap => exact .nilmap
  | map r l h => exact .map r l (hl _ _ h)
  | nilFunc => exact .nilFunc
  | nilIface => exact .nilIface
  | func fn a b a' b' ha hb _ _ ia ib => exact .func fn a b a' b' ha hb ia ib
  | iface t v v' _ ih => exact .iface t v v' ih
  | agg a a' ha _ ia => exact .agg a a' ha ia
  | tuple a a' ha _ ia => exact .tuple a a' ha ia
theorem RA.mono {μ ν : Mu} (hl : μ.le ν) {a a' : Array Value} (h : RA μ a a') : RA ν a a' := ⟨h.1, fun i x y hx hy => (h.2 i x y hx hy).mono hl⟩

theorem arr_ext {a b : Array Value} (hs : a.size = b.size) (h : ∀ (i : Nat) x y, a[i]? = some x → b[i]? = some y → x = y) : a = b := by
  apply Array.ext hs
  intro i h1 h2
  exact h i _ _ (by simp [h1]) (by simp [h2])

/- One value of the evaluator is one value of the world. -/
theorem R.fn {μ : Mu} {v a b : Value} (h : R μ v a) (k : R μ v b) : a = b := by
  induction h generalizing b with
  | ptr x l h => cases k with | ptr _ m h' => rw [h] at h'; cases h'; rfl
  | slice x l n c h _ => cases k with | slice _ m _ _ h' => rw [h] at h'; cases h'; rfl
  | map r l h => cases k with | map _ m h' => rw [h] at h'; cases h'; rfl
  | func fn p q p' q' hp hq rp rq ip iq =>
    cases k with
    | func _ _ _ p'' q'' hp' hq' rp' rq' =>
      have e1 : p' = p'' := arr_ext (hp.symm.trans hp') fun i x y hx hy => by
        have hi : i < p.size := by
          have := (Array.getElem?_eq_some_iff.1 hx).1; omega
        exact ip i p[i] x (by simp [hi]) hx (rp' i p[i] y (by simp [hi]) hy)
      have e2 : q' = q'' := arr_ext (hq.symm.trans hq') fun i x y hx hy => by
        have hi : i < q.size := by
          have := (Array.getElem?_eq_some_iff.1 hx).1; omega
        exact iq i q[i] x (by simp [hi]) hx (rq' i q[i] y (by simp [hi]) hy)
      rw [e1, e2]
  | iface t v v' _ ih => cases k with | iface _ _ v'' h' => rw [ih h']
  | agg p p' hp rp ip =>
    cases k with
    | agg _ p'' hp' rp' =>
      have e1 : p' = p'' := arr_ext (hp.symm.trans hp') fun i x y hx hy => by
        have hi : i < p.size := by
          have := (Array.getElem?_eq_some_iff.1 hx).1; omega
        exact ip i p[i] x (by simp [hi]) hx (rp' i p[i] y (by simp [hi]) hy)
      rw [e1]
  | tuple p p' hp rp ip =>
    cases k with
    | tuple _ p'' hp' rp' =>
      have e1 : p' = p'' := arr_ext (hp.symm.trans hp') fun i x y hx hy => by
        have hi : i < p.size := by
          have := (Array.getElem?_eq_some_iff.1 hx).1; omega
        exact ip i p[i] x (by simp [hi]) hx (rp' i p[i] y (by simp [hi]) hy)
      rw [e1]
  | _ => cases k; rfl
theorem RA.fn {μ : Mu} {v a b : Array Value} (h : RA μ v a) (k : RA μ v b) : a = b :=
  arr_ext (h.1.symm.trans k.1) fun i x y hx hy => by
    have hi : i < v.size := by
      have := (Array.getElem?_eq_some_iff.1 hx).1; have := h.1; omega
    exact (h.2 i v[i] x (by simp [hi]) hx).fn (k.2 i v[i] y (by simp [hi]) hy)

mutual
def plainB : Value → Bool
  | .bool _ | .int _ _ | .float _ _ | .complex _ _ _ | .string _ | .nilFunc | .nilIface => true
  | .pointer a => a.isNone
  | .slice a _ _ => a.isNone
  | .map r => r.isNone
  | .chan _ => false
  | .func _ a b => plainA a && plainA b
  | .iface _ v => plainB v
  | .agg a => plainA a
  | .tuple a => plainA a
def plainA : Array Value → Bool
  | ⟨l⟩ => plainL l
def plainL : List Value → Bool
  | [] => true
  | v :: l => plainB v && plainL l
end

theorem plainL_get : ∀ {l : List Value} {i : Nat} {x : Value}, plainL l = true → l[i]? = some x → plainB x = true
  | v :: l, 0, x, h, hx => by simp [plainL] at h; simp at hx; exact hx ▸ h.1
  | v :: l, i + 1, x, h, hx => by simp [plainL] at h; simp at hx; exact plainL_get h.2 hx
theorem plainA_get {a : Array Value} {i : Nat} {x : Value} (h : plainA a = true) (hx : a[i]? = some x) : plainB x = true := by
  obtain ⟨l⟩ := a
  exact plainL_get (l := l) (by simpa [plainA] using h) (by simpa using hx)

theorem R.plain {μ : Mu} {v v' : Value} (h : R μ v v') : plainB v = true → v' = v := by
  induction h with
  | ptr a l h => intro hp; simp [plainB] at hp
  | slice a l n c h => intro hp; simp [plainB] at hp
  | map r l h => intro hp; simp [plainB] at hp
  | func fn a b a' b' ha hb ra rb ia ib =>
    intro hp
    simp only [plainB, Bool.and_eq_true] at hp
    have e1 : a' = a := arr_ext ha.symm fun i x y hx hy => ia i y x hy hx (plainA_get hp.1 hy)
    have e2 : b' = b := arr_ext hb.symm fun i x y hx hy => ib i y x hy hx (plainA_get hp.2 hy)
    rw [e1, e2]
  | iface t v v' _ ih => intro hp; simp only [plainB] at hp; rw [ih hp]
  | agg a a' ha ra ia =>
    intro hp
    simp only [plainB] at hp
    rw [arr_ext ha.symm fun i x y hx hy => ia i y x hy hx (plainA_get hp hy)]
  | tuple a a' ha ra ia =>
    intro hp
    simp only [plainB] at hp
    rw [arr_ext ha.symm fun i x y hx hy => ia i y x hy hx (plainA_get hp hy)]
  | _ => intro _; rfl

mutual
theorem plain_self (μ : Mu) : ∀ v, plainB v = true → R μ v v
  | .bool b, _ => .bool b
  | .int k n, _ => .int k n
  | .float k n, _ => .float k n
  | .complex k a b, _ => .complex k a b
  | .string s, _ => .string s
  | .nilFunc, _ => .nilFunc
  | .nilIface, _ => .nilIface
  | .pointer none, _ => .nilptr
  | .pointer (some _), h => by simp [plainB] at h
  | .slice none n c, _ => .nilslice n c
  | .slice (some _) _ _, h => by simp [plainB] at h
  | .map none, _ => .nilmap
  | .map (some _), h => by simp [plainB] at h
  | .chan _, h => by simp [plainB] at h
  | .func fn a b, h => by
    simp only [plainB, Bool.and_eq_true] at h
    exact .func fn a b a b rfl rfl (fun i x y hx hy => by rw [hx] at hy; cases hy; exact plainA_self μ a h.1 i x hx) (fun i x y hx hy => by rw [hx] at hy; cases hy; exact plainA_self μ b h.2 i x hx)
  | .iface t v, h => .iface t v v (plain_self μ v (by simpa [plainB] using h))
  | .agg a, h => .agg a a rfl fun i x y hx hy => by rw [hx] at hy; cases hy; exact plainA_self μ a (by simpa [plainB] using h) i x hx
  | .tuple a, h => .tuple a a rfl fun i x y hx hy => by rw [hx] at hy; cases hy; exact plainA_self μ a (by simpa [plainB] using h) i x hx
theorem plainA_self (μ : Mu) : ∀ (a : Array Value), plainA a = true → ∀ (i : Nat) x, a[i]? = some x → R μ x x
  | ⟨l⟩, h, i, x, hx => plainL_self μ l (by simpa [plainA] using h) i x (by simpa using hx)
theorem plainL_self (μ : Mu) : ∀ (l : List Value), plainL l = true → ∀ (i : Nat) x, l[i]? = some x → R μ x x
  | v :: l, h, 0, x, hx => by simp [plainL] at h; simp at hx; exact hx ▸ plain_self μ v h.1
  | v :: l, h, i + 1, x, hx => by simp [plainL] at h; simp at hx; exact plainL_self μ l h.2 i x hx
end
theorem RA_self (μ : Mu) {a : Array Value} (h : plainA a = true) : RA μ a a := ⟨rfl, fun i x y hx hy => by rw [hx] at hy; cases hy; exact plainA_self μ a h i x hx⟩
theorem RA.plain {μ : Mu} {a a' : Array Value} (h : RA μ a a') (hp : plainA a = true) : a' = a := h.fn (RA_self μ hp)

end Go.Ev
