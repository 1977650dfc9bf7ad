/-
  Package shape: Right, for every tree.
-/
import Derived.Test.YtmnghdccikoaoaaShB
namespace Go.Proofs.Ytmnghdccikoaoaa.Sh
open Go.RowKit

def rightB (r : Re) : Bool := (rightG 200 r 10000).1
theorem below_of_but {p B : Nat} {a b : World} (h : But p a b) (hB : B ≤ p) (hB2 : B ≤ a.heap.size) : Below B a b := h.below hB hB2

theorem two_size {B : Nat} {w : World} {o : Obj} (h : B ≤ w.heap.size) : B ≤ (w.alloc o).heap.size := Nat.le_trans h ((Below.refl _ w).alloc (Nat.le_refl _) o).size
theorem alloc_size (w : World) (o : Obj) : (w.alloc o).heap.size = w.heap.size + 1 := by
  show (w.heap.push o).size = _
  simp
theorem two_new (w : World) (o : Obj) (v : Value) (t : TypeId) : ((w.alloc o).alloc (.cells #[v] t)).cell? ⟨w.heap.size + 1, 0, none⟩ = some v ∧ ((w.alloc o).alloc (.cells #[v] t)).frozen? ⟨w.heap.size + 1, 0, none⟩ = false := by
  have e : w.heap.size + 1 = (w.alloc o).heap.size := (alloc_size w o).symm
  constructor
  · rw [World.cell?_alloc_at _ _ _ _ e]; rfl
  · rw [World.frozen?_alloc_at _ _ _ _ e]
theorem two_below {w w2 : World} {o o' : Obj} (h : But (w.heap.size + 1) ((w.alloc o).alloc o') w2) : Below w.heap.size w w2 :=
  (((Below.refl _ w).alloc (Nat.le_refl _) o).alloc (two_size (Nat.le_refl _)) o').trans (h.below (Nat.le_succ _) (two_size (two_size (Nat.le_refl _))))

set_option maxRecDepth 100000 in
theorem Right (W0 : World) (r : Re) (cs : List Value) (w : World) (hr : Lies W0 r cs) (hb : Below W0.heap.size W0 w) :
    Calls Try.prog 33 #[.agg ⟨cs⟩] w fun e w' => e = .returned (.bool (rightB r)) ∧ Below w.heap.size w w' := by
  obtain ⟨k, s0, s1, s2, s3, a, b, kids, sl, cap, rfl, rfl, _, _⟩ := hr.open
  have HB := Lib.hid hb
  have HR := Lib.hid hr
  clear hb hr
  go_enter Try.func33, Try.ntmps33
  go_wp2_with (go_at_call 50; refine (right W0 200 _ _ 10000 (w.heap.size + 1) _ (by omega) (by omega) (by omega) HR.out ((HB.out.alloc HB.out.size _).alloc (two_size HB.out.size) _) (Nat.le_succ_of_le HB.out.size) (two_new _ _ _ _).1 (two_new _ _ _ _).2).mono ?_; rintro e w2 ⟨rfl, hw2⟩; have HW := Lib.hid hw2; clear hw2)
  go_ret
  refine ⟨?_, two_below HW.out.2.2⟩
  rfl
/- A region that draws, whose operations read, and whose calls make memory of their own: the worlds that have all that this one has. -/
structure Later (u : World) where
  w : World
  h : Below u.heap.size u w
instance (u : World) : Nonempty (Later u) := ⟨⟨u, Below.refl _ _⟩⟩
theorem wp_region_later {P : Program} {id : Nat} {Q : Exit → Act → World → Prop} {a : Act} {w : World} {l : List Oper} (hm : P.follows .mixedOrders = true) (hB : Region.lexB .any l.toArray = true)
    (h : wpQuiet P l.toArray (fun w' => ∃ x : Later w, w' = x.w) (fun a' => ∀ w', (∃ x : Later w, w' = x.w) → Q .normal a' w') l a) : (Code.region id l.toArray true).wp P Q a w :=
  wp_region_quiet (C := fun w' => ∃ x : Later w, w' = x.w) hm hB ⟨⟨{ w with drawn := w.drawn + 1 }, ⟨rfl, rfl, rfl, Nat.le_refl _, fun _ _ => rfl⟩⟩, rfl⟩ (by simpa using h)
theorem Later.cell {w : World} (x : Later w) {p : Addr} {v : Value} (h : w.cell? p = some v) : x.w.cell? p = some v := (x.h.cell (cell_lt h)).trans h
/- A call in such a region: what it makes lies behind. -/
theorem later_call {P : Program} {f : FuncId} {args : Array Value} {w : World} {x : Later w} {v : Value} (h : Calls P f args x.w fun e w' => e = .returned v ∧ Below x.w.heap.size x.w w') :
    Calls P f args x.w fun e w'' => e = .returned v ∧ ∃ y : Later w, w'' = y.w :=
  h.mono fun _ w' ⟨he, hb⟩ => ⟨he, ⟨w', x.h.trans (hb.mono x.h.size)⟩, rfl⟩
end Go.Proofs.Ytmnghdccikoaoaa.Sh
