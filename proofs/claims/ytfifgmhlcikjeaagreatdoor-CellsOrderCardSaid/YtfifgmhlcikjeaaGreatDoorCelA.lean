/-
  Package cells: what two cells of one sort are compared by, and how.
-/
import Derived.Test.YtfifgmhlcikjeaaGreatDoorRows
import Derived.WalkKit
import Derived.WalkSpells
import Derived.WalkLawsBesides
import Derived.Lib.Hide
import Derived.BigQuiet
import Derived.Deep.Quiet
import Derived.WalkSmall
import Derived.Below
namespace Go.Proofs.YtfifgmhlcikjeaaGreatDoor.Cel
open Go.RowKit

theorem frombits (n : Int) (w : World) : (callFunc 21 #[.int .u64 n]).run Tryz.prog w = .ok (.value (.float .f64 n.toNat)) w := by
  rw [run_callFunc_extern (e := Extern.MathFloatBits.float64frombits) Tryz.func21 (by kernel_rfl) (by kernel_rfl) (by kernel_rfl) (by kernel_rfl)]
  rfl
abbrev ordF (a b : Nat) : Option Ordering := FloatKind.f64.format.order a b
def nanF (a : Nat) : Bool := ordF a a != some Ordering.eq
def cmpF (a b : Nat) : Int := if nanF a = true then (if nanF b = true then 0 else -1) else if nanF b = true then 1 else if ordF a b = some .lt then -1 else if ordF a b = some .gt then 1 else 0

theorem isNaN (b : Nat) (w : World) :
    Calls Tryz.prog 52 #[.float .f64 b] w fun e w' => e = .returned (.bool (nanF b)) ∧ w = w' := by
  go_enter Tryz.func52, Tryz.ntmps52
  go_wp2
  go_ret
  exact ⟨rfl, rfl⟩
theorem cmpFloat (a b : Nat) (w : World) :
    Calls Tryz.prog 41 #[.float .f64 a, .float .f64 b] w fun e w' => e = .returned (.int .i64 (cmpF a b)) ∧ w = w' := by
  go_enter Tryz.func41, Tryz.ntmps41
  go_wp2_with (first
    | (go_at_call 52; refine (isNaN _ _).mono ?_; rintro e w' ⟨rfl, rfl⟩))
  all_goals go_ret
  all_goals refine ⟨?_, rfl⟩
  all_goals show Ending.returned (Value.int IntKind.i64 _) = _
  all_goals congr 2
  all_goals (unfold cmpF ordF; simp_all)
theorem isNaNS (s : ByteArray) (w : World) :
    Calls Tryz.prog 53 #[.string s] w fun e w' => e = .returned (.bool false) ∧ w = w' := by
  go_enter Tryz.func53, Tryz.ntmps53
  go_wp2
  go_ret
  refine ⟨?_, rfl⟩
  show Ending.returned (Value.bool _) = _
  simp
def cmpS (a b : ByteArray) : Int := if Op.bytesLess a.toList b.toList = true then -1 else if a.toList = b.toList then 0 else 1
theorem cmpStr (a b : ByteArray) (w : World) :
    Calls Tryz.prog 42 #[.string a, .string b] w fun e w' => e = .returned (.int .i64 (cmpS a b)) ∧ w = w' := by
  go_enter Tryz.func42, Tryz.ntmps42
  go_wp2_with (first
    | (go_at_call 53; refine (isNaNS _ _).mono ?_; rintro e w' ⟨rfl, rfl⟩))
  all_goals go_ret
  all_goals refine ⟨?_, rfl⟩
  all_goals show Ending.returned (Value.int IntKind.i64 _) = _
  all_goals congr 2
  all_goals (unfold cmpS; simp_all)

/- A cell. -/
def cellV (k n : Int) (s : ByteArray) : Value := .agg #[.int .u8 k, .int .u64 n, .string s]
theorem alloc_size (w : World) (o : Obj) : (w.alloc o).heap.size = w.heap.size + 1 := by
  show (w.heap.push o).size = _
  simp
theorem two_size {B : Nat} {w : World} {o : Obj} (h : B ≤ w.heap.size) : B ≤ (w.alloc o).heap.size := Nat.le_trans h ((Below.refl _ w).alloc (Nat.le_refl _) o).size
theorem box_below (w : World) (o : Obj) : Below w.heap.size w (w.alloc o) := (Below.refl _ _).alloc (Nat.le_refl _) o

def numericB (k : Int) : Bool := decide (k = 0 ∨ k = 1 ∨ k = 3)
theorem numeric (k n : Int) (s : ByteArray) (w : World) :
    Calls Tryz.prog 30 #[cellV k n s] w fun e w' => e = .returned (.bool (numericB k)) ∧ Below w.heap.size w w' := by
  unfold cellV
  go_enter Tryz.func30, Tryz.ntmps30
  go_wp2
  all_goals go_ret
  all_goals refine ⟨?_, box_below _ _⟩
  all_goals show Ending.returned (Value.bool _) = _
  all_goals congr 2
  all_goals (unfold numericB; simp_all)
theorem texts (k n : Int) (s : ByteArray) (w : World) :
    Calls Tryz.prog 20 #[cellV k n s] w fun e w' => e = .returned (.bool !(numericB k)) ∧ Below w.heap.size w w' := by
  unfold cellV
  go_enter Tryz.func20, Tryz.ntmps20
  go_wp2
  all_goals go_ret
  all_goals refine ⟨?_, box_below _ _⟩
  all_goals show Ending.returned (Value.bool _) = _
  all_goals congr 2
  all_goals unfold numericB
  all_goals first
    | (simp_all; done)
    | (rw [Bool.eq_iff_iff]; simp; omega)

def formI (n : Int) : Int := if nanF n.toNat = true then 9221120237041090561 else n
theorem isNaNM (b : Nat) (w : World) :
    Calls Tryz.prog 23 #[.float .f64 b] w fun e w' => e = .returned (.bool (nanF b)) ∧ w = w' := by
  go_enter Tryz.func23, Tryz.ntmps23
  go_wp2
  go_ret
  exact ⟨rfl, rfl⟩
theorem form (n : Int) (w : World) :
    Calls Tryz.prog 24 #[.int .u64 n] w fun e w' => e = .returned (.int .u64 (formI n)) ∧ w = w' := by
  have hfb := frombits
  go_enter Tryz.func24, Tryz.ntmps24
  go_wp2_with (go_at_call 23; refine (isNaNM _ _).mono ?_; rintro e w' ⟨rfl, rfl⟩)
  all_goals go_ret
  all_goals refine ⟨?_, rfl⟩
  all_goals show Ending.returned (Value.int IntKind.u64 _) = _
  all_goals congr 2
  all_goals (unfold formI; simp_all)

def bitsI (k n : Int) : Int := if k = 0 then 0 else formI n
theorem bits (k n : Int) (s : ByteArray) (w : World) (hk : ¬ k = 2) :
    Calls Tryz.prog 13 #[cellV k n s] w fun e w' => e = .returned (.int .u64 (bitsI k n)) ∧ Below w.heap.size w w' := by
  unfold cellV
  go_enter Tryz.func13, Tryz.ntmps13
  go_wp2_with (go_at_call 24; refine (form _ _).mono ?_; rintro e w' ⟨rfl, rfl⟩)
  all_goals go_ret
  all_goals refine ⟨?_, box_below _ _⟩
  all_goals show Ending.returned (Value.int IntKind.u64 _) = _
  all_goals congr 2
  all_goals (unfold bitsI; simp_all)
theorem num (k n : Int) (s : ByteArray) (w : World) (hk : ¬ k = 2) :
    Calls Tryz.prog 22 #[cellV k n s] w fun e w' => e = .returned (.float .f64 (bitsI k n).toNat) ∧ Below w.heap.size w w' := by
  have hfb := frombits
  unfold cellV
  go_enter Tryz.func22, Tryz.ntmps22
  go_wp2_with (go_at_call 13; refine (bits k n s _ hk).mono ?_; rintro e w1 ⟨rfl, hb⟩; have H1 := Lib.hid hb; clear hb)
  all_goals go_ret
  exact ⟨rfl, (box_below _ _).trans (H1.out.mono (two_size (Nat.le_refl _)))⟩
theorem told1 (k n : Int) (s : ByteArray) (w : World) (hk : ¬ k = 2) :
    Calls Tryz.prog 32 #[cellV k n s] w fun e w' => e = .returned (.tuple #[.float .f64 (bitsI k n).toNat, .int .i64 0]) ∧ Below w.heap.size w w' := by
  unfold cellV
  go_enter Tryz.func32, Tryz.ntmps32
  go_wp2_with (go_at_call 22; refine (num k n s _ hk).mono ?_; rintro e w1 ⟨rfl, hb⟩; have H1 := Lib.hid hb; clear hb)
  all_goals go_ret2
  exact ⟨rfl, (box_below _ _).trans (H1.out.mono (two_size (Nat.le_refl _)))⟩

def textI (k : Int) (s : ByteArray) : ByteArray := if k = 2 ∨ k = 3 then s else ⟨#[]⟩
theorem textOf (k n : Int) (s f : ByteArray) (w : World) (hk : ¬ k = 1) :
    Calls Tryz.prog 29 #[cellV k n s, .string f] w fun e w' => e = .returned (.tuple #[.string (textI k s), .int .i64 0]) ∧ Below w.heap.size w w' := by
  unfold cellV
  go_enter Tryz.func29, Tryz.ntmps29
  go_wp2
  all_goals go_ret2
  all_goals refine ⟨?_, box_below _ _⟩
  all_goals show Ending.returned (Value.tuple #[.string _, .int .i64 0]) = _
  all_goals congr 4
  all_goals (unfold textI; simp_all)
end Go.Proofs.YtfifgmhlcikjeaaGreatDoor.Cel
