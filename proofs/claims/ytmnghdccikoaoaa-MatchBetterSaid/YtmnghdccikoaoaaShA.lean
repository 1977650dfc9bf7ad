/-
  Package shape: what a tree is in memory; timesFit, fits.
-/
import Derived.Test.YtmnghdccikoaoaaRows
import Derived.WalkKit
import Derived.WalkSpells
import Derived.WalkLawsBesides
import Derived.Lib.Hide
import Derived.BigQuiet
import Derived.Deep.Quiet
import Derived.ChangeKeysEq
import Derived.WalkSmall
import Derived.Deep.Light
import Derived.Deep.QuietTactic
import Derived.StillTactics
namespace Go.Proofs.Ytmnghdccikoaoaa.Sh
open Go.RowKit

theorem ret_bool {a b : Bool} (h : a = b) : Ending.returned (.bool a) = .returned (.bool b) := by rw [h]

def timesFitI (a b : Int) : Bool := decide (0 ≤ a ∧ a ≤ 255 ∧ (b = -1 ∨ (a ≤ b ∧ b ≤ 255)))
theorem timesFit (a b : Int) (w : World) :
    Calls Try.prog 73 #[.int .i64 a, .int .i64 b] w fun e w' => e = .returned (.bool (timesFitI a b)) ∧ w = w' := by
  go_enter Try.func73, Try.ntmps73
  go_wp2
  all_goals go_ret
  all_goals exact ⟨ret_bool (by unfold timesFitI; rw [Bool.eq_iff_iff]; simp; try omega), rfl⟩

/- A tree, and the eight cells of it. -/
inductive Re where
  | mk (kind : Int) (s0 s1 s2 s3 : Int) (least most : Int) (kids : List Re)
def Re.kids : Re → List Re
  | .mk _ _ _ _ _ _ _ k => k
inductive Lies (W : World) : Re → List Value → Prop where
  | nil (k s0 s1 s2 s3 a b : Int) (sl : Option Addr) (cap : Nat) : Lies W (.mk k s0 s1 s2 s3 a b []) [.int .u8 k, .int .u64 s0, .int .u64 s1, .int .u64 s2, .int .u64 s3, .int .i64 a, .int .i64 b, .slice sl 0 cap]
  | row (k s0 s1 s2 s3 a b : Int) (kids : List Re) (l o : Nat) (cap : Nat) (cs : Nat → List Value) (hcap : kids.length ≤ cap) (hmax : cap ≤ maxLen)
      (hcell : ∀ i, i < kids.length → ∀ j v, (cs i)[j]? = some v → W.cell? ⟨l, o + i * 8 + j, none⟩ = some v)
      (hkid : ∀ i r, kids[i]? = some r → Lies W r (cs i)) :
      Lies W (.mk k s0 s1 s2 s3 a b kids) [.int .u8 k, .int .u64 s0, .int .u64 s1, .int .u64 s2, .int .u64 s3, .int .i64 a, .int .i64 b, .slice (some ⟨l, o, none⟩) kids.length cap]
theorem Lies.open {W : World} {r : Re} {cs : List Value} (h : Lies W r cs) : ∃ (k s0 s1 s2 s3 a b : Int) (kids : List Re) (sl : Option Addr) (cap : Nat),
    r = .mk k s0 s1 s2 s3 a b kids ∧ cs = [.int .u8 k, .int .u64 s0, .int .u64 s1, .int .u64 s2, .int .u64 s3, .int .i64 a, .int .i64 b, .slice sl kids.length cap] ∧ kids.length ≤ maxLen ∧
    ∀ i kid, kids[i]? = some kid → ∃ l o ks, sl = some ⟨l, o, none⟩ ∧ (∀ j v, ks[j]? = some v → W.cell? ⟨l, o + i * 8 + j, none⟩ = some v) ∧ Lies W kid ks := by
  cases h with
  | nil k s0 s1 s2 s3 a b sl cap => exact ⟨k, s0, s1, s2, s3, a, b, [], sl, cap, rfl, rfl, by simp, fun i kid h => by simp at h⟩
  | row k s0 s1 s2 s3 a b kids l o cap cs hcap hmax hcell hkid =>
    refine ⟨k, s0, s1, s2, s3, a, b, kids, some ⟨l, o, none⟩, cap, rfl, rfl, by omega, fun i kid h => ⟨l, o, cs i, rfl, hcell i ?_, hkid i kid h⟩⟩
    obtain ⟨hi, _⟩ := List.getElem?_eq_some_iff.mp h
    exact hi
theorem Lies.eight {W : World} {r : Re} {cs : List Value} (h : Lies W r cs) : cs.length = 8 := by cases h <;> rfl

def noSet (s0 s1 s2 s3 : Int) : Bool := decide (s0 = 0 ∧ s1 = 0 ∧ s2 = 0 ∧ s3 = 0)
theorem eqSet (s0 s1 s2 s3 : Int) (w : World) : (Op.equalIn 10000 31 (.agg #[.int .u64 s0, .int .u64 s1, .int .u64 s2, .int .u64 s3]) (.agg #[.int .u64 0, .int .u64 0, .int .u64 0, .int .u64 0])).run Try.prog w = .ok (noSet s0 s1 s2 s3) w := by
  have hi : ∃ i, Try.prog.info? 29 = some i := Option.isSome_iff_exists.mp (by kernel_rfl)
  obtain ⟨i, hi⟩ := hi
  have hp : Try.prog.plainKey 29 = true := by kernel_rfl
  have hc : Try.prog.cellsOf 29 = 1 := by kernel_rfl
  rw [run_equalIn_array w 9999 _ _ Try.underlying31 hi, hc]
  have e : List.range 4 = [0, 1, 2, 3] := rfl
  rw [e]
  have h0 : ∀ (a b c d : Int) (j : Nat) (v : Value), (#[Value.int .u64 a, .int .u64 b, .int .u64 c, .int .u64 d])[j]? = some v → ∀ w, (part 29 #[.int .u64 a, .int .u64 b, .int .u64 c, .int .u64 d] j).run Try.prog w = .ok v w := fun a b c d j v h w => run_part_plain w hp h
  have hq : ∀ (a b : Int) w, (Op.equalIn 9999 29 (.int .u64 a) (.int .u64 b)).run Try.prog w = .ok (a == b) w := fun a b w => run_equalIn_int w 9998 29 .u64 .u64 a b Try.underlying29
  have hs : noSet s0 s1 s2 s3 = ((s0 == 0) && ((s1 == 0) && ((s2 == 0) && (s3 == 0)))) := by
    unfold noSet; rw [Bool.eq_iff_iff]; simp
  have hn : ∀ (xs ys : Array Value), Op.eqItems 9999 29 1 xs ys [] = pure true := fun _ _ => rfl
  have hc : ∀ (xs ys : Array Value) (i : Nat) (is : List Nat) (a b : Int), (part 29 xs i).run Try.prog w = .ok (.int .u64 a) w → (part 29 ys i).run Try.prog w = .ok (.int .u64 b) w →
      (Op.eqItems 9999 29 1 xs ys (i :: is)).run Try.prog w = if (a == b) = true then (Op.eqItems 9999 29 1 xs ys is).run Try.prog w else .ok false w := by
    intro xs ys i is a b h1 h2
    rw [Op.eqItems, Nat.mul_one, Sem.run_bind, h1, Result.andThen_ok, Sem.run_bind, h2, Result.andThen_ok, Sem.run_bind, hq, Result.andThen_ok]
    cases a == b <;> simp
  rw [hs, hc _ _ 0 _ s0 0 (h0 _ _ _ _ _ _ rfl w) (h0 _ _ _ _ _ _ rfl w), hc _ _ 1 _ s1 0 (h0 _ _ _ _ _ _ rfl w) (h0 _ _ _ _ _ _ rfl w), hc _ _ 2 _ s2 0 (h0 _ _ _ _ _ _ rfl w) (h0 _ _ _ _ _ _ rfl w), hc _ _ 3 _ s3 0 (h0 _ _ _ _ _ _ rfl w) (h0 _ _ _ _ _ _ rfl w), hn]
  generalize (s0 == 0) = b0
  generalize (s1 == 0) = b1
  generalize (s2 == 0) = b2
  generalize (s3 == 0) = b3
  cases b0 <;> cases b1 <;> cases b2 <;> cases b3 <;> simp
def fitsI (k s0 s1 s2 s3 a b : Int) (n : Nat) : Bool :=
  if k = 1 ∨ k = 3 ∨ k = 4 then noSet s0 s1 s2 s3 && decide (a = 0 ∧ b = 0 ∧ n = 0)
  else if k = 2 then decide (a = 0 ∧ b = 0 ∧ n = 0)
  else if k = 5 ∨ k = 6 then noSet s0 s1 s2 s3 && decide (a = 0 ∧ b = 0 ∧ 2 ≤ n)
  else if k = 7 then noSet s0 s1 s2 s3 && timesFitI a b && decide (n = 1)
  else false
set_option maxRecDepth 100000 in
theorem fits (k s0 s1 s2 s3 a b : Int) (p : Option Addr) (n cap : Nat) (hn : n ≤ maxLen) (w : World) :
    Calls Try.prog 65 #[.agg #[.int .u8 k, .int .u64 s0, .int .u64 s1, .int .u64 s2, .int .u64 s3, .int .i64 a, .int .i64 b, .slice p n cap]] w
      fun e w' => e = .returned (.bool (fitsI k s0 s1 s2 s3 a b n)) ∧ Below w.heap.size w w' := by
  have heq := eqSet s0 s1 s2 s3
  by_cases ha : a = 0
  · go_enter Try.func65, Try.ntmps65
    go_wp2_with fail
    go_quiet (fail)
    go_wp2_with (go_at_call 73; refine (timesFit _ _ _).mono ?_; rintro e w' ⟨rfl, rfl⟩)
    all_goals go_ret
    all_goals refine ⟨ret_bool ?_, below_drewN ((Below.refl _ _).alloc (Nat.le_refl _) _) _⟩
    all_goals go_light
    all_goals (clear heq; unfold fitsI; simp_all <;> first | omega | (rw [Bool.eq_iff_iff]; simp; try omega))
  · go_enter Try.func65, Try.ntmps65
    go_wp2_with fail
    go_quiet (fail)
    go_wp2_with (go_at_call 73; refine (timesFit _ _ _).mono ?_; rintro e w' ⟨rfl, rfl⟩)
    all_goals go_ret
    all_goals refine ⟨ret_bool ?_, below_drewN ((Below.refl _ _).alloc (Nat.le_refl _) _) _⟩
    all_goals go_light
    all_goals (clear heq; unfold fitsI; simp_all <;> first | omega | (rw [Bool.eq_iff_iff]; simp; try omega))
end Go.Proofs.Ytmnghdccikoaoaa.Sh
