/-
  A chain of code in parts: what a part leaves is said with the memory that is used no more left open, so that each part is reckoned by itself.
-/
import Derived.Test.YtlagnklmfanmoaaGh
namespace Go.Ev
open Go.RowKit
variable [Base]

def dropSeq : Nat → Code → Code
  | k + 1, .seq _ b => dropSeq k b
  | _, c => c
def opsOf : Code → List Oper
  | .seq (.region _ os _) _ => os.toList
  | _ => []
/- Where a run stands: at code, or within a region's operations, code behind them. -/
inductive Cf where
  | code (n : Nat) (c : Code) (t : List Value) (vs : VS)
  | ops (n : Nat) (all l : List Oper) (b : Code) (t : List Value) (vs : VS)
noncomputable def Cf.told (op : OpE) (qt : QtE) (fx : FX) (call : CallE) (tl : Nat → Option RS) : Cf → Option VX
  | .code n c t vs => vcode op qt fx call tl n c t vs
  | .ops n all l b t vs => match vops op call all l t vs with
    | some (.normal t1 vs1) => vcode op qt fx call tl n b t1 vs1
    | r => r
noncomputable def Cf.step (op : OpE) (qt : QtE) (fx : FX) (call : CallE) (tl : Nat → Option RS) : Cf → Option Cf
  | .code (n + 1 + 1) (.seq (.region _ os false) b) t vs => some (.ops (n + 1) os.toList os.toList b t vs)
  | .code (n + 1) (.seq a b) t vs => match vcode op qt fx call tl n a t vs with
    | some (.normal t1 vs1) => some (.code n b t1 vs1)
    | _ => none
  | .code _ _ _ _ => none
  | .ops n _ [] b t vs => some (.code n b t vs)
  | .ops n all (o :: l) b t vs => bif vwanted all t o then match op vs (vev t) o with
      | some (.value v, vs1) => some (.ops n all l b (vput t o.dst v) vs1)
      | some (.skip, vs1) => some (.ops n all l b (vput t o.dst undef) vs1)
      | some (.enter f args, vs1) => match call f args vs1 with
        | some (.ret v, vs2) => some (.ops n all l b (vput t o.dst v) vs2)
        | _ => none
      | _ => none
    else some (.ops n all l b (vput t o.dst undef) vs)
noncomputable def Cf.run (op : OpE) (qt : QtE) (fx : FX) (call : CallE) (tl : Nat → Option RS) : Nat → Cf → Option Cf
  | 0, x => some x
  | k + 1, x => match x.step op qt fx call tl with
    | some y => y.run op qt fx call tl k
    | none => none

omit [Base] in
theorem Cf.step_told {op : OpE} {qt : QtE} {fx : FX} {call : CallE} {tl : Nat → Option RS} {x y : Cf} (h : x.step op qt fx call tl = some y) : x.told op qt fx call tl = y.told op qt fx call tl := by
  unfold Cf.step at h
  split at h
  · cases h
    simp only [Cf.told, vcode, cond_false]
    split <;> simp_all
  · split at h
    · rename_i e
      cases h
      simp only [Cf.told, vcode, e]
    · cases h
  · cases h
  · cases h
    simp only [Cf.told, vops]
  · simp only [Bool.cond_eq_ite] at h
    split at h
    · rename_i hw
      split at h
      · rename_i e
        cases h
        simp only [Cf.told, vops, hw, cond_true, e]
      · rename_i e
        cases h
        simp only [Cf.told, vops, hw, cond_true, e]
      · rename_i e
        split at h
        · rename_i e2
          cases h
          simp only [Cf.told, vops, hw, cond_true, e, e2]
        · cases h
      · cases h
    · rename_i hw
      cases h
      simp only [Cf.told, vops, Bool.cond_eq_ite, if_neg hw]
omit [Base] in
theorem Cf.run_told {op : OpE} {qt : QtE} {fx : FX} {call : CallE} {tl : Nat → Option RS} : ∀ {k : Nat} {x y : Cf}, x.run op qt fx call tl k = some y → x.told op qt fx call tl = y.told op qt fx call tl
  | 0, _, _, h => by simp only [Cf.run] at h; cases h; rfl
  | k + 1, x, y, h => by
    simp only [Cf.run] at h
    split at h
    · rename_i z e
      rw [Cf.step_told e, Cf.run_told h]
    · cases h
def Cf.vs : Option Cf → VS
  | some (.code _ _ _ vs) => vs
  | some (.ops _ _ _ _ _ vs) => vs
  | none => ⟨[], 0, 0, [], []⟩
def heapOf (x : Option Cf) : List (Nat × VB) := (Cf.vs x).heap
def objsOf (x : Option Cf) : List (Nat × VOb) := (Cf.vs x).objs

/- How a call goes on behind its code. -/
noncomputable def vfin (T : TE) (op : OpE) (qt : QtE) (fx : FX) (ng : Nat) (tbl : Nat → Option VF) (fuel : Nat) (call : CallE) (F : VF) (l : List VD) : Option VX → Option (VE × VS)
  | some (.ret t vs1) => vback ng l (vleave T op qt fx ng tbl fuel call F.results t vs1.dfr .ret vs1)
  | some (.normal t vs1) => vback ng l (vleave T op qt fx ng tbl fuel call F.results t vs1.dfr .ret vs1)
  | some (.pan v t vs1) => vback ng l (vleave T op qt fx ng tbl fuel call F.results t vs1.dfr (.pan v) vs1)
  | _ => none
end Go.Ev
