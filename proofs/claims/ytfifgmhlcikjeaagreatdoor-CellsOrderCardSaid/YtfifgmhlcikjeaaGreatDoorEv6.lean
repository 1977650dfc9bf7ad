/-
  Functions of Go's library that the machine does by itself, as the evaluator takes them.
-/
import Derived.Test.YtfifgmhlcikjeaaGreatDoorGh
import GoSem.Extern.MathFloor
namespace Go.Ev
open Go.RowKit

def extTrunc : List Value → Option Value
  | [.float .f64 x] => match FloatKind.f64.decode x with
    | .nan _ t => if FloatKind.f64.format.quiet t = t then some (.float .f64 x) else none
    | d => some (.float .f64 (FloatKind.f64.encode (d.integral .zero)))
  | _ => none
theorem extTrunc_ok {args : List Value} {v : Value} (h : extTrunc args = some v) : plainB v = true ∧ ∃ x, args = [.float .f64 x] ∧ Extern.MathFloor.toIntegral "math.archTrunc" .zero #[.float .f64 x] = pure v := by
  unfold extTrunc at h
  split at h
  case h_2 => cases h
  rename_i x
  have e : Extern.MathFloor.toIntegral "math.archTrunc" .zero #[.float .f64 x] = (match FloatKind.f64.decode x with
    | .nan s t => if FloatKind.f64.format.quiet t = t then pure (.float .f64 x) else do
      let kept ← choose (.extern "math.Floor,Ceil,Trunc,RoundToEven.signallingNaN kept" 2)
      pure (.float .f64 (if kept == 1 then x else FloatKind.f64.encode (.nan s (FloatKind.f64.format.quiet t))))
    | d => pure (.float .f64 (FloatKind.f64.encode (d.integral .zero)))) := rfl
  refine ⟨?_, x, rfl, ?_⟩
  · split at h
    · split at h <;> cases h
      rfl
    · cases h; rfl
  · rw [e]
    cases hd : FloatKind.f64.decode x with
    | nan s t =>
      rw [hd] at h
      simp only at h
      split at h
      · rename_i hq; cases h; simp only [hq, if_true]
      · cases h
    | infinity s => rw [hd] at h; cases h; rfl
    | number s m p => rw [hd] at h; cases h; rfl

end Go.Ev
