/-
  The evaluator's pointers: as unsafe.Pointer and back, held against each other; functions that hand back what they are given.
-/
import Derived.Test.YtmoglfooadcemaaEvN
import Derived.Lib.Builder
namespace Go.Ev
open Go.RowKit

variable {P : Program} {T : TE} [TOk P T] {vs vs1 : VS} {ρ : Operand → Value} {o : Oper} {n : VN} {N0 : Nat → Prop} {W0 W : World} {μ : Mu}

def vunsafe (T : TE) (vs : VS) (src dst : TypeId) (a : Addr) : Option Value :=
  match find vs.heap a.block with
  | some B => bif a.spot.isNone && Nat.blt a.off B.cells.length then
      match T.und src, T.und dst with
      | some (.pointer t), some .unsafePointer => match T.inf t with
        | some i => bif Nat.beq i.size 0 then none else some (.pointer (some a))
        | none => none
      | some .unsafePointer, some (.pointer u) => match T.inf u with
        | some _ => bif B.whole && T.lies B.elem B.cells.length a.off u then some (.pointer (some a)) else none
        | none => none
      | _, _ => none
    else none
  | none => none
theorem sound_unsafe {src dst : TypeId} {x : Operand} {a : Addr} {v : Value} (ho : o.op = .convert src dst x) (hx : ρ x = .pointer (some a)) (h : vunsafe T vs src dst a = some v) : Sound P vs ρ o (.value v) := by
  intro N0 W0 W μ ρ' hG hρ
  have h1 := hρ x (by simp [ho, Op.operands])
  rw [hx] at h1
  obtain ⟨l, hl, e⟩ := h1.inv_ptr
  unfold vunsafe at h
  split at h
  case h_2 => cases h
  rename_i B hf
  simp only [Bool.cond_eq_ite] at h
  split at h
  case isFalse => cases h
  rename_i hb
  simp only [Bool.and_eq_true, Option.isNone_iff_eq_none, Nat.blt_eq] at hb
  obtain ⟨l', c, z, hm, L⟩ := hG.blocks _ _ (find_mem hf)
  rw [hl] at hm; cases hm
  have hsh : W.shape? (amap l a).block = some (B.elem, c.size) := by
    show W.shape? l.blk = _
    simp [World.shape?, L.at_]
  have hroom := L.room
  have hlen := L.len
  have hoff : (amap l a).off < c.size := by
    show l.off + a.off < c.size
    omega
  split at h
  · rename_i t hs hd
    split at h
    case h_2 => cases h
    rename_i i hi
    split at h
    · cases h
    rename_i hz
    cases h
    have hz' : i.size ≠ 0 := fun e => hz (by rw [e]; rfl)
    exact ⟨.value (.pointer (some (amap l a))), by simp [execOp, ho, e, Lib.run_to_unsafe W (amap l a) (TOk.und (P := P) hs) (TOk.und (P := P) hd) (TOk.inf (P := P) hi) hz' hsh hoff], .ptr a l hl⟩
  · rename_i u hs hd
    split at h
    case h_2 => cases h
    rename_i i hi
    split at h
    case isFalse => cases h
    rename_i hw
    simp only [Bool.and_eq_true] at hw
    cases h
    obtain ⟨w1, w2⟩ := L.whole hw.1
    have hlies : liesAt P P.depth B.elem (c.size / P.cellsOf B.elem) (amap l a).off u 1 = true := by
      have : (amap l a).off = a.off := by show l.off + a.off = a.off; omega
      rw [this, w2]
      exact TOk.lies hw.2
    exact ⟨.value (.pointer (some (amap l a))), by simp [execOp, ho, e, Lib.run_from_unsafe W (amap l a) (TOk.und (P := P) hs) (TOk.und (P := P) hd) (TOk.inf (P := P) hi) hsh hlies], .ptr a l hl⟩
  · cases h

/- Two pointers into one block. -/
def vptrEq (T : TE) (op : BinOp) (t : TypeId) (a b : Addr) : Option Value :=
  match T.und t with
  | some (.pointer e) => match T.inf e with
    | some i => bif Nat.beq a.block b.block && a.spot.isNone && b.spot.isNone && !(Nat.beq i.size 0) then
        match op with
        | .eql => some (.bool (Nat.beq a.off b.off))
        | .neq => some (.bool (!Nat.beq a.off b.off))
        | _ => none
      else none
    | none => none
  | _ => none
theorem sameAddr_block {a b : Addr} (h : a.block = b.block) : (sameAddr a b).run P W = .ok (a == b) W := by
  simp [sameAddr, h]
theorem sound_ptrEq {op : BinOp} {t u : TypeId} {x y : Operand} {a b : Addr} {v : Value} (ho : o.op = .binOp op t x y u) (hx : ρ x = .pointer (some a)) (hy : ρ y = .pointer (some b)) (h : vptrEq T op t a b = some v) : Sound P vs ρ o (.value v) := by
  intro N0 W0 W μ ρ' hG hρ
  have h1 := hρ x (by simp [ho, Op.operands])
  have h2 := hρ y (by simp [ho, Op.operands])
  rw [hx] at h1; rw [hy] at h2
  obtain ⟨l, hl, e⟩ := h1.inv_ptr
  obtain ⟨l', hl', e'⟩ := h2.inv_ptr
  unfold vptrEq at h
  split at h
  case h_2 => cases h
  rename_i te hu
  split at h
  case h_2 => cases h
  rename_i i hi
  simp only [Bool.cond_eq_ite] at h
  split at h
  case isFalse => cases h
  rename_i hb
  simp only [Bool.and_eq_true, Option.isNone_iff_eq_none, Nat.beq_eq, Bool.not_eq_true'] at hb
  obtain ⟨⟨⟨b1, b2⟩, b3⟩, b4⟩ := hb
  have hz : ¬ i.size = 0 := fun e => by rw [e] at b4; cases b4
  rw [← b1, hl] at hl'; cases hl'
  have heq : (amap l a == amap l b) = Nat.beq a.off b.off := by
    rw [Bool.eq_iff_iff, beq_iff_eq, Nat.beq_eq]
    simp [amap, b2, b3]
  have hrun : ∀ d : Nat, (Op.equalIn (d + 1) t (.pointer (some (amap l a))) (.pointer (some (amap l b)))).run P W = .ok (Nat.beq a.off b.off) W := fun d => by
    rw [← heq]
    simp [Op.equalIn, run_underlying (TOk.und (P := P) hu), run_sizeOf' (TOk.inf (P := P) hi), hz, sameAddr_block (P := P) (W := W) (a := amap l a) (b := amap l b) rfl]
  split at h
  · cases h
    refine ⟨.value (.bool (Nat.beq a.off b.off)), ?_, .bool _⟩
    have : binOp .eql t (.pointer (some (amap l a))) (.pointer (some (amap l b))) = (do pure (.bool (← Op.equal t (.pointer (some (amap l a))) (.pointer (some (amap l b)))))) := rfl
    simp [execOp, ho, e, e', eqGuard, this, Op.equal, Op.maxDepth, hrun 9999]
  · cases h
    refine ⟨.value (.bool (!Nat.beq a.off b.off)), ?_, .bool _⟩
    have : binOp .neq t (.pointer (some (amap l a))) (.pointer (some (amap l b))) = (do pure (.bool (!(← Op.equal t (.pointer (some (amap l a))) (.pointer (some (amap l b))))))) := rfl
    simp [execOp, ho, e, e', eqGuard, this, Op.equal, Op.maxDepth, hrun 9999]
  · cases h

/- A function that hands back what it is given. -/
def vident (T : TE) (ρ : Operand → Value) (c : Call) : Option VN :=
  match c.callee with
  | .value f => match ρ f, c.args.toList with
    | .func (.func g) first captured, [x] => match first.toList, captured.toList with
      | [], [] => bif T.idf g then some (.value (ρ x)) else none
      | _, _ => none
    | _, _ => none
  | _ => none
theorem sound_ident {c : Call} (ho : o.op = .call c) (h : vident T ρ c = some n) : Sound P vs ρ o n := by
  intro N0 W0 W μ ρ' hG hρ
  unfold vident at h
  split at h
  case h_2 => cases h
  rename_i f hc
  split at h
  case h_2 => cases h
  rename_i g first captured x hf ha
  split at h
  case h_2 => cases h
  rename_i q1 q2
  simp only [Bool.cond_eq_ite] at h
  split at h
  case isFalse => cases h
  rename_i hid
  cases h
  have ha' : c.args = #[x] := Array.ext' ha
  have h1 := hρ f (by simp [ho, Op.operands, Call.operands, hc])
  have h2 := hρ x (by simp [ho, Op.operands, Call.operands, hc, ha'])
  rw [hf] at h1
  obtain ⟨a', b', e, ra, rb⟩ := h1.inv_func
  have ea : a' = #[] := by have := ra.1; rw [show first = #[] from Array.ext' q1] at this; simp at this; exact Array.eq_empty_of_size_eq_zero this.symm
  have eb : b' = #[] := by have := rb.1; rw [show captured = #[] from Array.ext' q2] at this; simp at this; exact Array.eq_empty_of_size_eq_zero this.symm
  subst ea; subst eb
  refine ⟨.value (ρ' x), ?_, h2⟩
  have e1 : execOp ρ' o = callFunc g #[ρ' x] := by
    simp [execOp, ho, resolve, hc, e, Deferred.ofValue, invoke, ha']
  rw [e1]
  exact TOk.idf hid _ W

end Go.Ev
