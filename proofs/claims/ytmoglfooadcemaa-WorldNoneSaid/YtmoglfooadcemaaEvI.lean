/-
  The evaluator's operations that make or write memory: slices at an end, of arrays, written out; bytes of a text; copy.
-/
import Derived.Test.YtmoglfooadcemaaEvH
namespace Go.Ev
open Go.RowKit

variable {P : Program} {T : TE} [TOk P T] {vs vs1 : VS} {ρ : Operand → Value} {o : Oper} {n : VN}

theorem operand_rel {μ : Mu} {ρ' : Operand → Value} {x : Option Operand} (h : ∀ y, x = some y → R μ (ρ y) (ρ' y)) : (∀ v, x.map ρ = some v → ∃ v', x.map ρ' = some v' ∧ R μ v v') ∧ (x.map ρ = none → x.map ρ' = none) := by
  cases x with
  | none => exact ⟨fun v hv => by simp at hv, fun _ => rfl⟩
  | some y => exact ⟨fun v hv => by simp at hv; subst hv; exact ⟨ρ' y, rfl, h y rfl⟩, fun hv => by simp at hv⟩

def vsliceEnd (vs : VS) (a : Addr) : Option (VN × VS) :=
  match find vs.heap a.block with
  | some B => bif a.spot.isNone && Nat.ble a.off B.cells.length then some (.value (.slice (some ⟨vs.next, 0, none⟩) 0 0), vs.add ⟨[], B.elem, B.esz, B.fam, B.rw, B.grow, false, false⟩) else none
  | none => none

theorem sound_sliceEnd {t : TypeId} {x : Operand} {lo hi : Option Operand} {a : Addr} {len cap h sz : Nat} (ho : o.op = .slice t x lo hi none) (hx : ρ x = .slice (some a) len cap) (hv : vsliceAt T vs t a len cap (lo.map ρ) (hi.map ρ) = some (cap, h, sz)) (hn : vsliceEnd vs a = some (n, vs1)) :
    SoundM P vs ρ o n vs1 := by
  intro N0 W0 W μ ρ' hG hρ
  have h1 := hρ x (by simp [ho, Op.operands])
  rw [hx] at h1
  obtain ⟨L, hL, hex, e⟩ := h1.inv_slice
  have olo := operand_rel (μ := μ) (ρ := ρ) (ρ' := ρ') (x := lo) fun y hy => hρ y (by simp [ho, Op.operands, hy])
  have ohi := operand_rel (μ := μ) (ρ := ρ) (ρ' := ρ') (x := hi) fun y hy => hρ y (by simp [ho, Op.operands, hy])
  obtain ⟨c1, c2, c3, hr⟩ := slice_run (P := P) hG hv olo.1 olo.2 ohi.1 ohi.2 hL
  have hh : h = cap := by omega
  subst hh
  unfold vsliceEnd at hn
  split at hn
  case h_2 => cases hn
  rename_i B hf
  simp only [Bool.cond_eq_ite] at hn
  split at hn
  case isFalse => cases hn
  rename_i hb
  simp only [Bool.and_eq_true, Option.isNone_iff_eq_none, Nat.ble_eq] at hb
  cases hn
  obtain ⟨L', c, z, e1, LL⟩ := hG.blocks _ _ (find_mem hf)
  rw [hL] at e1; cases e1
  have hlen := LL.len
  have hroom := LL.room
  have key : ∀ off, off + L.extra * L.esz ≤ c.size → G N0 W0 (vs.add ⟨[], B.elem, B.esz, B.fam, B.rw, B.grow, false, false⟩) W (μ.put vs.next ⟨L.blk, off, L.extra, L.esz, 0⟩) := fun off hoff =>
    hG.add (c := c) (z := z) ⟨LL.at_, LL.own, rfl, LL.esz, by simpa using hoff, LL.fixed, (fun x => by cases x), (fun x => by cases x), fun i v hv => by simp at hv⟩
      (fun id' B' hm hfam l' hl' => hG.apart id' B' _ B hm (find_mem hf) hfam l' L hl' hL)
  have rs : ∀ off, R (μ.put vs.next ⟨L.blk, off, L.extra, L.esz, 0⟩) (.slice (some ⟨vs.next, 0, none⟩) 0 0) (.slice (some ⟨L.blk, off, none⟩) 0 L.extra) := fun off => by
    have := R.slice (μ := μ.put vs.next ⟨L.blk, off, L.extra, L.esz, 0⟩) ⟨vs.next, 0, none⟩ _ 0 0 (Mu.put_self _ _ _) (.inr (by simp))
    simpa [amap] using this
  by_cases h0 : L.extra = 0
  · have hc : h + L.extra = h := by omega
    rw [if_pos hc] at hr
    refine ⟨_, W, .value (.slice (some ⟨L.blk, L.off + a.off, none⟩) 0 L.extra), hG.le_put _, key (L.off + a.off) (by rw [h0] at hroom ⊢; omega), ?_, rs _⟩
    have e2 : h + L.extra - h = L.extra := by omega
    rw [e2] at hr
    have ha : amap L a = ⟨L.blk, L.off + a.off, none⟩ := by simp [amap, hb.1]
    rw [ha] at hr e
    simp [execOp, ho, e, hr]
  · have hc : ¬ h + L.extra = h := by omega
    rw [if_neg hc] at hr
    have hsz : L.esz = sz := c3.resolve_left h0
    have hoff := hex.resolve_left h0
    rw [hsz] at hoff
    refine ⟨_, W, .value (.slice (some ⟨L.blk, L.off + a.off + h * sz, none⟩) 0 L.extra), hG.le_put _, key (L.off + a.off + h * sz) (by omega), ?_, rs _⟩
    have e2 : h + L.extra - h = L.extra := by omega
    rw [e2] at hr
    have ha : amap L a = ⟨L.blk, L.off + a.off, none⟩ := by simp [amap, hb.1]
    have ha2 : (amap L a).add (h * sz) = ⟨L.blk, L.off + a.off + h * sz, none⟩ := by rw [ha]; unfold Addr.add; split <;> simp_all
    rw [ha2] at hr
    simp [execOp, ho, e, hr]

/- A slice of an array. -/
def vsliceArr (T : TE) (vs : VS) (t : TypeId) (a : Addr) (lo hi : Option Value) : Option Value :=
  match T.und t, find vs.heap a.block with
  | some (.array n elem), some B => match T.inf elem with
    | some inf => match bound hi n, bound lo 0 with
      | some h, some l => bif (!B.grow) && Nat.ble h n && Nat.ble l h then some (.slice (some (bif Nat.beq n l then a else a.add (l * inf.size))) (h - l) (n - l)) else none
      | _, _ => none
    | none => none
  | _, _ => none
theorem sound_sliceArr {t : TypeId} {x : Operand} {lo hi : Option Operand} {a : Addr} {v : Value} (ho : o.op = .slice t x lo hi none) (hx : ρ x = .pointer (some a)) (hv : vsliceArr T vs t a (lo.map ρ) (hi.map ρ) = some v) : Sound P vs ρ o (.value v) := by
  intro N0 W0 W μ ρ' hG hρ
  have h1 := hρ x (by simp [ho, Op.operands])
  rw [hx] at h1
  obtain ⟨L, hL, e⟩ := h1.inv_ptr
  have olo := operand_rel (μ := μ) (ρ := ρ) (ρ' := ρ') (x := lo) fun y hy => hρ y (by simp [ho, Op.operands, hy])
  have ohi := operand_rel (μ := μ) (ρ := ρ) (ρ' := ρ') (x := hi) fun y hy => hρ y (by simp [ho, Op.operands, hy])
  unfold vsliceArr at hv
  split at hv
  case h_2 => cases hv
  rename_i m elem B hu hf
  split at hv
  case h_2 => cases hv
  rename_i inf hinf
  split at hv
  case h_2 => cases hv
  rename_i h l eh el
  simp only [Bool.cond_eq_ite] at hv
  split at hv
  case isFalse => cases hv
  rename_i hb
  simp only [Bool.and_eq_true, Bool.not_eq_true', Nat.ble_eq] at hb
  obtain ⟨⟨b1, b2⟩, b3⟩ := hb
  cases hv
  obtain ⟨L', c, z, e1, LL⟩ := hG.blocks _ _ (find_mem hf)
  rw [hL] at e1; cases e1
  have hex := LL.fixed b1
  refine ⟨.value (.slice (some (if m = l then amap L a else (amap L a).add (l * inf.size))) (h - l) (m - l)), ?_, ?_⟩
  · rcases bound_run eh ohi.1 ohi.2 with ⟨q1, e1⟩ | ⟨k1, i1, q1, p1, e1⟩ <;> rcases bound_run el olo.1 olo.2 with ⟨q2, e2⟩ | ⟨k2, i2, q2, p2, e2⟩
    · subst e1; subst e2
      simp [execOp, ho, e, Instr.sliceAt, run_underlying (TOk.und (P := P) hu), Instr.sureAddr, Instr.sliceBounds, q1, q2, run_sizeOf' (TOk.inf (P := P) hinf)]
    · have r2 : i2 ≤ (h : Int) := by omega
      subst e1; subst e2
      simp [execOp, ho, e, Instr.sliceAt, run_underlying (TOk.und (P := P) hu), Instr.sureAddr, Instr.sliceBounds, Instr.sliceBound, asIntOf, q1, q2, p2, r2, run_sizeOf' (TOk.inf (P := P) hinf)]
    · have r1 : i1 ≤ (m : Int) := by omega
      subst e1; subst e2
      simp [execOp, ho, e, Instr.sliceAt, run_underlying (TOk.und (P := P) hu), Instr.sureAddr, Instr.sliceBounds, Instr.sliceBound, asIntOf, q1, q2, p1, r1, run_sizeOf' (TOk.inf (P := P) hinf)]
    · have r1 : i1 ≤ (m : Int) := by omega
      have r2 : i2 ≤ i1 := by omega
      subst e1; subst e2
      simp [execOp, ho, e, Instr.sliceAt, run_underlying (TOk.und (P := P) hu), Instr.sureAddr, Instr.sliceBounds, Instr.sliceBound, asIntOf, q1, q2, p1, r1, p2, Int.toNat_of_nonneg p1, r2, run_sizeOf' (TOk.inf (P := P) hinf)]
  · by_cases hm : m = l
    · have hb : Nat.beq m l = true := by rw [hm]; exact Nat.beq_refl _
      have := R.slice (μ := μ) a L (h - l) (m - l) hL (.inl hex)
      rw [hex] at this
      simpa [RN, hm] using this
    · have hb : Nat.beq m l = false := by cases hq : Nat.beq m l <;> simp_all
      have hblk : (a.add (l * inf.size)).block = a.block := by unfold Addr.add; split <;> rfl
      have := R.slice (μ := μ) (a.add (l * inf.size)) L (h - l) (m - l) (by rw [hblk]; exact hL) (.inl hex)
      rw [hex, ← amap_add] at this
      simpa [RN, hm] using this

/- A slice whose parts are written out. -/
def vbuildSlice (T : TE) (vs : VS) (t : TypeId) (len : Nat) (parts : List (Nat × Value)) : Option (VN × VS) :=
  match T.und t with
  | some (.slice elem) => match T.inf elem with
    | some i => match i.zero with
      | some z => bif plainB z && Nat.ble (len * i.size) (2 ^ 24) && (Nat.beq z.cells.size i.size) then
          match lfill (fun k => some (k * i.size, i.size)) (rep z.cells.toList len) parts with
          | some cs => some (.value (.slice (some ⟨vs.next, 0, none⟩) len len), vs.add ⟨cs, elem, i.size, vs.next, true, false, true, false⟩)
          | none => none
        else none
      | none => none
    | none => none
  | _ => none
theorem sound_buildSlice {t : TypeId} {len : Nat} {parts : Array (Nat × Operand)} (ho : o.op = .buildSlice t len parts) (hv : vbuildSlice T vs t len (parts.toList.map fun p => (p.1, ρ p.2)) = some (n, vs1)) : SoundM P vs ρ o n vs1 := by
  intro N0 W0 W μ ρ' hG hρ
  obtain ⟨q1, q2⟩ := parts_rel (μ := μ) (ρ := ρ) (ρ' := ρ') (parts := parts) fun x hx => hρ x (by simpa [ho, Op.operands] using hx)
  unfold vbuildSlice at hv
  split at hv
  case h_2 => cases hv
  rename_i elem hu
  split at hv
  case h_2 => cases hv
  rename_i i hi
  split at hv
  case h_2 => cases hv
  rename_i z hz
  simp only [Bool.cond_eq_ite] at hv
  split at hv
  case isFalse => cases hv
  rename_i hb
  simp only [Bool.and_eq_true, Nat.ble_eq, Nat.beq_eq] at hb
  obtain ⟨⟨hp, b1⟩, b2⟩ := hb
  split at hv
  case h_2 => cases hv
  rename_i cs hf
  cases hv
  have harr : (Array.range (len * i.size)).map (z.cells[· % z.cells.size]!) = (rep z.cells.toList len).toArray := by rw [← b2]; exact rep_zeros _ _
  have hpl : plainA ((Array.range (len * i.size)).map (z.cells[· % z.cells.size]!)) = true := by
    have := plain_cells hp
    rw [harr]
    simp only [plainA]
    exact plain_rep (by rw [← plainA_toList]; exact this) _
  have hf := fill_list _ _ _ _ hf
  rw [← harr] at hf
  obtain ⟨r', e1, e2⟩ := fill_rel _ _ _ _ _ _ (RA_self μ hpl) q1 q2 hf
  refine ⟨_, _, .value (.slice (some ⟨W.heap.size, 0, none⟩) len len), hG.le_put _, hG.alloc0 vs.next (ys := r') e2, ?_, R_newSlice vs _ 0 _ _ _ (.inl rfl) _⟩
  have b1' : ¬ 2 ^ 24 < len * i.size := by omega
  by_cases h0 : len * i.size = 0
  · have hz0 : (Array.range (len * i.size)).map (z.cells[· % z.cells.size]!) = (Array.range (len * i.size)).map ((#[] : Array Value)[· % (#[] : Array Value).size]!) := by
      rw [h0]; exact Array.ext (by simp) (fun i h1 => by simp at h1)
    rw [hz0] at e1
    simp only [execOp, ho, Instr.buildSlice, Sem.run_bind, run_underlying (TOk.und (P := P) hu), Result.andThen_ok, run_sizeOf' (TOk.inf (P := P) hi), Sem.run_ite, gt_iff_lt, if_neg b1', if_pos h0, Sem.run_pure, e1, newRow, run_newObj]
    rfl
  · simp only [execOp, ho, Instr.buildSlice, Sem.run_bind, run_underlying (TOk.und (P := P) hu), Result.andThen_ok, run_sizeOf' (TOk.inf (P := P) hi), Sem.run_ite, gt_iff_lt, if_neg b1', if_neg h0, Sem.run_pure, run_zero' (TOk.inf (P := P) hi) hz, e1, newRow, run_newObj]
    rfl

end Go.Ev
