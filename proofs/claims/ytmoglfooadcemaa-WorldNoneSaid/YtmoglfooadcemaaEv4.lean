/-
  The evaluator: slices with a third bound; what is cleared.
-/
import Derived.Test.YtmoglfooadcemaaEvX
import Derived.Test.YtmoglfooadcemaaEvT
namespace Go.Ev
open Go.RowKit

variable {P : Program} {T : TE} [TOk P T] {vs vs1 : VS} {ρ : Operand → Value} {o : Oper} {n : VN} {N0 : Nat → Prop} {W0 W : World} {μ : Mu}

/- Such a slice is a row of its own, to be read. -/
def vslice3 (T : TE) (vs : VS) (t : TypeId) (a : Addr) (cap : Nat) (lo hi : Option Value) (mx : Value) : Option (VN × VS) :=
  match T.und t, find vs.heap a.block, mx, hi with
  | some (.slice elem), some B, .int _ mi, some (.int _ hh) => match T.inf elem, bound lo 0 with
    | some inf, some l =>
      bif decide (0 ≤ mi) && decide (0 ≤ hh) && decide (hh ≤ mi) && Nat.beq inf.size B.esz && a.spot.isNone && Nat.ble mi.toNat cap && Nat.ble l hh.toNat && Nat.blt l mi.toNat && Nat.ble (a.off + mi.toNat * inf.size) B.cells.length then
        match takeX ((mi.toNat - l) * inf.size) (dropX (a.off + l * inf.size) B.cells) with
        | some cs => some (.value (.slice (some ⟨vs.next, 0, none⟩) (hh.toNat - l) (mi.toNat - l)), vs.add ⟨cs, B.elem, B.esz, B.fam, false, false, false, false⟩)
        | none => none
      else none
    | _, _ => none
  | _, _, _, _ => none

theorem sound_slice3 {t : TypeId} {x y : Operand} {lo hi : Option Operand} {a : Addr} {len cap : Nat} (ho : o.op = .slice t x lo hi (some y)) (hx : ρ x = .slice (some a) len cap) (hn : vslice3 T vs t a cap (lo.map ρ) (hi.map ρ) (ρ y) = some (n, vs1)) :
    SoundM P vs ρ o n vs1 := by
  intro N0 W0 W μ ρ' hG hρ
  have h1 := hρ x (by simp [ho, Op.operands])
  rw [hx] at h1
  obtain ⟨L, hL, hex, e⟩ := h1.inv_slice
  have hy := hρ y (by simp [ho, Op.operands])
  have olo := operand_rel (μ := μ) (ρ := ρ) (ρ' := ρ') (x := lo) fun y hy => hρ y (by simp [ho, Op.operands, hy])
  have ohi := operand_rel (μ := μ) (ρ := ρ) (ρ' := ρ') (x := hi) fun y hy => hρ y (by simp [ho, Op.operands, hy])
  unfold vslice3 at hn
  split at hn
  case h_2 => cases hn
  rename_i elem B km mi kh hh hu hf ey eh
  split at hn
  case h_2 => cases hn
  rename_i inf l hinf el
  simp only [Bool.cond_eq_ite] at hn
  split at hn
  case isFalse => cases hn
  rename_i hb
  simp only [Bool.and_eq_true, Option.isNone_iff_eq_none, Nat.ble_eq, Nat.blt_eq, Nat.beq_eq, decide_eq_true_eq] at hb
  obtain ⟨⟨⟨⟨⟨⟨⟨⟨b1, b2⟩, b3⟩, b4⟩, b5⟩, b6⟩, b7⟩, b8⟩, b9⟩ := hb
  split at hn
  case h_2 => cases hn
  rename_i cs ht
  cases hn
  rw [ey] at hy
  have ey' := hy.inv_int
  obtain ⟨hv, eh', hhv⟩ := ohi.1 _ eh
  have := hhv.inv_int
  subst this
  obtain ⟨L', c, z, e1, LL⟩ := hG.blocks _ _ (find_mem hf)
  rw [hL] at e1; cases e1
  have hlen := LL.len
  have hroom := LL.room
  obtain ⟨t1, t2⟩ := takeX_spec _ _ _ ht
  rw [dropX_eq] at t1 t2
  have hcs : cs.length = (mi.toNat - l) * inf.size := by rw [t1]; simp at t2 ⊢; omega
  have hmul : l * inf.size + (mi.toNat - l) * inf.size = mi.toNat * inf.size := by rw [← Nat.add_mul]; congr 1; omega
  have hsz : L.esz = inf.size := by rw [LL.esz, b4]
  have hg : G N0 W0 (vs.add ⟨cs, B.elem, B.esz, B.fam, false, false, false, false⟩) W (μ.put vs.next ⟨L.blk, L.off + a.off + l * inf.size, 0, L.esz, cs.length⟩) := by
    refine hG.add (c := c) (z := z) ⟨LL.at_, (fun x => by cases x), rfl, LL.esz, ?_, (fun _ => rfl), (fun x => by cases x), (fun x => by cases x), fun i v hv => ?_⟩
      (fun id' B' hm hfam l' hl' => hG.apart id' B' _ B hm (find_mem hf) hfam l' L hl' hL)
    · show L.off + a.off + l * inf.size + cs.length + 0 * L.esz ≤ c.size
      omega
    · have hv2 : B.cells[a.off + l * inf.size + i]? = some v := by
        simp only at hv
        rw [t1, List.getElem?_take] at hv
        split at hv
        · rwa [List.getElem?_drop] at hv
        · cases hv
      obtain ⟨v', q1, q2⟩ := LL.cells _ _ hv2
      refine ⟨v', ?_, q2.mono (Mu.put_le (hG.fresh vs.next (Nat.le_refl _)) _)⟩
      show c[L.off + a.off + l * inf.size + i]? = _
      rw [← q1]; congr 1; omega
  have hne : ¬ mi.toNat = l := by omega
  have ha : (amap L a).add (l * inf.size) = ⟨L.blk, L.off + a.off + l * inf.size, none⟩ := by unfold Addr.add amap; split <;> simp_all
  have b6' : mi ≤ (cap : Int) + L.extra := by omega
  have hrun : (Instr.sliceAt t (.slice (some (amap L a)) len (cap + L.extra)) (lo.map ρ') (hi.map ρ') (some (.int km mi))).run P W =
      .ok (.slice (some ⟨L.blk, L.off + a.off + l * inf.size, none⟩) (hh.toNat - l) (mi.toNat - l)) W := by
    rw [eh']
    rcases bound_run el olo.1 olo.2 with ⟨e5, e2⟩ | ⟨k2, i2, e5, p2, e2⟩
    · subst e2
      simp [Instr.sliceAt, run_underlying (TOk.und (P := P) hu), Instr.slice, Instr.sliceBounds, Instr.sliceBound, asIntOf, b1, b2, b3, b6', Int.toNat_of_nonneg b1, e5, run_sizeOf' (TOk.inf (P := P) hinf)]
      rw [if_neg (by omega)]; simpa using congrArg some ha
    · subst e2
      have q2 : i2 ≤ hh := by omega
      simp [Instr.sliceAt, run_underlying (TOk.und (P := P) hu), Instr.slice, Instr.sliceBounds, Instr.sliceBound, asIntOf, b1, b2, b3, b6', p2, q2, Int.toNat_of_nonneg b1, Int.toNat_of_nonneg b2, e5, run_sizeOf' (TOk.inf (P := P) hinf), hne, ha]
  refine ⟨_, W, .value (.slice (some ⟨L.blk, L.off + a.off + l * inf.size, none⟩) (hh.toNat - l) (mi.toNat - l)), hG.le_put _, hg, ?_, ?_⟩
  · simp [execOp, ho, e, ey', hrun]
  · have := R.slice (μ := μ.put vs.next ⟨L.blk, L.off + a.off + l * inf.size, 0, L.esz, cs.length⟩) ⟨vs.next, 0, none⟩ _ (hh.toNat - l) (mi.toNat - l) (Mu.put_self _ _ _) (.inl rfl)
    simpa [amap, RN] using this

/- What is cleared. -/
def vclear (T : TE) (vs : VS) (t : TypeId) (x : Value) : Option VS :=
  match T.und t, x with
  | some (.slice _), .slice none _ _ => some vs
  | some (.slice _), .slice _ 0 _ => some vs
  | some (.slice e), .slice (some a) (m + 1) _ => match T.inf e with
    | some i => match i.zero with
      | some z => bif plainB z then vwrite vs a (rep z.cells.toList (m + 1)) else none
      | none => none
    | none => none
  | _, _ => none
theorem plainL_rep {zs : List Value} (h : plainL zs = true) : ∀ k, plainL (rep zs k) = true
  | 0 => rfl
  | k + 1 => plainL_app h (plainL_rep h k)
theorem zeroCells_rep (z : Array Value) (k : Nat) : (Builtin.zeroCells z k).toList = rep z.toList k := by
  unfold Builtin.zeroCells
  rw [rep_zeros]
theorem sound_clear {c : Call} {x : Operand} {t : TypeId} (ho : o.op = .call c) (hc : c.callee = .builtin .clear) (ha : c.args = #[x]) (ht : c.argTypes = #[t]) (h : vclear T vs t (ρ x) = some vs1) :
    SoundM P vs ρ o (.value (.tuple #[])) vs1 := by
  intro N0 W0 W μ ρ' hG hρ
  have h1 := hρ x (by simp [ho, Op.operands, Call.operands, hc, ha])
  have r0 : R μ (.tuple #[]) (.tuple #[]) := plain_self μ _ rfl
  have hexec : ∀ W1, (Builtin.clear_ #[t] o.type #[ρ' x]).run P W = .ok (.tuple #[]) W1 → (execOp ρ' o).run P W = .ok (.value (.tuple #[])) W1 := fun W1 hr => by
    simp [execOp, ho, resolve, hc, ha, ht, invoke, builtin, hr]
  generalize ρ x = v at *
  generalize ρ' x = v' at *
  unfold vclear at h
  split at h
  · rename_i e q1 q2 hu
    cases h; cases h1
    exact ⟨μ, W, _, Mu.le_refl _, hG, hexec _ (by simp [Builtin.clear_, run_underlying (TOk.und (P := P) hu)]), r0⟩
  · rename_i e q1 q2 hu
    cases h
    cases h1 <;> exact ⟨μ, W, _, Mu.le_refl _, hG, hexec _ (by simp [Builtin.clear_, run_underlying (TOk.und (P := P) hu)]), r0⟩
  · rename_i e a m q hu
    split at h
    case h_2 => cases h
    rename_i i hi
    split at h
    case h_2 => cases h
    rename_i z hz
    simp only [Bool.cond_eq_ite] at h
    split at h
    case isFalse => cases h
    rename_i hp
    obtain ⟨l, hl, _, rfl⟩ := h1.inv_slice
    have hzc : plainL z.cells.toList = true := by
      have := plain_cells hp
      generalize z.cells = zc at this ⊢
      obtain ⟨zc⟩ := zc
      simpa [plainA] using this
    have hpl : plainA (rep z.cells.toList (m + 1)).toArray = true := by simpa [plainA] using plainL_rep hzc (m + 1)
    obtain ⟨W1, r1, r2⟩ := hG.write (P := P) h hl (ys := rep z.cells.toList (m + 1)) ⟨rfl, fun i x y hx hy => by rw [hx] at hy; cases hy; exact plainA_self μ _ hpl i x hx⟩
    refine ⟨μ, W1, _, Mu.le_refl _, r2, hexec _ ?_, r0⟩
    have hzero := run_zero' (W := W) (TOk.inf (P := P) hi) hz
    simp [Builtin.clear_, run_underlying (TOk.und (P := P) hu), hzero, zeroCells_rep, r1]
  · cases h
end Go.Ev
