/-
  The evaluator's operations that make or write memory: slices at an end, of arrays, written out; bytes of a text; copy.
-/
import Derived.Test.YtahblmcjocepeaaDoorGb
import Derived.MapKept
namespace Go.Ev
open Go.RowKit
variable [Base]

variable {P : Program} {T : TE} [TOk P T] {vs vs1 : VS} {ρ : Operand → Value} {o : Oper} {n : VN}

omit [Base] in
theorem operand_rel {μ : Mu} {ρ' : Operand → Value} {x : Option Operand} (h : ∀ y, x = some y → R μ (ρ y) (ρ' y)) : (∀ v, x.map ρ = some v → ∃ v', x.map ρ' = some v' ∧ R μ v v') ∧ (x.map ρ = none → x.map ρ' = none) := by
  cases x with
  | none => exact ⟨fun v hv => by simp at hv, fun _ => rfl⟩
  | some y => exact ⟨fun v hv => by simp at hv; subst hv; exact ⟨ρ' y, rfl, h y rfl⟩, fun hv => by simp at hv⟩

def vsliceEnd (vs : VS) (a : Addr) : Option (VN × VS) :=
  match find vs.heap a.block with
  | some B => bif a.spot.isNone && Nat.ble a.off B.cells.length then some (.value (.slice (some ⟨vs.next, 0, none⟩) 0 0), vs.add ⟨[], B.elem, B.esz, B.fam, B.rw, B.grow, false, B.tail && Nat.beq a.off B.cells.length⟩) else none
  | none => none

theorem sound_sliceEnd {t : TypeId} {x : Operand} {lo hi : Option Operand} {a : Addr} {len cap h sz : Nat} (ho : o.op = .slice t x lo hi none) (hx : ρ x = .slice (some a) len cap) (hv : vsliceAt T vs t a len cap (lo.map ρ) (hi.map ρ) = some (cap, h, sz)) (hn : vsliceEnd vs a = some (n, vs1)) :
    SoundM P vs ρ o n vs1 := by
  intro N0 W0 W μ ρ' hG hρ
  have h1 := hρ x (by simp [ho, Op.operands])
  rw [hx] at h1
  obtain ⟨L, hL, hex, e⟩ := h1.inv_slice
  have olo := operand_rel (μ := μ) (ρ := ρ) (ρ' := ρ') (x := lo) fun y hy => hρ y (by simp [ho, Op.operands, hy])
  have ohi := operand_rel (μ := μ) (ρ := ρ) (ρ' := ρ') (x := hi) fun y hy => hρ y (by simp [ho, Op.operands, hy])
  obtain ⟨c1, c2, c3, hr⟩ := slice_run (P := P) hG hv olo.1 olo.2 ohi.1 ohi.2 hL
  have hh : h = cap := by omega
  subst hh
  unfold vsliceEnd at hn
  split at hn
  case h_2 => cases hn
  rename_i B hf
  simp only [Bool.cond_eq_ite] at hn
  split at hn
  case isFalse => cases hn
  rename_i hb
  simp only [Bool.and_eq_true, Option.isNone_iff_eq_none, Nat.ble_eq] at hb
  cases hn
  obtain ⟨L', c, z, e1, LL⟩ := hG.blocks _ _ (find_mem hf)
  rw [hL] at e1; cases e1
  have hlen := LL.len
  have hroom := LL.room
  have key : ∀ off, off + L.extra * L.esz ≤ c.size → ((B.tail && Nat.beq a.off B.cells.length) = true → z.2 ≤ off) → G N0 W0 (vs.add ⟨[], B.elem, B.esz, B.fam, B.rw, B.grow, false, B.tail && Nat.beq a.off B.cells.length⟩) W (μ.put vs.next ⟨L.blk, off, L.extra, L.esz, 0⟩) := fun off hoff hz =>
    hG.add (c := c) (z := z) ⟨LL.at_, LL.own, rfl, LL.esz, by simpa using hoff, LL.fixed, (fun x => by cases x), (fun x => ⟨hz x, (LL.tail (by simp only [Bool.and_eq_true] at x; exact x.1)).2⟩), fun i v hv => by simp at hv⟩
      (fun id' B' hm hfam l' hl' => hG.apart id' B' _ B hm (find_mem hf) hfam l' L hl' hL)
  have rs : ∀ off, R (μ.put vs.next ⟨L.blk, off, L.extra, L.esz, 0⟩) (.slice (some ⟨vs.next, 0, none⟩) 0 0) (.slice (some ⟨L.blk, off, none⟩) 0 L.extra) := fun off => by
    have := R.slice (μ := μ.put vs.next ⟨L.blk, off, L.extra, L.esz, 0⟩) ⟨vs.next, 0, none⟩ _ 0 0 (Mu.put_self _ _ _) (.inr (by simp))
    simpa [amap] using this
  by_cases h0 : L.extra = 0
  · have hc : h + L.extra = h := by omega
    rw [if_pos hc] at hr
    refine ⟨_, W, .value (.slice (some ⟨L.blk, L.off + a.off, none⟩) 0 L.extra), hG.le_put _, key (L.off + a.off) (by rw [h0] at hroom ⊢; omega) (fun x => by
      simp only [Bool.and_eq_true, Nat.beq_eq] at x
      have := (LL.tail x.1).1
      omega), ?_, rs _⟩
    have e2 : h + L.extra - h = L.extra := by omega
    rw [e2] at hr
    have ha : amap L a = ⟨L.blk, L.off + a.off, none⟩ := by simp [amap, hb.1]
    rw [ha] at hr e
    simp [execOp, ho, e, hr]
  · have hc : ¬ h + L.extra = h := by omega
    rw [if_neg hc] at hr
    have hsz : L.esz = sz := c3.resolve_left h0
    have hoff := hex.resolve_left h0
    rw [hsz] at hoff
    refine ⟨_, W, .value (.slice (some ⟨L.blk, L.off + a.off + h * sz, none⟩) 0 L.extra), hG.le_put _, key (L.off + a.off + h * sz) (by omega) (fun x => by
      simp only [Bool.and_eq_true, Nat.beq_eq] at x
      have := (LL.tail x.1).1
      omega), ?_, rs _⟩
    have e2 : h + L.extra - h = L.extra := by omega
    rw [e2] at hr
    have ha : amap L a = ⟨L.blk, L.off + a.off, none⟩ := by simp [amap, hb.1]
    have ha2 : (amap L a).add (h * sz) = ⟨L.blk, L.off + a.off + h * sz, none⟩ := by rw [ha]; unfold Addr.add; split <;> simp_all
    rw [ha2] at hr
    simp [execOp, ho, e, hr]

/- A slice of an array. -/
def vsliceArr (T : TE) (vs : VS) (t : TypeId) (a : Addr) (lo hi : Option Value) : Option Value :=
  match T.und t, find vs.heap a.block with
  | some (.array n elem), some B => match T.inf elem with
    | some inf => match bound hi n, bound lo 0 with
      | some h, some l => bif (!B.grow) && Nat.ble h n && Nat.ble l h then some (.slice (some (bif Nat.beq n l then a else a.add (l * inf.size))) (h - l) (n - l)) else none
      | _, _ => none
    | none => none
  | _, _ => none
theorem sound_sliceArr {t : TypeId} {x : Operand} {lo hi : Option Operand} {a : Addr} {v : Value} (ho : o.op = .slice t x lo hi none) (hx : ρ x = .pointer (some a)) (hv : vsliceArr T vs t a (lo.map ρ) (hi.map ρ) = some v) : Sound P vs ρ o (.value v) := by
  intro N0 W0 W μ ρ' hG hρ
  have h1 := hρ x (by simp [ho, Op.operands])
  rw [hx] at h1
  obtain ⟨L, hL, e⟩ := h1.inv_ptr
  have olo := operand_rel (μ := μ) (ρ := ρ) (ρ' := ρ') (x := lo) fun y hy => hρ y (by simp [ho, Op.operands, hy])
  have ohi := operand_rel (μ := μ) (ρ := ρ) (ρ' := ρ') (x := hi) fun y hy => hρ y (by simp [ho, Op.operands, hy])
  unfold vsliceArr at hv
  split at hv
  case h_2 => cases hv
  rename_i m elem B hu hf
  split at hv
  case h_2 => cases hv
  rename_i inf hinf
  split at hv
  case h_2 => cases hv
  rename_i h l eh el
  simp only [Bool.cond_eq_ite] at hv
  split at hv
  case isFalse => cases hv
  rename_i hb
  simp only [Bool.and_eq_true, Bool.not_eq_true', Nat.ble_eq] at hb
  obtain ⟨⟨b1, b2⟩, b3⟩ := hb
  cases hv
  obtain ⟨L', c, z, e1, LL⟩ := hG.blocks _ _ (find_mem hf)
  rw [hL] at e1; cases e1
  have hex := LL.fixed b1
  refine ⟨.value (.slice (some (if m = l then amap L a else (amap L a).add (l * inf.size))) (h - l) (m - l)), ?_, ?_⟩
  · rcases bound_run eh ohi.1 ohi.2 with ⟨q1, e1⟩ | ⟨k1, i1, q1, p1, e1⟩ <;> rcases bound_run el olo.1 olo.2 with ⟨q2, e2⟩ | ⟨k2, i2, q2, p2, e2⟩
    · subst e1; subst e2
      simp [execOp, ho, e, Instr.sliceAt, run_underlying (TOk.und (P := P) hu), Instr.sureAddr, Instr.sliceBounds, q1, q2, run_sizeOf' (TOk.inf (P := P) hinf)]
    · have r2 : i2 ≤ (h : Int) := by omega
      subst e1; subst e2
      simp [execOp, ho, e, Instr.sliceAt, run_underlying (TOk.und (P := P) hu), Instr.sureAddr, Instr.sliceBounds, Instr.sliceBound, asIntOf, q1, q2, p2, r2, run_sizeOf' (TOk.inf (P := P) hinf)]
    · have r1 : i1 ≤ (m : Int) := by omega
      subst e1; subst e2
      simp [execOp, ho, e, Instr.sliceAt, run_underlying (TOk.und (P := P) hu), Instr.sureAddr, Instr.sliceBounds, Instr.sliceBound, asIntOf, q1, q2, p1, r1, run_sizeOf' (TOk.inf (P := P) hinf)]
    · have r1 : i1 ≤ (m : Int) := by omega
      have r2 : i2 ≤ i1 := by omega
      subst e1; subst e2
      simp [execOp, ho, e, Instr.sliceAt, run_underlying (TOk.und (P := P) hu), Instr.sureAddr, Instr.sliceBounds, Instr.sliceBound, asIntOf, q1, q2, p1, r1, p2, Int.toNat_of_nonneg p1, r2, run_sizeOf' (TOk.inf (P := P) hinf)]
  · by_cases hm : m = l
    · have hb : Nat.beq m l = true := by rw [hm]; exact Nat.beq_refl _
      have := R.slice (μ := μ) a L (h - l) (m - l) hL (.inl hex)
      rw [hex] at this
      simpa [RN, hm] using this
    · have hb : Nat.beq m l = false := by cases hq : Nat.beq m l <;> simp_all
      have hblk : (a.add (l * inf.size)).block = a.block := by unfold Addr.add; split <;> rfl
      have := R.slice (μ := μ) (a.add (l * inf.size)) L (h - l) (m - l) (by rw [hblk]; exact hL) (.inl hex)
      rw [hex, ← amap_add] at this
      simpa [RN, hm] using this

/- A slice whose parts are written out. -/
def vbuildSlice (T : TE) (vs : VS) (t : TypeId) (len : Nat) (parts : List (Nat × Value)) : Option (VN × VS) :=
  match T.und t with
  | some (.slice elem) => match T.inf elem with
    | some i => match i.zero with
      | some z => bif plainB z && Nat.ble (len * i.size) (2 ^ 24) && (Nat.beq z.cells.size i.size) then
          match lfill (fun k => some (k * i.size, i.size)) (rep z.cells.toList len) parts with
          | some cs => some (.value (.slice (some ⟨vs.next, 0, none⟩) len len), vs.add ⟨cs, elem, i.size, vs.next, true, false, true, false⟩)
          | none => none
        else none
      | none => none
    | none => none
  | _ => none
theorem sound_buildSlice {t : TypeId} {len : Nat} {parts : Array (Nat × Operand)} (ho : o.op = .buildSlice t len parts) (hv : vbuildSlice T vs t len (parts.toList.map fun p => (p.1, ρ p.2)) = some (n, vs1)) : SoundM P vs ρ o n vs1 := by
  intro N0 W0 W μ ρ' hG hρ
  obtain ⟨q1, q2⟩ := parts_rel (μ := μ) (ρ := ρ) (ρ' := ρ') (parts := parts) fun x hx => hρ x (by simpa [ho, Op.operands] using hx)
  unfold vbuildSlice at hv
  split at hv
  case h_2 => cases hv
  rename_i elem hu
  split at hv
  case h_2 => cases hv
  rename_i i hi
  split at hv
  case h_2 => cases hv
  rename_i z hz
  simp only [Bool.cond_eq_ite] at hv
  split at hv
  case isFalse => cases hv
  rename_i hb
  simp only [Bool.and_eq_true, Nat.ble_eq, Nat.beq_eq] at hb
  obtain ⟨⟨hp, b1⟩, b2⟩ := hb
  split at hv
  case h_2 => cases hv
  rename_i cs hf
  cases hv
  have harr : (Array.range (len * i.size)).map (z.cells[· % z.cells.size]!) = (rep z.cells.toList len).toArray := by rw [← b2]; exact rep_zeros _ _
  have hpl : plainA ((Array.range (len * i.size)).map (z.cells[· % z.cells.size]!)) = true := by
    have := plain_cells hp
    rw [harr]
    simp only [plainA]
    exact plain_rep (by rw [← plainA_toList]; exact this) _
  have hf := fill_list _ _ _ _ hf
  rw [← harr] at hf
  obtain ⟨r', e1, e2⟩ := fill_rel _ _ _ _ _ _ (RA_self μ hpl) q1 q2 hf
  refine ⟨_, _, .value (.slice (some ⟨W.heap.size, 0, none⟩) len len), hG.le_put _, hG.alloc0 vs.next (ys := r') e2, ?_, R_newSlice vs _ 0 _ _ _ (.inl rfl) _⟩
  have b1' : ¬ 2 ^ 24 < len * i.size := by omega
  by_cases h0 : len * i.size = 0
  · have hz0 : (Array.range (len * i.size)).map (z.cells[· % z.cells.size]!) = (Array.range (len * i.size)).map ((#[] : Array Value)[· % (#[] : Array Value).size]!) := by
      rw [h0]; exact Array.ext (by simp) (fun i h1 => by simp at h1)
    rw [hz0] at e1
    simp only [execOp, ho, Instr.buildSlice, Sem.run_bind, run_underlying (TOk.und (P := P) hu), Result.andThen_ok, run_sizeOf' (TOk.inf (P := P) hi), Sem.run_ite, gt_iff_lt, if_neg b1', if_pos h0, Sem.run_pure, e1, newRow, run_newObj]
    rfl
  · simp only [execOp, ho, Instr.buildSlice, Sem.run_bind, run_underlying (TOk.und (P := P) hu), Result.andThen_ok, run_sizeOf' (TOk.inf (P := P) hi), Sem.run_ite, gt_iff_lt, if_neg b1', if_neg h0, Sem.run_pure, run_zero' (TOk.inf (P := P) hi) hz, e1, newRow, run_newObj]
    rfl

end Go.Ev

/-
  The evaluator's operations that make or write memory: bytes of a text, copy, append.
-/
namespace Go.Ev
open Go.RowKit
variable [Base]

variable {P : Program} {T : TE} [TOk P T] {vs vs1 : VS} {ρ : Operand → Value} {o : Oper} {n : VN} {N0 : Nat → Prop} {W0 W : World} {μ : Mu}

theorem G.allocZ (h : G N0 W0 vs W μ) {xs : List Value} {c : Array Value} {elem : TypeId} {esz extra fam : Nat} {grow : Bool} (z : Nat × Nat) (hz : z.2 ≤ z.1 ∨ c.size ≤ z.1)
    (hxy : ∀ (i : Nat) v, xs[i]? = some v → ∃ v', c[i]? = some v' ∧ R μ v v') (hroom : xs.length + extra * esz ≤ c.size) (hfix : grow = false → extra = 0) :
    G N0 W0 (vs.add ⟨xs, elem, esz, fam, true, grow, false, false⟩) (W.alloc (.cells c elem z)) (μ.put vs.next ⟨W.heap.size, 0, extra, esz, xs.length⟩) := by
  have hle := Mu.put_le (h.fresh vs.next (Nat.le_refl _)) ⟨W.heap.size, 0, extra, esz, xs.length⟩
  have h1 : G N0 W0 vs (W.alloc (.cells c elem z)) μ := h.world (Kept.new _ _)
  refine h1.add (c := c) (z := z) ⟨?_, fun _ => ⟨hz, fun hk => Nat.lt_irrefl _ (h.start _ hk)⟩, rfl, rfl, by simpa using hroom, hfix, (fun x => by cases x), (fun x => by cases x), ?_⟩ ?_
  · show (W.heap.push _)[W.heap.size]? = _
    simp
  · intro i v hv
    obtain ⟨v', e1, e2⟩ := hxy i v hv
    exact ⟨v', by simpa using e1, e2.mono hle⟩
  · intro id' B' hm _ l' hl'
    obtain ⟨m, c, z, e1, L⟩ := h.blocks id' B' hm
    rw [hl'] at e1; cases e1
    have := (Array.getElem?_eq_some_iff.1 L.at_).1
    show l'.blk ≠ W.heap.size
    omega

def byteV (b : UInt8) : Value := .int .u8 b.toNat

omit [Base] in
theorem freeze_alloc (w : World) (c : Array Value) (e : TypeId) : (w.alloc (.cells c e)).freeze { block := w.heap.size, off := c.size } 1 = w.alloc (.cells c e (c.size, c.size + 1)) := by
  simp only [World.freeze, World.alloc, Nat.one_ne_zero, if_false]
  congr 1
  apply Array.ext
  · simp
  · intro i h1 h2
    simp [Array.getElem_modify, Array.getElem_push]
    by_cases hi : i < w.heap.size
    · have : ¬ w.heap.size = i := by omega
      simp [hi, this]
    · have : w.heap.size = i := by simp at h2; omega
      simp [this]

def vbytes (T : TE) (vs : VS) (dst : TypeId) (s : ByteArray) : Option (VN × VS) :=
  match T.und dst with
  | some (.slice e) => match T.und e with
    | some (.int .u8) => some (.value (.slice (some ⟨vs.next, 0, none⟩) s.data.toList.length s.data.toList.length), vs.add ⟨s.data.toList.map byteV, e, 1, vs.next, true, true, false, false⟩)
    | _ => none
  | _ => none
theorem sound_bytes {src dst : TypeId} {x : Operand} {s : ByteArray} (ho : o.op = .convert src dst x) (hx : ρ x = .string s) (hd : T.und src = some .string) (h : vbytes T vs dst s = some (n, vs1)) : SoundM P vs ρ o n vs1 := by
  intro N0 W0 W μ ρ' hG hρ
  have h1 := hρ x (by simp [ho, Op.operands])
  rw [hx] at h1
  have e1 : ρ' x = .string s := by cases hv : ρ' x <;> rw [hv] at h1 <;> cases h1; rfl
  unfold vbytes at h
  split at h
  case h_2 => cases h
  rename_i e hu
  split at h
  case h_2 => cases h
  rename_i hu2
  cases h
  obtain ⟨cap, hcap, hcut⟩ : ∃ cap, s.size ≤ cap ∧ (Question.appendCap s.size 0 e).cut (W.tape W.drawn (.appendCap s.size 0 e)) = cap := ⟨_, by simp [Question.cut], rfl⟩
  have hG1 : G N0 W0 vs W.drew μ := hG.drawn _
  have hsz : s.data.toList.length = s.size := by rw [Array.length_toList]; rfl
  let c : Array Value := s.data.map (fun b => .int .u8 b.toNat) ++ Array.replicate (cap - s.size) (.int .u8 0)
  have hds : s.data.size = s.size := rfl
  have hcs : c.size = cap := by simp only [c, Array.size_append, Array.size_map, Array.size_replicate, hds]; omega
  have hg := hG1.allocZ (xs := s.data.toList.map byteV) (c := c) (elem := e) (esz := 1) (extra := cap - s.size) (fam := vs.next) (grow := true) (c.size, c.size + 1) (.inr (Nat.le_refl _))
    (fun i v hv => by
      simp only [List.getElem?_map, Option.map_eq_some_iff] at hv
      obtain ⟨b, hb, rfl⟩ := hv
      have hi : i < s.data.size := by have := (List.getElem?_eq_some_iff.1 hb).1; simpa using this
      refine ⟨byteV b, ?_, .int _ _⟩
      simp only [c]
      rw [Array.getElem?_append_left (by simpa using hi)]
      simp only [Array.getElem?_map]
      rw [Array.getElem?_toList] at hb
      rw [hb]; rfl)
    (by rw [List.length_map, hsz, hcs]; omega) (fun h => by cases h)
  refine ⟨_, _, .value (.slice (some ⟨W.heap.size, 0, none⟩) s.size cap), hG.le_put _, hg, ?_, ?_⟩
  · have hfz := freeze_alloc W.drew c e
    have hsh : (W.drew.alloc (.cells c e)).shape? W.heap.size = some (e, c.size) := by
      show (match (W.drew.heap.push (.cells c e))[W.heap.size]? with | some (.cells c elem _) => some (elem, c.size) | _ => none) = _
      have : (W.drew.heap.push (.cells c e))[W.heap.size]? = some (.cells c e) := by
        exact Array.getElem?_push_size
      rw [this]
    have hforced : (Question.appendCap s.size 0 e).forced = false := rfl
    have hc2 : (Array.map (fun b => Value.int IntKind.u8 (UInt8.toNat b)) s.data ++ Array.replicate (cap - s.size) (Value.int IntKind.u8 0)) = c := rfl
    simp [execOp, ho, e1, convert, run_underlying (TOk.und (P := P) hd), run_underlying (TOk.und (P := P) hu), run_underlying (TOk.und (P := P) hu2), Conv.stringToBytes, hforced, hcut, newRow, markStringish]
    rw [hc2, hsh]
    simp only [run_freeze, Result.andThen_ok]
    have : W.heap.size = W.drew.heap.size := rfl
    rw [this, hfz]
  · have := R_newSlice (μ := μ) vs W.heap.size (cap - s.size) 1 (s.data.toList.map byteV).length s.size (.inr (by rw [List.length_map, hsz, Nat.mul_one])) s.size
    have e2 : s.size + (cap - s.size) = cap := by omega
    rw [e2] at this
    simpa [RN, hsz] using this


/- The first cells of what is appended or copied. -/
def vfirst (vs : VS) (size n : Nat) : Value → Option (List Value)
  | .slice (some a) _ _ => vread vs a (n * size)
  | .slice none _ _ => some []
  | .string s => some ((s.data.toList.take n).map byteV)
  | _ => none
omit [Base] in
theorem extract_data (s : ByteArray) (n : Nat) : (s.extract 0 n).data.toList = s.data.toList.take n := by
  simp [ByteArray.data_extract]
theorem first_run (hG : G N0 W0 vs W μ) {size n : Nat} {x x' : Value} {xs : List Value} (h : vfirst vs size n x = some xs) (hx : R μ x x') :
    ∃ ys : Array Value, (Builtin.firstCells size n x').run P W = .ok ys W ∧ RA μ xs.toArray ys := by
  unfold vfirst at h
  split at h
  · rename_i a m c
    obtain ⟨l, hl, _, rfl⟩ := hx.inv_slice
    obtain ⟨ys, h1, h2⟩ := hG.run_load (P := P) h hl
    exact ⟨ys, by simp [Builtin.firstCells, h1], h2⟩
  · cases h
    cases hx
    exact ⟨#[], by simp [Builtin.firstCells], RA.empty⟩
  · rename_i s
    cases h
    cases hx
    refine ⟨(s.extract 0 n).data.map fun b => .int .u8 b.toNat, by simp [Builtin.firstCells], ?_⟩
    have e : ((s.extract 0 n).data.map fun b => Value.int .u8 b.toNat) = ((s.data.toList.take n).map byteV).toArray := by
      apply Array.ext'
      simp only [Array.toList_map, extract_data]
      rfl
    rw [e]
    refine RA_self μ (plainA_of fun i v hv => ?_)
    simp only [List.getElem?_toArray, List.getElem?_map, Option.map_eq_some_iff] at hv
    obtain ⟨b, _, rfl⟩ := hv
    rfl
  · cases h
def vlenOf : Value → Option Nat
  | .slice _ n _ => some n
  | .string s => some s.data.toList.length
  | _ => none
omit [Base] in
theorem lenOf_run {x x' : Value} {n : Nat} (h : vlenOf x = some n) (hx : R μ x x') : (Builtin.lenOf x').run P W = .ok n W := by
  unfold vlenOf at h
  split at h
  · cases h; cases hx <;> simp [Builtin.lenOf]
  · cases h; cases hx; simp [Builtin.lenOf]
  · cases h

def vcopy (T : TE) (vs : VS) (dT : TypeId) (dst src : Value) : Option (VN × VS) :=
  match T.und dT, dst, vlenOf src with
  | some (.slice elem), .slice base dLen _, some sLen => match T.inf elem with
    | some i => match vfirst vs i.size (Nat.min sLen dLen) src with
      | some [] => some (.value (goInt (Nat.min sLen dLen)), vs)
      | some xs => match base with
        | some a => match vwrite vs a xs with
          | some vs1 => some (.value (goInt (Nat.min sLen dLen)), vs1)
          | none => none
        | none => some (.value (goInt (Nat.min sLen dLen)), vs)
      | none => none
    | none => none
  | _, _, _ => none
theorem sound_copy {c : Call} {x y : Operand} {t u : TypeId} (ho : o.op = .call c) (hc : c.callee = .builtin .copy) (ha : c.args = #[x, y]) (ht : c.argTypes = #[t, u]) (h : vcopy T vs t (ρ x) (ρ y) = some (n, vs1)) : SoundM P vs ρ o n vs1 := by
  intro N0 W0 W μ ρ' hG hρ
  have h1 := hρ x (by simp [ho, Op.operands, Call.operands, hc, ha])
  have h2 := hρ y (by simp [ho, Op.operands, Call.operands, hc, ha])
  generalize hx : ρ x = vx at *
  generalize hy : ρ y = vy at *
  generalize hx' : ρ' x = vx' at *
  generalize hy' : ρ' y = vy' at *
  unfold vcopy at h
  split at h
  case h_2 => cases h
  rename_i elem base dLen cp sLen hu hl
  split at h
  case h_2 => cases h
  rename_i i hi
  have hlen := lenOf_run (P := P) (W := W) hl h2
  obtain ⟨base', cp', e0, hb⟩ : ∃ base' cp', vx' = .slice base' dLen cp' ∧ ((base = none ∧ base' = none) ∨ ∃ a l, base = some a ∧ μ a.block = some l ∧ base' = some (amap l a)) := by
    cases h1 with
    | nilslice => exact ⟨_, _, rfl, .inl ⟨rfl, rfl⟩⟩
    | slice a l _ _ hm => exact ⟨_, _, rfl, .inr ⟨a, l, rfl, hm, rfl⟩⟩
  subst e0
  split at h
  · rename_i hf
    cases h
    obtain ⟨ys, r1, r2⟩ := first_run (P := P) hG hf h2
    have hy0 : ys = #[] := by have := r2.1; simp at this; exact Array.eq_empty_of_size_eq_zero this.symm
    subst hy0
    refine ⟨μ, W, .value (goInt (Nat.min sLen dLen)), Mu.le_refl _, hG, ?_, .int _ _⟩
    rcases hb with ⟨_, rfl⟩ | ⟨a, l, _, _, rfl⟩ <;>
      simp [execOp, ho, resolve, hc, ha, ht, invoke, builtin, Builtin.copy_, run_underlying (TOk.und (P := P) hu), hx', hy', hlen, run_sizeOf' (TOk.inf (P := P) hi), r1, storeCells]
  · rename_i xs hne hf
    obtain ⟨ys, r1, r2⟩ := first_run (P := P) hG hf h2
    split at h
    · rename_i a
      split at h
      case h_2 => cases h
      rename_i vs2 hw
      cases h
      rcases hb with ⟨e, _⟩ | ⟨a', l, e, hm, rfl⟩
      · cases e
      cases e
      obtain ⟨W1, q1, q2⟩ := hG.write (P := P) hw hm (ys := ys.toList) (by simpa using r2)
      refine ⟨μ, W1, .value (goInt (Nat.min sLen dLen)), Mu.le_refl _, q2, ?_, .int _ _⟩
      simp [execOp, ho, resolve, hc, ha, ht, invoke, builtin, Builtin.copy_, run_underlying (TOk.und (P := P) hu), hx', hy', hlen, run_sizeOf' (TOk.inf (P := P) hi), r1, q1]
    · cases h
      rcases hb with ⟨_, rfl⟩ | ⟨a', l, e, hm, rfl⟩
      · refine ⟨μ, W, .value (goInt (Nat.min sLen dLen)), Mu.le_refl _, hG, ?_, .int _ _⟩
        simp [execOp, ho, resolve, hc, ha, ht, invoke, builtin, Builtin.copy_, run_underlying (TOk.und (P := P) hu), hx', hy', hlen, run_sizeOf' (TOk.inf (P := P) hi), r1]
      · cases e
  · cases h

end Go.Ev

/-
  The evaluator's append.
-/
namespace Go.Ev
open Go.RowKit
variable [Base]

variable {P : Program} {T : TE} [TOk P T] {vs vs1 : VS} {ρ : Operand → Value} {o : Oper} {n : VN} {N0 : Nat → Prop} {W0 W : World} {μ : Mu}

def keepFam (l : List (Nat × VB)) (id fam lim : Nat) : List (Nat × VB) :=
  match l with
  | [] => []
  | (i, b) :: r => bif Nat.beq b.fam fam && !(Nat.beq i id && Nat.ble b.cells.length lim) then keepFam r id fam lim else (i, b) :: keepFam r id fam lim
omit [Base] in
theorem keepFam_mem : ∀ {l : List (Nat × VB)} {id fam lim i : Nat} {b : VB}, (i, b) ∈ keepFam l id fam lim → (i, b) ∈ l ∧ (b.fam ≠ fam ∨ (i = id ∧ b.cells.length ≤ lim))
  | (j, c) :: l, id, fam, lim, i, b, h => by
    simp only [keepFam, Bool.cond_eq_ite] at h
    split at h
    · obtain ⟨h1, h2⟩ := keepFam_mem h
      exact ⟨List.mem_cons_of_mem _ h1, h2⟩
    · rename_i hc
      rcases List.mem_cons.1 h with e | h
      · cases e
        refine ⟨by simp, ?_⟩
        simp only [Bool.and_eq_true, Bool.not_eq_true', Bool.and_eq_false_iff, not_and, not_or] at hc
        by_cases hf : c.fam = fam
        · right
          have := hc (by rw [hf]; exact Nat.beq_refl _)
          simp only [Bool.not_eq_false, Nat.beq_eq, Nat.ble_eq] at this
          exact this
        · exact .inl hf
      · obtain ⟨h1, h2⟩ := keepFam_mem h
        exact ⟨List.mem_cons_of_mem _ h1, h2⟩

/- What is put behind a block's cells, in its own room. -/
theorem G.behind (h : G N0 W0 vs W μ) {a : Addr} {B : VB} (hf : find vs.heap a.block = some B) {l : Loc} (hl : μ a.block = some l) (hsp : a.spot = none) {old new : List Value} {ys : Array Value} {k sz need : Nat} (hrw : B.rw = true ∨ (B.tail = true ∧ a.off + k = B.cells.length))
    (hold : vread vs a k = some old) (hnew : RA μ new.toArray ys) (hone : ∀ v ∈ new, v.oneCell' = true) (hfit : l.off + a.off + need * sz ≤ l.off + l.len + l.extra * l.esz) (hneed : k + new.length = need * sz)
    {cap : Nat} (hcap : a.off + cap * sz = l.len) (hesz : l.esz = sz) (hle : need ≤ cap + l.extra) (hcn : cap ≤ need) :
    ∃ W1, (storeCells ((amap l a).add k) ys.toList).run P W = .ok () W1 ∧
      G N0 W0 (({ vs with heap := keepFam vs.heap a.block B.fam (a.off + k) } : VS).add ⟨old ++ new, B.elem, sz, B.fam, B.rw, true, false, B.tail⟩) W1 (μ.put vs.next ⟨l.blk, l.off + a.off, cap + l.extra - need, sz, need * sz⟩) := by
  have hmem := find_mem hf
  obtain ⟨l', c, z, hm, L⟩ := h.blocks _ _ hmem
  rw [hl] at hm; cases hm
  have hlenB := L.len
  have hN : ¬ N0 l.blk := hrw.elim (fun q => (L.own q).2) fun q => (L.tail q.1).2
  have hz : z.2 ≤ z.1 ∨ c.size ≤ z.1 ∨ z.2 ≤ l.off + a.off + k := hrw.elim (fun q => (L.own q).1.imp id .inl) fun q => .inr (.inr (by have := (L.tail q.1).1; omega))
  have hroom := L.room
  have hys : ys.size = new.length := by simpa using hnew.1.symm
  have hadd : (amap l a).add k = ⟨l.blk, l.off + a.off + k, none⟩ := by
    unfold Addr.add amap; split <;> simp_all
  have hfit2 : l.off + a.off + k + ys.toList.length ≤ c.size := by simp only [Array.length_toList, hys]; omega
  have hrun := run_storeCells_z (P := P) l.blk (l.off + a.off + k) B.elem z ys.toList c W L.at_ hz (by simpa using hfit2) (fun v hv => by
    obtain ⟨i, hi, he⟩ := List.mem_iff_getElem.1 hv
    have hi' : i < new.length := by simp at hi; omega
    have hR := hnew.2 i new[i] v (by simp) (by rw [← he]; simp)
    rw [hR.one]
    exact hone _ (by simp))
  rw [hadd]
  refine ⟨_, hrun, ?_⟩
  generalize hc1 : (c.toList.take (l.off + a.off + k) ++ ys.toList ++ c.toList.drop (l.off + a.off + k + ys.toList.length)).toArray = c1
  have hget : ∀ j, c1[j]? = if j < l.off + a.off + k then c[j]? else if j < l.off + a.off + k + ys.size then ys[j - (l.off + a.off + k)]? else c[j]? := fun j => by
    rw [← hc1, List.getElem?_toArray]
    have := splice_get (c := c.toList) (p := l.off + a.off + k) (ys := ys.toList) (by simpa using hfit2) j
    simpa using this
  have hsize : c1.size = c.size := by rw [← hc1]; simp at hfit2 ⊢; omega
  have hother : ∀ b, b ≠ l.blk → (W.setRow l.blk c1).heap[b]? = W.heap[b]? := fun b hb => setRow_other _ _ _ _ hb
  have hsame := setRow_heap W l.blk c c1 B.elem z L.at_
  have hG1 : G N0 W0 { vs with heap := keepFam vs.heap a.block B.fam (a.off + k) } (W.setRow l.blk c1) μ := by
    refine ⟨?_, by simpa using h.start, h.fresh, fun g m h0 => by simpa using h.globs g m h0, h.glo, ?_, ?_, h.objs.keep fun b o e hn => ?_, h.base⟩
    · exact h.below.trans ⟨rfl, rfl, rfl, by simp, fun b hb => hother b fun e => hN (e ▸ hb)⟩
    · intro id B' hin
      obtain ⟨hin', hcase⟩ := keepFam_mem hin
      obtain ⟨l', c', z', hm', L'⟩ := h.blocks _ _ hin'
      by_cases hb : l'.blk = l.blk
      · rcases hcase with hfam | ⟨rfl, hlim⟩
        · exact absurd hb (h.apart _ _ _ _ hin' hmem hfam _ _ hm' hl)
        · rw [hl] at hm'; cases hm'
          have e := L'.at_
          rw [L.at_] at e
          simp only [Option.some.injEq, Obj.cells.injEq] at e
          obtain ⟨rfl, e2, rfl⟩ := e
          refine ⟨l, c1, z, hl, ⟨by rw [hsame, e2], fun x => ⟨by rw [hsize]; exact (L'.own x).1, (L'.own x).2⟩, L'.len, L'.esz, by rw [hsize]; exact L'.room, L'.fixed, fun x => ⟨(L'.whole x).1, by rw [hsize]; exact (L'.whole x).2⟩, L'.tail, ?_⟩⟩
          intro i v hv
          obtain ⟨v', q1, q2⟩ := L'.cells i v hv
          have hi := (List.getElem?_eq_some_iff.1 hv).1
          refine ⟨v', ?_, q2⟩
          rw [hget, if_pos (by omega), q1]
      · exact ⟨l', c', z', hm', ⟨by rw [hother _ hb]; exact L'.at_, L'.own, L'.len, L'.esz, L'.room, L'.fixed, L'.whole, L'.tail, L'.cells⟩⟩
    · intro id B1 id' B2 h1 h2 hfam
      exact h.apart id B1 id' B2 (keepFam_mem h1).1 (keepFam_mem h2).1 hfam
    · by_cases hb : b = l.blk
      · rw [hb, L.at_] at e; cases e; cases hn
      · rw [hother _ hb]; exact e
  obtain ⟨ys0, r1, r2, r3, r4⟩ := h.read hold hl
  have hle' := Mu.put_le (h.fresh vs.next (Nat.le_refl _)) ⟨l.blk, l.off + a.off, cap + l.extra - need, sz, need * sz⟩
  have hmulc : cap * sz ≤ need * sz := Nat.mul_le_mul_right _ hcn
  refine hG1.add (c := c1) (z := z) ⟨hsame, fun x => ⟨by rw [hsize]; exact (L.own x).1, hN⟩, ?_, rfl, ?_, fun x => (by cases x), fun x => (by cases x), fun x => ⟨Nat.le_trans (L.tail x).1 (by show l.off + l.len ≤ l.off + a.off + need * sz; omega), hN⟩, ?_⟩ ?_
  · simp only [List.length_append]; omega
  · rw [hsize]
    show l.off + a.off + need * sz + (cap + l.extra - need) * sz ≤ c.size
    have e : need * sz + (cap + l.extra - need) * sz = cap * sz + l.extra * sz := by rw [← Nat.add_mul, ← Nat.add_mul]; congr 1; omega
    rw [hesz] at hroom
    omega
  · intro i v hv
    by_cases hi : i < old.length
    · rw [List.getElem?_append_left hi] at hv
      have hi0 : i < ys0.length := by omega
      have q := r3 i ys0[i] (by simp)
      have hs : (amap l a).add i = ⟨l.blk, l.off + a.off + i, none⟩ := by unfold Addr.add amap; split <;> simp_all
      rw [hs] at q
      simp only [World.cell?, L.at_] at q
      refine ⟨ys0[i], ?_, (r4.2 i v _ (by simpa using hv) (by simp)).mono hle'⟩
      show c1[l.off + a.off + i]? = _
      rw [hget, if_pos (by omega)]
      simpa using q
    · rw [List.getElem?_append_right (by omega)] at hv
      have hj : i - old.length < new.length := (List.getElem?_eq_some_iff.1 hv).1
      have hj' : i - old.length < ys.size := by omega
      refine ⟨ys[i - old.length], ?_, (hnew.2 (i - old.length) v _ (by simpa using hv) (by simp)).mono hle'⟩
      show c1[l.off + a.off + i]? = _
      rw [hget, if_neg (by omega), if_pos (by omega)]
      have : l.off + a.off + i - (l.off + a.off + k) = i - old.length := by omega
      rw [this]
      simp [hj']
  · intro id' B' hm' hfam l' hl'
    exact h.apart id' B' _ B (keepFam_mem hm').1 hmem hfam l' l hl' hl


omit [Base] in
theorem growBy_le (need : Nat) : ∀ r c, c ≤ need → Builtin.growBy need r c ≤ need + (need + 768) / 4
  | 0, c, h => by simp only [Builtin.growBy]; omega
  | r + 1, c, h => by
    simp only [Builtin.growBy]
    split
    · omega
    · by_cases h2 : c + (c + 768) / 4 ≤ need
      · exact growBy_le need r _ h2
      · have : Builtin.growBy need r (c + (c + 768) / 4) = c + (c + 768) / 4 := by
          cases r with
          | zero => rfl
          | succ r => simp only [Builtin.growBy]; rw [if_pos (by omega)]
        rw [this]; omega
omit [Base] in
theorem nextcap_le {need c : Nat} (h : c < need) : Builtin.nextslicecap need c ≤ 2 * need + 1000 := by
  unfold Builtin.nextslicecap
  split
  · omega
  · split
    · omega
    · have := growBy_le need 4 c (by omega)
      omega

omit [Base] in
theorem size_zeroCells (z : Array Value) (k : Nat) : (Builtin.zeroCells z k).size = k * z.size := by simp [Builtin.zeroCells]

def rowD : TypeDesc → Bool
  | .slice _ => true
  | .string => true
  | _ => false

/- append where a new row must be made. -/
omit [Base] in
theorem append_new {sT xT ty elem : TypeId} {d : TypeDesc} {i : TypeInfo} {z : Value} {base : Option Addr} {sLen sCap k : Nat} {x' : Value} {ys0 ys : Array Value} (hu : T.und sT = some (.slice elem)) (hx : T.und xT = some d) (hd : rowD d = true)
    (hi : T.inf elem = some i) (hz : i.zero = some z) (hl : (Builtin.lenOf x').run P W = .ok k W) (hbig : (2 * (sLen + k) + 1000) * i.bytes ≤ 2 ^ 40) (hsmall : sLen + k ≤ 2 ^ 40) (hc : ¬ sLen + k ≤ sCap)
    (hold : (Builtin.firstCells i.size sLen (.slice base sLen sCap)).run P W.drew = .ok ys0 W.drew) (hnew : (Builtin.firstCells i.size k x').run P W.drew = .ok ys W.drew) :
    ∃ cap, sLen + k ≤ cap ∧ (Builtin.append_ #[sT, xT] ty #[.slice base sLen sCap, x']).run P W =
      .ok (.slice (some ⟨W.heap.size, 0, none⟩) (sLen + k) cap) (W.drew.alloc (.cells (ys0 ++ ys ++ Builtin.zeroCells z.cells (cap - (sLen + k))) elem)) := by
  refine ⟨(Question.appendCap (sLen + k) sCap elem).cut (W.tape W.drawn (.appendCap (sLen + k) sCap elem)), by simp [Question.cut], ?_⟩
  have hforced : (Question.appendCap (sLen + k) sCap elem).forced = false := rfl
  have hn1 : ¬ (((sLen + k : Nat) : Int) > IntKind.i64.max ∧ ((false = true) ∨ i.bytes = 0)) := by
    have : IntKind.i64.max = 9223372036854775807 := by decide
    rw [this]; omega
  have hn2 : ¬ Builtin.nextslicecap (sLen + k) sCap * i.bytes > 2 ^ 48 := by
    have h1 := nextcap_le (need := sLen + k) (c := sCap) (by omega)
    have h2 : Builtin.nextslicecap (sLen + k) sCap * i.bytes ≤ (2 * (sLen + k) + 1000) * i.bytes := Nat.mul_le_mul_right _ h1
    omega
  have hm1 : ¬ ((9223372036854775807 : Int) < (sLen : Int) + k ∧ i.bytes = 0) := by omega
  have hn2' : ¬ 281474976710656 < Builtin.nextslicecap (sLen + k) sCap * i.bytes := by omega
  have hmax : IntKind.i64.max = 9223372036854775807 := by decide
  obtain ⟨e, rfl⟩ | rfl : (∃ e, d = .slice e) ∨ d = .string := by cases d <;> simp [rowD] at hd ⊢
  · simp [Builtin.append_, run_underlying (TOk.und (P := P) hu), run_underlying (TOk.und (P := P) hx), run_sizeOf' (TOk.inf (P := P) hi), hl, hc, run_typeInfo' (TOk.inf (P := P) hi), hm1, hn2', hforced, hold, hnew, run_zero' (TOk.inf (P := P) hi) hz, newRow, hmax]
  · simp [Builtin.append_, run_underlying (TOk.und (P := P) hu), run_underlying (TOk.und (P := P) hx), run_sizeOf' (TOk.inf (P := P) hi), hl, hc, run_typeInfo' (TOk.inf (P := P) hi), hm1, hn2', hforced, hold, hnew, run_zero' (TOk.inf (P := P) hi) hz, newRow, hmax]

/- append in a row's own room. -/
omit [Base] in
theorem append_in {sT xT ty elem : TypeId} {d : TypeDesc} {i : TypeInfo} {a : Addr} {sLen sCap k : Nat} {x' : Value} {ys : Array Value} {W1 : World} (hu : T.und sT = some (.slice elem)) (hx : T.und xT = some d) (hd : rowD d = true)
    (hi : T.inf elem = some i) (hl : (Builtin.lenOf x').run P W = .ok k W) (hc : sLen + k ≤ sCap) (hnew : (Builtin.firstCells i.size k x').run P W = .ok ys W) (hst : (storeCells (a.add (sLen * i.size)) ys.toList).run P W = .ok () W1) :
    (Builtin.append_ #[sT, xT] ty #[.slice (some a) sLen sCap, x']).run P W = .ok (.slice (some a) (sLen + k) sCap) W1 := by
  obtain ⟨e, rfl⟩ | rfl : (∃ e, d = .slice e) ∨ d = .string := by cases d <;> simp [rowD] at hd ⊢
  · simp [Builtin.append_, run_underlying (TOk.und (P := P) hu), run_underlying (TOk.und (P := P) hx), run_sizeOf' (TOk.inf (P := P) hi), hl, hc, hnew, hst]
  · simp [Builtin.append_, run_underlying (TOk.und (P := P) hu), run_underlying (TOk.und (P := P) hx), run_sizeOf' (TOk.inf (P := P) hi), hl, hc, hnew, hst]
omit [Base] in
theorem append_nil {sT xT ty elem : TypeId} {d : TypeDesc} {i : TypeInfo} {sLen sCap k : Nat} {x' : Value} {ys : Array Value} (hu : T.und sT = some (.slice elem)) (hx : T.und xT = some d) (hd : rowD d = true)
    (hi : T.inf elem = some i) (hl : (Builtin.lenOf x').run P W = .ok k W) (hc : sLen + k ≤ sCap) (hnew : (Builtin.firstCells i.size k x').run P W = .ok ys W) :
    (Builtin.append_ #[sT, xT] ty #[.slice none sLen sCap, x']).run P W = .ok (.slice none (sLen + k) sCap) W := by
  obtain ⟨e, rfl⟩ | rfl : (∃ e, d = .slice e) ∨ d = .string := by cases d <;> simp [rowD] at hd ⊢
  · simp [Builtin.append_, run_underlying (TOk.und (P := P) hu), run_underlying (TOk.und (P := P) hx), run_sizeOf' (TOk.inf (P := P) hi), hl, hc, hnew]
  · simp [Builtin.append_, run_underlying (TOk.und (P := P) hu), run_underlying (TOk.und (P := P) hx), run_sizeOf' (TOk.inf (P := P) hi), hl, hc, hnew]

def vappendG (T : TE) (vs : VS) (sT xT : TypeId) (s : Value) (k : Nat) (nf : Nat → Option (List Value)) : Option (VN × VS) :=
  match T.und sT, T.und xT, s with
  | some (.slice elem), some d, .slice base sLen sCap => match T.inf elem with
    | some i => match i.zero, nf i.size with
      | some z, some new =>
        bif rowD d then
          bif Nat.ble (sLen + k) sCap then
            match base, new with
            | none, _ => some (.value (.slice none (sLen + k) sCap), vs)
            | some a, [] => some (.value (.slice (some a) (sLen + k) sCap), vs)
            | some a, new => match vwrite vs (a.add (sLen * i.size)) new with
              | some vs1 => some (.value (.slice (some a) (sLen + k) sCap), vs1)
              | none => none
          else bif Nat.beq z.cells.size i.size && Nat.ble ((2 * (sLen + k) + 1000) * i.bytes) (2 ^ 40) && Nat.ble (sLen + k) (2 ^ 40) && Nat.beq new.length (k * i.size) && new.all Value.oneCell' then
            match base with
            | none => bif Nat.beq sLen 0 then some (.value (.slice (some ⟨vs.next, 0, none⟩) k k), vs.add ⟨new, elem, i.size, vs.next, true, true, false, true⟩) else none
            | some a => match find vs.heap a.block, vread vs a (sLen * i.size) with
              | some B, some old =>
                bif B.grow then
                  bif (B.rw || (B.tail && Nat.beq (a.off + sLen * i.size) B.cells.length)) && Nat.beq B.esz i.size && Nat.beq B.elem elem && a.spot.isNone then
                    some (.value (.slice (some ⟨vs.next, 0, none⟩) (sLen + k) (sLen + k)), ({ vs with heap := keepFam vs.heap a.block B.fam (a.off + sLen * i.size) } : VS).add ⟨old ++ new, elem, i.size, B.fam, B.rw, true, false, B.tail⟩)
                  else none
                else some (.value (.slice (some ⟨vs.next, 0, none⟩) (sLen + k) (sLen + k)), vs.add ⟨old ++ new, elem, i.size, vs.next, true, true, false, true⟩)
              | _, _ => none
          else none
        else none
      | _, _ => none
    | none => none
  | _, _, _ => none
def vappend (T : TE) (vs : VS) (sT xT : TypeId) (s x : Value) : Option (VN × VS) :=
  match vlenOf x with
  | some k => vappendG T vs sT xT s k fun sz => vfirst vs sz k x
  | none => none

theorem G.keep (h : G N0 W0 vs W μ) (id fam lim : Nat) : G N0 W0 { vs with heap := keepFam vs.heap id fam lim } W μ :=
  ⟨h.below, h.start, h.fresh, h.globs, h.glo, fun id B hm => h.blocks id B (keepFam_mem hm).1, fun id B id' B' h1 h2 => h.apart id B id' B' (keepFam_mem h1).1 (keepFam_mem h2).1, h.objs, h.base⟩

/- The new row, as the evaluator has it. -/
theorem G.newRow {rw tail : Bool} (h : G N0 W0 vs W μ) {old new : List Value} {ys0 ys : Array Value} {elem : TypeId} {sz fam need cap : Nat} {z : Array Value} (h0 : RA μ old.toArray ys0) (h1 : RA μ new.toArray ys) (hz : z.size = sz) (hlen : old.length + new.length = need * sz) :
    G N0 W0 (vs.add ⟨old ++ new, elem, sz, fam, rw, true, false, tail⟩) (W.alloc (.cells (ys0 ++ ys ++ Builtin.zeroCells z (cap - need)) elem)) (μ.put vs.next ⟨W.heap.size, 0, cap - need, sz, need * sz⟩) := by
  have hr := h0.append h1
  have := h.alloc (xs := old ++ new) (ys := ys0 ++ ys) (rest := Builtin.zeroCells z (cap - need)) (elem := elem) (esz := sz) (extra := cap - need) (fam := fam) (rw := rw) (grow := true) (whole := false) (tail := tail) (by simpa using hr) (by rw [size_zeroCells, hz]; exact Nat.le_refl _) (fun h => by cases h) (fun h => by cases h)
  have e : (old ++ new).length = need * sz := by simpa using hlen
  rw [e] at this
  exact this

theorem append_core (hG : G N0 W0 vs W μ) {vx vx' vy' : Value} (h1 : R μ vx vx') {t u ty : TypeId} {k : Nat} {nf : Nat → Option (List Value)} (h : vappendG T vs t u vx k nf = some (n, vs1)) (hlen : ∀ w, (Builtin.lenOf vy').run P w = .ok k w)
    (hfst : ∀ sz new, nf sz = some new → ∃ ys, RA μ new.toArray ys ∧ (Builtin.firstCells sz k vy').run P W = .ok ys W ∧ (Builtin.firstCells sz k vy').run P W.drew = .ok ys W.drew)
    {E : Sem Next} (hexec : ∀ v W1, (Builtin.append_ #[t, u] ty #[vx', vy']).run P W = .ok v W1 → E.run P W = .ok (.value v) W1) : ∃ μ1 W1 n', μ.le μ1 ∧ G N0 W0 vs1 W1 μ1 ∧ E.run P W = .ok n' W1 ∧ RN μ1 n n' := by
  unfold vappendG at h
  split at h
  case h_2 => cases h
  rename_i elem d base sLen sCap hu hud
  split at h
  case h_2 => cases h
  rename_i i hi
  split at h
  case h_2 => cases h
  rename_i z new hz hf
  simp only [Bool.cond_eq_ite] at h
  split at h
  case isFalse => cases h
  rename_i hd
  have hlen1 := hlen W.drew
  have hlen := hlen W
  obtain ⟨ys, r2, r1, r1d⟩ := hfst _ _ hf
  split at h
  · rename_i hfit
    have hfit := Nat.le_of_ble_eq_true hfit
    split at h
    · cases h
      cases h1
      exact ⟨μ, W, _, Mu.le_refl _, hG, hexec _ _ (append_nil (P := P) hu hud hd hi hlen hfit r1), .nilslice _ _⟩
    · rename_i a
      cases h
      obtain ⟨l, hm, hex, rfl⟩ := h1.inv_slice
      have hy0 : ys = #[] := by have := r2.1; simp at this; exact Array.eq_empty_of_size_eq_zero this.symm
      subst hy0
      exact ⟨μ, W, _, Mu.le_refl _, hG, hexec _ _ (append_in (P := P) hu hud hd hi hlen (Nat.le_trans hfit (Nat.le_add_right _ _)) r1 (by simp [storeCells])), .slice a l _ _ hm hex⟩
    · rename_i a _
      split at h
      case h_2 => cases h
      rename_i vs2 hw
      cases h
      obtain ⟨l, hm, hex, rfl⟩ := h1.inv_slice
      have hblk : (a.add (sLen * i.size)).block = a.block := by unfold Addr.add; split <;> rfl
      obtain ⟨W1, q1, q2⟩ := hG.write (P := P) hw (l := l) (by rw [hblk]; exact hm) (ys := ys.toList) (by simpa using r2)
      rw [← amap_add] at q1
      exact ⟨μ, W1, _, Mu.le_refl _, q2, hexec _ _ (append_in (P := P) hu hud hd hi hlen (Nat.le_trans hfit (Nat.le_add_right _ _)) r1 q1), .slice a l _ _ hm hex⟩
  · rename_i hnofit
    have hnofit : ¬ sLen + k ≤ sCap := fun e => hnofit (by rw [Nat.ble_eq]; exact e)
    split at h
    case isFalse => cases h
    rename_i hb
    simp only [Bool.and_eq_true, Nat.ble_eq, Nat.beq_eq, List.all_eq_true] at hb
    obtain ⟨⟨⟨⟨b1, b2⟩, b3⟩, b4⟩, b5⟩ := hb
    split at h
    · split at h
      case isFalse => cases h
      rename_i hs0
      have hs0 := Nat.eq_of_beq_eq_true hs0
      subst hs0
      cases h
      cases h1
      obtain ⟨cap, hcap, hr⟩ := append_new (P := P) (ty := ty) (W := W) (base := none) (ys0 := #[]) hu hud hd hi hz hlen b2 b3 hnofit (by simp [Builtin.firstCells]) r1d
      have hg := G.newRow (rw := true) (tail := true) (hG.drawn (W.drawn + 1)) (old := []) (elem := elem) (fam := vs.next) RA.empty r2 (z := z.cells) b1 (need := 0 + k) (cap := cap) (by simpa using b4)
      refine ⟨_, _, _, hG.le_put _, hg, hexec _ _ hr, ?_⟩
      have := R_newSlice (μ := μ) vs W.heap.size (cap - (0 + k)) i.size ((0 + k) * i.size) (0 + k) (.inr rfl) (0 + k)
      have e : 0 + k + (cap - (0 + k)) = cap := by omega
      rw [e] at this
      simpa [RN] using this
    · rename_i a
      obtain ⟨l, hm, hex, rfl⟩ := h1.inv_slice
      split at h
      case h_2 => cases h
      rename_i B old hfind hold
      obtain ⟨l', cc, zz, hm', L⟩ := hG.blocks _ _ (find_mem hfind)
      rw [hm] at hm'; cases hm'
      obtain ⟨ys0, p1, p2⟩ := (hG.drawn (W.drawn + 1)).run_load (P := P) hold hm
      obtain ⟨yy, t1, t2, t3, t4⟩ := hG.read hold hm
      have hfc : (Builtin.firstCells i.size sLen (.slice (some (amap l a)) sLen (sCap + l.extra))).run P W.drew = .ok ys0 W.drew := by
        simp only [Builtin.firstCells]; exact p1
      have hlen3 : old.length + new.length = (sLen + k) * i.size := by rw [t1, b4, Nat.add_mul]
      split at h
      · rename_i hgrow
        split at h
        case isFalse => cases h
        rename_i hb2
        simp only [Bool.and_eq_true, Bool.or_eq_true, Nat.beq_eq, Option.isNone_iff_eq_none] at hb2
        obtain ⟨⟨⟨g1, g2⟩, g3⟩, g4⟩ := hb2
        subst g3
        cases h
        by_cases hin : sLen + k ≤ sCap + l.extra
        · have hex0 : ¬ l.extra = 0 := by omega
          have hoff := hex.resolve_left hex0
          have hesz : l.esz = i.size := by rw [L.esz, g2]
          rw [hesz] at hoff
          have hmul : (sLen + k) * i.size ≤ (sCap + l.extra) * i.size := Nat.mul_le_mul_right _ hin
          have hmul2 : (sCap + l.extra) * i.size = sCap * i.size + l.extra * i.size := Nat.add_mul _ _ _
          obtain ⟨W1, q1, q2⟩ := hG.behind (P := P) (sz := i.size) (need := sLen + k) (cap := sCap) hfind hm g4 (k := sLen * i.size) (g1.imp id fun q => ⟨q.1, q.2⟩) hold r2 b5 (by rw [hesz]; omega) (by rw [Nat.add_mul, ← b4]) hoff hesz hin (by omega)
          refine ⟨_, W1, _, hG.le_put _, q2, hexec _ _ (append_in (P := P) hu hud hd hi hlen hin r1 q1), ?_⟩
          have := R.slice (μ := μ.put vs.next ⟨l.blk, l.off + a.off, sCap + l.extra - (sLen + k), i.size, (sLen + k) * i.size⟩) ⟨vs.next, 0, none⟩ _ (sLen + k) (sLen + k) (Mu.put_self _ _ _) (.inr (by simp))
          have e : sLen + k + (sCap + l.extra - (sLen + k)) = sCap + l.extra := by omega
          simpa [amap, RN, e, g4] using this
        · obtain ⟨cap, hcap, hr⟩ := append_new (P := P) (ty := ty) (W := W) hu hud hd hi hz hlen b2 b3 hin hfc r1d
          have hg := G.newRow (rw := B.rw) (tail := B.tail) ((hG.keep a.block B.fam (a.off + sLen * i.size)).drawn (W.drawn + 1)) (old := old) (elem := B.elem) (fam := B.fam) p2 r2 (z := z.cells) (cap := cap) b1 hlen3
          refine ⟨_, _, _, hG.le_put _, hg, hexec _ _ hr, ?_⟩
          have := R_newSlice (μ := μ) vs W.heap.size (cap - (sLen + k)) i.size ((sLen + k) * i.size) (sLen + k) (.inr rfl) (sLen + k)
          have e : sLen + k + (cap - (sLen + k)) = cap := by omega
          rw [e] at this
          exact this
      · rename_i hgrow
        have hex0 := L.fixed (by simpa using hgrow)
        cases h
        obtain ⟨cap, hcap, hr⟩ := append_new (P := P) (ty := ty) (W := W) hu hud hd hi hz hlen b2 b3 (by omega) hfc r1d
        have hg := G.newRow (rw := true) (tail := true) (hG.drawn (W.drawn + 1)) (old := old) (elem := elem) (fam := vs.next) p2 r2 (z := z.cells) (cap := cap) b1 hlen3
        refine ⟨_, _, _, hG.le_put _, hg, hexec _ _ hr, ?_⟩
        have := R_newSlice (μ := μ) vs W.heap.size (cap - (sLen + k)) i.size ((sLen + k) * i.size) (sLen + k) (.inr rfl) (sLen + k)
        have e : sLen + k + (cap - (sLen + k)) = cap := by omega
        rw [e] at this
        exact this

theorem sound_append {c : Call} {x y : Operand} {t u : TypeId} (ho : o.op = .call c) (hc : c.callee = .builtin .append) (ha : c.args = #[x, y]) (ht : c.argTypes = #[t, u]) (h : vappend T vs t u (ρ x) (ρ y) = some (n, vs1)) : SoundM P vs ρ o n vs1 := by
  intro N0 W0 W μ ρ' hG hρ
  have h1 := hρ x (by simp [ho, Op.operands, Call.operands, hc, ha])
  have h2 := hρ y (by simp [ho, Op.operands, Call.operands, hc, ha])
  unfold vappend at h
  split at h
  case h_2 => cases h
  rename_i k hl
  refine append_core (P := P) (ty := o.type) hG h1 h (fun w => lenOf_run (P := P) (W := w) hl h2) (fun sz new hf => ?_) (fun v W1 hr => by simp [execOp, ho, resolve, hc, ha, ht, invoke, builtin, hr])
  obtain ⟨ys, r1, r2⟩ := first_run (P := P) hG hf h2
  obtain ⟨ysd, r1d, r2d⟩ := first_run (P := P) (hG.drawn (W.drawn + 1)) hf h2
  have hysd : ysd = ys := r2d.fn r2
  subst hysd
  exact ⟨ysd, r2, r1, r1d⟩

end Go.Ev

/-
  The evaluator's maps, and iterators over texts.
-/
namespace Go.Ev
open Go.RowKit
variable [Base]

variable {P : Program} {T : TE} [TOk P T] {vs vs1 : VS} {ρ : Operand → Value} {o : Oper} {n : VN} {N0 : Nat → Prop} {W0 W : World} {μ : Mu}

def findO : List (Nat × VOb) → Nat → Option VOb
  | [], _ => none
  | (i, b) :: l, a => bif Nat.beq i a then some b else findO l a
def updO (id : Nat) (O : VOb) : List (Nat × VOb) → List (Nat × VOb)
  | [] => []
  | (i, b) :: l => bif Nat.beq i id then (i, O) :: updO id O l else (i, b) :: updO id O l
omit [Base] in
theorem findO_mem : ∀ {l : List (Nat × VOb)} {a : Nat} {b : VOb}, findO l a = some b → (a, b) ∈ l
  | (i, c) :: l, a, b, h => by
    simp only [findO, Bool.cond_eq_ite] at h
    split at h
    · rename_i hi
      have := Nat.eq_of_beq_eq_true hi
      cases h; subst this; simp
    · exact List.mem_cons_of_mem _ (findO_mem h)
omit [Base] in
theorem updO_mem : ∀ {l : List (Nat × VOb)} {id : Nat} {O : VOb} {a : Nat} {b : VOb}, (a, b) ∈ updO id O l → (a = id ∧ b = O) ∨ (a ≠ id ∧ (a, b) ∈ l)
  | (i, c) :: l, id, O, a, b, h => by
    simp only [updO, Bool.cond_eq_ite] at h
    split at h
    · rename_i hi
      have := Nat.eq_of_beq_eq_true hi
      rcases List.mem_cons.1 h with h | h
      · cases h; exact .inl ⟨this, rfl⟩
      · rcases updO_mem h with h | ⟨h1, h2⟩
        · exact .inl h
        · exact .inr ⟨h1, List.mem_cons_of_mem _ h2⟩
    · rename_i hi
      rcases List.mem_cons.1 h with h | h
      · cases h; exact .inr ⟨fun e => hi (by rw [e]; exact Nat.beq_refl _), by simp⟩
      · rcases updO_mem h with h | ⟨h1, h2⟩
        · exact .inl h
        · exact .inr ⟨h1, List.mem_cons_of_mem _ h2⟩

/- What the world holds where the evaluator has a map. -/
theorem G.obj (h : G N0 W0 vs W μ) {r : Nat} {O : VOb} (hf : findO vs.objs r = some O) {l : Loc} (hl : μ r = some l) : ∃ o, W.heap[l.blk]? = some o ∧ RO μ O.o o ∧ (O.rw = true → ¬ N0 l.blk) ∧ l.off = 0 := by
  obtain ⟨l', o, h1, h2⟩ := h.objs.at_ _ _ (findO_mem hf)
  rw [hl] at h1; cases h1
  exact ⟨o, h2⟩
omit [Base] in
theorem RO.inv_map {es : List (Value × Value × Nat)} {c : Nat} {o : Obj} (h : RO μ (.map es c) o) : ∃ es', o = .map es' c ∧ RE μ es es'.toList := by
  cases o <;> simp only [RO] at h
  obtain ⟨rfl, h⟩ := h
  exact ⟨_, rfl, h⟩
omit [Base] in
theorem RO.inv_iter {s : ByteArray} {p : Nat} {o : Obj} (h : RO μ (.iter s p) o) : o = .stringIter s p := by
  cases o <;> simp only [RO] at h
  obtain ⟨rfl, rfl⟩ := h
  rfl

/- Writing one. -/
def vset (vs : VS) (id : Nat) (o : VO) : VS := { heap := vs.heap, next := vs.next, ng := vs.ng, objs := updO id ⟨o, true⟩ vs.objs, dfr := vs.dfr }
theorem G.setObj (h : G N0 W0 vs W μ) {r : Nat} {O : VOb} (hf : findO vs.objs r = some O) (hrw : O.rw = true) {l : Loc} (hl : μ r = some l) {v : VO} {o : Obj} (hv : RO μ v o) :
    G N0 W0 (vset vs r v) { W with heap := W.heap.setIfInBounds l.blk o } μ := by
  obtain ⟨o0, h1, h2, h3, h4⟩ := h.obj hf hl
  have hlt : l.blk < W.heap.size := (Array.getElem?_eq_some_iff.1 h1).1
  have e1 : (W.heap.setIfInBounds l.blk o)[l.blk]? = some o := by simp [hlt]
  have e2 : ∀ r', r' ≠ l.blk → (W.heap.setIfInBounds l.blk o)[r']? = W.heap[r']? := fun r' hne => by simp [Ne.symm hne]
  have hN := h3 hrw
  refine ⟨h.below.trans ⟨rfl, rfl, rfl, by simp, fun k hk => e2 k fun e => hN (e ▸ hk)⟩, by simpa using h.start, h.fresh, fun g m h0 => by simpa using h.globs g m h0, h.glo, ?_, h.apart, ⟨?_, ?_⟩, h.base⟩
  · intro id B hm
    obtain ⟨m, c, z, q1, L⟩ := h.blocks id B hm
    have hne : m.blk ≠ l.blk := fun e => by
      have := L.at_
      rw [e, h1] at this
      cases this
      exact absurd h2.nc (by simp [notCells])
    exact ⟨m, c, z, q1, ⟨by rw [e2 _ hne]; exact L.at_, L.own, L.len, L.esz, L.room, L.fixed, L.whole, L.tail, L.cells⟩⟩
  · intro id O' hm
    rcases updO_mem hm with ⟨rfl, rfl⟩ | ⟨hne, hm'⟩
    · exact ⟨l, o, hl, e1, hv, fun _ => hN, h4⟩
    · obtain ⟨m, o', q1, q2, q3, q4⟩ := h.objs.at_ id O' hm'
      have hb : m.blk ≠ l.blk := h.objs.apart id O' r O hm' (findO_mem hf) hne m l q1 hl
      exact ⟨m, o', q1, by rw [e2 _ hb]; exact q2, q3, q4⟩
  · intro id O1 id' O2 hm hm' hne m m' q q'
    have key : ∀ {id : Nat} {O' : VOb}, (id, O') ∈ updO r ⟨v, true⟩ vs.objs → ∃ O'', (id, O'') ∈ vs.objs := fun {id} {O'} hm => by
      rcases updO_mem hm with ⟨rfl, rfl⟩ | ⟨_, h⟩
      · exact ⟨_, findO_mem hf⟩
      · exact ⟨_, h⟩
    obtain ⟨a, ha⟩ := key hm
    obtain ⟨b, hb⟩ := key hm'
    exact h.objs.apart id a id' b ha hb hne m m' q q'

/- One more. -/
def vnew (vs : VS) (o : VO) : VS := { heap := vs.heap, next := vs.next + 1, ng := vs.ng, objs := (vs.next, ⟨o, true⟩) :: vs.objs, dfr := vs.dfr }
theorem G.newObj (h : G N0 W0 vs W μ) {v : VO} {o : Obj} (hv : RO μ v o) : G N0 W0 (vnew vs v) (W.alloc o) (μ.put vs.next ⟨W.heap.size, 0, 0, 1, 0⟩) := by
  have hn : μ vs.next = none := h.fresh _ (Nat.le_refl _)
  have hle : μ.le (μ.put vs.next ⟨W.heap.size, 0, 0, 1, 0⟩) := Mu.put_le hn _
  have h1 : G N0 W0 vs (W.alloc o) μ := h.world (Kept.new _ _)
  have hat : (W.alloc o).heap[W.heap.size]? = some o := by
    show (W.heap.push _)[W.heap.size]? = _
    simp
  have hold : ∀ id O', (id, O') ∈ vs.objs → ∀ l', (μ.put vs.next ⟨W.heap.size, 0, 0, 1, 0⟩) id = some l' → μ id = some l' ∧ l'.blk < W.heap.size := fun id O' hm l' hl => by
    obtain ⟨m, _, q1, q2, _⟩ := h.objs.at_ id O' hm
    have hne : id ≠ vs.next := fun e => by rw [e, hn] at q1; cases q1
    have : μ id = some l' := by simpa [Mu.put, hne] using hl
    rw [q1] at this; cases this
    exact ⟨q1, (Array.getElem?_eq_some_iff.1 q2).1⟩
  refine ⟨h1.below, h1.start, ?_, ?_, fun g hg => let ⟨m, h2, h3⟩ := h.glo g hg; ⟨m, hle _ _ h2, h3⟩, ?_, ?_, ⟨?_, ?_⟩, h.base⟩
  · intro a ha
    simp only [vnew] at ha
    have : a ≠ vs.next := by omega
    simp [Mu.put, this, h.fresh a (by omega)]
  · intro g m hg
    unfold Mu.put at hg
    split at hg
    · cases hg; exact (Array.getElem?_eq_some_iff.1 hat).1
    · exact h1.globs _ _ hg
  · intro id B hm
    obtain ⟨l, c, z, q1, L⟩ := h1.blocks id B hm
    exact ⟨l, c, z, hle _ _ q1, L.mono hle⟩
  · intro id B id' B' hm hm' hf l l' q q'
    obtain ⟨m, _, _, q1, _⟩ := h.blocks id B hm
    obtain ⟨m', _, _, q1', _⟩ := h.blocks id' B' hm'
    rw [hle _ _ q1] at q; rw [hle _ _ q1'] at q'; cases q; cases q'
    exact h.apart id B id' B' hm hm' hf _ _ q1 q1'
  · intro id O' hm
    rcases List.mem_cons.1 hm with e | hm
    · cases e; exact ⟨_, o, Mu.put_self _ _ _, hat, hv.mono hle, fun _ hk => Nat.lt_irrefl _ (h.start _ hk), rfl⟩
    · obtain ⟨l, o', q1, q2, q3, q4⟩ := h1.objs.at_ id O' hm
      exact ⟨l, o', hle _ _ q1, q2, q3.mono hle, q4⟩
  · intro id O1 id' O2 hm hm' hne l l' q q'
    rcases List.mem_cons.1 hm with e | hm <;> rcases List.mem_cons.1 hm' with e' | hm'
    · cases e; cases e'; exact absurd rfl hne
    · cases e
      rw [Mu.put_self] at q; cases q
      have := (hold _ _ hm' _ q').2
      show W.heap.size ≠ l'.blk
      omega
    · cases e'
      rw [Mu.put_self] at q'; cases q'
      have := (hold _ _ hm _ q).2
      show l.blk ≠ W.heap.size
      omega
    · exact h.objs.apart id O1 id' O2 hm hm' hne _ _ (hold _ _ hm _ q).1 (hold _ _ hm' _ q').1

/- Keys. -/
def keyEq (d : TypeDesc) (k k' : Value) : Option Bool :=
  match d, k, k' with
  | .int _, .int a x, .int b y => bif (a == b) then some (ieq x y) else none
  | .string, .string a, .string b => some (beqL a.data.toList b.data.toList)
  | .bool, .bool a, .bool b => some (a == b)
  | _, _, _ => none
omit [Base] in
theorem keyEq_eq {d : TypeDesc} {k k' : Value} {b : Bool} (h : keyEq d k k' = some b) : Instr.sameNow d k k' = some b := by
  unfold keyEq at h
  split at h
  · rename_i a x b' y
    simp only [Bool.cond_eq_ite] at h
    split at h
    · rename_i hk
      have hk := eq_of_beq hk
      cases h; simp [Instr.sameNow, hk, ieq_eq]
    · cases h
  · cases h
    rename_i a b
    obtain ⟨⟨a⟩⟩ := a
    obtain ⟨⟨b⟩⟩ := b
    simp only [Instr.sameNow, beqL_eq]
    congr 1
    show ((⟨a⟩ : Array UInt8) == ⟨b⟩) = (a == b)
    simp
  · cases h; simp [Instr.sameNow]
  · cases h
def keyOk (d : TypeDesc) (k : Value) : Bool :=
  match d, k with
  | .int _, .int _ _ => true
  | .string, .string _ => true
  | .bool, .bool _ => true
  | _, _ => false
omit [Base] in
theorem keyOk_plain {d : TypeDesc} {k : Value} (h : keyOk d k = true) : plainB k = true := by
  unfold keyOk at h; split at h <;> first | rfl | cases h
omit [Base] in
theorem keyOk_run {d : TypeDesc} {k : Value} {kt : TypeId} (hd : P.underlying kt = some d) (h : keyOk d k = true) (e : Bool) (m : Nat) : (Instr.checkKey e (m + 1) kt k).run P W = .ok () W := by
  unfold Instr.checkKey
  simp only [Sem.run_bind, run_underlying hd, Result.andThen]
  unfold keyOk at h
  split at h <;> first | rfl | cases h
def vfindK (d : TypeDesc) (k : Value) : List (Value × Value × Nat) → Nat → Option (Option (Nat × Value × Nat))
  | [], _ => some none
  | (k', v, b) :: l, i => match keyEq d k k' with
    | some e => bif e then some (some (i, v, b)) else vfindK d k l (i + 1)
    | none => none
omit [Base] in
theorem findKey_run {kt : TypeId} {d : TypeDesc} {k : Value} {l : List MapEntry} {a : Option (Nat × Value)} (hd : P.underlying kt = some d) (h : Instr.findNow d k l 0 = some a) : (Instr.findKey kt k l).run P W = .ok a W := by
  simp [Instr.findKey, run_underlying hd, h]
omit [Base] in
theorem findK_run {d : TypeDesc} {k : Value} : ∀ {es : List (Value × Value × Nat)} {es' : List MapEntry} {i : Nat}, RE μ es es' →
    (vfindK d k es i = some none → Instr.findNow d k es' i = some none) ∧
    (∀ j v b, vfindK d k es i = some (some (j, v, b)) → i ≤ j ∧ ∃ e, es'[j - i]? = some e ∧ Instr.findNow d k es' i = some (some (j, e.val)) ∧ R μ v e.val ∧ e.born = b ∧ keyEq d k e.key = some true ∧ ∃ k0, es[j - i]? = some (k0, v, b))
  | [], [], i, _ => ⟨fun _ => rfl, fun j v b h => by simp [vfindK] at h⟩
  | (k0, v0, b0) :: l, e :: l', i, h => by
    obtain ⟨⟨rfl, hv, rfl⟩, hr⟩ := h
    simp only [vfindK, Instr.findNow]
    cases he : keyEq d k e.key with
    | none => exact ⟨fun h => by simp at h, fun j v b h => by simp at h⟩
    | some b =>
      rw [keyEq_eq he]
      cases b with
      | true =>
        refine ⟨fun h => by simp at h, fun j v b h => ?_⟩
        simp only [cond_true, Option.some.injEq, Prod.mk.injEq] at h
        obtain ⟨rfl, rfl, rfl⟩ := h
        exact ⟨Nat.le_refl _, e, by simp, rfl, hv, rfl, he, e.key, by simp⟩
      | false =>
        obtain ⟨q1, q2⟩ := findK_run (d := d) (k := k) (i := i + 1) hr
        refine ⟨fun h => q1 (by simpa using h), fun j v b h => ?_⟩
        obtain ⟨h1, e', h2, h3, h4, h5, h6, k1, h7⟩ := q2 j v b (by simpa using h)
        have e : j - i = (j - (i + 1)) + 1 := by omega
        exact ⟨by omega, e', by rw [e, List.getElem?_cons_succ]; exact h2, h3, h4, h5, h6, k1, by rw [e, List.getElem?_cons_succ]; exact h7⟩
  | [], _ :: _, _, h => h.elim
  | (_, _, _) :: _, [], _, h => h.elim

def entriesOf (vs : VS) : Value → Option (List (Value × Value × Nat))
  | .map none => some []
  | .map (some r) => match findO vs.objs r with
    | some ⟨.map es _, _⟩ => some es
    | _ => none
  | _ => none
theorem entries_run (h : G N0 W0 vs W μ) {m m' : Value} {es : List (Value × Value × Nat)} (he : entriesOf vs m = some es) (hm : R μ m m') :
    ∃ es' : Array MapEntry, RE μ es es'.toList ∧ ((m' = .map none ∧ es' = #[]) ∨ ∃ r c, m' = .map (some r) ∧ W.heap[r]? = some (.map es' c)) := by
  unfold entriesOf at he
  split at he
  · cases he; cases hm; exact ⟨#[], trivial, .inl ⟨rfl, rfl⟩⟩
  · rename_i r
    split at he
    case h_2 => cases he
    rename_i es c rw hf
    cases he
    cases hm with
    | map r l hl =>
      obtain ⟨o, h1, h2, _⟩ := h.obj hf hl
      obtain ⟨es', rfl, h3⟩ := h2.inv_map
      exact ⟨es', h3, .inr ⟨_, c, rfl, h1⟩⟩
  · cases he

def vlookup (T : TE) (vs : VS) (t : TypeId) (m k : Value) (ok : Bool) : Option Value :=
  match T.und t with
  | some (.map kt et) => match T.und kt, entriesOf vs m with
    | some d, some es => bif keyOk d k then
        match vfindK d k es 0 with
        | some (some (_, v, _)) => some (bif ok then .tuple #[v, .bool true] else v)
        | some none => match T.inf et with
          | some i => match i.zero with
            | some z => bif plainB z then some (bif ok then .tuple #[z, .bool false] else z) else none
            | none => none
          | none => none
        | none => none
      else none
    | _, _ => none
  | _ => none
theorem sound_lookup {t : TypeId} {x i : Operand} {ok : Bool} {v : Value} (ho : o.op = .lookup t x i ok) (h : vlookup T vs t (ρ x) (ρ i) ok = some v) : Sound P vs ρ o (.value v) := by
  intro N0 W0 W μ ρ' hG hρ
  have h1 := hρ x (by simp [ho, Op.operands])
  have h2 := hρ i (by simp [ho, Op.operands])
  unfold vlookup at h
  split at h
  case h_2 => cases h
  rename_i kt et hu
  split at h
  case h_2 => cases h
  rename_i d es hk he
  simp only [Bool.cond_eq_ite] at h
  split at h
  case isFalse => cases h
  rename_i hkey
  have ek : ρ' i = ρ i := h2.plain (keyOk_plain hkey)
  obtain ⟨es', hre, hm⟩ := entries_run hG he h1
  obtain ⟨q1, q2⟩ := findK_run (d := d) (k := ρ i) (i := 0) hre
  have hchk : ∀ b, (Instr.checkKey b 10000 kt (ρ i)).run P W = .ok () W := fun b => keyOk_run (P := P) (TOk.und (P := P) hk) hkey b 9999
  split at h
  · rename_i j v0 b hf
    cases h
    obtain ⟨_, e, _, hnow, hv, _⟩ := q2 j v0 b hf
    refine ⟨.value (bif ok then .tuple #[e.val, .bool true] else e.val), ?_, ?_⟩
    · rcases hm with ⟨e1, rfl⟩ | ⟨r, c, e1, e2⟩
      · simp [execOp, ho, Instr.lookup, ek, e1, Sem.run_bind, run_underlying (TOk.und (P := P) hu), hchk, findKey_run (TOk.und (P := P) hk) (by simpa using hnow)]
      · have hgo : (getObj r).run P W = .ok (.map es' c) W := by simp [getObj, Sem.run, e2]
        simp [execOp, ho, Instr.lookup, ek, e1, Sem.run_bind, run_underlying (TOk.und (P := P) hu), hgo, hchk, findKey_run (TOk.und (P := P) hk) hnow]
    · cases ok with
      | true =>
        have hr := RA.two hv (R.bool (μ := μ) true)
        exact .tuple _ _ hr.1 hr.2
      | false => exact hv
  · rename_i hf
    split at h
    case h_2 => cases h
    rename_i inf hi
    split at h
    case h_2 => cases h
    rename_i z hz
    split at h
    case isFalse => cases h
    rename_i hp
    cases h
    refine ⟨.value (bif ok then .tuple #[z, .bool false] else z), ?_, ?_⟩
    · have hnow := q1 hf
      have hzero := run_zero' (W := W) (TOk.inf (P := P) hi) hz
      rcases hm with ⟨e1, rfl⟩ | ⟨r, c, e1, e2⟩
      · simp [execOp, ho, Instr.lookup, ek, e1, Sem.run_bind, run_underlying (TOk.und (P := P) hu), hchk, findKey_run (TOk.und (P := P) hk) (by simpa using hnow), hzero]
      · have hgo : (getObj r).run P W = .ok (.map es' c) W := by simp [getObj, Sem.run, e2]
        simp [execOp, ho, Instr.lookup, ek, e1, Sem.run_bind, run_underlying (TOk.und (P := P) hu), hgo, hchk, findKey_run (TOk.und (P := P) hk) hnow, hzero]
    · cases ok with
      | true =>
        have hr := RA.two (plain_self μ z hp) (R.bool (μ := μ) false)
        exact .tuple _ _ hr.1 hr.2
      | false => exact plain_self μ z hp
  · cases h


/- A map is made, written, an entry taken out; how many there are. -/
def vmakeMap (T : TE) (vs : VS) (t : TypeId) (hint : Option Value) : Option (VN × VS) :=
  match hint with
  | none => some (.value (.map (some vs.next)), vnew vs (.map [] 0))
  | some (.int _ _) => match T.und t with
    | some (.map _ _) => some (.value (.map (some vs.next)), vnew vs (.map [] 0))
    | _ => none
  | _ => none
omit [Base] in
theorem R_newMap {μ : Mu} (vs : VS) (b ex esz len : Nat) : R (μ.put vs.next ⟨b, 0, ex, esz, len⟩) (.map (some vs.next)) (.map (some b)) := R.map _ _ (Mu.put_self _ _ _)
theorem sound_makeMap {t : TypeId} {r : Option Operand} (ho : o.op = .makeMap t r) (h : vmakeMap T vs t (r.map ρ) = some (n, vs1)) : SoundM P vs ρ o n vs1 := by
  intro N0 W0 W μ ρ' hG hρ
  have hg := hG.newObj (v := .map [] 0) (o := .map #[] 0) ⟨rfl, trivial⟩
  have hr := operand_rel (μ := μ) (ρ := ρ) (ρ' := ρ') (x := r) fun y hy => hρ y (by simp [ho, Op.operands, hy])
  unfold vmakeMap at h
  split at h
  · rename_i e
    cases h
    have e' := hr.2 e
    exact ⟨_, _, .value (.map (some W.heap.size)), hG.le_put _, hg, by simp [execOp, ho, Instr.makeMap, e'], R_newMap vs _ _ _ _⟩
  · rename_i k m e
    split at h
    case h_2 => cases h
    rename_i kt et hu
    cases h
    obtain ⟨v', e', hv⟩ := hr.1 _ e
    have := hv.inv_int
    subst this
    exact ⟨_, _, .value (.map (some W.heap.size)), hG.le_put _, hg, by simp [execOp, ho, Instr.makeMap, e', run_underlying (TOk.und (P := P) hu), asInt, asIntOf], R_newMap vs _ _ _ _⟩
  · cases h

def setAt (j : Nat) (v : Value) : List (Value × Value × Nat) → List (Value × Value × Nat)
  | [] => []
  | (k, x, b) :: l => match j with
    | 0 => (k, v, b) :: l
    | j + 1 => (k, x, b) :: setAt j v l
omit [Base] in
theorem RE_set {v v' : Value} (hv : R μ v v') : ∀ {l : List (Value × Value × Nat)} {l' : List MapEntry} {j : Nat} {k' : Value}, RE μ l l' → (∀ e, l'[j]? = some e → k' = e.key) → RE μ (setAt j v l) (l'.modify j fun e => { e with key := k', val := v' })
  | [], [], j, k', h, _ => by cases j <;> simp [setAt, RE]
  | (k, x, b) :: l, e :: l', 0, k', h, hk => by
    have := hk e (by simp)
    subst this
    simp only [setAt, List.modify_zero_cons]
    exact ⟨⟨h.1.1, hv, h.1.2.2⟩, h.2⟩
  | (k, x, b) :: l, e :: l', j + 1, k', h, hk => by
    simp only [setAt, List.modify_succ_cons]
    exact ⟨h.1, RE_set hv h.2 fun e he => hk e (by simpa using he)⟩
  | [], _ :: _, _, _, h, _ => h.elim
  | (_, _, _) :: _, [], _, _, h, _ => h.elim
omit [Base] in
theorem RE_push {v v' : Value} (hv : R μ v v') {k : Value} {b : Nat} : ∀ {l : List (Value × Value × Nat)} {l' : List MapEntry}, RE μ l l' → RE μ (l ++ [(k, v, b)]) (l' ++ [{ key := k, val := v', born := b }])
  | [], [], _ => ⟨⟨rfl, hv, rfl⟩, trivial⟩
  | (_, _, _) :: _, _ :: _, h => ⟨h.1, RE_push hv h.2⟩
  | [], _ :: _, h => h.elim
  | (_, _, _) :: _, [], h => h.elim
def delAt (j : Nat) : List (Value × Value × Nat) → List (Value × Value × Nat)
  | [] => []
  | x :: l => match j with
    | 0 => l
    | j + 1 => x :: delAt j l
omit [Base] in
theorem RE_del : ∀ {l : List (Value × Value × Nat)} {l' : List MapEntry} {j : Nat}, RE μ l l' → RE μ (delAt j l) (l'.eraseIdx j)
  | [], [], j, h => by simp [delAt, RE]
  | (_, _, _) :: _, _ :: _, 0, h => by simpa [delAt] using h.2
  | (_, _, _) :: _, _ :: _, j + 1, h => by simpa [delAt] using ⟨h.1, RE_del h.2⟩
  | [], _ :: _, _, h => h.elim
  | (_, _, _) :: _, [], _, h => h.elim
omit [Base] in
theorem RE_len : ∀ {l : List (Value × Value × Nat)} {l' : List MapEntry}, RE μ l l' → l'.length = l.length
  | [], [], _ => rfl
  | (_, _, _) :: _, _ :: _, h => by simp [RE_len h.2]
  | [], _ :: _, h => h.elim
  | (_, _, _) :: _, [], h => h.elim
omit [Base] in
theorem keyEq_same {d : TypeDesc} {k k' : Value} (h : keyEq d k k' = some true) : k' = k := by
  unfold keyEq at h
  split at h
  · rename_i a x b y
    simp only [Bool.cond_eq_ite] at h
    split at h
    · rename_i hk
      have hk := eq_of_beq hk
      simp only [Option.some.injEq, ieq_eq, beq_iff_eq] at h
      rw [hk, h]
    · cases h
  · rename_i a b
    simp only [Option.some.injEq, beqL_eq, beq_iff_eq] at h
    obtain ⟨⟨a⟩⟩ := a
    obtain ⟨⟨b⟩⟩ := b
    simp only at h
    rw [h]
  · simp only [Option.some.injEq, beq_iff_eq] at h; rw [h]
  · cases h
omit [Base] in
theorem sameBits_self {d : TypeDesc} {k : Value} (h : keyOk d k = true) (n : Nat) : Instr.sameBits n k k = true := by
  unfold keyOk at h
  split at h
  · simp [Instr.sameBits]
  · rename_i s
    obtain ⟨a⟩ := s
    simp only [Instr.sameBits]
    show (a == a) = true
    simp
  · simp [Instr.sameBits]
  · cases h
omit [Base] in
theorem keyStays_run {d : TypeDesc} {k : Value} (h : keyOk d k = true) : (Instr.keyThatStays k k).run P W = .ok k W := by
  simp [Instr.keyThatStays, sameBits_self h]

def vupdate (T : TE) (vs : VS) (t : TypeId) (m k v : Value) : Option VS :=
  match T.und t, m with
  | some (.map kt _), .map (some r) => match T.und kt, findO vs.objs r with
    | some d, some ⟨.map es c, rw⟩ => bif rw && keyOk d k then
        match vfindK d k es 0 with
        | some (some (j, _, _)) => some (vset vs r (.map (setAt j v es) c))
        | some none => some (vset vs r (.map (es ++ [(k, v, c)]) (c + 1)))
        | none => none
      else none
    | _, _ => none
  | _, _ => none
theorem update_run (hG : G N0 W0 vs W μ) {t : TypeId} {m k v m' k' v' : Value} (h : vupdate T vs t m k v = some vs1) (hm : R μ m m') (hk : R μ k k') (hv : R μ v v') : ∃ W1, (Instr.mapUpdate t m' k' v').run P W = .ok () W1 ∧ G N0 W0 vs1 W1 μ := by
  unfold vupdate at h
  split at h
  case h_2 => cases h
  rename_i kt et r hu
  split at h
  case h_2 => cases h
  rename_i d es c rw hd hf
  simp only [Bool.cond_eq_ite] at h
  split at h
  case isFalse => cases h
  rename_i hb
  simp only [Bool.and_eq_true] at hb
  obtain ⟨hrw, hkey⟩ := hb
  have ek : k' = k := hk.plain (keyOk_plain hkey)
  subst ek
  cases hm with
  | map r l hl =>
  obtain ⟨o, h1, h2, _⟩ := hG.obj hf hl
  obtain ⟨es', rfl, hre⟩ := h2.inv_map
  have hgo : (getObj l.blk).run P W = .ok (.map es' c) W := by simp [getObj, Sem.run, h1]
  have hso : ∀ o : Obj, (setObj l.blk o).run P W = .ok () { W with heap := W.heap.setIfInBounds l.blk o } := fun o => by simp [setObj, Sem.run, h1]
  have hchk := keyOk_run (P := P) (W := W) (TOk.und (P := P) hd) hkey false 9999
  obtain ⟨q1, q2⟩ := findK_run (d := d) (k := k') (i := 0) hre
  split at h
  · rename_i j v0 b hfk
    cases h
    obtain ⟨_, e, he, hnow, _, _, hsame, _⟩ := q2 j v0 b hfk
    have hkk := keyEq_same hsame
    have he' : es'[j]? = some e := by simpa using he
    refine ⟨_, ?_, hG.setObj hf hrw hl (v := .map (setAt j v es) c) (o := .map (es'.modify j fun e => { e with key := k', val := v' }) c) ⟨rfl, ?_⟩⟩
    · simp [Instr.mapUpdate, run_underlying (TOk.und (P := P) hu), hgo, hchk, findKey_run (TOk.und (P := P) hd) hnow, he', hkk, keyStays_run hkey, hso]
    · have := RE_set (j := j) (k' := k') hv hre fun e0 he0 => by
        have he2 : es'.toList[j]? = some e := by simpa using he
        rw [he2] at he0; cases he0; exact hkk.symm
      simpa using this
  · rename_i hfk
    cases h
    refine ⟨_, ?_, hG.setObj hf hrw hl (v := .map (es ++ [(k', v, c)]) (c + 1)) (o := .map (es'.push { key := k', val := v', born := c }) (c + 1)) ⟨rfl, ?_⟩⟩
    · simp [Instr.mapUpdate, run_underlying (TOk.und (P := P) hu), hgo, hchk, findKey_run (TOk.und (P := P) hd) (q1 hfk), hso]
    · have := RE_push (k := k') (b := c) hv hre
      simpa using this
  · cases h
theorem sound_update {t : TypeId} {m k x : Operand} (ho : o.op = .mapUpdate t m k x ∨ o.op = .insert t m k x) (h : vupdate T vs t (ρ m) (ρ k) (ρ x) = some vs1) : SoundM P vs ρ o .skip vs1 := by
  intro N0 W0 W μ ρ' hG hρ
  rcases ho with ho | ho
  · obtain ⟨W1, h1, h2⟩ := update_run (P := P) hG h (hρ m (by simp [ho, Op.operands])) (hρ k (by simp [ho, Op.operands])) (hρ x (by simp [ho, Op.operands]))
    exact ⟨μ, W1, .skip, Mu.le_refl _, h2, by simp [execOp, ho, h1], trivial⟩
  · obtain ⟨W1, h1, h2⟩ := update_run (P := P) hG h (hρ m (by simp [ho, Op.operands])) (hρ k (by simp [ho, Op.operands])) (hρ x (by simp [ho, Op.operands]))
    exact ⟨μ, W1, .skip, Mu.le_refl _, h2, by simp [execOp, ho, h1], trivial⟩

def vdelete (T : TE) (vs : VS) (t : TypeId) (m k : Value) : Option VS :=
  match T.und t, m with
  | some (.map kt _), .map (some r) => match T.und kt, findO vs.objs r with
    | some d, some ⟨.map es c, rw⟩ => bif rw && keyOk d k then
        match vfindK d k es 0 with
        | some (some (j, _, _)) => some (vset vs r (.map (delAt j es) c))
        | some none => some (vset vs r (.map es c))
        | none => none
      else none
    | _, _ => none
  | _, _ => none
theorem sound_delete {c : Call} {x y : Operand} {t u : TypeId} (ho : o.op = .call c) (hc : c.callee = .builtin .delete) (ha : c.args = #[x, y]) (ht : c.argTypes = #[t, u]) (h : vdelete T vs t (ρ x) (ρ y) = some vs1) :
    SoundM P vs ρ o (.value (.tuple #[])) vs1 := by
  intro N0 W0 W μ ρ' hG hρ
  have h1 := hρ x (by simp [ho, Op.operands, Call.operands, hc, ha])
  have h2 := hρ y (by simp [ho, Op.operands, Call.operands, hc, ha])
  have hexec : ∀ W1, (Builtin.delete_ #[t, u] o.type #[ρ' x, ρ' y]).run P W = .ok (.tuple #[]) W1 → (execOp ρ' o).run P W = .ok (.value (.tuple #[])) W1 := fun W1 hr => by
    simp [execOp, ho, resolve, hc, ha, ht, invoke, builtin, hr]
  generalize ρ x = m at *
  generalize ρ y = k at *
  generalize ρ' x = m' at *
  generalize ρ' y = k' at *
  unfold vdelete at h
  split at h
  case h_2 => cases h
  rename_i kt et r hu
  split at h
  case h_2 => cases h
  rename_i d es c0 rw hd hf
  simp only [Bool.cond_eq_ite] at h
  split at h
  case isFalse => cases h
  rename_i hb
  simp only [Bool.and_eq_true] at hb
  obtain ⟨hrw, hkey⟩ := hb
  have ek : k' = k := h2.plain (keyOk_plain hkey)
  subst ek
  cases h1 with
  | map r l hl =>
  obtain ⟨ob, q0, q1, _⟩ := hG.obj hf hl
  obtain ⟨es', rfl, hre⟩ := q1.inv_map
  have hgo : (getObj l.blk).run P W = .ok (.map es' c0) W := by simp [getObj, Sem.run, q0]
  have hso : ∀ o : Obj, (setObj l.blk o).run P W = .ok () { W with heap := W.heap.setIfInBounds l.blk o } := fun o => by simp [setObj, Sem.run, q0]
  have hchk := fun b => keyOk_run (P := P) (W := W) (TOk.und (P := P) hd) hkey b 9999
  obtain ⟨f1, f2⟩ := findK_run (d := d) (k := k') (i := 0) hre
  have r0 : R μ (.tuple #[]) (.tuple #[]) := plain_self μ _ rfl
  split at h
  · rename_i j v0 b hfk
    cases h
    obtain ⟨_, e, he, hnow, _⟩ := f2 j v0 b hfk
    refine ⟨μ, _, .value (.tuple #[]), Mu.le_refl _, hG.setObj hf hrw hl (v := .map (delAt j es) c0) (o := .map (es'.eraseIdxIfInBounds j) c0) ⟨rfl, ?_⟩, hexec _ ?_, r0⟩
    · have := RE_del (j := j) hre
      have e : (es'.eraseIdxIfInBounds j).toList = es'.toList.eraseIdx j := by simp
      rw [e]; exact this
    · simp [Builtin.delete_, run_underlying (TOk.und (P := P) hu), hgo, hchk, findKey_run (TOk.und (P := P) hd) hnow, hso]
  · rename_i hfk
    cases h
    refine ⟨μ, _, .value (.tuple #[]), Mu.le_refl _, hG.setObj hf hrw hl (v := .map es c0) (o := .map es' c0) ⟨rfl, hre⟩, hexec _ ?_, r0⟩
    simp [Builtin.delete_, run_underlying (TOk.und (P := P) hu), hgo, hchk, findKey_run (TOk.und (P := P) hd) (f1 hfk), hso]
  · cases h

def vlenMap (T : TE) (vs : VS) (t : TypeId) (m : Value) : Option Value :=
  match T.und t, entriesOf vs m with
  | some (.map _ _), some es => some (goInt es.length)
  | _, _ => none
theorem sound_lenMap {c : Call} {x : Operand} {t : TypeId} {v : Value} (ho : o.op = .call c) (hc : c.callee = .builtin .len) (ha : c.args = #[x]) (ht : c.argTypes = #[t]) (hv : vlenMap T vs t (ρ x) = some v) : Sound P vs ρ o (.value v) := by
  intro N0 W0 W μ ρ' hG hρ
  have h1 := hρ x (by simp [ho, Op.operands, Call.operands, hc, ha])
  unfold vlenMap at hv
  split at hv
  case h_2 => cases hv
  rename_i kt et es hu he
  cases hv
  obtain ⟨es', hre, hm⟩ := entries_run hG he h1
  have hl : es.length = es'.size := by have := RE_len hre; simpa using this.symm
  refine ⟨.value (goInt es.length), ?_, .int _ _⟩
  rcases hm with ⟨e, rfl⟩ | ⟨r, c', e, e2⟩
  · simp [execOp, ho, resolve, hc, ha, ht, invoke, builtin, Builtin.len_, run_underlying (TOk.und (P := P) hu), e, hl]
  · have hgo : (getObj r).run P W = .ok (.map es' c') W := by simp [getObj, Sem.run, e2]
    simp [execOp, ho, resolve, hc, ha, ht, invoke, builtin, Builtin.len_, run_underlying (TOk.und (P := P) hu), e, hl, hgo]

/- A text, rune by rune. -/
def vrange (T : TE) (vs : VS) (t : TypeId) (x : Value) : Option (VN × VS) :=
  match T.und t, x with
  | some .string, .string s => some (.value (newPtr vs), vnew vs (.iter s 0))
  | _, _ => none
theorem sound_range {t : TypeId} {x : Operand} (ho : o.op = .range t x) (h : vrange T vs t (ρ x) = some (n, vs1)) : SoundM P vs ρ o n vs1 := by
  intro N0 W0 W μ ρ' hG hρ
  have h1 := hρ x (by simp [ho, Op.operands])
  unfold vrange at h
  split at h
  case h_2 => cases h
  rename_i s hu hx
  cases h
  rw [hx] at h1
  have e : ρ' x = .string s := by cases hv : ρ' x <;> rw [hv] at h1 <;> cases h1; rfl
  exact ⟨_, _, .value (.pointer (some ⟨W.heap.size, 0, none⟩)), hG.le_put _, hG.newObj (v := .iter s 0) (o := .stringIter s 0) ⟨rfl, rfl⟩, by simp [execOp, ho, Instr.range, run_underlying (TOk.und (P := P) hu), e], R_new vs _ _ _ _⟩

/- One step of it: the bytes from a place on. -/
def vnext (vs : VS) (it : Value) : Option (VN × VS) :=
  match it with
  | .pointer (some ⟨r, 0, none⟩) => match findO vs.objs r with
    | some ⟨.iter s p, rw⟩ => bif rw then
        bif Nat.ble s.size p then some (.value (.tuple #[.bool false]), vs)
        else match Utf8.decode s p with
          | (c, w) => some (.value (.tuple #[.bool true, goInt p, .int .i32 c]), vset vs r (.iter s (p + w)))
      else none
    | _ => none
  | _ => none
theorem sound_next {x : Operand} (ho : o.op = .next x true) (h : vnext vs (ρ x) = some (n, vs1)) : SoundM P vs ρ o n vs1 := by
  intro N0 W0 W μ ρ' hG hρ
  have h1 := hρ x (by simp [ho, Op.operands])
  unfold vnext at h
  split at h
  case h_2 => cases h
  rename_i r hx
  rw [hx] at h1
  obtain ⟨l, hl, e⟩ := h1.inv_ptr
  split at h
  case h_2 => cases h
  rename_i s p rw hf
  simp only [Bool.cond_eq_ite] at h
  split at h
  case isFalse => cases h
  rename_i hrw
  obtain ⟨ob, q0, q1, _, hoff⟩ := hG.obj hf hl
  have := q1.inv_iter
  subst this
  have hgo : (getObj l.blk).run P W = .ok (.stringIter s p) W := by simp [getObj, Sem.run, q0]
  have hso : ∀ o : Obj, (setObj l.blk o).run P W = .ok () { W with heap := W.heap.setIfInBounds l.blk o } := fun o => by simp [setObj, Sem.run, q0]
  have ex : ρ' x = .pointer (some ⟨l.blk, 0, none⟩) := by rw [e]; simp [amap, hoff]
  split at h
  · rename_i hle
    cases h
    have hle := Nat.le_of_ble_eq_true hle
    have hlt : ¬ p < s.size := by omega
    have hr := RA.one (R.bool (μ := μ) false)
    exact ⟨μ, W, .value (.tuple #[.bool false]), Mu.le_refl _, hG, by simp [execOp, ho, ex, Instr.next, hgo, hlt], .tuple _ _ hr.1 hr.2⟩
  · rename_i hle
    have hlt : p < s.size := by
      rcases Nat.lt_or_ge p s.size with h | h
      · exact h
      · exact absurd (by rw [Nat.ble_eq]; exact h) hle
    cases h
    refine ⟨μ, _, .value (.tuple #[.bool true, goInt p, .int .i32 (Utf8.decode s p).1]), Mu.le_refl _, hG.setObj hf hrw hl (v := .iter s (p + (Utf8.decode s p).2)) (o := .stringIter s (p + (Utf8.decode s p).2)) ⟨rfl, rfl⟩, ?_, ?_⟩
    · simp [execOp, ho, ex, Instr.next, hgo, hlt, hso]
    · exact plain_self μ _ rfl

end Go.Ev
