/-
  The evaluator's operations that make or write memory.
-/
import Derived.Test.YtmoglfooadcemaaEvG
namespace Go.Ev
open Go.RowKit

variable {P : Program} {T : TE} [TOk P T] {vs vs1 : VS} {ρ : Operand → Value} {o : Oper} {n : VN}

def SoundM (P : Program) (vs : VS) (ρ : Operand → Value) (o : Oper) (n : VN) (vs1 : VS) : Prop :=
  ∀ (N0 : Nat → Prop) (W0 W : World) (μ : Mu) (ρ' : Operand → Value), G N0 W0 vs W μ → (∀ x ∈ o.op.operands, R μ (ρ x) (ρ' x)) →
    ∃ μ1 W1 n', μ.le μ1 ∧ G N0 W0 vs1 W1 μ1 ∧ (execOp ρ' o).run P W = .ok n' W1 ∧ RN μ1 n n'

theorem Sound.toM (h : Sound P vs ρ o n) : SoundM P vs ρ o n vs := fun N0 W0 W μ ρ' hG hρ =>
  let ⟨n', h1, h2⟩ := h N0 W0 W μ ρ' hG hρ
  ⟨μ, W, n', Mu.le_refl _, hG, h1, h2⟩

theorem G.alloc0 {N0 : Nat → Prop} {W0 W : World} {μ : Mu} (h : G N0 W0 vs W μ) {xs : List Value} {ys : Array Value} {elem : TypeId} {esz : Nat} (fam : Nat) {whole : Bool} (hxy : RA μ xs.toArray ys) :
    G N0 W0 (vs.add ⟨xs, elem, esz, fam, true, false, whole, false⟩) (W.alloc (.cells ys elem)) (μ.put vs.next ⟨W.heap.size, 0, 0, esz, xs.length⟩) := by
  have := h.alloc (rest := #[]) (extra := 0) (elem := elem) (esz := esz) (fam := fam) (rw := true) (grow := false) (whole := whole) (tail := false) hxy (by simp) (fun _ => rfl) (fun _ => rfl)
  simpa using this

theorem G.le_put {N0 : Nat → Prop} {W0 W : World} {μ : Mu} (h : G N0 W0 vs W μ) (l : Loc) : μ.le (μ.put vs.next l) := Mu.put_le (h.fresh _ (Nat.le_refl _)) l

def newPtr (vs : VS) : Value := .pointer (some ⟨vs.next, 0, none⟩)
theorem R_new {μ : Mu} (vs : VS) (b ex esz len : Nat) : R (μ.put vs.next ⟨b, 0, ex, esz, len⟩) (newPtr vs) (.pointer (some ⟨b, 0, none⟩)) := by
  have := R.ptr (μ := μ.put vs.next ⟨b, 0, ex, esz, len⟩) ⟨vs.next, 0, none⟩ _ (Mu.put_self _ _ _)
  simpa [amap, newPtr] using this

def eszOf (T : TE) (t : TypeId) : Nat :=
  match T.und t with
  | some (.array _ e) => match T.inf e with
    | some i => i.size
    | none => 1
  | _ => 1

def valloc (T : TE) (vs : VS) (elem : TypeId) : Option (VN × VS) :=
  match T.inf elem with
  | some i => match i.zero with
    | some z => bif plainB z then some (.value (newPtr vs), vs.add ⟨z.cells.toList, elem, eszOf T elem, vs.next, true, false, true, false⟩) else none
    | none => none
  | none => none
theorem sound_alloc {elem : TypeId} (ho : o.op = .alloc elem) (h : valloc T vs elem = some (n, vs1)) : SoundM P vs ρ o n vs1 := by
  intro N0 W0 W μ ρ' hG hρ
  unfold valloc at h
  split at h
  case h_2 => cases h
  rename_i i hi
  split at h
  case h_2 => cases h
  rename_i z hz
  simp only [Bool.cond_eq_ite] at h
  split at h
  case isFalse => cases h
  rename_i hp
  cases h
  have hr : RA μ z.cells.toList.toArray z.cells := by simpa using (plain_self μ z hp).cells
  refine ⟨_, _, .value (.pointer (some ⟨W.heap.size, 0, none⟩)), hG.le_put _, hG.alloc0 vs.next hr, ?_, R_new _ _ _ _ _⟩
  simp [execOp, ho, Instr.alloc, run_zero' (TOk.inf (P := P) hi) hz, newVar, newRow]

omit [TOk P T] in
theorem sound_box {elem : TypeId} {x : Operand} (ho : o.op = .box elem x) : SoundM P vs ρ o (.value (newPtr vs)) (vs.add ⟨(ρ x).cells.toList, elem, eszOf T elem, vs.next, true, false, true, false⟩) := by
  intro N0 W0 W μ ρ' hG hρ
  have h1 := hρ x (by simp [ho, Op.operands])
  have hr : RA μ (ρ x).cells.toList.toArray (ρ' x).cells := by simpa using h1.cells
  refine ⟨_, _, .value (.pointer (some ⟨W.heap.size, 0, none⟩)), hG.le_put _, hG.alloc0 vs.next hr, ?_, R_new _ _ _ _ _⟩
  simp [execOp, ho, Instr.box, newVar, newRow]

def vstore (T : TE) (vs : VS) (t : TypeId) (a : Addr) (v : Value) : Option VS :=
  match T.inf t with
  | some i => bif Nat.beq v.cells.size i.size then vwrite vs a v.cells.toList else none
  | none => none
theorem sound_store {t : TypeId} {x y : Operand} {a : Addr} (ho : o.op = .store t x y) (hx : ρ x = .pointer (some a)) (h : vstore T vs t a (ρ y) = some vs1) : SoundM P vs ρ o .skip vs1 := by
  intro N0 W0 W μ ρ' hG hρ
  have h1 := hρ x (by simp [ho, Op.operands])
  have h2 := hρ y (by simp [ho, Op.operands])
  rw [hx] at h1
  obtain ⟨l, hl, e⟩ := h1.inv_ptr
  unfold vstore at h
  split at h
  case h_2 => cases h
  rename_i i hi
  simp only [Bool.cond_eq_ite] at h
  split at h
  case isFalse => cases h
  rename_i hs
  have hs := Nat.eq_of_beq_eq_true hs
  have hc := h2.cells
  obtain ⟨W1, r1, r2⟩ := hG.write (P := P) h hl (ys := (ρ' y).cells.toList) (by simpa using hc)
  refine ⟨μ, W1, .skip, Mu.le_refl _, r2, ?_, trivial⟩
  have hs' : (ρ' y).cells.size = i.size := by rw [← hc.1]; exact hs
  simp [execOp, ho, e, Instr.storeAt, Instr.sureAddr, storeVar, run_sizeOf' (TOk.inf (P := P) hi), hs', r1]

/- make -/
def vmake (T : TE) (vs : VS) (t : TypeId) (len cap : Value) : Option (VN × VS) :=
  match T.und t, len, cap with
  | some (.slice elem), .int _ l, .int _ c => match T.inf elem with
    | some i => match i.zero with
      | some z => bif plainB z && decide (0 ≤ l) && decide (l ≤ c) && decide (c < 2 ^ 40) && Nat.ble (i.bytes * c.toNat) (2 ^ 40) && (Nat.beq z.cells.size i.size) then
          some (.value (.slice (some ⟨vs.next, 0, none⟩) l.toNat c.toNat), vs.add ⟨rep z.cells.toList c.toNat, elem, i.size, vs.next, true, false, true, false⟩)
        else none
      | none => none
    | none => none
  | _, _, _ => none

theorem plainA_of {a : Array Value} (h : ∀ (i : Nat) x, a[i]? = some x → plainB x = true) : plainA a = true := by
  obtain ⟨l⟩ := a
  have : ∀ l : List Value, (∀ (i : Nat) x, l[i]? = some x → plainB x = true) → plainL l = true := by
    intro l
    induction l with
    | nil => intro _; rfl
    | cons v l ih => intro h; simp only [plainL, Bool.and_eq_true]; exact ⟨h 0 v rfl, ih fun i x hx => h (i + 1) x (by simpa using hx)⟩
  exact this l (fun i x hx => h i x (by simpa using hx))
theorem plain_cells {z : Value} (h : plainB z = true) : plainA z.cells = true := by
  cases z <;> simp_all [Value.cells, plainB, plainA, plainL]
theorem plain_zeros {cs : Array Value} (h : plainA cs = true) (n : Nat) (hn : n = 0 ∨ cs.size ≠ 0) : plainA ((Array.range n).map (cs[· % cs.size]!)) = true := by
  refine plainA_of fun i x hx => ?_
  simp only [Array.getElem?_map, Option.map_eq_some_iff] at hx
  obtain ⟨k, hk, rfl⟩ := hx
  have hk' := (Array.getElem?_eq_some_iff.1 hk).1
  simp at hk'
  have hpos : 0 < cs.size := by omega
  have hlt : k % cs.size < cs.size := Nat.mod_lt _ hpos
  exact plainA_get (i := k % cs.size) h (by simp [hlt])

theorem R_newSlice {μ : Mu} (vs : VS) (b ex esz len n : Nat) (h : ex = 0 ∨ n * esz = len) (m : Nat) : R (μ.put vs.next ⟨b, 0, ex, esz, len⟩) (.slice (some ⟨vs.next, 0, none⟩) m n) (.slice (some ⟨b, 0, none⟩) m (n + ex)) := by
  have := R.slice (μ := μ.put vs.next ⟨b, 0, ex, esz, len⟩) ⟨vs.next, 0, none⟩ _ m n (Mu.put_self _ _ _) (by simpa using h)
  simpa [amap] using this

theorem wrap_id {x : Int} (h0 : 0 ≤ x) (h1 : x < 2 ^ 40) : IntKind.i64.wrap x = x := by
  simp only [IntKind.wrap, IntKind.signed, IntKind.bits]
  simp
  omega

theorem sound_make {t : TypeId} {l c : Operand} (ho : o.op = .makeSlice t l c) (h : vmake T vs t (ρ l) (ρ c) = some (n, vs1)) : SoundM P vs ρ o n vs1 := by
  intro N0 W0 W μ ρ' hG hρ
  have h1 := hρ l (by simp [ho, Op.operands])
  have h2 := hρ c (by simp [ho, Op.operands])
  generalize hl : ρ l = vl at *
  generalize hc : ρ c = vc at *
  unfold vmake at h
  split at h
  case h_2 => cases h
  rename_i elem k1 l1 k2 c1 hu
  have e1 := h1.inv_int
  have e2 := h2.inv_int
  split at h
  case h_2 => cases h
  rename_i i hi
  split at h
  case h_2 => cases h
  rename_i z hz
  simp only [Bool.cond_eq_ite] at h
  split at h
  case isFalse => cases h
  rename_i hb
  simp only [Bool.and_eq_true, decide_eq_true_eq, Nat.ble_eq, Nat.beq_eq] at hb
  obtain ⟨⟨⟨⟨⟨hp, b1⟩, b2⟩, b3⟩, b4⟩, b5⟩ := hb
  cases h
  have w1 : IntKind.i64.wrap l1 = l1 := wrap_id b1 (by omega)
  have w2 : IntKind.i64.wrap c1 = c1 := wrap_id (by omega) b3
  have hc0 : 0 ≤ c1 := by omega
  have hbig : ¬ ((2 : Int) ^ 48 < i.bytes * c1) := by
    have e : (i.bytes : Int) * c1 = ((i.bytes * c1.toNat : Nat) : Int) := by rw [Int.natCast_mul, Int.toNat_of_nonneg hc0]
    rw [e]
    generalize i.bytes * c1.toNat = q at b4
    omega
  have harr : (Array.range (c1.toNat * i.size)).map (z.cells[· % z.cells.size]!) = (rep z.cells.toList c1.toNat).toArray := by rw [← b5]; exact rep_zeros _ _
  have hpl : plainA (rep z.cells.toList c1.toNat).toArray = true := by
    have := plain_cells hp
    simp only [plainA]
    exact plain_rep (by rw [← plainA_toList]; exact this) _
  have hr : RA μ (rep z.cells.toList c1.toNat).toArray ((Array.range (c1.toNat * i.size)).map (z.cells[· % z.cells.size]!)) := by rw [harr]; exact RA_self μ hpl
  refine ⟨_, _, .value (.slice (some ⟨W.heap.size, 0, none⟩) l1.toNat c1.toNat), hG.le_put _, hG.alloc0 vs.next hr, ?_, R_newSlice vs _ 0 _ _ _ (.inl rfl) _⟩
  have t1 : ¬ (c1 < 0 ∨ 281474976710656 < (i.bytes : Int) * c1) := fun h => h.elim (by omega) hbig
  have t2 : ¬ ((c1 < 0 ∨ 281474976710656 < (i.bytes : Int) * c1) ∨ l1 < 0) := fun h => h.elim t1 (by omega)
  have t3 : ¬ (((c1 < 0 ∨ 281474976710656 < (i.bytes : Int) * c1) ∨ l1 < 0) ∨ c1 < l1) := fun h => h.elim t2 (by omega)
  have hr0 : Array.range 0 = #[] := rfl
  by_cases h0 : c1.toNat * i.size = 0
  · simp [execOp, ho, e1, e2, Instr.makeSlice, asInt, asIntOf, run_underlying (TOk.und (P := P) hu), run_typeInfo' (TOk.inf (P := P) hi), w1, w2, t3, run_sizeOf' (TOk.inf (P := P) hi), h0, newRow, hr0]
  · simp [execOp, ho, e1, e2, Instr.makeSlice, asInt, asIntOf, run_underlying (TOk.und (P := P) hu), run_typeInfo' (TOk.inf (P := P) hi), w1, w2, t3, run_sizeOf' (TOk.inf (P := P) hi), h0, run_zero' (TOk.inf (P := P) hi) hz, newRow]

end Go.Ev
