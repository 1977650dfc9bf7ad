/-
  The evaluator's operations that leave memory alone, one by one.
-/
import Derived.Test.YtmoglfooadcemaaEvC
namespace Go.Ev
open Go.RowKit

def Sound (P : Program) (vs : VS) (ρ : Operand → Value) (o : Oper) (n : VN) : Prop :=
  ∀ (N0 : Nat → Prop) (W0 W : World) (μ : Mu) (ρ' : Operand → Value), G N0 W0 vs W μ → (∀ x ∈ o.op.operands, R μ (ρ x) (ρ' x)) → ∃ n', (execOp ρ' o).run P W = .ok n' W ∧ RN μ n n'

variable {P : Program} {T : TE} [TOk P T] {vs : VS} {ρ : Operand → Value} {o : Oper} {n : VN}

theorem sound_plain (hs : notSelect o.op = true) (h : vplain P ρ o = some n) : Sound P vs ρ o n := fun _ _ _ _ _ _ hρ => vplain_sound hs h hρ

theorem sound_move {x : Operand} (ho : o.op = .move x ∨ o.op = .assign x) : Sound P vs ρ o (.value (ρ x)) := by
  intro N0 W0 W μ ρ' hG hρ
  rcases ho with ho | ho <;> exact ⟨.value (ρ' x), by simp [execOp, ho], hρ x (by simp [ho, Op.operands])⟩

theorem sound_pick {c a b : Operand} {t : Bool} (ho : o.op = .pick c a b) (hc : ρ c = .bool t) : Sound P vs ρ o (.value (bif t then ρ a else ρ b)) := by
  intro N0 W0 W μ ρ' hG hρ
  have h1 := hρ c (by simp [ho, Op.operands])
  rw [hc] at h1
  have h2 := hρ a (by simp [ho, Op.operands])
  have h3 := hρ b (by simp [ho, Op.operands])
  cases t
  · exact ⟨.value (ρ' b), by simp [execOp, ho, h1.inv_bool, asBool], h3⟩
  · exact ⟨.value (ρ' a), by simp [execOp, ho, h1.inv_bool, asBool], h2⟩

theorem sound_load {t : TypeId} {x : Operand} {a : Addr} {v : Value} (ho : o.op = .load t x) (hx : ρ x = .pointer (some a)) (hv : vload T vs t a = some v) : Sound P vs ρ o (.value v) := by
  intro N0 W0 W μ ρ' hG hρ
  have h1 := hρ x (by simp [ho, Op.operands])
  rw [hx] at h1
  obtain ⟨l, hl, e⟩ := h1.inv_ptr
  obtain ⟨v', h2, h3⟩ := vload_run (P := P) hG hv hl
  exact ⟨.value v', by simp [execOp, ho, e, Instr.loadAt, Instr.sureAddr, h2], h3⟩

def nilOk : Value → Bool
  | .pointer (some _) => true
  | .func (.func _) _ _ => true
  | .iface _ _ => true
  | _ => false
theorem sound_nilCheck {x : Operand} (ho : o.op = .nilCheck x) (hx : nilOk (ρ x) = true) : Sound P vs ρ o (.value (ρ x)) := by
  intro N0 W0 W μ ρ' hG hρ
  have h1 := hρ x (by simp [ho, Op.operands])
  refine ⟨.value (ρ' x), ?_, h1⟩
  generalize hv : ρ x = v at *
  generalize hv' : ρ' x = v' at *
  cases h1 <;> first
    | (simp [nilOk] at hx; done)
    | (simp [execOp, ho, hv']; done)
    | skip
  rename_i fn _ _ _ _ _ _ _ _
  cases fn <;> first
    | (simp [nilOk] at hx; done)
    | (simp [execOp, ho, hv']; done)

def vfield (T : TE) (s : TypeId) (a : Addr) (f : Nat) : Option Value :=
  match T.und s with
  | some (.struct fields) => match fields.toList[f]? with
    | some fl => match T.inf fl.type with
      | some i => bif Nat.beq i.size 0 then none else some (.pointer (some (a.add fl.offset)))
      | none => none
    | none => none
  | _ => none
theorem sound_fieldAddr {s : TypeId} {x : Operand} {f : Nat} {a : Addr} {v : Value} (ho : o.op = .fieldAddr s x f) (hx : ρ x = .pointer (some a)) (hv : vfield T s a f = some v) : Sound P vs ρ o (.value v) := by
  intro N0 W0 W μ ρ' hG hρ
  have h1 := hρ x (by simp [ho, Op.operands])
  rw [hx] at h1
  obtain ⟨l, hl, e⟩ := h1.inv_ptr
  unfold vfield at hv
  split at hv
  case h_2 => cases hv
  rename_i fields hu
  split at hv
  case h_2 => cases hv
  rename_i fl hf
  have hf : fields[f]? = some fl := by simpa using hf
  split at hv
  case h_2 => cases hv
  rename_i i hi
  simp only [Bool.cond_eq_ite] at hv
  split at hv
  · cases hv
  · rename_i hz
    cases hv
    have hz' : ¬ i.size = 0 := fun e => hz (by rw [e]; rfl)
    refine ⟨.value (.pointer (some ((amap l a).add fl.offset))), ?_, ?_⟩
    · simp [execOp, ho, e, Instr.fieldAt, Instr.sureAddr, run_underlying (TOk.und (P := P) hu), hf, fieldPlace, run_sizeOf' (TOk.inf (P := P) hi), hz']
    · rw [amap_add]
      refine R.ptr _ l ?_
      unfold Addr.add; split <;> exact hl

def vindexAt (T : TE) (t : TypeId) (x i : Value) : Option Value :=
  match i with
  | .int _ n => match T.und t, x with
    | some (.array len elem), .pointer (some a) => match T.inf elem with
      | some inf => bif decide (0 ≤ n) && decide (n < len) then some (.pointer (some (a.add (n.toNat * inf.size)))) else none
      | none => none
    | some (.slice elem), .slice (some a) len _ => match T.inf elem with
      | some inf => bif decide (0 ≤ n) && decide (n < len) then some (.pointer (some (a.add (n.toNat * inf.size)))) else none
      | none => none
    | _, _ => none
  | _ => none
theorem R_ptr_add {μ : Mu} {a : Addr} {l : Loc} (hl : μ a.block = some l) (k : Nat) : R μ (.pointer (some (a.add k))) (.pointer (some ((amap l a).add k))) := by
  rw [amap_add]
  refine R.ptr _ l ?_
  unfold Addr.add; split <;> exact hl
theorem sound_indexAddr {t : TypeId} {x i : Operand} {v : Value} (ho : o.op = .indexAddr t x i) (hv : vindexAt T t (ρ x) (ρ i) = some v) : Sound P vs ρ o (.value v) := by
  intro N0 W0 W μ ρ' hG hρ
  have h1 := hρ x (by simp [ho, Op.operands])
  have h2 := hρ i (by simp [ho, Op.operands])
  generalize ρ x = vx at *
  generalize ρ i = vi at *
  unfold vindexAt at hv
  split at hv
  case h_2 => cases hv
  rename_i k n
  have ei := h2.inv_int
  split at hv
  · rename_i len elem a hu
    obtain ⟨l, hl, e⟩ := h1.inv_ptr
    split at hv
    case h_2 => cases hv
    rename_i inf hi
    simp only [Bool.cond_eq_ite] at hv
    split at hv
    case isFalse => cases hv
    rename_i hb
    simp only [Bool.and_eq_true, decide_eq_true_eq] at hb
    cases hv
    refine ⟨.value (.pointer (some ((amap l a).add (n.toNat * inf.size)))), ?_, R_ptr_add hl _⟩
    simp [execOp, ho, e, ei, Instr.indexAt, asIntOf, Instr.sureAddr, run_underlying (TOk.und (P := P) hu), run_sizeOf' (TOk.inf (P := P) hi), hb]
  · rename_i elem a len c hu
    obtain ⟨l, hl, _, e⟩ := h1.inv_slice
    split at hv
    case h_2 => cases hv
    rename_i inf hi
    simp only [Bool.cond_eq_ite] at hv
    split at hv
    case isFalse => cases hv
    rename_i hb
    simp only [Bool.and_eq_true, decide_eq_true_eq] at hb
    cases hv
    refine ⟨.value (.pointer (some ((amap l a).add (n.toNat * inf.size)))), ?_, R_ptr_add hl _⟩
    simp [execOp, ho, e, ei, Instr.indexAt, asIntOf, run_underlying (TOk.und (P := P) hu), run_sizeOf' (TOk.inf (P := P) hi), hb]
  · cases hv

theorem sound_extract {x : Operand} {ix : Nat} {a : Array Value} {v : Value} (ho : o.op = .extract x ix) (hx : ρ x = .tuple a) (hv : a.toList[ix]? = some v) : Sound P vs ρ o (.value v) := by
  intro N0 W0 W μ ρ' hG hρ
  have h1 := hρ x (by simp [ho, Op.operands])
  rw [hx] at h1
  obtain ⟨a', e, h2⟩ := h1.inv_tuple
  obtain ⟨y, h3, h4⟩ := h2.get (by simpa using hv)
  exact ⟨.value y, by simp [execOp, ho, e, Instr.extract, h3], h4⟩

theorem sound_field {t : TypeId} {x : Operand} {f : Nat} {fields : Array Field} {fl : Field} {a : Array Value} {v : Value} (ho : o.op = .field t x f) (hu : T.und t = some (.struct fields)) (hx : ρ x = .agg a) (hf : fields.toList[f]? = some fl) (hv : vpart T fl.type a fl.offset = some v) : Sound P vs ρ o (.value v) := by
  intro N0 W0 W μ ρ' hG hρ
  have h1 := hρ x (by simp [ho, Op.operands])
  rw [hx] at h1
  obtain ⟨a', e, h2⟩ := h1.inv_agg
  obtain ⟨y, h3, h4⟩ := vpart_run (P := P) (W := W) hv h2
  have hf : fields[f]? = some fl := by simpa using hf
  exact ⟨.value y, by simp [execOp, ho, e, Instr.field, run_underlying (TOk.und (P := P) hu), hf, asAgg, h3], h4⟩

theorem sound_index {t elem : TypeId} {x i : Operand} {k : IntKind} {m : Int} {len : Nat} {inf : TypeInfo} {a : Array Value} {v : Value} (ho : o.op = .index t x i) (hu : T.und t = some (.array len elem)) (hx : ρ x = .agg a) (hi : ρ i = .int k m)
    (hinf : T.inf elem = some inf) (hb : 0 ≤ m ∧ m < len) (hv : vpart T elem a (m.toNat * inf.size) = some v) : Sound P vs ρ o (.value v) := by
  intro N0 W0 W μ ρ' hG hρ
  have h1 := hρ x (by simp [ho, Op.operands])
  have h2 := hρ i (by simp [ho, Op.operands])
  rw [hx] at h1
  rw [hi] at h2
  obtain ⟨a', e, h3⟩ := h1.inv_agg
  obtain ⟨y, h4, h5⟩ := vpart_run (P := P) (W := W) hv h3
  exact ⟨.value y, by simp [execOp, ho, e, h2.inv_int, Instr.index, asIntOf, run_underlying (TOk.und (P := P) hu), run_sizeOf' (TOk.inf (P := P) hinf), hb, h4], h5⟩

def concrete : TypeDesc → Bool
  | .interface _ => false
  | _ => true
theorem sound_makeInterface {t : TypeId} {x : Operand} {d : TypeDesc} (ho : o.op = .makeInterface t x) (hu : T.und t = some d) (hd : concrete d = true) : Sound P vs ρ o (.value (.iface t (ρ x))) := by
  intro N0 W0 W μ ρ' hG hρ
  have h1 := hρ x (by simp [ho, Op.operands])
  refine ⟨.value (.iface t (ρ' x)), ?_, .iface _ _ _ h1⟩
  cases d <;> first
    | (simp [concrete] at hd; done)
    | (simp [execOp, ho, Instr.makeInterface, run_underlying (TOk.und (P := P) hu)]; done)

theorem sound_makeFunc {fn : Fn} {first captured : Array Operand} (ho : o.op = .makeFunc fn first captured) : Sound P vs ρ o (.value (.func fn ⟨first.toList.map ρ⟩ ⟨captured.toList.map ρ⟩)) := by
  intro N0 W0 W μ ρ' hG hρ
  have h1 : RA μ (first.map ρ) (first.map ρ') := RA.map fun x hx => hρ x (by simp [ho, Op.operands, hx])
  have h2 : RA μ (captured.map ρ) (captured.map ρ') := RA.map fun x hx => hρ x (by simp [ho, Op.operands, hx])
  rw [show first.map ρ = ⟨first.toList.map ρ⟩ from Array.ext' (by simp)] at h1
  rw [show captured.map ρ = ⟨captured.toList.map ρ⟩ from Array.ext' (by simp)] at h2
  exact ⟨.value (.func fn (first.map ρ') (captured.map ρ')), by simp [execOp, ho, Instr.makeFunc], .func _ _ _ _ _ h1.1 h2.1 h1.2 h2.2⟩


/- A slice of a slice, if room is left behind its beginning. -/
def bound (x : Option Value) (d : Nat) : Option Nat :=
  match x with
  | none => some d
  | some (.int _ i) => bif decide (0 ≤ i) then some i.toNat else none
  | _ => none
def vsliceAt (T : TE) (vs : VS) (t : TypeId) (a : Addr) (len cap : Nat) (lo hi : Option Value) : Option (Nat × Nat × Nat) :=
  match T.und t, find vs.heap a.block with
  | some (.slice elem), some B => match T.inf elem with
    | some inf => match bound hi len, bound lo 0 with
      | some h, some l => bif ((!B.grow) || Nat.beq inf.size B.esz) && Nat.ble h cap && Nat.ble l h then some (l, h, inf.size) else none
      | _, _ => none
    | none => none
  | _, _ => none

theorem bound_run {x x' : Option Value} {d b : Nat} {μ : Mu} (h : bound x d = some b) (hx : ∀ v, x = some v → ∃ v', x' = some v' ∧ R μ v v') (hn : x = none → x' = none) :
    (x' = none ∧ b = d) ∨ ∃ k i, x' = some (.int k i) ∧ 0 ≤ i ∧ b = i.toNat := by
  cases x with
  | none => rw [hn rfl]; simp [bound] at h; exact .inl ⟨rfl, h.symm⟩
  | some v =>
    obtain ⟨v', e, hr⟩ := hx v rfl
    unfold bound at h
    split at h
    · rename_i e; cases e
    · rename_i k i e
      cases e
      have := hr.inv_int
      subst this
      simp only [Bool.cond_eq_ite, decide_eq_true_eq] at h
      split at h
      case isFalse => cases h
      rename_i h0
      cases h
      exact .inr ⟨k, i, e, h0, rfl⟩
    · cases h

theorem slice_run {μ : Mu} {N0 : Nat → Prop} {W0 W : World} {t : TypeId} {a : Addr} {len cap l h sz : Nat} {lo hi lo' hi' : Option Value} (hG : G N0 W0 vs W μ) (hv : vsliceAt T vs t a len cap lo hi = some (l, h, sz))
    (hlo : ∀ v, lo = some v → ∃ v', lo' = some v' ∧ R μ v v') (hlo0 : lo = none → lo' = none) (hhi : ∀ v, hi = some v → ∃ v', hi' = some v' ∧ R μ v v') (hhi0 : hi = none → hi' = none)
    {L : Loc} (hL : μ a.block = some L) :
    l ≤ h ∧ h ≤ cap ∧ (L.extra = 0 ∨ L.esz = sz) ∧ (Instr.sliceAt t (.slice (some (amap L a)) len (cap + L.extra)) lo' hi' none).run P W =
      .ok (.slice (if cap + L.extra = l then some (amap L a) else some ((amap L a).add (l * sz))) (h - l) (cap + L.extra - l)) W := by
  unfold vsliceAt at hv
  split at hv
  case h_2 => cases hv
  rename_i elem B hu hf
  split at hv
  case h_2 => cases hv
  rename_i inf hinf
  split at hv
  case h_2 => cases hv
  rename_i h' l' eh el
  simp only [Bool.cond_eq_ite] at hv
  split at hv
  case isFalse => cases hv
  rename_i hc
  simp only [Bool.and_eq_true, Bool.or_eq_true, Bool.not_eq_true', Nat.ble_eq, Nat.beq_eq] at hc
  obtain ⟨⟨h1, h2⟩, h3⟩ := hc
  cases hv
  obtain ⟨L', c, z, e1, LL⟩ := hG.blocks _ _ (find_mem hf)
  rw [hL] at e1; cases e1
  refine ⟨h3, h2, h1.imp LL.fixed fun h1 => by rw [LL.esz, h1], ?_⟩
  rcases bound_run eh hhi hhi0 with ⟨rfl, e1⟩ | ⟨k1, i1, rfl, p1, e1⟩ <;> rcases bound_run el hlo hlo0 with ⟨rfl, e2⟩ | ⟨k2, i2, rfl, p2, e2⟩
  · subst e1; subst e2
    simp [Instr.sliceAt, run_underlying (TOk.und (P := P) hu), Instr.slice, Instr.sliceBounds, run_sizeOf' (TOk.inf (P := P) hinf)]
  · have q2 : i2 ≤ (h : Int) := by omega
    subst e1; subst e2
    simp [Instr.sliceAt, run_underlying (TOk.und (P := P) hu), Instr.slice, Instr.sliceBounds, Instr.sliceBound, asIntOf, p2, q2, run_sizeOf' (TOk.inf (P := P) hinf)]
  · have q1 : i1 ≤ (cap : Int) + L.extra := by omega
    subst e1; subst e2
    simp [Instr.sliceAt, run_underlying (TOk.und (P := P) hu), Instr.slice, Instr.sliceBounds, Instr.sliceBound, asIntOf, p1, q1, run_sizeOf' (TOk.inf (P := P) hinf)]
  · have q1 : i1 ≤ (cap : Int) + L.extra := by omega
    have q2 : i2 ≤ i1 := by omega
    subst e1; subst e2
    simp [Instr.sliceAt, run_underlying (TOk.und (P := P) hu), Instr.slice, Instr.sliceBounds, Instr.sliceBound, asIntOf, p1, q1, p2, Int.toNat_of_nonneg p1, q2, run_sizeOf' (TOk.inf (P := P) hinf)]

theorem sound_slice {t : TypeId} {x : Operand} {lo hi : Option Operand} {a : Addr} {len cap l h sz : Nat} (ho : o.op = .slice t x lo hi none) (hx : ρ x = .slice (some a) len cap) (hv : vsliceAt T vs t a len cap (lo.map ρ) (hi.map ρ) = some (l, h, sz)) (hne : l ≠ cap) :
    Sound P vs ρ o (.value (.slice (some (a.add (l * sz))) (h - l) (cap - l))) := by
  intro N0 W0 W μ ρ' hG hρ
  have h1 := hρ x (by simp [ho, Op.operands])
  rw [hx] at h1
  obtain ⟨L, hL, hex, e⟩ := h1.inv_slice
  obtain ⟨c1, c2, c3, hr⟩ := slice_run (P := P) (lo' := lo.map ρ') (hi' := hi.map ρ') hG hv
    (fun v hv => by
      obtain ⟨y, rfl, rfl⟩ := Option.map_eq_some_iff.1 hv
      exact ⟨ρ' y, rfl, hρ y (by simp [ho, Op.operands])⟩)
    (fun hv => by cases lo <;> simp_all)
    (fun v hv => by
      obtain ⟨y, rfl, rfl⟩ := Option.map_eq_some_iff.1 hv
      exact ⟨ρ' y, rfl, hρ y (by simp [ho, Op.operands])⟩)
    (fun hv => by cases hi <;> simp_all) hL
  have hne' : ¬ cap + L.extra = l := by omega
  rw [if_neg hne'] at hr
  refine ⟨.value (.slice (some ((amap L a).add (l * sz))) (h - l) (cap + L.extra - l)), ?_, ?_⟩
  · simp [execOp, ho, e, hr]
  · rw [amap_add]
    have e2 : cap + L.extra - l = cap - l + L.extra := by omega
    rw [e2]
    have hblk : (a.add (l * sz)).block = a.block := by unfold Addr.add; split <;> rfl
    have hoff : (a.add (l * sz)).off = a.off + l * sz := by unfold Addr.add; split <;> simp_all
    refine R.slice _ L _ _ (by rw [hblk]; exact hL) ?_
    rcases c3 with c3 | c3
    · exact .inl c3
    rcases hex with h0 | h0
    · exact .inl h0
    · refine .inr ?_
      rw [hoff, c3]
      rw [c3] at h0
      have : l * sz + (cap - l) * sz = cap * sz := by rw [← Nat.add_mul]; congr 1; omega
      omega

end Go.Ev
