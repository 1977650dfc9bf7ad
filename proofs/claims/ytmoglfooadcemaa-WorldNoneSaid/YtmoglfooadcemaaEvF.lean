/-
  The evaluator's operations that leave memory alone: what is nil, assertions, parts put together; all of them together.
-/
import Derived.Test.YtmoglfooadcemaaEvE
import Derived.Test.YtmoglfooadcemaaEvQ
namespace Go.Ev
open Go.RowKit

variable {P : Program} {T : TE} [TOk P T] {vs : VS} {ρ : Operand → Value} {o : Oper} {n : VN}

theorem sound_nil {op : BinOp} {t u : TypeId} {x y : Operand} {v : Value} (ho : o.op = .binOp op t x y u) (hv : vnil T op t (ρ x) (ρ y) = some v) : Sound P vs ρ o (.value v) := by
  intro N0 W0 W μ ρ' hG hρ
  have h1 := hρ x (by simp [ho, Op.operands])
  have h2 := hρ y (by simp [ho, Op.operands])
  unfold vnil at hv
  split at hv
  case h_2 => cases hv
  rename_i d hu
  generalize hx : ρ x = vx at *
  generalize hy : ρ y = vy at *
  generalize hx' : ρ' x = vx' at *
  generalize hy' : ρ' y = vy' at *
  have key : ∀ b, nilEq d vx vy = some b → (op = .eql ∨ op = .neq) → (eqGuard op t x y vx' vy').run P W = .ok () W ∧ binOp .eql t vx' vy' = (do pure (.bool (← Op.equal t vx' vy'))) ∧ binOp .neq t vx' vy' = (do pure (.bool (!(← Op.equal t vx' vy')))) := by
    intro b h hop
    unfold nilEq at h
    split at h <;> cases h <;> cases h1 <;> cases h2 <;> rcases hop with rfl | rfl <;> exact ⟨by simp [eqGuard], rfl, rfl⟩
  split at hv
  · rename_i b hb
    cases hv
    obtain ⟨k1, k2, _⟩ := key b hb (.inl rfl)
    refine ⟨.value (.bool b), ?_, .bool b⟩
    simp [execOp, ho, hx', hy', k1, k2, Op.equal, Op.maxDepth, nilEq_run (P := P) hu hb h1 h2]
  · rename_i b hb
    cases hv
    obtain ⟨k1, _, k2⟩ := key b hb (.inr rfl)
    refine ⟨.value (.bool !b), ?_, .bool _⟩
    simp [execOp, ho, hx', hy', k1, k2, Op.equal, Op.maxDepth, nilEq_run (P := P) hu hb h1 h2]
  · cases hv

/- Parts put together. -/
theorem foldl_cells {μ : Mu} (off : Nat) : ∀ (l l' : List (Value × Nat)) (cs cs' : Array Value), RA μ cs cs' → l.length = l'.length → (∀ (i : Nat) x y, l[i]? = some x → l'[i]? = some y → R μ x.1 y.1 ∧ x.2 = y.2) →
    RA μ (l.foldl (fun cs (c, j) => cs.setIfInBounds (off + j) c) cs) (l'.foldl (fun cs (c, j) => cs.setIfInBounds (off + j) c) cs')
  | [], [], _, _, h, _, _ => h
  | x :: l, y :: l', cs, cs', h, hl, hr => by
    simp only [List.foldl_cons]
    obtain ⟨r1, r2⟩ := hr 0 x y rfl rfl
    refine foldl_cells off l l' _ _ ?_ (by simpa using hl) (fun i a b ha hb => hr (i + 1) a b (by simpa using ha) (by simpa using hb))
    obtain ⟨x1, x2⟩ := x
    obtain ⟨y1, y2⟩ := y
    simp only at r1 r2
    subst r2
    refine ⟨by simp [h.1], fun i a b ha hb => ?_⟩
    rw [Array.getElem?_setIfInBounds] at ha hb
    rw [← h.1] at hb
    split at ha
    · rename_i e
      rw [if_pos e] at hb
      split at ha
      · rename_i e2; rw [if_pos e2] at hb; cases ha; cases hb; exact r1
      · cases ha
    · rename_i e
      rw [if_neg e] at hb
      exact h.2 i a b ha hb
  | [], _ :: _, _, _, _, hl, _ => by simp at hl
  | _ :: _, [], _, _, _, hl, _ => by simp at hl

theorem fill_rel {μ : Mu} (place : Nat → Option (Nat × Nat)) : ∀ (l l' : List (Nat × Value)) (cs cs' r : Array Value), RA μ cs cs' → l.length = l'.length → (∀ (i : Nat) x y, l[i]? = some x → l'[i]? = some y → x.1 = y.1 ∧ R μ x.2 y.2) →
    Instr.fill place cs l = some r → ∃ r', Instr.fill place cs' l' = some r' ∧ RA μ r r'
  | [], [], cs, cs', r, h, _, _, hf => by
    simp only [Instr.fill] at hf
    cases hf
    exact ⟨cs', rfl, h⟩
  | (i, v) :: l, (i', v') :: l', cs, cs', r, h, hl, hr, hf => by
    obtain ⟨r1, r2⟩ := hr 0 _ _ rfl rfl
    simp only at r1 r2
    subst r1
    have hc := r2.cells
    simp only [Instr.fill] at hf ⊢
    cases hp : place i with
    | none => rw [hp] at hf; cases hf
    | some os =>
      obtain ⟨off, size⟩ := os
      rw [hp] at hf
      simp only at hf ⊢
      rw [← hc.1, ← h.1]
      split at hf
      · cases hf
      · rename_i hcond
        rw [if_neg hcond]
        refine fill_rel place l l' _ _ r ?_ (by simpa using hl) (fun i a b ha hb => hr (i + 1) a b (by simpa using ha) (by simpa using hb)) hf
        rw [← Array.foldl_toList, ← Array.foldl_toList]
        refine foldl_cells off _ _ _ _ h (by simp [hc.1]) ?_
        intro k a b ha hb
        simp only [Array.getElem?_toList, Array.getElem?_zipIdx, Option.map_eq_some_iff] at ha hb
        obtain ⟨u, hu, rfl⟩ := ha
        obtain ⟨u', hu', rfl⟩ := hb
        exact ⟨hc.2 k u u' hu hu', rfl⟩
  | [], _ :: _, _, _, _, _, hl, _, _ => by simp at hl
  | _ :: _, [], _, _, _, _, hl, _, _ => by simp at hl


def vbuild (T : TE) (t : TypeId) (parts : List (Nat × Value)) : Option Value :=
  match T.inf t with
  | some i => match i.zero with
    | some z => bif plainB z then
        match T.und t with
        | some (.struct fields) => match placesOf T fields.toList with
          | some places => match lfill (places[·]?) z.cells.toList parts with
            | some cs => some (.agg ⟨cs⟩)
            | none => none
          | none => none
        | some (.array _ elem) => match T.inf elem with
          | some inf => match lfill (fun i => some (i * inf.size, inf.size)) z.cells.toList parts with
            | some cs => some (.agg ⟨cs⟩)
            | none => none
          | none => none
        | _ => none
      else none
    | none => none
  | none => none
theorem parts_rel {μ : Mu} {ρ' : Operand → Value} {parts : Array (Nat × Operand)} (h : ∀ x ∈ (parts.toList.map (·.2)).toArray, R μ (ρ x) (ρ' x)) :
    (parts.toList.map fun p => (p.1, ρ p.2)).length = (parts.map fun (i, x) => (i, ρ' x)).toList.length ∧
    ∀ (i : Nat) x y, (parts.toList.map fun p => (p.1, ρ p.2))[i]? = some x → (parts.map fun (i, x) => (i, ρ' x)).toList[i]? = some y → x.1 = y.1 ∧ R μ x.2 y.2 := by
  refine ⟨by simp, fun i x y hx hy => ?_⟩
  simp only [List.getElem?_map, Array.getElem?_toList, Array.getElem?_map, Option.map_eq_some_iff] at hx hy
  obtain ⟨u, hu, rfl⟩ := hx
  obtain ⟨u', hu', rfl⟩ := hy
  rw [hu] at hu'; cases hu'
  refine ⟨rfl, h u.2 ?_⟩
  have := Array.mem_of_getElem? hu
  simp only [List.mem_toArray, List.mem_map]
  exact ⟨u, by simpa using this, rfl⟩
theorem sound_build {t : TypeId} {parts : Array (Nat × Operand)} {v : Value} (ho : o.op = .build t parts) (hv : vbuild T t (parts.toList.map fun p => (p.1, ρ p.2)) = some v) : Sound P vs ρ o (.value v) := by
  intro N0 W0 W μ ρ' hG hρ
  obtain ⟨q1, q2⟩ := parts_rel (μ := μ) (ρ := ρ) (ρ' := ρ') (parts := parts) fun x hx => hρ x (by simpa [ho, Op.operands] using hx)
  unfold vbuild at hv
  split at hv
  case h_2 => cases hv
  rename_i i hi
  split at hv
  case h_2 => cases hv
  rename_i z hz
  simp only [Bool.cond_eq_ite] at hv
  split at hv
  case isFalse => cases hv
  rename_i hp
  have hzz := (plain_self μ z hp).cells
  split at hv
  · rename_i fields hu
    split at hv
    case h_2 => cases hv
    rename_i places hpl
    split at hv
    case h_2 => cases hv
    rename_i cs hf
    cases hv
    have hf := fill_list _ _ _ _ hf
    rw [show z.cells.toList.toArray = z.cells by simp] at hf
    obtain ⟨r', e1, e2⟩ := fill_rel _ _ _ _ _ _ hzz q1 q2 hf
    refine ⟨.value (.agg r'), ?_, .agg _ _ e2.1 e2.2⟩
    have hpl' := places_run (P := P) (W := W) hpl
    have e1' : Instr.fill (fun x => places.toArray[x]?) z.cells (parts.map fun (i, x) => (i, ρ' x)).toList = some r' := by rw [← e1]; congr 1; funext x; simp
    simp only [execOp, ho, Instr.build, Sem.run_bind, run_zero' (TOk.inf (P := P) hi) hz, Result.andThen_ok, run_underlying (TOk.und (P := P) hu), hpl', e1', Sem.run_pure]
  · rename_i len elem hu
    split at hv
    case h_2 => cases hv
    rename_i inf hinf
    split at hv
    case h_2 => cases hv
    rename_i cs hf
    cases hv
    have hf := fill_list _ _ _ _ hf
    rw [show z.cells.toList.toArray = z.cells by simp] at hf
    obtain ⟨r', e1, e2⟩ := fill_rel _ _ _ _ _ _ hzz q1 q2 hf
    refine ⟨.value (.agg r'), ?_, .agg _ _ e2.1 e2.2⟩
    simp only [execOp, ho, Instr.build, Sem.run_bind, run_zero' (TOk.inf (P := P) hi) hz, Result.andThen_ok, run_underlying (TOk.und (P := P) hu), run_sizeOf' (TOk.inf (P := P) hinf), e1, Sem.run_pure]
  · cases hv

/- What an interface value holds. -/
def vassert (T : TE) (x : Value) (asserted : TypeId) (ok : Bool) : Option Value :=
  match T.und asserted, x with
  | some d, .iface t v => bif concrete d then
      bif Nat.beq t asserted then some (bif ok then .tuple #[v, .bool true] else v)
      else bif ok then match T.inf asserted with
        | some i => match i.zero with
          | some z => bif plainB z then some (.tuple #[z, .bool false]) else none
          | none => none
        | none => none
      else none
    else none
  | _, _ => none
theorem sound_assert {x : Operand} {xt asserted : TypeId} {ok : Bool} {v : Value} (ho : o.op = .typeAssert x xt asserted ok) (hv : vassert T (ρ x) asserted ok = some v) : Sound P vs ρ o (.value v) := by
  intro N0 W0 W μ ρ' hG hρ
  have h1 := hρ x (by simp [ho, Op.operands])
  generalize hx : ρ x = vx at *
  generalize hx' : ρ' x = vx' at *
  unfold vassert at hv
  split at hv
  case h_2 => cases hv
  rename_i d t w hu
  obtain ⟨w', rfl, hw⟩ := h1.inv_iface
  simp only [Bool.cond_eq_ite] at hv
  split at hv
  case isFalse => cases hv
  rename_i hd
  split at hv
  · rename_i ht
    have ht := Nat.eq_of_beq_eq_true ht
    subst ht
    cases hv
    cases ok
    · refine ⟨.value w', ?_, hw⟩
      cases d <;> first
        | (simp [concrete] at hd; done)
        | (simp [execOp, ho, hx', Instr.typeAssert, run_underlying (TOk.und (P := P) hu)]; done)
    · have hr := RA.two hw (R.bool (μ := μ) true)
      refine ⟨.value (.tuple #[w', .bool true]), ?_, .tuple _ _ hr.1 hr.2⟩
      cases d <;> first
        | (simp [concrete] at hd; done)
        | (simp [execOp, ho, hx', Instr.typeAssert, run_underlying (TOk.und (P := P) hu)]; done)
  · rename_i ht
    have ht' : ¬ t = asserted := fun e => ht (by rw [e]; exact Nat.beq_refl _)
    split at hv
    case isFalse => cases hv
    rename_i hok
    subst hok
    split at hv
    case h_2 => cases hv
    rename_i i hi
    split at hv
    case h_2 => cases hv
    rename_i z hz
    split at hv
    case isFalse => cases hv
    rename_i hp
    cases hv
    have hr := RA.two (plain_self μ z hp) (R.bool (μ := μ) false)
    refine ⟨.value (.tuple #[z, .bool false]), ?_, .tuple _ _ hr.1 hr.2⟩
    cases d <;> first
      | (simp [concrete] at hd; done)
      | (simp [execOp, ho, hx', Instr.typeAssert, run_underlying (TOk.und (P := P) hu), ht', run_zero' (TOk.inf (P := P) hi) hz]; done)

/- All of them. -/
def vlift (x : Option Value) : Option VN :=
  match x with
  | some v => some (.value v)
  | none => none
theorem vlift_some {x : Option Value} {n : VN} (h : vlift x = some n) : ∃ v, x = some v ∧ n = .value v := by
  unfold vlift at h
  split at h
  · cases h; exact ⟨_, rfl, rfl⟩
  · cases h

def isBuiltin : Callee → Bool
  | .builtin _ => true
  | _ => false

def qPick (ρ : Operand → Value) (c a b : Operand) : Option VN :=
  match ρ c with
  | .bool t => some (.value (bif t then ρ a else ρ b))
  | _ => none
def qLoad (T : TE) (vs : VS) (ρ : Operand → Value) (t : TypeId) (x : Operand) : Option VN :=
  match ρ x with
  | .pointer (some a) => vlift (vload T vs t a)
  | _ => none
def qNil (ρ : Operand → Value) (x : Operand) : Option VN := bif nilOk (ρ x) then some (.value (ρ x)) else none
def qFieldAddr (T : TE) (ρ : Operand → Value) (s : TypeId) (x : Operand) (f : Nat) : Option VN :=
  match ρ x with
  | .pointer (some a) => vlift (vfield T s a f)
  | _ => none
def qExtract (ρ : Operand → Value) (x : Operand) (ix : Nat) : Option VN :=
  match ρ x with
  | .tuple a => vlift a.toList[ix]?
  | _ => none
def qField (T : TE) (ρ : Operand → Value) (t : TypeId) (x : Operand) (f : Nat) : Option VN :=
  match T.und t, ρ x with
  | some (.struct fields), .agg a => match fields.toList[f]? with
    | some fl => vlift (vpart T fl.type a fl.offset)
    | none => none
  | _, _ => none
def qIndex (T : TE) (ρ : Operand → Value) (t : TypeId) (x i : Operand) : Option VN :=
  match ρ x, ρ i with
  | .string s, .int _ m => vlift (vat T t s m)
  | .agg a, .int _ m => match T.und t with
    | some (.array len elem) => match T.inf elem with
      | some inf => bif decide (0 ≤ m) && decide (m < len) then vlift (vpart T elem a (m.toNat * inf.size)) else none
      | none => none
    | _ => none
  | _, _ => none
def qSlice (P : Program) (T : TE) (vs : VS) (ρ : Operand → Value) (o : Oper) (t : TypeId) (x : Operand) (lo hi : Option Operand) : Option VN :=
  match ρ x with
  | .slice (some a) len cap => match vsliceAt T vs t a len cap (lo.map ρ) (hi.map ρ) with
    | some (l, h, sz) => bif Nat.beq l cap then none else some (.value (.slice (some (a.add (l * sz))) (h - l) (cap - l)))
    | none => none
  | .string s => vlift (vcut T t s (lo.map ρ) (hi.map ρ))
  | _ => vplain P ρ o
def qIface (T : TE) (ρ : Operand → Value) (t : TypeId) (x : Operand) : Option VN :=
  match T.und t with
  | some d => bif concrete d then some (.value (.iface t (ρ x))) else none
  | none => none
def qConv (P : Program) (T : TE) (vs : VS) (ρ : Operand → Value) (o : Oper) (src dst : TypeId) (x : Operand) : Option VN :=
  match ρ x with
  | .slice (some a) len _ => vlift (vtext T vs src dst a len)
  | _ => vplain P ρ o
def qOr (P : Program) (ρ : Operand → Value) (o : Oper) (x : Option Value) : Option VN :=
  match x with
  | some v => some (.value v)
  | none => vplain P ρ o
def qBin (P : Program) (T : TE) (ρ : Operand → Value) (o : Oper) (op : BinOp) (t : TypeId) (x y : Operand) : Option VN :=
  match ρ x, ρ y with
  | .int k a, .int k' b => qOr P ρ o (vint op k a k' b)
  | .string a, .string b => qOr P ρ o (vstr op a b)
  | vx, vy => qOr P ρ o (vnil T op t vx vy)
def qLen (P : Program) (T : TE) (ρ : Operand → Value) (o : Oper) (c : Call) : Option VN :=
  match c.args.toList, c.argTypes.toList with
  | [x], [t] => match vlen T t (ρ x) with
    | some v => some (.value v)
    | none => qOr P ρ o (vsize T t (ρ x))
  | _, _ => none
def qCall (P : Program) (T : TE) (ρ : Operand → Value) (o : Oper) (c : Call) : Option VN :=
  match c.callee with
  | .value f => match ρ f with
    | .func (.func g) first captured => bif T.body g then some (.enter g ⟨first.toList ++ (c.args.toList.map ρ ++ captured.toList)⟩) else vlift (vext T g (first.toList ++ (c.args.toList.map ρ ++ captured.toList)))
    | _ => none
  | .builtin .len => qLen P T ρ o c
  | _ => vplain P ρ o

def vquiet (P : Program) (T : TE) (vs : VS) (ρ : Operand → Value) (o : Oper) : Option VN :=
  match o.op with
  | .move x => some (.value (ρ x))
  | .assign x => some (.value (ρ x))
  | .pick c a b => qPick ρ c a b
  | .load t x => qLoad T vs ρ t x
  | .nilCheck x => qNil ρ x
  | .fieldAddr s x f => qFieldAddr T ρ s x f
  | .indexAddr t x i => vlift (vindexAt T t (ρ x) (ρ i))
  | .extract x ix => qExtract ρ x ix
  | .field t x f => qField T ρ t x f
  | .index t x i => qIndex T ρ t x i
  | .slice t x lo hi none => qSlice P T vs ρ o t x lo hi
  | .makeInterface t x => qIface T ρ t x
  | .makeFunc fn first captured => some (.value (.func fn ⟨first.toList.map ρ⟩ ⟨captured.toList.map ρ⟩))
  | .convert src dst x => qConv P T vs ρ o src dst x
  | .binOp op t x y _ => qBin P T ρ o op t x y
  | .build t parts => vlift (vbuild T t (parts.toList.map fun p => (p.1, ρ p.2)))
  | .typeAssert x _ asserted ok => qOr P ρ o (vassert T (ρ x) asserted ok)
  | .call c => qCall P T ρ o c
  | .select _ _ => none
  | _ => vplain P ρ o

end Go.Ev
