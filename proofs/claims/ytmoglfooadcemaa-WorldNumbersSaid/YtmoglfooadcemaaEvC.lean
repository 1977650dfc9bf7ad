/-
  The evaluator's operations that leave memory alone.
-/
import Derived.Test.YtmoglfooadcemaaEvB
import Derived.Laws.Entries
namespace Go.Ev
open Go.RowKit

/- What the evaluator asks of types. -/
def hasBody (P : Program) (g : FuncId) : Bool :=
  match P.funcs[g]? with
  | some fn => fn.body.isSome
  | none => false
/- A function without a body: what it answers to plain arguments. -/
def ExtOk (P : Program) (g : FuncId) (h : List Value → Option Value) : Prop := ∀ (args : List Value) v, h args = some v → plainB v = true ∧ ∀ W, (callFunc g ⟨args⟩).run P W = .ok (.value v) W
structure TE where
  und : TypeId → Option TypeDesc
  inf : TypeId → Option TypeInfo
  body : FuncId → Bool
  ext : FuncId → Option (List Value → Option Value)
  idf : FuncId → Bool
  lies : TypeId → Nat → Nat → TypeId → Bool
class TOk (P : Program) (T : TE) : Prop where
  und : ∀ {t d}, T.und t = some d → P.underlying t = some d
  inf : ∀ {t i}, T.inf t = some i → P.info? t = some i
  body : ∀ {g}, T.body g = true → hasBody P g = true
  ext : ∀ {g h}, T.ext g = some h → ExtOk P g h
  idf : ∀ {g}, T.idf g = true → ∀ v W, (callFunc g #[v]).run P W = .ok (.value v) W
  lies : ∀ {e n off u}, T.lies e n off u = true → liesAt P P.depth e (n / P.cellsOf e) off u 1 = true

variable {N0 : Nat → Prop} {W0 W : World} {vs : VS} {μ : Mu} {P : Program} {T : TE} [TOk P T]

def purely {α : Type} (P : Program) : Sem α → Option α
  | .pure a => some a
  | .program k => purely P (k P)
  | .mark _ k => purely P k
  | _ => none

theorem purely_run {α : Type} (P : Program) (W : World) (s : Sem α) : ∀ a, purely P s = some a → s.run P W = .ok a W := by
  induction s with
  | pure a => intro b h; simp [purely] at h; simp [Sem.run, h]
  | program k ih => intro b h; simp only [purely] at h; simp only [Sem.run]; exact ih P b h
  | mark m k ih => intro b h; simp only [purely] at h; simp only [Sem.run]; exact ih b h
  | _ => intro b h; simp [purely] at h

inductive VN where
  | value (v : Value)
  | skip
  | enter (f : FuncId) (args : Array Value)
  | defer (g : FuncId) (cap args : List Value)

def RN (μ : Mu) : VN → Next → Prop
  | .value v, .value v' => R μ v v'
  | .skip, .skip => True
  | .enter f a, .enter g b => f = g ∧ RA μ a b
  | .defer g cap args, .defer d => ∃ cap', d.target = .fn (.func g) cap' ∧ RA μ cap.toArray cap' ∧ RA μ args.toArray d.args
  | _, _ => False
theorem RN.mono {μ ν : Mu} (hl : μ.le ν) : ∀ {n : VN} {n' : Next}, RN μ n n' → RN ν n n'
  | .value _, .value _, h => R.mono hl h
  | .skip, .skip, h => h
  | .enter _ _, .enter _ _, h => ⟨h.1, h.2.mono hl⟩
  | .defer _ _ _, .defer _, h => let ⟨c, h1, h2, h3⟩ := h; ⟨c, h1, h2.mono hl, h3.mono hl⟩

def vplain (P : Program) (ρ : Operand → Value) (o : Oper) : Option VN :=
  bif o.op.operands.all (fun x => plainB (ρ x)) then
    match purely P (execOp ρ o) with
    | some (.value v) => bif plainB v then some (.value v) else none
    | some .skip => some .skip
    | some (.enter f args) => bif plainA args then some (.enter f args) else none
    | _ => none
  else none

def notSelect : Op → Bool
  | .select _ _ => false
  | _ => true

theorem vplain_sound {ρ ρ' : Operand → Value} {o : Oper} {n : VN} (hs : notSelect o.op = true) (h : vplain P ρ o = some n) (hρ : ∀ x ∈ o.op.operands, R μ (ρ x) (ρ' x)) :
    ∃ n', (execOp ρ' o).run P W = .ok n' W ∧ RN μ n n' := by
  unfold vplain at h
  simp only [Bool.cond_eq_ite] at h
  split at h
  case isFalse => cases h
  rename_i hall
  have he : execOp ρ' o = execOp ρ o := execOp_congr o (fun cs b e => by rw [e] at hs; simp [notSelect] at hs) fun x hx => (hρ x hx).plain (by
    have := Array.all_eq_true.1 hall
    obtain ⟨i, hi, e⟩ := Array.mem_iff_getElem.1 hx
    rw [← e]; exact this i hi)
  rw [he]
  cases hp : purely P (execOp ρ o) with
  | none => rw [hp] at h; cases h
  | some nx =>
    rw [hp] at h
    have hrun := purely_run P W _ _ hp
    refine ⟨nx, hrun, ?_⟩
    cases nx with
    | value v =>
      simp only at h
      split at h
      · rename_i hv; cases h; exact plain_self μ v hv
      · cases h
    | skip => cases h; trivial
    | enter f args =>
      simp only at h
      split at h
      · rename_i hv; cases h; exact ⟨rfl, RA_self μ hv⟩
      · cases h
    | _ => cases h

/- Taking apart what stands to a value of a known form. -/
theorem R.inv_ptr {a : Addr} {v : Value} (h : R μ (.pointer (some a)) v) : ∃ l, μ a.block = some l ∧ v = .pointer (some (amap l a)) := by
  cases h with | ptr _ l h => exact ⟨l, h, rfl⟩
theorem R.inv_slice {a : Addr} {n c : Nat} {v : Value} (h : R μ (.slice (some a) n c) v) : ∃ l, μ a.block = some l ∧ (l.extra = 0 ∨ a.off + c * l.esz = l.len) ∧ v = .slice (some (amap l a)) n (c + l.extra) := by
  cases h with | slice _ l _ _ h hx => exact ⟨l, h, hx, rfl⟩
theorem R.inv_bool {b : Bool} {v : Value} (h : R μ (.bool b) v) : v = .bool b := by cases h; rfl
theorem R.inv_int {k : IntKind} {n : Int} {v : Value} (h : R μ (.int k n) v) : v = .int k n := by cases h; rfl
theorem R.inv_agg {a : Array Value} {v : Value} (h : R μ (.agg a) v) : ∃ a', v = .agg a' ∧ RA μ a a' := by
  cases h with | agg _ a' h1 h2 => exact ⟨a', rfl, h1, h2⟩
theorem R.inv_tuple {a : Array Value} {v : Value} (h : R μ (.tuple a) v) : ∃ a', v = .tuple a' ∧ RA μ a a' := by
  cases h with | tuple _ a' h1 h2 => exact ⟨a', rfl, h1, h2⟩
theorem R.inv_iface {t : TypeId} {x v : Value} (h : R μ (.iface t x) v) : ∃ x', v = .iface t x' ∧ R μ x x' := by
  cases h with | iface _ _ x' h => exact ⟨x', rfl, h⟩
theorem R.inv_func {f : Fn} {a b : Array Value} {v : Value} (h : R μ (.func f a b) v) : ∃ a' b', v = .func f a' b' ∧ RA μ a a' ∧ RA μ b b' := by
  cases h with | func _ _ _ a' b' h1 h2 h3 h4 => exact ⟨a', b', rfl, ⟨h1, h3⟩, ⟨h2, h4⟩⟩

/- A cell of a part of what stands so. -/
theorem RA.get {a a' : Array Value} (h : RA μ a a') {i : Nat} {x : Value} (hx : a[i]? = some x) : ∃ y, a'[i]? = some y ∧ R μ x y := by
  have hi := (Array.getElem?_eq_some_iff.1 hx).1
  have hi' : i < a'.size := by rw [← h.1]; exact hi
  exact ⟨a'[i], by simp [hi'], h.2 i x _ hx (by simp [hi'])⟩
theorem RA.append {a a' b b' : Array Value} (h : RA μ a a') (k : RA μ b b') : RA μ (a ++ b) (a' ++ b') := by
  refine ⟨by simp [h.1, k.1], fun i x y hx hy => ?_⟩
  rw [Array.getElem?_append] at hx hy
  rw [← h.1] at hy
  split at hx
  · rename_i hi; rw [if_pos hi] at hy; exact h.2 i x y hx hy
  · rename_i hi; rw [if_neg hi] at hy; exact k.2 _ x y hx hy
theorem RA.extract {a a' : Array Value} (h : RA μ a a') (i j : Nat) : RA μ (a.extract i j) (a'.extract i j) := by
  refine ⟨by simp [h.1], fun k x y hx hy => ?_⟩
  rw [Array.getElem?_extract] at hx hy
  rw [← h.1] at hy
  split at hx
  · rename_i hk; rw [if_pos hk] at hy; exact h.2 _ x y hx hy
  · cases hx
theorem RA.map {ρ ρ' : Operand → Value} {xs : Array Operand} (h : ∀ x ∈ xs, R μ (ρ x) (ρ' x)) : RA μ (xs.map ρ) (xs.map ρ') := by
  refine ⟨by simp, fun i x y hx hy => ?_⟩
  simp only [Array.getElem?_map, Option.map_eq_some_iff] at hx hy
  obtain ⟨u, hu, rfl⟩ := hx
  obtain ⟨u', hu', rfl⟩ := hy
  rw [hu] at hu'; cases hu'
  exact h u (Array.mem_of_getElem? hu)
theorem RA.empty : RA μ #[] #[] := ⟨rfl, fun i x y hx _ => by simp at hx⟩
theorem RA.one {x y : Value} (h : R μ x y) : RA μ #[x] #[y] := ⟨rfl, fun i a b ha hb => by
  cases i with
  | zero => simp at ha hb; subst ha; subst hb; exact h
  | succ i => simp at ha⟩
theorem RA.two {x y u v : Value} (h : R μ x y) (k : R μ u v) : RA μ #[x, u] #[y, v] := ⟨rfl, fun i a b ha hb => by
  match i with
  | 0 => simp at ha hb; subst ha; subst hb; exact h
  | 1 => simp at ha hb; subst ha; subst hb; exact k
  | i + 2 => simp at ha⟩
theorem R.cells {v v' : Value} (h : R μ v v') : RA μ v.cells v'.cells := by
  cases h with
  | agg a a' h1 h2 => exact ⟨h1, h2⟩
  | _ => exact RA.one (by constructor <;> assumption)

def aggD : TypeDesc → Bool
  | .struct _ | .array _ _ => true
  | _ => false
theorem run_isAgg' {t : TypeId} {d : TypeDesc} (h : P.underlying t = some d) : (isAgg t).run P W = .ok (aggD d) W := by
  unfold isAgg
  simp only [Sem.run_bind, run_underlying h, Result.andThen_ok]
  cases d <;> rfl
theorem run_typeInfo' {t : TypeId} {i : TypeInfo} (h : P.info? t = some i) : (typeInfo t).run P W = .ok i W := by
  simp [typeInfo, h]
theorem run_sizeOf' {t : TypeId} {i : TypeInfo} (h : P.info? t = some i) : (sizeOf t).run P W = .ok i.size W := by
  simp [sizeOf, run_typeInfo' h]
theorem run_zero' {t : TypeId} {i : TypeInfo} {z : Value} (h : P.info? t = some i) (hz : i.zero = some z) : (zeroValue t).run P W = .ok z W := by
  simp [zeroValue, run_typeInfo' h, hz]

def vload (T : TE) (vs : VS) (t : TypeId) (a : Addr) : Option Value :=
  match T.und t with
  | none => none
  | some d => bif aggD d then
      match T.inf t with
      | some i => match vread vs a i.size with
        | some l => some (.agg l.toArray)
        | none => none
      | none => none
    else match vread vs a 1 with
      | some [v] => some v
      | _ => none

theorem vload_run (h : G N0 W0 vs W μ) {t : TypeId} {a : Addr} {v : Value} (hv : vload T vs t a = some v) {l : Loc} (hl : μ a.block = some l) :
    ∃ v', (loadVar t (amap l a)).run P W = .ok v' W ∧ R μ v v' := by
  unfold vload at hv
  cases hu : T.und t with
  | none => rw [hu] at hv; cases hv
  | some d =>
    rw [hu] at hv
    simp only [Bool.cond_eq_ite] at hv
    unfold loadVar
    simp only [Sem.run_bind, run_isAgg' (TOk.und (P := P) hu), Result.andThen_ok]
    split at hv
    · rename_i hd
      simp only [hd, if_true]
      cases hi : T.inf t with
      | none => rw [hi] at hv; cases hv
      | some i =>
        rw [hi] at hv
        simp only at hv
        cases hr : vread vs a i.size with
        | none => rw [hr] at hv; cases hv
        | some xs =>
          rw [hr] at hv; cases hv
          obtain ⟨ys, h1, h2⟩ := h.run_load (P := P) hr hl
          refine ⟨.agg ys, by simp [Sem.run_bind, run_sizeOf' (TOk.inf (P := P) hi), h1], .agg _ _ h2.1 h2.2⟩
    · rename_i hd
      simp only [Bool.not_eq_true] at hd
      simp only [hd, Bool.false_eq_true, if_false]
      cases hr : vread vs a 1 with
      | none => rw [hr] at hv; cases hv
      | some xs =>
        obtain ⟨ys, h1, h2, h3, h4⟩ := h.read hr hl
        rw [hr] at hv
        match xs, ys, h1, h2, hv with
        | [x], [y], _, _, hv =>
          cases hv
          refine ⟨y, ?_, h4.2 0 v y (by simp) (by simp)⟩
          have := h3 0 y (by simp)
          have e : (amap l a).add 0 = amap l a := by simp [Addr.add]
          rw [e] at this
          simp [run_load, this]

def vpart (T : TE) (t : TypeId) (cs : Array Value) (off : Nat) : Option Value :=
  match T.und t with
  | none => none
  | some d => bif aggD d then
      match T.inf t with
      | some i => some (.agg ⟨(dropX off cs.toList).take i.size⟩)
      | none => none
    else cs.toList[off]?
theorem vpart_run {t : TypeId} {cs cs' : Array Value} {off : Nat} {v : Value} (hv : vpart T t cs off = some v) (hc : RA μ cs cs') : ∃ v', (part t cs' off).run P W = .ok v' W ∧ R μ v v' := by
  unfold vpart at hv
  cases hu : T.und t with
  | none => rw [hu] at hv; cases hv
  | some d =>
    rw [hu] at hv
    simp only [Bool.cond_eq_ite] at hv
    unfold part
    simp only [Sem.run_bind, run_isAgg' (TOk.und (P := P) hu), Result.andThen_ok]
    split at hv
    · rename_i hd
      simp only [hd, if_true]
      cases hi : T.inf t with
      | none => rw [hi] at hv; cases hv
      | some i =>
        rw [hi] at hv; cases hv
        have := hc.extract off (off + i.size)
        have e : cs.extract off (off + i.size) = ⟨(dropX off cs.toList).take i.size⟩ := by
          apply Array.ext'
          simp [dropX_eq, List.extract]
        rw [e] at this
        exact ⟨.agg (cs'.extract off (off + i.size)), by simp [run_sizeOf' (TOk.inf (P := P) hi)], .agg _ _ this.1 this.2⟩
    · rename_i hd
      simp only [Bool.not_eq_true] at hd
      simp only [hd, Bool.false_eq_true, if_false]
      obtain ⟨y, h1, h2⟩ := hc.get (by simpa using hv)
      exact ⟨y, by simp [h1], h2⟩

end Go.Ev
