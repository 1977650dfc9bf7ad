/-
  The evaluator on code, and what it says of the machine.
-/
import Derived.Test.YtmoglfooadcemaaEvI
namespace Go.Ev
open Go.RowKit

noncomputable def lget (t : List Value) : Nat → Value :=
  List.rec (motive := fun _ => Nat → Value) (fun _ => undef) (fun v _ ih n => Nat.rec (motive := fun _ => Value) v (fun m _ => ih m) n) t
noncomputable def lset (t : List Value) : Nat → Value → List Value :=
  List.rec (motive := fun _ => Nat → Value → List Value) (fun _ _ => []) (fun x l ih n v => Nat.rec (motive := fun _ => List Value) (v :: l) (fun m _ => x :: ih m v) n) t
noncomputable def vev (t : List Value) : Operand → Value
  | .tmp i => lget t i
  | .const v => v
  | .global g => .pointer (some ⟨g, 0, none⟩)
  | .func f => .func (.func f) #[] #[]
noncomputable def vput (t : List Value) (dst : Option Tmp) (v : Value) : List Value :=
  match dst with
  | some d => lset t d v
  | none => t

theorem lget_eq : ∀ (t : List Value) (i : Nat), lget t i = (t[i]?).getD undef
  | [], i => by simp [lget]
  | v :: l, 0 => rfl
  | v :: l, i + 1 => by
    have : lget (v :: l) (i + 1) = lget l i := rfl
    rw [this, lget_eq l i]; simp
theorem lset_eq : ∀ (t : List Value) (i : Nat) (v : Value), lset t i v = t.set i v
  | [], i, v => by simp [lset]
  | x :: l, 0, v => rfl
  | x :: l, i + 1, v => by
    have : lset (x :: l) (i + 1) v = x :: lset l i v := rfl
    rw [this, lset_eq l i v]; simp

def okOperand (ng : Nat) : Operand → Bool
  | .const v => plainB v
  | .global g => Nat.blt g ng
  | _ => true

variable {P : Program} {T : TE} [TOk P T] {N0 : Nat → Prop} {W0 W : World} {vs : VS} {μ : Mu}

theorem R_undef : R μ undef undef := plain_self μ undef rfl
theorem ev_rel {t : List Value} {a : Act} (hG : G N0 W0 vs W μ) (h : RA μ t.toArray a.tmps) {x : Operand} (hx : okOperand vs.ng x = true) : R μ (vev t x) (a.eval x) := by
  cases x with
  | tmp i =>
    simp only [vev, lget_eq, Act.eval, Array.getD_eq_getD_getElem?]
    cases hi : t[i]? with
    | none =>
      have : a.tmps[i]? = none := by
        have h1 : t.length ≤ i := by simpa using hi
        have h2 : t.length = a.tmps.size := by simpa using h.1
        simp; omega
      rw [this]; exact R_undef
    | some v =>
      obtain ⟨y, h1, h2⟩ := h.get (i := i) (x := v) (by simpa using hi)
      rw [h1]; exact h2
  | const v => exact plain_self μ v hx
  | global g =>
    obtain ⟨l, h1, h2, h3⟩ := hG.glo g (by simpa [okOperand] using hx)
    have := R.ptr (μ := μ) ⟨g, 0, none⟩ l h1
    simpa [amap, h2, h3, vev, Act.eval] using this
  | func f => exact plain_self μ _ rfl

theorem put_rel {t : List Value} {a : Act} (h : RA μ t.toArray a.tmps) {v v' : Value} (hv : R μ v v') (dst : Option Tmp) : RA μ (vput t dst v).toArray (a.put dst v').tmps := by
  cases dst with
  | none => exact h
  | some d =>
    simp only [vput, lset_eq, Act.put]
    refine ⟨by simpa using h.1, fun i x y hx hy => ?_⟩
    simp only [List.getElem?_toArray, List.getElem?_set] at hx
    rw [Array.getElem?_setIfInBounds] at hy
    have hs : t.length = a.tmps.size := by simpa using h.1
    split at hx
    · rename_i e
      rw [if_pos e] at hy
      split at hx
      · rename_i e2; rw [if_pos (by omega)] at hy; cases hx; cases hy; exact hv
      · cases hx
    · rename_i e
      rw [if_neg e] at hy
      exact h.2 i x y (by simpa using hx) hy
theorem put_defers (a : Act) (dst : Option Tmp) (v : Value) : (a.put dst v).defers = a.defers := by cases dst <;> rfl

/- Is an operation wanted? -/
def boolOf : Value → Option Bool
  | .bool b => some b
  | _ => none
def dstOf : List Oper → Nat → Option Tmp
  | [], _ => none
  | o :: _, 0 => o.dst
  | _ :: l, n + 1 => dstOf l n
theorem dstOf_eq : ∀ (l : List Oper) (j : Nat), dstOf l j = (l[j]?).bind (·.dst)
  | [], j => by simp [dstOf]
  | o :: l, 0 => by simp [dstOf]
  | o :: l, j + 1 => by simp [dstOf, dstOf_eq l j]
noncomputable def vwanted (ops : List Oper) (t : List Value) (o : Oper) : Bool :=
  match o.guard with
  | none => true
  | some (j, want) => match dstOf ops j with
    | some d => match lget t d with
      | .bool b => (b == want)
      | _ => false
    | none => false
theorem wanted_rel {ops : Array Oper} {t : List Value} {a : Act} (h : RA μ t.toArray a.tmps) (o : Oper) : Region.wanted o (yielded ops a.tmps) = vwanted ops.toList t o := by
  unfold Region.wanted vwanted
  cases o.guard with
  | none => rfl
  | some g =>
    obtain ⟨j, want⟩ := g
    simp only [yielded, dstOf_eq, Array.getElem?_toList]
    cases hd : (ops[j]?).bind (·.dst) with
    | none => simp
    | some d =>
      simp only [Option.bind_some, lget_eq]
      cases hi : t[d]? with
      | none =>
        have : a.tmps[d]? = none := by
          have h1 : t.length ≤ d := by simpa using hi
          have h2 : t.length = a.tmps.size := by simpa using h.1
          simp; omega
        rw [this]; rfl
      | some v =>
        obtain ⟨y, h1, h2⟩ := h.get (i := d) (x := v) (by simpa using hi)
        rw [h1]
        cases h2 <;> simp

/- How a call ends; the calls that were put off; how code is left. -/
inductive VE where
  | ret (v : Value)
  | pan (v : Value)
abbrev CallE := FuncId → Array Value → VS → Option (VE × VS)
abbrev OpE := VS → (Operand → Value) → Oper → Option (VN × VS)
abbrev QtE := VS → (Operand → Value) → Oper → Option VN

def panicked (v : Value) : List PanicEntry := [{ v := v, recovered := false }]
def REnd (μ : Mu) : VE → Ending → Prop
  | .ret v, e => ∃ v', R μ v v' ∧ e = .returned v'
  | .pan v, e => ∃ v', R μ v v' ∧ e = .panicked (panicked v')
def DR (μ : Mu) : List VD → List Deferred → Prop
  | [], [] => True
  | x :: l, d :: l' => (∃ cap', d.target = .fn (.func x.g) cap' ∧ RA μ x.cap.toArray cap' ∧ RA μ x.args.toArray d.args) ∧ DR μ l l'
  | _, _ => False
theorem DR.mono {μ ν : Mu} (hl : μ.le ν) : ∀ {l : List VD} {l' : List Deferred}, DR μ l l' → DR ν l l'
  | [], [], h => h
  | _ :: _, _ :: _, h => let ⟨⟨c, h1, h2, h3⟩, h4⟩ := h; ⟨⟨c, h1, h2.mono hl, h3.mono hl⟩, h4.mono hl⟩
  | [], _ :: _, h => h.elim
  | _ :: _, [], h => h.elim
theorem DR.nil_iff {μ : Mu} {l : List Deferred} (h : DR μ [] l) : l = [] := by
  cases l with
  | nil => rfl
  | cons _ _ => exact h.elim

def CallOK (P : Program) (call : CallE) : Prop :=
  ∀ f args vs e vs1, call f args vs = some (e, vs1) → ∀ (N0 : Nat → Prop) (W0 W : World) (μ : Mu) (args' : Array Value), RA μ args args' → G N0 W0 vs W μ →
    Calls P f args' W fun e' W' => ∃ μ1, μ.le μ1 ∧ G N0 W0 vs1 W' μ1 ∧ REnd μ1 e e'

inductive VX where
  | normal (t : List Value) (vs : VS)
  | exit (id : Nat) (t : List Value) (vs : VS)
  | ret (t : List Value) (vs : VS)
  | pan (v : Value) (t : List Value) (vs : VS)

def St (N0 : Nat → Prop) (W0 : World) (μ : Mu) (t : List Value) (vs : VS) (a : Act) (w : World) : Prop := ∃ μ1, μ.le μ1 ∧ RA μ1 t.toArray a.tmps ∧ G N0 W0 vs w μ1 ∧ DR μ1 vs.dfr a.defers
theorem St.mono {μ ν : Mu} (h : μ.le ν) {t : List Value} {vs : VS} {a : Act} {w : World} (s : St N0 W0 ν t vs a w) : St N0 W0 μ t vs a w :=
  let ⟨m, h2, h3⟩ := s; ⟨m, Mu.le_trans h h2, h3⟩
def Post (N0 : Nat → Prop) (W0 : World) (μ : Mu) : VX → Exit → Act → World → Prop
  | .normal t vs, e, a, w => e = .normal ∧ St N0 W0 μ t vs a w
  | .exit id t vs, e, a, w => e = .exit id ∧ St N0 W0 μ t vs a w
  | .ret t vs, e, a, w => e = .ret ∧ St N0 W0 μ t vs a w
  | .pan v t vs, e, a, w => ∃ μ1 v', μ.le μ1 ∧ e = .panic (panicked v') ∧ R μ1 v v' ∧ RA μ1 t.toArray a.tmps ∧ G N0 W0 vs w μ1 ∧ DR μ1 vs.dfr a.defers
theorem Post.mono {μ ν : Mu} (h : μ.le ν) : ∀ {x : VX} {e : Exit} {a : Act} {w : World}, Post N0 W0 ν x e a w → Post N0 W0 μ x e a w
  | .normal _ _, _, _, _, ⟨h1, h2⟩ => ⟨h1, h2.mono h⟩
  | .exit _ _ _, _, _, _, ⟨h1, h2⟩ => ⟨h1, h2.mono h⟩
  | .ret _ _, _, _, _, ⟨h1, h2⟩ => ⟨h1, h2.mono h⟩
  | .pan _ _ _, _, _, _, ⟨m, v', h1, h2⟩ => ⟨m, v', Mu.le_trans h h1, h2⟩

noncomputable def panicOf (t : List Value) (o : Oper) : Option Value :=
  match o.op with
  | .panic x => match vev t x with
    | .iface ty v => some (.iface ty v)
    | _ => none
  | _ => none
theorem panicOf_run {t : List Value} {o : Oper} {v : Value} (h : panicOf t o = some v) {a : Act} (hr : ∀ x ∈ o.op.operands, R μ (vev t x) (a.eval x)) :
    ∃ v', (execOp a.eval o).run P W = .halt (.panic v') W ∧ R μ v v' := by
  unfold panicOf at h
  split at h
  case h_2 => cases h
  rename_i x ho
  split at h
  case h_2 => cases h
  rename_i ty u hx
  cases h
  have h1 := hr x (by simp [ho, Op.operands])
  rw [hx] at h1
  obtain ⟨u', e, _⟩ := h1.inv_iface
  refine ⟨.iface ty u', ?_, e ▸ h1⟩
  simp [execOp, ho, e, Instr.panic, goPanic]

noncomputable def vops (op : OpE) (call : CallE) (ops : List Oper) : List Oper → List Value → VS → Option VX
  | [], t, vs => some (.normal t vs)
  | o :: rest, t, vs =>
    bif vwanted ops t o then
      match op vs (vev t) o with
      | some (.value v, vs1) => vops op call ops rest (vput t o.dst v) vs1
      | some (.skip, vs1) => vops op call ops rest (vput t o.dst undef) vs1
      | some (.enter f args, vs1) => match call f args vs1 with
        | some (.ret v, vs2) => vops op call ops rest (vput t o.dst v) vs2
        | some (.pan v, vs2) => some (.pan v t vs2)
        | none => none
      | some (.defer g cap args, vs1) => vops op call ops rest (vput t o.dst undef) { heap := vs1.heap, next := vs1.next, ng := vs1.ng, objs := vs1.objs, dfr := ⟨g, cap, args⟩ :: vs1.dfr }
      | none => match panicOf t o with
        | some v => some (.pan v t vs)
        | none => none
    else vops op call ops rest (vput t o.dst undef) vs

/- What operations and calls leave. -/
def Keeps (vs vs1 : VS) : Prop := vs1.ng = vs.ng ∧ vs1.dfr = vs.dfr

theorem G.put_off {vs : VS} (h : G N0 W0 vs W μ) (l : List VD) : G N0 W0 { heap := vs.heap, next := vs.next, ng := vs.ng, objs := vs.objs, dfr := l } W μ :=
  ⟨h.below, h.start, h.fresh, h.globs, h.glo, h.blocks, h.apart, h.objs⟩

theorem vops_sound {op : OpE} {call : CallE} (hop : ∀ vs ρ o n vs1, op vs ρ o = some (n, vs1) → SoundM P vs ρ o n vs1) (hcall : CallOK P call) (ops : Array Oper)
    (hng : ∀ vs ρ o n vs1, op vs ρ o = some (n, vs1) → Keeps vs vs1) (hngc : ∀ f args vs v vs1, call f args vs = some (v, vs1) → Keeps vs vs1) {ng : Nat} {Q : Exit → Act → World → Prop} :
    ∀ (l : List Oper) (k : Nat) (t : List Value) (vs : VS) (x : VX), (∀ j, l[j]? = ops[k + j]?) → (∀ o ∈ l, ∀ x ∈ o.op.operands, okOperand ng x = true) → vs.ng = ng → vops op call ops.toList l t vs = some x →
      ∀ (W : World) (μ : Mu) (a : Act), DR μ vs.dfr a.defers → RA μ t.toArray a.tmps → G N0 W0 vs W μ → (∀ e a' w, Post N0 W0 μ x e a' w → Q e a' w) → wpOps P ops Q (List.range' k l.length) a W
  | [], k, t, vs, x, _, _, _, h, W, μ, a, hd, ht, hG, hQ => by
    simp only [vops] at h
    cases h
    exact hQ .normal a W ⟨rfl, μ, Mu.le_refl _, ht, hG, hd⟩
  | o :: rest, k, t, vs, x, hl, hok, hng0, h, W, μ, a, hd, ht, hG, hQ => by
    have ho : ops[k]? = some o := by have := hl 0; simpa using this.symm
    have hl' : ∀ j, rest[j]? = ops[k + 1 + j]? := fun j => by
      have := hl (j + 1)
      rw [List.getElem?_cons_succ] at this
      rw [this]; congr 1; omega
    have hok' : ∀ o' ∈ rest, ∀ x ∈ o'.op.operands, okOperand ng x = true := fun o' h' => hok o' (List.mem_cons_of_mem _ h')
    simp only [List.length_cons, List.range'_succ, wpOps, ho]
    rw [wanted_rel ht]
    simp only [vops, Bool.cond_eq_ite] at h
    split at h
    · rename_i hw
      rw [if_pos hw]
      left
      have hrel : ∀ x ∈ o.op.operands, R μ (vev t x) (a.eval x) := fun x hx => ev_rel hG ht (by rw [hng0]; exact hok o (by simp) x hx)
      cases hx : op vs (vev t) o with
      | none =>
        rw [hx] at h
        simp only at h
        split at h
        case h_2 => cases h
        rename_i v hp
        cases h
        obtain ⟨v', hrun, hv⟩ := panicOf_run (P := P) (W := W) hp hrel
        unfold Oper.wp
        rw [hrun]
        exact hQ _ _ _ ⟨μ, v', Mu.le_refl _, rfl, hv, ht, hG, hd⟩
      | some r =>
        obtain ⟨n, vs2⟩ := r
        rw [hx] at h
        obtain ⟨μ1, W1, n', hle, hG1, hrun, hn⟩ := hop _ _ _ _ _ hx N0 W0 W μ a.eval hG hrel
        obtain ⟨hng1, hd1⟩ := hng _ _ _ _ _ hx
        rw [hng0] at hng1
        have hd' : DR μ1 vs2.dfr a.defers := by rw [hd1]; exact hd.mono hle
        unfold Oper.wp
        rw [hrun]
        cases n with
        | value v =>
          cases n' <;> simp only [RN] at hn
          rename_i v'
          simp only [Oper.upon]
          exact vops_sound hop hcall ops hng hngc rest (k + 1) _ _ _ hl' hok' hng1 h W1 μ1 _ (by rw [put_defers]; exact hd') (put_rel (ht.mono hle) hn o.dst) hG1 (fun e a' w s => hQ e a' w (s.mono hle))
        | skip =>
          cases n' <;> simp only [RN] at hn
          simp only [Oper.upon]
          exact vops_sound hop hcall ops hng hngc rest (k + 1) _ _ _ hl' hok' hng1 h W1 μ1 _ (by rw [put_defers]; exact hd') (put_rel (ht.mono hle) R_undef o.dst) hG1 (fun e a' w s => hQ e a' w (s.mono hle))
        | defer g cap args =>
          cases n' <;> simp only [RN] at hn
          rename_i d
          simp only [Oper.upon]
          refine vops_sound hop hcall ops hng hngc rest (k + 1) _ _ _ hl' hok' (by exact hng1) h W1 μ1 _ (by rw [put_defers]; exact ⟨hn, hd'⟩) (put_rel (a := { a with defers := d :: a.defers }) (ht.mono hle) R_undef o.dst) (hG1.put_off _) (fun e a' w s => hQ e a' w (s.mono hle))
        | enter f args =>
          cases n' <;> simp only [RN] at hn
          rename_i g args'
          obtain ⟨rfl, hargs⟩ := hn
          simp only at h
          cases hc : call f args vs2 with
          | none => rw [hc] at h; cases h
          | some r =>
            obtain ⟨v, vs3⟩ := r
            rw [hc] at h
            simp only [Oper.upon]
            refine (hcall _ _ _ _ _ hc N0 W0 W1 μ1 args' hargs hG1).mono ?_
            obtain ⟨hng2, hd2⟩ := hngc _ _ _ _ _ hc
            rintro e W' ⟨μ2, hle2, hG2, he⟩
            have hle3 := Mu.le_trans hle hle2
            have hd3 : DR μ2 vs3.dfr a.defers := by rw [hd2]; exact hd'.mono hle2
            cases v with
            | ret v =>
              obtain ⟨v', hv, rfl⟩ := he
              exact vops_sound hop hcall ops hng hngc rest (k + 1) _ _ _ hl' hok' (by rw [hng2, hng1]) h W' μ2 _ (by rw [put_defers]; exact hd3) (put_rel (ht.mono hle3) hv o.dst) hG2 (fun e a' w s => hQ e a' w (s.mono hle3))
            | pan v =>
              obtain ⟨v', hv, rfl⟩ := he
              cases h
              exact hQ _ _ _ ⟨μ2, v', hle3, rfl, hv, ht.mono hle3, hG2, hd3⟩
    · rename_i hw
      rw [if_neg hw]
      exact vops_sound hop hcall ops hng hngc rest (k + 1) _ _ _ hl' hok' hng0 h W μ _ (by rw [put_defers]; exact hd) (put_rel ht R_undef o.dst) hG hQ

end Go.Ev
