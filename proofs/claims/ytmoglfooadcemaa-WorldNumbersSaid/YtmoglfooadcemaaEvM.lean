/-
  The evaluator on calls, and what it says of the machine.
-/
import Derived.Test.YtmoglfooadcemaaEvL
import Derived.Recover
namespace Go.Ev
open Go.RowKit

variable {P : Program} {T : TE} [TOk P T] {N0 : Nat → Prop} {W0 W : World} {vs : VS} {μ : Mu}

noncomputable def vresults (T : TE) (vs : VS) (t : List Value) : List ResultVar → Option (List Value)
  | [] => some []
  | .tmp i :: l => match vresults T vs t l with
    | some r => some (lget t i :: r)
    | none => none
  | .cell i ty :: l => match lget t i with
    | .pointer (some a) => match vload T vs ty a, vresults T vs t l with
      | some v, some r => some (v :: r)
      | _, _ => none
    | _ => none
def one : List Value → Value
  | [v] => v
  | l => .tuple l.toArray

theorem results_run (hG : G N0 W0 vs W μ) {t : List Value} {tmps : Array Value} (ht : RA μ t.toArray tmps) (g : ResultVar → Sem Value) (g1 : ∀ i, g (.tmp i) = pure (tmps.getD i undef))
    (g2 : ∀ a ty, g (.cell a ty) = (do loadVar ty (← asAddr (tmps.getD a undef)))) : ∀ (l : List ResultVar) (r : List Value), vresults T vs t l = some r →
    ∃ r' : List Value, (l.mapM g).run P W = .ok r' W ∧ RA μ r.toArray r'.toArray
  | [], r, h => by simp only [vresults] at h; cases h; exact ⟨[], by simp, RA.empty⟩
  | x :: l, r, h => by
    have hget : ∀ i, R μ (lget t i) (tmps.getD i undef) := fun i => ev_rel (a := ⟨tmps, []⟩) hG ht (x := .tmp i) rfl
    cases x with
    | tmp i =>
      simp only [vresults] at h
      split at h
      case h_2 => cases h
      rename_i r0 hr
      cases h
      obtain ⟨r', h1, h2⟩ := results_run hG ht g g1 g2 l r0 hr
      refine ⟨tmps.getD i undef :: r', ?_, ?_⟩
      · simp only [List.mapM_cons, g1, Sem.run_bind, Sem.run_pure, Result.andThen_ok, h1]
      · have := (RA.one (hget i)).append h2
        simpa using this
    | cell i ty =>
      simp only [vresults] at h
      have hg := hget i
      split at h
      case h_2 => cases h
      rename_i a ha
      split at h
      case h_2 => cases h
      rename_i v r0 hv hr
      cases h
      rw [ha] at hg
      obtain ⟨L, hL, e⟩ := hg.inv_ptr
      obtain ⟨v', h3, h4⟩ := vload_run (P := P) hG hv hL
      obtain ⟨r', h1, h2⟩ := results_run hG ht g g1 g2 l r0 hr
      refine ⟨v' :: r', ?_, ?_⟩
      · simp only [List.mapM_cons, g2, Sem.run_bind, Sem.run_pure, Result.andThen_ok, h1, e, asAddr, h3]
      · have := (RA.one h4).append h2
        simpa using this

theorem one_run (hG : G N0 W0 vs W μ) {t : List Value} {tmps : Array Value} (ht : RA μ t.toArray tmps) {fn : Func} {r : List Value} (h : vresults T vs t fn.results.toList = some r) :
    ∃ v', (results fn tmps).run P W = .ok v' W ∧ R μ (one r) v' := by
  obtain ⟨r', h1, h2⟩ := results_run (P := P) hG ht (fun | .tmp t => pure (tmps.getD t undef) | .cell a t => do loadVar t (← asAddr (tmps.getD a undef))) (fun _ => rfl) (fun _ _ => rfl) _ r h
  have hl : r.length = r'.length := by simpa using h2.1
  have hrun : (results fn tmps).run P W = .ok (if h : r'.toArray.size = 1 then r'.toArray[0] else .tuple r'.toArray) W := by
    unfold results
    have e : fn.results = fn.results.toList.toArray := by simp
    rw [e, List.mapM_toArray]
    simp only [Sem.run_bind, Sem.run_map, Sem.run_pure]
    exact congrArg (fun z : Result (List Value) => (z.andThen fun a w' => Result.ok a.toArray w').andThen fun a w' => Result.ok (if h : a.size = 1 then a[0] else Value.tuple a) w') h1
  refine ⟨_, hrun, ?_⟩
  match r, r', hl, h2 with
  | [x], [y], _, h2 => exact h2.2 0 x y (by simp) (by simp)
  | [], [], _, h2 => exact .tuple _ _ h2.1 h2.2
  | a :: b :: l, a' :: b' :: l', hl, h2 =>
    have : ¬ (a' :: b' :: l').toArray.size = 1 := by simp
    rw [dif_neg this]
    exact .tuple _ _ h2.1 h2.2

/- The mode of a frame that leaves; what deferred calls make of it. -/
inductive VM where
  | ret
  | pan (v : Value)
  | got (v : Value)
def RM (μ : Mu) : VM → FrameMode → Prop
  | .ret, u => u = .returning
  | .pan v, u => ∃ v', R μ v v' ∧ u = .panicking (panicked v')
  | .got v, u => ∃ v', R μ v v' ∧ u = .panicking [{ v := v', recovered := true }]
theorem RM.mono {μ ν : Mu} (hl : μ.le ν) : ∀ {m : VM} {u : FrameMode}, RM μ m u → RM ν m u
  | .ret, _, h => h
  | .pan _, _, ⟨v, h1, h2⟩ => ⟨v, h1.mono hl, h2⟩
  | .got _, _, ⟨v, h1, h2⟩ => ⟨v, h1.mono hl, h2⟩
def settleV : VM → VM
  | .got _ => .ret
  | m => m
theorem settle_rel : ∀ {m : VM} {u : FrameMode}, RM μ m u → RM μ (settleV m) (settle u)
  | .ret, _, h => by cases h; rfl
  | .pan _, _, ⟨v, h1, h2⟩ => by subst h2; exact ⟨v, h1, rfl⟩
  | .got _, _, ⟨v, h1, h2⟩ => by subst h2; rfl

def isRec (o : Oper) : Bool :=
  match o.op with
  | .call c => match c.callee with
    | .builtin .recover => true
    | _ => false
  | _ => false
theorem isRec_run {o : Oper} (h : isRec o = true) (ρ : Operand → Value) : (execOp ρ o).run P W = .ok .recover W := by
  unfold isRec at h
  split at h
  · rename_i c ho
    split at h
    · rename_i hc
      simp [execOp, ho, resolve, hc, invoke, builtin]
    · cases h
  · cases h

noncomputable def vopsS (op : OpE) (call : CallE) (ops : List Oper) : List Oper → List Value → VS → VM → Option (List Value × VS × VM)
  | [], t, vs, m => some (t, vs, m)
  | o :: rest, t, vs, m =>
    bif vwanted ops t o then
      bif isRec o then match m with
        | .pan v => vopsS op call ops rest (vput t o.dst v) vs (.got v)
        | .ret => vopsS op call ops rest (vput t o.dst .nilIface) vs .ret
        | .got v => vopsS op call ops rest (vput t o.dst .nilIface) vs (.got v)
      else match op vs (vev t) o with
      | some (.value v, vs1) => vopsS op call ops rest (vput t o.dst v) vs1 m
      | some (.skip, vs1) => vopsS op call ops rest (vput t o.dst undef) vs1 m
      | some (.enter f args, vs1) => match call f args vs1 with
        | some (.ret v, vs2) => vopsS op call ops rest (vput t o.dst v) vs2 m
        | _ => none
      | _ => none
    else vopsS op call ops rest (vput t o.dst undef) vs m

def CS (c₀ : Frame) (cs₀ : List Frame) (u : FrameMode) : List Frame := { c₀ with mode := u } :: cs₀
def StS (N0 : Nat → Prop) (W0 : World) (μ : Mu) (t : List Value) (vs : VS) (m : VM) (a : Act) (w : World) (u : FrameMode) : Prop :=
  ∃ μ1, μ.le μ1 ∧ RA μ1 t.toArray a.tmps ∧ G N0 W0 vs w μ1 ∧ DR μ1 vs.dfr a.defers ∧ RM μ1 m u
theorem StS.mono {μ ν : Mu} (h : μ.le ν) {t : List Value} {vs : VS} {m : VM} {a : Act} {w : World} {u : FrameMode} (s : StS N0 W0 ν t vs m a w u) : StS N0 W0 μ t vs m a w u :=
  let ⟨m, h2, h3⟩ := s; ⟨m, Mu.le_trans h h2, h3⟩

omit [TOk P T] in
theorem vopsS_sound {op : OpE} {qt : QtE} {fx : FX} {call : CallE} (hE : EngOk P op qt fx) (hcall : CallOK P call) (ops : Array Oper) (hngc : ∀ f args vs v vs1, call f args vs = some (v, vs1) → Keeps vs vs1) {ng : Nat} {c₀ : Frame} {cs₀ : List Frame}
    {Q : Exit → Act → List Frame → World → Prop} :
    ∀ (l : List Oper) (k : Nat) (t : List Value) (vs : VS) (m : VM) (t1 : List Value) (vs1 : VS) (m1 : VM), (∀ j, l[j]? = ops[k + j]?) → (∀ o ∈ l, ∀ x ∈ o.op.operands, okOperand ng x = true) → vs.ng = ng →
      vopsS op call ops.toList l t vs m = some (t1, vs1, m1) →
      ∀ (W : World) (μ : Mu) (a : Act) (u : FrameMode), DR μ vs.dfr a.defers → RA μ t.toArray a.tmps → G N0 W0 vs W μ → RM μ m u → (∀ a' w u', StS N0 W0 μ t1 vs1 m1 a' w u' → Q .normal a' (CS c₀ cs₀ u') w) →
        wpOpsS P ops Q (List.range' k l.length) a (CS c₀ cs₀ u) W
  | [], k, t, vs, m, t1, vs1, m1, _, _, _, h, W, μ, a, u, hd, ht, hG, hm, hQ => by
    simp only [vopsS] at h
    cases h
    exact hQ a W u ⟨μ, Mu.le_refl _, ht, hG, hd, hm⟩
  | o :: rest, k, t, vs, m, t1, vs1, m1, hl, hok, hng0, h, W, μ, a, u, hd, ht, hG, hm, hQ => by
    have ho : ops[k]? = some o := by have := hl 0; simpa using this.symm
    have hl' : ∀ j, rest[j]? = ops[k + 1 + j]? := fun j => by
      have := hl (j + 1)
      rw [List.getElem?_cons_succ] at this
      rw [this]; congr 1; omega
    have hok' : ∀ o' ∈ rest, ∀ x ∈ o'.op.operands, okOperand ng x = true := fun o' h' => hok o' (List.mem_cons_of_mem _ h')
    simp only [List.length_cons, List.range'_succ, wpOpsS, ho]
    rw [wanted_rel ht]
    simp only [vopsS, Bool.cond_eq_ite] at h
    split at h
    · rename_i hw
      rw [if_pos hw]
      split at h
      · rename_i hrec
        rw [isRec_run hrec]
        simp only
        cases m with
        | pan v =>
          obtain ⟨v', hv, rfl⟩ := hm
          simp only at h
          have : recoverD (CS c₀ cs₀ (.panicking (panicked v'))) = some (v', CS c₀ cs₀ (.panicking [{ v := v', recovered := true }])) := rfl
          rw [this]
          exact vopsS_sound hE hcall ops hngc rest (k + 1) _ _ _ _ _ _ hl' hok' hng0 h W μ _ _ (by rw [put_defers]; exact hd) (put_rel ht hv o.dst) hG ⟨v', hv, rfl⟩ hQ
        | ret =>
          cases hm
          have : recoverD (CS c₀ cs₀ .returning) = none := rfl
          rw [this]
          exact vopsS_sound hE hcall ops hngc rest (k + 1) _ _ _ _ _ _ hl' hok' hng0 h W μ _ _ (by rw [put_defers]; exact hd) (put_rel ht .nilIface o.dst) hG rfl hQ
        | got v =>
          obtain ⟨v', hv, rfl⟩ := hm
          have : recoverD (CS c₀ cs₀ (.panicking [{ v := v', recovered := true }])) = none := rfl
          rw [this]
          exact vopsS_sound hE hcall ops hngc rest (k + 1) _ _ _ _ _ _ hl' hok' hng0 h W μ _ _ (by rw [put_defers]; exact hd) (put_rel ht .nilIface o.dst) hG ⟨v', hv, rfl⟩ hQ
      have hrel : ∀ x ∈ o.op.operands, R μ (vev t x) (a.eval x) := fun x hx => ev_rel hG ht (by rw [hng0]; exact hok o (by simp) x hx)
      cases hx : op vs (vev t) o with
      | none => rw [hx] at h; cases h
      | some r =>
        obtain ⟨n, vs2⟩ := r
        rw [hx] at h
        obtain ⟨μ1, W1, n', hle, hG1, hrun, hn⟩ := hE.op _ _ _ _ _ hx N0 W0 W μ a.eval hG hrel
        obtain ⟨hng1, hd1⟩ := hE.ng _ _ _ _ _ hx
        rw [hng0] at hng1
        have hd' : DR μ1 vs2.dfr a.defers := by rw [hd1]; exact hd.mono hle
        rw [hrun]
        cases n with
        | value v =>
          cases n' <;> simp only [RN] at hn
          rename_i v'
          simp only [Oper.upon]
          exact vopsS_sound hE hcall ops hngc rest (k + 1) _ _ _ _ _ _ hl' hok' hng1 h W1 μ1 _ _ (by rw [put_defers]; exact hd') (put_rel (ht.mono hle) hn o.dst) hG1 (hm.mono hle) (fun a' w u s => hQ a' w u (s.mono hle))
        | skip =>
          cases n' <;> simp only [RN] at hn
          simp only [Oper.upon]
          exact vopsS_sound hE hcall ops hngc rest (k + 1) _ _ _ _ _ _ hl' hok' hng1 h W1 μ1 _ _ (by rw [put_defers]; exact hd') (put_rel (ht.mono hle) R_undef o.dst) hG1 (hm.mono hle) (fun a' w u s => hQ a' w u (s.mono hle))
        | defer g cap args => cases h
        | enter f args =>
          cases n' <;> simp only [RN] at hn
          rename_i g args'
          obtain ⟨rfl, hargs⟩ := hn
          simp only at h
          cases hc : call f args vs2 with
          | none => rw [hc] at h; cases h
          | some r =>
            obtain ⟨v, vs3⟩ := r
            rw [hc] at h
            cases v with
            | pan v => cases h
            | ret v => ?_
            simp only [Oper.upon]
            refine (hcall _ _ _ _ _ hc N0 W0 W1 μ1 args' hargs hG1).mono ?_
            obtain ⟨hng2, hd2⟩ := hngc _ _ _ _ _ hc
            rintro e W' ⟨μ2, hle2, hG2, v', hv, rfl⟩
            have hle3 := Mu.le_trans hle hle2
            exact vopsS_sound hE hcall ops hngc rest (k + 1) _ _ _ _ _ _ hl' hok' (by rw [hng2, hng1]) h W' μ2 _ _ (by rw [put_defers, hd2]; exact hd'.mono hle2) (put_rel (ht.mono hle3) hv o.dst) hG2 (hm.mono hle3) (fun a' w u s => hQ a' w u (s.mono hle3))
    · rename_i hw
      rw [if_neg hw]
      exact vopsS_sound hE hcall ops hngc rest (k + 1) _ _ _ _ _ _ hl' hok' hng0 h W μ _ _ (by rw [put_defers]; exact hd) (put_rel ht R_undef o.dst) hG hm hQ

noncomputable def vcodeS (op : OpE) (qt : QtE) (fx : FX) (call : CallE) (tl : Nat → Option RS) : Nat → Code → List Value → VS → VM → Option (VX × VM)
  | 0, _, _, _, _ => none
  | n + 1, c, t, vs, m =>
    match c with
    | .seq a b => match vcodeS op qt fx call tl n a t vs m with
      | some (.normal t1 vs1, m1) => bif Nat.beq vs1.ng vs.ng then vcodeS op qt fx call tl n b t1 vs1 m1 else none
      | r => r
    | .cond x a b => match vev t x with
      | .bool b1 => bif b1 then vcodeS op qt fx call tl n a t vs m else vcodeS op qt fx call tl n b t vs m
      | _ => none
    | .region _ ops false => match vopsS op call ops.toList ops.toList t vs m with
      | some (t1, vs1, m1) => some (.normal t1 vs1, m1)
      | none => none
    | c => match vcode op qt fx call tl (n + 1) c t vs with
      | some x => some (x, m)
      | none => none
def PostS (N0 : Nat → Prop) (W0 : World) (μ : Mu) (c₀ : Frame) (cs₀ : List Frame) (x : VX) (m : VM) (e : Exit) (a : Act) (cs : List Frame) (w : World) : Prop :=
  ∃ μ1 u, μ.le μ1 ∧ cs = CS c₀ cs₀ u ∧ RM μ1 m u ∧ Post N0 W0 μ1 x e a w
theorem PostS.mono {μ ν : Mu} (h : μ.le ν) {c₀ : Frame} {cs₀ : List Frame} {x : VX} {m : VM} {e : Exit} {a : Act} {cs : List Frame} {w : World} (s : PostS N0 W0 ν c₀ cs₀ x m e a cs w) : PostS N0 W0 μ c₀ cs₀ x m e a cs w :=
  let ⟨m, u, h2, h3⟩ := s; ⟨m, u, Mu.le_trans h h2, h3⟩
theorem wpS_mono {c : Code} {Q Q' : Exit → Act → List Frame → World → Prop} {a : Act} {cs : List Frame} {w : World} (h : c.wpS P Q a cs w) (hq : ∀ e a cs w, Q e a cs w → Q' e a cs w) : c.wpS P Q' a cs w :=
  fun b k hb hr => let ⟨e, a', cs', w', q, r⟩ := h b k hb hr; ⟨e, a', cs', w', hq _ _ _ _ q, r⟩

theorem vcodeS_sound {op : OpE} {qt : QtE} {fx : FX} {call : CallE} (hE : EngOk P op qt fx) (hcall : CallOK P call) (hngc : ∀ f args vs v vs1, call f args vs = some (v, vs1) → Keeps vs vs1) {ng : Nat} {tl : Nat → Option RS} {c₀ : Frame} {cs₀ : List Frame} :
    ∀ (n : Nat) (c : Code) (t : List Value) (vs : VS) (m : VM) (x : VX) (m1 : VM), codeOk ng tl c = true → vs.ng = ng → vcodeS op qt fx call tl n c t vs m = some (x, m1) →
      ∀ (N0 : Nat → Prop) (W0 W : World) (μ : Mu) (a : Act) (u : FrameMode), DR μ vs.dfr a.defers → RA μ t.toArray a.tmps → G N0 W0 vs W μ → RM μ m u → c.wpS P (PostS N0 W0 μ c₀ cs₀ x m1) a (CS c₀ cs₀ u) W
  | 0, _, _, _, _, _, _, _, _, h, _, _, _, _, _, _, _, _, _, _ => by simp [vcodeS] at h
  | n + 1, c, t, vs, m, x, m1, hok, hng, h, N0, W0, W, μ, a, u, hd, ht, hG, hm => by
    have ih := vcodeS_sound hE hcall hngc (ng := ng) (tl := tl) (c₀ := c₀) (cs₀ := cs₀) n
    unfold vcodeS at h
    split at h
    · rename_i c1 c2
      simp only [codeOk, Bool.and_eq_true] at hok
      refine wpS_seq ?_
      split at h
      · rename_i t1 vs1 m2 hx
        simp only [Bool.cond_eq_ite] at h
        split at h
        case isFalse => cases h
        rename_i hng1
        have hng1 := Nat.eq_of_beq_eq_true hng1
        refine wpS_mono (ih c1 t vs m _ m2 hok.1 hng hx N0 W0 W μ a u hd ht hG hm) ?_
        rintro e a' cs w ⟨μ1, u', hle, rfl, hm', rfl, μ2, hle2, ht', hG', hd'⟩
        exact wpS_mono (ih c2 t1 vs1 m2 x m1 hok.2 (by rw [hng1, hng]) h N0 W0 w μ2 a' u' hd' ht' hG' (hm'.mono hle2)) fun e a cs w s => s.mono (Mu.le_trans hle hle2)
      · rename_i hnn
        refine wpS_mono (ih c1 t vs m x m1 hok.1 hng h N0 W0 W μ a u hd ht hG hm) ?_
        intro e a' cs w hp
        obtain ⟨μ1, u', hle, hcs, hm', hp⟩ := hp
        cases x with
        | normal t1 vs1 => exact absurd h (hnn t1 vs1 m1)
        | exit id t1 vs1 => obtain ⟨rfl, hs⟩ := hp; exact ⟨μ1, u', hle, hcs, hm', rfl, hs⟩
        | ret t1 vs1 => obtain ⟨rfl, hs⟩ := hp; exact ⟨μ1, u', hle, hcs, hm', rfl, hs⟩
        | pan v t1 vs1 => obtain ⟨m, v', q1, rfl, q2⟩ := hp; exact ⟨μ1, u', hle, hcs, hm', m, v', q1, rfl, q2⟩
    · rename_i y c1 c2
      simp only [codeOk, Bool.and_eq_true] at hok
      split at h
      case h_2 => cases h
      rename_i b1 hb
      have hev := ev_rel hG ht (x := y) (by rw [hng]; exact hok.1.1)
      rw [hb] at hev
      refine wpS_cond (t := b1) hev.inv_bool ?_
      cases b1 with
      | true => exact ih c1 t vs m x m1 hok.1.2 hng h N0 W0 W μ a u hd ht hG hm
      | false => exact ih c2 t vs m x m1 hok.2 hng h N0 W0 W μ a u hd ht hG hm
    · rename_i id ops
      simp only [codeOk, Bool.and_eq_true, List.all_eq_true] at hok
      have hops' : ∀ o ∈ ops.toList, ∀ y ∈ o.op.operands, okOperand ng y = true := fun o ho y hy => hok.1 o ho y (by simpa using hy)
      split at h
      case h_2 => cases h
      rename_i t1 vs1 m2 hx
      cases h
      refine wpS_region ?_
      have := vopsS_sound (P := P) (N0 := N0) (W0 := W0) (c₀ := c₀) (cs₀ := cs₀) (Q := PostS N0 W0 μ c₀ cs₀ (.normal t1 vs1) m1) hE hcall ops hngc ops.toList 0 t vs m t1 vs1 m1 (fun j => by simp) hops' hng hx W μ a u hd ht hG hm
        (fun a' w u' s => let ⟨m, q1, q2, q3, q4, q5⟩ := s; ⟨m, u', q1, rfl, q5, rfl, m, Mu.le_refl _, q2, q3, q4⟩)
      simpa [List.range_eq_range'] using this
    · split at h
      case h_2 => cases h
      rename_i x' hx
      cases h
      refine wpS_of_wp (wp_mono (wp_of_wpL (vcode_sound hE hcall hngc (ng := ng) (n + 1) _ t vs x hok hng hx N0 W0 W μ a hd ht hG)) ?_)
      intro e a' w hp
      exact ⟨μ, u, Mu.le_refl _, rfl, hm, hp⟩

/- The functions that are run: what is kept of each. -/
structure VF where
  ntmps : Nat
  results : List ResultVar
  body : Code
  tails : List (Nat × RS)
def tlOf : List (Nat × RS) → Nat → Option RS
  | [], _ => none
  | (i, n) :: l, j => bif Nat.beq i j then some n else tlOf l j
def TblOk (P : Program) (ng : Nat) (tbl : Nat → Option VF) : Prop :=
  ∀ f F, tbl f = some F → codeOk ng (tlOf F.tails) F.body = true ∧ ∃ fn, P.funcs[f]? = some fn ∧ fn.body = some F.body ∧ fn.ntmps = F.ntmps ∧ fn.results.toList = F.results

def pad (t : List Value) (n : Nat) : List Value := t ++ List.replicate (n - t.length) undef
def VS.off (vs : VS) (l : List VD) : VS := { heap := vs.heap, next := vs.next, ng := vs.ng, objs := vs.objs, dfr := l }

theorem pad_rel {args : Array Value} {args' : Array Value} (h : RA μ args args') (n : Nat) : RA μ (pad args.toList n).toArray (args' ++ Array.replicate (n - args'.size) undef) := by
  have h2 : RA μ (Array.replicate (n - args'.size) undef) (Array.replicate (n - args'.size) undef) := RA_self μ (plainA_of fun i x hx => by
    have := Array.mem_of_getElem? hx
    simp at this
    rw [this.2]; rfl)
  have := h.append h2
  have e : (pad args.toList n).toArray = args ++ Array.replicate (n - args'.size) undef := by
    apply Array.ext'
    simp [pad, h.1]
  rw [e]; exact this


theorem leaves_mono {fn : Func} {tmps : Array Value} {R R' : Ending → World → Prop} (h : ∀ e w, R e w → R' e w) : ∀ (ds : List Deferred) (u : FrameMode) (w : World), Leaves P fn tmps R ds u w → Leaves P fn tmps R' ds u w
  | [], .returning, w, ⟨v, h1, h2⟩ => ⟨v, h1, h _ _ h2⟩
  | [], .panicking _, w, k => h _ _ k
  | [], .run, _, k => k
  | d :: ds, u, w, ⟨hu, fv, cap, f, args, h1, h2, h3⟩ => ⟨hu, fv, cap, f, args, h1, h2, h3.mono fun e u' w' => by
      cases e with
      | returned v => exact fun k => leaves_mono h ds _ _ k
      | panicked c => exact fun k => leaves_mono h ds _ _ k
      | outgrown => exact fun k => h _ _ k⟩

/- A deferred call. -/
noncomputable def vdcall (T : TE) (op : OpE) (qt : QtE) (fx : FX) (ng : Nat) (tbl : Nat → Option VF) (fuel : Nat) (call : CallE) (f : FuncId) (args : List Value) (m : VM) (vs : VS) : Option (VM × VS) :=
  bif Nat.beq vs.ng ng then match tbl f with
    | none => none
    | some F => match vcodeS op qt fx call (tlOf F.tails) fuel F.body (pad args F.ntmps) (vs.off []) m with
      | some (.ret t vs1, m1) => match vs1.dfr, vresults T vs1 t F.results with
        | [], some _ => some (m1, vs1)
        | _, _ => none
      | some (.normal t vs1, m1) => match vs1.dfr, vresults T vs1 t F.results with
        | [], some _ => some (m1, vs1)
        | _, _ => none
      | _ => none
  else none

theorem vdcall_sound {op : OpE} {qt : QtE} {fx : FX} {tbl : Nat → Option VF} {fuel ng : Nat} {call : CallE} (hE : EngOk P op qt fx) (hT : TblOk P ng tbl) (hcall : CallOK P call) (hngc : ∀ f args vs v vs1, call f args vs = some (v, vs1) → Keeps vs vs1)
    {f : FuncId} {args : List Value} {m m1 : VM} {vs vs1 : VS} (h : vdcall T op qt fx ng tbl fuel call f args m vs = some (m1, vs1)) {args' : Array Value} {u : FrameMode} (ha : RA μ args.toArray args') (hm : RM μ m u) (hG : G N0 W0 vs W μ) :
    hasBody P f = true ∧ CallsD P f args' u W fun e u' W' => ∃ μ1 v, μ.le μ1 ∧ e = .returned v ∧ RM μ1 m1 u' ∧ G N0 W0 vs1 W' μ1 := by
  unfold vdcall at h
  simp only [Bool.cond_eq_ite] at h
  split at h
  case isFalse => cases h
  rename_i hng
  have hng := Nat.eq_of_beq_eq_true hng
  split at h
  case h_1 => cases h
  rename_i F hF
  obtain ⟨hok, fn, hfn, hb, hn, hr⟩ := hT f F hF
  refine ⟨by simp [hasBody, hfn, hb], callsD_of_wpS hfn hb fun c₀ cs hu => ?_⟩
  rw [hn]
  have hcs : c₀ :: cs = CS c₀ cs u := by subst hu; rfl
  rw [hcs]
  have hp := pad_rel (args := args.toArray) ha F.ntmps
  have fin : ∀ (t : List Value) (vs2 : VS) (e : Exit) (a' : Act) (cs' : List Frame) (w : World) (r : List Value), vresults T vs2 t F.results = some r → vs2.dfr = [] → (∃ μ1 u', μ.le μ1 ∧ cs' = CS c₀ cs u' ∧ RM μ1 m1 u' ∧ St N0 W0 μ1 t vs2 a' w) →
      a'.defers = [] ∧ ∃ u', cs' = { c₀ with mode := u' } :: cs ∧ ∃ v, (results fn a'.tmps).run P w = .ok v w ∧ ∃ μ1 v', μ.le μ1 ∧ Ending.returned v = .returned v' ∧ RM μ1 m1 u' ∧ G N0 W0 vs2 w μ1 := by
    rintro t vs2 e a' cs' w r hres hd0 ⟨μ1, u', hle, rfl, hm', μ2, hle2, ht', hG', hd'⟩
    rw [hd0] at hd'
    obtain ⟨v', h1, h2⟩ := one_run (P := P) hG' ht' (fn := fn) (by rw [hr]; exact hres)
    exact ⟨hd'.nil_iff, u', rfl, v', h1, μ2, v', Mu.le_trans hle hle2, rfl, hm'.mono hle2, hG'⟩
  split at h
  · rename_i t vs2 m2 hx
    split at h
    case h_2 => cases h
    rename_i hd0 hres
    cases h
    refine wpS_mono (vcodeS_sound hE hcall hngc (ng := ng) fuel F.body _ (vs.off []) m _ _ hok hng hx N0 W0 W μ _ u trivial hp (hG.put_off []) hm) ?_
    rintro e a' cs' w ⟨μ1, u', hle, hcs', hm', rfl, hs⟩
    exact fin t _ .ret a' cs' w _ hres hd0 ⟨μ1, u', hle, hcs', hm', hs⟩
  · rename_i t vs2 m2 hx
    split at h
    case h_2 => cases h
    rename_i hd0 hres
    cases h
    refine wpS_mono (vcodeS_sound hE hcall hngc (ng := ng) fuel F.body _ (vs.off []) m _ _ hok hng hx N0 W0 W μ _ u trivial hp (hG.put_off []) hm) ?_
    rintro e a' cs' w ⟨μ1, u', hle, hcs', hm', rfl, hs⟩
    exact fin t _ .ret a' cs' w _ hres hd0 ⟨μ1, u', hle, hcs', hm', hs⟩
  · cases h

/- The calls that were put off, and how the call then ends. -/
noncomputable def vleave (T : TE) (op : OpE) (qt : QtE) (fx : FX) (ng : Nat) (tbl : Nat → Option VF) (fuel : Nat) (call : CallE) (rs : List ResultVar) (t : List Value) : List VD → VM → VS → Option (VE × VS)
  | [], .ret, vs => match vresults T vs t rs with
    | some r => some (.ret (one r), vs)
    | none => none
  | [], .pan v, vs => some (.pan v, vs)
  | [], .got _, _ => none
  | d :: ds, m, vs => match vdcall T op qt fx ng tbl fuel call d.g (d.args ++ d.cap) m vs with
    | some (m1, vs1) => vleave T op qt fx ng tbl fuel call rs t ds (settleV m1) vs1
    | none => none
theorem RM.ne_run {m : VM} {u : FrameMode} (h : RM μ m u) : u ≠ .run := by
  cases m with
  | ret => cases h; simp
  | pan v => obtain ⟨_, _, rfl⟩ := h; simp
  | got v => obtain ⟨_, _, rfl⟩ := h; simp
theorem vleave_sound {op : OpE} {qt : QtE} {fx : FX} {tbl : Nat → Option VF} {fuel ng : Nat} {call : CallE} (hE : EngOk P op qt fx) (hT : TblOk P ng tbl) (hcall : CallOK P call) (hngc : ∀ f args vs v vs1, call f args vs = some (v, vs1) → Keeps vs vs1)
    {fn : Func} {rs : List ResultVar} (hrs : fn.results.toList = rs) {t : List Value} {tmps : Array Value} {e : VE} {vs1 : VS} {μ0 : Mu} :
    ∀ (ds : List VD) (m : VM) (vs : VS), vleave T op qt fx ng tbl fuel call rs t ds m vs = some (e, vs1) → ∀ (W : World) (μ : Mu) (u : FrameMode) (ds' : List Deferred), μ0.le μ → DR μ ds ds' → RM μ m u → RA μ t.toArray tmps → G N0 W0 vs W μ →
      Leaves P fn tmps (fun e' W' => ∃ μ1, μ0.le μ1 ∧ G N0 W0 vs1 W' μ1 ∧ REnd μ1 e e') ds' u W
  | [], m, vs, h, W, μ, u, ds', h0, hd, hm, ht, hG => by
    cases hd.nil_iff
    cases m with
    | ret =>
      cases hm
      simp only [vleave] at h
      split at h
      case h_2 => cases h
      rename_i r hres
      cases h
      obtain ⟨v', h1, h2⟩ := one_run (P := P) hG ht (fn := fn) (by rw [hrs]; exact hres)
      exact ⟨v', h1, μ, h0, hG, v', h2, rfl⟩
    | pan v =>
      obtain ⟨v', hv, rfl⟩ := hm
      simp only [vleave] at h
      cases h
      exact ⟨μ, h0, hG, v', hv, rfl⟩
    | got v => simp [vleave] at h
  | d :: ds, m, vs, h, W, μ, u, [], h0, hd, hm, ht, hG => hd.elim
  | d :: ds, m, vs, h, W, μ, u, d' :: ds', h0, hd, hm, ht, hG => by
    obtain ⟨⟨cap', htar, hcap, hargs⟩, hd⟩ := hd
    simp only [vleave] at h
    split at h
    case h_2 => cases h
    rename_i m2 vs2 hx
    have hra := hargs.append hcap
    rw [List.append_toArray] at hra
    obtain ⟨hb, hcd⟩ := vdcall_sound (T := T) (fuel := fuel) hE hT hcall hngc hx hra hm hG
    refine ⟨hm.ne_run, .func d.g, cap', d.g, d'.args ++ cap', htar, ?_, ?_⟩
    · unfold hasBody at hb
      split at hb
      case h_2 => cases hb
      rename_i f hf
      have hname : ¬ f.name = "runtime.NumGoroutine" := by simpa using hE.names d.g f hf hb
      have hnone : ¬ f.body = none := by cases h : f.body <;> simp_all
      rw [htar]
      simp [invoke, callFunc, hf, hname, hnone]
    · refine hcd.mono ?_
      rintro e' u' W' ⟨μ1, v, hle, rfl, hm', hG'⟩
      exact vleave_sound hE hT hcall hngc hrs ds (settleV m2) vs2 h W' μ1 (settle u') ds' (Mu.le_trans h0 hle) (hd.mono hle) (settle_rel hm') (ht.mono hle) hG'

noncomputable def vback (ng : Nat) (l : List VD) : Option (VE × VS) → Option (VE × VS)
  | some (e, vs) => bif Nat.beq vs.ng ng then some (e, vs.off l) else none
  | none => none
noncomputable def vcall (T : TE) (op : OpE) (qt : QtE) (fx : FX) (ng : Nat) (tbl : Nat → Option VF) (fuel : Nat) : Nat → CallE
  | 0, _, _, _ => none
  | d + 1, f, args, vs => bif Nat.beq vs.ng ng then match tbl f with
    | none => none
    | some F => match vcode op qt fx (vcall T op qt fx ng tbl fuel d) (tlOf F.tails) fuel F.body (pad args.toList F.ntmps) (vs.off []) with
      | some (.ret t vs1) => vback ng vs.dfr (vleave T op qt fx ng tbl fuel (vcall T op qt fx ng tbl fuel d) F.results t vs1.dfr .ret vs1)
      | some (.normal t vs1) => vback ng vs.dfr (vleave T op qt fx ng tbl fuel (vcall T op qt fx ng tbl fuel d) F.results t vs1.dfr .ret vs1)
      | some (.pan v t vs1) => vback ng vs.dfr (vleave T op qt fx ng tbl fuel (vcall T op qt fx ng tbl fuel d) F.results t vs1.dfr (.pan v) vs1)
      | _ => none
    else none

theorem vback_some {ng : Nat} {l : List VD} {x : Option (VE × VS)} {e : VE} {vs1 : VS} (h : vback ng l x = some (e, vs1)) : ∃ vs, x = some (e, vs) ∧ vs.ng = ng ∧ vs1 = vs.off l := by
  unfold vback at h
  split at h
  · simp only [Bool.cond_eq_ite] at h
    split at h
    · rename_i hb; cases h; exact ⟨_, rfl, Nat.eq_of_beq_eq_true hb, rfl⟩
    · cases h
  · cases h

omit [TOk P T] in
theorem vcall_ng {op : OpE} {qt : QtE} {fx : FX} {ng : Nat} {tbl : Nat → Option VF} {fuel : Nat} : ∀ (d : Nat) f args vs v vs1, vcall T op qt fx ng tbl fuel d f args vs = some (v, vs1) → Keeps vs vs1
  | 0, _, _, _, _, _, h => by simp [vcall] at h
  | d + 1, f, args, vs, v, vs1, h => by
    simp only [vcall, Bool.cond_eq_ite] at h
    split at h
    case isFalse => cases h
    rename_i hng
    have hng := Nat.eq_of_beq_eq_true hng
    split at h
    case h_1 => cases h
    split at h
    · obtain ⟨vs2, _, h2, rfl⟩ := vback_some h; exact ⟨h2.trans hng.symm, rfl⟩
    · obtain ⟨vs2, _, h2, rfl⟩ := vback_some h; exact ⟨h2.trans hng.symm, rfl⟩
    · obtain ⟨vs2, _, h2, rfl⟩ := vback_some h; exact ⟨h2.trans hng.symm, rfl⟩
    · cases h

theorem vcall_sound {op : OpE} {qt : QtE} {fx : FX} {tbl : Nat → Option VF} {fuel ng : Nat} (hE : EngOk P op qt fx) (hT : TblOk P ng tbl) : ∀ (d : Nat), CallOK P (vcall T op qt fx ng tbl fuel d)
  | 0 => fun _ _ _ _ _ h => by simp [vcall] at h
  | d + 1 => by
    intro f args vs e vs1 h N0 W0 W μ args' ha hG
    simp only [vcall, Bool.cond_eq_ite] at h
    split at h
    case isFalse => cases h
    rename_i hng
    have hng := Nat.eq_of_beq_eq_true hng
    split at h
    case h_1 => cases h
    rename_i F hF
    obtain ⟨hok, fn, hfn, hb, hn, hr⟩ := hT f F hF
    refine calls_of_wp_defers hfn hb ?_
    rw [hn]
    have hcall := vcall_sound (fuel := fuel) hE hT d
    have hngc := vcall_ng (T := T) (op := op) (qt := qt) (fx := fx) (ng := ng) (tbl := tbl) (fuel := fuel) d
    have fin : ∀ (t : List Value) (vs2 : VS) (m : VM) (u : FrameMode) (a' : Act) (w : World) (μ1 : Mu), vback ng vs.dfr (vleave T op qt fx ng tbl fuel (vcall T op qt fx ng tbl fuel d) F.results t vs2.dfr m vs2) = some (e, vs1) →
        μ.le μ1 → RM μ1 m u → RA μ1 t.toArray a'.tmps → G N0 W0 vs2 w μ1 → DR μ1 vs2.dfr a'.defers → Leaves P fn a'.tmps (fun e' W' => ∃ μ1, μ.le μ1 ∧ G N0 W0 vs1 W' μ1 ∧ REnd μ1 e e') a'.defers u w := by
      intro t vs2 m u a' w μ1 h hle hm ht hG hd
      obtain ⟨vs3, h1, _, rfl⟩ := vback_some h
      have key := vleave_sound (μ0 := μ) hE hT hcall hngc hr vs2.dfr m vs2 h1 w μ1 u a'.defers hle hd hm ht hG
      exact leaves_mono (fun e' W' h => let ⟨m, q1, q2, q3⟩ := h; ⟨m, q1, q2.put_off _, q3⟩) a'.defers u w key
    split at h
    · rename_i t vs2 hx
      refine wp_mono (wp_of_wpL (vcode_sound hE hcall hngc (ng := ng) fuel F.body _ (vs.off []) _ hok hng hx N0 W0 W μ _ trivial (pad_rel ha F.ntmps) (hG.put_off []))) ?_
      rintro e a' w ⟨rfl, μ1, hle, ht', hG', hd'⟩
      exact fin t _ .ret .returning a' w μ1 h hle rfl ht' hG' hd'
    · rename_i t vs2 hx
      refine wp_mono (wp_of_wpL (vcode_sound hE hcall hngc (ng := ng) fuel F.body _ (vs.off []) _ hok hng hx N0 W0 W μ _ trivial (pad_rel ha F.ntmps) (hG.put_off []))) ?_
      rintro e a' w ⟨rfl, μ1, hle, ht', hG', hd'⟩
      exact fin t _ .ret .returning a' w μ1 h hle rfl ht' hG' hd'
    · rename_i v t vs2 hx
      refine wp_mono (wp_of_wpL (vcode_sound hE hcall hngc (ng := ng) fuel F.body _ (vs.off []) _ hok hng hx N0 W0 W μ _ trivial (pad_rel ha F.ntmps) (hG.put_off []))) ?_
      rintro e a' w ⟨μ1, v', hle, rfl, hv, ht', hG', hd'⟩
      exact fin t _ (.pan v) (.panicking (panicked v')) a' w μ1 h hle ⟨v', hv, rfl⟩ ht' hG' hd'
    · cases h

end Go.Ev
