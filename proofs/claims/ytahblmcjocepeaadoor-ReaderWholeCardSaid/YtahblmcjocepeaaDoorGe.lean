/-
  The evaluator on regions that draw their order: single operations.
-/
import Derived.Test.YtahblmcjocepeaaDoorGd
import Derived.Test.YtahblmcjocepeaaDoorGb
namespace Go.Ev
open Go.RowKit
variable [Base]

variable {P : Program} {T : TE} [TOk P T] {N0 : Nat → Prop} {W0 W : World} {vs : VS} {μ : Mu}

/- All that is there now can only be read. -/
def lockL : List (Nat × VB) → List (Nat × VB)
  | [] => []
  | (i, b) :: l => (i, { b with rw := false, tail := false }) :: lockL l
def lockO : List (Nat × VOb) → List (Nat × VOb)
  | [] => []
  | (i, b) :: l => (i, { b with rw := false }) :: lockO l
def VS.lock (vs : VS) : VS := { vs with heap := lockL vs.heap, objs := lockO vs.objs }
omit [Base] in
theorem lockO_mem : ∀ {l : List (Nat × VOb)} {i : Nat} {b : VOb}, (i, b) ∈ lockO l → ∃ b', (i, b') ∈ l ∧ b = { b' with rw := false }
  | (j, c) :: l, i, b, h => by
    rcases List.mem_cons.1 h with e | h
    · cases e; exact ⟨c, by simp, rfl⟩
    · obtain ⟨b', h1, h2⟩ := lockO_mem h
      exact ⟨b', List.mem_cons_of_mem _ h1, h2⟩
omit [Base] in
theorem lockL_mem : ∀ {l : List (Nat × VB)} {i : Nat} {b : VB}, (i, b) ∈ lockL l → ∃ b', (i, b') ∈ l ∧ b = { b' with rw := false, tail := false }
  | (j, c) :: l, i, b, h => by
    rcases List.mem_cons.1 h with e | h
    · cases e; exact ⟨c, by simp, rfl⟩
    · obtain ⟨b', h1, h2⟩ := lockL_mem h
      exact ⟨b', List.mem_cons_of_mem _ h1, h2⟩
theorem G.lock (h : G N0 W0 vs W μ) : G (old W) W vs.lock W μ := by
  refine ⟨Kept.refl _ _, fun _ hk => hk, h.fresh, h.globs, h.glo, ?_, ?_, ?_, Base.keep h.below h.start h.base⟩
  · intro id B hm
    obtain ⟨B', h1, rfl⟩ := lockL_mem hm
    obtain ⟨l, c, z, e1, L⟩ := h.blocks id B' h1
    exact ⟨l, c, z, e1, ⟨L.at_, (fun x => by simp at x), L.len, L.esz, L.room, L.fixed, L.whole, (fun x => by simp at x), L.cells⟩⟩
  · intro id B id' B' hm hm' hf
    obtain ⟨C, h1, rfl⟩ := lockL_mem hm
    obtain ⟨C', h1', rfl⟩ := lockL_mem hm'
    exact h.apart id C id' C' h1 h1' hf
  · refine ⟨fun id O hm => ?_, fun id O id' O' hm hm' hne => ?_⟩
    · obtain ⟨O', h1, rfl⟩ := lockO_mem hm
      obtain ⟨l, o, e1, e2, e3, _, e5⟩ := h.objs.at_ id O' h1
      exact ⟨l, o, e1, e2, e3, (fun x => by simp at x), e5⟩
    · obtain ⟨C, h1, rfl⟩ := lockO_mem hm
      obtain ⟨C', h1', rfl⟩ := lockO_mem hm'
      exact h.objs.apart id C id' C' h1 h1' hne

/- A value that speaks of blocks of this memory alone. -/
def hasId (vs : VS) (b : Nat) : Bool := bif Nat.blt b vs.ng then true else (find vs.heap b).isSome
def hasO (l : List (Nat × VOb)) (b : Nat) : Bool :=
  match l with
  | [] => false
  | (i, _) :: l => bif Nat.beq i b then true else hasO l b
mutual
def knownB (vs : VS) : Value → Bool
  | .bool _ | .int _ _ | .float _ _ | .complex _ _ _ | .string _ | .nilFunc | .nilIface => true
  | .pointer a => match a with
    | some a => hasId vs a.block
    | none => true
  | .slice a _ _ => match a with
    | some a => hasId vs a.block
    | none => true
  | .map r => match r with
    | some r => hasO vs.objs r
    | none => true
  | .chan _ => false
  | .func _ a b => knownA vs a && knownA vs b
  | .iface _ v => knownB vs v
  | .agg a => knownA vs a
  | .tuple a => knownA vs a
def knownA (vs : VS) : Array Value → Bool
  | ⟨l⟩ => knownL vs l
def knownL (vs : VS) : List Value → Bool
  | [] => true
  | v :: l => knownB vs v && knownL vs l
end
omit [Base] in
theorem knownL_get : ∀ {l : List Value} {i : Nat} {x : Value}, knownL vs l = true → l[i]? = some x → knownB vs x = true
  | v :: l, 0, x, h, hx => by simp [knownL] at h; simp at hx; exact hx ▸ h.1
  | v :: l, i + 1, x, h, hx => by simp [knownL] at h; simp at hx; exact knownL_get h.2 hx
omit [Base] in
theorem knownA_get {a : Array Value} {i : Nat} {x : Value} (h : knownA vs a = true) (hx : a[i]? = some x) : knownB vs x = true := by
  obtain ⟨l⟩ := a
  exact knownL_get (l := l) (by simpa [knownA] using h) (by simpa using hx)
theorem hasId_mu (hG : G N0 W0 vs W μ) {b : Nat} (h : hasId vs b = true) : ∃ l, μ b = some l := by
  unfold hasId at h
  simp only [Bool.cond_eq_ite] at h
  split at h
  · rename_i hb
    obtain ⟨l, h1, _⟩ := hG.glo b (by simpa using hb)
    exact ⟨l, h1⟩
  · obtain ⟨B, hB⟩ := Option.isSome_iff_exists.1 h
    obtain ⟨l, _, _, h1, _⟩ := hG.blocks _ _ (find_mem hB)
    exact ⟨l, h1⟩
omit [Base] in
theorem hasO_mem : ∀ {l : List (Nat × VOb)} {b : Nat}, hasO l b = true → ∃ O, (b, O) ∈ l
  | (i, O) :: l, b, h => by
    simp only [hasO, Bool.cond_eq_ite] at h
    split at h
    · rename_i hb; rw [Nat.eq_of_beq_eq_true hb]; exact ⟨O, by simp⟩
    · obtain ⟨O', h1⟩ := hasO_mem h; exact ⟨O', List.mem_cons_of_mem _ h1⟩
theorem known_rel (hG : G N0 W0 vs W μ) {ν : Mu} (hle : μ.le ν) {v v' : Value} (h : R ν v v') : knownB vs v = true → R μ v v' := by
  have hid : ∀ {b : Nat} {l : Loc}, hasId vs b = true → ν b = some l → μ b = some l := fun {b l} h1 h2 => by
    obtain ⟨m, hm⟩ := hasId_mu hG h1
    rw [hle _ _ hm] at h2; cases h2; exact hm
  induction h with
  | bool b => exact fun _ => .bool b
  | int k n => exact fun _ => .int k n
  | float k n => exact fun _ => .float k n
  | complex k a b => exact fun _ => .complex k a b
  | string s => exact fun _ => .string s
  | nilptr => exact fun _ => .nilptr
  | ptr a l h => exact fun hk => .ptr a l (hid (by simpa [knownB] using hk) h)
  | nilslice n c => exact fun _ => .nilslice n c
  | slice a l n c h hx => exact fun hk => .slice a l n c (hid (by simpa [knownB] using hk) h) hx
  | nilmap => exact fun _ => .nilmap
  | map r l h =>
    intro hk
    obtain ⟨O, hO⟩ := hasO_mem (by simpa [knownB] using hk)
    obtain ⟨m, _, hm, _⟩ := hG.objs.at_ _ _ hO
    rw [hle _ _ hm] at h; cases h
    exact .map r _ hm
  | nilFunc => exact fun _ => .nilFunc
  | nilIface => exact fun _ => .nilIface
  | func fn a b a' b' ha hb _ _ ia ib =>
    intro hk
    simp only [knownB, Bool.and_eq_true] at hk
    exact .func fn a b a' b' ha hb (fun i x y hx hy => ia i x y hx hy (knownA_get hk.1 hx)) (fun i x y hx hy => ib i x y hx hy (knownA_get hk.2 hx))
  | iface t v v' _ ih => exact fun hk => .iface t v v' (ih (by simpa [knownB] using hk))
  | agg a a' ha _ ia => exact fun hk => .agg a a' ha (fun i x y hx hy => ia i x y hx hy (knownA_get (by simpa [knownB] using hk) hx))
  | tuple a a' ha _ ia => exact fun hk => .tuple a a' ha (fun i x y hx hy => ia i x y hx hy (knownA_get (by simpa [knownB] using hk) hx))

/- A region that draws: every operation leaves memory alone. -/
noncomputable def vquiets (qt : QtE) (call : CallE) (ops : List Oper) : List Oper → List Value → VS → Option (List Value)
  | [], t, _ => some t
  | o :: rest, t, vs =>
    bif vwanted ops t o then
      match qt vs (vev t) o with
      | some (.value v) => vquiets qt call ops rest (vput t o.dst v) vs
      | some .skip => vquiets qt call ops rest (vput t o.dst undef) vs
      | some (.enter f args) => match call f args vs.lock with
        | some (.ret v, _) => bif knownB vs v then vquiets qt call ops rest (vput t o.dst v) vs else none
        | _ => none
      | _ => none
    else vquiets qt call ops rest (vput t o.dst undef) vs

theorem vquiets_sound {qt : QtE} {call : CallE} (hqt : ∀ vs ρ o n, qt vs ρ o = some n → Sound P vs ρ o n) (hcall : CallOK P call) (ops : Array Oper) {ng : Nat} {Q : Act → Prop} :
    ∀ (l : List Oper) (t : List Value) (t1 : List Value), (∀ o ∈ l, ∀ x ∈ o.op.operands, okOperand ng x = true) → vs.ng = ng → vquiets qt call ops.toList l t vs = some t1 →
      ∀ (a : Act), DR μ vs.dfr a.defers → RA μ t.toArray a.tmps → G N0 W0 vs W μ → (∀ a' : Act, DR μ vs.dfr a'.defers → RA μ t1.toArray a'.tmps → Q a') → wpQuiet P ops (fun w => G N0 W0 vs w μ) Q l a
  | [], t, t1, _, _, h, a, hd, ht, hG, hQ => by
    simp only [vquiets] at h
    cases h
    exact hQ a hd ht
  | o :: rest, t, t1, hok, hng, h, a, hd, ht, hG, hQ => by
    have hok' : ∀ o' ∈ rest, ∀ x ∈ o'.op.operands, okOperand ng x = true := fun o' h' => hok o' (List.mem_cons_of_mem _ h')
    simp only [wpQuiet]
    rw [wanted_rel ht]
    simp only [vquiets, Bool.cond_eq_ite] at h
    split at h
    · rename_i hw
      rw [if_pos hw]
      cases hx : qt vs (vev t) o with
      | none => rw [hx] at h; cases h
      | some n =>
        rw [hx] at h
        have hs := hqt _ _ _ _ hx
        have hev : ∀ w, G N0 W0 vs w μ → ∃ n', (execOp a.eval o).run P w = .ok n' w ∧ RN μ n n' := fun w hw => hs N0 W0 w μ a.eval hw (fun x hx => ev_rel hw ht (by rw [hng]; exact hok o (by simp) x hx))
        cases n with
        | value v =>
          obtain ⟨n', _, hn⟩ := hev W hG
          cases n' with
          | value v' => ?_
          | _ => exact hn.elim
          simp only [RN] at hn
          refine ⟨v', fun w hw => ?_, vquiets_sound hqt hcall ops rest _ _ hok' hng h _ (by rw [put_defers]; exact hd) (put_rel ht hn o.dst) hG hQ⟩
          obtain ⟨m', hr, hm⟩ := hev w hw
          cases m' <;> simp only [RN] at hm
          unfold Oper.quietAt
          rw [hr]
          exact ⟨rfl, hm.fn hn⟩
        | skip =>
          refine ⟨undef, fun w hw => ?_, vquiets_sound hqt hcall ops rest _ _ hok' hng h _ (by rw [put_defers]; exact hd) (put_rel ht R_undef o.dst) hG hQ⟩
          obtain ⟨m', hr, hm⟩ := hev w hw
          cases m' <;> simp only [RN] at hm
          unfold Oper.quietAt
          rw [hr]
          exact ⟨rfl, rfl⟩
        | enter f args =>
          simp only at h
          cases hc : call f args vs.lock with
          | none => rw [hc] at h; cases h
          | some r =>
            obtain ⟨v, vs3⟩ := r
            rw [hc] at h
            cases v with
            | pan v => cases h
            | ret v => ?_
            simp only at h
            split at h
            case isFalse => cases h
            rename_i hp
            have one : ∀ w, G N0 W0 vs w μ → ∃ f' args', (execOp a.eval o).run P w = .ok (.enter f' args') w ∧ Calls P f' args' w (fun e w' => ∃ v', R μ v v' ∧ e = .returned v' ∧ G N0 W0 vs w' μ) := fun w hw => by
              obtain ⟨m', hr, hm⟩ := hev w hw
              cases m' <;> simp only [RN] at hm
              obtain ⟨rfl, hargs⟩ := hm
              refine ⟨_, _, hr, (hcall _ _ _ _ _ hc (old w) w w μ _ hargs hw.lock).mono ?_⟩
              rintro e W' ⟨μ1, hle1, hG', v', hv, rfl⟩
              exact ⟨v', known_rel hw hle1 hv hp, rfl, hw.world hG'.below⟩
            obtain ⟨f0, args0, _, hc0⟩ := one W hG
            obtain ⟨_, _, _, ⟨v', hv', _, _⟩, _⟩ := hc0 []
            refine ⟨v', fun w hw => ?_, vquiets_sound hqt hcall ops rest _ _ hok' hng h _ (by rw [put_defers]; exact hd) (put_rel ht hv' o.dst) hG hQ⟩
            obtain ⟨f1, args1, hr1, hc1⟩ := one w hw
            unfold Oper.quietAt
            rw [hr1]
            refine ⟨rfl, hc1.mono ?_⟩
            rintro e W' ⟨v'', hv'', rfl, hG''⟩
            exact ⟨by rw [hv''.fn hv'], hG''⟩
        | defer g cap args => cases h
    · rename_i hw
      rw [if_neg hw]
      exact vquiets_sound hqt hcall ops rest _ _ hok' hng h _ (by rw [put_defers]; exact hd) (put_rel ht R_undef o.dst) hG hQ


/- The same value. -/
def aeq (a b : Addr) : Bool := Nat.beq a.block b.block && Nat.beq a.off b.off && a.spot.isNone && b.spot.isNone
omit [Base] in
theorem aeq_eq {a b : Addr} (h : aeq a b = true) : a = b := by
  simp only [aeq, Bool.and_eq_true, Nat.beq_eq, Option.isNone_iff_eq_none] at h
  obtain ⟨a1, a2, a3⟩ := a
  obtain ⟨b1, b2, b3⟩ := b
  simp_all
mutual
def veq : Value → Value → Bool
  | .bool a, .bool b => a == b
  | .int k a, .int j b => (k == j) && ieq a b
  | .string a, .string b => beqL a.data.toList b.data.toList
  | .pointer none, .pointer none => true
  | .pointer (some a), .pointer (some b) => aeq a b
  | .slice none m c, .slice none m' c' => Nat.beq m m' && Nat.beq c c'
  | .slice (some a) m c, .slice (some b) m' c' => aeq a b && Nat.beq m m' && Nat.beq c c'
  | .map none, .map none => true
  | .map (some a), .map (some b) => Nat.beq a b
  | .nilFunc, .nilFunc => true
  | .nilIface, .nilIface => true
  | .iface t v, .iface u w => Nat.beq t u && veq v w
  | .agg a, .agg b => veqA a b
  | .tuple a, .tuple b => veqA a b
  | .func (.func f) a b, .func (.func g) c d => Nat.beq f g && veqA a c && veqA b d
  | _, _ => false
def veqA : Array Value → Array Value → Bool
  | ⟨a⟩, ⟨b⟩ => veqL a b
def veqL : List Value → List Value → Bool
  | [], [] => true
  | x :: a, y :: b => veq x y && veqL a b
  | _, _ => false
end
omit [Base] in
mutual
theorem veq_eq : ∀ (a b : Value), veq a b = true → a = b
  | .bool a, b, h => by cases b <;> simp_all [veq]
  | .int k a, b, h => by cases b <;> simp_all [veq, ieq_eq]
  | .float _ _, b, h => by cases b <;> simp [veq] at h
  | .complex _ _ _, b, h => by cases b <;> simp [veq] at h
  | .string a, b, h => by
    cases b <;> first | (simp [veq] at h; done) | skip
    rename_i b
    simp only [veq] at h
    rw [beqL_eq, beq_iff_eq] at h
    obtain ⟨⟨a⟩⟩ := a
    obtain ⟨⟨b⟩⟩ := b
    simp only at h
    rw [h]
  | .pointer none, b, h => by
    cases b <;> first | (simp [veq] at h; done) | skip
    rename_i a
    cases a <;> first | (simp [veq] at h; done) | rfl
  | .pointer (some a), b, h => by
    cases b <;> first | (simp [veq] at h; done) | skip
    rename_i b
    cases b with
    | none => simp [veq] at h
    | some b => simp only [veq] at h; rw [aeq_eq h]
  | .slice none m c, b, h => by
    cases b <;> first | (simp [veq] at h; done) | skip
    rename_i b _ _
    cases b with
    | some b => simp [veq] at h
    | none => simp only [veq, Bool.and_eq_true, Nat.beq_eq] at h; rw [h.1, h.2]
  | .slice (some a) m c, b, h => by
    cases b <;> first | (simp [veq] at h; done) | skip
    rename_i b _ _
    cases b with
    | none => simp [veq] at h
    | some b =>
      simp only [veq, Bool.and_eq_true, Nat.beq_eq] at h
      rw [aeq_eq h.1.1, h.1.2, h.2]
  | .map none, b, h => by
    cases b <;> first | (simp [veq] at h; done) | skip
    rename_i a
    cases a <;> first | (simp [veq] at h; done) | rfl
  | .map (some a), b, h => by
    cases b <;> first | (simp [veq] at h; done) | skip
    rename_i b
    cases b with
    | none => simp [veq] at h
    | some b => simp only [veq, Nat.beq_eq] at h; rw [h]
  | .chan _, b, h => by cases b <;> simp [veq] at h
  | .nilFunc, b, h => by cases b <;> first | (simp [veq] at h; done) | rfl
  | .nilIface, b, h => by cases b <;> first | (simp [veq] at h; done) | rfl
  | .iface t v, b, h => by
    cases b <;> first | (simp [veq] at h; done) | skip
    rename_i u w
    simp only [veq, Bool.and_eq_true, Nat.beq_eq] at h
    rw [h.1, veq_eq v w h.2]
  | .agg a, b, h => by
    cases b <;> first | (simp [veq] at h; done) | skip
    simp only [veq] at h
    rw [veqA_eq a _ h]
  | .tuple a, b, h => by
    cases b <;> first | (simp [veq] at h; done) | skip
    simp only [veq] at h
    rw [veqA_eq a _ h]
  | .func f a b, c, h => by
    cases f <;> first | (simp [veq] at h; done) | skip
    cases c <;> first | (simp [veq] at h; done) | skip
    rename_i f g c d
    cases g <;> first | (simp [veq] at h; done) | skip
    simp only [veq, Bool.and_eq_true, Nat.beq_eq] at h
    rw [h.1.1, veqA_eq a _ h.1.2, veqA_eq b _ h.2]
theorem veqA_eq : ∀ (a b : Array Value), veqA a b = true → a = b
  | ⟨a⟩, ⟨b⟩, h => by rw [veqL_eq a b (by simpa [veqA] using h)]
theorem veqL_eq : ∀ (a b : List Value), veqL a b = true → a = b
  | [], [], _ => rfl
  | [], _ :: _, h => by simp [veqL] at h
  | _ :: _, [], h => by simp [veqL] at h
  | x :: a, y :: b, h => by
    simp only [veqL, Bool.and_eq_true] at h
    rw [veq_eq x y h.1, veqL_eq a b h.2]
end


/- What an operation yields that leaves memory alone; what one yields that does not. -/
noncomputable def qval (qt : QtE) (call : CallE) (vs : VS) (t : List Value) (o : Oper) : Option Value :=
  match qt vs (vev t) o with
  | some (.value v) => some v
  | some .skip => some undef
  | some (.enter f args) => match call f args vs.lock with
    | some (.ret v, _) => bif knownB vs v then some v else none
    | _ => none
  | _ => none
noncomputable def eval1 (op : OpE) (call : CallE) (vs : VS) (t : List Value) (o : Oper) : Option (Value × VS) :=
  match op vs (vev t) o with
  | some (.value v, vs1) => some (v, vs1)
  | some (.skip, vs1) => some (undef, vs1)
  | some (.enter f args, vs1) => match call f args vs1 with
    | some (.ret v, vs2) => some (v, vs2)
    | _ => none
  | _ => none

def uponB (P : Program) (B : Value → World → Prop) : Result Next → Prop
  | .ok (.value u) w' => B u w'
  | .ok .skip w' => B undef w'
  | .ok (.enter f args) w' => Calls P f args w' fun e w'' => ∃ u, e = .returned u ∧ B u w''
  | _ => False
omit [Base] in
theorem wp_of_uponB {B : Value → World → Prop} {o : Oper} {a : Act} {w : World} {K : Act → World → Prop} {Q' : Exit → Act → World → Prop} (h : uponB P B ((execOp a.eval o).run P w)) (hK : ∀ u w', B u w' → K (a.put o.dst u) w') : o.wp P a w K Q' := by
  unfold Oper.wp
  generalize (execOp a.eval o).run P w = r at *
  cases r with
  | ok n w' =>
    cases n <;> simp only [uponB] at h <;> simp only [Oper.upon]
    case value u => exact hK _ _ h
    case skip => exact hK _ _ h
    case enter f args =>
      refine h.mono ?_
      rintro e w'' ⟨u, rfl, hb⟩
      exact hK _ _ hb
  | halt x w' => simp only [uponB] at h

theorem qval_run {qt : QtE} {call : CallE} (hqt : ∀ vs ρ o n, qt vs ρ o = some n → Sound P vs ρ o n) (hcall : CallOK P call) {t : List Value} {o : Oper} {v : Value} (h : qval qt call vs t o = some v)
    {ν : Mu} {w : World} (hG : G N0 W0 vs w ν) {a : Act} (hrel : ∀ x ∈ o.op.operands, R ν (vev t x) (a.eval x)) :
    uponB P (fun u w' => R ν v u ∧ G N0 W0 vs w' ν) ((execOp a.eval o).run P w) := by
  unfold qval at h
  split at h
  · rename_i u hx
    cases h
    obtain ⟨n', hr, hn⟩ := hqt _ _ _ _ hx N0 W0 w ν a.eval hG hrel
    cases n' <;> simp only [RN] at hn
    rw [hr]; exact ⟨hn, hG⟩
  · rename_i hx
    cases h
    obtain ⟨n', hr, hn⟩ := hqt _ _ _ _ hx N0 W0 w ν a.eval hG hrel
    cases n' <;> simp only [RN] at hn
    rw [hr]; exact ⟨R_undef, hG⟩
  · rename_i f args hx
    split at h
    case h_2 => cases h
    rename_i u _ hc
    simp only [Bool.cond_eq_ite] at h
    split at h
    case isFalse => cases h
    rename_i hk
    cases h
    obtain ⟨n', hr, hn⟩ := hqt _ _ _ _ hx N0 W0 w ν a.eval hG hrel
    cases n' <;> simp only [RN] at hn
    obtain ⟨rfl, hargs⟩ := hn
    rw [hr]
    refine (hcall _ _ _ _ _ hc (old w) w w ν _ hargs hG.lock).mono ?_
    rintro e W' ⟨μ1, hle1, hG', v', hv, rfl⟩
    exact ⟨v', rfl, known_rel hG hle1 hv hk, hG.world hG'.below⟩
  · cases h

theorem eval1_run {op : OpE} {call : CallE} (hop : ∀ vs ρ o n vs1, op vs ρ o = some (n, vs1) → SoundM P vs ρ o n vs1) (hcall : CallOK P call) {vs1 : VS} {t : List Value} {o : Oper} {v : Value} (h : eval1 op call vs t o = some (v, vs1))
    {ν : Mu} {w : World} (hG : G N0 W0 vs w ν) {a : Act} (hrel : ∀ x ∈ o.op.operands, R ν (vev t x) (a.eval x)) :
    uponB P (fun u w' => ∃ ν', ν.le ν' ∧ R ν' v u ∧ G N0 W0 vs1 w' ν') ((execOp a.eval o).run P w) := by
  unfold eval1 at h
  split at h
  · rename_i u vs2 hx
    cases h
    obtain ⟨ν1, w1, n', hle1, hG1, hr, hn⟩ := hop _ _ _ _ _ hx N0 W0 w ν a.eval hG hrel
    cases n' <;> simp only [RN] at hn
    rw [hr]; exact ⟨ν1, hle1, hn, hG1⟩
  · rename_i vs2 hx
    cases h
    obtain ⟨ν1, w1, n', hle1, hG1, hr, hn⟩ := hop _ _ _ _ _ hx N0 W0 w ν a.eval hG hrel
    cases n' <;> simp only [RN] at hn
    rw [hr]; exact ⟨ν1, hle1, R_undef, hG1⟩
  · rename_i f args vs2 hx
    split at h
    case h_2 => cases h
    rename_i u vs3 hc
    cases h
    obtain ⟨ν1, w1, n', hle1, hG1, hr, hn⟩ := hop _ _ _ _ _ hx N0 W0 w ν a.eval hG hrel
    cases n' <;> simp only [RN] at hn
    obtain ⟨rfl, hargs⟩ := hn
    rw [hr]
    refine (hcall _ _ _ _ _ hc N0 W0 w1 ν1 _ hargs hG1).mono ?_
    rintro e W' ⟨μ1, hle2, hG', v', hv, rfl⟩
    exact ⟨v', rfl, μ1, Mu.le_trans hle1 hle2, hv, hG'⟩
  · cases h

/- What is laid down of single operations: rows of constants; appending such a row; stores that may come in either order. -/
structure FX where
  flt : Oper → Option (List Value × Nat)
  apc : VS → (Operand → Value) → Oper → Nat → List Value → Option (Value × VS)
  cm : VS → (Operand → Value) → Oper → (Operand → Value) → Oper → Bool
def VS.bump (vs : VS) : VS := { heap := vs.heap, next := vs.next + 1, ng := vs.ng, objs := vs.objs, dfr := vs.dfr }
def rowV (z k : Nat) : Value := .slice (some ⟨z, 0, none⟩) k k

/- The same in all other phases that the operation may meet. -/
noncomputable def others (qt : QtE) (call : CallE) (t : List Value) (o : Oper) (v : Value) (tr : List (Nat × Nat)) (q : Nat) : Nat → List VS → Bool
  | _, [] => true
  | p, s :: l => (bif memP p p tr && !(Nat.beq p q) then
      (match qval qt call s t o with
        | some u => veq u v
        | none => false)
      else true) && others qt call t o v tr q (p + 1) l
omit [Base] in
theorem others_at {qt : QtE} {call : CallE} {t : List Value} {o : Oper} {v : Value} {tr : List (Nat × Nat)} {q : Nat} : ∀ (l : List VS) (p : Nat), others qt call t o v tr q p l = true →
    ∀ j s, l[j]? = some s → memP (p + j) (p + j) tr = true → p + j ≠ q → qval qt call s t o = some v
  | s :: l, p, h, 0, s', hs, h1, h3 => by
    simp only [List.getElem?_cons_zero, Option.some.injEq] at hs
    subst hs
    simp only [Nat.add_zero] at h1 h3
    simp only [others, Bool.and_eq_true, Bool.cond_eq_ite] at h
    have hc : memP p p tr = true ∧ (!Nat.beq p q) = true := ⟨h1, by
      cases hb : Nat.beq p q with
      | false => rfl
      | true => exact absurd (Nat.eq_of_beq_eq_true hb) (by omega)⟩
    have h := h.1
    rw [if_pos hc] at h
    split at h
    · rename_i u hu; rw [hu, veq_eq _ _ h]
    · cases h
  | s :: l, p, h, j + 1, s', hs, h1, h3 => by
    simp only [others, Bool.and_eq_true] at h
    exact others_at l (p + 1) h.2 j s' (by simpa using hs) (by rw [show p + 1 + j = p + (j + 1) by omega]; exact h1) (by omega)
def revApp : List VS → List VS → List VS
  | [], l => l
  | x :: h, l => revApp h (x :: l)
omit [Base] in
theorem revApp_get : ∀ (h l : List VS) (j : Nat) (s : VS), l[j]? = some s → (revApp h l)[h.length + j]? = some s
  | [], l, j, s, hs => by simpa [revApp] using hs
  | x :: h, l, j, s, hs => by
    simp only [revApp, List.length_cons]
    have := revApp_get h (x :: l) (j + 1) s (by simpa using hs)
    rw [show h.length + 1 + j = h.length + (j + 1) by omega]
    exact this
omit [Base] in
theorem revApp_app : ∀ (h l r : List VS), revApp h (l ++ r) = revApp h l ++ r
  | [], _, _ => rfl
  | x :: h, l, r => by simp only [revApp]; rw [← List.cons_append]; exact revApp_app h (x :: l) r

def isFst (x : Option (Nat × Nat)) (i : Nat) : Bool :=
  match x with
  | some (a, _) => Nat.beq a i
  | none => false
def isSnd (x : Option (Nat × Nat)) (i : Nat) : Bool :=
  match x with
  | some (a, b) => Nat.beq b i && Nat.blt a b
  | none => false
def trIs (a b : Nat) : List (Nat × Nat) → Bool
  | [] => true
  | (x, y) :: l => Nat.beq x a && Nat.beq y b && trIs a b l
def trIs2 (a b c d : Nat) : List (Nat × Nat) → Bool
  | [] => true
  | (x, y) :: l => ((Nat.beq x a && Nat.beq y b) || (Nat.beq x c && Nat.beq y d)) && trIs2 a b c d l
def trLoop : List (Nat × Nat) → Bool
  | [] => true
  | (x, y) :: l => Nat.beq x y && trLoop l
omit [Base] in
theorem trIs_mem {a b p q : Nat} : ∀ {l : List (Nat × Nat)}, trIs a b l = true → memP p q l = true → p = a ∧ q = b
  | (x, y) :: l, h, hm => by
    simp only [trIs, Bool.and_eq_true, Nat.beq_eq] at h
    simp only [memP, Bool.cond_eq_ite] at hm
    split at hm
    · rename_i hb
      simp only [Bool.and_eq_true, Nat.beq_eq] at hb
      omega
    · exact trIs_mem h.2 hm
omit [Base] in
theorem trIs2_mem {a b c d p q : Nat} : ∀ {l : List (Nat × Nat)}, trIs2 a b c d l = true → memP p q l = true → (p = a ∧ q = b) ∨ (p = c ∧ q = d)
  | (x, y) :: l, h, hm => by
    simp only [trIs2, Bool.and_eq_true, Bool.or_eq_true, Nat.beq_eq] at h
    simp only [memP, Bool.cond_eq_ite] at hm
    split at hm
    · rename_i hb
      simp only [Bool.and_eq_true, Nat.beq_eq] at hb
      omega
    · exact trIs2_mem h.2 hm
omit [Base] in
theorem trLoop_mem {p q : Nat} : ∀ {l : List (Nat × Nat)}, trLoop l = true → memP p q l = true → p = q
  | (x, y) :: l, h, hm => by
    simp only [trLoop, Bool.and_eq_true, Nat.beq_eq] at h
    simp only [memP, Bool.cond_eq_ite] at hm
    split at hm
    · rename_i hb
      simp only [Bool.and_eq_true, Nat.beq_eq] at hb
      omega
    · exact trLoop_mem h.2 hm

abbrev Pend := Nat × List Value × Nat
noncomputable def vhead (op : OpE) (qt : QtE) (fx : FX) (call : CallE) (ops : List Oper) (rs : RS) : Nat → List Oper → List Value → List VS → VS → Option Pend → Option (Oper × List Value) → Option (List Value × List VS × List VS)
  | _, [], t, _, cur, none, none => some (t, [cur], [])
  | _, [], _, _, _, _, _ => none
  | i, o :: rest, t, hist, cur, pend, mk =>
    bif isFst rs.flt i then
      match o.guard, fx.flt o, o.dst, pend with
      | none, some (cs, k), some d, none => bif trLoop (trOf rs i) then vhead op qt fx call ops rs (i + 1) rest t hist cur (some (d, cs, k)) mk else none
      | _, _, _, _ => none
    else bif isSnd rs.flt i then
      match o.guard, pend, mk with
      | none, some (d, cs, k), none =>
        bif trIs hist.length (hist.length + 1) (trOf rs i) then
          match fx.apc cur.bump (vev (vput t (some d) (rowV cur.next k))) o k cs with
          | some (v, s1) => match vhead op qt fx call ops rs (i + 1) rest (vput (vput t (some d) (rowV cur.next k)) o.dst v) (cur :: hist) s1 none none with
            | some (t1, fs, ex) => some (t1, cur :: fs, ex)
            | none => none
          | none => none
        else none
      | _, _, _ => none
    else bif isFst rs.cm i then
      match o.guard, mk, op cur (vev t) o with
      | none, none, some (.skip, s1) =>
        bif trIs2 hist.length (hist.length + 1) (hist.length + 3) (hist.length + 2) (trOf rs i) then
          match vhead op qt fx call ops rs (i + 1) rest (vput t o.dst undef) (cur :: hist) s1 pend (some (o, t)) with
          | some (t1, fs, ex) => some (t1, cur :: fs, ex)
          | none => none
        else none
      | _, _, _ => none
    else bif isSnd rs.cm i then
      match o.guard, mk, hist, rest, pend with
      | none, some (oi, ti), h :: _, [], none => match op cur (vev t) o, op h (vev t) o with
        | some (.skip, s1), some (.skip, sx) =>
          bif fx.cm h (vev ti) oi (vev t) o && trIs2 hist.length (hist.length + 1) (hist.length - 1) (hist.length + 2) (trOf rs i) then some (vput t o.dst undef, [cur, s1], [sx]) else none
        | _, _ => none
      | _, _, _, _, _ => none
    else bif memN i rs.eff then
      match mk with
      | none => bif trIs hist.length (hist.length + 1) (trOf rs i) then
          bif vwanted ops t o then
            match eval1 op call cur t o with
            | some (v, vs1) => match vhead op qt fx call ops rs (i + 1) rest (vput t o.dst v) (cur :: hist) vs1 pend none with
              | some (t1, fs, ex) => some (t1, cur :: fs, ex)
              | none => none
            | none => none
          else match vhead op qt fx call ops rs (i + 1) rest (vput t o.dst undef) (cur :: hist) cur pend none with
            | some (t1, fs, ex) => some (t1, cur :: fs, ex)
            | none => none
        else none
      | some _ => none
    else bif trLoop (trOf rs i) then
      bif vwanted ops t o then
        match qval qt call cur t o with
        | some v => match vhead op qt fx call ops rs (i + 1) rest (vput t o.dst v) hist cur pend mk with
          | some (t1, fs, ex) => bif others qt call t o v (trOf rs i) hist.length 0 (revApp hist fs ++ ex) then some (t1, fs, ex) else none
          | none => none
        | none => none
      else vhead op qt fx call ops rs (i + 1) rest (vput t o.dst undef) hist cur pend mk
    else none

omit [Base] in
theorem eval1_keeps {op : OpE} {call : CallE} (hng : ∀ vs ρ o n vs1, op vs ρ o = some (n, vs1) → Keeps vs vs1) (hngc : ∀ f args vs v vs1, call f args vs = some (v, vs1) → Keeps vs vs1) {vs1 : VS} {t : List Value} {o : Oper} {v : Value} (h : eval1 op call vs t o = some (v, vs1)) : Keeps vs vs1 := by
  unfold eval1 at h
  split at h
  · rename_i hx; cases h; exact hng _ _ _ _ _ hx
  · rename_i hx; cases h; exact hng _ _ _ _ _ hx
  · rename_i hx
    split at h
    · rename_i hc
      cases h
      have h1 := hng _ _ _ _ _ hx
      have h2 := hngc _ _ _ _ _ hc
      exact ⟨h2.1.trans h1.1, h2.2.trans h1.2⟩
    · cases h
  · cases h

end Go.Ev

/-
  The evaluator on regions that draw their order: what the walk of the lexical order says.
-/
namespace Go.Ev
open Go.RowKit
variable [Base]

variable {P : Program} {T : TE} [TOk P T] {N0 : Nat → Prop} {W0 W : World} {vs : VS} {μ : Mu}
variable {op : OpE} {qt : QtE} {fx : FX} {call : CallE} {ops : List Oper} {rs : RS} {all : List VS}

def LexAt (op : OpE) (qt : QtE) (call : CallE) (ops : List Oper) (rs : RS) (all : List VS) (i : Nat) (o : Oper) (t : List Value) (v : Value) : Prop :=
  ∀ p q, prOf rs i p q → ∀ s, all[p]? = some s →
    (vwanted ops t o = true ∧ ((∃ s', all[q]? = some s' ∧ eval1 op call s t o = some (v, s')) ∨ (q = p ∧ qval qt call s t o = some v))) ∨
    (vwanted ops t o = false ∧ v = undef ∧ all[q]? = some s)
def LexE (fx : FX) (rs : RS) (all : List VS) (fd : Pend) (i : Nat) (o : Oper) (t : List Value) (r v : Value) (t1 : List Value) : Prop :=
  (∀ p q, prOf rs i p q → ∀ s, all[p]? = some s → ∃ s', all[q]? = some s' ∧ r = rowV s.next fd.2.2 ∧ fx.apc s.bump (vev (vput t (some fd.1) r)) o fd.2.2 fd.2.1 = some (v, s')) ∧ t1 = vput (vput t (some fd.1) r) o.dst v
def Step (op : OpE) (qt : QtE) (fx : FX) (call : CallE) (ops : List Oper) (rs : RS) (all : List VS) (val : Nat → Value) (tt : Nat → List Value) (fd : Pend) (j : Nat) (o : Oper) : Prop :=
  (isFst rs.flt j = true ∧ o.guard = none ∧ fx.flt o = some (fd.2.1, fd.2.2) ∧ o.dst = some fd.1 ∧ trLoop (trOf rs j) = true ∧ tt (j + 1) = tt j) ∨
  (isFst rs.flt j = false ∧ isSnd rs.flt j = true ∧ o.guard = none ∧ ∃ f, rs.flt = some (f, j) ∧ f < j ∧ LexE fx rs all fd j o (tt j) (val f) (val j) (tt (j + 1))) ∨
  (isFst rs.flt j = false ∧ isSnd rs.flt j = false ∧ LexAt op qt call ops rs all j o (tt j) (val j) ∧ tt (j + 1) = vput (tt j) o.dst (val j))
omit [Base] in
theorem Step.congr {val val' : Nat → Value} {tt tt' : Nat → List Value} {fd : Pend} {j : Nat} {o : Oper} (h : Step op qt fx call ops rs all val tt fd j o) (h1 : val' j = val j) (h2 : tt' j = tt j) (h3 : tt' (j + 1) = tt (j + 1)) (h4 : ∀ f, rs.flt = some (f, j) → val' f = val f) :
    Step op qt fx call ops rs all val' tt' fd j o := by
  rcases h with ⟨a, b, c, d, e, f⟩ | ⟨a, b, c, f, d, e, g⟩ | ⟨a, b, c, d⟩
  · exact .inl ⟨a, b, c, d, e, by rw [h3, f, h2]⟩
  · exact .inr (.inl ⟨a, b, c, f, d, e, by rw [h2, h3, h1, h4 f d]; exact g⟩)
  · exact .inr (.inr ⟨a, b, by rw [h1, h2]; exact c, by rw [h3, d, h2, h1]⟩)
omit [Base] in
theorem isFst_eq {x : Option (Nat × Nat)} {i : Nat} (h : isFst x i = true) : ∃ b, x = some (i, b) := by
  unfold isFst at h
  split at h
  · rename_i a b; exact ⟨b, by rw [Nat.eq_of_beq_eq_true h]⟩
  · cases h
omit [Base] in
theorem isSnd_eq {x : Option (Nat × Nat)} {i : Nat} (h : isSnd x i = true) : ∃ a, x = some (a, i) ∧ a < i := by
  unfold isSnd at h
  split at h
  · rename_i a b
    simp only [Bool.and_eq_true, Nat.beq_eq, Nat.blt_eq] at h
    exact ⟨a, by rw [h.1], by omega⟩
  · cases h

structure FxOk (op : OpE) (fx : FX) : Prop where
  cm : ∀ vs ρ1 o1 ρ2 o2 v1 v12 v2, fx.cm vs ρ1 o1 ρ2 o2 = true → op vs ρ1 o1 = some (.skip, v1) → op v1 ρ2 o2 = some (.skip, v12) → op vs ρ2 o2 = some (.skip, v2) → op v2 ρ1 o1 = some (.skip, v12)
  keep : ∀ vs ρ o k cs v vs1, fx.apc vs ρ o k cs = some (v, vs1) → Keeps vs vs1

omit [Base] in
theorem vhead_keeps (hng : ∀ vs ρ o n vs1, op vs ρ o = some (n, vs1) → Keeps vs vs1) (hF : FxOk op fx) (hngc : ∀ f args vs v vs1, call f args vs = some (v, vs1) → Keeps vs vs1) :
    ∀ (l : List Oper) (i : Nat) (t : List Value) (hist : List VS) (cur : VS) (pend : Option Pend) (mk : Option (Oper × List Value)) (t1 : List Value) (fs ex : List VS), vhead op qt fx call ops rs i l t hist cur pend mk = some (t1, fs, ex) →
      (∃ r, fs = cur :: r) ∧ (∀ s ∈ fs, Keeps cur s) ∧ ((∀ h ∈ hist, Keeps h cur) → ∀ s ∈ ex, Keeps cur s)
  | [], i, t, hist, cur, pend, mk, t1, fs, ex, h => by
    cases pend <;> cases mk <;> simp only [vhead] at h
    · cases h
      exact ⟨⟨[], rfl⟩, fun s hs => by simp at hs; rw [hs]; exact ⟨rfl, rfl⟩, fun _ s hs => by simp at hs⟩
    all_goals cases h
  | o :: l, i, t, hist, cur, pend, mk, t1, fs, ex, h => by
    have adv : ∀ {v1 : VS} {fs2 ex2 : List VS}, Keeps cur v1 → ((∃ r, fs2 = v1 :: r) ∧ (∀ s ∈ fs2, Keeps v1 s) ∧ ((∀ h ∈ cur :: hist, Keeps h v1) → ∀ s ∈ ex2, Keeps v1 s)) →
        (∃ r, cur :: fs2 = cur :: r) ∧ (∀ s ∈ cur :: fs2, Keeps cur s) ∧ ((∀ h ∈ hist, Keeps h cur) → ∀ s ∈ ex2, Keeps cur s) := by
      intro v1 fs2 ex2 hk ⟨_, h2, h3⟩
      refine ⟨⟨fs2, rfl⟩, fun s hs => ?_, fun hh s hs => ?_⟩
      · rcases List.mem_cons.1 hs with e | hs
        · rw [e]; exact ⟨rfl, rfl⟩
        · have := h2 s hs; exact ⟨this.1.trans hk.1, this.2.trans hk.2⟩
      · have := h3 (fun x hx => by
          rcases List.mem_cons.1 hx with e | hx
          · rw [e]; exact hk
          · have := hh x hx; exact ⟨hk.1.trans this.1, hk.2.trans this.2⟩) s hs
        exact ⟨this.1.trans hk.1, this.2.trans hk.2⟩
    simp only [vhead, Bool.cond_eq_ite] at h
    split at h
    · split at h
      · split at h
        · exact vhead_keeps hng hF hngc l _ _ _ _ _ _ _ _ _ h
        · cases h
      · cases h
    split at h
    · split at h
      · split at h
        · split at h
          · rename_i v s1 ha
            split at h
            · rename_i hr
              cases h
              have hk := hF.keep _ _ _ _ _ _ _ ha
              exact adv ⟨hk.1, hk.2⟩ (vhead_keeps hng hF hngc l _ _ _ _ _ _ _ _ _ hr)
            · cases h
          · cases h
        · cases h
      · cases h
    split at h
    · split at h
      · rename_i s1 _ ho
        split at h
        · split at h
          · rename_i hr
            cases h
            exact adv (hng _ _ _ _ _ ho) (vhead_keeps hng hF hngc l _ _ _ _ _ _ _ _ _ hr)
          · cases h
        · cases h
      · cases h
    split at h
    · split at h
      · rename_i oi ti h0 hs0 _
        split at h
        · rename_i s1 sx ho hx
          split at h
          · cases h
            have hk := hng _ _ _ _ _ ho
            refine ⟨⟨_, rfl⟩, fun s hs => ?_, fun hh s hs => ?_⟩
            · simp at hs
              rcases hs with rfl | rfl
              · exact ⟨rfl, rfl⟩
              · exact hk
            · simp at hs
              rw [hs]
              have h1 := hng _ _ _ _ _ hx
              have h2 := hh h0 (by simp)
              exact ⟨h1.1.trans h2.1.symm, h1.2.trans h2.2.symm⟩
          · cases h
        · cases h
      · cases h
    split at h
    · split at h
      · split at h
        · split at h
          · split at h
            · rename_i v vs1 he
              split at h
              · rename_i hr
                cases h
                exact adv (eval1_keeps hng hngc he) (vhead_keeps hng hF hngc l _ _ _ _ _ _ _ _ _ hr)
              · cases h
            · cases h
          · split at h
            · rename_i hr
              cases h
              exact adv ⟨rfl, rfl⟩ (vhead_keeps hng hF hngc l _ _ _ _ _ _ _ _ _ hr)
            · cases h
        · cases h
      · cases h
    split at h
    · split at h
      · split at h
        · split at h
          · rename_i hr
            split at h
            · cases h; exact vhead_keeps hng hF hngc l _ _ _ _ _ _ _ _ _ hr
            · cases h
          · cases h
        · cases h
      · exact vhead_keeps hng hF hngc l _ _ _ _ _ _ _ _ _ h
    · cases h

omit [Base] in
theorem all_at {hist fs ex : List VS} {j : Nat} {s : VS} (h : fs[j]? = some s) : (revApp hist fs ++ ex)[hist.length + j]? = some s := by
  have h1 := revApp_get hist fs j s h
  rw [List.getElem?_append_left (List.getElem?_eq_some_iff.1 h1).1]
  exact h1
omit [Base] in
theorem revApp_len : ∀ (h l : List VS), (revApp h l).length = h.length + l.length
  | [], l => by simp [revApp]
  | x :: h, l => by simp [revApp, revApp_len h]; omega

omit [Base] in
theorem vhead_lex (hng : ∀ vs ρ o n vs1, op vs ρ o = some (n, vs1) → Keeps vs vs1) (hF : FxOk op fx) (hngc : ∀ f args vs v vs1, call f args vs = some (v, vs1) → Keeps vs vs1) :
    ∀ (l : List Oper) (i : Nat) (t : List Value) (hist : List VS) (cur : VS) (pend : Option Pend) (mk : Option (Oper × List Value)) (t1 : List Value) (fs ex : List VS), vhead op qt fx call ops rs i l t hist cur pend mk = some (t1, fs, ex) → revApp hist fs ++ ex = all →
      ∃ (val : Nat → Value) (tt : Nat → List Value) (fd : Pend), (∀ x, pend = some x → fd = x) ∧ tt i = t ∧ tt (i + l.length) = t1 ∧ (∀ k o, l[k]? = some o → Step op qt fx call ops rs all val tt fd (i + k) o) ∧
        ∀ oi ti h hist', mk = some (oi, ti) → hist = h :: hist' → op h (vev ti) oi = some (.skip, cur) → ∃ sx s12, all[hist.length + 2]? = some sx ∧ all[hist.length + 1]? = some s12 ∧ op sx (vev ti) oi = some (.skip, s12)
  | [], i, t, hist, cur, pend, mk, t1, fs, ex, h, _ => by
    cases pend <;> cases mk <;> simp only [vhead] at h
    · cases h
      exact ⟨fun _ => undef, fun _ => t, (0, [], 0), (fun x hx => by cases hx), rfl, rfl, (fun k o hk => by simp at hk), (fun _ _ _ _ hm => by cases hm)⟩
    all_goals cases h
  | o :: l, i, t, hist, cur, pend, mk, t1, fs, ex, h, hall => by
    have len : i + (o :: l).length = i + 1 + l.length := by simp; omega
    have glue : ∀ {val val' : Nat → Value} {tt : Nat → List Value} {fd : Pend}, (∀ k o', l[k]? = some o' → Step op qt fx call ops rs all val tt fd (i + 1 + k) o') → tt (i + 1 + l.length) = t1 →
        (∀ j, i < j → val' j = val j) → (∀ f j, rs.flt = some (f, j) → i < j → val' f = val f) → Step op qt fx call ops rs all val' (fun j => if j = i then t else tt j) fd i o →
        (fun j => if j = i then t else tt j) i = t ∧ (fun j => if j = i then t else tt j) (i + (o :: l).length) = t1 ∧ ∀ k o', (o :: l)[k]? = some o' → Step op qt fx call ops rs all val' (fun j => if j = i then t else tt j) fd (i + k) o' := by
      intro val val' tt fd h1 h2 h3 h4 h5
      refine ⟨by simp, ?_, ?_⟩
      · have : ¬ i + (o :: l).length = i := by simp
        simp only [if_neg this]
        rw [len]; exact h2
      · intro k o' hk
        cases k with
        | zero =>
          simp only [List.getElem?_cons_zero, Option.some.injEq] at hk
          subst hk
          exact h5
        | succ k =>
          have := h1 k o' (by simpa using hk)
          rw [show i + (k + 1) = i + 1 + k by omega]
          have e1 : ¬ i + 1 + k = i := by omega
          have e2 : ¬ i + 1 + k + 1 = i := by omega
          exact this.congr (h3 _ (by omega)) (by simp only [if_neg e1]) (by simp only [if_neg e2]) (fun f hf => h4 f _ hf (by omega))
    have e1 : ¬ i + 1 = i := by omega
    have hcur : ∀ {r : List VS}, fs = cur :: r → all[hist.length]? = some cur := fun {r} hr => by rw [← hall]; exact all_at (j := 0) (by rw [hr]; rfl)
    simp only [vhead, Bool.cond_eq_ite] at h
    split at h
    · rename_i hf
      split at h
      case h_2 => cases h
      rename_i cs k d hg hfl hdst
      split at h
      case isFalse => cases h
      rename_i htr
      obtain ⟨val, tt, fd, a0, a1, a2, a3, a4⟩ := vhead_lex hng hF hngc l _ _ _ _ _ _ _ _ _ h hall
      have hfd := a0 _ rfl
      subst hfd
      obtain ⟨b1, b2, b3⟩ := glue (val' := val) a3 a2 (fun _ _ => rfl) (fun _ _ _ _ => rfl) (.inl ⟨hf, hg, hfl, hdst, htr, by simp only [if_neg e1, if_true]; exact a1⟩)
      exact ⟨val, _, _, (fun x hx => by cases hx), b1, b2, b3, a4⟩
    rename_i hf
    simp only [Bool.not_eq_true] at hf
    split at h
    · rename_i hs
      split at h
      case h_2 => cases h
      rename_i d cs k hg
      split at h
      case isFalse => cases h
      rename_i htr
      split at h
      case h_2 => cases h
      rename_i v s1 ha
      split at h
      case h_2 => cases h
      rename_i t2 fs2 ex2 hr
      cases h
      obtain ⟨val, tt, fd, a0, a1, a2, a3, a4⟩ := vhead_lex hng hF hngc l _ _ _ _ _ _ _ _ _ hr hall
      obtain ⟨⟨r, hr1⟩, _⟩ := vhead_keeps hng hF hngc l _ _ _ _ _ _ _ _ _ hr
      obtain ⟨f, hf1, hf2⟩ := isSnd_eq hs
      have hc := hcur rfl
      have hn : all[hist.length + 1]? = some s1 := by rw [← hall]; exact all_at (j := 1) (by rw [hr1]; rfl)
      have a3' : ∀ k' o', l[k']? = some o' → Step op qt fx call ops rs all val tt (d, cs, k) (i + 1 + k') o' := fun k' o' hk => by
        rcases a3 k' o' hk with ⟨q1, _⟩ | ⟨_, q2, _⟩ | q
        · obtain ⟨b, hb⟩ := isFst_eq q1
          rw [hf1] at hb
          simp only [Option.some.injEq, Prod.mk.injEq] at hb
          omega
        · obtain ⟨a, ha', _⟩ := isSnd_eq q2
          rw [hf1] at ha'
          simp only [Option.some.injEq, Prod.mk.injEq] at ha'
          omega
        · exact .inr (.inr q)
      obtain ⟨b1, b2, b3⟩ := glue (val := val) (val' := fun j => if j = i then v else if j = f then rowV cur.next k else val j) a3' a2
        (fun j hj => by
          have e2 : ¬ j = i := by omega
          have e3 : ¬ j = f := by omega
          simp only [if_neg e2, if_neg e3])
        (fun f' j hfj hj => by rw [hf1] at hfj; simp only [Option.some.injEq, Prod.mk.injEq] at hfj; omega)
        (.inr (.inl ⟨hf, hs, hg, f, hf1, hf2, by
          have e4 : ¬ f = i := by omega
          simp only [if_true, if_neg e1, if_neg e4]
          refine ⟨fun p q hpq s hs' => ?_, a1⟩
          obtain ⟨rfl, rfl⟩ := trIs_mem htr hpq
          rw [hc] at hs'; cases hs'
          exact ⟨s1, hn, rfl, ha⟩⟩))
      exact ⟨_, _, (d, cs, k), (fun x hx => by cases hx; rfl), b1, b2, b3, fun _ _ _ _ hm => by cases hm⟩
    rename_i hs
    simp only [Bool.not_eq_true] at hs
    have norm : ∀ {val : Nat → Value} {tt : Nat → List Value} {fd : Pend} {v : Value}, (∀ k o', l[k]? = some o' → Step op qt fx call ops rs all val tt fd (i + 1 + k) o') → tt (i + 1 + l.length) = t1 → tt (i + 1) = vput t o.dst v → LexAt op qt call ops rs all i o t v →
        ∃ (val' : Nat → Value) (tt' : Nat → List Value), tt' i = t ∧ tt' (i + (o :: l).length) = t1 ∧ ∀ k o', (o :: l)[k]? = some o' → Step op qt fx call ops rs all val' tt' fd (i + k) o' := by
      intro val tt fd v h1 h2 h3 h4
      have hfi : ∀ f j, rs.flt = some (f, j) → f ≠ i := fun f j hfj e => by
        have : isFst rs.flt i = true := by rw [hfj, e]; simp [isFst]
        rw [hf] at this; cases this
      refine ⟨fun j => if j = i then v else val j, fun j => if j = i then t else tt j, ?_⟩
      exact glue h1 h2 (fun j hj => by
        have e2 : ¬ j = i := by omega
        simp only [if_neg e2]) (fun f j hfj _ => by simp only [if_neg (hfi f j hfj)]) (.inr (.inr ⟨hf, hs, by simp only [if_true]; exact h4, by simp only [if_true, if_neg e1]; exact h3⟩))
    split at h
    · rename_i hcm
      split at h
      case h_2 => cases h
      rename_i s1 hg ho
      split at h
      case isFalse => cases h
      rename_i htr
      split at h
      case h_2 => cases h
      rename_i t2 fs2 ex2 hr
      cases h
      obtain ⟨val, tt, fd, a0, a1, a2, a3, a4⟩ := vhead_lex hng hF hngc l _ _ _ _ _ _ _ _ _ hr hall
      obtain ⟨⟨r, hr1⟩, _⟩ := vhead_keeps hng hF hngc l _ _ _ _ _ _ _ _ _ hr
      have hc := hcur rfl
      have hn : all[hist.length + 1]? = some s1 := by rw [← hall]; exact all_at (j := 1) (by rw [hr1]; rfl)
      obtain ⟨sx, s12, m1, m2, m3⟩ := a4 o t cur hist rfl rfl ho
      have hw : vwanted ops t o = true := by unfold vwanted; rw [hg]
      obtain ⟨val', tt', b1, b2, b3⟩ := norm a3 a2 a1 (fun p q hpq s hs' => by
        refine .inl ⟨hw, .inl ?_⟩
        rcases trIs2_mem htr hpq with ⟨rfl, rfl⟩ | ⟨rfl, rfl⟩
        · rw [hc] at hs'; cases hs'
          exact ⟨s1, hn, by simp only [eval1, ho]⟩
        · have m1' : all[hist.length + 3]? = some sx := m1
          rw [m1'] at hs'; cases hs'
          exact ⟨s12, m2, by simp only [eval1, m3]⟩)
      exact ⟨val', tt', fd, a0, b1, b2, b3, fun _ _ _ _ hm => by cases hm⟩
    split at h
    · rename_i hcm
      split at h
      case h_2 => cases h
      rename_i oi ti h0 hist0 hg
      split at h
      case h_2 => cases h
      rename_i s1 sx ho hx
      split at h
      case isFalse => cases h
      rename_i hb
      simp only [Bool.and_eq_true] at hb
      obtain ⟨hcmt, htr⟩ := hb
      cases h
      have hc : all[(h0 :: hist0).length]? = some cur := by rw [← hall]; exact all_at (j := 0) rfl
      have hn : all[(h0 :: hist0).length + 1]? = some s1 := by rw [← hall]; exact all_at (j := 1) rfl
      have hh : all[(h0 :: hist0).length - 1]? = some h0 := by
        rw [← hall]
        exact all_at (hist := hist0) (j := 0) (fs := [h0, cur, s1]) rfl
      have hxx : all[(h0 :: hist0).length + 2]? = some sx := by
        rw [← hall]
        have hl : (revApp (h0 :: hist0) [cur, s1]).length = (h0 :: hist0).length + 2 := by rw [revApp_len]; rfl
        rw [List.getElem?_append_right (by rw [hl]; exact Nat.le_refl _), hl]
        simp
      have hw : vwanted ops t o = true := by unfold vwanted; rw [hg]
      have hstep : LexAt op qt call ops rs all i o t undef := fun p q hpq s hs' => by
        refine .inl ⟨hw, .inl ?_⟩
        rcases trIs2_mem htr hpq with ⟨rfl, rfl⟩ | ⟨rfl, rfl⟩
        · rw [hc] at hs'; cases hs'
          exact ⟨s1, hn, by simp only [eval1, ho]⟩
        · rw [hh] at hs'; cases hs'
          exact ⟨sx, hxx, by simp only [eval1, hx]⟩
      obtain ⟨val', tt', b1, b2, b3⟩ := norm (val := fun _ => undef) (tt := fun _ => vput t o.dst undef) (fd := (0, [], 0)) (v := undef) (fun k o' hk => by simp at hk) rfl rfl hstep
      refine ⟨val', tt', (0, [], 0), (fun x hx => by cases hx), b1, b2, b3, fun oi' ti' h' hist' hm hhist hop => ?_⟩
      cases hm
      cases hhist
      exact ⟨sx, s1, hxx, hn, hF.cm _ _ _ _ _ _ _ _ hcmt hop ho hx⟩
    split at h
    · rename_i heff
      split at h
      case h_2 => cases h
      split at h
      case isFalse => cases h
      rename_i htr
      split at h
      · rename_i hw
        split at h
        case h_2 => cases h
        rename_i v vs1 he
        split at h
        case h_2 => cases h
        rename_i t2 fs2 ex2 hr
        cases h
        obtain ⟨val, tt, fd, a0, a1, a2, a3, a4⟩ := vhead_lex hng hF hngc l _ _ _ _ _ _ _ _ _ hr hall
        obtain ⟨⟨r, hr1⟩, _⟩ := vhead_keeps hng hF hngc l _ _ _ _ _ _ _ _ _ hr
        have hc := hcur rfl
        have hn : all[hist.length + 1]? = some vs1 := by rw [← hall]; exact all_at (j := 1) (by rw [hr1]; rfl)
        obtain ⟨val', tt', b1, b2, b3⟩ := norm a3 a2 a1 (fun p q hpq s hs' => by
          obtain ⟨rfl, rfl⟩ := trIs_mem htr hpq
          rw [hc] at hs'; cases hs'
          exact .inl ⟨hw, .inl ⟨vs1, hn, he⟩⟩)
        exact ⟨val', tt', fd, a0, b1, b2, b3, fun _ _ _ _ hm => by cases hm⟩
      · rename_i hw
        simp only [Bool.not_eq_true] at hw
        split at h
        case h_2 => cases h
        rename_i t2 fs2 ex2 hr
        cases h
        obtain ⟨val, tt, fd, a0, a1, a2, a3, a4⟩ := vhead_lex hng hF hngc l _ _ _ _ _ _ _ _ _ hr hall
        obtain ⟨⟨r, hr1⟩, _⟩ := vhead_keeps hng hF hngc l _ _ _ _ _ _ _ _ _ hr
        have hc := hcur rfl
        have hn : all[hist.length + 1]? = some cur := by rw [← hall]; exact all_at (j := 1) (by rw [hr1]; rfl)
        obtain ⟨val', tt', b1, b2, b3⟩ := norm a3 a2 a1 (fun p q hpq s hs' => by
          obtain ⟨rfl, rfl⟩ := trIs_mem htr hpq
          rw [hc] at hs'; cases hs'
          exact .inr ⟨hw, rfl, hn⟩)
        exact ⟨val', tt', fd, a0, b1, b2, b3, fun _ _ _ _ hm => by cases hm⟩
    split at h
    case isFalse => cases h
    rename_i htr
    split at h
    · rename_i hw
      split at h
      case h_2 => cases h
      rename_i v he
      split at h
      case h_2 => cases h
      rename_i t2 fs2 ex2 hr
      split at h
      case isFalse => cases h
      rename_i hot
      cases h
      obtain ⟨val, tt, fd, a0, a1, a2, a3, a4⟩ := vhead_lex hng hF hngc l _ _ _ _ _ _ _ _ _ hr hall
      obtain ⟨⟨r, hr1⟩, _⟩ := vhead_keeps hng hF hngc l _ _ _ _ _ _ _ _ _ hr
      have hc := hcur hr1
      obtain ⟨val', tt', b1, b2, b3⟩ := norm a3 a2 a1 (fun p q hpq s hs' => by
        have e := trLoop_mem htr hpq
        subst e
        refine .inl ⟨hw, .inr ⟨rfl, ?_⟩⟩
        by_cases hq : p = hist.length
        · subst hq
          rw [hc] at hs'; cases hs'
          exact he
        · exact others_at _ 0 hot p s (by rw [hall]; exact hs') (by rw [Nat.zero_add]; exact hpq) (by omega))
      exact ⟨val', tt', fd, a0, b1, b2, b3, a4⟩
    · rename_i hw
      simp only [Bool.not_eq_true] at hw
      obtain ⟨val, tt, fd, a0, a1, a2, a3, a4⟩ := vhead_lex hng hF hngc l _ _ _ _ _ _ _ _ _ h hall
      obtain ⟨val', tt', b1, b2, b3⟩ := norm a3 a2 a1 (fun p q hpq s hs' => by
        have e := trLoop_mem htr hpq
        subst e
        exact .inr ⟨hw, rfl, hs'⟩)
      exact ⟨val', tt', fd, a0, b1, b2, b3, a4⟩

end Go.Ev
