/-
  The evaluator on regions that draw their order: single operations.
-/
import Derived.Test.YtmoglfooadcemaaEvK
import Derived.Test.YtmoglfooadcemaaEvE
import Derived.Test.YtmoglfooadcemaaEvY
import Derived.Test.YtmoglfooadcemaaEvQ
namespace Go.Ev
open Go.RowKit

variable {P : Program} {T : TE} [TOk P T] {N0 : Nat → Prop} {W0 W : World} {vs : VS} {μ : Mu}

/- All that is there now can only be read. -/
def lockL : List (Nat × VB) → List (Nat × VB)
  | [] => []
  | (i, b) :: l => (i, { b with rw := false, tail := false }) :: lockL l
def lockO : List (Nat × VOb) → List (Nat × VOb)
  | [] => []
  | (i, b) :: l => (i, { b with rw := false }) :: lockO l
def VS.lock (vs : VS) : VS := { vs with heap := lockL vs.heap, objs := lockO vs.objs }
theorem lockO_mem : ∀ {l : List (Nat × VOb)} {i : Nat} {b : VOb}, (i, b) ∈ lockO l → ∃ b', (i, b') ∈ l ∧ b = { b' with rw := false }
  | (j, c) :: l, i, b, h => by
    rcases List.mem_cons.1 h with e | h
    · cases e; exact ⟨c, by simp, rfl⟩
    · obtain ⟨b', h1, h2⟩ := lockO_mem h
      exact ⟨b', List.mem_cons_of_mem _ h1, h2⟩
theorem lockL_mem : ∀ {l : List (Nat × VB)} {i : Nat} {b : VB}, (i, b) ∈ lockL l → ∃ b', (i, b') ∈ l ∧ b = { b' with rw := false, tail := false }
  | (j, c) :: l, i, b, h => by
    rcases List.mem_cons.1 h with e | h
    · cases e; exact ⟨c, by simp, rfl⟩
    · obtain ⟨b', h1, h2⟩ := lockL_mem h
      exact ⟨b', List.mem_cons_of_mem _ h1, h2⟩
theorem G.lock (h : G N0 W0 vs W μ) : G (old W) W vs.lock W μ := by
  refine ⟨Kept.refl _ _, fun _ hk => hk, h.fresh, h.globs, h.glo, ?_, ?_, ?_⟩
  · intro id B hm
    obtain ⟨B', h1, rfl⟩ := lockL_mem hm
    obtain ⟨l, c, z, e1, L⟩ := h.blocks id B' h1
    exact ⟨l, c, z, e1, ⟨L.at_, (fun x => by simp at x), L.len, L.esz, L.room, L.fixed, L.whole, (fun x => by simp at x), L.cells⟩⟩
  · intro id B id' B' hm hm' hf
    obtain ⟨C, h1, rfl⟩ := lockL_mem hm
    obtain ⟨C', h1', rfl⟩ := lockL_mem hm'
    exact h.apart id C id' C' h1 h1' hf
  · refine ⟨fun id O hm => ?_, fun id O id' O' hm hm' hne => ?_⟩
    · obtain ⟨O', h1, rfl⟩ := lockO_mem hm
      obtain ⟨l, o, e1, e2, e3, _, e5⟩ := h.objs.at_ id O' h1
      exact ⟨l, o, e1, e2, e3, (fun x => by simp at x), e5⟩
    · obtain ⟨C, h1, rfl⟩ := lockO_mem hm
      obtain ⟨C', h1', rfl⟩ := lockO_mem hm'
      exact h.objs.apart id C id' C' h1 h1' hne

/- A value that speaks of blocks of this memory alone. -/
def hasId (vs : VS) (b : Nat) : Bool := bif Nat.blt b vs.ng then true else (find vs.heap b).isSome
def hasO (l : List (Nat × VOb)) (b : Nat) : Bool :=
  match l with
  | [] => false
  | (i, _) :: l => bif Nat.beq i b then true else hasO l b
mutual
def knownB (vs : VS) : Value → Bool
  | .bool _ | .int _ _ | .float _ _ | .complex _ _ _ | .string _ | .nilFunc | .nilIface => true
  | .pointer a => match a with
    | some a => hasId vs a.block
    | none => true
  | .slice a _ _ => match a with
    | some a => hasId vs a.block
    | none => true
  | .map r => match r with
    | some r => hasO vs.objs r
    | none => true
  | .chan _ => false
  | .func _ a b => knownA vs a && knownA vs b
  | .iface _ v => knownB vs v
  | .agg a => knownA vs a
  | .tuple a => knownA vs a
def knownA (vs : VS) : Array Value → Bool
  | ⟨l⟩ => knownL vs l
def knownL (vs : VS) : List Value → Bool
  | [] => true
  | v :: l => knownB vs v && knownL vs l
end
theorem knownL_get : ∀ {l : List Value} {i : Nat} {x : Value}, knownL vs l = true → l[i]? = some x → knownB vs x = true
  | v :: l, 0, x, h, hx => by simp [knownL] at h; simp at hx; exact hx ▸ h.1
  | v :: l, i + 1, x, h, hx => by simp [knownL] at h; simp at hx; exact knownL_get h.2 hx
theorem knownA_get {a : Array Value} {i : Nat} {x : Value} (h : knownA vs a = true) (hx : a[i]? = some x) : knownB vs x = true := by
  obtain ⟨l⟩ := a
  exact knownL_get (l := l) (by simpa [knownA] using h) (by simpa using hx)
theorem hasId_mu (hG : G N0 W0 vs W μ) {b : Nat} (h : hasId vs b = true) : ∃ l, μ b = some l := by
  unfold hasId at h
  simp only [Bool.cond_eq_ite] at h
  split at h
  · rename_i hb
    obtain ⟨l, h1, _⟩ := hG.glo b (by simpa using hb)
    exact ⟨l, h1⟩
  · obtain ⟨B, hB⟩ := Option.isSome_iff_exists.1 h
    obtain ⟨l, _, _, h1, _⟩ := hG.blocks _ _ (find_mem hB)
    exact ⟨l, h1⟩
theorem hasO_mem : ∀ {l : List (Nat × VOb)} {b : Nat}, hasO l b = true → ∃ O, (b, O) ∈ l
  | (i, O) :: l, b, h => by
    simp only [hasO, Bool.cond_eq_ite] at h
    split at h
    · rename_i hb; rw [Nat.eq_of_beq_eq_true hb]; exact ⟨O, by simp⟩
    · obtain ⟨O', h1⟩ := hasO_mem h; exact ⟨O', List.mem_cons_of_mem _ h1⟩
theorem known_rel (hG : G N0 W0 vs W μ) {ν : Mu} (hle : μ.le ν) {v v' : Value} (h : R ν v v') : knownB vs v = true → R μ v v' := by
  have hid : ∀ {b : Nat} {l : Loc}, hasId vs b = true → ν b = some l → μ b = some l := fun {b l} h1 h2 => by
    obtain ⟨m, hm⟩ := hasId_mu hG h1
    rw [hle _ _ hm] at h2; cases h2; exact hm
  induction h with
  | bool b => exact fun _ => .bool b
  | int k n => exact fun _ => .int k n
  | float k n => exact fun _ => .float k n
  | complex k a b => exact fun _ => .complex k a b
  | string s => exact fun _ => .string s
  | nilptr => exact fun _ => .nilptr
  | ptr a l h => exact fun hk => .ptr a l (hid (by simpa [knownB] using hk) h)
  | nilslice n c => exact fun _ => .nilslice n c
  | slice a l n c h hx => exact fun hk => .slice a l n c (hid (by simpa [knownB] using hk) h) hx
  | nilmap => exact fun _ => .nilmap
  | map r l h =>
    intro hk
    obtain ⟨O, hO⟩ := hasO_mem (by simpa [knownB] using hk)
    obtain ⟨m, _, hm, _⟩ := hG.objs.at_ _ _ hO
    rw [hle _ _ hm] at h; cases h
    exact .map r _ hm
  | nilFunc => exact fun _ => .nilFunc
  | nilIface => exact fun _ => .nilIface
  | func fn a b a' b' ha hb _ _ ia ib =>
    intro hk
    simp only [knownB, Bool.and_eq_true] at hk
    exact .func fn a b a' b' ha hb (fun i x y hx hy => ia i x y hx hy (knownA_get hk.1 hx)) (fun i x y hx hy => ib i x y hx hy (knownA_get hk.2 hx))
  | iface t v v' _ ih => exact fun hk => .iface t v v' (ih (by simpa [knownB] using hk))
  | agg a a' ha _ ia => exact fun hk => .agg a a' ha (fun i x y hx hy => ia i x y hx hy (knownA_get (by simpa [knownB] using hk) hx))
  | tuple a a' ha _ ia => exact fun hk => .tuple a a' ha (fun i x y hx hy => ia i x y hx hy (knownA_get (by simpa [knownB] using hk) hx))

/- A region that draws: every operation leaves memory alone. -/
noncomputable def vquiets (qt : QtE) (call : CallE) (ops : List Oper) : List Oper → List Value → VS → Option (List Value)
  | [], t, _ => some t
  | o :: rest, t, vs =>
    bif vwanted ops t o then
      match qt vs (vev t) o with
      | some (.value v) => vquiets qt call ops rest (vput t o.dst v) vs
      | some .skip => vquiets qt call ops rest (vput t o.dst undef) vs
      | some (.enter f args) => match call f args vs.lock with
        | some (.ret v, _) => bif knownB vs v then vquiets qt call ops rest (vput t o.dst v) vs else none
        | _ => none
      | _ => none
    else vquiets qt call ops rest (vput t o.dst undef) vs

theorem vquiets_sound {qt : QtE} {call : CallE} (hqt : ∀ vs ρ o n, qt vs ρ o = some n → Sound P vs ρ o n) (hcall : CallOK P call) (ops : Array Oper) {ng : Nat} {Q : Act → Prop} :
    ∀ (l : List Oper) (t : List Value) (t1 : List Value), (∀ o ∈ l, ∀ x ∈ o.op.operands, okOperand ng x = true) → vs.ng = ng → vquiets qt call ops.toList l t vs = some t1 →
      ∀ (a : Act), DR μ vs.dfr a.defers → RA μ t.toArray a.tmps → G N0 W0 vs W μ → (∀ a' : Act, DR μ vs.dfr a'.defers → RA μ t1.toArray a'.tmps → Q a') → wpQuiet P ops (fun w => G N0 W0 vs w μ) Q l a
  | [], t, t1, _, _, h, a, hd, ht, hG, hQ => by
    simp only [vquiets] at h
    cases h
    exact hQ a hd ht
  | o :: rest, t, t1, hok, hng, h, a, hd, ht, hG, hQ => by
    have hok' : ∀ o' ∈ rest, ∀ x ∈ o'.op.operands, okOperand ng x = true := fun o' h' => hok o' (List.mem_cons_of_mem _ h')
    simp only [wpQuiet]
    rw [wanted_rel ht]
    simp only [vquiets, Bool.cond_eq_ite] at h
    split at h
    · rename_i hw
      rw [if_pos hw]
      cases hx : qt vs (vev t) o with
      | none => rw [hx] at h; cases h
      | some n =>
        rw [hx] at h
        have hs := hqt _ _ _ _ hx
        have hev : ∀ w, G N0 W0 vs w μ → ∃ n', (execOp a.eval o).run P w = .ok n' w ∧ RN μ n n' := fun w hw => hs N0 W0 w μ a.eval hw (fun x hx => ev_rel hw ht (by rw [hng]; exact hok o (by simp) x hx))
        cases n with
        | value v =>
          obtain ⟨n', _, hn⟩ := hev W hG
          cases n' with
          | value v' => ?_
          | _ => exact hn.elim
          simp only [RN] at hn
          refine ⟨v', fun w hw => ?_, vquiets_sound hqt hcall ops rest _ _ hok' hng h _ (by rw [put_defers]; exact hd) (put_rel ht hn o.dst) hG hQ⟩
          obtain ⟨m', hr, hm⟩ := hev w hw
          cases m' <;> simp only [RN] at hm
          unfold Oper.quietAt
          rw [hr]
          exact ⟨rfl, hm.fn hn⟩
        | skip =>
          refine ⟨undef, fun w hw => ?_, vquiets_sound hqt hcall ops rest _ _ hok' hng h _ (by rw [put_defers]; exact hd) (put_rel ht R_undef o.dst) hG hQ⟩
          obtain ⟨m', hr, hm⟩ := hev w hw
          cases m' <;> simp only [RN] at hm
          unfold Oper.quietAt
          rw [hr]
          exact ⟨rfl, rfl⟩
        | enter f args =>
          simp only at h
          cases hc : call f args vs.lock with
          | none => rw [hc] at h; cases h
          | some r =>
            obtain ⟨v, vs3⟩ := r
            rw [hc] at h
            cases v with
            | pan v => cases h
            | ret v => ?_
            simp only at h
            split at h
            case isFalse => cases h
            rename_i hp
            have one : ∀ w, G N0 W0 vs w μ → ∃ f' args', (execOp a.eval o).run P w = .ok (.enter f' args') w ∧ Calls P f' args' w (fun e w' => ∃ v', R μ v v' ∧ e = .returned v' ∧ G N0 W0 vs w' μ) := fun w hw => by
              obtain ⟨m', hr, hm⟩ := hev w hw
              cases m' <;> simp only [RN] at hm
              obtain ⟨rfl, hargs⟩ := hm
              refine ⟨_, _, hr, (hcall _ _ _ _ _ hc (old w) w w μ _ hargs hw.lock).mono ?_⟩
              rintro e W' ⟨μ1, hle1, hG', v', hv, rfl⟩
              exact ⟨v', known_rel hw hle1 hv hp, rfl, hw.world hG'.below⟩
            obtain ⟨f0, args0, _, hc0⟩ := one W hG
            obtain ⟨_, _, _, ⟨v', hv', _, _⟩, _⟩ := hc0 []
            refine ⟨v', fun w hw => ?_, vquiets_sound hqt hcall ops rest _ _ hok' hng h _ (by rw [put_defers]; exact hd) (put_rel ht hv' o.dst) hG hQ⟩
            obtain ⟨f1, args1, hr1, hc1⟩ := one w hw
            unfold Oper.quietAt
            rw [hr1]
            refine ⟨rfl, hc1.mono ?_⟩
            rintro e W' ⟨v'', hv'', rfl, hG''⟩
            exact ⟨by rw [hv''.fn hv'], hG''⟩
        | defer g cap args => cases h
    · rename_i hw
      rw [if_neg hw]
      exact vquiets_sound hqt hcall ops rest _ _ hok' hng h _ (by rw [put_defers]; exact hd) (put_rel ht R_undef o.dst) hG hQ


/- The same value. -/
def aeq (a b : Addr) : Bool := Nat.beq a.block b.block && Nat.beq a.off b.off && a.spot.isNone && b.spot.isNone
theorem aeq_eq {a b : Addr} (h : aeq a b = true) : a = b := by
  simp only [aeq, Bool.and_eq_true, Nat.beq_eq, Option.isNone_iff_eq_none] at h
  obtain ⟨a1, a2, a3⟩ := a
  obtain ⟨b1, b2, b3⟩ := b
  simp_all
mutual
def veq : Value → Value → Bool
  | .bool a, .bool b => a == b
  | .int k a, .int j b => (k == j) && ieq a b
  | .string a, .string b => beqL a.data.toList b.data.toList
  | .pointer none, .pointer none => true
  | .pointer (some a), .pointer (some b) => aeq a b
  | .slice none m c, .slice none m' c' => Nat.beq m m' && Nat.beq c c'
  | .slice (some a) m c, .slice (some b) m' c' => aeq a b && Nat.beq m m' && Nat.beq c c'
  | .map none, .map none => true
  | .map (some a), .map (some b) => Nat.beq a b
  | .nilFunc, .nilFunc => true
  | .nilIface, .nilIface => true
  | .iface t v, .iface u w => Nat.beq t u && veq v w
  | .agg a, .agg b => veqA a b
  | .tuple a, .tuple b => veqA a b
  | .func (.func f) a b, .func (.func g) c d => Nat.beq f g && veqA a c && veqA b d
  | _, _ => false
def veqA : Array Value → Array Value → Bool
  | ⟨a⟩, ⟨b⟩ => veqL a b
def veqL : List Value → List Value → Bool
  | [], [] => true
  | x :: a, y :: b => veq x y && veqL a b
  | _, _ => false
end
mutual
theorem veq_eq : ∀ (a b : Value), veq a b = true → a = b
  | .bool a, b, h => by cases b <;> simp_all [veq]
  | .int k a, b, h => by cases b <;> simp_all [veq, ieq_eq]
  | .float _ _, b, h => by cases b <;> simp [veq] at h
  | .complex _ _ _, b, h => by cases b <;> simp [veq] at h
  | .string a, b, h => by
    cases b <;> first | (simp [veq] at h; done) | skip
    rename_i b
    simp only [veq] at h
    rw [beqL_eq, beq_iff_eq] at h
    obtain ⟨⟨a⟩⟩ := a
    obtain ⟨⟨b⟩⟩ := b
    simp only at h
    rw [h]
  | .pointer none, b, h => by
    cases b <;> first | (simp [veq] at h; done) | skip
    rename_i a
    cases a <;> first | (simp [veq] at h; done) | rfl
  | .pointer (some a), b, h => by
    cases b <;> first | (simp [veq] at h; done) | skip
    rename_i b
    cases b with
    | none => simp [veq] at h
    | some b => simp only [veq] at h; rw [aeq_eq h]
  | .slice none m c, b, h => by
    cases b <;> first | (simp [veq] at h; done) | skip
    rename_i b _ _
    cases b with
    | some b => simp [veq] at h
    | none => simp only [veq, Bool.and_eq_true, Nat.beq_eq] at h; rw [h.1, h.2]
  | .slice (some a) m c, b, h => by
    cases b <;> first | (simp [veq] at h; done) | skip
    rename_i b _ _
    cases b with
    | none => simp [veq] at h
    | some b =>
      simp only [veq, Bool.and_eq_true, Nat.beq_eq] at h
      rw [aeq_eq h.1.1, h.1.2, h.2]
  | .map none, b, h => by
    cases b <;> first | (simp [veq] at h; done) | skip
    rename_i a
    cases a <;> first | (simp [veq] at h; done) | rfl
  | .map (some a), b, h => by
    cases b <;> first | (simp [veq] at h; done) | skip
    rename_i b
    cases b with
    | none => simp [veq] at h
    | some b => simp only [veq, Nat.beq_eq] at h; rw [h]
  | .chan _, b, h => by cases b <;> simp [veq] at h
  | .nilFunc, b, h => by cases b <;> first | (simp [veq] at h; done) | rfl
  | .nilIface, b, h => by cases b <;> first | (simp [veq] at h; done) | rfl
  | .iface t v, b, h => by
    cases b <;> first | (simp [veq] at h; done) | skip
    rename_i u w
    simp only [veq, Bool.and_eq_true, Nat.beq_eq] at h
    rw [h.1, veq_eq v w h.2]
  | .agg a, b, h => by
    cases b <;> first | (simp [veq] at h; done) | skip
    simp only [veq] at h
    rw [veqA_eq a _ h]
  | .tuple a, b, h => by
    cases b <;> first | (simp [veq] at h; done) | skip
    simp only [veq] at h
    rw [veqA_eq a _ h]
  | .func f a b, c, h => by
    cases f <;> first | (simp [veq] at h; done) | skip
    cases c <;> first | (simp [veq] at h; done) | skip
    rename_i f g c d
    cases g <;> first | (simp [veq] at h; done) | skip
    simp only [veq, Bool.and_eq_true, Nat.beq_eq] at h
    rw [h.1.1, veqA_eq a _ h.1.2, veqA_eq b _ h.2]
theorem veqA_eq : ∀ (a b : Array Value), veqA a b = true → a = b
  | ⟨a⟩, ⟨b⟩, h => by rw [veqL_eq a b (by simpa [veqA] using h)]
theorem veqL_eq : ∀ (a b : List Value), veqL a b = true → a = b
  | [], [], _ => rfl
  | [], _ :: _, h => by simp [veqL] at h
  | _ :: _, [], h => by simp [veqL] at h
  | x :: a, y :: b, h => by
    simp only [veqL, Bool.and_eq_true] at h
    rw [veq_eq x y h.1, veqL_eq a b h.2]
end


/- What an operation yields that leaves memory alone; what one yields that does not. -/
noncomputable def qval (qt : QtE) (call : CallE) (vs : VS) (t : List Value) (o : Oper) : Option Value :=
  match qt vs (vev t) o with
  | some (.value v) => some v
  | some .skip => some undef
  | some (.enter f args) => match call f args vs.lock with
    | some (.ret v, _) => bif knownB vs v then some v else none
    | _ => none
  | _ => none
noncomputable def eval1 (op : OpE) (call : CallE) (vs : VS) (t : List Value) (o : Oper) : Option (Value × VS) :=
  match op vs (vev t) o with
  | some (.value v, vs1) => some (v, vs1)
  | some (.skip, vs1) => some (undef, vs1)
  | some (.enter f args, vs1) => match call f args vs1 with
    | some (.ret v, vs2) => some (v, vs2)
    | _ => none
  | _ => none

def uponB (P : Program) (B : Value → World → Prop) : Result Next → Prop
  | .ok (.value u) w' => B u w'
  | .ok .skip w' => B undef w'
  | .ok (.enter f args) w' => Calls P f args w' fun e w'' => ∃ u, e = .returned u ∧ B u w''
  | _ => False
theorem wp_of_uponB {B : Value → World → Prop} {o : Oper} {a : Act} {w : World} {K : Act → World → Prop} {Q' : Exit → Act → World → Prop} (h : uponB P B ((execOp a.eval o).run P w)) (hK : ∀ u w', B u w' → K (a.put o.dst u) w') : o.wp P a w K Q' := by
  unfold Oper.wp
  generalize (execOp a.eval o).run P w = r at *
  cases r with
  | ok n w' =>
    cases n <;> simp only [uponB] at h <;> simp only [Oper.upon]
    case value u => exact hK _ _ h
    case skip => exact hK _ _ h
    case enter f args =>
      refine h.mono ?_
      rintro e w'' ⟨u, rfl, hb⟩
      exact hK _ _ hb
  | halt x w' => simp only [uponB] at h

theorem qval_run {qt : QtE} {call : CallE} (hqt : ∀ vs ρ o n, qt vs ρ o = some n → Sound P vs ρ o n) (hcall : CallOK P call) {t : List Value} {o : Oper} {v : Value} (h : qval qt call vs t o = some v)
    {ν : Mu} {w : World} (hG : G N0 W0 vs w ν) {a : Act} (hrel : ∀ x ∈ o.op.operands, R ν (vev t x) (a.eval x)) :
    uponB P (fun u w' => R ν v u ∧ G N0 W0 vs w' ν) ((execOp a.eval o).run P w) := by
  unfold qval at h
  split at h
  · rename_i u hx
    cases h
    obtain ⟨n', hr, hn⟩ := hqt _ _ _ _ hx N0 W0 w ν a.eval hG hrel
    cases n' <;> simp only [RN] at hn
    rw [hr]; exact ⟨hn, hG⟩
  · rename_i hx
    cases h
    obtain ⟨n', hr, hn⟩ := hqt _ _ _ _ hx N0 W0 w ν a.eval hG hrel
    cases n' <;> simp only [RN] at hn
    rw [hr]; exact ⟨R_undef, hG⟩
  · rename_i f args hx
    split at h
    case h_2 => cases h
    rename_i u _ hc
    simp only [Bool.cond_eq_ite] at h
    split at h
    case isFalse => cases h
    rename_i hk
    cases h
    obtain ⟨n', hr, hn⟩ := hqt _ _ _ _ hx N0 W0 w ν a.eval hG hrel
    cases n' <;> simp only [RN] at hn
    obtain ⟨rfl, hargs⟩ := hn
    rw [hr]
    refine (hcall _ _ _ _ _ hc (old w) w w ν _ hargs hG.lock).mono ?_
    rintro e W' ⟨μ1, hle1, hG', v', hv, rfl⟩
    exact ⟨v', rfl, known_rel hG hle1 hv hk, hG.world hG'.below⟩
  · cases h

theorem eval1_run {op : OpE} {call : CallE} (hop : ∀ vs ρ o n vs1, op vs ρ o = some (n, vs1) → SoundM P vs ρ o n vs1) (hcall : CallOK P call) {vs1 : VS} {t : List Value} {o : Oper} {v : Value} (h : eval1 op call vs t o = some (v, vs1))
    {ν : Mu} {w : World} (hG : G N0 W0 vs w ν) {a : Act} (hrel : ∀ x ∈ o.op.operands, R ν (vev t x) (a.eval x)) :
    uponB P (fun u w' => ∃ ν', ν.le ν' ∧ R ν' v u ∧ G N0 W0 vs1 w' ν') ((execOp a.eval o).run P w) := by
  unfold eval1 at h
  split at h
  · rename_i u vs2 hx
    cases h
    obtain ⟨ν1, w1, n', hle1, hG1, hr, hn⟩ := hop _ _ _ _ _ hx N0 W0 w ν a.eval hG hrel
    cases n' <;> simp only [RN] at hn
    rw [hr]; exact ⟨ν1, hle1, hn, hG1⟩
  · rename_i vs2 hx
    cases h
    obtain ⟨ν1, w1, n', hle1, hG1, hr, hn⟩ := hop _ _ _ _ _ hx N0 W0 w ν a.eval hG hrel
    cases n' <;> simp only [RN] at hn
    rw [hr]; exact ⟨ν1, hle1, R_undef, hG1⟩
  · rename_i f args vs2 hx
    split at h
    case h_2 => cases h
    rename_i u vs3 hc
    cases h
    obtain ⟨ν1, w1, n', hle1, hG1, hr, hn⟩ := hop _ _ _ _ _ hx N0 W0 w ν a.eval hG hrel
    cases n' <;> simp only [RN] at hn
    obtain ⟨rfl, hargs⟩ := hn
    rw [hr]
    refine (hcall _ _ _ _ _ hc N0 W0 w1 ν1 _ hargs hG1).mono ?_
    rintro e W' ⟨μ1, hle2, hG', v', hv, rfl⟩
    exact ⟨v', rfl, μ1, Mu.le_trans hle1 hle2, hv, hG'⟩
  · cases h

/- What is laid down of single operations: rows of constants; appending such a row; stores that may come in either order. -/
structure FX where
  flt : Oper → Option (List Value × Nat)
  apc : VS → (Operand → Value) → Oper → Nat → List Value → Option (Value × VS)
  cm : VS → (Operand → Value) → Oper → (Operand → Value) → Oper → Bool
def VS.bump (vs : VS) : VS := { heap := vs.heap, next := vs.next + 1, ng := vs.ng, objs := vs.objs, dfr := vs.dfr }
def rowV (z k : Nat) : Value := .slice (some ⟨z, 0, none⟩) k k

/- The same in all other phases that the operation may meet. -/
noncomputable def others (qt : QtE) (call : CallE) (t : List Value) (o : Oper) (v : Value) (tr : List (Nat × Nat)) (q : Nat) : Nat → List VS → Bool
  | _, [] => true
  | p, s :: l => (bif memP p p tr && !(Nat.beq p q) then
      (match qval qt call s t o with
        | some u => veq u v
        | none => false)
      else true) && others qt call t o v tr q (p + 1) l
theorem others_at {qt : QtE} {call : CallE} {t : List Value} {o : Oper} {v : Value} {tr : List (Nat × Nat)} {q : Nat} : ∀ (l : List VS) (p : Nat), others qt call t o v tr q p l = true →
    ∀ j s, l[j]? = some s → memP (p + j) (p + j) tr = true → p + j ≠ q → qval qt call s t o = some v
  | s :: l, p, h, 0, s', hs, h1, h3 => by
    simp only [List.getElem?_cons_zero, Option.some.injEq] at hs
    subst hs
    simp only [Nat.add_zero] at h1 h3
    simp only [others, Bool.and_eq_true, Bool.cond_eq_ite] at h
    have hc : memP p p tr = true ∧ (!Nat.beq p q) = true := ⟨h1, by
      cases hb : Nat.beq p q with
      | false => rfl
      | true => exact absurd (Nat.eq_of_beq_eq_true hb) (by omega)⟩
    have h := h.1
    rw [if_pos hc] at h
    split at h
    · rename_i u hu; rw [hu, veq_eq _ _ h]
    · cases h
  | s :: l, p, h, j + 1, s', hs, h1, h3 => by
    simp only [others, Bool.and_eq_true] at h
    exact others_at l (p + 1) h.2 j s' (by simpa using hs) (by rw [show p + 1 + j = p + (j + 1) by omega]; exact h1) (by omega)
def revApp : List VS → List VS → List VS
  | [], l => l
  | x :: h, l => revApp h (x :: l)
theorem revApp_get : ∀ (h l : List VS) (j : Nat) (s : VS), l[j]? = some s → (revApp h l)[h.length + j]? = some s
  | [], l, j, s, hs => by simpa [revApp] using hs
  | x :: h, l, j, s, hs => by
    simp only [revApp, List.length_cons]
    have := revApp_get h (x :: l) (j + 1) s (by simpa using hs)
    rw [show h.length + 1 + j = h.length + (j + 1) by omega]
    exact this
theorem revApp_app : ∀ (h l r : List VS), revApp h (l ++ r) = revApp h l ++ r
  | [], _, _ => rfl
  | x :: h, l, r => by simp only [revApp]; rw [← List.cons_append]; exact revApp_app h (x :: l) r

def isFst (x : Option (Nat × Nat)) (i : Nat) : Bool :=
  match x with
  | some (a, _) => Nat.beq a i
  | none => false
def isSnd (x : Option (Nat × Nat)) (i : Nat) : Bool :=
  match x with
  | some (a, b) => Nat.beq b i && Nat.blt a b
  | none => false
def trIs (a b : Nat) : List (Nat × Nat) → Bool
  | [] => true
  | (x, y) :: l => Nat.beq x a && Nat.beq y b && trIs a b l
def trIs2 (a b c d : Nat) : List (Nat × Nat) → Bool
  | [] => true
  | (x, y) :: l => ((Nat.beq x a && Nat.beq y b) || (Nat.beq x c && Nat.beq y d)) && trIs2 a b c d l
def trLoop : List (Nat × Nat) → Bool
  | [] => true
  | (x, y) :: l => Nat.beq x y && trLoop l
theorem trIs_mem {a b p q : Nat} : ∀ {l : List (Nat × Nat)}, trIs a b l = true → memP p q l = true → p = a ∧ q = b
  | (x, y) :: l, h, hm => by
    simp only [trIs, Bool.and_eq_true, Nat.beq_eq] at h
    simp only [memP, Bool.cond_eq_ite] at hm
    split at hm
    · rename_i hb
      simp only [Bool.and_eq_true, Nat.beq_eq] at hb
      omega
    · exact trIs_mem h.2 hm
theorem trIs2_mem {a b c d p q : Nat} : ∀ {l : List (Nat × Nat)}, trIs2 a b c d l = true → memP p q l = true → (p = a ∧ q = b) ∨ (p = c ∧ q = d)
  | (x, y) :: l, h, hm => by
    simp only [trIs2, Bool.and_eq_true, Bool.or_eq_true, Nat.beq_eq] at h
    simp only [memP, Bool.cond_eq_ite] at hm
    split at hm
    · rename_i hb
      simp only [Bool.and_eq_true, Nat.beq_eq] at hb
      omega
    · exact trIs2_mem h.2 hm
theorem trLoop_mem {p q : Nat} : ∀ {l : List (Nat × Nat)}, trLoop l = true → memP p q l = true → p = q
  | (x, y) :: l, h, hm => by
    simp only [trLoop, Bool.and_eq_true, Nat.beq_eq] at h
    simp only [memP, Bool.cond_eq_ite] at hm
    split at hm
    · rename_i hb
      simp only [Bool.and_eq_true, Nat.beq_eq] at hb
      omega
    · exact trLoop_mem h.2 hm

abbrev Pend := Nat × List Value × Nat
noncomputable def vhead (op : OpE) (qt : QtE) (fx : FX) (call : CallE) (ops : List Oper) (rs : RS) : Nat → List Oper → List Value → List VS → VS → Option Pend → Option (Oper × List Value) → Option (List Value × List VS × List VS)
  | _, [], t, _, cur, none, none => some (t, [cur], [])
  | _, [], _, _, _, _, _ => none
  | i, o :: rest, t, hist, cur, pend, mk =>
    bif isFst rs.flt i then
      match o.guard, fx.flt o, o.dst, pend with
      | none, some (cs, k), some d, none => bif trLoop (trOf rs i) then vhead op qt fx call ops rs (i + 1) rest t hist cur (some (d, cs, k)) mk else none
      | _, _, _, _ => none
    else bif isSnd rs.flt i then
      match o.guard, pend, mk with
      | none, some (d, cs, k), none =>
        bif trIs hist.length (hist.length + 1) (trOf rs i) then
          match fx.apc cur.bump (vev (vput t (some d) (rowV cur.next k))) o k cs with
          | some (v, s1) => match vhead op qt fx call ops rs (i + 1) rest (vput (vput t (some d) (rowV cur.next k)) o.dst v) (cur :: hist) s1 none none with
            | some (t1, fs, ex) => some (t1, cur :: fs, ex)
            | none => none
          | none => none
        else none
      | _, _, _ => none
    else bif isFst rs.cm i then
      match o.guard, mk, op cur (vev t) o with
      | none, none, some (.skip, s1) =>
        bif trIs2 hist.length (hist.length + 1) (hist.length + 3) (hist.length + 2) (trOf rs i) then
          match vhead op qt fx call ops rs (i + 1) rest (vput t o.dst undef) (cur :: hist) s1 pend (some (o, t)) with
          | some (t1, fs, ex) => some (t1, cur :: fs, ex)
          | none => none
        else none
      | _, _, _ => none
    else bif isSnd rs.cm i then
      match o.guard, mk, hist, rest, pend with
      | none, some (oi, ti), h :: _, [], none => match op cur (vev t) o, op h (vev t) o with
        | some (.skip, s1), some (.skip, sx) =>
          bif fx.cm h (vev ti) oi (vev t) o && trIs2 hist.length (hist.length + 1) (hist.length - 1) (hist.length + 2) (trOf rs i) then some (vput t o.dst undef, [cur, s1], [sx]) else none
        | _, _ => none
      | _, _, _, _, _ => none
    else bif memN i rs.eff then
      match mk with
      | none => bif trIs hist.length (hist.length + 1) (trOf rs i) then
          bif vwanted ops t o then
            match eval1 op call cur t o with
            | some (v, vs1) => match vhead op qt fx call ops rs (i + 1) rest (vput t o.dst v) (cur :: hist) vs1 pend none with
              | some (t1, fs, ex) => some (t1, cur :: fs, ex)
              | none => none
            | none => none
          else match vhead op qt fx call ops rs (i + 1) rest (vput t o.dst undef) (cur :: hist) cur pend none with
            | some (t1, fs, ex) => some (t1, cur :: fs, ex)
            | none => none
        else none
      | some _ => none
    else bif trLoop (trOf rs i) then
      bif vwanted ops t o then
        match qval qt call cur t o with
        | some v => match vhead op qt fx call ops rs (i + 1) rest (vput t o.dst v) hist cur pend mk with
          | some (t1, fs, ex) => bif others qt call t o v (trOf rs i) hist.length 0 (revApp hist fs ++ ex) then some (t1, fs, ex) else none
          | none => none
        | none => none
      else vhead op qt fx call ops rs (i + 1) rest (vput t o.dst undef) hist cur pend mk
    else none

theorem eval1_keeps {op : OpE} {call : CallE} (hng : ∀ vs ρ o n vs1, op vs ρ o = some (n, vs1) → Keeps vs vs1) (hngc : ∀ f args vs v vs1, call f args vs = some (v, vs1) → Keeps vs vs1) {vs1 : VS} {t : List Value} {o : Oper} {v : Value} (h : eval1 op call vs t o = some (v, vs1)) : Keeps vs vs1 := by
  unfold eval1 at h
  split at h
  · rename_i hx; cases h; exact hng _ _ _ _ _ hx
  · rename_i hx; cases h; exact hng _ _ _ _ _ hx
  · rename_i hx
    split at h
    · rename_i hc
      cases h
      have h1 := hng _ _ _ _ _ hx
      have h2 := hngc _ _ _ _ _ hc
      exact ⟨h2.1.trans h1.1, h2.2.trans h1.2⟩
    · cases h
  · cases h

end Go.Ev
