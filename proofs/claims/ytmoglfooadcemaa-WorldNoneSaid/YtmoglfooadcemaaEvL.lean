/-
  The evaluator on code, and what it says of the machine.
-/
import Derived.Test.YtmoglfooadcemaaEv1
namespace Go.Ev
open Go.RowKit

variable {P : Program} {T : TE} [TOk P T] {N0 : Nat → Prop} {W0 W : World} {vs : VS} {μ : Mu}

/- What may be asked of code once, ahead of all runs. -/
def lnth : List VS → Nat → Option VS
  | [], _ => none
  | s :: _, 0 => some s
  | _ :: l, n + 1 => lnth l n
theorem lnth_eq : ∀ (l : List VS) (n : Nat), lnth l n = l[n]?
  | [], n => by simp [lnth]
  | s :: l, 0 => by simp [lnth]
  | s :: l, n + 1 => by simp [lnth, lnth_eq l n]
def drawOk (tl : Nat → Option RS) (id : Nat) (ops : Array Oper) : Bool :=
  match tl id with
  | none => Region.lexB .any ops
  | some rs => headOk .any ops rs.n && phasesOk .any ops rs && dataOk .any ops rs.n && fltOk .any ops rs
def codeOk (ng : Nat) (tl : Nat → Option RS) : Code → Bool
  | .region id ops draw => ops.toList.all (fun o => o.op.operands.toList.all (okOperand ng)) && (!draw || drawOk tl id ops)
  | .seq a b => codeOk ng tl a && codeOk ng tl b
  | .cond c a b => okOperand ng c && codeOk ng tl a && codeOk ng tl b
  | .block _ b => codeOk ng tl b
  | .loop b => codeOk ng tl b
  | _ => true

noncomputable def vcode (op : OpE) (qt : QtE) (fx : FX) (call : CallE) (tl : Nat → Option RS) : Nat → Code → List Value → VS → Option VX
  | 0, _, _, _ => none
  | n + 1, c, t, vs =>
    match c with
    | .skip => some (.normal t vs)
    | .region id ops draw =>
      bif draw then match tl id with
        | none => match vquiets qt call ops.toList ops.toList t vs with
          | some t1 => some (.normal t1 vs)
          | none => none
        | some rs => match vhead op qt fx call ops.toList rs 0 (ops.toList.take rs.n) t [] vs none none with
          | some (t1, fs, ex) => match lnth (fs ++ ex) rs.fin with
            | some s => bif Nat.beq s.ng vs.ng then vops op call ops.toList (ops.toList.drop rs.n) t1 s else none
            | none => none
          | none => none
      else vops op call ops.toList ops.toList t vs
    | .seq a b => match vcode op qt fx call tl n a t vs with
      | some (.normal t1 vs1) => vcode op qt fx call tl n b t1 vs1
      | r => r
    | .cond x a b => match vev t x with
      | .bool b1 => bif b1 then vcode op qt fx call tl n a t vs else vcode op qt fx call tl n b t vs
      | _ => none
    | .block id b => match vcode op qt fx call tl n b t vs with
      | some (.exit i t1 vs1) => bif Nat.beq i id then some (.normal t1 vs1) else some (.exit i t1 vs1)
      | r => r
    | .loop b => match vcode op qt fx call tl n b t vs with
      | some (.normal t1 vs1) => vcode op qt fx call tl n (.loop b) t1 vs1
      | r => r
    | .exit id => some (.exit id t vs)
    | .ret => some (.ret t vs)
    | _ => none

/- The rounds of a loop. -/
def LoopWp (P : Program) (c : Code) (Q : Exit → Act → World → Prop) (a : Act) (w : World) : Prop :=
  ∀ (b : Frame) (k : List Item) (cs : List Frame), ∃ e a' w', Q e a' w' ∧ Arrives P (lone (b.at a (.code c :: .inLoop c :: k)) cs w) b k cs e a' w'
theorem wp_of_loop {c : Code} {Q : Exit → Act → World → Prop} {a : Act} {w : World} (h : LoopWp P c Q a w) : (Code.loop c).wp P Q a w := fun b k cs =>
  let ⟨e, a', w', hq, harr⟩ := h b k cs
  ⟨e, a', w', hq, .of_steps (.one step_loop) harr⟩
theorem loop_once {c : Code} {Q : Exit → Act → World → Prop} {a : Act} {w : World} (h : c.wp P (Exit.then (LoopWp P c Q) Q) a w) : LoopWp P c Q a w := by
  intro b k cs
  obtain ⟨e, a₁, w₁, hq, harr⟩ := h b (.inLoop c :: k) cs
  cases e with
  | normal =>
    obtain ⟨e₂, a₂, w₂, hq₂, harr₂⟩ := hq b k cs
    exact ⟨e₂, a₂, w₂, hq₂, .of_steps (Steps.trans harr (.one step_inLoop)) harr₂⟩
  | exit id => exact ⟨_, a₁, w₁, hq, .pass (x := .inLoop c) rfl (fun _ _ => .inl (by simp)) harr⟩
  | goto l => exact ⟨_, a₁, w₁, hq, .pass (x := .inLoop c) rfl (fun _ _ => .inl (by simp)) harr⟩
  | ret => exact ⟨_, a₁, w₁, hq, .pass (x := .inLoop c) rfl (fun _ _ => .inl (by simp)) harr⟩
  | panic ch => exact ⟨_, a₁, w₁, hq, .pass (x := .inLoop c) rfl (fun _ _ => .inl (by simp)) harr⟩
  | outgrown => exact ⟨_, a₁, w₁, hq, .pass (x := .inLoop c) rfl (fun _ _ => .inl (by simp)) harr⟩
def wpL (P : Program) (c : Code) (Q : Exit → Act → World → Prop) (a : Act) (w : World) : Prop :=
  match c with
  | .loop b => LoopWp P b Q a w
  | c => c.wp P Q a w
theorem wp_of_wpL {c : Code} {Q : Exit → Act → World → Prop} {a : Act} {w : World} (h : wpL P c Q a w) : c.wp P Q a w := by
  cases c <;> first
    | exact h
    | exact wp_of_loop h
theorem LoopWp.mono {c : Code} {Q Q' : Exit → Act → World → Prop} {a : Act} {w : World} (h : LoopWp P c Q a w) (hq : ∀ e a w, Q e a w → Q' e a w) : LoopWp P c Q' a w := fun b k cs =>
  let ⟨e, a', w', q, r⟩ := h b k cs; ⟨e, a', w', hq _ _ _ q, r⟩

structure EngOk (P : Program) (opE : OpE) (qtE : QtE) (fx : FX) : Prop where
  op : ∀ vs ρ o n vs1, opE vs ρ o = some (n, vs1) → SoundM P vs ρ o n vs1
  ng : ∀ vs ρ o n vs1, opE vs ρ o = some (n, vs1) → Keeps vs vs1
  qt : ∀ vs ρ o n, qtE vs ρ o = some n → Sound P vs ρ o n
  mixed : P.follows .mixedOrders = true
  names : NamesOk P
  fxr : FxRun P fx
  fxk : FxOk opE fx

def VX.ng : VX → Nat
  | .normal _ vs => vs.ng
  | .exit _ _ vs => vs.ng
  | .ret _ vs => vs.ng
  | .pan _ _ vs => vs.ng

theorem vops_ng {op : OpE} {call : CallE} (hng : ∀ vs ρ o n vs1, op vs ρ o = some (n, vs1) → Keeps vs vs1) (hngc : ∀ f args vs v vs1, call f args vs = some (v, vs1) → Keeps vs vs1) (ops : List Oper) :
    ∀ (l : List Oper) (t : List Value) (vs : VS) x, vops op call ops l t vs = some x → x.ng = vs.ng
  | [], t, vs, x, h => by simp only [vops] at h; cases h; rfl
  | o :: l, t, vs, x, h => by
    simp only [vops, Bool.cond_eq_ite] at h
    split at h
    · split at h
      · rename_i hx; rw [vops_ng hng hngc ops l _ _ _ h, (hng _ _ _ _ _ hx).1]
      · rename_i hx; rw [vops_ng hng hngc ops l _ _ _ h, (hng _ _ _ _ _ hx).1]
      · rename_i hx
        split at h
        · rename_i hc; rw [vops_ng hng hngc ops l _ _ _ h, (hngc _ _ _ _ _ hc).1, (hng _ _ _ _ _ hx).1]
        · rename_i hc; cases h; exact ((hngc _ _ _ _ _ hc).1).trans (hng _ _ _ _ _ hx).1
        · cases h
      · rename_i hx; rw [vops_ng hng hngc ops l _ _ _ h]; exact (hng _ _ _ _ _ hx).1
      · split at h
        · cases h; rfl
        · cases h
    · exact vops_ng hng hngc ops l _ _ _ h

theorem vcode_ng {op : OpE} {qt : QtE} {fx : FX} {call : CallE} {tl : Nat → Option RS} (hng : ∀ vs ρ o n vs1, op vs ρ o = some (n, vs1) → Keeps vs vs1) (hngc : ∀ f args vs v vs1, call f args vs = some (v, vs1) → Keeps vs vs1) :
    ∀ (n : Nat) (c : Code) (t : List Value) (vs : VS) (x : VX), vcode op qt fx call tl n c t vs = some x → x.ng = vs.ng
  | 0, _, _, _, _, h => by simp [vcode] at h
  | n + 1, c, t, vs, x, h => by
    unfold vcode at h
    split at h
    · cases h; rfl
    · simp only [Bool.cond_eq_ite] at h
      split at h
      · split at h
        · split at h
          · cases h; rfl
          · cases h
        · split at h
          · split at h
            · split at h
              · rename_i hb; rw [vops_ng hng hngc _ _ _ _ _ h, Nat.eq_of_beq_eq_true hb]
              · cases h
            · cases h
          · cases h
      · exact vops_ng hng hngc _ _ _ _ _ h
    · split at h
      · rename_i hx; rw [vcode_ng hng hngc n _ _ _ _ h]; exact vcode_ng hng hngc n _ _ _ _ hx
      · exact vcode_ng hng hngc n _ _ _ _ h
    · split at h
      · simp only [Bool.cond_eq_ite] at h
        split at h <;> exact vcode_ng hng hngc n _ _ _ _ h
      · cases h
    · split at h
      · rename_i hx
        simp only [Bool.cond_eq_ite] at h
        have := vcode_ng hng hngc n _ _ _ _ hx
        split at h <;> (cases h; exact this)
      · exact vcode_ng hng hngc n _ _ _ _ h
    · split at h
      · rename_i hx; rw [vcode_ng hng hngc n _ _ _ _ h]; exact vcode_ng hng hngc n _ _ _ _ hx
      · exact vcode_ng hng hngc n _ _ _ _ h
    · cases h; rfl
    · cases h; rfl
    · cases h

theorem vcode_sound {op : OpE} {qt : QtE} {fx : FX} {call : CallE} (hE : EngOk P op qt fx) (hcall : CallOK P call) (hngc : ∀ f args vs v vs1, call f args vs = some (v, vs1) → Keeps vs vs1) {ng : Nat} {tl : Nat → Option RS} :
    ∀ (n : Nat) (c : Code) (t : List Value) (vs : VS) (x : VX), codeOk ng tl c = true → vs.ng = ng → vcode op qt fx call tl n c t vs = some x →
      ∀ (N0 : Nat → Prop) (W0 W : World) (μ : Mu) (a : Act), DR μ vs.dfr a.defers → RA μ t.toArray a.tmps → G N0 W0 vs W μ → wpL P c (Post N0 W0 μ x) a W
  | 0, _, _, _, _, _, _, h, _, _, _, _, _, _, _, _ => by simp [vcode] at h
  | n + 1, c, t, vs, x, hok, hng, h, N0, W0, W, μ, a, hd, ht, hG => by
    have ih := vcode_sound hE hcall hngc (ng := ng) (tl := tl) n
    have here : St N0 W0 μ t vs a W := ⟨μ, Mu.le_refl _, ht, hG, hd⟩
    unfold vcode at h
    split at h
    · cases h; exact wp_skip ⟨rfl, here⟩
    · rename_i id ops draw
      simp only [codeOk, Bool.and_eq_true, List.all_eq_true, Bool.or_eq_true, Bool.not_eq_true'] at hok
      obtain ⟨hops, hdr⟩ := hok
      have hops' : ∀ o ∈ ops.toList, ∀ y ∈ o.op.operands, okOperand ng y = true := fun o ho y hy => hops o ho y (by simpa using hy)
      cases draw with
      | true =>
        simp only [cond_true] at h
        have hdr := hdr.resolve_left (by simp)
        unfold drawOk at hdr
        split at h
        case h_2 =>
          rename_i rs hm
          rw [hm] at hdr
          simp only [Bool.and_eq_true] at hdr
          obtain ⟨⟨⟨hdr1, hdr2⟩, hdr3⟩, hdr4⟩ := hdr
          have hj : ∀ j, (ops.toList.drop rs.n)[j]? = ops[rs.n + j]? := fun j => by simp [List.getElem?_drop]
          split at h
          case h_2 => cases h
          rename_i t1 fs ex hx
          split at h
          case h_2 => cases h
          rename_i s hs
          simp only [Bool.cond_eq_ite] at h
          split at h
          case isFalse => cases h
          rename_i hsng
          have hsng := Nat.eq_of_beq_eq_true hsng
          rw [lnth_eq] at hs
          obtain ⟨⟨r, hr⟩, hk1, hk2⟩ := vhead_keeps hE.ng hE.fxk hngc _ _ _ _ _ _ _ _ _ _ hx
          have hkeep : Keeps vs s := (List.mem_append.1 (List.mem_of_getElem? hs)).elim (hk1 s) (hk2 (fun h hh => by simp at hh) s)
          refine wp_region_head hE.op hE.qt hE.fxr hE.fxk hcall hE.ng hngc rs hE.mixed hdr1 hdr2 hdr3 hdr4 hx hs (fun o ho => by rw [hng]; exact hops' o ho) (hG.drawn _) hd ht (fun a' w' ν hle q1 q2 q3 => ?_)
          have := vops_sound (P := P) (N0 := N0) (W0 := W0) (Q := Post N0 W0 μ x) hE.op hcall ops hE.ng hngc (ops.toList.drop rs.n) rs.n t1 s x hj (fun o ho => hops' o (List.mem_of_mem_drop ho)) (by rw [hsng, hng]) h w' ν a' (by rw [hkeep.2]; exact q2) q1 q3 (fun e a' w q => q.mono hle)
          rw [wpOps_eq_wpList _ rs.n hj] at this
          exact this
        rename_i hm
        rw [hm] at hdr
        split at h
        case h_2 => cases h
        rename_i t1 hx
        cases h
        refine wp_region_quiet (C := fun w => G N0 W0 vs w μ) hE.mixed hdr (hG.drawn _) ?_
        exact vquiets_sound hE.qt hcall ops _ _ _ hops' hng hx a hd ht (hG.drawn (W.drawn + 1)) (fun a' h1 h2 w' hw => ⟨rfl, μ, Mu.le_refl _, h2, hw, h1⟩)
      | false =>
        simp only [cond_false] at h
        refine wp_region ?_
        have := vops_sound (P := P) (N0 := N0) (W0 := W0) (Q := Post N0 W0 μ x) hE.op hcall ops hE.ng hngc ops.toList 0 t vs x (fun j => by simp) hops' hng h W μ a hd ht hG (fun e a' w s => s)
        simpa [List.range_eq_range'] using this
    · rename_i c1 c2
      simp only [codeOk, Bool.and_eq_true] at hok
      refine wp_seq ?_
      split at h
      · rename_i t1 vs1 hx
        refine wp_mono (wp_of_wpL (ih c1 t vs _ hok.1 hng hx N0 W0 W μ a hd ht hG)) ?_
        rintro e a' w ⟨rfl, μ1, hle, ht', hG', hd'⟩
        refine wp_mono (wp_of_wpL (ih c2 t1 vs1 x hok.2 (by rw [← hng]; exact vcode_ng hE.ng hngc n _ _ _ _ hx) h N0 W0 w μ1 a' hd' ht' hG')) fun e a w h => h.mono hle
      · rename_i hnn
        refine wp_mono (wp_of_wpL (ih c1 t vs x hok.1 hng h N0 W0 W μ a hd ht hG)) ?_
        intro e a' w hp
        cases x with
        | normal t1 vs1 => exact absurd h (hnn t1 vs1)
        | exit id t1 vs1 => obtain ⟨rfl, hs⟩ := hp; exact ⟨rfl, hs⟩
        | ret t1 vs1 => obtain ⟨rfl, hs⟩ := hp; exact ⟨rfl, hs⟩
        | pan v t1 vs1 => obtain ⟨m, v', q1, rfl, q2⟩ := hp; exact ⟨m, v', q1, rfl, q2⟩
    · rename_i y c1 c2
      simp only [codeOk, Bool.and_eq_true] at hok
      split at h
      case h_2 => cases h
      rename_i b1 hb
      have hev := ev_rel hG ht (x := y) (by rw [hng]; exact hok.1.1)
      rw [hb] at hev
      refine wp_cond (t := b1) hev.inv_bool ?_
      cases b1 with
      | true => exact wp_of_wpL (ih c1 t vs x hok.1.2 hng h N0 W0 W μ a hd ht hG)
      | false => exact wp_of_wpL (ih c2 t vs x hok.2 hng h N0 W0 W μ a hd ht hG)
    · rename_i id c1
      simp only [codeOk] at hok
      refine wp_block ?_
      split at h
      · rename_i i t1 vs1 hx
        refine wp_mono (wp_of_wpL (ih c1 t vs _ hok hng hx N0 W0 W μ a hd ht hG)) ?_
        rintro e a' w ⟨rfl, hs⟩
        simp only [Bool.cond_eq_ite] at h
        split at h
        · rename_i hi
          have := Nat.eq_of_beq_eq_true hi
          cases h
          simp only [Exit.inBlock, this, if_true]
          exact ⟨rfl, hs⟩
        · rename_i hi
          cases h
          have : ¬ i = id := fun e => hi (by rw [e]; exact Nat.beq_refl _)
          simp only [Exit.inBlock, this, if_false]
          exact ⟨rfl, hs⟩
      · rename_i hnn
        refine wp_mono (wp_of_wpL (ih c1 t vs x hok hng h N0 W0 W μ a hd ht hG)) ?_
        intro e a' w hp
        cases x with
        | normal t1 vs1 => obtain ⟨rfl, hs⟩ := hp; exact ⟨rfl, hs⟩
        | exit i t1 vs1 => exact absurd h (hnn i t1 vs1)
        | ret t1 vs1 => obtain ⟨rfl, hs⟩ := hp; exact ⟨rfl, hs⟩
        | pan v t1 vs1 => obtain ⟨m, v', q1, rfl, q2⟩ := hp; exact ⟨m, v', q1, rfl, q2⟩
    · rename_i c1
      have hok1 : codeOk ng tl c1 = true := by simpa only [codeOk] using hok
      refine loop_once ?_
      split at h
      · rename_i t1 vs1 hx
        refine wp_mono (wp_of_wpL (ih c1 t vs _ hok1 hng hx N0 W0 W μ a hd ht hG)) ?_
        rintro e a' w ⟨rfl, μ1, hle, ht', hG', hd'⟩
        have := ih (.loop c1) t1 vs1 x hok (by rw [← hng]; exact vcode_ng hE.ng hngc n _ _ _ _ hx) h N0 W0 w μ1 a' hd' ht' hG'
        exact LoopWp.mono this fun e a w h => h.mono hle
      · rename_i hnn
        refine wp_mono (wp_of_wpL (ih c1 t vs x hok1 hng h N0 W0 W μ a hd ht hG)) ?_
        intro e a' w hp
        cases x with
        | normal t1 vs1 => exact absurd h (hnn t1 vs1)
        | exit id t1 vs1 => obtain ⟨rfl, hs⟩ := hp; exact ⟨rfl, hs⟩
        | ret t1 vs1 => obtain ⟨rfl, hs⟩ := hp; exact ⟨rfl, hs⟩
        | pan v t1 vs1 => obtain ⟨m, v', q1, rfl, q2⟩ := hp; exact ⟨m, v', q1, rfl, q2⟩
    · cases h; exact wp_exit ⟨rfl, here⟩
    · cases h; exact wp_ret ⟨rfl, here⟩
    · cases h

end Go.Ev
