/-
  The evaluator with calls that are known already, and what it says of a call from a world.
-/
import Derived.Test.YtmoglfooadcemaaEvR
import Derived.Test.YtmoglfooadcemaaEvS
namespace Go.Ev
open Go.RowKit

variable {P : Program} {T : TE} [TOk P T] {N0 : Nat → Prop} {W0 W : World} {vs : VS} {μ : Mu}

def KnownOk (P : Program) (ng : Nat) (known : FuncId → List Value → Option Value) : Prop :=
  ∀ f args v, known f args = some v → plainL args = true ∧ plainB v = true ∧ ∀ W : World, ng ≤ W.heap.size → Calls P f ⟨args⟩ W fun e W' => e = .returned v ∧ Below W.heap.size W W'

theorem G.ng_le (h : G N0 W0 vs W μ) {ng : Nat} (hn : vs.ng = ng) : ng ≤ W.heap.size := by
  subst hn
  rcases Nat.eq_zero_or_pos vs.ng with h0 | h0
  · omega
  · obtain ⟨l, h1, h2, _⟩ := h.glo (vs.ng - 1) (by omega)
    have := h.globs _ _ h1
    omega

noncomputable def vcallK (T : TE) (op : OpE) (qt : QtE) (fx : FX) (ng : Nat) (tbl : Nat → Option VF) (known : FuncId → List Value → Option Value) (fuel : Nat) : Nat → CallE
  | 0, _, _, _ => none
  | d + 1, f, args, vs => bif Nat.beq vs.ng ng then match known f args.toList with
    | some v => some (.ret v, vs)
    | none => match tbl f with
    | none => none
    | some F => match vcode op qt fx (vcallK T op qt fx ng tbl known fuel d) (tlOf F.tails) fuel F.body (pad args.toList F.ntmps) (vs.off []) with
      | some (.ret t vs1) => vback ng vs.dfr (vleave T op qt fx ng tbl fuel (vcallK T op qt fx ng tbl known fuel d) F.results t vs1.dfr .ret vs1)
      | some (.normal t vs1) => vback ng vs.dfr (vleave T op qt fx ng tbl fuel (vcallK T op qt fx ng tbl known fuel d) F.results t vs1.dfr .ret vs1)
      | some (.pan v t vs1) => vback ng vs.dfr (vleave T op qt fx ng tbl fuel (vcallK T op qt fx ng tbl known fuel d) F.results t vs1.dfr (.pan v) vs1)
      | _ => none
    else none


omit [TOk P T] in
theorem vcallK_ng {op : OpE} {qt : QtE} {fx : FX} {ng : Nat} {tbl : Nat → Option VF} {known : FuncId → List Value → Option Value} {fuel : Nat} : ∀ (d : Nat) f args vs v vs1, vcallK T op qt fx ng tbl known fuel d f args vs = some (v, vs1) → Keeps vs vs1
  | 0, _, _, _, _, _, h => by simp [vcallK] at h
  | d + 1, f, args, vs, v, vs1, h => by
    simp only [vcallK, Bool.cond_eq_ite] at h
    split at h
    case isFalse => cases h
    rename_i hng
    have hng := Nat.eq_of_beq_eq_true hng
    split at h
    · cases h; exact ⟨rfl, rfl⟩
    split at h
    case h_1 => cases h
    split at h
    · obtain ⟨vs2, _, h2, rfl⟩ := vback_some h; exact ⟨h2.trans hng.symm, rfl⟩
    · obtain ⟨vs2, _, h2, rfl⟩ := vback_some h; exact ⟨h2.trans hng.symm, rfl⟩
    · obtain ⟨vs2, _, h2, rfl⟩ := vback_some h; exact ⟨h2.trans hng.symm, rfl⟩
    · cases h

theorem vcallK_sound {op : OpE} {qt : QtE} {fx : FX} {tbl : Nat → Option VF} {known : FuncId → List Value → Option Value} {fuel ng : Nat} (hE : EngOk P op qt fx) (hT : TblOk P ng tbl) (hK : KnownOk P ng known) : ∀ (d : Nat), CallOK P (vcallK T op qt fx ng tbl known fuel d)
  | 0 => fun _ _ _ _ _ h => by simp [vcallK] at h
  | d + 1 => by
    intro f args vs e vs1 h N0 W0 W μ args' ha hG
    simp only [vcallK, Bool.cond_eq_ite] at h
    split at h
    case isFalse => cases h
    rename_i hng
    have hng := Nat.eq_of_beq_eq_true hng
    split at h
    · rename_i v hv
      cases h
      obtain ⟨h1, h2, h3⟩ := hK f args.toList v hv
      obtain rfl : args' = args := ha.plain (by cases args; simpa [plainA] using h1)
      refine (h3 W (hG.ng_le hng)).mono ?_
      rintro e' W' ⟨rfl, hb⟩
      exact ⟨μ, Mu.le_refl _, hG.world (.of_below hb), v, plain_self μ v h2, rfl⟩
    split at h
    case h_1 => cases h
    rename_i F hF
    obtain ⟨hok, fn, hfn, hb, hn, hr⟩ := hT f F hF
    refine calls_of_wp_defers hfn hb ?_
    rw [hn]
    have hcall := vcallK_sound (fuel := fuel) hE hT hK d
    have hngc := vcallK_ng (T := T) (op := op) (qt := qt) (fx := fx) (ng := ng) (tbl := tbl) (known := known) (fuel := fuel) d
    have fin : ∀ (t : List Value) (vs2 : VS) (m : VM) (u : FrameMode) (a' : Act) (w : World) (μ1 : Mu), vback ng vs.dfr (vleave T op qt fx ng tbl fuel (vcallK T op qt fx ng tbl known fuel d) F.results t vs2.dfr m vs2) = some (e, vs1) →
        μ.le μ1 → RM μ1 m u → RA μ1 t.toArray a'.tmps → G N0 W0 vs2 w μ1 → DR μ1 vs2.dfr a'.defers → Leaves P fn a'.tmps (fun e' W' => ∃ μ1, μ.le μ1 ∧ G N0 W0 vs1 W' μ1 ∧ REnd μ1 e e') a'.defers u w := by
      intro t vs2 m u a' w μ1 h hle hm ht hG hd
      obtain ⟨vs3, h1, _, rfl⟩ := vback_some h
      have key := vleave_sound (μ0 := μ) hE hT hcall hngc hr vs2.dfr m vs2 h1 w μ1 u a'.defers hle hd hm ht hG
      exact leaves_mono (fun e' W' h => let ⟨m, q1, q2, q3⟩ := h; ⟨m, q1, q2.put_off _, q3⟩) a'.defers u w key
    split at h
    · rename_i t vs2 hx
      refine wp_mono (wp_of_wpL (vcode_sound hE hcall hngc (ng := ng) fuel F.body _ (vs.off []) _ hok hng hx N0 W0 W μ _ trivial (pad_rel ha F.ntmps) (hG.put_off []))) ?_
      rintro e a' w ⟨rfl, μ1, hle, ht', hG', hd'⟩
      exact fin t _ .ret .returning a' w μ1 h hle rfl ht' hG' hd'
    · rename_i t vs2 hx
      refine wp_mono (wp_of_wpL (vcode_sound hE hcall hngc (ng := ng) fuel F.body _ (vs.off []) _ hok hng hx N0 W0 W μ _ trivial (pad_rel ha F.ntmps) (hG.put_off []))) ?_
      rintro e a' w ⟨rfl, μ1, hle, ht', hG', hd'⟩
      exact fin t _ .ret .returning a' w μ1 h hle rfl ht' hG' hd'
    · rename_i v t vs2 hx
      refine wp_mono (wp_of_wpL (vcode_sound hE hcall hngc (ng := ng) fuel F.body _ (vs.off []) _ hok hng hx N0 W0 W μ _ trivial (pad_rel ha F.ntmps) (hG.put_off []))) ?_
      rintro e a' w ⟨μ1, v', hle, rfl, hv, ht', hG', hd'⟩
      exact fin t _ (.pan v) (.panicking (panicked v')) a' w μ1 h hle ⟨v', hv, rfl⟩ ht' hG' hd'
    · cases h


/- What is known, as a list. -/
def sameBytes : List UInt8 → List UInt8 → Bool
  | [], [] => true
  | a :: l, b :: r => Nat.beq a.toNat b.toNat && sameBytes l r
  | _, _ => false
theorem sameBytes_eq : ∀ {l r : List UInt8}, sameBytes l r = true → l = r
  | [], [], _ => rfl
  | a :: l, b :: r, h => by
    simp only [sameBytes, Bool.and_eq_true, Nat.beq_eq] at h
    rw [UInt8.toNat_inj.mp h.1, sameBytes_eq h.2]
  | [], _ :: _, h => by simp [sameBytes] at h
  | _ :: _, [], h => by simp [sameBytes] at h
def sameText (s t : ByteArray) : Bool := sameBytes s.data.toList t.data.toList
def sameV : Value → Value → Bool
  | .string s, .string t => sameText s t
  | .int k n, .int k' m => decide (k = k') && decide (n = m)
  | .bool a, .bool b => a == b
  | .pointer none, .pointer none => true
  | _, _ => false
theorem sameV_eq {a b : Value} (h : sameV a b = true) : a = b := by
  unfold sameV at h
  split at h
  · rename_i s t
    have := sameBytes_eq (by simpa [sameText] using h)
    obtain ⟨⟨s⟩⟩ := s; obtain ⟨⟨t⟩⟩ := t
    simp at this; rw [this]
  · simp only [Bool.and_eq_true, decide_eq_true_eq] at h; rw [h.1, h.2]
  · simpa using h
  · rfl
  · cases h
def sameL : List Value → List Value → Bool
  | [], [] => true
  | a :: l, b :: r => sameV a b && sameL l r
  | _, _ => false
theorem sameL_eq : ∀ {l r : List Value}, sameL l r = true → l = r
  | [], [], _ => rfl
  | a :: l, b :: r, h => by
    simp only [sameL, Bool.and_eq_true] at h
    rw [sameV_eq h.1, sameL_eq h.2]
  | [], _ :: _, h => by simp [sameL] at h
  | _ :: _, [], h => by simp [sameL] at h
def seek : List (Nat × List Value × Value) → FuncId → List Value → Option Value
  | [], _, _ => none
  | (g, as, v) :: l, f, args => bif Nat.beq g f && sameL as args then some v else seek l f args
structure Knows (P : Program) (ng : Nat) (f : FuncId) (args : List Value) (v : Value) : Prop where
  ins : plainL args = true
  out : plainB v = true
  call : ∀ W : World, ng ≤ W.heap.size → Calls P f ⟨args⟩ W fun e W' => e = .returned v ∧ Below W.heap.size W W'
theorem seek_nil {ng : Nat} : KnownOk P ng (seek []) := fun _ _ _ h => by simp [seek] at h
theorem seek_cons {ng g : Nat} {as : List Value} {v : Value} {l : List (Nat × List Value × Value)} (h : Knows P ng g as v) (hl : KnownOk P ng (seek l)) : KnownOk P ng (seek ((g, as, v) :: l)) := by
  intro f args u hu
  simp only [seek, Bool.cond_eq_ite, Bool.and_eq_true, Nat.beq_eq] at hu
  split at hu
  · rename_i hb
    obtain ⟨rfl, he⟩ := hb
    obtain rfl := sameL_eq he
    cases hu
    exact ⟨h.ins, h.out, h.call⟩
  · exact hl f args u hu

theorem toldK (hN : NamesOk P) (hm : P.follows .mixedOrders = true) {ng fuel d : Nat} {tbl : Nat → Option VF} (hT : TblOk P ng tbl) {known : FuncId → List Value → Option Value} (hK : KnownOk P ng known) {f : FuncId} {args : List Value} {v : Value} {vs1 : VS} (hp : plainL args = true) (hv : plainB v = true)
    (h : vcallK T (vop P T) (vquietM P T) (vfx T) ng tbl known fuel d f ⟨args⟩ ⟨[], ng, ng, [], []⟩ = some (.ret v, vs1)) : Knows P ng f args v := by
  refine ⟨hp, hv, fun W hW => ?_⟩
  refine (vcallK_sound (engOk hN hm) hT hK d f ⟨args⟩ _ (.ret v) vs1 h (old W) W W (startMu ng) ⟨args⟩ (RA_self _ (by simpa [plainA] using hp)) (G_start W ng hW)).mono ?_
  rintro e W' ⟨μ1, _, hG, v', hr, rfl⟩
  exact ⟨by rw [hr.plain hv], hG.below.below⟩

/- A known call out of what is known already: 'v' is what it hands back. -/
def sameW : Value → Value → Bool
  | .tuple a, .tuple b => sameL a.toList b.toList
  | a, b => sameV a b
theorem sameW_eq {a b : Value} (h : sameW a b = true) : a = b := by
  unfold sameW at h
  split at h
  · rename_i a b; rw [Array.ext' (sameL_eq h)]
  · exact sameV_eq h
def saysV (v : Value) : Option (VE × VS) → Bool
  | some (.ret u, _) => sameW u v
  | _ => false
theorem saysV_some {v : Value} {x : Option (VE × VS)} (h : saysV v x = true) : ∃ vs1, x = some (.ret v, vs1) := by
  unfold saysV at h
  split at h
  · rename_i u vs1; exact ⟨vs1, by rw [sameW_eq h]⟩
  · cases h
theorem knowsOf (hN : NamesOk P) (hm : P.follows .mixedOrders = true) {ng fuel d : Nat} {tbl : Nat → Option VF} (hT : TblOk P ng tbl) {l : List (Nat × List Value × Value)} (hK : KnownOk P ng (seek l)) {f : FuncId} {args : List Value} {v : Value} (hp : plainL args = true) (hv : plainB v = true)
    (h : saysV v (vcallK T (vop P T) (vquietM P T) (vfx T) ng tbl (seek l) fuel d f ⟨args⟩ ⟨[], ng, ng, [], []⟩) = true) : Knows P ng f args v :=
  let ⟨_, h⟩ := saysV_some h
  toldK hN hm hT hK hp hv h

end Go.Ev
