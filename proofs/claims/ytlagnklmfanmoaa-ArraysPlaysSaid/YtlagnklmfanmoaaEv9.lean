/-
  The evaluator that lets memory go: behind a call of a listed function what it made is looked at no more.
-/
import Derived.Test.YtlagnklmfanmoaaEv8
namespace Go.Ev
open Go.RowKit
variable [Base]

variable {P : Program} {T : TE} [TOk P T] {N0 : Nat → Prop} {W0 W : World} {vs : VS} {μ : Mu}

def cutH (n : Nat) : List (Nat × VB) → List (Nat × VB)
  | [] => []
  | (i, b) :: l => bif Nat.ble n i then cutH n l else (i, b) :: l
def cutO (n : Nat) : List (Nat × VOb) → List (Nat × VOb)
  | [] => []
  | (i, b) :: l => bif Nat.ble n i then cutO n l else (i, b) :: l
omit [Base] in
theorem cutH_mem {n : Nat} : ∀ {l : List (Nat × VB)} {x : Nat × VB}, x ∈ cutH n l → x ∈ l
  | [], _, h => h
  | (i, b) :: l, x, h => by
    simp only [cutH, Bool.cond_eq_ite] at h
    split at h
    · exact List.mem_cons_of_mem _ (cutH_mem h)
    · exact h
omit [Base] in
theorem cutO_mem {n : Nat} : ∀ {l : List (Nat × VOb)} {x : Nat × VOb}, x ∈ cutO n l → x ∈ l
  | [], _, h => h
  | (i, b) :: l, x, h => by
    simp only [cutO, Bool.cond_eq_ite] at h
    split at h
    · exact List.mem_cons_of_mem _ (cutO_mem h)
    · exact h
def VS.cut (vs : VS) (n : Nat) : VS := { heap := cutH n vs.heap, next := vs.next, ng := vs.ng, objs := cutO n vs.objs, dfr := vs.dfr }
theorem G.cut (h : G N0 W0 vs W μ) (n : Nat) : G N0 W0 (vs.cut n) W μ :=
  ⟨h.below, h.start, h.fresh, h.globs, h.glo, fun id B hm => h.blocks id B (cutH_mem hm), fun id B id' B' h1 h2 => h.apart id B id' B' (cutH_mem h1) (cutH_mem h2),
    ⟨fun id O hm => h.objs.1 id O (cutO_mem hm), fun id O id' O' h1 h2 => h.objs.2 id O id' O' (cutO_mem h1) (cutO_mem h2)⟩, h.base⟩

/- The number of variables, written down anew: else each look at it goes all the way back. -/
def VS.at (vs : VS) (ng : Nat) : VS := { heap := vs.heap, next := vs.next, ng := ng, objs := vs.objs, dfr := vs.dfr }
omit [Base] in
theorem VS.at_eq {vs : VS} {ng : Nat} (h : vs.ng = ng) : vs.at ng = vs := by subst h; rfl
def vlet (b : Bool) (n : Nat) : Option (VE × VS) → Option (VE × VS)
  | some (e, vs) => some (e, bif b then vs.cut n else vs)
  | none => none
/- Calls whose answer and memory are told by hand. -/
abbrev PrimE := FuncId → List Value → VS → Option (Value × VS)
def PrimOk (P : Program) (prim : PrimE) : Prop :=
  ∀ f args vs v vs1, prim f args vs = some (v, vs1) → Keeps vs vs1 ∧ ∀ (N0 : Nat → Prop) (W0 W : World) (μ : Mu) (args' : Array Value), RA μ args.toArray args' → G N0 W0 vs W μ →
    Calls P f args' W fun e W' => ∃ μ1, μ.le μ1 ∧ G N0 W0 vs1 W' μ1 ∧ ∃ v', R μ1 v v' ∧ e = .returned v'
def noPrim : PrimE := fun _ _ _ => none
theorem noPrim_ok : PrimOk P noPrim := fun _ _ _ _ _ h => by cases h
noncomputable def vcallG (gc : FuncId → Bool) (prim : PrimE) (T : TE) (op : OpE) (qt : QtE) (fx : FX) (ng : Nat) (tbl : Nat → Option VF) (known : FuncId → List Value → Option Value) (fuel : Nat) : Nat → CallE
  | 0, _, _, _ => none
  | d + 1, f, args, vs => bif Nat.beq vs.ng ng then match known f args.toList with
    | some v => some (.ret v, vs)
    | none => match prim f args.toList vs with
      | some (v, vs1) => some (.ret v, vs1)
      | none => match tbl f with
        | none => none
        | some F => vlet (gc f) vs.next (vfin T op qt fx ng tbl fuel (vcallG gc prim T op qt fx ng tbl known fuel d) F vs.dfr (vcode op qt fx (vcallG gc prim T op qt fx ng tbl known fuel d) (tlOf F.tails) fuel F.body (pad args.toList F.ntmps) ((vs.at ng).off [])))
    else none

omit [Base] in
theorem vlet_some {b : Bool} {n : Nat} {x : Option (VE × VS)} {e : VE} {vs1 : VS} (h : vlet b n x = some (e, vs1)) : ∃ vs2, x = some (e, vs2) ∧ vs1 = (bif b then vs2.cut n else vs2) := by
  unfold vlet at h
  split at h
  · cases h; exact ⟨_, rfl, rfl⟩
  · cases h
omit [Base] [TOk P T] in
theorem vfin_some {op : OpE} {qt : QtE} {fx : FX} {ng : Nat} {tbl : Nat → Option VF} {fuel : Nat} {call : CallE} {F : VF} {l : List VD} {x : Option VX} {e : VE} {vs1 : VS} (h : vfin T op qt fx ng tbl fuel call F l x = some (e, vs1)) :
    ∃ (t : List Value) (vs2 : VS) (m : VM), vback ng l (vleave T op qt fx ng tbl fuel call F.results t vs2.dfr m vs2) = some (e, vs1) ∧ ((x = some (.ret t vs2) ∧ m = .ret) ∨ (x = some (.normal t vs2) ∧ m = .ret) ∨ ∃ v, x = some (.pan v t vs2) ∧ m = .pan v) := by
  unfold vfin at h
  split at h
  · exact ⟨_, _, _, h, .inl ⟨rfl, rfl⟩⟩
  · exact ⟨_, _, _, h, .inr (.inl ⟨rfl, rfl⟩)⟩
  · exact ⟨_, _, _, h, .inr (.inr ⟨_, rfl, rfl⟩)⟩
  · cases h
omit [TOk P T] in
theorem vcallG_ng {gc : FuncId → Bool} {prim : PrimE} (hR : PrimOk P prim) {op : OpE} {qt : QtE} {fx : FX} {ng : Nat} {tbl : Nat → Option VF} {known : FuncId → List Value → Option Value} {fuel : Nat} : ∀ (d : Nat) f args vs v vs1, vcallG gc prim T op qt fx ng tbl known fuel d f args vs = some (v, vs1) → Keeps vs vs1
  | 0, _, _, _, _, _, h => by simp [vcallG] at h
  | d + 1, f, args, vs, v, vs1, h => by
    simp only [vcallG, Bool.cond_eq_ite] at h
    split at h
    case isFalse => cases h
    rename_i hng
    have hng := Nat.eq_of_beq_eq_true hng
    split at h
    · cases h; exact ⟨rfl, rfl⟩
    split at h
    · rename_i hp; cases h; exact (hR _ _ _ _ _ hp).1
    split at h
    case h_1 => cases h
    obtain ⟨vs3, h, e1⟩ := vlet_some h
    obtain ⟨t, vs4, m, h, _⟩ := vfin_some h
    obtain ⟨vs2, _, h2, e2⟩ := vback_some h
    rw [e1, e2]
    cases gc f <;> exact ⟨h2.trans hng.symm, rfl⟩

theorem vcallG_sound {gc : FuncId → Bool} {prim : PrimE} (hR : PrimOk P prim) {op : OpE} {qt : QtE} {fx : FX} {tbl : Nat → Option VF} {known : FuncId → List Value → Option Value} {fuel ng : Nat} (hE : EngOk P op qt fx) (hT : TblOk P ng tbl) (hK : KnownOk P ng known) : ∀ (d : Nat), CallOK P (vcallG gc prim T op qt fx ng tbl known fuel d)
  | 0 => fun _ _ _ _ _ h => by simp [vcallG] at h
  | d + 1 => by
    intro f args vs e vs1 h N0 W0 W μ args' ha hG
    simp only [vcallG, Bool.cond_eq_ite] at h
    split at h
    case isFalse => cases h
    rename_i hng
    have hng := Nat.eq_of_beq_eq_true hng
    rw [VS.at_eq hng] at h
    split at h
    · rename_i v hv
      cases h
      obtain ⟨h1, h2, h3⟩ := hK f args.toList v hv
      obtain rfl : args' = args := ha.plain (by cases args; simpa [plainA] using h1)
      refine (h3 W (hG.ng_le hng) (Base.keep hG.below hG.start hG.base)).mono ?_
      rintro e' W' ⟨rfl, hb⟩
      exact ⟨μ, Mu.le_refl _, hG.world (.of_below hb), v, plain_self μ v h2, rfl⟩
    split at h
    · rename_i hp
      cases h
      refine ((hR _ _ _ _ _ hp).2 N0 W0 W μ args' (by simpa using ha) hG).mono ?_
      rintro e' W' ⟨μ1, q1, q2, v', q3, rfl⟩
      exact ⟨μ1, q1, q2, v', q3, rfl⟩
    split at h
    case h_1 => cases h
    rename_i F hF
    obtain ⟨vs3, h, e1⟩ := vlet_some h
    have hcut : ∀ {w : World} {ν : Mu}, G N0 W0 vs3 w ν → G N0 W0 vs1 w ν := fun hg => by
      rw [e1]; cases gc f
      · exact hg
      · exact hg.cut _
    obtain ⟨hok, fn, hfn, hb, hn, hr⟩ := hT f F hF
    refine calls_of_wp_defers hfn hb ?_
    rw [hn]
    have hcall := vcallG_sound hR (gc := gc) (fuel := fuel) hE hT hK d
    have hngc := vcallG_ng hR (gc := gc) (T := T) (op := op) (qt := qt) (fx := fx) (ng := ng) (tbl := tbl) (known := known) (fuel := fuel) d
    have fin : ∀ (t : List Value) (vs2 : VS) (m : VM) (u : FrameMode) (a' : Act) (w : World) (μ1 : Mu), vback ng vs.dfr (vleave T op qt fx ng tbl fuel (vcallG gc prim T op qt fx ng tbl known fuel d) F.results t vs2.dfr m vs2) = some (e, vs3) →
        μ.le μ1 → RM μ1 m u → RA μ1 t.toArray a'.tmps → G N0 W0 vs2 w μ1 → DR μ1 vs2.dfr a'.defers → Leaves P fn a'.tmps (fun e' W' => ∃ μ1, μ.le μ1 ∧ G N0 W0 vs1 W' μ1 ∧ REnd μ1 e e') a'.defers u w := by
      intro t vs2 m u a' w μ1 h hle hm ht hG hd
      obtain ⟨vs5, h1, _, e2⟩ := vback_some h
      have key := vleave_sound (μ0 := μ) hE hT hcall hngc hr vs2.dfr m vs2 h1 w μ1 u a'.defers hle hd hm ht hG
      exact leaves_mono (fun e' W' h => let ⟨m, q1, q2, q3⟩ := h; ⟨m, q1, hcut (by rw [e2]; exact q2.put_off _), q3⟩) a'.defers u w key
    obtain ⟨t, vs2, m, h, hx⟩ := vfin_some h
    rcases hx with ⟨hx, rfl⟩ | ⟨hx, rfl⟩ | ⟨v, hx, rfl⟩
    · refine wp_mono (wp_of_wpL (vcode_sound hE hcall hngc (ng := ng) fuel F.body _ (vs.off []) _ hok hng hx N0 W0 W μ _ trivial (pad_rel ha F.ntmps) (hG.put_off []))) ?_
      rintro e a' w ⟨rfl, μ1, hle, ht', hG', hd'⟩
      exact fin t _ .ret .returning a' w μ1 h hle rfl ht' hG' hd'
    · refine wp_mono (wp_of_wpL (vcode_sound hE hcall hngc (ng := ng) fuel F.body _ (vs.off []) _ hok hng hx N0 W0 W μ _ trivial (pad_rel ha F.ntmps) (hG.put_off []))) ?_
      rintro e a' w ⟨rfl, μ1, hle, ht', hG', hd'⟩
      exact fin t _ .ret .returning a' w μ1 h hle rfl ht' hG' hd'
    · refine wp_mono (wp_of_wpL (vcode_sound hE hcall hngc (ng := ng) fuel F.body _ (vs.off []) _ hok hng hx N0 W0 W μ _ trivial (pad_rel ha F.ntmps) (hG.put_off []))) ?_
      rintro e a' w ⟨μ1, v', hle, rfl, hv, ht', hG', hd'⟩
      exact fin t _ (.pan v) (.panicking (panicked v')) a' w μ1 h hle ⟨v', hv, rfl⟩ ht' hG' hd'

theorem knowsG {gc : FuncId → Bool} {prim : PrimE} (hR : PrimOk P prim) (hN : NamesOk P) (hm : P.follows .mixedOrders = true) {ng fuel d : Nat} {tbl : Nat → Option VF} (hT : TblOk P ng tbl) {α : Type} {vs0 : α → VS} (h0 : StartOk ng vs0) {known : FuncId → List Value → Option Value} (hK : KnownOk P ng known) {f : FuncId} {args : List Value} {v : Value} (hp : plainL args = true) (hv : plainB v = true)
    (h : ∀ a, saysV v (vcallG gc prim T (vop P T) (vquietM P T) (vfx T) ng tbl known fuel d f ⟨args⟩ (vs0 a)) = true) : Knows P ng f args v := by
  refine ⟨hp, hv, fun W hW hb => ?_⟩
  obtain ⟨a, μ, hG0⟩ := h0.world W hW hb
  obtain ⟨vs1, h⟩ := saysV_some (h a)
  refine (vcallG_sound hR (engOk hN hm) hT hK d f ⟨args⟩ _ (.ret v) vs1 h (old W) W W μ ⟨args⟩ (RA_self _ (by simpa [plainA] using hp)) hG0).mono ?_
  rintro e W' ⟨μ1, _, hG, v', hr, rfl⟩
  exact ⟨by rw [hr.plain hv], hG.below.below⟩
omit [Base] in
theorem vcallG_body {gc : FuncId → Bool} {prim : PrimE} {op : OpE} {qt : QtE} {fx : FX} {ng : Nat} {tbl : Nat → Option VF} {known : FuncId → List Value → Option Value} {fuel d f : Nat} {args : List Value} {vs : VS} {F : VF} {v : Value}
    (hn : Nat.beq vs.ng ng = true) (hk : known f args = none) (hp : prim f args vs = none) (hF : tbl f = some F)
    (h : saysV v (vfin T op qt fx ng tbl fuel (vcallG gc prim T op qt fx ng tbl known fuel d) F vs.dfr (Cf.told op qt fx (vcallG gc prim T op qt fx ng tbl known fuel d) (tlOf F.tails) (.code fuel F.body (pad args F.ntmps) ((vs.at ng).off [])))) = true) :
    saysV v (vcallG gc prim T op qt fx ng tbl known fuel (d + 1) f ⟨args⟩ vs) = true := by
  simp only [Cf.told] at h
  simp only [vcallG, hn, cond_true, hk, hp, hF]
  unfold vlet
  split
  · rename_i e1 vs1 e
    rw [e] at h
    cases e1 <;> exact h
  · rename_i e
    rw [e] at h
    exact h
def among : List Nat → Nat → Bool
  | [], _ => false
  | a :: l, g => Nat.beq a g || among l g
end Go.Ev
