/-
  The evaluator's operations that leave memory alone: calls, bytes as texts, what is nil, assertions, parts put together.
-/
import Derived.Test.YtmoglfooadcemaaEvD
namespace Go.Ev
open Go.RowKit

variable {P : Program} {T : TE} [TOk P T] {vs : VS} {ρ : Operand → Value} {o : Oper} {n : VN}

/- No function with a body is one for which the machine has its own answer. -/
def NamesOk (P : Program) : Prop := ∀ (f : Nat) fn, P.funcs[f]? = some fn → fn.body.isSome = true → (fn.name == "runtime.NumGoroutine") = false

theorem sound_call (hN : NamesOk P) {c : Call} {f : Operand} {g : FuncId} {first captured : Array Value} (ho : o.op = .call c) (hc : c.callee = .value f) (hf : ρ f = .func (.func g) first captured) (hb : hasBody P g = true) :
    Sound P vs ρ o (.enter g ⟨first.toList ++ (c.args.toList.map ρ ++ captured.toList)⟩) := by
  intro N0 W0 W μ ρ' hG hρ
  have h1 := hρ f (by simp [ho, Op.operands, Call.operands, hc])
  rw [hf] at h1
  obtain ⟨a', b', e, ra, rb⟩ := h1.inv_func
  have h2 : RA μ (c.args.map ρ) (c.args.map ρ') := RA.map fun x hx => hρ x (by simp [ho, Op.operands, Call.operands, hc, hx])
  unfold hasBody at hb
  split at hb
  case h_2 => cases hb
  rename_i fn hfn
  have hname := hN g fn hfn hb
  have hra := (ra.append h2).append rb
  rw [show (first ++ c.args.map ρ) ++ captured = ⟨first.toList ++ (c.args.toList.map ρ ++ captured.toList)⟩ from Array.ext' (by simp)] at hra
  refine ⟨.enter g ((a' ++ c.args.map ρ') ++ b'), ?_, rfl, hra⟩
  have hname' : ¬ fn.name = "runtime.NumGoroutine" := by simpa using hname
  have hnone : ¬ fn.body = none := by cases h : fn.body <;> simp_all
  simp [execOp, ho, resolve, hc, e, Deferred.ofValue, invoke, callFunc, hfn, hname', hnone]

def vext (T : TE) (g : FuncId) (args : List Value) : Option Value :=
  match T.ext g with
  | some h => bif plainL args then h args else none
  | none => none
theorem sound_ext {c : Call} {f : Operand} {g : FuncId} {first captured : Array Value} {v : Value} (ho : o.op = .call c) (hc : c.callee = .value f) (hf : ρ f = .func (.func g) first captured) (hv : vext T g (first.toList ++ (c.args.toList.map ρ ++ captured.toList)) = some v) :
    Sound P vs ρ o (.value v) := by
  intro N0 W0 W μ ρ' hG hρ
  have h1 := hρ f (by simp [ho, Op.operands, Call.operands, hc])
  rw [hf] at h1
  obtain ⟨a', b', e, ra, rb⟩ := h1.inv_func
  have h2 : RA μ (c.args.map ρ) (c.args.map ρ') := RA.map fun x hx => hρ x (by simp [ho, Op.operands, Call.operands, hc, hx])
  have hra := (ra.append h2).append rb
  rw [show (first ++ c.args.map ρ) ++ captured = ⟨first.toList ++ (c.args.toList.map ρ ++ captured.toList)⟩ from Array.ext' (by simp)] at hra
  unfold vext at hv
  split at hv
  case h_2 => cases hv
  rename_i h hh
  simp only [Bool.cond_eq_ite] at hv
  split at hv
  case isFalse => cases hv
  rename_i hp
  obtain ⟨hpv, hrun⟩ := TOk.ext (P := P) hh _ _ hv
  have ha : (a' ++ c.args.map ρ') ++ b' = ⟨first.toList ++ (c.args.toList.map ρ ++ captured.toList)⟩ := hra.plain (by simpa [plainA] using hp)
  refine ⟨.value v, ?_, plain_self μ v hpv⟩
  have e1 : (execOp ρ' o) = callFunc g ((a' ++ c.args.map ρ') ++ b') := by
    simp [execOp, ho, resolve, hc, e, Deferred.ofValue, invoke]
  rw [e1, ha]
  exact hrun W

def vlen (T : TE) (t : TypeId) (x : Value) : Option Value :=
  match T.und t, x with
  | some (.slice _), .slice _ n _ => some (goInt n)
  | _, _ => none
theorem sound_len {c : Call} {x : Operand} {t : TypeId} {v : Value} (ho : o.op = .call c) (hc : c.callee = .builtin .len) (ha : c.args = #[x]) (ht : c.argTypes = #[t]) (hv : vlen T t (ρ x) = some v) : Sound P vs ρ o (.value v) := by
  intro N0 W0 W μ ρ' hG hρ
  have h1 := hρ x (by simp [ho, Op.operands, Call.operands, hc, ha])
  generalize ρ x = vx at *
  unfold vlen at hv
  split at hv
  case h_2 => cases hv
  rename_i e a m cp hu
  cases hv
  refine ⟨.value (goInt m), ?_, .int _ _⟩
  generalize hy : ρ' x = vy at *
  cases h1 <;> simp [execOp, ho, resolve, hc, ha, ht, invoke, builtin, Builtin.len_, run_underlying (TOk.und (P := P) hu), hy]

/- Bytes as a text. -/
def pushAll : List Value → ByteArray → Option ByteArray
  | [], s => some s
  | .int .u8 n :: l, s => pushAll l (s.push (UInt8.ofNat n.toNat))
  | _, _ => none
def bytesOf : List Value → Option (List UInt8)
  | [] => some []
  | .int .u8 n :: l => match bytesOf l with
    | some r => some (UInt8.ofNat n.toNat :: r)
    | none => none
  | _ => none
theorem pushAll_of : ∀ (l : List Value) (r : List UInt8) (s : ByteArray), bytesOf l = some r → pushAll l s = some ⟨⟨s.data.toList ++ r⟩⟩
  | [], r, s, h => by simp only [bytesOf] at h; cases h; simp [pushAll]
  | v :: l, r, s, h => by
    unfold bytesOf at h
    split at h
    · rename_i e; cases e
    · rename_i m l' e
      cases e
      split at h
      · rename_i r' hr
        cases h
        simp only [pushAll]
        rw [pushAll_of _ r' _ hr]
        simp [ByteArray.push]
      · cases h
    · cases h
theorem pushAll_plain : ∀ (l : List Value) (s r : ByteArray), pushAll l s = some r → plainL l = true
  | [], _, _, _ => rfl
  | v :: l, s, r, h => by
    unfold pushAll at h
    split at h
    · rename_i e; cases e
    · rename_i m l' s' e
      cases e
      simp [plainL, plainB, pushAll_plain _ _ _ h]
    · cases h
theorem push_run {W : World} (b : Value → ByteArray → Sem (ForInStep ByteArray)) (hb : ∀ n s, b (.int .u8 n) s = pure (ForInStep.yield (s.push (UInt8.ofNat n.toNat)))) :
    ∀ (l : List Value) (s r : ByteArray), pushAll l s = some r → (forIn l s b).run P W = .ok r W
  | [], s, r, h => by simp [pushAll] at h; simp [h]
  | v :: l, s, r, h => by
    unfold pushAll at h
    split at h
    · rename_i e; cases e
    · rename_i m l' s' e
      cases e
      simp only [List.forIn_cons, hb, Sem.run_bind, Sem.run_pure, Result.andThen_ok]
      exact push_run b hb _ _ _ h
    · cases h
theorem bytesToString_run {W : World} {a : Addr} {len cap : Nat} {xs : List Value} {r : ByteArray} (hl : (loadCells a len).run P W = .ok xs.toArray W) (h : pushAll xs .empty = some r) :
    (Conv.bytesToString (.slice (some a) len cap)).run P W = .ok (.string r) W := by
  unfold Conv.bytesToString
  simp only [Sem.run_bind, hl, Result.andThen_ok]
  rw [← Array.forIn_toList, push_run _ (fun _ _ => rfl) xs _ r h]
  rfl

def vtext (T : TE) (vs : VS) (src dst : TypeId) (a : Addr) (len : Nat) : Option Value :=
  match T.und src, T.und dst with
  | some (.slice e), some .string => match T.und e with
    | some (.int .u8) => match vread vs a len with
      | some xs => match bytesOf xs with
        | some r => some (.string ⟨⟨r⟩⟩)
        | none => none
      | none => none
    | _ => none
  | _, _ => none
theorem sound_text {src dst : TypeId} {x : Operand} {a : Addr} {len cap : Nat} {v : Value} (ho : o.op = .convert src dst x) (hx : ρ x = .slice (some a) len cap) (hv : vtext T vs src dst a len = some v) : Sound P vs ρ o (.value v) := by
  intro N0 W0 W μ ρ' hG hρ
  have h1 := hρ x (by simp [ho, Op.operands])
  rw [hx] at h1
  obtain ⟨l, hl, _, e⟩ := h1.inv_slice
  unfold vtext at hv
  split at hv
  case h_2 => cases hv
  rename_i el hu1 hu2
  split at hv
  case h_2 => cases hv
  rename_i hu3
  split at hv
  case h_2 => cases hv
  rename_i xs hr
  split at hv
  case h_2 => cases hv
  rename_i r hp
  cases hv
  have hp : pushAll xs .empty = some ⟨⟨r⟩⟩ := by
    have := pushAll_of xs r .empty hp
    simpa using this
  obtain ⟨ys, h2, h3⟩ := hG.run_load (P := P) hr hl
  have : ys = xs.toArray := h3.plain (by simpa [plainA] using pushAll_plain _ _ _ hp)
  subst this
  refine ⟨.value (.string ⟨⟨r⟩⟩), ?_, .string _⟩
  have := bytesToString_run (cap := cap + l.extra) h2 hp
  simp [execOp, ho, e, convert, run_underlying (TOk.und (P := P) hu1), run_underlying (TOk.und (P := P) hu2), run_underlying (TOk.und (P := P) hu3), this]

/- Held against nil. -/
def nilEq (d : TypeDesc) (x y : Value) : Option Bool :=
  match d, x, y with
  | .pointer _, .pointer none, .pointer b => some b.isNone
  | .pointer _, .pointer (some _), .pointer none => some false
  | .slice _, .slice none _ _, .slice b _ _ => some b.isNone
  | .slice _, .slice (some _) _ _, .slice none _ _ => some false
  | .map _ _, .map none, .map b => some b.isNone
  | .map _ _, .map (some _), .map none => some false
  | .func _ _ _, .nilFunc, .func _ _ _ => some false
  | .func _ _ _, .func _ _ _, .nilFunc => some false
  | .interface _, .nilIface, .iface _ _ => some false
  | .interface _, .iface _ _, .nilIface => some false
  | _, _, _ => none
def vnil (T : TE) (op : BinOp) (t : TypeId) (x y : Value) : Option Value :=
  match T.und t with
  | some d => match op, nilEq d x y with
    | .eql, some b => some (.bool b)
    | .neq, some b => some (.bool (!b))
    | _, _ => none
  | none => none

theorem nilEq_run {μ : Mu} {W : World} {d : TypeDesc} {t : TypeId} {x y x' y' : Value} {b : Bool} (hu : T.und t = some d) (h : nilEq d x y = some b) (hx : R μ x x') (hy : R μ y y') (k : Nat) : (Op.equalIn (k + 1) t x' y').run P W = .ok b W := by
  unfold nilEq at h
  split at h <;> cases h <;> cases hx <;> cases hy <;> simp [Op.equalIn, run_underlying (TOk.und (P := P) hu)]

end Go.Ev
