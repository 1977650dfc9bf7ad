/-
  The evaluator's operations that leave memory alone: calls, bytes as texts, what is nil, assertions, parts put together.
-/
import Derived.Test.YtahblmcjocepeaaDoorGa
import Derived.Laws.Strings
import Derived.Laws.Concat
namespace Go.Ev
open Go.RowKit
variable [Base]

variable {P : Program} {T : TE} [TOk P T] {vs : VS} {ρ : Operand → Value} {o : Oper} {n : VN}

/- No function with a body is one for which the machine has its own answer. -/
def NamesOk (P : Program) : Prop := ∀ (f : Nat) fn, P.funcs[f]? = some fn → fn.body.isSome = true → (fn.name == "runtime.NumGoroutine") = false

theorem sound_call (hN : NamesOk P) {c : Call} {f : Operand} {g : FuncId} {first captured : Array Value} (ho : o.op = .call c) (hc : c.callee = .value f) (hf : ρ f = .func (.func g) first captured) (hb : hasBody P g = true) :
    Sound P vs ρ o (.enter g ⟨first.toList ++ (c.args.toList.map ρ ++ captured.toList)⟩) := by
  intro N0 W0 W μ ρ' hG hρ
  have h1 := hρ f (by simp [ho, Op.operands, Call.operands, hc])
  rw [hf] at h1
  obtain ⟨a', b', e, ra, rb⟩ := h1.inv_func
  have h2 : RA μ (c.args.map ρ) (c.args.map ρ') := RA.map fun x hx => hρ x (by simp [ho, Op.operands, Call.operands, hc, hx])
  unfold hasBody at hb
  split at hb
  case h_2 => cases hb
  rename_i fn hfn
  have hname := hN g fn hfn hb
  have hra := (ra.append h2).append rb
  rw [show (first ++ c.args.map ρ) ++ captured = ⟨first.toList ++ (c.args.toList.map ρ ++ captured.toList)⟩ from Array.ext' (by simp)] at hra
  refine ⟨.enter g ((a' ++ c.args.map ρ') ++ b'), ?_, rfl, hra⟩
  have hname' : ¬ fn.name = "runtime.NumGoroutine" := by simpa using hname
  have hnone : ¬ fn.body = none := by cases h : fn.body <;> simp_all
  simp [execOp, ho, resolve, hc, e, Deferred.ofValue, invoke, callFunc, hfn, hname', hnone]

def vext (T : TE) (g : FuncId) (args : List Value) : Option Value :=
  match T.ext g with
  | some h => bif plainL args then h args else none
  | none => none
theorem sound_ext {c : Call} {f : Operand} {g : FuncId} {first captured : Array Value} {v : Value} (ho : o.op = .call c) (hc : c.callee = .value f) (hf : ρ f = .func (.func g) first captured) (hv : vext T g (first.toList ++ (c.args.toList.map ρ ++ captured.toList)) = some v) :
    Sound P vs ρ o (.value v) := by
  intro N0 W0 W μ ρ' hG hρ
  have h1 := hρ f (by simp [ho, Op.operands, Call.operands, hc])
  rw [hf] at h1
  obtain ⟨a', b', e, ra, rb⟩ := h1.inv_func
  have h2 : RA μ (c.args.map ρ) (c.args.map ρ') := RA.map fun x hx => hρ x (by simp [ho, Op.operands, Call.operands, hc, hx])
  have hra := (ra.append h2).append rb
  rw [show (first ++ c.args.map ρ) ++ captured = ⟨first.toList ++ (c.args.toList.map ρ ++ captured.toList)⟩ from Array.ext' (by simp)] at hra
  unfold vext at hv
  split at hv
  case h_2 => cases hv
  rename_i h hh
  simp only [Bool.cond_eq_ite] at hv
  split at hv
  case isFalse => cases hv
  rename_i hp
  obtain ⟨hpv, hrun⟩ := TOk.ext (P := P) hh _ _ hv
  have ha : (a' ++ c.args.map ρ') ++ b' = ⟨first.toList ++ (c.args.toList.map ρ ++ captured.toList)⟩ := hra.plain (by simpa [plainA] using hp)
  refine ⟨.value v, ?_, plain_self μ v hpv⟩
  have e1 : (execOp ρ' o) = callFunc g ((a' ++ c.args.map ρ') ++ b') := by
    simp [execOp, ho, resolve, hc, e, Deferred.ofValue, invoke]
  rw [e1, ha]
  exact hrun W

def vlen (T : TE) (t : TypeId) (x : Value) : Option Value :=
  match T.und t, x with
  | some (.slice _), .slice _ n _ => some (goInt n)
  | _, _ => none
theorem sound_len {c : Call} {x : Operand} {t : TypeId} {v : Value} (ho : o.op = .call c) (hc : c.callee = .builtin .len) (ha : c.args = #[x]) (ht : c.argTypes = #[t]) (hv : vlen T t (ρ x) = some v) : Sound P vs ρ o (.value v) := by
  intro N0 W0 W μ ρ' hG hρ
  have h1 := hρ x (by simp [ho, Op.operands, Call.operands, hc, ha])
  generalize ρ x = vx at *
  unfold vlen at hv
  split at hv
  case h_2 => cases hv
  rename_i e a m cp hu
  cases hv
  refine ⟨.value (goInt m), ?_, .int _ _⟩
  generalize hy : ρ' x = vy at *
  cases h1 <;> simp [execOp, ho, resolve, hc, ha, ht, invoke, builtin, Builtin.len_, run_underlying (TOk.und (P := P) hu), hy]

/- Bytes as a text. -/
def pushAll : List Value → ByteArray → Option ByteArray
  | [], s => some s
  | .int .u8 n :: l, s => pushAll l (s.push (UInt8.ofNat n.toNat))
  | _, _ => none
def bytesOf : List Value → Option (List UInt8)
  | [] => some []
  | .int .u8 n :: l => match bytesOf l with
    | some r => some (UInt8.ofNat n.toNat :: r)
    | none => none
  | _ => none
omit [Base] in
theorem pushAll_of : ∀ (l : List Value) (r : List UInt8) (s : ByteArray), bytesOf l = some r → pushAll l s = some ⟨⟨s.data.toList ++ r⟩⟩
  | [], r, s, h => by simp only [bytesOf] at h; cases h; simp [pushAll]
  | v :: l, r, s, h => by
    unfold bytesOf at h
    split at h
    · rename_i e; cases e
    · rename_i m l' e
      cases e
      split at h
      · rename_i r' hr
        cases h
        simp only [pushAll]
        rw [pushAll_of _ r' _ hr]
        simp [ByteArray.push]
      · cases h
    · cases h
omit [Base] in
theorem pushAll_plain : ∀ (l : List Value) (s r : ByteArray), pushAll l s = some r → plainL l = true
  | [], _, _, _ => rfl
  | v :: l, s, r, h => by
    unfold pushAll at h
    split at h
    · rename_i e; cases e
    · rename_i m l' s' e
      cases e
      simp [plainL, plainB, pushAll_plain _ _ _ h]
    · cases h
omit [Base] in
theorem push_run {W : World} (b : Value → ByteArray → Sem (ForInStep ByteArray)) (hb : ∀ n s, b (.int .u8 n) s = pure (ForInStep.yield (s.push (UInt8.ofNat n.toNat)))) :
    ∀ (l : List Value) (s r : ByteArray), pushAll l s = some r → (forIn l s b).run P W = .ok r W
  | [], s, r, h => by simp [pushAll] at h; simp [h]
  | v :: l, s, r, h => by
    unfold pushAll at h
    split at h
    · rename_i e; cases e
    · rename_i m l' s' e
      cases e
      simp only [List.forIn_cons, hb, Sem.run_bind, Sem.run_pure, Result.andThen_ok]
      exact push_run b hb _ _ _ h
    · cases h
omit [Base] in
theorem bytesToString_run {W : World} {a : Addr} {len cap : Nat} {xs : List Value} {r : ByteArray} (hl : (loadCells a len).run P W = .ok xs.toArray W) (h : pushAll xs .empty = some r) :
    (Conv.bytesToString (.slice (some a) len cap)).run P W = .ok (.string r) W := by
  unfold Conv.bytesToString
  simp only [Sem.run_bind, hl, Result.andThen_ok]
  rw [← Array.forIn_toList, push_run _ (fun _ _ => rfl) xs _ r h]
  rfl

def vtext (T : TE) (vs : VS) (src dst : TypeId) (a : Addr) (len : Nat) : Option Value :=
  match T.und src, T.und dst with
  | some (.slice e), some .string => match T.und e with
    | some (.int .u8) => match vread vs a len with
      | some xs => match bytesOf xs with
        | some r => some (.string ⟨⟨r⟩⟩)
        | none => none
      | none => none
    | _ => none
  | _, _ => none
theorem sound_text {src dst : TypeId} {x : Operand} {a : Addr} {len cap : Nat} {v : Value} (ho : o.op = .convert src dst x) (hx : ρ x = .slice (some a) len cap) (hv : vtext T vs src dst a len = some v) : Sound P vs ρ o (.value v) := by
  intro N0 W0 W μ ρ' hG hρ
  have h1 := hρ x (by simp [ho, Op.operands])
  rw [hx] at h1
  obtain ⟨l, hl, _, e⟩ := h1.inv_slice
  unfold vtext at hv
  split at hv
  case h_2 => cases hv
  rename_i el hu1 hu2
  split at hv
  case h_2 => cases hv
  rename_i hu3
  split at hv
  case h_2 => cases hv
  rename_i xs hr
  split at hv
  case h_2 => cases hv
  rename_i r hp
  cases hv
  have hp : pushAll xs .empty = some ⟨⟨r⟩⟩ := by
    have := pushAll_of xs r .empty hp
    simpa using this
  obtain ⟨ys, h2, h3⟩ := hG.run_load (P := P) hr hl
  have : ys = xs.toArray := h3.plain (by simpa [plainA] using pushAll_plain _ _ _ hp)
  subst this
  refine ⟨.value (.string ⟨⟨r⟩⟩), ?_, .string _⟩
  have := bytesToString_run (cap := cap + l.extra) h2 hp
  simp [execOp, ho, e, convert, run_underlying (TOk.und (P := P) hu1), run_underlying (TOk.und (P := P) hu2), run_underlying (TOk.und (P := P) hu3), this]

/- Held against nil. -/
def nilEq (d : TypeDesc) (x y : Value) : Option Bool :=
  match d, x, y with
  | .pointer _, .pointer none, .pointer b => some b.isNone
  | .pointer _, .pointer (some _), .pointer none => some false
  | .slice _, .slice none _ _, .slice b _ _ => some b.isNone
  | .slice _, .slice (some _) _ _, .slice none _ _ => some false
  | .map _ _, .map none, .map b => some b.isNone
  | .map _ _, .map (some _), .map none => some false
  | .func _ _ _, .nilFunc, .func _ _ _ => some false
  | .func _ _ _, .func _ _ _, .nilFunc => some false
  | .interface _, .nilIface, .iface _ _ => some false
  | .interface _, .iface _ _, .nilIface => some false
  | _, _, _ => none
def vnil (T : TE) (op : BinOp) (t : TypeId) (x y : Value) : Option Value :=
  match T.und t with
  | some d => match op, nilEq d x y with
    | .eql, some b => some (.bool b)
    | .neq, some b => some (.bool (!b))
    | _, _ => none
  | none => none

omit [Base] in
theorem nilEq_run {μ : Mu} {W : World} {d : TypeDesc} {t : TypeId} {x y x' y' : Value} {b : Bool} (hu : T.und t = some d) (h : nilEq d x y = some b) (hx : R μ x x') (hy : R μ y y') (k : Nat) : (Op.equalIn (k + 1) t x' y').run P W = .ok b W := by
  unfold nilEq at h
  split at h <;> cases h <;> cases hx <;> cases hy <;> simp [Op.equalIn, run_underlying (TOk.und (P := P) hu)]

end Go.Ev

/-
  Numbers and texts as the evaluator reckons them.
-/
namespace Go.Ev
open Go.RowKit
variable [Base]

/- Numbers cut to their kind, by literals. -/
def cutS (n : Int) (m h : Nat) : Int := bif Int.decLe' (Int.ofNat h) (Int.emod n (Int.ofNat m)) then Int.sub (Int.emod n (Int.ofNat m)) (Int.ofNat m) else Int.emod n (Int.ofNat m)
where Int.decLe' (a b : Int) : Bool := decide (a ≤ b)
def kwrap (k : IntKind) (n : Int) : Int :=
  match k with
  | .i64 => cutS n 18446744073709551616 9223372036854775808
  | .u64 => Int.emod n (Int.ofNat 18446744073709551616)
  | .u8 => Int.emod n (Int.ofNat 256)
  | .i32 => cutS n 4294967296 2147483648
  | .u32 => Int.emod n (Int.ofNat 4294967296)
  | .i8 => cutS n 256 128
  | .i16 => cutS n 65536 32768
  | .u16 => Int.emod n (Int.ofNat 65536)
omit [Base] in
theorem kwrap_eq (k : IntKind) (n : Int) : kwrap k n = k.wrap n := by
  cases k <;> simp only [kwrap, cutS, cutS.Int.decLe', IntKind.wrap, IntKind.bits, IntKind.signed, Bool.cond_eq_ite, decide_eq_true_eq] <;> first | rfl | (simp only [Bool.true_and, decide_eq_true_eq, ge_iff_le]; rfl)


def ieq (a b : Int) : Bool :=
  match a, b with
  | .ofNat m, .ofNat n => Nat.beq m n
  | .negSucc m, .negSucc n => Nat.beq m n
  | _, _ => false
omit [Base] in
theorem ieq_eq (a b : Int) : ieq a b = (a == b) := by
  have : ieq a b = true ↔ a = b := by
    cases a <;> cases b <;> simp only [ieq, Nat.beq_eq, Int.ofNat.injEq, Int.negSucc.injEq, Bool.false_eq_true, reduceCtorEq]
  by_cases h : a = b
  · rw [this.2 h, h]; simp
  · have h2 : ieq a b = false := by
      cases hb : ieq a b with
      | false => rfl
      | true => exact absurd (this.1 hb) h
    rw [h2]; simp [h]
def ile (a b : Int) : Bool :=
  match a, b with
  | .ofNat m, .ofNat n => Nat.ble m n
  | .negSucc m, .negSucc n => Nat.ble n m
  | .negSucc _, .ofNat _ => true
  | .ofNat _, .negSucc _ => false
omit [Base] in
theorem ile_eq (a b : Int) : ile a b = decide (a ≤ b) := by
  have : ile a b = true ↔ a ≤ b := by
    cases a <;> cases b <;> simp only [ile, Nat.ble_eq, Bool.false_eq_true, true_iff, false_iff, Int.ofNat_eq_natCast] <;> omega
  by_cases h : a ≤ b
  · rw [this.2 h]; simp [h]
  · have h2 : ile a b = false := by
      cases hb : ile a b with
      | false => rfl
      | true => exact absurd (this.1 hb) h
    rw [h2]; simp [h]
def pow2 (n : Nat) : Int := Int.ofNat (Nat.pow 2 n)
omit [Base] in
theorem pow2_eq (n : Nat) : pow2 n = (2 : Int) ^ n := by
  unfold pow2
  show ((2 ^ n : Nat) : Int) = _
  simp

def vint (op : BinOp) (k : IntKind) (a : Int) (k' : IntKind) (b : Int) : Option Value :=
  match op with
  | .shl => bif ile 0 b then some (.int k (kwrap k (Int.mul a (pow2 (min b.toNat k.bits))))) else none
  | .shr => bif ile 0 b then some (.int k (Int.fdiv a (pow2 (min b.toNat k.bits)))) else none
  | op => bif k == k' then
      match op with
      | .add => some (.int k (kwrap k (Int.add a b)))
      | .sub => some (.int k (kwrap k (Int.sub a b)))
      | .mul => some (.int k (kwrap k (Int.mul a b)))
      | .quo => bif ieq b 0 then none else some (.int k (kwrap k (Int.tdiv a b)))
      | .rem => bif ieq b 0 then none else some (.int k (Int.tmod a b))
      | .eql => some (.bool (ieq a b))
      | .neq => some (.bool (!ieq a b))
      | .lss => some (.bool (!ile b a))
      | .leq => some (.bool (ile a b))
      | .gtr => some (.bool (!ile a b))
      | .geq => some (.bool (ile b a))
      | .and => some (.int k (k.wrap (BitVec.ofInt k.bits a &&& BitVec.ofInt k.bits b).toNat))
      | .or => some (.int k (k.wrap (BitVec.ofInt k.bits a ||| BitVec.ofInt k.bits b).toNat))
      | .xor => some (.int k (k.wrap (BitVec.ofInt k.bits a ^^^ BitVec.ofInt k.bits b).toNat))
      | _ => none
    else none
omit [Base] in
theorem vint_run {op : BinOp} {k k' : IntKind} {a b : Int} {v : Value} (t : TypeId) (h : vint op k a k' b = some v) : binOp op t (.int k a) (.int k' b) = pure v := by
  unfold vint at h
  have h0 : ∀ x : Int, ile 0 x = true ↔ 0 ≤ x := fun x => by rw [ile_eq]; simp
  split at h
  · simp only [Bool.cond_eq_ite, h0] at h
    split at h
    · rename_i hb
      cases h
      have : ¬ b < 0 := by omega
      simp only [binOp, Op.shift, if_neg this, kwrap_eq, pow2_eq]
      rfl
    · cases h
  · simp only [Bool.cond_eq_ite, h0] at h
    split at h
    · rename_i hb
      cases h
      have : ¬ b < 0 := by omega
      simp only [binOp, Op.shift, if_neg this, pow2_eq]
    · cases h
  · simp only [Bool.cond_eq_ite, beq_iff_eq] at h
    split at h
    case isFalse => cases h
    rename_i hk
    subst hk
    have hz : ∀ x : Int, ieq x 0 = true ↔ x = 0 := fun x => by rw [ieq_eq]; simp
    split at h
    · cases h; simp only [binOp, Op.intArith, kwrap_eq, ne_eq, not_true_eq_false, if_false]; rfl
    · cases h; simp only [binOp, Op.intArith, kwrap_eq, ne_eq, not_true_eq_false, if_false]; rfl
    · cases h; simp only [binOp, Op.intArith, kwrap_eq, ne_eq, not_true_eq_false, if_false]; rfl
    · simp only [hz] at h
      split at h
      · cases h
      · rename_i hb; cases h; simp [binOp, Op.intDiv, hb, kwrap_eq]
    · simp only [hz] at h
      split at h
      · cases h
      · rename_i hb; cases h; simp [binOp, Op.intDiv, hb]
    · cases h; simp [binOp, Op.intCmp, ieq_eq]
    · cases h; simp [binOp, Op.intCmp, ieq_eq, bne]
    · cases h; simp [binOp, Op.intCmp, ile_eq]; rw [← decide_not]; simp
    · cases h; simp [binOp, Op.intCmp, ile_eq]
    · cases h; simp [binOp, Op.intCmp, ile_eq]; rw [← decide_not]; simp
    · cases h; simp [binOp, Op.intCmp, ile_eq]
    · cases h; simp [binOp, Op.intBits]
    · cases h; simp [binOp, Op.intBits]
    · cases h; simp [binOp, Op.intBits]
    · cases h

/- Texts. -/
def beqL : List UInt8 → List UInt8 → Bool
  | [], [] => true
  | a :: l, b :: m => bif Nat.beq a.toNat b.toNat then beqL l m else false
  | _, _ => false
omit [Base] in
theorem beqL_eq : ∀ (l m : List UInt8), beqL l m = (l == m)
  | [], [] => by simp [beqL]
  | [], _ :: _ => by simp [beqL]
  | _ :: _, [] => by simp [beqL]
  | a :: l, b :: m => by
    simp only [beqL, beqL_eq l m, Bool.cond_eq_ite]
    by_cases h : a = b
    · subst h; simp
    · have : Nat.beq a.toNat b.toNat = false := by
        cases hb : Nat.beq a.toNat b.toNat with
        | false => rfl
        | true => exact absurd (UInt8.toNat_inj.1 (Nat.eq_of_beq_eq_true hb)) h
      rw [this]
      simp [h]
def vstr (op : BinOp) (x y : ByteArray) : Option Value :=
  match op with
  | .add => bif Nat.ble (x.data.toList.length + y.data.toList.length) (2 ^ 40) then some (.string ⟨⟨x.data.toList ++ y.data.toList⟩⟩) else none
  | .eql => some (.bool (beqL x.data.toList y.data.toList))
  | .neq => some (.bool (!beqL x.data.toList y.data.toList))
  | .lss => some (.bool (Op.bytesLess x.data.toList y.data.toList))
  | _ => none
omit [Base] in
theorem vstr_run {op : BinOp} {x y : ByteArray} {v : Value} (t : TypeId) (h : vstr op x y = some v) : binOp op t (.string x) (.string y) = pure v := by
  unfold vstr at h
  split at h
  · simp only [Bool.cond_eq_ite, Nat.ble_eq] at h
    split at h
    case isFalse => cases h
    rename_i hs
    cases h
    have hsx : x.data.toList.length = x.size := by rw [Array.length_toList]; rfl
    have hsy : y.data.toList.length = y.size := by rw [Array.length_toList]; rfl
    have hmax : IntKind.i64.max = 9223372036854775807 := by decide
    have hn : ¬ ((x.size + y.size : Nat) : Int) > IntKind.i64.max := by rw [hmax]; omega
    have e : x ++ y = ⟨⟨x.data.toList ++ y.data.toList⟩⟩ := by
      apply ByteArray.ext
      apply Array.ext'
      simp
    simp only [binOp, Op.stringOp, if_neg hn, e]
  · cases h; simp [binOp_string_eql, ByteArray.toList_eq, beqL_eq]
  · cases h; simp [binOp_string_neq, ByteArray.toList_eq, beqL_eq]
  · cases h; simp [binOp_string_lss, ByteArray.toList_eq]
  · cases h


variable {P : Program} {T : TE} [TOk P T] {vs : VS} {ρ : Operand → Value} {o : Oper} {n : VN}

omit [TOk P T] in
theorem sound_int {op : BinOp} {t u : TypeId} {x y : Operand} {k k' : IntKind} {a b : Int} {v : Value} (ho : o.op = .binOp op t x y u) (hx : ρ x = .int k a) (hy : ρ y = .int k' b) (hv : vint op k a k' b = some v) : Sound P vs ρ o (.value v) := by
  intro N0 W0 W μ ρ' hG hρ
  have h1 := hρ x (by simp [ho, Op.operands])
  have h2 := hρ y (by simp [ho, Op.operands])
  rw [hx] at h1
  rw [hy] at h2
  have e1 := h1.inv_int
  have e2 := h2.inv_int
  have hg : (eqGuard op t x y (.int k a) (.int k' b)).run P W = .ok () W := by cases op <;> rfl
  have hvp : R μ v v := by
    unfold vint at hv
    repeat' (first | (split at hv) | (simp only [Bool.cond_eq_ite] at hv))
    all_goals first | (cases hv; done) | (cases hv; constructor)
  exact ⟨.value v, by simp [execOp, ho, e1, e2, hg, vint_run t hv], hvp⟩

omit [TOk P T] in
theorem sound_str {op : BinOp} {t u : TypeId} {x y : Operand} {a b : ByteArray} {v : Value} (ho : o.op = .binOp op t x y u) (hx : ρ x = .string a) (hy : ρ y = .string b) (hv : vstr op a b = some v) : Sound P vs ρ o (.value v) := by
  intro N0 W0 W μ ρ' hG hρ
  have h1 := hρ x (by simp [ho, Op.operands])
  have h2 := hρ y (by simp [ho, Op.operands])
  rw [hx] at h1
  rw [hy] at h2
  have e1 : ρ' x = .string a := h1.plain rfl
  have e2 : ρ' y = .string b := h2.plain rfl
  have hg : (eqGuard op t x y (.string a) (.string b)).run P W = .ok () W := by cases op <;> rfl
  have hvp : R μ v v := by
    unfold vstr at hv
    repeat' (first | (split at hv) | (simp only [Bool.cond_eq_ite] at hv))
    all_goals first | (cases hv; done) | (cases hv; constructor)
  exact ⟨.value v, by simp [execOp, ho, e1, e2, hg, vstr_run t hv], hvp⟩

def vat (T : TE) (t : TypeId) (s : ByteArray) (m : Int) : Option Value :=
  match T.und t with
  | some .string => bif ile 0 m then match s.data.toList[m.toNat]? with
      | some b => some (.int .u8 (Int.ofNat b.toNat))
      | none => none
    else none
  | _ => none
theorem sound_at {t : TypeId} {x i : Operand} {s : ByteArray} {k : IntKind} {m : Int} {v : Value} (ho : o.op = .index t x i) (hx : ρ x = .string s) (hi : ρ i = .int k m) (hv : vat T t s m = some v) : Sound P vs ρ o (.value v) := by
  intro N0 W0 W μ ρ' hG hρ
  have h1 := hρ x (by simp [ho, Op.operands])
  have h2 := hρ i (by simp [ho, Op.operands])
  rw [hx] at h1
  rw [hi] at h2
  have e1 : ρ' x = .string s := h1.plain rfl
  have e2 := h2.inv_int
  unfold vat at hv
  split at hv
  case h_2 => cases hv
  rename_i hu
  simp only [Bool.cond_eq_ite, ile_eq, decide_eq_true_eq] at hv
  split at hv
  case isFalse => cases hv
  rename_i hm
  split at hv
  case h_2 => cases hv
  rename_i b hb
  cases hv
  have hlt : m.toNat < s.data.toList.length := (List.getElem?_eq_some_iff.1 hb).1
  have hb' : s[m.toNat]? = some b := by
    have h3 : m.toNat < s.size := by simpa using hlt
    rw [getElem?_pos s m.toNat h3]
    have := (List.getElem?_eq_some_iff.1 hb).2
    rw [← this]
    simp [ByteArray.getElem_eq_getElem_data]
  exact ⟨.value (.int .u8 b.toNat), by simp [execOp, ho, e1, e2, Instr.index, asIntOf, run_underlying (TOk.und (P := P) hu), hm, hb'], .int _ _⟩

def vcut (T : TE) (t : TypeId) (s : ByteArray) (lo hi : Option Value) : Option Value :=
  match T.und t with
  | some .string => match bound hi s.data.toList.length, bound lo 0 with
    | some h, some l => bif Nat.ble h s.data.toList.length && Nat.ble l h then some (.string ⟨⟨(s.data.toList.drop l).take (h - l)⟩⟩) else none
    | _, _ => none
  | _ => none
omit [Base] in
theorem extract_eq (s : ByteArray) (l h : Nat) : s.extract l h = ⟨⟨(s.data.toList.drop l).take (h - l)⟩⟩ := by
  apply ByteArray.ext
  apply Array.ext'
  simp [ByteArray.data_extract, List.extract]
theorem sound_cut {t : TypeId} {x : Operand} {lo hi : Option Operand} {s : ByteArray} {v : Value} (ho : o.op = .slice t x lo hi none) (hx : ρ x = .string s) (hv : vcut T t s (lo.map ρ) (hi.map ρ) = some v) : Sound P vs ρ o (.value v) := by
  intro N0 W0 W μ ρ' hG hρ
  have h1 := hρ x (by simp [ho, Op.operands])
  rw [hx] at h1
  have e : ρ' x = .string s := h1.plain rfl
  have rel : ∀ z : Option Operand, (∀ y, z = some y → R μ (ρ y) (ρ' y)) → (∀ v, z.map ρ = some v → ∃ v', z.map ρ' = some v' ∧ R μ v v') ∧ (z.map ρ = none → z.map ρ' = none) := fun z h => by
    cases z with
    | none => exact ⟨fun v hv => by simp at hv, fun _ => rfl⟩
    | some y => exact ⟨fun v hv => by simp at hv; subst hv; exact ⟨ρ' y, rfl, h y rfl⟩, fun hv => by simp at hv⟩
  have olo := rel lo fun y hy => hρ y (by simp [ho, Op.operands, hy])
  have ohi := rel hi fun y hy => hρ y (by simp [ho, Op.operands, hy])
  unfold vcut at hv
  split at hv
  case h_2 => cases hv
  rename_i hu
  split at hv
  case h_2 => cases hv
  rename_i h l eh el
  simp only [Bool.cond_eq_ite] at hv
  split at hv
  case isFalse => cases hv
  rename_i hb
  simp only [Bool.and_eq_true, Nat.ble_eq] at hb
  obtain ⟨b2, b3⟩ := hb
  cases hv
  have hsz : s.data.toList.length = s.size := by rw [Array.length_toList]; rfl
  rw [hsz] at b2 eh
  have hu' := run_underlying (TOk.und (P := P) hu) W
  refine ⟨.value (.string (s.extract l h)), ?_, by rw [extract_eq]; exact .string _⟩
  rcases bound_run eh ohi.1 ohi.2 with ⟨q1, e1⟩ | ⟨k1, i1, q1, p1, e1⟩ <;> rcases bound_run el olo.1 olo.2 with ⟨q2, e2⟩ | ⟨k2, i2, q2, p2, e2⟩
  · subst e1; subst e2
    simp [execOp, ho, e, Instr.sliceAt, hu', Instr.slice, Instr.sliceBounds, q1, q2]
  · have r2 : i2 ≤ (h : Int) := by omega
    subst e1; subst e2
    simp [execOp, ho, e, Instr.sliceAt, hu', Instr.slice, Instr.sliceBounds, Instr.sliceBound, asIntOf, q1, q2, p2, r2]
  · have r1 : i1 ≤ (s.size : Int) := by omega
    subst e1; subst e2
    simp [execOp, ho, e, Instr.sliceAt, hu', Instr.slice, Instr.sliceBounds, Instr.sliceBound, asIntOf, q1, q2, p1, r1]
  · have r1 : i1 ≤ (s.size : Int) := by omega
    have r2 : i2 ≤ i1 := by omega
    subst e1; subst e2
    simp [execOp, ho, e, Instr.sliceAt, hu', Instr.slice, Instr.sliceBounds, Instr.sliceBound, asIntOf, q1, q2, p1, r1, p2, Int.toNat_of_nonneg p1, r2]

/- The length of a text. -/
def vsize (T : TE) (t : TypeId) (x : Value) : Option Value :=
  match T.und t, x with
  | some .string, .string s => some (.int .i64 (Int.ofNat s.data.toList.length))
  | _, _ => none
theorem sound_size {c : Call} {x : Operand} {t : TypeId} {v : Value} (ho : o.op = .call c) (hc : c.callee = .builtin .len) (ha : c.args = #[x]) (ht : c.argTypes = #[t]) (hv : vsize T t (ρ x) = some v) : Sound P vs ρ o (.value v) := by
  intro N0 W0 W μ ρ' hG hρ
  have h1 := hρ x (by simp [ho, Op.operands, Call.operands, hc, ha])
  generalize ρ x = vx at *
  unfold vsize at hv
  split at hv
  case h_2 => cases hv
  rename_i s hu
  cases hv
  have e : ρ' x = .string s := h1.plain rfl
  have hsz : s.data.toList.length = s.size := by rw [Array.length_toList]; rfl
  rw [hsz]
  exact ⟨.value (goInt s.size), by simp [execOp, ho, resolve, hc, ha, ht, invoke, builtin, Builtin.len_, run_underlying (TOk.und (P := P) hu), e], .int _ _⟩

end Go.Ev

/-
  The evaluator's operations that leave memory alone: what is nil, assertions, parts put together; all of them together.
-/
namespace Go.Ev
open Go.RowKit
variable [Base]

variable {P : Program} {T : TE} [TOk P T] {vs : VS} {ρ : Operand → Value} {o : Oper} {n : VN}

theorem sound_nil {op : BinOp} {t u : TypeId} {x y : Operand} {v : Value} (ho : o.op = .binOp op t x y u) (hv : vnil T op t (ρ x) (ρ y) = some v) : Sound P vs ρ o (.value v) := by
  intro N0 W0 W μ ρ' hG hρ
  have h1 := hρ x (by simp [ho, Op.operands])
  have h2 := hρ y (by simp [ho, Op.operands])
  unfold vnil at hv
  split at hv
  case h_2 => cases hv
  rename_i d hu
  generalize hx : ρ x = vx at *
  generalize hy : ρ y = vy at *
  generalize hx' : ρ' x = vx' at *
  generalize hy' : ρ' y = vy' at *
  have key : ∀ b, nilEq d vx vy = some b → (op = .eql ∨ op = .neq) → (eqGuard op t x y vx' vy').run P W = .ok () W ∧ binOp .eql t vx' vy' = (do pure (.bool (← Op.equal t vx' vy'))) ∧ binOp .neq t vx' vy' = (do pure (.bool (!(← Op.equal t vx' vy')))) := by
    intro b h hop
    unfold nilEq at h
    split at h <;> cases h <;> cases h1 <;> cases h2 <;> rcases hop with rfl | rfl <;> exact ⟨by simp [eqGuard], rfl, rfl⟩
  split at hv
  · rename_i b hb
    cases hv
    obtain ⟨k1, k2, _⟩ := key b hb (.inl rfl)
    refine ⟨.value (.bool b), ?_, .bool b⟩
    simp [execOp, ho, hx', hy', k1, k2, Op.equal, Op.maxDepth, nilEq_run (P := P) hu hb h1 h2]
  · rename_i b hb
    cases hv
    obtain ⟨k1, _, k2⟩ := key b hb (.inr rfl)
    refine ⟨.value (.bool !b), ?_, .bool _⟩
    simp [execOp, ho, hx', hy', k1, k2, Op.equal, Op.maxDepth, nilEq_run (P := P) hu hb h1 h2]
  · cases hv

/- Parts put together. -/
omit [Base] in
theorem foldl_cells {μ : Mu} (off : Nat) : ∀ (l l' : List (Value × Nat)) (cs cs' : Array Value), RA μ cs cs' → l.length = l'.length → (∀ (i : Nat) x y, l[i]? = some x → l'[i]? = some y → R μ x.1 y.1 ∧ x.2 = y.2) →
    RA μ (l.foldl (fun cs (c, j) => cs.setIfInBounds (off + j) c) cs) (l'.foldl (fun cs (c, j) => cs.setIfInBounds (off + j) c) cs')
  | [], [], _, _, h, _, _ => h
  | x :: l, y :: l', cs, cs', h, hl, hr => by
    simp only [List.foldl_cons]
    obtain ⟨r1, r2⟩ := hr 0 x y rfl rfl
    refine foldl_cells off l l' _ _ ?_ (by simpa using hl) (fun i a b ha hb => hr (i + 1) a b (by simpa using ha) (by simpa using hb))
    obtain ⟨x1, x2⟩ := x
    obtain ⟨y1, y2⟩ := y
    simp only at r1 r2
    subst r2
    refine ⟨by simp [h.1], fun i a b ha hb => ?_⟩
    rw [Array.getElem?_setIfInBounds] at ha hb
    rw [← h.1] at hb
    split at ha
    · rename_i e
      rw [if_pos e] at hb
      split at ha
      · rename_i e2; rw [if_pos e2] at hb; cases ha; cases hb; exact r1
      · cases ha
    · rename_i e
      rw [if_neg e] at hb
      exact h.2 i a b ha hb
  | [], _ :: _, _, _, _, hl, _ => by simp at hl
  | _ :: _, [], _, _, _, hl, _ => by simp at hl

omit [Base] in
theorem fill_rel {μ : Mu} (place : Nat → Option (Nat × Nat)) : ∀ (l l' : List (Nat × Value)) (cs cs' r : Array Value), RA μ cs cs' → l.length = l'.length → (∀ (i : Nat) x y, l[i]? = some x → l'[i]? = some y → x.1 = y.1 ∧ R μ x.2 y.2) →
    Instr.fill place cs l = some r → ∃ r', Instr.fill place cs' l' = some r' ∧ RA μ r r'
  | [], [], cs, cs', r, h, _, _, hf => by
    simp only [Instr.fill] at hf
    cases hf
    exact ⟨cs', rfl, h⟩
  | (i, v) :: l, (i', v') :: l', cs, cs', r, h, hl, hr, hf => by
    obtain ⟨r1, r2⟩ := hr 0 _ _ rfl rfl
    simp only at r1 r2
    subst r1
    have hc := r2.cells
    simp only [Instr.fill] at hf ⊢
    cases hp : place i with
    | none => rw [hp] at hf; cases hf
    | some os =>
      obtain ⟨off, size⟩ := os
      rw [hp] at hf
      simp only at hf ⊢
      rw [← hc.1, ← h.1]
      split at hf
      · cases hf
      · rename_i hcond
        rw [if_neg hcond]
        refine fill_rel place l l' _ _ r ?_ (by simpa using hl) (fun i a b ha hb => hr (i + 1) a b (by simpa using ha) (by simpa using hb)) hf
        rw [← Array.foldl_toList, ← Array.foldl_toList]
        refine foldl_cells off _ _ _ _ h (by simp [hc.1]) ?_
        intro k a b ha hb
        simp only [Array.getElem?_toList, Array.getElem?_zipIdx, Option.map_eq_some_iff] at ha hb
        obtain ⟨u, hu, rfl⟩ := ha
        obtain ⟨u', hu', rfl⟩ := hb
        exact ⟨hc.2 k u u' hu hu', rfl⟩
  | [], _ :: _, _, _, _, _, hl, _, _ => by simp at hl
  | _ :: _, [], _, _, _, _, hl, _, _ => by simp at hl


def vbuild (T : TE) (t : TypeId) (parts : List (Nat × Value)) : Option Value :=
  match T.inf t with
  | some i => match i.zero with
    | some z => bif plainB z then
        match T.und t with
        | some (.struct fields) => match placesOf T fields.toList with
          | some places => match lfill (places[·]?) z.cells.toList parts with
            | some cs => some (.agg ⟨cs⟩)
            | none => none
          | none => none
        | some (.array _ elem) => match T.inf elem with
          | some inf => match lfill (fun i => some (i * inf.size, inf.size)) z.cells.toList parts with
            | some cs => some (.agg ⟨cs⟩)
            | none => none
          | none => none
        | _ => none
      else none
    | none => none
  | none => none
omit [Base] in
theorem parts_rel {μ : Mu} {ρ' : Operand → Value} {parts : Array (Nat × Operand)} (h : ∀ x ∈ (parts.toList.map (·.2)).toArray, R μ (ρ x) (ρ' x)) :
    (parts.toList.map fun p => (p.1, ρ p.2)).length = (parts.map fun (i, x) => (i, ρ' x)).toList.length ∧
    ∀ (i : Nat) x y, (parts.toList.map fun p => (p.1, ρ p.2))[i]? = some x → (parts.map fun (i, x) => (i, ρ' x)).toList[i]? = some y → x.1 = y.1 ∧ R μ x.2 y.2 := by
  refine ⟨by simp, fun i x y hx hy => ?_⟩
  simp only [List.getElem?_map, Array.getElem?_toList, Array.getElem?_map, Option.map_eq_some_iff] at hx hy
  obtain ⟨u, hu, rfl⟩ := hx
  obtain ⟨u', hu', rfl⟩ := hy
  rw [hu] at hu'; cases hu'
  refine ⟨rfl, h u.2 ?_⟩
  have := Array.mem_of_getElem? hu
  simp only [List.mem_toArray, List.mem_map]
  exact ⟨u, by simpa using this, rfl⟩
theorem sound_build {t : TypeId} {parts : Array (Nat × Operand)} {v : Value} (ho : o.op = .build t parts) (hv : vbuild T t (parts.toList.map fun p => (p.1, ρ p.2)) = some v) : Sound P vs ρ o (.value v) := by
  intro N0 W0 W μ ρ' hG hρ
  obtain ⟨q1, q2⟩ := parts_rel (μ := μ) (ρ := ρ) (ρ' := ρ') (parts := parts) fun x hx => hρ x (by simpa [ho, Op.operands] using hx)
  unfold vbuild at hv
  split at hv
  case h_2 => cases hv
  rename_i i hi
  split at hv
  case h_2 => cases hv
  rename_i z hz
  simp only [Bool.cond_eq_ite] at hv
  split at hv
  case isFalse => cases hv
  rename_i hp
  have hzz := (plain_self μ z hp).cells
  split at hv
  · rename_i fields hu
    split at hv
    case h_2 => cases hv
    rename_i places hpl
    split at hv
    case h_2 => cases hv
    rename_i cs hf
    cases hv
    have hf := fill_list _ _ _ _ hf
    rw [show z.cells.toList.toArray = z.cells by simp] at hf
    obtain ⟨r', e1, e2⟩ := fill_rel _ _ _ _ _ _ hzz q1 q2 hf
    refine ⟨.value (.agg r'), ?_, .agg _ _ e2.1 e2.2⟩
    have hpl' := places_run (P := P) (W := W) hpl
    have e1' : Instr.fill (fun x => places.toArray[x]?) z.cells (parts.map fun (i, x) => (i, ρ' x)).toList = some r' := by rw [← e1]; congr 1; funext x; simp
    simp only [execOp, ho, Instr.build, Sem.run_bind, run_zero' (TOk.inf (P := P) hi) hz, Result.andThen_ok, run_underlying (TOk.und (P := P) hu), hpl', e1', Sem.run_pure]
  · rename_i len elem hu
    split at hv
    case h_2 => cases hv
    rename_i inf hinf
    split at hv
    case h_2 => cases hv
    rename_i cs hf
    cases hv
    have hf := fill_list _ _ _ _ hf
    rw [show z.cells.toList.toArray = z.cells by simp] at hf
    obtain ⟨r', e1, e2⟩ := fill_rel _ _ _ _ _ _ hzz q1 q2 hf
    refine ⟨.value (.agg r'), ?_, .agg _ _ e2.1 e2.2⟩
    simp only [execOp, ho, Instr.build, Sem.run_bind, run_zero' (TOk.inf (P := P) hi) hz, Result.andThen_ok, run_underlying (TOk.und (P := P) hu), run_sizeOf' (TOk.inf (P := P) hinf), e1, Sem.run_pure]
  · cases hv

/- What an interface value holds. -/
def vassert (T : TE) (x : Value) (asserted : TypeId) (ok : Bool) : Option Value :=
  match T.und asserted, x with
  | some d, .iface t v => bif concrete d then
      bif Nat.beq t asserted then some (bif ok then .tuple #[v, .bool true] else v)
      else bif ok then match T.inf asserted with
        | some i => match i.zero with
          | some z => bif plainB z then some (.tuple #[z, .bool false]) else none
          | none => none
        | none => none
      else none
    else none
  | _, _ => none
theorem sound_assert {x : Operand} {xt asserted : TypeId} {ok : Bool} {v : Value} (ho : o.op = .typeAssert x xt asserted ok) (hv : vassert T (ρ x) asserted ok = some v) : Sound P vs ρ o (.value v) := by
  intro N0 W0 W μ ρ' hG hρ
  have h1 := hρ x (by simp [ho, Op.operands])
  generalize hx : ρ x = vx at *
  generalize hx' : ρ' x = vx' at *
  unfold vassert at hv
  split at hv
  case h_2 => cases hv
  rename_i d t w hu
  obtain ⟨w', rfl, hw⟩ := h1.inv_iface
  simp only [Bool.cond_eq_ite] at hv
  split at hv
  case isFalse => cases hv
  rename_i hd
  split at hv
  · rename_i ht
    have ht := Nat.eq_of_beq_eq_true ht
    subst ht
    cases hv
    cases ok
    · refine ⟨.value w', ?_, hw⟩
      cases d <;> first
        | (simp [concrete] at hd; done)
        | (simp [execOp, ho, hx', Instr.typeAssert, run_underlying (TOk.und (P := P) hu)]; done)
    · have hr := RA.two hw (R.bool (μ := μ) true)
      refine ⟨.value (.tuple #[w', .bool true]), ?_, .tuple _ _ hr.1 hr.2⟩
      cases d <;> first
        | (simp [concrete] at hd; done)
        | (simp [execOp, ho, hx', Instr.typeAssert, run_underlying (TOk.und (P := P) hu)]; done)
  · rename_i ht
    have ht' : ¬ t = asserted := fun e => ht (by rw [e]; exact Nat.beq_refl _)
    split at hv
    case isFalse => cases hv
    rename_i hok
    subst hok
    split at hv
    case h_2 => cases hv
    rename_i i hi
    split at hv
    case h_2 => cases hv
    rename_i z hz
    split at hv
    case isFalse => cases hv
    rename_i hp
    cases hv
    have hr := RA.two (plain_self μ z hp) (R.bool (μ := μ) false)
    refine ⟨.value (.tuple #[z, .bool false]), ?_, .tuple _ _ hr.1 hr.2⟩
    cases d <;> first
      | (simp [concrete] at hd; done)
      | (simp [execOp, ho, hx', Instr.typeAssert, run_underlying (TOk.und (P := P) hu), ht', run_zero' (TOk.inf (P := P) hi) hz]; done)

/- All of them. -/
def vlift (x : Option Value) : Option VN :=
  match x with
  | some v => some (.value v)
  | none => none
omit [Base] in
theorem vlift_some {x : Option Value} {n : VN} (h : vlift x = some n) : ∃ v, x = some v ∧ n = .value v := by
  unfold vlift at h
  split at h
  · cases h; exact ⟨_, rfl, rfl⟩
  · cases h

def isBuiltin : Callee → Bool
  | .builtin _ => true
  | _ => false

def qPick (ρ : Operand → Value) (c a b : Operand) : Option VN :=
  match ρ c with
  | .bool t => some (.value (bif t then ρ a else ρ b))
  | _ => none
def qLoad (T : TE) (vs : VS) (ρ : Operand → Value) (t : TypeId) (x : Operand) : Option VN :=
  match ρ x with
  | .pointer (some a) => vlift (vload T vs t a)
  | _ => none
def qNil (ρ : Operand → Value) (x : Operand) : Option VN := bif nilOk (ρ x) then some (.value (ρ x)) else none
def qFieldAddr (T : TE) (ρ : Operand → Value) (s : TypeId) (x : Operand) (f : Nat) : Option VN :=
  match ρ x with
  | .pointer (some a) => vlift (vfield T s a f)
  | _ => none
def qExtract (ρ : Operand → Value) (x : Operand) (ix : Nat) : Option VN :=
  match ρ x with
  | .tuple a => vlift a.toList[ix]?
  | _ => none
def qField (T : TE) (ρ : Operand → Value) (t : TypeId) (x : Operand) (f : Nat) : Option VN :=
  match T.und t, ρ x with
  | some (.struct fields), .agg a => match fields.toList[f]? with
    | some fl => vlift (vpart T fl.type a fl.offset)
    | none => none
  | _, _ => none
def qIndex (T : TE) (ρ : Operand → Value) (t : TypeId) (x i : Operand) : Option VN :=
  match ρ x, ρ i with
  | .string s, .int _ m => vlift (vat T t s m)
  | .agg a, .int _ m => match T.und t with
    | some (.array len elem) => match T.inf elem with
      | some inf => bif decide (0 ≤ m) && decide (m < len) then vlift (vpart T elem a (m.toNat * inf.size)) else none
      | none => none
    | _ => none
  | _, _ => none
def qSlice (P : Program) (T : TE) (vs : VS) (ρ : Operand → Value) (o : Oper) (t : TypeId) (x : Operand) (lo hi : Option Operand) : Option VN :=
  match ρ x with
  | .slice (some a) len cap => match vsliceAt T vs t a len cap (lo.map ρ) (hi.map ρ) with
    | some (l, h, sz) => bif Nat.beq l cap then none else some (.value (.slice (some (a.add (l * sz))) (h - l) (cap - l)))
    | none => none
  | .string s => vlift (vcut T t s (lo.map ρ) (hi.map ρ))
  | _ => vplain P ρ o
def qIface (T : TE) (ρ : Operand → Value) (t : TypeId) (x : Operand) : Option VN :=
  match T.und t with
  | some d => bif concrete d then some (.value (.iface t (ρ x))) else none
  | none => none
def qConv (P : Program) (T : TE) (vs : VS) (ρ : Operand → Value) (o : Oper) (src dst : TypeId) (x : Operand) : Option VN :=
  match ρ x with
  | .slice (some a) len _ => vlift (vtext T vs src dst a len)
  | _ => vplain P ρ o
def qOr (P : Program) (ρ : Operand → Value) (o : Oper) (x : Option Value) : Option VN :=
  match x with
  | some v => some (.value v)
  | none => vplain P ρ o
def qBin (P : Program) (T : TE) (ρ : Operand → Value) (o : Oper) (op : BinOp) (t : TypeId) (x y : Operand) : Option VN :=
  match ρ x, ρ y with
  | .int k a, .int k' b => qOr P ρ o (vint op k a k' b)
  | .string a, .string b => qOr P ρ o (vstr op a b)
  | vx, vy => qOr P ρ o (vnil T op t vx vy)
def qLen (P : Program) (T : TE) (ρ : Operand → Value) (o : Oper) (c : Call) : Option VN :=
  match c.args.toList, c.argTypes.toList with
  | [x], [t] => match vlen T t (ρ x) with
    | some v => some (.value v)
    | none => qOr P ρ o (vsize T t (ρ x))
  | _, _ => none
def qCall (P : Program) (T : TE) (ρ : Operand → Value) (o : Oper) (c : Call) : Option VN :=
  match c.callee with
  | .value f => match ρ f with
    | .func (.func g) first captured => bif T.body g then some (.enter g ⟨first.toList ++ (c.args.toList.map ρ ++ captured.toList)⟩) else vlift (vext T g (first.toList ++ (c.args.toList.map ρ ++ captured.toList)))
    | _ => none
  | .builtin .len => qLen P T ρ o c
  | _ => vplain P ρ o

def vquiet (P : Program) (T : TE) (vs : VS) (ρ : Operand → Value) (o : Oper) : Option VN :=
  match o.op with
  | .move x => some (.value (ρ x))
  | .assign x => some (.value (ρ x))
  | .pick c a b => qPick ρ c a b
  | .load t x => qLoad T vs ρ t x
  | .nilCheck x => qNil ρ x
  | .fieldAddr s x f => qFieldAddr T ρ s x f
  | .indexAddr t x i => vlift (vindexAt T t (ρ x) (ρ i))
  | .extract x ix => qExtract ρ x ix
  | .field t x f => qField T ρ t x f
  | .index t x i => qIndex T ρ t x i
  | .slice t x lo hi none => qSlice P T vs ρ o t x lo hi
  | .makeInterface t x => qIface T ρ t x
  | .makeFunc fn first captured => some (.value (.func fn ⟨first.toList.map ρ⟩ ⟨captured.toList.map ρ⟩))
  | .convert src dst x => qConv P T vs ρ o src dst x
  | .binOp op t x y _ => qBin P T ρ o op t x y
  | .build t parts => vlift (vbuild T t (parts.toList.map fun p => (p.1, ρ p.2)))
  | .typeAssert x _ asserted ok => qOr P ρ o (vassert T (ρ x) asserted ok)
  | .call c => qCall P T ρ o c
  | .select _ _ => none
  | _ => vplain P ρ o

end Go.Ev

/-
  The evaluator's operations that leave memory alone: what they say of the machine.
-/
namespace Go.Ev
open Go.RowKit
variable [Base]

variable {P : Program} {T : TE} [TOk P T] {vs : VS} {ρ : Operand → Value} {o : Oper} {n : VN}

theorem vquiet_sound (hN : NamesOk P) (h : vquiet P T vs ρ o = some n) : Sound P vs ρ o n := by
  unfold vquiet at h
  split at h
  case h_1 x ho => cases h; exact sound_move (.inl ho)
  case h_2 x ho => cases h; exact sound_move (.inr ho)
  case h_3 c a b ho =>
    unfold qPick at h
    split at h
    · rename_i t hc; cases h; exact sound_pick ho hc
    · cases h
  case h_4 t x ho =>
    unfold qLoad at h
    split at h
    · rename_i a hx
      obtain ⟨v, h1, rfl⟩ := vlift_some h
      exact sound_load ho hx h1
    · cases h
  case h_5 x ho =>
    unfold qNil at h
    simp only [Bool.cond_eq_ite] at h
    split at h
    · rename_i hx; cases h; exact sound_nilCheck ho hx
    · cases h
  case h_6 s x f ho =>
    unfold qFieldAddr at h
    split at h
    · rename_i a hx
      obtain ⟨v, h1, rfl⟩ := vlift_some h
      exact sound_fieldAddr ho hx h1
    · cases h
  case h_7 t x i ho =>
    obtain ⟨v, h1, rfl⟩ := vlift_some h
    exact sound_indexAddr ho h1
  case h_8 x ix ho =>
    unfold qExtract at h
    split at h
    · rename_i a hx
      obtain ⟨v, h1, rfl⟩ := vlift_some h
      exact sound_extract ho hx h1
    · cases h
  case h_9 t x f ho =>
    unfold qField at h
    split at h
    · rename_i fields a hu hx
      split at h
      · rename_i fl hf
        obtain ⟨v, h1, rfl⟩ := vlift_some h
        exact sound_field ho hu hx hf h1
      · cases h
    · cases h
  case h_10 t x i ho =>
    unfold qIndex at h
    split at h
    · rename_i s k m hx hi
      obtain ⟨v, h1, rfl⟩ := vlift_some h
      exact sound_at ho hx hi h1
    · rename_i a k m hx hi
      split at h
      · rename_i len elem hu
        split at h
        · rename_i inf hinf
          simp only [Bool.cond_eq_ite] at h
          split at h
          · rename_i hb
            simp only [Bool.and_eq_true, decide_eq_true_eq] at hb
            obtain ⟨v, h1, rfl⟩ := vlift_some h
            exact sound_index ho hu hx hi hinf hb h1
          · cases h
        · cases h
      · cases h
    · cases h
  case h_11 t x lo hi ho =>
    unfold qSlice at h
    split at h
    · rename_i a len cap hx
      split at h
      · rename_i l hh sz hv
        simp only [Bool.cond_eq_ite] at h
        split at h
        · cases h
        · rename_i hne
          cases h
          exact sound_slice ho hx hv fun e => hne (by rw [e]; exact Nat.beq_refl _)
      · cases h
    · rename_i s hx
      obtain ⟨v, h1, rfl⟩ := vlift_some h
      exact sound_cut ho hx h1
    · exact sound_plain (by rw [ho]; rfl) h
  case h_12 t x ho =>
    unfold qIface at h
    split at h
    · rename_i d hu
      simp only [Bool.cond_eq_ite] at h
      split at h
      · rename_i hd; cases h; exact sound_makeInterface ho hu hd
      · cases h
    · cases h
  case h_13 fn first captured ho => cases h; exact sound_makeFunc ho
  case h_14 src dst x ho =>
    unfold qConv at h
    split at h
    · rename_i a len cap hx
      obtain ⟨v, h1, rfl⟩ := vlift_some h
      exact sound_text ho hx h1
    · exact sound_plain (by rw [ho]; rfl) h
  case h_15 op t x y u ho =>
    unfold qBin at h
    split at h
    · rename_i k a k' b hx hy
      unfold qOr at h
      split at h
      · rename_i v hv; cases h; exact sound_int ho hx hy hv
      · exact sound_plain (by rw [ho]; rfl) h
    · rename_i a b hx hy
      unfold qOr at h
      split at h
      · rename_i v hv; cases h; exact sound_str ho hx hy hv
      · exact sound_plain (by rw [ho]; rfl) h
    · unfold qOr at h
      split at h
      · rename_i v hv; cases h; exact sound_nil ho hv
      · exact sound_plain (by rw [ho]; rfl) h
  case h_16 t parts ho =>
    obtain ⟨v, h1, rfl⟩ := vlift_some h
    exact sound_build ho h1
  case h_17 x xt asserted ok ho =>
    unfold qOr at h
    split at h
    · rename_i v hv; cases h; exact sound_assert ho hv
    · exact sound_plain (by rw [ho]; rfl) h
  case h_18 c ho =>
    unfold qCall at h
    split at h
    · rename_i f hc
      split at h
      · rename_i g first captured hf
        simp only [Bool.cond_eq_ite] at h
        split at h
        · rename_i hb; cases h; exact sound_call hN ho hc hf (TOk.body (P := P) hb)
        · obtain ⟨v, h1, rfl⟩ := vlift_some h
          exact sound_ext ho hc hf h1
      · cases h
    · rename_i hc
      unfold qLen at h
      split at h
      · rename_i x t ha ht
        split at h
        · rename_i v hv; cases h; exact sound_len ho hc (Array.ext' ha) (Array.ext' ht) hv
        · unfold qOr at h
          split at h
          · rename_i v hv; cases h; exact sound_size ho hc (Array.ext' ha) (Array.ext' ht) hv
          · exact sound_plain (by rw [ho]; rfl) h
      · cases h
    · exact sound_plain (by rw [ho]; rfl) h
  case h_19 => cases h
  case h_20 hns =>
    exact sound_plain (by
      cases ho : o.op <;> first
        | rfl
        | (exfalso; exact hns _ _ ho)) h

end Go.Ev

/-
  The evaluator's operations that make or write memory.
-/
namespace Go.Ev
open Go.RowKit
variable [Base]

variable {P : Program} {T : TE} [TOk P T] {vs vs1 : VS} {ρ : Operand → Value} {o : Oper} {n : VN}

def SoundM (P : Program) (vs : VS) (ρ : Operand → Value) (o : Oper) (n : VN) (vs1 : VS) : Prop :=
  ∀ (N0 : Nat → Prop) (W0 W : World) (μ : Mu) (ρ' : Operand → Value), G N0 W0 vs W μ → (∀ x ∈ o.op.operands, R μ (ρ x) (ρ' x)) →
    ∃ μ1 W1 n', μ.le μ1 ∧ G N0 W0 vs1 W1 μ1 ∧ (execOp ρ' o).run P W = .ok n' W1 ∧ RN μ1 n n'

theorem Sound.toM (h : Sound P vs ρ o n) : SoundM P vs ρ o n vs := fun N0 W0 W μ ρ' hG hρ =>
  let ⟨n', h1, h2⟩ := h N0 W0 W μ ρ' hG hρ
  ⟨μ, W, n', Mu.le_refl _, hG, h1, h2⟩

theorem G.alloc0 {N0 : Nat → Prop} {W0 W : World} {μ : Mu} (h : G N0 W0 vs W μ) {xs : List Value} {ys : Array Value} {elem : TypeId} {esz : Nat} (fam : Nat) {whole : Bool} (hxy : RA μ xs.toArray ys) :
    G N0 W0 (vs.add ⟨xs, elem, esz, fam, true, false, whole, false⟩) (W.alloc (.cells ys elem)) (μ.put vs.next ⟨W.heap.size, 0, 0, esz, xs.length⟩) := by
  have := h.alloc (rest := #[]) (extra := 0) (elem := elem) (esz := esz) (fam := fam) (rw := true) (grow := false) (whole := whole) (tail := false) hxy (by simp) (fun _ => rfl) (fun _ => rfl)
  simpa using this

theorem G.le_put {N0 : Nat → Prop} {W0 W : World} {μ : Mu} (h : G N0 W0 vs W μ) (l : Loc) : μ.le (μ.put vs.next l) := Mu.put_le (h.fresh _ (Nat.le_refl _)) l

def newPtr (vs : VS) : Value := .pointer (some ⟨vs.next, 0, none⟩)
omit [Base] in
theorem R_new {μ : Mu} (vs : VS) (b ex esz len : Nat) : R (μ.put vs.next ⟨b, 0, ex, esz, len⟩) (newPtr vs) (.pointer (some ⟨b, 0, none⟩)) := by
  have := R.ptr (μ := μ.put vs.next ⟨b, 0, ex, esz, len⟩) ⟨vs.next, 0, none⟩ _ (Mu.put_self _ _ _)
  simpa [amap, newPtr] using this

def eszOf (T : TE) (t : TypeId) : Nat :=
  match T.und t with
  | some (.array _ e) => match T.inf e with
    | some i => i.size
    | none => 1
  | _ => 1

def valloc (T : TE) (vs : VS) (elem : TypeId) : Option (VN × VS) :=
  match T.inf elem with
  | some i => match i.zero with
    | some z => bif plainB z then some (.value (newPtr vs), vs.add ⟨z.cells.toList, elem, eszOf T elem, vs.next, true, false, true, false⟩) else none
    | none => none
  | none => none
theorem sound_alloc {elem : TypeId} (ho : o.op = .alloc elem) (h : valloc T vs elem = some (n, vs1)) : SoundM P vs ρ o n vs1 := by
  intro N0 W0 W μ ρ' hG hρ
  unfold valloc at h
  split at h
  case h_2 => cases h
  rename_i i hi
  split at h
  case h_2 => cases h
  rename_i z hz
  simp only [Bool.cond_eq_ite] at h
  split at h
  case isFalse => cases h
  rename_i hp
  cases h
  have hr : RA μ z.cells.toList.toArray z.cells := by simpa using (plain_self μ z hp).cells
  refine ⟨_, _, .value (.pointer (some ⟨W.heap.size, 0, none⟩)), hG.le_put _, hG.alloc0 vs.next hr, ?_, R_new _ _ _ _ _⟩
  simp [execOp, ho, Instr.alloc, run_zero' (TOk.inf (P := P) hi) hz, newVar, newRow]

omit [TOk P T] in
theorem sound_box {elem : TypeId} {x : Operand} (ho : o.op = .box elem x) : SoundM P vs ρ o (.value (newPtr vs)) (vs.add ⟨(ρ x).cells.toList, elem, eszOf T elem, vs.next, true, false, true, false⟩) := by
  intro N0 W0 W μ ρ' hG hρ
  have h1 := hρ x (by simp [ho, Op.operands])
  have hr : RA μ (ρ x).cells.toList.toArray (ρ' x).cells := by simpa using h1.cells
  refine ⟨_, _, .value (.pointer (some ⟨W.heap.size, 0, none⟩)), hG.le_put _, hG.alloc0 vs.next hr, ?_, R_new _ _ _ _ _⟩
  simp [execOp, ho, Instr.box, newVar, newRow]

def vstore (T : TE) (vs : VS) (t : TypeId) (a : Addr) (v : Value) : Option VS :=
  match T.inf t with
  | some i => bif Nat.beq v.cells.size i.size then vwrite vs a v.cells.toList else none
  | none => none
theorem sound_store {t : TypeId} {x y : Operand} {a : Addr} (ho : o.op = .store t x y) (hx : ρ x = .pointer (some a)) (h : vstore T vs t a (ρ y) = some vs1) : SoundM P vs ρ o .skip vs1 := by
  intro N0 W0 W μ ρ' hG hρ
  have h1 := hρ x (by simp [ho, Op.operands])
  have h2 := hρ y (by simp [ho, Op.operands])
  rw [hx] at h1
  obtain ⟨l, hl, e⟩ := h1.inv_ptr
  unfold vstore at h
  split at h
  case h_2 => cases h
  rename_i i hi
  simp only [Bool.cond_eq_ite] at h
  split at h
  case isFalse => cases h
  rename_i hs
  have hs := Nat.eq_of_beq_eq_true hs
  have hc := h2.cells
  obtain ⟨W1, r1, r2⟩ := hG.write (P := P) h hl (ys := (ρ' y).cells.toList) (by simpa using hc)
  refine ⟨μ, W1, .skip, Mu.le_refl _, r2, ?_, trivial⟩
  have hs' : (ρ' y).cells.size = i.size := by rw [← hc.1]; exact hs
  simp [execOp, ho, e, Instr.storeAt, Instr.sureAddr, storeVar, run_sizeOf' (TOk.inf (P := P) hi), hs', r1]

/- make -/
def vmake (T : TE) (vs : VS) (t : TypeId) (len cap : Value) : Option (VN × VS) :=
  match T.und t, len, cap with
  | some (.slice elem), .int _ l, .int _ c => match T.inf elem with
    | some i => match i.zero with
      | some z => bif plainB z && decide (0 ≤ l) && decide (l ≤ c) && decide (c < 2 ^ 40) && Nat.ble (i.bytes * c.toNat) (2 ^ 40) && (Nat.beq z.cells.size i.size) then
          some (.value (.slice (some ⟨vs.next, 0, none⟩) l.toNat c.toNat), vs.add ⟨rep z.cells.toList c.toNat, elem, i.size, vs.next, true, false, true, false⟩)
        else none
      | none => none
    | none => none
  | _, _, _ => none

omit [Base] in
theorem plainA_of {a : Array Value} (h : ∀ (i : Nat) x, a[i]? = some x → plainB x = true) : plainA a = true := by
  obtain ⟨l⟩ := a
  have : ∀ l : List Value, (∀ (i : Nat) x, l[i]? = some x → plainB x = true) → plainL l = true := by
    intro l
    induction l with
    | nil => intro _; rfl
    | cons v l ih => intro h; simp only [plainL, Bool.and_eq_true]; exact ⟨h 0 v rfl, ih fun i x hx => h (i + 1) x (by simpa using hx)⟩
  exact this l (fun i x hx => h i x (by simpa using hx))
omit [Base] in
theorem plain_cells {z : Value} (h : plainB z = true) : plainA z.cells = true := by
  cases z <;> simp_all [Value.cells, plainB, plainA, plainL]
omit [Base] in
theorem plain_zeros {cs : Array Value} (h : plainA cs = true) (n : Nat) (hn : n = 0 ∨ cs.size ≠ 0) : plainA ((Array.range n).map (cs[· % cs.size]!)) = true := by
  refine plainA_of fun i x hx => ?_
  simp only [Array.getElem?_map, Option.map_eq_some_iff] at hx
  obtain ⟨k, hk, rfl⟩ := hx
  have hk' := (Array.getElem?_eq_some_iff.1 hk).1
  simp at hk'
  have hpos : 0 < cs.size := by omega
  have hlt : k % cs.size < cs.size := Nat.mod_lt _ hpos
  exact plainA_get (i := k % cs.size) h (by simp [hlt])

omit [Base] in
theorem R_newSlice {μ : Mu} (vs : VS) (b ex esz len n : Nat) (h : ex = 0 ∨ n * esz = len) (m : Nat) : R (μ.put vs.next ⟨b, 0, ex, esz, len⟩) (.slice (some ⟨vs.next, 0, none⟩) m n) (.slice (some ⟨b, 0, none⟩) m (n + ex)) := by
  have := R.slice (μ := μ.put vs.next ⟨b, 0, ex, esz, len⟩) ⟨vs.next, 0, none⟩ _ m n (Mu.put_self _ _ _) (by simpa using h)
  simpa [amap] using this

omit [Base] in
theorem wrap_id {x : Int} (h0 : 0 ≤ x) (h1 : x < 2 ^ 40) : IntKind.i64.wrap x = x := by
  simp only [IntKind.wrap, IntKind.signed, IntKind.bits]
  simp
  omega

theorem sound_make {t : TypeId} {l c : Operand} (ho : o.op = .makeSlice t l c) (h : vmake T vs t (ρ l) (ρ c) = some (n, vs1)) : SoundM P vs ρ o n vs1 := by
  intro N0 W0 W μ ρ' hG hρ
  have h1 := hρ l (by simp [ho, Op.operands])
  have h2 := hρ c (by simp [ho, Op.operands])
  generalize hl : ρ l = vl at *
  generalize hc : ρ c = vc at *
  unfold vmake at h
  split at h
  case h_2 => cases h
  rename_i elem k1 l1 k2 c1 hu
  have e1 := h1.inv_int
  have e2 := h2.inv_int
  split at h
  case h_2 => cases h
  rename_i i hi
  split at h
  case h_2 => cases h
  rename_i z hz
  simp only [Bool.cond_eq_ite] at h
  split at h
  case isFalse => cases h
  rename_i hb
  simp only [Bool.and_eq_true, decide_eq_true_eq, Nat.ble_eq, Nat.beq_eq] at hb
  obtain ⟨⟨⟨⟨⟨hp, b1⟩, b2⟩, b3⟩, b4⟩, b5⟩ := hb
  cases h
  have w1 : IntKind.i64.wrap l1 = l1 := wrap_id b1 (by omega)
  have w2 : IntKind.i64.wrap c1 = c1 := wrap_id (by omega) b3
  have hc0 : 0 ≤ c1 := by omega
  have hbig : ¬ ((2 : Int) ^ 48 < i.bytes * c1) := by
    have e : (i.bytes : Int) * c1 = ((i.bytes * c1.toNat : Nat) : Int) := by rw [Int.natCast_mul, Int.toNat_of_nonneg hc0]
    rw [e]
    generalize i.bytes * c1.toNat = q at b4
    omega
  have harr : (Array.range (c1.toNat * i.size)).map (z.cells[· % z.cells.size]!) = (rep z.cells.toList c1.toNat).toArray := by rw [← b5]; exact rep_zeros _ _
  have hpl : plainA (rep z.cells.toList c1.toNat).toArray = true := by
    have := plain_cells hp
    simp only [plainA]
    exact plain_rep (by rw [← plainA_toList]; exact this) _
  have hr : RA μ (rep z.cells.toList c1.toNat).toArray ((Array.range (c1.toNat * i.size)).map (z.cells[· % z.cells.size]!)) := by rw [harr]; exact RA_self μ hpl
  refine ⟨_, _, .value (.slice (some ⟨W.heap.size, 0, none⟩) l1.toNat c1.toNat), hG.le_put _, hG.alloc0 vs.next hr, ?_, R_newSlice vs _ 0 _ _ _ (.inl rfl) _⟩
  have t1 : ¬ (c1 < 0 ∨ 281474976710656 < (i.bytes : Int) * c1) := fun h => h.elim (by omega) hbig
  have t2 : ¬ ((c1 < 0 ∨ 281474976710656 < (i.bytes : Int) * c1) ∨ l1 < 0) := fun h => h.elim t1 (by omega)
  have t3 : ¬ (((c1 < 0 ∨ 281474976710656 < (i.bytes : Int) * c1) ∨ l1 < 0) ∨ c1 < l1) := fun h => h.elim t2 (by omega)
  have hr0 : Array.range 0 = #[] := rfl
  by_cases h0 : c1.toNat * i.size = 0
  · simp [execOp, ho, e1, e2, Instr.makeSlice, asInt, asIntOf, run_underlying (TOk.und (P := P) hu), run_typeInfo' (TOk.inf (P := P) hi), w1, w2, t3, run_sizeOf' (TOk.inf (P := P) hi), h0, newRow, hr0]
  · simp [execOp, ho, e1, e2, Instr.makeSlice, asInt, asIntOf, run_underlying (TOk.und (P := P) hu), run_typeInfo' (TOk.inf (P := P) hi), w1, w2, t3, run_sizeOf' (TOk.inf (P := P) hi), h0, run_zero' (TOk.inf (P := P) hi) hz, newRow]

end Go.Ev
