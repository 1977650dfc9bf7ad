/-
  Numbers and texts as the evaluator reckons them.
-/
import Derived.Test.YtmoglfooadcemaaEvP
import Derived.Test.YtmoglfooadcemaaEvE
import Derived.Laws.Strings
import Derived.Laws.Concat
namespace Go.Ev
open Go.RowKit

/- Numbers cut to their kind, by literals. -/
def cutS (n : Int) (m h : Nat) : Int := bif Int.decLe' (Int.ofNat h) (Int.emod n (Int.ofNat m)) then Int.sub (Int.emod n (Int.ofNat m)) (Int.ofNat m) else Int.emod n (Int.ofNat m)
where Int.decLe' (a b : Int) : Bool := decide (a ≤ b)
def kwrap (k : IntKind) (n : Int) : Int :=
  match k with
  | .i64 => cutS n 18446744073709551616 9223372036854775808
  | .u64 => Int.emod n (Int.ofNat 18446744073709551616)
  | .u8 => Int.emod n (Int.ofNat 256)
  | .i32 => cutS n 4294967296 2147483648
  | .u32 => Int.emod n (Int.ofNat 4294967296)
  | .i8 => cutS n 256 128
  | .i16 => cutS n 65536 32768
  | .u16 => Int.emod n (Int.ofNat 65536)
theorem kwrap_eq (k : IntKind) (n : Int) : kwrap k n = k.wrap n := by
  cases k <;> simp only [kwrap, cutS, cutS.Int.decLe', IntKind.wrap, IntKind.bits, IntKind.signed, Bool.cond_eq_ite, decide_eq_true_eq] <;> first | rfl | (simp only [Bool.true_and, decide_eq_true_eq, ge_iff_le]; rfl)


def ieq (a b : Int) : Bool :=
  match a, b with
  | .ofNat m, .ofNat n => Nat.beq m n
  | .negSucc m, .negSucc n => Nat.beq m n
  | _, _ => false
theorem ieq_eq (a b : Int) : ieq a b = (a == b) := by
  have : ieq a b = true ↔ a = b := by
    cases a <;> cases b <;> simp only [ieq, Nat.beq_eq, Int.ofNat.injEq, Int.negSucc.injEq, Bool.false_eq_true, reduceCtorEq]
  by_cases h : a = b
  · rw [this.2 h, h]; simp
  · have h2 : ieq a b = false := by
      cases hb : ieq a b with
      | false => rfl
      | true => exact absurd (this.1 hb) h
    rw [h2]; simp [h]
def ile (a b : Int) : Bool :=
  match a, b with
  | .ofNat m, .ofNat n => Nat.ble m n
  | .negSucc m, .negSucc n => Nat.ble n m
  | .negSucc _, .ofNat _ => true
  | .ofNat _, .negSucc _ => false
theorem ile_eq (a b : Int) : ile a b = decide (a ≤ b) := by
  have : ile a b = true ↔ a ≤ b := by
    cases a <;> cases b <;> simp only [ile, Nat.ble_eq, Bool.false_eq_true, true_iff, false_iff, Int.ofNat_eq_natCast] <;> omega
  by_cases h : a ≤ b
  · rw [this.2 h]; simp [h]
  · have h2 : ile a b = false := by
      cases hb : ile a b with
      | false => rfl
      | true => exact absurd (this.1 hb) h
    rw [h2]; simp [h]
def pow2 (n : Nat) : Int := Int.ofNat (Nat.pow 2 n)
theorem pow2_eq (n : Nat) : pow2 n = (2 : Int) ^ n := by
  unfold pow2
  show ((2 ^ n : Nat) : Int) = _
  simp

def vint (op : BinOp) (k : IntKind) (a : Int) (k' : IntKind) (b : Int) : Option Value :=
  match op with
  | .shl => bif ile 0 b then some (.int k (kwrap k (Int.mul a (pow2 (min b.toNat k.bits))))) else none
  | .shr => bif ile 0 b then some (.int k (Int.fdiv a (pow2 (min b.toNat k.bits)))) else none
  | op => bif k == k' then
      match op with
      | .add => some (.int k (kwrap k (Int.add a b)))
      | .sub => some (.int k (kwrap k (Int.sub a b)))
      | .mul => some (.int k (kwrap k (Int.mul a b)))
      | .quo => bif ieq b 0 then none else some (.int k (kwrap k (Int.tdiv a b)))
      | .rem => bif ieq b 0 then none else some (.int k (Int.tmod a b))
      | .eql => some (.bool (ieq a b))
      | .neq => some (.bool (!ieq a b))
      | .lss => some (.bool (!ile b a))
      | .leq => some (.bool (ile a b))
      | .gtr => some (.bool (!ile a b))
      | .geq => some (.bool (ile b a))
      | .and => some (.int k (k.wrap (BitVec.ofInt k.bits a &&& BitVec.ofInt k.bits b).toNat))
      | .or => some (.int k (k.wrap (BitVec.ofInt k.bits a ||| BitVec.ofInt k.bits b).toNat))
      | .xor => some (.int k (k.wrap (BitVec.ofInt k.bits a ^^^ BitVec.ofInt k.bits b).toNat))
      | _ => none
    else none
theorem vint_run {op : BinOp} {k k' : IntKind} {a b : Int} {v : Value} (t : TypeId) (h : vint op k a k' b = some v) : binOp op t (.int k a) (.int k' b) = pure v := by
  unfold vint at h
  have h0 : ∀ x : Int, ile 0 x = true ↔ 0 ≤ x := fun x => by rw [ile_eq]; simp
  split at h
  · simp only [Bool.cond_eq_ite, h0] at h
    split at h
    · rename_i hb
      cases h
      have : ¬ b < 0 := by omega
      simp only [binOp, Op.shift, if_neg this, kwrap_eq, pow2_eq]
      rfl
    · cases h
  · simp only [Bool.cond_eq_ite, h0] at h
    split at h
    · rename_i hb
      cases h
      have : ¬ b < 0 := by omega
      simp only [binOp, Op.shift, if_neg this, pow2_eq]
    · cases h
  · simp only [Bool.cond_eq_ite, beq_iff_eq] at h
    split at h
    case isFalse => cases h
    rename_i hk
    subst hk
    have hz : ∀ x : Int, ieq x 0 = true ↔ x = 0 := fun x => by rw [ieq_eq]; simp
    split at h
    · cases h; simp only [binOp, Op.intArith, kwrap_eq, ne_eq, not_true_eq_false, if_false]; rfl
    · cases h; simp only [binOp, Op.intArith, kwrap_eq, ne_eq, not_true_eq_false, if_false]; rfl
    · cases h; simp only [binOp, Op.intArith, kwrap_eq, ne_eq, not_true_eq_false, if_false]; rfl
    · simp only [hz] at h
      split at h
      · cases h
      · rename_i hb; cases h; simp [binOp, Op.intDiv, hb, kwrap_eq]
    · simp only [hz] at h
      split at h
      · cases h
      · rename_i hb; cases h; simp [binOp, Op.intDiv, hb]
    · cases h; simp [binOp, Op.intCmp, ieq_eq]
    · cases h; simp [binOp, Op.intCmp, ieq_eq, bne]
    · cases h; simp [binOp, Op.intCmp, ile_eq]; rw [← decide_not]; simp
    · cases h; simp [binOp, Op.intCmp, ile_eq]
    · cases h; simp [binOp, Op.intCmp, ile_eq]; rw [← decide_not]; simp
    · cases h; simp [binOp, Op.intCmp, ile_eq]
    · cases h; simp [binOp, Op.intBits]
    · cases h; simp [binOp, Op.intBits]
    · cases h; simp [binOp, Op.intBits]
    · cases h

/- Texts. -/
def beqL : List UInt8 → List UInt8 → Bool
  | [], [] => true
  | a :: l, b :: m => bif Nat.beq a.toNat b.toNat then beqL l m else false
  | _, _ => false
theorem beqL_eq : ∀ (l m : List UInt8), beqL l m = (l == m)
  | [], [] => by simp [beqL]
  | [], _ :: _ => by simp [beqL]
  | _ :: _, [] => by simp [beqL]
  | a :: l, b :: m => by
    simp only [beqL, beqL_eq l m, Bool.cond_eq_ite]
    by_cases h : a = b
    · subst h; simp
    · have : Nat.beq a.toNat b.toNat = false := by
        cases hb : Nat.beq a.toNat b.toNat with
        | false => rfl
        | true => exact absurd (UInt8.toNat_inj.1 (Nat.eq_of_beq_eq_true hb)) h
      rw [this]
      simp [h]
def vstr (op : BinOp) (x y : ByteArray) : Option Value :=
  match op with
  | .add => bif Nat.ble (x.data.toList.length + y.data.toList.length) (2 ^ 40) then some (.string ⟨⟨x.data.toList ++ y.data.toList⟩⟩) else none
  | .eql => some (.bool (beqL x.data.toList y.data.toList))
  | .neq => some (.bool (!beqL x.data.toList y.data.toList))
  | .lss => some (.bool (Op.bytesLess x.data.toList y.data.toList))
  | _ => none
theorem vstr_run {op : BinOp} {x y : ByteArray} {v : Value} (t : TypeId) (h : vstr op x y = some v) : binOp op t (.string x) (.string y) = pure v := by
  unfold vstr at h
  split at h
  · simp only [Bool.cond_eq_ite, Nat.ble_eq] at h
    split at h
    case isFalse => cases h
    rename_i hs
    cases h
    have hsx : x.data.toList.length = x.size := by rw [Array.length_toList]; rfl
    have hsy : y.data.toList.length = y.size := by rw [Array.length_toList]; rfl
    have hmax : IntKind.i64.max = 9223372036854775807 := by decide
    have hn : ¬ ((x.size + y.size : Nat) : Int) > IntKind.i64.max := by rw [hmax]; omega
    have e : x ++ y = ⟨⟨x.data.toList ++ y.data.toList⟩⟩ := by
      apply ByteArray.ext
      apply Array.ext'
      simp
    simp only [binOp, Op.stringOp, if_neg hn, e]
  · cases h; simp [binOp_string_eql, ByteArray.toList_eq, beqL_eq]
  · cases h; simp [binOp_string_neq, ByteArray.toList_eq, beqL_eq]
  · cases h; simp [binOp_string_lss, ByteArray.toList_eq]
  · cases h


variable {P : Program} {T : TE} [TOk P T] {vs : VS} {ρ : Operand → Value} {o : Oper} {n : VN}

omit [TOk P T] in
theorem sound_int {op : BinOp} {t u : TypeId} {x y : Operand} {k k' : IntKind} {a b : Int} {v : Value} (ho : o.op = .binOp op t x y u) (hx : ρ x = .int k a) (hy : ρ y = .int k' b) (hv : vint op k a k' b = some v) : Sound P vs ρ o (.value v) := by
  intro N0 W0 W μ ρ' hG hρ
  have h1 := hρ x (by simp [ho, Op.operands])
  have h2 := hρ y (by simp [ho, Op.operands])
  rw [hx] at h1
  rw [hy] at h2
  have e1 := h1.inv_int
  have e2 := h2.inv_int
  have hg : (eqGuard op t x y (.int k a) (.int k' b)).run P W = .ok () W := by cases op <;> rfl
  have hvp : R μ v v := by
    unfold vint at hv
    repeat' (first | (split at hv) | (simp only [Bool.cond_eq_ite] at hv))
    all_goals first | (cases hv; done) | (cases hv; constructor)
  exact ⟨.value v, by simp [execOp, ho, e1, e2, hg, vint_run t hv], hvp⟩

omit [TOk P T] in
theorem sound_str {op : BinOp} {t u : TypeId} {x y : Operand} {a b : ByteArray} {v : Value} (ho : o.op = .binOp op t x y u) (hx : ρ x = .string a) (hy : ρ y = .string b) (hv : vstr op a b = some v) : Sound P vs ρ o (.value v) := by
  intro N0 W0 W μ ρ' hG hρ
  have h1 := hρ x (by simp [ho, Op.operands])
  have h2 := hρ y (by simp [ho, Op.operands])
  rw [hx] at h1
  rw [hy] at h2
  have e1 : ρ' x = .string a := h1.plain rfl
  have e2 : ρ' y = .string b := h2.plain rfl
  have hg : (eqGuard op t x y (.string a) (.string b)).run P W = .ok () W := by cases op <;> rfl
  have hvp : R μ v v := by
    unfold vstr at hv
    repeat' (first | (split at hv) | (simp only [Bool.cond_eq_ite] at hv))
    all_goals first | (cases hv; done) | (cases hv; constructor)
  exact ⟨.value v, by simp [execOp, ho, e1, e2, hg, vstr_run t hv], hvp⟩

def vat (T : TE) (t : TypeId) (s : ByteArray) (m : Int) : Option Value :=
  match T.und t with
  | some .string => bif ile 0 m then match s.data.toList[m.toNat]? with
      | some b => some (.int .u8 (Int.ofNat b.toNat))
      | none => none
    else none
  | _ => none
theorem sound_at {t : TypeId} {x i : Operand} {s : ByteArray} {k : IntKind} {m : Int} {v : Value} (ho : o.op = .index t x i) (hx : ρ x = .string s) (hi : ρ i = .int k m) (hv : vat T t s m = some v) : Sound P vs ρ o (.value v) := by
  intro N0 W0 W μ ρ' hG hρ
  have h1 := hρ x (by simp [ho, Op.operands])
  have h2 := hρ i (by simp [ho, Op.operands])
  rw [hx] at h1
  rw [hi] at h2
  have e1 : ρ' x = .string s := h1.plain rfl
  have e2 := h2.inv_int
  unfold vat at hv
  split at hv
  case h_2 => cases hv
  rename_i hu
  simp only [Bool.cond_eq_ite, ile_eq, decide_eq_true_eq] at hv
  split at hv
  case isFalse => cases hv
  rename_i hm
  split at hv
  case h_2 => cases hv
  rename_i b hb
  cases hv
  have hlt : m.toNat < s.data.toList.length := (List.getElem?_eq_some_iff.1 hb).1
  have hb' : s[m.toNat]? = some b := by
    have h3 : m.toNat < s.size := by simpa using hlt
    rw [getElem?_pos s m.toNat h3]
    have := (List.getElem?_eq_some_iff.1 hb).2
    rw [← this]
    simp [ByteArray.getElem_eq_getElem_data]
  exact ⟨.value (.int .u8 b.toNat), by simp [execOp, ho, e1, e2, Instr.index, asIntOf, run_underlying (TOk.und (P := P) hu), hm, hb'], .int _ _⟩

def vcut (T : TE) (t : TypeId) (s : ByteArray) (lo hi : Option Value) : Option Value :=
  match T.und t with
  | some .string => match bound hi s.data.toList.length, bound lo 0 with
    | some h, some l => bif Nat.ble h s.data.toList.length && Nat.ble l h then some (.string ⟨⟨(s.data.toList.drop l).take (h - l)⟩⟩) else none
    | _, _ => none
  | _ => none
theorem extract_eq (s : ByteArray) (l h : Nat) : s.extract l h = ⟨⟨(s.data.toList.drop l).take (h - l)⟩⟩ := by
  apply ByteArray.ext
  apply Array.ext'
  simp [ByteArray.data_extract, List.extract]
theorem sound_cut {t : TypeId} {x : Operand} {lo hi : Option Operand} {s : ByteArray} {v : Value} (ho : o.op = .slice t x lo hi none) (hx : ρ x = .string s) (hv : vcut T t s (lo.map ρ) (hi.map ρ) = some v) : Sound P vs ρ o (.value v) := by
  intro N0 W0 W μ ρ' hG hρ
  have h1 := hρ x (by simp [ho, Op.operands])
  rw [hx] at h1
  have e : ρ' x = .string s := h1.plain rfl
  have rel : ∀ z : Option Operand, (∀ y, z = some y → R μ (ρ y) (ρ' y)) → (∀ v, z.map ρ = some v → ∃ v', z.map ρ' = some v' ∧ R μ v v') ∧ (z.map ρ = none → z.map ρ' = none) := fun z h => by
    cases z with
    | none => exact ⟨fun v hv => by simp at hv, fun _ => rfl⟩
    | some y => exact ⟨fun v hv => by simp at hv; subst hv; exact ⟨ρ' y, rfl, h y rfl⟩, fun hv => by simp at hv⟩
  have olo := rel lo fun y hy => hρ y (by simp [ho, Op.operands, hy])
  have ohi := rel hi fun y hy => hρ y (by simp [ho, Op.operands, hy])
  unfold vcut at hv
  split at hv
  case h_2 => cases hv
  rename_i hu
  split at hv
  case h_2 => cases hv
  rename_i h l eh el
  simp only [Bool.cond_eq_ite] at hv
  split at hv
  case isFalse => cases hv
  rename_i hb
  simp only [Bool.and_eq_true, Nat.ble_eq] at hb
  obtain ⟨b2, b3⟩ := hb
  cases hv
  have hsz : s.data.toList.length = s.size := by rw [Array.length_toList]; rfl
  rw [hsz] at b2 eh
  have hu' := run_underlying (TOk.und (P := P) hu) W
  refine ⟨.value (.string (s.extract l h)), ?_, by rw [extract_eq]; exact .string _⟩
  rcases bound_run eh ohi.1 ohi.2 with ⟨q1, e1⟩ | ⟨k1, i1, q1, p1, e1⟩ <;> rcases bound_run el olo.1 olo.2 with ⟨q2, e2⟩ | ⟨k2, i2, q2, p2, e2⟩
  · subst e1; subst e2
    simp [execOp, ho, e, Instr.sliceAt, hu', Instr.slice, Instr.sliceBounds, q1, q2]
  · have r2 : i2 ≤ (h : Int) := by omega
    subst e1; subst e2
    simp [execOp, ho, e, Instr.sliceAt, hu', Instr.slice, Instr.sliceBounds, Instr.sliceBound, asIntOf, q1, q2, p2, r2]
  · have r1 : i1 ≤ (s.size : Int) := by omega
    subst e1; subst e2
    simp [execOp, ho, e, Instr.sliceAt, hu', Instr.slice, Instr.sliceBounds, Instr.sliceBound, asIntOf, q1, q2, p1, r1]
  · have r1 : i1 ≤ (s.size : Int) := by omega
    have r2 : i2 ≤ i1 := by omega
    subst e1; subst e2
    simp [execOp, ho, e, Instr.sliceAt, hu', Instr.slice, Instr.sliceBounds, Instr.sliceBound, asIntOf, q1, q2, p1, r1, p2, Int.toNat_of_nonneg p1, r2]

/- The length of a text. -/
def vsize (T : TE) (t : TypeId) (x : Value) : Option Value :=
  match T.und t, x with
  | some .string, .string s => some (.int .i64 (Int.ofNat s.data.toList.length))
  | _, _ => none
theorem sound_size {c : Call} {x : Operand} {t : TypeId} {v : Value} (ho : o.op = .call c) (hc : c.callee = .builtin .len) (ha : c.args = #[x]) (ht : c.argTypes = #[t]) (hv : vsize T t (ρ x) = some v) : Sound P vs ρ o (.value v) := by
  intro N0 W0 W μ ρ' hG hρ
  have h1 := hρ x (by simp [ho, Op.operands, Call.operands, hc, ha])
  generalize ρ x = vx at *
  unfold vsize at hv
  split at hv
  case h_2 => cases hv
  rename_i s hu
  cases hv
  have e : ρ' x = .string s := h1.plain rfl
  have hsz : s.data.toList.length = s.size := by rw [Array.length_toList]; rfl
  rw [hsz]
  exact ⟨.value (goInt s.size), by simp [execOp, ho, resolve, hc, ha, ht, invoke, builtin, Builtin.len_, run_underlying (TOk.und (P := P) hu), e], .int _ _⟩

end Go.Ev
