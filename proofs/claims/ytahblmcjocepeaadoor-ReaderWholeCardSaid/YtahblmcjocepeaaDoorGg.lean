/-
  The evaluator's maps, by keys that are structs of plain cells.
-/
import Derived.Test.YtahblmcjocepeaaDoorGc
import Derived.Test.YtahblmcjocepeaaDoorGd
import Derived.Test.YtahblmcjocepeaaDoorGf
namespace Go.Ev
open Go.RowKit
variable [Base]

variable {P : Program} {T : TE} [TOk P T] {vs vs1 : VS} {ρ : Operand → Value} {o : Oper} {n : VN} {N0 : Nat → Prop} {W0 W : World} {μ : Mu}

def flatB : Value → Bool
  | .int _ _ => true
  | .string _ => true
  | .bool _ => true
  | _ => false
def flatL : List Value → Bool
  | [] => true
  | v :: l => flatB v && flatL l
def flatSame : Value → Value → Bool
  | .int a x, .int b y => (a == b) && ieq x y
  | .string a, .string b => beqL a.data.toList b.data.toList
  | .bool a, .bool b => a == b
  | _, _ => false
def flatSameL : List Value → List Value → Bool
  | [], [] => true
  | x :: a, y :: b => flatSame x y && flatSameL a b
  | _, _ => false
def aggSame : Value → Value → Bool
  | .agg a, .agg b => flatSameL a.toList b.toList
  | _, _ => false
omit [Base] in
theorem flatSame_eq {a b : Value} (h : flatSame a b = true) : a = b := by
  unfold flatSame at h
  split at h
  · simp only [Bool.and_eq_true, beq_iff_eq, ieq_eq] at h; rw [h.1, h.2]
  · rename_i a b
    simp only [beqL_eq, beq_iff_eq] at h
    obtain ⟨⟨a⟩⟩ := a
    obtain ⟨⟨b⟩⟩ := b
    simp only at h
    rw [h]
  · simp only [beq_iff_eq] at h; rw [h]
  · cases h
omit [Base] in
theorem flatSameL_eq : ∀ {a b : List Value}, flatSameL a b = true → a = b
  | [], [], _ => rfl
  | x :: a, y :: b, h => by
    simp only [flatSameL, Bool.and_eq_true] at h
    rw [flatSame_eq h.1, flatSameL_eq h.2]
  | [], _ :: _, h => by cases h
  | _ :: _, [], h => by cases h
omit [Base] in
theorem aggSame_eq {a b : Value} (h : aggSame a b = true) : a = b := by
  unfold aggSame at h
  split at h
  · rename_i a b
    have := flatSameL_eq h
    rw [Array.ext' this]
  · cases h
omit [Base] in
theorem flatL_plain : ∀ {l : List Value}, flatL l = true → plainL l = true
  | [], _ => rfl
  | v :: l, h => by
    simp only [flatL, Bool.and_eq_true] at h
    have : plainB v = true := by
      have := h.1
      unfold flatB at this
      split at this <;> first | rfl | cases this
    simp [plainL, this, flatL_plain h.2]
omit [Base] in
theorem flatB_same (n : Nat) {v : Value} (h : flatB v = true) : Instr.sameBits n v v = true := by
  unfold flatB at h
  split at h
  · simp [Instr.sameBits]
  · rename_i s
    obtain ⟨a⟩ := s
    simp only [Instr.sameBits]
    show (a == a) = true
    simp
  · simp [Instr.sameBits]
  · cases h
omit [Base] in
theorem flatL_same (n : Nat) : ∀ {l : List Value}, flatL l = true → ((l.zip l).all fun (x, y) => Instr.sameBits n x y) = true
  | [], _ => rfl
  | v :: l, h => by
    simp only [flatL, Bool.and_eq_true] at h
    simp only [List.zip_cons_cons, List.all_cons, Bool.and_eq_true]
    exact ⟨flatB_same n h.1, flatL_same n h.2⟩

/- A key of such a type. -/
def wkeyOk (P : Program) (e : Bool) (kt : TypeId) (k : Value) : Bool :=
  match k with
  | .agg a => flatL a.toList && (match purely P (Instr.checkKey e 10000 kt k) with
    | some () => true
    | none => false)
  | _ => false
omit [Base] in
theorem wkeyOk_plain {e : Bool} {kt : TypeId} {k : Value} (h : wkeyOk P e kt k = true) : plainB k = true := by
  unfold wkeyOk at h
  split at h
  · rename_i a
    simp only [Bool.and_eq_true] at h
    obtain ⟨a⟩ := a
    simp only [plainB, plainA]
    exact flatL_plain h.1
  · cases h
omit [Base] in
theorem wkeyOk_run {e : Bool} {kt : TypeId} {k : Value} (h : wkeyOk P e kt k = true) : (Instr.checkKey e 10000 kt k).run P W = .ok () W := by
  unfold wkeyOk at h
  split at h
  · rename_i a
    simp only [Bool.and_eq_true] at h
    obtain ⟨_, h⟩ := h
    split at h
    · rename_i hp; exact purely_run P W _ _ hp
    · cases h
  · cases h
omit [Base] in
theorem wkeyOk_same {e : Bool} {kt : TypeId} {k : Value} (h : wkeyOk P e kt k = true) : Instr.sameBits 10000 k k = true := by
  unfold wkeyOk at h
  split at h
  · rename_i a
    simp only [Bool.and_eq_true] at h
    have := flatL_same 9999 h.1
    simp only [Instr.sameBits, Bool.and_eq_true, beq_self_eq_true, true_and]
    exact this
  · cases h
def vfindW (P : Program) (kt : TypeId) (k : Value) : List (Value × Value × Nat) → Nat → Option (Option (Nat × Value × Nat))
  | [], _ => some none
  | (k', v, b) :: l, i => bif aggSame k k' then (match purely P (Op.equal kt k k') with
      | some true => some (some (i, v, b))
      | _ => none)
    else (match purely P (Op.equal kt k k') with
      | some false => vfindW P kt k l (i + 1)
      | _ => none)
omit [Base] in
theorem findAsk_run {kt : TypeId} {k : Value} : ∀ {es : List (Value × Value × Nat)} {es' : List MapEntry} {i : Nat}, RE μ es es' →
    (vfindW P kt k es i = some none → (Instr.findAsking kt k es' i).run P W = .ok none W) ∧
    (∀ j v b, vfindW P kt k es i = some (some (j, v, b)) → i ≤ j ∧ ∃ e, es'[j - i]? = some e ∧ (Instr.findAsking kt k es' i).run P W = .ok (some (j, e.val)) W ∧ R μ v e.val ∧ e.born = b ∧ e.key = k)
  | [], [], i, _ => ⟨fun _ => rfl, fun j v b h => by simp [vfindW] at h⟩
  | (k0, v0, b0) :: l, e :: l', i, h => by
    obtain ⟨⟨rfl, hv, rfl⟩, hr⟩ := h
    simp only [vfindW, Bool.cond_eq_ite, Instr.findAsking]
    split
    · rename_i hs
      have hk := aggSame_eq hs
      split
      · rename_i hp
        have hrun := purely_run P W _ _ hp
        refine ⟨fun h => by simp at h, fun j v b h => ?_⟩
        simp only [Option.some.injEq, Prod.mk.injEq] at h
        obtain ⟨rfl, rfl, rfl⟩ := h
        exact ⟨Nat.le_refl _, e, by simp, by simp [Sem.run_bind, hrun], hv, rfl, hk.symm⟩
      · exact ⟨fun h => by simp at h, fun j v b h => by simp at h⟩
    · split
      · rename_i hp
        have hrun := purely_run P W _ _ hp
        obtain ⟨q1, q2⟩ := findAsk_run (kt := kt) (k := k) (i := i + 1) hr
        refine ⟨fun h => by simp [Sem.run_bind, hrun, q1 h], fun j v b h => ?_⟩
        obtain ⟨h1, e', h2, h3, h4, h5, h6⟩ := q2 j v b h
        have e : j - i = (j - (i + 1)) + 1 := by omega
        exact ⟨by omega, e', by rw [e, List.getElem?_cons_succ]; exact h2, by simp [Sem.run_bind, hrun, h3], h4, h5, h6⟩
      · exact ⟨fun h => by simp at h, fun j v b h => by simp at h⟩
  | [], _ :: _, _, h => h.elim
  | (_, _, _) :: _, [], _, h => h.elim
omit [Base] in
theorem sameNow_struct {fs : Array Field} {k k' : Value} : Instr.sameNow (.struct fs) k k' = none := by
  simp [Instr.sameNow]
omit [Base] in
theorem findKeyW_run {kt : TypeId} {fs : Array Field} {k : Value} {l : List MapEntry} {a : Option (Nat × Value)} (hd : P.underlying kt = some (.struct fs)) (h : (Instr.findAsking kt k l 0).run P W = .ok a W) : (Instr.findKey kt k l).run P W = .ok a W := by
  cases l with
  | nil =>
    simp only [Instr.findKey, Sem.run_bind, run_underlying hd, Result.andThen, Instr.findNow]
    exact h
  | cons e l =>
    simp only [Instr.findKey, Sem.run_bind, run_underlying hd, Result.andThen, Instr.findNow, sameNow_struct]
    exact h

def isNil : List (Value × Value × Nat) → Bool
  | [] => true
  | _ => false
omit [Base] in
theorem isNil_of {es : List (Value × Value × Nat)} {es' : Array MapEntry} (h : RE μ es es'.toList) : es'.isEmpty = isNil es := by
  have := RE_len h
  cases es with
  | nil => simp only [isNil, Array.isEmpty_iff_size_eq_zero]; simpa using this
  | cons x l =>
    simp only [isNil]
    rw [Bool.eq_false_iff]
    intro hh
    rw [Array.isEmpty_iff_size_eq_zero] at hh
    simp [hh] at this

def vlookupW (P : Program) (T : TE) (vs : VS) (t : TypeId) (m k : Value) (ok : Bool) : Option Value :=
  match T.und t with
  | some (.map kt et) => match T.und kt, entriesOf vs m with
    | some (.struct _), some es => bif wkeyOk P (isNil es) kt k then
        match vfindW P kt k es 0 with
        | some (some (_, v, _)) => some (bif ok then .tuple #[v, .bool true] else v)
        | some none => match T.inf et with
          | some i => match i.zero with
            | some z => bif plainB z then some (bif ok then .tuple #[z, .bool false] else z) else none
            | none => none
          | none => none
        | none => none
      else none
    | _, _ => none
  | _ => none
theorem sound_lookupW {t : TypeId} {x i : Operand} {ok : Bool} {v : Value} (ho : o.op = .lookup t x i ok) (h : vlookupW P T vs t (ρ x) (ρ i) ok = some v) : Sound P vs ρ o (.value v) := by
  intro N0 W0 W μ ρ' hG hρ
  have h1 := hρ x (by simp [ho, Op.operands])
  have h2 := hρ i (by simp [ho, Op.operands])
  unfold vlookupW at h
  split at h
  case h_2 => cases h
  rename_i kt et hu
  split at h
  case h_2 => cases h
  rename_i fs es hk he
  simp only [Bool.cond_eq_ite] at h
  split at h
  case isFalse => cases h
  rename_i hkey
  have ek : ρ' i = ρ i := h2.plain (wkeyOk_plain hkey)
  obtain ⟨es', hre, hm⟩ := entries_run hG he h1
  obtain ⟨q1, q2⟩ := findAsk_run (P := P) (W := W) (kt := kt) (k := ρ i) (i := 0) hre
  have hchk : (Instr.checkKey es'.isEmpty 10000 kt (ρ i)).run P W = .ok () W := by rw [isNil_of hre]; exact wkeyOk_run hkey
  split at h
  · rename_i j v0 b hf
    cases h
    obtain ⟨_, e, _, hnow, hv, _⟩ := q2 j v0 b hf
    refine ⟨.value (bif ok then .tuple #[e.val, .bool true] else e.val), ?_, ?_⟩
    · have hfk := findKeyW_run (TOk.und (P := P) hk) hnow
      rcases hm with ⟨e1, rfl⟩ | ⟨r, c, e1, e2⟩
      · simp at hfk hchk
        simp [execOp, ho, Instr.lookup, ek, e1, Sem.run_bind, run_underlying (TOk.und (P := P) hu), hchk, hfk]
      · have hgo : (getObj r).run P W = .ok (.map es' c) W := by simp [getObj, Sem.run, e2]
        simp [execOp, ho, Instr.lookup, ek, e1, Sem.run_bind, run_underlying (TOk.und (P := P) hu), hgo, hchk, hfk]
    · cases ok with
      | true =>
        have hr := RA.two hv (R.bool (μ := μ) true)
        exact .tuple _ _ hr.1 hr.2
      | false => exact hv
  · rename_i hf
    split at h
    case h_2 => cases h
    rename_i inf hi
    split at h
    case h_2 => cases h
    rename_i z hz
    split at h
    case isFalse => cases h
    rename_i hp
    cases h
    refine ⟨.value (bif ok then .tuple #[z, .bool false] else z), ?_, ?_⟩
    · have hnow := q1 hf
      have hzero := run_zero' (W := W) (TOk.inf (P := P) hi) hz
      have hfk := findKeyW_run (TOk.und (P := P) hk) hnow
      rcases hm with ⟨e1, rfl⟩ | ⟨r, c, e1, e2⟩
      · simp at hfk hchk
        simp [execOp, ho, Instr.lookup, ek, e1, Sem.run_bind, run_underlying (TOk.und (P := P) hu), hchk, hfk, hzero]
      · have hgo : (getObj r).run P W = .ok (.map es' c) W := by simp [getObj, Sem.run, e2]
        simp [execOp, ho, Instr.lookup, ek, e1, Sem.run_bind, run_underlying (TOk.und (P := P) hu), hgo, hchk, hfk, hzero]
    · cases ok with
      | true =>
        have hr := RA.two (plain_self μ z hp) (R.bool (μ := μ) false)
        exact .tuple _ _ hr.1 hr.2
      | false => exact plain_self μ z hp
  · cases h

def vupdateW (P : Program) (T : TE) (vs : VS) (t : TypeId) (m k v : Value) : Option VS :=
  match T.und t, m with
  | some (.map kt _), .map (some r) => match T.und kt, findO vs.objs r with
    | some (.struct _), some ⟨.map es c, rw⟩ => bif rw && wkeyOk P false kt k then
        match vfindW P kt k es 0 with
        | some (some (j, _, _)) => some (vset vs r (.map (setAt j v es) c))
        | some none => some (vset vs r (.map (es ++ [(k, v, c)]) (c + 1)))
        | none => none
      else none
    | _, _ => none
  | _, _ => none
theorem updateW_run (hG : G N0 W0 vs W μ) {t : TypeId} {m k v m' k' v' : Value} (h : vupdateW P T vs t m k v = some vs1) (hm : R μ m m') (hk : R μ k k') (hv : R μ v v') : ∃ W1, (Instr.mapUpdate t m' k' v').run P W = .ok () W1 ∧ G N0 W0 vs1 W1 μ := by
  unfold vupdateW at h
  split at h
  case h_2 => cases h
  rename_i kt et r hu
  split at h
  case h_2 => cases h
  rename_i fs es c rw hd hf
  simp only [Bool.cond_eq_ite] at h
  split at h
  case isFalse => cases h
  rename_i hb
  simp only [Bool.and_eq_true] at hb
  obtain ⟨hrw, hkey⟩ := hb
  have ek : k' = k := hk.plain (wkeyOk_plain hkey)
  subst ek
  cases hm with
  | map r l hl =>
  obtain ⟨o, h1, h2, _⟩ := hG.obj hf hl
  obtain ⟨es', rfl, hre⟩ := h2.inv_map
  have hgo : (getObj l.blk).run P W = .ok (.map es' c) W := by simp [getObj, Sem.run, h1]
  have hso : ∀ o : Obj, (setObj l.blk o).run P W = .ok () { W with heap := W.heap.setIfInBounds l.blk o } := fun o => by simp [setObj, Sem.run, h1]
  have hchk := wkeyOk_run (W := W) hkey
  obtain ⟨q1, q2⟩ := findAsk_run (P := P) (W := W) (kt := kt) (k := k') (i := 0) hre
  split at h
  · rename_i j v0 b hfk
    cases h
    obtain ⟨_, e, he, hnow, _, _, hkk⟩ := q2 j v0 b hfk
    have he' : es'[j]? = some e := by simpa using he
    have hst : (Instr.keyThatStays k' k').run P W = .ok k' W := by simp [Instr.keyThatStays, wkeyOk_same hkey]
    refine ⟨_, ?_, hG.setObj hf hrw hl (v := .map (setAt j v es) c) (o := .map (es'.modify j fun e => { e with key := k', val := v' }) c) ⟨rfl, ?_⟩⟩
    · simp [Instr.mapUpdate, Sem.run_bind, run_underlying (TOk.und (P := P) hu), hgo, hchk, findKeyW_run (TOk.und (P := P) hd) hnow, he', hkk, hst, hso]
    · have := RE_set (j := j) (k' := k') hv hre fun e0 he0 => by
        have he2 : es'.toList[j]? = some e := by simpa using he
        rw [he2] at he0; cases he0; exact hkk.symm
      simpa using this
  · rename_i hfk
    cases h
    refine ⟨_, ?_, hG.setObj hf hrw hl (v := .map (es ++ [(k', v, c)]) (c + 1)) (o := .map (es'.push { key := k', val := v', born := c }) (c + 1)) ⟨rfl, ?_⟩⟩
    · simp [Instr.mapUpdate, Sem.run_bind, run_underlying (TOk.und (P := P) hu), hgo, hchk, findKeyW_run (TOk.und (P := P) hd) (q1 hfk), hso]
    · have := RE_push (k := k') (b := c) hv hre
      simpa using this
  · cases h
theorem sound_updateW {t : TypeId} {m k x : Operand} (ho : o.op = .mapUpdate t m k x ∨ o.op = .insert t m k x) (h : vupdateW P T vs t (ρ m) (ρ k) (ρ x) = some vs1) : SoundM P vs ρ o .skip vs1 := by
  intro N0 W0 W μ ρ' hG hρ
  rcases ho with ho | ho
  · obtain ⟨W1, h1, h2⟩ := updateW_run (P := P) hG h (hρ m (by simp [ho, Op.operands])) (hρ k (by simp [ho, Op.operands])) (hρ x (by simp [ho, Op.operands]))
    exact ⟨μ, W1, .skip, Mu.le_refl _, h2, by simp [execOp, ho, h1], trivial⟩
  · obtain ⟨W1, h1, h2⟩ := updateW_run (P := P) hG h (hρ m (by simp [ho, Op.operands])) (hρ k (by simp [ho, Op.operands])) (hρ x (by simp [ho, Op.operands]))
    exact ⟨μ, W1, .skip, Mu.le_refl _, h2, by simp [execOp, ho, h1], trivial⟩
end Go.Ev

/-
  The evaluator: slices with a third bound; what is cleared.
-/
namespace Go.Ev
open Go.RowKit
variable [Base]

variable {P : Program} {T : TE} [TOk P T] {vs vs1 : VS} {ρ : Operand → Value} {o : Oper} {n : VN} {N0 : Nat → Prop} {W0 W : World} {μ : Mu}

/- Such a slice is a row of its own, to be read. -/
def vslice3 (T : TE) (vs : VS) (t : TypeId) (a : Addr) (cap : Nat) (lo hi : Option Value) (mx : Value) : Option (VN × VS) :=
  match T.und t, find vs.heap a.block, mx, hi with
  | some (.slice elem), some B, .int _ mi, some (.int _ hh) => match T.inf elem, bound lo 0 with
    | some inf, some l =>
      bif decide (0 ≤ mi) && decide (0 ≤ hh) && decide (hh ≤ mi) && Nat.beq inf.size B.esz && a.spot.isNone && Nat.ble mi.toNat cap && Nat.ble l hh.toNat && Nat.blt l mi.toNat && Nat.ble (a.off + mi.toNat * inf.size) B.cells.length then
        match takeX ((mi.toNat - l) * inf.size) (dropX (a.off + l * inf.size) B.cells) with
        | some cs => some (.value (.slice (some ⟨vs.next, 0, none⟩) (hh.toNat - l) (mi.toNat - l)), vs.add ⟨cs, B.elem, B.esz, B.fam, false, false, false, false⟩)
        | none => none
      else none
    | _, _ => none
  | _, _, _, _ => none

theorem sound_slice3 {t : TypeId} {x y : Operand} {lo hi : Option Operand} {a : Addr} {len cap : Nat} (ho : o.op = .slice t x lo hi (some y)) (hx : ρ x = .slice (some a) len cap) (hn : vslice3 T vs t a cap (lo.map ρ) (hi.map ρ) (ρ y) = some (n, vs1)) :
    SoundM P vs ρ o n vs1 := by
  intro N0 W0 W μ ρ' hG hρ
  have h1 := hρ x (by simp [ho, Op.operands])
  rw [hx] at h1
  obtain ⟨L, hL, hex, e⟩ := h1.inv_slice
  have hy := hρ y (by simp [ho, Op.operands])
  have olo := operand_rel (μ := μ) (ρ := ρ) (ρ' := ρ') (x := lo) fun y hy => hρ y (by simp [ho, Op.operands, hy])
  have ohi := operand_rel (μ := μ) (ρ := ρ) (ρ' := ρ') (x := hi) fun y hy => hρ y (by simp [ho, Op.operands, hy])
  unfold vslice3 at hn
  split at hn
  case h_2 => cases hn
  rename_i elem B km mi kh hh hu hf ey eh
  split at hn
  case h_2 => cases hn
  rename_i inf l hinf el
  simp only [Bool.cond_eq_ite] at hn
  split at hn
  case isFalse => cases hn
  rename_i hb
  simp only [Bool.and_eq_true, Option.isNone_iff_eq_none, Nat.ble_eq, Nat.blt_eq, Nat.beq_eq, decide_eq_true_eq] at hb
  obtain ⟨⟨⟨⟨⟨⟨⟨⟨b1, b2⟩, b3⟩, b4⟩, b5⟩, b6⟩, b7⟩, b8⟩, b9⟩ := hb
  split at hn
  case h_2 => cases hn
  rename_i cs ht
  cases hn
  rw [ey] at hy
  have ey' := hy.inv_int
  obtain ⟨hv, eh', hhv⟩ := ohi.1 _ eh
  have := hhv.inv_int
  subst this
  obtain ⟨L', c, z, e1, LL⟩ := hG.blocks _ _ (find_mem hf)
  rw [hL] at e1; cases e1
  have hlen := LL.len
  have hroom := LL.room
  obtain ⟨t1, t2⟩ := takeX_spec _ _ _ ht
  rw [dropX_eq] at t1 t2
  have hcs : cs.length = (mi.toNat - l) * inf.size := by rw [t1]; simp at t2 ⊢; omega
  have hmul : l * inf.size + (mi.toNat - l) * inf.size = mi.toNat * inf.size := by rw [← Nat.add_mul]; congr 1; omega
  have hsz : L.esz = inf.size := by rw [LL.esz, b4]
  have hg : G N0 W0 (vs.add ⟨cs, B.elem, B.esz, B.fam, false, false, false, false⟩) W (μ.put vs.next ⟨L.blk, L.off + a.off + l * inf.size, 0, L.esz, cs.length⟩) := by
    refine hG.add (c := c) (z := z) ⟨LL.at_, (fun x => by cases x), rfl, LL.esz, ?_, (fun _ => rfl), (fun x => by cases x), (fun x => by cases x), fun i v hv => ?_⟩
      (fun id' B' hm hfam l' hl' => hG.apart id' B' _ B hm (find_mem hf) hfam l' L hl' hL)
    · show L.off + a.off + l * inf.size + cs.length + 0 * L.esz ≤ c.size
      omega
    · have hv2 : B.cells[a.off + l * inf.size + i]? = some v := by
        simp only at hv
        rw [t1, List.getElem?_take] at hv
        split at hv
        · rwa [List.getElem?_drop] at hv
        · cases hv
      obtain ⟨v', q1, q2⟩ := LL.cells _ _ hv2
      refine ⟨v', ?_, q2.mono (Mu.put_le (hG.fresh vs.next (Nat.le_refl _)) _)⟩
      show c[L.off + a.off + l * inf.size + i]? = _
      rw [← q1]; congr 1; omega
  have hne : ¬ mi.toNat = l := by omega
  have ha : (amap L a).add (l * inf.size) = ⟨L.blk, L.off + a.off + l * inf.size, none⟩ := by unfold Addr.add amap; split <;> simp_all
  have b6' : mi ≤ (cap : Int) + L.extra := by omega
  have hrun : (Instr.sliceAt t (.slice (some (amap L a)) len (cap + L.extra)) (lo.map ρ') (hi.map ρ') (some (.int km mi))).run P W =
      .ok (.slice (some ⟨L.blk, L.off + a.off + l * inf.size, none⟩) (hh.toNat - l) (mi.toNat - l)) W := by
    rw [eh']
    rcases bound_run el olo.1 olo.2 with ⟨e5, e2⟩ | ⟨k2, i2, e5, p2, e2⟩
    · subst e2
      simp [Instr.sliceAt, run_underlying (TOk.und (P := P) hu), Instr.slice, Instr.sliceBounds, Instr.sliceBound, asIntOf, b1, b2, b3, b6', Int.toNat_of_nonneg b1, e5, run_sizeOf' (TOk.inf (P := P) hinf)]
      rw [if_neg (by omega)]; simpa using congrArg some ha
    · subst e2
      have q2 : i2 ≤ hh := by omega
      simp [Instr.sliceAt, run_underlying (TOk.und (P := P) hu), Instr.slice, Instr.sliceBounds, Instr.sliceBound, asIntOf, b1, b2, b3, b6', p2, q2, Int.toNat_of_nonneg b1, Int.toNat_of_nonneg b2, e5, run_sizeOf' (TOk.inf (P := P) hinf), hne, ha]
  refine ⟨_, W, .value (.slice (some ⟨L.blk, L.off + a.off + l * inf.size, none⟩) (hh.toNat - l) (mi.toNat - l)), hG.le_put _, hg, ?_, ?_⟩
  · simp [execOp, ho, e, ey', hrun]
  · have := R.slice (μ := μ.put vs.next ⟨L.blk, L.off + a.off + l * inf.size, 0, L.esz, cs.length⟩) ⟨vs.next, 0, none⟩ _ (hh.toNat - l) (mi.toNat - l) (Mu.put_self _ _ _) (.inl rfl)
    simpa [amap, RN] using this

/- What is cleared. -/
def vclear (T : TE) (vs : VS) (t : TypeId) (x : Value) : Option VS :=
  match T.und t, x with
  | some (.slice _), .slice none _ _ => some vs
  | some (.slice _), .slice _ 0 _ => some vs
  | some (.slice e), .slice (some a) (m + 1) _ => match T.inf e with
    | some i => match i.zero with
      | some z => bif plainB z then vwrite vs a (rep z.cells.toList (m + 1)) else none
      | none => none
    | none => none
  | _, _ => none
omit [Base] in
theorem plainL_rep {zs : List Value} (h : plainL zs = true) : ∀ k, plainL (rep zs k) = true
  | 0 => rfl
  | k + 1 => plainL_app h (plainL_rep h k)
omit [Base] in
theorem zeroCells_rep (z : Array Value) (k : Nat) : (Builtin.zeroCells z k).toList = rep z.toList k := by
  unfold Builtin.zeroCells
  rw [rep_zeros]
theorem sound_clear {c : Call} {x : Operand} {t : TypeId} (ho : o.op = .call c) (hc : c.callee = .builtin .clear) (ha : c.args = #[x]) (ht : c.argTypes = #[t]) (h : vclear T vs t (ρ x) = some vs1) :
    SoundM P vs ρ o (.value (.tuple #[])) vs1 := by
  intro N0 W0 W μ ρ' hG hρ
  have h1 := hρ x (by simp [ho, Op.operands, Call.operands, hc, ha])
  have r0 : R μ (.tuple #[]) (.tuple #[]) := plain_self μ _ rfl
  have hexec : ∀ W1, (Builtin.clear_ #[t] o.type #[ρ' x]).run P W = .ok (.tuple #[]) W1 → (execOp ρ' o).run P W = .ok (.value (.tuple #[])) W1 := fun W1 hr => by
    simp [execOp, ho, resolve, hc, ha, ht, invoke, builtin, hr]
  generalize ρ x = v at *
  generalize ρ' x = v' at *
  unfold vclear at h
  split at h
  · rename_i e q1 q2 hu
    cases h; cases h1
    exact ⟨μ, W, _, Mu.le_refl _, hG, hexec _ (by simp [Builtin.clear_, run_underlying (TOk.und (P := P) hu)]), r0⟩
  · rename_i e q1 q2 hu
    cases h
    cases h1 <;> exact ⟨μ, W, _, Mu.le_refl _, hG, hexec _ (by simp [Builtin.clear_, run_underlying (TOk.und (P := P) hu)]), r0⟩
  · rename_i e a m q hu
    split at h
    case h_2 => cases h
    rename_i i hi
    split at h
    case h_2 => cases h
    rename_i z hz
    simp only [Bool.cond_eq_ite] at h
    split at h
    case isFalse => cases h
    rename_i hp
    obtain ⟨l, hl, _, rfl⟩ := h1.inv_slice
    have hzc : plainL z.cells.toList = true := by
      have := plain_cells hp
      generalize z.cells = zc at this ⊢
      obtain ⟨zc⟩ := zc
      simpa [plainA] using this
    have hpl : plainA (rep z.cells.toList (m + 1)).toArray = true := by simpa [plainA] using plainL_rep hzc (m + 1)
    obtain ⟨W1, r1, r2⟩ := hG.write (P := P) h hl (ys := rep z.cells.toList (m + 1)) ⟨rfl, fun i x y hx hy => by rw [hx] at hy; cases hy; exact plainA_self μ _ hpl i x hx⟩
    refine ⟨μ, W1, _, Mu.le_refl _, r2, hexec _ ?_, r0⟩
    have hzero := run_zero' (W := W) (TOk.inf (P := P) hi) hz
    simp [Builtin.clear_, run_underlying (TOk.und (P := P) hu), hzero, zeroCells_rep, r1]
  · cases h
end Go.Ev

/-
  The evaluator, all operations together; a call's answer from nothing but the kernel's reckoning.
-/
namespace Go.Ev
open Go.RowKit
variable [Base]

variable {P : Program} {T : TE} [TOk P T] {vs vs1 : VS} {ρ : Operand → Value} {o : Oper} {n : VN}

def same (vs : VS) (x : Option VN) : Option (VN × VS) :=
  match x with
  | some n => some (n, vs)
  | none => none
omit [Base] in
theorem same_some {x : Option VN} (h : same vs x = some (n, vs1)) : x = some n ∧ vs1 = vs := by
  unfold same at h
  split at h
  · cases h; exact ⟨rfl, rfl⟩
  · cases h

/- What leaves memory alone, maps with it. -/
def qLenM (P : Program) (T : TE) (vs : VS) (ρ : Operand → Value) (o : Oper) (c : Call) : Option VN :=
  match c.args.toList, c.argTypes.toList with
  | [x], [t] => match ρ x with
    | .map _ => vlift (vlenMap T vs t (ρ x))
    | _ => vquiet P T vs ρ o
  | _, _ => vquiet P T vs ρ o
def qIdent (P : Program) (T : TE) (vs : VS) (ρ : Operand → Value) (o : Oper) (c : Call) : Option VN :=
  match vident T ρ c with
  | some n => some n
  | none => vquiet P T vs ρ o
def qData (P : Program) (T : TE) (vs : VS) (ρ : Operand → Value) (o : Oper) (c : Call) : Option VN :=
  match c.args.toList with
  | [x] => vlift (vsliceData (ρ x))
  | _ => vquiet P T vs ρ o
def qText (P : Program) (T : TE) (vs : VS) (ρ : Operand → Value) (o : Oper) (c : Call) : Option VN :=
  match c.args.toList, c.argTypes.toList with
  | [x, y], [_, _] => vlift (vnoText (ρ x) (ρ y))
  | _, _ => vquiet P T vs ρ o
def qUnsafe (P : Program) (T : TE) (vs : VS) (ρ : Operand → Value) (o : Oper) (src dst : TypeId) (x : Operand) : Option VN :=
  match ρ x with
  | .pointer (some a) => vlift (vunsafe T vs src dst a)
  | _ => vquiet P T vs ρ o
def qPtr (P : Program) (T : TE) (vs : VS) (ρ : Operand → Value) (o : Oper) (op : BinOp) (t : TypeId) (x y : Operand) : Option VN :=
  match ρ x, ρ y with
  | .pointer (some a), .pointer (some b) => vlift (vptrEq T op t a b)
  | _, _ => vquiet P T vs ρ o
def qLookup (P : Program) (T : TE) (vs : VS) (ρ : Operand → Value) (t : TypeId) (x i : Operand) (ok : Bool) : Option VN :=
  match vlookup T vs t (ρ x) (ρ i) ok with
  | some v => some (.value v)
  | none => vlift (vlookupW P T vs t (ρ x) (ρ i) ok)
def vquietM (P : Program) (T : TE) (vs : VS) (ρ : Operand → Value) (o : Oper) : Option VN :=
  match o.op with
  | .lookup t x i ok => qLookup P T vs ρ t x i ok
  | .call c => match c.callee with
    | .builtin .len => qLenM P T vs ρ o c
    | .builtin .unsafeSliceData => qData P T vs ρ o c
    | .builtin .unsafeString => qText P T vs ρ o c
    | _ => qIdent P T vs ρ o c
  | .convert src dst x => qUnsafe P T vs ρ o src dst x
  | .binOp op t x y _ => qPtr P T vs ρ o op t x y
  | _ => vquiet P T vs ρ o
theorem vquietM_sound (hN : NamesOk P) (h : vquietM P T vs ρ o = some n) : Sound P vs ρ o n := by
  unfold vquietM at h
  split at h
  · rename_i t x i ok ho
    unfold qLookup at h
    split at h
    · rename_i v h1; cases h; exact sound_lookup ho h1
    · obtain ⟨v, h1, rfl⟩ := vlift_some h
      exact sound_lookupW ho h1
  · rename_i c ho
    split at h
    · rename_i hc
      unfold qLenM at h
      split at h
      · rename_i x t ha ht
        split at h
        · obtain ⟨v, h1, rfl⟩ := vlift_some h
          exact sound_lenMap ho hc (Array.ext' ha) (Array.ext' ht) h1
        · exact vquiet_sound hN h
      · exact vquiet_sound hN h
    · rename_i hc
      unfold qData at h
      split at h
      · rename_i x ha
        obtain ⟨v, h1, rfl⟩ := vlift_some h
        exact sound_sliceData ho hc (Array.ext' ha) h1
      · exact vquiet_sound hN h
    · rename_i hc
      unfold qText at h
      split at h
      · rename_i x y t u ha ht
        obtain ⟨v, h1, rfl⟩ := vlift_some h
        exact sound_noText ho hc (Array.ext' ha) (Array.ext' ht) h1
      · exact vquiet_sound hN h
    · unfold qIdent at h
      split at h
      · rename_i m hi; cases h; exact sound_ident ho hi
      · exact vquiet_sound hN h
  · rename_i src dst x ho
    unfold qUnsafe at h
    split at h
    · rename_i a hx
      obtain ⟨v, h1, rfl⟩ := vlift_some h
      exact sound_unsafe ho hx h1
    · exact vquiet_sound hN h
  · rename_i op t x y u ho
    unfold qPtr at h
    split at h
    · rename_i a b hx hy
      obtain ⟨v, h1, rfl⟩ := vlift_some h
      exact sound_ptrEq ho hx hy h1
    · exact vquiet_sound hN h
  · exact vquiet_sound hN h

def oStore (T : TE) (vs : VS) (ρ : Operand → Value) (t : TypeId) (x y : Operand) : Option (VN × VS) :=
  match ρ x with
  | .pointer (some a) => match vstore T vs t a (ρ y) with
    | some vs1 => some (.skip, vs1)
    | none => none
  | _ => none
def oSlice (P : Program) (T : TE) (vs : VS) (ρ : Operand → Value) (o : Oper) (t : TypeId) (x : Operand) (lo hi : Option Operand) : Option (VN × VS) :=
  match ρ x with
  | .slice (some a) len cap => match vsliceAt T vs t a len cap (lo.map ρ) (hi.map ρ) with
    | some (l, h, sz) => bif Nat.beq l cap then vsliceEnd vs a else some (.value (.slice (some (a.add (l * sz))) (h - l) (cap - l)), vs)
    | none => none
  | .pointer (some a) => match vsliceArr T vs t a (lo.map ρ) (hi.map ρ) with
    | some v => some (.value v, vs)
    | none => none
  | _ => same vs (qSlice P T vs ρ o t x lo hi)
def oConv (P : Program) (T : TE) (vs : VS) (ρ : Operand → Value) (o : Oper) (src dst : TypeId) (x : Operand) : Option (VN × VS) :=
  match ρ x with
  | .string s => match T.und src, T.und dst with
    | some .string, some (.slice _) => vbytes T vs dst s
    | _, _ => same vs (qConv P T vs ρ o src dst x)
  | .pointer (some a) => same vs (vlift (vunsafe T vs src dst a))
  | _ => same vs (qConv P T vs ρ o src dst x)
def vnoz (T : TE) (vs : VS) (f : Value) (args : List Value) : Option (VN × VS) :=
  match f with
  | .func (.func g) first captured => match first.toList, captured.toList, args with
    | [], [], [.int .i64 (.ofNat n)] => match T.noz g with
      | some e => bif Nat.ble n 281474976710656 then some (.value (.slice (some ⟨vs.next, 0, none⟩) n 0), vs.add ⟨[], e, 1, vs.next, true, true, false, true⟩) else none
      | none => none
    | _, _, _ => none
  | _ => none
theorem sound_noz {c : Call} {f : Operand} (ho : o.op = .call c) (hc : c.callee = .value f) (h : vnoz T vs (ρ f) (c.args.toList.map ρ) = some (n, vs1)) : SoundM P vs ρ o n vs1 := by
  intro N0 W0 W μ ρ' hG hρ
  unfold vnoz at h
  split at h
  case h_2 => cases h
  rename_i g first captured hf
  split at h
  case h_2 => cases h
  rename_i m q1 q2 ha
  split at h
  case h_2 => cases h
  rename_i e hz
  simp only [Bool.cond_eq_ite] at h
  split at h
  case isFalse => cases h
  rename_i hm
  have hm := Nat.le_of_ble_eq_true hm
  cases h
  have h1 := hρ f (by simp [ho, Op.operands, Call.operands, hc])
  rw [hf] at h1
  obtain ⟨a', b', e1, ra, rb⟩ := h1.inv_func
  have h2 : RA μ (c.args.map ρ) (c.args.map ρ') := RA.map fun x hx => hρ x (by simp [ho, Op.operands, Call.operands, hc, hx])
  have hra := (ra.append h2).append rb
  rw [show (first ++ c.args.map ρ) ++ captured = ⟨first.toList ++ (c.args.toList.map ρ ++ captured.toList)⟩ from Array.ext' (by simp), q1, q2, ha] at hra
  have hargs : (a' ++ c.args.map ρ') ++ b' = #[.int .i64 (Int.ofNat m)] := hra.plain (by simp [plainA, plainL, plainB])
  obtain ⟨cs, hrun⟩ := TOk.noz (P := P) hz m hm W
  have e2 : (execOp ρ' o) = callFunc g #[.int .i64 (Int.ofNat m)] := by
    have : (execOp ρ' o) = callFunc g ((a' ++ c.args.map ρ') ++ b') := by
      simp [execOp, ho, resolve, hc, e1, Deferred.ofValue, invoke]
    rw [this, hargs]
  have hG2 : G N0 W0 vs W.drew.drew μ := (hG.drawn (W.drawn + 1)).drawn (W.drawn + 1 + 1)
  have hA := hG2.alloc (xs := []) (ys := #[]) (rest := cs) (elem := e) (esz := 1) (extra := cs.size) (fam := vs.next) (rw := true) (grow := true) (whole := false) (tail := true) ⟨rfl, fun i x y hx => by simp at hx⟩ (by omega) (fun x => by cases x) (fun x => by cases x)
  have hle := Mu.put_le (hG2.fresh vs.next (Nat.le_refl _)) ⟨W.drew.drew.heap.size, 0, cs.size, 1, ([] : List Value).length⟩
  refine ⟨_, _, .value (.slice (some ⟨W.heap.size, 0, none⟩) m cs.size), hle, hA, ?_, ?_⟩
  · rw [e2]
    have e3 : (#[] ++ cs : Array Value) = cs := by simp
    rw [e3]
    exact hrun
  · have := R.slice (μ := μ.put vs.next ⟨W.drew.drew.heap.size, 0, cs.size, 1, ([] : List Value).length⟩) ⟨vs.next, 0, none⟩ ⟨W.drew.drew.heap.size, 0, cs.size, 1, ([] : List Value).length⟩ m 0 (Mu.put_self _ _ _) (.inr (by simp))
    simp only [amap, Nat.zero_add] at this
    exact this
def oCall (P : Program) (T : TE) (vs : VS) (ρ : Operand → Value) (o : Oper) (c : Call) : Option (VN × VS) :=
  match c.callee with
  | .builtin .append => match c.args.toList, c.argTypes.toList with
    | [x, y], [t, u] => vappend T vs t u (ρ x) (ρ y)
    | _, _ => none
  | .builtin .copy => match c.args.toList, c.argTypes.toList with
    | [x, y], [t, _] => vcopy T vs t (ρ x) (ρ y)
    | _, _ => none
  | .builtin .delete => match c.args.toList, c.argTypes.toList with
    | [x, y], [t, _] => match vdelete T vs t (ρ x) (ρ y) with
      | some vs1 => some (.value (.tuple #[]), vs1)
      | none => none
    | _, _ => none
  | .builtin .clear => match c.args.toList, c.argTypes.toList with
    | [x], [t] => match vclear T vs t (ρ x) with
      | some vs1 => some (.value (.tuple #[]), vs1)
      | none => none
    | _, _ => none
  | .builtin .unsafeString => match c.args.toList, c.argTypes.toList with
    | [x, y], [t, _] => match ρ x, ρ y with
      | .pointer (some a), .int _ (.ofNat (m + 1)) => match vbyteText T vs t a (.ofNat (m + 1)) with
        | some (v, vs1) => some (.value v, vs1)
        | none => none
      | _, _ => same vs (vquietM P T vs ρ o)
    | _, _ => none
  | .value f => match vnoz T vs (ρ f) (c.args.toList.map ρ) with
    | some r => some r
    | none => same vs (vquietM P T vs ρ o)
  | _ => same vs (vquietM P T vs ρ o)

def oSlice3 (P : Program) (T : TE) (vs : VS) (ρ : Operand → Value) (o : Oper) (t : TypeId) (x : Operand) (lo hi : Option Operand) (y : Operand) : Option (VN × VS) :=
  match ρ x with
  | .slice (some a) _ cap => vslice3 T vs t a cap (lo.map ρ) (hi.map ρ) (ρ y)
  | _ => same vs (vquietM P T vs ρ o)
def oUpdate (P : Program) (T : TE) (vs : VS) (ρ : Operand → Value) (t : TypeId) (m k x : Operand) : Option (VN × VS) :=
  match vupdate T vs t (ρ m) (ρ k) (ρ x) with
  | some vs1 => some (.skip, vs1)
  | none => match vupdateW P T vs t (ρ m) (ρ k) (ρ x) with
    | some vs1 => some (.skip, vs1)
    | none => none
def oDefer (T : TE) (vs : VS) (ρ : Operand → Value) (c : Call) : Option (VN × VS) :=
  match c.callee with
  | .value f => match ρ f with
    | .func (.func g) first captured => bif T.body g then some (.defer g captured.toList (first.toList ++ c.args.toList.map ρ), vs) else none
    | _ => none
  | _ => none
omit [TOk P T] in
theorem sound_defer {c : Call} (ho : o.op = .defer c) (h : oDefer T vs ρ c = some (n, vs1)) : SoundM P vs ρ o n vs1 := by
  unfold oDefer at h
  split at h
  case h_2 => cases h
  rename_i f hc
  split at h
  case h_2 => cases h
  rename_i g first captured hf
  simp only [Bool.cond_eq_ite] at h
  split at h
  case isFalse => cases h
  cases h
  refine Sound.toM fun N0 W0 W μ ρ' hG hρ => ?_
  have h1 := hρ f (by simp [ho, Op.operands, Call.operands, hc])
  rw [hf] at h1
  obtain ⟨a', b', e, ra, rb⟩ := h1.inv_func
  have h2 : RA μ (c.args.map ρ) (c.args.map ρ') := RA.map fun x hx => hρ x (by simp [ho, Op.operands, Call.operands, hc, hx])
  have hra := ra.append h2
  refine ⟨.defer { target := .fn (.func g) b', args := a' ++ c.args.map ρ' }, ?_, b', rfl, by simpa using rb, ?_⟩
  · simp [execOp, ho, resolve, hc, e, Deferred.ofValue]
  · rw [show first ++ c.args.map ρ = (first.toList ++ c.args.toList.map ρ).toArray from Array.ext' (by simp)] at hra
    exact hra

def vop (P : Program) (T : TE) (vs : VS) (ρ : Operand → Value) (o : Oper) : Option (VN × VS) :=
  match o.op with
  | .alloc elem => valloc T vs elem
  | .box elem x => some (.value (newPtr vs), vs.add ⟨(ρ x).cells.toList, elem, eszOf T elem, vs.next, true, false, true, false⟩)
  | .store t x y => oStore T vs ρ t x y
  | .makeSlice t l c => vmake T vs t (ρ l) (ρ c)
  | .buildSlice t len parts => vbuildSlice T vs t len (parts.toList.map fun p => (p.1, ρ p.2))
  | .slice t x lo hi none => oSlice P T vs ρ o t x lo hi
  | .slice t x lo hi (some y) => oSlice3 P T vs ρ o t x lo hi y
  | .convert src dst x => oConv P T vs ρ o src dst x
  | .call c => oCall P T vs ρ o c
  | .defer c => oDefer T vs ρ c
  | .makeMap t r => vmakeMap T vs t (r.map ρ)
  | .mapUpdate t m k x => oUpdate P T vs ρ t m k x
  | .insert t m k x => oUpdate P T vs ρ t m k x
  | .range t x => vrange T vs t (ρ x)
  | .next x true => vnext vs (ρ x)
  | _ => same vs (vquietM P T vs ρ o)

theorem sound_same (hN : NamesOk P) (h : same vs (vquiet P T vs ρ o) = some (n, vs1)) : SoundM P vs ρ o n vs1 := by
  obtain ⟨h1, rfl⟩ := same_some h
  exact (vquiet_sound hN h1).toM

theorem sound_sameM (hN : NamesOk P) (h : same vs (vquietM P T vs ρ o) = some (n, vs1)) : SoundM P vs ρ o n vs1 := by
  obtain ⟨h1, rfl⟩ := same_some h
  exact (vquietM_sound hN h1).toM

omit [TOk P T] in
omit [Base] in
theorem quiet_slice {t : TypeId} {x : Operand} {lo hi : Option Operand} (ho : o.op = .slice t x lo hi none) : vquiet P T vs ρ o = qSlice P T vs ρ o t x lo hi := by unfold vquiet; rw [ho]
omit [TOk P T] in
omit [Base] in
theorem quiet_conv {src dst : TypeId} {x : Operand} (ho : o.op = .convert src dst x) : vquiet P T vs ρ o = qConv P T vs ρ o src dst x := by unfold vquiet; rw [ho]
omit [TOk P T] in
omit [Base] in
theorem quiet_call {c : Call} (ho : o.op = .call c) : vquiet P T vs ρ o = qCall P T ρ o c := by unfold vquiet; rw [ho]
theorem vop_sound (hN : NamesOk P) (h : vop P T vs ρ o = some (n, vs1)) : SoundM P vs ρ o n vs1 := by
  unfold vop at h
  split at h
  case h_1 elem ho => exact sound_alloc ho h
  case h_2 elem x ho => cases h; exact sound_box ho
  case h_3 t x y ho =>
    unfold oStore at h
    split at h
    · rename_i a hx
      split at h
      · rename_i vs2 hs; cases h; exact sound_store ho hx hs
      · cases h
    · cases h
  case h_4 t l c ho => exact sound_make ho h
  case h_5 t len parts ho => exact sound_buildSlice ho h
  case h_6 t x lo hi ho =>
    unfold oSlice at h
    split at h
    · rename_i a len cap hx
      split at h
      · rename_i l hh sz hv
        simp only [Bool.cond_eq_ite] at h
        split at h
        · rename_i hl
          have := Nat.eq_of_beq_eq_true hl
          subst this
          exact sound_sliceEnd ho hx hv h
        · rename_i hne
          cases h
          exact (sound_slice ho hx hv fun e => hne (by rw [e]; exact Nat.beq_refl _)).toM
      · cases h
    · rename_i a hx
      split at h
      · rename_i v hv; cases h; exact (sound_sliceArr ho hx hv).toM
      · cases h
    · rw [← quiet_slice ho] at h; exact sound_same hN h
  case h_7 t x lo hi y ho =>
    unfold oSlice3 at h
    split at h
    · rename_i a len cap hx; exact sound_slice3 ho hx h
    · exact sound_sameM hN h
  case h_8 src dst x ho =>
    unfold oConv at h
    split at h
    · rename_i s hx
      split at h
      · rename_i hu _; exact sound_bytes ho hx hu h
      · rw [← quiet_conv ho] at h; exact sound_same hN h
    · rename_i a hx
      obtain ⟨h1, rfl⟩ := same_some h
      obtain ⟨v, h2, rfl⟩ := vlift_some h1
      exact (sound_unsafe ho hx h2).toM
    · rw [← quiet_conv ho] at h; exact sound_same hN h
  case h_9 c ho =>
    unfold oCall at h
    split at h
    · rename_i hc
      split at h
      · rename_i x y t u ha ht; exact sound_append ho hc (Array.ext' ha) (Array.ext' ht) h
      · cases h
    · rename_i hc
      split at h
      · rename_i x y t u ha ht; exact sound_copy ho hc (Array.ext' ha) (Array.ext' ht) h
      · cases h
    · rename_i hc
      split at h
      · rename_i x y t u ha ht
        split at h
        · rename_i vs2 hd; cases h; exact sound_delete ho hc (Array.ext' ha) (Array.ext' ht) hd
        · cases h
      · cases h
    · rename_i hc
      split at h
      · rename_i x t ha ht
        split at h
        · rename_i vs2 hd; cases h; exact sound_clear ho hc (Array.ext' ha) (Array.ext' ht) hd
        · cases h
      · cases h
    · rename_i hc
      split at h
      · rename_i x y t u ha ht
        split at h
        · rename_i a k m hx hy
          split at h
          · rename_i v vs2 hb
            cases h
            exact sound_byteText ho hc (Array.ext' ha) (Array.ext' ht) hx hy hb
          · cases h
        · exact sound_sameM hN h
      · cases h
    · rename_i f hc
      split at h
      · rename_i r hz
        cases h
        exact sound_noz ho hc hz
      · exact sound_sameM hN h
    · exact sound_sameM hN h
  case h_10 c ho => exact sound_defer ho h
  case h_11 t r ho => exact sound_makeMap ho h
  case h_12 t m k x ho =>
    unfold oUpdate at h
    split at h
    · rename_i vs2 hu; cases h; exact sound_update (.inl ho) hu
    · split at h
      · rename_i vs2 hu; cases h; exact sound_updateW (.inl ho) hu
      · cases h
  case h_13 t m k x ho =>
    unfold oUpdate at h
    split at h
    · rename_i vs2 hu; cases h; exact sound_update (.inr ho) hu
    · split at h
      · rename_i vs2 hu; cases h; exact sound_updateW (.inr ho) hu
      · cases h
  case h_14 t x ho => exact sound_range ho h
  case h_15 x ho => exact sound_next ho h
  case h_16 => exact sound_sameM hN h

end Go.Ev

/-
  The evaluator's rows of constants, appending such a row, and stores that may come in either order.
-/
namespace Go.Ev
open Go.RowKit
variable [Base]

variable {P : Program} {T : TE} [TOk P T] {vs vs1 : VS} {ρ : Operand → Value} {o : Oper} {n : VN} {N0 : Nat → Prop} {W0 W : World} {μ : Mu}

/- The constants. -/
def constOf : List (Nat × Operand) → Option (List (Nat × Value))
  | [] => some []
  | (i, .const v) :: l => match constOf l with
    | some r => bif plainB v then some ((i, v) :: r) else none
    | none => none
  | _ => none
omit [Base] in
theorem constOf_eq (f : Operand → Value) (hf : ∀ v, f (.const v) = v) : ∀ {l : List (Nat × Operand)} {r : List (Nat × Value)}, constOf l = some r → l.map (fun p => (p.1, f p.2)) = r
  | [], r, h => by simp [constOf] at h; simp [h]
  | (i, x) :: l, r, h => by
    cases x <;> simp only [constOf] at h <;> first | cases h | skip
    rename_i v
    split at h
    · rename_i r' hr
      simp only [Bool.cond_eq_ite] at h
      split at h
      · cases h; simp [hf, constOf_eq f hf hr]
      · cases h
    · cases h

def vflt (T : TE) (o : Oper) : Option (List Value × Nat) :=
  match o.op with
  | .buildSlice t len parts => match T.und t, constOf parts.toList with
    | some (.slice elem), some ps => match T.inf elem with
      | some i => match i.zero with
        | some z => bif plainB z && Nat.ble (len * i.size) (2 ^ 24) && Nat.beq z.cells.size i.size then
            match lfill (fun k => some (k * i.size, i.size)) (rep z.cells.toList len) ps with
            | some cs => some (cs, len)
            | none => none
          else none
        | none => none
      | none => none
    | _, _ => none
  | _ => none
/- An operand that is a constant in whatever frame: what 'parts' are made of. -/
omit [Base] in
theorem vflt_run {cs : List Value} {k : Nat} (h : vflt T o = some (cs, k)) : ∃ el, ∀ (a : Act) (w : World), (execOp a.eval o).run P w = .ok (.value (rowV w.heap.size k)) (w.alloc (.cells cs.toArray el)) := by
  unfold vflt at h
  split at h
  case h_2 => cases h
  rename_i t len parts ho
  split at h
  case h_2 => cases h
  rename_i elem ps hu hps
  split at h
  case h_2 => cases h
  rename_i i hi
  split at h
  case h_2 => cases h
  rename_i z hz
  simp only [Bool.cond_eq_ite] at h
  split at h
  case isFalse => cases h
  rename_i hb
  simp only [Bool.and_eq_true, Nat.ble_eq, Nat.beq_eq] at hb
  obtain ⟨⟨hp, b1⟩, b2⟩ := hb
  split at h
  case h_2 => cases h
  rename_i cs' hf
  cases h
  refine ⟨elem, fun a w => ?_⟩
  have hconst := constOf_eq a.eval (fun _ => rfl) hps
  have e1 := fill_list _ _ _ _ hf
  have harr : (Array.range (k * i.size)).map (z.cells[· % z.cells.size]!) = (rep z.cells.toList k).toArray := by rw [← b2]; exact rep_zeros _ _
  rw [← harr, ← hconst] at e1
  have e1 : Instr.fill (fun k => some (k * i.size, i.size)) ((Array.range (k * i.size)).map (z.cells[· % z.cells.size]!)) (parts.map fun (i, x) => (i, a.eval x)).toList = some cs.toArray := by
    rw [← e1]; congr 1; simp
  have b1' : ¬ 2 ^ 24 < k * i.size := by omega
  by_cases h0 : k * i.size = 0
  · have hz0 : (Array.range (k * i.size)).map (z.cells[· % z.cells.size]!) = (Array.range (k * i.size)).map ((#[] : Array Value)[· % (#[] : Array Value).size]!) := by
      rw [h0]; exact Array.ext (by simp) (fun i h1 => by simp at h1)
    rw [hz0] at e1
    simp only [execOp, ho, Instr.buildSlice, Sem.run_bind, run_underlying (TOk.und (P := P) hu), Result.andThen_ok, run_sizeOf' (TOk.inf (P := P) hi), Sem.run_ite, gt_iff_lt, if_neg b1', if_pos h0, Sem.run_pure, e1, newRow, run_newObj]
    rfl
  · simp only [execOp, ho, Instr.buildSlice, Sem.run_bind, run_underlying (TOk.und (P := P) hu), Result.andThen_ok, run_sizeOf' (TOk.inf (P := P) hi), Sem.run_ite, gt_iff_lt, if_neg b1', if_neg h0, Sem.run_pure, run_zero' (TOk.inf (P := P) hi) hz, e1, newRow, run_newObj]
    rfl

def vapc (T : TE) (vs : VS) (ρ : Operand → Value) (o : Oper) (k : Nat) (cs : List Value) : Option (Value × VS) :=
  match o.op with
  | .call c => match c.callee with
    | .builtin .append => match c.args.toList, c.argTypes.toList with
      | [x, y], [t, u] => match ρ y with
        | .slice (some ⟨z, 0, none⟩) len _ => bif Nat.beq (z + 1) vs.next && Nat.beq len k then
            match vappendG T vs t u (ρ x) k (fun sz => bif Nat.beq cs.length (k * sz) && plainL cs then some cs else none) with
            | some (.value v, vs1) => some (v, vs1)
            | _ => none
          else none
        | _ => none
      | _, _ => none
    | _ => none
  | _ => none
theorem vapc_run {v : Value} {k : Nat} {cs : List Value} (h : vapc T vs ρ o k cs = some (v, vs1)) {ρ' : Operand → Value} {z : Nat} {l : Loc} {el : TypeId} {zz : Nat × Nat} (hz : z + 1 = vs.next) (hG : G N0 W0 vs W μ) (hρ : ∀ x ∈ o.op.operands, R μ (ρ x) (ρ' x))
    (hl : μ z = some l) (hoff : l.off = 0) (hcell : W.heap[l.blk]? = some (.cells cs.toArray el zz)) : ∃ μ1 W1 n', μ.le μ1 ∧ G N0 W0 vs1 W1 μ1 ∧ (execOp ρ' o).run P W = .ok n' W1 ∧ RN μ1 (.value v) n' := by
  unfold vapc at h
  split at h
  case h_2 => cases h
  rename_i c ho
  split at h
  case h_2 => cases h
  rename_i hc
  split at h
  case h_2 => cases h
  rename_i x y t u ha ht
  have ha := Array.ext' (ys := #[x, y]) ha
  have ht := Array.ext' (ys := #[t, u]) ht
  split at h
  case h_2 => cases h
  rename_i z' len cp hy
  simp only [Bool.cond_eq_ite] at h
  split at h
  case isFalse => cases h
  rename_i hb
  simp only [Bool.and_eq_true, Nat.beq_eq] at hb
  obtain ⟨hz', rfl⟩ := hb
  have : z' = z := by omega
  subst this
  split at h
  case h_2 => cases h
  rename_i v' vs' happ
  cases h
  have h1 := hρ x (by simp [ho, Op.operands, Call.operands, hc, ha])
  have h2 := hρ y (by simp [ho, Op.operands, Call.operands, hc, ha])
  rw [hy] at h2
  obtain ⟨l', hl', _, ey⟩ := h2.inv_slice
  rw [hl] at hl'
  cases hl'
  have haddr : amap l ⟨z', 0, none⟩ = ⟨l.blk, 0, none⟩ := by simp [amap, hoff]
  rw [haddr] at ey
  refine append_core (P := P) (ty := o.type) hG h1 happ (vy' := ρ' y) (fun w => by rw [ey]; simp [Builtin.lenOf]) (fun sz new hf => ?_) (fun v W1 hr => by simp [execOp, ho, resolve, hc, ha, ht, invoke, builtin, hr])
  split at hf
  case isFalse => cases hf
  rename_i hb
  simp only [Bool.and_eq_true, Nat.beq_eq] at hb
  cases hf
  have hcl : ∀ w : World, w.heap = W.heap → ∀ (j : Nat) v, cs[j]? = some v → w.cell? ((⟨l.blk, 0, none⟩ : Addr).add j) = some v := fun w hw j v hj => by
    have hs : ((⟨l.blk, 0, none⟩ : Addr).add j) = ⟨l.blk, j, none⟩ := by unfold Addr.add; split <;> simp_all
    rw [hs]
    simp [World.cell?, hw, hcell, hj]
  refine ⟨cs.toArray, RA_self μ (by simpa [plainA] using hb.2), ?_, ?_⟩
  · rw [ey]
    have := run_loadCells_list (P := P) W ⟨l.blk, 0, none⟩ cs (hcl W rfl)
    simp only [Builtin.firstCells]
    rw [← hb.1]; exact this
  · rw [ey]
    have := run_loadCells_list (P := P) W.drew ⟨l.blk, 0, none⟩ cs (hcl W.drew rfl)
    simp only [Builtin.firstCells]
    rw [← hb.1]; exact this

/- Two stores into blocks of different families. -/
def famsOk (i f j g : Nat) : List (Nat × VB) → Bool
  | [] => true
  | (k, b) :: l => (bif Nat.beq k i then Nat.beq b.fam f else true) && (bif Nat.beq k j then Nat.beq b.fam g else true) && famsOk i f j g l
def vcm (vs : VS) (ρ1 : Operand → Value) (o1 : Oper) (ρ2 : Operand → Value) (o2 : Oper) : Bool :=
  match o1.op, o2.op with
  | .store _ x1 _, .store _ x2 _ => match ρ1 x1, ρ2 x2 with
    | .pointer (some a), .pointer (some b) => match find vs.heap a.block, find vs.heap b.block with
      | some A, some B => !(Nat.beq a.block b.block) && !(Nat.beq A.fam B.fam) && famsOk a.block A.fam b.block B.fam vs.heap
      | _, _ => false
    | _, _ => false
  | _, _ => false

omit [Base] in
theorem famsOk_tail {i f j g k : Nat} {b : VB} {l : List (Nat × VB)} (h : famsOk i f j g ((k, b) :: l) = true) : (k = i → b.fam = f) ∧ (k = j → b.fam = g) ∧ famsOk i f j g l = true := by
  simp only [famsOk, Bool.and_eq_true, Bool.cond_eq_ite] at h
  obtain ⟨⟨h1, h2⟩, h3⟩ := h
  refine ⟨fun e => ?_, fun e => ?_, h3⟩
  · rw [if_pos (by rw [e]; exact Nat.beq_refl _)] at h1; exact Nat.eq_of_beq_eq_true h1
  · rw [if_pos (by rw [e]; exact Nat.beq_refl _)] at h2; exact Nat.eq_of_beq_eq_true h2
omit [Base] in
theorem beq_false {a b : Nat} (h : a ≠ b) : Nat.beq a b = false := by
  cases hb : Nat.beq a b with
  | false => rfl
  | true => exact absurd (Nat.eq_of_beq_eq_true hb) h
omit [Base] in
theorem find_upd {i f j g : Nat} {A' : VB} (hij : j ≠ i) (hfg : f ≠ g) : ∀ {l : List (Nat × VB)}, famsOk i f j g l = true → find (upd l i f A') j = find l j
  | [], _ => rfl
  | (k, b) :: l, h => by
    obtain ⟨h1, h2, h3⟩ := famsOk_tail h
    by_cases hki : k = i
    · subst hki
      simp only [upd, Nat.beq_refl, cond_true, find, beq_false (Ne.symm hij), cond_false]
      exact find_upd hij hfg h3
    · by_cases hf : b.fam = f
      · have hkj : k ≠ j := fun e => hfg (by rw [← hf, h2 e])
        simp only [upd, beq_false hki, cond_false, hf, Nat.beq_refl, cond_true, find, beq_false hkj]
        exact find_upd hij hfg h3
      · simp only [upd, beq_false hki, cond_false, beq_false hf, find]
        rw [find_upd hij hfg h3]
omit [Base] in
theorem upd_comm {i f j g : Nat} {A' B' : VB} (hij : i ≠ j) (hfg : f ≠ g) (hA : A'.fam = f) (hB : B'.fam = g) : ∀ {l : List (Nat × VB)}, famsOk i f j g l = true → upd (upd l i f A') j g B' = upd (upd l j g B') i f A'
  | [], _ => rfl
  | (k, b) :: l, h => by
    obtain ⟨h1, h2, h3⟩ := famsOk_tail h
    have ih := upd_comm hij hfg hA hB (l := l) h3
    by_cases hki : k = i
    · subst hki
      have hbf := h1 rfl
      have hg : b.fam ≠ g := fun e => hfg (by rw [← hbf, e])
      have hAg : A'.fam ≠ g := fun e => hfg (by rw [← hA, e])
      simp only [upd, Nat.beq_refl, cond_true, beq_false hij, cond_false, beq_false hAg, beq_false hg, ih]
    · by_cases hkj : k = j
      · subst hkj
        have hbg := h2 rfl
        have hf : b.fam ≠ f := fun e => hfg (by rw [← hbg, e])
        have hBf : B'.fam ≠ f := fun e => hfg (by rw [← hB, e])
        simp only [upd, Nat.beq_refl, cond_true, beq_false hki, cond_false, beq_false hf, beq_false hBf, ih]
      · by_cases hf : b.fam = f
        · have hg : b.fam ≠ g := fun e => hfg (by rw [← hf, e])
          simp only [upd, beq_false hki, beq_false hkj, cond_false, hf, Nat.beq_refl, cond_true, beq_false (show f ≠ g from hfg), ih]
        · by_cases hg : b.fam = g
          · have hgf : g ≠ f := Ne.symm hfg
            simp only [upd, beq_false hki, beq_false hkj, cond_false, hg, Nat.beq_refl, cond_true, beq_false hgf, ih]
          · simp only [upd, beq_false hki, beq_false hkj, cond_false, beq_false hf, beq_false hg, ih]

omit [Base] in
theorem vwrite_find {a : Addr} {xs : List Value} (h : vwrite vs a xs = some vs1) : ∃ A, find vs.heap a.block = some A ∧ (A.rw && a.spot.isNone && Nat.ble (a.off + xs.length) A.cells.length && xs.all Value.oneCell') = true ∧
    vs1 = { vs with heap := upd vs.heap a.block A.fam { A with cells := A.cells.take a.off ++ (xs ++ A.cells.drop (a.off + xs.length)) } } := by
  unfold vwrite at h
  split at h
  · rename_i A hA
    simp only [Bool.cond_eq_ite] at h
    split at h
    · rename_i hc; cases h; exact ⟨A, hA, hc, rfl⟩
    · cases h
  · cases h
omit [Base] in
theorem vwrite_comm {a b : Addr} {xs ys : List Value} {v1 v12 v2 : VS} {A B : VB} (hA : find vs.heap a.block = some A) (hB : find vs.heap b.block = some B) (hab : a.block ≠ b.block) (hfg : A.fam ≠ B.fam) (hok : famsOk a.block A.fam b.block B.fam vs.heap = true)
    (h1 : vwrite vs a xs = some v1) (h2 : vwrite v1 b ys = some v12) (h3 : vwrite vs b ys = some v2) : vwrite v2 a xs = some v12 := by
  obtain ⟨A1, q1, c1, rfl⟩ := vwrite_find h1
  rw [hA] at q1; cases q1
  obtain ⟨B1, q2, c2, rfl⟩ := vwrite_find h3
  rw [hB] at q2; cases q2
  obtain ⟨B2, q3, c3, rfl⟩ := vwrite_find h2
  rw [find_upd (Ne.symm hab) hfg hok, hB] at q3; cases q3
  have hok' : famsOk b.block B.fam a.block A.fam vs.heap = true := by
    have : ∀ l : List (Nat × VB), famsOk a.block A.fam b.block B.fam l = true → famsOk b.block B.fam a.block A.fam l = true := by
      intro l
      induction l with
      | nil => exact fun h => h
      | cons x l ih =>
        intro h
        obtain ⟨k, c⟩ := x
        simp only [famsOk, Bool.and_eq_true] at h ⊢
        exact ⟨⟨h.1.2, h.1.1⟩, ih h.2⟩
    exact this _ hok
  have hf : find (upd vs.heap b.block B.fam { B with cells := B.cells.take b.off ++ (ys ++ B.cells.drop (b.off + ys.length)) }) a.block = some A := by
    rw [find_upd hab (Ne.symm hfg) hok', hA]
  unfold vwrite
  simp only [hf, c1, cond_true]
  congr 2
  exact (upd_comm (A' := { A with cells := A.cells.take a.off ++ (xs ++ A.cells.drop (a.off + xs.length)) }) (B' := { B with cells := B.cells.take b.off ++ (ys ++ B.cells.drop (b.off + ys.length)) }) hab hfg rfl rfl hok).symm

omit [TOk P T] in
omit [Base] in
theorem vcm_ok {ρ1 ρ2 : Operand → Value} {o1 o2 : Oper} {v1 v12 v2 : VS} (hc : vcm vs ρ1 o1 ρ2 o2 = true) (h1 : vop P T vs ρ1 o1 = some (.skip, v1)) (h2 : vop P T v1 ρ2 o2 = some (.skip, v12)) (h3 : vop P T vs ρ2 o2 = some (.skip, v2)) : vop P T v2 ρ1 o1 = some (.skip, v12) := by
  unfold vcm at hc
  split at hc
  case h_2 => cases hc
  rename_i t1 x1 y1 t2 x2 y2 ho1 ho2
  split at hc
  case h_2 => cases hc
  rename_i a b ha hb
  split at hc
  case h_2 => cases hc
  rename_i A B hA hB
  simp only [Bool.and_eq_true, Bool.not_eq_true'] at hc
  obtain ⟨⟨c1, c2⟩, c3⟩ := hc
  have hab : a.block ≠ b.block := fun e => by rw [e, Nat.beq_refl] at c1; cases c1
  have hfg : A.fam ≠ B.fam := fun e => by rw [e, Nat.beq_refl] at c2; cases c2
  have store : ∀ {s s' : VS} {ρ : Operand → Value} {o : Oper} {t : TypeId} {x y : Operand} {c : Addr}, o.op = .store t x y → ρ x = .pointer (some c) → (vop P T s ρ o = some (.skip, s') ↔ ∃ i, T.inf t = some i ∧ (ρ y).cells.size = i.size ∧ vwrite s c (ρ y).cells.toList = some s') := by
    intro s s' ρ o t x y c ho hx
    unfold vop
    rw [ho]
    simp only [oStore, hx, vstore]
    cases hi : T.inf t with
    | none => simp
    | some i =>
      simp only [Bool.cond_eq_ite]
      by_cases hs : (ρ y).cells.size = i.size
      · have : Nat.beq (ρ y).cells.size i.size = true := by rw [hs]; exact Nat.beq_refl _
        rw [if_pos this]
        cases hw : vwrite s c (ρ y).cells.toList with
        | none => simp
        | some s2 => simp [hs]
      · have : ¬ Nat.beq (ρ y).cells.size i.size = true := fun e => hs (Nat.eq_of_beq_eq_true e)
        rw [if_neg this]
        simp [hs]
  obtain ⟨i1, q1, q2, w1⟩ := (store ho1 ha).1 h1
  obtain ⟨i2, q3, q4, w2⟩ := (store ho2 hb).1 h2
  obtain ⟨i3, q5, q6, w3⟩ := (store ho2 hb).1 h3
  exact (store ho1 ha).2 ⟨i1, q1, q2, vwrite_comm hA hB hab hfg c3 w1 w2 w3⟩

def vfx (T : TE) : FX := ⟨vflt T, vapc T, vcm⟩
theorem fxRun : FxRun P (vfx T) := ⟨fun _ _ _ h => vflt_run h, fun _ _ _ _ _ _ _ h _ _ _ _ _ _ _ _ _ hz hG hρ hl hoff hcell => vapc_run h hz hG hρ hl hoff hcell⟩
omit [TOk P T] in
omit [Base] in
theorem vapc_keeps {k : Nat} {cs : List Value} {v : Value} (h : vapc T vs ρ o k cs = some (v, vs1)) (hw : ∀ {vs vs1 : VS} {a : Addr} {xs : List Value}, vwrite vs a xs = some vs1 → Keeps vs vs1) : vs1.ng = vs.ng ∧ vs1.dfr = vs.dfr := by
  unfold vapc at h
  split at h
  case h_2 => cases h
  split at h
  case h_2 => cases h
  split at h
  case h_2 => cases h
  split at h
  case h_2 => cases h
  simp only [Bool.cond_eq_ite] at h
  split at h
  case isFalse => cases h
  split at h
  case h_2 => cases h
  rename_i happ
  cases h
  unfold vappendG at happ
  repeat' (first | (split at happ) | (simp only [Bool.cond_eq_ite] at happ))
  all_goals first | (cases happ; exact ⟨rfl, rfl⟩) | (cases happ; done) | skip
  all_goals (cases happ; first | exact ⟨rfl, rfl⟩ | exact hw (by assumption))
end Go.Ev
