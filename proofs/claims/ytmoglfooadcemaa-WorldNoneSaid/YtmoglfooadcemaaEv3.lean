/-
  The evaluator's maps, by keys that are structs of plain cells.
-/
import Derived.Test.YtmoglfooadcemaaEvT
namespace Go.Ev
open Go.RowKit

variable {P : Program} {T : TE} [TOk P T] {vs vs1 : VS} {ρ : Operand → Value} {o : Oper} {n : VN} {N0 : Nat → Prop} {W0 W : World} {μ : Mu}

def flatB : Value → Bool
  | .int _ _ => true
  | .string _ => true
  | .bool _ => true
  | _ => false
def flatL : List Value → Bool
  | [] => true
  | v :: l => flatB v && flatL l
def flatSame : Value → Value → Bool
  | .int a x, .int b y => (a == b) && ieq x y
  | .string a, .string b => beqL a.data.toList b.data.toList
  | .bool a, .bool b => a == b
  | _, _ => false
def flatSameL : List Value → List Value → Bool
  | [], [] => true
  | x :: a, y :: b => flatSame x y && flatSameL a b
  | _, _ => false
def aggSame : Value → Value → Bool
  | .agg a, .agg b => flatSameL a.toList b.toList
  | _, _ => false
theorem flatSame_eq {a b : Value} (h : flatSame a b = true) : a = b := by
  unfold flatSame at h
  split at h
  · simp only [Bool.and_eq_true, beq_iff_eq, ieq_eq] at h; rw [h.1, h.2]
  · rename_i a b
    simp only [beqL_eq, beq_iff_eq] at h
    obtain ⟨⟨a⟩⟩ := a
    obtain ⟨⟨b⟩⟩ := b
    simp only at h
    rw [h]
  · simp only [beq_iff_eq] at h; rw [h]
  · cases h
theorem flatSameL_eq : ∀ {a b : List Value}, flatSameL a b = true → a = b
  | [], [], _ => rfl
  | x :: a, y :: b, h => by
    simp only [flatSameL, Bool.and_eq_true] at h
    rw [flatSame_eq h.1, flatSameL_eq h.2]
  | [], _ :: _, h => by cases h
  | _ :: _, [], h => by cases h
theorem aggSame_eq {a b : Value} (h : aggSame a b = true) : a = b := by
  unfold aggSame at h
  split at h
  · rename_i a b
    have := flatSameL_eq h
    rw [Array.ext' this]
  · cases h
theorem flatL_plain : ∀ {l : List Value}, flatL l = true → plainL l = true
  | [], _ => rfl
  | v :: l, h => by
    simp only [flatL, Bool.and_eq_true] at h
    have : plainB v = true := by
      have := h.1
      unfold flatB at this
      split at this <;> first | rfl | cases this
    simp [plainL, this, flatL_plain h.2]
theorem flatB_same (n : Nat) {v : Value} (h : flatB v = true) : Instr.sameBits n v v = true := by
  unfold flatB at h
  split at h
  · simp [Instr.sameBits]
  · rename_i s
    obtain ⟨a⟩ := s
    simp only [Instr.sameBits]
    show (a == a) = true
    simp
  · simp [Instr.sameBits]
  · cases h
theorem flatL_same (n : Nat) : ∀ {l : List Value}, flatL l = true → ((l.zip l).all fun (x, y) => Instr.sameBits n x y) = true
  | [], _ => rfl
  | v :: l, h => by
    simp only [flatL, Bool.and_eq_true] at h
    simp only [List.zip_cons_cons, List.all_cons, Bool.and_eq_true]
    exact ⟨flatB_same n h.1, flatL_same n h.2⟩

/- A key of such a type. -/
def wkeyOk (P : Program) (e : Bool) (kt : TypeId) (k : Value) : Bool :=
  match k with
  | .agg a => flatL a.toList && (match purely P (Instr.checkKey e 10000 kt k) with
    | some () => true
    | none => false)
  | _ => false
theorem wkeyOk_plain {e : Bool} {kt : TypeId} {k : Value} (h : wkeyOk P e kt k = true) : plainB k = true := by
  unfold wkeyOk at h
  split at h
  · rename_i a
    simp only [Bool.and_eq_true] at h
    obtain ⟨a⟩ := a
    simp only [plainB, plainA]
    exact flatL_plain h.1
  · cases h
theorem wkeyOk_run {e : Bool} {kt : TypeId} {k : Value} (h : wkeyOk P e kt k = true) : (Instr.checkKey e 10000 kt k).run P W = .ok () W := by
  unfold wkeyOk at h
  split at h
  · rename_i a
    simp only [Bool.and_eq_true] at h
    obtain ⟨_, h⟩ := h
    split at h
    · rename_i hp; exact purely_run P W _ _ hp
    · cases h
  · cases h
theorem wkeyOk_same {e : Bool} {kt : TypeId} {k : Value} (h : wkeyOk P e kt k = true) : Instr.sameBits 10000 k k = true := by
  unfold wkeyOk at h
  split at h
  · rename_i a
    simp only [Bool.and_eq_true] at h
    have := flatL_same 9999 h.1
    simp only [Instr.sameBits, Bool.and_eq_true, beq_self_eq_true, true_and]
    exact this
  · cases h
def vfindW (P : Program) (kt : TypeId) (k : Value) : List (Value × Value × Nat) → Nat → Option (Option (Nat × Value × Nat))
  | [], _ => some none
  | (k', v, b) :: l, i => bif aggSame k k' then (match purely P (Op.equal kt k k') with
      | some true => some (some (i, v, b))
      | _ => none)
    else (match purely P (Op.equal kt k k') with
      | some false => vfindW P kt k l (i + 1)
      | _ => none)
theorem findAsk_run {kt : TypeId} {k : Value} : ∀ {es : List (Value × Value × Nat)} {es' : List MapEntry} {i : Nat}, RE μ es es' →
    (vfindW P kt k es i = some none → (Instr.findAsking kt k es' i).run P W = .ok none W) ∧
    (∀ j v b, vfindW P kt k es i = some (some (j, v, b)) → i ≤ j ∧ ∃ e, es'[j - i]? = some e ∧ (Instr.findAsking kt k es' i).run P W = .ok (some (j, e.val)) W ∧ R μ v e.val ∧ e.born = b ∧ e.key = k)
  | [], [], i, _ => ⟨fun _ => rfl, fun j v b h => by simp [vfindW] at h⟩
  | (k0, v0, b0) :: l, e :: l', i, h => by
    obtain ⟨⟨rfl, hv, rfl⟩, hr⟩ := h
    simp only [vfindW, Bool.cond_eq_ite, Instr.findAsking]
    split
    · rename_i hs
      have hk := aggSame_eq hs
      split
      · rename_i hp
        have hrun := purely_run P W _ _ hp
        refine ⟨fun h => by simp at h, fun j v b h => ?_⟩
        simp only [Option.some.injEq, Prod.mk.injEq] at h
        obtain ⟨rfl, rfl, rfl⟩ := h
        exact ⟨Nat.le_refl _, e, by simp, by simp [Sem.run_bind, hrun], hv, rfl, hk.symm⟩
      · exact ⟨fun h => by simp at h, fun j v b h => by simp at h⟩
    · split
      · rename_i hp
        have hrun := purely_run P W _ _ hp
        obtain ⟨q1, q2⟩ := findAsk_run (kt := kt) (k := k) (i := i + 1) hr
        refine ⟨fun h => by simp [Sem.run_bind, hrun, q1 h], fun j v b h => ?_⟩
        obtain ⟨h1, e', h2, h3, h4, h5, h6⟩ := q2 j v b h
        have e : j - i = (j - (i + 1)) + 1 := by omega
        exact ⟨by omega, e', by rw [e, List.getElem?_cons_succ]; exact h2, by simp [Sem.run_bind, hrun, h3], h4, h5, h6⟩
      · exact ⟨fun h => by simp at h, fun j v b h => by simp at h⟩
  | [], _ :: _, _, h => h.elim
  | (_, _, _) :: _, [], _, h => h.elim
theorem sameNow_struct {fs : Array Field} {k k' : Value} : Instr.sameNow (.struct fs) k k' = none := by
  simp [Instr.sameNow]
theorem findKeyW_run {kt : TypeId} {fs : Array Field} {k : Value} {l : List MapEntry} {a : Option (Nat × Value)} (hd : P.underlying kt = some (.struct fs)) (h : (Instr.findAsking kt k l 0).run P W = .ok a W) : (Instr.findKey kt k l).run P W = .ok a W := by
  cases l with
  | nil =>
    simp only [Instr.findKey, Sem.run_bind, run_underlying hd, Result.andThen, Instr.findNow]
    exact h
  | cons e l =>
    simp only [Instr.findKey, Sem.run_bind, run_underlying hd, Result.andThen, Instr.findNow, sameNow_struct]
    exact h

def isNil : List (Value × Value × Nat) → Bool
  | [] => true
  | _ => false
theorem isNil_of {es : List (Value × Value × Nat)} {es' : Array MapEntry} (h : RE μ es es'.toList) : es'.isEmpty = isNil es := by
  have := RE_len h
  cases es with
  | nil => simp only [isNil, Array.isEmpty_iff_size_eq_zero]; simpa using this
  | cons x l =>
    simp only [isNil]
    rw [Bool.eq_false_iff]
    intro hh
    rw [Array.isEmpty_iff_size_eq_zero] at hh
    simp [hh] at this

def vlookupW (P : Program) (T : TE) (vs : VS) (t : TypeId) (m k : Value) (ok : Bool) : Option Value :=
  match T.und t with
  | some (.map kt et) => match T.und kt, entriesOf vs m with
    | some (.struct _), some es => bif wkeyOk P (isNil es) kt k then
        match vfindW P kt k es 0 with
        | some (some (_, v, _)) => some (bif ok then .tuple #[v, .bool true] else v)
        | some none => match T.inf et with
          | some i => match i.zero with
            | some z => bif plainB z then some (bif ok then .tuple #[z, .bool false] else z) else none
            | none => none
          | none => none
        | none => none
      else none
    | _, _ => none
  | _ => none
theorem sound_lookupW {t : TypeId} {x i : Operand} {ok : Bool} {v : Value} (ho : o.op = .lookup t x i ok) (h : vlookupW P T vs t (ρ x) (ρ i) ok = some v) : Sound P vs ρ o (.value v) := by
  intro N0 W0 W μ ρ' hG hρ
  have h1 := hρ x (by simp [ho, Op.operands])
  have h2 := hρ i (by simp [ho, Op.operands])
  unfold vlookupW at h
  split at h
  case h_2 => cases h
  rename_i kt et hu
  split at h
  case h_2 => cases h
  rename_i fs es hk he
  simp only [Bool.cond_eq_ite] at h
  split at h
  case isFalse => cases h
  rename_i hkey
  have ek : ρ' i = ρ i := h2.plain (wkeyOk_plain hkey)
  obtain ⟨es', hre, hm⟩ := entries_run hG he h1
  obtain ⟨q1, q2⟩ := findAsk_run (P := P) (W := W) (kt := kt) (k := ρ i) (i := 0) hre
  have hchk : (Instr.checkKey es'.isEmpty 10000 kt (ρ i)).run P W = .ok () W := by rw [isNil_of hre]; exact wkeyOk_run hkey
  split at h
  · rename_i j v0 b hf
    cases h
    obtain ⟨_, e, _, hnow, hv, _⟩ := q2 j v0 b hf
    refine ⟨.value (bif ok then .tuple #[e.val, .bool true] else e.val), ?_, ?_⟩
    · have hfk := findKeyW_run (TOk.und (P := P) hk) hnow
      rcases hm with ⟨e1, rfl⟩ | ⟨r, c, e1, e2⟩
      · simp at hfk hchk
        simp [execOp, ho, Instr.lookup, ek, e1, Sem.run_bind, run_underlying (TOk.und (P := P) hu), hchk, hfk]
      · have hgo : (getObj r).run P W = .ok (.map es' c) W := by simp [getObj, Sem.run, e2]
        simp [execOp, ho, Instr.lookup, ek, e1, Sem.run_bind, run_underlying (TOk.und (P := P) hu), hgo, hchk, hfk]
    · cases ok with
      | true =>
        have hr := RA.two hv (R.bool (μ := μ) true)
        exact .tuple _ _ hr.1 hr.2
      | false => exact hv
  · rename_i hf
    split at h
    case h_2 => cases h
    rename_i inf hi
    split at h
    case h_2 => cases h
    rename_i z hz
    split at h
    case isFalse => cases h
    rename_i hp
    cases h
    refine ⟨.value (bif ok then .tuple #[z, .bool false] else z), ?_, ?_⟩
    · have hnow := q1 hf
      have hzero := run_zero' (W := W) (TOk.inf (P := P) hi) hz
      have hfk := findKeyW_run (TOk.und (P := P) hk) hnow
      rcases hm with ⟨e1, rfl⟩ | ⟨r, c, e1, e2⟩
      · simp at hfk hchk
        simp [execOp, ho, Instr.lookup, ek, e1, Sem.run_bind, run_underlying (TOk.und (P := P) hu), hchk, hfk, hzero]
      · have hgo : (getObj r).run P W = .ok (.map es' c) W := by simp [getObj, Sem.run, e2]
        simp [execOp, ho, Instr.lookup, ek, e1, Sem.run_bind, run_underlying (TOk.und (P := P) hu), hgo, hchk, hfk, hzero]
    · cases ok with
      | true =>
        have hr := RA.two (plain_self μ z hp) (R.bool (μ := μ) false)
        exact .tuple _ _ hr.1 hr.2
      | false => exact plain_self μ z hp
  · cases h

def vupdateW (P : Program) (T : TE) (vs : VS) (t : TypeId) (m k v : Value) : Option VS :=
  match T.und t, m with
  | some (.map kt _), .map (some r) => match T.und kt, findO vs.objs r with
    | some (.struct _), some ⟨.map es c, rw⟩ => bif rw && wkeyOk P false kt k then
        match vfindW P kt k es 0 with
        | some (some (j, _, _)) => some (vset vs r (.map (setAt j v es) c))
        | some none => some (vset vs r (.map (es ++ [(k, v, c)]) (c + 1)))
        | none => none
      else none
    | _, _ => none
  | _, _ => none
theorem updateW_run (hG : G N0 W0 vs W μ) {t : TypeId} {m k v m' k' v' : Value} (h : vupdateW P T vs t m k v = some vs1) (hm : R μ m m') (hk : R μ k k') (hv : R μ v v') : ∃ W1, (Instr.mapUpdate t m' k' v').run P W = .ok () W1 ∧ G N0 W0 vs1 W1 μ := by
  unfold vupdateW at h
  split at h
  case h_2 => cases h
  rename_i kt et r hu
  split at h
  case h_2 => cases h
  rename_i fs es c rw hd hf
  simp only [Bool.cond_eq_ite] at h
  split at h
  case isFalse => cases h
  rename_i hb
  simp only [Bool.and_eq_true] at hb
  obtain ⟨hrw, hkey⟩ := hb
  have ek : k' = k := hk.plain (wkeyOk_plain hkey)
  subst ek
  cases hm with
  | map r l hl =>
  obtain ⟨o, h1, h2, _⟩ := hG.obj hf hl
  obtain ⟨es', rfl, hre⟩ := h2.inv_map
  have hgo : (getObj l.blk).run P W = .ok (.map es' c) W := by simp [getObj, Sem.run, h1]
  have hso : ∀ o : Obj, (setObj l.blk o).run P W = .ok () { W with heap := W.heap.setIfInBounds l.blk o } := fun o => by simp [setObj, Sem.run, h1]
  have hchk := wkeyOk_run (W := W) hkey
  obtain ⟨q1, q2⟩ := findAsk_run (P := P) (W := W) (kt := kt) (k := k') (i := 0) hre
  split at h
  · rename_i j v0 b hfk
    cases h
    obtain ⟨_, e, he, hnow, _, _, hkk⟩ := q2 j v0 b hfk
    have he' : es'[j]? = some e := by simpa using he
    have hst : (Instr.keyThatStays k' k').run P W = .ok k' W := by simp [Instr.keyThatStays, wkeyOk_same hkey]
    refine ⟨_, ?_, hG.setObj hf hrw hl (v := .map (setAt j v es) c) (o := .map (es'.modify j fun e => { e with key := k', val := v' }) c) ⟨rfl, ?_⟩⟩
    · simp [Instr.mapUpdate, Sem.run_bind, run_underlying (TOk.und (P := P) hu), hgo, hchk, findKeyW_run (TOk.und (P := P) hd) hnow, he', hkk, hst, hso]
    · have := RE_set (j := j) (k' := k') hv hre fun e0 he0 => by
        have he2 : es'.toList[j]? = some e := by simpa using he
        rw [he2] at he0; cases he0; exact hkk.symm
      simpa using this
  · rename_i hfk
    cases h
    refine ⟨_, ?_, hG.setObj hf hrw hl (v := .map (es ++ [(k', v, c)]) (c + 1)) (o := .map (es'.push { key := k', val := v', born := c }) (c + 1)) ⟨rfl, ?_⟩⟩
    · simp [Instr.mapUpdate, Sem.run_bind, run_underlying (TOk.und (P := P) hu), hgo, hchk, findKeyW_run (TOk.und (P := P) hd) (q1 hfk), hso]
    · have := RE_push (k := k') (b := c) hv hre
      simpa using this
  · cases h
theorem sound_updateW {t : TypeId} {m k x : Operand} (ho : o.op = .mapUpdate t m k x ∨ o.op = .insert t m k x) (h : vupdateW P T vs t (ρ m) (ρ k) (ρ x) = some vs1) : SoundM P vs ρ o .skip vs1 := by
  intro N0 W0 W μ ρ' hG hρ
  rcases ho with ho | ho
  · obtain ⟨W1, h1, h2⟩ := updateW_run (P := P) hG h (hρ m (by simp [ho, Op.operands])) (hρ k (by simp [ho, Op.operands])) (hρ x (by simp [ho, Op.operands]))
    exact ⟨μ, W1, .skip, Mu.le_refl _, h2, by simp [execOp, ho, h1], trivial⟩
  · obtain ⟨W1, h1, h2⟩ := updateW_run (P := P) hG h (hρ m (by simp [ho, Op.operands])) (hρ k (by simp [ho, Op.operands])) (hρ x (by simp [ho, Op.operands]))
    exact ⟨μ, W1, .skip, Mu.le_refl _, h2, by simp [execOp, ho, h1], trivial⟩
end Go.Ev
