/-
  The evaluator's maps, and iterators over texts.
-/
import Derived.Test.YtmoglfooadcemaaEvN
import Derived.MapKept
namespace Go.Ev
open Go.RowKit

variable {P : Program} {T : TE} [TOk P T] {vs vs1 : VS} {ρ : Operand → Value} {o : Oper} {n : VN} {N0 : Nat → Prop} {W0 W : World} {μ : Mu}

def findO : List (Nat × VOb) → Nat → Option VOb
  | [], _ => none
  | (i, b) :: l, a => bif Nat.beq i a then some b else findO l a
def updO (id : Nat) (O : VOb) : List (Nat × VOb) → List (Nat × VOb)
  | [] => []
  | (i, b) :: l => bif Nat.beq i id then (i, O) :: updO id O l else (i, b) :: updO id O l
theorem findO_mem : ∀ {l : List (Nat × VOb)} {a : Nat} {b : VOb}, findO l a = some b → (a, b) ∈ l
  | (i, c) :: l, a, b, h => by
    simp only [findO, Bool.cond_eq_ite] at h
    split at h
    · rename_i hi
      have := Nat.eq_of_beq_eq_true hi
      cases h; subst this; simp
    · exact List.mem_cons_of_mem _ (findO_mem h)
theorem updO_mem : ∀ {l : List (Nat × VOb)} {id : Nat} {O : VOb} {a : Nat} {b : VOb}, (a, b) ∈ updO id O l → (a = id ∧ b = O) ∨ (a ≠ id ∧ (a, b) ∈ l)
  | (i, c) :: l, id, O, a, b, h => by
    simp only [updO, Bool.cond_eq_ite] at h
    split at h
    · rename_i hi
      have := Nat.eq_of_beq_eq_true hi
      rcases List.mem_cons.1 h with h | h
      · cases h; exact .inl ⟨this, rfl⟩
      · rcases updO_mem h with h | ⟨h1, h2⟩
        · exact .inl h
        · exact .inr ⟨h1, List.mem_cons_of_mem _ h2⟩
    · rename_i hi
      rcases List.mem_cons.1 h with h | h
      · cases h; exact .inr ⟨fun e => hi (by rw [e]; exact Nat.beq_refl _), by simp⟩
      · rcases updO_mem h with h | ⟨h1, h2⟩
        · exact .inl h
        · exact .inr ⟨h1, List.mem_cons_of_mem _ h2⟩

/- What the world holds where the evaluator has a map. -/
theorem G.obj (h : G N0 W0 vs W μ) {r : Nat} {O : VOb} (hf : findO vs.objs r = some O) {l : Loc} (hl : μ r = some l) : ∃ o, W.heap[l.blk]? = some o ∧ RO μ O.o o ∧ (O.rw = true → ¬ N0 l.blk) ∧ l.off = 0 := by
  obtain ⟨l', o, h1, h2⟩ := h.objs.at_ _ _ (findO_mem hf)
  rw [hl] at h1; cases h1
  exact ⟨o, h2⟩
theorem RO.inv_map {es : List (Value × Value × Nat)} {c : Nat} {o : Obj} (h : RO μ (.map es c) o) : ∃ es', o = .map es' c ∧ RE μ es es'.toList := by
  cases o <;> simp only [RO] at h
  obtain ⟨rfl, h⟩ := h
  exact ⟨_, rfl, h⟩
theorem RO.inv_iter {s : ByteArray} {p : Nat} {o : Obj} (h : RO μ (.iter s p) o) : o = .stringIter s p := by
  cases o <;> simp only [RO] at h
  obtain ⟨rfl, rfl⟩ := h
  rfl

/- Writing one. -/
def vset (vs : VS) (id : Nat) (o : VO) : VS := { heap := vs.heap, next := vs.next, ng := vs.ng, objs := updO id ⟨o, true⟩ vs.objs, dfr := vs.dfr }
theorem G.setObj (h : G N0 W0 vs W μ) {r : Nat} {O : VOb} (hf : findO vs.objs r = some O) (hrw : O.rw = true) {l : Loc} (hl : μ r = some l) {v : VO} {o : Obj} (hv : RO μ v o) :
    G N0 W0 (vset vs r v) { W with heap := W.heap.setIfInBounds l.blk o } μ := by
  obtain ⟨o0, h1, h2, h3, h4⟩ := h.obj hf hl
  have hlt : l.blk < W.heap.size := (Array.getElem?_eq_some_iff.1 h1).1
  have e1 : (W.heap.setIfInBounds l.blk o)[l.blk]? = some o := by simp [hlt]
  have e2 : ∀ r', r' ≠ l.blk → (W.heap.setIfInBounds l.blk o)[r']? = W.heap[r']? := fun r' hne => by simp [Ne.symm hne]
  have hN := h3 hrw
  refine ⟨h.below.trans ⟨rfl, rfl, rfl, by simp, fun k hk => e2 k fun e => hN (e ▸ hk)⟩, by simpa using h.start, h.fresh, fun g m h0 => by simpa using h.globs g m h0, h.glo, ?_, h.apart, ?_, ?_⟩
  · intro id B hm
    obtain ⟨m, c, z, q1, L⟩ := h.blocks id B hm
    have hne : m.blk ≠ l.blk := fun e => by
      have := L.at_
      rw [e, h1] at this
      cases this
      exact absurd h2.nc (by simp [notCells])
    exact ⟨m, c, z, q1, ⟨by rw [e2 _ hne]; exact L.at_, L.own, L.len, L.esz, L.room, L.fixed, L.whole, L.tail, L.cells⟩⟩
  · intro id O' hm
    rcases updO_mem hm with ⟨rfl, rfl⟩ | ⟨hne, hm'⟩
    · exact ⟨l, o, hl, e1, hv, fun _ => hN, h4⟩
    · obtain ⟨m, o', q1, q2, q3, q4⟩ := h.objs.at_ id O' hm'
      have hb : m.blk ≠ l.blk := h.objs.apart id O' r O hm' (findO_mem hf) hne m l q1 hl
      exact ⟨m, o', q1, by rw [e2 _ hb]; exact q2, q3, q4⟩
  · intro id O1 id' O2 hm hm' hne m m' q q'
    have key : ∀ {id : Nat} {O' : VOb}, (id, O') ∈ updO r ⟨v, true⟩ vs.objs → ∃ O'', (id, O'') ∈ vs.objs := fun {id} {O'} hm => by
      rcases updO_mem hm with ⟨rfl, rfl⟩ | ⟨_, h⟩
      · exact ⟨_, findO_mem hf⟩
      · exact ⟨_, h⟩
    obtain ⟨a, ha⟩ := key hm
    obtain ⟨b, hb⟩ := key hm'
    exact h.objs.apart id a id' b ha hb hne m m' q q'

/- One more. -/
def vnew (vs : VS) (o : VO) : VS := { heap := vs.heap, next := vs.next + 1, ng := vs.ng, objs := (vs.next, ⟨o, true⟩) :: vs.objs, dfr := vs.dfr }
theorem G.newObj (h : G N0 W0 vs W μ) {v : VO} {o : Obj} (hv : RO μ v o) : G N0 W0 (vnew vs v) (W.alloc o) (μ.put vs.next ⟨W.heap.size, 0, 0, 1, 0⟩) := by
  have hn : μ vs.next = none := h.fresh _ (Nat.le_refl _)
  have hle : μ.le (μ.put vs.next ⟨W.heap.size, 0, 0, 1, 0⟩) := Mu.put_le hn _
  have h1 : G N0 W0 vs (W.alloc o) μ := h.world (Kept.new _ _)
  have hat : (W.alloc o).heap[W.heap.size]? = some o := by
    show (W.heap.push _)[W.heap.size]? = _
    simp
  have hold : ∀ id O', (id, O') ∈ vs.objs → ∀ l', (μ.put vs.next ⟨W.heap.size, 0, 0, 1, 0⟩) id = some l' → μ id = some l' ∧ l'.blk < W.heap.size := fun id O' hm l' hl => by
    obtain ⟨m, _, q1, q2, _⟩ := h.objs.at_ id O' hm
    have hne : id ≠ vs.next := fun e => by rw [e, hn] at q1; cases q1
    have : μ id = some l' := by simpa [Mu.put, hne] using hl
    rw [q1] at this; cases this
    exact ⟨q1, (Array.getElem?_eq_some_iff.1 q2).1⟩
  refine ⟨h1.below, h1.start, ?_, ?_, fun g hg => let ⟨m, h2, h3⟩ := h.glo g hg; ⟨m, hle _ _ h2, h3⟩, ?_, ?_, ?_, ?_⟩
  · intro a ha
    simp only [vnew] at ha
    have : a ≠ vs.next := by omega
    simp [Mu.put, this, h.fresh a (by omega)]
  · intro g m hg
    unfold Mu.put at hg
    split at hg
    · cases hg; exact (Array.getElem?_eq_some_iff.1 hat).1
    · exact h1.globs _ _ hg
  · intro id B hm
    obtain ⟨l, c, z, q1, L⟩ := h1.blocks id B hm
    exact ⟨l, c, z, hle _ _ q1, L.mono hle⟩
  · intro id B id' B' hm hm' hf l l' q q'
    obtain ⟨m, _, _, q1, _⟩ := h.blocks id B hm
    obtain ⟨m', _, _, q1', _⟩ := h.blocks id' B' hm'
    rw [hle _ _ q1] at q; rw [hle _ _ q1'] at q'; cases q; cases q'
    exact h.apart id B id' B' hm hm' hf _ _ q1 q1'
  · intro id O' hm
    rcases List.mem_cons.1 hm with e | hm
    · cases e; exact ⟨_, o, Mu.put_self _ _ _, hat, hv.mono hle, fun _ hk => Nat.lt_irrefl _ (h.start _ hk), rfl⟩
    · obtain ⟨l, o', q1, q2, q3, q4⟩ := h1.objs.at_ id O' hm
      exact ⟨l, o', hle _ _ q1, q2, q3.mono hle, q4⟩
  · intro id O1 id' O2 hm hm' hne l l' q q'
    rcases List.mem_cons.1 hm with e | hm <;> rcases List.mem_cons.1 hm' with e' | hm'
    · cases e; cases e'; exact absurd rfl hne
    · cases e
      rw [Mu.put_self] at q; cases q
      have := (hold _ _ hm' _ q').2
      show W.heap.size ≠ l'.blk
      omega
    · cases e'
      rw [Mu.put_self] at q'; cases q'
      have := (hold _ _ hm _ q).2
      show l.blk ≠ W.heap.size
      omega
    · exact h.objs.apart id O1 id' O2 hm hm' hne _ _ (hold _ _ hm _ q).1 (hold _ _ hm' _ q').1

/- Keys. -/
def keyEq (d : TypeDesc) (k k' : Value) : Option Bool :=
  match d, k, k' with
  | .int _, .int a x, .int b y => bif (a == b) then some (ieq x y) else none
  | .string, .string a, .string b => some (beqL a.data.toList b.data.toList)
  | .bool, .bool a, .bool b => some (a == b)
  | _, _, _ => none
theorem keyEq_eq {d : TypeDesc} {k k' : Value} {b : Bool} (h : keyEq d k k' = some b) : Instr.sameNow d k k' = some b := by
  unfold keyEq at h
  split at h
  · rename_i a x b' y
    simp only [Bool.cond_eq_ite] at h
    split at h
    · rename_i hk
      have hk := eq_of_beq hk
      cases h; simp [Instr.sameNow, hk, ieq_eq]
    · cases h
  · cases h
    rename_i a b
    obtain ⟨⟨a⟩⟩ := a
    obtain ⟨⟨b⟩⟩ := b
    simp only [Instr.sameNow, beqL_eq]
    congr 1
    show ((⟨a⟩ : Array UInt8) == ⟨b⟩) = (a == b)
    simp
  · cases h; simp [Instr.sameNow]
  · cases h
def keyOk (d : TypeDesc) (k : Value) : Bool :=
  match d, k with
  | .int _, .int _ _ => true
  | .string, .string _ => true
  | .bool, .bool _ => true
  | _, _ => false
theorem keyOk_plain {d : TypeDesc} {k : Value} (h : keyOk d k = true) : plainB k = true := by
  unfold keyOk at h; split at h <;> first | rfl | cases h
theorem keyOk_run {d : TypeDesc} {k : Value} {kt : TypeId} (hd : P.underlying kt = some d) (h : keyOk d k = true) (e : Bool) (m : Nat) : (Instr.checkKey e (m + 1) kt k).run P W = .ok () W := by
  unfold Instr.checkKey
  simp only [Sem.run_bind, run_underlying hd, Result.andThen]
  unfold keyOk at h
  split at h <;> first | rfl | cases h
def vfindK (d : TypeDesc) (k : Value) : List (Value × Value × Nat) → Nat → Option (Option (Nat × Value × Nat))
  | [], _ => some none
  | (k', v, b) :: l, i => match keyEq d k k' with
    | some e => bif e then some (some (i, v, b)) else vfindK d k l (i + 1)
    | none => none
theorem findKey_run {kt : TypeId} {d : TypeDesc} {k : Value} {l : List MapEntry} {a : Option (Nat × Value)} (hd : P.underlying kt = some d) (h : Instr.findNow d k l 0 = some a) : (Instr.findKey kt k l).run P W = .ok a W := by
  simp [Instr.findKey, run_underlying hd, h]
theorem findK_run {d : TypeDesc} {k : Value} : ∀ {es : List (Value × Value × Nat)} {es' : List MapEntry} {i : Nat}, RE μ es es' →
    (vfindK d k es i = some none → Instr.findNow d k es' i = some none) ∧
    (∀ j v b, vfindK d k es i = some (some (j, v, b)) → i ≤ j ∧ ∃ e, es'[j - i]? = some e ∧ Instr.findNow d k es' i = some (some (j, e.val)) ∧ R μ v e.val ∧ e.born = b ∧ keyEq d k e.key = some true ∧ ∃ k0, es[j - i]? = some (k0, v, b))
  | [], [], i, _ => ⟨fun _ => rfl, fun j v b h => by simp [vfindK] at h⟩
  | (k0, v0, b0) :: l, e :: l', i, h => by
    obtain ⟨⟨rfl, hv, rfl⟩, hr⟩ := h
    simp only [vfindK, Instr.findNow]
    cases he : keyEq d k e.key with
    | none => exact ⟨fun h => by simp at h, fun j v b h => by simp at h⟩
    | some b =>
      rw [keyEq_eq he]
      cases b with
      | true =>
        refine ⟨fun h => by simp at h, fun j v b h => ?_⟩
        simp only [cond_true, Option.some.injEq, Prod.mk.injEq] at h
        obtain ⟨rfl, rfl, rfl⟩ := h
        exact ⟨Nat.le_refl _, e, by simp, rfl, hv, rfl, he, e.key, by simp⟩
      | false =>
        obtain ⟨q1, q2⟩ := findK_run (d := d) (k := k) (i := i + 1) hr
        refine ⟨fun h => q1 (by simpa using h), fun j v b h => ?_⟩
        obtain ⟨h1, e', h2, h3, h4, h5, h6, k1, h7⟩ := q2 j v b (by simpa using h)
        have e : j - i = (j - (i + 1)) + 1 := by omega
        exact ⟨by omega, e', by rw [e, List.getElem?_cons_succ]; exact h2, h3, h4, h5, h6, k1, by rw [e, List.getElem?_cons_succ]; exact h7⟩
  | [], _ :: _, _, h => h.elim
  | (_, _, _) :: _, [], _, h => h.elim

def entriesOf (vs : VS) : Value → Option (List (Value × Value × Nat))
  | .map none => some []
  | .map (some r) => match findO vs.objs r with
    | some ⟨.map es _, _⟩ => some es
    | _ => none
  | _ => none
theorem entries_run (h : G N0 W0 vs W μ) {m m' : Value} {es : List (Value × Value × Nat)} (he : entriesOf vs m = some es) (hm : R μ m m') :
    ∃ es' : Array MapEntry, RE μ es es'.toList ∧ ((m' = .map none ∧ es' = #[]) ∨ ∃ r c, m' = .map (some r) ∧ W.heap[r]? = some (.map es' c)) := by
  unfold entriesOf at he
  split at he
  · cases he; cases hm; exact ⟨#[], trivial, .inl ⟨rfl, rfl⟩⟩
  · rename_i r
    split at he
    case h_2 => cases he
    rename_i es c rw hf
    cases he
    cases hm with
    | map r l hl =>
      obtain ⟨o, h1, h2, _⟩ := h.obj hf hl
      obtain ⟨es', rfl, h3⟩ := h2.inv_map
      exact ⟨es', h3, .inr ⟨_, c, rfl, h1⟩⟩
  · cases he

def vlookup (T : TE) (vs : VS) (t : TypeId) (m k : Value) (ok : Bool) : Option Value :=
  match T.und t with
  | some (.map kt et) => match T.und kt, entriesOf vs m with
    | some d, some es => bif keyOk d k then
        match vfindK d k es 0 with
        | some (some (_, v, _)) => some (bif ok then .tuple #[v, .bool true] else v)
        | some none => match T.inf et with
          | some i => match i.zero with
            | some z => bif plainB z then some (bif ok then .tuple #[z, .bool false] else z) else none
            | none => none
          | none => none
        | none => none
      else none
    | _, _ => none
  | _ => none
theorem sound_lookup {t : TypeId} {x i : Operand} {ok : Bool} {v : Value} (ho : o.op = .lookup t x i ok) (h : vlookup T vs t (ρ x) (ρ i) ok = some v) : Sound P vs ρ o (.value v) := by
  intro N0 W0 W μ ρ' hG hρ
  have h1 := hρ x (by simp [ho, Op.operands])
  have h2 := hρ i (by simp [ho, Op.operands])
  unfold vlookup at h
  split at h
  case h_2 => cases h
  rename_i kt et hu
  split at h
  case h_2 => cases h
  rename_i d es hk he
  simp only [Bool.cond_eq_ite] at h
  split at h
  case isFalse => cases h
  rename_i hkey
  have ek : ρ' i = ρ i := h2.plain (keyOk_plain hkey)
  obtain ⟨es', hre, hm⟩ := entries_run hG he h1
  obtain ⟨q1, q2⟩ := findK_run (d := d) (k := ρ i) (i := 0) hre
  have hchk : ∀ b, (Instr.checkKey b 10000 kt (ρ i)).run P W = .ok () W := fun b => keyOk_run (P := P) (TOk.und (P := P) hk) hkey b 9999
  split at h
  · rename_i j v0 b hf
    cases h
    obtain ⟨_, e, _, hnow, hv, _⟩ := q2 j v0 b hf
    refine ⟨.value (bif ok then .tuple #[e.val, .bool true] else e.val), ?_, ?_⟩
    · rcases hm with ⟨e1, rfl⟩ | ⟨r, c, e1, e2⟩
      · simp [execOp, ho, Instr.lookup, ek, e1, Sem.run_bind, run_underlying (TOk.und (P := P) hu), hchk, findKey_run (TOk.und (P := P) hk) (by simpa using hnow)]
      · have hgo : (getObj r).run P W = .ok (.map es' c) W := by simp [getObj, Sem.run, e2]
        simp [execOp, ho, Instr.lookup, ek, e1, Sem.run_bind, run_underlying (TOk.und (P := P) hu), hgo, hchk, findKey_run (TOk.und (P := P) hk) hnow]
    · cases ok with
      | true =>
        have hr := RA.two hv (R.bool (μ := μ) true)
        exact .tuple _ _ hr.1 hr.2
      | false => exact hv
  · rename_i hf
    split at h
    case h_2 => cases h
    rename_i inf hi
    split at h
    case h_2 => cases h
    rename_i z hz
    split at h
    case isFalse => cases h
    rename_i hp
    cases h
    refine ⟨.value (bif ok then .tuple #[z, .bool false] else z), ?_, ?_⟩
    · have hnow := q1 hf
      have hzero := run_zero' (W := W) (TOk.inf (P := P) hi) hz
      rcases hm with ⟨e1, rfl⟩ | ⟨r, c, e1, e2⟩
      · simp [execOp, ho, Instr.lookup, ek, e1, Sem.run_bind, run_underlying (TOk.und (P := P) hu), hchk, findKey_run (TOk.und (P := P) hk) (by simpa using hnow), hzero]
      · have hgo : (getObj r).run P W = .ok (.map es' c) W := by simp [getObj, Sem.run, e2]
        simp [execOp, ho, Instr.lookup, ek, e1, Sem.run_bind, run_underlying (TOk.und (P := P) hu), hgo, hchk, findKey_run (TOk.und (P := P) hk) hnow, hzero]
    · cases ok with
      | true =>
        have hr := RA.two (plain_self μ z hp) (R.bool (μ := μ) false)
        exact .tuple _ _ hr.1 hr.2
      | false => exact plain_self μ z hp
  · cases h


/- A map is made, written, an entry taken out; how many there are. -/
def vmakeMap (T : TE) (vs : VS) (t : TypeId) (hint : Option Value) : Option (VN × VS) :=
  match hint with
  | none => some (.value (.map (some vs.next)), vnew vs (.map [] 0))
  | some (.int _ _) => match T.und t with
    | some (.map _ _) => some (.value (.map (some vs.next)), vnew vs (.map [] 0))
    | _ => none
  | _ => none
theorem R_newMap {μ : Mu} (vs : VS) (b ex esz len : Nat) : R (μ.put vs.next ⟨b, 0, ex, esz, len⟩) (.map (some vs.next)) (.map (some b)) := R.map _ _ (Mu.put_self _ _ _)
theorem sound_makeMap {t : TypeId} {r : Option Operand} (ho : o.op = .makeMap t r) (h : vmakeMap T vs t (r.map ρ) = some (n, vs1)) : SoundM P vs ρ o n vs1 := by
  intro N0 W0 W μ ρ' hG hρ
  have hg := hG.newObj (v := .map [] 0) (o := .map #[] 0) ⟨rfl, trivial⟩
  have hr := operand_rel (μ := μ) (ρ := ρ) (ρ' := ρ') (x := r) fun y hy => hρ y (by simp [ho, Op.operands, hy])
  unfold vmakeMap at h
  split at h
  · rename_i e
    cases h
    have e' := hr.2 e
    exact ⟨_, _, .value (.map (some W.heap.size)), hG.le_put _, hg, by simp [execOp, ho, Instr.makeMap, e'], R_newMap vs _ _ _ _⟩
  · rename_i k m e
    split at h
    case h_2 => cases h
    rename_i kt et hu
    cases h
    obtain ⟨v', e', hv⟩ := hr.1 _ e
    have := hv.inv_int
    subst this
    exact ⟨_, _, .value (.map (some W.heap.size)), hG.le_put _, hg, by simp [execOp, ho, Instr.makeMap, e', run_underlying (TOk.und (P := P) hu), asInt, asIntOf], R_newMap vs _ _ _ _⟩
  · cases h

def setAt (j : Nat) (v : Value) : List (Value × Value × Nat) → List (Value × Value × Nat)
  | [] => []
  | (k, x, b) :: l => match j with
    | 0 => (k, v, b) :: l
    | j + 1 => (k, x, b) :: setAt j v l
theorem RE_set {v v' : Value} (hv : R μ v v') : ∀ {l : List (Value × Value × Nat)} {l' : List MapEntry} {j : Nat} {k' : Value}, RE μ l l' → (∀ e, l'[j]? = some e → k' = e.key) → RE μ (setAt j v l) (l'.modify j fun e => { e with key := k', val := v' })
  | [], [], j, k', h, _ => by cases j <;> simp [setAt, RE]
  | (k, x, b) :: l, e :: l', 0, k', h, hk => by
    have := hk e (by simp)
    subst this
    simp only [setAt, List.modify_zero_cons]
    exact ⟨⟨h.1.1, hv, h.1.2.2⟩, h.2⟩
  | (k, x, b) :: l, e :: l', j + 1, k', h, hk => by
    simp only [setAt, List.modify_succ_cons]
    exact ⟨h.1, RE_set hv h.2 fun e he => hk e (by simpa using he)⟩
  | [], _ :: _, _, _, h, _ => h.elim
  | (_, _, _) :: _, [], _, _, h, _ => h.elim
theorem RE_push {v v' : Value} (hv : R μ v v') {k : Value} {b : Nat} : ∀ {l : List (Value × Value × Nat)} {l' : List MapEntry}, RE μ l l' → RE μ (l ++ [(k, v, b)]) (l' ++ [{ key := k, val := v', born := b }])
  | [], [], _ => ⟨⟨rfl, hv, rfl⟩, trivial⟩
  | (_, _, _) :: _, _ :: _, h => ⟨h.1, RE_push hv h.2⟩
  | [], _ :: _, h => h.elim
  | (_, _, _) :: _, [], h => h.elim
def delAt (j : Nat) : List (Value × Value × Nat) → List (Value × Value × Nat)
  | [] => []
  | x :: l => match j with
    | 0 => l
    | j + 1 => x :: delAt j l
theorem RE_del : ∀ {l : List (Value × Value × Nat)} {l' : List MapEntry} {j : Nat}, RE μ l l' → RE μ (delAt j l) (l'.eraseIdx j)
  | [], [], j, h => by simp [delAt, RE]
  | (_, _, _) :: _, _ :: _, 0, h => by simpa [delAt] using h.2
  | (_, _, _) :: _, _ :: _, j + 1, h => by simpa [delAt] using ⟨h.1, RE_del h.2⟩
  | [], _ :: _, _, h => h.elim
  | (_, _, _) :: _, [], _, h => h.elim
theorem RE_len : ∀ {l : List (Value × Value × Nat)} {l' : List MapEntry}, RE μ l l' → l'.length = l.length
  | [], [], _ => rfl
  | (_, _, _) :: _, _ :: _, h => by simp [RE_len h.2]
  | [], _ :: _, h => h.elim
  | (_, _, _) :: _, [], h => h.elim
theorem keyEq_same {d : TypeDesc} {k k' : Value} (h : keyEq d k k' = some true) : k' = k := by
  unfold keyEq at h
  split at h
  · rename_i a x b y
    simp only [Bool.cond_eq_ite] at h
    split at h
    · rename_i hk
      have hk := eq_of_beq hk
      simp only [Option.some.injEq, ieq_eq, beq_iff_eq] at h
      rw [hk, h]
    · cases h
  · rename_i a b
    simp only [Option.some.injEq, beqL_eq, beq_iff_eq] at h
    obtain ⟨⟨a⟩⟩ := a
    obtain ⟨⟨b⟩⟩ := b
    simp only at h
    rw [h]
  · simp only [Option.some.injEq, beq_iff_eq] at h; rw [h]
  · cases h
theorem sameBits_self {d : TypeDesc} {k : Value} (h : keyOk d k = true) (n : Nat) : Instr.sameBits n k k = true := by
  unfold keyOk at h
  split at h
  · simp [Instr.sameBits]
  · rename_i s
    obtain ⟨a⟩ := s
    simp only [Instr.sameBits]
    show (a == a) = true
    simp
  · simp [Instr.sameBits]
  · cases h
theorem keyStays_run {d : TypeDesc} {k : Value} (h : keyOk d k = true) : (Instr.keyThatStays k k).run P W = .ok k W := by
  simp [Instr.keyThatStays, sameBits_self h]

def vupdate (T : TE) (vs : VS) (t : TypeId) (m k v : Value) : Option VS :=
  match T.und t, m with
  | some (.map kt _), .map (some r) => match T.und kt, findO vs.objs r with
    | some d, some ⟨.map es c, rw⟩ => bif rw && keyOk d k then
        match vfindK d k es 0 with
        | some (some (j, _, _)) => some (vset vs r (.map (setAt j v es) c))
        | some none => some (vset vs r (.map (es ++ [(k, v, c)]) (c + 1)))
        | none => none
      else none
    | _, _ => none
  | _, _ => none
theorem update_run (hG : G N0 W0 vs W μ) {t : TypeId} {m k v m' k' v' : Value} (h : vupdate T vs t m k v = some vs1) (hm : R μ m m') (hk : R μ k k') (hv : R μ v v') : ∃ W1, (Instr.mapUpdate t m' k' v').run P W = .ok () W1 ∧ G N0 W0 vs1 W1 μ := by
  unfold vupdate at h
  split at h
  case h_2 => cases h
  rename_i kt et r hu
  split at h
  case h_2 => cases h
  rename_i d es c rw hd hf
  simp only [Bool.cond_eq_ite] at h
  split at h
  case isFalse => cases h
  rename_i hb
  simp only [Bool.and_eq_true] at hb
  obtain ⟨hrw, hkey⟩ := hb
  have ek : k' = k := hk.plain (keyOk_plain hkey)
  subst ek
  cases hm with
  | map r l hl =>
  obtain ⟨o, h1, h2, _⟩ := hG.obj hf hl
  obtain ⟨es', rfl, hre⟩ := h2.inv_map
  have hgo : (getObj l.blk).run P W = .ok (.map es' c) W := by simp [getObj, Sem.run, h1]
  have hso : ∀ o : Obj, (setObj l.blk o).run P W = .ok () { W with heap := W.heap.setIfInBounds l.blk o } := fun o => by simp [setObj, Sem.run, h1]
  have hchk := keyOk_run (P := P) (W := W) (TOk.und (P := P) hd) hkey false 9999
  obtain ⟨q1, q2⟩ := findK_run (d := d) (k := k') (i := 0) hre
  split at h
  · rename_i j v0 b hfk
    cases h
    obtain ⟨_, e, he, hnow, _, _, hsame, _⟩ := q2 j v0 b hfk
    have hkk := keyEq_same hsame
    have he' : es'[j]? = some e := by simpa using he
    refine ⟨_, ?_, hG.setObj hf hrw hl (v := .map (setAt j v es) c) (o := .map (es'.modify j fun e => { e with key := k', val := v' }) c) ⟨rfl, ?_⟩⟩
    · simp [Instr.mapUpdate, run_underlying (TOk.und (P := P) hu), hgo, hchk, findKey_run (TOk.und (P := P) hd) hnow, he', hkk, keyStays_run hkey, hso]
    · have := RE_set (j := j) (k' := k') hv hre fun e0 he0 => by
        have he2 : es'.toList[j]? = some e := by simpa using he
        rw [he2] at he0; cases he0; exact hkk.symm
      simpa using this
  · rename_i hfk
    cases h
    refine ⟨_, ?_, hG.setObj hf hrw hl (v := .map (es ++ [(k', v, c)]) (c + 1)) (o := .map (es'.push { key := k', val := v', born := c }) (c + 1)) ⟨rfl, ?_⟩⟩
    · simp [Instr.mapUpdate, run_underlying (TOk.und (P := P) hu), hgo, hchk, findKey_run (TOk.und (P := P) hd) (q1 hfk), hso]
    · have := RE_push (k := k') (b := c) hv hre
      simpa using this
  · cases h
theorem sound_update {t : TypeId} {m k x : Operand} (ho : o.op = .mapUpdate t m k x ∨ o.op = .insert t m k x) (h : vupdate T vs t (ρ m) (ρ k) (ρ x) = some vs1) : SoundM P vs ρ o .skip vs1 := by
  intro N0 W0 W μ ρ' hG hρ
  rcases ho with ho | ho
  · obtain ⟨W1, h1, h2⟩ := update_run (P := P) hG h (hρ m (by simp [ho, Op.operands])) (hρ k (by simp [ho, Op.operands])) (hρ x (by simp [ho, Op.operands]))
    exact ⟨μ, W1, .skip, Mu.le_refl _, h2, by simp [execOp, ho, h1], trivial⟩
  · obtain ⟨W1, h1, h2⟩ := update_run (P := P) hG h (hρ m (by simp [ho, Op.operands])) (hρ k (by simp [ho, Op.operands])) (hρ x (by simp [ho, Op.operands]))
    exact ⟨μ, W1, .skip, Mu.le_refl _, h2, by simp [execOp, ho, h1], trivial⟩

def vdelete (T : TE) (vs : VS) (t : TypeId) (m k : Value) : Option VS :=
  match T.und t, m with
  | some (.map kt _), .map (some r) => match T.und kt, findO vs.objs r with
    | some d, some ⟨.map es c, rw⟩ => bif rw && keyOk d k then
        match vfindK d k es 0 with
        | some (some (j, _, _)) => some (vset vs r (.map (delAt j es) c))
        | some none => some (vset vs r (.map es c))
        | none => none
      else none
    | _, _ => none
  | _, _ => none
theorem sound_delete {c : Call} {x y : Operand} {t u : TypeId} (ho : o.op = .call c) (hc : c.callee = .builtin .delete) (ha : c.args = #[x, y]) (ht : c.argTypes = #[t, u]) (h : vdelete T vs t (ρ x) (ρ y) = some vs1) :
    SoundM P vs ρ o (.value (.tuple #[])) vs1 := by
  intro N0 W0 W μ ρ' hG hρ
  have h1 := hρ x (by simp [ho, Op.operands, Call.operands, hc, ha])
  have h2 := hρ y (by simp [ho, Op.operands, Call.operands, hc, ha])
  have hexec : ∀ W1, (Builtin.delete_ #[t, u] o.type #[ρ' x, ρ' y]).run P W = .ok (.tuple #[]) W1 → (execOp ρ' o).run P W = .ok (.value (.tuple #[])) W1 := fun W1 hr => by
    simp [execOp, ho, resolve, hc, ha, ht, invoke, builtin, hr]
  generalize ρ x = m at *
  generalize ρ y = k at *
  generalize ρ' x = m' at *
  generalize ρ' y = k' at *
  unfold vdelete at h
  split at h
  case h_2 => cases h
  rename_i kt et r hu
  split at h
  case h_2 => cases h
  rename_i d es c0 rw hd hf
  simp only [Bool.cond_eq_ite] at h
  split at h
  case isFalse => cases h
  rename_i hb
  simp only [Bool.and_eq_true] at hb
  obtain ⟨hrw, hkey⟩ := hb
  have ek : k' = k := h2.plain (keyOk_plain hkey)
  subst ek
  cases h1 with
  | map r l hl =>
  obtain ⟨ob, q0, q1, _⟩ := hG.obj hf hl
  obtain ⟨es', rfl, hre⟩ := q1.inv_map
  have hgo : (getObj l.blk).run P W = .ok (.map es' c0) W := by simp [getObj, Sem.run, q0]
  have hso : ∀ o : Obj, (setObj l.blk o).run P W = .ok () { W with heap := W.heap.setIfInBounds l.blk o } := fun o => by simp [setObj, Sem.run, q0]
  have hchk := fun b => keyOk_run (P := P) (W := W) (TOk.und (P := P) hd) hkey b 9999
  obtain ⟨f1, f2⟩ := findK_run (d := d) (k := k') (i := 0) hre
  have r0 : R μ (.tuple #[]) (.tuple #[]) := plain_self μ _ rfl
  split at h
  · rename_i j v0 b hfk
    cases h
    obtain ⟨_, e, he, hnow, _⟩ := f2 j v0 b hfk
    refine ⟨μ, _, .value (.tuple #[]), Mu.le_refl _, hG.setObj hf hrw hl (v := .map (delAt j es) c0) (o := .map (es'.eraseIdxIfInBounds j) c0) ⟨rfl, ?_⟩, hexec _ ?_, r0⟩
    · have := RE_del (j := j) hre
      have e : (es'.eraseIdxIfInBounds j).toList = es'.toList.eraseIdx j := by simp
      rw [e]; exact this
    · simp [Builtin.delete_, run_underlying (TOk.und (P := P) hu), hgo, hchk, findKey_run (TOk.und (P := P) hd) hnow, hso]
  · rename_i hfk
    cases h
    refine ⟨μ, _, .value (.tuple #[]), Mu.le_refl _, hG.setObj hf hrw hl (v := .map es c0) (o := .map es' c0) ⟨rfl, hre⟩, hexec _ ?_, r0⟩
    simp [Builtin.delete_, run_underlying (TOk.und (P := P) hu), hgo, hchk, findKey_run (TOk.und (P := P) hd) (f1 hfk), hso]
  · cases h

def vlenMap (T : TE) (vs : VS) (t : TypeId) (m : Value) : Option Value :=
  match T.und t, entriesOf vs m with
  | some (.map _ _), some es => some (goInt es.length)
  | _, _ => none
theorem sound_lenMap {c : Call} {x : Operand} {t : TypeId} {v : Value} (ho : o.op = .call c) (hc : c.callee = .builtin .len) (ha : c.args = #[x]) (ht : c.argTypes = #[t]) (hv : vlenMap T vs t (ρ x) = some v) : Sound P vs ρ o (.value v) := by
  intro N0 W0 W μ ρ' hG hρ
  have h1 := hρ x (by simp [ho, Op.operands, Call.operands, hc, ha])
  unfold vlenMap at hv
  split at hv
  case h_2 => cases hv
  rename_i kt et es hu he
  cases hv
  obtain ⟨es', hre, hm⟩ := entries_run hG he h1
  have hl : es.length = es'.size := by have := RE_len hre; simpa using this.symm
  refine ⟨.value (goInt es.length), ?_, .int _ _⟩
  rcases hm with ⟨e, rfl⟩ | ⟨r, c', e, e2⟩
  · simp [execOp, ho, resolve, hc, ha, ht, invoke, builtin, Builtin.len_, run_underlying (TOk.und (P := P) hu), e, hl]
  · have hgo : (getObj r).run P W = .ok (.map es' c') W := by simp [getObj, Sem.run, e2]
    simp [execOp, ho, resolve, hc, ha, ht, invoke, builtin, Builtin.len_, run_underlying (TOk.und (P := P) hu), e, hl, hgo]

/- A text, rune by rune. -/
def vrange (T : TE) (vs : VS) (t : TypeId) (x : Value) : Option (VN × VS) :=
  match T.und t, x with
  | some .string, .string s => some (.value (newPtr vs), vnew vs (.iter s 0))
  | _, _ => none
theorem sound_range {t : TypeId} {x : Operand} (ho : o.op = .range t x) (h : vrange T vs t (ρ x) = some (n, vs1)) : SoundM P vs ρ o n vs1 := by
  intro N0 W0 W μ ρ' hG hρ
  have h1 := hρ x (by simp [ho, Op.operands])
  unfold vrange at h
  split at h
  case h_2 => cases h
  rename_i s hu hx
  cases h
  rw [hx] at h1
  have e : ρ' x = .string s := by cases hv : ρ' x <;> rw [hv] at h1 <;> cases h1; rfl
  exact ⟨_, _, .value (.pointer (some ⟨W.heap.size, 0, none⟩)), hG.le_put _, hG.newObj (v := .iter s 0) (o := .stringIter s 0) ⟨rfl, rfl⟩, by simp [execOp, ho, Instr.range, run_underlying (TOk.und (P := P) hu), e], R_new vs _ _ _ _⟩

/- One step of it: the bytes from a place on. -/
def vnext (vs : VS) (it : Value) : Option (VN × VS) :=
  match it with
  | .pointer (some ⟨r, 0, none⟩) => match findO vs.objs r with
    | some ⟨.iter s p, rw⟩ => bif rw then
        bif Nat.ble s.size p then some (.value (.tuple #[.bool false]), vs)
        else match Utf8.decode s p with
          | (c, w) => some (.value (.tuple #[.bool true, goInt p, .int .i32 c]), vset vs r (.iter s (p + w)))
      else none
    | _ => none
  | _ => none
theorem sound_next {x : Operand} (ho : o.op = .next x true) (h : vnext vs (ρ x) = some (n, vs1)) : SoundM P vs ρ o n vs1 := by
  intro N0 W0 W μ ρ' hG hρ
  have h1 := hρ x (by simp [ho, Op.operands])
  unfold vnext at h
  split at h
  case h_2 => cases h
  rename_i r hx
  rw [hx] at h1
  obtain ⟨l, hl, e⟩ := h1.inv_ptr
  split at h
  case h_2 => cases h
  rename_i s p rw hf
  simp only [Bool.cond_eq_ite] at h
  split at h
  case isFalse => cases h
  rename_i hrw
  obtain ⟨ob, q0, q1, _, hoff⟩ := hG.obj hf hl
  have := q1.inv_iter
  subst this
  have hgo : (getObj l.blk).run P W = .ok (.stringIter s p) W := by simp [getObj, Sem.run, q0]
  have hso : ∀ o : Obj, (setObj l.blk o).run P W = .ok () { W with heap := W.heap.setIfInBounds l.blk o } := fun o => by simp [setObj, Sem.run, q0]
  have ex : ρ' x = .pointer (some ⟨l.blk, 0, none⟩) := by rw [e]; simp [amap, hoff]
  split at h
  · rename_i hle
    cases h
    have hle := Nat.le_of_ble_eq_true hle
    have hlt : ¬ p < s.size := by omega
    have hr := RA.one (R.bool (μ := μ) false)
    exact ⟨μ, W, .value (.tuple #[.bool false]), Mu.le_refl _, hG, by simp [execOp, ho, ex, Instr.next, hgo, hlt], .tuple _ _ hr.1 hr.2⟩
  · rename_i hle
    have hlt : p < s.size := by
      rcases Nat.lt_or_ge p s.size with h | h
      · exact h
      · exact absurd (by rw [Nat.ble_eq]; exact h) hle
    cases h
    refine ⟨μ, _, .value (.tuple #[.bool true, goInt p, .int .i32 (Utf8.decode s p).1]), Mu.le_refl _, hG.setObj hf hrw hl (v := .iter s (p + (Utf8.decode s p).2)) (o := .stringIter s (p + (Utf8.decode s p).2)) ⟨rfl, rfl⟩, ?_, ?_⟩
    · simp [execOp, ho, ex, Instr.next, hgo, hlt, hso]
    · exact plain_self μ _ rfl

end Go.Ev
