/-
  The evaluator on regions that draw their order: whatever order comes.
-/
import Derived.Test.YtahblmcjocepeaaDoorGe
import Derived.Scope
import Derived.Control
import Derived.Recover
namespace Go.Ev
open Go.RowKit
variable [Base]

variable {P : Program} {T : TE} [TOk P T] {N0 : Nat → Prop} {W0 W : World} {vs : VS} {μ : Mu}

/- Which temporaries an operation reads. -/
def readsTmp (ops : List Oper) (o : Oper) (d : Nat) : Bool :=
  o.op.operands.toList.any (fun x => match x with | .tmp t => Nat.beq t d | _ => false) ||
  (match o.guard with
    | some (j, _) => match dstOf ops j with
      | some t => Nat.beq t d
      | none => false
    | none => false)
def isDst (o : Oper) (d : Nat) : Bool :=
  match o.dst with
  | some e => Nat.beq e d
  | none => false
def dataOk (md : Region.Mode) (ops : Array Oper) (n : Nat) : Bool :=
  (List.range n).all fun i => match ops[i]? with
    | none => false
    | some oi => match oi.dst with
      | none => true
      | some d => (List.range n).all fun j => match ops[j]? with
        | some oj => (!(readsTmp ops.toList oj d) || (Nat.blt i j && reach md ops n j i)) && (Nat.beq i j || !(isDst oj d))
        | none => false


section
variable {ops : Array Oper} {md : Region.Mode} {n : Nat}
structure DataP (md : Region.Mode) (ops : Array Oper) (n : Nat) : Prop where
  uniq : ∀ i j oi oj d, i < n → j < n → ops[i]? = some oi → ops[j]? = some oj → isDst oi d = true → isDst oj d = true → i = j
  reads : ∀ i j oi oj d, i < n → j < n → ops[i]? = some oi → ops[j]? = some oj → isDst oi d = true → readsTmp ops.toList oj d = true → i < j ∧ reach md ops n j i = true
omit [Base] in
theorem isDst_eq {o : Oper} {d : Nat} : isDst o d = true ↔ o.dst = some d := by
  unfold isDst
  cases o.dst <;> simp
omit [Base] in
theorem dataP (h : dataOk md ops n = true) : DataP md ops n := by
  simp only [dataOk, List.all_eq_true, List.mem_range] at h
  have key : ∀ i j oi oj d, i < n → j < n → ops[i]? = some oi → ops[j]? = some oj → isDst oi d = true → ((!(readsTmp ops.toList oj d) || (Nat.blt i j && reach md ops n j i)) && (Nat.beq i j || !(isDst oj d))) = true := by
    intro i j oi oj d hi hj hoi hoj hd
    have h1 := h i hi
    rw [hoi] at h1
    simp only at h1
    rw [isDst_eq.1 hd] at h1
    simp only [List.all_eq_true, List.mem_range] at h1
    have h2 := h1 j hj
    rw [hoj] at h2
    exact h2
  refine ⟨fun i j oi oj d hi hj hoi hoj hd hd' => ?_, fun i j oi oj d hi hj hoi hoj hd hr => ?_⟩
  · have := key i j oi oj d hi hj hoi hoj hd
    simp only [Bool.and_eq_true, Bool.or_eq_true, Bool.not_eq_true', Nat.beq_eq] at this
    exact this.2.resolve_right (by rw [hd']; simp)
  · have := key i j oi oj d hi hj hoi hoj hd
    simp only [Bool.and_eq_true, Bool.or_eq_true, Bool.not_eq_true', Nat.blt_eq] at this
    exact this.1.resolve_left (by rw [hr]; simp)

/- The temporaries when these operations have come up. -/
def srcOf (ops : Array Oper) (n d : Nat) : Option Nat := (List.range n).find? fun i => match ops[i]? with
  | some o => isDst o d
  | none => false
omit [Base] in
theorem srcOf_some {d i : Nat} (h : srcOf ops n d = some i) : i < n ∧ ∃ oi, ops[i]? = some oi ∧ isDst oi d = true := by
  have h1 := List.find?_some h
  have h2 := List.mem_of_find?_eq_some h
  refine ⟨List.mem_range.1 h2, ?_⟩
  split at h1
  · rename_i o ho; exact ⟨o, ho, h1⟩
  · cases h1
omit [Base] in
theorem srcOf_eq (hD : DataP md ops n) {d i : Nat} {oi : Oper} (hi : i < n) (ho : ops[i]? = some oi) (hd : isDst oi d = true) : srcOf ops n d = some i := by
  cases h : srcOf ops n d with
  | none =>
    have := List.find?_eq_none.1 h i (List.mem_range.2 hi)
    rw [ho] at this
    exact absurd hd this
  | some k =>
    obtain ⟨hk, ok, hok, hdk⟩ := srcOf_some h
    rw [hD.uniq k i ok oi d hk hi hok ho hdk hd]
def tL (ops : Array Oper) (n : Nat) (t0 : List Value) (val : Nat → Value) (f : Nat → Bool) : List Value :=
  t0.mapIdx fun d x => match srcOf ops n d with
    | some i => if f i = true then val i else x
    | none => x
omit [Base] in
theorem tL_get {t0 : List Value} {val : Nat → Value} {f : Nat → Bool} (d : Nat) : (tL ops n t0 val f)[d]? = (t0[d]?).map fun x => match srcOf ops n d with
    | some i => if f i = true then val i else x
    | none => x := by simp [tL]
omit [Base] in
theorem tL_add (hD : DataP md ops n) {t0 : List Value} {val : Nat → Value} {f g : Nat → Bool} {i : Nat} {o : Oper} (hi : i < n) (ho : ops[i]? = some o) (hg : ∀ j, j ≠ i → g j = f j) (hgi : g i = true) : tL ops n t0 val g = vput (tL ops n t0 val f) o.dst (val i) := by
  have other : ∀ d, isDst o d = false → (tL ops n t0 val g)[d]? = (tL ops n t0 val f)[d]? := fun d hd => by
    rw [tL_get, tL_get]
    cases hs : srcOf ops n d with
    | none => rfl
    | some k =>
      obtain ⟨_, ok, hok, hdk⟩ := srcOf_some hs
      have hne : k ≠ i := fun e => by
        subst e
        rw [ho] at hok; cases hok
        rw [hd] at hdk; cases hdk
      simp only [hg k hne]
  cases hdst : o.dst with
  | none =>
    simp only [vput]
    exact List.ext_getElem? fun d => other d (by unfold isDst; rw [hdst])
  | some d0 =>
    simp only [vput, lset_eq]
    apply List.ext_getElem?
    intro d
    rw [List.getElem?_set]
    by_cases hd : d0 = d
    · subst hd
      rw [if_pos rfl, tL_get, srcOf_eq hD hi ho (isDst_eq.2 hdst)]
      simp only [hgi, if_true]
      have hlen : (tL ops n t0 val f).length = t0.length := by simp [tL]
      rw [hlen]
      split
      · rename_i h; simp [h]
      · rename_i h; simp [h]
    · rw [if_neg hd]
      exact other d (by
        cases h : isDst o d with
        | false => rfl
        | true => rw [isDst_eq.1 h] at hdst; cases hdst; exact absurd rfl hd)
omit [Base] in
theorem tL_none {t0 : List Value} {val : Nat → Value} {f : Nat → Bool} (h : ∀ i, i < n → f i = false) : tL ops n t0 val f = t0 := by
  apply List.ext_getElem?
  intro d
  rw [tL_get]
  cases hs : srcOf ops n d with
  | none => simp
  | some k =>
    have := h k (srcOf_some hs).1
    simp [this]

def cntF : Nat → (Nat → Bool) → Nat
  | 0, _ => 0
  | k + 1, f => cntF k f + (if f k = true then 0 else 1)
omit [Base] in
theorem cntF_same : ∀ (k : Nat) (f g : Nat → Bool), (∀ j, j < k → g j = f j) → cntF k g = cntF k f
  | 0, _, _, _ => rfl
  | k + 1, f, g, h => by simp only [cntF, h k (by omega), cntF_same k f g fun j hj => h j (by omega)]
omit [Base] in
theorem cntF_set : ∀ (k i : Nat) (f g : Nat → Bool), i < k → f i = false → g i = true → (∀ j, j ≠ i → g j = f j) → cntF k g + 1 = cntF k f
  | k + 1, i, f, g, hi, hf, hg, h => by
    simp only [cntF]
    by_cases e : i = k
    · subst e
      rw [cntF_same i f g fun j hj => h j (by omega), hf, hg]
      simp
    · have := cntF_set k i f g (by omega) hf hg h
      rw [h k (Ne.symm e)]
      omega
omit [Base] in
theorem cntF_zero : ∀ (k : Nat) (f : Nat → Bool), cntF k f = 0 → ∀ i, i < k → f i = true
  | k + 1, f, h, i, hi => by
    simp only [cntF] at h
    have h1 : cntF k f = 0 := by omega
    have h2 : ¬ (if f k = true then 0 else 1) = 1 := by omega
    by_cases e : i = k
    · subst e
      by_cases hf : f i = true
      · exact hf
      · simp [hf] at h2
    · exact cntF_zero k f h1 i (by omega)
omit [Base] in
theorem cntF_pos : ∀ (k : Nat) (f : Nat → Bool), 0 < cntF k f → ∃ i, i < k ∧ f i = false
  | k + 1, f, h => by
    simp only [cntF] at h
    by_cases hf : f k = true
    · simp only [hf, if_true] at h
      obtain ⟨i, hi, h2⟩ := cntF_pos k f (by omega)
      exact ⟨i, by omega, h2⟩
    · exact ⟨k, by omega, by simpa using hf⟩
omit [Base] in
theorem least {f : Nat → Bool} : ∀ (i : Nat), f i = false → ∃ k, k ≤ i ∧ f k = false ∧ ∀ j, j < k → f j = true := by
  intro i
  induction i using Nat.strongRecOn with
  | _ i ih =>
    intro h
    by_cases hall : ∀ j, j < i → f j = true
    · exact ⟨i, Nat.le_refl _, h, hall⟩
    · simp only [Classical.not_forall, Bool.not_eq_true] at hall
      obtain ⟨j, hj, hf⟩ := hall
      obtain ⟨k, hk, h1, h2⟩ := ih j hj hf
      exact ⟨k, by omega, h1, h2⟩

omit [Base] in
theorem lexHead_spec {g : Nat} : ∀ (f k : Nat) (listed : Array Bool), listed.size = ops.size → (∀ i, listed.getD i false = true ↔ i < k) → Region.lexHead md ops g f k listed = true →
    (∀ j, k ≤ j → j < k + f → ∀ oj, ops[j]? = some oj → ∀ e ∈ oj.after, Region.binds md e = true → e.on < j) ∧ ∃ L : Array Bool, L.size = ops.size ∧ (∀ i, L.getD i false = true ↔ i < k + f) ∧ Region.seqB md ops g (k + f) L = true
  | 0, k, listed, hsz, hl, h => by
    simp only [Region.lexHead] at h
    exact ⟨fun j h1 h2 => by omega, listed, hsz, hl, h⟩
  | f + 1, k, listed, hsz, hl, h => by
    simp only [Region.lexHead, Bool.and_eq_true] at h
    obtain ⟨⟨hr, _⟩, h⟩ := h
    have hr : k ∈ Region.ready md ops listed := by simpa using hr
    obtain ⟨_, ok, hok, hall⟩ := mem_ready.1 hr
    have hk : k < listed.size := by rw [hsz]; exact (Array.getElem?_eq_some_iff.1 hok).1
    have hl' : ∀ i, (listed.setIfInBounds k true).getD i false = true ↔ i < k + 1 := fun i => by
      by_cases hik : k = i
      · subst hik; simp [hk]
      · rw [getD_set_ne false hik, hl i]; omega
    obtain ⟨h1, L, h2, h3, h4⟩ := lexHead_spec f (k + 1) _ (by simp [hsz]) hl' h
    have e : k + 1 + f = k + (f + 1) := by omega
    rw [e] at h3 h4
    refine ⟨fun j hj1 hj2 oj hoj e' he hb => ?_, L, h2, h3, h4⟩
    by_cases hjk : j = k
    · subst hjk
      rw [hok] at hoj; cases hoj
      exact (hl _).1 (hall e' he hb)
    · exact h1 j (by omega) (by omega) oj hoj e' he hb


omit [Base] in
theorem tL_congr {t0 : List Value} {val : Nat → Value} {f g : Nat → Bool} (h : ∀ i, i < n → f i = g i) : tL ops n t0 val f = tL ops n t0 val g := by
  apply List.ext_getElem?
  intro d
  rw [tL_get, tL_get]
  cases hs : srcOf ops n d with
  | none => rfl
  | some k => simp only [h k (srcOf_some hs).1]

variable {op : OpE} {qt : QtE} {fx : FX} {call : CallE} {rs : RS} {all : List VS} {t0 : List Value} {val : Nat → Value} {tt : Nat → List Value} {fd : Pend} {d0 : List VD} {ng : Nat} {Q' : Exit → Act → World → Prop}

omit [Base] in
theorem readsTmp_lget {t t' : List Value} {o : Oper} (h : ∀ d, readsTmp ops.toList o d = true → lget t d = lget t' d) : (∀ x ∈ o.op.operands, vev t x = vev t' x) ∧ vwanted ops.toList t o = vwanted ops.toList t' o := by
  constructor
  · intro x hx
    cases x with
    | tmp d =>
      refine h d ?_
      simp only [readsTmp, Bool.or_eq_true]
      left
      exact List.any_eq_true.2 ⟨.tmp d, by simpa using hx, by simp⟩
    | _ => rfl
  · unfold vwanted
    cases hg : o.guard with
    | none => rfl
    | some g =>
      obtain ⟨j, want⟩ := g
      simp only
      cases hd : dstOf ops.toList j with
      | none => rfl
      | some d =>
        have := h d (by simp only [readsTmp, hg, hd, Bool.or_eq_true]; right; simp)
        simp only [this]


/- The row of constants is there when the append has come up. -/
def lf (rs : RS) (g : Nat → Bool) (i : Nat) : Bool :=
  match rs.flt with
  | some (f, e) => if i = f then g f && g e else g i
  | none => g i
def pendB (rs : RS) (g : Nat → Bool) : Bool :=
  match rs.flt with
  | some (f, e) => g f && !(g e)
  | none => false
abbrev gl (listed : Array Bool) : Nat → Bool := fun i => listed.getD i false
def FL (rs : RS) (fd : Pend) (s : VS) (ν : Mu) (listed : Array Bool) (a0 a : Act) (w : World) : Prop :=
  if pendB rs (gl listed) = true then ∃ b el z, w.heap[b]? = some (.cells fd.2.1.toArray el z) ∧ (∀ id B, (id, B) ∈ s.heap → (B.rw || B.tail) = true → ∀ l, ν id = some l → l.blk ≠ b) ∧ a = a0.put (some fd.1) (rowV b fd.2.2)
  else a = a0

structure HI (P : Program) (N0 : Nat → Prop) (W0 : World) (μ : Mu) (md : Region.Mode) (ops : Array Oper) (rs : RS) (all : List VS) (t0 : List Value) (val : Nat → Value) (fd : Pend) (d0 : List VD) (listed : Array Bool) (p : Nat) (a : Act) (w : World) : Prop where
  ph : PhInv md ops rs listed p
  mem : ∃ s ν a0, all[p]? = some s ∧ μ.le ν ∧ G N0 W0 s w ν ∧ RA ν (tL ops rs.n t0 val (lf rs (gl listed))).toArray a0.tmps ∧ DR ν d0 a0.defers ∧ FL rs fd s ν listed a0 a w

/- What is asked of the single operations. -/
structure FxRun (P : Program) (fx : FX) : Prop where
  flt : ∀ o cs k, fx.flt o = some (cs, k) → ∃ el, ∀ (a : Act) (w : World), (execOp a.eval o).run P w = .ok (.value (rowV w.heap.size k)) (w.alloc (.cells cs.toArray el))
  apc : ∀ vs ρ o k cs v vs1, fx.apc vs ρ o k cs = some (v, vs1) → ∀ (N0 : Nat → Prop) (W0 W : World) (μ : Mu) (ρ' : Operand → Value) (z : Nat) (l : Loc) el zz, z + 1 = vs.next → G N0 W0 vs W μ → (∀ x ∈ o.op.operands, R μ (ρ x) (ρ' x)) →
    μ z = some l → l.off = 0 → W.heap[l.blk]? = some (.cells cs.toArray el zz) → ∃ μ1 W1 n', μ.le μ1 ∧ G N0 W0 vs1 W1 μ1 ∧ (execOp ρ' o).run P W = .ok n' W1 ∧ RN μ1 (.value v) n'

/- One block more that stays. -/
theorem G.protect {s : VS} {w : World} {ν : Mu} (h : G N0 W0 s w ν) {b : Nat} {c : Array Value} {el : TypeId} {z : Nat × Nat} (hc : w.heap[b]? = some (.cells c el z)) (hb : ∀ id B, (id, B) ∈ s.heap → (B.rw || B.tail) = true → ∀ l, ν id = some l → l.blk ≠ b) :
    G (fun k => N0 k ∨ k = b) w s w ν := by
  refine ⟨Kept.refl _ _, fun k hk => hk.elim (h.start k) (fun e => e ▸ (Array.getElem?_eq_some_iff.1 hc).1), h.fresh, h.globs, h.glo, ?_, h.apart, ⟨?_, h.objs.apart⟩, Base.keep h.below (fun _ hk => .inl hk) h.base⟩
  · intro id B hm
    obtain ⟨l, c', z', h1, L⟩ := h.blocks id B hm
    exact ⟨l, c', z', h1, ⟨L.at_, fun hr => ⟨(L.own hr).1, fun hk => hk.elim (L.own hr).2 (hb id B hm (by rw [hr]; rfl) l h1)⟩, L.len, L.esz, L.room, L.fixed, L.whole, fun hr => ⟨(L.tail hr).1, fun hk => hk.elim (L.tail hr).2 (hb id B hm (by rw [hr, Bool.or_true]) l h1)⟩, L.cells⟩⟩
  · intro id O hm
    obtain ⟨l, o, h1, h2, h3, h4, h5⟩ := h.objs.at_ id O hm
    refine ⟨l, o, h1, h2, h3, fun hr hk => hk.elim (h4 hr) (fun e => ?_), h5⟩
    rw [e, hc] at h2
    cases h2
    exact absurd h3.nc (by simp [notCells])
theorem G.unprotect {s s' : VS} {w w' : World} {ν ν' : Mu} {b : Nat} (h : G N0 W0 s w ν) (h1 : G (fun k => N0 k ∨ k = b) w s' w' ν') : G N0 W0 s' w' ν' :=
  ⟨h.below.trans (h1.below.mono fun _ hk => .inl hk), fun k hk => h1.start k (.inl hk), h1.fresh, h1.globs, h1.glo,
    fun id B hm => let ⟨l, c, z, q1, L⟩ := h1.blocks id B hm; ⟨l, c, z, q1, ⟨L.at_, fun hr => ⟨(L.own hr).1, fun hk => (L.own hr).2 (.inl hk)⟩, L.len, L.esz, L.room, L.fixed, L.whole, fun hr => ⟨(L.tail hr).1, fun hk => (L.tail hr).2 (.inl hk)⟩, L.cells⟩⟩, h1.apart,
    ⟨fun id O hm => let ⟨l, o, q1, q2, q3, q4, q5⟩ := h1.objs.at_ id O hm; ⟨l, o, q1, q2, q3, fun hr hk => q4 hr (.inl hk), q5⟩, h1.objs.apart⟩, h.base⟩
/- A block that the evaluator speaks of, and does not hold. -/
theorem G.bump {s : VS} {w : World} {ν : Mu} (h : G N0 W0 s w ν) {b : Nat} (hb : b < w.heap.size) : G N0 W0 s.bump w (ν.put s.next ⟨b, 0, 0, 1, 0⟩) := by
  have hn : ν s.next = none := h.fresh _ (Nat.le_refl _)
  have hle := Mu.put_le hn ⟨b, 0, 0, 1, 0⟩
  refine ⟨h.below, h.start, ?_, ?_, fun g hg => let ⟨m, h1, h2⟩ := h.glo g hg; ⟨m, hle _ _ h1, h2⟩, ?_, ?_, h.objs.up hle, h.base⟩
  · intro a ha
    simp only [VS.bump] at ha
    have : a ≠ s.next := by omega
    simp [Mu.put, this, h.fresh a (by omega)]
  · intro g l hg
    unfold Mu.put at hg
    split at hg
    · cases hg; exact hb
    · exact h.globs _ _ hg
  · intro id B hm
    obtain ⟨l, c, z, h1, L⟩ := h.blocks id B hm
    exact ⟨l, c, z, hle _ _ h1, L.mono hle⟩
  · intro id B id' B' hm hm' hf l l' q q'
    obtain ⟨m, _, _, q1, _⟩ := h.blocks id B hm
    obtain ⟨m', _, _, q1', _⟩ := h.blocks id' B' hm'
    rw [hle _ _ q1] at q; rw [hle _ _ q1'] at q'; cases q; cases q'
    exact h.apart id B id' B' hm hm' hf _ _ q1 q1'

omit [Base] in
theorem put_eval_ne {a : Act} {d : Nat} {v : Value} {x : Operand} (h : x ≠ .tmp d) : (a.put (some d) v).eval x = a.eval x := by
  cases x with
  | tmp t =>
    have hne : d ≠ t := fun e => h (by rw [e])
    simp [Act.put, Act.eval, Array.getD_eq_getD_getElem?, hne]
  | _ => rfl
omit [Base] in
theorem put_wanted_ne {a : Act} {o : Oper} {d : Nat} {v : Value} (h : readsTmp ops.toList o d = false) : Region.wanted o (yielded ops (a.put (some d) v).tmps) = Region.wanted o (yielded ops a.tmps) := by
  unfold Region.wanted
  cases hg : o.guard with
  | none => rfl
  | some g =>
    obtain ⟨j, want⟩ := g
    simp only [yielded]
    cases hd : (ops[j]?).bind (·.dst) with
    | none => rfl
    | some t =>
      have hne : d ≠ t := fun e => by
        have : readsTmp ops.toList o d = true := by
          simp only [readsTmp, hg, dstOf_eq, Array.getElem?_toList, hd, Bool.or_eq_true]
          right; simp [e]
        rw [h] at this; cases this
      simp [Act.put, Array.getElem?_setIfInBounds, hne]

def fltOk (md : Region.Mode) (ops : Array Oper) (rs : RS) : Bool :=
  match rs.flt with
  | none => true
  | some (f, e) => Nat.blt f e && Nat.blt e rs.n && reach md ops rs.n e f && match ops[f]? with
    | some o => match o.dst with
      | some d => (List.range rs.n).all fun j => match ops[j]? with
        | some oj => !(readsTmp ops.toList oj d) || Nat.beq j e || (Nat.blt e j && reach md ops rs.n j e)
        | none => false
      | none => false
    | none => false
omit [Base] in
theorem fltOk_spec (h : fltOk md ops rs = true) {f e : Nat} (hf : rs.flt = some (f, e)) : f < e ∧ e < rs.n ∧ reach md ops rs.n e f = true ∧ ∀ o d j oj, ops[f]? = some o → o.dst = some d → j < rs.n → ops[j]? = some oj → readsTmp ops.toList oj d = true → j = e ∨ (e < j ∧ reach md ops rs.n j e = true) := by
  unfold fltOk at h
  rw [hf] at h
  simp only [Bool.and_eq_true, Nat.blt_eq] at h
  obtain ⟨⟨⟨h1, h2⟩, h3⟩, h4⟩ := h
  refine ⟨h1, h2, h3, fun o d j oj ho hd hj hoj hr => ?_⟩
  rw [ho] at h4
  simp only at h4
  rw [hd] at h4
  simp only [List.all_eq_true, List.mem_range] at h4
  have := h4 j hj
  rw [hoj] at this
  simp only [Bool.or_eq_true, Bool.not_eq_true', Nat.beq_eq, Bool.and_eq_true, Nat.blt_eq] at this
  rcases this with (h | h) | h
  · rw [hr] at h; cases h
  · exact .inl h
  · exact .inr h

omit [Base] in
theorem readsTmp_iff {o : Oper} {d : Nat} (h : readsTmp ops.toList o d = false) : ∀ x ∈ o.op.operands, x ≠ .tmp d := fun x hx e => by
  have : readsTmp ops.toList o d = true := by
    simp only [readsTmp, Bool.or_eq_true]
    left
    exact List.any_eq_true.2 ⟨x, by simpa using hx, by rw [e]; simp⟩
  rw [h] at this; cases this
omit [Base] in
theorem lget_put_same {t t' : List Value} {d : Nat} {r : Value} (hl : t.length = t'.length) (d' : Nat) (h : d' ≠ d → lget t d' = lget t' d') : lget (vput t (some d) r) d' = lget (vput t' (some d) r) d' := by
  simp only [vput, lset_eq, lget_eq, List.getElem?_set]
  by_cases e : d = d'
  · subst e
    simp only [if_true, hl]
  · simp only [if_neg e]
    have := h (Ne.symm e)
    simpa [lget_eq] using this
omit [Base] in
theorem tL_len {f : Nat → Bool} : (tL ops n t0 val f).length = t0.length := by simp [tL]
omit [Base] in
theorem lf_mono {rs : RS} {g : Nat → Bool} {i : Nat} (h : lf rs g i = true) : g i = true := by
  unfold lf at h
  split at h
  · split at h
    · rename_i f e he; simp only [Bool.and_eq_true] at h; rw [he]; exact h.1
    · exact h
  · exact h

theorem norm_run (hop : ∀ vs ρ o n vs1, op vs ρ o = some (n, vs1) → SoundM P vs ρ o n vs1) (hqt : ∀ vs ρ o n, qt vs ρ o = some n → Sound P vs ρ o n) (hcall : CallOK P call) {i p q : Nat} {o : Oper} {t : List Value} {v : Value} {s : VS}
    (hL : LexAt op qt call ops.toList rs all i o t v) (hpq : prOf rs i p q) (hs : all[p]? = some s) {w : World} {ν : Mu} (hG : G N0 W0 s w ν) {a0 : Act} (hrel : ∀ x ∈ o.op.operands, R ν (vev t x) (a0.eval x)) :
    (vwanted ops.toList t o = true ∧ uponB P (fun u w' => ∃ s' ν', all[q]? = some s' ∧ ν.le ν' ∧ R ν' v u ∧ G N0 W0 s' w' ν') ((execOp a0.eval o).run P w)) ∨ (vwanted ops.toList t o = false ∧ v = undef ∧ all[q]? = some s) := by
  have mono : ∀ {B B' : Value → World → Prop} {r : Result Next}, (∀ u w, B u w → B' u w) → uponB P B r → uponB P B' r := by
    intro B B' r hb h
    cases r with
    | ok n w' =>
      cases n <;> simp only [uponB] at h ⊢
      case value u => exact hb _ _ h
      case skip => exact hb _ _ h
      case enter f args => exact h.mono fun e w'' ⟨u, h1, h2⟩ => ⟨u, h1, hb _ _ h2⟩
    | halt x w' => simp only [uponB] at h
  rcases hL p q hpq s hs with ⟨hw, ⟨s', h1, h2⟩ | ⟨rfl, h2⟩⟩ | ⟨hw, hv, h1⟩
  · exact .inl ⟨hw, mono (fun u w' ⟨ν', q1, q2, q3⟩ => ⟨s', ν', h1, q1, q2, q3⟩) (eval1_run hop hcall h2 hG hrel)⟩
  · exact .inl ⟨hw, mono (fun u w' ⟨q1, q2⟩ => ⟨s, ν, hs, Mu.le_refl _, q1, q2⟩) (qval_run hqt hcall h2 hG hrel)⟩
  · exact .inr ⟨hw, hv, h1⟩

theorem head_step (hD : DataP md ops rs.n) (hstep : ∀ listed p i, PhInv md ops rs listed p → i ∈ Region.ready md ops listed → i < rs.n → ∃ q, prOf rs i p q ∧ PhInv md ops rs (listed.setIfInBounds i true) q)
    (hop : ∀ vs ρ o n vs1, op vs ρ o = some (n, vs1) → SoundM P vs ρ o n vs1) (hqt : ∀ vs ρ o n, qt vs ρ o = some n → Sound P vs ρ o n) (hcall : CallOK P call) (hX : FxRun P fx) (hng : ∀ s ∈ all, s.ng = ng)
    (hok : ∀ i o, i < rs.n → ops[i]? = some o → ∀ x ∈ o.op.operands, okOperand ng x = true) (hsel : ∀ (j : Nat) (o : Oper) cs b, ops[j]? = some o → o.op ≠ .select cs b) (hfl : fltOk md ops rs = true)
    (htt : ∀ j, j ≤ rs.n → tt j = tL ops rs.n t0 val (lf rs (fun i => decide (i < j))))
    (hlex : ∀ i o, i < rs.n → ops[i]? = some o → Step op qt fx call ops.toList rs all val tt fd i o)
    {listed : Array Bool} {p i : Nat} {a : Act} {w : World} (hI : HI P N0 W0 μ md ops rs all t0 val fd d0 listed p a w) (hr : i ∈ Region.ready md ops listed) (hin : i < rs.n)
    {K : Act → World → Prop} (hK : ∀ q a' w', HI P N0 W0 μ md ops rs all t0 val fd d0 (listed.setIfInBounds i true) q a' w' → K a' w') : wpOp P ops Q' i K a w := by
  obtain ⟨q, hpq, hph⟩ := hstep listed p i hI.ph hr hin
  obtain ⟨s, ν, a0, hs, hle, hG, hRA, hDR, hFL⟩ := hI.mem
  have hun := getD_both (mem_ready.1 hr).1
  obtain ⟨_, o, ho, hdeps⟩ := mem_ready.1 hr
  have hsng : s.ng = ng := hng s (List.mem_of_getElem? hs)
  have hcl := hI.ph.head.closed
  have hsz : i < listed.size := by rw [hI.ph.head.size]; exact (Array.getElem?_eq_some_iff.1 ho).1
  have hset : ∀ j, j ≠ i → gl (listed.setIfInBounds i true) j = gl listed j := fun j hj => getD_set_ne false (Ne.symm hj)
  have hseti : gl (listed.setIfInBounds i true) i = true := by simp [gl, hsz]
  -- what is read has come up
  have hagree : ∀ d, (∀ f e of, rs.flt = some (f, e) → ops[f]? = some of → isDst of d = true → False) → readsTmp ops.toList o d = true → lget (tt i) d = lget (tL ops rs.n t0 val (lf rs (gl listed))) d := fun d hnf hd => by
    rw [lget_eq, lget_eq, htt i (by omega), tL_get, tL_get]
    cases hsrc : srcOf ops rs.n d with
    | none => rfl
    | some k =>
      obtain ⟨hk, ok, hok', hdk⟩ := srcOf_some hsrc
      obtain ⟨h1, h2⟩ := hD.reads k i ok o d hk hin hok' ho hdk hd
      have hl := reach_ready hcl h2 hr
      have e1 : lf rs (fun i_1 => decide (i_1 < i)) k = true := by
        unfold lf
        split
        · rename_i f e he
          split
          · rename_i hkf; exact (hnf f e ok he (by rw [← hkf]; exact hok') hdk).elim
          · simp [h1]
        · simp [h1]
      have e2 : lf rs (gl listed) k = true := by
        unfold lf
        split
        · rename_i f e he
          split
          · rename_i hkf; exact (hnf f e ok he (by rw [← hkf]; exact hok') hdk).elim
          · exact hl
        · exact hl
      simp only [e1, e2]
  have hevL : ∀ x ∈ o.op.operands, R ν (vev (tL ops rs.n t0 val (lf rs (gl listed))) x) (a0.eval x) := fun x hx => ev_rel hG hRA (by rw [hsng]; exact hok i o hin ho x hx)
  unfold wpOp
  simp only [ho]
  rcases hlex i o hin ho with ⟨hf, hg, hfx, hdst, htr, _⟩ | ⟨hf, he, hg, f, hfe, hfi, hE, hE2⟩ | ⟨hf, he, hL, htt1⟩
  · -- the row of constants is made
    obtain ⟨e, hfe⟩ := isFst_eq hf
    obtain ⟨h1, h2, h3, h4⟩ := fltOk_spec hfl hfe
    have hqp : p = q := trLoop_mem htr hpq
    subst hqp
    have heu : gl listed e = false := by
      cases hb : gl listed e with
      | false => rfl
      | true =>
        have := reach_listed hcl rs.n e i h3 hb
        rw [hun] at this; cases this
    have hnp : pendB rs (gl listed) = false := by
      unfold pendB; rw [hfe]; simp only [gl] at hun ⊢; rw [hun]; rfl
    unfold FL at hFL
    rw [if_neg (by rw [hnp]; simp)] at hFL
    have hw : Region.wanted o (yielded ops a.tmps) = true := by unfold Region.wanted; rw [hg]
    rw [if_pos hw]
    left
    obtain ⟨el, hrun⟩ := hX.flt o _ _ hfx
    unfold Oper.wp
    rw [hrun]
    simp only [Oper.upon]
    have hne : i ≠ e := by omega
    refine hK p _ _ ⟨hph, s, ν, a0, hs, hle, hG.world (Kept.new _ _), ?_, hDR, ?_⟩
    · rw [tL_congr (f := lf rs (gl (listed.setIfInBounds i true))) (g := lf rs (gl listed)) fun k hk => ?_]
      · exact hRA
      · unfold lf
        rw [hfe]
        simp only
        split
        · rename_i hki
          rw [hset e (Ne.symm hne), heu, Bool.and_false, Bool.and_false]
        · rename_i hki; exact hset k hki
    · have hp : pendB rs (gl (listed.setIfInBounds i true)) = true := by
        unfold pendB; rw [hfe]; simp only; rw [hseti, hset e (Ne.symm hne), heu]; rfl
      unfold FL
      rw [if_pos hp]
      refine ⟨w.heap.size, el, (0, 0), ?_, fun id B hm _ l hl => ?_, by rw [hdst, hFL]⟩
      · show (w.heap.push _)[w.heap.size]? = _
        simp
      · have := hG.globs _ _ hl
        omega
  · -- the append takes it
    obtain ⟨h1, h2, h3, h4⟩ := fltOk_spec hfl hfe
    have hfl1 : gl listed f = true := reach_ready hcl h3 hr
    have hp : pendB rs (gl listed) = true := by unfold pendB; rw [hfe]; simp only [gl] at hun hfl1 ⊢; rw [hfl1, hun]; rfl
    unfold FL at hFL
    rw [if_pos hp] at hFL
    obtain ⟨b, el, zz, hcell, hbne, ha⟩ := hFL
    obtain ⟨s', hs', hrow, happ⟩ := hE p q hpq s hs
    have hw : Region.wanted o (yielded ops a.tmps) = true := by unfold Region.wanted; rw [hg]
    rw [if_pos hw]
    left
    have hfn : f < rs.n := by omega
    have hfo : ∃ of, ops[f]? = some of := by
      have : f < ops.size := by
        have := (Array.getElem?_eq_some_iff.1 ho).1
        omega
      exact ⟨ops[f], by simp [this]⟩
    obtain ⟨of, hof⟩ := hfo
    have hdf : of.dst = some fd.1 := by
      rcases hlex f of hfn hof with ⟨_, _, _, q1, _⟩ | ⟨q1, _⟩ | ⟨q1, _⟩
      · exact q1
      · rw [hfe] at q1; simp [isFst] at q1
      · rw [hfe] at q1; simp [isFst] at q1
    have hbs : b < w.heap.size := (Array.getElem?_eq_some_iff.1 hcell).1
    have hG' := hG.bump hbs
    have hle' : ν.le (ν.put s.next ⟨b, 0, 0, 1, 0⟩) := Mu.put_le (hG.fresh _ (Nat.le_refl _)) _
    have hrr : R (ν.put s.next ⟨b, 0, 0, 1, 0⟩) (val f) (rowV b fd.2.2) := by
      rw [hrow]
      have := R.slice (μ := ν.put s.next ⟨b, 0, 0, 1, 0⟩) ⟨s.next, 0, none⟩ ⟨b, 0, 0, 1, 0⟩ fd.2.2 fd.2.2 (Mu.put_self _ _ _) (.inl rfl)
      simpa [amap, rowV] using this
    have hRA' : RA (ν.put s.next ⟨b, 0, 0, 1, 0⟩) (vput (tL ops rs.n t0 val (lf rs (gl listed))) (some fd.1) (val f)).toArray a.tmps := by
      rw [ha]; exact put_rel (hRA.mono hle') hrr (some fd.1)
    have hlen : (tt i).length = (tL ops rs.n t0 val (lf rs (gl listed))).length := by rw [htt i (by omega), tL_len, tL_len]
    have hrel : ∀ x ∈ o.op.operands, R (ν.put s.next ⟨b, 0, 0, 1, 0⟩) (vev (vput (tt i) (some fd.1) (val f)) x) (a.eval x) := fun x hx => by
      have hbase := ev_rel (vs := s.bump) (a := a) hG' hRA' (x := x) (by
        have : s.bump.ng = ng := hsng
        rw [this]; exact hok i o hin ho x hx)
      cases x with
      | tmp d =>
        have e : lget (vput (tt i) (some fd.1) (val f)) d = lget (vput (tL ops rs.n t0 val (lf rs (gl listed))) (some fd.1) (val f)) d :=
          lget_put_same hlen d fun hne => hagree d (fun f' e' of' q1 q2 q3 => by
            rw [hfe] at q1
            simp only [Option.some.injEq, Prod.mk.injEq] at q1
            rw [← q1.1, hof] at q2
            cases q2
            rw [isDst_eq, hdf] at q3
            cases q3
            exact hne rfl) (by
              simp only [readsTmp, Bool.or_eq_true]
              left
              exact List.any_eq_true.2 ⟨.tmp d, by simpa using hx, by simp⟩)
        show R _ (lget (vput (tt i) (some fd.1) (val f)) d) _
        rw [e]; exact hbase
      | _ => exact hbase
    obtain ⟨ν1, w1, n', hle1, hG1, hrun, hn⟩ := hX.apc _ _ _ _ _ _ _ happ N0 W0 w _ a.eval s.next ⟨b, 0, 0, 1, 0⟩ el zz rfl hG' hrel (Mu.put_self _ _ _) rfl hcell
    cases n' <;> simp only [RN] at hn
    rename_i u
    unfold Oper.wp
    rw [hrun]
    simp only [Oper.upon]
    refine hK q _ _ ⟨hph, s', ν1, a.put o.dst u, hs', Mu.le_trans hle (Mu.le_trans hle' hle1), hG1, ?_, ?_, ?_⟩
    · have add1 := tL_add (val := val) (t0 := t0) (f := lf rs (gl listed)) (g := fun j => if j = f then true else lf rs (gl listed) j) hD hfn hof (fun j hj => by simp [hj]) (by simp)
      have add2 := tL_add (val := val) (t0 := t0) (f := fun j => if j = f then true else lf rs (gl listed) j) (g := lf rs (gl (listed.setIfInBounds i true))) hD hin ho (fun j hj => by
        unfold lf
        rw [hfe]
        simp only
        split
        · rename_i hjf
          rw [hset f (by omega), hfl1, hseti]; rfl
        · rename_i hjf; exact hset j hj) (by
        unfold lf
        rw [hfe]
        have : ¬ i = f := by omega
        simp only [if_neg this]
        exact hseti)
      rw [add2, add1, hdf]
      exact put_rel (hRA'.mono hle1) hn o.dst
    · rw [put_defers, ha, put_defers]; exact hDR.mono (Mu.le_trans hle' hle1)
    · have hp' : pendB rs (gl (listed.setIfInBounds i true)) = false := by unfold pendB; rw [hfe]; simp only; rw [hseti, Bool.not_true, Bool.and_false]
      unfold FL
      rw [if_neg (by rw [hp']; simp)]
  · -- all others
    have hnf : ∀ f e, rs.flt = some (f, e) → f ≠ i ∧ (e ≠ i) := fun f e hfe => by
      refine ⟨fun q => ?_, fun q => ?_⟩
      · rw [hfe, q] at hf; simp [isFst] at hf
      · obtain ⟨h1, _⟩ := fltOk_spec hfl hfe
        have : isSnd rs.flt i = true := by
          rw [hfe, q]
          simp only [isSnd, Bool.and_eq_true, Nat.blt_eq]
          exact ⟨Nat.beq_refl _, by omega⟩
        rw [he] at this; cases this
    have hlfset : ∀ j, j ≠ i → lf rs (gl (listed.setIfInBounds i true)) j = lf rs (gl listed) j := fun j hj => by
      unfold lf
      split
      · rename_i f e hfe
        obtain ⟨q1, q2⟩ := hnf f e hfe
        split
        · rename_i hjf; rw [hset f q1, hset e q2]
        · exact hset j hj
      · exact hset j hj
    have hlfi : lf rs (gl (listed.setIfInBounds i true)) i = true := by
      unfold lf
      split
      · rename_i f e hfe
        have : ¬ i = f := fun q => (hnf f e hfe).1 q.symm
        simp only [if_neg this]; exact hseti
      · exact hseti
    have hpset : pendB rs (gl (listed.setIfInBounds i true)) = pendB rs (gl listed) := by
      unfold pendB
      split
      · rename_i f e hfe
        obtain ⟨q1, q2⟩ := hnf f e hfe
        rw [hset f q1, hset e q2]
      · rfl
    have hadd := tL_add (val := val) (t0 := t0) (f := lf rs (gl listed)) (g := lf rs (gl (listed.setIfInBounds i true))) hD hin ho hlfset hlfi
    by_cases hp : pendB rs (gl listed) = true
    · -- while the row is there, and nobody has taken it
      unfold FL at hFL
      rw [if_pos hp] at hFL
      obtain ⟨b, el, zz, hcell, hbne, ha⟩ := hFL
      obtain ⟨f, e, hfe⟩ : ∃ f e, rs.flt = some (f, e) := by
        unfold pendB at hp
        split at hp
        · rename_i f e hfe; exact ⟨f, e, hfe⟩
        · cases hp
      obtain ⟨h1, h2, h3, h4⟩ := fltOk_spec hfl hfe
      have heu : gl listed e = false := by
        unfold pendB at hp
        rw [hfe] at hp
        simp only [Bool.and_eq_true, Bool.not_eq_true'] at hp
        exact hp.2
      have hfn : f < rs.n := by omega
      have hfo : ∃ of, ops[f]? = some of := by
        have h5 := hI.ph.head.size
        have h6 : f < listed.size := by
          unfold pendB at hp
          rw [hfe] at hp
          simp only [Bool.and_eq_true] at hp
          rcases Nat.lt_or_ge f listed.size with h | h
          · exact h
          · have := hp.1
            simp [gl, Array.getD_eq_getD_getElem?, Array.getElem?_eq_none h] at this
        exact ⟨ops[f]'(by omega), by simp⟩
      obtain ⟨of, hof⟩ := hfo
      have hdf : of.dst = some fd.1 := by
        rcases hlex f of hfn hof with ⟨_, _, _, q1, _⟩ | ⟨q1, _⟩ | ⟨q1, _⟩
        · exact q1
        · rw [hfe] at q1; simp [isFst] at q1
        · rw [hfe] at q1; simp [isFst] at q1
      have hnr : readsTmp ops.toList o fd.1 = false := by
        cases hb : readsTmp ops.toList o fd.1 with
        | false => rfl
        | true =>
          rcases h4 of fd.1 i o hof hdf hin ho hb with q1 | q1
          · exact absurd q1.symm (hnf f e hfe).2
          · have := reach_ready hcl q1.2 hr
            simp only [gl] at heu
            rw [heu] at this; cases this
      have hnd : o.dst ≠ some fd.1 := fun q1 => (hnf f e hfe).1 (hD.uniq f i of o fd.1 hfn hin hof ho (isDst_eq.2 hdf) (isDst_eq.2 q1))
      obtain ⟨hev, hwant⟩ := readsTmp_lget (ops := ops) (o := o) (t := tt i) (t' := tL ops rs.n t0 val (lf rs (gl listed))) (fun d hd => hagree d (fun f' e' of' q1 q2 q3 => by
        rw [hfe] at q1
        simp only [Option.some.injEq, Prod.mk.injEq] at q1
        rw [← q1.1, hof] at q2
        cases q2
        rw [isDst_eq, hdf] at q3
        cases q3
        rw [hnr] at hd; cases hd) hd)
      have hrel : ∀ x ∈ o.op.operands, R ν (vev (tt i) x) (a0.eval x) := fun x hx => by rw [hev x hx]; exact hevL x hx
      have hGp := hG.protect hcell hbne
      have hexec : execOp a.eval o = execOp a0.eval o := execOp_congr o (fun cs b => hsel i o cs b ho) (fun x hx => by rw [ha]; exact put_eval_ne (readsTmp_iff hnr x hx))
      have fin : ∀ u s' ν' w', all[q]? = some s' → ν.le ν' → R ν' (val i) u → G (fun k => N0 k ∨ k = b) w s' w' ν' → K (a.put o.dst u) w' := fun u s' ν' w' q1 q2 q3 q4 => by
        refine hK q _ _ ⟨hph, s', ν', a0.put o.dst u, q1, Mu.le_trans hle q2, hG.unprotect q4, ?_, ?_, ?_⟩
        · rw [hadd]; exact put_rel (hRA.mono q2) q3 o.dst
        · rw [put_defers]; exact hDR.mono q2
        · unfold FL
          rw [if_pos (by rw [hpset]; exact hp)]
          refine ⟨b, el, zz, by rw [q4.below.block b (.inr rfl)]; exact hcell, fun id B hm hrw l hl hb => ?_, ?_⟩
          · obtain ⟨l', c', z', r1, L⟩ := q4.blocks id B hm
            rw [hl] at r1; cases r1
            rcases Bool.or_eq_true_iff.1 hrw with q | q
            · exact (L.own q).2 (.inr hb)
            · exact (L.tail q).2 (.inr hb)
          · rw [ha]
            exact Act.put_comm a0 _ _ (fun d hd => by cases hd; exact hnd)
      have hwa : Region.wanted o (yielded ops a.tmps) = vwanted ops.toList (tt i) o := by
        rw [ha, put_wanted_ne hnr, wanted_rel hRA o, hwant]
      rcases norm_run hop hqt hcall hL hpq hs hGp hrel with ⟨hw, hup⟩ | ⟨hw, hv, hs'⟩
      · rw [if_pos (by rw [hwa]; exact hw)]
        left
        rw [← hexec] at hup
        exact wp_of_uponB hup fun u w' ⟨s', ν', r1, r2, r3, r4⟩ => fin u s' ν' w' r1 r2 r3 r4
      · rw [if_neg (by rw [hwa, hw]; simp)]
        exact fin undef s ν w hs' (Mu.le_refl _) (by rw [hv]; exact R_undef) hGp
    · simp only [Bool.not_eq_true] at hp
      unfold FL at hFL
      rw [if_neg (by rw [hp]; simp)] at hFL
      subst hFL
      -- who reads the row waits for the append
      have hnr : ∀ f e of d, rs.flt = some (f, e) → ops[f]? = some of → isDst of d = true → readsTmp ops.toList o d = true → gl listed f = true ∧ gl listed e = true := fun f e of d hfe hof hd hrd => by
        obtain ⟨h1, h2, h3, h4⟩ := fltOk_spec hfl hfe
        rcases h4 of d i o hof (isDst_eq.1 hd) hin ho hrd with q1 | q1
        · exact absurd q1.symm (hnf f e hfe).2
        · have he1 := reach_ready hcl q1.2 hr
          exact ⟨reach_listed hcl rs.n e f h3 he1, he1⟩
      have hagree2 : ∀ d, readsTmp ops.toList o d = true → lget (tt i) d = lget (tL ops rs.n t0 val (lf rs (gl listed))) d := fun d hd => by
        by_cases hex : ∃ f e of, rs.flt = some (f, e) ∧ ops[f]? = some of ∧ isDst of d = true
        · obtain ⟨f, e, of, hfe, hof, hdd⟩ := hex
          obtain ⟨g1, g2⟩ := hnr f e of d hfe hof hdd hd
          obtain ⟨h1, h2, h3, h4⟩ := fltOk_spec hfl hfe
          have hei : e < i := by
            rcases h4 of d i o hof (isDst_eq.1 hdd) hin ho hd with q1 | q1
            · exact absurd q1.symm (hnf f e hfe).2
            · exact q1.1
          rw [lget_eq, lget_eq, htt i (by omega), tL_get, tL_get, srcOf_eq hD (by omega) hof hdd]
          have e1 : lf rs (fun i_1 => decide (i_1 < i)) f = true := by
            unfold lf; rw [hfe]
            simp only [if_true]
            have : f < i := by omega
            simp [this, hei]
          have e2 : lf rs (gl listed) f = true := by
            unfold lf; rw [hfe]
            simp only [if_true]
            rw [g1, g2]; rfl
          simp only [e1, e2]
        · exact hagree d (fun f e of q1 q2 q3 => hex ⟨f, e, of, q1, q2, q3⟩) hd
      obtain ⟨hev, hwant⟩ := readsTmp_lget (ops := ops) hagree2
      have hrel : ∀ x ∈ o.op.operands, R ν (vev (tt i) x) (a.eval x) := fun x hx => by rw [hev x hx]; exact hevL x hx
      have fin : ∀ u s' ν' w', all[q]? = some s' → ν.le ν' → R ν' (val i) u → G N0 W0 s' w' ν' → K (a.put o.dst u) w' := fun u s' ν' w' q1 q2 q3 q4 => by
        refine hK q _ _ ⟨hph, s', ν', a.put o.dst u, q1, Mu.le_trans hle q2, q4, ?_, ?_, ?_⟩
        · rw [hadd]; exact put_rel (hRA.mono q2) q3 o.dst
        · rw [put_defers]; exact hDR.mono q2
        · unfold FL
          rw [if_neg (by rw [hpset, hp]; simp)]
      have hwa : Region.wanted o (yielded ops a.tmps) = vwanted ops.toList (tt i) o := by rw [wanted_rel hRA o, hwant]
      rcases norm_run hop hqt hcall hL hpq hs hG hrel with ⟨hw, hup⟩ | ⟨hw, hv, hs'⟩
      · rw [if_pos (by rw [hwa]; exact hw)]
        left
        exact wp_of_uponB hup fun u w' ⟨s', ν', r1, r2, r3, r4⟩ => fin u s' ν' w' r1 r2 r3 r4
      · rw [if_neg (by rw [hwa, hw]; simp)]
        exact fin undef s ν w hs' (Mu.le_refl _) (by rw [hv]; exact R_undef) hG

theorem head_any (hD : DataP md ops rs.n) (hstep : ∀ listed p i, PhInv md ops rs listed p → i ∈ Region.ready md ops listed → i < rs.n → ∃ q, prOf rs i p q ∧ PhInv md ops rs (listed.setIfInBounds i true) q)
    (hop : ∀ vs ρ o n vs1, op vs ρ o = some (n, vs1) → SoundM P vs ρ o n vs1) (hqt : ∀ vs ρ o n, qt vs ρ o = some n → Sound P vs ρ o n) (hcall : CallOK P call) (hX : FxRun P fx) (hng : ∀ s ∈ all, s.ng = ng)
    (hok : ∀ i o, i < rs.n → ops[i]? = some o → ∀ x ∈ o.op.operands, okOperand ng x = true) (hsel : ∀ (j : Nat) (o : Oper) cs b, ops[j]? = some o → o.op ≠ .select cs b) (hfl : fltOk md ops rs = true)
    (htt : ∀ j, j ≤ rs.n → tt j = tL ops rs.n t0 val (lf rs (fun i => decide (i < j))))
    (hlex : ∀ i o, i < rs.n → ops[i]? = some o → Step op qt fx call ops.toList rs all val tt fd i o)
    (htail : ∀ listed, HeadInv md ops rs.n listed → ∀ i, i < rs.n → listed.getD i true = false → ∀ j ∈ Region.ready md ops listed, j < rs.n) (hn : rs.n ≤ ops.size) (hdeps : ∀ j, j < rs.n → ∀ oj, ops[j]? = some oj → ∀ e ∈ oj.after, Region.binds md e = true → e.on < j) {g : Nat}
    (hend : ∀ listed p a w, HI P N0 W0 μ md ops rs all t0 val fd d0 listed p a w → (∀ i, i < rs.n → listed.getD i false = true) → wpAny P md ops Q' g listed a w) :
    ∀ (c : Nat) (listed : Array Bool) (p : Nat) (a : Act) (w : World), HI P N0 W0 μ md ops rs all t0 val fd d0 listed p a w → cntF rs.n (fun i => listed.getD i false) = c → wpAny P md ops Q' (c + g) listed a w
  | 0, listed, p, a, w, hI, hcnt => by
    rw [Nat.zero_add]
    exact hend listed p a w hI (cntF_zero rs.n _ hcnt)
  | c + 1, listed, p, a, w, hI, hcnt => by
    obtain ⟨i, hin, hun⟩ := cntF_pos rs.n _ (by rw [hcnt]; omega)
    have hsz : ∀ j, j < rs.n → j < listed.size := fun j hj => by rw [hI.ph.head.size]; omega
    rw [show c + 1 + g = (c + g) + 1 by omega]
    constructor
    · intro h0
      exfalso
      obtain ⟨k, hk, h1, h2⟩ := least (f := fun i => listed.getD i false) i hun
      have hkn : k < rs.n := by omega
      have hks : k < ops.size := by omega
      have hok' : ops[k]? = some ops[k] := by simp [hks]
      have : k ∈ Region.ready md ops listed := mem_ready.2 ⟨getD_in (hsz k hkn) h1, _, hok', fun e he hb => h2 _ (hdeps k hkn _ hok' e he hb)⟩
      rw [h0] at this
      cases this
    · intro j hj
      have hjn : j < rs.n := htail listed hI.ph.head i hin (getD_in (hsz i hin) hun) j hj
      refine head_step hD hstep hop hqt hcall hX hng hok hsel hfl htt hlex hI hj hjn ?_
      intro q a' w' hI'
      refine head_any hD hstep hop hqt hcall hX hng hok hsel hfl htt hlex htail hn hdeps hend c _ q a' w' hI' ?_
      have := cntF_set rs.n j (fun i => listed.getD i false) (fun i => (listed.setIfInBounds j true).getD i false) hjn (getD_both (mem_ready.1 hj).1) (by simp [hsz j hjn]) (fun k hk => getD_set_ne false (Ne.symm hk))
      omega

def headOk (md : Region.Mode) (ops : Array Oper) (n : Nat) : Bool := bif Nat.beq n ops.size then Region.lexB md ops else Region.lexTailB md ops n
omit [Base] in
theorem lexFrom_head : ∀ (f k : Nat) (listed : Array Bool), Region.lexFrom md ops f k listed = true → Region.lexHead md ops 0 f k listed = true
  | 0, k, listed, h => by simpa [Region.lexFrom, Region.lexHead, Region.seqB] using h
  | f + 1, k, listed, h => by
    simp only [Region.lexFrom, Bool.and_eq_true] at h
    simp only [Region.lexHead, Bool.and_eq_true]
    exact ⟨h.1, lexFrom_head f _ _ h.2⟩
omit [Base] in
theorem headOk_spec (h : headOk md ops n = true) : n ≤ ops.size ∧ Region.lexHead md ops (ops.size - n) n 0 (Array.replicate ops.size false) = true ∧ Region.noSelect ops = true ∧
    ∀ listed, HeadInv md ops n listed → ∀ i, i < n → listed.getD i true = false → ∀ j ∈ Region.ready md ops listed, j < n := by
  unfold headOk at h
  simp only [Bool.cond_eq_ite] at h
  split at h
  · rename_i hn
    have hn := Nat.eq_of_beq_eq_true hn
    simp only [Region.lexB, Bool.and_eq_true] at h
    refine ⟨by omega, ?_, h.1, fun listed _ i _ _ j hj => ?_⟩
    · rw [hn, Nat.sub_self]; exact lexFrom_head _ _ _ h.2
    · obtain ⟨_, oj, hoj, _⟩ := mem_ready.1 hj
      rw [hn]; exact (Array.getElem?_eq_some_iff.1 hoj).1
  · simp only [Region.lexTailB, Bool.and_eq_true, decide_eq_true_eq] at h
    obtain ⟨⟨⟨⟨hsel, hn⟩, hs⟩, hc⟩, hlex⟩ := h
    refine ⟨by omega, hlex, hsel, fun listed inv i hi hu j hj => ?_⟩
    rcases Nat.lt_or_ge j n with h | h
    · exact h
    · exact absurd hj (tail_waits hs hc hn inv _ i rfl hi hu j h)
end

theorem wp_region_head {op : OpE} {qt : QtE} {fx : FX} {call : CallE} (hop : ∀ vs ρ o n vs1, op vs ρ o = some (n, vs1) → SoundM P vs ρ o n vs1) (hqt : ∀ vs ρ o n, qt vs ρ o = some n → Sound P vs ρ o n) (hX : FxRun P fx) (hF : FxOk op fx) (hcall : CallOK P call)
    (hng : ∀ vs ρ o n vs1, op vs ρ o = some (n, vs1) → Keeps vs vs1) (hngc : ∀ f args vs v vs1, call f args vs = some (v, vs1) → Keeps vs vs1)
    {id : Nat} {Q : Exit → Act → World → Prop} {a : Act} {ops : Array Oper} (rs : RS) (hm : P.follows .mixedOrders = true) (hB : headOk .any ops rs.n = true) (hP : phasesOk .any ops rs = true) (hDd : dataOk .any ops rs.n = true) (hfl : fltOk .any ops rs = true)
    {t t1 : List Value} {fs ex : List VS} {s : VS} (h : vhead op qt fx call ops.toList rs 0 (ops.toList.take rs.n) t [] vs none none = some (t1, fs, ex)) (hsm : (fs ++ ex)[rs.fin]? = some s) (hok : ∀ o ∈ ops.toList, ∀ x ∈ o.op.operands, okOperand vs.ng x = true)
    (hG : G N0 W0 vs { W with drawn := W.drawn + 1 } μ) (hd : DR μ vs.dfr a.defers) (ht : RA μ t.toArray a.tmps)
    (hQ : ∀ a' w' ν, μ.le ν → RA ν t1.toArray a'.tmps → DR ν vs.dfr a'.defers → G N0 W0 s w' ν → wpList P ops Q (ops.toList.drop rs.n) a' w') : (Code.region id ops true).wp P Q a W := by
  obtain ⟨hn, hlex, hsel, htail⟩ := headOk_spec hB
  have hD := dataP hDd
  have htl : (ops.toList.take rs.n).length = rs.n := by
    have hn' : rs.n ≤ ops.toList.length := by simpa using hn
    simp; omega
  have hdl : (ops.toList.drop rs.n).length = ops.size - rs.n := by simp
  have inv0 : HeadInv .any ops rs.n (Array.replicate ops.size false) :=
    ⟨by simp, fun j oj _ hl => (by rw [getD_replicate_false] at hl; cases hl), fun t _ ht => getD_in (by simpa using ht) (getD_replicate_false _ _)⟩
  obtain ⟨hP0, hP1, hP2, hP3⟩ := phasesOk_spec hP
  have hstep := phStep (md := .any) (ops := ops) (rs := rs) hP3
  obtain ⟨val, tt, fd, _, a1, a2, a3, _⟩ := vhead_lex (all := fs ++ ex) hng hF hngc _ _ _ _ _ _ _ _ _ _ h rfl
  obtain ⟨⟨r, hr⟩, hkeep, hkeepx⟩ := vhead_keeps hng hF hngc _ _ _ _ _ _ _ _ _ _ h
  have hkeepx := hkeepx (fun h hh => by simp at hh)
  rw [htl, Nat.zero_add] at a2
  have hat : ∀ i o, i < rs.n → ops[i]? = some o → (ops.toList.take rs.n)[i]? = some o := fun i o hi ho => by
    rw [List.getElem?_take_of_lt hi]; simpa using ho
  have hL : ∀ i o, i < rs.n → ops[i]? = some o → Step op qt fx call ops.toList rs (fs ++ ex) val tt fd i o := fun i o hi ho => by
    have := a3 i o (hat i o hi ho)
    simpa using this
  have htt : ∀ j, j ≤ rs.n → tt j = tL ops rs.n t val (lf rs (fun i => decide (i < j))) := by
    intro j
    induction j with
    | zero =>
      intro _
      rw [a1, tL_none]
      intro i _
      unfold lf
      split
      · split <;> simp
      · simp
    | succ j ih =>
      intro hj
      have hjs : j < ops.size := by omega
      have hoj : ops[j]? = some ops[j] := by simp [hjs]
      have ih := ih (by omega)
      rcases hL j _ (by omega) hoj with ⟨hf, _, _, _, _, h6⟩ | ⟨hf, he, _, f, hfe, hfi, _, h7⟩ | ⟨hf, he, _, h8⟩
      · rw [h6, ih]
        obtain ⟨e, hfe⟩ := isFst_eq hf
        obtain ⟨q1, _⟩ := fltOk_spec hfl hfe
        refine tL_congr fun k hk => ?_
        unfold lf
        rw [hfe]
        simp only
        split
        · have e1 : ¬ e < j := by omega
          have e2 : ¬ e < j + 1 := by omega
          simp [e1, e2]
        · rename_i hkj; simp only [decide_eq_decide]; omega
      · rw [h7, ih]
        obtain ⟨q1, q2, q3, q4⟩ := fltOk_spec hfl hfe
        have hfs : f < ops.size := by omega
        have hof : ops[f]? = some ops[f] := by simp [hfs]
        have hdf : (ops[f]).dst = some fd.1 := by
          rcases hL f _ (by omega) hof with ⟨_, _, _, q1, _⟩ | ⟨q1, _⟩ | ⟨q1, _⟩
          · exact q1
          · rw [hfe] at q1; simp [isFst] at q1
          · rw [hfe] at q1; simp [isFst] at q1
        have add1 := tL_add (val := val) (t0 := t) (f := lf rs (fun i => decide (i < j))) (g := fun k => if k = f then true else lf rs (fun i => decide (i < j)) k) hD (by omega) hof (fun k hk => by simp [hk]) (by simp)
        have add2 := tL_add (val := val) (t0 := t) (f := fun k => if k = f then true else lf rs (fun i => decide (i < j)) k) (g := lf rs (fun i => decide (i < j + 1))) hD (by omega) hoj (fun k hk => by
          unfold lf
          rw [hfe]
          simp only
          split
          · have e1 : f < j + 1 := by omega
            simp [e1]
          · simp only [decide_eq_decide]; omega) (by
          unfold lf
          rw [hfe]
          have : ¬ j = f := by omega
          simp [this])
        rw [add2, add1, hdf]
      · rw [h8, ih]
        refine (tL_add (f := lf rs (fun i => decide (i < j))) (g := lf rs (fun i => decide (i < j + 1))) hD (by omega) hoj (fun k hk => ?_) ?_).symm
        · unfold lf
          split
          · rename_i f e hfe
            have hej : e ≠ j := fun q => by
              have : isSnd rs.flt j = true := by
                obtain ⟨q1, _⟩ := fltOk_spec hfl hfe
                rw [hfe, q]
                simp only [isSnd, Bool.and_eq_true, Nat.blt_eq]
                exact ⟨Nat.beq_refl _, by omega⟩
              rw [he] at this; cases this
            split
            · rename_i hkf
              have e1 : (f < j + 1) ↔ (f < j) := by omega
              have e2 : (e < j + 1) ↔ (e < j) := by omega
              simp only [e1, e2]
            · simp only [decide_eq_decide]; omega
          · simp only [decide_eq_decide]; omega
        · unfold lf
          split
          · rename_i f e hfe
            have hfj : ¬ j = f := fun q => by
              rw [hfe, q] at hf; simp [isFst] at hf
            simp [hfj]
          · simp
  obtain ⟨hdeps, L, hLs, hLl, hseq⟩ := lexHead_spec (md := .any) rs.n 0 (Array.replicate ops.size false) (by simp) (fun i => by rw [getD_replicate_false]; simp) hlex
  rw [Nat.zero_add] at hLl hseq
  refine wp_region_any hm ?_
  have hlf0 : ∀ i, lf rs (gl (Array.replicate ops.size false)) i = false := fun i => by
    cases hb : lf rs (gl (Array.replicate ops.size false)) i with
    | false => rfl
    | true =>
      have := lf_mono hb
      simp only [gl, getD_replicate_false] at this
      cases this
  have hI0 : HI P N0 W0 μ .any ops rs (fs ++ ex) t val fd vs.dfr (Array.replicate ops.size false) 0 a { W with drawn := W.drawn + 1 } :=
    ⟨⟨inv0, hP0, fun e he => by rw [getD_replicate_false, (hP1 e he).2]⟩, vs, μ, a, by rw [hr]; rfl, Mu.le_refl _, hG, by rw [tL_none (fun i _ => hlf0 i)]; exact ht, hd, by
      unfold FL
      rw [if_neg (by
        unfold pendB
        split
        · simp only [gl, getD_replicate_false, Bool.false_and]; exact Bool.false_ne_true
        · exact Bool.false_ne_true)]⟩
  have := head_any (Q' := Q) (g := ops.size - rs.n) hD hstep hop hqt hcall hX (all := fs ++ ex) (ng := vs.ng) (fun s hs => (List.mem_append.1 hs).elim (fun h => (hkeep s h).1) (fun h => (hkeepx s h).1)) (fun i o hi ho => hok o (by simpa using Array.mem_of_getElem? ho))
    (Region.noSelect_spec hsel) hfl htt hL htail hn
    (fun j hj oj hoj e he hb => hdeps j (Nat.zero_le _) (by omega) oj hoj e he hb)
    (fun listed p a' w' hI hall => by
      have hpm : p = rs.fin := hP2 p hI.ph.le fun e he => (hI.ph.eff e he).1 (hall e (hP1 e he).1)
      subst hpm
      have hLL : listed = L := by
        have hget : ∀ i, listed.getD i false = L.getD i false := fun i => by
          rw [Bool.eq_iff_iff, hLl i]
          constructor
          · intro hi
            rcases Nat.lt_or_ge i rs.n with hlt | hge
            · exact hlt
            · rcases Nat.lt_or_ge i ops.size with h2 | h2
              · have := getD_both (hI.ph.head.tail i hge h2)
                rw [this] at hi; cases hi
              · have : ¬ i < listed.size := by rw [hI.ph.head.size]; omega
                simp [this] at hi
          · exact hall i
        apply Array.ext
        · rw [hI.ph.head.size, hLs]
        · intro i hi1 hi2
          have := hget i
          simpa [hi1, hi2] using this
      obtain ⟨s', ν, a0, q1, q2, q3, q4, q5, q6⟩ := hI.mem
      rw [hsm] at q1; cases q1
      have hnp : pendB rs (gl listed) = false := by
        unfold pendB
        split
        · rename_i f e hfe
          obtain ⟨_, h2, _⟩ := fltOk_spec hfl hfe
          have := hall e h2
          simp only [gl, this, Bool.not_true, Bool.and_false]
        · rfl
      unfold FL at q6
      rw [if_neg (by rw [hnp]; simp)] at q6
      subst q6
      have hfull : tL ops rs.n t val (lf rs (gl listed)) = t1 := by
        rw [← a2, htt rs.n (Nat.le_refl _)]
        refine tL_congr fun k hk => ?_
        unfold lf
        split
        · rename_i f e hfe
          obtain ⟨h1, h2, _⟩ := fltOk_spec hfl hfe
          have e1 : f < rs.n := by omega
          split
          · simp [gl, hall f e1, hall e h2, e1, h2]
          · simp [gl, hall k hk, hk]
        · simp [gl, hall k hk, hk]
      rw [hfull] at q4
      have hw := hQ a' w' ν q2 q4 q5 q3
      have := wpAny_of_seq (md := .any) (Q' := Q) (ops.toList.drop rs.n) rs.n listed a' w' (fun j => by simp [List.getElem?_drop]) (by rw [hdl, hLL]; exact hseq) hw
      rwa [hdl] at this) rs.n (Array.replicate ops.size false) 0 a { W with drawn := W.drawn + 1 } hI0 (by
        have : ∀ k, cntF k (fun i => (Array.replicate ops.size false).getD i false) = k := by
          intro k
          induction k with
          | zero => rfl
          | succ k ih => simp only [cntF, getD_replicate_false] at ih ⊢; rw [ih]; simp
        exact this rs.n)
  rw [show rs.n + (ops.size - rs.n) = ops.size by omega] at this
  exact this

end Go.Ev

/-
  The evaluator on code, and what it says of the machine.
-/
namespace Go.Ev
open Go.RowKit
variable [Base]

variable {P : Program} {T : TE} [TOk P T] {N0 : Nat → Prop} {W0 W : World} {vs : VS} {μ : Mu}

/- What may be asked of code once, ahead of all runs. -/
def lnth : List VS → Nat → Option VS
  | [], _ => none
  | s :: _, 0 => some s
  | _ :: l, n + 1 => lnth l n
omit [Base] in
theorem lnth_eq : ∀ (l : List VS) (n : Nat), lnth l n = l[n]?
  | [], n => by simp [lnth]
  | s :: l, 0 => by simp [lnth]
  | s :: l, n + 1 => by simp [lnth, lnth_eq l n]
def drawOk (tl : Nat → Option RS) (id : Nat) (ops : Array Oper) : Bool :=
  match tl id with
  | none => Region.lexB .any ops
  | some rs => headOk .any ops rs.n && phasesOk .any ops rs && dataOk .any ops rs.n && fltOk .any ops rs
def codeOk (ng : Nat) (tl : Nat → Option RS) : Code → Bool
  | .region id ops draw => ops.toList.all (fun o => o.op.operands.toList.all (okOperand ng)) && (!draw || drawOk tl id ops)
  | .seq a b => codeOk ng tl a && codeOk ng tl b
  | .cond c a b => okOperand ng c && codeOk ng tl a && codeOk ng tl b
  | .block _ b => codeOk ng tl b
  | .loop b => codeOk ng tl b
  | .scope b => codeOk ng tl b
  | _ => true

noncomputable def vcode (op : OpE) (qt : QtE) (fx : FX) (call : CallE) (tl : Nat → Option RS) : Nat → Code → List Value → VS → Option VX
  | 0, _, _, _ => none
  | n + 1, c, t, vs =>
    match c with
    | .skip => some (.normal t vs)
    | .region id ops draw =>
      bif draw then match tl id with
        | none => match vquiets qt call ops.toList ops.toList t vs with
          | some t1 => some (.normal t1 vs)
          | none => none
        | some rs => match vhead op qt fx call ops.toList rs 0 (ops.toList.take rs.n) t [] vs none none with
          | some (t1, fs, ex) => match lnth (fs ++ ex) rs.fin with
            | some s => bif Nat.beq s.ng vs.ng then vops op call ops.toList (ops.toList.drop rs.n) t1 s else none
            | none => none
          | none => none
      else vops op call ops.toList ops.toList t vs
    | .seq a b => match vcode op qt fx call tl n a t vs with
      | some (.normal t1 vs1) => vcode op qt fx call tl n b t1 vs1
      | r => r
    | .cond x a b => match vev t x with
      | .bool b1 => bif b1 then vcode op qt fx call tl n a t vs else vcode op qt fx call tl n b t vs
      | _ => none
    | .block id b => match vcode op qt fx call tl n b t vs with
      | some (.exit i t1 vs1) => bif Nat.beq i id then some (.normal t1 vs1) else some (.exit i t1 vs1)
      | r => r
    | .loop b => match vcode op qt fx call tl n b t vs with
      | some (.normal t1 vs1) => vcode op qt fx call tl n (.loop b) t1 vs1
      | r => r
    | .exit id => some (.exit id t vs)
    | .ret => some (.ret t vs)
    | .scope b => vcode op qt fx call tl n b t vs
    | .label _ => some (.normal t vs)
    | _ => none

/- The rounds of a loop. -/
def LoopWp (P : Program) (c : Code) (Q : Exit → Act → World → Prop) (a : Act) (w : World) : Prop :=
  ∀ (b : Frame) (k : List Item) (cs : List Frame), ∃ e a' w', Q e a' w' ∧ Arrives P (lone (b.at a (.code c :: .inLoop c :: k)) cs w) b k cs e a' w'
omit [Base] in
theorem wp_of_loop {c : Code} {Q : Exit → Act → World → Prop} {a : Act} {w : World} (h : LoopWp P c Q a w) : (Code.loop c).wp P Q a w := fun b k cs =>
  let ⟨e, a', w', hq, harr⟩ := h b k cs
  ⟨e, a', w', hq, .of_steps (.one step_loop) harr⟩
omit [Base] in
theorem loop_once {c : Code} {Q : Exit → Act → World → Prop} {a : Act} {w : World} (h : c.wp P (Exit.then (LoopWp P c Q) Q) a w) : LoopWp P c Q a w := by
  intro b k cs
  obtain ⟨e, a₁, w₁, hq, harr⟩ := h b (.inLoop c :: k) cs
  cases e with
  | normal =>
    obtain ⟨e₂, a₂, w₂, hq₂, harr₂⟩ := hq b k cs
    exact ⟨e₂, a₂, w₂, hq₂, .of_steps (Steps.trans harr (.one step_inLoop)) harr₂⟩
  | exit id => exact ⟨_, a₁, w₁, hq, .pass (x := .inLoop c) rfl (fun _ _ => .inl (by simp)) harr⟩
  | goto l => exact ⟨_, a₁, w₁, hq, .pass (x := .inLoop c) rfl (fun _ _ => .inl (by simp)) harr⟩
  | ret => exact ⟨_, a₁, w₁, hq, .pass (x := .inLoop c) rfl (fun _ _ => .inl (by simp)) harr⟩
  | panic ch => exact ⟨_, a₁, w₁, hq, .pass (x := .inLoop c) rfl (fun _ _ => .inl (by simp)) harr⟩
  | outgrown => exact ⟨_, a₁, w₁, hq, .pass (x := .inLoop c) rfl (fun _ _ => .inl (by simp)) harr⟩
def wpL (P : Program) (c : Code) (Q : Exit → Act → World → Prop) (a : Act) (w : World) : Prop :=
  match c with
  | .loop b => LoopWp P b Q a w
  | c => c.wp P Q a w
omit [Base] in
theorem wp_of_wpL {c : Code} {Q : Exit → Act → World → Prop} {a : Act} {w : World} (h : wpL P c Q a w) : c.wp P Q a w := by
  cases c <;> first
    | exact h
    | exact wp_of_loop h
omit [Base] in
theorem LoopWp.mono {c : Code} {Q Q' : Exit → Act → World → Prop} {a : Act} {w : World} (h : LoopWp P c Q a w) (hq : ∀ e a w, Q e a w → Q' e a w) : LoopWp P c Q' a w := fun b k cs =>
  let ⟨e, a', w', q, r⟩ := h b k cs; ⟨e, a', w', hq _ _ _ q, r⟩

structure EngOk (P : Program) (opE : OpE) (qtE : QtE) (fx : FX) : Prop where
  op : ∀ vs ρ o n vs1, opE vs ρ o = some (n, vs1) → SoundM P vs ρ o n vs1
  ng : ∀ vs ρ o n vs1, opE vs ρ o = some (n, vs1) → Keeps vs vs1
  qt : ∀ vs ρ o n, qtE vs ρ o = some n → Sound P vs ρ o n
  mixed : P.follows .mixedOrders = true
  names : NamesOk P
  fxr : FxRun P fx
  fxk : FxOk opE fx

def VX.ng : VX → Nat
  | .normal _ vs => vs.ng
  | .exit _ _ vs => vs.ng
  | .ret _ vs => vs.ng
  | .pan _ _ vs => vs.ng

omit [Base] in
theorem vops_ng {op : OpE} {call : CallE} (hng : ∀ vs ρ o n vs1, op vs ρ o = some (n, vs1) → Keeps vs vs1) (hngc : ∀ f args vs v vs1, call f args vs = some (v, vs1) → Keeps vs vs1) (ops : List Oper) :
    ∀ (l : List Oper) (t : List Value) (vs : VS) x, vops op call ops l t vs = some x → x.ng = vs.ng
  | [], t, vs, x, h => by simp only [vops] at h; cases h; rfl
  | o :: l, t, vs, x, h => by
    simp only [vops, Bool.cond_eq_ite] at h
    split at h
    · split at h
      · rename_i hx; rw [vops_ng hng hngc ops l _ _ _ h, (hng _ _ _ _ _ hx).1]
      · rename_i hx; rw [vops_ng hng hngc ops l _ _ _ h, (hng _ _ _ _ _ hx).1]
      · rename_i hx
        split at h
        · rename_i hc; rw [vops_ng hng hngc ops l _ _ _ h, (hngc _ _ _ _ _ hc).1, (hng _ _ _ _ _ hx).1]
        · rename_i hc; cases h; exact ((hngc _ _ _ _ _ hc).1).trans (hng _ _ _ _ _ hx).1
        · cases h
      · rename_i hx; rw [vops_ng hng hngc ops l _ _ _ h]; exact (hng _ _ _ _ _ hx).1
      · split at h
        · cases h; rfl
        · cases h
    · exact vops_ng hng hngc ops l _ _ _ h

omit [Base] in
theorem vcode_ng {op : OpE} {qt : QtE} {fx : FX} {call : CallE} {tl : Nat → Option RS} (hng : ∀ vs ρ o n vs1, op vs ρ o = some (n, vs1) → Keeps vs vs1) (hngc : ∀ f args vs v vs1, call f args vs = some (v, vs1) → Keeps vs vs1) :
    ∀ (n : Nat) (c : Code) (t : List Value) (vs : VS) (x : VX), vcode op qt fx call tl n c t vs = some x → x.ng = vs.ng
  | 0, _, _, _, _, h => by simp [vcode] at h
  | n + 1, c, t, vs, x, h => by
    unfold vcode at h
    split at h
    · cases h; rfl
    · simp only [Bool.cond_eq_ite] at h
      split at h
      · split at h
        · split at h
          · cases h; rfl
          · cases h
        · split at h
          · split at h
            · split at h
              · rename_i hb; rw [vops_ng hng hngc _ _ _ _ _ h, Nat.eq_of_beq_eq_true hb]
              · cases h
            · cases h
          · cases h
      · exact vops_ng hng hngc _ _ _ _ _ h
    · split at h
      · rename_i hx; rw [vcode_ng hng hngc n _ _ _ _ h]; exact vcode_ng hng hngc n _ _ _ _ hx
      · exact vcode_ng hng hngc n _ _ _ _ h
    · split at h
      · simp only [Bool.cond_eq_ite] at h
        split at h <;> exact vcode_ng hng hngc n _ _ _ _ h
      · cases h
    · split at h
      · rename_i hx
        simp only [Bool.cond_eq_ite] at h
        have := vcode_ng hng hngc n _ _ _ _ hx
        split at h <;> (cases h; exact this)
      · exact vcode_ng hng hngc n _ _ _ _ h
    · split at h
      · rename_i hx; rw [vcode_ng hng hngc n _ _ _ _ h]; exact vcode_ng hng hngc n _ _ _ _ hx
      · exact vcode_ng hng hngc n _ _ _ _ h
    · cases h; rfl
    · cases h; rfl
    · exact vcode_ng hng hngc n _ _ _ _ h
    · cases h; rfl
    · cases h

theorem vcode_sound {op : OpE} {qt : QtE} {fx : FX} {call : CallE} (hE : EngOk P op qt fx) (hcall : CallOK P call) (hngc : ∀ f args vs v vs1, call f args vs = some (v, vs1) → Keeps vs vs1) {ng : Nat} {tl : Nat → Option RS} :
    ∀ (n : Nat) (c : Code) (t : List Value) (vs : VS) (x : VX), codeOk ng tl c = true → vs.ng = ng → vcode op qt fx call tl n c t vs = some x →
      ∀ (N0 : Nat → Prop) (W0 W : World) (μ : Mu) (a : Act), DR μ vs.dfr a.defers → RA μ t.toArray a.tmps → G N0 W0 vs W μ → wpL P c (Post N0 W0 μ x) a W
  | 0, _, _, _, _, _, _, h, _, _, _, _, _, _, _, _ => by simp [vcode] at h
  | n + 1, c, t, vs, x, hok, hng, h, N0, W0, W, μ, a, hd, ht, hG => by
    have ih := vcode_sound hE hcall hngc (ng := ng) (tl := tl) n
    have here : St N0 W0 μ t vs a W := ⟨μ, Mu.le_refl _, ht, hG, hd⟩
    unfold vcode at h
    split at h
    · cases h; exact wp_skip ⟨rfl, here⟩
    · rename_i id ops draw
      simp only [codeOk, Bool.and_eq_true, List.all_eq_true, Bool.or_eq_true, Bool.not_eq_true'] at hok
      obtain ⟨hops, hdr⟩ := hok
      have hops' : ∀ o ∈ ops.toList, ∀ y ∈ o.op.operands, okOperand ng y = true := fun o ho y hy => hops o ho y (by simpa using hy)
      cases draw with
      | true =>
        simp only [cond_true] at h
        have hdr := hdr.resolve_left (by simp)
        unfold drawOk at hdr
        split at h
        case h_2 =>
          rename_i rs hm
          rw [hm] at hdr
          simp only [Bool.and_eq_true] at hdr
          obtain ⟨⟨⟨hdr1, hdr2⟩, hdr3⟩, hdr4⟩ := hdr
          have hj : ∀ j, (ops.toList.drop rs.n)[j]? = ops[rs.n + j]? := fun j => by simp [List.getElem?_drop]
          split at h
          case h_2 => cases h
          rename_i t1 fs ex hx
          split at h
          case h_2 => cases h
          rename_i s hs
          simp only [Bool.cond_eq_ite] at h
          split at h
          case isFalse => cases h
          rename_i hsng
          have hsng := Nat.eq_of_beq_eq_true hsng
          rw [lnth_eq] at hs
          obtain ⟨⟨r, hr⟩, hk1, hk2⟩ := vhead_keeps hE.ng hE.fxk hngc _ _ _ _ _ _ _ _ _ _ hx
          have hkeep : Keeps vs s := (List.mem_append.1 (List.mem_of_getElem? hs)).elim (hk1 s) (hk2 (fun h hh => by simp at hh) s)
          refine wp_region_head hE.op hE.qt hE.fxr hE.fxk hcall hE.ng hngc rs hE.mixed hdr1 hdr2 hdr3 hdr4 hx hs (fun o ho => by rw [hng]; exact hops' o ho) (hG.drawn _) hd ht (fun a' w' ν hle q1 q2 q3 => ?_)
          have := vops_sound (P := P) (N0 := N0) (W0 := W0) (Q := Post N0 W0 μ x) hE.op hcall ops hE.ng hngc (ops.toList.drop rs.n) rs.n t1 s x hj (fun o ho => hops' o (List.mem_of_mem_drop ho)) (by rw [hsng, hng]) h w' ν a' (by rw [hkeep.2]; exact q2) q1 q3 (fun e a' w q => q.mono hle)
          rw [wpOps_eq_wpList _ rs.n hj] at this
          exact this
        rename_i hm
        rw [hm] at hdr
        split at h
        case h_2 => cases h
        rename_i t1 hx
        cases h
        refine wp_region_quiet (C := fun w => G N0 W0 vs w μ) hE.mixed hdr (hG.drawn _) ?_
        exact vquiets_sound hE.qt hcall ops _ _ _ hops' hng hx a hd ht (hG.drawn (W.drawn + 1)) (fun a' h1 h2 w' hw => ⟨rfl, μ, Mu.le_refl _, h2, hw, h1⟩)
      | false =>
        simp only [cond_false] at h
        refine wp_region ?_
        have := vops_sound (P := P) (N0 := N0) (W0 := W0) (Q := Post N0 W0 μ x) hE.op hcall ops hE.ng hngc ops.toList 0 t vs x (fun j => by simp) hops' hng h W μ a hd ht hG (fun e a' w s => s)
        simpa [List.range_eq_range'] using this
    · rename_i c1 c2
      simp only [codeOk, Bool.and_eq_true] at hok
      refine wp_seq ?_
      split at h
      · rename_i t1 vs1 hx
        refine wp_mono (wp_of_wpL (ih c1 t vs _ hok.1 hng hx N0 W0 W μ a hd ht hG)) ?_
        rintro e a' w ⟨rfl, μ1, hle, ht', hG', hd'⟩
        refine wp_mono (wp_of_wpL (ih c2 t1 vs1 x hok.2 (by rw [← hng]; exact vcode_ng hE.ng hngc n _ _ _ _ hx) h N0 W0 w μ1 a' hd' ht' hG')) fun e a w h => h.mono hle
      · rename_i hnn
        refine wp_mono (wp_of_wpL (ih c1 t vs x hok.1 hng h N0 W0 W μ a hd ht hG)) ?_
        intro e a' w hp
        cases x with
        | normal t1 vs1 => exact absurd h (hnn t1 vs1)
        | exit id t1 vs1 => obtain ⟨rfl, hs⟩ := hp; exact ⟨rfl, hs⟩
        | ret t1 vs1 => obtain ⟨rfl, hs⟩ := hp; exact ⟨rfl, hs⟩
        | pan v t1 vs1 => obtain ⟨m, v', q1, rfl, q2⟩ := hp; exact ⟨m, v', q1, rfl, q2⟩
    · rename_i y c1 c2
      simp only [codeOk, Bool.and_eq_true] at hok
      split at h
      case h_2 => cases h
      rename_i b1 hb
      have hev := ev_rel hG ht (x := y) (by rw [hng]; exact hok.1.1)
      rw [hb] at hev
      refine wp_cond (t := b1) hev.inv_bool ?_
      cases b1 with
      | true => exact wp_of_wpL (ih c1 t vs x hok.1.2 hng h N0 W0 W μ a hd ht hG)
      | false => exact wp_of_wpL (ih c2 t vs x hok.2 hng h N0 W0 W μ a hd ht hG)
    · rename_i id c1
      simp only [codeOk] at hok
      refine wp_block ?_
      split at h
      · rename_i i t1 vs1 hx
        refine wp_mono (wp_of_wpL (ih c1 t vs _ hok hng hx N0 W0 W μ a hd ht hG)) ?_
        rintro e a' w ⟨rfl, hs⟩
        simp only [Bool.cond_eq_ite] at h
        split at h
        · rename_i hi
          have := Nat.eq_of_beq_eq_true hi
          cases h
          simp only [Exit.inBlock, this, if_true]
          exact ⟨rfl, hs⟩
        · rename_i hi
          cases h
          have : ¬ i = id := fun e => hi (by rw [e]; exact Nat.beq_refl _)
          simp only [Exit.inBlock, this, if_false]
          exact ⟨rfl, hs⟩
      · rename_i hnn
        refine wp_mono (wp_of_wpL (ih c1 t vs x hok hng h N0 W0 W μ a hd ht hG)) ?_
        intro e a' w hp
        cases x with
        | normal t1 vs1 => obtain ⟨rfl, hs⟩ := hp; exact ⟨rfl, hs⟩
        | exit i t1 vs1 => exact absurd h (hnn i t1 vs1)
        | ret t1 vs1 => obtain ⟨rfl, hs⟩ := hp; exact ⟨rfl, hs⟩
        | pan v t1 vs1 => obtain ⟨m, v', q1, rfl, q2⟩ := hp; exact ⟨m, v', q1, rfl, q2⟩
    · rename_i c1
      have hok1 : codeOk ng tl c1 = true := by simpa only [codeOk] using hok
      refine loop_once ?_
      split at h
      · rename_i t1 vs1 hx
        refine wp_mono (wp_of_wpL (ih c1 t vs _ hok1 hng hx N0 W0 W μ a hd ht hG)) ?_
        rintro e a' w ⟨rfl, μ1, hle, ht', hG', hd'⟩
        have := ih (.loop c1) t1 vs1 x hok (by rw [← hng]; exact vcode_ng hE.ng hngc n _ _ _ _ hx) h N0 W0 w μ1 a' hd' ht' hG'
        exact LoopWp.mono this fun e a w h => h.mono hle
      · rename_i hnn
        refine wp_mono (wp_of_wpL (ih c1 t vs x hok1 hng h N0 W0 W μ a hd ht hG)) ?_
        intro e a' w hp
        cases x with
        | normal t1 vs1 => exact absurd h (hnn t1 vs1)
        | exit id t1 vs1 => obtain ⟨rfl, hs⟩ := hp; exact ⟨rfl, hs⟩
        | ret t1 vs1 => obtain ⟨rfl, hs⟩ := hp; exact ⟨rfl, hs⟩
        | pan v t1 vs1 => obtain ⟨m, v', q1, rfl, q2⟩ := hp; exact ⟨m, v', q1, rfl, q2⟩
    · cases h; exact wp_exit ⟨rfl, here⟩
    · cases h; exact wp_ret ⟨rfl, here⟩
    · rename_i c1
      have hok1 : codeOk ng tl c1 = true := by simpa only [codeOk] using hok
      refine wp_scope_straight ?_
      refine wp_mono (wp_of_wpL (ih c1 t vs x hok1 hng h N0 W0 W μ a hd ht hG)) ?_
      intro e a' w hp
      cases x with
      | normal t1 vs1 => obtain ⟨rfl, hs⟩ := hp; exact ⟨rfl, hs⟩
      | exit i t1 vs1 => obtain ⟨rfl, hs⟩ := hp; exact ⟨rfl, hs⟩
      | ret t1 vs1 => obtain ⟨rfl, hs⟩ := hp; exact ⟨rfl, hs⟩
      | pan v t1 vs1 => obtain ⟨m, v', q1, rfl, q2⟩ := hp; exact ⟨m, v', q1, rfl, q2⟩
    · cases h; exact wp_label ⟨rfl, here⟩
    · cases h

end Go.Ev

/-
  The evaluator on calls, and what it says of the machine.
-/
namespace Go.Ev
open Go.RowKit
variable [Base]

variable {P : Program} {T : TE} [TOk P T] {N0 : Nat → Prop} {W0 W : World} {vs : VS} {μ : Mu}

noncomputable def vresults (T : TE) (vs : VS) (t : List Value) : List ResultVar → Option (List Value)
  | [] => some []
  | .tmp i :: l => match vresults T vs t l with
    | some r => some (lget t i :: r)
    | none => none
  | .cell i ty :: l => match lget t i with
    | .pointer (some a) => match vload T vs ty a, vresults T vs t l with
      | some v, some r => some (v :: r)
      | _, _ => none
    | _ => none
def one : List Value → Value
  | [v] => v
  | l => .tuple l.toArray

theorem results_run (hG : G N0 W0 vs W μ) {t : List Value} {tmps : Array Value} (ht : RA μ t.toArray tmps) (g : ResultVar → Sem Value) (g1 : ∀ i, g (.tmp i) = pure (tmps.getD i undef))
    (g2 : ∀ a ty, g (.cell a ty) = (do loadVar ty (← asAddr (tmps.getD a undef)))) : ∀ (l : List ResultVar) (r : List Value), vresults T vs t l = some r →
    ∃ r' : List Value, (l.mapM g).run P W = .ok r' W ∧ RA μ r.toArray r'.toArray
  | [], r, h => by simp only [vresults] at h; cases h; exact ⟨[], by simp, RA.empty⟩
  | x :: l, r, h => by
    have hget : ∀ i, R μ (lget t i) (tmps.getD i undef) := fun i => ev_rel (a := ⟨tmps, []⟩) hG ht (x := .tmp i) rfl
    cases x with
    | tmp i =>
      simp only [vresults] at h
      split at h
      case h_2 => cases h
      rename_i r0 hr
      cases h
      obtain ⟨r', h1, h2⟩ := results_run hG ht g g1 g2 l r0 hr
      refine ⟨tmps.getD i undef :: r', ?_, ?_⟩
      · simp only [List.mapM_cons, g1, Sem.run_bind, Sem.run_pure, Result.andThen_ok, h1]
      · have := (RA.one (hget i)).append h2
        simpa using this
    | cell i ty =>
      simp only [vresults] at h
      have hg := hget i
      split at h
      case h_2 => cases h
      rename_i a ha
      split at h
      case h_2 => cases h
      rename_i v r0 hv hr
      cases h
      rw [ha] at hg
      obtain ⟨L, hL, e⟩ := hg.inv_ptr
      obtain ⟨v', h3, h4⟩ := vload_run (P := P) hG hv hL
      obtain ⟨r', h1, h2⟩ := results_run hG ht g g1 g2 l r0 hr
      refine ⟨v' :: r', ?_, ?_⟩
      · simp only [List.mapM_cons, g2, Sem.run_bind, Sem.run_pure, Result.andThen_ok, h1, e, asAddr, h3]
      · have := (RA.one h4).append h2
        simpa using this

theorem one_run (hG : G N0 W0 vs W μ) {t : List Value} {tmps : Array Value} (ht : RA μ t.toArray tmps) {fn : Func} {r : List Value} (h : vresults T vs t fn.results.toList = some r) :
    ∃ v', (results fn tmps).run P W = .ok v' W ∧ R μ (one r) v' := by
  obtain ⟨r', h1, h2⟩ := results_run (P := P) hG ht (fun | .tmp t => pure (tmps.getD t undef) | .cell a t => do loadVar t (← asAddr (tmps.getD a undef))) (fun _ => rfl) (fun _ _ => rfl) _ r h
  have hl : r.length = r'.length := by simpa using h2.1
  have hrun : (results fn tmps).run P W = .ok (if h : r'.toArray.size = 1 then r'.toArray[0] else .tuple r'.toArray) W := by
    unfold results
    have e : fn.results = fn.results.toList.toArray := by simp
    rw [e, List.mapM_toArray]
    simp only [Sem.run_bind, Sem.run_map, Sem.run_pure]
    exact congrArg (fun z : Result (List Value) => (z.andThen fun a w' => Result.ok a.toArray w').andThen fun a w' => Result.ok (if h : a.size = 1 then a[0] else Value.tuple a) w') h1
  refine ⟨_, hrun, ?_⟩
  match r, r', hl, h2 with
  | [x], [y], _, h2 => exact h2.2 0 x y (by simp) (by simp)
  | [], [], _, h2 => exact .tuple _ _ h2.1 h2.2
  | a :: b :: l, a' :: b' :: l', hl, h2 =>
    have : ¬ (a' :: b' :: l').toArray.size = 1 := by simp
    rw [dif_neg this]
    exact .tuple _ _ h2.1 h2.2

/- The mode of a frame that leaves; what deferred calls make of it. -/
inductive VM where
  | ret
  | pan (v : Value)
  | got (v : Value)
def RM (μ : Mu) : VM → FrameMode → Prop
  | .ret, u => u = .returning
  | .pan v, u => ∃ v', R μ v v' ∧ u = .panicking (panicked v')
  | .got v, u => ∃ v', R μ v v' ∧ u = .panicking [{ v := v', recovered := true }]
omit [Base] in
theorem RM.mono {μ ν : Mu} (hl : μ.le ν) : ∀ {m : VM} {u : FrameMode}, RM μ m u → RM ν m u
  | .ret, _, h => h
  | .pan _, _, ⟨v, h1, h2⟩ => ⟨v, h1.mono hl, h2⟩
  | .got _, _, ⟨v, h1, h2⟩ => ⟨v, h1.mono hl, h2⟩
def settleV : VM → VM
  | .got _ => .ret
  | m => m
omit [Base] in
theorem settle_rel : ∀ {m : VM} {u : FrameMode}, RM μ m u → RM μ (settleV m) (settle u)
  | .ret, _, h => by cases h; rfl
  | .pan _, _, ⟨v, h1, h2⟩ => by subst h2; exact ⟨v, h1, rfl⟩
  | .got _, _, ⟨v, h1, h2⟩ => by subst h2; rfl

def isRec (o : Oper) : Bool :=
  match o.op with
  | .call c => match c.callee with
    | .builtin .recover => true
    | _ => false
  | _ => false
omit [Base] in
theorem isRec_run {o : Oper} (h : isRec o = true) (ρ : Operand → Value) : (execOp ρ o).run P W = .ok .recover W := by
  unfold isRec at h
  split at h
  · rename_i c ho
    split at h
    · rename_i hc
      simp [execOp, ho, resolve, hc, invoke, builtin]
    · cases h
  · cases h

noncomputable def vopsS (op : OpE) (call : CallE) (ops : List Oper) : List Oper → List Value → VS → VM → Option (List Value × VS × VM)
  | [], t, vs, m => some (t, vs, m)
  | o :: rest, t, vs, m =>
    bif vwanted ops t o then
      bif isRec o then match m with
        | .pan v => vopsS op call ops rest (vput t o.dst v) vs (.got v)
        | .ret => vopsS op call ops rest (vput t o.dst .nilIface) vs .ret
        | .got v => vopsS op call ops rest (vput t o.dst .nilIface) vs (.got v)
      else match op vs (vev t) o with
      | some (.value v, vs1) => vopsS op call ops rest (vput t o.dst v) vs1 m
      | some (.skip, vs1) => vopsS op call ops rest (vput t o.dst undef) vs1 m
      | some (.enter f args, vs1) => match call f args vs1 with
        | some (.ret v, vs2) => vopsS op call ops rest (vput t o.dst v) vs2 m
        | _ => none
      | _ => none
    else vopsS op call ops rest (vput t o.dst undef) vs m

def CS (c₀ : Frame) (cs₀ : List Frame) (u : FrameMode) : List Frame := { c₀ with mode := u } :: cs₀
def StS (N0 : Nat → Prop) (W0 : World) (μ : Mu) (t : List Value) (vs : VS) (m : VM) (a : Act) (w : World) (u : FrameMode) : Prop :=
  ∃ μ1, μ.le μ1 ∧ RA μ1 t.toArray a.tmps ∧ G N0 W0 vs w μ1 ∧ DR μ1 vs.dfr a.defers ∧ RM μ1 m u
theorem StS.mono {μ ν : Mu} (h : μ.le ν) {t : List Value} {vs : VS} {m : VM} {a : Act} {w : World} {u : FrameMode} (s : StS N0 W0 ν t vs m a w u) : StS N0 W0 μ t vs m a w u :=
  let ⟨m, h2, h3⟩ := s; ⟨m, Mu.le_trans h h2, h3⟩

omit [TOk P T] in
theorem vopsS_sound {op : OpE} {qt : QtE} {fx : FX} {call : CallE} (hE : EngOk P op qt fx) (hcall : CallOK P call) (ops : Array Oper) (hngc : ∀ f args vs v vs1, call f args vs = some (v, vs1) → Keeps vs vs1) {ng : Nat} {c₀ : Frame} {cs₀ : List Frame}
    {Q : Exit → Act → List Frame → World → Prop} :
    ∀ (l : List Oper) (k : Nat) (t : List Value) (vs : VS) (m : VM) (t1 : List Value) (vs1 : VS) (m1 : VM), (∀ j, l[j]? = ops[k + j]?) → (∀ o ∈ l, ∀ x ∈ o.op.operands, okOperand ng x = true) → vs.ng = ng →
      vopsS op call ops.toList l t vs m = some (t1, vs1, m1) →
      ∀ (W : World) (μ : Mu) (a : Act) (u : FrameMode), DR μ vs.dfr a.defers → RA μ t.toArray a.tmps → G N0 W0 vs W μ → RM μ m u → (∀ a' w u', StS N0 W0 μ t1 vs1 m1 a' w u' → Q .normal a' (CS c₀ cs₀ u') w) →
        wpOpsS P ops Q (List.range' k l.length) a (CS c₀ cs₀ u) W
  | [], k, t, vs, m, t1, vs1, m1, _, _, _, h, W, μ, a, u, hd, ht, hG, hm, hQ => by
    simp only [vopsS] at h
    cases h
    exact hQ a W u ⟨μ, Mu.le_refl _, ht, hG, hd, hm⟩
  | o :: rest, k, t, vs, m, t1, vs1, m1, hl, hok, hng0, h, W, μ, a, u, hd, ht, hG, hm, hQ => by
    have ho : ops[k]? = some o := by have := hl 0; simpa using this.symm
    have hl' : ∀ j, rest[j]? = ops[k + 1 + j]? := fun j => by
      have := hl (j + 1)
      rw [List.getElem?_cons_succ] at this
      rw [this]; congr 1; omega
    have hok' : ∀ o' ∈ rest, ∀ x ∈ o'.op.operands, okOperand ng x = true := fun o' h' => hok o' (List.mem_cons_of_mem _ h')
    simp only [List.length_cons, List.range'_succ, wpOpsS, ho]
    rw [wanted_rel ht]
    simp only [vopsS, Bool.cond_eq_ite] at h
    split at h
    · rename_i hw
      rw [if_pos hw]
      split at h
      · rename_i hrec
        rw [isRec_run hrec]
        simp only
        cases m with
        | pan v =>
          obtain ⟨v', hv, rfl⟩ := hm
          simp only at h
          have : recoverD (CS c₀ cs₀ (.panicking (panicked v'))) = some (v', CS c₀ cs₀ (.panicking [{ v := v', recovered := true }])) := rfl
          rw [this]
          exact vopsS_sound hE hcall ops hngc rest (k + 1) _ _ _ _ _ _ hl' hok' hng0 h W μ _ _ (by rw [put_defers]; exact hd) (put_rel ht hv o.dst) hG ⟨v', hv, rfl⟩ hQ
        | ret =>
          cases hm
          have : recoverD (CS c₀ cs₀ .returning) = none := rfl
          rw [this]
          exact vopsS_sound hE hcall ops hngc rest (k + 1) _ _ _ _ _ _ hl' hok' hng0 h W μ _ _ (by rw [put_defers]; exact hd) (put_rel ht .nilIface o.dst) hG rfl hQ
        | got v =>
          obtain ⟨v', hv, rfl⟩ := hm
          have : recoverD (CS c₀ cs₀ (.panicking [{ v := v', recovered := true }])) = none := rfl
          rw [this]
          exact vopsS_sound hE hcall ops hngc rest (k + 1) _ _ _ _ _ _ hl' hok' hng0 h W μ _ _ (by rw [put_defers]; exact hd) (put_rel ht .nilIface o.dst) hG ⟨v', hv, rfl⟩ hQ
      have hrel : ∀ x ∈ o.op.operands, R μ (vev t x) (a.eval x) := fun x hx => ev_rel hG ht (by rw [hng0]; exact hok o (by simp) x hx)
      cases hx : op vs (vev t) o with
      | none => rw [hx] at h; cases h
      | some r =>
        obtain ⟨n, vs2⟩ := r
        rw [hx] at h
        obtain ⟨μ1, W1, n', hle, hG1, hrun, hn⟩ := hE.op _ _ _ _ _ hx N0 W0 W μ a.eval hG hrel
        obtain ⟨hng1, hd1⟩ := hE.ng _ _ _ _ _ hx
        rw [hng0] at hng1
        have hd' : DR μ1 vs2.dfr a.defers := by rw [hd1]; exact hd.mono hle
        rw [hrun]
        cases n with
        | value v =>
          cases n' <;> simp only [RN] at hn
          rename_i v'
          simp only [Oper.upon]
          exact vopsS_sound hE hcall ops hngc rest (k + 1) _ _ _ _ _ _ hl' hok' hng1 h W1 μ1 _ _ (by rw [put_defers]; exact hd') (put_rel (ht.mono hle) hn o.dst) hG1 (hm.mono hle) (fun a' w u s => hQ a' w u (s.mono hle))
        | skip =>
          cases n' <;> simp only [RN] at hn
          simp only [Oper.upon]
          exact vopsS_sound hE hcall ops hngc rest (k + 1) _ _ _ _ _ _ hl' hok' hng1 h W1 μ1 _ _ (by rw [put_defers]; exact hd') (put_rel (ht.mono hle) R_undef o.dst) hG1 (hm.mono hle) (fun a' w u s => hQ a' w u (s.mono hle))
        | defer g cap args => cases h
        | enter f args =>
          cases n' <;> simp only [RN] at hn
          rename_i g args'
          obtain ⟨rfl, hargs⟩ := hn
          simp only at h
          cases hc : call f args vs2 with
          | none => rw [hc] at h; cases h
          | some r =>
            obtain ⟨v, vs3⟩ := r
            rw [hc] at h
            cases v with
            | pan v => cases h
            | ret v => ?_
            simp only [Oper.upon]
            refine (hcall _ _ _ _ _ hc N0 W0 W1 μ1 args' hargs hG1).mono ?_
            obtain ⟨hng2, hd2⟩ := hngc _ _ _ _ _ hc
            rintro e W' ⟨μ2, hle2, hG2, v', hv, rfl⟩
            have hle3 := Mu.le_trans hle hle2
            exact vopsS_sound hE hcall ops hngc rest (k + 1) _ _ _ _ _ _ hl' hok' (by rw [hng2, hng1]) h W' μ2 _ _ (by rw [put_defers, hd2]; exact hd'.mono hle2) (put_rel (ht.mono hle3) hv o.dst) hG2 (hm.mono hle3) (fun a' w u s => hQ a' w u (s.mono hle3))
    · rename_i hw
      rw [if_neg hw]
      exact vopsS_sound hE hcall ops hngc rest (k + 1) _ _ _ _ _ _ hl' hok' hng0 h W μ _ _ (by rw [put_defers]; exact hd) (put_rel ht R_undef o.dst) hG hm hQ

noncomputable def vcodeS (op : OpE) (qt : QtE) (fx : FX) (call : CallE) (tl : Nat → Option RS) : Nat → Code → List Value → VS → VM → Option (VX × VM)
  | 0, _, _, _, _ => none
  | n + 1, c, t, vs, m =>
    match c with
    | .seq a b => match vcodeS op qt fx call tl n a t vs m with
      | some (.normal t1 vs1, m1) => bif Nat.beq vs1.ng vs.ng then vcodeS op qt fx call tl n b t1 vs1 m1 else none
      | r => r
    | .cond x a b => match vev t x with
      | .bool b1 => bif b1 then vcodeS op qt fx call tl n a t vs m else vcodeS op qt fx call tl n b t vs m
      | _ => none
    | .region _ ops false => match vopsS op call ops.toList ops.toList t vs m with
      | some (t1, vs1, m1) => some (.normal t1 vs1, m1)
      | none => none
    | c => match vcode op qt fx call tl (n + 1) c t vs with
      | some x => some (x, m)
      | none => none
def PostS (N0 : Nat → Prop) (W0 : World) (μ : Mu) (c₀ : Frame) (cs₀ : List Frame) (x : VX) (m : VM) (e : Exit) (a : Act) (cs : List Frame) (w : World) : Prop :=
  ∃ μ1 u, μ.le μ1 ∧ cs = CS c₀ cs₀ u ∧ RM μ1 m u ∧ Post N0 W0 μ1 x e a w
theorem PostS.mono {μ ν : Mu} (h : μ.le ν) {c₀ : Frame} {cs₀ : List Frame} {x : VX} {m : VM} {e : Exit} {a : Act} {cs : List Frame} {w : World} (s : PostS N0 W0 ν c₀ cs₀ x m e a cs w) : PostS N0 W0 μ c₀ cs₀ x m e a cs w :=
  let ⟨m, u, h2, h3⟩ := s; ⟨m, u, Mu.le_trans h h2, h3⟩
omit [Base] in
theorem wpS_mono {c : Code} {Q Q' : Exit → Act → List Frame → World → Prop} {a : Act} {cs : List Frame} {w : World} (h : c.wpS P Q a cs w) (hq : ∀ e a cs w, Q e a cs w → Q' e a cs w) : c.wpS P Q' a cs w :=
  fun b k hb hr => let ⟨e, a', cs', w', q, r⟩ := h b k hb hr; ⟨e, a', cs', w', hq _ _ _ _ q, r⟩

theorem vcodeS_sound {op : OpE} {qt : QtE} {fx : FX} {call : CallE} (hE : EngOk P op qt fx) (hcall : CallOK P call) (hngc : ∀ f args vs v vs1, call f args vs = some (v, vs1) → Keeps vs vs1) {ng : Nat} {tl : Nat → Option RS} {c₀ : Frame} {cs₀ : List Frame} :
    ∀ (n : Nat) (c : Code) (t : List Value) (vs : VS) (m : VM) (x : VX) (m1 : VM), codeOk ng tl c = true → vs.ng = ng → vcodeS op qt fx call tl n c t vs m = some (x, m1) →
      ∀ (N0 : Nat → Prop) (W0 W : World) (μ : Mu) (a : Act) (u : FrameMode), DR μ vs.dfr a.defers → RA μ t.toArray a.tmps → G N0 W0 vs W μ → RM μ m u → c.wpS P (PostS N0 W0 μ c₀ cs₀ x m1) a (CS c₀ cs₀ u) W
  | 0, _, _, _, _, _, _, _, _, h, _, _, _, _, _, _, _, _, _, _ => by simp [vcodeS] at h
  | n + 1, c, t, vs, m, x, m1, hok, hng, h, N0, W0, W, μ, a, u, hd, ht, hG, hm => by
    have ih := vcodeS_sound hE hcall hngc (ng := ng) (tl := tl) (c₀ := c₀) (cs₀ := cs₀) n
    unfold vcodeS at h
    split at h
    · rename_i c1 c2
      simp only [codeOk, Bool.and_eq_true] at hok
      refine wpS_seq ?_
      split at h
      · rename_i t1 vs1 m2 hx
        simp only [Bool.cond_eq_ite] at h
        split at h
        case isFalse => cases h
        rename_i hng1
        have hng1 := Nat.eq_of_beq_eq_true hng1
        refine wpS_mono (ih c1 t vs m _ m2 hok.1 hng hx N0 W0 W μ a u hd ht hG hm) ?_
        rintro e a' cs w ⟨μ1, u', hle, rfl, hm', rfl, μ2, hle2, ht', hG', hd'⟩
        exact wpS_mono (ih c2 t1 vs1 m2 x m1 hok.2 (by rw [hng1, hng]) h N0 W0 w μ2 a' u' hd' ht' hG' (hm'.mono hle2)) fun e a cs w s => s.mono (Mu.le_trans hle hle2)
      · rename_i hnn
        refine wpS_mono (ih c1 t vs m x m1 hok.1 hng h N0 W0 W μ a u hd ht hG hm) ?_
        intro e a' cs w hp
        obtain ⟨μ1, u', hle, hcs, hm', hp⟩ := hp
        cases x with
        | normal t1 vs1 => exact absurd h (hnn t1 vs1 m1)
        | exit id t1 vs1 => obtain ⟨rfl, hs⟩ := hp; exact ⟨μ1, u', hle, hcs, hm', rfl, hs⟩
        | ret t1 vs1 => obtain ⟨rfl, hs⟩ := hp; exact ⟨μ1, u', hle, hcs, hm', rfl, hs⟩
        | pan v t1 vs1 => obtain ⟨m, v', q1, rfl, q2⟩ := hp; exact ⟨μ1, u', hle, hcs, hm', m, v', q1, rfl, q2⟩
    · rename_i y c1 c2
      simp only [codeOk, Bool.and_eq_true] at hok
      split at h
      case h_2 => cases h
      rename_i b1 hb
      have hev := ev_rel hG ht (x := y) (by rw [hng]; exact hok.1.1)
      rw [hb] at hev
      refine wpS_cond (t := b1) hev.inv_bool ?_
      cases b1 with
      | true => exact ih c1 t vs m x m1 hok.1.2 hng h N0 W0 W μ a u hd ht hG hm
      | false => exact ih c2 t vs m x m1 hok.2 hng h N0 W0 W μ a u hd ht hG hm
    · rename_i id ops
      simp only [codeOk, Bool.and_eq_true, List.all_eq_true] at hok
      have hops' : ∀ o ∈ ops.toList, ∀ y ∈ o.op.operands, okOperand ng y = true := fun o ho y hy => hok.1 o ho y (by simpa using hy)
      split at h
      case h_2 => cases h
      rename_i t1 vs1 m2 hx
      cases h
      refine wpS_region ?_
      have := vopsS_sound (P := P) (N0 := N0) (W0 := W0) (c₀ := c₀) (cs₀ := cs₀) (Q := PostS N0 W0 μ c₀ cs₀ (.normal t1 vs1) m1) hE hcall ops hngc ops.toList 0 t vs m t1 vs1 m1 (fun j => by simp) hops' hng hx W μ a u hd ht hG hm
        (fun a' w u' s => let ⟨m, q1, q2, q3, q4, q5⟩ := s; ⟨m, u', q1, rfl, q5, rfl, m, Mu.le_refl _, q2, q3, q4⟩)
      simpa [List.range_eq_range'] using this
    · split at h
      case h_2 => cases h
      rename_i x' hx
      cases h
      refine wpS_of_wp (wp_mono (wp_of_wpL (vcode_sound hE hcall hngc (ng := ng) (n + 1) _ t vs x hok hng hx N0 W0 W μ a hd ht hG)) ?_)
      intro e a' w hp
      exact ⟨μ, u, Mu.le_refl _, rfl, hm, hp⟩

/- The functions that are run: what is kept of each. -/
structure VF where
  ntmps : Nat
  results : List ResultVar
  body : Code
  tails : List (Nat × RS)
def tlOf : List (Nat × RS) → Nat → Option RS
  | [], _ => none
  | (i, n) :: l, j => bif Nat.beq i j then some n else tlOf l j
def TblOk (P : Program) (ng : Nat) (tbl : Nat → Option VF) : Prop :=
  ∀ f F, tbl f = some F → codeOk ng (tlOf F.tails) F.body = true ∧ ∃ fn, P.funcs[f]? = some fn ∧ fn.body = some F.body ∧ fn.ntmps = F.ntmps ∧ fn.results.toList = F.results

def pad (t : List Value) (n : Nat) : List Value := t ++ List.replicate (n - t.length) undef
def VS.off (vs : VS) (l : List VD) : VS := { heap := vs.heap, next := vs.next, ng := vs.ng, objs := vs.objs, dfr := l }

omit [Base] in
theorem pad_rel {args : Array Value} {args' : Array Value} (h : RA μ args args') (n : Nat) : RA μ (pad args.toList n).toArray (args' ++ Array.replicate (n - args'.size) undef) := by
  have h2 : RA μ (Array.replicate (n - args'.size) undef) (Array.replicate (n - args'.size) undef) := RA_self μ (plainA_of fun i x hx => by
    have := Array.mem_of_getElem? hx
    simp at this
    rw [this.2]; rfl)
  have := h.append h2
  have e : (pad args.toList n).toArray = args ++ Array.replicate (n - args'.size) undef := by
    apply Array.ext'
    simp [pad, h.1]
  rw [e]; exact this


omit [Base] in
theorem leaves_mono {fn : Func} {tmps : Array Value} {R R' : Ending → World → Prop} (h : ∀ e w, R e w → R' e w) : ∀ (ds : List Deferred) (u : FrameMode) (w : World), Leaves P fn tmps R ds u w → Leaves P fn tmps R' ds u w
  | [], .returning, w, ⟨v, h1, h2⟩ => ⟨v, h1, h _ _ h2⟩
  | [], .panicking _, w, k => h _ _ k
  | [], .run, _, k => k
  | d :: ds, u, w, ⟨hu, fv, cap, f, args, h1, h2, h3⟩ => ⟨hu, fv, cap, f, args, h1, h2, h3.mono fun e u' w' => by
      cases e with
      | returned v => exact fun k => leaves_mono h ds _ _ k
      | panicked c => exact fun k => leaves_mono h ds _ _ k
      | outgrown => exact fun k => h _ _ k⟩

/- A deferred call. -/
noncomputable def vdcall (T : TE) (op : OpE) (qt : QtE) (fx : FX) (ng : Nat) (tbl : Nat → Option VF) (fuel : Nat) (call : CallE) (f : FuncId) (args : List Value) (m : VM) (vs : VS) : Option (VM × VS) :=
  bif Nat.beq vs.ng ng then match tbl f with
    | none => none
    | some F => match vcodeS op qt fx call (tlOf F.tails) fuel F.body (pad args F.ntmps) (vs.off []) m with
      | some (.ret t vs1, m1) => match vs1.dfr, vresults T vs1 t F.results with
        | [], some _ => some (m1, vs1)
        | _, _ => none
      | some (.normal t vs1, m1) => match vs1.dfr, vresults T vs1 t F.results with
        | [], some _ => some (m1, vs1)
        | _, _ => none
      | _ => none
  else none

theorem vdcall_sound {op : OpE} {qt : QtE} {fx : FX} {tbl : Nat → Option VF} {fuel ng : Nat} {call : CallE} (hE : EngOk P op qt fx) (hT : TblOk P ng tbl) (hcall : CallOK P call) (hngc : ∀ f args vs v vs1, call f args vs = some (v, vs1) → Keeps vs vs1)
    {f : FuncId} {args : List Value} {m m1 : VM} {vs vs1 : VS} (h : vdcall T op qt fx ng tbl fuel call f args m vs = some (m1, vs1)) {args' : Array Value} {u : FrameMode} (ha : RA μ args.toArray args') (hm : RM μ m u) (hG : G N0 W0 vs W μ) :
    hasBody P f = true ∧ CallsD P f args' u W fun e u' W' => ∃ μ1 v, μ.le μ1 ∧ e = .returned v ∧ RM μ1 m1 u' ∧ G N0 W0 vs1 W' μ1 := by
  unfold vdcall at h
  simp only [Bool.cond_eq_ite] at h
  split at h
  case isFalse => cases h
  rename_i hng
  have hng := Nat.eq_of_beq_eq_true hng
  split at h
  case h_1 => cases h
  rename_i F hF
  obtain ⟨hok, fn, hfn, hb, hn, hr⟩ := hT f F hF
  refine ⟨by simp [hasBody, hfn, hb], callsD_of_wpS hfn hb fun c₀ cs hu => ?_⟩
  rw [hn]
  have hcs : c₀ :: cs = CS c₀ cs u := by subst hu; rfl
  rw [hcs]
  have hp := pad_rel (args := args.toArray) ha F.ntmps
  have fin : ∀ (t : List Value) (vs2 : VS) (e : Exit) (a' : Act) (cs' : List Frame) (w : World) (r : List Value), vresults T vs2 t F.results = some r → vs2.dfr = [] → (∃ μ1 u', μ.le μ1 ∧ cs' = CS c₀ cs u' ∧ RM μ1 m1 u' ∧ St N0 W0 μ1 t vs2 a' w) →
      a'.defers = [] ∧ ∃ u', cs' = { c₀ with mode := u' } :: cs ∧ ∃ v, (results fn a'.tmps).run P w = .ok v w ∧ ∃ μ1 v', μ.le μ1 ∧ Ending.returned v = .returned v' ∧ RM μ1 m1 u' ∧ G N0 W0 vs2 w μ1 := by
    rintro t vs2 e a' cs' w r hres hd0 ⟨μ1, u', hle, rfl, hm', μ2, hle2, ht', hG', hd'⟩
    rw [hd0] at hd'
    obtain ⟨v', h1, h2⟩ := one_run (P := P) hG' ht' (fn := fn) (by rw [hr]; exact hres)
    exact ⟨hd'.nil_iff, u', rfl, v', h1, μ2, v', Mu.le_trans hle hle2, rfl, hm'.mono hle2, hG'⟩
  split at h
  · rename_i t vs2 m2 hx
    split at h
    case h_2 => cases h
    rename_i hd0 hres
    cases h
    refine wpS_mono (vcodeS_sound hE hcall hngc (ng := ng) fuel F.body _ (vs.off []) m _ _ hok hng hx N0 W0 W μ _ u trivial hp (hG.put_off []) hm) ?_
    rintro e a' cs' w ⟨μ1, u', hle, hcs', hm', rfl, hs⟩
    exact fin t _ .ret a' cs' w _ hres hd0 ⟨μ1, u', hle, hcs', hm', hs⟩
  · rename_i t vs2 m2 hx
    split at h
    case h_2 => cases h
    rename_i hd0 hres
    cases h
    refine wpS_mono (vcodeS_sound hE hcall hngc (ng := ng) fuel F.body _ (vs.off []) m _ _ hok hng hx N0 W0 W μ _ u trivial hp (hG.put_off []) hm) ?_
    rintro e a' cs' w ⟨μ1, u', hle, hcs', hm', rfl, hs⟩
    exact fin t _ .ret a' cs' w _ hres hd0 ⟨μ1, u', hle, hcs', hm', hs⟩
  · cases h

/- The calls that were put off, and how the call then ends. -/
noncomputable def vleave (T : TE) (op : OpE) (qt : QtE) (fx : FX) (ng : Nat) (tbl : Nat → Option VF) (fuel : Nat) (call : CallE) (rs : List ResultVar) (t : List Value) : List VD → VM → VS → Option (VE × VS)
  | [], .ret, vs => match vresults T vs t rs with
    | some r => some (.ret (one r), vs)
    | none => none
  | [], .pan v, vs => some (.pan v, vs)
  | [], .got _, _ => none
  | d :: ds, m, vs => match vdcall T op qt fx ng tbl fuel call d.g (d.args ++ d.cap) m vs with
    | some (m1, vs1) => vleave T op qt fx ng tbl fuel call rs t ds (settleV m1) vs1
    | none => none
omit [Base] in
theorem RM.ne_run {m : VM} {u : FrameMode} (h : RM μ m u) : u ≠ .run := by
  cases m with
  | ret => cases h; simp
  | pan v => obtain ⟨_, _, rfl⟩ := h; simp
  | got v => obtain ⟨_, _, rfl⟩ := h; simp
theorem vleave_sound {op : OpE} {qt : QtE} {fx : FX} {tbl : Nat → Option VF} {fuel ng : Nat} {call : CallE} (hE : EngOk P op qt fx) (hT : TblOk P ng tbl) (hcall : CallOK P call) (hngc : ∀ f args vs v vs1, call f args vs = some (v, vs1) → Keeps vs vs1)
    {fn : Func} {rs : List ResultVar} (hrs : fn.results.toList = rs) {t : List Value} {tmps : Array Value} {e : VE} {vs1 : VS} {μ0 : Mu} :
    ∀ (ds : List VD) (m : VM) (vs : VS), vleave T op qt fx ng tbl fuel call rs t ds m vs = some (e, vs1) → ∀ (W : World) (μ : Mu) (u : FrameMode) (ds' : List Deferred), μ0.le μ → DR μ ds ds' → RM μ m u → RA μ t.toArray tmps → G N0 W0 vs W μ →
      Leaves P fn tmps (fun e' W' => ∃ μ1, μ0.le μ1 ∧ G N0 W0 vs1 W' μ1 ∧ REnd μ1 e e') ds' u W
  | [], m, vs, h, W, μ, u, ds', h0, hd, hm, ht, hG => by
    cases hd.nil_iff
    cases m with
    | ret =>
      cases hm
      simp only [vleave] at h
      split at h
      case h_2 => cases h
      rename_i r hres
      cases h
      obtain ⟨v', h1, h2⟩ := one_run (P := P) hG ht (fn := fn) (by rw [hrs]; exact hres)
      exact ⟨v', h1, μ, h0, hG, v', h2, rfl⟩
    | pan v =>
      obtain ⟨v', hv, rfl⟩ := hm
      simp only [vleave] at h
      cases h
      exact ⟨μ, h0, hG, v', hv, rfl⟩
    | got v => simp [vleave] at h
  | d :: ds, m, vs, h, W, μ, u, [], h0, hd, hm, ht, hG => hd.elim
  | d :: ds, m, vs, h, W, μ, u, d' :: ds', h0, hd, hm, ht, hG => by
    obtain ⟨⟨cap', htar, hcap, hargs⟩, hd⟩ := hd
    simp only [vleave] at h
    split at h
    case h_2 => cases h
    rename_i m2 vs2 hx
    have hra := hargs.append hcap
    rw [List.append_toArray] at hra
    obtain ⟨hb, hcd⟩ := vdcall_sound (T := T) (fuel := fuel) hE hT hcall hngc hx hra hm hG
    refine ⟨hm.ne_run, .func d.g, cap', d.g, d'.args ++ cap', htar, ?_, ?_⟩
    · unfold hasBody at hb
      split at hb
      case h_2 => cases hb
      rename_i f hf
      have hname : ¬ f.name = "runtime.NumGoroutine" := by simpa using hE.names d.g f hf hb
      have hnone : ¬ f.body = none := by cases h : f.body <;> simp_all
      rw [htar]
      simp [invoke, callFunc, hf, hname, hnone]
    · refine hcd.mono ?_
      rintro e' u' W' ⟨μ1, v, hle, rfl, hm', hG'⟩
      exact vleave_sound hE hT hcall hngc hrs ds (settleV m2) vs2 h W' μ1 (settle u') ds' (Mu.le_trans h0 hle) (hd.mono hle) (settle_rel hm') (ht.mono hle) hG'

noncomputable def vback (ng : Nat) (l : List VD) : Option (VE × VS) → Option (VE × VS)
  | some (e, vs) => bif Nat.beq vs.ng ng then some (e, vs.off l) else none
  | none => none
noncomputable def vcall (T : TE) (op : OpE) (qt : QtE) (fx : FX) (ng : Nat) (tbl : Nat → Option VF) (fuel : Nat) : Nat → CallE
  | 0, _, _, _ => none
  | d + 1, f, args, vs => bif Nat.beq vs.ng ng then match tbl f with
    | none => none
    | some F => match vcode op qt fx (vcall T op qt fx ng tbl fuel d) (tlOf F.tails) fuel F.body (pad args.toList F.ntmps) (vs.off []) with
      | some (.ret t vs1) => vback ng vs.dfr (vleave T op qt fx ng tbl fuel (vcall T op qt fx ng tbl fuel d) F.results t vs1.dfr .ret vs1)
      | some (.normal t vs1) => vback ng vs.dfr (vleave T op qt fx ng tbl fuel (vcall T op qt fx ng tbl fuel d) F.results t vs1.dfr .ret vs1)
      | some (.pan v t vs1) => vback ng vs.dfr (vleave T op qt fx ng tbl fuel (vcall T op qt fx ng tbl fuel d) F.results t vs1.dfr (.pan v) vs1)
      | _ => none
    else none

omit [Base] in
theorem vback_some {ng : Nat} {l : List VD} {x : Option (VE × VS)} {e : VE} {vs1 : VS} (h : vback ng l x = some (e, vs1)) : ∃ vs, x = some (e, vs) ∧ vs.ng = ng ∧ vs1 = vs.off l := by
  unfold vback at h
  split at h
  · simp only [Bool.cond_eq_ite] at h
    split at h
    · rename_i hb; cases h; exact ⟨_, rfl, Nat.eq_of_beq_eq_true hb, rfl⟩
    · cases h
  · cases h

omit [TOk P T] in
omit [Base] in
theorem vcall_ng {op : OpE} {qt : QtE} {fx : FX} {ng : Nat} {tbl : Nat → Option VF} {fuel : Nat} : ∀ (d : Nat) f args vs v vs1, vcall T op qt fx ng tbl fuel d f args vs = some (v, vs1) → Keeps vs vs1
  | 0, _, _, _, _, _, h => by simp [vcall] at h
  | d + 1, f, args, vs, v, vs1, h => by
    simp only [vcall, Bool.cond_eq_ite] at h
    split at h
    case isFalse => cases h
    rename_i hng
    have hng := Nat.eq_of_beq_eq_true hng
    split at h
    case h_1 => cases h
    split at h
    · obtain ⟨vs2, _, h2, rfl⟩ := vback_some h; exact ⟨h2.trans hng.symm, rfl⟩
    · obtain ⟨vs2, _, h2, rfl⟩ := vback_some h; exact ⟨h2.trans hng.symm, rfl⟩
    · obtain ⟨vs2, _, h2, rfl⟩ := vback_some h; exact ⟨h2.trans hng.symm, rfl⟩
    · cases h

theorem vcall_sound {op : OpE} {qt : QtE} {fx : FX} {tbl : Nat → Option VF} {fuel ng : Nat} (hE : EngOk P op qt fx) (hT : TblOk P ng tbl) : ∀ (d : Nat), CallOK P (vcall T op qt fx ng tbl fuel d)
  | 0 => fun _ _ _ _ _ h => by simp [vcall] at h
  | d + 1 => by
    intro f args vs e vs1 h N0 W0 W μ args' ha hG
    simp only [vcall, Bool.cond_eq_ite] at h
    split at h
    case isFalse => cases h
    rename_i hng
    have hng := Nat.eq_of_beq_eq_true hng
    split at h
    case h_1 => cases h
    rename_i F hF
    obtain ⟨hok, fn, hfn, hb, hn, hr⟩ := hT f F hF
    refine calls_of_wp_defers hfn hb ?_
    rw [hn]
    have hcall := vcall_sound (fuel := fuel) hE hT d
    have hngc := vcall_ng (T := T) (op := op) (qt := qt) (fx := fx) (ng := ng) (tbl := tbl) (fuel := fuel) d
    have fin : ∀ (t : List Value) (vs2 : VS) (m : VM) (u : FrameMode) (a' : Act) (w : World) (μ1 : Mu), vback ng vs.dfr (vleave T op qt fx ng tbl fuel (vcall T op qt fx ng tbl fuel d) F.results t vs2.dfr m vs2) = some (e, vs1) →
        μ.le μ1 → RM μ1 m u → RA μ1 t.toArray a'.tmps → G N0 W0 vs2 w μ1 → DR μ1 vs2.dfr a'.defers → Leaves P fn a'.tmps (fun e' W' => ∃ μ1, μ.le μ1 ∧ G N0 W0 vs1 W' μ1 ∧ REnd μ1 e e') a'.defers u w := by
      intro t vs2 m u a' w μ1 h hle hm ht hG hd
      obtain ⟨vs3, h1, _, rfl⟩ := vback_some h
      have key := vleave_sound (μ0 := μ) hE hT hcall hngc hr vs2.dfr m vs2 h1 w μ1 u a'.defers hle hd hm ht hG
      exact leaves_mono (fun e' W' h => let ⟨m, q1, q2, q3⟩ := h; ⟨m, q1, q2.put_off _, q3⟩) a'.defers u w key
    split at h
    · rename_i t vs2 hx
      refine wp_mono (wp_of_wpL (vcode_sound hE hcall hngc (ng := ng) fuel F.body _ (vs.off []) _ hok hng hx N0 W0 W μ _ trivial (pad_rel ha F.ntmps) (hG.put_off []))) ?_
      rintro e a' w ⟨rfl, μ1, hle, ht', hG', hd'⟩
      exact fin t _ .ret .returning a' w μ1 h hle rfl ht' hG' hd'
    · rename_i t vs2 hx
      refine wp_mono (wp_of_wpL (vcode_sound hE hcall hngc (ng := ng) fuel F.body _ (vs.off []) _ hok hng hx N0 W0 W μ _ trivial (pad_rel ha F.ntmps) (hG.put_off []))) ?_
      rintro e a' w ⟨rfl, μ1, hle, ht', hG', hd'⟩
      exact fin t _ .ret .returning a' w μ1 h hle rfl ht' hG' hd'
    · rename_i v t vs2 hx
      refine wp_mono (wp_of_wpL (vcode_sound hE hcall hngc (ng := ng) fuel F.body _ (vs.off []) _ hok hng hx N0 W0 W μ _ trivial (pad_rel ha F.ntmps) (hG.put_off []))) ?_
      rintro e a' w ⟨μ1, v', hle, rfl, hv, ht', hG', hd'⟩
      exact fin t _ (.pan v) (.panicking (panicked v')) a' w μ1 h hle ⟨v', hv, rfl⟩ ht' hG' hd'
    · cases h

end Go.Ev
