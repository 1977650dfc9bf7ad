/-
  A closed call, told by the kernel: what the evaluator answers, the machine answers, in whatever memory.
-/
import Derived.Test.YtahblmcjocepeaaDoorGg
import Derived.KernelRfl
namespace Go.Ev
open Go.RowKit
variable [Base]

variable {P : Program} {T : TE} [TOk P T]

omit [Base] in
theorem ng_write {vs vs1 : VS} {a : Addr} {xs : List Value} (h : vwrite vs a xs = some vs1) : Keeps vs vs1 := by
  unfold vwrite at h
  split at h
  · simp only [Bool.cond_eq_ite] at h
    split at h
    · cases h; exact ⟨rfl, rfl⟩
    · cases h
  · cases h

omit [TOk P T] in
omit [Base] in
theorem vop_ng {vs vs1 : VS} {ρ : Operand → Value} {o : Oper} {n : VN} (h : vop P T vs ρ o = some (n, vs1)) : Keeps vs vs1 := by
  have hsame : ∀ x : Option VN, same vs x = some (n, vs1) → Keeps vs vs1 := fun x h => by rw [(same_some h).2]; exact ⟨rfl, rfl⟩
  have hup : ∀ {t : TypeId} {m k x : Operand}, oUpdate P T vs ρ t m k x = some (n, vs1) → Keeps vs vs1 := fun {t m k x} h => by
    unfold oUpdate at h
    split at h
    · rename_i vs2 hu
      cases h
      unfold vupdate at hu
      repeat' (first | (split at hu) | (simp only [Bool.cond_eq_ite] at hu))
      all_goals first | (cases hu; exact ⟨rfl, rfl⟩) | (cases hu; done)
    · split at h
      · rename_i vs2 hu
        cases h
        unfold vupdateW at hu
        repeat' (first | (split at hu) | (simp only [Bool.cond_eq_ite] at hu))
        all_goals first | (cases hu; exact ⟨rfl, rfl⟩) | (cases hu; done)
      · cases h
  unfold vop at h
  split at h
  · unfold valloc at h
    repeat' (first | (split at h) | (simp only [Bool.cond_eq_ite] at h))
    all_goals first | (cases h; exact ⟨rfl, rfl⟩) | (cases h; done)
  · cases h; exact ⟨rfl, rfl⟩
  · unfold oStore at h
    split at h
    · split at h
      · rename_i vs2 hs
        cases h
        unfold vstore at hs
        split at hs
        · simp only [Bool.cond_eq_ite] at hs
          split at hs
          · exact ng_write hs
          · cases hs
        · cases hs
      · cases h
    · cases h
  · unfold vmake at h
    repeat' (first | (split at h) | (simp only [Bool.cond_eq_ite] at h))
    all_goals first | (cases h; exact ⟨rfl, rfl⟩) | (cases h; done)
  · unfold vbuildSlice at h
    repeat' (first | (split at h) | (simp only [Bool.cond_eq_ite] at h))
    all_goals first | (cases h; exact ⟨rfl, rfl⟩) | (cases h; done)
  · unfold oSlice at h
    split at h
    · split at h
      · simp only [Bool.cond_eq_ite] at h
        split at h
        · unfold vsliceEnd at h
          repeat' (first | (split at h) | (simp only [Bool.cond_eq_ite] at h))
          all_goals first | (cases h; exact ⟨rfl, rfl⟩) | (cases h; done)
        · cases h; exact ⟨rfl, rfl⟩
      · cases h
    · split at h
      · cases h; exact ⟨rfl, rfl⟩
      · cases h
    · exact hsame _ h
  · unfold oSlice3 at h
    split at h
    · unfold vslice3 at h
      repeat' (first | (split at h) | (simp only [Bool.cond_eq_ite] at h))
      all_goals first | (cases h; exact ⟨rfl, rfl⟩) | (cases h; done)
    · exact hsame _ h
  · unfold oConv at h
    split at h
    · split at h
      · unfold vbytes at h
        repeat' (first | (split at h) | (simp only [Bool.cond_eq_ite] at h))
        all_goals first | (cases h; exact ⟨rfl, rfl⟩) | (cases h; done)
      · exact hsame _ h
    · exact hsame _ h
    · exact hsame _ h
  · unfold oCall at h
    split at h
    · split at h
      · unfold vappend vappendG at h
        repeat' (first | (split at h) | (simp only [Bool.cond_eq_ite] at h))
        all_goals first | (cases h; exact ⟨rfl, rfl⟩) | (cases h; done) | skip
        all_goals (cases h; first | exact ⟨rfl, rfl⟩ | exact ng_write (by assumption))
      · cases h
    · split at h
      · unfold vcopy at h
        repeat' (first | (split at h) | (simp only [Bool.cond_eq_ite] at h))
        all_goals first | (cases h; exact ⟨rfl, rfl⟩) | (cases h; done) | skip
        all_goals (cases h; first | exact ⟨rfl, rfl⟩ | exact ng_write (by assumption))
      · cases h
    · split at h
      · split at h
        · rename_i vs2 hd
          cases h
          unfold vdelete at hd
          repeat' (first | (split at hd) | (simp only [Bool.cond_eq_ite] at hd))
          all_goals first | (cases hd; exact ⟨rfl, rfl⟩) | (cases hd; done)
        · cases h
      · cases h
    · split at h
      · split at h
        · rename_i vs2 hd
          cases h
          unfold vclear at hd
          repeat' (first | (split at hd) | (simp only [Bool.cond_eq_ite] at hd))
          all_goals first | (cases hd; exact ⟨rfl, rfl⟩) | (cases hd; done) | exact ng_write hd
        · cases h
      · cases h
    · split at h
      · split at h
        · split at h
          · rename_i v vs2 hb
            cases h
            unfold vbyteText at hb
            repeat' (first | (split at hb) | (simp only [Bool.cond_eq_ite] at hb))
            all_goals first | (cases hb; exact ⟨rfl, rfl⟩) | (cases hb; done)
          · cases h
        · exact hsame _ h
      · cases h
    · split at h
      · rename_i r hz
        cases h
        unfold vnoz at hz
        repeat' (first | (split at hz) | (simp only [Bool.cond_eq_ite] at hz))
        all_goals first | (cases hz; exact ⟨rfl, rfl⟩) | (cases hz; done)
      · exact hsame _ h
    · exact hsame _ h
  · unfold oDefer at h
    repeat' (first | (split at h) | (simp only [Bool.cond_eq_ite] at h))
    all_goals first | (cases h; exact ⟨rfl, rfl⟩) | (cases h; done)
  · unfold vmakeMap at h
    repeat' (first | (split at h) | (simp only [Bool.cond_eq_ite] at h))
    all_goals first | (cases h; exact ⟨rfl, rfl⟩) | (cases h; done)
  · exact hup h
  · exact hup h
  · unfold vrange at h
    repeat' (first | (split at h) | (simp only [Bool.cond_eq_ite] at h))
    all_goals first | (cases h; exact ⟨rfl, rfl⟩) | (cases h; done)
  · unfold vnext at h
    repeat' (first | (split at h) | (simp only [Bool.cond_eq_ite] at h))
    all_goals first | (cases h; exact ⟨rfl, rfl⟩) | (cases h; done)
  · exact hsame _ h

theorem engOk (hN : NamesOk P) (hm : P.follows .mixedOrders = true) : EngOk P (vop P T) (vquietM P T) (vfx T) :=
  ⟨fun _ _ _ _ _ h => vop_sound hN h, fun _ _ _ _ _ h => vop_ng h, fun _ _ _ _ h => vquietM_sound hN h, hm, hN, fxRun, ⟨fun _ _ _ _ _ _ _ _ hc h1 h2 h3 => vcm_ok hc h1 h2 h3, fun _ _ _ _ _ _ _ h => vapc_keeps h ng_write⟩⟩

/- The start: no memory of the evaluator's own; the variables where they are. -/
def startMuL (len : Nat → Nat) (ng : Nat) : Mu := fun g => if g < ng then some ⟨g, 0, 0, 1, len g⟩ else none
theorem G_startL (len : Nat → Nat) (W : World) (ng : Nat) (h : ng ≤ W.heap.size) (hb : Base.ok (old W) W) : G (old W) W ⟨[], ng, ng, [], []⟩ W (startMuL len ng) := by
  refine ⟨Kept.refl _ _, fun _ hk => hk, ?_, ?_, ?_, fun id B hm => by simp at hm, fun id B id' B' hm => by simp at hm, ⟨fun id O hm => by simp at hm, fun id O id' O' hm => by simp at hm⟩, hb⟩
  · intro a ha
    simp only at ha
    simp [startMuL]; omega
  · intro g l hg
    unfold startMuL at hg
    split at hg
    · cases hg; simp; omega
    · cases hg
  · intro g hg
    exact ⟨⟨g, 0, 0, 1, len g⟩, by simp [startMuL]; exact hg, rfl, rfl⟩

/- What a run begins with. -/
structure StartOk {α : Type} (ng : Nat) (vs0 : α → VS) : Prop where
  ng_ : ∀ a, (vs0 a).ng = ng
  world : ∀ W : World, ng ≤ W.heap.size → Base.ok (old W) W → ∃ a μ, G (old W) W (vs0 a) W μ
def startVS (ng : Nat) : Unit → VS := fun _ => ⟨[], ng, ng, [], []⟩
theorem startOk (ng : Nat) : StartOk ng (startVS ng) := ⟨fun _ => rfl, fun W h hb => ⟨(), _, G_startL (fun _ => 0) W ng h hb⟩⟩

theorem told (hN : NamesOk P) (hm : P.follows .mixedOrders = true) {ng fuel d : Nat} {tbl : Nat → Option VF} (hT : TblOk P ng tbl) {α : Type} {vs0 : α → VS} (h0 : StartOk ng vs0) {f : FuncId} {args : Array Value} {v : Value} {vs1 : α → VS} (hp : plainA args = true) (hv : plainB v = true)
    (h : ∀ a, vcall T (vop P T) (vquietM P T) (vfx T) ng tbl fuel d f args (vs0 a) = some (.ret v, vs1 a)) (W : World) (hW : ng ≤ W.heap.size) (hb : Base.ok (old W) W) :
    Calls P f args W fun e W' => e = .returned v ∧ Below W.heap.size W W' := by
  obtain ⟨a, μ, hG0⟩ := h0.world W hW hb
  refine (vcall_sound (engOk hN hm) hT d f args _ (.ret v) (vs1 a) (h a) (old W) W W μ args (RA_self _ hp) hG0).mono ?_
  rintro e W' ⟨μ1, _, hG, v', hr, rfl⟩
  exact ⟨by rw [hr.plain hv], hG.below.below⟩

/- The start with tables: variables whose cells are known, to be read; rows that a variable leads to, wherever they lie. -/
structure TRow where
  var : Nat
  ty : TypeId
  cells : List Value
  esz : Nat
  n : Nat
structure Tables where
  flat : List (Nat × List Value × TypeId)
  rows : List TRow
def AtFlat (N : Nat → Prop) (W : World) (x : Nat × List Value × TypeId) : Prop :=
  N x.1 ∧ ∃ c z, W.heap[x.1]? = some (.cells c x.2.2 z) ∧ ∀ (i : Nat) v, x.2.1[i]? = some v → c[i]? = some v
def AtRow (N : Nat → Prop) (W : World) (y : TRow) : Prop :=
  ∃ b o e, N y.var ∧ N b ∧ (∃ c z, W.heap[y.var]? = some (.cells c y.ty z) ∧ c[0]? = some (.slice (some ⟨b, o, none⟩) y.n y.n)) ∧
    ∃ c z, W.heap[b]? = some (.cells c e z) ∧ ∀ (i : Nat) v, y.cells[i]? = some v → c[o + i]? = some v
def LaidT (T : Tables) (N : Nat → Prop) (W : World) : Prop := (∀ x ∈ T.flat, AtFlat N W x) ∧ ∀ y ∈ T.rows, AtRow N W y
omit [Base] in
theorem LaidT.keep {T : Tables} {N N' : Nat → Prop} {w w' : World} (hk : Kept N w w') (hs : ∀ k, N k → N' k) (h : LaidT T N w) : LaidT T N' w' := by
  refine ⟨fun x hx => ?_, fun y hy => ?_⟩
  · obtain ⟨h1, c, z, h2, h3⟩ := h.1 x hx
    exact ⟨hs _ h1, c, z, by rw [hk.block _ h1]; exact h2, h3⟩
  · obtain ⟨b, o, e, h1, h2, ⟨c, z, h3, h4⟩, c', z', h5, h6⟩ := h.2 y hy
    exact ⟨b, o, e, hs _ h1, hs _ h2, ⟨c, z, by rw [hk.block _ h1]; exact h3, h4⟩, c', z', by rw [hk.block _ h2]; exact h5, h6⟩
abbrev baseOf (T : Tables) : Base := ⟨LaidT T, fun h1 h2 h3 => h3.keep h1 h2⟩

def rowB (y : TRow) (e : TypeId) : VB := ⟨y.cells, e, y.esz, 0, false, false, false, false⟩
def tabB (x : Nat × List Value × TypeId) : VB := ⟨x.2.1, x.2.2, 1, 0, false, false, false, false⟩
def varB (y : TRow) (id : Nat) : VB := ⟨[.slice (some ⟨id, 0, none⟩) y.n y.n], y.ty, 1, 0, false, false, false, false⟩
def VS.put (vs : VS) (g : Nat) (B : VB) : VS := { vs with heap := (g, B) :: vs.heap }
def addRows : List TRow → List TypeId → VS → VS
  | [], _, vs => vs
  | y :: l, es, vs => addRows l es.tail ((vs.add (rowB y (es.headD 0))).put y.var (varB y vs.next))
def addFlats : List (Nat × List Value × TypeId) → VS → VS
  | [], vs => vs
  | x :: l, vs => addFlats l (vs.put x.1 (tabB x))
def startT (ng : Nat) (T : Tables) (es : List TypeId) : VS := addFlats T.flat (addRows T.rows es ⟨[], ng, ng, [], []⟩)
def lensF : List (Nat × List Value × TypeId) → Nat → Nat
  | [], _ => 1
  | x :: l, g => if x.1 = g then x.2.1.length else lensF l g
def clash (g : Nat) : List (Nat × List Value × TypeId) → Bool
  | [] => false
  | x :: l => Nat.beq x.1 g || clash g l
def flatsOk (ng : Nat) : List (Nat × List Value × TypeId) → Bool
  | [] => true
  | x :: l => Nat.blt x.1 ng && !clash x.1 l && plainL x.2.1 && flatsOk ng l
def rowsOk (ng : Nat) (fl : List (Nat × List Value × TypeId)) : List TRow → Bool
  | [] => true
  | y :: l => Nat.blt y.var ng && !clash y.var fl && plainL y.cells && Nat.beq (y.n * y.esz) y.cells.length && Nat.blt 0 y.cells.length && rowsOk ng fl l
def tablesOk (ng : Nat) (T : Tables) : Bool := flatsOk ng T.flat && rowsOk ng T.flat T.rows
omit [Base] in
theorem lensF_out : ∀ {l : List (Nat × List Value × TypeId)} {g : Nat}, clash g l = false → lensF l g = 1
  | [], _, _ => rfl
  | x :: l, g, h => by
    simp only [clash, Bool.or_eq_false_iff] at h
    have : ¬ x.1 = g := fun e => by rw [e, Nat.beq_refl] at h; exact absurd h.1 (by simp)
    simp only [lensF, if_neg this]
    exact lensF_out h.2
omit [Base] in
theorem clash_mem {x : Nat × List Value × TypeId} : ∀ (l : List (Nat × List Value × TypeId)), x ∈ l → clash x.1 l = true
  | z :: l, hx => by
    rcases List.mem_cons.1 hx with e | hx
    · subst e; simp [clash]
    · simp [clash, clash_mem l hx]
omit [Base] in
theorem lensF_at : ∀ {l : List (Nat × List Value × TypeId)} {ng : Nat}, flatsOk ng l = true → ∀ x ∈ l, lensF l x.1 = x.2.1.length ∧ x.1 < ng ∧ plainL x.2.1 = true
  | y :: l, ng, h, x, hx => by
    simp only [flatsOk, Bool.and_eq_true, Bool.not_eq_true'] at h
    obtain ⟨⟨⟨h1, h2⟩, h3⟩, h4⟩ := h
    rcases List.mem_cons.1 hx with e | hx
    · subst e
      exact ⟨by simp [lensF], by simpa using h1, h3⟩
    · obtain ⟨q1, q2⟩ := lensF_at h4 x hx
      refine ⟨?_, q2⟩
      have : ¬ y.1 = x.1 := fun e => by
        have hc : clash y.1 l = true := by
          rw [e]
          exact clash_mem l hx
        rw [hc] at h2; cases h2
      simp only [lensF, if_neg this]; exact q1

/- One more of the variables' blocks that is known. -/
theorem G.var {N0 : Nat → Prop} {W0 W : World} {vs : VS} {μ : Mu} (h : G N0 W0 vs W μ) {g : Nat} {B : VB} {l : Loc} {c : Array Value} {z : Nat × Nat} (hm : μ g = some l) (hL : Lies N0 W μ B l c z)
    (hf : ∀ id B', (id, B') ∈ vs.heap → B'.fam = B.fam) : G N0 W0 (vs.put g B) W μ := by
  refine ⟨h.below, h.start, h.fresh, h.globs, h.glo, ?_, ?_, h.objs, h.base⟩
  · intro id B' hm'
    rcases List.mem_cons.1 hm' with e | hm'
    · cases e; exact ⟨l, c, z, hm, hL⟩
    · exact h.blocks id B' hm'
  · intro id B1 id' B2 h1 h2 hfam l1 l2 e1 e2
    rcases List.mem_cons.1 h1 with e | h1 <;> rcases List.mem_cons.1 h2 with e' | h2
    · cases e; cases e'; exact absurd rfl hfam
    · cases e; exact absurd (hf _ _ h2).symm hfam
    · cases e'; exact absurd (hf _ _ h1) hfam
    · exact h.apart _ _ _ _ h1 h2 hfam _ _ e1 e2

theorem G_rows {len : Nat → Nat} {ng : Nat} {W : World} {fl : List (Nat × List Value × TypeId)} (hlen : len = lensF fl) : ∀ (l : List TRow) (vs : VS) (μ : Mu), rowsOk ng fl l = true → (∀ y ∈ l, AtRow (old W) W y) → G (old W) W vs W μ → vs.ng = ng →
    (∀ g, g < ng → μ g = some ⟨g, 0, 0, 1, len g⟩) → (∀ id B, (id, B) ∈ vs.heap → B.fam = 0) →
    ∃ es ν, G (old W) W (addRows l es vs) W ν ∧ (∀ g, g < ng → ν g = some ⟨g, 0, 0, 1, len g⟩) ∧ (∀ id B, (id, B) ∈ (addRows l es vs).heap → B.fam = 0) ∧ (addRows l es vs).ng = ng
  | [], vs, μ, _, _, hG, hn, hg, hf => ⟨[], μ, hG, hg, hf, hn⟩
  | y :: l, vs, μ, hk, hl, hG, hn, hg, hf => by
    simp only [rowsOk, Bool.and_eq_true, Bool.not_eq_true', Nat.beq_eq] at hk
    obtain ⟨⟨⟨⟨⟨k1, k2⟩, k3⟩, k4⟩, k6⟩, k5⟩ := hk
    have k6 : 0 < y.cells.length := by simpa using k6
    have k1 : y.var < ng := by simpa using k1
    obtain ⟨b, o, e, q1, q2, ⟨c, z, q3, q4⟩, c', z', q5, q6⟩ := hl y (by simp)
    have hroom : o + y.cells.length ≤ c'.size := by
      have := q6 (y.cells.length - 1) y.cells[y.cells.length - 1] (by simp)
      have := (Array.getElem?_eq_some_iff.1 this).1
      omega
    have hfr := hG.fresh vs.next (Nat.le_refl _)
    have hle := Mu.put_le hfr ⟨b, o, 0, y.esz, y.cells.length⟩
    have h1 : G (old W) W (vs.add (rowB y e)) W (μ.put vs.next ⟨b, o, 0, y.esz, y.cells.length⟩) :=
      hG.add (B := rowB y e) (c := c') (z := z') ⟨q5, (fun x => by cases x), rfl, rfl, by simpa using hroom, fun _ => rfl, (fun x => by cases x), (fun x => by cases x), fun i v hv => ⟨v, q6 i v hv, plainL_self _ y.cells k3 i v hv⟩⟩
        (fun id B hm hne => absurd (hf id B hm) hne)
    have hv : (μ.put vs.next ⟨b, o, 0, y.esz, y.cells.length⟩) y.var = some ⟨y.var, 0, 0, 1, len y.var⟩ := hle _ _ (hg _ k1)
    have hlv : len y.var = 1 := by rw [hlen]; exact lensF_out k2
    have h2 : G (old W) W ((vs.add (rowB y e)).put y.var (varB y vs.next)) W (μ.put vs.next ⟨b, o, 0, y.esz, y.cells.length⟩) := by
      refine h1.var hv (c := c) (z := z) ⟨q3, (fun x => by cases x), by simp [varB, hlv], rfl, ?_, fun _ => rfl, (fun x => by cases x), (fun x => by cases x), ?_⟩ ?_
      · have := (Array.getElem?_eq_some_iff.1 q4).1
        simp only [hlv]; omega
      · intro i v hi
        match i, hi with
        | 0, hi =>
          simp only [varB, List.getElem?_cons_zero, Option.some.injEq] at hi
          subst hi
          refine ⟨_, by simpa using q4, ?_⟩
          have := R.slice (μ := μ.put vs.next ⟨b, o, 0, y.esz, y.cells.length⟩) ⟨vs.next, 0, none⟩ ⟨b, o, 0, y.esz, y.cells.length⟩ y.n y.n (Mu.put_self _ _ _) (.inl rfl)
          simpa [amap] using this
        | i + 1, hi => simp [varB] at hi
      · intro id B hm
        rcases List.mem_cons.1 hm with e | hm
        · cases e; rfl
        · exact hf _ _ hm
    obtain ⟨es, ν, r1, r2, r3, r4⟩ := G_rows hlen l ((vs.add (rowB y e)).put y.var (varB y vs.next)) _ k5 (fun y' hy' => hl y' (List.mem_cons_of_mem _ hy')) h2 hn (fun g hlt => hle _ _ (hg g hlt)) (fun id B hm => by
      rcases List.mem_cons.1 hm with e | hm
      · cases e; rfl
      · rcases List.mem_cons.1 hm with e | hm
        · cases e; rfl
        · exact hf _ _ hm)
    exact ⟨e :: es, ν, r1, r2, r3, r4⟩

theorem G_flats {len : Nat → Nat} {ng : Nat} {W : World} : ∀ (l : List (Nat × List Value × TypeId)) (vs : VS) (μ : Mu), (∀ x ∈ l, len x.1 = x.2.1.length ∧ x.1 < ng ∧ plainL x.2.1 = true) → (∀ x ∈ l, AtFlat (old W) W x) → G (old W) W vs W μ →
    (∀ g, g < ng → μ g = some ⟨g, 0, 0, 1, len g⟩) → (∀ id B, (id, B) ∈ vs.heap → B.fam = 0) → G (old W) W (addFlats l vs) W μ ∧ (addFlats l vs).ng = vs.ng
  | [], vs, μ, _, _, hG, hg, hf => ⟨hG, rfl⟩
  | x :: l, vs, μ, hk, hl, hG, hg, hf => by
    obtain ⟨k1, k2, k3⟩ := hk x (by simp)
    obtain ⟨q1, c, z, q2, q3⟩ := hl x (by simp)
    have hroom : x.2.1.length ≤ c.size := by
      rcases Nat.eq_zero_or_pos x.2.1.length with h0 | h0
      · omega
      · have := q3 (x.2.1.length - 1) x.2.1[x.2.1.length - 1] (by simp)
        have := (Array.getElem?_eq_some_iff.1 this).1
        omega
    have h1 : G (old W) W (vs.put x.1 (tabB x)) W μ :=
      hG.var (hg _ k2) (c := c) (z := z) ⟨q2, (fun x => by cases x), k1, rfl, by simp only [k1]; omega, fun _ => rfl, (fun x => by cases x), (fun x => by cases x), fun i v hv => ⟨v, by simpa using q3 i v hv, plainL_self _ x.2.1 k3 i v hv⟩⟩
        (fun id B hm => by rw [hf id B hm]; rfl)
    refine G_flats l _ _ (fun y hy => hk y (List.mem_cons_of_mem _ hy)) (fun y hy => hl y (List.mem_cons_of_mem _ hy)) h1 hg ?_
    intro id B hm
    rcases List.mem_cons.1 hm with e | hm
    · cases e; rfl
    · exact hf _ _ hm

omit [Base] in
theorem startOkT {ng : Nat} {T : Tables} (hk : tablesOk ng T = true) : @StartOk (baseOf T) _ ng (startT ng T) := by
  letI : Base := baseOf T
  simp only [tablesOk, Bool.and_eq_true] at hk
  have key : ∀ W : World, ng ≤ W.heap.size → Base.ok (old W) W → ∃ es μ, G (old W) W (startT ng T es) W μ := by
    intro W hW hb
    have hb0 : LaidT T (old W) W := hb
    obtain ⟨hb1, hb2⟩ := hb0
    obtain ⟨es, ν, h1, h2, h3, h4⟩ := G_rows (len := lensF T.flat) (W := W) rfl T.rows _ _ hk.2 hb2 (G_startL (lensF T.flat) W ng hW hb) rfl (fun g hg => by simp [startMuL, hg]) (fun id B hm => by simp at hm)
    obtain ⟨h5, _⟩ := G_flats T.flat _ ν (fun x hx => lensF_at hk.1 x hx) hb1 h1 h2 h3
    exact ⟨es, ν, h5⟩
  refine ⟨fun es => ?_, key⟩
  have hr : ∀ (l : List TRow) (es : List TypeId) (vs : VS), (addRows l es vs).ng = vs.ng := fun l => by
    induction l with
    | nil => intro es vs; rfl
    | cons y l ih => intro es vs; exact ih _ _
  have hf : ∀ (l : List (Nat × List Value × TypeId)) (vs : VS), (addFlats l vs).ng = vs.ng := fun l => by
    induction l with
    | nil => intro vs; rfl
    | cons y l ih => intro vs; exact ih _
  unfold startT
  rw [hf, hr]

end Go.Ev

/-
  Tables for the evaluator: trees, and what must be asked of their leaves.
-/
namespace Go.Ev
open Go.RowKit
variable [Base]

inductive Tr (α : Type) where
  | leaf (i : Nat) (a : α)
  | node (m : Nat) (l r : Tr α)
def Tr.get {α : Type} : Tr α → Nat → Option α
  | .leaf i a, t => bif Nat.beq i t then some a else none
  | .node m l r, t => bif Nat.blt t m then l.get t else r.get t
def Tr.All {α : Type} (p : Nat → α → Prop) : Tr α → Prop
  | .leaf i a => p i a
  | .node _ l r => l.All p ∧ r.All p
omit [Base] in
theorem Tr.All.get {α : Type} {p : Nat → α → Prop} : ∀ {t : Tr α} {i : Nat} {a : α}, t.All p → t.get i = some a → p i a
  | .leaf j b, i, a, h, hg => by
    simp only [Tr.get, Bool.cond_eq_ite] at hg
    split at hg
    · rename_i hb
      have := Nat.eq_of_beq_eq_true hb
      cases hg; subst this; exact h
    · cases hg
  | .node m l r, i, a, h, hg => by
    simp only [Tr.get, Bool.cond_eq_ite] at hg
    split at hg
    · exact h.1.get hg
    · exact h.2.get hg

/- Types, functions, and functions without a body. -/
structure TL where
  und : Option TypeDesc
  inf : Option TypeInfo
def hasN (g : Nat) : List Nat → Bool
  | [] => false
  | i :: l => bif Nat.beq i g then true else hasN g l
omit [Base] in
theorem hasN_mem {g : Nat} : ∀ {l : List Nat}, hasN g l = true → g ∈ l
  | i :: l, h => by
    simp only [hasN, Bool.cond_eq_ite] at h
    split at h
    · rename_i hb; rw [Nat.eq_of_beq_eq_true hb]; simp
    · exact List.mem_cons_of_mem _ (hasN_mem h)
def hasL (e n off u : Nat) : List (Nat × Nat × Nat × Nat) → Bool
  | [] => false
  | (a, b, c, d) :: l => bif Nat.beq a e && Nat.beq b n && Nat.beq c off && Nat.beq d u then true else hasL e n off u l
omit [Base] in
theorem hasL_mem {e n off u : Nat} : ∀ {l : List (Nat × Nat × Nat × Nat)}, hasL e n off u l = true → (e, n, off, u) ∈ l
  | (a, b, c, d) :: l, h => by
    simp only [hasL, Bool.cond_eq_ite] at h
    split at h
    · rename_i hb
      simp only [Bool.and_eq_true, Nat.beq_eq] at hb
      obtain ⟨⟨⟨rfl, rfl⟩, rfl⟩, rfl⟩ := hb
      simp
    · exact List.mem_cons_of_mem _ (hasL_mem h)
def TE.of (t : Tr TL) (fs : Nat → Option VF) (ex : Nat → Option (List Value → Option Value)) (ids : List Nat) (ls : List (Nat × Nat × Nat × Nat)) (nz : Nat → Option TypeId) : TE where
  und i := match t.get i with
    | some x => x.und
    | none => none
  inf i := match t.get i with
    | some x => x.inf
    | none => none
  body g := (fs g).isSome
  ext := ex
  idf g := hasN g ids
  lies e n off u := hasL e n off u ls
  noz := nz
def TL.ok (P : Program) (i : Nat) (x : TL) : Prop := x.und = P.underlying i ∧ x.inf = P.info? i
omit [Base] in
theorem tl_ok {P : Program} {i : Nat} {x : TL} (h1 : x.und = P.underlying i) (h2 : x.inf = P.info? i) : TL.ok P i x := ⟨h1, h2⟩
omit [Base] in
theorem tok_of {P : Program} {ng : Nat} {t : Tr TL} {fs : Nat → Option VF} {ex : Nat → Option (List Value → Option Value)} {ids : List Nat} {ls : List (Nat × Nat × Nat × Nat)} {nz : Nat → Option TypeId} (h : t.All (TL.ok P)) (hf : TblOk P ng fs) (he : ∀ g h, ex g = some h → ExtOk P g h)
    (hi : ∀ g ∈ ids, ∀ v W, (callFunc g #[v]).run P W = .ok (.value v) W) (hl : ∀ x ∈ ls, liesAt P P.depth x.1 (x.2.1 / P.cellsOf x.1) x.2.2.1 x.2.2.2 1 = true) (hn : ∀ g e, nz g = some e → NozOk P g e) : TOk P (TE.of t fs ex ids ls nz) where
  und := fun {i d} hd => by
    simp only [TE.of] at hd
    split at hd
    · rename_i x hx; rw [← (h.get hx).1]; exact hd
    · cases hd
  inf := fun {i d} hd => by
    simp only [TE.of] at hd
    split at hd
    · rename_i x hx; rw [← (h.get hx).2]; exact hd
    · cases hd
  body := fun {g} hg => by
    simp only [TE.of] at hg
    obtain ⟨F, hF⟩ := Option.isSome_iff_exists.1 hg
    obtain ⟨_, fn, h1, h2, _⟩ := hf g F hF
    simp [hasBody, h1, h2]
  ext := fun {g h} hg => he g h hg
  idf := fun {g} hg => hi g (hasN_mem hg)
  lies := fun {e n off u} hg => hl _ (hasL_mem hg)
  noz := fun {g e} hg => hn g e hg

/- Functions. -/
def VF.ok (P : Program) (ng : Nat) (f : Nat) (F : VF) : Prop := codeOk ng (tlOf F.tails) F.body = true ∧ ∃ fn, P.funcs[f]? = some fn ∧ fn.body = some F.body ∧ fn.ntmps = F.ntmps ∧ fn.results.toList = F.results
omit [Base] in
theorem tbl_of {P : Program} {ng : Nat} {t : Tr VF} (h : t.All (VF.ok P ng)) : TblOk P ng t.get := fun _ _ hf => h.get hf

def namesB (P : Program) : Bool := P.funcs.toList.all fun fn => fn.body.isNone || !(fn.name == "runtime.NumGoroutine")
omit [Base] in
theorem names_of {P : Program} (h : namesB P = true) : NamesOk P := fun f fn hf hb => by
  have := List.all_eq_true.1 h fn (by simpa using Array.mem_of_getElem? hf)
  cases hbd : fn.body with
  | none => rw [hbd] at hb; cases hb
  | some c => rw [hbd] at this; simpa using this


def sayB (b : Bool) : Option (VE × VS) → Bool
  | some (.ret (.bool c), _) => b == c
  | _ => false
omit [Base] in
theorem sayB_some {b : Bool} {x : Option (VE × VS)} (h : sayB b x = true) : ∃ vs1, x = some (.ret (.bool b), vs1) := by
  unfold sayB at h
  split at h
  · rename_i c vs1; simp at h; subst h; exact ⟨vs1, rfl⟩
  · cases h
def sayS (l : List UInt8) : Option (VE × VS) → Bool
  | some (.ret (.string s), _) => beqL l s.data.toList
  | _ => false
omit [Base] in
theorem sayS_some {l : List UInt8} {x : Option (VE × VS)} (h : sayS l x = true) : ∃ vs1, x = some (.ret (.string ⟨⟨l⟩⟩), vs1) := by
  unfold sayS at h
  split at h
  · rename_i s vs1
    rw [beqL_eq] at h
    have h := eq_of_beq h
    refine ⟨vs1, ?_⟩
    rw [h]
  · cases h

end Go.Ev

/-
  The evaluator with calls that are known already, and what it says of a call from a world.
-/
namespace Go.Ev
open Go.RowKit
variable [Base]

variable {P : Program} {T : TE} [TOk P T] {N0 : Nat → Prop} {W0 W : World} {vs : VS} {μ : Mu}

def KnownOk (P : Program) (ng : Nat) (known : FuncId → List Value → Option Value) : Prop :=
  ∀ f args v, known f args = some v → plainL args = true ∧ plainB v = true ∧ ∀ W : World, ng ≤ W.heap.size → Base.ok (old W) W → Calls P f ⟨args⟩ W fun e W' => e = .returned v ∧ Below W.heap.size W W'

theorem G.ng_le (h : G N0 W0 vs W μ) {ng : Nat} (hn : vs.ng = ng) : ng ≤ W.heap.size := by
  subst hn
  rcases Nat.eq_zero_or_pos vs.ng with h0 | h0
  · omega
  · obtain ⟨l, h1, h2, _⟩ := h.glo (vs.ng - 1) (by omega)
    have := h.globs _ _ h1
    omega

noncomputable def vcallK (T : TE) (op : OpE) (qt : QtE) (fx : FX) (ng : Nat) (tbl : Nat → Option VF) (known : FuncId → List Value → Option Value) (fuel : Nat) : Nat → CallE
  | 0, _, _, _ => none
  | d + 1, f, args, vs => bif Nat.beq vs.ng ng then match known f args.toList with
    | some v => some (.ret v, vs)
    | none => match tbl f with
    | none => none
    | some F => match vcode op qt fx (vcallK T op qt fx ng tbl known fuel d) (tlOf F.tails) fuel F.body (pad args.toList F.ntmps) (vs.off []) with
      | some (.ret t vs1) => vback ng vs.dfr (vleave T op qt fx ng tbl fuel (vcallK T op qt fx ng tbl known fuel d) F.results t vs1.dfr .ret vs1)
      | some (.normal t vs1) => vback ng vs.dfr (vleave T op qt fx ng tbl fuel (vcallK T op qt fx ng tbl known fuel d) F.results t vs1.dfr .ret vs1)
      | some (.pan v t vs1) => vback ng vs.dfr (vleave T op qt fx ng tbl fuel (vcallK T op qt fx ng tbl known fuel d) F.results t vs1.dfr (.pan v) vs1)
      | _ => none
    else none


omit [TOk P T] in
omit [Base] in
theorem vcallK_ng {op : OpE} {qt : QtE} {fx : FX} {ng : Nat} {tbl : Nat → Option VF} {known : FuncId → List Value → Option Value} {fuel : Nat} : ∀ (d : Nat) f args vs v vs1, vcallK T op qt fx ng tbl known fuel d f args vs = some (v, vs1) → Keeps vs vs1
  | 0, _, _, _, _, _, h => by simp [vcallK] at h
  | d + 1, f, args, vs, v, vs1, h => by
    simp only [vcallK, Bool.cond_eq_ite] at h
    split at h
    case isFalse => cases h
    rename_i hng
    have hng := Nat.eq_of_beq_eq_true hng
    split at h
    · cases h; exact ⟨rfl, rfl⟩
    split at h
    case h_1 => cases h
    split at h
    · obtain ⟨vs2, _, h2, rfl⟩ := vback_some h; exact ⟨h2.trans hng.symm, rfl⟩
    · obtain ⟨vs2, _, h2, rfl⟩ := vback_some h; exact ⟨h2.trans hng.symm, rfl⟩
    · obtain ⟨vs2, _, h2, rfl⟩ := vback_some h; exact ⟨h2.trans hng.symm, rfl⟩
    · cases h

theorem vcallK_sound {op : OpE} {qt : QtE} {fx : FX} {tbl : Nat → Option VF} {known : FuncId → List Value → Option Value} {fuel ng : Nat} (hE : EngOk P op qt fx) (hT : TblOk P ng tbl) (hK : KnownOk P ng known) : ∀ (d : Nat), CallOK P (vcallK T op qt fx ng tbl known fuel d)
  | 0 => fun _ _ _ _ _ h => by simp [vcallK] at h
  | d + 1 => by
    intro f args vs e vs1 h N0 W0 W μ args' ha hG
    simp only [vcallK, Bool.cond_eq_ite] at h
    split at h
    case isFalse => cases h
    rename_i hng
    have hng := Nat.eq_of_beq_eq_true hng
    split at h
    · rename_i v hv
      cases h
      obtain ⟨h1, h2, h3⟩ := hK f args.toList v hv
      obtain rfl : args' = args := ha.plain (by cases args; simpa [plainA] using h1)
      refine (h3 W (hG.ng_le hng) (Base.keep hG.below hG.start hG.base)).mono ?_
      rintro e' W' ⟨rfl, hb⟩
      exact ⟨μ, Mu.le_refl _, hG.world (.of_below hb), v, plain_self μ v h2, rfl⟩
    split at h
    case h_1 => cases h
    rename_i F hF
    obtain ⟨hok, fn, hfn, hb, hn, hr⟩ := hT f F hF
    refine calls_of_wp_defers hfn hb ?_
    rw [hn]
    have hcall := vcallK_sound (fuel := fuel) hE hT hK d
    have hngc := vcallK_ng (T := T) (op := op) (qt := qt) (fx := fx) (ng := ng) (tbl := tbl) (known := known) (fuel := fuel) d
    have fin : ∀ (t : List Value) (vs2 : VS) (m : VM) (u : FrameMode) (a' : Act) (w : World) (μ1 : Mu), vback ng vs.dfr (vleave T op qt fx ng tbl fuel (vcallK T op qt fx ng tbl known fuel d) F.results t vs2.dfr m vs2) = some (e, vs1) →
        μ.le μ1 → RM μ1 m u → RA μ1 t.toArray a'.tmps → G N0 W0 vs2 w μ1 → DR μ1 vs2.dfr a'.defers → Leaves P fn a'.tmps (fun e' W' => ∃ μ1, μ.le μ1 ∧ G N0 W0 vs1 W' μ1 ∧ REnd μ1 e e') a'.defers u w := by
      intro t vs2 m u a' w μ1 h hle hm ht hG hd
      obtain ⟨vs3, h1, _, rfl⟩ := vback_some h
      have key := vleave_sound (μ0 := μ) hE hT hcall hngc hr vs2.dfr m vs2 h1 w μ1 u a'.defers hle hd hm ht hG
      exact leaves_mono (fun e' W' h => let ⟨m, q1, q2, q3⟩ := h; ⟨m, q1, q2.put_off _, q3⟩) a'.defers u w key
    split at h
    · rename_i t vs2 hx
      refine wp_mono (wp_of_wpL (vcode_sound hE hcall hngc (ng := ng) fuel F.body _ (vs.off []) _ hok hng hx N0 W0 W μ _ trivial (pad_rel ha F.ntmps) (hG.put_off []))) ?_
      rintro e a' w ⟨rfl, μ1, hle, ht', hG', hd'⟩
      exact fin t _ .ret .returning a' w μ1 h hle rfl ht' hG' hd'
    · rename_i t vs2 hx
      refine wp_mono (wp_of_wpL (vcode_sound hE hcall hngc (ng := ng) fuel F.body _ (vs.off []) _ hok hng hx N0 W0 W μ _ trivial (pad_rel ha F.ntmps) (hG.put_off []))) ?_
      rintro e a' w ⟨rfl, μ1, hle, ht', hG', hd'⟩
      exact fin t _ .ret .returning a' w μ1 h hle rfl ht' hG' hd'
    · rename_i v t vs2 hx
      refine wp_mono (wp_of_wpL (vcode_sound hE hcall hngc (ng := ng) fuel F.body _ (vs.off []) _ hok hng hx N0 W0 W μ _ trivial (pad_rel ha F.ntmps) (hG.put_off []))) ?_
      rintro e a' w ⟨μ1, v', hle, rfl, hv, ht', hG', hd'⟩
      exact fin t _ (.pan v) (.panicking (panicked v')) a' w μ1 h hle ⟨v', hv, rfl⟩ ht' hG' hd'
    · cases h


/- What is known, as a list. -/
def sameBytes : List UInt8 → List UInt8 → Bool
  | [], [] => true
  | a :: l, b :: r => Nat.beq a.toNat b.toNat && sameBytes l r
  | _, _ => false
omit [Base] in
theorem sameBytes_eq : ∀ {l r : List UInt8}, sameBytes l r = true → l = r
  | [], [], _ => rfl
  | a :: l, b :: r, h => by
    simp only [sameBytes, Bool.and_eq_true, Nat.beq_eq] at h
    rw [UInt8.toNat_inj.mp h.1, sameBytes_eq h.2]
  | [], _ :: _, h => by simp [sameBytes] at h
  | _ :: _, [], h => by simp [sameBytes] at h
def sameText (s t : ByteArray) : Bool := sameBytes s.data.toList t.data.toList
def sameV : Value → Value → Bool
  | .string s, .string t => sameText s t
  | .int k n, .int k' m => decide (k = k') && decide (n = m)
  | .bool a, .bool b => a == b
  | .pointer none, .pointer none => true
  | _, _ => false
omit [Base] in
theorem sameV_eq {a b : Value} (h : sameV a b = true) : a = b := by
  unfold sameV at h
  split at h
  · rename_i s t
    have := sameBytes_eq (by simpa [sameText] using h)
    obtain ⟨⟨s⟩⟩ := s; obtain ⟨⟨t⟩⟩ := t
    simp at this; rw [this]
  · simp only [Bool.and_eq_true, decide_eq_true_eq] at h; rw [h.1, h.2]
  · simpa using h
  · rfl
  · cases h
def sameL : List Value → List Value → Bool
  | [], [] => true
  | a :: l, b :: r => sameV a b && sameL l r
  | _, _ => false
omit [Base] in
theorem sameL_eq : ∀ {l r : List Value}, sameL l r = true → l = r
  | [], [], _ => rfl
  | a :: l, b :: r, h => by
    simp only [sameL, Bool.and_eq_true] at h
    rw [sameV_eq h.1, sameL_eq h.2]
  | [], _ :: _, h => by simp [sameL] at h
  | _ :: _, [], h => by simp [sameL] at h
def seek : List (Nat × List Value × Value) → FuncId → List Value → Option Value
  | [], _, _ => none
  | (g, as, v) :: l, f, args => bif Nat.beq g f && sameL as args then some v else seek l f args
structure Knows (P : Program) (ng : Nat) (f : FuncId) (args : List Value) (v : Value) : Prop where
  ins : plainL args = true
  out : plainB v = true
  call : ∀ W : World, ng ≤ W.heap.size → Base.ok (old W) W → Calls P f ⟨args⟩ W fun e W' => e = .returned v ∧ Below W.heap.size W W'
theorem seek_nil {ng : Nat} : KnownOk P ng (seek []) := fun _ _ _ h => by simp [seek] at h
theorem seek_cons {ng g : Nat} {as : List Value} {v : Value} {l : List (Nat × List Value × Value)} (h : Knows P ng g as v) (hl : KnownOk P ng (seek l)) : KnownOk P ng (seek ((g, as, v) :: l)) := by
  intro f args u hu
  simp only [seek, Bool.cond_eq_ite, Bool.and_eq_true, Nat.beq_eq] at hu
  split at hu
  · rename_i hb
    obtain ⟨rfl, he⟩ := hb
    obtain rfl := sameL_eq he
    cases hu
    exact ⟨h.ins, h.out, h.call⟩
  · exact hl f args u hu

theorem toldK (hN : NamesOk P) (hm : P.follows .mixedOrders = true) {ng fuel d : Nat} {tbl : Nat → Option VF} (hT : TblOk P ng tbl) {α : Type} {vs0 : α → VS} (h0 : StartOk ng vs0) {known : FuncId → List Value → Option Value} (hK : KnownOk P ng known) {f : FuncId} {args : List Value} {v : Value} (hp : plainL args = true) (hv : plainB v = true)
    (h : ∀ a, ∃ vs1, vcallK T (vop P T) (vquietM P T) (vfx T) ng tbl known fuel d f ⟨args⟩ (vs0 a) = some (.ret v, vs1)) : Knows P ng f args v := by
  refine ⟨hp, hv, fun W hW hb => ?_⟩
  obtain ⟨a, μ, hG0⟩ := h0.world W hW hb
  obtain ⟨vs1, h⟩ := h a
  refine (vcallK_sound (engOk hN hm) hT hK d f ⟨args⟩ _ (.ret v) vs1 h (old W) W W μ ⟨args⟩ (RA_self _ (by simpa [plainA] using hp)) hG0).mono ?_
  rintro e W' ⟨μ1, _, hG, v', hr, rfl⟩
  exact ⟨by rw [hr.plain hv], hG.below.below⟩

/- A known call out of what is known already: 'v' is what it hands back. -/
def sameW : Value → Value → Bool
  | .tuple a, .tuple b => sameL a.toList b.toList
  | a, b => sameV a b
omit [Base] in
theorem sameW_eq {a b : Value} (h : sameW a b = true) : a = b := by
  unfold sameW at h
  split at h
  · rename_i a b; rw [Array.ext' (sameL_eq h)]
  · exact sameV_eq h
def saysV (v : Value) : Option (VE × VS) → Bool
  | some (.ret u, _) => sameW u v
  | _ => false
omit [Base] in
theorem saysV_some {v : Value} {x : Option (VE × VS)} (h : saysV v x = true) : ∃ vs1, x = some (.ret v, vs1) := by
  unfold saysV at h
  split at h
  · rename_i u vs1; exact ⟨vs1, by rw [sameW_eq h]⟩
  · cases h
theorem knowsOf (hN : NamesOk P) (hm : P.follows .mixedOrders = true) {ng fuel d : Nat} {tbl : Nat → Option VF} (hT : TblOk P ng tbl) {α : Type} {vs0 : α → VS} (h0 : StartOk ng vs0) {l : List (Nat × List Value × Value)} (hK : KnownOk P ng (seek l)) {f : FuncId} {args : List Value} {v : Value} (hp : plainL args = true) (hv : plainB v = true)
    (h : ∀ a, saysV v (vcallK T (vop P T) (vquietM P T) (vfx T) ng tbl (seek l) fuel d f ⟨args⟩ (vs0 a)) = true) : Knows P ng f args v :=
  toldK hN hm hT h0 hK hp hv fun a => saysV_some (h a)

end Go.Ev
