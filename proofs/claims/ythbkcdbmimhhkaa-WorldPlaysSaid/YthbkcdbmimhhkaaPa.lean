/-
  The document's world beside the program's, plain: both begin alike.
-/
import Derived.Test.YthbkcdbmimhhkaaRwS
import Derived.Test.YthbkcdbmimhhkaaRwN
namespace Go.Proofs.Ythbkcdbmimhhkaa.Rw
open Go.RowKit Go.Maps Wo

theorem filesTo_same (st : St) : ∀ L : List FileD, (filesTo st L).most = st.most ∧ (filesTo st L).clock = st.clock ∧ (filesTo st L).chance = st.chance ∧ (filesTo st L).stdin = st.stdin ∧ (filesTo st L).trace = st.trace ∧ (filesTo st L).streams = st.streams := by
  intro L
  induction L generalizing st with
  | nil => exact ⟨rfl, rfl, rfl, rfl, rfl, rfl⟩
  | cons p L ih =>
    obtain ⟨h1, h2, h3, h4, h5, h6⟩ := ih (fileS st p)
    obtain ⟨b1, b2, b3, _, _, b4, b5, b6⟩ := beginS_same st p.1
    exact ⟨h1.trans b1, h2.trans b2, h3.trans b3, h4.trans b4, h5.trans b5, h6.trans b6⟩
theorem fileS_file (st : St) (p : FileD) (h : st.file p.1 = none) : (fileS st p).file = Wo.setF st.file p.1 p.2.data.toList := by
  show Wo.setF (beginS st p.1).file p.1 _ = _
  rw [begin_set, h]
  rfl
theorem lookF_no {n : ByteArray} {l : List FileD} (h : ∀ p ∈ l, p.1 ≠ n) : lookF n l = none := by
  unfold lookF
  rw [List.find?_eq_none]
  intro p hp
  simpa using h p hp
theorem lookR_cons (n : ByteArray) (p : RepD) (l : List RepD) : lookR n (p :: l) = if p.cmd = n then some p else lookR n l := by
  unfold lookR
  rw [List.find?_cons]
  by_cases h : p.cmd = n
  · rw [decide_eq_true h, if_pos h]
  · rw [decide_eq_false h, if_neg h]
theorem lookR_no {n : ByteArray} {l : List RepD} (h : ∀ p ∈ l, p.cmd ≠ n) : lookR n l = none := by
  unfold lookR
  rw [List.find?_eq_none]
  intro p hp
  simpa using h p hp
theorem files_look (n : ByteArray) : ∀ (L : List FileD) (st : St), Once2 L → (∀ p ∈ L, st.file p.1 = none) → (filesTo st L).file n = match lookF n L with | some p => some p.2.data.toList | none => st.file n
  | [], st, _, _ => rfl
  | p :: L, st, ho, hn => by
    obtain ⟨ho1, ho2⟩ := List.pairwise_cons.1 ho
    have hf := fileS_file st p (hn p List.mem_cons_self)
    have ih := files_look n L (fileS st p) ho2 fun q hq => by
      rw [hf]
      unfold Wo.setF
      rw [if_neg (fun e => ho1 q hq e.symm)]
      exact hn q (List.mem_cons_of_mem _ hq)
    show (filesTo (fileS st p) L).file n = _
    rw [ih, lookF_cons, hf]
    by_cases e : p.1 = n
    · subst e
      rw [if_pos rfl, lookF_no (fun q hq e => ho1 q hq e.symm)]
      show Wo.setF _ _ _ _ = _
      unfold Wo.setF
      rw [if_pos rfl]
    · rw [if_neg e]
      cases lookF n L with
      | some q => rfl
      | none =>
        show Wo.setF _ _ _ _ = _
        unfold Wo.setF
        rw [if_neg (fun e2 => e e2.symm)]
theorem reps_look (n : ByteArray) : ∀ (L : List RepD) (g : ByteArray → Option (ByteArray × Int)), Once3 L → (L.foldl repS g) n = match lookR n L with | some p => some (p.out, p.status) | none => g n
  | [], g, _ => rfl
  | r :: L, g, ho => by
    obtain ⟨ho1, ho2⟩ := List.pairwise_cons.1 ho
    have ih := reps_look n L (repS g r) ho2
    show (L.foldl repS (repS g r)) n = _
    rw [ih, lookR_cons]
    by_cases e : r.cmd = n
    · subst e
      rw [if_pos rfl, lookR_no (fun q hq e => ho1 q hq e.symm)]
      show repS g r r.cmd = _
      unfold repS
      rw [if_pos rfl]
    · rw [if_neg e]
      cases lookR n L with
      | some q => rfl
      | none =>
        show repS g r n = _
        unfold repS
        rw [if_neg (fun e2 => e e2.symm)]
theorem fails_look (op : Int) (n : ByteArray) : ∀ (L : List FailD) (g : Int → ByteArray → Bool), (L.foldl failS g) op n = ((lookX op n L).isSome || g op n)
  | [], g => by simp [lookX]
  | x :: L, g => by
    have ih := fails_look op n L (failS g x)
    show (L.foldl failS (failS g x)) op n = _
    rw [ih]
    unfold lookX failS
    rw [List.find?_cons]
    by_cases e : op = x.op ∧ n = x.name
    · obtain ⟨rfl, rfl⟩ := e
      simp
    · rw [if_neg e]
      have : (decide (x.op = op) && decide (x.name = n)) = false := by
        rw [Bool.and_eq_false_iff]
        by_cases e1 : x.op = op
        · right
          exact decide_eq_false fun e2 => e ⟨e1.symm, e2.symm⟩
        · left
          exact decide_eq_false e1
      rw [this]
abbrev stNew (S : Scpt) : St := { filesTo (st0 S.stdin S.most S.clk S.chance) S.files with reply := repTo S.reps, fails := failTo S.fails }
theorem agree_new {S : Scpt} (ho : OkS S) : Agree S (stNew S) (rNew S) := by
  obtain ⟨h1, h2, h3, h4, h5, h6⟩ := filesTo_same (st0 S.stdin S.most S.clk S.chance) S.files
  refine ⟨h1, h2, h3, fun n => ?_, fun n => ?_, fun op n => ?_, ?_, Nat.zero_le _, h5, h6, fun s hs => (by cases hs), ho.1⟩
  · show (filesTo _ S.files).file n = (lookF n S.files).map _
    rw [files_look n S.files _ ho.1 (fun p hp => rfl)]
    cases lookF n S.files <;> rfl
  · show repTo S.reps n = (lookR n S.reps).map _
    unfold repTo
    rw [reps_look n S.reps _ ho.2.1]
    cases lookR n S.reps <;> rfl
  · show failTo S.fails op n = _
    unfold failTo
    rw [fails_look]
    simp
  · show (filesTo _ S.files).stdin = S.stdin.extract 0 S.stdin.size
    rw [whole_text]; exact h4
theorem new_kinds (S : Scpt) : Uniq (stNew S).streams ∧ ∀ s ∈ (stNew S).streams, 1 ≤ s.kind ∧ s.kind ≤ 5 := by
  have h : (stNew S).streams = [] := (filesTo_same (st0 S.stdin S.most S.clk S.chance) S.files).2.2.2.2.2
  rw [h]
  exact ⟨List.Pairwise.nil, fun s hs => (by cases hs)⟩
theorem new_few (S : Scpt) : (stNew S).made ≤ S.files.length ∧ (stNew S).trace = [] ∧ (stNew S).streams = [] ∧ (stNew S).clock = S.clk ∧ (stNew S).most = S.most := by
  obtain ⟨h1, h2, h3, h4, h5, h6⟩ := filesTo_same (st0 S.stdin S.most S.clk S.chance) S.files
  have h := filesTo_made (st0 S.stdin S.most S.clk S.chance) S.files
  have h0 : (st0 S.stdin S.most S.clk S.chance).made = 0 := rfl
  exact ⟨by show (filesTo _ S.files).made ≤ _; omega, h5, h6, h2, h1⟩
/- A number of chance. -/
theorem Agree.chanceA {S : Scpt} {st : St} {r : RSt} (h : Agree S st r) : st.chance = r.number := h.chance
end Go.Proofs.Ythbkcdbmimhhkaa.Rw

/-
  Both worlds beside each other in memory, and blocks of the law's own.
-/
namespace Go.Proofs.Ythbkcdbmimhhkaa.Rw
open Go.RowKit Go.Maps Wo

def gho (S : Scpt) (n : Nat) (T : Tags) : Scpt := { S with base := n, ok := fun b => T b = .no ∨ n ≤ b, up := fun _ h => .inr h }
def Keep (bx : List Nat) (w w2 : World) : Prop := ∀ b ∈ bx, w2.heap[b]? = w.heap[b]?
theorem Keep.refl (bx : List Nat) (w : World) : Keep bx w w := fun _ _ => rfl
theorem Keep.trans {bx : List Nat} {a b c : World} (h : Keep bx a b) (k : Keep bx b c) : Keep bx a c := fun i hi => (k i hi).trans (h i hi)
def Duo (w0 w : World) (B : Nat) (S : Scpt) (st : St) (r : RSt) (s : Shp) (bx : List Nat) : Prop :=
  ∃ fm rm xm D vs vt ps T, WdAt w B fm rm xm D vs vt ps T st ∧ (∀ k, T k ≠ .no → w0.heap.size ≤ k) ∧ Below w0.heap.size w0 w ∧ RefAt w (gho S w.heap.size T) r s ∧ (Row3 w0 s.oR S.reps ∧ RowF w0 s.oX S.fails) ∧ ∀ b ∈ bx, b < w.heap.size ∧ T b = .no
section
variable {w0 w : World} {B : Nat} {S : Scpt} {st : St} {r : RSt} {s : Shp} {bx : List Nat}
theorem no_tag {T : Tags} {n : Nat} (h : ∀ k, T k ≠ .no → k < n) {b : Nat} (hb : n ≤ b) : T b = .no :=
  Classical.byContradiction fun e => by have := h b e; omega
theorem own_lt {α : Type} {f : α → List Value} {k : Nat} {B : Nat} {t : TypeId} {oa : Option Addr} {n c : Nat} {l : List α} (h : Own w B t k f (.slice oa n c) l) {a : Addr} (ha : oa = some a) : a.block < w.heap.size := by
  subst ha
  exact (h.lt a.block rfl).2
theorem slice_own {oa : Option Addr} {n c b : Nat} (h : (Value.slice oa n c).ownBlock = some b) : ∃ a, oa = some a ∧ a.block = b := by
  cases oa with
  | none => cases h
  | some o => exact ⟨o, rfl, by simpa [Value.ownBlock] using h⟩
/- The document's world stands while the program's turns. -/
theorem RefAt.turned {w w2 : World} {T T' : Tags} {r : RSt} {s : Shp} (h : RefAt w (gho S w.heap.size T) r s) (ho : Row3 w0 s.oR S.reps ∧ RowF w0 s.oX S.fails) (hb : Below w0.heap.size w0 w2) (t : Turn (fun k => T k ≠ .no) w w2) (ht : ∀ k, k < w.heap.size → T' k = T k) : RefAt w2 (gho S w2.heap.size T') r s := by
  have kf : ∀ a, s.oF = some a → T a.block = .no := fun a ha => (h.gh.f a ha).elim id fun e => absurd (own_lt h.rf ha) (Nat.not_lt.2 e)
  have ko : ∀ a, s.oO = some a → T a.block = .no := fun a ha => (h.gh.o a ha).elim id fun e => absurd (own_lt h.ro ha) (Nat.not_lt.2 e)
  have ke : ∀ a, s.oE = some a → T a.block = .no := fun a ha => (h.gh.e a ha).elim id fun e => absurd (own_lt h.re ha) (Nat.not_lt.2 e)
  refine ⟨ho.1.below hb, ho.2.below hb, h.rf.of_block fun b hk => ?_, h.ro.of_block fun b hk => ?_, h.re.of_block fun b hk => ?_, ⟨Nat.le_refl _, fun a ha => .inl ((ht _ (own_lt h.rf ha)).trans (kf a ha)), fun a ha => .inl ((ht _ (own_lt h.ro ha)).trans (ko a ha)), fun a ha => .inl ((ht _ (own_lt h.re ha)).trans (ke a ha))⟩⟩
  · obtain ⟨a, ha, rfl⟩ := slice_own hk
    exact t.block _ (own_lt h.rf ha) fun e => e (kf a ha)
  · obtain ⟨a, ha, rfl⟩ := slice_own hk
    exact t.block _ (own_lt h.ro ha) fun e => e (ko a ha)
  · obtain ⟨a, ha, rfl⟩ := slice_own hk
    exact t.block _ (own_lt h.re ha) fun e => e (ke a ha)
/- .. and goes on by itself. -/
theorem RefAt.again {w w2 : World} {T : Tags} {r : RSt} {s : Shp} (h : RefAt w2 (gho S w.heap.size T) r s) (hl : ∀ k, T k ≠ .no → k < w.heap.size) : RefAt w2 (gho S w2.heap.size T) r s :=
  ⟨h.rr, h.rx, h.rf, h.ro, h.re, ⟨Nat.le_refl _, fun a ha => .inl ((h.gh.f a ha).elim id fun e => no_tag hl e), fun a ha => .inl ((h.gh.o a ha).elim id fun e => no_tag hl e), fun a ha => .inl ((h.gh.e a ha).elim id fun e => no_tag hl e)⟩⟩
theorem Below.turned {w w2 : World} {T : Tags} (h : Below w0.heap.size w0 w) (hT : ∀ k, T k ≠ .no → w0.heap.size ≤ k) (t : Turn (fun k => T k ≠ .no) w w2) : Below w0.heap.size w0 w2 :=
  h.trans ⟨t.os, t.tape, t.output, t.size, fun k hk => t.block k (Nat.lt_of_lt_of_le hk h.size) fun e => by have := hT k e; omega⟩
/- A call of the program's world. -/
theorem Duo.goes {w2 : World} {st2 : St} {fm rm xm : Nat} {D : DataW Unit} {vs vt : Value} {ps : List Value} {T : Tags} (h1 : WdAt w B fm rm xm D vs vt ps T st) (h2 : ∀ k, T k ≠ .no → w0.heap.size ≤ k) (h3 : Below w0.heap.size w0 w) (h4 : RefAt w (gho S w.heap.size T) r s) (h5 : Row3 w0 s.oR S.reps ∧ RowF w0 s.oX S.fails) (h6 : ∀ b ∈ bx, b < w.heap.size ∧ T b = .no) (g : Goes w w2 B T st2) : Duo w0 w2 B S st2 r s bx ∧ Keep bx w w2 := by
  obtain ⟨fm2, rm2, xm2, D2, vs2, vt2, ps2, T2, g1, g2, g3⟩ := g
  have hb := Below.turned h3 h2 g3
  refine ⟨⟨fm2, rm2, xm2, D2, vs2, vt2, ps2, T2, g1, fun k hk => ?_, hb, h4.turned h5 hb g3 g2, h5, fun b hb => ⟨Nat.lt_of_lt_of_le (h6 b hb).1 g3.size, (g2 b (h6 b hb).1).trans (h6 b hb).2⟩⟩, fun b hb => g3.block b (h6 b hb).1 fun e => e (h6 b hb).2⟩
  by_cases hl : k < w.heap.size
  · rw [g2 k hl] at hk; exact h2 k hk
  · have := h3.size; omega
theorem Duo.prog {f : FuncId} {args : Array Value} {R : Ending → St → Prop} (h : Duo w0 w B S st r s bx)
    (op : ∀ fm rm xm D vs vt ps T, WdAt w B fm rm xm D vs vt ps T st → Calls Try.prog f args w fun e w2 => ∃ st2, R e st2 ∧ Goes w w2 B T st2) :
    Calls Try.prog f args w fun e w2 => ∃ st2, R e st2 ∧ Duo w0 w2 B S st2 r s bx ∧ Keep bx w w2 := by
  obtain ⟨fm, rm, xm, D, vs, vt, ps, T, h1, h2, h3, h4, h5, h6⟩ := h
  exact (op _ _ _ _ _ _ _ _ h1).mono fun e w2 ⟨st2, he, g⟩ => ⟨st2, he, Duo.goes h1 h2 h3 h4 h5 h6 g⟩
theorem Duo.prog1 {f : FuncId} {args : Array Value} {v : Value} {st2 : St} (h : Duo w0 w B S st r s bx)
    (op : ∀ fm rm xm D vs vt ps T, WdAt w B fm rm xm D vs vt ps T st → Calls Try.prog f args w fun e w2 => e = .returned v ∧ Goes w w2 B T st2) :
    Calls Try.prog f args w fun e w2 => e = .returned v ∧ Duo w0 w2 B S st2 r s bx ∧ Keep bx w w2 := by
  obtain ⟨fm, rm, xm, D, vs, vt, ps, T, h1, h2, h3, h4, h5, h6⟩ := h
  exact (op _ _ _ _ _ _ _ _ h1).mono fun e w2 ⟨he, g⟩ => ⟨he, Duo.goes h1 h2 h3 h4 h5 h6 g⟩
/- A call of the document's. -/
theorem Duo.ref {f : FuncId} {args : Array Value} {R : Scpt → Ending → RSt → Shp → Prop} (h : Duo w0 w B S st r s bx)
    (op : ∀ n (T : Tags), RefAt w (gho S n T) r s → Calls Try.prog f args w fun e w2 => ∃ r' s', R (gho S n T) e r' s' ∧ s'.scr = s.scr ∧ RefAt w2 (gho S n T) r' s' ∧ Below w.heap.size w w2) :
    Calls Try.prog f args w fun e w2 => ∃ r' s' n T, R (gho S n T) e r' s' ∧ Duo w0 w2 B S st r' s' bx ∧ Keep bx w w2 := by
  obtain ⟨fm, rm, xm, D, vs, vt, ps, T, h1, h2, h3, h4, h5, h6⟩ := h
  refine (op _ T h4).mono fun e w2 ⟨r', s', he, hs, hr, hb⟩ => ⟨r', s', _, T, he, ⟨fm, rm, xm, D, vs, vt, ps, T, h1.below hb, h2, h3.trans (hb.mono h3.size), hr.again h1.lt, old_scr h5 hs, fun b q => ⟨Nat.lt_of_lt_of_le (h6 b q).1 hb.size, (h6 b q).2⟩⟩, fun b q => hb.block b (h6 b q).1⟩
/- Memory is made. -/
theorem Duo.below {w2 : World} (h : Duo w0 w B S st r s bx) (hb : Below w.heap.size w w2) : Duo w0 w2 B S st r s bx ∧ Keep bx w w2 := by
  obtain ⟨fm, rm, xm, D, vs, vt, ps, T, h1, h2, h3, h4, h5, h6⟩ := h
  exact ⟨⟨fm, rm, xm, D, vs, vt, ps, T, h1.below hb, h2, h3.trans (hb.mono h3.size), (h4.below hb).again h1.lt, h5, fun b q => ⟨Nat.lt_of_lt_of_le (h6 b q).1 hb.size, (h6 b q).2⟩⟩, fun b q => hb.block b (h6 b q).1⟩
/- .. of which the law has blocks. -/
theorem Duo.more {w2 : World} (h : Duo w0 w B S st r s bx) (hb : Below w.heap.size w w2) {nb : List Nat} (hn : ∀ b ∈ nb, w.heap.size ≤ b ∧ b < w2.heap.size) : Duo w0 w2 B S st r s (nb ++ bx) ∧ Keep bx w w2 := by
  obtain ⟨fm, rm, xm, D, vs, vt, ps, T, h1, h2, h3, h4, h5, h6⟩ := h
  refine ⟨⟨fm, rm, xm, D, vs, vt, ps, T, h1.below hb, h2, h3.trans (hb.mono h3.size), (h4.below hb).again h1.lt, h5, fun b q => ?_⟩, fun b q => hb.block b (h6 b q).1⟩
  rcases List.mem_append.1 q with q | q
  · exact ⟨(hn b q).2, no_tag h1.lt (hn b q).1⟩
  · exact ⟨Nat.lt_of_lt_of_le (h6 b q).1 hb.size, (h6 b q).2⟩
theorem Duo.less {bx2 : List Nat} (h : Duo w0 w B S st r s bx) (hs : ∀ b ∈ bx2, b ∈ bx) : Duo w0 w B S st r s bx2 := by
  obtain ⟨fm, rm, xm, D, vs, vt, ps, T, h1, h2, h3, h4, h5, h6⟩ := h
  exact ⟨fm, rm, xm, D, vs, vt, ps, T, h1, h2, h3, h4, h5, fun b q => h6 b (hs b q)⟩
/- A block of the law's is written to. -/
theorem Duo.turn {w2 : World} {b : Nat} (h : Duo w0 w B S st r s bx) (hb : b ∈ bx) (h0 : w0.heap.size ≤ b) {cs : Array Value} (hbox : w.heap[b]? = some (.cells cs 38)) (hk : ∀ k, k ≠ b → w2.heap[k]? = w.heap[k]?) (hz : w2.heap.size = w.heap.size) (ho : w2.os = w.os ∧ w2.tape = w.tape ∧ w2.output = w.output) : Duo w0 w2 B S st r s bx := by
  obtain ⟨fm, rm, xm, D, vs, vt, ps, T, h1, h2, h3, h4, h5, h6⟩ := h
  have hb3 : Below w0.heap.size w0 w2 := h3.trans ⟨ho.1, ho.2.1, ho.2.2, Nat.le_of_eq hz.symm, fun k q => hk k (by omega)⟩
  refine ⟨fm, rm, xm, D, vs, vt, ps, T, h1.later (Nat.le_of_eq hz.symm) fun k q => hk k fun e => q (e ▸ (h6 b hb).2), h2, hb3, ?_, h5, fun k q => ⟨by rw [hz]; exact (h6 k q).1, (h6 k q).2⟩⟩
  have := h4.kept (S := gho S w.heap.size T) h5 hb3 hbox hk (Nat.le_of_eq hz.symm)
  exact this.again (fun k q => h1.lt k q)
theorem Duo.put {b : Nat} (h : Duo w0 w B S st r s bx) (hb : b ∈ bx) (h0 : w0.heap.size ≤ b) {cs : Array Value} (hbox : w.heap[b]? = some (.cells cs 38)) (S' : Scpt) (r' : RSt) (s' : Shp) : Duo w0 (put12 w b S' r' s') B S st r s bx :=
  have hB := put12_below (Below.refl b w) (Nat.le_refl b) S' r' s'
  h.turn hb h0 hbox (fun k hk => put12_heap _ _ _ _ _ hk) (put12_size _ _ _ _ _) ⟨hB.os, hB.tape, hB.output⟩
theorem Duo.uniq (h : Duo w0 w B S st r s bx) : Uniq st.streams ∧ ∀ x ∈ st.streams, 1 ≤ x.kind ∧ x.kind ≤ 5 := by
  obtain ⟨fm, rm, xm, D, vs, vt, ps, T, h1, _⟩ := h
  exact ⟨h1.streams.uniq, fun x hx => ⟨(h1.streams.kinds x hx).1, (h1.streams.kinds x hx).2.1⟩⟩
theorem Duo.b (h : Duo w0 w B S st r s bx) : Below w0.heap.size w0 w := by
  obtain ⟨fm, rm, xm, D, vs, vt, ps, T, h1, h2, h3, _⟩ := h
  exact h3
theorem Duo.lt (h : Duo w0 w B S st r s bx) {b : Nat} (hb : b ∈ bx) : b < w.heap.size := by
  obtain ⟨fm, rm, xm, D, vs, vt, ps, T, h1, h2, h3, h4, h5, h6⟩ := h
  exact (h6 b hb).1
end
end Go.Proofs.Ythbkcdbmimhhkaa.Rw

/-
  Both worlds beside each other, plain: what there is at most behind so many calls.
-/
namespace Go.Proofs.Ythbkcdbmimhhkaa.Rw
open Go.RowKit Go.Maps Wo

structure Short (S : Scpt) : Prop where
  f8 : S.files.length ≤ 8
  r8 : S.reps.length ≤ 8
  x8 : S.fails.length ≤ 8
  sz : S.stdin.size ≤ 200
  fn : ∀ p ∈ S.files, p.1.size ≤ 200 ∧ p.2.size ≤ 200
  rn : ∀ p ∈ S.reps, p.cmd.size ≤ 200 ∧ p.out.size ≤ 200
  xn : ∀ p ∈ S.fails, p.name.size ≤ 200
structure Bd (j : Nat) (st : St) (r : RSt) : Prop where
  o16 : r.opn.length ≤ 16
  ev : r.events.length ≤ 100 * j
  md : st.made ≤ 8 + j
  fl : r.files.length ≤ 8 + j
  fs : ∀ p ∈ r.files, p.2.size ≤ 200 + 100 * j
  os : ∀ p ∈ r.opn, p.source.size ≤ 200 + 100 * j
  nm : ∀ p ∈ r.files, p.1.size ≤ 200
section
variable {S : Scpt} {st : St} {r : RSt} {j : Nat}
theorem Bd.next (h : Bd j st r) : Bd (j + 1) st r :=
  ⟨h.o16, by have := h.ev; omega, by have := h.md; omega, by have := h.fl; omega, fun p hp => (by have := h.fs p hp; omega), fun p hp => (by have := h.os p hp; omega), h.nm⟩
theorem Bd.fewer (h : Bd j st r) (hS : Short S) (hj : j ≤ 50) : Fewer S r :=
  ⟨by have := hS.r8; omega, by have := hS.x8; omega, by have := h.fl; omega, by have := h.o16; omega, by have := h.ev; omega⟩
theorem Bd.data (h : Bd j st r) (n : ByteArray) : (rData r n).size ≤ 200 + 100 * j := by
  unfold rData
  cases hl : lookF n r.files with
  | none => exact Nat.zero_le _
  | some p => exact h.fs p (lookF_mem hl)
theorem Short.out (hS : Short S) (n : ByteArray) : (rOut S n).size ≤ 200 := by
  unfold rOut
  cases hl : lookR n S.reps with
  | none => exact Nat.zero_le _
  | some p => exact (hS.rn p (List.mem_of_find?_eq_some hl)).2
theorem with_names {l : List FileD} {n d : ByteArray} {m : Nat} (h : ∀ p ∈ l, p.1.size ≤ m) (hn : n.size ≤ m) : ∀ p ∈ Rw.withF l n d, p.1.size ≤ m := by
  intro p hp
  rcases List.mem_append.1 hp with hp | hp
  · obtain ⟨x, hx, rfl⟩ := List.mem_map.1 hp
    split
    · exact h x hx
    · exact h x hx
  · split at hp
    · cases hp
    · obtain rfl : p = (n, d) := by simpa using hp
      exact hn
theorem Bd.withF (h : Bd j st r) (n d : ByteArray) (hn : n.size ≤ 200) (hd : d.size ≤ 200 + 100 * j + 100) : (Rw.withF r.files n d).length ≤ 8 + (j + 1) ∧ (∀ p ∈ Rw.withF r.files n d, p.2.size ≤ 200 + 100 * (j + 1)) ∧ ∀ p ∈ Rw.withF r.files n d, p.1.size ≤ 200 := by
  have h1 := with_len r.files n d
  have h2 := h.fl
  refine ⟨by omega, with_size (fun p hp => ?_) (by omega), with_names h.nm hn⟩
  have := h.fs p hp
  omega
theorem begin_made (st : St) (n : ByteArray) : (beginS st n).made ≤ st.made + 1 := by
  unfold beginS
  split
  · omega
  · exact Nat.le_refl _
theorem Bd.opened (h : Bd j st r) (hS : Short S) (hm : S.most ≤ 16) (k : Int) (n : ByteArray) (hn2 : n.size ≤ 100) : Bd (j + 1) (openS st k n) (rOpenS S r k n) := by
  have hmd : (openS st k n).made ≤ 8 + (j + 1) := by
    have := h.md
    unfold openS
    split
    · have := (begunS_most st k n).2
      show (begunS st k n).made ≤ _
      omega
    · omega
  unfold rOpenS
  by_cases hn : rOpenNew S r k n
  · rw [if_pos hn]
    have hl := hn.2.2.1
    have hev := h.ev
    have hfl := h.fl
    have hb : (rBegun r k n).files.length ≤ 8 + (j + 1) ∧ (∀ p ∈ (rBegun r k n).files, p.2.size ≤ 200 + 100 * (j + 1)) ∧ ∀ p ∈ (rBegun r k n).files, p.1.size ≤ 200 := by
      unfold rBegun
      split
      · exact h.withF n noText (by omega) (Nat.zero_le _)
      · split
        · exact h.withF n (rData r n) (by omega) (by have := h.data n; omega)
        · exact ⟨by omega, fun p hp => (by have := h.fs p hp; omega), h.nm⟩
    refine ⟨?_, ?_, hmd, hb.1, hb.2.1, ?_, hb.2.2⟩
    · show (r.opn ++ [_]).length ≤ 16
      rw [List.length_append, List.length_singleton]; omega
    · show (r.events ++ [_]).length ≤ _
      rw [List.length_append, List.length_singleton]; omega
    · intro p hp
      rcases List.mem_append.1 hp with hp | hp
      · have := h.os p hp; omega
      · obtain rfl : p = rStrm S r k n := by simpa using hp
        show (if k = 1 then rData r n else if k = 2 then rOut S n else noText).size ≤ _
        split
        · have := h.data n; omega
        · split
          · have := hS.out n; omega
          · exact Nat.zero_le _
  · rw [if_neg hn]
    have := h.next
    exact ⟨this.o16, this.ev, hmd, this.fl, this.fs, this.os, this.nm⟩
theorem Bd.wrote (h : Bd j st r) (k : Int) (n d : ByteArray) (hn2 : n.size ≤ 100) (hd : d.size ≤ 100) : Bd (j + 1) (writeS st k n d) (rWriteS S r k n d) := by
  have hmd : (writeS st k n d).made ≤ 8 + (j + 1) := by
    have := h.md
    unfold writeS
    split
    · unfold wroteS
      split
      · have := begin_made st n
        show (beginS st n).made ≤ _
        omega
      · show st.made ≤ _
        omega
    · omega
  unfold rWriteS
  split
  · have hn := h.next
    unfold rWrote
    have hev := h.ev
    by_cases h34 : k = 3 ∨ k = 4
    · rw [if_pos h34]
      have hb := h.withF n (rData r n ++ d) (by omega) (by rw [ByteArray.size_append]; have := h.data n; omega)
      refine ⟨hn.o16, ?_, hmd, hb.1, hb.2.1, hn.os, hb.2.2⟩
      show (r.events ++ [_]).length ≤ _
      rw [List.length_append, List.length_singleton]; omega
    · rw [if_neg h34]
      refine ⟨hn.o16, ?_, hmd, hn.fl, hn.fs, hn.os, hn.nm⟩
      show (r.events ++ [_]).length ≤ _
      rw [List.length_append, List.length_singleton]; omega
  · have hn := h.next
    exact ⟨hn.o16, hn.ev, hmd, hn.fl, hn.fs, hn.os, hn.nm⟩
theorem took_made (st : St) (i : Nat) (s : Strm) (t : ByteArray) : (tookS st i s t).made = st.made := by
  unfold tookS
  split <;> rfl
theorem Bd.read (h : Bd j st r) {k : Int} {n : ByteArray} {m : Int} {i : Nat} {p : RStrm} (hp : r.opn[i]? = some p) (s : Strm) (t : ByteArray) : Bd (j + 1) (tookS st i s t) (rRead S r k n m i p) := by
  have hn := h.next
  have hmd : (tookS st i s t).made ≤ 8 + (j + 1) := by rw [took_made]; exact hn.md
  unfold rRead
  split
  · exact ⟨hn.o16, hn.ev, hmd, hn.fl, hn.fs, hn.os, hn.nm⟩
  · refine ⟨?_, hn.ev, hmd, hn.fl, hn.fs, fun q hq => ?_, hn.nm⟩
    · show (r.opn.set i _).length ≤ 16
      rw [List.length_set]; exact hn.o16
    · rcases List.mem_or_eq_of_mem_set hq with h1 | rfl
      · exact hn.os q h1
      · exact hn.os p (List.mem_of_getElem? hp)
theorem closeTo_made (n : ByteArray) (a : ClR) : ∀ i, (closeTo n i a).1.made = a.1.made
  | 0 => rfl
  | i + 1 => by
    have ih := closeTo_made n a i
    show (closeStep n ((i : Int) + 1) (closeTo n i a)).1.made = _
    unfold closeStep
    split
    · exact ih
    · exact ih
theorem rCloseTo_same (n : ByteArray) : ∀ i, (rCloseTo S r n i).1.files = r.files ∧ (rCloseTo S r n i).1.opn = r.opn ∧ (rCloseTo S r n i).1.events.length ≤ r.events.length + i := by
  intro i
  have h2 := rCloseTo_opn S r n i
  refine ⟨?_, h2.1, h2.2⟩
  clear h2
  induction i with
  | zero => rfl
  | succ i ih =>
    show (rCloseStep S r n ((i : Int) + 1) (rCloseTo S r n i)).1.files = _
    unfold rCloseStep
    split
    · exact ih
    · exact ih
/- What closings leave, so many events more. -/
structure Cl (e : Nat) (r r' : RSt) : Prop where
  files : r'.files = r.files
  opn : ∀ p ∈ r'.opn, p ∈ r.opn
  len : r'.opn.length ≤ r.opn.length
  ev : r'.events.length ≤ r.events.length + e
theorem cl_close (n : ByteArray) : Cl 5 r (rCloseS S r n) := by
  obtain ⟨h1, h2, h3⟩ := rCloseTo_same (S := S) (r := r) n 5
  exact ⟨h1, fun p hp => List.filter_sublist.subset hp, keepS_len _ _, h3⟩
theorem cl_all : ∀ i, Cl (5 * i) r (rAllTo S i r)
  | 0 => ⟨rfl, fun p hp => hp, Nat.le_refl _, Nat.le_refl _⟩
  | i + 1 => by
    obtain ⟨h1, h2, h3, h4⟩ := cl_all i
    show Cl (5 * (i + 1)) r (rAllStep S (rAllTo S i r))
    unfold rAllStep
    split
    · exact ⟨h1, h2, h3, by omega⟩
    · rename_i s l hs
      obtain ⟨k1, k2, k3, k4⟩ := cl_close (S := S) (r := rAllTo S i r) s.name
      exact ⟨k1.trans h1, fun p hp => h2 p (k2 p hp), by omega, by omega⟩
theorem allTo_made : ∀ i, (allTo i st).made = st.made
  | 0 => rfl
  | i + 1 => by
    have ih := allTo_made i
    show (allStep (allTo i st)).made = _
    unfold allStep
    split
    · exact ih
    · exact (closeTo_made _ _ 5).trans ih
theorem Bd.cl (h : Bd j st r) {e : Nat} {r' : RSt} {st' : St} (hc : Cl e r r') (he : e ≤ 100) (hm : st'.made = st.made) : Bd (j + 1) st' r' := by
  have hn := h.next
  refine ⟨Nat.le_trans hc.len hn.o16, ?_, by rw [hm]; exact hn.md, by rw [hc.files]; exact hn.fl, fun p hp => hn.fs p (by rw [← hc.files]; exact hp), fun p hp => hn.os p (hc.opn p hp), fun p hp => hn.nm p (by rw [← hc.files]; exact hp)⟩
  have := hc.ev
  have := h.ev
  omega
theorem Bd.close (h : Bd j st r) (n : ByteArray) : Bd (j + 1) (closeTo n 5 (st, 0, false)).1 (rCloseS S r n) := h.cl (cl_close n) (by decide) (closeTo_made _ _ 5)
theorem Bd.all (h : Bd j st r) {i i' : Nat} (hi : i ≤ 16) : Bd (j + 1) (allTo i' st) (rAllTo S i r) := h.cl (cl_all i) (by omega) (allTo_made i')
theorem Bd.sys (h : Bd j st r) (n : ByteArray) : Bd (j + 1) (sysS st n) (rSysS S r n) := by
  have hn := h.next
  have hmd : (sysS st n).made ≤ 8 + (j + 1) := by
    unfold sysS
    split
    · exact hn.md
    · exact hn.md
  unfold rSysS
  split
  · exact ⟨hn.o16, hn.ev, hmd, hn.fl, hn.fs, hn.os, hn.nm⟩
  · refine ⟨hn.o16, ?_, hmd, hn.fl, hn.fs, hn.os, hn.nm⟩
    show (r.events ++ [_]).length ≤ _
    rw [List.length_append, List.length_singleton]
    have := h.ev
    omega
theorem Bd.chance (h : Bd j st r) (x : Int) : Bd (j + 1) { st with chance := x } (chanceR r) := by
  have hn := h.next
  exact ⟨hn.o16, hn.ev, hn.md, hn.fl, hn.fs, hn.os, hn.nm⟩
/- Once nothing is open, more closings close nothing. -/
theorem allTo_still : ∀ i k, (allTo i st).streams = [] → allTo (i + k) st = allTo i st
  | i, 0, _ => rfl
  | i, k + 1, h => by
    have ih := allTo_still i k h
    show allStep (allTo (i + k) st) = _
    rw [ih]
    unfold allStep
    rw [h]
theorem rAllTo_still : ∀ i k, (rAllTo S i r).opn = [] → rAllTo S (i + k) r = rAllTo S i r
  | i, 0, _ => rfl
  | i, k + 1, h => by
    have ih := rAllTo_still i k h
    show rAllStep S (rAllTo S (i + k) r) = _
    rw [ih]
    unfold rAllStep
    rw [h]
theorem all_same (h : Agree S st r) (hu : Uniq st.streams) (hk : ∀ s ∈ st.streams, 1 ≤ s.kind ∧ s.kind ≤ 5) {i i' : Nat} (h1 : (allTo i st).streams = []) (h2 : (rAllTo S i' r).opn = []) : Agree S (allTo i st) (rAllTo S i' r) := by
  rcases Nat.le_total i i' with hl | hl
  · obtain ⟨k, rfl⟩ : ∃ k, i' = i + k := ⟨i' - i, by omega⟩
    have := (h.all hu hk (i + k)).1
    rw [allTo_still i k h1] at this
    exact this
  · obtain ⟨k, rfl⟩ : ∃ k, i = i' + k := ⟨i - i', by omega⟩
    have := (h.all hu hk (i' + k)).1
    rw [rAllTo_still i' k h2] at this
    exact this
theorem Agree.chanced (h : Agree S st r) : Agree S { st with chance := nextU st.chance } (chanceR r) := by
  refine ⟨h.most, h.clk, ?_, h.file, h.reply, h.fails, h.stdin, h.taken, h.trace, h.strms, h.tk, h.once⟩
  show nextU st.chance = _
  rw [h.chance]
  rfl
end
end Go.Proofs.Ythbkcdbmimhhkaa.Rw
