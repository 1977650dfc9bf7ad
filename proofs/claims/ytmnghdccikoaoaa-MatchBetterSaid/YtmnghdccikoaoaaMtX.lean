/-
  Package match: a walker's round, and what it leaves alone.
-/
import Derived.Test.YtmnghdccikoaoaaMtW
namespace Go.Proofs.Ytmnghdccikoaoaa.Mt
open Go.RowKit Go.Proofs.Ytmnghdccikoaoaa.Sh

abbrev PutJ := List Nat → World → (Nat → Prop) → Prop
/- What is asked of the closure that a walker hands states to. S: the blocks that it may turn; N: those that it reads beside. -/
structure PutOk (pf : FuncId) (caps : Array Value) (sts : List St) (B : Nat) (N : Nat → Prop) (J : PutJ) : Prop where
  enters : ∀ (args : Array Value) (w : World), (callFunc pf args).run Try.prog w = .ok (.enter pf args) w
  lt : ∀ ps w S, J ps w S → ∀ k, S k → k < w.heap.size
  stable : ∀ ps w w' S, J ps w S → Same w w' → (∀ k, S k ∨ N k → w'.heap[k]? = w.heap[k]?) → J ps w' S
  put : ∀ ps w S (q : Nat) s, J ps w S → sts[q]? = some s → (s.act = 1 ∨ s.act = 0) → B ≤ w.heap.size → ps.length ≤ sts.length → Calls Try.prog pf (#[.int .i64 (q : Int)] ++ caps) w fun e w' => e = .returned (.tuple #[]) ∧
    ∃ S', J (ps ++ [q]) w' S' ∧ Same w w' ∧ (∀ k, k < w.heap.size → ¬ S k → w'.heap[k]? = w.heap[k]?) ∧ (∀ k, S' k → S k ∨ w.heap.size ≤ k)

structure Mid (J : PutJ) (N : Nat → Prop) (B wb gs gn cap : Nat) (pv : Value) (sts : List St) (w : World) (ov0 : Value) (S0 : Nat → Prop) (wr : World) (c : Cfg) (ov : Value) (S : Nat → Prop) : Prop where
  wk : Wk wr B wb gs gn cap pv ov sts c.seen c.op
  il : c.i < sts.length
  opl : ∀ x ∈ c.op, x < sts.length
  j : J c.ps wr S
  d : ¬ S wb ∧ ¬ S gn ∧ ¬ S gs ∧ ∀ k, ov.ownBlock = some k → ¬ S k
  n : ∀ k, N k → k < B ∧ k ≠ wb ∧ k ≠ gn
  same : Same w wr
  fr : ∀ k, k < w.heap.size → k ≠ wb → k ≠ gn → ov0.ownBlock ≠ some k → ¬ S0 k → wr.heap[k]? = w.heap[k]?
  ow : ov.ownBlock = ov0.ownBlock ∨ ∃ g, w.heap.size ≤ g ∧ ov.ownBlock = some g
  sw : ∀ k, S k → S0 k ∨ w.heap.size ≤ k

variable {g0 n0 oc0 : Nat} {pf : FuncId} {caps : Array Value} {J : PutJ} {N : Nat → Prop} {B wb gs gn cap : Nat} {pv : Value} {sts : List St} {w : World} {ov0 : Value} {S0 : Nat → Prop} {wr : World} {c : Cfg} {ov : Value} {S : Nat → Prop}

/- The walker's own memory turns. -/
theorem Mid.turn (hp : PutOk pf caps sts B N J) (h : Mid J N B wb gs gn cap pv sts w ov0 S0 wr c ov S) {w' : World} {ov' : Value} {c' : Cfg} (hw : Wk w' B wb gs gn cap pv ov' sts c'.seen c'.op) (hi : c'.i < sts.length) (ho : ∀ x ∈ c'.op, x < sts.length) (hps : c'.ps = c.ps) (hs : Same wr w')
    (hf : ∀ k, k < wr.heap.size → k ≠ wb → k ≠ gn → ov.ownBlock ≠ some k → w'.heap[k]? = wr.heap[k]?) (hov : ov'.ownBlock = ov.ownBlock ∨ ∃ g, wr.heap.size ≤ g ∧ ov'.ownBlock = some g) : Mid J N B wb gs gn cap pv sts w ov0 S0 w' c' ov' S := by
  have hlt := hp.lt _ _ _ h.j
  refine ⟨hw, hi, ho, ?_, ⟨h.d.1, h.d.2.1, h.d.2.2.1, fun k hk hS => ?_⟩, h.n, h.same.trans hs, fun k hk h1 h2 h3 h4 => ?_, ?_, h.sw⟩
  · rw [hps]
    refine hp.stable _ _ _ _ h.j hs fun k hk => ?_
    rcases hk with hk | hk
    · exact hf k (hlt k hk) (fun e => h.d.1 (e ▸ hk)) (fun e => h.d.2.1 (e ▸ hk)) fun e => h.d.2.2.2 k e hk
    · obtain ⟨q1, q2, q3⟩ := h.n k hk
      refine hf k (Nat.lt_of_lt_of_le q1 h.wk.lt.2.2.2) q2 q3 fun e => ?_
      have := (h.wk.row.lt k e).1
      omega
  · rcases hov with e | ⟨g, hg, e⟩
    · exact h.d.2.2.2 k (e ▸ hk) hS
    · rw [e] at hk
      cases hk
      have := hlt _ hS
      omega
  · refine (hf k (Nat.lt_of_lt_of_le hk h.same.size) h1 h2 fun e => ?_).trans (h.fr k hk h1 h2 h3 h4)
    rcases h.ow with e2 | ⟨g, hg, e2⟩
    · exact h3 (e2 ▸ e)
    · rw [e2] at e
      cases e
      omega
  · rcases hov with e | ⟨g, hg, e⟩
    · rw [e]; exact h.ow
    · exact .inr ⟨g, Nat.le_trans h.same.size hg, e⟩
/- A state is handed to the closure. -/
theorem Mid.putted (h : Mid J N B wb gs gn cap pv sts w ov0 S0 wr c ov S) {w' : World} {S' : Nat → Prop} (hj : J (c.ps ++ [c.i]) w' S') (hs : Same wr w') (hf : ∀ k, k < wr.heap.size → ¬ S k → w'.heap[k]? = wr.heap[k]?)
    (hS : ∀ k, S' k → S k ∨ wr.heap.size ≤ k) : Mid J N B wb gs gn cap pv sts w ov0 S0 w' { c with ps := c.ps ++ [c.i] } ov S' := by
  have hlt := h.wk.lt
  have hown := h.wk.row.lt
  refine ⟨h.wk.keep hs fun k hk => ?_, h.il, h.opl, hj, ⟨fun h1 => ?_, fun h1 => ?_, fun h1 => ?_, fun k hk h1 => ?_⟩, h.n, h.same.trans hs, fun k hk h1 h2 h3 h4 => ?_, h.ow, fun k hk => ?_⟩
  · rcases hk with rfl | rfl | rfl | hk
    · exact hf _ (by omega) h.d.1
    · exact hf _ (by omega) h.d.2.2.1
    · exact hf _ (by omega) h.d.2.1
    · exact hf _ (hown k hk).2 (h.d.2.2.2 k hk)
  · rcases hS _ h1 with q | q
    · exact h.d.1 q
    · omega
  · rcases hS _ h1 with q | q
    · exact h.d.2.1 q
    · omega
  · rcases hS _ h1 with q | q
    · exact h.d.2.2.1 q
    · omega
  · rcases hS _ h1 with q | q
    · exact h.d.2.2.2 k hk q
    · have := (hown k hk).2
      omega
  · refine (hf k (Nat.lt_of_lt_of_le hk h.same.size) fun hS2 => ?_).trans (h.fr k hk h1 h2 h3 h4)
    rcases h.sw k hS2 with q | q
    · exact h4 q
    · omega
  · rcases hS k hk with q | q
    · exact h.sw k q
    · exact .inr (Nat.le_trans h.same.size q)
/- A state is marked. -/
theorem Mid.marked (hp : PutOk pf caps sts B N J) (h : Mid J N B wb gs gn cap pv sts w ov0 S0 wr c ov S) (p : Int) : Mid J N B wb gs gn cap pv sts w ov0 S0 (wr.setCell ⟨gn, c.i, none⟩ (.int .i64 (p + 1))) (mark c p) ov S :=
  h.turn hp (h.wk.marked c.i (p + 1)) h.il h.opl rfl ⟨rfl, rfl, rfl, by simp [World.setCell]⟩ (fun k _ _ hk _ => heap_setCell_other wr ⟨gn, c.i, none⟩ k _ hk) (.inl rfl)
theorem Mid.at_ (h : Mid J N B wb gs gn cap pv sts w ov0 S0 wr c ov S) (i : Nat) (hi : i < sts.length) : Mid J N B wb gs gn cap pv sts w ov0 S0 wr { c with i := i } ov S :=
  ⟨h.wk, hi, h.opl, h.j, h.d, h.n, h.same, h.fr, h.ow, h.sw⟩
theorem Mid.later (hp : PutOk pf caps sts B N J) (h : Mid J N B wb gs gn cap pv sts w ov0 S0 wr c ov S) {w' : World} (hb : Below wr.heap.size wr w') : Mid J N B wb gs gn cap pv sts w ov0 S0 w' c ov S := by
  have hlt := h.wk.lt
  have hs : Same wr w' := ⟨hb.os, hb.tape, hb.output, hb.size⟩
  refine h.turn hp (c' := c) (h.wk.keep hs fun k hk => ?_) h.il h.opl rfl hs (fun k hk _ _ _ => hb.block k hk) (.inl rfl)
  rcases hk with rfl | rfl | rfl | hk
  · exact hb.block _ (by omega)
  · exact hb.block _ (by omega)
  · exact hb.block _ (by omega)
  · exact hb.block _ (h.wk.row.lt k hk).2
/- The states that it has still to go to. -/
theorem Mid.form (h : Mid J N B wb gs gn cap pv sts w ov0 S0 wr c ov S) : ∃ oa oc, ov = .slice oa c.op.length oc := by
  rcases h.wk.row.2 with ⟨h1, h2⟩ | ⟨g, oc, cur, h1, _⟩
  · exact ⟨none, 0, by rw [h1, h2]⟩
  · exact ⟨_, _, h1⟩
theorem Mid.last (h : Mid J N B wb gs gn cap pv sts w ov0 S0 wr c ov S) {l : List Nat} {x : Nat} (ho : c.op = l ++ [x]) : ∃ g oc, ov = .slice (some ⟨g, 0, none⟩) (l.length + 1) oc ∧ l.length + 1 ≤ oc ∧ B ≤ g ∧ wr.cell? ⟨g, l.length, none⟩ = some (.int .i64 (x : Int)) ∧ x < sts.length := by
  have hrow := h.wk.row
  have hlen : c.op.length = l.length + 1 := by rw [ho]; simp
  rcases hrow.2 with ⟨_, h2⟩ | ⟨g, oc, cur, h1, h2, h3, h4, _⟩
  · omega
  · rw [h1] at hrow
    have hc := hrow.cellAt l.length (by omega)
    refine ⟨g, oc, by rw [h1, hlen], by omega, h2, ?_, h.opl x (by rw [ho]; simp)⟩
    rw [hc, ho]
    simp
theorem Mid.popped (hp : PutOk pf caps sts B N J) (h : Mid J N B wb gs gn cap pv sts w ov0 S0 wr c ov S) {l : List Nat} {x g oc : Nat} (ho : c.op = l ++ [x]) (hv : ov = .slice (some ⟨g, 0, none⟩) (l.length + 1) oc) :
    Mid J N B wb gs gn cap pv sts w ov0 S0 (wr.setCell ⟨wb, 2, none⟩ (.slice (some ⟨g, 0, none⟩) l.length oc)) { c with i := x, op := l } (.slice (some ⟨g, 0, none⟩) l.length oc) S := by
  subst hv
  have hlt := h.wk.lt
  have hne := h.wk.ne
  have hg := h.wk.row.lt g rfl
  have hk : ∀ k, k ≠ wb → (wr.setCell ⟨wb, 2, none⟩ (.slice (some ⟨g, 0, none⟩) l.length oc)).heap[k]? = wr.heap[k]? := fun k hk => heap_setCell_other wr ⟨wb, 2, none⟩ k _ hk
  have e : ∀ (k j : Nat), k ≠ wb → (wr.setCell ⟨wb, 2, none⟩ (.slice (some ⟨g, 0, none⟩) l.length oc)).cell? ⟨k, j, none⟩ = wr.cell? ⟨k, j, none⟩ := fun k j h2 => World.cell?_of_block (hk k h2)
  have e2 : ∀ j : Nat, j ≠ 2 → (wr.setCell ⟨wb, 2, none⟩ (.slice (some ⟨g, 0, none⟩) l.length oc)).cell? ⟨wb, j, none⟩ = wr.cell? ⟨wb, j, none⟩ := fun j hj => World.cell?_setCell_other _ _ _ _ (fun e => hj (by cases e; rfl))
  refine h.turn hp (c' := { c with i := x, op := l }) ⟨(e2 0 (by omega)).trans h.wk.c0, (e2 1 (by omega)).trans h.wk.c1, World.cell?_setCell_same' wr _ _ (by rw [h.wk.c2]; rfl), (e2 3 (by omega)).trans h.wk.c3, (World.frozen?_setCell _ _ _ _).trans h.wk.f2,
    fun q s hq j u hu => (e gs _ (by omega)).trans (h.wk.st q s hq j u hu), (hk gn (by omega)).trans h.wk.sn, h.wk.sl, ?_, ⟨h.wk.lt.1, h.wk.lt.2.1, h.wk.lt.2.2.1, by simpa [World.setCell] using h.wk.lt.2.2.2⟩, h.wk.ne⟩ (h.opl x (by rw [ho]; simp)) (fun y hy => h.opl y (by rw [ho]; simp [hy])) rfl ⟨rfl, rfl, rfl, by simp [World.setCell]⟩ (fun k _ hk2 _ _ => hk k hk2) (.inl rfl)
  obtain ⟨h1, h2⟩ := h.wk.row
  rcases h2 with ⟨h2, _⟩ | ⟨g', oc', cur, h3, h4, h5, h6, h7, h8, h9⟩
  · cases h2
  · simp only [Value.slice.injEq, Option.some.injEq, Addr.mk.injEq, and_true] at h3
    obtain ⟨rfl, _, rfl⟩ := h3
    have hl : c.op.length = l.length + 1 := by rw [ho]; simp
    refine ⟨by simp, .inr ⟨g, oc, cur, rfl, h4, (hk g (by omega)).trans h5, (show l.length ≤ oc by omega), h7, h8, ?_⟩⟩
    show cur.toList.take (l.length * 1) = l.map fun (n : Nat) => Value.int .i64 (n : Int)
    have h10 : (cur.toList.take (c.op.length * 1)).take l.length = (c.op.map fun (n : Nat) => Value.int .i64 (n : Int)).take l.length := by rw [h9]
    rw [List.take_take, Nat.min_eq_left (by omega)] at h10
    rw [Nat.mul_one, h10, ho, List.map_append]
    exact List.take_left' (by simp)
theorem Mid.last_cell (h : Mid J N B wb gs gn cap pv sts w ov0 S0 wr c (.slice (some ⟨g0, 0, none⟩) n0 oc0) S) {l : List Nat} {x : Nat} (ho : c.op = l ++ [x]) : wr.cell? ⟨g0, l.length, none⟩ = some (.int .i64 (x : Int)) := by
  obtain ⟨g', oc', hv, _, _, hc, _⟩ := h.last ho
  simp only [Value.slice.injEq, Option.some.injEq, Addr.mk.injEq, and_true] at hv
  rw [hv.1]
  exact hc
/- A state more to go to. -/
theorem int_info : ∃ i z, Try.prog.info? 3 = some i ∧ i.zero = some z ∧ i.size = 1 ∧ i.bytes = 8 ∧ z.cells.size = 1 := by
  have h : (Try.prog.info? 3).map (fun i => (i.zero.map (·.cells.size), i.size, i.bytes)) = some (some 1, 1, 8) := by kernel_rfl
  cases hi : Try.prog.info? 3 with
  | none => rw [hi] at h; cases h
  | some i =>
    rw [hi] at h
    simp only [Option.map_some, Option.some.injEq, Prod.mk.injEq] at h
    cases hz : i.zero with
    | none => rw [hz] at h; cases h.1
    | some z => rw [hz] at h; exact ⟨i, z, rfl, hz, h.2.1, h.2.2, by simpa using h.1⟩
theorem Mid.far (h : Mid J N B wb gs gn cap pv sts w ov0 S0 wr c ov S) {W w' : World} (hb : Below wr.heap.size wr W) (hg : W.grownBy w' ov.ownBlock) (k j : Nat) (hk : k = wb ∨ k = gs ∨ k = gn) :
    w'.cell? ⟨k, j, none⟩ = wr.cell? ⟨k, j, none⟩ ∧ w'.frozen? ⟨k, j, none⟩ = wr.frozen? ⟨k, j, none⟩ ∧ w'.heap[k]? = wr.heap[k]? := by
  have hlt := h.wk.lt
  have hk2 : k < wr.heap.size ∧ k < B := by omega
  have hne : some k ≠ ov.ownBlock := fun e => by have := (h.wk.row.lt k e.symm).1; omega
  have e : w'.heap[k]? = wr.heap[k]? := (hg.block k (Nat.lt_of_lt_of_le hk2.1 hb.size) hne).trans (hb.block k hk2.1)
  exact ⟨World.cell?_of_block (a := ⟨k, j, none⟩) e, World.frozen?_of_block (a := ⟨k, j, none⟩) e, e⟩
theorem Mid.pushed (hp : PutOk pf caps sts B N J) (h : Mid J N B wb gs gn cap pv sts w ov0 S0 wr c ov S) {W w' : World} (hb : Below wr.heap.size wr W) {g oc x : Nat} (hx : x < sts.length)
    (hown : w'.ownsRow B 3 1 (.slice (some ⟨g, 0, none⟩) (c.op.length + 1) oc) (c.op.length + 1) ((c.op.map fun (n : Nat) => Value.int .i64 (n : Int)) ++ [.int .i64 (x : Int)])) (hg : W.grownBy w' ov.ownBlock) (hat : ov.ownBlock = some g ∨ g = W.heap.size) :
    Mid J N B wb gs gn cap pv sts w ov0 S0 (w'.setCell ⟨wb, 2, none⟩ (.slice (some ⟨g, 0, none⟩) (c.op.length + 1) oc)) { c with op := c.op ++ [x] } (.slice (some ⟨g, 0, none⟩) (c.op.length + 1) oc) S := by
  have hlt := h.wk.lt
  have hne := h.wk.ne
  have hgB := hown.lt g rfl
  have hgw : (Value.slice (some ⟨g, 0, none⟩) (c.op.length + 1) oc).ownBlock ≠ some wb := fun e => by
    have : g = wb := by simpa [Value.ownBlock] using e
    omega
  have hk : ∀ (u : Value) (k : Nat), k ≠ wb → (w'.setCell ⟨wb, 2, none⟩ u).heap[k]? = w'.heap[k]? := fun u k hk => heap_setCell_other w' ⟨wb, 2, none⟩ k _ hk
  have e : ∀ (u : Value) (k j : Nat), k ≠ wb → (w'.setCell ⟨wb, 2, none⟩ u).cell? ⟨k, j, none⟩ = w'.cell? ⟨k, j, none⟩ := fun u k j h2 => World.cell?_of_block (hk u k h2)
  have e2 : ∀ (u : Value) (j : Nat), j ≠ 2 → (w'.setCell ⟨wb, 2, none⟩ u).cell? ⟨wb, j, none⟩ = w'.cell? ⟨wb, j, none⟩ := fun u j hj => World.cell?_setCell_other _ _ _ _ (fun e => hj (by cases e; rfl))
  have fw := fun j => h.far hb hg wb j (.inl rfl)
  have hsz : w'.heap.size = (w'.setCell ⟨wb, 2, none⟩ (.slice (some ⟨g, 0, none⟩) (c.op.length + 1) oc)).heap.size := by simp [World.setCell]
  have hsame : Same wr (w'.setCell ⟨wb, 2, none⟩ (.slice (some ⟨g, 0, none⟩) (c.op.length + 1) oc)) := ⟨hg.os.trans hb.os, hg.tape.trans hb.tape, hg.output.trans hb.output, by rw [← hsz]; exact Nat.le_trans hb.size hg.size⟩
  refine h.turn hp (c' := { c with op := c.op ++ [x] }) ⟨(e2 _ 0 (by omega)).trans ((fw 0).1.trans h.wk.c0), (e2 _ 1 (by omega)).trans ((fw 1).1.trans h.wk.c1), World.cell?_setCell_same' w' _ _ (by rw [(fw 2).1, h.wk.c2]; rfl), (e2 _ 3 (by omega)).trans ((fw 3).1.trans h.wk.c3), (World.frozen?_setCell _ _ _ _).trans ((fw 2).2.1.trans h.wk.f2),
    fun q s hq j u hu => (e _ gs _ (by omega)).trans ((h.far hb hg gs _ (.inr (.inl rfl))).1.trans (h.wk.st q s hq j u hu)), (hk _ gn (by omega)).trans ((h.far hb hg gn 0 (.inr (.inr rfl))).2.2.trans h.wk.sn), h.wk.sl, ?_, ⟨h.wk.lt.1, h.wk.lt.2.1, h.wk.lt.2.2.1, Nat.le_trans h.wk.lt.2.2.2 hsame.size⟩, h.wk.ne⟩ h.il (fun y hy => ?_) rfl hsame (fun k hk1 hk2 hk3 hk4 => ?_) ?_
  · have e3 : (c.op ++ [x]).map (fun (n : Nat) => Value.int .i64 (n : Int)) = (c.op.map fun (n : Nat) => Value.int .i64 (n : Int)) ++ [.int .i64 (x : Int)] := by simp
    have e4 : (c.op ++ [x]).length = c.op.length + 1 := by simp
    show World.ownsRow _ B 3 1 _ (c.op ++ [x]).length ((c.op ++ [x]).map fun (n : Nat) => Value.int .i64 (n : Int))
    rw [e3, e4]
    exact hown.kept (row := some wb) ⟨rfl, rfl, rfl, Nat.le_of_eq hsz, fun k _ hk2 => hk _ k fun e => hk2 (by rw [e])⟩ (.inr hgw)
  · rcases List.mem_append.mp hy with h1 | h1
    · exact h.opl y h1
    · simp at h1; omega
  · rw [hk _ k hk2, hg.block k (Nat.lt_of_lt_of_le hk1 hb.size) (fun e => hk4 e.symm), hb.block k hk1]
  · rcases hat with q | q
    · exact .inl q.symm
    · exact .inr ⟨g, by rw [q]; exact hb.size, rfl⟩
end Go.Proofs.Ytmnghdccikoaoaa.Mt
