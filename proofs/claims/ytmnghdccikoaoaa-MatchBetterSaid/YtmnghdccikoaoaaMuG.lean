/-
  Package match: the memory of a search between its walks.
-/
import Derived.Test.YtmnghdccikoaoaaMuF
namespace Go.Proofs.Ytmnghdccikoaoaa.Mt
open Go.RowKit Go.Proofs.Ytmnghdccikoaoaa.Sh

/- What stays the same through a search. -/
structure Cx where
  x : Bx
  mb : Nat
  gs : Nat
  gn : Nat
  wb : Nat
  cap : Nat
  B : Nat
  sts : List St
  size : Int
  first : Int
  a0 : Int
  a1 : Int
  a2 : Int
  a3 : Int
  n0 : Nat
def Cx.pf (c : Cx) : Value := .func (.func 57) #[] (args1 c.x)
structure CxOk (c : Cx) : Prop where
  nx : ∀ k, (k = c.x.cm ∨ k = c.x.cl ∨ k = c.x.cs ∨ k = c.x.ch ∨ k = c.x.ca ∨ k = c.x.cn ∨ k = c.x.cf ∨ k = c.mb ∨ k = c.gs) → k ≠ c.wb ∧ k ≠ c.gn
  n0 : c.n0 ≤ c.x.cm ∧ c.n0 ≤ c.x.cl ∧ c.n0 ≤ c.x.cs ∧ c.n0 ≤ c.x.ch ∧ c.n0 ≤ c.x.ca ∧ c.n0 ≤ c.x.cn ∧ c.n0 ≤ c.x.cf ∧ c.n0 ≤ c.wb ∧ c.n0 ≤ c.gn ∧ c.n0 ≤ c.B
  closed : Closed c.sts
  len : c.sts.length ≤ 100000
structure Sm (c : Cx) (w0 wr : World) (lv pv wo : Value) (X : LS) (P : List (Nat × Nat)) (start p : Nat) (seen : List Int) : Prop where
  wk : Wk wr c.B c.wb c.gs c.gn c.cap c.pf wo c.sts seen []
  mem : SMem wr c.x c.mb c.gs c.cap c.B c.sts c.size c.first c.a0 c.a1 c.a2 c.a3 lv X start p
  past : wr.ownsRow c.B 103 2 pv P.length (flatT P)
  d1 : ∀ k, lv.ownBlock = some k → pv.ownBlock ≠ some k
  d2 : ∀ k, lv.ownBlock = some k → wo.ownBlock ≠ some k
  d3 : ∀ k, pv.ownBlock = some k → wo.ownBlock ≠ some k
  far : Below c.n0 w0 wr
variable {c : Cx} {w0 wr w' : World} {lv pv wo : Value} {X : LS} {P : List (Nat × Nat)} {start p : Nat} {seen : List Int}
theorem ownsRow_keep {w w' : World} {B size n : Nat} {e : TypeId} {v : Value} {xs : List Value} (h : w.ownsRow B e size v n xs) (hk : ∀ k, v.ownBlock = some k → w'.heap[k]? = w.heap[k]?) : w'.ownsRow B e size v n xs := by
  obtain ⟨h1, h2⟩ := h
  refine ⟨h1, ?_⟩
  rcases h2 with h2 | ⟨g, cp, cur, hv, h3, h4, h5⟩
  · exact .inl h2
  · exact .inr ⟨g, cp, cur, hv, h3, (hk g (by rw [hv]; rfl)).trans h4, h5⟩
theorem Sm.ge (h : Sm c w0 wr lv pv wo X P start p seen) {k : Nat} (hk : lv.ownBlock = some k ∨ pv.ownBlock = some k ∨ wo.ownBlock = some k) : c.B ≤ k ∧ k < wr.heap.size := by
  rcases hk with e | e | e
  · exact h.mem.row.lt k e
  · exact h.past.lt k e
  · exact h.wk.row.lt k e
/- Draws, and new blocks. -/
theorem Sm.below (h : Sm c w0 wr lv pv wo X P start p seen) (hc : CxOk c) (hb : Below wr.heap.size wr w') : Sm c w0 w' lv pv wo X P start p seen := by
  have hs : Same wr w' := ⟨hb.os, hb.tape, hb.output, hb.size⟩
  have hlt := h.wk.lt
  have hl := h.mem.ap.lt
  have hle := h.mem.le
  refine ⟨h.wk.keep hs fun k hk => hb.block k ?_, h.mem.keep hs fun k hk => hb.block k ?_, ownsRow_keep h.past fun k hk => hb.block k (h.ge (.inr (.inl hk))).2, h.d1, h.d2, h.d3, h.far.trans (hb.mono ?_)⟩
  · rcases hk with rfl | rfl | rfl | hk
    · omega
    · omega
    · omega
    · exact (h.ge (.inr (.inr hk))).2
  · rcases hk with hk | rfl | rfl | rfl | rfl | rfl
    · exact hk.lt h.mem
    · omega
    · omega
    · omega
    · omega
    · omega
  · have := hc.n0.2.2.2.2.2.2.2.2.2; omega
set_option maxHeartbeats 1000000 in
theorem srch_walk (hc : CxOk c) (h : Sm c w0 wr lv pv wo X P start p seen) {i : Nat} (hi : i < c.sts.length) (hL : X.L.length ≤ 100000) (hst : start ≤ p) (hp : p ≤ 1000000000000) (len : Int) :
    Calls Try.prog 55 #[.pointer (some ⟨c.wb, 0, none⟩), .int .i64 (i : Int), .int .i64 (p : Int), .int .i64 len] wr
      fun e w' => e = .returned (.tuple #[]) ∧ ∃ cF lv' wo', Ended c.sts (p : Int) len { i := i, op := [], seen := seen, ps := [] } cF ∧ Sm c w0 w' lv' pv wo' (cF.ps.foldl (put1s c.sts start p) X) P start p cF.seen := by
  have hl := h.mem.ap.lt
  have hlt := h.wk.lt
  have hle := h.mem.le
  have nS : ∀ k, (k = c.wb ∨ k = c.gn ∨ k = c.gs) → ¬ Turns c.x lv k := fun k hk hT => by
    have e1 : k < c.B := by rcases hk with rfl | rfl | rfl <;> omega
    have e2 : k = c.x.cl ∨ k = c.x.ca ∨ k = c.x.cn ∨ k = c.x.cf := by
      rcases hT with e | e | e | e | e
      · exact .inl e
      · exact .inr (.inl e)
      · exact .inr (.inr (.inl e))
      · exact .inr (.inr (.inr e))
      · have := (h.ge (.inl e)).1; omega
    rcases hk with rfl | rfl | rfl
    · rcases e2 with e | e | e | e
      · exact (hc.nx _ (.inr (.inl e))).1 rfl
      · exact (hc.nx _ (.inr (.inr (.inr (.inr (.inl e)))))).1 rfl
      · exact (hc.nx _ (.inr (.inr (.inr (.inr (.inr (.inl e))))))).1 rfl
      · exact (hc.nx _ (.inr (.inr (.inr (.inr (.inr (.inr (.inl e)))))))).1 rfl
    · rcases e2 with e | e | e | e
      · exact (hc.nx _ (.inr (.inl e))).2 rfl
      · exact (hc.nx _ (.inr (.inr (.inr (.inr (.inl e)))))).2 rfl
      · exact (hc.nx _ (.inr (.inr (.inr (.inr (.inr (.inl e))))))).2 rfl
      · exact (hc.nx _ (.inr (.inr (.inr (.inr (.inr (.inr (.inl e)))))))).2 rfl
    · rcases e2 with e | e | e | e
      · exact h.mem.ap.l.2.2.2.2.2.2.2 e.symm
      · exact h.mem.ap.a.2.2.2.2.2.2 e.symm
      · exact h.mem.ap.n.2.2.2.2.2 e.symm
      · exact h.mem.ap.f.2.2.2.2 e.symm
  have hT : ∀ k, Turns c.x lv k → c.B ≤ k → lv.ownBlock = some k := fun k hT hk => by
    rcases hT with e | e | e | e | e
    · omega
    · omega
    · omega
    · omega
    · exact e
  have hN : ∀ k, (k = c.x.cm ∨ k = c.mb ∨ k = c.gs ∨ k = c.x.cs ∨ k = c.x.ch) → k < c.B ∧ k ≠ c.wb ∧ k ≠ c.gn := fun k hk => by
    rcases hk with rfl | rfl | rfl | rfl | rfl
    · exact ⟨hl.1, hc.nx _ (.inl rfl)⟩
    · exact ⟨hl.2.2.2.2.2.2.2.1, hc.nx _ (.inr (.inr (.inr (.inr (.inr (.inr (.inr (.inl rfl))))))))⟩
    · exact ⟨hl.2.2.2.2.2.2.2.2, hc.nx _ (.inr (.inr (.inr (.inr (.inr (.inr (.inr (.inr rfl))))))))⟩
    · exact ⟨hl.2.2.1, hc.nx _ (.inr (.inr (.inl rfl)))⟩
    · exact ⟨hl.2.2.2.1, hc.nx _ (.inr (.inr (.inr (.inl rfl))))⟩
  have hM : Mid (SearchJ c.x c.mb c.gs c.cap c.B c.sts c.size c.first c.a0 c.a1 c.a2 c.a3 X start p) (fun k => k = c.x.cm ∨ k = c.mb ∨ k = c.gs ∨ k = c.x.cs ∨ k = c.x.ch) c.B c.wb c.gs c.gn c.cap c.pf c.sts wr wo (Turns c.x lv) wr { i := i, op := [], seen := seen, ps := [] } wo (Turns c.x lv) :=
    ⟨h.wk, hi, fun x hx => by simp at hx, ⟨lv, fun _ => Iff.rfl, h.mem⟩, ⟨nS _ (.inl rfl), nS _ (.inr (.inl rfl)), nS _ (.inr (.inr rfl)), fun k hk hS => h.d2 k (hT k hS (h.ge (.inr (.inr hk))).1) hk⟩, hN, Same.refl _, fun _ _ _ _ _ _ => rfl, .inl rfl, fun k hk => .inl hk⟩
  refine (walk (search_ok c.B hL hc.len hst hp) hc.closed (p : Int) len (by omega) (by omega) wr { i := i, op := [], seen := seen, ps := [] } wo (Turns c.x lv) hM hc.len rfl rfl).mono ?_
  rintro e w' ⟨he, cF, ov, S, hE, hM2⟩
  obtain ⟨lv', hS, hmem⟩ := hM2.j
  have hop : cF.op = [] := by obtain ⟨c1, _, _, h3⟩ := hE; exact h3
  have hwk := hM2.wk
  rw [hop] at hwk
  have hsz := hM2.same.size
  have hnew : ∀ k, lv'.ownBlock = some k → lv.ownBlock = some k ∨ wr.heap.size ≤ k := fun k hk => by
    have hB := (hmem.row.lt k hk).1
    rcases hM2.sw k ((hS k).mpr (.inr (.inr (.inr (.inr hk))))) with q | q
    · exact .inl (hT k q hB)
    · exact .inr q
  have hpf : ∀ k, pv.ownBlock = some k → w'.heap[k]? = wr.heap[k]? := fun k hk => by
    have hB := h.ge (.inr (.inl hk))
    refine hM2.fr k hB.2 (fun e => ?_) (fun e => ?_) (fun e => h.d3 k hk e) fun e => ?_
    · subst e; omega
    · subst e; omega
    · exact h.d1 k (hT k e hB.1) hk
  refine ⟨he, cF, lv', ov, hE, ⟨hwk, hmem, ownsRow_keep h.past hpf, fun k hk hp2 => ?_, fun k hk ho => ?_, fun k hk ho => ?_, ?_⟩⟩
  · rcases hnew k hk with q | q
    · exact h.d1 k q hp2
    · have := (h.ge (.inr (.inl hp2))).2; omega
  · exact hM2.d.2.2.2 k ho ((hS k).mpr (.inr (.inr (.inr (.inr hk)))))
  · rcases hM2.ow with e | ⟨g, hg, e⟩
    · exact h.d3 k hk (e ▸ ho)
    · rw [e] at ho
      cases ho
      have := (h.ge (.inr (.inl hk))).2
      omega
  · have hn0 := hc.n0
    refine h.far.trans ⟨hM2.same.os, hM2.same.tape, hM2.same.output, hsz, fun k hk => hM2.fr k (by omega) (by omega) (by omega) (fun e => by have := (h.ge (.inr (.inr e))).1; omega) fun e => ?_⟩
    rcases e with e | e | e | e | e
    · omega
    · omega
    · omega
    · omega
    · have := (h.ge (.inl e)).1; omega
/- The start, and the place, are set. -/
theorem Sm.set (h : Sm c w0 wr lv pv wo X P start p seen) (hc : CxOk c) (k : Nat) (hk : k = c.x.cs ∨ k = c.x.ch) (u : Value) (start' p' : Nat) (hs : (wr.setCell ⟨k, 0, none⟩ u).cell? ⟨c.x.cs, 0, none⟩ = some (.int .i64 (start' : Int))) (hh : (wr.setCell ⟨k, 0, none⟩ u).cell? ⟨c.x.ch, 0, none⟩ = some (.int .i64 (p' : Int))) :
    Sm c w0 (wr.setCell ⟨k, 0, none⟩ u) lv pv wo X P start' p' seen := by
  have hsz : (wr.setCell ⟨k, 0, none⟩ u).heap.size = wr.heap.size := size_setCell _ _ _
  have hsame : Same wr (wr.setCell ⟨k, 0, none⟩ u) := ⟨rfl, rfl, rfl, by rw [hsz]; exact Nat.le_refl _⟩
  have e : ∀ b, b ≠ k → (wr.setCell ⟨k, 0, none⟩ u).heap[b]? = wr.heap[b]? := fun b hb => heap_setCell_other wr ⟨k, 0, none⟩ b _ hb
  have ce : ∀ b, b ≠ k → (wr.setCell ⟨k, 0, none⟩ u).cell? ⟨b, 0, none⟩ = wr.cell? ⟨b, 0, none⟩ := fun b hb => World.cell?_of_block (a := ⟨b, 0, none⟩) (e b hb)
  have zf : ∀ b, (wr.setCell ⟨k, 0, none⟩ u).frozen? ⟨b, 0, none⟩ = wr.frozen? ⟨b, 0, none⟩ := fun b => World.frozen?_setCell _ _ _ _
  have hl := h.mem.ap.lt
  have kB : k < c.B := by rcases hk with rfl | rfl; exact hl.2.2.1; exact hl.2.2.2.1
  have nown : ∀ b, (lv.ownBlock = some b ∨ pv.ownBlock = some b ∨ wo.ownBlock = some b) → b ≠ k := fun b hb => by have := (h.ge hb).1; omega
  have nw : c.wb ≠ k ∧ c.gn ≠ k := by
    rcases hk with rfl | rfl
    · have := hc.nx c.x.cs (.inr (.inr (.inl rfl))); exact ⟨this.1.symm, this.2.symm⟩
    · have := hc.nx c.x.ch (.inr (.inr (.inr (.inl rfl)))); exact ⟨this.1.symm, this.2.symm⟩
  have ng : c.gs ≠ k := by
    rcases hk with rfl | rfl
    · exact h.mem.ap.s.2.2.2.symm
    · exact h.mem.ap.h.2.2.symm
  have nm : c.mb ≠ k := by
    rcases hk with rfl | rfl
    · exact h.mem.ap.s.2.2.1.symm
    · exact h.mem.ap.h.2.1.symm
  have n1 : c.x.cm ≠ k ∧ c.x.cl ≠ k ∧ c.x.ca ≠ k ∧ c.x.cn ≠ k ∧ c.x.cf ≠ k := by
    rcases hk with rfl | rfl
    · exact ⟨h.mem.ap.s.1.symm, h.mem.ap.l.2.1, h.mem.ap.a.2.1, h.mem.ap.n.2.1, h.mem.ap.f.2.1⟩
    · exact ⟨h.mem.ap.h.1.symm, h.mem.ap.l.2.2.1, h.mem.ap.a.2.2.1, h.mem.ap.n.2.2.1, h.mem.ap.f.2.2.1⟩
  refine ⟨h.wk.keep hsame fun b hb => e b ?_, ⟨(ce _ n1.1).trans h.mem.m, h.mem.mat.same fun b hb => e b (by rcases hb with rfl | rfl; exact nm; exact ng), (ce _ n1.2.1).trans h.mem.l, hs, hh, (ce _ n1.2.2.1).trans h.mem.a, (ce _ n1.2.2.2.1).trans h.mem.n, (ce _ n1.2.2.2.2).trans h.mem.f,
    ⟨(zf _).trans h.mem.fz.1, (zf _).trans h.mem.fz.2.1, (zf _).trans h.mem.fz.2.2.1, (zf _).trans h.mem.fz.2.2.2.1, (zf _).trans h.mem.fz.2.2.2.2.1, (zf _).trans h.mem.fz.2.2.2.2.2⟩, ownsRow_keep h.mem.row fun b hb => e b (nown b (.inl hb)), h.mem.ap, by rw [hsz]; exact h.mem.le⟩, ownsRow_keep h.past fun b hb => e b (nown b (.inr (.inl hb))), h.d1, h.d2, h.d3, h.far.trans ⟨rfl, rfl, rfl, by rw [hsz]; exact Nat.le_refl _, fun b hb => e b ?_⟩⟩
  · rcases hb with rfl | rfl | rfl | hb
    · exact nw.1
    · exact ng
    · exact nw.2
    · exact nown b (.inr (.inr hb))
  · have := hc.n0
    rcases hk with rfl | rfl <;> omega
theorem Sm.setS (h : Sm c w0 wr lv pv wo X P start p seen) (hc : CxOk c) (start' : Nat) : Sm c w0 (wr.setCell ⟨c.x.cs, 0, none⟩ (.int .i64 (start' : Int))) lv pv wo X P start' p seen :=
  h.set hc c.x.cs (.inl rfl) _ start' p (World.cell?_setCell_same' wr _ _ (by rw [h.mem.s]; rfl)) ((World.cell?_of_block (a := ⟨c.x.ch, 0, none⟩) (heap_setCell_other wr ⟨c.x.cs, 0, none⟩ c.x.ch _ h.mem.ap.s.2.1.symm)).trans h.mem.h)
theorem Sm.setH (h : Sm c w0 wr lv pv wo X P start p seen) (hc : CxOk c) (p' : Nat) : Sm c w0 (wr.setCell ⟨c.x.ch, 0, none⟩ (.int .i64 (p' : Int))) lv pv wo X P start p' seen :=
  h.set hc c.x.ch (.inr rfl) _ start p' ((World.cell?_of_block (a := ⟨c.x.cs, 0, none⟩) (heap_setCell_other wr ⟨c.x.ch, 0, none⟩ c.x.cs _ h.mem.ap.s.2.1)).trans h.mem.s) (World.cell?_setCell_same' wr _ _ (by rw [h.mem.h]; rfl))
/- The lists change places. -/
theorem cut_row {w : World} {B n od : Nat} {ob : Option Addr} {xs : List Value} (h : w.ownsRow B 103 2 (.slice ob n od) n xs) : w.ownsRow B 103 2 (.slice ob 0 od) 0 [] := by
  obtain ⟨h1, h2⟩ := h
  rcases h2 with ⟨h2, h3⟩ | ⟨g, cp, cur, hv, h3, h4, h5, h6, h7, h8⟩
  · simp only [Value.slice.injEq] at h2
    obtain ⟨rfl, rfl, rfl⟩ := h2
    exact World.ownsRow_nil _ _ _ _
  · simp only [Value.slice.injEq] at hv
    obtain ⟨rfl, _, rfl⟩ := hv
    refine ⟨rfl, .inr ⟨g, _, cur, rfl, h3, h4, Nat.zero_le _, h6, h7, by simp⟩⟩
theorem Sm.swap {ob : Option Addr} {n od : Nat} (h : Sm c w0 wr lv (.slice ob n od) wo X P start p seen) (hn : n = P.length) (hc : CxOk c) : Sm c w0 (wr.setCell ⟨c.x.cl, 0, none⟩ (.slice ob 0 od)) (.slice ob 0 od) lv wo { X with L := [] } X.L start p seen := by
  subst hn
  have hsz : (wr.setCell ⟨c.x.cl, 0, none⟩ (.slice ob 0 od)).heap.size = wr.heap.size := size_setCell _ _ _
  have hsame : Same wr (wr.setCell ⟨c.x.cl, 0, none⟩ (.slice ob 0 od)) := ⟨rfl, rfl, rfl, by rw [hsz]; exact Nat.le_refl _⟩
  have e : ∀ b, b ≠ c.x.cl → (wr.setCell ⟨c.x.cl, 0, none⟩ (.slice ob 0 od)).heap[b]? = wr.heap[b]? := fun b hb => heap_setCell_other wr ⟨c.x.cl, 0, none⟩ b _ hb
  have ce : ∀ b, b ≠ c.x.cl → (wr.setCell ⟨c.x.cl, 0, none⟩ (.slice ob 0 od)).cell? ⟨b, 0, none⟩ = wr.cell? ⟨b, 0, none⟩ := fun b hb => World.cell?_of_block (a := ⟨b, 0, none⟩) (e b hb)
  have zf : ∀ b, (wr.setCell ⟨c.x.cl, 0, none⟩ (.slice ob 0 od)).frozen? ⟨b, 0, none⟩ = wr.frozen? ⟨b, 0, none⟩ := fun b => World.frozen?_setCell _ _ _ _
  have hl := h.mem.ap.lt
  have hal := h.mem.ap.l
  have nown : ∀ b, (lv.ownBlock = some b ∨ (Value.slice ob P.length od).ownBlock = some b ∨ wo.ownBlock = some b) → b ≠ c.x.cl := fun b hb => by have := (h.ge hb).1; omega
  have nx := hc.nx c.x.cl (.inr (.inl rfl))
  have own0 : (Value.slice ob 0 od).ownBlock = (Value.slice ob P.length od).ownBlock := by cases ob <;> rfl
  refine ⟨h.wk.keep hsame fun b hb => e b ?_, ⟨(ce _ hal.1.symm).trans h.mem.m, h.mem.mat.same fun b hb => e b (by rcases hb with rfl | rfl; exact hal.2.2.2.2.2.2.1.symm; exact hal.2.2.2.2.2.2.2.symm), World.cell?_setCell_same' wr _ _ (by rw [h.mem.l]; rfl), (ce _ hal.2.1.symm).trans h.mem.s, (ce _ hal.2.2.1.symm).trans h.mem.h, (ce _ hal.2.2.2.1.symm).trans h.mem.a, (ce _ hal.2.2.2.2.1.symm).trans h.mem.n, (ce _ hal.2.2.2.2.2.1.symm).trans h.mem.f,
    ⟨(zf _).trans h.mem.fz.1, (zf _).trans h.mem.fz.2.1, (zf _).trans h.mem.fz.2.2.1, (zf _).trans h.mem.fz.2.2.2.1, (zf _).trans h.mem.fz.2.2.2.2.1, (zf _).trans h.mem.fz.2.2.2.2.2⟩, ownsRow_keep (cut_row h.past) fun b hb => e b (nown b (.inr (.inl (own0 ▸ hb)))), h.mem.ap, by rw [hsz]; exact h.mem.le⟩, ownsRow_keep h.mem.row fun b hb => e b (nown b (.inl hb)),
    fun k hk hp => h.d1 k hp (own0 ▸ hk), fun k hk => h.d3 k (own0 ▸ hk), h.d2, h.far.trans ⟨rfl, rfl, rfl, by rw [hsz]; exact Nat.le_refl _, fun b hb => e b ?_⟩⟩
  · rcases hb with rfl | rfl | rfl | hb
    · exact nx.1.symm
    · exact hal.2.2.2.2.2.2.2.symm
    · exact nx.2.symm
    · exact nown b (.inr (.inr hb))
  · have := hc.n0
    omega
/- The list that is gone through. -/
theorem Sm.entry {oa : Option Addr} {n oc : Nat} (h : Sm c w0 wr lv (.slice oa n oc) wo X P start p seen) {k : Nat} {e : Nat × Nat} (he : P[k]? = some e) : ∃ g, oa = some ⟨g, 0, none⟩ ∧ k < oc ∧ g < wr.heap.size ∧ wr.cell? ⟨g, k * 2, none⟩ = some (.int .i64 (e.1 : Int)) ∧ wr.cell? ⟨g, k * 2 + 1, none⟩ = some (.int .i64 (e.2 : Int)) := by
  have hk : k < P.length := (List.getElem?_eq_some_iff.mp he).1
  have hrow := h.past
  rcases h.past.2 with ⟨_, h2⟩ | ⟨g, cp, cur, hv, h3, h4, h5, _⟩
  · omega
  · simp only [Value.slice.injEq] at hv
    obtain ⟨rfl, rfl, rfl⟩ := hv
    have hl : g < wr.heap.size := (h.ge (.inr (.inl rfl))).2
    have hf := flatT_get P k e he
    refine ⟨g, rfl, by omega, hl, ?_, ?_⟩
    · rw [hrow.cellAt (k * 2) (by omega)]; exact hf.1
    · rw [hrow.cellAt (k * 2 + 1) (by omega)]; exact hf.2
end Go.Proofs.Ytmnghdccikoaoaa.Mt
