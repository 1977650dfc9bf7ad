/-
  Package match: search.
-/
import Derived.Test.YtmnghdccikoaoaaMuG
import Derived.Deep.CutRange
namespace Go.Proofs.Ytmnghdccikoaoaa.Mt
open Go.RowKit Go.Proofs.Ytmnghdccikoaoaa.Sh

def bytes (s : ByteArray) : List Nat := s.data.toList.map UInt8.toNat
theorem bytes_len (s : ByteArray) : (bytes s).length = s.size := by
  unfold bytes
  rw [List.length_map, Array.length_toList]
  rfl
theorem bytes_get (s : ByteArray) (i : Nat) (h : i < s.size) : (bytes s)[i]? = some (s[i]).toNat := by
  unfold bytes
  have h2 : i < s.data.size := h
  rw [List.getElem?_map, Array.getElem?_toList, Array.getElem?_eq_getElem h2]
  rfl
theorem eps_inner {sts : List St} {p len : Int} (h0 : p ≠ 0) (h1 : p ≠ len) {q q' : Nat} (h : eps1 sts p len q q') : eps1 sts 1 2 q q' := by
  obtain ⟨s, hs, hc⟩ := h
  refine ⟨s, hs, ?_⟩
  rcases hc with hc | ⟨⟨_, e⟩ | ⟨_, e⟩, _⟩
  · exact .inl hc
  · exact absurd e h0
  · exact absurd e h1
theorem reach_inner {sts : List St} {p len : Int} (h0 : p ≠ 0) (h1 : p ≠ len) {q q' : Nat} (h : Reach sts p len q q') : Reach sts 1 2 q q' := by
  induction h with
  | refl => exact .refl _
  | tail b c _ h2 ih => exact .tail _ _ _ ih (eps_inner h0 h1 h2)
theorem cov_in {a : Nat → Int} {s : St} (hc : ∀ k, k < 4 → CovAt a s k) {b : Nat} (hb : b < 256) (h : s.act = 0 ∨ inSet s.s0 s.s1 s.s2 s.s3 b = true) : inSet (a 0) (a 1) (a 2) (a 3) b = true := by
  have hk : b / 64 < 4 := by omega
  have h1 := hc (b / 64) hk (b % 64) (Nat.mod_lt _ (by decide))
  rw [inSet_eq _ _ _ _ b _ rfl hk] at h ⊢
  have e : (a (b / 64)) = (if b / 64 = 0 then a 0 else if b / 64 = 1 then a 1 else if b / 64 = 2 then a 2 else a 3) := by
    have : b / 64 = 0 ∨ b / 64 = 1 ∨ b / 64 = 2 ∨ b / 64 = 3 := by omega
    rcases this with e | e | e | e <;> rw [e] <;> rfl
  rw [← e]
  exact h1 h
theorem Made.dead {w : World} {mb gs cap : Nat} {r : Re} {a : Nat → Int} (h : Made w mb gs cap r a) (s : ByteArray) (i : Nat) (hm : mayB (a 0) (a 1) (a 2) (a 3) s i = false) (hi : i ≤ s.size) : Dead (stsOf r) (bytes s) (firstOf r).toNat i := by
  intro q hq
  unfold mayB at hm
  simp only [Bool.or_eq_false_iff, decide_eq_false_iff_not] at hm
  obtain ⟨⟨h0, h1⟩, h2⟩ := hm
  have hlt : i < s.size := by omega
  rw [dif_pos hlt] at h2
  have hr := reach_inner (by omega) (by rw [bytes_len]; omega) hq.same
  refine ⟨?_, fun x hx ha => ?_⟩
  · rintro ⟨x, c, hx, ha, hc, hin⟩
    rw [bytes_get s i hlt] at hc
    cases hc
    have := cov_in (h.cov q x hr hx (.inl ha)) (s[i]).toNat_lt (.inr hin)
    rw [h2] at this
    cases this
  · have := cov_in (h.cov q x hr hx (.inr ha)) (s[i]).toNat_lt (.inl ha)
    rw [h2] at this
    cases this

/- While the first place is looked for. -/
structure Look (w : World) (ch : Nat) (wr : World) (j : Nat) : Prop where
  but : But ch w wr
  at_ : wr.cell? ⟨ch, 0, none⟩ = some (.int .i64 (j : Int))
  fz : wr.frozen? ⟨ch, 0, none⟩ = false
/- The first boxes of a search. -/
def W5 (w : World) (mb from_ : Nat) : World := ((((w.alloc (.cells #[.pointer (some ⟨mb, 0, none⟩)] 24)).alloc (.cells #[.int .i64 0] 3)).alloc (.cells #[.int .i64 0] 3)).alloc (.cells #[.bool false] 4)).alloc (.cells #[.int .i64 (from_ : Int)] 3)
theorem W5_size (w : World) (mb from_ : Nat) : (W5 w mb from_).heap.size = w.heap.size + 5 := by
  unfold W5
  rw [alloc_size, alloc_size, alloc_size, alloc_size, alloc_size]
theorem W5_below (w : World) (mb from_ : Nat) : Below w.heap.size w (W5 w mb from_) := by
  unfold W5
  refine ((((((Below.refl _ _).alloc (Nat.le_refl _) _).alloc ?_ _).alloc ?_ _).alloc ?_ _).alloc ?_ _) <;> simp only [alloc_size] <;> omega
theorem heap_alloc_lt (w : World) (o : Obj) (k : Nat) (hk : k < w.heap.size) : (w.alloc o).heap[k]? = w.heap[k]? := ((Below.refl w.heap.size w).alloc (Nat.le_refl _) o).block k hk
theorem W5_at (w : World) (mb from_ : Nat) : (W5 w mb from_).heap[w.heap.size]? = some (.cells #[.pointer (some ⟨mb, 0, none⟩)] 24) ∧ (W5 w mb from_).heap[w.heap.size + 1]? = some (.cells #[.int .i64 0] 3) ∧ (W5 w mb from_).heap[w.heap.size + 2]? = some (.cells #[.int .i64 0] 3) ∧
    (W5 w mb from_).heap[w.heap.size + 3]? = some (.cells #[.bool false] 4) ∧ (W5 w mb from_).heap[w.heap.size + 4]? = some (.cells #[.int .i64 (from_ : Int)] 3) := by
  have hn : ∀ (u : World) (o : Obj) (k : Nat), k = u.heap.size → (u.alloc o).heap[k]? = some o := fun u o k e => by rw [e]; exact heap_alloc_new u o
  unfold W5
  refine ⟨?_, ?_, ?_, ?_, ?_⟩
  · rw [heap_alloc_lt _ _ _ (by simp only [alloc_size]; omega), heap_alloc_lt _ _ _ (by simp only [alloc_size]; omega), heap_alloc_lt _ _ _ (by simp only [alloc_size]; omega), heap_alloc_lt _ _ _ (by simp only [alloc_size]; omega)]
    exact hn _ _ _ rfl
  · rw [heap_alloc_lt _ _ _ (by simp only [alloc_size]; omega), heap_alloc_lt _ _ _ (by simp only [alloc_size]; omega), heap_alloc_lt _ _ _ (by simp only [alloc_size]; omega)]
    exact hn _ _ _ (by simp only [alloc_size])
  · rw [heap_alloc_lt _ _ _ (by simp only [alloc_size]; omega), heap_alloc_lt _ _ _ (by simp only [alloc_size]; omega)]
    exact hn _ _ _ (by simp only [alloc_size])
  · rw [heap_alloc_lt _ _ _ (by simp only [alloc_size]; omega)]
    exact hn _ _ _ (by simp only [alloc_size])
  · exact hn _ _ _ (by simp only [alloc_size])
theorem cell_at {w : World} {k : Nat} {v : Value} {t : TypeId} {z : Nat × Nat} (h : w.heap[k]? = some (.cells #[v] t z)) : w.cell? ⟨k, 0, none⟩ = some v := (cell_of_row w k 0 _ t z h).trans rfl
theorem look_start (w : World) (mb from_ : Nat) : Look (W5 w mb from_) (w.heap.size + 1 + 1 + 1 + 1) (W5 w mb from_) from_ :=
  ⟨But.refl _ _, cell_at (W5_at w mb from_).2.2.2.2, frozen_of_row _ _ 0 _ _ (W5_at w mb from_).2.2.2.2⟩
theorem look_dead {a0 a1 a2 a3 : Int} {s : ByteArray} {from_ j : Nat} (h : ∀ i, from_ ≤ i → i < j → mayB a0 a1 a2 a3 s i = false) (hm : mayB a0 a1 a2 a3 s j = false) : ∀ i, from_ ≤ i → i < j + 1 → mayB a0 a1 a2 a3 s i = false := fun i h1 h2 => by
  rcases Nat.lt_or_ge i j with e | e
  · exact h i h1 e
  · have : i = j := by omega
    exact this ▸ hm
theorem Look.box {w wr : World} {mb from_ j : Nat} (h : Look (W5 w mb from_) (w.heap.size + 1 + 1 + 1 + 1) wr j) : wr.cell? ⟨w.heap.size, 0, none⟩ = some (.pointer (some ⟨mb, 0, none⟩)) :=
  (World.cell?_of_block (a := ⟨w.heap.size, 0, none⟩) (h.but.block w.heap.size (by rw [W5_size]; omega) (by omega))).trans (cell_at (W5_at w mb from_).1)
theorem Look.old {w wr : World} {mb from_ j : Nat} (h : Look (W5 w mb from_) (w.heap.size + 1 + 1 + 1 + 1) wr j) : Below w.heap.size w wr :=
  (W5_below w mb from_).trans ⟨h.but.os, h.but.tape, h.but.output, h.but.size, fun k hk => h.but.block k (by rw [W5_size]; omega) (by omega)⟩
theorem Look.next {w0 wr : World} {ch j : Nat} (h : Look w0 ch wr j) (n : Nat) : Look w0 ch ((wr.drewN n).setCell ⟨ch, 0, none⟩ (.int .i64 ((j : Int) + 1))) (j + 1) := by
  have e : ((wr.drewN n).setCell ⟨ch, 0, none⟩ (.int .i64 ((j : Int) + 1))).heap.size = wr.heap.size := size_setCell _ _ _
  refine ⟨⟨h.but.os, h.but.tape, h.but.output, by rw [e]; exact h.but.size, fun k hk hne => (heap_setCell_other (wr.drewN n) ⟨ch, 0, none⟩ k _ hne).trans (h.but.block k hk hne)⟩, ?_, (World.frozen?_setCell _ _ _ _).trans h.fz⟩
  have := World.cell?_setCell_same' (wr.drewN n) ⟨ch, 0, none⟩ (.int .i64 ((j : Int) + 1)) (by show (wr.cell? _).isSome = true; rw [h.at_]; rfl)
  rw [this]
  rfl
theorem Look.drawn {w0 wr w2 : World} {ch j n : Nat} (h : Look w0 ch wr j) (e : w2 = wr.drewN n) : Look w0 ch w2 j := by
  subst e
  exact ⟨⟨h.but.os, h.but.tape, h.but.output, h.but.size, h.but.block⟩, h.at_, h.fz⟩
theorem drawn_below (w : World) (n : Nat) : Below w.heap.size w (w.drewN n) := ⟨rfl, rfl, rfl, Nat.le_refl _, fun _ _ => rfl⟩
theorem srch_len {r : Re} {t : List Nat} {f lo p b : Nat} {seen : List Int} {X : LS} (h : Top (stsOf r) t f lo p b seen X) (hf : Fit r) : X.L.length ≤ 100000 := by
  obtain ⟨cur, _, hn⟩ := h.now
  have h1 := hn.len
  have h2 := hf.sts.2.2
  omega
theorem OkS.one {sts : List St} (h : OkS sts) : One sts := fun q s hs ha => (h q s hs).2.2.2 ha
theorem Fit.first_lt2 {r : Re} (h : Fit r) : (firstOf r).toNat < (stsOf r).length := h.first_lt
theorem srch_begun {r : Re} {s : ByteArray} {lo p : Nat} {seen : List Int} {X : LS} {cF : Cfg} (hf : Fit r) (h : Top (stsOf r) (bytes s) (firstOf r).toNat lo p p seen X) (hfd : X.found = false) {fN : Nat} (hfN : (firstOf r).toNat = fN) (hE : Ended (stsOf r) (p : Int) (s.size : Int) { i := fN, op := [], seen := seen, ps := [] } cF) (hlo : lo ≤ p) :
    Top (stsOf r) (bytes s) (firstOf r).toNat lo p (p + 1) cF.seen (cF.ps.foldl (put1s (stsOf r) p p) X) := by
  obtain ⟨cur, hc, hn⟩ := h.now
  rw [← bytes_len, ← hfN] at hE
  exact h.begun hfd (hn.walked hf.sts.1.one .start hlo hc (fun e => by rw [hfd] at e; cases e) hE)
theorem slice_form {w : World} {B size n : Nat} {e : TypeId} {v : Value} {xs : List Value} (h : w.ownsRow B e size v n xs) : ∃ oa oc, v = .slice oa n oc := by
  rcases h.2 with ⟨h1, h2⟩ | ⟨g, c, cur, h1, _⟩
  · exact ⟨none, 0, by rw [h1, h2]⟩
  · exact ⟨_, _, h1⟩
theorem srch_far {c : Cx} {w0 wr : World} {lv pv wo : Value} {X : LS} {P : List (Nat × Nat)} {start p : Nat} {seen : List Int} {k1 k2 k3 : Nat} {u1 u2 u3 : Value} (h : Sm c w0 wr lv pv wo X P start p seen) (e1 : c.n0 ≤ k1) (e2 : c.n0 ≤ k2) (e3 : c.n0 ≤ k3) :
    Below c.n0 w0 (((wr.setCell ⟨k1, 0, none⟩ u1).setCell ⟨k2, 0, none⟩ u2).setCell ⟨k3, 0, none⟩ u3).drew := by
  have hs : (((wr.setCell ⟨k1, 0, none⟩ u1).setCell ⟨k2, 0, none⟩ u2).setCell ⟨k3, 0, none⟩ u3).drew.heap.size = wr.heap.size := by
    show (((wr.setCell _ _).setCell _ _).setCell _ _).heap.size = _
    rw [size_setCell, size_setCell, size_setCell]
  refine h.far.trans ⟨rfl, rfl, rfl, by rw [hs]; exact Nat.le_refl _, fun k hk => ?_⟩
  exact (heap_setCell_other _ ⟨k3, 0, none⟩ k _ (show k ≠ k3 by omega)).trans ((heap_setCell_other _ ⟨k2, 0, none⟩ k _ (show k ≠ k2 by omega)).trans (heap_setCell_other _ ⟨k1, 0, none⟩ k _ (show k ≠ k1 by omega)))
theorem slice_form2 {w : World} {B size n : Nat} {e : TypeId} {v : Value} {xs : List Value} (h : w.ownsRow B e size v n xs) : ∃ oa oc, v = .slice oa n oc ∧ (oa = none ∨ ∃ g, oa = some ⟨g, 0, none⟩) := by
  rcases h.2 with ⟨h1, h2⟩ | ⟨g, c, cur, h1, _⟩
  · exact ⟨none, 0, by rw [h1, h2], .inl rfl⟩
  · exact ⟨_, _, h1, .inr ⟨g, rfl⟩⟩
set_option maxRecDepth 100000 in
theorem slice_none (ob : Option Addr) (od n : Nat) (w : World) (hob : ob = none ∨ ∃ g, ob = some ⟨g, 0, none⟩) : (Instr.sliceAt 101 (.slice ob n od) none (some (.int .i64 0)) none).run Try.prog w = .ok (.slice ob 0 od) w := by
  obtain ⟨i, z, hi, _, hs, _⟩ := thread_info
  have h1 : Try.prog.underlying 101 = some (.slice 103) := Try.underlying101
  simp [Instr.sliceAt, Sem.run_bind, run_underlying h1, Instr.slice, Instr.sliceBounds, Instr.sliceBound, asIntOf, run_sizeOf w hi]
  rcases hob with rfl | ⟨g, rfl⟩
  · simp
  · simp [Addr.add]
/- The search's own blocks. -/
def cxOf (w wr : World) (mb gs cap : Nat) (r : Re) (a : Nat → Int) : Cx :=
  { x := ⟨w.heap.size, wr.heap.size, wr.heap.size + 1, w.heap.size + 1 + 1 + 1 + 1, w.heap.size + 1, w.heap.size + 1 + 1, w.heap.size + 1 + 1 + 1⟩, mb := mb, gs := gs, gn := wr.heap.size + 1 + 1, wb := wr.heap.size + 1 + 1 + 1, cap := cap, B := wr.heap.size + 4, sts := stsOf r, size := sizeI r, first := firstOf r, a0 := a 0, a1 := a 1, a2 := a 2, a3 := a 3, n0 := w.heap.size }
theorem cx_ok {w wr : World} {mb gs cap : Nat} {r : Re} {a : Nat → Int} (hf : Fit r) (hl : w.heap.size + 5 ≤ wr.heap.size) (hm : mb < w.heap.size) (hg : gs < w.heap.size) : CxOk (cxOf w wr mb gs cap r a) where
  nx := fun k hk => by simp only [cxOf] at hk ⊢; omega
  n0 := by simp only [cxOf]; omega
  closed := hf.sts.1.closed
  len := by have := hf.sts.2.2; simp only [cxOf]; omega
theorem srch_start {w wr w2 : World} {mb gs cap from_ j : Nat} {r : Re} {a : Nat → Int} (h : Look (W5 w mb from_) (w.heap.size + 1 + 1 + 1 + 1) wr j) (hM : Made w mb gs cap r a)
    (hw2 : w2 = (((wr.alloc (.cells #[.slice none 0 0] 101)).alloc (.cells #[.int .i64 (j : Int)] 3)).alloc (.cells (madeCells #[.int .i64 0] (stsOf r).length) 3)).alloc (.cells #[.slice (some ⟨gs, 0, none⟩) (stsOf r).length cap, .slice (some ⟨((wr.alloc (.cells #[.slice none 0 0] 101)).alloc (.cells #[.int .i64 (j : Int)] 3)).heap.size, 0, none⟩) (stsOf r).length (stsOf r).length, .slice none 0 0, (cxOf w wr mb gs cap r a).pf] 119)) :
    Sm (cxOf w wr mb gs cap r a) w w2 (.slice none 0 0) (.slice none 0 0) (.slice none 0 0) ⟨[], 0, 0, false⟩ [] j j (List.replicate (stsOf r).length 0) := by
  have hl : w.heap.size + 5 ≤ wr.heap.size := by have := h.but.size; rw [W5_size] at this; exact this
  have hmlt := hM.lt
  rw [alloc_size, alloc_size] at hw2
  obtain ⟨w1, hw1⟩ : ∃ w1, w1 = (wr.alloc (.cells #[.slice none 0 0] 101)).alloc (.cells #[.int .i64 (j : Int)] 3) := ⟨_, rfl⟩
  have hs1 : w1.heap.size = wr.heap.size + 2 := by rw [hw1, alloc_size, alloc_size]
  have hb1 : Below wr.heap.size wr w1 := by
    rw [hw1]
    exact ((Below.refl _ _).alloc (Nat.le_refl _) _).alloc (by rw [alloc_size]; exact Nat.le_succ _) _
  have hb2 : Below w1.heap.size w1 w2 := by
    rw [hw2, ← hw1]
    exact ((Below.refl _ _).alloc (Nat.le_refl _) _).alloc (by rw [alloc_size]; omega) _
  have hb12 : Below wr.heap.size wr w2 := hb1.trans (hb2.mono hb1.size)
  have hold := h.old
  have hMr := hM.below hold
  have hM1 := hMr.below hb1
  have hM2 := hMr.below hb12
  have hs2 : w2.heap.size = wr.heap.size + 4 := by rw [hw2, ← hw1, alloc_size, alloc_size, hs1]
  have e5 := W5_at w mb from_
  have bx : ∀ k, k ≠ w.heap.size + 1 + 1 + 1 + 1 → k < w.heap.size + 5 → w2.heap[k]? = (W5 w mb from_).heap[k]? := fun k hk hk2 => (hb12.block k (by omega)).trans (h.but.block k (by rw [W5_size]; omega) hk)
  have c0 := (bx w.heap.size (by omega) (by omega)).trans e5.1
  have c1 := (bx (w.heap.size + 1) (by omega) (by omega)).trans e5.2.1
  have c2 := (bx (w.heap.size + 1 + 1) (by omega) (by omega)).trans e5.2.2.1
  have c3 := (bx (w.heap.size + 1 + 1 + 1) (by omega) (by omega)).trans e5.2.2.2.1
  have cl : w2.heap[wr.heap.size]? = some (.cells #[.slice none 0 0] 101) := by
    rw [hb2.block _ (by omega), hw1, heap_alloc_lt _ _ _ (by rw [alloc_size]; exact Nat.lt_succ_self _)]
    exact heap_alloc_new wr _
  have cs : w2.heap[wr.heap.size + 1]? = some (.cells #[.int .i64 (j : Int)] 3) := by
    rw [hb2.block _ (by omega), hw1]
    have e : wr.heap.size + 1 = (wr.alloc (.cells #[.slice none 0 0] 101)).heap.size := (alloc_size _ _).symm
    rw [e]
    exact heap_alloc_new _ _
  have ch := hb12.block (w.heap.size + 1 + 1 + 1 + 1) (by omega)
  have hwk := new_wk (w := w1) (gs := gs) (cap := cap) (pf := 57) (caps := args1 (cxOf w wr mb gs cap r a).x) (sts := stsOf r) (by omega) hM1.mat.st
  rw [hs1, hw1] at hwk
  refine ⟨?_, ⟨cell_at c0, hM2.mat, cell_at cl, cell_at cs, (World.cell?_of_block (a := ⟨_, 0, none⟩) ch).trans h.at_, cell_at c1, cell_at c2, cell_at c3,
    ⟨frozen_of_row _ _ 0 _ _ cl, frozen_of_row _ _ 0 _ _ cs, (World.frozen?_of_block (a := ⟨_, 0, none⟩) ch).trans h.fz, frozen_of_row _ _ 0 _ _ c1, frozen_of_row _ _ 0 _ _ c2, frozen_of_row _ _ 0 _ _ c3⟩, World.ownsRow_nil _ _ _ _, ?_, by simp only [cxOf]; omega⟩, World.ownsRow_nil _ _ _ _, fun k hk => by simp [Value.ownBlock] at hk, fun k hk => by simp [Value.ownBlock] at hk, fun k hk => by simp [Value.ownBlock] at hk, hold.trans (hb12.mono hold.size)⟩
  · rw [hw2]
    exact hwk
  · constructor <;> (simp only [cxOf]; omega)
theorem srch_walk2 {w w2 w6 : World} {mb gs cap : Nat} {r : Re} {a : Nat → Int} {lv pv wo : Value} {X : LS} {P : List (Nat × Nat)} {start p i : Nat} {seen : List Int} (hc : CxOk (cxOf w w2 mb gs cap r a)) (h : Sm (cxOf w w2 mb gs cap r a) w w6 lv pv wo X P start p seen) (hi : i < (stsOf r).length) (hL : X.L.length ≤ 100000) (hst : start ≤ p) (hp : p ≤ 1000000000000) (len : Int) :
    Calls Try.prog 55 #[.pointer (some ⟨w2.heap.size + 1 + 1 + 1, 0, none⟩), .int .i64 (i : Int), .int .i64 (p : Int), .int .i64 len] w6
      fun e w' => e = .returned (.tuple #[]) ∧ ∃ cF lv' wo', Ended (stsOf r) (p : Int) len { i := i, op := [], seen := seen, ps := [] } cF ∧ Sm (cxOf w w2 mb gs cap r a) w w' lv' pv wo' (cF.ps.foldl (put1s (stsOf r) start p) X) P start p cF.seen :=
  srch_walk (c := cxOf w w2 mb gs cap r a) hc h hi hL hst hp len
theorem srch_far2 {w w2 wr : World} {mb gs cap : Nat} {r : Re} {a : Nat → Int} {lv pv wo : Value} {X : LS} {P : List (Nat × Nat)} {start p : Nat} {seen : List Int} {u1 u2 u3 : Value} (h : Sm (cxOf w w2 mb gs cap r a) w wr lv pv wo X P start p seen) :
    Below w.heap.size w (((wr.setCell ⟨w.heap.size + 1, 0, none⟩ u1).setCell ⟨w.heap.size + 1 + 1, 0, none⟩ u2).setCell ⟨w.heap.size + 1 + 1 + 1, 0, none⟩ u3).drew :=
  srch_far (c := cxOf w w2 mb gs cap r a) h (show w.heap.size ≤ _ by omega) (show w.heap.size ≤ _ by omega) (show w.heap.size ≤ _ by omega)
theorem srch_next {w w2 wc : World} {mb gs cap : Nat} {r : Re} {a : Nat → Int} {wo : Value} {oa ob : Option Addr} {oc od : Nat} {X : LS} {P : List (Nat × Nat)} {st p : Nat} {seen : List Int} (h : Sm (cxOf w w2 mb gs cap r a) w wc (.slice oa X.L.length oc) (.slice ob P.length od) wo X P st p seen) (hc : CxOk (cxOf w w2 mb gs cap r a)) :
    Sm (cxOf w w2 mb gs cap r a) w ((wc.setCell ⟨w.heap.size + 1 + 1 + 1 + 1, 0, none⟩ (.int .i64 ((p : Int) + 1))).setCell ⟨w2.heap.size, 0, none⟩ (.slice ob 0 od)).drew (.slice ob 0 od) (.slice oa X.L.length oc) wo { X with L := [] } X.L st (p + 1) seen := by
  have h1 := h.setH hc (p + 1)
  have e : (((p + 1 : Nat) : Nat) : Int) = (p : Int) + 1 := by omega
  rw [e] at h1
  exact (h1.swap rfl hc).below hc (drawn_below _ 1)
theorem srch_entry {r : Re} {t : List Nat} {f lo p : Nat} {seen : List Int} {X : LS} {n e1 e2 : Nat} (h : Top (stsOf r) t f lo p (p + 1) seen X) (he : X.L[n]? = some (e1, e2)) : ∃ x, (stsOf r)[e1]? = some x ∧ x.act = 1 ∧ AtP (stsOf r) t f e2 p e1 ∧ lo ≤ e2 ∧ e2 ≤ p := by
  obtain ⟨cur, hc, hn⟩ := h.now
  obtain ⟨_, ⟨x, hx, ha⟩, q1, q2, q3⟩ := hn.li _ (List.mem_of_getElem? he)
  exact ⟨x, hx, ha, q1, q2, Nat.le_trans q3 hc⟩
theorem srch_dead {r : Re} {s : ByteArray} {p e1 e2 : Nat} {x : St} (hp : p < s.size) (hx : (stsOf r)[e1]? = some x) (hin : inSet x.s0 x.s1 x.s2 x.s3 (s[p]).toNat = false) : ∀ y c, (stsOf r)[(e1, e2).1]? = some y → (bytes s)[p]? = some c → inSet y.s0 y.s1 y.s2 y.s3 c = false := fun y c hy hc => by
  rw [hx] at hy
  cases hy
  rw [bytes_get s p hp] at hc
  cases hc
  exact hin
theorem thr_len {r : Re} {t : List Nat} {f lo p k : Nat} {seen : List Int} {X Y : LS} (h : Thr (stsOf r) t f lo p Y k seen X) (hf : Fit r) : X.L.length ≤ 100000 := by
  obtain ⟨cur, _, hn, _⟩ := h.now
  have h1 := hn.len
  have h2 := hf.sts.2.2
  omega
theorem srch_thread {r : Re} {s : ByteArray} {f lo p p1 n e1 e2 nx : Nat} {seen seen1 : List Int} {X X1 : LS} {x : St} {cF : Cfg} (hf : Fit r) (hT : Top (stsOf r) (bytes s) f lo p (p + 1) seen X) (h : Thr (stsOf r) (bytes s) f lo p X n seen1 X1) (he : X.L[n]? = some (e1, e2)) (hx : (stsOf r)[e1]? = some x) (ha : x.act = 1) (hp : p < s.size) (hp1 : p1 = p + 1) (hin : inSet x.s0 x.s1 x.s2 x.s3 (s[p]).toNat = true) (hnx : x.next = (nx : Int)) (hnb : X1.found = true → (e2 : Int) ≤ X1.at_)
    (hE : Ended (stsOf r) (p1 : Int) (s.size : Int) { i := nx, op := [], seen := seen1, ps := [] } cF) : Thr (stsOf r) (bytes s) f lo p X (n + 1) cF.seen (cF.ps.foldl (put1s (stsOf r) e2 p1) X1) := by
  subst hp1
  obtain ⟨y, hy, _, q1, q2, q3⟩ := srch_entry hT he
  obtain ⟨cur0, _, hn0⟩ := hT.now
  obtain ⟨cur, hc, hn, hcl⟩ := h.now
  have hcur : cur ≤ e2 := hcl (e1, e2) (by rw [drop_of_get he]; exact List.mem_cons_self)
  have hat := AtP.byte p e1 x _ q1 hx ha (bytes_get s p hp) hin
  have en : x.next.toNat = nx := by omega
  rw [← bytes_len] at hE
  rw [en] at hat
  refine h.goes hn0.so he q3 hx ?_
  rw [en]
  exact hn.walked hf.sts.1.one hat q2 hcur hnb hE
set_option maxHeartbeats 4000000 in
set_option maxRecDepth 100000 in
theorem search {r : Re} (hf : Fit r) {w : World} {mb gs cap : Nat} {a : Nat → Int} (h : Made w mb gs cap r a) (s : ByteArray) (from_ : Nat) (hfr : from_ ≤ s.size) (hsz : s.size ≤ 1000000000) :
    Calls Try.prog 39 #[.pointer (some ⟨mb, 0, none⟩), .string s, .int .i64 (from_ : Int)] w
      fun e w' => ∃ X, e = .returned (.tuple #[.int .i64 X.at_, .int .i64 X.n, .bool X.found]) ∧ Told (stsOf r) (bytes s) (firstOf r).toNat from_ X ∧ Below w.heap.size w w' := by
  obtain ⟨fN, hfN⟩ : ∃ fN : Nat, (firstOf r).toNat = fN := ⟨_, rfl⟩
  have hfI : firstOf r = (fN : Int) := by rw [← hfN]; exact hf.first
  have hfl : fN < (stsOf r).length := by rw [← hfN]; exact hf.first_lt
  have HFN := Lib.hid hfN
  have HF := Lib.hid hf
  have HM := Lib.hid h
  clear hf h hfN
  go_enter Try.func39, Try.ntmps39
  go_wp2_with fail
  go_loopg [] (s.size - from_) (fun k wr => ∃ j : Nat, s.size - j = k ∧ from_ ≤ j ∧ j ≤ s.size ∧ (∀ i, from_ ≤ i → i < j → mayB (a 0) (a 1) (a 2) (a 3) s i = false) ∧ Look (W5 w mb from_) (w.heap.size + 1 + 1 + 1 + 1) wr j)
  case atStart => exact ⟨from_, rfl, Nat.le_refl _, hfr, fun i h1 h2 => by omega, look_start _ _ _⟩
  case round =>
    obtain ⟨j, hk, hj1, hj2, hdead, hlook⟩ := hrel
    have m0 := hlook.box
    have m4 := hlook.at_
    have m5 := hlook.fz
    have hmd := HM.out.below hlook.old
    have HL := Lib.hid hlook
    have HD := Lib.hid hdead
    have HMR := Lib.hid hmd
    clear hlook hdead hmd
    cases hm : mayB (a 0) (a 1) (a 2) (a 3) s j with
    | false =>
      have hlt : j < s.size := by
        rcases Nat.lt_or_ge j s.size with e | e
        · exact e
        · have : j = s.size := by omega
          simp [mayB, this] at hm
      go_wp2_with (go_at_call 56; refine (mayStart HMR.out.mat s j hj2).mono ?_; rintro e w2 ⟨rfl, nq, rfl⟩; rw [hm])
      go_roundg (s.size - (j + 1))
      case measure => omega
      case rel => exact ⟨j + 1, rfl, by omega, by omega, look_dead HD.out hm, HL.out.next nq⟩
    | true =>
      have hlen : (stsOf r).length ≤ 100000 := by have := HF.out.sts.2.2; omega
      clear m0 m4 m5
      have m0 := HL.out.box
      have m4 := HL.out.at_
      go_wp2_with (first
        | (go_at_call 56; refine (mayStart HMR.out.mat s j hj2).mono ?_; rintro e w2 ⟨rfl, nq, hq⟩; rw [hm]; have hl2 := HL.out.drawn hq; have n0 := hl2.box; have n4 := hl2.at_; have hm2 := HM.out.below hl2.old; have n2 := hm2.mat.c2; have hsz5 : w.heap.size + 5 ≤ w2.heap.size := (by have := hl2.but.size; rw [W5_size] at this; exact this); have z0 : w.heap.size < w2.heap.size := (by omega); have z4 : w.heap.size + 1 + 1 + 1 + 1 < w2.heap.size := (by omega); have z5 : mb < w2.heap.size := hm2.lt.1; have HL2 := Lib.hid hl2; clear hl2 hm2 hq m0 m4)
        | (go_at_call 53; go_loud (refine (newWalker _ _ _ _ _ _ hlen).mono ?_; rintro e w3 ⟨rfl, hw3⟩; have hsm := srch_start HL2.out HM.out hw3; have HS0 := Lib.hid hsm; clear hsm hw3)))
      have hcx : CxOk (cxOf w w2 mb gs cap r a) := cx_ok HF.out hsz5 HM.out.lt.1 HM.out.lt.2.1
      have htop0 : Top (stsOf r) (bytes s) (firstOf r).toNat from_ j j (List.replicate (stsOf r).length 0) ⟨[], 0, 0, false⟩ := top_first fun i h1 h2 => HM.out.dead s i (HD.out i h1 h2) (by omega)
      have HC := Lib.hid hcx
      have HT0 := Lib.hid htop0
      clear hcx htop0 n0 n2 n4
      go_loopg [11] (s.size - j) (fun k pv wr => ∃ (p : Nat) (lv wo : Value) (X : LS) (P : List (Nat × Nat)) (st : Nat) (seen : List Int), s.size - p = k ∧ j ≤ p ∧ p ≤ s.size ∧ Sm (cxOf w w2 mb gs cap r a) w wr lv pv wo X P st p seen ∧ Top (stsOf r) (bytes s) (firstOf r).toNat from_ p p seen X)
      case atStart => exact ⟨j, _, _, _, _, _, _, rfl, Nat.le_refl _, hj2, HS0.out, HT0.out⟩
      case round =>
        obtain ⟨p, lv, wo, X, P, st, seen, hkp, hp1, hp2, hsm, htop⟩ := hrel
        have km : wr.cell? ⟨w.heap.size, 0, none⟩ = some (.pointer (some ⟨mb, 0, none⟩)) := hsm.mem.m
        have kf : wr.cell? ⟨w.heap.size + 1 + 1 + 1, 0, none⟩ = some (.bool X.found) := hsm.mem.f
        have kh : wr.cell? ⟨w.heap.size + 1 + 1 + 1 + 1, 0, none⟩ = some (.int .i64 (p : Int)) := hsm.mem.h
        have HS := Lib.hid hsm
        have HT := Lib.hid htop
        clear hsm htop
        go_step
        go_step
        go_cut [11] from 33 to 110 (fun s11 wx => s11 = u11 ∧ ∃ lv5 wo5 X5 st5 seen5, Sm (cxOf w w2 mb gs cap r a) w wx lv5 u11 wo5 X5 P st5 p seen5 ∧ Top (stsOf r) (bytes s) (firstOf r).toNat from_ p (p + 1) seen5 X5)
        case first =>
          cases hfd : X.found with
          | true =>
            rw [hfd] at kf
            go_wp2_with fail
            go_meet
            case rel => exact ⟨rfl, lv, wo, X, st, seen, HS.out, HT.out.passed (.inl hfd)⟩
          | false =>
            rw [hfd] at kf
            have hmat : Mat wr mb gs cap (stsOf r) (sizeI r) (firstOf r) (a 0) (a 1) (a 2) (a 3) := HS.out.mem.mat
            cases hm2 : mayB (a 0) (a 1) (a 2) (a 3) s p with
            | false =>
              go_wp2_with (go_at_call 56; refine (mayStart hmat s p hp2).mono ?_; rintro e w5 ⟨rfl, nq, hq⟩; rw [hm2])
              go_meet
              case rel => exact ⟨rfl, lv, wo, X, st, seen, HS.out.below HC.out (drawn_below _ _), HT.out.passed (.inr (HM.out.dead s p hm2 hp2))⟩
            | true =>
              go_wp2_with (go_at_call 56; refine (mayStart hmat s p hp2).mono ?_; rintro e w5 ⟨rfl, nq, hq⟩; rw [hm2]; have hs5 := HS.out.below HC.out (w' := w5) (by rw [hq]; exact drawn_below _ _); have kh5 : w5.cell? ⟨w.heap.size + 1 + 1 + 1 + 1, 0, none⟩ = some (.int .i64 (p : Int)) := hs5.mem.h; have ks5 : w5.cell? ⟨w2.heap.size + 1, 0, none⟩ = some (.int .i64 (st : Int)) := hs5.mem.s; have fs5 : w5.frozen? ⟨w2.heap.size + 1, 0, none⟩ = false := hs5.mem.fz.2.1; have HS5 := Lib.hid hs5; clear hs5 hq)
              refine wp_region_tail 8 (by kernel_rfl) (by kernel_rfl) ?_
              intro w6 hw6 hc6
              clear hc6
              have hs6 := (HS5.out.setS HC.out p).below HC.out hw6
              have km6 : w6.cell? ⟨w.heap.size, 0, none⟩ = some (.pointer (some ⟨mb, 0, none⟩)) := hs6.mem.m
              have kh6 : w6.cell? ⟨w.heap.size + 1 + 1 + 1 + 1, 0, none⟩ = some (.int .i64 (p : Int)) := hs6.mem.h
              have k36 : w6.cell? ⟨mb, 3, none⟩ = some (.int .i64 (firstOf r)) := hs6.mem.mat.c3
              rw [hfI] at k36
              have HS6 := Lib.hid hs6
              clear hs6 hw6
              simp only [List.take_succ_cons, List.take_zero, List.drop_succ_cons, List.drop_zero]
              repeat still_step
              refine wpStill_nil ?_
              go_wp2_with (go_at_call 55; go_loud (refine (srch_walk2 HC.out HS6.out hfl (srch_len HT.out HF.out) (Nat.le_refl p) (by omega) (s.size : Int)).mono ?_; rintro e w7 ⟨rfl, cF, lv7, wo7, hE, hs7⟩; have HE7 := Lib.hid (⟨hE, hs7⟩ : _ ∧ _); clear hE hs7))
              go_meet
              case rel => exact ⟨rfl, lv7, wo7, _, p, cF.seen, HE7.out.2, srch_begun HF.out HT.out hfd HFN.out HE7.out.1 (by omega)⟩
        case rest =>
          clear HS HT km kf kh
          obtain ⟨rfl, lv, wo, X, st, seen, hsm, htop⟩ := hcut
          obtain ⟨oa, oc, hlv⟩ := slice_form hsm.mem.row
          obtain ⟨ob, od, hpv, hob⟩ := slice_form2 hsm.past
          have km : wc.cell? ⟨w.heap.size, 0, none⟩ = some (.pointer (some ⟨mb, 0, none⟩)) := hsm.mem.m
          have kf : wc.cell? ⟨w.heap.size + 1 + 1 + 1, 0, none⟩ = some (.bool X.found) := hsm.mem.f
          have kh : wc.cell? ⟨w.heap.size + 1 + 1 + 1 + 1, 0, none⟩ = some (.int .i64 (p : Int)) := hsm.mem.h
          have ka : wc.cell? ⟨w.heap.size + 1, 0, none⟩ = some (.int .i64 X.at_) := hsm.mem.a
          have kn : wc.cell? ⟨w.heap.size + 1 + 1, 0, none⟩ = some (.int .i64 X.n) := hsm.mem.n
          have kl : wc.cell? ⟨w2.heap.size, 0, none⟩ = some (.slice oa X.L.length oc) := by rw [← hlv]; exact hsm.mem.l
          have fa : wc.frozen? ⟨w.heap.size + 1, 0, none⟩ = false := hsm.mem.fz.2.2.2.1
          have fn : wc.frozen? ⟨w.heap.size + 1 + 1, 0, none⟩ = false := hsm.mem.fz.2.2.2.2.1
          have ff : wc.frozen? ⟨w.heap.size + 1 + 1 + 1, 0, none⟩ = false := hsm.mem.fz.2.2.2.2.2
          have fh : wc.frozen? ⟨w.heap.size + 1 + 1 + 1 + 1, 0, none⟩ = false := hsm.mem.fz.2.2.1
          have fl : wc.frozen? ⟨w2.heap.size, 0, none⟩ = false := hsm.mem.fz.1
          have ra : (wc.setCell ⟨w.heap.size + 1, 0, none⟩ (.int .i64 X.at_)).cell? ⟨w.heap.size + 1, 0, none⟩ = some (.int .i64 X.at_) := World.cell?_setCell_same' wc _ _ (by rw [ka]; rfl)
          have rn : ((wc.setCell ⟨w.heap.size + 1, 0, none⟩ (.int .i64 X.at_)).setCell ⟨w.heap.size + 1 + 1, 0, none⟩ (.int .i64 X.n)).cell? ⟨w.heap.size + 1 + 1, 0, none⟩ = some (.int .i64 X.n) := World.cell?_setCell_same' _ _ _ (by rw [World.cell?_of_block (a := ⟨w.heap.size + 1 + 1, 0, none⟩) (heap_setCell_other wc ⟨w.heap.size + 1, 0, none⟩ (w.heap.size + 1 + 1) _ (show w.heap.size + 1 + 1 ≠ w.heap.size + 1 by omega)), kn]; rfl)
          have rf2 : ((((wc.setCell ⟨w.heap.size + 1, 0, none⟩ (.int .i64 X.at_)).setCell ⟨w.heap.size + 1 + 1, 0, none⟩ (.int .i64 X.n)).setCell ⟨w.heap.size + 1 + 1 + 1, 0, none⟩ (.bool X.found))).cell? ⟨w.heap.size + 1 + 1 + 1, 0, none⟩ = some (.bool X.found) := World.cell?_setCell_same' _ _ _ (by rw [World.cell?_of_block (a := ⟨w.heap.size + 1 + 1 + 1, 0, none⟩) (heap_setCell_other _ ⟨w.heap.size + 1 + 1, 0, none⟩ (w.heap.size + 1 + 1 + 1) _ (show w.heap.size + 1 + 1 + 1 ≠ w.heap.size + 1 + 1 by omega)), World.cell?_of_block (a := ⟨w.heap.size + 1 + 1 + 1, 0, none⟩) (heap_setCell_other wc ⟨w.heap.size + 1, 0, none⟩ (w.heap.size + 1 + 1 + 1) _ (show w.heap.size + 1 + 1 + 1 ≠ w.heap.size + 1 by omega)), kf]; rfl)
          have HS := Lib.hid hsm
          have HT := Lib.hid htop
          have HLV := Lib.hid hlv
          clear hsm htop hlv
          go_step
          go_step
          go_cut [11] from 33 to 110 (fun s11 wx => s11 = u11 ∧ wx = wc ∧ p < s.size ∧ ¬ (X.found = true ∧ X.L.length = 0))
          case first =>
            by_cases hpe : s.size = p
            · go_wp2_with fail
              go_region
              go_wp2_with fail
              refine bodyPost_ret (v := .tuple #[.int .i64 X.at_, .int .i64 X.n, .bool X.found]) (by simp [results, Try.results39, go_sem, ra, rn, rf2]) rfl ?_
              exact ⟨X, rfl, HT.out.told (by rw [bytes_len]; omega) (.inl (by rw [bytes_len]; omega)), srch_far2 HS.out⟩
            · have hpb : ((p : Int) == (s.size : Int)) = false := by simp; omega
              have hpl : p < s.size := by omega
              cases hfd : X.found with
              | false =>
                rw [hfd] at kf
                go_wp2_with fail
                go_meet
                case rel => exact ⟨rfl, rfl, hpl, fun h => by rw [hfd] at h; cases h.1⟩
              | true =>
                rw [hfd] at kf rf2
                by_cases hL0 : X.L.length = 0
                · have hL1 : ((X.L.length : Nat) : Int) = 0 := by omega
                  go_wp2_with fail
                  go_region
                  go_wp2_with fail
                  refine bodyPost_ret (v := .tuple #[.int .i64 X.at_, .int .i64 X.n, .bool true]) (by simp [results, Try.results39, go_sem, ra, rn, rf2]) rfl ?_
                  exact ⟨X, by rw [hfd], HT.out.told (by rw [bytes_len]; omega) (.inr ⟨hfd, List.eq_nil_of_length_eq_zero hL0⟩), srch_far2 HS.out⟩
                · have hL1 : ¬ ((X.L.length : Nat) : Int) = 0 := by omega
                  have hL2 : (((X.L.length : Nat) : Int) == 0) = false := by simpa using hL0
                  go_wp2_with fail
                  go_meet
                  case rel => exact ⟨rfl, rfl, hpl, fun h => hL0 h.2⟩
          case rest =>
            clear ra rn rf2
            obtain ⟨rfl, rfl, hpl, hgo⟩ := hcut
            obtain ⟨rfl, _⟩ : u11 = .slice ob P.length od ∧ True := ⟨hpv, trivial⟩
            have hpl' : (p : Int) < (s.size : Int) := by omega
            have hsl := fun w => slice_none ob od P.length w hob
            have HP := Lib.hid (⟨hpl, hgo⟩ : _ ∧ _)
            go_wp2_with fail
            go_region
            go_wp2_with fail
            obtain ⟨p1, hp1e⟩ : ∃ p1, p1 = p + 1 := ⟨_, rfl⟩
            have hb256 : (s[p]).toNat < 256 := (s[p]).toNat_lt
            have hs0 := HS.out
            rw [HLV.out] at hs0
            have hs1 := srch_next hs0 HC.out
            rw [← hp1e] at hs1
            have HS2 := Lib.hid hs1
            have HTH0 := Lib.hid (Thr.first HT.out)
            have HP1 := Lib.hid hp1e
            have hp1b : p1 ≤ 1000000001 := by omega
            have hp1s : p1 ≤ s.size := by omega
            have hp1j : j ≤ p1 := by omega
            clear hs0 hs1 km kf kh ka kn kl fa fn ff fh fl hsl hob hp1e
            go_loopg [76] (X.L.length) (fun k i wr => ∃ (n : Nat) (lv1 wo1 : Value) (X1 : LS) (st1 : Nat) (seen1 : List Int), X.L.length - n = k ∧ n ≤ X.L.length ∧ i = .int .i64 (n : Int) ∧ Sm (cxOf w w2 mb gs cap r a) w wr lv1 (.slice oa X.L.length oc) wo1 X1 X.L st1 p1 seen1 ∧ Thr (stsOf r) (bytes s) (firstOf r).toNat from_ p X n seen1 X1)
            case atStart => exact ⟨0, _, _, _, _, _, rfl, Nat.zero_le _, rfl, HS2.out, HTH0.out⟩
            case round =>
              obtain ⟨n, lv1, wo1, X1, st1, seen1, hkn, hn1, rfl, hsm, hth⟩ := hrel
              by_cases hlt : n < X.L.length
              · have hlt' : (n : Int) < ((X.L.length : Nat) : Int) := by omega
                obtain ⟨⟨e1, e2⟩, he⟩ : ∃ e, X.L[n]? = some e := ⟨_, List.getElem?_eq_getElem hlt⟩
                obtain ⟨g, rfl, hkoc, hgl, q1, q2⟩ := hsm.entry he
                obtain ⟨x, hx, hxa, hat, hlo2, he2⟩ := srch_entry HT.out he
                have hLb : X.L.length ≤ 100000 := srch_len HT.out HF.out
                have hmle : w2.heap.size + 4 ≤ wr.heap.size := hsm.mem.le
                have kf : wr.cell? ⟨w.heap.size + 1 + 1 + 1, 0, none⟩ = some (.bool X1.found) := hsm.mem.f
                have ka : wr.cell? ⟨w.heap.size + 1, 0, none⟩ = some (.int .i64 X1.at_) := hsm.mem.a
                have km : wr.cell? ⟨w.heap.size, 0, none⟩ = some (.pointer (some ⟨mb, 0, none⟩)) := hsm.mem.m
                have k2 : wr.cell? ⟨mb, 2, none⟩ = some (.slice (some ⟨gs, 0, none⟩) (stsOf r).length cap) := hsm.mem.mat.c2
                have ks : wr.cell? ⟨w2.heap.size + 1, 0, none⟩ = some (.int .i64 (st1 : Int)) := hsm.mem.s
                have fs : wr.frozen? ⟨w2.heap.size + 1, 0, none⟩ = false := hsm.mem.fz.2.1
                have z0 : w.heap.size < wr.heap.size := by omega
                have z1 : w.heap.size + 1 < wr.heap.size := by omega
                have z3 : w.heap.size + 1 + 1 + 1 < wr.heap.size := by omega
                have z5 : w2.heap.size + 1 < wr.heap.size := by omega
                have zm : mb < wr.heap.size := by have := HM.out.lt.1; omega
                have zg : gs < wr.heap.size := by have := HM.out.lt.2.1; omega
                have hx1 : e1 < (stsOf r).length := (List.getElem?_eq_some_iff.mp hx).1
                have hx1' : (e1 : Int) < (((stsOf r).length : Nat) : Int) := by omega
                have hb8 : Below wr.heap.size wr (wr.alloc (.cells #[.int .i64 (e1 : Int), .int .i64 (e2 : Int)] 103)).drew := ((Below.refl _ _).alloc (Nat.le_refl _) _).drew
                have c1 := (hb8.cell (p := ⟨gs, e1 * 7 + 1, none⟩) zg).trans (hsm.mem.mat.st e1 x hx 1 _ rfl)
                have c2 := (hb8.cell (p := ⟨gs, e1 * 7 + 1 + 1, none⟩) zg).trans (hsm.mem.mat.st e1 x hx 2 _ rfl)
                have c3 := (hb8.cell (p := ⟨gs, e1 * 7 + 1 + 2, none⟩) zg).trans (hsm.mem.mat.st e1 x hx 3 _ rfl)
                have c4 := (hb8.cell (p := ⟨gs, e1 * 7 + 1 + 3, none⟩) zg).trans (hsm.mem.mat.st e1 x hx 4 _ rfl)
                have r0 := (HF.out.sts.1 e1 x hx).2.2.1 0
                have r1 := (HF.out.sts.1 e1 x hx).2.2.1 1
                have r2 := (HF.out.sts.1 e1 x hx).2.2.1 2
                have r3 := (HF.out.sts.1 e1 x hx).2.2.1 3
                obtain ⟨nx, hnx⟩ : ∃ nx : Nat, x.next = nx := ⟨x.next.toNat, by have := (HF.out.sts.1 e1 x hx).1.1; omega⟩
                have hnl : nx < (stsOf r).length := by have := (HF.out.sts.1 e1 x hx).1.2; omega
                have he2p : e2 ≤ p1 := by have := HP1.out; omega
                have HS1 := Lib.hid hsm
                have HTH := Lib.hid hth
                have HE1 := Lib.hid he
                have HX := Lib.hid (⟨hx, hxa⟩ : _ ∧ _)
                clear hsm hth he hx hxa hat
                cases hfd : X1.found with
                | false =>
                  rw [hfd] at kf
                  have hnb : X1.found = true → (e2 : Int) ≤ X1.at_ := fun h => by rw [hfd] at h; cases h
                  go_wp2_with fail
                  go_region
                  cases hin : inSet x.s0 x.s1 x.s2 x.s3 (s[p]).toNat with
                  | false =>
                    go_wp2_with (go_at_call 58; refine (has (s[p]).toNat hb256 gs (e1 * 7 + 1) x.s0 x.s1 x.s2 x.s3 _ c1 c2 c3 c4 r0 r1 r2 r3).mono ?_; rintro e w8 ⟨rfl, rfl⟩; rw [hin])
                    go_roundg (X.L.length - (n + 1))
                    case measure => omega
                    case rel => exact ⟨n + 1, lv1, wo1, X1, st1, seen1, rfl, by omega, rfl, HS1.out.below HC.out hb8, HTH.out.skip HE1.out (srch_dead hpl HX.out.1 hin)⟩
                  | true =>
                    go_wp2_with (go_at_call 58; refine (has (s[p]).toNat hb256 gs (e1 * 7 + 1) x.s0 x.s1 x.s2 x.s3 _ c1 c2 c3 c4 r0 r1 r2 r3).mono ?_; rintro e w8 ⟨rfl, rfl⟩; rw [hin])
                    refine wp_region_tail 8 (by kernel_rfl) (by kernel_rfl) ?_
                    intro w9 hw9 hc9
                    clear hc9
                    have hs9 := ((HS1.out.setS HC.out e2).below HC.out (((Below.refl _ _).alloc (Nat.le_refl _) _).drew)).below HC.out hw9
                    have kh9 : w9.cell? ⟨w.heap.size + 1 + 1 + 1 + 1, 0, none⟩ = some (.int .i64 (p1 : Int)) := hs9.mem.h
                    have k59 : w9.cell? ⟨gs, e1 * 7 + 5, none⟩ = some (.int .i64 x.next) := hs9.mem.mat.st e1 x HX.out.1 5 _ rfl
                    rw [hnx] at k59
                    have HS9 := Lib.hid hs9
                    clear hs9 hw9
                    simp only [List.take_succ_cons, List.take_zero, List.drop_succ_cons, List.drop_zero]
                    repeat still_step
                    refine wpStill_nil ?_
                    go_wp2_with (go_at_call 55; go_loud (refine (srch_walk2 HC.out HS9.out hnl (thr_len HTH.out HF.out) he2p (by omega) (s.size : Int)).mono ?_; rintro e w10 ⟨rfl, cF, lv2, wo2, hE, hs10⟩; have HE2 := Lib.hid (⟨hE, hs10⟩ : _ ∧ _); clear hE hs10))
                    go_roundg (X.L.length - (n + 1))
                    case measure => omega
                    case rel => exact ⟨n + 1, lv2, wo2, _, e2, cF.seen, rfl, by omega, rfl, HE2.out.2, srch_thread HF.out HT.out HTH.out HE1.out HX.out.1 HX.out.2 hpl HP1.out hin hnx hnb HE2.out.1⟩
                | true =>
                  rw [hfd] at kf
                  by_cases hbr : X1.at_ < (e2 : Int)
                  · go_wp2_with fail
                    go_roundg (s.size - (p + 1))
                    case measure => omega
                    case rel => exact ⟨p1, lv1, wo1, X1, X.L, st1, seen1, by have := HP1.out; omega, hp1j, hp1s, HS1.out.below HC.out (((Below.refl _ _).alloc (Nat.le_refl _) _)), by rw [HP1.out]; exact HTH.out.ended HT.out (.inr ⟨_, HE1.out, hfd, hbr⟩)⟩
                  · have hnb : X1.found = true → (e2 : Int) ≤ X1.at_ := fun _ => by omega
                    go_wp2_with fail
                    go_region
                    cases hin : inSet x.s0 x.s1 x.s2 x.s3 (s[p]).toNat with
                    | false =>
                      go_wp2_with (go_at_call 58; refine (has (s[p]).toNat hb256 gs (e1 * 7 + 1) x.s0 x.s1 x.s2 x.s3 _ c1 c2 c3 c4 r0 r1 r2 r3).mono ?_; rintro e w8 ⟨rfl, rfl⟩; rw [hin])
                      go_roundg (X.L.length - (n + 1))
                      case measure => omega
                      case rel => exact ⟨n + 1, lv1, wo1, X1, st1, seen1, rfl, by omega, rfl, HS1.out.below HC.out hb8, HTH.out.skip HE1.out (srch_dead hpl HX.out.1 hin)⟩
                    | true =>
                      go_wp2_with (go_at_call 58; refine (has (s[p]).toNat hb256 gs (e1 * 7 + 1) x.s0 x.s1 x.s2 x.s3 _ c1 c2 c3 c4 r0 r1 r2 r3).mono ?_; rintro e w8 ⟨rfl, rfl⟩; rw [hin])
                      refine wp_region_tail 8 (by kernel_rfl) (by kernel_rfl) ?_
                      intro w9 hw9 hc9
                      clear hc9
                      have hs9 := ((HS1.out.setS HC.out e2).below HC.out (((Below.refl _ _).alloc (Nat.le_refl _) _).drew)).below HC.out hw9
                      have kh9 : w9.cell? ⟨w.heap.size + 1 + 1 + 1 + 1, 0, none⟩ = some (.int .i64 (p1 : Int)) := hs9.mem.h
                      have k59 : w9.cell? ⟨gs, e1 * 7 + 5, none⟩ = some (.int .i64 x.next) := hs9.mem.mat.st e1 x HX.out.1 5 _ rfl
                      rw [hnx] at k59
                      have HS9 := Lib.hid hs9
                      clear hs9 hw9
                      simp only [List.take_succ_cons, List.take_zero, List.drop_succ_cons, List.drop_zero]
                      repeat still_step
                      refine wpStill_nil ?_
                      go_wp2_with (go_at_call 55; go_loud (refine (srch_walk2 HC.out HS9.out hnl (thr_len HTH.out HF.out) he2p (by omega) (s.size : Int)).mono ?_; rintro e w10 ⟨rfl, cF, lv2, wo2, hE, hs10⟩; have HE2 := Lib.hid (⟨hE, hs10⟩ : _ ∧ _); clear hE hs10))
                      go_roundg (X.L.length - (n + 1))
                      case measure => omega
                      case rel => exact ⟨n + 1, lv2, wo2, _, e2, cF.seen, rfl, by omega, rfl, HE2.out.2, srch_thread HF.out HT.out HTH.out HE1.out HX.out.1 HX.out.2 hpl HP1.out hin hnx hnb HE2.out.1⟩
              · have hge : ¬ (n : Int) < ((X.L.length : Nat) : Int) := by omega
                have HS1 := Lib.hid hsm
                have HTH := Lib.hid hth
                clear hsm hth
                go_wp2_with fail
                go_roundg (s.size - (p + 1))
                case measure => omega
                case rel => exact ⟨p1, lv1, wo1, X1, X.L, st1, seen1, by have := HP1.out; omega, hp1j, hp1s, HS1.out, by rw [HP1.out]; exact HTH.out.ended HT.out (.inl (by omega))⟩
end Go.Proofs.Ytmnghdccikoaoaa.Mt
