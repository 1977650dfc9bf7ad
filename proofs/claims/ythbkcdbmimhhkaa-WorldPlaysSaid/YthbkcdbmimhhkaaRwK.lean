/-
  The document's world: a command that is run (System); all is closed (CloseAll).
-/
import Derived.Test.YthbkcdbmimhhkaaRwJ
namespace Go.Proofs.Ythbkcdbmimhhkaa.Rw
open Go.RowKit Go.Maps Wo

def rSysE (S : Scpt) (n : ByteArray) : Int := if (lookX 4 n S.fails).isSome = true then 12 else 0
def rSysM (S : Scpt) (n : ByteArray) : Int := if (lookX 4 n S.fails).isSome = true then 0 else if (lookR n S.reps).isSome = true then rStat S n else 127
def rSysS (S : Scpt) (r : RSt) (n : ByteArray) : RSt := if (lookX 4 n S.fails).isSome = true then r else eventR r ⟨4, 0, n, noText, rSysM S n⟩
abbrev SysPost (w : World) (S : Scpt) (r : RSt) (s : Shp) (n : ByteArray) (x : Ending) (w' : World) : Prop := ∃ s', x = .returned (.tuple #[.agg (s'.cells S (rSysS S r n)), .int .i64 (rSysM S n), .int .i64 (rSysE S n)]) ∧ s'.scr = s.scr ∧ RefAt w' S (rSysS S r n) s' ∧ Below w.heap.size w w'
section
variable {w : World} {S : Scpt} {r : RSt} {s : Shp}
set_option maxHeartbeats 4000000 in
set_option maxRecDepth 100000 in
theorem systemA (h : RefAt w S r s) (n : ByteArray) (hf : Fewer S r) (hx1 : (lookX 4 n S.fails).isSome = true) :
    Calls Try.prog 35 #[.agg (s.cells S r), .string n] w (SysPost w S r s n) := by
  have he : rSysE S n = 12 := if_pos hx1
  have hm : rSysM S n = 0 := if_pos hx1
  have hx : rSysS S r n = r := if_pos hx1
  unfold SysPost
  rw [he, hm, hx]
  have hzx := hf.fails
  have hze := hf.events
  have hzr := hf.reps
  have HX := Lib.hid hx1
  clear hx1
  clear he hx hm
  have hR := Run.two h
  go_enter Try.func35, Try.ntmps35
  go_upto_region 1 with fail
  obtain ⟨wA, hA⟩ : ∃ wA, wA = (w.alloc (.cells (s.cells S r) 38)).alloc (.cells #[.slice none 0 0, .string ⟨#[]⟩, .slice none 0 0, .slice none 0 0, .int .i64 0, .int .i64 0, .int .u64 0, .slice none 0 0, .int .i64 0, .slice none 0 0, .int .u64 0, .slice none 0 0] 38) := ⟨_, rfl⟩
  rw [← hA] at hR ⊢
  clear hA
  generalize w.heap.size + 1 = b2 at *
  generalize w.heap.size = b0 at hR ⊢
  have HR := Lib.hid (⟨h, hR⟩ : _ ∧ _)
  clear h hR
  obtain ⟨y0, y1, y2, y3, y4, y5, y6, y7, y8, y9, y10, y11, _, _⟩ := (HR.out.2).rbox
  go_upto_region 2 with (go_at_call 49; refine (failsRef HR.out.2.ref 4 n hzx).mono ?_; rintro e w1 ⟨rfl, hbb⟩; rw [HX.out]; have hRR := (HR.out.2).later hbb; obtain ⟨y0, y1, y2, y3, y4, y5, y6, y7, y8, y9, y10, y11, _, _⟩ := hRR.rbox; have H1 := Lib.hid hRR; clear hRR hbb)
  obtain ⟨y0, y1, y2, y3, y4, y5, y6, y7, y8, y9, y10, y11, _, _⟩ := (H1.out).rbox
  obtain ⟨q0, q1, q2, q3, q4, q5, q6, q7, q8, q9, q10, q11, qz, _⟩ := (H1.out).rres
  have qz0 := qz 0
  have qz1 := qz 1
  have qz2 := qz 2
  have qz3 := qz 3
  have qz4 := qz 4
  have qz5 := qz 5
  have qz6 := qz 6
  have qz7 := qz 7
  have qz8 := qz 8
  have qz9 := qz 9
  have qz10 := qz 10
  have qz11 := qz 11
  clear qz
  go_wp2_with fail
  rw [put12_def]
  obtain ⟨d1, d2, d3⟩ := (H1.out).done
  obtain ⟨z0, z1, z2, z3, z4, z5, z6, z7, z8, z9, z10, z11, _, _⟩ := d3
  generalize put12 w1 b2 S r s = w9 at *
  refine bodyPost_ret (v := .tuple #[.agg (s.cells S r), .int .i64 0, .int .i64 12]) (by simp [results, Try.results35, go_sem, z0, z1, z2, z3, z4, z5, z6, z7, z8, z9, z10, z11]) rfl ?_
  exact ⟨s, rfl, rfl, d1, d2⟩
set_option maxHeartbeats 4000000 in
set_option maxRecDepth 100000 in
theorem systemB (h : RefAt w S r s) (n : ByteArray) (hf : Fewer S r) (hx1 : (lookX 4 n S.fails).isSome = false) (hl : (lookR n S.reps).isSome = true) :
    Calls Try.prog 35 #[.agg (s.cells S r), .string n] w (SysPost w S r s n) := by
  have he : rSysE S n = 0 := if_neg (by rw [hx1]; decide)
  have hm : rSysM S n = (rStat S n) := by unfold rSysM; rw [if_neg (by rw [hx1]; decide), if_pos hl]
  have hx : rSysS S r n = eventR r ⟨4, 0, n, noText, (rStat S n)⟩ := by unfold rSysS; rw [if_neg (by rw [hx1]; decide), hm]
  unfold SysPost
  rw [he, hm, hx]
  have hzx := hf.fails
  have hze := hf.events
  have hzr := hf.reps
  have HX := Lib.hid hx1
  have HSo := Lib.hid hl
  obtain ⟨c, hc⟩ := replyA_data S n
  have HC := Lib.hid hc
  clear hx1 hl hc
  clear he hx hm
  have hR := Run.two h
  go_enter Try.func35, Try.ntmps35
  go_upto_region 1 with fail
  obtain ⟨wA, hA⟩ : ∃ wA, wA = (w.alloc (.cells (s.cells S r) 38)).alloc (.cells #[.slice none 0 0, .string ⟨#[]⟩, .slice none 0 0, .slice none 0 0, .int .i64 0, .int .i64 0, .int .u64 0, .slice none 0 0, .int .i64 0, .slice none 0 0, .int .u64 0, .slice none 0 0] 38) := ⟨_, rfl⟩
  rw [← hA] at hR ⊢
  clear hA
  generalize w.heap.size + 1 = b2 at *
  generalize w.heap.size = b0 at hR ⊢
  have HR := Lib.hid (⟨h, hR⟩ : _ ∧ _)
  clear h hR
  obtain ⟨y0, y1, y2, y3, y4, y5, y6, y7, y8, y9, y10, y11, _, _⟩ := (HR.out.2).rbox
  go_upto_region 4 with (first
    | (go_at_call 50; refine (replyRef H1.out.ref n hzr).mono ?_; rintro e w2 ⟨rfl, hbb⟩; rw [HC.out, HSo.out]; have hRR := (H1.out).later hbb; obtain ⟨y0, y1, y2, y3, y4, y5, y6, y7, y8, y9, y10, y11, _, _⟩ := hRR.rbox; have H2 := Lib.hid hRR; clear hRR hbb)
    | (go_at_call 49; refine (failsRef HR.out.2.ref 4 n hzx).mono ?_; rintro e w1 ⟨rfl, hbb⟩; rw [HX.out]; have hRR := (HR.out.2).later hbb; obtain ⟨y0, y1, y2, y3, y4, y5, y6, y7, y8, y9, y10, y11, _, _⟩ := hRR.rbox; have H1 := Lib.hid hRR; clear hRR hbb))
  obtain ⟨wV, hV⟩ : ∃ wV, wV = w2.alloc (.cells #[.string c, .string (rOut S n), .int .i64 (rStat S n)] 74) := ⟨_, rfl⟩
  have hbV : Below w2.heap.size w2 wV := by rw [hV]; exact (Below.refl _ w2).alloc (Nat.le_refl _) _
  have hblv : wV.heap[w2.heap.size]? = some (.cells #[.string c, .string (rOut S n), .int .i64 (rStat S n)] 74) := by rw [hV]; exact alloc_new _ _
  have v2 : wV.cell? ⟨w2.heap.size, 2, none⟩ = some (.int .i64 (rStat S n)) := by simp [World.cell?, hblv]
  have v2z : wV.frozen? ⟨w2.heap.size, 2, none⟩ = false := by simp [World.frozen?, hblv]
  rw [← hV]
  clear hV
  go_upto_region 6 with fail
  obtain ⟨wU, hU⟩ : ∃ wU, wU = wV := ⟨_, rfl⟩
  have hbU : Below w2.heap.size w2 wU := by rw [hU]; exact hbV
  have u2 : wU.cell? ⟨w2.heap.size, 2, none⟩ = some (.int .i64 (rStat S n)) := by rw [hU]; exact v2
  rw [← hU]
  have hRU := H2.out.later hbU
  obtain ⟨y0, y1, y2, y3, y4, y5, y6, y7, y8, y9, y10, y11, _, _⟩ := hRU.rbox
  have hlv : w2.heap.size < wU.heap.size := cell_lt u2
  have hne1 : ¬ b2 = w2.heap.size := by have := (Array.getElem?_eq_some_iff.1 H2.out.res).1; omega
  have hne2 : ¬ w2.heap.size = b2 := fun e => hne1 e.symm
  have HU := Lib.hid hRU
  have HBv := Lib.hid hlv
  clear hRU hbU hU hbV hblv v2 v2z hlv
  generalize w2.heap.size = bv at *
  go_region_law (go_simp; go_at_call 52; refine (eventRef (HU.out.later (Below.refl _ _).drew).ref ⟨4, 0, n, noText, (rStat S n)⟩ hze).mono ?_; rintro e w6 ⟨s6, rfl, hs6, hr6, hb6⟩; have hRR := (HU.out.later (Below.refl _ _).drew).later hb6; have u26 := (hb6.cell (p := ⟨bv, 2, none⟩) HBv.out).trans u2; obtain ⟨q0, q1, q2, q3, q4, q5, q6, q7, q8, q9, q10, q11, qz, _⟩ := hRR.rres; have qz0 := qz 0; have qz1 := qz 1; have qz2 := qz 2; have qz3 := qz 3; have qz4 := qz 4; have qz5 := qz 5; have qz6 := qz 6; have qz7 := qz 7; have qz8 := qz 8; have qz9 := qz 9; have qz10 := qz 10; have qz11 := qz 11; have H6 := Lib.hid (⟨hRR, hr6, hs6⟩ : _ ∧ _ ∧ _); clear hRR hr6 hs6 hb6 qz)
  all_goals
    go_wp2_with fail
    rw [put12_def]
    obtain ⟨d1, d2, d3⟩ := (H6.out.1).hand H6.out.2.1 H6.out.2.2
    obtain ⟨z0, z1, z2, z3, z4, z5, z6, z7, z8, z9, z10, z11, _, _⟩ := d3
    generalize put12 w6 b2 S (eventR r ⟨4, 0, n, noText, (rStat S n)⟩) s6 = w9 at *
    refine bodyPost_ret (v := .tuple #[.agg (s6.cells S (eventR r ⟨4, 0, n, noText, (rStat S n)⟩)), .int .i64 (rStat S n), .int .i64 0]) (by simp [results, Try.results35, go_sem, z0, z1, z2, z3, z4, z5, z6, z7, z8, z9, z10, z11]) rfl ?_
    exact ⟨s6, rfl, H6.out.2.2, d1, d2⟩
set_option maxHeartbeats 4000000 in
set_option maxRecDepth 100000 in
theorem systemC (h : RefAt w S r s) (n : ByteArray) (hf : Fewer S r) (hx1 : (lookX 4 n S.fails).isSome = false) (hl : (lookR n S.reps).isSome = false) :
    Calls Try.prog 35 #[.agg (s.cells S r), .string n] w (SysPost w S r s n) := by
  have he : rSysE S n = 0 := if_neg (by rw [hx1]; decide)
  have hm : rSysM S n = 127 := by unfold rSysM; rw [if_neg (by rw [hx1]; decide), if_neg (by rw [hl]; decide)]
  have hx : rSysS S r n = eventR r ⟨4, 0, n, noText, 127⟩ := by unfold rSysS; rw [if_neg (by rw [hx1]; decide), hm]
  unfold SysPost
  rw [he, hm, hx]
  have hzx := hf.fails
  have hze := hf.events
  have hzr := hf.reps
  have HX := Lib.hid hx1
  have HSo := Lib.hid hl
  obtain ⟨c, hc⟩ := replyA_data S n
  have HC := Lib.hid hc
  clear hx1 hl hc
  clear he hx hm
  have hR := Run.two h
  go_enter Try.func35, Try.ntmps35
  go_upto_region 1 with fail
  obtain ⟨wA, hA⟩ : ∃ wA, wA = (w.alloc (.cells (s.cells S r) 38)).alloc (.cells #[.slice none 0 0, .string ⟨#[]⟩, .slice none 0 0, .slice none 0 0, .int .i64 0, .int .i64 0, .int .u64 0, .slice none 0 0, .int .i64 0, .slice none 0 0, .int .u64 0, .slice none 0 0] 38) := ⟨_, rfl⟩
  rw [← hA] at hR ⊢
  clear hA
  generalize w.heap.size + 1 = b2 at *
  generalize w.heap.size = b0 at hR ⊢
  have HR := Lib.hid (⟨h, hR⟩ : _ ∧ _)
  clear h hR
  obtain ⟨y0, y1, y2, y3, y4, y5, y6, y7, y8, y9, y10, y11, _, _⟩ := (HR.out.2).rbox
  go_upto_region 4 with (first
    | (go_at_call 50; refine (replyRef H1.out.ref n hzr).mono ?_; rintro e w2 ⟨rfl, hbb⟩; rw [HC.out, HSo.out]; have hRR := (H1.out).later hbb; obtain ⟨y0, y1, y2, y3, y4, y5, y6, y7, y8, y9, y10, y11, _, _⟩ := hRR.rbox; have H2 := Lib.hid hRR; clear hRR hbb)
    | (go_at_call 49; refine (failsRef HR.out.2.ref 4 n hzx).mono ?_; rintro e w1 ⟨rfl, hbb⟩; rw [HX.out]; have hRR := (HR.out.2).later hbb; obtain ⟨y0, y1, y2, y3, y4, y5, y6, y7, y8, y9, y10, y11, _, _⟩ := hRR.rbox; have H1 := Lib.hid hRR; clear hRR hbb))
  obtain ⟨wV, hV⟩ : ∃ wV, wV = w2.alloc (.cells #[.string c, .string (rOut S n), .int .i64 (rStat S n)] 74) := ⟨_, rfl⟩
  have hbV : Below w2.heap.size w2 wV := by rw [hV]; exact (Below.refl _ w2).alloc (Nat.le_refl _) _
  have hblv : wV.heap[w2.heap.size]? = some (.cells #[.string c, .string (rOut S n), .int .i64 (rStat S n)] 74) := by rw [hV]; exact alloc_new _ _
  have v2 : wV.cell? ⟨w2.heap.size, 2, none⟩ = some (.int .i64 (rStat S n)) := by simp [World.cell?, hblv]
  have v2z : wV.frozen? ⟨w2.heap.size, 2, none⟩ = false := by simp [World.frozen?, hblv]
  rw [← hV]
  clear hV
  go_upto_region 6 with fail
  obtain ⟨wU, hU⟩ : ∃ wU, wU = wV.setCell ⟨w2.heap.size, 2, none⟩ (.int .i64 127) := ⟨_, rfl⟩
  have hbU : Below w2.heap.size w2 wU := by rw [hU]; exact below_set (b := w2.heap.size) hbV (Nat.le_refl _) 2 _
  have u2 : wU.cell? ⟨w2.heap.size, 2, none⟩ = some (.int .i64 127) := by
    have q : wU.heap[w2.heap.size]? = some (.cells #[.string c, .string (rOut S n), .int .i64 127] 74) := by rw [hU, blk_set hblv]; rfl
    simp [World.cell?, q]
  rw [← hU]
  have hRU := H2.out.later hbU
  obtain ⟨y0, y1, y2, y3, y4, y5, y6, y7, y8, y9, y10, y11, _, _⟩ := hRU.rbox
  have hlv : w2.heap.size < wU.heap.size := cell_lt u2
  have hne1 : ¬ b2 = w2.heap.size := by have := (Array.getElem?_eq_some_iff.1 H2.out.res).1; omega
  have hne2 : ¬ w2.heap.size = b2 := fun e => hne1 e.symm
  have HU := Lib.hid hRU
  have HBv := Lib.hid hlv
  clear hRU hbU hU hbV hblv v2 v2z hlv
  generalize w2.heap.size = bv at *
  go_region_law (go_simp; go_at_call 52; refine (eventRef (HU.out.later (Below.refl _ _).drew).ref ⟨4, 0, n, noText, 127⟩ hze).mono ?_; rintro e w6 ⟨s6, rfl, hs6, hr6, hb6⟩; have hRR := (HU.out.later (Below.refl _ _).drew).later hb6; have u26 := (hb6.cell (p := ⟨bv, 2, none⟩) HBv.out).trans u2; obtain ⟨q0, q1, q2, q3, q4, q5, q6, q7, q8, q9, q10, q11, qz, _⟩ := hRR.rres; have qz0 := qz 0; have qz1 := qz 1; have qz2 := qz 2; have qz3 := qz 3; have qz4 := qz 4; have qz5 := qz 5; have qz6 := qz 6; have qz7 := qz 7; have qz8 := qz 8; have qz9 := qz 9; have qz10 := qz 10; have qz11 := qz 11; have H6 := Lib.hid (⟨hRR, hr6, hs6⟩ : _ ∧ _ ∧ _); clear hRR hr6 hs6 hb6 qz)
  all_goals
    go_wp2_with fail
    rw [put12_def]
    obtain ⟨d1, d2, d3⟩ := (H6.out.1).hand H6.out.2.1 H6.out.2.2
    obtain ⟨z0, z1, z2, z3, z4, z5, z6, z7, z8, z9, z10, z11, _, _⟩ := d3
    generalize put12 w6 b2 S (eventR r ⟨4, 0, n, noText, 127⟩) s6 = w9 at *
    refine bodyPost_ret (v := .tuple #[.agg (s6.cells S (eventR r ⟨4, 0, n, noText, 127⟩)), .int .i64 127, .int .i64 0]) (by simp [results, Try.results35, go_sem, z0, z1, z2, z3, z4, z5, z6, z7, z8, z9, z10, z11]) rfl ?_
    exact ⟨s6, rfl, H6.out.2.2, d1, d2⟩
theorem systemRef (h : RefAt w S r s) (n : ByteArray) (hf : Fewer S r) :
    Calls Try.prog 35 #[.agg (s.cells S r), .string n] w (SysPost w S r s n) := by
  by_cases hx : (lookX 4 n S.fails).isSome = true
  · exact systemA h n hf hx
  · have hx2 : (lookX 4 n S.fails).isSome = false := by simpa using hx
    by_cases hl : (lookR n S.reps).isSome = true
    · exact systemB h n hf hx2 hl
    · exact systemC h n hf hx2 (by simpa using hl)
def rAllStep (S : Scpt) (r : RSt) : RSt := match r.opn with | [] => r | s :: _ => rCloseS S r s.name
def rAllTo (S : Scpt) : Nat → RSt → RSt
  | 0, r => r
  | j + 1, r => rAllStep S (rAllTo S j r)
theorem keepS_len (n : ByteArray) (l : List RStrm) : (keepS n l).length ≤ l.length := List.length_filter_le _ _
theorem keepS_less {s : RStrm} {l : List RStrm} : (keepS s.name (s :: l)).length < (s :: l).length := by
  have : keepS s.name (s :: l) = keepS s.name l := by unfold keepS; rw [List.filter_cons]; simp
  rw [this]
  have := keepS_len s.name l
  rw [List.length_cons]; omega
theorem rClose_len (S : Scpt) (r : RSt) (n : ByteArray) : (rCloseS S r n).opn.length ≤ r.opn.length ∧ (rCloseS S r n).events.length ≤ r.events.length + 5 ∧ (rCloseS S r n).files = r.files := by
  refine ⟨keepS_len n _, (rCloseTo_opn S r n 5).2, ?_⟩
  have : ∀ i, (rCloseTo S r n i).1.files = r.files := by
    intro i
    induction i with
    | zero => rfl
    | succ i ih =>
      show (rCloseStep S r n ((i : Int) + 1) (rCloseTo S r n i)).1.files = _
      unfold rCloseStep
      split
      · exact ih
      · exact ih
  exact this 5
set_option maxHeartbeats 4000000 in
set_option maxRecDepth 100000 in
theorem closeAllRef (h : RefAt w S r s) (hf : Fewer S r) (hev : r.events.length + 5 * r.opn.length ≤ 900000) :
    Calls Try.prog 36 #[.agg (s.cells S r)] w fun x w' => ∃ s' j, j ≤ r.opn.length ∧ (rAllTo S j r).opn = [] ∧ x = .returned (.agg (s'.cells S (rAllTo S j r))) ∧ s'.scr = s.scr ∧ RefAt w' S (rAllTo S j r) s' ∧ Below w.heap.size w w' := by
  have hR := Run.two h
  go_enter Try.func36, Try.ntmps36
  go_upto_region 1 with fail
  obtain ⟨wA, hA⟩ : ∃ wA, wA = (w.alloc (.cells (s.cells S r) 38)).alloc (.cells #[.slice none 0 0, .string ⟨#[]⟩, .slice none 0 0, .slice none 0 0, .int .i64 0, .int .i64 0, .int .u64 0, .slice none 0 0, .int .i64 0, .slice none 0 0, .int .u64 0, .slice none 0 0] 38) := ⟨_, rfl⟩
  rw [← hA] at hR ⊢
  clear hA
  generalize w.heap.size + 1 = b2 at *
  generalize w.heap.size = b0 at hR ⊢
  have HR := Lib.hid (⟨h, hR⟩ : _ ∧ _)
  clear h hR
  go_loopg [] r.opn.length (fun q wr => ∃ (j : Nat) (rI : RSt) (sI : Shp), rI.opn.length = q ∧ j + rI.opn.length ≤ r.opn.length ∧ rI = rAllTo S j r ∧ rI.events.length ≤ r.events.length + 5 * j ∧ rI.files = r.files ∧ sI.scr = s.scr ∧ Run w wr S rI sI b0 b2)
  case atStart => exact ⟨0, r, s, rfl, by omega, rfl, by omega, rfl, rfl, HR.out.2⟩
  case round =>
    obtain ⟨j, rI, sI, hq, hjl, hrI, hev2, hfl, hsI, hRI⟩ := hrel
    have HI2 := Lib.hid (⟨hrI, hsI, hfl⟩ : _ ∧ _ ∧ _)
    clear hrI hsI hfl
    cases hop : rI.opn with
    | nil =>
      have hl0 : rI.opn.length = 0 := by rw [hop]; rfl
      have y9 := hRI.rbox.c9
      rw [hl0] at y9
      have HRI := Lib.hid hRI
      have HO := Lib.hid hop
      clear hRI hop hq
      go_upto_region 3 with fail
      clear y9 hl0
      obtain ⟨y0, y1, y2, y3, y4, y5, y6, y7, y8, y9, y10, y11, _, _⟩ := (HRI.out).rbox
      obtain ⟨q0, q1, q2, q3, q4, q5, q6, q7, q8, q9, q10, q11, qz, _⟩ := (HRI.out).rres
      have qz0 := qz 0
      have qz1 := qz 1
      have qz2 := qz 2
      have qz3 := qz 3
      have qz4 := qz 4
      have qz5 := qz 5
      have qz6 := qz 6
      have qz7 := qz 7
      have qz8 := qz 8
      have qz9 := qz 9
      have qz10 := qz 10
      have qz11 := qz 11
      clear qz
      go_wp2_with fail
      rw [put12_def]
      obtain ⟨d1, d2, d3⟩ := (HRI.out).done
      obtain ⟨z0, z1, z2, z3, z4, z5, z6, z7, z8, z9, z10, z11, _, _⟩ := d3
      generalize put12 wr b2 S rI sI = w9 at *
      refine bodyPost_ret (v := .agg (sI.cells S rI)) (by simp [results, Try.results36, go_sem, z0, z1, z2, z3, z4, z5, z6, z7, z8, z9, z10, z11]) rfl ?_
      have e := HI2.out.1
      subst e
      exact ⟨sI, j, by omega, HO.out, rfl, HI2.out.2.1, d1, d2⟩
    | cons p rest =>
      have hp0 : rI.opn[0]? = some p := by rw [hop]; rfl
      have hpos : 0 < rI.opn.length := by rw [hop, List.length_cons]; omega
      obtain ⟨g, hg, hc⟩ := hRI.ref.ro.at lenS hp0
      obtain ⟨oa1, ca1, oR1, cR1, oX1, cX1, oF1, cF1, oO1, cO1, oE1, cE1⟩ := sI
      dsimp only at hg
      subst hg
      have e1 : wr.cell? ⟨g, 1, none⟩ = some (.string p.name) := by have := hc 1 (by decide); rw [Nat.zero_mul, Nat.zero_add] at this; exact this
      obtain ⟨y0, y1, y2, y3, y4, y5, y6, y7, y8, y9, y10, y11, _, _⟩ := hRI.rbox
      dsimp only at y0 y1 y2 y3 y4 y5 y6 y7 y8 y9 y10 y11
      have hfI : Fewer S rI := ⟨hf.reps, hf.fails, by rw [HI2.out.2.2]; exact hf.files, by have := hf.opn; omega, by have := hf.events; omega⟩
      have hevI : rI.events.length ≤ 900000 := by omega
      have HRI := Lib.hid (⟨hRI, hfI, hevI⟩ : _ ∧ _ ∧ _)
      have HO := Lib.hid (⟨hop, hpos⟩ : _ ∧ _)
      have hpos' : 0 < (rI.opn.length : Int) := by omega
      have HQ := Lib.hid hq
      clear hRI hop hp0 hc hfI hevI hq
      have hdr : Run w wr.drew S rI ⟨oa1, ca1, oR1, cR1, oX1, cX1, oF1, cF1, some ⟨g, 0, none⟩, cO1, oE1, cE1⟩ b0 b2 := HRI.out.1.later (Below.refl _ _).drew
      have HDr := Lib.hid hdr
      have HCl := Lib.hid (closeRef hdr.ref p.name HRI.out.2.1 HRI.out.2.2)
      clear hdr
      go_upto_region 2 with fail
      go_region_law (go_simp; go_at_call 34; refine HCl.out.mono ?_; rintro e w6 ⟨s6, rfl, hs6, hr6, hb6⟩; have hRR := HDr.out.later hb6; obtain ⟨_, _, _, _, _, _, _, _, _, _, _, _, pz, _⟩ := hRR.rbox; obtain ⟨y0, y1, y2, y3, y4, y5, y6, y7, y8, y9, y10, y11, _, _⟩ := hRR.rbox; have pz0 := pz 0; have pz1 := pz 1; have pz2 := pz 2; have pz3 := pz 3; have pz4 := pz 4; have pz5 := pz 5; have pz6 := pz 6; have pz7 := pz 7; have pz8 := pz 8; have pz9 := pz 9; have pz10 := pz 10; have pz11 := pz 11; have H6 := Lib.hid (⟨hRR, hr6, hs6⟩ : _ ∧ _ ∧ _); clear hRR hr6 hs6 hb6 pz)
      all_goals
        go_wp2_with fail
        rw [put12_def]
        obtain ⟨rlen, rev, rfi⟩ := rClose_len S rI p.name
        have hless : (rCloseS S rI p.name).opn.length < rI.opn.length := by
          show (keepS p.name rI.opn).length < rI.opn.length
          rw [HO.out.1]; exact keepS_less
        have hput := H6.out.1.put H6.out.2.1 H6.out.2.2
        have HP := Lib.hid hput
        clear hput
        go_roundg ((rCloseS S rI p.name).opn.length)
        case measure => have := HQ.out; omega
        case rel =>
          refine ⟨j + 1, rCloseS S rI p.name, s6, rfl, by omega, ?_, by omega, rfi.trans HI2.out.2.2, H6.out.2.2.trans HI2.out.2.1, HP.out⟩
          show rCloseS S rI p.name = rAllStep S (rAllTo S j r)
          rw [← HI2.out.1]
          unfold rAllStep
          rw [HO.out.1]
end
end Go.Proofs.Ythbkcdbmimhhkaa.Rw
