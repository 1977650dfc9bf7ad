/-
  The document's world: reading (Read).
-/
import Derived.Test.YthbkcdbmimhhkaaRwF
namespace Go.Proofs.Ythbkcdbmimhhkaa.Rw
open Go.RowKit Go.Maps Wo

def rReadE (S : Scpt) (r : RSt) (k : Int) (n : ByteArray) (m : Int) : Int := if rplace k n r.opn < 0 ∨ ¬ (k = 1 ∨ k = 2) then 16 else if m < 1 then 2 else if (lookX 2 n S.fails).isSome = true then 13 else 0
def tookW (r : RSt) (pc : ByteArray) : RSt := { r with taken := r.taken + pc.size }
def tookO (r : RSt) (i : Nat) (p : RStrm) (pc : ByteArray) : RSt := { r with opn := r.opn.set i { p with taken := p.taken + pc.size } }
def takenS (l : List RStrm) (i : Nat) (p : RStrm) (t : Nat) : List RStrm := l.set i { p with taken := t }
theorem flat_taken : ∀ (l : List RStrm) (i : Nat) (p : RStrm) (t : Nat), l[i]? = some p → flatL RStrm.cells (takenS l i p t) = (flatL RStrm.cells l).set (i * 4 + 3) (.int .i64 (t : Int))
  | x :: l, 0, p, t, h => by
    simp at h; subst h
    simp [takenS, flatL, RStrm.cells]
  | x :: l, i + 1, p, t, h => by
    have ih := flat_taken l i p t (by simpa using h)
    unfold takenS flatL at ih ⊢
    rw [List.set_cons_succ, List.map_cons, List.map_cons, List.flatten_cons, List.flatten_cons, ih]
    have e : (i + 1) * 4 + 3 = x.cells.length + (i * 4 + 3) := by show _ = 4 + _; omega
    rw [e, List.set_append_right _ _ (Nat.le_add_right _ _), Nat.add_sub_cancel_left]
theorem Own.taken {w : World} {B g c : Nat} {l : List RStrm} {i : Nat} {p : RStrm} (h : OwnS w B (.slice (some ⟨g, 0, none⟩) l.length c) l) (hp : l[i]? = some p) (t : Nat) : OwnS (w.setCell ⟨g, i * 4 + 3, none⟩ (.int .i64 (t : Int))) B (.slice (some ⟨g, 0, none⟩) l.length c) (takenS l i p t) := by
  have hl : (takenS l i p t).length = l.length := List.length_set
  show World.ownsRow _ _ _ _ _ _ _
  rw [hl, flat_taken l i p t hp]
  exact (World.ownsRow.stored h (i * 4 + 3) (.int .i64 (t : Int))).1
section
variable {w : World} {S : Scpt} {r : RSt} {s : Shp}
set_option maxHeartbeats 4000000 in
set_option maxRecDepth 100000 in
theorem readA (h : RefAt w S r s) (k : Int) (n : ByteArray) (m : Int) (hf : Fewer S r) (pl : Int) (hp : rplace k n r.opn = pl) (hpl : pl < 0) :
    Calls Try.prog 32 #[.agg (s.cells S r), .int .u8 k, .string n, .int .i64 m] w fun x w' => ∃ s', x = .returned (.tuple #[.agg (s'.cells S r), .string noText, .int .i64 16]) ∧ s'.scr = s.scr ∧ RefAt w' S r s' ∧ Below w.heap.size w w' := by
  have hzo : r.opn.length ≤ 1000000 := by have := hf.opn; omega
  have hzx := hf.fails
  have HP := Lib.hid hp
  clear hp
  have hR := Run.two h
  go_enter Try.func32, Try.ntmps32
  go_upto_region 1 with fail
  obtain ⟨wA, hA⟩ : ∃ wA, wA = (w.alloc (.cells (s.cells S r) 38)).alloc (.cells #[.slice none 0 0, .string ⟨#[]⟩, .slice none 0 0, .slice none 0 0, .int .i64 0, .int .i64 0, .int .u64 0, .slice none 0 0, .int .i64 0, .slice none 0 0, .int .u64 0, .slice none 0 0] 38) := ⟨_, rfl⟩
  rw [← hA] at hR ⊢
  clear hA
  generalize w.heap.size + 1 = b2 at *
  generalize w.heap.size = b0 at hR ⊢
  have HR := Lib.hid (⟨h, hR⟩ : _ ∧ _)
  clear h hR
  obtain ⟨y0, y1, y2, y3, y4, y5, y6, y7, y8, y9, y10, y11, _, _⟩ := (HR.out.2).rbox
  go_upto_region 3 with (go_at_call 15; refine (findRef HR.out.2.ref k n hzo).mono ?_; rintro e w1 ⟨rfl, hbb⟩; rw [HP.out]; have hRR := (HR.out.2).later hbb; obtain ⟨y0, y1, y2, y3, y4, y5, y6, y7, y8, y9, y10, y11, _, _⟩ := hRR.rbox; have H1 := Lib.hid hRR; clear hRR hbb)
  obtain ⟨y0, y1, y2, y3, y4, y5, y6, y7, y8, y9, y10, y11, _, _⟩ := (H1.out).rbox
  obtain ⟨q0, q1, q2, q3, q4, q5, q6, q7, q8, q9, q10, q11, qz, _⟩ := (H1.out).rres
  have qz0 := qz 0
  have qz1 := qz 1
  have qz2 := qz 2
  have qz3 := qz 3
  have qz4 := qz 4
  have qz5 := qz 5
  have qz6 := qz 6
  have qz7 := qz 7
  have qz8 := qz 8
  have qz9 := qz 9
  have qz10 := qz 10
  have qz11 := qz 11
  clear qz
  go_wp2_with fail
  rw [put12_def]
  obtain ⟨d1, d2, d3⟩ := (H1.out).done
  obtain ⟨z0, z1, z2, z3, z4, z5, z6, z7, z8, z9, z10, z11, _, _⟩ := d3
  generalize put12 w1 b2 S r s = w9 at *
  refine bodyPost_ret (v := .tuple #[.agg (s.cells S r), .string noText, .int .i64 16]) (by simp [results, Try.results32, go_sem, z0, z1, z2, z3, z4, z5, z6, z7, z8, z9, z10, z11]) rfl ?_
  exact ⟨s, rfl, rfl, d1, d2⟩
set_option maxHeartbeats 4000000 in
set_option maxRecDepth 100000 in
theorem readB (h : RefAt w S r s) (k : Int) (n : ByteArray) (m : Int) (hf : Fewer S r) (pl : Int) (hp : rplace k n r.opn = pl) (hpl : 0 ≤ pl) (hk1 : k ≠ 1) (hk2 : k ≠ 2) :
    Calls Try.prog 32 #[.agg (s.cells S r), .int .u8 k, .string n, .int .i64 m] w fun x w' => ∃ s', x = .returned (.tuple #[.agg (s'.cells S r), .string noText, .int .i64 16]) ∧ s'.scr = s.scr ∧ RefAt w' S r s' ∧ Below w.heap.size w w' := by
  have hzo : r.opn.length ≤ 1000000 := by have := hf.opn; omega
  have hzx := hf.fails
  have HP := Lib.hid hp
  clear hp
  have hn1 : ¬ k = 1 := hk1
  have hn2 : ¬ k = 2 := hk2
  have hb1 : (k == 1) = false := beq_eq_false_iff_ne.2 hk1
  have hb2 : (k == 2) = false := beq_eq_false_iff_ne.2 hk2
  have hc1 : (k != 1) = true := bne_iff_ne.2 hk1
  have hc2 : (k != 2) = true := bne_iff_ne.2 hk2
  have hpl' : ¬ pl < 0 := by omega
  have hR := Run.two h
  go_enter Try.func32, Try.ntmps32
  go_upto_region 1 with fail
  obtain ⟨wA, hA⟩ : ∃ wA, wA = (w.alloc (.cells (s.cells S r) 38)).alloc (.cells #[.slice none 0 0, .string ⟨#[]⟩, .slice none 0 0, .slice none 0 0, .int .i64 0, .int .i64 0, .int .u64 0, .slice none 0 0, .int .i64 0, .slice none 0 0, .int .u64 0, .slice none 0 0] 38) := ⟨_, rfl⟩
  rw [← hA] at hR ⊢
  clear hA
  generalize w.heap.size + 1 = b2 at *
  generalize w.heap.size = b0 at hR ⊢
  have HR := Lib.hid (⟨h, hR⟩ : _ ∧ _)
  clear h hR
  obtain ⟨y0, y1, y2, y3, y4, y5, y6, y7, y8, y9, y10, y11, _, _⟩ := (HR.out.2).rbox
  go_upto_region 3 with (go_at_call 15; refine (findRef HR.out.2.ref k n hzo).mono ?_; rintro e w1 ⟨rfl, hbb⟩; rw [HP.out]; have hRR := (HR.out.2).later hbb; obtain ⟨y0, y1, y2, y3, y4, y5, y6, y7, y8, y9, y10, y11, _, _⟩ := hRR.rbox; have H1 := Lib.hid hRR; clear hRR hbb)
  obtain ⟨y0, y1, y2, y3, y4, y5, y6, y7, y8, y9, y10, y11, _, _⟩ := (H1.out).rbox
  obtain ⟨q0, q1, q2, q3, q4, q5, q6, q7, q8, q9, q10, q11, qz, _⟩ := (H1.out).rres
  have qz0 := qz 0
  have qz1 := qz 1
  have qz2 := qz 2
  have qz3 := qz 3
  have qz4 := qz 4
  have qz5 := qz 5
  have qz6 := qz 6
  have qz7 := qz 7
  have qz8 := qz 8
  have qz9 := qz 9
  have qz10 := qz 10
  have qz11 := qz 11
  clear qz
  go_wp2_with fail
  rw [put12_def]
  obtain ⟨d1, d2, d3⟩ := (H1.out).done
  obtain ⟨z0, z1, z2, z3, z4, z5, z6, z7, z8, z9, z10, z11, _, _⟩ := d3
  generalize put12 w1 b2 S r s = w9 at *
  refine bodyPost_ret (v := .tuple #[.agg (s.cells S r), .string noText, .int .i64 16]) (by simp [results, Try.results32, go_sem, z0, z1, z2, z3, z4, z5, z6, z7, z8, z9, z10, z11]) rfl ?_
  exact ⟨s, rfl, rfl, d1, d2⟩
set_option maxHeartbeats 4000000 in
set_option maxRecDepth 100000 in
theorem readC1 (h : RefAt w S r s) (n : ByteArray) (m : Int) (hf : Fewer S r) (pl : Int) (hp : rplace 1 n r.opn = pl) (hpl : 0 ≤ pl) (hm : m < 1) :
    Calls Try.prog 32 #[.agg (s.cells S r), .int .u8 1, .string n, .int .i64 m] w fun x w' => ∃ s', x = .returned (.tuple #[.agg (s'.cells S r), .string noText, .int .i64 2]) ∧ s'.scr = s.scr ∧ RefAt w' S r s' ∧ Below w.heap.size w w' := by
  have hzo : r.opn.length ≤ 1000000 := by have := hf.opn; omega
  have hzx := hf.fails
  have HP := Lib.hid hp
  clear hp
  have hpl' : ¬ pl < 0 := by omega
  have hR := Run.two h
  go_enter Try.func32, Try.ntmps32
  go_upto_region 1 with fail
  obtain ⟨wA, hA⟩ : ∃ wA, wA = (w.alloc (.cells (s.cells S r) 38)).alloc (.cells #[.slice none 0 0, .string ⟨#[]⟩, .slice none 0 0, .slice none 0 0, .int .i64 0, .int .i64 0, .int .u64 0, .slice none 0 0, .int .i64 0, .slice none 0 0, .int .u64 0, .slice none 0 0] 38) := ⟨_, rfl⟩
  rw [← hA] at hR ⊢
  clear hA
  generalize w.heap.size + 1 = b2 at *
  generalize w.heap.size = b0 at hR ⊢
  have HR := Lib.hid (⟨h, hR⟩ : _ ∧ _)
  clear h hR
  obtain ⟨y0, y1, y2, y3, y4, y5, y6, y7, y8, y9, y10, y11, _, _⟩ := (HR.out.2).rbox
  go_upto_region 5 with (go_at_call 15; refine (findRef HR.out.2.ref 1 n hzo).mono ?_; rintro e w1 ⟨rfl, hbb⟩; rw [HP.out]; have hRR := (HR.out.2).later hbb; obtain ⟨y0, y1, y2, y3, y4, y5, y6, y7, y8, y9, y10, y11, _, _⟩ := hRR.rbox; have H1 := Lib.hid hRR; clear hRR hbb)
  obtain ⟨y0, y1, y2, y3, y4, y5, y6, y7, y8, y9, y10, y11, _, _⟩ := (H1.out).rbox
  obtain ⟨q0, q1, q2, q3, q4, q5, q6, q7, q8, q9, q10, q11, qz, _⟩ := (H1.out).rres
  have qz0 := qz 0
  have qz1 := qz 1
  have qz2 := qz 2
  have qz3 := qz 3
  have qz4 := qz 4
  have qz5 := qz 5
  have qz6 := qz 6
  have qz7 := qz 7
  have qz8 := qz 8
  have qz9 := qz 9
  have qz10 := qz 10
  have qz11 := qz 11
  clear qz
  go_wp2_with fail
  rw [put12_def]
  obtain ⟨d1, d2, d3⟩ := (H1.out).done
  obtain ⟨z0, z1, z2, z3, z4, z5, z6, z7, z8, z9, z10, z11, _, _⟩ := d3
  generalize put12 w1 b2 S r s = w9 at *
  refine bodyPost_ret (v := .tuple #[.agg (s.cells S r), .string noText, .int .i64 2]) (by simp [results, Try.results32, go_sem, z0, z1, z2, z3, z4, z5, z6, z7, z8, z9, z10, z11]) rfl ?_
  exact ⟨s, rfl, rfl, d1, d2⟩
set_option maxHeartbeats 4000000 in
set_option maxRecDepth 100000 in
theorem readD1 (h : RefAt w S r s) (n : ByteArray) (m : Int) (hf : Fewer S r) (pl : Int) (hp : rplace 1 n r.opn = pl) (hpl : 0 ≤ pl) (hm : ¬ m < 1) (hx : (lookX 2 n S.fails).isSome = true) :
    Calls Try.prog 32 #[.agg (s.cells S r), .int .u8 1, .string n, .int .i64 m] w fun x w' => ∃ s', x = .returned (.tuple #[.agg (s'.cells S r), .string noText, .int .i64 13]) ∧ s'.scr = s.scr ∧ RefAt w' S r s' ∧ Below w.heap.size w w' := by
  have hzo : r.opn.length ≤ 1000000 := by have := hf.opn; omega
  have hzx := hf.fails
  have HP := Lib.hid hp
  clear hp
  have hpl' : ¬ pl < 0 := by omega
  have HX := Lib.hid hx
  clear hx
  have hR := Run.two h
  go_enter Try.func32, Try.ntmps32
  go_upto_region 1 with fail
  obtain ⟨wA, hA⟩ : ∃ wA, wA = (w.alloc (.cells (s.cells S r) 38)).alloc (.cells #[.slice none 0 0, .string ⟨#[]⟩, .slice none 0 0, .slice none 0 0, .int .i64 0, .int .i64 0, .int .u64 0, .slice none 0 0, .int .i64 0, .slice none 0 0, .int .u64 0, .slice none 0 0] 38) := ⟨_, rfl⟩
  rw [← hA] at hR ⊢
  clear hA
  generalize w.heap.size + 1 = b2 at *
  generalize w.heap.size = b0 at hR ⊢
  have HR := Lib.hid (⟨h, hR⟩ : _ ∧ _)
  clear h hR
  obtain ⟨y0, y1, y2, y3, y4, y5, y6, y7, y8, y9, y10, y11, _, _⟩ := (HR.out.2).rbox
  go_upto_region 7 with (first
    | (go_at_call 49; refine (failsRef H1.out.ref 2 n hzx).mono ?_; rintro e w2 ⟨rfl, hbb⟩; rw [HX.out]; have hRR := (H1.out).later hbb; obtain ⟨y0, y1, y2, y3, y4, y5, y6, y7, y8, y9, y10, y11, _, _⟩ := hRR.rbox; have H2 := Lib.hid hRR; clear hRR hbb)
    | (go_at_call 15; refine (findRef HR.out.2.ref 1 n hzo).mono ?_; rintro e w1 ⟨rfl, hbb⟩; rw [HP.out]; have hRR := (HR.out.2).later hbb; obtain ⟨y0, y1, y2, y3, y4, y5, y6, y7, y8, y9, y10, y11, _, _⟩ := hRR.rbox; have H1 := Lib.hid hRR; clear hRR hbb))
  obtain ⟨y0, y1, y2, y3, y4, y5, y6, y7, y8, y9, y10, y11, _, _⟩ := (H2.out).rbox
  obtain ⟨q0, q1, q2, q3, q4, q5, q6, q7, q8, q9, q10, q11, qz, _⟩ := (H2.out).rres
  have qz0 := qz 0
  have qz1 := qz 1
  have qz2 := qz 2
  have qz3 := qz 3
  have qz4 := qz 4
  have qz5 := qz 5
  have qz6 := qz 6
  have qz7 := qz 7
  have qz8 := qz 8
  have qz9 := qz 9
  have qz10 := qz 10
  have qz11 := qz 11
  clear qz
  go_wp2_with fail
  rw [put12_def]
  obtain ⟨d1, d2, d3⟩ := (H2.out).done
  obtain ⟨z0, z1, z2, z3, z4, z5, z6, z7, z8, z9, z10, z11, _, _⟩ := d3
  generalize put12 w2 b2 S r s = w9 at *
  refine bodyPost_ret (v := .tuple #[.agg (s.cells S r), .string noText, .int .i64 13]) (by simp [results, Try.results32, go_sem, z0, z1, z2, z3, z4, z5, z6, z7, z8, z9, z10, z11]) rfl ?_
  exact ⟨s, rfl, rfl, d1, d2⟩
set_option maxHeartbeats 4000000 in
set_option maxRecDepth 100000 in
theorem readC2 (h : RefAt w S r s) (n : ByteArray) (m : Int) (hf : Fewer S r) (pl : Int) (hp : rplace 2 n r.opn = pl) (hpl : 0 ≤ pl) (hm : m < 1) :
    Calls Try.prog 32 #[.agg (s.cells S r), .int .u8 2, .string n, .int .i64 m] w fun x w' => ∃ s', x = .returned (.tuple #[.agg (s'.cells S r), .string noText, .int .i64 2]) ∧ s'.scr = s.scr ∧ RefAt w' S r s' ∧ Below w.heap.size w w' := by
  have hzo : r.opn.length ≤ 1000000 := by have := hf.opn; omega
  have hzx := hf.fails
  have HP := Lib.hid hp
  clear hp
  have hpl' : ¬ pl < 0 := by omega
  have hR := Run.two h
  go_enter Try.func32, Try.ntmps32
  go_upto_region 1 with fail
  obtain ⟨wA, hA⟩ : ∃ wA, wA = (w.alloc (.cells (s.cells S r) 38)).alloc (.cells #[.slice none 0 0, .string ⟨#[]⟩, .slice none 0 0, .slice none 0 0, .int .i64 0, .int .i64 0, .int .u64 0, .slice none 0 0, .int .i64 0, .slice none 0 0, .int .u64 0, .slice none 0 0] 38) := ⟨_, rfl⟩
  rw [← hA] at hR ⊢
  clear hA
  generalize w.heap.size + 1 = b2 at *
  generalize w.heap.size = b0 at hR ⊢
  have HR := Lib.hid (⟨h, hR⟩ : _ ∧ _)
  clear h hR
  obtain ⟨y0, y1, y2, y3, y4, y5, y6, y7, y8, y9, y10, y11, _, _⟩ := (HR.out.2).rbox
  go_upto_region 5 with (go_at_call 15; refine (findRef HR.out.2.ref 2 n hzo).mono ?_; rintro e w1 ⟨rfl, hbb⟩; rw [HP.out]; have hRR := (HR.out.2).later hbb; obtain ⟨y0, y1, y2, y3, y4, y5, y6, y7, y8, y9, y10, y11, _, _⟩ := hRR.rbox; have H1 := Lib.hid hRR; clear hRR hbb)
  obtain ⟨y0, y1, y2, y3, y4, y5, y6, y7, y8, y9, y10, y11, _, _⟩ := (H1.out).rbox
  obtain ⟨q0, q1, q2, q3, q4, q5, q6, q7, q8, q9, q10, q11, qz, _⟩ := (H1.out).rres
  have qz0 := qz 0
  have qz1 := qz 1
  have qz2 := qz 2
  have qz3 := qz 3
  have qz4 := qz 4
  have qz5 := qz 5
  have qz6 := qz 6
  have qz7 := qz 7
  have qz8 := qz 8
  have qz9 := qz 9
  have qz10 := qz 10
  have qz11 := qz 11
  clear qz
  go_wp2_with fail
  rw [put12_def]
  obtain ⟨d1, d2, d3⟩ := (H1.out).done
  obtain ⟨z0, z1, z2, z3, z4, z5, z6, z7, z8, z9, z10, z11, _, _⟩ := d3
  generalize put12 w1 b2 S r s = w9 at *
  refine bodyPost_ret (v := .tuple #[.agg (s.cells S r), .string noText, .int .i64 2]) (by simp [results, Try.results32, go_sem, z0, z1, z2, z3, z4, z5, z6, z7, z8, z9, z10, z11]) rfl ?_
  exact ⟨s, rfl, rfl, d1, d2⟩
set_option maxHeartbeats 4000000 in
set_option maxRecDepth 100000 in
theorem readD2 (h : RefAt w S r s) (n : ByteArray) (m : Int) (hf : Fewer S r) (pl : Int) (hp : rplace 2 n r.opn = pl) (hpl : 0 ≤ pl) (hm : ¬ m < 1) (hx : (lookX 2 n S.fails).isSome = true) :
    Calls Try.prog 32 #[.agg (s.cells S r), .int .u8 2, .string n, .int .i64 m] w fun x w' => ∃ s', x = .returned (.tuple #[.agg (s'.cells S r), .string noText, .int .i64 13]) ∧ s'.scr = s.scr ∧ RefAt w' S r s' ∧ Below w.heap.size w w' := by
  have hzo : r.opn.length ≤ 1000000 := by have := hf.opn; omega
  have hzx := hf.fails
  have HP := Lib.hid hp
  clear hp
  have hpl' : ¬ pl < 0 := by omega
  have HX := Lib.hid hx
  clear hx
  have hR := Run.two h
  go_enter Try.func32, Try.ntmps32
  go_upto_region 1 with fail
  obtain ⟨wA, hA⟩ : ∃ wA, wA = (w.alloc (.cells (s.cells S r) 38)).alloc (.cells #[.slice none 0 0, .string ⟨#[]⟩, .slice none 0 0, .slice none 0 0, .int .i64 0, .int .i64 0, .int .u64 0, .slice none 0 0, .int .i64 0, .slice none 0 0, .int .u64 0, .slice none 0 0] 38) := ⟨_, rfl⟩
  rw [← hA] at hR ⊢
  clear hA
  generalize w.heap.size + 1 = b2 at *
  generalize w.heap.size = b0 at hR ⊢
  have HR := Lib.hid (⟨h, hR⟩ : _ ∧ _)
  clear h hR
  obtain ⟨y0, y1, y2, y3, y4, y5, y6, y7, y8, y9, y10, y11, _, _⟩ := (HR.out.2).rbox
  go_upto_region 7 with (first
    | (go_at_call 49; refine (failsRef H1.out.ref 2 n hzx).mono ?_; rintro e w2 ⟨rfl, hbb⟩; rw [HX.out]; have hRR := (H1.out).later hbb; obtain ⟨y0, y1, y2, y3, y4, y5, y6, y7, y8, y9, y10, y11, _, _⟩ := hRR.rbox; have H2 := Lib.hid hRR; clear hRR hbb)
    | (go_at_call 15; refine (findRef HR.out.2.ref 2 n hzo).mono ?_; rintro e w1 ⟨rfl, hbb⟩; rw [HP.out]; have hRR := (HR.out.2).later hbb; obtain ⟨y0, y1, y2, y3, y4, y5, y6, y7, y8, y9, y10, y11, _, _⟩ := hRR.rbox; have H1 := Lib.hid hRR; clear hRR hbb))
  obtain ⟨y0, y1, y2, y3, y4, y5, y6, y7, y8, y9, y10, y11, _, _⟩ := (H2.out).rbox
  obtain ⟨q0, q1, q2, q3, q4, q5, q6, q7, q8, q9, q10, q11, qz, _⟩ := (H2.out).rres
  have qz0 := qz 0
  have qz1 := qz 1
  have qz2 := qz 2
  have qz3 := qz 3
  have qz4 := qz 4
  have qz5 := qz 5
  have qz6 := qz 6
  have qz7 := qz 7
  have qz8 := qz 8
  have qz9 := qz 9
  have qz10 := qz 10
  have qz11 := qz 11
  clear qz
  go_wp2_with fail
  rw [put12_def]
  obtain ⟨d1, d2, d3⟩ := (H2.out).done
  obtain ⟨z0, z1, z2, z3, z4, z5, z6, z7, z8, z9, z10, z11, _, _⟩ := d3
  generalize put12 w2 b2 S r s = w9 at *
  refine bodyPost_ret (v := .tuple #[.agg (s.cells S r), .string noText, .int .i64 13]) (by simp [results, Try.results32, go_sem, z0, z1, z2, z3, z4, z5, z6, z7, z8, z9, z10, z11]) rfl ?_
  exact ⟨s, rfl, rfl, d1, d2⟩
set_option maxHeartbeats 4000000 in
set_option maxRecDepth 100000 in
theorem readE1 (h : RefAt w S r s) (n : ByteArray) (m : Int) (hf : Fewer S r) (pl : Int) (hp : rplace 1 n r.opn = pl) (hpl : 0 ≤ pl) (hm : ¬ m < 1) (hx : (lookX 2 n S.fails).isSome = false) (hn : n = dash) (htk : r.taken ≤ S.stdin.size) (hsz : S.stdin.size ≤ 1000000000) (hle : m < ((S.stdin.size - r.taken : Nat) : Int)) :
    Calls Try.prog 32 #[.agg (s.cells S r), .int .u8 1, .string n, .int .i64 m] w fun x w' => ∃ s', x = .returned (.tuple #[.agg (s'.cells S (tookW r ((S.stdin.extract r.taken S.stdin.size).extract 0 m.toNat))), .string ((S.stdin.extract r.taken S.stdin.size).extract 0 m.toNat), .int .i64 0]) ∧ s'.scr = s.scr ∧ RefAt w' S (tookW r ((S.stdin.extract r.taken S.stdin.size).extract 0 m.toNat)) s' ∧ Below w.heap.size w w' := by
  have hzo : r.opn.length ≤ 1000000 := by have := hf.opn; omega
  have hzx := hf.fails
  have HP := Lib.hid hp
  clear hp
  have hpl' : ¬ pl < 0 := by omega
  have hdn : (n.toList == [45]) = true := by rw [hn, dash_list]; rfl
  have HX := Lib.hid hx
  clear hx hn
  have hR := Run.two h
  go_enter Try.func32, Try.ntmps32
  go_upto_region 1 with fail
  obtain ⟨wA, hA⟩ : ∃ wA, wA = (w.alloc (.cells (s.cells S r) 38)).alloc (.cells #[.slice none 0 0, .string ⟨#[]⟩, .slice none 0 0, .slice none 0 0, .int .i64 0, .int .i64 0, .int .u64 0, .slice none 0 0, .int .i64 0, .slice none 0 0, .int .u64 0, .slice none 0 0] 38) := ⟨_, rfl⟩
  rw [← hA] at hR ⊢
  clear hA
  generalize w.heap.size + 1 = b2 at *
  generalize w.heap.size = b0 at hR ⊢
  have HR := Lib.hid (⟨h, hR⟩ : _ ∧ _)
  clear h hR
  obtain ⟨y0, y1, y2, y3, y4, y5, y6, y7, y8, y9, y10, y11, _, _⟩ := (HR.out.2).rbox
  go_upto_region 9 with (first
    | (go_at_call 49; refine (failsRef H1.out.ref 2 n hzx).mono ?_; rintro e w2 ⟨rfl, hbb⟩; rw [HX.out]; have hRR := (H1.out).later hbb; obtain ⟨y0, y1, y2, y3, y4, y5, y6, y7, y8, y9, y10, y11, _, _⟩ := hRR.rbox; have H2 := Lib.hid hRR; clear hRR hbb)
    | (go_at_call 15; refine (findRef HR.out.2.ref 1 n hzo).mono ?_; rintro e w1 ⟨rfl, hbb⟩; rw [HP.out]; have hRR := (HR.out.2).later hbb; obtain ⟨y0, y1, y2, y3, y4, y5, y6, y7, y8, y9, y10, y11, _, _⟩ := hRR.rbox; have H1 := Lib.hid hRR; clear hRR hbb))
  have ht0 : (0 : Int) ≤ (r.taken : Int) := by omega
  have ht1 : (r.taken : Int) ≤ (S.stdin.size : Int) := by omega
  go_upto_region 12 with fail
  obtain ⟨pc, hpc⟩ : ∃ x, x = (S.stdin.extract r.taken S.stdin.size).extract 0 m.toNat := ⟨_, rfl⟩
  rw [← hpc]
  have hpz : pc.size ≤ S.stdin.size := by rw [hpc]; simp only [ByteArray.size_extract]; omega
  have hpi : (pc.size : Int) ≤ 1000000000 := by omega
  have hti : (r.taken : Int) ≤ 1000000000 := by omega
  have HPC := Lib.hid hpc
  clear hpc
  have hF := H2.out.field (i := 8) (v := .int .i64 ((r.taken : Int) + (pc.size : Int))) (r' := tookW r pc) (s' := s) (by
    have e : ((r.taken + pc.size : Nat) : Int) = (r.taken : Int) + (pc.size : Int) := by push_cast; rfl
    simp [Shp.cells, tookW]) ⟨H2.out.ref.rr, H2.out.ref.rx, H2.out.ref.rf, H2.out.ref.ro, H2.out.ref.re, H2.out.ref.gh⟩ rfl
  have z8 := H2.out.rbox.z 8
  go_upto_region 13 with fail
  obtain ⟨wY, hY⟩ : ∃ wY, wY = w2.setCell ⟨b0, 8, none⟩ (.int .i64 ((r.taken : Int) + (pc.size : Int))) := ⟨_, rfl⟩
  obtain ⟨r2, hr2⟩ : ∃ x : RSt, x = tookW r pc := ⟨_, rfl⟩
  rw [← hr2] at hF
  rw [← hY] at hF ⊢
  have HF := Lib.hid hF
  have HN := Lib.hid hr2
  clear hF hY hr2 z8
  obtain ⟨y0, y1, y2, y3, y4, y5, y6, y7, y8, y9, y10, y11, _, _⟩ := (HF.out).rbox
  obtain ⟨q0, q1, q2, q3, q4, q5, q6, q7, q8, q9, q10, q11, qz, _⟩ := (HF.out).rres
  have qz0 := qz 0
  have qz1 := qz 1
  have qz2 := qz 2
  have qz3 := qz 3
  have qz4 := qz 4
  have qz5 := qz 5
  have qz6 := qz 6
  have qz7 := qz 7
  have qz8 := qz 8
  have qz9 := qz 9
  have qz10 := qz 10
  have qz11 := qz 11
  clear qz
  go_wp2_with fail
  rw [put12_def]
  obtain ⟨d1, d2, d3⟩ := (HF.out).done
  obtain ⟨z0, z1, z2, z3, z4, z5, z6, z7, z8, z9, z10, z11, _, _⟩ := d3
  generalize put12 wY b2 S r2 s = w9 at *
  refine bodyPost_ret (v := .tuple #[.agg (s.cells S r2), .string pc, .int .i64 0]) (by simp [results, Try.results32, go_sem, z0, z1, z2, z3, z4, z5, z6, z7, z8, z9, z10, z11]) rfl ?_
  obtain rfl := HN.out
  obtain rfl := HPC.out
  exact ⟨s, rfl, rfl, d1, d2⟩
set_option maxHeartbeats 4000000 in
set_option maxRecDepth 100000 in
theorem readE2 (h : RefAt w S r s) (n : ByteArray) (m : Int) (hf : Fewer S r) (pl : Int) (hp : rplace 1 n r.opn = pl) (hpl : 0 ≤ pl) (hm : ¬ m < 1) (hx : (lookX 2 n S.fails).isSome = false) (hn : n = dash) (htk : r.taken ≤ S.stdin.size) (hsz : S.stdin.size ≤ 1000000000) (hle : ¬ m < ((S.stdin.size - r.taken : Nat) : Int)) :
    Calls Try.prog 32 #[.agg (s.cells S r), .int .u8 1, .string n, .int .i64 m] w fun x w' => ∃ s', x = .returned (.tuple #[.agg (s'.cells S (tookW r ((S.stdin.extract r.taken S.stdin.size)))), .string ((S.stdin.extract r.taken S.stdin.size)), .int .i64 0]) ∧ s'.scr = s.scr ∧ RefAt w' S (tookW r ((S.stdin.extract r.taken S.stdin.size))) s' ∧ Below w.heap.size w w' := by
  have hzo : r.opn.length ≤ 1000000 := by have := hf.opn; omega
  have hzx := hf.fails
  have HP := Lib.hid hp
  clear hp
  have hpl' : ¬ pl < 0 := by omega
  have hdn : (n.toList == [45]) = true := by rw [hn, dash_list]; rfl
  have HX := Lib.hid hx
  clear hx hn
  have hR := Run.two h
  go_enter Try.func32, Try.ntmps32
  go_upto_region 1 with fail
  obtain ⟨wA, hA⟩ : ∃ wA, wA = (w.alloc (.cells (s.cells S r) 38)).alloc (.cells #[.slice none 0 0, .string ⟨#[]⟩, .slice none 0 0, .slice none 0 0, .int .i64 0, .int .i64 0, .int .u64 0, .slice none 0 0, .int .i64 0, .slice none 0 0, .int .u64 0, .slice none 0 0] 38) := ⟨_, rfl⟩
  rw [← hA] at hR ⊢
  clear hA
  generalize w.heap.size + 1 = b2 at *
  generalize w.heap.size = b0 at hR ⊢
  have HR := Lib.hid (⟨h, hR⟩ : _ ∧ _)
  clear h hR
  obtain ⟨y0, y1, y2, y3, y4, y5, y6, y7, y8, y9, y10, y11, _, _⟩ := (HR.out.2).rbox
  go_upto_region 9 with (first
    | (go_at_call 49; refine (failsRef H1.out.ref 2 n hzx).mono ?_; rintro e w2 ⟨rfl, hbb⟩; rw [HX.out]; have hRR := (H1.out).later hbb; obtain ⟨y0, y1, y2, y3, y4, y5, y6, y7, y8, y9, y10, y11, _, _⟩ := hRR.rbox; have H2 := Lib.hid hRR; clear hRR hbb)
    | (go_at_call 15; refine (findRef HR.out.2.ref 1 n hzo).mono ?_; rintro e w1 ⟨rfl, hbb⟩; rw [HP.out]; have hRR := (HR.out.2).later hbb; obtain ⟨y0, y1, y2, y3, y4, y5, y6, y7, y8, y9, y10, y11, _, _⟩ := hRR.rbox; have H1 := Lib.hid hRR; clear hRR hbb))
  have ht0 : (0 : Int) ≤ (r.taken : Int) := by omega
  have ht1 : (r.taken : Int) ≤ (S.stdin.size : Int) := by omega
  go_upto_region 12 with fail
  obtain ⟨pc, hpc⟩ : ∃ x, x = (S.stdin.extract r.taken S.stdin.size) := ⟨_, rfl⟩
  rw [← hpc]
  have hpz : pc.size ≤ S.stdin.size := by rw [hpc]; simp only [ByteArray.size_extract]; omega
  have hpi : (pc.size : Int) ≤ 1000000000 := by omega
  have hti : (r.taken : Int) ≤ 1000000000 := by omega
  have HPC := Lib.hid hpc
  clear hpc
  have hF := H2.out.field (i := 8) (v := .int .i64 ((r.taken : Int) + (pc.size : Int))) (r' := tookW r pc) (s' := s) (by
    have e : ((r.taken + pc.size : Nat) : Int) = (r.taken : Int) + (pc.size : Int) := by push_cast; rfl
    simp [Shp.cells, tookW]) ⟨H2.out.ref.rr, H2.out.ref.rx, H2.out.ref.rf, H2.out.ref.ro, H2.out.ref.re, H2.out.ref.gh⟩ rfl
  have z8 := H2.out.rbox.z 8
  go_upto_region 13 with fail
  obtain ⟨wY, hY⟩ : ∃ wY, wY = w2.setCell ⟨b0, 8, none⟩ (.int .i64 ((r.taken : Int) + (pc.size : Int))) := ⟨_, rfl⟩
  obtain ⟨r2, hr2⟩ : ∃ x : RSt, x = tookW r pc := ⟨_, rfl⟩
  rw [← hr2] at hF
  rw [← hY] at hF ⊢
  have HF := Lib.hid hF
  have HN := Lib.hid hr2
  clear hF hY hr2 z8
  obtain ⟨y0, y1, y2, y3, y4, y5, y6, y7, y8, y9, y10, y11, _, _⟩ := (HF.out).rbox
  obtain ⟨q0, q1, q2, q3, q4, q5, q6, q7, q8, q9, q10, q11, qz, _⟩ := (HF.out).rres
  have qz0 := qz 0
  have qz1 := qz 1
  have qz2 := qz 2
  have qz3 := qz 3
  have qz4 := qz 4
  have qz5 := qz 5
  have qz6 := qz 6
  have qz7 := qz 7
  have qz8 := qz 8
  have qz9 := qz 9
  have qz10 := qz 10
  have qz11 := qz 11
  clear qz
  go_wp2_with fail
  rw [put12_def]
  obtain ⟨d1, d2, d3⟩ := (HF.out).done
  obtain ⟨z0, z1, z2, z3, z4, z5, z6, z7, z8, z9, z10, z11, _, _⟩ := d3
  generalize put12 wY b2 S r2 s = w9 at *
  refine bodyPost_ret (v := .tuple #[.agg (s.cells S r2), .string pc, .int .i64 0]) (by simp [results, Try.results32, go_sem, z0, z1, z2, z3, z4, z5, z6, z7, z8, z9, z10, z11]) rfl ?_
  obtain rfl := HN.out
  obtain rfl := HPC.out
  exact ⟨s, rfl, rfl, d1, d2⟩
set_option maxHeartbeats 4000000 in
set_option maxRecDepth 100000 in
theorem readF1 (h : RefAt w S r s) (n : ByteArray) (m : Int) (hf : Fewer S r) (i : Nat) (p : RStrm) (hpi : r.opn[i]? = some p) (hp : rplace 1 n r.opn = (i : Int)) (hm : ¬ m < 1) (hx : (lookX 2 n S.fails).isSome = false) (hn : n ≠ dash) (htk : p.taken ≤ p.source.size) (hsz : p.source.size ≤ 1000000000) (hle : m < ((p.source.size - p.taken : Nat) : Int)) :
    Calls Try.prog 32 #[.agg (s.cells S r), .int .u8 1, .string n, .int .i64 m] w fun x w' => ∃ s', x = .returned (.tuple #[.agg (s'.cells S (tookO r i p ((p.source.extract p.taken p.source.size).extract 0 m.toNat))), .string ((p.source.extract p.taken p.source.size).extract 0 m.toNat), .int .i64 0]) ∧ s'.scr = s.scr ∧ RefAt w' S (tookO r i p ((p.source.extract p.taken p.source.size).extract 0 m.toNat)) s' ∧ Below w.heap.size w w' := by
  have hzo : r.opn.length ≤ 1000000 := by have := hf.opn; omega
  have hzx := hf.fails
  have HP := Lib.hid hp
  clear hp
  have hpl' : ¬ (i : Int) < 0 := by omega
  have HX := Lib.hid hx
  clear hx
  have hdn : (n.toList == [45]) = false := by rw [← dash_list]; exact toList_ne hn
  clear hn
  obtain ⟨g, hg, hc0⟩ := h.ro.at lenS hpi
  obtain ⟨oa1, ca1, oR1, cR1, oX1, cX1, oF1, cF1, oO1, cO1, oE1, cE1⟩ := s
  dsimp only at hg
  subst hg
  obtain ⟨s, hs⟩ : ∃ x : Shp, x = ⟨oa1, ca1, oR1, cR1, oX1, cX1, oF1, cF1, some ⟨g, 0, none⟩, cO1, oE1, cE1⟩ := ⟨_, rfl⟩
  rw [← hs] at h ⊢
  have hsO : s.oO = some ⟨g, 0, none⟩ := by rw [hs]
  have HSO := Lib.hid hsO
  have HC0 := Lib.hid hc0
  clear hs hsO hc0
  obtain ⟨i0, zz0, hi, hz0, hsz, hby, hzs⟩ := stream_info
  have HI := Lib.hid (⟨hi, hz0, hsz, hby, hzs⟩ : _ ∧ _ ∧ _ ∧ _ ∧ _)
  clear hi hz0 hsz hby hzs
  have hR := Run.two h
  go_enter Try.func32, Try.ntmps32
  go_upto_region 1 with fail
  obtain ⟨wA, hA⟩ : ∃ wA, wA = (w.alloc (.cells (s.cells S r) 38)).alloc (.cells #[.slice none 0 0, .string ⟨#[]⟩, .slice none 0 0, .slice none 0 0, .int .i64 0, .int .i64 0, .int .u64 0, .slice none 0 0, .int .i64 0, .slice none 0 0, .int .u64 0, .slice none 0 0] 38) := ⟨_, rfl⟩
  rw [← hA] at hR ⊢
  clear hA
  generalize w.heap.size + 1 = b2 at *
  generalize w.heap.size = b0 at hR ⊢
  have HR := Lib.hid (⟨h, hR⟩ : _ ∧ _)
  clear h hR
  obtain ⟨y0, y1, y2, y3, y4, y5, y6, y7, y8, y9, y10, y11, _, _⟩ := (HR.out.2).rbox
  go_upto_region 14 with (first
    | (go_at_call 49; refine (failsRef H1.out.ref 2 n hzx).mono ?_; rintro e w2 ⟨rfl, hbb⟩; rw [HX.out]; have hRR := (H1.out).later hbb; obtain ⟨y0, y1, y2, y3, y4, y5, y6, y7, y8, y9, y10, y11, _, _⟩ := hRR.rbox; have H2 := Lib.hid hRR; clear hRR hbb)
    | (go_at_call 15; refine (findRef HR.out.2.ref 1 n hzo).mono ?_; rintro e w1 ⟨rfl, hbb⟩; rw [HP.out]; have hRR := (HR.out.2).later hbb; obtain ⟨y0, y1, y2, y3, y4, y5, y6, y7, y8, y9, y10, y11, _, _⟩ := hRR.rbox; have H1 := Lib.hid hRR; clear hRR hbb))
  have ht0 : (0 : Int) ≤ (p.taken : Int) := by omega
  have ht1 : (p.taken : Int) ≤ (p.source.size : Int) := by omega
  have hil : (i : Int) < (r.opn.length : Int) := by have := (List.getElem?_eq_some_iff.1 hpi).1; omega
  have e2 : w2.cell? ⟨g, i * 4 + 2, none⟩ = some (.string p.source) := by
    have q := HC0.out 2 (by decide)
    exact (H2.out.below.cell (cell_lt q)).trans q
  have e3 : w2.cell? ⟨g, i * 4 + 3, none⟩ = some (.int .i64 (p.taken : Int)) := by
    have q := HC0.out 3 (by decide)
    exact (H2.out.below.cell (cell_lt q)).trans q
  rw [HSO.out] at y9
  go_quiet (fail)
  obtain ⟨wD, hD⟩ : ∃ wD, wD = w2.drewN nq := ⟨_, rfl⟩
  have hRD : Run w wD S r s b0 b2 := by rw [hD]; exact H2.out.later (below_drewN (Below.refl _ _) nq)
  rw [← hD]
  have HD := Lib.hid hRD
  clear hD hRD e2 e3 y9
  go_upto_region 17 with fail
  obtain ⟨pc, hpc⟩ : ∃ x, x = (p.source.extract p.taken p.source.size).extract 0 m.toNat := ⟨_, rfl⟩
  rw [← hpc]
  have hpz : pc.size ≤ p.source.size := by rw [hpc]; simp only [ByteArray.size_extract]; omega
  have hpi2 : (pc.size : Int) ≤ 1000000000 := by omega
  have hti : (p.taken : Int) ≤ 1000000000 := by omega
  have HPC := Lib.hid hpc
  have HPI := Lib.hid hpi
  clear hpc hpi
  have y9 := HD.out.rbox.c9
  go_upto_region 18 with fail
  go_cut [14] from 84 to 87 (fun sx wx => OwnS wx wD.heap.size sx r.opn ∧ Below wD.heap.size wD wx)
  case first =>
    by_cases hE : r.opn = []
    · have hl : r.opn.length = 0 := by rw [hE]; rfl
      have hcE := (HD.out.ref.ro).nilCap
      rw [hl] at y9
      have HE0 := Lib.hid hE
      clear hl hE
      obtain ⟨og, hog⟩ : ∃ x, x = s.oO := ⟨_, rfl⟩
      obtain ⟨cg, hcg⟩ : ∃ x, x = s.cO := ⟨_, rfl⟩
      rw [← hog, ← hcg] at y9 hcE
      clear hog hcg
      rcases og with _ | ad
      · obtain rfl := hcE rfl
        go_wp2_with fail
        go_meet
        exact ⟨by rw [HE0.out]; exact own_nil _ _ _ _, Below.refl _ _⟩
      · go_wp2_with fail
        go_meet
        exact ⟨by rw [HE0.out]; exact own_nil _ _ _ _, Below.refl _ _⟩
    · obtain ⟨x0, hx0⟩ : ∃ x0, r.opn[0]? = some x0 := by
        cases hr : r.opn with
        | nil => exact absurd hr hE
        | cons x l => exact ⟨x, rfl⟩
      have hpos : 0 < r.opn.length := List.length_pos_iff.2 hE
      have hall := HD.out.ref.ro
      obtain ⟨og, hog⟩ : ∃ x, x = s.oO := ⟨_, rfl⟩
      obtain ⟨cg, hcg⟩ : ∃ x, x = s.cO := ⟨_, rfl⟩
      rw [← hog, ← hcg] at y9 hall
      clear hog hcg
      obtain ⟨g, rfl, _⟩ := hall.at lenS hx0
      have HAL := Lib.hid hall
      clear hE hx0 hall
      go_wp2_with (at_builtin; refine wpList_append_lies _ rfl (.tmp 84) (.tmp 86) 35 rfl wD.heap.size 109 i0 zz0 4 48 Try.underlying35 HI.out.1 HI.out.2.1 HI.out.2.2.1 HI.out.2.2.2.1 HI.out.2.2.2.2 (by decide) (.slice none 0 0) 0 [] rfl (World.ownsRow_nil _ _ _ _) ⟨g, 0, none⟩ r.opn.length cg (flatL RStrm.cells r.opn) rfl (flatL_length lenS _) ((HAL.out).all lenS rfl) (flatL_one oneS _) hpos (by unfold maxLen; omega) (by omega) (Nat.le_refl _) _ rfl ?_; intro g2 cap2 w4 hown hgrow hat hlt4; rw [Nat.zero_add] at hown ⊢; have HO := Lib.hid (⟨hown, (Below.refl wD.heap.size wD).grown hgrow (Nat.le_refl _) (fun k hk => by cases hk)⟩ : _ ∧ _); clear hown hgrow hat hlt4)
      go_meet
      exact ⟨HO.out.1, HO.out.2⟩
  case rest =>
    obtain ⟨hI2, hb2'⟩ := hcut
    obtain ⟨oo, co, rfl, _⟩ := hI2.shape
    obtain ⟨g2, rfl, hc2⟩ := hI2.at lenS HPI.out
    have f3 : wc.cell? ⟨g2, i * 4 + 3, none⟩ = some (.int .i64 (p.taken : Int)) := hc2 3 (by decide)
    have fz := World.ownsRow.frozenAt hI2 (i * 4 + 3)
    have hg2 : wD.heap.size ≤ g2 := (hI2.lt g2 rfl).1
    have hI3 := Own.taken hI2 HPI.out (p.taken + pc.size)
    have hcast : ((p.taken + pc.size : Nat) : Int) = (p.taken : Int) + (pc.size : Int) := by push_cast; rfl
    rw [hcast] at hI3
    have HI3 := Lib.hid (⟨hI3, hb2', hg2⟩ : _ ∧ _ ∧ _)
    clear hI2 hb2' hg2 hI3 hc2 hcast
    go_upto_region 20 with fail
    obtain ⟨wE, hE⟩ : ∃ wE, wE = wc.setCell ⟨g2, i * 4 + 3, none⟩ (.int .i64 ((p.taken : Int) + (pc.size : Int))) := ⟨_, rfl⟩
    have hOE := HI3.out.1
    have hbE : Below wD.heap.size wD wE := by rw [hE]; exact below_set HI3.out.2.1 HI3.out.2.2 _ _
    have hRE := HD.out.later hbE
    rw [← hE] at hOE ⊢
    have z9 := hRE.rbox.z 9
    have x9 := hRE.rbox.c9
    have hlen : (tookO r i p pc).opn.length = r.opn.length := by show (r.opn.set i _).length = _; rw [List.length_set]
    obtain ⟨s2, hs2⟩ : ∃ x : Shp, x = { s with oO := some ⟨g2, 0, none⟩, cO := co } := ⟨_, rfl⟩
    have hF := hRE.field (i := 9) (v := .slice (some ⟨g2, 0, none⟩) r.opn.length co) (r' := tookO r i p pc) (s' := s2) (by rw [hs2, ← hlen]; rfl) ⟨by rw [hs2]; exact hRE.ref.rr, by rw [hs2]; exact hRE.ref.rx, by rw [hs2]; exact hRE.ref.rf, by rw [hs2, hlen]; exact Own.base hOE (Nat.zero_le _), by rw [hs2]; exact hRE.ref.re, by rw [hs2]; exact hRE.ref.gh.setO (rows_okb hOE HD.out.ref.gh.bs) _⟩ (by rw [hs2]; rfl)
    have hsc : s2.scr = s.scr := by rw [hs2]; rfl
    clear hs2 hlen hOE hbE hRE f3 fz hE
    go_upto_region 21 with fail
    obtain ⟨wY, hY⟩ : ∃ wY, wY = wE.setCell ⟨b0, 9, none⟩ (.slice (some ⟨g2, 0, none⟩) r.opn.length co) := ⟨_, rfl⟩
    obtain ⟨r2, hr2⟩ : ∃ x : RSt, x = tookO r i p pc := ⟨_, rfl⟩
    rw [← hr2] at hF
    rw [← hY] at hF ⊢
    have HF := Lib.hid hF
    have HN := Lib.hid (⟨hr2, hsc⟩ : _ ∧ _)
    clear hF hY hr2 hsc z9 x9 y9
    obtain ⟨y0, y1, y2, y3, y4, y5, y6, y7, y8, y9, y10, y11, _, _⟩ := (HF.out).rbox
    obtain ⟨q0, q1, q2, q3, q4, q5, q6, q7, q8, q9, q10, q11, qz, _⟩ := (HF.out).rres
    have qz0 := qz 0
    have qz1 := qz 1
    have qz2 := qz 2
    have qz3 := qz 3
    have qz4 := qz 4
    have qz5 := qz 5
    have qz6 := qz 6
    have qz7 := qz 7
    have qz8 := qz 8
    have qz9 := qz 9
    have qz10 := qz 10
    have qz11 := qz 11
    clear qz
    go_wp2_with fail
    rw [put12_def]
    obtain ⟨d1, d2, d3⟩ := (HF.out).done
    obtain ⟨z0, z1, z2, z3, z4, z5, z6, z7, z8, z9, z10, z11, _, _⟩ := d3
    generalize put12 wY b2 S r2 s2 = w9 at *
    refine bodyPost_ret (v := .tuple #[.agg (s2.cells S r2), .string pc, .int .i64 0]) (by simp [results, Try.results32, go_sem, z0, z1, z2, z3, z4, z5, z6, z7, z8, z9, z10, z11]) rfl ?_
    obtain rfl := HN.out.1
    obtain rfl := HPC.out
    exact ⟨s2, rfl, HN.out.2, d1, d2⟩
set_option maxHeartbeats 4000000 in
set_option maxRecDepth 100000 in
theorem readG1 (h : RefAt w S r s) (n : ByteArray) (m : Int) (hf : Fewer S r) (i : Nat) (p : RStrm) (hpi : r.opn[i]? = some p) (hp : rplace 1 n r.opn = (i : Int)) (hm : ¬ m < 1) (hx : (lookX 2 n S.fails).isSome = false) (hn : n ≠ dash) (htk : p.taken ≤ p.source.size) (hsz : p.source.size ≤ 1000000000) (hle : ¬ m < ((p.source.size - p.taken : Nat) : Int)) :
    Calls Try.prog 32 #[.agg (s.cells S r), .int .u8 1, .string n, .int .i64 m] w fun x w' => ∃ s', x = .returned (.tuple #[.agg (s'.cells S (tookO r i p (p.source.extract p.taken p.source.size))), .string (p.source.extract p.taken p.source.size), .int .i64 0]) ∧ s'.scr = s.scr ∧ RefAt w' S (tookO r i p (p.source.extract p.taken p.source.size)) s' ∧ Below w.heap.size w w' := by
  have hzo : r.opn.length ≤ 1000000 := by have := hf.opn; omega
  have hzx := hf.fails
  have HP := Lib.hid hp
  clear hp
  have hpl' : ¬ (i : Int) < 0 := by omega
  have HX := Lib.hid hx
  clear hx
  have hdn : (n.toList == [45]) = false := by rw [← dash_list]; exact toList_ne hn
  clear hn
  obtain ⟨g, hg, hc0⟩ := h.ro.at lenS hpi
  obtain ⟨oa1, ca1, oR1, cR1, oX1, cX1, oF1, cF1, oO1, cO1, oE1, cE1⟩ := s
  dsimp only at hg
  subst hg
  obtain ⟨s, hs⟩ : ∃ x : Shp, x = ⟨oa1, ca1, oR1, cR1, oX1, cX1, oF1, cF1, some ⟨g, 0, none⟩, cO1, oE1, cE1⟩ := ⟨_, rfl⟩
  rw [← hs] at h ⊢
  have hsO : s.oO = some ⟨g, 0, none⟩ := by rw [hs]
  have HSO := Lib.hid hsO
  have HC0 := Lib.hid hc0
  clear hs hsO hc0
  obtain ⟨i0, zz0, hi, hz0, hsz, hby, hzs⟩ := stream_info
  have HI := Lib.hid (⟨hi, hz0, hsz, hby, hzs⟩ : _ ∧ _ ∧ _ ∧ _ ∧ _)
  clear hi hz0 hsz hby hzs
  have hR := Run.two h
  go_enter Try.func32, Try.ntmps32
  go_upto_region 1 with fail
  obtain ⟨wA, hA⟩ : ∃ wA, wA = (w.alloc (.cells (s.cells S r) 38)).alloc (.cells #[.slice none 0 0, .string ⟨#[]⟩, .slice none 0 0, .slice none 0 0, .int .i64 0, .int .i64 0, .int .u64 0, .slice none 0 0, .int .i64 0, .slice none 0 0, .int .u64 0, .slice none 0 0] 38) := ⟨_, rfl⟩
  rw [← hA] at hR ⊢
  clear hA
  generalize w.heap.size + 1 = b2 at *
  generalize w.heap.size = b0 at hR ⊢
  have HR := Lib.hid (⟨h, hR⟩ : _ ∧ _)
  clear h hR
  obtain ⟨y0, y1, y2, y3, y4, y5, y6, y7, y8, y9, y10, y11, _, _⟩ := (HR.out.2).rbox
  go_upto_region 14 with (first
    | (go_at_call 49; refine (failsRef H1.out.ref 2 n hzx).mono ?_; rintro e w2 ⟨rfl, hbb⟩; rw [HX.out]; have hRR := (H1.out).later hbb; obtain ⟨y0, y1, y2, y3, y4, y5, y6, y7, y8, y9, y10, y11, _, _⟩ := hRR.rbox; have H2 := Lib.hid hRR; clear hRR hbb)
    | (go_at_call 15; refine (findRef HR.out.2.ref 1 n hzo).mono ?_; rintro e w1 ⟨rfl, hbb⟩; rw [HP.out]; have hRR := (HR.out.2).later hbb; obtain ⟨y0, y1, y2, y3, y4, y5, y6, y7, y8, y9, y10, y11, _, _⟩ := hRR.rbox; have H1 := Lib.hid hRR; clear hRR hbb))
  have ht0 : (0 : Int) ≤ (p.taken : Int) := by omega
  have ht1 : (p.taken : Int) ≤ (p.source.size : Int) := by omega
  have hil : (i : Int) < (r.opn.length : Int) := by have := (List.getElem?_eq_some_iff.1 hpi).1; omega
  have e2 : w2.cell? ⟨g, i * 4 + 2, none⟩ = some (.string p.source) := by
    have q := HC0.out 2 (by decide)
    exact (H2.out.below.cell (cell_lt q)).trans q
  have e3 : w2.cell? ⟨g, i * 4 + 3, none⟩ = some (.int .i64 (p.taken : Int)) := by
    have q := HC0.out 3 (by decide)
    exact (H2.out.below.cell (cell_lt q)).trans q
  rw [HSO.out] at y9
  go_quiet (fail)
  obtain ⟨wD, hD⟩ : ∃ wD, wD = w2.drewN nq := ⟨_, rfl⟩
  have hRD : Run w wD S r s b0 b2 := by rw [hD]; exact H2.out.later (below_drewN (Below.refl _ _) nq)
  rw [← hD]
  have HD := Lib.hid hRD
  clear hD hRD e2 e3 y9
  go_upto_region 17 with fail
  obtain ⟨pc, hpc⟩ : ∃ x, x = p.source.extract p.taken p.source.size := ⟨_, rfl⟩
  rw [← hpc]
  have hpz : pc.size ≤ p.source.size := by rw [hpc]; simp only [ByteArray.size_extract]; omega
  have hpi2 : (pc.size : Int) ≤ 1000000000 := by omega
  have hti : (p.taken : Int) ≤ 1000000000 := by omega
  have HPC := Lib.hid hpc
  have HPI := Lib.hid hpi
  clear hpc hpi
  have y9 := HD.out.rbox.c9
  go_upto_region 18 with fail
  go_cut [14] from 84 to 87 (fun sx wx => OwnS wx wD.heap.size sx r.opn ∧ Below wD.heap.size wD wx)
  case first =>
    by_cases hE : r.opn = []
    · have hl : r.opn.length = 0 := by rw [hE]; rfl
      have hcE := (HD.out.ref.ro).nilCap
      rw [hl] at y9
      have HE0 := Lib.hid hE
      clear hl hE
      obtain ⟨og, hog⟩ : ∃ x, x = s.oO := ⟨_, rfl⟩
      obtain ⟨cg, hcg⟩ : ∃ x, x = s.cO := ⟨_, rfl⟩
      rw [← hog, ← hcg] at y9 hcE
      clear hog hcg
      rcases og with _ | ad
      · obtain rfl := hcE rfl
        go_wp2_with fail
        go_meet
        exact ⟨by rw [HE0.out]; exact own_nil _ _ _ _, Below.refl _ _⟩
      · go_wp2_with fail
        go_meet
        exact ⟨by rw [HE0.out]; exact own_nil _ _ _ _, Below.refl _ _⟩
    · obtain ⟨x0, hx0⟩ : ∃ x0, r.opn[0]? = some x0 := by
        cases hr : r.opn with
        | nil => exact absurd hr hE
        | cons x l => exact ⟨x, rfl⟩
      have hpos : 0 < r.opn.length := List.length_pos_iff.2 hE
      have hall := HD.out.ref.ro
      obtain ⟨og, hog⟩ : ∃ x, x = s.oO := ⟨_, rfl⟩
      obtain ⟨cg, hcg⟩ : ∃ x, x = s.cO := ⟨_, rfl⟩
      rw [← hog, ← hcg] at y9 hall
      clear hog hcg
      obtain ⟨g, rfl, _⟩ := hall.at lenS hx0
      have HAL := Lib.hid hall
      clear hE hx0 hall
      go_wp2_with (at_builtin; refine wpList_append_lies _ rfl (.tmp 84) (.tmp 86) 35 rfl wD.heap.size 109 i0 zz0 4 48 Try.underlying35 HI.out.1 HI.out.2.1 HI.out.2.2.1 HI.out.2.2.2.1 HI.out.2.2.2.2 (by decide) (.slice none 0 0) 0 [] rfl (World.ownsRow_nil _ _ _ _) ⟨g, 0, none⟩ r.opn.length cg (flatL RStrm.cells r.opn) rfl (flatL_length lenS _) ((HAL.out).all lenS rfl) (flatL_one oneS _) hpos (by unfold maxLen; omega) (by omega) (Nat.le_refl _) _ rfl ?_; intro g2 cap2 w4 hown hgrow hat hlt4; rw [Nat.zero_add] at hown ⊢; have HO := Lib.hid (⟨hown, (Below.refl wD.heap.size wD).grown hgrow (Nat.le_refl _) (fun k hk => by cases hk)⟩ : _ ∧ _); clear hown hgrow hat hlt4)
      go_meet
      exact ⟨HO.out.1, HO.out.2⟩
  case rest =>
    obtain ⟨hI2, hb2'⟩ := hcut
    obtain ⟨oo, co, rfl, _⟩ := hI2.shape
    obtain ⟨g2, rfl, hc2⟩ := hI2.at lenS HPI.out
    have f3 : wc.cell? ⟨g2, i * 4 + 3, none⟩ = some (.int .i64 (p.taken : Int)) := hc2 3 (by decide)
    have fz := World.ownsRow.frozenAt hI2 (i * 4 + 3)
    have hg2 : wD.heap.size ≤ g2 := (hI2.lt g2 rfl).1
    have hI3 := Own.taken hI2 HPI.out (p.taken + pc.size)
    have hcast : ((p.taken + pc.size : Nat) : Int) = (p.taken : Int) + (pc.size : Int) := by push_cast; rfl
    rw [hcast] at hI3
    have HI3 := Lib.hid (⟨hI3, hb2', hg2⟩ : _ ∧ _ ∧ _)
    clear hI2 hb2' hg2 hI3 hc2 hcast
    go_upto_region 20 with fail
    obtain ⟨wE, hE⟩ : ∃ wE, wE = wc.setCell ⟨g2, i * 4 + 3, none⟩ (.int .i64 ((p.taken : Int) + (pc.size : Int))) := ⟨_, rfl⟩
    have hOE := HI3.out.1
    have hbE : Below wD.heap.size wD wE := by rw [hE]; exact below_set HI3.out.2.1 HI3.out.2.2 _ _
    have hRE := HD.out.later hbE
    rw [← hE] at hOE ⊢
    have z9 := hRE.rbox.z 9
    have x9 := hRE.rbox.c9
    have hlen : (tookO r i p pc).opn.length = r.opn.length := by show (r.opn.set i _).length = _; rw [List.length_set]
    obtain ⟨s2, hs2⟩ : ∃ x : Shp, x = { s with oO := some ⟨g2, 0, none⟩, cO := co } := ⟨_, rfl⟩
    have hF := hRE.field (i := 9) (v := .slice (some ⟨g2, 0, none⟩) r.opn.length co) (r' := tookO r i p pc) (s' := s2) (by rw [hs2, ← hlen]; rfl) ⟨by rw [hs2]; exact hRE.ref.rr, by rw [hs2]; exact hRE.ref.rx, by rw [hs2]; exact hRE.ref.rf, by rw [hs2, hlen]; exact Own.base hOE (Nat.zero_le _), by rw [hs2]; exact hRE.ref.re, by rw [hs2]; exact hRE.ref.gh.setO (rows_okb hOE HD.out.ref.gh.bs) _⟩ (by rw [hs2]; rfl)
    have hsc : s2.scr = s.scr := by rw [hs2]; rfl
    clear hs2 hlen hOE hbE hRE f3 fz hE
    go_upto_region 21 with fail
    obtain ⟨wY, hY⟩ : ∃ wY, wY = wE.setCell ⟨b0, 9, none⟩ (.slice (some ⟨g2, 0, none⟩) r.opn.length co) := ⟨_, rfl⟩
    obtain ⟨r2, hr2⟩ : ∃ x : RSt, x = tookO r i p pc := ⟨_, rfl⟩
    rw [← hr2] at hF
    rw [← hY] at hF ⊢
    have HF := Lib.hid hF
    have HN := Lib.hid (⟨hr2, hsc⟩ : _ ∧ _)
    clear hF hY hr2 hsc z9 x9 y9
    obtain ⟨y0, y1, y2, y3, y4, y5, y6, y7, y8, y9, y10, y11, _, _⟩ := (HF.out).rbox
    obtain ⟨q0, q1, q2, q3, q4, q5, q6, q7, q8, q9, q10, q11, qz, _⟩ := (HF.out).rres
    have qz0 := qz 0
    have qz1 := qz 1
    have qz2 := qz 2
    have qz3 := qz 3
    have qz4 := qz 4
    have qz5 := qz 5
    have qz6 := qz 6
    have qz7 := qz 7
    have qz8 := qz 8
    have qz9 := qz 9
    have qz10 := qz 10
    have qz11 := qz 11
    clear qz
    go_wp2_with fail
    rw [put12_def]
    obtain ⟨d1, d2, d3⟩ := (HF.out).done
    obtain ⟨z0, z1, z2, z3, z4, z5, z6, z7, z8, z9, z10, z11, _, _⟩ := d3
    generalize put12 wY b2 S r2 s2 = w9 at *
    refine bodyPost_ret (v := .tuple #[.agg (s2.cells S r2), .string pc, .int .i64 0]) (by simp [results, Try.results32, go_sem, z0, z1, z2, z3, z4, z5, z6, z7, z8, z9, z10, z11]) rfl ?_
    obtain rfl := HN.out.1
    obtain rfl := HPC.out
    exact ⟨s2, rfl, HN.out.2, d1, d2⟩
set_option maxHeartbeats 4000000 in
set_option maxRecDepth 100000 in
theorem readF2 (h : RefAt w S r s) (n : ByteArray) (m : Int) (hf : Fewer S r) (i : Nat) (p : RStrm) (hpi : r.opn[i]? = some p) (hp : rplace 2 n r.opn = (i : Int)) (hm : ¬ m < 1) (hx : (lookX 2 n S.fails).isSome = false) (htk : p.taken ≤ p.source.size) (hsz : p.source.size ≤ 1000000000) (hle : m < ((p.source.size - p.taken : Nat) : Int)) :
    Calls Try.prog 32 #[.agg (s.cells S r), .int .u8 2, .string n, .int .i64 m] w fun x w' => ∃ s', x = .returned (.tuple #[.agg (s'.cells S (tookO r i p ((p.source.extract p.taken p.source.size).extract 0 m.toNat))), .string ((p.source.extract p.taken p.source.size).extract 0 m.toNat), .int .i64 0]) ∧ s'.scr = s.scr ∧ RefAt w' S (tookO r i p ((p.source.extract p.taken p.source.size).extract 0 m.toNat)) s' ∧ Below w.heap.size w w' := by
  have hzo : r.opn.length ≤ 1000000 := by have := hf.opn; omega
  have hzx := hf.fails
  have HP := Lib.hid hp
  clear hp
  have hpl' : ¬ (i : Int) < 0 := by omega
  have HX := Lib.hid hx
  clear hx
  obtain ⟨g, hg, hc0⟩ := h.ro.at lenS hpi
  obtain ⟨oa1, ca1, oR1, cR1, oX1, cX1, oF1, cF1, oO1, cO1, oE1, cE1⟩ := s
  dsimp only at hg
  subst hg
  obtain ⟨s, hs⟩ : ∃ x : Shp, x = ⟨oa1, ca1, oR1, cR1, oX1, cX1, oF1, cF1, some ⟨g, 0, none⟩, cO1, oE1, cE1⟩ := ⟨_, rfl⟩
  rw [← hs] at h ⊢
  have hsO : s.oO = some ⟨g, 0, none⟩ := by rw [hs]
  have HSO := Lib.hid hsO
  have HC0 := Lib.hid hc0
  clear hs hsO hc0
  obtain ⟨i0, zz0, hi, hz0, hsz, hby, hzs⟩ := stream_info
  have HI := Lib.hid (⟨hi, hz0, hsz, hby, hzs⟩ : _ ∧ _ ∧ _ ∧ _ ∧ _)
  clear hi hz0 hsz hby hzs
  have hR := Run.two h
  go_enter Try.func32, Try.ntmps32
  go_upto_region 1 with fail
  obtain ⟨wA, hA⟩ : ∃ wA, wA = (w.alloc (.cells (s.cells S r) 38)).alloc (.cells #[.slice none 0 0, .string ⟨#[]⟩, .slice none 0 0, .slice none 0 0, .int .i64 0, .int .i64 0, .int .u64 0, .slice none 0 0, .int .i64 0, .slice none 0 0, .int .u64 0, .slice none 0 0] 38) := ⟨_, rfl⟩
  rw [← hA] at hR ⊢
  clear hA
  generalize w.heap.size + 1 = b2 at *
  generalize w.heap.size = b0 at hR ⊢
  have HR := Lib.hid (⟨h, hR⟩ : _ ∧ _)
  clear h hR
  obtain ⟨y0, y1, y2, y3, y4, y5, y6, y7, y8, y9, y10, y11, _, _⟩ := (HR.out.2).rbox
  go_upto_region 14 with (first
    | (go_at_call 49; refine (failsRef H1.out.ref 2 n hzx).mono ?_; rintro e w2 ⟨rfl, hbb⟩; rw [HX.out]; have hRR := (H1.out).later hbb; obtain ⟨y0, y1, y2, y3, y4, y5, y6, y7, y8, y9, y10, y11, _, _⟩ := hRR.rbox; have H2 := Lib.hid hRR; clear hRR hbb)
    | (go_at_call 15; refine (findRef HR.out.2.ref 2 n hzo).mono ?_; rintro e w1 ⟨rfl, hbb⟩; rw [HP.out]; have hRR := (HR.out.2).later hbb; obtain ⟨y0, y1, y2, y3, y4, y5, y6, y7, y8, y9, y10, y11, _, _⟩ := hRR.rbox; have H1 := Lib.hid hRR; clear hRR hbb))
  have ht0 : (0 : Int) ≤ (p.taken : Int) := by omega
  have ht1 : (p.taken : Int) ≤ (p.source.size : Int) := by omega
  have hil : (i : Int) < (r.opn.length : Int) := by have := (List.getElem?_eq_some_iff.1 hpi).1; omega
  have e2 : w2.cell? ⟨g, i * 4 + 2, none⟩ = some (.string p.source) := by
    have q := HC0.out 2 (by decide)
    exact (H2.out.below.cell (cell_lt q)).trans q
  have e3 : w2.cell? ⟨g, i * 4 + 3, none⟩ = some (.int .i64 (p.taken : Int)) := by
    have q := HC0.out 3 (by decide)
    exact (H2.out.below.cell (cell_lt q)).trans q
  rw [HSO.out] at y9
  go_quiet (fail)
  obtain ⟨wD, hD⟩ : ∃ wD, wD = w2.drewN nq := ⟨_, rfl⟩
  have hRD : Run w wD S r s b0 b2 := by rw [hD]; exact H2.out.later (below_drewN (Below.refl _ _) nq)
  rw [← hD]
  have HD := Lib.hid hRD
  clear hD hRD e2 e3 y9
  go_upto_region 17 with fail
  obtain ⟨pc, hpc⟩ : ∃ x, x = (p.source.extract p.taken p.source.size).extract 0 m.toNat := ⟨_, rfl⟩
  rw [← hpc]
  have hpz : pc.size ≤ p.source.size := by rw [hpc]; simp only [ByteArray.size_extract]; omega
  have hpi2 : (pc.size : Int) ≤ 1000000000 := by omega
  have hti : (p.taken : Int) ≤ 1000000000 := by omega
  have HPC := Lib.hid hpc
  have HPI := Lib.hid hpi
  clear hpc hpi
  have y9 := HD.out.rbox.c9
  go_upto_region 18 with fail
  go_cut [14] from 84 to 87 (fun sx wx => OwnS wx wD.heap.size sx r.opn ∧ Below wD.heap.size wD wx)
  case first =>
    by_cases hE : r.opn = []
    · have hl : r.opn.length = 0 := by rw [hE]; rfl
      have hcE := (HD.out.ref.ro).nilCap
      rw [hl] at y9
      have HE0 := Lib.hid hE
      clear hl hE
      obtain ⟨og, hog⟩ : ∃ x, x = s.oO := ⟨_, rfl⟩
      obtain ⟨cg, hcg⟩ : ∃ x, x = s.cO := ⟨_, rfl⟩
      rw [← hog, ← hcg] at y9 hcE
      clear hog hcg
      rcases og with _ | ad
      · obtain rfl := hcE rfl
        go_wp2_with fail
        go_meet
        exact ⟨by rw [HE0.out]; exact own_nil _ _ _ _, Below.refl _ _⟩
      · go_wp2_with fail
        go_meet
        exact ⟨by rw [HE0.out]; exact own_nil _ _ _ _, Below.refl _ _⟩
    · obtain ⟨x0, hx0⟩ : ∃ x0, r.opn[0]? = some x0 := by
        cases hr : r.opn with
        | nil => exact absurd hr hE
        | cons x l => exact ⟨x, rfl⟩
      have hpos : 0 < r.opn.length := List.length_pos_iff.2 hE
      have hall := HD.out.ref.ro
      obtain ⟨og, hog⟩ : ∃ x, x = s.oO := ⟨_, rfl⟩
      obtain ⟨cg, hcg⟩ : ∃ x, x = s.cO := ⟨_, rfl⟩
      rw [← hog, ← hcg] at y9 hall
      clear hog hcg
      obtain ⟨g, rfl, _⟩ := hall.at lenS hx0
      have HAL := Lib.hid hall
      clear hE hx0 hall
      go_wp2_with (at_builtin; refine wpList_append_lies _ rfl (.tmp 84) (.tmp 86) 35 rfl wD.heap.size 109 i0 zz0 4 48 Try.underlying35 HI.out.1 HI.out.2.1 HI.out.2.2.1 HI.out.2.2.2.1 HI.out.2.2.2.2 (by decide) (.slice none 0 0) 0 [] rfl (World.ownsRow_nil _ _ _ _) ⟨g, 0, none⟩ r.opn.length cg (flatL RStrm.cells r.opn) rfl (flatL_length lenS _) ((HAL.out).all lenS rfl) (flatL_one oneS _) hpos (by unfold maxLen; omega) (by omega) (Nat.le_refl _) _ rfl ?_; intro g2 cap2 w4 hown hgrow hat hlt4; rw [Nat.zero_add] at hown ⊢; have HO := Lib.hid (⟨hown, (Below.refl wD.heap.size wD).grown hgrow (Nat.le_refl _) (fun k hk => by cases hk)⟩ : _ ∧ _); clear hown hgrow hat hlt4)
      go_meet
      exact ⟨HO.out.1, HO.out.2⟩
  case rest =>
    obtain ⟨hI2, hb2'⟩ := hcut
    obtain ⟨oo, co, rfl, _⟩ := hI2.shape
    obtain ⟨g2, rfl, hc2⟩ := hI2.at lenS HPI.out
    have f3 : wc.cell? ⟨g2, i * 4 + 3, none⟩ = some (.int .i64 (p.taken : Int)) := hc2 3 (by decide)
    have fz := World.ownsRow.frozenAt hI2 (i * 4 + 3)
    have hg2 : wD.heap.size ≤ g2 := (hI2.lt g2 rfl).1
    have hI3 := Own.taken hI2 HPI.out (p.taken + pc.size)
    have hcast : ((p.taken + pc.size : Nat) : Int) = (p.taken : Int) + (pc.size : Int) := by push_cast; rfl
    rw [hcast] at hI3
    have HI3 := Lib.hid (⟨hI3, hb2', hg2⟩ : _ ∧ _ ∧ _)
    clear hI2 hb2' hg2 hI3 hc2 hcast
    go_upto_region 20 with fail
    obtain ⟨wE, hE⟩ : ∃ wE, wE = wc.setCell ⟨g2, i * 4 + 3, none⟩ (.int .i64 ((p.taken : Int) + (pc.size : Int))) := ⟨_, rfl⟩
    have hOE := HI3.out.1
    have hbE : Below wD.heap.size wD wE := by rw [hE]; exact below_set HI3.out.2.1 HI3.out.2.2 _ _
    have hRE := HD.out.later hbE
    rw [← hE] at hOE ⊢
    have z9 := hRE.rbox.z 9
    have x9 := hRE.rbox.c9
    have hlen : (tookO r i p pc).opn.length = r.opn.length := by show (r.opn.set i _).length = _; rw [List.length_set]
    obtain ⟨s2, hs2⟩ : ∃ x : Shp, x = { s with oO := some ⟨g2, 0, none⟩, cO := co } := ⟨_, rfl⟩
    have hF := hRE.field (i := 9) (v := .slice (some ⟨g2, 0, none⟩) r.opn.length co) (r' := tookO r i p pc) (s' := s2) (by rw [hs2, ← hlen]; rfl) ⟨by rw [hs2]; exact hRE.ref.rr, by rw [hs2]; exact hRE.ref.rx, by rw [hs2]; exact hRE.ref.rf, by rw [hs2, hlen]; exact Own.base hOE (Nat.zero_le _), by rw [hs2]; exact hRE.ref.re, by rw [hs2]; exact hRE.ref.gh.setO (rows_okb hOE HD.out.ref.gh.bs) _⟩ (by rw [hs2]; rfl)
    have hsc : s2.scr = s.scr := by rw [hs2]; rfl
    clear hs2 hlen hOE hbE hRE f3 fz hE
    go_upto_region 21 with fail
    obtain ⟨wY, hY⟩ : ∃ wY, wY = wE.setCell ⟨b0, 9, none⟩ (.slice (some ⟨g2, 0, none⟩) r.opn.length co) := ⟨_, rfl⟩
    obtain ⟨r2, hr2⟩ : ∃ x : RSt, x = tookO r i p pc := ⟨_, rfl⟩
    rw [← hr2] at hF
    rw [← hY] at hF ⊢
    have HF := Lib.hid hF
    have HN := Lib.hid (⟨hr2, hsc⟩ : _ ∧ _)
    clear hF hY hr2 hsc z9 x9 y9
    obtain ⟨y0, y1, y2, y3, y4, y5, y6, y7, y8, y9, y10, y11, _, _⟩ := (HF.out).rbox
    obtain ⟨q0, q1, q2, q3, q4, q5, q6, q7, q8, q9, q10, q11, qz, _⟩ := (HF.out).rres
    have qz0 := qz 0
    have qz1 := qz 1
    have qz2 := qz 2
    have qz3 := qz 3
    have qz4 := qz 4
    have qz5 := qz 5
    have qz6 := qz 6
    have qz7 := qz 7
    have qz8 := qz 8
    have qz9 := qz 9
    have qz10 := qz 10
    have qz11 := qz 11
    clear qz
    go_wp2_with fail
    rw [put12_def]
    obtain ⟨d1, d2, d3⟩ := (HF.out).done
    obtain ⟨z0, z1, z2, z3, z4, z5, z6, z7, z8, z9, z10, z11, _, _⟩ := d3
    generalize put12 wY b2 S r2 s2 = w9 at *
    refine bodyPost_ret (v := .tuple #[.agg (s2.cells S r2), .string pc, .int .i64 0]) (by simp [results, Try.results32, go_sem, z0, z1, z2, z3, z4, z5, z6, z7, z8, z9, z10, z11]) rfl ?_
    obtain rfl := HN.out.1
    obtain rfl := HPC.out
    exact ⟨s2, rfl, HN.out.2, d1, d2⟩
set_option maxHeartbeats 4000000 in
set_option maxRecDepth 100000 in
theorem readG2 (h : RefAt w S r s) (n : ByteArray) (m : Int) (hf : Fewer S r) (i : Nat) (p : RStrm) (hpi : r.opn[i]? = some p) (hp : rplace 2 n r.opn = (i : Int)) (hm : ¬ m < 1) (hx : (lookX 2 n S.fails).isSome = false) (htk : p.taken ≤ p.source.size) (hsz : p.source.size ≤ 1000000000) (hle : ¬ m < ((p.source.size - p.taken : Nat) : Int)) :
    Calls Try.prog 32 #[.agg (s.cells S r), .int .u8 2, .string n, .int .i64 m] w fun x w' => ∃ s', x = .returned (.tuple #[.agg (s'.cells S (tookO r i p (p.source.extract p.taken p.source.size))), .string (p.source.extract p.taken p.source.size), .int .i64 0]) ∧ s'.scr = s.scr ∧ RefAt w' S (tookO r i p (p.source.extract p.taken p.source.size)) s' ∧ Below w.heap.size w w' := by
  have hzo : r.opn.length ≤ 1000000 := by have := hf.opn; omega
  have hzx := hf.fails
  have HP := Lib.hid hp
  clear hp
  have hpl' : ¬ (i : Int) < 0 := by omega
  have HX := Lib.hid hx
  clear hx
  obtain ⟨g, hg, hc0⟩ := h.ro.at lenS hpi
  obtain ⟨oa1, ca1, oR1, cR1, oX1, cX1, oF1, cF1, oO1, cO1, oE1, cE1⟩ := s
  dsimp only at hg
  subst hg
  obtain ⟨s, hs⟩ : ∃ x : Shp, x = ⟨oa1, ca1, oR1, cR1, oX1, cX1, oF1, cF1, some ⟨g, 0, none⟩, cO1, oE1, cE1⟩ := ⟨_, rfl⟩
  rw [← hs] at h ⊢
  have hsO : s.oO = some ⟨g, 0, none⟩ := by rw [hs]
  have HSO := Lib.hid hsO
  have HC0 := Lib.hid hc0
  clear hs hsO hc0
  obtain ⟨i0, zz0, hi, hz0, hsz, hby, hzs⟩ := stream_info
  have HI := Lib.hid (⟨hi, hz0, hsz, hby, hzs⟩ : _ ∧ _ ∧ _ ∧ _ ∧ _)
  clear hi hz0 hsz hby hzs
  have hR := Run.two h
  go_enter Try.func32, Try.ntmps32
  go_upto_region 1 with fail
  obtain ⟨wA, hA⟩ : ∃ wA, wA = (w.alloc (.cells (s.cells S r) 38)).alloc (.cells #[.slice none 0 0, .string ⟨#[]⟩, .slice none 0 0, .slice none 0 0, .int .i64 0, .int .i64 0, .int .u64 0, .slice none 0 0, .int .i64 0, .slice none 0 0, .int .u64 0, .slice none 0 0] 38) := ⟨_, rfl⟩
  rw [← hA] at hR ⊢
  clear hA
  generalize w.heap.size + 1 = b2 at *
  generalize w.heap.size = b0 at hR ⊢
  have HR := Lib.hid (⟨h, hR⟩ : _ ∧ _)
  clear h hR
  obtain ⟨y0, y1, y2, y3, y4, y5, y6, y7, y8, y9, y10, y11, _, _⟩ := (HR.out.2).rbox
  go_upto_region 14 with (first
    | (go_at_call 49; refine (failsRef H1.out.ref 2 n hzx).mono ?_; rintro e w2 ⟨rfl, hbb⟩; rw [HX.out]; have hRR := (H1.out).later hbb; obtain ⟨y0, y1, y2, y3, y4, y5, y6, y7, y8, y9, y10, y11, _, _⟩ := hRR.rbox; have H2 := Lib.hid hRR; clear hRR hbb)
    | (go_at_call 15; refine (findRef HR.out.2.ref 2 n hzo).mono ?_; rintro e w1 ⟨rfl, hbb⟩; rw [HP.out]; have hRR := (HR.out.2).later hbb; obtain ⟨y0, y1, y2, y3, y4, y5, y6, y7, y8, y9, y10, y11, _, _⟩ := hRR.rbox; have H1 := Lib.hid hRR; clear hRR hbb))
  have ht0 : (0 : Int) ≤ (p.taken : Int) := by omega
  have ht1 : (p.taken : Int) ≤ (p.source.size : Int) := by omega
  have hil : (i : Int) < (r.opn.length : Int) := by have := (List.getElem?_eq_some_iff.1 hpi).1; omega
  have e2 : w2.cell? ⟨g, i * 4 + 2, none⟩ = some (.string p.source) := by
    have q := HC0.out 2 (by decide)
    exact (H2.out.below.cell (cell_lt q)).trans q
  have e3 : w2.cell? ⟨g, i * 4 + 3, none⟩ = some (.int .i64 (p.taken : Int)) := by
    have q := HC0.out 3 (by decide)
    exact (H2.out.below.cell (cell_lt q)).trans q
  rw [HSO.out] at y9
  go_quiet (fail)
  obtain ⟨wD, hD⟩ : ∃ wD, wD = w2.drewN nq := ⟨_, rfl⟩
  have hRD : Run w wD S r s b0 b2 := by rw [hD]; exact H2.out.later (below_drewN (Below.refl _ _) nq)
  rw [← hD]
  have HD := Lib.hid hRD
  clear hD hRD e2 e3 y9
  go_upto_region 17 with fail
  obtain ⟨pc, hpc⟩ : ∃ x, x = p.source.extract p.taken p.source.size := ⟨_, rfl⟩
  rw [← hpc]
  have hpz : pc.size ≤ p.source.size := by rw [hpc]; simp only [ByteArray.size_extract]; omega
  have hpi2 : (pc.size : Int) ≤ 1000000000 := by omega
  have hti : (p.taken : Int) ≤ 1000000000 := by omega
  have HPC := Lib.hid hpc
  have HPI := Lib.hid hpi
  clear hpc hpi
  have y9 := HD.out.rbox.c9
  go_upto_region 18 with fail
  go_cut [14] from 84 to 87 (fun sx wx => OwnS wx wD.heap.size sx r.opn ∧ Below wD.heap.size wD wx)
  case first =>
    by_cases hE : r.opn = []
    · have hl : r.opn.length = 0 := by rw [hE]; rfl
      have hcE := (HD.out.ref.ro).nilCap
      rw [hl] at y9
      have HE0 := Lib.hid hE
      clear hl hE
      obtain ⟨og, hog⟩ : ∃ x, x = s.oO := ⟨_, rfl⟩
      obtain ⟨cg, hcg⟩ : ∃ x, x = s.cO := ⟨_, rfl⟩
      rw [← hog, ← hcg] at y9 hcE
      clear hog hcg
      rcases og with _ | ad
      · obtain rfl := hcE rfl
        go_wp2_with fail
        go_meet
        exact ⟨by rw [HE0.out]; exact own_nil _ _ _ _, Below.refl _ _⟩
      · go_wp2_with fail
        go_meet
        exact ⟨by rw [HE0.out]; exact own_nil _ _ _ _, Below.refl _ _⟩
    · obtain ⟨x0, hx0⟩ : ∃ x0, r.opn[0]? = some x0 := by
        cases hr : r.opn with
        | nil => exact absurd hr hE
        | cons x l => exact ⟨x, rfl⟩
      have hpos : 0 < r.opn.length := List.length_pos_iff.2 hE
      have hall := HD.out.ref.ro
      obtain ⟨og, hog⟩ : ∃ x, x = s.oO := ⟨_, rfl⟩
      obtain ⟨cg, hcg⟩ : ∃ x, x = s.cO := ⟨_, rfl⟩
      rw [← hog, ← hcg] at y9 hall
      clear hog hcg
      obtain ⟨g, rfl, _⟩ := hall.at lenS hx0
      have HAL := Lib.hid hall
      clear hE hx0 hall
      go_wp2_with (at_builtin; refine wpList_append_lies _ rfl (.tmp 84) (.tmp 86) 35 rfl wD.heap.size 109 i0 zz0 4 48 Try.underlying35 HI.out.1 HI.out.2.1 HI.out.2.2.1 HI.out.2.2.2.1 HI.out.2.2.2.2 (by decide) (.slice none 0 0) 0 [] rfl (World.ownsRow_nil _ _ _ _) ⟨g, 0, none⟩ r.opn.length cg (flatL RStrm.cells r.opn) rfl (flatL_length lenS _) ((HAL.out).all lenS rfl) (flatL_one oneS _) hpos (by unfold maxLen; omega) (by omega) (Nat.le_refl _) _ rfl ?_; intro g2 cap2 w4 hown hgrow hat hlt4; rw [Nat.zero_add] at hown ⊢; have HO := Lib.hid (⟨hown, (Below.refl wD.heap.size wD).grown hgrow (Nat.le_refl _) (fun k hk => by cases hk)⟩ : _ ∧ _); clear hown hgrow hat hlt4)
      go_meet
      exact ⟨HO.out.1, HO.out.2⟩
  case rest =>
    obtain ⟨hI2, hb2'⟩ := hcut
    obtain ⟨oo, co, rfl, _⟩ := hI2.shape
    obtain ⟨g2, rfl, hc2⟩ := hI2.at lenS HPI.out
    have f3 : wc.cell? ⟨g2, i * 4 + 3, none⟩ = some (.int .i64 (p.taken : Int)) := hc2 3 (by decide)
    have fz := World.ownsRow.frozenAt hI2 (i * 4 + 3)
    have hg2 : wD.heap.size ≤ g2 := (hI2.lt g2 rfl).1
    have hI3 := Own.taken hI2 HPI.out (p.taken + pc.size)
    have hcast : ((p.taken + pc.size : Nat) : Int) = (p.taken : Int) + (pc.size : Int) := by push_cast; rfl
    rw [hcast] at hI3
    have HI3 := Lib.hid (⟨hI3, hb2', hg2⟩ : _ ∧ _ ∧ _)
    clear hI2 hb2' hg2 hI3 hc2 hcast
    go_upto_region 20 with fail
    obtain ⟨wE, hE⟩ : ∃ wE, wE = wc.setCell ⟨g2, i * 4 + 3, none⟩ (.int .i64 ((p.taken : Int) + (pc.size : Int))) := ⟨_, rfl⟩
    have hOE := HI3.out.1
    have hbE : Below wD.heap.size wD wE := by rw [hE]; exact below_set HI3.out.2.1 HI3.out.2.2 _ _
    have hRE := HD.out.later hbE
    rw [← hE] at hOE ⊢
    have z9 := hRE.rbox.z 9
    have x9 := hRE.rbox.c9
    have hlen : (tookO r i p pc).opn.length = r.opn.length := by show (r.opn.set i _).length = _; rw [List.length_set]
    obtain ⟨s2, hs2⟩ : ∃ x : Shp, x = { s with oO := some ⟨g2, 0, none⟩, cO := co } := ⟨_, rfl⟩
    have hF := hRE.field (i := 9) (v := .slice (some ⟨g2, 0, none⟩) r.opn.length co) (r' := tookO r i p pc) (s' := s2) (by rw [hs2, ← hlen]; rfl) ⟨by rw [hs2]; exact hRE.ref.rr, by rw [hs2]; exact hRE.ref.rx, by rw [hs2]; exact hRE.ref.rf, by rw [hs2, hlen]; exact Own.base hOE (Nat.zero_le _), by rw [hs2]; exact hRE.ref.re, by rw [hs2]; exact hRE.ref.gh.setO (rows_okb hOE HD.out.ref.gh.bs) _⟩ (by rw [hs2]; rfl)
    have hsc : s2.scr = s.scr := by rw [hs2]; rfl
    clear hs2 hlen hOE hbE hRE f3 fz hE
    go_upto_region 21 with fail
    obtain ⟨wY, hY⟩ : ∃ wY, wY = wE.setCell ⟨b0, 9, none⟩ (.slice (some ⟨g2, 0, none⟩) r.opn.length co) := ⟨_, rfl⟩
    obtain ⟨r2, hr2⟩ : ∃ x : RSt, x = tookO r i p pc := ⟨_, rfl⟩
    rw [← hr2] at hF
    rw [← hY] at hF ⊢
    have HF := Lib.hid hF
    have HN := Lib.hid (⟨hr2, hsc⟩ : _ ∧ _)
    clear hF hY hr2 hsc z9 x9 y9
    obtain ⟨y0, y1, y2, y3, y4, y5, y6, y7, y8, y9, y10, y11, _, _⟩ := (HF.out).rbox
    obtain ⟨q0, q1, q2, q3, q4, q5, q6, q7, q8, q9, q10, q11, qz, _⟩ := (HF.out).rres
    have qz0 := qz 0
    have qz1 := qz 1
    have qz2 := qz 2
    have qz3 := qz 3
    have qz4 := qz 4
    have qz5 := qz 5
    have qz6 := qz 6
    have qz7 := qz 7
    have qz8 := qz 8
    have qz9 := qz 9
    have qz10 := qz 10
    have qz11 := qz 11
    clear qz
    go_wp2_with fail
    rw [put12_def]
    obtain ⟨d1, d2, d3⟩ := (HF.out).done
    obtain ⟨z0, z1, z2, z3, z4, z5, z6, z7, z8, z9, z10, z11, _, _⟩ := d3
    generalize put12 wY b2 S r2 s2 = w9 at *
    refine bodyPost_ret (v := .tuple #[.agg (s2.cells S r2), .string pc, .int .i64 0]) (by simp [results, Try.results32, go_sem, z0, z1, z2, z3, z4, z5, z6, z7, z8, z9, z10, z11]) rfl ?_
    obtain rfl := HN.out.1
    obtain rfl := HPC.out
    exact ⟨s2, rfl, HN.out.2, d1, d2⟩
end
end Go.Proofs.Ythbkcdbmimhhkaa.Rw
