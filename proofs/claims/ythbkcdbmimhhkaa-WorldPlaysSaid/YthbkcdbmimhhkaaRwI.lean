/-
  The document's world: writing (Write).
-/
import Derived.Test.YthbkcdbmimhhkaaRwF
namespace Go.Proofs.Ythbkcdbmimhhkaa.Rw
open Go.RowKit Go.Maps Wo

def rWriteE (S : Scpt) (r : RSt) (k : Int) (n : ByteArray) : Int := if k ≠ 6 ∧ (¬ (3 ≤ k ∧ k ≤ 5) ∨ rplace k n r.opn < 0) then 16 else if (lookX 3 (wname k n) S.fails).isSome = true then 14 else 0
def rWrote (r : RSt) (k : Int) (n d : ByteArray) : RSt := eventR (if k = 3 ∨ k = 4 then rWith r n (rData r n ++ d) else r) ⟨2, k, wname k n, d, 0⟩
def rWriteS (S : Scpt) (r : RSt) (k : Int) (n d : ByteArray) : RSt := if rWriteE S r k n = 0 ∧ d ≠ noText then rWrote r k n d else r
abbrev WritePost (w : World) (S : Scpt) (r : RSt) (s : Shp) (k : Int) (n d : ByteArray) (x : Ending) (w' : World) : Prop := ∃ s', x = .returned (.tuple #[.agg (s'.cells S (rWriteS S r k n d)), .int .i64 (rWriteE S r k n)]) ∧ s'.scr = s.scr ∧ RefAt w' S (rWriteS S r k n d) s' ∧ Below w.heap.size w w'
theorem noText_size {d : ByteArray} (h : d ≠ noText) : ¬ d.size = 0 := fun e => h (ByteArray.ext (Array.eq_empty_of_size_eq_zero e))
section
variable {w : World} {S : Scpt} {r : RSt} {s : Shp}
set_option maxHeartbeats 4000000 in
set_option maxRecDepth 100000 in
theorem writeA (h : RefAt w S r s) (k : Int) (n d : ByteArray) (hf : Fewer S r) (hk : k ≠ 6) (hk2 : ¬ (3 ≤ k ∧ k ≤ 5)) :
    Calls Try.prog 33 #[.agg (s.cells S r), .int .u8 k, .string n, .string d] w (WritePost w S r s k n d) := by
  have he : rWriteE S r k n = 16 := by unfold rWriteE; rw [if_pos ⟨hk, .inl hk2⟩]
  have hx : rWriteS S r k n d = r := if_neg fun e => by have := e.1; rw [he] at this; exact absurd this (by decide)
  unfold WritePost
  rw [he, hx]
  have hzo : r.opn.length ≤ 1000000 := by have := hf.opn; omega
  have hzf := hf.files
  have hzx := hf.fails
  have hze := hf.events
  have hb6 : (k == 6) = false := beq_eq_false_iff_ne.2 hk
  have hb3 : (k == 3) = false := beq_eq_false_iff_ne.2 (by omega)
  have hb4 : (k == 4) = false := beq_eq_false_iff_ne.2 (by omega)
  have hb5 : (k == 5) = false := beq_eq_false_iff_ne.2 (by omega)
  have hn3 : ¬ k = 3 := by omega
  have hn4 : ¬ k = 4 := by omega
  have hn5 : ¬ k = 5 := by omega
  clear hk2
  clear he hx
  have hR := Run.two h
  go_enter Try.func33, Try.ntmps33
  go_upto_region 1 with fail
  obtain ⟨wA, hA⟩ : ∃ wA, wA = (w.alloc (.cells (s.cells S r) 38)).alloc (.cells #[.slice none 0 0, .string ⟨#[]⟩, .slice none 0 0, .slice none 0 0, .int .i64 0, .int .i64 0, .int .u64 0, .slice none 0 0, .int .i64 0, .slice none 0 0, .int .u64 0, .slice none 0 0] 38) := ⟨_, rfl⟩
  rw [← hA] at hR ⊢
  clear hA
  generalize w.heap.size + 1 = b2 at *
  generalize w.heap.size = b0 at hR ⊢
  have HR := Lib.hid (⟨h, hR⟩ : _ ∧ _)
  clear h hR
  obtain ⟨y0, y1, y2, y3, y4, y5, y6, y7, y8, y9, y10, y11, _, _⟩ := (HR.out.2).rbox
  go_upto_region 4 with fail
  obtain ⟨y0, y1, y2, y3, y4, y5, y6, y7, y8, y9, y10, y11, _, _⟩ := (HR.out.2).rbox
  obtain ⟨q0, q1, q2, q3, q4, q5, q6, q7, q8, q9, q10, q11, qz, _⟩ := (HR.out.2).rres
  have qz0 := qz 0
  have qz1 := qz 1
  have qz2 := qz 2
  have qz3 := qz 3
  have qz4 := qz 4
  have qz5 := qz 5
  have qz6 := qz 6
  have qz7 := qz 7
  have qz8 := qz 8
  have qz9 := qz 9
  have qz10 := qz 10
  have qz11 := qz 11
  clear qz
  go_wp2_with fail
  rw [put12_def]
  obtain ⟨d1, d2, d3⟩ := (HR.out.2).done
  obtain ⟨z0, z1, z2, z3, z4, z5, z6, z7, z8, z9, z10, z11, _, _⟩ := d3
  generalize put12 wA b2 S r s = w9 at *
  refine bodyPost_ret (v := .tuple #[.agg (s.cells S r), .int .i64 16]) (by simp [results, Try.results33, go_sem, z0, z1, z2, z3, z4, z5, z6, z7, z8, z9, z10, z11]) rfl ?_
  exact ⟨s, rfl, rfl, d1, d2⟩
set_option maxHeartbeats 4000000 in
set_option maxRecDepth 100000 in
theorem writeB3 (h : RefAt w S r s) (n d : ByteArray) (hf : Fewer S r) (hp : rplace 3 n r.opn < 0) :
    Calls Try.prog 33 #[.agg (s.cells S r), .int .u8 3, .string n, .string d] w (WritePost w S r s 3 n d) := by
  have he : rWriteE S r 3 n = 16 := by unfold rWriteE; rw [if_pos ⟨by decide, .inr hp⟩]
  have hx : rWriteS S r 3 n d = r := if_neg fun e => by have := e.1; rw [he] at this; exact absurd this (by decide)
  unfold WritePost
  rw [he, hx]
  have hzo : r.opn.length ≤ 1000000 := by have := hf.opn; omega
  have hzf := hf.files
  have hzx := hf.fails
  have hze := hf.events
  clear he hx
  have hR := Run.two h
  go_enter Try.func33, Try.ntmps33
  go_upto_region 1 with fail
  obtain ⟨wA, hA⟩ : ∃ wA, wA = (w.alloc (.cells (s.cells S r) 38)).alloc (.cells #[.slice none 0 0, .string ⟨#[]⟩, .slice none 0 0, .slice none 0 0, .int .i64 0, .int .i64 0, .int .u64 0, .slice none 0 0, .int .i64 0, .slice none 0 0, .int .u64 0, .slice none 0 0] 38) := ⟨_, rfl⟩
  rw [← hA] at hR ⊢
  clear hA
  generalize w.heap.size + 1 = b2 at *
  generalize w.heap.size = b0 at hR ⊢
  have HR := Lib.hid (⟨h, hR⟩ : _ ∧ _)
  clear h hR
  obtain ⟨y0, y1, y2, y3, y4, y5, y6, y7, y8, y9, y10, y11, _, _⟩ := (HR.out.2).rbox
  go_upto_region 4 with (go_at_call 15; refine (findRef HR.out.2.ref 3 n hzo).mono ?_; rintro e w1 ⟨rfl, hbb⟩; have hRR := (HR.out.2).later hbb; obtain ⟨y0, y1, y2, y3, y4, y5, y6, y7, y8, y9, y10, y11, _, _⟩ := hRR.rbox; have H1 := Lib.hid hRR; clear hRR hbb)
  obtain ⟨y0, y1, y2, y3, y4, y5, y6, y7, y8, y9, y10, y11, _, _⟩ := (H1.out).rbox
  obtain ⟨q0, q1, q2, q3, q4, q5, q6, q7, q8, q9, q10, q11, qz, _⟩ := (H1.out).rres
  have qz0 := qz 0
  have qz1 := qz 1
  have qz2 := qz 2
  have qz3 := qz 3
  have qz4 := qz 4
  have qz5 := qz 5
  have qz6 := qz 6
  have qz7 := qz 7
  have qz8 := qz 8
  have qz9 := qz 9
  have qz10 := qz 10
  have qz11 := qz 11
  clear qz
  go_wp2_with fail
  rw [put12_def]
  obtain ⟨d1, d2, d3⟩ := (H1.out).done
  obtain ⟨z0, z1, z2, z3, z4, z5, z6, z7, z8, z9, z10, z11, _, _⟩ := d3
  generalize put12 w1 b2 S r s = w9 at *
  refine bodyPost_ret (v := .tuple #[.agg (s.cells S r), .int .i64 16]) (by simp [results, Try.results33, go_sem, z0, z1, z2, z3, z4, z5, z6, z7, z8, z9, z10, z11]) rfl ?_
  exact ⟨s, rfl, rfl, d1, d2⟩
set_option maxHeartbeats 4000000 in
set_option maxRecDepth 100000 in
theorem writeB4 (h : RefAt w S r s) (n d : ByteArray) (hf : Fewer S r) (hp : rplace 4 n r.opn < 0) :
    Calls Try.prog 33 #[.agg (s.cells S r), .int .u8 4, .string n, .string d] w (WritePost w S r s 4 n d) := by
  have he : rWriteE S r 4 n = 16 := by unfold rWriteE; rw [if_pos ⟨by decide, .inr hp⟩]
  have hx : rWriteS S r 4 n d = r := if_neg fun e => by have := e.1; rw [he] at this; exact absurd this (by decide)
  unfold WritePost
  rw [he, hx]
  have hzo : r.opn.length ≤ 1000000 := by have := hf.opn; omega
  have hzf := hf.files
  have hzx := hf.fails
  have hze := hf.events
  clear he hx
  have hR := Run.two h
  go_enter Try.func33, Try.ntmps33
  go_upto_region 1 with fail
  obtain ⟨wA, hA⟩ : ∃ wA, wA = (w.alloc (.cells (s.cells S r) 38)).alloc (.cells #[.slice none 0 0, .string ⟨#[]⟩, .slice none 0 0, .slice none 0 0, .int .i64 0, .int .i64 0, .int .u64 0, .slice none 0 0, .int .i64 0, .slice none 0 0, .int .u64 0, .slice none 0 0] 38) := ⟨_, rfl⟩
  rw [← hA] at hR ⊢
  clear hA
  generalize w.heap.size + 1 = b2 at *
  generalize w.heap.size = b0 at hR ⊢
  have HR := Lib.hid (⟨h, hR⟩ : _ ∧ _)
  clear h hR
  obtain ⟨y0, y1, y2, y3, y4, y5, y6, y7, y8, y9, y10, y11, _, _⟩ := (HR.out.2).rbox
  go_upto_region 4 with (go_at_call 15; refine (findRef HR.out.2.ref 4 n hzo).mono ?_; rintro e w1 ⟨rfl, hbb⟩; have hRR := (HR.out.2).later hbb; obtain ⟨y0, y1, y2, y3, y4, y5, y6, y7, y8, y9, y10, y11, _, _⟩ := hRR.rbox; have H1 := Lib.hid hRR; clear hRR hbb)
  obtain ⟨y0, y1, y2, y3, y4, y5, y6, y7, y8, y9, y10, y11, _, _⟩ := (H1.out).rbox
  obtain ⟨q0, q1, q2, q3, q4, q5, q6, q7, q8, q9, q10, q11, qz, _⟩ := (H1.out).rres
  have qz0 := qz 0
  have qz1 := qz 1
  have qz2 := qz 2
  have qz3 := qz 3
  have qz4 := qz 4
  have qz5 := qz 5
  have qz6 := qz 6
  have qz7 := qz 7
  have qz8 := qz 8
  have qz9 := qz 9
  have qz10 := qz 10
  have qz11 := qz 11
  clear qz
  go_wp2_with fail
  rw [put12_def]
  obtain ⟨d1, d2, d3⟩ := (H1.out).done
  obtain ⟨z0, z1, z2, z3, z4, z5, z6, z7, z8, z9, z10, z11, _, _⟩ := d3
  generalize put12 w1 b2 S r s = w9 at *
  refine bodyPost_ret (v := .tuple #[.agg (s.cells S r), .int .i64 16]) (by simp [results, Try.results33, go_sem, z0, z1, z2, z3, z4, z5, z6, z7, z8, z9, z10, z11]) rfl ?_
  exact ⟨s, rfl, rfl, d1, d2⟩
set_option maxHeartbeats 4000000 in
set_option maxRecDepth 100000 in
theorem writeB5 (h : RefAt w S r s) (n d : ByteArray) (hf : Fewer S r) (hp : rplace 5 n r.opn < 0) :
    Calls Try.prog 33 #[.agg (s.cells S r), .int .u8 5, .string n, .string d] w (WritePost w S r s 5 n d) := by
  have he : rWriteE S r 5 n = 16 := by unfold rWriteE; rw [if_pos ⟨by decide, .inr hp⟩]
  have hx : rWriteS S r 5 n d = r := if_neg fun e => by have := e.1; rw [he] at this; exact absurd this (by decide)
  unfold WritePost
  rw [he, hx]
  have hzo : r.opn.length ≤ 1000000 := by have := hf.opn; omega
  have hzf := hf.files
  have hzx := hf.fails
  have hze := hf.events
  clear he hx
  have hR := Run.two h
  go_enter Try.func33, Try.ntmps33
  go_upto_region 1 with fail
  obtain ⟨wA, hA⟩ : ∃ wA, wA = (w.alloc (.cells (s.cells S r) 38)).alloc (.cells #[.slice none 0 0, .string ⟨#[]⟩, .slice none 0 0, .slice none 0 0, .int .i64 0, .int .i64 0, .int .u64 0, .slice none 0 0, .int .i64 0, .slice none 0 0, .int .u64 0, .slice none 0 0] 38) := ⟨_, rfl⟩
  rw [← hA] at hR ⊢
  clear hA
  generalize w.heap.size + 1 = b2 at *
  generalize w.heap.size = b0 at hR ⊢
  have HR := Lib.hid (⟨h, hR⟩ : _ ∧ _)
  clear h hR
  obtain ⟨y0, y1, y2, y3, y4, y5, y6, y7, y8, y9, y10, y11, _, _⟩ := (HR.out.2).rbox
  go_upto_region 4 with (go_at_call 15; refine (findRef HR.out.2.ref 5 n hzo).mono ?_; rintro e w1 ⟨rfl, hbb⟩; have hRR := (HR.out.2).later hbb; obtain ⟨y0, y1, y2, y3, y4, y5, y6, y7, y8, y9, y10, y11, _, _⟩ := hRR.rbox; have H1 := Lib.hid hRR; clear hRR hbb)
  obtain ⟨y0, y1, y2, y3, y4, y5, y6, y7, y8, y9, y10, y11, _, _⟩ := (H1.out).rbox
  obtain ⟨q0, q1, q2, q3, q4, q5, q6, q7, q8, q9, q10, q11, qz, _⟩ := (H1.out).rres
  have qz0 := qz 0
  have qz1 := qz 1
  have qz2 := qz 2
  have qz3 := qz 3
  have qz4 := qz 4
  have qz5 := qz 5
  have qz6 := qz 6
  have qz7 := qz 7
  have qz8 := qz 8
  have qz9 := qz 9
  have qz10 := qz 10
  have qz11 := qz 11
  clear qz
  go_wp2_with fail
  rw [put12_def]
  obtain ⟨d1, d2, d3⟩ := (H1.out).done
  obtain ⟨z0, z1, z2, z3, z4, z5, z6, z7, z8, z9, z10, z11, _, _⟩ := d3
  generalize put12 w1 b2 S r s = w9 at *
  refine bodyPost_ret (v := .tuple #[.agg (s.cells S r), .int .i64 16]) (by simp [results, Try.results33, go_sem, z0, z1, z2, z3, z4, z5, z6, z7, z8, z9, z10, z11]) rfl ?_
  exact ⟨s, rfl, rfl, d1, d2⟩
set_option maxHeartbeats 4000000 in
set_option maxRecDepth 100000 in
theorem writeC3 (h : RefAt w S r s) (n d : ByteArray) (hf : Fewer S r) (hp : ¬ rplace 3 n r.opn < 0) (hx1 : (lookX 3 (wname 3 n) S.fails).isSome = true) :
    Calls Try.prog 33 #[.agg (s.cells S r), .int .u8 3, .string n, .string d] w (WritePost w S r s 3 n d) := by
  have he : rWriteE S r 3 n = 14 := by unfold rWriteE; rw [if_neg (fun e => e.2.elim (fun e => e (by decide)) hp), if_pos hx1]
  have hx : rWriteS S r 3 n d = r := if_neg fun e => by have := e.1; rw [he] at this; exact absurd this (by decide)
  unfold WritePost
  rw [he, hx]
  have hzo : r.opn.length ≤ 1000000 := by have := hf.opn; omega
  have hzf := hf.files
  have hzx := hf.fails
  have hze := hf.events
  have hx2 : (lookX 3 n S.fails).isSome = true := hx1
  have HX := Lib.hid hx2
  clear hx1 hx2
  clear he hx
  have hR := Run.two h
  go_enter Try.func33, Try.ntmps33
  go_upto_region 1 with fail
  obtain ⟨wA, hA⟩ : ∃ wA, wA = (w.alloc (.cells (s.cells S r) 38)).alloc (.cells #[.slice none 0 0, .string ⟨#[]⟩, .slice none 0 0, .slice none 0 0, .int .i64 0, .int .i64 0, .int .u64 0, .slice none 0 0, .int .i64 0, .slice none 0 0, .int .u64 0, .slice none 0 0] 38) := ⟨_, rfl⟩
  rw [← hA] at hR ⊢
  clear hA
  generalize w.heap.size + 1 = b2 at *
  generalize w.heap.size = b0 at hR ⊢
  have HR := Lib.hid (⟨h, hR⟩ : _ ∧ _)
  clear h hR
  obtain ⟨y0, y1, y2, y3, y4, y5, y6, y7, y8, y9, y10, y11, _, _⟩ := (HR.out.2).rbox
  go_upto_region 6 with (first
    | (go_at_call 49; refine (failsRef H1.out.ref 3 n hzx).mono ?_; rintro e w2 ⟨rfl, hbb⟩; rw [HX.out]; have hRR := (H1.out).later hbb; obtain ⟨y0, y1, y2, y3, y4, y5, y6, y7, y8, y9, y10, y11, _, _⟩ := hRR.rbox; have H2 := Lib.hid hRR; clear hRR hbb)
    | (go_at_call 15; refine (findRef HR.out.2.ref 3 n hzo).mono ?_; rintro e w1 ⟨rfl, hbb⟩; have hRR := (HR.out.2).later hbb; obtain ⟨y0, y1, y2, y3, y4, y5, y6, y7, y8, y9, y10, y11, _, _⟩ := hRR.rbox; have H1 := Lib.hid hRR; clear hRR hbb))
  obtain ⟨y0, y1, y2, y3, y4, y5, y6, y7, y8, y9, y10, y11, _, _⟩ := (H2.out).rbox
  obtain ⟨q0, q1, q2, q3, q4, q5, q6, q7, q8, q9, q10, q11, qz, _⟩ := (H2.out).rres
  have qz0 := qz 0
  have qz1 := qz 1
  have qz2 := qz 2
  have qz3 := qz 3
  have qz4 := qz 4
  have qz5 := qz 5
  have qz6 := qz 6
  have qz7 := qz 7
  have qz8 := qz 8
  have qz9 := qz 9
  have qz10 := qz 10
  have qz11 := qz 11
  clear qz
  go_wp2_with fail
  rw [put12_def]
  obtain ⟨d1, d2, d3⟩ := (H2.out).done
  obtain ⟨z0, z1, z2, z3, z4, z5, z6, z7, z8, z9, z10, z11, _, _⟩ := d3
  generalize put12 w2 b2 S r s = w9 at *
  refine bodyPost_ret (v := .tuple #[.agg (s.cells S r), .int .i64 14]) (by simp [results, Try.results33, go_sem, z0, z1, z2, z3, z4, z5, z6, z7, z8, z9, z10, z11]) rfl ?_
  exact ⟨s, rfl, rfl, d1, d2⟩
set_option maxHeartbeats 4000000 in
set_option maxRecDepth 100000 in
theorem writeD3 (h : RefAt w S r s) (n d : ByteArray) (hf : Fewer S r) (hp : ¬ rplace 3 n r.opn < 0) (hx1 : (lookX 3 (wname 3 n) S.fails).isSome = false) (hd : d = noText) :
    Calls Try.prog 33 #[.agg (s.cells S r), .int .u8 3, .string n, .string d] w (WritePost w S r s 3 n d) := by
  have he : rWriteE S r 3 n = 0 := by unfold rWriteE; rw [if_neg (fun e => e.2.elim (fun e => e (by decide)) hp), if_neg (by rw [hx1]; decide)]
  have hx : rWriteS S r 3 n d = r := if_neg fun e => e.2 hd
  unfold WritePost
  rw [he, hx]
  have hzo : r.opn.length ≤ 1000000 := by have := hf.opn; omega
  have hzf := hf.files
  have hzx := hf.fails
  have hze := hf.events
  have hx2 : (lookX 3 n S.fails).isSome = false := hx1
  have HX := Lib.hid hx2
  clear hx1 hx2
  have hd0 : d.size = 0 := by rw [hd]; rfl
  clear hd
  clear he hx
  have hR := Run.two h
  go_enter Try.func33, Try.ntmps33
  go_upto_region 1 with fail
  obtain ⟨wA, hA⟩ : ∃ wA, wA = (w.alloc (.cells (s.cells S r) 38)).alloc (.cells #[.slice none 0 0, .string ⟨#[]⟩, .slice none 0 0, .slice none 0 0, .int .i64 0, .int .i64 0, .int .u64 0, .slice none 0 0, .int .i64 0, .slice none 0 0, .int .u64 0, .slice none 0 0] 38) := ⟨_, rfl⟩
  rw [← hA] at hR ⊢
  clear hA
  generalize w.heap.size + 1 = b2 at *
  generalize w.heap.size = b0 at hR ⊢
  have HR := Lib.hid (⟨h, hR⟩ : _ ∧ _)
  clear h hR
  obtain ⟨y0, y1, y2, y3, y4, y5, y6, y7, y8, y9, y10, y11, _, _⟩ := (HR.out.2).rbox
  go_upto_region 8 with (first
    | (go_at_call 49; refine (failsRef H1.out.ref 3 n hzx).mono ?_; rintro e w2 ⟨rfl, hbb⟩; rw [HX.out]; have hRR := (H1.out).later hbb; obtain ⟨y0, y1, y2, y3, y4, y5, y6, y7, y8, y9, y10, y11, _, _⟩ := hRR.rbox; have H2 := Lib.hid hRR; clear hRR hbb)
    | (go_at_call 15; refine (findRef HR.out.2.ref 3 n hzo).mono ?_; rintro e w1 ⟨rfl, hbb⟩; have hRR := (HR.out.2).later hbb; obtain ⟨y0, y1, y2, y3, y4, y5, y6, y7, y8, y9, y10, y11, _, _⟩ := hRR.rbox; have H1 := Lib.hid hRR; clear hRR hbb))
  obtain ⟨y0, y1, y2, y3, y4, y5, y6, y7, y8, y9, y10, y11, _, _⟩ := (H2.out).rbox
  obtain ⟨q0, q1, q2, q3, q4, q5, q6, q7, q8, q9, q10, q11, qz, _⟩ := (H2.out).rres
  have qz0 := qz 0
  have qz1 := qz 1
  have qz2 := qz 2
  have qz3 := qz 3
  have qz4 := qz 4
  have qz5 := qz 5
  have qz6 := qz 6
  have qz7 := qz 7
  have qz8 := qz 8
  have qz9 := qz 9
  have qz10 := qz 10
  have qz11 := qz 11
  clear qz
  go_wp2_with fail
  rw [put12_def]
  obtain ⟨d1, d2, d3⟩ := (H2.out).done
  obtain ⟨z0, z1, z2, z3, z4, z5, z6, z7, z8, z9, z10, z11, _, _⟩ := d3
  generalize put12 w2 b2 S r s = w9 at *
  refine bodyPost_ret (v := .tuple #[.agg (s.cells S r), .int .i64 0]) (by simp [results, Try.results33, go_sem, z0, z1, z2, z3, z4, z5, z6, z7, z8, z9, z10, z11]) rfl ?_
  exact ⟨s, rfl, rfl, d1, d2⟩
set_option maxHeartbeats 4000000 in
set_option maxRecDepth 100000 in
theorem writeE3 (h : RefAt w S r s) (n d : ByteArray) (hf : Fewer S r) (hp : ¬ rplace 3 n r.opn < 0) (hx1 : (lookX 3 (wname 3 n) S.fails).isSome = false) (hd : d ≠ noText) (hsz : (rData r n).size ≤ 1000000000) (hsd : d.size ≤ 1000000000) :
    Calls Try.prog 33 #[.agg (s.cells S r), .int .u8 3, .string n, .string d] w (WritePost w S r s 3 n d) := by
  have he : rWriteE S r 3 n = 0 := by unfold rWriteE; rw [if_neg (fun e => e.2.elim (fun e => e (by decide)) hp), if_neg (by rw [hx1]; decide)]
  have hx : rWriteS S r 3 n d = eventR (rWith r n (rData r n ++ d)) ⟨2, 3, n, d, 0⟩ := (if_pos ⟨he, hd⟩)
  unfold WritePost
  rw [he, hx]
  have hzo : r.opn.length ≤ 1000000 := by have := hf.opn; omega
  have hzf := hf.files
  have hzx := hf.fails
  have hze := hf.events
  have hx2 : (lookX 3 n S.fails).isSome = false := hx1
  have HX := Lib.hid hx2
  clear hx1 hx2
  have hd0 := noText_size hd
  have hsum : ¬ 9223372036854775807 < (rData r n).size + d.size := by omega
  have hs1 : ((rData r n).size : Int) ≤ 1000000000 := by omega
  have hs2 : (d.size : Int) ≤ 1000000000 := by omega
  clear hd hsz hsd
  clear he hx
  have hR := Run.two h
  go_enter Try.func33, Try.ntmps33
  go_upto_region 1 with fail
  obtain ⟨wA, hA⟩ : ∃ wA, wA = (w.alloc (.cells (s.cells S r) 38)).alloc (.cells #[.slice none 0 0, .string ⟨#[]⟩, .slice none 0 0, .slice none 0 0, .int .i64 0, .int .i64 0, .int .u64 0, .slice none 0 0, .int .i64 0, .slice none 0 0, .int .u64 0, .slice none 0 0] 38) := ⟨_, rfl⟩
  rw [← hA] at hR ⊢
  clear hA
  generalize w.heap.size + 1 = b2 at *
  generalize w.heap.size = b0 at hR ⊢
  have HR := Lib.hid (⟨h, hR⟩ : _ ∧ _)
  clear h hR
  obtain ⟨y0, y1, y2, y3, y4, y5, y6, y7, y8, y9, y10, y11, _, _⟩ := (HR.out.2).rbox
  go_upto_region 12 with (first
    | (go_at_call 51; refine (withRef H3.out.ref n (rData r n ++ d) hzf).mono ?_; rintro e w4 ⟨s4, rfl, hs4, hr4, hb4⟩; have hRR := (H3.out).later hb4; obtain ⟨y0, y1, y2, y3, y4, y5, y6, y7, y8, y9, y10, y11, pz, _⟩ := hRR.rbox; have pz0 := pz 0; have pz1 := pz 1; have pz2 := pz 2; have pz3 := pz 3; have pz4 := pz 4; have pz5 := pz 5; have pz6 := pz 6; have pz7 := pz 7; have pz8 := pz 8; have pz9 := pz 9; have pz10 := pz 10; have pz11 := pz 11; obtain ⟨r1, hr1⟩ : ∃ x, x = rWith r n (rData r n ++ d) := ⟨_, rfl⟩; rw [← hr1] at hr4 ⊢; have H4 := Lib.hid (⟨hRR, hr4, hs4⟩ : _ ∧ _ ∧ _); have HR1 := Lib.hid hr1; clear hRR hr4 hs4 hb4 pz)
    | (go_at_call 17; refine (fileRef H2.out.ref n hzf).mono ?_; rintro e w3 ⟨rfl, hbb⟩; rw [fileA_data]; have hRR := (H2.out).later hbb; obtain ⟨y0, y1, y2, y3, y4, y5, y6, y7, y8, y9, y10, y11, _, _⟩ := hRR.rbox; have H3 := Lib.hid hRR; clear hRR hbb)
    | (go_at_call 49; refine (failsRef H1.out.ref 3 n hzx).mono ?_; rintro e w2 ⟨rfl, hbb⟩; rw [HX.out]; have hRR := (H1.out).later hbb; obtain ⟨y0, y1, y2, y3, y4, y5, y6, y7, y8, y9, y10, y11, _, _⟩ := hRR.rbox; have H2 := Lib.hid hRR; clear hRR hbb)
    | (go_at_call 15; refine (findRef HR.out.2.ref 3 n hzo).mono ?_; rintro e w1 ⟨rfl, hbb⟩; have hRR := (HR.out.2).later hbb; obtain ⟨y0, y1, y2, y3, y4, y5, y6, y7, y8, y9, y10, y11, _, _⟩ := hRR.rbox; have H1 := Lib.hid hRR; clear hRR hbb))
  rw [put12_def]
  try rw [← hr1]
  clear hr1
  generalize Value.agg (s4.cells S r1) = vv
  obtain ⟨wZ, hZ⟩ : ∃ wZ, wZ = put12 w4 b0 S r1 s4 := ⟨_, rfl⟩
  have hRZ := H4.out.1.put H4.out.2.1 H4.out.2.2
  rw [← hZ] at hRZ ⊢
  have HZ := Lib.hid hRZ
  clear hRZ hZ
  have hze1 : r1.events.length ≤ 1000000 := by rw [HR1.out]; exact hze
  obtain ⟨y0, y1, y2, y3, y4, y5, y6, y7, y8, y9, y10, y11, _, _⟩ := (HZ.out).rbox
  go_wp2_with (go_at_call 52; refine (eventRef (HZ.out).ref ⟨2, 3, n, d, 0⟩ hze1).mono ?_; rintro e w6 ⟨s6, rfl, hs6, hr6, hb6⟩; have hRR := (HZ.out).later hb6; obtain ⟨q0, q1, q2, q3, q4, q5, q6, q7, q8, q9, q10, q11, qz, _⟩ := hRR.rres; have qz0 := qz 0; have qz1 := qz 1; have qz2 := qz 2; have qz3 := qz 3; have qz4 := qz 4; have qz5 := qz 5; have qz6 := qz 6; have qz7 := qz 7; have qz8 := qz 8; have qz9 := qz 9; have qz10 := qz 10; have qz11 := qz 11; have H6 := Lib.hid (⟨hRR, hr6, hs6⟩ : _ ∧ _ ∧ _); obtain ⟨r6, hr6e⟩ : ∃ x, x = eventR r1 ⟨2, 3, n, d, 0⟩ := ⟨_, rfl⟩; rw [← hr6e] at H6 ⊢; have HE6 := Lib.hid hr6e; clear hRR hr6 hs6 hb6 qz hr6e)
  rw [put12_def]
  obtain ⟨d1, d2, d3⟩ := (H6.out.1).hand H6.out.2.1 H6.out.2.2
  obtain ⟨z0, z1, z2, z3, z4, z5, z6, z7, z8, z9, z10, z11, _, _⟩ := d3
  generalize put12 w6 b2 S r6 s6 = w9 at *
  refine bodyPost_ret (v := .tuple #[.agg (s6.cells S r6), .int .i64 0]) (by simp [results, Try.results33, go_sem, z0, z1, z2, z3, z4, z5, z6, z7, z8, z9, z10, z11]) rfl ?_
  have hfin : r6 = eventR (rWith r n (rData r n ++ d)) ⟨2, 3, n, d, 0⟩ := by rw [HE6.out, HR1.out]
  rw [hfin] at d1 ⊢
  exact ⟨s6, rfl, H6.out.2.2.trans H4.out.2.2, d1, d2⟩
set_option maxHeartbeats 4000000 in
set_option maxRecDepth 100000 in
theorem writeC4 (h : RefAt w S r s) (n d : ByteArray) (hf : Fewer S r) (hp : ¬ rplace 4 n r.opn < 0) (hx1 : (lookX 3 (wname 4 n) S.fails).isSome = true) :
    Calls Try.prog 33 #[.agg (s.cells S r), .int .u8 4, .string n, .string d] w (WritePost w S r s 4 n d) := by
  have he : rWriteE S r 4 n = 14 := by unfold rWriteE; rw [if_neg (fun e => e.2.elim (fun e => e (by decide)) hp), if_pos hx1]
  have hx : rWriteS S r 4 n d = r := if_neg fun e => by have := e.1; rw [he] at this; exact absurd this (by decide)
  unfold WritePost
  rw [he, hx]
  have hzo : r.opn.length ≤ 1000000 := by have := hf.opn; omega
  have hzf := hf.files
  have hzx := hf.fails
  have hze := hf.events
  have hx2 : (lookX 3 n S.fails).isSome = true := hx1
  have HX := Lib.hid hx2
  clear hx1 hx2
  clear he hx
  have hR := Run.two h
  go_enter Try.func33, Try.ntmps33
  go_upto_region 1 with fail
  obtain ⟨wA, hA⟩ : ∃ wA, wA = (w.alloc (.cells (s.cells S r) 38)).alloc (.cells #[.slice none 0 0, .string ⟨#[]⟩, .slice none 0 0, .slice none 0 0, .int .i64 0, .int .i64 0, .int .u64 0, .slice none 0 0, .int .i64 0, .slice none 0 0, .int .u64 0, .slice none 0 0] 38) := ⟨_, rfl⟩
  rw [← hA] at hR ⊢
  clear hA
  generalize w.heap.size + 1 = b2 at *
  generalize w.heap.size = b0 at hR ⊢
  have HR := Lib.hid (⟨h, hR⟩ : _ ∧ _)
  clear h hR
  obtain ⟨y0, y1, y2, y3, y4, y5, y6, y7, y8, y9, y10, y11, _, _⟩ := (HR.out.2).rbox
  go_upto_region 6 with (first
    | (go_at_call 49; refine (failsRef H1.out.ref 3 n hzx).mono ?_; rintro e w2 ⟨rfl, hbb⟩; rw [HX.out]; have hRR := (H1.out).later hbb; obtain ⟨y0, y1, y2, y3, y4, y5, y6, y7, y8, y9, y10, y11, _, _⟩ := hRR.rbox; have H2 := Lib.hid hRR; clear hRR hbb)
    | (go_at_call 15; refine (findRef HR.out.2.ref 4 n hzo).mono ?_; rintro e w1 ⟨rfl, hbb⟩; have hRR := (HR.out.2).later hbb; obtain ⟨y0, y1, y2, y3, y4, y5, y6, y7, y8, y9, y10, y11, _, _⟩ := hRR.rbox; have H1 := Lib.hid hRR; clear hRR hbb))
  obtain ⟨y0, y1, y2, y3, y4, y5, y6, y7, y8, y9, y10, y11, _, _⟩ := (H2.out).rbox
  obtain ⟨q0, q1, q2, q3, q4, q5, q6, q7, q8, q9, q10, q11, qz, _⟩ := (H2.out).rres
  have qz0 := qz 0
  have qz1 := qz 1
  have qz2 := qz 2
  have qz3 := qz 3
  have qz4 := qz 4
  have qz5 := qz 5
  have qz6 := qz 6
  have qz7 := qz 7
  have qz8 := qz 8
  have qz9 := qz 9
  have qz10 := qz 10
  have qz11 := qz 11
  clear qz
  go_wp2_with fail
  rw [put12_def]
  obtain ⟨d1, d2, d3⟩ := (H2.out).done
  obtain ⟨z0, z1, z2, z3, z4, z5, z6, z7, z8, z9, z10, z11, _, _⟩ := d3
  generalize put12 w2 b2 S r s = w9 at *
  refine bodyPost_ret (v := .tuple #[.agg (s.cells S r), .int .i64 14]) (by simp [results, Try.results33, go_sem, z0, z1, z2, z3, z4, z5, z6, z7, z8, z9, z10, z11]) rfl ?_
  exact ⟨s, rfl, rfl, d1, d2⟩
set_option maxHeartbeats 4000000 in
set_option maxRecDepth 100000 in
theorem writeD4 (h : RefAt w S r s) (n d : ByteArray) (hf : Fewer S r) (hp : ¬ rplace 4 n r.opn < 0) (hx1 : (lookX 3 (wname 4 n) S.fails).isSome = false) (hd : d = noText) :
    Calls Try.prog 33 #[.agg (s.cells S r), .int .u8 4, .string n, .string d] w (WritePost w S r s 4 n d) := by
  have he : rWriteE S r 4 n = 0 := by unfold rWriteE; rw [if_neg (fun e => e.2.elim (fun e => e (by decide)) hp), if_neg (by rw [hx1]; decide)]
  have hx : rWriteS S r 4 n d = r := if_neg fun e => e.2 hd
  unfold WritePost
  rw [he, hx]
  have hzo : r.opn.length ≤ 1000000 := by have := hf.opn; omega
  have hzf := hf.files
  have hzx := hf.fails
  have hze := hf.events
  have hx2 : (lookX 3 n S.fails).isSome = false := hx1
  have HX := Lib.hid hx2
  clear hx1 hx2
  have hd0 : d.size = 0 := by rw [hd]; rfl
  clear hd
  clear he hx
  have hR := Run.two h
  go_enter Try.func33, Try.ntmps33
  go_upto_region 1 with fail
  obtain ⟨wA, hA⟩ : ∃ wA, wA = (w.alloc (.cells (s.cells S r) 38)).alloc (.cells #[.slice none 0 0, .string ⟨#[]⟩, .slice none 0 0, .slice none 0 0, .int .i64 0, .int .i64 0, .int .u64 0, .slice none 0 0, .int .i64 0, .slice none 0 0, .int .u64 0, .slice none 0 0] 38) := ⟨_, rfl⟩
  rw [← hA] at hR ⊢
  clear hA
  generalize w.heap.size + 1 = b2 at *
  generalize w.heap.size = b0 at hR ⊢
  have HR := Lib.hid (⟨h, hR⟩ : _ ∧ _)
  clear h hR
  obtain ⟨y0, y1, y2, y3, y4, y5, y6, y7, y8, y9, y10, y11, _, _⟩ := (HR.out.2).rbox
  go_upto_region 8 with (first
    | (go_at_call 49; refine (failsRef H1.out.ref 3 n hzx).mono ?_; rintro e w2 ⟨rfl, hbb⟩; rw [HX.out]; have hRR := (H1.out).later hbb; obtain ⟨y0, y1, y2, y3, y4, y5, y6, y7, y8, y9, y10, y11, _, _⟩ := hRR.rbox; have H2 := Lib.hid hRR; clear hRR hbb)
    | (go_at_call 15; refine (findRef HR.out.2.ref 4 n hzo).mono ?_; rintro e w1 ⟨rfl, hbb⟩; have hRR := (HR.out.2).later hbb; obtain ⟨y0, y1, y2, y3, y4, y5, y6, y7, y8, y9, y10, y11, _, _⟩ := hRR.rbox; have H1 := Lib.hid hRR; clear hRR hbb))
  obtain ⟨y0, y1, y2, y3, y4, y5, y6, y7, y8, y9, y10, y11, _, _⟩ := (H2.out).rbox
  obtain ⟨q0, q1, q2, q3, q4, q5, q6, q7, q8, q9, q10, q11, qz, _⟩ := (H2.out).rres
  have qz0 := qz 0
  have qz1 := qz 1
  have qz2 := qz 2
  have qz3 := qz 3
  have qz4 := qz 4
  have qz5 := qz 5
  have qz6 := qz 6
  have qz7 := qz 7
  have qz8 := qz 8
  have qz9 := qz 9
  have qz10 := qz 10
  have qz11 := qz 11
  clear qz
  go_wp2_with fail
  rw [put12_def]
  obtain ⟨d1, d2, d3⟩ := (H2.out).done
  obtain ⟨z0, z1, z2, z3, z4, z5, z6, z7, z8, z9, z10, z11, _, _⟩ := d3
  generalize put12 w2 b2 S r s = w9 at *
  refine bodyPost_ret (v := .tuple #[.agg (s.cells S r), .int .i64 0]) (by simp [results, Try.results33, go_sem, z0, z1, z2, z3, z4, z5, z6, z7, z8, z9, z10, z11]) rfl ?_
  exact ⟨s, rfl, rfl, d1, d2⟩
set_option maxHeartbeats 4000000 in
set_option maxRecDepth 100000 in
theorem writeE4 (h : RefAt w S r s) (n d : ByteArray) (hf : Fewer S r) (hp : ¬ rplace 4 n r.opn < 0) (hx1 : (lookX 3 (wname 4 n) S.fails).isSome = false) (hd : d ≠ noText) (hsz : (rData r n).size ≤ 1000000000) (hsd : d.size ≤ 1000000000) :
    Calls Try.prog 33 #[.agg (s.cells S r), .int .u8 4, .string n, .string d] w (WritePost w S r s 4 n d) := by
  have he : rWriteE S r 4 n = 0 := by unfold rWriteE; rw [if_neg (fun e => e.2.elim (fun e => e (by decide)) hp), if_neg (by rw [hx1]; decide)]
  have hx : rWriteS S r 4 n d = eventR (rWith r n (rData r n ++ d)) ⟨2, 4, n, d, 0⟩ := (if_pos ⟨he, hd⟩)
  unfold WritePost
  rw [he, hx]
  have hzo : r.opn.length ≤ 1000000 := by have := hf.opn; omega
  have hzf := hf.files
  have hzx := hf.fails
  have hze := hf.events
  have hx2 : (lookX 3 n S.fails).isSome = false := hx1
  have HX := Lib.hid hx2
  clear hx1 hx2
  have hd0 := noText_size hd
  have hsum : ¬ 9223372036854775807 < (rData r n).size + d.size := by omega
  have hs1 : ((rData r n).size : Int) ≤ 1000000000 := by omega
  have hs2 : (d.size : Int) ≤ 1000000000 := by omega
  clear hd hsz hsd
  clear he hx
  have hR := Run.two h
  go_enter Try.func33, Try.ntmps33
  go_upto_region 1 with fail
  obtain ⟨wA, hA⟩ : ∃ wA, wA = (w.alloc (.cells (s.cells S r) 38)).alloc (.cells #[.slice none 0 0, .string ⟨#[]⟩, .slice none 0 0, .slice none 0 0, .int .i64 0, .int .i64 0, .int .u64 0, .slice none 0 0, .int .i64 0, .slice none 0 0, .int .u64 0, .slice none 0 0] 38) := ⟨_, rfl⟩
  rw [← hA] at hR ⊢
  clear hA
  generalize w.heap.size + 1 = b2 at *
  generalize w.heap.size = b0 at hR ⊢
  have HR := Lib.hid (⟨h, hR⟩ : _ ∧ _)
  clear h hR
  obtain ⟨y0, y1, y2, y3, y4, y5, y6, y7, y8, y9, y10, y11, _, _⟩ := (HR.out.2).rbox
  go_upto_region 12 with (first
    | (go_at_call 51; refine (withRef H3.out.ref n (rData r n ++ d) hzf).mono ?_; rintro e w4 ⟨s4, rfl, hs4, hr4, hb4⟩; have hRR := (H3.out).later hb4; obtain ⟨y0, y1, y2, y3, y4, y5, y6, y7, y8, y9, y10, y11, pz, _⟩ := hRR.rbox; have pz0 := pz 0; have pz1 := pz 1; have pz2 := pz 2; have pz3 := pz 3; have pz4 := pz 4; have pz5 := pz 5; have pz6 := pz 6; have pz7 := pz 7; have pz8 := pz 8; have pz9 := pz 9; have pz10 := pz 10; have pz11 := pz 11; obtain ⟨r1, hr1⟩ : ∃ x, x = rWith r n (rData r n ++ d) := ⟨_, rfl⟩; rw [← hr1] at hr4 ⊢; have H4 := Lib.hid (⟨hRR, hr4, hs4⟩ : _ ∧ _ ∧ _); have HR1 := Lib.hid hr1; clear hRR hr4 hs4 hb4 pz)
    | (go_at_call 17; refine (fileRef H2.out.ref n hzf).mono ?_; rintro e w3 ⟨rfl, hbb⟩; rw [fileA_data]; have hRR := (H2.out).later hbb; obtain ⟨y0, y1, y2, y3, y4, y5, y6, y7, y8, y9, y10, y11, _, _⟩ := hRR.rbox; have H3 := Lib.hid hRR; clear hRR hbb)
    | (go_at_call 49; refine (failsRef H1.out.ref 3 n hzx).mono ?_; rintro e w2 ⟨rfl, hbb⟩; rw [HX.out]; have hRR := (H1.out).later hbb; obtain ⟨y0, y1, y2, y3, y4, y5, y6, y7, y8, y9, y10, y11, _, _⟩ := hRR.rbox; have H2 := Lib.hid hRR; clear hRR hbb)
    | (go_at_call 15; refine (findRef HR.out.2.ref 4 n hzo).mono ?_; rintro e w1 ⟨rfl, hbb⟩; have hRR := (HR.out.2).later hbb; obtain ⟨y0, y1, y2, y3, y4, y5, y6, y7, y8, y9, y10, y11, _, _⟩ := hRR.rbox; have H1 := Lib.hid hRR; clear hRR hbb))
  rw [put12_def]
  try rw [← hr1]
  clear hr1
  generalize Value.agg (s4.cells S r1) = vv
  obtain ⟨wZ, hZ⟩ : ∃ wZ, wZ = put12 w4 b0 S r1 s4 := ⟨_, rfl⟩
  have hRZ := H4.out.1.put H4.out.2.1 H4.out.2.2
  rw [← hZ] at hRZ ⊢
  have HZ := Lib.hid hRZ
  clear hRZ hZ
  have hze1 : r1.events.length ≤ 1000000 := by rw [HR1.out]; exact hze
  obtain ⟨y0, y1, y2, y3, y4, y5, y6, y7, y8, y9, y10, y11, _, _⟩ := (HZ.out).rbox
  go_wp2_with (go_at_call 52; refine (eventRef (HZ.out).ref ⟨2, 4, n, d, 0⟩ hze1).mono ?_; rintro e w6 ⟨s6, rfl, hs6, hr6, hb6⟩; have hRR := (HZ.out).later hb6; obtain ⟨q0, q1, q2, q3, q4, q5, q6, q7, q8, q9, q10, q11, qz, _⟩ := hRR.rres; have qz0 := qz 0; have qz1 := qz 1; have qz2 := qz 2; have qz3 := qz 3; have qz4 := qz 4; have qz5 := qz 5; have qz6 := qz 6; have qz7 := qz 7; have qz8 := qz 8; have qz9 := qz 9; have qz10 := qz 10; have qz11 := qz 11; have H6 := Lib.hid (⟨hRR, hr6, hs6⟩ : _ ∧ _ ∧ _); obtain ⟨r6, hr6e⟩ : ∃ x, x = eventR r1 ⟨2, 4, n, d, 0⟩ := ⟨_, rfl⟩; rw [← hr6e] at H6 ⊢; have HE6 := Lib.hid hr6e; clear hRR hr6 hs6 hb6 qz hr6e)
  rw [put12_def]
  obtain ⟨d1, d2, d3⟩ := (H6.out.1).hand H6.out.2.1 H6.out.2.2
  obtain ⟨z0, z1, z2, z3, z4, z5, z6, z7, z8, z9, z10, z11, _, _⟩ := d3
  generalize put12 w6 b2 S r6 s6 = w9 at *
  refine bodyPost_ret (v := .tuple #[.agg (s6.cells S r6), .int .i64 0]) (by simp [results, Try.results33, go_sem, z0, z1, z2, z3, z4, z5, z6, z7, z8, z9, z10, z11]) rfl ?_
  have hfin : r6 = eventR (rWith r n (rData r n ++ d)) ⟨2, 4, n, d, 0⟩ := by rw [HE6.out, HR1.out]
  rw [hfin] at d1 ⊢
  exact ⟨s6, rfl, H6.out.2.2.trans H4.out.2.2, d1, d2⟩
set_option maxHeartbeats 4000000 in
set_option maxRecDepth 100000 in
theorem writeC5 (h : RefAt w S r s) (n d : ByteArray) (hf : Fewer S r) (hp : ¬ rplace 5 n r.opn < 0) (hx1 : (lookX 3 (wname 5 n) S.fails).isSome = true) :
    Calls Try.prog 33 #[.agg (s.cells S r), .int .u8 5, .string n, .string d] w (WritePost w S r s 5 n d) := by
  have he : rWriteE S r 5 n = 14 := by unfold rWriteE; rw [if_neg (fun e => e.2.elim (fun e => e (by decide)) hp), if_pos hx1]
  have hx : rWriteS S r 5 n d = r := if_neg fun e => by have := e.1; rw [he] at this; exact absurd this (by decide)
  unfold WritePost
  rw [he, hx]
  have hzo : r.opn.length ≤ 1000000 := by have := hf.opn; omega
  have hzf := hf.files
  have hzx := hf.fails
  have hze := hf.events
  have hx2 : (lookX 3 n S.fails).isSome = true := hx1
  have HX := Lib.hid hx2
  clear hx1 hx2
  clear he hx
  have hR := Run.two h
  go_enter Try.func33, Try.ntmps33
  go_upto_region 1 with fail
  obtain ⟨wA, hA⟩ : ∃ wA, wA = (w.alloc (.cells (s.cells S r) 38)).alloc (.cells #[.slice none 0 0, .string ⟨#[]⟩, .slice none 0 0, .slice none 0 0, .int .i64 0, .int .i64 0, .int .u64 0, .slice none 0 0, .int .i64 0, .slice none 0 0, .int .u64 0, .slice none 0 0] 38) := ⟨_, rfl⟩
  rw [← hA] at hR ⊢
  clear hA
  generalize w.heap.size + 1 = b2 at *
  generalize w.heap.size = b0 at hR ⊢
  have HR := Lib.hid (⟨h, hR⟩ : _ ∧ _)
  clear h hR
  obtain ⟨y0, y1, y2, y3, y4, y5, y6, y7, y8, y9, y10, y11, _, _⟩ := (HR.out.2).rbox
  go_upto_region 6 with (first
    | (go_at_call 49; refine (failsRef H1.out.ref 3 n hzx).mono ?_; rintro e w2 ⟨rfl, hbb⟩; rw [HX.out]; have hRR := (H1.out).later hbb; obtain ⟨y0, y1, y2, y3, y4, y5, y6, y7, y8, y9, y10, y11, _, _⟩ := hRR.rbox; have H2 := Lib.hid hRR; clear hRR hbb)
    | (go_at_call 15; refine (findRef HR.out.2.ref 5 n hzo).mono ?_; rintro e w1 ⟨rfl, hbb⟩; have hRR := (HR.out.2).later hbb; obtain ⟨y0, y1, y2, y3, y4, y5, y6, y7, y8, y9, y10, y11, _, _⟩ := hRR.rbox; have H1 := Lib.hid hRR; clear hRR hbb))
  obtain ⟨y0, y1, y2, y3, y4, y5, y6, y7, y8, y9, y10, y11, _, _⟩ := (H2.out).rbox
  obtain ⟨q0, q1, q2, q3, q4, q5, q6, q7, q8, q9, q10, q11, qz, _⟩ := (H2.out).rres
  have qz0 := qz 0
  have qz1 := qz 1
  have qz2 := qz 2
  have qz3 := qz 3
  have qz4 := qz 4
  have qz5 := qz 5
  have qz6 := qz 6
  have qz7 := qz 7
  have qz8 := qz 8
  have qz9 := qz 9
  have qz10 := qz 10
  have qz11 := qz 11
  clear qz
  go_wp2_with fail
  rw [put12_def]
  obtain ⟨d1, d2, d3⟩ := (H2.out).done
  obtain ⟨z0, z1, z2, z3, z4, z5, z6, z7, z8, z9, z10, z11, _, _⟩ := d3
  generalize put12 w2 b2 S r s = w9 at *
  refine bodyPost_ret (v := .tuple #[.agg (s.cells S r), .int .i64 14]) (by simp [results, Try.results33, go_sem, z0, z1, z2, z3, z4, z5, z6, z7, z8, z9, z10, z11]) rfl ?_
  exact ⟨s, rfl, rfl, d1, d2⟩
set_option maxHeartbeats 4000000 in
set_option maxRecDepth 100000 in
theorem writeD5 (h : RefAt w S r s) (n d : ByteArray) (hf : Fewer S r) (hp : ¬ rplace 5 n r.opn < 0) (hx1 : (lookX 3 (wname 5 n) S.fails).isSome = false) (hd : d = noText) :
    Calls Try.prog 33 #[.agg (s.cells S r), .int .u8 5, .string n, .string d] w (WritePost w S r s 5 n d) := by
  have he : rWriteE S r 5 n = 0 := by unfold rWriteE; rw [if_neg (fun e => e.2.elim (fun e => e (by decide)) hp), if_neg (by rw [hx1]; decide)]
  have hx : rWriteS S r 5 n d = r := if_neg fun e => e.2 hd
  unfold WritePost
  rw [he, hx]
  have hzo : r.opn.length ≤ 1000000 := by have := hf.opn; omega
  have hzf := hf.files
  have hzx := hf.fails
  have hze := hf.events
  have hx2 : (lookX 3 n S.fails).isSome = false := hx1
  have HX := Lib.hid hx2
  clear hx1 hx2
  have hd0 : d.size = 0 := by rw [hd]; rfl
  clear hd
  clear he hx
  have hR := Run.two h
  go_enter Try.func33, Try.ntmps33
  go_upto_region 1 with fail
  obtain ⟨wA, hA⟩ : ∃ wA, wA = (w.alloc (.cells (s.cells S r) 38)).alloc (.cells #[.slice none 0 0, .string ⟨#[]⟩, .slice none 0 0, .slice none 0 0, .int .i64 0, .int .i64 0, .int .u64 0, .slice none 0 0, .int .i64 0, .slice none 0 0, .int .u64 0, .slice none 0 0] 38) := ⟨_, rfl⟩
  rw [← hA] at hR ⊢
  clear hA
  generalize w.heap.size + 1 = b2 at *
  generalize w.heap.size = b0 at hR ⊢
  have HR := Lib.hid (⟨h, hR⟩ : _ ∧ _)
  clear h hR
  obtain ⟨y0, y1, y2, y3, y4, y5, y6, y7, y8, y9, y10, y11, _, _⟩ := (HR.out.2).rbox
  go_upto_region 8 with (first
    | (go_at_call 49; refine (failsRef H1.out.ref 3 n hzx).mono ?_; rintro e w2 ⟨rfl, hbb⟩; rw [HX.out]; have hRR := (H1.out).later hbb; obtain ⟨y0, y1, y2, y3, y4, y5, y6, y7, y8, y9, y10, y11, _, _⟩ := hRR.rbox; have H2 := Lib.hid hRR; clear hRR hbb)
    | (go_at_call 15; refine (findRef HR.out.2.ref 5 n hzo).mono ?_; rintro e w1 ⟨rfl, hbb⟩; have hRR := (HR.out.2).later hbb; obtain ⟨y0, y1, y2, y3, y4, y5, y6, y7, y8, y9, y10, y11, _, _⟩ := hRR.rbox; have H1 := Lib.hid hRR; clear hRR hbb))
  obtain ⟨y0, y1, y2, y3, y4, y5, y6, y7, y8, y9, y10, y11, _, _⟩ := (H2.out).rbox
  obtain ⟨q0, q1, q2, q3, q4, q5, q6, q7, q8, q9, q10, q11, qz, _⟩ := (H2.out).rres
  have qz0 := qz 0
  have qz1 := qz 1
  have qz2 := qz 2
  have qz3 := qz 3
  have qz4 := qz 4
  have qz5 := qz 5
  have qz6 := qz 6
  have qz7 := qz 7
  have qz8 := qz 8
  have qz9 := qz 9
  have qz10 := qz 10
  have qz11 := qz 11
  clear qz
  go_wp2_with fail
  rw [put12_def]
  obtain ⟨d1, d2, d3⟩ := (H2.out).done
  obtain ⟨z0, z1, z2, z3, z4, z5, z6, z7, z8, z9, z10, z11, _, _⟩ := d3
  generalize put12 w2 b2 S r s = w9 at *
  refine bodyPost_ret (v := .tuple #[.agg (s.cells S r), .int .i64 0]) (by simp [results, Try.results33, go_sem, z0, z1, z2, z3, z4, z5, z6, z7, z8, z9, z10, z11]) rfl ?_
  exact ⟨s, rfl, rfl, d1, d2⟩
set_option maxHeartbeats 4000000 in
set_option maxRecDepth 100000 in
theorem writeE5 (h : RefAt w S r s) (n d : ByteArray) (hf : Fewer S r) (hp : ¬ rplace 5 n r.opn < 0) (hx1 : (lookX 3 (wname 5 n) S.fails).isSome = false) (hd : d ≠ noText) :
    Calls Try.prog 33 #[.agg (s.cells S r), .int .u8 5, .string n, .string d] w (WritePost w S r s 5 n d) := by
  have he : rWriteE S r 5 n = 0 := by unfold rWriteE; rw [if_neg (fun e => e.2.elim (fun e => e (by decide)) hp), if_neg (by rw [hx1]; decide)]
  have hx : rWriteS S r 5 n d = eventR r ⟨2, 5, n, d, 0⟩ := if_pos ⟨he, hd⟩
  unfold WritePost
  rw [he, hx]
  have hzo : r.opn.length ≤ 1000000 := by have := hf.opn; omega
  have hzf := hf.files
  have hzx := hf.fails
  have hze := hf.events
  have hx2 : (lookX 3 n S.fails).isSome = false := hx1
  have HX := Lib.hid hx2
  clear hx1 hx2
  have hd0 := noText_size hd
  clear hd
  clear he hx
  have hR := Run.two h
  go_enter Try.func33, Try.ntmps33
  go_upto_region 1 with fail
  obtain ⟨wA, hA⟩ : ∃ wA, wA = (w.alloc (.cells (s.cells S r) 38)).alloc (.cells #[.slice none 0 0, .string ⟨#[]⟩, .slice none 0 0, .slice none 0 0, .int .i64 0, .int .i64 0, .int .u64 0, .slice none 0 0, .int .i64 0, .slice none 0 0, .int .u64 0, .slice none 0 0] 38) := ⟨_, rfl⟩
  rw [← hA] at hR ⊢
  clear hA
  generalize w.heap.size + 1 = b2 at *
  generalize w.heap.size = b0 at hR ⊢
  have HR := Lib.hid (⟨h, hR⟩ : _ ∧ _)
  clear h hR
  obtain ⟨y0, y1, y2, y3, y4, y5, y6, y7, y8, y9, y10, y11, _, _⟩ := (HR.out.2).rbox
  go_upto_region 12 with (first
    | (go_at_call 49; refine (failsRef H1.out.ref 3 n hzx).mono ?_; rintro e w2 ⟨rfl, hbb⟩; rw [HX.out]; have hRR := (H1.out).later hbb; obtain ⟨y0, y1, y2, y3, y4, y5, y6, y7, y8, y9, y10, y11, _, _⟩ := hRR.rbox; have H2 := Lib.hid hRR; clear hRR hbb)
    | (go_at_call 15; refine (findRef HR.out.2.ref 5 n hzo).mono ?_; rintro e w1 ⟨rfl, hbb⟩; have hRR := (HR.out.2).later hbb; obtain ⟨y0, y1, y2, y3, y4, y5, y6, y7, y8, y9, y10, y11, _, _⟩ := hRR.rbox; have H1 := Lib.hid hRR; clear hRR hbb))
  obtain ⟨y0, y1, y2, y3, y4, y5, y6, y7, y8, y9, y10, y11, _, _⟩ := (H2.out).rbox
  go_wp2_with (go_at_call 52; refine (eventRef (H2.out).ref ⟨2, 5, n, d, 0⟩ hze).mono ?_; rintro e w6 ⟨s6, rfl, hs6, hr6, hb6⟩; have hRR := (H2.out).later hb6; obtain ⟨q0, q1, q2, q3, q4, q5, q6, q7, q8, q9, q10, q11, qz, _⟩ := hRR.rres; have qz0 := qz 0; have qz1 := qz 1; have qz2 := qz 2; have qz3 := qz 3; have qz4 := qz 4; have qz5 := qz 5; have qz6 := qz 6; have qz7 := qz 7; have qz8 := qz 8; have qz9 := qz 9; have qz10 := qz 10; have qz11 := qz 11; have H6 := Lib.hid (⟨hRR, hr6, hs6⟩ : _ ∧ _ ∧ _); obtain ⟨r6, hr6e⟩ : ∃ x, x = eventR r ⟨2, 5, n, d, 0⟩ := ⟨_, rfl⟩; rw [← hr6e] at H6 ⊢; have HE6 := Lib.hid hr6e; clear hRR hr6 hs6 hb6 qz hr6e)
  rw [put12_def]
  obtain ⟨d1, d2, d3⟩ := (H6.out.1).hand H6.out.2.1 H6.out.2.2
  obtain ⟨z0, z1, z2, z3, z4, z5, z6, z7, z8, z9, z10, z11, _, _⟩ := d3
  generalize put12 w6 b2 S r6 s6 = w9 at *
  refine bodyPost_ret (v := .tuple #[.agg (s6.cells S r6), .int .i64 0]) (by simp [results, Try.results33, go_sem, z0, z1, z2, z3, z4, z5, z6, z7, z8, z9, z10, z11]) rfl ?_
  obtain rfl := HE6.out
  exact ⟨s6, rfl, H6.out.2.2, d1, d2⟩
set_option maxHeartbeats 4000000 in
set_option maxRecDepth 100000 in
theorem writeC6 (h : RefAt w S r s) (n d : ByteArray) (hf : Fewer S r) (hx1 : (lookX 3 (wname 6 n) S.fails).isSome = true) :
    Calls Try.prog 33 #[.agg (s.cells S r), .int .u8 6, .string n, .string d] w (WritePost w S r s 6 n d) := by
  have he : rWriteE S r 6 n = 14 := by unfold rWriteE; rw [if_neg (fun e => e.1 rfl), if_pos hx1]
  have hx : rWriteS S r 6 n d = r := if_neg fun e => by have := e.1; rw [he] at this; exact absurd this (by decide)
  unfold WritePost
  rw [he, hx]
  have hzo : r.opn.length ≤ 1000000 := by have := hf.opn; omega
  have hzf := hf.files
  have hzx := hf.fails
  have hze := hf.events
  have hx2 : (lookX 3 noText S.fails).isSome = true := hx1
  have HX := Lib.hid hx2
  clear hx1 hx2
  clear he hx
  have hR := Run.two h
  go_enter Try.func33, Try.ntmps33
  go_upto_region 1 with fail
  obtain ⟨wA, hA⟩ : ∃ wA, wA = (w.alloc (.cells (s.cells S r) 38)).alloc (.cells #[.slice none 0 0, .string ⟨#[]⟩, .slice none 0 0, .slice none 0 0, .int .i64 0, .int .i64 0, .int .u64 0, .slice none 0 0, .int .i64 0, .slice none 0 0, .int .u64 0, .slice none 0 0] 38) := ⟨_, rfl⟩
  rw [← hA] at hR ⊢
  clear hA
  generalize w.heap.size + 1 = b2 at *
  generalize w.heap.size = b0 at hR ⊢
  have HR := Lib.hid (⟨h, hR⟩ : _ ∧ _)
  clear h hR
  obtain ⟨y0, y1, y2, y3, y4, y5, y6, y7, y8, y9, y10, y11, _, _⟩ := (HR.out.2).rbox
  go_upto_region 6 with (first
    | (go_at_call 49; refine (failsRef HR.out.2.ref 3 noText hzx).mono ?_; rintro e w2 ⟨rfl, hbb⟩; rw [HX.out]; have hRR := (HR.out.2).later hbb; obtain ⟨y0, y1, y2, y3, y4, y5, y6, y7, y8, y9, y10, y11, _, _⟩ := hRR.rbox; have H2 := Lib.hid hRR; clear hRR hbb))
  obtain ⟨y0, y1, y2, y3, y4, y5, y6, y7, y8, y9, y10, y11, _, _⟩ := (H2.out).rbox
  obtain ⟨q0, q1, q2, q3, q4, q5, q6, q7, q8, q9, q10, q11, qz, _⟩ := (H2.out).rres
  have qz0 := qz 0
  have qz1 := qz 1
  have qz2 := qz 2
  have qz3 := qz 3
  have qz4 := qz 4
  have qz5 := qz 5
  have qz6 := qz 6
  have qz7 := qz 7
  have qz8 := qz 8
  have qz9 := qz 9
  have qz10 := qz 10
  have qz11 := qz 11
  clear qz
  go_wp2_with fail
  rw [put12_def]
  obtain ⟨d1, d2, d3⟩ := (H2.out).done
  obtain ⟨z0, z1, z2, z3, z4, z5, z6, z7, z8, z9, z10, z11, _, _⟩ := d3
  generalize put12 w2 b2 S r s = w9 at *
  refine bodyPost_ret (v := .tuple #[.agg (s.cells S r), .int .i64 14]) (by simp [results, Try.results33, go_sem, z0, z1, z2, z3, z4, z5, z6, z7, z8, z9, z10, z11]) rfl ?_
  exact ⟨s, rfl, rfl, d1, d2⟩
set_option maxHeartbeats 4000000 in
set_option maxRecDepth 100000 in
theorem writeD6 (h : RefAt w S r s) (n d : ByteArray) (hf : Fewer S r) (hx1 : (lookX 3 (wname 6 n) S.fails).isSome = false) (hd : d = noText) :
    Calls Try.prog 33 #[.agg (s.cells S r), .int .u8 6, .string n, .string d] w (WritePost w S r s 6 n d) := by
  have he : rWriteE S r 6 n = 0 := by unfold rWriteE; rw [if_neg (fun e => e.1 rfl), if_neg (by rw [hx1]; decide)]
  have hx : rWriteS S r 6 n d = r := if_neg fun e => e.2 hd
  unfold WritePost
  rw [he, hx]
  have hzo : r.opn.length ≤ 1000000 := by have := hf.opn; omega
  have hzf := hf.files
  have hzx := hf.fails
  have hze := hf.events
  have hx2 : (lookX 3 noText S.fails).isSome = false := hx1
  have HX := Lib.hid hx2
  clear hx1 hx2
  have hd0 : d.size = 0 := by rw [hd]; rfl
  clear hd
  clear he hx
  have hR := Run.two h
  go_enter Try.func33, Try.ntmps33
  go_upto_region 1 with fail
  obtain ⟨wA, hA⟩ : ∃ wA, wA = (w.alloc (.cells (s.cells S r) 38)).alloc (.cells #[.slice none 0 0, .string ⟨#[]⟩, .slice none 0 0, .slice none 0 0, .int .i64 0, .int .i64 0, .int .u64 0, .slice none 0 0, .int .i64 0, .slice none 0 0, .int .u64 0, .slice none 0 0] 38) := ⟨_, rfl⟩
  rw [← hA] at hR ⊢
  clear hA
  generalize w.heap.size + 1 = b2 at *
  generalize w.heap.size = b0 at hR ⊢
  have HR := Lib.hid (⟨h, hR⟩ : _ ∧ _)
  clear h hR
  obtain ⟨y0, y1, y2, y3, y4, y5, y6, y7, y8, y9, y10, y11, _, _⟩ := (HR.out.2).rbox
  go_upto_region 8 with (first
    | (go_at_call 49; refine (failsRef HR.out.2.ref 3 noText hzx).mono ?_; rintro e w2 ⟨rfl, hbb⟩; rw [HX.out]; have hRR := (HR.out.2).later hbb; obtain ⟨y0, y1, y2, y3, y4, y5, y6, y7, y8, y9, y10, y11, _, _⟩ := hRR.rbox; have H2 := Lib.hid hRR; clear hRR hbb))
  obtain ⟨y0, y1, y2, y3, y4, y5, y6, y7, y8, y9, y10, y11, _, _⟩ := (H2.out).rbox
  obtain ⟨q0, q1, q2, q3, q4, q5, q6, q7, q8, q9, q10, q11, qz, _⟩ := (H2.out).rres
  have qz0 := qz 0
  have qz1 := qz 1
  have qz2 := qz 2
  have qz3 := qz 3
  have qz4 := qz 4
  have qz5 := qz 5
  have qz6 := qz 6
  have qz7 := qz 7
  have qz8 := qz 8
  have qz9 := qz 9
  have qz10 := qz 10
  have qz11 := qz 11
  clear qz
  go_wp2_with fail
  rw [put12_def]
  obtain ⟨d1, d2, d3⟩ := (H2.out).done
  obtain ⟨z0, z1, z2, z3, z4, z5, z6, z7, z8, z9, z10, z11, _, _⟩ := d3
  generalize put12 w2 b2 S r s = w9 at *
  refine bodyPost_ret (v := .tuple #[.agg (s.cells S r), .int .i64 0]) (by simp [results, Try.results33, go_sem, z0, z1, z2, z3, z4, z5, z6, z7, z8, z9, z10, z11]) rfl ?_
  exact ⟨s, rfl, rfl, d1, d2⟩
set_option maxHeartbeats 4000000 in
set_option maxRecDepth 100000 in
theorem writeE6 (h : RefAt w S r s) (n d : ByteArray) (hf : Fewer S r) (hx1 : (lookX 3 (wname 6 n) S.fails).isSome = false) (hd : d ≠ noText) :
    Calls Try.prog 33 #[.agg (s.cells S r), .int .u8 6, .string n, .string d] w (WritePost w S r s 6 n d) := by
  have he : rWriteE S r 6 n = 0 := by unfold rWriteE; rw [if_neg (fun e => e.1 rfl), if_neg (by rw [hx1]; decide)]
  have hx : rWriteS S r 6 n d = eventR r ⟨2, 6, noText, d, 0⟩ := if_pos ⟨he, hd⟩
  unfold WritePost
  rw [he, hx]
  have hzo : r.opn.length ≤ 1000000 := by have := hf.opn; omega
  have hzf := hf.files
  have hzx := hf.fails
  have hze := hf.events
  have hx2 : (lookX 3 noText S.fails).isSome = false := hx1
  have HX := Lib.hid hx2
  clear hx1 hx2
  have hd0 := noText_size hd
  clear hd
  clear he hx
  have hR := Run.two h
  go_enter Try.func33, Try.ntmps33
  go_upto_region 1 with fail
  obtain ⟨wA, hA⟩ : ∃ wA, wA = (w.alloc (.cells (s.cells S r) 38)).alloc (.cells #[.slice none 0 0, .string ⟨#[]⟩, .slice none 0 0, .slice none 0 0, .int .i64 0, .int .i64 0, .int .u64 0, .slice none 0 0, .int .i64 0, .slice none 0 0, .int .u64 0, .slice none 0 0] 38) := ⟨_, rfl⟩
  rw [← hA] at hR ⊢
  clear hA
  generalize w.heap.size + 1 = b2 at *
  generalize w.heap.size = b0 at hR ⊢
  have HR := Lib.hid (⟨h, hR⟩ : _ ∧ _)
  clear h hR
  obtain ⟨y0, y1, y2, y3, y4, y5, y6, y7, y8, y9, y10, y11, _, _⟩ := (HR.out.2).rbox
  go_upto_region 12 with (first
    | (go_at_call 49; refine (failsRef HR.out.2.ref 3 noText hzx).mono ?_; rintro e w2 ⟨rfl, hbb⟩; rw [HX.out]; have hRR := (HR.out.2).later hbb; obtain ⟨y0, y1, y2, y3, y4, y5, y6, y7, y8, y9, y10, y11, _, _⟩ := hRR.rbox; have H2 := Lib.hid hRR; clear hRR hbb))
  obtain ⟨y0, y1, y2, y3, y4, y5, y6, y7, y8, y9, y10, y11, _, _⟩ := (H2.out).rbox
  go_wp2_with (go_at_call 52; refine (eventRef (H2.out).ref ⟨2, 6, noText, d, 0⟩ hze).mono ?_; rintro e w6 ⟨s6, rfl, hs6, hr6, hb6⟩; have hRR := (H2.out).later hb6; obtain ⟨q0, q1, q2, q3, q4, q5, q6, q7, q8, q9, q10, q11, qz, _⟩ := hRR.rres; have qz0 := qz 0; have qz1 := qz 1; have qz2 := qz 2; have qz3 := qz 3; have qz4 := qz 4; have qz5 := qz 5; have qz6 := qz 6; have qz7 := qz 7; have qz8 := qz 8; have qz9 := qz 9; have qz10 := qz 10; have qz11 := qz 11; have H6 := Lib.hid (⟨hRR, hr6, hs6⟩ : _ ∧ _ ∧ _); obtain ⟨r6, hr6e⟩ : ∃ x, x = eventR r ⟨2, 6, noText, d, 0⟩ := ⟨_, rfl⟩; rw [← hr6e] at H6 ⊢; have HE6 := Lib.hid hr6e; clear hRR hr6 hs6 hb6 qz hr6e)
  rw [put12_def]
  obtain ⟨d1, d2, d3⟩ := (H6.out.1).hand H6.out.2.1 H6.out.2.2
  obtain ⟨z0, z1, z2, z3, z4, z5, z6, z7, z8, z9, z10, z11, _, _⟩ := d3
  generalize put12 w6 b2 S r6 s6 = w9 at *
  refine bodyPost_ret (v := .tuple #[.agg (s6.cells S r6), .int .i64 0]) (by simp [results, Try.results33, go_sem, z0, z1, z2, z3, z4, z5, z6, z7, z8, z9, z10, z11]) rfl ?_
  obtain rfl := HE6.out
  exact ⟨s6, rfl, H6.out.2.2, d1, d2⟩
end
end Go.Proofs.Ythbkcdbmimhhkaa.Rw
