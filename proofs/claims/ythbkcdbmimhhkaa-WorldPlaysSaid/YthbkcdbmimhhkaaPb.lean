/-
  WorldPlays: one call of both worlds (writing).
-/
import Derived.Test.YthbkcdbmimhhkaaPlG
import Derived.Test.YthbkcdbmimhhkaaPlH
namespace Go.Proofs.Ythbkcdbmimhhkaa.Rw
open Go.RowKit Go.Maps Wo
section
variable {w0 w : World} {B : Nat} {S : Scpt} {st : St} {r : RSt} {s : Shp} {bx : List Nat} {j : Nat} {k : Int} {n d : ByteArray} {m : Int}
set_option maxHeartbeats 4000000 in
set_option maxRecDepth 100000 in
theorem one3 (h : Duo w0 w B S st r s bx) (hi : Its j S st r k n d m) :
    Calls Try.prog 10 #[ptr B, .agg (s.cells S r), .agg #[.int .i64 3, .int .u8 k, .string n, .string d, .int .i64 m]] w (OnePost w0 w B S bx j) := by
  have HK := Lib.hid h.uniq.2
  have hI := In1.start h #[.int .i64 3, .int .u8 k, .string n, .string d, .int .i64 m]
  go_enter Try.func10, Try.ntmps10
  go_upto_region 1 with fail
  obtain ⟨wA, hA⟩ : ∃ wA, wA = (((w.alloc (.cells (s.cells S r) 38)).alloc (.cells #[.int .i64 3, .int .u8 k, .string n, .string d, .int .i64 m] 43)).alloc (.cells #[.slice none 0 0, .string ⟨#[]⟩, .slice none 0 0, .slice none 0 0, .int .i64 0, .int .i64 0, .int .u64 0, .slice none 0 0, .int .i64 0, .slice none 0 0, .int .u64 0, .slice none 0 0] 38)) := ⟨_, rfl⟩
  rw [← hA] at hI ⊢
  clear hA
  generalize w.heap.size + 1 + 1 = b6 at *
  generalize w.heap.size + 1 = b5 at *
  generalize w.heap.size = b4 at hI ⊢
  have HI := Lib.hid hI
  have HH := Lib.hid hi
  clear h hI hi
  obtain ⟨y0, y1, y2, y3, y4, y5, y6, y7, y8, y9, y10, y11, _, _⟩ := HI.out.box
  have o0 : wA.cell? ⟨b5, 0, none⟩ = some (.int .i64 3) := HI.out.cell 0
  have o1 : wA.cell? ⟨b5, 1, none⟩ = some (.int .u8 k) := HI.out.cell 1
  have o2 : wA.cell? ⟨b5, 2, none⟩ = some (.string n) := HI.out.cell 2
  have o3 : wA.cell? ⟨b5, 3, none⟩ = some (.string d) := HI.out.cell 3
  go_upto_region 14 with (go_at_call 22; refine (HI.out.duo.write HH.out.k0 HH.out.small HH.out.made (Nat.le_trans HH.out.strms (by decide)) (Nat.le_trans HH.out.trace (by decide)) HH.out.fsize).mono ?_; rintro e w2 ⟨rfl, hd, hq⟩; have H2 := Lib.hid (HI.out.step hd hq); clear hd hq y0 y1 y2 y3 y4 y5 y6 y7 y8 y9 y10 y11 o1 o2 o3; obtain ⟨y0, y1, y2, y3, y4, y5, y6, y7, y8, y9, y10, y11, _, _⟩ := H2.out.box; have o1 : w2.cell? ⟨b5, 1, none⟩ = some (.int .u8 k) := H2.out.cell 1; have o2 : w2.cell? ⟨b5, 2, none⟩ = some (.string n) := H2.out.cell 2; have o3 : w2.cell? ⟨b5, 3, none⟩ = some (.string d) := H2.out.cell 3; rw [HH.out.ag.writeE HK.out]; generalize hx : rWriteE S r k n = x; have HX := Lib.hid hx; clear hx)
  go_upto_region 29 with (go_at_call 33; refine (H2.out.duo.written k n d HH.out.few HH.out.size (by have := HH.out.d0; omega)).mono ?_; rintro e w3 ⟨s2, rfl, hd, hq⟩; obtain ⟨r2, hr2⟩ : ∃ x, x = rWriteS S r k n d := ⟨_, rfl⟩; rw [← hr2] at hd ⊢; rw [HX.out]; have HN := Lib.hid hr2; have H3 := Lib.hid (H2.out.step hd hq); clear hr2 hd hq y0 y1 y2 y3 y4 y5 y6 y7 y8 y9 y10 y11 o1 o2 o3; obtain ⟨y0, y1, y2, y3, y4, y5, y6, y7, y8, y9, y10, y11, qz, _⟩ := H3.out.box; have qz0 := qz 0; have qz1 := qz 1; have qz2 := qz 2; have qz3 := qz 3; have qz4 := qz 4; have qz5 := qz 5; have qz6 := qz 6; have qz7 := qz 7; have qz8 := qz 8; have qz9 := qz 9; have qz10 := qz 10; have qz11 := qz 11; clear qz)
  rw [put12_def]
  have hP := H3.out.put
  generalize put12 w3 b4 S r2 s2 = wP at *
  have HP := Lib.hid hP
  clear hP y0 y1 y2 y3 y4 y5 y6 y7 y8 y9 y10 y11 qz0 qz1 qz2 qz3 qz4 qz5 qz6 qz7 qz8 qz9 qz10 qz11
  obtain ⟨y0, y1, y2, y3, y4, y5, y6, y7, y8, y9, y10, y11, _, _⟩ := HP.out.box
  obtain ⟨q0, q1, q2, q3, q4, q5, q6, q7, q8, q9, q10, q11, qz, _⟩ := HP.out.rres
  have qz0 := qz 0
  have qz1 := qz 1
  have qz2 := qz 2
  have qz3 := qz 3
  have qz4 := qz 4
  have qz5 := qz 5
  have qz6 := qz 6
  have qz7 := qz 7
  have qz8 := qz 8
  have qz9 := qz 9
  have qz10 := qz 10
  have qz11 := qz 11
  clear qz
  go_wp2_with fail
  rw [put12_def]
  obtain ⟨d1, d2, d3⟩ := HP.out.fin
  obtain ⟨z0, z1, z2, z3, z4, z5, z6, z7, z8, z9, z10, z11, _, _⟩ := d3
  generalize put12 wP b6 S r2 s2 = w9 at *
  refine bodyPost_ret (v := .tuple #[.agg (s2.cells S r2), .bool true]) (by simp [results, Try.results10, go_sem, z0, z1, z2, z3, z4, z5, z6, z7, z8, z9, z10, z11]) rfl ?_
  obtain rfl := HN.out
  exact ⟨_, _, s2, rfl, d1, d2, HH.out.ag.writeS HK.out k n d, HH.out.bd.wrote k n d HH.out.n0 HH.out.d0⟩
end
end Go.Proofs.Ythbkcdbmimhhkaa.Rw

/-
  WorldPlays: one call of both worlds (closing).
-/
namespace Go.Proofs.Ythbkcdbmimhhkaa.Rw
open Go.RowKit Go.Maps Wo
section
variable {w0 w : World} {B : Nat} {S : Scpt} {st : St} {r : RSt} {s : Shp} {bx : List Nat} {j : Nat} {k : Int} {n d : ByteArray} {m : Int}
set_option maxHeartbeats 4000000 in
set_option maxRecDepth 100000 in
theorem one4 (h : Duo w0 w B S st r s bx) (hi : Its j S st r k n d m) :
    Calls Try.prog 10 #[ptr B, .agg (s.cells S r), .agg #[.int .i64 4, .int .u8 k, .string n, .string d, .int .i64 m]] w (OnePost w0 w B S bx j) := by
  have HC := Lib.hid (hi.ag.close h.uniq.1 h.uniq.2 n)
  have hI := In1.start h #[.int .i64 4, .int .u8 k, .string n, .string d, .int .i64 m]
  go_enter Try.func10, Try.ntmps10
  go_upto_region 1 with fail
  obtain ⟨wA, hA⟩ : ∃ wA, wA = (((w.alloc (.cells (s.cells S r) 38)).alloc (.cells #[.int .i64 4, .int .u8 k, .string n, .string d, .int .i64 m] 43)).alloc (.cells #[.slice none 0 0, .string ⟨#[]⟩, .slice none 0 0, .slice none 0 0, .int .i64 0, .int .i64 0, .int .u64 0, .slice none 0 0, .int .i64 0, .slice none 0 0, .int .u64 0, .slice none 0 0] 38)) := ⟨_, rfl⟩
  rw [← hA] at hI ⊢
  clear hA
  generalize w.heap.size + 1 + 1 = b6 at *
  generalize w.heap.size + 1 = b5 at *
  generalize w.heap.size = b4 at hI ⊢
  have HI := Lib.hid hI
  have HH := Lib.hid hi
  clear h hI hi
  obtain ⟨y0, y1, y2, y3, y4, y5, y6, y7, y8, y9, y10, y11, _, _⟩ := HI.out.box
  have o0 : wA.cell? ⟨b5, 0, none⟩ = some (.int .i64 4) := HI.out.cell 0
  have o2 : wA.cell? ⟨b5, 2, none⟩ = some (.string n) := HI.out.cell 2
  go_upto_region 17 with (go_at_call 23; refine (HI.out.duo.close HH.out.small (Nat.le_trans HH.out.strms (by decide)) (Nat.le_trans HH.out.trace (by decide))).mono ?_; rintro e w2 ⟨rfl, hd, hq⟩; have H2 := Lib.hid (HI.out.step hd hq); clear hd hq y0 y1 y2 y3 y4 y5 y6 y7 y8 y9 y10 y11 o2; obtain ⟨y0, y1, y2, y3, y4, y5, y6, y7, y8, y9, y10, y11, _, _⟩ := H2.out.box; have o2 : w2.cell? ⟨b5, 2, none⟩ = some (.string n) := H2.out.cell 2; rw [show (closeTo n 5 (st, 0, false)).2.1 = (rCloseTo S r n 5).2.1 from by rw [HC.out.2.1], show (closeTo n 5 (st, 0, false)).2.2 = (rCloseTo S r n 5).2.2 from by rw [HC.out.2.1]]; generalize hx : (rCloseTo S r n 5).2.1 = x; generalize hz : (rCloseTo S r n 5).2.2 = z; have HX := Lib.hid hx; have HZ := Lib.hid hz; clear hx hz)
  go_upto_region 29 with (go_at_call 34; refine (H2.out.duo.closed n HH.out.few (by have := HH.out.trace; rw [HH.out.ag.trace] at this; omega)).mono ?_; rintro e w3 ⟨s2, rfl, hd, hq⟩; obtain ⟨r2, hr2⟩ : ∃ x, x = rCloseS S r n := ⟨_, rfl⟩; rw [← hr2] at hd ⊢; rw [HX.out, HZ.out]; have HN := Lib.hid hr2; have H3 := Lib.hid (H2.out.step hd hq); clear hr2 hd hq y0 y1 y2 y3 y4 y5 y6 y7 y8 y9 y10 y11 o2; obtain ⟨y0, y1, y2, y3, y4, y5, y6, y7, y8, y9, y10, y11, qz, _⟩ := H3.out.box; have qz0 := qz 0; have qz1 := qz 1; have qz2 := qz 2; have qz3 := qz 3; have qz4 := qz 4; have qz5 := qz 5; have qz6 := qz 6; have qz7 := qz 7; have qz8 := qz 8; have qz9 := qz 9; have qz10 := qz 10; have qz11 := qz 11; clear qz)
  rw [put12_def]
  have hP := H3.out.put
  generalize put12 w3 b4 S r2 s2 = wP at *
  have HP := Lib.hid hP
  clear hP y0 y1 y2 y3 y4 y5 y6 y7 y8 y9 y10 y11 qz0 qz1 qz2 qz3 qz4 qz5 qz6 qz7 qz8 qz9 qz10 qz11
  obtain ⟨y0, y1, y2, y3, y4, y5, y6, y7, y8, y9, y10, y11, _, _⟩ := HP.out.box
  obtain ⟨q0, q1, q2, q3, q4, q5, q6, q7, q8, q9, q10, q11, qz, _⟩ := HP.out.rres
  have qz0 := qz 0
  have qz1 := qz 1
  have qz2 := qz 2
  have qz3 := qz 3
  have qz4 := qz 4
  have qz5 := qz 5
  have qz6 := qz 6
  have qz7 := qz 7
  have qz8 := qz 8
  have qz9 := qz 9
  have qz10 := qz 10
  have qz11 := qz 11
  clear qz
  go_wp2_with fail
  rw [put12_def]
  obtain ⟨d1, d2, d3⟩ := HP.out.fin
  obtain ⟨z0, z1, z2, z3, z4, z5, z6, z7, z8, z9, z10, z11, _, _⟩ := d3
  generalize put12 wP b6 S r2 s2 = w9 at *
  refine bodyPost_ret (v := .tuple #[.agg (s2.cells S r2), .bool true]) (by simp [results, Try.results10, go_sem, z0, z1, z2, z3, z4, z5, z6, z7, z8, z9, z10, z11]) rfl ?_
  obtain rfl := HN.out
  exact ⟨_, _, s2, rfl, d1, d2, HC.out.1, HH.out.bd.close n⟩
end
end Go.Proofs.Ythbkcdbmimhhkaa.Rw

/-
  WorldPlays: one call of both worlds (running).
-/
namespace Go.Proofs.Ythbkcdbmimhhkaa.Rw
open Go.RowKit Go.Maps Wo
section
variable {w0 w : World} {B : Nat} {S : Scpt} {st : St} {r : RSt} {s : Shp} {bx : List Nat} {j : Nat} {k : Int} {n d : ByteArray} {m : Int}
set_option maxHeartbeats 4000000 in
set_option maxRecDepth 100000 in
theorem one5 (h : Duo w0 w B S st r s bx) (hi : Its j S st r k n d m) :
    Calls Try.prog 10 #[ptr B, .agg (s.cells S r), .agg #[.int .i64 5, .int .u8 k, .string n, .string d, .int .i64 m]] w (OnePost w0 w B S bx j) := by
  have hI := In1.start h #[.int .i64 5, .int .u8 k, .string n, .string d, .int .i64 m]
  go_enter Try.func10, Try.ntmps10
  go_upto_region 1 with fail
  obtain ⟨wA, hA⟩ : ∃ wA, wA = (((w.alloc (.cells (s.cells S r) 38)).alloc (.cells #[.int .i64 5, .int .u8 k, .string n, .string d, .int .i64 m] 43)).alloc (.cells #[.slice none 0 0, .string ⟨#[]⟩, .slice none 0 0, .slice none 0 0, .int .i64 0, .int .i64 0, .int .u64 0, .slice none 0 0, .int .i64 0, .slice none 0 0, .int .u64 0, .slice none 0 0] 38)) := ⟨_, rfl⟩
  rw [← hA] at hI ⊢
  clear hA
  generalize w.heap.size + 1 + 1 = b6 at *
  generalize w.heap.size + 1 = b5 at *
  generalize w.heap.size = b4 at hI ⊢
  have HI := Lib.hid hI
  have HH := Lib.hid hi
  clear h hI hi
  obtain ⟨y0, y1, y2, y3, y4, y5, y6, y7, y8, y9, y10, y11, _, _⟩ := HI.out.box
  have o0 : wA.cell? ⟨b5, 0, none⟩ = some (.int .i64 5) := HI.out.cell 0
  have o2 : wA.cell? ⟨b5, 2, none⟩ = some (.string n) := HI.out.cell 2
  go_upto_region 20 with (go_at_call 28; refine (HI.out.duo.system HH.out.small (Nat.le_trans HH.out.trace (by decide))).mono ?_; rintro e w2 ⟨rfl, hd, hq⟩; have H2 := Lib.hid (HI.out.step hd hq); clear hd hq y0 y1 y2 y3 y4 y5 y6 y7 y8 y9 y10 y11 o2; obtain ⟨y0, y1, y2, y3, y4, y5, y6, y7, y8, y9, y10, y11, _, _⟩ := H2.out.box; have o2 : w2.cell? ⟨b5, 2, none⟩ = some (.string n) := H2.out.cell 2; rw [(HH.out.ag.sysM n).1, (HH.out.ag.sysM n).2]; generalize hx : rSysM S n = x; generalize hz : rSysE S n = z; have HX := Lib.hid hx; have HZ := Lib.hid hz; clear hx hz)
  go_upto_region 29 with (go_at_call 35; refine (H2.out.duo.ran n HH.out.few).mono ?_; rintro e w3 ⟨s2, rfl, hd, hq⟩; obtain ⟨r2, hr2⟩ : ∃ x, x = rSysS S r n := ⟨_, rfl⟩; rw [← hr2] at hd ⊢; rw [HX.out, HZ.out]; have HN := Lib.hid hr2; have H3 := Lib.hid (H2.out.step hd hq); clear hr2 hd hq y0 y1 y2 y3 y4 y5 y6 y7 y8 y9 y10 y11 o2; obtain ⟨y0, y1, y2, y3, y4, y5, y6, y7, y8, y9, y10, y11, qz, _⟩ := H3.out.box; have qz0 := qz 0; have qz1 := qz 1; have qz2 := qz 2; have qz3 := qz 3; have qz4 := qz 4; have qz5 := qz 5; have qz6 := qz 6; have qz7 := qz 7; have qz8 := qz 8; have qz9 := qz 9; have qz10 := qz 10; have qz11 := qz 11; clear qz)
  rw [put12_def]
  have hP := H3.out.put
  generalize put12 w3 b4 S r2 s2 = wP at *
  have HP := Lib.hid hP
  clear hP y0 y1 y2 y3 y4 y5 y6 y7 y8 y9 y10 y11 qz0 qz1 qz2 qz3 qz4 qz5 qz6 qz7 qz8 qz9 qz10 qz11
  obtain ⟨y0, y1, y2, y3, y4, y5, y6, y7, y8, y9, y10, y11, _, _⟩ := HP.out.box
  obtain ⟨q0, q1, q2, q3, q4, q5, q6, q7, q8, q9, q10, q11, qz, _⟩ := HP.out.rres
  have qz0 := qz 0
  have qz1 := qz 1
  have qz2 := qz 2
  have qz3 := qz 3
  have qz4 := qz 4
  have qz5 := qz 5
  have qz6 := qz 6
  have qz7 := qz 7
  have qz8 := qz 8
  have qz9 := qz 9
  have qz10 := qz 10
  have qz11 := qz 11
  clear qz
  go_wp2_with fail
  rw [put12_def]
  obtain ⟨d1, d2, d3⟩ := HP.out.fin
  obtain ⟨z0, z1, z2, z3, z4, z5, z6, z7, z8, z9, z10, z11, _, _⟩ := d3
  generalize put12 wP b6 S r2 s2 = w9 at *
  refine bodyPost_ret (v := .tuple #[.agg (s2.cells S r2), .bool true]) (by simp [results, Try.results10, go_sem, z0, z1, z2, z3, z4, z5, z6, z7, z8, z9, z10, z11]) rfl ?_
  obtain rfl := HN.out
  exact ⟨_, _, s2, rfl, d1, d2, HH.out.ag.sysS n, HH.out.bd.sys n⟩
end
end Go.Proofs.Ythbkcdbmimhhkaa.Rw

/-
  WorldPlays: one call of both worlds (closing all).
-/
namespace Go.Proofs.Ythbkcdbmimhhkaa.Rw
open Go.RowKit Go.Maps Wo
section
variable {w0 w : World} {B : Nat} {S : Scpt} {st : St} {r : RSt} {s : Shp} {bx : List Nat} {j : Nat} {k : Int} {n d : ByteArray} {m : Int}
set_option maxHeartbeats 4000000 in
set_option maxRecDepth 100000 in
theorem one6 (h : Duo w0 w B S st r s bx) (hi : Its j S st r k n d m) :
    Calls Try.prog 10 #[ptr B, .agg (s.cells S r), .agg #[.int .i64 6, .int .u8 k, .string n, .string d, .int .i64 m]] w (OnePost w0 w B S bx j) := by
  have HK := Lib.hid h.uniq
  have hI := In1.start h #[.int .i64 6, .int .u8 k, .string n, .string d, .int .i64 m]
  go_enter Try.func10, Try.ntmps10
  go_upto_region 1 with fail
  obtain ⟨wA, hA⟩ : ∃ wA, wA = (((w.alloc (.cells (s.cells S r) 38)).alloc (.cells #[.int .i64 6, .int .u8 k, .string n, .string d, .int .i64 m] 43)).alloc (.cells #[.slice none 0 0, .string ⟨#[]⟩, .slice none 0 0, .slice none 0 0, .int .i64 0, .int .i64 0, .int .u64 0, .slice none 0 0, .int .i64 0, .slice none 0 0, .int .u64 0, .slice none 0 0] 38)) := ⟨_, rfl⟩
  rw [← hA] at hI ⊢
  clear hA
  generalize w.heap.size + 1 + 1 = b6 at *
  generalize w.heap.size + 1 = b5 at *
  generalize w.heap.size = b4 at hI ⊢
  have HI := Lib.hid hI
  have HH := Lib.hid hi
  clear h hI hi
  obtain ⟨y0, y1, y2, y3, y4, y5, y6, y7, y8, y9, y10, y11, _, _⟩ := HI.out.box
  have o0 : wA.cell? ⟨b5, 0, none⟩ = some (.int .i64 6) := HI.out.cell 0
  go_upto_region 23 with (go_at_call 25; refine (HI.out.duo.closeAll HH.out.strms HH.out.trace).mono ?_; rintro e w2 ⟨st2, ⟨rfl, i1, hi1, hst, hn1⟩, hd, hq⟩; have H2 := Lib.hid (HI.out.step hd hq); have HP1 := Lib.hid (⟨hi1, hst, hn1⟩ : _ ∧ _ ∧ _); clear hi1 hst hn1 hd hq y0 y1 y2 y3 y4 y5 y6 y7 y8 y9 y10 y11 ; obtain ⟨y0, y1, y2, y3, y4, y5, y6, y7, y8, y9, y10, y11, _, _⟩ := H2.out.box)
  go_upto_region 29 with (go_at_call 36; refine (H2.out.duo.closedAll HH.out.few (by have := HH.out.trace; rw [HH.out.ag.trace] at this; have := HH.out.bd.o16; omega)).mono ?_; rintro e w3 ⟨s2, i2, hi2, hn2, rfl, hd, hq⟩; obtain ⟨r2, hr2⟩ : ∃ x, x = rAllTo S i2 r := ⟨_, rfl⟩; rw [← hr2] at hd ⊢; have HN := Lib.hid hr2; have H3 := Lib.hid (H2.out.step hd hq); have HP2 := Lib.hid (⟨hi2, hn2⟩ : _ ∧ _); clear hi2 hn2 hr2 hd hq y0 y1 y2 y3 y4 y5 y6 y7 y8 y9 y10 y11 ; obtain ⟨y0, y1, y2, y3, y4, y5, y6, y7, y8, y9, y10, y11, qz, _⟩ := H3.out.box; have qz0 := qz 0; have qz1 := qz 1; have qz2 := qz 2; have qz3 := qz 3; have qz4 := qz 4; have qz5 := qz 5; have qz6 := qz 6; have qz7 := qz 7; have qz8 := qz 8; have qz9 := qz 9; have qz10 := qz 10; have qz11 := qz 11; clear qz)
  rw [put12_def]
  have hP := H3.out.put
  generalize put12 w3 b4 S r2 s2 = wP at *
  have HP := Lib.hid hP
  clear hP y0 y1 y2 y3 y4 y5 y6 y7 y8 y9 y10 y11 qz0 qz1 qz2 qz3 qz4 qz5 qz6 qz7 qz8 qz9 qz10 qz11
  obtain ⟨y0, y1, y2, y3, y4, y5, y6, y7, y8, y9, y10, y11, _, _⟩ := HP.out.box
  obtain ⟨q0, q1, q2, q3, q4, q5, q6, q7, q8, q9, q10, q11, qz, _⟩ := HP.out.rres
  have qz0 := qz 0
  have qz1 := qz 1
  have qz2 := qz 2
  have qz3 := qz 3
  have qz4 := qz 4
  have qz5 := qz 5
  have qz6 := qz 6
  have qz7 := qz 7
  have qz8 := qz 8
  have qz9 := qz 9
  have qz10 := qz 10
  have qz11 := qz 11
  clear qz
  go_wp2_with fail
  rw [put12_def]
  obtain ⟨d1, d2, d3⟩ := HP.out.fin
  obtain ⟨z0, z1, z2, z3, z4, z5, z6, z7, z8, z9, z10, z11, _, _⟩ := d3
  generalize put12 wP b6 S r2 s2 = w9 at *
  refine bodyPost_ret (v := .tuple #[.agg (s2.cells S r2), .bool true]) (by simp [results, Try.results10, go_sem, z0, z1, z2, z3, z4, z5, z6, z7, z8, z9, z10, z11]) rfl ?_
  obtain rfl := HN.out
  obtain ⟨hi1, hst, hn1⟩ := HP1.out
  obtain ⟨hi2, hn2⟩ := HP2.out
  subst hst
  exact ⟨_, _, s2, rfl, d1, d2, all_same HH.out.ag HK.out.1 HK.out.2 hn1 hn2, HH.out.bd.all (Nat.le_trans hi2 HH.out.bd.o16)⟩
end
end Go.Proofs.Ythbkcdbmimhhkaa.Rw
