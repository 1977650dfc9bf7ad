/-
  WorldPlays: one call of both worlds (reading).
-/
import Derived.Test.YthbkcdbmimhhkaaPlG
import Derived.Test.YthbkcdbmimhhkaaPlH
namespace Go.Proofs.Ythbkcdbmimhhkaa.Rw
open Go.RowKit Go.Maps Wo
section
variable {w0 w : World} {B : Nat} {S : Scpt} {st : St} {r : RSt} {s : Shp} {bx : List Nat} {j : Nat} {k : Int} {n d : ByteArray} {m : Int}
set_option maxHeartbeats 4000000 in
set_option maxRecDepth 100000 in
theorem one2a (h : Duo w0 w B S st r s bx) (hi : Its j S st r k n d m) (hno : NoRead S st r k n m) :
    Calls Try.prog 10 #[ptr B, .agg (s.cells S r), .agg #[.int .i64 2, .int .u8 k, .string n, .string d, .int .i64 m]] w (OnePost w0 w B S bx j) := by
  obtain ⟨he, o, ho⟩ := hno
  have HO := Lib.hid ho
  have HE := Lib.hid he
  clear ho he
  have hI := In1.start h #[.int .i64 2, .int .u8 k, .string n, .string d, .int .i64 m]
  go_enter Try.func10, Try.ntmps10
  go_upto_region 1 with fail
  obtain ⟨wA, hA⟩ : ∃ wA, wA = (((w.alloc (.cells (s.cells S r) 38)).alloc (.cells #[.int .i64 2, .int .u8 k, .string n, .string d, .int .i64 m] 43)).alloc (.cells #[.slice none 0 0, .string ⟨#[]⟩, .slice none 0 0, .slice none 0 0, .int .i64 0, .int .i64 0, .int .u64 0, .slice none 0 0, .int .i64 0, .slice none 0 0, .int .u64 0, .slice none 0 0] 38)) := ⟨_, rfl⟩
  rw [← hA] at hI ⊢
  clear hA
  generalize w.heap.size + 1 + 1 = b6 at *
  generalize w.heap.size + 1 = b5 at *
  generalize w.heap.size = b4 at hI ⊢
  have HI := Lib.hid hI
  have HH := Lib.hid hi
  clear h hI hi
  obtain ⟨y0, y1, y2, y3, y4, y5, y6, y7, y8, y9, y10, y11, _, _⟩ := HI.out.box
  have o0 : wA.cell? ⟨b5, 0, none⟩ = some (.int .i64 2) := HI.out.cell 0
  have o1 : wA.cell? ⟨b5, 1, none⟩ = some (.int .u8 k) := HI.out.cell 1
  have o2 : wA.cell? ⟨b5, 2, none⟩ = some (.string n) := HI.out.cell 2
  have o4 : wA.cell? ⟨b5, 4, none⟩ = some (.int .i64 m) := HI.out.cell 4
  go_upto_region 11 with (go_at_call 21; refine (HI.out.duo.readP HH.out.small (Nat.le_trans HH.out.strms (by decide)) HH.out.m0 HO.out.1 HO.out.2.1).mono ?_; rintro e w2 ⟨st2, hrd, hd, hq⟩; obtain ⟨rfl, hst⟩ := HO.out.2.2 _ _ hrd; clear hrd; have HS := Lib.hid hst; clear hst; have H2 := Lib.hid (HI.out.step hd hq); clear hd hq y0 y1 y2 y3 y4 y5 y6 y7 y8 y9 y10 y11 o1 o2 o4; obtain ⟨y0, y1, y2, y3, y4, y5, y6, y7, y8, y9, y10, y11, _, _⟩ := H2.out.box; have o1 : w2.cell? ⟨b5, 1, none⟩ = some (.int .u8 k) := H2.out.cell 1; have o2 : w2.cell? ⟨b5, 2, none⟩ = some (.string n) := H2.out.cell 2; have o4 : w2.cell? ⟨b5, 4, none⟩ = some (.int .i64 m) := H2.out.cell 4; generalize hx : rReadE S r k n m = x; have HX := Lib.hid hx; clear hx)
  go_upto_region 29 with (go_at_call 32; refine (H2.out.duo.given k n m HH.out.few HH.out.ag.taken (by have := HH.out.sh.sz; omega) (fun p hp => ⟨HH.out.ag.tk p hp, by have := HH.out.bd.os p hp; have := HH.out.j50; omega⟩)).mono ?_; rintro e w3 (⟨_, s2, rfl, hd, hq⟩ | ⟨hz, _⟩); rotate_left; exact absurd hz HE.out; rw [HX.out]; have H3 := Lib.hid (H2.out.step hd hq); clear hd hq y0 y1 y2 y3 y4 y5 y6 y7 y8 y9 y10 y11 o1 o2 o4; obtain ⟨y0, y1, y2, y3, y4, y5, y6, y7, y8, y9, y10, y11, qz, _⟩ := H3.out.box; have qz0 := qz 0; have qz1 := qz 1; have qz2 := qz 2; have qz3 := qz 3; have qz4 := qz 4; have qz5 := qz 5; have qz6 := qz 6; have qz7 := qz 7; have qz8 := qz 8; have qz9 := qz 9; have qz10 := qz 10; have qz11 := qz 11; clear qz)
  rw [put12_def]
  have hP := H3.out.put
  generalize put12 w3 b4 S r s2 = wP at *
  have HP := Lib.hid hP
  clear hP y0 y1 y2 y3 y4 y5 y6 y7 y8 y9 y10 y11 qz0 qz1 qz2 qz3 qz4 qz5 qz6 qz7 qz8 qz9 qz10 qz11
  obtain ⟨y0, y1, y2, y3, y4, y5, y6, y7, y8, y9, y10, y11, _, _⟩ := HP.out.box
  obtain ⟨q0, q1, q2, q3, q4, q5, q6, q7, q8, q9, q10, q11, qz, _⟩ := HP.out.rres
  have qz0 := qz 0
  have qz1 := qz 1
  have qz2 := qz 2
  have qz3 := qz 3
  have qz4 := qz 4
  have qz5 := qz 5
  have qz6 := qz 6
  have qz7 := qz 7
  have qz8 := qz 8
  have qz9 := qz 9
  have qz10 := qz 10
  have qz11 := qz 11
  clear qz
  go_wp2_with fail
  rw [put12_def]
  obtain ⟨d1, d2, d3⟩ := HP.out.fin
  obtain ⟨z0, z1, z2, z3, z4, z5, z6, z7, z8, z9, z10, z11, _, _⟩ := d3
  generalize put12 wP b6 S r s2 = w9 at *
  refine bodyPost_ret (v := .tuple #[.agg (s2.cells S r), .bool true]) (by simp [results, Try.results10, go_sem, z0, z1, z2, z3, z4, z5, z6, z7, z8, z9, z10, z11]) rfl ?_
  obtain rfl := HS.out
  exact ⟨_, _, s2, rfl, d1, d2, HH.out.ag, HH.out.bd.next⟩
set_option maxHeartbeats 4000000 in
set_option maxRecDepth 100000 in
theorem one2b (h : Duo w0 w B S st r s bx) (hi : Its j S st r k n d m) (hpc : Piece S st r k n m) :
    Calls Try.prog 10 #[ptr B, .agg (s.cells S r), .agg #[.int .i64 2, .int .u8 k, .string n, .string d, .int .i64 m]] w (OnePost w0 w B S bx j) := by
  obtain ⟨he, i, p, hi0, hp0, o, ho⟩ := hpc
  have HO := Lib.hid ho
  have HE := Lib.hid (⟨he, hi0, hp0⟩ : _ ∧ _ ∧ _)
  clear ho he hi0 hp0
  have hI := In1.start h #[.int .i64 2, .int .u8 k, .string n, .string d, .int .i64 m]
  go_enter Try.func10, Try.ntmps10
  go_upto_region 1 with fail
  obtain ⟨wA, hA⟩ : ∃ wA, wA = (((w.alloc (.cells (s.cells S r) 38)).alloc (.cells #[.int .i64 2, .int .u8 k, .string n, .string d, .int .i64 m] 43)).alloc (.cells #[.slice none 0 0, .string ⟨#[]⟩, .slice none 0 0, .slice none 0 0, .int .i64 0, .int .i64 0, .int .u64 0, .slice none 0 0, .int .i64 0, .slice none 0 0, .int .u64 0, .slice none 0 0] 38)) := ⟨_, rfl⟩
  rw [← hA] at hI ⊢
  clear hA
  generalize w.heap.size + 1 + 1 = b6 at *
  generalize w.heap.size + 1 = b5 at *
  generalize w.heap.size = b4 at hI ⊢
  have HI := Lib.hid hI
  have HH := Lib.hid hi
  clear h hI hi
  obtain ⟨y0, y1, y2, y3, y4, y5, y6, y7, y8, y9, y10, y11, _, _⟩ := HI.out.box
  have o0 : wA.cell? ⟨b5, 0, none⟩ = some (.int .i64 2) := HI.out.cell 0
  have o1 : wA.cell? ⟨b5, 1, none⟩ = some (.int .u8 k) := HI.out.cell 1
  have o2 : wA.cell? ⟨b5, 2, none⟩ = some (.string n) := HI.out.cell 2
  have o4 : wA.cell? ⟨b5, 4, none⟩ = some (.int .i64 m) := HI.out.cell 4
  go_upto_region 11 with (go_at_call 21; refine (HI.out.duo.readP HH.out.small (Nat.le_trans HH.out.strms (by decide)) HH.out.m0 HO.out.1 HO.out.2.1).mono ?_; rintro e w2 ⟨st2, hrd, hd, hq⟩; obtain ⟨rfl, hst, hag⟩ := HO.out.2.2 _ _ hrd; clear hrd; have HS := Lib.hid (⟨hst, hag⟩ : _ ∧ _); clear hst hag; have H2 := Lib.hid (HI.out.step hd hq); clear hd hq y0 y1 y2 y3 y4 y5 y6 y7 y8 y9 y10 y11 o1 o2 o4; obtain ⟨y0, y1, y2, y3, y4, y5, y6, y7, y8, y9, y10, y11, _, _⟩ := H2.out.box; have o1 : w2.cell? ⟨b5, 1, none⟩ = some (.int .u8 k) := H2.out.cell 1; have o2 : w2.cell? ⟨b5, 2, none⟩ = some (.string n) := H2.out.cell 2; have o4 : w2.cell? ⟨b5, 4, none⟩ = some (.int .i64 m) := H2.out.cell 4; generalize hx : (rLeft S r k n p).extract 0 (cutN m (rLeft S r k n p)) = x; have HX := Lib.hid hx; clear hx)
  go_upto_region 29 with (go_at_call 32; refine (H2.out.duo.given k n m HH.out.few HH.out.ag.taken (by have := HH.out.sh.sz; omega) (fun p hp => ⟨HH.out.ag.tk p hp, by have := HH.out.bd.os p hp; have := HH.out.j50; omega⟩)).mono ?_; rintro e w3 (⟨hz, _⟩ | ⟨_, i3, p3, s2, hi3, hp3, rfl, hd, hq⟩); exact absurd HE.out.1 hz; obtain rfl : i = i3 := Int.ofNat.inj (HE.out.2.1.symm.trans hi3); obtain rfl : p = p3 := Option.some.inj (HE.out.2.2.symm.trans hp3); obtain ⟨r2, hr2⟩ : ∃ x, x = rRead S r k n m i p := ⟨_, rfl⟩; rw [← hr2] at hd ⊢; rw [HX.out]; have HN := Lib.hid hr2; have H3 := Lib.hid (H2.out.step hd hq); clear hi3 hp3 hr2 hd hq y0 y1 y2 y3 y4 y5 y6 y7 y8 y9 y10 y11 o1 o2 o4; obtain ⟨y0, y1, y2, y3, y4, y5, y6, y7, y8, y9, y10, y11, qz, _⟩ := H3.out.box; have qz0 := qz 0; have qz1 := qz 1; have qz2 := qz 2; have qz3 := qz 3; have qz4 := qz 4; have qz5 := qz 5; have qz6 := qz 6; have qz7 := qz 7; have qz8 := qz 8; have qz9 := qz 9; have qz10 := qz 10; have qz11 := qz 11; clear qz)
  rw [put12_def]
  have hP := H3.out.put
  generalize put12 w3 b4 S r2 s2 = wP at *
  have HP := Lib.hid hP
  clear hP y0 y1 y2 y3 y4 y5 y6 y7 y8 y9 y10 y11 qz0 qz1 qz2 qz3 qz4 qz5 qz6 qz7 qz8 qz9 qz10 qz11
  obtain ⟨y0, y1, y2, y3, y4, y5, y6, y7, y8, y9, y10, y11, _, _⟩ := HP.out.box
  obtain ⟨q0, q1, q2, q3, q4, q5, q6, q7, q8, q9, q10, q11, qz, _⟩ := HP.out.rres
  have qz0 := qz 0
  have qz1 := qz 1
  have qz2 := qz 2
  have qz3 := qz 3
  have qz4 := qz 4
  have qz5 := qz 5
  have qz6 := qz 6
  have qz7 := qz 7
  have qz8 := qz 8
  have qz9 := qz 9
  have qz10 := qz 10
  have qz11 := qz 11
  clear qz
  go_wp2_with fail
  rw [put12_def]
  obtain ⟨d1, d2, d3⟩ := HP.out.fin
  obtain ⟨z0, z1, z2, z3, z4, z5, z6, z7, z8, z9, z10, z11, _, _⟩ := d3
  generalize put12 wP b6 S r2 s2 = w9 at *
  refine bodyPost_ret (v := .tuple #[.agg (s2.cells S r2), .bool true]) (by simp [results, Try.results10, go_sem, z0, z1, z2, z3, z4, z5, z6, z7, z8, z9, z10, z11]) rfl ?_
  obtain rfl := HN.out
  obtain ⟨hst, hag⟩ := HS.out
  subst hst
  exact ⟨_, _, s2, rfl, d1, d2, hag, HH.out.bd.read HE.out.2.2 _ _⟩
end
end Go.Proofs.Ythbkcdbmimhhkaa.Rw

/-
  WorldPlays: one call of both worlds (chance).
-/
namespace Go.Proofs.Ythbkcdbmimhhkaa.Rw
open Go.RowKit Go.Maps Wo
section
variable {w0 w : World} {B : Nat} {S : Scpt} {st : St} {r : RSt} {s : Shp} {bx : List Nat} {j : Nat} {k : Int} {n d : ByteArray} {m : Int}
set_option maxHeartbeats 4000000 in
set_option maxRecDepth 100000 in
theorem one7 (h : Duo w0 w B S st r s bx) (hi : Its j S st r k n d m) :
    Calls Try.prog 10 #[ptr B, .agg (s.cells S r), .agg #[.int .i64 7, .int .u8 k, .string n, .string d, .int .i64 m]] w (OnePost w0 w B S bx j) := by
  have hI := In1.start h #[.int .i64 7, .int .u8 k, .string n, .string d, .int .i64 m]
  go_enter Try.func10, Try.ntmps10
  go_upto_region 1 with fail
  obtain ⟨wA, hA⟩ : ∃ wA, wA = (((w.alloc (.cells (s.cells S r) 38)).alloc (.cells #[.int .i64 7, .int .u8 k, .string n, .string d, .int .i64 m] 43)).alloc (.cells #[.slice none 0 0, .string ⟨#[]⟩, .slice none 0 0, .slice none 0 0, .int .i64 0, .int .i64 0, .int .u64 0, .slice none 0 0, .int .i64 0, .slice none 0 0, .int .u64 0, .slice none 0 0] 38)) := ⟨_, rfl⟩
  rw [← hA] at hI ⊢
  clear hA
  generalize w.heap.size + 1 + 1 = b6 at *
  generalize w.heap.size + 1 = b5 at *
  generalize w.heap.size = b4 at hI ⊢
  have HI := Lib.hid hI
  have HH := Lib.hid hi
  clear h hI hi
  obtain ⟨y0, y1, y2, y3, y4, y5, y6, y7, y8, y9, y10, y11, _, _⟩ := HI.out.box
  have o0 : wA.cell? ⟨b5, 0, none⟩ = some (.int .i64 7) := HI.out.cell 0
  go_upto_region 26 with (go_at_call 37; refine (HI.out.duo.chance).mono ?_; rintro e w2 ⟨rfl, hd, hq⟩; have H2 := Lib.hid (HI.out.step hd hq); clear hd hq y0 y1 y2 y3 y4 y5 y6 y7 y8 y9 y10 y11 ; obtain ⟨y0, y1, y2, y3, y4, y5, y6, y7, y8, y9, y10, y11, _, _⟩ := H2.out.box; rw [HH.out.ag.chance])
  go_upto_region 27 with (go_at_call 38; refine (H2.out.duo.chanced).mono ?_; rintro e w3 ⟨s2, rfl, hd, hq⟩; obtain ⟨r2, hr2⟩ : ∃ x, x = chanceR r := ⟨_, rfl⟩; rw [← hr2] at hd ⊢; have HN := Lib.hid hr2; have H3 := Lib.hid (H2.out.step hd hq); clear hr2 hd hq y0 y1 y2 y3 y4 y5 y6 y7 y8 y9 y10 y11 ; obtain ⟨y0, y1, y2, y3, y4, y5, y6, y7, y8, y9, y10, y11, qz, _⟩ := H3.out.box; have qz0 := qz 0; have qz1 := qz 1; have qz2 := qz 2; have qz3 := qz 3; have qz4 := qz 4; have qz5 := qz 5; have qz6 := qz 6; have qz7 := qz 7; have qz8 := qz 8; have qz9 := qz 9; have qz10 := qz 10; have qz11 := qz 11; clear qz)
  obtain ⟨w4, hW⟩ : ∃ w4, w4 = w3.alloc (.cells (s2.cells S r2) 38) := ⟨_, rfl⟩
  rw [← hW]
  have hbA : Below w3.heap.size w3 w4 := by rw [hW]; exact (Below.refl _ w3).alloc (Nat.le_refl _) _
  have hbx : RBox w4 w3.heap.size S r2 s2 := by rw [hW]; exact rbox_of (alloc_new w3 _)
  have h4 := H3.out.step (H3.out.duo.below hbA).1 (H3.out.duo.below hbA).2
  clear hW
  generalize w3.heap.size = b7 at *
  have H4 := Lib.hid h4
  clear h4 hbA y0 y1 y2 y3 y4 y5 y6 y7 y8 y9 y10 y11 qz0 qz1 qz2 qz3 qz4 qz5 qz6 qz7 qz8 qz9 qz10 qz11
  obtain ⟨p0, p1, p2, p3, p4, p5, p6, p7, p8, p9, p10, p11, _, _⟩ := hbx
  obtain ⟨y0, y1, y2, y3, y4, y5, y6, y7, y8, y9, y10, y11, qz, _⟩ := H4.out.box
  have qz0 := qz 0
  have qz1 := qz 1
  have qz2 := qz 2
  have qz3 := qz 3
  have qz4 := qz 4
  have qz5 := qz 5
  have qz6 := qz 6
  have qz7 := qz 7
  have qz8 := qz 8
  have qz9 := qz 9
  have qz10 := qz 10
  have qz11 := qz 11
  clear qz
  go_upto_region 29 with fail
  rw [put12_def]
  have hP := H4.out.put
  generalize put12 w4 b4 S r2 s2 = wP at *
  have HP := Lib.hid hP
  clear hP y0 y1 y2 y3 y4 y5 y6 y7 y8 y9 y10 y11 qz0 qz1 qz2 qz3 qz4 qz5 qz6 qz7 qz8 qz9 qz10 qz11
  obtain ⟨y0, y1, y2, y3, y4, y5, y6, y7, y8, y9, y10, y11, _, _⟩ := HP.out.box
  obtain ⟨q0, q1, q2, q3, q4, q5, q6, q7, q8, q9, q10, q11, qz, _⟩ := HP.out.rres
  have qz0 := qz 0
  have qz1 := qz 1
  have qz2 := qz 2
  have qz3 := qz 3
  have qz4 := qz 4
  have qz5 := qz 5
  have qz6 := qz 6
  have qz7 := qz 7
  have qz8 := qz 8
  have qz9 := qz 9
  have qz10 := qz 10
  have qz11 := qz 11
  clear qz
  go_wp2_with fail
  rw [put12_def]
  obtain ⟨d1, d2, d3⟩ := HP.out.fin
  obtain ⟨z0, z1, z2, z3, z4, z5, z6, z7, z8, z9, z10, z11, _, _⟩ := d3
  generalize put12 wP b6 S r2 s2 = w9 at *
  refine bodyPost_ret (v := .tuple #[.agg (s2.cells S r2), .bool true]) (by simp [results, Try.results10, go_sem, z0, z1, z2, z3, z4, z5, z6, z7, z8, z9, z10, z11]) rfl ?_
  obtain rfl := HN.out
  exact ⟨_, _, s2, rfl, d1, d2, HH.out.ag.chanced, HH.out.bd.chance _⟩
end
end Go.Proofs.Ythbkcdbmimhhkaa.Rw

/-
  WorldPlays: one call of both worlds (nothing).
-/
namespace Go.Proofs.Ythbkcdbmimhhkaa.Rw
open Go.RowKit Go.Maps Wo
section
variable {w0 w : World} {B : Nat} {S : Scpt} {st : St} {r : RSt} {s : Shp} {bx : List Nat} {j : Nat} {k : Int} {n d : ByteArray} {m : Int}
set_option maxHeartbeats 4000000 in
set_option maxRecDepth 100000 in
theorem one0 (h : Duo w0 w B S st r s bx) (hi : Its j S st r k n d m) (kd : Int) (e1 : ¬ kd = 1) (e2 : ¬ kd = 2) (e3 : ¬ kd = 3) (e4 : ¬ kd = 4) (e5 : ¬ kd = 5) (e6 : ¬ kd = 6) (e7 : ¬ kd = 7) :
    Calls Try.prog 10 #[ptr B, .agg (s.cells S r), .agg #[.int .i64 kd, .int .u8 k, .string n, .string d, .int .i64 m]] w (OnePost w0 w B S bx j) := by
  have f1 : (kd == 1) = false := beq_eq_false_iff_ne.2 e1
  have f2 : (kd == 2) = false := beq_eq_false_iff_ne.2 e2
  have f3 : (kd == 3) = false := beq_eq_false_iff_ne.2 e3
  have f4 : (kd == 4) = false := beq_eq_false_iff_ne.2 e4
  have f5 : (kd == 5) = false := beq_eq_false_iff_ne.2 e5
  have f6 : (kd == 6) = false := beq_eq_false_iff_ne.2 e6
  have f7 : (kd == 7) = false := beq_eq_false_iff_ne.2 e7
  have hI := In1.start h #[.int .i64 kd, .int .u8 k, .string n, .string d, .int .i64 m]
  go_enter Try.func10, Try.ntmps10
  go_upto_region 1 with fail
  obtain ⟨wA, hA⟩ : ∃ wA, wA = (((w.alloc (.cells (s.cells S r) 38)).alloc (.cells #[.int .i64 kd, .int .u8 k, .string n, .string d, .int .i64 m] 43)).alloc (.cells #[.slice none 0 0, .string ⟨#[]⟩, .slice none 0 0, .slice none 0 0, .int .i64 0, .int .i64 0, .int .u64 0, .slice none 0 0, .int .i64 0, .slice none 0 0, .int .u64 0, .slice none 0 0] 38)) := ⟨_, rfl⟩
  rw [← hA] at hI ⊢
  clear hA
  generalize w.heap.size + 1 + 1 = b6 at *
  generalize w.heap.size + 1 = b5 at *
  generalize w.heap.size = b4 at hI ⊢
  have HI := Lib.hid hI
  have HH := Lib.hid hi
  clear h hI hi
  obtain ⟨y0, y1, y2, y3, y4, y5, y6, y7, y8, y9, y10, y11, _, _⟩ := HI.out.box
  have o0 : wA.cell? ⟨b5, 0, none⟩ = some (.int .i64 kd) := HI.out.cell 0
  go_upto_region 29 with (fail)
  obtain ⟨q0, q1, q2, q3, q4, q5, q6, q7, q8, q9, q10, q11, qz, _⟩ := HI.out.rres
  have qz0 := qz 0
  have qz1 := qz 1
  have qz2 := qz 2
  have qz3 := qz 3
  have qz4 := qz 4
  have qz5 := qz 5
  have qz6 := qz 6
  have qz7 := qz 7
  have qz8 := qz 8
  have qz9 := qz 9
  have qz10 := qz 10
  have qz11 := qz 11
  clear qz
  go_wp2_with fail
  rw [put12_def]
  obtain ⟨d1, d2, d3⟩ := HI.out.fin
  obtain ⟨z0, z1, z2, z3, z4, z5, z6, z7, z8, z9, z10, z11, _, _⟩ := d3
  generalize put12 wA b6 S r s = w9 at *
  refine bodyPost_ret (v := .tuple #[.agg (s.cells S r), .bool true]) (by simp [results, Try.results10, go_sem, z0, z1, z2, z3, z4, z5, z6, z7, z8, z9, z10, z11]) rfl ?_
  exact ⟨_, _, s, rfl, d1, d2, HH.out.ag, HH.out.bd.next⟩
end
end Go.Proofs.Ythbkcdbmimhhkaa.Rw
