/-
  WorldPlays: one call of both worlds ('one').
-/
import Derived.Test.YthbkcdbmimhhkaaPlF
namespace Go.Proofs.Ythbkcdbmimhhkaa.Rw
open Go.RowKit Go.Maps Wo

structure In1 (w0 w1 w : World) (B : Nat) (S : Scpt) (st : St) (r : RSt) (s : Shp) (rb : RSt) (sb : Shp) (bx : List Nat) (b4 b5 b6 : Nat) (oc : Array Value) : Prop where
  duo : Duo w0 w B S st r s ([b4, b5, b6] ++ bx)
  v : w.heap[b4]? = some (.cells (sb.cells S rb) 38)
  o : w.heap[b5]? = some (.cells oc 43)
  res : w.heap[b6]? = some (.cells (s0.cells S0 r0) 38)
  kp : Keep bx w1 w
  ge : w0.heap.size ≤ b4 ∧ w0.heap.size ≤ b6 ∧ b4 ≠ b5 ∧ b4 ≠ b6 ∧ b5 ≠ b6
  old : ∀ b ∈ bx, b ≠ b4 ∧ b ≠ b6
section
variable {w0 w1 w : World} {B : Nat} {S : Scpt} {st : St} {r : RSt} {s : Shp} {rb : RSt} {sb : Shp} {bx : List Nat} {b4 b5 b6 : Nat} {oc : Array Value}
theorem In1.start (h : Duo w0 w B S st r s bx) (oc : Array Value) : In1 w0 w (((w.alloc (.cells (s.cells S r) 38)).alloc (.cells oc 43)).alloc (.cells #[.slice none 0 0, .string ⟨#[]⟩, .slice none 0 0, .slice none 0 0, .int .i64 0, .int .i64 0, .int .u64 0, .slice none 0 0, .int .i64 0, .slice none 0 0, .int .u64 0, .slice none 0 0] 38)) B S st r s r s bx w.heap.size (w.heap.size + 1) (w.heap.size + 1 + 1) oc := by
  have hb : Below w.heap.size w (((w.alloc (.cells (s.cells S r) 38)).alloc (.cells oc 43)).alloc (.cells #[.slice none 0 0, .string ⟨#[]⟩, .slice none 0 0, .slice none 0 0, .int .i64 0, .int .i64 0, .int .u64 0, .slice none 0 0, .int .i64 0, .slice none 0 0, .int .u64 0, .slice none 0 0] 38)) := (((Below.refl _ w).alloc (Nat.le_refl _) _).alloc (by rw [alloc_size]; omega) _).alloc (by rw [two_alloc]; omega) _
  have h0 := h.b.size
  have hm := h.more hb (nb := [w.heap.size, w.heap.size + 1, w.heap.size + 1 + 1]) (by
    intro b hb
    rw [three_alloc]
    simp only [List.mem_cons, List.not_mem_nil, or_false] at hb
    rcases hb with rfl | rfl | rfl <;> omega)
  refine ⟨hm.1, ?_, ?_, ?_, hm.2, ⟨h0, by omega, by omega, by omega, by omega⟩, fun b hb => ?_⟩
  · rw [alloc_old _ _ (by rw [two_alloc]; omega), alloc_old _ _ (by rw [alloc_size]; omega)]; exact alloc_new _ _
  · rw [alloc_old _ _ (by rw [two_alloc]; omega), ← alloc_size w]; exact alloc_new _ _
  · rw [← two_alloc w]; exact alloc_new _ _
  · have := h.lt hb; omega
theorem In1.step {w2 : World} {st2 : St} {r2 : RSt} {s2 : Shp} (h : In1 w0 w1 w B S st r s rb sb bx b4 b5 b6 oc) (hd : Duo w0 w2 B S st2 r2 s2 ([b4, b5, b6] ++ bx)) (hk : Keep ([b4, b5, b6] ++ bx) w w2) : In1 w0 w1 w2 B S st2 r2 s2 rb sb bx b4 b5 b6 oc :=
  ⟨hd, (hk b4 (by simp)).trans h.v, (hk b5 (by simp)).trans h.o, (hk b6 (by simp)).trans h.res, h.kp.trans fun b hb => hk b (by simp [hb]), h.ge, h.old⟩
theorem In1.put (h : In1 w0 w1 w B S st r s rb sb bx b4 b5 b6 oc) : In1 w0 w1 (put12 w b4 S r s) B S st r s r s bx b4 b5 b6 oc :=
  ⟨h.duo.put (by simp) h.ge.1 h.v _ _ _, put12_blk h.v rfl _ _ _, (put12_heap _ _ _ _ _ (Ne.symm h.ge.2.2.1)).trans h.o, (put12_heap _ _ _ _ _ (Ne.symm h.ge.2.2.2.1)).trans h.res, h.kp.trans fun b hb => put12_heap _ _ _ _ _ (h.old b hb).1, h.ge, h.old⟩
theorem In1.fin (h : In1 w0 w1 w B S st r s rb sb bx b4 b5 b6 oc) : Duo w0 (put12 w b6 S r s) B S st r s bx ∧ Keep bx w1 (put12 w b6 S r s) ∧ RBox (put12 w b6 S r s) b6 S r s :=
  ⟨(h.duo.put (by simp) h.ge.2.1 h.res _ _ _).less fun b hb => by simp [hb], h.kp.trans fun b hb => put12_heap _ _ _ _ _ (h.old b hb).2, rbox_of (put12_blk h.res rfl _ _ _)⟩
theorem In1.box (h : In1 w0 w1 w B S st r s rb sb bx b4 b5 b6 oc) : RBox w b4 S rb sb := rbox_of h.v
theorem In1.rres (h : In1 w0 w1 w B S st r s rb sb bx b4 b5 b6 oc) : RBox w b6 S0 r0 s0 := rbox_of h.res
theorem In1.cell (h : In1 w0 w1 w B S st r s rb sb bx b4 b5 b6 oc) (i : Nat) : w.cell? ⟨b5, i, none⟩ = oc[i]? := by simp [World.cell?, h.o]
end
def OnePost (w0 w : World) (B : Nat) (S : Scpt) (bx : List Nat) (j : Nat) (e : Ending) (w2 : World) : Prop := ∃ st' r' s', e = .returned (.tuple #[.agg (s'.cells S r'), .bool true]) ∧ Duo w0 w2 B S st' r' s' bx ∧ Keep bx w w2 ∧ Agree S st' r' ∧ Bd (j + 1) st' r'
structure Its (j : Nat) (S : Scpt) (st : St) (r : RSt) (k : Int) (n d : ByteArray) (m : Int) : Prop where
  ag : Agree S st r
  bd : Bd j st r
  j50 : j ≤ 50
  sh : Short S
  most : S.most ≤ 16
  k0 : 0 ≤ k ∧ k < 256
  n0 : n.size ≤ 100
  d0 : d.size ≤ 100
  m0 : -9223372036854775808 ≤ m ∧ m ≤ 9223372036854775807
section
variable {j : Nat} {S : Scpt} {st : St} {r : RSt} {k : Int} {n d : ByteArray} {m : Int}
theorem Its.small (h : Its j S st r k n d m) : Small n := by unfold Small; have := h.n0; omega
theorem Its.made (h : Its j S st r k n d m) : st.made ≤ 1000000 := by have := h.bd.md; have := h.j50; omega
theorem Its.strms (h : Its j S st r k n d m) : st.streams.length ≤ 1000 := by rw [h.ag.len]; have := h.bd.o16; omega
theorem Its.trace (h : Its j S st r k n d m) : st.trace.length ≤ 800000 := by rw [h.ag.trace]; have := h.bd.ev; have := h.j50; omega
theorem Its.few (h : Its j S st r k n d m) : Fewer S r := h.bd.fewer h.sh h.j50
theorem Its.size (h : Its j S st r k n d m) : ∀ p ∈ r.files, p.2.size ≤ 1000000000 := fun p hp => by have := h.bd.fs p hp; have := h.j50; omega
theorem Its.fsize (h : Its j S st r k n d m) : ((st.file n).getD []).length + d.size ≤ 1000000000 := by
  have h1 := data_of h.ag n
  have h2 := h.bd.data n
  have h3 := h.j50
  have h4 := h.d0
  have h5 : ((st.file n).getD []).length = (rData r n).size := by rw [← h1]; simp [txt, ByteArray.size]
  omega
end
section
variable {w0 w : World} {B : Nat} {S : Scpt} {st : St} {r : RSt} {s : Shp} {bx : List Nat} {j : Nat} {k : Int} {n d : ByteArray} {m : Int}

set_option maxHeartbeats 4000000 in
set_option maxRecDepth 100000 in
theorem one1 (h : Duo w0 w B S st r s bx) (hi : Its j S st r k n d m) :
    Calls Try.prog 10 #[ptr B, .agg (s.cells S r), .agg #[.int .i64 1, .int .u8 k, .string n, .string d, .int .i64 m]] w (OnePost w0 w B S bx j) := by
  have hI := In1.start h #[.int .i64 1, .int .u8 k, .string n, .string d, .int .i64 m]
  go_enter Try.func10, Try.ntmps10
  go_upto_region 1 with fail
  obtain ⟨wA, hA⟩ : ∃ wA, wA = (((w.alloc (.cells (s.cells S r) 38)).alloc (.cells #[.int .i64 1, .int .u8 k, .string n, .string d, .int .i64 m] 43)).alloc (.cells #[.slice none 0 0, .string ⟨#[]⟩, .slice none 0 0, .slice none 0 0, .int .i64 0, .int .i64 0, .int .u64 0, .slice none 0 0, .int .i64 0, .slice none 0 0, .int .u64 0, .slice none 0 0] 38)) := ⟨_, rfl⟩
  rw [← hA] at hI ⊢
  clear hA
  generalize w.heap.size + 1 + 1 = b6 at *
  generalize w.heap.size + 1 = b5 at *
  generalize w.heap.size = b4 at hI ⊢
  have HI := Lib.hid hI
  have HH := Lib.hid hi
  clear h hI hi
  obtain ⟨y0, y1, y2, y3, y4, y5, y6, y7, y8, y9, y10, y11, _, _⟩ := HI.out.box
  have o0 : wA.cell? ⟨b5, 0, none⟩ = some (.int .i64 1) := HI.out.cell 0
  have o1 : wA.cell? ⟨b5, 1, none⟩ = some (.int .u8 k) := HI.out.cell 1
  have o2 : wA.cell? ⟨b5, 2, none⟩ = some (.string n) := HI.out.cell 2
  go_upto_region 8 with (go_at_call 24; refine (HI.out.duo.open HH.out.k0 HH.out.small HH.out.made (Nat.le_trans HH.out.strms (by decide)) (Nat.le_trans HH.out.trace (by decide))).mono ?_; rintro e w2 ⟨rfl, hd, hq⟩; have H2 := Lib.hid (HI.out.step hd hq); clear hd hq y0 y1 y2 y3 y4 y5 y6 y7 y8 y9 y10 y11 o1 o2; obtain ⟨y0, y1, y2, y3, y4, y5, y6, y7, y8, y9, y10, y11, _, _⟩ := H2.out.box; have o1 : w2.cell? ⟨b5, 1, none⟩ = some (.int .u8 k) := H2.out.cell 1; have o2 : w2.cell? ⟨b5, 2, none⟩ = some (.string n) := H2.out.cell 2; rw [HH.out.ag.openE]; generalize hx : rOpenE S r k n = x; have HX := Lib.hid hx; clear hx)
  go_upto_region 29 with (go_at_call 31; refine (H2.out.duo.opened k n HH.out.few).mono ?_; rintro e w3 ⟨s2, rfl, hd, hq⟩; obtain ⟨r2, hr2⟩ : ∃ x, x = rOpenS S r k n := ⟨_, rfl⟩; rw [← hr2] at hd ⊢; rw [HX.out]; have HN := Lib.hid hr2; have H3 := Lib.hid (H2.out.step hd hq); clear hr2 hd hq y0 y1 y2 y3 y4 y5 y6 y7 y8 y9 y10 y11 o1 o2; obtain ⟨y0, y1, y2, y3, y4, y5, y6, y7, y8, y9, y10, y11, qz, _⟩ := H3.out.box; have qz0 := qz 0; have qz1 := qz 1; have qz2 := qz 2; have qz3 := qz 3; have qz4 := qz 4; have qz5 := qz 5; have qz6 := qz 6; have qz7 := qz 7; have qz8 := qz 8; have qz9 := qz 9; have qz10 := qz 10; have qz11 := qz 11; clear qz)
  rw [put12_def]
  have hP := H3.out.put
  generalize put12 w3 b4 S r2 s2 = wP at *
  have HP := Lib.hid hP
  clear hP y0 y1 y2 y3 y4 y5 y6 y7 y8 y9 y10 y11 qz0 qz1 qz2 qz3 qz4 qz5 qz6 qz7 qz8 qz9 qz10 qz11
  obtain ⟨y0, y1, y2, y3, y4, y5, y6, y7, y8, y9, y10, y11, _, _⟩ := HP.out.box
  obtain ⟨q0, q1, q2, q3, q4, q5, q6, q7, q8, q9, q10, q11, qz, _⟩ := HP.out.rres
  have qz0 := qz 0
  have qz1 := qz 1
  have qz2 := qz 2
  have qz3 := qz 3
  have qz4 := qz 4
  have qz5 := qz 5
  have qz6 := qz 6
  have qz7 := qz 7
  have qz8 := qz 8
  have qz9 := qz 9
  have qz10 := qz 10
  have qz11 := qz 11
  clear qz
  go_wp2_with fail
  rw [put12_def]
  obtain ⟨d1, d2, d3⟩ := HP.out.fin
  obtain ⟨z0, z1, z2, z3, z4, z5, z6, z7, z8, z9, z10, z11, _, _⟩ := d3
  generalize put12 wP b6 S r2 s2 = w9 at *
  refine bodyPost_ret (v := .tuple #[.agg (s2.cells S r2), .bool true]) (by simp [results, Try.results10, go_sem, z0, z1, z2, z3, z4, z5, z6, z7, z8, z9, z10, z11]) rfl ?_
  obtain rfl := HN.out
  exact ⟨_, _, s2, rfl, d1, d2, HH.out.ag.openS k n, HH.out.bd.opened HH.out.sh HH.out.most k n HH.out.n0⟩
end
end Go.Proofs.Ythbkcdbmimhhkaa.Rw
