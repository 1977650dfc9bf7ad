/-
  WorldPlays: the walk.
-/
import Derived.Test.YthbkcdbmimhhkaaPlQ
namespace Go.Proofs.Ythbkcdbmimhhkaa.Rw
open Go.RowKit Go.Maps Wo

structure Pl (w0 w : World) (B : Nat) (S : Scpt) (s0' : Shp) (st : St) (r : RSt) (s : Shp) (b2 b7 : Nat) : Prop where
  duo : Duo w0 w B S st r s [b7, b2]
  v : w.heap[b7]? = some (.cells (s.cells S r) 38)
  scr : ScrB w b2 S s0'
  ge : w0.heap.size ≤ b7 ∧ b7 ≠ b2
theorem Pl.box {w0 w : World} {B : Nat} {S : Scpt} {s0' : Shp} {st : St} {r : RSt} {s : Shp} {b2 b7 : Nat} (h : Pl w0 w B S s0' st r s b2 b7) : RBox w b7 S r s := rbox_of h.v
theorem Pl.step {w0 w w2 : World} {B : Nat} {S : Scpt} {s0' : Shp} {st st2 : St} {r : RSt} {s : Shp} {b2 b7 : Nat} (h : Pl w0 w B S s0' st r s b2 b7) (hd : Duo w0 w2 B S st2 r s [b7, b2]) (hk : Keep [b7, b2] w w2) : Pl w0 w2 B S s0' st2 r s b2 b7 :=
  ⟨hd, (hk b7 (by simp)).trans h.v, (hk b2 (by simp)).trans h.scr, h.ge⟩
theorem Pl.below {w0 w w2 : World} {B : Nat} {S : Scpt} {s0' : Shp} {st : St} {r : RSt} {s : Shp} {b2 b7 : Nat} (h : Pl w0 w B S s0' st r s b2 b7) (hb : Below w.heap.size w w2) : Pl w0 w2 B S s0' st r s b2 b7 :=
  h.step (h.duo.below hb).1 (h.duo.below hb).2
/- .. with the call's own block. -/
structure Ro (w0 w : World) (B : Nat) (S : Scpt) (s0' : Shp) (st : St) (r : RSt) (s : Shp) (b2 b7 b10 : Nat) (oc : Array Value) : Prop where
  duo : Duo w0 w B S st r s [b10, b7, b2]
  v : w.heap[b7]? = some (.cells (s.cells S r) 38)
  scr : ScrB w b2 S s0'
  o : w.heap[b10]? = some (.cells oc 43)
  ge : w0.heap.size ≤ b7 ∧ b7 ≠ b2 ∧ b10 ≠ b7
section
variable {w0 w : World} {B : Nat} {S : Scpt} {s0' : Shp} {st : St} {r : RSt} {s : Shp} {b2 b7 b10 : Nat} {oc : Array Value}
theorem Pl.more (h : Pl w0 w B S s0' st r s b2 b7) (oc : Array Value) : Ro w0 (w.alloc (.cells oc 43)) B S s0' st r s b2 b7 w.heap.size oc := by
  have hb : Below w.heap.size w (w.alloc (.cells oc 43)) := (Below.refl _ w).alloc (Nat.le_refl _) _
  have hm := h.duo.more hb (nb := [w.heap.size]) (by intro b hb; rw [alloc_size]; simp at hb; omega)
  have h7 := blk_lt h.v
  have h2 := blk_lt h.scr
  exact ⟨hm.1, (hm.2 b7 (by simp)).trans h.v, (hm.2 b2 (by simp)).trans h.scr, alloc_new _ _, h.ge.1, h.ge.2, by omega⟩
theorem Ro.pl (h : Ro w0 w B S s0' st r s b2 b7 b10 oc) : Pl w0 w B S s0' st r s b2 b7 := ⟨h.duo.less (by simp), h.v, h.scr, h.ge.1, h.ge.2.1⟩
theorem Ro.step {w2 : World} {st2 : St} (h : Ro w0 w B S s0' st r s b2 b7 b10 oc) (hd : Duo w0 w2 B S st2 r s [b10, b7, b2]) (hk : Keep [b10, b7, b2] w w2) : Ro w0 w2 B S s0' st2 r s b2 b7 b10 oc :=
  ⟨hd, (hk b7 (by simp)).trans h.v, (hk b2 (by simp)).trans h.scr, (hk b10 (by simp)).trans h.o, h.ge⟩
theorem Ro.below {w2 : World} (h : Ro w0 w B S s0' st r s b2 b7 b10 oc) (hb : Below w.heap.size w w2) : Ro w0 w2 B S s0' st r s b2 b7 b10 oc :=
  h.step (h.duo.below hb).1 (h.duo.below hb).2
theorem Ro.box (h : Ro w0 w B S s0' st r s b2 b7 b10 oc) : RBox w b7 S r s := rbox_of h.v
theorem Ro.cell (h : Ro w0 w B S s0' st r s b2 b7 b10 oc) (i : Nat) : w.cell? ⟨b10, i, none⟩ = oc[i]? := by simp [World.cell?, h.o]
/- A new value of the document's world in its block. -/
theorem Ro.put {w2 : World} {st2 : St} {r2 : RSt} {s2 : Shp} (h : Ro w0 w B S s0' st r s b2 b7 b10 oc) (hd : Duo w0 w2 B S st2 r2 s2 [b10, b7, b2]) (hk : Keep [b10, b7, b2] w w2) : Ro w0 (put12 w2 b7 S r2 s2) B S s0' st2 r2 s2 b2 b7 b10 oc := by
  have hv := (hk b7 (by simp)).trans h.v
  exact ⟨hd.put (by simp) h.ge.1 hv _ _ _, put12_blk hv rfl _ _ _, (put12_heap _ _ _ _ _ (Ne.symm h.ge.2.1)).trans ((hk b2 (by simp)).trans h.scr), (put12_heap _ _ _ _ _ h.ge.2.2).trans ((hk b10 (by simp)).trans h.o), h.ge⟩
theorem Ro.drop (h : Ro w0 w B S s0' st r s b2 b7 b10 oc) {w2 : World} (hk : Keep [b10, b7, b2] w w2) : RBox w2 b7 S r s := rbox_of ((hk b7 (by simp)).trans h.v)
theorem Pl.start {w1 : World} (hd : Duo w0 w B S st r s [b2]) (hs : ScrB w b2 S s0') (hw : w1 = w.alloc (.cells (s.cells S r) 38)) : Pl w0 w1 B S s0' st r s b2 w.heap.size := by
  have hb : Below w.heap.size w w1 := by rw [hw]; exact (Below.refl _ w).alloc (Nat.le_refl _) _
  have hm := hd.more hb (nb := [w.heap.size]) (by intro b hb; rw [hw, alloc_size]; simp at hb; omega)
  have h2 := blk_lt hs
  refine ⟨hm.1, by rw [hw]; exact alloc_new _ _, (hm.2 b2 (by simp)).trans hs, hd.b.size, by omega⟩
end
structure Gone (j : Nat) (S : Scpt) (st : St) (r : RSt) : Prop where
  ag : Agree S st r
  bd : Bd j st r
structure Deep (S : Scpt) : Prop where
  sh : Short S
  ok : OkS S
  fl : ∀ x ∈ S.fails, 0 ≤ x.op ∧ x.op < 256
theorem Duo.streamsR {w0 w : World} {B : Nat} {S : Scpt} {st : St} {r : RSt} {s : Shp} {bx : List Nat} (h : Duo w0 w B S st r s bx) (ha : Agree S st r) :
    Calls Try.prog 11 #[ptr B] w fun e w2 => e = .returned (.int .i64 r.opn.length) ∧ w2 = w := by
  rw [← ha.len]; exact h.streamsN
theorem Duo.isOpenR {w0 w : World} {B : Nat} {S : Scpt} {st : St} {r : RSt} {s : Shp} {bx : List Nat} (h : Duo w0 w B S st r s bx) (ha : Agree S st r) {j : Nat} (hb : Bd j st r) (k : Int) (n : ByteArray) (hk : k ≠ 6) :
    Calls Try.prog 14 #[ptr B, .int .u8 k, .string n] w fun e w' => e = .returned (.bool (decide (0 ≤ rplace k n r.opn))) ∧ Below w.heap.size w w' := by
  have := h.isOpen k n (by rw [ha.len]; have := hb.o16; omega)
  unfold openB at this
  rw [decide_eq_false hk, Bool.false_or, ha.place] at this
  exact this
theorem Duo.fileP {w0 w : World} {B : Nat} {S : Scpt} {st : St} {r : RSt} {s : Shp} {bx : List Nat} (h : Duo w0 w B S st r s bx) (ha : Agree S st r) {n : ByteArray} (hn : Small n) :
    Calls Try.prog 16 #[ptr B, .string n] w fun e w2 => e = .returned (.tuple #[.string (rData r n), .bool (lookF n r.files).isSome]) ∧ Duo w0 w2 B S st r s bx ∧ Keep bx w w2 := by
  have := h.file hn
  rw [data_of ha, ha.file] at this
  simpa using this
theorem Duo.fileD {w0 w : World} {B : Nat} {S : Scpt} {st : St} {r : RSt} {s : Shp} {bx : List Nat} (h : Duo w0 w B S st r s bx) (n : ByteArray) (hz : r.files.length ≤ 1000000) :
    Calls Try.prog 17 #[.agg (s.cells S r), .string n] w fun e w' => e = .returned (.tuple #[.string (rData r n), .bool (lookF n r.files).isSome]) ∧ Below w.heap.size w w' := by
  have := h.fileR n hz
  rw [fileA_data] at this
  exact this
theorem Duo.isOpen6 {w0 w : World} {B : Nat} {S : Scpt} {st : St} {r : RSt} {s : Shp} {bx : List Nat} (h : Duo w0 w B S st r s bx) (ha : Agree S st r) {j : Nat} (hb : Bd j st r) (k : Int) (n : ByteArray) (hk : k = 6) :
    Calls Try.prog 14 #[ptr B, .int .u8 k, .string n] w fun e w' => e = .returned (.bool true) ∧ Below w.heap.size w w' := by
  subst hk
  exact h.isOpen 6 n (by rw [ha.len]; have := hb.o16; omega)
theorem Duo.traceR {w0 w : World} {B : Nat} {S : Scpt} {st : St} {r : RSt} {s : Shp} {bx : List Nat} (h : Duo w0 w B S st r s bx) (ha : Agree S st r) (ht : r.events.length ≤ 1000000) :
    Calls Try.prog 13 #[ptr B] w fun e w' => ∃ oa oc, e = .returned (.slice oa r.events.length oc) ∧ OwnE w' 0 (.slice oa r.events.length oc) r.events ∧ Below w.heap.size w w' := by
  refine (h.trace (by rw [ha.trace]; exact ht)).mono fun e w' ⟨v, he, ho, hb⟩ => ?_
  rw [ha.trace] at ho
  obtain ⟨oa, oc, rfl, _⟩ := ho.shape
  exact ⟨oa, oc, he, ho.base (Nat.zero_le _), hb⟩
theorem Duo.clockR {w0 w : World} {B : Nat} {S : Scpt} {st : St} {r : RSt} {s : Shp} {bx : List Nat} (h : Duo w0 w B S st r s bx) (ha : Agree S st r) :
    Calls Try.prog 18 #[ptr B] w fun e w2 => e = .returned (.int .i64 S.clk) ∧ w2 = w := by
  rw [← ha.clk]; exact h.clock
theorem awake_call {K : Nat} (h : AwakeOk K) {W : World} (hK : K ≤ W.heap.size) : Calls Try.prog 7 #[] W fun e W' => e = .returned (.bool true) ∧ Below W.heap.size W W' := h W hK
def OpOk (o : OpR) : Prop := (0 ≤ o.k ∧ o.k < 256) ∧ -9223372036854775808 ≤ o.n ∧ o.n ≤ 9223372036854775807
theorem its_of {j : Nat} {S : Scpt} {st : St} {r : RSt} {o : OpR} (hg : Gone j S st r) (hd : Deep S) (hj : j < 50) (ho : OpOk o) (hn : o.name.size ≤ 100) (hd2 : o.data.size ≤ 100) : Its j S st r o.k o.name o.data o.n :=
  ⟨hg.ag, hg.bd, by omega, hd.sh, hd.ok.2.2.2, ho.1, hn, hd2, ho.2⟩
set_option maxHeartbeats 8000000 in
set_option maxRecDepth 100000 in
theorem plays {K : Nat} (haw : AwakeOk K) {w : World} {S : Scpt} {s : Shp} (hK0 : K ≤ w.heap.size) (h : ScrAt w S s) (v : Value) (X : List OpR) (hX : Scr w v X) (hXk : ∀ o ∈ X, OpOk o) (hS : Deep S) :
    Calls Try.prog 3 #[.agg (scr7 S s), v] w fun e w' => e = .returned (.bool true) ∧ Below w.heap.size w w' := by
  obtain ⟨oaX, cX, rfl, hX⟩ := hX
  have HA := Lib.hid haw
  have HX := Lib.hid (⟨hX, hXk⟩ : _ ∧ _)
  have HW0 := Lib.hid h
  have HS := Lib.hid hS
  have HE := Lib.hid (shortB_yes hS.sh)
  clear haw hX hXk h hS
  go_enter Try.func3, Try.ntmps3
  go_upto_region 1 with fail
  obtain ⟨wA, hA⟩ : ∃ wA, wA = w.alloc (.cells (scr7 S s) 27) := ⟨_, rfl⟩
  have hbA : Below w.heap.size w wA := by rw [hA]; exact (Below.refl _ w).alloc (Nat.le_refl _) _
  have hblA : ScrB wA w.heap.size S s := by rw [hA]; exact alloc_new _ _
  rw [← hA]
  have HB := Lib.hid (⟨hbA, hblA⟩ : _ ∧ _)
  obtain ⟨k0, k1, k2, k3, k4, k5, k6⟩ := sbox_of hblA
  clear hbA hA hblA
  go_upto_region 7 with (first
    | (go_at_call 9; obtain ⟨hb2, hl2, hw2, hT2⟩ := H2.out; refine (refGood (HW0.out) HS.out.sh HS.out.ok hw2 (fun k hk => Nat.le_trans HB.out.1.size (hT2 k hk)) hb2 (bx := [w.heap.size]) (fun b hb => by simp at hb; subst hb; exact ⟨blk_lt hl2, Classical.byContradiction fun e => by have := hT2 _ e; have := blk_lt HB.out.2; omega⟩)).mono ?_; rintro e w3 ⟨s3, rfl, hd3, hk3⟩; have H3 := Lib.hid (⟨hd3, (hk3 w.heap.size (by simp)).trans hl2⟩ : _ ∧ _); clear hb2 hl2 hw2 hT2 hd3 hk3 k0 k1 k2 k3 k4 k5 k6)
    | (go_at_call 8; have hh := H1.out; refine (newGood (HW0.out.below hh.1) HS.out.sh HS.out.ok HS.out.fl).mono ?_; rintro e w2 ⟨B, T, rfl, hw2, hT2, hb2⟩; have hl2 := (hb2.block _ (blk_lt hh.2.1)).trans hh.2.1; have H2 := Lib.hid (⟨hh.1.trans (hb2.mono hh.1.size), hl2, hw2, (fun k hk => Nat.le_trans hh.2.2 (hT2 k hk) : ∀ k, T k ≠ .no → wA.heap.size ≤ k)⟩ : _ ∧ _ ∧ _ ∧ _); clear hb2 hw2 hT2 hh k0 k1 k2 k3 k4 k5 k6; obtain ⟨k0, k1, k2, k3, k4, k5, k6⟩ := sbox_of hl2; clear hl2)
    | (go_at_call 6; have hh := HB.out; refine (shortScript (HW0.out.below hh.1)).mono ?_; rintro e w1 ⟨rfl, hb1⟩; rw [HE.out]; have hl1 := (hb1.block _ (blk_lt hh.2)).trans hh.2; have H1 := Lib.hid (⟨hh.1.trans (hb1.mono hh.1.size), hl1, hb1.size⟩ : _ ∧ _ ∧ _); clear hb1 hh k0 k1 k2 k3 k4 k5 k6; obtain ⟨k0, k1, k2, k3, k4, k5, k6⟩ := sbox_of hl1; clear hl1))
  obtain ⟨w4, hW⟩ : ∃ w4, w4 = w3.alloc (.cells (s3.cells S (rNew S)) 38) := ⟨_, rfl⟩
  have hPl := Pl.start H3.out.1 H3.out.2 hW
  rw [← hW]
  clear hW
  generalize w3.heap.size = b7 at hPl ⊢
  have HP0 := Lib.hid (⟨hPl, ⟨agree_new HS.out.ok, bd_new S HS.out.sh⟩⟩ : Pl _ _ _ _ _ _ _ _ _ _ ∧ Gone 0 S (stNew S) (rNew S))
  clear hPl
  go_wp2_with fail
  generalize s3.cells S (rNew S) = junk
  go_loopg [9] X.length (fun q i wr => ∃ j st r s', X.length - j = q ∧ j ≤ X.length ∧ j ≤ 50 ∧ i = .int .i64 (j : Int) ∧ Pl w wr B S s st r s' w.heap.size b7 ∧ Gone j S st r)
  case atStart => exact ⟨0, _, _, _, rfl, Nat.zero_le _, by omega, rfl, HP0.out⟩
  case round =>
    obtain ⟨j, st, r, s4, hq, hj, hj50, rfl, hP, hG⟩ := hrel
    by_cases hlt : j < X.length ∧ j < 50
    · obtain ⟨hlt, hlt5⟩ := hlt
      have hlt' : (j : Int) < (X.length : Int) := by omega
      have hlt5' : (j : Int) < 50 := by omega
      obtain ⟨o, ho⟩ : ∃ o, X[j]? = some o := ⟨_, List.getElem?_eq_getElem hlt⟩
      have hok := HX.out.2 o (List.mem_of_getElem? ho)
      obtain ⟨l, p, rfl, d0, d1, d2, d3, d4⟩ := HX.out.1 j o ho
      have hbw := hP.duo.b
      have d0 := (hbw.cell (World.block_lt_of_cell? w _ d0)).trans d0
      have d1 := (hbw.cell (World.block_lt_of_cell? w _ d1)).trans d1
      have d2 := (hbw.cell (World.block_lt_of_cell? w _ d2)).trans d2
      have d3 := (hbw.cell (World.block_lt_of_cell? w _ d3)).trans d3
      have d4 := (hbw.cell (World.block_lt_of_cell? w _ d4)).trans d4
      have hR := hP.more #[.int .i64 o.kind, .int .u8 o.k, .string o.name, .string o.data, .int .i64 o.n]
      have HG := Lib.hid (⟨hG, hok⟩ : _ ∧ _)
      clear hP hG hok hbw ho
      go_upto_region 11 with fail
      obtain ⟨wB, hB⟩ : ∃ wB, wB = wr.alloc (.cells #[.int .i64 o.kind, .int .u8 o.k, .string o.name, .string o.data, .int .i64 o.n] 43) := ⟨_, rfl⟩
      rw [← hB] at hR ⊢
      clear hB d0 d1 d2 d3 d4
      generalize wr.heap.size = b10 at *
      have HR := Lib.hid hR
      clear hR
      have o2 : wB.cell? ⟨b10, 2, none⟩ = some (.string o.name) := HR.out.cell 2
      have o3 : wB.cell? ⟨b10, 3, none⟩ = some (.string o.data) := HR.out.cell 3
      by_cases hn : o.name.size ≤ 100
      · have hn' : ¬ 100 < (o.name.size : Int) := by omega
        by_cases hd : o.data.size ≤ 100
        · have hd' : ¬ 100 < (o.data.size : Int) := by omega
          have HI := Lib.hid (its_of HG.out.1 HS.out hlt5 HG.out.2 hn hd)
          clear hn hd
          have o0 : wB.cell? ⟨b10, 0, none⟩ = some (.int .i64 o.kind) := HR.out.cell 0
          have o1 : wB.cell? ⟨b10, 1, none⟩ = some (.int .u8 o.k) := HR.out.cell 1
          have o4 : wB.cell? ⟨b10, 4, none⟩ = some (.int .i64 o.n) := HR.out.cell 4
          obtain ⟨y0, y1, y2, y3, y4, y5, y6, y7, y8, y9, y10, y11, _, _⟩ := HR.out.box
          go_upto_region 14 with (go_at_call 10; refine (oneAll HR.out.duo HI.out o.kind).mono ?_; rintro e w5 ⟨st2, r2, s2, rfl, hd5, hk5, hag, hbd⟩; have H5 := Lib.hid (⟨hd5, hk5, (⟨hag, hbd⟩ : Gone (j + 1) S st2 r2)⟩ : _ ∧ _ ∧ _); clear hd5 hk5 hag hbd y0 y1 y2 y3 y4 y5 y6 y7 y8 y9 y10 y11 o0 o1 o2 o3 o4; obtain ⟨y0, y1, y2, y3, y4, y5, y6, y7, y8, y9, y10, y11, qz, _⟩ := HR.out.drop H5.out.2.1; have qz0 := qz 0; have qz1 := qz 1; have qz2 := qz 2; have qz3 := qz 3; have qz4 := qz 4; have qz5 := qz 5; have qz6 := qz 6; have qz7 := qz 7; have qz8 := qz 8; have qz9 := qz 9; have qz10 := qz 10; have qz11 := qz 11; clear qz)
          rw [put12_def]
          have hR5 := HR.out.put H5.out.1 H5.out.2.1
          generalize put12 w5 b7 S r2 s2 = wP at *
          have HR5 := Lib.hid hR5
          clear hR5 y0 y1 y2 y3 y4 y5 y6 y7 y8 y9 y10 y11 qz0 qz1 qz2 qz3 qz4 qz5 qz6 qz7 qz8 qz9 qz10 qz11
          refine Rg.wp_region_cut 10 29 rfl (by kernel_rfl) (by kernel_rfl) ?_
          intro wE hbE hhE
          have hRE := HR5.out.below hbE
          have HRE := Lib.hid hRE
          clear hRE hbE hhE
          obtain ⟨y0, y1, y2, y3, y4, y5, y6, y7, y8, y9, y10, y11, _, _⟩ := HRE.out.box
          simp only [List.take_succ_cons, List.take_zero]
          still_step
          still_step
          still_step
          still_step
          refine wpStill_step (fun K hK => ?_)
          go_simp
          refine ⟨_, HRE.out.duo.streamsR H5.out.2.2.ag, hK _ ?_⟩
          clear hK K
          repeat still_step
          refine wpStill_nil ?_
          refine wpAny_ready (rs := [10]) (by kernel_rfl) (by simp) (AllReady.cons rfl (fun K hK => ?_) AllReady.nil)
          go_simp
          refine hK _ _ ?_
          clear hK K
          refine wpAny_take (i := 11) (v := ptr B) rfl (by kernel_rfl) (by kernel_rfl) (by kernel_rfl) (fun _ _ _ h => h) (Or.inl ⟨by rfl, fun w => by go_simp⟩) ?_
          refine wpAny_take (i := 13) (v := .pointer (some ⟨b7, 11, none⟩)) rfl (by kernel_rfl) (by kernel_rfl) (by kernel_rfl) (fun _ _ _ h => h) (Or.inl ⟨by rfl, fun w => by go_simp⟩) ?_
          have hev6 : r2.events.length ≤ 1000000 := by have := H5.out.2.2.bd.ev; omega
          refine wpAny_ready (rs := [12, 14]) (by kernel_rfl) (by simp) (AllReady.cons rfl (fun K hK => ?_) (AllReady.cons rfl (fun K hK => ?_) AllReady.nil))
          case' refine_1 =>
            go_simp
            go_at_call 13
            refine (HRE.out.duo.traceR H5.out.2.2.ag hev6).mono ?_
            rintro e w6 ⟨oa6, oc6, rfl, hO, hb6⟩
            have H6 := Lib.hid (⟨HRE.out.below hb6, hO⟩ : _ ∧ _)
            clear hb6 hO
            clear y0 y1 y2 y3 y4 y5 y6 y7 y8 y9 y10 y11
            obtain ⟨y0, y1, y2, y3, y4, y5, y6, y7, y8, y9, y10, y11, _, _⟩ := H6.out.1.box
            go_simp
            refine hK _ _ ?_
            clear hK K
            refine wpAny_ready (rs := [14]) (by kernel_rfl) (by simp) (AllReady.cons rfl (fun K hK => ?_) AllReady.nil)
            go_simp
            refine hK _ _ ?_
            clear hK K
          case' refine_2 =>
            go_simp
            refine hK _ _ ?_
            clear hK K
            refine wpAny_ready (rs := [12]) (by kernel_rfl) (by simp) (AllReady.cons rfl (fun K hK => ?_) AllReady.nil)
            go_simp
            go_at_call 13
            refine (HRE.out.duo.traceR H5.out.2.2.ag hev6).mono ?_
            rintro e w6 ⟨oa6, oc6, rfl, hO, hb6⟩
            have H6 := Lib.hid (⟨HRE.out.below hb6, hO⟩ : _ ∧ _)
            clear hb6 hO
            clear y0 y1 y2 y3 y4 y5 y6 y7 y8 y9 y10 y11
            obtain ⟨y0, y1, y2, y3, y4, y5, y6, y7, y8, y9, y10, y11, _, _⟩ := H6.out.1.box
            go_simp
            refine hK _ _ ?_
            clear hK K
          all_goals
            have o1 : w6.cell? ⟨b10, 1, none⟩ = some (.int .u8 o.k) := H6.out.1.cell 1
            have o2 : w6.cell? ⟨b10, 2, none⟩ = some (.string o.name) := H6.out.1.cell 2
            have o1L := fun x : Later w6 => x.cell o1
            have o2L := fun x : Later w6 => x.cell o2
            have y0L := fun x : Later w6 => x.cell y0; have y1L := fun x : Later w6 => x.cell y1; have y2L := fun x : Later w6 => x.cell y2; have y3L := fun x : Later w6 => x.cell y3; have y4L := fun x : Later w6 => x.cell y4; have y5L := fun x : Later w6 => x.cell y5; have y6L := fun x : Later w6 => x.cell y6; have y7L := fun x : Later w6 => x.cell y7; have y8L := fun x : Later w6 => x.cell y8; have y9L := fun x : Later w6 => x.cell y9; have y10L := fun x : Later w6 => x.cell y10; have y11L := fun x : Later w6 => x.cell y11
            refine Rg.wpAny_quiet_from (fun w' => ∃ x : Later w6, w' = x.w) 15 (by rfl) (by kernel_rfl) rfl (by kernel_rfl) ⟨⟨w6, Below.refl _ _⟩, rfl⟩ ?_
            simp only [List.drop_succ_cons, List.drop_zero]
            by_cases h6 : o.k = 6
            · have h6b : (o.k == 6) = true := beq_iff_eq.2 h6
              have h6c : (o.k != 6) = false := by rw [bne, h6b]; rfl
              repeat (with_reducible refine wpQuiet_step ?_; intro K hK; go_simp; first | (refine hK _ ?_; clear hK K) | (apply Exists.intro; refine ⟨fun q => ?_, hK _ ?_⟩; (first | (go_at_call 12; exact later_call (sameEvents (H6.out.2.below q.h) (H6.out.1.duo.events.below q.h) hev6)) | (go_at_call 14; exact later_call ((H6.out.1.duo.below q.h).1.isOpen6 H5.out.2.2.ag H5.out.2.2.bd 6 o.name rfl)) | (go_at_call 15; exact later_call ((H6.out.1.duo.below q.h).1.found _ _ (by have := H5.out.2.2.bd.o16; omega)))); clear hK K))
              refine wpQuiet_nil ?_
              rintro wQ ⟨q, rfl⟩
              have hRQ := H6.out.1.below q.h
              clear y0L y1L y2L y3L y4L y5L y6L y7L y8L y9L y10L y11L o1L o2L y0 y1 y2 y3 y4 y5 y6 y7 y8 y9 y10 y11 o1 o2
              generalize q.w = wQ at *
              have HRQ := Lib.hid hRQ
              clear hRQ
              obtain ⟨y0, y1, y2, y3, y4, y5, y6, y7, y8, y9, y10, y11, _, _⟩ := HRQ.out.box
              have o2 : wQ.cell? ⟨b10, 2, none⟩ = some (.string o.name) := HRQ.out.cell 2
              have hfl6 : r2.files.length ≤ 1000000 := by have := H5.out.2.2.bd.fl; omega
              go_upto_region 18 with (first | (go_at_call 17; refine (H7.out.duo.fileD o.name hfl6).mono ?_; rintro e w8 ⟨rfl, hb8⟩; have H8 := Lib.hid (H7.out.below hb8); clear hb8) | (go_at_call 16; refine (HRQ.out.duo.fileP H5.out.2.2.ag HI.out.small).mono ?_; rintro e w7 ⟨rfl, hd7, hk7⟩; have H7 := Lib.hid (HRQ.out.step hd7 hk7); clear hd7 hk7 o2 y0 y1 y2 y3 y4 y5 y6 y7 y8 y9 y10 y11; obtain ⟨y0, y1, y2, y3, y4, y5, y6, y7, y8, y9, y10, y11, _, _⟩ := H7.out.box; have o2 : w7.cell? ⟨b10, 2, none⟩ = some (.string o.name) := H7.out.cell 2))
              go_wp2_with fail
              go_roundg (X.length - (j + 1))
              case measure => omega
              case rel => exact ⟨j + 1, st2, r2, s2, rfl, hlt, hlt5, by go_num, H8.out.pl, H5.out.2.2⟩
            · have h6b : (o.k == 6) = false := beq_eq_false_iff_ne.2 h6
              have h6c : (o.k != 6) = true := by rw [bne, h6b]; rfl
              repeat (with_reducible refine wpQuiet_step ?_; intro K hK; go_simp; first | (refine hK _ ?_; clear hK K) | (apply Exists.intro; refine ⟨fun q => ?_, hK _ ?_⟩; (first | (go_at_call 12; exact later_call (sameEvents (H6.out.2.below q.h) (H6.out.1.duo.events.below q.h) hev6)) | (go_at_call 14; exact later_call ((H6.out.1.duo.below q.h).1.isOpenR H5.out.2.2.ag H5.out.2.2.bd o.k o.name h6)) | (go_at_call 15; exact later_call ((H6.out.1.duo.below q.h).1.found _ _ (by have := H5.out.2.2.bd.o16; omega)))); clear hK K))
              refine wpQuiet_nil ?_
              rintro wQ ⟨q, rfl⟩
              have hRQ := H6.out.1.below q.h
              clear y0L y1L y2L y3L y4L y5L y6L y7L y8L y9L y10L y11L o1L o2L y0 y1 y2 y3 y4 y5 y6 y7 y8 y9 y10 y11 o1 o2
              generalize q.w = wQ at *
              have HRQ := Lib.hid hRQ
              clear hRQ
              obtain ⟨y0, y1, y2, y3, y4, y5, y6, y7, y8, y9, y10, y11, _, _⟩ := HRQ.out.box
              have o2 : wQ.cell? ⟨b10, 2, none⟩ = some (.string o.name) := HRQ.out.cell 2
              have hfl6 : r2.files.length ≤ 1000000 := by have := H5.out.2.2.bd.fl; omega
              go_upto_region 18 with (first | (go_at_call 17; refine (H7.out.duo.fileD o.name hfl6).mono ?_; rintro e w8 ⟨rfl, hb8⟩; have H8 := Lib.hid (H7.out.below hb8); clear hb8) | (go_at_call 16; refine (HRQ.out.duo.fileP H5.out.2.2.ag HI.out.small).mono ?_; rintro e w7 ⟨rfl, hd7, hk7⟩; have H7 := Lib.hid (HRQ.out.step hd7 hk7); clear hd7 hk7 o2 y0 y1 y2 y3 y4 y5 y6 y7 y8 y9 y10 y11; obtain ⟨y0, y1, y2, y3, y4, y5, y6, y7, y8, y9, y10, y11, _, _⟩ := H7.out.box; have o2 : w7.cell? ⟨b10, 2, none⟩ = some (.string o.name) := H7.out.cell 2))
              go_wp2_with fail
              go_roundg (X.length - (j + 1))
              case measure => omega
              case rel => exact ⟨j + 1, st2, r2, s2, rfl, hlt, hlt5, by go_num, H8.out.pl, H5.out.2.2⟩
        · have hd' : 100 < (o.data.size : Int) := by omega
          go_wp2_with fail
          go_roundg (X.length - (j + 1))
          case measure => omega
          case rel => exact ⟨j + 1, st, r, s4, rfl, hlt, hlt5, by go_num, HR.out.pl, HG.out.1.ag, HG.out.1.bd.next⟩
      · have hn' : 100 < (o.name.size : Int) := by omega
        go_wp2_with fail
        go_roundg (X.length - (j + 1))
        case measure => omega
        case rel => exact ⟨j + 1, st, r, s4, rfl, hlt, hlt5, by go_num, HR.out.pl, HG.out.1.ag, HG.out.1.bd.next⟩
    · have HP9 := Lib.hid (⟨hP, hG⟩ : _ ∧ _)
      clear hP hG
      by_cases hx : j < X.length
      case' pos =>
        have f1 : (j : Int) < (X.length : Int) := by omega
        have f2 : ¬ (j : Int) < 50 := by omega
        go_wp2_with fail
      case' neg =>
        have f1 : ¬ (j : Int) < (X.length : Int) := by omega
        go_wp2_with fail
      all_goals
        clear f1
        try clear f2
        have f3 := HP9.out.2.bd.fl
        go_loopg [16] r.files.length (fun q i wz => ∃ m, r.files.length - m = q ∧ m ≤ r.files.length ∧ i = .int .i64 (m : Int) ∧ Pl w wz B S s st r s4 w.heap.size b7)
        case atStart => exact ⟨0, rfl, Nat.zero_le _, rfl, HP9.out.1⟩
        case round =>
          obtain ⟨m, hqm, hm2, rfl, hP⟩ := hrel
          have HP := Lib.hid hP
          clear hP
          by_cases hltm : m < r.files.length
          · have hltm' : (m : Int) < (r.files.length : Int) := by omega
            obtain ⟨p, hp⟩ : ∃ p, r.files[m]? = some p := ⟨_, List.getElem?_eq_getElem hltm⟩
            have hlk := lookF_at HP9.out.2.ag.once hp
            have hnm := HP9.out.2.bd.nm p (List.mem_of_getElem? hp)
            have hd : rData r p.1 = p.2 := by unfold rData; rw [hlk]
            have hs : (lookF p.1 r.files).isSome = true := by rw [hlk]; rfl
            have HD := Lib.hid (⟨hp, hd, hs⟩ : _ ∧ _ ∧ _)
            clear hp hd hs hlk
            obtain ⟨g, hg, hc⟩ := HP.out.duo.files.at lenF HD.out.1
            have y7 := HP.out.box.c7
            rw [hg] at y7
            have e0 : wr.cell? ⟨g, m * 2, none⟩ = some (.string p.1) := hc 0 (by decide)
            have HG := Lib.hid hg
            clear hg hc
            go_upto_region 24 with (go_at_call 16; refine (HP.out.duo.fileP HP9.out.2.ag (n := p.1) (by unfold Small; omega)).mono ?_; rintro e w7 ⟨rfl, hd7, hk7⟩; rw [HD.out.2.1, HD.out.2.2]; have H7 := Lib.hid (HP.out.step hd7 hk7); clear hd7 hk7 y7 e0; have y7 := H7.out.box.c7; rw [HG.out] at y7; obtain ⟨g2, hg2, hc⟩ := H7.out.duo.files.at lenF HD.out.1; rw [HG.out] at hg2; obtain rfl : g = g2 := (by simpa using hg2); have e1 : w7.cell? ⟨g, m * 2 + 1, none⟩ = some (.string p.2) := hc 1 (by decide); clear hg2 hc)
            go_wp2_with fail
            go_roundg (r.files.length - (m + 1))
            case measure => omega
            case rel => exact ⟨m + 1, rfl, hltm, by go_num, H7.out⟩
          · obtain rfl : m = r.files.length := by omega
            have hge : ¬ (r.files.length : Int) < (r.files.length : Int) := by omega
            have y7 := HP.out.box.c7
            have k5 := (sbox_of HP.out.scr).c5
            go_wp2_with fail
            refine wp_region_later (by kernel_rfl) (by kernel_rfl) ?_
            have k5L := fun x : Later wr => x.cell k5
            have hbw := HP.out.duo.b
            repeat (with_reducible refine wpQuiet_step ?_; intro K hK; go_simp; first | (refine hK _ ?_; clear hK K) | (apply Exists.intro; refine ⟨fun q => ?_, hK _ ?_⟩; (first | (go_at_call 7; exact later_call (awake_call HA.out (Nat.le_trans (Nat.le_trans hK0 hbw.size) q.h.size))) | (go_at_call 18; exact later_same ((HP.out.below q.h).duo.clockR HP9.out.2.ag))); clear hK K))
            refine wpQuiet_nil ?_
            rintro wQ ⟨q, rfl⟩
            go_wp2_with fail
            go_ret
            exact ⟨rfl, hbw.trans (q.h.mono hbw.size)⟩
end Go.Proofs.Ythbkcdbmimhhkaa.Rw
