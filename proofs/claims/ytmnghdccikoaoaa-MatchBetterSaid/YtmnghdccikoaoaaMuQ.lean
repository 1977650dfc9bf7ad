/-
  Package match's statements: MatchBetter, walked: where one of the four trees is not made, and where all are.
-/
import Derived.Test.YtmnghdccikoaoaaMuP
namespace Go.Proofs.Ytmnghdccikoaoaa.Mt
open Go.RowKit Go.Proofs.Ytmnghdccikoaoaa.Sh

/- A block's cells. -/
def Box (b : Nat) (cs : List Value) (w : World) : Prop := ∀ (j : Nat) (u : Value), cs[j]? = some u → w.cell? ⟨b, j, none⟩ = some u
theorem Box.below {b : Nat} {cs : List Value} {w w' : World} (h : Box b cs w) (hb : Below w.heap.size w w') : Box b cs w' := fun j u hu => by
  have := h j u hu
  exact (hb.cell (cell_lt this)).trans this
theorem box_new (w : World) (cs : Array Value) (t : TypeId) : Box w.heap.size cs.toList (w.alloc (.cells cs t)) := fun j u hu => by
  rw [World.cell?_alloc_at _ _ _ _ rfl]; simpa using hu
theorem box_below (w : World) (o : Obj) : Below w.heap.size w (w.alloc o) := (Below.refl _ _).alloc (Nat.le_refl _) o
theorem box_new2 (w : World) (o : Obj) (cs : Array Value) (t : TypeId) : Box (w.heap.size + 1) cs.toList ((w.alloc o).alloc (.cells cs t)) := by
  have := box_new (w.alloc o) cs t
  rwa [alloc_size] at this
structure Two (W0 w : World) (a b : List Value) (w' : World) : Prop where
  fst : Box w.heap.size a w'
  snd : Box (w.heap.size + 1) b w'
  low : Below w.heap.size w w'
  old : Below W0.heap.size W0 w'
theorem Two.below {W0 w w' w'' : World} {a b : List Value} (h : Two W0 w a b w') (hb : Below w'.heap.size w' w'') : Two W0 w a b w'' :=
  ⟨h.fst.below hb, h.snd.below hb, h.low.trans (hb.mono h.low.size), h.old.trans (hb.mono h.old.size)⟩
theorem Two.new {W0 w : World} (h0 : Below W0.heap.size W0 w) (a b : Array Value) (t u : TypeId) : Two W0 w a.toList b.toList ((w.alloc (.cells a t)).alloc (.cells b u)) :=
  ⟨(box_new w a t).below (box_below _ _), box_new2 w _ b u, (box_below _ _).trans ((box_below _ _).mono (two_size (Nat.le_refl _))),
    (h0.trans ((box_below _ _).mono h0.size)).trans ((box_below _ _).mono (two_size h0.size))⟩
theorem Two.made {W0 w w' : World} {a b : Array Value} {t u : TypeId} (hb : Below ((w.alloc (.cells a t)).alloc (.cells b u)).heap.size ((w.alloc (.cells a t)).alloc (.cells b u)) w') (h0 : Below W0.heap.size W0 w) : Two W0 w a.toList b.toList w' :=
  (Two.new h0 a b t u).below hb

/- New, for a walk that does not look at what it hands back. -/
theorem new_some {W0 : World} {r : Re} {cs : List Value} {w : World} (hin : ∀ l, inR l r) (hL : Lies W0 r cs) (hb : Below W0.heap.size W0 w) :
    Calls Try.prog 14 #[.agg ⟨cs⟩] w fun e w' => ∃ (p : Option Addr) (n : Int), e = .returned (.tuple #[.pointer p, .int .i64 n]) ∧ Below w.heap.size w w' :=
  (new_any hin hL hb).mono fun e w' h => by
    obtain ⟨h1, ⟨mb, _, _, _, h2, _, _⟩ | ⟨n, _, h3⟩⟩ := h
    · exact ⟨_, _, h2, h1⟩
    · exact ⟨_, _, h3, h1⟩
def altR (x y : Re) : Re := .mk 6 0 0 0 0 0 0 [x, y]
def maybeR (x : Re) : Re := .mk 7 0 0 0 0 0 1 [x]
theorem inR_alt {x y : Re} (hx : ∀ l, inR l x) (hy : ∀ l, inR l y) : ∀ l, inR l (altR x y) :=
  inR_over (fun r hr => by simp only [List.mem_cons, List.not_mem_nil, or_false] at hr; rcases hr with rfl | rfl <;> assumption) (by decide) (by decide) (by decide)
theorem inR_maybe {x : Re} (hx : ∀ l, inR l x) : ∀ l, inR l (maybeR x) :=
  inR_over (fun r hr => by simp only [List.mem_cons, List.not_mem_nil, or_false] at hr; subst hr; exact hx) (by decide) (by decide) (by decide)
theorem alt_lies {W0 w : World} {x y : Re} {a0 a1 a2 a3 a4 a5 a6 a7 b0 b1 b2 b3 b4 b5 b6 b7 : Value} (hX : Lies W0 x [a0, a1, a2, a3, a4, a5, a6, a7]) (hY : Lies W0 y [b0, b1, b2, b3, b4, b5, b6, b7]) (h : Below W0.heap.size W0 w) (t : TypeId) :
    Lies (w.alloc (.cells #[a0, a1, a2, a3, a4, a5, a6, a7, b0, b1, b2, b3, b4, b5, b6, b7] t)) (altR x y) [.int .u8 6, .int .u64 0, .int .u64 0, .int .u64 0, .int .u64 0, .int .i64 0, .int .i64 0, .slice (some ⟨w.heap.size, 0, none⟩) 2 2] := by
  have hb := h.trans ((box_below w (.cells #[a0, a1, a2, a3, a4, a5, a6, a7, b0, b1, b2, b3, b4, b5, b6, b7] t)).mono h.size)
  have hc := box_new w #[a0, a1, a2, a3, a4, a5, a6, a7, b0, b1, b2, b3, b4, b5, b6, b7] t
  refine lies_two (Lies.later hb hX) (Lies.later hb hY) w.heap.size (fun j v hj => ?_) (fun j v hj => ?_) 6 0 0
  · exact hc j v (by match j, hj with
      | 0, hj | 1, hj | 2, hj | 3, hj | 4, hj | 5, hj | 6, hj | 7, hj => exact hj)
  · exact hc (8 + j) v (by match j, hj with
      | 0, hj | 1, hj | 2, hj | 3, hj | 4, hj | 5, hj | 6, hj | 7, hj => exact hj)
theorem maybe_lies {W0 w : World} {x : Re} {a0 a1 a2 a3 a4 a5 a6 a7 : Value} (hX : Lies W0 x [a0, a1, a2, a3, a4, a5, a6, a7]) (h : Below W0.heap.size W0 w) (t : TypeId) :
    Lies (w.alloc (.cells #[a0, a1, a2, a3, a4, a5, a6, a7] t)) (maybeR x) [.int .u8 7, .int .u64 0, .int .u64 0, .int .u64 0, .int .u64 0, .int .i64 0, .int .i64 1, .slice (some ⟨w.heap.size, 0, none⟩) 1 1] := by
  have hb := h.trans ((box_below w (.cells #[a0, a1, a2, a3, a4, a5, a6, a7] t)).mono h.size)
  exact lies_one (Lies.later hb hX) w.heap.size (fun j v hj => box_new w _ t j v (by simpa using hj)) 7 0 1

set_option maxHeartbeats 8000000 in
set_option maxRecDepth 100000 in
theorem better_x {K : Nat} (haw : Awake K) {W0 : World} {x y : Re} {cx cy : List Value} (hK : K ≤ W0.heap.size) (hX : Lies W0 x cx) (hY : Lies W0 y cy) (hix : ∀ l, inR l x) (hiy : ∀ l, inR l y) (s : ByteArray) (fr : Int) (w : World) (hb : Below W0.heap.size W0 w)
    (hs : ¬ (30 : Int) < ((s.size : Nat) : Int)) (hx : shortB 4 x = true) (hy : shortB 4 y = true) (hn : ¬ Fit x) :
    Calls Try.prog 6 #[.agg ⟨cx⟩, .agg ⟨cy⟩, .string s, .int .i64 fr] w fun e w' => e = .returned (.bool true) ∧ Below w.heap.size w w' := by
  have hKw : K ≤ w.heap.size := Nat.le_trans hK hb.size
  have HSX := Lib.hid (fun w1 (h : Below W0.heap.size W0 w1) => short W0 4 x _ w1 (by omega) hX h)
  have HSY := Lib.hid (fun w1 (h : Below W0.heap.size W0 w1) => short W0 4 y _ w1 (by omega) hY h)
  have HN1 := Lib.hid (fun w1 (h : Below W0.heap.size W0 w1) => new_unfit (w := w1) hn hix hX h)
  have HN2 := Lib.hid (fun w1 (h : Below W0.heap.size W0 w1) => new_some (w := w1) hiy hY h)
  obtain ⟨k, s0, s1, s2, s3, a, b, kids, sl, cap, hre, rfl, _, _⟩ := hX.open
  obtain ⟨k', s0', s1', s2', s3', a', b', kids', sl', cap', hre', rfl, _, _⟩ := hY.open
  clear hre hre'
  have HX := Lib.hid hX
  have HY := Lib.hid hY
  have HB := Lib.hid hb
  have HTX := Lib.hid hx
  have HTY := Lib.hid hy
  clear hn
  clear hb hX hY hx hy
  go_enter Try.func6, Try.ntmps6
  go_wp2_with (first
    | (have HH := H4.out; go_at_call 17; refine (haw w4 (Nat.le_trans hKw H4.out.low.size)).mono ?_; rintro e wz ⟨rfl, hbz⟩; clear HH; have HZ := Lib.hid (H4.out.low.trans (hbz.mono H4.out.low.size)); clear hbz)
    | (have HH := H3.out; go_at_call 14; refine (HN2.out w3 H3.out.old).mono ?_; rintro e w4 ⟨p4, n4, rfl, hb4⟩; clear HH; have H4 := Lib.hid (H3.out.below hb4); clear hb4)
    | (have HH := H2.out; go_at_call 14; refine (HN1.out w2 H2.out.old).mono ?_; rintro e w3 ⟨n3, hn3, rfl, hb3⟩; clear HH; have ht := H2.out.below hb3; have c3x0 := ht.fst 0 _ rfl; have c3x1 := ht.fst 1 _ rfl; have c3x2 := ht.fst 2 _ rfl; have c3x3 := ht.fst 3 _ rfl; have c3x4 := ht.fst 4 _ rfl; have c3x5 := ht.fst 5 _ rfl; have c3x6 := ht.fst 6 _ rfl; have c3x7 := ht.fst 7 _ rfl; have c3y0 := ht.snd 0 _ rfl; have c3y1 := ht.snd 1 _ rfl; have c3y2 := ht.snd 2 _ rfl; have c3y3 := ht.snd 3 _ rfl; have c3y4 := ht.snd 4 _ rfl; have c3y5 := ht.snd 5 _ rfl; have c3y6 := ht.snd 6 _ rfl; have c3y7 := ht.snd 7 _ rfl; have H3 := Lib.hid ht; clear ht hb3)
    | (have HH := H1.out; go_at_call 21; refine (HSY.out w1 H1.out.old).mono ?_; rintro e w2 ⟨rfl, hb2⟩; rw [HTY.out]; clear HH; have ht := H1.out.below hb2; have c2x0 := ht.fst 0 _ rfl; have c2x1 := ht.fst 1 _ rfl; have c2x2 := ht.fst 2 _ rfl; have c2x3 := ht.fst 3 _ rfl; have c2x4 := ht.fst 4 _ rfl; have c2x5 := ht.fst 5 _ rfl; have c2x6 := ht.fst 6 _ rfl; have c2x7 := ht.fst 7 _ rfl; have c2y0 := ht.snd 0 _ rfl; have c2y1 := ht.snd 1 _ rfl; have c2y2 := ht.snd 2 _ rfl; have c2y3 := ht.snd 3 _ rfl; have c2y4 := ht.snd 4 _ rfl; have c2y5 := ht.snd 5 _ rfl; have c2y6 := ht.snd 6 _ rfl; have c2y7 := ht.snd 7 _ rfl; have H2 := Lib.hid ht; clear ht hb2)
    | (go_at_call 21; refine (HSX.out _ (Two.new HB.out _ _ _ _).old).mono ?_; rintro e w1 ⟨rfl, hb1⟩; rw [HTX.out]; have ht := Two.made hb1 HB.out; have c1x0 := ht.fst 0 _ rfl; have c1x1 := ht.fst 1 _ rfl; have c1x2 := ht.fst 2 _ rfl; have c1x3 := ht.fst 3 _ rfl; have c1x4 := ht.fst 4 _ rfl; have c1x5 := ht.fst 5 _ rfl; have c1x6 := ht.fst 6 _ rfl; have c1x7 := ht.fst 7 _ rfl; have c1y0 := ht.snd 0 _ rfl; have c1y1 := ht.snd 1 _ rfl; have c1y2 := ht.snd 2 _ rfl; have c1y3 := ht.snd 3 _ rfl; have c1y4 := ht.snd 4 _ rfl; have c1y5 := ht.snd 5 _ rfl; have c1y6 := ht.snd 6 _ rfl; have c1y7 := ht.snd 7 _ rfl; have H1 := Lib.hid ht; clear ht hb1))
  go_ret
  exact ⟨rfl, HZ.out⟩

set_option maxHeartbeats 8000000 in
set_option maxRecDepth 100000 in
theorem better_y {K : Nat} (haw : Awake K) {W0 : World} {x y : Re} {cx cy : List Value} (hK : K ≤ W0.heap.size) (hX : Lies W0 x cx) (hY : Lies W0 y cy) (hix : ∀ l, inR l x) (hiy : ∀ l, inR l y) (s : ByteArray) (fr : Int) (w : World) (hb : Below W0.heap.size W0 w)
    (hs : ¬ (30 : Int) < ((s.size : Nat) : Int)) (hx : shortB 4 x = true) (hy : shortB 4 y = true) (hf : Fit x) (hn : ¬ Fit y) :
    Calls Try.prog 6 #[.agg ⟨cx⟩, .agg ⟨cy⟩, .string s, .int .i64 fr] w fun e w' => e = .returned (.bool true) ∧ Below w.heap.size w w' := by
  have hKw : K ≤ w.heap.size := Nat.le_trans hK hb.size
  have HSX := Lib.hid (fun w1 (h : Below W0.heap.size W0 w1) => short W0 4 x _ w1 (by omega) hX h)
  have HSY := Lib.hid (fun w1 (h : Below W0.heap.size W0 w1) => short W0 4 y _ w1 (by omega) hY h)
  have HN1 := Lib.hid (fun w1 (h : Below W0.heap.size W0 w1) => new (w := w1) hf hX h)
  have HN2 := Lib.hid (fun w1 (h : Below W0.heap.size W0 w1) => new_unfit (w := w1) hn hiy hY h)
  obtain ⟨k, s0, s1, s2, s3, a, b, kids, sl, cap, hre, rfl, _, _⟩ := hX.open
  obtain ⟨k', s0', s1', s2', s3', a', b', kids', sl', cap', hre', rfl, _, _⟩ := hY.open
  clear hre hre'
  have HX := Lib.hid hX
  have HY := Lib.hid hY
  have HB := Lib.hid hb
  have HTX := Lib.hid hx
  have HTY := Lib.hid hy
  clear hn hf
  clear hb hX hY hx hy
  go_enter Try.func6, Try.ntmps6
  go_wp2_with (first
    | (have HH := H4.out; go_at_call 17; refine (haw w4 (Nat.le_trans hKw H4.out.low.size)).mono ?_; rintro e wz ⟨rfl, hbz⟩; clear HH; have HZ := Lib.hid (H4.out.low.trans (hbz.mono H4.out.low.size)); clear hbz)
    | (have HH := H3.out; go_at_call 14; refine (HN2.out w3 H3.out.1.old).mono ?_; rintro e w4 ⟨n4, hn4, rfl, hb4⟩; clear HH; have H4 := Lib.hid (H3.out.1.below hb4); clear hb4)
    | (have HH := H2.out; go_at_call 14; refine (HN1.out w2 H2.out.old).mono ?_; rintro e w3 ⟨ma, ga, pa, aa, rfl, _, _, hM3, hb3⟩; clear HH; have ht := H2.out.below hb3; have c3x0 := ht.fst 0 _ rfl; have c3x1 := ht.fst 1 _ rfl; have c3x2 := ht.fst 2 _ rfl; have c3x3 := ht.fst 3 _ rfl; have c3x4 := ht.fst 4 _ rfl; have c3x5 := ht.fst 5 _ rfl; have c3x6 := ht.fst 6 _ rfl; have c3x7 := ht.fst 7 _ rfl; have c3y0 := ht.snd 0 _ rfl; have c3y1 := ht.snd 1 _ rfl; have c3y2 := ht.snd 2 _ rfl; have c3y3 := ht.snd 3 _ rfl; have c3y4 := ht.snd 4 _ rfl; have c3y5 := ht.snd 5 _ rfl; have c3y6 := ht.snd 6 _ rfl; have c3y7 := ht.snd 7 _ rfl; have H3 := Lib.hid (⟨ht, hM3⟩ : _ ∧ _); clear ht hb3 hM3)
    | (have HH := H1.out; go_at_call 21; refine (HSY.out w1 H1.out.old).mono ?_; rintro e w2 ⟨rfl, hb2⟩; rw [HTY.out]; clear HH; have ht := H1.out.below hb2; have c2x0 := ht.fst 0 _ rfl; have c2x1 := ht.fst 1 _ rfl; have c2x2 := ht.fst 2 _ rfl; have c2x3 := ht.fst 3 _ rfl; have c2x4 := ht.fst 4 _ rfl; have c2x5 := ht.fst 5 _ rfl; have c2x6 := ht.fst 6 _ rfl; have c2x7 := ht.fst 7 _ rfl; have c2y0 := ht.snd 0 _ rfl; have c2y1 := ht.snd 1 _ rfl; have c2y2 := ht.snd 2 _ rfl; have c2y3 := ht.snd 3 _ rfl; have c2y4 := ht.snd 4 _ rfl; have c2y5 := ht.snd 5 _ rfl; have c2y6 := ht.snd 6 _ rfl; have c2y7 := ht.snd 7 _ rfl; have H2 := Lib.hid ht; clear ht hb2)
    | (go_at_call 21; refine (HSX.out _ (Two.new HB.out _ _ _ _).old).mono ?_; rintro e w1 ⟨rfl, hb1⟩; rw [HTX.out]; have ht := Two.made hb1 HB.out; have c1x0 := ht.fst 0 _ rfl; have c1x1 := ht.fst 1 _ rfl; have c1x2 := ht.fst 2 _ rfl; have c1x3 := ht.fst 3 _ rfl; have c1x4 := ht.fst 4 _ rfl; have c1x5 := ht.fst 5 _ rfl; have c1x6 := ht.fst 6 _ rfl; have c1x7 := ht.fst 7 _ rfl; have c1y0 := ht.snd 0 _ rfl; have c1y1 := ht.snd 1 _ rfl; have c1y2 := ht.snd 2 _ rfl; have c1y3 := ht.snd 3 _ rfl; have c1y4 := ht.snd 4 _ rfl; have c1y5 := ht.snd 5 _ rfl; have c1y6 := ht.snd 6 _ rfl; have c1y7 := ht.snd 7 _ rfl; have H1 := Lib.hid ht; clear ht hb1))
  go_ret
  exact ⟨rfl, HZ.out⟩

set_option maxHeartbeats 8000000 in
set_option maxRecDepth 100000 in
theorem better_alt {K : Nat} (haw : Awake K) {W0 : World} {x y : Re} {cx cy : List Value} (hK : K ≤ W0.heap.size) (hX : Lies W0 x cx) (hY : Lies W0 y cy) (hix : ∀ l, inR l x) (hiy : ∀ l, inR l y) (s : ByteArray) (fr : Int) (w : World) (hb : Below W0.heap.size W0 w)
    (hs : ¬ (30 : Int) < ((s.size : Nat) : Int)) (hx : shortB 4 x = true) (hy : shortB 4 y = true) (hf : Fit x) (hg : Fit y) (hn : ¬ Fit (altR x y)) :
    Calls Try.prog 6 #[.agg ⟨cx⟩, .agg ⟨cy⟩, .string s, .int .i64 fr] w fun e w' => e = .returned (.bool true) ∧ Below w.heap.size w w' := by
  have hKw : K ≤ w.heap.size := Nat.le_trans hK hb.size
  have HSX := Lib.hid (fun w1 (h : Below W0.heap.size W0 w1) => short W0 4 x _ w1 (by omega) hX h)
  have HSY := Lib.hid (fun w1 (h : Below W0.heap.size W0 w1) => short W0 4 y _ w1 (by omega) hY h)
  have HN1 := Lib.hid (fun w1 (h : Below W0.heap.size W0 w1) => new (w := w1) hf hX h)
  have HN2 := Lib.hid (fun w1 (h : Below W0.heap.size W0 w1) => new (w := w1) hg hY h)
  obtain ⟨k, s0, s1, s2, s3, a, b, kids, sl, cap, hre, rfl, _, _⟩ := hX.open
  obtain ⟨k', s0', s1', s2', s3', a', b', kids', sl', cap', hre', rfl, _, _⟩ := hY.open
  clear hre hre'
  have HX := Lib.hid hX
  have HY := Lib.hid hY
  have HB := Lib.hid hb
  have HTX := Lib.hid hx
  have HTY := Lib.hid hy
  have HN3 := Lib.hid (fun w4 w5 (h : Below W0.heap.size W0 w4) h5 => new_unfit (w := w5) hn (inR_alt hix hiy) (alt_lies (w := w4) hX hY h 34) h5)
  have HN4 := Lib.hid (fun w6 (h : Below W0.heap.size W0 w6) => new_some (inR_maybe hix) (maybe_lies (w := w6) hX h 34) (Below.refl _ _))
  clear hn hf hg
  clear hb hX hY hx hy
  go_enter Try.func6, Try.ntmps6
  go_wp2_with (first
    | (have HH := H7.out; go_at_call 17; refine (haw w7 (Nat.le_trans hKw H7.out.low.size)).mono ?_; rintro e wz ⟨rfl, hbz⟩; clear HH; have HZ := Lib.hid (H7.out.low.trans (hbz.mono H7.out.low.size)); clear hbz)
    | (have HH := H6.out; go_at_call 14; refine (HN4.out w6 H6.out.old).mono ?_; rintro e w7 ⟨p7, n7, rfl, hb7⟩; clear HH; have H7 := Lib.hid ((H6.out.below (box_below _ _)).below hb7); clear hb7)
    | (have HH := H5.out; go_at_call 14; refine (HN3.out w4 w5 H4.out.1.old H5.out).mono ?_; rintro e w6 ⟨n6, hn6, rfl, hb6⟩; clear HH; have ht := ((H4.out.1.below (box_below _ _)).below H5.out).below hb6; have c6x0 := ht.fst 0 _ rfl; have c6x1 := ht.fst 1 _ rfl; have c6x2 := ht.fst 2 _ rfl; have c6x3 := ht.fst 3 _ rfl; have c6x4 := ht.fst 4 _ rfl; have c6x5 := ht.fst 5 _ rfl; have c6x6 := ht.fst 6 _ rfl; have c6x7 := ht.fst 7 _ rfl; have H6 := Lib.hid ht; clear ht hb6)
    | (have HH := H4.out; go_at_call 22; refine (treeCall _ _ _ _ _).mono ?_; rintro e w5 ⟨rfl, hb5⟩; clear HH; have H5 := Lib.hid hb5; clear hb5)
    | (have HH := H3.out; go_at_call 14; refine (HN2.out w3 H3.out.1.old).mono ?_; rintro e w4 ⟨mb, gb, pb, ab, rfl, _, _, hM4, hb4⟩; clear HH; have ht := H3.out.1.below hb4; have c4x0 := ht.fst 0 _ rfl; have c4x1 := ht.fst 1 _ rfl; have c4x2 := ht.fst 2 _ rfl; have c4x3 := ht.fst 3 _ rfl; have c4x4 := ht.fst 4 _ rfl; have c4x5 := ht.fst 5 _ rfl; have c4x6 := ht.fst 6 _ rfl; have c4x7 := ht.fst 7 _ rfl; have c4y0 := ht.snd 0 _ rfl; have c4y1 := ht.snd 1 _ rfl; have c4y2 := ht.snd 2 _ rfl; have c4y3 := ht.snd 3 _ rfl; have c4y4 := ht.snd 4 _ rfl; have c4y5 := ht.snd 5 _ rfl; have c4y6 := ht.snd 6 _ rfl; have c4y7 := ht.snd 7 _ rfl; have H4 := Lib.hid (⟨ht, H3.out.2.below hb4, hM4⟩ : _ ∧ _ ∧ _); clear ht hb4 hM4)
    | (have HH := H2.out; go_at_call 14; refine (HN1.out w2 H2.out.old).mono ?_; rintro e w3 ⟨ma, ga, pa, aa, rfl, _, _, hM3, hb3⟩; clear HH; have ht := H2.out.below hb3; have c3x0 := ht.fst 0 _ rfl; have c3x1 := ht.fst 1 _ rfl; have c3x2 := ht.fst 2 _ rfl; have c3x3 := ht.fst 3 _ rfl; have c3x4 := ht.fst 4 _ rfl; have c3x5 := ht.fst 5 _ rfl; have c3x6 := ht.fst 6 _ rfl; have c3x7 := ht.fst 7 _ rfl; have c3y0 := ht.snd 0 _ rfl; have c3y1 := ht.snd 1 _ rfl; have c3y2 := ht.snd 2 _ rfl; have c3y3 := ht.snd 3 _ rfl; have c3y4 := ht.snd 4 _ rfl; have c3y5 := ht.snd 5 _ rfl; have c3y6 := ht.snd 6 _ rfl; have c3y7 := ht.snd 7 _ rfl; have H3 := Lib.hid (⟨ht, hM3⟩ : _ ∧ _); clear ht hb3 hM3)
    | (have HH := H1.out; go_at_call 21; refine (HSY.out w1 H1.out.old).mono ?_; rintro e w2 ⟨rfl, hb2⟩; rw [HTY.out]; clear HH; have ht := H1.out.below hb2; have c2x0 := ht.fst 0 _ rfl; have c2x1 := ht.fst 1 _ rfl; have c2x2 := ht.fst 2 _ rfl; have c2x3 := ht.fst 3 _ rfl; have c2x4 := ht.fst 4 _ rfl; have c2x5 := ht.fst 5 _ rfl; have c2x6 := ht.fst 6 _ rfl; have c2x7 := ht.fst 7 _ rfl; have c2y0 := ht.snd 0 _ rfl; have c2y1 := ht.snd 1 _ rfl; have c2y2 := ht.snd 2 _ rfl; have c2y3 := ht.snd 3 _ rfl; have c2y4 := ht.snd 4 _ rfl; have c2y5 := ht.snd 5 _ rfl; have c2y6 := ht.snd 6 _ rfl; have c2y7 := ht.snd 7 _ rfl; have H2 := Lib.hid ht; clear ht hb2)
    | (go_at_call 21; refine (HSX.out _ (Two.new HB.out _ _ _ _).old).mono ?_; rintro e w1 ⟨rfl, hb1⟩; rw [HTX.out]; have ht := Two.made hb1 HB.out; have c1x0 := ht.fst 0 _ rfl; have c1x1 := ht.fst 1 _ rfl; have c1x2 := ht.fst 2 _ rfl; have c1x3 := ht.fst 3 _ rfl; have c1x4 := ht.fst 4 _ rfl; have c1x5 := ht.fst 5 _ rfl; have c1x6 := ht.fst 6 _ rfl; have c1x7 := ht.fst 7 _ rfl; have c1y0 := ht.snd 0 _ rfl; have c1y1 := ht.snd 1 _ rfl; have c1y2 := ht.snd 2 _ rfl; have c1y3 := ht.snd 3 _ rfl; have c1y4 := ht.snd 4 _ rfl; have c1y5 := ht.snd 5 _ rfl; have c1y6 := ht.snd 6 _ rfl; have c1y7 := ht.snd 7 _ rfl; have H1 := Lib.hid ht; clear ht hb1))
  go_ret
  exact ⟨rfl, HZ.out⟩

set_option maxHeartbeats 8000000 in
set_option maxRecDepth 100000 in
theorem better_maybe {K : Nat} (haw : Awake K) {W0 : World} {x y : Re} {cx cy : List Value} (hK : K ≤ W0.heap.size) (hX : Lies W0 x cx) (hY : Lies W0 y cy) (hix : ∀ l, inR l x) (hiy : ∀ l, inR l y) (s : ByteArray) (fr : Int) (w : World) (hb : Below W0.heap.size W0 w)
    (hs : ¬ (30 : Int) < ((s.size : Nat) : Int)) (hx : shortB 4 x = true) (hy : shortB 4 y = true) (hf : Fit x) (hg : Fit y) (ha : Fit (altR x y)) (hn : ¬ Fit (maybeR x)) :
    Calls Try.prog 6 #[.agg ⟨cx⟩, .agg ⟨cy⟩, .string s, .int .i64 fr] w fun e w' => e = .returned (.bool true) ∧ Below w.heap.size w w' := by
  have hKw : K ≤ w.heap.size := Nat.le_trans hK hb.size
  have HSX := Lib.hid (fun w1 (h : Below W0.heap.size W0 w1) => short W0 4 x _ w1 (by omega) hX h)
  have HSY := Lib.hid (fun w1 (h : Below W0.heap.size W0 w1) => short W0 4 y _ w1 (by omega) hY h)
  have HN1 := Lib.hid (fun w1 (h : Below W0.heap.size W0 w1) => new (w := w1) hf hX h)
  have HN2 := Lib.hid (fun w1 (h : Below W0.heap.size W0 w1) => new (w := w1) hg hY h)
  obtain ⟨k, s0, s1, s2, s3, a, b, kids, sl, cap, hre, rfl, _, _⟩ := hX.open
  obtain ⟨k', s0', s1', s2', s3', a', b', kids', sl', cap', hre', rfl, _, _⟩ := hY.open
  clear hre hre'
  have HX := Lib.hid hX
  have HY := Lib.hid hY
  have HB := Lib.hid hb
  have HTX := Lib.hid hx
  have HTY := Lib.hid hy
  have HN3 := Lib.hid (fun w4 w5 (h : Below W0.heap.size W0 w4) h5 => new (w := w5) ha (alt_lies (w := w4) hX hY h 34) h5)
  have HN4 := Lib.hid (fun w6 (h : Below W0.heap.size W0 w6) => new_unfit hn (inR_maybe hix) (maybe_lies (w := w6) hX h 34) (Below.refl _ _))
  clear hn hf hg ha
  clear hb hX hY hx hy
  go_enter Try.func6, Try.ntmps6
  go_wp2_with (first
    | (have HH := H7.out; go_at_call 17; refine (haw w7 (Nat.le_trans hKw H7.out.low.size)).mono ?_; rintro e wz ⟨rfl, hbz⟩; clear HH; have HZ := Lib.hid (H7.out.low.trans (hbz.mono H7.out.low.size)); clear hbz)
    | (have HH := H6.out; go_at_call 14; refine (HN4.out w6 H6.out.1.old).mono ?_; rintro e w7 ⟨n7, hn7, rfl, hb7⟩; clear HH; have H7 := Lib.hid ((H6.out.1.below (box_below _ _)).below hb7); clear hb7)
    | (have HH := H5.out; go_at_call 14; refine (HN3.out w4 w5 H4.out.1.old H5.out).mono ?_; rintro e w6 ⟨mc, gc, pc, ac, rfl, _, _, hM6, hb6⟩; clear HH; have h56 := ((box_below _ _).trans (H5.out.mono (two_size (Nat.le_refl _)))).trans (hb6.mono ((box_below _ _).trans (H5.out.mono (two_size (Nat.le_refl w4.heap.size)))).size); have ht := H4.out.1.below h56; have c6x0 := ht.fst 0 _ rfl; have c6x1 := ht.fst 1 _ rfl; have c6x2 := ht.fst 2 _ rfl; have c6x3 := ht.fst 3 _ rfl; have c6x4 := ht.fst 4 _ rfl; have c6x5 := ht.fst 5 _ rfl; have c6x6 := ht.fst 6 _ rfl; have c6x7 := ht.fst 7 _ rfl; have H6 := Lib.hid (⟨ht, H4.out.2.1.below h56, H4.out.2.2.below h56, hM6⟩ : _ ∧ _ ∧ _ ∧ _); clear ht hb6 hM6 h56)
    | (have HH := H4.out; go_at_call 22; refine (treeCall _ _ _ _ _).mono ?_; rintro e w5 ⟨rfl, hb5⟩; clear HH; have H5 := Lib.hid hb5; clear hb5)
    | (have HH := H3.out; go_at_call 14; refine (HN2.out w3 H3.out.1.old).mono ?_; rintro e w4 ⟨mb, gb, pb, ab, rfl, _, _, hM4, hb4⟩; clear HH; have ht := H3.out.1.below hb4; have c4x0 := ht.fst 0 _ rfl; have c4x1 := ht.fst 1 _ rfl; have c4x2 := ht.fst 2 _ rfl; have c4x3 := ht.fst 3 _ rfl; have c4x4 := ht.fst 4 _ rfl; have c4x5 := ht.fst 5 _ rfl; have c4x6 := ht.fst 6 _ rfl; have c4x7 := ht.fst 7 _ rfl; have c4y0 := ht.snd 0 _ rfl; have c4y1 := ht.snd 1 _ rfl; have c4y2 := ht.snd 2 _ rfl; have c4y3 := ht.snd 3 _ rfl; have c4y4 := ht.snd 4 _ rfl; have c4y5 := ht.snd 5 _ rfl; have c4y6 := ht.snd 6 _ rfl; have c4y7 := ht.snd 7 _ rfl; have H4 := Lib.hid (⟨ht, H3.out.2.below hb4, hM4⟩ : _ ∧ _ ∧ _); clear ht hb4 hM4)
    | (have HH := H2.out; go_at_call 14; refine (HN1.out w2 H2.out.old).mono ?_; rintro e w3 ⟨ma, ga, pa, aa, rfl, _, _, hM3, hb3⟩; clear HH; have ht := H2.out.below hb3; have c3x0 := ht.fst 0 _ rfl; have c3x1 := ht.fst 1 _ rfl; have c3x2 := ht.fst 2 _ rfl; have c3x3 := ht.fst 3 _ rfl; have c3x4 := ht.fst 4 _ rfl; have c3x5 := ht.fst 5 _ rfl; have c3x6 := ht.fst 6 _ rfl; have c3x7 := ht.fst 7 _ rfl; have c3y0 := ht.snd 0 _ rfl; have c3y1 := ht.snd 1 _ rfl; have c3y2 := ht.snd 2 _ rfl; have c3y3 := ht.snd 3 _ rfl; have c3y4 := ht.snd 4 _ rfl; have c3y5 := ht.snd 5 _ rfl; have c3y6 := ht.snd 6 _ rfl; have c3y7 := ht.snd 7 _ rfl; have H3 := Lib.hid (⟨ht, hM3⟩ : _ ∧ _); clear ht hb3 hM3)
    | (have HH := H1.out; go_at_call 21; refine (HSY.out w1 H1.out.old).mono ?_; rintro e w2 ⟨rfl, hb2⟩; rw [HTY.out]; clear HH; have ht := H1.out.below hb2; have c2x0 := ht.fst 0 _ rfl; have c2x1 := ht.fst 1 _ rfl; have c2x2 := ht.fst 2 _ rfl; have c2x3 := ht.fst 3 _ rfl; have c2x4 := ht.fst 4 _ rfl; have c2x5 := ht.fst 5 _ rfl; have c2x6 := ht.fst 6 _ rfl; have c2x7 := ht.fst 7 _ rfl; have c2y0 := ht.snd 0 _ rfl; have c2y1 := ht.snd 1 _ rfl; have c2y2 := ht.snd 2 _ rfl; have c2y3 := ht.snd 3 _ rfl; have c2y4 := ht.snd 4 _ rfl; have c2y5 := ht.snd 5 _ rfl; have c2y6 := ht.snd 6 _ rfl; have c2y7 := ht.snd 7 _ rfl; have H2 := Lib.hid ht; clear ht hb2)
    | (go_at_call 21; refine (HSX.out _ (Two.new HB.out _ _ _ _).old).mono ?_; rintro e w1 ⟨rfl, hb1⟩; rw [HTX.out]; have ht := Two.made hb1 HB.out; have c1x0 := ht.fst 0 _ rfl; have c1x1 := ht.fst 1 _ rfl; have c1x2 := ht.fst 2 _ rfl; have c1x3 := ht.fst 3 _ rfl; have c1x4 := ht.fst 4 _ rfl; have c1x5 := ht.fst 5 _ rfl; have c1x6 := ht.fst 6 _ rfl; have c1x7 := ht.fst 7 _ rfl; have c1y0 := ht.snd 0 _ rfl; have c1y1 := ht.snd 1 _ rfl; have c1y2 := ht.snd 2 _ rfl; have c1y3 := ht.snd 3 _ rfl; have c1y4 := ht.snd 4 _ rfl; have c1y5 := ht.snd 5 _ rfl; have c1y6 := ht.snd 6 _ rfl; have c1y7 := ht.snd 7 _ rfl; have H1 := Lib.hid ht; clear ht hb1))
  go_ret
  exact ⟨rfl, HZ.out⟩

end Go.Proofs.Ytmnghdccikoaoaa.Mt
