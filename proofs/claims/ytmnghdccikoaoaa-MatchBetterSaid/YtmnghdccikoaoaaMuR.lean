/-
  Package match's statements: MatchBetter, walked, where all four trees are made.
-/
import Derived.Test.YtmnghdccikoaoaaMuQ
namespace Go.Proofs.Ytmnghdccikoaoaa.Mt
open Go.RowKit Go.Proofs.Ytmnghdccikoaoaa.Sh

theorem Found.same {r : Re} {t : List Nat} {lo : Nat} {X U : LS} (h : Found r t lo X) (h2 : Found r t lo U) : U.found = X.found ∧ U.at_ = X.at_ ∧ U.n = X.n := by
  cases e : X.found with
  | true =>
    obtain ⟨i, j, a1, _, a3, _⟩ := h.yes e
    exact h.mid h2 e (Nat.le_refl _) (by rw [a1]; omega)
  | false =>
    have e2 := h.later h2 e (Nat.le_refl _)
    obtain ⟨b1, b2, _⟩ := h.no e
    obtain ⟨c1, c2, _⟩ := h2.no e2
    exact ⟨e2, c1.trans b1.symm, c2.trans b2.symm⟩
theorem Found.bound {r : Re} {s : ByteArray} {lo : Nat} {X : LS} (h : Found r (bytes s) lo X) : X.found = true → (lo : Int) ≤ X.at_ ∧ 0 ≤ X.n ∧ X.at_ + X.n ≤ ((s.size : Nat) : Int) := fun e => by
  obtain ⟨i, j, a1, a2, a3, a4, a5, _⟩ := h.yes e
  rw [bytes_len] at a5
  rw [a1, a2]
  omega
theorem bool_not {b : Bool} (h : ¬ b = true) : b = false := by simpa using h

set_option maxHeartbeats 8000000 in
set_option maxRecDepth 100000 in
theorem better_main {K : Nat} (haw : Awake K) {W0 : World} {x y : Re} {cx cy : List Value} (hK : K ≤ W0.heap.size) (hX : Lies W0 x cx) (hY : Lies W0 y cy) (hix : ∀ l, inR l x) (hiy : ∀ l, inR l y) (s : ByteArray) (fr : Int) (w : World) (hb : Below W0.heap.size W0 w)
    (hs : ¬ (30 : Int) < ((s.size : Nat) : Int)) (hx : shortB 4 x = true) (hy : shortB 4 y = true) (hf : Fit x) (hg : Fit y) (ha : Fit (altR x y)) (hm : Fit (maybeR x)) :
    Calls Try.prog 6 #[.agg ⟨cx⟩, .agg ⟨cy⟩, .string s, .int .i64 fr] w fun e w' => e = .returned (.bool true) ∧ Below w.heap.size w w' := by
  have hKw : K ≤ w.heap.size := Nat.le_trans hK hb.size
  have HSX := Lib.hid (fun w1 (h : Below W0.heap.size W0 w1) => short W0 4 x _ w1 (by omega) hX h)
  have HSY := Lib.hid (fun w1 (h : Below W0.heap.size W0 w1) => short W0 4 y _ w1 (by omega) hY h)
  have HN1 := Lib.hid (fun w1 (h : Below W0.heap.size W0 w1) => new (w := w1) hf hX h)
  have HN2 := Lib.hid (fun w1 (h : Below W0.heap.size W0 w1) => new (w := w1) hg hY h)
  obtain ⟨k, s0, s1, s2, s3, a, b, kids, sl, cap, hre, rfl, _, _⟩ := hX.open
  obtain ⟨k', s0', s1', s2', s3', a', b', kids', sl', cap', hre', rfl, _, _⟩ := hY.open
  clear hre hre'
  have HX := Lib.hid hX
  have HY := Lib.hid hY
  have HB := Lib.hid hb
  have HTX := Lib.hid hx
  have HTY := Lib.hid hy
  have HN3 := Lib.hid (fun w4 w5 (h : Below W0.heap.size W0 w4) h5 => new (w := w5) ha (alt_lies (w := w4) hX hY h 34) h5)
  have HN4 := Lib.hid (fun w6 (h : Below W0.heap.size W0 w6) => new hm (maybe_lies (w := w6) hX h 34) (Below.refl _ _))
  have HFX := Lib.hid hf
  have HFY := Lib.hid hg
  have HFA := Lib.hid ha
  have HFM := Lib.hid hm
  have hpick := pickI_lt (x := fr) (n := ((s.size : Nat) : Int) + 1) (by omega)
  obtain ⟨p, hp⟩ : ∃ p : Nat, pickI fr (((s.size : Nat) : Int) + 1) = (p : Int) := ⟨(pickI fr (((s.size : Nat) : Int) + 1)).toNat, by omega⟩
  have hple : p ≤ s.size := by omega
  have HP := Lib.hid hpick
  clear hf hg ha hm hpick
  clear hb hX hY hx hy
  go_enter Try.func6, Try.ntmps6
  go_wp2_with (first
    | (have HH := H12.out; go_at_call 17; refine (haw w12 (Nat.le_trans hKw H12.out.1.low.size)).mono ?_; rintro e wz ⟨rfl, hbz⟩; clear HH; have HZ := Lib.hid (H12.out.1.low.trans (hbz.mono H12.out.1.low.size)); clear hbz)
    | (have HH := H11.out; go_at_call 19; refine (find HFX.out H11.out.2.1 s p hple (by omega)).mono ?_; rintro e w12 ⟨U, rfl, hfd, hb12⟩; clear HH; have H12 := Lib.hid (⟨H11.out.1.below hb12, H11.out.2.1.below hb12, H11.out.2.2.1.below hb12, H11.out.2.2.2.1.below hb12, H11.out.2.2.2.2.below hb12⟩ : _ ∧ _ ∧ _ ∧ _ ∧ _); have hE := Found.same HXF.out hfd; rw [hE.1, hE.2.1, hE.2.2, hq1]; clear hb12 hfd hE)
    | (have HH := H10.out; go_at_call 19; refine (find HFM.out H10.out.2.2.2.2 s p hple (by omega)).mono ?_; rintro e w11 ⟨V, rfl, hfd, hb11⟩; clear HH; have H11 := Lib.hid (⟨H10.out.1.below hb11, H10.out.2.1.below hb11, H10.out.2.2.1.below hb11, H10.out.2.2.2.1.below hb11, H10.out.2.2.2.2.below hb11⟩ : _ ∧ _ ∧ _ ∧ _ ∧ _); have hE := Found.maybe (takes_maybe (bytes s) HTX.out (by omega) 0 0 0 0) (by rw [bytes_len]; exact hple) HXF.out hfd; rw [hE.1, hE.2.1]; have HV := Lib.hid hE.2.2; clear hb11 hfd hE)
    | (have HH := H9.out; go_at_call 19; refine (find HFA.out H9.out.2.2.2.1 s p hple (by omega)).mono ?_; rintro e w10 ⟨Z, rfl, hfd, hb10⟩; clear HH; have H10 := Lib.hid (⟨H9.out.1.below hb10, H9.out.2.1.below hb10, H9.out.2.2.1.below hb10, H9.out.2.2.2.1.below hb10, H9.out.2.2.2.2.below hb10⟩ : _ ∧ _ ∧ _ ∧ _ ∧ _); have hE := Found.either (takes_alt (bytes s) HTX.out HTY.out (by omega) 0 0 0 0 0 0) HXF.out HYF.out hfd; rw [hE.1, hq1, hq2]; have HE := Lib.hid hE.2; clear hb10 hfd hE)
    | (have HH := H8.out; go_at_call 19; refine (find HFY.out H8.out.2.2.1 s p hple (by omega)).mono ?_; rintro e w9 ⟨Y, rfl, hfd, hb9⟩; clear HH; have H9 := Lib.hid (⟨H8.out.1.below hb9, H8.out.2.1.below hb9, H8.out.2.2.1.below hb9, H8.out.2.2.2.1.below hb9, H8.out.2.2.2.2.below hb9⟩ : _ ∧ _ ∧ _ ∧ _ ∧ _); have HYF := Lib.hid hfd; clear hb9 hfd; rcases Bool.eq_false_or_eq_true Y.found with hq2 | hq2 <;> rw [hq2])
    | (have HH := H7.out; go_at_call 19; refine (find HFX.out H7.out.2.1 s p hple (by omega)).mono ?_; rintro e w8 ⟨X, rfl, hfd, hb8⟩; clear HH; have H8 := Lib.hid (⟨H7.out.1.below hb8, H7.out.2.1.below hb8, H7.out.2.2.1.below hb8, H7.out.2.2.2.1.below hb8, H7.out.2.2.2.2.below hb8⟩ : _ ∧ _ ∧ _ ∧ _ ∧ _); have HXF := Lib.hid hfd; clear hb8 hfd; rcases Bool.eq_false_or_eq_true X.found with hq1 | hq1 <;> rw [hq1])
    | (have HH := H7.out; go_at_call 23; refine (Pick fr (((s.size : Nat) : Int) + 1) w7 (by omega) (by omega)).mono ?_; rintro e w8 ⟨rfl, rfl⟩; clear HH; rw [hp])
    | (have HH := H6.out; go_at_call 14; refine (HN4.out w6 H6.out.1.old).mono ?_; rintro e w7 ⟨md, gd, pd, ad, rfl, _, _, hM7, hb7⟩; clear HH; have h67 := (box_below _ _).trans (hb7.mono (two_size (Nat.le_refl w6.heap.size))); have H7 := Lib.hid (⟨H6.out.1.below h67, H6.out.2.1.below h67, H6.out.2.2.1.below h67, H6.out.2.2.2.below h67, hM7⟩ : _ ∧ _ ∧ _ ∧ _ ∧ _); clear hb7 hM7 h67)
    | (have HH := H5.out; go_at_call 14; refine (HN3.out w4 w5 H4.out.1.old H5.out).mono ?_; rintro e w6 ⟨mc, gc, pc, ac, rfl, _, _, hM6, hb6⟩; clear HH; have h56 := ((box_below _ _).trans (H5.out.mono (two_size (Nat.le_refl _)))).trans (hb6.mono ((box_below _ _).trans (H5.out.mono (two_size (Nat.le_refl w4.heap.size)))).size); have ht := H4.out.1.below h56; have c6x0 := ht.fst 0 _ rfl; have c6x1 := ht.fst 1 _ rfl; have c6x2 := ht.fst 2 _ rfl; have c6x3 := ht.fst 3 _ rfl; have c6x4 := ht.fst 4 _ rfl; have c6x5 := ht.fst 5 _ rfl; have c6x6 := ht.fst 6 _ rfl; have c6x7 := ht.fst 7 _ rfl; have H6 := Lib.hid (⟨ht, H4.out.2.1.below h56, H4.out.2.2.below h56, hM6⟩ : _ ∧ _ ∧ _ ∧ _); clear ht hb6 hM6 h56)
    | (have HH := H4.out; go_at_call 22; refine (treeCall _ _ _ _ _).mono ?_; rintro e w5 ⟨rfl, hb5⟩; clear HH; have H5 := Lib.hid hb5; clear hb5)
    | (have HH := H3.out; go_at_call 14; refine (HN2.out w3 H3.out.1.old).mono ?_; rintro e w4 ⟨mb, gb, pb, ab, rfl, _, _, hM4, hb4⟩; clear HH; have ht := H3.out.1.below hb4; have c4x0 := ht.fst 0 _ rfl; have c4x1 := ht.fst 1 _ rfl; have c4x2 := ht.fst 2 _ rfl; have c4x3 := ht.fst 3 _ rfl; have c4x4 := ht.fst 4 _ rfl; have c4x5 := ht.fst 5 _ rfl; have c4x6 := ht.fst 6 _ rfl; have c4x7 := ht.fst 7 _ rfl; have c4y0 := ht.snd 0 _ rfl; have c4y1 := ht.snd 1 _ rfl; have c4y2 := ht.snd 2 _ rfl; have c4y3 := ht.snd 3 _ rfl; have c4y4 := ht.snd 4 _ rfl; have c4y5 := ht.snd 5 _ rfl; have c4y6 := ht.snd 6 _ rfl; have c4y7 := ht.snd 7 _ rfl; have H4 := Lib.hid (⟨ht, H3.out.2.below hb4, hM4⟩ : _ ∧ _ ∧ _); clear ht hb4 hM4)
    | (have HH := H2.out; go_at_call 14; refine (HN1.out w2 H2.out.old).mono ?_; rintro e w3 ⟨ma, ga, pa, aa, rfl, _, _, hM3, hb3⟩; clear HH; have ht := H2.out.below hb3; have c3x0 := ht.fst 0 _ rfl; have c3x1 := ht.fst 1 _ rfl; have c3x2 := ht.fst 2 _ rfl; have c3x3 := ht.fst 3 _ rfl; have c3x4 := ht.fst 4 _ rfl; have c3x5 := ht.fst 5 _ rfl; have c3x6 := ht.fst 6 _ rfl; have c3x7 := ht.fst 7 _ rfl; have c3y0 := ht.snd 0 _ rfl; have c3y1 := ht.snd 1 _ rfl; have c3y2 := ht.snd 2 _ rfl; have c3y3 := ht.snd 3 _ rfl; have c3y4 := ht.snd 4 _ rfl; have c3y5 := ht.snd 5 _ rfl; have c3y6 := ht.snd 6 _ rfl; have c3y7 := ht.snd 7 _ rfl; have H3 := Lib.hid (⟨ht, hM3⟩ : _ ∧ _); clear ht hb3 hM3)
    | (have HH := H1.out; go_at_call 21; refine (HSY.out w1 H1.out.old).mono ?_; rintro e w2 ⟨rfl, hb2⟩; rw [HTY.out]; clear HH; have ht := H1.out.below hb2; have c2x0 := ht.fst 0 _ rfl; have c2x1 := ht.fst 1 _ rfl; have c2x2 := ht.fst 2 _ rfl; have c2x3 := ht.fst 3 _ rfl; have c2x4 := ht.fst 4 _ rfl; have c2x5 := ht.fst 5 _ rfl; have c2x6 := ht.fst 6 _ rfl; have c2x7 := ht.fst 7 _ rfl; have c2y0 := ht.snd 0 _ rfl; have c2y1 := ht.snd 1 _ rfl; have c2y2 := ht.snd 2 _ rfl; have c2y3 := ht.snd 3 _ rfl; have c2y4 := ht.snd 4 _ rfl; have c2y5 := ht.snd 5 _ rfl; have c2y6 := ht.snd 6 _ rfl; have c2y7 := ht.snd 7 _ rfl; have H2 := Lib.hid ht; clear ht hb2)
    | (go_at_call 21; refine (HSX.out _ (Two.new HB.out _ _ _ _).old).mono ?_; rintro e w1 ⟨rfl, hb1⟩; rw [HTX.out]; have ht := Two.made hb1 HB.out; have c1x0 := ht.fst 0 _ rfl; have c1x1 := ht.fst 1 _ rfl; have c1x2 := ht.fst 2 _ rfl; have c1x3 := ht.fst 3 _ rfl; have c1x4 := ht.fst 4 _ rfl; have c1x5 := ht.fst 5 _ rfl; have c1x6 := ht.fst 6 _ rfl; have c1x7 := ht.fst 7 _ rfl; have c1y0 := ht.snd 0 _ rfl; have c1y1 := ht.snd 1 _ rfl; have c1y2 := ht.snd 2 _ rfl; have c1y3 := ht.snd 3 _ rfl; have c1y4 := ht.snd 4 _ rfl; have c1y5 := ht.snd 5 _ rfl; have c1y6 := ht.snd 6 _ rfl; have c1y7 := ht.snd 7 _ rfl; have H1 := Lib.hid ht; clear ht hb1))
  all_goals first
    | (have HH := HZ.out; clear HH; go_ret; exact ⟨rfl, HZ.out⟩)
    | (exfalso
       have hL := HP.out
       have hE := HE.out
       first
         | (obtain ⟨b1, b2, b3⟩ := HXF.out.bound hq1
            try have v1 := HV.out.1 hq1
            try have v2 := fun h => HV.out.2 (.inr h)
            first
              | (have e1 := fun h => hE.1 hq1 (.inr h)
                 have e2 := fun h => hE.2.1 hq2 (.inr h)
                 have e3 := hE.2.2 hq1 hq2
                 clear hE
                 try clear HN1; try clear HN2; try clear HN3; try clear HN4; try clear HSX; try clear HSY; try clear HX; try clear HY; try clear HB; try clear HTX; try clear HTY; try clear HFX
                 try clear HFY; try clear HFA; try clear HFM; try clear HXF; try clear HYF; try clear HE; try clear HV; try clear HP; try clear H12; try clear H11; try clear H10; try clear H9
                 try clear H8; try clear H7; try clear H6; try clear H5; try clear H4; try clear H3; try clear H2; try clear H1; try clear c1x0; try clear c1x1; try clear c1x2; try clear c1x3
                 try clear c1x4; try clear c1x5; try clear c1x6; try clear c1x7; try clear c1y0; try clear c1y1; try clear c1y2; try clear c1y3; try clear c1y4; try clear c1y5; try clear c1y6; try clear c1y7
                 try clear c2x0; try clear c2x1; try clear c2x2; try clear c2x3; try clear c2x4; try clear c2x5; try clear c2x6; try clear c2x7; try clear c2y0; try clear c2y1; try clear c2y2; try clear c2y3
                 try clear c2y4; try clear c2y5; try clear c2y6; try clear c2y7; try clear c3x0; try clear c3x1; try clear c3x2; try clear c3x3; try clear c3x4; try clear c3x5; try clear c3x6; try clear c3x7
                 try clear c3y0; try clear c3y1; try clear c3y2; try clear c3y3; try clear c3y4; try clear c3y5; try clear c3y6; try clear c3y7; try clear c4x0; try clear c4x1; try clear c4x2; try clear c4x3
                 try clear c4x4; try clear c4x5; try clear c4x6; try clear c4x7; try clear c4y0; try clear c4y1; try clear c4y2; try clear c4y3; try clear c4y4; try clear c4y5; try clear c4y6; try clear c4y7
                 try clear c6x0; try clear c6x1; try clear c6x2; try clear c6x3; try clear c6x4; try clear c6x5; try clear c6x6; try clear c6x7
                 have w1 : wrap64 ((p : Int) + X.n) = (p : Int) + X.n := by unfold wrap64; omega
                 have w2 : wrap64 (X.at_ + X.n) = X.at_ + X.n := by unfold wrap64; omega
                 first
                   | omega
                   | (rename_i hl; have z := bne_iff_ne.1 hl; omega)
                   | (rename_i hl; have z := bne_iff_ne.1 hl; split at z <;> omega))
              | (have e1 := hE.1 hq1 (.inl hq2)
                 clear hE
                 try clear HN1; try clear HN2; try clear HN3; try clear HN4; try clear HSX; try clear HSY; try clear HX; try clear HY; try clear HB; try clear HTX; try clear HTY; try clear HFX
                 try clear HFY; try clear HFA; try clear HFM; try clear HXF; try clear HYF; try clear HE; try clear HV; try clear HP; try clear H12; try clear H11; try clear H10; try clear H9
                 try clear H8; try clear H7; try clear H6; try clear H5; try clear H4; try clear H3; try clear H2; try clear H1; try clear c1x0; try clear c1x1; try clear c1x2; try clear c1x3
                 try clear c1x4; try clear c1x5; try clear c1x6; try clear c1x7; try clear c1y0; try clear c1y1; try clear c1y2; try clear c1y3; try clear c1y4; try clear c1y5; try clear c1y6; try clear c1y7
                 try clear c2x0; try clear c2x1; try clear c2x2; try clear c2x3; try clear c2x4; try clear c2x5; try clear c2x6; try clear c2x7; try clear c2y0; try clear c2y1; try clear c2y2; try clear c2y3
                 try clear c2y4; try clear c2y5; try clear c2y6; try clear c2y7; try clear c3x0; try clear c3x1; try clear c3x2; try clear c3x3; try clear c3x4; try clear c3x5; try clear c3x6; try clear c3x7
                 try clear c3y0; try clear c3y1; try clear c3y2; try clear c3y3; try clear c3y4; try clear c3y5; try clear c3y6; try clear c3y7; try clear c4x0; try clear c4x1; try clear c4x2; try clear c4x3
                 try clear c4x4; try clear c4x5; try clear c4x6; try clear c4x7; try clear c4y0; try clear c4y1; try clear c4y2; try clear c4y3; try clear c4y4; try clear c4y5; try clear c4y6; try clear c4y7
                 try clear c6x0; try clear c6x1; try clear c6x2; try clear c6x3; try clear c6x4; try clear c6x5; try clear c6x6; try clear c6x7
                 have w1 : wrap64 ((p : Int) + X.n) = (p : Int) + X.n := by unfold wrap64; omega
                 have w2 : wrap64 (X.at_ + X.n) = X.at_ + X.n := by unfold wrap64; omega
                 first
                   | omega
                   | (rename_i hl; have z := bne_iff_ne.1 hl; omega)))
         | (try have v2 := HV.out.2 (.inl hq1)
            first
              | (have e2 := hE.2.1 hq2 (.inl hq1)
                 clear hE
                 try clear HN1; try clear HN2; try clear HN3; try clear HN4; try clear HSX; try clear HSY; try clear HX; try clear HY; try clear HB; try clear HTX; try clear HTY; try clear HFX
                 try clear HFY; try clear HFA; try clear HFM; try clear HXF; try clear HYF; try clear HE; try clear HV; try clear HP; try clear H12; try clear H11; try clear H10; try clear H9
                 try clear H8; try clear H7; try clear H6; try clear H5; try clear H4; try clear H3; try clear H2; try clear H1; try clear c1x0; try clear c1x1; try clear c1x2; try clear c1x3
                 try clear c1x4; try clear c1x5; try clear c1x6; try clear c1x7; try clear c1y0; try clear c1y1; try clear c1y2; try clear c1y3; try clear c1y4; try clear c1y5; try clear c1y6; try clear c1y7
                 try clear c2x0; try clear c2x1; try clear c2x2; try clear c2x3; try clear c2x4; try clear c2x5; try clear c2x6; try clear c2x7; try clear c2y0; try clear c2y1; try clear c2y2; try clear c2y3
                 try clear c2y4; try clear c2y5; try clear c2y6; try clear c2y7; try clear c3x0; try clear c3x1; try clear c3x2; try clear c3x3; try clear c3x4; try clear c3x5; try clear c3x6; try clear c3x7
                 try clear c3y0; try clear c3y1; try clear c3y2; try clear c3y3; try clear c3y4; try clear c3y5; try clear c3y6; try clear c3y7; try clear c4x0; try clear c4x1; try clear c4x2; try clear c4x3
                 try clear c4x4; try clear c4x5; try clear c4x6; try clear c4x7; try clear c4y0; try clear c4y1; try clear c4y2; try clear c4y3; try clear c4y4; try clear c4y5; try clear c4y6; try clear c4y7
                 try clear c6x0; try clear c6x1; try clear c6x2; try clear c6x3; try clear c6x4; try clear c6x5; try clear c6x6; try clear c6x7
                 first
                   | omega
                   | (rename_i hl; have z := bne_iff_ne.1 hl; omega))
              | (clear hE
                 try clear HN1; try clear HN2; try clear HN3; try clear HN4; try clear HSX; try clear HSY; try clear HX; try clear HY; try clear HB; try clear HTX; try clear HTY; try clear HFX
                 try clear HFY; try clear HFA; try clear HFM; try clear HXF; try clear HYF; try clear HE; try clear HV; try clear HP; try clear H12; try clear H11; try clear H10; try clear H9
                 try clear H8; try clear H7; try clear H6; try clear H5; try clear H4; try clear H3; try clear H2; try clear H1; try clear c1x0; try clear c1x1; try clear c1x2; try clear c1x3
                 try clear c1x4; try clear c1x5; try clear c1x6; try clear c1x7; try clear c1y0; try clear c1y1; try clear c1y2; try clear c1y3; try clear c1y4; try clear c1y5; try clear c1y6; try clear c1y7
                 try clear c2x0; try clear c2x1; try clear c2x2; try clear c2x3; try clear c2x4; try clear c2x5; try clear c2x6; try clear c2x7; try clear c2y0; try clear c2y1; try clear c2y2; try clear c2y3
                 try clear c2y4; try clear c2y5; try clear c2y6; try clear c2y7; try clear c3x0; try clear c3x1; try clear c3x2; try clear c3x3; try clear c3x4; try clear c3x5; try clear c3x6; try clear c3x7
                 try clear c3y0; try clear c3y1; try clear c3y2; try clear c3y3; try clear c3y4; try clear c3y5; try clear c3y6; try clear c3y7; try clear c4x0; try clear c4x1; try clear c4x2; try clear c4x3
                 try clear c4x4; try clear c4x5; try clear c4x6; try clear c4x7; try clear c4y0; try clear c4y1; try clear c4y2; try clear c4y3; try clear c4y4; try clear c4y5; try clear c4y6; try clear c4y7
                 try clear c6x0; try clear c6x1; try clear c6x2; try clear c6x3; try clear c6x4; try clear c6x5; try clear c6x6; try clear c6x7
                 first
                   | omega
                   | (rename_i hl; have z := bne_iff_ne.1 hl; omega))))

theorem better {K : Nat} (haw : Awake K) {W0 : World} {x y : Re} {cx cy : List Value} (hK : K ≤ W0.heap.size) (hX : Lies W0 x cx) (hY : Lies W0 y cy) (hix : ∀ l, inR l x) (hiy : ∀ l, inR l y) (s : ByteArray) (fr : Int) (w : World) (hb : Below W0.heap.size W0 w) :
    Calls Try.prog 6 #[.agg ⟨cx⟩, .agg ⟨cy⟩, .string s, .int .i64 fr] w fun e w' => e = .returned (.bool true) ∧ Below w.heap.size w w' := by
  by_cases hi : 30 < s.size ∨ shortB 4 x = false ∨ shortB 4 y = false
  · exact better_idle haw hK hX hY s fr w hb hi
  · have hs : ¬ (30 : Int) < ((s.size : Nat) : Int) := fun h => hi (.inl (by omega))
    have hx : shortB 4 x = true := by cases h : shortB 4 x with | true => rfl | false => exact absurd (.inr (.inl h)) hi
    have hy : shortB 4 y = true := by cases h : shortB 4 y with | true => rfl | false => exact absurd (.inr (.inr h)) hi
    by_cases hf : Fit x
    · by_cases hg : Fit y
      · by_cases ha : Fit (altR x y)
        · by_cases hm : Fit (maybeR x)
          · exact better_main haw hK hX hY hix hiy s fr w hb hs hx hy hf hg ha hm
          · exact better_maybe haw hK hX hY hix hiy s fr w hb hs hx hy hf hg ha hm
        · exact better_alt haw hK hX hY hix hiy s fr w hb hs hx hy hf hg ha
      · exact better_y haw hK hX hY hix hiy s fr w hb hs hx hy hf hg
    · exact better_x haw hK hX hY hix hiy s fr w hb hs hx hy hf
end Go.Proofs.Ytmnghdccikoaoaa.Mt
