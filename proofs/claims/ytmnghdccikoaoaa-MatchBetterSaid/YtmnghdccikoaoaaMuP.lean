/-
  Package match's statements: MatchBetter where nothing is asked.
-/
import Derived.Test.YtmnghdccikoaoaaMuO
namespace Go.Proofs.Ytmnghdccikoaoaa.Mt
open Go.RowKit Go.Proofs.Ytmnghdccikoaoaa.Sh

theorem boxed2_at {w w2 : World} {cs cs' : Array Value} {t t' : TypeId} (hb : Below ((w.alloc (.cells cs t)).alloc (.cells cs' t')).heap.size ((w.alloc (.cells cs t)).alloc (.cells cs' t')) w2) (j : Nat) (u : Value) (hu : cs'[j]? = some u) : w2.cell? ⟨w.heap.size + 1, j, none⟩ = some u := by
  have := boxed_at hb j u hu
  rw [alloc_size] at this
  exact this
set_option maxHeartbeats 1000000 in
set_option maxRecDepth 100000 in
theorem better_idle {K : Nat} (haw : Awake K) {W0 : World} {x y : Re} {cx cy : List Value} (hK : K ≤ W0.heap.size) (hX : Lies W0 x cx) (hY : Lies W0 y cy) (s : ByteArray) (fr : Int) (w : World) (hb : Below W0.heap.size W0 w)
    (hi : 30 < s.size ∨ shortB 4 x = false ∨ shortB 4 y = false) :
    Calls Try.prog 6 #[.agg ⟨cx⟩, .agg ⟨cy⟩, .string s, .int .i64 fr] w fun e w' => e = .returned (.bool true) ∧ Below w.heap.size w w' := by
  have hKw : K ≤ w.heap.size := Nat.le_trans hK hb.size
  have HSX := Lib.hid (fun w1 (h : Below W0.heap.size W0 w1) => short W0 4 x _ w1 (by omega) hX h)
  have HSY := Lib.hid (fun w1 (h : Below W0.heap.size W0 w1) => short W0 4 y _ w1 (by omega) hY h)
  obtain ⟨k, s0, s1, s2, s3, a, b, kids, sl, cap, hre, rfl, _, _⟩ := hX.open
  obtain ⟨k', s0', s1', s2', s3', a', b', kids', sl', cap', hre', rfl, _, _⟩ := hY.open
  clear hre hre'
  have HB := Lib.hid hb
  clear hb hX hY
  have h2 : ∀ (o o' : Obj), Below W0.heap.size W0 ((w.alloc o).alloc o') ∧ Below w.heap.size w ((w.alloc o).alloc o') := fun o o' => ⟨(HB.out.alloc HB.out.size _).alloc (two_size HB.out.size) _, ((Below.refl _ _).alloc (Nat.le_refl _) _).alloc (two_size (Nat.le_refl _)) _⟩
  have H2 := Lib.hid h2
  clear h2
  by_cases hs : (30 : Int) < ((s.size : Nat) : Int)
  · clear hi
    go_enter Try.func6, Try.ntmps6
    go_wp2_with (go_at_call 17; refine (haw _ (two_size (two_size hKw))).mono ?_; rintro e w2 ⟨rfl, hb2⟩; have H3 := Lib.hid hb2; clear hb2)
    go_ret
    exact ⟨rfl, (H2.out _ _).2.trans (H3.out.mono (H2.out _ _).2.size)⟩
  cases hx : shortB 4 x with
  | false =>
    clear hi
    go_enter Try.func6, Try.ntmps6
    go_wp2_with (first
      | (go_at_call 21; refine (HSX.out _ (H2.out _ _).1).mono ?_; rintro e w1 ⟨rfl, hb1⟩; rw [hx]; have H3 := Lib.hid ((H2.out _ _).2.trans (hb1.mono (H2.out _ _).2.size)); clear hb1)
      | (go_at_call 17; refine (haw w1 (Nat.le_trans hKw H3.out.size)).mono ?_; rintro e w2 ⟨rfl, hb2⟩; have H4 := Lib.hid hb2; clear hb2))
    go_ret
    exact ⟨rfl, H3.out.trans (H4.out.mono H3.out.size)⟩
  | true =>
    have hy : shortB 4 y = false := by
      rcases hi with h | h | h
      · omega
      · rw [hx] at h; cases h
      · exact h
    clear hi
    go_enter Try.func6, Try.ntmps6
    go_wp2_with (first
      | (go_at_call 21; have HH := H3.out.2; refine (HSY.out w1 H3.out.2).mono ?_; rintro e w2 ⟨rfl, hb2⟩; rw [hy]; clear HH; have H4 := Lib.hid (H3.out.1.trans (hb2.mono H3.out.1.size)); clear hb2)
      | (go_at_call 21; refine (HSX.out _ (H2.out _ _).1).mono ?_; rintro e w1 ⟨rfl, hb1⟩; rw [hx]; have b0 := boxed2_at hb1 0 _ rfl; have b1 := boxed2_at hb1 1 _ rfl; have b2 := boxed2_at hb1 2 _ rfl; have b3 := boxed2_at hb1 3 _ rfl; have b4 := boxed2_at hb1 4 _ rfl; have b5 := boxed2_at hb1 5 _ rfl; have b6 := boxed2_at hb1 6 _ rfl; have b7 := boxed2_at hb1 7 _ rfl; have H3 := Lib.hid (⟨(H2.out _ _).2.trans (hb1.mono (H2.out _ _).2.size), (H2.out _ _).1.trans (hb1.mono (H2.out _ _).1.size)⟩ : Below w.heap.size w w1 ∧ Below W0.heap.size W0 w1); clear hb1)
      | (go_at_call 17; refine (haw w2 (Nat.le_trans hKw H4.out.size)).mono ?_; rintro e w3 ⟨rfl, hb3⟩; have H5 := Lib.hid hb3; clear hb3))
    go_ret
    exact ⟨rfl, H4.out.trans (H5.out.mono H4.out.size)⟩
end Go.Proofs.Ytmnghdccikoaoaa.Mt
