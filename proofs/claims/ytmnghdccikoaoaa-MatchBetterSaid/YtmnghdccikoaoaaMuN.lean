/-
  Package match's statements: MatchPlaces, walked.
-/
import Derived.Test.YtmnghdccikoaoaaMuM
import Derived.Test.YtmnghdccikoaoaaShD
namespace Go.Proofs.Ytmnghdccikoaoaa.Mt
open Go.RowKit Go.Proofs.Ytmnghdccikoaoaa.Sh

set_option linter.unusedVariables false in
theorem words_of : ∀ (l : Nat) (r : Re), inR l r → WordsR l r
  | 0, _, _ => trivial
  | l + 1, .mk k s0 s1 s2 s3 a b kids, h => ⟨⟨h.1.2.1, h.1.2.2.1, h.1.2.2.2.1, h.1.2.2.2.2.1⟩, fun r hr => words_of l r (h.2 r hr)⟩
theorem bytes_append (s u : ByteArray) : bytes (s ++ u) = bytes s ++ bytes u := by
  unfold bytes
  rw [ByteArray.data_append, Array.toList_append, List.map_append]

theorem find_at {r : Re} (hf : Fit r) {w : World} {mb gs cap : Nat} {a : Nat → Int} (h : Made w mb gs cap r a) (s : ByteArray) (from_ : Nat) (x : Int) (hx : x = (from_ : Int)) (hfr : from_ ≤ s.size) (hsz : s.size ≤ 1000000000) :
    Calls Try.prog 19 #[.pointer (some ⟨mb, 0, none⟩), .string s, .int .i64 x] w
      fun e w' => ∃ X, e = .returned (.tuple #[.int .i64 X.at_, .int .i64 X.n, .bool X.found]) ∧ Found r (bytes s) from_ X ∧ Below w.heap.size w w' := by
  subst hx
  exact find hf h s from_ hfr hsz

/- The examples come out. -/
def Awake (K : Nat) : Prop := ∀ w : World, K ≤ w.heap.size → Calls Try.prog 17 #[] w fun e w' => e = .returned (.bool true) ∧ Below w.heap.size w w'

set_option maxHeartbeats 2000000 in
set_option maxRecDepth 100000 in
theorem places {K : Nat} (haw : Awake K) {W0 : World} {r : Re} {cs : List Value} (hK : K ≤ W0.heap.size) (hL : Lies W0 r cs) (hin : ∀ l, inR l r) (s more : ByteArray) (fr mid : Int) (w : World) (hb : Below W0.heap.size W0 w) :
    Calls Try.prog 7 #[.agg ⟨cs⟩, .string s, .string more, .int .i64 fr, .int .i64 mid] w fun e w' => e = .returned (.bool true) ∧ Below w.heap.size w w' := by
  have hKw : K ≤ w.heap.size := Nat.le_trans hK hb.size
  obtain ⟨k, s0, s1, s2, s3, a, b, kids, sl, cap, hre, rfl, _, _⟩ := hL.open
  clear hre
  by_cases hs : (30 : Int) < ((s.size : Nat) : Int)
  · clear hL hin hb
    go_enter Try.func7, Try.ntmps7
    go_wp2_with (go_at_call 17; refine (haw _ (two_size hKw)).mono ?_; rintro e w2 ⟨rfl, hb2⟩; have H2 := Lib.hid hb2; clear hb2)
    go_ret
    exact ⟨rfl, ((Below.refl _ _).alloc (Nat.le_refl _) _).trans (H2.out.mono (two_size (Nat.le_refl _)))⟩
  by_cases hm : (10 : Int) < ((more.size : Nat) : Int)
  · clear hL hin hb
    go_enter Try.func7, Try.ntmps7
    go_wp2_with (go_at_call 17; refine (haw _ (two_size hKw)).mono ?_; rintro e w2 ⟨rfl, hb2⟩; have H2 := Lib.hid hb2; clear hb2)
    go_ret
    exact ⟨rfl, ((Below.refl _ _).alloc (Nat.le_refl _) _).trans (H2.out.mono (two_size (Nat.le_refl _)))⟩
  have HS := Lib.hid (fun w1 (h : Below W0.heap.size W0 w1) => short W0 4 r _ w1 (by omega) hL h)
  have HB := Lib.hid hb
  cases hsh : shortB 4 r with
  | false =>
    clear hL hin hb
    go_enter Try.func7, Try.ntmps7
    go_wp2_with (first
      | (go_at_call 21; refine (HS.out _ (HB.out.alloc HB.out.size _)).mono ?_; rintro e w1 ⟨rfl, hb1⟩; rw [hsh]; have H1 := Lib.hid (((Below.refl _ _).alloc (Nat.le_refl _) _).trans (hb1.mono (two_size (Nat.le_refl w.heap.size)))); clear hb1)
      | (go_at_call 17; refine (haw w1 (Nat.le_trans hKw H1.out.size)).mono ?_; rintro e w2 ⟨rfl, hb2⟩; have H2 := Lib.hid hb2; clear hb2))
    go_ret
    exact ⟨rfl, H1.out.trans (H2.out.mono H1.out.size)⟩
  | true =>
    cases hr : rightB r with
    | false =>
        have HN := Lib.hid (fun w1 (h : Below W0.heap.size W0 w1) => new_not (w := w1) hr hL h)
        clear hL hin hb
        go_enter Try.func7, Try.ntmps7
        go_wp2_with (first
          | (go_at_call 21; refine (HS.out _ (HB.out.alloc HB.out.size _)).mono ?_; rintro e w1 ⟨rfl, hb1⟩; rw [hsh]; have b0 := boxed_at hb1 0 _ rfl; have b1 := boxed_at hb1 1 _ rfl; have b2 := boxed_at hb1 2 _ rfl; have b3 := boxed_at hb1 3 _ rfl; have b4 := boxed_at hb1 4 _ rfl; have b5 := boxed_at hb1 5 _ rfl; have b6 := boxed_at hb1 6 _ rfl; have b7 := boxed_at hb1 7 _ rfl; have H1 := Lib.hid (⟨((Below.refl _ _).alloc (Nat.le_refl _) _).trans (hb1.mono (two_size (Nat.le_refl w.heap.size))), (HB.out.alloc HB.out.size _).trans (hb1.mono (two_size HB.out.size)), hb1⟩ : Below w.heap.size w w1 ∧ Below W0.heap.size W0 w1 ∧ _); clear hb1)
          | (go_at_call 14; refine (HN.out w1 H1.out.2.1).mono ?_; rintro e w2 ⟨rfl, hb2⟩; have H2 := Lib.hid (H1.out.1.trans (hb2.mono H1.out.1.size)); clear hb2)
          | (go_at_call 17; refine (haw w2 (Nat.le_trans hKw H2.out.size)).mono ?_; rintro e w3 ⟨rfl, hb3⟩; have H3 := Lib.hid hb3; clear hb3))
        go_ret
        exact ⟨rfl, H2.out.trans (H3.out.mono H2.out.size)⟩
    | true =>
      by_cases hz : 20000 < sizeI r
      · have HN := Lib.hid (fun w1 (h : Below W0.heap.size W0 w1) => new_long (w := w1) hr hz hL h)
        clear hL hin hb hz
        go_enter Try.func7, Try.ntmps7
        go_wp2_with (first
          | (go_at_call 21; refine (HS.out _ (HB.out.alloc HB.out.size _)).mono ?_; rintro e w1 ⟨rfl, hb1⟩; rw [hsh]; have b0 := boxed_at hb1 0 _ rfl; have b1 := boxed_at hb1 1 _ rfl; have b2 := boxed_at hb1 2 _ rfl; have b3 := boxed_at hb1 3 _ rfl; have b4 := boxed_at hb1 4 _ rfl; have b5 := boxed_at hb1 5 _ rfl; have b6 := boxed_at hb1 6 _ rfl; have b7 := boxed_at hb1 7 _ rfl; have H1 := Lib.hid (⟨((Below.refl _ _).alloc (Nat.le_refl _) _).trans (hb1.mono (two_size (Nat.le_refl w.heap.size))), (HB.out.alloc HB.out.size _).trans (hb1.mono (two_size HB.out.size)), hb1⟩ : Below w.heap.size w w1 ∧ Below W0.heap.size W0 w1 ∧ _); clear hb1)
          | (go_at_call 14; refine (HN.out w1 H1.out.2.1).mono ?_; rintro e w2 ⟨rfl, hb2⟩; have H2 := Lib.hid (H1.out.1.trans (hb2.mono H1.out.1.size)); clear hb2)
          | (go_at_call 17; refine (haw w2 (Nat.le_trans hKw H2.out.size)).mono ?_; rintro e w3 ⟨rfl, hb3⟩; have H3 := Lib.hid hb3; clear hb3))
        go_ret
        exact ⟨rfl, H2.out.trans (H3.out.mono H2.out.size)⟩
      · have hf : Fit r := ⟨hr, by omega, words_of 200 r (hin 200)⟩
        have HN := Lib.hid (fun w1 (h : Below W0.heap.size W0 w1) => new (w := w1) hf hL h)
        have HF := Lib.hid hf
        have HE := Lib.hid (fun w1 (h : Below W0.heap.size W0 w1) => endsCall W0 4 r _ w1 hsh hL h)
        clear hL hin hb hz hr hf
        have hpick := pickI_lt (x := fr) (n := ((s.size : Nat) : Int) + 1) (by omega)
        obtain ⟨p, hp⟩ : ∃ p : Nat, pickI fr (((s.size : Nat) : Int) + 1) = (p : Int) := ⟨(pickI fr (((s.size : Nat) : Int) + 1)).toNat, by omega⟩
        have hple : p ≤ s.size := by omega
        have HP := Lib.hid hpick
        clear hpick
        go_enter Try.func7, Try.ntmps7
        go_wp2_with (first
          | (go_at_call 21; refine (HS.out _ (HB.out.alloc HB.out.size _)).mono ?_; rintro e w1 ⟨rfl, hb1⟩; rw [hsh]; have b0 := boxed_at hb1 0 _ rfl; have b1 := boxed_at hb1 1 _ rfl; have b2 := boxed_at hb1 2 _ rfl; have b3 := boxed_at hb1 3 _ rfl; have b4 := boxed_at hb1 4 _ rfl; have b5 := boxed_at hb1 5 _ rfl; have b6 := boxed_at hb1 6 _ rfl; have b7 := boxed_at hb1 7 _ rfl; have H1 := Lib.hid (⟨((Below.refl _ _).alloc (Nat.le_refl _) _).trans (hb1.mono (two_size (Nat.le_refl w.heap.size))), (HB.out.alloc HB.out.size _).trans (hb1.mono (two_size HB.out.size)), hb1⟩ : Below w.heap.size w w1 ∧ Below W0.heap.size W0 w1 ∧ _); clear hb1)
          | (go_at_call 14; refine (HN.out w1 H1.out.2.1).mono ?_; rintro e w2 ⟨mb, gs, gcap, av, rfl, _, _, hM, hb2⟩; have H2 := Lib.hid (⟨H1.out.1.trans (hb2.mono H1.out.1.size), H1.out.2.1.trans (hb2.mono H1.out.2.1.size), H1.out.2.2.trans (hb2.mono H1.out.2.2.size), hM⟩ : _ ∧ _ ∧ _ ∧ _); clear hb2 hM)
          | (go_at_call 23; refine (Pick fr (((s.size : Nat) : Int) + 1) w2 (by omega) (by omega)).mono ?_; rintro e w3 ⟨rfl, rfl⟩; rw [hp])
          | (go_at_call 19; refine (find HF.out H2.out.2.2.2 s p hple (by omega)).mono ?_; rintro e w4 ⟨X, rfl, hfd, hb4⟩; have H4 := Lib.hid (⟨hfd, hb4⟩ : _ ∧ _); clear hfd hb4))
        · have hX : X.found = false := by
            have hX0 := ‹(!X.found) = true›
            simpa using hX0
          have hq := pickI_lt (x := mid) (n := ((s.size : Nat) : Int) - (p : Int) + 1) (by omega)
          obtain ⟨q, hq2⟩ : ∃ q : Nat, pickI mid (((s.size : Nat) : Int) - (p : Int) + 1) = (q : Int) := ⟨(pickI mid (((s.size : Nat) : Int) - (p : Int) + 1)).toNat, by omega⟩
          have hpq : p + q ≤ s.size := by omega
          have HQ := Lib.hid hq
          clear hq
          go_wp2_with (first
            | (go_at_call 23; refine (Pick mid _ w4 (by omega) (by omega)).mono ?_; rintro e w5 ⟨rfl, rfl⟩; rw [hq2])
            | (go_at_call 19; refine (find_at HF.out (H2.out.2.2.2.below H4.out.2) s (p + q) _ (by omega) hpq (by omega)).mono ?_; rintro e w6 ⟨Y, rfl, hfd2, hb6⟩; have hY : Y.found = false := H4.out.1.later hfd2 hX (by omega); rw [hY]; have H6 := Lib.hid ((H2.out.1.trans (H4.out.2.mono H2.out.1.size)).trans (hb6.mono (H2.out.1.trans (H4.out.2.mono H2.out.1.size)).size)); clear hb6 hfd2 hY)
            | (go_at_call 17; refine (haw w6 (Nat.le_trans hKw H6.out.size)).mono ?_; rintro e w7 ⟨rfl, hb7⟩; have H7 := Lib.hid hb7; clear hb7))
          go_ret
          exact ⟨rfl, H6.out.trans (H7.out.mono H6.out.size)⟩
        · have hX : X.found = true := by
            have hX0 := ‹(!X.found) = false›
            simpa using hX0
          obtain ⟨i, hat, hi1, hi2⟩ : ∃ i : Nat, X.at_ = (i : Int) ∧ p ≤ i ∧ i ≤ s.size := by
            obtain ⟨i, j, a1, a2, a3, a4, a5, _⟩ := H4.out.1.yes hX
            rw [bytes_len] at a5
            exact ⟨i, a1, a3, by omega⟩
          have ew : wrap64 (wrap64 (X.at_ - (p : Int)) + 1) = (i : Int) - (p : Int) + 1 := by rw [hat]; unfold wrap64; omega
          rw [ew, hat]
          clear ew
          have hq := pickI_lt (x := mid) (n := (i : Int) - (p : Int) + 1) (by omega)
          obtain ⟨q, hq2⟩ : ∃ q : Nat, pickI mid ((i : Int) - (p : Int) + 1) = (q : Int) := ⟨(pickI mid ((i : Int) - (p : Int) + 1)).toNat, by omega⟩
          have hpq : p + q ≤ i := by omega
          have HQ := Lib.hid hq
          have HA := Lib.hid hat
          clear hq hat
          go_wp2_with (first
            | (go_at_call 23; refine (Pick mid _ w4 (by omega) (by omega)).mono ?_; rintro e w5 ⟨rfl, rfl⟩; rw [hq2])
            | (go_at_call 19; refine (find_at HF.out (H2.out.2.2.2.below H4.out.2) s (p + q) _ (by omega) (by omega) (by omega)).mono ?_; rintro e w6 ⟨Y, rfl, hfd2, hb6⟩; obtain ⟨y1, y2, y3⟩ := H4.out.1.mid hfd2 hX (by omega) (by rw [HA.out]; omega); rw [y1, y2, y3, HA.out]; have b4 := H4.out.2; have H6 := Lib.hid (⟨(H2.out.1.trans (b4.mono H2.out.1.size)).trans (hb6.mono (H2.out.1.trans (b4.mono H2.out.1.size)).size), (H2.out.2.1.trans (b4.mono H2.out.2.1.size)).trans (hb6.mono (H2.out.2.1.trans (b4.mono H2.out.2.1.size)).size), (H2.out.2.2.2.below b4).below hb6, (H2.out.2.2.1.trans (b4.mono H2.out.2.2.1.size)).trans (hb6.mono (H2.out.2.2.1.trans (b4.mono H2.out.2.2.1.size)).size), trivial⟩ : Below w.heap.size w w6 ∧ Below W0.heap.size W0 w6 ∧ Made w6 _ _ _ _ _ ∧ _ ∧ True); clear hb6 hfd2 y1 y2 y3 b4; have d0 := boxed_at H6.out.2.2.2.1 0 _ rfl; have d1 := boxed_at H6.out.2.2.2.1 1 _ rfl; have d2 := boxed_at H6.out.2.2.2.1 2 _ rfl; have d3 := boxed_at H6.out.2.2.2.1 3 _ rfl; have d4 := boxed_at H6.out.2.2.2.1 4 _ rfl; have d5 := boxed_at H6.out.2.2.2.1 5 _ rfl; have d6 := boxed_at H6.out.2.2.2.1 6 _ rfl; have d7 := boxed_at H6.out.2.2.2.1 7 _ rfl))
          cases hE : endsB 4 r with
          | true =>
            go_wp2_with (first
              | (go_at_call 24; refine (HE.out w6 H6.out.2.1).mono ?_; rintro e w7 ⟨rfl, hb7⟩; rw [hE]; have H7 := Lib.hid (⟨H6.out.1.trans (hb7.mono H6.out.1.size), H6.out.2.2.1.below hb7⟩ : Below w.heap.size w w7 ∧ _); clear hb7)
              | (go_at_call 17; refine (haw w7 (Nat.le_trans hKw H7.out.1.size)).mono ?_; rintro e w8 ⟨rfl, hb8⟩; have H8 := Lib.hid hb8; clear hb8))
            go_ret
            exact ⟨rfl, H7.out.1.trans (H8.out.mono H7.out.1.size)⟩
          | false =>
            have hsz : (s ++ more).size = s.size + more.size := ByteArray.size_append
            go_wp2_with (first
              | (go_at_call 24; refine (HE.out w6 H6.out.2.1).mono ?_; rintro e w7 ⟨rfl, hb7⟩; rw [hE]; have H7 := Lib.hid (⟨H6.out.1.trans (hb7.mono H6.out.1.size), H6.out.2.2.1.below hb7⟩ : Below w.heap.size w w7 ∧ _); clear hb7)
              | (go_at_call 19; refine (find_at HF.out H7.out.2 (s ++ more) p _ rfl (by omega) (by omega)).mono ?_; rintro e w9 ⟨Z, rfl, hfd3, hb9⟩; rw [bytes_append] at hfd3; obtain ⟨z1, z2, z3⟩ := H4.out.1.more hsh hE hfd3 hX; rw [z1]; rw [HA.out] at z2 z3; have Z4 := Lib.hid (show (decide (Z.at_ < (i : Int)) || decide (X.n ≤ Z.n)) = true by rw [Bool.or_eq_true, decide_eq_true_eq, decide_eq_true_eq]; exact z3); have H9 := Lib.hid (H7.out.1.trans (hb9.mono H7.out.1.size)); clear hb9 hfd3 z1)
              | (go_at_call 17; refine (haw w9 (Nat.le_trans hKw H9.out.size)).mono ?_; rintro e w10 ⟨rfl, hb10⟩; have HX := Lib.hid hb10; clear hb10))
            all_goals go_ret
            all_goals first
              | exact ⟨rfl, H9.out.trans (HX.out.mono H9.out.size)⟩
              | exact ⟨ret_bool (Z4.out), H9.out.trans (HX.out.mono H9.out.size)⟩
end Go.Proofs.Ytmnghdccikoaoaa.Mt
