/-
  Package match's statements: Pick, short, ends.
-/
import Derived.Test.YtmnghdccikoaoaaMuF
namespace Go.Proofs.Ytmnghdccikoaoaa.Mt
open Go.RowKit Go.Proofs.Ytmnghdccikoaoaa.Sh

def pickI (x n : Int) : Int := if n ≤ 0 then 0 else x % n
theorem pickI_lt {x n : Int} (h : 0 < n) : 0 ≤ pickI x n ∧ pickI x n < n := by
  unfold pickI
  rw [if_neg (by omega)]
  exact ⟨Int.emod_nonneg _ (by omega), Int.emod_lt_of_pos _ h⟩
theorem tmod_pick {x n : Int} (h : 0 < n) : (if x.tmod n < 0 then x.tmod n + n else x.tmod n) = pickI x n := by
  have e : pickI x n = x % n := by unfold pickI; rw [if_neg (by omega)]
  rw [e]
  clear e
  have h1 := Int.tmod_eq_emod (a := x) (b := n)
  have h2 := Int.emod_nonneg x (show n ≠ 0 by omega)
  have h3 := Int.emod_lt_of_pos x h
  have h4 : (n.natAbs : Int) = n := by omega
  by_cases hc : 0 ≤ x ∨ n ∣ x
  · rw [if_pos hc] at h1
    generalize x.tmod n = y at *
    generalize x % n = z at *
    split <;> omega
  · rw [if_neg hc] at h1
    generalize x.tmod n = y at *
    generalize x % n = z at *
    split <;> omega
set_option maxRecDepth 100000 in
theorem Pick (x n : Int) (w : World) (hn : 0 < n) (hn2 : n ≤ 1000000) :
    Calls Try.prog 23 #[.int .i64 x, .int .i64 n] w fun e w' => e = .returned (.int .i64 (pickI x n)) ∧ w' = w := by
  have h1 : ¬ n ≤ 0 := by omega
  have h0 : ¬ n = 0 := by omega
  have hp := tmod_pick (x := x) hn
  have hr1 : x.tmod n < n := Int.tmod_lt_of_pos x hn
  have hr2 : -n ≤ x.tmod n := by
    by_cases h : x.tmod n < 0
    · rw [if_pos h] at hp
      have := (pickI_lt (x := x) hn).1
      omega
    · omega
  by_cases h : x.tmod n < 0
  · rw [if_pos h] at hp
    rw [← hp]
    have HP := Lib.hid hp
    clear hp
    go_enter Try.func23, Try.ntmps23
    go_wp2_with fail
    go_ret
    exact ⟨rfl, rfl⟩
  · rw [if_neg h] at hp
    rw [← hp]
    have HP := Lib.hid hp
    clear hp
    go_enter Try.func23, Try.ntmps23
    go_wp2_with fail
    go_ret
    exact ⟨rfl, rfl⟩

def shortB : Nat → Re → Bool
  | 0, _ => false
  | l + 1, .mk _ _ _ _ _ a b kids => decide (kids.length ≤ 4 ∧ a ≤ 6 ∧ b ≤ 6) && kids.all (shortB l)
def endsB : Nat → Re → Bool
  | 0, _ => false
  | l + 1, .mk k _ _ _ _ _ _ kids => decide (k = 4) || kids.any (endsB l)
theorem all_drop {α : Type} (p : α → Bool) : ∀ (l : List α) (j : Nat) (x : α), l[j]? = some x → (l.drop j).all p = (p x && (l.drop (j + 1)).all p) := fun l j x h => by
  rw [drop_of_get h, List.all_cons]
theorem any_drop {α : Type} (p : α → Bool) : ∀ (l : List α) (j : Nat) (x : α), l[j]? = some x → (l.drop j).any p = (p x || (l.drop (j + 1)).any p) := fun l j x h => by
  rw [drop_of_get h, List.any_cons]
set_option maxHeartbeats 2000000 in
set_option maxRecDepth 100000 in
theorem short (W0 : World) : ∀ (l : Nat) (r : Re) (cs : List Value) (w : World), l ≤ 100 → Lies W0 r cs → Below W0.heap.size W0 w →
    Calls Try.prog 21 #[.agg ⟨cs⟩, .int .i64 (l : Int)] w fun e w' => e = .returned (.bool (shortB l r)) ∧ Below w.heap.size w w'
  | 0, r, cs, w, hl, hr, hb => by
    obtain ⟨k, s0, s1, s2, s3, a, b, kids, sl, cap, rfl, rfl, _, _⟩ := hr.open
    clear hr hb
    go_enter Try.func21, Try.ntmps21
    go_wp2_with fail
    go_ret
    exact ⟨rfl, (Below.refl _ _).alloc (Nat.le_refl _) _⟩
  | l + 1, r, cs, w, hl, hr, hb => by
    have ih := short W0 l
    obtain ⟨k, s0, s1, s2, s3, a, b, kids, sl, cap, rfl, rfl, _, hkid⟩ := hr.open
    have HB := Lib.hid hb
    have HG := Lib.hid hkid
    have HI := Lib.hid ih
    clear hb hr hkid ih
    have h1 : ¬ (((l + 1 : Nat) : Nat) : Int) < 1 := by omega
    by_cases hk : (4 : Int) < ((kids.length : Nat) : Int)
    · have e : shortB (l + 1) (.mk k s0 s1 s2 s3 a b kids) = false := by
        unfold shortB
        have : ¬ (kids.length ≤ 4 ∧ a ≤ 6 ∧ b ≤ 6) := by omega
        simp [this]
      rw [e]
      go_enter Try.func21, Try.ntmps21
      go_wp2_with fail
      go_ret
      exact ⟨rfl, (Below.refl _ _).alloc (Nat.le_refl _) _⟩
    · by_cases ha : (6 : Int) < a
      · have e : shortB (l + 1) (.mk k s0 s1 s2 s3 a b kids) = false := by
          unfold shortB
          have : ¬ (kids.length ≤ 4 ∧ a ≤ 6 ∧ b ≤ 6) := by omega
          simp [this]
        rw [e]
        go_enter Try.func21, Try.ntmps21
        go_wp2_with fail
        go_ret
        exact ⟨rfl, (Below.refl _ _).alloc (Nat.le_refl _) _⟩
      · by_cases hbb : (6 : Int) < b
        · have e : shortB (l + 1) (.mk k s0 s1 s2 s3 a b kids) = false := by
            unfold shortB
            have : ¬ (kids.length ≤ 4 ∧ a ≤ 6 ∧ b ≤ 6) := by omega
            simp [this]
          rw [e]
          go_enter Try.func21, Try.ntmps21
          go_wp2_with fail
          go_ret
          exact ⟨rfl, (Below.refl _ _).alloc (Nat.le_refl _) _⟩
        · have e : shortB (l + 1) (.mk k s0 s1 s2 s3 a b kids) = kids.all (shortB l) := by
            unfold shortB
            have : kids.length ≤ 4 ∧ a ≤ 6 ∧ b ≤ 6 := by omega
            simp [this]
          rw [e]
          have hk4 : kids.length ≤ 4 := by omega
          go_enter Try.func21, Try.ntmps21
          go_wp2_with fail
          go_loopw [5] (fun i wr => ∃ (j : Nat), j ≤ kids.length ∧ i = .int .i64 (j : Int) ∧ kids.all (shortB l) = (kids.drop j).all (shortB l) ∧ Below (w.alloc (.cells ⟨[.int .u8 k, .int .u64 s0, .int .u64 s1, .int .u64 s2, .int .u64 s3, .int .i64 a, .int .i64 b, .slice sl kids.length cap]⟩ 34)).heap.size (w.alloc (.cells ⟨[.int .u8 k, .int .u64 s0, .int .u64 s1, .int .u64 s2, .int .u64 s3, .int .i64 a, .int .i64 b, .slice sl kids.length cap]⟩ 34)) wr) (fun i _ => kids.length - (intOf i).toNat)
          case atStart => exact ⟨0, Nat.zero_le _, rfl, rfl, Below.refl _ _⟩
          case round =>
            obtain ⟨j, hj, rfl, hall, hS⟩ := hrel
            have hW : Below W0.heap.size W0 wr := (HB.out.alloc HB.out.size _).trans (hS.mono (two_size HB.out.size))
            have c7 := boxed_at hS 7 _ rfl
            have hfar : Below w.heap.size w wr := ((Below.refl _ _).alloc (Nat.le_refl _) _).trans (hS.mono (two_size (Nat.le_refl _)))
            by_cases hlt : j < kids.length
            · have hlt' : (j : Int) < ((kids.length : Nat) : Int) := by omega
              obtain ⟨lb, o, ks, rfl, hcells, hk2⟩ := HG.out j _ (List.getElem?_eq_getElem hlt)
              obtain ⟨k', s0', s1', s2', s3', a', b', kids', sl', cap', hr', rfl, _, _⟩ := hk2.open
              have f : ∀ jj v, [Value.int .u8 k', .int .u64 s0', .int .u64 s1', .int .u64 s2', .int .u64 s3', .int .i64 a', .int .i64 b', .slice sl' kids'.length cap'][jj]? = some v → wr.cell? ⟨lb, o + j * 8 + jj, none⟩ = some v := fun jj v h => (hW.cell (cell_lt (hcells jj v h))).trans (hcells jj v h)
              have f0 : wr.cell? ⟨lb, o + j * 8, none⟩ = some (.int .u8 k') := f 0 _ rfl
              have f1 := f 1 _ rfl
              have f2 := f 2 _ rfl
              have f3 := f 3 _ rfl
              have f4 := f 4 _ rfl
              have f5 := f 5 _ rfl
              have f6 := f 6 _ rfl
              have f7 := f 7 _ rfl
              have hd := all_drop (shortB l) kids j _ (List.getElem?_eq_getElem hlt)
              have HS := Lib.hid (⟨hS, hW, hfar, hall, hd, hk2⟩ : _ ∧ _ ∧ _ ∧ _ ∧ _ ∧ _)
              have hsub : (((l + 1 : Nat) : Nat) : Int) - 1 = (l : Int) := by omega
              clear hS hW hfar hall hd hk2 f hcells hr'
              cases hv : shortB l kids[j] with
              | true =>
                go_wp2_with (go_at_call 21; refine (HI.out kids[j] _ wr (by omega) HS.out.2.2.2.2.2 HS.out.2.1).mono ?_; rintro e w2 ⟨rfl, hb2⟩; rw [hv]; have H2 := Lib.hid hb2; clear hb2)
                go_light
                exact ⟨⟨j + 1, by omega, rfl, by rw [HS.out.2.2.2.1, HS.out.2.2.2.2.1, hv, Bool.true_and], HS.out.1.trans (H2.out.mono HS.out.1.size)⟩, by simp only [intOf]; omega⟩
              | false =>
                go_wp2_with (go_at_call 21; refine (HI.out kids[j] _ wr (by omega) HS.out.2.2.2.2.2 HS.out.2.1).mono ?_; rintro e w2 ⟨rfl, hb2⟩; rw [hv]; have H2 := Lib.hid hb2; clear hb2)
                go_ret
                exact ⟨by rw [HS.out.2.2.2.1, HS.out.2.2.2.2.1, hv, Bool.false_and]; rfl, HS.out.2.2.1.trans (H2.out.mono HS.out.2.2.1.size)⟩
            · have hge : ¬ (j : Int) < ((kids.length : Nat) : Int) := by omega
              have hfin : kids.all (shortB l) = true := by rw [hall, List.drop_of_length_le (by omega)]; rfl
              have HS := Lib.hid (⟨hfar, hfin⟩ : _ ∧ _)
              clear hS hW hfar hall hfin
              go_wp2_with fail
              go_ret
              exact ⟨by rw [HS.out.2]; rfl, HS.out.1⟩
end Go.Proofs.Ytmnghdccikoaoaa.Mt
