/-
  Package match: sizeOf, for every right tree.
-/
import Derived.Test.YtmnghdccikoaoaaShC
namespace Go.Proofs.Ytmnghdccikoaoaa.Mt
open Go.RowKit Go.Proofs.Ytmnghdccikoaoaa.Sh

theorem ret_int {k : IntKind} {a b : Int} (h : a = b) : Ending.returned (.int k a) = .returned (.int k b) := by rw [h]
mutual
def sizeI : Re → Int
  | .mk _ _ _ _ _ a b kids => min (1 + sizesI (max a (max b 1)) kids) 20001
def sizesI (t : Int) : List Re → Int
  | [] => 0
  | r :: l => sizeI r * t + sizesI t l
end
theorem sizesI_snoc (t : Int) (r : Re) : ∀ l : List Re, sizesI t (l ++ [r]) = sizesI t l + sizeI r * t
  | [] => by simp [sizesI]
  | x :: l => by simp only [List.cons_append, sizesI, sizesI_snoc t r l]; omega
mutual
theorem sizeI_ge : ∀ r : Re, 1 ≤ sizeI r
  | .mk _ _ _ _ _ a b kids => by
    have := sizesI_ge (max a (max b 1)) (by omega) kids
    unfold sizeI
    omega
theorem sizesI_ge (t : Int) (h : 0 ≤ t) : ∀ l : List Re, 0 ≤ sizesI t l
  | [] => by simp [sizesI]
  | r :: l => by
    have h1 := sizeI_ge r
    have h2 := sizesI_ge t h l
    have h3 := Int.mul_nonneg (a := sizeI r) (b := t) (by omega) h
    unfold sizesI
    omega
end
theorem sizeI_le (r : Re) : sizeI r ≤ 20001 := by
  obtain ⟨k, s0, s1, s2, s3, a, b, kids⟩ := r
  unfold sizeI
  omega
theorem mul_le {x t : Int} (h2 : x ≤ 20001) (h3 : 0 ≤ t) (h4 : t ≤ 255) : x * t ≤ 5100255 := by
  have := Int.mul_le_mul h2 h4 h3 (by omega)
  omega
theorem sizesI_le (t : Int) (h : 0 ≤ t) (h' : t ≤ 255) : ∀ l : List Re, sizesI t l ≤ l.length * 5100255
  | [] => by simp [sizesI]
  | r :: l => by
    have h1 := mul_le (x := sizeI r) (sizeI_le r) h h'
    have h2 := sizesI_le t h h' l
    simp only [sizesI, List.length_cons]
    omega
/- What a right tree is, field by field. -/
theorem rights_open {f : Re → Int → Bool × Int} (hf : ∀ r n, 0 ≤ n → (f r n).1 = true → 0 ≤ (f r n).2 ∧ (f r n).2 ≤ n - 1) : ∀ (l : List Re) (n : Int), 0 ≤ n → (rights f l n).1 = true →
    (l.length : Int) ≤ n - (rights f l n).2 ∧ 0 ≤ (rights f l n).2 ∧ ∀ (i : Nat) (kid : Re), l[i]? = some kid → ∃ m : Int, 0 ≤ m ∧ m ≤ n ∧ (f kid m).1 = true
  | [], n, h, _ => by simp [rights, h]
  | r :: l, n, h, h1 => by
    unfold rights at h1 ⊢
    split at h1
    · rename_i hr
      rw [if_pos hr]
      have h2 := hf r n h hr
      obtain ⟨h3, h4, h5⟩ := rights_open hf l _ h2.1 h1
      refine ⟨by simp only [List.length_cons]; omega, h4, fun i kid hk => ?_⟩
      cases i with
      | zero => simp at hk; subst hk; exact ⟨n, h, Int.le_refl _, hr⟩
      | succ i =>
        obtain ⟨m, q0, q1, q2⟩ := h5 i kid (by simpa using hk)
        exact ⟨m, q0, by omega, q2⟩
    · simp at h1
theorem rightG_less : ∀ (l : Nat) (r : Re) (n : Int), 0 ≤ n → (rightG l r n).1 = true → 0 ≤ (rightG l r n).2 ∧ (rightG l r n).2 ≤ n - 1
  | 0, _, n, _, h1 => by simp [rightG] at h1
  | l + 1, .mk k s0 s1 s2 s3 a b kids, n, h, h1 => by
    unfold rightG at h1 ⊢
    split at h1
    · simp at h1
    · rename_i hn
      rw [if_neg hn]
      have := rights_bound (rightG_bound l) kids (n - 1) (by omega) h1
      omega
theorem fits_small {k s0 s1 s2 s3 a b : Int} {n : Nat} (h : fitsI k s0 s1 s2 s3 a b n = true) : 0 ≤ a ∧ a ≤ 255 ∧ -1 ≤ b ∧ b ≤ 255 := by
  unfold fitsI timesFitI at h
  split at h
  · simp at h; omega
  · split at h
    · simp at h; omega
    · split at h
      · simp at h; omega
      · split at h
        · simp at h; omega
        · simp at h
theorem right_open {l : Nat} {k s0 s1 s2 s3 a b : Int} {kids : List Re} {n : Int} (h : (rightG (l + 1) (.mk k s0 s1 s2 s3 a b kids) n).1 = true) :
    fitsI k s0 s1 s2 s3 a b kids.length = true ∧ 0 ≤ a ∧ a ≤ 255 ∧ -1 ≤ b ∧ b ≤ 255 ∧ (kids.length : Int) ≤ n ∧ ∀ (i : Nat) (kid : Re), kids[i]? = some kid → ∃ m : Int, 0 ≤ m ∧ m ≤ n ∧ (rightG l kid m).1 = true := by
  unfold rightG at h
  split at h
  · simp at h
  · rename_i hn
    have hfit : fitsI k s0 s1 s2 s3 a b kids.length = true := by
      cases hh : fitsI k s0 s1 s2 s3 a b kids.length
      · exact absurd (.inr hh) hn
      · rfl
    obtain ⟨h3, h4, h5⟩ := rights_open (rightG_less l) kids (n - 1) (by omega) h
    obtain ⟨q1, q2, q3, q4⟩ := fits_small hfit
    exact ⟨hfit, q1, q2, q3, q4, by omega, fun i kid hk => let ⟨m, p1, p2, p3⟩ := h5 i kid hk; ⟨m, p1, by omega, p3⟩⟩
theorem wrap_in {x : Int} (h : -9223372036854775808 ≤ x ∧ x ≤ 9223372036854775807) : IntKind.i64.wrap x = x := by
  rw [IntKind.wrap_i64]; omega
theorem size_round {a b : Int} {kids : List Re} {j : Nat} (ha0 : 0 ≤ a) (ha1 : a ≤ 255) (hb0 : -1 ≤ b) (hb1 : b ≤ 255) (hlt : j < kids.length) (hl : (kids.length : Int) ≤ 10000) :
    IntKind.i64.wrap (1 + sizesI (max a (max b 1)) (List.take j kids) + IntKind.i64.wrap (sizeI kids[j] * if (if a < b then b else a) < 1 then 1 else if a < b then b else a)) = 1 + sizesI (max a (max b 1)) (List.take (j + 1) kids) := by
  have ht : (if (if a < b then b else a) < 1 then 1 else if a < b then b else a) = max a (max b 1) := by
    split <;> split <;> omega
  rw [ht]
  have h1 := sizeI_ge kids[j]
  have h2 := sizeI_le kids[j]
  have h3 := mul_le (t := max a (max b 1)) h2 (by omega) (by omega)
  have h4 := Int.mul_nonneg (a := sizeI kids[j]) (b := max a (max b 1)) (by omega) (by omega)
  have h5 := sizesI_le (max a (max b 1)) (by omega) (by omega) (List.take j kids)
  have h6 := sizesI_ge (max a (max b 1)) (by omega) (List.take j kids)
  have h7 : (List.take j kids).length = j := by simp; omega
  rw [h7] at h5
  rw [wrap_in (x := sizeI kids[j] * max a (max b 1)) (by omega), List.take_succ_eq_append_getElem hlt, sizesI_snoc, wrap_in (by omega)]
  omega

set_option maxRecDepth 100000 in
theorem sizeOf (W0 : World) : ∀ (l : Nat) (r : Re) (cs : List Value) (n : Int) (w : World), 0 ≤ n → n ≤ 10000 → (rightG l r n).1 = true → Lies W0 r cs → Below W0.heap.size W0 w →
    Calls Try.prog 34 #[.agg ⟨cs⟩] w fun e w' => e = .returned (.int .i64 (sizeI r)) ∧ Below w.heap.size w w' := by
  intro l
  induction l with
  | zero => intro r cs n w _ _ h; simp [rightG] at h
  | succ l ih =>
    intro r cs n w h0 hn hg hr hb
    obtain ⟨k, s0, s1, s2, s3, a, b, kids, sl, cap, rfl, rfl, hlen, hkid⟩ := hr.open
    obtain ⟨_, ha0, ha1, hb0, hb1, hln, hks⟩ := right_open hg
    have HB := Lib.hid hb
    have HG := Lib.hid hkid
    have HK := Lib.hid hks
    clear hb hr hkid hks hg
    go_enter Try.func34, Try.ntmps34
    go_wp2_with fail
    go_loopw [9, 3] (fun i z wr => ∃ (j : Nat), j ≤ kids.length ∧ i = .int .i64 j ∧ z = .int .i64 (1 + sizesI (max a (max b 1)) (kids.take j)) ∧ Below (w.heap.size + 1) (w.alloc (.cells ⟨[.int .u8 k, .int .u64 s0, .int .u64 s1, .int .u64 s2, .int .u64 s3, .int .i64 a, .int .i64 b, .slice sl kids.length cap]⟩ 34)) wr) (fun i _ _ => kids.length - (intOf i).toNat)
    case atStart => exact ⟨0, Nat.zero_le _, rfl, rfl, Below.refl _ _⟩
    case round =>
      obtain ⟨j, hj, rfl, rfl, hS⟩ := hrel
      have hW : Below W0.heap.size W0 wr := (HB.out.alloc HB.out.size _).trans (hS.mono (Nat.le_succ_of_le HB.out.size))
      have c5 : wr.cell? ⟨w.heap.size, 5, none⟩ = some (.int .i64 a) := (hS.cell (p := ⟨w.heap.size, 5, none⟩) (Nat.lt_succ_self _)).trans (by rw [World.cell?_alloc_at _ _ _ _ rfl]; rfl)
      have c6 : wr.cell? ⟨w.heap.size, 6, none⟩ = some (.int .i64 b) := (hS.cell (p := ⟨w.heap.size, 6, none⟩) (Nat.lt_succ_self _)).trans (by rw [World.cell?_alloc_at _ _ _ _ rfl]; rfl)
      by_cases hlt : j < kids.length
      · obtain ⟨lb, o, ks, rfl, hcells, hk⟩ := HG.out j _ (List.getElem?_eq_getElem hlt)
        obtain ⟨k', s0', s1', s2', s3', a', b', kids', sl', cap', hr', rfl, _, _⟩ := hk.open
        have f : ∀ jj v, [Value.int .u8 k', .int .u64 s0', .int .u64 s1', .int .u64 s2', .int .u64 s3', .int .i64 a', .int .i64 b', .slice sl' kids'.length cap'][jj]? = some v → wr.cell? ⟨lb, o + j * 8 + jj, none⟩ = some v := fun jj v h => (hW.cell (cell_lt (hcells jj v h))).trans (hcells jj v h)
        have f0 : wr.cell? ⟨lb, o + j * 8, none⟩ = some (.int .u8 k') := f 0 _ rfl
        have f1 := f 1 _ rfl
        have f2 := f 2 _ rfl
        have f3 := f 3 _ rfl
        have f4 := f 4 _ rfl
        have f5 := f 5 _ rfl
        have f6 := f 6 _ rfl
        have f7 := f 7 _ rfl
        have hlt' : (j : Int) < (kids.length : Int) := by omega
        have HS := Lib.hid hS
        have HW := Lib.hid hW
        have HL := Lib.hid hk
        clear f hcells hS hW hk hr'
        go_wp2_with fail
        obtain ⟨wx, hwx⟩ : ∃ wx, wx = wr.alloc (.cells #[.int .u8 k', .int .u64 s0', .int .u64 s1', .int .u64 s2', .int .u64 s3', .int .i64 a', .int .i64 b', .slice sl' kids'.length cap'] 34) := ⟨_, rfl⟩
        rw [← hwx]
        have hx : Below wr.heap.size wr wx := by rw [hwx]; exact (Below.refl _ _).alloc (Nat.le_refl _) _
        have e5 : ∀ x : Later wx, x.w.cell? ⟨w.heap.size, 5, none⟩ = some (.int .i64 a) := fun x => x.cell ((hx.cell (cell_lt c5)).trans c5)
        have e6 : ∀ x : Later wx, x.w.cell? ⟨w.heap.size, 6, none⟩ = some (.int .i64 b) := fun x => x.cell ((hx.cell (cell_lt c6)).trans c6)
        have g : ∀ jj v, (#[Value.int .u8 k', .int .u64 s0', .int .u64 s1', .int .u64 s2', .int .u64 s3', .int .i64 a', .int .i64 b', .slice sl' kids'.length cap'])[jj]? = some v → ∀ x : Later wx, x.w.cell? ⟨wr.heap.size, jj, none⟩ = some v := fun jj v h x => x.cell (by rw [hwx, World.cell?_alloc_at _ _ _ _ rfl]; exact h)
        have g0 := g 0 _ rfl
        have g1 := g 1 _ rfl
        have g2 := g 2 _ rfl
        have g3 := g 3 _ rfl
        have g4 := g 4 _ rfl
        have g5 := g 5 _ rfl
        have g6 := g 6 _ rfl
        have g7 := g 7 _ rfl
        have HX := Lib.hid hx
        clear g f0 f1 f2 f3 f4 f5 f6 f7 c5 c6 hwx hx
        obtain ⟨m, hm0, hm1, hmr⟩ := HK.out j _ (List.getElem?_eq_getElem hlt)
        have HR := Lib.hid hmr
        have HZ := Lib.hid (HW.out.trans (HX.out.mono HW.out.size))
        clear hmr
        refine wp_region_later (by kernel_rfl) (by kernel_rfl) ?_
        repeat quiet_step (first | (go_at_call 34; exact later_call (ih _ _ m _ hm0 (by omega) HR.out HL.out (HZ.out.trans (Below.mono (Later.h _) HZ.out.size)))))
        refine wpQuiet_nil ?_
        rintro _ ⟨x, rfl⟩
        go_wp2_with fail
        go_light
        exact ⟨⟨j + 1, by omega, rfl, by rw [size_round ha0 ha1 hb0 hb1 hlt (by omega)], HS.out.trans ((HX.out.trans (x.h.mono HX.out.size)).mono (by have := HS.out.size; rw [alloc_size] at this; exact this))⟩, by simp only [intOf]; omega⟩
      · have hge : ¬ (j : Int) < (kids.length : Int) := by omega
        have HS := Lib.hid hS
        have hfin : kids.take j = kids := List.take_of_length_le (by omega)
        clear hS hW
        go_wp2_with fail
        all_goals go_ret
        all_goals refine ⟨ret_int ?_, ((Below.refl _ w).alloc (Nat.le_refl _) _).trans (HS.out.mono (Nat.le_succ _))⟩
        all_goals go_light
        all_goals (unfold sizeI; omega)
end Go.Proofs.Ytmnghdccikoaoaa.Mt
