/-
  Package match: the states of a tree (tree).
-/
import Derived.Test.YtmnghdccikoaoaaMtF
import Derived.StillTailTactics
namespace Go.Proofs.Ytmnghdccikoaoaa.Mt
open Go.RowKit Go.Proofs.Ytmnghdccikoaoaa.Sh

theorem layCat_append (f : Re → Lay) (next : Int) (sts : List St) : ∀ a b : List Re, layCat f (a ++ b) next sts = layCat f a (layCat f b next sts).2 (layCat f b next sts).1
  | [], b => rfl
  | r :: a, b => by simp only [List.cons_append, layCat]; rw [layCat_append f next sts a b]
theorem kids_open {W0 : World} {k s0 s1 s2 s3 a b : Int} {kids : List Re} {cs : List Value} (h : Lies W0 (.mk k s0 s1 s2 s3 a b kids) cs) (hne : 0 < kids.length) :
    ∃ lb o cap, cs = [.int .u8 k, .int .u64 s0, .int .u64 s1, .int .u64 s2, .int .u64 s3, .int .i64 a, .int .i64 b, .slice (some ⟨lb, o, none⟩) kids.length cap] ∧ kids.length ≤ cap ∧ cap ≤ maxLen ∧
      ∀ (i : Nat) (kid : Re), kids[i]? = some kid → ∃ ks, (∀ j v, ks[j]? = some v → W0.cell? ⟨lb, o + i * 8 + j, none⟩ = some v) ∧ Lies W0 kid ks := by
  cases h with
  | nil => simp at hne
  | row _ _ _ _ _ _ _ _ lb o cap cs hcap hmax hcell hkid =>
    refine ⟨lb, o, cap, rfl, hcap, hmax, fun i kid h => ⟨cs i, hcell i ?_, hkid i kid h⟩⟩
    obtain ⟨hi, _⟩ := List.getElem?_eq_some_iff.mp h
    exact hi
theorem kids_of {W0 : World} {l : Nat} {n : Int} {lb o : Nat} {kids : List Re} (h1 : ∀ (i : Nat) (kid : Re), kids[i]? = some kid → ∃ ks, (∀ j v, ks[j]? = some v → W0.cell? ⟨lb, o + i * 8 + j, none⟩ = some v) ∧ Lies W0 kid ks)
    (h2 : ∀ (i : Nat) (kid : Re), kids[i]? = some kid → ∃ m : Int, 0 ≤ m ∧ m ≤ n ∧ (rightG l kid m).1 = true) : Kids W0 l n lb o kids := fun i kid hk => by
  obtain ⟨ks, q1, q2⟩ := h1 i kid hk
  obtain ⟨m, q3⟩ := h2 i kid hk
  exact ⟨ks, m, q1, q2, q3⟩
theorem fits_kind {k s0 s1 s2 s3 a b : Int} {n : Nat} (h : fitsI k s0 s1 s2 s3 a b n = true) : k = 1 ∨ k = 2 ∨ k = 3 ∨ k = 4 ∨ (k = 5 ∧ 2 ≤ n) ∨ (k = 6 ∧ 2 ≤ n) ∨ (k = 7 ∧ n = 1 ∧ timesFitI a b = true) := by
  unfold fitsI at h
  split at h
  · omega
  · split at h
    · omega
    · split at h
      · simp at h; omega
      · split at h
        · simp at h; right; right; right; right; right; right; exact ⟨by assumption, h.2, h.1.2⟩
        · simp at h

set_option maxRecDepth 100000 in
theorem tree_plain {W0 : World} {l : Nat} {k s0 s1 s2 s3 a b : Int} {kids : List Re} {cs : List Value} {B pb : Nat} {v : Value} {sts : List St} {next : Int} {w : World}
    (hk : k = 1 ∨ k = 2 ∨ k = 3 ∨ k = 4) (hL : Lies W0 (.mk k s0 s1 s2 s3 a b kids) cs) (hB : B ≤ w.heap.size) (hb : Bld w B pb v sts) (hlen : (lay (l + 1) (.mk k s0 s1 s2 s3 a b kids) next sts).1.length ≤ 100000) :
    Calls Try.prog 35 #[.pointer (some ⟨pb, 0, none⟩), .agg ⟨cs⟩, .int .i64 next] w
      fun e w' => e = .returned (.int .i64 (lay (l + 1) (.mk k s0 s1 s2 s3 a b kids) next sts).2) ∧ ∃ v', Bld w' B pb v' (lay (l + 1) (.mk k s0 s1 s2 s3 a b kids) next sts).1 ∧ Grew pb w v w' v' := by
  obtain ⟨k', s0', s1', s2', s3', a', b', kids', sl, cap, hr', rfl, _, _⟩ := hL.open
  cases hr'
  have hs : sts.length ≤ 100000 := Nat.le_trans (lay_adds _ _ _ _) hlen
  have HB := Lib.hid hb
  clear hb hL hlen
  rcases hk with rfl | rfl | rfl | rfl
  · go_enter Try.func35, Try.ntmps35
    go_wp2_with fail
    go_ret
    exact ⟨rfl, v, HB.out.box _, Grew.box _ _ _ _⟩
  · go_enter Try.func35, Try.ntmps35
    go_wp2_with (go_at_call 36; refine (add B pb v sts ⟨1, s0, s1, s2, s3, next, 0⟩ _ (HB.out.box _) (two_size hB) hs).mono ?_; rintro e w3 ⟨rfl, v3, hb3⟩; have HD := Lib.hid hb3; clear hb3)
    go_ret
    exact ⟨rfl, v3, HD.out.1, (Grew.box _ _ _ _).trans HD.out.2⟩
  · go_enter Try.func35, Try.ntmps35
    go_wp2_with (go_at_call 36; refine (add B pb v sts ⟨3, 0, 0, 0, 0, next, 0⟩ _ (HB.out.box _) (two_size hB) hs).mono ?_; rintro e w3 ⟨rfl, v3, hb3⟩; have HD := Lib.hid hb3; clear hb3)
    go_ret
    exact ⟨rfl, v3, HD.out.1, (Grew.box _ _ _ _).trans HD.out.2⟩
  · go_enter Try.func35, Try.ntmps35
    go_wp2_with (go_at_call 36; refine (add B pb v sts ⟨4, 0, 0, 0, 0, next, 0⟩ _ (HB.out.box _) (two_size hB) hs).mono ?_; rintro e w3 ⟨rfl, v3, hb3⟩; have HD := Lib.hid hb3; clear hb3)
    go_ret
    exact ⟨rfl, v3, HD.out.1, (Grew.box _ _ _ _).trans HD.out.2⟩
end Go.Proofs.Ytmnghdccikoaoaa.Mt
