/-
  Package match: ways.
-/
import Derived.Test.YtmnghdccikoaoaaMtE
namespace Go.Proofs.Ytmnghdccikoaoaa.Mt
open Go.RowKit Go.Proofs.Ytmnghdccikoaoaa.Sh

/- Kids as they lie: right ones. -/
def Kids (W0 : World) (l : Nat) (n : Int) (lb o : Nat) (kids : List Re) : Prop :=
  ∀ (i : Nat) (kid : Re), kids[i]? = some kid → ∃ ks m, (∀ j v, ks[j]? = some v → W0.cell? ⟨lb, o + i * 8 + j, none⟩ = some v) ∧ Lies W0 kid ks ∧ 0 ≤ m ∧ m ≤ n ∧ (rightG l kid m).1 = true
theorem Kids.rest {W0 : World} {l : Nat} {n : Int} {lb o : Nat} {k0 : Re} {rest : List Re} (h : Kids W0 l n lb o (k0 :: rest)) : Kids W0 l n lb (o + 8) rest := fun i kid hk => by
  obtain ⟨ks, m, h1, h2⟩ := h (i + 1) kid (by simpa using hk)
  exact ⟨ks, m, fun j v hv => by have := h1 j v hv; rwa [show o + (i + 1) * 8 + j = o + 8 + i * 8 + j by omega] at this, h2⟩

set_option maxRecDepth 100000 in
theorem ways {W0 : World} {l : Nat} (ht : TreeOk W0 l) (k0 : Re) (rest : List Re) (lb o cap : Nat) (n : Int) (B pb : Nat) (v : Value) (sts : List St) (next : Int) (w : World)
    (h0 : 0 ≤ n) (hn : n ≤ 10000) (hk : Kids W0 l n lb o (k0 :: rest)) (hcap : rest.length + 1 ≤ cap) (hr1 : 1 ≤ rest.length) (hr2 : rest.length ≤ 10000) (hW : Below W0.heap.size W0 w) (hB0 : W0.heap.size ≤ B) (hB : B ≤ w.heap.size) (hb : Bld w B pb v sts) (hlen : (layAlt (lay l) (k0 :: rest) next sts).1.length ≤ 100000) :
    Calls Try.prog 51 #[.pointer (some ⟨pb, 0, none⟩), .slice (some ⟨lb, o, none⟩) (rest.length + 1) cap, .int .i64 next] w
      fun e w' => e = .returned (.int .i64 (layAlt (lay l) (k0 :: rest) next sts).2) ∧ ∃ v', Bld w' B pb v' (layAlt (lay l) (k0 :: rest) next sts).1 ∧ Grew pb w v w' v' := by
  have e : layAlt (lay l) (k0 :: rest) next sts = layWays (lay l) next rest (lay l k0 next sts).2 (lay l k0 next sts).1 := rfl
  rw [e] at hlen ⊢
  have hlen2 : (lay l k0 next sts).1.length ≤ 100000 := Nat.le_trans (layWays_adds (lay_adds l) next rest _ _) hlen
  have HKR := Lib.hid hk.rest
  obtain ⟨ks, m, hc, hL, hm0, hm1, hmr⟩ := hk 0 k0 rfl
  obtain ⟨k, s0, s1, s2, s3, a, b, kids, sl, cap', hr', rfl, _, _⟩ := hL.open
  have f : ∀ jj v, [Value.int .u8 k, .int .u64 s0, .int .u64 s1, .int .u64 s2, .int .u64 s3, .int .i64 a, .int .i64 b, .slice sl kids.length cap'][jj]? = some v → w.cell? ⟨lb, o + jj, none⟩ = some v := fun jj v h => by
    have h1 := hc jj v h
    rw [Nat.zero_mul, Nat.add_zero] at h1
    exact (hW.cell (cell_lt h1)).trans h1
  have f0 : w.cell? ⟨lb, o, none⟩ = some (.int .u8 k) := f 0 _ rfl
  have f1 := f 1 _ rfl
  have f2 := f 2 _ rfl
  have f3 := f 3 _ rfl
  have f4 := f 4 _ rfl
  have f5 := f 5 _ rfl
  have f6 := f 6 _ rfl
  have f7 := f 7 _ rfl
  have HB := Lib.hid hb
  have HW := Lib.hid hW
  have HL := Lib.hid hL
  have HR := Lib.hid hmr
  have HT := Lib.hid ht
  have HN := Lib.hid hlen
  have HN2 := Lib.hid hlen2
  clear hb hW hL hk ht hlen hlen2 hr' e f hc hmr
  go_enter Try.func51, Try.ntmps51
  go_wp2_with (go_at_call 35; refine (HT.out k0 _ m B pb v sts next w hm0 (by omega) HR.out HL.out HW.out hB0 hB HB.out HN2.out).mono ?_; rintro e w1 ⟨rfl, v1, hb1⟩; have H1 := Lib.hid hb1; clear hb1)
  go_loopw [19, 7] (fun i x wr => ∃ (j : Nat) (nj : Int) (sj : List St) (vj : Value), j ≤ rest.length ∧ i = .int .i64 j ∧ x = .int .i64 nj ∧ layWays (lay l) next rest (lay l k0 next sts).2 (lay l k0 next sts).1 = layWays (lay l) next (rest.drop j) nj sj ∧ Bld wr B pb vj sj ∧
      Grew pb w v wr vj) (fun i _ _ => rest.length - (intOf i).toNat)
  case atStart => exact ⟨0, _, _, v1, Nat.zero_le _, rfl, rfl, rfl, H1.out⟩
  case round =>
    obtain ⟨j, nj, sj, vj, hj, rfl, rfl, hR, hb, hg⟩ := hrel
    by_cases hlt : j < rest.length
    · have hlt' : (j : Int) < (rest.length : Int) := by omega
      obtain ⟨ks, m2, hc, hL, hm20, hm21, hmr⟩ := HKR.out j _ (List.getElem?_eq_getElem hlt)
      obtain ⟨k', s0', s1', s2', s3', a', b', kids', sl', cap2, hr', rfl, _, _⟩ := hL.open
      have hWr : Below W0.heap.size W0 wr := HW.out.trans (hg.below HB.out hB0 HW.out.size)
      have f : ∀ jj v, [Value.int .u8 k', .int .u64 s0', .int .u64 s1', .int .u64 s2', .int .u64 s3', .int .i64 a', .int .i64 b', .slice sl' kids'.length cap2][jj]? = some v → wr.cell? ⟨lb, o + 8 + j * 8 + jj, none⟩ = some v := fun jj v h => (hWr.cell (cell_lt (hc jj v h))).trans (hc jj v h)
      have g0 : wr.cell? ⟨lb, o + 8 + j * 8, none⟩ = some (.int .u8 k') := f 0 _ rfl
      have g1 := f 1 _ rfl
      have g2 := f 2 _ rfl
      have g3 := f 3 _ rfl
      have g4 := f 4 _ rfl
      have g5 := f 5 _ rfl
      have g6 := f 6 _ rfl
      have g7 := f 7 _ rfl
      have hR2 : layWays (lay l) next rest (lay l k0 next sts).2 (lay l k0 next sts).1 = layWays (lay l) next (rest.drop (j + 1)) ((lay l rest[j] next sj).1.length : Int) ((lay l rest[j] next sj).1 ++ [fork nj (lay l rest[j] next sj).2]) := by
        rw [hR, List.drop_eq_getElem_cons hlt, layWays]
      have hlen3 : (lay l rest[j] next sj).1.length + 1 ≤ 100000 := by
        have h1 := layWays_adds (lay_adds l) next (rest.drop (j + 1)) ((lay l rest[j] next sj).1.length : Int) ((lay l rest[j] next sj).1 ++ [fork nj (lay l rest[j] next sj).2])
        rw [← hR2, List.length_append] at h1
        exact Nat.le_trans h1 HN.out
      have HR2 := Lib.hid hR2
      have HN3 := Lib.hid hlen3
      have HWr := Lib.hid hWr
      have HLk := Lib.hid hL
      have HRk := Lib.hid hmr
      have HS := Lib.hid (⟨hb, hg⟩ : _ ∧ _)
      clear f hc hL hmr hWr hR hR2 hlen3 hb hg hr'
      go_wp2_with (first
        | (go_at_call 35; refine (HT.out rest[j] _ m2 B pb vj sj next _ hm20 (by omega) HRk.out HLk.out (HWr.out.alloc HWr.out.size _) hB0 (two_size (Nat.le_trans hB HS.out.2.size)) (HS.out.1.box _) (Nat.le_trans (Nat.le_succ _) HN3.out)).mono ?_; rintro e w2 ⟨rfl, v2, hb2⟩; have HC := Lib.hid hb2; clear hb2)
        | (go_at_call 36; refine (add B pb v2 _ (fork nj (lay l rest[j] next sj).2) w2 HC.out.1 (Nat.le_trans (two_size (Nat.le_trans hB HS.out.2.size)) HC.out.2.size) (Nat.le_trans (Nat.le_succ _) HN3.out)).mono ?_; rintro e w3 ⟨rfl, v3, hb3⟩; have HD := Lib.hid hb3; clear hb3))
      go_light
      refine ⟨⟨j + 1, _, _, v3, by omega, rfl, rfl, HR2.out, HD.out.1, ((HS.out.2.trans (Grew.box pb wr vj _)).trans HC.out.2).trans HD.out.2⟩, by simp only [intOf]; omega⟩
    · have hge : ¬ (j : Int) < (rest.length : Int) := by omega
      have hfin : layWays (lay l) next rest (lay l k0 next sts).2 (lay l k0 next sts).1 = (sj, nj) := by rw [hR, List.drop_eq_nil_of_le (by omega), layWays]
      have HF := Lib.hid hfin
      have HS := Lib.hid (⟨hb, hg⟩ : _ ∧ _)
      clear hfin hR hb hg
      go_wp2_with fail
      go_ret
      rw [HF.out]
      exact ⟨rfl, vj, HS.out⟩
end Go.Proofs.Ytmnghdccikoaoaa.Mt
