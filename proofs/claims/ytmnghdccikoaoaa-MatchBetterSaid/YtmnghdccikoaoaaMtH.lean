/-
  Package match: the states of a tree (tree): one behind the other, ways, times; all trees.
-/
import Derived.Test.YtmnghdccikoaoaaMtG
namespace Go.Proofs.Ytmnghdccikoaoaa.Mt
open Go.RowKit Go.Proofs.Ytmnghdccikoaoaa.Sh

set_option maxRecDepth 100000 in
theorem tree_cat {W0 : World} {l : Nat} (ht : TreeOk W0 l) {s0 s1 s2 s3 a b : Int} {kids : List Re} {lb o cap : Nat} {n : Int} {B pb : Nat} {v : Value} {sts : List St} {next : Int} {w : World}
    (h0 : 0 ≤ n) (hn : n ≤ 10000) (hk : Kids W0 l n lb o kids) (h2 : 2 ≤ kids.length) (hkl : kids.length ≤ 10000) (hW : Below W0.heap.size W0 w) (hB0 : W0.heap.size ≤ B) (hB : B ≤ w.heap.size) (hb : Bld w B pb v sts) (hlen : (layCat (lay l) kids next sts).1.length ≤ 100000) :
    Calls Try.prog 35 #[.pointer (some ⟨pb, 0, none⟩), .agg ⟨[.int .u8 5, .int .u64 s0, .int .u64 s1, .int .u64 s2, .int .u64 s3, .int .i64 a, .int .i64 b, .slice (some ⟨lb, o, none⟩) kids.length cap]⟩, .int .i64 next] w
      fun e w' => e = .returned (.int .i64 (layCat (lay l) kids next sts).2) ∧ ∃ v', Bld w' B pb v' (layCat (lay l) kids next sts).1 ∧ Grew pb w v w' v' := by
  have HB := Lib.hid hb
  have HW := Lib.hid hW
  have HT := Lib.hid ht
  have HN := Lib.hid hlen
  have HK := Lib.hid hk
  clear hb hW ht hlen hk
  go_enter Try.func35, Try.ntmps35
  go_wp2_with fail
  go_loopw [7, 2] (fun i x wr => ∃ (j : Nat) (nj : Int) (sj : List St) (vj : Value), j ≤ kids.length ∧ i = .int .i64 ((j : Int) - 1) ∧ x = .int .i64 nj ∧ layCat (lay l) (kids.drop j) next sts = (sj, nj) ∧ Bld wr B pb vj sj ∧
      Grew pb (w.alloc (.cells ⟨[.int .u8 5, .int .u64 s0, .int .u64 s1, .int .u64 s2, .int .u64 s3, .int .i64 a, .int .i64 b, .slice (some ⟨lb, o, none⟩) kids.length cap]⟩ 34)) v wr vj) (fun i _ _ => (intOf i + 1).toNat)
  case atStart => exact ⟨kids.length, next, sts, v, Nat.le_refl _, rfl, rfl, by rw [List.drop_length, layCat], HB.out.box _, Grew.refl _ _ _⟩
  case round =>
    obtain ⟨j, nj, sj, vj, hj, hi, rfl, hR, hb, hg⟩ := hrel
    have c7 := hg.boxed HB.out 7 _ rfl
    cases j with
    | zero =>
      have e0 : (((0 : Nat) : Int) - 1) = -1 := rfl
      rw [e0] at hi
      subst hi
      rw [List.drop_zero] at hR
      have HF := Lib.hid hR
      have HS := Lib.hid (⟨hb, hg⟩ : _ ∧ _)
      clear hR hb hg
      go_wp2_with fail
      go_ret
      rw [HF.out]
      exact ⟨rfl, vj, HS.out.1, (Grew.box _ _ _ _).trans HS.out.2⟩
    | succ m =>
      have e0 : (((m + 1 : Nat) : Int) - 1) = (m : Int) := by omega
      rw [e0] at hi
      subst hi
      have hlt : m < kids.length := by omega
      have hlt' : (m : Int) < (kids.length : Int) := by omega
      have hge' : (m : Int) ≥ 0 := by omega
      obtain ⟨ks, m2, hc, hL, hm20, hm21, hmr⟩ := HK.out m _ (List.getElem?_eq_getElem hlt)
      obtain ⟨k', s0', s1', s2', s3', a', b', kids', sl', cap2, hr', rfl, _, _⟩ := hL.open
      have hWr : Below W0.heap.size W0 wr := later_tree HW.out hB0 HB.out hg
      have f : ∀ jj v, [Value.int .u8 k', .int .u64 s0', .int .u64 s1', .int .u64 s2', .int .u64 s3', .int .i64 a', .int .i64 b', .slice sl' kids'.length cap2][jj]? = some v → wr.cell? ⟨lb, o + m * 8 + jj, none⟩ = some v := fun jj v h => (hWr.cell (cell_lt (hc jj v h))).trans (hc jj v h)
      have g0 : wr.cell? ⟨lb, o + m * 8, none⟩ = some (.int .u8 k') := f 0 _ rfl
      have g1 := f 1 _ rfl
      have g2 := f 2 _ rfl
      have g3 := f 3 _ rfl
      have g4 := f 4 _ rfl
      have g5 := f 5 _ rfl
      have g6 := f 6 _ rfl
      have g7 := f 7 _ rfl
      have hR2 : layCat (lay l) (kids.drop m) next sts = lay l kids[m] nj sj := by
        rw [List.drop_eq_getElem_cons hlt, layCat, hR]
      have hlen3 : (lay l kids[m] nj sj).1.length ≤ 100000 := by
        have h1 := HN.out
        have e := layCat_append (lay l) next sts (kids.take m) (kids.drop m)
        rw [List.take_append_drop, hR2] at e
        rw [e] at h1
        exact Nat.le_trans (layCat_adds (lay_adds l) _ _ _) h1
      have HR2 := Lib.hid hR2
      have HN3 := Lib.hid hlen3
      have HWr := Lib.hid hWr
      have HLk := Lib.hid hL
      have HRk := Lib.hid hmr
      have HS := Lib.hid (⟨hb, hg⟩ : _ ∧ _)
      clear f hc hL hmr hWr hR hR2 hlen3 hb hg hr'
      go_wp2_with (go_at_call 35; refine (HT.out kids[m] _ m2 B pb vj sj nj wr hm20 (by omega) HRk.out HLk.out HWr.out hB0 (later_size hB HS.out.2) HS.out.1 HN3.out).mono ?_; rintro e w2 ⟨rfl, v2, hb2⟩; have HC := Lib.hid hb2; clear hb2)
      go_light
      refine ⟨⟨m, _, _, v2, by omega, rfl, rfl, HR2.out, HC.out.1, HS.out.2.trans HC.out.2⟩, by simp only [intOf]; omega⟩

set_option maxRecDepth 100000 in
theorem tree_alt {W0 : World} {l : Nat} (ht : TreeOk W0 l) {s0 s1 s2 s3 a b : Int} {k0 : Re} {rest : List Re} {lb o cap : Nat} {n : Int} {B pb : Nat} {v : Value} {sts : List St} {next : Int} {w : World}
    (h0 : 0 ≤ n) (hn : n ≤ 10000) (hk : Kids W0 l n lb o (k0 :: rest)) (h2 : 1 ≤ rest.length) (hkl : rest.length ≤ 10000) (hcap : rest.length + 1 ≤ cap) (hW : Below W0.heap.size W0 w) (hB0 : W0.heap.size ≤ B) (hB : B ≤ w.heap.size) (hb : Bld w B pb v sts) (hlen : (layAlt (lay l) (k0 :: rest) next sts).1.length ≤ 100000) :
    Calls Try.prog 35 #[.pointer (some ⟨pb, 0, none⟩), .agg ⟨[.int .u8 6, .int .u64 s0, .int .u64 s1, .int .u64 s2, .int .u64 s3, .int .i64 a, .int .i64 b, .slice (some ⟨lb, o, none⟩) (rest.length + 1) cap]⟩, .int .i64 next] w
      fun e w' => e = .returned (.int .i64 (layAlt (lay l) (k0 :: rest) next sts).2) ∧ ∃ v', Bld w' B pb v' (layAlt (lay l) (k0 :: rest) next sts).1 ∧ Grew pb w v w' v' := by
  have HB := Lib.hid hb
  have HW := Lib.hid hW
  have HT := Lib.hid ht
  have HN := Lib.hid hlen
  have HK := Lib.hid hk
  clear hb hW ht hlen hk
  go_enter Try.func35, Try.ntmps35
  go_wp2_with (go_at_call 51; refine (ways HT.out k0 rest lb o cap n B pb v sts next _ h0 hn HK.out hcap h2 hkl (HW.out.alloc HW.out.size _) hB0 (two_size hB) (HB.out.box _) HN.out).mono ?_; rintro e w2 ⟨rfl, v2, hb2⟩; have HC := Lib.hid hb2; clear hb2)
  go_ret
  exact ⟨rfl, v2, HC.out.1, (Grew.box _ _ _ _).trans HC.out.2⟩
end Go.Proofs.Ytmnghdccikoaoaa.Mt
