/-
  Package match: a kid that is taken several times (times).
-/
import Derived.Test.YtmnghdccikoaoaaMtD
namespace Go.Proofs.Ytmnghdccikoaoaa.Mt
open Go.RowKit Go.Proofs.Ytmnghdccikoaoaa.Sh

theorem Bld.box {w : World} {B pb : Nat} {v : Value} {sts : List St} (h : Bld w B pb v sts) (o : Obj) : Bld (w.alloc o) B pb v sts := h.below ((Below.refl _ _).alloc (Nat.le_refl _) _)
theorem Grew.box (pb : Nat) (w : World) (v : Value) (o : Obj) : Grew pb w v (w.alloc o) v := .of_below v ((Below.refl _ w).alloc (Nat.le_refl _) _)
/- The tree lies in every later world. -/
theorem later_tree {W0 w w' : World} {B pb : Nat} {v v' : Value} {sts : List St} {o : Obj} (hW : Below W0.heap.size W0 w) (hB0 : W0.heap.size ≤ B) (hb : Bld w B pb v sts) (h : Grew pb (w.alloc o) v w' v') : Below W0.heap.size W0 w' :=
  hW.trans (((Below.refl _ w).alloc (Nat.le_refl _) o).mono hW.size |>.trans (h.below (hb.box o) hB0 (Nat.le_trans hW.size (two_size (Nat.le_refl _)))))
theorem later_size {w w' : World} {B pb : Nat} {v v' : Value} {o : Obj} (hB : B ≤ w.heap.size) (h : Grew pb (w.alloc o) v w' v') : B ≤ w'.heap.size := Nat.le_trans (two_size hB) h.size

set_option maxRecDepth 100000 in
theorem timesMany {W0 : World} {l : Nat} (ht : TreeOk W0 l) (r : Re) (cs : List Value) (n : Int) (B pb : Nat) (v : Value) (sts : List St) (next : Int) (la : Nat) (w : World)
    (h0 : 0 ≤ n) (hn : n ≤ 10000) (hr : (rightG l r n).1 = true) (hL : Lies W0 r cs) (hW : Below W0.heap.size W0 w) (hB0 : W0.heap.size ≤ B) (hB : B ≤ w.heap.size) (hb : Bld w B pb v sts) (hla : la ≤ 255) (hlen : (layTimes (lay l r) la (-1) next sts).1.length ≤ 100000) :
    Calls Try.prog 52 #[.pointer (some ⟨pb, 0, none⟩), .agg ⟨cs⟩, .int .i64 la, .int .i64 (-1), .int .i64 next] w
      fun e w' => e = .returned (.int .i64 (layTimes (lay l r) la (-1) next sts).2) ∧ ∃ v', Bld w' B pb v' (layTimes (lay l r) la (-1) next sts).1 ∧ Grew pb w v w' v' := by
  obtain ⟨k, s0, s1, s2, s3, a, b, kids, sl, cap, hr', rfl, _, _⟩ := hL.open
  have HB := Lib.hid hb
  have HW := Lib.hid hW
  have HL := Lib.hid hL
  have HR := Lib.hid hr
  have HT := Lib.hid ht
  cases la with
  | zero =>
    have e : layTimes (lay l r) (0 : Nat) (-1) next sts = ((layLoop (lay l r) next sts).1, (layLoop (lay l r) next sts).2.1) := rfl
    rw [e] at hlen ⊢
    have HN := Lib.hid hlen
    clear hb hW hL hr ht hr' e hlen
    go_enter Try.func52, Try.ntmps52
    go_wp2_with (go_at_call 66; refine (loop HT.out r _ n B pb v sts next _ h0 hn HR.out HL.out (HW.out.alloc HW.out.size _) hB0 (two_size hB) (HB.out.box _) HN.out).mono ?_; rintro e w2 ⟨rfl, v2, hb2⟩; have HC := Lib.hid hb2; clear hb2)
    go_ret
    exact ⟨rfl, v2, HC.out.1, (Grew.box pb w v _).trans HC.out.2⟩
  | succ lb =>
    have e : layTimes (lay l r) ((lb + 1 : Nat) : Int) (-1) next sts = layRow (lay l r) lb (layLoop (lay l r) next sts).2.2 (layLoop (lay l r) next sts).1 := by
      unfold layTimes
      rw [if_pos (by omega)]
      simp only
      rw [if_neg (by omega)]
      rfl
    rw [e] at hlen ⊢
    have hlen2 : (layLoop (lay l r) next sts).1.length ≤ 100000 := Nat.le_trans (layRow_adds (lay_adds l r) lb _ _) hlen
    have HN := Lib.hid hlen
    have HN2 := Lib.hid hlen2
    clear hb hW hL hr ht hr' e hlen hlen2
    go_enter Try.func52, Try.ntmps52
    go_wp2_with (first
      | (go_at_call 66; refine (loop HT.out r _ n B pb v sts next _ h0 hn HR.out HL.out (HW.out.alloc HW.out.size _) hB0 (two_size hB) (HB.out.box _) HN2.out).mono ?_; rintro e w2 ⟨rfl, v2, hb2, hg2⟩; have f := hg2.boxed HB.out; have f0 := f 0 _ rfl; have f1 := f 1 _ rfl; have f2 := f 2 _ rfl; have f3 := f 3 _ rfl; have f4 := f 4 _ rfl; have f5 := f 5 _ rfl; have f6 := f 6 _ rfl; have f7 := f 7 _ rfl; have HC := Lib.hid (⟨hb2, hg2⟩ : _ ∧ _); clear f hb2 hg2)
      | (go_at_call 67; refine (row HT.out r _ n B pb v2 _ _ lb w2 h0 hn HR.out HL.out (later_tree HW.out hB0 HB.out HC.out.2) hB0 (later_size hB HC.out.2) HC.out.1 (by omega) HN.out).mono ?_; rintro e w3 ⟨rfl, v3, hb3⟩; have HD := Lib.hid hb3; clear hb3))
    go_ret
    exact ⟨rfl, v3, HD.out.1, ((Grew.box pb w v _).trans HC.out.2).trans HD.out.2⟩

set_option maxRecDepth 100000 in
theorem timesSome {W0 : World} {l : Nat} (ht : TreeOk W0 l) (r : Re) (cs : List Value) (n : Int) (B pb : Nat) (v : Value) (sts : List St) (next : Int) (la d : Nat) (w : World)
    (h0 : 0 ≤ n) (hn : n ≤ 10000) (hr : (rightG l r n).1 = true) (hL : Lies W0 r cs) (hW : Below W0.heap.size W0 w) (hB0 : W0.heap.size ≤ B) (hB : B ≤ w.heap.size) (hb : Bld w B pb v sts) (hla : la + d ≤ 255) (hlen : (layTimes (lay l r) la ((la : Int) + d) next sts).1.length ≤ 100000) :
    Calls Try.prog 52 #[.pointer (some ⟨pb, 0, none⟩), .agg ⟨cs⟩, .int .i64 la, .int .i64 ((la : Int) + d), .int .i64 next] w
      fun e w' => e = .returned (.int .i64 (layTimes (lay l r) la ((la : Int) + d) next sts).2) ∧ ∃ v', Bld w' B pb v' (layTimes (lay l r) la ((la : Int) + d) next sts).1 ∧ Grew pb w v w' v' := by
  obtain ⟨k, s0, s1, s2, s3, a, b, kids, sl, cap, hr', rfl, _, _⟩ := hL.open
  have e : layTimes (lay l r) la ((la : Int) + d) next sts = layRow (lay l r) la (layMay (lay l r) next d next sts).2 (layMay (lay l r) next d next sts).1 := by
    unfold layTimes
    rw [if_neg (by omega)]
    have e1 : ((la : Int) + d - la).toNat = d := by omega
    have e2 : (la : Int).toNat = la := by omega
    rw [e1, e2]
  rw [e] at hlen ⊢
  have hlen2 : (layMay (lay l r) next d next sts).1.length ≤ 100000 := Nat.le_trans (layRow_adds (lay_adds l r) la _ _) hlen
  have hneg : ¬ ((la : Int) + d < 0) := by omega
  have hsub : (la : Int) + d - la = d := by omega
  have HB := Lib.hid hb
  have HW := Lib.hid hW
  have HL := Lib.hid hL
  have HR := Lib.hid hr
  have HT := Lib.hid ht
  have HN := Lib.hid hlen
  have HN2 := Lib.hid hlen2
  clear hb hW hL hr ht hlen hlen2 hr' e
  go_enter Try.func52, Try.ntmps52
  go_wp2_with fail
  go_loopw [36, 13] (fun i x wr => ∃ (j : Nat) (nj : Int) (sj : List St) (vj : Value), j ≤ d ∧ i = .int .i64 j ∧ x = .int .i64 nj ∧ layMay (lay l r) next d next sts = layMay (lay l r) next (d - j) nj sj ∧ Bld wr B pb vj sj ∧
      Grew pb (w.alloc (.cells ⟨[.int .u8 k, .int .u64 s0, .int .u64 s1, .int .u64 s2, .int .u64 s3, .int .i64 a, .int .i64 b, .slice sl kids.length cap]⟩ 34)) v wr vj) (fun i _ _ => d - (intOf i).toNat)
  case atStart => exact ⟨0, next, sts, v, Nat.zero_le _, rfl, rfl, rfl, HB.out.box _, Grew.refl _ _ _⟩
  case round =>
    obtain ⟨j, nj, sj, vj, hj, rfl, rfl, hR, hb, hg⟩ := hrel
    have f := hg.boxed HB.out
    have f0 := f 0 _ rfl
    have f1 := f 1 _ rfl
    have f2 := f 2 _ rfl
    have f3 := f 3 _ rfl
    have f4 := f 4 _ rfl
    have f5 := f 5 _ rfl
    have f6 := f 6 _ rfl
    have f7 := f 7 _ rfl
    have HS := Lib.hid (⟨hR, hb, hg⟩ : _ ∧ _ ∧ _)
    clear f hR hb hg
    by_cases hlt : j < d
    · have hlt' : (j : Int) < (d : Int) := by omega
      obtain ⟨m, hm⟩ : ∃ m, d - j = m + 1 := ⟨d - j - 1, by omega⟩
      have hR2 : layMay (lay l r) next d next sts = layMay (lay l r) next m ((lay l r nj sj).1.length : Int) ((lay l r nj sj).1 ++ [fork (lay l r nj sj).2 next]) := by rw [HS.out.1, hm, layMay]
      have HR2 := Lib.hid hR2
      have hlen3 : (lay l r nj sj).1.length + 1 ≤ 100000 := by
        have h1 := layMay_adds (lay_adds l r) next m ((lay l r nj sj).1.length : Int) ((lay l r nj sj).1 ++ [fork (lay l r nj sj).2 next])
        rw [← hR2, List.length_append] at h1
        exact Nat.le_trans h1 HN2.out
      have HN3 := Lib.hid hlen3
      clear hR2 hlen3
      go_wp2_with (first
        | (go_at_call 35; refine (HT.out r _ n B pb vj sj nj wr h0 hn HR.out HL.out (later_tree HW.out hB0 HB.out HS.out.2.2) hB0 (later_size hB HS.out.2.2) HS.out.2.1 (Nat.le_trans (Nat.le_succ _) HN3.out)).mono ?_; rintro e w2 ⟨rfl, v2, hb2⟩; have HC := Lib.hid hb2; clear hb2)
        | (go_at_call 36; refine (add B pb v2 _ (fork (lay l r nj sj).2 next) w2 HC.out.1 (Nat.le_trans (later_size hB HS.out.2.2) HC.out.2.size) (Nat.le_trans (Nat.le_succ _) HN3.out)).mono ?_; rintro e w3 ⟨rfl, v3, hb3⟩; have HD := Lib.hid hb3; clear hb3))
      go_light
      refine ⟨⟨j + 1, _, _, v3, by omega, rfl, rfl, ?_, HD.out.1, (HS.out.2.2.trans HC.out.2).trans HD.out.2⟩, by simp only [intOf]; omega⟩
      rw [HR2.out]
      congr 1
      omega
    · have hge : ¬ (j : Int) < (d : Int) := by omega
      have hz : d - j = 0 := by omega
      have hfin : layMay (lay l r) next d next sts = (sj, nj) := by rw [HS.out.1, hz, layMay]
      have HF := Lib.hid hfin
      have HN4 := Lib.hid (show (layRow (lay l r) la nj sj).1.length ≤ 100000 by have := HN.out; rw [hfin] at this; exact this)
      clear hfin
      go_wp2_with (go_at_call 67; refine (row HT.out r _ n B pb vj sj nj la wr h0 hn HR.out HL.out (later_tree HW.out hB0 HB.out HS.out.2.2) hB0 (later_size hB HS.out.2.2) HS.out.2.1 (by omega) HN4.out).mono ?_; rintro e w3 ⟨rfl, v3, hb3⟩; have HD := Lib.hid hb3; clear hb3)
      go_ret
      rw [HF.out]
      exact ⟨rfl, v3, HD.out.1, ((Grew.box pb w v _).trans HS.out.2.2).trans HD.out.2⟩
end Go.Proofs.Ytmnghdccikoaoaa.Mt
