/-
  LexBlanks, walked: the loops.
-/
import Derived.Test.YtefpkgdakihceaaDoorLxAc
import Derived.Handy
import Derived.BigQuiet
namespace Go.Proofs.YtefpkgdakihceaaDoor.Lx
open Go.RowKit

theorem Toks.shape {B : Nat} {w : World} {v : Value} {L : List Tk} (h : Toks B w v L) : ∃ oa oc, v = .slice oa L.length oc := by
  rcases h.2 with ⟨h1, h2⟩ | ⟨g, oc, cur, h1, _⟩
  · exact ⟨none, 0, by rw [h1, h2]⟩
  · exact ⟨_, _, h1⟩
theorem Toks.get {B : Nat} {w : World} {oa : Option Addr} {n oc j : Nat} {L : List Tk} {t : Tk} (h : Toks B w (.slice oa n oc) L) (hj : L[j]? = some t) : ∃ g, oa = some ⟨g, 0, none⟩ ∧ n = L.length ∧ L.length ≤ oc ∧ g < w.heap.size ∧ w.cell? ⟨g, j * 5, none⟩ = some (.int .u8 t.kind) ∧ w.cell? ⟨g, j * 5 + 1, none⟩ = some (.string t.says) := by
  have hlt := (List.getElem?_eq_some_iff.1 hj).1
  have h2 := h
  rcases h.2 with ⟨_, h0⟩ | ⟨g, oc', cur, h1, _, hg, hle, _⟩
  · omega
  · simp only [Value.slice.injEq] at h1
    obtain ⟨rfl, rfl, rfl⟩ := h1
    refine ⟨g, rfl, rfl, hle, (Array.getElem?_eq_some_iff.1 hg).1, ?_, ?_⟩
    · rw [h2.cellAt (j * 5) (by omega)]
      exact flatK_get L j t hj 0 _ rfl
    · rw [h2.cellAt (j * 5 + 1) (by omega)]
      exact flatK_get L j t hj 1 _ rfl
theorem Toks.snoc {B g cap : Nat} {w : World} {L : List Tk} {t : Tk} (h : w.ownsRow B 24 5 (.slice (some ⟨g, 0, none⟩) (L.length + 1) cap) (L.length + 1) (flatK L ++ t.cells)) : Toks B w (.slice (some ⟨g, 0, none⟩) (L.length + 1) cap) (L ++ [t]) := by
  show World.ownsRow _ _ _ _ _ _ _
  rw [List.length_append, flatK_append, show flatK [t] = t.cells from List.append_nil _]
  exact h
theorem BX.grown {n : Nat} {W W' : World} {row : Option Nat} {t1 : Int} {t2 : ByteArray} {l a e f1 f2 : Int} (h : BX n W t1 t2 l a e f1 f2) (hg : W.grownBy W' row) (h1 : some n ≠ row) (h2 : some (n + 1) ≠ row) : BX n W' t1 t2 l a e f1 f2 :=
  ⟨hg.cell h.a0 h1, hg.cell h.a1 h1, hg.cell h.a2 h1, hg.cell h.a3 h1, hg.cell h.a4 h1, hg.cell h.b0 h2, hg.cell h.b1 h2, Nat.le_trans h.size hg.size⟩
set_option maxHeartbeats 6400000 in
set_option maxRecDepth 100000 in
theorem lexBlanks (s : ByteArray) (m : Int) (w : World) (hz : 0 < w.heap.size) (hm : w.cell? ⟨0, 0, none⟩ = some (.int .i64 m)) (hs : s.size ≤ 281474976710656) :
    Calls Tryd.prog 5 #[.string s] w fun e w' => e = .returned (.bool true) ∧ Below w.heap.size w w' := by
  have hL := Live.refl hz hm
  obtain ⟨y, hy, hyr⟩ : ∃ y : ByteArray, y.size ≤ 1500 ∧ ((y = s ∧ s.size ≤ 1500) ∨ (y = s.extract 0 1500 ∧ 1500 < s.size)) := by
    by_cases c : 1500 < s.size
    · exact ⟨_, by rw [ByteArray.size_extract]; omega, .inr ⟨rfl, c⟩⟩
    · exact ⟨s, by omega, .inl ⟨rfl, by omega⟩⟩
  rcases hyr with ⟨hys, h1⟩ | ⟨hyq, h1⟩
  all_goals
    first
    | (obtain rfl := hys; have HY := Lib.hid (rfl : y = y))
    | (have HY := Lib.hid hyq; clear hyq; have hcd : decide ((1500 : Int) < (s.size : Int)) = true := decide_eq_true (by omega))
    go_enter Tryd.func5, Tryd.ntmps5
    go_wp2_with fail
    try rw [← HY.out]
    try rw [hcd]
    try clear hcd
    go_loopg [3, 4, 5, 6] 2000 (fun k l t x n wr => ∃ (L : List Tk) (fin : Nat), 2000 - L.length = k ∧ From y 0 L fin ∧ t = .string (pieces y L) ∧ x = .int .i64 (fin : Int) ∧ n = .int .i64 (L.length : Int) ∧ Live m w wr ∧ Toks w.heap.size wr l L)
    case atStart => exact ⟨[], 0, rfl, rfl, rfl, rfl, rfl, hL, ⟨rfl, .inl ⟨rfl, rfl⟩⟩⟩
    case round =>
      obtain ⟨L, fin, hk, hF, rfl, rfl, rfl, hLr, hT⟩ := hrel
      obtain ⟨hr1, hr2, hr3⟩ := From.rise (Nat.zero_le _) hF
      obtain ⟨oa, oc, rfl⟩ := hT.shape
      have HF := Lib.hid hF
      have HT := Lib.hid hT
      have HL := Lib.hid hLr
      have HR := Lib.hid (Live.refl (by have := hLr.b.size; omega) hLr.hm : Live m wr wr)
      clear hF hT hLr hL
      have hps := pass_le y fin hr2
      by_cases h0 : (tokR y (pass y fin) false).1 = 0
      · have hln : 1 ≤ lineN y (pass y fin) := by unfold lineN; rw [if_neg (by omega)]; omega
        have hN := told_fault (by omega) hr2 h0
        generalize lineN y (pass y fin) = lz at hln hN
        unfold zeroTok faultV at hN
        have HN := Lib.hid hN
        clear hN
        go_upto_region 3 with (first
          | (go_at_call 6; (with_reducible refine (next y fin false m wr _ HR.out (by omega) (by omega)).mono ?_); rintro e' w1 ⟨rfl, hL1⟩; rw [HN.out]))
        have HV1 := Lib.hid (show Below w1.heap.size w1 ((w1.alloc (.cells #[.int .u8 0, .string ⟨#[]⟩, .int .i64 0, .int .i64 0, .int .i64 0] 24)).alloc (.cells #[.int .i64 100, .int .i64 lz] 27)) from ((Below.refl _ w1).alloc (Nat.le_refl _) _).alloc (by simp) _)
        generalize hW0 : ((w1.alloc (.cells #[.int .u8 0, .string ⟨#[]⟩, .int .i64 0, .int .i64 0, .int .i64 0] 24)).alloc (.cells #[.int .i64 100, .int .i64 lz] 27)) = W0 at *
        have HLc := Lib.hid (HL.out.step (hL1.step HV1.out).b)
        have HTc := Lib.hid (HT.out.below (hL1.step HV1.out).b)
        have HA := Lib.hid (again HF.out (.inl h0))
        clear hL1 hW0 HV1
        go_loopg [5, 115] (L.length) (fun k x i wr => ∃ (j p : Nat), L.length - j = k ∧ j ≤ L.length ∧ i = .int .i64 (j : Int) ∧ x = .int .i64 (p : Int) ∧ Plays (pieces y L) p (L.drop j) ∧ Live m w wr ∧ Below W0.heap.size W0 wr)
        case atStart => exact ⟨0, 0, rfl, Nat.zero_le _, rfl, rfl, HA.out, HLc.out, Below.refl _ _⟩
        case round => 
          obtain ⟨j, p, hk2, hj, rfl, rfl, hP, hL2, hB2⟩ := hrel
          by_cases hjl : j < L.length
          · obtain ⟨t, htj⟩ : ∃ t, L[j]? = some t := ⟨_, List.getElem?_eq_getElem hjl⟩
            have hd : L.drop j = t :: L.drop (j + 1) := by rw [List.drop_eq_getElem_cons hjl, (List.getElem?_eq_some_iff.1 htj).2]
            rw [hd] at hP
            obtain ⟨e, hN2, hP2⟩ := hP.cons (by omega)
            have hple := hP.at_le
            generalize lineN (pieces y L) (pass (pieces y L) p) = lz2 at hN2
            generalize pass (pieces y L) p = a2 at hN2
            unfold faultV at hN2
            have HN2 := Lib.hid hN2
            have HP2 := Lib.hid hP2
            have HLr := Lib.hid hL2
            have HRr := Lib.hid (Live.refl (by have := hL2.b.size; omega) hL2.hm : Live m wr wr)
            have HTr := Lib.hid (HTc.out.below hB2)
            obtain ⟨g, hoa, _, hoc, hgl, c0, c1⟩ := HTr.out.get htj
            subst hoa
            clear hN2 hP2 hP hL2
            have hjl2 : (j : Int) < (L.length : Int) := by omega
            go_upto_region 32 with (first
              | (go_at_call 6; (with_reducible refine (next (pieces y L) p false m wr _ HRr.out (by omega) (by omega)).mono ?_); rintro e' w2 ⟨rfl, hL3⟩; rw [HN2.out]))
            have HN3 := Lib.hid (BX.new w2 t.kind t.says lz2 a2 e 0 0)
            have HV3 := Lib.hid (show Below w2.heap.size w2 ((w2.alloc (.cells #[.int .u8 t.kind, .string t.says, .int .i64 lz2, .int .i64 a2, .int .i64 e] 24)).alloc (.cells #[.int .i64 0, .int .i64 0] 27)) from ((Below.refl _ w2).alloc (Nat.le_refl _) _).alloc (by simp) _)
            generalize hV3 : ((w2.alloc (.cells #[.int .u8 t.kind, .string t.says, .int .i64 lz2, .int .i64 a2, .int .i64 e] 24)).alloc (.cells #[.int .i64 0, .int .i64 0] 27)) = V3 at *
            have HB3 := Lib.hid (hL3.step HV3.out).b
            have d0 := (HB3.out.cell (p := ⟨g, j * 5, none⟩) hgl).trans c0
            have d1 := (HB3.out.cell (p := ⟨g, j * 5 + 1, none⟩) hgl).trans c1
            clear hL3 hV3 c0 c1
            obtain ⟨x0, x1, x2, x3, x4, x5, x6, xz⟩ := HN3.out
            clear xz
            go_region
            go_wp2_with fail
            go_roundg (L.length - (j + 1))
            case measure => omega
            case rel => exact ⟨j + 1, e, rfl, hjl, rfl, rfl, HP2.out, HLr.out.step HB3.out.drew, hB2.trans (HB3.out.drew.mono hB2.size)⟩
          · obtain rfl : j = L.length := by omega
            rw [List.drop_length] at hP
            have hN2 := hP.nil (by omega)
            have hple := hP.at_le
            generalize lineN (pieces y L) (pieces y L).size = lz2 at hN2
            unfold faultV at hN2
            have HN2 := Lib.hid hN2
            have HLr := Lib.hid hL2
            have HRr := Lib.hid (Live.refl (by have := hL2.b.size; omega) hL2.hm : Live m wr wr)
            clear hN2 hP hL2
            go_upto_region 37 with (first
              | (go_at_call 6; (with_reducible refine (next (pieces y L) p false m wr _ HRr.out (by omega) (by omega)).mono ?_); rintro e' w2 ⟨rfl, hL3⟩; rw [HN2.out]))
            have HN3 := Lib.hid (BX.new w2 9 ⟨#[]⟩ lz2 (pieces y L).size (pieces y L).size 0 0)
            have HV3 := Lib.hid (show Below w2.heap.size w2 ((w2.alloc (.cells #[.int .u8 9, .string ⟨#[]⟩, .int .i64 lz2, .int .i64 (pieces y L).size, .int .i64 (pieces y L).size] 24)).alloc (.cells #[.int .i64 0, .int .i64 0] 27)) from ((Below.refl _ w2).alloc (Nat.le_refl _) _).alloc (by simp) _)
            generalize hV3 : ((w2.alloc (.cells #[.int .u8 9, .string ⟨#[]⟩, .int .i64 lz2, .int .i64 (pieces y L).size, .int .i64 (pieces y L).size] 24)).alloc (.cells #[.int .i64 0, .int .i64 0] 27)) = V3 at *
            have HB3 := Lib.hid (HLr.out.step (hL3.step HV3.out).b)
            clear hL3 hV3
            obtain ⟨x0, x1, x2, x3, x4, x5, x6, xz⟩ := HN3.out
            clear xz
            go_wp2_with (first
              | (go_at_call 10; (refine (awake m _ (by have := HB3.out.b.size; omega) HB3.out.hm).mono ?_); rintro e' w' ⟨rfl, hb3⟩))
            go_ret
            exact ⟨rfl, HB3.out.b.trans (hb3.mono HB3.out.b.size)⟩
      · have hN := told_more (by omega) hr2 h0
        obtain ⟨K, S, e, ht⟩ : ∃ K S e, tokR y (pass y fin) false = (K, S, e) := ⟨_, _, _, rfl⟩
        rw [ht] at h0 hN
        simp only at h0 hN
        unfold faultV at hN
        have hpl : pass y fin ≤ e ∧ e ≤ y.size ∧ (K = 9 → pass y fin = y.size ∧ e = y.size) := by
          by_cases h9 : K = 9
          · have hp9 := tok_nine (show pass y fin ≤ y.size by omega) (by rw [ht]; exact h9)
            rw [hp9, tok_past] at ht
            simp only [Prod.mk.injEq] at ht
            omega
          · have := tok_place (show pass y fin ≤ y.size by omega) ht h0 h9
            omega
        generalize ha : pass y fin = a at *
        obtain ⟨hae, hez, h9e⟩ := hpl
        have HN := Lib.hid hN
        have HT0 := Lib.hid ht
        have HPA := Lib.hid ha
        have H9E := Lib.hid h9e
        clear hN ht ha h9e
        go_upto_region 13 with (first
          | (go_at_call 6; (with_reducible refine (next y fin false m wr _ HR.out (by omega) (by omega)).mono ?_); rintro e' w1 ⟨rfl, hL1⟩; rw [HN.out]))
        have HB1 := Lib.hid (BX.new w1 K S (lineN y a) a e 0 0)
        have HV1 := Lib.hid (show Below w1.heap.size w1 ((w1.alloc (.cells #[.int .u8 K, .string S, .int .i64 (lineN y a), .int .i64 a, .int .i64 e] 24)).alloc (.cells #[.int .i64 0, .int .i64 0] 27)) from ((Below.refl _ w1).alloc (Nat.le_refl _) _).alloc (by simp) _)
        generalize hV1 : ((w1.alloc (.cells #[.int .u8 K, .string S, .int .i64 (lineN y a), .int .i64 a, .int .i64 e] 24)).alloc (.cells #[.int .i64 0, .int .i64 0] 27)) = V1 at *
        have HL1 := Lib.hid (hL1.step HV1.out)
        have HT1 := Lib.hid (HT.out.below HL1.out.b)
        have hwn : ∀ k, (Value.slice oa L.length oc).ownBlock = some k → k < w1.heap.size := fun k hk => by
          have := (HT.out.lt k hk).2
          have := hL1.b.size
          omega
        have HWn := Lib.hid hwn
        have hB1z : w.heap.size ≤ V1.heap.size := by have := HL.out.b.size; have := HL1.out.b.size; omega
        obtain ⟨x0, x1, x2, x3, x4, x5, x6, xz⟩ := HB1.out
        have HX0 := Lib.hid (⟨x0, x3, x4, xz⟩ : _ ∧ _ ∧ _ ∧ _)
        clear hL1 hV1 hwn
        have d1 : decide ((a : Int) < (fin : Int)) = false := decide_eq_false (by omega)
        have d2 : decide ((e : Int) < (a : Int)) = false := decide_eq_false (by omega)
        have d3 : decide ((y.size : Int) < (e : Int)) = false := decide_eq_false (by omega)
        go_quiet ((go_at_call 8; exact Calls.quiet_of_same ((line _ _ _ (by omega)).mono fun _ _ h => ⟨h.1, h.2.symm⟩)))
        clear d1 d2 d3 x0 x1 x2 x3 x4 x5 x6 xz HX0
        by_cases h9 : K = 9
        · have HLc := Lib.hid (HL.out.step (below_drewN HL1.out.b nq))
          have HTc := Lib.hid (HT.out.below (below_drewN HL1.out.b nq))
          have HA := Lib.hid (again HF.out (.inr (by rw [HPA.out, HT0.out]; exact h9)))
          have HB2 := Lib.hid (HB1.out.later (below_drewN (Below.refl _ _) nq))
          generalize hW0 : V1.drewN nq = W0 at *
          clear hW0
          subst h9
          obtain ⟨x0, x1, x2, x3, x4, x5, x6, xz⟩ := HB2.out
          go_wp2_with fail
          go_loopg [5, 115] (L.length) (fun k x i wr => ∃ (j p : Nat), L.length - j = k ∧ j ≤ L.length ∧ i = .int .i64 (j : Int) ∧ x = .int .i64 (p : Int) ∧ Plays (pieces y L) p (L.drop j) ∧ Live m w wr ∧ Below W0.heap.size W0 wr)
          case atStart => exact ⟨0, 0, rfl, Nat.zero_le _, rfl, rfl, HA.out, HLc.out, Below.refl _ _⟩
          case round => 
            obtain ⟨j, p, hk2, hj, rfl, rfl, hP, hL2, hB2⟩ := hrel
            by_cases hjl : j < L.length
            · obtain ⟨t, htj⟩ : ∃ t, L[j]? = some t := ⟨_, List.getElem?_eq_getElem hjl⟩
              have hd : L.drop j = t :: L.drop (j + 1) := by rw [List.drop_eq_getElem_cons hjl, (List.getElem?_eq_some_iff.1 htj).2]
              rw [hd] at hP
              obtain ⟨e, hN2, hP2⟩ := hP.cons (by omega)
              have hple := hP.at_le
              generalize lineN (pieces y L) (pass (pieces y L) p) = lz2 at hN2
              generalize pass (pieces y L) p = a2 at hN2
              unfold faultV at hN2
              have HN2 := Lib.hid hN2
              have HP2 := Lib.hid hP2
              have HLr := Lib.hid hL2
              have HRr := Lib.hid (Live.refl (by have := hL2.b.size; omega) hL2.hm : Live m wr wr)
              have HTr := Lib.hid (HTc.out.below hB2)
              obtain ⟨g, hoa, _, hoc, hgl, c0, c1⟩ := HTr.out.get htj
              subst hoa
              clear hN2 hP2 hP hL2
              have hjl2 : (j : Int) < (L.length : Int) := by omega
              go_upto_region 32 with (first
                | (go_at_call 6; (with_reducible refine (next (pieces y L) p false m wr _ HRr.out (by omega) (by omega)).mono ?_); rintro e' w2 ⟨rfl, hL3⟩; rw [HN2.out]))
              have HN3 := Lib.hid (BX.new w2 t.kind t.says lz2 a2 e 0 0)
              have HV3 := Lib.hid (show Below w2.heap.size w2 ((w2.alloc (.cells #[.int .u8 t.kind, .string t.says, .int .i64 lz2, .int .i64 a2, .int .i64 e] 24)).alloc (.cells #[.int .i64 0, .int .i64 0] 27)) from ((Below.refl _ w2).alloc (Nat.le_refl _) _).alloc (by simp) _)
              generalize hV3 : ((w2.alloc (.cells #[.int .u8 t.kind, .string t.says, .int .i64 lz2, .int .i64 a2, .int .i64 e] 24)).alloc (.cells #[.int .i64 0, .int .i64 0] 27)) = V3 at *
              have HB3 := Lib.hid (hL3.step HV3.out).b
              have d0 := (HB3.out.cell (p := ⟨g, j * 5, none⟩) hgl).trans c0
              have d1 := (HB3.out.cell (p := ⟨g, j * 5 + 1, none⟩) hgl).trans c1
              clear hL3 hV3 c0 c1
              obtain ⟨x0, x1, x2, x3, x4, x5, x6, xz⟩ := HN3.out
              clear xz
              go_region
              go_wp2_with fail
              go_roundg (L.length - (j + 1))
              case measure => omega
              case rel => exact ⟨j + 1, e, rfl, hjl, rfl, rfl, HP2.out, HLr.out.step HB3.out.drew, hB2.trans (HB3.out.drew.mono hB2.size)⟩
            · obtain rfl : j = L.length := by omega
              rw [List.drop_length] at hP
              have hN2 := hP.nil (by omega)
              have hple := hP.at_le
              generalize lineN (pieces y L) (pieces y L).size = lz2 at hN2
              unfold faultV at hN2
              have HN2 := Lib.hid hN2
              have HLr := Lib.hid hL2
              have HRr := Lib.hid (Live.refl (by have := hL2.b.size; omega) hL2.hm : Live m wr wr)
              clear hN2 hP hL2
              go_upto_region 37 with (first
                | (go_at_call 6; (with_reducible refine (next (pieces y L) p false m wr _ HRr.out (by omega) (by omega)).mono ?_); rintro e' w2 ⟨rfl, hL3⟩; rw [HN2.out]))
              have HN3 := Lib.hid (BX.new w2 9 ⟨#[]⟩ lz2 (pieces y L).size (pieces y L).size 0 0)
              have HV3 := Lib.hid (show Below w2.heap.size w2 ((w2.alloc (.cells #[.int .u8 9, .string ⟨#[]⟩, .int .i64 lz2, .int .i64 (pieces y L).size, .int .i64 (pieces y L).size] 24)).alloc (.cells #[.int .i64 0, .int .i64 0] 27)) from ((Below.refl _ w2).alloc (Nat.le_refl _) _).alloc (by simp) _)
              generalize hV3 : ((w2.alloc (.cells #[.int .u8 9, .string ⟨#[]⟩, .int .i64 lz2, .int .i64 (pieces y L).size, .int .i64 (pieces y L).size] 24)).alloc (.cells #[.int .i64 0, .int .i64 0] 27)) = V3 at *
              have HB3 := Lib.hid (HLr.out.step (hL3.step HV3.out).b)
              clear hL3 hV3
              obtain ⟨x0, x1, x2, x3, x4, x5, x6, xz⟩ := HN3.out
              clear xz
              go_wp2_with (first
                | (go_at_call 10; (refine (awake m _ (by have := HB3.out.b.size; omega) HB3.out.hm).mono ?_); rintro e' w' ⟨rfl, hb3⟩))
              go_ret
              exact ⟨rfl, HB3.out.b.trans (hb3.mono HB3.out.b.size)⟩
        · obtain ⟨hlt, _, hS8, h5, h8⟩ := tok_place (show a ≤ y.size by omega) HT0.out h0 h9
          have HF2 := Lib.hid (From.snoc (t := ⟨K, S, lineN y a, a, e⟩) HF.out HPA.out.symm HT0.out h0 h9)
          have HP2 := Lib.hid (pieces_snoc y ⟨K, S, lineN y a, a, e⟩ L)
          have HB2 := Lib.hid (HB1.out.later (below_drewN (Below.refl _ _) nq))
          have HL2 := Lib.hid (HL.out.step (below_drewN HL1.out.b nq))
          have HT2 := Lib.hid (HT.out.below (below_drewN HL1.out.b nq))
          clear hS8 h5 h8
          generalize hV2 : V1.drewN nq = V2 at *
          clear hV2
          obtain ⟨i, z, hi, hz', hsz, hby, hzs⟩ := token_info
          have HI := Lib.hid (⟨hi, hz', hsz, hby, hzs⟩ : _ ∧ _ ∧ _ ∧ _ ∧ _)
          clear hi hz' hsz hby hzs
          obtain ⟨x0, x1, x2, x3, x4, x5, x6, xz⟩ := HB2.out
          have hne1 : some w1.heap.size ≠ (Value.slice oa L.length oc).ownBlock := fun e => by have := HWn.out _ e.symm; omega
          have hne2 : some (w1.heap.size + 1) ≠ (Value.slice oa L.length oc).ownBlock := fun e => by have := HWn.out _ e.symm; omega
          have HNE := Lib.hid (⟨hne1, hne2⟩ : _ ∧ _)
          clear hne1 hne2
          go_upto_region 21 with (at_builtin; refine wpList_append_lies _ rfl (.tmp 77) (.tmp 79) 35 rfl w.heap.size 24 i z 5 48 Tryd.underlying35 HI.out.1 HI.out.2.1 HI.out.2.2.1 HI.out.2.2.2.1 HI.out.2.2.2.2 (by decide) (.slice oa L.length oc) L.length (flatK L) rfl (HT2.out.alloc _) ⟨V2.heap.size, 0, none⟩ 1 1 (Tk.cells ⟨K, S, lineN y a, a, e⟩) rfl rfl (World.news_of_block (heap_alloc_new V2 _)) (Tk.one _) (by decide) (by unfold maxLen; omega) (by omega) (Nat.le_trans HL2.out.b.size ((Below.refl _ V2).alloc (Nat.le_refl _) _).size) _ rfl ?_; intro g cap1 w3 hown hgrow hat hlt3; have HO := Lib.hid (⟨Toks.snoc hown, (HL2.out.step ((Below.refl _ V2).alloc (Nat.le_refl _) _)).b.grown hgrow (Nat.le_trans HL2.out.b.size ((Below.refl _ V2).alloc (Nat.le_refl _) _).size) (fun k hk => (HT2.out.lt k hk).1), (HB2.out.later ((Below.refl _ V2).alloc (Nat.le_refl _) _)).grown hgrow HNE.out.1 HNE.out.2⟩ : _ ∧ _ ∧ _); clear hown hgrow hat hlt3)
          clear x0 x1 x2 x3 x4 x5 x6 xz
          obtain ⟨x0, x1, x2, x3, x4, x5, x6, xz⟩ := HO.out.2.2
          have HPZ := Lib.hid HP2.out
          unfold piece at HPZ
          by_cases c8 : K = 8
          · have HQ := Lib.hid HPZ.out
            go_wp2_with fail
            go_roundg (1999 - L.length)
            case measure => omega
            case rel => exact ⟨L ++ [⟨K, S, lineN y a, a, e⟩], e, by rw [List.length_append, List.length_singleton]; omega, HF2.out, by rw [HPZ.out, if_pos c8]; rfl, rfl, by rw [List.length_append, List.length_singleton]; rfl, ⟨HO.out.2.1, HL.out.z, HL.out.m⟩, HO.out.1⟩
          · by_cases c5 : K = 5
            · go_wp2_with fail
              go_roundg (1999 - L.length)
              case measure => omega
              case rel => exact ⟨L ++ [⟨K, S, lineN y a, a, e⟩], e, by rw [List.length_append, List.length_singleton]; omega, HF2.out, by rw [HPZ.out, if_neg c8, if_pos c5]; rfl, rfl, by rw [List.length_append, List.length_singleton]; rfl, ⟨HO.out.2.1, HL.out.z, HL.out.m⟩, HO.out.1⟩
            · go_wp2_with fail
              go_roundg (1999 - L.length)
              case measure => omega
              case rel => exact ⟨L ++ [⟨K, S, lineN y a, a, e⟩], e, by rw [List.length_append, List.length_singleton]; omega, HF2.out, by rw [HPZ.out, if_neg c8, if_neg c5]; rfl, rfl, by rw [List.length_append, List.length_singleton]; rfl, ⟨HO.out.2.1, HL.out.z, HL.out.m⟩, HO.out.1⟩
end Go.Proofs.YtefpkgdakihceaaDoor.Lx
