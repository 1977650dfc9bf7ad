/-
  ArraysPlays: an array and the document's list are the same.
-/
import Derived.Test.YtlagnklmfanmoaaArY
namespace Go.Proofs.Ytlagnklmfanmoaa.Ar
open Go.RowKit Go.Maps

theorem once_nodup : ∀ rs : List Row, Once rs → (keysL (live rs)).Nodup
  | [], _ => List.nodup_nil
  | x :: l, h => by
    have ih := once_nodup l h.tail
    rw [live_cons]
    cases hx : x.there
    · exact ih
    · rw [if_pos rfl]
      refine List.nodup_cons.2 ⟨fun hm => ?_, ih⟩
      obtain ⟨p, hp, e⟩ := List.mem_map.1 hm
      exact h.head hx p hp e
theorem Arr.nodup {w : World} {a N : Nat} {F : Nat → Prop} {L : List KV} (h : Arr w a N F L) : (keysL L).Nodup := by
  obtain ⟨rs, h1, rfl, _⟩ := h.once
  exact once_nodup rs h1
theorem Arr.small {w : World} {a N : Nat} {F : Nat → Prop} {L : List KV} (h : Arr w a N F L) : ∀ p ∈ L, p.1.size ≤ 1000000 := by
  obtain ⟨rs, _, rfl, _, h2⟩ := h.once
  intro p hp
  obtain ⟨r, hr, _, rfl⟩ := mem_live.1 hp
  exact h2 r hr

set_option maxHeartbeats 1600000 in
set_option maxRecDepth 100000 in
theorem same {w : World} {a N B : Nat} {F : Nat → Prop} {L : List KV} {v : Value} (s : ByteArray) (hA : Arr w a N F L) (hI : Items B w v L) (hs : s.size ≤ 1000000) (hN : N ≤ 100000) :
    Calls Try.prog 24 #[.pointer (some ⟨a, 0, none⟩), v, .string s] w fun e w' => e = .returned (.bool true) ∧ Below w.heap.size w w' := by
  obtain ⟨oa, ca, rfl, _⟩ := hI.shape
  have hlen := hA.length
  have hkl : (keysL L).length = L.length := List.length_map _
  have H := Lib.hid (⟨hA, hI, hA.nodup, hA.small⟩ : _ ∧ _ ∧ _ ∧ _)
  clear hA hI
  go_enter Try.func24, Try.ntmps24
  go_upto_region 2 with (go_at_call 12; refine (keys H.out.1 (by omega)).mono ?_; rintro e w1 ⟨u, rfl, hT1, hb1⟩; obtain ⟨ou, cu, rfl, _, _⟩ := hT1.strs.shape; rw [hkl] at hT1 ⊢; have H1 := Lib.hid (⟨hT1, hb1, H.out.1.below hb1, H.out.2.1.below hb1⟩ : _ ∧ _ ∧ _ ∧ _); clear hT1 hb1)
  clear hkl
  go_wp2_with (go_at_call 16; refine (len H1.out.2.2.1).mono ?_; rintro e w5 ⟨rfl, hw5⟩; obtain rfl := hw5.symm; clear hw5)
  go_loopg [8] L.length (fun k i wr => ∃ j, L.length - j = k ∧ j ≤ L.length ∧ i = .int .i64 (j : Int) ∧ Below w1.heap.size w1 wr)
  case atStart => exact ⟨0, rfl, Nat.zero_le _, rfl, Below.refl _ _⟩
  case round =>
    obtain ⟨j, hk, hj, rfl, hb⟩ := hrel
    have HB := Lib.hid hb
    clear hb
    by_cases hlt : j < L.length
    · have hlt' : (j : Int) < (L.length : Int) := by omega
      obtain ⟨p, hp⟩ : ∃ p, L[j]? = some p := ⟨_, List.getElem?_eq_getElem hlt⟩
      have hpm := List.mem_of_getElem? hp
      have hps := H.out.2.2.2 p hpm
      obtain ⟨g, rfl, c0, c1, c2, c3⟩ := (H1.out.2.2.2.below HB.out).at hp
      have hkj : (keysL L)[j]? = some p.1 := by rw [keysL, List.getElem?_map, hp]; rfl
      have hT2 : Txts w.heap.size wr (.slice ou L.length cu) (keysL L) := Txts.below H1.out.1 HB.out
      obtain ⟨au, rfl, k0⟩ := hT2.at hkj
      have hcell := get_at L j p p.1 H.out.2.2.1 hp rfl
      have hhas : hasL L p.1 = true := mem_hasL.2 ⟨p, hpm, rfl⟩
      have HC := Lib.hid (⟨hcell, hhas⟩ : _ ∧ _)
      clear hp hpm hkj hT2 hcell hhas
      go_upto_region 8 with (go_at_call 13; refine (peek p.1 (H1.out.2.2.1.below HB.out) hps).mono ?_; rintro e wA ⟨rfl, hbA⟩; rw [HC.out.1, HC.out.2]; simp only [Cell.cells]; have m0 := (hbA.cell (cell_lt c0)).trans c0; have m1 := (hbA.cell (cell_lt c1)).trans c1; have m2 := (hbA.cell (cell_lt c2)).trans c2; have m3 := (hbA.cell (cell_lt c3)).trans c3; have mk := (hbA.cell (cell_lt k0)).trans k0; have HA := Lib.hid (HB.out.trans (hbA.mono HB.out.size)); clear hbA)
      clear c0 c1 c2 c3 k0
      have hn1 := own3 (c := p.2) (alloc_new wA (.cells #[.int .u8 p.2.kind, .int .u64 p.2.n, .string p.2.s] 31))
      have hbz := (Below.refl _ wA).alloc (Nat.le_refl _) (.cells #[.int .u8 p.2.kind, .int .u64 p.2.n, .string p.2.s] 31)
      generalize wA.alloc (.cells #[.int .u8 p.2.kind, .int .u64 p.2.n, .string p.2.s] 31) = wC at *
      have n0 := (hbz.cell (cell_lt m0)).trans m0
      have n1 := (hbz.cell (cell_lt m1)).trans m1
      have n2 := (hbz.cell (cell_lt m2)).trans m2
      have n3 := (hbz.cell (cell_lt m3)).trans m3
      have nk := (hbz.cell (cell_lt mk)).trans mk
      obtain ⟨z0, z1, z2, _, _, _⟩ := hn1
      have HZ := Lib.hid (HA.out.trans (hbz.mono HA.out.size))
      have hne := cell_neq p.2.kind p.2.n p.2.s
      clear m0 m1 m2 m3 mk hbz HA
      go_quiet (fail)
      go_wp2_with fail
      go_roundg (L.length - (j + 1))
      case measure => omega
      case rel => exact ⟨j + 1, rfl, hlt, by go_num, below_drewN HZ.out nq⟩
    · have hge : ¬ (j : Int) < (L.length : Int) := by omega
      have HB2 := Lib.hid (H1.out.2.1.trans (HB.out.mono H1.out.2.1.size))
      go_wp2_with (first
        | (go_at_call 37; refine (find s (H1.out.2.2.2.below HB.out) (by omega)).mono ?_; rintro e w' ⟨o, rfl, hf, hw⟩; obtain rfl := hw.symm; clear hw; have hh := hf.has; have HF := Lib.hid hh; clear hf hh; rcases o with _ | i <;> simp only [idx])
        | (go_at_call 17; refine (hasCall s (H1.out.2.2.1.below HB.out) hs).mono ?_; rintro e w5 ⟨rfl, hw5⟩; obtain rfl := hw5.symm; clear hw5; generalize hbh : hasL L s = bh; have HBH := Lib.hid hbh; clear hbh))
      all_goals
        obtain rfl := HBH.out.symm.trans HF.out
        go_ret
        exact ⟨rfl, HB2.out⟩
end Go.Proofs.Ytlagnklmfanmoaa.Ar
