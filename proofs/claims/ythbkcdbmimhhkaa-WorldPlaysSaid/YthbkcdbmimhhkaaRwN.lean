/-
  The document's world, made (New).
-/
import Derived.Test.YthbkcdbmimhhkaaRwF
namespace Go.Proofs.Ythbkcdbmimhhkaa.Rw
open Go.RowKit Go.Maps Wo

structure ScrAt (w : World) (S : Scpt) (s : Shp) : Prop where
  ra : Row2 w s.oa S.files
  na : s.oa = none → s.ca = 0
  rr : Row3 w s.oR S.reps
  rx : RowF w s.oX S.fails
  bs : S.base ≤ w.heap.size
theorem ScrAt.below {w w' : World} {S : Scpt} {s : Shp} (h : ScrAt w S s) (hb : Below w.heap.size w w') : ScrAt w' S s := ⟨h.ra.below hb, h.na, h.rr.below hb, h.rx.below hb, Nat.le_trans h.bs hb.size⟩
abbrev scr7 (S : Scpt) (s : Shp) : Array Value := #[.slice s.oa S.files.length s.ca, .string S.stdin, .slice s.oR S.reps.length s.cR, .slice s.oX S.fails.length s.cX, .int .i64 S.most, .int .i64 S.clk, .int .u64 S.chance]
def OkS (S : Scpt) : Prop := Once2 S.files ∧ Once3 S.reps ∧ 0 ≤ S.most ∧ S.most ≤ 16
def rNew (S : Scpt) : RSt := ⟨S.files, 0, [], S.chance, []⟩
def NewPost (w : World) (S : Scpt) (s : Shp) (x : Ending) (w' : World) : Prop :=
  (OkS S ∧ ∃ s', x = .returned (.tuple #[.agg (s'.cells S (rNew S)), .int .i64 0]) ∧ s'.scr = s.scr ∧ RefAt w' S (rNew S) s' ∧ Below w.heap.size w w') ∨ (¬ OkS S ∧ x = .returned (.tuple #[.agg (s0.cells S0 r0), .int .i64 2]) ∧ Below w.heap.size w w')
theorem once_not {α β : Type} (f : α → β) (l : List α) {i k : Nat} {a b : α} (hk : k < i) (ha : l[i]? = some a) (hb : l[k]? = some b) (he : f a = f b) : ¬ l.Pairwise fun x y => f x ≠ f y := fun h => by
  rw [List.pairwise_iff_getElem] at h
  obtain ⟨h1, rfl⟩ := List.getElem?_eq_some_iff.1 ha
  obtain ⟨h2, rfl⟩ := List.getElem?_eq_some_iff.1 hb
  exact h k i h2 h1 hk he.symm
theorem once_step {α β : Type} (f : α → β) (l : List α) {i : Nat} {a : α} (ha : l[i]? = some a) (h : (l.take i).Pairwise fun x y => f x ≠ f y) (hn : ∀ k b, k < i → l[k]? = some b → f b ≠ f a) : (l.take (i + 1)).Pairwise fun x y => f x ≠ f y := by
  rw [List.take_add_one, ha]
  show (l.take i ++ [a]).Pairwise _
  rw [List.pairwise_append]
  refine ⟨h, List.pairwise_singleton _ _, fun x hx y hy => ?_⟩
  obtain rfl : y = a := by simpa using hy
  obtain ⟨k, hk⟩ := List.mem_iff_getElem?.1 hx
  have hki : k < i := by
    have := (List.getElem?_eq_some_iff.1 hk).1
    rw [List.length_take] at this; omega
  rw [List.getElem?_take_of_lt hki] at hk
  exact hn k x hki hk

theorem row2_all {w : World} {oa : Option Addr} {L : List FileD} {g o : Nat} (h : Row2 w oa L) (hg : oa = some ⟨g, o, none⟩) : ∀ j u, (flatL cellsF L)[j]? = some u → w.cell? ((⟨g, o, none⟩ : Addr).add j) = some u := by
  intro j u hu
  have hlt := (List.getElem?_eq_some_iff.1 hu).1
  rw [flatL_length lenF] at hlt
  have hi : j / 2 < L.length := by omega
  obtain ⟨p, hp⟩ : ∃ p, L[j / 2]? = some p := ⟨_, List.getElem?_eq_getElem hi⟩
  obtain ⟨g', o', e, d0, d1⟩ := h (j / 2) p hp
  rw [hg] at e
  obtain ⟨rfl, rfl⟩ : g = g' ∧ o = o' := by simpa using e
  have e2 : (⟨g, o, none⟩ : Addr).add j = ⟨g, o + j, none⟩ := add_flat _ _ _
  rw [e2]
  have hget := flatL_get lenF L (j / 2) p hp
  rcases Nat.mod_two_eq_zero_or_one j with hm | hm
  · have q := hget 0 (by decide)
    have ej : j = j / 2 * 2 + 0 := by omega
    rw [← ej, hu] at q
    have : u = .string p.1 := by simpa [cellsF] using q
    rw [this, show o + j = o + j / 2 * 2 by omega]
    exact d0
  · have q := hget 1 (by decide)
    have ej : j = j / 2 * 2 + 1 := by omega
    rw [← ej, hu] at q
    have : u = .string p.2 := by simpa [cellsF] using q
    rw [this, show o + j = o + j / 2 * 2 + 1 by omega]
    exact d1
theorem new_def (w : World) (b : Nat) (S : Scpt) (oa : Option Addr) (ca : Nat) (oR : Option Addr) (cR : Nat) (oX : Option Addr) (cX : Nat) (oF : Option Addr) (cF : Nat) : (((((((((((w.setCell ⟨b, 0, none⟩ (.slice oa S.files.length ca)).setCell ⟨b, 1, none⟩ (.string S.stdin)).setCell ⟨b, 2, none⟩ (.slice oR S.reps.length cR)).setCell ⟨b, 3, none⟩ (.slice oX S.fails.length cX)).setCell ⟨b, 4, none⟩ (.int .i64 S.most)).setCell ⟨b, 5, none⟩ (.int .i64 S.clk)).setCell ⟨b, 6, none⟩ (.int .u64 S.chance)).setCell ⟨b, 7, none⟩ (.slice oF S.files.length cF)).setCell ⟨b, 8, none⟩ (.int .i64 0)).setCell ⟨b, 9, none⟩ (.slice none 0 0)).setCell ⟨b, 10, none⟩ (.int .u64 S.chance)).setCell ⟨b, 11, none⟩ (.slice none 0 0) = put12 w b S (rNew S) ⟨oa, ca, oR, cR, oX, cX, oF, cF, none, 0, none, 0⟩ := rfl
theorem new_def0 {w : World} {b : Nat} {S : Scpt} {oa : Option Addr} {ca : Nat} {oR : Option Addr} {cR : Nat} {oX : Option Addr} {cX : Nat} (hS : S.files = []) : (((((((((((w.setCell ⟨b, 0, none⟩ (.slice oa 0 ca)).setCell ⟨b, 1, none⟩ (.string S.stdin)).setCell ⟨b, 2, none⟩ (.slice oR S.reps.length cR)).setCell ⟨b, 3, none⟩ (.slice oX S.fails.length cX)).setCell ⟨b, 4, none⟩ (.int .i64 S.most)).setCell ⟨b, 5, none⟩ (.int .i64 S.clk)).setCell ⟨b, 6, none⟩ (.int .u64 S.chance)).setCell ⟨b, 7, none⟩ (.slice none 0 0)).setCell ⟨b, 8, none⟩ (.int .i64 0)).setCell ⟨b, 9, none⟩ (.slice none 0 0)).setCell ⟨b, 10, none⟩ (.int .u64 S.chance)).setCell ⟨b, 11, none⟩ (.slice none 0 0) = put12 w b S (rNew S) ⟨oa, ca, oR, cR, oX, cX, none, 0, none, 0, none, 0⟩ := by
  have e : S.files.length = 0 := by rw [hS]; rfl
  have h := new_def w b S oa ca oR cR oX cX none 0
  rw [e] at h
  exact h
theorem zero_def (w : World) (b : Nat) : (((((((((((w.setCell ⟨b, 0, none⟩ (.slice none 0 0)).setCell ⟨b, 1, none⟩ (.string ⟨#[]⟩)).setCell ⟨b, 2, none⟩ (.slice none 0 0)).setCell ⟨b, 3, none⟩ (.slice none 0 0)).setCell ⟨b, 4, none⟩ (.int .i64 0)).setCell ⟨b, 5, none⟩ (.int .i64 0)).setCell ⟨b, 6, none⟩ (.int .u64 0)).setCell ⟨b, 7, none⟩ (.slice none 0 0)).setCell ⟨b, 8, none⟩ (.int .i64 0)).setCell ⟨b, 9, none⟩ (.slice none 0 0)).setCell ⟨b, 10, none⟩ (.int .u64 0)).setCell ⟨b, 11, none⟩ (.slice none 0 0) = put12 w b S0 r0 s0 := rfl
set_option maxHeartbeats 4000000 in
set_option maxRecDepth 100000 in
theorem newRef {w : World} {S : Scpt} {s : Shp} (h : ScrAt w S s) (hzf : S.files.length ≤ 1000000) (hzr : S.reps.length ≤ 1000000) :
    Calls Try.prog 9 #[.agg (scr7 S s)] w (NewPost w S s) := by
  have HW0 := Lib.hid h
  go_enter Try.func9, Try.ntmps9
  go_upto_region 1 with fail
  obtain ⟨wA, hA⟩ : ∃ wA, wA = (w.alloc (.cells (scr7 S s) 27)).alloc (.cells #[.slice none 0 0, .string ⟨#[]⟩, .slice none 0 0, .slice none 0 0, .int .i64 0, .int .i64 0, .int .u64 0, .slice none 0 0, .int .i64 0, .slice none 0 0, .int .u64 0, .slice none 0 0] 38) := ⟨_, rfl⟩
  have hbA : Below w.heap.size w wA := by rw [hA]; exact ((Below.refl _ w).alloc (Nat.le_refl _) _).alloc (by rw [alloc_size]; omega) _
  have hbl0 : wA.heap[w.heap.size]? = some (.cells (scr7 S s) 27) := by
    rw [hA, alloc_old _ _ (by rw [alloc_size]; omega)]; exact alloc_new _ _
  have hbl2 : wA.heap[w.heap.size + 1]? = some (.cells (s0.cells S0 r0) 38) := by
    rw [hA, ← alloc_size w]; exact alloc_new _ _
  rw [← hA]
  have HB := Lib.hid (⟨hbA, hbl0, hbl2, h.below hbA⟩ : _ ∧ _ ∧ _ ∧ _)
  have k0 : wA.cell? ⟨w.heap.size, 0, none⟩ = some (.slice s.oa S.files.length s.ca) := by simp [World.cell?, hbl0]
  have k2 : wA.cell? ⟨w.heap.size, 2, none⟩ = some (.slice s.oR S.reps.length s.cR) := by simp [World.cell?, hbl0]
  clear hA hbA hbl0 hbl2 h
  have HK := Lib.hid (⟨k0, k2⟩ : _ ∧ _)
  go_wp2_with fail
  clear k0 k2
  go_loopg [4, 5] S.files.length (fun q i k wr => ∃ j, S.files.length - j = q ∧ j ≤ S.files.length ∧ i = .int .i64 (j : Int) ∧ (S.files.take j).Pairwise (fun a b => a.1 ≠ b.1) ∧ Below wA.heap.size wA wr)
  case atStart => exact ⟨0, rfl, Nat.zero_le _, rfl, by simp, Below.refl _ _⟩
  case round =>
    obtain ⟨j, hq, hj, rfl, hon, hb⟩ := hrel
    have k0r := (hb.cell (cell_lt HK.out.1)).trans HK.out.1
    by_cases hlt : j < S.files.length
    · have hlt' : (j : Int) < (S.files.length : Int) := by omega
      obtain ⟨p, hp⟩ : ∃ p, S.files[j]? = some p := ⟨_, List.getElem?_eq_getElem hlt⟩
      have HP := Lib.hid (⟨hp, hon, hb⟩ : _ ∧ _ ∧ _)
      clear hp hon hb
      go_wp2_with fail
      go_loopg [5] j (fun q2 k w9 => ∃ m, j - m = q2 ∧ m ≤ j ∧ k = .int .i64 (m : Int) ∧ (∀ k b, k < m → S.files[k]? = some b → b.1 ≠ p.1) ∧ Below wA.heap.size wA w9)
      case atStart => exact ⟨0, rfl, Nat.zero_le _, rfl, fun k b hk => by omega, HP.out.2.2⟩
      case round =>
        obtain ⟨m, hq2, hm, rfl, hno, hb9⟩ := hrel
        clear k0r
        have k0r := (hb9.cell (cell_lt HK.out.1)).trans HK.out.1
        by_cases hlm : m < j
        · have hlm' : (m : Int) < (j : Int) := by omega
          have hlm2 : (m : Int) < (S.files.length : Int) := by omega
          obtain ⟨b, hbm⟩ : ∃ b, S.files[m]? = some b := ⟨_, List.getElem?_eq_getElem (by omega)⟩
          obtain ⟨g, o, hg, d0, _⟩ := (HB.out.2.2.2.below hb9).ra j p HP.out.1
          obtain ⟨g', o', hg', f0, _⟩ := (HB.out.2.2.2.below hb9).ra m b hbm
          rw [hg] at hg'
          obtain ⟨rfl, rfl⟩ : g = g' ∧ o = o' := by simpa using hg'
          rw [hg] at k0r
          clear hg hg'
          have HN := Lib.hid (⟨hno, hbm, hb9⟩ : _ ∧ _ ∧ _)
          clear hno hbm hb9
          by_cases hps : p.1 = b.1
          · have HS := Lib.hid hps
            have hbq : (p.1.toList == b.1.toList) = true := by rw [hps]; simp
            clear hps
            go_upto_region 7 with fail
            go_quiet (fail)
            have hbD : Below wA.heap.size wA (wr.drewN nq) := below_drewN HN.out.2.2 nq
            generalize wr.drewN nq = wD at *
            have hnok : ¬ OkS S := fun h => once_not (fun x : FileD => x.1) S.files hlm HP.out.1 HN.out.2.1 HS.out h.1
            obtain ⟨q0, q1, q2, q3, q4, q5, q6, q7, q8, q9, q10, q11, qz, _⟩ := rbox_of ((hbD.block _ (Array.getElem?_eq_some_iff.1 HB.out.2.2.1).1).trans HB.out.2.2.1)
            have qz0 := qz 0
            have qz1 := qz 1
            have qz2 := qz 2
            have qz3 := qz 3
            have qz4 := qz 4
            have qz5 := qz 5
            have qz6 := qz 6
            have qz7 := qz 7
            have qz8 := qz 8
            have qz9 := qz 9
            have qz10 := qz 10
            have qz11 := qz 11
            clear qz
            have hP := put12_blk ((hbD.block _ (Array.getElem?_eq_some_iff.1 HB.out.2.2.1).1).trans HB.out.2.2.1) rfl S0 r0 s0
            have hbE := put12_below (HB.out.1.trans (hbD.mono HB.out.1.size)) (Nat.le_succ w.heap.size) S0 r0 s0
            have HE := Lib.hid (⟨hbE, hnok⟩ : _ ∧ _)
            clear hbD hbE hnok
            go_wp2_with fail
            rw [zero_def]
            obtain ⟨z0, z1, z2, z3, z4, z5, z6, z7, z8, z9, z10, z11, _, _⟩ := rbox_of hP
            generalize put12 wD (w.heap.size + 1) S0 r0 s0 = w9 at *
            refine bodyPost_ret (v := .tuple #[.agg (s0.cells S0 r0), .int .i64 2]) (by simp [results, Try.results9, go_sem, z0, z1, z2, z3, z4, z5, z6, z7, z8, z9, z10, z11]) rfl ?_
            exact .inr ⟨HE.out.2, rfl, HE.out.1⟩
          · have HS := Lib.hid hps
            have hbq : (p.1.toList == b.1.toList) = false := toList_ne hps
            clear hps
            go_upto_region 7 with fail
            go_quiet (fail)
            go_wp2_with fail
            go_roundg (j - (m + 1))
            case measure => omega
            case rel =>
              refine ⟨m + 1, rfl, hlm, by go_num, fun k c hk hc => ?_, below_drewN HN.out.2.2 nq⟩
              by_cases e : k = m
              · subst e
                rw [HN.out.2.1] at hc
                cases hc
                exact fun e => HS.out e.symm
              · exact HN.out.1 k c (by omega) hc
        · obtain rfl : m = j := by omega
          have hge : ¬ (m : Int) < (m : Int) := by omega
          have HN := Lib.hid (⟨hno, hb9⟩ : _ ∧ _)
          clear hno hb9
          go_wp2_with fail
          go_roundg (S.files.length - (m + 1))
          case measure => omega
          case rel => exact ⟨m + 1, rfl, hlt, by go_num, once_step (fun x : FileD => x.1) S.files HP.out.1 HP.out.2.1 HN.out.1, HN.out.2⟩
    · obtain rfl : j = S.files.length := by omega
      have hge : ¬ (S.files.length : Int) < (S.files.length : Int) := by omega
      rw [List.take_length] at hon
      have HQ := Lib.hid (⟨hon, hb⟩ : Once2 S.files ∧ _)
      have k2r := (hb.cell (cell_lt HK.out.2)).trans HK.out.2
      clear hon hb
      go_wp2_with fail
      clear k0r k2r
      go_loopg [6, 7] S.reps.length (fun q i k wr => ∃ j, S.reps.length - j = q ∧ j ≤ S.reps.length ∧ i = .int .i64 (j : Int) ∧ (S.reps.take j).Pairwise (fun a b => a.cmd ≠ b.cmd) ∧ Below wA.heap.size wA wr)
      case atStart => exact ⟨0, rfl, Nat.zero_le _, rfl, by simp, HQ.out.2⟩
      case round =>
        obtain ⟨j, hq, hj, rfl, hon, hb⟩ := hrel
        have k2r := (hb.cell (cell_lt HK.out.2)).trans HK.out.2
        by_cases hlt : j < S.reps.length
        · have hlt' : (j : Int) < (S.reps.length : Int) := by omega
          obtain ⟨p, hp⟩ : ∃ p, S.reps[j]? = some p := ⟨_, List.getElem?_eq_getElem hlt⟩
          have HP := Lib.hid (⟨hp, hon, hb⟩ : _ ∧ _ ∧ _)
          clear hp hon hb
          go_wp2_with fail
          go_loopg [7] j (fun q2 k w9 => ∃ m, j - m = q2 ∧ m ≤ j ∧ k = .int .i64 (m : Int) ∧ (∀ k b, k < m → S.reps[k]? = some b → b.cmd ≠ p.cmd) ∧ Below wA.heap.size wA w9)
          case atStart => exact ⟨0, rfl, Nat.zero_le _, rfl, fun k b hk => by omega, HP.out.2.2⟩
          case round =>
            obtain ⟨m, hq2, hm, rfl, hno, hb9⟩ := hrel
            clear k2r
            have k2r := (hb9.cell (cell_lt HK.out.2)).trans HK.out.2
            by_cases hlm : m < j
            · have hlm' : (m : Int) < (j : Int) := by omega
              have hlm2 : (m : Int) < (S.reps.length : Int) := by omega
              obtain ⟨b, hbm⟩ : ∃ b, S.reps[m]? = some b := ⟨_, List.getElem?_eq_getElem (by omega)⟩
              obtain ⟨g, o, hg, d0, _, _⟩ := (HB.out.2.2.2.below hb9).rr j p HP.out.1
              obtain ⟨g', o', hg', f0, _, _⟩ := (HB.out.2.2.2.below hb9).rr m b hbm
              rw [hg] at hg'
              obtain ⟨rfl, rfl⟩ : g = g' ∧ o = o' := by simpa using hg'
              rw [hg] at k2r
              clear hg hg'
              have HN := Lib.hid (⟨hno, hbm, hb9⟩ : _ ∧ _ ∧ _)
              clear hno hbm hb9
              by_cases hps : p.cmd = b.cmd
              · have HS := Lib.hid hps
                have hbq : (p.cmd.toList == b.cmd.toList) = true := by rw [hps]; simp
                clear hps
                go_upto_region 15 with fail
                go_quiet (fail)
                have hbD : Below wA.heap.size wA (wr.drewN nq) := below_drewN HN.out.2.2 nq
                generalize wr.drewN nq = wD at *
                have hnok : ¬ OkS S := fun h => once_not (fun x : RepD => x.cmd) S.reps hlm HP.out.1 HN.out.2.1 HS.out h.2.1
                obtain ⟨q0, q1, q2, q3, q4, q5, q6, q7, q8, q9, q10, q11, qz, _⟩ := rbox_of ((hbD.block _ (Array.getElem?_eq_some_iff.1 HB.out.2.2.1).1).trans HB.out.2.2.1)
                have qz0 := qz 0
                have qz1 := qz 1
                have qz2 := qz 2
                have qz3 := qz 3
                have qz4 := qz 4
                have qz5 := qz 5
                have qz6 := qz 6
                have qz7 := qz 7
                have qz8 := qz 8
                have qz9 := qz 9
                have qz10 := qz 10
                have qz11 := qz 11
                clear qz
                have hP := put12_blk ((hbD.block _ (Array.getElem?_eq_some_iff.1 HB.out.2.2.1).1).trans HB.out.2.2.1) rfl S0 r0 s0
                have hbE := put12_below (HB.out.1.trans (hbD.mono HB.out.1.size)) (Nat.le_succ w.heap.size) S0 r0 s0
                have HE := Lib.hid (⟨hbE, hnok⟩ : _ ∧ _)
                clear hbD hbE hnok
                go_wp2_with fail
                rw [zero_def]
                obtain ⟨z0, z1, z2, z3, z4, z5, z6, z7, z8, z9, z10, z11, _, _⟩ := rbox_of hP
                generalize put12 wD (w.heap.size + 1) S0 r0 s0 = w9 at *
                refine bodyPost_ret (v := .tuple #[.agg (s0.cells S0 r0), .int .i64 2]) (by simp [results, Try.results9, go_sem, z0, z1, z2, z3, z4, z5, z6, z7, z8, z9, z10, z11]) rfl ?_
                exact .inr ⟨HE.out.2, rfl, HE.out.1⟩
              · have HS := Lib.hid hps
                have hbq : (p.cmd.toList == b.cmd.toList) = false := toList_ne hps
                clear hps
                go_upto_region 15 with fail
                go_quiet (fail)
                go_wp2_with fail
                go_roundg (j - (m + 1))
                case measure => omega
                case rel =>
                  refine ⟨m + 1, rfl, hlm, by go_num, fun k c hk hc => ?_, below_drewN HN.out.2.2 nq⟩
                  by_cases e : k = m
                  · subst e
                    rw [HN.out.2.1] at hc
                    cases hc
                    exact fun e => HS.out e.symm
                  · exact HN.out.1 k c (by omega) hc
            · obtain rfl : m = j := by omega
              have hge : ¬ (m : Int) < (m : Int) := by omega
              have HN := Lib.hid (⟨hno, hb9⟩ : _ ∧ _)
              clear hno hb9
              go_wp2_with fail
              go_roundg (S.reps.length - (m + 1))
              case measure => omega
              case rel => exact ⟨m + 1, rfl, hlt, by go_num, once_step (fun x : RepD => x.cmd) S.reps HP.out.1 HP.out.2.1 HN.out.1, HN.out.2⟩
        · obtain rfl : j = S.reps.length := by omega
          have hge : ¬ (S.reps.length : Int) < (S.reps.length : Int) := by omega
          rw [List.take_length] at hon
          have HQ2 := Lib.hid (⟨hon, hb⟩ : _ ∧ _)
          have k4r : wr.cell? ⟨w.heap.size, 4, none⟩ = some (.int .i64 S.most) := by
            have q := (hb.block _ (Array.getElem?_eq_some_iff.1 HB.out.2.1).1).trans HB.out.2.1
            simp [World.cell?, q]
          by_cases hm0 : S.most < 0
          · have hnok : ¬ OkS S := fun h => by have := h.2.2.1; omega
            have hbD := hb
            clear hon hb
            obtain ⟨q0, q1, q2, q3, q4, q5, q6, q7, q8, q9, q10, q11, qz, _⟩ := rbox_of ((hbD.block _ (Array.getElem?_eq_some_iff.1 HB.out.2.2.1).1).trans HB.out.2.2.1)
            have qz0 := qz 0
            have qz1 := qz 1
            have qz2 := qz 2
            have qz3 := qz 3
            have qz4 := qz 4
            have qz5 := qz 5
            have qz6 := qz 6
            have qz7 := qz 7
            have qz8 := qz 8
            have qz9 := qz 9
            have qz10 := qz 10
            have qz11 := qz 11
            clear qz
            have hP := put12_blk ((hbD.block _ (Array.getElem?_eq_some_iff.1 HB.out.2.2.1).1).trans HB.out.2.2.1) rfl S0 r0 s0
            have hbE := put12_below (HB.out.1.trans (hbD.mono HB.out.1.size)) (Nat.le_succ w.heap.size) S0 r0 s0
            have HE := Lib.hid (⟨hbE, hnok⟩ : _ ∧ _)
            clear hbD hbE hnok
            go_wp2_with fail
            rw [zero_def]
            obtain ⟨z0, z1, z2, z3, z4, z5, z6, z7, z8, z9, z10, z11, _, _⟩ := rbox_of hP
            generalize put12 wr (w.heap.size + 1) S0 r0 s0 = w9 at *
            refine bodyPost_ret (v := .tuple #[.agg (s0.cells S0 r0), .int .i64 2]) (by simp [results, Try.results9, go_sem, z0, z1, z2, z3, z4, z5, z6, z7, z8, z9, z10, z11]) rfl ?_
            exact .inr ⟨HE.out.2, rfl, HE.out.1⟩

          · by_cases hm1 : 16 < S.most
            · have hnok : ¬ OkS S := fun h => by have := h.2.2.2; omega
              have hbD := hb
              clear hon hb
              obtain ⟨q0, q1, q2, q3, q4, q5, q6, q7, q8, q9, q10, q11, qz, _⟩ := rbox_of ((hbD.block _ (Array.getElem?_eq_some_iff.1 HB.out.2.2.1).1).trans HB.out.2.2.1)
              have qz0 := qz 0
              have qz1 := qz 1
              have qz2 := qz 2
              have qz3 := qz 3
              have qz4 := qz 4
              have qz5 := qz 5
              have qz6 := qz 6
              have qz7 := qz 7
              have qz8 := qz 8
              have qz9 := qz 9
              have qz10 := qz 10
              have qz11 := qz 11
              clear qz
              have hP := put12_blk ((hbD.block _ (Array.getElem?_eq_some_iff.1 HB.out.2.2.1).1).trans HB.out.2.2.1) rfl S0 r0 s0
              have hbE := put12_below (HB.out.1.trans (hbD.mono HB.out.1.size)) (Nat.le_succ w.heap.size) S0 r0 s0
              have HE := Lib.hid (⟨hbE, hnok⟩ : _ ∧ _)
              clear hbD hbE hnok
              go_wp2_with fail
              rw [zero_def]
              obtain ⟨z0, z1, z2, z3, z4, z5, z6, z7, z8, z9, z10, z11, _, _⟩ := rbox_of hP
              generalize put12 wr (w.heap.size + 1) S0 r0 s0 = w9 at *
              refine bodyPost_ret (v := .tuple #[.agg (s0.cells S0 r0), .int .i64 2]) (by simp [results, Try.results9, go_sem, z0, z1, z2, z3, z4, z5, z6, z7, z8, z9, z10, z11]) rfl ?_
              exact .inr ⟨HE.out.2, rfl, HE.out.1⟩

            · have hok : OkS S := ⟨HQ.out.1, hon, by omega, by omega⟩
              have HOk := Lib.hid hok
              obtain ⟨i0, zz0, hi, hz0, hszz, hby, hzs⟩ := content_info
              have HI := Lib.hid (⟨hi, hz0, hszz, hby, hzs⟩ : _ ∧ _ ∧ _ ∧ _ ∧ _)
              clear hi hz0 hszz hby hzs
              have hs0 := (hb.block _ (Array.getElem?_eq_some_iff.1 HB.out.2.1).1).trans HB.out.2.1
              have hs2 := (hb.block _ (Array.getElem?_eq_some_iff.1 HB.out.2.2.1).1).trans HB.out.2.2.1
              have hsc := HB.out.2.2.2.below hb
              have hbw : Below w.heap.size w wr := HB.out.1.trans (hb.mono HB.out.1.size)
              have HRes := Lib.hid hs2
              have HSc := Lib.hid (⟨hsc, hbw⟩ : _ ∧ _)
              by_cases hE : S.files = []
              · obtain ⟨og, hog⟩ : ∃ x, x = s.oa := ⟨_, rfl⟩
                obtain ⟨cg, hcg⟩ : ∃ x, x = s.ca := ⟨_, rfl⟩
                have hna := hsc.na
                rw [← hog, ← hcg] at hna
                rcases og with _ | ad
                · obtain rfl := hna rfl
                  clear hna
                  have hS7 : wr.cell? ⟨w.heap.size, 0, none⟩ = some (.slice none 0 0) ∧ wr.cell? ⟨w.heap.size, 1, none⟩ = some (.string S.stdin) ∧ wr.cell? ⟨w.heap.size, 2, none⟩ = some (.slice s.oR S.reps.length s.cR) ∧ wr.cell? ⟨w.heap.size, 3, none⟩ = some (.slice s.oX S.fails.length s.cX) ∧ wr.cell? ⟨w.heap.size, 4, none⟩ = some (.int .i64 S.most) ∧ wr.cell? ⟨w.heap.size, 5, none⟩ = some (.int .i64 S.clk) ∧ wr.cell? ⟨w.heap.size, 6, none⟩ = some (.int .u64 S.chance) := by
                    have e0 : (Value.slice none 0 0) = .slice s.oa S.files.length s.ca := by rw [hE, ← hog, ← hcg]; rfl
                    rw [e0]
                    refine ⟨?_, ?_, ?_, ?_, ?_, ?_, ?_⟩ <;> simp [World.cell?, hs0]
                  obtain ⟨j0, j1, j2, j3, j4, j5, j6⟩ := hS7
                  obtain ⟨q0, q1, q2, q3, q4, q5, q6, q7, q8, q9, q10, q11, qz, _⟩ := rbox_of hs2
                  have qz0 := qz 0
                  have qz1 := qz 1
                  have qz2 := qz 2
                  have qz3 := qz 3
                  have qz4 := qz 4
                  have qz5 := qz 5
                  have qz6 := qz 6
                  have qz7 := qz 7
                  have qz8 := qz 8
                  have qz9 := qz 9
                  have qz10 := qz 10
                  have qz11 := qz 11
                  have HG := Lib.hid (⟨hog, hcg, hE⟩ : _ ∧ _ ∧ _)
                  clear qz hs0 hs2 hsc hbw hE hok hon hb k4r hog hcg
                  go_upto_region 20 with fail
                  go_region_law (fail)
                  all_goals
                    go_wp2_with fail
                    rw [new_def0 HG.out.2.2]
                    have hbd : Below wr.heap.size wr wr := Below.refl _ wr
                    have hsh : RefAt wr S (rNew S) ⟨none, 0, s.oR, s.cR, s.oX, s.cX, none, 0, none, 0, none, 0⟩ := ⟨HSc.out.1.rr.below hbd, HSc.out.1.rx.below hbd, by show OwnF _ 0 (.slice none S.files.length 0) S.files; rw [HG.out.2.2]; exact own_nil _ _ _ _, own_nil _ _ _ _, own_nil _ _ _ _, ⟨HSc.out.1.bs, fun a e => (by cases e), fun a e => (by cases e), fun a e => (by cases e)⟩⟩
                    have hbX : Below w.heap.size w (put12 wr (w.heap.size + 1) S (rNew S) ⟨none, 0, s.oR, s.cR, s.oX, s.cX, none, 0, none, 0, none, 0⟩) := put12_below (HSc.out.2.trans (hbd.mono HSc.out.2.size)) (Nat.le_succ _) _ _ _
                    have hrD : wr.heap[w.heap.size + 1]? = some (.cells (s0.cells S0 r0) 38) := HRes.out
                    have hrX := hsh.kept (w := w) ⟨HW0.out.rr, HW0.out.rx⟩ hbX hrD (fun k hk => put12_heap _ _ _ _ _ hk)
                    obtain ⟨z0, z1, z2, z3, z4, z5, z6, z7, z8, z9, z10, z11, _, _⟩ := rbox_of (put12_blk hrD rfl S (rNew S) ⟨none, 0, s.oR, s.cR, s.oX, s.cX, none, 0, none, 0, none, 0⟩)
                    have HX := Lib.hid (⟨hrX, hbX⟩ : _ ∧ _)
                    clear hsh hbX hrX hrD hbd
                    generalize put12 wr (w.heap.size + 1) S (rNew S) ⟨none, 0, s.oR, s.cR, s.oX, s.cX, none, 0, none, 0, none, 0⟩ = w9 at *
                    refine bodyPost_ret (v := .tuple #[.agg (Shp.cells ⟨none, 0, s.oR, s.cR, s.oX, s.cX, none, 0, none, 0, none, 0⟩ S (rNew S)), .int .i64 0]) (by simp [results, Try.results9, go_sem, z0, z1, z2, z3, z4, z5, z6, z7, z8, z9, z10, z11]) rfl ?_
                    exact .inl ⟨HOk.out, _, rfl, by unfold Shp.scr; rw [← HG.out.1, ← HG.out.2.1], HX.out.1.below (Below.refl _ _).drew, HX.out.2.trans ((Below.refl _ _).drew.mono HX.out.2.size)⟩
                · clear hna
                  have hS7 : wr.cell? ⟨w.heap.size, 0, none⟩ = some (.slice (some ad) 0 cg) ∧ wr.cell? ⟨w.heap.size, 1, none⟩ = some (.string S.stdin) ∧ wr.cell? ⟨w.heap.size, 2, none⟩ = some (.slice s.oR S.reps.length s.cR) ∧ wr.cell? ⟨w.heap.size, 3, none⟩ = some (.slice s.oX S.fails.length s.cX) ∧ wr.cell? ⟨w.heap.size, 4, none⟩ = some (.int .i64 S.most) ∧ wr.cell? ⟨w.heap.size, 5, none⟩ = some (.int .i64 S.clk) ∧ wr.cell? ⟨w.heap.size, 6, none⟩ = some (.int .u64 S.chance) := by
                    have e0 : (Value.slice (some ad) 0 cg) = .slice s.oa S.files.length s.ca := by rw [hE, ← hog, ← hcg]; rfl
                    rw [e0]
                    refine ⟨?_, ?_, ?_, ?_, ?_, ?_, ?_⟩ <;> simp [World.cell?, hs0]
                  obtain ⟨j0, j1, j2, j3, j4, j5, j6⟩ := hS7
                  obtain ⟨q0, q1, q2, q3, q4, q5, q6, q7, q8, q9, q10, q11, qz, _⟩ := rbox_of hs2
                  have qz0 := qz 0
                  have qz1 := qz 1
                  have qz2 := qz 2
                  have qz3 := qz 3
                  have qz4 := qz 4
                  have qz5 := qz 5
                  have qz6 := qz 6
                  have qz7 := qz 7
                  have qz8 := qz 8
                  have qz9 := qz 9
                  have qz10 := qz 10
                  have qz11 := qz 11
                  have HG := Lib.hid (⟨hog, hcg, hE⟩ : _ ∧ _ ∧ _)
                  clear qz hs0 hs2 hsc hbw hE hok hon hb k4r hog hcg
                  go_upto_region 20 with fail
                  go_region_law (fail)
                  all_goals
                    go_wp2_with fail
                    rw [new_def0 HG.out.2.2]
                    have hbd : Below wr.heap.size wr wr := Below.refl _ wr
                    have hsh : RefAt wr S (rNew S) ⟨(some ad), cg, s.oR, s.cR, s.oX, s.cX, none, 0, none, 0, none, 0⟩ := ⟨HSc.out.1.rr.below hbd, HSc.out.1.rx.below hbd, by show OwnF _ 0 (.slice none S.files.length 0) S.files; rw [HG.out.2.2]; exact own_nil _ _ _ _, own_nil _ _ _ _, own_nil _ _ _ _, ⟨HSc.out.1.bs, fun a e => (by cases e), fun a e => (by cases e), fun a e => (by cases e)⟩⟩
                    have hbX : Below w.heap.size w (put12 wr (w.heap.size + 1) S (rNew S) ⟨(some ad), cg, s.oR, s.cR, s.oX, s.cX, none, 0, none, 0, none, 0⟩) := put12_below (HSc.out.2.trans (hbd.mono HSc.out.2.size)) (Nat.le_succ _) _ _ _
                    have hrD : wr.heap[w.heap.size + 1]? = some (.cells (s0.cells S0 r0) 38) := HRes.out
                    have hrX := hsh.kept (w := w) ⟨HW0.out.rr, HW0.out.rx⟩ hbX hrD (fun k hk => put12_heap _ _ _ _ _ hk)
                    obtain ⟨z0, z1, z2, z3, z4, z5, z6, z7, z8, z9, z10, z11, _, _⟩ := rbox_of (put12_blk hrD rfl S (rNew S) ⟨(some ad), cg, s.oR, s.cR, s.oX, s.cX, none, 0, none, 0, none, 0⟩)
                    have HX := Lib.hid (⟨hrX, hbX⟩ : _ ∧ _)
                    clear hsh hbX hrX hrD hbd
                    generalize put12 wr (w.heap.size + 1) S (rNew S) ⟨(some ad), cg, s.oR, s.cR, s.oX, s.cX, none, 0, none, 0, none, 0⟩ = w9 at *
                    refine bodyPost_ret (v := .tuple #[.agg (Shp.cells ⟨(some ad), cg, s.oR, s.cR, s.oX, s.cX, none, 0, none, 0, none, 0⟩ S (rNew S)), .int .i64 0]) (by simp [results, Try.results9, go_sem, z0, z1, z2, z3, z4, z5, z6, z7, z8, z9, z10, z11]) rfl ?_
                    exact .inl ⟨HOk.out, _, rfl, by unfold Shp.scr; rw [← HG.out.1, ← HG.out.2.1], HX.out.1.below (Below.refl _ _).drew, HX.out.2.trans ((Below.refl _ _).drew.mono HX.out.2.size)⟩
              · obtain ⟨p0, hp0⟩ : ∃ p, S.files[0]? = some p := by
                  cases hr : S.files with
                  | nil => exact absurd hr hE
                  | cons x l => exact ⟨x, rfl⟩
                have hpos : 0 < S.files.length := List.length_pos_iff.2 hE
                obtain ⟨g, o, hg, _⟩ := hsc.ra 0 p0 hp0
                have hS7 : ∀ w4, Below wr.heap.size wr w4 → w4.cell? ⟨w.heap.size, 0, none⟩ = some (.slice (some ⟨g, o, none⟩) S.files.length s.ca) ∧ w4.cell? ⟨w.heap.size, 1, none⟩ = some (.string S.stdin) ∧ w4.cell? ⟨w.heap.size, 2, none⟩ = some (.slice s.oR S.reps.length s.cR) ∧ w4.cell? ⟨w.heap.size, 3, none⟩ = some (.slice s.oX S.fails.length s.cX) ∧ w4.cell? ⟨w.heap.size, 4, none⟩ = some (.int .i64 S.most) ∧ w4.cell? ⟨w.heap.size, 5, none⟩ = some (.int .i64 S.clk) ∧ w4.cell? ⟨w.heap.size, 6, none⟩ = some (.int .u64 S.chance) := fun w4 hb4 => by
                  have q := (hb4.block _ (Array.getElem?_eq_some_iff.1 hs0).1).trans hs0
                  rw [← hg]
                  refine ⟨?_, ?_, ?_, ?_, ?_, ?_, ?_⟩ <;> simp [World.cell?, q]
                have HS7 := Lib.hid hS7
                have hnw := row2_all hsc.ra hg
                have HNW := Lib.hid (show ∀ j u, (flatL cellsF S.files)[j]? = some u → wr.drew.cell? ((⟨g, o, none⟩ : Addr).add j) = some u from hnw)
                obtain ⟨j0, j1, j2, j3, j4, j5, j6⟩ := hS7 wr (Below.refl _ _)
                have HG := Lib.hid hg
                clear hS7 hnw hg hs0 hs2 hsc hbw hE hp0 hok hon hb k4r
                go_upto_region 20 with fail
                go_region_law (refine step_append_lies _ rfl (.tmp 71) (.tmp 73) 22 rfl wr.heap.size 54 i0 zz0 2 32 Try.underlying22 HI.out.1 HI.out.2.1 HI.out.2.2.1 HI.out.2.2.2.1 HI.out.2.2.2.2 (by decide) (.slice none 0 0) 0 [] (by simp [Act.eval]) (World.ownsRow_nil _ _ _ _) ⟨g, o, none⟩ S.files.length s.ca (flatL cellsF S.files) (by simp [Act.eval]) (flatL_length lenF _) HNW.out (flatL_one oneF _) hpos (by unfold maxLen; omega) (by omega) (Nat.le_refl _) _ rfl ?_; intro g2 cap2 w4 hown hgrow hat hlt4; rw [Nat.zero_add] at hown ⊢; have hb4 : Below wr.heap.size wr w4 := ((Below.refl _ wr).drew).grown hgrow (Nat.le_refl _) (fun k hk => by cases hk); obtain ⟨j0, j1, j2, j3, j4, j5, j6⟩ := HS7.out w4 hb4; have hr4 := (hb4.block _ (Array.getElem?_eq_some_iff.1 HRes.out).1).trans HRes.out; obtain ⟨q0, q1, q2, q3, q4, q5, q6, q7, q8, q9, q10, q11, qz, _⟩ := rbox_of hr4; have qz0 := qz 0; have qz1 := qz 1; have qz2 := qz 2; have qz3 := qz 3; have qz4 := qz 4; have qz5 := qz 5; have qz6 := qz 6; have qz7 := qz 7; have qz8 := qz 8; have qz9 := qz 9; have qz10 := qz 10; have qz11 := qz 11; have HO := Lib.hid (⟨hown, hb4, hr4⟩ : _ ∧ _ ∧ _); clear hown hgrow hat hlt4 hb4 qz hr4)
                all_goals
                  go_wp2_with fail
                  rw [new_def]
                  have hsh : RefAt w4 S (rNew S) ⟨some ⟨g, o, none⟩, s.ca, s.oR, s.cR, s.oX, s.cX, some ⟨g2, 0, none⟩, cap2, none, 0, none, 0⟩ := ⟨HSc.out.1.rr.below HO.out.2.1, HSc.out.1.rx.below HO.out.2.1, Own.base HO.out.1 (Nat.zero_le _), own_nil _ _ _ _, own_nil _ _ _ _, ⟨Nat.le_trans HSc.out.1.bs HO.out.2.1.size, rows_okb HO.out.1 HSc.out.1.bs, fun a e => (by cases e), fun a e => (by cases e)⟩⟩
                  have hbX : Below w.heap.size w (put12 w4 (w.heap.size + 1) S (rNew S) ⟨some ⟨g, o, none⟩, s.ca, s.oR, s.cR, s.oX, s.cX, some ⟨g2, 0, none⟩, cap2, none, 0, none, 0⟩) := put12_below (HSc.out.2.trans (HO.out.2.1.mono HSc.out.2.size)) (Nat.le_succ _) _ _ _
                  have hrX := hsh.kept (w := w) ⟨HW0.out.rr, HW0.out.rx⟩ hbX HO.out.2.2 (fun k hk => put12_heap _ _ _ _ _ hk)
                  obtain ⟨z0, z1, z2, z3, z4, z5, z6, z7, z8, z9, z10, z11, _, _⟩ := rbox_of (put12_blk HO.out.2.2 rfl S (rNew S) ⟨some ⟨g, o, none⟩, s.ca, s.oR, s.cR, s.oX, s.cX, some ⟨g2, 0, none⟩, cap2, none, 0, none, 0⟩)
                  have HX := Lib.hid (⟨hrX, hbX⟩ : _ ∧ _)
                  clear hsh hbX hrX
                  generalize put12 w4 (w.heap.size + 1) S (rNew S) ⟨some ⟨g, o, none⟩, s.ca, s.oR, s.cR, s.oX, s.cX, some ⟨g2, 0, none⟩, cap2, none, 0, none, 0⟩ = w9 at *
                  refine bodyPost_ret (v := .tuple #[.agg (Shp.cells ⟨some ⟨g, o, none⟩, s.ca, s.oR, s.cR, s.oX, s.cX, some ⟨g2, 0, none⟩, cap2, none, 0, none, 0⟩ S (rNew S)), .int .i64 0]) (by simp [results, Try.results9, go_sem, z0, z1, z2, z3, z4, z5, z6, z7, z8, z9, z10, z11]) rfl ?_
                  exact .inl ⟨HOk.out, _, rfl, by unfold Shp.scr; rw [HG.out], HX.out.1, HX.out.2⟩
end Go.Proofs.Ythbkcdbmimhhkaa.Rw
