/-
  WorldPlays: which scripts are played (ShortScript).
-/
import Derived.Test.YthbkcdbmimhhkaaPlF
namespace Go.Proofs.Ythbkcdbmimhhkaa.Rw
open Go.RowKit Go.Maps Wo
noncomputable def shortB (S : Scpt) : Bool := @decide (Short S) (Classical.propDecidable _)
theorem shortB_no {S : Scpt} (h : ¬ Short S) : shortB S = false := @decide_eq_false _ (Classical.propDecidable _) h
theorem shortB_yes {S : Scpt} (h : Short S) : shortB S = true := @decide_eq_true _ (Classical.propDecidable _) h
theorem short_of {S : Scpt} (h : shortB S = true) : Short S := @of_decide_eq_true _ (Classical.propDecidable _) h
set_option maxHeartbeats 4000000 in
set_option maxRecDepth 100000 in
theorem shortScript {w : World} {S : Scpt} {s : Shp} (h : ScrAt w S s) :
    Calls Try.prog 6 #[.agg (scr7 S s), .int .i64 8, .int .i64 200] w fun e w' => e = .returned (.bool (shortB S)) ∧ Below w.heap.size w w' := by
  have HW0 := Lib.hid h
  clear h
  go_enter Try.func6, Try.ntmps6
  go_upto_region 1 with fail
  obtain ⟨wA, hA⟩ : ∃ wA, wA = w.alloc (.cells (scr7 S s) 27) := ⟨_, rfl⟩
  have hbA : Below w.heap.size w wA := by rw [hA]; exact (Below.refl _ w).alloc (Nat.le_refl _) _
  have k0 : wA.cell? ⟨w.heap.size, 0, none⟩ = some (.slice s.oa S.files.length s.ca) := by rw [hA]; exact box_cell 0
  have k1 : wA.cell? ⟨w.heap.size, 1, none⟩ = some (.string S.stdin) := by rw [hA]; exact box_cell 1
  have k2 : wA.cell? ⟨w.heap.size, 2, none⟩ = some (.slice s.oR S.reps.length s.cR) := by rw [hA]; exact box_cell 2
  have k3 : wA.cell? ⟨w.heap.size, 3, none⟩ = some (.slice s.oX S.fails.length s.cX) := by rw [hA]; exact box_cell 3
  rw [← hA]
  have HB := Lib.hid (⟨hbA, HW0.out.below hbA⟩ : _ ∧ _)
  clear hbA hA
  generalize w.heap.size = bx at k0 k1 k2 k3 ⊢
  generalize hza : s.oa = oa at k0
  generalize hzR : s.oR = oR at k2
  generalize hzX : s.oX = oX at k3
  have HZ := Lib.hid (⟨hza, hzR, hzX⟩ : _ ∧ _ ∧ _)
  clear hza hzR hzX
  by_cases a1 : S.files.length ≤ 8
  · have b1 : ¬ 8 < (S.files.length : Int) := by omega
    by_cases a2 : S.reps.length ≤ 8
    · have b2 : ¬ 8 < (S.reps.length : Int) := by omega
      by_cases a3 : S.fails.length ≤ 8
      · have b3 : ¬ 8 < (S.fails.length : Int) := by omega
        by_cases a4 : S.stdin.size ≤ 200
        · have b4 : ¬ 200 < (S.stdin.size : Int) := by omega
          go_wp2_with fail
          go_loopg [7] S.files.length (fun q i wr => ∃ j, S.files.length - j = q ∧ j ≤ S.files.length ∧ i = .int .i64 (j : Int) ∧ wr = wA ∧ ∀ p ∈ S.files.take j, p.1.size ≤ 200 ∧ p.2.size ≤ 200)
          case atStart => exact ⟨0, rfl, Nat.zero_le _, rfl, rfl, fun p hp => by simp at hp⟩
          case round =>
            obtain ⟨j, hq, hj, rfl, hw, hall⟩ := hrel
            have hw := hw.symm
            subst hw
            have HV7 := Lib.hid hall
            clear hall
            by_cases hlt : j < S.files.length
            · have hlt' : (j : Int) < (S.files.length : Int) := by omega
              obtain ⟨p, hp⟩ : ∃ p, S.files[j]? = some p := ⟨_, List.getElem?_eq_getElem hlt⟩
              obtain ⟨g, off, hg, d0, d1⟩ := HB.out.2.ra j p hp
              rw [HZ.out.1] at hg
              have HG := Lib.hid (⟨hg, d0, d1⟩ : _ ∧ _ ∧ _)
              clear d0 d1 hg
              obtain ⟨hg, d0, d1⟩ := HG.out
              subst hg
              have HP := Lib.hid hp
              clear hp
              by_cases cn : p.1.size ≤ 200
              · have icn : ¬ 200 < (p.1.size : Int) := by omega
                by_cases cd : p.2.size ≤ 200
                · have icd : ¬ 200 < (p.2.size : Int) := by omega
                  have HC := Lib.hid (show p.1.size ≤ 200 ∧ p.2.size ≤ 200 from ⟨cn, cd⟩)
                  go_wp2_with fail
                  go_roundg (S.files.length - (j + 1))
                  case measure => omega
                  case rel =>
                    refine ⟨j + 1, rfl, hlt, by go_num, rfl, fun q hq2 => ?_⟩
                    rw [List.take_add_one, HP.out] at hq2
                    rcases List.mem_append.1 hq2 with hq2 | hq2
                    · exact HV7.out q hq2
                    · obtain rfl : q = p := by simpa using hq2
                      exact HC.out
                · have icd : 200 < (p.2.size : Int) := by omega
                  go_wp2_with fail
                  go_ret
                  exact ⟨(by rw [shortB_no (fun hs => by have q := hs.fn p (List.mem_of_getElem? HP.out); omega)]; first | done | rfl), HB.out.1⟩
              · have icn : 200 < (p.1.size : Int) := by omega
                go_wp2_with fail
                go_ret
                exact ⟨(by rw [shortB_no (fun hs => by have q := hs.fn p (List.mem_of_getElem? HP.out); omega)]; first | done | rfl), HB.out.1⟩
            · obtain rfl : j = S.files.length := by omega
              have hge : ¬ (S.files.length : Int) < (S.files.length : Int) := by omega
              have hv := HV7.out
              rw [List.take_length] at hv
              have HW7 := Lib.hid hv
              clear hv
              go_wp2_with fail
              go_loopg [8] S.reps.length (fun q i wr => ∃ j, S.reps.length - j = q ∧ j ≤ S.reps.length ∧ i = .int .i64 (j : Int) ∧ wr = wA ∧ ∀ p ∈ S.reps.take j, p.cmd.size ≤ 200 ∧ p.out.size ≤ 200)
              case atStart => exact ⟨0, rfl, Nat.zero_le _, rfl, rfl, fun p hp => by simp at hp⟩
              case round =>
                obtain ⟨j, hq, hj, rfl, hw, hall⟩ := hrel
                have hw := hw.symm
                subst hw
                have HV8 := Lib.hid hall
                clear hall
                by_cases hlt : j < S.reps.length
                · have hlt' : (j : Int) < (S.reps.length : Int) := by omega
                  obtain ⟨p, hp⟩ : ∃ p, S.reps[j]? = some p := ⟨_, List.getElem?_eq_getElem hlt⟩
                  obtain ⟨g, off, hg, d0, d1, d2⟩ := HB.out.2.rr j p hp
                  rw [HZ.out.2.1] at hg
                  subst hg
                  have HP := Lib.hid hp
                  clear hp
                  by_cases cn : p.cmd.size ≤ 200
                  · have icn : ¬ 200 < (p.cmd.size : Int) := by omega
                    by_cases cd : p.out.size ≤ 200
                    · have icd : ¬ 200 < (p.out.size : Int) := by omega
                      have HC := Lib.hid (show p.cmd.size ≤ 200 ∧ p.out.size ≤ 200 from ⟨cn, cd⟩)
                      go_wp2_with fail
                      go_roundg (S.reps.length - (j + 1))
                      case measure => omega
                      case rel =>
                        refine ⟨j + 1, rfl, hlt, by go_num, rfl, fun q hq2 => ?_⟩
                        rw [List.take_add_one, HP.out] at hq2
                        rcases List.mem_append.1 hq2 with hq2 | hq2
                        · exact HV8.out q hq2
                        · obtain rfl : q = p := by simpa using hq2
                          exact HC.out
                    · have icd : 200 < (p.out.size : Int) := by omega
                      go_wp2_with fail
                      go_ret
                      exact ⟨(by rw [shortB_no (fun hs => by have q := hs.rn p (List.mem_of_getElem? HP.out); omega)]; first | done | rfl), HB.out.1⟩
                  · have icn : 200 < (p.cmd.size : Int) := by omega
                    go_wp2_with fail
                    go_ret
                    exact ⟨(by rw [shortB_no (fun hs => by have q := hs.rn p (List.mem_of_getElem? HP.out); omega)]; first | done | rfl), HB.out.1⟩
                · obtain rfl : j = S.reps.length := by omega
                  have hge : ¬ (S.reps.length : Int) < (S.reps.length : Int) := by omega
                  have hv := HV8.out
                  rw [List.take_length] at hv
                  have HW8 := Lib.hid hv
                  clear hv
                  go_wp2_with fail
                  go_loopg [9] S.fails.length (fun q i wr => ∃ j, S.fails.length - j = q ∧ j ≤ S.fails.length ∧ i = .int .i64 (j : Int) ∧ wr = wA ∧ ∀ p ∈ S.fails.take j, p.name.size ≤ 200)
                  case atStart => exact ⟨0, rfl, Nat.zero_le _, rfl, rfl, fun p hp => by simp at hp⟩
                  case round =>
                    obtain ⟨j, hq, hj, rfl, hw, hall⟩ := hrel
                    have hw := hw.symm
                    subst hw
                    have HV9 := Lib.hid hall
                    clear hall
                    by_cases hlt : j < S.fails.length
                    · have hlt' : (j : Int) < (S.fails.length : Int) := by omega
                      obtain ⟨p, hp⟩ : ∃ p, S.fails[j]? = some p := ⟨_, List.getElem?_eq_getElem hlt⟩
                      obtain ⟨g, off, hg, d0, d1⟩ := HB.out.2.rx j p hp
                      rw [HZ.out.2.2] at hg
                      subst hg
                      have HP := Lib.hid hp
                      clear hp
                      by_cases cn : p.name.size ≤ 200
                      · have icn : ¬ 200 < (p.name.size : Int) := by omega
                        have HC := Lib.hid (show p.name.size ≤ 200 from cn)
                        go_wp2_with fail
                        go_roundg (S.fails.length - (j + 1))
                        case measure => omega
                        case rel =>
                          refine ⟨j + 1, rfl, hlt, by go_num, rfl, fun q hq2 => ?_⟩
                          rw [List.take_add_one, HP.out] at hq2
                          rcases List.mem_append.1 hq2 with hq2 | hq2
                          · exact HV9.out q hq2
                          · obtain rfl : q = p := by simpa using hq2
                            exact HC.out
                      · have icn : 200 < (p.name.size : Int) := by omega
                        go_wp2_with fail
                        go_ret
                        exact ⟨(by rw [shortB_no (fun hs => by have q := hs.xn p (List.mem_of_getElem? HP.out); omega)]; first | done | rfl), HB.out.1⟩
                    · obtain rfl : j = S.fails.length := by omega
                      have hge : ¬ (S.fails.length : Int) < (S.fails.length : Int) := by omega
                      have hv := HV9.out
                      rw [List.take_length] at hv
                      have HW9 := Lib.hid hv
                      clear hv
                      go_wp2_with fail
                      go_ret
                      exact ⟨(by rw [shortB_yes ⟨a1, a2, a3, a4, HW7.out, HW8.out, HW9.out⟩]; first | done | rfl), HB.out.1⟩
        · have b9 : 200 < (S.stdin.size : Int) := by omega
          go_wp2_with fail
          go_ret
          exact ⟨(by rw [shortB_no (fun hs => by have q := hs.sz; omega)]; first | done | rfl), HB.out.1⟩
      · have b9 : 8 < (S.fails.length : Int) := by omega
        go_wp2_with fail
        go_ret
        exact ⟨(by rw [shortB_no (fun hs => by have q := hs.x8; omega)]; first | done | rfl), HB.out.1⟩
    · have b9 : 8 < (S.reps.length : Int) := by omega
      go_wp2_with fail
      go_ret
      exact ⟨(by rw [shortB_no (fun hs => by have q := hs.r8; omega)]; first | done | rfl), HB.out.1⟩
  · have b9 : 8 < (S.files.length : Int) := by omega
    go_wp2_with fail
    go_ret
    exact ⟨(by rw [shortB_no (fun hs => by have q := hs.f8; omega)]; first | done | rfl), HB.out.1⟩
end Go.Proofs.Ythbkcdbmimhhkaa.Rw
