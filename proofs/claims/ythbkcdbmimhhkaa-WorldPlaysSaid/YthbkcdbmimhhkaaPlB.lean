/-
  Package world: a script that may not be (New refuses).
-/
import Derived.Test.YthbkcdbmimhhkaaPa
namespace Go.Proofs.Ythbkcdbmimhhkaa.Rw
open Go.RowKit Go.Maps Wo
theorem files_there {L : List FileD} {n : ByteArray} {stdin : ByteArray} {most clk ch : Int} (ho : Once2 L) (h : ∃ q ∈ L, q.1 = n) : ∃ l, (filesTo (st0 stdin most clk ch) L).file n = some l := by
  rw [files_look n L _ ho (fun p hp => rfl)]
  obtain ⟨q, hq, e⟩ := h
  cases hl : lookF n L with
  | none => exact absurd e (lookF_none hl q hq)
  | some p => exact ⟨_, rfl⟩
theorem reps_there {L : List RepD} {n : ByteArray} (ho : Once3 L) (h : ∃ q ∈ L, q.cmd = n) : ∃ g, repTo L n = some g := by
  unfold repTo
  rw [reps_look n L _ ho]
  obtain ⟨q, hq, e⟩ := h
  cases hl : lookR n L with
  | none =>
    unfold lookR at hl
    rw [List.find?_eq_none] at hl
    exact absurd e (by simpa using hl q hq)
  | some p => exact ⟨_, rfl⟩
end Go.Proofs.Ythbkcdbmimhhkaa.Rw
namespace Go.Proofs.Ythbkcdbmimhhkaa.Wo
open Go.RowKit Go.Maps
theorem bld_some (b : Nat) (w : World) : (binOp .neq 87 (ptr b) (.pointer none)).run Try.prog w = .ok (.bool true) w := by
  have h : ∀ d : Nat, (Op.equalIn (d + 1) 87 (ptr b) (.pointer none)).run Try.prog w = .ok false w := fun d => by
    simp [Op.equalIn, run_underlying Try.underlying87]
  simp only [binOp]
  simp [Op.equal, Op.maxDepth, h 9999]
theorem someLook {sv : Value} {w : World} {B fm rm xm : Nat} {D : DataW Unit} {vs vt : Value} {ps : List Value} {T : Tags} {st : St} {n : ByteArray} {l0 : List UInt8} (h : WdAtS sv w B fm rm xm D vs vt ps T st) (hn : Small n) (hf : st.file n = some l0) : ∃ b, ∀ m, (Instr.lookup 81 (.map (some fm)) (.string n) false).run Try.prog (w.drewN m) = .ok (ptr b) (w.drewN m) := by
  rcases h.look n hn with ⟨h1, h2⟩ | ⟨l, b, buf, h1, h2, h3, _⟩
  · rw [hf] at h1; cases h1
  · refine ⟨b, fun m => ?_⟩
    have h4 : WdAtS sv (w.drewN m) B fm rm xm D vs vt ps T st := h.later (Nat.le_refl _) fun _ _ => rfl
    rcases h4.look n hn with ⟨k1, k2⟩ | ⟨l2, b2, buf2, k1, k2, k3, _⟩
    · rw [hf] at k1; cases k1
    · have e : ptrD b = ptrD b2 := h3.symm.trans k3
      have e2 : (b : Int) = b2 := by simpa [ptrD] using e
      obtain rfl : b = b2 := by omega
      exact k2
theorem repLookSome {w : World} {rm N : Nat} {g : ByteArray → Option (ByteArray × Int)} (h : RepN w rm N g) {n : ByteArray} {x : ByteArray × Int} (hn : Small n) (hg : g n = some x) (k : Nat) :
    ∃ c : ByteArray, (Instr.lookup 82 (.map (some rm)) (.string n) true).run Try.prog (w.drewN k) = .ok (.tuple #[.agg #[.string c, .string x.1, .int .i64 x.2], .bool true]) (w.drewN k) := by
  have h2 : RepN (w.drewN k) rm N g := h.of_block rfl
  obtain ⟨D, h3, h4⟩ := h2
  obtain ⟨e1, e2⟩ := h4 n hn
  obtain ⟨v, q, r1, r2⟩ := h3.look_ok keyed Try.underlying82 (zero_reply (w.drewN k)) (zd := encR (noText, 0)) (zp := []) rfl (key_of hn)
  rw [e2, hg] at r2
  obtain ⟨c, rfl⟩ := rdRep_inv r2
  rw [e1, hg] at r1
  exact ⟨c, r1⟩
set_option maxHeartbeats 4000000 in
set_option maxRecDepth 100000 in
theorem newTwice {w : World} {oa oR oX : Option Addr} {nf cf cR cX : Nat} {L : List FileD} {R : List RepD} {X : List FailD} {stdin : ByteArray} {most clk ch : Int} (hm : 0 ≤ most ∧ most ≤ 16) (hL : Row2 w oa L) (hn : nf = L.length) (hz : L.length ≤ 1000) (hsm : ∀ p ∈ L, Small p.1 ∧ p.2.size ≤ 1000000) (hR : Row3 w oR R) (hzR : R.length ≤ 1000) (hsR : ∀ r ∈ R, Small r.cmd) (hbad : ¬ (Once2 L ∧ Once3 R)) :
    Calls Try.prog 8 #[.agg #[.slice oa nf cf, .string stdin, .slice oR R.length cR, .slice oX X.length cX, .int .i64 most, .int .i64 clk, .int .u64 ch]] w fun e w' => e = .returned (.tuple #[.pointer none, .int .i64 2]) ∧ Below w.heap.size w w' := by
  have h1 : ¬ most < 0 := by omega
  have h2 : ¬ 16 < most := by omega
  subst hn
  obtain ⟨wA, hA⟩ : ∃ wA, wA = (((((w.alloc (.cells #[.slice oa L.length cf, .string stdin, .slice oR R.length cR, .slice oX X.length cX, .int .i64 most, .int .i64 clk, .int .u64 ch] 27)).alloc (.map #[] 0)).alloc (.map #[] 0)).alloc (.map #[] 0)).alloc (.cells #[.pointer none, .map (some (w.heap.size + 1)), .string stdin, .map (some (w.heap.size + 1 + 1)), .map (some (w.heap.size + 1 + 1 + 1)), .int .i64 most, .int .i64 clk, .int .u64 ch, .slice none 0 0, .slice none 0 0] 86)) := ⟨_, rfl⟩
  have hw := new_at (w := w) stdin most clk ch (.cells #[.slice oa L.length cf, .string stdin, .slice oR R.length cR, .slice oX X.length cX, .int .i64 most, .int .i64 clk, .int .u64 ch] 27)
  rw [← hA] at hw
  have hbA : Below w.heap.size w wA := by rw [hA]; exact five_below w _ _ _ _ _
  have hbox := five_box w (.cells #[.slice oa L.length cf, .string stdin, .slice oR R.length cR, .slice oX X.length cX, .int .i64 most, .int .i64 clk, .int .u64 ch] 27) (.map #[] 0) (.map #[] 0) (.map #[] 0) (.cells #[.pointer none, .map (some (w.heap.size + 1)), .string stdin, .map (some (w.heap.size + 1 + 1)), .map (some (w.heap.size + 1 + 1 + 1)), .int .i64 most, .int .i64 clk, .int .u64 ch, .slice none 0 0, .slice none 0 0] 86)
  rw [← hA] at hbox
  have hmm := five w (.cells #[.slice oa L.length cf, .string stdin, .slice oR R.length cR, .slice oX X.length cX, .int .i64 most, .int .i64 clk, .int .u64 ch] 27) (.map #[] 0) (.map #[] 0) (.map #[] 0) (.cells #[.pointer none, .map (some (w.heap.size + 1)), .string stdin, .map (some (w.heap.size + 1 + 1)), .map (some (w.heap.size + 1 + 1 + 1)), .int .i64 most, .int .i64 clk, .int .u64 ch, .slice none 0 0, .slice none 0 0] 86)
  rw [← hA] at hmm
  have HR := Lib.hid (⟨hR, hsR, hbad, hR, hsR, hmm.2.2.1, hmm.2.2.2.1⟩ : _ ∧ _ ∧ _ ∧ _ ∧ _ ∧ _ ∧ _)
  clear hR hsR hbad hmm
  have HH := Lib.hid (⟨hL, hsm, hL, hw, hbA, hbox⟩ : _ ∧ _ ∧ _ ∧ _ ∧ _ ∧ _)
  clear hL hsm hw hbA hbox
  go_enter Try.func8, Try.ntmps8
  go_wp2_with (first | rw [makeMap1] | rw [makeMap2] | rw [makeMap3])
  rw [← hA]
  clear hA
  go_loopg [37] L.length (fun q i wr => ∃ j, L.length - j = q ∧ j ≤ L.length ∧ i = .int .i64 (j : Int) ∧ Once2 (L.take j) ∧ ∃ D T', WdAtS (.pointer none) wr (w.heap.size + 1 + 1 + 1 + 1) (w.heap.size + 1) (w.heap.size + 1 + 1) (w.heap.size + 1 + 1 + 1) D (.slice none 0 0) (.slice none 0 0) [] T' (filesTo (st0 stdin most clk ch) (L.take j)) ∧ OnlyNew (.cells #[.slice oa L.length cf, .string stdin, .slice oR R.length cR, .slice oX X.length cX, .int .i64 most, .int .i64 clk, .int .u64 ch] 27) w wr T' ∧ wr.heap[w.heap.size + 1 + 1]? = some (.map #[] 0) ∧ wr.heap[w.heap.size + 1 + 1 + 1]? = some (.map #[] 0))
  case atStart => exact ⟨0, rfl, Nat.zero_le _, rfl, List.Pairwise.nil, _, _, HH.out.2.2.2.1, ⟨new_only _, HH.out.2.2.2.2.1, newTags_box _, HH.out.2.2.2.2.2⟩, HR.out.2.2.2.2.2.1, HR.out.2.2.2.2.2.2⟩
  case round =>
    obtain ⟨j, hq, hj, rfl, hon, D1, T1, hw1, hnw1, hrm1, hxm1⟩ := hrel
    have HON := Lib.hid hon
    clear hon
    by_cases hlt : j < L.length
    · have hlt' : (j : Int) < (L.length : Int) := by omega
      obtain ⟨p, hp⟩ : ∃ p, L[j]? = some p := ⟨_, List.getElem?_eq_getElem hlt⟩
      obtain ⟨g, off, rfl, d0, d1⟩ := HH.out.1.below hnw1.2.1 j p hp
      have hpm : p ∈ L := List.mem_of_getElem? hp
      by_cases hdup : ∃ q ∈ L.take j, q.1 = p.1
      · obtain ⟨l0, hl0⟩ : ∃ l0, (filesTo (st0 stdin most clk ch) (L.take j)).file p.1 = some l0 := Rw.files_there HON.out hdup
        have hsl := HH.out.2.1 p hpm
        clear hdup hp
        generalize filesTo (st0 stdin most clk ch) (L.take j) = s1 at hw1 hl0
        obtain ⟨wB, hB⟩ : ∃ wB, wB = wr.alloc (.cells #[.string p.1, .string p.2] 54) := ⟨_, rfl⟩
        have hbB : Below wr.heap.size wr wB := by rw [hB]; exact (Below.refl _ wr).alloc (Nat.le_refl _) _
        have hwB := hw1.below hbB
        obtain ⟨bb, hlk⟩ := someLook hwB hsl.1 hl0
        have hneq := bld_some bb
        have c1 := hwB.cells.c1
        have b0 : wB.cell? ⟨wr.heap.size, 0, none⟩ = some (.string p.1) := by rw [hB]; exact box_cell 0
        have HW := Lib.hid (⟨hnw1.2.1.trans (hbB.mono hnw1.2.1.size), hwB⟩ : _ ∧ _)
        clear hw1 hnw1 hwB hbB hrm1 hxm1 hl0
        go_wp2_with fail
        rw [← hB]
        clear hB
        go_quiet (fail)
        go_wp2_with fail
        go_ret2
        exact ⟨rfl, below_drewN HW.out.1 _⟩
      · have hno : (filesTo (st0 stdin most clk ch) (L.take j)).file p.1 = none := filesTo_none _ _ _ rfl (fun q hq e => hdup ⟨q, hq, e⟩)
        have hon2 : Once2 (L.take (j + 1)) := Rw.once_step (fun p : FileD => p.1) L hp HON.out (fun k b hk hb e => hdup ⟨b, List.mem_of_getElem? ((List.getElem?_take_of_lt hk).trans hb), e⟩)
        have HO2 := Lib.hid hon2
        clear hon2 hdup
        have hmd := filesTo_made (st0 stdin most clk ch) (L.take j)
        have hmd2 : (filesTo (st0 stdin most clk ch) (L.take j)).made ≤ 1000000 := by
          have : (st0 stdin most clk ch).made = 0 := rfl
          rw [List.length_take] at hmd; omega
        have htk : filesTo (st0 stdin most clk ch) (L.take (j + 1)) = fileS (filesTo (st0 stdin most clk ch) (L.take j)) p := by
          rw [List.take_add_one, hp]; exact filesTo_snoc _ _ _
        generalize filesTo (st0 stdin most clk ch) (L.take j) = s1 at hw1 hno htk hmd2
        clear hmd hp
        obtain ⟨wB, hB⟩ : ∃ wB, wB = wr.alloc (.cells #[.string p.1, .string p.2] 54) := ⟨_, rfl⟩
        have hbB : Below wr.heap.size wr wB := by rw [hB]; exact (Below.refl _ wr).alloc (Nat.le_refl _) _
        have hwB := hw1.below hbB
        have hTn : T1 wr.heap.size = .no := Classical.byContradiction fun e => by have := hw1.lt _ e; omega
        have hsl := HH.out.2.1 p hpm
        have hlk := noneLook hwB hsl.1 hno
        have hneq := bld_neq_nil
        have c1 := hwB.cells.c1
        have b0 : wB.cell? ⟨wr.heap.size, 0, none⟩ = some (.string p.1) := by rw [hB]; exact box_cell 0
        have b1 : wB.cell? ⟨wr.heap.size, 1, none⟩ = some (.string p.2) := by rw [hB]; exact box_cell 1
        have HW := Lib.hid (⟨hw1, hnw1, hwB, hbB, hno, htk, hsl, hTn⟩ : _ ∧ _ ∧ _ ∧ _ ∧ _ ∧ _ ∧ _ ∧ _)
        have HM := Lib.hid (⟨(hbB.block _ (hw1.lt _ (by rw [hw1.tr]; simp))).trans hrm1, (hbB.block _ (hw1.lt _ (by rw [hw1.tx]; simp))).trans hxm1⟩ : _ ∧ _)
        clear hw1 hnw1 hwB hbB hno htk hTn hrm1 hxm1
        go_wp2_with fail
        rw [← hB]
        clear hB
        go_quiet (fail)
        go_wp2_with fail
        go_region_law (first
          | (go_simp; go_at_call 29; refine (fileX (by exact HW.out.2.2.1.later (Nat.le_refl _) fun _ _ => rfl) p.1 hsl.1 hmd2).mono ?_; rintro e w4 ⟨b, D', T', rfl, q1, q2, q3, q4, q9⟩; have m1 : w4.heap[w.heap.size + 1 + 1]? = some (.map #[] 0) := (q9.block _ (Array.getElem?_eq_some_iff.1 HM.out.1).1 (by omega)).trans HM.out.1; have m2 : w4.heap[w.heap.size + 1 + 1 + 1]? = some (.map #[] 0) := (q9.block _ (Array.getElem?_eq_some_iff.1 HM.out.2).1 (by omega)).trans HM.out.2; have HM4 := Lib.hid (⟨m1, m2⟩ : _ ∧ _); clear m1 m2 q9; obtain ⟨l, buf, q5, q6, q7, q8⟩ := begun_at q1 hsl.1 q4; have q10 := Option.some.inj (q5.symm.trans (beginS_file s1 p.1)); have z3 : Turn (fun k => T1 k ≠ .no) wB w4 := ⟨q3.os, q3.tape, q3.output, q3.size, q3.block⟩; have b1' := (World.cell?_of_block (a := ⟨wr.heap.size, 1, none⟩) (z3.block wr.heap.size (cell_lt b1) fun e => e HW.out.2.2.2.2.2.2.2)).trans b1; have H4 := Lib.hid (⟨q1, q2, z3, q10, q6, q7, q8, q4⟩ : _ ∧ _ ∧ _ ∧ _ ∧ _ ∧ _ ∧ _ ∧ _); clear q1 q2 q3 q4 q5 q6 q7 q8 q10 z3)
          | (go_simp; go_at_call 30; refine (writeString p.2 H4.out.2.2.2.2.1 (by rw [H4.out.2.2.2.1, HW.out.2.2.2.2.1]; show 0 + _ ≤ _; have := hsl.2; omega)).mono ?_; rintro e w5 ⟨rfl, buf', s1, s2, s3⟩; obtain ⟨T5, r1, r2, r3⟩ := H4.out.1.wrote hsl.1 H4.out.2.2.2.2.2.2.2 H4.out.2.2.2.2.1 H4.out.2.2.2.2.2.1 H4.out.2.2.2.2.2.2.1 s2 s1 s3; rw [H4.out.2.2.2.1] at r1; have m1 := (s2.block _ (Array.getElem?_eq_some_iff.1 HM4.out.1).1 (not_bld H4.out.1.tr H4.out.2.2.2.2.2.1 H4.out.2.2.2.2.2.2.1 (by simp) (by simp))).trans HM4.out.1; have m2 := (s2.block _ (Array.getElem?_eq_some_iff.1 HM4.out.2).1 (not_bld H4.out.1.tx H4.out.2.2.2.2.2.1 H4.out.2.2.2.2.2.2.1 (by simp) (by simp))).trans HM4.out.2; have H5 := Lib.hid (⟨r1, r2, r3, m1, m2⟩ : _ ∧ _ ∧ _ ∧ _ ∧ _); clear s1 s2 s3 r1 r2 r3 m1 m2))
        all_goals go_wp2_with fail
        all_goals go_roundg (L.length - (j + 1))
        case measure | measure | measure => omega
        all_goals
          have q2 : ∀ k, k < wB.heap.size → T' k = T1 k := H4.out.2.1
          have hz := HW.out.2.2.2.1.size
          have hz4 := H4.out.2.2.1.size
          refine ⟨j + 1, rfl, hlt, by go_num, HO2.out, D', T5, ?_, HW.out.2.1.step (fun k hk => (H5.out.2.1 k (by omega)).trans (q2 k (by omega))) ((H4.out.2.2.1.thenTags H5.out.2.2.1 q2).before HW.out.2.2.2.1), H5.out.2.2.2.1, H5.out.2.2.2.2⟩
          rw [HW.out.2.2.2.2.2.1]
          exact H5.out.1
    · obtain rfl : j = L.length := by omega
      have hge : ¬ (L.length : Int) < (L.length : Int) := by omega
      rw [List.take_length] at hw1
      have hon1 := HON.out
      rw [List.take_length] at hon1
      have HON1 := Lib.hid hon1
      clear hon1
      have x2 : wr.cell? ⟨w.heap.size, 2, none⟩ = some (.slice oR R.length cR) := by simp [World.cell?, hnw1.2.2.2]
      have HW := Lib.hid (⟨hw1, hnw1, hrm1, hxm1⟩ : _ ∧ _ ∧ _ ∧ _)
      clear hw1 hnw1 hrm1 hxm1
      go_wp2_with fail
      go_loopg [60] R.length (fun q i w9 => ∃ m, R.length - m = q ∧ m ≤ R.length ∧ i = .int .i64 (m : Int) ∧ Once3 (R.take m) ∧ ∃ D T', WdAtS (.pointer none) w9 (w.heap.size + 1 + 1 + 1 + 1) (w.heap.size + 1) (w.heap.size + 1 + 1) (w.heap.size + 1 + 1 + 1) D (.slice none 0 0) (.slice none 0 0) [] T' { filesTo (st0 stdin most clk ch) L with reply := repTo (R.take m) } ∧ OnlyNew (.cells #[.slice oa L.length cf, .string stdin, .slice oR R.length cR, .slice oX X.length cX, .int .i64 most, .int .i64 clk, .int .u64 ch] 27) w w9 T' ∧ RepN w9 (w.heap.size + 1 + 1) m (repTo (R.take m)) ∧ w9.heap[w.heap.size + 1 + 1 + 1]? = some (.map #[] 0))
      case atStart =>
        refine ⟨0, rfl, Nat.zero_le _, rfl, List.Pairwise.nil, D1, T1, ?_, HW.out.2.1, rep_start HW.out.2.2.1, HW.out.2.2.2⟩
        have e0 := with_reply (s := filesTo (st0 stdin most clk ch) L) (g := repTo (R.take 0)) ((filesTo_reply _ _).1.trans (by rfl))
        exact e0 ▸ HW.out.1
      case round =>
        clear x2
        clear HW
        obtain ⟨m, hqm, hm2, rfl, hom, D2, T2, hw2, hnw2, hrep2, hxm2⟩ := hrel
        have HOM := Lib.hid hom
        clear hom
        by_cases hltm : m < R.length
        · have hltm' : (m : Int) < (R.length : Int) := by omega
          obtain ⟨r, hr⟩ : ∃ r, R[m]? = some r := ⟨_, List.getElem?_eq_getElem hltm⟩
          obtain ⟨g, off, rfl, d0, d1, d2⟩ := HR.out.1.below hnw2.2.1 m r hr
          have hsm := HR.out.2.1 r (List.mem_of_getElem? hr)
          by_cases hdup : ∃ q ∈ R.take m, q.cmd = r.cmd
          · obtain ⟨g0, hno⟩ : ∃ g0, repTo (R.take m) r.cmd = some g0 := Rw.reps_there HOM.out hdup
            clear hdup
            have htk := hno
            obtain ⟨wB, hB⟩ : ∃ wB, wB = wr.alloc (.cells #[.string r.cmd, .string r.out, .int .i64 r.status] 74) := ⟨_, rfl⟩
            have hbB : Below wr.heap.size wr wB := by rw [hB]; exact (Below.refl _ wr).alloc (Nat.le_refl _) _
            have hwB := hw2.below hbB
            have hrB := hrep2.of_block (w' := wB) (hbB.block _ (hw2.lt _ (by rw [hw2.tr]; simp)))
            have hxB := (hbB.block _ (hw2.lt _ (by rw [hw2.tx]; simp))).trans hxm2
            have c3 := hwB.cells.c3
            have b0 : wB.cell? ⟨wr.heap.size, 0, none⟩ = some (.string r.cmd) := by rw [hB]; exact box_cell 0
            have b1 : wB.cell? ⟨wr.heap.size, 1, none⟩ = some (.string r.out) := by rw [hB]; exact box_cell 1
            have b2 : wB.cell? ⟨wr.heap.size, 2, none⟩ = some (.int .i64 r.status) := by rw [hB]; exact box_cell 2
            have hzB : wB.heap.size = wr.heap.size + 1 := by rw [hB]; exact alloc_size _ _
            have HW := Lib.hid (⟨hw2, hnw2, hwB, hbB, hrB, hxB, htk, hno, hzB⟩ : _ ∧ _ ∧ _ ∧ _ ∧ _ ∧ _ ∧ _ ∧ _ ∧ _)
            clear hw2 hnw2 hwB hbB hrB hxB htk hrep2 hxm2 hno hr hzB
            go_wp2_with fail
            rw [← hB]
            clear hB
            obtain ⟨cc1, hl1⟩ := repLookSome (HW.out.2.2.2.2.1.of_block (w' := wB.drew) rfl) hsm HW.out.2.2.2.2.2.2.2.1 0
            have hrl : w.heap.size + 1 + 1 < wB.heap.size := HW.out.2.2.1.lt _ (by rw [HW.out.2.2.1.tr]; simp)
            obtain ⟨cc2, hl2⟩ := repLookSome (HW.out.2.2.2.2.1.of_block (w' := (wB.alloc (.cells #[.string noText, .string noText, .int .i64 0] 74)).drew) (alloc_old wB _ hrl)) hsm HW.out.2.2.2.2.2.2.2.1 0
            rw [World.drewN_zero] at hl1 hl2
            have hoB : Below wB.heap.size wB (wB.alloc (.cells #[.string noText, .string noText, .int .i64 0] 74)) := (Below.refl _ wB).alloc (Nat.le_refl _) _
            have k3 := (hoB.cell (cell_lt c3)).trans c3
            have k0 := (hoB.cell (cell_lt b0)).trans b0
            have k1 := (hoB.cell (cell_lt b1)).trans b1
            have k2 := (hoB.cell (cell_lt b2)).trans b2
            go_region_law (fail)
            all_goals
              clear hl1 hl2
              go_wp2_with fail
              go_ret2
              have hbw := HW.out.2.1.2.1.trans (HW.out.2.2.2.1.mono HW.out.2.1.2.1.size)
              exact ⟨rfl, (hbw.alloc hbw.size _).drew⟩
          · have hno : repTo (R.take m) r.cmd = none := repTo_none _ _ (fun q hq e => hdup ⟨q, hq, e⟩)
            have hon2 : Once3 (R.take (m + 1)) := Rw.once_step (fun p : RepD => p.cmd) R hr HOM.out (fun k b hk hb e => hdup ⟨b, List.mem_of_getElem? ((List.getElem?_take_of_lt hk).trans hb), e⟩)
            have HO2 := Lib.hid hon2
            clear hon2 hdup
            have htk : repTo (R.take (m + 1)) = repS (repTo (R.take m)) r := by
              rw [List.take_add_one, hr]; exact repTo_snoc _ _
            obtain ⟨wB, hB⟩ : ∃ wB, wB = wr.alloc (.cells #[.string r.cmd, .string r.out, .int .i64 r.status] 74) := ⟨_, rfl⟩
            have hbB : Below wr.heap.size wr wB := by rw [hB]; exact (Below.refl _ wr).alloc (Nat.le_refl _) _
            have hwB := hw2.below hbB
            have hrB := hrep2.of_block (w' := wB) (hbB.block _ (hw2.lt _ (by rw [hw2.tr]; simp)))
            have hxB := (hbB.block _ (hw2.lt _ (by rw [hw2.tx]; simp))).trans hxm2
            have c3 := hwB.cells.c3
            have b0 : wB.cell? ⟨wr.heap.size, 0, none⟩ = some (.string r.cmd) := by rw [hB]; exact box_cell 0
            have b1 : wB.cell? ⟨wr.heap.size, 1, none⟩ = some (.string r.out) := by rw [hB]; exact box_cell 1
            have b2 : wB.cell? ⟨wr.heap.size, 2, none⟩ = some (.int .i64 r.status) := by rw [hB]; exact box_cell 2
            have hzB : wB.heap.size = wr.heap.size + 1 := by rw [hB]; exact alloc_size _ _
            have HW := Lib.hid (⟨hw2, hnw2, hwB, hbB, hrB, hxB, htk, hno, hzB⟩ : _ ∧ _ ∧ _ ∧ _ ∧ _ ∧ _ ∧ _ ∧ _ ∧ _)
            clear hw2 hnw2 hwB hbB hrB hxB htk hrep2 hxm2 hno hr hzB
            go_wp2_with fail
            rw [← hB]
            clear hB
            have hl1 := repLookNone (HW.out.2.2.2.2.1.of_block (w' := wB.drew) rfl) hsm HW.out.2.2.2.2.2.2.2.1 0
            have hrl : w.heap.size + 1 + 1 < wB.heap.size := HW.out.2.2.1.lt _ (by rw [HW.out.2.2.1.tr]; simp)
            have hl2 := repLookNone (HW.out.2.2.2.2.1.of_block (w' := (wB.alloc (.cells #[.string noText, .string noText, .int .i64 0] 74)).drew) (alloc_old wB _ hrl)) hsm HW.out.2.2.2.2.2.2.2.1 0
            rw [World.drewN_zero] at hl1 hl2
            have hoB : Below wB.heap.size wB (wB.alloc (.cells #[.string noText, .string noText, .int .i64 0] 74)) := (Below.refl _ wB).alloc (Nat.le_refl _) _
            have k3 := (hoB.cell (cell_lt c3)).trans c3
            have k0 := (hoB.cell (cell_lt b0)).trans b0
            have k1 := (hoB.cell (cell_lt b1)).trans b1
            have k2 := (hoB.cell (cell_lt b2)).trans b2
            go_region_law (fail)
            all_goals
              clear hl1 hl2
              obtain ⟨wD, hD⟩ : ∃ wD, wD = (wB.alloc (.cells #[.string noText, .string noText, .int .i64 0] 74)).drew := ⟨_, rfl⟩
              have hbD : Below wB.heap.size wB wD := by rw [hD]; exact hoB.drew
              have HD := Lib.hid hbD
              have f3 : wD.cell? ⟨w.heap.size + 1 + 1 + 1 + 1, 3, none⟩ = some (.map (some (w.heap.size + 1 + 1))) := by rw [hD]; exact k3
              have f0 : wD.cell? ⟨wr.heap.size, 0, none⟩ = some (.string r.cmd) := by rw [hD]; exact k0
              have f1 : wD.cell? ⟨wr.heap.size, 1, none⟩ = some (.string r.out) := by rw [hD]; exact k1
              have f2 : wD.cell? ⟨wr.heap.size, 2, none⟩ = some (.int .i64 r.status) := by rw [hD]; exact k2
              rw [← hD]
              clear hbD hD k0 k1 k2 k3 c3 b0 b1 b2 hoB hrl
              go_wp2_with fail
              refine region_tailH 7 (by kernel_rfl) (by kernel_rfl) ?_
              intro wE hbE hhE
              have g3 := cell_of_heap hhE f3
              have g0 := cell_of_heap hhE f0
              have g1 := cell_of_heap hhE f1
              have g2 := cell_of_heap hhE f2
              simp only [List.take_succ_cons, List.take_zero, List.drop_succ_cons, List.drop_zero]
              repeat still_step
              refine wpStill_nil ?_
              have hBE : Below wB.heap.size wB wE := HD.out.trans (hbE.mono HD.out.size)
              have hrE : RepN wE (w.heap.size + 1 + 1) m (repTo (R.take m)) := HW.out.2.2.2.2.1.of_block (hBE.block _ (HW.out.2.2.1.lt _ (by rw [HW.out.2.2.1.tr]; simp)))
              obtain ⟨D4, hown4, h24⟩ := hrE
              refine wpList_mapUpdate_in _ rfl _ _ _ 82 rfl 9 74 keyed Try.underlying82 rdRep (w.heap.size + 1 + 1) m D4 rfl hown4 (by unfold maxLen; omega) (.string r.cmd) (.agg #[.string r.cmd, .string r.out, .int .i64 r.status]) (kl r.cmd) rfl rfl (key_of hsm) (encR (r.out, r.status)) [] (by rfl) ?_
              intro w3 hown3 hturn3
              have H3 := Lib.hid (⟨hown3, hturn3, hown4, h24, hBE⟩ : _ ∧ _ ∧ _ ∧ _ ∧ _)
              clear hown3 hturn3 hown4 h24 hBE hbE hhE g0 g1 g2 g3 f0 f1 f2 f3
              go_wp2_with fail
              go_roundg (R.length - (m + 1))
              case measure => omega
              have hg3 := H3.out.2.1.grown
              have hput : RepN w3 (w.heap.size + 1 + 1) (m + 1) (repTo (R.take (m + 1))) := by
                rw [HW.out.2.2.2.2.2.2.1]
                exact RepN.put (owns_isMap H3.out.2.2.1) H3.out.2.2.2.1 H3.out.1
              have ht3 : Turn (fun k => k = w.heap.size + 1 + 1) wB w3 := ((Turn.of_grown hg3).mono fun k hk => by simpa using hk).before H3.out.2.2.2.2
              obtain ⟨y1, y2⟩ := HW.out.2.2.1.replied ht3 (hput.replies (by omega))
              refine ⟨m + 1, rfl, hltm, by go_num, HO2.out, D2, T2, y1, HW.out.2.1.step (fun k _ => rfl) (y2.before HW.out.2.2.2.1), hput, ?_⟩
              exact (ht3.block _ (Array.getElem?_eq_some_iff.1 HW.out.2.2.2.2.2.1).1 (by omega)).trans HW.out.2.2.2.2.2.1
        · obtain rfl : m = R.length := by omega
          exfalso
          have q := HOM.out
          rw [List.take_length] at q
          exact HR.out.2.2.1 ⟨HON1.out, q⟩
set_option maxHeartbeats 4000000 in
set_option maxRecDepth 100000 in
theorem newMost {w : World} {oa oR oX : Option Addr} {nf nR nX cf cR cX : Nat} {stdin : ByteArray} {most clk ch : Int} (hm : ¬ (0 ≤ most ∧ most ≤ 16)) :
    Calls Try.prog 8 #[.agg #[.slice oa nf cf, .string stdin, .slice oR nR cR, .slice oX nX cX, .int .i64 most, .int .i64 clk, .int .u64 ch]] w fun e w' => e = .returned (.tuple #[.pointer none, .int .i64 2]) ∧ Below w.heap.size w w' := by
  by_cases h1 : most < 0
  · go_enter Try.func8, Try.ntmps8
    go_wp2_with fail
    go_ret2
    exact ⟨rfl, (Below.refl _ w).alloc (Nat.le_refl _) _⟩
  · have h2 : 16 < most := by omega
    go_enter Try.func8, Try.ntmps8
    go_wp2_with fail
    go_ret2
    exact ⟨rfl, (Below.refl _ w).alloc (Nat.le_refl _) _⟩
theorem newBad {w : World} {S : Rw.Scpt} {s : Rw.Shp} (h : Rw.ScrAt w S s) (hz : S.files.length ≤ 1000) (hsm : ∀ p ∈ S.files, Small p.1 ∧ p.2.size ≤ 1000000) (hzR : S.reps.length ≤ 1000) (hsR : ∀ r ∈ S.reps, Small r.cmd) (hbad : ¬ Rw.OkS S) :
    Calls Try.prog 8 #[.agg (Rw.scr7 S s)] w fun e w' => e = .returned (.tuple #[.pointer none, .int .i64 2]) ∧ Below w.heap.size w w' := by
  by_cases hm : 0 ≤ S.most ∧ S.most ≤ 16
  · exact newTwice (X := S.fails) hm h.ra rfl hz hsm h.rr hzR hsR fun e => hbad ⟨e.1, e.2, hm.1, hm.2⟩
  · exact newMost hm
end Go.Proofs.Ythbkcdbmimhhkaa.Wo
