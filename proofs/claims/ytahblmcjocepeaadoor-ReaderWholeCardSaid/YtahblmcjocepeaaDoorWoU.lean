/-
  Package world: a world made of its script (New), in full.
-/
import Derived.Test.YtahblmcjocepeaaDoorWoQ
import Derived.StillTailTactics
namespace Go.Proofs.YtahblmcjocepeaaDoor.Wo
open Go.RowKit Go.Maps

theorem not_bld {T : Tags} {r b : Nat} {x : Part} {n : ByteArray} {buf : Option Nat} (hr : T r = x) (hb : T b = .bld n) (hg : ∀ k, buf = some k → T k = .buf n) (h1 : x ≠ .bld n) (h2 : x ≠ .buf n) : ¬ (r = b ∨ some r = buf) := by
  rintro (e | e)
  · subst e; exact h1 (hr.symm.trans hb)
  · exact h2 (hr.symm.trans (hg r e.symm))

theorem region_tailH {P : Program} {id : Nat} {Q : Exit → Act → World → Prop} {a : Act} {w : World} {l : List Oper} (n : Nat) (hm : P.follows .mixedOrders = true) (hB : Region.lexTailB .any l.toArray n = true)
    (h : ∀ w2, Below w.heap.size w w2 → w2.heap = w.heap → wpStill P l.toArray w2 (fun a' => wpList P l.toArray Q (l.drop n) a' w2) (l.take n) a) : (Code.region id l.toArray true).wp P Q a w :=
  wp_region_still_tail n hm hB (h { w with drawn := w.drawn + 1 } ⟨rfl, rfl, rfl, Nat.le_refl _, fun _ _ => rfl⟩ rfl)
theorem cell_of_heap {w w2 : World} (h : w2.heap = w.heap) {p : Addr} {v : Value} (hc : w.cell? p = some v) : w2.cell? p = some v := (World.cell?_of_block (by rw [h])).trans hc

theorem filesTo_reply (st : St) : ∀ L : List FileD, (filesTo st L).reply = st.reply ∧ (filesTo st L).fails = st.fails := by
  intro L
  induction L generalizing st with
  | nil => exact ⟨rfl, rfl⟩
  | cons p L ih =>
    obtain ⟨h1, h2⟩ := ih (fileS st p)
    have hb : (beginS st p.1).reply = st.reply ∧ (beginS st p.1).fails = st.fails := by unfold beginS; split <;> exact ⟨rfl, rfl⟩
    exact ⟨h1.trans hb.1, h2.trans hb.2⟩
theorem with_reply {s : St} {g : ByteArray → Option (ByteArray × Int)} (h : s.reply = g) : ({ s with reply := g } : St) = s := by
  subst h; rfl
theorem with_fails {s : St} {g : Int → ByteArray → Bool} (h : s.fails = g) : ({ s with fails := g } : St) = s := by
  subst h; rfl
theorem owns_isMap {w : World} {k : TypeId} {R : Value → Option (DataW Unit × List MemPlace)} {b N : Nat} {D : DataW Unit} (h : w.ownsMap Tryd.prog k R b N D) : IsMap D := by
  obtain ⟨es, clock, _, _, _, rfl⟩ := h
  exact ⟨_, rfl⟩
theorem rep_start {w : World} {rm : Nat} (h : w.heap[rm]? = some (.map #[] 0)) : RepN w rm 0 (repTo []) := by
  obtain ⟨es, clock, h1, h2⟩ := World.ownsMap_made (H := Unit) w Tryd.prog 9 rdRep
  rw [alloc_new] at h1
  simp only [Option.some.injEq, Obj.map.injEq] at h1
  obtain ⟨rfl, rfl⟩ := h1
  exact ⟨.map [], ⟨_, _, h, h2⟩, fun n _ => ⟨rfl, rfl⟩⟩
theorem fail_start {w : World} {xm : Nat} (h : w.heap[xm]? = some (.map #[] 0)) : FailN w xm 0 (failTo []) := by
  obtain ⟨es, clock, h1, h2⟩ := World.ownsMap_made (H := Unit) w Tryd.prog 32 unitElem
  rw [alloc_new] at h1
  simp only [Option.some.injEq, Obj.map.injEq] at h1
  obtain ⟨rfl, rfl⟩ := h1
  exact ⟨.map [], ⟨_, _, h, h2⟩, fun op n _ _ _ => rfl⟩
theorem repLookNone {w : World} {rm N : Nat} {g : ByteArray → Option (ByteArray × Int)} (h : RepN w rm N g) {n : ByteArray} (hn : Small n) (hg : g n = none) (k : Nat) :
    (Instr.lookup 100 (.map (some rm)) (.string n) true).run Tryd.prog (w.drewN k) = .ok (.tuple #[.agg #[.string noText, .string noText, .int .i64 0], .bool false]) (w.drewN k) := by
  obtain ⟨D, ⟨es, clock, hb, F, _, rfl⟩, h2⟩ := h
  obtain ⟨e1, _⟩ := h2 n hn
  rw [hg] at e1
  have hb2 : (w.drewN k).heap[rm]? = some (.map es clock) := hb
  rcases Maps.fit_look true keyed Tryd.underlying100 (zero_reply (w.drewN k)) hb2 F (key_of hn) with ⟨hrun, _, _⟩ | ⟨e0, y, _, _, hrun, hRv, hat, _⟩
  · exact hrun
  · rw [Maps.has_true_of_atKey hat] at e1
    cases e1

set_option maxHeartbeats 2000000 in
set_option maxRecDepth 100000 in
theorem newG {w : World} {oa oR oX : Option Addr} {nf cf cR cX : Nat} {L : List FileD} {R : List RepD} {X : List FailD} {stdin : ByteArray} {most clk ch : Int} (hm : 0 ≤ most ∧ most ≤ 16) (hL : Row2 w oa L) (hn : nf = L.length) (hz : L.length ≤ 1000) (hsm : ∀ p ∈ L, Small p.1 ∧ p.2.size ≤ 1000000) (ho : Once2 L) (hR : Row3 w oR R) (hzR : R.length ≤ 1000) (hsR : ∀ r ∈ R, Small r.cmd) (hoR : Once3 R) (hX : RowF w oX X) (hzX : X.length ≤ 1000) (hsX : ∀ x ∈ X, (0 ≤ x.op ∧ x.op < 256) ∧ Small x.name) :
    Calls Tryd.prog 10 #[.agg #[.slice oa nf cf, .string stdin, .slice oR R.length cR, .slice oX X.length cX, .int .i64 most, .int .i64 clk, .int .u64 ch]] w fun e w' => ∃ B T, e = .returned (.tuple #[ptr B, .int .i64 0]) ∧ Wd w' B T { filesTo (st0 stdin most clk ch) L with reply := repTo R, fails := failTo X } ∧ (∀ k, T k ≠ .no → w.heap.size ≤ k) ∧ Below w.heap.size w w' := by
  have h1 : ¬ most < 0 := by omega
  have h2 : ¬ 16 < most := by omega
  subst hn
  obtain ⟨wA, hA⟩ : ∃ wA, wA = (((((w.alloc (.cells #[.slice oa L.length cf, .string stdin, .slice oR R.length cR, .slice oX X.length cX, .int .i64 most, .int .i64 clk, .int .u64 ch] 37)).alloc (.map #[] 0)).alloc (.map #[] 0)).alloc (.map #[] 0)).alloc (.cells #[.pointer none, .map (some (w.heap.size + 1)), .string stdin, .map (some (w.heap.size + 1 + 1)), .map (some (w.heap.size + 1 + 1 + 1)), .int .i64 most, .int .i64 clk, .int .u64 ch, .slice none 0 0, .slice none 0 0] 104)) := ⟨_, rfl⟩
  have hw := new_at (w := w) stdin most clk ch (.cells #[.slice oa L.length cf, .string stdin, .slice oR R.length cR, .slice oX X.length cX, .int .i64 most, .int .i64 clk, .int .u64 ch] 37)
  rw [← hA] at hw
  have hbA : Below w.heap.size w wA := by rw [hA]; exact five_below w _ _ _ _ _
  have hbox := five_box w (.cells #[.slice oa L.length cf, .string stdin, .slice oR R.length cR, .slice oX X.length cX, .int .i64 most, .int .i64 clk, .int .u64 ch] 37) (.map #[] 0) (.map #[] 0) (.map #[] 0) (.cells #[.pointer none, .map (some (w.heap.size + 1)), .string stdin, .map (some (w.heap.size + 1 + 1)), .map (some (w.heap.size + 1 + 1 + 1)), .int .i64 most, .int .i64 clk, .int .u64 ch, .slice none 0 0, .slice none 0 0] 104)
  rw [← hA] at hbox
  have hmm := five w (.cells #[.slice oa L.length cf, .string stdin, .slice oR R.length cR, .slice oX X.length cX, .int .i64 most, .int .i64 clk, .int .u64 ch] 37) (.map #[] 0) (.map #[] 0) (.map #[] 0) (.cells #[.pointer none, .map (some (w.heap.size + 1)), .string stdin, .map (some (w.heap.size + 1 + 1)), .map (some (w.heap.size + 1 + 1 + 1)), .int .i64 most, .int .i64 clk, .int .u64 ch, .slice none 0 0, .slice none 0 0] 104)
  rw [← hA] at hmm
  have HR := Lib.hid (⟨hR, hsR, hoR, hX, hsX, hmm.2.2.1, hmm.2.2.2.1⟩ : _ ∧ _ ∧ _ ∧ _ ∧ _ ∧ _ ∧ _)
  clear hR hsR hoR hX hsX hmm
  have HH := Lib.hid (⟨hL, hsm, ho, hw, hbA, hbox⟩ : _ ∧ _ ∧ _ ∧ _ ∧ _ ∧ _)
  clear hL hsm ho hw hbA hbox
  go_enter Tryd.func10, Tryd.ntmps10
  go_wp2_with (first | rw [makeMap1] | rw [makeMap2] | rw [makeMap3])
  rw [← hA]
  clear hA
  go_loopg [37] L.length (fun q i wr => ∃ j, L.length - j = q ∧ j ≤ L.length ∧ i = .int .i64 (j : Int) ∧ ∃ D T', WdAtS (.pointer none) wr (w.heap.size + 1 + 1 + 1 + 1) (w.heap.size + 1) (w.heap.size + 1 + 1) (w.heap.size + 1 + 1 + 1) D (.slice none 0 0) (.slice none 0 0) [] T' (filesTo (st0 stdin most clk ch) (L.take j)) ∧ OnlyNew (.cells #[.slice oa L.length cf, .string stdin, .slice oR R.length cR, .slice oX X.length cX, .int .i64 most, .int .i64 clk, .int .u64 ch] 37) w wr T' ∧ wr.heap[w.heap.size + 1 + 1]? = some (.map #[] 0) ∧ wr.heap[w.heap.size + 1 + 1 + 1]? = some (.map #[] 0))
  case atStart => exact ⟨0, rfl, Nat.zero_le _, rfl, _, _, HH.out.2.2.2.1, ⟨new_only _, HH.out.2.2.2.2.1, newTags_box _, HH.out.2.2.2.2.2⟩, HR.out.2.2.2.2.2.1, HR.out.2.2.2.2.2.2⟩
  case round =>
    obtain ⟨j, hq, hj, rfl, D1, T1, hw1, hnw1, hrm1, hxm1⟩ := hrel
    by_cases hlt : j < L.length
    · have hlt' : (j : Int) < (L.length : Int) := by omega
      obtain ⟨p, hp⟩ : ∃ p, L[j]? = some p := ⟨_, List.getElem?_eq_getElem hlt⟩
      obtain ⟨g, off, rfl, d0, d1⟩ := HH.out.1.below hnw1.2.1 j p hp
      have hpm : p ∈ L := List.mem_of_getElem? hp
      have hno : (filesTo (st0 stdin most clk ch) (L.take j)).file p.1 = none := filesTo_none _ _ _ rfl (once_take HH.out.2.2.1 hp)
      have hmd := filesTo_made (st0 stdin most clk ch) (L.take j)
      have hmd2 : (filesTo (st0 stdin most clk ch) (L.take j)).made ≤ 1000000 := by
        have : (st0 stdin most clk ch).made = 0 := rfl
        rw [List.length_take] at hmd; omega
      have htk : filesTo (st0 stdin most clk ch) (L.take (j + 1)) = fileS (filesTo (st0 stdin most clk ch) (L.take j)) p := by
        rw [List.take_add_one, hp]; exact filesTo_snoc _ _ _
      generalize filesTo (st0 stdin most clk ch) (L.take j) = s1 at hw1 hno htk hmd2
      clear hmd hp
      obtain ⟨wB, hB⟩ : ∃ wB, wB = wr.alloc (.cells #[.string p.1, .string p.2] 29) := ⟨_, rfl⟩
      have hbB : Below wr.heap.size wr wB := by rw [hB]; exact (Below.refl _ wr).alloc (Nat.le_refl _) _
      have hwB := hw1.below hbB
      have hTn : T1 wr.heap.size = .no := Classical.byContradiction fun e => by have := hw1.lt _ e; omega
      have hsl := HH.out.2.1 p hpm
      have hlk := noneLook hwB hsl.1 hno
      have hneq := bld_neq_nil
      have c1 := hwB.cells.c1
      have b0 : wB.cell? ⟨wr.heap.size, 0, none⟩ = some (.string p.1) := by rw [hB]; exact box_cell 0
      have b1 : wB.cell? ⟨wr.heap.size, 1, none⟩ = some (.string p.2) := by rw [hB]; exact box_cell 1
      have HW := Lib.hid (⟨hw1, hnw1, hwB, hbB, hno, htk, hsl, hTn⟩ : _ ∧ _ ∧ _ ∧ _ ∧ _ ∧ _ ∧ _ ∧ _)
      have HM := Lib.hid (⟨(hbB.block _ (hw1.lt _ (by rw [hw1.tr]; simp))).trans hrm1, (hbB.block _ (hw1.lt _ (by rw [hw1.tx]; simp))).trans hxm1⟩ : _ ∧ _)
      clear hw1 hnw1 hwB hbB hno htk hTn hrm1 hxm1
      go_wp2_with fail
      rw [← hB]
      clear hB
      go_quiet (fail)
      go_wp2_with fail
      go_region_law (first
        | (go_simp; go_at_call 36; refine (fileX (by exact HW.out.2.2.1.later (Nat.le_refl _) fun _ _ => rfl) p.1 hsl.1 hmd2).mono ?_; rintro e w4 ⟨b, D', T', rfl, q1, q2, q3, q4, q9⟩; have m1 : w4.heap[w.heap.size + 1 + 1]? = some (.map #[] 0) := (q9.block _ (Array.getElem?_eq_some_iff.1 HM.out.1).1 (by omega)).trans HM.out.1; have m2 : w4.heap[w.heap.size + 1 + 1 + 1]? = some (.map #[] 0) := (q9.block _ (Array.getElem?_eq_some_iff.1 HM.out.2).1 (by omega)).trans HM.out.2; have HM4 := Lib.hid (⟨m1, m2⟩ : _ ∧ _); clear m1 m2 q9; obtain ⟨l, buf, q5, q6, q7, q8⟩ := begun_at q1 hsl.1 q4; have q10 := Option.some.inj (q5.symm.trans (beginS_file s1 p.1)); have z3 : Turn (fun k => T1 k ≠ .no) wB w4 := ⟨q3.os, q3.tape, q3.output, q3.size, q3.block⟩; have b1' := (World.cell?_of_block (a := ⟨wr.heap.size, 1, none⟩) (z3.block wr.heap.size (cell_lt b1) fun e => e HW.out.2.2.2.2.2.2.2)).trans b1; have H4 := Lib.hid (⟨q1, q2, z3, q10, q6, q7, q8, q4⟩ : _ ∧ _ ∧ _ ∧ _ ∧ _ ∧ _ ∧ _ ∧ _); clear q1 q2 q3 q4 q5 q6 q7 q8 q10 z3)
        | (go_simp; go_at_call 33; refine (writeString p.2 H4.out.2.2.2.2.1 (by rw [H4.out.2.2.2.1, HW.out.2.2.2.2.1]; show 0 + _ ≤ _; have := hsl.2; omega)).mono ?_; rintro e w5 ⟨rfl, buf', s1, s2, s3⟩; obtain ⟨T5, r1, r2, r3⟩ := H4.out.1.wrote hsl.1 H4.out.2.2.2.2.2.2.2 H4.out.2.2.2.2.1 H4.out.2.2.2.2.2.1 H4.out.2.2.2.2.2.2.1 s2 s1 s3; rw [H4.out.2.2.2.1] at r1; have m1 := (s2.block _ (Array.getElem?_eq_some_iff.1 HM4.out.1).1 (not_bld H4.out.1.tr H4.out.2.2.2.2.2.1 H4.out.2.2.2.2.2.2.1 (by simp) (by simp))).trans HM4.out.1; have m2 := (s2.block _ (Array.getElem?_eq_some_iff.1 HM4.out.2).1 (not_bld H4.out.1.tx H4.out.2.2.2.2.2.1 H4.out.2.2.2.2.2.2.1 (by simp) (by simp))).trans HM4.out.2; have H5 := Lib.hid (⟨r1, r2, r3, m1, m2⟩ : _ ∧ _ ∧ _ ∧ _ ∧ _); clear s1 s2 s3 r1 r2 r3 m1 m2))
      all_goals go_wp2_with fail
      all_goals go_roundg (L.length - (j + 1))
      case measure | measure | measure => omega
      all_goals
        have q2 : ∀ k, k < wB.heap.size → T' k = T1 k := H4.out.2.1
        have hz := HW.out.2.2.2.1.size
        have hz4 := H4.out.2.2.1.size
        refine ⟨j + 1, rfl, hlt, by go_num, D', T5, ?_, HW.out.2.1.step (fun k hk => (H5.out.2.1 k (by omega)).trans (q2 k (by omega))) ((H4.out.2.2.1.thenTags H5.out.2.2.1 q2).before HW.out.2.2.2.1), H5.out.2.2.2.1, H5.out.2.2.2.2⟩
        rw [HW.out.2.2.2.2.2.1]
        exact H5.out.1
    · obtain rfl : j = L.length := by omega
      have hge : ¬ (L.length : Int) < (L.length : Int) := by omega
      rw [List.take_length] at hw1
      have x2 : wr.cell? ⟨w.heap.size, 2, none⟩ = some (.slice oR R.length cR) := by simp [World.cell?, hnw1.2.2.2]
      have HW := Lib.hid (⟨hw1, hnw1, hrm1, hxm1⟩ : _ ∧ _ ∧ _ ∧ _)
      clear hw1 hnw1 hrm1 hxm1
      go_wp2_with fail
      go_loopg [60] R.length (fun q i w9 => ∃ m, R.length - m = q ∧ m ≤ R.length ∧ i = .int .i64 (m : Int) ∧ ∃ D T', WdAtS (.pointer none) w9 (w.heap.size + 1 + 1 + 1 + 1) (w.heap.size + 1) (w.heap.size + 1 + 1) (w.heap.size + 1 + 1 + 1) D (.slice none 0 0) (.slice none 0 0) [] T' { filesTo (st0 stdin most clk ch) L with reply := repTo (R.take m) } ∧ OnlyNew (.cells #[.slice oa L.length cf, .string stdin, .slice oR R.length cR, .slice oX X.length cX, .int .i64 most, .int .i64 clk, .int .u64 ch] 37) w w9 T' ∧ RepN w9 (w.heap.size + 1 + 1) m (repTo (R.take m)) ∧ w9.heap[w.heap.size + 1 + 1 + 1]? = some (.map #[] 0))
      case atStart =>
        refine ⟨0, rfl, Nat.zero_le _, rfl, D1, T1, ?_, HW.out.2.1, rep_start HW.out.2.2.1, HW.out.2.2.2⟩
        have e0 := with_reply (s := filesTo (st0 stdin most clk ch) L) (g := repTo (R.take 0)) ((filesTo_reply _ _).1.trans (by rfl))
        exact e0 ▸ HW.out.1
      case round =>
        clear x2
        clear HW
        obtain ⟨m, hqm, hm2, rfl, D2, T2, hw2, hnw2, hrep2, hxm2⟩ := hrel
        by_cases hltm : m < R.length
        · have hltm' : (m : Int) < (R.length : Int) := by omega
          obtain ⟨r, hr⟩ : ∃ r, R[m]? = some r := ⟨_, List.getElem?_eq_getElem hltm⟩
          obtain ⟨g, off, rfl, d0, d1, d2⟩ := HR.out.1.below hnw2.2.1 m r hr
          have hsm := HR.out.2.1 r (List.mem_of_getElem? hr)
          have hno : repTo (R.take m) r.cmd = none := repTo_none _ _ (once3_take HR.out.2.2.1 hr)
          have htk : repTo (R.take (m + 1)) = repS (repTo (R.take m)) r := by
            rw [List.take_add_one, hr]; exact repTo_snoc _ _
          obtain ⟨wB, hB⟩ : ∃ wB, wB = wr.alloc (.cells #[.string r.cmd, .string r.out, .int .i64 r.status] 107) := ⟨_, rfl⟩
          have hbB : Below wr.heap.size wr wB := by rw [hB]; exact (Below.refl _ wr).alloc (Nat.le_refl _) _
          have hwB := hw2.below hbB
          have hrB := hrep2.of_block (w' := wB) (hbB.block _ (hw2.lt _ (by rw [hw2.tr]; simp)))
          have hxB := (hbB.block _ (hw2.lt _ (by rw [hw2.tx]; simp))).trans hxm2
          have c3 := hwB.cells.c3
          have b0 : wB.cell? ⟨wr.heap.size, 0, none⟩ = some (.string r.cmd) := by rw [hB]; exact box_cell 0
          have b1 : wB.cell? ⟨wr.heap.size, 1, none⟩ = some (.string r.out) := by rw [hB]; exact box_cell 1
          have b2 : wB.cell? ⟨wr.heap.size, 2, none⟩ = some (.int .i64 r.status) := by rw [hB]; exact box_cell 2
          have hzB : wB.heap.size = wr.heap.size + 1 := by rw [hB]; exact alloc_size _ _
          have HW := Lib.hid (⟨hw2, hnw2, hwB, hbB, hrB, hxB, htk, hno, hzB⟩ : _ ∧ _ ∧ _ ∧ _ ∧ _ ∧ _ ∧ _ ∧ _ ∧ _)
          clear hw2 hnw2 hwB hbB hrB hxB htk hrep2 hxm2 hno hr hzB
          go_wp2_with fail
          rw [← hB]
          clear hB
          have hl1 := repLookNone (HW.out.2.2.2.2.1.of_block (w' := wB.drew) rfl) hsm HW.out.2.2.2.2.2.2.2.1 0
          have hrl : w.heap.size + 1 + 1 < wB.heap.size := HW.out.2.2.1.lt _ (by rw [HW.out.2.2.1.tr]; simp)
          have hl2 := repLookNone (HW.out.2.2.2.2.1.of_block (w' := (wB.alloc (.cells #[.string noText, .string noText, .int .i64 0] 107)).drew) (alloc_old wB _ hrl)) hsm HW.out.2.2.2.2.2.2.2.1 0
          rw [World.drewN_zero] at hl1 hl2
          have hoB : Below wB.heap.size wB (wB.alloc (.cells #[.string noText, .string noText, .int .i64 0] 107)) := (Below.refl _ wB).alloc (Nat.le_refl _) _
          have k3 := (hoB.cell (cell_lt c3)).trans c3
          have k0 := (hoB.cell (cell_lt b0)).trans b0
          have k1 := (hoB.cell (cell_lt b1)).trans b1
          have k2 := (hoB.cell (cell_lt b2)).trans b2
          go_region_law (fail)
          all_goals
            clear hl1 hl2
            obtain ⟨wD, hD⟩ : ∃ wD, wD = (wB.alloc (.cells #[.string noText, .string noText, .int .i64 0] 107)).drew := ⟨_, rfl⟩
            have hbD : Below wB.heap.size wB wD := by rw [hD]; exact hoB.drew
            have HD := Lib.hid hbD
            have f3 : wD.cell? ⟨w.heap.size + 1 + 1 + 1 + 1, 3, none⟩ = some (.map (some (w.heap.size + 1 + 1))) := by rw [hD]; exact k3
            have f0 : wD.cell? ⟨wr.heap.size, 0, none⟩ = some (.string r.cmd) := by rw [hD]; exact k0
            have f1 : wD.cell? ⟨wr.heap.size, 1, none⟩ = some (.string r.out) := by rw [hD]; exact k1
            have f2 : wD.cell? ⟨wr.heap.size, 2, none⟩ = some (.int .i64 r.status) := by rw [hD]; exact k2
            rw [← hD]
            clear hbD hD k0 k1 k2 k3 c3 b0 b1 b2 hoB hrl
            go_wp2_with fail
            refine region_tailH 7 (by kernel_rfl) (by kernel_rfl) ?_
            intro wE hbE hhE
            have g3 := cell_of_heap hhE f3
            have g0 := cell_of_heap hhE f0
            have g1 := cell_of_heap hhE f1
            have g2 := cell_of_heap hhE f2
            simp only [List.take_succ_cons, List.take_zero, List.drop_succ_cons, List.drop_zero]
            repeat still_step
            refine wpStill_nil ?_
            have hBE : Below wB.heap.size wB wE := HD.out.trans (hbE.mono HD.out.size)
            have hrE : RepN wE (w.heap.size + 1 + 1) m (repTo (R.take m)) := HW.out.2.2.2.2.1.of_block (hBE.block _ (HW.out.2.2.1.lt _ (by rw [HW.out.2.2.1.tr]; simp)))
            obtain ⟨D4, hown4, h24⟩ := hrE
            refine wpList_mapUpdate_in _ rfl _ _ _ 100 rfl 9 107 keyed Tryd.underlying100 rdRep (w.heap.size + 1 + 1) m D4 rfl hown4 (by unfold maxLen; omega) (.string r.cmd) (.agg #[.string r.cmd, .string r.out, .int .i64 r.status]) (kl r.cmd) rfl rfl (key_of hsm) (encR (r.out, r.status)) [] (by rfl) ?_
            intro w3 hown3 hturn3
            have H3 := Lib.hid (⟨hown3, hturn3, hown4, h24, hBE⟩ : _ ∧ _ ∧ _ ∧ _ ∧ _)
            clear hown3 hturn3 hown4 h24 hBE hbE hhE g0 g1 g2 g3 f0 f1 f2 f3
            go_wp2_with fail
            go_roundg (R.length - (m + 1))
            case measure => omega
            have hg3 := H3.out.2.1.grown
            have hput : RepN w3 (w.heap.size + 1 + 1) (m + 1) (repTo (R.take (m + 1))) := by
              rw [HW.out.2.2.2.2.2.2.1]
              exact RepN.put (owns_isMap H3.out.2.2.1) H3.out.2.2.2.1 H3.out.1
            have ht3 : Turn (fun k => k = w.heap.size + 1 + 1) wB w3 := ((Turn.of_grown hg3).mono fun k hk => by simpa using hk).before H3.out.2.2.2.2
            obtain ⟨y1, y2⟩ := HW.out.2.2.1.replied ht3 (hput.replies (by omega))
            refine ⟨m + 1, rfl, hltm, by go_num, D2, T2, y1, HW.out.2.1.step (fun k _ => rfl) (y2.before HW.out.2.2.2.1), hput, ?_⟩
            exact (ht3.block _ (Array.getElem?_eq_some_iff.1 HW.out.2.2.2.2.2.1).1 (by omega)).trans HW.out.2.2.2.2.2.1
        · obtain rfl : m = R.length := by omega
          have hge2 : ¬ (R.length : Int) < (R.length : Int) := by omega
          rw [List.take_length] at hw2
          have x3 : wr.cell? ⟨w.heap.size, 3, none⟩ = some (.slice oX X.length cX) := by simp [World.cell?, hnw2.2.2.2]
          have HW := Lib.hid (⟨hw2, hnw2, hxm2⟩ : _ ∧ _ ∧ _)
          clear hw2 hnw2 hxm2 hrep2
          go_wp2_with fail
          go_loopg [86] X.length (fun q i w9 => ∃ n, X.length - n = q ∧ n ≤ X.length ∧ i = .int .i64 (n : Int) ∧ ∃ D T', WdAtS (.pointer none) w9 (w.heap.size + 1 + 1 + 1 + 1) (w.heap.size + 1) (w.heap.size + 1 + 1) (w.heap.size + 1 + 1 + 1) D (.slice none 0 0) (.slice none 0 0) [] T' { filesTo (st0 stdin most clk ch) L with reply := repTo R, fails := failTo (X.take n) } ∧ OnlyNew (.cells #[.slice oa L.length cf, .string stdin, .slice oR R.length cR, .slice oX X.length cX, .int .i64 most, .int .i64 clk, .int .u64 ch] 37) w w9 T' ∧ FailN w9 (w.heap.size + 1 + 1 + 1) n (failTo (X.take n)))
          case atStart =>
            refine ⟨0, rfl, Nat.zero_le _, rfl, D2, T2, ?_, HW.out.2.1, fail_start HW.out.2.2⟩
            have e0 := with_fails (s := { filesTo (st0 stdin most clk ch) L with reply := repTo R }) (g := failTo (X.take 0)) ((filesTo_reply _ _).2.trans (by rfl))
            exact e0 ▸ HW.out.1
          case round =>
            clear x3
            clear HW
            obtain ⟨n, hqn, hn2, rfl, D3, T3, hw3, hnw3, hf3⟩ := hrel
            by_cases hltn : n < X.length
            · have hltn' : (n : Int) < (X.length : Int) := by omega
              obtain ⟨x, hx⟩ : ∃ x, X[n]? = some x := ⟨_, List.getElem?_eq_getElem hltn⟩
              obtain ⟨g, off, rfl, d0, d1⟩ := HR.out.2.2.2.1.below hnw3.2.1 n x hx
              obtain ⟨hox, hsx⟩ := HR.out.2.2.2.2.1 x (List.mem_of_getElem? hx)
              have htk : failTo (X.take (n + 1)) = failS (failTo (X.take n)) x := by
                rw [List.take_add_one, hx]; exact failTo_snoc _ _
              obtain ⟨wB, hB⟩ : ∃ wB, wB = wr.alloc (.cells #[.int .u8 x.op, .string x.name] 32) := ⟨_, rfl⟩
              have hbB : Below wr.heap.size wr wB := by rw [hB]; exact (Below.refl _ wr).alloc (Nat.le_refl _) _
              have hwB := hw3.below hbB
              have hfB := hf3.of_block (w' := wB) (hbB.block _ (hw3.lt _ (by rw [hw3.tx]; simp)))
              have c4 := hwB.cells.c4
              have b0 : wB.cell? ⟨wr.heap.size, 0, none⟩ = some (.int .u8 x.op) := by rw [hB]; exact box_cell 0
              have b1 : wB.cell? ⟨wr.heap.size, 1, none⟩ = some (.string x.name) := by rw [hB]; exact box_cell 1
              have HW := Lib.hid (⟨hw3, hnw3, hwB, hbB, hfB, htk, hox⟩ : _ ∧ _ ∧ _ ∧ _ ∧ _ ∧ _ ∧ _)
              clear hw3 hnw3 hwB hbB hfB htk hf3 hx
              go_wp2_with fail
              rw [← hB]
              clear hB
              refine region_tailH 6 (by kernel_rfl) (by kernel_rfl) ?_
              intro wE hBE hhE
              have g4 := cell_of_heap hhE c4
              have g0 := cell_of_heap hhE b0
              have g1 := cell_of_heap hhE b1
              simp only [List.take_succ_cons, List.take_zero, List.drop_succ_cons, List.drop_zero]
              repeat still_step
              refine wpStill_nil ?_
              have hfE : FailN wE (w.heap.size + 1 + 1 + 1) n (failTo (X.take n)) := HW.out.2.2.2.2.1.of_block (hBE.block _ (HW.out.2.2.1.lt _ (by rw [HW.out.2.2.1.tx]; simp)))
              obtain ⟨D4, hown4, h24⟩ := hfE
              refine wpList_mapUpdate_in _ rfl _ _ _ 101 rfl 32 109 failed Tryd.underlying101 unitElem (w.heap.size + 1 + 1 + 1) n D4 rfl hown4 (by unfold maxLen; omega) (failV x.op x.name) (.agg #[]) (failK x.op x.name) rfl rfl (fail_key HW.out.2.2.2.2.2.2.1 HW.out.2.2.2.2.2.2.2 hsx) (.agg []) [] unitElem_mk ?_
              intro w3 hown3 hturn3
              have H3 := Lib.hid (⟨hown3, hturn3, hown4, h24, hBE⟩ : _ ∧ _ ∧ _ ∧ _ ∧ _)
              clear hown3 hturn3 hown4 h24 hBE hhE g0 g1 g4 c4 b0 b1
              go_wp2_with fail
              go_roundg (X.length - (n + 1))
              case measure => omega
              have hg3 := H3.out.2.1.grown
              have hput : FailN w3 (w.heap.size + 1 + 1 + 1) (n + 1) (failTo (X.take (n + 1))) := by
                rw [HW.out.2.2.2.2.2.1]
                exact FailN.put (owns_isMap H3.out.2.2.1) HW.out.2.2.2.2.2.2.1 HW.out.2.2.2.2.2.2.2 H3.out.2.2.2.1 H3.out.1
              have ht3 : Turn (fun k => k = w.heap.size + 1 + 1 + 1) wB w3 := ((Turn.of_grown hg3).mono fun k hk => by simpa using hk).before H3.out.2.2.2.2
              obtain ⟨y1, y2⟩ := HW.out.2.2.1.failsNow ht3 (hput.fails (by omega))
              exact ⟨n + 1, rfl, hltn, by go_num, D3, T3, y1, HW.out.2.1.step (fun k _ => rfl) (y2.before HW.out.2.2.2.1), hput⟩
            · obtain rfl : n = X.length := by omega
              have hge3 : ¬ (X.length : Int) < (X.length : Int) := by omega
              rw [List.take_length] at hw3
              have HW := Lib.hid (⟨hw3, hnw3⟩ : _ ∧ _)
              have hC := HW.out.1.cells
              have y0 := hC.c0
              have y1 := hC.z 0
              clear hC hw3 hnw3 hf3
              go_wp2_with fail
              go_ret2
              obtain ⟨q1, q2⟩ := HW.out.1.selfed
              have q3 := HW.out.2.step (fun _ _ => rfl) q2
              exact ⟨_, rfl, T3, ⟨_, _, _, _, _, _, _, q1⟩, q3.1, q3.2.1⟩

theorem new_ {w : World} {oa : Option Addr} {nf cf : Nat} {L : List FileD} {stdin : ByteArray} {most clk ch : Int} (hm : 0 ≤ most ∧ most ≤ 16) (hL : Row2 w oa L) (hn : nf = L.length) (hz : L.length ≤ 1000) (hsm : ∀ p ∈ L, Small p.1 ∧ p.2.size ≤ 1000000) (ho : Once2 L) :
    Calls Tryd.prog 10 #[.agg #[.slice oa nf cf, .string stdin, .slice none 0 0, .slice none 0 0, .int .i64 most, .int .i64 clk, .int .u64 ch]] w fun e w' => ∃ B T, e = .returned (.tuple #[ptr B, .int .i64 0]) ∧ Wd w' B T (filesTo (st0 stdin most clk ch) L) ∧ (∀ k, T k ≠ .no → w.heap.size ≤ k) ∧ Below w.heap.size w w' := by
  have h := newG (cf := cf) (oR := none) (oX := none) (cR := 0) (cX := 0) (R := []) (X := []) (stdin := stdin) (most := most) (clk := clk) (ch := ch) hm hL hn hz hsm ho (fun i r h => by simp at h) (by decide) (by simp) List.Pairwise.nil (fun i r h => by simp at h) (by decide) (by simp)
  have e1 := with_reply (s := filesTo (st0 stdin most clk ch) L) (g := repTo []) ((filesTo_reply _ _).1.trans (by rfl))
  have e2 := with_fails (s := filesTo (st0 stdin most clk ch) L) (g := failTo []) ((filesTo_reply _ _).2.trans (by rfl))
  have e : ({ filesTo (st0 stdin most clk ch) L with reply := repTo [], fails := failTo [] } : St) = filesTo (st0 stdin most clk ch) L := (congrArg (fun s : St => { s with fails := failTo [] }) e1).trans e2
  rw [e] at h
  exact h
end Go.Proofs.YtahblmcjocepeaaDoor.Wo
