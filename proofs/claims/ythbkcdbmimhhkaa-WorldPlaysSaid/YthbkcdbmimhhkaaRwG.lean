/-
  The document's world: a stream opened (Opened): where it is opened.
-/
import Derived.Test.YthbkcdbmimhhkaaRwF
namespace Go.Proofs.Ythbkcdbmimhhkaa.Rw
open Go.RowKit Go.Maps Wo

theorem begun_opn (r : RSt) (k : Int) (n : ByteArray) : (rBegun r k n).opn = r.opn ∧ (rBegun r k n).events = r.events := by
  unfold rBegun
  split
  · exact ⟨rfl, rfl⟩
  · split <;> exact ⟨rfl, rfl⟩
section
variable {w : World} {S : Scpt} {r : RSt} {s : Shp}
set_option maxHeartbeats 4000000 in
set_option maxRecDepth 100000 in
theorem openedDash (h : RefAt w S r s) (n : ByteArray) (hf : Fewer S r) (hp : ¬ 0 ≤ rplace 1 n r.opn) (hm : ¬ S.most ≤ r.opn.length) (hx1 : (lookX 1 n S.fails).isSome = false) (hn : n = dash) :
    Calls Try.prog 31 #[.agg (s.cells S r), .int .u8 1, .string n] w (OpenPost w S r s 1 n) := by
  have hnew : rOpenNew S r 1 n := ⟨by decide, by omega, by omega, hx1, fun e => e.2.1 hn⟩
  have he : rOpenE S r 1 n = 0 := by unfold rOpenE; rw [if_neg (fun e => e (by decide)), if_neg hp, if_neg hm, if_neg (fun e => e.elim (fun e => by rw [hx1] at e; cases e) (fun e => e.2.1 hn))]
  have hx : rOpenS S r 1 n = rOpened S r 1 n := if_pos hnew
  unfold OpenPost
  rw [he, hx]
  have hzo : r.opn.length ≤ 1000000 := by have := hf.opn; omega
  have hzf := hf.files
  have hzx := hf.fails
  have hze := hf.events
  have hzr := hf.reps
  obtain ⟨bs, hbs⟩ : ∃ b, (lookF n r.files).isSome = b := ⟨_, rfl⟩
  have HSo := Lib.hid hbs
  clear hbs
  have hdn : (n.toList == [45]) = true := by rw [hn, dash_list]; rfl
  clear hn
  obtain ⟨i0, zz0, hi, hz0, hsz, hby, hzs⟩ := stream_info
  have HI := Lib.hid (⟨hi, hz0, hsz, hby, hzs⟩ : _ ∧ _ ∧ _ ∧ _ ∧ _)
  clear hi hz0 hsz hby hzs
  have HX := Lib.hid hx1
  clear he hx hx1 hnew
  have hR := Run.two h
  go_enter Try.func31, Try.ntmps31
  go_upto_region 1 with fail
  obtain ⟨wA, hA⟩ : ∃ wA, wA = (w.alloc (.cells (s.cells S r) 38)).alloc (.cells #[.slice none 0 0, .string ⟨#[]⟩, .slice none 0 0, .slice none 0 0, .int .i64 0, .int .i64 0, .int .u64 0, .slice none 0 0, .int .i64 0, .slice none 0 0, .int .u64 0, .slice none 0 0] 38) := ⟨_, rfl⟩
  rw [← hA] at hR ⊢
  clear hA
  generalize w.heap.size + 1 = b2 at *
  generalize w.heap.size = b0 at hR ⊢
  have HR := Lib.hid (⟨h, hR⟩ : _ ∧ _)
  clear h hR
  obtain ⟨y0, y1, y2, y3, y4, y5, y6, y7, y8, y9, y10, y11, _, _⟩ := (HR.out.2).rbox
  go_upto_region 12 with (first
    | (go_at_call 49; refine (failsRef H2.out.ref 1 n hzx).mono ?_; rintro e w3 ⟨rfl, hbb⟩; rw [HX.out]; have hRR := (H2.out).later hbb; obtain ⟨y0, y1, y2, y3, y4, y5, y6, y7, y8, y9, y10, y11, _, _⟩ := hRR.rbox; have H3 := Lib.hid hRR; clear hRR hbb)
    | (go_at_call 17; refine (fileRef H1.out.ref n hzf).mono ?_; rintro e w2 ⟨rfl, hbb⟩; rw [fileA_data, HSo.out]; have hRR := (H1.out).later hbb; obtain ⟨y0, y1, y2, y3, y4, y5, y6, y7, y8, y9, y10, y11, _, _⟩ := hRR.rbox; have H2 := Lib.hid hRR; clear hRR hbb)
    | (go_at_call 15; refine (findRef HR.out.2.ref 1 n hzo).mono ?_; rintro e w1 ⟨rfl, hbb⟩; have hRR := (HR.out.2).later hbb; obtain ⟨y0, y1, y2, y3, y4, y5, y6, y7, y8, y9, y10, y11, _, _⟩ := hRR.rbox; have H1 := Lib.hid hRR; clear hRR hbb))
  obtain ⟨wX, hX⟩ : ∃ wX, wX = w3.alloc (.cells #[.int .u8 1, .string n, .string ⟨#[]⟩, .int .i64 0] 109) := ⟨_, rfl⟩
  have hbX : Below w3.heap.size w3 wX := by rw [hX]; exact (Below.refl _ w3).alloc (Nat.le_refl _) _
  have hblx : wX.heap[w3.heap.size]? = some (.cells #[.int .u8 1, .string n, .string ⟨#[]⟩, .int .i64 0] 109) := by rw [hX]; exact alloc_new _ _
  have e2 : wX.cell? ⟨w3.heap.size, 2, none⟩ = some (.string ⟨#[]⟩) := by simp [World.cell?, hblx]
  have e2z : wX.frozen? ⟨w3.heap.size, 2, none⟩ = false := by simp [World.frozen?, hblx]
  rw [← hX]
  have hb03 : b0 < w3.heap.size := (Array.getElem?_eq_some_iff.1 H3.out.box).1
  have hb23 : b2 < w3.heap.size := (Array.getElem?_eq_some_iff.1 H3.out.res).1
  have hRX := H3.out.later hbX
  obtain ⟨y0, y1, y2, y3, y4, y5, y6, y7, y8, y9, y10, y11, pz, _⟩ := hRX.rbox
  have pz0 := pz 0
  have pz1 := pz 1
  have pz2 := pz 2
  have pz3 := pz 3
  have pz4 := pz 4
  have pz5 := pz 5
  have pz6 := pz 6
  have pz7 := pz 7
  have pz8 := pz 8
  have pz9 := pz 9
  have pz10 := pz 10
  have pz11 := pz 11
  clear pz
  have HB := Lib.hid (⟨hbX, hblx, hRX⟩ : _ ∧ _ ∧ _)
  clear hX hbX hblx hRX
  obtain ⟨bx, hbx⟩ : ∃ b, b = w3.heap.size := ⟨_, rfl⟩
  rw [← hbx] at HB hb03 hb23 e2 e2z ⊢
  have HBx := Lib.hid hbx
  clear hbx
  go_upto_region 21 with fail
  obtain ⟨wZ, hZ⟩ : ∃ wZ, wZ = wX.setCell ⟨bx, 2, none⟩ (.string (rData r n)) := ⟨_, rfl⟩
  have hb3 : Below w3.heap.size w3 wZ := by rw [hZ, ← HBx.out]; exact below_set (b := bx) HB.out.1 (Nat.le_refl _) 2 _
  have hRZ := H3.out.later hb3
  have hblz : wZ.heap[bx]? = some (.cells #[.int .u8 1, .string n, .string (rData r n), .int .i64 0] 109) := by rw [hZ, blk_set HB.out.2.1]; rfl
  rw [← hZ]
  obtain ⟨r1, hr1⟩ : ∃ x, x = r := ⟨_, rfl⟩
  obtain ⟨s1, hs1⟩ : ∃ x, x = s := ⟨_, rfl⟩
  rw [← hr1, ← hs1] at hRZ
  have HZ := Lib.hid (⟨hRZ, hblz⟩ : _ ∧ _)
  have HN := Lib.hid (show r1 = rBegun r 1 n ∧ r1.opn = r.opn ∧ r1.events = r.events from ⟨by rw [hr1]; rfl, by rw [hr1], by rw [hr1]⟩)
  have HSc := Lib.hid (show s1.scr = s.scr by rw [hs1])
  have HW := Lib.hid (show eventR { rBegun r 1 n with opn := (rBegun r 1 n).opn ++ [⟨1, n, rData r n, 0⟩] } ⟨1, 1, n, noText, 0⟩ = eventR { rBegun r 1 n with opn := (rBegun r 1 n).opn ++ [rStrm S r 1 n] } ⟨1, 1, n, noText, 0⟩ from rfl)
  clear hr1 hs1 hRZ hblz hZ hb3 e2 e2z
  have hzo1 : r1.opn.length ≤ 1000000 := by rw [HN.out.2.1]; exact hzo
  obtain ⟨y0, y1, y2, y3, y4, y5, y6, y7, y8, y9, y10, y11, _, _⟩ := (HZ.out.1).rbox
  go_upto_region 22 with fail
  go_cut [13] from 87 to 90 (fun sx wx => OwnS wx wZ.heap.size sx r1.opn ∧ Below wZ.heap.size wZ wx)
  case first =>
    by_cases hE : r1.opn = []
    · have hl : r1.opn.length = 0 := by rw [hE]; rfl
      have hcE := (HZ.out.1.ref.ro).nilCap
      rw [hl] at y9
      have HE0 := Lib.hid hE
      clear hl hE
      generalize hog : s1.oO = og at y9 hcE
      generalize hcg : s1.cO = cg at y9 hcE
      rcases og with _ | ad
      · obtain rfl := hcE rfl
        go_wp2_with fail
        go_meet
        exact ⟨by rw [HE0.out]; exact own_nil _ _ _ _, Below.refl _ _⟩
      · go_wp2_with fail
        go_meet
        exact ⟨by rw [HE0.out]; exact own_nil _ _ _ _, Below.refl _ _⟩
    · obtain ⟨x0, hx0⟩ : ∃ x0, r1.opn[0]? = some x0 := by
        cases hr : r1.opn with
        | nil => exact absurd hr hE
        | cons x l => exact ⟨x, rfl⟩
      have hpos : 0 < r1.opn.length := List.length_pos_iff.2 hE
      have hall := HZ.out.1.ref.ro
      generalize hog : s1.oO = og at y9 hall
      generalize hcg : s1.cO = cg at y9 hall
      obtain ⟨g, rfl, _⟩ := hall.at lenS hx0
      have HAL := Lib.hid hall
      clear hE hx0 hall
      go_wp2_with (at_builtin; refine wpList_append_lies _ rfl (.tmp 87) (.tmp 89) 35 rfl wZ.heap.size 109 i0 zz0 4 48 Try.underlying35 HI.out.1 HI.out.2.1 HI.out.2.2.1 HI.out.2.2.2.1 HI.out.2.2.2.2 (by decide) (.slice none 0 0) 0 [] rfl (World.ownsRow_nil _ _ _ _) ⟨g, 0, none⟩ r1.opn.length cg (flatL RStrm.cells r1.opn) rfl (flatL_length lenS _) ((HAL.out).all lenS rfl) (flatL_one oneS _) hpos (by unfold maxLen; omega) (by omega) (Nat.le_refl _) _ rfl ?_; intro g2 cap2 w4 hown hgrow hat hlt4; rw [Nat.zero_add] at hown ⊢; have HO := Lib.hid (⟨hown, (Below.refl wZ.heap.size wZ).grown hgrow (Nat.le_refl _) (fun k hk => by cases hk)⟩ : _ ∧ _); clear hown hgrow hat hlt4)
      go_meet
      exact ⟨HO.out.1, HO.out.2⟩
  case rest =>
    obtain ⟨hI2, hb2'⟩ := hcut
    obtain ⟨oo, co, rfl, _⟩ := hI2.shape
    have hxx : ∀ i, wc.cell? ⟨bx, i, none⟩ = (#[.int .u8 1, .string n, .string (rData r n), .int .i64 0] : Array Value)[i]? := fun i => by
      have := (hb2'.block bx (Array.getElem?_eq_some_iff.1 HZ.out.2).1).trans HZ.out.2
      simp [World.cell?, this]
    have f0 : wc.cell? ⟨bx, 0, none⟩ = some (.int .u8 1) := hxx 0
    have f1 : wc.cell? ⟨bx, 1, none⟩ = some (.string n) := hxx 1
    have f2 : wc.cell? ⟨bx, 2, none⟩ = some (.string (rData r n)) := hxx 2
    have f3 : wc.cell? ⟨bx, 3, none⟩ = some (.int .i64 0) := hxx 3
    have HI2 := Lib.hid hI2
    have hbase := hb2'.size
    clear hI2 hxx
    go_upto_region 24 with (at_builtin; refine wpList_append_lies _ rfl (.tmp 91) (.tmp 93) 35 rfl wZ.heap.size 109 i0 zz0 4 48 Try.underlying35 HI.out.1 HI.out.2.1 HI.out.2.2.1 HI.out.2.2.2.1 HI.out.2.2.2.2 (by decide) (.slice oo r1.opn.length co) r1.opn.length (flatL RStrm.cells r1.opn) rfl ((HI2.out).alloc _) ⟨wc.heap.size, 0, none⟩ 1 1 (RStrm.cells ⟨1, n, rData r n, 0⟩) rfl rfl (World.news_of_block (heap_alloc_new wc _)) (oneS ⟨1, n, rData r n, 0⟩) (by decide) (by unfold maxLen; omega) (by omega) (by rw [alloc_size]; exact Nat.le_succ_of_le hbase) _ rfl ?_; intro g2 cap2 w4 hown hgrow hat hlt4; have hb4 : Below wZ.heap.size wZ w4 := (hb2'.trans (((Below.refl _ wc).alloc (Nat.le_refl _) _).mono hb2'.size)).grown hgrow (by rw [alloc_size]; exact Nat.le_succ_of_le hbase) (fun k hk => (HI2.out.lt k hk).1); have hR4 := HZ.out.1.later hb4; have x9 := hR4.rbox.c9; have zz9 := hR4.rbox.z 9; have HO := Lib.hid (⟨hown, hR4⟩ : _ ∧ _); clear hown hgrow hat hlt4 hb4 hR4)
    obtain ⟨w5, h5⟩ : ∃ w5, w5 = w4.setCell ⟨b0, 9, none⟩ (.slice (some ⟨g2, 0, none⟩) (r1.opn.length + 1) cap2) := ⟨_, rfl⟩
    obtain ⟨s2, hs2⟩ : ∃ x : Shp, x = { s1 with oO := some ⟨g2, 0, none⟩, cO := cap2 } := ⟨_, rfl⟩
    obtain ⟨r2, hr2⟩ : ∃ x : RSt, x = { r1 with opn := r1.opn ++ [⟨1, n, rData r n, 0⟩] } := ⟨_, rfl⟩
    have hF := HO.out.2.field (i := 9) (v := .slice (some ⟨g2, 0, none⟩) (r1.opn.length + 1) cap2) (r' := r2) (s' := s2) (by rw [hs2, hr2]; simp [Shp.cells]) ⟨by rw [hs2]; exact HO.out.2.ref.rr, by rw [hs2]; exact HO.out.2.ref.rx, by rw [hs2, hr2]; exact HO.out.2.ref.rf, by
      rw [hs2, hr2]
      show World.ownsRow _ _ _ _ _ _ _
      rw [List.length_append, flatL_snoc]
      exact Own.base0 HO.out.1, by rw [hs2, hr2]; exact HO.out.2.ref.re, by rw [hs2]; exact HO.out.2.ref.gh.setO (rows_okb HO.out.1 HZ.out.1.ref.gh.bs) _⟩ (by rw [hs2]; rfl)
    rw [← h5] at hF ⊢
    have HN2 := Lib.hid (⟨hr2, (show s2.scr = s1.scr by rw [hs2]; rfl)⟩ : _ ∧ _)
    have hze2 : r2.events.length ≤ 1000000 := by rw [hr2]; show r1.events.length ≤ _; rw [HN.out.2.2]; exact hze
    have HF := Lib.hid hF
    clear h5 hs2 hr2 hF x9 zz9 f0 f1 f2 f3
    obtain ⟨y0, y1, y2, y3, y4, y5, y6, y7, y8, y9, y10, y11, _, _⟩ := (HF.out).rbox
    go_wp2_with (go_at_call 52; refine (eventRef HF.out.ref ⟨1, 1, n, noText, 0⟩ hze2).mono ?_; rintro e w6 ⟨s6, rfl, hs6, hr6, hb6⟩; have hRR := HF.out.later hb6; obtain ⟨q0, q1, q2, q3, q4, q5, q6, q7, q8, q9, q10, q11, qz, _⟩ := hRR.rres; have qz0 := qz 0; have qz1 := qz 1; have qz2 := qz 2; have qz3 := qz 3; have qz4 := qz 4; have qz5 := qz 5; have qz6 := qz 6; have qz7 := qz 7; have qz8 := qz 8; have qz9 := qz 9; have qz10 := qz 10; have qz11 := qz 11; have H6 := Lib.hid (⟨hRR, hr6, hs6⟩ : _ ∧ _ ∧ _); obtain ⟨r6, hr6e⟩ : ∃ x, x = eventR r2 ⟨1, 1, n, noText, 0⟩ := ⟨_, rfl⟩; rw [← hr6e] at H6 ⊢; have HE6 := Lib.hid hr6e; clear hRR hr6 hs6 hb6 qz hr6e)
    rw [put12_def]
    obtain ⟨d1, d2, d3⟩ := (H6.out.1).hand H6.out.2.1 H6.out.2.2
    obtain ⟨z0, z1, z2, z3, z4, z5, z6, z7, z8, z9, z10, z11, _, _⟩ := d3
    generalize put12 w6 b2 S r6 s6 = w9 at *
    refine bodyPost_ret (v := .tuple #[.agg (s6.cells S r6), .int .i64 0]) (by simp [results, Try.results31, go_sem, z0, z1, z2, z3, z4, z5, z6, z7, z8, z9, z10, z11]) rfl ?_
    have hfin : r6 = rOpened S r 1 n := by
      rw [HE6.out, HN2.out.1, rOpened_eq, HN.out.1]; exact HW.out
    rw [hfin] at d1 ⊢
    exact ⟨s6, rfl, H6.out.2.2.trans (HN2.out.2.trans HSc.out), d1, d2⟩
set_option maxHeartbeats 4000000 in
set_option maxRecDepth 100000 in
theorem openedFile (h : RefAt w S r s) (n : ByteArray) (hf : Fewer S r) (hp : ¬ 0 ≤ rplace 1 n r.opn) (hm : ¬ S.most ≤ r.opn.length) (hx1 : (lookX 1 n S.fails).isSome = false) (hn : n ≠ dash) (hl : lookF n r.files ≠ none) :
    Calls Try.prog 31 #[.agg (s.cells S r), .int .u8 1, .string n] w (OpenPost w S r s 1 n) := by
  have hnew : rOpenNew S r 1 n := ⟨by decide, by omega, by omega, hx1, fun e => hl e.2.2⟩
  have he : rOpenE S r 1 n = 0 := by unfold rOpenE; rw [if_neg (fun e => e (by decide)), if_neg hp, if_neg hm, if_neg (fun e => e.elim (fun e => by rw [hx1] at e; cases e) (fun e => hl e.2.2))]
  have hx : rOpenS S r 1 n = rOpened S r 1 n := if_pos hnew
  unfold OpenPost
  rw [he, hx]
  have hzo : r.opn.length ≤ 1000000 := by have := hf.opn; omega
  have hzf := hf.files
  have hzx := hf.fails
  have hze := hf.events
  have hzr := hf.reps
  have hbs : (lookF n r.files).isSome = true := by
    cases hq : lookF n r.files with
    | none => exact absurd hq hl
    | some p => rfl
  have HSo := Lib.hid hbs
  clear hbs
  have hdn : (n.toList == [45]) = false := by rw [← dash_list]; exact toList_ne hn
  obtain ⟨i0, zz0, hi, hz0, hsz, hby, hzs⟩ := stream_info
  have HI := Lib.hid (⟨hi, hz0, hsz, hby, hzs⟩ : _ ∧ _ ∧ _ ∧ _ ∧ _)
  clear hi hz0 hsz hby hzs
  have HX := Lib.hid hx1
  clear he hx hx1 hnew
  have hR := Run.two h
  go_enter Try.func31, Try.ntmps31
  go_upto_region 1 with fail
  obtain ⟨wA, hA⟩ : ∃ wA, wA = (w.alloc (.cells (s.cells S r) 38)).alloc (.cells #[.slice none 0 0, .string ⟨#[]⟩, .slice none 0 0, .slice none 0 0, .int .i64 0, .int .i64 0, .int .u64 0, .slice none 0 0, .int .i64 0, .slice none 0 0, .int .u64 0, .slice none 0 0] 38) := ⟨_, rfl⟩
  rw [← hA] at hR ⊢
  clear hA
  generalize w.heap.size + 1 = b2 at *
  generalize w.heap.size = b0 at hR ⊢
  have HR := Lib.hid (⟨h, hR⟩ : _ ∧ _)
  clear h hR
  obtain ⟨y0, y1, y2, y3, y4, y5, y6, y7, y8, y9, y10, y11, _, _⟩ := (HR.out.2).rbox
  go_upto_region 12 with (first
    | (go_at_call 49; refine (failsRef H2.out.ref 1 n hzx).mono ?_; rintro e w3 ⟨rfl, hbb⟩; rw [HX.out]; have hRR := (H2.out).later hbb; obtain ⟨y0, y1, y2, y3, y4, y5, y6, y7, y8, y9, y10, y11, _, _⟩ := hRR.rbox; have H3 := Lib.hid hRR; clear hRR hbb)
    | (go_at_call 17; refine (fileRef H1.out.ref n hzf).mono ?_; rintro e w2 ⟨rfl, hbb⟩; rw [fileA_data, HSo.out]; have hRR := (H1.out).later hbb; obtain ⟨y0, y1, y2, y3, y4, y5, y6, y7, y8, y9, y10, y11, _, _⟩ := hRR.rbox; have H2 := Lib.hid hRR; clear hRR hbb)
    | (go_at_call 15; refine (findRef HR.out.2.ref 1 n hzo).mono ?_; rintro e w1 ⟨rfl, hbb⟩; have hRR := (HR.out.2).later hbb; obtain ⟨y0, y1, y2, y3, y4, y5, y6, y7, y8, y9, y10, y11, _, _⟩ := hRR.rbox; have H1 := Lib.hid hRR; clear hRR hbb))
  obtain ⟨wX, hX⟩ : ∃ wX, wX = w3.alloc (.cells #[.int .u8 1, .string n, .string ⟨#[]⟩, .int .i64 0] 109) := ⟨_, rfl⟩
  have hbX : Below w3.heap.size w3 wX := by rw [hX]; exact (Below.refl _ w3).alloc (Nat.le_refl _) _
  have hblx : wX.heap[w3.heap.size]? = some (.cells #[.int .u8 1, .string n, .string ⟨#[]⟩, .int .i64 0] 109) := by rw [hX]; exact alloc_new _ _
  have e2 : wX.cell? ⟨w3.heap.size, 2, none⟩ = some (.string ⟨#[]⟩) := by simp [World.cell?, hblx]
  have e2z : wX.frozen? ⟨w3.heap.size, 2, none⟩ = false := by simp [World.frozen?, hblx]
  rw [← hX]
  have hb03 : b0 < w3.heap.size := (Array.getElem?_eq_some_iff.1 H3.out.box).1
  have hb23 : b2 < w3.heap.size := (Array.getElem?_eq_some_iff.1 H3.out.res).1
  have hRX := H3.out.later hbX
  obtain ⟨y0, y1, y2, y3, y4, y5, y6, y7, y8, y9, y10, y11, pz, _⟩ := hRX.rbox
  have pz0 := pz 0
  have pz1 := pz 1
  have pz2 := pz 2
  have pz3 := pz 3
  have pz4 := pz 4
  have pz5 := pz 5
  have pz6 := pz 6
  have pz7 := pz 7
  have pz8 := pz 8
  have pz9 := pz 9
  have pz10 := pz 10
  have pz11 := pz 11
  clear pz
  have HB := Lib.hid (⟨hbX, hblx, hRX⟩ : _ ∧ _ ∧ _)
  clear hX hbX hblx hRX
  obtain ⟨bx, hbx⟩ : ∃ b, b = w3.heap.size := ⟨_, rfl⟩
  rw [← hbx] at HB hb03 hb23 e2 e2z ⊢
  have HBx := Lib.hid hbx
  clear hbx
  go_upto_region 21 with fail
  obtain ⟨wZ, hZ⟩ : ∃ wZ, wZ = wX.setCell ⟨bx, 2, none⟩ (.string (rData r n)) := ⟨_, rfl⟩
  have hb3 : Below w3.heap.size w3 wZ := by rw [hZ, ← HBx.out]; exact below_set (b := bx) HB.out.1 (Nat.le_refl _) 2 _
  have hRZ := H3.out.later hb3
  have hblz : wZ.heap[bx]? = some (.cells #[.int .u8 1, .string n, .string (rData r n), .int .i64 0] 109) := by rw [hZ, blk_set HB.out.2.1]; rfl
  rw [← hZ]
  obtain ⟨r1, hr1⟩ : ∃ x, x = r := ⟨_, rfl⟩
  obtain ⟨s1, hs1⟩ : ∃ x, x = s := ⟨_, rfl⟩
  rw [← hr1, ← hs1] at hRZ
  have HZ := Lib.hid (⟨hRZ, hblz⟩ : _ ∧ _)
  have HN := Lib.hid (show r1 = rBegun r 1 n ∧ r1.opn = r.opn ∧ r1.events = r.events from ⟨by rw [hr1]; rfl, by rw [hr1], by rw [hr1]⟩)
  have HSc := Lib.hid (show s1.scr = s.scr by rw [hs1])
  have HW := Lib.hid (show eventR { rBegun r 1 n with opn := (rBegun r 1 n).opn ++ [⟨1, n, rData r n, 0⟩] } ⟨1, 1, n, noText, 0⟩ = eventR { rBegun r 1 n with opn := (rBegun r 1 n).opn ++ [rStrm S r 1 n] } ⟨1, 1, n, noText, 0⟩ from rfl)
  clear hr1 hs1 hRZ hblz hZ hb3 e2 e2z
  have hzo1 : r1.opn.length ≤ 1000000 := by rw [HN.out.2.1]; exact hzo
  obtain ⟨y0, y1, y2, y3, y4, y5, y6, y7, y8, y9, y10, y11, _, _⟩ := (HZ.out.1).rbox
  go_upto_region 22 with fail
  go_cut [13] from 87 to 90 (fun sx wx => OwnS wx wZ.heap.size sx r1.opn ∧ Below wZ.heap.size wZ wx)
  case first =>
    by_cases hE : r1.opn = []
    · have hl : r1.opn.length = 0 := by rw [hE]; rfl
      have hcE := (HZ.out.1.ref.ro).nilCap
      rw [hl] at y9
      have HE0 := Lib.hid hE
      clear hl hE
      generalize hog : s1.oO = og at y9 hcE
      generalize hcg : s1.cO = cg at y9 hcE
      rcases og with _ | ad
      · obtain rfl := hcE rfl
        go_wp2_with fail
        go_meet
        exact ⟨by rw [HE0.out]; exact own_nil _ _ _ _, Below.refl _ _⟩
      · go_wp2_with fail
        go_meet
        exact ⟨by rw [HE0.out]; exact own_nil _ _ _ _, Below.refl _ _⟩
    · obtain ⟨x0, hx0⟩ : ∃ x0, r1.opn[0]? = some x0 := by
        cases hr : r1.opn with
        | nil => exact absurd hr hE
        | cons x l => exact ⟨x, rfl⟩
      have hpos : 0 < r1.opn.length := List.length_pos_iff.2 hE
      have hall := HZ.out.1.ref.ro
      generalize hog : s1.oO = og at y9 hall
      generalize hcg : s1.cO = cg at y9 hall
      obtain ⟨g, rfl, _⟩ := hall.at lenS hx0
      have HAL := Lib.hid hall
      clear hE hx0 hall
      go_wp2_with (at_builtin; refine wpList_append_lies _ rfl (.tmp 87) (.tmp 89) 35 rfl wZ.heap.size 109 i0 zz0 4 48 Try.underlying35 HI.out.1 HI.out.2.1 HI.out.2.2.1 HI.out.2.2.2.1 HI.out.2.2.2.2 (by decide) (.slice none 0 0) 0 [] rfl (World.ownsRow_nil _ _ _ _) ⟨g, 0, none⟩ r1.opn.length cg (flatL RStrm.cells r1.opn) rfl (flatL_length lenS _) ((HAL.out).all lenS rfl) (flatL_one oneS _) hpos (by unfold maxLen; omega) (by omega) (Nat.le_refl _) _ rfl ?_; intro g2 cap2 w4 hown hgrow hat hlt4; rw [Nat.zero_add] at hown ⊢; have HO := Lib.hid (⟨hown, (Below.refl wZ.heap.size wZ).grown hgrow (Nat.le_refl _) (fun k hk => by cases hk)⟩ : _ ∧ _); clear hown hgrow hat hlt4)
      go_meet
      exact ⟨HO.out.1, HO.out.2⟩
  case rest =>
    obtain ⟨hI2, hb2'⟩ := hcut
    obtain ⟨oo, co, rfl, _⟩ := hI2.shape
    have hxx : ∀ i, wc.cell? ⟨bx, i, none⟩ = (#[.int .u8 1, .string n, .string (rData r n), .int .i64 0] : Array Value)[i]? := fun i => by
      have := (hb2'.block bx (Array.getElem?_eq_some_iff.1 HZ.out.2).1).trans HZ.out.2
      simp [World.cell?, this]
    have f0 : wc.cell? ⟨bx, 0, none⟩ = some (.int .u8 1) := hxx 0
    have f1 : wc.cell? ⟨bx, 1, none⟩ = some (.string n) := hxx 1
    have f2 : wc.cell? ⟨bx, 2, none⟩ = some (.string (rData r n)) := hxx 2
    have f3 : wc.cell? ⟨bx, 3, none⟩ = some (.int .i64 0) := hxx 3
    have HI2 := Lib.hid hI2
    have hbase := hb2'.size
    clear hI2 hxx
    go_upto_region 24 with (at_builtin; refine wpList_append_lies _ rfl (.tmp 91) (.tmp 93) 35 rfl wZ.heap.size 109 i0 zz0 4 48 Try.underlying35 HI.out.1 HI.out.2.1 HI.out.2.2.1 HI.out.2.2.2.1 HI.out.2.2.2.2 (by decide) (.slice oo r1.opn.length co) r1.opn.length (flatL RStrm.cells r1.opn) rfl ((HI2.out).alloc _) ⟨wc.heap.size, 0, none⟩ 1 1 (RStrm.cells ⟨1, n, rData r n, 0⟩) rfl rfl (World.news_of_block (heap_alloc_new wc _)) (oneS ⟨1, n, rData r n, 0⟩) (by decide) (by unfold maxLen; omega) (by omega) (by rw [alloc_size]; exact Nat.le_succ_of_le hbase) _ rfl ?_; intro g2 cap2 w4 hown hgrow hat hlt4; have hb4 : Below wZ.heap.size wZ w4 := (hb2'.trans (((Below.refl _ wc).alloc (Nat.le_refl _) _).mono hb2'.size)).grown hgrow (by rw [alloc_size]; exact Nat.le_succ_of_le hbase) (fun k hk => (HI2.out.lt k hk).1); have hR4 := HZ.out.1.later hb4; have x9 := hR4.rbox.c9; have zz9 := hR4.rbox.z 9; have HO := Lib.hid (⟨hown, hR4⟩ : _ ∧ _); clear hown hgrow hat hlt4 hb4 hR4)
    obtain ⟨w5, h5⟩ : ∃ w5, w5 = w4.setCell ⟨b0, 9, none⟩ (.slice (some ⟨g2, 0, none⟩) (r1.opn.length + 1) cap2) := ⟨_, rfl⟩
    obtain ⟨s2, hs2⟩ : ∃ x : Shp, x = { s1 with oO := some ⟨g2, 0, none⟩, cO := cap2 } := ⟨_, rfl⟩
    obtain ⟨r2, hr2⟩ : ∃ x : RSt, x = { r1 with opn := r1.opn ++ [⟨1, n, rData r n, 0⟩] } := ⟨_, rfl⟩
    have hF := HO.out.2.field (i := 9) (v := .slice (some ⟨g2, 0, none⟩) (r1.opn.length + 1) cap2) (r' := r2) (s' := s2) (by rw [hs2, hr2]; simp [Shp.cells]) ⟨by rw [hs2]; exact HO.out.2.ref.rr, by rw [hs2]; exact HO.out.2.ref.rx, by rw [hs2, hr2]; exact HO.out.2.ref.rf, by
      rw [hs2, hr2]
      show World.ownsRow _ _ _ _ _ _ _
      rw [List.length_append, flatL_snoc]
      exact Own.base0 HO.out.1, by rw [hs2, hr2]; exact HO.out.2.ref.re, by rw [hs2]; exact HO.out.2.ref.gh.setO (rows_okb HO.out.1 HZ.out.1.ref.gh.bs) _⟩ (by rw [hs2]; rfl)
    rw [← h5] at hF ⊢
    have HN2 := Lib.hid (⟨hr2, (show s2.scr = s1.scr by rw [hs2]; rfl)⟩ : _ ∧ _)
    have hze2 : r2.events.length ≤ 1000000 := by rw [hr2]; show r1.events.length ≤ _; rw [HN.out.2.2]; exact hze
    have HF := Lib.hid hF
    clear h5 hs2 hr2 hF x9 zz9 f0 f1 f2 f3
    obtain ⟨y0, y1, y2, y3, y4, y5, y6, y7, y8, y9, y10, y11, _, _⟩ := (HF.out).rbox
    go_wp2_with (go_at_call 52; refine (eventRef HF.out.ref ⟨1, 1, n, noText, 0⟩ hze2).mono ?_; rintro e w6 ⟨s6, rfl, hs6, hr6, hb6⟩; have hRR := HF.out.later hb6; obtain ⟨q0, q1, q2, q3, q4, q5, q6, q7, q8, q9, q10, q11, qz, _⟩ := hRR.rres; have qz0 := qz 0; have qz1 := qz 1; have qz2 := qz 2; have qz3 := qz 3; have qz4 := qz 4; have qz5 := qz 5; have qz6 := qz 6; have qz7 := qz 7; have qz8 := qz 8; have qz9 := qz 9; have qz10 := qz 10; have qz11 := qz 11; have H6 := Lib.hid (⟨hRR, hr6, hs6⟩ : _ ∧ _ ∧ _); obtain ⟨r6, hr6e⟩ : ∃ x, x = eventR r2 ⟨1, 1, n, noText, 0⟩ := ⟨_, rfl⟩; rw [← hr6e] at H6 ⊢; have HE6 := Lib.hid hr6e; clear hRR hr6 hs6 hb6 qz hr6e)
    rw [put12_def]
    obtain ⟨d1, d2, d3⟩ := (H6.out.1).hand H6.out.2.1 H6.out.2.2
    obtain ⟨z0, z1, z2, z3, z4, z5, z6, z7, z8, z9, z10, z11, _, _⟩ := d3
    generalize put12 w6 b2 S r6 s6 = w9 at *
    refine bodyPost_ret (v := .tuple #[.agg (s6.cells S r6), .int .i64 0]) (by simp [results, Try.results31, go_sem, z0, z1, z2, z3, z4, z5, z6, z7, z8, z9, z10, z11]) rfl ?_
    have hfin : r6 = rOpened S r 1 n := by
      rw [HE6.out, HN2.out.1, rOpened_eq, HN.out.1]; exact HW.out
    rw [hfin] at d1 ⊢
    exact ⟨s6, rfl, H6.out.2.2.trans (HN2.out.2.trans HSc.out), d1, d2⟩
set_option maxHeartbeats 4000000 in
set_option maxRecDepth 100000 in
theorem openedPipe (h : RefAt w S r s) (n : ByteArray) (hf : Fewer S r) (hp : ¬ 0 ≤ rplace 2 n r.opn) (hm : ¬ S.most ≤ r.opn.length) (hx1 : (lookX 1 n S.fails).isSome = false)  :
    Calls Try.prog 31 #[.agg (s.cells S r), .int .u8 2, .string n] w (OpenPost w S r s 2 n) := by
  have hnew : rOpenNew S r 2 n := ⟨by decide, by omega, by omega, hx1, fun e => absurd e.1 (by decide)⟩
  have he : rOpenE S r 2 n = 0 := by unfold rOpenE; rw [if_neg (fun e => e (by decide)), if_neg hp, if_neg hm, if_neg (fun e => e.elim (fun e => by rw [hx1] at e; cases e) (fun e => absurd e.1 (by decide)))]
  have hx : rOpenS S r 2 n = rOpened S r 2 n := if_pos hnew
  unfold OpenPost
  rw [he, hx]
  have hzo : r.opn.length ≤ 1000000 := by have := hf.opn; omega
  have hzf := hf.files
  have hzx := hf.fails
  have hze := hf.events
  have hzr := hf.reps
  obtain ⟨bs, hbs⟩ : ∃ b, (lookF n r.files).isSome = b := ⟨_, rfl⟩
  have HSo := Lib.hid hbs
  clear hbs
  obtain ⟨c, hc⟩ := replyA_data S n
  have HC := Lib.hid hc
  clear hc
  obtain ⟨i0, zz0, hi, hz0, hsz, hby, hzs⟩ := stream_info
  have HI := Lib.hid (⟨hi, hz0, hsz, hby, hzs⟩ : _ ∧ _ ∧ _ ∧ _ ∧ _)
  clear hi hz0 hsz hby hzs
  have HX := Lib.hid hx1
  clear he hx hx1 hnew
  have hR := Run.two h
  go_enter Try.func31, Try.ntmps31
  go_upto_region 1 with fail
  obtain ⟨wA, hA⟩ : ∃ wA, wA = (w.alloc (.cells (s.cells S r) 38)).alloc (.cells #[.slice none 0 0, .string ⟨#[]⟩, .slice none 0 0, .slice none 0 0, .int .i64 0, .int .i64 0, .int .u64 0, .slice none 0 0, .int .i64 0, .slice none 0 0, .int .u64 0, .slice none 0 0] 38) := ⟨_, rfl⟩
  rw [← hA] at hR ⊢
  clear hA
  generalize w.heap.size + 1 = b2 at *
  generalize w.heap.size = b0 at hR ⊢
  have HR := Lib.hid (⟨h, hR⟩ : _ ∧ _)
  clear h hR
  obtain ⟨y0, y1, y2, y3, y4, y5, y6, y7, y8, y9, y10, y11, _, _⟩ := (HR.out.2).rbox
  go_upto_region 12 with (first
    | (go_at_call 49; refine (failsRef H2.out.ref 1 n hzx).mono ?_; rintro e w3 ⟨rfl, hbb⟩; rw [HX.out]; have hRR := (H2.out).later hbb; obtain ⟨y0, y1, y2, y3, y4, y5, y6, y7, y8, y9, y10, y11, _, _⟩ := hRR.rbox; have H3 := Lib.hid hRR; clear hRR hbb)
    | (go_at_call 17; refine (fileRef H1.out.ref n hzf).mono ?_; rintro e w2 ⟨rfl, hbb⟩; rw [fileA_data, HSo.out]; have hRR := (H1.out).later hbb; obtain ⟨y0, y1, y2, y3, y4, y5, y6, y7, y8, y9, y10, y11, _, _⟩ := hRR.rbox; have H2 := Lib.hid hRR; clear hRR hbb)
    | (go_at_call 15; refine (findRef HR.out.2.ref 2 n hzo).mono ?_; rintro e w1 ⟨rfl, hbb⟩; have hRR := (HR.out.2).later hbb; obtain ⟨y0, y1, y2, y3, y4, y5, y6, y7, y8, y9, y10, y11, _, _⟩ := hRR.rbox; have H1 := Lib.hid hRR; clear hRR hbb))
  obtain ⟨wX, hX⟩ : ∃ wX, wX = w3.alloc (.cells #[.int .u8 2, .string n, .string ⟨#[]⟩, .int .i64 0] 109) := ⟨_, rfl⟩
  have hbX : Below w3.heap.size w3 wX := by rw [hX]; exact (Below.refl _ w3).alloc (Nat.le_refl _) _
  have hblx : wX.heap[w3.heap.size]? = some (.cells #[.int .u8 2, .string n, .string ⟨#[]⟩, .int .i64 0] 109) := by rw [hX]; exact alloc_new _ _
  have e2 : wX.cell? ⟨w3.heap.size, 2, none⟩ = some (.string ⟨#[]⟩) := by simp [World.cell?, hblx]
  have e2z : wX.frozen? ⟨w3.heap.size, 2, none⟩ = false := by simp [World.frozen?, hblx]
  rw [← hX]
  have hb03 : b0 < w3.heap.size := (Array.getElem?_eq_some_iff.1 H3.out.box).1
  have hb23 : b2 < w3.heap.size := (Array.getElem?_eq_some_iff.1 H3.out.res).1
  have hRX := H3.out.later hbX
  obtain ⟨y0, y1, y2, y3, y4, y5, y6, y7, y8, y9, y10, y11, pz, _⟩ := hRX.rbox
  have pz0 := pz 0
  have pz1 := pz 1
  have pz2 := pz 2
  have pz3 := pz 3
  have pz4 := pz 4
  have pz5 := pz 5
  have pz6 := pz 6
  have pz7 := pz 7
  have pz8 := pz 8
  have pz9 := pz 9
  have pz10 := pz 10
  have pz11 := pz 11
  clear pz
  have HB := Lib.hid (⟨hbX, hblx, hRX⟩ : _ ∧ _ ∧ _)
  clear hX hbX hblx hRX
  obtain ⟨bx, hbx⟩ : ∃ b, b = w3.heap.size := ⟨_, rfl⟩
  rw [← hbx] at HB hb03 hb23 e2 e2z ⊢
  have HBx := Lib.hid hbx
  clear hbx
  go_upto_region 16 with (go_at_call 50; refine (replyRef HB.out.2.2.ref n hzr).mono ?_; rintro e w4 ⟨rfl, hb4⟩; rw [HC.out]; have H4 := Lib.hid hb4; clear hb4)
  obtain ⟨wV, hV⟩ : ∃ wV, wV = w4.alloc (.cells #[.string c, .string (rOut S n), .int .i64 (rStat S n)] 74) := ⟨_, rfl⟩
  have hbV : Below wX.heap.size wX wV := by rw [hV]; exact H4.out.trans (((Below.refl _ w4).alloc (Nat.le_refl _) _).mono H4.out.size)
  have v1 : wV.cell? ⟨w4.heap.size, 1, none⟩ = some (.string (rOut S n)) := by rw [hV]; exact box_cell 1
  have hblv : wV.heap[bx]? = some (.cells #[.int .u8 2, .string n, .string ⟨#[]⟩, .int .i64 0] 109) := (hbV.block bx (Array.getElem?_eq_some_iff.1 HB.out.2.1).1).trans HB.out.2.1
  have e2 : wV.cell? ⟨bx, 2, none⟩ = some (.string ⟨#[]⟩) := by simp [World.cell?, hblv]
  have e2z : wV.frozen? ⟨bx, 2, none⟩ = false := by simp [World.frozen?, hblv]
  rw [← hV]
  clear hV
  go_upto_region 21 with fail
  obtain ⟨wZ, hZ⟩ : ∃ wZ, wZ = wV.setCell ⟨bx, 2, none⟩ (.string (rOut S n)) := ⟨_, rfl⟩
  have hb3 : Below w3.heap.size w3 wZ := by rw [hZ, ← HBx.out]; exact below_set (b := bx) (HB.out.1.trans (hbV.mono (by rw [HBx.out]; exact HB.out.1.size))) (Nat.le_refl _) 2 _
  have hRZ := H3.out.later hb3
  have hblz : wZ.heap[bx]? = some (.cells #[.int .u8 2, .string n, .string (rOut S n), .int .i64 0] 109) := by rw [hZ, blk_set hblv]; rfl
  rw [← hZ]
  obtain ⟨r1, hr0⟩ : ∃ x, x = r := ⟨_, rfl⟩
  obtain ⟨s1, hs1⟩ : ∃ x, x = s := ⟨_, rfl⟩
  rw [← hr0, ← hs1] at hRZ
  have hr1 : r1 = rBegun r 2 n := hr0
  have hsc : s1.scr = s.scr := by rw [hs1]
  clear hr0 hs1 hZ hb3 e2 e2z v1 hblv hbV
  have HSc := Lib.hid hsc
  have HZ := Lib.hid (⟨hRZ, hblz⟩ : _ ∧ _)
  have HN := Lib.hid (show r1 = rBegun r 2 n ∧ r1.opn = r.opn ∧ r1.events = r.events from ⟨hr1, by rw [hr1]; exact (begun_opn r 2 n).1, by rw [hr1]; exact (begun_opn r 2 n).2⟩)
  have HW := Lib.hid (show eventR { rBegun r 2 n with opn := (rBegun r 2 n).opn ++ [⟨2, n, rOut S n, 0⟩] } ⟨1, 2, n, noText, 0⟩ = eventR { rBegun r 2 n with opn := (rBegun r 2 n).opn ++ [rStrm S r 2 n] } ⟨1, 2, n, noText, 0⟩ from rfl)
  clear hr1 hRZ hblz hsc
  have hzo1 : r1.opn.length ≤ 1000000 := by rw [HN.out.2.1]; exact hzo
  obtain ⟨y0, y1, y2, y3, y4, y5, y6, y7, y8, y9, y10, y11, _, _⟩ := (HZ.out.1).rbox
  go_upto_region 22 with fail
  go_cut [13] from 87 to 90 (fun sx wx => OwnS wx wZ.heap.size sx r1.opn ∧ Below wZ.heap.size wZ wx)
  case first =>
    by_cases hE : r1.opn = []
    · have hl : r1.opn.length = 0 := by rw [hE]; rfl
      have hcE := (HZ.out.1.ref.ro).nilCap
      rw [hl] at y9
      have HE0 := Lib.hid hE
      clear hl hE
      generalize hog : s1.oO = og at y9 hcE
      generalize hcg : s1.cO = cg at y9 hcE
      rcases og with _ | ad
      · obtain rfl := hcE rfl
        go_wp2_with fail
        go_meet
        exact ⟨by rw [HE0.out]; exact own_nil _ _ _ _, Below.refl _ _⟩
      · go_wp2_with fail
        go_meet
        exact ⟨by rw [HE0.out]; exact own_nil _ _ _ _, Below.refl _ _⟩
    · obtain ⟨x0, hx0⟩ : ∃ x0, r1.opn[0]? = some x0 := by
        cases hr : r1.opn with
        | nil => exact absurd hr hE
        | cons x l => exact ⟨x, rfl⟩
      have hpos : 0 < r1.opn.length := List.length_pos_iff.2 hE
      have hall := HZ.out.1.ref.ro
      generalize hog : s1.oO = og at y9 hall
      generalize hcg : s1.cO = cg at y9 hall
      obtain ⟨g, rfl, _⟩ := hall.at lenS hx0
      have HAL := Lib.hid hall
      clear hE hx0 hall
      go_wp2_with (at_builtin; refine wpList_append_lies _ rfl (.tmp 87) (.tmp 89) 35 rfl wZ.heap.size 109 i0 zz0 4 48 Try.underlying35 HI.out.1 HI.out.2.1 HI.out.2.2.1 HI.out.2.2.2.1 HI.out.2.2.2.2 (by decide) (.slice none 0 0) 0 [] rfl (World.ownsRow_nil _ _ _ _) ⟨g, 0, none⟩ r1.opn.length cg (flatL RStrm.cells r1.opn) rfl (flatL_length lenS _) ((HAL.out).all lenS rfl) (flatL_one oneS _) hpos (by unfold maxLen; omega) (by omega) (Nat.le_refl _) _ rfl ?_; intro g2 cap2 w4 hown hgrow hat hlt4; rw [Nat.zero_add] at hown ⊢; have HO := Lib.hid (⟨hown, (Below.refl wZ.heap.size wZ).grown hgrow (Nat.le_refl _) (fun k hk => by cases hk)⟩ : _ ∧ _); clear hown hgrow hat hlt4)
      go_meet
      exact ⟨HO.out.1, HO.out.2⟩
  case rest =>
    obtain ⟨hI2, hb2'⟩ := hcut
    obtain ⟨oo, co, rfl, _⟩ := hI2.shape
    have hxx : ∀ i, wc.cell? ⟨bx, i, none⟩ = (#[.int .u8 2, .string n, .string (rOut S n), .int .i64 0] : Array Value)[i]? := fun i => by
      have := (hb2'.block bx (Array.getElem?_eq_some_iff.1 HZ.out.2).1).trans HZ.out.2
      simp [World.cell?, this]
    have f0 : wc.cell? ⟨bx, 0, none⟩ = some (.int .u8 2) := hxx 0
    have f1 : wc.cell? ⟨bx, 1, none⟩ = some (.string n) := hxx 1
    have f2 : wc.cell? ⟨bx, 2, none⟩ = some (.string (rOut S n)) := hxx 2
    have f3 : wc.cell? ⟨bx, 3, none⟩ = some (.int .i64 0) := hxx 3
    have HI2 := Lib.hid hI2
    have hbase := hb2'.size
    clear hI2 hxx
    go_upto_region 24 with (at_builtin; refine wpList_append_lies _ rfl (.tmp 91) (.tmp 93) 35 rfl wZ.heap.size 109 i0 zz0 4 48 Try.underlying35 HI.out.1 HI.out.2.1 HI.out.2.2.1 HI.out.2.2.2.1 HI.out.2.2.2.2 (by decide) (.slice oo r1.opn.length co) r1.opn.length (flatL RStrm.cells r1.opn) rfl ((HI2.out).alloc _) ⟨wc.heap.size, 0, none⟩ 1 1 (RStrm.cells ⟨2, n, rOut S n, 0⟩) rfl rfl (World.news_of_block (heap_alloc_new wc _)) (oneS ⟨2, n, rOut S n, 0⟩) (by decide) (by unfold maxLen; omega) (by omega) (by rw [alloc_size]; exact Nat.le_succ_of_le hbase) _ rfl ?_; intro g2 cap2 w4 hown hgrow hat hlt4; have hb4 : Below wZ.heap.size wZ w4 := (hb2'.trans (((Below.refl _ wc).alloc (Nat.le_refl _) _).mono hb2'.size)).grown hgrow (by rw [alloc_size]; exact Nat.le_succ_of_le hbase) (fun k hk => (HI2.out.lt k hk).1); have hR4 := HZ.out.1.later hb4; have x9 := hR4.rbox.c9; have zz9 := hR4.rbox.z 9; have HO := Lib.hid (⟨hown, hR4⟩ : _ ∧ _); clear hown hgrow hat hlt4 hb4 hR4)
    obtain ⟨w5, h5⟩ : ∃ w5, w5 = w4.setCell ⟨b0, 9, none⟩ (.slice (some ⟨g2, 0, none⟩) (r1.opn.length + 1) cap2) := ⟨_, rfl⟩
    obtain ⟨s2, hs2⟩ : ∃ x : Shp, x = { s1 with oO := some ⟨g2, 0, none⟩, cO := cap2 } := ⟨_, rfl⟩
    obtain ⟨r2, hr2⟩ : ∃ x : RSt, x = { r1 with opn := r1.opn ++ [⟨2, n, rOut S n, 0⟩] } := ⟨_, rfl⟩
    have hF := HO.out.2.field (i := 9) (v := .slice (some ⟨g2, 0, none⟩) (r1.opn.length + 1) cap2) (r' := r2) (s' := s2) (by rw [hs2, hr2]; simp [Shp.cells]) ⟨by rw [hs2]; exact HO.out.2.ref.rr, by rw [hs2]; exact HO.out.2.ref.rx, by rw [hs2, hr2]; exact HO.out.2.ref.rf, by
      rw [hs2, hr2]
      show World.ownsRow _ _ _ _ _ _ _
      rw [List.length_append, flatL_snoc]
      exact Own.base0 HO.out.1, by rw [hs2, hr2]; exact HO.out.2.ref.re, by rw [hs2]; exact HO.out.2.ref.gh.setO (rows_okb HO.out.1 HZ.out.1.ref.gh.bs) _⟩ (by rw [hs2]; rfl)
    rw [← h5] at hF ⊢
    have HN2 := Lib.hid (⟨hr2, (show s2.scr = s1.scr by rw [hs2]; rfl)⟩ : _ ∧ _)
    have hze2 : r2.events.length ≤ 1000000 := by rw [hr2]; show r1.events.length ≤ _; rw [HN.out.2.2]; exact hze
    have HF := Lib.hid hF
    clear h5 hs2 hr2 hF x9 zz9 f0 f1 f2 f3
    obtain ⟨y0, y1, y2, y3, y4, y5, y6, y7, y8, y9, y10, y11, _, _⟩ := (HF.out).rbox
    go_wp2_with (go_at_call 52; refine (eventRef HF.out.ref ⟨1, 2, n, noText, 0⟩ hze2).mono ?_; rintro e w6 ⟨s6, rfl, hs6, hr6, hb6⟩; have hRR := HF.out.later hb6; obtain ⟨q0, q1, q2, q3, q4, q5, q6, q7, q8, q9, q10, q11, qz, _⟩ := hRR.rres; have qz0 := qz 0; have qz1 := qz 1; have qz2 := qz 2; have qz3 := qz 3; have qz4 := qz 4; have qz5 := qz 5; have qz6 := qz 6; have qz7 := qz 7; have qz8 := qz 8; have qz9 := qz 9; have qz10 := qz 10; have qz11 := qz 11; have H6 := Lib.hid (⟨hRR, hr6, hs6⟩ : _ ∧ _ ∧ _); obtain ⟨r6, hr6e⟩ : ∃ x, x = eventR r2 ⟨1, 2, n, noText, 0⟩ := ⟨_, rfl⟩; rw [← hr6e] at H6 ⊢; have HE6 := Lib.hid hr6e; clear hRR hr6 hs6 hb6 qz hr6e)
    rw [put12_def]
    obtain ⟨d1, d2, d3⟩ := (H6.out.1).hand H6.out.2.1 H6.out.2.2
    obtain ⟨z0, z1, z2, z3, z4, z5, z6, z7, z8, z9, z10, z11, _, _⟩ := d3
    generalize put12 w6 b2 S r6 s6 = w9 at *
    refine bodyPost_ret (v := .tuple #[.agg (s6.cells S r6), .int .i64 0]) (by simp [results, Try.results31, go_sem, z0, z1, z2, z3, z4, z5, z6, z7, z8, z9, z10, z11]) rfl ?_
    have hfin : r6 = rOpened S r 2 n := by
      rw [HE6.out, HN2.out.1, rOpened_eq, HN.out.1]; exact HW.out
    rw [hfin] at d1 ⊢
    exact ⟨s6, rfl, H6.out.2.2.trans (HN2.out.2.trans HSc.out), d1, d2⟩
set_option maxHeartbeats 4000000 in
set_option maxRecDepth 100000 in
theorem openedOut (h : RefAt w S r s) (n : ByteArray) (hf : Fewer S r) (hp : ¬ 0 ≤ rplace 3 n r.opn) (hm : ¬ S.most ≤ r.opn.length) (hx1 : (lookX 1 n S.fails).isSome = false)  :
    Calls Try.prog 31 #[.agg (s.cells S r), .int .u8 3, .string n] w (OpenPost w S r s 3 n) := by
  have hnew : rOpenNew S r 3 n := ⟨by decide, by omega, by omega, hx1, fun e => absurd e.1 (by decide)⟩
  have he : rOpenE S r 3 n = 0 := by unfold rOpenE; rw [if_neg (fun e => e (by decide)), if_neg hp, if_neg hm, if_neg (fun e => e.elim (fun e => by rw [hx1] at e; cases e) (fun e => absurd e.1 (by decide)))]
  have hx : rOpenS S r 3 n = rOpened S r 3 n := if_pos hnew
  unfold OpenPost
  rw [he, hx]
  have hzo : r.opn.length ≤ 1000000 := by have := hf.opn; omega
  have hzf := hf.files
  have hzx := hf.fails
  have hze := hf.events
  have hzr := hf.reps
  obtain ⟨bs, hbs⟩ : ∃ b, (lookF n r.files).isSome = b := ⟨_, rfl⟩
  have HSo := Lib.hid hbs
  clear hbs
  obtain ⟨i0, zz0, hi, hz0, hsz, hby, hzs⟩ := stream_info
  have HI := Lib.hid (⟨hi, hz0, hsz, hby, hzs⟩ : _ ∧ _ ∧ _ ∧ _ ∧ _)
  clear hi hz0 hsz hby hzs
  have HX := Lib.hid hx1
  clear he hx hx1 hnew
  have hR := Run.two h
  go_enter Try.func31, Try.ntmps31
  go_upto_region 1 with fail
  obtain ⟨wA, hA⟩ : ∃ wA, wA = (w.alloc (.cells (s.cells S r) 38)).alloc (.cells #[.slice none 0 0, .string ⟨#[]⟩, .slice none 0 0, .slice none 0 0, .int .i64 0, .int .i64 0, .int .u64 0, .slice none 0 0, .int .i64 0, .slice none 0 0, .int .u64 0, .slice none 0 0] 38) := ⟨_, rfl⟩
  rw [← hA] at hR ⊢
  clear hA
  generalize w.heap.size + 1 = b2 at *
  generalize w.heap.size = b0 at hR ⊢
  have HR := Lib.hid (⟨h, hR⟩ : _ ∧ _)
  clear h hR
  obtain ⟨y0, y1, y2, y3, y4, y5, y6, y7, y8, y9, y10, y11, _, _⟩ := (HR.out.2).rbox
  go_upto_region 12 with (first
    | (go_at_call 49; refine (failsRef H2.out.ref 1 n hzx).mono ?_; rintro e w3 ⟨rfl, hbb⟩; rw [HX.out]; have hRR := (H2.out).later hbb; obtain ⟨y0, y1, y2, y3, y4, y5, y6, y7, y8, y9, y10, y11, _, _⟩ := hRR.rbox; have H3 := Lib.hid hRR; clear hRR hbb)
    | (go_at_call 17; refine (fileRef H1.out.ref n hzf).mono ?_; rintro e w2 ⟨rfl, hbb⟩; rw [fileA_data, HSo.out]; have hRR := (H1.out).later hbb; obtain ⟨y0, y1, y2, y3, y4, y5, y6, y7, y8, y9, y10, y11, _, _⟩ := hRR.rbox; have H2 := Lib.hid hRR; clear hRR hbb)
    | (go_at_call 15; refine (findRef HR.out.2.ref 3 n hzo).mono ?_; rintro e w1 ⟨rfl, hbb⟩; have hRR := (HR.out.2).later hbb; obtain ⟨y0, y1, y2, y3, y4, y5, y6, y7, y8, y9, y10, y11, _, _⟩ := hRR.rbox; have H1 := Lib.hid hRR; clear hRR hbb))
  obtain ⟨wX, hX⟩ : ∃ wX, wX = w3.alloc (.cells #[.int .u8 3, .string n, .string ⟨#[]⟩, .int .i64 0] 109) := ⟨_, rfl⟩
  have hbX : Below w3.heap.size w3 wX := by rw [hX]; exact (Below.refl _ w3).alloc (Nat.le_refl _) _
  have hblx : wX.heap[w3.heap.size]? = some (.cells #[.int .u8 3, .string n, .string ⟨#[]⟩, .int .i64 0] 109) := by rw [hX]; exact alloc_new _ _
  have e2 : wX.cell? ⟨w3.heap.size, 2, none⟩ = some (.string ⟨#[]⟩) := by simp [World.cell?, hblx]
  have e2z : wX.frozen? ⟨w3.heap.size, 2, none⟩ = false := by simp [World.frozen?, hblx]
  rw [← hX]
  have hb03 : b0 < w3.heap.size := (Array.getElem?_eq_some_iff.1 H3.out.box).1
  have hb23 : b2 < w3.heap.size := (Array.getElem?_eq_some_iff.1 H3.out.res).1
  have hRX := H3.out.later hbX
  obtain ⟨y0, y1, y2, y3, y4, y5, y6, y7, y8, y9, y10, y11, pz, _⟩ := hRX.rbox
  have pz0 := pz 0
  have pz1 := pz 1
  have pz2 := pz 2
  have pz3 := pz 3
  have pz4 := pz 4
  have pz5 := pz 5
  have pz6 := pz 6
  have pz7 := pz 7
  have pz8 := pz 8
  have pz9 := pz 9
  have pz10 := pz 10
  have pz11 := pz 11
  clear pz
  have HB := Lib.hid (⟨hbX, hblx, hRX⟩ : _ ∧ _ ∧ _)
  clear hX hbX hblx hRX
  obtain ⟨bx, hbx⟩ : ∃ b, b = w3.heap.size := ⟨_, rfl⟩
  rw [← hbx] at HB hb03 hb23 e2 e2z ⊢
  have HBx := Lib.hid hbx
  clear hbx
  go_upto_region 21 with (go_at_call 51; refine (withRef HB.out.2.2.ref n noText hzf).mono ?_; rintro e w4 ⟨s4, rfl, hs4, hr4, hb4⟩; have hRR := HB.out.2.2.later hb4; obtain ⟨y0, y1, y2, y3, y4, y5, y6, y7, y8, y9, y10, y11, pz, _⟩ := hRR.rbox; have pz0 := pz 0; have pz1 := pz 1; have pz2 := pz 2; have pz3 := pz 3; have pz4 := pz 4; have pz5 := pz 5; have pz6 := pz 6; have pz7 := pz 7; have pz8 := pz 8; have pz9 := pz 9; have pz10 := pz 10; have pz11 := pz 11; have hbl4 := (hb4.block bx (Array.getElem?_eq_some_iff.1 HB.out.2.1).1).trans HB.out.2.1; obtain ⟨r1, hr1⟩ : ∃ x, x = rWith r n noText := ⟨_, rfl⟩; rw [← hr1] at hr4 ⊢; have H4 := Lib.hid (⟨hRR, hr4, hs4, hbl4⟩ : _ ∧ _ ∧ _ ∧ _); clear hRR hr4 hs4 hb4 hbl4 pz)
  rw [put12_def]
  try rw [← hr1]
  generalize Value.agg (s4.cells S r1) = vv
  obtain ⟨wZ, hZ⟩ : ∃ wZ, wZ = put12 w4 b0 S r1 s4 := ⟨_, rfl⟩
  have hRZ := H4.out.1.put H4.out.2.1 H4.out.2.2.1
  have hblz : wZ.heap[bx]? = some (.cells #[.int .u8 3, .string n, .string ⟨#[]⟩, .int .i64 0] 109) := by
    rw [hZ, put12_heap _ _ _ _ _ (show bx ≠ b0 by omega)]; exact H4.out.2.2.2
  rw [← hZ] at hRZ ⊢
  obtain ⟨s1, hs1⟩ : ∃ x, x = s4 := ⟨_, rfl⟩
  rw [← hs1] at hRZ
  have hsc : s1.scr = s.scr := by rw [hs1]; exact H4.out.2.2.1
  replace hr1 : r1 = rBegun r 3 n := hr1
  clear hs1 hZ e2 e2z
  have HSc := Lib.hid hsc
  have HZ := Lib.hid (⟨hRZ, hblz⟩ : _ ∧ _)
  have HN := Lib.hid (show r1 = rBegun r 3 n ∧ r1.opn = r.opn ∧ r1.events = r.events from ⟨hr1, by rw [hr1]; exact (begun_opn r 3 n).1, by rw [hr1]; exact (begun_opn r 3 n).2⟩)
  have HW := Lib.hid (show eventR { rBegun r 3 n with opn := (rBegun r 3 n).opn ++ [⟨3, n, ⟨#[]⟩, 0⟩] } ⟨1, 3, n, noText, 0⟩ = eventR { rBegun r 3 n with opn := (rBegun r 3 n).opn ++ [rStrm S r 3 n] } ⟨1, 3, n, noText, 0⟩ from rfl)
  clear hr1 hRZ hblz hsc
  have hzo1 : r1.opn.length ≤ 1000000 := by rw [HN.out.2.1]; exact hzo
  obtain ⟨y0, y1, y2, y3, y4, y5, y6, y7, y8, y9, y10, y11, _, _⟩ := (HZ.out.1).rbox
  go_upto_region 22 with fail
  go_cut [13] from 87 to 90 (fun sx wx => OwnS wx wZ.heap.size sx r1.opn ∧ Below wZ.heap.size wZ wx)
  case first =>
    by_cases hE : r1.opn = []
    · have hl : r1.opn.length = 0 := by rw [hE]; rfl
      have hcE := (HZ.out.1.ref.ro).nilCap
      rw [hl] at y9
      have HE0 := Lib.hid hE
      clear hl hE
      generalize hog : s1.oO = og at y9 hcE
      generalize hcg : s1.cO = cg at y9 hcE
      rcases og with _ | ad
      · obtain rfl := hcE rfl
        go_wp2_with fail
        go_meet
        exact ⟨by rw [HE0.out]; exact own_nil _ _ _ _, Below.refl _ _⟩
      · go_wp2_with fail
        go_meet
        exact ⟨by rw [HE0.out]; exact own_nil _ _ _ _, Below.refl _ _⟩
    · obtain ⟨x0, hx0⟩ : ∃ x0, r1.opn[0]? = some x0 := by
        cases hr : r1.opn with
        | nil => exact absurd hr hE
        | cons x l => exact ⟨x, rfl⟩
      have hpos : 0 < r1.opn.length := List.length_pos_iff.2 hE
      have hall := HZ.out.1.ref.ro
      generalize hog : s1.oO = og at y9 hall
      generalize hcg : s1.cO = cg at y9 hall
      obtain ⟨g, rfl, _⟩ := hall.at lenS hx0
      have HAL := Lib.hid hall
      clear hE hx0 hall
      go_wp2_with (at_builtin; refine wpList_append_lies _ rfl (.tmp 87) (.tmp 89) 35 rfl wZ.heap.size 109 i0 zz0 4 48 Try.underlying35 HI.out.1 HI.out.2.1 HI.out.2.2.1 HI.out.2.2.2.1 HI.out.2.2.2.2 (by decide) (.slice none 0 0) 0 [] rfl (World.ownsRow_nil _ _ _ _) ⟨g, 0, none⟩ r1.opn.length cg (flatL RStrm.cells r1.opn) rfl (flatL_length lenS _) ((HAL.out).all lenS rfl) (flatL_one oneS _) hpos (by unfold maxLen; omega) (by omega) (Nat.le_refl _) _ rfl ?_; intro g2 cap2 w4 hown hgrow hat hlt4; rw [Nat.zero_add] at hown ⊢; have HO := Lib.hid (⟨hown, (Below.refl wZ.heap.size wZ).grown hgrow (Nat.le_refl _) (fun k hk => by cases hk)⟩ : _ ∧ _); clear hown hgrow hat hlt4)
      go_meet
      exact ⟨HO.out.1, HO.out.2⟩
  case rest =>
    obtain ⟨hI2, hb2'⟩ := hcut
    obtain ⟨oo, co, rfl, _⟩ := hI2.shape
    have hxx : ∀ i, wc.cell? ⟨bx, i, none⟩ = (#[.int .u8 3, .string n, .string (⟨#[]⟩), .int .i64 0] : Array Value)[i]? := fun i => by
      have := (hb2'.block bx (Array.getElem?_eq_some_iff.1 HZ.out.2).1).trans HZ.out.2
      simp [World.cell?, this]
    have f0 : wc.cell? ⟨bx, 0, none⟩ = some (.int .u8 3) := hxx 0
    have f1 : wc.cell? ⟨bx, 1, none⟩ = some (.string n) := hxx 1
    have f2 : wc.cell? ⟨bx, 2, none⟩ = some (.string (⟨#[]⟩)) := hxx 2
    have f3 : wc.cell? ⟨bx, 3, none⟩ = some (.int .i64 0) := hxx 3
    have HI2 := Lib.hid hI2
    have hbase := hb2'.size
    clear hI2 hxx
    go_upto_region 24 with (at_builtin; refine wpList_append_lies _ rfl (.tmp 91) (.tmp 93) 35 rfl wZ.heap.size 109 i0 zz0 4 48 Try.underlying35 HI.out.1 HI.out.2.1 HI.out.2.2.1 HI.out.2.2.2.1 HI.out.2.2.2.2 (by decide) (.slice oo r1.opn.length co) r1.opn.length (flatL RStrm.cells r1.opn) rfl ((HI2.out).alloc _) ⟨wc.heap.size, 0, none⟩ 1 1 (RStrm.cells ⟨3, n, ⟨#[]⟩, 0⟩) rfl rfl (World.news_of_block (heap_alloc_new wc _)) (oneS ⟨3, n, ⟨#[]⟩, 0⟩) (by decide) (by unfold maxLen; omega) (by omega) (by rw [alloc_size]; exact Nat.le_succ_of_le hbase) _ rfl ?_; intro g2 cap2 w4 hown hgrow hat hlt4; have hb4 : Below wZ.heap.size wZ w4 := (hb2'.trans (((Below.refl _ wc).alloc (Nat.le_refl _) _).mono hb2'.size)).grown hgrow (by rw [alloc_size]; exact Nat.le_succ_of_le hbase) (fun k hk => (HI2.out.lt k hk).1); have hR4 := HZ.out.1.later hb4; have x9 := hR4.rbox.c9; have zz9 := hR4.rbox.z 9; have HO := Lib.hid (⟨hown, hR4⟩ : _ ∧ _); clear hown hgrow hat hlt4 hb4 hR4)
    obtain ⟨w5, h5⟩ : ∃ w5, w5 = w4.setCell ⟨b0, 9, none⟩ (.slice (some ⟨g2, 0, none⟩) (r1.opn.length + 1) cap2) := ⟨_, rfl⟩
    obtain ⟨s2, hs2⟩ : ∃ x : Shp, x = { s1 with oO := some ⟨g2, 0, none⟩, cO := cap2 } := ⟨_, rfl⟩
    obtain ⟨r2, hr2⟩ : ∃ x : RSt, x = { r1 with opn := r1.opn ++ [⟨3, n, ⟨#[]⟩, 0⟩] } := ⟨_, rfl⟩
    have hF := HO.out.2.field (i := 9) (v := .slice (some ⟨g2, 0, none⟩) (r1.opn.length + 1) cap2) (r' := r2) (s' := s2) (by rw [hs2, hr2]; simp [Shp.cells]) ⟨by rw [hs2]; exact HO.out.2.ref.rr, by rw [hs2]; exact HO.out.2.ref.rx, by rw [hs2, hr2]; exact HO.out.2.ref.rf, by
      rw [hs2, hr2]
      show World.ownsRow _ _ _ _ _ _ _
      rw [List.length_append, flatL_snoc]
      exact Own.base0 HO.out.1, by rw [hs2, hr2]; exact HO.out.2.ref.re, by rw [hs2]; exact HO.out.2.ref.gh.setO (rows_okb HO.out.1 HZ.out.1.ref.gh.bs) _⟩ (by rw [hs2]; rfl)
    rw [← h5] at hF ⊢
    have HN2 := Lib.hid (⟨hr2, (show s2.scr = s1.scr by rw [hs2]; rfl)⟩ : _ ∧ _)
    have hze2 : r2.events.length ≤ 1000000 := by rw [hr2]; show r1.events.length ≤ _; rw [HN.out.2.2]; exact hze
    have HF := Lib.hid hF
    clear h5 hs2 hr2 hF x9 zz9 f0 f1 f2 f3
    obtain ⟨y0, y1, y2, y3, y4, y5, y6, y7, y8, y9, y10, y11, _, _⟩ := (HF.out).rbox
    go_wp2_with (go_at_call 52; refine (eventRef HF.out.ref ⟨1, 3, n, noText, 0⟩ hze2).mono ?_; rintro e w6 ⟨s6, rfl, hs6, hr6, hb6⟩; have hRR := HF.out.later hb6; obtain ⟨q0, q1, q2, q3, q4, q5, q6, q7, q8, q9, q10, q11, qz, _⟩ := hRR.rres; have qz0 := qz 0; have qz1 := qz 1; have qz2 := qz 2; have qz3 := qz 3; have qz4 := qz 4; have qz5 := qz 5; have qz6 := qz 6; have qz7 := qz 7; have qz8 := qz 8; have qz9 := qz 9; have qz10 := qz 10; have qz11 := qz 11; have H6 := Lib.hid (⟨hRR, hr6, hs6⟩ : _ ∧ _ ∧ _); obtain ⟨r6, hr6e⟩ : ∃ x, x = eventR r2 ⟨1, 3, n, noText, 0⟩ := ⟨_, rfl⟩; rw [← hr6e] at H6 ⊢; have HE6 := Lib.hid hr6e; clear hRR hr6 hs6 hb6 qz hr6e)
    rw [put12_def]
    obtain ⟨d1, d2, d3⟩ := (H6.out.1).hand H6.out.2.1 H6.out.2.2
    obtain ⟨z0, z1, z2, z3, z4, z5, z6, z7, z8, z9, z10, z11, _, _⟩ := d3
    generalize put12 w6 b2 S r6 s6 = w9 at *
    refine bodyPost_ret (v := .tuple #[.agg (s6.cells S r6), .int .i64 0]) (by simp [results, Try.results31, go_sem, z0, z1, z2, z3, z4, z5, z6, z7, z8, z9, z10, z11]) rfl ?_
    have hfin : r6 = rOpened S r 3 n := by
      rw [HE6.out, HN2.out.1, rOpened_eq, HN.out.1]; exact HW.out
    rw [hfin] at d1 ⊢
    exact ⟨s6, rfl, H6.out.2.2.trans (HN2.out.2.trans HSc.out), d1, d2⟩
set_option maxHeartbeats 4000000 in
set_option maxRecDepth 100000 in
theorem openedAppend (h : RefAt w S r s) (n : ByteArray) (hf : Fewer S r) (hp : ¬ 0 ≤ rplace 4 n r.opn) (hm : ¬ S.most ≤ r.opn.length) (hx1 : (lookX 1 n S.fails).isSome = false)  :
    Calls Try.prog 31 #[.agg (s.cells S r), .int .u8 4, .string n] w (OpenPost w S r s 4 n) := by
  have hnew : rOpenNew S r 4 n := ⟨by decide, by omega, by omega, hx1, fun e => absurd e.1 (by decide)⟩
  have he : rOpenE S r 4 n = 0 := by unfold rOpenE; rw [if_neg (fun e => e (by decide)), if_neg hp, if_neg hm, if_neg (fun e => e.elim (fun e => by rw [hx1] at e; cases e) (fun e => absurd e.1 (by decide)))]
  have hx : rOpenS S r 4 n = rOpened S r 4 n := if_pos hnew
  unfold OpenPost
  rw [he, hx]
  have hzo : r.opn.length ≤ 1000000 := by have := hf.opn; omega
  have hzf := hf.files
  have hzx := hf.fails
  have hze := hf.events
  have hzr := hf.reps
  obtain ⟨bs, hbs⟩ : ∃ b, (lookF n r.files).isSome = b := ⟨_, rfl⟩
  have HSo := Lib.hid hbs
  clear hbs
  obtain ⟨i0, zz0, hi, hz0, hsz, hby, hzs⟩ := stream_info
  have HI := Lib.hid (⟨hi, hz0, hsz, hby, hzs⟩ : _ ∧ _ ∧ _ ∧ _ ∧ _)
  clear hi hz0 hsz hby hzs
  have HX := Lib.hid hx1
  clear he hx hx1 hnew
  have hR := Run.two h
  go_enter Try.func31, Try.ntmps31
  go_upto_region 1 with fail
  obtain ⟨wA, hA⟩ : ∃ wA, wA = (w.alloc (.cells (s.cells S r) 38)).alloc (.cells #[.slice none 0 0, .string ⟨#[]⟩, .slice none 0 0, .slice none 0 0, .int .i64 0, .int .i64 0, .int .u64 0, .slice none 0 0, .int .i64 0, .slice none 0 0, .int .u64 0, .slice none 0 0] 38) := ⟨_, rfl⟩
  rw [← hA] at hR ⊢
  clear hA
  generalize w.heap.size + 1 = b2 at *
  generalize w.heap.size = b0 at hR ⊢
  have HR := Lib.hid (⟨h, hR⟩ : _ ∧ _)
  clear h hR
  obtain ⟨y0, y1, y2, y3, y4, y5, y6, y7, y8, y9, y10, y11, _, _⟩ := (HR.out.2).rbox
  go_upto_region 12 with (first
    | (go_at_call 49; refine (failsRef H2.out.ref 1 n hzx).mono ?_; rintro e w3 ⟨rfl, hbb⟩; rw [HX.out]; have hRR := (H2.out).later hbb; obtain ⟨y0, y1, y2, y3, y4, y5, y6, y7, y8, y9, y10, y11, _, _⟩ := hRR.rbox; have H3 := Lib.hid hRR; clear hRR hbb)
    | (go_at_call 17; refine (fileRef H1.out.ref n hzf).mono ?_; rintro e w2 ⟨rfl, hbb⟩; rw [fileA_data, HSo.out]; have hRR := (H1.out).later hbb; obtain ⟨y0, y1, y2, y3, y4, y5, y6, y7, y8, y9, y10, y11, _, _⟩ := hRR.rbox; have H2 := Lib.hid hRR; clear hRR hbb)
    | (go_at_call 15; refine (findRef HR.out.2.ref 4 n hzo).mono ?_; rintro e w1 ⟨rfl, hbb⟩; have hRR := (HR.out.2).later hbb; obtain ⟨y0, y1, y2, y3, y4, y5, y6, y7, y8, y9, y10, y11, _, _⟩ := hRR.rbox; have H1 := Lib.hid hRR; clear hRR hbb))
  obtain ⟨wX, hX⟩ : ∃ wX, wX = w3.alloc (.cells #[.int .u8 4, .string n, .string ⟨#[]⟩, .int .i64 0] 109) := ⟨_, rfl⟩
  have hbX : Below w3.heap.size w3 wX := by rw [hX]; exact (Below.refl _ w3).alloc (Nat.le_refl _) _
  have hblx : wX.heap[w3.heap.size]? = some (.cells #[.int .u8 4, .string n, .string ⟨#[]⟩, .int .i64 0] 109) := by rw [hX]; exact alloc_new _ _
  have e2 : wX.cell? ⟨w3.heap.size, 2, none⟩ = some (.string ⟨#[]⟩) := by simp [World.cell?, hblx]
  have e2z : wX.frozen? ⟨w3.heap.size, 2, none⟩ = false := by simp [World.frozen?, hblx]
  rw [← hX]
  have hb03 : b0 < w3.heap.size := (Array.getElem?_eq_some_iff.1 H3.out.box).1
  have hb23 : b2 < w3.heap.size := (Array.getElem?_eq_some_iff.1 H3.out.res).1
  have hRX := H3.out.later hbX
  obtain ⟨y0, y1, y2, y3, y4, y5, y6, y7, y8, y9, y10, y11, pz, _⟩ := hRX.rbox
  have pz0 := pz 0
  have pz1 := pz 1
  have pz2 := pz 2
  have pz3 := pz 3
  have pz4 := pz 4
  have pz5 := pz 5
  have pz6 := pz 6
  have pz7 := pz 7
  have pz8 := pz 8
  have pz9 := pz 9
  have pz10 := pz 10
  have pz11 := pz 11
  clear pz
  have HB := Lib.hid (⟨hbX, hblx, hRX⟩ : _ ∧ _ ∧ _)
  clear hX hbX hblx hRX
  obtain ⟨bx, hbx⟩ : ∃ b, b = w3.heap.size := ⟨_, rfl⟩
  rw [← hbx] at HB hb03 hb23 e2 e2z ⊢
  have HBx := Lib.hid hbx
  clear hbx
  go_upto_region 21 with (go_at_call 51; refine (withRef HB.out.2.2.ref n (rData r n) hzf).mono ?_; rintro e w4 ⟨s4, rfl, hs4, hr4, hb4⟩; have hRR := HB.out.2.2.later hb4; obtain ⟨y0, y1, y2, y3, y4, y5, y6, y7, y8, y9, y10, y11, pz, _⟩ := hRR.rbox; have pz0 := pz 0; have pz1 := pz 1; have pz2 := pz 2; have pz3 := pz 3; have pz4 := pz 4; have pz5 := pz 5; have pz6 := pz 6; have pz7 := pz 7; have pz8 := pz 8; have pz9 := pz 9; have pz10 := pz 10; have pz11 := pz 11; have hbl4 := (hb4.block bx (Array.getElem?_eq_some_iff.1 HB.out.2.1).1).trans HB.out.2.1; obtain ⟨r1, hr1⟩ : ∃ x, x = rWith r n (rData r n) := ⟨_, rfl⟩; rw [← hr1] at hr4 ⊢; have H4 := Lib.hid (⟨hRR, hr4, hs4, hbl4⟩ : _ ∧ _ ∧ _ ∧ _); clear hRR hr4 hs4 hb4 hbl4 pz)
  rw [put12_def]
  try rw [← hr1]
  generalize Value.agg (s4.cells S r1) = vv
  obtain ⟨wZ, hZ⟩ : ∃ wZ, wZ = put12 w4 b0 S r1 s4 := ⟨_, rfl⟩
  have hRZ := H4.out.1.put H4.out.2.1 H4.out.2.2.1
  have hblz : wZ.heap[bx]? = some (.cells #[.int .u8 4, .string n, .string ⟨#[]⟩, .int .i64 0] 109) := by
    rw [hZ, put12_heap _ _ _ _ _ (show bx ≠ b0 by omega)]; exact H4.out.2.2.2
  rw [← hZ] at hRZ ⊢
  obtain ⟨s1, hs1⟩ : ∃ x, x = s4 := ⟨_, rfl⟩
  rw [← hs1] at hRZ
  have hsc : s1.scr = s.scr := by rw [hs1]; exact H4.out.2.2.1
  replace hr1 : r1 = rBegun r 4 n := hr1
  clear hs1 hZ e2 e2z
  have HSc := Lib.hid hsc
  have HZ := Lib.hid (⟨hRZ, hblz⟩ : _ ∧ _)
  have HN := Lib.hid (show r1 = rBegun r 4 n ∧ r1.opn = r.opn ∧ r1.events = r.events from ⟨hr1, by rw [hr1]; exact (begun_opn r 4 n).1, by rw [hr1]; exact (begun_opn r 4 n).2⟩)
  have HW := Lib.hid (show eventR { rBegun r 4 n with opn := (rBegun r 4 n).opn ++ [⟨4, n, ⟨#[]⟩, 0⟩] } ⟨1, 4, n, noText, 0⟩ = eventR { rBegun r 4 n with opn := (rBegun r 4 n).opn ++ [rStrm S r 4 n] } ⟨1, 4, n, noText, 0⟩ from rfl)
  clear hr1 hRZ hblz hsc
  have hzo1 : r1.opn.length ≤ 1000000 := by rw [HN.out.2.1]; exact hzo
  obtain ⟨y0, y1, y2, y3, y4, y5, y6, y7, y8, y9, y10, y11, _, _⟩ := (HZ.out.1).rbox
  go_upto_region 22 with fail
  go_cut [13] from 87 to 90 (fun sx wx => OwnS wx wZ.heap.size sx r1.opn ∧ Below wZ.heap.size wZ wx)
  case first =>
    by_cases hE : r1.opn = []
    · have hl : r1.opn.length = 0 := by rw [hE]; rfl
      have hcE := (HZ.out.1.ref.ro).nilCap
      rw [hl] at y9
      have HE0 := Lib.hid hE
      clear hl hE
      generalize hog : s1.oO = og at y9 hcE
      generalize hcg : s1.cO = cg at y9 hcE
      rcases og with _ | ad
      · obtain rfl := hcE rfl
        go_wp2_with fail
        go_meet
        exact ⟨by rw [HE0.out]; exact own_nil _ _ _ _, Below.refl _ _⟩
      · go_wp2_with fail
        go_meet
        exact ⟨by rw [HE0.out]; exact own_nil _ _ _ _, Below.refl _ _⟩
    · obtain ⟨x0, hx0⟩ : ∃ x0, r1.opn[0]? = some x0 := by
        cases hr : r1.opn with
        | nil => exact absurd hr hE
        | cons x l => exact ⟨x, rfl⟩
      have hpos : 0 < r1.opn.length := List.length_pos_iff.2 hE
      have hall := HZ.out.1.ref.ro
      generalize hog : s1.oO = og at y9 hall
      generalize hcg : s1.cO = cg at y9 hall
      obtain ⟨g, rfl, _⟩ := hall.at lenS hx0
      have HAL := Lib.hid hall
      clear hE hx0 hall
      go_wp2_with (at_builtin; refine wpList_append_lies _ rfl (.tmp 87) (.tmp 89) 35 rfl wZ.heap.size 109 i0 zz0 4 48 Try.underlying35 HI.out.1 HI.out.2.1 HI.out.2.2.1 HI.out.2.2.2.1 HI.out.2.2.2.2 (by decide) (.slice none 0 0) 0 [] rfl (World.ownsRow_nil _ _ _ _) ⟨g, 0, none⟩ r1.opn.length cg (flatL RStrm.cells r1.opn) rfl (flatL_length lenS _) ((HAL.out).all lenS rfl) (flatL_one oneS _) hpos (by unfold maxLen; omega) (by omega) (Nat.le_refl _) _ rfl ?_; intro g2 cap2 w4 hown hgrow hat hlt4; rw [Nat.zero_add] at hown ⊢; have HO := Lib.hid (⟨hown, (Below.refl wZ.heap.size wZ).grown hgrow (Nat.le_refl _) (fun k hk => by cases hk)⟩ : _ ∧ _); clear hown hgrow hat hlt4)
      go_meet
      exact ⟨HO.out.1, HO.out.2⟩
  case rest =>
    obtain ⟨hI2, hb2'⟩ := hcut
    obtain ⟨oo, co, rfl, _⟩ := hI2.shape
    have hxx : ∀ i, wc.cell? ⟨bx, i, none⟩ = (#[.int .u8 4, .string n, .string (⟨#[]⟩), .int .i64 0] : Array Value)[i]? := fun i => by
      have := (hb2'.block bx (Array.getElem?_eq_some_iff.1 HZ.out.2).1).trans HZ.out.2
      simp [World.cell?, this]
    have f0 : wc.cell? ⟨bx, 0, none⟩ = some (.int .u8 4) := hxx 0
    have f1 : wc.cell? ⟨bx, 1, none⟩ = some (.string n) := hxx 1
    have f2 : wc.cell? ⟨bx, 2, none⟩ = some (.string (⟨#[]⟩)) := hxx 2
    have f3 : wc.cell? ⟨bx, 3, none⟩ = some (.int .i64 0) := hxx 3
    have HI2 := Lib.hid hI2
    have hbase := hb2'.size
    clear hI2 hxx
    go_upto_region 24 with (at_builtin; refine wpList_append_lies _ rfl (.tmp 91) (.tmp 93) 35 rfl wZ.heap.size 109 i0 zz0 4 48 Try.underlying35 HI.out.1 HI.out.2.1 HI.out.2.2.1 HI.out.2.2.2.1 HI.out.2.2.2.2 (by decide) (.slice oo r1.opn.length co) r1.opn.length (flatL RStrm.cells r1.opn) rfl ((HI2.out).alloc _) ⟨wc.heap.size, 0, none⟩ 1 1 (RStrm.cells ⟨4, n, ⟨#[]⟩, 0⟩) rfl rfl (World.news_of_block (heap_alloc_new wc _)) (oneS ⟨4, n, ⟨#[]⟩, 0⟩) (by decide) (by unfold maxLen; omega) (by omega) (by rw [alloc_size]; exact Nat.le_succ_of_le hbase) _ rfl ?_; intro g2 cap2 w4 hown hgrow hat hlt4; have hb4 : Below wZ.heap.size wZ w4 := (hb2'.trans (((Below.refl _ wc).alloc (Nat.le_refl _) _).mono hb2'.size)).grown hgrow (by rw [alloc_size]; exact Nat.le_succ_of_le hbase) (fun k hk => (HI2.out.lt k hk).1); have hR4 := HZ.out.1.later hb4; have x9 := hR4.rbox.c9; have zz9 := hR4.rbox.z 9; have HO := Lib.hid (⟨hown, hR4⟩ : _ ∧ _); clear hown hgrow hat hlt4 hb4 hR4)
    obtain ⟨w5, h5⟩ : ∃ w5, w5 = w4.setCell ⟨b0, 9, none⟩ (.slice (some ⟨g2, 0, none⟩) (r1.opn.length + 1) cap2) := ⟨_, rfl⟩
    obtain ⟨s2, hs2⟩ : ∃ x : Shp, x = { s1 with oO := some ⟨g2, 0, none⟩, cO := cap2 } := ⟨_, rfl⟩
    obtain ⟨r2, hr2⟩ : ∃ x : RSt, x = { r1 with opn := r1.opn ++ [⟨4, n, ⟨#[]⟩, 0⟩] } := ⟨_, rfl⟩
    have hF := HO.out.2.field (i := 9) (v := .slice (some ⟨g2, 0, none⟩) (r1.opn.length + 1) cap2) (r' := r2) (s' := s2) (by rw [hs2, hr2]; simp [Shp.cells]) ⟨by rw [hs2]; exact HO.out.2.ref.rr, by rw [hs2]; exact HO.out.2.ref.rx, by rw [hs2, hr2]; exact HO.out.2.ref.rf, by
      rw [hs2, hr2]
      show World.ownsRow _ _ _ _ _ _ _
      rw [List.length_append, flatL_snoc]
      exact Own.base0 HO.out.1, by rw [hs2, hr2]; exact HO.out.2.ref.re, by rw [hs2]; exact HO.out.2.ref.gh.setO (rows_okb HO.out.1 HZ.out.1.ref.gh.bs) _⟩ (by rw [hs2]; rfl)
    rw [← h5] at hF ⊢
    have HN2 := Lib.hid (⟨hr2, (show s2.scr = s1.scr by rw [hs2]; rfl)⟩ : _ ∧ _)
    have hze2 : r2.events.length ≤ 1000000 := by rw [hr2]; show r1.events.length ≤ _; rw [HN.out.2.2]; exact hze
    have HF := Lib.hid hF
    clear h5 hs2 hr2 hF x9 zz9 f0 f1 f2 f3
    obtain ⟨y0, y1, y2, y3, y4, y5, y6, y7, y8, y9, y10, y11, _, _⟩ := (HF.out).rbox
    go_wp2_with (go_at_call 52; refine (eventRef HF.out.ref ⟨1, 4, n, noText, 0⟩ hze2).mono ?_; rintro e w6 ⟨s6, rfl, hs6, hr6, hb6⟩; have hRR := HF.out.later hb6; obtain ⟨q0, q1, q2, q3, q4, q5, q6, q7, q8, q9, q10, q11, qz, _⟩ := hRR.rres; have qz0 := qz 0; have qz1 := qz 1; have qz2 := qz 2; have qz3 := qz 3; have qz4 := qz 4; have qz5 := qz 5; have qz6 := qz 6; have qz7 := qz 7; have qz8 := qz 8; have qz9 := qz 9; have qz10 := qz 10; have qz11 := qz 11; have H6 := Lib.hid (⟨hRR, hr6, hs6⟩ : _ ∧ _ ∧ _); obtain ⟨r6, hr6e⟩ : ∃ x, x = eventR r2 ⟨1, 4, n, noText, 0⟩ := ⟨_, rfl⟩; rw [← hr6e] at H6 ⊢; have HE6 := Lib.hid hr6e; clear hRR hr6 hs6 hb6 qz hr6e)
    rw [put12_def]
    obtain ⟨d1, d2, d3⟩ := (H6.out.1).hand H6.out.2.1 H6.out.2.2
    obtain ⟨z0, z1, z2, z3, z4, z5, z6, z7, z8, z9, z10, z11, _, _⟩ := d3
    generalize put12 w6 b2 S r6 s6 = w9 at *
    refine bodyPost_ret (v := .tuple #[.agg (s6.cells S r6), .int .i64 0]) (by simp [results, Try.results31, go_sem, z0, z1, z2, z3, z4, z5, z6, z7, z8, z9, z10, z11]) rfl ?_
    have hfin : r6 = rOpened S r 4 n := by
      rw [HE6.out, HN2.out.1, rOpened_eq, HN.out.1]; exact HW.out
    rw [hfin] at d1 ⊢
    exact ⟨s6, rfl, H6.out.2.2.trans (HN2.out.2.trans HSc.out), d1, d2⟩
set_option maxHeartbeats 4000000 in
set_option maxRecDepth 100000 in
theorem openedTo (h : RefAt w S r s) (n : ByteArray) (hf : Fewer S r) (hp : ¬ 0 ≤ rplace 5 n r.opn) (hm : ¬ S.most ≤ r.opn.length) (hx1 : (lookX 1 n S.fails).isSome = false)  :
    Calls Try.prog 31 #[.agg (s.cells S r), .int .u8 5, .string n] w (OpenPost w S r s 5 n) := by
  have hnew : rOpenNew S r 5 n := ⟨by decide, by omega, by omega, hx1, fun e => absurd e.1 (by decide)⟩
  have he : rOpenE S r 5 n = 0 := by unfold rOpenE; rw [if_neg (fun e => e (by decide)), if_neg hp, if_neg hm, if_neg (fun e => e.elim (fun e => by rw [hx1] at e; cases e) (fun e => absurd e.1 (by decide)))]
  have hx : rOpenS S r 5 n = rOpened S r 5 n := if_pos hnew
  unfold OpenPost
  rw [he, hx]
  have hzo : r.opn.length ≤ 1000000 := by have := hf.opn; omega
  have hzf := hf.files
  have hzx := hf.fails
  have hze := hf.events
  have hzr := hf.reps
  obtain ⟨bs, hbs⟩ : ∃ b, (lookF n r.files).isSome = b := ⟨_, rfl⟩
  have HSo := Lib.hid hbs
  clear hbs
  obtain ⟨i0, zz0, hi, hz0, hsz, hby, hzs⟩ := stream_info
  have HI := Lib.hid (⟨hi, hz0, hsz, hby, hzs⟩ : _ ∧ _ ∧ _ ∧ _ ∧ _)
  clear hi hz0 hsz hby hzs
  have HX := Lib.hid hx1
  clear he hx hx1 hnew
  have hR := Run.two h
  go_enter Try.func31, Try.ntmps31
  go_upto_region 1 with fail
  obtain ⟨wA, hA⟩ : ∃ wA, wA = (w.alloc (.cells (s.cells S r) 38)).alloc (.cells #[.slice none 0 0, .string ⟨#[]⟩, .slice none 0 0, .slice none 0 0, .int .i64 0, .int .i64 0, .int .u64 0, .slice none 0 0, .int .i64 0, .slice none 0 0, .int .u64 0, .slice none 0 0] 38) := ⟨_, rfl⟩
  rw [← hA] at hR ⊢
  clear hA
  generalize w.heap.size + 1 = b2 at *
  generalize w.heap.size = b0 at hR ⊢
  have HR := Lib.hid (⟨h, hR⟩ : _ ∧ _)
  clear h hR
  obtain ⟨y0, y1, y2, y3, y4, y5, y6, y7, y8, y9, y10, y11, _, _⟩ := (HR.out.2).rbox
  go_upto_region 12 with (first
    | (go_at_call 49; refine (failsRef H2.out.ref 1 n hzx).mono ?_; rintro e w3 ⟨rfl, hbb⟩; rw [HX.out]; have hRR := (H2.out).later hbb; obtain ⟨y0, y1, y2, y3, y4, y5, y6, y7, y8, y9, y10, y11, _, _⟩ := hRR.rbox; have H3 := Lib.hid hRR; clear hRR hbb)
    | (go_at_call 17; refine (fileRef H1.out.ref n hzf).mono ?_; rintro e w2 ⟨rfl, hbb⟩; rw [fileA_data, HSo.out]; have hRR := (H1.out).later hbb; obtain ⟨y0, y1, y2, y3, y4, y5, y6, y7, y8, y9, y10, y11, _, _⟩ := hRR.rbox; have H2 := Lib.hid hRR; clear hRR hbb)
    | (go_at_call 15; refine (findRef HR.out.2.ref 5 n hzo).mono ?_; rintro e w1 ⟨rfl, hbb⟩; have hRR := (HR.out.2).later hbb; obtain ⟨y0, y1, y2, y3, y4, y5, y6, y7, y8, y9, y10, y11, _, _⟩ := hRR.rbox; have H1 := Lib.hid hRR; clear hRR hbb))
  obtain ⟨wX, hX⟩ : ∃ wX, wX = w3.alloc (.cells #[.int .u8 5, .string n, .string ⟨#[]⟩, .int .i64 0] 109) := ⟨_, rfl⟩
  have hbX : Below w3.heap.size w3 wX := by rw [hX]; exact (Below.refl _ w3).alloc (Nat.le_refl _) _
  have hblx : wX.heap[w3.heap.size]? = some (.cells #[.int .u8 5, .string n, .string ⟨#[]⟩, .int .i64 0] 109) := by rw [hX]; exact alloc_new _ _
  have e2 : wX.cell? ⟨w3.heap.size, 2, none⟩ = some (.string ⟨#[]⟩) := by simp [World.cell?, hblx]
  have e2z : wX.frozen? ⟨w3.heap.size, 2, none⟩ = false := by simp [World.frozen?, hblx]
  rw [← hX]
  have hb03 : b0 < w3.heap.size := (Array.getElem?_eq_some_iff.1 H3.out.box).1
  have hb23 : b2 < w3.heap.size := (Array.getElem?_eq_some_iff.1 H3.out.res).1
  have hRX := H3.out.later hbX
  obtain ⟨y0, y1, y2, y3, y4, y5, y6, y7, y8, y9, y10, y11, pz, _⟩ := hRX.rbox
  have pz0 := pz 0
  have pz1 := pz 1
  have pz2 := pz 2
  have pz3 := pz 3
  have pz4 := pz 4
  have pz5 := pz 5
  have pz6 := pz 6
  have pz7 := pz 7
  have pz8 := pz 8
  have pz9 := pz 9
  have pz10 := pz 10
  have pz11 := pz 11
  clear pz
  have HB := Lib.hid (⟨hbX, hblx, hRX⟩ : _ ∧ _ ∧ _)
  clear hX hbX hblx hRX
  obtain ⟨bx, hbx⟩ : ∃ b, b = w3.heap.size := ⟨_, rfl⟩
  rw [← hbx] at HB hb03 hb23 e2 e2z ⊢
  have HBx := Lib.hid hbx
  clear hbx
  go_upto_region 21 with fail
  obtain ⟨wZ, hZ⟩ : ∃ wZ, wZ = wX := ⟨_, rfl⟩
  have hRZ := HB.out.2.2
  have hblz := HB.out.2.1
  rw [← hZ] at hRZ hblz ⊢
  obtain ⟨r1, hr0⟩ : ∃ x, x = r := ⟨_, rfl⟩
  obtain ⟨s1, hs1⟩ : ∃ x, x = s := ⟨_, rfl⟩
  rw [← hr0, ← hs1] at hRZ
  have hr1 : r1 = rBegun r 5 n := hr0
  have hsc : s1.scr = s.scr := by rw [hs1]
  clear hr0 hs1 hZ e2 e2z
  have HSc := Lib.hid hsc
  have HZ := Lib.hid (⟨hRZ, hblz⟩ : _ ∧ _)
  have HN := Lib.hid (show r1 = rBegun r 5 n ∧ r1.opn = r.opn ∧ r1.events = r.events from ⟨hr1, by rw [hr1]; exact (begun_opn r 5 n).1, by rw [hr1]; exact (begun_opn r 5 n).2⟩)
  have HW := Lib.hid (show eventR { rBegun r 5 n with opn := (rBegun r 5 n).opn ++ [⟨5, n, ⟨#[]⟩, 0⟩] } ⟨1, 5, n, noText, 0⟩ = eventR { rBegun r 5 n with opn := (rBegun r 5 n).opn ++ [rStrm S r 5 n] } ⟨1, 5, n, noText, 0⟩ from rfl)
  clear hr1 hRZ hblz hsc
  have hzo1 : r1.opn.length ≤ 1000000 := by rw [HN.out.2.1]; exact hzo
  obtain ⟨y0, y1, y2, y3, y4, y5, y6, y7, y8, y9, y10, y11, _, _⟩ := (HZ.out.1).rbox
  go_upto_region 22 with fail
  go_cut [13] from 87 to 90 (fun sx wx => OwnS wx wZ.heap.size sx r1.opn ∧ Below wZ.heap.size wZ wx)
  case first =>
    by_cases hE : r1.opn = []
    · have hl : r1.opn.length = 0 := by rw [hE]; rfl
      have hcE := (HZ.out.1.ref.ro).nilCap
      rw [hl] at y9
      have HE0 := Lib.hid hE
      clear hl hE
      generalize hog : s1.oO = og at y9 hcE
      generalize hcg : s1.cO = cg at y9 hcE
      rcases og with _ | ad
      · obtain rfl := hcE rfl
        go_wp2_with fail
        go_meet
        exact ⟨by rw [HE0.out]; exact own_nil _ _ _ _, Below.refl _ _⟩
      · go_wp2_with fail
        go_meet
        exact ⟨by rw [HE0.out]; exact own_nil _ _ _ _, Below.refl _ _⟩
    · obtain ⟨x0, hx0⟩ : ∃ x0, r1.opn[0]? = some x0 := by
        cases hr : r1.opn with
        | nil => exact absurd hr hE
        | cons x l => exact ⟨x, rfl⟩
      have hpos : 0 < r1.opn.length := List.length_pos_iff.2 hE
      have hall := HZ.out.1.ref.ro
      generalize hog : s1.oO = og at y9 hall
      generalize hcg : s1.cO = cg at y9 hall
      obtain ⟨g, rfl, _⟩ := hall.at lenS hx0
      have HAL := Lib.hid hall
      clear hE hx0 hall
      go_wp2_with (at_builtin; refine wpList_append_lies _ rfl (.tmp 87) (.tmp 89) 35 rfl wZ.heap.size 109 i0 zz0 4 48 Try.underlying35 HI.out.1 HI.out.2.1 HI.out.2.2.1 HI.out.2.2.2.1 HI.out.2.2.2.2 (by decide) (.slice none 0 0) 0 [] rfl (World.ownsRow_nil _ _ _ _) ⟨g, 0, none⟩ r1.opn.length cg (flatL RStrm.cells r1.opn) rfl (flatL_length lenS _) ((HAL.out).all lenS rfl) (flatL_one oneS _) hpos (by unfold maxLen; omega) (by omega) (Nat.le_refl _) _ rfl ?_; intro g2 cap2 w4 hown hgrow hat hlt4; rw [Nat.zero_add] at hown ⊢; have HO := Lib.hid (⟨hown, (Below.refl wZ.heap.size wZ).grown hgrow (Nat.le_refl _) (fun k hk => by cases hk)⟩ : _ ∧ _); clear hown hgrow hat hlt4)
      go_meet
      exact ⟨HO.out.1, HO.out.2⟩
  case rest =>
    obtain ⟨hI2, hb2'⟩ := hcut
    obtain ⟨oo, co, rfl, _⟩ := hI2.shape
    have hxx : ∀ i, wc.cell? ⟨bx, i, none⟩ = (#[.int .u8 5, .string n, .string (⟨#[]⟩), .int .i64 0] : Array Value)[i]? := fun i => by
      have := (hb2'.block bx (Array.getElem?_eq_some_iff.1 HZ.out.2).1).trans HZ.out.2
      simp [World.cell?, this]
    have f0 : wc.cell? ⟨bx, 0, none⟩ = some (.int .u8 5) := hxx 0
    have f1 : wc.cell? ⟨bx, 1, none⟩ = some (.string n) := hxx 1
    have f2 : wc.cell? ⟨bx, 2, none⟩ = some (.string (⟨#[]⟩)) := hxx 2
    have f3 : wc.cell? ⟨bx, 3, none⟩ = some (.int .i64 0) := hxx 3
    have HI2 := Lib.hid hI2
    have hbase := hb2'.size
    clear hI2 hxx
    go_upto_region 24 with (at_builtin; refine wpList_append_lies _ rfl (.tmp 91) (.tmp 93) 35 rfl wZ.heap.size 109 i0 zz0 4 48 Try.underlying35 HI.out.1 HI.out.2.1 HI.out.2.2.1 HI.out.2.2.2.1 HI.out.2.2.2.2 (by decide) (.slice oo r1.opn.length co) r1.opn.length (flatL RStrm.cells r1.opn) rfl ((HI2.out).alloc _) ⟨wc.heap.size, 0, none⟩ 1 1 (RStrm.cells ⟨5, n, ⟨#[]⟩, 0⟩) rfl rfl (World.news_of_block (heap_alloc_new wc _)) (oneS ⟨5, n, ⟨#[]⟩, 0⟩) (by decide) (by unfold maxLen; omega) (by omega) (by rw [alloc_size]; exact Nat.le_succ_of_le hbase) _ rfl ?_; intro g2 cap2 w4 hown hgrow hat hlt4; have hb4 : Below wZ.heap.size wZ w4 := (hb2'.trans (((Below.refl _ wc).alloc (Nat.le_refl _) _).mono hb2'.size)).grown hgrow (by rw [alloc_size]; exact Nat.le_succ_of_le hbase) (fun k hk => (HI2.out.lt k hk).1); have hR4 := HZ.out.1.later hb4; have x9 := hR4.rbox.c9; have zz9 := hR4.rbox.z 9; have HO := Lib.hid (⟨hown, hR4⟩ : _ ∧ _); clear hown hgrow hat hlt4 hb4 hR4)
    obtain ⟨w5, h5⟩ : ∃ w5, w5 = w4.setCell ⟨b0, 9, none⟩ (.slice (some ⟨g2, 0, none⟩) (r1.opn.length + 1) cap2) := ⟨_, rfl⟩
    obtain ⟨s2, hs2⟩ : ∃ x : Shp, x = { s1 with oO := some ⟨g2, 0, none⟩, cO := cap2 } := ⟨_, rfl⟩
    obtain ⟨r2, hr2⟩ : ∃ x : RSt, x = { r1 with opn := r1.opn ++ [⟨5, n, ⟨#[]⟩, 0⟩] } := ⟨_, rfl⟩
    have hF := HO.out.2.field (i := 9) (v := .slice (some ⟨g2, 0, none⟩) (r1.opn.length + 1) cap2) (r' := r2) (s' := s2) (by rw [hs2, hr2]; simp [Shp.cells]) ⟨by rw [hs2]; exact HO.out.2.ref.rr, by rw [hs2]; exact HO.out.2.ref.rx, by rw [hs2, hr2]; exact HO.out.2.ref.rf, by
      rw [hs2, hr2]
      show World.ownsRow _ _ _ _ _ _ _
      rw [List.length_append, flatL_snoc]
      exact Own.base0 HO.out.1, by rw [hs2, hr2]; exact HO.out.2.ref.re, by rw [hs2]; exact HO.out.2.ref.gh.setO (rows_okb HO.out.1 HZ.out.1.ref.gh.bs) _⟩ (by rw [hs2]; rfl)
    rw [← h5] at hF ⊢
    have HN2 := Lib.hid (⟨hr2, (show s2.scr = s1.scr by rw [hs2]; rfl)⟩ : _ ∧ _)
    have hze2 : r2.events.length ≤ 1000000 := by rw [hr2]; show r1.events.length ≤ _; rw [HN.out.2.2]; exact hze
    have HF := Lib.hid hF
    clear h5 hs2 hr2 hF x9 zz9 f0 f1 f2 f3
    obtain ⟨y0, y1, y2, y3, y4, y5, y6, y7, y8, y9, y10, y11, _, _⟩ := (HF.out).rbox
    go_wp2_with (go_at_call 52; refine (eventRef HF.out.ref ⟨1, 5, n, noText, 0⟩ hze2).mono ?_; rintro e w6 ⟨s6, rfl, hs6, hr6, hb6⟩; have hRR := HF.out.later hb6; obtain ⟨q0, q1, q2, q3, q4, q5, q6, q7, q8, q9, q10, q11, qz, _⟩ := hRR.rres; have qz0 := qz 0; have qz1 := qz 1; have qz2 := qz 2; have qz3 := qz 3; have qz4 := qz 4; have qz5 := qz 5; have qz6 := qz 6; have qz7 := qz 7; have qz8 := qz 8; have qz9 := qz 9; have qz10 := qz 10; have qz11 := qz 11; have H6 := Lib.hid (⟨hRR, hr6, hs6⟩ : _ ∧ _ ∧ _); obtain ⟨r6, hr6e⟩ : ∃ x, x = eventR r2 ⟨1, 5, n, noText, 0⟩ := ⟨_, rfl⟩; rw [← hr6e] at H6 ⊢; have HE6 := Lib.hid hr6e; clear hRR hr6 hs6 hb6 qz hr6e)
    rw [put12_def]
    obtain ⟨d1, d2, d3⟩ := (H6.out.1).hand H6.out.2.1 H6.out.2.2
    obtain ⟨z0, z1, z2, z3, z4, z5, z6, z7, z8, z9, z10, z11, _, _⟩ := d3
    generalize put12 w6 b2 S r6 s6 = w9 at *
    refine bodyPost_ret (v := .tuple #[.agg (s6.cells S r6), .int .i64 0]) (by simp [results, Try.results31, go_sem, z0, z1, z2, z3, z4, z5, z6, z7, z8, z9, z10, z11]) rfl ?_
    have hfin : r6 = rOpened S r 5 n := by
      rw [HE6.out, HN2.out.1, rOpened_eq, HN.out.1]; exact HW.out
    rw [hfin] at d1 ⊢
    exact ⟨s6, rfl, H6.out.2.2.trans (HN2.out.2.trans HSc.out), d1, d2⟩
end
end Go.Proofs.Ythbkcdbmimhhkaa.Rw
