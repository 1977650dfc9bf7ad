/-
  The document's world: a file's bytes turned (with).
-/
import Derived.Test.YthbkcdbmimhhkaaRwD
import Derived.Test.YthbkcdbmimhhkaaRwP
namespace Go.Proofs.Ythbkcdbmimhhkaa.Rw
open Go.RowKit Go.Maps Wo

def updF (n d : ByteArray) (p : FileD) : FileD := if p.1 = n then (p.1, d) else p
theorem withF_eq (l : List FileD) (n d : ByteArray) : withF l n d = l.map (updF n d) ++ (if (lookF n l).isSome then [] else [(n, d)]) := rfl
def thereF (n : ByteArray) (l : List FileD) : Bool := l.any fun p => decide (p.1 = n)
theorem there_look (n : ByteArray) : ∀ l : List FileD, thereF n l = (lookF n l).isSome
  | [] => rfl
  | p :: l => by
    have ih := there_look n l
    unfold thereF at ih ⊢
    rw [List.any_cons, ih, lookF_cons]
    by_cases h : p.1 = n
    · rw [decide_eq_true h, if_pos h]; rfl
    · rw [decide_eq_false h, if_neg h, Bool.false_or]
theorem there_snoc (n : ByteArray) (l : List FileD) (p : FileD) : thereF n (l ++ [p]) = (thereF n l || decide (p.1 = n)) := by
  unfold thereF
  simp [List.any_append]
/- A list of files that is being made. -/
structure Made (wA wr : World) (l : List FileD) (v : Value) (j : Nat) : Prop where
  own : OwnF wr wA.heap.size v l
  len : l.length = j
  below : Below wA.heap.size wA wr
theorem Made.shape {wA wr : World} {l : List FileD} {v : Value} {j : Nat} (h : Made wA wr l v j) : ∃ oa c, v = .slice oa j c := by
  obtain ⟨oa, c, e, _⟩ := h.own.shape
  exact ⟨oa, c, by rw [e, h.len]⟩
theorem Made.row {wA wr : World} {l : List FileD} {v : Value} {j : Nat} (h : Made wA wr l v j) : wr.ownsRow wA.heap.size 54 2 v j (flatL cellsF l) := by
  have := h.own
  unfold OwnF Own at this
  rw [h.len] at this
  exact this
theorem Made.later {wA wr w2 : World} {l : List FileD} {v : Value} {j : Nat} (h : Made wA wr l v j) (hb : Below wr.heap.size wr w2) : Made wA w2 l v j :=
  ⟨h.own.below hb, h.len, h.below.trans (hb.mono h.below.size)⟩
theorem Made.more {wA wr w4 : World} {l : List FileD} {v : Value} {j : Nat} {g cap : Nat} {q : FileD} (h : Made wA wr l v j) (hown : w4.ownsRow wA.heap.size 54 2 (.slice (some ⟨g, 0, none⟩) (j + 1) cap) (j + 1) (flatL cellsF l ++ cellsF q)) (hb : Below wA.heap.size wA w4) : Made wA w4 (l ++ [q]) (.slice (some ⟨g, 0, none⟩) (j + 1) cap) (j + 1) := by
  refine ⟨?_, by rw [List.length_append, h.len]; rfl, hb⟩
  show World.ownsRow _ _ _ _ _ _ _
  rw [List.length_append, h.len, flatL_snoc]
  exact hown

set_option maxHeartbeats 2000000 in
set_option maxRecDepth 100000 in
theorem withRef {w : World} {S : Scpt} {r : RSt} {s : Shp} (h : RefAt w S r s) (n d : ByteArray) (hz : r.files.length ≤ 1000000) :
    Calls Try.prog 51 #[.agg (s.cells S r), .string n, .string d] w fun x w' => ∃ s', x = .returned (.agg (s'.cells S (rWith r n d))) ∧ s'.scr = s.scr ∧ RefAt w' S (rWith r n d) s' ∧ Below w.heap.size w w' := by
  have hR := Run.two h
  obtain ⟨i0, z0, hi, hz0, hsz, hby, hzs⟩ := content_info
  have HI := Lib.hid (⟨hi, hz0, hsz, hby, hzs⟩ : _ ∧ _ ∧ _ ∧ _ ∧ _)
  clear hi hz0 hsz hby hzs
  go_enter Try.func51, Try.ntmps51
  go_upto_region 1 with fail
  obtain ⟨wA, hA⟩ : ∃ wA, wA = (w.alloc (.cells (s.cells S r) 38)).alloc (.cells #[.slice none 0 0, .string ⟨#[]⟩, .slice none 0 0, .slice none 0 0, .int .i64 0, .int .i64 0, .int .u64 0, .slice none 0 0, .int .i64 0, .slice none 0 0, .int .u64 0, .slice none 0 0] 38) := ⟨_, rfl⟩
  rw [← hA] at hR ⊢
  clear hA h
  generalize w.heap.size + 1 = b2 at *
  generalize w.heap.size = b0 at hR ⊢
  have HR := Lib.hid hR
  have c7A := hR.rbox.c7
  have HC := Lib.hid c7A
  clear hR
  go_wp2_with fail
  clear c7A
  go_loopg [7, 8, 9] r.files.length (fun q l t i wr => ∃ j, r.files.length - j = q ∧ j ≤ r.files.length ∧ i = .int .i64 (j : Int) ∧ t = .bool (thereF n (r.files.take j)) ∧ Made wA wr ((r.files.take j).map (updF n d)) l j)
  case atStart => exact ⟨0, rfl, Nat.zero_le _, rfl, rfl, own_nil _ _ _ _, rfl, Below.refl _ _⟩
  case round =>
    obtain ⟨j, hq, hj, rfl, rfl, hM⟩ := hrel
    obtain ⟨oo, co, rfl⟩ := hM.shape
    have c7 := (hM.below.cell (p := ⟨b0, 7, none⟩) (cell_lt HC.out)).trans HC.out
    by_cases hlt : j < r.files.length
    · have hlt' : (j : Int) < (r.files.length : Int) := by omega
      obtain ⟨p, hp⟩ : ∃ p, r.files[j]? = some p := ⟨_, List.getElem?_eq_getElem hlt⟩
      have htk : r.files.take (j + 1) = r.files.take j ++ [p] := by rw [List.take_add_one, hp]; rfl
      obtain ⟨g, hg, hc⟩ := (HR.out.ref.rf.below hM.below).at lenF hp
      have e0 : wr.cell? ⟨g, j * 2, none⟩ = some (.string p.1) := hc 0 (by decide)
      have e1 : wr.cell? ⟨g, j * 2 + 1, none⟩ = some (.string p.2) := hc 1 (by decide)
      rw [hg] at c7
      have HT := Lib.hid (⟨htk, hM, hg⟩ : _ ∧ _ ∧ _)
      clear htk hM hg hc hp
      go_upto_region 7 with fail
      obtain ⟨wB, hB⟩ : ∃ wB, wB = wr.alloc (.cells #[.string p.1, .string p.2] 54) := ⟨_, rfl⟩
      have hbB : Below wr.heap.size wr wB := by rw [hB]; exact (Below.refl _ wr).alloc (Nat.le_refl _) _
      have hblk : wB.heap[wr.heap.size]? = some (.cells #[.string p.1, .string p.2] 54) := by rw [hB]; exact alloc_new _ _
      have f0 : wB.cell? ⟨wr.heap.size, 0, none⟩ = some (.string p.1) := by simp [World.cell?, hblk]
      have f1 : wB.cell? ⟨wr.heap.size, 1, none⟩ = some (.string p.2) := by simp [World.cell?, hblk]
      have fz : wB.frozen? ⟨wr.heap.size, 1, none⟩ = false := by simp [World.frozen?, hblk]
      rw [← hB]
      have hszB : wB.heap.size = wr.heap.size + 1 := by rw [hB, alloc_size]
      have hlo : ∀ k, (Value.slice oo j co).ownBlock = some k → k < wr.heap.size := fun k hk => (HT.out.2.1.own.lt k hk).2
      have HB := Lib.hid (⟨hbB, HT.out.2.1.later hbB, hszB, hblk, hlo⟩ : _ ∧ _ ∧ _ ∧ _ ∧ _)
      clear hB hbB hszB hblk e0 e1 c7 hlo
      have hbr : wA.heap.size ≤ wr.heap.size := HT.out.2.1.below.size
      generalize wr.heap.size = bx at *
      by_cases hps : p.1 = n
      · have HS := Lib.hid hps
        have hb : (p.1.toList == n.toList) = true := by rw [hps]; simp
        clear hps
        go_upto_region 10 with fail
        obtain ⟨wX, hX⟩ : ∃ wX, wX = wB.setCell ⟨bx, 1, none⟩ (.string d) := ⟨_, rfl⟩
        have hMX : Made wA wX ((r.files.take j).map (updF n d)) (.slice oo j co) j := by
          rw [hX]
          exact ⟨HB.out.2.1.own.setOther (fun e => by have := HB.out.2.2.2.2 bx e; omega) _ _, HB.out.2.1.len, below_set HB.out.2.1.below hbr _ _⟩
        have hblX : wX.heap[bx]? = some (.cells #[.string p.1, .string d] 54) := by rw [hX, blk_set HB.out.2.2.2.1]; rfl
        have f0X : wX.cell? ⟨bx, 0, none⟩ = some (.string p.1) := by simp [World.cell?, hblX]
        have f1X : wX.cell? ⟨bx, 1, none⟩ = some (.string d) := by simp [World.cell?, hblX]
        rw [← hX]
        have HX := Lib.hid hMX
        clear hX hMX f0 f1 fz hblX
        go_wp2_with (at_builtin; refine wpList_append_lies _ rfl (.tmp 29) (.tmp 31) 22 rfl wA.heap.size 54 i0 z0 2 32 Try.underlying22 HI.out.1 HI.out.2.1 HI.out.2.2.1 HI.out.2.2.2.1 HI.out.2.2.2.2 (by decide) (.slice oo j co) j (flatL cellsF ((r.files.take j).map (updF n d))) rfl (HX.out.row.alloc _) ⟨wX.heap.size, 0, none⟩ 1 1 (cellsF (p.1, d)) rfl rfl (World.news_of_block (heap_alloc_new wX _)) (oneF (p.1, d)) (by decide) (by unfold maxLen; omega) (by omega) (by rw [alloc_size]; exact Nat.le_succ_of_le HX.out.below.size) _ rfl ?_; intro g2 cap2 w4 hown hgrow hat hlt4; have hb4 : Below wA.heap.size wA w4 := (HX.out.below.trans (((Below.refl _ wX).alloc (Nat.le_refl _) _).mono HX.out.below.size)).grown hgrow (by rw [alloc_size]; exact Nat.le_succ_of_le HX.out.below.size) (fun k hk => (HX.out.own.lt k hk).1); have HO := Lib.hid (HX.out.more (q := (p.1, d)) hown hb4); clear hown hgrow hat hlt4 hb4)
        go_roundg (r.files.length - (j + 1))
        case measure => omega
        case rel =>
          refine ⟨j + 1, rfl, hlt, by go_num, ?_, ?_⟩
          · rw [HT.out.1, there_snoc, decide_eq_true HS.out, Bool.or_true]
          · rw [HT.out.1, List.map_append, List.map_cons, List.map_nil, show updF n d p = (p.1, d) from if_pos HS.out]
            exact HO.out
      · have HS := Lib.hid hps
        have hb : (p.1.toList == n.toList) = false := toList_ne hps
        clear hps
        have HX := Lib.hid HB.out.2.1
        go_wp2_with (at_builtin; refine wpList_append_lies _ rfl (.tmp 29) (.tmp 31) 22 rfl wA.heap.size 54 i0 z0 2 32 Try.underlying22 HI.out.1 HI.out.2.1 HI.out.2.2.1 HI.out.2.2.2.1 HI.out.2.2.2.2 (by decide) (.slice oo j co) j (flatL cellsF ((r.files.take j).map (updF n d))) rfl (HX.out.row.alloc _) ⟨wB.heap.size, 0, none⟩ 1 1 (cellsF p) rfl rfl (World.news_of_block (heap_alloc_new wB _)) (oneF p) (by decide) (by unfold maxLen; omega) (by omega) (by rw [alloc_size]; exact Nat.le_succ_of_le HX.out.below.size) _ rfl ?_; intro g2 cap2 w4 hown hgrow hat hlt4; have hb4 : Below wA.heap.size wA w4 := (HX.out.below.trans (((Below.refl _ wB).alloc (Nat.le_refl _) _).mono HX.out.below.size)).grown hgrow (by rw [alloc_size]; exact Nat.le_succ_of_le HX.out.below.size) (fun k hk => (HX.out.own.lt k hk).1); have HO := Lib.hid (HX.out.more (q := p) hown hb4); clear hown hgrow hat hlt4 hb4)
        go_roundg (r.files.length - (j + 1))
        case measure => omega
        case rel =>
          refine ⟨j + 1, rfl, hlt, by go_num, ?_, ?_⟩
          · rw [HT.out.1, there_snoc, decide_eq_false HS.out, Bool.or_false]
          · rw [HT.out.1, List.map_append, List.map_cons, List.map_nil, show updF n d p = p from if_neg HS.out]
            exact HO.out
    · obtain rfl : j = r.files.length := by omega
      have hge : ¬ (r.files.length : Int) < (r.files.length : Int) := by omega
      rw [List.take_length] at hM ⊢
      obtain ⟨bb, hbb⟩ : ∃ b, b = thereF n r.files := ⟨_, rfl⟩
      rw [← hbb]
      cases bb with
      | true =>
        have hth := hbb.symm
        have hw : (rWith r n d).files = r.files.map (updF n d) := by
          show withF r.files n d = _
          rw [withF_eq, ← there_look, hth]; simp
        have hRr := HR.out.later hM.below
        have z7 := hRr.rbox.z 7
        have x7 := hRr.rbox.c7
        obtain ⟨sX, hsX⟩ : ∃ x : Shp, x = { s with oF := oo, cF := co } := ⟨_, rfl⟩
        have hm : (rWith r n d).files.length = r.files.length := by rw [hw, List.length_map]
        have hF := hRr.field (i := 7) (v := .slice oo r.files.length co) (r' := rWith r n d) (s' := sX) (by rw [← hm, hsX]; rfl) ⟨by rw [hsX]; exact hRr.ref.rr, by rw [hsX]; exact hRr.ref.rx, by rw [hsX, hm, hw]; exact Own.base hM.own (Nat.zero_le _), by rw [hsX]; exact hRr.ref.ro, by rw [hsX]; exact hRr.ref.re, by rw [hsX]; exact hRr.ref.gh.setF (rows_okb hM.own HR.out.ref.gh.bs) _⟩ (by rw [hsX]; rfl)
        have HSc := Lib.hid (show sX.scr = s.scr by rw [hsX]; rfl)
        clear hM hRr hw hm hsX
        clear hth hbb
        go_upto_region 14 with fail
        obtain ⟨wY, hY⟩ : ∃ wY, wY = wr.setCell ⟨b0, 7, none⟩ (.slice oo r.files.length co) := ⟨_, rfl⟩
        rw [← hY] at hF ⊢
        clear hY z7 x7
        obtain ⟨r2, hr2⟩ : ∃ x, x = rWith r n d := ⟨_, rfl⟩
        rw [← hr2] at hF
        have HN := Lib.hid hr2
        clear hr2
        have HF := Lib.hid hF
        obtain ⟨y0, y1, y2, y3, y4, y5, y6, y7, y8, y9, y10, y11, _, _⟩ := hF.rbox
        obtain ⟨q0, q1, q2, q3, q4, q5, q6, q7, q8, q9, q10, q11, qz, _⟩ := hF.rres
        have qz0 := qz 0
        have qz1 := qz 1
        have qz2 := qz 2
        have qz3 := qz 3
        have qz4 := qz 4
        have qz5 := qz 5
        have qz6 := qz 6
        have qz7 := qz 7
        have qz8 := qz 8
        have qz9 := qz 9
        have qz10 := qz 10
        have qz11 := qz 11
        clear qz hF
        go_wp2_with fail
        rw [put12_def]
        obtain ⟨d1, d2, d3⟩ := HF.out.done
        obtain ⟨z0, z1, z2, z3, z4, z5, z6, z7, z8, z9, z10, z11, _, _⟩ := d3
        generalize put12 wY b2 S r2 sX = w9 at *
        refine bodyPost_ret (v := .agg (sX.cells S r2)) (by simp [results, Try.results51, go_sem, z0, z1, z2, z3, z4, z5, z6, z7, z8, z9, z10, z11]) rfl ?_
        obtain rfl := HN.out
        exact ⟨sX, rfl, HSc.out, d1, d2⟩
      | false =>
        have hth := hbb.symm
        have hw : (rWith r n d).files = r.files.map (updF n d) ++ [(n, d)] := by
          show withF r.files n d = _
          rw [withF_eq, ← there_look, hth]; rfl
        have hpos : (rWith r n d).files.length = r.files.length + 1 := by rw [hw, List.length_append, List.length_map]; rfl
        have HX := Lib.hid hM
        have HW := Lib.hid (⟨hw, hpos⟩ : _ ∧ _)
        clear hM hw hpos
        clear hth hbb
        go_upto_region 13 with (at_builtin; refine wpList_append_lies _ rfl (.tmp 35) (.tmp 39) 22 rfl wA.heap.size 54 i0 z0 2 32 Try.underlying22 HI.out.1 HI.out.2.1 HI.out.2.2.1 HI.out.2.2.2.1 HI.out.2.2.2.2 (by decide) (.slice oo r.files.length co) r.files.length (flatL cellsF (r.files.map (updF n d))) rfl (HX.out.row.alloc _) ⟨wr.heap.size, 0, none⟩ 1 1 (cellsF (n, d)) rfl rfl (World.news_of_block (heap_alloc_new wr _)) (oneF (n, d)) (by decide) (by unfold maxLen; omega) (by omega) (by rw [alloc_size]; exact Nat.le_succ_of_le HX.out.below.size) _ rfl ?_; intro g2 cap2 w4 hown hgrow hat hlt4; have hb4 : Below wA.heap.size wA w4 := (HX.out.below.trans (((Below.refl _ wr).alloc (Nat.le_refl _) _).mono HX.out.below.size)).grown hgrow (by rw [alloc_size]; exact Nat.le_succ_of_le HX.out.below.size) (fun k hk => (HX.out.own.lt k hk).1); have HO := Lib.hid (HX.out.more (q := (n, d)) hown hb4); clear hown hgrow hat hlt4 hb4)
        have hRr := HR.out.later HO.out.below
        have z7 := hRr.rbox.z 7
        have x7 := hRr.rbox.c7
        obtain ⟨sX, hsX⟩ : ∃ x : Shp, x = { s with oF := some ⟨g2, 0, none⟩, cF := cap2 } := ⟨_, rfl⟩
        have hF := hRr.field (i := 7) (v := .slice (some ⟨g2, 0, none⟩) (r.files.length + 1) cap2) (r' := rWith r n d) (s' := sX) (by rw [← HW.out.2, hsX]; rfl) ⟨by rw [hsX]; exact hRr.ref.rr, by rw [hsX]; exact hRr.ref.rx, by rw [hsX, HW.out.2, HW.out.1]; exact Own.base HO.out.own (Nat.zero_le _), by rw [hsX]; exact hRr.ref.ro, by rw [hsX]; exact hRr.ref.re, by rw [hsX]; exact hRr.ref.gh.setF (rows_okb HO.out.own HR.out.ref.gh.bs) _⟩ (by rw [hsX]; rfl)
        have HSc := Lib.hid (show sX.scr = s.scr by rw [hsX]; rfl)
        clear hRr hsX
        go_upto_region 14 with fail
        obtain ⟨wY, hY⟩ : ∃ wY, wY = w4.setCell ⟨b0, 7, none⟩ (.slice (some ⟨g2, 0, none⟩) (r.files.length + 1) cap2) := ⟨_, rfl⟩
        rw [← hY] at hF ⊢
        clear hY z7 x7
        obtain ⟨r2, hr2⟩ : ∃ x, x = rWith r n d := ⟨_, rfl⟩
        rw [← hr2] at hF
        have HN := Lib.hid hr2
        clear hr2
        have HF := Lib.hid hF
        obtain ⟨y0, y1, y2, y3, y4, y5, y6, y7, y8, y9, y10, y11, _, _⟩ := hF.rbox
        obtain ⟨q0, q1, q2, q3, q4, q5, q6, q7, q8, q9, q10, q11, qz, _⟩ := hF.rres
        have qz0 := qz 0
        have qz1 := qz 1
        have qz2 := qz 2
        have qz3 := qz 3
        have qz4 := qz 4
        have qz5 := qz 5
        have qz6 := qz 6
        have qz7 := qz 7
        have qz8 := qz 8
        have qz9 := qz 9
        have qz10 := qz 10
        have qz11 := qz 11
        clear qz hF
        go_wp2_with fail
        rw [put12_def]
        obtain ⟨d1, d2, d3⟩ := HF.out.done
        obtain ⟨z0, z1, z2, z3, z4, z5, z6, z7, z8, z9, z10, z11, _, _⟩ := d3
        generalize put12 wY b2 S r2 sX = w9 at *
        refine bodyPost_ret (v := .agg (sX.cells S r2)) (by simp [results, Try.results51, go_sem, z0, z1, z2, z3, z4, z5, z6, z7, z8, z9, z10, z11]) rfl ?_
        obtain rfl := HN.out
        exact ⟨sX, rfl, HSc.out, d1, d2⟩
end Go.Proofs.Ythbkcdbmimhhkaa.Rw
