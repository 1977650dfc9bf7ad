/-
  The document's world: an event more; a file's bytes turned (event, with).
-/
import Derived.Test.YthbkcdbmimhhkaaRwB
namespace Go.Proofs.Ythbkcdbmimhhkaa.Rw
open Go.RowKit Go.Maps Wo

theorem content_info : ∃ i z, Try.prog.info? 54 = some i ∧ i.zero = some z ∧ i.size = 2 ∧ i.bytes = 32 ∧ z.cells.size = 2 := by
  have h : (Try.prog.info? 54).map (fun i => (i.zero.map (·.cells.size), i.size, i.bytes)) = some (some 2, 2, 32) := by kernel_rfl
  cases hi : Try.prog.info? 54 with
  | none => rw [hi] at h; cases h
  | some i =>
    rw [hi] at h
    simp only [Option.map_some, Option.some.injEq, Prod.mk.injEq] at h
    cases hz : i.zero with
    | none => rw [hz] at h; cases h.1
    | some z => rw [hz] at h; exact ⟨i, z, rfl, hz, h.2.1, h.2.2, by simpa using h.1⟩
theorem stream_info : ∃ i z, Try.prog.info? 109 = some i ∧ i.zero = some z ∧ i.size = 4 ∧ i.bytes = 48 ∧ z.cells.size = 4 := by
  have h : (Try.prog.info? 109).map (fun i => (i.zero.map (·.cells.size), i.size, i.bytes)) = some (some 4, 4, 48) := by kernel_rfl
  cases hi : Try.prog.info? 109 with
  | none => rw [hi] at h; cases h
  | some i =>
    rw [hi] at h
    simp only [Option.map_some, Option.some.injEq, Prod.mk.injEq] at h
    cases hz : i.zero with
    | none => rw [hz] at h; cases h.1
    | some z => rw [hz] at h; exact ⟨i, z, rfl, hz, h.2.1, h.2.2, by simpa using h.1⟩
theorem own_nil {α : Type} {f : α → List Value} (w : World) (B : Nat) (t : TypeId) (k : Nat) : Own w B t k f (.slice none 0 0) ([] : List α) := World.ownsRow_nil _ _ _ _
theorem cellAt0 {w : World} {g : Nat} {xs : List Value} (h : ∀ j u, xs[j]? = some u → w.cell? ⟨g, j, none⟩ = some u) : ∀ j u, xs[j]? = some u → w.cell? ((⟨g, 0, none⟩ : Addr).add j) = some u := fun j u hu => by
  have e : (⟨g, 0, none⟩ : Addr).add j = ⟨g, j, none⟩ := by
    simp [Addr.add]
    rintro rfl
    rfl
  rw [e]; exact h j u hu
theorem Own.all {α : Type} {f : α → List Value} {k : Nat} (hf : ∀ a, (f a).length = k) {w : World} {B : Nat} {t : TypeId} {g n c : Nat} {l : List α} (h : Own w B t k f (.slice (some ⟨g, 0, none⟩) n c) l) (hn : n = l.length) : ∀ j u, (flatL f l)[j]? = some u → w.cell? ((⟨g, 0, none⟩ : Addr).add j) = some u := by
  subst hn
  refine cellAt0 fun j u hu => ?_
  have hlt := (List.getElem?_eq_some_iff.1 hu).1
  rw [flatL_length hf] at hlt
  exact (World.ownsRow.cellAt h j hlt).trans hu

def eventR (r : RSt) (e : Ev) : RSt := { r with events := r.events ++ [e] }
/- Only the list of events is another. -/
def Shp.withE (s : Shp) (oE : Option Addr) (cE : Nat) : Shp := { s with oE := oE, cE := cE }
section
variable {w : World} {S : Scpt} {r : RSt} {s : Shp}
theorem two_alloc (w : World) (a b : Obj) : ((w.alloc a).alloc b).heap.size = w.heap.size + 1 + 1 := by rw [alloc_size, alloc_size]
theorem three_alloc (w : World) (a b c : Obj) : (((w.alloc a).alloc b).alloc c).heap.size = w.heap.size + 1 + 1 + 1 := by rw [alloc_size, alloc_size, alloc_size]

set_option maxHeartbeats 1000000 in
set_option maxRecDepth 100000 in
theorem eventRef (h : RefAt w S r s) (e : Ev) (hz : r.events.length ≤ 1000000) :
    Calls Try.prog 52 #[.agg (s.cells S r), .agg #[.int .u8 e.kind, .int .u8 e.stream, .string e.name, .string e.data, .int .i64 e.status]] w fun x w' => ∃ s', x = .returned (.agg (s'.cells S (eventR r e))) ∧ s'.scr = s.scr ∧ RefAt w' S (eventR r e) s' ∧ Below w.heap.size w w' := by
  obtain ⟨oa, ca, oR, cR, oX, cX, oF, cF, oO, cO, oE, cE⟩ := s
  obtain ⟨i0, z0, hi, hz0, hsz, hby, hzs⟩ := ev_info
  have HI := Lib.hid (⟨hi, hz0, hsz, hby, hzs⟩ : _ ∧ _ ∧ _ ∧ _ ∧ _)
  clear hi hz0 hsz hby hzs
  have HH := Lib.hid h
  clear h
  go_enter Try.func52, Try.ntmps52
  go_upto_region 1 with fail
  obtain ⟨wA, hA⟩ : ∃ wA, wA = ((w.alloc (.cells #[.slice oa S.files.length ca, .string S.stdin, .slice oR S.reps.length cR, .slice oX S.fails.length cX, .int .i64 S.most, .int .i64 S.clk, .int .u64 S.chance, .slice oF r.files.length cF, .int .i64 (r.taken : Int), .slice oO r.opn.length cO, .int .u64 r.number, .slice oE r.events.length cE] 38)).alloc (.cells #[.int .u8 e.kind, .int .u8 e.stream, .string e.name, .string e.data, .int .i64 e.status] 67)).alloc (.cells #[.slice none 0 0, .string noText, .slice none 0 0, .slice none 0 0, .int .i64 0, .int .i64 0, .int .u64 0, .slice none 0 0, .int .i64 0, .slice none 0 0, .int .u64 0, .slice none 0 0] 38) := ⟨_, rfl⟩
  rw [← hA]
  have hbA : Below w.heap.size w wA := by rw [hA]; exact (((Below.refl _ w).alloc (Nat.le_refl _) _).alloc (by rw [alloc_size]; omega) _).alloc (by rw [two_alloc]; omega) _
  have hblk : wA.heap[w.heap.size]? = some (.cells (Shp.cells ⟨oa, ca, oR, cR, oX, cX, oF, cF, oO, cO, oE, cE⟩ S r) 38) := by
    rw [hA, alloc_old _ _ (by rw [two_alloc]; omega), alloc_old _ _ (by rw [alloc_size]; omega)]; exact alloc_new _ _
  have hblk1 : wA.heap[w.heap.size + 1]? = some (.cells #[.int .u8 e.kind, .int .u8 e.stream, .string e.name, .string e.data, .int .i64 e.status] 67) := by
    rw [hA, alloc_old _ _ (by rw [two_alloc]; omega), ← alloc_size w]; exact alloc_new _ _
  have hblk2 : wA.heap[w.heap.size + 1 + 1]? = some (.cells #[.slice none 0 0, .string noText, .slice none 0 0, .slice none 0 0, .int .i64 0, .int .i64 0, .int .u64 0, .slice none 0 0, .int .i64 0, .slice none 0 0, .int .u64 0, .slice none 0 0] 38) := by
    rw [hA, ← two_alloc w]; exact alloc_new _ _
  have hsz : wA.heap.size = w.heap.size + 1 + 1 + 1 := by rw [hA, three_alloc]
  have hRA := HH.out.below hbA
  have c11 := (rbox_of hblk).c11
  have HB := Lib.hid (⟨hbA, hblk, hblk1, hblk2, hsz, hRA⟩ : _ ∧ _ ∧ _ ∧ _ ∧ _ ∧ _)
  clear hbA hblk hblk1 hblk2 hsz hRA hA
  go_upto_region 2 with fail
  go_cut [5] from 6 to 9 (fun s5 wx => OwnE wx wA.heap.size s5 r.events ∧ Below wA.heap.size wA wx)
  case first =>
    by_cases hE : r.events = []
    · have hl : r.events.length = 0 := by rw [hE]; rfl
      rw [hl] at c11
      have hcE := HB.out.2.2.2.2.2.re.nilCap
      rcases oE with _ | ad
      · obtain rfl := hcE rfl
        go_wp2_with fail
        go_meet
        exact ⟨by rw [hE]; exact own_nil _ _ _ _, Below.refl _ _⟩
      · go_wp2_with fail
        go_meet
        exact ⟨by rw [hE]; exact own_nil _ _ _ _, Below.refl _ _⟩
    · obtain ⟨x0, hx0⟩ : ∃ x0, r.events[0]? = some x0 := by
        cases hr : r.events with
        | nil => exact absurd hr hE
        | cons x l => exact ⟨x, rfl⟩
      obtain ⟨g, rfl, _⟩ := HB.out.2.2.2.2.2.re.at lenE hx0
      have hpos : 0 < r.events.length := List.length_pos_iff.2 hE
      have hw : wA.heap.size ≤ wA.heap.size := Nat.le_refl _
      clear hE hx0
      go_wp2_with (at_builtin; refine wpList_append_lies _ rfl (.tmp 6) (.tmp 8) 36 rfl wA.heap.size 67 i0 z0 5 48 Try.underlying36 HI.out.1 HI.out.2.1 HI.out.2.2.1 HI.out.2.2.2.1 HI.out.2.2.2.2 (by decide) (.slice none 0 0) 0 [] rfl (World.ownsRow_nil _ _ _ _) ⟨g, 0, none⟩ r.events.length cE (flatL Ev.cells r.events) rfl (flatL_length lenE _) (HB.out.2.2.2.2.2.re.all lenE rfl) (flatL_one Ev.one _) hpos (by unfold maxLen; omega) (by omega) (Nat.le_refl _) _ rfl ?_; intro g2 cap2 w4 hown hgrow hat hlt4; rw [Nat.zero_add] at hown ⊢; have HO := Lib.hid (⟨hown, (Below.refl wA.heap.size wA).grown hgrow (Nat.le_refl _) (fun k hk => by cases hk)⟩ : _ ∧ _); clear hown hgrow hat hlt4)
      go_meet
      exact ⟨HO.out.1, HO.out.2⟩
  case rest =>
    obtain ⟨hI2, hb2⟩ := hcut
    obtain ⟨oo, co, rfl, _⟩ := hI2.shape
    have hbx := (rbox_of HB.out.2.1).below hb2
    have hk1 : ∀ i, wc.cell? ⟨w.heap.size + 1, i, none⟩ = (#[.int .u8 e.kind, .int .u8 e.stream, .string e.name, .string e.data, .int .i64 e.status] : Array Value)[i]? := fun i => by
      rw [World.cell?_of_block (hb2.block _ (by show w.heap.size + 1 < _; rw [HB.out.2.2.2.2.1]; omega))]
      simp [World.cell?, HB.out.2.2.1]
    have e0 : wc.cell? ⟨w.heap.size + 1, 0, none⟩ = some (.int .u8 e.kind) := hk1 0
    have e1 : wc.cell? ⟨w.heap.size + 1, 1, none⟩ = some (.int .u8 e.stream) := hk1 1
    have e2 : wc.cell? ⟨w.heap.size + 1, 2, none⟩ = some (.string e.name) := hk1 2
    have e3 : wc.cell? ⟨w.heap.size + 1, 3, none⟩ = some (.string e.data) := hk1 3
    have e4 : wc.cell? ⟨w.heap.size + 1, 4, none⟩ = some (.int .i64 e.status) := hk1 4
    have H2 := Lib.hid (⟨hI2, hb2, hbx⟩ : _ ∧ _ ∧ _)
    clear hI2 hb2 hbx hk1
    go_upto_region 4 with (at_builtin; refine wpList_append_lies _ rfl (.tmp 10) (.tmp 12) 36 rfl wA.heap.size 67 i0 z0 5 48 Try.underlying36 HI.out.1 HI.out.2.1 HI.out.2.2.1 HI.out.2.2.2.1 HI.out.2.2.2.2 (by decide) (.slice oo r.events.length co) r.events.length (flatL Ev.cells r.events) rfl (H2.out.1.alloc _) ⟨wc.heap.size, 0, none⟩ 1 1 (Ev.cells e) rfl rfl (World.news_of_block (heap_alloc_new wc _)) (Ev.one e) (by decide) (by unfold maxLen; omega) (by omega) (by rw [alloc_size]; exact Nat.le_succ_of_le H2.out.2.1.size) _ rfl ?_; intro g2 cap2 w4 hown hgrow hat hlt4; have hb4 : Below wA.heap.size wA w4 := (H2.out.2.1.trans (((Below.refl _ wc).alloc (Nat.le_refl _) _).mono H2.out.2.1.size)).grown hgrow (by rw [alloc_size]; exact Nat.le_succ_of_le H2.out.2.1.size) (fun k hk => (H2.out.1.lt k hk).1); have hg2 : wA.heap.size ≤ g2 := (hown.lt g2 rfl).1; have x11 := ((rbox_of HB.out.2.1).below hb4).c11; have z11 := ((rbox_of HB.out.2.1).below hb4).z 11; have HO := Lib.hid (⟨hown, hb4, hg2⟩ : _ ∧ _ ∧ _); clear hown hgrow hat hlt4 hb4 hg2)
    obtain ⟨w5, h5⟩ : ∃ w5, w5 = w4.setCell ⟨w.heap.size, 11, none⟩ (.slice (some ⟨g2, 0, none⟩) (r.events.length + 1) cap2) := ⟨_, rfl⟩
    rw [← h5]
    have hlt0 : w.heap.size < wA.heap.size := by rw [HB.out.2.2.2.2.1]; omega
    have hblk5 : w5.heap[w.heap.size]? = some (.cells (Shp.cells ⟨oa, ca, oR, cR, oX, cX, oF, cF, oO, cO, some ⟨g2, 0, none⟩, cap2⟩ S (eventR r e)) 38) := by
      rw [h5, blk_set ((HO.out.2.1.block _ hlt0).trans HB.out.2.1)]
      simp [Shp.cells, eventR]
    have hblk6 : w5.heap[w.heap.size + 1 + 1]? = some (.cells (s0.cells S0 r0) 38) := by
      rw [h5, heap_set _ _ _ (by show _ ≠ w.heap.size; omega), HO.out.2.1.block _ (by rw [HB.out.2.2.2.2.1]; omega)]
      exact HB.out.2.2.2.1
    have hb5 : Below w.heap.size w w5 := by rw [h5]; exact below_set (HB.out.1.trans (HO.out.2.1.mono HB.out.1.size)) (Nat.le_refl _) _ _
    have hE5 : OwnE w5 0 (.slice (some ⟨g2, 0, none⟩) (r.events.length + 1) cap2) (eventR r e).events := by
      rw [h5]
      refine Own.setOther ?_ (by intro h; have : g2 = w.heap.size := by simpa [Value.ownBlock] using h
                                 have := HO.out.2.2; omega) _ _
      show World.ownsRow _ _ _ _ _ _ _
      have q := Own.base (f := Ev.cells) (l := r.events ++ [e]) (t := 67) (k := 5) (B := wA.heap.size) (C := 0) (w := w4) (v := .slice (some ⟨g2, 0, none⟩) (r.events.length + 1) cap2) (by
        show World.ownsRow _ _ _ _ _ _ _
        rw [flatL_snoc, List.length_append]
        exact HO.out.1) (Nat.zero_le _)
      exact q
    have r5 := rbox_of hblk5
    have r6 := rbox_of hblk6
    have H5 := Lib.hid (⟨hb5, hE5, hblk6⟩ : _ ∧ _ ∧ _)
    clear hblk5 hblk6 hb5 hE5 h5 x11 z11
    obtain ⟨y0, y1, y2, y3, y4, y5, y6, y7, y8, y9, y10, y11, _, _⟩ := r5
    obtain ⟨q0, q1, q2, q3, q4, q5, q6, q7, q8, q9, q10, q11, qz, _⟩ := r6
    dsimp only [eventR] at y7 y8 y9 y10 y11
    have qz0 := qz 0
    have qz1 := qz 1
    have qz2 := qz 2
    have qz3 := qz 3
    have qz4 := qz 4
    have qz5 := qz 5
    have qz6 := qz 6
    have qz7 := qz 7
    have qz8 := qz 8
    have qz9 := qz 9
    have qz10 := qz 10
    have qz11 := qz 11
    clear qz
    go_wp2_with fail
    have hP := put12_blk H5.out.2.2 rfl S (eventR r e) ⟨oa, ca, oR, cR, oX, cX, oF, cF, oO, cO, some ⟨g2, 0, none⟩, cap2⟩
    have hb6 := put12_below H5.out.1 (show w.heap.size ≤ w.heap.size + 1 + 1 by omega) S (eventR r e) ⟨oa, ca, oR, cR, oX, cX, oF, cF, oO, cO, some ⟨g2, 0, none⟩, cap2⟩
    have hE6 : OwnE (put12 w5 (w.heap.size + 1 + 1) S (eventR r e) ⟨oa, ca, oR, cR, oX, cX, oF, cF, oO, cO, some ⟨g2, 0, none⟩, cap2⟩) 0 (.slice (some ⟨g2, 0, none⟩) (eventR r e).events.length cap2) (eventR r e).events := by
      have q : (eventR r e).events.length = r.events.length + 1 := by show (r.events ++ [e]).length = _; rw [List.length_append]; rfl
      rw [q]
      refine H5.out.2.1.of_block fun b hb => put12_heap _ _ _ _ _ ?_
      have : g2 = b := by simpa [Value.ownBlock] using hb
      have := HO.out.2.2
      have := HB.out.2.2.2.2.1
      omega
    have H6 := Lib.hid (⟨hb6, hE6⟩ : _ ∧ _)
    have hx : put12 w5 (w.heap.size + 1 + 1) S (eventR r e) ⟨oa, ca, oR, cR, oX, cX, oF, cF, oO, cO, some ⟨g2, 0, none⟩, cap2⟩ = put12 w5 (w.heap.size + 1 + 1) S (eventR r e) ⟨oa, ca, oR, cR, oX, cX, oF, cF, oO, cO, some ⟨g2, 0, none⟩, cap2⟩ := rfl
    conv at hx => lhs; dsimp only [put12, eventR]
    simp only [List.length_append, List.length_singleton] at hx
    rw [hx]
    clear hx
    obtain ⟨z0, z1, z2, z3, z4, z5, z6, z7, z8, z9, z10, z11, _, _⟩ := rbox_of hP
    clear hb6 hE6 hP
    generalize put12 w5 (w.heap.size + 1 + 1) S (eventR r e) ⟨oa, ca, oR, cR, oX, cX, oF, cF, oO, cO, some ⟨g2, 0, none⟩, cap2⟩ = w6 at *
    refine bodyPost_ret (v := .agg (Shp.cells ⟨oa, ca, oR, cR, oX, cX, oF, cF, oO, cO, some ⟨g2, 0, none⟩, cap2⟩ S (eventR r e))) (by simp [results, Try.results52, go_sem, z0, z1, z2, z3, z4, z5, z6, z7, z8, z9, z10, z11]) rfl ?_
    have h6 := HH.out.below H6.out.1
    refine ⟨_, rfl, rfl, ⟨h6.rr, h6.rx, h6.rf, h6.ro, H6.out.2, ⟨h6.gh.bs, h6.gh.f, h6.gh.o, fun a ha => ?_⟩⟩, H6.out.1⟩
    cases ha
    refine S.up _ (Nat.le_trans HH.out.gh.bs ?_)
    have := HO.out.2.2
    have := HB.out.2.2.2.2.1
    show w.heap.size ≤ g2
    omega
end
end Go.Proofs.Ythbkcdbmimhhkaa.Rw
