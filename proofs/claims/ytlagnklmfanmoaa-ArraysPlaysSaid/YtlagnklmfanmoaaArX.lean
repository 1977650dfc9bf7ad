/-
  The document's arrays: Set, Get, Delete.
-/
import Derived.Test.YtlagnklmfanmoaaArW
namespace Go.Proofs.Ytlagnklmfanmoaa.Ar
open Go.RowKit Go.Maps

theorem add_zero (g i : Nat) : (⟨g, 0, none⟩ : Addr).add i = ⟨g, i, none⟩ := by
  simp [Addr.add]
  rintro rfl
  rfl
theorem flatI_set : ∀ (l : List KV) (i : Nat) (p : KV) (c : Cell), l[i]? = some p → flatI (l.set i (p.1, c)) = (((flatI l).set (i * 4 + 1) (.int .u8 c.kind)).set (i * 4 + 2) (.int .u64 c.n)).set (i * 4 + 3) (.string c.s)
  | x :: l, 0, p, c, h => by
    simp at h; subst h
    simp [flatI, cells4]
  | x :: l, i + 1, p, c, h => by
    have ih := flatI_set l i p c (by simpa using h)
    have e1 : (i + 1) * 4 + 1 = (i * 4 + 1) + 4 := by omega
    have e2 : (i + 1) * 4 + 2 = (i * 4 + 2) + 4 := by omega
    have e3 : (i + 1) * 4 + 3 = (i * 4 + 3) + 4 := by omega
    rw [e1, e2, e3]
    simp only [List.set_cons_succ, flatI, cells4, List.cons_append, List.nil_append, ih]
theorem set_at : ∀ (l : List KV) (i : Nat) (p : KV) (s : ByteArray) (c : Cell), (keysL l).Nodup → l[i]? = some p → p.1 = s → setL l s c = l.set i (s, c)
  | x :: l, 0, p, s, c, hu, h, hs => by
    simp at h; subst h
    have hn : ∀ q ∈ l, q.1 ≠ s := fun q hq e => by
      have h1 := (List.nodup_cons.1 hu).1
      exact h1 (List.mem_map.2 ⟨q, hq, e.trans hs.symm⟩)
    have h2 : hasL (x :: l) s = true := mem_hasL.2 ⟨x, by simp, hs⟩
    rw [setL, if_pos h2, List.map_cons, if_pos hs, map_same hn]
    rfl
  | x :: l, i + 1, p, s, c, hu, h, hs => by
    have h' : l[i]? = some p := by simpa using h
    have hu' : (keysL l).Nodup := (List.nodup_cons.1 hu).2
    have ih := set_at l i p s c hu' h' hs
    have hm : p ∈ l := List.mem_of_getElem? h'
    have hx : x.1 ≠ s := fun e => (List.nodup_cons.1 hu).1 (List.mem_map.2 ⟨p, hm, hs.trans e.symm⟩)
    have h3 : hasL l s = true := mem_hasL.2 ⟨p, hm, hs⟩
    have h2 : hasL (x :: l) s = true := mem_hasL.2 ⟨p, List.mem_cons_of_mem _ hm, hs⟩
    rw [setL, if_pos h3] at ih
    rw [setL, if_pos h2, List.map_cons, if_neg hx, ih]
    rfl
theorem get_at : ∀ (l : List KV) (i : Nat) (p : KV) (s : ByteArray), (keysL l).Nodup → l[i]? = some p → p.1 = s → cellL l s = p.2
  | x :: l, 0, p, s, hu, h, hs => by
    simp at h; subst h
    simp [cellL, getL, hs]
  | x :: l, i + 1, p, s, hu, h, hs => by
    have h' : l[i]? = some p := by simpa using h
    have ih := get_at l i p s (List.nodup_cons.1 hu).2 h' hs
    have hm : p ∈ l := List.mem_of_getElem? h'
    have hx : x.1 ≠ s := fun e => (List.nodup_cons.1 hu).1 (List.mem_map.2 ⟨p, hm, hs.trans e.symm⟩)
    unfold cellL getL at ih ⊢
    rw [List.find?_cons, decide_eq_false hx]
    exact ih
theorem set_new {L : List KV} {s : ByteArray} (c : Cell) (h : hasL L s = false) : setL L s c = L ++ [(s, c)] := by
  rw [setL, h, if_neg (by decide)]
theorem Items.snoc {B g cap : Nat} {w : World} {L : List KV} {p : KV} (h : w.ownsRow B 79 4 (.slice (some ⟨g, 0, none⟩) (L.length + 1) cap) (L.length + 1) (flatI L ++ cells4 p)) : Items B w (.slice (some ⟨g, 0, none⟩) (L.length + 1) cap) (L ++ [p]) := by
  show World.ownsRow _ _ _ _ _ _ _
  rw [List.length_append, flatI_append, show flatI [p] = cells4 p from List.append_nil _]
  exact h
theorem Items.stored {B n c g : Nat} {w : World} {L : List KV} {p : KV} {i : Nat} (h : Items B w (.slice (some ⟨g, 0, none⟩) n c) L) (hi : L[i]? = some p) (d : Cell) :
    Items B (put3o w g (i * 4) d) (.slice (some ⟨g, 0, none⟩) n c) (L.set i (p.1, d)) := by
  have hn : n = L.length := by
    obtain ⟨oa, oc, e, _⟩ := h.shape
    simp only [Value.slice.injEq] at e
    exact e.2.1
  subst hn
  obtain ⟨h1, g1⟩ := World.ownsRow.stored h (i * 4 + 1) (.int .u8 d.kind)
  obtain ⟨h2, g2⟩ := h1.stored (i * 4 + 2) (.int .u64 d.n)
  obtain ⟨h3, g3⟩ := h2.stored (i * 4 + 3) (.string d.s)
  show World.ownsRow _ _ _ _ _ _ _
  rw [List.length_set, flatI_set L i p d hi]
  exact h3

set_option maxRecDepth 100000 in
theorem refSet {B : Nat} {w : World} {v : Value} {L : List KV} (s : ByteArray) (c : Cell) (h : Items B w v L) (hu : (keysL L).Nodup) (hz : L.length ≤ 100000) :
    Calls Try.prog 21 #[v, .string s, .agg ⟨c.cells⟩] w fun e w' => ∃ v', e = .returned v' ∧ Items w.heap.size w' v' (setL L s c) ∧ Below w.heap.size w w' := by
  obtain ⟨oa, ca, rfl, hoa⟩ := h.shape
  obtain ⟨i0, z0, hi, hz2, hsz, hby, hzs⟩ := item_info
  have HI := Lib.hid (⟨hi, hz2, hsz, hby, hzs⟩ : _ ∧ _ ∧ _ ∧ _ ∧ _)
  clear hi hz2 hsz hby hzs
  unfold Cell.cells
  go_enter Try.func21, Try.ntmps21
  go_upto_region 2 with fail
  have hb1 : Below w.heap.size w (w.alloc (.cells #[.int .u8 c.kind, .int .u64 c.n, .string c.s] 31)) := (Below.refl _ w).alloc (Nat.le_refl _) _
  have O1 := own3 (c := c) (alloc_new w (.cells #[.int .u8 c.kind, .int .u64 c.n, .string c.s] 31))
  have hsz1 := alloc_size w (.cells #[.int .u8 c.kind, .int .u64 c.n, .string c.s] 31)
  generalize w.alloc (.cells #[.int .u8 c.kind, .int .u64 c.n, .string c.s] 31) = w1 at *
  have h1 := h.below hb1
  have H1 := Lib.hid (⟨h1, hb1, O1, hsz1⟩ : _ ∧ _ ∧ _ ∧ _)
  clear h h1 hb1 O1 hsz1
  go_cut [7] from 9 to 11 (fun s7 wx => Items w1.heap.size wx s7 L ∧ Below w1.heap.size w1 wx)
  case first =>
    cases hL : L with
    | nil =>
      subst hL
      rcases oa with _ | ad
      · obtain rfl := hoa rfl
        go_wp2_with fail
        go_meet
        exact ⟨World.ownsRow_nil _ _ _ _, Below.refl _ _⟩
      · go_wp2_with fail
        go_meet
        exact ⟨World.ownsRow_nil _ _ _ _, Below.refl _ _⟩
    | cons x0 L0 =>
      rw [← hL]
      obtain ⟨g, rfl, _⟩ := H1.out.1.at (i := 0) (p := x0) (by rw [hL]; rfl)
      have hpos : 0 < L.length := by rw [hL, List.length_cons]; omega
      have HL := Lib.hid hL
      clear hL
      go_wp2_with (at_builtin; refine wpList_append_lies _ rfl (.tmp 9) (.tmp 10) 43 rfl w1.heap.size 79 i0 z0 4 48 Try.underlying43 HI.out.1 HI.out.2.1 HI.out.2.2.1 HI.out.2.2.2.1 HI.out.2.2.2.2 (by decide) (.slice none 0 0) 0 [] rfl (World.ownsRow_nil _ _ _ _) ⟨g, 0, none⟩ L.length ca (flatI L) rfl (flatI_length L) (fun j u hu2 => by
        have hlt := (List.getElem?_eq_some_iff.1 hu2).1
        rw [add_zero]
        exact (World.ownsRow.cellAt H1.out.1 j (by rw [flatI_length] at hlt; exact hlt)).trans hu2) (flatI_one L) hpos (by unfold maxLen; omega) (by omega) (Nat.le_refl _) _ rfl ?_; intro g2 cap2 w4 hown hgrow hat hlt4; rw [Nat.zero_add] at hown ⊢; have HO := Lib.hid (⟨hown, (Below.refl w1.heap.size w1).grown hgrow (Nat.le_refl _) (fun k hk => by cases hk)⟩ : _ ∧ _); clear hown hgrow hat hlt4)
      go_meet
      exact ⟨HO.out.1, HO.out.2⟩
  case rest =>
    obtain ⟨hI2, hb2⟩ := hcut
    obtain ⟨oo, co, rfl, _⟩ := hI2.shape
    have hlt1 : w.heap.size < w1.heap.size := by rw [H1.out.2.2.2]; exact Nat.lt_succ_self _
    have y0 := (hb2.cell (p := ⟨w.heap.size, 0, none⟩) hlt1).trans H1.out.2.2.1.z0
    have y1 := (hb2.cell (p := ⟨w.heap.size, 1, none⟩) hlt1).trans H1.out.2.2.1.z1
    have y2 := (hb2.cell (p := ⟨w.heap.size, 2, none⟩) hlt1).trans H1.out.2.2.1.z2
    have hbw : Below w.heap.size w wc := H1.out.2.1.trans (hb2.mono H1.out.2.1.size)
    have H2 := Lib.hid (⟨hI2, hbw, H1.out.1.below hb2, H1.out.2.1.size, hb2.size⟩ : _ ∧ _ ∧ _ ∧ _ ∧ _)
    clear hI2 hb2 hbw
    go_upto_region 4 with (go_at_call 37; refine (find s H2.out.2.2.1 (by omega)).mono ?_; rintro e w' ⟨o, rfl, hf, hw⟩; obtain rfl := hw.symm; clear hw; have HF := Lib.hid hf; clear hf)
    rcases o with _ | i
    · simp only [idx]
      have hs2 : setL L s c = L ++ [(s, c)] := set_new c HF.out
      have HS := Lib.hid hs2
      clear hs2
      go_upto_region 5 with fail
      go_wp2_with (at_builtin; refine wpList_append_lies _ rfl (.tmp 17) (.tmp 21) 43 rfl w1.heap.size 79 i0 z0 4 48 Try.underlying43 HI.out.1 HI.out.2.1 HI.out.2.2.1 HI.out.2.2.2.1 HI.out.2.2.2.2 (by decide) (.slice oo L.length co) L.length (flatI L) rfl (H2.out.1.alloc _) ⟨wc.heap.size, 0, none⟩ 1 1 (cells4 (s, c)) rfl rfl (World.news_of_block (heap_alloc_new wc _)) (cells4_one (s, c)) (by decide) (by unfold maxLen; omega) (by omega) (two_size H2.out.2.2.2.2) _ rfl ?_; intro g2 cap2 w4 hown hgrow hat hlt4; have HO := Lib.hid (⟨Items.snoc hown, (H2.out.2.1.trans (((Below.refl _ wc).alloc (Nat.le_refl _) _).mono H2.out.2.1.size)).grown hgrow (two_size H2.out.2.1.size) (fun k hk => Nat.le_trans H2.out.2.2.2.1 (H2.out.1.lt k hk).1)⟩ : _ ∧ _); clear hown hgrow hat hlt4)
      go_ret
      exact ⟨_, rfl, by rw [HS.out]; exact HO.out.1.base H2.out.2.2.2.1, HO.out.2⟩
    · obtain ⟨p, hp, hps⟩ := HF.out
      simp only [idx]
      have hlt := (List.getElem?_eq_some_iff.1 hp).1
      have hlt' : (i : Int) < (L.length : Int) := by omega
      obtain ⟨go, rfl, q0, q1, q2, q3⟩ := H2.out.1.at hp
      have r1 := World.ownsRow.frozenAt H2.out.1 (i * 4 + 1)
      have r2 := World.ownsRow.frozenAt H2.out.1 (i * 4 + 2)
      have r3 := World.ownsRow.frozenAt H2.out.1 (i * 4 + 3)
      have hset := set_at L i p s c hu hp hps
      have hst := H2.out.1.stored hp c
      rw [hps] at hst
      have HS := Lib.hid (⟨hst, hset⟩ : _ ∧ _)
      have HL2 := Lib.hid (H2.out.1.lt go rfl)
      clear hset hst hp hps
      go_wp2_with fail
      go_ret
      have hge : w.heap.size ≤ go := Nat.le_trans H2.out.2.2.2.1 HL2.out.1
      have hT : Turn (fun k => k = go) wc (put3o wc go (i * 4) c) := ⟨rfl, rfl, rfl, by rw [put3o_size]; exact Nat.le_refl _, fun k _ hk => put3o_heap wc go (i * 4) c hk⟩
      refine ⟨_, rfl, by rw [HS.out.2]; exact HS.out.1.base H2.out.2.2.2.1, ?_⟩
      exact ((Turn.of_below (S := fun k => w.heap.size ≤ k) H2.out.2.1).trans hT fun k hk => .inl (by rw [hk]; exact hge)).below fun k hk => hk
end Go.Proofs.Ytlagnklmfanmoaa.Ar
