/-
  Package arrays: what the calls answer: Set.
-/
import Derived.Test.YtlagnklmfanmoaaArI
namespace Go.Proofs.Ytlagnklmfanmoaa.Ar
open Go.RowKit Go.Maps

theorem set_same {l : List Value} {i : Nat} {v : Value} (h : l[i]? = some v) : l.set i v = l := by
  apply List.ext_getElem?
  intro k
  by_cases e : i = k
  · subst e
    rw [List.getElem?_set_self (List.getElem?_eq_some_iff.1 h).1, h]
  · rw [List.getElem?_set_ne e]
theorem flat_cell {rs : List Row} {i : Nat} {r : Row} (hi : rs[i]? = some r) (c : Cell) :
    flat (rs.set i { r with cell := c }) = ((((flat rs).set (i * 5 + 1) (.int .u8 c.kind)).set (i * 5 + 2) (.int .u64 c.n)).set (i * 5 + 3) (.string c.s)) := by
  obtain ⟨hlt, _⟩ := List.getElem?_eq_some_iff.1 hi
  have e0 := flat_get rs i r hi 0 (by omega)
  have e4 := flat_get rs i r hi 4 (by omega)
  have e5 := set5 (flat rs) (i * 5) (.string r.key) (.int .u8 c.kind) (.int .u64 c.n) (.string c.s) (.bool r.there) (by rw [flat_length]; omega)
  rw [set_same (l := flat rs) (i := i * 5) (v := .string r.key) (by rw [← Nat.add_zero (i * 5), e0]; rfl)] at e5
  rw [set_same (i := i * 5 + 4) (by rw [List.getElem?_set_ne (by omega), List.getElem?_set_ne (by omega), List.getElem?_set_ne (by omega)]; exact e4)] at e5
  rw [e5, flat_set rs i _ hlt]
  rfl
def put3o (w : World) (g o : Nat) (c : Cell) : World := ((w.setCell ⟨g, o + 1, none⟩ (.int .u8 c.kind)).setCell ⟨g, o + 2, none⟩ (.int .u64 c.n)).setCell ⟨g, o + 3, none⟩ (.string c.s)
theorem put3o_heap (w : World) (g o : Nat) (c : Cell) {k : Nat} (h : k ≠ g) : (put3o w g o c).heap[k]? = w.heap[k]? := by
  unfold put3o
  rw [heap_set _ _ _ h, heap_set _ _ _ h, heap_set _ _ _ h]
theorem put3o_size (w : World) (g o : Nat) (c : Cell) : (put3o w g o c).heap.size = w.heap.size := by
  unfold put3o
  rw [size_set, size_set, size_set]
theorem store_rows {w : World} {S : Nat → Prop} {N pb mb g cap : Nat} {D : DataW Unit} {rs : List Row} {i : Nat} {r : Row} (h : Rows w S N pb mb g cap D rs) (hi : rs[i]? = some r) (c : Cell) :
    Rows (put3o w g (i * 5) c) S N pb mb g cap D (rs.set i { r with cell := c }) ∧ Turn S w (put3o w g (i * 5) c) := by
  obtain ⟨h1, g1⟩ := h.row.stored (i * 5 + 1) (.int .u8 c.kind)
  obtain ⟨h2, g2⟩ := h1.stored (i * 5 + 2) (.int .u64 c.n)
  obtain ⟨h3, g3⟩ := h2.stored (i * 5 + 3) (.string c.s)
  have hX : ∀ k, k ≠ g → (put3o w g (i * 5) c).heap[k]? = w.heap[k]? := fun k hk => put3o_heap w g (i * 5) c hk
  have hz := put3o_size w g (i * 5) c
  refine ⟨⟨?_, ?_, ?_, ?_, h.map.of_block (hX _ h.ne3), ?_, h.ties.store hi c, by rw [List.length_set]; exact h.len, h.ne1, h.ne2, h.ne3, h.s1, h.s2, h.s3, fun k hk => by rw [hz]; exact h.lt k hk⟩, ⟨rfl, rfl, rfl, by rw [hz]; exact Nat.le_refl _, fun k _ hk => hX k fun e => hk (by rw [e]; exact h.s3)⟩⟩
  · exact (World.cell?_of_block (a := ⟨pb, 0, none⟩) (hX pb h.ne2)).trans h.p0
  · exact (World.frozen?_of_block (a := ⟨pb, 0, none⟩) (hX pb h.ne2)).trans h.f0
  · rw [List.length_set]; exact (World.cell?_of_block (a := ⟨pb, 1, none⟩) (hX pb h.ne2)).trans h.p1
  · exact (World.frozen?_of_block (a := ⟨pb, 1, none⟩) (hX pb h.ne2)).trans h.f1
  · rw [List.length_set, flat_cell hi]; exact h3
theorem set_ask (L : List KV) (s : ByteArray) (c : Cell) : setL (askL L s) s c = setL L s c := by
  unfold askL
  cases h : hasL L s
  · have hn : ∀ p ∈ L, p.1 ≠ s := fun p hp e => by
      have := (List.any_eq_false.1 h) p hp
      simp [e] at this
    have h2 : hasL (L ++ [(s, Cell.zero)]) s = true := by simp [hasL]
    simp [setL, h, h2, map_same (c := c) hn]
  · simp

set_option maxRecDepth 100000 in
theorem set {w : World} {a N : Nat} {F : Nat → Prop} {L : List KV} (s : ByteArray) (c : Cell) (h : Arr w a N F L) (hs : s.size ≤ 1000000) (hN : N < 1000000) :
    Calls Try.prog 9 #[.pointer (some ⟨a, 0, none⟩), .string s, .agg ⟨c.cells⟩] w fun e w' => e = .returned (.int .i64 0) ∧ Next w w' a (if hasL L s then N else N + 1) F (setL L s c) := by
  obtain ⟨pb, S, rs, hA, hl⟩ := h
  obtain ⟨mb, g, cap, D, hR⟩ := hA.rows
  have c0 := hA.c0
  have c1 := hA.c1
  have al := hA.lt a hA.fa
  have hF := hA.lt
  subst hl
  have HH := Lib.hid (⟨hA, hR⟩ : _ ∧ _)
  clear hA hR
  obtain ⟨N2, hN2⟩ : ∃ N2, N2 = if hasL (live rs) s then N else N + 1 := ⟨_, rfl⟩
  rw [← hN2]
  have HN2 := Lib.hid hN2
  clear hN2
  unfold Cell.cells
  go_enter Try.func9, Try.ntmps9
  go_upto_region 3 with (first
    | (go_at_call 31; refine (made_at (((Below.refl _ w).alloc (Nat.le_refl _) _).cell (p := ⟨a, 0, none⟩) al |>.trans c0)).mono ?_; rintro e w' ⟨rfl, rfl⟩))
  have hb1 : Below w.heap.size w (w.alloc (.cells #[.int .u8 c.kind, .int .u64 c.n, .string c.s] 31)) := (Below.refl _ w).alloc (Nat.le_refl _) _
  have hn1 := alloc_new w (.cells #[.int .u8 c.kind, .int .u64 c.n, .string c.s] 31)
  have hz1 := alloc_size w (.cells #[.int .u8 c.kind, .int .u64 c.n, .string c.s] 31)
  generalize hW1 : w.alloc (.cells #[.int .u8 c.kind, .int .u64 c.n, .string c.s] 31) = w1 at *
  clear hW1
  have b1 := (hb1.cell (p := ⟨a, 1, none⟩) al).trans c1
  have O1 := own3 (c := c) hn1
  obtain ⟨z0, z1, z2, y0, y1, y2⟩ := O1
  have H1 := Lib.hid (⟨hb1, hn1, hz1, HH.out.1.below hb1, HH.out.2.below hb1⟩ : _ ∧ _ ∧ _ ∧ _ ∧ _)
  clear hb1 hn1 hz1 y0 y1 y2 c0 c1
  go_region_with (first
    | (go_at_call 32; refine (row s (H1.out.2.2.2.2.below ((Below.refl _ w1).drew)) hs hN).mono ?_; rintro e w2 ⟨S', g', cap', D', rs', i, rfl, hR2, hT, hG, r, hri, hrt, hrk, hlv, hcl⟩; have f1 := hR2.cells hri 1 _ rfl; have f2 := hR2.cells hri 2 _ rfl; have f3 := hR2.cells hri 3 _ rfl; have k1 := hR2.row.frozenAt (i * 5 + 1); have k2 := hR2.row.frozenAt (i * 5 + 2); have k3 := hR2.row.frozenAt (i * 5 + 3); have o0 := (hT.block w.heap.size (by show _ < w1.heap.size; rw [H1.out.2.2.1]; omega) (fun k => by have := hF _ (HH.out.1.sub _ k); omega)).trans H1.out.2.1; obtain ⟨v0, v1, v2, _, _, _⟩ := own3 (c := c) o0; rw [← HN2.out] at hR2; have HR2 := Lib.hid (⟨hR2, hT, hG, hri, hrt, hrk, hlv⟩ : _ ∧ _ ∧ _ ∧ _ ∧ _ ∧ _ ∧ _); clear hR2 hT hG hri hrt hrk hlv hcl o0))
  all_goals go_wp2_with fail
  all_goals go_ret
  all_goals
    obtain ⟨r1, t1⟩ := store_rows HR2.out.1 HR2.out.2.2.2.1 c
    have hlv : live (rs'.set i { r with cell := c }) = setL (live rs) s c := (live_set c HR2.out.1.ties.once HR2.out.2.2.2.1 HR2.out.2.2.2.2.1).trans (by rw [HR2.out.2.2.2.2.2.1, HR2.out.2.2.2.2.2.2, set_ask])
    have hT : Turn S w1 w2 := (Turn.of_below (S := S) ((Below.refl _ w1).drew)).trans HR2.out.2.1 fun i hi => .inl hi
    have hn := nextOf H1.out.2.2.2.1 (hT.trans t1 fun i hi => HR2.out.2.2.1 i hi) ⟨_, _, _, _, r1⟩ HR2.out.2.2.1
    rw [hlv] at hn
    exact ⟨rfl, hn.around H1.out.1 (Turn.refl (fun _ => False) _) (fun _ h => h.elim) hF⟩
end Go.Proofs.Ytlagnklmfanmoaa.Ar
