/-
  Package arrays: a row that is laid behind all others (add).
-/
import Derived.Test.YtlagnklmfanmoaaArB
import Derived.StillTail
import Derived.StillTailTactics
namespace Go.Proofs.Ytlagnklmfanmoaa.Ar
open Go.RowKit Go.Maps

/- A region that draws, whose calls stand at its end: the world ahead of them is a letter. -/
theorem wp_region_tail {P : Program} {id : Nat} {Q : Exit → Act → World → Prop} {a : Act} {w : World} {l : List Oper} (n : Nat) (hm : P.follows .mixedOrders = true) (hB : Region.lexTailB .any l.toArray n = true)
    (h : ∀ w2, Below w.heap.size w w2 → w2.heap = w.heap → wpStill P l.toArray w2 (fun a' => wpList P l.toArray Q (l.drop n) a' w2) (l.take n) a) : (Code.region id l.toArray true).wp P Q a w :=
  wp_region_still_tail n hm hB (h { w with drawn := w.drawn + 1 } ⟨rfl, rfl, rfl, Nat.le_refl _, fun _ _ => rfl⟩ rfl)
theorem cell_heap {w w2 : World} (h : w2.heap = w.heap) (p : Addr) : w2.cell? p = w.cell? p := World.cell?_of_block (by rw [h])
theorem frozen_heap {w w2 : World} (h : w2.heap = w.heap) (p : Addr) : w2.frozen? p = w.frozen? p := World.frozen?_of_block (by rw [h])

theorem heap_set (w : World) (p : Addr) (u : Value) {k : Nat} (h : k ≠ p.block) : (w.setCell p u).heap[k]? = w.heap[k]? := Below.heap_setCell w p u k h
theorem size_set (w : World) (p : Addr) (u : Value) : (w.setCell p u).heap.size = w.heap.size := by simp [World.setCell]

theorem add_end {w w1 w3 W w' : World} {S : Nat → Prop} {N pb mb g cap g' cap' : Nat} {D : DataW Unit} {rs : List Row} {last : Row} (h : Rows w S N pb mb g cap D rs) (hn : has D (kl last.key) = false) (ht : last.there = true) (hs : last.key.size ≤ 1000000)
    (hb : Below w.heap.size w w1) (hm : MapIs w3 mb (N + 1) (D.put (kl last.key) (pi rs.length))) (hm3 : w1.mapTurned w3 mb) (hA : Below w3.heap.size w3 W) (hg : W.grownBy w' (some g))
    (hown : w'.ownsRow 0 67 5 (.slice (some ⟨g', 0, none⟩) (rs.length + 1) cap') (rs.length + 1) (flat rs ++ last.cells)) (hat : g = g' ∨ g' = W.heap.size) (hlt : g' < w'.heap.size) :
    Rows (w'.setCell ⟨pb, 1, none⟩ (.slice (some ⟨g', 0, none⟩) (rs.length + 1) cap')) (fun k => S k ∨ k = g') (N + 1) pb mb g' cap' (D.put (kl last.key) (pi rs.length)) (rs ++ [last]) ∧
      Turn S w (w'.setCell ⟨pb, 1, none⟩ (.slice (some ⟨g', 0, none⟩) (rs.length + 1) cap')) ∧ (∀ k, S k ∨ k = g' → S k ∨ w.heap.size ≤ k) := by
  have l1 := h.lt _ h.s1
  have l2 := h.lt _ h.s2
  have l3 := h.lt _ h.s3
  have n1 := h.ne1
  have n2 := h.ne2
  have n3 := h.ne3
  have z1 := hb.size
  have z2 := hm3.grown.size
  have z3 := hA.size
  have z4 := hg.size
  have hX : ∀ k, k < w.heap.size → k ≠ mb → k ≠ g → w'.heap[k]? = w.heap[k]? := fun k hk h1 h2 => by
    rw [hg.block k (by omega) (by simpa using h2), hA.block k (by omega), hm3.grown.block k (by omega) (by simpa using h1), hb.block k hk]
  have hmb : w'.heap[mb]? = w3.heap[mb]? := by
    rw [hg.block mb (by omega) (by simpa using n3), hA.block mb (by omega)]
  have hgr : g' ≠ pb ∧ g' ≠ mb := by omega
  have e0 : w'.heap[pb]? = w.heap[pb]? := hX pb l1 n1 n2
  have c1 : w'.cell? ⟨pb, 1, none⟩ = some (.slice (some ⟨g, 0, none⟩) rs.length cap) := (World.cell?_of_block (a := ⟨pb, 1, none⟩) e0).trans h.p1
  refine ⟨⟨?_, ?_, ?_, ?_, ?_, ?_, ?_, ?_, n1, fun e => hgr.1 e.symm, fun e => hgr.2 e.symm, .inl h.s1, .inl h.s2, .inr rfl, ?_⟩, ⟨?_, ?_, ?_, ?_, ?_⟩, ?_⟩
  · rw [World.cell?_setCell_other _ _ _ _ (by simp)]
    exact (World.cell?_of_block (a := ⟨pb, 0, none⟩) e0).trans h.p0
  · rw [World.frozen?_setCell]
    exact (World.frozen?_of_block (a := ⟨pb, 0, none⟩) e0).trans h.f0
  · rw [World.cell?_setCell_same' w' _ _ (by rw [c1]; rfl)]
    simp
  · rw [World.frozen?_setCell]
    exact (World.frozen?_of_block (a := ⟨pb, 1, none⟩) e0).trans h.f1
  · exact hm.of_block ((heap_set _ _ _ (fun e => n1 e.symm)).trans hmb)
  · rw [flat_append, List.length_append]
    exact row_of_block (by simpa [flat] using hown) (heap_set _ _ _ hgr.1)
  · exact h.ties.add last hn ht hs
  · have := h.len
    simp; omega
  · rintro k (hk | rfl)
    · rw [size_set]; have := h.lt k hk; omega
    · rw [size_set]; exact hlt
  · exact hg.os.trans (hA.os.trans (hm3.grown.os.trans hb.os))
  · exact hg.tape.trans (hA.tape.trans (hm3.grown.tape.trans hb.tape))
  · exact hg.output.trans (hA.output.trans (hm3.grown.output.trans hb.output))
  · rw [size_set]; omega
  · intro k hk hS
    have k1 : k ≠ pb := fun e => hS (e ▸ h.s1)
    have k2 : k ≠ mb := fun e => hS (e ▸ h.s2)
    have k3 : k ≠ g := fun e => hS (e ▸ h.s3)
    rw [heap_set _ _ _ k1]
    exact hX k hk k2 k3
  · rintro k (hk | rfl)
    · exact .inl hk
    · rcases hat with e | e
      · exact .inl (e ▸ h.s3)
      · right; omega

theorem int_elem (n : Nat) (h : n ≤ 1000000) : plainElem (H := Unit) Try.prog 3 (.int .i64 (n : Int)) = some (pi n, []) := plainElem_int Try.underlying3 (by simp [Lit.wf, IntKind.min, IntKind.max, IntKind.signed, IntKind.bits]; omega)

set_option maxRecDepth 100000 in
theorem add {w : World} {S : Nat → Prop} {N pb mb g cap : Nat} {D : DataW Unit} {rs : List Row} (last : Row) (h : Rows w S N pb mb g cap D rs) (hn : has D (kl last.key) = false) (ht : last.there = true) (hs : last.key.size ≤ 1000000) (hN : N < 1000000) :
    Calls Try.prog 38 #[.pointer (some ⟨pb, 0, none⟩), .agg ⟨last.cells⟩] w
      fun e w' => e = .returned (.int .i64 rs.length) ∧ ∃ S' g' cap', Rows w' S' (N + 1) pb mb g' cap' (D.put (kl last.key) (pi rs.length)) (rs ++ [last]) ∧ Turn S w w' ∧ (∀ k, S' k → S k ∨ w.heap.size ≤ k) := by
  obtain ⟨i, z, hi, hz, hsz, hby, hzs⟩ := row_info
  have hpl := h.lt _ h.s1
  have c0 := h.p0
  have c1 := h.p1
  have c2 := h.f1
  have hlen := h.len
  have ⟨n1, n2, n3⟩ : pb ≠ mb ∧ pb ≠ g ∧ mb ≠ g := ⟨h.ne1, h.ne2, h.ne3⟩
  have hml := h.lt _ h.s2
  have hgl := h.lt _ h.s3
  have HH := Lib.hid h
  have HZ := Lib.hid (⟨hi, hz, hsz, hby, hzs⟩ : _ ∧ _ ∧ _ ∧ _ ∧ _)
  clear h hi hz hsz hby hzs
  unfold Row.cells
  go_enter Try.func38, Try.ntmps38
  go_wp2_with fail
  refine wp_region_tail 7 (by kernel_rfl) (by kernel_rfl) ?_
  intro w2 hb2 hh2
  have a0 : w2.cell? ⟨pb, 0, none⟩ = some (.map (some mb)) := (cell_heap hh2 _).trans ((((Below.refl _ w).alloc (Nat.le_refl _) _).cell (p := ⟨pb, 0, none⟩) hpl).trans c0)
  have b0 : w2.cell? ⟨w.heap.size, 0, none⟩ = some (.string last.key) := (cell_heap hh2 _).trans (by rw [World.cell?_alloc_at _ _ _ _ rfl]; rfl)
  simp only [List.take_succ_cons, List.take_zero, List.drop_succ_cons, List.drop_zero]
  repeat still_step
  refine wpList_mapUpdate_in _ rfl _ _ _ 70 rfl 9 3 keyed Try.underlying70 (plainElem Try.prog 3) mb N D rfl ((HH.out.below (((Below.refl _ w).alloc (Nat.le_refl _) _).trans (hb2.mono (two_size (Nat.le_refl _))))).map) (by unfold maxLen; omega) (.string last.key) (.int .i64 rs.length) (kl last.key) rfl rfl (key_of hs) (pi rs.length) [] (int_elem _ (by omega)) ?_
  intro w3 hown3 hturn3
  have hg3 := hturn3.grown
  have hs2 : w.heap.size + 1 = w2.heap.size := by rw [hh2]; exact (alloc_size _ _).symm
  have f3 : ∀ k, k < w.heap.size + 1 → k ≠ mb → ∀ j, w3.cell? ⟨k, j, none⟩ = w2.cell? ⟨k, j, none⟩ := fun k hk hne j => World.cell?_of_block (a := ⟨k, j, none⟩) (hg3.block k (by omega) (by simpa using hne))
  have a1 : w3.cell? ⟨pb, 1, none⟩ = some (.slice (some ⟨g, 0, none⟩) rs.length cap) := (f3 pb (by omega) n1 1).trans ((cell_heap hh2 _).trans ((((Below.refl _ w).alloc (Nat.le_refl _) _).cell (p := ⟨pb, 1, none⟩) hpl).trans c1))
  have a2 : w3.frozen? ⟨pb, 1, none⟩ = false := (World.frozen?_of_block (a := ⟨pb, 1, none⟩) (hg3.block pb (by omega) (by simpa using n1))).trans ((frozen_heap hh2 _).trans ((((Below.refl _ w).alloc (Nat.le_refl _) _).frozen (p := ⟨pb, 1, none⟩) hpl).trans c2))
  have d0 : w3.cell? ⟨w.heap.size, 0, none⟩ = some (.string last.key) := (f3 _ (by omega) (by omega) 0).trans b0
  have d1 : w3.cell? ⟨w.heap.size, 1, none⟩ = some (.int .u8 last.cell.kind) := (f3 _ (by omega) (by omega) 1).trans ((cell_heap hh2 _).trans (by rw [World.cell?_alloc_at _ _ _ _ rfl]; rfl))
  have d2 : w3.cell? ⟨w.heap.size, 2, none⟩ = some (.int .u64 last.cell.n) := (f3 _ (by omega) (by omega) 2).trans ((cell_heap hh2 _).trans (by rw [World.cell?_alloc_at _ _ _ _ rfl]; rfl))
  have d3 : w3.cell? ⟨w.heap.size, 3, none⟩ = some (.string last.cell.s) := (f3 _ (by omega) (by omega) 3).trans ((cell_heap hh2 _).trans (by rw [World.cell?_alloc_at _ _ _ _ rfl]; rfl))
  have d4 : w3.cell? ⟨w.heap.size, 4, none⟩ = some (.bool true) := (f3 _ (by omega) (by omega) 4).trans ((cell_heap hh2 _).trans (by rw [World.cell?_alloc_at _ _ _ _ rfl]; rfl))
  have hrow3 : w3.ownsRow 0 67 5 (.slice (some ⟨g, 0, none⟩) rs.length cap) rs.length (flat rs) := row_of_block HH.out.row ((hg3.block g (by omega) (by simpa using fun e => n3 e.symm)).trans (by rw [hh2]; exact alloc_old _ _ hgl))
  have hw02 : Below w.heap.size w w2 := ((Below.refl _ w).alloc (Nat.le_refl _) _).trans (hb2.mono (two_size (Nat.le_refl _)))
  have hpl3 : pb < w3.heap.size := cell_lt a1
  have H3 := Lib.hid (⟨hown3, hturn3, hrow3, hw02⟩ : _ ∧ _ ∧ _ ∧ _)
  clear hown3 hturn3 hrow3 hw02 hg3 f3 hb2 hh2 a0 b0 hs2 c0 c1 c2
  go_wp2_with fail
  go_region_law (refine step_append_lies _ rfl (.tmp 22) (.tmp 24) 71 rfl 0 67 i z 5 56 Try.underlying71 HZ.out.1 HZ.out.2.1 HZ.out.2.2.1 HZ.out.2.2.2.1 HZ.out.2.2.2.2 (by decide) (.slice (some ⟨g, 0, none⟩) rs.length cap) rs.length (flat rs) (by simp [Act.eval]) ((H3.out.2.2.1.drew).alloc _) ⟨w3.heap.size, 0, none⟩ 1 1 [.string last.key, .int .u8 last.cell.kind, .int .u64 last.cell.n, .string last.cell.s, .bool true] (by simp [Act.eval]) rfl (World.news_of_block (alloc_new w3.drew _)) (ht ▸ last.one) (by decide) (by unfold maxLen; omega) (by omega) (Nat.zero_le _) _ rfl ?_; intro g' cap' w' hown hgrow hat hlt; have q1 : w'.cell? ⟨pb, 1, none⟩ = some (.slice (some ⟨g, 0, none⟩) rs.length cap) := (hgrow.cell_far ⟨pb, 1, none⟩ (two_size (cell_lt a1)) (by simpa [Value.ownBlock] using n2)).trans ((((Below.refl _ w3).drew.alloc (Nat.le_refl _) _).cell (p := ⟨pb, 1, none⟩) (cell_lt a1)).trans a1); have q2 : w'.frozen? ⟨pb, 1, none⟩ = false := (hgrow.frozen_far ⟨pb, 1, none⟩ (two_size (cell_lt a1)) (by simpa [Value.ownBlock] using n2)).trans ((((Below.refl _ w3).drew.alloc (Nat.le_refl _) _).frozen (p := ⟨pb, 1, none⟩) (cell_lt a1)).trans a2); have HO := Lib.hid (⟨hown, hgrow, hat, hlt⟩ : _ ∧ _ ∧ _ ∧ _); clear hown hgrow hat hlt)
  all_goals go_wp2_with fail
  all_goals go_ret
  all_goals
    have ho : [Value.string last.key, .int .u8 last.cell.kind, .int .u64 last.cell.n, .string last.cell.s, .bool true] = last.cells := by unfold Row.cells; rw [ht]
    have HO1 := HO.out
    rw [ho] at HO1
    obtain ⟨r1, r2, r3⟩ := add_end HH.out hn ht hs H3.out.2.2.2 H3.out.1 H3.out.2.1 ((Below.refl _ w3).alloc (Nat.le_refl _) _).drew HO1.2.1 HO1.1 (HO1.2.2.1.imp (fun e => by simpa [Value.ownBlock] using e) id) HO1.2.2.2
    exact ⟨rfl, _, _, _, r1, r2, r3⟩
end Go.Proofs.Ytlagnklmfanmoaa.Ar
