/-
  Package arrays: rows packed (packed).
-/
import Derived.Test.YtlagnklmfanmoaaArD
namespace Go.Proofs.Ytlagnklmfanmoaa.Ar
open Go.RowKit Go.Maps

theorem live_length (rs : List Row) : (live rs).length ≤ rs.length := by
  unfold live; rw [List.length_map]; exact List.length_filter_le _ _
theorem Once.notyet {rs : List Row} (ho : Once rs) {j : Nat} {r : Row} (hj : rs[j]? = some r) (hr : r.there = true) : hasL (live (rs.take j)) r.key = false := by
  cases h : hasL (live (rs.take j)) r.key
  · rfl
  · obtain ⟨p, hp, he⟩ := mem_hasL.1 h
    obtain ⟨q, hq, ht, rfl⟩ := mem_live.1 hp
    obtain ⟨i, hi⟩ := List.getElem?_of_mem hq
    rw [List.getElem?_take] at hi
    split at hi
    · have := ho i j q r hi ht hj hr he
      omega
    · cases hi
theorem filter_take_succ {rs : List Row} {j : Nat} {r : Row} (hj : rs[j]? = some r) : (rs.take (j + 1)).filter (·.there) = (rs.take j).filter (·.there) ++ if r.there then [r] else [] := by
  rw [List.take_add_one, hj, List.filter_append]
  cases h : r.there <;> simp [h]
theorem Rows.cells {w : World} {S : Nat → Prop} {N pb mb g cap : Nat} {D : DataW Unit} {rs : List Row} (h : Rows w S N pb mb g cap D rs) {j : Nat} {r : Row} (hj : rs[j]? = some r) (i : Nat) (v : Value) (hv : r.cells[i]? = some v) : w.cell? ⟨g, j * 5 + i, none⟩ = some v := by
  obtain ⟨hlt, _⟩ := List.getElem?_eq_some_iff.mp hj
  obtain ⟨h5, _⟩ := List.getElem?_eq_some_iff.mp hv
  rw [Row.five] at h5
  rw [h.row.cellAt _ (by omega), flat_get rs j r hj i h5]
  exact hv

def IsRows (w : World) (S : Nat → Prop) (N pb : Nat) (rs : List Row) : Prop := ∃ (mb g cap : Nat) (D : DataW Unit), Rows w S N pb mb g cap D rs

set_option maxRecDepth 100000 in
theorem packed {w : World} {S : Nat → Prop} {N pb mb g cap : Nat} {D : DataW Unit} {rs : List Row} (h : Rows w S N pb mb g cap D rs) (hN : N ≤ 1000000) :
    Calls Try.prog 35 #[.pointer (some ⟨pb, 0, none⟩)] w
      fun e w' => ∃ (S' : Nat → Prop) (pb' : Nat), e = .returned (.pointer (some ⟨pb', 0, none⟩)) ∧ IsRows w' S' N pb' (rs.filter (·.there)) ∧ Below w.heap.size w w' ∧ (∀ k, S' k → w.heap.size ≤ k) := by
  have c0 := h.p0
  have hpl := h.lt _ h.s1
  have hlen := h.len
  have hsz : Maps.size D ≤ 1000000 := by rw [h.ties.size]; have := live_length rs; omega
  have HH := Lib.hid h
  clear h
  go_enter Try.func35, Try.ntmps35
  go_wp2_with (first
    | (at_len; refine wpList_len_own _ rfl _ 70 rfl 9 3 Try.underlying70 _ mb N D rfl HH.out.map ?_)
    | (go_at_call 30; refine (newRows (Maps.size D) _ hsz).mono ?_; rintro e w1 ⟨pb2, mb2, g2, cap2, rfl, hr1, hb1⟩; have d1 := (HH.out.below hb1).p1; have HA := Lib.hid (⟨hr1, hb1⟩ : _ ∧ _); clear hr1 hb1))
  go_loopw [17] (fun i wr => ∃ (j : Nat) (S2 : Nat → Prop) (g3 cap3 : Nat) (D3 : DataW Unit), j ≤ rs.length ∧ i = .int .i64 (j : Int) ∧ Rows wr S2 j pb2 mb2 g3 cap3 D3 ((rs.take j).filter (·.there)) ∧ Below w.heap.size w wr ∧ (∀ k, S2 k → w.heap.size ≤ k)) (fun i _ => rs.length - (intOf i).toNat)
  case atStart => exact ⟨0, _, _, _, _, Nat.zero_le _, rfl, HA.out.1, HA.out.2, fun k hk => hk.1⟩
  case round =>
    obtain ⟨j, S2, g3, cap3, D3, hj, rfl, hr2, hb2, hs2⟩ := hrel
    by_cases hlt : j < rs.length
    · have hlt' : (j : Int) < ((rs.length : Nat) : Int) := by omega
      obtain ⟨r, hrj⟩ : ∃ r, rs[j]? = some r := ⟨_, List.getElem?_eq_getElem hlt⟩
      have hx := HH.out.below hb2
      have f0 : wr.cell? ⟨g, j * 5, none⟩ = some (.string r.key) := hx.cells hrj 0 _ rfl
      have f1 := hx.cells hrj 1 _ rfl
      have f2 := hx.cells hrj 2 _ rfl
      have f3 := hx.cells hrj 3 _ rfl
      have f4 := hx.cells hrj 4 _ rfl
      have hsm := hx.ties.small r (List.mem_of_getElem? hrj)
      have hft := filter_take_succ hrj
      have hny := fun hr => hx.ties.once.notyet hrj hr
      have hal := hr2.below ((Below.refl _ wr).alloc (Nat.le_refl _) (.cells #[.string r.key, .int .u8 r.cell.kind, .int .u64 r.cell.n, .string r.cell.s, .bool r.there] 67))
      have H2 := Lib.hid (⟨hr2, hb2, hs2, hft, hny, hal⟩ : _ ∧ _ ∧ _ ∧ _ ∧ _ ∧ _)
      clear hr2 hb2 hs2 hft hny hx hal
      cases ht : r.there with
      | true =>
        rw [ht] at f4 H2
        have hh : has D3 (kl r.key) = false := by rw [H2.out.1.ties.has_iff, live_filter]; exact H2.out.2.2.2.2.1 rfl
        go_wp2_with (go_at_call 38; have HX := H2.out.2.2.2.2.2; refine (add ⟨r.key, r.cell, true⟩ HX hh rfl hsm (by omega)).mono ?_; rintro e w3 ⟨rfl, S', g', cap', hr3, ht3, hs3⟩; have H3 := Lib.hid (⟨hr3, ht3, hs3⟩ : _ ∧ _ ∧ _); clear hr3 ht3 hs3)
        have hr : (⟨r.key, r.cell, true⟩ : Row) = r := by rw [← ht]
        have hrow := H3.out.1
        rw [hr] at hrow
        have hft := H2.out.2.2.2.1
        rw [if_pos trivial] at hft
        have hba := (Below.refl wr.heap.size wr).alloc (Nat.le_refl _) (.cells #[.string r.key, .int .u8 r.cell.kind, .int .u64 r.cell.n, .string r.cell.s, .bool true] 67)
        have hge : ∀ k, S' k → w.heap.size ≤ k := fun k hk => by
          rcases H3.out.2.2 k hk with h1 | h1
          · exact H2.out.2.2.1 k h1
          · exact Nat.le_trans (Nat.le_trans H2.out.2.1.size hba.size) h1
        have hbel : Below w.heap.size w w3 := (H2.out.2.1.trans (hba.mono H2.out.2.1.size)).trans ⟨H3.out.2.1.os, H3.out.2.1.tape, H3.out.2.1.output, H3.out.2.1.size, fun k hk => H3.out.2.1.block k (Nat.lt_of_lt_of_le hk (Nat.le_trans H2.out.2.1.size hba.size)) fun h1 => by have := H2.out.2.2.1 k h1; omega⟩
        rw [← hft] at hrow
        exact ⟨⟨j + 1, S', g', cap', _, hlt, rfl, hrow, hbel, hge⟩, by simp only [intOf]; omega⟩
      | false =>
        rw [ht] at f4 H2
        go_wp2_with fail
        have hft := H2.out.2.2.2.1
        rw [if_neg (by simp), List.append_nil] at hft
        have hba := (Below.refl wr.heap.size wr).alloc (Nat.le_refl _) (.cells #[.string r.key, .int .u8 r.cell.kind, .int .u64 r.cell.n, .string r.cell.s, .bool false] 67)
        have hrow := H2.out.2.2.2.2.2.mono (Nat.le_succ j)
        rw [← hft] at hrow
        exact ⟨⟨j + 1, S2, g3, cap3, _, hlt, rfl, hrow, H2.out.2.1.trans (hba.mono H2.out.2.1.size), H2.out.2.2.1⟩, by simp only [intOf]; omega⟩
    · have hge : ¬ (j : Int) < ((rs.length : Nat) : Int) := by omega
      have he : rs.take j = rs := List.take_of_length_le (by omega)
      rw [he] at hr2
      have H2 := Lib.hid (⟨hr2.mono (Nat.le_trans hj hlen), hb2, hs2⟩ : _ ∧ _ ∧ _)
      clear hr2 hb2 hs2
      go_wp2_with fail
      go_ret
      exact ⟨_, _, rfl, ⟨_, _, _, _, H2.out.1⟩, H2.out.2.1, H2.out.2.2⟩
end Go.Proofs.Ytlagnklmfanmoaa.Ar
