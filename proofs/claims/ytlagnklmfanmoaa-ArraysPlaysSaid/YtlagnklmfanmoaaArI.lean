/-
  Package arrays: what the calls answer: Peek, Delete, Clear, Copy.
-/
import Derived.Test.YtlagnklmfanmoaaArH
namespace Go.Proofs.Ytlagnklmfanmoaa.Ar
open Go.RowKit Go.Maps

theorem has_get {l : List KV} {s : ByteArray} (h : hasL l s = false) : cellL l s = Cell.zero := by rw [cellL, get_none h]; rfl

set_option maxRecDepth 100000 in
theorem rowHit {w : World} {S : Nat → Prop} {N pb mb g cap : Nat} {D : DataW Unit} {rs : List Row} (s : ByteArray) (h : Rows w S N pb mb g cap D rs) (hs : s.size ≤ 1000000) (hh0 : hasL (live rs) s = true) :
    Calls Try.prog 32 #[.pointer (some ⟨pb, 0, none⟩), .string s] w
      fun e w' => ∃ (i : Nat) (r : Row), e = .returned (.pointer (some ⟨g, i * 5, none⟩)) ∧ w' = w ∧ rs[i]? = some r ∧ r.cell = cellL (live rs) s := by
  have c0 := h.p0
  have c1 := h.p1
  have hpl := h.lt _ h.s1
  have hlen := h.len
  have hiff := h.ties.has_iff s
  have HH := Lib.hid h
  have hh : has D (kl s) = true := by rw [hiff]; exact hh0
  obtain ⟨i, r, hi, hr, rfl⟩ := h.ties.only s hh
  have hat0 := (h.ties.at_ i r hi hr).2
  have ho := h.ties.once
  obtain ⟨hlt, _⟩ := List.getElem?_eq_some_iff.mp hi
  have HQ := Lib.hid (⟨hi, ho.get hi hr⟩ : _ ∧ _)
  clear hiff hi hr ho h hh0
  go_enter Try.func32, Try.ntmps32
  go_wp2_with (first
    | (at_lookup; refine wpList_lookup_own_ok_int _ rfl _ _ 70 rfl 9 3 .i64 keyed Try.underlying70 Try.underlying3 (zero_int _) mb N D rfl HH.out.map _ _ rfl (key_of hs) ?_; intro c hat hwc; rw [hh]; (have hci : c = (i : Int) := by (rw [hat0] at hat; simp only [pi, DataW.lit.injEq, Lit.int.injEq, true_and] at hat; exact hat.symm)); subst hci; clear hat hwc hat0))
  go_ret
  exact ⟨i, r, rfl, rfl, HQ.out.1, HQ.out.2⟩

set_option maxRecDepth 100000 in
theorem peek {w : World} {a N : Nat} {F : Nat → Prop} {L : List KV} (s : ByteArray) (h : Arr w a N F L) (hs : s.size ≤ 1000000) :
    Calls Try.prog 13 #[.pointer (some ⟨a, 0, none⟩), .string s] w fun e w' => e = .returned (.tuple #[.agg ⟨(cellL L s).cells⟩, .bool (hasL L s)]) ∧ Below w.heap.size w w' := by
  have hArr := Lib.hid (h.below ((Below.refl _ w).alloc (Nat.le_refl _) (.cells #[.int .u8 0, .int .u64 0, .string ⟨#[]⟩] 31)))
  obtain ⟨pb, S, rs, hA, hl⟩ := h
  obtain ⟨mb, g, cap, D, hR⟩ := hA.rows
  have c0 := hA.c0
  have c1 := hA.c1
  have al := hA.lt a hA.fa
  subst hl
  have HH := Lib.hid (⟨hA, hR, hR.below ((Below.refl _ w).alloc (Nat.le_refl _) (.cells #[.int .u8 0, .int .u64 0, .string ⟨#[]⟩] 31))⟩ : _ ∧ _ ∧ _)
  clear hA hR
  have hq0 : Below w.heap.size w (w.alloc (.cells #[.int .u8 0, .int .u64 0, .string ⟨#[]⟩] 31)) := (Below.refl _ w).alloc (Nat.le_refl _) _
  have b1 := (hq0.cell (p := ⟨a, 1, none⟩) al).trans c1
  clear hq0
  cases hh : hasL (live rs) s
  · have hz : cellL (live rs) s = Cell.zero := has_get hh
    rw [hz]
    clear hz
    go_enter Try.func13, Try.ntmps13
    go_wp2_with (first
      | (go_at_call 17; refine (hasCall s hArr.out hs).mono ?_; rintro e w' ⟨rfl, rfl⟩; rw [hh]))
    refine bodyPost_ret (v := .tuple #[.agg ⟨Cell.zero.cells⟩, .bool false]) (by simp [results, Try.results13, go_sem, Cell.cells, Cell.zero]) rfl ?_
    exact ⟨rfl, (Below.refl _ w).alloc (Nat.le_refl _) _⟩
  · go_enter Try.func13, Try.ntmps13
    go_wp2_with (first
      | (go_at_call 17; refine (hasCall s hArr.out hs).mono ?_; rintro e w' ⟨rfl, rfl⟩; rw [hh])
      | (go_at_call 32; refine (rowHit s HH.out.2.2 hs hh).mono ?_; rintro e w2 ⟨i, r, rfl, rfl, hri, hrc⟩; have hX := HH.out.2.2; have f1 := hX.cells hri 1 _ rfl; have f2 := hX.cells hri 2 _ rfl; have f3 := hX.cells hri 3 _ rfl; have HC := Lib.hid hrc; clear hri hrc hX))
    refine bodyPost_ret (v := .tuple #[.agg ⟨r.cell.cells⟩, .bool true]) (by simp [results, Try.results13, go_sem, Cell.cells]) rfl ?_
    exact ⟨by rw [HC.out], (Below.refl _ w).alloc (Nat.le_refl _) _⟩

theorem delete {w : World} {a N : Nat} {F : Nat → Prop} {L : List KV} (s : ByteArray) (h : Arr w a N F L) (hs : s.size ≤ 1000000) (hN : N ≤ 1000000) :
    Calls Try.prog 11 #[.pointer (some ⟨a, 0, none⟩), .string s] w fun e w' => e = .returned (.bool (hasL L s)) ∧ Next w w' a N F (delL L s) := by
  obtain ⟨pb, S, rs, hA, hl⟩ := h
  obtain ⟨mb, g, cap, D, hR⟩ := hA.rows
  have c0 := hA.c0
  have c1 := hA.c1
  have hiff := hR.ties.has_iff s
  subst hl
  rw [← hiff]
  have HH := Lib.hid (⟨hA, hR, hiff⟩ : _ ∧ _ ∧ _)
  cases hh : has D (kl s)
  · clear hA hR hiff
    go_enter Try.func11, Try.ntmps11
    go_wp2_with (first
      | (go_at_call 31; refine (made_at c0).mono ?_; rintro e w' ⟨rfl, hw⟩; obtain rfl := hw.symm; clear hw)
      | (go_at_call 33; refine (takeOut_none s HH.out.2.1 hs hh).mono ?_; rintro e w' ⟨rfl, rfl⟩))
    go_ret
    have hi := HH.out.2.2
    rw [hh] at hi
    rw [del_none hi.symm]
    exact ⟨rfl, F, ⟨pb, S, rs, HH.out.1, rfl⟩, Turn.refl _ _, fun k hk => .inl hk⟩
  · obtain ⟨i, r, hi, hr, rfl⟩ := hR.ties.only s hh
    have HI := Lib.hid hi
    clear hA hR hiff hi
    go_enter Try.func11, Try.ntmps11
    go_wp2_with (first
      | (go_at_call 31; refine (made_at c0).mono ?_; rintro e w' ⟨rfl, hw⟩; obtain rfl := hw.symm; clear hw)
      | (go_at_call 33; refine (takeOut_some HH.out.2.1 HI.out hr hN).mono ?_; rintro e w2 ⟨rfl, S', rs', hI, hlv, hT, hG⟩; have HT := Lib.hid (⟨hI, hlv, hT, hG⟩ : _ ∧ _ ∧ _ ∧ _); clear hI hlv hT hG))
    go_ret
    have hn := nextOf HH.out.1 HT.out.2.2.1 HT.out.1 HT.out.2.2.2
    rw [HT.out.2.1] at hn
    exact ⟨rfl, hn⟩

theorem clear {w : World} {a N : Nat} {F : Nat → Prop} {L : List KV} (h : Arr w a N F L) :
    Calls Try.prog 15 #[.pointer (some ⟨a, 0, none⟩)] w fun e w' => e = .returned (.tuple #[]) ∧ Next w w' a 0 F [] := by
  obtain ⟨pb, S, rs, hA, hl⟩ := h
  have c0 := hA.c0
  have c1 := hA.c1
  have z1 := hA.z1
  have al := hA.lt a hA.fa
  have hF := hA.lt
  have HH := Lib.hid hA
  clear hA hl
  go_enter Try.func15, Try.ntmps15
  go_wp2_with (first
    | (go_at_call 31; refine (made_at c0).mono ?_; rintro e w' ⟨rfl, hw⟩; obtain rfl := hw.symm; clear hw)
    | (go_at_call 30; refine (newRows 0 w (by omega)).mono ?_; rintro e w1 ⟨pb2, mb2, g2, cap2, rfl, hr, hb⟩; have d0 := (hb.cell (p := ⟨a, 0, none⟩) al).trans c0; have d1 := (hb.cell (p := ⟨a, 1, none⟩) al).trans c1; have d2 := (hb.frozen (p := ⟨a, 1, none⟩) al).trans z1; have HR := Lib.hid (⟨hr, hb⟩ : _ ∧ _); clear hr hb))
  go_end0
  have ht : Turn (fun k => k = a) w1 (w1.setCell ⟨a, 1, none⟩ (.pointer (some ⟨pb2, 0, none⟩))) := Turn.of_set w1 ⟨a, 1, none⟩ _
  have hI : IsRows (w1.setCell ⟨a, 1, none⟩ (.pointer (some ⟨pb2, 0, none⟩))) (span w.heap.size w1.heap.size) 0 pb2 [] := ⟨mb2, g2, cap2, _, HR.out.1.later ht.size fun k hk => heap_set _ _ _ (show k ≠ a by have := hk.1; omega)⟩
  refine ⟨rfl, fun k => F k ∨ span w.heap.size w1.heap.size k, ⟨pb2, span w.heap.size w1.heap.size, [], ⟨?_, ?_, ?_, hI, fun hk => by have := hk.1; omega, fun k hk => .inr hk, .inl HH.out.fa, ?_⟩, rfl⟩, (Turn.of_below HR.out.2).trans ht fun i hi => .inl (by rw [hi]; exact HH.out.fa), fun k hk => hk.imp id fun h => h.1⟩
  · rw [World.cell?_setCell_other _ _ _ _ (by simp)]; exact d0
  · rw [World.cell?_setCell_same' _ _ _ (by rw [d1]; rfl)]
  · rw [World.frozen?_setCell]; exact d2
  · rintro k (hk | hk)
    · rw [size_set]; exact Nat.lt_of_lt_of_le (hF k hk) HR.out.2.size
    · rw [size_set]; exact hk.2

theorem copy {w : World} {a N : Nat} {F : Nat → Prop} {L : List KV} (h : Arr w a N F L) (hN : N ≤ 1000000) :
    Calls Try.prog 14 #[.pointer (some ⟨a, 0, none⟩)] w fun e w' => ∃ b, e = .returned (.pointer (some ⟨b, 0, none⟩)) ∧ Arr w' b N (span w.heap.size w'.heap.size) L ∧ Below w.heap.size w w' := by
  obtain ⟨pb, S, rs, hA, hl⟩ := h
  obtain ⟨mb, g, cap, D, hR⟩ := hA.rows
  have c0 := hA.c0
  have c1 := hA.c1
  have HH := Lib.hid (⟨hR, hl⟩ : _ ∧ _)
  clear hA hR hl
  go_enter Try.func14, Try.ntmps14
  go_wp2_with (first
    | (go_at_call 29; have HX := H1.out.1; refine (holding HX).mono ?_; rintro e w2 ⟨rfl, hA, hb⟩; have H2 := Lib.hid (⟨hA, hb⟩ : _ ∧ _); clear hA hb)
    | (go_at_call 35; refine (packed HH.out.1 hN).mono ?_; rintro e w1 ⟨S1, pb1, rfl, hI, hb, hs⟩; have H1 := Lib.hid (⟨hI, hb, hs⟩ : _ ∧ _ ∧ _); clear hI hb hs)
    | (go_at_call 31; refine (made_at c0).mono ?_; rintro e w' ⟨rfl, hw⟩; obtain rfl := hw.symm; clear hw))
  go_ret
  refine ⟨w1.heap.size, rfl, ⟨pb1, S1, _, { H2.out.1 with sub := fun k hk => ?_, fa := ?_, lt := fun k hk => hk.2 }, (live_filter _).trans HH.out.2⟩, H1.out.2.1.trans (H2.out.2.mono H1.out.2.1.size)⟩
  · exact ⟨H1.out.2.2 k hk, Nat.lt_of_lt_of_le (H1.out.1.lt k hk) H2.out.2.size⟩
  · exact ⟨H1.out.2.1.size, H2.out.1.lt _ (.inr rfl)⟩
end Go.Proofs.Ytlagnklmfanmoaa.Ar
