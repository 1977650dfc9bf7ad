/-
  Package arrays: the row of a key (row).
-/
import Derived.Test.YtlagnklmfanmoaaArC
import Derived.Test.YtlagnklmfanmoaaShelf
namespace Go.Proofs.Ytlagnklmfanmoaa.Ar
open Go.RowKit Go.Maps

theorem clone (s : ByteArray) (w : World) (hs : s.size ≤ 1000000) :
    Calls Try.prog 34 #[.string s] w fun e w' => e = .returned (.string s) ∧ Below w.heap.size w w' := by
  go_enter Try.func34, Try.ntmps34
  go_wp2_with (go_at_call 39; refine (Try.stringslite_Clone s _ (by omega)).mono ?_; rintro e w2 ⟨rfl, hw2⟩; have HW := Lib.hid hw2; clear hw2)
  go_ret
  exact ⟨rfl, HW.out⟩

theorem zero_int (w : World) : (zeroValue 3).run Try.prog w = .ok (.int .i64 0) w := by kernel_rfl

theorem Once.get {rs : List Row} {i : Nat} {r : Row} (ho : Once rs) (hi : rs[i]? = some r) (hr : r.there = true) : r.cell = cellL (live rs) r.key := by
  rw [cellL, live_get rs i r ho hi hr]; rfl
theorem get_none {l : List KV} {s : ByteArray} (h : hasL l s = false) : getL l s = none := by
  unfold getL
  have : l.find? (fun p => decide (p.1 = s)) = none := List.find?_eq_none.2 fun p hp => by
    have := (List.any_eq_false.1 h) p hp
    simpa using this
  rw [this]; rfl

def Got (rs : List Row) (s : ByteArray) (rs' : List Row) (i : Nat) : Prop := ∃ r, rs'[i]? = some r ∧ r.there = true ∧ r.key = s ∧ live rs' = askL (live rs) s ∧ r.cell = cellL (live rs) s

set_option maxRecDepth 100000 in
theorem row {w : World} {S : Nat → Prop} {N pb mb g cap : Nat} {D : DataW Unit} {rs : List Row} (s : ByteArray) (h : Rows w S N pb mb g cap D rs) (hs : s.size ≤ 1000000) (hN : N < 1000000) :
    Calls Try.prog 32 #[.pointer (some ⟨pb, 0, none⟩), .string s] w
      fun e w' => ∃ (S' : Nat → Prop) (g' cap' : Nat) (D' : DataW Unit) (rs' : List Row) (i : Nat), e = .returned (.pointer (some ⟨g', i * 5, none⟩)) ∧ Rows w' S' (if hasL (live rs) s then N else N + 1) pb mb g' cap' D' rs' ∧ Turn S w w' ∧ (∀ k, S' k → S k ∨ w.heap.size ≤ k) ∧ Got rs s rs' i := by
  have c0 := h.p0
  have c1 := h.p1
  have hpl := h.lt _ h.s1
  have hlen := h.len
  have hiff := h.ties.has_iff s
  have HH := Lib.hid h
  cases hh : has D (kl s)
  · rw [hh] at hiff
    have ha : askL (live rs) s = live (rs ++ [⟨s, Cell.zero, true⟩]) := by rw [askL, ← hiff, live_append]; rfl
    have hc : Cell.zero = cellL (live rs) s := by rw [cellL, get_none hiff.symm]; rfl
    rw [← hiff]
    have HQ := Lib.hid (⟨ha, hc⟩ : _ ∧ _)
    clear hiff ha hc
    clear h
    go_enter Try.func32, Try.ntmps32
    go_wp2_with (first
      | (at_lookup; refine wpList_lookup_own_ok_int _ rfl _ _ 70 rfl 9 3 .i64 keyed Try.underlying70 Try.underlying3 (zero_int _) mb N D rfl HH.out.map _ _ rfl (key_of hs) ?_; intro c hat hwc; rw [hh])
      | (go_at_call 38; have HC2 := HC.out; refine (add ⟨s, Cell.zero, true⟩ (HH.out.below HC2) hh rfl hs hN).mono ?_; rintro e w3 ⟨rfl, S', g', cap', hr3, ht3, hs3⟩; have d1 := hr3.p1; have HD := Lib.hid (⟨hr3, ht3, hs3⟩ : _ ∧ _ ∧ _); clear hr3 ht3 hs3)
      | (go_at_call 34; refine (clone s _ hs).mono ?_; rintro e w2 ⟨rfl, hw2⟩; have HC := Lib.hid hw2; clear hw2))
    go_ret
    exact ⟨S', g', cap', _, _, rs.length, rfl, HD.out.1, (Turn.of_below HC.out).trans HD.out.2.1 (fun i hi => .inl hi), fun k hk => (HD.out.2.2 k hk).imp id (fun h => Nat.le_trans HC.out.size h), ⟨s, Cell.zero, true⟩, by simp, rfl, rfl, HQ.out.1.symm, HQ.out.2⟩
  · obtain ⟨i, r, hi, hr, rfl⟩ := h.ties.only s hh
    have hat0 := (h.ties.at_ i r hi hr).2
    have ho := h.ties.once
    obtain ⟨hlt, _⟩ := List.getElem?_eq_some_iff.mp hi
    rw [hh] at hiff
    have ha : live rs = askL (live rs) r.key := by rw [askL, ← hiff]; rfl
    have hc := ho.get hi hr
    rw [← hiff]
    have HQ := Lib.hid (⟨ha, hc, hi, hr⟩ : _ ∧ _ ∧ _ ∧ _)
    clear hiff ha hc hi hr ho
    clear h
    go_enter Try.func32, Try.ntmps32
    go_wp2_with (first
      | (at_lookup; refine wpList_lookup_own_ok_int _ rfl _ _ 70 rfl 9 3 .i64 keyed Try.underlying70 Try.underlying3 (zero_int _) mb N D rfl HH.out.map _ _ rfl (key_of hs) ?_; intro c hat hwc; rw [hh]; (have hci : c = (i : Int) := by (rw [hat0] at hat; simp only [pi, DataW.lit.injEq, Lit.int.injEq, true_and] at hat; exact hat.symm)); subst hci; clear hat hwc hat0))
    go_ret
    exact ⟨S, g, cap, D, rs, i, rfl, HH.out, Turn.refl _ _, fun k hk => .inl hk, r, HQ.out.2.2.1, HQ.out.2.2.2, rfl, HQ.out.1, HQ.out.2.1⟩
end Go.Proofs.Ytlagnklmfanmoaa.Ar
