/-
  Package world: where a stream stands (place), IsOpen.
-/
import Derived.Test.YtahblmcjocepeaaDoorWoE
namespace Go.Proofs.YtahblmcjocepeaaDoor.Wo
open Go.RowKit Go.Maps

theorem toList_ne {x y : ByteArray} (h : x ≠ y) : (x.toList == y.toList) = false := by
  rw [beq_eq_false_iff_ne, Lib.toList_data, Lib.toList_data]
  exact fun e => h (ByteArray.ext (Array.toList_inj.1 e))
theorem alloc_size (w : World) (o : Obj) : (w.alloc o).heap.size = w.heap.size + 1 := by
  show (w.heap.push o).size = _
  simp
theorem alloc_new (w : World) (o : Obj) : (w.alloc o).heap[w.heap.size]? = some o := heap_alloc_new w o
theorem alloc_old (w : World) (o : Obj) {k : Nat} (h : k < w.heap.size) : (w.alloc o).heap[k]? = w.heap[k]? := by
  show (w.heap.push o)[k]? = _
  rw [Array.getElem?_push_lt h, Array.getElem?_eq_getElem h]

theorem flatS_length : ∀ (l : List Strm) (ps : List Value), ps.length = l.length → (flatS l ps).length = l.length * 3
  | [], [], _ => rfl
  | s :: r, p :: q, h => by
    rw [flatS, List.length_append, flatS_length r q (by simpa using h)]
    simp only [Strm.cells, List.length_cons, List.length_nil]
    omega
  | [], _ :: _, h => by simp at h
  | _ :: _, [], h => by simp at h
theorem flatS_get : ∀ (l : List Strm) (ps : List Value) (i : Nat) (s : Strm) (p : Value), l[i]? = some s → ps[i]? = some p → ∀ j, j < 3 → (flatS l ps)[i * 3 + j]? = (s.cells p)[j]?
  | x :: l, y :: ps, 0, s, p, h, h2, j, hj => by
    simp at h h2; subst h h2
    have : j < (x.cells y).length := hj
    simp only [flatS, Nat.zero_mul, Nat.zero_add]
    rw [List.getElem?_append_left this]
  | x :: l, y :: ps, i + 1, s, p, h, h2, j, hj => by
    have ih := flatS_get l ps i s p (by simpa using h) (by simpa using h2) j hj
    have e : (i + 1) * 3 + j = (x.cells y).length + (i * 3 + j) := by show _ = 3 + _; omega
    simp only [flatS, e]
    rw [List.getElem?_append_right (Nat.le_add_right _ _), Nat.add_sub_cancel_left]
    exact ih
theorem Streams.at {w : World} {B n c : Nat} {T : Tags} {oa : Option Addr} {ps : List Value} {l : List Strm} (h : Streams w B T (.slice oa n c) ps l) {i : Nat} {s : Strm} (hi : l[i]? = some s) :
    ∃ g p, oa = some ⟨g, 0, none⟩ ∧ ps[i]? = some p ∧ SrcAt w B T s p ∧ w.cell? ⟨g, i * 3, none⟩ = some (.int .u8 s.kind) ∧ w.cell? ⟨g, i * 3 + 1, none⟩ = some (.string s.name) ∧ w.cell? ⟨g, i * 3 + 2, none⟩ = some p := by
  have hlt := (List.getElem?_eq_some_iff.1 hi).1
  obtain ⟨p, hp⟩ : ∃ p, ps[i]? = some p := ⟨_, List.getElem?_eq_getElem (by rw [h.len]; exact hlt)⟩
  have h2 := h.row
  rcases h.row.2 with ⟨h1, h0⟩ | ⟨g, oc, cur, h1, _⟩
  · omega
  · simp only [Value.slice.injEq] at h1
    obtain ⟨rfl, rfl, rfl⟩ := h1
    have hc : ∀ j, j < 3 → w.cell? ⟨g, i * 3 + j, none⟩ = (s.cells p)[j]? := fun j hj => by
      rw [h2.cellAt (i * 3 + j) (by omega), flatS_get l ps i s p hi hp j hj]
    exact ⟨g, p, rfl, hp, h.each i s p hi hp, hc 0 (by omega), hc 1 (by omega), hc 2 (by omega)⟩
theorem Streams.below {w w' : World} {B : Nat} {T : Tags} {vs : Value} {ps : List Value} {l : List Strm} (h : Streams w B T vs ps l) (hb : Below w.heap.size w w') : Streams w' B T vs ps l where
  len := h.len
  row := row_of_block h.row fun k hk => hb.block k (h.row.lt k hk).2
  tag := h.tag
  each := fun i s p h1 h2 => by
    have q := h.each i s p h1 h2
    unfold SrcAt at q ⊢
    cases hs : s.src with
    | none => rw [hs] at q; exact q
    | stdin => rw [hs] at q; exact q
    | own t =>
      rw [hs] at q
      obtain ⟨b, q1, q2, q3⟩ := q
      exact ⟨b, q1, (hb.block b (Array.getElem?_eq_some_iff.1 q2).1).trans q2, q3⟩
  kinds := h.kinds
  uniq := h.uniq

set_option maxRecDepth 100000 in
theorem place1 {w : World} {kb nb : Nat} {k : Int} {n : ByteArray} (s : Strm) (p : Value) (hk : w.cell? ⟨kb, 0, none⟩ = some (.int .u8 k)) (hn : w.cell? ⟨nb, 0, none⟩ = some (.string n)) :
    Calls Tryd.prog 69 #[.agg #[.int .u8 s.kind, .string s.name, p], ptr kb, ptr nb] w fun e w' => e = .returned (.bool (isIt k n s)) ∧ Below w.heap.size w w' := by
  have hb : Below w.heap.size w (w.alloc (.cells #[.int .u8 s.kind, .string s.name, p] 115)) := (Below.refl _ w).alloc (Nat.le_refl _) _
  have hk' := (hb.cell (p := ⟨kb, 0, none⟩) (World.block_lt_of_cell? w _ hk)).trans hk
  have hn' := (hb.cell (p := ⟨nb, 0, none⟩) (World.block_lt_of_cell? w _ hn)).trans hn
  have HB := Lib.hid hb
  clear hb hk hn
  by_cases h1 : s.kind = k
  · have hx0 : (s.kind == k) = true := by rw [h1]; simp
    by_cases h2 : s.name = n
    · have hx : (s.name.toList == n.toList) = true := by rw [h2]; simp
      have HI := Lib.hid (isIt_iff.2 ⟨h1, h2⟩)
      clear h2 h1
      go_enter Tryd.func69, Tryd.ntmps69
      go_wp2_with fail
      go_ret
      exact ⟨by rw [HI.out]; rfl, HB.out⟩
    · have hx : (s.name.toList == n.toList) = false := toList_ne h2
      have HI := Lib.hid (show isIt k n s = false from by rw [Bool.eq_false_iff]; exact fun h => h2 (isIt_iff.1 h).2)
      clear h2 h1
      go_enter Tryd.func69, Tryd.ntmps69
      go_wp2_with fail
      go_ret
      exact ⟨by rw [HI.out]; rfl, HB.out⟩
  · have hx0 : (s.kind == k) = false := beq_eq_false_iff_ne.2 h1
    have HI := Lib.hid (show isIt k n s = false from by rw [Bool.eq_false_iff]; exact fun h => h1 (isIt_iff.1 h).1)
    clear h1
    go_enter Tryd.func69, Tryd.ntmps69
    go_wp2_with fail
    go_ret
    exact ⟨by rw [HI.out]; rfl, HB.out⟩

set_option maxRecDepth 100000 in
theorem indexFunc {w : World} {B kb nb n0 c : Nat} {T : Tags} {oa : Option Addr} {ps : List Value} {l : List Strm} {k : Int} {n : ByteArray} (h : Streams w B T (.slice oa n0 c) ps l) (hn0 : n0 = l.length) (hl : l.length ≤ 1000000) (hk : w.cell? ⟨kb, 0, none⟩ = some (.int .u8 k)) (hn : w.cell? ⟨nb, 0, none⟩ = some (.string n)) :
    Calls Tryd.prog 68 #[.slice oa n0 c, .func (Fn.func 69) #[] #[ptr kb, ptr nb]] w fun e w' => e = .returned (.int .i64 (placeL k n l)) ∧ Below w.heap.size w w' := by
  subst hn0
  have HH := Lib.hid h
  have HK := Lib.hid (⟨hk, hn⟩ : _ ∧ _)
  clear h hk hn
  go_enter Tryd.func68, Tryd.ntmps68
  go_wp2_with fail
  go_loopg [8] l.length (fun q i wr => ∃ j, l.length - j = q ∧ j ≤ l.length ∧ i = .int .i64 (j : Int) ∧ (∀ i s, i < j → l[i]? = some s → isIt k n s = false) ∧ Below w.heap.size w wr)
  case atStart => exact ⟨0, rfl, Nat.zero_le _, rfl, fun i s hi => by omega, Below.refl _ w⟩
  case round =>
    obtain ⟨j, hq, hj, rfl, hno, hb⟩ := hrel
    have HN := Lib.hid (⟨hno, hb⟩ : _ ∧ _)
    clear hno hb
    by_cases hlt : j < l.length
    · have hlt' : (j : Int) < (l.length : Int) := by omega
      obtain ⟨s, hs⟩ : ∃ s, l[j]? = some s := ⟨_, List.getElem?_eq_getElem hlt⟩
      obtain ⟨g, p, rfl, _, _, c0, c1, c2⟩ := (HH.out.below HN.out.2).at hs
      have HS := Lib.hid hs
      clear hs
      by_cases hit : isIt k n s = true
      · have HT := Lib.hid hit
        clear hit
        go_wp2_with (go_at_call 69; refine (place1 (k := k) (n := n) s p ((HN.out.2.cell (World.block_lt_of_cell? w _ HK.out.1)).trans HK.out.1) ((HN.out.2.cell (World.block_lt_of_cell? w _ HK.out.2)).trans HK.out.2)).mono ?_; rintro e w3 ⟨rfl, hb3⟩; rw [HT.out]; have H3 := Lib.hid (HN.out.2.trans (hb3.mono HN.out.2.size)); clear hb3)
        go_ret
        exact ⟨by rw [(placeL_not k n j l HN.out.1).2 s HS.out HT.out]; rfl, H3.out⟩
      · have HT := Lib.hid (show isIt k n s = false by simpa using hit)
        clear hit
        go_wp2_with (go_at_call 69; refine (place1 (k := k) (n := n) s p ((HN.out.2.cell (World.block_lt_of_cell? w _ HK.out.1)).trans HK.out.1) ((HN.out.2.cell (World.block_lt_of_cell? w _ HK.out.2)).trans HK.out.2)).mono ?_; rintro e w3 ⟨rfl, hb3⟩; rw [HT.out]; have H3 := Lib.hid (HN.out.2.trans (hb3.mono HN.out.2.size)); clear hb3)
        go_roundg (l.length - (j + 1))
        case measure => omega
        case rel =>
          refine ⟨j + 1, rfl, hlt, by go_num, fun i t hi ht => ?_, H3.out⟩
          by_cases e : i = j
          · subst e
            have := HS.out
            rw [ht] at this
            cases this
            exact HT.out
          · exact HN.out.1 i t (by omega) ht
    · obtain rfl : j = l.length := by omega
      have hge : ¬ (l.length : Int) < (l.length : Int) := by omega
      go_wp2_with fail
      go_ret
      exact ⟨by rw [(placeL_not k n l.length l HN.out.1).1 rfl]; rfl, HN.out.2⟩

theorem place {w : World} {B fm rm xm : Nat} {D : DataW Unit} {vs vt : Value} {ps : List Value} {T : Tags} {st : St} (h : WdAt w B fm rm xm D vs vt ps T st) (k : Int) (n : ByteArray) (hl : st.streams.length ≤ 1000000) :
    Calls Tryd.prog 41 #[ptr B, .int .u8 k, .string n] w fun e w' => e = .returned (.int .i64 (placeL k n st.streams)) ∧ Below w.heap.size w w' := by
  have hC := h.cells
  obtain ⟨oa, c, rfl, hoa⟩ := slice_of h.streams.row
  have hb2 : Below w.heap.size w ((w.alloc (.cells #[.int .u8 k] 41)).alloc (.cells #[.string n] 9)) := ((Below.refl _ w).alloc (Nat.le_refl _) _).alloc (by simp) _
  have c8 := (hC.below hb2).c8
  have h2 := h.streams.below hb2
  have hq1 : ((w.alloc (.cells #[.int .u8 k] 41)).alloc (.cells #[.string n] 9)).cell? ⟨w.heap.size, 0, none⟩ = some (.int .u8 k) := by
    have e2 := (alloc_old (w.alloc (.cells #[.int .u8 k] 41)) (.cells #[.string n] 9) (k := w.heap.size) (by rw [alloc_size]; omega)).trans (alloc_new w _)
    unfold World.cell?
    rw [e2]
    rfl
  have hq2 : ((w.alloc (.cells #[.int .u8 k] 41)).alloc (.cells #[.string n] 9)).cell? ⟨w.heap.size + 1, 0, none⟩ = some (.string n) := by
    have e1 := alloc_new (w.alloc (.cells #[.int .u8 k] 41)) (.cells #[.string n] 9)
    rw [alloc_size] at e1
    unfold World.cell?
    rw [e1]
    rfl
  have HH := Lib.hid (⟨h, hoa, hb2, h2, hq1, hq2⟩ : _ ∧ _ ∧ _ ∧ _ ∧ _ ∧ _)
  clear h hoa hb2 hC h2 hq1 hq2
  go_enter Tryd.func41, Tryd.ntmps41
  go_wp2_with (go_at_call 68; obtain ⟨q1, q2, q3, q4, q5, q6⟩ := HH.out; refine (indexFunc q4 rfl hl q5 q6).mono ?_; rintro e w3 ⟨rfl, hb3⟩; have H3 := Lib.hid (q3.trans (hb3.mono q3.size)); clear q1 q2 q3 q4 q5 q6 hb3)
  go_ret
  exact ⟨rfl, H3.out⟩

def openB (k : Int) (n : ByteArray) (l : List Strm) : Bool := decide (k = 6) || decide (0 ≤ placeL k n l)
end Go.Proofs.YtahblmcjocepeaaDoor.Wo
