/-
  The document's arrays: Get, Delete.
-/
import Derived.Test.YtlagnklmfanmoaaArX
namespace Go.Proofs.Ytlagnklmfanmoaa.Ar
open Go.RowKit Go.Maps

theorem ask_has {L : List KV} {s : ByteArray} (h : hasL L s = true) : askL L s = L := by rw [askL, if_pos h]
theorem ask_new {L : List KV} {s : ByteArray} (h : hasL L s = false) : askL L s = setL L s Cell.zero := by
  rw [askL, set_new _ h, h]; rfl
theorem del_length (s : ByteArray) : ∀ L : List KV, decide ((delL L s).length < L.length) = hasL L s
  | [] => rfl
  | x :: l => by
    have ih := del_length s l
    have hle : (delL l s).length ≤ l.length := List.length_filter_le _ _
    by_cases e : x.1 = s
    · have h1 : delL (x :: l) s = delL l s := by simp [delL, e]
      have h2 : hasL (x :: l) s = true := mem_hasL.2 ⟨x, by simp, e⟩
      rw [h1, h2, decide_eq_true_iff, List.length_cons]
      omega
    · have h1 : delL (x :: l) s = x :: delL l s := by simp [delL, e]
      have h2 : hasL (x :: l) s = hasL l s := by simp [hasL, e]
      rw [h1, h2, ← ih, List.length_cons, List.length_cons, decide_eq_decide]
      omega
theorem del_take {L : List KV} {m : Nat} {p : KV} (s : ByteArray) (h : L[m]? = some p) : delL (L.take (m + 1)) s = delL (L.take m) s ++ if p.1 = s then [] else [p] := by
  unfold delL
  rw [List.take_add_one, h, List.filter_append]
  by_cases e : p.1 = s <;> simp [e]

set_option maxRecDepth 100000 in
theorem refGet {B : Nat} {w : World} {v : Value} {L : List KV} (s : ByteArray) (h : Items B w v L) (hu : (keysL L).Nodup) (hz : L.length ≤ 100000) :
    Calls Try.prog 22 #[v, .string s] w fun e w' => ∃ v', e = .returned (.tuple #[v', .agg ⟨(cellL L s).cells⟩]) ∧ ((v' = v ∧ hasL L s = true) ∨ Items w.heap.size w' v' (askL L s)) ∧ Below w.heap.size w w' := by
  obtain ⟨oa, ca, rfl, _⟩ := h.shape
  have hb1 : Below w.heap.size w (w.alloc (.cells #[.int .u8 0, .int .u64 0, .string ⟨#[]⟩] 31)) := (Below.refl _ w).alloc (Nat.le_refl _) _
  have hn1 := alloc_new w (.cells #[.int .u8 0, .int .u64 0, .string ⟨#[]⟩] 31)
  have hsz1 := alloc_size w (.cells #[.int .u8 0, .int .u64 0, .string ⟨#[]⟩] 31)
  have H := Lib.hid (⟨h.below hb1, hb1, hn1, hsz1⟩ : _ ∧ _ ∧ _ ∧ _)
  clear h hb1 hn1 hsz1
  go_enter Try.func22, Try.ntmps22
  go_upto_region 1 with fail
  generalize w.alloc (.cells #[.int .u8 0, .int .u64 0, .string ⟨#[]⟩] 31) = w1 at *
  go_upto_region 2 with (go_at_call 37; refine (find s H.out.1 (by omega)).mono ?_; rintro e w' ⟨o, rfl, hf, hw⟩; obtain rfl := hw.symm; clear hw; have HF := Lib.hid hf; clear hf)
  rcases o with _ | i
  · simp only [idx]
    have HC := Lib.hid (show cellL L s = Cell.zero from has_get HF.out)
    go_upto_region 3 with fail
    have hset := refSet s Cell.zero H.out.1 hu hz
    unfold Cell.zero Cell.cells at hset
    have HS := Lib.hid hset
    clear hset
    have hl1 : w.heap.size < w1.heap.size := by rw [H.out.2.2.2]; exact Nat.lt_succ_self _
    go_wp2_with (go_at_call 21; refine HS.out.mono ?_; rintro e w2 ⟨v2, rfl, hI, hb2⟩; have o0 := (hb2.block w.heap.size hl1).trans H.out.2.2.1; obtain ⟨z0, z1, z2, y0, y1, y2⟩ := own3 (c := Cell.zero) o0; have H2 := Lib.hid (⟨hI, hb2, o0⟩ : _ ∧ _ ∧ _); clear hI hb2 o0)
    obtain ⟨q0, q1, q2, _, _, _⟩ := put3_own (c := Cell.zero) (own3 (c := Cell.zero) H2.out.2.2)
    have hT := put3_turn w2 w.heap.size Cell.zero
    have hItems : Items w.heap.size (put3 w2 w.heap.size Cell.zero) v2 (askL L s) := by
      rw [ask_new HF.out]
      refine (H2.out.1.of_block fun k hk => hT.block k (H2.out.1.lt k hk).2 ?_).base H.out.2.1.size
      have := (H2.out.1.lt k hk).1
      omega
    have hbw : Below w.heap.size w w2 := H.out.2.1.trans (H2.out.2.1.mono H.out.2.1.size)
    have hB : Below w.heap.size w (put3 w2 w.heap.size Cell.zero) := ((Turn.of_below (S := fun k => w.heap.size ≤ k) hbw).trans hT fun k hk => .inl (by rw [hk]; exact Nat.le_refl _)).below fun k hk => hk
    unfold put3 at q0 q1 q2
    simp only [Cell.zero] at q0 q1 q2
    refine bodyPost_ret (v := .tuple #[v2, .agg ⟨Cell.zero.cells⟩]) (by simp [results, Try.results22, go_sem, q0, q1, q2, Cell.cells, Cell.zero]) rfl ?_
    exact ⟨v2, by rw [HC.out], .inr hItems, hB⟩
  · obtain ⟨p, hp, hps⟩ := HF.out
    simp only [idx]
    have hlt := (List.getElem?_eq_some_iff.1 hp).1
    have hlt' : (i : Int) < (L.length : Int) := by omega
    obtain ⟨go, rfl, q0, q1, q2, q3⟩ := H.out.1.at hp
    have HC := Lib.hid (⟨get_at L i p s hu hp hps, HF.out.has⟩ : _ ∧ _)
    obtain ⟨z0, z1, z2, y0, y1, y2⟩ := own3 (c := Cell.zero) H.out.2.2.1
    clear hp hps
    go_upto_region 4 with fail
    go_region_with (fail)
    all_goals go_wp2_with fail
    all_goals
      obtain ⟨x0, x1, x2, _, _, _⟩ := put3_own (c := p.2) (own3 (c := Cell.zero) H.out.2.2.1)
      have hT := put3_turn w1 w.heap.size p.2
      have hB : Below w.heap.size w (put3 w1 w.heap.size p.2) := ((Turn.of_below (S := fun k => w.heap.size ≤ k) H.out.2.1).trans hT fun k hk => .inl (by rw [hk]; exact Nat.le_refl _)).below fun k hk => hk
      unfold put3 at x0 x1 x2
      refine bodyPost_ret (v := .tuple #[.slice (some ⟨go, 0, none⟩) L.length ca, .agg ⟨p.2.cells⟩]) (by simp [results, Try.results22, go_sem, x0, x1, x2, Cell.cells]) rfl ?_
      exact ⟨_, by rw [HC.out.1], .inl ⟨rfl, HC.out.2⟩, by first | exact hB | exact hB.drew⟩

set_option maxHeartbeats 1600000 in
set_option maxRecDepth 100000 in
theorem refDelete {B : Nat} {w : World} {v : Value} {L : List KV} (s : ByteArray) (h : Items B w v L) (hz : L.length ≤ 100000) :
    Calls Try.prog 23 #[v, .string s] w fun e w' => ∃ v', e = .returned (.tuple #[v', .bool (hasL L s)]) ∧ Items w.heap.size w' v' (delL L s) ∧ Below w.heap.size w w' := by
  obtain ⟨oa, ca, rfl, _⟩ := h.shape
  obtain ⟨i0, z0, hi, hz2, hsz, hby, hzs⟩ := item_info
  have HI := Lib.hid (⟨hi, hz2, hsz, hby, hzs⟩ : _ ∧ _ ∧ _ ∧ _ ∧ _)
  clear hi hz2 hsz hby hzs
  have H := Lib.hid h
  clear h
  go_enter Try.func23, Try.ntmps23
  go_wp2_with fail
  go_loopg [6, 7] L.length (fun k l i wr => ∃ m, L.length - m = k ∧ m ≤ L.length ∧ i = .int .i64 (m : Int) ∧ Items w.heap.size wr l (delL (L.take m) s) ∧ Below w.heap.size w wr)
  case atStart => exact ⟨0, rfl, Nat.zero_le _, rfl, World.ownsRow_nil _ _ _ _, Below.refl _ _⟩
  case round =>
    obtain ⟨m, hk, hm, rfl, hI, hb⟩ := hrel
    obtain ⟨ov, cv, rfl, _⟩ := hI.shape
    by_cases hlt : m < L.length
    · have hlt' : (m : Int) < (L.length : Int) := by omega
      obtain ⟨p, hp⟩ : ∃ p, L[m]? = some p := ⟨_, List.getElem?_eq_getElem hlt⟩
      have hA := H.out.below hb
      obtain ⟨g, rfl, c0, c1, c2, c3⟩ := hA.at hp
      have hdt := del_take s hp
      have hV : (delL (L.take m) s).length ≤ 100000 := by
        have h1 : (delL (L.take m) s).length ≤ (L.take m).length := List.length_filter_le _ _
        rw [List.length_take] at h1
        omega
      generalize delL (L.take m) s = V at *
      have HQ := Lib.hid (⟨hI, hb, hdt⟩ : _ ∧ _ ∧ _)
      clear hI hb hdt hp hA
      by_cases hps : p.1 = s
      · have hbe : (p.1.toList == s.toList) = true := by rw [hps]; simp
        have HS := Lib.hid hps
        clear hps
        go_wp2_with fail
        go_roundg (L.length - (m + 1))
        case measure => omega
        case rel =>
          refine ⟨m + 1, rfl, hlt, by go_num, ?_, HQ.out.2.1⟩
          rw [HQ.out.2.2, if_pos HS.out, List.append_nil]
          exact HQ.out.1
      · have hbe : (p.1.toList == s.toList) = false := toList_ne hps
        have HS := Lib.hid hps
        clear hps
        go_upto_region 6 with fail
        go_wp2_with (at_builtin; refine wpList_append_lies _ rfl (.tmp 21) (.tmp 26) 43 rfl w.heap.size 79 i0 z0 4 48 Try.underlying43 HI.out.1 HI.out.2.1 HI.out.2.2.1 HI.out.2.2.2.1 HI.out.2.2.2.2 (by decide) (.slice ov V.length cv) V.length (flatI V) rfl (HQ.out.1.alloc _) ⟨wr.heap.size, 0, none⟩ 1 1 (cells4 p) rfl rfl (World.news_of_block (heap_alloc_new wr _)) (cells4_one p) (by decide) (by unfold maxLen; omega) (by omega) (two_size HQ.out.2.1.size) _ rfl ?_; intro g2 cap2 w4 hown hgrow hat hlt4; have HO := Lib.hid (⟨Items.snoc hown, (HQ.out.2.1.trans (((Below.refl _ wr).alloc (Nat.le_refl _) _).mono HQ.out.2.1.size)).grown hgrow (two_size HQ.out.2.1.size) (fun k hk => (HQ.out.1.lt k hk).1)⟩ : _ ∧ _); clear hown hgrow hat hlt4)
        go_roundg (L.length - (m + 1))
        case measure => omega
        case rel =>
          refine ⟨m + 1, rfl, hlt, by go_num, ?_, HO.out.2⟩
          rw [HQ.out.2.2, if_neg HS.out]
          exact HO.out.1
    · obtain rfl : m = L.length := by omega
      have hge : ¬ (L.length : Int) < (L.length : Int) := by omega
      rw [List.take_of_length_le (Nat.le_refl _)] at hI ⊢
      have hdl := del_length s L
      have hle : (delL L s).length ≤ L.length := List.length_filter_le _ _
      have hdec : decide (((delL L s).length : Int) < (L.length : Int)) = hasL L s := by rw [← hdl, decide_eq_decide]; omega
      have HQ := Lib.hid (⟨hI, hb⟩ : _ ∧ _)
      clear hI hb hdl
      go_wp2_with fail
      rw [del_length]
      go_ret2
      exact ⟨_, rfl, HQ.out.1, HQ.out.2⟩
end Go.Proofs.Ytlagnklmfanmoaa.Ar
