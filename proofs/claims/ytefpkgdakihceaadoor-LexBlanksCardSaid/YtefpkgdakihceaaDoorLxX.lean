/-
  The document's own side of layer 12 (winnowerref12), seventh part: the token at a place ('one').
-/
import Derived.Test.YtefpkgdakihceaaDoorLxW
import Derived.Deep.QuietTactic
namespace Go.Proofs.YtefpkgdakihceaaDoor.Lx
open Go.RowKit

def w1 (w : World) : World := w.alloc (.cells #[.int .u8 0, .string ⟨#[]⟩, .int .i64 0, .int .i64 0, .int .i64 0] 24)
structure One (w W : World) : Prop where
  a0 : W.cell? ⟨w.heap.size, 0, none⟩ = some (.int .u8 0)
  a1 : W.cell? ⟨w.heap.size, 1, none⟩ = some (.string ⟨#[]⟩)
  a2 : W.cell? ⟨w.heap.size, 2, none⟩ = some (.int .i64 0)
  a3 : W.cell? ⟨w.heap.size, 3, none⟩ = some (.int .i64 0)
  a4 : W.cell? ⟨w.heap.size, 4, none⟩ = some (.int .i64 0)
  fa0 : W.frozen? ⟨w.heap.size, 0, none⟩ = false
  fa1 : W.frozen? ⟨w.heap.size, 1, none⟩ = false
  fa2 : W.frozen? ⟨w.heap.size, 2, none⟩ = false
  fa3 : W.frozen? ⟨w.heap.size, 3, none⟩ = false
  fa4 : W.frozen? ⟨w.heap.size, 4, none⟩ = false
  below : Below w.heap.size w W
  size : w.heap.size + 1 ≤ W.heap.size
theorem One.later {w W W' : World} (h : One w W) (hb : Below W.heap.size W W') : One w W' :=
  ⟨by rw [hb.cell (p := ⟨w.heap.size, 0, none⟩) (by have := h.size; show w.heap.size < _; omega)]; exact h.a0, by rw [hb.cell (p := ⟨w.heap.size, 1, none⟩) (by have := h.size; show w.heap.size < _; omega)]; exact h.a1, by rw [hb.cell (p := ⟨w.heap.size, 2, none⟩) (by have := h.size; show w.heap.size < _; omega)]; exact h.a2, by rw [hb.cell (p := ⟨w.heap.size, 3, none⟩) (by have := h.size; show w.heap.size < _; omega)]; exact h.a3, by rw [hb.cell (p := ⟨w.heap.size, 4, none⟩) (by have := h.size; show w.heap.size < _; omega)]; exact h.a4, by rw [hb.frozen (p := ⟨w.heap.size, 0, none⟩) (by have := h.size; show w.heap.size < _; omega)]; exact h.fa0, by rw [hb.frozen (p := ⟨w.heap.size, 1, none⟩) (by have := h.size; show w.heap.size < _; omega)]; exact h.fa1, by rw [hb.frozen (p := ⟨w.heap.size, 2, none⟩) (by have := h.size; show w.heap.size < _; omega)]; exact h.fa2, by rw [hb.frozen (p := ⟨w.heap.size, 3, none⟩) (by have := h.size; show w.heap.size < _; omega)]; exact h.fa3, by rw [hb.frozen (p := ⟨w.heap.size, 4, none⟩) (by have := h.size; show w.heap.size < _; omega)]; exact h.fa4, h.below.trans (hb.mono (by have := h.size; omega)), by have := h.size; have := hb.size; omega⟩
theorem One.new (w : World) : One w (w1 w) := by
  refine ⟨?_, ?_, ?_, ?_, ?_, ?_, ?_, ?_, ?_, ?_, (Below.refl _ w).alloc (Nat.le_refl _) _, by simp [w1]⟩
  all_goals simp [w1, go_sem]
set_option maxHeartbeats 6400000 in
set_option maxRecDepth 100000 in
theorem oneHead (s : ByteArray) (k : Nat) (re : Bool) (m : Int) (w0 w : World) (hL : Live m w0 w) (hk : k < s.size) (c10 : bAt s k ≠ 10) (hs : s.size ≤ 65536) (hc : letterI (bAt s k) = true ∨ k < numE s k ∨ bAt s k = 34 ∨ (bAt s k = 47 ∧ re = true)) :
    Calls Tryd.prog 15 #[.string s, .int .i64 k, .bool re] w fun e w' => e = .returned (oneV s k re) ∧ Live m w0 w' := by
  have HO := Lib.hid (One.new w)
  have hL0 : Live m (w1 w) (w.alloc (.cells #[.int .u8 0, .string ⟨#[]⟩, .int .i64 0, .int .i64 0, .int .i64 0] 24)) :=
    Live.refl (w0 := w1 w) (by simp [w1]) (hL.step ((Below.refl _ w).alloc (Nat.le_refl _) _)).hm
  have hb := bAt_in hk
  have HB := Lib.hid hb
  have hbd := (s[k]).toNat_lt
  by_cases cl : letterI (bAt s k) = true
  · obtain ⟨l1, l2, l3, l4, l5⟩ := letter_facts cl
    have hn := numE_other l1 l2
    have hw : k < upTo wordI s k := by rw [upTo_byes hk (by unfold wordI; rw [cl]; rfl)]; exact upTo_ge _ _ _
    have HE := Lib.hid (show oneV s k re = tokV (kindN s k (upTo wordI s k)) (s.extract k (upTo wordI s k)) k (upTo wordI s k) by
      have ht : tokR s k re = (kindN s k (upTo wordI s k), s.extract k (upTo wordI s k), upTo wordI s k) := by
        unfold tokR
        rw [if_neg (by omega), if_neg l3, if_neg l4, if_neg (fun h => l5 h.1), if_neg (by omega), if_pos hw]
      unfold oneV
      rw [ht]
      have hk0 : kindN s k (upTo wordI s k) ≠ 0 := by unfold kindN; split <;> (try split) <;> omega
      exact if_neg hk0)
    rw [hb] at cl
    generalize hkd : kindN s k (upTo wordI s k) = kd at *
    generalize hws : upTo wordI s k = n at *
    have HKD := Lib.hid hkd
    have HWS := Lib.hid hws
    clear hc l1 l2 l3 l4 l5 hn hw hb hkd hws
    go_enter Tryd.func15, Tryd.ntmps15
    go_wp2_with (first
      | (go_at_call 30; (with_reducible refine (refLetter _ _).mono ?_); rintro e w' ⟨rfl, rfl⟩)
      | (go_at_call 31; (with_reducible refine (refName s k m (w1 w) _ hL0 (by omega) hs).mono ?_); rintro e w' ⟨rfl, hL1⟩; rw [HWS.out, HKD.out]; unfold tokV; have HN := Lib.hid (One.later HO.out hL1.b); obtain ⟨ya0, ya1, ya2, ya3, ya4, yfa0, yfa1, yfa2, yfa3, yfa4, ybe, ysz⟩ := HN.out; clear ybe))
    refine bodyPost_ret (v := tokV kd (s.extract k n) k n) (by simp [results, Tryd.results15, go_sem, tokV, zeroTok, ya0, ya1, ya2, ya3, ya4]) rfl ?_
    rw [HE.out]
    exact ⟨rfl, hL.step ((((((HN.out.below).setCell (by simp) _).setCell (by simp) _).setCell (by simp) _).setCell (by simp) _).setCell (by simp) _)⟩
  have cl' := Bool.eq_false_iff.mpr cl
  have cl2 : letterI ((s[k]).toNat : Int) = false := by rw [← hb]; exact cl'
  by_cases cn : k < numE s k
  · have hd := num_byte cn
    have e34 : bAt s k ≠ 34 := by
      rcases hd with h | h
      · simp only [digitI, decide_eq_true_eq] at h; omega
      · omega
    have e47 : bAt s k ≠ 47 := by
      rcases hd with h | h
      · simp only [digitI, decide_eq_true_eq] at h; omega
      · omega
    have hnl := numE_le s k (by omega)
    have HE := Lib.hid (show oneV s k re = tokV 1 (s.extract k (numE s k)) k (numE s k) by
      have ht : tokR s k re = (1, s.extract k (numE s k), numE s k) := by
        unfold tokR
        rw [if_neg (by omega), if_neg c10, if_neg e34, if_neg (fun h => e47 h.1), if_pos cn]
      unfold oneV
      rw [ht]
      rfl)
    generalize hne : numE s k = n at *
    have HNE := Lib.hid hne
    obtain ⟨n1, n2⟩ := hnl
    obtain ⟨ya0, ya1, ya2, ya3, ya4, yfa0, yfa1, yfa2, yfa3, yfa4, ybe, ysz⟩ := HO.out
    clear hd e34 e47 hne hc cl cl' hb ya0 ya1 ya2 ya3 ya4 yfa0 yfa1 yfa2 yfa3 yfa4 ybe ysz
    go_enter Tryd.func15, Tryd.ntmps15
    go_wp2_with (first
      | (go_at_call 30; (with_reducible refine (refLetter _ _).mono ?_); rintro e w' ⟨rfl, rfl⟩)
      | (go_at_call 32; (with_reducible refine (refNumber s k _ (by omega) hs).mono ?_); rintro e w' ⟨rfl, rfl⟩; rw [HNE.out]))
    refine bodyPost_ret (v := tokV 1 (s.extract k n) k n) (by simp [results, Tryd.results15, go_sem, tokV]) rfl ?_
    rw [HE.out]
    refine ⟨rfl, hL.step ?_⟩
    first
    | exact ((((((Below.refl _ w).alloc (Nat.le_refl _) _).setCell (by simp) _).setCell (by simp) _).setCell (by simp) _).setCell (by simp) _).setCell (by simp) _
    | exact (Below.refl _ w).alloc (Nat.le_refl _) _
  have hne : numE s k = k := by have := (numE_le s k (by omega)).1; omega
  have HNE := Lib.hid hne
  have hc2 := (hc.resolve_left cl).resolve_left cn
  by_cases c34 : bAt s k = 34
  · have HSK := Lib.hid (show s[k] = 34 from byte_eq.1 (by rw [← hb]; exact c34))
    have HT := Lib.hid (show tokR s k re = qR 2 s k by unfold tokR; rw [if_neg (by omega), if_neg c10, if_pos c34])
    have q34 : ((s[k]).toNat : Int) = 34 := by rw [← hb]; exact c34
    clear c34 cn cl cl' hb hc hne hc2 c10 HB
    cases hx : qL 34 (s.data.toList.drop (k + 1)) with
    | some x =>
      have hqr : qR 2 s k = (2, strL x.1, k + 1 + x.2) := by
        unfold qR
        rw [dif_pos hk, HSK.out, hx]
      have HE := Lib.hid (show oneV s k re = tokV 2 (strL x.1) k ((k + 1 + x.2 : Nat)) by
        unfold oneV
        rw [HT.out, hqr]
        rfl)
      have HQV := Lib.hid (qV_some hx)
      clear hx hqr
      go_enter Tryd.func15, Tryd.ntmps15
      go_wp2_with (first
        | (go_at_call 30; (with_reducible refine (refLetter _ _).mono ?_); rintro e w' ⟨rfl, rfl⟩)
        | (go_at_call 32; (with_reducible refine (refNumber s k _ (by omega) hs).mono ?_); rintro e w' ⟨rfl, rfl⟩; rw [HNE.out])
        | (go_at_call 33; (with_reducible refine (refQuoted s k 34 m (w1 w) _ hL0 hk HSK.out (.inl rfl) hs).mono ?_); rintro e w' ⟨rfl, hL1⟩; rw [HQV.out]; have HN := Lib.hid (One.later HO.out hL1.b); obtain ⟨ya0, ya1, ya2, ya3, ya4, yfa0, yfa1, yfa2, yfa3, yfa4, ybe, ysz⟩ := HN.out; clear ybe))
      refine bodyPost_ret (v := tokV 2 (strL x.1) k ((k + 1 + x.2 : Nat))) (by simp [results, Tryd.results15, go_sem, tokV, zeroTok, ya0, ya1, ya2, ya3, ya4]) rfl ?_
      rw [HE.out]
      exact ⟨rfl, hL.step ((((((HN.out.below).setCell (by simp) _).setCell (by simp) _).setCell (by simp) _).setCell (by simp) _).setCell (by simp) _)⟩
    | none =>
      have hqr : qR 2 s k = (0, ⟨#[]⟩, k) := by
        unfold qR
        rw [dif_pos hk, HSK.out, hx]
      have HE := Lib.hid (show oneV s k re = zeroTok by
        unfold oneV
        rw [HT.out, hqr]
        rfl)
      have HQV := Lib.hid (qV_none hx)
      clear hx hqr
      go_enter Tryd.func15, Tryd.ntmps15
      go_wp2_with (first
        | (go_at_call 30; (with_reducible refine (refLetter _ _).mono ?_); rintro e w' ⟨rfl, rfl⟩)
        | (go_at_call 32; (with_reducible refine (refNumber s k _ (by omega) hs).mono ?_); rintro e w' ⟨rfl, rfl⟩; rw [HNE.out])
        | (go_at_call 33; (with_reducible refine (refQuoted s k 34 m (w1 w) _ hL0 hk HSK.out (.inl rfl) hs).mono ?_); rintro e w' ⟨rfl, hL1⟩; rw [HQV.out]; have HN := Lib.hid (One.later HO.out hL1.b); obtain ⟨ya0, ya1, ya2, ya3, ya4, yfa0, yfa1, yfa2, yfa3, yfa4, ybe, ysz⟩ := HN.out; clear ybe))
      refine bodyPost_ret (v := zeroTok) (by simp [results, Tryd.results15, go_sem, tokV, zeroTok, ya0, ya1, ya2, ya3, ya4]) rfl ?_
      rw [HE.out]
      exact ⟨rfl, hL.step ((((((HN.out.below).setCell (by simp) _).setCell (by simp) _).setCell (by simp) _).setCell (by simp) _).setCell (by simp) _)⟩
  · obtain ⟨c47, rfl⟩ := hc2.resolve_left c34
    have HSK := Lib.hid (show s[k] = 47 from byte_eq.1 (by rw [← hb]; exact c47))
    have HT := Lib.hid (show tokR s k true = qR 3 s k by unfold tokR; rw [if_neg (by omega), if_neg c10, if_neg c34, if_pos ⟨c47, rfl⟩])
    have q47 : ((s[k]).toNat : Int) = 47 := by rw [← hb]; exact c47
    clear c34 c47 cn cl cl' hb hc hne hc2 c10 HB
    cases hx : qL 47 (s.data.toList.drop (k + 1)) with
    | some x =>
      have hqr : qR 3 s k = (3, strL x.1, k + 1 + x.2) := by
        unfold qR
        rw [dif_pos hk, HSK.out, hx]
      have HE := Lib.hid (show oneV s k true = tokV 3 (strL x.1) k ((k + 1 + x.2 : Nat)) by
        unfold oneV
        rw [HT.out, hqr]
        rfl)
      have HQV := Lib.hid (qV_some hx)
      clear hx hqr
      go_enter Tryd.func15, Tryd.ntmps15
      go_wp2_with (first
        | (go_at_call 30; (with_reducible refine (refLetter _ _).mono ?_); rintro e w' ⟨rfl, rfl⟩)
        | (go_at_call 32; (with_reducible refine (refNumber s k _ (by omega) hs).mono ?_); rintro e w' ⟨rfl, rfl⟩; rw [HNE.out])
        | (go_at_call 33; (with_reducible refine (refQuoted s k 47 m (w1 w) _ hL0 hk HSK.out (.inr rfl) hs).mono ?_); rintro e w' ⟨rfl, hL1⟩; rw [HQV.out]; have HN := Lib.hid (One.later HO.out hL1.b); obtain ⟨ya0, ya1, ya2, ya3, ya4, yfa0, yfa1, yfa2, yfa3, yfa4, ybe, ysz⟩ := HN.out; clear ybe))
      refine bodyPost_ret (v := tokV 3 (strL x.1) k ((k + 1 + x.2 : Nat))) (by simp [results, Tryd.results15, go_sem, tokV, zeroTok, ya0, ya1, ya2, ya3, ya4]) rfl ?_
      rw [HE.out]
      exact ⟨rfl, hL.step ((((((HN.out.below).setCell (by simp) _).setCell (by simp) _).setCell (by simp) _).setCell (by simp) _).setCell (by simp) _)⟩
    | none =>
      have hqr : qR 3 s k = (0, ⟨#[]⟩, k) := by
        unfold qR
        rw [dif_pos hk, HSK.out, hx]
      have HE := Lib.hid (show oneV s k true = zeroTok by
        unfold oneV
        rw [HT.out, hqr]
        rfl)
      have HQV := Lib.hid (qV_none hx)
      clear hx hqr
      go_enter Tryd.func15, Tryd.ntmps15
      go_wp2_with (first
        | (go_at_call 30; (with_reducible refine (refLetter _ _).mono ?_); rintro e w' ⟨rfl, rfl⟩)
        | (go_at_call 32; (with_reducible refine (refNumber s k _ (by omega) hs).mono ?_); rintro e w' ⟨rfl, rfl⟩; rw [HNE.out])
        | (go_at_call 33; (with_reducible refine (refQuoted s k 47 m (w1 w) _ hL0 hk HSK.out (.inr rfl) hs).mono ?_); rintro e w' ⟨rfl, hL1⟩; rw [HQV.out]; have HN := Lib.hid (One.later HO.out hL1.b); obtain ⟨ya0, ya1, ya2, ya3, ya4, yfa0, yfa1, yfa2, yfa3, yfa4, ybe, ysz⟩ := HN.out; clear ybe))
      refine bodyPost_ret (v := zeroTok) (by simp [results, Tryd.results15, go_sem, tokV, zeroTok, ya0, ya1, ya2, ya3, ya4]) rfl ?_
      rw [HE.out]
      exact ⟨rfl, hL.step ((((((HN.out.below).setCell (by simp) _).setCell (by simp) _).setCell (by simp) _).setCell (by simp) _).setCell (by simp) _)⟩
theorem wp_region_tail {P : Program} {id : Nat} {Q : Exit → Act → World → Prop} {a : Act} {w : World} {l : List Oper} (n : Nat) (hm : P.follows .mixedOrders = true) (hB : Region.lexTailB .any l.toArray n = true)
    (h : ∀ w2, Below w.heap.size w w2 → (∀ p, w2.cell? p = w.cell? p) → wpStill P l.toArray w2 (fun a' => wpList P l.toArray Q (l.drop n) a' w2) (l.take n) a) : (Code.region id l.toArray true).wp P Q a w :=
  wp_region_still_tail n hm hB (h { w with drawn := w.drawn + 1 } ⟨rfl, rfl, rfl, Nat.le_refl _, fun _ _ => rfl⟩ fun _ => rfl)
theorem sign_lens : ∀ (n : Nat) (h : n < signsL.length), 1 ≤ (signsL[n]'h).length ∧ (signsL[n]'h).length ≤ 2 := fun n h => by
  have : ∀ t ∈ signsL, 1 ≤ t.length ∧ t.length ≤ 2 := by decide
  exact this _ (List.getElem_mem h)
set_option maxHeartbeats 6400000 in
set_option maxRecDepth 100000 in
theorem oneSigns (s : ByteArray) (k : Nat) (re : Bool) (m : Int) (w0 w : World) (hL : Live m w0 w) (hk : k < s.size) (c10 : bAt s k ≠ 10) (hs : s.size ≤ 65536) (cl : letterI (bAt s k) = false) (cn : numE s k = k) (c34 : bAt s k ≠ 34) (c47 : ¬ (bAt s k = 47 ∧ re = true)) :
    Calls Tryd.prog 15 #[.string s, .int .i64 k, .bool re] w fun e w' => e = .returned (oneV s k re) ∧ Live m w0 w' := by
  have HO := Lib.hid (One.new w)
  have hL0 : Live m (w1 w) (w.alloc (.cells #[.int .u8 0, .string ⟨#[]⟩, .int .i64 0, .int .i64 0, .int .i64 0] 24)) :=
    Live.refl (w0 := w1 w) (by simp [w1]) (hL.step ((Below.refl _ w).alloc (Nat.le_refl _) _)).hm
  have hb := bAt_in hk
  have hbd := (s[k]).toNat_lt
  have cd : digitI (bAt s k) = false := Bool.eq_false_iff.mpr fun h => by have := numE_digit h; omega
  have hw : upTo wordI s k = k := upTo_bno (by unfold wordI; rw [cl, cd]; rfl)
  have HR := Lib.hid (show tokR s k re = if k < signE s k then (7, s.extract k (signE s k), signE s k) else (0, ⟨#[]⟩, k) by
    unfold tokR
    rw [if_neg (by omega), if_neg c10, if_neg c34, if_neg c47, if_neg (by omega), if_neg (by omega)])
  have cl2 : letterI ((s[k]).toNat : Int) = false := by rw [← hb]; exact cl
  have q34 : (((s[k]).toNat : Int) == 34) = false := by rw [← hb, beq_eq_false_iff_ne]; exact c34
  have HNE := Lib.hid cn
  have hre : re = false ∨ (((s[k]).toNat : Int) == 47) = false := by
    cases re
    · exact .inl rfl
    · right
      rw [← hb, beq_eq_false_iff_ne]
      exact fun h => c47 ⟨h, rfl⟩
  clear hb c10 cl cn c34 c47 cd hw
  rcases hre with rfl | q47
  · skip
    go_enter Tryd.func15, Tryd.ntmps15
    go_wp2_with (first
      | (go_at_call 30; (with_reducible refine (refLetter _ _).mono ?_); rintro e w' ⟨rfl, rfl⟩)
      | (go_at_call 32; (with_reducible refine (refNumber s k _ (by omega) hs).mono ?_); rintro e w' ⟨rfl, rfl⟩; rw [HNE.out])
      | (go_at_call 34; refine (signs _).mono ?_; rintro e w' ⟨rfl, ht, hb, hz⟩; have hL1 := hL0.step hb; have HT := Lib.hid ht; have HN := Lib.hid (One.later HO.out hL1.b); have hgb := Nat.lt_of_lt_of_eq (Nat.lt_succ_self _) hz.symm; clear ht hb hz; generalize (w.alloc (.cells #[.int .u8 0, .string ⟨#[]⟩, .int .i64 0, .int .i64 0, .int .i64 0] 24)).heap.size = gb at *))
    all_goals
      go_loopw [13] (fun i wr => ∃ n : Nat, n ≤ 39 ∧ i = .int .i64 n ∧ One w wr ∧ TextsAt wr gb signsL ∧ gb < wr.heap.size ∧ ∀ (j : Nat) (h : j < signsL.length), j < n → standsB s k signsL[j] = false) (fun i _ => 39 - (intOf i).toNat)
      case atStart => exact ⟨0, by omega, rfl, HN.out, HT.out, hgb, fun j _ h => by omega⟩
      case round =>
        clear HN HT hL0 hL1 hgb
        obtain ⟨n, hn, rfl, hON, hTX, hgb, hno⟩ := hrel
        have HON := Lib.hid hON
        have HTX := Lib.hid hTX
        have HNO := Lib.hid hno
        have hl39 : signsL.length = 39 := by decide
        clear hON hTX hno
        by_cases hlt : n < 39
        · have hlt2 : n < signsL.length := by omega
          have hc := HTX.out n hlt2
          have hsl := sign_lens n hlt2
          have hTl : (strL signsL[n]).toList = signsL[n] := by rw [Lib.toList_data]; rfl
          have hTs : (strL signsL[n]).size = signsL[n].length := strL_size _
          have HSB := Lib.hid (show standsB s k signsL[n] = (decide (k + (strL signsL[n]).size ≤ s.size) && ((s.extract k (k + (strL signsL[n]).size)).toList == (strL signsL[n]).toList)) by rw [hTs, hTl]; rfl)
          rw [← hTs] at hsl
          by_cases hst : standsB s k signsL[n] = true
          · obtain ⟨g1, g2, g3⟩ := sign_hit hlt2 hst HNO.out
            have HE := Lib.hid (show oneV s k false = tokV 7 (strL signsL[n]) k ((k + (strL signsL[n]).size : Nat)) by
              have ht : tokR s k false = (7, s.extract k (signE s k), signE s k) := by rw [HR.out, if_pos g3]
              unfold oneV
              rw [ht, g2, g1, hTs]
              rfl)
            rw [HSB.out] at hst
            simp only [Bool.and_eq_true, decide_eq_true_eq] at hst
            obtain ⟨u1, u2⟩ := hst
            clear hTl hTs HSB g1 g2 g3
            generalize hT : strL signsL[n] = T at *
            have u3 : (k : Int) + (T.size : Int) ≤ (s.size : Int) := by omega
            have hdec : decide ((k : Int) + (T.size : Int) ≤ (s.size : Int)) = true := decide_eq_true u3
            obtain ⟨v1, v2⟩ := hsl
            clear hl39 hT
            go_wp2_with fail
            go_quiet (fail)
            go_wp2_with fail
            have HON2 := Lib.hid (HON.out.later (below_drewN (Below.refl _ _) nq))
            have hc3 : (wr.drewN nq).cell? ⟨gb, n, none⟩ = some (.string T) := by rw [(below_drewN (Below.refl wr.heap.size wr) nq).cell (p := ⟨gb, n, none⟩) hgb]; exact hc
            generalize wr.drewN nq = w6 at *
            refine wp_region_tail 13 (by kernel_rfl) (by kernel_rfl) ?_
            intro w2 hb2 hc2
            have hc4 : w2.cell? ⟨gb, n, none⟩ = some (.string T) := (hc2 _).trans hc3
            have HN3 := Lib.hid (HON2.out.later hb2)
            clear hb2 hc2 hc3 hc
            obtain ⟨ya0, ya1, ya2, ya3, ya4, yfa0, yfa1, yfa2, yfa3, yfa4, ybe, ysz⟩ := HN3.out
            clear ybe
            simp only [List.take_succ_cons, List.take_zero, List.drop_succ_cons, List.drop_zero]
            repeat still_step
            try refine wpStill_nil ?_
            go_wp2_with fail
            refine bodyPost_ret (v := tokV 7 T k ((k + T.size : Nat))) (by simp [results, Tryd.results15, go_sem, tokV, ya0, ya1, ya2, ya3, ya4]) rfl ?_
            rw [HE.out]
            exact ⟨rfl, hL.step ((((((HN3.out.below).setCell (by simp) _).setCell (by simp) _).setCell (by simp) _).setCell (by simp) _).setCell (by simp) _)⟩
          · have hno2 := Bool.eq_false_iff.mpr hst
            have hst2 := hno2
            rw [HSB.out] at hst2
            clear hTl hTs hst
            generalize hT : strL signsL[n] = T at *
            clear hl39 hT
            obtain ⟨v1, v2⟩ := hsl
            by_cases u1 : k + T.size ≤ s.size
            · have u2 : ((s.extract k (k + T.size)).toList == T.toList) = false := by
                rw [decide_eq_true u1, Bool.true_and] at hst2
                exact hst2
              have u3 : (k : Int) + (T.size : Int) ≤ (s.size : Int) := by omega
              have hdec : decide ((k : Int) + (T.size : Int) ≤ (s.size : Int)) = true := decide_eq_true u3
              have HQ := Lib.hid hno2
              clear hno2 HSB
              clear hst2
              go_wp2_with fail
              go_quiet (fail)
              go_wp2
              go_roundw
              case rel => exact ⟨n + 1, by omega, by go_num, HON.out.later (below_drewN (Below.refl _ _) nq), HTX.out.below (below_drewN (Below.refl _ _) nq) hgb, Nat.lt_of_lt_of_le hgb (below_drewN (Below.refl wr.heap.size wr) nq).size, fun j hj hjn => by
                rcases Nat.lt_or_eq_of_le (Nat.lt_succ_iff.1 hjn) with h | rfl
                · exact HNO.out j hj h
                · exact HQ.out⟩
              case measure => simp [intOf]; omega
            · have u3 : ¬ (k : Int) + (T.size : Int) ≤ (s.size : Int) := by omega
              have hdec : decide ((k : Int) + (T.size : Int) ≤ (s.size : Int)) = false := decide_eq_false u3
              have HQ := Lib.hid hno2
              clear hno2 HSB
              clear hst2 u1 u3
              go_wp2_with fail
              go_quiet (fail)
              go_wp2
              go_roundw
              case rel => exact ⟨n + 1, by omega, by go_num, HON.out.later (below_drewN (Below.refl _ _) nq), HTX.out.below (below_drewN (Below.refl _ _) nq) hgb, Nat.lt_of_lt_of_le hgb (below_drewN (Below.refl wr.heap.size wr) nq).size, fun j hj hjn => by
                rcases Nat.lt_or_eq_of_le (Nat.lt_succ_iff.1 hjn) with h | rfl
                · exact HNO.out j hj h
                · exact HQ.out⟩
              case measure => simp [intOf]; omega
        · have hn39 : n = 39 := by omega
          have HE := Lib.hid (show oneV s k false = zeroTok by
            have ht : tokR s k false = (0, ⟨#[]⟩, k) := by
              rw [HR.out, sign_miss (fun j h => HNO.out j h (by omega)), if_neg (by omega)]
            unfold oneV
            rw [ht]
            rfl)
          obtain ⟨ya0, ya1, ya2, ya3, ya4, yfa0, yfa1, yfa2, yfa3, yfa4, ybe, ysz⟩ := HON.out
          clear ybe
          go_wp2_with fail
          refine bodyPost_ret (v := zeroTok) (by simp [results, Tryd.results15, go_sem, zeroTok, ya0, ya1, ya2, ya3, ya4]) rfl ?_
          rw [HE.out]
          exact ⟨rfl, hL.step ((((((HON.out.below).setCell (by simp) _).setCell (by simp) _).setCell (by simp) _).setCell (by simp) _).setCell (by simp) _)⟩
  · skip
    go_enter Tryd.func15, Tryd.ntmps15
    go_wp2_with (first
      | (go_at_call 30; (with_reducible refine (refLetter _ _).mono ?_); rintro e w' ⟨rfl, rfl⟩)
      | (go_at_call 32; (with_reducible refine (refNumber s k _ (by omega) hs).mono ?_); rintro e w' ⟨rfl, rfl⟩; rw [HNE.out])
      | (go_at_call 34; refine (signs _).mono ?_; rintro e w' ⟨rfl, ht, hb, hz⟩; have hL1 := hL0.step hb; have HT := Lib.hid ht; have HN := Lib.hid (One.later HO.out hL1.b); have hgb := Nat.lt_of_lt_of_eq (Nat.lt_succ_self _) hz.symm; clear ht hb hz; generalize (w.alloc (.cells #[.int .u8 0, .string ⟨#[]⟩, .int .i64 0, .int .i64 0, .int .i64 0] 24)).heap.size = gb at *))
    all_goals
      go_loopw [13] (fun i wr => ∃ n : Nat, n ≤ 39 ∧ i = .int .i64 n ∧ One w wr ∧ TextsAt wr gb signsL ∧ gb < wr.heap.size ∧ ∀ (j : Nat) (h : j < signsL.length), j < n → standsB s k signsL[j] = false) (fun i _ => 39 - (intOf i).toNat)
      case atStart => exact ⟨0, by omega, rfl, HN.out, HT.out, hgb, fun j _ h => by omega⟩
      case round =>
        clear HN HT hL0 hL1 hgb
        obtain ⟨n, hn, rfl, hON, hTX, hgb, hno⟩ := hrel
        have HON := Lib.hid hON
        have HTX := Lib.hid hTX
        have HNO := Lib.hid hno
        have hl39 : signsL.length = 39 := by decide
        clear hON hTX hno
        by_cases hlt : n < 39
        · have hlt2 : n < signsL.length := by omega
          have hc := HTX.out n hlt2
          have hsl := sign_lens n hlt2
          have hTl : (strL signsL[n]).toList = signsL[n] := by rw [Lib.toList_data]; rfl
          have hTs : (strL signsL[n]).size = signsL[n].length := strL_size _
          have HSB := Lib.hid (show standsB s k signsL[n] = (decide (k + (strL signsL[n]).size ≤ s.size) && ((s.extract k (k + (strL signsL[n]).size)).toList == (strL signsL[n]).toList)) by rw [hTs, hTl]; rfl)
          rw [← hTs] at hsl
          by_cases hst : standsB s k signsL[n] = true
          · obtain ⟨g1, g2, g3⟩ := sign_hit hlt2 hst HNO.out
            have HE := Lib.hid (show oneV s k re = tokV 7 (strL signsL[n]) k ((k + (strL signsL[n]).size : Nat)) by
              have ht : tokR s k re = (7, s.extract k (signE s k), signE s k) := by rw [HR.out, if_pos g3]
              unfold oneV
              rw [ht, g2, g1, hTs]
              rfl)
            rw [HSB.out] at hst
            simp only [Bool.and_eq_true, decide_eq_true_eq] at hst
            obtain ⟨u1, u2⟩ := hst
            clear hTl hTs HSB g1 g2 g3
            generalize hT : strL signsL[n] = T at *
            have u3 : (k : Int) + (T.size : Int) ≤ (s.size : Int) := by omega
            have hdec : decide ((k : Int) + (T.size : Int) ≤ (s.size : Int)) = true := decide_eq_true u3
            obtain ⟨v1, v2⟩ := hsl
            clear hl39 hT
            go_wp2_with fail
            go_quiet (fail)
            go_wp2_with fail
            have HON2 := Lib.hid (HON.out.later (below_drewN (Below.refl _ _) nq))
            have hc3 : (wr.drewN nq).cell? ⟨gb, n, none⟩ = some (.string T) := by rw [(below_drewN (Below.refl wr.heap.size wr) nq).cell (p := ⟨gb, n, none⟩) hgb]; exact hc
            generalize wr.drewN nq = w6 at *
            refine wp_region_tail 13 (by kernel_rfl) (by kernel_rfl) ?_
            intro w2 hb2 hc2
            have hc4 : w2.cell? ⟨gb, n, none⟩ = some (.string T) := (hc2 _).trans hc3
            have HN3 := Lib.hid (HON2.out.later hb2)
            clear hb2 hc2 hc3 hc
            obtain ⟨ya0, ya1, ya2, ya3, ya4, yfa0, yfa1, yfa2, yfa3, yfa4, ybe, ysz⟩ := HN3.out
            clear ybe
            simp only [List.take_succ_cons, List.take_zero, List.drop_succ_cons, List.drop_zero]
            repeat still_step
            try refine wpStill_nil ?_
            go_wp2_with fail
            refine bodyPost_ret (v := tokV 7 T k ((k + T.size : Nat))) (by simp [results, Tryd.results15, go_sem, tokV, ya0, ya1, ya2, ya3, ya4]) rfl ?_
            rw [HE.out]
            exact ⟨rfl, hL.step ((((((HN3.out.below).setCell (by simp) _).setCell (by simp) _).setCell (by simp) _).setCell (by simp) _).setCell (by simp) _)⟩
          · have hno2 := Bool.eq_false_iff.mpr hst
            have hst2 := hno2
            rw [HSB.out] at hst2
            clear hTl hTs hst
            generalize hT : strL signsL[n] = T at *
            clear hl39 hT
            obtain ⟨v1, v2⟩ := hsl
            by_cases u1 : k + T.size ≤ s.size
            · have u2 : ((s.extract k (k + T.size)).toList == T.toList) = false := by
                rw [decide_eq_true u1, Bool.true_and] at hst2
                exact hst2
              have u3 : (k : Int) + (T.size : Int) ≤ (s.size : Int) := by omega
              have hdec : decide ((k : Int) + (T.size : Int) ≤ (s.size : Int)) = true := decide_eq_true u3
              have HQ := Lib.hid hno2
              clear hno2 HSB
              clear hst2
              go_wp2_with fail
              go_quiet (fail)
              go_wp2
              go_roundw
              case rel => exact ⟨n + 1, by omega, by go_num, HON.out.later (below_drewN (Below.refl _ _) nq), HTX.out.below (below_drewN (Below.refl _ _) nq) hgb, Nat.lt_of_lt_of_le hgb (below_drewN (Below.refl wr.heap.size wr) nq).size, fun j hj hjn => by
                rcases Nat.lt_or_eq_of_le (Nat.lt_succ_iff.1 hjn) with h | rfl
                · exact HNO.out j hj h
                · exact HQ.out⟩
              case measure => simp [intOf]; omega
            · have u3 : ¬ (k : Int) + (T.size : Int) ≤ (s.size : Int) := by omega
              have hdec : decide ((k : Int) + (T.size : Int) ≤ (s.size : Int)) = false := decide_eq_false u3
              have HQ := Lib.hid hno2
              clear hno2 HSB
              clear hst2 u1 u3
              go_wp2_with fail
              go_quiet (fail)
              go_wp2
              go_roundw
              case rel => exact ⟨n + 1, by omega, by go_num, HON.out.later (below_drewN (Below.refl _ _) nq), HTX.out.below (below_drewN (Below.refl _ _) nq) hgb, Nat.lt_of_lt_of_le hgb (below_drewN (Below.refl wr.heap.size wr) nq).size, fun j hj hjn => by
                rcases Nat.lt_or_eq_of_le (Nat.lt_succ_iff.1 hjn) with h | rfl
                · exact HNO.out j hj h
                · exact HQ.out⟩
              case measure => simp [intOf]; omega
        · have hn39 : n = 39 := by omega
          have HE := Lib.hid (show oneV s k re = zeroTok by
            have ht : tokR s k re = (0, ⟨#[]⟩, k) := by
              rw [HR.out, sign_miss (fun j h => HNO.out j h (by omega)), if_neg (by omega)]
            unfold oneV
            rw [ht]
            rfl)
          obtain ⟨ya0, ya1, ya2, ya3, ya4, yfa0, yfa1, yfa2, yfa3, yfa4, ybe, ysz⟩ := HON.out
          clear ybe
          go_wp2_with fail
          refine bodyPost_ret (v := zeroTok) (by simp [results, Tryd.results15, go_sem, zeroTok, ya0, ya1, ya2, ya3, ya4]) rfl ?_
          rw [HE.out]
          exact ⟨rfl, hL.step ((((((HON.out.below).setCell (by simp) _).setCell (by simp) _).setCell (by simp) _).setCell (by simp) _).setCell (by simp) _)⟩
theorem refOne (s : ByteArray) (k : Nat) (re : Bool) (m : Int) (w0 w : World) (hL : Live m w0 w) (hk : k < s.size) (c10 : bAt s k ≠ 10) (hs : s.size ≤ 65536) :
    Calls Tryd.prog 15 #[.string s, .int .i64 k, .bool re] w fun e w' => e = .returned (oneV s k re) ∧ Live m w0 w' := by
  by_cases hc : letterI (bAt s k) = true ∨ k < numE s k ∨ bAt s k = 34 ∨ (bAt s k = 47 ∧ re = true)
  · exact oneHead s k re m w0 w hL hk c10 hs hc
  · have h1 : ¬ letterI (bAt s k) = true := fun h => hc (.inl h)
    have h2 : ¬ k < numE s k := fun h => hc (.inr (.inl h))
    have h3 := (numE_le s k (by omega)).1
    exact oneSigns s k re m w0 w hL hk c10 hs (Bool.eq_false_iff.mpr h1) (by omega) (fun h => hc (.inr (.inr (.inl h)))) (fun h => hc (.inr (.inr (.inr h))))
end Go.Proofs.YtefpkgdakihceaaDoor.Lx
