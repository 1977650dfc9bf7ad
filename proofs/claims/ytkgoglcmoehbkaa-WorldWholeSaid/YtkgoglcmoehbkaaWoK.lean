/-
  Package world: writing to a stream (Write).
-/
import Derived.Test.YtkgoglcmoehbkaaWoJ
namespace Go.Proofs.Ytkgoglcmoehbkaa.Wo
open Go.RowKit Go.Maps

def wname (k : Int) (n : ByteArray) : ByteArray := if k = 6 then noText else n
def writeE (st : St) (k : Int) (n : ByteArray) : Int := if k < 3 ∨ openB k (wname k n) st.streams = false then 16 else if st.fails 3 (wname k n) = true then 14 else 0
def wroteS (st : St) (k : Int) (n d : ByteArray) : St :=
  { (if k = 3 ∨ k = 4 then { beginS st n with file := setF (beginS st n).file n (((st.file n).getD []) ++ d.data.toList) } else st) with trace := st.trace ++ [⟨2, k, wname k n, d, 0⟩] }
def writeS (st : St) (k : Int) (n d : ByteArray) : St := if writeE st k n = 0 ∧ d ≠ noText then wroteS st k n d else st
theorem beginS_file (st : St) (n : ByteArray) : (beginS st n).file n = some ((st.file n).getD []) := by
  unfold beginS
  cases ho : st.file n with
  | none => simp [setF]
  | some l => simp [ho]
theorem beginS_trace (st : St) (n : ByteArray) : (beginS st n).trace = st.trace := by
  unfold beginS
  split <;> rfl
theorem noText_list : noText.toList = [] := by rw [Lib.toList_data]

section
variable {w : World} {B fm rm xm : Nat} {D : DataW Unit} {vs vt : Value} {ps : List Value} {T : Tags} {st : St} {n d : ByteArray} {k : Int}

theorem wroteS_note (h : ¬ (k = 3 ∨ k = 4)) : wroteS st k n d = { st with trace := st.trace ++ [(⟨2, k, wname k n, d, 0⟩ : Ev)] } := by
  unfold wroteS
  rw [if_neg h]
theorem wroteS_file (h : k = 3 ∨ k = 4) (hw : wname k n = n) : wroteS st k n d = { { beginS st n with file := setF (beginS st n).file n (((st.file n).getD []) ++ d.data.toList) } with trace := (beginS st n).trace ++ [(⟨2, k, n, d, 0⟩ : Ev)] } := by
  unfold wroteS
  rw [if_pos h, beginS_trace, hw]
theorem Goes.step {w3 w6 : World} {T6 : Tags} {st' : St} (hb : Below w.heap.size w w3) (e6 : ∀ k, k < w3.heap.size → T6 k = T k) (t6 : Turn (fun k => T k ≠ .no) w3 w6) (h : WdAt w6 B fm rm xm D vs vt ps T6 st') : Goes w w6 B T st' :=
  ⟨fm, rm, xm, D, vs, vt, ps, T6, h, fun k hk => e6 k (Nat.lt_of_lt_of_le hk hb.size), t6.before hb⟩

theorem Goes.chain2 {w3 w4 w5 w6 : World} {T4 T5 T6 : Tags} {st' : St} (hb : Below w.heap.size w w3) (h4 : ∀ k, k < w3.heap.size → T4 k = T k) (t4 : Turn (fun k => T k ≠ .no) w3 w4) (h5 : ∀ k, k < w4.heap.size → T5 k = T4 k) (t5 : Turn (fun k => T4 k ≠ .no) w4 w5) (h6 : ∀ k, k < w5.heap.size → T6 k = T5 k) (t6 : Turn (fun k => T5 k ≠ .no) w5 w6)
    (h : WdAt w6 B fm rm xm D vs vt ps T6 st') : Goes w w6 B T st' :=
  Goes.chain hb h4 ⟨t4.os, t4.tape, t4.output, t4.size, t4.block⟩ h5 t5 h6 t6 h
set_option maxHeartbeats 2000000 in
set_option maxRecDepth 100000 in
theorem write_ (h : WdAt w B fm rm xm D vs vt ps T st) (hk : 0 ≤ k ∧ k < 256) (hn : Small n) (hm : st.made ≤ 1000000) (hs : st.streams.length ≤ 1000000) (ht : st.trace.length ≤ 1000000) (hd : ((st.file n).getD []).length + d.size ≤ 1000000000) :
    Calls Try.prog 22 #[ptr B, .int .u8 k, .string n, .string d] w fun e w' => e = .returned (.int .i64 (writeE st k n)) ∧ Goes w w' B T (writeS st k n d) := by
  have hC := Lib.hid h.cells
  have HP := Lib.hid h
  by_cases h6 : k = 6
  · subst h6
    have HO := Lib.hid (show openB 6 noText st.streams = true from rfl)
    have hw : wname 6 n = noText := rfl
    have hno : Small noText := by unfold Small; decide
    by_cases hf : st.fails 3 noText = true
    · have he : writeE st 6 n = 14 := by unfold writeE; rw [hw, HO.out, if_neg (by decide), if_pos hf]
      have hx : writeS st 6 n d = st := if_neg fun e => by rw [he] at e; exact absurd e.1 (by decide)
      rw [he, hx]
      have HF := Lib.hid hf
      clear he hx hf hw h
      go_enter Try.func22, Try.ntmps22
      go_wp2_with (first
        | (go_at_call 44; fail)
        | (go_at_call 30; refine (writeString d H4.out.2.2.2.2.1 (by rw [H4.out.2.2.2.1]; exact hd)).mono ?_; rintro e w5 ⟨rfl, buf', s1, s2, s3⟩; obtain ⟨T5, r1, r2, r3⟩ := H4.out.1.wrote hn H4.out.2.2.2.2.2.2.2 H4.out.2.2.2.2.1 H4.out.2.2.2.2.2.1 H4.out.2.2.2.2.2.2.1 s2 s1 s3; have H5 := Lib.hid (⟨r1, r2, r3⟩ : _ ∧ _ ∧ _); clear s1 s2 s3 r1 r2 r3)
        | (go_at_call 29; refine (file H3.out.1 n hn hm).mono ?_; rintro e w4 ⟨b, D', T', rfl, q1, q2, q3, q4⟩; obtain ⟨l, buf, q5, q6, q7, q8⟩ := begun_at q1 hn q4; have q9 := q5.symm.trans (beginS_file st n); have q10 := Option.some.inj q9; have H4 := Lib.hid (⟨q1, q2, q3, q10, q6, q7, q8, q4⟩ : _ ∧ _ ∧ _ ∧ _ ∧ _ ∧ _ ∧ _ ∧ _); clear q1 q2 q3 q4 q5 q6 q7 q8 q9 q10)
        | (go_at_call 43; refine (failing H2.out.1 3 _ (by decide) (by decide) hno).mono ?_; rintro e w3 ⟨rfl, hb3⟩; rw [HF.out]; have h3 := H2.out.1.below hb3; have hb3' := H2.out.2.trans (hb3.mono H2.out.2.size); have c0 := h3.cells.c0; have H3 := Lib.hid (⟨h3, hb3'⟩ : _ ∧ _); clear h3 hb3 hb3')
        | (go_at_call 14; refine (isOpen HP.out _ _ hs).mono ?_; rintro e w2 ⟨rfl, hb2⟩; rw [HO.out]; have h2 := HP.out.below hb2; have c0 := h2.cells.c0; have H2 := Lib.hid (⟨h2, hb2⟩ : _ ∧ _); clear h2 hb2)
        | (go_at_call 39; refine (made hC.out).mono ?_; rintro e w' ⟨rfl, hw⟩; obtain rfl := hw.symm; clear hw))
      go_ret
      exact ⟨rfl, HP.out.goes H3.out.2⟩
    · have hf0 : st.fails 3 noText = false := by simpa using hf
      have he : writeE st 6 n = 0 := by unfold writeE; rw [hw, HO.out, if_neg (by decide), if_neg hf]
      rw [he]
      have HF := Lib.hid hf0
      by_cases hd0 : d = noText
      · have hx : writeS st 6 n d = st := if_neg fun e => e.2 hd0
        rw [hx]
        have hxd : (d.toList == []) = true := by rw [hd0, noText_list]; rfl
        clear he hx hf hf0 hw h hd0
        go_enter Try.func22, Try.ntmps22
        go_wp2_with (first
          | (go_at_call 44; fail)
          | (go_at_call 30; refine (writeString d H4.out.2.2.2.2.1 (by rw [H4.out.2.2.2.1]; exact hd)).mono ?_; rintro e w5 ⟨rfl, buf', s1, s2, s3⟩; obtain ⟨T5, r1, r2, r3⟩ := H4.out.1.wrote hn H4.out.2.2.2.2.2.2.2 H4.out.2.2.2.2.1 H4.out.2.2.2.2.2.1 H4.out.2.2.2.2.2.2.1 s2 s1 s3; have H5 := Lib.hid (⟨r1, r2, r3⟩ : _ ∧ _ ∧ _); clear s1 s2 s3 r1 r2 r3)
          | (go_at_call 29; refine (file H3.out.1 n hn hm).mono ?_; rintro e w4 ⟨b, D', T', rfl, q1, q2, q3, q4⟩; obtain ⟨l, buf, q5, q6, q7, q8⟩ := begun_at q1 hn q4; have q9 := q5.symm.trans (beginS_file st n); have q10 := Option.some.inj q9; have H4 := Lib.hid (⟨q1, q2, q3, q10, q6, q7, q8, q4⟩ : _ ∧ _ ∧ _ ∧ _ ∧ _ ∧ _ ∧ _ ∧ _); clear q1 q2 q3 q4 q5 q6 q7 q8 q9 q10)
          | (go_at_call 43; refine (failing H2.out.1 3 _ (by decide) (by decide) hno).mono ?_; rintro e w3 ⟨rfl, hb3⟩; rw [HF.out]; have h3 := H2.out.1.below hb3; have hb3' := H2.out.2.trans (hb3.mono H2.out.2.size); have c0 := h3.cells.c0; have H3 := Lib.hid (⟨h3, hb3'⟩ : _ ∧ _); clear h3 hb3 hb3')
          | (go_at_call 14; refine (isOpen HP.out _ _ hs).mono ?_; rintro e w2 ⟨rfl, hb2⟩; rw [HO.out]; have h2 := HP.out.below hb2; have c0 := h2.cells.c0; have H2 := Lib.hid (⟨h2, hb2⟩ : _ ∧ _); clear h2 hb2)
          | (go_at_call 39; refine (made hC.out).mono ?_; rintro e w' ⟨rfl, hw⟩; obtain rfl := hw.symm; clear hw))
        go_ret
        exact ⟨rfl, HP.out.goes H3.out.2⟩
      · have hx : writeS st 6 n d = wroteS st 6 n d := if_pos ⟨he, hd0⟩
        rw [hx]
        have hxd : (d.toList == []) = false := by rw [← noText_list]; exact toList_ne hd0
        clear he hx hf hf0 hw h hd0
        go_enter Try.func22, Try.ntmps22
        go_wp2_with (first
          | (go_at_call 44; refine (note H3.out.1 ⟨2, 6, noText, d, 0⟩ ht).mono ?_; rintro e w6 ⟨rfl, vt', T6, s1, s2, s3⟩; have H6 := Lib.hid (⟨s1, s2, s3⟩ : _ ∧ _ ∧ _); clear s1 s2 s3)
          | (go_at_call 30; refine (writeString d H4.out.2.2.2.2.1 (by rw [H4.out.2.2.2.1]; exact hd)).mono ?_; rintro e w5 ⟨rfl, buf', s1, s2, s3⟩; obtain ⟨T5, r1, r2, r3⟩ := H4.out.1.wrote hn H4.out.2.2.2.2.2.2.2 H4.out.2.2.2.2.1 H4.out.2.2.2.2.2.1 H4.out.2.2.2.2.2.2.1 s2 s1 s3; have H5 := Lib.hid (⟨r1, r2, r3⟩ : _ ∧ _ ∧ _); clear s1 s2 s3 r1 r2 r3)
          | (go_at_call 29; refine (file H3.out.1 n hn hm).mono ?_; rintro e w4 ⟨b, D', T', rfl, q1, q2, q3, q4⟩; obtain ⟨l, buf, q5, q6, q7, q8⟩ := begun_at q1 hn q4; have q9 := q5.symm.trans (beginS_file st n); have q10 := Option.some.inj q9; have H4 := Lib.hid (⟨q1, q2, q3, q10, q6, q7, q8, q4⟩ : _ ∧ _ ∧ _ ∧ _ ∧ _ ∧ _ ∧ _ ∧ _); clear q1 q2 q3 q4 q5 q6 q7 q8 q9 q10)
          | (go_at_call 43; refine (failing H2.out.1 3 _ (by decide) (by decide) hno).mono ?_; rintro e w3 ⟨rfl, hb3⟩; rw [HF.out]; have h3 := H2.out.1.below hb3; have hb3' := H2.out.2.trans (hb3.mono H2.out.2.size); have c0 := h3.cells.c0; have H3 := Lib.hid (⟨h3, hb3'⟩ : _ ∧ _); clear h3 hb3 hb3')
          | (go_at_call 14; refine (isOpen HP.out _ _ hs).mono ?_; rintro e w2 ⟨rfl, hb2⟩; rw [HO.out]; have h2 := HP.out.below hb2; have c0 := h2.cells.c0; have H2 := Lib.hid (⟨h2, hb2⟩ : _ ∧ _); clear h2 hb2)
          | (go_at_call 39; refine (made hC.out).mono ?_; rintro e w' ⟨rfl, hw⟩; obtain rfl := hw.symm; clear hw))
        go_ret
        exact ⟨rfl, by rw [wroteS_note (by omega)]; exact Goes.step H3.out.2 H6.out.2.1 H6.out.2.2 H6.out.1⟩
  · have hw : wname k n = n := if_neg h6
    have hx6 : (k == 6) = false := beq_eq_false_iff_ne.2 h6
    by_cases h3 : k < 3
    · have he : writeE st k n = 16 := by unfold writeE; rw [if_pos (.inl h3)]
      have hx : writeS st k n d = st := if_neg fun e => by rw [he] at e; exact absurd e.1 (by decide)
      rw [he, hx]
      clear he hx hw h h6
      go_enter Try.func22, Try.ntmps22
      go_wp2_with (go_at_call 39; refine (made hC.out).mono ?_; rintro e w' ⟨rfl, hw⟩; obtain rfl := hw.symm; clear hw)
      go_ret
      exact ⟨rfl, HP.out.goes (Below.refl _ _)⟩
    · cases hop : openB k n st.streams
      · have he : writeE st k n = 16 := by unfold writeE; rw [hw, if_pos (.inr hop)]
        have hx : writeS st k n d = st := if_neg fun e => by rw [he] at e; exact absurd e.1 (by decide)
        rw [he, hx]
        have HO := Lib.hid hop
        clear he hx hw h h6 hop
        go_enter Try.func22, Try.ntmps22
        go_wp2_with (first
          | (go_at_call 44; fail)
          | (go_at_call 30; refine (writeString d H4.out.2.2.2.2.1 (by rw [H4.out.2.2.2.1]; exact hd)).mono ?_; rintro e w5 ⟨rfl, buf', s1, s2, s3⟩; obtain ⟨T5, r1, r2, r3⟩ := H4.out.1.wrote hn H4.out.2.2.2.2.2.2.2 H4.out.2.2.2.2.1 H4.out.2.2.2.2.2.1 H4.out.2.2.2.2.2.2.1 s2 s1 s3; rw [H4.out.2.2.2.1] at r1; have H5 := Lib.hid (⟨r1, r2, r3⟩ : _ ∧ _ ∧ _); clear s1 s2 s3 r1 r2 r3)
          | (go_at_call 29; refine (file H3.out.1 n hn hm).mono ?_; rintro e w4 ⟨b, D', T', rfl, q1, q2, q3, q4⟩; obtain ⟨l, buf, q5, q6, q7, q8⟩ := begun_at q1 hn q4; have q9 := q5.symm.trans (beginS_file st n); have q10 := Option.some.inj q9; have H4 := Lib.hid (⟨q1, q2, q3, q10, q6, q7, q8, q4⟩ : _ ∧ _ ∧ _ ∧ _ ∧ _ ∧ _ ∧ _ ∧ _); clear q1 q2 q3 q4 q5 q6 q7 q8 q9 q10)
          | (go_at_call 43; refine (failing H2.out.1 3 _ (by decide) (by decide) hn).mono ?_; rintro e w3 ⟨rfl, hb3⟩; rw [HF.out]; have h3 := H2.out.1.below hb3; have hb3' := H2.out.2.trans (hb3.mono H2.out.2.size); have c0 := h3.cells.c0; have H3 := Lib.hid (⟨h3, hb3'⟩ : _ ∧ _); clear h3 hb3 hb3')
          | (go_at_call 14; refine (isOpen HP.out _ _ hs).mono ?_; rintro e w2 ⟨rfl, hb2⟩; rw [HO.out]; have h2 := HP.out.below hb2; have c0 := h2.cells.c0; have H2 := Lib.hid (⟨h2, hb2⟩ : _ ∧ _); clear h2 hb2)
          | (go_at_call 39; refine (made hC.out).mono ?_; rintro e w' ⟨rfl, hw⟩; obtain rfl := hw.symm; clear hw))
        go_ret
        exact ⟨rfl, HP.out.goes H2.out.2⟩
      have HO := Lib.hid hop
      by_cases hf : st.fails 3 n = true
      · have he : writeE st k n = 14 := by unfold writeE; rw [hw, hop, if_neg (by simp [h3]), if_pos hf]
        have hx : writeS st k n d = st := if_neg fun e => by rw [he] at e; exact absurd e.1 (by decide)
        rw [he, hx]
        have HF := Lib.hid hf
        clear he hx hf hw h h6 hop
        go_enter Try.func22, Try.ntmps22
        go_wp2_with (first
          | (go_at_call 44; fail)
          | (go_at_call 30; refine (writeString d H4.out.2.2.2.2.1 (by rw [H4.out.2.2.2.1]; exact hd)).mono ?_; rintro e w5 ⟨rfl, buf', s1, s2, s3⟩; obtain ⟨T5, r1, r2, r3⟩ := H4.out.1.wrote hn H4.out.2.2.2.2.2.2.2 H4.out.2.2.2.2.1 H4.out.2.2.2.2.2.1 H4.out.2.2.2.2.2.2.1 s2 s1 s3; rw [H4.out.2.2.2.1] at r1; have H5 := Lib.hid (⟨r1, r2, r3⟩ : _ ∧ _ ∧ _); clear s1 s2 s3 r1 r2 r3)
          | (go_at_call 29; refine (file H3.out.1 n hn hm).mono ?_; rintro e w4 ⟨b, D', T', rfl, q1, q2, q3, q4⟩; obtain ⟨l, buf, q5, q6, q7, q8⟩ := begun_at q1 hn q4; have q9 := q5.symm.trans (beginS_file st n); have q10 := Option.some.inj q9; have H4 := Lib.hid (⟨q1, q2, q3, q10, q6, q7, q8, q4⟩ : _ ∧ _ ∧ _ ∧ _ ∧ _ ∧ _ ∧ _ ∧ _); clear q1 q2 q3 q4 q5 q6 q7 q8 q9 q10)
          | (go_at_call 43; refine (failing H2.out.1 3 _ (by decide) (by decide) hn).mono ?_; rintro e w3 ⟨rfl, hb3⟩; rw [HF.out]; have h3 := H2.out.1.below hb3; have hb3' := H2.out.2.trans (hb3.mono H2.out.2.size); have c0 := h3.cells.c0; have H3 := Lib.hid (⟨h3, hb3'⟩ : _ ∧ _); clear h3 hb3 hb3')
          | (go_at_call 14; refine (isOpen HP.out _ _ hs).mono ?_; rintro e w2 ⟨rfl, hb2⟩; rw [HO.out]; have h2 := HP.out.below hb2; have c0 := h2.cells.c0; have H2 := Lib.hid (⟨h2, hb2⟩ : _ ∧ _); clear h2 hb2)
          | (go_at_call 39; refine (made hC.out).mono ?_; rintro e w' ⟨rfl, hw⟩; obtain rfl := hw.symm; clear hw))
        go_ret
        exact ⟨rfl, HP.out.goes H3.out.2⟩
      have hf0 : st.fails 3 n = false := by simpa using hf
      have he : writeE st k n = 0 := by unfold writeE; rw [hw, hop, if_neg (by simp [h3]), if_neg hf]
      rw [he]
      have HF := Lib.hid hf0
      by_cases hd0 : d = noText
      · have hx : writeS st k n d = st := if_neg fun e => e.2 hd0
        rw [hx]
        have hxd : (d.toList == []) = true := by rw [hd0, noText_list]; rfl
        clear he hx hf hf0 hw h h6 hd0 hop
        go_enter Try.func22, Try.ntmps22
        go_wp2_with (first
          | (go_at_call 44; fail)
          | (go_at_call 30; refine (writeString d H4.out.2.2.2.2.1 (by rw [H4.out.2.2.2.1]; exact hd)).mono ?_; rintro e w5 ⟨rfl, buf', s1, s2, s3⟩; obtain ⟨T5, r1, r2, r3⟩ := H4.out.1.wrote hn H4.out.2.2.2.2.2.2.2 H4.out.2.2.2.2.1 H4.out.2.2.2.2.2.1 H4.out.2.2.2.2.2.2.1 s2 s1 s3; rw [H4.out.2.2.2.1] at r1; have H5 := Lib.hid (⟨r1, r2, r3⟩ : _ ∧ _ ∧ _); clear s1 s2 s3 r1 r2 r3)
          | (go_at_call 29; refine (file H3.out.1 n hn hm).mono ?_; rintro e w4 ⟨b, D', T', rfl, q1, q2, q3, q4⟩; obtain ⟨l, buf, q5, q6, q7, q8⟩ := begun_at q1 hn q4; have q9 := q5.symm.trans (beginS_file st n); have q10 := Option.some.inj q9; have H4 := Lib.hid (⟨q1, q2, q3, q10, q6, q7, q8, q4⟩ : _ ∧ _ ∧ _ ∧ _ ∧ _ ∧ _ ∧ _ ∧ _); clear q1 q2 q3 q4 q5 q6 q7 q8 q9 q10)
          | (go_at_call 43; refine (failing H2.out.1 3 _ (by decide) (by decide) hn).mono ?_; rintro e w3 ⟨rfl, hb3⟩; rw [HF.out]; have h3 := H2.out.1.below hb3; have hb3' := H2.out.2.trans (hb3.mono H2.out.2.size); have c0 := h3.cells.c0; have H3 := Lib.hid (⟨h3, hb3'⟩ : _ ∧ _); clear h3 hb3 hb3')
          | (go_at_call 14; refine (isOpen HP.out _ _ hs).mono ?_; rintro e w2 ⟨rfl, hb2⟩; rw [HO.out]; have h2 := HP.out.below hb2; have c0 := h2.cells.c0; have H2 := Lib.hid (⟨h2, hb2⟩ : _ ∧ _); clear h2 hb2)
          | (go_at_call 39; refine (made hC.out).mono ?_; rintro e w' ⟨rfl, hw⟩; obtain rfl := hw.symm; clear hw))
        go_ret
        exact ⟨rfl, HP.out.goes H3.out.2⟩
      have hx : writeS st k n d = wroteS st k n d := if_pos ⟨he, hd0⟩
      have hxd : (d.toList == []) = false := by rw [← noText_list]; exact toList_ne hd0
      by_cases h34 : k = 3 ∨ k = 4
      · rw [hx, wroteS_file h34 hw]
        have HW := Lib.hid (⟨h34, hw⟩ : _ ∧ _)
        clear he hx hf hf0 hw h h6 hd0 hop
        rcases h34 with rfl | rfl
        · go_enter Try.func22, Try.ntmps22
          go_wp2_with (first
            | (go_at_call 44; refine (note H5.out.1 ⟨2, 3, n, d, 0⟩ (by show (beginS st n).trace.length ≤ _; rw [beginS_trace]; exact ht)).mono ?_; rintro e w6 ⟨rfl, vt', T6, s1, s2, s3⟩; have H6 := Lib.hid (⟨s1, s2, s3⟩ : _ ∧ _ ∧ _); clear s1 s2 s3)
            | (go_at_call 30; refine (writeString d H4.out.2.2.2.2.1 (by rw [H4.out.2.2.2.1]; exact hd)).mono ?_; rintro e w5 ⟨rfl, buf', s1, s2, s3⟩; obtain ⟨T5, r1, r2, r3⟩ := H4.out.1.wrote hn H4.out.2.2.2.2.2.2.2 H4.out.2.2.2.2.1 H4.out.2.2.2.2.2.1 H4.out.2.2.2.2.2.2.1 s2 s1 s3; rw [H4.out.2.2.2.1] at r1; have H5 := Lib.hid (⟨r1, r2, r3⟩ : _ ∧ _ ∧ _); clear s1 s2 s3 r1 r2 r3)
            | (go_at_call 29; refine (file H3.out.1 n hn hm).mono ?_; rintro e w4 ⟨b, D', T', rfl, q1, q2, q3, q4⟩; obtain ⟨l, buf, q5, q6, q7, q8⟩ := begun_at q1 hn q4; have q9 := q5.symm.trans (beginS_file st n); have q10 := Option.some.inj q9; have H4 := Lib.hid (⟨q1, q2, q3, q10, q6, q7, q8, q4⟩ : _ ∧ _ ∧ _ ∧ _ ∧ _ ∧ _ ∧ _ ∧ _); clear q1 q2 q3 q4 q5 q6 q7 q8 q9 q10)
            | (go_at_call 43; refine (failing H2.out.1 3 _ (by decide) (by decide) hn).mono ?_; rintro e w3 ⟨rfl, hb3⟩; rw [HF.out]; have h3 := H2.out.1.below hb3; have hb3' := H2.out.2.trans (hb3.mono H2.out.2.size); have c0 := h3.cells.c0; have H3 := Lib.hid (⟨h3, hb3'⟩ : _ ∧ _); clear h3 hb3 hb3')
            | (go_at_call 14; refine (isOpen HP.out _ _ hs).mono ?_; rintro e w2 ⟨rfl, hb2⟩; rw [HO.out]; have h2 := HP.out.below hb2; have c0 := h2.cells.c0; have H2 := Lib.hid (⟨h2, hb2⟩ : _ ∧ _); clear h2 hb2)
            | (go_at_call 39; refine (made hC.out).mono ?_; rintro e w' ⟨rfl, hw⟩; obtain rfl := hw.symm; clear hw))
          go_ret
          exact ⟨rfl, Goes.chain2 H3.out.2 H4.out.2.1 H4.out.2.2.1 H5.out.2.1 H5.out.2.2 H6.out.2.1 H6.out.2.2 H6.out.1⟩
        · go_enter Try.func22, Try.ntmps22
          go_wp2_with (first
            | (go_at_call 44; refine (note H5.out.1 ⟨2, 4, n, d, 0⟩ (by show (beginS st n).trace.length ≤ _; rw [beginS_trace]; exact ht)).mono ?_; rintro e w6 ⟨rfl, vt', T6, s1, s2, s3⟩; have H6 := Lib.hid (⟨s1, s2, s3⟩ : _ ∧ _ ∧ _); clear s1 s2 s3)
            | (go_at_call 30; refine (writeString d H4.out.2.2.2.2.1 (by rw [H4.out.2.2.2.1]; exact hd)).mono ?_; rintro e w5 ⟨rfl, buf', s1, s2, s3⟩; obtain ⟨T5, r1, r2, r3⟩ := H4.out.1.wrote hn H4.out.2.2.2.2.2.2.2 H4.out.2.2.2.2.1 H4.out.2.2.2.2.2.1 H4.out.2.2.2.2.2.2.1 s2 s1 s3; rw [H4.out.2.2.2.1] at r1; have H5 := Lib.hid (⟨r1, r2, r3⟩ : _ ∧ _ ∧ _); clear s1 s2 s3 r1 r2 r3)
            | (go_at_call 29; refine (file H3.out.1 n hn hm).mono ?_; rintro e w4 ⟨b, D', T', rfl, q1, q2, q3, q4⟩; obtain ⟨l, buf, q5, q6, q7, q8⟩ := begun_at q1 hn q4; have q9 := q5.symm.trans (beginS_file st n); have q10 := Option.some.inj q9; have H4 := Lib.hid (⟨q1, q2, q3, q10, q6, q7, q8, q4⟩ : _ ∧ _ ∧ _ ∧ _ ∧ _ ∧ _ ∧ _ ∧ _); clear q1 q2 q3 q4 q5 q6 q7 q8 q9 q10)
            | (go_at_call 43; refine (failing H2.out.1 3 _ (by decide) (by decide) hn).mono ?_; rintro e w3 ⟨rfl, hb3⟩; rw [HF.out]; have h3 := H2.out.1.below hb3; have hb3' := H2.out.2.trans (hb3.mono H2.out.2.size); have c0 := h3.cells.c0; have H3 := Lib.hid (⟨h3, hb3'⟩ : _ ∧ _); clear h3 hb3 hb3')
            | (go_at_call 14; refine (isOpen HP.out _ _ hs).mono ?_; rintro e w2 ⟨rfl, hb2⟩; rw [HO.out]; have h2 := HP.out.below hb2; have c0 := h2.cells.c0; have H2 := Lib.hid (⟨h2, hb2⟩ : _ ∧ _); clear h2 hb2)
            | (go_at_call 39; refine (made hC.out).mono ?_; rintro e w' ⟨rfl, hw⟩; obtain rfl := hw.symm; clear hw))
          go_ret
          exact ⟨rfl, Goes.chain2 H3.out.2 H4.out.2.1 H4.out.2.2.1 H5.out.2.1 H5.out.2.2 H6.out.2.1 H6.out.2.2 H6.out.1⟩
      · rw [hx, wroteS_note h34, hw]
        have hx3 : (k == 3) = false := beq_eq_false_iff_ne.2 fun e => h34 (.inl e)
        have hx4 : (k == 4) = false := beq_eq_false_iff_ne.2 fun e => h34 (.inr e)
        clear he hx hf hf0 hw h h6 hd0 h34 hop
        go_enter Try.func22, Try.ntmps22
        go_wp2_with (first
          | (go_at_call 44; refine (note H3.out.1 ⟨2, k, n, d, 0⟩ ht).mono ?_; rintro e w6 ⟨rfl, vt', T6, s1, s2, s3⟩; have H6 := Lib.hid (⟨s1, s2, s3⟩ : _ ∧ _ ∧ _); clear s1 s2 s3)
          | (go_at_call 30; refine (writeString d H4.out.2.2.2.2.1 (by rw [H4.out.2.2.2.1]; exact hd)).mono ?_; rintro e w5 ⟨rfl, buf', s1, s2, s3⟩; obtain ⟨T5, r1, r2, r3⟩ := H4.out.1.wrote hn H4.out.2.2.2.2.2.2.2 H4.out.2.2.2.2.1 H4.out.2.2.2.2.2.1 H4.out.2.2.2.2.2.2.1 s2 s1 s3; rw [H4.out.2.2.2.1] at r1; have H5 := Lib.hid (⟨r1, r2, r3⟩ : _ ∧ _ ∧ _); clear s1 s2 s3 r1 r2 r3)
          | (go_at_call 29; refine (file H3.out.1 n hn hm).mono ?_; rintro e w4 ⟨b, D', T', rfl, q1, q2, q3, q4⟩; obtain ⟨l, buf, q5, q6, q7, q8⟩ := begun_at q1 hn q4; have q9 := q5.symm.trans (beginS_file st n); have q10 := Option.some.inj q9; have H4 := Lib.hid (⟨q1, q2, q3, q10, q6, q7, q8, q4⟩ : _ ∧ _ ∧ _ ∧ _ ∧ _ ∧ _ ∧ _ ∧ _); clear q1 q2 q3 q4 q5 q6 q7 q8 q9 q10)
          | (go_at_call 43; refine (failing H2.out.1 3 _ (by decide) (by decide) hn).mono ?_; rintro e w3 ⟨rfl, hb3⟩; rw [HF.out]; have h3 := H2.out.1.below hb3; have hb3' := H2.out.2.trans (hb3.mono H2.out.2.size); have c0 := h3.cells.c0; have H3 := Lib.hid (⟨h3, hb3'⟩ : _ ∧ _); clear h3 hb3 hb3')
          | (go_at_call 14; refine (isOpen HP.out _ _ hs).mono ?_; rintro e w2 ⟨rfl, hb2⟩; rw [HO.out]; have h2 := HP.out.below hb2; have c0 := h2.cells.c0; have H2 := Lib.hid (⟨h2, hb2⟩ : _ ∧ _); clear h2 hb2)
          | (go_at_call 39; refine (made hC.out).mono ?_; rintro e w' ⟨rfl, hw⟩; obtain rfl := hw.symm; clear hw))
        go_ret
        exact ⟨rfl, Goes.step H3.out.2 H6.out.2.1 H6.out.2.2 H6.out.1⟩
end
end Go.Proofs.Ytkgoglcmoehbkaa.Wo
