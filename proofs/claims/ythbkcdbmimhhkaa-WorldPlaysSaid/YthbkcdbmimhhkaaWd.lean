/-
  Package world: writing to a stream (Write).
-/
import Derived.Test.YthbkcdbmimhhkaaWc
namespace Go.Proofs.Ythbkcdbmimhhkaa.Wo
open Go.RowKit Go.Maps

def wname (k : Int) (n : ByteArray) : ByteArray := if k = 6 then noText else n
def writeE (st : St) (k : Int) (n : ByteArray) : Int := if k < 3 ∨ openB k (wname k n) st.streams = false then 16 else if st.fails 3 (wname k n) = true then 14 else 0
def wroteS (st : St) (k : Int) (n d : ByteArray) : St :=
  { (if k = 3 ∨ k = 4 then { beginS st n with file := setF (beginS st n).file n (((st.file n).getD []) ++ d.data.toList) } else st) with trace := st.trace ++ [⟨2, k, wname k n, d, 0⟩] }
def writeS (st : St) (k : Int) (n d : ByteArray) : St := if writeE st k n = 0 ∧ d ≠ noText then wroteS st k n d else st
theorem beginS_file (st : St) (n : ByteArray) : (beginS st n).file n = some ((st.file n).getD []) := by
  unfold beginS
  cases ho : st.file n with
  | none => simp [setF]
  | some l => simp [ho]
theorem beginS_trace (st : St) (n : ByteArray) : (beginS st n).trace = st.trace := by
  unfold beginS
  split <;> rfl
theorem noText_list : noText.toList = [] := by rw [Lib.toList_data]

section
variable {w : World} {B fm rm xm : Nat} {D : DataW Unit} {vs vt : Value} {ps : List Value} {T : Tags} {st : St} {n d : ByteArray} {k : Int}

theorem wroteS_note (h : ¬ (k = 3 ∨ k = 4)) : wroteS st k n d = { st with trace := st.trace ++ [(⟨2, k, wname k n, d, 0⟩ : Ev)] } := by
  unfold wroteS
  rw [if_neg h]
theorem wroteS_file (h : k = 3 ∨ k = 4) (hw : wname k n = n) : wroteS st k n d = { { beginS st n with file := setF (beginS st n).file n (((st.file n).getD []) ++ d.data.toList) } with trace := (beginS st n).trace ++ [(⟨2, k, n, d, 0⟩ : Ev)] } := by
  unfold wroteS
  rw [if_pos h, beginS_trace, hw]
theorem Goes.step {w3 w6 : World} {T6 : Tags} {st' : St} (hb : Below w.heap.size w w3) (e6 : ∀ k, k < w3.heap.size → T6 k = T k) (t6 : Turn (fun k => T k ≠ .no) w3 w6) (h : WdAt w6 B fm rm xm D vs vt ps T6 st') : Goes w w6 B T st' :=
  ⟨fm, rm, xm, D, vs, vt, ps, T6, h, fun k hk => e6 k (Nat.lt_of_lt_of_le hk hb.size), t6.before hb⟩

theorem Goes.chain2 {w3 w4 w5 w6 : World} {T4 T5 T6 : Tags} {st' : St} (hb : Below w.heap.size w w3) (h4 : ∀ k, k < w3.heap.size → T4 k = T k) (t4 : Turn (fun k => T k ≠ .no) w3 w4) (h5 : ∀ k, k < w4.heap.size → T5 k = T4 k) (t5 : Turn (fun k => T4 k ≠ .no) w4 w5) (h6 : ∀ k, k < w5.heap.size → T6 k = T5 k) (t6 : Turn (fun k => T5 k ≠ .no) w5 w6)
    (h : WdAt w6 B fm rm xm D vs vt ps T6 st') : Goes w w6 B T st' :=
  Goes.chain hb h4 ⟨t4.os, t4.tape, t4.output, t4.size, t4.block⟩ h5 t5 h6 t6 h
set_option maxHeartbeats 2000000 in
set_option maxRecDepth 100000 in
theorem write_ (h : WdAt w B fm rm xm D vs vt ps T st) (hk : 0 ≤ k ∧ k < 256) (hn : Small n) (hm : st.made ≤ 1000000) (hs : st.streams.length ≤ 1000000) (ht : st.trace.length ≤ 1000000) (hd : ((st.file n).getD []).length + d.size ≤ 1000000000) :
    Calls Try.prog 22 #[ptr B, .int .u8 k, .string n, .string d] w fun e w' => e = .returned (.int .i64 (writeE st k n)) ∧ Goes w w' B T (writeS st k n d) := by
  have hC := Lib.hid h.cells
  have HP := Lib.hid h
  by_cases h6 : k = 6
  · subst h6
    have HO := Lib.hid (show openB 6 noText st.streams = true from rfl)
    have hw : wname 6 n = noText := rfl
    have hno : Small noText := by unfold Small; decide
    by_cases hf : st.fails 3 noText = true
    · have he : writeE st 6 n = 14 := by unfold writeE; rw [hw, HO.out, if_neg (by decide), if_pos hf]
      have hx : writeS st 6 n d = st := if_neg fun e => by rw [he] at e; exact absurd e.1 (by decide)
      rw [he, hx]
      have HF := Lib.hid hf
      clear he hx hf hw h
      go_enter Try.func22, Try.ntmps22
      go_wp2_with (first
        | (go_at_call 44; fail)
        | (go_at_call 30; refine (writeString d H4.out.2.2.2.2.1 (by rw [H4.out.2.2.2.1]; exact hd)).mono ?_; rintro e w5 ⟨rfl, buf', s1, s2, s3⟩; obtain ⟨T5, r1, r2, r3⟩ := H4.out.1.wrote hn H4.out.2.2.2.2.2.2.2 H4.out.2.2.2.2.1 H4.out.2.2.2.2.2.1 H4.out.2.2.2.2.2.2.1 s2 s1 s3; have H5 := Lib.hid (⟨r1, r2, r3⟩ : _ ∧ _ ∧ _); clear s1 s2 s3 r1 r2 r3)
        | (go_at_call 29; refine (file H3.out.1 n hn hm).mono ?_; rintro e w4 ⟨b, D', T', rfl, q1, q2, q3, q4⟩; obtain ⟨l, buf, q5, q6, q7, q8⟩ := begun_at q1 hn q4; have q9 := q5.symm.trans (beginS_file st n); have q10 := Option.some.inj q9; have H4 := Lib.hid (⟨q1, q2, q3, q10, q6, q7, q8, q4⟩ : _ ∧ _ ∧ _ ∧ _ ∧ _ ∧ _ ∧ _ ∧ _); clear q1 q2 q3 q4 q5 q6 q7 q8 q9 q10)
        | (go_at_call 43; refine (failing H2.out.1 3 _ (by decide) (by decide) hno).mono ?_; rintro e w3 ⟨rfl, hb3⟩; rw [HF.out]; have h3 := H2.out.1.below hb3; have hb3' := H2.out.2.trans (hb3.mono H2.out.2.size); have c0 := h3.cells.c0; have H3 := Lib.hid (⟨h3, hb3'⟩ : _ ∧ _); clear h3 hb3 hb3')
        | (go_at_call 14; refine (isOpen HP.out _ _ hs).mono ?_; rintro e w2 ⟨rfl, hb2⟩; rw [HO.out]; have h2 := HP.out.below hb2; have c0 := h2.cells.c0; have H2 := Lib.hid (⟨h2, hb2⟩ : _ ∧ _); clear h2 hb2)
        | (go_at_call 39; refine (made hC.out).mono ?_; rintro e w' ⟨rfl, hw⟩; obtain rfl := hw.symm; clear hw))
      go_ret
      exact ⟨rfl, HP.out.goes H3.out.2⟩
    · have hf0 : st.fails 3 noText = false := by simpa using hf
      have he : writeE st 6 n = 0 := by unfold writeE; rw [hw, HO.out, if_neg (by decide), if_neg hf]
      rw [he]
      have HF := Lib.hid hf0
      by_cases hd0 : d = noText
      · have hx : writeS st 6 n d = st := if_neg fun e => e.2 hd0
        rw [hx]
        have hxd : (d.toList == []) = true := by rw [hd0, noText_list]; rfl
        clear he hx hf hf0 hw h hd0
        go_enter Try.func22, Try.ntmps22
        go_wp2_with (first
          | (go_at_call 44; fail)
          | (go_at_call 30; refine (writeString d H4.out.2.2.2.2.1 (by rw [H4.out.2.2.2.1]; exact hd)).mono ?_; rintro e w5 ⟨rfl, buf', s1, s2, s3⟩; obtain ⟨T5, r1, r2, r3⟩ := H4.out.1.wrote hn H4.out.2.2.2.2.2.2.2 H4.out.2.2.2.2.1 H4.out.2.2.2.2.2.1 H4.out.2.2.2.2.2.2.1 s2 s1 s3; have H5 := Lib.hid (⟨r1, r2, r3⟩ : _ ∧ _ ∧ _); clear s1 s2 s3 r1 r2 r3)
          | (go_at_call 29; refine (file H3.out.1 n hn hm).mono ?_; rintro e w4 ⟨b, D', T', rfl, q1, q2, q3, q4⟩; obtain ⟨l, buf, q5, q6, q7, q8⟩ := begun_at q1 hn q4; have q9 := q5.symm.trans (beginS_file st n); have q10 := Option.some.inj q9; have H4 := Lib.hid (⟨q1, q2, q3, q10, q6, q7, q8, q4⟩ : _ ∧ _ ∧ _ ∧ _ ∧ _ ∧ _ ∧ _ ∧ _); clear q1 q2 q3 q4 q5 q6 q7 q8 q9 q10)
          | (go_at_call 43; refine (failing H2.out.1 3 _ (by decide) (by decide) hno).mono ?_; rintro e w3 ⟨rfl, hb3⟩; rw [HF.out]; have h3 := H2.out.1.below hb3; have hb3' := H2.out.2.trans (hb3.mono H2.out.2.size); have c0 := h3.cells.c0; have H3 := Lib.hid (⟨h3, hb3'⟩ : _ ∧ _); clear h3 hb3 hb3')
          | (go_at_call 14; refine (isOpen HP.out _ _ hs).mono ?_; rintro e w2 ⟨rfl, hb2⟩; rw [HO.out]; have h2 := HP.out.below hb2; have c0 := h2.cells.c0; have H2 := Lib.hid (⟨h2, hb2⟩ : _ ∧ _); clear h2 hb2)
          | (go_at_call 39; refine (made hC.out).mono ?_; rintro e w' ⟨rfl, hw⟩; obtain rfl := hw.symm; clear hw))
        go_ret
        exact ⟨rfl, HP.out.goes H3.out.2⟩
      · have hx : writeS st 6 n d = wroteS st 6 n d := if_pos ⟨he, hd0⟩
        rw [hx]
        have hxd : (d.toList == []) = false := by rw [← noText_list]; exact toList_ne hd0
        clear he hx hf hf0 hw h hd0
        go_enter Try.func22, Try.ntmps22
        go_wp2_with (first
          | (go_at_call 44; refine (note H3.out.1 ⟨2, 6, noText, d, 0⟩ ht).mono ?_; rintro e w6 ⟨rfl, vt', T6, s1, s2, s3⟩; have H6 := Lib.hid (⟨s1, s2, s3⟩ : _ ∧ _ ∧ _); clear s1 s2 s3)
          | (go_at_call 30; refine (writeString d H4.out.2.2.2.2.1 (by rw [H4.out.2.2.2.1]; exact hd)).mono ?_; rintro e w5 ⟨rfl, buf', s1, s2, s3⟩; obtain ⟨T5, r1, r2, r3⟩ := H4.out.1.wrote hn H4.out.2.2.2.2.2.2.2 H4.out.2.2.2.2.1 H4.out.2.2.2.2.2.1 H4.out.2.2.2.2.2.2.1 s2 s1 s3; have H5 := Lib.hid (⟨r1, r2, r3⟩ : _ ∧ _ ∧ _); clear s1 s2 s3 r1 r2 r3)
          | (go_at_call 29; refine (file H3.out.1 n hn hm).mono ?_; rintro e w4 ⟨b, D', T', rfl, q1, q2, q3, q4⟩; obtain ⟨l, buf, q5, q6, q7, q8⟩ := begun_at q1 hn q4; have q9 := q5.symm.trans (beginS_file st n); have q10 := Option.some.inj q9; have H4 := Lib.hid (⟨q1, q2, q3, q10, q6, q7, q8, q4⟩ : _ ∧ _ ∧ _ ∧ _ ∧ _ ∧ _ ∧ _ ∧ _); clear q1 q2 q3 q4 q5 q6 q7 q8 q9 q10)
          | (go_at_call 43; refine (failing H2.out.1 3 _ (by decide) (by decide) hno).mono ?_; rintro e w3 ⟨rfl, hb3⟩; rw [HF.out]; have h3 := H2.out.1.below hb3; have hb3' := H2.out.2.trans (hb3.mono H2.out.2.size); have c0 := h3.cells.c0; have H3 := Lib.hid (⟨h3, hb3'⟩ : _ ∧ _); clear h3 hb3 hb3')
          | (go_at_call 14; refine (isOpen HP.out _ _ hs).mono ?_; rintro e w2 ⟨rfl, hb2⟩; rw [HO.out]; have h2 := HP.out.below hb2; have c0 := h2.cells.c0; have H2 := Lib.hid (⟨h2, hb2⟩ : _ ∧ _); clear h2 hb2)
          | (go_at_call 39; refine (made hC.out).mono ?_; rintro e w' ⟨rfl, hw⟩; obtain rfl := hw.symm; clear hw))
        go_ret
        exact ⟨rfl, by rw [wroteS_note (by omega)]; exact Goes.step H3.out.2 H6.out.2.1 H6.out.2.2 H6.out.1⟩
  · have hw : wname k n = n := if_neg h6
    have hx6 : (k == 6) = false := beq_eq_false_iff_ne.2 h6
    by_cases h3 : k < 3
    · have he : writeE st k n = 16 := by unfold writeE; rw [if_pos (.inl h3)]
      have hx : writeS st k n d = st := if_neg fun e => by rw [he] at e; exact absurd e.1 (by decide)
      rw [he, hx]
      clear he hx hw h h6
      go_enter Try.func22, Try.ntmps22
      go_wp2_with (go_at_call 39; refine (made hC.out).mono ?_; rintro e w' ⟨rfl, hw⟩; obtain rfl := hw.symm; clear hw)
      go_ret
      exact ⟨rfl, HP.out.goes (Below.refl _ _)⟩
    · cases hop : openB k n st.streams
      · have he : writeE st k n = 16 := by unfold writeE; rw [hw, if_pos (.inr hop)]
        have hx : writeS st k n d = st := if_neg fun e => by rw [he] at e; exact absurd e.1 (by decide)
        rw [he, hx]
        have HO := Lib.hid hop
        clear he hx hw h h6 hop
        go_enter Try.func22, Try.ntmps22
        go_wp2_with (first
          | (go_at_call 44; fail)
          | (go_at_call 30; refine (writeString d H4.out.2.2.2.2.1 (by rw [H4.out.2.2.2.1]; exact hd)).mono ?_; rintro e w5 ⟨rfl, buf', s1, s2, s3⟩; obtain ⟨T5, r1, r2, r3⟩ := H4.out.1.wrote hn H4.out.2.2.2.2.2.2.2 H4.out.2.2.2.2.1 H4.out.2.2.2.2.2.1 H4.out.2.2.2.2.2.2.1 s2 s1 s3; rw [H4.out.2.2.2.1] at r1; have H5 := Lib.hid (⟨r1, r2, r3⟩ : _ ∧ _ ∧ _); clear s1 s2 s3 r1 r2 r3)
          | (go_at_call 29; refine (file H3.out.1 n hn hm).mono ?_; rintro e w4 ⟨b, D', T', rfl, q1, q2, q3, q4⟩; obtain ⟨l, buf, q5, q6, q7, q8⟩ := begun_at q1 hn q4; have q9 := q5.symm.trans (beginS_file st n); have q10 := Option.some.inj q9; have H4 := Lib.hid (⟨q1, q2, q3, q10, q6, q7, q8, q4⟩ : _ ∧ _ ∧ _ ∧ _ ∧ _ ∧ _ ∧ _ ∧ _); clear q1 q2 q3 q4 q5 q6 q7 q8 q9 q10)
          | (go_at_call 43; refine (failing H2.out.1 3 _ (by decide) (by decide) hn).mono ?_; rintro e w3 ⟨rfl, hb3⟩; rw [HF.out]; have h3 := H2.out.1.below hb3; have hb3' := H2.out.2.trans (hb3.mono H2.out.2.size); have c0 := h3.cells.c0; have H3 := Lib.hid (⟨h3, hb3'⟩ : _ ∧ _); clear h3 hb3 hb3')
          | (go_at_call 14; refine (isOpen HP.out _ _ hs).mono ?_; rintro e w2 ⟨rfl, hb2⟩; rw [HO.out]; have h2 := HP.out.below hb2; have c0 := h2.cells.c0; have H2 := Lib.hid (⟨h2, hb2⟩ : _ ∧ _); clear h2 hb2)
          | (go_at_call 39; refine (made hC.out).mono ?_; rintro e w' ⟨rfl, hw⟩; obtain rfl := hw.symm; clear hw))
        go_ret
        exact ⟨rfl, HP.out.goes H2.out.2⟩
      have HO := Lib.hid hop
      by_cases hf : st.fails 3 n = true
      · have he : writeE st k n = 14 := by unfold writeE; rw [hw, hop, if_neg (by simp [h3]), if_pos hf]
        have hx : writeS st k n d = st := if_neg fun e => by rw [he] at e; exact absurd e.1 (by decide)
        rw [he, hx]
        have HF := Lib.hid hf
        clear he hx hf hw h h6 hop
        go_enter Try.func22, Try.ntmps22
        go_wp2_with (first
          | (go_at_call 44; fail)
          | (go_at_call 30; refine (writeString d H4.out.2.2.2.2.1 (by rw [H4.out.2.2.2.1]; exact hd)).mono ?_; rintro e w5 ⟨rfl, buf', s1, s2, s3⟩; obtain ⟨T5, r1, r2, r3⟩ := H4.out.1.wrote hn H4.out.2.2.2.2.2.2.2 H4.out.2.2.2.2.1 H4.out.2.2.2.2.2.1 H4.out.2.2.2.2.2.2.1 s2 s1 s3; rw [H4.out.2.2.2.1] at r1; have H5 := Lib.hid (⟨r1, r2, r3⟩ : _ ∧ _ ∧ _); clear s1 s2 s3 r1 r2 r3)
          | (go_at_call 29; refine (file H3.out.1 n hn hm).mono ?_; rintro e w4 ⟨b, D', T', rfl, q1, q2, q3, q4⟩; obtain ⟨l, buf, q5, q6, q7, q8⟩ := begun_at q1 hn q4; have q9 := q5.symm.trans (beginS_file st n); have q10 := Option.some.inj q9; have H4 := Lib.hid (⟨q1, q2, q3, q10, q6, q7, q8, q4⟩ : _ ∧ _ ∧ _ ∧ _ ∧ _ ∧ _ ∧ _ ∧ _); clear q1 q2 q3 q4 q5 q6 q7 q8 q9 q10)
          | (go_at_call 43; refine (failing H2.out.1 3 _ (by decide) (by decide) hn).mono ?_; rintro e w3 ⟨rfl, hb3⟩; rw [HF.out]; have h3 := H2.out.1.below hb3; have hb3' := H2.out.2.trans (hb3.mono H2.out.2.size); have c0 := h3.cells.c0; have H3 := Lib.hid (⟨h3, hb3'⟩ : _ ∧ _); clear h3 hb3 hb3')
          | (go_at_call 14; refine (isOpen HP.out _ _ hs).mono ?_; rintro e w2 ⟨rfl, hb2⟩; rw [HO.out]; have h2 := HP.out.below hb2; have c0 := h2.cells.c0; have H2 := Lib.hid (⟨h2, hb2⟩ : _ ∧ _); clear h2 hb2)
          | (go_at_call 39; refine (made hC.out).mono ?_; rintro e w' ⟨rfl, hw⟩; obtain rfl := hw.symm; clear hw))
        go_ret
        exact ⟨rfl, HP.out.goes H3.out.2⟩
      have hf0 : st.fails 3 n = false := by simpa using hf
      have he : writeE st k n = 0 := by unfold writeE; rw [hw, hop, if_neg (by simp [h3]), if_neg hf]
      rw [he]
      have HF := Lib.hid hf0
      by_cases hd0 : d = noText
      · have hx : writeS st k n d = st := if_neg fun e => e.2 hd0
        rw [hx]
        have hxd : (d.toList == []) = true := by rw [hd0, noText_list]; rfl
        clear he hx hf hf0 hw h h6 hd0 hop
        go_enter Try.func22, Try.ntmps22
        go_wp2_with (first
          | (go_at_call 44; fail)
          | (go_at_call 30; refine (writeString d H4.out.2.2.2.2.1 (by rw [H4.out.2.2.2.1]; exact hd)).mono ?_; rintro e w5 ⟨rfl, buf', s1, s2, s3⟩; obtain ⟨T5, r1, r2, r3⟩ := H4.out.1.wrote hn H4.out.2.2.2.2.2.2.2 H4.out.2.2.2.2.1 H4.out.2.2.2.2.2.1 H4.out.2.2.2.2.2.2.1 s2 s1 s3; rw [H4.out.2.2.2.1] at r1; have H5 := Lib.hid (⟨r1, r2, r3⟩ : _ ∧ _ ∧ _); clear s1 s2 s3 r1 r2 r3)
          | (go_at_call 29; refine (file H3.out.1 n hn hm).mono ?_; rintro e w4 ⟨b, D', T', rfl, q1, q2, q3, q4⟩; obtain ⟨l, buf, q5, q6, q7, q8⟩ := begun_at q1 hn q4; have q9 := q5.symm.trans (beginS_file st n); have q10 := Option.some.inj q9; have H4 := Lib.hid (⟨q1, q2, q3, q10, q6, q7, q8, q4⟩ : _ ∧ _ ∧ _ ∧ _ ∧ _ ∧ _ ∧ _ ∧ _); clear q1 q2 q3 q4 q5 q6 q7 q8 q9 q10)
          | (go_at_call 43; refine (failing H2.out.1 3 _ (by decide) (by decide) hn).mono ?_; rintro e w3 ⟨rfl, hb3⟩; rw [HF.out]; have h3 := H2.out.1.below hb3; have hb3' := H2.out.2.trans (hb3.mono H2.out.2.size); have c0 := h3.cells.c0; have H3 := Lib.hid (⟨h3, hb3'⟩ : _ ∧ _); clear h3 hb3 hb3')
          | (go_at_call 14; refine (isOpen HP.out _ _ hs).mono ?_; rintro e w2 ⟨rfl, hb2⟩; rw [HO.out]; have h2 := HP.out.below hb2; have c0 := h2.cells.c0; have H2 := Lib.hid (⟨h2, hb2⟩ : _ ∧ _); clear h2 hb2)
          | (go_at_call 39; refine (made hC.out).mono ?_; rintro e w' ⟨rfl, hw⟩; obtain rfl := hw.symm; clear hw))
        go_ret
        exact ⟨rfl, HP.out.goes H3.out.2⟩
      have hx : writeS st k n d = wroteS st k n d := if_pos ⟨he, hd0⟩
      have hxd : (d.toList == []) = false := by rw [← noText_list]; exact toList_ne hd0
      by_cases h34 : k = 3 ∨ k = 4
      · rw [hx, wroteS_file h34 hw]
        have HW := Lib.hid (⟨h34, hw⟩ : _ ∧ _)
        clear he hx hf hf0 hw h h6 hd0 hop
        rcases h34 with rfl | rfl
        · go_enter Try.func22, Try.ntmps22
          go_wp2_with (first
            | (go_at_call 44; refine (note H5.out.1 ⟨2, 3, n, d, 0⟩ (by show (beginS st n).trace.length ≤ _; rw [beginS_trace]; exact ht)).mono ?_; rintro e w6 ⟨rfl, vt', T6, s1, s2, s3⟩; have H6 := Lib.hid (⟨s1, s2, s3⟩ : _ ∧ _ ∧ _); clear s1 s2 s3)
            | (go_at_call 30; refine (writeString d H4.out.2.2.2.2.1 (by rw [H4.out.2.2.2.1]; exact hd)).mono ?_; rintro e w5 ⟨rfl, buf', s1, s2, s3⟩; obtain ⟨T5, r1, r2, r3⟩ := H4.out.1.wrote hn H4.out.2.2.2.2.2.2.2 H4.out.2.2.2.2.1 H4.out.2.2.2.2.2.1 H4.out.2.2.2.2.2.2.1 s2 s1 s3; rw [H4.out.2.2.2.1] at r1; have H5 := Lib.hid (⟨r1, r2, r3⟩ : _ ∧ _ ∧ _); clear s1 s2 s3 r1 r2 r3)
            | (go_at_call 29; refine (file H3.out.1 n hn hm).mono ?_; rintro e w4 ⟨b, D', T', rfl, q1, q2, q3, q4⟩; obtain ⟨l, buf, q5, q6, q7, q8⟩ := begun_at q1 hn q4; have q9 := q5.symm.trans (beginS_file st n); have q10 := Option.some.inj q9; have H4 := Lib.hid (⟨q1, q2, q3, q10, q6, q7, q8, q4⟩ : _ ∧ _ ∧ _ ∧ _ ∧ _ ∧ _ ∧ _ ∧ _); clear q1 q2 q3 q4 q5 q6 q7 q8 q9 q10)
            | (go_at_call 43; refine (failing H2.out.1 3 _ (by decide) (by decide) hn).mono ?_; rintro e w3 ⟨rfl, hb3⟩; rw [HF.out]; have h3 := H2.out.1.below hb3; have hb3' := H2.out.2.trans (hb3.mono H2.out.2.size); have c0 := h3.cells.c0; have H3 := Lib.hid (⟨h3, hb3'⟩ : _ ∧ _); clear h3 hb3 hb3')
            | (go_at_call 14; refine (isOpen HP.out _ _ hs).mono ?_; rintro e w2 ⟨rfl, hb2⟩; rw [HO.out]; have h2 := HP.out.below hb2; have c0 := h2.cells.c0; have H2 := Lib.hid (⟨h2, hb2⟩ : _ ∧ _); clear h2 hb2)
            | (go_at_call 39; refine (made hC.out).mono ?_; rintro e w' ⟨rfl, hw⟩; obtain rfl := hw.symm; clear hw))
          go_ret
          exact ⟨rfl, Goes.chain2 H3.out.2 H4.out.2.1 H4.out.2.2.1 H5.out.2.1 H5.out.2.2 H6.out.2.1 H6.out.2.2 H6.out.1⟩
        · go_enter Try.func22, Try.ntmps22
          go_wp2_with (first
            | (go_at_call 44; refine (note H5.out.1 ⟨2, 4, n, d, 0⟩ (by show (beginS st n).trace.length ≤ _; rw [beginS_trace]; exact ht)).mono ?_; rintro e w6 ⟨rfl, vt', T6, s1, s2, s3⟩; have H6 := Lib.hid (⟨s1, s2, s3⟩ : _ ∧ _ ∧ _); clear s1 s2 s3)
            | (go_at_call 30; refine (writeString d H4.out.2.2.2.2.1 (by rw [H4.out.2.2.2.1]; exact hd)).mono ?_; rintro e w5 ⟨rfl, buf', s1, s2, s3⟩; obtain ⟨T5, r1, r2, r3⟩ := H4.out.1.wrote hn H4.out.2.2.2.2.2.2.2 H4.out.2.2.2.2.1 H4.out.2.2.2.2.2.1 H4.out.2.2.2.2.2.2.1 s2 s1 s3; rw [H4.out.2.2.2.1] at r1; have H5 := Lib.hid (⟨r1, r2, r3⟩ : _ ∧ _ ∧ _); clear s1 s2 s3 r1 r2 r3)
            | (go_at_call 29; refine (file H3.out.1 n hn hm).mono ?_; rintro e w4 ⟨b, D', T', rfl, q1, q2, q3, q4⟩; obtain ⟨l, buf, q5, q6, q7, q8⟩ := begun_at q1 hn q4; have q9 := q5.symm.trans (beginS_file st n); have q10 := Option.some.inj q9; have H4 := Lib.hid (⟨q1, q2, q3, q10, q6, q7, q8, q4⟩ : _ ∧ _ ∧ _ ∧ _ ∧ _ ∧ _ ∧ _ ∧ _); clear q1 q2 q3 q4 q5 q6 q7 q8 q9 q10)
            | (go_at_call 43; refine (failing H2.out.1 3 _ (by decide) (by decide) hn).mono ?_; rintro e w3 ⟨rfl, hb3⟩; rw [HF.out]; have h3 := H2.out.1.below hb3; have hb3' := H2.out.2.trans (hb3.mono H2.out.2.size); have c0 := h3.cells.c0; have H3 := Lib.hid (⟨h3, hb3'⟩ : _ ∧ _); clear h3 hb3 hb3')
            | (go_at_call 14; refine (isOpen HP.out _ _ hs).mono ?_; rintro e w2 ⟨rfl, hb2⟩; rw [HO.out]; have h2 := HP.out.below hb2; have c0 := h2.cells.c0; have H2 := Lib.hid (⟨h2, hb2⟩ : _ ∧ _); clear h2 hb2)
            | (go_at_call 39; refine (made hC.out).mono ?_; rintro e w' ⟨rfl, hw⟩; obtain rfl := hw.symm; clear hw))
          go_ret
          exact ⟨rfl, Goes.chain2 H3.out.2 H4.out.2.1 H4.out.2.2.1 H5.out.2.1 H5.out.2.2 H6.out.2.1 H6.out.2.2 H6.out.1⟩
      · rw [hx, wroteS_note h34, hw]
        have hx3 : (k == 3) = false := beq_eq_false_iff_ne.2 fun e => h34 (.inl e)
        have hx4 : (k == 4) = false := beq_eq_false_iff_ne.2 fun e => h34 (.inr e)
        clear he hx hf hf0 hw h h6 hd0 h34 hop
        go_enter Try.func22, Try.ntmps22
        go_wp2_with (first
          | (go_at_call 44; refine (note H3.out.1 ⟨2, k, n, d, 0⟩ ht).mono ?_; rintro e w6 ⟨rfl, vt', T6, s1, s2, s3⟩; have H6 := Lib.hid (⟨s1, s2, s3⟩ : _ ∧ _ ∧ _); clear s1 s2 s3)
          | (go_at_call 30; refine (writeString d H4.out.2.2.2.2.1 (by rw [H4.out.2.2.2.1]; exact hd)).mono ?_; rintro e w5 ⟨rfl, buf', s1, s2, s3⟩; obtain ⟨T5, r1, r2, r3⟩ := H4.out.1.wrote hn H4.out.2.2.2.2.2.2.2 H4.out.2.2.2.2.1 H4.out.2.2.2.2.2.1 H4.out.2.2.2.2.2.2.1 s2 s1 s3; rw [H4.out.2.2.2.1] at r1; have H5 := Lib.hid (⟨r1, r2, r3⟩ : _ ∧ _ ∧ _); clear s1 s2 s3 r1 r2 r3)
          | (go_at_call 29; refine (file H3.out.1 n hn hm).mono ?_; rintro e w4 ⟨b, D', T', rfl, q1, q2, q3, q4⟩; obtain ⟨l, buf, q5, q6, q7, q8⟩ := begun_at q1 hn q4; have q9 := q5.symm.trans (beginS_file st n); have q10 := Option.some.inj q9; have H4 := Lib.hid (⟨q1, q2, q3, q10, q6, q7, q8, q4⟩ : _ ∧ _ ∧ _ ∧ _ ∧ _ ∧ _ ∧ _ ∧ _); clear q1 q2 q3 q4 q5 q6 q7 q8 q9 q10)
          | (go_at_call 43; refine (failing H2.out.1 3 _ (by decide) (by decide) hn).mono ?_; rintro e w3 ⟨rfl, hb3⟩; rw [HF.out]; have h3 := H2.out.1.below hb3; have hb3' := H2.out.2.trans (hb3.mono H2.out.2.size); have c0 := h3.cells.c0; have H3 := Lib.hid (⟨h3, hb3'⟩ : _ ∧ _); clear h3 hb3 hb3')
          | (go_at_call 14; refine (isOpen HP.out _ _ hs).mono ?_; rintro e w2 ⟨rfl, hb2⟩; rw [HO.out]; have h2 := HP.out.below hb2; have c0 := h2.cells.c0; have H2 := Lib.hid (⟨h2, hb2⟩ : _ ∧ _); clear h2 hb2)
          | (go_at_call 39; refine (made hC.out).mono ?_; rintro e w' ⟨rfl, hw⟩; obtain rfl := hw.symm; clear hw))
        go_ret
        exact ⟨rfl, Goes.step H3.out.2 H6.out.2.1 H6.out.2.2 H6.out.1⟩
end
end Go.Proofs.Ythbkcdbmimhhkaa.Wo

/-
  Package world: reading from a stream (Read).
-/
namespace Go.Proofs.Ythbkcdbmimhhkaa.Wo
open Go.RowKit Go.Maps

def srcText (st : St) : Src → Option ByteArray
  | .none => none
  | .stdin => some st.stdin
  | .own t => some t
/- The stream that is read: where it stands, and what it has left. -/
def Reads (st : St) (k : Int) (n : ByteArray) (o : Option (Nat × Strm × ByteArray)) : Prop :=
  match o with
  | none => placeL k n st.streams < 0 ∨ ∃ (i : Nat) (s : Strm), placeL k n st.streams = i ∧ st.streams[i]? = some s ∧ srcText st s.src = none
  | some (i, s, t) => placeL k n st.streams = (i : Nat) ∧ st.streams[i]? = some s ∧ srcText st s.src = some t
theorem reads_ex (st : St) (k : Int) (n : ByteArray) : ∃ o, Reads st k n o := by
  by_cases h : placeL k n st.streams < 0
  · exact ⟨none, .inl h⟩
  · obtain ⟨i, hi⟩ : ∃ i : Nat, placeL k n st.streams = i := ⟨(placeL k n st.streams).toNat, by omega⟩
    obtain ⟨s, hs, _⟩ := placeL_get k n st.streams i hi
    cases ht : srcText st s.src with
    | none => exact ⟨none, .inr ⟨i, s, hi, hs, ht⟩⟩
    | some t => exact ⟨some (i, s, t), hi, hs, ht⟩
def readE (st : St) (n : ByteArray) (m : Int) (o : Option (Nat × Strm × ByteArray)) : Int := if o = none then 16 else if m < 1 then 2 else if st.fails 2 n = true then 13 else 0
def cutN (m : Int) (t : ByteArray) : Nat := (min m (t.size : Int)).toNat
def tookS (st : St) (i : Nat) (s : Strm) (t : ByteArray) : St :=
  match s.src with
  | .stdin => { st with stdin := t }
  | _ => { st with streams := st.streams.set i { s with src := .own t } }
theorem str_eq_nil (w : World) : (binOp .eql 111 (.pointer none) (.pointer none)).run Try.prog w = .ok (.bool true) w := by
  have h : ∀ d : Nat, (Op.equalIn (d + 1) 111 (.pointer none) (.pointer none)).run Try.prog w = .ok true w := fun d => by
    simp [Op.equalIn, run_underlying Try.underlying111]
  simp only [binOp]
  simp [Op.equal, Op.maxDepth, h 9999]
theorem str_eq_ptr (a : Addr) (w : World) : (binOp .eql 111 (.pointer (some a)) (.pointer none)).run Try.prog w = .ok (.bool false) w := by
  have h : ∀ d : Nat, (Op.equalIn (d + 1) 111 (.pointer (some a)) (.pointer none)).run Try.prog w = .ok false w := fun d => by
    simp [Op.equalIn, run_underlying Try.underlying111]
  simp only [binOp]
  simp [Op.equal, Op.maxDepth, h 9999]

theorem src_none {w : World} {B : Nat} {T : Tags} {s : Strm} {p : Value} {st : St} (h : SrcAt w B T s p) (hx : srcText st s.src = none) : p = .pointer none := by
  unfold SrcAt at h
  cases hs : s.src with
  | none => rw [hs] at h; exact h
  | stdin => rw [hs] at hx; cases hx
  | own t => rw [hs] at hx; cases hx

section
variable {w : World} {B fm rm xm : Nat} {D : DataW Unit} {vs vt : Value} {ps : List Value} {T : Tags} {st : St} {n : ByteArray} {k m : Int}

theorem src_some (h : WdAt w B fm rm xm D vs vt ps T st) {i : Nat} {s : Strm} {p : Value} {t : ByteArray} (hi : st.streams[i]? = some s) (hp : ps[i]? = some p) (hx : srcText st s.src = some t) :
    ∃ a, p = .pointer (some a) ∧ w.cell? a = some (.string t) ∧ w.frozen? a = false ∧ ∀ t', WdAt (w.setCell a (.string t')) B fm rm xm D vs vt ps T (tookS st i s t') ∧ Turn (fun k => T k ≠ .no) w (w.setCell a (.string t')) := by
  have hsrc := h.streams.each i s p hi hp
  unfold SrcAt at hsrc
  cases hs : s.src with
  | none => rw [hs] at hx; cases hx
  | stdin =>
    rw [hs] at hsrc hx
    cases hx
    refine ⟨_, hsrc, h.cells.c2, h.cells.z 2, fun t' => ?_⟩
    have := h.stdin t'
    unfold tookS
    rw [hs]
    exact this
  | own t0 =>
    rw [hs] at hsrc hx
    cases hx
    obtain ⟨b, rfl, hb, tb⟩ := hsrc
    refine ⟨_, rfl, by simp [World.cell?, hb], by simp [World.frozen?, hb], fun t' => ?_⟩
    have := h.readOn t' hi hp hs
    unfold tookS
    rw [hs]
    exact this
def ReadPost (w w' : World) (B : Nat) (T : Tags) (st : St) (n : ByteArray) (m : Int) (o : Option (Nat × Strm × ByteArray)) (e : Ending) : Prop :=
  match o with
  | none => e = .returned (.tuple #[.string noText, .int .i64 16]) ∧ Goes w w' B T st
  | some (i, s, t) => if readE st n m o = 0 then e = .returned (.tuple #[.string (t.extract 0 (cutN m t)), .int .i64 0]) ∧ Goes w w' B T (tookS st i s (t.extract (cutN m t) t.size)) else e = .returned (.tuple #[.string noText, .int .i64 (readE st n m o)]) ∧ Goes w w' B T st

set_option maxHeartbeats 2000000 in
set_option maxRecDepth 100000 in
theorem read_ (h : WdAt w B fm rm xm D vs vt ps T st) (hn : Small n) (hs : st.streams.length ≤ 1000000) (hm : -9223372036854775808 ≤ m ∧ m ≤ 9223372036854775807) {o : Option (Nat × Strm × ByteArray)} (ho : Reads st k n o) (hsz : ∀ i s t, o = some (i, s, t) → t.size ≤ 1000000000) :
    Calls Try.prog 21 #[ptr B, .int .u8 k, .string n, .int .i64 m] w fun e w' => ReadPost w w' B T st n m o e := by
  have hC := Lib.hid h.cells
  obtain ⟨oa, c, rfl, _⟩ := slice_of h.streams.row
  have HP := Lib.hid h
  cases o with
  | none =>
    rcases ho with hl | ⟨i, s, hl, hi, hx⟩
    · obtain ⟨pl, hpl⟩ : ∃ pl, pl = placeL k n st.streams := ⟨_, rfl⟩
      rw [← hpl] at hl
      have HL := Lib.hid hpl.symm
      clear hpl h
      go_enter Try.func21, Try.ntmps21
      go_wp2_with (first
        | (go_at_call 39; refine (made hC.out).mono ?_; rintro e w' ⟨rfl, hw⟩; obtain rfl := hw.symm; clear hw)
        | (go_at_call 41; refine (place HP.out k n hs).mono ?_; rintro e w2 ⟨rfl, hb2⟩; rw [HL.out]; have h2 := HP.out.below hb2; have H2 := Lib.hid (⟨h2, hb2⟩ : _ ∧ _); clear hb2 h2))
      go_ret2
      exact (⟨rfl, HP.out.goes H2.out.2⟩ : _ ∧ _)
    · have hlt := (List.getElem?_eq_some_iff.1 hi).1
      have hnn : ¬ (i : Int) < 0 := by omega
      have hin : (i : Int) < (st.streams.length : Int) := by omega
      have HL := Lib.hid hl
      have HS := Lib.hid hi
      have HX := Lib.hid hx
      clear hl hi hx h
      go_enter Try.func21, Try.ntmps21
      go_wp2_with (first
        | rw [str_eq_nil]
        | (go_at_call 39; refine (made hC.out).mono ?_; rintro e w' ⟨rfl, hw⟩; obtain rfl := hw.symm; clear hw)
        | (go_at_call 41; refine (place HP.out k n hs).mono ?_; rintro e w2 ⟨rfl, hb2⟩; rw [HL.out]; have h2 := HP.out.below hb2; have c8 := h2.cells.c8; obtain ⟨g, p, ea, hp, hsrc, d0, d1, d2⟩ := h2.streams.at HS.out; obtain rfl := ea; obtain rfl := src_none hsrc HX.out; clear hp hsrc d0 d1; have H2 := Lib.hid (⟨h2, hb2⟩ : _ ∧ _); clear hb2 h2))
      go_ret2
      exact (⟨rfl, HP.out.goes H2.out.2⟩ : _ ∧ _)
  | some q =>
    obtain ⟨i, s, t⟩ := q
    obtain ⟨hl, hi, hx⟩ := ho
    have hsz2 := hsz i s t rfl
    have hlt := (List.getElem?_eq_some_iff.1 hi).1
    have hnn : ¬ (i : Int) < 0 := by omega
    have hin : (i : Int) < (st.streams.length : Int) := by omega
    have HL := Lib.hid hl
    have HS := Lib.hid hi
    have HX := Lib.hid hx
    clear hl hi hx h hsz
    by_cases hm1 : m < 1
    · have he : readE st n m (some (i, s, t)) = 2 := by unfold readE; rw [if_neg (by simp), if_pos hm1]
      have HE := Lib.hid he
      clear he
      go_enter Try.func21, Try.ntmps21
      go_wp2_with (first
        | rw [str_eq_ptr]
        | (go_at_call 39; refine (made hC.out).mono ?_; rintro e w' ⟨rfl, hw⟩; obtain rfl := hw.symm; clear hw)
        | (go_at_call 41; refine (place HP.out k n hs).mono ?_; rintro e w2 ⟨rfl, hb2⟩; rw [HL.out]; have h2 := HP.out.below hb2; have c8 := h2.cells.c8; obtain ⟨g, p, ea, hp, hsrc, d0, d1, d2⟩ := h2.streams.at HS.out; obtain rfl := ea; obtain ⟨a, rfl, ca, fa, ua⟩ := src_some h2 HS.out hp HX.out; have HQ := Lib.hid hp; clear hp hsrc d0 d1 ua; have H2 := Lib.hid (⟨h2, hb2⟩ : _ ∧ _); clear hb2 h2))
      go_ret2
      show ite _ _ _
      rw [HE.out, if_neg (by decide)]
      exact ⟨rfl, HP.out.goes H2.out.2⟩
    by_cases hf : st.fails 2 n = true
    · have he : readE st n m (some (i, s, t)) = 13 := by unfold readE; rw [if_neg (by simp), if_neg hm1, if_pos hf]
      have HE := Lib.hid he
      have HF := Lib.hid hf
      clear he hf
      go_enter Try.func21, Try.ntmps21
      go_wp2_with (first
        | rw [str_eq_ptr]
        | (go_at_call 39; refine (made hC.out).mono ?_; rintro e w' ⟨rfl, hw⟩; obtain rfl := hw.symm; clear hw)
        | (go_at_call 43; refine (failing H2.out.1 2 n (by decide) (by decide) hn).mono ?_; rintro e w3 ⟨rfl, hb3⟩; rw [HF.out]; have h3 := H2.out.1.below hb3; have hb3' := H2.out.2.trans (hb3.mono H2.out.2.size); have c8' := h3.cells.c8; obtain ⟨g', p', ea, hp', hsrc, d0, d1, d2'⟩ := h3.streams.at HS.out; cases ea; have hpe := HQ.out.symm.trans hp'; cases hpe; obtain ⟨a', ea, ca', fa', ua⟩ := src_some h3 HS.out hp' HX.out; cases ea; have H3 := Lib.hid (⟨h3, hb3', ua⟩ : _ ∧ _ ∧ _); clear h3 hb3 hb3' hsrc d0 d1 hp' ua)
        | (go_at_call 41; refine (place HP.out k n hs).mono ?_; rintro e w2 ⟨rfl, hb2⟩; rw [HL.out]; have h2 := HP.out.below hb2; have c8 := h2.cells.c8; obtain ⟨g, p, ea, hp, hsrc, d0, d1, d2⟩ := h2.streams.at HS.out; obtain rfl := ea; obtain ⟨a, rfl, ca, fa, ua⟩ := src_some h2 HS.out hp HX.out; have HQ := Lib.hid hp; clear hp hsrc d0 d1 ua; have H2 := Lib.hid (⟨h2, hb2⟩ : _ ∧ _); clear hb2 h2))
      go_ret2
      show ite _ _ _
      rw [HE.out, if_neg (by decide)]
      exact ⟨rfl, HP.out.goes H3.out.2.1⟩
    have he : readE st n m (some (i, s, t)) = 0 := by unfold readE; rw [if_neg (by simp), if_neg hm1, if_neg hf]
    have HE := Lib.hid he
    have HF := Lib.hid (show st.fails 2 n = false by simpa using hf)
    clear he hf
    go_enter Try.func21, Try.ntmps21
    go_wp2_with (first
      | rw [str_eq_ptr]
      | (go_at_call 39; refine (made hC.out).mono ?_; rintro e w' ⟨rfl, hw⟩; obtain rfl := hw.symm; clear hw)
      | (go_at_call 43; refine (failing H2.out.1 2 n (by decide) (by decide) hn).mono ?_; rintro e w3 ⟨rfl, hb3⟩; rw [HF.out]; have h3 := H2.out.1.below hb3; have hb3' := H2.out.2.trans (hb3.mono H2.out.2.size); have c8' := h3.cells.c8; obtain ⟨g', p', ea, hp', hsrc, d0, d1, d2'⟩ := h3.streams.at HS.out; cases ea; have hpe := HQ.out.symm.trans hp'; cases hpe; obtain ⟨a', ea, ca', fa', ua⟩ := src_some h3 HS.out hp' HX.out; cases ea; have H3 := Lib.hid (⟨h3, hb3', ua⟩ : _ ∧ _ ∧ _); clear h3 hb3 hb3' hsrc d0 d1 hp' ua)
      | (go_at_call 41; refine (place HP.out k n hs).mono ?_; rintro e w2 ⟨rfl, hb2⟩; rw [HL.out]; have h2 := HP.out.below hb2; have c8 := h2.cells.c8; obtain ⟨g, p, ea, hp, hsrc, d0, d1, d2⟩ := h2.streams.at HS.out; obtain rfl := ea; obtain ⟨a, rfl, ca, fa, ua⟩ := src_some h2 HS.out hp HX.out; have HQ := Lib.hid hp; clear hp hsrc d0 d1 ua; have H2 := Lib.hid (⟨h2, hb2⟩ : _ ∧ _); clear hb2 h2))
    go_ret2
    show ite _ _ _
    rw [HE.out, if_pos rfl]
    obtain ⟨q1, q2⟩ := H3.out.2.2 (t.extract (cutN m t) t.size)
    exact ⟨rfl, Goes.step H3.out.2.1 (fun _ _ => rfl) q2 q1⟩
end
end Go.Proofs.Ythbkcdbmimhhkaa.Wo

/-
  Package world: a stream taken out (slices.Delete).
-/
namespace Go.Proofs.Ythbkcdbmimhhkaa.Wo
open Go.RowKit Go.Maps

theorem step_append_in {P : Program} {ops : Array Oper} {o : Oper} {a : Act} {w : World} {K : Act → World → Prop} {Q : Exit → Act → World → Prop} {E : Prop} (hgd : o.guard = none) (s x : Operand) (t : TypeId) (hop : o.op = Op.call { callee := Callee.builtin Builtin.append, args := #[s, x], argTypes := #[t, t] })
    (e : TypeId) (i : TypeInfo) (size : Nat) (h1 : P.underlying t = some (.slice e)) (h2 : P.info? e = some i) (h4 : i.size = size) (g n cap : Nat) (cur : Array Value) (hg : w.heap[g]? = some (.cells cur e (0, 0))) (hs : a.eval s = .slice (some ⟨g, 0, none⟩) n cap)
    (ad : Addr) (m c : Nat) (news : List Value) (hx : a.eval x = .slice (some ad) m c) (hn : news.length = m * size) (hc : ∀ j u, news[j]? = some u → w.cell? (ad.add j) = some u) (h1c : ∀ u ∈ news, u.oneCell' = true) (hroom : n + m ≤ cap) (hfit : n * size + news.length ≤ cur.size)
    (hK : K (a.put o.dst (.slice (some ⟨g, 0, none⟩) (n + m) cap)) (w.setRow g (cur.toList.take (n * size) ++ news ++ cur.toList.drop (n * size + news.length)).toArray)) :
    if Region.wanted o (yielded ops a.tmps) = true then Oper.wp P o a w K Q else E := by
  have hw : Region.wanted o (yielded ops a.tmps) = true := by simp [Region.wanted, hgd]
  rw [if_pos hw]
  subst h4
  have hrun := run_append_room (P := P) w t o.type e i h1 h2 g n cap cur hg ad m c news hn hc h1c hroom hfit
  unfold Oper.wp
  simp [execOp, hop, resolve, invoke, builtin, hs, hx, hrun, Result.andThen]
  rw [Oper.upon_value]
  simpa using hK

theorem run_clear_row (W : World) (g o c : Nat) (cur : Array Value) {i0 : TypeInfo} {z0 : Value} (hi0 : Try.prog.info? 113 = some i0) (hz0 : i0.zero = some z0) (hzs : z0.cells.size = 3) (h1 : ∀ u ∈ (Builtin.zeroCells z0.cells 1).toList, u.oneCell' = true) (hg : W.heap[g]? = some (.cells cur 113 (0, 0))) (hfit : o + 3 ≤ cur.size) :
    ∃ Z : List Value, Z.length = 3 ∧ (Builtin.clear_ #[84] 0 #[.slice (some ⟨g, o, none⟩) 1 c]).run Try.prog W = .ok (.tuple #[]) (W.setRow g (cur.toList.take o ++ Z ++ cur.toList.drop (o + 3)).toArray) := by
  have hv : ∀ w, (zeroValue 113).run Try.prog w = .ok z0 w := fun w => by simp [zeroValue, typeInfo, hi0, hz0]
  have hl : (Builtin.zeroCells z0.cells 1).toList.length = 3 := by simp [size_zeroCells, hzs]
  have hst := run_storeCells_at Try.prog g o 113 (Builtin.zeroCells z0.cells 1).toList 0 cur W hg (by rw [hl]; simpa using hfit) h1
  rw [hl] at hst
  simp only [Nat.add_zero] at hst
  refine ⟨_, hl, ?_⟩
  simp [Builtin.clear_, run_underlying Try.underlying84, hv, hst]
theorem zero_one {i0 : TypeInfo} {z0 : Value} (hi0 : Try.prog.info? 113 = some i0) (hz0 : i0.zero = some z0) : ∀ u ∈ (Builtin.zeroCells z0.cells 1).toList, u.oneCell' = true := by
  have h : (Try.prog.info? 113).map (fun i => i.zero.map fun z => (Builtin.zeroCells z.cells 1).toList.all (·.oneCell')) = some (some true) := by kernel_rfl
  rw [hi0, Option.map_some, hz0, Option.map_some] at h
  simp only [Option.some.injEq, List.all_eq_true] at h
  exact h
theorem row_out {cur A Bv : Array Value} {xs Z : List Value} {L i c : Nat} (hxl : xs.length = L * 3) (_hcs : cur.size = c * 3) (htake : cur.toList.take (L * 3) = xs) (hi : i < L) (hLc : L ≤ c) (hZ : Z.length = 3) {R : List Value} (hA : A = (cur.toList.take (i * 3) ++ (xs.drop ((i + 1) * 3) ++ R)).toArray) (hR : R.length = c * 3 - (L - 1) * 3)
    (hB : Bv = (A.toList.take ((L - 1) * 3) ++ Z ++ A.toList.drop ((L - 1) * 3 + 3)).toArray) : A.size = c * 3 ∧ Bv.size = c * 3 ∧ Bv.toList.take ((L - 1) * 3) = xs.take (i * 3) ++ xs.drop (i * 3 + 3) := by
  have e1 : cur.toList.take (i * 3) = xs.take (i * 3) := by rw [← htake, List.take_take, Nat.min_eq_left (by omega)]
  have l1 : (xs.take (i * 3) ++ xs.drop ((i + 1) * 3)).length = (L - 1) * 3 := by rw [List.length_append, List.length_take, List.length_drop]; omega
  have hAl : A.toList = (xs.take (i * 3) ++ xs.drop ((i + 1) * 3)) ++ R := by rw [hA, e1]; simp
  have hAs : A.toList.length = c * 3 := by rw [hAl, List.length_append, l1, hR]; omega
  have hAt : A.toList.take ((L - 1) * 3) = xs.take (i * 3) ++ xs.drop ((i + 1) * 3) := by rw [hAl, ← l1, List.take_left]
  refine ⟨by rw [← hAs]; simp, ?_, ?_⟩
  · rw [hB]
    simp only [List.size_toArray, List.length_append, List.length_take, List.length_drop, hZ]
    rw [hAs]; omega
  · rw [hB]
    show ((A.toList.take ((L - 1) * 3) ++ Z) ++ A.toList.drop ((L - 1) * 3 + 3)).take ((L - 1) * 3) = _
    rw [hAt, List.append_assoc, ← l1, List.take_left, show i * 3 + 3 = (i + 1) * 3 by omega]

theorem sizeA {cur A : Array Value} {xs : List Value} {L i c : Nat} (hxl : xs.length = L * 3) (hcs : cur.size = c * 3) (htake : cur.toList.take (L * 3) = xs) (hi : i < L) (hLc : L ≤ c) {R : List Value} (hA : A = (cur.toList.take (i * 3) ++ (xs.drop ((i + 1) * 3) ++ R)).toArray) (hR : R.length = c * 3 - (L - 1) * 3) : A.size = c * 3 :=
  (row_out (Z := [default, default, default]) hxl hcs htake hi hLc rfl hA hR rfl).1
theorem delete_end {w : World} {g c L i : Nat} {cur A Bv : Array Value} {xs Z R : List Value} (hg : w.heap[g]? = some (.cells cur 113 (0, 0))) (hxl : xs.length = L * 3) (hcs : cur.size = c * 3) (htake : cur.toList.take (L * 3) = xs) (hi : i < L) (hLc : L ≤ c) (hcm : c ≤ maxLen) (hZ : Z.length = 3) (hA : A = (cur.toList.take (i * 3) ++ (xs.drop ((i + 1) * 3) ++ R)).toArray) (hR : R.length = c * 3 - (L - 1) * 3)
    (hB : Bv = (A.toList.take ((L - 1) * 3) ++ Z ++ A.toList.drop ((L - 1) * 3 + 3)).toArray) :
    ((w.drew.setRow g A).setRow g Bv).ownsRow 0 113 3 (.slice (some ⟨g, 0, none⟩) (L - 1) c) (L - 1) (xs.take (i * 3) ++ xs.drop (i * 3 + 3)) ∧ w.grownBy ((w.drew.setRow g A).setRow g Bv) (some g) := by
  obtain ⟨q1, q2, q3⟩ := row_out hxl hcs htake hi hLc hZ hA hR hB
  refine ⟨⟨?_, .inr ⟨g, c, Bv, rfl, Nat.zero_le _, setRow_heap _ g A Bv _ _ (setRow_heap w.drew g cur A _ _ hg), by omega, hcm, q2, q3⟩⟩, ⟨rfl, rfl, rfl, by simp, fun k _ hk => ?_⟩⟩
  · rw [List.length_append, List.length_take, List.length_drop]; omega
  · have hne : k ≠ g := fun e => hk (by rw [e])
    rw [setRow_other _ _ _ _ hne, setRow_other _ _ _ _ hne]
    rfl

theorem add_flat (g o j : Nat) : (⟨g, o, none⟩ : Addr).add j = ⟨g, o + j, none⟩ := by unfold Addr.add; split <;> simp_all

set_option maxRecDepth 100000 in
theorem delete_ {w : World} {g c L i : Nat} {xs : List Value} (h : w.ownsRow 0 113 3 (.slice (some ⟨g, 0, none⟩) L c) L xs) (h1c : ∀ u ∈ xs, u.oneCell' = true) (hi : i < L) (hL : L ≤ 1000000) :
    Calls Try.prog 45 #[.slice (some ⟨g, 0, none⟩) L c, .int .i64 i, .int .i64 ((i : Int) + 1)] w fun e w' => e = .returned (.slice (some ⟨g, 0, none⟩) (L - 1) c) ∧
      w'.ownsRow 0 113 3 (.slice (some ⟨g, 0, none⟩) (L - 1) c) (L - 1) (xs.take (i * 3) ++ xs.drop (i * 3 + 3)) ∧ w.grownBy w' (some g) := by
  obtain ⟨i0, z0, hi0, hz0, hsz, hby, hzs⟩ := strm_info
  have hxl := h.1
  obtain ⟨cur, hg, hLc, hcm, hcs, htake⟩ : ∃ cur, w.heap[g]? = some (.cells cur 113 (0, 0)) ∧ L ≤ c ∧ c ≤ maxLen ∧ cur.size = c * 3 ∧ cur.toList.take (L * 3) = xs := by
    rcases h.2 with ⟨h1, _⟩ | ⟨g2, c2, cur, h1, _, h3, h4, h5, h6, h7⟩
    · cases h1
    · cases h1; exact ⟨cur, h3, h4, h5, h6, h7⟩
  have hcells := h.cells (g := g) rfl
  have a1 : (i : Int) ≤ (L : Int) := by omega
  have a2 : (i : Int) + 1 ≤ (L : Int) := by omega
  have a3 : (i : Int) ≤ (i : Int) + 1 := by omega
  have a4 : (L : Int) ≤ (c : Int) := by omega
  have a5 : (i : Int) ≤ (c : Int) := by omega
  have a8 : (0 : Int) ≤ (i : Int) + 1 := by omega
  have a9 : ((i : Int) + 1).toNat = i + 1 := by omega
  have a6 : ¬ (i : Int) = (i : Int) + 1 := by omega
  have HH := Lib.hid (⟨hxl, hcs, htake, hcells⟩ : _ ∧ _ ∧ _ ∧ _)
  clear h htake hcells
  by_cases hce : c = i + 1
  · obtain rfl : L = i + 1 := by omega
    subst hce
    go_enter Try.func45, Try.ntmps45
    go_wp2_with fail
    go_region_law (refine step_append_in rfl (.tmp 22) (.tmp 25) 84 rfl 113 i0 3 Try.underlying84 hi0 hsz g i (i + 1) cur hg (by simp [Act.eval, Act.put]) ⟨g, 0, none⟩ 0 0 [] (by simp [Act.eval, Act.put]) rfl (fun j u hj => by cases hj) (fun u hu => by cases hu) (by omega) (by rw [HH.out.2.1]; simp; omega) ?_)
    all_goals go_wp2_with fail
    all_goals
      obtain ⟨Z, hZ, hcl⟩ := run_clear_row (w.drew.setRow g cur) g (i * 3) 1 cur hi0 hz0 hzs (zero_one hi0 hz0) (setRow_heap w.drew g cur cur _ _ hg) (by rw [HH.out.2.1]; omega)
      obtain ⟨Bv, hB⟩ : ∃ Bv, Bv = (cur.toList.take (i * 3) ++ Z ++ cur.toList.drop (i * 3 + 3)).toArray := ⟨_, rfl⟩
      rw [hcl, ← hB]
      have HB := Lib.hid hB
      clear hB hcl
      simp only [Result.andThen]
      rw [Oper.upon_value]
      go_wp2_with fail
      go_ret
      have hd : xs.drop ((i + 1) * 3) = [] := List.drop_eq_nil_of_le (by rw [HH.out.1]; exact Nat.le_refl _)
      obtain ⟨q1, q2⟩ := delete_end (R := cur.toList.drop (i * 3)) hg HH.out.1 HH.out.2.1 HH.out.2.2.1 hi (Nat.le_refl _) hcm hZ (A := cur) (by rw [hd, List.nil_append, List.take_append_drop]) (by rw [List.length_drop, Array.length_toList, HH.out.2.1, Nat.add_sub_cancel]) HB.out
      exact ⟨rfl, q1, q2⟩
  · have a7 : ¬ c = i + 1 := hce
    have hnl : (xs.drop ((i + 1) * 3)).length = (L - (i + 1)) * 3 := by rw [List.length_drop, HH.out.1]; omega
    have hnc : ∀ j u, (xs.drop ((i + 1) * 3))[j]? = some u → w.drew.cell? ((⟨g, (i + 1) * 3, none⟩ : Addr).add j) = some u := fun j u hj => by
      rw [List.getElem?_drop] at hj
      have := HH.out.2.2.2 _ u hj
      rw [add_flat] at this ⊢
      rw [Nat.zero_add] at this
      exact this
    have hn1 : ∀ u ∈ xs.drop ((i + 1) * 3), u.oneCell' = true := fun u hu => h1c u (List.mem_of_mem_drop hu)
    have hfit : i * 3 + (xs.drop ((i + 1) * 3)).length ≤ cur.size := by rw [hnl, HH.out.2.1]; omega
    have HN := Lib.hid (⟨hnl, hnc, hn1, hfit⟩ : _ ∧ _ ∧ _ ∧ _)
    clear hnl hnc hn1 hfit
    go_enter Try.func45, Try.ntmps45
    go_wp2_with fail
    go_region_law (refine step_append_in rfl (.tmp 22) (.tmp 25) 84 rfl 113 i0 3 Try.underlying84 hi0 hsz g i c cur hg (by simp [Act.eval, Act.put]) ⟨g, (i + 1) * 3, none⟩ (L - (i + 1)) (c - (i + 1)) (xs.drop ((i + 1) * 3)) (by simp [Act.eval, Act.put]) HN.out.1 HN.out.2.1 HN.out.2.2.1 (by omega) HN.out.2.2.2 ?_)
    all_goals go_wp2_with fail
    all_goals
      have f1 : i + (L - (i + 1)) = L - 1 := by omega
      have f2 : L - (L - 1) = 1 := by omega
      obtain ⟨A, hA⟩ : ∃ A, A = (List.take (i * 3) cur.toList ++ (List.drop ((i + 1) * 3) xs ++ List.drop (i * 3 + (L * 3 - (i + 1) * 3)) cur.toList)).toArray := ⟨_, rfl⟩
      have hR : (List.drop (i * 3 + (L * 3 - (i + 1) * 3)) cur.toList).length = c * 3 - (L - 1) * 3 := by rw [List.length_drop, Array.length_toList, HH.out.2.1]; omega
      rw [← hA, f1, f2]
      have HA := Lib.hid (⟨hA, hR⟩ : _ ∧ _)
      clear hA hR
      obtain ⟨Z, hZ, hcl⟩ := run_clear_row (w.drew.setRow g A) g ((L - 1) * 3) (c - (L - 1)) A hi0 hz0 hzs (zero_one hi0 hz0) (setRow_heap w.drew g cur A _ _ hg) (by rw [(sizeA HH.out.1 HH.out.2.1 HH.out.2.2.1 hi hLc HA.out.1 HA.out.2)]; omega)
      obtain ⟨Bv, hB⟩ : ∃ Bv, Bv = (A.toList.take ((L - 1) * 3) ++ Z ++ A.toList.drop ((L - 1) * 3 + 3)).toArray := ⟨_, rfl⟩
      rw [hcl, ← hB]
      have HB := Lib.hid hB
      clear hB hcl
      simp only [Result.andThen]
      rw [Oper.upon_value]
      go_wp2_with fail
      go_ret
      obtain ⟨q1, q2⟩ := delete_end hg HH.out.1 HH.out.2.1 HH.out.2.2.1 hi hLc hcm hZ HA.out.1 HA.out.2 HB.out
      exact ⟨rfl, q1, q2⟩
end Go.Proofs.Ythbkcdbmimhhkaa.Wo

/-
  Package world: all streams of a name closed (Close).
-/
namespace Go.Proofs.Ythbkcdbmimhhkaa.Wo
open Go.RowKit Go.Maps

def atOf (st : St) (k : Int) (n : ByteArray) : Nat := (placeL k n st.streams).toNat
def closedS (st : St) (k : Int) (n : ByteArray) : St := { st with streams := st.streams.eraseIdx (atOf st k n), trace := st.trace ++ [⟨3, k, n, noText, statusOf st k n⟩] }
abbrev ClR := St × Int × Bool
def closeStep (n : ByteArray) (k : Int) (a : ClR) : ClR := if placeL k n a.1.streams < 0 then a else (closedS a.1 k n, statusOf a.1 k n, true)
def closeTo (n : ByteArray) : Nat → ClR → ClR
  | 0, a => a
  | j + 1, a => closeStep n ((j : Int) + 1) (closeTo n j a)
theorem flatS_erase : ∀ (l : List Strm) (ps : List Value) (i : Nat), ps.length = l.length → i < l.length → flatS (l.eraseIdx i) (ps.eraseIdx i) = (flatS l ps).take (i * 3) ++ (flatS l ps).drop (i * 3 + 3)
  | [], _, i, _, h => by simp at h
  | x :: l, [], i, h, _ => by simp at h
  | x :: l, y :: ps, 0, _, _ => by
    rw [List.eraseIdx_zero, List.eraseIdx_zero, flatS]
    rfl
  | x :: l, y :: ps, i + 1, h, hi => by
    rw [List.eraseIdx_cons_succ, List.eraseIdx_cons_succ, flatS, flatS, flatS_erase l ps i (by simpa using h) (by simpa using hi)]
    have e1 : (i + 1) * 3 = (x.cells y).length + i * 3 := by show _ = 3 + _; omega
    have e2 : (i + 1) * 3 + 3 = (x.cells y).length + (i * 3 + 3) := by show _ = 3 + _; omega
    rw [e2, List.drop_length_add_append, e1, List.take_length_add_append, List.append_assoc]
theorem flatS_one {w : World} {B : Nat} {T : Tags} {vs : Value} {ps : List Value} {l : List Strm} (h : Streams w B T vs ps l) : ∀ u ∈ flatS l ps, u.oneCell' = true := by
  have key : ∀ (l : List Strm) (ps : List Value), (∀ (i : Nat) s p, l[i]? = some s → ps[i]? = some p → ∃ o, p = .pointer o) → ∀ u ∈ flatS l ps, u.oneCell' = true := by
    intro l
    induction l with
    | nil => intro ps _ u hu; cases ps <;> simp [flatS] at hu
    | cons x l ih =>
      intro ps hp u hu
      cases ps with
      | nil => simp [flatS] at hu
      | cons y ps =>
        rw [flatS, List.mem_append] at hu
        rcases hu with hu | hu
        · obtain ⟨o, rfl⟩ := hp 0 x y rfl rfl
          exact three_one _ _ _ u hu
        · exact ih ps (fun i s p h1 h2 => hp (i + 1) s p (by simpa using h1) (by simpa using h2)) u hu
  exact key l ps fun i s p h1 h2 => (h.each i s p h1 h2).one

theorem closeTo_len (n : ByteArray) (a : ClR) : ∀ j, (closeTo n j a).1.trace.length ≤ a.1.trace.length + j ∧ (closeTo n j a).1.streams.length ≤ a.1.streams.length
  | 0 => ⟨Nat.le_refl _, Nat.le_refl _⟩
  | j + 1 => by
    obtain ⟨h1, h2⟩ := closeTo_len n a j
    unfold closeTo closeStep
    split
    · exact ⟨by omega, h2⟩
    · refine ⟨?_, Nat.le_trans (List.length_eraseIdx_le _ _) h2⟩
      show (_ ++ [_]).length ≤ _
      rw [List.length_append]
      simp only [List.length_cons, List.length_nil]
      omega
theorem u8_wrap {x : Int} (h : 0 ≤ x ∧ x < 256) : IntKind.u8.wrap x = x := by
  simp [IntKind.wrap, IntKind.bits, IntKind.signed]
  omega

section
variable {w : World} {B fm rm xm : Nat} {D : DataW Unit} {vs vt : Value} {ps : List Value} {T : Tags} {st : St} {n : ByteArray} {k : Int}
theorem WdAtS.outTaken (h : WdAt w B fm rm xm D vs vt ps T st) {i g c : Nat} {w1 : World} (hi : i < st.streams.length) (hv : vs.ownBlock = some g) (hr : w1.ownsRow 0 113 3 (.slice (some ⟨g, 0, none⟩) (st.streams.length - 1) c) (st.streams.length - 1) ((flatS st.streams ps).take (i * 3) ++ (flatS st.streams ps).drop (i * 3 + 3))) (hg : w.grownBy w1 (some g)) :
    ∃ T', WdAt (w1.setCell ⟨B, 8, none⟩ (.slice (some ⟨g, 0, none⟩) (st.streams.length - 1) c)) B fm rm xm D (.slice (some ⟨g, 0, none⟩) (st.streams.length - 1) c) vt (ps.eraseIdx i) T' { st with streams := st.streams.eraseIdx i } ∧ (∀ k, k < w.heap.size → T' k = T k) ∧ Turn (fun k => T k ≠ .no) w (w1.setCell ⟨B, 8, none⟩ (.slice (some ⟨g, 0, none⟩) (st.streams.length - 1) c)) := by
  have hl : (st.streams.eraseIdx i).length = st.streams.length - 1 := List.length_eraseIdx_of_lt hi
  have hsl := h.streams.len
  refine h.streamed (l := st.streams.eraseIdx i) (ps' := ps.eraseIdx i) (by rw [hv]; exact hg) (by rw [hl, List.length_eraseIdx_of_lt (by omega), hsl]) (by rw [hl, flatS_erase _ _ _ hsl hi]; exact hr) (fun k hk => .inl (by rw [hv, ← hk]; rfl)) (fun j s p h1 h2 => ?_) (fun s hs => h.streams.kinds s ((List.eraseIdx_sublist _ _).subset hs)) (h.streams.uniq.sublist (List.eraseIdx_sublist _ _))
  rw [List.getElem?_eraseIdx] at h1 h2
  split at h1
  · rename_i hj
    rw [if_pos hj] at h2
    exact h.streams.each j s p h1 h2
  · rename_i hj
    rw [if_neg hj] at h2
    exact h.streams.each (j + 1) s p h1 h2

theorem row_some {w : World} {e : TypeId} {v : Value} {n : Nat} {xs : List Value} (h : w.ownsRow 0 e 3 v n xs) {i : Nat} (hi : i < n) : ∃ g c, v = .slice (some ⟨g, 0, none⟩) n c := by
  rcases h.2 with ⟨_, h0⟩ | ⟨g, cap, cur, hv, _⟩
  · omega
  · exact ⟨g, cap, hv⟩
theorem closedS_eq {s1 : St} {k : Int} {n : ByteArray} {i : Nat} (h : placeL k n s1.streams = i) : ({ { s1 with streams := s1.streams.eraseIdx i } with trace := s1.trace ++ [(⟨3, k, n, noText, statusOf s1 k n⟩ : Ev)] } : St) = closedS s1 k n := by
  unfold closedS atOf
  rw [h]
  rfl
def CloseJ (w wr : World) (B fm rm xm : Nat) (T : Tags) (st' : St) : Prop := ∃ D vs vt ps T', WdAt wr B fm rm xm D vs vt ps T' st' ∧ (∀ k, k < w.heap.size → T' k = T k) ∧ Turn (fun k => T k ≠ .no) w wr
set_option maxHeartbeats 2000000 in
set_option maxRecDepth 100000 in
theorem close_ (h : WdAt w B fm rm xm D vs vt ps T st) (hn : Small n) (hs : st.streams.length ≤ 1000000) (ht : st.trace.length ≤ 900000) :
    Calls Try.prog 23 #[ptr B, .string n] w fun e w' => e = .returned (.tuple #[.int .i64 (closeTo n 5 (st, 0, false)).2.1, .bool (closeTo n 5 (st, 0, false)).2.2]) ∧ Goes w w' B T (closeTo n 5 (st, 0, false)).1 := by
  have hC := Lib.hid h.cells
  have HP := Lib.hid h
  clear h
  go_enter Try.func23, Try.ntmps23
  go_wp2_with (go_at_call 39; refine (made hC.out).mono ?_; rintro e w' ⟨rfl, hw⟩; obtain rfl := hw.symm; clear hw)
  go_loopg [6, 7, 8] 5 (fun q s c k wr => ∃ j, 5 - j = q ∧ j ≤ 5 ∧ k = .int .u8 ((j : Int) + 1) ∧ s = .int .i64 (closeTo n j (st, 0, false)).2.1 ∧ c = .bool (closeTo n j (st, 0, false)).2.2 ∧ CloseJ w wr B fm rm xm T (closeTo n j (st, 0, false)).1)
  case atStart => exact ⟨0, rfl, by omega, rfl, rfl, rfl, D, vs, vt, ps, T, HP.out, fun _ _ => rfl, Turn.refl _ _⟩
  case round =>
    obtain ⟨j, hq, hj, rfl, rfl, rfl, hJ⟩ := hrel
    obtain ⟨hl1, hl2⟩ := closeTo_len n (st, 0, false) j
    have hnext : closeTo n (j + 1) (st, 0, false) = closeStep n ((j : Int) + 1) (closeTo n j (st, 0, false)) := rfl
    by_cases hlt : j < 5
    · generalize closeTo n j (st, 0, false) = R at hnext hJ hl1 hl2
      obtain ⟨s1, sv, cv⟩ := R
      have hl1' : s1.trace.length ≤ st.trace.length + j := hl1
      have hl2' : s1.streams.length ≤ st.streams.length := hl2
      obtain ⟨D1, vs1, vt1, ps1, T1, h1, e1, t1⟩ := hJ
      have k5 : (j : Int) + 1 ≤ 5 := by omega
      have kw : IntKind.u8.wrap ((j : Int) + 1 + 1) = (j : Int) + 1 + 1 := u8_wrap (by omega)
      by_cases hp : placeL ((j : Int) + 1) n s1.streams < 0
      · have hst : closeStep n ((j : Int) + 1) (s1, sv, cv) = (s1, sv, cv) := if_pos hp
        generalize hpl : placeL ((j : Int) + 1) n s1.streams = pl at hp
        have HQ := Lib.hid (⟨h1, e1, t1, hpl, hnext, hst⟩ : _ ∧ _ ∧ _ ∧ _ ∧ _ ∧ _)
        clear h1 e1 t1 hpl hnext hst hl1 hl2
        go_wp2_with (go_at_call 41; refine (place HQ.out.1 _ n (by omega)).mono ?_; rintro e w2 ⟨rfl, hb2⟩; rw [HQ.out.2.2.2.1]; have H2 := Lib.hid hb2; clear hb2)
        go_roundg (5 - (j + 1))
        case measure => omega
        case rel =>
          refine ⟨j + 1, rfl, hlt, ?_, ?_, ?_, ?_⟩
          · push_cast; rfl
          · rw [HQ.out.2.2.2.2.1, HQ.out.2.2.2.2.2]
          · rw [HQ.out.2.2.2.2.1, HQ.out.2.2.2.2.2]
          · rw [HQ.out.2.2.2.2.1, HQ.out.2.2.2.2.2]
            exact ⟨D1, vs1, vt1, ps1, T1, HQ.out.1.below H2.out, HQ.out.2.1, HQ.out.2.2.1.after H2.out⟩
      · have hst : closeStep n ((j : Int) + 1) (s1, sv, cv) = (closedS s1 ((j : Int) + 1) n, statusOf s1 ((j : Int) + 1) n, true) := if_neg hp
        obtain ⟨i, hi⟩ : ∃ i : Nat, placeL ((j : Int) + 1) n s1.streams = i := ⟨(placeL ((j : Int) + 1) n s1.streams).toNat, by omega⟩
        obtain ⟨s, hsi, _⟩ := placeL_get _ n s1.streams i hi
        have hil := (List.getElem?_eq_some_iff.1 hsi).1
        have hii : ¬ (i : Int) < 0 := by omega
        have HQ := Lib.hid (⟨h1, e1, t1, hi, hnext, hst⟩ : _ ∧ _ ∧ _ ∧ _ ∧ _ ∧ _)
        clear h1 e1 t1 hi hnext hst hl1 hl2 hp hsi
        go_wp2_with (first
          | (go_at_call 41; refine (place HQ.out.1 _ n (by omega)).mono ?_; rintro e w2 ⟨rfl, hb2⟩; rw [HQ.out.2.2.2.1]; have h2 := HQ.out.1.below hb2; obtain ⟨g, c, rfl⟩ := row_some h2.streams.row hil; have c8 := h2.cells.c8; have H2 := Lib.hid (⟨h2, hb2⟩ : _ ∧ _); clear h2 hb2)
          | (go_at_call 45; refine (delete_ H2.out.1.streams.row (flatS_one H2.out.1.streams) hil (by omega)).mono ?_; rintro e w3 ⟨rfl, hr3, hg3⟩; obtain ⟨T3, q1, q2, q3⟩ := H2.out.1.outTaken hil rfl hr3 hg3; have hBg := H2.out.1.ne_streams; have d8 := hg3.cell H2.out.1.cells.c8 hBg; have z8 := (hg3.frozen_far ⟨B, 8, none⟩ H2.out.1.cells.lt hBg).trans (H2.out.1.cells.z 8); have H3 := Lib.hid (⟨q1, q2, q3⟩ : _ ∧ _ ∧ _); clear q1 q2 q3 hr3 hg3 hBg)
          | (go_at_call 46; refine (status H3.out.1 _ n hn).mono ?_; rintro e w4 ⟨rfl, hb4⟩; have h4 := H3.out.1.below hb4; have H4 := Lib.hid (⟨h4, hb4⟩ : _ ∧ _); clear h4 hb4)
          | (go_at_call 44; refine (note H4.out.1 ⟨3, (j : Int) + 1, n, noText, statusOf s1 ((j : Int) + 1) n⟩ (by show s1.trace.length ≤ _; omega)).mono ?_; rintro e w6 ⟨rfl, vt', T6, s1, s2, s3⟩; have H6 := Lib.hid (⟨s1, s2, s3⟩ : _ ∧ _ ∧ _); clear s1 s2 s3))
        go_roundg (5 - (j + 1))
        case measure => omega
        case rel =>
          refine ⟨j + 1, rfl, hlt, ?_, ?_, ?_, ?_⟩
          · push_cast; rfl
          · rw [HQ.out.2.2.2.2.1, HQ.out.2.2.2.2.2]; rfl
          · rw [HQ.out.2.2.2.2.1, HQ.out.2.2.2.2.2]
          · rw [HQ.out.2.2.2.2.1, HQ.out.2.2.2.2.2]
            have hz := HQ.out.2.2.1.size
            have hb4 := H4.out.2
            have r6 := H6.out.1
            rw [closedS_eq HQ.out.2.2.2.1] at r6
            refine ⟨D1, _, _, _, T6, r6, fun k hk => ?_, ?_⟩
            · have := H2.out.2.size
              have := H3.out.2.2.size
              have := hb4.size
              exact (H6.out.2.1 k (by omega)).trans ((H3.out.2.1 k (by omega)).trans (HQ.out.2.1 k hk))
            · have t3 := (HQ.out.2.2.1.after H2.out.2).thenTags H3.out.2.2 HQ.out.2.1
              have e3 : ∀ k, k < w.heap.size → T3 k = T k := fun k hk => (H3.out.2.1 k (by have := H2.out.2.size; omega)).trans (HQ.out.2.1 k hk)
              exact (t3.after hb4).thenTags H6.out.2.2 e3
    · obtain rfl : j = 5 := by omega
      have hge : ¬ ((5 : Nat) : Int) + 1 ≤ 5 := by omega
      go_wp2_with fail
      go_ret2
      obtain ⟨D1, vs1, vt1, ps1, T1, h1, e1, t1⟩ := hJ
      exact ⟨rfl, fm, rm, xm, D1, vs1, vt1, ps1, T1, h1, e1, t1⟩
end
end Go.Proofs.Ythbkcdbmimhhkaa.Wo

/-
  Package world: all streams closed (CloseAll).
-/
namespace Go.Proofs.Ythbkcdbmimhhkaa.Wo
open Go.RowKit Go.Maps

def allStep (st : St) : St :=
  match st.streams with
  | [] => st
  | s :: _ => (closeTo s.name 5 (st, 0, false)).1
def allTo : Nat → St → St
  | 0, st => st
  | j + 1, st => allStep (allTo j st)
theorem closeTo_less (n : ByteArray) (a : ClR) : ∀ j, (closeTo n j a).1.streams.length < a.1.streams.length ∨ ((closeTo n j a).1.streams = a.1.streams ∧ ∀ k : Int, 1 ≤ k → k ≤ j → placeL k n a.1.streams < 0)
  | 0 => .inr ⟨rfl, fun k h1 h2 => by omega⟩
  | j + 1 => by
    unfold closeTo closeStep
    rcases closeTo_less n a j with h | ⟨h1, h2⟩
    · left
      split
      · exact h
      · exact Nat.lt_of_le_of_lt (List.length_eraseIdx_le _ _) h
    · by_cases hp : placeL ((j : Int) + 1) n (closeTo n j a).1.streams < 0
      · right
        rw [if_pos hp]
        refine ⟨h1, fun k q1 q2 => ?_⟩
        by_cases e : k = (j : Int) + 1
        · rw [e, ← h1]; exact hp
        · exact h2 k q1 (by push_cast at q2; omega)
      · left
        rw [if_neg hp]
        show (List.eraseIdx _ _).length < _
        have hl := placeL_lt ((j : Int) + 1) n (closeTo n j a).1.streams
        rw [h1] at hl hp
        rw [List.length_eraseIdx_of_lt (by unfold atOf; rw [h1]; omega), h1]
        have : 0 < a.1.streams.length := by omega
        omega
theorem allStep_less {st : St} (hk : ∀ s ∈ st.streams, 1 ≤ s.kind ∧ s.kind ≤ 5 ∧ Small s.name) {s : Strm} {r : List Strm} (hs : st.streams = s :: r) : (allStep st).streams.length < st.streams.length := by
  have e : allStep st = (closeTo s.name 5 (st, 0, false)).1 := by unfold allStep; rw [hs]
  rw [e]
  obtain ⟨q1, q2, _⟩ := hk s (by rw [hs]; simp)
  rcases closeTo_less s.name (st, 0, false) 5 with h | ⟨_, h2⟩
  · exact h
  · have := h2 s.kind q1 q2
    have hp : placeL s.kind s.name st.streams = 0 := by rw [hs, placeL_cons, if_pos (isIt_iff.2 ⟨rfl, rfl⟩)]
    have h3 : placeL s.kind s.name st.streams < 0 := this
    omega
theorem allTo_len (st : St) : ∀ j, (allTo j st).trace.length ≤ st.trace.length + 5 * j
  | 0 => Nat.le_refl _
  | j + 1 => by
    have ih := allTo_len st j
    show (allStep (allTo j st)).trace.length ≤ _
    unfold allStep
    split
    · omega
    · rename_i s r hs
      have := (closeTo_len s.name (allTo j st, 0, false) 5).1
      have h2 : (closeTo s.name 5 (allTo j st, 0, false)).1.trace.length ≤ (allTo j st).trace.length + 5 := this
      omega

section
variable {w : World} {B fm rm xm : Nat} {D : DataW Unit} {vs vt : Value} {ps : List Value} {T : Tags} {st : St} {n : ByteArray} {k : Int}
theorem Goes.thenG {wr w2 : World} {T1 : Tags} {s2 : St} (g : Goes wr w2 B T1 s2) (h : Turn (fun k => T k ≠ .no) w wr) (e : ∀ k, k < w.heap.size → T1 k = T k) : Goes w w2 B T s2 := by
  obtain ⟨fm, rm, xm, D2, vs2, vt2, ps2, T2, h2, e2, t2⟩ := g
  exact ⟨fm, rm, xm, D2, vs2, vt2, ps2, T2, h2, fun k hk => (e2 k (Nat.lt_of_lt_of_le hk h.size)).trans (e k hk), h.thenTags t2 e⟩
set_option maxHeartbeats 2000000 in
set_option maxRecDepth 100000 in
theorem closeAll_ (h : WdAt w B fm rm xm D vs vt ps T st) (hs : st.streams.length ≤ 1000) (ht : st.trace.length ≤ 800000) :
    Calls Try.prog 25 #[ptr B] w fun e w' => e = .returned (.tuple #[]) ∧ ∃ j, j ≤ st.streams.length ∧ Goes w w' B T (allTo j st) ∧ (allTo j st).streams = [] := by
  have HP := Lib.hid h
  clear h
  go_enter Try.func25, Try.ntmps25
  go_wp2_with fail
  go_loopg [] st.streams.length (fun q wr => ∃ j, (allTo j st).streams.length = q ∧ j + (allTo j st).streams.length ≤ st.streams.length ∧ Goes w wr B T (allTo j st))
  case atStart => exact ⟨0, rfl, by show 0 + st.streams.length ≤ _; omega, fm, rm, xm, D, vs, vt, ps, T, HP.out, fun _ _ => rfl, Turn.refl _ _⟩
  case round =>
    obtain ⟨j, hq, hj, hJ⟩ := hrel
    have hlen := allTo_len st j
    have hnext : allTo (j + 1) st = allStep (allTo j st) := rfl
    obtain ⟨fm1, rm1, xm1, D1, vs1, vt1, ps1, T1, h1, e1, t1⟩ := hJ
    generalize hs1 : allTo j st = s1 at hq hj hlen hnext h1
    cases hss : s1.streams with
    | nil =>
      have hC := Lib.hid h1.cells
      have HQ := Lib.hid (⟨h1, e1, t1, hss⟩ : _ ∧ _ ∧ _ ∧ _)
      have hz : s1.streams.length = 0 := by rw [hss]; rfl
      clear h1 e1 t1 hss hnext
      go_wp2_with (go_at_call 11; refine (streamsN HQ.out.1).mono ?_; rintro e w' ⟨rfl, hw⟩; obtain rfl := hw.symm; clear hw; rw [hz])
      go_end0
      obtain ⟨h1, e1, t1, hss⟩ := HQ.out
      subst hs1
      exact ⟨rfl, j, by omega, ⟨fm1, rm1, xm1, D1, vs1, vt1, ps1, T1, h1, e1, t1⟩, hss⟩
    | cons s r =>
      have hk := h1.streams.kinds
      have hless := allStep_less hk hss
      have hsi : s1.streams[0]? = some s := by rw [hss]; rfl
      have hpos : (0 : Int) < (s1.streams.length : Int) := by rw [hss]; simp
      obtain ⟨oa, c, ev, _⟩ := slice_of h1.streams.row
      subst ev
      obtain ⟨g, p, ea, _, _, d0, d1, d2⟩ := h1.streams.at hsi
      have c8 := h1.cells.c8
      subst ea
      have hstep : allStep s1 = (closeTo s.name 5 (s1, 0, false)).1 := by unfold allStep; rw [hss]
      have HQ := Lib.hid (⟨h1, e1, t1, hk s (by rw [hss]; simp), hnext, hstep⟩ : _ ∧ _ ∧ _ ∧ _ ∧ _ ∧ _)
      clear h1 e1 t1 hk hnext hsi hss hstep
      go_wp2_with (first
        | (go_at_call 11; refine (streamsN HQ.out.1).mono ?_; rintro e w' ⟨rfl, hw⟩; obtain rfl := hw.symm; clear hw)
        | (go_at_call 23; refine (close_ HQ.out.1 HQ.out.2.2.2.1.2.2 (by omega) (by omega)).mono ?_; rintro e w2 ⟨rfl, hg⟩; have H2 := Lib.hid hg; clear hg))
      go_roundg (allStep s1).streams.length
      case measure => omega
      case rel =>
        refine ⟨j + 1, ?_, ?_, ?_⟩
        · rw [HQ.out.2.2.2.2.1]
        · rw [HQ.out.2.2.2.2.1]; omega
        · rw [HQ.out.2.2.2.2.1, HQ.out.2.2.2.2.2]
          exact H2.out.thenG HQ.out.2.2.1 HQ.out.2.1
end
end Go.Proofs.Ythbkcdbmimhhkaa.Wo
