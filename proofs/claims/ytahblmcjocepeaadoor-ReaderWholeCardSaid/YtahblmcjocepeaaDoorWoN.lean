/-
  Package world: all streams of a name closed (Close).
-/
import Derived.Test.YtahblmcjocepeaaDoorWoM
namespace Go.Proofs.YtahblmcjocepeaaDoor.Wo
open Go.RowKit Go.Maps

def atOf (st : St) (k : Int) (n : ByteArray) : Nat := (placeL k n st.streams).toNat
def closedS (st : St) (k : Int) (n : ByteArray) : St := { st with streams := st.streams.eraseIdx (atOf st k n), trace := st.trace ++ [⟨3, k, n, noText, statusOf st k n⟩] }
abbrev ClR := St × Int × Bool
def closeStep (n : ByteArray) (k : Int) (a : ClR) : ClR := if placeL k n a.1.streams < 0 then a else (closedS a.1 k n, statusOf a.1 k n, true)
def closeTo (n : ByteArray) : Nat → ClR → ClR
  | 0, a => a
  | j + 1, a => closeStep n ((j : Int) + 1) (closeTo n j a)
theorem flatS_erase : ∀ (l : List Strm) (ps : List Value) (i : Nat), ps.length = l.length → i < l.length → flatS (l.eraseIdx i) (ps.eraseIdx i) = (flatS l ps).take (i * 3) ++ (flatS l ps).drop (i * 3 + 3)
  | [], _, i, _, h => by simp at h
  | x :: l, [], i, h, _ => by simp at h
  | x :: l, y :: ps, 0, _, _ => by
    rw [List.eraseIdx_zero, List.eraseIdx_zero, flatS]
    rfl
  | x :: l, y :: ps, i + 1, h, hi => by
    rw [List.eraseIdx_cons_succ, List.eraseIdx_cons_succ, flatS, flatS, flatS_erase l ps i (by simpa using h) (by simpa using hi)]
    have e1 : (i + 1) * 3 = (x.cells y).length + i * 3 := by show _ = 3 + _; omega
    have e2 : (i + 1) * 3 + 3 = (x.cells y).length + (i * 3 + 3) := by show _ = 3 + _; omega
    rw [e2, List.drop_length_add_append, e1, List.take_length_add_append, List.append_assoc]
theorem flatS_one {w : World} {B : Nat} {T : Tags} {vs : Value} {ps : List Value} {l : List Strm} (h : Streams w B T vs ps l) : ∀ u ∈ flatS l ps, u.oneCell' = true := by
  have key : ∀ (l : List Strm) (ps : List Value), (∀ (i : Nat) s p, l[i]? = some s → ps[i]? = some p → ∃ o, p = .pointer o) → ∀ u ∈ flatS l ps, u.oneCell' = true := by
    intro l
    induction l with
    | nil => intro ps _ u hu; cases ps <;> simp [flatS] at hu
    | cons x l ih =>
      intro ps hp u hu
      cases ps with
      | nil => simp [flatS] at hu
      | cons y ps =>
        rw [flatS, List.mem_append] at hu
        rcases hu with hu | hu
        · obtain ⟨o, rfl⟩ := hp 0 x y rfl rfl
          exact three_one _ _ _ u hu
        · exact ih ps (fun i s p h1 h2 => hp (i + 1) s p (by simpa using h1) (by simpa using h2)) u hu
  exact key l ps fun i s p h1 h2 => (h.each i s p h1 h2).one

theorem closeTo_len (n : ByteArray) (a : ClR) : ∀ j, (closeTo n j a).1.trace.length ≤ a.1.trace.length + j ∧ (closeTo n j a).1.streams.length ≤ a.1.streams.length
  | 0 => ⟨Nat.le_refl _, Nat.le_refl _⟩
  | j + 1 => by
    obtain ⟨h1, h2⟩ := closeTo_len n a j
    unfold closeTo closeStep
    split
    · exact ⟨by omega, h2⟩
    · refine ⟨?_, Nat.le_trans (List.length_eraseIdx_le _ _) h2⟩
      show (_ ++ [_]).length ≤ _
      rw [List.length_append]
      simp only [List.length_cons, List.length_nil]
      omega
theorem u8_wrap {x : Int} (h : 0 ≤ x ∧ x < 256) : IntKind.u8.wrap x = x := by
  simp [IntKind.wrap, IntKind.bits, IntKind.signed]
  omega

section
variable {w : World} {B fm rm xm : Nat} {D : DataW Unit} {vs vt : Value} {ps : List Value} {T : Tags} {st : St} {n : ByteArray} {k : Int}
theorem WdAtS.outTaken (h : WdAt w B fm rm xm D vs vt ps T st) {i g c : Nat} {w1 : World} (hi : i < st.streams.length) (hv : vs.ownBlock = some g) (hr : w1.ownsRow 0 115 3 (.slice (some ⟨g, 0, none⟩) (st.streams.length - 1) c) (st.streams.length - 1) ((flatS st.streams ps).take (i * 3) ++ (flatS st.streams ps).drop (i * 3 + 3))) (hg : w.grownBy w1 (some g)) :
    ∃ T', WdAt (w1.setCell ⟨B, 8, none⟩ (.slice (some ⟨g, 0, none⟩) (st.streams.length - 1) c)) B fm rm xm D (.slice (some ⟨g, 0, none⟩) (st.streams.length - 1) c) vt (ps.eraseIdx i) T' { st with streams := st.streams.eraseIdx i } ∧ (∀ k, k < w.heap.size → T' k = T k) ∧ Turn (fun k => T k ≠ .no) w (w1.setCell ⟨B, 8, none⟩ (.slice (some ⟨g, 0, none⟩) (st.streams.length - 1) c)) := by
  have hl : (st.streams.eraseIdx i).length = st.streams.length - 1 := List.length_eraseIdx_of_lt hi
  have hsl := h.streams.len
  refine h.streamed (l := st.streams.eraseIdx i) (ps' := ps.eraseIdx i) (by rw [hv]; exact hg) (by rw [hl, List.length_eraseIdx_of_lt (by omega), hsl]) (by rw [hl, flatS_erase _ _ _ hsl hi]; exact hr) (fun k hk => .inl (by rw [hv, ← hk]; rfl)) (fun j s p h1 h2 => ?_) (fun s hs => h.streams.kinds s ((List.eraseIdx_sublist _ _).subset hs)) (h.streams.uniq.sublist (List.eraseIdx_sublist _ _))
  rw [List.getElem?_eraseIdx] at h1 h2
  split at h1
  · rename_i hj
    rw [if_pos hj] at h2
    exact h.streams.each j s p h1 h2
  · rename_i hj
    rw [if_neg hj] at h2
    exact h.streams.each (j + 1) s p h1 h2

theorem row_some {w : World} {e : TypeId} {v : Value} {n : Nat} {xs : List Value} (h : w.ownsRow 0 e 3 v n xs) {i : Nat} (hi : i < n) : ∃ g c, v = .slice (some ⟨g, 0, none⟩) n c := by
  rcases h.2 with ⟨_, h0⟩ | ⟨g, cap, cur, hv, _⟩
  · omega
  · exact ⟨g, cap, hv⟩
theorem closedS_eq {s1 : St} {k : Int} {n : ByteArray} {i : Nat} (h : placeL k n s1.streams = i) : ({ { s1 with streams := s1.streams.eraseIdx i } with trace := s1.trace ++ [(⟨3, k, n, noText, statusOf s1 k n⟩ : Ev)] } : St) = closedS s1 k n := by
  unfold closedS atOf
  rw [h]
  rfl
def CloseJ (w wr : World) (B fm rm xm : Nat) (T : Tags) (st' : St) : Prop := ∃ D vs vt ps T', WdAt wr B fm rm xm D vs vt ps T' st' ∧ (∀ k, k < w.heap.size → T' k = T k) ∧ Turn (fun k => T k ≠ .no) w wr
set_option maxHeartbeats 2000000 in
set_option maxRecDepth 100000 in
theorem close_ (h : WdAt w B fm rm xm D vs vt ps T st) (hn : Small n) (hs : st.streams.length ≤ 1000000) (ht : st.trace.length ≤ 900000) :
    Calls Tryd.prog 13 #[ptr B, .string n] w fun e w' => e = .returned (.tuple #[.int .i64 (closeTo n 5 (st, 0, false)).2.1, .bool (closeTo n 5 (st, 0, false)).2.2]) ∧ Goes w w' B T (closeTo n 5 (st, 0, false)).1 := by
  have hC := Lib.hid h.cells
  have HP := Lib.hid h
  clear h
  go_enter Tryd.func13, Tryd.ntmps13
  go_wp2_with (go_at_call 40; refine (made hC.out).mono ?_; rintro e w' ⟨rfl, hw⟩; obtain rfl := hw.symm; clear hw)
  go_loopg [6, 7, 8] 5 (fun q s c k wr => ∃ j, 5 - j = q ∧ j ≤ 5 ∧ k = .int .u8 ((j : Int) + 1) ∧ s = .int .i64 (closeTo n j (st, 0, false)).2.1 ∧ c = .bool (closeTo n j (st, 0, false)).2.2 ∧ CloseJ w wr B fm rm xm T (closeTo n j (st, 0, false)).1)
  case atStart => exact ⟨0, rfl, by omega, rfl, rfl, rfl, D, vs, vt, ps, T, HP.out, fun _ _ => rfl, Turn.refl _ _⟩
  case round =>
    obtain ⟨j, hq, hj, rfl, rfl, rfl, hJ⟩ := hrel
    obtain ⟨hl1, hl2⟩ := closeTo_len n (st, 0, false) j
    have hnext : closeTo n (j + 1) (st, 0, false) = closeStep n ((j : Int) + 1) (closeTo n j (st, 0, false)) := rfl
    by_cases hlt : j < 5
    · generalize closeTo n j (st, 0, false) = R at hnext hJ hl1 hl2
      obtain ⟨s1, sv, cv⟩ := R
      have hl1' : s1.trace.length ≤ st.trace.length + j := hl1
      have hl2' : s1.streams.length ≤ st.streams.length := hl2
      obtain ⟨D1, vs1, vt1, ps1, T1, h1, e1, t1⟩ := hJ
      have k5 : (j : Int) + 1 ≤ 5 := by omega
      have kw : IntKind.u8.wrap ((j : Int) + 1 + 1) = (j : Int) + 1 + 1 := u8_wrap (by omega)
      by_cases hp : placeL ((j : Int) + 1) n s1.streams < 0
      · have hst : closeStep n ((j : Int) + 1) (s1, sv, cv) = (s1, sv, cv) := if_pos hp
        generalize hpl : placeL ((j : Int) + 1) n s1.streams = pl at hp
        have HQ := Lib.hid (⟨h1, e1, t1, hpl, hnext, hst⟩ : _ ∧ _ ∧ _ ∧ _ ∧ _ ∧ _)
        clear h1 e1 t1 hpl hnext hst hl1 hl2
        go_wp2_with (go_at_call 41; refine (place HQ.out.1 _ n (by omega)).mono ?_; rintro e w2 ⟨rfl, hb2⟩; rw [HQ.out.2.2.2.1]; have H2 := Lib.hid hb2; clear hb2)
        go_roundg (5 - (j + 1))
        case measure => omega
        case rel =>
          refine ⟨j + 1, rfl, hlt, ?_, ?_, ?_, ?_⟩
          · push_cast; rfl
          · rw [HQ.out.2.2.2.2.1, HQ.out.2.2.2.2.2]
          · rw [HQ.out.2.2.2.2.1, HQ.out.2.2.2.2.2]
          · rw [HQ.out.2.2.2.2.1, HQ.out.2.2.2.2.2]
            exact ⟨D1, vs1, vt1, ps1, T1, HQ.out.1.below H2.out, HQ.out.2.1, HQ.out.2.2.1.after H2.out⟩
      · have hst : closeStep n ((j : Int) + 1) (s1, sv, cv) = (closedS s1 ((j : Int) + 1) n, statusOf s1 ((j : Int) + 1) n, true) := if_neg hp
        obtain ⟨i, hi⟩ : ∃ i : Nat, placeL ((j : Int) + 1) n s1.streams = i := ⟨(placeL ((j : Int) + 1) n s1.streams).toNat, by omega⟩
        obtain ⟨s, hsi, _⟩ := placeL_get _ n s1.streams i hi
        have hil := (List.getElem?_eq_some_iff.1 hsi).1
        have hii : ¬ (i : Int) < 0 := by omega
        have HQ := Lib.hid (⟨h1, e1, t1, hi, hnext, hst⟩ : _ ∧ _ ∧ _ ∧ _ ∧ _ ∧ _)
        clear h1 e1 t1 hi hnext hst hl1 hl2 hp hsi
        go_wp2_with (first
          | (go_at_call 41; refine (place HQ.out.1 _ n (by omega)).mono ?_; rintro e w2 ⟨rfl, hb2⟩; rw [HQ.out.2.2.2.1]; have h2 := HQ.out.1.below hb2; obtain ⟨g, c, rfl⟩ := row_some h2.streams.row hil; have c8 := h2.cells.c8; have H2 := Lib.hid (⟨h2, hb2⟩ : _ ∧ _); clear h2 hb2)
          | (go_at_call 42; refine (delete_ H2.out.1.streams.row (flatS_one H2.out.1.streams) hil (by omega)).mono ?_; rintro e w3 ⟨rfl, hr3, hg3⟩; obtain ⟨T3, q1, q2, q3⟩ := H2.out.1.outTaken hil rfl hr3 hg3; have hBg := H2.out.1.ne_streams; have d8 := hg3.cell H2.out.1.cells.c8 hBg; have z8 := (hg3.frozen_far ⟨B, 8, none⟩ H2.out.1.cells.lt hBg).trans (H2.out.1.cells.z 8); have H3 := Lib.hid (⟨q1, q2, q3⟩ : _ ∧ _ ∧ _); clear q1 q2 q3 hr3 hg3 hBg)
          | (go_at_call 43; refine (status H3.out.1 _ n hn).mono ?_; rintro e w4 ⟨rfl, hb4⟩; have h4 := H3.out.1.below hb4; have H4 := Lib.hid (⟨h4, hb4⟩ : _ ∧ _); clear h4 hb4)
          | (go_at_call 44; refine (note H4.out.1 ⟨3, (j : Int) + 1, n, noText, statusOf s1 ((j : Int) + 1) n⟩ (by show s1.trace.length ≤ _; omega)).mono ?_; rintro e w6 ⟨rfl, vt', T6, s1, s2, s3⟩; have H6 := Lib.hid (⟨s1, s2, s3⟩ : _ ∧ _ ∧ _); clear s1 s2 s3))
        go_roundg (5 - (j + 1))
        case measure => omega
        case rel =>
          refine ⟨j + 1, rfl, hlt, ?_, ?_, ?_, ?_⟩
          · push_cast; rfl
          · rw [HQ.out.2.2.2.2.1, HQ.out.2.2.2.2.2]; rfl
          · rw [HQ.out.2.2.2.2.1, HQ.out.2.2.2.2.2]
          · rw [HQ.out.2.2.2.2.1, HQ.out.2.2.2.2.2]
            have hz := HQ.out.2.2.1.size
            have hb4 := H4.out.2
            have r6 := H6.out.1
            rw [closedS_eq HQ.out.2.2.2.1] at r6
            refine ⟨D1, _, _, _, T6, r6, fun k hk => ?_, ?_⟩
            · have := H2.out.2.size
              have := H3.out.2.2.size
              have := hb4.size
              exact (H6.out.2.1 k (by omega)).trans ((H3.out.2.1 k (by omega)).trans (HQ.out.2.1 k hk))
            · have t3 := (HQ.out.2.2.1.after H2.out.2).thenTags H3.out.2.2 HQ.out.2.1
              have e3 : ∀ k, k < w.heap.size → T3 k = T k := fun k hk => (H3.out.2.1 k (by have := H2.out.2.size; omega)).trans (HQ.out.2.1 k hk)
              exact (t3.after hb4).thenTags H6.out.2.2 e3
    · obtain rfl : j = 5 := by omega
      have hge : ¬ ((5 : Nat) : Int) + 1 ≤ 5 := by omega
      go_wp2_with fail
      go_ret2
      obtain ⟨D1, vs1, vt1, ps1, T1, h1, e1, t1⟩ := hJ
      exact ⟨rfl, fm, rm, xm, D1, vs1, vt1, ps1, T1, h1, e1, t1⟩
end
end Go.Proofs.YtahblmcjocepeaaDoor.Wo
