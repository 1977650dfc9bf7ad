/-
  Package world: what a stream has to give (begin), a status (status).
-/
import Derived.Test.YtahblmcjocepeaaDoorWoG
namespace Go.Proofs.YtahblmcjocepeaaDoor.Wo
open Go.RowKit Go.Maps

theorem setF_self {f : ByteArray → Option (List UInt8)} {n : ByteArray} {l : List UInt8} (h : f n = some l) : setF f n l = f := by
  funext m
  unfold setF
  split
  · subst_vars; exact h.symm
  · rfl
theorem field_out (c o : ByteArray) (s : Int) (W : World) : (Instr.field 107 (.agg #[.string c, .string o, .int .i64 s]) 1).run Tryd.prog W = .ok (.string o) W := by kernel_rfl
theorem field_status (c o : ByteArray) (s : Int) (W : World) : (Instr.field 107 (.agg #[.string c, .string o, .int .i64 s]) 2).run Tryd.prog W = .ok (.int .i64 s) W := by kernel_rfl
def statusOf (st : St) (k : Int) (n : ByteArray) : Int := if k = 2 ∨ k = 5 then ((st.reply n).getD (noText, 0)).2 else 0
theorem dash_list : dash.toList = [45] := by rw [Lib.toList_data]; rfl
def srcOf (st : St) (k : Int) (n : ByteArray) : Src := if k = 1 then (if n = dash then .stdin else .own (txt ((st.file n).getD []))) else if k = 2 then .own ((st.reply n).getD (noText, 0)).1 else .none
def emptied (st : St) (n : ByteArray) : St := { st with file := setF st.file n [] }
def begunS (st : St) (k : Int) (n : ByteArray) : St := if k = 3 then emptied (beginS st n) n else if k = 4 then beginS st n else st

section
variable {w : World} {B fm rm xm : Nat} {D : DataW Unit} {vs vt : Value} {ps : List Value} {T : Tags} {st : St} {n : ByteArray}
theorem WdAtS.tagNew (h : WdAt w B fm rm xm D vs vt ps T st) {b : Nat} (x : Part) (hb : b < w.heap.size) (hT : T b = .no) : WdAt w B fm rm xm D vs vt ps (tagAt T (some b) x) st := by
  have f := h.frame (fun _ => False) (w' := w) (T' := tagAt T (some b) x) (fun _ _ _ => rfl) (fun k hk => tagAt_other fun e => by cases e; exact hk hT) (fun k hk => by
    by_cases e : some b = some k
    · cases e; exact hb
    · rw [tagAt_other e] at hk
      exact h.lt k hk)
  exact ⟨f.blk id, f.tB, f.tf, f.tr, f.tx, ⟨f.map id, fun n hn => f.file n hn id id⟩, f.replies id, f.fails id, ⟨f.slen, f.srow id, f.stag, fun i s p h1 h2 => f.src i s p h1 h2 id, f.kinds, f.uniq⟩, ⟨f.trow id, f.ttag⟩, f.lt⟩

set_option maxRecDepth 100000 in
theorem status (h : WdAt w B fm rm xm D vs vt ps T st) (k : Int) (n : ByteArray) (hn : Small n) :
    Calls Tryd.prog 43 #[ptr B, .int .u8 k, .string n] w fun e w' => e = .returned (.int .i64 (statusOf st k n)) ∧ Below w.heap.size w w' := by
  have hC := h.cells
  have c3 := hC.c3
  obtain ⟨q1, c, q2⟩ := h.replies.look hn
  clear q1 hC h
  by_cases h2 : k = 2
  · subst h2
    go_enter Tryd.func43, Tryd.ntmps43
    go_wp2_with (first | rw [field_status])
    go_ret
    exact ⟨rfl, Below.refl _ w⟩
  · by_cases h5 : k = 5
    · subst h5
      go_enter Tryd.func43, Tryd.ntmps43
      go_wp2_with (first | rw [field_status])
      go_ret
      exact ⟨rfl, Below.refl _ w⟩
    · have hx2 : (k == 2) = false := beq_eq_false_iff_ne.2 h2
      have hx5 : (k == 5) = false := beq_eq_false_iff_ne.2 h5
      have HH := Lib.hid (⟨h2, h5⟩ : _ ∧ _)
      clear h2 h5
      go_enter Tryd.func43, Tryd.ntmps43
      go_wp2_with fail
      go_ret
      exact ⟨by unfold statusOf; rw [if_neg (fun e => e.elim HH.out.1 HH.out.2)]; rfl, Below.refl _ w⟩

theorem Turn.after {S : Nat → Prop} {a b c : World} (k : Turn S a b) (h : Below b.heap.size b c) : Turn S a c := k.trans (Turn.of_below (S := S) h) fun _ hi => .inl hi
theorem Turn.thenTags {T T' : Tags} {a b c : World} (h : Turn (fun k => T k ≠ .no) a b) (k : Turn (fun k => T' k ≠ .no) b c) (ht : ∀ k, k < a.heap.size → T' k = T k) : Turn (fun k => T k ≠ .no) a c :=
  h.trans k fun i hi => by
    by_cases e : i < a.heap.size
    · exact .inl (by rw [← ht i e]; exact hi)
    · exact .inr (by omega)
def BeginOk (w w' : World) (B fm rm xm : Nat) (vs vt : Value) (ps : List Value) (T : Tags) (st : St) (k : Int) (n : ByteArray) (p : Value) : Prop :=
  ∃ D' T', WdAt w' B fm rm xm D' vs vt ps T' (begunS st k n) ∧ (∀ k, k < w.heap.size → T' k = T k) ∧ Turn (fun k => T k ≠ .no) w w' ∧ SrcAt w' B T' ⟨k, n, srcOf st k n⟩ p
/- The file that was begun. -/
theorem begun_at {sv : Value} (h : WdAtS sv w B fm rm xm D vs vt ps T (beginS st n)) (hn : Small n) {b : Nat} (hd : D.atKey (kl n) nilD = ptrD b) : ∃ l buf, (beginS st n).file n = some l ∧ Bd w b buf l ∧ T b = .bld n ∧ ∀ k, buf = some k → T k = .buf n := by
  have hs : ∃ l, (beginS st n).file n = some l := by
    unfold beginS
    cases ho : st.file n with
    | none => exact ⟨[], by simp [setF]⟩
    | some l => exact ⟨l, by simp [ho]⟩
  obtain ⟨l, hl⟩ := hs
  have he := h.files.each n hn
  rw [hl] at he
  obtain ⟨b2, buf, q1, q2, q3, q4⟩ := he
  rw [hd] at q1
  obtain rfl := ptrD_inj q1
  exact ⟨l, buf, hl, q2, q3, q4⟩
set_option maxRecDepth 100000 in
theorem begin_ (h : WdAt w B fm rm xm D vs vt ps T st) (k : Int) (n : ByteArray) (hn : Small n) (hm : st.made ≤ 1000000) (hk : 1 ≤ k ∧ k ≤ 5) (hf : k = 1 → n ≠ dash → ∃ l, st.file n = some l) :
    Calls Tryd.prog 62 #[ptr B, .int .u8 k, .string n] w fun e w' => ∃ p, e = .returned p ∧ BeginOk w w' B fm rm xm vs vt ps T st k n p := by
  have hC := h.cells
  have c1 := hC.c1
  have c3 := hC.c3
  by_cases h1 : k = 1
  · subst h1
    by_cases hd : n = dash
    · have hx : (n.toList == [45]) = true := by rw [hd, dash_list]; rfl
      have HH := Lib.hid (⟨h, hd⟩ : _ ∧ _)
      clear h hC hf hk hd
      go_enter Tryd.func62, Tryd.ntmps62
      go_wp2_with fail
      go_ret
      refine ⟨_, rfl, D, T, HH.out.1, fun _ _ => rfl, Turn.refl _ _, ?_⟩
      obtain ⟨_, hd⟩ := HH.out
      subst hd
      rfl
    · obtain ⟨l, hl⟩ := hf rfl hd
      rcases h.look n hn with ⟨q1, _⟩ | ⟨l2, b, buf, q1, q2, q3, q4, q5, q6⟩
      · rw [hl] at q1; cases q1
      rw [hl] at q1; cases q1
      have hx : (n.toList == [45]) = false := by rw [← dash_list]; exact toList_ne hd
      have HH := Lib.hid (⟨h, hl, hd, q3, q5, q6, q4⟩ : _ ∧ _ ∧ _ ∧ _ ∧ _ ∧ _ ∧ _)
      clear h hC hf hk hl hd q3 q5 q6 q4
      go_enter Tryd.func62, Tryd.ntmps62
      go_wp2_with (first | (go_at_call 35; refine (toString HH.out.2.2.2.2.2.2).mono ?_; rintro e w2 ⟨rfl, hbd, ht⟩; have H2 := Lib.hid (⟨hbd, ht⟩ : _ ∧ _); clear hbd ht))
      go_ret
      obtain ⟨h, hl, hd, q3, q5, q6, q4⟩ := HH.out
      obtain ⟨T1, r1, r2, r3⟩ := h.wrote hn q3 q4 q5 q6 (H2.out.2.mono fun k hk => .inr hk) H2.out.1 fun k hk => .inl hk
      rw [setF_self hl] at r1
      have hA := (Below.refl _ w2).alloc (Nat.le_refl _) (.cells #[.string (txt l)] 9)
      have hT1 : T1 w2.heap.size = .no := Classical.byContradiction fun e => by have := r1.lt _ e; omega
      have r4 := (r1.below hA).tagNew (.left 1 n) (b := w2.heap.size) (by rw [alloc_size]; omega) hT1
      refine ⟨_, rfl, D, _, r4, fun k hk => ?_, r3.after hA, ?_⟩
      · rw [tagAt_other (fun e => by cases e; have := r3.size; omega)]
        exact r2 k hk
      · have hs : srcOf st 1 n = .own (txt l) := by unfold srcOf; rw [if_pos rfl, if_neg hd, hl]; rfl
        rw [hs]
        exact ⟨_, rfl, alloc_new _ _, tagAt_same⟩
  by_cases h2 : k = 2
  · subst h2
    obtain ⟨q1, c, q2⟩ := h.replies.look hn
    have HH := Lib.hid h
    clear h hC hf hk q1
    go_enter Tryd.func62, Tryd.ntmps62
    go_wp2_with (first | rw [field_out])
    go_ret
    have hA := (Below.refl _ w).alloc (Nat.le_refl _) (.cells #[.string ((st.reply n).getD (noText, 0)).1] 9)
    have hT1 : T w.heap.size = .no := Classical.byContradiction fun e => by have := HH.out.lt _ e; omega
    have r4 := (HH.out.below hA).tagNew (.left 2 n) (b := w.heap.size) (by rw [alloc_size]; omega) hT1
    exact ⟨_, rfl, D, _, r4, fun k hk => tagAt_other (fun e => by cases e; omega), Turn.of_below hA, ⟨_, rfl, alloc_new _ _, tagAt_same⟩⟩
  by_cases h3 : k = 3
  · subst h3
    have HH := Lib.hid h
    clear h hC hf hk
    go_enter Tryd.func62, Tryd.ntmps62
    go_wp2_with (first
      | (go_at_call 80; refine (reset H2.out.2.2.2.2.2.2.2).mono ?_; rintro e w3 ⟨rfl, hbd, ht⟩; have H3 := Lib.hid (⟨hbd, ht⟩ : _ ∧ _); clear hbd ht)
      | (go_at_call 36; refine (file HH.out n hn hm).mono ?_; rintro e w2 ⟨b, D', T', rfl, q1, q2, q3, q4⟩; obtain ⟨l, buf, q5, q6, q7, q8⟩ := begun_at q1 hn q4; have H2 := Lib.hid (⟨q1, q2, q3, q4, q5, q7, q8, q6⟩ : _ ∧ _ ∧ _ ∧ _ ∧ _ ∧ _ ∧ _ ∧ _); clear q1 q2 q3 q4 q5 q6 q7 q8))
    go_ret
    obtain ⟨q1, q2, q3, q4, q5, q7, q8, q6⟩ := H2.out
    obtain ⟨T1, r1, r2, r3⟩ := q1.wrote hn q4 q6 q7 q8 (H3.out.2.mono fun k hk => .inl hk) H3.out.1 fun k hk => by cases hk
    exact ⟨_, rfl, D', T1, r1, fun k hk => (r2 k (Nat.lt_of_lt_of_le hk q3.size)).trans (q2 k hk), q3.thenTags r3 q2, rfl⟩
  by_cases h4 : k = 4
  · subst h4
    have HH := Lib.hid h
    clear h hC hf hk
    go_enter Tryd.func62, Tryd.ntmps62
    go_wp2_with (go_at_call 36; refine (file HH.out n hn hm).mono ?_; rintro e w2 ⟨b, D', T', rfl, q1, q2, q3, q4⟩; have H2 := Lib.hid (⟨q1, q2, q3⟩ : _ ∧ _ ∧ _); clear q1 q2 q3 q4)
    go_ret
    exact ⟨_, rfl, D', T', H2.out.1, H2.out.2.1, H2.out.2.2, rfl⟩
  obtain rfl : k = 5 := by omega
  have HH := Lib.hid h
  clear h hC hf hk
  go_enter Tryd.func62, Tryd.ntmps62
  go_wp2_with fail
  go_ret
  exact ⟨_, rfl, D, T, HH.out, fun _ _ => rfl, Turn.refl _ _, rfl⟩
end
end Go.Proofs.YtahblmcjocepeaaDoor.Wo
