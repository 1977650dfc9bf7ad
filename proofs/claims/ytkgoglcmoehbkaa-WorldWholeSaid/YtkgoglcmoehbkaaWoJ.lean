/-
  Package world: reading from a stream (Read), writing to one (Write), a file's bytes (File), all events (Trace), Chance, System.
-/
import Derived.Test.YtkgoglcmoehbkaaWoI
namespace Go.Proofs.Ytkgoglcmoehbkaa.Wo
open Go.RowKit Go.Maps

section
variable {w : World} {B fm rm xm : Nat} {D : DataW Unit} {vs vt : Value} {ps : List Value} {T : Tags} {st : St} {n : ByteArray} {k : Int}

set_option maxRecDepth 100000 in
theorem fileOf (h : WdAt w B fm rm xm D vs vt ps T st) (hn : Small n) :
    Calls Try.prog 16 #[ptr B, .string n] w fun e w' => e = .returned (.tuple #[.string (txt ((st.file n).getD [])), .bool (st.file n).isSome]) ∧ Goes w w' B T st := by
  have hC := Lib.hid h.cells
  have c1 := h.cells.c1
  rcases h.look n hn with ⟨h1, h2⟩ | ⟨l, b, buf, h1, h2, h3, h4, h5, h6⟩
  · have HH := Lib.hid (⟨h, h1⟩ : _ ∧ _)
    clear h h1
    go_enter Try.func16, Try.ntmps16
    go_wp2_with (first
      | (go_at_call 39; refine (made hC.out).mono ?_; rintro e w' ⟨rfl, hw⟩; obtain rfl := hw.symm; clear hw)
      | rw [bld_eq_nil])
    go_ret2
    exact ⟨by rw [HH.out.2]; rfl, HH.out.1.goes (Below.refl _ _)⟩
  · have HH := Lib.hid (⟨h, h1, h3, h4, h5, h6⟩ : _ ∧ _ ∧ _ ∧ _ ∧ _ ∧ _)
    clear h h1 h3 h4 h5 h6
    go_enter Try.func16, Try.ntmps16
    go_wp2_with (first
      | (go_at_call 39; refine (made hC.out).mono ?_; rintro e w' ⟨rfl, hw⟩; obtain rfl := hw.symm; clear hw)
      | rw [bld_eq_ptr]
      | (go_at_call 42; refine (toString HH.out.2.2.2.1).mono ?_; rintro e w2 ⟨rfl, hbd, ht⟩; have H2 := Lib.hid (⟨hbd, ht⟩ : _ ∧ _); clear hbd ht))
    go_ret2
    obtain ⟨h, h1, h3, h4, h5, h6⟩ := HH.out
    obtain ⟨T1, r1, r2, r3⟩ := h.wrote hn h3 h4 h5 h6 (H2.out.2.mono fun k hk => .inr hk) H2.out.1 fun k hk => .inl hk
    rw [setF_self h1] at r1
    exact ⟨by rw [h1]; rfl, fm, rm, xm, D, vs, vt, ps, T1, r1, r2, r3⟩

def nextU (x : Int) : Int := IntKind.u64.wrap (IntKind.u64.wrap (x * 6364136223846793005) + 1442695040888963407)
set_option maxRecDepth 100000 in
theorem chanceOf (h : WdAt w B fm rm xm D vs vt ps T st) :
    Calls Try.prog 37 #[ptr B] w fun e w' => e = .returned (.int .u64 st.chance) ∧ Goes w w' B T { st with chance := nextU st.chance } := by
  have hC := Lib.hid h.cells
  have c7 := h.cells.c7
  have z7 := h.cells.z 7
  have HH := Lib.hid h
  clear h
  go_enter Try.func37, Try.ntmps37
  go_wp2_with (first
      | (go_at_call 39; refine (made hC.out).mono ?_; rintro e w' ⟨rfl, hw⟩; obtain rfl := hw.symm; clear hw))
  go_ret
  obtain ⟨q1, q2⟩ := HH.out.chance (nextU st.chance)
  exact ⟨rfl, fm, rm, xm, D, vs, vt, ps, T, q1, fun _ _ => rfl, q2⟩

theorem flatE_one : ∀ l : List Ev, ∀ u ∈ flatE l, u.oneCell' = true := by
  intro l u hu
  unfold flatE at hu
  rw [List.mem_flatten] at hu
  obtain ⟨a, ha, hu⟩ := hu
  obtain ⟨e, _, rfl⟩ := List.mem_map.1 ha
  exact e.one u hu
theorem flatE_length : ∀ l : List Ev, (flatE l).length = l.length * 5
  | [] => rfl
  | e :: l => by
    have := flatE_length l
    unfold flatE at this ⊢
    rw [List.map_cons, List.flatten_cons, List.length_append, this]
    show 5 + _ = _
    rw [List.length_cons]; omega
set_option maxRecDepth 100000 in
theorem clone_ {w : World} {oa : Option Addr} {c : Nat} {l : List Ev} (h : w.ownsRow 0 67 5 (.slice oa l.length c) l.length (flatE l)) (hl : l.length ≤ 1000000) :
    Calls Try.prog 40 #[.slice oa l.length c] w fun e w' => ∃ v, e = .returned v ∧ w'.ownsRow w.heap.size 67 5 v l.length (flatE l) ∧ Below w.heap.size w w' := by
  obtain ⟨i0, z0, hi, hz, hsz, hby, hzs⟩ := ev_info
  have HZ := Lib.hid (⟨hi, hz, hsz, hby, hzs⟩ : _ ∧ _ ∧ _ ∧ _ ∧ _)
  clear hi hz hsz hby hzs
  rcases h.2 with ⟨h1, h0⟩ | ⟨g, cap, cur, h1, h2, h3, h4, h5, h6, h7⟩
  · obtain rfl : l = [] := List.eq_nil_of_length_eq_zero h0
    simp only [Value.slice.injEq] at h1
    obtain ⟨rfl, _, rfl⟩ := h1
    have hq := Lib.run_eql_slice_nil (P := Try.prog) w 36 67 none 0 0 0 0 Try.underlying36
    go_enter Try.func40, Try.ntmps40
    go_wp2_with (rw [hq])
    go_ret
    exact ⟨_, rfl, World.ownsRow_nil _ _ _ _, Below.refl _ _⟩
  · simp only [Value.slice.injEq] at h1
    obtain ⟨rfl, _, rfl⟩ := h1
    have hq := Lib.run_eql_slice_nil (P := Try.prog) w 36 67 (some ⟨g, 0, none⟩) l.length c 0 0 Try.underlying36
    by_cases hpos : l.length = 0
    · obtain rfl : l = [] := List.eq_nil_of_length_eq_zero hpos
      have hq0 := Lib.run_eql_slice_nil (P := Try.prog) w 36 67 (some ⟨g, 0, none⟩) 0 c 0 0 Try.underlying36
      go_enter Try.func40, Try.ntmps40
      go_wp2_with (rw [hq0])
      go_ret
      exact ⟨_, rfl, World.ownsRow_made w #[] 0 (Nat.le_refl _) (Nat.zero_le _) rfl, (Below.refl _ w).alloc (Nat.le_refl _) _⟩
    · have HR := Lib.hid h
      clear h h3 h7
      go_enter Try.func40, Try.ntmps40
      go_wp2_with (first
        | rw [hq]
        | (at_builtin; refine wpList_append_lies _ rfl (.tmp 5) (.tmp 6) 36 rfl w.heap.size 67 i0 z0 5 48 Try.underlying36 HZ.out.1 HZ.out.2.1 HZ.out.2.2.1 HZ.out.2.2.2.1 HZ.out.2.2.2.2 (by decide) (.slice (some ⟨w.heap.size, 0, none⟩) 0 0) 0 [] rfl (World.ownsRow_made w #[] 0 (Nat.le_refl _) (Nat.zero_le _) rfl) ⟨g, 0, none⟩ l.length c (flatE l) rfl (flatE_length l) (HR.out.alloc _ |>.cells (g := g) rfl) (flatE_one l) (by omega) (by unfold maxLen; omega) (by omega) (by rw [alloc_size]; omega) _ rfl ?_; intro g2 cap2 w4 hown hgrow hat hlt4; rw [Nat.zero_add] at hown ⊢; have HO := Lib.hid (⟨hown, ((Below.refl w.heap.size w).alloc (Nat.le_refl _) _).grown hgrow (by rw [alloc_size]; omega) (fun k hk => by cases hk; exact Nat.le_refl _)⟩ : _ ∧ _); clear hown hgrow hat hlt4))
      go_ret
      exact ⟨_, rfl, HO.out.1, HO.out.2⟩
set_option maxRecDepth 100000 in
theorem traceOf (h : WdAt w B fm rm xm D vs vt ps T st) (ht : st.trace.length ≤ 1000000) :
    Calls Try.prog 13 #[ptr B] w fun e w' => ∃ v, e = .returned v ∧ w'.ownsRow w.heap.size 67 5 v st.trace.length (flatE st.trace) ∧ Below w.heap.size w w' := by
  have hC := Lib.hid h.cells
  have c9 := h.cells.c9
  obtain ⟨oa, c, rfl, hoa⟩ := slice_of h.trace.row
  have HH := Lib.hid h
  clear h
  go_enter Try.func13, Try.ntmps13
  go_wp2_with (first
      | (go_at_call 39; refine (made hC.out).mono ?_; rintro e w' ⟨rfl, hw⟩; obtain rfl := hw.symm; clear hw)
      | (go_at_call 40; refine (clone_ HH.out.trace.row ht).mono ?_; rintro e w2 ⟨v, rfl, hv, hb⟩; have H2 := Lib.hid (⟨hv, hb⟩ : _ ∧ _); clear hv hb))
  go_ret
  exact ⟨v, rfl, H2.out.1, H2.out.2⟩

end
end Go.Proofs.Ytkgoglcmoehbkaa.Wo
