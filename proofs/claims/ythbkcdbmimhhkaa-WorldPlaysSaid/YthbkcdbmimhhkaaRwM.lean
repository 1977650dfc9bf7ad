/-
  Two lists of the same events are the same (SameEvents); a command that is run in the program's world (System).
-/
import Derived.Test.YthbkcdbmimhhkaaRwA
import Derived.Laws.StructEq
namespace Go.Proofs.Ythbkcdbmimhhkaa.Rw
open Go.RowKit Go.Maps Wo

theorem ev_same (e : Ev) (w : World) : ∀ d, 0 < d → (Op.equalIn (d + 1) 67 (.agg #[.int .u8 e.kind, .int .u8 e.stream, .string e.name, .string e.data, .int .i64 e.status]) (.agg #[.int .u8 e.kind, .int .u8 e.stream, .string e.name, .string e.data, .int .i64 e.status])).run Try.prog w = .ok true w := by
  intro d hd
  obtain ⟨d, rfl⟩ : ∃ e, d = e + 1 := ⟨d - 1, by omega⟩
  have hf : Try.prog.underlying 67 = some (.struct (Try.prog.fieldsOf 67)) := by kernel_rfl
  have hs : Try.prog.stoodInHeld 67 = false := by kernel_rfl
  rw [run_equalIn_struct w (d + 1) 67 _ _ hf hs]
  simp [Program.fieldsOf, Try.underlying67, Op.eqFields, go_sem, Try.underlying65, Try.underlying41, Try.underlying9, Try.underlying3]
theorem ev_neq (e : Ev) (w : World) : (binOp .neq 67 (.agg #[.int .u8 e.kind, .int .u8 e.stream, .string e.name, .string e.data, .int .i64 e.status]) (.agg #[.int .u8 e.kind, .int .u8 e.stream, .string e.name, .string e.data, .int .i64 e.status])).run Try.prog w = .ok (.bool false) w := by
  have h := ev_same e w 9999 (by omega)
  simp only [binOp]
  simp [Op.equal, Op.maxDepth, h]

set_option maxHeartbeats 2000000 in
set_option maxRecDepth 100000 in
theorem sameEvents {w : World} {l : List Ev} {oa ob : Option Addr} {ca cb B1 B2 : Nat} (ha : OwnE w B1 (.slice oa l.length ca) l) (hb : OwnE w B2 (.slice ob l.length cb) l) (hz : l.length ≤ 1000000) :
    Calls Try.prog 12 #[.slice oa l.length ca, .slice ob l.length cb] w fun e w' => e = .returned (.bool true) ∧ Below w.heap.size w w' := by
  have HA := Lib.hid (⟨ha, hb⟩ : _ ∧ _)
  clear ha hb
  go_enter Try.func12, Try.ntmps12
  go_wp2_with fail
  go_loopg [5] l.length (fun q i wr => ∃ j, l.length - j = q ∧ j ≤ l.length ∧ i = .int .i64 (j : Int) ∧ Below w.heap.size w wr)
  case atStart => exact ⟨0, rfl, Nat.zero_le _, rfl, Below.refl _ _⟩
  case round =>
    obtain ⟨j, hq, hj, rfl, hbw⟩ := hrel
    have HW := Lib.hid hbw
    by_cases hlt : j < l.length
    · have hlt' : (j : Int) < (l.length : Int) := by omega
      obtain ⟨p, hp⟩ : ∃ p, l[j]? = some p := ⟨_, List.getElem?_eq_getElem hlt⟩
      obtain ⟨g1, rfl, hc1⟩ := (HA.out.1.below hbw).at lenE hp
      obtain ⟨g2, rfl, hc2⟩ := (HA.out.2.below hbw).at lenE hp
      have a0 : wr.cell? ⟨g1, j * 5, none⟩ = some (.int .u8 p.kind) := hc1 0 (by decide)
      have a1 : wr.cell? ⟨g1, j * 5 + 1, none⟩ = some (.int .u8 p.stream) := hc1 1 (by decide)
      have a2 : wr.cell? ⟨g1, j * 5 + 2, none⟩ = some (.string p.name) := hc1 2 (by decide)
      have a3 : wr.cell? ⟨g1, j * 5 + 3, none⟩ = some (.string p.data) := hc1 3 (by decide)
      have a4 : wr.cell? ⟨g1, j * 5 + 4, none⟩ = some (.int .i64 p.status) := hc1 4 (by decide)
      have b0 : wr.cell? ⟨g2, j * 5, none⟩ = some (.int .u8 p.kind) := hc2 0 (by decide)
      have b1 : wr.cell? ⟨g2, j * 5 + 1, none⟩ = some (.int .u8 p.stream) := hc2 1 (by decide)
      have b2 : wr.cell? ⟨g2, j * 5 + 2, none⟩ = some (.string p.name) := hc2 2 (by decide)
      have b3 : wr.cell? ⟨g2, j * 5 + 3, none⟩ = some (.string p.data) := hc2 3 (by decide)
      have b4 : wr.cell? ⟨g2, j * 5 + 4, none⟩ = some (.int .i64 p.status) := hc2 4 (by decide)
      have hne := fun W : World => ev_neq p W
      clear hc1 hc2 hp hbw
      go_upto_region 6 with fail
      go_quiet (fail)
      go_wp2_with fail
      go_roundg (l.length - (j + 1))
      case measure => omega
      case rel => exact ⟨j + 1, rfl, hlt, by go_num, below_drewN HW.out _⟩
    · obtain rfl : j = l.length := by omega
      have hge : ¬ (l.length : Int) < (l.length : Int) := by omega
      go_wp2_with fail
      go_ret
      exact ⟨rfl, HW.out⟩

/- What System does. -/
def sysM (st : St) (n : ByteArray) : Int := if st.fails 4 n = true then 0 else if (st.reply n).isSome = true then ((st.reply n).getD (noText, 0)).2 else 127
def sysE (st : St) (n : ByteArray) : Int := if st.fails 4 n = true then 12 else 0
def sysS (st : St) (n : ByteArray) : St := if st.fails 4 n = true then st else { st with trace := st.trace ++ [(⟨4, 0, n, noText, sysM st n⟩ : Ev)] }
section
variable {w : World} {B fm rm xm : Nat} {D : DataW Unit} {vs vt : Value} {ps : List Value} {T : Tags} {st : St} {n : ByteArray}
set_option maxHeartbeats 2000000 in
set_option maxRecDepth 100000 in
theorem system_ (h : WdAt w B fm rm xm D vs vt ps T st) (hn : Small n) (ht : st.trace.length ≤ 1000000) :
    Calls Try.prog 28 #[ptr B, .string n] w fun e w' => e = .returned (.tuple #[.int .i64 (sysM st n), .int .i64 (sysE st n)]) ∧ Goes w w' B T (sysS st n) := by
  have hC := Lib.hid h.cells
  have HP := Lib.hid h
  by_cases hf : st.fails 4 n = true
  · have e1 : sysM st n = 0 := if_pos hf
    have e2 : sysE st n = 12 := if_pos hf
    have e3 : sysS st n = st := if_pos hf
    rw [e1, e2, e3]
    have HF := Lib.hid hf
    clear e1 e2 e3 hf h
    go_enter Try.func28, Try.ntmps28
    go_wp2_with (first
      | (go_at_call 39; refine (made hC.out).mono ?_; rintro e w' ⟨rfl, hw⟩; obtain rfl := hw.symm; clear hw)
      | (go_at_call 43; refine (failing HP.out 4 n (by decide) (by decide) hn).mono ?_; rintro e w3 ⟨rfl, hb3⟩; rw [HF.out]; have HB := Lib.hid hb3; clear hb3))
    go_ret2
    exact ⟨rfl, HP.out.goes HB.out⟩
  · have hf2 : st.fails 4 n = false := by simpa using hf
    have e2 : sysE st n = 0 := if_neg hf
    have e3 : sysS st n = { st with trace := st.trace ++ [(⟨4, 0, n, noText, sysM st n⟩ : Ev)] } := if_neg hf
    rw [e2, e3]
    have HF := Lib.hid hf2
    clear hf hf2 e2 e3 h
    obtain ⟨b, hb⟩ : ∃ b, b = (st.reply n).isSome := ⟨_, rfl⟩
    have hm : sysM st n = if b = true then ((st.reply n).getD (noText, 0)).2 else 127 := by unfold sysM; rw [HF.out, if_neg (by decide), hb]
    rw [hm]
    have HBo := Lib.hid hb
    clear hb hm
    cases b
    · rw [if_neg (by decide)]
      go_enter Try.func28, Try.ntmps28
      go_upto_region 9 with (first
        | (go_at_call 39; refine (made hC.out).mono ?_; rintro e w' ⟨rfl, hw⟩; obtain rfl := hw.symm; clear hw)
        | (go_at_call 43; refine (failing HP.out 4 n (by decide) (by decide) hn).mono ?_; rintro e w3 ⟨rfl, hb3⟩; rw [HF.out]; have h3 := HP.out.below hb3; have c3 := h3.cells.c3; obtain ⟨c, hlk⟩ := (h3.replies.look hn).1; rw [← HBo.out] at hlk; have HB := Lib.hid (⟨hb3, h3⟩ : _ ∧ _); clear hb3 h3))
      obtain ⟨w4, h4⟩ : ∃ w4, w4 = w3.alloc (.cells #[.string c, .string ((st.reply n).getD (noText, 0)).1, .int .i64 ((st.reply n).getD (noText, 0)).2] 74) := ⟨_, rfl⟩
      rw [← h4]
      have hb4 : Below w.heap.size w w4 := by rw [h4]; exact HB.out.1.trans (((Below.refl _ w3).alloc (Nat.le_refl _) _).mono HB.out.1.size)
      have hw4 := HP.out.below hb4
      have H4 := Lib.hid (⟨hb4, hw4⟩ : _ ∧ _)
      clear hb4 hw4 h4 hlk c3
      go_wp2_with (go_at_call 44; refine (note H4.out.2 ⟨4, 0, n, noText, 127⟩ ht).mono ?_; rintro e w6 ⟨rfl, vt', T6, s1, s2, s3⟩; have H6 := Lib.hid (⟨s1, s2, s3⟩ : _ ∧ _ ∧ _); clear s1 s2 s3)
      go_ret2
      exact ⟨rfl, Goes.step H4.out.1 H6.out.2.1 H6.out.2.2 H6.out.1⟩
    · rw [if_pos rfl]
      go_enter Try.func28, Try.ntmps28
      go_upto_region 9 with (first
        | (go_at_call 39; refine (made hC.out).mono ?_; rintro e w' ⟨rfl, hw⟩; obtain rfl := hw.symm; clear hw)
        | (go_at_call 43; refine (failing HP.out 4 n (by decide) (by decide) hn).mono ?_; rintro e w3 ⟨rfl, hb3⟩; rw [HF.out]; have h3 := HP.out.below hb3; have c3 := h3.cells.c3; obtain ⟨c, hlk⟩ := (h3.replies.look hn).1; rw [← HBo.out] at hlk; have HB := Lib.hid (⟨hb3, h3⟩ : _ ∧ _); clear hb3 h3))
      obtain ⟨w4, h4⟩ : ∃ w4, w4 = w3.alloc (.cells #[.string c, .string ((st.reply n).getD (noText, 0)).1, .int .i64 ((st.reply n).getD (noText, 0)).2] 74) := ⟨_, rfl⟩
      rw [← h4]
      have hb4 : Below w.heap.size w w4 := by rw [h4]; exact HB.out.1.trans (((Below.refl _ w3).alloc (Nat.le_refl _) _).mono HB.out.1.size)
      have hw4 := HP.out.below hb4
      have H4 := Lib.hid (⟨hb4, hw4⟩ : _ ∧ _)
      clear hb4 hw4 h4 hlk c3
      go_wp2_with (go_at_call 44; refine (note H4.out.2 ⟨4, 0, n, noText, ((st.reply n).getD (noText, 0)).2⟩ ht).mono ?_; rintro e w6 ⟨rfl, vt', T6, s1, s2, s3⟩; have H6 := Lib.hid (⟨s1, s2, s3⟩ : _ ∧ _ ∧ _); clear s1 s2 s3)
      go_ret2
      exact ⟨rfl, Goes.step H4.out.1 H6.out.2.1 H6.out.2.2 H6.out.1⟩
end
end Go.Proofs.Ythbkcdbmimhhkaa.Rw
