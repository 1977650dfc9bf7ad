/-
  Package reader: more is read: the closure of next, walked.
-/
import Derived.Test.YtahblmcjocepeaaDoorRdD
import Derived.Deep.CutRange
namespace Go.Proofs.YtahblmcjocepeaaDoor.Rd
open Go.RowKit Go.Maps Wo

section
variable {w0 w : World} {c : Cst} {x : Blks} {buf : Option Nat} {p : Nat} {over : Bool} {bx : List Nat}
set_option maxHeartbeats 1000000 in
set_option maxRecDepth 100000 in
theorem more (hS : Src c.B c.k c.n c.tot c.G) (hz : c.tot.size ≤ 10000000) (h : Nx w0 w c x buf p p over bx) :
    Calls Tryd.prog 63 #[ptr x.b2, ptr x.eb, ptr x.t8] w fun e w' => ∃ p' over' buf', e = .returned (.bool (decide (p < p'))) ∧ Nx w0 w' c x buf' p' p' over' bx ∧ Keep bx w w' ∧ p ≤ p' ∧ (p' = p → p = c.tot.size ∧ over' = true) := by
  obtain ⟨q1, q2, q3, q4, q5, q6⟩ := h.cells
  cases over with
  | true =>
    have hp := h.ov rfl
    have HH := Lib.hid h
    clear h q2 q3 q4 q6
    go_enter Tryd.func63, Tryd.ntmps63
    go_wp2_with fail
    refine bodyPost_ret (v := .bool false) (by simp [results, Tryd.results63, go_sem]) rfl ?_
    exact ⟨p, true, buf, by rw [decide_eq_false (by omega)], HH.out, Keep.refl _ _, Nat.le_refl _, fun _ => ⟨hp, rfl⟩⟩
  | false =>
    obtain ⟨st, h1, h2⟩ := h.rp
    have hle := hS.le p st h2
    have HH := Lib.hid h
    have HR := Lib.hid (⟨h1, h2, hS⟩ : _ ∧ _ ∧ _)
    have r1 : w.cell? ⟨x.rb, 1, none⟩ = some (ptr c.B) := cell_of h.r 1
    have r2 : w.cell? ⟨x.rb, 2, none⟩ = some (.int .u8 c.k) := cell_of h.r 2
    have r3 : w.cell? ⟨x.rb, 3, none⟩ = some (.string c.n) := cell_of h.r 3
    clear h h1 h2 hS
    go_enter Tryd.func63, Tryd.ntmps63
    go_upto_region 4 with fail
    refine Rg.wp_region_cut 12 6 rfl (by kernel_rfl) (by kernel_rfl) ?_
    intro wE hbE hhE
    have q1 : wE.cell? ⟨x.b2, 0, none⟩ = some (ptr x.rb) := (World.cell?_of_block (by rw [hhE])).trans q1
    have r1 : wE.cell? ⟨x.rb, 1, none⟩ = some (ptr c.B) := (World.cell?_of_block (by rw [hhE])).trans r1
    have r2 : wE.cell? ⟨x.rb, 2, none⟩ = some (.int .u8 c.k) := (World.cell?_of_block (by rw [hhE])).trans r2
    have r3 : wE.cell? ⟨x.rb, 3, none⟩ = some (.string c.n) := (World.cell?_of_block (by rw [hhE])).trans r3
    have hrE := (HR.out.1.below hbE).1
    have HE := Lib.hid (⟨HH.out.below hbE, hrE, (HR.out.1.below hbE).2⟩ : _ ∧ _ ∧ _)
    clear hbE hhE hrE q2 q3 q4 q5 q6
    simp only [List.take_succ_cons, List.take_zero]
    repeat still_step
    refine wpStill_nil ?_
    refine wpAny_ready (rs := [12]) (by kernel_rfl) (by simp) (AllReady.cons rfl (fun K hK => ?_) AllReady.nil)
    go_simp
    go_at_call 20
    refine (HE.out.2.1.call (R := fun e st2 => e = .returned (.tuple #[.string (c.tot.extract p (min (p + 512) c.tot.size)), .int .i64 0]) ∧ c.G (min (p + 512) c.tot.size) st2) fun _ _ _ _ _ _ _ _ q => HR.out.2.2.read p st HR.out.2.1 _ _ _ _ _ _ _ _ _ q).mono ?_
    rintro e w3 ⟨st3, ⟨rfl, hg3⟩, hr3, hk3⟩
    have hn3 := HE.out.1.kept hr3 hg3 hk3 (fun e => by cases e)
    have hkb : Keep bx w w3 := fun b hb => (hk3 b (by simp [hb])).trans (HE.out.2.2 b (by simp [hb]))
    obtain ⟨p', hp'⟩ : ∃ p', p' = min (p + 512) c.tot.size := ⟨_, rfl⟩
    rw [← hp'] at hn3 ⊢
    obtain ⟨pc, hpc⟩ : ∃ pc, pc = c.tot.extract p p' := ⟨_, rfl⟩
    rw [← hpc]
    have H3 := Lib.hid (⟨hn3, hkb, hp', hpc⟩ : _ ∧ _ ∧ _ ∧ _)
    obtain ⟨q1, q2, q3, q4, q5, q6⟩ := hn3.cells
    clear hg3 hr3 hk3 hn3 hkb hp' hpc
    go_simp
    refine hK _ _ ?_
    clear hK K
    refine wpAny_ready (rs := [13]) (by kernel_rfl) (by simp) (AllReady.cons rfl (fun K hK => ?_) AllReady.nil)
    go_simp
    refine hK _ _ ?_
    clear hK K
    refine wpAny_take (i := 14) (v := .string pc) rfl (by kernel_rfl) (by kernel_rfl) (by kernel_rfl) (fun _ _ _ h => h) (Or.inl ⟨by rfl, fun w => by go_simp⟩) ?_
    refine wpAny_take (i := 15) (v := .int .i64 0) rfl (by kernel_rfl) (by kernel_rfl) (by kernel_rfl) (fun _ _ _ h => h) (Or.inl ⟨by rfl, fun w => by go_simp⟩) ?_
    refine wpAny_take (i := 16) (v := .string pc) rfl (by kernel_rfl) (by kernel_rfl) (by kernel_rfl) (fun _ _ _ h => h) (Or.inl ⟨by rfl, fun w => by go_simp⟩) ?_
    refine wpAny_ready (rs := [17]) (by kernel_rfl) (by simp) (AllReady.cons rfl (fun K hK => ?_) AllReady.nil)
    go_simp
    refine hK _ _ ?_
    clear hK K
    refine wpAny_done (by kernel_rfl) ?_ _
    have hn4 := H3.out.1.setErr
    have hk4 : Keep bx w3 (w3.setCell ⟨x.eb, 0, none⟩ (.int .i64 0)) := fun b hb => heap_same (i := 0) (v := .int .i64 0) H3.out.1.e rfl b
    obtain ⟨w4, hw4⟩ : ∃ w4, w4 = w3.setCell ⟨x.eb, 0, none⟩ (.int .i64 0) := ⟨_, rfl⟩
    rw [← hw4] at hn4 hk4 ⊢
    have H4 := Lib.hid (⟨hn4, H3.out.2.1.trans hk4⟩ : _ ∧ _)
    clear q1 q2 q3 q4 q5 q6
    obtain ⟨q1, q2, q3, q4, q5, q6⟩ := hn4.cells
    clear hw4 hn4 hk4
    have hpz : pc.size = p' - p := by rw [H3.out.2.2.2, ByteArray.size_extract]; have := H3.out.2.2.1; omega
    by_cases he : p' = p
    · have hpe : pc = ⟨#[]⟩ := ByteArray.ext (Array.eq_empty_of_size_eq_zero (by show pc.size = 0; omega))
      have hpt : p = c.tot.size := by have := H3.out.2.2.1; omega
      subst hpe
      have HT := Lib.hid (⟨he, hpt⟩ : _ ∧ _)
      clear he hpt hpz
      go_wp2_with fail
      have hn5 := H4.out.1.setOver (by rw [HT.out.1]; exact HT.out.2)
      refine bodyPost_ret (v := .bool false) (by simp [results, Tryd.results63, go_sem]) rfl ?_
      refine ⟨p, true, buf, by rw [decide_eq_false (by omega)], ?_, H4.out.2.trans fun b hb => heap_set _ _ _ fun e => (by have e2 : b = x.rb := e; exact H4.out.1.nd.1 x.rb (by simp) (e2 ▸ hb)), Nat.le_refl _, fun _ => ⟨HT.out.2, rfl⟩⟩
      have e := HT.out.1
      subst e
      exact hn5
    · have hne : ¬ pc.size = 0 := by have := H3.out.2.2.1; omega
      have hnb : pc.toList.isEmpty = false := by
        rw [Lib.toList_data, List.isEmpty_eq_false_iff]
        intro e
        have : pc.data.toList.length = 0 := by rw [e]; rfl
        rw [Array.length_toList] at this
        exact hne this
      have hlt : p < p' := by have := H3.out.2.2.1; omega
      have HT := Lib.hid (⟨hlt, hpz⟩ : _ ∧ _)
      clear he hpz hlt
      go_wp2_with (go_at_call 64; refine (add H4.out.1.tx pc (by rw [ByteArray.size_extract]; have := HT.out.2; have := H3.out.2.2.1; omega)).mono ?_; rintro e w5 ⟨rfl, buf5, ht5, hT5, hn5⟩; have H5 := Lib.hid (⟨ht5, hT5, hn5⟩ : _ ∧ _ ∧ _); clear ht5 hT5 hn5)
      refine bodyPost_ret (v := .bool true) (by simp [results, Tryd.results63, go_sem]) rfl ?_
      have ha := H5.out.1
      rw [H3.out.2.2.2, ext_add c.tot (Nat.le_of_lt HT.out.1) (by have := H3.out.2.2.1; omega)] at ha
      obtain ⟨n1, n2⟩ := H4.out.1.added ha H5.out.2.1 H5.out.2.2
      exact ⟨p', false, buf5, by rw [decide_eq_true HT.out.1], n1, H4.out.2.trans n2, Nat.le_of_lt HT.out.1, fun e => by have := HT.out.1; omega⟩
end
end Go.Proofs.YtahblmcjocepeaaDoor.Rd
