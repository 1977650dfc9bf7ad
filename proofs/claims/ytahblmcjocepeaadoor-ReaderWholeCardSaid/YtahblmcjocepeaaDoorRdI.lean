/-
  Package reader: Next, Ended, New.
-/
import Derived.Test.YtahblmcjocepeaaDoorRdH
namespace Go.Proofs.YtahblmcjocepeaaDoor.Rd
open Go.RowKit Go.Maps Wo

theorem rd_info : ∃ j, Tryd.prog.info? 74 = some j := by
  have h : (Tryd.prog.info? 74).isSome = true := by kernel_rfl
  exact Option.isSome_iff_exists.1 h
theorem rself_eq (a : Addr) (w : World) : (binOp .eql 38 (.pointer (some a)) (.pointer (some a))).run Tryd.prog w = .ok (.bool true) w := by
  obtain ⟨j, hj⟩ := rd_info
  exact run_eql_ptr_same w a Tryd.underlying38 hj
theorem rnil_neq (a : Addr) (w : World) : (binOp .neq 38 (.pointer (some a)) (.pointer none)).run Tryd.prog w = .ok (.bool true) w := by
  have h : ∀ d : Nat, (Op.equalIn (d + 1) 38 (.pointer (some a)) (.pointer none)).run Tryd.prog w = .ok false w := fun d => by
    simp [Op.equalIn, run_underlying Tryd.underlying38]
  simp only [binOp]
  simp [Op.equal, Op.maxDepth, h 9999]
section
variable {w0 w : World} {c : Cst} {rb : Nat} {p : Nat} {over : Bool} {bx : List Nat}
theorem madeR (h : w.cell? ⟨rb, 0, none⟩ = some (ptr rb)) :
    Calls Tryd.prog 38 #[ptr rb] w fun e w' => e = .returned (.bool true) ∧ w' = w := by
  go_enter Tryd.func38, Tryd.ntmps38
  go_wp2_with (first | rw [rself_eq] | rw [rnil_neq])
  go_ret
  exact ⟨rfl, rfl⟩
theorem ended (h : RdS w0 w c rb p over bx) :
    Calls Tryd.prog 14 #[ptr rb] w fun e w' => e = .returned (.bool c.e0) ∧ w' = w := by
  have r0 : w.cell? ⟨rb, 0, none⟩ = some (ptr rb) := cell_of h.r 0
  have r6 : w.cell? ⟨rb, 6, none⟩ = some (.bool c.e0) := cell_of h.r 6
  go_enter Tryd.func14, Tryd.ntmps14
  go_wp2_with (go_at_call 38; refine (madeR r0).mono ?_; rintro e w1 ⟨rfl, hw⟩; obtain rfl := hw.symm; clear hw)
  go_ret
  exact ⟨rfl, rfl⟩
theorem RdS.setEnded (h : RdS w0 w c rb p over bx) (v : Bool) : RdS w0 (w.setCell ⟨rb, 6, none⟩ (.bool v)) { c with e0 := v } rb p over bx ∧ Keep bx w (w.setCell ⟨rb, 6, none⟩ (.bool v)) := by
  obtain ⟨st, h1, hg⟩ := h.rp
  refine ⟨⟨⟨st, h1.turn ((Turn.of_set w ⟨rb, 6, none⟩ _).mono fun k hk => by rw [hk]; simp), hg⟩, ?_, h.lf, h.ov, h.nd⟩, fun k hk => heap_set _ _ _ fun e => ?_⟩
  · rw [blk_set h.r]; rfl
  · have e2 : k = rb := e
    exact h.nd (e2 ▸ hk)
def NextN (w0 w : World) (c : Cst) (rb p : Nat) (bx : List Nat) (q : Nat) (z : Bool → Bool) (e : Ending) (w' : World) : Prop :=
  ∃ p' over', p ≤ p' ∧ p' ≤ c.tot.size ∧ EndAt q p' c.tot.size over' ∧ e = .returned (.tuple #[.string (c.tot.extract 0 q), .bool (!decide (p' = 0)), .int .i64 0]) ∧ RdS w0 w' { nextC c (min (q + 1) p') p' with e0 := z (decide (p' = 0)) } rb (p' - min (q + 1) p') over' bx ∧ Keep bx w w'
theorem nextU (hS : Src c.B c.k c.n c.tot c.G) (hz : c.tot.size ≤ 10000000) (h : RdS w0 w c rb p over bx) (b : UInt8) :
    Calls Tryd.prog 39 #[ptr rb, .string ⟨#[b]⟩] w (NextN w0 w c rb p bx (byteF c.tot b.toNat 0) (fun _ => c.e0)) := by
  refine (nextR hS hz h b).mono fun e w' ⟨p', ov', a1, a2, a3, he, a5, a6⟩ => ⟨p', ov', a1, a2, a3, ?_, a5, a6⟩
  rw [he]
  by_cases hp0 : p' = 0
  · have hq : byteF c.tot b.toNat 0 = 0 := by rcases a3 with e | e <;> omega
    rw [if_pos hp0, hq, decide_eq_true hp0]
    have : c.tot.extract 0 0 = ⟨#[]⟩ := ByteArray.ext (Array.eq_empty_of_size_eq_zero (by show (c.tot.extract 0 0).size = 0; rw [ByteArray.size_extract]; omega))
    rw [this]; rfl
  · rw [if_neg hp0, decide_eq_false hp0]; rfl
set_option maxHeartbeats 1000000 in
set_option maxRecDepth 100000 in
theorem nextN (hS : Src c.B c.k c.n c.tot c.G) (hz : c.tot.size ≤ 10000000) (h : RdS w0 w c rb p over bx) (b : UInt8) :
    Calls Tryd.prog 12 #[ptr rb, .string ⟨#[b]⟩] w (NextN w0 w c rb p bx (byteF c.tot b.toNat 0) id) := by
  have r0 : w.cell? ⟨rb, 0, none⟩ = some (ptr rb) := cell_of h.r 0
  have HH := Lib.hid (⟨h, hS⟩ : _ ∧ _)
  clear h hS
  go_enter Tryd.func12, Tryd.ntmps12
  go_wp2_with (first
    | (go_at_call 39; refine (nextU HH.out.2 hz HH.out.1 b).mono ?_; rintro e w3 ⟨p', ov', a1, a2, a3, rfl, a5, a6⟩; have r6 : w3.cell? ⟨rb, 6, none⟩ = some (.bool c.e0) := cell_of a5.r 6; have z6 : w3.frozen? ⟨rb, 6, none⟩ = false := frozen_of a5.r 6; have H3 := Lib.hid (⟨a1, a2, a3, a5, a6⟩ : _ ∧ _ ∧ _ ∧ _ ∧ _); clear a1 a2 a3 a5 a6; obtain ⟨tx, htx⟩ : ∃ tx, tx = c.tot.extract 0 (byteF c.tot (b.toNat : Int) 0) := ⟨_, rfl⟩; rw [← htx]; have HT := Lib.hid htx; clear htx; obtain ⟨z, hzz⟩ : ∃ z, z = decide (p' = 0) := ⟨_, rfl⟩; rw [← hzz]; have HZ := Lib.hid hzz; clear hzz)
    | (go_at_call 38; refine (madeR r0).mono ?_; rintro e w1 ⟨rfl, hw⟩; obtain rfl := hw.symm; clear hw))
  obtain ⟨b1, b2⟩ := H3.out.2.2.2.1.setEnded z
  refine bodyPost_ret (v := .tuple #[.string tx, .bool (!z), .int .i64 0]) (by simp [results, Tryd.results12, go_sem]) rfl ?_
  refine ⟨p', ov', H3.out.1, H3.out.2.1, H3.out.2.2.1, by rw [HT.out, HZ.out], ?_, H3.out.2.2.2.2.trans ?_⟩
  · rw [← HZ.out]
    exact b1
  · exact b2
end
end Go.Proofs.YtahblmcjocepeaaDoor.Rd
