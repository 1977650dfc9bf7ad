/-
  WorldPlays: one call, of whatever kind; how both worlds begin.
-/
import Derived.Test.YthbkcdbmimhhkaaPb
import Derived.Test.YthbkcdbmimhhkaaPc
import Derived.Test.YthbkcdbmimhhkaaPlB
import Derived.Test.YthbkcdbmimhhkaaPlC
namespace Go.Proofs.Ythbkcdbmimhhkaa.Rw
open Go.RowKit Go.Maps Wo
section
variable {w0 w : World} {B : Nat} {S : Scpt} {st : St} {r : RSt} {s : Shp} {bx : List Nat} {j : Nat} {k : Int} {n d : ByteArray} {m : Int}
theorem oneAll (h : Duo w0 w B S st r s bx) (hi : Its j S st r k n d m) (kd : Int) :
    Calls Try.prog 10 #[ptr B, .agg (s.cells S r), .agg #[.int .i64 kd, .int .u8 k, .string n, .string d, .int .i64 m]] w (OnePost w0 w B S bx j) := by
  by_cases e1 : kd = 1
  · subst e1; exact one1 h hi
  by_cases e2 : kd = 2
  · subst e2
    rcases read_both (k := k) (n := n) (m := m) hi.ag hi.sh.sz (fun p hp => by have := hi.bd.os p hp; have := hi.j50; omega) with q | q
    · exact one2a h hi q
    · exact one2b h hi q
  by_cases e3 : kd = 3
  · subst e3; exact one3 h hi
  by_cases e4 : kd = 4
  · subst e4; exact one4 h hi
  by_cases e5 : kd = 5
  · subst e5; exact one5 h hi
  by_cases e6 : kd = 6
  · subst e6; exact one6 h hi
  by_cases e7 : kd = 7
  · subst e7; exact one7 h hi
  exact one0 h hi kd e1 e2 e3 e4 e5 e6 e7
end
/- Both made. -/
theorem newGood {w : World} {S : Scpt} {s : Shp} (h : ScrAt w S s) (hS : Short S) (ho : OkS S) (hX : ∀ x ∈ S.fails, 0 ≤ x.op ∧ x.op < 256) :
    Calls Try.prog 8 #[.agg (scr7 S s)] w fun e w' => ∃ B T, e = .returned (.tuple #[ptr B, .int .i64 0]) ∧ Wd w' B T (stNew S) ∧ (∀ k, T k ≠ .no → w.heap.size ≤ k) ∧ Below w.heap.size w w' :=
  newG ho.2.2 h.ra rfl (by have := hS.f8; omega) (fun p hp => ⟨by unfold Small; have := (hS.fn p hp).1; omega, by have := (hS.fn p hp).2; omega⟩) ho.1 h.rr (by have := hS.r8; omega) (fun r hr => by unfold Small; have := (hS.rn r hr).1; omega) ho.2.1 h.rx (by have := hS.x8; omega) (fun x hx => ⟨hX x hx, by unfold Small; have := hS.xn x hx; omega⟩)
theorem refGood {w0 w : World} {B : Nat} {T : Tags} {S : Scpt} {s : Shp} (h : ScrAt w0 S s) (hS : Short S) (ho : OkS S) (hw : Wd w B T (stNew S)) (hT : ∀ k, T k ≠ .no → w0.heap.size ≤ k) (hb : Below w0.heap.size w0 w) {bx : List Nat} (hbx : ∀ b ∈ bx, b < w.heap.size ∧ T b = .no) :
    Calls Try.prog 9 #[.agg (scr7 S s)] w fun e w' => ∃ s', e = .returned (.tuple #[.agg (s'.cells S (rNew S)), .int .i64 0]) ∧ Duo w0 w' B S (stNew S) (rNew S) s' bx ∧ Keep bx w w' := by
  have hq : ScrAt w (gho S w.heap.size T) s := ⟨h.ra.below hb, h.na, h.rr.below hb, h.rx.below hb, Nat.le_refl _⟩
  obtain ⟨fm, rm, xm, D, vs, vt, ps, hw⟩ := hw
  have hc := newRef hq (by have := hS.f8; show S.files.length ≤ _; omega) (by have := hS.r8; show S.reps.length ≤ _; omega)
  refine hc.mono fun e w' hp => ?_
  rcases hp with ⟨_, s', he, hs, hr, hb2⟩ | ⟨hno, _⟩
  · exact ⟨s', he, ⟨fm, rm, xm, D, vs, vt, ps, T, hw.below hb2, hT, hb.trans (hb2.mono hb.size), hr.again hw.lt, old_scr ⟨h.rr, h.rx⟩ hs, fun b q => ⟨Nat.lt_of_lt_of_le (hbx b q).1 hb2.size, (hbx b q).2⟩⟩, fun b q => hb2.block b (hbx b q).1⟩
  · exact absurd ho hno
theorem refBad {w : World} {S : Scpt} {s : Shp} (h : ScrAt w S s) (hS : Short S) (ho : ¬ OkS S) :
    Calls Try.prog 9 #[.agg (scr7 S s)] w fun e w' => e = .returned (.tuple #[.agg (s0.cells S0 r0), .int .i64 2]) ∧ Below w.heap.size w w' := by
  refine (newRef h (by have := hS.f8; omega) (by have := hS.r8; omega)).mono fun e w' hp => ?_
  rcases hp with ⟨hy, _⟩ | ⟨_, he, hb⟩
  · exact absurd hy ho
  · exact ⟨he, hb⟩
theorem progBad {w : World} {S : Scpt} {s : Shp} (h : ScrAt w S s) (hS : Short S) (ho : ¬ OkS S) :
    Calls Try.prog 8 #[.agg (scr7 S s)] w fun e w' => e = .returned (.tuple #[.pointer none, .int .i64 2]) ∧ Below w.heap.size w w' :=
  newBad h (by have := hS.f8; omega) (fun p hp => ⟨by unfold Small; have := (hS.fn p hp).1; omega, by have := (hS.fn p hp).2; omega⟩) (by have := hS.r8; omega) (fun r hr => by unfold Small; have := (hS.rn r hr).1; omega) ho
theorem world_eq_nil (w : World) : (binOp .eql 31 (.pointer none) (.pointer none)).run Try.prog w = .ok (.bool true) w := by
  have h : ∀ d : Nat, (Op.equalIn (d + 1) 31 (.pointer none) (.pointer none)).run Try.prog w = .ok true w := fun d => by
    simp [Op.equalIn, run_underlying Try.underlying31]
  simp only [binOp]
  simp [Op.equal, Op.maxDepth, h 9999]
theorem bd_new (S : Scpt) (hS : Short S) : Bd 0 (stNew S) (rNew S) := by
  obtain ⟨h1, _⟩ := new_few S
  have := hS.f8
  exact ⟨Nat.zero_le _, Nat.zero_le _, by omega, by show S.files.length ≤ _; omega, fun p hp => (hS.fn p hp).2, fun p hp => (by cases hp), fun p hp => (hS.fn p hp).1⟩
end Go.Proofs.Ythbkcdbmimhhkaa.Rw
