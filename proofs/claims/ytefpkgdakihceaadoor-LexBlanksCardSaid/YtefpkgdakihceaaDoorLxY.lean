/-
  The document's own side of layer 12 (winnowerref12), last part: 'Next', as the plain function tells.
-/
import Derived.Test.YtefpkgdakihceaaDoorLxX
import Derived.Deep.CutRange
namespace Go.Proofs.YtefpkgdakihceaaDoor.Lx
open Go.RowKit

structure Trd (w W : World) (c0 c1 c2 c3 c4 : Value) : Prop where
  a0 : W.cell? ⟨w.heap.size, 0, none⟩ = some (.int .u8 0)
  a1 : W.cell? ⟨w.heap.size, 1, none⟩ = some (.string ⟨#[]⟩)
  a2 : W.cell? ⟨w.heap.size, 2, none⟩ = some (.int .i64 0)
  a3 : W.cell? ⟨w.heap.size, 3, none⟩ = some (.int .i64 0)
  a4 : W.cell? ⟨w.heap.size, 4, none⟩ = some (.int .i64 0)
  b0 : W.cell? ⟨w.heap.size + 1, 0, none⟩ = some (.int .i64 0)
  b1 : W.cell? ⟨w.heap.size + 1, 1, none⟩ = some (.int .i64 0)
  c0 : W.cell? ⟨w.heap.size + 1 + 1, 0, none⟩ = some (c0)
  c1 : W.cell? ⟨w.heap.size + 1 + 1, 1, none⟩ = some (c1)
  c2 : W.cell? ⟨w.heap.size + 1 + 1, 2, none⟩ = some (c2)
  c3 : W.cell? ⟨w.heap.size + 1 + 1, 3, none⟩ = some (c3)
  c4 : W.cell? ⟨w.heap.size + 1 + 1, 4, none⟩ = some (c4)
  fa0 : W.frozen? ⟨w.heap.size, 0, none⟩ = false
  fa1 : W.frozen? ⟨w.heap.size, 1, none⟩ = false
  fa2 : W.frozen? ⟨w.heap.size, 2, none⟩ = false
  fa3 : W.frozen? ⟨w.heap.size, 3, none⟩ = false
  fa4 : W.frozen? ⟨w.heap.size, 4, none⟩ = false
  fb0 : W.frozen? ⟨w.heap.size + 1, 0, none⟩ = false
  fb1 : W.frozen? ⟨w.heap.size + 1, 1, none⟩ = false
  fc0 : W.frozen? ⟨w.heap.size + 1 + 1, 0, none⟩ = false
  fc1 : W.frozen? ⟨w.heap.size + 1 + 1, 1, none⟩ = false
  fc2 : W.frozen? ⟨w.heap.size + 1 + 1, 2, none⟩ = false
  fc3 : W.frozen? ⟨w.heap.size + 1 + 1, 3, none⟩ = false
  fc4 : W.frozen? ⟨w.heap.size + 1 + 1, 4, none⟩ = false
  below : Below w.heap.size w W
  size : w.heap.size + 3 ≤ W.heap.size
theorem Trd.later {w W W' : World} {c0 c1 c2 c3 c4 : Value} (h : Trd w W c0 c1 c2 c3 c4) (hb : Below W.heap.size W W') : Trd w W' c0 c1 c2 c3 c4 :=
  ⟨by rw [hb.cell (p := ⟨w.heap.size, 0, none⟩) (by have := h.size; show w.heap.size < _; omega)]; exact h.a0, by rw [hb.cell (p := ⟨w.heap.size, 1, none⟩) (by have := h.size; show w.heap.size < _; omega)]; exact h.a1, by rw [hb.cell (p := ⟨w.heap.size, 2, none⟩) (by have := h.size; show w.heap.size < _; omega)]; exact h.a2, by rw [hb.cell (p := ⟨w.heap.size, 3, none⟩) (by have := h.size; show w.heap.size < _; omega)]; exact h.a3, by rw [hb.cell (p := ⟨w.heap.size, 4, none⟩) (by have := h.size; show w.heap.size < _; omega)]; exact h.a4, by rw [hb.cell (p := ⟨w.heap.size + 1, 0, none⟩) (by have := h.size; show w.heap.size + 1 < _; omega)]; exact h.b0, by rw [hb.cell (p := ⟨w.heap.size + 1, 1, none⟩) (by have := h.size; show w.heap.size + 1 < _; omega)]; exact h.b1, by rw [hb.cell (p := ⟨w.heap.size + 1 + 1, 0, none⟩) (by have := h.size; show w.heap.size + 1 + 1 < _; omega)]; exact h.c0, by rw [hb.cell (p := ⟨w.heap.size + 1 + 1, 1, none⟩) (by have := h.size; show w.heap.size + 1 + 1 < _; omega)]; exact h.c1, by rw [hb.cell (p := ⟨w.heap.size + 1 + 1, 2, none⟩) (by have := h.size; show w.heap.size + 1 + 1 < _; omega)]; exact h.c2, by rw [hb.cell (p := ⟨w.heap.size + 1 + 1, 3, none⟩) (by have := h.size; show w.heap.size + 1 + 1 < _; omega)]; exact h.c3, by rw [hb.cell (p := ⟨w.heap.size + 1 + 1, 4, none⟩) (by have := h.size; show w.heap.size + 1 + 1 < _; omega)]; exact h.c4, by rw [hb.frozen (p := ⟨w.heap.size, 0, none⟩) (by have := h.size; show w.heap.size < _; omega)]; exact h.fa0, by rw [hb.frozen (p := ⟨w.heap.size, 1, none⟩) (by have := h.size; show w.heap.size < _; omega)]; exact h.fa1, by rw [hb.frozen (p := ⟨w.heap.size, 2, none⟩) (by have := h.size; show w.heap.size < _; omega)]; exact h.fa2, by rw [hb.frozen (p := ⟨w.heap.size, 3, none⟩) (by have := h.size; show w.heap.size < _; omega)]; exact h.fa3, by rw [hb.frozen (p := ⟨w.heap.size, 4, none⟩) (by have := h.size; show w.heap.size < _; omega)]; exact h.fa4, by rw [hb.frozen (p := ⟨w.heap.size + 1, 0, none⟩) (by have := h.size; show w.heap.size + 1 < _; omega)]; exact h.fb0, by rw [hb.frozen (p := ⟨w.heap.size + 1, 1, none⟩) (by have := h.size; show w.heap.size + 1 < _; omega)]; exact h.fb1, by rw [hb.frozen (p := ⟨w.heap.size + 1 + 1, 0, none⟩) (by have := h.size; show w.heap.size + 1 + 1 < _; omega)]; exact h.fc0, by rw [hb.frozen (p := ⟨w.heap.size + 1 + 1, 1, none⟩) (by have := h.size; show w.heap.size + 1 + 1 < _; omega)]; exact h.fc1, by rw [hb.frozen (p := ⟨w.heap.size + 1 + 1, 2, none⟩) (by have := h.size; show w.heap.size + 1 + 1 < _; omega)]; exact h.fc2, by rw [hb.frozen (p := ⟨w.heap.size + 1 + 1, 3, none⟩) (by have := h.size; show w.heap.size + 1 + 1 < _; omega)]; exact h.fc3, by rw [hb.frozen (p := ⟨w.heap.size + 1 + 1, 4, none⟩) (by have := h.size; show w.heap.size + 1 + 1 < _; omega)]; exact h.fc4, h.below.trans (hb.mono (by have := h.size; omega)), by have := h.size; have := hb.size; omega⟩
theorem Trd.set0 {w W : World} {c0 c1 c2 c3 c4 : Value} (h : Trd w W c0 c1 c2 c3 c4) (v : Value) : Trd w (W.setCell ⟨w.heap.size + 1 + 1, 0, none⟩ v) v c1 c2 c3 c4 :=
  ⟨(World.cell?_setCell_other _ _ _ _ (by intro e; simp only [Addr.mk.injEq] at e; omega)).trans h.a0, (World.cell?_setCell_other _ _ _ _ (by intro e; simp only [Addr.mk.injEq] at e; omega)).trans h.a1, (World.cell?_setCell_other _ _ _ _ (by intro e; simp only [Addr.mk.injEq] at e; omega)).trans h.a2, (World.cell?_setCell_other _ _ _ _ (by intro e; simp only [Addr.mk.injEq] at e; omega)).trans h.a3, (World.cell?_setCell_other _ _ _ _ (by intro e; simp only [Addr.mk.injEq] at e; omega)).trans h.a4, (World.cell?_setCell_other _ _ _ _ (by intro e; simp only [Addr.mk.injEq] at e; omega)).trans h.b0, (World.cell?_setCell_other _ _ _ _ (by intro e; simp only [Addr.mk.injEq] at e; omega)).trans h.b1, World.cell?_setCell_same _ _ _ h.c0, (World.cell?_setCell_other _ _ _ _ (by intro e; simp only [Addr.mk.injEq] at e; omega)).trans h.c1, (World.cell?_setCell_other _ _ _ _ (by intro e; simp only [Addr.mk.injEq] at e; omega)).trans h.c2, (World.cell?_setCell_other _ _ _ _ (by intro e; simp only [Addr.mk.injEq] at e; omega)).trans h.c3, (World.cell?_setCell_other _ _ _ _ (by intro e; simp only [Addr.mk.injEq] at e; omega)).trans h.c4, (World.frozen?_setCell _ _ _ _).trans h.fa0, (World.frozen?_setCell _ _ _ _).trans h.fa1, (World.frozen?_setCell _ _ _ _).trans h.fa2, (World.frozen?_setCell _ _ _ _).trans h.fa3, (World.frozen?_setCell _ _ _ _).trans h.fa4, (World.frozen?_setCell _ _ _ _).trans h.fb0, (World.frozen?_setCell _ _ _ _).trans h.fb1, (World.frozen?_setCell _ _ _ _).trans h.fc0, (World.frozen?_setCell _ _ _ _).trans h.fc1, (World.frozen?_setCell _ _ _ _).trans h.fc2, (World.frozen?_setCell _ _ _ _).trans h.fc3, (World.frozen?_setCell _ _ _ _).trans h.fc4, h.below.setCell (by show w.heap.size ≤ w.heap.size + 1 + 1; omega) _, by rw [World.size_setCell]; exact h.size⟩
theorem Trd.set1 {w W : World} {c0 c1 c2 c3 c4 : Value} (h : Trd w W c0 c1 c2 c3 c4) (v : Value) : Trd w (W.setCell ⟨w.heap.size + 1 + 1, 1, none⟩ v) c0 v c2 c3 c4 :=
  ⟨(World.cell?_setCell_other _ _ _ _ (by intro e; simp only [Addr.mk.injEq] at e; omega)).trans h.a0, (World.cell?_setCell_other _ _ _ _ (by intro e; simp only [Addr.mk.injEq] at e; omega)).trans h.a1, (World.cell?_setCell_other _ _ _ _ (by intro e; simp only [Addr.mk.injEq] at e; omega)).trans h.a2, (World.cell?_setCell_other _ _ _ _ (by intro e; simp only [Addr.mk.injEq] at e; omega)).trans h.a3, (World.cell?_setCell_other _ _ _ _ (by intro e; simp only [Addr.mk.injEq] at e; omega)).trans h.a4, (World.cell?_setCell_other _ _ _ _ (by intro e; simp only [Addr.mk.injEq] at e; omega)).trans h.b0, (World.cell?_setCell_other _ _ _ _ (by intro e; simp only [Addr.mk.injEq] at e; omega)).trans h.b1, (World.cell?_setCell_other _ _ _ _ (by intro e; simp only [Addr.mk.injEq] at e; omega)).trans h.c0, World.cell?_setCell_same _ _ _ h.c1, (World.cell?_setCell_other _ _ _ _ (by intro e; simp only [Addr.mk.injEq] at e; omega)).trans h.c2, (World.cell?_setCell_other _ _ _ _ (by intro e; simp only [Addr.mk.injEq] at e; omega)).trans h.c3, (World.cell?_setCell_other _ _ _ _ (by intro e; simp only [Addr.mk.injEq] at e; omega)).trans h.c4, (World.frozen?_setCell _ _ _ _).trans h.fa0, (World.frozen?_setCell _ _ _ _).trans h.fa1, (World.frozen?_setCell _ _ _ _).trans h.fa2, (World.frozen?_setCell _ _ _ _).trans h.fa3, (World.frozen?_setCell _ _ _ _).trans h.fa4, (World.frozen?_setCell _ _ _ _).trans h.fb0, (World.frozen?_setCell _ _ _ _).trans h.fb1, (World.frozen?_setCell _ _ _ _).trans h.fc0, (World.frozen?_setCell _ _ _ _).trans h.fc1, (World.frozen?_setCell _ _ _ _).trans h.fc2, (World.frozen?_setCell _ _ _ _).trans h.fc3, (World.frozen?_setCell _ _ _ _).trans h.fc4, h.below.setCell (by show w.heap.size ≤ w.heap.size + 1 + 1; omega) _, by rw [World.size_setCell]; exact h.size⟩
theorem Trd.set2 {w W : World} {c0 c1 c2 c3 c4 : Value} (h : Trd w W c0 c1 c2 c3 c4) (v : Value) : Trd w (W.setCell ⟨w.heap.size + 1 + 1, 2, none⟩ v) c0 c1 v c3 c4 :=
  ⟨(World.cell?_setCell_other _ _ _ _ (by intro e; simp only [Addr.mk.injEq] at e; omega)).trans h.a0, (World.cell?_setCell_other _ _ _ _ (by intro e; simp only [Addr.mk.injEq] at e; omega)).trans h.a1, (World.cell?_setCell_other _ _ _ _ (by intro e; simp only [Addr.mk.injEq] at e; omega)).trans h.a2, (World.cell?_setCell_other _ _ _ _ (by intro e; simp only [Addr.mk.injEq] at e; omega)).trans h.a3, (World.cell?_setCell_other _ _ _ _ (by intro e; simp only [Addr.mk.injEq] at e; omega)).trans h.a4, (World.cell?_setCell_other _ _ _ _ (by intro e; simp only [Addr.mk.injEq] at e; omega)).trans h.b0, (World.cell?_setCell_other _ _ _ _ (by intro e; simp only [Addr.mk.injEq] at e; omega)).trans h.b1, (World.cell?_setCell_other _ _ _ _ (by intro e; simp only [Addr.mk.injEq] at e; omega)).trans h.c0, (World.cell?_setCell_other _ _ _ _ (by intro e; simp only [Addr.mk.injEq] at e; omega)).trans h.c1, World.cell?_setCell_same _ _ _ h.c2, (World.cell?_setCell_other _ _ _ _ (by intro e; simp only [Addr.mk.injEq] at e; omega)).trans h.c3, (World.cell?_setCell_other _ _ _ _ (by intro e; simp only [Addr.mk.injEq] at e; omega)).trans h.c4, (World.frozen?_setCell _ _ _ _).trans h.fa0, (World.frozen?_setCell _ _ _ _).trans h.fa1, (World.frozen?_setCell _ _ _ _).trans h.fa2, (World.frozen?_setCell _ _ _ _).trans h.fa3, (World.frozen?_setCell _ _ _ _).trans h.fa4, (World.frozen?_setCell _ _ _ _).trans h.fb0, (World.frozen?_setCell _ _ _ _).trans h.fb1, (World.frozen?_setCell _ _ _ _).trans h.fc0, (World.frozen?_setCell _ _ _ _).trans h.fc1, (World.frozen?_setCell _ _ _ _).trans h.fc2, (World.frozen?_setCell _ _ _ _).trans h.fc3, (World.frozen?_setCell _ _ _ _).trans h.fc4, h.below.setCell (by show w.heap.size ≤ w.heap.size + 1 + 1; omega) _, by rw [World.size_setCell]; exact h.size⟩
theorem Trd.set3 {w W : World} {c0 c1 c2 c3 c4 : Value} (h : Trd w W c0 c1 c2 c3 c4) (v : Value) : Trd w (W.setCell ⟨w.heap.size + 1 + 1, 3, none⟩ v) c0 c1 c2 v c4 :=
  ⟨(World.cell?_setCell_other _ _ _ _ (by intro e; simp only [Addr.mk.injEq] at e; omega)).trans h.a0, (World.cell?_setCell_other _ _ _ _ (by intro e; simp only [Addr.mk.injEq] at e; omega)).trans h.a1, (World.cell?_setCell_other _ _ _ _ (by intro e; simp only [Addr.mk.injEq] at e; omega)).trans h.a2, (World.cell?_setCell_other _ _ _ _ (by intro e; simp only [Addr.mk.injEq] at e; omega)).trans h.a3, (World.cell?_setCell_other _ _ _ _ (by intro e; simp only [Addr.mk.injEq] at e; omega)).trans h.a4, (World.cell?_setCell_other _ _ _ _ (by intro e; simp only [Addr.mk.injEq] at e; omega)).trans h.b0, (World.cell?_setCell_other _ _ _ _ (by intro e; simp only [Addr.mk.injEq] at e; omega)).trans h.b1, (World.cell?_setCell_other _ _ _ _ (by intro e; simp only [Addr.mk.injEq] at e; omega)).trans h.c0, (World.cell?_setCell_other _ _ _ _ (by intro e; simp only [Addr.mk.injEq] at e; omega)).trans h.c1, (World.cell?_setCell_other _ _ _ _ (by intro e; simp only [Addr.mk.injEq] at e; omega)).trans h.c2, World.cell?_setCell_same _ _ _ h.c3, (World.cell?_setCell_other _ _ _ _ (by intro e; simp only [Addr.mk.injEq] at e; omega)).trans h.c4, (World.frozen?_setCell _ _ _ _).trans h.fa0, (World.frozen?_setCell _ _ _ _).trans h.fa1, (World.frozen?_setCell _ _ _ _).trans h.fa2, (World.frozen?_setCell _ _ _ _).trans h.fa3, (World.frozen?_setCell _ _ _ _).trans h.fa4, (World.frozen?_setCell _ _ _ _).trans h.fb0, (World.frozen?_setCell _ _ _ _).trans h.fb1, (World.frozen?_setCell _ _ _ _).trans h.fc0, (World.frozen?_setCell _ _ _ _).trans h.fc1, (World.frozen?_setCell _ _ _ _).trans h.fc2, (World.frozen?_setCell _ _ _ _).trans h.fc3, (World.frozen?_setCell _ _ _ _).trans h.fc4, h.below.setCell (by show w.heap.size ≤ w.heap.size + 1 + 1; omega) _, by rw [World.size_setCell]; exact h.size⟩
theorem Trd.set4 {w W : World} {c0 c1 c2 c3 c4 : Value} (h : Trd w W c0 c1 c2 c3 c4) (v : Value) : Trd w (W.setCell ⟨w.heap.size + 1 + 1, 4, none⟩ v) c0 c1 c2 c3 v :=
  ⟨(World.cell?_setCell_other _ _ _ _ (by intro e; simp only [Addr.mk.injEq] at e; omega)).trans h.a0, (World.cell?_setCell_other _ _ _ _ (by intro e; simp only [Addr.mk.injEq] at e; omega)).trans h.a1, (World.cell?_setCell_other _ _ _ _ (by intro e; simp only [Addr.mk.injEq] at e; omega)).trans h.a2, (World.cell?_setCell_other _ _ _ _ (by intro e; simp only [Addr.mk.injEq] at e; omega)).trans h.a3, (World.cell?_setCell_other _ _ _ _ (by intro e; simp only [Addr.mk.injEq] at e; omega)).trans h.a4, (World.cell?_setCell_other _ _ _ _ (by intro e; simp only [Addr.mk.injEq] at e; omega)).trans h.b0, (World.cell?_setCell_other _ _ _ _ (by intro e; simp only [Addr.mk.injEq] at e; omega)).trans h.b1, (World.cell?_setCell_other _ _ _ _ (by intro e; simp only [Addr.mk.injEq] at e; omega)).trans h.c0, (World.cell?_setCell_other _ _ _ _ (by intro e; simp only [Addr.mk.injEq] at e; omega)).trans h.c1, (World.cell?_setCell_other _ _ _ _ (by intro e; simp only [Addr.mk.injEq] at e; omega)).trans h.c2, (World.cell?_setCell_other _ _ _ _ (by intro e; simp only [Addr.mk.injEq] at e; omega)).trans h.c3, World.cell?_setCell_same _ _ _ h.c4, (World.frozen?_setCell _ _ _ _).trans h.fa0, (World.frozen?_setCell _ _ _ _).trans h.fa1, (World.frozen?_setCell _ _ _ _).trans h.fa2, (World.frozen?_setCell _ _ _ _).trans h.fa3, (World.frozen?_setCell _ _ _ _).trans h.fa4, (World.frozen?_setCell _ _ _ _).trans h.fb0, (World.frozen?_setCell _ _ _ _).trans h.fb1, (World.frozen?_setCell _ _ _ _).trans h.fc0, (World.frozen?_setCell _ _ _ _).trans h.fc1, (World.frozen?_setCell _ _ _ _).trans h.fc2, (World.frozen?_setCell _ _ _ _).trans h.fc3, (World.frozen?_setCell _ _ _ _).trans h.fc4, h.below.setCell (by show w.heap.size ≤ w.heap.size + 1 + 1; omega) _, by rw [World.size_setCell]; exact h.size⟩
def w3 (w : World) (a : Nat) : World := (((w.alloc (.cells #[.int .u8 0, .string ⟨#[]⟩, .int .i64 0, .int .i64 0, .int .i64 0] 24)).alloc (.cells #[.int .i64 0, .int .i64 0] 27)).alloc (.cells #[.int .u8 9, .string ⟨#[]⟩, .int .i64 0, .int .i64 a, .int .i64 a] 24))
theorem Trd.new (w : World) (a : Nat) : Trd w (w3 w a) (.int .u8 9) (.string ⟨#[]⟩) (.int .i64 0) (.int .i64 a) (.int .i64 a) := by
  refine ⟨?_, ?_, ?_, ?_, ?_, ?_, ?_, ?_, ?_, ?_, ?_, ?_, ?_, ?_, ?_, ?_, ?_, ?_, ?_, ?_, ?_, ?_, ?_, ?_, (((Below.refl _ w).alloc (Nat.le_refl _) _).alloc (by simp) _).alloc (by simp; omega) _, by simp [w3]⟩
  all_goals simp [w3, go_sem]
set_option maxHeartbeats 1600000 in
set_option maxRecDepth 100000 in
theorem refNextFar (s : ByteArray) (x : Int) (re : Bool) (m : Int) (w0 w : World) (hL : Live m w0 w) (hc : 65536 < s.size ∨ (s.size ≤ 65536 ∧ (x < 0 ∨ (s.size : Int) < x))) (hx : -9223372036854775808 ≤ x ∧ x ≤ 9223372036854775807) (hs : s.size ≤ 281474976710656) :
    Calls Tryd.prog 7 #[.string s, .int .i64 x, .bool re] w fun e w' => e = .returned (nextR s x re) ∧ Live m w0 w' := by
  by_cases c1 : 65536 < s.size
  · have HF := Lib.hid (show nextR s x re = .tuple #[zeroTok, faultV 3 0] by unfold nextR; rw [if_pos c1])
    clear hc
    go_enter Tryd.func7, Tryd.ntmps7
    go_wp2_with fail
    refine bodyPost_ret (v := .tuple #[zeroTok, faultV 3 0]) (by simp [results, Tryd.results7, go_sem, zeroTok, faultV]) rfl ?_
    rw [HF.out]
    exact ⟨rfl, hL.step (((Below.refl _ w).alloc (Nat.le_refl _) _).alloc (by simp) _)⟩
  have d1 : s.size ≤ 65536 := by omega
  have c2 := (hc.resolve_left c1).2
  have HF := Lib.hid (show nextR s x re = .tuple #[zeroTok, faultV 2 0] by unfold nextR; rw [if_neg c1, if_pos c2])
  have c2' : x < 0 ∨ (0 ≤ x ∧ (s.size : Int) < x) := by omega
  clear c1 c2 hc
  rcases c2' with c2 | ⟨c2, c3⟩
  all_goals
    go_enter Tryd.func7, Tryd.ntmps7
    go_wp2_with fail
    refine bodyPost_ret (v := .tuple #[zeroTok, faultV 2 0]) (by simp [results, Tryd.results7, go_sem, zeroTok, faultV]) rfl ?_
    rw [HF.out]
    exact ⟨rfl, hL.step (((Below.refl _ w).alloc (Nat.le_refl _) _).alloc (by simp) _)⟩
set_option maxHeartbeats 6400000 in
set_option maxRecDepth 100000 in
theorem refNext (s : ByteArray) (x : Int) (re : Bool) (m : Int) (w0 w : World) (hL : Live m w0 w) (hx : -9223372036854775808 ≤ x ∧ x ≤ 9223372036854775807) (hs : s.size ≤ 281474976710656) :
    Calls Tryd.prog 7 #[.string s, .int .i64 x, .bool re] w fun e w' => e = .returned (nextR s x re) ∧ Live m w0 w' := by
  by_cases c1 : 65536 < s.size
  · exact refNextFar s x re m w0 w hL (.inl c1) hx hs
  have d1 : s.size ≤ 65536 := by omega
  by_cases c2 : x < 0 ∨ (s.size : Int) < x
  · exact refNextFar s x re m w0 w hL (.inr ⟨d1, c2⟩) hx hs
  obtain ⟨k, rfl⟩ : ∃ k : Nat, x = (k : Int) := ⟨x.toNat, by omega⟩
  have hk : k ≤ s.size := by omega
  have hp := pass_le s k hk
  have HFF := Lib.hid (show nextR s k re = if (tokR s (pass s k) re).1 = 0 then .tuple #[zeroTok, faultV 100 (lineN s (pass s k))] else .tuple #[.agg #[.int .u8 (tokR s (pass s k) re).1, .string (tokR s (pass s k) re).2.1, .int .i64 (lineN s (pass s k)), .int .i64 (pass s k), .int .i64 (tokR s (pass s k) re).2.2], faultV 0 0] by unfold nextR; rw [if_neg c1, if_neg c2, Int.toNat_natCast])
  generalize ha : pass s k = a at *
  have HA := Lib.hid ha
  have HO := Lib.hid (Trd.new w a)
  have hL3 : Live m (w3 w a) (((w.alloc (.cells #[.int .u8 0, .string ⟨#[]⟩, .int .i64 0, .int .i64 0, .int .i64 0] 24)).alloc (.cells #[.int .i64 0, .int .i64 0] 27)).alloc (.cells #[.int .u8 9, .string ⟨#[]⟩, .int .i64 0, .int .i64 a, .int .i64 a] 24)) :=
    Live.refl (w0 := w3 w a) (by have := HO.out.size; omega) (hL.step HO.out.below).hm
  obtain ⟨p1, p2⟩ := hp
  clear c1 c2 ha
  by_cases cz : a = s.size
  · have ht : tokR s a re = (9, ⟨#[]⟩, a) := by unfold tokR; rw [if_pos (by omega)]
    have HF := Lib.hid (show nextR s k re = .tuple #[.agg #[.int .u8 9, .string ⟨#[]⟩, .int .i64 (lineN s a), .int .i64 a, .int .i64 a], faultV 0 0] by rw [HFF.out, ht, if_neg (by simp)])
    have q0 : ((a : Int) == (s.size : Int)) = true := by rw [cz]; simp
    clear cz ht
    go_enter Tryd.func7, Tryd.ntmps7
    go_upto_region 8 with (first
      | (go_at_call 14; (with_reducible refine (refPassed s k _ hk d1).mono ?_); rintro e' w' ⟨rfl, rfl⟩; rw [HA.out]))
    have HO2 := HO
    have HL3 := Lib.hid hL3
    unfold w3 at HO2
    clear hL3
    generalize hWW : (((w.alloc (.cells #[.int .u8 0, .string ⟨#[]⟩, .int .i64 0, .int .i64 0, .int .i64 0] 24)).alloc (.cells #[.int .i64 0, .int .i64 0] 27)).alloc (.cells #[.int .u8 9, .string ⟨#[]⟩, .int .i64 0, .int .i64 a, .int .i64 a] 24)) = W at *
    clear hWW
    obtain ⟨ya0, ya1, ya2, ya3, ya4, yb0, yb1, yc0, yc1, yc2, yc3, yc4, yfa0, yfa1, yfa2, yfa3, yfa4, yfb0, yfb1, yfc0, yfc1, yfc2, yfc3, yfc4, ybe, ysz⟩ := HO2.out
    clear ybe ysz
    go_upto_region 14 with (first
      | (go_at_call 9; (with_reducible refine (refLine s _ _ hs).mono ?_); rintro e' w' ⟨rfl, rfl⟩))
    have HQ := Lib.hid (HO2.out.set2 (.int .i64 (lineN s a)))
    generalize hU : W.setCell ⟨w.heap.size + 1 + 1, 2, none⟩ (.int .i64 (lineN s a)) = U at *
    clear hU ya0 ya1 ya2 ya3 ya4 yb0 yb1 yc0 yc1 yc2 yc3 yc4 yfa0 yfa1 yfa2 yfa3 yfa4 yfb0 yfb1 yfc0 yfc1 yfc2 yfc3 yfc4
    obtain ⟨ya0, ya1, ya2, ya3, ya4, yb0, yb1, yc0, yc1, yc2, yc3, yc4, yfa0, yfa1, yfa2, yfa3, yfa4, yfb0, yfb1, yfc0, yfc1, yfc2, yfc3, yfc4, ybe, ysz⟩ := HQ.out
    clear ybe ysz
    go_wp2_with fail
    refine bodyPost_ret (v := .tuple #[.agg #[.int .u8 9, .string ⟨#[]⟩, .int .i64 (lineN s a), .int .i64 a, .int .i64 a], faultV 0 0]) (by simp [results, Tryd.results7, go_sem, faultV, ya0, ya1, ya2, ya3, ya4, yb0, yb1]) rfl ?_
    rw [HF.out]
    exact ⟨rfl, hL.step ((((((((HQ.out.below).setCell (by simp) _).setCell (by simp) _).setCell (by simp) _).setCell (by simp) _).setCell (by simp) _).setCell (by simp) _).setCell (by simp) _)⟩
  have hlt : a < s.size := by omega
  have q0 : ((a : Int) == (s.size : Int)) = false := by rw [beq_eq_false_iff_ne]; omega
  have hb := bAt_in hlt
  have hbd := (s[a]).toNat_lt
  by_cases c10 : bAt s a = 10
  · have ht : tokR s a re = (8, ⟨#[]⟩, a + 1) := by unfold tokR; rw [if_neg (by omega), if_pos c10]
    have HF := Lib.hid (show nextR s k re = .tuple #[.agg #[.int .u8 8, .string ⟨#[]⟩, .int .i64 (lineN s a), .int .i64 a, .int .i64 ((a : Int) + 1)], faultV 0 0] by rw [HFF.out, ht, if_neg (by simp)]; simp)
    have q10 : (((s[a]).toNat : Int) == 10) = true := by rw [← hb, c10]; rfl
    clear cz ht c10 hb
    go_enter Tryd.func7, Tryd.ntmps7
    go_upto_region 8 with (first
      | (go_at_call 14; (with_reducible refine (refPassed s k _ hk d1).mono ?_); rintro e' w' ⟨rfl, rfl⟩; rw [HA.out]))
    have HO2 := HO
    have HL3 := Lib.hid hL3
    unfold w3 at HO2
    clear hL3
    generalize hWW : (((w.alloc (.cells #[.int .u8 0, .string ⟨#[]⟩, .int .i64 0, .int .i64 0, .int .i64 0] 24)).alloc (.cells #[.int .i64 0, .int .i64 0] 27)).alloc (.cells #[.int .u8 9, .string ⟨#[]⟩, .int .i64 0, .int .i64 a, .int .i64 a] 24)) = W at *
    clear hWW
    obtain ⟨ya0, ya1, ya2, ya3, ya4, yb0, yb1, yc0, yc1, yc2, yc3, yc4, yfa0, yfa1, yfa2, yfa3, yfa4, yfb0, yfb1, yfc0, yfc1, yfc2, yfc3, yfc4, ybe, ysz⟩ := HO2.out
    clear ybe ysz
    go_upto_region 11 with (fail)
    have HP := Lib.hid (((((HO2.out.set0 (.int .u8 8)).set1 (.string ⟨#[]⟩)).set2 (.int .i64 0)).set3 (.int .i64 a)).set4 (.int .i64 ((a : Int) + 1)))
    generalize hV : (((((W.setCell ⟨w.heap.size + 1 + 1, 0, none⟩ (.int .u8 8)).setCell ⟨w.heap.size + 1 + 1, 1, none⟩ (.string ⟨#[]⟩)).setCell ⟨w.heap.size + 1 + 1, 2, none⟩ (.int .i64 0)).setCell ⟨w.heap.size + 1 + 1, 3, none⟩ (.int .i64 a)).setCell ⟨w.heap.size + 1 + 1, 4, none⟩ (.int .i64 ((a : Int) + 1))) = V at *
    clear hV ya0 ya1 ya2 ya3 ya4 yb0 yb1 yc0 yc1 yc2 yc3 yc4 yfa0 yfa1 yfa2 yfa3 yfa4 yfb0 yfb1 yfc0 yfc1 yfc2 yfc3 yfc4
    obtain ⟨ya0, ya1, ya2, ya3, ya4, yb0, yb1, yc0, yc1, yc2, yc3, yc4, yfa0, yfa1, yfa2, yfa3, yfa4, yfb0, yfb1, yfc0, yfc1, yfc2, yfc3, yfc4, ybe, ysz⟩ := HP.out
    clear ybe ysz
    go_upto_region 14 with (first
      | (go_at_call 9; (with_reducible refine (refLine s _ _ hs).mono ?_); rintro e' w' ⟨rfl, rfl⟩))
    have HQ := Lib.hid (HP.out.set2 (.int .i64 (lineN s a)))
    generalize hU : V.setCell ⟨w.heap.size + 1 + 1, 2, none⟩ (.int .i64 (lineN s a)) = U at *
    clear hU ya0 ya1 ya2 ya3 ya4 yb0 yb1 yc0 yc1 yc2 yc3 yc4 yfa0 yfa1 yfa2 yfa3 yfa4 yfb0 yfb1 yfc0 yfc1 yfc2 yfc3 yfc4
    obtain ⟨ya0, ya1, ya2, ya3, ya4, yb0, yb1, yc0, yc1, yc2, yc3, yc4, yfa0, yfa1, yfa2, yfa3, yfa4, yfb0, yfb1, yfc0, yfc1, yfc2, yfc3, yfc4, ybe, ysz⟩ := HQ.out
    clear ybe ysz
    go_wp2_with fail
    refine bodyPost_ret (v := .tuple #[.agg #[.int .u8 8, .string ⟨#[]⟩, .int .i64 (lineN s a), .int .i64 a, .int .i64 ((a : Int) + 1)], faultV 0 0]) (by simp [results, Tryd.results7, go_sem, faultV, ya0, ya1, ya2, ya3, ya4, yb0, yb1]) rfl ?_
    rw [HF.out]
    exact ⟨rfl, hL.step ((((((((HQ.out.below).setCell (by simp) _).setCell (by simp) _).setCell (by simp) _).setCell (by simp) _).setCell (by simp) _).setCell (by simp) _).setCell (by simp) _)⟩
  have q10 : (((s[a]).toNat : Int) == 10) = false := by rw [← hb, beq_eq_false_iff_ne]; exact c10
  by_cases c3 : (tokR s a re).1 = 0
  · have HF := Lib.hid (show nextR s k re = .tuple #[zeroTok, faultV 100 (lineN s a)] by rw [HFF.out, if_pos c3])
    have HOV := Lib.hid (show oneV s a re = .agg #[.int .u8 0, .string ⟨#[]⟩, .int .i64 0, .int .i64 0, .int .i64 0] by unfold oneV; rw [if_pos c3]; rfl)
    clear cz hb c3
    go_enter Tryd.func7, Tryd.ntmps7
    go_upto_region 8 with (first
      | (go_at_call 14; (with_reducible refine (refPassed s k _ hk d1).mono ?_); rintro e' w' ⟨rfl, rfl⟩; rw [HA.out]))
    have HO2 := HO
    have HL3 := Lib.hid hL3
    unfold w3 at HO2
    clear hL3
    generalize hWW : (((w.alloc (.cells #[.int .u8 0, .string ⟨#[]⟩, .int .i64 0, .int .i64 0, .int .i64 0] 24)).alloc (.cells #[.int .i64 0, .int .i64 0] 27)).alloc (.cells #[.int .u8 9, .string ⟨#[]⟩, .int .i64 0, .int .i64 a, .int .i64 a] 24)) = W at *
    clear hWW
    obtain ⟨ya0, ya1, ya2, ya3, ya4, yb0, yb1, yc0, yc1, yc2, yc3, yc4, yfa0, yfa1, yfa2, yfa3, yfa4, yfb0, yfb1, yfc0, yfc1, yfc2, yfc3, yfc4, ybe, ysz⟩ := HO2.out
    clear ybe ysz
    go_upto_region 11 with (first
      | (go_at_call 15; (with_reducible refine (refOne s a re m (w3 w a) _ HL3.out hlt c10 d1).mono ?_); rintro e' w' ⟨rfl, hL1⟩; rw [HOV.out]; have HN := Lib.hid (HO.out.later hL1.b); clear ya0 ya1 ya2 ya3 ya4 yb0 yb1 yc0 yc1 yc2 yc3 yc4 yfa0 yfa1 yfa2 yfa3 yfa4 yfb0 yfb1 yfc0 yfc1 yfc2 yfc3 yfc4; obtain ⟨ya0, ya1, ya2, ya3, ya4, yb0, yb1, yc0, yc1, yc2, yc3, yc4, yfa0, yfa1, yfa2, yfa3, yfa4, yfb0, yfb1, yfc0, yfc1, yfc2, yfc3, yfc4, ybe, ysz⟩ := HN.out; clear ybe ysz))
    have HP := Lib.hid (((((HN.out.set0 (.int .u8 0)).set1 (.string ⟨#[]⟩)).set2 (.int .i64 0)).set3 (.int .i64 0)).set4 (.int .i64 0))
    generalize hV : (((((w'.setCell ⟨w.heap.size + 1 + 1, 0, none⟩ (.int .u8 0)).setCell ⟨w.heap.size + 1 + 1, 1, none⟩ (.string ⟨#[]⟩)).setCell ⟨w.heap.size + 1 + 1, 2, none⟩ (.int .i64 0)).setCell ⟨w.heap.size + 1 + 1, 3, none⟩ (.int .i64 0)).setCell ⟨w.heap.size + 1 + 1, 4, none⟩ (.int .i64 0)) = V at *
    clear hV ya0 ya1 ya2 ya3 ya4 yb0 yb1 yc0 yc1 yc2 yc3 yc4 yfa0 yfa1 yfa2 yfa3 yfa4 yfb0 yfb1 yfc0 yfc1 yfc2 yfc3 yfc4
    obtain ⟨ya0, ya1, ya2, ya3, ya4, yb0, yb1, yc0, yc1, yc2, yc3, yc4, yfa0, yfa1, yfa2, yfa3, yfa4, yfb0, yfb1, yfc0, yfc1, yfc2, yfc3, yfc4, ybe, ysz⟩ := HP.out
    clear ybe ysz
    go_wp2_with (first
      | (go_at_call 9; (with_reducible refine (refLine s _ _ hs).mono ?_); rintro e' w' ⟨rfl, rfl⟩))
    refine bodyPost_ret (v := .tuple #[zeroTok, faultV 100 (lineN s a)]) (by simp [results, Tryd.results7, go_sem, zeroTok, faultV, ya0, ya1, ya2, ya3, ya4, yb0, yb1]) rfl ?_
    rw [HF.out]
    exact ⟨rfl, hL.step ((((((((HP.out.below).setCell (by simp) _).setCell (by simp) _).setCell (by simp) _).setCell (by simp) _).setCell (by simp) _).setCell (by simp) _).setCell (by simp) _)⟩
  · have HF := Lib.hid (show nextR s k re = .tuple #[.agg #[.int .u8 (tokR s a re).1, .string (tokR s a re).2.1, .int .i64 (lineN s a), .int .i64 a, .int .i64 (tokR s a re).2.2], faultV 0 0] by rw [HFF.out, if_neg c3])
    have HOV := Lib.hid (show oneV s a re = .agg #[.int .u8 (tokR s a re).1, .string (tokR s a re).2.1, .int .i64 0, .int .i64 a, .int .i64 (tokR s a re).2.2] by unfold oneV; rw [if_neg c3]; rfl)
    obtain ⟨t1, e1⟩ : ∃ t1, (tokR s a re).1 = t1 := ⟨_, rfl⟩
    obtain ⟨t2, e2⟩ : ∃ t2, (tokR s a re).2.1 = t2 := ⟨_, rfl⟩
    obtain ⟨t3, e3⟩ : ∃ t3, (tokR s a re).2.2 = t3 := ⟨_, rfl⟩
    rw [e1, e2, e3] at HF HOV
    rw [e1] at c3
    have c3' : (t1 == 0) = false := by rw [beq_eq_false_iff_ne]; exact c3
    clear cz hb c3 e1 e2 e3 HFF
    go_enter Tryd.func7, Tryd.ntmps7
    go_upto_region 8 with (first
      | (go_at_call 14; (with_reducible refine (refPassed s k _ hk d1).mono ?_); rintro e' w' ⟨rfl, rfl⟩; rw [HA.out]))
    have HO2 := HO
    have HL3 := Lib.hid hL3
    unfold w3 at HO2
    clear hL3
    generalize hWW : (((w.alloc (.cells #[.int .u8 0, .string ⟨#[]⟩, .int .i64 0, .int .i64 0, .int .i64 0] 24)).alloc (.cells #[.int .i64 0, .int .i64 0] 27)).alloc (.cells #[.int .u8 9, .string ⟨#[]⟩, .int .i64 0, .int .i64 a, .int .i64 a] 24)) = W at *
    clear hWW
    obtain ⟨ya0, ya1, ya2, ya3, ya4, yb0, yb1, yc0, yc1, yc2, yc3, yc4, yfa0, yfa1, yfa2, yfa3, yfa4, yfb0, yfb1, yfc0, yfc1, yfc2, yfc3, yfc4, ybe, ysz⟩ := HO2.out
    clear ybe ysz
    go_upto_region 11 with (first
      | (go_at_call 15; (with_reducible refine (refOne s a re m (w3 w a) _ HL3.out hlt c10 d1).mono ?_); rintro e' w' ⟨rfl, hL1⟩; rw [HOV.out]; have HN := Lib.hid (HO.out.later hL1.b); clear ya0 ya1 ya2 ya3 ya4 yb0 yb1 yc0 yc1 yc2 yc3 yc4 yfa0 yfa1 yfa2 yfa3 yfa4 yfb0 yfb1 yfc0 yfc1 yfc2 yfc3 yfc4; obtain ⟨ya0, ya1, ya2, ya3, ya4, yb0, yb1, yc0, yc1, yc2, yc3, yc4, yfa0, yfa1, yfa2, yfa3, yfa4, yfb0, yfb1, yfc0, yfc1, yfc2, yfc3, yfc4, ybe, ysz⟩ := HN.out; clear ybe ysz))
    have HP := Lib.hid (((((HN.out.set0 (.int .u8 t1)).set1 (.string t2)).set2 (.int .i64 0)).set3 (.int .i64 a)).set4 (.int .i64 t3))
    generalize hV : (((((w'.setCell ⟨w.heap.size + 1 + 1, 0, none⟩ (.int .u8 t1)).setCell ⟨w.heap.size + 1 + 1, 1, none⟩ (.string t2)).setCell ⟨w.heap.size + 1 + 1, 2, none⟩ (.int .i64 0)).setCell ⟨w.heap.size + 1 + 1, 3, none⟩ (.int .i64 a)).setCell ⟨w.heap.size + 1 + 1, 4, none⟩ (.int .i64 t3)) = V at *
    clear hV ya0 ya1 ya2 ya3 ya4 yb0 yb1 yc0 yc1 yc2 yc3 yc4 yfa0 yfa1 yfa2 yfa3 yfa4 yfb0 yfb1 yfc0 yfc1 yfc2 yfc3 yfc4
    obtain ⟨ya0, ya1, ya2, ya3, ya4, yb0, yb1, yc0, yc1, yc2, yc3, yc4, yfa0, yfa1, yfa2, yfa3, yfa4, yfb0, yfb1, yfc0, yfc1, yfc2, yfc3, yfc4, ybe, ysz⟩ := HP.out
    clear ybe ysz
    go_upto_region 14 with (first
      | (go_at_call 9; (with_reducible refine (refLine s _ _ hs).mono ?_); rintro e' w' ⟨rfl, rfl⟩))
    have HQ := Lib.hid (HP.out.set2 (.int .i64 (lineN s a)))
    generalize hU : V.setCell ⟨w.heap.size + 1 + 1, 2, none⟩ (.int .i64 (lineN s a)) = U at *
    clear hU ya0 ya1 ya2 ya3 ya4 yb0 yb1 yc0 yc1 yc2 yc3 yc4 yfa0 yfa1 yfa2 yfa3 yfa4 yfb0 yfb1 yfc0 yfc1 yfc2 yfc3 yfc4
    obtain ⟨ya0, ya1, ya2, ya3, ya4, yb0, yb1, yc0, yc1, yc2, yc3, yc4, yfa0, yfa1, yfa2, yfa3, yfa4, yfb0, yfb1, yfc0, yfc1, yfc2, yfc3, yfc4, ybe, ysz⟩ := HQ.out
    clear ybe ysz
    go_wp2_with fail
    refine bodyPost_ret (v := .tuple #[.agg #[.int .u8 t1, .string t2, .int .i64 (lineN s a), .int .i64 a, .int .i64 t3], faultV 0 0]) (by simp [results, Tryd.results7, go_sem, faultV, ya0, ya1, ya2, ya3, ya4, yb0, yb1]) rfl ?_
    rw [HF.out]
    exact ⟨rfl, hL.step ((((((((HQ.out.below).setCell (by simp) _).setCell (by simp) _).setCell (by simp) _).setCell (by simp) _).setCell (by simp) _).setCell (by simp) _).setCell (by simp) _)⟩
end Go.Proofs.YtefpkgdakihceaaDoor.Lx
