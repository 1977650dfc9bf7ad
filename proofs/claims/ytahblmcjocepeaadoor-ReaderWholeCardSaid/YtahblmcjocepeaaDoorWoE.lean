/-
  Package world: what only reads: made, Streams, Clock, failing, place, IsOpen.
-/
import Derived.Test.YtahblmcjocepeaaDoorWoD
import Derived.LaidEqlPtr
namespace Go.Proofs.YtahblmcjocepeaaDoor.Wo
open Go.RowKit Go.Maps

theorem world_info : ∃ j, Tryd.prog.info? 104 = some j := by
  have h : (Tryd.prog.info? 104).isSome = true := by kernel_rfl
  exact Option.isSome_iff_exists.1 h
theorem self_eq (a : Addr) (w : World) : (binOp .eql 24 (.pointer (some a)) (.pointer (some a))).run Tryd.prog w = .ok (.bool true) w := by
  obtain ⟨j, hj⟩ := world_info
  exact run_eql_ptr_same w a Tryd.underlying24 hj
theorem nil_neq (a : Addr) (w : World) : (binOp .neq 24 (.pointer (some a)) (.pointer none)).run Tryd.prog w = .ok (.bool true) w := by
  have h : ∀ d : Nat, (Op.equalIn (d + 1) 24 (.pointer (some a)) (.pointer none)).run Tryd.prog w = .ok false w := fun d => by
    simp [Op.equalIn, run_underlying Tryd.underlying24]
  simp only [binOp]
  simp [Op.equal, Op.maxDepth, h 9999]

/- A world's cells. -/
structure CellsS (sv : Value) (w : World) (B fm rm xm : Nat) (vs vt : Value) (st : St) : Prop where
  c0 : w.cell? ⟨B, 0, none⟩ = some sv
  c1 : w.cell? ⟨B, 1, none⟩ = some (.map (some fm))
  c2 : w.cell? ⟨B, 2, none⟩ = some (.string st.stdin)
  c3 : w.cell? ⟨B, 3, none⟩ = some (.map (some rm))
  c4 : w.cell? ⟨B, 4, none⟩ = some (.map (some xm))
  c5 : w.cell? ⟨B, 5, none⟩ = some (.int .i64 st.most)
  c6 : w.cell? ⟨B, 6, none⟩ = some (.int .i64 st.clock)
  c7 : w.cell? ⟨B, 7, none⟩ = some (.int .u64 st.chance)
  c8 : w.cell? ⟨B, 8, none⟩ = some vs
  c9 : w.cell? ⟨B, 9, none⟩ = some vt
  z : ∀ i, w.frozen? ⟨B, i, none⟩ = false
  lt : B < w.heap.size
theorem WdAtS.cells {sv : Value} {w : World} {B fm rm xm : Nat} {D : DataW Unit} {vs vt : Value} {ps : List Value} {T : Tags} {st : St} (h : WdAtS sv w B fm rm xm D vs vt ps T st) : CellsS sv w B fm rm xm vs vt st := by
  have hb := h.blk
  refine ⟨?_, ?_, ?_, ?_, ?_, ?_, ?_, ?_, ?_, ?_, fun i => by simp [World.frozen?, hb], h.lt B (by rw [h.tB]; simp)⟩
  all_goals simp [World.cell?, hb]
theorem CellsS.later {sv : Value} {w w' : World} {B fm rm xm : Nat} {vs vt : Value} {st : St} (h : CellsS sv w B fm rm xm vs vt st) (hb : w'.heap[B]? = w.heap[B]?) : CellsS sv w' B fm rm xm vs vt st := by
  have e : ∀ i, w'.cell? ⟨B, i, none⟩ = w.cell? ⟨B, i, none⟩ := fun i => World.cell?_of_block hb
  have e2 : ∀ i, w'.frozen? ⟨B, i, none⟩ = w.frozen? ⟨B, i, none⟩ := fun i => World.frozen?_of_block hb
  have hlt : B < w'.heap.size := by
    have := h.lt
    rcases Nat.lt_or_ge B w'.heap.size with h1 | h1
    · exact h1
    · rw [Array.getElem?_eq_none h1, Array.getElem?_eq_getElem this] at hb
      cases hb
  exact ⟨(e _).trans h.c0, (e _).trans h.c1, (e _).trans h.c2, (e _).trans h.c3, (e _).trans h.c4, (e _).trans h.c5, (e _).trans h.c6, (e _).trans h.c7, (e _).trans h.c8, (e _).trans h.c9, fun i => (e2 i).trans (h.z i), hlt⟩
theorem CellsS.below {sv : Value} {w w' : World} {B fm rm xm : Nat} {vs vt : Value} {st : St} (h : CellsS sv w B fm rm xm vs vt st) (hb : Below w.heap.size w w') : CellsS sv w' B fm rm xm vs vt st := h.later (hb.block B h.lt)

abbrev Cells (w : World) (B fm rm xm : Nat) (vs vt : Value) (st : St) : Prop := CellsS (ptr B) w B fm rm xm vs vt st
section
variable {w : World} {B fm rm xm : Nat} {D : DataW Unit} {vs vt : Value} {ps : List Value} {T : Tags} {st : St}

theorem made (h : Cells w B fm rm xm vs vt st) :
    Calls Tryd.prog 40 #[ptr B] w fun e w' => e = .returned (.bool true) ∧ w' = w := by
  have c0 := h.c0
  clear h
  go_enter Tryd.func40, Tryd.ntmps40
  go_wp2_with (first | rw [self_eq] | rw [nil_neq])
  go_ret
  exact ⟨rfl, rfl⟩

theorem slice_of {w : World} {b : Nat} {e : TypeId} {size n : Nat} {v : Value} {xs : List Value} (h : w.ownsRow b e size v n xs) : ∃ oa c, v = .slice oa n c ∧ ∀ k, v.ownBlock = some k → oa = some ⟨k, 0, none⟩ := by
  rcases h.2 with ⟨rfl, rfl⟩ | ⟨g, cap, cur, rfl, _⟩
  · exact ⟨none, 0, rfl, fun k hk => by cases hk⟩
  · exact ⟨_, cap, rfl, fun k hk => by cases hk; rfl⟩

theorem failing (h : WdAt w B fm rm xm D vs vt ps T st) (op : Int) (n : ByteArray) (h0 : 0 ≤ op) (h1 : op < 256) (hn : Small n) :
    Calls Tryd.prog 49 #[ptr B, .int .u8 op, .string n] w fun e w' => e = .returned (.bool (st.fails op n)) ∧ Below w.heap.size w w' := by
  have c4 := h.cells.c4
  have hF := h.fails.look h0 h1 hn
  clear h
  go_enter Tryd.func49, Tryd.ntmps49
  go_wp2_with fail
  go_ret
  exact ⟨rfl, (Below.refl _ w).alloc (Nat.le_refl _) _⟩
end
end Go.Proofs.YtahblmcjocepeaaDoor.Wo
