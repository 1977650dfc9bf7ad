/-
  Package arrays: rows in memory: the places' map, the list; newRows.
-/
import Derived.Test.YtlagnklmfanmoaaArA
namespace Go.Proofs.Ytlagnklmfanmoaa.Ar
open Go.RowKit Go.Maps

theorem cell_lt {w : World} {p : Addr} {v : Value} (h : w.cell? p = some v) : p.block < w.heap.size := World.block_lt_of_cell? w p h
theorem two_size {B : Nat} {w : World} {o : Obj} (h : B ≤ w.heap.size) : B ≤ (w.alloc o).heap.size := Nat.le_trans h ((Below.refl _ w).alloc (Nat.le_refl _) o).size
theorem alloc_size (w : World) (o : Obj) : (w.alloc o).heap.size = w.heap.size + 1 := by
  show (w.heap.push o).size = _
  simp
theorem alloc_new (w : World) (o : Obj) : (w.alloc o).heap[w.heap.size]? = some o := heap_alloc_new w o
theorem alloc_old (w : World) (o : Obj) {k : Nat} (h : k < w.heap.size) : (w.alloc o).heap[k]? = w.heap[k]? := by
  show (w.heap.push o)[k]? = _
  rw [Array.getElem?_push_lt h, Array.getElem?_eq_getElem h]

abbrev MapIs (w : World) (mb N : Nat) (D : DataW Unit) : Prop := w.ownsMap Try.prog 9 (plainElem Try.prog 3) mb N D
theorem keyed : Keyed Try.prog 9 := string_keyed Try.underlying9
theorem key_of {s : ByteArray} (h : s.size ≤ 1000000) : keyOf Try.prog 9 (.string s) = some (kl s) := WideMaps.keyOf_string_mk Try.underlying9 (by unfold maxLen; omega)
theorem MapIs.of_block {w w' : World} {mb N : Nat} {D : DataW Unit} (h : MapIs w mb N D) (hb : w'.heap[mb]? = w.heap[mb]?) : MapIs w' mb N D := by
  obtain ⟨es, clock, h1, h2⟩ := h
  exact ⟨es, clock, by rw [hb]; exact h1, h2⟩
theorem map_made {w : World} {mb : Nat} (h : w.heap[mb]? = some (.map #[] 0)) : MapIs w mb 0 (.map []) := by
  obtain ⟨es, clock, h1, h2⟩ := World.ownsMap_made (H := Unit) w Try.prog 9 (plainElem Try.prog 3)
  rw [alloc_new] at h1
  simp only [Option.some.injEq, Obj.map.injEq] at h1
  obtain ⟨rfl, rfl⟩ := h1
  exact ⟨_, _, h, h2⟩
theorem row_of_block {w w' : World} {base e size g n cap : Nat} {xs : List Value} (h : w.ownsRow base e size (.slice (some ⟨g, 0, none⟩) n cap) n xs) (hb : w'.heap[g]? = w.heap[g]?) : w'.ownsRow base e size (.slice (some ⟨g, 0, none⟩) n cap) n xs := by
  refine ⟨h.1, ?_⟩
  rcases h.2 with ⟨h1, _⟩ | ⟨g1, cap1, cur, h1, h2, h3, h4⟩
  · simp at h1
  · simp only [Value.slice.injEq, Option.some.injEq, Addr.mk.injEq, and_true, true_and] at h1
    obtain ⟨rfl, rfl⟩ := h1
    exact .inr ⟨_, _, cur, rfl, h2, by rw [hb]; exact h3, h4⟩

structure Rows (w : World) (S : Nat → Prop) (N pb mb g cap : Nat) (D : DataW Unit) (rs : List Row) : Prop where
  p0 : w.cell? ⟨pb, 0, none⟩ = some (.map (some mb))
  f0 : w.frozen? ⟨pb, 0, none⟩ = false
  p1 : w.cell? ⟨pb, 1, none⟩ = some (.slice (some ⟨g, 0, none⟩) rs.length cap)
  f1 : w.frozen? ⟨pb, 1, none⟩ = false
  map : MapIs w mb N D
  row : w.ownsRow 0 67 5 (.slice (some ⟨g, 0, none⟩) rs.length cap) rs.length (flat rs)
  ties : Ties D rs
  len : rs.length ≤ N
  ne1 : pb ≠ mb
  ne2 : pb ≠ g
  ne3 : mb ≠ g
  s1 : S pb
  s2 : S mb
  s3 : S g
  lt : ∀ k, S k → k < w.heap.size

theorem Rows.later {w w' : World} {S : Nat → Prop} {N pb mb g cap : Nat} {D : DataW Unit} {rs : List Row} (h : Rows w S N pb mb g cap D rs) (hs : w.heap.size ≤ w'.heap.size) (hb : ∀ k, S k → w'.heap[k]? = w.heap[k]?) : Rows w' S N pb mb g cap D rs where
  p0 := (World.cell?_of_block (a := ⟨pb, 0, none⟩) (hb pb h.s1)).trans h.p0
  f0 := (World.frozen?_of_block (a := ⟨pb, 0, none⟩) (hb pb h.s1)).trans h.f0
  p1 := (World.cell?_of_block (a := ⟨pb, 1, none⟩) (hb pb h.s1)).trans h.p1
  f1 := (World.frozen?_of_block (a := ⟨pb, 1, none⟩) (hb pb h.s1)).trans h.f1
  map := h.map.of_block (hb mb h.s2)
  row := row_of_block h.row (hb g h.s3)
  ties := h.ties
  len := h.len
  ne1 := h.ne1
  ne2 := h.ne2
  ne3 := h.ne3
  s1 := h.s1
  s2 := h.s2
  s3 := h.s3
  lt := fun k hk => Nat.lt_of_lt_of_le (h.lt k hk) hs
theorem Rows.below {w w' : World} {S : Nat → Prop} {N pb mb g cap : Nat} {D : DataW Unit} {rs : List Row} (h : Rows w S N pb mb g cap D rs) (hb : Below w.heap.size w w') : Rows w' S N pb mb g cap D rs :=
  h.later hb.size fun k hk => hb.block k (h.lt k hk)
theorem Rows.mono {w : World} {S : Nat → Prop} {N M pb mb g cap : Nat} {D : DataW Unit} {rs : List Row} (h : Rows w S N pb mb g cap D rs) (hm : N ≤ M) : Rows w S M pb mb g cap D rs :=
  { h with map := h.map.mono hm, len := Nat.le_trans h.len hm }

structure Turn (S : Nat → Prop) (w w' : World) : Prop where
  os : w'.os = w.os
  tape : w'.tape = w.tape
  output : w'.output = w.output
  size : w.heap.size ≤ w'.heap.size
  block : ∀ k, k < w.heap.size → ¬ S k → w'.heap[k]? = w.heap[k]?
theorem Turn.of_below {S : Nat → Prop} {w w' : World} (h : Below w.heap.size w w') : Turn S w w' := ⟨h.os, h.tape, h.output, h.size, fun k hk _ => h.block k hk⟩
theorem Turn.refl (S : Nat → Prop) (w : World) : Turn S w w := Turn.of_below (Below.refl _ w)
theorem Turn.trans {S S1 : Nat → Prop} {a b c : World} (h : Turn S a b) (k : Turn S1 b c) (hs : ∀ i, S1 i → S i ∨ a.heap.size ≤ i) : Turn S a c :=
  ⟨k.os.trans h.os, k.tape.trans h.tape, k.output.trans h.output, Nat.le_trans h.size k.size, fun i hi hn => (k.block i (Nat.lt_of_lt_of_le hi h.size) fun h1 => by
    rcases hs i h1 with h2 | h2
    · exact hn h2
    · omega).trans (h.block i hi hn)⟩
theorem Turn.mono {S S1 : Nat → Prop} {a b : World} (h : Turn S a b) (hs : ∀ i, S i → S1 i) : Turn S1 a b := ⟨h.os, h.tape, h.output, h.size, fun i hi hn => h.block i hi fun h1 => hn (hs i h1)⟩
theorem Turn.below {S : Nat → Prop} {a b : World} (h : Turn S a b) (hs : ∀ i, S i → a.heap.size ≤ i) : Below a.heap.size a b := ⟨h.os, h.tape, h.output, h.size, fun i hi => h.block i hi fun h1 => by have := hs i h1; omega⟩

theorem row_info : ∃ i z, Try.prog.info? 67 = some i ∧ i.zero = some z ∧ i.size = 5 ∧ i.bytes = 56 ∧ z.cells.size = 5 := by
  have h : (Try.prog.info? 67).map (fun i => (i.zero.map (·.cells.size), i.size, i.bytes)) = some (some 5, 5, 56) := by kernel_rfl
  cases hi : Try.prog.info? 67 with
  | none => rw [hi] at h; cases h
  | some i =>
    rw [hi] at h
    simp only [Option.map_some, Option.some.injEq, Prod.mk.injEq] at h
    cases hz : i.zero with
    | none => rw [hz] at h; cases h.1
    | some z => rw [hz] at h; exact ⟨i, z, rfl, hz, h.2.1, h.2.2, by simpa using h.1⟩

theorem Rows.made {w : World} {S : Nat → Prop} {pb mb g c : Nat} {M : Array Value} (h1 : w.heap[pb]? = some (.cells #[.map (some mb), .slice (some ⟨g, 0, none⟩) 0 c] 73)) (h2 : w.heap[mb]? = some (.map #[] 0)) (h3 : w.heap[g]? = some (.cells M 67))
    (hM : M.size = c * 5) (hc : c ≤ maxLen) (ne1 : pb ≠ mb) (ne2 : pb ≠ g) (ne3 : mb ≠ g) (s1 : S pb) (s2 : S mb) (s3 : S g) (lt : ∀ k, S k → k < w.heap.size) : Rows w S 0 pb mb g c (.map []) [] where
  p0 := by simp [World.cell?, h1]
  f0 := by simp [World.frozen?, h1]
  p1 := by simp [World.cell?, h1]
  f1 := by simp [World.frozen?, h1]
  map := map_made h2
  row := ⟨rfl, .inr ⟨g, c, M, rfl, Nat.zero_le _, h3, Nat.zero_le _, hc, hM, by simp [flat]⟩⟩
  ties := Ties.nil
  len := Nat.le_refl _
  ne1 := ne1
  ne2 := ne2
  ne3 := ne3
  s1 := s1
  s2 := s2
  s3 := s3
  lt := lt

theorem three (w : World) (a b c : Obj) : (((w.alloc a).alloc b).alloc c).heap[w.heap.size]? = some a ∧ (((w.alloc a).alloc b).alloc c).heap[w.heap.size + 1]? = some b ∧ (((w.alloc a).alloc b).alloc c).heap[w.heap.size + 1 + 1]? = some c := by
  have h1 := alloc_new w a
  have h2 := alloc_new (w.alloc a) b
  have h3 := alloc_new ((w.alloc a).alloc b) c
  simp only [alloc_size] at h2 h3
  have e1 : w.heap.size < (w.alloc a).heap.size := by rw [alloc_size]; omega
  have e2 : w.heap.size < ((w.alloc a).alloc b).heap.size := by rw [alloc_size, alloc_size]; omega
  have e3 : w.heap.size + 1 < ((w.alloc a).alloc b).heap.size := by rw [alloc_size, alloc_size]; omega
  exact ⟨(alloc_old _ _ e2).trans ((alloc_old _ _ e1).trans h1), (alloc_old _ _ e3).trans h2, h3⟩

theorem makeMap_hint (w : World) (n : Int) : (Instr.makeMap 70 (some (.int .i64 n))).run Try.prog w = .ok (.map (some w.heap.size)) (w.alloc (.map #[] 0)) := by
  simp [Instr.makeMap, run_underlying Try.underlying70, asInt, asIntOf, newObj]
  rfl

/- What newRows lays. -/
def span (a b : Nat) (k : Nat) : Prop := a ≤ k ∧ k < b

theorem newRows (n : Nat) (w : World) (hn : n ≤ 1000000) :
    Calls Try.prog 30 #[.int .i64 n] w fun e w' => ∃ pb mb g cap, e = .returned (.pointer (some ⟨pb, 0, none⟩)) ∧ Rows w' (span w.heap.size w'.heap.size) 0 pb mb g cap (.map []) [] ∧ Below w.heap.size w w' := by
  obtain ⟨i, z, hi, hz, hs, hby, hzs⟩ := row_info
  have hmm := makeMap_hint
  obtain ⟨M, hM⟩ : ∃ M, M = madeCells z.cells (n * 5) := ⟨_, rfl⟩
  have hMs : M.size = n * 5 := by rw [hM, size_madeCells]
  have hmk : ∀ W : World, (Instr.makeSlice 71 (.int .i64 0) (.int .i64 (n : Int))).run Try.prog W = .ok (.slice (some ⟨W.heap.size, 0, none⟩) 0 n) (W.alloc (.cells M 67)) := fun W => by
    have h := run_make (P := Try.prog) W 71 67 i z Try.underlying71 hi hz .i64 .i64 0 (n : Int) (by omega) (by omega) (by rw [hby]; omega) (by omega)
    rw [hs] at h
    rw [hM]
    simpa using h
  clear hM hi hz hs hby hzs
  clear i z
  have hc : n ≤ maxLen := by unfold maxLen; omega
  go_enter Try.func30, Try.ntmps30
  go_wp2_with fail
  go_region
  all_goals go_wp2_with fail
  all_goals go_ret
  · obtain ⟨q1, q2, q3⟩ := three w (.map #[] 0) (.cells M 67) (.cells #[.map (some w.heap.size), .slice (some ⟨w.heap.size + 1, 0, none⟩) 0 n] 73)
    refine ⟨w.heap.size + 1 + 1, w.heap.size, w.heap.size + 1, n, rfl, Rows.made q3 q1 q2 hMs hc (by omega) (by omega) (by omega) ?_ ?_ ?_ (fun k h => h.2), ?_⟩
    all_goals first | exact (((Below.refl _ w).alloc (Nat.le_refl _) _).alloc (two_size (Nat.le_refl _)) _).alloc (two_size (two_size (Nat.le_refl _))) _ |>.drew | (show _ ≤ _ ∧ _ < (((w.alloc _).alloc _).alloc _).heap.size; rw [alloc_size, alloc_size, alloc_size]; omega)
  · obtain ⟨q1, q2, q3⟩ := three w (.cells M 67) (.map #[] 0) (.cells #[.map (some (w.heap.size + 1)), .slice (some ⟨w.heap.size, 0, none⟩) 0 n] 73)
    refine ⟨w.heap.size + 1 + 1, w.heap.size + 1, w.heap.size, n, rfl, Rows.made q3 q2 q1 hMs hc (by omega) (by omega) (by omega) ?_ ?_ ?_ (fun k h => h.2), ?_⟩
    all_goals first | exact (((Below.refl _ w).alloc (Nat.le_refl _) _).alloc (two_size (Nat.le_refl _)) _).alloc (two_size (two_size (Nat.le_refl _))) _ |>.drew | (show _ ≤ _ ∧ _ < (((w.alloc _).alloc _).alloc _).heap.size; rw [alloc_size, alloc_size, alloc_size]; omega)
end Go.Proofs.Ytlagnklmfanmoaa.Ar
