/-
  Package match: a new walker; a byte in a set.
-/
import Derived.Test.YtmnghdccikoaoaaMtX
import Derived.Test.YtmnghdccikoaoaaMtN
import Derived.Deep.OwnRows
import Derived.Laws.OwnMore
import Derived.Laws.BitsAllLaws
namespace Go.Proofs.Ytmnghdccikoaoaa.Mt
open Go.RowKit Go.Proofs.Ytmnghdccikoaoaa.Sh

theorem intInfo : (Try.prog.info? 3).map (fun i => (i.zero, i.size, i.bytes)) = some (some (.int .i64 0), 1, 8) := by kernel_rfl

set_option maxRecDepth 100000 in
theorem newWalker (n gs cap : Nat) (pf : FuncId) (caps : Array Value) (w : World) (hn : n ≤ 100000) :
    Calls Try.prog 53 #[.slice (some ⟨gs, 0, none⟩) n cap, .func (.func pf) #[] caps] w
      fun e w' => e = .returned (.pointer (some ⟨w.heap.size + 1, 0, none⟩)) ∧ w' = (w.alloc (.cells (madeCells #[.int .i64 0] n) 3)).alloc (.cells #[.slice (some ⟨gs, 0, none⟩) n cap, .slice (some ⟨w.heap.size, 0, none⟩) n n, .slice none 0 0, .func (.func pf) #[] caps] 119) := by
  have hmk := run_make_row' (P := Try.prog) 117 3 (.int .i64 0) 8 Try.underlying117 intInfo rfl .i64 .i64 n (by omega) (by omega)
  go_enter Try.func53, Try.ntmps53
  go_wp2_with fail
  go_ret
  exact ⟨rfl, rfl⟩
theorem zeros (n : Nat) : madeCells #[Value.int .i64 0] n = ⟨(List.replicate n (0 : Int)).map (Value.int .i64)⟩ := by
  apply Array.ext'
  rw [toList_madeCells_one]
  simp
/- A new walker is one that has gone nowhere. -/
theorem new_wk {w : World} {gs cap : Nat} {pf : FuncId} {caps : Array Value} {sts : List St} (hgs : gs < w.heap.size) (hst : ∀ (q : Nat) (s : St), sts[q]? = some s → ∀ (j : Nat) (u : Value), s.cells[j]? = some u → w.cell? ⟨gs, q * 7 + j, none⟩ = some u) :
    Wk ((w.alloc (.cells (madeCells #[.int .i64 0] sts.length) 3)).alloc (.cells #[.slice (some ⟨gs, 0, none⟩) sts.length cap, .slice (some ⟨w.heap.size, 0, none⟩) sts.length sts.length, .slice none 0 0, .func (.func pf) #[] caps] 119))
      (w.heap.size + 2) (w.heap.size + 1) gs w.heap.size cap (.func (.func pf) #[] caps) (.slice none 0 0) sts (List.replicate sts.length 0) [] := by
  have e : w.heap.size + 1 = (w.alloc (.cells (madeCells #[.int .i64 0] sts.length) 3)).heap.size := (alloc_size _ _).symm
  have c := fun (j : Nat) (cs : Array Value) => World.cell?_alloc_at (w := w.alloc (.cells (madeCells #[.int .i64 0] sts.length) 3)) cs 119 (w.heap.size + 1) j e
  have hb : ∀ cs, Below w.heap.size w ((w.alloc (.cells (madeCells #[.int .i64 0] sts.length) 3)).alloc (.cells cs 119)) := fun cs => ((Below.refl _ _).alloc (Nat.le_refl _) _).alloc (two_size (Nat.le_refl _)) _
  refine ⟨(c 0 _).trans rfl, (c 1 _).trans rfl, (c 2 _).trans rfl, (c 3 _).trans rfl, World.frozen?_alloc_at _ _ _ _ e, fun q s hq j u hu => ((hb _).cell (p := ⟨gs, q * 7 + j, none⟩) hgs).trans (hst q s hq j u hu), ?_, by simp, World.ownsRow_nil _ _ _ _, ⟨by omega, by omega, by omega, by rw [alloc_size, alloc_size]; omega⟩, ⟨by omega, by omega, by omega⟩⟩
  rw [← zeros]
  exact (((Below.refl _ (w.alloc (.cells (madeCells #[.int .i64 0] sts.length) 3))).alloc (Nat.le_refl _) _).block w.heap.size (by rw [alloc_size]; omega)).trans (heap_alloc_new w _)

theorem bit_test (s : Int) (k : Nat) (h : 0 ≤ s ∧ s < 18446744073709551616) : (bits .and .u64 (s / 2 ^ k) 1 != 0) = s.toNat.testBit k := by
  obtain ⟨n, rfl⟩ : ∃ n : Nat, s = n := ⟨s.toNat, by omega⟩
  have e : (n : Int) / 2 ^ k = ((n / 2 ^ k : Nat) : Int) := by push_cast; rfl
  have hn : n / 2 ^ k < 18446744073709551616 := Nat.lt_of_le_of_lt (Nat.div_le_self _ _) (by omega)
  have e1 := u64_and_nat (n / 2 ^ k) 1 hn (by omega)
  rw [e, show (1 : Int) = ((1 : Nat) : Int) from rfl, e1]
  unfold Nat.testBit
  rw [Nat.shiftRight_eq_div_pow, Nat.and_comm]
  simp only [Int.toNat_natCast]
  rw [Bool.eq_iff_iff]
  simp
  rw [e]
  omega
theorem inSet_eq (s0 s1 s2 s3 : Int) (b q : Nat) (h : b / 64 = q) (hq : q < 4) : inSet s0 s1 s2 s3 b = (if q = 0 then s0 else if q = 1 then s1 else if q = 2 then s2 else s3).toNat.testBit (b % 64) := by
  unfold inSet
  have e : (if b < 64 then s0 else if b < 128 then s1 else if b < 192 then s2 else s3) = (if q = 0 then s0 else if q = 1 then s1 else if q = 2 then s2 else s3) := by
    subst h
    repeat' split
    all_goals first | rfl | omega
  rw [e]

set_option maxRecDepth 100000 in
theorem has (b : Nat) (hb : b < 256) (m o : Nat) (s0 s1 s2 s3 : Int) (w : World) (h0 : w.cell? ⟨m, o, none⟩ = some (.int .u64 s0)) (h1 : w.cell? ⟨m, o + 1, none⟩ = some (.int .u64 s1)) (h2 : w.cell? ⟨m, o + 2, none⟩ = some (.int .u64 s2)) (h3 : w.cell? ⟨m, o + 3, none⟩ = some (.int .u64 s3))
    (r0 : 0 ≤ s0 ∧ s0 < 18446744073709551616) (r1 : 0 ≤ s1 ∧ s1 < 18446744073709551616) (r2 : 0 ≤ s2 ∧ s2 < 18446744073709551616) (r3 : 0 ≤ s3 ∧ s3 < 18446744073709551616) :
    Calls Try.prog 58 #[.pointer (some ⟨m, o, none⟩), .int .u8 (b : Int)] w fun e w' => e = .returned (.bool (inSet s0 s1 s2 s3 b)) ∧ w' = w := by
  obtain ⟨q, hq⟩ : ∃ q, b / 64 = q := ⟨_, rfl⟩
  have hq4 : q < 4 := by omega
  have hi := inSet_eq s0 s1 s2 s3 b q hq hq4
  have hx : ∃ x : Int, (if q = 0 then s0 else if q = 1 then s1 else if q = 2 then s2 else s3) = x ∧ w.cell? ⟨m, o + b / 64, none⟩ = some (.int .u64 x) ∧ 0 ≤ x ∧ x < 18446744073709551616 := by
    rw [hq]
    have : q = 0 ∨ q = 1 ∨ q = 2 ∨ q = 3 := by omega
    rcases this with rfl | rfl | rfl | rfl
    · exact ⟨s0, rfl, h0, r0⟩
    · exact ⟨s1, rfl, h1, r1⟩
    · exact ⟨s2, rfl, h2, r2⟩
    · exact ⟨s3, rfl, h3, r3⟩
  obtain ⟨x, hx1, hx2, hx3⟩ := hx
  rw [hi, hx1]
  clear hi hx1 h0 h1 h2 h3 hq hq4
  have HX := Lib.hid hx3
  clear hx3
  go_enter Try.func58, Try.ntmps58
  go_wp2_with fail
  go_ret
  refine ⟨?_, rfl⟩
  rw [← bit_test x (b % 64) HX.out]
  rfl
end Go.Proofs.Ytmnghdccikoaoaa.Mt
