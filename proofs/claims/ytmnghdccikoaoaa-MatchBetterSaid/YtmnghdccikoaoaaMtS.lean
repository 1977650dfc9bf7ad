/-
  Package match: a matcher in memory; mayStart.
-/
import Derived.Test.YtmnghdccikoaoaaMtR
import Derived.BigQuiet
namespace Go.Proofs.Ytmnghdccikoaoaa.Mt
open Go.RowKit Go.Proofs.Ytmnghdccikoaoaa.Sh

/- A matcher: its cells, and its states. -/
structure Mat (w : World) (mb gs cap : Nat) (sts : List St) (size first a0 a1 a2 a3 : Int) : Prop where
  c0 : w.cell? ⟨mb, 0, none⟩ = some (.pointer (some ⟨mb, 0, none⟩))
  c1 : w.cell? ⟨mb, 1, none⟩ = some (.int .i64 size)
  c2 : w.cell? ⟨mb, 2, none⟩ = some (.slice (some ⟨gs, 0, none⟩) sts.length cap)
  c3 : w.cell? ⟨mb, 3, none⟩ = some (.int .i64 first)
  c4 : w.cell? ⟨mb, 4, none⟩ = some (.int .u64 a0)
  c5 : w.cell? ⟨mb, 5, none⟩ = some (.int .u64 a1)
  c6 : w.cell? ⟨mb, 6, none⟩ = some (.int .u64 a2)
  c7 : w.cell? ⟨mb, 7, none⟩ = some (.int .u64 a3)
  st : ∀ (q : Nat) (s : St), sts[q]? = some s → ∀ (j : Nat) (u : Value), s.cells[j]? = some u → w.cell? ⟨gs, q * 7 + j, none⟩ = some u
  r0 : 0 ≤ a0 ∧ a0 < 18446744073709551616
  r1 : 0 ≤ a1 ∧ a1 < 18446744073709551616
  r2 : 0 ≤ a2 ∧ a2 < 18446744073709551616
  r3 : 0 ≤ a3 ∧ a3 < 18446744073709551616
theorem Mat.same {w w' : World} {mb gs cap : Nat} {sts : List St} {size first a0 a1 a2 a3 : Int} (h : Mat w mb gs cap sts size first a0 a1 a2 a3) (e : ∀ k, k = mb ∨ k = gs → w'.heap[k]? = w.heap[k]?) : Mat w' mb gs cap sts size first a0 a1 a2 a3 := by
  have c : ∀ j : Nat, w'.cell? ⟨mb, j, none⟩ = w.cell? ⟨mb, j, none⟩ := fun j => World.cell?_of_block (e mb (.inl rfl))
  exact ⟨(c 0).trans h.c0, (c 1).trans h.c1, (c 2).trans h.c2, (c 3).trans h.c3, (c 4).trans h.c4, (c 5).trans h.c5, (c 6).trans h.c6, (c 7).trans h.c7, fun q s hq j u hu => (World.cell?_of_block (a := ⟨gs, q * 7 + j, none⟩) (e gs (.inr rfl))).trans (h.st q s hq j u hu), h.r0, h.r1, h.r2, h.r3⟩

def mayB (a0 a1 a2 a3 : Int) (s : ByteArray) (i : Nat) : Bool := decide (i = 0) || decide (i = s.size) || (if h : i < s.size then inSet a0 a1 a2 a3 (s[i]).toNat else false)
set_option maxHeartbeats 800000 in
set_option maxRecDepth 100000 in
theorem mayStart {w : World} {mb gs cap : Nat} {sts : List St} {size first a0 a1 a2 a3 : Int} (h : Mat w mb gs cap sts size first a0 a1 a2 a3) (s : ByteArray) (i : Nat) (hi : i ≤ s.size) :
    Calls Try.prog 56 #[.pointer (some ⟨mb, 0, none⟩), .string s, .int .i64 (i : Int)] w fun e w' => e = .returned (.bool (mayB a0 a1 a2 a3 s i)) ∧ ∃ n, w' = w.drewN n := by
  have H := Lib.hid h
  clear h
  by_cases h0 : i = 0
  · subst h0
    rw [show (((0 : Nat) : Nat) : Int) = 0 from rfl]
    go_enter Try.func56, Try.ntmps56
    go_wp2_with fail
    go_quiet (fail)
    go_wp2_with fail
    go_ret
    exact ⟨rfl, _, rfl⟩
  by_cases h1 : s.size = i
  · have h0' : ¬ ((i : Int) = 0) := by omega
    have h0b : ((i : Int) == 0) = false := by simpa using h0'
    have hr : mayB a0 a1 a2 a3 s i = true := by simp [mayB, h1]
    rw [hr]
    clear hr hi
    go_enter Try.func56, Try.ntmps56
    go_wp2_with fail
    refine wp_region_quiet_lit (by kernel_rfl) (by kernel_rfl) ?_
    repeat (with_reducible refine wpQuiet_step ?_; intro K hK; go_simp; refine hK _ ?_; clear hK K)
    with_reducible refine wpQuiet_nil ?_
    rintro _ ⟨nq, rfl⟩
    go_wp2_with fail
    go_ret
    exact ⟨rfl, _, rfl⟩
  · have h0' : ¬ ((i : Int) = 0) := by omega
    have h0b : ((i : Int) == 0) = false := by simpa using h0'
    have hlt : i < s.size := by omega
    have hb : (s[i]).toNat < 256 := (s[i]).toNat_lt
    have hr : mayB a0 a1 a2 a3 s i = inSet a0 a1 a2 a3 (s[i]).toNat := by
      have : ¬ (i = s.size) := fun e => h1 e.symm
      simp [mayB, h0, this, hlt]
    rw [hr]
    obtain ⟨n, hn⟩ : ∃ n, s.size = n := ⟨_, rfl⟩
    have h1' : ¬ ((i : Int) = (n : Int)) := by omega
    have h1b : ((i : Int) == (n : Int)) = false := by simpa using h1'
    have hlt' : (i : Int) < (n : Int) := by omega
    clear hr h1 hi
    go_enter Try.func56, Try.ntmps56
    go_wp2_with fail
    refine wp_region_quiet_lit (by kernel_rfl) (by kernel_rfl) ?_
    repeat (with_reducible refine wpQuiet_step ?_; intro K hK; go_simp; refine hK _ ?_; clear hK K)
    with_reducible refine wpQuiet_step ?_
    intro K hK
    go_simp
    apply Exists.intro
    refine ⟨fun q => ?_, hK _ ?_⟩
    · go_at_call 58
      exact Calls.quiet_of_same (has (s[i]).toNat hb mb 4 a0 a1 a2 a3 (w.drewN q) H.out.c4 H.out.c5 H.out.c6 H.out.c7 H.out.r0 H.out.r1 H.out.r2 H.out.r3)
    clear hK K
    repeat (with_reducible refine wpQuiet_step ?_; intro K hK; go_simp; refine hK _ ?_; clear hK K)
    with_reducible refine wpQuiet_nil ?_
    rintro _ ⟨nq, rfl⟩
    go_wp2_with fail
    go_ret
    exact ⟨rfl, _, rfl⟩
end Go.Proofs.Ytmnghdccikoaoaa.Mt
