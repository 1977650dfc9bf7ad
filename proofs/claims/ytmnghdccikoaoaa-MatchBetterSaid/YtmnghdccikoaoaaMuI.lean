/-
  Package match: Find, and what it tells in the document's words.
-/
import Derived.Test.YtmnghdccikoaoaaMuH
import Derived.LaidEql
namespace Go.Proofs.Ytmnghdccikoaoaa.Mt
open Go.RowKit Go.Proofs.Ytmnghdccikoaoaa.Sh

theorem lay_zero (r : Re) (hf : Fit r) (t : List Nat) : (stsOf r)[0]? = some goalS :=
  (frag_tree (t := t) 200 r 10000 hf.right).pre 0 [goalS] 0 (by decide)
theorem acc_goal {S : List St} {t : List Nat} (h0 : S[0]? = some goalS) : ∀ (m k j : Nat), Acc S t m 0 k j → j = k
  | 0, k, j, ⟨s, _, _, h⟩ => h
  | m + 1, k, j, ⟨s, hs, h⟩ => by
    have e : S[(0 : Int).toNat]? = some goalS := h0
    rw [e] at hs
    cases hs
    rcases h with ⟨h, _⟩ | ⟨h, _⟩ | ⟨h, _⟩ | ⟨h, _⟩ <;> cases h
/- What the states come to is what the tree takes. -/
theorem goes_takes {r : Re} (hf : Fit r) (t : List Nat) (i j : Nat) : Goes (stsOf r) t (firstOf r).toNat i j ↔ takes t 200 r i j := by
  have hfr := frag_tree (t := t) 200 r 10000 hf.right
  have h0 := lay_zero r hf t
  have hA : Agrees (stsOf r) (lay 200 r 0 [goalS]).1 [goalS].length := fun _ _ _ => rfl
  rw [← acc_goes hf.sts.1.closed i j, ← hf.first]
  constructor
  · rintro ⟨n, h⟩
    obtain ⟨k, m, _, h1, h2⟩ := hfr.fwd 0 [goalS] (stsOf r) hA n i j h
    have := acc_goal h0 m k j h2
    rw [this]
    exact h1
  · intro h
    exact hfr.bwd 0 [goalS] (stsOf r) hA 0 i j j h ⟨goalS, h0, rfl, rfl⟩

/- What is found from a place on. -/
structure Found (r : Re) (t : List Nat) (lo : Nat) (X : LS) : Prop where
  yes : X.found = true → ∃ i j : Nat, X.at_ = i ∧ X.n = (j : Int) - (i : Int) ∧ lo ≤ i ∧ i ≤ j ∧ j ≤ t.length ∧ takes t 200 r i j ∧ (∀ i' j', lo ≤ i' → i' < i → ¬ takes t 200 r i' j') ∧ ∀ j', takes t 200 r i j' → j' ≤ j
  no : X.found = false → X.at_ = 0 ∧ X.n = 0 ∧ ∀ i j, lo ≤ i → i ≤ t.length → ¬ takes t 200 r i j
theorem Told.found {r : Re} {t : List Nat} {lo : Nat} {X : LS} (hf : Fit r) (h : Told (stsOf r) t (firstOf r).toNat lo X) : Found r t lo X where
  yes := fun e => by
    obtain ⟨i, j, h1, h2, h3, h4, h5, h6, h7, h8⟩ := h.yes e
    exact ⟨i, j, h1, h2, h3, h4, h5, (goes_takes hf t i j).mp h6, fun i' j' q1 q2 q3 => h7 i' j' q1 q2 ((goes_takes hf t i' j').mpr q3), fun j' q => h8 j' ((goes_takes hf t i j').mpr q)⟩
  no := fun e => by
    obtain ⟨h1, h2, h3⟩ := h.no e
    exact ⟨h1, h2, fun i j q1 q2 q3 => h3 i j q1 q2 ((goes_takes hf t i j).mpr q3)⟩

theorem ptr_eq (a : Addr) (w : World) : (binOp .eql 24 (.pointer (some a)) (.pointer (some a))).run Try.prog w = .ok (.bool true) w := by
  have h1 : Try.prog.underlying 24 = some (.pointer 50) := Try.underlying24
  have h2 : (Try.prog.info? 50).map (fun i => i.size) = some 8 := by kernel_rfl
  cases hi : Try.prog.info? 50 with
  | none => rw [hi] at h2; cases h2
  | some i =>
    rw [hi] at h2
    simp only [Option.map_some, Option.some.injEq] at h2
    have h3 : binOp .eql 24 (.pointer (some a)) (.pointer (some a)) = (do pure (.bool (← Op.equal 24 (.pointer (some a)) (.pointer (some a))))) := rfl
    rw [h3]
    have hrun : ∀ d : Nat, (Op.equalIn (d + 1) 24 (.pointer (some a)) (.pointer (some a))).run Try.prog w = .ok true w := fun d => by
      simp [Op.equalIn, run_underlying h1, run_sizeOf w hi, h2, run_sameAddr_same]
    simp [Op.equal, Op.maxDepth, hrun 9999]
set_option maxRecDepth 100000 in
theorem made {w : World} {mb : Nat} (h : w.cell? ⟨mb, 0, none⟩ = some (.pointer (some ⟨mb, 0, none⟩))) : Calls Try.prog 38 #[.pointer (some ⟨mb, 0, none⟩)] w fun e w' => e = .returned (.bool true) ∧ w' = w := by
  have hp := ptr_eq ⟨mb, 0, none⟩
  go_enter Try.func38, Try.ntmps38
  go_wp2_with fail
  go_returns
  exact ⟨rfl, rfl⟩
set_option maxHeartbeats 1000000 in
set_option maxRecDepth 100000 in
theorem find {r : Re} (hf : Fit r) {w : World} {mb gs cap : Nat} {a : Nat → Int} (h : Made w mb gs cap r a) (s : ByteArray) (from_ : Nat) (hfr : from_ ≤ s.size) (hsz : s.size ≤ 1000000000) :
    Calls Try.prog 19 #[.pointer (some ⟨mb, 0, none⟩), .string s, .int .i64 (from_ : Int)] w
      fun e w' => ∃ X, e = .returned (.tuple #[.int .i64 X.at_, .int .i64 X.n, .bool X.found]) ∧ Found r (bytes s) from_ X ∧ Below w.heap.size w w' := by
  have HF := Lib.hid hf
  have HM := Lib.hid h
  clear hf h
  have h0 : ¬ (from_ : Int) < 0 := by omega
  have h1 : ¬ ((s.size : Nat) : Int) < (from_ : Int) := by omega
  go_enter Try.func19, Try.ntmps19
  go_wp2_with (first
    | (go_at_call 38; refine (made HM.out.mat.c0).mono ?_; rintro e w2 ⟨rfl, rfl⟩)
    | (go_at_call 39; refine (search HF.out HM.out s from_ hfr hsz).mono ?_; rintro e w3 ⟨X, rfl, hT, hb⟩; have HT := Lib.hid (⟨hT, hb⟩ : _ ∧ _); clear hT hb))
  go_returns
  exact ⟨X, rfl, HT.out.1.found HF.out, HT.out.2⟩
end Go.Proofs.Ytmnghdccikoaoaa.Mt
