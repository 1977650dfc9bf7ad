/-
  Package match: what a matcher notes of the bytes with which something begins (findStarts$1).
-/
import Derived.Test.YtmnghdccikoaoaaMtS
import Derived.Handy
namespace Go.Proofs.Ytmnghdccikoaoaa.Mt
open Go.RowKit Go.Proofs.Ytmnghdccikoaoaa.Sh

def St.word (s : St) (k : Nat) : Int := if k = 0 then s.s0 else if k = 1 then s.s1 else if k = 2 then s.s2 else s.s3
def InWord (x : Int) : Prop := 0 ≤ x ∧ x < 18446744073709551616
def Words (sts : List St) : Prop := ∀ (q : Nat) (s : St), sts[q]? = some s → ∀ k, InWord (s.word k)
/- A matcher while its bytes are noted: the box of its pointer, its cells. -/
structure Mst (w : World) (cb mb gs cap : Nat) (sts : List St) (size first : Int) (a : Nat → Int) : Prop where
  cc : w.cell? ⟨cb, 0, none⟩ = some (.pointer (some ⟨mb, 0, none⟩))
  c0 : w.cell? ⟨mb, 0, none⟩ = some (.pointer (some ⟨mb, 0, none⟩))
  c1 : w.cell? ⟨mb, 1, none⟩ = some (.int .i64 size)
  c2 : w.cell? ⟨mb, 2, none⟩ = some (.slice (some ⟨gs, 0, none⟩) sts.length cap)
  c3 : w.cell? ⟨mb, 3, none⟩ = some (.int .i64 first)
  c4 : w.cell? ⟨mb, 4, none⟩ = some (.int .u64 (a 0))
  c5 : w.cell? ⟨mb, 5, none⟩ = some (.int .u64 (a 1))
  c6 : w.cell? ⟨mb, 6, none⟩ = some (.int .u64 (a 2))
  c7 : w.cell? ⟨mb, 7, none⟩ = some (.int .u64 (a 3))
  fz : ∀ j : Nat, w.frozen? ⟨mb, j, none⟩ = false
  st : ∀ (q : Nat) (s : St), sts[q]? = some s → ∀ (j : Nat) (u : Value), s.cells[j]? = some u → w.cell? ⟨gs, q * 7 + j, none⟩ = some u
  rg : ∀ k, InWord (a k)
  ne : cb ≠ mb ∧ gs ≠ mb ∧ cb < w.heap.size ∧ mb < w.heap.size ∧ gs < w.heap.size
def put1 (a : Nat → Int) (k : Nat) (x : Int) : Nat → Int := fun j => if j = k then x else a j
theorem Mst.keep {w w' : World} {cb mb gs cap : Nat} {sts : List St} {size first : Int} {a : Nat → Int} (h : Mst w cb mb gs cap sts size first a) (hs : w.heap.size ≤ w'.heap.size) (e : ∀ k, k = cb ∨ k = mb ∨ k = gs → w'.heap[k]? = w.heap[k]?) : Mst w' cb mb gs cap sts size first a := by
  have c : ∀ j : Nat, w'.cell? ⟨mb, j, none⟩ = w.cell? ⟨mb, j, none⟩ := fun j => World.cell?_of_block (e mb (.inr (.inl rfl)))
  exact ⟨(World.cell?_of_block (a := ⟨cb, 0, none⟩) (e cb (.inl rfl))).trans h.cc, (c 0).trans h.c0, (c 1).trans h.c1, (c 2).trans h.c2, (c 3).trans h.c3, (c 4).trans h.c4, (c 5).trans h.c5, (c 6).trans h.c6, (c 7).trans h.c7, fun j => (World.frozen?_of_block (a := ⟨mb, j, none⟩) (e mb (.inr (.inl rfl)))).trans (h.fz j),
    fun q s hq j u hu => (World.cell?_of_block (a := ⟨gs, q * 7 + j, none⟩) (e gs (.inr (.inr rfl)))).trans (h.st q s hq j u hu), h.rg, ⟨h.ne.1, h.ne.2.1, Nat.lt_of_lt_of_le h.ne.2.2.1 hs, Nat.lt_of_lt_of_le h.ne.2.2.2.1 hs, Nat.lt_of_lt_of_le h.ne.2.2.2.2 hs⟩⟩
theorem Mst.store {w : World} {cb mb gs cap : Nat} {sts : List St} {size first : Int} {a : Nat → Int} (h : Mst w cb mb gs cap sts size first a) (k p : Nat) (hp : p = k + 4) (hk : k < 4) (x : Int) (hx : InWord x) : Mst (w.setCell ⟨mb, p, none⟩ (.int .u64 x)) cb mb gs cap sts size first (put1 a k x) := by
  subst hp
  have hb : ∀ (b j : Nat), b ≠ mb → (w.setCell ⟨mb, k + 4, none⟩ (.int .u64 x)).cell? ⟨b, j, none⟩ = w.cell? ⟨b, j, none⟩ := fun b j hne => World.cell?_of_block (a := ⟨b, j, none⟩) (heap_setCell_other w ⟨mb, k + 4, none⟩ b _ hne)
  have ho : ∀ j : Nat, j ≠ k + 4 → (w.setCell ⟨mb, k + 4, none⟩ (.int .u64 x)).cell? ⟨mb, j, none⟩ = w.cell? ⟨mb, j, none⟩ := fun j hj => World.cell?_setCell_other _ _ _ _ (fun e => hj (by cases e; rfl))
  have hc : ∀ j, j < 4 → w.cell? ⟨mb, j + 4, none⟩ = some (.int .u64 (a j)) := fun j hj => by
    have : j = 0 ∨ j = 1 ∨ j = 2 ∨ j = 3 := by omega
    rcases this with rfl | rfl | rfl | rfl
    · exact h.c4
    · exact h.c5
    · exact h.c6
    · exact h.c7
  have hc' : ∀ j, j < 4 → (w.setCell ⟨mb, k + 4, none⟩ (.int .u64 x)).cell? ⟨mb, j + 4, none⟩ = some (.int .u64 (put1 a k x j)) := fun j hj => by
    by_cases e : j = k
    · subst e
      rw [World.cell?_setCell_same' w _ _ (by rw [hc j hj]; rfl)]
      simp [put1]
    · rw [ho (j + 4) (by omega), hc j hj]
      simp [put1, e]
  refine ⟨(hb cb 0 h.ne.1).trans h.cc, (ho 0 (by omega)).trans h.c0, (ho 1 (by omega)).trans h.c1, (ho 2 (by omega)).trans h.c2, (ho 3 (by omega)).trans h.c3, hc' 0 (by omega), hc' 1 (by omega), hc' 2 (by omega), hc' 3 (by omega),
    fun j => (World.frozen?_setCell _ _ _ _).trans (h.fz j), fun q s hq j u hu => (hb gs _ h.ne.2.1).trans (h.st q s hq j u hu), fun j => ?_, by simpa [World.setCell] using h.ne⟩
  unfold put1
  split
  · exact hx
  · exact h.rg j

/- No bit is lost. -/
def Le (a a' : Nat → Int) : Prop := ∀ k, k < 4 → ∀ b, (a k).toNat.testBit b = true → (a' k).toNat.testBit b = true
theorem Le.refl (a : Nat → Int) : Le a a := fun _ _ _ h => h
theorem Le.trans {a b c : Nat → Int} (h : Le a b) (k : Le b c) : Le a c := fun i hi j hj => k i hi j (h i hi j hj)
/- A word holds what a state asks. -/
def CovAt (a : Nat → Int) (s : St) (k : Nat) : Prop := ∀ b, b < 64 → (s.act = 0 ∨ (s.word k).toNat.testBit b = true) → (a k).toNat.testBit b = true
theorem CovAt.le {a a' : Nat → Int} {s : St} {k : Nat} (hk : k < 4) (h : CovAt a s k) (hl : Le a a') : CovAt a' s k := fun b hb hs => hl k hk b (h b hb hs)
theorem or_word {x y : Int} (hx : InWord x) (hy : InWord y) : InWord (bits .or .u64 x y) ∧ ∀ b, (bits .or .u64 x y).toNat.testBit b = (x.toNat.testBit b || y.toNat.testBit b) := by
  obtain ⟨n, rfl⟩ : ∃ n : Nat, x = n := ⟨x.toNat, by have := hx.1; omega⟩
  obtain ⟨m, rfl⟩ : ∃ m : Nat, y = m := ⟨y.toNat, by have := hy.1; omega⟩
  have hn : n < 18446744073709551616 := by have := hx.2; omega
  have hm : m < 18446744073709551616 := by have := hy.2; omega
  rw [u64_or_nat n m hn hm]
  refine ⟨⟨by omega, ?_⟩, fun b => by simp [Nat.testBit_or]⟩
  have : n ||| m < 2 ^ 64 := Nat.or_lt_two_pow (by omega) (by omega)
  omega
theorem ones_bit {b : Nat} (hb : b < 64) : (18446744073709551615 : Int).toNat.testBit b = true := by
  have : (18446744073709551615 : Int).toNat = 2 ^ 64 - 1 := rfl
  rw [this, Nat.testBit_two_pow_sub_one]
  simpa using hb
theorem put1_or {a : Nat → Int} {k : Nat} {s : St} (ha : ∀ k, InWord (a k)) (hs : InWord (s.word k)) : Le a (put1 a k (bits .or .u64 (a k) (s.word k))) ∧ (s.act ≠ 0 → CovAt (put1 a k (bits .or .u64 (a k) (s.word k))) s k) := by
  have h := (or_word (ha k) hs).2
  refine ⟨fun j _ b hb => ?_, fun h0 b _ hb => ?_⟩
  · unfold put1
    split
    · rename_i e; subst e; rw [h, hb]; rfl
    · exact hb
  · have := hb.resolve_left h0
    simp only [put1, if_true]
    rw [h, this, Bool.or_true]
theorem put1_ones {a : Nat → Int} {k : Nat} (s : St) (ha : ∀ k, InWord (a k)) : Le a (put1 a k 18446744073709551615) ∧ CovAt (put1 a k 18446744073709551615) s k := by
  refine ⟨fun j _ b hb => ?_, fun b hb _ => ?_⟩
  · unfold put1
    split
    · rename_i e; subst e
      refine ones_bit ?_
      rcases Nat.lt_or_ge b 64 with h | h
      · exact h
      · have h1 : (a j).toNat < 2 ^ b := Nat.lt_of_lt_of_le (by have := (ha j).2; have := (ha j).1; omega) (Nat.pow_le_pow_right (by omega) h)
        rw [Nat.testBit_lt_two_pow h1] at hb
        cases hb
    · exact hb
  · simp only [put1, if_true]
    exact ones_bit hb

/- What the closure leaves. -/
structure Noted (w w' : World) (cb mb gs cap : Nat) (sts : List St) (size first : Int) (a a' : Nat → Int) (s : St) (k : Nat) : Prop where
  m : Mst w' cb mb gs cap sts size first a'
  same : Same w w'
  fr : ∀ k, k < w.heap.size → k ≠ mb → w'.heap[k]? = w.heap[k]?
  le : Le a a'
  cov : ∀ j, j < k → CovAt a' s j
variable {w w' : World} {cb mb gs cap : Nat} {sts : List St} {size first : Int} {a a' : Nat → Int} {s : St} {k : Nat}
theorem Noted.start (h : Mst w cb mb gs cap sts size first a) : Noted w w cb mb gs cap sts size first a a s 0 := ⟨h, Same.refl _, fun _ _ _ => rfl, Le.refl _, fun j hj => by omega⟩
theorem Noted.draw (h : Noted w w' cb mb gs cap sts size first a a' s k) : Noted w w'.drew cb mb gs cap sts size first a a' s k :=
  ⟨h.m.keep (Nat.le_refl _) fun _ _ => rfl, h.same.trans ⟨rfl, rfl, rfl, Nat.le_refl _⟩, h.fr, h.le, h.cov⟩
theorem Noted.store (h : Noted w w' cb mb gs cap sts size first a a' s k) (j p : Nat) (hp : p = j + 4) (hj : j < 4) (x : Int) (hx : InWord x) (hl : Le a' (put1 a' j x)) : Noted w (w'.setCell ⟨mb, p, none⟩ (.int .u64 x)) cb mb gs cap sts size first a (put1 a' j x) s (min k 4) :=
  ⟨h.m.store j p hp hj x hx, h.same.trans ⟨rfl, rfl, rfl, by simp [World.setCell]⟩, fun i hi hm => (heap_setCell_other w' ⟨mb, p, none⟩ i _ hm).trans (h.fr i hi hm), h.le.trans hl, fun i hi => (h.cov i (by omega)).le (by omega) hl⟩
theorem Noted.more (h : Noted w w' cb mb gs cap sts size first a a' s k) (hc : CovAt a' s k) : Noted w w' cb mb gs cap sts size first a a' s (k + 1) :=
  ⟨h.m, h.same, h.fr, h.le, fun j hj => by
    rcases Nat.lt_or_ge j k with q | q
    · exact h.cov j q
    · have : j = k := by omega
      exact this ▸ hc⟩
theorem Noted.less (h : Noted w w' cb mb gs cap sts size first a a' s k) {m : Nat} (hm : m ≤ k) : Noted w w' cb mb gs cap sts size first a a' s m := ⟨h.m, h.same, h.fr, h.le, fun j hj => h.cov j (by omega)⟩

set_option maxRecDepth 100000 in
theorem set_index (s : St) (k : Nat) (hk : k < 4) (w : World) : (Instr.index 31 (.agg #[.int .u64 s.s0, .int .u64 s.s1, .int .u64 s.s2, .int .u64 s.s3]) (.int .i64 (k : Int))).run Try.prog w = .ok (.int .u64 (s.word k)) w := by
  have : k = 0 ∨ k = 1 ∨ k = 2 ∨ k = 3 := by omega
  rcases this with rfl | rfl | rfl | rfl <;> rfl

set_option maxHeartbeats 1000000 in
set_option maxRecDepth 100000 in
theorem starts1 (q : Nat) (hs : sts[q]? = some s) (hws : ∀ k, InWord (s.word k)) (h : Mst w cb mb gs cap sts size first a) (hcap : sts.length ≤ cap) :
    Calls Try.prog 54 #[.int .i64 (q : Int), .pointer (some ⟨cb, 0, none⟩)] w fun e w' => e = .returned (.tuple #[]) ∧ ∃ a', Noted w w' cb mb gs cap sts size first a a' s 4 := by
  have hq : q < sts.length := (List.getElem?_eq_some_iff.mp hs).1
  have hq' : (q : Int) < (sts.length : Int) := by omega
  have k0 := h.cc
  have k2 := h.c2
  have t0 := h.st q s hs 0 _ rfl
  have t1 := h.st q s hs 1 _ rfl
  have t2 := h.st q s hs 2 _ rfl
  have t3 := h.st q s hs 3 _ rfl
  have t4 := h.st q s hs 4 _ rfl
  have HS := Lib.hid hs
  have HW := Lib.hid hws
  have HM := Lib.hid h
  clear hs hws h
  go_enter Try.func54, Try.ntmps54
  go_wp2_with fail
  go_loopw [13] (fun i wr => ∃ (k : Nat) (a' : Nat → Int), k ≤ 4 ∧ i = .int .i64 (k : Int) ∧ Noted w wr cb mb gs cap sts size first a a' s k) (fun i _ => 4 - (intOf i).toNat)
  case atStart => exact ⟨0, a, by omega, rfl, Noted.start HM.out⟩
  case round =>
    obtain ⟨k, a', hk, rfl, hn⟩ := hrel
    have hix := fun (w : World) (h4 : k < 4) => set_index s k h4 w
    have m0 := hn.m.cc
    have m2 := hn.m.c2
    have m4 := hn.m.c4
    have m5 := hn.m.c5
    have m6 := hn.m.c6
    have m7 := hn.m.c7
    have u0 : wr.cell? ⟨gs, q * 7, none⟩ = some (.int .u8 s.act) := hn.m.st q s HS.out 0 _ rfl
    have g1 : gs ≠ mb := hn.m.ne.2.1
    have g2 : cb ≠ mb := hn.m.ne.1
    have fz := hn.m.fz
    have HN := Lib.hid hn
    clear hn
    have hk4 : k = 0 ∨ k = 1 ∨ k = 2 ∨ k = 3 ∨ k = 4 := by omega
    rcases hk4 with rfl | rfl | rfl | rfl | rfl
    · have hx : ∀ w : World, (Instr.index 31 (.agg #[.int .u64 s.s0, .int .u64 s.s1, .int .u64 s.s2, .int .u64 s.s3]) (.int .i64 0)).run Try.prog w = .ok (.int .u64 (s.word 0)) w := fun w => hix w (by omega)
      clear hix
      have hI := HW.out 0
      have hw1 := (or_word (HN.out.m.rg 0) hI).1
      have hN1 := HN.out.store 0 4 rfl (by omega) (bits .or .u64 (a' 0) (s.word 0)) hw1 (put1_or HN.out.m.rg hI).1
      by_cases ha : s.act = 0
      · have hN2 := hN1.store 0 4 rfl (by omega) 18446744073709551615 (by constructor <;> decide) (put1_ones s hN1.m.rg).1
        have hN3 := (hN2.less (by omega)).more (k := 0) (put1_ones s hN1.m.rg).2
        have HN3 := Lib.hid hN3
        clear hN1 hN2 hN3
        go_wp2_with fail
        go_region
        go_wp2_with fail
        exact ⟨⟨1, _, by omega, rfl, HN3.out.draw⟩, by simp [intOf]⟩
      · have ha' : (s.act == 0) = false := by simpa using ha
        have hN3 := (hN1.less (by omega)).more (k := 0) ((put1_or HN.out.m.rg hI).2 ha)
        have HN3 := Lib.hid hN3
        clear hN1 hN3
        go_wp2_with fail
        go_region
        go_wp2_with fail
        exact ⟨⟨1, _, by omega, rfl, HN3.out.draw⟩, by simp [intOf]⟩
    · have hx : ∀ w : World, (Instr.index 31 (.agg #[.int .u64 s.s0, .int .u64 s.s1, .int .u64 s.s2, .int .u64 s.s3]) (.int .i64 1)).run Try.prog w = .ok (.int .u64 (s.word 1)) w := fun w => hix w (by omega)
      clear hix
      have hI := HW.out 1
      have hw1 := (or_word (HN.out.m.rg 1) hI).1
      have hN1 := HN.out.store 1 5 rfl (by omega) (bits .or .u64 (a' 1) (s.word 1)) hw1 (put1_or HN.out.m.rg hI).1
      by_cases ha : s.act = 0
      · have hN2 := hN1.store 1 5 rfl (by omega) 18446744073709551615 (by constructor <;> decide) (put1_ones s hN1.m.rg).1
        have hN3 := (hN2.less (by omega)).more (k := 1) (put1_ones s hN1.m.rg).2
        have HN3 := Lib.hid hN3
        clear hN1 hN2 hN3
        go_wp2_with fail
        go_region
        go_wp2_with fail
        exact ⟨⟨2, _, by omega, rfl, HN3.out.draw⟩, by simp [intOf]⟩
      · have ha' : (s.act == 0) = false := by simpa using ha
        have hN3 := (hN1.less (by omega)).more (k := 1) ((put1_or HN.out.m.rg hI).2 ha)
        have HN3 := Lib.hid hN3
        clear hN1 hN3
        go_wp2_with fail
        go_region
        go_wp2_with fail
        exact ⟨⟨2, _, by omega, rfl, HN3.out.draw⟩, by simp [intOf]⟩
    · have hx : ∀ w : World, (Instr.index 31 (.agg #[.int .u64 s.s0, .int .u64 s.s1, .int .u64 s.s2, .int .u64 s.s3]) (.int .i64 2)).run Try.prog w = .ok (.int .u64 (s.word 2)) w := fun w => hix w (by omega)
      clear hix
      have hI := HW.out 2
      have hw1 := (or_word (HN.out.m.rg 2) hI).1
      have hN1 := HN.out.store 2 6 rfl (by omega) (bits .or .u64 (a' 2) (s.word 2)) hw1 (put1_or HN.out.m.rg hI).1
      by_cases ha : s.act = 0
      · have hN2 := hN1.store 2 6 rfl (by omega) 18446744073709551615 (by constructor <;> decide) (put1_ones s hN1.m.rg).1
        have hN3 := (hN2.less (by omega)).more (k := 2) (put1_ones s hN1.m.rg).2
        have HN3 := Lib.hid hN3
        clear hN1 hN2 hN3
        go_wp2_with fail
        go_region
        go_wp2_with fail
        exact ⟨⟨3, _, by omega, rfl, HN3.out.draw⟩, by simp [intOf]⟩
      · have ha' : (s.act == 0) = false := by simpa using ha
        have hN3 := (hN1.less (by omega)).more (k := 2) ((put1_or HN.out.m.rg hI).2 ha)
        have HN3 := Lib.hid hN3
        clear hN1 hN3
        go_wp2_with fail
        go_region
        go_wp2_with fail
        exact ⟨⟨3, _, by omega, rfl, HN3.out.draw⟩, by simp [intOf]⟩
    · have hx : ∀ w : World, (Instr.index 31 (.agg #[.int .u64 s.s0, .int .u64 s.s1, .int .u64 s.s2, .int .u64 s.s3]) (.int .i64 3)).run Try.prog w = .ok (.int .u64 (s.word 3)) w := fun w => hix w (by omega)
      clear hix
      have hI := HW.out 3
      have hw1 := (or_word (HN.out.m.rg 3) hI).1
      have hN1 := HN.out.store 3 7 rfl (by omega) (bits .or .u64 (a' 3) (s.word 3)) hw1 (put1_or HN.out.m.rg hI).1
      by_cases ha : s.act = 0
      · have hN2 := hN1.store 3 7 rfl (by omega) 18446744073709551615 (by constructor <;> decide) (put1_ones s hN1.m.rg).1
        have hN3 := (hN2.less (by omega)).more (k := 3) (put1_ones s hN1.m.rg).2
        have HN3 := Lib.hid hN3
        clear hN1 hN2 hN3
        go_wp2_with fail
        go_region
        go_wp2_with fail
        exact ⟨⟨4, _, by omega, rfl, HN3.out.draw⟩, by simp [intOf]⟩
      · have ha' : (s.act == 0) = false := by simpa using ha
        have hN3 := (hN1.less (by omega)).more (k := 3) ((put1_or HN.out.m.rg hI).2 ha)
        have HN3 := Lib.hid hN3
        clear hN1 hN3
        go_wp2_with fail
        go_region
        go_wp2_with fail
        exact ⟨⟨4, _, by omega, rfl, HN3.out.draw⟩, by simp [intOf]⟩
    · clear hix
      go_wp2_with fail
      go_returns
      exact ⟨rfl, a', HN.out⟩
end Go.Proofs.Ytmnghdccikoaoaa.Mt
