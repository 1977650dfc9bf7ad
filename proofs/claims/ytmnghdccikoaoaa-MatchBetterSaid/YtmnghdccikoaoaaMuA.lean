/-
  Package match: a matcher of a tree (New).
-/
import Derived.Test.YtmnghdccikoaoaaMtU
import Derived.Test.YtmnghdccikoaoaaMtV
import Derived.Test.YtmnghdccikoaoaaMtI
import Derived.RegionCalls
namespace Go.Proofs.Ytmnghdccikoaoaa.Mt
open Go.RowKit Go.Proofs.Ytmnghdccikoaoaa.Sh

def goalS : St := ⟨0, 0, 0, 0, 0, 0, 0⟩
def stsOf (r : Re) : List St := (lay 200 r 0 [goalS]).1
def firstOf (r : Re) : Int := (lay 200 r 0 [goalS]).2
theorem goal_ok : OkS [goalS] := by
  intro q s hs
  cases q with
  | succ q => simp at hs
  | zero =>
    simp at hs
    subst hs
    refine ⟨⟨by decide, by decide⟩, ⟨by decide, by decide⟩, fun k => ?_, fun _ => rfl⟩
    simp only [St.word, goalS]
    repeat' split
    all_goals exact zero_word
/- What holds of a right tree's states. -/
structure Fit (r : Re) : Prop where
  right : rightB r = true
  size : sizeI r ≤ 20000
  words : WordsR 200 r
theorem Fit.sts {r : Re} (h : Fit r) : OkS (stsOf r) ∧ AtS (firstOf r) (stsOf r) ∧ (stsOf r).length ≤ 40000 := by
  have h1 := fine_tree 200 r 10000 h.right h.size h.words
  obtain ⟨a, b, d⟩ := h1.go 0 [goalS] goal_ok ⟨by decide, by decide⟩
  refine ⟨a, b, ?_⟩
  have := h.size
  have : cnt r ≤ 39999 := by unfold cnt; omega
  simp only [List.length_cons, List.length_nil] at d
  show (lay 200 r 0 [goalS]).1.length ≤ _
  omega

theorem Fit.first {r : Re} (h : Fit r) : (lay 200 r 0 [goalS]).2 = ((firstOf r).toNat : Int) := by
  have := h.sts.2.1.1
  show firstOf r = _
  omega
theorem Fit.first_lt {r : Re} (h : Fit r) : (firstOf r).toNat < (lay 200 r 0 [goalS]).1.length := by
  have h1 := h.sts.2.1.1
  have h2 := h.sts.2.1.2
  show _ < (stsOf r).length
  omega
theorem flat_get : ∀ (sts : List St) (q j : Nat) (s : St) (u : Value), sts[q]? = some s → s.cells[j]? = some u → (flat sts)[q * 7 + j]? = some u
  | x :: l, 0, j, s, u, hs, hu => by
    simp at hs
    subst hs
    have hj : j < x.cells.length := (List.getElem?_eq_some_iff.mp hu).1
    simp only [flat, Nat.zero_mul, Nat.zero_add]
    rw [List.getElem?_append_left hj]
    exact hu
  | x :: l, q + 1, j, s, u, hs, hu => by
    have e : (q + 1) * 7 + j = x.cells.length + (q * 7 + j) := by simp [St.cells]; omega
    simp only [flat]
    rw [e, List.getElem?_append_right (by omega)]
    rw [Nat.add_sub_cancel_left]
    exact flat_get l q j s u (by simpa using hs) hu
theorem Bld.states {w : World} {B pb : Nat} {v : Value} {sts : List St} (h : Bld w B pb v sts) (hn : sts ≠ []) : ∃ g cap, v = .slice (some ⟨g, 0, none⟩) sts.length cap ∧ sts.length ≤ cap ∧ B ≤ g ∧ g < w.heap.size ∧
    ∀ (q : Nat) (s : St), sts[q]? = some s → ∀ (j : Nat) (u : Value), s.cells[j]? = some u → w.cell? ⟨g, q * 7 + j, none⟩ = some u := by
  have hrow := h.row
  rcases h.row.2 with ⟨_, h2⟩ | ⟨g, cap, cur, h1, h2, h3, h4, _⟩
  · exact absurd (List.eq_nil_of_length_eq_zero h2) hn
  · refine ⟨g, cap, h1, by omega, h2, (hrow.lt g (by rw [h1]; rfl)).2, fun q s hs j u hu => ?_⟩
    rw [h1] at hrow
    have hq : q < sts.length := (List.getElem?_eq_some_iff.mp hs).1
    have hj : j < 7 := by
      have := (List.getElem?_eq_some_iff.mp hu).1
      simpa [St.cells] using this
    rw [hrow.cellAt (q * 7 + j) (by omega)]
    exact flat_get sts q j s u hs hu

/- A matcher that New has made of a tree. -/
structure Made (w : World) (mb gs cap : Nat) (r : Re) (a : Nat → Int) : Prop where
  mat : Mat w mb gs cap (stsOf r) (sizeI r) (firstOf r) (a 0) (a 1) (a 2) (a 3)
  lt : mb < w.heap.size ∧ gs < w.heap.size ∧ gs ≠ mb
  cov : ∀ q s, Reach (stsOf r) 1 2 (firstOf r).toNat q → (stsOf r)[q]? = some s → (s.act = 1 ∨ s.act = 0) → ∀ k, k < 4 → CovAt a s k
theorem Made.keep {w w' : World} {mb gs cap : Nat} {r : Re} {a : Nat → Int} (h : Made w mb gs cap r a) (hs : w.heap.size ≤ w'.heap.size) (e : ∀ k, k = mb ∨ k = gs → w'.heap[k]? = w.heap[k]?) : Made w' mb gs cap r a :=
  ⟨h.mat.same e, ⟨Nat.lt_of_lt_of_le h.lt.1 hs, Nat.lt_of_lt_of_le h.lt.2.1 hs, h.lt.2.2⟩, h.cov⟩
theorem Made.below {w w' : World} {mb gs cap : Nat} {r : Re} {a : Nat → Int} (h : Made w mb gs cap r a) (hb : Below w.heap.size w w') : Made w' mb gs cap r a :=
  h.keep hb.size fun k hk => hb.block k (by rcases hk with rfl | rfl; exact h.lt.1; exact h.lt.2.1)
theorem unmarked (n : Nat) (p : Int) (hp : p + 1 ≠ 0) (q : Nat) : ¬ marked p (List.replicate n 0) q := by
  intro h
  unfold marked at h
  rw [List.getElem?_replicate] at h
  split at h
  · simp only [Option.some.injEq] at h; omega
  · cases h
/- What a walk by a new walker hands on: all that is reached. -/
theorem fresh_ps {sts : List St} {p len : Int} {f : Nat} {cF : Cfg} (hp : p + 1 ≠ 0) (h : Ended sts p len { i := f, op := [], seen := List.replicate sts.length 0, ps := [] } cF) (q : Nat) (hq : Reach sts p len f q) (hput : puts sts q) : q ∈ cF.ps := by
  obtain ⟨c1, h1, h2, h3⟩ := h
  obtain ⟨hi, hm, hc⟩ := inv_ended (by simp) rfl h1 h2 h3
  have hmk : ∀ q, Reach sts p len f q → marked p cF.seen q := fun q hq => by
    induction hq with
    | refl => exact hm
    | tail b c hb h2 ih => exact hc b c ih (unmarked _ p hp b) h2
  obtain ⟨new, e, _, hn⟩ := hi.ps
  rw [e]
  simp only [List.nil_append]
  exact (hn q).mpr ⟨hmk q hq, unmarked _ p hp q, hput⟩

theorem boxed_at {w w2 : World} {cs : Array Value} {t : TypeId} (hb : Below (w.alloc (.cells cs t)).heap.size (w.alloc (.cells cs t)) w2) (j : Nat) (u : Value) (hu : cs[j]? = some u) : w2.cell? ⟨w.heap.size, j, none⟩ = some u :=
  (hb.cell (p := ⟨w.heap.size, j, none⟩) (by rw [alloc_size]; exact Nat.lt_succ_self _)).trans (by rw [World.cell?_alloc_at _ _ _ _ rfl]; exact hu)
/- The cells of a matcher that is being made. -/
def cellsM (v : Value) (size first : Int) : Array Value := #[.pointer none, .int .i64 size, v, .int .i64 first, .int .u64 0, .int .u64 0, .int .u64 0, .int .u64 0]

theorem new_below {W0 w3 w4 w5 : World} {v v5 : Value} {sts : List St} (h3 : Below W0.heap.size W0 w3) (h4 : Below w3.heap.size w3 w4) (hb : Bld w4 w3.heap.size w3.heap.size v sts) (hg : Grew w3.heap.size w4 v w5 v5) : Below W0.heap.size W0 w5 :=
  h3.trans ((h4.mono h3.size).trans (hg.below hb h3.size (Nat.le_trans h3.size h4.size)))
theorem new_len {r : Re} (h : Fit r) : (lay 200 r 0 [goalS]).1.length ≤ 100000 := by have := h.sts.2.2; show (stsOf r).length ≤ _; omega
theorem new_ne (r : Re) : (lay 200 r 0 [goalS]).1 ≠ [] := fun e => by
  have := lay_adds 200 r 0 [goalS]
  rw [e] at this
  simp at this
theorem OkS.words {sts : List St} (h : OkS sts) : Words sts := fun q s hs => (h q s hs).2.2.1
theorem OkS.closed {sts : List St} (h : OkS sts) : Closed sts := fun q s hs => let ⟨a, b, _, _⟩ := h q s hs; ⟨a.1, a.2, b.1, b.2⟩
theorem new_pre {w6 : World} {gs cap : Nat} {sts : List St} {size first : Int} (hg : gs < w6.heap.size) (hst : ∀ (q : Nat) (s : St), sts[q]? = some s → ∀ (j : Nat) (u : Value), s.cells[j]? = some u → w6.cell? ⟨gs, q * 7 + j, none⟩ = some u) :
    Pre (w6.alloc (.cells #[.pointer (some ⟨w6.heap.size, 0, none⟩), .int .i64 size, .slice (some ⟨gs, 0, none⟩) sts.length cap, .int .i64 first, .int .u64 0, .int .u64 0, .int .u64 0, .int .u64 0] 50)) w6.heap.size gs cap sts size first (fun _ => 0) := by
  have hb : Below w6.heap.size w6 (w6.alloc (.cells #[.pointer (some ⟨w6.heap.size, 0, none⟩), .int .i64 size, .slice (some ⟨gs, 0, none⟩) sts.length cap, .int .i64 first, .int .u64 0, .int .u64 0, .int .u64 0, .int .u64 0] 50)) := (Below.refl _ _).alloc (Nat.le_refl _) _
  have c := fun (j : Nat) (u : Value) (hu : (#[Value.pointer (some ⟨w6.heap.size, 0, none⟩), .int .i64 size, .slice (some ⟨gs, 0, none⟩) sts.length cap, .int .i64 first, .int .u64 0, .int .u64 0, .int .u64 0, .int .u64 0] : Array Value)[j]? = some u) => boxed_at (Below.refl (w6.alloc (.cells #[.pointer (some ⟨w6.heap.size, 0, none⟩), .int .i64 size, .slice (some ⟨gs, 0, none⟩) sts.length cap, .int .i64 first, .int .u64 0, .int .u64 0, .int .u64 0, .int .u64 0] 50)).heap.size (w6.alloc (.cells #[.pointer (some ⟨w6.heap.size, 0, none⟩), .int .i64 size, .slice (some ⟨gs, 0, none⟩) sts.length cap, .int .i64 first, .int .u64 0, .int .u64 0, .int .u64 0, .int .u64 0] 50))) j u hu
  refine ⟨c 0 _ rfl, c 1 _ rfl, c 2 _ rfl, c 3 _ rfl, c 4 _ rfl, c 5 _ rfl, c 6 _ rfl, c 7 _ rfl, fun j => World.frozen?_alloc_at _ _ _ _ rfl, fun q s hq j u hu => (hb.cell (p := ⟨gs, q * 7 + j, none⟩) hg).trans (hst q s hq j u hu), fun _ => zero_word, ⟨by omega, ?_, ?_⟩⟩
  · rw [alloc_size]; omega
  · rw [alloc_size]; omega
theorem new_far {w3 w4 w5 w6 : World} {v v5 v6 : Value} {sts sts5 : List St} (h4 : Below w3.heap.size w3 w4) (hb4 : Bld w4 w3.heap.size w3.heap.size v sts) (hg5 : Grew w3.heap.size w4 v w5 v5) (hb5 : Bld w5 w3.heap.size w3.heap.size v5 sts5) (hg6 : Grew w3.heap.size w5 v5 w6 v6) : Below w3.heap.size w3 w6 :=
  (h4.trans (hg5.below hb4 (Nat.le_refl _) h4.size)).trans (hg6.below hb5 (Nat.le_refl _) (Nat.le_trans h4.size hg5.size))
theorem new_end {r : Re} {w w3 w6 w8 : World} {gs cap : Nat} {o : Obj} {a8 : Nat → Int} {cF : Cfg} (h3 : w.heap.size ≤ w3.heap.size) (hg1 : w3.heap.size ≤ gs) (hg2 : gs < w6.heap.size) (h36 : Below w3.heap.size w3 w6) (h03 : Below w.heap.size w w3) (hf : Fit r)
    (h8 : Mat w8 w6.heap.size gs cap (lay 200 r 0 [goalS]).1 (sizeI r) (lay 200 r 0 [goalS]).2 (a8 0) (a8 1) (a8 2) (a8 3) ∧ Same (w6.alloc o) w8 ∧ (∀ k, k < (w6.alloc o).heap.size → k ≠ w6.heap.size → w8.heap[k]? = (w6.alloc o).heap[k]?) ∧
      Ended (lay 200 r 0 [goalS]).1 1 2 { i := (firstOf r).toNat, op := [], seen := List.replicate (lay 200 r 0 [goalS]).1.length 0, ps := [] } cF ∧ ∀ q ∈ cF.ps, ∀ s, (lay 200 r 0 [goalS]).1[q]? = some s → ∀ k, k < 4 → CovAt a8 s k) :
    ∃ mb gs cap a, Ending.returned (Value.tuple #[.pointer (some ⟨w6.heap.size, 0, none⟩), .int .i64 0]) = .returned (.tuple #[.pointer (some ⟨mb, 0, none⟩), .int .i64 0]) ∧ w.heap.size ≤ mb ∧ w.heap.size ≤ gs ∧ Made w8 mb gs cap r a ∧ Below w.heap.size w w8 := by
  obtain ⟨hm, hs, hk, hE, hc⟩ := h8
  have hsz : (w6.alloc o).heap.size = w6.heap.size + 1 := alloc_size _ _
  have h8s := hs.size
  rw [hsz] at h8s
  have h6 := h36.size
  refine ⟨w6.heap.size, gs, cap, a8, rfl, by omega, by omega, ⟨hm, ⟨by omega, by omega, by omega⟩, fun q s hq hs2 ha k hk2 => ?_⟩, ?_⟩
  · exact hc q (fresh_ps (by decide) hE q hq ⟨s, hs2, ha⟩) s hs2 k hk2
  · have hb1 : Below w.heap.size w w6 := h03.trans (h36.mono h3)
    have hb2 : Below w6.heap.size w6 (w6.alloc o) := (Below.refl _ _).alloc (Nat.le_refl _) _
    refine hb1.trans ⟨hs.os.trans hb2.os, hs.tape.trans hb2.tape, hs.output.trans hb2.output, by omega, fun k hk2 => ?_⟩
    have hk3 : k < w6.heap.size := by omega
    rw [hk k (by omega) (by omega)]
    exact hb2.block k hk3
set_option maxHeartbeats 1000000 in
set_option maxRecDepth 100000 in
theorem new {W0 : World} {r : Re} {cs : List Value} {w : World} (hf : Fit r) (hL : Lies W0 r cs) (hb : Below W0.heap.size W0 w) :
    Calls Try.prog 14 #[.agg ⟨cs⟩] w fun e w' => ∃ mb gs cap a, e = .returned (.tuple #[.pointer (some ⟨mb, 0, none⟩), .int .i64 0]) ∧ w.heap.size ≤ mb ∧ w.heap.size ≤ gs ∧ Made w' mb gs cap r a ∧ Below w.heap.size w w' := by
  obtain ⟨k, s0, s1, s2, s3, a, b, kids, sl, cap, hr, rfl, _, _⟩ := hL.open
  have HL := Lib.hid hL
  have HB := Lib.hid hb
  have HF := Lib.hid hf
  have hz : ¬ (20000 : Int) < sizeI r := by have := hf.size; omega
  have hr1 : rightB r = true := hf.right
  clear hL hb hf hr
  go_enter Try.func14, Try.ntmps14
  go_wp2_with (first
    | (go_at_call 33; refine (Right W0 r _ _ HL.out (HB.out.alloc HB.out.size _)).mono ?_; rintro e w2 ⟨rfl, hw2⟩; rw [hr1]; have H2 := Lib.hid hw2; clear hw2; have f0 := boxed_at H2.out 0 _ rfl; have f1 := boxed_at H2.out 1 _ rfl; have f2 := boxed_at H2.out 2 _ rfl; have f3 := boxed_at H2.out 3 _ rfl; have f4 := boxed_at H2.out 4 _ rfl; have f5 := boxed_at H2.out 5 _ rfl; have f6 := boxed_at H2.out 6 _ rfl; have f7 := boxed_at H2.out 7 _ rfl;  skip)
    | (go_at_call 34; refine (sizeOf W0 200 r _ 10000 w2 (by omega) (by omega) HF.out.right HL.out ((HB.out.alloc HB.out.size _).trans (H2.out.mono (two_size HB.out.size)))).mono ?_; rintro e w3 ⟨rfl, hw3⟩; have H3 := Lib.hid (H2.out.trans (hw3.mono H2.out.size)); clear hw3 f0 f1 f2 f3 f4 f5 f6 f7; have f0 := boxed_at H3.out 0 _ rfl; have f1 := boxed_at H3.out 1 _ rfl; have f2 := boxed_at H3.out 2 _ rfl; have f3 := boxed_at H3.out 3 _ rfl; have f4 := boxed_at H3.out 4 _ rfl; have f5 := boxed_at H3.out 5 _ rfl; have f6 := boxed_at H3.out 6 _ rfl; have f7 := boxed_at H3.out 7 _ rfl;  skip))
  have hbld : Bld (w3.alloc (.cells #[.slice none 0 0] 76)).drew w3.heap.size w3.heap.size (.slice none 0 0) [] := ⟨by show (w3.alloc _).cell? _ = _; rw [World.cell?_alloc_at _ _ _ _ rfl]; rfl, World.frozen?_alloc_at _ _ _ _ rfl, Nat.le_refl _, World.ownsRow_nil _ _ _ _, by simp [Value.ownBlock]⟩
  have h34 : Below w3.heap.size w3 (w3.alloc (.cells #[.slice none 0 0] 76)).drew := ((Below.refl _ _).alloc (Nat.le_refl _) _).drew
  have hW3 : Below W0.heap.size W0 w3 := (HB.out.alloc HB.out.size _).trans (H3.out.mono (two_size HB.out.size))
  have g0 := (h34.cell (cell_lt f0)).trans f0
  have g1 := (h34.cell (cell_lt f1)).trans f1
  have g2 := (h34.cell (cell_lt f2)).trans f2
  have g3 := (h34.cell (cell_lt f3)).trans f3
  have g4 := (h34.cell (cell_lt f4)).trans f4
  have g5 := (h34.cell (cell_lt f5)).trans f5
  have g6 := (h34.cell (cell_lt f6)).trans f6
  have g7 := (h34.cell (cell_lt f7)).trans f7
  have HW := Lib.hid (⟨hbld, h34, hW3⟩ : _ ∧ _ ∧ _)
  clear hbld h34 hW3
  go_region_with (first
    | (go_at_call 36; refine (add w3.heap.size w3.heap.size (.slice none 0 0) [] goalS _ HW.out.1 HW.out.2.1.size (by simp)).mono ?_; rintro e w5 ⟨rfl, v5, hb5, hg5⟩; have h5b : Below w3.heap.size w3 w5 := HW.out.2.1.trans (hg5.below HW.out.1 (Nat.le_refl _) HW.out.2.1.size); have k0 := (h5b.cell (cell_lt f0)).trans f0; have k1 := (h5b.cell (cell_lt f1)).trans f1; have k2 := (h5b.cell (cell_lt f2)).trans f2; have k3 := (h5b.cell (cell_lt f3)).trans f3; have k4 := (h5b.cell (cell_lt f4)).trans f4; have k5 := (h5b.cell (cell_lt f5)).trans f5; have k6 := (h5b.cell (cell_lt f6)).trans f6; have k7 := (h5b.cell (cell_lt f7)).trans f7;  have H5 := Lib.hid (⟨hb5, hg5⟩ : _ ∧ _); clear hb5 hg5 h5b)
    | (go_at_call 35; refine (treeOk W0 200 r _ 10000 w3.heap.size w3.heap.size v5 [goalS] 0 w5 (by omega) (by omega) HF.out.right HL.out (new_below HW.out.2.2 HW.out.2.1 HW.out.1 H5.out.2) HW.out.2.2.size (Nat.le_trans HW.out.2.1.size H5.out.2.size) H5.out.1 (new_len HF.out)).mono ?_; rintro e w6 ⟨rfl, v6, hb6, hg6⟩; obtain ⟨gs, cap6, rfl, hcap6, hgs1, hgs2, hst6⟩ := hb6.states (new_ne r); have a6 := hb6.at_; have H6 := Lib.hid (⟨hb6, hg6, hcap6, hgs1, hgs2, hst6⟩ : _ ∧ _ ∧ _ ∧ _ ∧ _ ∧ _); clear hb6 hg6 hcap6 hgs1 hgs2 hst6))
  all_goals go_wp2_with (go_at_call 37; go_loud (refine (findStarts (new_pre H6.out.2.2.2.2.1 H6.out.2.2.2.2.2) HF.out.sts.1.words HF.out.sts.1.closed H6.out.2.2.1 (new_len HF.out) (f := (firstOf r).toNat) HF.out.first HF.out.first_lt).mono ?_; rintro e w8 ⟨rfl, a8, cF, hm8, hs8, hf8, hE8, hc8⟩; have H8 := Lib.hid (⟨hm8, hs8, hf8, hE8, hc8⟩ : _ ∧ _ ∧ _ ∧ _ ∧ _); clear hm8 hs8 hf8 hE8 hc8))
  all_goals go_returns
  all_goals exact new_end (by have := H3.out.size; rw [alloc_size] at this; omega) H6.out.2.2.2.1 H6.out.2.2.2.2.1 (new_far HW.out.2.1 HW.out.1 H5.out.2 H5.out.1 H6.out.2.1) (((Below.refl _ _).alloc (Nat.le_refl _) _).trans (H3.out.mono (two_size (Nat.le_refl _)))) HF.out H8.out
set_option maxHeartbeats 1000000 in
set_option maxRecDepth 100000 in
theorem new_not {W0 : World} {r : Re} {cs : List Value} {w : World} (hr1 : rightB r = false) (hL : Lies W0 r cs) (hb : Below W0.heap.size W0 w) :
    Calls Try.prog 14 #[.agg ⟨cs⟩] w fun e w' => e = .returned (.tuple #[.pointer none, .int .i64 11]) ∧ Below w.heap.size w w' := by
  obtain ⟨k, s0, s1, s2, s3, a, b, kids, sl, cap, hr, rfl, _, _⟩ := hL.open
  have HL := Lib.hid hL
  have HB := Lib.hid hb
  clear hL hb hr
  go_enter Try.func14, Try.ntmps14
  go_wp2_with (go_at_call 33; refine (Right W0 r _ _ HL.out (HB.out.alloc HB.out.size _)).mono ?_; rintro e w2 ⟨rfl, hw2⟩; rw [hr1]; have H2 := Lib.hid hw2; clear hw2)
  go_returns
  exact ⟨rfl, ((Below.refl _ _).alloc (Nat.le_refl _) _).trans (H2.out.mono (two_size (Nat.le_refl _)))⟩
set_option maxHeartbeats 1000000 in
set_option maxRecDepth 100000 in
theorem new_long {W0 : World} {r : Re} {cs : List Value} {w : World} (hr1 : rightB r = true) (hz : 20000 < sizeI r) (hL : Lies W0 r cs) (hb : Below W0.heap.size W0 w) :
    Calls Try.prog 14 #[.agg ⟨cs⟩] w fun e w' => e = .returned (.tuple #[.pointer none, .int .i64 3]) ∧ Below w.heap.size w w' := by
  obtain ⟨k, s0, s1, s2, s3, a, b, kids, sl, cap, hr, rfl, _, _⟩ := hL.open
  have HL := Lib.hid hL
  have HB := Lib.hid hb
  clear hL hb hr
  go_enter Try.func14, Try.ntmps14
  go_wp2_with (first
    | (go_at_call 33; refine (Right W0 r _ _ HL.out (HB.out.alloc HB.out.size _)).mono ?_; rintro e w2 ⟨rfl, hw2⟩; rw [hr1]; have H2 := Lib.hid hw2; clear hw2; have f0 := boxed_at H2.out 0 _ rfl; have f1 := boxed_at H2.out 1 _ rfl; have f2 := boxed_at H2.out 2 _ rfl; have f3 := boxed_at H2.out 3 _ rfl; have f4 := boxed_at H2.out 4 _ rfl; have f5 := boxed_at H2.out 5 _ rfl; have f6 := boxed_at H2.out 6 _ rfl; have f7 := boxed_at H2.out 7 _ rfl;  skip)
    | (go_at_call 34; refine (sizeOf W0 200 r _ 10000 w2 (by omega) (by omega) hr1 HL.out ((HB.out.alloc HB.out.size _).trans (H2.out.mono (two_size HB.out.size)))).mono ?_; rintro e w3 ⟨rfl, hw3⟩; have H3 := Lib.hid (H2.out.trans (hw3.mono H2.out.size)); clear hw3))
  go_returns
  exact ⟨rfl, ((Below.refl _ _).alloc (Nat.le_refl _) _).trans (H3.out.mono (two_size (Nat.le_refl _)))⟩
end Go.Proofs.Ytmnghdccikoaoaa.Mt
