/-
  Package match: a matcher notes the bytes with which something begins (findStarts).
-/
import Derived.Test.YtmnghdccikoaoaaMtT
import Derived.Test.YtmnghdccikoaoaaMtY
import Derived.Test.YtmnghdccikoaoaaMtQ
namespace Go.Proofs.Ytmnghdccikoaoaa.Mt
open Go.RowKit Go.Proofs.Ytmnghdccikoaoaa.Sh

theorem enter_of {P : Program} {f : FuncId} {fn : Func} {c : Code} (hf : P.funcs[f]? = some fn) (hname : (fn.name == "runtime.NumGoroutine") = false) (hb : fn.body = some c) (args : Array Value) (w : World) : (callFunc f args).run P w = .ok (.enter f args) w := by
  have h1 : fn.name ≠ "runtime.NumGoroutine" := by simpa using hname
  simp [callFunc, hf, h1, hb]

/- What the closure has noted of the states that it was handed. -/
def NoteJ (cb mb gs cap : Nat) (sts : List St) (size first : Int) : PutJ := fun ps w S => (∀ k, S k ↔ k = mb) ∧ ∃ a, Mst w cb mb gs cap sts size first a ∧ ∀ q ∈ ps, ∀ s, sts[q]? = some s → ∀ k, k < 4 → CovAt a s k
theorem note_ok {cb mb gs cap : Nat} {sts : List St} {size first : Int} (B : Nat) (hw : Words sts) (hcap : sts.length ≤ cap) :
    PutOk 54 #[.pointer (some ⟨cb, 0, none⟩)] sts B (fun k => k = cb ∨ k = gs) (NoteJ cb mb gs cap sts size first) where
  enters := fun args w => enter_of Try.func54 (by kernel_rfl) rfl args w
  lt := fun ps w S ⟨h1, a, h2, _⟩ k hk => by rw [(h1 k).mp hk]; exact h2.ne.2.2.2.1
  stable := fun ps w w' S ⟨h1, a, h2, h3⟩ hs hk => ⟨h1, a, h2.keep hs.size fun k e => hk k (by
    rcases e with e | e | e
    · exact .inr (.inl e)
    · exact .inl ((h1 k).mpr e)
    · exact .inr (.inr e)), h3⟩
  put := fun ps w S q s ⟨h1, a, h2, h3⟩ hs ha hB _ => (starts1 q hs (hw q s hs) h2 hcap).mono fun e w' ⟨he, a', hn⟩ => ⟨he, S, ⟨h1, a', hn.m, fun q' hq' s' hs' k hk => by
    rcases List.mem_append.mp hq' with e | e
    · exact (h3 q' e s' hs' k hk).le hk hn.le
    · simp at e
      subst e
      rw [hs] at hs'
      cases hs'
      exact hn.cov k hk⟩, hn.same, fun k hk hS => hn.fr k hk fun e => hS ((h1 k).mpr e), fun k hk => .inl hk⟩

/- Where a matcher lies while it is made. -/
structure Pre (w : World) (mb gs cap : Nat) (sts : List St) (size first : Int) (a : Nat → Int) : Prop where
  c0 : w.cell? ⟨mb, 0, none⟩ = some (.pointer (some ⟨mb, 0, none⟩))
  c1 : w.cell? ⟨mb, 1, none⟩ = some (.int .i64 size)
  c2 : w.cell? ⟨mb, 2, none⟩ = some (.slice (some ⟨gs, 0, none⟩) sts.length cap)
  c3 : w.cell? ⟨mb, 3, none⟩ = some (.int .i64 first)
  c4 : w.cell? ⟨mb, 4, none⟩ = some (.int .u64 (a 0))
  c5 : w.cell? ⟨mb, 5, none⟩ = some (.int .u64 (a 1))
  c6 : w.cell? ⟨mb, 6, none⟩ = some (.int .u64 (a 2))
  c7 : w.cell? ⟨mb, 7, none⟩ = some (.int .u64 (a 3))
  fz : ∀ j : Nat, w.frozen? ⟨mb, j, none⟩ = false
  st : ∀ (q : Nat) (s : St), sts[q]? = some s → ∀ (j : Nat) (u : Value), s.cells[j]? = some u → w.cell? ⟨gs, q * 7 + j, none⟩ = some u
  rg : ∀ k, InWord (a k)
  ne : gs ≠ mb ∧ mb < w.heap.size ∧ gs < w.heap.size
variable {w : World} {mb gs cap : Nat} {sts : List St} {size first : Int} {a : Nat → Int}
theorem Pre.mst (h : Pre w mb gs cap sts size first a) {w' : World} {cb : Nat} (hb : Below w.heap.size w w') (hc : w'.cell? ⟨cb, 0, none⟩ = some (.pointer (some ⟨mb, 0, none⟩))) (hn : cb ≠ mb) : Mst w' cb mb gs cap sts size first a := by
  have c : ∀ j : Nat, w'.cell? ⟨mb, j, none⟩ = w.cell? ⟨mb, j, none⟩ := fun j => hb.cell (p := ⟨mb, j, none⟩) h.ne.2.1
  exact ⟨hc, (c 0).trans h.c0, (c 1).trans h.c1, (c 2).trans h.c2, (c 3).trans h.c3, (c 4).trans h.c4, (c 5).trans h.c5, (c 6).trans h.c6, (c 7).trans h.c7, fun j => (hb.frozen (p := ⟨mb, j, none⟩) h.ne.2.1).trans (h.fz j),
    fun q s hq j u hu => (hb.cell (p := ⟨gs, q * 7 + j, none⟩) h.ne.2.2).trans (h.st q s hq j u hu), h.rg, ⟨hn, h.ne.1, cell_lt hc, Nat.lt_of_lt_of_le h.ne.2.1 hb.size, Nat.lt_of_lt_of_le h.ne.2.2 hb.size⟩⟩
theorem Mst.mat {cb : Nat} (h : Mst w cb mb gs cap sts size first a) : Mat w mb gs cap sts size first (a 0) (a 1) (a 2) (a 3) :=
  ⟨h.c0, h.c1, h.c2, h.c3, h.c4, h.c5, h.c6, h.c7, h.st, h.rg 0, h.rg 1, h.rg 2, h.rg 3⟩

/- A walk by a new walker. -/
theorem mid_new {J : PutJ} {N : Nat → Prop} {pf : FuncId} {caps : Array Value} {W1 w2 : World} {S0 : Nat → Prop} (hw2 : w2 = (W1.alloc (.cells (madeCells #[.int .i64 0] sts.length) 3)).alloc (.cells #[.slice (some ⟨gs, 0, none⟩) sts.length cap, .slice (some ⟨W1.heap.size, 0, none⟩) sts.length sts.length, .slice none 0 0, .func (.func pf) #[] caps] 119))
    (hgs : gs < W1.heap.size) (hst : ∀ (q : Nat) (s : St), sts[q]? = some s → ∀ (j : Nat) (u : Value), s.cells[j]? = some u → W1.cell? ⟨gs, q * 7 + j, none⟩ = some u) (hN : ∀ k, N k → k < W1.heap.size) (hS : ∀ k, S0 k → k < W1.heap.size ∧ k ≠ gs) (hj : J [] w2 S0) {f : Nat} (hf : f < sts.length) :
    Mid J N (W1.heap.size + 2) (W1.heap.size + 1) gs W1.heap.size cap (.func (.func pf) #[] caps) sts w2 (.slice none 0 0) S0 w2 { i := f, op := [], seen := List.replicate sts.length 0, ps := [] } (.slice none 0 0) S0 := by
  subst hw2
  refine ⟨new_wk hgs hst, hf, fun x hx => by simp at hx, hj, ⟨fun h => ?_, fun h => ?_, fun h => ?_, fun k hk => by simp [Value.ownBlock] at hk⟩, fun k hk => ?_, Same.refl _, fun _ _ _ _ _ _ => rfl, .inl rfl, fun k hk => .inl hk⟩
  · have := (hS _ h).1; omega
  · have := (hS _ h).1; omega
  · exact (hS _ h).2 rfl
  · have := hN k hk; omega
theorem fs_mid (h : Pre w mb gs cap sts size first a) {w2 : World} (hw2 : w2 = ((w.alloc (.cells #[.pointer (some ⟨mb, 0, none⟩)] 24)).alloc (.cells (madeCells #[.int .i64 0] sts.length) 3)).alloc (.cells #[.slice (some ⟨gs, 0, none⟩) sts.length cap, .slice (some ⟨(w.alloc (.cells #[.pointer (some ⟨mb, 0, none⟩)] 24)).heap.size, 0, none⟩) sts.length sts.length, .slice none 0 0, .func (.func 54) #[] #[.pointer (some ⟨w.heap.size, 0, none⟩)]] 119))
    (b0 : w2.cell? ⟨w.heap.size, 0, none⟩ = some (.pointer (some ⟨mb, 0, none⟩))) {f : Nat} (hf : f < sts.length) :
    Mid (NoteJ w.heap.size mb gs cap sts size first) (fun k => k = w.heap.size ∨ k = gs) (w.heap.size + 1 + 2) (w.heap.size + 1 + 1) gs (w.heap.size + 1) cap (.func (.func 54) #[] #[.pointer (some ⟨w.heap.size, 0, none⟩)]) sts w2 (.slice none 0 0) (fun k => k = mb) w2 { i := f, op := [], seen := List.replicate sts.length 0, ps := [] } (.slice none 0 0) (fun k => k = mb) := by
  have hs : (w.alloc (.cells #[.pointer (some ⟨mb, 0, none⟩)] 24)).heap.size = w.heap.size + 1 := alloc_size _ _
  have h1 := h.ne
  have hb1 : Below w.heap.size w (w.alloc (.cells #[.pointer (some ⟨mb, 0, none⟩)] 24)) := (Below.refl _ _).alloc (Nat.le_refl _) _
  have hbl : Below w.heap.size w w2 := by
    rw [hw2]
    exact (hb1.alloc (two_size (Nat.le_refl _)) _).alloc (Nat.le_trans (two_size (Nat.le_refl _)) (two_size (Nat.le_refl _))) _
  have hm := mid_new (J := NoteJ w.heap.size mb gs cap sts size first) (N := fun k => k = w.heap.size ∨ k = gs) (S0 := fun k => k = mb) hw2 (by omega) (fun q s hq j u hu => (hb1.cell (p := ⟨gs, q * 7 + j, none⟩) h1.2.2).trans (h.st q s hq j u hu)) (fun k hk => by rcases hk with rfl | rfl <;> omega) (fun k hk => by subst hk; exact ⟨by omega, fun e => h1.1 e.symm⟩) ⟨fun k => Iff.rfl, a, h.mst hbl b0 (by omega), fun q hq => by simp at hq⟩ hf
  rw [hs] at hm
  exact hm
set_option maxHeartbeats 1000000 in
set_option maxRecDepth 100000 in
theorem findStarts (h : Pre w mb gs cap sts size first a) (hw : Words sts) (hcl : Closed sts) (hcap : sts.length ≤ cap) (hlen : sts.length ≤ 100000) {f : Nat} (hf : first = (f : Int)) (hf2 : f < sts.length) :
    Calls Try.prog 37 #[.pointer (some ⟨mb, 0, none⟩)] w fun e w' => e = .returned (.tuple #[]) ∧ ∃ a' cF, Mat w' mb gs cap sts size first (a' 0) (a' 1) (a' 2) (a' 3) ∧ Same w w' ∧ (∀ k, k < w.heap.size → k ≠ mb → w'.heap[k]? = w.heap[k]?) ∧
      Ended sts 1 2 { i := f, op := [], seen := List.replicate sts.length 0, ps := [] } cF ∧ ∀ q ∈ cF.ps, ∀ s, sts[q]? = some s → ∀ k, k < 4 → CovAt a' s k := by
  subst hf
  have k2 := h.c2
  have k3 := h.c3
  have z1 : mb < w.heap.size := h.ne.2.1
  have H := Lib.hid h
  have HW := Lib.hid hw
  have HC := Lib.hid hcl
  clear h hw hcl
  go_enter Try.func37, Try.ntmps37
  go_wp2_with (first
    | (go_at_call 53; refine (newWalker _ _ _ _ _ _ hlen).mono ?_; rintro e w2 ⟨rfl, hw2⟩; have hbl : Below w.heap.size w w2 := (by rw [hw2]; exact (((Below.refl _ _).alloc (Nat.le_refl _) _).alloc (two_size (Nat.le_refl _)) _).alloc (Nat.le_trans (two_size (Nat.le_refl _)) (two_size (Nat.le_refl _))) _); have hbb : Below (w.alloc (.cells #[.pointer (some ⟨mb, 0, none⟩)] 24)).heap.size (w.alloc (.cells #[.pointer (some ⟨mb, 0, none⟩)] 24)) w2 := (by rw [hw2]; exact ((Below.refl _ _).alloc (Nat.le_refl _) _).alloc (two_size (Nat.le_refl _)) _); have b0 : w2.cell? ⟨w.heap.size, 0, none⟩ = some (.pointer (some ⟨mb, 0, none⟩)) := (hbb.cell (p := ⟨w.heap.size, 0, none⟩) (by rw [alloc_size]; exact Nat.lt_succ_self _)).trans (by rw [World.cell?_alloc_at _ _ _ _ rfl]; rfl); have b3 := (hbl.cell (p := ⟨mb, 3, none⟩) z1).trans k3; have HB := Lib.hid (⟨hw2, hbl⟩ : _ ∧ _); clear hw2 hbl hbb)
    | (go_at_call 55; refine (walk (note_ok _ HW.out hcap) HC.out 1 2 (by omega) (by omega) w2 { i := f, op := [], seen := List.replicate sts.length 0, ps := [] } (.slice none 0 0) (fun k => k = mb) (fs_mid H.out HB.out.1 b0 hf2) hlen rfl rfl).mono ?_; rintro e w3 ⟨rfl, cF, ov, S, hE, hM⟩; have HE := Lib.hid (⟨hE, hM⟩ : _ ∧ _); clear hE hM))
  go_returns
  obtain ⟨hE, hM⟩ := HE.out
  obtain ⟨h1, a', h2, h3⟩ := hM.j
  have hs2 : Same w w2 := ⟨HB.out.2.os, HB.out.2.tape, HB.out.2.output, HB.out.2.size⟩
  refine ⟨rfl, a', cF, h2.mat, hs2.trans hM.same, fun k hk hne => (hM.fr k (Nat.lt_of_lt_of_le hk HB.out.2.size) ?_ ?_ (by simp [Value.ownBlock]) hne).trans (HB.out.2.block k hk), hE, h3⟩
  · omega
  · omega
end Go.Proofs.Ytmnghdccikoaoaa.Mt
