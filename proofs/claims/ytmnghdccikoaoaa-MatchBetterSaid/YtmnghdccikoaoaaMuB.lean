/-
  Package match: a search's memory; what it does with a state that it is handed (search$1).
-/
import Derived.Test.YtmnghdccikoaoaaMuA
namespace Go.Proofs.Ytmnghdccikoaoaa.Mt
open Go.RowKit Go.Proofs.Ytmnghdccikoaoaa.Sh

/- What has been found, and what is being taken. -/
structure LS where
  L : List (Nat × Nat)
  at_ : Int
  n : Int
  found : Bool
def put1s (sts : List St) (start here : Nat) (x : LS) (q : Nat) : LS :=
  match sts[q]? with
  | some s => if s.act = 1 then { x with L := x.L ++ [(q, start)] } else { L := x.L, at_ := (start : Int), n := (here : Int) - (start : Int), found := true }
  | none => x
def flatT : List (Nat × Nat) → List Value
  | [] => []
  | t :: l => .int .i64 (t.1 : Int) :: .int .i64 (t.2 : Int) :: flatT l
theorem flatT_length : ∀ l, (flatT l).length = l.length * 2
  | [] => rfl
  | t :: l => by simp [flatT, flatT_length l]; omega
theorem flatT_append : ∀ l r, flatT (l ++ r) = flatT l ++ flatT r
  | [], r => rfl
  | t :: l, r => by simp [flatT, flatT_append l r]
theorem flatT_get : ∀ (l : List (Nat × Nat)) (i : Nat) (t : Nat × Nat), l[i]? = some t → (flatT l)[i * 2]? = some (.int .i64 (t.1 : Int)) ∧ (flatT l)[i * 2 + 1]? = some (.int .i64 (t.2 : Int))
  | x :: l, 0, t, h => by simp at h; subst h; exact ⟨rfl, rfl⟩
  | x :: l, i + 1, t, h => by
    have ih := flatT_get l i t (by simpa using h)
    have e : (i + 1) * 2 = i * 2 + 1 + 1 := by omega
    simp only [flatT, e, List.getElem?_cons_succ]
    exact ih

/- The blocks of a search: the boxes of m, list, start, here, at, n, found. -/
structure Bx where
  cm : Nat
  cl : Nat
  cs : Nat
  ch : Nat
  ca : Nat
  cn : Nat
  cf : Nat
structure Apart (x : Bx) (mb gs B : Nat) : Prop where
  l : x.cl ≠ x.cm ∧ x.cl ≠ x.cs ∧ x.cl ≠ x.ch ∧ x.cl ≠ x.ca ∧ x.cl ≠ x.cn ∧ x.cl ≠ x.cf ∧ x.cl ≠ mb ∧ x.cl ≠ gs
  a : x.ca ≠ x.cm ∧ x.ca ≠ x.cs ∧ x.ca ≠ x.ch ∧ x.ca ≠ x.cn ∧ x.ca ≠ x.cf ∧ x.ca ≠ mb ∧ x.ca ≠ gs
  n : x.cn ≠ x.cm ∧ x.cn ≠ x.cs ∧ x.cn ≠ x.ch ∧ x.cn ≠ x.cf ∧ x.cn ≠ mb ∧ x.cn ≠ gs
  f : x.cf ≠ x.cm ∧ x.cf ≠ x.cs ∧ x.cf ≠ x.ch ∧ x.cf ≠ mb ∧ x.cf ≠ gs
  s : x.cs ≠ x.cm ∧ x.cs ≠ x.ch ∧ x.cs ≠ mb ∧ x.cs ≠ gs
  h : x.ch ≠ x.cm ∧ x.ch ≠ mb ∧ x.ch ≠ gs
  lt : x.cm < B ∧ x.cl < B ∧ x.cs < B ∧ x.ch < B ∧ x.ca < B ∧ x.cn < B ∧ x.cf < B ∧ mb < B ∧ gs < B
structure SMem (w : World) (x : Bx) (mb gs cap B : Nat) (sts : List St) (size first a0 a1 a2 a3 : Int) (lv : Value) (X : LS) (start here : Nat) : Prop where
  m : w.cell? ⟨x.cm, 0, none⟩ = some (.pointer (some ⟨mb, 0, none⟩))
  mat : Mat w mb gs cap sts size first a0 a1 a2 a3
  l : w.cell? ⟨x.cl, 0, none⟩ = some lv
  s : w.cell? ⟨x.cs, 0, none⟩ = some (.int .i64 (start : Int))
  h : w.cell? ⟨x.ch, 0, none⟩ = some (.int .i64 (here : Int))
  a : w.cell? ⟨x.ca, 0, none⟩ = some (.int .i64 X.at_)
  n : w.cell? ⟨x.cn, 0, none⟩ = some (.int .i64 X.n)
  f : w.cell? ⟨x.cf, 0, none⟩ = some (.bool X.found)
  fz : w.frozen? ⟨x.cl, 0, none⟩ = false ∧ w.frozen? ⟨x.cs, 0, none⟩ = false ∧ w.frozen? ⟨x.ch, 0, none⟩ = false ∧ w.frozen? ⟨x.ca, 0, none⟩ = false ∧ w.frozen? ⟨x.cn, 0, none⟩ = false ∧ w.frozen? ⟨x.cf, 0, none⟩ = false
  row : w.ownsRow B 103 2 lv X.L.length (flatT X.L)
  ap : Apart x mb gs B
  le : B ≤ w.heap.size
/- The blocks that such a call may turn. -/
def Turns (x : Bx) (lv : Value) : Nat → Prop := fun k => k = x.cl ∨ k = x.ca ∨ k = x.cn ∨ k = x.cf ∨ lv.ownBlock = some k

variable {w w' : World} {x : Bx} {mb gs cap B : Nat} {sts : List St} {size first a0 a1 a2 a3 : Int} {lv : Value} {X : LS} {start here : Nat}
theorem SMem.keep (h : SMem w x mb gs cap B sts size first a0 a1 a2 a3 lv X start here) (hs : Same w w') (e : ∀ k, Turns x lv k ∨ k = x.cm ∨ k = mb ∨ k = gs ∨ k = x.cs ∨ k = x.ch → w'.heap[k]? = w.heap[k]?) : SMem w' x mb gs cap B sts size first a0 a1 a2 a3 lv X start here := by
  have c : ∀ k, (Turns x lv k ∨ k = x.cm ∨ k = mb ∨ k = gs ∨ k = x.cs ∨ k = x.ch) → w'.cell? ⟨k, 0, none⟩ = w.cell? ⟨k, 0, none⟩ := fun k hk => World.cell?_of_block (a := ⟨k, 0, none⟩) (e k hk)
  have z : ∀ k, (Turns x lv k ∨ k = x.cm ∨ k = mb ∨ k = gs ∨ k = x.cs ∨ k = x.ch) → w'.frozen? ⟨k, 0, none⟩ = w.frozen? ⟨k, 0, none⟩ := fun k hk => World.frozen?_of_block (a := ⟨k, 0, none⟩) (e k hk)
  have tl : Turns x lv x.cl := .inl rfl
  have ta : Turns x lv x.ca := .inr (.inl rfl)
  have tn : Turns x lv x.cn := .inr (.inr (.inl rfl))
  have tf : Turns x lv x.cf := .inr (.inr (.inr (.inl rfl)))
  refine ⟨(c _ (.inr (.inl rfl))).trans h.m, h.mat.same fun k hk => e k (by rcases hk with rfl | rfl; exact .inr (.inr (.inl rfl)); exact .inr (.inr (.inr (.inl rfl)))), (c _ (.inl tl)).trans h.l, (c _ (.inr (.inr (.inr (.inr (.inl rfl)))))).trans h.s, (c _ (.inr (.inr (.inr (.inr (.inr rfl)))))).trans h.h, (c _ (.inl ta)).trans h.a, (c _ (.inl tn)).trans h.n, (c _ (.inl tf)).trans h.f,
    ⟨(z _ (.inl tl)).trans h.fz.1, (z _ (.inr (.inr (.inr (.inr (.inl rfl)))))).trans h.fz.2.1, (z _ (.inr (.inr (.inr (.inr (.inr rfl)))))).trans h.fz.2.2.1, (z _ (.inl ta)).trans h.fz.2.2.2.1, (z _ (.inl tn)).trans h.fz.2.2.2.2.1, (z _ (.inl tf)).trans h.fz.2.2.2.2.2⟩, ?_, h.ap, Nat.le_trans h.le hs.size⟩
  obtain ⟨h1, h2⟩ := h.row
  refine ⟨h1, ?_⟩
  rcases h2 with h2 | ⟨g, c, cur, hv, h3, h4, h5⟩
  · exact .inl h2
  · exact .inr ⟨g, c, cur, hv, h3, (e g (.inl (.inr (.inr (.inr (.inr (by rw [hv]; rfl))))))).trans h4, h5⟩

/- What one call leaves. -/
structure Put (w w' : World) (x : Bx) (mb gs cap B : Nat) (sts : List St) (size first a0 a1 a2 a3 : Int) (lv lv' : Value) (X' : LS) (start here : Nat) : Prop where
  mem : SMem w' x mb gs cap B sts size first a0 a1 a2 a3 lv' X' start here
  same : Same w w'
  fr : ∀ k, k < w.heap.size → ¬ Turns x lv k → w'.heap[k]? = w.heap[k]?
  own : lv'.ownBlock = lv.ownBlock ∨ ∃ g, w.heap.size ≤ g ∧ lv'.ownBlock = some g

theorem thread_info : ∃ i z, Try.prog.info? 103 = some i ∧ i.zero = some z ∧ i.size = 2 ∧ i.bytes = 16 ∧ z.cells.size = 2 := by
  have h : (Try.prog.info? 103).map (fun i => (i.zero.map (·.cells.size), i.size, i.bytes)) = some (some 2, 2, 16) := by kernel_rfl
  cases hi : Try.prog.info? 103 with
  | none => rw [hi] at h; cases h
  | some i =>
    rw [hi] at h
    simp only [Option.map_some, Option.some.injEq, Prod.mk.injEq] at h
    cases hz : i.zero with
    | none => rw [hz] at h; cases h.1
    | some z => rw [hz] at h; exact ⟨i, z, rfl, hz, h.2.1, h.2.2, by simpa using h.1⟩
def args1 (x : Bx) : Array Value := #[.pointer (some ⟨x.cm, 0, none⟩), .pointer (some ⟨x.cl, 0, none⟩), .pointer (some ⟨x.cs, 0, none⟩), .pointer (some ⟨x.ch, 0, none⟩), .pointer (some ⟨x.ca, 0, none⟩), .pointer (some ⟨x.cn, 0, none⟩), .pointer (some ⟨x.cf, 0, none⟩)]

theorem two_one {a b : Int} : ∀ u ∈ [Value.int .i64 a, .int .i64 b], u.oneCell' = true := by
  intro u hu
  simp only [List.mem_cons, List.not_mem_nil, or_false] at hu
  rcases hu with rfl | rfl <;> rfl
theorem SMem.own_lt (h : SMem w x mb gs cap B sts size first a0 a1 a2 a3 lv X start here) {k : Nat} (hk : lv.ownBlock = some k) : B ≤ k ∧ k < w.heap.size := h.row.lt k hk
theorem SMem.far (h : SMem w x mb gs cap B sts size first a0 a1 a2 a3 lv X start here) {o : Obj} {w1 : World} (hg : (w.alloc o).grownBy w1 lv.ownBlock) : w1.cell? ⟨x.cl, 0, none⟩ = some lv ∧ w1.frozen? ⟨x.cl, 0, none⟩ = false := by
  have hl := h.ap.lt
  have hsz := h.le
  have e : w1.heap[x.cl]? = w.heap[x.cl]? := (hg.block x.cl (by rw [alloc_size]; omega) (fun e => by have := (h.own_lt e.symm).1; omega)).trans (((Below.refl _ w).alloc (Nat.le_refl _) o).block x.cl (by omega))
  exact ⟨(World.cell?_of_block (a := ⟨x.cl, 0, none⟩) e).trans h.l, (World.frozen?_of_block (a := ⟨x.cl, 0, none⟩) e).trans h.fz.1⟩
theorem put_take (h : SMem w x mb gs cap B sts size first a0 a1 a2 a3 lv X start here) {q g cap1 : Nat} {o : Obj} {w1 : World} (hown : w1.ownsRow B 103 2 (.slice (some ⟨g, 0, none⟩) (X.L.length + 1) cap1) (X.L.length + 1) (flatT X.L ++ [.int .i64 (q : Int), .int .i64 (start : Int)]))
    (hg : (w.alloc o).grownBy w1 lv.ownBlock) (hat : lv.ownBlock = some g ∨ g = (w.alloc o).heap.size) :
    Put w (w1.setCell ⟨x.cl, 0, none⟩ (.slice (some ⟨g, 0, none⟩) (X.L.length + 1) cap1)) x mb gs cap B sts size first a0 a1 a2 a3 lv (.slice (some ⟨g, 0, none⟩) (X.L.length + 1) cap1) { X with L := X.L ++ [(q, start)] } start here := by
  have hl := h.ap.lt
  have hsz := h.le
  have hb1 : Below w.heap.size w (w.alloc o) := (Below.refl _ _).alloc (Nat.le_refl _) _
  have hfar := h.far hg
  have e1 : ∀ k, k < w.heap.size → lv.ownBlock ≠ some k → w1.heap[k]? = w.heap[k]? := fun k hk hne => (hg.block k (by rw [alloc_size]; omega) (fun e => hne e.symm)).trans (hb1.block k hk)
  have e2 : ∀ k, k < w.heap.size → lv.ownBlock ≠ some k → k ≠ x.cl → (w1.setCell ⟨x.cl, 0, none⟩ (.slice (some ⟨g, 0, none⟩) (X.L.length + 1) cap1)).heap[k]? = w.heap[k]? := fun k hk hne hn => (heap_setCell_other w1 ⟨x.cl, 0, none⟩ k _ hn).trans (e1 k hk hne)
  have nl : ∀ k, k < B → lv.ownBlock ≠ some k := fun k hk e => by have := (h.own_lt e).1; omega
  have hs1 : w1.heap.size = (w1.setCell ⟨x.cl, 0, none⟩ (.slice (some ⟨g, 0, none⟩) (X.L.length + 1) cap1)).heap.size := (size_setCell _ _ _).symm
  have hgs := hg.size
  rw [alloc_size] at hgs
  have hsame : Same w (w1.setCell ⟨x.cl, 0, none⟩ (.slice (some ⟨g, 0, none⟩) (X.L.length + 1) cap1)) := ⟨hg.os.trans hb1.os, hg.tape.trans hb1.tape, hg.output.trans hb1.output, by rw [← hs1]; omega⟩
  have c : ∀ k, k < B → k ≠ x.cl → (w1.setCell ⟨x.cl, 0, none⟩ (.slice (some ⟨g, 0, none⟩) (X.L.length + 1) cap1)).cell? ⟨k, 0, none⟩ = w.cell? ⟨k, 0, none⟩ := fun k hk hn => World.cell?_of_block (a := ⟨k, 0, none⟩) (e2 k (by omega) (nl k hk) hn)
  have zf : ∀ k, k < B → k ≠ x.cl → (w1.setCell ⟨x.cl, 0, none⟩ (.slice (some ⟨g, 0, none⟩) (X.L.length + 1) cap1)).frozen? ⟨k, 0, none⟩ = w.frozen? ⟨k, 0, none⟩ := fun k hk hn => World.frozen?_of_block (a := ⟨k, 0, none⟩) (e2 k (by omega) (nl k hk) hn)
  refine ⟨⟨(c _ hl.1 h.ap.l.1.symm).trans h.m, h.mat.same fun k hk => ?_, World.cell?_setCell_same' w1 _ _ (by rw [hfar.1]; rfl), (c _ hl.2.2.1 h.ap.l.2.1.symm).trans h.s, (c _ hl.2.2.2.1 h.ap.l.2.2.1.symm).trans h.h, (c _ hl.2.2.2.2.1 h.ap.l.2.2.2.1.symm).trans h.a, (c _ hl.2.2.2.2.2.1 h.ap.l.2.2.2.2.1.symm).trans h.n, (c _ hl.2.2.2.2.2.2.1 h.ap.l.2.2.2.2.2.1.symm).trans h.f,
    ⟨(World.frozen?_setCell _ _ _ _).trans hfar.2, (zf _ hl.2.2.1 h.ap.l.2.1.symm).trans h.fz.2.1, (zf _ hl.2.2.2.1 h.ap.l.2.2.1.symm).trans h.fz.2.2.1, (zf _ hl.2.2.2.2.1 h.ap.l.2.2.2.1.symm).trans h.fz.2.2.2.1, (zf _ hl.2.2.2.2.2.1 h.ap.l.2.2.2.2.1.symm).trans h.fz.2.2.2.2.1, (zf _ hl.2.2.2.2.2.2.1 h.ap.l.2.2.2.2.2.1.symm).trans h.fz.2.2.2.2.2⟩, ?_, h.ap, by rw [← hs1]; omega⟩, hsame, fun k hk hT => ?_, ?_⟩
  · rcases hk with rfl | rfl
    · exact e2 _ (Nat.lt_of_lt_of_le hl.2.2.2.2.2.2.2.1 hsz) (nl _ hl.2.2.2.2.2.2.2.1) h.ap.l.2.2.2.2.2.2.1.symm
    · exact e2 _ (Nat.lt_of_lt_of_le hl.2.2.2.2.2.2.2.2 hsz) (nl _ hl.2.2.2.2.2.2.2.2) h.ap.l.2.2.2.2.2.2.2.symm
  · have e3 : flatT (X.L ++ [(q, start)]) = flatT X.L ++ [.int .i64 (q : Int), .int .i64 (start : Int)] := by rw [flatT_append]; rfl
    have e4 : (X.L ++ [(q, start)]).length = X.L.length + 1 := by simp
    show World.ownsRow _ B 103 2 _ (X.L ++ [(q, start)]).length (flatT (X.L ++ [(q, start)]))
    rw [e3, e4]
    refine hown.kept (row := some x.cl) ⟨rfl, rfl, rfl, Nat.le_of_eq hs1, fun k _ hk2 => heap_setCell_other w1 ⟨x.cl, 0, none⟩ k _ fun e => hk2 (by rw [e])⟩ (.inr fun e => ?_)
    have e5 : g = x.cl := by simpa [Value.ownBlock] using e
    rcases hat with q1 | q1
    · have := (h.own_lt q1).1; omega
    · rw [alloc_size] at q1; omega
  · exact e2 k hk (fun e => hT (.inr (.inr (.inr (.inr e))))) fun e => hT (.inl e)
  · rcases hat with q1 | q1
    · exact .inl q1.symm
    · exact .inr ⟨g, by rw [q1, alloc_size]; omega, rfl⟩
set_option maxHeartbeats 2000000 in
set_option maxRecDepth 100000 in
theorem search1_take (h : SMem w x mb gs cap B sts size first a0 a1 a2 a3 lv X start here) (q : Nat) (s : St) (hs : sts[q]? = some s) (ha : s.act = 1) (hL : X.L.length ≤ 1000000) :
    Calls Try.prog 57 #[.int .i64 (q : Int), .pointer (some ⟨x.cm, 0, none⟩), .pointer (some ⟨x.cl, 0, none⟩), .pointer (some ⟨x.cs, 0, none⟩), .pointer (some ⟨x.ch, 0, none⟩), .pointer (some ⟨x.ca, 0, none⟩), .pointer (some ⟨x.cn, 0, none⟩), .pointer (some ⟨x.cf, 0, none⟩)] w
      fun e w' => e = .returned (.tuple #[]) ∧ ∃ lv', Put w w' x mb gs cap B sts size first a0 a1 a2 a3 lv lv' { X with L := X.L ++ [(q, start)] } start here := by
  obtain ⟨i, z, hi, hz, hsz, hby, hzs⟩ := thread_info
  have hq : q < sts.length := (List.getElem?_eq_some_iff.mp hs).1
  have hq' : (q : Int) < (sts.length : Int) := by omega
  have m0 := h.m
  have m2 := h.mat.c2
  have ml := h.l
  have ms := h.s
  have fl := h.fz.1
  have u0 : w.cell? ⟨gs, q * 7, none⟩ = some (.int .u8 s.act) := h.mat.st q s hs 0 _ rfl
  rw [ha] at u0
  have zl : x.cl < w.heap.size := cell_lt h.l
  have HH := Lib.hid h
  have HZ := Lib.hid (⟨hi, hz, hsz, hby, hzs⟩ : _ ∧ _ ∧ _ ∧ _ ∧ _)
  clear h hi hz hsz hby hzs hs ha
  go_enter Try.func57, Try.ntmps57
  go_wp2_with (at_builtin; refine wpList_append_lies _ rfl (.tmp 18) (.tmp 22) 101 rfl B 103 i z 2 16 Try.underlying101 HZ.out.1 HZ.out.2.1 HZ.out.2.2.1 HZ.out.2.2.2.1 HZ.out.2.2.2.2 (by decide) lv X.L.length (flatT X.L) rfl (HH.out.row.alloc _) ⟨w.heap.size, 0, none⟩ 1 1 [.int .i64 (q : Int), .int .i64 (start : Int)] rfl rfl (World.news_of_block (heap_alloc_new w _)) two_one (by decide) (by unfold maxLen; omega) (by omega) (two_size HH.out.le) _ rfl ?_; intro g cap1 w1 hown hgrow hat hlt; have f1 := (HH.out.far hgrow).1; have f2 := (HH.out.far hgrow).2; have HO := Lib.hid (⟨hown, hgrow, hat, hlt⟩ : _ ∧ _ ∧ _ ∧ _); clear hown hgrow hat hlt)
  go_returns
  exact ⟨rfl, _, put_take HH.out HO.out.1 HO.out.2.1 HO.out.2.2.1⟩
theorem put_goal (h : SMem w x mb gs cap B sts size first a0 a1 a2 a3 lv X start here) {u v : Int} : Put w (((w.setCell ⟨x.ca, 0, none⟩ (.int .i64 u)).setCell ⟨x.cn, 0, none⟩ (.int .i64 v)).setCell ⟨x.cf, 0, none⟩ (.bool true)).drew x mb gs cap B sts size first a0 a1 a2 a3 lv lv { L := X.L, at_ := u, n := v, found := true } start here := by
  have hl := h.ap.lt
  have hsz := h.le
  have ha := h.ap.a
  have hn := h.ap.n
  have hf := h.ap.f
  have hll := h.ap.l
  have nl : ∀ k, k < B → lv.ownBlock ≠ some k := fun k hk e => by have := (h.own_lt e).1; omega
  have e : ∀ k, k ≠ x.ca → k ≠ x.cn → k ≠ x.cf → (((w.setCell ⟨x.ca, 0, none⟩ (.int .i64 u)).setCell ⟨x.cn, 0, none⟩ (.int .i64 v)).setCell ⟨x.cf, 0, none⟩ (.bool true)).drew.heap[k]? = w.heap[k]? := fun k k1 k2 k3 =>
    (heap_setCell_other _ ⟨x.cf, 0, none⟩ k _ k3).trans ((heap_setCell_other _ ⟨x.cn, 0, none⟩ k _ k2).trans (heap_setCell_other _ ⟨x.ca, 0, none⟩ k _ k1))
  have c : ∀ k, k ≠ x.ca → k ≠ x.cn → k ≠ x.cf → (((w.setCell ⟨x.ca, 0, none⟩ (.int .i64 u)).setCell ⟨x.cn, 0, none⟩ (.int .i64 v)).setCell ⟨x.cf, 0, none⟩ (.bool true)).drew.cell? ⟨k, 0, none⟩ = w.cell? ⟨k, 0, none⟩ := fun k k1 k2 k3 => World.cell?_of_block (a := ⟨k, 0, none⟩) (e k k1 k2 k3)
  have zf : ∀ k, k ≠ x.ca → k ≠ x.cn → k ≠ x.cf → (((w.setCell ⟨x.ca, 0, none⟩ (.int .i64 u)).setCell ⟨x.cn, 0, none⟩ (.int .i64 v)).setCell ⟨x.cf, 0, none⟩ (.bool true)).drew.frozen? ⟨k, 0, none⟩ = w.frozen? ⟨k, 0, none⟩ := fun k k1 k2 k3 => World.frozen?_of_block (a := ⟨k, 0, none⟩) (e k k1 k2 k3)
  have z : ∀ k, (((w.setCell ⟨x.ca, 0, none⟩ (.int .i64 u)).setCell ⟨x.cn, 0, none⟩ (.int .i64 v)).setCell ⟨x.cf, 0, none⟩ (.bool true)).drew.frozen? ⟨k, 0, none⟩ = w.frozen? ⟨k, 0, none⟩ := fun k => (World.frozen?_setCell _ _ _ _).trans ((World.frozen?_setCell _ _ _ _).trans (World.frozen?_setCell _ _ _ _))
  have hs : (((w.setCell ⟨x.ca, 0, none⟩ (.int .i64 u)).setCell ⟨x.cn, 0, none⟩ (.int .i64 v)).setCell ⟨x.cf, 0, none⟩ (.bool true)).drew.heap.size = w.heap.size := by
    show (((w.setCell _ _).setCell _ _).setCell _ _).heap.size = _
    rw [size_setCell, size_setCell, size_setCell]
  refine ⟨⟨(c _ ha.1.symm hn.1.symm hf.1.symm).trans h.m, h.mat.same fun k hk => ?_, (c _ hll.2.2.2.1 hll.2.2.2.2.1 hll.2.2.2.2.2.1).trans h.l, (c _ ha.2.1.symm hn.2.1.symm hf.2.1.symm).trans h.s, (c _ ha.2.2.1.symm hn.2.2.1.symm hf.2.2.1.symm).trans h.h, ?_, ?_, ?_,
    ⟨(z _).trans h.fz.1, (z _).trans h.fz.2.1, (z _).trans h.fz.2.2.1, (z _).trans h.fz.2.2.2.1, (z _).trans h.fz.2.2.2.2.1, (z _).trans h.fz.2.2.2.2.2⟩, ?_, h.ap, by rw [hs]; exact hsz⟩, ⟨rfl, rfl, rfl, by rw [hs]; exact Nat.le_refl _⟩, fun k _ hT => e k (fun q => hT (.inr (.inl q))) (fun q => hT (.inr (.inr (.inl q)))) (fun q => hT (.inr (.inr (.inr (.inl q))))), .inl rfl⟩
  · rcases hk with rfl | rfl
    · exact e _ ha.2.2.2.2.2.1.symm hn.2.2.2.2.1.symm hf.2.2.2.1.symm
    · exact e _ ha.2.2.2.2.2.2.symm hn.2.2.2.2.2.symm hf.2.2.2.2.symm
  · show (((w.setCell ⟨x.ca, 0, none⟩ (.int .i64 u)).setCell ⟨x.cn, 0, none⟩ (.int .i64 v)).setCell ⟨x.cf, 0, none⟩ (.bool true)).cell? ⟨x.ca, 0, none⟩ = _
    rw [World.cell?_setCell_other _ _ _ _ (fun q => ha.2.2.2.2.1 (by first | exact congrArg Addr.block q | exact (congrArg Addr.block q).symm)), World.cell?_setCell_other _ _ _ _ (fun q => ha.2.2.2.1 (by first | exact congrArg Addr.block q | exact (congrArg Addr.block q).symm))]
    exact World.cell?_setCell_same' w _ _ (by rw [h.a]; rfl)
  · show (((w.setCell ⟨x.ca, 0, none⟩ (.int .i64 u)).setCell ⟨x.cn, 0, none⟩ (.int .i64 v)).setCell ⟨x.cf, 0, none⟩ (.bool true)).cell? ⟨x.cn, 0, none⟩ = _
    rw [World.cell?_setCell_other _ _ _ _ (fun q => hn.2.2.2.1 (by first | exact congrArg Addr.block q | exact (congrArg Addr.block q).symm))]
    exact World.cell?_setCell_same' _ _ _ (by rw [World.cell?_setCell_other _ _ _ _ (fun q => ha.2.2.2.1 (by first | exact congrArg Addr.block q | exact (congrArg Addr.block q).symm)), h.n]; rfl)
  · show (((w.setCell ⟨x.ca, 0, none⟩ (.int .i64 u)).setCell ⟨x.cn, 0, none⟩ (.int .i64 v)).setCell ⟨x.cf, 0, none⟩ (.bool true)).cell? ⟨x.cf, 0, none⟩ = _
    exact World.cell?_setCell_same' _ _ _ (by rw [World.cell?_setCell_other _ _ _ _ (fun q => hn.2.2.2.1 (by first | exact congrArg Addr.block q | exact (congrArg Addr.block q).symm)), World.cell?_setCell_other _ _ _ _ (fun q => ha.2.2.2.2.1 (by first | exact congrArg Addr.block q | exact (congrArg Addr.block q).symm)), h.f]; rfl)
  · obtain ⟨h1, h2⟩ := h.row
    refine ⟨h1, ?_⟩
    rcases h2 with h2 | ⟨g, c', cur, hv, h3, h4, h5⟩
    · exact .inl h2
    · refine .inr ⟨g, c', cur, hv, h3, (e g ?_ ?_ ?_).trans h4, h5⟩
      · intro q; omega
      · intro q; omega
      · intro q; omega
set_option maxHeartbeats 2000000 in
set_option maxRecDepth 100000 in
theorem search1_goal (h : SMem w x mb gs cap B sts size first a0 a1 a2 a3 lv X start here) (q : Nat) (s : St) (hs : sts[q]? = some s) (ha : s.act = 0) (hst : start ≤ here) (hh : here ≤ 1000000000000) :
    Calls Try.prog 57 #[.int .i64 (q : Int), .pointer (some ⟨x.cm, 0, none⟩), .pointer (some ⟨x.cl, 0, none⟩), .pointer (some ⟨x.cs, 0, none⟩), .pointer (some ⟨x.ch, 0, none⟩), .pointer (some ⟨x.ca, 0, none⟩), .pointer (some ⟨x.cn, 0, none⟩), .pointer (some ⟨x.cf, 0, none⟩)] w
      fun e w' => e = .returned (.tuple #[]) ∧ ∃ lv', Put w w' x mb gs cap B sts size first a0 a1 a2 a3 lv lv' { L := X.L, at_ := (start : Int), n := (here : Int) - (start : Int), found := true } start here := by
  have hq : q < sts.length := (List.getElem?_eq_some_iff.mp hs).1
  have hq' : (q : Int) < (sts.length : Int) := by omega
  have m0 := h.m
  have m2 := h.mat.c2
  have ms := h.s
  have mh := h.h
  have ma := h.a
  have mn := h.n
  have mf := h.f
  have fa := h.fz.2.2.2.1
  have fn := h.fz.2.2.2.2.1
  have ff := h.fz.2.2.2.2.2
  have u0 : w.cell? ⟨gs, q * 7, none⟩ = some (.int .u8 s.act) := h.mat.st q s hs 0 _ rfl
  rw [ha] at u0
  have n1 := h.ap.a.2.2.2.1
  have n2 := h.ap.a.2.2.2.2.1
  have n3 := h.ap.n.2.2.2.1
  have n4 := h.ap.a.2.1
  have n5 := h.ap.a.2.2.1
  have n6 := h.ap.n.2.1
  have n7 := h.ap.n.2.2.1
  have HH := Lib.hid h
  clear h hs ha
  go_enter Try.func57, Try.ntmps57
  go_wp2_with fail
  go_region
  go_wp2_with fail
  go_returns
  exact ⟨rfl, lv, put_goal HH.out⟩
end Go.Proofs.Ytmnghdccikoaoaa.Mt
