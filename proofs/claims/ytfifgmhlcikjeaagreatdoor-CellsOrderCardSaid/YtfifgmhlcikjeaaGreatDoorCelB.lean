/-
  Package cells: Compare of cells of one sort.
-/
import Derived.Test.YtfifgmhlcikjeaaGreatDoorCelA
import Derived.Deep.QuietTactic
import Derived.StillTactics
namespace Go.Proofs.YtfifgmhlcikjeaaGreatDoor.Cel
open Go.RowKit

theorem cell_lt {w : World} {p : Addr} {v : Value} (h : w.cell? p = some v) : p.block < w.heap.size := by
  unfold World.cell? at h
  split at h
  · rename_i c e z hb
    exact (Array.getElem?_eq_some_iff.1 hb).1
  · cases h
theorem boxed_at {w w2 : World} {cs : Array Value} {t : TypeId} (hb : Below (w.alloc (.cells cs t)).heap.size (w.alloc (.cells cs t)) w2) (j : Nat) (u : Value) (hu : cs[j]? = some u) : w2.cell? ⟨w.heap.size, j, none⟩ = some u :=
  (hb.cell (p := ⟨w.heap.size, j, none⟩) (by rw [alloc_size]; exact Nat.lt_succ_self _)).trans (by rw [World.cell?_alloc_at _ _ _ _ rfl]; exact hu)
theorem boxed_at2 {w w2 : World} {o : Obj} {cs : Array Value} {t : TypeId} (hb : Below ((w.alloc o).alloc (.cells cs t)).heap.size ((w.alloc o).alloc (.cells cs t)) w2) (j : Nat) (u : Value) (hu : cs[j]? = some u) : w2.cell? ⟨w.heap.size + 1, j, none⟩ = some u := by
  have := boxed_at hb j u hu
  rwa [alloc_size] at this
theorem cell_old {w w' : World} (h : Below w.heap.size w w') {b : Nat} {v : Value} (hv : w.cell? ⟨b, 0, none⟩ = some v) : w'.cell? ⟨b, 0, none⟩ = some v := (h.cell (cell_lt hv)).trans hv
theorem told2 (k n : Int) (s f : ByteArray) (b : Nat) (w : World) (hk : ¬ k = 1) (hb : w.cell? ⟨b, 0, none⟩ = some (.string f)) :
    Calls Tryz.prog 34 #[cellV k n s, .pointer (some ⟨b, 0, none⟩)] w fun e w' => e = .returned (.tuple #[.string (textI k s), .int .i64 0]) ∧ Below w.heap.size w w' := by
  have hlt := cell_lt hb
  unfold cellV
  go_enter Tryz.func34, Tryz.ntmps34
  go_wp2_with (go_at_call 29; refine (textOf k n s f _ hk).mono ?_; rintro e w1 ⟨rfl, hb⟩; have H1 := Lib.hid hb; clear hb)
  all_goals go_ret2
  exact ⟨rfl, (box_below _ _).trans (H1.out.mono (two_size (Nat.le_refl _)))⟩

set_option maxRecDepth 100000 in
theorem byFloat (k n k' n' : Int) (s s' : ByteArray) (w : World) (hk : ¬ k = 2) (hk' : ¬ k' = 2) :
    Calls Tryz.prog 31 #[cellV k n s, cellV k' n' s', .func (.func 32) #[] #[]] w
      fun e w' => e = .returned (.tuple #[.int .i64 (cmpF (bitsI k n).toNat (bitsI k' n').toNat), .int .i64 0]) ∧ Below w.heap.size w w' := by
  have HA := Lib.hid (told1 k n s)
  have HB := Lib.hid (told1 k' n' s')
  unfold cellV at *
  go_enter Tryz.func31, Tryz.ntmps31
  go_wp2_with (first
    | (go_at_call 32; refine (HB.out _ hk').mono ?_; rintro e w2 ⟨rfl, hb2⟩; have H2 := Lib.hid (H1.out.trans (hb2.mono H1.out.size)); clear hb2)
    | (go_at_call 32; refine (HA.out _ hk).mono ?_; rintro e w1 ⟨rfl, hb1⟩; have c0 := boxed_at2 hb1 0 _ rfl; have c1 := boxed_at2 hb1 1 _ rfl; have c2 := boxed_at2 hb1 2 _ rfl; have H1 := Lib.hid (((box_below _ _).trans ((box_below _ _).mono (two_size (Nat.le_refl _)))).trans (hb1.mono (two_size (two_size (Nat.le_refl w.heap.size))))); clear hb1)
    | (go_at_call 41; refine (cmpFloat _ _ _).mono ?_; rintro e w3 ⟨rfl, rfl⟩))
  all_goals go_ret2
  exact ⟨rfl, H2.out⟩
set_option maxRecDepth 100000 in
theorem byText (k n k' n' : Int) (s s' f : ByteArray) (b : Nat) (w : World) (hk : ¬ k = 1) (hk' : ¬ k' = 1) (hb : w.cell? ⟨b, 0, none⟩ = some (.string f)) :
    Calls Tryz.prog 33 #[cellV k n s, cellV k' n' s', .func (.func 34) #[] #[.pointer (some ⟨b, 0, none⟩)]] w
      fun e w' => e = .returned (.tuple #[.int .i64 (cmpS (textI k s) (textI k' s')), .int .i64 0]) ∧ Below w.heap.size w w' := by
  have HA := Lib.hid (told2 k n s f b)
  have HB := Lib.hid (told2 k' n' s' f b)
  have HC := Lib.hid hb
  have hbl := cell_lt hb
  have HL := Lib.hid hbl
  unfold cellV at *
  clear hb hbl
  go_enter Tryz.func33, Tryz.ntmps33
  go_wp2_with (first
    | (go_at_call 34; refine (HB.out _ hk' H1.out.2).mono ?_; rintro e w2 ⟨rfl, hb2⟩; have H2 := Lib.hid (H1.out.1.trans (hb2.mono H1.out.1.size)); clear hb2)
    | (go_at_call 34; refine (HA.out _ hk ((((box_below _ _).trans ((box_below _ _).mono (two_size (Nat.le_refl _)))).cell HL.out).trans HC.out)).mono ?_; rintro e w1 ⟨rfl, hb1⟩; have c0 := boxed_at2 hb1 0 _ rfl; have c1 := boxed_at2 hb1 1 _ rfl; have c2 := boxed_at2 hb1 2 _ rfl; have hq := ((box_below _ _).trans ((box_below _ _).mono (two_size (Nat.le_refl _)))).trans (hb1.mono (two_size (two_size (Nat.le_refl w.heap.size)))); have H1 := Lib.hid (⟨hq, (hq.cell HL.out).trans HC.out⟩ : _ ∧ _); clear hb1 hq)
    | (go_at_call 42; refine (cmpStr _ _ _).mono ?_; rintro e w3 ⟨rfl, rfl⟩))
  all_goals go_ret2
  exact ⟨rfl, H2.out⟩

/- A block's cells. -/
def Box (b : Nat) (cs : List Value) (w : World) : Prop := ∀ (j : Nat) (u : Value), cs[j]? = some u → w.cell? ⟨b, j, none⟩ = some u
theorem Box.below {b : Nat} {cs : List Value} {w w' : World} (h : Box b cs w) (hb : Below w.heap.size w w') : Box b cs w' := fun j u hu => by
  have := h j u hu
  exact (hb.cell (cell_lt this)).trans this
theorem box_new (w : World) (cs : Array Value) (t : TypeId) : Box w.heap.size cs.toList (w.alloc (.cells cs t)) := fun j u hu => by
  rw [World.cell?_alloc_at _ _ _ _ rfl]; simpa using hu
theorem box_new2 (w : World) (o : Obj) (cs : Array Value) (t : TypeId) : Box (w.heap.size + 1) cs.toList ((w.alloc o).alloc (.cells cs t)) := by
  have := box_new (w.alloc o) cs t
  rwa [alloc_size] at this
theorem box_new3 (w : World) (o o' : Obj) (cs : Array Value) (t : TypeId) : Box (w.heap.size + 1 + 1) cs.toList (((w.alloc o).alloc o').alloc (.cells cs t)) := by
  have := box_new2 (w.alloc o) o' cs t
  rwa [alloc_size] at this
/- Three boxes. -/
structure Three (w : World) (a b c : List Value) (w' : World) : Prop where
  fst : Box w.heap.size a w'
  snd : Box (w.heap.size + 1) b w'
  trd : Box (w.heap.size + 1 + 1) c w'
  low : Below w.heap.size w w'
theorem Three.new (w : World) (a b c : Array Value) (t u v : TypeId) : Three w a.toList b.toList c.toList (((w.alloc (.cells a t)).alloc (.cells b u)).alloc (.cells c v)) :=
  ⟨((box_new w a t).below (box_below _ _)).below (box_below _ _), (box_new2 w _ b u).below (box_below _ _), box_new3 w _ _ c v,
    (box_below _ _).trans (((box_below _ _).trans ((box_below _ _).mono (two_size (Nat.le_refl _)))).mono (two_size (Nat.le_refl _)))⟩
theorem Three.made {w w' : World} {a b c : Array Value} {t u v : TypeId} (hb : Below (((w.alloc (.cells a t)).alloc (.cells b u)).alloc (.cells c v)).heap.size (((w.alloc (.cells a t)).alloc (.cells b u)).alloc (.cells c v)) w') : Three w a.toList b.toList c.toList w' :=
  let h := Three.new w a b c t u v
  ⟨h.fst.below hb, h.snd.below hb, h.trd.below hb, h.low.trans (hb.mono h.low.size)⟩
theorem Three.below {w w' w'' : World} {a b c : List Value} (h : Three w a b c w') (hb : Below w'.heap.size w' w'') : Three w a b c w'' :=
  ⟨h.fst.below hb, h.snd.below hb, h.trd.below hb, h.low.trans (hb.mono h.low.size)⟩

/- What Compare tells of two cells of one sort. -/
def cmpI (k n : Int) (s : ByteArray) (k' n' : Int) (s' : ByteArray) : Int :=
  if numericB k = true then cmpF (bitsI k n).toNat (bitsI k' n').toNat else cmpS (textI k s) (textI k' s')
set_option maxRecDepth 100000 in
theorem compare (k n k' n' : Int) (s s' f : ByteArray) (w : World) (hs : numericB k' = numericB k) :
    Calls Tryz.prog 17 #[cellV k n s, cellV k' n' s', .string f] w
      fun e w' => e = .returned (.tuple #[.int .i64 (cmpI k n s k' n' s'), .int .i64 0]) ∧ Below w.heap.size w w' := by
  have HA := Lib.hid (numeric k n s)
  have HB := Lib.hid (numeric k' n' s')
  have HN := Lib.hid hs
  cases hn : numericB k with
  | true =>
    have hk : ¬ k = 2 := by intro e; rw [e] at hn; simp [numericB] at hn
    have hk' : ¬ k' = 2 := by intro e; rw [hn, e] at hs; simp [numericB] at hs
    have HT := Lib.hid (fun w => byFloat k n k' n' s s' w hk hk')
    have hr : cmpI k n s k' n' s' = cmpF (bitsI k n).toNat (bitsI k' n').toNat := by unfold cmpI; rw [hn]; rfl
    rw [hr]
    have HN1 := Lib.hid hn
    unfold cellV at *
    clear hs hr hn hk hk'
    go_enter Tryz.func17, Tryz.ntmps17
    go_wp2_with (first
      | (go_at_call 31; refine (HT.out _).mono ?_; rintro e w5 ⟨rfl, hb5⟩; have H5 := Lib.hid (H2.out.below hb5); clear hb5)
      | (have HH := H1.out; go_at_call 30; refine (HB.out _).mono ?_; rintro e w2 ⟨rfl, hb2⟩; rw [HN.out, HN1.out]; have ht := H1.out.below hb2; have c0 := ht.fst 0 _ rfl; have c1 := ht.fst 1 _ rfl; have c2 := ht.fst 2 _ rfl; have d0 := ht.snd 0 _ rfl; have d1 := ht.snd 1 _ rfl; have d2 := ht.snd 2 _ rfl; have H2 := Lib.hid ht; clear ht hb2)
      | (go_at_call 30; refine (HA.out _).mono ?_; rintro e w1 ⟨rfl, hb1⟩; rw [HN1.out]; have ht := Three.made hb1; have d0 := ht.snd 0 _ rfl; have d1 := ht.snd 1 _ rfl; have d2 := ht.snd 2 _ rfl; have H1 := Lib.hid ht; clear ht hb1))
    all_goals go_ret2
    exact ⟨rfl, H5.out.low⟩
  | false =>
    have hk : ¬ k = 1 := by intro e; rw [e] at hn; simp [numericB] at hn
    have hk' : ¬ k' = 1 := by intro e; rw [hn, e] at hs; simp [numericB] at hs
    have HT := Lib.hid (fun b w => byText k n k' n' s s' f b w hk hk')
    have hr : cmpI k n s k' n' s' = cmpS (textI k s) (textI k' s') := by unfold cmpI; rw [hn]; rfl
    rw [hr]
    have HN1 := Lib.hid hn
    unfold cellV at *
    clear hs hr hn hk hk'
    go_enter Tryz.func17, Tryz.ntmps17
    go_wp2_with (first
      | (go_at_call 33; refine (HT.out _ _ (H1.out.trd 0 _ rfl)).mono ?_; rintro e w5 ⟨rfl, hb5⟩; have H5 := Lib.hid (H1.out.below hb5); clear hb5)
      | (go_at_call 30; refine (HA.out _).mono ?_; rintro e w1 ⟨rfl, hb1⟩; rw [HN1.out]; have ht := Three.made hb1; have c0 := ht.fst 0 _ rfl; have c1 := ht.fst 1 _ rfl; have c2 := ht.fst 2 _ rfl; have d0 := ht.snd 0 _ rfl; have d1 := ht.snd 1 _ rfl; have d2 := ht.snd 2 _ rfl; have H1 := Lib.hid ht; clear ht hb1))
    all_goals go_ret2
    exact ⟨rfl, H5.out.low⟩
end Go.Proofs.YtfifgmhlcikjeaaGreatDoor.Cel
