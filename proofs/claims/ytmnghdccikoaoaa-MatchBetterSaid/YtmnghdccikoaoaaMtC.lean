/-
  Package match: the states of a tree, as a function; a row of them (row).
-/
import Derived.Test.YtmnghdccikoaoaaMtB
namespace Go.Proofs.Ytmnghdccikoaoaa.Mt
open Go.RowKit Go.Proofs.Ytmnghdccikoaoaa.Sh

abbrev Lay := Int → List St → List St × Int
def fork (next other : Int) : St := ⟨2, 0, 0, 0, 0, next, other⟩
def layRow (f : Lay) : Nat → Lay
  | 0, next, sts => (sts, next)
  | n + 1, next, sts => layRow f n (f next sts).2 (f next sts).1
/- As many as may be left out, each. -/
def layMay (f : Lay) (out : Int) : Nat → Lay
  | 0, first, sts => (sts, first)
  | n + 1, first, sts => layMay f out n ((f first sts).1.length : Int) ((f first sts).1 ++ [fork (f first sts).2 out])
def setNext (sts : List St) (i : Nat) (next : Int) : List St := sts.modify i fun s => { s with next := next }
def layLoop (f : Lay) (next : Int) (sts : List St) : List St × Int × Int :=
  let p := f (sts.length : Int) (sts ++ [fork 0 next])
  (setNext p.1 sts.length p.2, (sts.length : Int), p.2)
def layTimes (f : Lay) (least most : Int) : Lay := fun next sts =>
  if most < 0 then
    let p := layLoop f next sts
    if least = 0 then (p.1, p.2.1) else layRow f (least.toNat - 1) p.2.2 p.1
  else
    let p := layMay f next (most - least).toNat next sts
    layRow f least.toNat p.2 p.1
def layCat (f : Re → Lay) : List Re → Lay
  | [], next, sts => (sts, next)
  | r :: l, next, sts => f r (layCat f l next sts).2 (layCat f l next sts).1
/- One way more: a fork ahead of those that there are. -/
def layWays (f : Re → Lay) (out : Int) : List Re → Lay
  | [], first, sts => (sts, first)
  | r :: l, first, sts => layWays f out l ((f r out sts).1.length : Int) ((f r out sts).1 ++ [fork first (f r out sts).2])
def layAlt (f : Re → Lay) : List Re → Lay
  | [], next, sts => (sts, next)
  | r :: l, next, sts => layWays f next l (f r next sts).2 (f r next sts).1
def lay : Nat → Re → Lay
  | 0, _ => fun next sts => (sts, next)
  | l + 1, .mk k s0 s1 s2 s3 a b kids => fun next sts =>
    if k = 2 then (sts ++ [⟨1, s0, s1, s2, s3, next, 0⟩], (sts.length : Int))
    else if k = 3 then (sts ++ [⟨3, 0, 0, 0, 0, next, 0⟩], (sts.length : Int))
    else if k = 4 then (sts ++ [⟨4, 0, 0, 0, 0, next, 0⟩], (sts.length : Int))
    else if k = 5 then layCat (lay l) kids next sts
    else if k = 6 then layAlt (lay l) kids next sts
    else if k = 7 then match kids with
      | kid :: _ => layTimes (lay l kid) a b next sts
      | [] => (sts, next)
    else (sts, next)

/- Nothing is taken away. -/
def Adds (f : Lay) : Prop := ∀ next sts, sts.length ≤ (f next sts).1.length
theorem layRow_adds {f : Lay} (h : Adds f) : ∀ n, Adds (layRow f n)
  | 0, _, _ => Nat.le_refl _
  | n + 1, next, sts => Nat.le_trans (h next sts) (layRow_adds h n _ _)
theorem layMay_adds {f : Lay} (h : Adds f) (out : Int) : ∀ n, Adds (layMay f out n)
  | 0, _, _ => Nat.le_refl _
  | n + 1, first, sts => by
    have h1 := h first sts
    have h2 := layMay_adds h out n ((f first sts).1.length : Int) ((f first sts).1 ++ [fork (f first sts).2 out])
    rw [List.length_append] at h2
    unfold layMay
    omega
theorem setNext_length (sts : List St) (i : Nat) (next : Int) : (setNext sts i next).length = sts.length := by simp [setNext]
theorem layLoop_adds {f : Lay} (h : Adds f) (next : Int) (sts : List St) : sts.length + 1 ≤ (layLoop f next sts).1.length := by
  have h1 := h (sts.length : Int) (sts ++ [fork 0 next])
  rw [List.length_append] at h1
  simp only [layLoop, setNext_length]
  simpa using h1
theorem layTimes_adds {f : Lay} (h : Adds f) (least most : Int) : Adds (layTimes f least most) := by
  intro next sts
  unfold layTimes
  split
  · have h1 := layLoop_adds h next sts
    split
    · exact Nat.le_trans (Nat.le_succ _) h1
    · exact Nat.le_trans (Nat.le_trans (Nat.le_succ _) h1) (layRow_adds h _ _ _)
  · exact Nat.le_trans (layMay_adds h next _ _ _) (layRow_adds h _ _ _)
theorem layCat_adds {f : Re → Lay} (h : ∀ r, Adds (f r)) : ∀ l, Adds (layCat f l)
  | [], _, _ => Nat.le_refl _
  | r :: l, next, sts => Nat.le_trans (layCat_adds h l next sts) (h r _ _)
theorem layWays_adds {f : Re → Lay} (h : ∀ r, Adds (f r)) (out : Int) : ∀ l, Adds (layWays f out l)
  | [], _, _ => Nat.le_refl _
  | r :: l, first, sts => by
    have h1 := h r out sts
    have h2 := layWays_adds h out l ((f r out sts).1.length : Int) ((f r out sts).1 ++ [fork first (f r out sts).2])
    rw [List.length_append] at h2
    unfold layWays
    omega
theorem layAlt_adds {f : Re → Lay} (h : ∀ r, Adds (f r)) : ∀ l, Adds (layAlt f l)
  | [], _, _ => Nat.le_refl _
  | r :: l, next, sts => Nat.le_trans (h r next sts) (layWays_adds h next l _ _)
theorem lay_adds : ∀ (l : Nat) (r : Re), Adds (lay l r)
  | 0, _ => fun _ _ => Nat.le_refl _
  | l + 1, .mk k s0 s1 s2 s3 a b kids => by
    intro next sts
    unfold lay
    repeat' (first | split)
    all_goals first
      | (simp; done)
      | exact layCat_adds (lay_adds l) _ _ _
      | exact layAlt_adds (lay_adds l) _ _ _
      | exact layTimes_adds (lay_adds l _) _ _ _ _

/- Memory over a builder's call. -/
theorem Bld.own_lt {w : World} {B pb : Nat} {v : Value} {sts : List St} (h : Bld w B pb v sts) : ∀ k, v.ownBlock = some k → B ≤ k ∧ k < w.heap.size := h.row.lt
theorem Grew.below {w w' : World} {B pb n : Nat} {v v' : Value} {sts : List St} (h : Grew pb w v w' v') (hb : Bld w B pb v sts) (hn : n ≤ B) (hw : n ≤ w.heap.size) : Below n w w' :=
  ⟨h.os, h.tape, h.output, h.size, fun k hk => h.block k (by omega) (by have := hb.ge; omega) fun e => by have := (hb.own_lt k e).1; omega⟩
/- A block that was made behind the builder's stands. -/
theorem Grew.keeps {w w' : World} {B pb k : Nat} {v v' : Value} {sts : List St} {o : Obj} (h : Grew pb (w.alloc o) v w' v') (hb : Bld w B pb v sts) (hk : k = w.heap.size) : w'.heap[k]? = some o := by
  subst hk
  have hpl : pb < w.heap.size := cell_lt hb.at_
  rw [h.block w.heap.size (by rw [alloc_size]; omega) (by omega) fun e => by have := (hb.own_lt _ e).2; omega]
  exact heap_alloc_new w o
theorem Grew.boxed {w w' : World} {B pb : Nat} {v v' : Value} {sts : List St} {cs : List Value} {t : TypeId} (h : Grew pb (w.alloc (.cells ⟨cs⟩ t)) v w' v') (hb : Bld w B pb v sts) : ∀ j u, cs[j]? = some u → w'.cell? ⟨w.heap.size, j, none⟩ = some u := fun j u hu => by
  rw [cell_of_row w' w.heap.size j ⟨cs⟩ t _ (h.keeps hb rfl)]
  simpa using hu

/- What is asked of tree: for trees of at most so many levels. -/
def TreeOk (W0 : World) (l : Nat) : Prop := ∀ (r : Re) (cs : List Value) (n : Int) (B pb : Nat) (v : Value) (sts : List St) (next : Int) (w : World),
  0 ≤ n → n ≤ 10000 → (rightG l r n).1 = true → Lies W0 r cs → Below W0.heap.size W0 w → W0.heap.size ≤ B → B ≤ w.heap.size → Bld w B pb v sts → (lay l r next sts).1.length ≤ 100000 →
    Calls Try.prog 35 #[.pointer (some ⟨pb, 0, none⟩), .agg ⟨cs⟩, .int .i64 next] w
      fun e w' => e = .returned (.int .i64 (lay l r next sts).2) ∧ ∃ v', Bld w' B pb v' (lay l r next sts).1 ∧ Grew pb w v w' v'

set_option maxRecDepth 100000 in
theorem row {W0 : World} {l : Nat} (ht : TreeOk W0 l) (r : Re) (cs : List Value) (n : Int) (B pb : Nat) (v : Value) (sts : List St) (next : Int) (times : Nat) (w : World)
    (h0 : 0 ≤ n) (hn : n ≤ 10000) (hr : (rightG l r n).1 = true) (hL : Lies W0 r cs) (hW : Below W0.heap.size W0 w) (hB0 : W0.heap.size ≤ B) (hB : B ≤ w.heap.size) (hb : Bld w B pb v sts) (htm : times ≤ 1000) (hlen : (layRow (lay l r) times next sts).1.length ≤ 100000) :
    Calls Try.prog 67 #[.pointer (some ⟨pb, 0, none⟩), .agg ⟨cs⟩, .int .i64 times, .int .i64 next] w
      fun e w' => e = .returned (.int .i64 (layRow (lay l r) times next sts).2) ∧ ∃ v', Bld w' B pb v' (layRow (lay l r) times next sts).1 ∧ Grew pb w v w' v' := by
  obtain ⟨k, s0, s1, s2, s3, a, b, kids, sl, cap, hr', rfl, _, _⟩ := hL.open
  have HB := Lib.hid hb
  have HW := Lib.hid hW
  have HL := Lib.hid hL
  have HR := Lib.hid hr
  have HT := Lib.hid ht
  have HN := Lib.hid hlen
  clear hb hW hL hr ht hlen hr'
  go_enter Try.func67, Try.ntmps67
  go_wp2_with fail
  go_loopw [10, 3] (fun i x wr => ∃ (j : Nat) (nj : Int) (sj : List St) (vj : Value), j ≤ times ∧ i = .int .i64 j ∧ x = .int .i64 nj ∧ layRow (lay l r) times next sts = layRow (lay l r) (times - j) nj sj ∧ Bld wr B pb vj sj ∧
      Grew pb (w.alloc (.cells ⟨[.int .u8 k, .int .u64 s0, .int .u64 s1, .int .u64 s2, .int .u64 s3, .int .i64 a, .int .i64 b, .slice sl kids.length cap]⟩ 34)) v wr vj) (fun i _ _ => times - (intOf i).toNat)
  case atStart => exact ⟨0, next, sts, v, Nat.zero_le _, rfl, rfl, rfl, HB.out.below ((Below.refl _ _).alloc (Nat.le_refl _) _), Grew.refl _ _ _⟩
  case round =>
    obtain ⟨j, nj, sj, vj, hj, rfl, rfl, hR, hb, hg⟩ := hrel
    have f := hg.boxed HB.out
    have f0 := f 0 _ rfl
    have f1 := f 1 _ rfl
    have f2 := f 2 _ rfl
    have f3 := f 3 _ rfl
    have f4 := f 4 _ rfl
    have f5 := f 5 _ rfl
    have f6 := f 6 _ rfl
    have f7 := f 7 _ rfl
    have HS := Lib.hid (⟨hR, hb, hg⟩ : _ ∧ _ ∧ _)
    clear f hR hb hg
    by_cases hlt : j < times
    · have hlt' : (j : Int) < (times : Int) := by omega
      obtain ⟨m, hm⟩ : ∃ m, times - j = m + 1 := ⟨times - j - 1, by omega⟩
      have hR2 : layRow (lay l r) times next sts = layRow (lay l r) m (lay l r nj sj).2 (lay l r nj sj).1 := by rw [HS.out.1, hm, layRow]
      have HR2 := Lib.hid hR2
      have hlen2 : (lay l r nj sj).1.length ≤ 100000 := Nat.le_trans (layRow_adds (lay_adds l r) m _ _) (by rw [← hR2]; exact HN.out)
      have hW2 : Below W0.heap.size W0 wr := HW.out.trans (((Below.refl _ w).alloc (Nat.le_refl _) _).mono HW.out.size |>.trans (HS.out.2.2.below (HB.out.below ((Below.refl _ _).alloc (Nat.le_refl _) _)) hB0 (Nat.le_trans HW.out.size (two_size (Nat.le_refl _)))))
      have HW2 := Lib.hid hW2
      have HN2 := Lib.hid hlen2
      have hB2 : B ≤ wr.heap.size := Nat.le_trans hB (Nat.le_trans (two_size (Nat.le_refl _)) HS.out.2.2.size)
      clear hR2 hW2 hlen2
      go_wp2_with (go_at_call 35; refine (HT.out r _ n B pb vj sj nj wr h0 hn HR.out HL.out HW2.out hB0 hB2 HS.out.2.1 HN2.out).mono ?_; rintro e w2 ⟨rfl, v2, hb2⟩; have HC := Lib.hid hb2; clear hb2)
      go_light
      refine ⟨⟨j + 1, _, _, v2, by omega, rfl, rfl, ?_, HC.out.1, HS.out.2.2.trans HC.out.2⟩, by simp only [intOf]; omega⟩
      rw [HR2.out]
      congr 1
      omega
    · have hge : ¬ (j : Int) < (times : Int) := by omega
      have hz : times - j = 0 := by omega
      have hfin : layRow (lay l r) times next sts = (sj, nj) := by rw [HS.out.1, hz, layRow]
      have HF := Lib.hid hfin
      clear hfin
      go_wp2_with fail
      go_ret
      rw [HF.out]
      exact ⟨rfl, vj, HS.out.2.1, (Grew.of_below v ((Below.refl _ w).alloc (Nat.le_refl _) _)).trans HS.out.2.2⟩
end Go.Proofs.Ytmnghdccikoaoaa.Mt
