/-
  Package shape: right, for every tree.
-/
import Derived.Test.YtmnghdccikoaoaaShA
import Derived.LoopTactic
namespace Go.Proofs.Ytmnghdccikoaoaa.Sh
open Go.RowKit

def rights (f : Re → Int → Bool × Int) : List Re → Int → Bool × Int
  | [], n => (true, n)
  | r :: l, n => if (f r n).1 = true then rights f l (f r n).2 else (false, (f r n).2)
def rightG : Nat → Re → Int → Bool × Int
  | 0, _, n => (false, n - 1)
  | l + 1, .mk k s0 s1 s2 s3 a b kids, n => if n - 1 < 0 ∨ fitsI k s0 s1 s2 s3 a b kids.length = false then (false, n - 1) else rights (rightG l) kids (n - 1)

/- All blocks of a world are as they were, but p. -/
structure But (p : Nat) (w w' : World) : Prop where
  os : w'.os = w.os
  tape : w'.tape = w.tape
  output : w'.output = w.output
  size : w.heap.size ≤ w'.heap.size
  block : ∀ k, k < w.heap.size → k ≠ p → w'.heap[k]? = w.heap[k]?
theorem But.refl (p : Nat) (w : World) : But p w w := ⟨rfl, rfl, rfl, Nat.le_refl _, fun _ _ _ => rfl⟩
theorem But.trans {p : Nat} {a b c : World} (h : But p a b) (k : But p b c) : But p a c :=
  ⟨k.os.trans h.os, k.tape.trans h.tape, k.output.trans h.output, Nat.le_trans h.size k.size, fun i hi hn => (k.block i (Nat.lt_of_lt_of_le hi h.size) hn).trans (h.block i hi hn)⟩
theorem But.of_below {p : Nat} {a b : World} (h : Below a.heap.size a b) : But p a b := ⟨h.os, h.tape, h.output, h.size, fun k hk _ => h.block k hk⟩
theorem But.below {p B : Nat} {a b : World} (h : But p a b) (hB : B ≤ p) (hB2 : B ≤ a.heap.size) : Below B a b :=
  ⟨h.os, h.tape, h.output, h.size, fun k hk => h.block k (by omega) (by omega)⟩
theorem But.setCell {p : Nat} {a w : World} (h : But p a w) (o : Nat) (u : Value) : But p a (w.setCell ⟨p, o, none⟩ u) :=
  h.trans ⟨rfl, rfl, rfl, by simp [World.setCell], fun k _ hn => Below.heap_setCell w ⟨p, o, none⟩ u k hn⟩

theorem rights_bound {f : Re → Int → Bool × Int} (hf : ∀ r n, 0 ≤ n → (f r n).1 = true → 0 ≤ (f r n).2 ∧ (f r n).2 ≤ n) : ∀ (l : List Re) (n : Int), 0 ≤ n → (rights f l n).1 = true → 0 ≤ (rights f l n).2 ∧ (rights f l n).2 ≤ n
  | [], n, h, _ => ⟨h, Int.le_refl _⟩
  | r :: l, n, h, h1 => by
    unfold rights at h1 ⊢
    split at h1
    · rename_i hr
      rw [if_pos hr]
      have h2 := hf r n h hr
      have h3 := rights_bound hf l _ h2.1 h1
      omega
    · simp at h1
theorem rightG_bound : ∀ (l : Nat) (r : Re) (n : Int), 0 ≤ n → (rightG l r n).1 = true → 0 ≤ (rightG l r n).2 ∧ (rightG l r n).2 ≤ n
  | 0, _, n, _, h1 => by simp [rightG] at h1
  | l + 1, .mk k s0 s1 s2 s3 a b kids, n, h, h1 => by
    unfold rightG at h1 ⊢
    split at h1
    · simp at h1
    · rename_i hn
      rw [if_neg hn]
      have := rights_bound (rightG_bound l) kids (n - 1) (by omega) h1
      omega
theorem rights_step {f : Re → Int → Bool × Int} {kids : List Re} {j : Nat} {kid : Re} (h : kids[j]? = some kid) (m : Int) : rights f (kids.drop j) m = if (f kid m).1 = true then rights f (kids.drop (j + 1)) (f kid m).2 else (false, (f kid m).2) := by
  obtain ⟨hj, rfl⟩ := List.getElem?_eq_some_iff.mp h
  rw [List.drop_eq_getElem_cons hj, rights]
theorem cell_lt {w : World} {a : Addr} {v : Value} (h : w.cell? a = some v) : a.block < w.heap.size := by
  rcases Nat.lt_or_ge a.block w.heap.size with h1 | h1
  · exact h1
  · simp [World.cell?, Array.getElem?_eq_none h1] at h

/- The counter's cell, and what else is as it was. -/
def Start (p : Nat) (m : Int) (w w' : World) : Prop := w'.cell? ⟨p, 0, none⟩ = some (.int .i64 m) ∧ w'.frozen? ⟨p, 0, none⟩ = false ∧ But p w w'
theorem Start.made {p : Nat} {w : World} {n : Int} (hc : w.cell? ⟨p, 0, none⟩ = some (.int .i64 n)) (hf : w.frozen? ⟨p, 0, none⟩ = false) (m : Int) (o : Obj) : Start p m w ((w.setCell ⟨p, 0, none⟩ (.int .i64 m)).alloc o) := by
  have hpl := cell_lt hc
  have hsz : (w.setCell ⟨p, 0, none⟩ (.int .i64 m)).heap.size = w.heap.size := by simp [World.setCell]
  refine ⟨?_, ?_, ?_⟩
  · exact (((Below.refl _ (w.setCell ⟨p, 0, none⟩ (.int .i64 m))).alloc (Nat.le_refl _) o).cell (p := ⟨p, 0, none⟩) (by rw [hsz]; exact hpl)).trans (World.cell?_setCell_same' w _ _ (by rw [hc]; rfl))
  · exact (((Below.refl _ (w.setCell ⟨p, 0, none⟩ (.int .i64 m))).alloc (Nat.le_refl _) o).frozen (p := ⟨p, 0, none⟩) (by rw [hsz]; exact hpl)).trans (by rw [World.frozen?_setCell]; exact hf)
  · exact ((But.refl p w).setCell 0 _).trans (.of_below ((Below.refl _ _).alloc (Nat.le_refl _) o))
theorem Start.after {p : Nat} {m : Int} {a b c : World} (h : Start p m a b) (hb : Below b.heap.size b c) : Start p m a c := by
  have hpl := cell_lt h.1
  exact ⟨(hb.cell (p := ⟨p, 0, none⟩) hpl).trans h.1, (hb.frozen (p := ⟨p, 0, none⟩) hpl).trans h.2.1, h.2.2.trans (.of_below hb)⟩
theorem made_seven {p : Nat} {w w2 : World} {m : Int} {c : Array Value} {t : TypeId} {v : Value} (h : Below ((w.setCell ⟨p, 0, none⟩ (.int .i64 m)).alloc (.cells c t)).heap.size ((w.setCell ⟨p, 0, none⟩ (.int .i64 m)).alloc (.cells c t)) w2) (hv : c[7]? = some v) :
    w2.cell? ⟨w.heap.size, 7, none⟩ = some v := by
  have hsz : (w.setCell ⟨p, 0, none⟩ (.int .i64 m)).heap.size = w.heap.size := by simp [World.setCell]
  have h1 : ((w.setCell ⟨p, 0, none⟩ (.int .i64 m)).alloc (.cells c t)).cell? ⟨w.heap.size, 7, none⟩ = some v := by
    rw [World.cell?_alloc_at]
    · exact hv
    · exact hsz.symm
  rw [h.cell (p := ⟨w.heap.size, 7, none⟩) (cell_lt h1)]
  exact h1

theorem round_end {l j p : Nat} {m : Int} {kids : List Re} {R : Bool × Int} {w wr w2 : World} {o : Obj} (hlen : kids.length ≤ maxLen) (hlt : j < kids.length) (hm0 : 0 ≤ m) (hm1 : m ≤ 10000) (h1 : (rightG l kids[j] m).1 = true)
    (hR : R = rights (rightG l) (kids.drop (j + 1)) (rightG l kids[j] m).2) (hS : Start p m w wr) (hW : w2.cell? ⟨p, 0, none⟩ = some (.int .i64 (rightG l kids[j] m).2) ∧ w2.frozen? ⟨p, 0, none⟩ = false ∧ But p (wr.alloc o) w2) :
    (∃ (j' : Nat) (m' : Int), j' ≤ kids.length ∧ Value.int .i64 (wrap64 ((j : Int) + 1)) = .int .i64 j' ∧ 0 ≤ m' ∧ m' ≤ 10000 ∧ R = rights (rightG l) (kids.drop j') m' ∧ Start p m' w w2) ∧
      kids.length - (intOf (Value.int .i64 (wrap64 ((j : Int) + 1)))).toNat < kids.length - (intOf (Value.int .i64 (j : Int))).toNat := by
  have hb := rightG_bound l _ m hm0 h1
  have hw1 : wrap64 ((j : Int) + 1) = ((j + 1 : Nat) : Int) := by
    unfold maxLen at hlen
    unfold wrap64
    omega
  rw [hw1]
  refine ⟨⟨j + 1, (rightG l kids[j] m).2, by omega, rfl, hb.1, by omega, hR, hW.1, hW.2.1, (hS.2.2.trans (.of_below ((Below.refl _ _).alloc (Nat.le_refl _) _))).trans hW.2.2⟩, ?_⟩
  simp only [intOf, Int.toNat_natCast]
  omega

set_option maxRecDepth 100000 in
theorem right (W0 : World) : ∀ (l : Nat) (r : Re) (cs : List Value) (n : Int) (p : Nat) (w : World), l ≤ 200 → 0 ≤ n → n ≤ 10000 → Lies W0 r cs → Below W0.heap.size W0 w → W0.heap.size ≤ p → w.cell? ⟨p, 0, none⟩ = some (.int .i64 n) → w.frozen? ⟨p, 0, none⟩ = false →
    Calls Try.prog 50 #[.agg ⟨cs⟩, .int .i64 l, .pointer (some ⟨p, 0, none⟩)] w
      fun e w' => e = .returned (.bool (rightG l r n).1) ∧ w'.cell? ⟨p, 0, none⟩ = some (.int .i64 (rightG l r n).2) ∧ w'.frozen? ⟨p, 0, none⟩ = false ∧ But p w w' := by
  intro l
  induction l with
  | zero =>
    intro r cs n p w hl h0 hn hr hb hp hc hf
    obtain ⟨k, s0, s1, s2, s3, a, b, kids, sl, cap, rfl, rfl, hlen, hkid⟩ := hr.open
    have hpl : p < w.heap.size := cell_lt hc
    go_enter Try.func50, Try.ntmps50
    go_wp2_with fail
    all_goals go_ret
    all_goals refine ⟨by simp [rightG], ?_, ?_, ?_⟩
    all_goals first
      | exact (Start.made hc hf _ _).2.2
      | (simp only [rightG]; exact (Start.made hc hf _ _).1)
      | exact (Start.made hc hf _ _).2.1
  | succ l ih =>
    intro r cs n p w hl h0 hn hr hb hp hc hf
    obtain ⟨k, s0, s1, s2, s3, a, b, kids, sl, cap, rfl, rfl, hlen, hkid⟩ := hr.open
    have hpl : p < w.heap.size := cell_lt hc
    have hl' : ¬ ((l : Int) + 1 < 1) := by omega
    by_cases hn1 : n - 1 < 0
    · go_enter Try.func50, Try.ntmps50
      go_wp2_with fail
      all_goals go_ret
      all_goals refine ⟨by simp [rightG, hn1], ?_, ?_, ?_⟩
      all_goals first
        | exact (Start.made hc hf _ _).2.2
        | (simp only [rightG, hn1, true_or, if_true]; exact (Start.made hc hf _ _).1)
        | exact (Start.made hc hf _ _).2.1
    cases hfit : fitsI k s0 s1 s2 s3 a b kids.length with
    | false =>
      go_enter Try.func50, Try.ntmps50
      go_wp2_with (go_at_call 65; refine (fits _ _ _ _ _ _ _ _ _ _ hlen _).mono ?_; rw [hfit]; rintro e w2 ⟨rfl, hw2⟩)
      all_goals go_ret
      all_goals refine ⟨by simp [rightG, hfit], ?_, ?_, ?_⟩
      all_goals have hm := (Start.made hc hf _ _).after hw2
      all_goals first
        | exact hm.2.2
        | (simp only [rightG, hfit, or_true, if_true]; exact hm.1)
        | exact hm.2.1
    | true =>
      go_enter Try.func50, Try.ntmps50
      go_wp2_with (go_at_call 65; refine (fits _ _ _ _ _ _ _ _ _ _ hlen _).mono ?_; rw [hfit]; rintro e w2 ⟨rfl, hw2⟩; have hc7 := made_seven hw2 rfl)
      have hm := (Start.made hc hf (n - 1) (.cells ⟨[.int .u8 k, .int .u64 s0, .int .u64 s1, .int .u64 s2, .int .u64 s3, .int .i64 a, .int .i64 b, .slice sl kids.length cap]⟩ 34)).after hw2
      have hG : rightG (l + 1) (.mk k s0 s1 s2 s3 a b kids) n = rights (rightG l) kids (n - 1) := by rw [rightG, if_neg (by rw [hfit]; simp; omega)]
      have HN := Lib.hid hG
      have HM := Lib.hid hm
      have HG := Lib.hid hkid
      clear hm hG hw2 hc7 hr hkid hc hf
      go_loopw [30] (fun i wr => ∃ (j : Nat) (m : Int), j ≤ kids.length ∧ i = .int .i64 j ∧ 0 ≤ m ∧ m ≤ 10000 ∧ rights (rightG l) kids (n - 1) = rights (rightG l) (kids.drop j) m ∧ Start p m w wr) (fun i _ => kids.length - (intOf i).toNat)
      case atStart => exact ⟨0, n - 1, Nat.zero_le _, rfl, by omega, by omega, by simp, HM.out⟩
      case round =>
        obtain ⟨j, m, hj, rfl, hm0, hm1, hR, hS⟩ := hrel
        by_cases hlt : j < kids.length
        · obtain ⟨lb, o, ks, rfl, hcells, hk⟩ := HG.out j _ (List.getElem?_eq_getElem hlt)
          have hB : Below W0.heap.size W0 wr := hb.trans (hS.2.2.below hp hb.size)
          obtain ⟨k', s0', s1', s2', s3', a', b', kids', sl', cap', hr', rfl, _, _⟩ := hk.open
          have f : ∀ jj v, [Value.int .u8 k', .int .u64 s0', .int .u64 s1', .int .u64 s2', .int .u64 s3', .int .i64 a', .int .i64 b', .slice sl' kids'.length cap'][jj]? = some v → wr.cell? ⟨lb, o + j * 8 + jj, none⟩ = some v := fun jj v h => (hB.cell (cell_lt (hcells jj v h))).trans (hcells jj v h)
          have f0 : wr.cell? ⟨lb, o + j * 8, none⟩ = some (.int .u8 k') := f 0 _ rfl
          have f1 := f 1 _ rfl
          have f2 := f 2 _ rfl
          have f3 := f 3 _ rfl
          have f4 := f 4 _ rfl
          have f5 := f 5 _ rfl
          have f6 := f 6 _ rfl
          have f7 := f 7 _ rfl
          have hlt' : (j : Int) < (kids.length : Int) := by omega
          have HS := Lib.hid hS
          have HB := Lib.hid hB
          have HR := Lib.hid hR
          have HK := Lib.hid hk
          clear f hcells hS hB hR hk hb hr'
          go_wp2_with (go_at_call 50; refine (ih _ _ m p _ (by omega) hm0 hm1 HK.out (HB.out.alloc HB.out.size _) hp (HS.out.after ((Below.refl _ _).alloc (Nat.le_refl _) _)).1 (HS.out.after ((Below.refl _ _).alloc (Nat.le_refl _) _)).2.1).mono ?_; rintro e w2 ⟨rfl, hw2⟩; have HW := Lib.hid hw2; clear hw2)
          · have h1 : (rightG l kids[j] m).1 = false := by simpa using ‹(!(rightG l kids[j] m).fst) = true›
            have hres : rightG (l + 1) (.mk k s0 s1 s2 s3 a b kids) n = (false, (rightG l kids[j] m).2) := by
              rw [HN.out, HR.out, rights_step (List.getElem?_eq_getElem hlt), if_neg (by simp [h1])]
            go_ret
            exact ⟨by rw [hres]; rfl, by rw [hres]; exact HW.out.1, HW.out.2.1, (HS.out.2.2.trans (.of_below ((Below.refl _ _).alloc (Nat.le_refl _) _))).trans HW.out.2.2⟩
          · have h1 : (rightG l kids[j] m).1 = true := by simpa using ‹(!(rightG l kids[j] m).fst) = false›
            go_light
            exact round_end hlen hlt hm0 hm1 h1 (HR.out.trans (by rw [rights_step (List.getElem?_eq_getElem hlt), if_pos h1])) HS.out HW.out
        · have hres : rightG (l + 1) (.mk k s0 s1 s2 s3 a b kids) n = (true, m) := by
            rw [HN.out, hR, List.drop_eq_nil_of_le (by omega), rights]
          have HS := Lib.hid hS
          have hge : ¬ (j : Int) < (kids.length : Int) := by omega
          clear hS hR
          go_wp2_with fail
          go_ret
          exact ⟨rfl, HS.out.1, HS.out.2.1, HS.out.2.2⟩
end Go.Proofs.Ytmnghdccikoaoaa.Sh
