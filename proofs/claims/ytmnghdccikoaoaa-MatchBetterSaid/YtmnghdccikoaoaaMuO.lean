/-
  Package match's statements: New, whichever way; a tree in a later world; tree.
-/
import Derived.Test.YtmnghdccikoaoaaMuN
namespace Go.Proofs.Ytmnghdccikoaoaa.Mt
open Go.RowKit Go.Proofs.Ytmnghdccikoaoaa.Sh

theorem Lies.later {W W' : World} (hb : Below W.heap.size W W') {r : Re} {cs : List Value} (h : Lies W r cs) : Lies W' r cs := by
  induction h with
  | nil k s0 s1 s2 s3 a b sl cap => exact .nil ..
  | row k s0 s1 s2 s3 a b kids l o cap cs hcap hmax hcell _ ih =>
    exact .row k s0 s1 s2 s3 a b kids l o cap cs hcap hmax (fun i hi j v hv => (hb.cell (cell_lt (hcell i hi j v hv))).trans (hcell i hi j v hv)) ih

/- New, whichever way it goes. -/
theorem new_any {W0 : World} {r : Re} {cs : List Value} {w : World} (hin : ∀ l, inR l r) (hL : Lies W0 r cs) (hb : Below W0.heap.size W0 w) :
    Calls Try.prog 14 #[.agg ⟨cs⟩] w fun e w' => Below w.heap.size w w' ∧ ((∃ mb gs cap a, e = .returned (.tuple #[.pointer (some ⟨mb, 0, none⟩), .int .i64 0]) ∧ Fit r ∧ Made w' mb gs cap r a) ∨
      ∃ n : Int, n ≠ 0 ∧ e = .returned (.tuple #[.pointer none, .int .i64 n])) := by
  cases hr : rightB r with
  | false => exact (new_not hr hL hb).mono fun e w' h => ⟨h.2, .inr ⟨11, by decide, h.1⟩⟩
  | true =>
    by_cases hz : 20000 < sizeI r
    · exact (new_long hr hz hL hb).mono fun e w' h => ⟨h.2, .inr ⟨3, by decide, h.1⟩⟩
    · have hf : Fit r := ⟨hr, by omega, words_of 200 r (hin 200)⟩
      exact (new hf hL hb).mono fun e w' ⟨mb, gs, cap, a, h1, _, _, h2, h3⟩ => ⟨h3, .inl ⟨mb, gs, cap, a, h1, hf, h2⟩⟩

set_option maxRecDepth 100000 in
theorem treeCall (k : Int) (sl : Option Addr) (n cap : Nat) (w : World) :
    Calls Try.prog 22 #[.int .u8 k, .slice sl n cap] w fun e w' => e = .returned (.agg ⟨[.int .u8 k, .int .u64 0, .int .u64 0, .int .u64 0, .int .u64 0, .int .i64 0, .int .i64 0, .slice sl n cap]⟩) ∧ Below w.heap.size w w' := by
  go_enter Try.func22, Try.ntmps22
  go_wp2_with fail
  refine bodyPost_ret (v := .agg ⟨[.int .u8 k, .int .u64 0, .int .u64 0, .int .u64 0, .int .u64 0, .int .i64 0, .int .i64 0, .slice sl n cap]⟩) (by simp [results, Try.results22, go_sem]) rfl ?_
  exact ⟨rfl, (Below.refl _ _).alloc (Nat.le_refl _) _⟩
theorem new_unfit {W0 : World} {r : Re} {cs : List Value} {w : World} (hn : ¬ Fit r) (hin : ∀ l, inR l r) (hL : Lies W0 r cs) (hb : Below W0.heap.size W0 w) :
    Calls Try.prog 14 #[.agg ⟨cs⟩] w fun e w' => ∃ n : Int, n ≠ 0 ∧ e = .returned (.tuple #[.pointer none, .int .i64 n]) ∧ Below w.heap.size w w' :=
  (new_any hin hL hb).mono fun e w' h => by
    obtain ⟨h1, ⟨_, _, _, _, _, h2, _⟩ | ⟨n, h2, h3⟩⟩ := h
    · exact absurd h2 hn
    · exact ⟨n, h2, h3, h1⟩

/- Trees over trees that lie behind one another. -/
theorem lies_one {W : World} {x : Re} {cx : List Value} (hx : Lies W x cx) (l : Nat) (hc : ∀ j v, cx[j]? = some v → W.cell? ⟨l, j, none⟩ = some v) (k a b : Int) :
    Lies W (.mk k 0 0 0 0 a b [x]) [.int .u8 k, .int .u64 0, .int .u64 0, .int .u64 0, .int .u64 0, .int .i64 a, .int .i64 b, .slice (some ⟨l, 0, none⟩) 1 1] :=
  .row k 0 0 0 0 a b [x] l 0 1 (fun _ => cx) (Nat.le_refl _) (by decide) (fun i hi j v hv => by
    have e : i = 0 := by simp at hi; exact hi
    subst e
    rw [show 0 + 0 * 8 + j = j by omega]
    exact hc j v hv) (fun i r hr => by
    match i, hr with
    | 0, hr => simp at hr; subst hr; exact hx)
theorem lies_two {W : World} {x y : Re} {cx cy : List Value} (hx : Lies W x cx) (hy : Lies W y cy) (l : Nat) (hc : ∀ j v, cx[j]? = some v → W.cell? ⟨l, j, none⟩ = some v) (hd : ∀ j v, cy[j]? = some v → W.cell? ⟨l, 8 + j, none⟩ = some v) (k a b : Int) :
    Lies W (.mk k 0 0 0 0 a b [x, y]) [.int .u8 k, .int .u64 0, .int .u64 0, .int .u64 0, .int .u64 0, .int .i64 a, .int .i64 b, .slice (some ⟨l, 0, none⟩) 2 2] :=
  .row k 0 0 0 0 a b [x, y] l 0 2 (fun i => if i = 0 then cx else cy) (Nat.le_refl _) (by decide) (fun i hi j v hv => by
    have e : i = 0 ∨ i = 1 := by simp at hi; omega
    rcases e with rfl | rfl
    · rw [show 0 + 0 * 8 + j = j by omega]
      exact hc j v hv
    · rw [show 0 + 1 * 8 + j = 8 + j by omega]
      exact hd j v hv) (fun i r hr => by
    match i, hr with
    | 0, hr => simp at hr; subst hr; exact hx
    | 1, hr => simp at hr; subst hr; exact hy)
theorem inR_over {kids : List Re} (h : ∀ x ∈ kids, ∀ l, inR l x) {k a b : Int} (hk : 0 ≤ k ∧ k ≤ 255) (ha : -9223372036854775808 ≤ a ∧ a ≤ 9223372036854775807) (hb : -9223372036854775808 ≤ b ∧ b ≤ 9223372036854775807) : ∀ l, inR l (.mk k 0 0 0 0 a b kids)
  | 0 => trivial
  | l + 1 => ⟨⟨hk, by omega, by omega, by omega, by omega, ha, hb⟩, fun r hr => h r hr l⟩
end Go.Proofs.Ytmnghdccikoaoaa.Mt
