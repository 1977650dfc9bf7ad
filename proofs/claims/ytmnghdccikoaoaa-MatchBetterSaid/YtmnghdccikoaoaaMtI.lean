/-
  Package match: the states of a tree (tree): times; all trees.
-/
import Derived.Test.YtmnghdccikoaoaaMtH
namespace Go.Proofs.Ytmnghdccikoaoaa.Mt
open Go.RowKit Go.Proofs.Ytmnghdccikoaoaa.Sh

/- A region that draws, whose calls stand at its end: the world ahead of them is a letter. -/
theorem wp_region_tail {P : Program} {id : Nat} {Q : Exit → Act → World → Prop} {a : Act} {w : World} {l : List Oper} (n : Nat) (hm : P.follows .mixedOrders = true) (hB : Region.lexTailB .any l.toArray n = true)
    (h : ∀ w2, Below w.heap.size w w2 → (∀ p, w2.cell? p = w.cell? p) → wpStill P l.toArray w2 (fun a' => wpList P l.toArray Q (l.drop n) a' w2) (l.take n) a) : (Code.region id l.toArray true).wp P Q a w :=
  wp_region_still_tail n hm hB (h { w with drawn := w.drawn + 1 } ⟨rfl, rfl, rfl, Nat.le_refl _, fun _ _ => rfl⟩ fun _ => rfl)

set_option maxRecDepth 100000 in
theorem tree_times {W0 : World} {l : Nat} (ht : TreeOk W0 l) {s0 s1 s2 s3 : Int} {la : Nat} {b : Int} {kid : Re} {lb o cap : Nat} {n : Int} {B pb : Nat} {v : Value} {sts : List St} {next : Int} {w : World}
    (h0 : 0 ≤ n) (hn : n ≤ 10000) (hk : Kids W0 l n lb o [kid]) (hla : la ≤ 255) (hab : b = -1 ∨ ∃ d : Nat, b = (la : Int) + d ∧ la + d ≤ 255) (hW : Below W0.heap.size W0 w) (hB0 : W0.heap.size ≤ B) (hB : B ≤ w.heap.size) (hb : Bld w B pb v sts) (hlen : (layTimes (lay l kid) la b next sts).1.length ≤ 100000) :
    Calls Try.prog 35 #[.pointer (some ⟨pb, 0, none⟩), .agg ⟨[.int .u8 7, .int .u64 s0, .int .u64 s1, .int .u64 s2, .int .u64 s3, .int .i64 la, .int .i64 b, .slice (some ⟨lb, o, none⟩) 1 cap]⟩, .int .i64 next] w
      fun e w' => e = .returned (.int .i64 (layTimes (lay l kid) la b next sts).2) ∧ ∃ v', Bld w' B pb v' (layTimes (lay l kid) la b next sts).1 ∧ Grew pb w v w' v' := by
  obtain ⟨ks, m, hc, hL, hm0, hm1, hmr⟩ := hk 0 kid rfl
  obtain ⟨k', s0', s1', s2', s3', a', b', kids', sl', cap2, hr', rfl, _, _⟩ := hL.open
  have f : ∀ jj v, [Value.int .u8 k', .int .u64 s0', .int .u64 s1', .int .u64 s2', .int .u64 s3', .int .i64 a', .int .i64 b', .slice sl' kids'.length cap2][jj]? = some v → w.cell? ⟨lb, o + jj, none⟩ = some v := fun jj v h => by
    have h1 := hc jj v h
    rw [Nat.zero_mul, Nat.add_zero] at h1
    exact (hW.cell (cell_lt h1)).trans h1
  have g0 : w.cell? ⟨lb, o, none⟩ = some (.int .u8 k') := f 0 _ rfl
  have g1 := f 1 _ rfl
  have g2 := f 2 _ rfl
  have g3 := f 3 _ rfl
  have g4 := f 4 _ rfl
  have g5 := f 5 _ rfl
  have g6 := f 6 _ rfl
  have g7 := f 7 _ rfl
  have hlb : lb < w.heap.size := cell_lt g0
  have HB := Lib.hid hb
  have HW := Lib.hid hW
  have HT := Lib.hid ht
  have HL := Lib.hid hL
  have HR := Lib.hid hmr
  have HN := Lib.hid hlen
  clear hb hW ht hlen hk hL hmr hr' f hc
  rcases hab with rfl | ⟨d, rfl, hd⟩
  · go_enter Try.func35, Try.ntmps35
    go_wp2_with fail
    refine wp_region_tail 10 (by kernel_rfl) (by kernel_rfl) ?_
    intro w2 hw2 hc2
    have b5 : w2.cell? ⟨w.heap.size, 5, none⟩ = some (.int .i64 la) := (hc2 _).trans (by rw [World.cell?_alloc_at _ _ _ _ rfl]; rfl)
    have b6 : w2.cell? ⟨w.heap.size, 6, none⟩ = some (.int .i64 (-1)) := (hc2 _).trans (by rw [World.cell?_alloc_at _ _ _ _ rfl]; rfl)
    have b7 : w2.cell? ⟨w.heap.size, 7, none⟩ = some (.slice (some ⟨lb, o, none⟩) 1 cap) := (hc2 _).trans (by rw [World.cell?_alloc_at _ _ _ _ rfl]; rfl)
    have f : ∀ j u, w.cell? ⟨lb, j, none⟩ = some u → w2.cell? ⟨lb, j, none⟩ = some u := fun j u h => (hc2 _).trans ((((Below.refl _ w).alloc (Nat.le_refl _) _).cell (p := ⟨lb, j, none⟩) hlb).trans h)
    have q0 := f _ _ g0
    have q1 := f _ _ g1
    have q2 := f _ _ g2
    have q3 := f _ _ g3
    have q4 := f _ _ g4
    have q5 := f _ _ g5
    have q6 := f _ _ g6
    have q7 := f _ _ g7
    have H2 := Lib.hid hw2
    clear f hc2 hw2 g0 g1 g2 g3 g4 g5 g6 g7
    simp only [List.take_succ_cons, List.take_zero, List.drop_succ_cons, List.drop_zero]
    repeat still_step
    refine wpStill_nil ?_
    go_wp2_with (go_at_call 52; refine (timesMany HT.out kid _ m B pb v sts next la w2 hm0 (by omega) HR.out HL.out ((HW.out.alloc HW.out.size _).trans (H2.out.mono (Nat.le_trans HW.out.size (two_size (Nat.le_refl _))))) hB0 (Nat.le_trans (two_size hB) H2.out.size) ((HB.out.box _).below H2.out) hla HN.out).mono ?_; rintro e w3 ⟨rfl, v3, hb3⟩; have HC := Lib.hid hb3; clear hb3)
    go_ret
    exact ⟨rfl, v3, HC.out.1, ((Grew.box _ _ _ _).trans (.of_below v H2.out)).trans HC.out.2⟩
  · go_enter Try.func35, Try.ntmps35
    go_wp2_with fail
    refine wp_region_tail 10 (by kernel_rfl) (by kernel_rfl) ?_
    intro w2 hw2 hc2
    have b5 : w2.cell? ⟨w.heap.size, 5, none⟩ = some (.int .i64 la) := (hc2 _).trans (by rw [World.cell?_alloc_at _ _ _ _ rfl]; rfl)
    have b6 : w2.cell? ⟨w.heap.size, 6, none⟩ = some (.int .i64 ((la : Int) + d)) := (hc2 _).trans (by rw [World.cell?_alloc_at _ _ _ _ rfl]; rfl)
    have b7 : w2.cell? ⟨w.heap.size, 7, none⟩ = some (.slice (some ⟨lb, o, none⟩) 1 cap) := (hc2 _).trans (by rw [World.cell?_alloc_at _ _ _ _ rfl]; rfl)
    have f : ∀ j u, w.cell? ⟨lb, j, none⟩ = some u → w2.cell? ⟨lb, j, none⟩ = some u := fun j u h => (hc2 _).trans ((((Below.refl _ w).alloc (Nat.le_refl _) _).cell (p := ⟨lb, j, none⟩) hlb).trans h)
    have q0 := f _ _ g0
    have q1 := f _ _ g1
    have q2 := f _ _ g2
    have q3 := f _ _ g3
    have q4 := f _ _ g4
    have q5 := f _ _ g5
    have q6 := f _ _ g6
    have q7 := f _ _ g7
    have H2 := Lib.hid hw2
    clear f hc2 hw2 g0 g1 g2 g3 g4 g5 g6 g7
    simp only [List.take_succ_cons, List.take_zero, List.drop_succ_cons, List.drop_zero]
    repeat still_step
    refine wpStill_nil ?_
    go_wp2_with (go_at_call 52; refine (timesSome HT.out kid _ m B pb v sts next la d w2 hm0 (by omega) HR.out HL.out ((HW.out.alloc HW.out.size _).trans (H2.out.mono (Nat.le_trans HW.out.size (two_size (Nat.le_refl _))))) hB0 (Nat.le_trans (two_size hB) H2.out.size) ((HB.out.box _).below H2.out) hd HN.out).mono ?_; rintro e w3 ⟨rfl, v3, hb3⟩; have HC := Lib.hid hb3; clear hb3)
    go_ret
    exact ⟨rfl, v3, HC.out.1, ((Grew.box _ _ _ _).trans (.of_below v H2.out)).trans HC.out.2⟩

theorem treeOk (W0 : World) : ∀ l, TreeOk W0 l
  | 0 => fun r cs n B pb v sts next w h0 hn hr => by simp [rightG] at hr
  | l + 1 => fun r cs n B pb v sts next w h0 hn hr hL hW hB0 hB hb hlen => by
    obtain ⟨k, s0, s1, s2, s3, a, b, kids⟩ := r
    obtain ⟨hfit, ha0, ha1, hb0, hb1, hln, hks⟩ := right_open hr
    have ht := treeOk W0 l
    rcases fits_kind hfit with h | h | h | h | ⟨rfl, h2⟩ | ⟨rfl, h2⟩ | ⟨rfl, h1, hf⟩
    · exact tree_plain (.inl h) hL hB hb hlen
    · exact tree_plain (.inr (.inl h)) hL hB hb hlen
    · exact tree_plain (.inr (.inr (.inl h))) hL hB hb hlen
    · exact tree_plain (.inr (.inr (.inr h))) hL hB hb hlen
    · obtain ⟨lb, o, cap, rfl, hcap, _, hkid⟩ := kids_open hL (by omega)
      have e : lay (l + 1) (.mk 5 s0 s1 s2 s3 a b kids) next sts = layCat (lay l) kids next sts := by simp [lay]
      rw [e] at hlen ⊢
      exact tree_cat ht h0 hn (kids_of hkid hks) h2 (by omega) hW hB0 hB hb hlen
    · obtain ⟨lb, o, cap, rfl, hcap, _, hkid⟩ := kids_open hL (by omega)
      cases kids with
      | nil => simp at h2
      | cons k0 rest =>
        simp only [List.length_cons] at h2 hcap hln ⊢
        have e : lay (l + 1) (.mk 6 s0 s1 s2 s3 a b (k0 :: rest)) next sts = layAlt (lay l) (k0 :: rest) next sts := by simp [lay]
        rw [e] at hlen ⊢
        exact tree_alt ht h0 hn (kids_of hkid hks) (by omega) (by omega) hcap hW hB0 hB hb hlen
    · obtain ⟨lb, o, cap, rfl, hcap, _, hkid⟩ := kids_open hL (by omega)
      match kids, h1 with
      | [kid], _ =>
        obtain ⟨la, rfl⟩ : ∃ la : Nat, a = la := ⟨a.toNat, by omega⟩
        have e : lay (l + 1) (.mk 7 s0 s1 s2 s3 la b [kid]) next sts = layTimes (lay l kid) la b next sts := by simp [lay]
        rw [e] at hlen ⊢
        have hab : b = -1 ∨ ∃ d : Nat, b = (la : Int) + d ∧ la + d ≤ 255 := by
          unfold timesFitI at hf
          simp only [decide_eq_true_eq] at hf
          rcases hf.2.2 with h | h
          · exact .inl h
          · exact .inr ⟨(b - la).toNat, by omega, by omega⟩
        exact tree_times ht h0 hn (kids_of hkid hks) (by omega) hab hW hB0 hB hb hlen
end Go.Proofs.Ytmnghdccikoaoaa.Mt
