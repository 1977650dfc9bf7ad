/-
  The document's world: a stream opened (Opened).
-/
import Derived.Test.YthbkcdbmimhhkaaRwE
namespace Go.Proofs.Ythbkcdbmimhhkaa.Rw
open Go.RowKit Go.Maps Wo

theorem fileA_data (r : RSt) (n : ByteArray) : fileA (lookF n r.files) = .tuple #[.string (rData r n), .bool (lookF n r.files).isSome] := by
  unfold fileA rData
  cases lookF n r.files <;> rfl
def replyV (S : Scpt) (n : ByteArray) : Array Value := match lookR n S.reps with | some p => #[.string p.cmd, .string p.out, .int .i64 p.status] | none => #[.string noText, .string noText, .int .i64 0]
theorem replyA_data (S : Scpt) (n : ByteArray) : ∃ c : ByteArray, replyA (lookR n S.reps) = .tuple #[.agg #[.string c, .string (rOut S n), .int .i64 (rStat S n)], .bool (lookR n S.reps).isSome] := by
  unfold replyA rOut rStat
  cases lookR n S.reps with
  | none => exact ⟨noText, rfl⟩
  | some p => exact ⟨p.cmd, rfl⟩
theorem Run.hand {w wr : World} {S : Scpt} {r r' : RSt} {s s' : Shp} {b0 b2 : Nat} (h : Run w wr S r s b0 b2) (hr : RefAt wr S r' s') (he : s'.scr = s.scr) : RefAt (put12 wr b2 S r' s') S r' s' ∧ Below w.heap.size w (put12 wr b2 S r' s') ∧ RBox (put12 wr b2 S r' s') b2 S r' s' :=
  ⟨hr.kept (old_scr h.old he) (put12_below h.below h.lt.2.1 _ _ _) h.res (fun k hk => put12_heap _ _ _ _ _ hk), put12_below h.below h.lt.2.1 _ _ _, rbox_of (put12_blk h.res rfl _ _ _)⟩
theorem rOpened_eq (S : Scpt) (r : RSt) (k : Int) (n : ByteArray) : rOpened S r k n = eventR { rBegun r k n with opn := (rBegun r k n).opn ++ [rStrm S r k n] } ⟨1, k, n, noText, 0⟩ := by
  have e2 : (rBegun r k n).opn = r.opn ∧ (rBegun r k n).events = r.events := by
    unfold rBegun
    split
    · exact ⟨rfl, rfl⟩
    · split <;> exact ⟨rfl, rfl⟩
  unfold rOpened eventR
  simp only [e2.1, e2.2]
theorem Own.base0 {w : World} {B : Nat} {t : TypeId} {k : Nat} {v : Value} {n : Nat} {xs : List Value} (h : w.ownsRow B t k v n xs) : w.ownsRow 0 t k v n xs := by
  refine ⟨h.1, ?_⟩
  rcases h.2 with h1 | ⟨g, oc, cur, h1, h2, h3⟩
  · exact .inl h1
  · exact .inr ⟨g, oc, cur, h1, Nat.zero_le _, h3⟩
structure Fewer (S : Scpt) (r : RSt) : Prop where
  reps : S.reps.length ≤ 1000000
  fails : S.fails.length ≤ 1000000
  files : r.files.length ≤ 1000000
  opn : r.opn.length ≤ 100000
  events : r.events.length ≤ 1000000
abbrev OpenPost (w : World) (S : Scpt) (r : RSt) (s : Shp) (k : Int) (n : ByteArray) (x : Ending) (w' : World) : Prop := ∃ s', x = .returned (.tuple #[.agg (s'.cells S (rOpenS S r k n)), .int .i64 (rOpenE S r k n)]) ∧ s'.scr = s.scr ∧ RefAt w' S (rOpenS S r k n) s' ∧ Below w.heap.size w w'
section
variable {w : World} {S : Scpt} {r : RSt} {s : Shp}
set_option maxHeartbeats 4000000 in
set_option maxRecDepth 100000 in
theorem openedA (h : RefAt w S r s) (k : Int) (n : ByteArray) (hf : Fewer S r) (hk : ¬ (1 ≤ k ∧ k ≤ 5)) :
    Calls Try.prog 31 #[.agg (s.cells S r), .int .u8 k, .string n] w (OpenPost w S r s k n) := by
  have he : rOpenE S r k n = 2 := by unfold rOpenE; rw [if_pos hk]
  have hx : rOpenS S r k n = r := if_neg fun e => hk e.1
  unfold OpenPost
  rw [he, hx]
  by_cases h1 : k < 1
  · clear hk he hx
    have hR := Run.two h
    go_enter Try.func31, Try.ntmps31
    go_upto_region 1 with fail
    obtain ⟨wA, hA⟩ : ∃ wA, wA = (w.alloc (.cells (s.cells S r) 38)).alloc (.cells #[.slice none 0 0, .string ⟨#[]⟩, .slice none 0 0, .slice none 0 0, .int .i64 0, .int .i64 0, .int .u64 0, .slice none 0 0, .int .i64 0, .slice none 0 0, .int .u64 0, .slice none 0 0] 38) := ⟨_, rfl⟩
    rw [← hA] at hR ⊢
    clear hA
    generalize w.heap.size + 1 = b2 at *
    generalize w.heap.size = b0 at hR ⊢
    have HR := Lib.hid (⟨h, hR⟩ : _ ∧ _)
    clear h hR
    obtain ⟨y0, y1, y2, y3, y4, y5, y6, y7, y8, y9, y10, y11, _, _⟩ := (HR.out.2).rbox
    go_upto_region 2 with fail
    obtain ⟨y0, y1, y2, y3, y4, y5, y6, y7, y8, y9, y10, y11, _, _⟩ := (HR.out.2).rbox
    obtain ⟨q0, q1, q2, q3, q4, q5, q6, q7, q8, q9, q10, q11, qz, _⟩ := (HR.out.2).rres
    have qz0 := qz 0
    have qz1 := qz 1
    have qz2 := qz 2
    have qz3 := qz 3
    have qz4 := qz 4
    have qz5 := qz 5
    have qz6 := qz 6
    have qz7 := qz 7
    have qz8 := qz 8
    have qz9 := qz 9
    have qz10 := qz 10
    have qz11 := qz 11
    clear qz
    go_wp2_with fail
    rw [put12_def]
    obtain ⟨d1, d2, d3⟩ := (HR.out.2).done
    obtain ⟨z0, z1, z2, z3, z4, z5, z6, z7, z8, z9, z10, z11, _, _⟩ := d3
    generalize put12 wA b2 S r s = w9 at *
    refine bodyPost_ret (v := .tuple #[.agg (s.cells S r), .int .i64 2]) (by simp [results, Try.results31, go_sem, z0, z1, z2, z3, z4, z5, z6, z7, z8, z9, z10, z11]) rfl ?_
    exact ⟨s, rfl, rfl, d1, d2⟩
  · have h2 : 5 < k := by omega
    clear hk he hx
    have hR := Run.two h
    go_enter Try.func31, Try.ntmps31
    go_upto_region 1 with fail
    obtain ⟨wA, hA⟩ : ∃ wA, wA = (w.alloc (.cells (s.cells S r) 38)).alloc (.cells #[.slice none 0 0, .string ⟨#[]⟩, .slice none 0 0, .slice none 0 0, .int .i64 0, .int .i64 0, .int .u64 0, .slice none 0 0, .int .i64 0, .slice none 0 0, .int .u64 0, .slice none 0 0] 38) := ⟨_, rfl⟩
    rw [← hA] at hR ⊢
    clear hA
    generalize w.heap.size + 1 = b2 at *
    generalize w.heap.size = b0 at hR ⊢
    have HR := Lib.hid (⟨h, hR⟩ : _ ∧ _)
    clear h hR
    obtain ⟨y0, y1, y2, y3, y4, y5, y6, y7, y8, y9, y10, y11, _, _⟩ := (HR.out.2).rbox
    go_upto_region 2 with fail
    obtain ⟨y0, y1, y2, y3, y4, y5, y6, y7, y8, y9, y10, y11, _, _⟩ := (HR.out.2).rbox
    obtain ⟨q0, q1, q2, q3, q4, q5, q6, q7, q8, q9, q10, q11, qz, _⟩ := (HR.out.2).rres
    have qz0 := qz 0
    have qz1 := qz 1
    have qz2 := qz 2
    have qz3 := qz 3
    have qz4 := qz 4
    have qz5 := qz 5
    have qz6 := qz 6
    have qz7 := qz 7
    have qz8 := qz 8
    have qz9 := qz 9
    have qz10 := qz 10
    have qz11 := qz 11
    clear qz
    go_wp2_with fail
    rw [put12_def]
    obtain ⟨d1, d2, d3⟩ := (HR.out.2).done
    obtain ⟨z0, z1, z2, z3, z4, z5, z6, z7, z8, z9, z10, z11, _, _⟩ := d3
    generalize put12 wA b2 S r s = w9 at *
    refine bodyPost_ret (v := .tuple #[.agg (s.cells S r), .int .i64 2]) (by simp [results, Try.results31, go_sem, z0, z1, z2, z3, z4, z5, z6, z7, z8, z9, z10, z11]) rfl ?_
    exact ⟨s, rfl, rfl, d1, d2⟩
set_option maxHeartbeats 4000000 in
set_option maxRecDepth 100000 in
theorem openedB (h : RefAt w S r s) (k : Int) (n : ByteArray) (hf : Fewer S r) (hk : 1 ≤ k ∧ k ≤ 5) (hp : 0 ≤ rplace k n r.opn) :
    Calls Try.prog 31 #[.agg (s.cells S r), .int .u8 k, .string n] w (OpenPost w S r s k n) := by
  have he : rOpenE S r k n = 0 := by unfold rOpenE; rw [if_neg (fun e => e hk), if_pos hp]
  have hx : rOpenS S r k n = r := if_neg fun e => by have := e.2.1; omega
  unfold OpenPost
  rw [he, hx]
  have hk1 : ¬ k < 1 := by omega
  have hk2 : ¬ 5 < k := by omega
  have hzo : r.opn.length ≤ 1000000 := by have := hf.opn; omega
  have hzf := hf.files
  have hzx := hf.fails
  have hze := hf.events
  have hzr := hf.reps
  clear hk he hx
  have hR := Run.two h
  go_enter Try.func31, Try.ntmps31
  go_upto_region 1 with fail
  obtain ⟨wA, hA⟩ : ∃ wA, wA = (w.alloc (.cells (s.cells S r) 38)).alloc (.cells #[.slice none 0 0, .string ⟨#[]⟩, .slice none 0 0, .slice none 0 0, .int .i64 0, .int .i64 0, .int .u64 0, .slice none 0 0, .int .i64 0, .slice none 0 0, .int .u64 0, .slice none 0 0] 38) := ⟨_, rfl⟩
  rw [← hA] at hR ⊢
  clear hA
  generalize w.heap.size + 1 = b2 at *
  generalize w.heap.size = b0 at hR ⊢
  have HR := Lib.hid (⟨h, hR⟩ : _ ∧ _)
  clear h hR
  obtain ⟨y0, y1, y2, y3, y4, y5, y6, y7, y8, y9, y10, y11, _, _⟩ := (HR.out.2).rbox
  go_upto_region 4 with (go_at_call 15; refine (findRef HR.out.2.ref k n hzo).mono ?_; rintro e w1 ⟨rfl, hbb⟩; have hRR := (HR.out.2).later hbb; obtain ⟨y0, y1, y2, y3, y4, y5, y6, y7, y8, y9, y10, y11, _, _⟩ := hRR.rbox; have H1 := Lib.hid hRR; clear hRR hbb)
  obtain ⟨y0, y1, y2, y3, y4, y5, y6, y7, y8, y9, y10, y11, _, _⟩ := (H1.out).rbox
  obtain ⟨q0, q1, q2, q3, q4, q5, q6, q7, q8, q9, q10, q11, qz, _⟩ := (H1.out).rres
  have qz0 := qz 0
  have qz1 := qz 1
  have qz2 := qz 2
  have qz3 := qz 3
  have qz4 := qz 4
  have qz5 := qz 5
  have qz6 := qz 6
  have qz7 := qz 7
  have qz8 := qz 8
  have qz9 := qz 9
  have qz10 := qz 10
  have qz11 := qz 11
  clear qz
  go_wp2_with fail
  rw [put12_def]
  obtain ⟨d1, d2, d3⟩ := (H1.out).done
  obtain ⟨z0, z1, z2, z3, z4, z5, z6, z7, z8, z9, z10, z11, _, _⟩ := d3
  generalize put12 w1 b2 S r s = w9 at *
  refine bodyPost_ret (v := .tuple #[.agg (s.cells S r), .int .i64 0]) (by simp [results, Try.results31, go_sem, z0, z1, z2, z3, z4, z5, z6, z7, z8, z9, z10, z11]) rfl ?_
  exact ⟨s, rfl, rfl, d1, d2⟩
set_option maxHeartbeats 4000000 in
set_option maxRecDepth 100000 in
theorem openedC (h : RefAt w S r s) (k : Int) (n : ByteArray) (hf : Fewer S r) (hk : 1 ≤ k ∧ k ≤ 5) (hp : ¬ 0 ≤ rplace k n r.opn) (hm : S.most ≤ r.opn.length) :
    Calls Try.prog 31 #[.agg (s.cells S r), .int .u8 k, .string n] w (OpenPost w S r s k n) := by
  have he : rOpenE S r k n = 15 := by unfold rOpenE; rw [if_neg (fun e => e hk), if_neg hp, if_pos hm]
  have hx : rOpenS S r k n = r := if_neg fun e => by have := e.2.2.1; omega
  unfold OpenPost
  rw [he, hx]
  have hk1 : ¬ k < 1 := by omega
  have hk2 : ¬ 5 < k := by omega
  have hzo : r.opn.length ≤ 1000000 := by have := hf.opn; omega
  have hzf := hf.files
  have hzx := hf.fails
  have hze := hf.events
  have hzr := hf.reps
  clear hk he hx
  have hR := Run.two h
  go_enter Try.func31, Try.ntmps31
  go_upto_region 1 with fail
  obtain ⟨wA, hA⟩ : ∃ wA, wA = (w.alloc (.cells (s.cells S r) 38)).alloc (.cells #[.slice none 0 0, .string ⟨#[]⟩, .slice none 0 0, .slice none 0 0, .int .i64 0, .int .i64 0, .int .u64 0, .slice none 0 0, .int .i64 0, .slice none 0 0, .int .u64 0, .slice none 0 0] 38) := ⟨_, rfl⟩
  rw [← hA] at hR ⊢
  clear hA
  generalize w.heap.size + 1 = b2 at *
  generalize w.heap.size = b0 at hR ⊢
  have HR := Lib.hid (⟨h, hR⟩ : _ ∧ _)
  clear h hR
  obtain ⟨y0, y1, y2, y3, y4, y5, y6, y7, y8, y9, y10, y11, _, _⟩ := (HR.out.2).rbox
  go_upto_region 6 with (go_at_call 15; refine (findRef HR.out.2.ref k n hzo).mono ?_; rintro e w1 ⟨rfl, hbb⟩; have hRR := (HR.out.2).later hbb; obtain ⟨y0, y1, y2, y3, y4, y5, y6, y7, y8, y9, y10, y11, _, _⟩ := hRR.rbox; have H1 := Lib.hid hRR; clear hRR hbb)
  obtain ⟨y0, y1, y2, y3, y4, y5, y6, y7, y8, y9, y10, y11, _, _⟩ := (H1.out).rbox
  obtain ⟨q0, q1, q2, q3, q4, q5, q6, q7, q8, q9, q10, q11, qz, _⟩ := (H1.out).rres
  have qz0 := qz 0
  have qz1 := qz 1
  have qz2 := qz 2
  have qz3 := qz 3
  have qz4 := qz 4
  have qz5 := qz 5
  have qz6 := qz 6
  have qz7 := qz 7
  have qz8 := qz 8
  have qz9 := qz 9
  have qz10 := qz 10
  have qz11 := qz 11
  clear qz
  go_wp2_with fail
  rw [put12_def]
  obtain ⟨d1, d2, d3⟩ := (H1.out).done
  obtain ⟨z0, z1, z2, z3, z4, z5, z6, z7, z8, z9, z10, z11, _, _⟩ := d3
  generalize put12 w1 b2 S r s = w9 at *
  refine bodyPost_ret (v := .tuple #[.agg (s.cells S r), .int .i64 15]) (by simp [results, Try.results31, go_sem, z0, z1, z2, z3, z4, z5, z6, z7, z8, z9, z10, z11]) rfl ?_
  exact ⟨s, rfl, rfl, d1, d2⟩
set_option maxHeartbeats 4000000 in
set_option maxRecDepth 100000 in
theorem openedD (h : RefAt w S r s) (k : Int) (n : ByteArray) (hf : Fewer S r) (hk : 1 ≤ k ∧ k ≤ 5) (hp : ¬ 0 ≤ rplace k n r.opn) (hm : ¬ S.most ≤ r.opn.length) (hx1 : (lookX 1 n S.fails).isSome = true) :
    Calls Try.prog 31 #[.agg (s.cells S r), .int .u8 k, .string n] w (OpenPost w S r s k n) := by
  have he : rOpenE S r k n = 12 := by unfold rOpenE; rw [if_neg (fun e => e hk), if_neg hp, if_neg hm, if_pos (.inl hx1)]
  have hx : rOpenS S r k n = r := if_neg fun e => by have := e.2.2.2.1; rw [hx1] at this; cases this
  unfold OpenPost
  rw [he, hx]
  have hk1 : ¬ k < 1 := by omega
  have hk2 : ¬ 5 < k := by omega
  have hzo : r.opn.length ≤ 1000000 := by have := hf.opn; omega
  have hzf := hf.files
  have hzx := hf.fails
  have hze := hf.events
  have hzr := hf.reps
  obtain ⟨bs, hbs⟩ : ∃ b, (lookF n r.files).isSome = b := ⟨_, rfl⟩
  have HSo := Lib.hid hbs
  have HX := Lib.hid hx1
  clear hk he hx hbs hx1
  have hR := Run.two h
  go_enter Try.func31, Try.ntmps31
  go_upto_region 1 with fail
  obtain ⟨wA, hA⟩ : ∃ wA, wA = (w.alloc (.cells (s.cells S r) 38)).alloc (.cells #[.slice none 0 0, .string ⟨#[]⟩, .slice none 0 0, .slice none 0 0, .int .i64 0, .int .i64 0, .int .u64 0, .slice none 0 0, .int .i64 0, .slice none 0 0, .int .u64 0, .slice none 0 0] 38) := ⟨_, rfl⟩
  rw [← hA] at hR ⊢
  clear hA
  generalize w.heap.size + 1 = b2 at *
  generalize w.heap.size = b0 at hR ⊢
  have HR := Lib.hid (⟨h, hR⟩ : _ ∧ _)
  clear h hR
  obtain ⟨y0, y1, y2, y3, y4, y5, y6, y7, y8, y9, y10, y11, _, _⟩ := (HR.out.2).rbox
  go_upto_region 9 with (first
    | (go_at_call 49; refine (failsRef H2.out.ref 1 n hzx).mono ?_; rintro e w3 ⟨rfl, hbb⟩; rw [HX.out]; have hRR := (H2.out).later hbb; obtain ⟨y0, y1, y2, y3, y4, y5, y6, y7, y8, y9, y10, y11, _, _⟩ := hRR.rbox; have H3 := Lib.hid hRR; clear hRR hbb)
    | (go_at_call 17; refine (fileRef H1.out.ref n hzf).mono ?_; rintro e w2 ⟨rfl, hbb⟩; rw [fileA_data, HSo.out]; have hRR := (H1.out).later hbb; obtain ⟨y0, y1, y2, y3, y4, y5, y6, y7, y8, y9, y10, y11, _, _⟩ := hRR.rbox; have H2 := Lib.hid hRR; clear hRR hbb)
    | (go_at_call 15; refine (findRef HR.out.2.ref k n hzo).mono ?_; rintro e w1 ⟨rfl, hbb⟩; have hRR := (HR.out.2).later hbb; obtain ⟨y0, y1, y2, y3, y4, y5, y6, y7, y8, y9, y10, y11, _, _⟩ := hRR.rbox; have H1 := Lib.hid hRR; clear hRR hbb))
  obtain ⟨y0, y1, y2, y3, y4, y5, y6, y7, y8, y9, y10, y11, _, _⟩ := (H3.out).rbox
  obtain ⟨q0, q1, q2, q3, q4, q5, q6, q7, q8, q9, q10, q11, qz, _⟩ := (H3.out).rres
  have qz0 := qz 0
  have qz1 := qz 1
  have qz2 := qz 2
  have qz3 := qz 3
  have qz4 := qz 4
  have qz5 := qz 5
  have qz6 := qz 6
  have qz7 := qz 7
  have qz8 := qz 8
  have qz9 := qz 9
  have qz10 := qz 10
  have qz11 := qz 11
  clear qz
  go_wp2_with fail
  rw [put12_def]
  obtain ⟨d1, d2, d3⟩ := (H3.out).done
  obtain ⟨z0, z1, z2, z3, z4, z5, z6, z7, z8, z9, z10, z11, _, _⟩ := d3
  generalize put12 w3 b2 S r s = w9 at *
  refine bodyPost_ret (v := .tuple #[.agg (s.cells S r), .int .i64 12]) (by simp [results, Try.results31, go_sem, z0, z1, z2, z3, z4, z5, z6, z7, z8, z9, z10, z11]) rfl ?_
  exact ⟨s, rfl, rfl, d1, d2⟩
set_option maxHeartbeats 4000000 in
set_option maxRecDepth 100000 in
theorem openedD2 (h : RefAt w S r s) (k : Int) (n : ByteArray) (hf : Fewer S r) (hk : k = 1) (hp : ¬ 0 ≤ rplace k n r.opn) (hm : ¬ S.most ≤ r.opn.length) (hx1 : (lookX 1 n S.fails).isSome = false) (hn : n ≠ dash) (hl : lookF n r.files = none) :
    Calls Try.prog 31 #[.agg (s.cells S r), .int .u8 k, .string n] w (OpenPost w S r s k n) := by
  have he : rOpenE S r k n = 12 := by unfold rOpenE; rw [if_neg (fun e => e (by omega)), if_neg hp, if_neg hm, if_pos (.inr ⟨hk, hn, hl⟩)]
  have hx : rOpenS S r k n = r := if_neg fun e => e.2.2.2.2 ⟨hk, hn, hl⟩
  unfold OpenPost
  rw [he, hx]
  have hk1 : ¬ k < 1 := by omega
  have hk2 : ¬ 5 < k := by omega
  have hzo : r.opn.length ≤ 1000000 := by have := hf.opn; omega
  have hzf := hf.files
  have hzx := hf.fails
  have hze := hf.events
  have hzr := hf.reps
  have hbs : (lookF n r.files).isSome = false := by rw [hl]; rfl
  have HSo := Lib.hid hbs
  have HX := Lib.hid hx1
  have hdn : (n.toList == [45]) = false := by rw [← dash_list]; exact toList_ne hn
  clear he hx hbs hx1 hl hn
  subst hk
  have hR := Run.two h
  go_enter Try.func31, Try.ntmps31
  go_upto_region 1 with fail
  obtain ⟨wA, hA⟩ : ∃ wA, wA = (w.alloc (.cells (s.cells S r) 38)).alloc (.cells #[.slice none 0 0, .string ⟨#[]⟩, .slice none 0 0, .slice none 0 0, .int .i64 0, .int .i64 0, .int .u64 0, .slice none 0 0, .int .i64 0, .slice none 0 0, .int .u64 0, .slice none 0 0] 38) := ⟨_, rfl⟩
  rw [← hA] at hR ⊢
  clear hA
  generalize w.heap.size + 1 = b2 at *
  generalize w.heap.size = b0 at hR ⊢
  have HR := Lib.hid (⟨h, hR⟩ : _ ∧ _)
  clear h hR
  obtain ⟨y0, y1, y2, y3, y4, y5, y6, y7, y8, y9, y10, y11, _, _⟩ := (HR.out.2).rbox
  go_upto_region 9 with (first
    | (go_at_call 49; refine (failsRef H2.out.ref 1 n hzx).mono ?_; rintro e w3 ⟨rfl, hbb⟩; rw [HX.out]; have hRR := (H2.out).later hbb; obtain ⟨y0, y1, y2, y3, y4, y5, y6, y7, y8, y9, y10, y11, _, _⟩ := hRR.rbox; have H3 := Lib.hid hRR; clear hRR hbb)
    | (go_at_call 17; refine (fileRef H1.out.ref n hzf).mono ?_; rintro e w2 ⟨rfl, hbb⟩; rw [fileA_data, HSo.out]; have hRR := (H1.out).later hbb; obtain ⟨y0, y1, y2, y3, y4, y5, y6, y7, y8, y9, y10, y11, _, _⟩ := hRR.rbox; have H2 := Lib.hid hRR; clear hRR hbb)
    | (go_at_call 15; refine (findRef HR.out.2.ref 1 n hzo).mono ?_; rintro e w1 ⟨rfl, hbb⟩; have hRR := (HR.out.2).later hbb; obtain ⟨y0, y1, y2, y3, y4, y5, y6, y7, y8, y9, y10, y11, _, _⟩ := hRR.rbox; have H1 := Lib.hid hRR; clear hRR hbb))
  obtain ⟨y0, y1, y2, y3, y4, y5, y6, y7, y8, y9, y10, y11, _, _⟩ := (H3.out).rbox
  obtain ⟨q0, q1, q2, q3, q4, q5, q6, q7, q8, q9, q10, q11, qz, _⟩ := (H3.out).rres
  have qz0 := qz 0
  have qz1 := qz 1
  have qz2 := qz 2
  have qz3 := qz 3
  have qz4 := qz 4
  have qz5 := qz 5
  have qz6 := qz 6
  have qz7 := qz 7
  have qz8 := qz 8
  have qz9 := qz 9
  have qz10 := qz 10
  have qz11 := qz 11
  clear qz
  go_wp2_with fail
  rw [put12_def]
  obtain ⟨d1, d2, d3⟩ := (H3.out).done
  obtain ⟨z0, z1, z2, z3, z4, z5, z6, z7, z8, z9, z10, z11, _, _⟩ := d3
  generalize put12 w3 b2 S r s = w9 at *
  refine bodyPost_ret (v := .tuple #[.agg (s.cells S r), .int .i64 12]) (by simp [results, Try.results31, go_sem, z0, z1, z2, z3, z4, z5, z6, z7, z8, z9, z10, z11]) rfl ?_
  exact ⟨s, rfl, rfl, d1, d2⟩
end
end Go.Proofs.Ythbkcdbmimhhkaa.Rw
