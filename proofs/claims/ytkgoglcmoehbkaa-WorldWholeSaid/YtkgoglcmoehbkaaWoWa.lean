/-
  WorldWhole: the world that the law makes (plain), and blocks of the law's own beside it.
-/
import Derived.Test.YtkgoglcmoehbkaaWoV
namespace Go.Proofs.Ytkgoglcmoehbkaa.Wo
open Go.RowKit Go.Maps

theorem Play.openW {w wr : World} {B : Nat} {st : St} {file stdin reply : ByteArray} {i : Nat} (h : Play w wr B st) (hO : Opn file stdin reply i st) (hi : i < 6) :
    Calls Try.prog 24 #[ptr B, .int .u8 (kindAt i), .string (nameAt i)] wr fun e w2 => e = .returned (.int .i64 0) ∧ ∃ st', Opn file stdin reply (i + 1) st' ∧ Play w w2 B st' := by
  have hk : 0 ≤ kindAt i ∧ kindAt i < 256 := by have := (opn_new hO hi).1.1; omega
  have hn : Small (nameAt i) := by
    unfold Small
    match i, hi with
    | 0, _ => decide
    | 1, _ => decide
    | 2, _ => decide
    | 3, _ => decide
    | 4, _ => decide
    | 5, _ => decide
  have hm : st.made ≤ 1000000 := by have := hO.made; split at this <;> omega
  have hs : st.streams.length ≤ 1000000 := by rw [hO.streams, List.length_take]; show min i 6 ≤ _; omega
  have ht : st.trace.length ≤ 1000000 := by rw [hO.tr]; omega
  refine (h.call (R := fun e st' => e = .returned (.int .i64 0) ∧ st' = openS st (kindAt i) (nameAt i)) fun fm rm xm D vs vt ps T q => (open_ q hk hn hm hs ht).mono ?_).mono ?_
  · rintro e w2 ⟨he, hg⟩
    refine ⟨_, ⟨?_, rfl⟩, hg⟩
    rw [he, (opn_new hO hi).2]
  · rintro e w2 ⟨st2, ⟨he, rfl⟩, hp⟩
    exact ⟨he, _, opn_step hO hi, hp⟩
theorem row2_one {w : World} {c1 c2 : ByteArray} {t : TypeId} {o : Obj} : Row2 ((w.alloc (.cells #[.string c1, .string c2] t)).alloc o) (some ⟨w.heap.size, 0, none⟩) [(c1, c2)] := fun i p hp => by
  have hb : ∀ j, ((w.alloc (.cells #[.string c1, .string c2] t)).alloc o).cell? ⟨w.heap.size, j, none⟩ = (#[.string c1, .string c2] : Array Value)[j]? := fun j => by
    rw [World.cell?_of_block (alloc_old _ o (by show w.heap.size < _; rw [alloc_size]; omega))]
    exact box_cell j
  match i, hp with
  | 0, hp => cases hp; exact ⟨_, 0, rfl, hb 0, hb 1⟩
  | i + 1, hp => simp at hp
theorem row3_one {w : World} {c1 c2 : ByteArray} {s : Int} {t : TypeId} {o : Obj} : Row3 ((w.alloc o).alloc (.cells #[.string c1, .string c2, .int .i64 s] t)) (some ⟨w.heap.size + 1, 0, none⟩) [⟨c1, c2, s⟩] := fun i p hp => by
  have hb : ∀ j, ((w.alloc o).alloc (.cells #[.string c1, .string c2, .int .i64 s] t)).cell? ⟨w.heap.size + 1, j, none⟩ = (#[.string c1, .string c2, .int .i64 s] : Array Value)[j]? := fun j => by
    have := box_cell (w := w.alloc o) (cs := #[.string c1, .string c2, .int .i64 s]) (t := t) j
    rw [alloc_size] at this
    exact this
  match i, hp with
  | 0, hp => cases hp; exact ⟨_, 0, rfl, hb 0, hb 1, hb 2⟩
  | i + 1, hp => simp at hp

set_option maxHeartbeats 4000000 in
set_option maxRecDepth 100000 in
theorem plainW (file stdin reply : ByteArray) (w : World) (h1 : file.size ≤ 300) :
    Calls Try.prog 19 #[.string file, .string stdin, .string reply] w fun e w' => ∃ B st, e = .returned (ptr B) ∧ Play w w' B st ∧ Whl file stdin reply file.data.toList [] [] st ∧ st.trace.length = 6 := by
  have HS := Lib.hid (show ∀ p ∈ [(nF, file)], Small p.1 ∧ p.2.size ≤ 1000000 from fun p hp => by
    obtain rfl : p = (nF, file) := by simpa using hp
    exact ⟨by show nF.size ≤ 1000000; decide, by show file.size ≤ _; omega⟩)
  have HR := Lib.hid (show ∀ r ∈ [(⟨nC, reply, 0⟩ : RepD)], Small r.cmd from fun p hp => by
    obtain rfl : p = ⟨nC, reply, 0⟩ := by simpa using hp
    show nC.size ≤ 1000000; decide)
  go_enter Try.func19, Try.ntmps19
  go_wp2_with (first
    | (go_at_call 24; have HH := H6.out; fail)
    | (go_at_call 24; have HH := H5.out; refine (Play.openW (i := 5) HH.2 HH.1 (by decide)).mono ?_; rintro e w' ⟨rfl, st', q1, q2⟩; have H6 := Lib.hid (⟨q1, q2⟩ : _ ∧ _); clear q1 q2 HH)
    | (go_at_call 24; have HH := H4.out; refine (Play.openW (i := 4) HH.2 HH.1 (by decide)).mono ?_; rintro e w' ⟨rfl, st', q1, q2⟩; have H5 := Lib.hid (⟨q1, q2⟩ : _ ∧ _); clear q1 q2 HH)
    | (go_at_call 24; have HH := H3.out; refine (Play.openW (i := 3) HH.2 HH.1 (by decide)).mono ?_; rintro e w' ⟨rfl, st', q1, q2⟩; have H4 := Lib.hid (⟨q1, q2⟩ : _ ∧ _); clear q1 q2 HH)
    | (go_at_call 24; have HH := H2.out; refine (Play.openW (i := 2) HH.2 HH.1 (by decide)).mono ?_; rintro e w' ⟨rfl, st', q1, q2⟩; have H3 := Lib.hid (⟨q1, q2⟩ : _ ∧ _); clear q1 q2 HH)
    | (go_at_call 24; have HH := H1.out; refine (Play.openW (i := 1) HH.2 HH.1 (by decide)).mono ?_; rintro e w' ⟨rfl, st', q1, q2⟩; have H2 := Lib.hid (⟨q1, q2⟩ : _ ∧ _); clear q1 q2 HH)
    | (go_at_call 24; have HH := H0.out; refine (Play.openW (i := 0) HH.2 HH.1 (by decide)).mono ?_; rintro e w' ⟨rfl, st', q1, q2⟩; have H1 := Lib.hid (⟨q1, q2⟩ : _ ∧ _); clear q1 q2 HH)
    | (go_at_call 8; refine (newG (oX := none) (cX := 0) (X := []) (L := [(nF, file)]) (R := [⟨nC, reply, 0⟩]) (by omega) row2_one rfl (by simp) HS.out (List.pairwise_singleton _ _) row3_one (by simp) HR.out (List.pairwise_singleton _ _) (fun i r h => by simp at h) (by decide) (by simp)).mono ?_; rintro e w2 ⟨B, T, rfl, hw, hT, hb⟩; obtain ⟨fm, rm, xm, D, vs, vt, ps, hw⟩ := hw; have H0 := Lib.hid (⟨opn_zero file stdin reply, fm, rm, xm, D, vs, vt, ps, T, hw, fun k hk => Nat.le_trans (by rw [alloc_size, alloc_size]; omega) (hT k hk), (((Below.refl _ w).alloc (Nat.le_refl _) _).alloc (by rw [alloc_size]; omega) _).trans (hb.mono (by rw [alloc_size, alloc_size]; omega))⟩ : Opn file stdin reply 0 _ ∧ Play w w2 B _); clear hw hT hb))
  go_ret
  exact ⟨_, _, rfl, H6.out.2, opn_done H6.out.1, H6.out.1.tr⟩
end Go.Proofs.Ytkgoglcmoehbkaa.Wo
