/-
  Package match's statements: ends.
-/
import Derived.Test.YtmnghdccikoaoaaMuK
namespace Go.Proofs.Ytmnghdccikoaoaa.Mt
open Go.RowKit Go.Proofs.Ytmnghdccikoaoaa.Sh

set_option maxHeartbeats 2000000 in
set_option maxRecDepth 100000 in
theorem endsCall (W0 : World) : ∀ (l : Nat) (r : Re) (cs : List Value) (w : World), shortB l r = true → Lies W0 r cs → Below W0.heap.size W0 w →
    Calls Try.prog 24 #[.agg ⟨cs⟩] w fun e w' => e = .returned (.bool (endsB l r)) ∧ Below w.heap.size w w'
  | 0, r, cs, w, hs, hr, hb => by
    unfold shortB at hs
    exact absurd hs Bool.false_ne_true
  | l + 1, r, cs, w, hs, hr, hb => by
    have ih := endsCall W0 l
    obtain ⟨k, s0, s1, s2, s3, a, b, kids, sl, cap, rfl, rfl, _, hkid⟩ := hr.open
    have hs2 : kids.length ≤ 4 ∧ ∀ x ∈ kids, shortB l x = true := by
      unfold shortB at hs
      rw [Bool.and_eq_true, decide_eq_true_eq, List.all_eq_true] at hs
      exact ⟨hs.1.1, hs.2⟩
    have hlen := hs2.1
    have HK := Lib.hid hs2.2
    have e : endsB (l + 1) (.mk k s0 s1 s2 s3 a b kids) = (decide (k = 4) || kids.any (endsB l)) := by unfold endsB; rfl
    rw [e]
    have HB := Lib.hid hb
    have HG := Lib.hid hkid
    have HI := Lib.hid ih
    clear hb hr hkid ih hs hs2 e
    suffices key : ∀ (acc : Bool), decide (k = 4) = acc → Calls Try.prog 24 #[.agg ⟨[.int .u8 k, .int .u64 s0, .int .u64 s1, .int .u64 s2, .int .u64 s3, .int .i64 a, .int .i64 b, .slice sl kids.length cap]⟩] w fun e w' => e = .returned (.bool (acc || kids.any (endsB l))) ∧ Below w.heap.size w w' from key _ rfl
    intro acc0 hacc0
    go_enter Try.func24, Try.ntmps24
    go_wp2_with fail
    go_loopw [4, 3] (fun i z wr => ∃ (j : Nat) (acc : Bool), j ≤ kids.length ∧ i = .int .i64 (j : Int) ∧ z = .bool acc ∧ (acc0 || kids.any (endsB l)) = (acc || (kids.drop j).any (endsB l)) ∧ Below (w.alloc (.cells ⟨[.int .u8 k, .int .u64 s0, .int .u64 s1, .int .u64 s2, .int .u64 s3, .int .i64 a, .int .i64 b, .slice sl kids.length cap]⟩ 34)).heap.size (w.alloc (.cells ⟨[.int .u8 k, .int .u64 s0, .int .u64 s1, .int .u64 s2, .int .u64 s3, .int .i64 a, .int .i64 b, .slice sl kids.length cap]⟩ 34)) wr) (fun i _ _ => kids.length - (intOf i).toNat)
    case atStart => exact ⟨0, acc0, Nat.zero_le _, rfl, by simp only [← hacc0, go_sem]; rfl, rfl, Below.refl _ _⟩
    case round =>
      obtain ⟨j, acc, hj, rfl, rfl, hall, hS⟩ := hrel
      clear hacc0
      have hW : Below W0.heap.size W0 wr := (HB.out.alloc HB.out.size _).trans (hS.mono (two_size HB.out.size))
      have c7 := boxed_at hS 7 _ rfl
      have hfar : Below w.heap.size w wr := ((Below.refl _ _).alloc (Nat.le_refl _) _).trans (hS.mono (two_size (Nat.le_refl _)))
      by_cases hlt : j < kids.length
      · have hlt' : (j : Int) < ((kids.length : Nat) : Int) := by omega
        obtain ⟨lb, o, ks, rfl, hcells, hk2⟩ := HG.out j _ (List.getElem?_eq_getElem hlt)
        obtain ⟨k', s0', s1', s2', s3', a', b', kids', sl', cap', hr', rfl, _, _⟩ := hk2.open
        have f : ∀ jj v, [Value.int .u8 k', .int .u64 s0', .int .u64 s1', .int .u64 s2', .int .u64 s3', .int .i64 a', .int .i64 b', .slice sl' kids'.length cap'][jj]? = some v → wr.cell? ⟨lb, o + j * 8 + jj, none⟩ = some v := fun jj v h => (hW.cell (cell_lt (hcells jj v h))).trans (hcells jj v h)
        have f0 : wr.cell? ⟨lb, o + j * 8, none⟩ = some (.int .u8 k') := f 0 _ rfl
        have f1 := f 1 _ rfl
        have f2 := f 2 _ rfl
        have f3 := f 3 _ rfl
        have f4 := f 4 _ rfl
        have f5 := f 5 _ rfl
        have f6 := f 6 _ rfl
        have f7 := f 7 _ rfl
        have hd := any_drop (endsB l) kids j _ (List.getElem?_eq_getElem hlt)
        have hsh := HK.out _ (List.getElem_mem hlt)
        have HS := Lib.hid (⟨hS, hW, hfar, hall, hd, hk2, hsh⟩ : _ ∧ _ ∧ _ ∧ _ ∧ _ ∧ _ ∧ _)
        clear hS hW hfar hall hd hk2 f hcells hr' hsh
        cases acc with
        | true =>
          go_wp2_with fail
          go_light
          exact ⟨⟨j + 1, true, by omega, rfl, rfl, by rw [HS.out.2.2.2.1, Bool.true_or, Bool.true_or], HS.out.1⟩, by simp only [intOf]; omega⟩
        | false =>
          go_wp2_with (go_at_call 24; refine (HI.out kids[j] _ wr HS.out.2.2.2.2.2.2 HS.out.2.2.2.2.2.1 HS.out.2.1).mono ?_; rintro e w2 ⟨rfl, hb2⟩; have H2 := Lib.hid hb2; clear hb2)
          go_light
          exact ⟨⟨j + 1, endsB l kids[j], by omega, rfl, rfl, by rw [HS.out.2.2.2.1, HS.out.2.2.2.2.1, Bool.false_or], HS.out.1.trans (H2.out.mono HS.out.1.size)⟩, by simp only [intOf]; omega⟩
      · have hge : ¬ (j : Int) < ((kids.length : Nat) : Int) := by omega
        have hfin : (acc0 || kids.any (endsB l)) = acc := by rw [hall, List.drop_of_length_le (by omega), List.any_nil, Bool.or_false]
        have HS := Lib.hid (⟨hfar, hfin⟩ : _ ∧ _)
        clear hS hW hfar hall hfin
        go_wp2_with fail
        go_ret
        exact ⟨by rw [HS.out.2]; rfl, HS.out.1⟩
end Go.Proofs.Ytmnghdccikoaoaa.Mt
