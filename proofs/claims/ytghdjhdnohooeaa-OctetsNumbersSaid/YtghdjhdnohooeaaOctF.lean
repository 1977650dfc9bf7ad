/-
  The chapter's examples (awake) come out true in every world that has the program's shape.
-/
import Derived.Test.YtghdjhdnohooeaaOctE
namespace Go.Proofs.Ytghdjhdnohooeaa.Oct
open Go.RowKit

/- A world behind some calls: what was there at the beginning (w0) stands; it has the program's shape. -/
def Live (w0 w : World) : Prop := Below w0.heap.size w0 w ∧ w.ShapedOpen Try.prog
theorem Live.next {w0 w w' : World} (h : Live w0 w) (hb : Below w.heap.size w w') : Live w0 w' :=
  ⟨h.1.trans (hb.mono h.1.size), h.2.keptBut (hb.frame (fun _ => False)) (fun _ h => h.elim)⟩

theorem lowerL (s : ByteArray) (w0 w : World) (h : Live w0 w) (hs : s.size ≤ 140737488351232) :
    Calls Try.prog 17 #[.string s] w fun e w' => e = .returned (.string (lowB s)) ∧ Live w0 w' :=
  (lower s w hs).mono fun _ _ ⟨he, hb⟩ => ⟨he, h.next hb⟩
theorem upperL (s : ByteArray) (w0 w : World) (h : Live w0 w) (hs : s.size ≤ 140737488351232) :
    Calls Try.prog 19 #[.string s] w fun e w' => e = .returned (.string (upB s)) ∧ Live w0 w' :=
  (upper s w hs).mono fun _ _ ⟨he, hb⟩ => ⟨he, h.next hb⟩
theorem cutC (s : ByteArray) (f n : Int) (w0 w : World) (h : Live w0 w) (hs : s.size ≤ 281474976710656) (hf : -9223372036854775808 ≤ f ∧ f ≤ 9223372036854775807) (hn : -9223372036854775808 ≤ n ∧ n ≤ 9223372036854775807) :
    Calls Try.prog 14 #[.string s, .int .i64 f, .int .i64 n] w fun e w' => e = .returned (.string (cutB s f n)) ∧ Live w0 w' :=
  (cut s f n w hs hf hn).mono fun _ _ ⟨he, hb⟩ => ⟨he, h.next hb⟩
theorem indexL (s t : ByteArray) (w0 w : World) (h : Live w0 w) (hs : s.size < 4294967281) :
    Calls Try.prog 15 #[.string s, .string t] w fun e w' => e = .returned (.int .i64 (idxI s t)) ∧ w = w' := index s t w h.2 hs

set_option maxHeartbeats 1600000 in
theorem awake (w0 w : World) (hL : Live w0 w) : Calls Try.prog 16 #[] w fun e w' => e = .returned (.bool true) ∧ Live w0 w' := by
  have e1 : lowB ⟨#[97, 66, 91, 49]⟩ = ⟨#[97, 98, 91, 49]⟩ := by decide +kernel
  have e2 : upB ⟨#[97, 66, 123, 49]⟩ = ⟨#[65, 66, 123, 49]⟩ := by decide +kernel
  have e3 : idxI ⟨#[98, 97, 110, 97, 110, 97]⟩ ⟨#[97, 110]⟩ = 2 := by decide +kernel
  have e4 : idxI ⟨#[98, 97, 110, 97, 110, 97]⟩ ⟨#[120]⟩ = 0 := by decide +kernel
  have e5 : idxI ⟨#[97]⟩ ⟨#[]⟩ = 0 := by decide +kernel
  have e6 : cutB ⟨#[104, 101, 108, 108, 111]⟩ 2 3 = ⟨#[101, 108, 108]⟩ := by decide +kernel
  have e7 : cutB ⟨#[104, 101, 108, 108, 111]⟩ 0 3 = ⟨#[104, 101]⟩ := by decide +kernel
  have e8 : cutB ⟨#[104, 101, 108, 108, 111]⟩ (-1) 3 = ⟨#[104]⟩ := by decide +kernel
  have e9 : cutB ⟨#[104, 101, 108, 108, 111]⟩ 4 100 = ⟨#[108, 111]⟩ := by decide +kernel
  have e10 : blankI 9 = true := by decide +kernel
  go_enter Try.func16, Try.ntmps16
  go_wp2_with (first
    | (go_at_call 17; refine (lowerL _ w0 _ (by assumption) (by decide)).mono ?_; rintro e w' ⟨rfl, hL'⟩)
    | (go_at_call 19; refine (upperL _ w0 _ (by assumption) (by decide)).mono ?_; rintro e w' ⟨rfl, hL'⟩)
    | (go_at_call 15; refine (indexL _ _ w0 _ (by assumption) (by decide)).mono ?_; rintro e w' ⟨rfl, rfl⟩)
    | (go_at_call 14; refine (cutC _ _ _ w0 _ (by assumption) (by decide) (by omega) (by omega)).mono ?_; rintro e w' ⟨rfl, hL'⟩)
    | (go_at_call 6; refine (blank _ _).mono ?_; rintro e w' ⟨rfl, rfl⟩))
  go_ret
  exact ⟨rfl, hL'⟩
end Go.Proofs.Ytghdjhdnohooeaa.Oct
