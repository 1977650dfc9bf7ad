/-
  octets.Lower, octets.Upper: what they answer, for every text of at most 2^48 bytes; the document's own Lower, Upper, Index, Cut.
-/
import Derived.Test.YtghdjhdnohooeaaOctB
import Derived.Laws.IdiomStrings
import Derived.OwnWalk
namespace Go.Proofs.Ytghdjhdnohooeaa.Oct
open Go.RowKit

def lowByte (b : UInt8) : UInt8 := UInt8.ofNat (lowI b.toNat).toNat
def upByte (b : UInt8) : UInt8 := UInt8.ofNat (upI b.toNat).toNat
theorem lowI_bd (x : Int) (h0 : 0 ≤ x) (h1 : x ≤ 255) : 0 ≤ lowI x ∧ lowI x ≤ 255 := by unfold lowI; split <;> omega
theorem upI_bd (x : Int) (h0 : 0 ≤ x) (h1 : x ≤ 255) : 0 ≤ upI x ∧ upI x ≤ 255 := by unfold upI; split <;> omega
theorem toNat_lowByte (b : UInt8) : ((lowByte b).toNat : Int) = lowI b.toNat := by
  have h := b.toNat_lt
  have := lowI_bd b.toNat (by omega) (by omega)
  unfold lowByte
  rw [UInt8.toNat_ofNat']
  omega
theorem toNat_upByte (b : UInt8) : ((upByte b).toNat : Int) = upI b.toNat := by
  have h := b.toNat_lt
  have := upI_bd b.toNat (by omega) (by omega)
  unfold upByte
  rw [UInt8.toNat_ofNat']
  omega
def mapB (g : UInt8 → UInt8) (s : ByteArray) : ByteArray := ⟨(s.data.toList.map g).toArray⟩
def lowB (s : ByteArray) : ByteArray := mapB lowByte s
def upB (s : ByteArray) : ByteArray := mapB upByte s
theorem Try.info5 : (Try.prog.info? 5).map (fun i => (i.zero, i.size, i.bytes)) = some (some (.int .u8 0), 1, 1) := by kernel_rfl

/- What the loop of 'turned' has done after k rounds. -/
def Turning (g : UInt8 → UInt8) (s : ByteArray) (w wr : World) (k : Nat) : Prop :=
  ∃ xs : List Value, wr.ownsRow w.heap.size 5 1 (.slice (some ⟨w.heap.size, 0, none⟩) s.size s.size) s.size xs ∧ (∀ j (hj : j < s.size), j < k → xs[j]? = some (.int .u8 ((g s[j]).toNat : Int))) ∧ Below w.heap.size w wr


theorem turning_step {g : UInt8 → UInt8} {s : ByteArray} {w wr : World} {k : Nat} (hlt : k < s.size) {v : Int} (hv : ((g s[k]).toNat : Int) = v) (h : Turning g s w wr k) :
    Turning g s w (wr.setCell ⟨w.heap.size, k, none⟩ (.int .u8 v)) (k + 1) := by
  obtain ⟨xs, ho, hx, hb⟩ := h
  have hlen : xs.length = s.size := by have := ho.1; omega
  obtain ⟨ho', hg'⟩ := ho.stored k (.int .u8 v)
  refine ⟨_, ho', fun j hj hjk => ?_, hb.grown hg' hb.size (fun i hi => by cases hi; exact Nat.le_refl _)⟩
  by_cases e : j = k
  · subst e
    rw [List.getElem?_set_self (by omega), hv]
  · rw [List.getElem?_set_ne (by omega)]
    exact hx j hj (by omega)
theorem turning_end {g : UInt8 → UInt8} {s : ByteArray} {w wr : World} (h : Turning g s w wr s.size) :
    (convert 33 9 (.slice (some ⟨w.heap.size, 0, none⟩) s.size s.size)).run Try.prog wr = .ok (.string (mapB g s)) wr := by
  obtain ⟨xs, ho, hx, hb⟩ := h
  have hl : (s.data.toList.map g).length = s.size := by rw [List.length_map, Lib.size_eq]
  have := run_convert_bytes_back (P := Try.prog) wr 33 9 5 ⟨w.heap.size, 0, none⟩ s.size (s.data.toList.map g) Try.underlying33 Try.underlying5 Try.underlying9 (fun j hj => by
    rw [hl] at hj
    have hp : (⟨w.heap.size, 0, none⟩ : Addr).add j = ⟨w.heap.size, j, none⟩ := by unfold Addr.add; split <;> simp_all
    rw [hp, ho.cellAt j (by omega), hx j hj hj, List.getElem_map]
    rfl)
  rw [hl] at this
  exact this

set_option maxHeartbeats 1600000 in
theorem turned_LOW (s : ByteArray) (w : World) (hs : s.size ≤ 140737488351232) :
    Calls Try.prog 29 #[.string s, .func (Fn.func 30) #[] #[]] w fun e w' => e = .returned (.string (lowB s)) ∧ Below w.heap.size w w' := by
  obtain ⟨i0, hi, hz0, hz1, hz2⟩ := info_parts Try.info5
  go_enter Try.func29, Try.ntmps29
  go_wp2_with (refine wpList_make_full _ rfl _ _ 33 rfl w.heap.size 5 i0 (.int .u8 0) 1 Try.underlying33 hi hz0 hz1 .i64 .i64 _ _ s.size rfl rfl rfl rfl (by rw [hz2]; omega) (by unfold maxLen; omega) (Nat.le_refl _) ?_; intro w1 hown hgrow)
  go_loopw [12] (fun i wr => ∃ k : Nat, k ≤ s.size ∧ i = .int .i64 k ∧ Turning lowByte s w wr k) (fun i _ => s.size - (intOf i).toNat)
  case atStart => exact ⟨0, Nat.zero_le _, rfl, _, hown, fun j _ h => absurd h (Nat.not_lt_zero _), (Below.refl _ _).grown hgrow (Nat.le_refl _) (fun k h => by cases h)⟩
  case round =>
    obtain ⟨k, hk, rfl, ht⟩ := hrel
    by_cases hlt : k < s.size
    · have H := Lib.hid ht
      obtain ⟨xs, ho, hx, hb⟩ := ht
      have hlen : xs.length = s.size := by have := ho.1; omega
      have hcell : wr.cell? ⟨w.heap.size, k, none⟩ = some xs[k] := by
        rw [ho.cellAt k (by omega), List.getElem?_eq_getElem]
      have hfr := ho.frozenAt k
      have hbd := (s[k]).toNat_lt
      clear ho hx hb hown hgrow
      go_wp2_with (go_at_call 30; refine (low1 _ _ (by omega) (by omega)).mono ?_; rintro e w' ⟨rfl, rfl⟩)
      go_roundw
      case rel => exact ⟨k + 1, by omega, by go_num, turning_step hlt (toNat_lowByte _) H.out⟩
      case measure => simp [intOf]; omega
    · obtain rfl : k = s.size := by omega
      have hb : Below w.heap.size w wr := ht.choose_spec.2.2
      have hconv := turning_end ht
      have hB := Lib.hid hb
      clear hb ht hown hgrow
      go_wp2_with fail
      go_ret
      exact ⟨rfl, hB.out⟩
theorem lower (s : ByteArray) (w : World) (hs : s.size ≤ 140737488351232) :
    Calls Try.prog 17 #[.string s] w fun e w' => e = .returned (.string (lowB s)) ∧ Below w.heap.size w w' := by
  go_enter Try.func17, Try.ntmps17
  go_wp2_with (go_at_call 29; refine (turned_LOW _ _ hs).mono ?_; rintro e w' ⟨rfl, hb⟩)
  go_ret
  exact ⟨rfl, hb⟩
set_option maxHeartbeats 1600000 in
theorem turned_UP (s : ByteArray) (w : World) (hs : s.size ≤ 140737488351232) :
    Calls Try.prog 29 #[.string s, .func (Fn.func 31) #[] #[]] w fun e w' => e = .returned (.string (upB s)) ∧ Below w.heap.size w w' := by
  obtain ⟨i0, hi, hz0, hz1, hz2⟩ := info_parts Try.info5
  go_enter Try.func29, Try.ntmps29
  go_wp2_with (refine wpList_make_full _ rfl _ _ 33 rfl w.heap.size 5 i0 (.int .u8 0) 1 Try.underlying33 hi hz0 hz1 .i64 .i64 _ _ s.size rfl rfl rfl rfl (by rw [hz2]; omega) (by unfold maxLen; omega) (Nat.le_refl _) ?_; intro w1 hown hgrow)
  go_loopw [12] (fun i wr => ∃ k : Nat, k ≤ s.size ∧ i = .int .i64 k ∧ Turning upByte s w wr k) (fun i _ => s.size - (intOf i).toNat)
  case atStart => exact ⟨0, Nat.zero_le _, rfl, _, hown, fun j _ h => absurd h (Nat.not_lt_zero _), (Below.refl _ _).grown hgrow (Nat.le_refl _) (fun k h => by cases h)⟩
  case round =>
    obtain ⟨k, hk, rfl, ht⟩ := hrel
    by_cases hlt : k < s.size
    · have H := Lib.hid ht
      obtain ⟨xs, ho, hx, hb⟩ := ht
      have hlen : xs.length = s.size := by have := ho.1; omega
      have hcell : wr.cell? ⟨w.heap.size, k, none⟩ = some xs[k] := by
        rw [ho.cellAt k (by omega), List.getElem?_eq_getElem]
      have hfr := ho.frozenAt k
      have hbd := (s[k]).toNat_lt
      clear ho hx hb hown hgrow
      go_wp2_with (go_at_call 31; refine (up1 _ _ (by omega) (by omega)).mono ?_; rintro e w' ⟨rfl, rfl⟩)
      go_roundw
      case rel => exact ⟨k + 1, by omega, by go_num, turning_step hlt (toNat_upByte _) H.out⟩
      case measure => simp [intOf]; omega
    · obtain rfl : k = s.size := by omega
      have hb : Below w.heap.size w wr := ht.choose_spec.2.2
      have hconv := turning_end ht
      have hB := Lib.hid hb
      clear hb ht hown hgrow
      go_wp2_with fail
      go_ret
      exact ⟨rfl, hB.out⟩
theorem upper (s : ByteArray) (w : World) (hs : s.size ≤ 140737488351232) :
    Calls Try.prog 19 #[.string s] w fun e w' => e = .returned (.string (upB s)) ∧ Below w.heap.size w w' := by
  go_enter Try.func19, Try.ntmps19
  go_wp2_with (go_at_call 29; refine (turned_UP _ _ hs).mono ?_; rintro e w' ⟨rfl, hb⟩)
  go_ret
  exact ⟨rfl, hb⟩
end Go.Proofs.Ytghdjhdnohooeaa.Oct
