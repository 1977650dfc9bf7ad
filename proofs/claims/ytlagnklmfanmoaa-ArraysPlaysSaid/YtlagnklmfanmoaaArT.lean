/-
  ArraysNumbers: what its loops leave, as lists.
-/
import Derived.Test.YtlagnklmfanmoaaArP
namespace Go.Proofs.Ytlagnklmfanmoaa.Ar
open Go.RowKit Go.Maps

def keyN (i : Nat) : ByteArray := ⟨#[UInt8.ofNat i, UInt8.ofNat (i / 256)]⟩
theorem keyN_inj {i j : Nat} (hi : i < 300) (hj : j < 300) (h : keyN i = keyN j) : i = j := by
  have h1 : (#[UInt8.ofNat i, UInt8.ofNat (i / 256)] : Array UInt8) = #[UInt8.ofNat j, UInt8.ofNat (j / 256)] := congrArg ByteArray.data h
  have h2 : UInt8.ofNat i = UInt8.ofNat j ∧ UInt8.ofNat (i / 256) = UInt8.ofNat (j / 256) := by simpa using h1
  have h3 := congrArg UInt8.toNat h2.1
  have h4 := congrArg UInt8.toNat h2.2
  simp only [UInt8.toNat_ofNat'] at h3 h4
  omega
def kvN (i : Nat) : KV := (keyN i, numC i)
theorem has_map {l : List Nat} {j : Nat} (hl : ∀ i ∈ l, i < 300) (hj : j < 300) : hasL (l.map kvN) (keyN j) = decide (j ∈ l) := by
  rw [Bool.eq_iff_iff, mem_hasL, decide_eq_true_iff]
  constructor
  · rintro ⟨p, hp, he⟩
    obtain ⟨i, hi, rfl⟩ := List.mem_map.1 hp
    have := keyN_inj (hl i hi) hj he
    rwa [← this]
  · intro h
    exact ⟨_, List.mem_map.2 ⟨j, h, rfl⟩, rfl⟩
def L1 (j : Nat) : List KV := (List.range j).map kvN
theorem L1_succ {j : Nat} (hj : j < 300) : setL (L1 j) (keyN j) (numC j) = L1 (j + 1) := by
  have h : hasL (L1 j) (keyN j) = false := by
    unfold L1
    rw [has_map (fun i hi => by have := List.mem_range.1 hi; omega) hj, decide_eq_false (by simp)]
  unfold setL
  rw [h, if_neg (by decide)]
  unfold L1
  rw [List.range_succ, List.map_append]
  rfl
def f2 (j i : Nat) : Bool := decide (j ≤ i) || decide (i % 3 = 0)
def L2 (j : Nat) : List KV := ((List.range 300).filter (f2 j)).map kvN
theorem L2_zero : L2 0 = L1 300 := by
  unfold L2 L1
  rw [List.filter_eq_self.2 fun i _ => by simp [f2]]
theorem L2_stay {j : Nat} (h : j % 3 = 0) : L2 (j + 1) = L2 j := by
  unfold L2
  congr 1
  apply List.filter_congr
  intro i _
  unfold f2
  rw [Bool.eq_iff_iff]
  simp only [Bool.or_eq_true, decide_eq_true_iff]
  omega
theorem L2_del {j : Nat} (hj : j < 300) (h : j % 3 ≠ 0) : delL (L2 j) (keyN j) = L2 (j + 1) := by
  unfold delL L2
  rw [List.filter_map, List.filter_filter]
  congr 1
  apply List.filter_congr
  intro i hi
  have hi2 := List.mem_range.1 hi
  have he : decide ((kvN i).1 = keyN j) = decide (i = j) := by
    rw [decide_eq_decide]
    exact ⟨fun e => keyN_inj hi2 hj e, fun e => by rw [e]; rfl⟩
  simp only [Function.comp, he]
  unfold f2
  rw [Bool.eq_iff_iff]
  simp only [Bool.and_eq_true, Bool.or_eq_true, Bool.not_eq_true', decide_eq_true_iff, decide_eq_false_iff_not]
  omega
theorem L2_has {j : Nat} (hj : j < 300) : hasL (L2 j) (keyN j) = true := by
  unfold L2
  rw [has_map (fun i hi => List.mem_range.1 (List.mem_filter.1 hi).1) hj, decide_eq_true_iff]
  exact List.mem_filter.2 ⟨List.mem_range.2 hj, by simp [f2]⟩
def L3 : List KV := (List.range 100).map fun k => kvN (3 * k)
theorem L2_end : L2 300 = L3 := by
  have h : (List.range 300).filter (f2 300) = (List.range 100).map (3 * ·) := by decide +kernel
  unfold L2 L3
  rw [h, List.map_map]
  rfl
theorem L3_length : L3.length = 100 := by unfold L3; rw [List.length_map, List.length_range]
theorem L3_keys {k : Nat} (hk : k < 100) : (keysL L3)[k]? = some (keyN (3 * k)) := by
  unfold keysL L3
  rw [List.getElem?_map, List.getElem?_map, List.getElem?_range hk]
  rfl
theorem L3_has {k : Nat} (hk : k < 100) : hasL L3 (keyN (3 * k)) = true :=
  mem_hasL.2 ⟨kvN (3 * k), List.mem_map.2 ⟨k, List.mem_range.2 hk, rfl⟩, rfl⟩
theorem L3_cell {k : Nat} (hk : k < 100) : cellL L3 (keyN (3 * k)) = numC (3 * k) := by
  have hall : ∀ p ∈ L3, p.1 = keyN (3 * k) → p = kvN (3 * k) := by
    intro p hp he
    obtain ⟨i, hi, rfl⟩ := List.mem_map.1 hp
    have hi2 := List.mem_range.1 hi
    have := keyN_inj (i := 3 * i) (j := 3 * k) (by omega) (by omega) he
    show kvN (3 * i) = kvN (3 * k)
    rw [this]
  unfold cellL getL
  cases h : L3.find? (fun p => decide (p.1 = keyN (3 * k))) with
  | none =>
    have := List.find?_eq_none.1 h (kvN (3 * k)) (List.mem_map.2 ⟨k, List.mem_range.2 hk, rfl⟩)
    simp [kvN] at this
  | some p =>
    have h1 := List.find?_some h
    have h2 := hall p (List.mem_of_find?_eq_some h) (by simpa using h1)
    rw [h2]
    rfl
theorem keyN_size (i : Nat) : (keyN i).size = 2 := rfl
end Go.Proofs.Ytlagnklmfanmoaa.Ar
