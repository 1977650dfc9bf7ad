/-
  Package lex: where a quote stands again ('closing'): the closure that knows whether a mark is open, and the run with it.
-/
import Derived.Test.YtefpkgdakihceaaDoorLxE
import Derived.Test.YtefpkgdakihceaaDoorLxF
import Derived.Lib.Builder
namespace Go.Proofs.YtefpkgdakihceaaDoor.Lx
open Go.RowKit

/- What the closure has captured: whether a mark is open, and the quote. -/
structure Cl (w : World) (bm bq : Nat) (q : Int) (m : Bool) : Prop where
  hm : w.heap[bm]? = some (.cells #[.bool m] 4 (0, 0))
  hq : w.heap[bq]? = some (.cells #[.int .i32 q] 21 (0, 0))
  ne : bm ≠ bq
theorem Cl.lt {w : World} {bm bq : Nat} {q : Int} {m : Bool} (h : Cl w bm bq q m) : bm < w.heap.size ∧ bq < w.heap.size := by
  constructor
  · rcases Nat.lt_or_ge bm w.heap.size with h' | h'
    · exact h'
    · have := h.hm; simp [Array.getElem?_eq_none h'] at this
  · rcases Nat.lt_or_ge bq w.heap.size with h' | h'
    · exact h'
    · have := h.hq; simp [Array.getElem?_eq_none h'] at this
theorem Cl.iter {w : World} {bm bq : Nat} {q : Int} {m : Bool} (h : Cl w bm bq q m) (s : ByteArray) (pos : Nat) : Cl (w.iter s pos) bm bq q m :=
  ⟨by unfold World.iter; rw [Lib.alloc_old _ _ _ h.lt.1]; exact h.hm, by unfold World.iter; rw [Lib.alloc_old _ _ _ h.lt.2]; exact h.hq, h.ne⟩
def goesB (q r : Int) (m : Bool) : Bool := decide (r ≠ 10) && (m || decide (r ≠ q))
def nextB (r : Int) (m : Bool) : Bool := !m && decide (r = 92)
set_option maxHeartbeats 800000 in
theorem closing1 (r q : Int) (m : Bool) (bm bq : Nat) (w : World) (h : Cl w bm bq q m) :
    Calls Tryd.prog 57 #[.int .i32 r, .pointer (some ⟨bm, 0, none⟩), .pointer (some ⟨bq, 0, none⟩)] w fun e w' => e = .returned (.bool (goesB q r m)) ∧ w' = w.setCell ⟨bm, 0, none⟩ (.bool (nextB r m)) := by
  have c1 : w.cell? ⟨bm, 0, none⟩ = some (.bool m) := by rw [Lib.cell_of_heap h.hm]; rfl
  have c2 : w.cell? ⟨bq, 0, none⟩ = some (.int .i32 q) := by rw [Lib.cell_of_heap h.hq]; rfl
  have f1 : w.frozen? ⟨bm, 0, none⟩ = false := Lib.frozen_of_heap h.hm 0
  have H := Lib.hid h
  clear h
  cases m
  all_goals
    go_enter Tryd.func57, Tryd.ntmps57
    go_wp2_with fail
    all_goals go_ret
    all_goals refine ⟨ret_bool ?_, ?_⟩
  all_goals first
    | (refine congrArg (fun b => w.setCell ⟨bm, 0, none⟩ (.bool b)) ?_; unfold nextB; rw [Bool.eq_iff_iff]; simp_all; done)
    | (unfold goesB; rw [Bool.eq_iff_iff]; simp_all; done)

/- Worlds: a store below an iterator. -/
theorem iter_setCell (w : World) (s : ByteArray) (pos : Nat) (b o : Nat) (v : Value) (h : b < w.heap.size) : (w.iter s pos).setCell ⟨b, o, none⟩ v = (w.setCell ⟨b, o, none⟩ v).iter s pos := by
  unfold World.iter
  exact World.setCell_alloc_past _ _ _ _ h
theorem Cl.set {w : World} {bm bq : Nat} {q : Int} {m : Bool} (h : Cl w bm bq q m) (m' : Bool) : Cl (w.setCell ⟨bm, 0, none⟩ (.bool m')) bm bq q m' :=
  ⟨one_setCell h.hm, by rw [heap_setCell_other _ _ _ _ (fun e => h.ne e.symm)]; exact h.hq, h.ne⟩

/- How far it goes, at a place. -/
def closeAt (q : UInt8) (s : ByteArray) (k : Nat) (m : Bool) : Nat := k + closeL q (s.data.toList.drop k) m
theorem closeAt_past {q : UInt8} {s : ByteArray} {k : Nat} {m : Bool} (h : ¬ k < s.size) : closeAt q s k m = k := by
  unfold closeAt; rw [drop_none h]; rfl
theorem closeAt_byte {q : UInt8} {s : ByteArray} {k : Nat} {m : Bool} (h : k < s.size) : closeAt q s k m = if goesB q.toNat (s[k]).toNat m = true then closeAt q s (k + 1) (nextB (s[k]).toNat m) else k := by
  unfold closeAt
  rw [drop_cons h]
  have e10 : ((s[k]).toNat : Int) = 10 ↔ s[k] = 10 := byte_eq (b := 10)
  have e92 : ((s[k]).toNat : Int) = 92 ↔ s[k] = 92 := byte_eq (b := 92)
  have eq : ((s[k]).toNat : Int) = (q.toNat : Int) ↔ s[k] = q := byte_eq
  have en : nextB (s[k]).toNat m = (!m && s[k] == 92) := by
    unfold nextB
    congr 1
    rw [Bool.eq_iff_iff, decide_eq_true_eq, e92, beq_iff_eq]
  rw [en]
  by_cases c : s[k] = 10 ∨ (m = false ∧ s[k] = q)
  · rw [closeL_stop c, if_neg]
    · rfl
    · unfold goesB
      rcases c with c | ⟨c1, c2⟩
      · simp [c]
      · simp [c1, c2]
  · have c1 : s[k] ≠ 10 := fun h => c (.inl h)
    have c2 : m = true ∨ s[k] ≠ q := by
      cases m
      · exact .inr fun h => c (.inr ⟨rfl, h⟩)
      · exact .inl rfl
    rw [closeL_go c1 c2, if_pos]
    · omega
    · unfold goesB
      rcases c2 with c2 | c2
      · simp [e10, c1, c2]
      · simp [e10, c1, eq, c2]
theorem closeAt_high (q : UInt8) (hq : q.toNat < 128) (s : ByteArray) : ∀ (j k : Nat) (m : Bool), 1 ≤ j → k + j ≤ s.size → (∀ i (_ : i < j) (hk : k + i < s.size), 128 ≤ (s[k + i]'hk).toNat) → closeAt q s k m = closeAt q s (k + j) false := by
  intro j
  induction j with
  | zero => intro k m h; omega
  | succ j ih =>
    intro k m _ hk hb
    have h0 : 128 ≤ (s[k]'(by omega)).toNat := hb 0 (by omega) (by omega)
    have eg : goesB q.toNat (s[k]'(by omega)).toNat m = true := by
      unfold goesB
      simp only [Bool.and_eq_true, decide_eq_true_eq, Bool.or_eq_true]
      exact ⟨by omega, .inr (by omega)⟩
    have en : nextB (s[k]'(by omega)).toNat m = false := by
      unfold nextB
      simp only [Bool.and_eq_false_iff, decide_eq_false_iff_not]
      exact .inr (by omega)
    rw [closeAt_byte (by omega), if_pos eg, en]
    by_cases hj : j = 0
    · subst hj; rfl
    · rw [ih (k + 1) false (by omega) (by omega) (fun i hi hk2 => by
        have := hb (i + 1) (by omega) (by omega)
        have e : k + (i + 1) = k + 1 + i := by omega
        simp only [e] at this
        exact this)]
      congr 1
      omega
theorem closeAt_range (q : UInt8) (hq : q.toNat < 128) (s : ByteArray) (pos : Nat) (m : Bool) (h : pos < s.size) :
    (goesB q.toNat (Utf8.decode s pos).1 m = true → pos < pos + (Utf8.decode s pos).2 ∧ pos + (Utf8.decode s pos).2 ≤ s.size ∧ closeAt q s (pos + (Utf8.decode s pos).2) (nextB (Utf8.decode s pos).1 m) = closeAt q s pos m) ∧
    (goesB q.toNat (Utf8.decode s pos).1 m = false → closeAt q s pos m = pos) := by
  by_cases ha : (s[pos]'h).toNat < 128
  · rw [decode_ascii s pos h ha]
    exact ⟨fun hg => ⟨by simp, h, by rw [closeAt_byte h, if_pos hg]⟩, fun hg => by rw [closeAt_byte h, if_neg (by rw [hg]; decide)]⟩
  · have hh := decode_high s pos h (by omega)
    have ho := decode_over s pos h (by omega)
    have en : nextB (Utf8.decode s pos).1 m = false := by
      unfold nextB
      simp only [Bool.and_eq_false_iff, decide_eq_false_iff_not]
      exact .inr (by omega)
    have eg : goesB q.toNat (Utf8.decode s pos).1 m = true := by
      unfold goesB
      simp only [Bool.and_eq_true, decide_eq_true_eq, Bool.or_eq_true]
      exact ⟨by omega, .inr (by omega)⟩
    refine ⟨fun _ => ⟨by omega, ho.1, ?_⟩, fun hg => by rw [eg] at hg; cases hg⟩
    rw [en]
    exact (closeAt_high q hq s _ pos m hh.2 ho.1 (fun i hi hk => ho.2 i hi hk)).symm
theorem closeAt_extract (q : UInt8) (s : ByteArray) (k : Nat) : k + closeAt q (s.extract k s.size) 0 false = closeAt q s k false := by
  unfold closeAt
  rw [ext_list]
  simp

theorem next_any (w wm : World) (hws : wm.heap.size = w.heap.size) (s : ByteArray) (pos : Nat) (ty : TypeId) (h : pos < s.size) :
    (Instr.next (.pointer (some ⟨w.heap.size, 0, none⟩)) true ty).run Tryd.prog (wm.iter s pos) = .ok (.tuple #[.bool true, .int .i64 pos, .int .i32 (Utf8.decode s pos).1]) (wm.iter s (pos + (Utf8.decode s pos).2)) := by
  rw [← hws]; exact run_next_any wm s pos ty h
theorem next_end (w wm : World) (hws : wm.heap.size = w.heap.size) (s : ByteArray) (pos : Nat) (ty : TypeId) (h : ¬ pos < s.size) :
    (Instr.next (.pointer (some ⟨w.heap.size, 0, none⟩)) true ty).run Tryd.prog (wm.iter s pos) = .ok (.tuple #[.bool false]) (wm.iter s pos) := by
  rw [← hws]; exact run_next_end wm s pos ty h
set_option maxHeartbeats 1600000 in
theorem runClosing (q : UInt8) (hq : q.toNat < 128) (s : ByteArray) (k : Nat) (x : Int) (hx : x = (k : Int)) (bm bq : Nat) (w : World) (B : Nat) (hC : Cl w bm bq q.toNat false) (hB : B ≤ bm) (hk : k ≤ s.size) (hs : s.size ≤ 281474976710656) :
    Calls Tryd.prog 17 #[.string s, .int .i64 x, .func (.func 57) #[] #[.pointer (some ⟨bm, 0, none⟩), .pointer (some ⟨bq, 0, none⟩)]] w fun e w' => e = .returned (.int .i64 (closeAt q s k false)) ∧ Below B w w' := by
  subst hx
  have hz : (s.extract k s.size).size = s.size - k := by rw [ByteArray.size_extract]; omega
  have HZ := Lib.hid hz
  have HE := Lib.hid (closeAt_extract q s k)
  clear hz
  have hsz := hC.lt
  go_enter Tryd.func17, Tryd.ntmps17
  go_wp2_with fail
  go_loopw [] (fun w' => ∃ (pos : Nat) (m : Bool) (wm : World), pos ≤ (s.extract k s.size).size ∧ w' = wm.iter (s.extract k s.size) pos ∧ wm.heap.size = w.heap.size ∧ Cl wm bm bq q.toNat m ∧ Below B w wm ∧ closeAt q (s.extract k s.size) pos m = closeAt q (s.extract k s.size) 0 false) (fun w' => (s.extract k s.size).size - w'.iterPos w.heap.size)
  case atStart => exact ⟨0, false, w, Nat.zero_le _, rfl, rfl, hC, Below.refl _ _, rfl⟩
  case round =>
    obtain ⟨pos, m, wm, hpos, rfl, hws, hCm, hBm, hu⟩ := hrel
    have HU := Lib.hid hu
    have HW := Lib.hid hws
    have HCM := Lib.hid hCm
    have hkp : k + pos ≤ 281474976710656 := by have := HZ.out; omega
    clear hu hC
    by_cases hp : pos < (s.extract k s.size).size
    · have hnx := fun ty => next_any w wm hws (s.extract k s.size) pos ty hp
      have HR := Lib.hid (closeAt_range q hq (s.extract k s.size) pos m hp)
      clear hws
      by_cases hy : goesB q.toNat (Utf8.decode (s.extract k s.size) pos).1 m = true
      · have HR1 := Lib.hid (HR.out.1 hy)
        go_wp2_with (refine (closing1 _ _ _ _ _ _ (HCM.out.iter _ _)).mono ?_; rintro e w' ⟨rfl, rfl⟩)
        go_roundw
        case rel => exact ⟨_, nextB (Utf8.decode (s.extract k s.size) pos).1 m, wm.setCell ⟨bm, 0, none⟩ (.bool (nextB (Utf8.decode (s.extract k s.size) pos).1 m)), HR1.out.2.1, iter_setCell _ _ _ _ _ _ HCM.out.lt.1, by simp [HW.out], HCM.out.set _, hBm.setCell hB _, HR1.out.2.2.trans HU.out⟩
        case measure =>
          have h1 := HR1.out
          rw [iter_setCell _ _ _ _ _ _ HCM.out.lt.1]
          have e : w.heap.size = (wm.setCell ⟨bm, 0, none⟩ (.bool (nextB (Utf8.decode (s.extract k s.size) pos).1 m))).heap.size := by simp [HW.out]
          have e2 : w.heap.size = wm.heap.size := HW.out.symm
          have m1 : ((wm.setCell ⟨bm, 0, none⟩ (.bool (nextB (Utf8.decode (s.extract k s.size) pos).1 m))).iter (s.extract k s.size) (pos + (Utf8.decode (s.extract k s.size) pos).2)).iterPos w.heap.size = pos + (Utf8.decode (s.extract k s.size) pos).2 := by
            rw [e]; exact World.iterPos_iter _ _ _
          have m2 : (wm.iter (s.extract k s.size) pos).iterPos w.heap.size = pos := by
            rw [e2]; exact World.iterPos_iter _ _ _
          rw [m1, m2]
          omega
      · have hy' := Bool.eq_false_iff.mpr hy
        have HR1 := Lib.hid (HR.out.2 hy')
        clear hy
        go_wp2_with (refine (closing1 _ _ _ _ _ _ (HCM.out.iter _ _)).mono ?_; rintro e w' ⟨rfl, rfl⟩)
        go_ret
        exact ⟨ret_int (by have h1 := HE.out; have h2 := HU.out; rw [HR1.out] at h2; omega), by
          rw [iter_setCell _ _ _ _ _ _ HCM.out.lt.1]
          exact (hBm.setCell hB _).trans ((iter_below _ _ _).mono (by simp [HW.out]; omega))⟩
    · have hnx := fun ty => next_end w wm hws (s.extract k s.size) pos ty hp
      have HR := Lib.hid (closeAt_past (q := q) (m := m) hp)
      clear hws
      go_wp2
      go_ret
      exact ⟨ret_int (by have h1 := HE.out; have h2 := HU.out; rw [HR.out] at h2; have := HZ.out; omega), hBm.trans ((iter_below wm _ _).mono (by rw [HW.out]; omega))⟩
end Go.Proofs.YtefpkgdakihceaaDoor.Lx
