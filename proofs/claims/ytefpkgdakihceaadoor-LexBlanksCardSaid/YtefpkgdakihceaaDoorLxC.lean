/-
  Package lex: what is passed over; one byte of some; powers, numbers, names, words, signs: as the plain functions tell.
-/
import Derived.Test.YtefpkgdakihceaaDoorLxS
import Derived.Test.YtefpkgdakihceaaDoorShelf
namespace Go.Proofs.YtefpkgdakihceaaDoor.Lx
open Go.RowKit

/- A world behind one that the call began in: nothing older has turned. -/
structure Live (m : Int) (w0 w : World) : Prop where
  b : Below w0.heap.size w0 w
  z : 0 < w0.heap.size
  m : w0.cell? ⟨0, 0, none⟩ = some (.int .i64 m)
theorem Live.step {m : Int} {w0 w w' : World} (h : Live m w0 w) (hb : Below w.heap.size w w') : Live m w0 w' :=
  ⟨h.b.trans (hb.mono h.b.size), h.z, h.m⟩
theorem Live.hm {m : Int} {w0 w : World} (h : Live m w0 w) : w.cell? ⟨0, 0, none⟩ = some (.int .i64 m) := by
  rw [h.b.cell (p := ⟨0, 0, none⟩) h.z]; exact h.m
theorem Live.refl {m : Int} {w0 : World} (hz : 0 < w0.heap.size) (hm : w0.cell? ⟨0, 0, none⟩ = some (.int .i64 m)) : Live m w0 w0 := ⟨Below.refl _ _, hz, hm⟩

theorem runL (g : FuncId) (p : Int → Bool) (hc : Class g p) (s : ByteArray) (k : Nat) (x : Int) (hx : x = (k : Int)) (m : Int) (w0 w : World) (hL : Live m w0 w) (hk : k ≤ s.size) (hs : s.size ≤ 281474976710656) :
    Calls Tryd.prog 17 #[.string s, .int .i64 x, .func (.func g) #[] #[]] w fun e w' => e = .returned (.int .i64 (upTo p s k)) ∧ Live m w0 w' := by
  subst hx
  exact (run g p hc s k w hk hs).mono fun e w' h => ⟨h.1, hL.step h.2⟩
theorem prefixed (s p : ByteArray) (w : World) :
    Calls Tryd.prog 19 #[.string s, .string p] w fun e w' => e = .returned (.bool (Lib.hasPrefix s.data.toList p.data.toList)) ∧ w = w' :=
  (Tryd.strings_HasPrefix s p w).mono fun _ _ h => ⟨h.1, h.2.symm⟩

/- What stands at a place. -/
theorem ext_list (s : ByteArray) (k : Nat) : (s.extract k s.size).data.toList = s.data.toList.drop k := by
  rw [Lib.extract_eq]
  show (s.data.toList.drop k).take (s.size - k) = _
  exact List.take_of_length_le (by rw [List.length_drop, ← Lib.size_eq]; exact Nat.le_refl _)
theorem drop_cons {s : ByteArray} {k : Nat} (h : k < s.size) : s.data.toList.drop k = s[k] :: s.data.toList.drop (k + 1) :=
  List.drop_eq_getElem_cons (by simpa using h)
theorem drop_none {s : ByteArray} {k : Nat} (h : ¬ k < s.size) : s.data.toList.drop k = [] :=
  List.drop_eq_nil_of_le (by rw [← Lib.size_eq]; omega)
theorem byte_eq {a b : UInt8} : ((a.toNat : Int) = (b.toNat : Int)) ↔ a = b := by
  constructor
  · intro h; exact UInt8.toNat_inj.1 (by omega)
  · rintro rfl; rfl
theorem pre_one (s : ByteArray) (k : Nat) (c : UInt8) (hc : (c.toNat : Int) ≠ 0) : Lib.hasPrefix (s.extract k s.size).data.toList [c] = (bAt s k == (c.toNat : Int)) := by
  rw [ext_list]
  by_cases h : k < s.size
  · rw [drop_cons h, bAt_in h, Bool.eq_iff_iff]
    simp only [Lib.hasPrefix, List.isPrefixOf, Bool.and_true, beq_iff_eq, byte_eq]
    exact ⟨fun h => h.symm, fun h => h.symm⟩
  · rw [drop_none h, bAt_out h]
    have : ((0 : Int) == (c.toNat : Int)) = false := by rw [beq_eq_false_iff_ne]; exact fun e => hc e.symm
    rw [this]; rfl
theorem pre_two (s : ByteArray) (k : Nat) (c d : UInt8) (hc : (c.toNat : Int) ≠ 0) (hd : (d.toNat : Int) ≠ 0) : Lib.hasPrefix (s.extract k s.size).data.toList [c, d] = (bAt s k == (c.toNat : Int) && bAt s (k + 1) == (d.toNat : Int)) := by
  rw [ext_list]
  by_cases h : k < s.size
  · rw [drop_cons h, bAt_in h]
    by_cases h2 : k + 1 < s.size
    · rw [drop_cons h2, bAt_in h2, Bool.eq_iff_iff]
      simp only [Lib.hasPrefix, List.isPrefixOf, Bool.and_true, Bool.and_eq_true, beq_iff_eq, byte_eq]
      exact ⟨fun h => ⟨h.1.symm, h.2.symm⟩, fun h => ⟨h.1.symm, h.2.symm⟩⟩
    · rw [drop_none h2, bAt_out h2]
      have : ((0 : Int) == (d.toNat : Int)) = false := by rw [beq_eq_false_iff_ne]; exact fun e => hd e.symm
      rw [this, Bool.and_false]
      simp [Lib.hasPrefix, List.isPrefixOf]
  · rw [drop_none h, bAt_out h]
    have : ((0 : Int) == (c.toNat : Int)) = false := by rw [beq_eq_false_iff_ne]; exact fun e => hc e.symm
    rw [this]; rfl

def preB (s : ByteArray) (k : Nat) (c : UInt8) : Bool := bAt s k == (c.toNat : Int)
def joinB (s : ByteArray) (k : Nat) : Bool := bAt s k == 92 && bAt s (k + 1) == 10
theorem pre1 (s : ByteArray) (k : Nat) (c : UInt8) (hc : (c.toNat : Int) ≠ 0) (w : World) :
    Calls Tryd.prog 19 #[.string (s.extract k s.size), .string ⟨#[c]⟩] w fun e w' => e = .returned (.bool (preB s k c)) ∧ w = w' :=
  (prefixed _ _ w).mono fun _ _ h => ⟨h.1.trans (ret_bool (pre_one s k c hc)), h.2⟩
theorem preJ (s : ByteArray) (k : Nat) (w : World) :
    Calls Tryd.prog 19 #[.string (s.extract k s.size), .string ⟨#[92, 10]⟩] w fun e w' => e = .returned (.bool (joinB s k)) ∧ w = w' :=
  (prefixed _ _ w).mono fun _ _ h => ⟨h.1.trans (ret_bool (pre_two s k 92 10 (by decide) (by decide))), h.2⟩
theorem preB_yes {s : ByteArray} {k : Nat} {c : UInt8} (h : bAt s k = (c.toNat : Int)) : preB s k c = true := by unfold preB; rw [h]; simp
theorem preB_no {s : ByteArray} {k : Nat} {c : UInt8} (h : bAt s k ≠ (c.toNat : Int)) : preB s k c = false := by unfold preB; rw [beq_eq_false_iff_ne]; exact h

/- One byte of some. -/
def someB (l : List UInt8) (s : ByteArray) (k : Nat) : Bool := if h : k < s.size then l.contains s[k] else false
theorem idx_some (l : List UInt8) (c : UInt8) : decide (0 ≤ Lib.indexByte l c) = l.contains c := by
  induction l with
  | nil => rfl
  | cons a l ih =>
    have hg := Lib.indexByte_ge l c
    rw [List.contains_cons, ← ih, Lib.indexByte]
    by_cases h : (a == c) = true
    · rw [if_pos h]
      have : (c == a) = true := by rw [beq_iff_eq] at h ⊢; exact h.symm
      simp [this]
    · rw [if_neg h]
      have h2 : (c == a) = false := by
        rw [beq_eq_false_iff_ne]; intro e; exact h (by rw [beq_iff_eq]; exact e.symm)
      rw [h2, Bool.false_or]
      split
      · rename_i h3
        rw [beq_iff_eq] at h3
        rw [h3]
      · rename_i h3
        rw [beq_iff_eq] at h3
        rw [Bool.eq_iff_iff]
        simp
        omega
def oneE (l : List UInt8) (s : ByteArray) (k : Nat) : Nat := if someB l s k = true then k + 1 else k
theorem someB_lt {l : List UInt8} {s : ByteArray} {k : Nat} (h : someB l s k = true) : k < s.size := by
  unfold someB at h
  split at h
  · assumption
  · cases h
theorem oneE_le (l : List UInt8) (s : ByteArray) (k : Nat) (h : k ≤ s.size) : k ≤ oneE l s k ∧ oneE l s k ≤ k + 1 ∧ oneE l s k ≤ s.size := by
  unfold oneE
  split
  · rename_i h2; have := someB_lt h2; omega
  · omega
theorem one_of (s l : ByteArray) (k : Nat) (w : World) (hs : s.size ≤ 281474976710656) :
    Calls Tryd.prog 50 #[.string s, .int .i64 k, .string l] w fun e w' => e = .returned (.int .i64 (oneE l.data.toList s k)) ∧ w = w' := by
  by_cases h : k < s.size
  · have hbd := (s[k]).toNat_lt
    by_cases h2 : someB l.data.toList s k = true
    · have HE := Lib.hid (show oneE l.data.toList s k = k + 1 by unfold oneE; rw [if_pos h2])
      have h3 : 0 ≤ Lib.indexByte l.data.toList s[k] := by unfold someB at h2; rw [dif_pos h, ← idx_some] at h2; simpa using h2
      go_enter Tryd.func50, Tryd.ntmps50
      go_wp2_with (go_at_call 63; refine (Tryd.strings_IndexByte _ _ _).mono ?_; rintro e w' ⟨rfl, rfl⟩)
      go_ret
      exact ⟨ret_int (by rw [HE.out]; simp), rfl⟩
    · have HE := Lib.hid (show oneE l.data.toList s k = k by unfold oneE; rw [if_neg h2])
      have h3 : Lib.indexByte l.data.toList s[k] < 0 := by unfold someB at h2; rw [dif_pos h, ← idx_some] at h2; simpa using h2
      go_enter Tryd.func50, Tryd.ntmps50
      go_wp2_with (go_at_call 63; refine (Tryd.strings_IndexByte _ _ _).mono ?_; rintro e w' ⟨rfl, rfl⟩)
      go_ret
      exact ⟨ret_int (by rw [HE.out]), rfl⟩
  · have HE := Lib.hid (show oneE l.data.toList s k = k by unfold oneE someB; rw [dif_neg h]; rfl)
    go_enter Tryd.func50, Tryd.ntmps50
    go_wp2_with fail
    go_ret
    exact ⟨ret_int (by rw [HE.out]), rfl⟩

/- What is passed over. -/
set_option maxHeartbeats 3200000 in
theorem passOver (s : ByteArray) (k : Nat) (m : Int) (w0 w : World) (hL : Live m w0 w) (hk : k ≤ s.size) (hs : s.size ≤ 65536) :
    Calls Tryd.prog 11 #[.string s, .int .i64 k] w fun e w' => e = .returned (.int .i64 (pass s k)) ∧ Live m w0 w' := by
  go_enter Tryd.func11, Tryd.ntmps11
  go_wp2_with fail
  go_loopw [1] (fun i wr => Live m w0 wr ∧ ∃ j : Nat, j ≤ s.size ∧ i = .int .i64 j ∧ pass s j = pass s k) (fun i _ => s.size - (intOf i).toNat)
  case atStart => exact ⟨hL, k, hk, rfl, rfl⟩
  case round =>
    obtain ⟨hLr, j, hj, rfl, hu⟩ := hrel
    have HU := Lib.hid hu
    clear hu hL
    have a1 := upTo_ge blankI s j
    have a2 := upTo_le blankI s j hj
    have HB := Lib.hid (pass_blanks s j)
    have HN := Lib.hid (upTo_bstop (p := blankI) (by decide) s j)
    generalize hj1 : upTo blankI s j = j1 at *
    have HJ1 := Lib.hid hj1
    clear hj1
    by_cases c1 : bAt s j1 = 35
    · have c1' : preB s j1 35 = true := preB_yes c1
      have hj1l : j1 < s.size := bAt_lt (by omega)
      have HH := Lib.hid (pass_hash c1)
      have a3 := upTo_le notLfI s j1 a2
      have a4 : j1 + 1 ≤ upTo notLfI s j1 := by rw [upTo_byes hj1l (by rw [c1]; decide)]; exact upTo_ge _ _ _
      have a5 : bAt s (upTo notLfI s j1) = 10 ∨ ¬ upTo notLfI s j1 < s.size := by
        by_cases h : upTo notLfI s j1 < s.size
        · left
          have := upTo_stop notLfI s j1 h
          rw [← bAt_in h] at this
          simpa [notLfI] using this
        · exact .inr h
      generalize hj2 : upTo notLfI s j1 = j2 at *
      have HJ2 := Lib.hid hj2
      have c2' : joinB s j2 = false := by
        unfold joinB
        rcases a5 with a5 | a5
        · rw [a5]; rfl
        · rw [bAt_out a5]; rfl
      clear hj2 a5 c1
      have n1 : ((j2 : Int) == (j : Int)) = false := by rw [beq_eq_false_iff_ne]; omega
      go_wp2_with (first
        | (go_at_call 17; (with_reducible refine (runL _ _ classBlank s j _ (by omega) m w0 _ hLr hj (by omega)).mono ?_); rintro e w' ⟨rfl, hL1⟩; rw [HJ1.out])
        | (go_at_call 17; (with_reducible refine (runL _ _ classNotLf s j1 _ (by omega) m w0 _ (by assumption) a2 (by omega)).mono ?_); rintro e w' ⟨rfl, hL2⟩; rw [HJ2.out])
        | (go_at_call 19; (first | (with_reducible refine (pre1 s _ _ (by decide) _).mono ?_) | (with_reducible refine (preJ s _ _).mono ?_)); rintro e w' ⟨rfl, rfl⟩))
      go_roundw
      case rel => exact ⟨by assumption, j2, by omega, rfl, by rw [← HU.out, ← HB.out, HH.out]⟩
      case measure => simp [intOf]; omega
    · have c1' : preB s j1 35 = false := preB_no c1
      by_cases c2 : bAt s j1 = 92 ∧ bAt s (j1 + 1) = 10
      · have c2' : joinB s j1 = true := by unfold joinB; rw [c2.1, c2.2]; rfl
        have hj2l : j1 + 1 < s.size := bAt_lt (by omega)
        have HH := Lib.hid (pass_join c2.1 c2.2)
        have n1 : ((j1 : Int) + 2 == (j : Int)) = false := by rw [beq_eq_false_iff_ne]; omega
        clear c1 c2
        go_wp2_with (first
          | (go_at_call 17; (with_reducible refine (runL _ _ classBlank s j _ (by omega) m w0 _ hLr hj (by omega)).mono ?_); rintro e w' ⟨rfl, hL1⟩; rw [HJ1.out])
          | (go_at_call 19; (first | (with_reducible refine (pre1 s _ _ (by decide) _).mono ?_) | (with_reducible refine (preJ s _ _).mono ?_)); rintro e w' ⟨rfl, rfl⟩))
        go_roundw
        case rel => exact ⟨by assumption, j1 + 2, by omega, by go_num, by rw [← HU.out, ← HB.out, HH.out]⟩
        case measure => simp [intOf]; omega
      · have c2' : joinB s j1 = false := by
          unfold joinB
          rw [Bool.eq_false_iff]
          intro h
          simp only [Bool.and_eq_true, beq_iff_eq] at h
          exact c2 h
        have HS := Lib.hid (pass_stay HN.out c2 c1)
        clear c1 c2
        by_cases c3 : j1 = j
        · have n1 : ((j1 : Int) == (j : Int)) = true := by rw [c3]; simp
          have HC := Lib.hid c3
          clear c3
          go_wp2_with (first
            | (go_at_call 17; (with_reducible refine (runL _ _ classBlank s j _ (by omega) m w0 _ hLr hj (by omega)).mono ?_); rintro e w' ⟨rfl, hL1⟩; rw [HJ1.out])
            | (go_at_call 19; (first | (with_reducible refine (pre1 s _ _ (by decide) _).mono ?_) | (with_reducible refine (preJ s _ _).mono ?_)); rintro e w' ⟨rfl, rfl⟩))
          go_ret
          exact ⟨ret_int (by rw [← HU.out, ← HB.out, HS.out]), by assumption⟩
        · have n1 : ((j1 : Int) == (j : Int)) = false := by rw [beq_eq_false_iff_ne]; omega
          go_wp2_with (first
            | (go_at_call 17; (with_reducible refine (runL _ _ classBlank s j _ (by omega) m w0 _ hLr hj (by omega)).mono ?_); rintro e w' ⟨rfl, hL1⟩; rw [HJ1.out])
            | (go_at_call 19; (first | (with_reducible refine (pre1 s _ _ (by decide) _).mono ?_) | (with_reducible refine (preJ s _ _).mono ?_)); rintro e w' ⟨rfl, rfl⟩))
          go_roundw
          case rel => exact ⟨by assumption, j1, by omega, rfl, by rw [← HU.out, ← HB.out]⟩
          case measure => simp [intOf]; omega
end Go.Proofs.YtefpkgdakihceaaDoor.Lx
