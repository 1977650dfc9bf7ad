/-
  Package lex: 'closing'; octal; what a mark says.
-/
import Derived.Test.YtefpkgdakihceaaDoorLxG
namespace Go.Proofs.YtefpkgdakihceaaDoor.Lx
open Go.RowKit

def clE (s : ByteArray) (k : Nat) (h : k < s.size) : Nat := closeAt s[k] s (k + 1) false
def clB (s : ByteArray) (k : Nat) (h : k < s.size) : Bool := decide (clE s k h < s.size) && bAt s (clE s k h) != 10
theorem clE_le (s : ByteArray) (k : Nat) (h : k < s.size) : k + 1 ≤ clE s k h ∧ clE s k h ≤ s.size := by
  unfold clE closeAt
  have := closeL_le s[k] (s.data.toList.drop (k + 1)) false
  rw [List.length_drop, ← Lib.size_eq] at this
  omega
theorem ret_ib {k : IntKind} {a b : Int} {c d : Bool} (h : a = b) (h' : c = d) : Ending.returned (.tuple #[.int k a, .bool c]) = .returned (.tuple #[.int k b, .bool d]) := by rw [h, h']
theorem cl_new (w : World) (q : Int) : Cl ((w.alloc (.cells #[.int .i32 q] 21)).alloc (.cells #[.bool false] 4)) (w.heap.size + 1) w.heap.size q false := by
  refine ⟨?_, ?_, by omega⟩
  · show ((w.heap.push _).push _)[w.heap.size + 1]? = _
    rw [Array.getElem?_push, if_pos (by simp)]
  · show ((w.heap.push _).push _)[w.heap.size]? = _
    rw [Array.getElem?_push, if_neg (by simp), Array.getElem?_push, if_pos rfl]
set_option maxHeartbeats 1600000 in
theorem closing (s : ByteArray) (k : Nat) (x : Int) (hx : x = (k : Int)) (m : Int) (w0 w : World) (hL : Live m w0 w) (hk : k < s.size) (hq : (s[k]).toNat < 128) (hs : s.size ≤ 65536) :
    Calls Tryd.prog 39 #[.string s, .int .i64 x] w fun e w' => e = .returned (.tuple #[.int .i64 (clE s k hk), .bool (clB s k hk)]) ∧ Live m w0 w' := by
  subst hx
  have hle := clE_le s k hk
  have HC := Lib.hid (show closeAt s[k] s (k + 1) false = clE s k hk from rfl)
  have HB := Lib.hid (show clB s k hk = (decide (clE s k hk < s.size) && bAt s (clE s k hk) != 10) from rfl)
  have HN := Lib.hid (cl_new w ((s[k]).toNat : Int))
  generalize hq2 : s[k] = q at *
  generalize he : clE s k hk = e at *
  obtain ⟨e1, e2⟩ := hle
  have hkl : (k : Int) < (s.size : Int) := by omega
  have HQ := Lib.hid hq2
  clear he
  by_cases c1 : e < s.size
  · have HB2 := Lib.hid (show clB s k hk = (bAt s e != 10) by rw [HB.out, decide_eq_true c1]; rfl)
    have hb := Lib.hid (bAt_in c1)
    go_enter Tryd.func39, Tryd.ntmps39
    go_wp2_with (first
      | (go_at_call 17; (with_reducible refine (runClosing q hq s (k + 1) _ (by omega) _ _ _ w.heap.size HN.out (by omega) (by omega) (by omega)).mono ?_); rintro e' w' ⟨rfl, hb2⟩; rw [HC.out]))
    go_quiet (fail)
    go_wp2
    go_ret2
    exact ⟨ret_ib rfl (by rw [HB2.out, hb.out]), hL.step (below_drewN ((((Below.refl _ w).alloc (Nat.le_refl _) _).alloc (by simp) _).trans hb2) nq)⟩
  · have HB2 := Lib.hid (show clB s k hk = false by rw [HB.out, decide_eq_false c1]; rfl)
    have c1' : decide (e < s.size) = false := decide_eq_false c1
    go_enter Tryd.func39, Tryd.ntmps39
    go_wp2_with (first
      | (go_at_call 17; (with_reducible refine (runClosing q hq s (k + 1) _ (by omega) _ _ _ w.heap.size HN.out (by omega) (by omega) (by omega)).mono ?_); rintro e' w' ⟨rfl, hb2⟩; rw [HC.out]))
    go_quiet (fail)
    go_wp2
    go_ret2
    exact ⟨ret_ib rfl (by rw [HB2.out]), hL.step (below_drewN ((((Below.refl _ w).alloc (Nat.le_refl _) _).alloc (by simp) _).trans hb2) nq)⟩

/- Octal digits. -/
theorem one_byte (v : Nat) (h : v < 256) (w : World) :
    (convert 33 9 (.slice (some ⟨w.heap.size, 0, none⟩) 1 1)).run Tryd.prog (w.alloc (.cells #[.int .u8 v] 5)) = .ok (.string ⟨#[UInt8.ofNat v]⟩) (w.alloc (.cells #[.int .u8 v] 5)) := by
  refine run_convert_bytes_back (P := Tryd.prog) _ 33 9 5 ⟨w.heap.size, 0, none⟩ 1 [UInt8.ofNat v] Tryd.underlying33 Tryd.underlying5 Tryd.underlying9 (fun j hj => ?_)
  obtain rfl : j = 0 := by simpa using hj
  have e : (UInt8.ofNat v).toNat = v := by rw [UInt8.toNat_ofNat']; omega
  simp [Addr.add, e]
theorem octVal_snoc (l : List UInt8) (c : UInt8) : octVal (l ++ [c]) = octVal l * 8 + (c.toNat - 48) := by
  unfold octVal
  rw [List.foldl_append]
  rfl
theorem take_snoc (s : ByteArray) (k : Nat) (h : k < s.size) : s.data.toList.take (k + 1) = s.data.toList.take k ++ [s[k]] := by
  rw [List.take_succ_eq_append_getElem (by simpa using h)]; rfl
def octS (s : ByteArray) : ByteArray := ⟨#[UInt8.ofNat (octVal s.data.toList % 256)]⟩
set_option maxHeartbeats 1600000 in
theorem octal (s : ByteArray) (w : World) (ho : ∀ (i : Nat) (h : i < s.size), octB (s[i]) = true) :
    Calls Tryd.prog 61 #[.string s] w fun e w' => e = .returned (.string (octS s)) ∧ Below w.heap.size w w' := by
  have HO := Lib.hid ho
  clear ho
  go_enter Tryd.func61, Tryd.ntmps61
  go_wp2_with fail
  go_loopw [3] (fun v w' => ∃ pos : Nat, pos ≤ s.size ∧ w' = w.iter s pos ∧ v = .int .u8 ((octVal (s.data.toList.take pos) % 256 : Nat))) (fun _ w' => s.size - w'.iterPos w.heap.size)
  case atStart => exact ⟨0, Nat.zero_le _, rfl, rfl⟩
  case round =>
    obtain ⟨pos, hpos, rfl, rfl⟩ := hrel
    by_cases hp : pos < s.size
    · have hob := HO.out pos hp
      simp only [octB, decide_eq_true_eq] at hob
      obtain ⟨o1, o2⟩ := hob
      have hnx : ∀ ty, (Instr.next (.pointer (some ⟨w.heap.size, 0, none⟩)) true ty).run Tryd.prog (w.iter s pos) = _ := fun ty => run_next_ascii w s pos ty hp (by omega)
      have HT := Lib.hid (octVal_snoc (s.data.toList.take pos) s[pos])
      have HS := Lib.hid (take_snoc s pos hp)
      have h256 : octVal (s.data.toList.take pos) % 256 < 256 := Nat.mod_lt _ (by decide)
      generalize hv : octVal (s.data.toList.take pos) = v at *
      have HV := Lib.hid hv
      clear hv
      generalize hm : v % 256 = vm at *
      have HM := Lib.hid hm
      clear hm
      go_wp2_with fail
      go_roundw
      case rel =>
        refine ⟨pos + 1, by omega, rfl, ?_⟩
        rw [HS.out, HT.out]
        have := HM.out
        congr 1
        omega
      case measure =>
        rw [World.iterPos_iter, World.iterPos_iter]
        omega
    · have hnx : ∀ ty, (Instr.next (.pointer (some ⟨w.heap.size, 0, none⟩)) true ty).run Tryd.prog (w.iter s pos) = _ := fun ty => run_next_end w s pos ty hp
      have he : s.data.toList.take pos = s.data.toList := List.take_of_length_le (by rw [← Lib.size_eq]; omega)
      rw [he]
      have h256 : octVal s.data.toList % 256 < 256 := Nat.mod_lt _ (by decide)
      have HS : Hid (octS s = ⟨#[UInt8.ofNat (octVal s.data.toList % 256)]⟩) := rfl
      generalize hm : octVal s.data.toList % 256 = vm at *
      have hcv := one_byte vm h256
      clear he hm
      go_wp2_with fail
      go_ret
      exact ⟨ret_str HS.out.symm, (iter_below _ _ _).alloc (by simp [World.iter]) _⟩

/- What a mark says. -/
theorem octN_run (t : ByteArray) : ∀ k, k ≤ t.size → upTo octI t k = k + octN (t.size - k) (t.data.toList.drop k) := by
  intro k hk
  by_cases h : k < t.size
  · have ih := octN_run t (k + 1) h
    have e : t.size - k = (t.size - (k + 1)) + 1 := by omega
    rw [drop_cons h, e, octN]
    by_cases ho : octB t[k] = true
    · have hi : octI ((t[k]).toNat : Int) = true := by
        simp only [octB, octI, decide_eq_true_eq] at ho ⊢; omega
      rw [if_pos ho, upTo_yes h hi, ih]
      omega
    · have hi : octI ((t[k]).toNat : Int) = false := by
        simp only [octB, octI, decide_eq_true_eq, decide_eq_false_iff_not] at ho ⊢; omega
      rw [if_neg ho, upTo_no h hi]
      rfl
  · rw [upTo_past h, drop_none h, show t.size - k = 0 by omega]
    rfl
termination_by k => t.size - k
theorem octN_min : ∀ (n : Nat) (l : List UInt8), octN (min n l.length) l = octN n l
  | 0, l => by simp
  | n + 1, [] => by simp [octN]
  | n + 1, c :: l => by
    have ih := octN_min n l
    rw [List.length_cons, show min (n + 1) (l.length + 1) = min n l.length + 1 by omega, octN, octN, ih]
theorem ext_take (s : ByteArray) (n : Nat) : (s.extract 0 n).data.toList = s.data.toList.take n := by
  rw [Lib.extract_eq]; simp
theorem oct_run (s : ByteArray) (n : Nat) (hn : n = min 3 s.size) : upTo octI (s.extract 0 n) 0 = octN 3 s.data.toList := by
  have hz := Lib.size_eq s
  have hs : (s.extract 0 n).size = n := by rw [ByteArray.size_extract]; omega
  rw [octN_run _ 0 (Nat.zero_le _), hs, ext_take, List.drop_zero, octN_take, Nat.zero_add, Nat.sub_zero, hn, hz, octN_min]
  have := octN_le 3 s.data.toList
  omega
theorem plainM_eq (c : UInt8) : plainM c = if ((c.toNat : Int) == 34) = true then some c else if ((c.toNat : Int) == 92) = true then some c else if ((c.toNat : Int) == 47) = true then some c else if ((c.toNat : Int) == 97) = true then some 7 else if ((c.toNat : Int) == 98) = true then some 8 else if ((c.toNat : Int) == 102) = true then some 12 else if ((c.toNat : Int) == 110) = true then some 10 else if ((c.toNat : Int) == 114) = true then some 13 else if ((c.toNat : Int) == 116) = true then some 9 else if ((c.toNat : Int) == 118) = true then some 11 else none := by
  unfold plainM
  have e : ∀ b : UInt8, (c = b) = (((c.toNat : Int) == (b.toNat : Int)) = true) := fun b => propext (byte_eq.symm.trans beq_iff_eq.symm)
  by_cases h1 : c = 34
  · rw [if_pos h1, if_pos (by rw [h1]; rfl), h1]
  by_cases h2 : c = 92
  · rw [if_neg h1, if_pos h2, if_neg (by rw [h2]; decide), if_pos (by rw [h2]; rfl), h2]
  by_cases h3 : c = 47
  · rw [if_neg h1, if_neg h2, if_pos h3, if_neg (by rw [h3]; decide), if_neg (by rw [h3]; decide), if_pos (by rw [h3]; rfl), h3]
  rw [if_neg h1, if_neg h2, if_neg h3, if_neg (show ¬ ((c.toNat : Int) == 34) = true from fun h => h1 ((e 34).mpr h)), if_neg (show ¬ ((c.toNat : Int) == 92) = true from fun h => h2 ((e 92).mpr h)), if_neg (show ¬ ((c.toNat : Int) == 47) = true from fun h => h3 ((e 47).mpr h))]
  simp only [e]
  rfl
theorem ret_si {k : IntKind} {a b : ByteArray} {c d : Int} (h : a = b) (h' : c = d) : Ending.returned (.tuple #[.string a, .int k c]) = .returned (.tuple #[.string b, .int k d]) := by rw [h, h']
def strL (l : List UInt8) : ByteArray := ⟨l.toArray⟩
theorem ext_one (s : ByteArray) (h : 0 < s.size) : s.extract 0 1 = strL [s[0]] := by
  apply ByteArray.ext
  apply Array.ext'
  rw [ext_take]
  have := drop_cons h
  rw [List.drop_zero] at this
  rw [this]
  rfl
theorem head_at (s : ByteArray) (h : 0 < s.size) : s.data.toList.headD 0 = s[0] := by
  have := drop_cons h
  rw [List.drop_zero] at this
  rw [this]
  rfl
set_option maxHeartbeats 3200000 in
theorem mark (s : ByteArray) (m : Int) (w0 w : World) (hL : Live m w0 w) (h0 : 0 < s.size) (hs : s.size ≤ 65536) :
    Calls Tryd.prog 43 #[.string s] w fun e w' => e = .returned (.tuple #[.string (strL (markS s.data.toList)), .int .i64 (markN s.data.toList)]) ∧ Live m w0 w' := by
  obtain ⟨n, hn⟩ : ∃ n : Nat, n = min 3 s.size := ⟨_, rfl⟩
  have hm : min (3 : Int) (s.size : Int) = (n : Int) := by omega
  have n1 : n ≤ s.size := by omega
  have hz : (s.extract 0 n).size = n := by rw [ByteArray.size_extract]; omega
  have hr := oct_run s n hn
  have hle := octN_le 3 s.data.toList
  rw [← Lib.size_eq] at hle
  have hg : ∀ (i : Nat), i < octN 3 s.data.toList → ∀ h2 : i < s.size, octB (s[i]) = true := fun i h _ => octN_get 3 s.data.toList i h
  by_cases c1 : octN 3 s.data.toList = 0
  · have HS := Lib.hid (show markS s.data.toList = oneM s[0] by unfold markS; rw [if_pos c1, head_at s h0])
    have HN := Lib.hid (show markN s.data.toList = 1 by unfold markN; rw [if_pos c1])
    have HP := Lib.hid (plainM_eq s[0])
    have HX := Lib.hid (ext_one s h0)
    rw [c1] at hr
    have HR := Lib.hid hr
    have HZ := Lib.hid hz
    have hbd := (s[0]).toNat_lt
    clear hr hz hg hle c1 hn
    go_enter Tryd.func43, Tryd.ntmps43
    go_wp2_with (first
      | (go_at_call 17; (with_reducible refine (runL _ _ classOct (s.extract 0 n) 0 _ (by omega) m w0 _ hL (by omega) (by rw [HZ.out]; omega)).mono ?_); rintro e' w' ⟨rfl, hL1⟩; rw [HR.out]))
    all_goals go_ret2
    all_goals refine ⟨ret_si ?_ (by rw [HN.out]; rfl), by assumption⟩
    all_goals
      rw [HS.out]
      unfold oneM
      rw [HP.out]
      simp only [*, if_true, if_false, Bool.false_eq_true]
      first | rfl | exact HX.out | (rw [HX.out]; rfl)
  · have HS := Lib.hid (show markS s.data.toList = [UInt8.ofNat (octVal (s.data.toList.take (octN 3 s.data.toList)) % 256)] by unfold markS; rw [if_neg c1])
    have HN := Lib.hid (show markN s.data.toList = octN 3 s.data.toList by unfold markN; rw [if_neg c1])
    generalize hd : octN 3 s.data.toList = d at *
    have HT := Lib.hid (ext_take s d)
    have HO : ∀ (i : Nat) (h : i < (s.extract 0 d).size), octB ((s.extract 0 d)[i]) = true := by
      intro i h
      have hd' : i < d := by rw [ByteArray.size_extract] at h; omega
      have := hg i (by omega) (by omega)
      rw [get_extract]
      simp only [Nat.zero_add]
      exact this
    have HO' := Lib.hid HO
    have HR := Lib.hid hr
    have HZ := Lib.hid hz
    obtain ⟨d1, d2⟩ := hle
    have d3 : 0 < d := by omega
    clear hr hz hg c1 hn hd HO
    go_enter Tryd.func43, Tryd.ntmps43
    go_wp2_with (first
      | (go_at_call 17; (with_reducible refine (runL _ _ classOct (s.extract 0 n) 0 _ (by omega) m w0 _ hL (by omega) (by rw [HZ.out]; omega)).mono ?_); rintro e' w' ⟨rfl, hL1⟩; rw [HR.out])
      | (go_at_call 61; (with_reducible refine (octal _ _ HO'.out).mono ?_); rintro e' w' ⟨rfl, hb1⟩))
    go_ret2
    exact ⟨ret_si (by rw [HS.out]; unfold octS; rw [HT.out]; rfl) (by rw [HN.out]), hL1.step hb1⟩
end Go.Proofs.YtefpkgdakihceaaDoor.Lx
