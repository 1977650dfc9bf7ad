/-
  Package lex: the classes of bytes, and 'run': how far a class goes from a place on, for every text.
-/
import Derived.Test.YtefpkgdakihceaaDoorLxA
import Derived.WalkSpells
import Derived.WalkLawsBesides
import Derived.BigQuiet
import Derived.ChangeAgain
import Derived.LoopTactic
namespace Go.Proofs.YtefpkgdakihceaaDoor.Lx
open Go.RowKit

theorem ret_bool {a b : Bool} (h : a = b) : Ending.returned (.bool a) = .returned (.bool b) := by rw [h]
theorem ret_int {k : IntKind} {a b : Int} (h : a = b) : Ending.returned (.int k a) = .returned (.int k b) := by rw [h]
theorem ret_str {a b : ByteArray} (h : a = b) : Ending.returned (.string a) = .returned (.string b) := by rw [h]

theorem isBlank (x : Int) (w : World) :
    Calls Tryd.prog 18 #[.int .i32 x] w fun e w' => e = .returned (.bool (blankI x)) ∧ w = w' := by
  go_enter Tryd.func18, Tryd.ntmps18
  go_wp2
  all_goals go_ret
  all_goals exact ⟨ret_bool (by unfold blankI; rw [Bool.eq_iff_iff]; simp; try omega), rfl⟩
theorem isNotLf (x : Int) (w : World) :
    Calls Tryd.prog 20 #[.int .i32 x] w fun e w' => e = .returned (.bool (notLfI x)) ∧ w = w' := by
  go_enter Tryd.func20, Tryd.ntmps20
  go_wp2
  all_goals go_ret
  all_goals exact ⟨ret_bool (by unfold notLfI; rw [Bool.eq_iff_iff]; simp; try omega), rfl⟩
theorem isDigit (x : Int) (w : World) :
    Calls Tryd.prog 45 #[.int .i32 x] w fun e w' => e = .returned (.bool (digitI x)) ∧ w = w' := by
  go_enter Tryd.func45, Tryd.ntmps45
  go_wp2
  all_goals go_ret
  all_goals exact ⟨ret_bool (by unfold digitI; rw [Bool.eq_iff_iff]; simp; try omega), rfl⟩
theorem isOct (x : Int) (w : World) :
    Calls Tryd.prog 60 #[.int .i32 x] w fun e w' => e = .returned (.bool (octI x)) ∧ w = w' := by
  go_enter Tryd.func60, Tryd.ntmps60
  go_wp2
  all_goals go_ret
  all_goals exact ⟨ret_bool (by unfold octI; rw [Bool.eq_iff_iff]; simp; try omega), rfl⟩
theorem isLetter (x : Int) (w : World) :
    Calls Tryd.prog 48 #[.int .i32 x] w fun e w' => e = .returned (.bool (letterI x)) ∧ w = w' := by
  go_enter Tryd.func48, Tryd.ntmps48
  go_wp2
  all_goals go_ret
  all_goals exact ⟨ret_bool (by unfold letterI; rw [Bool.eq_iff_iff]; simp; try omega), rfl⟩
theorem isWordByte (x : Int) (w : World) :
    Calls Tryd.prog 47 #[.int .i32 x] w fun e w' => e = .returned (.bool (wordI x)) ∧ w = w' := by
  go_enter Tryd.func47, Tryd.ntmps47
  go_wp2_with (first
    | (go_at_call 48; refine (isLetter _ _).mono ?_; rintro e w' ⟨rfl, rfl⟩)
    | (go_at_call 45; refine (isDigit _ _).mono ?_; rintro e w' ⟨rfl, rfl⟩))
  all_goals go_ret
  all_goals exact ⟨ret_bool (by unfold wordI; simp_all), rfl⟩

/- What a class is, as a function of runes. -/
theorem enter_of {P : Program} {f : FuncId} {fn : Func} {c : Code} (hf : P.funcs[f]? = some fn) (hname : (fn.name == "runtime.NumGoroutine") = false) (hb : fn.body = some c) (args : Array Value) (w : World) : (callFunc f args).run P w = .ok (.enter f args) w := by
  have h1 : (fn.name = "runtime.NumGoroutine") = False := by simpa using hname
  simp [callFunc, hf, h1, hb]
structure Class (g : FuncId) (p : Int → Bool) : Prop where
  enters : ∀ (args : Array Value) (w : World), (callFunc g args).run Tryd.prog w = .ok (.enter g args) w
  call : ∀ (x : Int) (w : World), Calls Tryd.prog g #[.int .i32 x] w fun e w' => e = .returned (.bool (p x)) ∧ w = w'
  high : ∀ r, 128 ≤ r → p r = p 128
theorem classBlank : Class 18 blankI := ⟨fun args w => enter_of Tryd.func18 (by kernel_rfl) rfl args w, isBlank, blank_high⟩
theorem classNotLf : Class 20 notLfI := ⟨fun args w => enter_of Tryd.func20 (by kernel_rfl) rfl args w, isNotLf, notLf_high⟩
theorem classDigit : Class 45 digitI := ⟨fun args w => enter_of Tryd.func45 (by kernel_rfl) rfl args w, isDigit, digit_high⟩
theorem classOct : Class 60 octI := ⟨fun args w => enter_of Tryd.func60 (by kernel_rfl) rfl args w, isOct, oct_high⟩
theorem classWord : Class 47 wordI := ⟨fun args w => enter_of Tryd.func47 (by kernel_rfl) rfl args w, isWordByte, word_high⟩

theorem iter_below (w : World) (s : ByteArray) (pos : Nat) : Below w.heap.size w (w.iter s pos) := (Below.refl _ w).alloc (Nat.le_refl _) _

set_option maxHeartbeats 1600000 in
theorem run (g : FuncId) (p : Int → Bool) (hc : Class g p) (s : ByteArray) (k : Nat) (w : World) (hk : k ≤ s.size) (hs : s.size ≤ 281474976710656) :
    Calls Tryd.prog 17 #[.string s, .int .i64 k, .func (.func g) #[] #[]] w fun e w' => e = .returned (.int .i64 (upTo p s k)) ∧ Below w.heap.size w w' := by
  have hz : (s.extract k s.size).size = s.size - k := by rw [ByteArray.size_extract]; omega
  have HZ := Lib.hid hz
  have HE := Lib.hid (show k + upTo p (s.extract k s.size) 0 = upTo p s k from upTo_extract p s k 0 hk)
  have HC := Lib.hid hc
  have hen := hc.enters
  clear hz hc
  go_enter Tryd.func17, Tryd.ntmps17
  go_wp2_with fail
  go_loopw [] (fun w' => ∃ pos : Nat, pos ≤ (s.extract k s.size).size ∧ w' = w.iter (s.extract k s.size) pos ∧ upTo p (s.extract k s.size) pos = upTo p (s.extract k s.size) 0) (fun w' => (s.extract k s.size).size - w'.iterPos w.heap.size)
  case atStart => exact ⟨0, Nat.zero_le _, rfl, rfl⟩
  case round =>
    obtain ⟨pos, hpos, rfl, hu⟩ := hrel
    have HU := Lib.hid hu
    have hkp : k + pos ≤ 281474976710656 := by have := HZ.out; omega
    clear hu
    by_cases hp : pos < (s.extract k s.size).size
    · have hnx : ∀ ty, (Instr.next (.pointer (some ⟨w.heap.size, 0, none⟩)) true ty).run Tryd.prog (w.iter (s.extract k s.size) pos) = _ := fun ty => run_next_any w (s.extract k s.size) pos ty hp
      by_cases hy : p ((Utf8.decode (s.extract k s.size) pos).1 : Int) = true
      · have HR := Lib.hid (range_yes p HC.out.high (s.extract k s.size) pos hp hy)
        go_wp2_with (refine (HC.out.call _ _).mono ?_; rintro e w' ⟨rfl, rfl⟩)
        go_roundw
        case rel => exact ⟨_, HR.out.2.1, rfl, HR.out.2.2.trans HU.out⟩
        case measure =>
          have := HR.out
          rw [World.iterPos_iter, World.iterPos_iter]
          omega
      · have hy' := Bool.eq_false_iff.mpr hy
        have HR := Lib.hid (range_no p HC.out.high (s.extract k s.size) pos hp hy')
        clear hy
        go_wp2_with (refine (HC.out.call _ _).mono ?_; rintro e w' ⟨rfl, rfl⟩)
        go_ret
        exact ⟨ret_int (by have h1 := HE.out; have h2 := HU.out; rw [HR.out] at h2; omega), iter_below _ _ _⟩
    · have hnx : ∀ ty, (Instr.next (.pointer (some ⟨w.heap.size, 0, none⟩)) true ty).run Tryd.prog (w.iter (s.extract k s.size) pos) = _ := fun ty => run_next_end w (s.extract k s.size) pos ty hp
      have HR := Lib.hid (upTo_past (p := p) hp)
      go_wp2
      go_ret
      exact ⟨ret_int (by have h1 := HE.out; have h2 := HU.out; rw [HR.out] at h2; have := HZ.out; omega), iter_below _ _ _⟩
end Go.Proofs.YtefpkgdakihceaaDoor.Lx
