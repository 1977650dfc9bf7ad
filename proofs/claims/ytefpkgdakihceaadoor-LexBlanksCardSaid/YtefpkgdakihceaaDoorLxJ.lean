/-
  Package lex: 'quoted'; the token that stands at a place; lines; 'Next'.
-/
import Derived.Test.YtefpkgdakihceaaDoorLxI
import Derived.OwnWalk
namespace Go.Proofs.YtefpkgdakihceaaDoor.Lx
open Go.RowKit

/- What stands between quotes, or slashes, at a place: the kind, what it says, where it ends. -/
def qR (kind : Int) (s : ByteArray) (k : Nat) : Int × ByteArray × Nat :=
  if h : k < s.size then (match qL s[k] (s.data.toList.drop (k + 1)) with
    | some x => (kind, strL x.1, k + 1 + x.2)
    | none => (0, ⟨#[]⟩, k)) else (0, ⟨#[]⟩, k)
theorem drop_get (s : ByteArray) (a n : Nat) : (s.data.toList.drop a)[n]? = if h : a + n < s.size then some (s[a + n]'h) else none := by
  rw [List.getElem?_drop]
  split
  · rename_i h
    rw [List.getElem?_eq_getElem (by simpa using h)]
    rfl
  · rename_i h
    exact List.getElem?_eq_none (by rw [← Lib.size_eq]; omega)
theorem qL_lex (s : ByteArray) (k : Nat) (h : k < s.size) (hq : s[k] = 34 ∨ s[k] = 47) :
    (clB s k h = true → qL s[k] (s.data.toList.drop (k + 1)) = some (saysQ s[k] (s.extract (k + 1) (clE s k h)).data.toList, clE s k h - (k + 1) + 1) ∧ okL s[k] (s.extract (k + 1) (clE s k h)).data.toList = true) ∧
    (clB s k h = false → qL s[k] (s.data.toList.drop (k + 1)) = none) := by
  have he : clE s k h = k + 1 + closeL s[k] (s.data.toList.drop (k + 1)) false := rfl
  have hx : (s.extract (k + 1) (clE s k h)).data.toList = (s.data.toList.drop (k + 1)).take (closeL s[k] (s.data.toList.drop (k + 1)) false) := by
    rw [Lib.extract_eq, he, show k + 1 + closeL s[k] (s.data.toList.drop (k + 1)) false - (k + 1) = closeL s[k] (s.data.toList.drop (k + 1)) false by omega]
  have hz := Lib.size_eq s
  have H := qL_eq s[k] hq (s.data.toList.drop (k + 1))
  rw [hx, he]
  have hlt : closeL s[k] (s.data.toList.drop (k + 1)) false < (s.data.toList.drop (k + 1)).length ↔ k + 1 + closeL s[k] (s.data.toList.drop (k + 1)) false < s.size := by
    rw [List.length_drop, hz]; omega
  have h10 : (s.data.toList.drop (k + 1))[closeL s[k] (s.data.toList.drop (k + 1)) false]? ≠ some 10 ↔ bAt s (k + 1 + closeL s[k] (s.data.toList.drop (k + 1)) false) ≠ 10 := by
    rw [drop_get]
    split
    · rename_i hh
      rw [bAt_in hh]
      have := byte_eq (a := s[k + 1 + closeL s[k] (s.data.toList.drop (k + 1)) false]) (b := 10)
      simp only [ne_eq, Option.some.injEq, ← this]
      rfl
    · rename_i hh
      rw [bAt_out hh]
      simp
  have hcb : clB s k h = true ↔ (closeL s[k] (s.data.toList.drop (k + 1)) false < (s.data.toList.drop (k + 1)).length ∧ (s.data.toList.drop (k + 1))[closeL s[k] (s.data.toList.drop (k + 1)) false]? ≠ some 10) := by
    rw [hlt, h10]
    unfold clB
    rw [he]
    simp
  constructor
  · intro hb
    obtain ⟨a, b⟩ := hcb.1 hb
    obtain ⟨c, d⟩ := H.1 a b
    exact ⟨by rw [c]; congr 2; omega, d⟩
  · intro hb
    exact H.2 fun hh => by rw [hcb.2 hh] at hb; cases hb
def tokT (r : Int × ByteArray × Nat) : Value := .tuple #[.int .u8 r.1, .string r.2.1, .int .i64 r.2.2]
structure Says (g : FuncId) (q : UInt8) : Prop where
  enters : ∀ (args : Array Value) (w : World), (callFunc g args).run Tryd.prog w = .ok (.enter g args) w
  call : ∀ (s : ByteArray) (m : Int) (w0 w : World), Live m w0 w → okL q s.data.toList = true → s.size ≤ 65536 → Calls Tryd.prog g #[.string s] w fun e w' => e = .returned (.string (strL (saysQ q s.data.toList))) ∧ Live m w0 w'
theorem saysText : Says 22 34 := ⟨fun args w => enter_of Tryd.func22 (by kernel_rfl) rfl args w, fun s m w0 w hL ho hs => (textSays s m w0 w hL ho hs)⟩
theorem saysPat : Says 23 47 := ⟨fun args w => enter_of Tryd.func23 (by kernel_rfl) rfl args w, fun s m w0 w hL ho hs => (patternSays s m w0 w hL ho hs)⟩
set_option maxHeartbeats 3200000 in
theorem quoted (g : FuncId) (q : UInt8) (hg : Says g q) (hq : q = 34 ∨ q = 47) (s : ByteArray) (k : Nat) (kind : Int) (m : Int) (w0 w : World) (hL : Live m w0 w) (hk : k < s.size) (hsk : s[k] = q) (hs : s.size ≤ 65536) :
    Calls Tryd.prog 21 #[.string s, .int .i64 k, .int .u8 kind, .func (.func g) #[] #[]] w fun e w' => e = .returned (tokT (qR kind s k)) ∧ Live m w0 w' := by
  have hq' : s[k] = 34 ∨ s[k] = 47 := by rw [hsk]; exact hq
  have hlow : (s[k]).toNat < 128 := by rcases hq' with h | h <;> rw [h] <;> decide
  have HQ := Lib.hid (qL_lex s k hk hq')
  have HR : Hid (qR kind s k = (match qL s[k] (s.data.toList.drop (k + 1)) with
    | some x => (kind, strL x.1, k + 1 + x.2)
    | none => (0, ⟨#[]⟩, k))) := Lib.hid (by unfold qR; rw [dif_pos hk])
  have hle := clE_le s k hk
  have HSK := Lib.hid hsk
  have HG := Lib.hid hg
  have hen := hg.enters
  have hkl : (k : Int) < (s.size : Int) := by omega
  generalize he : clE s k hk = e at *
  have HE := Lib.hid he
  obtain ⟨e1, e2⟩ := hle
  clear he hg hsk hq hq'
  by_cases hb : clB s k hk = true
  · obtain ⟨c, d⟩ := HQ.out.1 hb
    have HC := Lib.hid c
    rw [HSK.out] at d
    have HD := Lib.hid d
    have hz : (s.extract (k + 1) e).size ≤ 65536 := by rw [ByteArray.size_extract]; omega
    have HZ := Lib.hid hz
    have hxx : (s.extract (k + 1) e).data.toList = List.take (e - (k + 1)) (List.drop (k + 1) s.data.toList) := by rw [Lib.extract_eq]
    have HF := Lib.hid (show qR kind s k = (kind, strL (saysQ q (List.take (e - (k + 1)) (List.drop (k + 1) s.data.toList))), e + 1) by
      rw [HR.out, HC.out, HSK.out, hxx]
      simp only [Prod.mk.injEq, true_and]
      omega)
    clear c d hz hxx
    go_enter Tryd.func21, Tryd.ntmps21
    go_wp2_with (first
      | (go_at_call 39; (with_reducible refine (closing s k _ (by omega) m w0 _ hL hk hlow hs).mono ?_); rintro e' w' ⟨rfl, hL1⟩; rw [HE.out])
      | (refine (HG.out.call (s.extract (k + 1) e) m w0 _ (by assumption) HD.out HZ.out).mono ?_; rintro e' w' ⟨rfl, hL2⟩))
    go_ret3
    rw [HF.out]
    exact ⟨ret_tok rfl rfl (by simp), by assumption⟩
  · have hb' := Bool.eq_false_iff.mpr hb
    have HF := Lib.hid (show qR kind s k = (0, ⟨#[]⟩, k) by rw [HR.out, HQ.out.2 hb'])
    clear hb
    go_enter Tryd.func21, Tryd.ntmps21
    go_wp2_with (first
      | (go_at_call 39; (with_reducible refine (closing s k _ (by omega) m w0 _ hL hk hlow hs).mono ?_); rintro e' w' ⟨rfl, hL1⟩; rw [HE.out]))
    go_ret3
    rw [HF.out]
    exact ⟨ret_tok rfl rfl rfl, by assumption⟩

/- Lines. -/
theorem line (s : ByteArray) (x : Int) (w : World) (hs : s.size ≤ 281474976710656) :
    Calls Tryd.prog 8 #[.string s, .int .i64 x] w fun e w' => e = .returned (.int .i64 (lineN s x)) ∧ w = w' := by
  by_cases c1 : x < 0
  · have HE := Lib.hid (show lineN s x = 0 by unfold lineN; rw [if_pos (.inl c1)])
    go_enter Tryd.func8, Tryd.ntmps8
    go_wp2
    go_ret
    exact ⟨ret_int HE.out.symm, rfl⟩
  by_cases c2 : (s.size : Int) < x
  · have HE := Lib.hid (show lineN s x = 0 by unfold lineN; rw [if_pos (.inr c2)])
    have c3 : 0 ≤ x := by omega
    clear c1
    go_enter Tryd.func8, Tryd.ntmps8
    go_wp2
    go_ret
    exact ⟨ret_int HE.out.symm, rfl⟩
  obtain ⟨n, rfl⟩ : ∃ n : Nat, x = (n : Int) := ⟨x.toNat, by omega⟩
  have c3 : n ≤ s.size := by omega
  have HE := Lib.hid (show lineN s n = 1 + (Lib.countByte (s.extract 0 n).data.toList 10 : Nat) by unfold lineN; rw [if_neg (by omega), Int.toNat_natCast, ext_take]; rfl)
  have hcl : Lib.countByte (s.extract 0 n).data.toList 10 ≤ n := by
    have := List.count_le_length (a := (10 : UInt8)) (l := (s.extract 0 n).data.toList)
    rw [ext_take, List.length_take] at this
    rw [ext_take]
    unfold Lib.countByte
    omega
  generalize hc : Lib.countByte (s.extract 0 n).data.toList 10 = c at *
  have HC := Lib.hid hc
  clear c1 c2 hc
  go_enter Tryd.func8, Tryd.ntmps8
  go_wp2_with (go_at_call 16; refine (Tryd.strings_Count_one _ _ _).mono ?_; rintro e w' ⟨rfl, rfl⟩; rw [HC.out])
  go_ret
  exact ⟨ret_int HE.out.symm, rfl⟩

/- The token that stands at a place, behind what is passed over. -/
def tokR (s : ByteArray) (k : Nat) (re : Bool) : Int × ByteArray × Nat :=
  if s.size ≤ k then (9, ⟨#[]⟩, k)
  else if bAt s k = 10 then (8, ⟨#[]⟩, k + 1)
  else if bAt s k = 34 then qR 2 s k
  else if bAt s k = 47 ∧ re = true then qR 3 s k
  else if k < numE s k then (1, s.extract k (numE s k), numE s k)
  else if k < upTo wordI s k then (kindN s k (upTo wordI s k), s.extract k (upTo wordI s k), upTo wordI s k)
  else if k < signE s k then (7, s.extract k (signE s k), signE s k)
  else (0, ⟨#[]⟩, k)
end Go.Proofs.YtefpkgdakihceaaDoor.Lx
