/-
  Package lex: 'Next', for every text, place and flag.
-/
import Derived.Test.YtefpkgdakihceaaDoorLxK
namespace Go.Proofs.YtefpkgdakihceaaDoor.Lx
open Go.RowKit

def zeroTok : Value := .agg #[.int .u8 0, .string ⟨#[]⟩, .int .i64 0, .int .i64 0, .int .i64 0]
def faultV (e l : Int) : Value := .agg #[.int .i64 e, .int .i64 l]
def nextR (s : ByteArray) (x : Int) (re : Bool) : Value :=
  if 65536 < s.size then .tuple #[zeroTok, faultV 3 0]
  else if x < 0 ∨ (s.size : Int) < x then .tuple #[zeroTok, faultV 2 0]
  else if (tokR s (pass s x.toNat) re).1 = 0 then .tuple #[zeroTok, faultV 100 (lineN s (pass s x.toNat))]
  else .tuple #[.agg #[.int .u8 (tokR s (pass s x.toNat) re).1, .string (tokR s (pass s x.toNat) re).2.1, .int .i64 (lineN s (pass s x.toNat)), .int .i64 (pass s x.toNat), .int .i64 (tokR s (pass s x.toNat) re).2.2], faultV 0 0]
theorem clone (s : ByteArray) (w : World) (hlim : s.size ≤ 281474976710656) :
    Calls Tryd.prog 13 #[.string s] w fun e w' => e = .returned (.string s) ∧ Below w.heap.size w w' := by
  go_enter Tryd.func13, Tryd.ntmps13
  go_wp2_with (go_at_call 28; refine (Tryd.stringslite_Clone _ _ hlim).mono ?_; rintro e w' ⟨rfl, hb⟩)
  go_ret
  exact ⟨rfl, hb⟩
/- The two results' blocks. -/
def w2 (w : World) : World := (w.alloc (.cells #[.int .u8 0, .string ⟨#[]⟩, .int .i64 0, .int .i64 0, .int .i64 0] 24)).alloc (.cells #[.int .i64 0, .int .i64 0] 27)
theorem w2_size (w : World) : (w2 w).heap.size = w.heap.size + 2 := by simp [w2]
theorem w2_below (w : World) : Below w.heap.size w (w2 w) := ((Below.refl _ w).alloc (Nat.le_refl _) _).alloc (by simp) _
structure Two (w w' : World) : Prop where
  a0 : w'.cell? ⟨w.heap.size, 0, none⟩ = some (.int .u8 0)
  a1 : w'.cell? ⟨w.heap.size, 1, none⟩ = some (.string ⟨#[]⟩)
  a2 : w'.cell? ⟨w.heap.size, 2, none⟩ = some (.int .i64 0)
  a3 : w'.cell? ⟨w.heap.size, 3, none⟩ = some (.int .i64 0)
  a4 : w'.cell? ⟨w.heap.size, 4, none⟩ = some (.int .i64 0)
  b0 : w'.cell? ⟨w.heap.size + 1, 0, none⟩ = some (.int .i64 0)
  b1 : w'.cell? ⟨w.heap.size + 1, 1, none⟩ = some (.int .i64 0)
  fa0 : w'.frozen? ⟨w.heap.size, 0, none⟩ = false
  fa1 : w'.frozen? ⟨w.heap.size, 1, none⟩ = false
  fa2 : w'.frozen? ⟨w.heap.size, 2, none⟩ = false
  fa3 : w'.frozen? ⟨w.heap.size, 3, none⟩ = false
  fa4 : w'.frozen? ⟨w.heap.size, 4, none⟩ = false
  fb0 : w'.frozen? ⟨w.heap.size + 1, 0, none⟩ = false
  fb1 : w'.frozen? ⟨w.heap.size + 1, 1, none⟩ = false
theorem two_of {w w' : World} (h : Below (w2 w).heap.size (w2 w) w') : Two w w' := by
  have hc : ∀ b o, b < w.heap.size + 2 → w'.cell? ⟨b, o, none⟩ = (w2 w).cell? ⟨b, o, none⟩ := fun b o hb => h.cell (p := ⟨b, o, none⟩) (by rw [w2_size]; exact hb)
  have hf : ∀ b o, b < w.heap.size + 2 → w'.frozen? ⟨b, o, none⟩ = (w2 w).frozen? ⟨b, o, none⟩ := fun b o hb => h.frozen (p := ⟨b, o, none⟩) (by rw [w2_size]; exact hb)
  refine ⟨?_, ?_, ?_, ?_, ?_, ?_, ?_, ?_, ?_, ?_, ?_, ?_, ?_, ?_⟩
  all_goals first | rw [hc _ _ (by omega)] | rw [hf _ _ (by omega)]
  all_goals simp [w2, go_sem]
theorem Live.two {m : Int} {w w' : World} (h : Live m (w2 w) w') : Two w w' := two_of h.b
theorem Live.out {m : Int} {w w' : World} (h : Live m (w2 w) w') : Below w.heap.size w w' := (w2_below w).trans (h.b.mono (by rw [w2_size]; omega))
theorem strL_size (l : List UInt8) : (strL l).size = l.length := by simp [strL, ByteArray.size]
theorem patL_len : ∀ l : List UInt8, (patL l).length ≤ l.length
  | [] => Nat.le_refl _
  | [_] => Nat.le_refl _
  | c :: d :: r => by
    have h1 := patL_len r
    have h2 := patL_len (d :: r)
    unfold patL
    split
    · split
      · simp only [List.length_cons]; omega
      · simp only [List.length_cons]; omega
    · simp only [List.length_cons] at *; omega
theorem saysL_len : ∀ (n : Nat) (l : List UInt8), l.length ≤ n → (saysL l).length ≤ 2 * l.length
  | 0, l, h => by
    obtain rfl : l = [] := List.eq_nil_of_length_eq_zero (by omega)
    rw [saysL_nil]; simp
  | n + 1, [], _ => by rw [saysL_nil]; simp
  | n + 1, c :: r, h => by
    by_cases hc : c = 92
    · subst hc
      have h1 := markS_len r
      have h2 := markN_pos r
      have h3 := saysL_len n (r.drop (markN r)) (by simp only [List.length_cons, List.length_drop] at *; omega)
      rw [saysL_mark]
      simp only [List.length_append, List.length_cons, List.length_drop] at *
      omega
    · have h3 := saysL_len n r (by simpa using h)
      rw [saysL_plain hc]
      simp only [List.length_cons]
      omega
theorem qR_size (kind : Int) (s : ByteArray) (k : Nat) (hk : k < s.size) (hb : bAt s k = 34 ∨ bAt s k = 47) : (qR kind s k).2.1.size ≤ 2 * s.size := by
  have hq : s[k] = 34 ∨ s[k] = 47 := by
    rw [bAt_in hk] at hb
    rcases hb with h | h
    · exact .inl (byte_eq.1 h)
    · exact .inr (byte_eq.1 h)
  have H := qL_eq s[k] hq (s.data.toList.drop (k + 1))
  unfold qR
  rw [dif_pos hk]
  split
  · rename_i x hx
    by_cases hc : closeL s[k] (s.data.toList.drop (k + 1)) false < (s.data.toList.drop (k + 1)).length ∧ (s.data.toList.drop (k + 1))[closeL s[k] (s.data.toList.drop (k + 1)) false]? ≠ some 10
    · have := (H.1 hc.1 hc.2).1
      rw [hx] at this
      have hx1 : x.1 = saysQ s[k] ((s.data.toList.drop (k + 1)).take (closeL s[k] (s.data.toList.drop (k + 1)) false)) := by
        simp only [Option.some.injEq] at this
        rw [this]
      show (strL x.1).size ≤ _
      rw [strL_size, hx1]
      have hl : ((s.data.toList.drop (k + 1)).take (closeL s[k] (s.data.toList.drop (k + 1)) false)).length ≤ s.size := by
        rw [List.length_take, List.length_drop, Lib.size_eq s]
        omega
      unfold saysQ
      split
      · have := patL_len ((s.data.toList.drop (k + 1)).take (closeL s[k] (s.data.toList.drop (k + 1)) false)); omega
      · have := saysL_len _ ((s.data.toList.drop (k + 1)).take (closeL s[k] (s.data.toList.drop (k + 1)) false)) (Nat.le_refl _); omega
    · rw [H.2 hc] at hx; cases hx
  · show (⟨#[]⟩ : ByteArray).size ≤ _
    have : (⟨#[]⟩ : ByteArray).size = 0 := rfl
    omega
theorem tokR_size (s : ByteArray) (k : Nat) (re : Bool) (_hk : k ≤ s.size) (hs : s.size ≤ 65536) : (tokR s k re).2.1.size ≤ 281474976710656 := by
  have h0 : (⟨#[]⟩ : ByteArray).size = 0 := rfl
  unfold tokR
  split
  · show (⟨#[]⟩ : ByteArray).size ≤ _; omega
  · rename_i hk
    split
    · show (⟨#[]⟩ : ByteArray).size ≤ _; omega
    · split
      · rename_i hb
        have := qR_size 2 s k (by omega) (.inl hb); omega
      · split
        · rename_i hb
          have := qR_size 3 s k (by omega) (.inr hb.1); omega
        · split
          · show (s.extract _ _).size ≤ _; rw [ByteArray.size_extract]; omega
          · split
            · show (s.extract _ _).size ≤ _; rw [ByteArray.size_extract]; omega
            · split
              · show (s.extract _ _).size ≤ _; rw [ByteArray.size_extract]; omega
              · show (⟨#[]⟩ : ByteArray).size ≤ _; omega
set_option maxHeartbeats 6400000 in
theorem next (s : ByteArray) (x : Int) (re : Bool) (m : Int) (w0 w : World) (hL : Live m w0 w) (hx : -9223372036854775808 ≤ x ∧ x ≤ 9223372036854775807) (hs : s.size ≤ 281474976710656) :
    Calls Tryd.prog 6 #[.string s, .int .i64 x, .bool re] w fun e w' => e = .returned (nextR s x re) ∧ Live m w0 w' := by
  have hL0 : Live m (w2 w) ((w.alloc (.cells #[.int .u8 0, .string ⟨#[]⟩, .int .i64 0, .int .i64 0, .int .i64 0] 24)).alloc (.cells #[.int .i64 0, .int .i64 0] 27)) :=
    Live.refl (w0 := w2 w) (by rw [w2_size]; omega) (hL.step (w2_below w)).hm
  by_cases c1 : 65536 < s.size
  · have HF := Lib.hid (show nextR s x re = .tuple #[zeroTok, faultV 3 0] by unfold nextR; rw [if_pos c1])
    go_enter Tryd.func6, Tryd.ntmps6
    go_wp2_with fail
    refine bodyPost_ret (v := .tuple #[zeroTok, faultV 3 0]) (by simp [results, Tryd.results6, go_sem, zeroTok, faultV]) rfl ?_
    rw [HF.out]
    exact ⟨rfl, hL.step (((Below.refl _ w).alloc (Nat.le_refl _) _).alloc (by simp) _)⟩
  have d1 : s.size ≤ 65536 := by omega
  by_cases c2 : x < 0 ∨ (s.size : Int) < x
  · have HF := Lib.hid (show nextR s x re = .tuple #[zeroTok, faultV 2 0] by unfold nextR; rw [if_neg c1, if_pos c2])
    have c2' : x < 0 ∨ (0 ≤ x ∧ (s.size : Int) < x) := by omega
    clear c1 c2
    rcases c2' with c2 | ⟨c2, c3⟩
    all_goals
      go_enter Tryd.func6, Tryd.ntmps6
      go_wp2_with fail
      refine bodyPost_ret (v := .tuple #[zeroTok, faultV 2 0]) (by simp [results, Tryd.results6, go_sem, zeroTok, faultV]) rfl ?_
      rw [HF.out]
      refine ⟨rfl, hL.step ?_⟩
    all_goals exact ((Below.refl _ w).alloc (Nat.le_refl _) _).alloc (by simp) _
  obtain ⟨k, rfl⟩ : ∃ k : Nat, x = (k : Int) := ⟨x.toNat, by omega⟩
  have hk : k ≤ s.size := by omega
  have hp := pass_le s k hk
  by_cases c3 : (tokR s (pass s k) re).1 = 0
  · have HF := Lib.hid (show nextR s k re = .tuple #[zeroTok, faultV 100 (lineN s (pass s k))] by unfold nextR; rw [if_neg c1, if_neg c2, Int.toNat_natCast, if_pos c3])
    generalize ha : pass s k = a at *
    generalize ht : tokR s a re = t at *
    have HA := Lib.hid ha
    have HT := Lib.hid ht
    obtain ⟨t1, t2, t3⟩ := t
    have c3' : t1 = 0 := c3
    subst c3'
    obtain ⟨p1, p2⟩ := hp
    clear c1 c2 c3 ha ht
    go_enter Tryd.func6, Tryd.ntmps6
    go_wp2_with (first
      | (go_at_call 11; (with_reducible refine (passOver s k m (w2 w) _ hL0 hk d1).mono ?_); rintro e' w' ⟨rfl, hL1⟩; rw [HA.out])
      | (go_at_call 12; (with_reducible refine (token s a re m (w2 w) _ hL1 p2 d1).mono ?_); rintro e' w' ⟨rfl, hL2⟩; rw [HT.out]; unfold tokT; have HH := hL2.two; obtain ⟨x0, x1, x2, x3, x4, x5, x6, y0, y1, y2, y3, y4, y5, y6⟩ := hL2.two)
      | (go_at_call 8; (with_reducible refine (line s _ _ hs).mono ?_); rintro e' w' ⟨rfl, rfl⟩))
    refine bodyPost_ret (v := .tuple #[zeroTok, faultV 100 (lineN s a)]) (by simp [results, Tryd.results6, go_sem, zeroTok, faultV, HH.a0, HH.a1, HH.a2, HH.a3, HH.a4, HH.b0, HH.b1]) rfl ?_
    rw [HF.out]
    exact ⟨rfl, hL.step ((((((((Live.out hL2).setCell (by simp) _).setCell (by simp) _).setCell (by simp) _).setCell (by simp) _).setCell (by simp) _).setCell (by simp) _).setCell (by simp) _)⟩
  · have HF := Lib.hid (show nextR s k re = .tuple #[.agg #[.int .u8 (tokR s (pass s k) re).1, .string (tokR s (pass s k) re).2.1, .int .i64 (lineN s (pass s k)), .int .i64 (pass s k), .int .i64 (tokR s (pass s k) re).2.2], faultV 0 0] by unfold nextR; rw [if_neg c1, if_neg c2, Int.toNat_natCast, if_neg c3])
    have hz := tokR_size s (pass s k) re hp.2 d1
    generalize ha : pass s k = a at *
    generalize ht : tokR s a re = t at *
    have HA := Lib.hid ha
    have HT := Lib.hid ht
    obtain ⟨t1, t2, t3⟩ := t
    have c3' : (t1 == 0) = false := by rw [beq_eq_false_iff_ne]; exact c3
    have hz' : t2.size ≤ 281474976710656 := hz
    obtain ⟨p1, p2⟩ := hp
    clear c1 c2 c3 ha ht hz
    go_enter Tryd.func6, Tryd.ntmps6
    go_wp2_with (first
      | (go_at_call 11; (with_reducible refine (passOver s k m (w2 w) _ hL0 hk d1).mono ?_); rintro e' w' ⟨rfl, hL1⟩; rw [HA.out])
      | (go_at_call 12; (with_reducible refine (token s a re m (w2 w) _ hL1 p2 d1).mono ?_); rintro e' w' ⟨rfl, hL2⟩; rw [HT.out]; unfold tokT)
      | (go_at_call 13; (with_reducible refine (clone t2 _ hz').mono ?_); rintro e' w' ⟨rfl, hb3⟩; have hL3 := hL2.step hb3; have HH := hL3.two; obtain ⟨x0, x1, x2, x3, x4, x5, x6, y0, y1, y2, y3, y4, y5, y6⟩ := hL3.two)
      | (go_at_call 8; (with_reducible refine (line s _ _ hs).mono ?_); rintro e' w' ⟨rfl, rfl⟩))
    refine bodyPost_ret (v := .tuple #[.agg #[.int .u8 t1, .string t2, .int .i64 (lineN s a), .int .i64 a, .int .i64 t3], faultV 0 0]) (by simp [results, Tryd.results6, go_sem, zeroTok, faultV, HH.a0, HH.a1, HH.a2, HH.a3, HH.a4, HH.b0, HH.b1]) rfl ?_
    rw [HF.out]
    exact ⟨rfl, hL.step ((((((((Live.out hL3).setCell (by simp) _).setCell (by simp) _).setCell (by simp) _).setCell (by simp) _).setCell (by simp) _).setCell (by simp) _).setCell (by simp) _)⟩
end Go.Proofs.YtefpkgdakihceaaDoor.Lx
