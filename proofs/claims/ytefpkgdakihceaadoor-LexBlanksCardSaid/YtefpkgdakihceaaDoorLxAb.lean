/-
  Layer 12, plain: the two loops of LexBlanks as facts of lists: what was told so far, one token more; how long its pieces are; what is told when it is said again.
-/
import Derived.Test.YtefpkgdakihceaaDoorLxQ
namespace Go.Proofs.YtefpkgdakihceaaDoor.Lx
open Go.RowKit

theorem From.snoc {u : ByteArray} {t : Tk} : ∀ {L : List Tk} {a fin : Nat}, From u a L fin → t.a = pass u fin → tokR u t.a false = (t.kind, t.says, t.e) → t.kind ≠ 0 → t.kind ≠ 9 → From u a (L ++ [t]) t.e
  | [], a, fin, h, h1, h2, h3, h4 => by
    have hf : fin = a := h
    subst hf
    exact ⟨h1, h2, h3, h4, rfl⟩
  | x :: L, a, fin, h, h1, h2, h3, h4 => ⟨h.1, h.2.1, h.2.2.1, h.2.2.2.1, From.snoc h.2.2.2.2 h1 h2 h3 h4⟩
theorem pieces_snoc (u : ByteArray) (t : Tk) : ∀ L : List Tk, pieces u (L ++ [t]) = pieces u L ++ piece u t
  | [] => by
    show piece u t ++ ByteArray.empty = ByteArray.empty ++ piece u t
    rw [ByteArray.append_empty, ByteArray.empty_append]
  | x :: L => by rw [List.cons_append, pieces, pieces, pieces_snoc u t L, ByteArray.append_assoc]
theorem piece_size {u : ByteArray} {t : Tk} (h : t.a < t.e) (he : t.e ≤ u.size) : (piece u t).size ≤ 14 * (t.e - t.a) := by
  have hz : (u.extract t.a t.e).size = t.e - t.a := by rw [ByteArray.size_extract]; omega
  have hA : gapA.size = 14 := rfl
  have hB : gapB.size = 5 := rfl
  have hF : gapF.size = 4 := rfl
  unfold piece
  split
  · omega
  · split <;> (rw [ByteArray.size_append]; omega)
theorem From.rise {u : ByteArray} : ∀ {L : List Tk} {a fin : Nat}, a ≤ u.size → From u a L fin → a + L.length ≤ fin ∧ fin ≤ u.size ∧ (pieces u L).size ≤ 14 * (fin - a)
  | [], a, fin, ha, h => by
    have hf : fin = a := h
    refine ⟨by rw [List.length_nil]; omega, by omega, ?_⟩
    show (0 : Nat) ≤ _
    omega
  | t :: L, a, fin, ha, h => by
    obtain ⟨h1, h2, h3, h4, h5⟩ := h
    have hp := pass_le u a ha
    rw [← h1] at hp
    obtain ⟨q1, q2, _⟩ := tok_place hp.2 h2 h3 h4
    obtain ⟨r1, r2, r3⟩ := From.rise q2 h5
    have := piece_size q1 q2
    refine ⟨by rw [List.length_cons]; omega, r2, ?_⟩
    rw [pieces, ByteArray.size_append]
    omega
/- One more token of the source, as Next tells it. -/
theorem told_more {u : ByteArray} {fin : Nat} (hu : u.size ≤ 65536) (hf : fin ≤ u.size) (h0 : (tokR u (pass u fin) false).1 ≠ 0) :
    nextR u fin false = .tuple #[.agg #[.int .u8 (tokR u (pass u fin) false).1, .string (tokR u (pass u fin) false).2.1, .int .i64 (lineN u (pass u fin)), .int .i64 (pass u fin), .int .i64 (tokR u (pass u fin) false).2.2], faultV 0 0] := by
  unfold nextR
  rw [if_neg (by omega), if_neg (by omega)]
  simp only [Int.toNat_natCast]
  rw [if_neg h0]
theorem told_fault {u : ByteArray} {fin : Nat} (hu : u.size ≤ 65536) (hf : fin ≤ u.size) (h0 : (tokR u (pass u fin) false).1 = 0) : nextR u fin false = .tuple #[zeroTok, faultV 100 (lineN u (pass u fin))] := by
  unfold nextR
  rw [if_neg (by omega), if_neg (by omega)]
  simp only [Int.toNat_natCast]
  rw [if_pos h0]
/- Said again. -/
theorem Plays.cons {s : ByteArray} {p : Nat} {t : Tk} {L : List Tk} (hs : s.size ≤ 65536) (h : Plays s p (t :: L)) :
    ∃ e : Nat, nextR s p false = .tuple #[.agg #[.int .u8 t.kind, .string t.says, .int .i64 (lineN s (pass s p)), .int .i64 (pass s p), .int .i64 e], faultV 0 0] ∧ Plays s e L := by
  obtain ⟨hp, e, h1, h2, h3⟩ := h
  refine ⟨e, ?_, h3⟩
  rw [told_more hs hp (by rw [h1]; exact h2), h1]
theorem Plays.at_le {s : ByteArray} {p : Nat} : ∀ {L : List Tk}, Plays s p L → p ≤ s.size
  | [], h => h.1
  | _ :: _, h => h.1
theorem tok_past {s : ByteArray} : tokR s s.size false = (9, ⟨#[]⟩, s.size) := by
  unfold tokR
  rw [if_pos (Nat.le_refl _)]
theorem Plays.nil {s : ByteArray} {p : Nat} (hs : s.size ≤ 65536) (h : Plays s p []) :
    nextR s p false = .tuple #[.agg #[.int .u8 9, .string ⟨#[]⟩, .int .i64 (lineN s s.size), .int .i64 s.size, .int .i64 s.size], faultV 0 0] := by
  obtain ⟨hp, h1⟩ := h
  rw [told_more hs hp (by rw [h1, tok_past]; exact (by decide : (9 : Int) ≠ 0)), h1, tok_past]
/- Kind 9 only at the end. -/
theorem tok_nine {u : ByteArray} {a : Nat} (ha : a ≤ u.size) (h : (tokR u a false).1 = 9) : a = u.size := by
  by_cases c0 : u.size ≤ a
  · omega
  exfalso
  unfold tokR at h
  rw [if_neg c0] at h
  by_cases c10 : bAt u a = 10
  · rw [if_pos c10] at h
    simp only at h
    omega
  rw [if_neg c10] at h
  by_cases c34 : bAt u a = 34
  · rw [if_pos c34] at h
    unfold qR at h
    split at h
    · split at h
      · simp only at h; omega
      · simp only at h; omega
    · simp only at h; omega
  rw [if_neg c34, if_neg (by simp)] at h
  split at h
  · simp only at h; omega
  · split at h
    · simp only at h
      unfold kindN at h
      split at h <;> (try split at h) <;> omega
    · split at h <;> (simp only at h; omega)
/- What the first loop leaves is played by the second. -/
theorem again {u : ByteArray} {L : List Tk} {fin : Nat} (h : From u 0 L fin) (hE : (tokR u (pass u fin) false).1 = 0 ∨ (tokR u (pass u fin) false).1 = 9) : Plays (pieces u L) 0 L := by
  refine plays L 0 fin ⟨#[]⟩ (pieces u L) 0 (Nat.zero_le _) h hE ?_ (Nat.zero_le _) rfl
  show pieces u L = ByteArray.empty ++ pieces u L
  rw [ByteArray.empty_append]
end Go.Proofs.YtefpkgdakihceaaDoor.Lx
