/-
  Lists in the place of arrays: what the kernel reckons with.
-/
import Derived.Test.YtmoglfooadcemaaEvC
namespace Go.Ev
open Go.RowKit

def lfill (place : Nat → Option (Nat × Nat)) (cs : List Value) : List (Nat × Value) → Option (List Value)
  | [] => some cs
  | (i, v) :: rest => match place i with
    | none => none
    | some (off, size) => bif Nat.beq v.cells.toList.length size && Nat.ble (off + size) cs.length then lfill place (cs.take off ++ (v.cells.toList ++ cs.drop (off + size))) rest else none

theorem fold_get (off : Nat) : ∀ (l : List Value) (k : Nat) (cs : Array Value) (i : Nat), off + k + l.length ≤ cs.size →
    ((l.zipIdx k).foldl (fun cs (c, j) => cs.setIfInBounds (off + j) c) cs)[i]? = if off + k ≤ i ∧ i < off + k + l.length then l[i - (off + k)]? else cs[i]?
  | [], k, cs, i, _ => by
    have : ¬ (off + k ≤ i ∧ i < off + k + 0) := by omega
    simp only [List.zipIdx_nil, List.foldl_nil, List.length_nil, if_neg this]
  | v :: l, k, cs, i, h => by
    simp only [List.length_cons] at h
    simp only [List.zipIdx_cons, List.foldl_cons]
    rw [fold_get off l (k + 1) _ i (by simp; omega), Array.getElem?_setIfInBounds]
    by_cases h1 : off + (k + 1) ≤ i ∧ i < off + (k + 1) + l.length
    · rw [if_pos h1, if_pos (by simp; omega)]
      have : i - (off + k) = (i - (off + (k + 1))) + 1 := by omega
      rw [this, List.getElem?_cons_succ]
    · rw [if_neg h1]
      by_cases h2 : off + k = i
      · subst h2
        rw [if_pos rfl, if_pos (by omega), if_pos (by simp)]
        simp
      · rw [if_neg h2, if_neg (by simp; omega)]

theorem fill_list (place : Nat → Option (Nat × Nat)) : ∀ (l : List (Nat × Value)) (cs r : List Value), lfill place cs l = some r → Instr.fill place cs.toArray l = some r.toArray
  | [], cs, r, h => by simp only [lfill] at h; cases h; rfl
  | (i, v) :: rest, cs, r, h => by
    simp only [lfill] at h
    simp only [Instr.fill]
    cases hp : place i with
    | none => rw [hp] at h; cases h
    | some os =>
      obtain ⟨off, size⟩ := os
      rw [hp] at h
      simp only [Bool.cond_eq_ite] at h ⊢
      split at h
      case isFalse => cases h
      rename_i hc
      simp only [Bool.and_eq_true, Nat.beq_eq, Nat.ble_eq, Array.length_toList] at hc
      obtain ⟨h1, h2⟩ := hc
      have hn : ¬ (((decide (v.cells.size ≠ size)) || decide (off + v.cells.size > cs.toArray.size)) = true) := by simp; omega
      rw [if_neg hn, ← fill_list place rest _ r h]
      congr 1
      apply Array.ext_getElem?
      intro j
      rw [← Array.foldl_toList, Array.toList_zipIdx, fold_get off v.cells.toList 0 cs.toArray j (by simp; omega)]
      simp only [List.getElem?_toArray, Nat.add_zero, Array.length_toList, h1]
      by_cases hj : off ≤ j ∧ j < off + size
      · rw [if_pos hj, List.getElem?_append_right (by simp; omega), List.getElem?_append_left (by simp; omega)]
        congr 1
        simp; omega
      · rw [if_neg hj]
        by_cases hj2 : j < off
        · rw [List.getElem?_append_left (by simp; omega), List.getElem?_take_of_lt hj2]
        · rw [List.getElem?_append_right (by simp; omega), List.getElem?_append_right (by simp; omega), List.getElem?_drop]
          congr 1
          simp; omega

def rep (zs : List Value) : Nat → List Value
  | 0 => []
  | n + 1 => zs ++ rep zs n
theorem rep_length (zs : List Value) : ∀ n, (rep zs n).length = n * zs.length
  | 0 => by simp [rep]
  | n + 1 => by simp [rep, rep_length zs n, Nat.add_mul]; omega
theorem rep_get (zs : List Value) : ∀ n i, i < n * zs.length → (rep zs n)[i]? = zs[i % zs.length]?
  | 0, i, h => by simp at h
  | n + 1, i, h => by
    simp only [rep]
    by_cases hi : i < zs.length
    · rw [List.getElem?_append_left hi, Nat.mod_eq_of_lt hi]
    · rw [List.getElem?_append_right (by omega), rep_get zs n _ (by rw [Nat.add_mul] at h; omega), ← Nat.mod_eq_sub_mod (by omega)]
theorem rep_zeros (zs : Array Value) (n : Nat) : (Array.range (n * zs.size)).map (zs[· % zs.size]!) = (rep zs.toList n).toArray := by
  apply Array.ext_getElem?
  intro i
  simp only [Array.getElem?_map, List.getElem?_toArray]
  by_cases hi : i < n * zs.size
  · rw [rep_get zs.toList n i (by simpa using hi)]
    have hpos : 0 < zs.size := by
      rcases Nat.eq_zero_or_pos zs.size with h | h
      · rw [h] at hi; simp at hi
      · exact h
    have hm : i % zs.size < zs.size := Nat.mod_lt _ hpos
    simp [hi, hm]
  · have h1 : (Array.range (n * zs.size))[i]? = none := by simp; omega
    have h2 : (rep zs.toList n)[i]? = none := by rw [List.getElem?_eq_none_iff, rep_length]; simp; omega
    rw [h1, h2]; rfl

theorem plainA_toList (a : Array Value) : plainA a = plainL a.toList := by cases a; rfl
theorem plainL_app : ∀ {a b : List Value}, plainL a = true → plainL b = true → plainL (a ++ b) = true
  | [], _, _, h => h
  | v :: a, b, h, k => by simp only [plainL, Bool.and_eq_true, List.cons_append] at *; exact ⟨h.1, plainL_app h.2 k⟩
theorem plain_rep {zs : List Value} (h : plainL zs = true) : ∀ n, plainL (rep zs n) = true
  | 0 => rfl
  | n + 1 => plainL_app h (plain_rep h n)

variable {N0 : Nat → Prop} {W0 W : World} {vs : VS} {μ : Mu} {P : Program} {T : TE} [TOk P T]

def placesOf (T : TE) : List Field → Option (List (Nat × Nat))
  | [] => some []
  | f :: l => match T.inf f.type, placesOf T l with
    | some i, some r => some ((f.offset, i.size) :: r)
    | _, _ => none
theorem placesOf_run : ∀ (l : List Field) (r : List (Nat × Nat)), placesOf T l = some r → (l.mapM fun f : Field => (do pure (f.offset, ← sizeOf f.type) : Sem (Nat × Nat))).run P W = .ok r W
  | [], r, h => by simp only [placesOf] at h; cases h; simp
  | f :: l, r, h => by
    simp only [placesOf] at h
    split at h
    case h_2 => cases h
    rename_i i r' hi hr
    cases h
    simp only [List.mapM_cons, Sem.run_bind, run_sizeOf' (TOk.inf (P := P) hi), Result.andThen_ok, Sem.run_pure, placesOf_run l r' hr]
theorem places_run {fields : Array Field} {r : List (Nat × Nat)} (h : placesOf T fields.toList = some r) : (fields.mapM fun f : Field => (do pure (f.offset, ← sizeOf f.type) : Sem (Nat × Nat))).run P W = .ok r.toArray W := by
  have e : fields = fields.toList.toArray := by simp
  rw [e, List.mapM_toArray, Sem.run_map, placesOf_run (P := P) fields.toList r h]
  rfl

end Go.Ev
