/-
  The document's arrays: lists of keys and cells in memory; Find.
-/
import Derived.Test.YtlagnklmfanmoaaArU
namespace Go.Proofs.Ytlagnklmfanmoaa.Ar
open Go.RowKit Go.Maps

def cells4 (p : KV) : List Value := [.string p.1, .int .u8 p.2.kind, .int .u64 p.2.n, .string p.2.s]
def flatI : List KV → List Value
  | [] => []
  | p :: l => cells4 p ++ flatI l
theorem flatI_length : ∀ l : List KV, (flatI l).length = l.length * 4
  | [] => rfl
  | s :: l => by simp [flatI, flatI_length l, cells4]; omega
theorem flatI_append : ∀ l r : List KV, flatI (l ++ r) = flatI l ++ flatI r
  | [], r => rfl
  | s :: l, r => by simp [flatI, flatI_append l r]
theorem cells4_one (p : KV) : ∀ u ∈ cells4 p, u.oneCell' = true := by
  intro u hu
  simp only [cells4, List.mem_cons, List.not_mem_nil, or_false] at hu
  rcases hu with rfl | rfl | rfl | rfl <;> rfl
theorem flatI_one : ∀ l : List KV, ∀ u ∈ flatI l, u.oneCell' = true
  | [], u, h => by simp [flatI] at h
  | p :: l, u, h => by
    rcases List.mem_append.1 h with h | h
    · exact cells4_one p u h
    · exact flatI_one l u h
theorem flatI_get : ∀ (l : List KV) (i : Nat) (p : KV), l[i]? = some p → ∀ j, j < 4 → (flatI l)[i * 4 + j]? = (cells4 p)[j]?
  | x :: l, 0, r, h, j, hj => by
    simp at h; subst h
    have : j < (cells4 x).length := hj
    simp only [flatI, Nat.zero_mul, Nat.zero_add]
    rw [List.getElem?_append_left this]
  | x :: l, i + 1, r, h, j, hj => by
    have ih := flatI_get l i r (by simpa using h) j hj
    have e : (i + 1) * 4 + j = (cells4 x).length + (i * 4 + j) := by show _ = 4 + _; omega
    simp only [flatI, e]
    rw [List.getElem?_append_right (Nat.le_add_right _ _), Nat.add_sub_cancel_left]
    exact ih
abbrev Items (B : Nat) (w : World) (v : Value) (L : List KV) : Prop := w.ownsRow B 79 4 v L.length (flatI L)
theorem Items.of_block {B : Nat} {w w' : World} {v : Value} {L : List KV} (h : Items B w v L) (hb : ∀ k, v.ownBlock = some k → w'.heap[k]? = w.heap[k]?) : Items B w' v L := by
  have h2 := h
  rcases h.2 with ⟨h1, h0⟩ | ⟨g, oc, cur, h1, _⟩
  · exact ⟨h.1, .inl ⟨h1, h0⟩⟩
  · subst h1
    exact row_of_block h2 (hb g rfl)
theorem Items.below {B : Nat} {w w' : World} {v : Value} {L : List KV} (h : Items B w v L) (hb : Below w.heap.size w w') : Items B w' v L :=
  h.of_block fun k hk => hb.block k (h.lt k hk).2
theorem Items.base {B C : Nat} {w : World} {v : Value} {L : List KV} (h : Items B w v L) (hc : C ≤ B) : Items C w v L := by
  refine ⟨h.1, ?_⟩
  rcases h.2 with h1 | ⟨g, oc, cur, h1, h2, h3⟩
  · exact .inl h1
  · exact .inr ⟨g, oc, cur, h1, Nat.le_trans hc h2, h3⟩
theorem Items.shape {B : Nat} {w : World} {v : Value} {L : List KV} (h : Items B w v L) : ∃ oa oc, v = .slice oa L.length oc ∧ (oa = none → oc = 0) := by
  rcases h.2 with ⟨h1, h2⟩ | ⟨g, oc, cur, h1, _⟩
  · exact ⟨none, 0, by rw [h1, h2], fun _ => rfl⟩
  · exact ⟨_, _, h1, fun h => by cases h⟩
theorem Items.at {B n c : Nat} {w : World} {oa : Option Addr} {L : List KV} (h : Items B w (.slice oa n c) L) {i : Nat} {p : KV} (hi : L[i]? = some p) :
    ∃ g, oa = some ⟨g, 0, none⟩ ∧ w.cell? ⟨g, i * 4, none⟩ = some (.string p.1) ∧ w.cell? ⟨g, i * 4 + 1, none⟩ = some (.int .u8 p.2.kind) ∧ w.cell? ⟨g, i * 4 + 2, none⟩ = some (.int .u64 p.2.n) ∧ w.cell? ⟨g, i * 4 + 3, none⟩ = some (.string p.2.s) := by
  have hlt := (List.getElem?_eq_some_iff.1 hi).1
  have h2 := h
  rcases h.2 with ⟨h1, h0⟩ | ⟨g, oc, cur, h1, _⟩
  · omega
  · simp only [Value.slice.injEq] at h1
    obtain ⟨rfl, rfl, rfl⟩ := h1
    have hc : ∀ j, j < 4 → w.cell? ⟨g, i * 4 + j, none⟩ = (cells4 p)[j]? := fun j hj => by
      rw [h2.cellAt (i * 4 + j) (by omega), flatI_get L i p hi j hj]
    exact ⟨g, rfl, hc 0 (by omega), hc 1 (by omega), hc 2 (by omega), hc 3 (by omega)⟩
theorem item_info : ∃ i z, Try.prog.info? 79 = some i ∧ i.zero = some z ∧ i.size = 4 ∧ i.bytes = 48 ∧ z.cells.size = 4 := by
  have h : (Try.prog.info? 79).map (fun i => (i.zero.map (·.cells.size), i.size, i.bytes)) = some (some 4, 4, 48) := by kernel_rfl
  cases hi : Try.prog.info? 79 with
  | none => rw [hi] at h; cases h
  | some i =>
    rw [hi] at h
    simp only [Option.map_some, Option.some.injEq, Prod.mk.injEq] at h
    cases hz : i.zero with
    | none => rw [hz] at h; cases h.1
    | some z => rw [hz] at h; exact ⟨i, z, rfl, hz, h.2.1, h.2.2, by simpa using h.1⟩

/- Where a key stands first. -/
def idx : Option Nat → Int
  | none => -1
  | some i => i
def FoundAt (L : List KV) (s : ByteArray) : Option Nat → Prop
  | none => hasL L s = false
  | some i => ∃ p, L[i]? = some p ∧ p.1 = s
theorem FoundAt.has {L : List KV} {s : ByteArray} : ∀ {o : Option Nat}, FoundAt L s o → hasL L s = o.isSome
  | none, h => h
  | some i, h => by
    obtain ⟨p, h1, h2⟩ := h
    exact mem_hasL.2 ⟨p, List.mem_of_getElem? h1, h2⟩

set_option maxRecDepth 100000 in
theorem find {B : Nat} {w : World} {v : Value} {L : List KV} (s : ByteArray) (h : Items B w v L) (hz : L.length ≤ 1000000) :
    Calls Try.prog 37 #[v, .string s] w fun e w' => ∃ o, e = .returned (.int .i64 (idx o)) ∧ FoundAt L s o ∧ w' = w := by
  obtain ⟨oa, ca, rfl, hoa⟩ := h.shape
  have HH := Lib.hid h
  clear h
  go_enter Try.func37, Try.ntmps37
  go_wp2_with fail
  go_loopg [5] L.length (fun k i wr => ∃ j, L.length - j = k ∧ j ≤ L.length ∧ i = .int .i64 (j : Int) ∧ (∀ k p, k < j → L[k]? = some p → p.1 ≠ s) ∧ wr = w)
  case atStart => exact ⟨0, rfl, Nat.zero_le _, rfl, fun k p hk => by omega, rfl⟩
  case round =>
    obtain ⟨j, hk, hj, rfl, hno, rfl⟩ := hrel
    have HN := Lib.hid hno
    clear hno
    by_cases hlt : j < L.length
    · have hlt' : (j : Int) < (L.length : Int) := by omega
      obtain ⟨p, hp⟩ : ∃ p, L[j]? = some p := ⟨_, List.getElem?_eq_getElem hlt⟩
      obtain ⟨g, rfl, c0, _⟩ := HH.out.at hp
      have HP := Lib.hid hp
      clear hp
      by_cases hps : p.1 = s
      · have hb : (p.1.toList == s.toList) = true := by rw [hps]; simp
        have HS := Lib.hid hps
        clear hps
        go_wp2_with fail
        go_ret
        exact ⟨some j, rfl, ⟨p, HP.out, HS.out⟩, rfl⟩
      · have hb : (p.1.toList == s.toList) = false := toList_ne hps
        have HS := Lib.hid hps
        clear hps
        go_wp2_with fail
        go_roundg (L.length - (j + 1))
        case measure => omega
        case rel =>
          refine ⟨j + 1, rfl, hlt, by go_num, fun k q hk hq => ?_, rfl⟩
          by_cases e : k = j
          · subst e
            rw [HP.out] at hq
            cases hq
            exact HS.out
          · exact HN.out k q (by omega) hq
    · have hge : ¬ (j : Int) < (L.length : Int) := by omega
      go_wp2_with fail
      go_ret
      refine ⟨none, rfl, ?_, rfl⟩
      show hasL L s = false
      rw [Bool.eq_false_iff]
      intro hh
      obtain ⟨p, hp, he⟩ := mem_hasL.1 hh
      obtain ⟨k, hk2⟩ := List.getElem?_of_mem hp
      exact HN.out k p (by have := (List.getElem?_eq_some_iff.1 hk2).1; omega) hk2 he
end Go.Proofs.Ytlagnklmfanmoaa.Ar
