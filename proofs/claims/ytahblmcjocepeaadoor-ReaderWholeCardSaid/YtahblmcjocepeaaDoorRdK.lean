/-
  Package reader: a list of records in memory; what is said of it.
-/
import Derived.Test.YtahblmcjocepeaaDoorRdJ
import Derived.Laws.BytesString
namespace Go.Proofs.YtahblmcjocepeaaDoor.Rd
open Go.RowKit Go.Maps Wo

def texts (T : List ByteArray) : List Value := T.map Value.string
abbrev Txts (B : Nat) (w : World) (v : Value) (T : List ByteArray) : Prop := w.ownsRow B 9 1 v T.length (texts T)
theorem Txts.snoc {B g cap : Nat} {w : World} {T : List ByteArray} {s : ByteArray} (h : w.ownsRow B 9 1 (.slice (some ⟨g, 0, none⟩) (T.length + 1) cap) (T.length + 1) (texts T ++ [.string s])) : Txts B w (.slice (some ⟨g, 0, none⟩) (T.length + 1) cap) (T ++ [s]) := by
  show World.ownsRow _ _ _ _ _ _ _
  rw [List.length_append, show texts (T ++ [s]) = texts T ++ [.string s] from List.map_append]
  exact h
theorem texts_one (T : List ByteArray) : ∀ u ∈ texts T, u.oneCell' = true := by
  intro u hu
  obtain ⟨s, _, rfl⟩ := List.mem_map.1 hu
  rfl
theorem Txts.shape {B : Nat} {w : World} {v : Value} {T : List ByteArray} (h : Txts B w v T) : (v = .slice none 0 0 ∧ T = []) ∨ ∃ g oc, v = .slice (some ⟨g, 0, none⟩) T.length oc ∧ T.length ≤ oc ∧ g < w.heap.size := by
  rcases h.2 with ⟨h1, h2⟩ | ⟨g, oc, cur, h1, _, hg, hc, _⟩
  · exact .inl ⟨h1, List.length_eq_zero_iff.1 h2⟩
  · exact .inr ⟨g, oc, h1, hc, (Array.getElem?_eq_some_iff.1 hg).1⟩
theorem Txts.cells {B g n c : Nat} {w : World} {T : List ByteArray} (h : Txts B w (.slice (some ⟨g, 0, none⟩) n c) T) (j : Nat) (x : ByteArray) (hx : T[j]? = some x) : w.cell? ⟨g, 0 + j, none⟩ = some (.string x) := by
  obtain ⟨_, ⟨h1, _⟩ | ⟨g2, cap, cur, hv, _, hg, _, _, _, ht⟩⟩ := h
  · simp at h1
  · simp only [Value.slice.injEq, Option.some.injEq, Addr.mk.injEq, and_true, true_and] at hv
    obtain ⟨rfl, _, _⟩ := hv
    have hj : j < T.length := (List.getElem?_eq_some_iff.1 hx).1
    have h2 : (cur.toList.take (T.length * 1))[j]? = (texts T)[j]? := by rw [ht]
    rw [List.getElem?_take_of_lt (by omega), texts, List.getElem?_map, hx, Array.getElem?_toList] at h2
    rw [Nat.zero_add, cell_of hg]
    exact h2
theorem string_info : ∃ i z, Tryd.prog.info? 9 = some i ∧ i.zero = some z ∧ i.size = 1 ∧ i.bytes = 16 ∧ z.cells.size = 1 := by
  have h : (Tryd.prog.info? 9).map (fun i => (i.zero.map (·.cells.size), i.size, i.bytes)) = some (some 1, 1, 16) := by kernel_rfl
  cases hi : Tryd.prog.info? 9 with
  | none => rw [hi] at h; cases h
  | some i =>
    rw [hi] at h
    simp only [Option.map_some, Option.some.injEq, Prod.mk.injEq] at h
    cases hz : i.zero with
    | none => rw [hz] at h; cases h.1
    | some z => rw [hz] at h; exact ⟨i, z, rfl, hz, h.2.1, h.2.2, by simpa using h.1⟩
/- The list's texts, the byte between them. -/
def joinL (L : List ByteArray) (b : UInt8) : List UInt8 := Lib.join (L.map (·.data.toList)) [b]
theorem joinL_snoc (L : List ByteArray) (t : ByteArray) (b : UInt8) : joinL (L ++ [t]) b = if L = [] then t.data.toList else joinL L b ++ b :: t.data.toList := by
  cases L with
  | nil => rw [if_pos rfl]; simp [joinL, Lib.join_cons, Lib.joinTail]
  | cons x r =>
    rw [if_neg (by simp)]
    simp only [joinL, List.cons_append, List.map_cons, List.map_append, List.map_nil, Lib.join_cons, Lib.joinTail]
    simp
theorem joinT {B : Nat} {w : World} {v : Value} {T : List ByteArray} (b : UInt8) (h : Txts B w v T) (hT : T.length ≤ 1000000) (hlen : (joinL T b).length ≤ 1000000) :
    Calls Tryd.prog 26 #[v, .string ⟨#[b]⟩] w fun e w' => e = .returned (.string ⟨(joinL T b).toArray⟩) ∧ Below w.heap.size w w' := by
  rcases h.shape with ⟨rfl, rfl⟩ | ⟨g, oc, rfl, hc, hg⟩
  · exact (Tryd.strings_Join_none none 0 ⟨#[b]⟩ w).mono fun e w' ⟨he, hw⟩ => ⟨he, by rw [hw]; exact Below.refl _ _⟩
  · exact Tryd.strings_Join g 0 oc T ⟨#[b]⟩ w (fun j x hx => h.cells j x hx) hg (by omega) hc (by show (joinL T b).length ≤ _; omega)
/- What is said of the list at a place. -/
def Said (s : ByteArray) (b : UInt8) (a : Nat) (L : List ByteArray) : Prop :=
  (L = [] ∧ a = 0) ∨ (L ≠ [] ∧ joinL L b ++ [b] = s.data.toList.take a) ∨ (L ≠ [] ∧ joinL L b = s.data.toList ∧ a = s.size ∧ (joinL L b).getLast? ≠ some b ∧ s.size ≠ 0)
theorem Said.step {s : ByteArray} {b : UInt8} {a p' q : Nat} {L : List ByteArray} (h : Said s b a L) (ha : a ≤ s.size) (hq : q = idx b (s.data.toList.drop a) 0) (hp0 : p' ≠ 0) (hp : p' ≤ s.size - a) (he : q < p' ∨ (q = p' ∧ p' = s.size - a)) :
    Said s b (a + min (q + 1) p') (L ++ [(s.extract a s.size).extract 0 q]) := by
  have hne : L ++ [(s.extract a s.size).extract 0 q] ≠ [] := by simp
  have hl := len_list s
  have ht : ((s.extract a s.size).extract 0 q).data.toList = (s.data.toList.drop a).take q := by
    rw [ext_list, ext_list, List.drop_zero, Nat.sub_zero, List.take_take]
    rcases he with e | e
    · congr 1; omega
    · congr 1; omega
  obtain ⟨X, hX⟩ : ∃ X, X = s.data.toList.drop a := ⟨_, rfl⟩
  have hxl : X.length = s.size - a := by rw [hX, List.length_drop, hl]
  have hS : s.data.toList.take a ++ X = s.data.toList := by rw [hX]; exact List.take_append_drop a _
  rw [← hX] at ht hq
  have hj := joinL_snoc L ((s.extract a s.size).extract 0 q) b
  rw [ht] at hj
  rcases he with he | ⟨he, he2⟩
  · refine .inr (.inl ⟨hne, ?_⟩)
    have hat : X[q]? = some b := by rw [hq]; exact idx_at (by rw [← hq]; omega)
    have hx1 : X.take q ++ [b] = X.take (q + 1) := by rw [List.take_add_one, hat]; rfl
    rw [hj, Nat.min_eq_left (by omega)]
    have hadd : s.data.toList.take (a + (q + 1)) = s.data.toList.take a ++ X.take (q + 1) := by rw [hX, List.take_add]
    rcases h with ⟨rfl, rfl⟩ | ⟨h1, h2⟩ | ⟨h1, h2, h3, _⟩
    · rw [if_pos rfl, hx1, hadd]; simp
    · rw [if_neg h1, hadd, ← h2, ← hx1]; simp
    · omega
  · refine .inr (.inr ⟨hne, ?_, by omega, ?_, by omega⟩)
    · have hx1 : X.take q = X := List.take_of_length_le (by omega)
      rw [hj, hx1]
      rcases h with ⟨rfl, rfl⟩ | ⟨h1, h2⟩ | ⟨h1, h2, h3, _⟩
      · rw [if_pos rfl, hX]; simp
      · rw [if_neg h1, ← hS, ← h2]; simp
      · omega
    · have hx1 : X.take q = X := List.take_of_length_le (by omega)
      have hlast : X.getLast? ≠ some b := by
        rw [List.getLast?_eq_getElem?]
        exact idx_not (a := 0) (Nat.zero_le _) (by rw [← hq]; omega)
      have hXn : X ≠ [] := fun e => by rw [e] at hxl; simp at hxl; omega
      rw [hj, hx1]
      split
      · exact hlast
      · rw [show b :: X = [b] ++ X from rfl, ← List.append_assoc, List.getLast?_append]
        cases hy : X.getLast? with
        | none => exact absurd (List.getLast?_eq_none_iff.1 hy) hXn
        | some y => rw [hy] at hlast; simpa using hlast
theorem Said.whole {s : ByteArray} {b : UInt8} {L : List ByteArray} (h : Said s b s.size L) :
    ((⟨(joinL L b).toArray⟩ : ByteArray) = s ∧ (s = ⟨#[]⟩ ∨ (s ≠ ⟨#[]⟩ ∧ Lib.hasSuffix s.data.toList [b] = false))) ∨ ((⟨(joinL L b).toArray⟩ : ByteArray) ≠ s ∧ (⟨(joinL L b).toArray⟩ : ByteArray) ++ ⟨#[b]⟩ = s ∧ s ≠ ⟨#[]⟩) := by
  have hl := len_list s
  have hsn : s.size ≠ 0 → s ≠ ⟨#[]⟩ := fun h e => h (by rw [e]; rfl)
  rcases h with ⟨rfl, h0⟩ | ⟨h1, h2⟩ | ⟨h1, h2, _, h3, h4⟩
  · have hs : s = ⟨#[]⟩ := ByteArray.ext (Array.eq_empty_of_size_eq_zero h0)
    exact .inl ⟨by rw [hs]; rfl, .inl hs⟩
  · rw [List.take_of_length_le (by omega)] at h2
    have hlen : (joinL L b).length + 1 = s.size := by rw [← hl, ← h2]; simp
    refine .inr ⟨fun e => ?_, ?_, hsn (by omega)⟩
    · have := congrArg ByteArray.size e
      have e2 : (⟨(joinL L b).toArray⟩ : ByteArray).size = (joinL L b).length := List.size_toArray
      omega
    · apply ByteArray.ext
      apply Array.toList_inj.1
      rw [← h2]
      simp
  · have e1 : (⟨(joinL L b).toArray⟩ : ByteArray) = s := ByteArray.ext (Array.toList_inj.1 (by rw [h2]))
    refine .inl ⟨e1, .inr ⟨hsn h4, ?_⟩⟩
    rw [h2] at h3
    cases hc : Lib.hasSuffix s.data.toList [b] with
    | false => rfl
    | true =>
      exfalso
      have h5 : [b] <:+ s.data.toList := List.isSuffixOf_iff_suffix.1 hc
      obtain ⟨x, hx⟩ := h5
      exact h3 (by rw [← hx]; simp)
theorem Said.len {s : ByteArray} {b : UInt8} {a : Nat} {L : List ByteArray} (h : Said s b a L) : (joinL L b).length ≤ s.size := by
  have hl := len_list s
  rcases h with ⟨rfl, _⟩ | ⟨_, h2⟩ | ⟨_, h2, _⟩
  · exact Nat.zero_le _
  · have := congrArg List.length h2
    rw [List.length_append, List.length_take, hl] at this
    simp at this
    omega
  · rw [h2, hl]; exact Nat.le_refl _
section
variable {w0 w w2 : World} {c : Cst} {rb : Nat} {p : Nat} {over : Bool} {bx nb : List Nat}
theorem RdS.swap (h : RdS w0 w c rb p over bx) (t : Turn (fun k => k ∈ bx) w w2) (hn : ∀ b ∈ nb, (w.heap.size ≤ b ∧ b < w2.heap.size) ∨ b ∈ bx) : RdS w0 w2 c rb p over nb := by
  obtain ⟨st, h1, hg⟩ := h.rp
  have hlt := (h1.lt (b := rb) (by simp)).1
  refine ⟨⟨st, (h1.turnMore (t.mono fun k hk => by simp [hk]) (nb := nb) fun b hb => (hn b hb).imp id fun e => by simp [e]).less fun b hb => ?_, hg⟩, (t.block rb hlt h.nd).trans h.r, h.lf, h.ov, fun hm => ?_⟩
  · simp only [List.mem_append, List.mem_cons] at hb ⊢
    rcases hb with hb | hb
    · exact .inr (.inl hb)
    · exact .inl hb
  · rcases hn rb hm with e | e
    · omega
    · exact h.nd e
theorem RdS.at (h : RdS w0 w c rb p over bx) {c2 : Cst} (e : c = c2) : RdS w0 w c2 rb p over bx := e ▸ h
end
/- The law's reader at a place. -/
def cA (B : Nat) (s : ByteArray) (a : Nat) (left : ByteArray) (e0 : Bool) : Cst := ⟨B, 1, dash, s.extract a s.size, left, e0, fun k st => Std s (a + k) st⟩
theorem srcA (B : Nat) (s : ByteArray) (hz : s.size ≤ 10000000) (a : Nat) (ha : a ≤ s.size) (left : ByteArray) (e0 : Bool) : Src (cA B s a left e0).B (cA B s a left e0).k (cA B s a left e0).n (cA B s a left e0).tot (cA B s a left e0).G := by
  have hS := srcStd B s hz
  have hsz : (s.extract a s.size).size = s.size - a := by rw [ByteArray.size_extract]; omega
  refine ⟨fun p st h => ?_, fun p st h w fm rm xm D vs vt ps T hw => ?_⟩
  · have := hS.le _ _ h
    show p ≤ (s.extract a s.size).size
    omega
  · refine (hS.read (a + p) st h w fm rm xm D vs vt ps T hw).mono fun e w2 ⟨st2, ⟨he, hg⟩, hg2⟩ => ⟨st2, ⟨?_, ?_⟩, hg2⟩
    · rw [he]
      show _ = Ending.returned (.tuple #[.string ((s.extract a s.size).extract p (min (p + 512) (s.extract a s.size).size)), .int .i64 0])
      rw [hsz, ByteArray.extract_extract, show min (a + min (p + 512) (s.size - a)) s.size = min (a + p + 512) s.size by omega]
    · show Std s (a + min (p + 512) (s.extract a s.size).size) st2
      rw [hsz, show a + min (p + 512) (s.size - a) = min (a + p + 512) s.size by omega]
      exact hg
theorem nextA (B : Nat) (s : ByteArray) (a : Nat) (left : ByteArray) (e0 z : Bool) (m p' : Nat) (ha : a + m ≤ s.size) : { nextC (cA B s a left e0) m p' with e0 := z } = cA B s (a + m) ((s.extract a s.size).extract m p') z := by
  have hsz : (s.extract a s.size).size = s.size - a := by rw [ByteArray.size_extract]; omega
  have e1 : (s.extract a s.size).extract m (s.extract a s.size).size = s.extract (a + m) s.size := by
    rw [hsz, ByteArray.extract_extract]
    congr 1; omega
  have e2 : (fun (k : Nat) (st : St) => Std s (a + (m + k)) st) = fun k st => Std s (a + m + k) st := by
    funext k st
    rw [Nat.add_assoc]
  show Cst.mk B 1 dash ((s.extract a s.size).extract m (s.extract a s.size).size) ((s.extract a s.size).extract m p') z (fun k st => Std s (a + (m + k)) st) = _
  rw [e1, e2]
  rfl
theorem conv_one (b : UInt8) (W : World) (k : Nat) (h0 : W.cell? ⟨k, 0, none⟩ = some (.int .u8 b.toNat)) :
    (convert 76 9 (.slice (some ⟨k, 0, none⟩) 1 1)).run Tryd.prog W = .ok (.string ⟨#[b]⟩) W := by
  rw [run_convert_bytes_string W _ _ _ _ _ _ Tryd.underlying76 Tryd.underlying5 Tryd.underlying9]
  have h : (loadCells ⟨k, 0, none⟩ 1).run Tryd.prog W = .ok ([(b.toNat : Int)].map (Value.int .u8)).toArray W := by
    simp [loadCells, go_sem, h0]
  rw [run_bytesToString W ⟨k, 0, none⟩ 1 1 _ h]
  have e0 : UInt8.ofNat ((b.toNat : Int)).toNat = b := by simp
  simp only [List.foldl_cons, List.foldl_nil, e0]
  rfl
end Go.Proofs.YtahblmcjocepeaaDoor.Rd
