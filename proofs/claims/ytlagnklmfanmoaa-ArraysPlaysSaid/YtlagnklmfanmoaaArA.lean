/-
  Package arrays: keys and their cells, as lists; what ties a map of places to a list of rows.
-/
import Derived.Test.YtlagnklmfanmoaaRows
import Derived.WalkKit
import Derived.WalkSpells
import Derived.WalkLawsBesides
import Derived.Lib.Hide
import Derived.BigQuiet
import Derived.Deep.Quiet
import Derived.ChangeKeysEq
import Derived.WalkSmall
import Derived.Deep.Light
import Derived.Deep.QuietTactic
import Derived.StillTactics
import Derived.Maps.OwnSet
import Derived.Maps.Views
import Derived.Deep.AppendLies
import Derived.Deep.RegionLaw
import Derived.Laws.OwnMore
namespace Go.Proofs.Ytlagnklmfanmoaa.Ar
open Go.RowKit Go.Maps

structure Cell where
  kind : Int
  n : Int
  s : ByteArray
deriving DecidableEq
def Cell.cells (c : Cell) : List Value := [.int .u8 c.kind, .int .u64 c.n, .string c.s]
def Cell.zero : Cell := ⟨0, 0, ⟨#[]⟩⟩
structure Row where
  key : ByteArray
  cell : Cell
  there : Bool
def Row.cells (r : Row) : List Value := [.string r.key, .int .u8 r.cell.kind, .int .u64 r.cell.n, .string r.cell.s, .bool r.there]
def Row.zero : Row := ⟨⟨#[]⟩, Cell.zero, false⟩
def flat : List Row → List Value
  | [] => []
  | s :: l => s.cells ++ flat l
theorem flat_length : ∀ l : List Row, (flat l).length = l.length * 5
  | [] => rfl
  | s :: l => by simp [flat, flat_length l, Row.cells]; omega
theorem flat_append : ∀ l r : List Row, flat (l ++ r) = flat l ++ flat r
  | [], r => rfl
  | s :: l, r => by simp [flat, flat_append l r]
theorem Row.one (s : Row) : ∀ u ∈ s.cells, u.oneCell' = true := by
  intro u hu
  simp only [Row.cells, List.mem_cons, List.not_mem_nil, or_false] at hu
  rcases hu with rfl | rfl | rfl | rfl | rfl <;> rfl
theorem Row.five (s : Row) : s.cells.length = 5 := rfl
theorem flat_get : ∀ (l : List Row) (i : Nat) (r : Row), l[i]? = some r → ∀ j, j < 5 → (flat l)[i * 5 + j]? = r.cells[j]?
  | x :: l, 0, r, h, j, hj => by
    simp at h; subst h
    have : j < x.cells.length := by rw [Row.five]; exact hj
    simp only [flat, Nat.zero_mul, Nat.zero_add]
    rw [List.getElem?_append_left this]
  | x :: l, i + 1, r, h, j, hj => by
    have ih := flat_get l i r (by simpa using h) j hj
    have e : (i + 1) * 5 + j = x.cells.length + (i * 5 + j) := by rw [Row.five]; omega
    simp only [flat, e]
    rw [List.getElem?_append_right (Nat.le_add_right _ _), Nat.add_sub_cancel_left]
    exact ih
/- A row laid over the one at i. -/
theorem flat_set : ∀ (l : List Row) (i : Nat) (r : Row), i < l.length → flat (l.set i r) = (flat l).take (i * 5) ++ r.cells ++ (flat l).drop (i * 5 + 5)
  | [], i, _, h => by simp at h
  | x :: l, 0, r, _ => by
    have : x.cells.length = 5 := rfl
    simp [flat, List.drop_left' this]
  | x :: l, i + 1, r, h => by
    have ih := flat_set l i r (by simpa using h)
    have h5 : x.cells.length = 5 := rfl
    have e1 : (i + 1) * 5 = x.cells.length + i * 5 := by rw [h5]; omega
    have e2 : (i + 1) * 5 + 5 = x.cells.length + (i * 5 + 5) := by rw [h5]; omega
    simp only [List.set_cons_succ, flat, e2, List.drop_length_add_append, ih]
    rw [e1, List.take_length_add_append]
    simp [List.append_assoc]

/- The keys and cells of an array, in order; and what the calls make of them. -/
abbrev KV := ByteArray × Cell
def getL (l : List KV) (s : ByteArray) : Option Cell := (l.find? (fun p => decide (p.1 = s))).map (·.2)
def hasL (l : List KV) (s : ByteArray) : Bool := l.any (fun p => decide (p.1 = s))
def setL (l : List KV) (s : ByteArray) (c : Cell) : List KV := if hasL l s then l.map (fun p => if p.1 = s then (s, c) else p) else l ++ [(s, c)]
def delL (l : List KV) (s : ByteArray) : List KV := l.filter (fun p => !decide (p.1 = s))
def askL (l : List KV) (s : ByteArray) : List KV := if hasL l s then l else l ++ [(s, Cell.zero)]
def cellL (l : List KV) (s : ByteArray) : Cell := (getL l s).getD Cell.zero

def live (rs : List Row) : List KV := (rs.filter (·.there)).map fun r => (r.key, r.cell)
theorem live_append (a b : List Row) : live (a ++ b) = live a ++ live b := by simp [live]
theorem live_cons (x : Row) (l : List Row) : live (x :: l) = if x.there then (x.key, x.cell) :: live l else live l := by
  cases h : x.there <;> simp [live, h]
theorem live_filter (a : List Row) : live (a.filter (·.there)) = live a := by simp [live]
theorem mem_live {rs : List Row} {p : KV} : p ∈ live rs ↔ ∃ r ∈ rs, r.there = true ∧ p = (r.key, r.cell) := by
  simp only [live, List.mem_map, List.mem_filter]
  constructor
  · rintro ⟨r, ⟨h1, h2⟩, rfl⟩; exact ⟨r, h1, h2, rfl⟩
  · rintro ⟨r, h1, h2, rfl⟩; exact ⟨r, ⟨h1, h2⟩, rfl⟩

def kl (s : ByteArray) : Lit := .string s.data.toList
theorem kl_inj {a b : ByteArray} (h : kl a = kl b) : a = b := by
  unfold kl at h
  injection h with h
  exact ByteArray.ext (Array.toList_inj.1 h)
theorem kl_key (s : ByteArray) : WideAt.IsKeyLit (kl s) := by
  unfold WideAt.IsKeyLit kl
  first | trivial | exact ⟨_, rfl⟩ | simp
abbrev zi : DataW Unit := .lit (.int .i64 0)
abbrev pi (i : Nat) : DataW Unit := .lit (.int .i64 (i : Int))

structure Ties (D : DataW Unit) (rs : List Row) : Prop where
  tidy : Tidy D
  at_ : ∀ (i : Nat) r, rs[i]? = some r → r.there = true → has D (kl r.key) = true ∧ D.atKey (kl r.key) zi = pi i
  only : ∀ s, has D (kl s) = true → ∃ (i : Nat) (r : Row), rs[i]? = some r ∧ r.there = true ∧ r.key = s
  size : Maps.size D = (live rs).length
  small : ∀ r ∈ rs, r.key.size ≤ 1000000

theorem Ties.inj {D : DataW Unit} {rs : List Row} (h : Ties D rs) {i j : Nat} {r q : Row} (hi : rs[i]? = some r) (hr : r.there = true) (hj : rs[j]? = some q) (hq : q.there = true) (e : r.key = q.key) : i = j := by
  have h1 := (h.at_ i r hi hr).2
  have h2 := (h.at_ j q hj hq).2
  rw [e, h2] at h1
  simp only [pi, DataW.lit.injEq, Lit.int.injEq, true_and] at h1
  omega
theorem Ties.nil : Ties (.map []) [] := ⟨tidy_empty, fun i r h => by simp at h, fun s h => by simp [has] at h, rfl, fun r h => by simp at h⟩
theorem Ties.has_iff {D : DataW Unit} {rs : List Row} (h : Ties D rs) (s : ByteArray) : has D (kl s) = hasL (live rs) s := by
  rw [Bool.eq_iff_iff]
  constructor
  · intro hh
    obtain ⟨i, r, hi, hr, rfl⟩ := h.only s hh
    exact List.any_eq_true.2 ⟨_, mem_live.2 ⟨r, List.mem_of_getElem? hi, hr, rfl⟩, by simp⟩
  · intro hh
    obtain ⟨p, hp, he⟩ := List.any_eq_true.1 hh
    obtain ⟨r, hr, ht, rfl⟩ := mem_live.1 hp
    obtain ⟨i, hi⟩ := List.getElem?_of_mem hr
    have : r.key = s := by simpa using he
    rw [← this]
    exact (h.at_ i r hi ht).1

theorem Ties.add {D : DataW Unit} {rs : List Row} (h : Ties D rs) (r : Row) (hn : has D (kl r.key) = false) (ht : r.there = true) (hs : r.key.size ≤ 1000000) : Ties (D.put (kl r.key) (pi rs.length)) (rs ++ [r]) where
  tidy := h.tidy.put (kl_key _) _
  at_ := fun i q hi hq => by
    by_cases hl : i < rs.length
    · rw [List.getElem?_append_left hl] at hi
      obtain ⟨h1, h2⟩ := h.at_ i q hi hq
      have hne : kl q.key ≠ kl r.key := fun e => by rw [e, hn] at h1; cases h1
      exact ⟨by rw [has_put_other hne]; exact h1, by rw [atKey_put_other hne]; exact h2⟩
    · rw [List.getElem?_append_right (by omega)] at hi
      have h0 : i - rs.length = 0 := by
        cases h0 : i - rs.length with
        | zero => rfl
        | succ k => rw [h0] at hi; simp at hi
      rw [h0] at hi
      simp only [List.getElem?_cons_zero, Option.some.injEq] at hi
      subst hi
      have : i = rs.length := by omega
      subst this
      exact ⟨has_put_same h.tidy.isMap (kl_key _) _, atKey_put_same h.tidy.isMap (kl_key _) _ _⟩
  only := fun s hs => by
    by_cases e : kl s = kl r.key
    · exact ⟨rs.length, r, by simp, ht, (kl_inj e).symm⟩
    · rw [has_put_other e] at hs
      obtain ⟨i, q, hi, hq, hk⟩ := h.only s hs
      refine ⟨i, q, ?_, hq, hk⟩
      obtain ⟨hlt, _⟩ := List.getElem?_eq_some_iff.mp hi
      rw [List.getElem?_append_left hlt]; exact hi
  size := by
    rw [size_put h.tidy, hn, live_append, h.size]
    simp [live, ht]
  small := fun q hq => by
    rcases List.mem_append.1 hq with hq | hq
    · exact h.small q hq
    · simp at hq; subst hq; exact hs

theorem live_set_out : ∀ (rs : List Row) (i : Nat) (r : Row), rs[i]? = some r → r.there = true → (live (rs.set i Row.zero)).length + 1 = (live rs).length
  | x :: l, 0, r, h, hr => by simp at h; subst h; simp [live, hr, Row.zero]
  | x :: l, i + 1, r, h, hr => by
    have ih := live_set_out l i r (by simpa using h) hr
    simp only [List.set_cons_succ]
    rw [live_cons, live_cons]
    cases x.there <;> simp <;> omega

theorem Ties.out {D : DataW Unit} {rs : List Row} (h : Ties D rs) {i : Nat} {r : Row} (hi : rs[i]? = some r) (hr : r.there = true) : Ties (D.del (kl r.key)) (rs.set i Row.zero) where
  tidy := h.tidy.del _
  at_ := fun j q hj hq => by
    obtain ⟨hlt, _⟩ := List.getElem?_eq_some_iff.mp hi
    by_cases e : i = j
    · subst e
      rw [List.getElem?_set_self hlt] at hj
      cases hj; simp [Row.zero] at hq
    · rw [List.getElem?_set_ne e] at hj
      have hne : kl q.key ≠ kl r.key := fun e2 => e (h.inj hi hr hj hq (kl_inj e2).symm)
      obtain ⟨h1, h2⟩ := h.at_ j q hj hq
      exact ⟨by rw [has_del_other hne]; exact h1, by rw [atKey_del_other hne]; exact h2⟩
  only := fun s hs => by
    have hne : kl s ≠ kl r.key := fun e => by rw [e, has_del_same] at hs; cases hs
    rw [has_del_other hne] at hs
    obtain ⟨j, q, hj, hq, rfl⟩ := h.only s hs
    refine ⟨j, q, ?_, hq, rfl⟩
    have e : i ≠ j := by
      rintro rfl
      rw [hi] at hj; cases hj; exact hne rfl
    rw [List.getElem?_set_ne e]; exact hj
  size := by
    have h1 := size_del (k := kl r.key) h.tidy
    rw [(h.at_ i r hi hr).1, h.size] at h1
    have h2 := live_set_out rs i r hi hr
    simp only [if_true] at h1
    omega
  small := fun q hq => by
    rcases List.mem_or_eq_of_mem_set hq with hq | rfl
    · exact h.small q hq
    · exact Nat.zero_le _

theorem live_set_cell : ∀ (rs : List Row) (i : Nat) (r : Row) (c : Cell), rs[i]? = some r → (live (rs.set i { r with cell := c })).length = (live rs).length
  | x :: l, 0, r, c, h => by simp at h; subst h; cases hx : x.there <;> simp [live, hx]
  | x :: l, i + 1, r, c, h => by
    have ih := live_set_cell l i r c (by simpa using h)
    simp only [List.set_cons_succ]
    rw [live_cons, live_cons]
    cases x.there <;> simp <;> omega

theorem Ties.store {D : DataW Unit} {rs : List Row} (h : Ties D rs) {i : Nat} {r : Row} (hi : rs[i]? = some r) (c : Cell) : Ties D (rs.set i { r with cell := c }) where
  tidy := h.tidy
  at_ := fun j q hj hq => by
    obtain ⟨hlt, _⟩ := List.getElem?_eq_some_iff.mp hi
    by_cases e : i = j
    · subst e
      rw [List.getElem?_set_self hlt] at hj
      cases hj
      exact h.at_ i r hi hq
    · rw [List.getElem?_set_ne e] at hj
      exact h.at_ j q hj hq
  only := fun s hs => by
    obtain ⟨j, q, hj, hq, rfl⟩ := h.only s hs
    obtain ⟨hlt, _⟩ := List.getElem?_eq_some_iff.mp hi
    by_cases e : i = j
    · subst e
      rw [hi] at hj; cases hj
      exact ⟨i, _, List.getElem?_set_self hlt, hq, rfl⟩
    · exact ⟨j, q, by rw [List.getElem?_set_ne e]; exact hj, hq, rfl⟩
  size := by rw [h.size, live_set_cell rs i r c hi]
  small := fun q hq => by
    rcases List.mem_or_eq_of_mem_set hq with hq | rfl
    · exact h.small q hq
    · exact h.small r (List.mem_of_getElem? hi)

/- Keys stand once. -/
def Once (rs : List Row) : Prop := ∀ (i j : Nat) (r q : Row), rs[i]? = some r → r.there = true → rs[j]? = some q → q.there = true → r.key = q.key → i = j
theorem Ties.once {D : DataW Unit} {rs : List Row} (h : Ties D rs) : Once rs := fun _ _ _ _ hi hr hj hq e => h.inj hi hr hj hq e
theorem Once.tail {x : Row} {l : List Row} (h : Once (x :: l)) : Once l := fun i j r q hi hr hj hq e => by
  have := h (i + 1) (j + 1) r q (by simpa using hi) hr (by simpa using hj) hq e
  omega
theorem Once.head {x : Row} {l : List Row} (h : Once (x :: l)) (hx : x.there = true) : ∀ p ∈ live l, p.1 ≠ x.key := by
  intro p hp e
  obtain ⟨r, hr, ht, rfl⟩ := mem_live.1 hp
  obtain ⟨i, hi⟩ := List.getElem?_of_mem hr
  have := h 0 (i + 1) x r rfl hx (by simpa using hi) ht e.symm
  omega

theorem live_out : ∀ (rs : List Row) (i : Nat) (r : Row), Once rs → rs[i]? = some r → r.there = true → live (rs.set i Row.zero) = delL (live rs) r.key
  | x :: l, 0, r, ho, h, hr => by
    simp at h; subst h
    have hh := ho.head hr
    have e : delL (live l) x.key = live l := List.filter_eq_self.2 fun p hp => by simpa using hh p hp
    simp only [List.set_cons_zero, live_cons, hr, if_true]
    simp only [Row.zero, delL] at e ⊢
    simp [e]
  | x :: l, i + 1, r, ho, h, hr => by
    have ih := live_out l i r ho.tail (by simpa using h) hr
    simp only [List.set_cons_succ, live_cons, ih]
    cases hx : x.there
    · simp
    · have hne : x.key ≠ r.key := fun e => by
        have := ho 0 (i + 1) x r rfl hx (by simpa using h) hr e
        omega
      simp [delL, hne]
theorem mem_hasL {l : List KV} {s : ByteArray} : hasL l s = true ↔ ∃ p ∈ l, p.1 = s := by simp [hasL]
theorem live_has {rs : List Row} {i : Nat} {r : Row} (hi : rs[i]? = some r) (hr : r.there = true) : hasL (live rs) r.key = true :=
  mem_hasL.2 ⟨_, mem_live.2 ⟨r, List.mem_of_getElem? hi, hr, rfl⟩, rfl⟩
theorem map_same {l : List KV} {s : ByteArray} {c : Cell} (h : ∀ p ∈ l, p.1 ≠ s) : l.map (fun p => if p.1 = s then (s, c) else p) = l := by
  induction l with
  | nil => rfl
  | cons x l ih =>
    have h1 := h x (by simp)
    simp [h1, ih fun p hp => h p (by simp [hp])]
theorem live_map : ∀ (rs : List Row) (i : Nat) (r : Row) (c : Cell), Once rs → rs[i]? = some r → r.there = true → live (rs.set i { r with cell := c }) = (live rs).map (fun p => if p.1 = r.key then (r.key, c) else p)
  | x :: l, 0, r, c, ho, h, hr => by
    simp at h; subst h
    have hh := ho.head hr
    simp [live_cons, hr, map_same (c := c) hh]
  | x :: l, i + 1, r, c, ho, h, hr => by
    have ih := live_map l i r c ho.tail (by simpa using h) hr
    simp only [List.set_cons_succ, live_cons, ih]
    cases hx : x.there
    · simp
    · have hne : x.key ≠ r.key := fun e => by
        have := ho 0 (i + 1) x r rfl hx (by simpa using h) hr e
        omega
      simp [hne]
theorem live_set {rs : List Row} {i : Nat} {r : Row} (c : Cell) (ho : Once rs) (hi : rs[i]? = some r) (hr : r.there = true) : live (rs.set i { r with cell := c }) = setL (live rs) r.key c := by
  rw [live_map rs i r c ho hi hr, setL, live_has hi hr]; simp
theorem live_get : ∀ (rs : List Row) (i : Nat) (r : Row), Once rs → rs[i]? = some r → r.there = true → getL (live rs) r.key = some r.cell
  | x :: l, 0, r, ho, h, hr => by
    simp at h; subst h
    simp [live_cons, hr, getL]
  | x :: l, i + 1, r, ho, h, hr => by
    have ih := live_get l i r ho.tail (by simpa using h) hr
    simp only [live_cons]
    cases hx : x.there
    · simpa using ih
    · have hne : x.key ≠ r.key := fun e => by
        have := ho 0 (i + 1) x r rfl hx (by simpa using h) hr e
        omega
      simpa [getL, hne] using ih
end Go.Proofs.Ytlagnklmfanmoaa.Ar
