/-
  From what a row lists of the program's variables to the tables that a run begins with.
-/
import Derived.Test.YtfifgmhlcikjeaaGreatDoorGh
import Derived.Lib.LaidU8
import Derived.DataReads
namespace Go.Ev
open Go.RowKit Go.Lib

/- The cells of a datum of numbers, bools and texts, by its type: alone, in a struct, in an array of these. -/
def litAt : Option TypeDesc → Lit → Option Value
  | some .bool, .bool b => some (.bool b)
  | some (.int k), .int k' n => bif decide (k' = k) then some (.int k n) else none
  | some (.float k), .float k' b => bif decide (k' = k) then some (.float k b) else none
  | some .string, .string l => some (.string ⟨⟨l⟩⟩)
  | _, _ => none
def valLit (P : Program) (t : TypeId) : DataW Unit → Option (List Value)
  | .lit l => match litAt (P.underlying t) l with
    | some v => some [v]
    | none => none
  | _ => none
def valFields (P : Program) : List Field → List (DataW Unit) → Nat → Nat → Option (List Value)
  | [], [], at_, all => bif Nat.beq at_ all then some [] else none
  | f :: fs, d :: ds, at_, all => bif Nat.beq f.offset at_ then match valLit P f.type d with
    | some xs => match valFields P fs ds (at_ + P.cellsOf f.type) all with
      | some ys => some (xs ++ ys)
      | none => none
    | none => none else none
  | _, _, _, _ => none
def valOne (P : Program) (t : TypeId) : DataW Unit → Option (List Value)
  | .agg ds => match P.underlying t with
    | some (.struct fs) => valFields P fs.toList ds 0 (P.cellsOf t)
    | _ => none
  | d => valLit P t d
def valElems (P : Program) (e : TypeId) : List (DataW Unit) → Option (List Value)
  | [] => some []
  | d :: ds => match valOne P e d with
    | some xs => match valElems P e ds with
      | some ys => some (xs ++ ys)
      | none => none
    | none => none
def vals (P : Program) (t : TypeId) (d : DataW Unit) : Option (List Value) :=
  match P.underlying t, d with
  | some (.array k e), .agg ds => bif Nat.beq ds.length k && Nat.beq (P.cellsOf t) (k * P.cellsOf e) then valElems P e ds else none
  | _, d => valOne P t d

variable {P : Program} {w : World} {base : Nat} {sp : Nat → Bool} {held : Bool} {enc : TypeId × Value → Unit}

theorem valLit_ok {fuel : Nat} {t : TypeId} {cs : List Value} {d : DataW Unit} {p : List MemPlace} {xs : List Value} (h : DataW.trod enc P w base sp held fuel t cs = some (d, p)) (hv : valLit P t d = some xs) : cs = xs := by
  unfold valLit at hv
  split at hv
  case h_2 => cases hv
  rename_i l
  split at hv
  case h_2 => cases hv
  rename_i v hl
  cases hv
  unfold litAt at hl
  cases fuel with
  | zero => simp [DataW.trod] at h
  | succ n =>
    split at hl
    · rename_i b ht
      cases hl
      unfold DataW.trod at h
      rw [ht] at h
      split at h <;> simp_all
    · rename_i k k' z ht
      simp only [Bool.cond_eq_ite, decide_eq_true_eq] at hl
      split at hl
      · rename_i hk
        cases hl
        subst hk
        unfold DataW.trod at h
        rw [ht] at h
        split at h <;> simp_all
      · cases hl
    · rename_i k k' z ht
      simp only [Bool.cond_eq_ite, decide_eq_true_eq] at hl
      split at hl
      · rename_i hk
        cases hl
        subst hk
        unfold DataW.trod at h
        rw [ht] at h
        split at h <;> simp_all
      · cases hl
    · rename_i l ht
      cases hl
      obtain ⟨s, rfl, hx, _⟩ := DataW.trod_string ht h
      obtain ⟨⟨s⟩⟩ := s
      simp at hx
      rw [hx.1]
    · cases hl
theorem valFields_ok {n : Nat} {cs : List Value} {all : Nat} (hlen : cs.length = all) : ∀ (fs : List Field) (ds : List (DataW Unit)) (at_ : Nat) (xs : List Value) (rs : List (DataW Unit × List MemPlace)),
    fs.mapM (fun f => DataW.trod enc P w base sp held n f.type ((cs.drop f.offset).take (P.cellsOf f.type))) = some rs → rs.map (·.1) = ds → valFields P fs ds at_ all = some xs → cs.drop at_ = xs
  | [], ds, at_, xs, rs, hm, hd, hv => by
    simp at hm
    subst hm
    simp at hd
    subst hd
    simp only [valFields, Bool.cond_eq_ite] at hv
    split at hv
    · rename_i hb
      have := Nat.eq_of_beq_eq_true hb
      cases hv
      exact List.drop_eq_nil_of_le (by omega)
    · cases hv
  | f :: fs, ds, at_, xs, rs, hm, hd, hv => by
    simp only [List.mapM_cons, Option.bind_eq_bind, Option.bind_eq_some_iff, Option.pure_def, Option.some.injEq] at hm
    obtain ⟨b, hb, r', hr', rfl⟩ := hm
    cases ds with
    | nil => simp at hd
    | cons d ds =>
      simp only [List.map_cons, List.cons.injEq] at hd
      obtain ⟨hd1, hd2⟩ := hd
      simp only [valFields, Bool.cond_eq_ite] at hv
      split at hv
      case isFalse => cases hv
      rename_i ho
      have ho := Nat.eq_of_beq_eq_true ho
      split at hv
      case h_2 => cases hv
      rename_i us hu
      split at hv
      case h_2 => cases hv
      rename_i ys hy
      cases hv
      obtain ⟨b1, b2⟩ := b
      simp only at hd1
      subst hd1
      have h1 := valLit_ok hb hu
      have h2 := valFields_ok hlen fs ds _ ys r' hr' hd2 hy
      rw [← h1, ← h2, ho, ← List.drop_drop, List.take_append_drop]
theorem valOne_ok {fuel : Nat} {t : TypeId} {cs : List Value} {d : DataW Unit} {p : List MemPlace} {xs : List Value} (h : DataW.trod enc P w base sp held fuel t cs = some (d, p)) (hv : valOne P t d = some xs) : cs = xs := by
  unfold valOne at hv
  split at hv
  · rename_i ds
    split at hv
    · rename_i fs ht
      cases fuel with
      | zero => simp [DataW.trod] at h
      | succ n =>
        unfold DataW.trod at h
        rw [ht] at h
        simp only at h
        split at h
        · rename_i hl
          obtain ⟨rs, hm, hx⟩ := Option.map_eq_some_iff.1 h
          have hds : rs.map (·.1) = ds := by
            have := congrArg Prod.fst hx
            simpa using this
          have := valFields_ok hl fs.toList ds 0 xs rs hm hds hv
          simpa using this
        · cases h
    · cases hv
  · exact valLit_ok h hv
theorem valElems_ok {n : Nat} {e : TypeId} {cs : List Value} : ∀ (ds : List (DataW Unit)) (k j : Nat) (xs : List Value), k = ds.length → (∀ i, i < k → ∃ d q, ds[i]? = some d ∧ DataW.trod enc P w base sp held n e ((cs.drop ((j + i) * P.cellsOf e)).take (P.cellsOf e)) = some (d, q)) →
    valElems P e ds = some xs → ((cs.drop (j * P.cellsOf e)).take (k * P.cellsOf e)) = xs
  | [], k, j, xs, hk, _, hv => by
    simp only [List.length_nil] at hk
    subst hk
    simp only [valElems, Option.some.injEq] at hv
    subst hv
    simp
  | d :: ds, k, j, xs, hk, hd, hv => by
    simp only [valElems] at hv
    split at hv
    case h_2 => cases hv
    rename_i us hu
    split at hv
    case h_2 => cases hv
    rename_i ys hy
    cases hv
    obtain ⟨d', q, h1, h2⟩ := hd 0 (by rw [hk]; simp)
    simp only [List.getElem?_cons_zero, Option.some.injEq] at h1
    subst h1
    have e1 := valOne_ok h2 hu
    have e2 := valElems_ok ds ds.length (j + 1) ys rfl (fun i hi => by
      obtain ⟨d', q, h3, h4⟩ := hd (i + 1) (by rw [hk]; simpa using hi)
      exact ⟨d', q, by simpa using h3, by rw [show j + 1 + i = j + (i + 1) by omega]; exact h4⟩) hy
    rw [← e1, ← e2, hk]
    simp only [List.length_cons, Nat.add_zero]
    rw [show (j + 1) * P.cellsOf e = j * P.cellsOf e + P.cellsOf e by rw [Nat.add_mul]; omega, ← List.drop_drop, show (ds.length + 1) * P.cellsOf e = P.cellsOf e + ds.length * P.cellsOf e by rw [Nat.add_mul]; omega, List.take_add]
theorem vals_ok {fuel : Nat} {t : TypeId} {cs : List Value} {d : DataW Unit} {p : List MemPlace} {xs : List Value} (h : DataW.trod enc P w base sp held fuel t cs = some (d, p)) (hv : vals P t d = some xs) : cs = xs := by
  unfold vals at hv
  split at hv
  · rename_i k e ds ht
    simp only [Bool.cond_eq_ite, Bool.and_eq_true, Nat.beq_eq] at hv
    split at hv
    case isFalse => cases hv
    rename_i hb
    obtain ⟨hb1, hb2⟩ := hb
    cases fuel with
    | zero => simp [DataW.trod] at h
    | succ n =>
      unfold DataW.trod at h
      rw [ht] at h
      simp only at h
      split at h
      · rename_i hl
        obtain ⟨rs, hm, hx⟩ := Option.map_eq_some_iff.1 h
        have hds : rs.map (·.1) = ds := by
          have := congrArg Prod.fst hx
          simpa using this
        have key := valElems_ok (P := P) (w := w) (base := base) (sp := sp) (held := held) (enc := enc) (n := n) (e := e) (cs := cs) ds k 0 xs hb1.symm (fun i hi => by
          obtain ⟨b, hb, hf⟩ := mapM_at hm i i (by simp [hi])
          exact ⟨b.1, b.2, by rw [← hds]; simp [hb], by rw [Nat.zero_add]; exact hf⟩) hv
        rw [← key]
        simp only [Nat.zero_mul, List.drop_zero]
        rw [← hb2, ← hl, List.take_length]
      · cases h
  · exact valOne_ok h hv

/- A variable whose cells are these. -/
theorem atFlat {W : World} {name : String} {d : DataW Unit} {g : Nat} {t : TypeId} {xs : List Value} (hr : VarReads P W name d) (hg : P.globalNamed name = some g) (hy : (P.globals[g]?).map (·.type) = some t)
    (hv : vals P t d = some xs) {c0 : Array Value} (hc : W.heap[g]? = some (.cells c0 t)) : AtFlat (old W) W (g, xs, t) := by
  obtain ⟨g', t', cs, fuel, p, q1, q2, q3, q4⟩ := hr
  obtain rfl : g = g' := by rw [hg] at q1; exact Option.some.inj q1
  obtain rfl : t = t' := by rw [hy] at q2; exact Option.some.inj q2
  have e := vals_ok q4 hv
  have hcs : c0 = cs := by
    unfold World.var? at q3
    rw [hg, Option.bind_some, hc] at q3
    exact Option.some.inj q3
  subst hcs
  exact ⟨(Array.getElem?_eq_some_iff.1 hc).1, c0, _, hc, fun i v hi => by rw [← e] at hi; simpa using hi⟩

theorem cells_at {w : World} {a : Addr} {n : Nat} {xs : List Value} (h : w.cells? 0 a n = some xs) : xs.length = n ∧ ∀ i, i < n → w.cell? (a.add i) = xs[i]? := by
  unfold World.cells? at h
  rw [if_pos (Nat.zero_le _)] at h
  exact ⟨by rw [mapM_some_length h]; simp, fun i hi => mapM_some_get h i i (by simp [hi])⟩

/- A variable that leads to a row. -/
theorem atRow {W : World} {name : String} {ds : List (DataW Unit)} {g : Nat} {t e : TypeId} {xs : List Value} (hr : VarReads P W name (.slice ds [])) (hg : P.globalNamed name = some g) (hy : (P.globals[g]?).map (·.type) = some t)
    (ht : P.underlying t = some (.slice e)) (hv : valElems P e ds = some xs) (hlen : Nat.blt 0 ds.length = true) (hone : P.cellsOf e = 1) {c0 : Array Value} (hc : W.heap[g]? = some (.cells c0 t)) :
    AtRow (old W) W ⟨g, t, xs, 1, ds.length⟩ := by
  have hlen : 0 < ds.length := by simpa using hlen
  obtain ⟨g', t', cs, fuel, p, q1, q2, q3, q4⟩ := hr
  obtain rfl : g = g' := by rw [hg] at q1; exact Option.some.inj q1
  obtain rfl : t = t' := by rw [hy] at q2; exact Option.some.inj q2
  have hcs : c0 = cs := by
    unfold World.var? at q3
    rw [hg, Option.bind_some, hc] at q3
    exact Option.some.inj q3
  subst hcs
  rcases DataW.trod_slice ht q4 with ⟨_, hx⟩ | ⟨a, len, cap, elems, rest, n, rfl, hcs, hx, _, hle, _, hl, hel, hsp, _⟩
  · cases hx
  have hx1 := congrArg Prod.fst hx
  simp only [DataW.slice.injEq] at hx1
  obtain ⟨hx1, hx2⟩ := hx1
  have hrest : rest = [] := by simpa using hx2.symm
  obtain ⟨hr1, _⟩ := hsp rfl
  rw [hrest] at hr1
  simp only [List.length_nil] at hr1
  have hcap : cap = len := by omega
  subst hcap
  have hdl : ds.length = cap := by rw [hx1]; simpa using hl
  have hel' : ∀ i, i < cap → ∃ d q c, ds[i]? = some d ∧ W.cells? 0 (a.add (i * P.cellsOf e)) (P.cellsOf e) = some c ∧ DataW.trod (fun _ => ()) P W 0 (fun _ => true) false n e c = some (d, q) := by
    intro i hi
    have h1 := hel i hi
    obtain ⟨b, hb⟩ : ∃ b, elems[i]? = some b := ⟨elems[i]'(by omega), List.getElem?_eq_getElem (by omega)⟩
    rw [hb] at h1
    obtain ⟨c, hc1, hc2⟩ := Option.bind_eq_some_iff.1 h1
    exact ⟨b.1, b.2, c, by rw [hx1]; simp [hb], hc1, hc2⟩
  rw [hone] at hel'
  -- every element is one cell
  have hcell : ∀ i, i < cap → ∃ d q v, ds[i]? = some d ∧ W.cell? (a.add i) = some v ∧ DataW.trod (fun _ => ()) P W 0 (fun _ => true) false n e [v] = some (d, q) := by
    intro i hi
    obtain ⟨d, q, c, h1, h2, h3⟩ := hel' i hi
    obtain ⟨h4, h5⟩ := cells_at h2
    match c, h4 with
    | [v], _ =>
      refine ⟨d, q, v, h1, ?_, h3⟩
      have := h5 0 (by omega)
      simpa [Addr.add] using this
  have hvals : ∀ (l : List (DataW Unit)) (j : Nat) (ys : List Value), (∀ i, i < l.length → ∃ d q v, l[i]? = some d ∧ W.cell? (a.add (j + i)) = some v ∧ DataW.trod (fun _ => ()) P W 0 (fun _ => true) false n e [v] = some (d, q)) →
      valElems P e l = some ys → ∀ (i : Nat) v, ys[i]? = some v → W.cell? (a.add (j + i)) = some v := by
    intro l
    induction l with
    | nil => intro j ys _ hv i v hi; simp only [valElems, Option.some.injEq] at hv; subst hv; simp at hi
    | cons d l ih =>
      intro j ys hl hv i v hi
      simp only [valElems] at hv
      split at hv
      case h_2 => cases hv
      rename_i us hu
      split at hv
      case h_2 => cases hv
      rename_i zs hz
      cases hv
      obtain ⟨d', q, u, h1, h2, h3⟩ := hl 0 (by simp)
      simp only [List.getElem?_cons_zero, Option.some.injEq] at h1
      subst h1
      have e1 := valOne_ok h3 hu
      subst e1
      match i, hi with
      | 0, hi =>
        simp at hi
        subst hi
        exact h2
      | i + 1, hi =>
        have hi' : zs[i]? = some v := by simpa using hi
        have := ih (j + 1) zs (fun i hi => by
          obtain ⟨d', q, u, h4, h5, h6⟩ := hl (i + 1) (by simpa using hi)
          exact ⟨d', q, u, by simpa using h4, by rw [show j + 1 + i = j + (i + 1) by omega]; exact h5, h6⟩) hz i v hi'
        rw [show j + (i + 1) = j + 1 + i by omega]; exact this
  have hall := hvals ds 0 xs (fun i hi => by rw [Nat.zero_add]; exact hcell i (by omega)) hv
  -- the block behind
  obtain ⟨d0, _, v0, _, hv0, _⟩ := hcell 0 (by omega)
  have hspot : a.spot = none ∧ ∃ c e' z, W.heap[a.block]? = some (.cells c e' z) := by
    unfold World.cell? at hv0
    split at hv0
    · rename_i c e' z hb
      refine ⟨?_, c, e', z, by simpa [Addr.add] using hb⟩
      split at hv0
      · cases hv0
      · rename_i hs
        simpa [Addr.add] using hs
    · cases hv0
  obtain ⟨hspot, c, e', z, hb⟩ := hspot
  refine ⟨a.block, a.off, e', (Array.getElem?_eq_some_iff.1 hc).1, (Array.getElem?_eq_some_iff.1 hb).1, ⟨c0, _, hc, ?_⟩, c, z, hb, ?_⟩
  · have : c0[0]? = (c0.toList)[0]? := by simp
    rw [this, hcs]
    simp only [List.getElem?_cons_zero]
    rw [hdl]
    obtain ⟨ab, ao, asp⟩ := a
    simp only at hspot
    subst hspot
    rfl
  · intro i v hi
    have := hall i v hi
    rw [Nat.zero_add] at this
    obtain ⟨ab, ao, asp⟩ := a
    simp only at hspot hb
    subst hspot
    have e : Addr.add ⟨ab, ao, none⟩ i = ⟨ab, ao + i, none⟩ := by
      unfold Addr.add
      split
      · rename_i h0; rw [h0]; rfl
      · rfl
    rw [e] at this
    unfold World.cell? at this
    simp only [hb, Option.isSome_none, Bool.false_eq_true, if_false] at this
    exact this

end Go.Ev
