/-
  The evaluator's memory, and how it stands to a world.
-/
import Derived.Test.YtmoglfooadcemaaEvA
import Derived.Laws.CopyRow
import Derived.Laws.IdiomCopy
namespace Go.Ev
open Go.RowKit

structure VB where
  cells : List Value
  elem : TypeId
  esz : Nat
  fam : Nat
  rw : Bool
  grow : Bool
  whole : Bool
  tail : Bool
/- Maps and iterators over texts. -/
inductive VO where
  | map (es : List (Value × Value × Nat)) (clock : Nat)
  | iter (s : ByteArray) (pos : Nat)
structure VOb where
  o : VO
  rw : Bool
/- A call that was put off. -/
structure VD where
  g : FuncId
  cap : List Value
  args : List Value
structure VS where
  heap : List (Nat × VB)
  next : Nat
  ng : Nat
  objs : List (Nat × VOb)
  dfr : List VD

def find : List (Nat × VB) → Nat → Option VB
  | [], _ => none
  | (i, b) :: l, a => bif Nat.beq i a then some b else find l a
def upd (l : List (Nat × VB)) (id fam : Nat) (B : VB) : List (Nat × VB) :=
  match l with
  | [] => []
  | (i, b) :: r => bif Nat.beq i id then (i, B) :: upd r id fam B else bif Nat.beq b.fam fam then upd r id fam B else (i, b) :: upd r id fam B

theorem find_mem : ∀ {l : List (Nat × VB)} {a : Nat} {b : VB}, find l a = some b → (a, b) ∈ l
  | (i, c) :: l, a, b, h => by
    simp only [find, Bool.cond_eq_ite] at h
    split at h
    · rename_i hi
      have := Nat.eq_of_beq_eq_true hi
      cases h; subst this; simp
    · exact List.mem_cons_of_mem _ (find_mem h)
theorem upd_mem : ∀ {l : List (Nat × VB)} {id fam : Nat} {B : VB} {a : Nat} {b : VB}, (a, b) ∈ upd l id fam B → (a = id ∧ b = B) ∨ (a ≠ id ∧ (a, b) ∈ l ∧ b.fam ≠ fam)
  | (i, c) :: l, id, fam, B, a, b, h => by
    simp only [upd, Bool.cond_eq_ite] at h
    split at h
    · rename_i hi
      have := Nat.eq_of_beq_eq_true hi
      rcases List.mem_cons.1 h with h | h
      · cases h; exact .inl ⟨this, rfl⟩
      · rcases upd_mem h with h | ⟨h1, h2, h3⟩
        · exact .inl h
        · exact .inr ⟨h1, List.mem_cons_of_mem _ h2, h3⟩
    · rename_i hi
      split at h
      · rcases upd_mem h with h | ⟨h1, h2, h3⟩
        · exact .inl h
        · exact .inr ⟨h1, List.mem_cons_of_mem _ h2, h3⟩
      · rename_i hf
        rcases List.mem_cons.1 h with h | h
        · cases h
          refine .inr ⟨fun e => hi (by rw [e]; exact Nat.beq_refl _), by simp, fun e => hf (by rw [e]; exact Nat.beq_refl _)⟩
        · rcases upd_mem h with h | ⟨h1, h2, h3⟩
          · exact .inl h
          · exact .inr ⟨h1, List.mem_cons_of_mem _ h2, h3⟩

/- These blocks are as they were. -/
structure Kept (S : Nat → Prop) (w w' : World) : Prop where
  os : w'.os = w.os
  tape : w'.tape = w.tape
  output : w'.output = w.output
  size : w.heap.size ≤ w'.heap.size
  block : ∀ k, S k → w'.heap[k]? = w.heap[k]?
theorem Kept.refl (S : Nat → Prop) (w : World) : Kept S w w := ⟨rfl, rfl, rfl, Nat.le_refl _, fun _ _ => rfl⟩
theorem Kept.trans {S : Nat → Prop} {a b c : World} (h : Kept S a b) (k : Kept S b c) : Kept S a c :=
  ⟨k.os.trans h.os, k.tape.trans h.tape, k.output.trans h.output, Nat.le_trans h.size k.size, fun i hi => (k.block i hi).trans (h.block i hi)⟩
theorem Kept.mono {S S' : Nat → Prop} {a b : World} (h : Kept S a b) (hs : ∀ k, S' k → S k) : Kept S' a b := ⟨h.os, h.tape, h.output, h.size, fun k hk => h.block k (hs k hk)⟩
theorem Kept.below {n : Nat} {a b : World} (h : Kept (fun k => k < n) a b) : Below n a b := ⟨h.os, h.tape, h.output, h.size, h.block⟩
theorem Kept.of_below {n : Nat} {a b : World} (h : Below n a b) : Kept (fun k => k < n) a b := ⟨h.os, h.tape, h.output, h.size, h.block⟩
def old (w : World) : Nat → Prop := fun k => k < w.heap.size
theorem Kept.new (w : World) (o : Obj) : Kept (old w) w (w.alloc o) := .of_below ((Below.refl _ _).alloc (Nat.le_refl _) o)

/- A block of the evaluator in the world. -/
structure Lies (N0 : Nat → Prop) (W : World) (μ : Mu) (B : VB) (l : Loc) (c : Array Value) (z : Nat × Nat) : Prop where
  at_ : W.heap[l.blk]? = some (.cells c B.elem z)
  own : B.rw = true → (z.2 ≤ z.1 ∨ c.size ≤ z.1) ∧ ¬ N0 l.blk
  len : l.len = B.cells.length
  esz : l.esz = B.esz
  room : l.off + l.len + l.extra * l.esz ≤ c.size
  fixed : B.grow = false → l.extra = 0
  whole : B.whole = true → l.off = 0 ∧ c.size = B.cells.length
  tail : B.tail = true → z.2 ≤ l.off + l.len ∧ ¬ N0 l.blk
  cells : ∀ (i : Nat) v, B.cells[i]? = some v → ∃ v', c[l.off + i]? = some v' ∧ R μ v v'

def RE (μ : Mu) : List (Value × Value × Nat) → List MapEntry → Prop
  | [], [] => True
  | (k, v, b) :: l, e :: l' => (e.key = k ∧ R μ v e.val ∧ e.born = b) ∧ RE μ l l'
  | _, _ => False
theorem RE.mono {μ ν : Mu} (hl : μ.le ν) : ∀ {l : List (Value × Value × Nat)} {l' : List MapEntry}, RE μ l l' → RE ν l l'
  | [], [], h => h
  | (_, _, _) :: _, _ :: _, h => ⟨⟨h.1.1, h.1.2.1.mono hl, h.1.2.2⟩, RE.mono hl h.2⟩
  | [], _ :: _, h => h.elim
  | (_, _, _) :: _, [], h => h.elim
def RO (μ : Mu) : VO → Obj → Prop
  | .map es c, .map es' c' => c' = c ∧ RE μ es es'.toList
  | .iter s p, .stringIter s' p' => s' = s ∧ p' = p
  | _, _ => False
theorem RO.mono {μ ν : Mu} (hl : μ.le ν) : ∀ {v : VO} {o : Obj}, RO μ v o → RO ν v o
  | .map _ _, .map _ _, h => ⟨h.1, h.2.mono hl⟩
  | .iter _ _, .stringIter _ _, h => h
def notCells : Obj → Bool
  | .cells _ _ _ => false
  | _ => true
theorem RO.nc {μ : Mu} : ∀ {v : VO} {o : Obj}, RO μ v o → notCells o = true
  | .map _ _, .map _ _, _ => rfl
  | .iter _ _, .stringIter _ _, _ => rfl
structure OG (N0 : Nat → Prop) (W : World) (objs : List (Nat × VOb)) (μ : Mu) : Prop where
  at_ : ∀ id O, (id, O) ∈ objs → ∃ l o, μ id = some l ∧ W.heap[l.blk]? = some o ∧ RO μ O.o o ∧ (O.rw = true → ¬ N0 l.blk) ∧ l.off = 0
  apart : ∀ id O id' O', (id, O) ∈ objs → (id', O') ∈ objs → id ≠ id' → ∀ l l', μ id = some l → μ id' = some l' → l.blk ≠ l'.blk
theorem OG.keep {N0 : Nat → Prop} {W W1 : World} {objs : List (Nat × VOb)} {μ : Mu} (h : OG N0 W objs μ) (hk : ∀ (b : Nat) (o : Obj), W.heap[b]? = some o → notCells o = true → W1.heap[b]? = some o) : OG N0 W1 objs μ :=
  ⟨fun id O hm => let ⟨l, o, h1, h2, h3, h4⟩ := h.at_ id O hm; ⟨l, o, h1, hk _ _ h2 h3.nc, h3, h4⟩, h.apart⟩
theorem OG.up {N0 : Nat → Prop} {W : World} {objs : List (Nat × VOb)} {μ ν : Mu} (h : OG N0 W objs μ) (hl : μ.le ν) : OG N0 W objs ν := by
  refine ⟨fun id O hm => let ⟨l, o, h1, h2, h3, h4⟩ := h.at_ id O hm; ⟨l, o, hl _ _ h1, h2, h3.mono hl, h4⟩, fun id O id' O' hm hm' hne l l' e e' => ?_⟩
  obtain ⟨m, _, h1, _⟩ := h.at_ id O hm
  obtain ⟨m', _, h1', _⟩ := h.at_ id' O' hm'
  rw [hl _ _ h1] at e; rw [hl _ _ h1'] at e'; cases e; cases e'
  exact h.apart id O id' O' hm hm' hne _ _ h1 h1'

structure G (N0 : Nat → Prop) (W0 : World) (vs : VS) (W : World) (μ : Mu) : Prop where
  below : Kept N0 W0 W
  start : ∀ k, N0 k → k < W.heap.size
  fresh : ∀ a, vs.next ≤ a → μ a = none
  globs : ∀ g l, μ g = some l → l.blk < W.heap.size
  glo : ∀ g, g < vs.ng → ∃ l, μ g = some l ∧ l.blk = g ∧ l.off = 0
  blocks : ∀ id B, (id, B) ∈ vs.heap → ∃ l c z, μ id = some l ∧ Lies N0 W μ B l c z
  apart : ∀ id B id' B', (id, B) ∈ vs.heap → (id', B') ∈ vs.heap → B.fam ≠ B'.fam → ∀ l l', μ id = some l → μ id' = some l' → l.blk ≠ l'.blk
  objs : OG N0 W vs.objs μ

theorem Lies.mono {N0 : Nat → Prop} {W : World} {μ ν : Mu} (hl : μ.le ν) {B : VB} {l : Loc} {c : Array Value} {z : Nat × Nat} (h : Lies N0 W μ B l c z) : Lies N0 W ν B l c z :=
  ⟨h.at_, h.own, h.len, h.esz, h.room, h.fixed, h.whole, h.tail, fun i v hv => let ⟨v', h1, h2⟩ := h.cells i v hv; ⟨v', h1, h2.mono hl⟩⟩

variable {N0 : Nat → Prop} {W0 W : World} {vs : VS} {μ : Mu} {P : Program}

theorem G.drawn (h : G N0 W0 vs W μ) (n : Nat) : G N0 W0 vs { W with drawn := n } μ :=
  ⟨⟨h.below.os, h.below.tape, h.below.output, h.below.size, h.below.block⟩, h.start, h.fresh, h.globs, h.glo,
   fun id B hm => let ⟨l, c, z, h1, h2⟩ := h.blocks id B hm; ⟨l, c, z, h1, ⟨h2.at_, h2.own, h2.len, h2.esz, h2.room, h2.fixed, h2.whole, h2.tail, h2.cells⟩⟩, h.apart, h.objs.keep fun _ _ e _ => e⟩

/- Reading. -/
def takeX : Nat → List Value → Option (List Value)
  | 0, _ => some []
  | _ + 1, [] => none
  | n + 1, x :: l => match takeX n l with
    | some r => some (x :: r)
    | none => none
def dropX : Nat → List Value → List Value
  | 0, l => l
  | _ + 1, [] => []
  | n + 1, _ :: l => dropX n l
theorem takeX_spec : ∀ (n : Nat) (l xs : List Value), takeX n l = some xs → xs = l.take n ∧ n ≤ l.length
  | 0, l, xs, h => by simp only [takeX] at h; cases h; simp
  | n + 1, [], xs, h => by simp only [takeX] at h; cases h
  | n + 1, x :: l, xs, h => by
    simp only [takeX] at h
    split at h
    · rename_i r hr; cases h; obtain ⟨rfl, h2⟩ := takeX_spec n l r hr; simpa using h2
    · cases h
theorem dropX_eq : ∀ (n : Nat) (l : List Value), dropX n l = l.drop n
  | 0, l => rfl
  | n + 1, [] => by simp [dropX]
  | n + 1, _ :: l => by simp [dropX, dropX_eq n l]
def vread (vs : VS) (a : Addr) (n : Nat) : Option (List Value) :=
  match find vs.heap a.block with
  | some B => bif a.spot.isNone then takeX n (dropX a.off B.cells) else none
  | none => none

theorem RA_of_lists {μ : Mu} {xs ys : List Value} (hl : xs.length = ys.length) (h : ∀ (i : Nat) x y, xs[i]? = some x → ys[i]? = some y → R μ x y) : RA μ xs.toArray ys.toArray :=
  ⟨by simpa using hl, fun i x y hx hy => h i x y (by simpa using hx) (by simpa using hy)⟩

theorem amap_add (l : Loc) (a : Addr) (n : Nat) : (amap l a).add n = amap l (a.add n) := by
  unfold Addr.add amap; split <;> simp [Nat.add_assoc]

theorem G.read (h : G N0 W0 vs W μ) {a : Addr} {n : Nat} {xs : List Value} (hr : vread vs a n = some xs) {l : Loc} (hl : μ a.block = some l) :
    ∃ ys : List Value, xs.length = n ∧ ys.length = n ∧ (∀ (j : Nat) v, ys[j]? = some v → W.cell? ((amap l a).add j) = some v) ∧ RA μ xs.toArray ys.toArray := by
  unfold vread at hr
  cases hf : find vs.heap a.block with
  | none => rw [hf] at hr; cases hr
  | some B =>
    rw [hf] at hr
    simp only [Bool.cond_eq_ite] at hr
    split at hr
    · rename_i hc
      simp only [Option.isNone_iff_eq_none] at hc
      obtain ⟨rfl, hn⟩ := takeX_spec _ _ _ hr
      rw [dropX_eq] at hn ⊢
      simp only [List.length_drop] at hn
      obtain ⟨l', c, z, hm, L⟩ := h.blocks _ _ (find_mem hf)
      rw [hl] at hm; cases hm
      have hcl : ∀ i, i < n → ∃ v v', B.cells[a.off + i]? = some v ∧ c[l.off + (a.off + i)]? = some v' ∧ R μ v v' := fun i hi => by
        have hlt : a.off + i < B.cells.length := by omega
        obtain ⟨v', h1, h2⟩ := L.cells (a.off + i) B.cells[a.off + i] (List.getElem?_eq_getElem hlt)
        exact ⟨_, v', List.getElem?_eq_getElem hlt, h1, h2⟩
      refine ⟨(List.range n).map fun i => (c[l.off + (a.off + i)]?).getD undef, by simp; omega, by simp, ?_, ?_⟩
      · intro j v hj
        have hjn : j < n := by
          have := (List.getElem?_eq_some_iff.1 hj).1; simpa using this
        simp [hjn] at hj
        obtain ⟨u, v', _, h1, _⟩ := hcl j hjn
        rw [h1] at hj
        simp at hj
        subst hj
        have hs : (amap l a).add j = ⟨l.blk, l.off + (a.off + j), none⟩ := by
          unfold Addr.add amap; split <;> simp_all [Nat.add_assoc]
        rw [hs]
        simp [World.cell?, L.at_, h1]
      · refine RA_of_lists (by simp; omega) ?_
        intro i x y hx hy
        have hin : i < n := by
          have := (List.getElem?_eq_some_iff.1 hy).1; simpa using this
        obtain ⟨u, v', h0, h1, h2⟩ := hcl i hin
        simp [hin, h1] at hy
        simp [hin, List.getElem?_drop, h0] at hx
        subst hx; subst hy; exact h2
    · cases hr

theorem G.run_load (h : G N0 W0 vs W μ) {a : Addr} {n : Nat} {xs : List Value} (hr : vread vs a n = some xs) {l : Loc} (hl : μ a.block = some l) :
    ∃ ys : Array Value, (loadCells (amap l a) n).run P W = .ok ys W ∧ RA μ xs.toArray ys := by
  obtain ⟨ys, h1, h2, h3, h4⟩ := h.read hr hl
  have := run_loadCells_list (P := P) W (amap l a) ys h3
  rw [h2] at this
  exact ⟨_, this, h4⟩


theorem splice_get {c : List Value} {p : Nat} {ys : List Value} (hp : p + ys.length ≤ c.length) (k : Nat) : (c.take p ++ ys ++ c.drop (p + ys.length))[k]? = if k < p then c[k]? else if k < p + ys.length then ys[k - p]? else c[k]? := by
  have hm : min p c.length = p := by omega
  split
  · rename_i h
    rw [List.getElem?_append_left (by simp; omega), List.getElem?_append_left (by simp; omega), List.getElem?_take_of_lt h]
  · rename_i h
    split
    · rename_i h2
      rw [List.getElem?_append_left (by simp; omega), List.getElem?_append_right (by simp; omega)]
      simp [hm]
    · rename_i h2
      rw [List.getElem?_append_right (by simp; omega), List.getElem?_drop]
      congr 1
      simp; omega

theorem setCells_row (g : Nat) (t : TypeId) (z : Nat × Nat) (vs : List Value) : ∀ (k : Nat) (cur : Array Value) (w : World), w.heap[g]? = some (.cells cur t z) → k + vs.length ≤ cur.size →
    w.setCells g k vs = w.setRow g (cur.toList.take k ++ vs ++ cur.toList.drop (k + vs.length)).toArray := by
  induction vs with
  | nil =>
    intro k cur w hg _
    have e : (cur.toList.take k ++ [] ++ cur.toList.drop (k + 0)).toArray = cur := by simp
    rw [List.length_nil, e, setRow_self w g cur t z hg]
    rfl
  | cons v r ih =>
    intro k cur w hg hk
    simp only [List.length_cons] at hk
    show (w.setCell ⟨g, k, none⟩ v).setCells g (k + 1) r = _
    rw [setCell_eq_setRow w g k cur t z v hg, ih (k + 1) (cur.setIfInBounds k v) _ (setRow_heap w g cur _ t z hg) (by simp; omega), setRow_setRow]
    congr 1
    apply Array.ext_getElem?
    intro m
    rw [List.getElem?_toArray, List.getElem?_toArray, splice_get (by simp; omega), splice_get (by simp; omega)]
    simp only [Array.toList_setIfInBounds, List.getElem?_set, List.length_cons]
    by_cases h1 : m < k
    · rw [if_pos (by omega), if_neg (by omega), if_pos h1]
    · by_cases h2 : m = k
      · subst h2
        have : m < cur.size := by omega
        simp [this]
      · have a1 : ¬ m < k + 1 := by omega
        have a2 : ¬ k = m := by omega
        by_cases h3 : m < k + 1 + r.length
        · have a3 : m < k + (r.length + 1) := by omega
          have a4 : m - k = (m - (k + 1)) + 1 := by omega
          simp only [if_neg a1, if_neg h1, if_pos h3, if_pos a3]
          rw [a4, List.getElem?_cons_succ]
        · have a3 : ¬ m < k + (r.length + 1) := by omega
          simp only [if_neg a1, if_neg h1, if_neg h3, if_neg a3, if_neg a2]
theorem run_storeCells_z (g o : Nat) (t : TypeId) (z : Nat × Nat) (vs : List Value) (cur : Array Value) (w : World) (hg : w.heap[g]? = some (.cells cur t z)) (hz : z.2 ≤ z.1 ∨ cur.size ≤ z.1 ∨ z.2 ≤ o) (hl : o + vs.length ≤ cur.size) (h1 : ∀ v ∈ vs, v.oneCell' = true) :
    (storeCells ⟨g, o, none⟩ vs).run P w = .ok () (w.setRow g (cur.toList.take o ++ vs ++ cur.toList.drop (o + vs.length)).toArray) := by
  have hc : ∀ j, j < vs.length → (w.cell? ⟨g, o + 0 + j, none⟩).isSome = true := fun j hj => by
    have : o + j < cur.size := by omega
    simp [World.cell?, hg, this]
  have hf : ∀ j, j < vs.length → w.frozen? ⟨g, o + 0 + j, none⟩ = false := fun j hj => by
    simp only [World.frozen?, hg, Bool.and_eq_false_iff, decide_eq_false_iff_not]
    omega
  rw [run_storeCells_cells g o vs 0 w hc hf h1, Nat.add_zero, setCells_row g t z vs o cur w hg hl]

theorem R.one {v v' : Value} (h : R μ v v') : v'.oneCell' = v.oneCell' := by cases h <;> rfl

/- Writing: what may lie over the block goes. -/
def vwrite (vs : VS) (a : Addr) (xs : List Value) : Option VS :=
  match find vs.heap a.block with
  | some B => bif B.rw && a.spot.isNone && Nat.ble (a.off + xs.length) B.cells.length && xs.all Value.oneCell' then
      some { vs with heap := upd vs.heap a.block B.fam { B with cells := B.cells.take a.off ++ (xs ++ B.cells.drop (a.off + xs.length)) } } else none
  | none => none

theorem G.write (h : G N0 W0 vs W μ) {a : Addr} {xs ys : List Value} {vs1 : VS} (hw : vwrite vs a xs = some vs1) {l : Loc} (hl : μ a.block = some l) (hxy : RA μ xs.toArray ys.toArray) :
    ∃ W1, (storeCells (amap l a) ys).run P W = .ok () W1 ∧ G N0 W0 vs1 W1 μ := by
  unfold vwrite at hw
  cases hf : find vs.heap a.block with
  | none => rw [hf] at hw; cases hw
  | some B =>
    rw [hf] at hw
    simp only [Bool.cond_eq_ite] at hw
    split at hw
    case isFalse => cases hw
    rename_i hc
    simp only [Bool.and_eq_true, Option.isNone_iff_eq_none, Nat.ble_eq, List.all_eq_true] at hc
    obtain ⟨⟨⟨hrw, hsp⟩, hlen⟩, hone⟩ := hc
    cases hw
    have hmem := find_mem hf
    obtain ⟨l', c, z, hm, L⟩ := h.blocks _ _ hmem
    rw [hl] at hm; cases hm
    obtain ⟨hz, hN⟩ := L.own hrw
    have hyl : ys.length = xs.length := by simpa using hxy.1.symm
    have hxy' : ∀ (i : Nat) x y, xs[i]? = some x → ys[i]? = some y → R μ x y := fun i x y hx hy => hxy.2 i x y (by simpa using hx) (by simpa using hy)
    have hlen2 := L.len
    have hroom := L.room
    have hrun := run_storeCells_z (P := P) l.blk (l.off + a.off) B.elem z ys c W L.at_ (hz.imp id .inl) (by rw [hyl]; omega) (fun v hv => by
      obtain ⟨i, hi, he⟩ := List.mem_iff_getElem.1 hv
      have hR := hxy' i (xs[i]'(by omega)) v (List.getElem?_eq_getElem _) (by rw [← he]; exact List.getElem?_eq_getElem _)
      rw [hR.one]
      exact hone _ (by simp))
    have ha : amap l a = ⟨l.blk, l.off + a.off, none⟩ := by simp [amap, hsp]
    rw [ha]
    refine ⟨_, hrun, ?_⟩
    have hother : ∀ k, k ≠ l.blk → (W.setRow l.blk (c.toList.take (l.off + a.off) ++ ys ++ c.toList.drop (l.off + a.off + ys.length)).toArray).heap[k]? = W.heap[k]? := fun k hk => setRow_other _ _ _ _ hk
    have hsame := setRow_heap W l.blk c (c.toList.take (l.off + a.off) ++ ys ++ c.toList.drop (l.off + a.off + ys.length)).toArray B.elem z L.at_
    refine ⟨?_, by simpa using h.start, h.fresh, fun g l h0 => by simpa using h.globs g l h0, h.glo, ?_, ?_, h.objs.keep fun b o e hn => ?_⟩
    · exact h.below.trans ⟨rfl, rfl, rfl, by simp, fun k hk => hother k fun e => hN (e ▸ hk)⟩
    · intro id B' hin
      rcases upd_mem hin with ⟨rfl, rfl⟩ | ⟨hne, hin', hfam⟩
      · refine ⟨l, _, z, hl, ⟨hsame, fun _ => ⟨?_, hN⟩, ?_, L.esz, ?_, L.fixed, fun x => ⟨(L.whole x).1, ?_⟩, fun x => ⟨(L.tail x).1, hN⟩, ?_⟩⟩
        · refine hz.imp id fun h => ?_
          simp; omega
        · simp; omega
        · simp; omega
        · have := (L.whole x).2
          simp; omega
        · intro i v hv
          by_cases h1 : i < a.off
          · rw [List.getElem?_append_left (by simp; omega)] at hv
            rw [List.getElem?_take_of_lt h1] at hv
            obtain ⟨v', e1, e2⟩ := L.cells i v hv
            refine ⟨v', ?_, e2⟩
            rw [← e1]
            simp [List.getElem?_append, List.getElem?_take]
            rw [if_pos (by omega), if_pos (by omega)]
          · rw [List.getElem?_append_right (by simp; omega)] at hv
            have ht : (List.take a.off B.cells).length = a.off := by simp; omega
            rw [ht] at hv
            by_cases h2 : i - a.off < xs.length
            · rw [List.getElem?_append_left h2] at hv
              have hy : i - a.off < ys.length := by omega
              refine ⟨ys[i - a.off], ?_, hxy' _ _ _ hv (by simp)⟩
              have e : l.off + i - (l.off + a.off) = i - a.off := by omega
              have hmin : min (l.off + a.off) c.size = l.off + a.off := by omega
              simp [List.getElem?_append, hmin, e, hy]
              omega
            · rw [List.getElem?_append_right (by omega), List.getElem?_drop] at hv
              have e0 : a.off + xs.length + (i - a.off - xs.length) = i := by omega
              rw [e0] at hv
              obtain ⟨v', e1, e2⟩ := L.cells i v hv
              refine ⟨v', ?_, e2⟩
              rw [← e1]
              have hmin : min (l.off + a.off) c.size = l.off + a.off := by omega
              have e4 : ¬ l.off + i < l.off + a.off := by omega
              have e5 : ¬ l.off + i - (l.off + a.off) < ys.length := by omega
              simp only [List.getElem?_toArray, List.append_assoc, List.getElem?_append, List.length_take, Array.length_toList, hmin, if_neg e4, if_neg e5, List.getElem?_drop]
              rw [Array.getElem?_toList]
              congr 1
              omega
      · obtain ⟨l', c', z', hm', L'⟩ := h.blocks _ _ hin'
        have hb : l'.blk ≠ l.blk := fun e => h.apart _ _ _ _ hin' hmem hfam _ _ hm' hl e
        exact ⟨l', c', z', hm', ⟨by rw [hother _ hb]; exact L'.at_, L'.own, L'.len, L'.esz, L'.room, L'.fixed, L'.whole, L'.tail, L'.cells⟩⟩
    · intro id B1 id' B2 h1 h2 hfam l1 l2 e1 e2
      rcases upd_mem h1 with ⟨rfl, rfl⟩ | ⟨_, h1', _⟩ <;> rcases upd_mem h2 with ⟨rfl, rfl⟩ | ⟨_, h2', _⟩
      · exact absurd rfl hfam
      · exact h.apart _ _ _ _ hmem h2' hfam _ _ e1 e2
      · exact h.apart _ _ _ _ h1' hmem hfam _ _ e1 e2
      · exact h.apart _ _ _ _ h1' h2' hfam _ _ e1 e2
    · by_cases hb : b = l.blk
      · rw [hb, L.at_] at e; cases e; cases hn
      · rw [hother _ hb]; exact e


/- A world that has more blocks. -/
theorem G.world (h : G N0 W0 vs W μ) {W1 : World} (hb : Kept (old W) W W1) : G N0 W0 vs W1 μ := by
  have hlt : ∀ id B, (id, B) ∈ vs.heap → ∀ l, μ id = some l → W1.heap[l.blk]? = W.heap[l.blk]? := fun id B hm l hl => by
    obtain ⟨l', c, z, h1, L⟩ := h.blocks id B hm
    rw [hl] at h1; cases h1
    exact hb.block _ (Array.getElem?_eq_some_iff.1 L.at_).1
  refine ⟨h.below.trans (hb.mono h.start), fun k hk => Nat.lt_of_lt_of_le (h.start k hk) hb.size, h.fresh, fun g l h0 => Nat.lt_of_lt_of_le (h.globs g l h0) hb.size, h.glo, ?_, h.apart, h.objs.keep fun b o e _ => by rw [hb.block _ (Array.getElem?_eq_some_iff.1 e).1]; exact e⟩
  intro id B hm
  obtain ⟨l, c, z, h1, L⟩ := h.blocks id B hm
  exact ⟨l, c, z, h1, ⟨by rw [hlt id B hm l h1]; exact L.at_, L.own, L.len, L.esz, L.room, L.fixed, L.whole, L.tail, L.cells⟩⟩

def Mu.put (μ : Mu) (a : Nat) (l : Loc) : Mu := fun i => if i = a then some l else μ i
theorem Mu.put_self (μ : Mu) (a : Nat) (l : Loc) : μ.put a l a = some l := by simp [Mu.put]
theorem Mu.put_le {μ : Mu} {a : Nat} (h : μ a = none) (l : Loc) : μ.le (μ.put a l) := fun i m hi => by
  unfold Mu.put; split
  · rename_i e; rw [e, h] at hi; cases hi
  · exact hi

def VS.add (vs : VS) (B : VB) : VS := { heap := (vs.next, B) :: vs.heap, next := vs.next + 1, ng := vs.ng, objs := vs.objs, dfr := vs.dfr }

/- One more block of the evaluator. -/
theorem G.add (h : G N0 W0 vs W μ) {B : VB} {l : Loc} {c : Array Value} {z : Nat × Nat} (hL : Lies N0 W (μ.put vs.next l) B l c z)
    (hap : ∀ id' B', (id', B') ∈ vs.heap → B'.fam ≠ B.fam → ∀ l', μ id' = some l' → l'.blk ≠ l.blk) : G N0 W0 (vs.add B) W (μ.put vs.next l) := by
  have hn : μ vs.next = none := h.fresh _ (Nat.le_refl _)
  have hle : μ.le (μ.put vs.next l) := Mu.put_le hn l
  have hold : ∀ id B', (id, B') ∈ vs.heap → id ≠ vs.next := fun id B' hm e => by
    obtain ⟨l', _, _, h1, _⟩ := h.blocks id B' hm
    rw [e, hn] at h1; cases h1
  have hput : ∀ id B', (id, B') ∈ vs.heap → ∀ l', (μ.put vs.next l) id = some l' → μ id = some l' := fun id B' hm l' hl => by
    simpa [Mu.put, hold id B' hm] using hl
  refine ⟨h.below, h.start, ?_, ?_, fun g hg => let ⟨m, h1, h2⟩ := h.glo g hg; ⟨m, hle _ _ h1, h2⟩, ?_, ?_, h.objs.up hle⟩
  · intro a ha
    simp only [VS.add] at ha
    have : a ≠ vs.next := by omega
    simp [Mu.put, this, h.fresh a (by omega)]
  · intro g m hg
    unfold Mu.put at hg
    split at hg
    · cases hg; exact (Array.getElem?_eq_some_iff.1 hL.at_).1
    · exact h.globs _ _ hg
  · intro id B' hm
    rcases List.mem_cons.1 hm with e | hm
    · cases e; exact ⟨l, c, z, Mu.put_self _ _ _, hL⟩
    · obtain ⟨l', c', z', h1, L⟩ := h.blocks id B' hm
      exact ⟨l', c', z', hle _ _ h1, L.mono hle⟩
  · intro id B1 id' B2 h1 h2 hfam l1 l2 e1 e2
    rcases List.mem_cons.1 h1 with e | h1 <;> rcases List.mem_cons.1 h2 with e' | h2
    · cases e; cases e'; exact absurd rfl hfam
    · cases e
      rw [Mu.put_self] at e1; cases e1
      exact (hap _ _ h2 (Ne.symm hfam) _ (hput _ _ h2 _ e2)).symm
    · cases e'
      rw [Mu.put_self] at e2; cases e2
      exact hap _ _ h1 hfam _ (hput _ _ h1 _ e1)
    · exact h.apart _ _ _ _ h1 h2 hfam _ _ (hput _ _ h1 _ e1) (hput _ _ h2 _ e2)

/- A new row of cells, perhaps with more room behind. -/
theorem G.alloc (h : G N0 W0 vs W μ) {xs : List Value} {ys rest : Array Value} {elem : TypeId} {esz extra fam : Nat} {rw grow whole tail : Bool} (hxy : RA μ xs.toArray ys) (hroom : extra * esz ≤ rest.size) (hfix : grow = false → extra = 0) (hwh : whole = true → rest.size = 0) :
    G N0 W0 (vs.add ⟨xs, elem, esz, fam, rw, grow, whole, tail⟩) (W.alloc (.cells (ys ++ rest) elem)) (μ.put vs.next ⟨W.heap.size, 0, extra, esz, xs.length⟩) := by
  have hle := Mu.put_le (h.fresh vs.next (Nat.le_refl _)) ⟨W.heap.size, 0, extra, esz, xs.length⟩
  have h1 : G N0 W0 vs (W.alloc (.cells (ys ++ rest) elem)) μ := h.world (Kept.new _ _)
  have hs : xs.length = ys.size := by simpa using hxy.1
  refine h1.add (c := ys ++ rest) (z := (0, 0)) ⟨?_, fun _ => ⟨.inl (Nat.le_refl _), fun hk => Nat.lt_irrefl _ (h.start _ hk)⟩, rfl, rfl, ?_, hfix, fun x => ⟨rfl, by have := hwh x; simp; omega⟩, (fun _ => ⟨Nat.zero_le _, fun hk => Nat.lt_irrefl _ (h.start _ hk)⟩), ?_⟩ ?_
  · show (W.heap.push _)[W.heap.size]? = _
    simp
  · simp; omega
  · intro i v hv
    have hi : i < xs.length := (List.getElem?_eq_some_iff.1 hv).1
    have hi' : i < ys.size := by omega
    refine ⟨ys[i], ?_, (hxy.2 i v _ (by simpa using hv) (by simp [hi'])).mono hle⟩
    simp [Array.getElem?_append, hi']
  · intro id' B' hm _ l' hl'
    obtain ⟨m, c, z, e1, L⟩ := h.blocks id' B' hm
    rw [hl'] at e1; cases e1
    have := (Array.getElem?_eq_some_iff.1 L.at_).1
    show l'.blk ≠ W.heap.size
    omega

end Go.Ev
