/-
  Package world, plain: what a world holds, and what its calls make of it.
-/
import Derived.Test.YthbkcdbmimhhkaaRows
import Derived.WalkKit
import Derived.WalkSpells
import Derived.WalkLawsBesides
import Derived.Lib.Hide
import Derived.BigQuiet
import Derived.Deep.Quiet
import Derived.ChangeKeysEq
import Derived.WalkSmall
import Derived.Deep.Light
import Derived.Deep.QuietTactic
import Derived.StillTactics
import Derived.Maps.OwnSet
import Derived.Maps.Views
import Derived.Deep.AppendLies
import Derived.Deep.RegionLaw
import Derived.Laws.OwnMore
import Derived.StillTail
import Derived.StillTailTactics
import Derived.Shelf.Strings.BuilderK
import Derived.DeepKeys4
namespace Go.Proofs.Ythbkcdbmimhhkaa.Wo

structure Ev where
  kind : Int
  stream : Int
  name : ByteArray
  data : ByteArray
  status : Int
inductive Src where
  | none
  | stdin
  | own (s : ByteArray)
structure Strm where
  kind : Int
  name : ByteArray
  src : Src
structure St where
  file : ByteArray → Option (List UInt8)
  stdin : ByteArray
  reply : ByteArray → Option (ByteArray × Int)
  fails : Int → ByteArray → Bool
  most : Int
  clock : Int
  chance : Int
  streams : List Strm
  trace : List Ev
  made : Nat

def txt (l : List UInt8) : ByteArray := ⟨l.toArray⟩
abbrev noText : ByteArray := ⟨#[]⟩
def dash : ByteArray := ⟨#[45]⟩
def isIt (k : Int) (n : ByteArray) (s : Strm) : Bool := decide (s.kind = k) && decide (s.name = n)
/- Where a stream stands; -1: nowhere. -/
def placeL (k : Int) (n : ByteArray) : List Strm → Int
  | [] => -1
  | s :: r => if isIt k n s then 0 else if placeL k n r < 0 then -1 else placeL k n r + 1
theorem placeL_cons (k : Int) (n : ByteArray) (s : Strm) (r : List Strm) : placeL k n (s :: r) = if isIt k n s then 0 else if placeL k n r < 0 then -1 else placeL k n r + 1 := rfl
def anyL (k : Int) (n : ByteArray) (l : List Strm) : Bool := l.any (isIt k n)
theorem placeL_ge (k : Int) (n : ByteArray) : ∀ l, -1 ≤ placeL k n l
  | [] => Int.le_refl _
  | s :: r => by
    have := placeL_ge k n r
    rw [placeL_cons]
    split
    · omega
    · split <;> omega
theorem placeL_lt (k : Int) (n : ByteArray) : ∀ l, placeL k n l < l.length
  | [] => by simp [placeL]
  | s :: r => by
    have := placeL_lt k n r
    rw [placeL_cons]
    rw [List.length_cons]
    split
    · omega
    · split <;> omega
theorem placeL_any (k : Int) (n : ByteArray) : ∀ l, anyL k n l = decide (0 ≤ placeL k n l)
  | [] => by simp [anyL, placeL]
  | s :: r => by
    have ih := placeL_any k n r
    have hg := placeL_ge k n r
    unfold anyL at ih ⊢
    rw [List.any_cons, ih]
    rw [placeL_cons]
    by_cases h : isIt k n s = true
    · rw [if_pos h, h]; simp
    · rw [if_neg h]
      have h2 : isIt k n s = false := by simpa using h
      rw [h2, Bool.false_or]
      by_cases h3 : placeL k n r < 0
      · rw [if_pos h3, decide_eq_false (by omega), decide_eq_false (by omega)]
      · rw [if_neg h3, decide_eq_true (by omega), decide_eq_true (by omega)]
theorem placeL_not (k : Int) (n : ByteArray) : ∀ (i : Nat) (l : List Strm), (∀ j s, j < i → l[j]? = some s → isIt k n s = false) → (i = l.length → placeL k n l = -1) ∧ ∀ s, l[i]? = some s → isIt k n s = true → placeL k n l = i
  | 0, [], _ => ⟨fun _ => rfl, fun s hs => by simp at hs⟩
  | 0, s :: r, _ => ⟨fun h => by simp at h, fun t ht hi => by
      have : s = t := by simpa using ht
      subst this
      rw [placeL_cons, if_pos hi]; rfl⟩
  | i + 1, [], _ => ⟨fun h => by simp at h, fun s hs => by simp at hs⟩
  | i + 1, s :: r, h => by
    have h0 := h 0 s (by omega) rfl
    obtain ⟨ih1, ih2⟩ := placeL_not k n i r fun j t hj ht => h (j + 1) t (by omega) (by simpa using ht)
    refine ⟨fun hl => ?_, fun t ht hi => ?_⟩
    · have := ih1 (by simpa using hl)
      rw [placeL_cons]
      rw [h0, if_neg (by decide), if_pos (by omega)]
    · have := ih2 t (by simpa using ht) hi
      rw [placeL_cons]
      rw [h0, if_neg (by decide), if_neg (by omega), this]
      push_cast; rfl
theorem placeL_get (k : Int) (n : ByteArray) : ∀ (l : List Strm) (i : Nat), placeL k n l = i → ∃ s, l[i]? = some s ∧ isIt k n s = true
  | [], i, h => by simp [placeL] at h
  | s :: r, i, h => by
    rw [placeL_cons] at h
    split at h
    · obtain rfl : i = 0 := by omega
      exact ⟨s, rfl, by assumption⟩
    · split at h
      · omega
      · obtain ⟨j, rfl⟩ : ∃ j, i = j + 1 := ⟨i - 1, by omega⟩
        obtain ⟨t, h1, h2⟩ := placeL_get k n r j (by push_cast at h; omega)
        exact ⟨t, by simpa using h1, h2⟩
theorem isIt_iff {k : Int} {n : ByteArray} {s : Strm} : isIt k n s = true ↔ s.kind = k ∧ s.name = n := by simp [isIt]
/- One stream of each kind and name at most. -/
def Uniq (l : List Strm) : Prop := l.Pairwise fun a b => ¬ (a.kind = b.kind ∧ a.name = b.name)
end Go.Proofs.Ythbkcdbmimhhkaa.Wo

/-
  Package world: builders in memory, with blocks that are known: writing, reading, emptying.
-/
namespace Go.Proofs.Ythbkcdbmimhhkaa.Wo
open Go.RowKit Go.Maps

structure Turn (S : Nat → Prop) (w w' : World) : Prop where
  os : w'.os = w.os
  tape : w'.tape = w.tape
  output : w'.output = w.output
  size : w.heap.size ≤ w'.heap.size
  block : ∀ k, k < w.heap.size → ¬ S k → w'.heap[k]? = w.heap[k]?
theorem Turn.of_below {S : Nat → Prop} {w w' : World} (h : Below w.heap.size w w') : Turn S w w' := ⟨h.os, h.tape, h.output, h.size, fun k hk _ => h.block k hk⟩
theorem Turn.refl (S : Nat → Prop) (w : World) : Turn S w w := Turn.of_below (Below.refl _ w)
theorem Turn.trans {S S1 : Nat → Prop} {a b c : World} (h : Turn S a b) (k : Turn S1 b c) (hs : ∀ i, S1 i → S i ∨ a.heap.size ≤ i) : Turn S a c :=
  ⟨k.os.trans h.os, k.tape.trans h.tape, k.output.trans h.output, Nat.le_trans h.size k.size, fun i hi hn => (k.block i (Nat.lt_of_lt_of_le hi h.size) fun h1 => by
    rcases hs i h1 with h2 | h2
    · exact hn h2
    · omega).trans (h.block i hi hn)⟩
theorem Turn.mono {S S1 : Nat → Prop} {a b : World} (h : Turn S a b) (hs : ∀ i, S i → S1 i) : Turn S1 a b := ⟨h.os, h.tape, h.output, h.size, fun i hi hn => h.block i hi fun h1 => hn (hs i h1)⟩
theorem Turn.below {S : Nat → Prop} {a b : World} (h : Turn S a b) (hs : ∀ i, S i → a.heap.size ≤ i) : Below a.heap.size a b := ⟨h.os, h.tape, h.output, h.size, fun i hi => h.block i hi fun h1 => by have := hs i h1; omega⟩
theorem size_set (w : World) (p : Addr) (u : Value) : (w.setCell p u).heap.size = w.heap.size := by simp [World.setCell]
theorem heap_set (w : World) (p : Addr) (u : Value) {k : Nat} (h : k ≠ p.block) : (w.setCell p u).heap[k]? = w.heap[k]? := Below.heap_setCell w p u k h
theorem Turn.of_set (w : World) (p : Addr) (u : Value) : Turn (fun k => k = p.block) w (w.setCell p u) := ⟨rfl, rfl, rfl, by rw [size_set]; exact Nat.le_refl _, fun _ _ hn => heap_set w p u hn⟩
theorem Turn.of_grown {w w' : World} {row : Option Nat} (h : w.grownBy w' row) : Turn (fun k => some k = row) w w' := ⟨h.os, h.tape, h.output, h.size, fun k hk hn => h.block k hk hn⟩
theorem Turn.of_freeze (w : World) (p : Addr) (n : Nat) : Turn (fun k => k = p.block) w (w.freeze p n) := by
  unfold World.freeze
  split
  · exact Turn.refl _ w
  · exact ⟨rfl, rfl, rfl, by simp, fun k _ hn => by
      simp only [Array.getElem?_modify]
      rw [if_neg fun e => hn e.symm]⟩

abbrev ptr (b : Nat) : Value := .pointer (some ⟨b, 0, none⟩)
structure Bd (w : World) (b : Nat) (buf : Option Nat) (l : List UInt8) : Prop where
  ex : ∃ p v, (p = .pointer none ∨ p = ptr b) ∧ w.heap[b]? = some (.cells #[p, v] 120) ∧ w.ownsRowF 0 5 1 v l.length (Lib.byteCells l) ∧ (l = [] → v = .slice none 0 0) ∧ v.ownBlock = buf
theorem Bd.apart {w : World} {b : Nat} {buf : Option Nat} {l : List UInt8} (h : Bd w b buf l) : buf ≠ some b := by
  obtain ⟨p, v, _, h2, h3, _, rfl⟩ := h
  exact Lib.ownBlock_neF h3 h2 (by decide)
theorem Bd.lt {w : World} {b : Nat} {buf : Option Nat} {l : List UInt8} (h : Bd w b buf l) : b < w.heap.size := by
  obtain ⟨p, v, _, h2, _⟩ := h
  exact (Array.getElem?_eq_some_iff.1 h2).1
theorem Bd.ltBuf {w : World} {b : Nat} {buf : Option Nat} {l : List UInt8} (h : Bd w b buf l) : ∀ k, buf = some k → k < w.heap.size := by
  obtain ⟨p, v, _, h2, h3, _, rfl⟩ := h
  exact fun k hk => (h3.lt k hk).2
theorem rowF_of_block {w w' : World} {base : Nat} {e : TypeId} {size n : Nat} {v : Value} {xs : List Value} (h : w.ownsRowF base e size v n xs) (hb : ∀ k, v.ownBlock = some k → w'.heap[k]? = w.heap[k]?) : w'.ownsRowF base e size v n xs := by
  refine ⟨h.1, ?_⟩
  rcases h.2 with h1 | ⟨g, cap, cur, fz, rfl, h2, h3, h4⟩
  · exact .inl h1
  · exact .inr ⟨g, cap, cur, fz, rfl, h2, (hb g rfl).trans h3, h4⟩
theorem row_of_block {w w' : World} {base : Nat} {e : TypeId} {size n : Nat} {v : Value} {xs : List Value} (h : w.ownsRow base e size v n xs) (hb : ∀ k, v.ownBlock = some k → w'.heap[k]? = w.heap[k]?) : w'.ownsRow base e size v n xs := by
  refine ⟨h.1, ?_⟩
  rcases h.2 with h1 | ⟨g, cap, cur, rfl, h2, h3, h4⟩
  · exact .inl h1
  · exact .inr ⟨g, cap, cur, rfl, h2, (hb g rfl).trans h3, h4⟩
theorem Bd.later {w w' : World} {b : Nat} {buf : Option Nat} {l : List UInt8} (h : Bd w b buf l) (hb : w'.heap[b]? = w.heap[b]?) (hg : ∀ k, buf = some k → w'.heap[k]? = w.heap[k]?) : Bd w' b buf l := by
  obtain ⟨p, v, h1, h2, h3, h4, rfl⟩ := h
  exact ⟨p, v, h1, hb.trans h2, rowF_of_block h3 hg, h4, rfl⟩
theorem Bd.below {w w' : World} {b : Nat} {buf : Option Nat} {l : List UInt8} (h : Bd w b buf l) (hb : Below w.heap.size w w') : Bd w' b buf l :=
  h.later (hb.block b h.lt) fun k hk => hb.block k (h.ltBuf k hk)
theorem Bd.made {w : World} {b : Nat} (h : w.heap[b]? = some (.cells #[.pointer none, .slice none 0 0] 120)) : Bd w b none [] :=
  ⟨_, _, .inl rfl, h, World.ownsRowF_nil _ _ _ _, fun _ => rfl, rfl⟩
end Go.Proofs.Ythbkcdbmimhhkaa.Wo

/-
  Package world: builders written, read, emptied.
-/
namespace Go.Proofs.Ythbkcdbmimhhkaa.Wo
open Go.RowKit Go.Maps

theorem byte_info : ∃ i, Try.prog.info? 5 = some i ∧ i.zero = some (.int .u8 0) ∧ i.size = 1 ∧ i.bytes = 1 := by
  have h : (Try.prog.info? 5).map (fun i => (i.zero, i.size, i.bytes)) = some (some (.int .u8 0), 1, 1) := by kernel_rfl
  cases hi : Try.prog.info? 5 with
  | none => rw [hi] at h; cases h
  | some i =>
    rw [hi] at h
    simp only [Option.map_some, Option.some.injEq, Prod.mk.injEq] at h
    exact ⟨i, rfl, h.1, h.2.1, h.2.2⟩
theorem bld_info : ∃ j, Try.prog.info? 120 = some j ∧ j.size = 2 := by
  have h : (Try.prog.info? 120).map (·.size) = some 2 := by kernel_rfl
  cases hi : Try.prog.info? 120 with
  | none => rw [hi] at h; cases h
  | some i => rw [hi] at h; exact ⟨i, rfl, by simpa using h⟩

set_option maxRecDepth 100000 in
theorem copyCheck {w : World} {b : Nat} {p v : Value} (hp : p = .pointer none ∨ p = ptr b) (h : w.heap[b]? = some (.cells #[p, v] 120)) :
    Calls Try.prog 48 #[ptr b] w fun e w' => e = .returned (.tuple #[]) ∧ w'.heap[b]? = some (.cells #[ptr b, v] 120) ∧ Turn (fun k => k = b) w w' := by
  obtain ⟨j, hj, hj2⟩ := bld_info
  have c0 : w.cell? ⟨b, 0, none⟩ = some p := by simp [World.cell?, h]
  have f0 : w.frozen? ⟨b, 0, none⟩ = false := by simp [World.frozen?, h]
  have hsh : w.shape? b = some (120, 2) := by simp [World.shape?, h]
  have hne := Lib.run_neq_ptr_same (P := Try.prog) w (tp := 87) ⟨b, 0, none⟩ Try.underlying87 hj
  have hext := run_callFunc_extern (e := Extern.AbiNoEscape.same) Try.func56 (by kernel_rfl) (by kernel_rfl) (by kernel_rfl) (by kernel_rfl)
  have hlies : liesAt Try.prog Try.prog.depth 120 (2 / Try.prog.cellsOf 120) 0 120 1 = true := by kernel_rfl
  rcases hp with rfl | rfl
  · go_enter Try.func48, Try.ntmps48
    go_wp2_with fail
    rw [Lib.run_to_unsafe w ⟨b, 0, none⟩ Try.underlying87 Try.underlying128 hj (by rw [hj2]; decide) hsh (Nat.zero_lt_succ 1)]
    simp only [Result.andThen]
    rw [Oper.upon_value]
    go_wp2_with fail
    rw [Lib.run_noEscape]
    simp only [Result.andThen]
    rw [Oper.upon_value]
    go_wp2_with fail
    rw [Lib.run_from_unsafe w ⟨b, 0, none⟩ Try.underlying128 Try.underlying87 hj hsh hlies]
    simp only [Result.andThen]
    rw [Oper.upon_value]
    go_wp2_with fail
    go_end0
    refine ⟨rfl, ?_, Turn.of_set w ⟨b, 0, none⟩ _⟩
    simp [World.setCell, Array.getElem?_modify, h]
  · go_enter Try.func48, Try.ntmps48
    go_wp2_with (first | rw [hne])
    go_end0
    exact ⟨rfl, h, Turn.refl _ _⟩

section
variable {P : Program} (w : World)
theorem run_append_hat (t u ty e : TypeId) (i : TypeInfo) (ht : P.underlying t = some (.slice e)) (hu : P.underlying u = some .string) (hi : P.info? e = some i) (hz : i.zero = some (.int .u8 0)) (hsize : i.size = 1) (hby : i.bytes = 1)
    (v : Value) (n : Nat) (xs : List Value) (hown : w.ownsRowF 0 e 1 v n xs) (s : ByteArray) (hbytes : n + s.size ≤ 1000000000) :
    ∃ v' w', (Builtin.append_ #[t, u] ty #[v, .string s]).run P w = .ok v' w' ∧ w'.ownsRowF 0 e 1 v' (n + s.size) (xs ++ Lib.strCells s) ∧ w.grownBy w' v.ownBlock ∧ (v = .slice none 0 0 → s.size = 0 → v' = .slice none 0 0) ∧ ∀ k, v'.ownBlock = some k → v.ownBlock = some k ∨ w.heap.size ≤ k := by
  obtain ⟨v', w', h1, h2, h3, h9⟩ := Lib.run_append_own_stringF (P := P) w 0 t u ty e i ht hu hi hz hsize hby v n xs hown s (by unfold maxLen; omega) (by omega) (Nat.zero_le _)
  refine ⟨v', w', h1, h2, h3, fun a b => h9.2 ⟨a, b⟩, ?_⟩
  clear h9
  rcases hown.2 with ⟨rfl, rfl⟩ | ⟨g, cap, cur, fz, rfl, hbg, hg, hfz, hnc, hcm, hcs, htake⟩
  · have hx : xs = [] := List.eq_nil_of_length_eq_zero (by simpa using hown.1)
    subst hx
    obtain ⟨v2, w2, q1, q2, _, _⟩ := Lib.run_append_own_stringF (P := P) w w.heap.size t u ty e i ht hu hi hz hsize hby (.slice none 0 0) 0 [] (World.ownsRowF_nil _ _ _ _) s (by unfold maxLen; omega) (by omega) (Nat.le_refl _)
    rw [h1] at q1
    cases q1
    exact fun k hk => .inr (q2.lt k hk).1
  · have hxl : xs.length = n := by simpa using hown.1
    have hcs' : cur.size = cap := by simpa using hcs
    by_cases hroom : n + s.size ≤ cap
    · have hr := Lib.run_append_room_stringF (P := P) w t u ty e i ht hu hi hsize g n cap cur fz hg (by simpa using hfz) s hroom (by omega)
      rw [h1] at hr
      cases hr
      exact fun k hk => .inl hk
    · have hr := Lib.run_append_grow_string (P := P) w t u ty e i (.int .u8 0) ht hu hi hz ⟨g, 0, none⟩ n cap xs (by rw [hsize]; simpa using hxl) (hown.cells (g := g) rfl) s (by omega) (by omega) (by rw [hby]; exact growslice_fits (by unfold maxLen at hcm; omega) (by omega))
      rw [h1] at hr
      cases hr
      intro k hk
      have : w.heap.size = k := by simpa [Value.ownBlock] using hk
      exact .inr (by omega)
theorem wpList_append_hat {ops : Array Oper} {rest : List Oper} {o : Oper} {a : Act} {Q : Exit → Act → World → Prop} (hgd : o.guard = none) (sl x : Operand) (t u : TypeId) (ho : o.op = .call { callee := .builtin .append, args := #[sl, x], argTypes := #[t, u] })
    (e : TypeId) (i : TypeInfo) (ht : P.underlying t = some (.slice e)) (hu : P.underlying u = some .string) (hi : P.info? e = some i) (hz : i.zero = some (.int .u8 0)) (hsize : i.size = 1) (hby : i.bytes = 1)
    (v : Value) (n : Nat) (xs : List Value) (hs : a.eval sl = v) (hown : w.ownsRowF 0 e 1 v n xs) (s : ByteArray) (hx : a.eval x = .string s) (hbytes : n + s.size ≤ 1000000000)
    (h : ∀ v' w', w'.ownsRowF 0 e 1 v' (n + s.size) (xs ++ Lib.strCells s) → w.grownBy w' v.ownBlock → (v = .slice none 0 0 → s.size = 0 → v' = .slice none 0 0) → (∀ k, v'.ownBlock = some k → v.ownBlock = some k ∨ w.heap.size ≤ k) → wpList P ops Q rest (a.put o.dst v') w') : wpList P ops Q (o :: rest) a w := by
  refine wpList_plain hgd fun K hK => ?_
  obtain ⟨v', w', hr, h2, h3, h4, h5⟩ := run_append_hat (P := P) w t u o.type e i ht hu hi hz hsize hby v n xs hown s hbytes
  unfold Oper.wp execOp
  simp only [ho, resolve, invoke, builtin, Sem.run_bind, Sem.run_pure, Result.andThen_ok, List.map_toArray, List.map_cons, List.map_nil, hs, hx, hr]
  exact hK _ _ (h v' w' h2 h3 h4 h5)
end

set_option maxRecDepth 100000 in
theorem writeString {w : World} {b : Nat} {buf : Option Nat} {l : List UInt8} (s : ByteArray) (h : Bd w b buf l) (hlen : l.length + s.size ≤ 1000000000) :
    Calls Try.prog 30 #[ptr b, .string s] w fun e w' => e = .returned (.tuple #[.int .i64 s.size, .nilIface]) ∧ ∃ buf', Bd w' b buf' (l ++ s.data.toList) ∧ Turn (fun k => k = b ∨ some k = buf) w w' ∧ ∀ k, buf' = some k → buf = some k ∨ w.heap.size ≤ k := by
  obtain ⟨i0, hi, hz0, hz1, hz2⟩ := byte_info
  have hap := h.apart
  have hbl := h.lt
  have hgl := h.ltBuf
  obtain ⟨p, v, hp, hb, hr, hnil, rfl⟩ := h
  have HH := Lib.hid (⟨hp, hb, hnil⟩ : _ ∧ _ ∧ _)
  clear hp hb hnil
  go_enter Try.func30, Try.ntmps30
  go_wp2_with (first
    | (at_builtin; refine wpList_append_hat _ rfl _ _ 118 9 rfl 5 i0 Try.underlying118 Try.underlying9 hi hz0 hz1 hz2 _ _ _ rfl hr1 s rfl hlen ?_; intro v' w2 hown' hgrow hnl hat; have hb2 : w2.heap[b]? = some (.cells #[ptr b, v] 120) := (hgrow.block b (Nat.lt_of_lt_of_le hbl H1.out.2.size) (fun e => hap e.symm)).trans H1.out.1; have d0 : w2.cell? ⟨b, 0, none⟩ = some (ptr b) := (by simp [World.cell?, hb2]); have d1 : w2.cell? ⟨b, 1, none⟩ = some v := (by simp [World.cell?, hb2]); have f1 : w2.frozen? ⟨b, 1, none⟩ = false := (by simp [World.frozen?, hb2]); obtain ⟨ao, n', cap, rfl⟩ : ∃ ao n' cap, v' = .slice ao n' cap := (by
          rcases hown'.2 with ⟨hv, _⟩ | ⟨g, cap, cur, fz, hv, _⟩
          · exact ⟨_, _, _, hv⟩
          · exact ⟨_, _, _, hv⟩); have H2 := Lib.hid (⟨hown', hgrow, hb2, hnl, hat⟩ : _ ∧ _ ∧ _ ∧ _ ∧ _); clear hown' hgrow hb2 hnl hat)
    | (go_at_call 48; refine (copyCheck HH.out.1 HH.out.2.1).mono ?_; rintro e w1 ⟨rfl, hb1, ht1⟩; have hr1 := rowF_of_block hr (w' := w1) fun k hk => ht1.block k (hgl k hk) fun e => hap (by rw [hk, e]); have c0 : w1.cell? ⟨b, 0, none⟩ = some (ptr b) := (by simp [World.cell?, hb1]); have c1 : w1.cell? ⟨b, 1, none⟩ = some v := (by simp [World.cell?, hb1]); have H1 := Lib.hid (⟨hb1, ht1⟩ : _ ∧ _); clear hb1 ht1 hr))
  go_ret2
  obtain ⟨hown', hgrow, hb2, hnl, hat⟩ := H2.out
  have hne2 : (Value.slice ao n' cap).ownBlock ≠ some b := Lib.ownBlock_neF hown' hb2 (by decide)
  refine ⟨rfl, (Value.slice ao n' cap).ownBlock, ⟨ptr b, .slice ao n' cap, .inr rfl, ?_, ?_, fun e => ?_, rfl⟩, ?_, ?_⟩
  · simp [World.setCell, Array.getElem?_modify, hb2]
  · have e1 : Lib.byteCells (l ++ s.data.toList) = Lib.byteCells l ++ Lib.strCells s := by simp [Lib.byteCells, Lib.strCells]
    have e2 : (l ++ s.data.toList).length = l.length + s.size := by rw [List.length_append, Array.length_toList]; rfl
    rw [e1, e2]
    exact rowF_of_block hown' fun k hk => heap_set _ _ _ fun e => hne2 (by rw [hk, e])
  · obtain ⟨e1, e2⟩ := List.append_eq_nil_iff.1 e
    exact hnl (HH.out.2.2 e1) (by have := congrArg List.length e2; rw [Array.length_toList] at this; exact this)
  · exact ((H1.out.2.mono fun k hk => .inl hk).trans (Turn.of_grown hgrow) fun i hi => .inl (.inr hi)).trans (Turn.of_set _ _ _) fun i hi => .inl (.inl hi)
  · exact fun k hk => (hat k hk).imp id fun h => Nat.le_trans H1.out.2.size h

theorem freeze_row {w : World} {n cap : Nat} {xs : List Value} {g : Nat} (h : w.ownsRowF 0 5 1 (.slice (some ⟨g, 0, none⟩) n cap) n xs) (hn : n ≠ 0) : (w.freeze ⟨g, 0, none⟩ n).ownsRowF 0 5 1 (.slice (some ⟨g, 0, none⟩) n cap) n xs := by
  rcases h.2 with ⟨h1, _⟩ | ⟨g2, cap2, cur, fz, h1, h2, h3, h4, h5, h6, h7, h8⟩
  · cases h1
  · cases h1
    obtain ⟨lo, hi⟩ := fz
    refine ⟨h.1, .inr ⟨g, cap, cur, if lo == hi then (0, 0 + n) else (min lo 0, max hi (0 + n)), rfl, h2, ?_, ?_, h5, h6, h7, h8⟩⟩
    · unfold World.freeze
      rw [if_neg hn]
      simp [Array.getElem?_modify, h3]
    · simp only at h4
      split <;> simp only <;> omega
theorem freeze_heap (w : World) (p : Addr) (n : Nat) {k : Nat} (h : k ≠ p.block) : (w.freeze p n).heap[k]? = w.heap[k]? := by
  unfold World.freeze
  split
  · rfl
  · simp only [Array.getElem?_modify]
    rw [if_neg fun e => h e.symm]

theorem turn_froze (g cap n : Nat) (w : World) : Turn (fun k => some k = (Value.slice (some ⟨g, 0, none⟩) n cap).ownBlock) w (w.drew.freeze ⟨g, 0, none⟩ n) :=
  have t := (Turn.of_freeze w.drew ⟨g, 0, none⟩ n).mono (S1 := fun k => some k = (Value.slice (some ⟨g, 0, none⟩) n cap).ownBlock) fun k hk => by
    have : k = g := hk
    subst this; rfl
  ⟨t.os, t.tape, t.output, t.size, t.block⟩

set_option maxRecDepth 100000 in
theorem toString {w : World} {b : Nat} {buf : Option Nat} {l : List UInt8} (h : Bd w b buf l) :
    Calls Try.prog 42 #[ptr b] w fun e w' => e = .returned (.string (txt l)) ∧ Bd w' b buf l ∧ Turn (fun k => some k = buf) w w' := by
  have hap := h.apart
  have hbl := h.lt
  have hgl := h.ltBuf
  obtain ⟨p, v, hp, hb, hr, hnil, rfl⟩ := h
  have c1 : ∀ W : World, W.heap = w.heap → W.cell? ⟨b, 1, none⟩ = some v := fun W hW => by simp [World.cell?, hW, hb]
  have hc1 : Try.prog.cellsOf 5 = 1 := by kernel_rfl
  rcases hr.2 with ⟨rfl, h0⟩ | ⟨g, cap, cur, fz, rfl, _, hg, hfz, hnc, hcm, hcs, htake⟩
  · obtain rfl : l = [] := List.eq_nil_of_length_eq_zero h0
    have HH := Lib.hid (⟨hp, hb, hr, hnil⟩ : _ ∧ _ ∧ _ ∧ _)
    have c1' := c1 w.drew rfl
    clear hp hb hr c1 hnil
    have hSD : ∀ W : World, (Builtin.unsafeSliceData_ #[118] 126 #[.slice none 0 0]).run Try.prog W = .ok (.pointer none) W := fun W => by kernel_rfl
    have hUS : ∀ W : World, (Builtin.unsafeString_ #[126, 3] 9 #[.pointer none, .int .i64 0]).run Try.prog W = .ok (.string .empty) W := fun W => by kernel_rfl
    go_enter Try.func42, Try.ntmps42
    go_wp2_with fail
    go_region
    all_goals go_wp2_with fail
    all_goals go_ret
    all_goals exact ⟨rfl, ⟨p, _, HH.out.1, HH.out.2.1, HH.out.2.2.1, fun _ => rfl, rfl⟩, Turn.of_below (Below.refl _ w).drew⟩
  · have hl : l ≠ [] := fun e => by cases hnil e
    have hl0 : l.length ≠ 0 := by simpa using hl
    have HH := Lib.hid (⟨hp, hb, hr, hnil⟩ : _ ∧ _ ∧ _ ∧ _)
    have c1' := c1 w.drew rfl
    have hSD : (Builtin.unsafeSliceData_ #[118] 126 #[.slice (some ⟨g, 0, none⟩) l.length cap]).run Try.prog w.drew = .ok (.pointer (some ⟨g, 0, none⟩)) w.drew := Lib.run_unsafeSliceData_row _ _ _ _ _ _ (by omega)
    have hUS : (Builtin.unsafeString_ #[126, 3] 9 #[.pointer (some ⟨g, 0, none⟩), .int .i64 l.length]).run Try.prog w.drew = .ok (.string ⟨l.toArray⟩) (w.drew.freeze ⟨g, 0, none⟩ l.length) := by
      refine Lib.run_unsafeString_row w.drew 126 3 9 5 Try.underlying126 hc1 g cur.size (by have hg' : w.drew.heap[g]? = some (.cells cur 5 fz) := hg; simp [World.shape?, hg']) l hl (by omega) (by unfold maxLen at hcm; omega) ?_
      intro j x hx
      exact hr.cells (g := g) rfl j (.int .u8 x.toNat) (by simp [Lib.byteCells, hx])
    clear hp hb hr c1 hnil htake
    have hgb : g ≠ b := fun e => hap (by rw [← e]; rfl)
    go_enter Try.func42, Try.ntmps42
    go_wp2_with fail
    go_region
    all_goals go_wp2_with fail
    all_goals go_ret
    all_goals exact ⟨rfl, ⟨p, _, HH.out.1, (freeze_heap _ _ _ (fun e => hgb e.symm)).trans HH.out.2.1, freeze_row (w := w.drew) HH.out.2.2.1 hl0, HH.out.2.2.2, rfl⟩, turn_froze g cap l.length w⟩

set_option maxRecDepth 100000 in
theorem reset {w : World} {b : Nat} {buf : Option Nat} {l : List UInt8} (h : Bd w b buf l) :
    Calls Try.prog 55 #[ptr b] w fun e w' => e = .returned (.tuple #[]) ∧ Bd w' b none [] ∧ Turn (fun k => k = b) w w' := by
  obtain ⟨p, v, hp, hb, hr, hnil, rfl⟩ := h
  have c0 : w.cell? ⟨b, 0, none⟩ = some p := by simp [World.cell?, hb]
  have c1 : w.cell? ⟨b, 1, none⟩ = some v := by simp [World.cell?, hb]
  have f0 : w.frozen? ⟨b, 0, none⟩ = false := by simp [World.frozen?, hb]
  have f1 : w.frozen? ⟨b, 1, none⟩ = false := by simp [World.frozen?, hb]
  have HH := Lib.hid hb
  clear hb hr hnil hp
  go_enter Try.func55, Try.ntmps55
  go_wp2_with fail
  go_end0
  refine ⟨rfl, Bd.made ?_, (Turn.of_set w ⟨b, 0, none⟩ _).trans (Turn.of_set (w.setCell ⟨b, 0, none⟩ _) ⟨b, 1, none⟩ _) fun i hi => .inl hi⟩
  simp [World.setCell, Array.getElem?_modify, HH.out]
end Go.Proofs.Ythbkcdbmimhhkaa.Wo

/-
  Package world: a world in memory, block by block, each with a tag that says what it is part of.
-/
namespace Go.Proofs.Ythbkcdbmimhhkaa.Wo
open Go.RowKit Go.Maps

inductive Part where
  | no
  | self
  | files
  | replies
  | fails
  | streams
  | trace
  | bld (n : ByteArray)
  | buf (n : ByteArray)
  | left (k : Int) (n : ByteArray)
abbrev Tags := Nat → Part

/- How a file's builder reads in the map of files: by its block. -/
def rdPtr (v : Value) : Option (DataW Unit × List MemPlace) :=
  match v with
  | .pointer none => some (.lit (.bool false), [])
  | .pointer (some ⟨b, 0, none⟩) => some (.lit (.int .i64 b), [])
  | _ => none
def nilD : DataW Unit := .lit (.bool false)
def ptrD (b : Nat) : DataW Unit := .lit (.int .i64 b)
theorem rdPtr_inv {v : Value} {d : DataW Unit} {ps : List MemPlace} (h : rdPtr v = some (d, ps)) : (v = .pointer none ∧ d = nilD) ∨ ∃ b, v = ptr b ∧ d = ptrD b := by
  unfold rdPtr at h
  split at h
  · cases h; exact .inl ⟨rfl, rfl⟩
  · cases h; exact .inr ⟨_, rfl, rfl⟩
  · cases h
abbrev MapIs (w : World) (mb N : Nat) (D : DataW Unit) : Prop := w.ownsMap Try.prog 9 rdPtr mb N D
theorem MapIs.of_block {w w' : World} {mb N : Nat} {D : DataW Unit} (h : MapIs w mb N D) (hb : w'.heap[mb]? = w.heap[mb]?) : MapIs w' mb N D := by
  obtain ⟨es, clock, h1, h2⟩ := h
  exact ⟨es, clock, by rw [hb]; exact h1, h2⟩
def kl (s : ByteArray) : Lit := .string s.data.toList
theorem kl_inj {a b : ByteArray} (h : kl a = kl b) : a = b := by
  unfold kl at h
  injection h with h
  exact ByteArray.ext (Array.toList_inj.1 h)
theorem keyed : Keyed Try.prog 9 := string_keyed Try.underlying9
theorem key_of {s : ByteArray} (h : s.size ≤ 1000000) : keyOf Try.prog 9 (.string s) = some (kl s) := WideMaps.keyOf_string_mk Try.underlying9 (by unfold maxLen; omega)

def FileIs (w : World) (T : Tags) (D : DataW Unit) (n : ByteArray) : Option (List UInt8) → Prop
  | none => D.atKey (kl n) nilD = nilD
  | some l => ∃ b buf, D.atKey (kl n) nilD = ptrD b ∧ Bd w b buf l ∧ T b = .bld n ∧ ∀ k, buf = some k → T k = .buf n
theorem FileIs.later {w w' : World} {T : Tags} {D : DataW Unit} {n : ByteArray} {o : Option (List UInt8)} (h : FileIs w T D n o) (hb : ∀ k, T k = .bld n ∨ T k = .buf n → w'.heap[k]? = w.heap[k]?) : FileIs w' T D n o := by
  cases o with
  | none => exact h
  | some l =>
    obtain ⟨b, buf, h1, h2, h3, h4⟩ := h
    exact ⟨b, buf, h1, h2.later (hb b (.inl h3)) fun k hk => hb k (.inr (h4 k hk)), h3, h4⟩
theorem FileIs.retag {w : World} {T T' : Tags} {D : DataW Unit} {n : ByteArray} {o : Option (List UInt8)} (h : FileIs w T D n o) (ht : ∀ k, k < w.heap.size → T' k = T k) : FileIs w T' D n o := by
  cases o with
  | none => exact h
  | some l =>
    obtain ⟨b, buf, h1, h2, h3, h4⟩ := h
    exact ⟨b, buf, h1, h2, (ht b h2.lt).trans h3, fun k hk => (ht k (h2.ltBuf k hk)).trans (h4 k hk)⟩
def Small (n : ByteArray) : Prop := n.size ≤ 1000000
structure Files (w : World) (T : Tags) (fm N : Nat) (D : DataW Unit) (f : ByteArray → Option (List UInt8)) : Prop where
  map : MapIs w fm N D
  each : ∀ n, Small n → FileIs w T D n (f n)

/- How a reply reads in the map of replies: its output and its status. -/
def encR (r : ByteArray × Int) : DataW Unit := .agg [.lit (.string r.1.data.toList), .lit (.int .i64 r.2)]
def rdRep (v : Value) : Option (DataW Unit × List MemPlace) :=
  match v with
  | .agg ⟨[.string _, .string o, .int .i64 s]⟩ => some (encR (o, s), [])
  | _ => none
theorem rdRep_inv {v : Value} {r : ByteArray × Int} {ps : List MemPlace} (h : rdRep v = some (encR r, ps)) : ∃ c, v = .agg #[.string c, .string r.1, .int .i64 r.2] := by
  unfold rdRep at h
  split at h
  · rename_i c o s
    simp only [Option.some.injEq, Prod.mk.injEq, encR, DataW.agg.injEq, List.cons.injEq, DataW.lit.injEq, Lit.string.injEq, Lit.int.injEq, true_and, and_true] at h
    obtain ⟨⟨h1, h2⟩, _⟩ := h
    refine ⟨c, ?_⟩
    rw [← h2, show r.1 = o from (ByteArray.ext (Array.toList_inj.1 h1)).symm]
  · cases h
theorem zero_reply (W : World) : (zeroValue 74).run Try.prog W = .ok (.agg #[.string noText, .string noText, .int .i64 0]) W := by kernel_rfl
def Replies (w : World) (rm : Nat) (g : ByteArray → Option (ByteArray × Int)) : Prop :=
  ∃ N D, N ≤ 1000000 ∧ w.ownsMap Try.prog 9 rdRep rm N D ∧ ∀ n, Small n → has D (kl n) = (g n).isSome ∧ D.atKey (kl n) (encR (noText, 0)) = encR ((g n).getD (noText, 0))
theorem Replies.of_block {w w' : World} {rm : Nat} {g : ByteArray → Option (ByteArray × Int)} (h : Replies w rm g) (hb : w'.heap[rm]? = w.heap[rm]?) : Replies w' rm g := by
  obtain ⟨N, D, h0, ⟨es, clock, h1, h2⟩, h3⟩ := h
  exact ⟨N, D, h0, ⟨es, clock, by rw [hb]; exact h1, h2⟩, h3⟩
theorem Replies.look {w : World} {rm : Nat} {g : ByteArray → Option (ByteArray × Int)} (h : Replies w rm g) {n : ByteArray} (hn : Small n) :
    (∃ c : ByteArray, (Instr.lookup 82 (.map (some rm)) (.string n) true).run Try.prog w = .ok (.tuple #[.agg #[.string c, .string ((g n).getD (noText, 0)).1, .int .i64 ((g n).getD (noText, 0)).2], .bool (g n).isSome]) w) ∧
    ∃ c : ByteArray, (Instr.lookup 82 (.map (some rm)) (.string n) false).run Try.prog w = .ok (.agg #[.string c, .string ((g n).getD (noText, 0)).1, .int .i64 ((g n).getD (noText, 0)).2]) w := by
  obtain ⟨N, D, _, h1, h2⟩ := h
  obtain ⟨e1, e2⟩ := h2 n hn
  obtain ⟨v, q, r1, r2⟩ := h1.look_ok keyed Try.underlying82 (zero_reply w) (zd := encR (noText, 0)) (zp := []) rfl (key_of hn)
  obtain ⟨v2, q2, r3, r4⟩ := h1.lookup keyed Try.underlying82 (zero_reply w) (zd := encR (noText, 0)) (zp := []) rfl (key_of hn)
  rw [e2] at r2 r4
  obtain ⟨c, rfl⟩ := rdRep_inv r2
  obtain ⟨c2, rfl⟩ := rdRep_inv r4
  rw [e1] at r1
  exact ⟨⟨c, r1⟩, c2, r3⟩

theorem failed : Keyed Try.prog 76 := Keyed.of_law (deep_law_laid (by kernel_rfl) (m := 2) (by omega) (by decide +kernel) (by kernel_rfl) (by kernel_rfl))
abbrev failV (op : Int) (n : ByteArray) : Value := .agg #[.int .u8 op, .string n]
theorem zero_unit (W : World) : (zeroValue 94).run Try.prog W = .ok (.agg #[]) W := by kernel_rfl
def failK (op : Int) (n : ByteArray) : Lit := .string (keyBytes [.int .u8 op, .string n.data.toList])
def Fails (w : World) (xm : Nat) (g : Int → ByteArray → Bool) : Prop :=
  ∃ N, ∃ D : DataW Unit, N ≤ 1000000 ∧ w.ownsMap Try.prog 76 unitElem xm N D ∧ ∀ (op : Int) (n : ByteArray), 0 ≤ op → op < 256 → Small n → has D (failK op n) = g op n
theorem Fails.of_block {w w' : World} {xm : Nat} {g : Int → ByteArray → Bool} (h : Fails w xm g) (hb : w'.heap[xm]? = w.heap[xm]?) : Fails w' xm g := by
  obtain ⟨N, D, h0, ⟨es, clock, h1, h2⟩, h3⟩ := h
  exact ⟨N, D, h0, ⟨es, clock, by rw [hb]; exact h1, h2⟩, h3⟩
set_option maxRecDepth 100000 in
theorem fail_key {op : Int} {n : ByteArray} (h0 : 0 ≤ op) (h1 : op < 256) (hn : Small n) : keyOf Try.prog 76 (failV op n) = some (failK op n) := by
  have hk : Try.prog.keyType 76 = true := by kernel_rfl
  have hf : (failV op n).formed Try.prog 76 = true := by kernel_rfl
  obtain ⟨m, hm⟩ : ∃ m, Try.prog.types.size + 1 = m + 1 + 1 := by
    have : 2 ≤ Try.prog.types.size := of_decide_eq_true (by kernel_rfl)
    exact ⟨Try.prog.types.size - 1, by omega⟩
  have hw : (Lit.int .u8 op).wf = true := by
    simp [Lit.wf, IntKind.min, IntKind.max, IntKind.signed, IntKind.bits]
    omega
  have hs : n.size ≤ maxLen := by unfold Small at hn; unfold maxLen; omega
  have c1 : Try.prog.cellsOf 76 = 2 := by kernel_rfl
  have c2 : Try.prog.cellsOf 5 = 1 := by kernel_rfl
  have c3 : Try.prog.cellsOf 9 = 1 := by kernel_rfl
  unfold keyOf
  rw [Try.underlying76]
  simp only [hk, hf, Bool.and_self, if_true]
  rw [hm]
  simp [Program.keyLits, Try.underlying76, Try.underlying5, Try.underlying9, c1, c2, c3, hw, hs, Value.cells, failK]
theorem Fails.look {w : World} {xm : Nat} {g : Int → ByteArray → Bool} (h : Fails w xm g) {op : Int} {n : ByteArray} (h0 : 0 ≤ op) (h1 : op < 256) (hn : Small n) :
    (Instr.lookup 83 (.map (some xm)) (failV op n) true).run Try.prog w = .ok (.tuple #[.agg #[], .bool (g op n)]) w := by
  obtain ⟨N, D, _, q1, q2⟩ := h
  obtain ⟨v, q, r1, r2⟩ := q1.look_ok failed Try.underlying83 (zero_unit w) unitElem_mk (fail_key h0 h1 hn)
  obtain ⟨rfl, _⟩ := unitElem_inv r2
  rw [q2 op n h0 h1 hn] at r1
  exact r1

def Strm.cells (s : Strm) (p : Value) : List Value := [.int .u8 s.kind, .string s.name, p]
def flatS : List Strm → List Value → List Value
  | s :: r, p :: q => s.cells p ++ flatS r q
  | _, _ => []
def SrcAt (w : World) (B : Nat) (T : Tags) (s : Strm) (p : Value) : Prop :=
  match s.src with
  | .none => p = .pointer none
  | .stdin => p = .pointer (some ⟨B, 2, none⟩)
  | .own t => ∃ b, p = ptr b ∧ w.heap[b]? = some (.cells #[.string t] 9) ∧ T b = .left s.kind s.name
theorem SrcAt.later {w w' : World} {B : Nat} {T : Tags} {s : Strm} {p : Value} (h : SrcAt w B T s p) (hb : ∀ k, T k = .left s.kind s.name → w'.heap[k]? = w.heap[k]?) : SrcAt w' B T s p := by
  unfold SrcAt at h ⊢
  cases hs : s.src with
  | none => rw [hs] at h; exact h
  | stdin => rw [hs] at h; exact h
  | own t =>
    rw [hs] at h
    obtain ⟨b, h1, h2, h3⟩ := h
    exact ⟨b, h1, (hb b h3).trans h2, h3⟩
theorem SrcAt.retag {w : World} {B : Nat} {T T' : Tags} {s : Strm} {p : Value} (h : SrcAt w B T s p) (ht : ∀ k, k < w.heap.size → T' k = T k) : SrcAt w B T' s p := by
  unfold SrcAt at h ⊢
  cases hs : s.src with
  | none => rw [hs] at h; exact h
  | stdin => rw [hs] at h; exact h
  | own t =>
    rw [hs] at h
    obtain ⟨b, h1, h2, h3⟩ := h
    exact ⟨b, h1, h2, (ht b (Array.getElem?_eq_some_iff.1 h2).1).trans h3⟩
structure Streams (w : World) (B : Nat) (T : Tags) (vs : Value) (ps : List Value) (l : List Strm) : Prop where
  len : ps.length = l.length
  row : w.ownsRow 0 113 3 vs l.length (flatS l ps)
  tag : ∀ k, vs.ownBlock = some k → T k = .streams
  each : ∀ (i : Nat) s p, l[i]? = some s → ps[i]? = some p → SrcAt w B T s p
  kinds : ∀ s ∈ l, 1 ≤ s.kind ∧ s.kind ≤ 5 ∧ Small s.name
  uniq : Uniq l

def Ev.cells (e : Ev) : List Value := [.int .u8 e.kind, .int .u8 e.stream, .string e.name, .string e.data, .int .i64 e.status]
def flatE (l : List Ev) : List Value := (l.map Ev.cells).flatten
structure Trace (w : World) (T : Tags) (vt : Value) (l : List Ev) : Prop where
  row : w.ownsRow 0 67 5 vt l.length (flatE l)
  tag : ∀ k, vt.ownBlock = some k → T k = .trace

structure WdAtS (sv : Value) (w : World) (B fm rm xm : Nat) (D : DataW Unit) (vs vt : Value) (ps : List Value) (T : Tags) (st : St) : Prop where
  blk : w.heap[B]? = some (.cells #[sv, .map (some fm), .string st.stdin, .map (some rm), .map (some xm), .int .i64 st.most, .int .i64 st.clock, .int .u64 st.chance, vs, vt] 86)
  tB : T B = .self
  tf : T fm = .files
  tr : T rm = .replies
  tx : T xm = .fails
  files : Files w T fm st.made D st.file
  replies : Replies w rm st.reply
  fails : Fails w xm st.fails
  streams : Streams w B T vs ps st.streams
  trace : Trace w T vt st.trace
  lt : ∀ k, T k ≠ .no → k < w.heap.size

/- What is of other parts stands. -/
theorem WdAtS.later {sv : Value} {w w' : World} {B fm rm xm : Nat} {D : DataW Unit} {vs vt : Value} {ps : List Value} {T : Tags} {st : St} (h : WdAtS sv w B fm rm xm D vs vt ps T st) (hs : w.heap.size ≤ w'.heap.size) (hb : ∀ k, T k ≠ .no → w'.heap[k]? = w.heap[k]?) : WdAtS sv w' B fm rm xm D vs vt ps T st where
  blk := (hb B (by rw [h.tB]; simp)).trans h.blk
  tB := h.tB
  tf := h.tf
  tr := h.tr
  tx := h.tx
  files := ⟨h.files.map.of_block (hb fm (by rw [h.tf]; simp)), fun n hn => (h.files.each n hn).later fun k hk => hb k (by rcases hk with hk | hk <;> rw [hk] <;> simp)⟩
  replies := h.replies.of_block (hb rm (by rw [h.tr]; simp))
  fails := h.fails.of_block (hb xm (by rw [h.tx]; simp))
  streams := { h.streams with row := row_of_block h.streams.row fun k hk => hb k (by rw [h.streams.tag k hk]; simp), each := fun i s p h1 h2 => (h.streams.each i s p h1 h2).later fun k hk => hb k (by rw [hk]; simp) }
  trace := { h.trace with row := row_of_block h.trace.row fun k hk => hb k (by rw [h.trace.tag k hk]; simp) }
  lt := fun k hk => Nat.lt_of_lt_of_le (h.lt k hk) hs
theorem WdAtS.below {sv : Value} {w w' : World} {B fm rm xm : Nat} {D : DataW Unit} {vs vt : Value} {ps : List Value} {T : Tags} {st : St} (h : WdAtS sv w B fm rm xm D vs vt ps T st) (hb : Below w.heap.size w w') : WdAtS sv w' B fm rm xm D vs vt ps T st :=
  h.later hb.size fun k hk => hb.block k (h.lt k hk)
abbrev WdAt (w : World) (B fm rm xm : Nat) (D : DataW Unit) (vs vt : Value) (ps : List Value) (T : Tags) (st : St) : Prop := WdAtS (ptr B) w B fm rm xm D vs vt ps T st
def Wd (w : World) (B : Nat) (T : Tags) (st : St) : Prop := ∃ fm rm xm D vs vt ps, WdAt w B fm rm xm D vs vt ps T st
theorem Wd.below {w w' : World} {B : Nat} {T : Tags} {st : St} (h : Wd w B T st) (hb : Below w.heap.size w w') : Wd w' B T st := by
  obtain ⟨fm, rm, xm, D, vs, vt, ps, h⟩ := h
  exact ⟨fm, rm, xm, D, vs, vt, ps, h.below hb⟩
theorem Wd.lt {w : World} {B : Nat} {T : Tags} {st : St} (h : Wd w B T st) : ∀ k, T k ≠ .no → k < w.heap.size := by
  obtain ⟨fm, rm, xm, D, vs, vt, ps, h⟩ := h
  exact h.lt
end Go.Proofs.Ythbkcdbmimhhkaa.Wo
