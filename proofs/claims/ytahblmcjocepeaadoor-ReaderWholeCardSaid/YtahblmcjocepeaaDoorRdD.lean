/-
  Package reader: more is read (the closure of next).
-/
import Derived.Test.YtahblmcjocepeaaDoorRdB
import Derived.Test.YtahblmcjocepeaaDoorRdC
import Derived.Test.YtahblmcjocepeaaDoorRgB
namespace Go.Proofs.YtahblmcjocepeaaDoor.Rd
open Go.RowKit Go.Maps Wo

/- A stream of a world, whose whole is tot: what was asked for up to p. -/
structure Src (B : Nat) (k : Int) (n tot : ByteArray) (G : Nat → St → Prop) : Prop where
  le : ∀ p st, G p st → p ≤ tot.size
  read : ∀ p st, G p st → ∀ w fm rm xm D vs vt ps T, WdAt w B fm rm xm D vs vt ps T st → Calls Tryd.prog 20 #[ptr B, .int .u8 k, .string n, .int .i64 512] w fun e w2 => ∃ st2, (e = .returned (.tuple #[.string (tot.extract p (min (p + 512) tot.size)), .int .i64 0]) ∧ G (min (p + 512) tot.size) st2) ∧ Goes w w2 B T st2
def bufL : Option Nat → List Nat
  | none => []
  | some k => [k]
abbrev rdC (rb B : Nat) (k : Int) (n left : ByteArray) (over e0 : Bool) : Array Value := #[ptr rb, ptr B, .int .u8 k, .string n, .string left, .bool over, .bool e0]
abbrev moreF (b2 eb t8 : Nat) : Value := .func (Fn.func 63) #[] #[ptr b2, ptr eb, ptr t8]
structure Blks where
  rb : Nat
  b2 : Nat
  eb : Nat
  t8 : Nat
  tt : Nat
abbrev Blks.l (x : Blks) : List Nat := [x.rb, x.b2, x.eb, x.t8, x.tt]
structure Cst where
  B : Nat
  k : Int
  n : ByteArray
  tot : ByteArray
  left : ByteArray
  e0 : Bool
  G : Nat → St → Prop
structure Nx (w0 w : World) (c : Cst) (x : Blks) (buf : Option Nat) (pa p : Nat) (over : Bool) (bx : List Nat) : Prop where
  rp : ∃ st, Rp w0 w c.B st (bufL buf ++ (x.l ++ bx)) ∧ c.G p st
  r : w.heap[x.rb]? = some (.cells (rdC x.rb c.B c.k c.n c.left over c.e0) 74)
  b : w.heap[x.b2]? = some (.cells #[ptr x.rb] 38)
  e : w.heap[x.eb]? = some (.cells #[.int .i64 0] 25)
  t : w.heap[x.t8]? = some (.cells #[ptr x.tt] 137)
  tx : Tx w x.tt buf (c.tot.extract 0 pa) (moreF x.b2 x.eb x.t8)
  ov : over = true → p = c.tot.size
  nd : (∀ b ∈ x.l, b ∉ bx) ∧ ∀ k, buf = some k → k ∉ bx
section
variable {w0 w : World} {c : Cst} {x : Blks} {buf : Option Nat} {pa p : Nat} {over : Bool} {bx : List Nat}
theorem cell_of {w : World} {b : Nat} {cs : Array Value} {t : TypeId} (h : w.heap[b]? = some (.cells cs t)) (i : Nat) : w.cell? ⟨b, i, none⟩ = cs[i]? := by simp [World.cell?, h]
theorem frozen_of {w : World} {b : Nat} {cs : Array Value} {t : TypeId} (h : w.heap[b]? = some (.cells cs t)) (i : Nat) : w.frozen? ⟨b, i, none⟩ = false := by simp [World.frozen?, h]
/- Nothing of this is turned. -/
theorem Nx.kept {w2 : World} {st2 : St} {p2 : Nat} (h : Nx w0 w c x buf pa p over bx) (hr : Rp w0 w2 c.B st2 (bufL buf ++ (x.l ++ bx))) (hg : c.G p2 st2) (hk : Keep (bufL buf ++ (x.l ++ bx)) w w2) (ho : over = true → p2 = c.tot.size) : Nx w0 w2 c x buf pa p2 over bx :=
  ⟨⟨st2, hr, hg⟩, (hk _ (by simp)).trans h.r, (hk _ (by simp)).trans h.b, (hk _ (by simp)).trans h.e, (hk _ (by simp)).trans h.t, h.tx.later (hk _ (by simp)) fun k e => hk k (by simp [e, bufL]), ho, h.nd⟩
theorem Nx.below {w2 : World} (h : Nx w0 w c x buf pa p over bx) (hb : Below w.heap.size w w2) : Nx w0 w2 c x buf pa p over bx := by
  obtain ⟨st, h1, h2⟩ := h.rp
  obtain ⟨q1, q2⟩ := h1.below hb
  exact h.kept q1 h2 q2 h.ov
theorem heap_same {w : World} {b : Nat} {cs : Array Value} {t : TypeId} {i : Nat} {v : Value} (h : w.heap[b]? = some (.cells cs t)) (hv : cs.setIfInBounds i v = cs) (k : Nat) : (w.setCell ⟨b, i, none⟩ v).heap[k]? = w.heap[k]? := by
  by_cases e : k = b
  · subst e
    rw [blk_set h, hv, h]
  · exact heap_set _ _ _ e
theorem Nx.setErr (h : Nx w0 w c x buf pa p over bx) : Nx w0 (w.setCell ⟨x.eb, 0, none⟩ (.int .i64 0)) c x buf pa p over bx := by
  obtain ⟨st, h1, h2⟩ := h.rp
  have hh := fun k => heap_same (i := 0) (v := .int .i64 0) h.e rfl k
  exact h.kept (h1.turn ((Turn.of_set w ⟨x.eb, 0, none⟩ _).mono fun k hk => by rw [hk]; simp)) h2 (fun b _ => hh b) h.ov
theorem Nx.setOver (h : Nx w0 w c x buf pa p over bx) (hp : p = c.tot.size) : Nx w0 (w.setCell ⟨x.rb, 5, none⟩ (.bool true)) c x buf pa p true bx := by
  obtain ⟨st, h1, h2⟩ := h.rp
  have hn : ∀ {k : Nat} {cs : Array Value} {t : TypeId}, w.heap[k]? = some (.cells cs t) → t ≠ 74 → k ≠ x.rb := fun hk ht e => by
    rw [e, h.r] at hk
    simp only [Option.some.injEq, Obj.cells.injEq] at hk
    exact ht hk.2.1.symm
  have htt : x.tt ≠ x.rb := by
    obtain ⟨l, ⟨p, v, _, hq, _⟩, _⟩ := h.tx
    exact hn hq (by decide)
  have hbf : ∀ k, buf = some k → k ≠ x.rb := fun k hk => by
    obtain ⟨l, ⟨p, v, _, hq, hrow, _, rfl⟩, _⟩ := h.tx
    exact fun e => Lib.ownBlock_neF hrow h.r (by decide) (e ▸ hk)
  refine ⟨⟨st, h1.turn ((Turn.of_set w ⟨x.rb, 5, none⟩ _).mono fun k hk => by rw [hk]; simp), h2⟩, ?_, (heap_set _ _ _ (hn h.b (by decide))).trans h.b, (heap_set _ _ _ (hn h.e (by decide))).trans h.e, (heap_set _ _ _ (hn h.t (by decide))).trans h.t, h.tx.later (heap_set _ _ _ htt) (fun k hk => heap_set _ _ _ (hbf k hk)), fun _ => hp, h.nd⟩
  rw [blk_set h.r]; rfl
theorem Nx.cells (h : Nx w0 w c x buf pa p over bx) : w.cell? ⟨x.b2, 0, none⟩ = some (ptr x.rb) ∧ w.cell? ⟨x.eb, 0, none⟩ = some (.int .i64 0) ∧ w.frozen? ⟨x.eb, 0, none⟩ = false ∧ w.cell? ⟨x.t8, 0, none⟩ = some (ptr x.tt) ∧ w.cell? ⟨x.rb, 5, none⟩ = some (.bool over) ∧ w.frozen? ⟨x.rb, 5, none⟩ = false :=
  ⟨cell_of h.b 0, cell_of h.e 0, frozen_of h.e 0, cell_of h.t 0, cell_of h.r 5, frozen_of h.r 5⟩
/- A piece is put behind. -/
theorem Nx.added {w2 : World} {buf2 : Option Nat} {p2 : Nat} (h : Nx w0 w c x buf pa p over bx) (ht : Tx w2 x.tt buf2 (c.tot.extract 0 p2) (moreF x.b2 x.eb x.t8)) (hT : Turn (fun k => k = x.tt ∨ some k = buf) w w2) (hn : ∀ k, buf2 = some k → buf = some k ∨ w.heap.size ≤ k) : Nx w0 w2 c x buf2 p2 p over bx ∧ Keep bx w w2 := by
  obtain ⟨st, h1, h2⟩ := h.rp
  have hne : ∀ {k : Nat} {cs : Array Value} {t : TypeId}, w.heap[k]? = some (.cells cs t) → t ≠ 139 → t ≠ 5 → ¬ (k = x.tt ∨ some k = buf) := fun {k cs t} hk ht1 ht2 e => by
    obtain ⟨l, ⟨p, v, _, hq, hrow, _, hb⟩, _⟩ := h.tx
    rcases e with e | e
    · rw [e, hq] at hk
      simp only [Option.some.injEq, Obj.cells.injEq] at hk
      exact ht1 hk.2.1.symm
    · exact Lib.ownBlock_neF hrow hk ht2 (hb.trans e.symm)
  have lt : ∀ {k : Nat} {o : Obj}, w.heap[k]? = some o → k < w.heap.size := fun hk => (Array.getElem?_eq_some_iff.1 hk).1
  have st2 : ∀ {k : Nat} {cs : Array Value} {t : TypeId}, w.heap[k]? = some (.cells cs t) → t ≠ 139 → t ≠ 5 → w2.heap[k]? = some (Obj.cells cs t) := fun hk a b => (hT.block _ (lt hk) (hne hk a b)).trans hk
  have hrp : Rp w0 w2 c.B st (bufL buf2 ++ (x.l ++ bx)) := by
    refine (h1.turnMore (hT.mono fun k hk => ?_) (nb := bufL buf2) fun b hb => ?_).less fun b hb => ?_
    · rcases hk with e | e
      · rw [e]; simp
      · simp [← e, bufL]
    · cases buf2 with
      | none => simp [bufL] at hb
      | some k =>
        obtain rfl : b = k := by simpa [bufL] using hb
        rcases hn b rfl with e | e
        · exact .inr (by simp [e, bufL])
        · exact .inl ⟨e, ht.ltBuf b rfl⟩
    · rcases List.mem_append.1 hb with hb | hb
      · exact List.mem_append_left _ hb
      · exact List.mem_append_right _ (List.mem_append_right _ hb)
  have hlt : ∀ b ∈ bx, b < w.heap.size := fun b hb => (h1.lt (b := b) (by simp [hb])).1
  refine ⟨⟨⟨st, hrp, h2⟩, st2 h.r (by decide) (by decide), st2 h.b (by decide) (by decide), st2 h.e (by decide) (by decide), st2 h.t (by decide) (by decide), ht, h.ov, h.nd.1, fun k hk hm => ?_⟩, fun b hb => hT.block b (hlt b hb) fun e => ?_⟩
  · rcases hn k hk with e | e
    · exact h.nd.2 k e hm
    · have := hlt k hm; omega
  · rcases e with e | e
    · exact h.nd.1 x.tt (by simp) (e ▸ hb)
    · exact h.nd.2 b e.symm hb
end
theorem Nx.more {w0 w : World} {c : Cst} {x : Blks} {buf : Option Nat} {pa p : Nat} {over : Bool} {bx : List Nat} (h : Nx w0 w c x buf pa p over bx) {w2 : World} (hb : Below w.heap.size w w2) {nb : List Nat} (hn : ∀ b ∈ nb, w.heap.size ≤ b ∧ b < w2.heap.size) : Nx w0 w2 c x buf pa p over (nb ++ bx) ∧ Keep bx w w2 := by
  obtain ⟨st, h1, h2⟩ := h.rp
  obtain ⟨q1, q2⟩ := h1.more hb hn
  have hl : ∀ b ∈ x.l, b < w.heap.size := fun b hb => (h1.lt (b := b) (List.mem_append_right _ (List.mem_append_left _ hb))).1
  have hbf : ∀ k, buf = some k → k < w.heap.size := fun k hk => (h1.lt (b := k) (by simp [hk, bufL])).1
  have hk := h.below hb
  refine ⟨⟨⟨st, q1.less fun b hb => ?_, h2⟩, hk.r, hk.b, hk.e, hk.t, hk.tx, hk.ov, fun b hb hm => ?_, fun k hk2 hm => ?_⟩, fun b hb => q2 b (by simp [hb])⟩
  · simp only [List.mem_append] at hb ⊢
    rcases hb with hb | hb | hb | hb
    · exact .inr (.inl hb)
    · exact .inr (.inr (.inl hb))
    · exact .inl hb
    · exact .inr (.inr (.inr hb))
  · rcases List.mem_append.1 hm with hm | hm
    · have := hl b hb; have := (hn b hm).1; omega
    · exact h.nd.1 b hb hm
  · rcases List.mem_append.1 hm with hm | hm
    · have := hbf k hk2; have := (hn k hm).1; omega
    · exact h.nd.2 k hk2 hm
theorem Nx.less {w0 w : World} {c : Cst} {x : Blks} {buf : Option Nat} {pa p : Nat} {over : Bool} {bx bx2 : List Nat} (h : Nx w0 w c x buf pa p over bx) (hs : ∀ b ∈ bx2, b ∈ bx) : Nx w0 w c x buf pa p over bx2 := by
  obtain ⟨st, h1, h2⟩ := h.rp
  refine ⟨⟨st, h1.less fun b hb => ?_, h2⟩, h.r, h.b, h.e, h.t, h.tx, h.ov, fun b hb hm => h.nd.1 b hb (hs b hm), fun k hk hm => h.nd.2 k hk (hs k hm)⟩
  simp only [List.mem_append] at hb ⊢
  rcases hb with hb | hb | hb
  · exact .inl hb
  · exact .inr (.inl hb)
  · exact .inr (.inr (hs b hb))
/- A block beside is turned. -/
theorem Nx.turn {w0 w w2 : World} {c : Cst} {x : Blks} {buf : Option Nat} {pa p : Nat} {over : Bool} {bx : List Nat} (h : Nx w0 w c x buf pa p over bx) {b : Nat} (hb : b ∈ bx) (t : Turn (fun k => k = b) w w2) : Nx w0 w2 c x buf pa p over bx := by
  obtain ⟨st, h1, h2⟩ := h.rp
  have hlt : ∀ k, k ∈ bufL buf ++ (x.l ++ bx) → k < w.heap.size := fun k hk => (h1.lt hk).1
  have hl : ∀ k ∈ x.l, w2.heap[k]? = w.heap[k]? := fun k hk => t.block k (hlt k (by simp only [List.mem_append]; exact .inr (.inl hk))) fun e => h.nd.1 k hk (e ▸ hb)
  refine ⟨⟨st, h1.turn (t.mono fun k hk => by rw [hk]; simp [hb]), h2⟩, (hl _ (by simp)).trans h.r, (hl _ (by simp)).trans h.b, (hl _ (by simp)).trans h.e, (hl _ (by simp)).trans h.t, h.tx.later (hl _ (by simp)) fun k e => t.block k (hlt k (by simp [e, bufL])) fun e2 => h.nd.2 k e (e2 ▸ hb), h.ov, h.nd⟩
theorem ext_add (s : ByteArray) {p q : Nat} (h : p ≤ q) (hq : q ≤ s.size) : s.extract 0 p ++ s.extract p q = s.extract 0 q := by
  rw [ByteArray.extract_append_extract]
  congr 1 <;> omega
end Go.Proofs.YtahblmcjocepeaaDoor.Rd
