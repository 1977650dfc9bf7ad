/-
  Package world: builders in memory, with blocks that are known: writing, reading, emptying.
-/
import Derived.Test.YtahblmcjocepeaaDoorWoP
import Derived.StillTail
import Derived.StillTailTactics
import Derived.Shelf.Strings.BuilderK
namespace Go.Proofs.YtahblmcjocepeaaDoor.Wo
open Go.RowKit Go.Maps

structure Turn (S : Nat → Prop) (w w' : World) : Prop where
  os : w'.os = w.os
  tape : w'.tape = w.tape
  output : w'.output = w.output
  size : w.heap.size ≤ w'.heap.size
  block : ∀ k, k < w.heap.size → ¬ S k → w'.heap[k]? = w.heap[k]?
theorem Turn.of_below {S : Nat → Prop} {w w' : World} (h : Below w.heap.size w w') : Turn S w w' := ⟨h.os, h.tape, h.output, h.size, fun k hk _ => h.block k hk⟩
theorem Turn.refl (S : Nat → Prop) (w : World) : Turn S w w := Turn.of_below (Below.refl _ w)
theorem Turn.trans {S S1 : Nat → Prop} {a b c : World} (h : Turn S a b) (k : Turn S1 b c) (hs : ∀ i, S1 i → S i ∨ a.heap.size ≤ i) : Turn S a c :=
  ⟨k.os.trans h.os, k.tape.trans h.tape, k.output.trans h.output, Nat.le_trans h.size k.size, fun i hi hn => (k.block i (Nat.lt_of_lt_of_le hi h.size) fun h1 => by
    rcases hs i h1 with h2 | h2
    · exact hn h2
    · omega).trans (h.block i hi hn)⟩
theorem Turn.mono {S S1 : Nat → Prop} {a b : World} (h : Turn S a b) (hs : ∀ i, S i → S1 i) : Turn S1 a b := ⟨h.os, h.tape, h.output, h.size, fun i hi hn => h.block i hi fun h1 => hn (hs i h1)⟩
theorem Turn.below {S : Nat → Prop} {a b : World} (h : Turn S a b) (hs : ∀ i, S i → a.heap.size ≤ i) : Below a.heap.size a b := ⟨h.os, h.tape, h.output, h.size, fun i hi => h.block i hi fun h1 => by have := hs i h1; omega⟩
theorem size_set (w : World) (p : Addr) (u : Value) : (w.setCell p u).heap.size = w.heap.size := by simp [World.setCell]
theorem heap_set (w : World) (p : Addr) (u : Value) {k : Nat} (h : k ≠ p.block) : (w.setCell p u).heap[k]? = w.heap[k]? := Below.heap_setCell w p u k h
theorem Turn.of_set (w : World) (p : Addr) (u : Value) : Turn (fun k => k = p.block) w (w.setCell p u) := ⟨rfl, rfl, rfl, by rw [size_set]; exact Nat.le_refl _, fun _ _ hn => heap_set w p u hn⟩
theorem Turn.of_grown {w w' : World} {row : Option Nat} (h : w.grownBy w' row) : Turn (fun k => some k = row) w w' := ⟨h.os, h.tape, h.output, h.size, fun k hk hn => h.block k hk hn⟩
theorem Turn.of_freeze (w : World) (p : Addr) (n : Nat) : Turn (fun k => k = p.block) w (w.freeze p n) := by
  unfold World.freeze
  split
  · exact Turn.refl _ w
  · exact ⟨rfl, rfl, rfl, by simp, fun k _ hn => by
      simp only [Array.getElem?_modify]
      rw [if_neg fun e => hn e.symm]⟩

abbrev ptr (b : Nat) : Value := .pointer (some ⟨b, 0, none⟩)
structure Bd (w : World) (b : Nat) (buf : Option Nat) (l : List UInt8) : Prop where
  ex : ∃ p v, (p = .pointer none ∨ p = ptr b) ∧ w.heap[b]? = some (.cells #[p, v] 91) ∧ w.ownsRowF 0 5 1 v l.length (Lib.byteCells l) ∧ (l = [] → v = .slice none 0 0) ∧ v.ownBlock = buf
theorem Bd.apart {w : World} {b : Nat} {buf : Option Nat} {l : List UInt8} (h : Bd w b buf l) : buf ≠ some b := by
  obtain ⟨p, v, _, h2, h3, _, rfl⟩ := h
  exact Lib.ownBlock_neF h3 h2 (by decide)
theorem Bd.lt {w : World} {b : Nat} {buf : Option Nat} {l : List UInt8} (h : Bd w b buf l) : b < w.heap.size := by
  obtain ⟨p, v, _, h2, _⟩ := h
  exact (Array.getElem?_eq_some_iff.1 h2).1
theorem Bd.ltBuf {w : World} {b : Nat} {buf : Option Nat} {l : List UInt8} (h : Bd w b buf l) : ∀ k, buf = some k → k < w.heap.size := by
  obtain ⟨p, v, _, h2, h3, _, rfl⟩ := h
  exact fun k hk => (h3.lt k hk).2
theorem rowF_of_block {w w' : World} {base : Nat} {e : TypeId} {size n : Nat} {v : Value} {xs : List Value} (h : w.ownsRowF base e size v n xs) (hb : ∀ k, v.ownBlock = some k → w'.heap[k]? = w.heap[k]?) : w'.ownsRowF base e size v n xs := by
  refine ⟨h.1, ?_⟩
  rcases h.2 with h1 | ⟨g, cap, cur, fz, rfl, h2, h3, h4⟩
  · exact .inl h1
  · exact .inr ⟨g, cap, cur, fz, rfl, h2, (hb g rfl).trans h3, h4⟩
theorem row_of_block {w w' : World} {base : Nat} {e : TypeId} {size n : Nat} {v : Value} {xs : List Value} (h : w.ownsRow base e size v n xs) (hb : ∀ k, v.ownBlock = some k → w'.heap[k]? = w.heap[k]?) : w'.ownsRow base e size v n xs := by
  refine ⟨h.1, ?_⟩
  rcases h.2 with h1 | ⟨g, cap, cur, rfl, h2, h3, h4⟩
  · exact .inl h1
  · exact .inr ⟨g, cap, cur, rfl, h2, (hb g rfl).trans h3, h4⟩
theorem Bd.later {w w' : World} {b : Nat} {buf : Option Nat} {l : List UInt8} (h : Bd w b buf l) (hb : w'.heap[b]? = w.heap[b]?) (hg : ∀ k, buf = some k → w'.heap[k]? = w.heap[k]?) : Bd w' b buf l := by
  obtain ⟨p, v, h1, h2, h3, h4, rfl⟩ := h
  exact ⟨p, v, h1, hb.trans h2, rowF_of_block h3 hg, h4, rfl⟩
theorem Bd.below {w w' : World} {b : Nat} {buf : Option Nat} {l : List UInt8} (h : Bd w b buf l) (hb : Below w.heap.size w w') : Bd w' b buf l :=
  h.later (hb.block b h.lt) fun k hk => hb.block k (h.ltBuf k hk)
theorem Bd.made {w : World} {b : Nat} (h : w.heap[b]? = some (.cells #[.pointer none, .slice none 0 0] 91)) : Bd w b none [] :=
  ⟨_, _, .inl rfl, h, World.ownsRowF_nil _ _ _ _, fun _ => rfl, rfl⟩
end Go.Proofs.YtahblmcjocepeaaDoor.Wo
