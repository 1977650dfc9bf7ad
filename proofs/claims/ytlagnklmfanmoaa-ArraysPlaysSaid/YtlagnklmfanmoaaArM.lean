/-
  Package arrays, beside it: arrays that a call has made, one and two; a number's cell.
-/
import Derived.Test.YtlagnklmfanmoaaArL
namespace Go.Proofs.Ytlagnklmfanmoaa.Ar
open Go.RowKit Go.Maps

theorem Next.mono {w w' : World} {a N M : Nat} {F : Nat → Prop} {L : List KV} (h : Next w w' a N F L) (hm : N ≤ M) : Next w w' a M F L := by
  obtain ⟨F', h1, h2, h3⟩ := h; exact ⟨F', h1.mono hm, h2, h3⟩

/- An array made behind w. -/
structure Mine (w wr : World) (a j : Nat) (L : List KV) : Prop where
  ex : ∃ F, Arr wr a j F L ∧ ∀ k, F k → w.heap.size ≤ k
  b : Below w.heap.size w wr
theorem Mine.below {w wr w2 : World} {a j : Nat} {L : List KV} (h : Mine w wr a j L) (hb : Below wr.heap.size wr w2) : Mine w w2 a j L := by
  obtain ⟨F, h1, h2⟩ := h.ex
  exact ⟨⟨F, h1.below hb, h2⟩, h.b.trans (hb.mono h.b.size)⟩
theorem Mine.next {w wr w2 : World} {a M : Nat} {F : Nat → Prop} {L' : List KV} (hb : Below w.heap.size w wr) (hF : ∀ k, F k → w.heap.size ≤ k) (h : Next wr w2 a M F L') : Mine w w2 a M L' := by
  obtain ⟨F', h1, h2, h3⟩ := h
  refine ⟨⟨F', h1, fun k hk => (h3 k hk).elim (hF k) fun h => Nat.le_trans hb.size h⟩, ?_⟩
  have ht := (Turn.of_below (S := F) hb).trans h2 fun i hi => .inl hi
  exact ht.below hF
theorem Mine.lift {w wr : World} {a j M : Nat} {L L' : List KV} {P : Program} {f : FuncId} {args : Array Value} {R : Ending → Prop} (h : Mine w wr a j L)
    (op : ∀ F, Arr wr a j F L → Calls P f args wr fun e w2 => R e ∧ Next wr w2 a M F L') : Calls P f args wr fun e w2 => R e ∧ Mine w w2 a M L' := by
  obtain ⟨F, h1, h2⟩ := h.ex
  exact (op F h1).mono fun e w2 ⟨he, hn⟩ => ⟨he, Mine.next h.b h2 hn⟩
theorem Mine.arr {w wr : World} {a j : Nat} {L : List KV} (h : Mine w wr a j L) : ∃ F, Arr wr a j F L := by
  obtain ⟨F, h1, _⟩ := h.ex; exact ⟨F, h1⟩
theorem Mine.mono {w wr : World} {a j k : Nat} {L : List KV} (h : Mine w wr a j L) (hk : j ≤ k) : Mine w wr a k L := by
  obtain ⟨F, h1, h2⟩ := h.ex; exact ⟨⟨F, h1.mono hk, h2⟩, h.b⟩
theorem Mine.length {w wr : World} {a j : Nat} {L : List KV} (h : Mine w wr a j L) : L.length ≤ j := by
  obtain ⟨F, h1⟩ := h.arr; exact h1.length

/- Two of them, apart. -/
structure Two (w wr : World) (a b j : Nat) (L M : List KV) : Prop where
  ex : ∃ F G, Arr wr a j F L ∧ Arr wr b j G M ∧ (∀ k, F k → w.heap.size ≤ k) ∧ (∀ k, G k → w.heap.size ≤ k) ∧ ∀ k, F k → ¬ G k
  b : Below w.heap.size w wr
theorem Two.swap {w wr : World} {a b j : Nat} {L M : List KV} (h : Two w wr a b j L M) : Two w wr b a j M L := by
  obtain ⟨F, G, h1, h2, h3, h4, h5⟩ := h.ex
  exact ⟨⟨G, F, h2, h1, h4, h3, fun k hg hf => h5 k hf hg⟩, h.b⟩
theorem Two.mono {w wr : World} {a b j k : Nat} {L M : List KV} (h : Two w wr a b j L M) (hk : j ≤ k) : Two w wr a b k L M := by
  obtain ⟨F, G, h1, h2, h3⟩ := h.ex
  exact ⟨⟨F, G, h1.mono hk, h2.mono hk, h3⟩, h.b⟩
theorem Two.below {w wr w2 : World} {a b j : Nat} {L M : List KV} (h : Two w wr a b j L M) (hb : Below wr.heap.size wr w2) : Two w w2 a b j L M := by
  obtain ⟨F, G, h1, h2, h3⟩ := h.ex
  exact ⟨⟨F, G, h1.below hb, h2.below hb, h3⟩, h.b.trans (hb.mono h.b.size)⟩
theorem Two.one {w wr : World} {a b j : Nat} {L M : List KV} (h : Two w wr a b j L M) : Mine w wr a j L := by
  obtain ⟨F, G, h1, h2, h3, _⟩ := h.ex
  exact ⟨⟨F, h1, h3⟩, h.b⟩
theorem Two.other {w wr : World} {a b j : Nat} {L M : List KV} (h : Two w wr a b j L M) : Mine w wr b j M := h.swap.one
theorem Two.next {w wr w2 : World} {a b j J : Nat} {F G : Nat → Prop} {L' M : List KV} (hb : Below w.heap.size w wr) (h2 : Arr wr b j G M) (h3 : ∀ k, F k → w.heap.size ≤ k) (h4 : ∀ k, G k → w.heap.size ≤ k) (h5 : ∀ k, F k → ¬ G k) (hJ : j ≤ J) (h : Next wr w2 a J F L') : Two w w2 a b J L' M := by
  have hm := (Mine.next hb h3 h).b
  obtain ⟨F', q1, q2, q3⟩ := h
  refine ⟨⟨F', G, q1, (h2.apart q2 fun k hg hf => h5 k hf hg).mono hJ, fun k hk => (q3 k hk).elim (h3 k) fun h => Nat.le_trans hb.size h, h4, fun k hk hg => ?_⟩, hm⟩
  rcases q3 k hk with h | h
  · exact h5 k h hg
  · have := h2.lt k hg; omega
theorem Two.lift {w wr : World} {a b j J : Nat} {L L' M : List KV} {P : Program} {f : FuncId} {args : Array Value} {R : Ending → Prop} (h : Two w wr a b j L M) (hJ : j ≤ J)
    (op : ∀ F, Arr wr a j F L → Calls P f args wr fun e w2 => R e ∧ Next wr w2 a J F L') : Calls P f args wr fun e w2 => R e ∧ Two w w2 a b J L' M := by
  obtain ⟨F, G, h1, h2, h3, h4, h5⟩ := h.ex
  exact (op F h1).mono fun e w2 ⟨he, hn⟩ => ⟨he, Two.next h.b h2 h3 h4 h5 hJ hn⟩
theorem Two.lift2 {w wr : World} {a b j J : Nat} {L M M' : List KV} {P : Program} {f : FuncId} {args : Array Value} {R : Ending → Prop} (h : Two w wr a b j L M) (hJ : j ≤ J)
    (op : ∀ F, Arr wr b j F M → Calls P f args wr fun e w2 => R e ∧ Next wr w2 b J F M') : Calls P f args wr fun e w2 => R e ∧ Two w w2 a b J L M' :=
  (h.swap.lift hJ op).mono fun _ _ ⟨he, hn⟩ => ⟨he, hn.swap⟩

/- The calls on what was made. -/
theorem Mine.new (w wr : World) (hb : Below w.heap.size w wr) : Calls Try.prog 8 #[] wr fun e w' => ∃ a, e = .returned (.pointer (some ⟨a, 0, none⟩)) ∧ Mine w w' a 0 [] :=
  (Ar.new wr).mono fun _ _ ⟨a, he, hA, hB⟩ => ⟨a, he, ⟨_, hA, fun _ hk => Nat.le_trans hb.size hk.1⟩, hb.trans (hB.mono hb.size)⟩
theorem setN {w : World} {a N : Nat} {F : Nat → Prop} {L : List KV} (s : ByteArray) (c : Cell) (h : Arr w a N F L) (hs : s.size ≤ 1000000) (hN : N < 1000000) :
    Calls Try.prog 9 #[.pointer (some ⟨a, 0, none⟩), .string s, .agg ⟨c.cells⟩] w fun e w' => e = .returned (.int .i64 0) ∧ Next w w' a (N + 1) F (setL L s c) :=
  (set s c h hs hN).mono fun _ _ ⟨he, hn⟩ => ⟨he, hn.mono (by split <;> omega)⟩
theorem getN {w : World} {a N : Nat} {F : Nat → Prop} {L : List KV} (s : ByteArray) (h : Arr w a N F L) (hs : s.size ≤ 1000000) (hN : N < 1000000) :
    Calls Try.prog 18 #[.pointer (some ⟨a, 0, none⟩), .string s] w fun e w' => e = .returned (.agg ⟨(cellL L s).cells⟩) ∧ Next w w' a (N + 1) F (askL L s) :=
  (get s h hs hN).mono fun _ _ ⟨he, hn⟩ => ⟨he, hn.mono (by split <;> omega)⟩
theorem Mine.copy {w wr : World} {a j : Nat} {L : List KV} (h : Mine w wr a j L) (hj : j ≤ 1000000) :
    Calls Try.prog 14 #[.pointer (some ⟨a, 0, none⟩)] wr fun e w' => ∃ b, e = .returned (.pointer (some ⟨b, 0, none⟩)) ∧ Two w w' a b j L L ∧ Below wr.heap.size wr w' := by
  obtain ⟨F, h1, h2⟩ := h.ex
  refine (Ar.copy h1 hj).mono fun e w' ⟨b, he, hA, hB⟩ => ⟨b, he, ⟨⟨F, _, h1.below hB, hA, h2, fun k hk => Nat.le_trans h.b.size hk.1, fun k hk hg => ?_⟩, h.b.trans (hB.mono h.b.size)⟩, hB⟩
  have := h1.lt k hk
  have := hg.1
  omega

def numC (n : Nat) : Cell := ⟨1, (n : Int), ⟨#[]⟩⟩
theorem num (n : Nat) (w : World) (hn : n ≤ 1000000) : Calls Try.prog 10 #[.int .i64 (n : Int)] w fun e w' => e = .returned (.agg ⟨(numC n).cells⟩) ∧ Below w.heap.size w w' := by
  go_enter Try.func10, Try.ntmps10
  go_wp2_with fail
  refine bodyPost_ret (v := .agg ⟨(numC n).cells⟩) (by simp [results, Try.results10, go_sem, Cell.cells, numC]) rfl ?_
  exact ⟨rfl, (Below.refl _ w).alloc (Nat.le_refl _) _⟩
end Go.Proofs.Ytlagnklmfanmoaa.Ar
