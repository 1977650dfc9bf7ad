/-
  ArraysPlays: an array and the document's list, side by side; the document's Key.
-/
import Derived.Test.YtlagnklmfanmoaaArZ
namespace Go.Proofs.Ytlagnklmfanmoaa.Ar
open Go.RowKit Go.Maps

structure Play (Q : Nat → Prop) (w wr : World) (a j : Nat) (L : List KV) (v : Value) (M : List KV) : Prop where
  ex : ∃ F, Arr wr a j F L ∧ (∀ k, F k → w.heap.size ≤ k) ∧ (∀ k, v.ownBlock = some k → ¬ F k) ∧ ∀ k, Q k → ¬ F k
  items : Items w.heap.size wr v M
  b : Below w.heap.size w wr
def noQ : Nat → Prop := fun _ => False
def Kept (Q : Nat → Prop) (w w' : World) : Prop := w.heap.size ≤ w'.heap.size ∧ ∀ k, Q k → k < w.heap.size → w'.heap[k]? = w.heap[k]?
theorem Play.start {w wr : World} {a j : Nat} {L : List KV} (h : Mine w wr a j L) : Play noQ w wr a j L (.slice none 0 0) [] := by
  obtain ⟨F, h1, h2⟩ := h.ex
  exact ⟨⟨F, h1, h2, (fun k hk => by cases hk), fun k hk => False.elim hk⟩, World.ownsRow_nil _ _ _ _, h.b⟩
theorem Play.mine {Q : Nat → Prop} {w wr : World} {a j : Nat} {L M : List KV} {v : Value} (h : Play Q w wr a j L v M) : Mine w wr a j L := by
  obtain ⟨F, h1, h2, _⟩ := h.ex
  exact ⟨⟨F, h1, h2⟩, h.b⟩
theorem Play.arr {Q : Nat → Prop} {w wr : World} {a j : Nat} {L M : List KV} {v : Value} (h : Play Q w wr a j L v M) : ∃ F, Arr wr a j F L := h.mine.arr
theorem Play.empty {Q : Nat → Prop} {w wr : World} {a j : Nat} {L M : List KV} {v : Value} (h : Play Q w wr a j L v M) : Play Q w wr a j L (.slice none 0 0) [] := by
  obtain ⟨F, h1, h2, _, h4⟩ := h.ex
  exact ⟨⟨F, h1, h2, (fun k hk => by cases hk), h4⟩, World.ownsRow_nil _ _ _ _, h.b⟩
theorem Play.mono {Q : Nat → Prop} {w wr : World} {a j k : Nat} {L M : List KV} {v : Value} (h : Play Q w wr a j L v M) (hk : j ≤ k) : Play Q w wr a k L v M := by
  obtain ⟨F, h1, h2⟩ := h.ex
  exact ⟨⟨F, h1.mono hk, h2⟩, h.items, h.b⟩
theorem Play.drop {Q : Nat → Prop} {w wr : World} {a j : Nat} {L M : List KV} {v : Value} (h : Play Q w wr a j L v M) : Play noQ w wr a j L v M := by
  obtain ⟨F, h1, h2, h3, _⟩ := h.ex
  exact ⟨⟨F, h1, h2, h3, fun k hk => False.elim hk⟩, h.items, h.b⟩
theorem Play.below {Q : Nat → Prop} {w wr w2 : World} {a j : Nat} {L M : List KV} {v : Value} (h : Play Q w wr a j L v M) (hb : Below wr.heap.size wr w2) : Play Q w w2 a j L v M := by
  obtain ⟨F, h1, h2⟩ := h.ex
  exact ⟨⟨F, h1.below hb, h2⟩, h.items.below hb, h.b.trans (hb.mono h.b.size)⟩
theorem Play.box {Q : Nat → Prop} {w wr : World} {a j : Nat} {L M : List KV} {v : Value} (h : Play Q w wr a j L v M) (o : Obj) : Play (fun k => k = wr.heap.size) w (wr.alloc o) a j L v M := by
  have hb : Below wr.heap.size wr (wr.alloc o) := (Below.refl _ wr).alloc (Nat.le_refl _) o
  obtain ⟨F, h1, h2, h3, _⟩ := h.ex
  exact ⟨⟨F, h1.below hb, h2, h3, fun k hk hf => by have := h1.lt k hf; omega⟩, h.items.below hb, h.b.trans (hb.mono h.b.size)⟩
theorem Play.lift {Q : Nat → Prop} {w wr : World} {a j J : Nat} {L L' M : List KV} {v : Value} {P : Program} {f : FuncId} {args : Array Value} {R : Ending → Prop} (h : Play Q w wr a j L v M) (hQ : ∀ k, Q k → k < wr.heap.size)
    (op : ∀ F, Arr wr a j F L → Calls P f args wr fun e w2 => R e ∧ Next wr w2 a J F L') : Calls P f args wr fun e w2 => R e ∧ Play Q w w2 a J L' v M ∧ Kept Q wr w2 := by
  obtain ⟨F, h1, h2, h3, h9⟩ := h.ex
  refine (op F h1).mono fun e w2 ⟨he, hn⟩ => ⟨he, ?_⟩
  have hm := Mine.next h.b h2 hn
  obtain ⟨F', q1, q2, q3⟩ := hn
  refine ⟨⟨⟨F', q1, fun k hk => (q3 k hk).elim (h2 k) fun h4 => Nat.le_trans h.b.size h4, fun k hk hf => ?_, fun k hk hf => ?_⟩, h.items.of_block fun k hk => q2.block k (h.items.lt k hk).2 (h3 k hk), hm.b⟩, q2.size, fun k hk hlt => q2.block k hlt (h9 k hk)⟩
  · rcases q3 k hf with h4 | h4
    · exact h3 k hk h4
    · have := (h.items.lt k hk).2
      omega
  · rcases q3 k hf with h4 | h4
    · exact h9 k hk h4
    · have := hQ k hk
      omega
theorem Play.ref {Q : Nat → Prop} {w wr w2 : World} {a j : Nat} {L M M2 : List KV} {v v2 : Value} (h : Play Q w wr a j L v M) (hb : Below wr.heap.size wr w2) (hI : Items wr.heap.size w2 v2 M2) : Play Q w w2 a j L v2 M2 := by
  obtain ⟨F, h1, h2, h3, h9⟩ := h.ex
  refine ⟨⟨F, h1.below hb, h2, fun k hk hf => ?_, h9⟩, hI.base h.b.size, h.b.trans (hb.mono h.b.size)⟩
  have := (hI.lt k hk).1
  have := h1.lt k hf
  omega

/- Two arrays, and the list: what is done to the first turns neither of the others. -/
structure Play2 (Q : Nat → Prop) (w wr : World) (a b j : Nat) (L L2 : List KV) (v : Value) (M : List KV) : Prop where
  ex : ∃ F G, Arr wr a j F L ∧ Arr wr b j G L2 ∧ (∀ k, F k → w.heap.size ≤ k) ∧ (∀ k, G k → w.heap.size ≤ k) ∧ (∀ k, F k → ¬ G k) ∧ (∀ k, v.ownBlock = some k → ¬ F k) ∧ (∀ k, v.ownBlock = some k → ¬ G k) ∧ (∀ k, Q k → ¬ F k) ∧ ∀ k, Q k → ¬ G k
  items : Items w.heap.size wr v M
  b : Below w.heap.size w wr
theorem Play.copy {Q : Nat → Prop} {w wr : World} {a j : Nat} {L M : List KV} {v : Value} (h : Play Q w wr a j L v M) (hQ : ∀ k, Q k → k < wr.heap.size) (hj : j ≤ 1000000) :
    Calls Try.prog 14 #[.pointer (some ⟨a, 0, none⟩)] wr fun e w' => ∃ b, e = .returned (.pointer (some ⟨b, 0, none⟩)) ∧ Play2 Q w w' a b j L L v M ∧ Below wr.heap.size wr w' := by
  obtain ⟨F, h1, h2, h3, h9⟩ := h.ex
  refine (Ar.copy h1 hj).mono fun e w' ⟨b, he, hA, hB⟩ => ⟨b, he, ⟨⟨F, _, h1.below hB, hA, h2, fun k hk => Nat.le_trans h.b.size hk.1, fun k hk hg => ?_, h3, fun k hk hg => ?_, h9, fun k hk hg => ?_⟩, h.items.below hB, h.b.trans (hB.mono h.b.size)⟩, hB⟩
  · have := h1.lt k hk
    have := hg.1
    omega
  · have := (h.items.lt k hk).2
    have := hg.1
    omega
  · have := hQ k hk
    have := hg.1
    omega
theorem Play2.below {Q : Nat → Prop} {w wr w2 : World} {a b j : Nat} {L L2 M : List KV} {v : Value} (h : Play2 Q w wr a b j L L2 v M) (hb : Below wr.heap.size wr w2) : Play2 Q w w2 a b j L L2 v M := by
  obtain ⟨F, G, h1, h2, h3⟩ := h.ex
  exact ⟨⟨F, G, h1.below hb, h2.below hb, h3⟩, h.items.below hb, h.b.trans (hb.mono h.b.size)⟩
theorem Play2.lift {Q : Nat → Prop} {w wr : World} {a b j J : Nat} {L L' L2 M : List KV} {v : Value} {P : Program} {f : FuncId} {args : Array Value} {R : Ending → Prop} (h : Play2 Q w wr a b j L L2 v M) (hQ : ∀ k, Q k → k < wr.heap.size) (hJ : j ≤ J)
    (op : ∀ F, Arr wr a j F L → Calls P f args wr fun e w2 => R e ∧ Next wr w2 a J F L') : Calls P f args wr fun e w2 => R e ∧ Play2 Q w w2 a b J L' L2 v M ∧ Kept Q wr w2 := by
  obtain ⟨F, G, h1, h2, h3, h4, h5, h6, h7, h8, h9⟩ := h.ex
  refine (op F h1).mono fun e w2 ⟨he, hn⟩ => ⟨he, ?_⟩
  have hm := Mine.next h.b h3 hn
  obtain ⟨F', q1, q2, q3⟩ := hn
  refine ⟨⟨⟨F', G, q1, (h2.apart q2 fun k hg hf => h5 k hf hg).mono hJ, fun k hk => (q3 k hk).elim (h3 k) fun h10 => Nat.le_trans h.b.size h10, h4, fun k hk hg => ?_, fun k hk hf => ?_, h7, fun k hk hf => ?_, h9⟩, h.items.of_block fun k hk => q2.block k (h.items.lt k hk).2 (h6 k hk), hm.b⟩, q2.size, fun k hk hlt => q2.block k hlt (h8 k hk)⟩
  · rcases q3 k hk with h10 | h10
    · exact h5 k h10 hg
    · have := h2.lt k hg; omega
  · rcases q3 k hf with h10 | h10
    · exact h6 k hk h10
    · have := (h.items.lt k hk).2; omega
  · rcases q3 k hf with h10 | h10
    · exact h8 k hk h10
    · have := hQ k hk; omega
theorem Play2.other {Q : Nat → Prop} {w wr : World} {a b j : Nat} {L L2 M : List KV} {v : Value} (h : Play2 Q w wr a b j L L2 v M) : Play Q w wr b j L2 v M := by
  obtain ⟨F, G, h1, h2, h3, h4, h5, h6, h7, h8, h9⟩ := h.ex
  exact ⟨⟨G, h2, h4, h7, h9⟩, h.items, h.b⟩

/- The call that is being played, in a block of its own. -/
structure Own5 (w : World) (q : Nat) (kind : Int) (key : ByteArray) (ck cn : Int) (cs : ByteArray) : Prop where
  x0 : w.cell? ⟨q, 0, none⟩ = some (.int .i64 kind)
  x1 : w.cell? ⟨q, 1, none⟩ = some (.string key)
  x2 : w.cell? ⟨q, 2, none⟩ = some (.int .u8 ck)
  x3 : w.cell? ⟨q, 3, none⟩ = some (.int .u64 cn)
  x4 : w.cell? ⟨q, 4, none⟩ = some (.string cs)
  lt : q < w.heap.size
theorem own5 {w : World} {q : Nat} {kind : Int} {key : ByteArray} {ck cn : Int} {cs : ByteArray} (h : w.heap[q]? = some (.cells #[.int .i64 kind, .string key, .int .u8 ck, .int .u64 cn, .string cs] 45)) : Own5 w q kind key ck cn cs :=
  ⟨by simp [World.cell?, h], by simp [World.cell?, h], by simp [World.cell?, h], by simp [World.cell?, h], by simp [World.cell?, h], (Array.getElem?_eq_some_iff.1 h).1⟩
theorem Own5.made (w : World) (kind : Int) (key : ByteArray) (ck cn : Int) (cs : ByteArray) : Own5 (w.alloc (.cells #[.int .i64 kind, .string key, .int .u8 ck, .int .u64 cn, .string cs] 45)) w.heap.size kind key ck cn cs :=
  own5 (alloc_new w _)
theorem Own5.kept {w w' : World} {q : Nat} {kind : Int} {key : ByteArray} {ck cn : Int} {cs : ByteArray} (h : Own5 w q kind key ck cn cs) (hb : w'.heap[q]? = w.heap[q]?) (hs : w.heap.size ≤ w'.heap.size) : Own5 w' q kind key ck cn cs :=
  ⟨(World.cell?_of_block (a := ⟨q, 0, none⟩) hb).trans h.x0, (World.cell?_of_block (a := ⟨q, 1, none⟩) hb).trans h.x1, (World.cell?_of_block (a := ⟨q, 2, none⟩) hb).trans h.x2, (World.cell?_of_block (a := ⟨q, 3, none⟩) hb).trans h.x3, (World.cell?_of_block (a := ⟨q, 4, none⟩) hb).trans h.x4, Nat.lt_of_lt_of_le h.lt hs⟩
theorem Own5.below {w w' : World} {q : Nat} {kind : Int} {key : ByteArray} {ck cn : Int} {cs : ByteArray} (h : Own5 w q kind key ck cn cs) (hb : Below w.heap.size w w') : Own5 w' q kind key ck cn cs := h.kept (hb.block q h.lt) hb.size
theorem Own5.keptQ {w w' : World} {q : Nat} {kind : Int} {key : ByteArray} {ck cn : Int} {cs : ByteArray} (h : Own5 w q kind key ck cn cs) (hk : Kept (fun k => k = q) w w') : Own5 w' q kind key ck cn cs := h.kept (hk.2 q rfl h.lt) hk.1

/- The document's Key. -/
def J (T : List ByteArray) (sep : ByteArray) : ByteArray := ⟨(Lib.join (T.map (·.data.toList)) sep.data.toList).toArray⟩
theorem J_one (t sep : ByteArray) : J [t] sep = t := by
  unfold J
  rw [List.map_cons, List.map_nil, Lib.join_one]
theorem join_snoc (x : List UInt8) (r : List (List UInt8)) (t sep : List UInt8) : Lib.join ((x :: r) ++ [t]) sep = Lib.join (x :: r) sep ++ sep ++ t := by
  rw [List.cons_append, Lib.join_cons, Lib.join_cons]
  simp [Lib.joinTail]
theorem J_snoc {T : List ByteArray} (hT : T ≠ []) (t sep : ByteArray) : J (T ++ [t]) sep = J T sep ++ sep ++ t := by
  cases T with
  | nil => exact absurd rfl hT
  | cons x r =>
    unfold J
    rw [List.map_append, List.map_cons, List.map_cons, List.map_nil, join_snoc]
    apply ByteArray.ext
    apply Array.toList_inj.1
    simp [ByteArray.data_append]

set_option maxRecDepth 100000 in
theorem refKey {w : World} {v : Value} {T : List ByteArray} (sep : ByteArray) (h : Strs w v T) (hz : T.length ≤ 20) (hs : ∀ t ∈ T, t.size ≤ 50) (hp : sep.size ≤ 50) :
    Calls Try.prog 25 #[v, .string sep] w fun e w' => e = .returned (.string (J T sep)) ∧ w' = w := by
  obtain ⟨oa, ca, rfl, _, g⟩ := h.shape
  have HG := Lib.hid (⟨g, hs⟩ : _ ∧ _)
  clear h g hs
  go_enter Try.func25, Try.ntmps25
  go_wp2_with fail
  go_loopg [5, 6] T.length (fun k s i wr => ∃ j, T.length - j = k ∧ j ≤ T.length ∧ i = .int .i64 (j : Int) ∧ s = .string (J (T.take j) sep) ∧ (J (T.take j) sep).size ≤ j * 100 ∧ wr = w)
  case atStart => exact ⟨0, rfl, Nat.zero_le _, rfl, rfl, Nat.le_refl _, rfl⟩
  case round =>
    obtain ⟨j, hk, hj, rfl, rfl, hsz, rfl⟩ := hrel
    by_cases hlt : j < T.length
    · have hlt' : (j : Int) < (T.length : Int) := by omega
      obtain ⟨x, hx⟩ : ∃ x, T[j]? = some x := ⟨_, List.getElem?_eq_getElem hlt⟩
      obtain ⟨aa, rfl, d1⟩ := HG.out.1 j x hx
      have hxs := HG.out.2 x (List.mem_of_getElem? hx)
      have htk : T.take (j + 1) = T.take j ++ [x] := by rw [List.take_add_one, hx]; rfl
      by_cases h0 : j = 0
      · subst h0
        have hJ : J (T.take (0 + 1)) sep = x := by rw [htk, List.take_zero]; exact J_one x sep
        have hJ0 : J (T.take 0) sep = ⟨#[]⟩ := rfl
        have HJ := Lib.hid hJ
        rw [hJ0]
        have d2 : wr.cell? aa = some (.string x) := by rw [show aa.add 0 = aa from by simp [Addr.add]] at d1; exact d1
        clear hx htk hJ hJ0 hsz d1
        go_wp2_with fail
        go_roundg (T.length - (0 + 1))
        case measure => omega
        case rel => exact ⟨0 + 1, rfl, hlt, by go_num, by rw [HJ.out]; exact congrArg Value.string ByteArray.empty_append, by rw [HJ.out]; omega, rfl⟩
      · have hne : T.take j ≠ [] := fun e => by
          have := congrArg List.length e
          rw [List.length_take, List.length_nil] at this
          omega
        have hJ : J (T.take (j + 1)) sep = J (T.take j) sep ++ sep ++ x := by rw [htk]; exact J_snoc hne x sep
        have hpos : 0 < (j : Int) := by omega
        have HJ := Lib.hid hJ
        clear hx htk hJ hne
        generalize J (T.take j) sep = V at *
        have hsz2 : (V ++ sep).size = V.size + sep.size := ByteArray.size_append
        go_wp2_with fail
        go_roundg (T.length - (j + 1))
        case measure => omega
        case rel => exact ⟨j + 1, rfl, hlt, by go_num, by rw [HJ.out], by rw [HJ.out, ByteArray.size_append, ByteArray.size_append]; omega, rfl⟩
    · obtain rfl : j = T.length := by omega
      have hge : ¬ (T.length : Int) < (T.length : Int) := by omega
      rw [List.take_of_length_le (Nat.le_refl _)]
      go_wp2_with fail
      go_ret
      exact ⟨rfl, rfl⟩

theorem tail_size {sep : List UInt8} (hp : sep.length ≤ 50) : ∀ r : List (List UInt8), (∀ t ∈ r, t.length ≤ 50) → (Lib.joinTail sep r).length ≤ r.length * 100
  | [], _ => Nat.le_refl _
  | t :: r, h => by
    have ih := tail_size hp r fun x hx => h x (List.mem_cons_of_mem _ hx)
    have ht := h t (List.mem_cons_self)
    simp only [Lib.joinTail, List.map_cons, List.flatten_cons, List.length_append, List.length_cons] at ih ⊢
    omega
theorem J_size {T : List ByteArray} {sep : ByteArray} (hs : ∀ t ∈ T, t.size ≤ 50) (hp : sep.size ≤ 50) : (Lib.join (T.map (·.data.toList)) sep.data.toList).length ≤ T.length * 100 := by
  cases T with
  | nil => exact Nat.le_refl _
  | cons x r =>
    have hx := hs x (List.mem_cons_self)
    have h1 := tail_size (sep := sep.data.toList) (by rw [Array.length_toList]; exact hp) (r.map (·.data.toList)) fun t ht => by
      obtain ⟨y, hy, rfl⟩ := List.mem_map.1 ht
      rw [Array.length_toList]
      exact hs y (List.mem_cons_of_mem _ hy)
    rw [List.map_cons, Lib.join_cons, List.length_append, Array.length_toList, List.length_cons]
    rw [List.length_map] at h1
    have : x.data.size = x.size := rfl
    omega
theorem keyCallO {w : World} (bk o c : Nat) (xs : List ByteArray) (sep : ByteArray) (hcells : ∀ (j : Nat) x, xs[j]? = some x → w.cell? ⟨bk, o + j, none⟩ = some (.string x)) (hbk : bk < w.heap.size) (hN : xs.length ≤ 140737488355328) (hcap : xs.length ≤ c)
    (hlen : (Lib.join (xs.map (·.data.toList)) sep.data.toList).length ≤ 1000000) :
    Calls Try.prog 19 #[.slice (some ⟨bk, o, none⟩) xs.length c, .string sep] w fun e w' => e = .returned (.string (J xs sep)) ∧ Below w.heap.size w w' := by
  have hrs : (J xs sep).size ≤ 1000000 := by show (List.toArray _).size ≤ _; rw [List.size_toArray]; exact hlen
  have hj : Calls Try.prog 36 #[.slice (some ⟨bk, o, none⟩) xs.length c, .string sep] w fun e w' => e = .returned (.string (J xs sep)) ∧ Below w.heap.size w w' := Try.strings_Join bk o c xs sep w hcells hbk hN hcap (by omega)
  have HJ := Lib.hid hj
  generalize J xs sep = r at *
  clear hj hcells hlen
  go_enter Try.func19, Try.ntmps19
  go_wp2_with (first
    | (go_at_call 34; refine (clone r _ hrs).mono ?_; rintro e w2 ⟨rfl, hb2⟩; have H2 := Lib.hid hb2; clear hb2)
    | (go_at_call 36; refine HJ.out.mono ?_; rintro e w1 ⟨rfl, hb1⟩; have H1 := Lib.hid hb1; clear hb1))
  go_ret
  exact ⟨rfl, H1.out.trans (H2.out.mono H1.out.size)⟩
theorem keyNone {w : World} (a : Option Addr) (c : Nat) (sep : ByteArray) : Calls Try.prog 19 #[.slice a 0 c, .string sep] w fun e w' => e = .returned (.string ⟨#[]⟩) ∧ Below w.heap.size w w' := by
  have HJ := Lib.hid (Try.strings_Join_none a c sep w)
  go_enter Try.func19, Try.ntmps19
  go_wp2_with (first
    | (go_at_call 34; refine (clone ⟨#[]⟩ _ (by decide)).mono ?_; rintro e w2 ⟨rfl, hb2⟩; have H2 := Lib.hid hb2; clear hb2)
    | (go_at_call 36; refine HJ.out.mono ?_; rintro e w1 ⟨rfl, hw1⟩; obtain rfl := hw1.symm; clear hw1))
  go_ret
  exact ⟨rfl, H2.out⟩
theorem keyAny {w : World} {ot : Option Addr} {ct : Nat} {T : List ByteArray} (sep : ByteArray) (h : Strs w (.slice ot T.length ct) T) (hc : T.length ≤ ct) (hk : T.length ≠ 0 → ∃ g off, ot = some ⟨g, off, none⟩) (hz : T.length ≤ 20) (hs : ∀ t ∈ T, t.size ≤ 50) (hp : sep.size ≤ 50) :
    Calls Try.prog 19 #[.slice ot T.length ct, .string sep] w fun e w' => e = .returned (.string (J T sep)) ∧ Below w.heap.size w w' := by
  cases hT : T with
  | nil => exact keyNone ot ct sep
  | cons x0 T0 =>
    rw [← hT]
    obtain ⟨g, off, rfl⟩ := hk (by rw [hT, List.length_cons]; omega)
    obtain ⟨oa, ca, e, _, hcell⟩ := h.shape
    simp only [Value.slice.injEq] at e
    obtain ⟨rfl, _, rfl⟩ := e
    have hcells : ∀ (j : Nat) x, T[j]? = some x → w.cell? ⟨g, off + j, none⟩ = some (.string x) := fun j x hx => by
      obtain ⟨ad, e2, h2⟩ := hcell j x hx
      cases e2
      rw [WideShapes.add_plain] at h2
      exact h2
    have hl := J_size hs hp
    exact keyCallO g off ct T sep hcells (cell_lt (hcells 0 x0 (by rw [hT]; rfl))) (by omega) hc (by omega)
end Go.Proofs.Ytlagnklmfanmoaa.Ar
