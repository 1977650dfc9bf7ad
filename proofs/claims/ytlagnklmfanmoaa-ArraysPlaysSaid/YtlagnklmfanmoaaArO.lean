/-
  Package arrays, beside it: an array and rows of texts apart from it; Pick, CopyTexts.
-/
import Derived.Test.YtlagnklmfanmoaaArN
namespace Go.Proofs.Ytlagnklmfanmoaa.Ar
open Go.RowKit Go.Maps

theorem later_call {P : Program} {f : FuncId} {args : Array Value} {w : World} {x : Later w} {v : Value} (h : Calls P f args x.w fun e w' => e = .returned v ∧ Below x.w.heap.size x.w w') :
    Calls P f args x.w fun e w'' => e = .returned v ∧ ∃ y : Later w, w'' = y.w :=
  h.mono fun _ w' ⟨he, hb⟩ => ⟨he, ⟨w', x.h.trans (hb.mono x.h.size)⟩, rfl⟩
theorem Txts.of_block {B : Nat} {w w' : World} {v : Value} {T : List ByteArray} (h : Txts B w v T) (hb : ∀ k, v.ownBlock = some k → w'.heap[k]? = w.heap[k]?) : Txts B w' v T := by
  have h2 := h
  rcases h.2 with ⟨h1, h0⟩ | ⟨g, oc, cur, h1, _⟩
  · exact ⟨h.1, .inl ⟨h1, h0⟩⟩
  · subst h1
    exact row_of_block h2 (hb g rfl)
theorem Txts.base {B C : Nat} {w : World} {v : Value} {T : List ByteArray} (h : Txts B w v T) (hc : C ≤ B) : Txts C w v T := by
  refine ⟨h.1, ?_⟩
  rcases h.2 with h1 | ⟨g, oc, cur, h1, h2, h3⟩
  · exact .inl h1
  · exact .inr ⟨g, oc, cur, h1, Nat.le_trans hc h2, h3⟩

abbrev RowT := Value × List ByteArray
structure Work (w wr : World) (a j : Nat) (L : List KV) (rows : List RowT) : Prop where
  ex : ∃ F, Arr wr a j F L ∧ (∀ k, F k → w.heap.size ≤ k) ∧ ∀ p ∈ rows, ∀ k, p.1.ownBlock = some k → ¬ F k
  each : ∀ p ∈ rows, Txts w.heap.size wr p.1 p.2
  apart : rows.Pairwise fun p q => ∀ k, p.1.ownBlock = some k → q.1.ownBlock ≠ some k
  b : Below w.heap.size w wr
theorem Work.start {w wr : World} {a j : Nat} {L : List KV} (h : Mine w wr a j L) : Work w wr a j L [] := by
  obtain ⟨F, h1, h2⟩ := h.ex
  exact ⟨⟨F, h1, h2, fun p hp => by simp at hp⟩, fun p hp => by simp at hp, List.Pairwise.nil, h.b⟩
theorem Work.arr {w wr : World} {a j : Nat} {L : List KV} {rows : List RowT} (h : Work w wr a j L rows) : ∃ F, Arr wr a j F L := by
  obtain ⟨F, h1, _⟩ := h.ex; exact ⟨F, h1⟩
theorem Work.length {w wr : World} {a j : Nat} {L : List KV} {rows : List RowT} (h : Work w wr a j L rows) : L.length ≤ j := by
  obtain ⟨F, h1⟩ := h.arr; exact h1.length
theorem Work.mono {w wr : World} {a j k : Nat} {L : List KV} {rows : List RowT} (h : Work w wr a j L rows) (hk : j ≤ k) : Work w wr a k L rows := by
  obtain ⟨F, h1, h2⟩ := h.ex; exact ⟨⟨F, h1.mono hk, h2⟩, h.each, h.apart, h.b⟩
theorem Work.below {w wr w2 : World} {a j : Nat} {L : List KV} {rows : List RowT} (h : Work w wr a j L rows) (hb : Below wr.heap.size wr w2) : Work w w2 a j L rows := by
  obtain ⟨F, h1, h2⟩ := h.ex
  exact ⟨⟨F, h1.below hb, h2⟩, fun p hp => (h.each p hp).below hb, h.apart, h.b.trans (hb.mono h.b.size)⟩
theorem Work.lift {w wr : World} {a j J : Nat} {L L' : List KV} {rows : List RowT} {P : Program} {f : FuncId} {args : Array Value} {R : Ending → Prop} (h : Work w wr a j L rows)
    (op : ∀ F, Arr wr a j F L → Calls P f args wr fun e w2 => R e ∧ Next wr w2 a J F L') : Calls P f args wr fun e w2 => R e ∧ Work w w2 a J L' rows := by
  obtain ⟨F, h1, h2, h3⟩ := h.ex
  refine (op F h1).mono fun e w2 ⟨he, hn⟩ => ⟨he, ?_⟩
  have hm := Mine.next h.b h2 hn
  obtain ⟨F', q1, q2, q3⟩ := hn
  refine ⟨⟨F', q1, fun k hk => (q3 k hk).elim (h2 k) fun h4 => Nat.le_trans h.b.size h4, fun p hp k hk hf => ?_⟩, fun p hp => (h.each p hp).of_block fun k hk => q2.block k ((h.each p hp).lt k hk).2 (h3 p hp k hk), h.apart, hm.b⟩
  rcases q3 k hf with h4 | h4
  · exact h3 p hp k hk h4
  · have := ((h.each p hp).lt k hk).2
    omega
theorem Work.push {w wr w2 : World} {a j : Nat} {L : List KV} {rows : List RowT} {v : Value} {T : List ByteArray} (h : Work w wr a j L rows) (hb : Below wr.heap.size wr w2) (hT : Txts wr.heap.size w2 v T) : Work w w2 a j L ((v, T) :: rows) := by
  have h0 := h.below hb
  obtain ⟨F, h1, h2, h3⟩ := h.ex
  refine ⟨⟨F, h1.below hb, h2, fun p hp k hk hf => ?_⟩, fun p hp => ?_, List.Pairwise.cons (fun q hq k hk hk2 => ?_) h.apart, h0.b⟩
  · rcases List.mem_cons.1 hp with rfl | hp
    · have := (hT.lt k hk).1
      have := h1.lt k hf
      omega
    · exact h3 p hp k hk hf
  · rcases List.mem_cons.1 hp with rfl | hp
    · exact hT.base h.b.size
    · exact h0.each p hp
  · have := (hT.lt k hk).1
    have := ((h.each q hq).lt k hk2).2
    omega
theorem Work.pushNil {w wr : World} {a j : Nat} {L : List KV} {rows : List RowT} (h : Work w wr a j L rows) : Work w wr a j L ((.slice none 0 0, []) :: rows) :=
  h.push (Below.refl _ _) (World.ownsRow_nil _ _ _ _)
/- The first row has been turned, or laid anew. -/
theorem Work.grow {w wr w2 : World} {a j : Nat} {L : List KV} {rows : List RowT} {v v2 : Value} {T T2 : List ByteArray} (h : Work w wr a j L ((v, T) :: rows)) (hg : wr.grownBy w2 v.ownBlock) (hT : Txts w.heap.size w2 v2 T2) (hv : ∀ k, v2.ownBlock = some k → v.ownBlock = some k ∨ wr.heap.size ≤ k) : Work w w2 a j L ((v2, T2) :: rows) := by
  obtain ⟨F, h1, h2, h3⟩ := h.ex
  have hrow := h.each _ (List.mem_cons_self)
  have hne : ∀ k, F k → some k ≠ v.ownBlock := fun k hk e => h3 _ (List.mem_cons_self) k e.symm hk
  have hap := List.pairwise_cons.1 h.apart
  refine ⟨⟨F, h1.later hg.size fun k hk => hg.block k (h1.lt k hk) (hne k hk), h2, fun p hp k hk hf => ?_⟩, fun p hp => ?_, List.Pairwise.cons (fun q hq k hk hk2 => ?_) hap.2, h.b.grown hg h.b.size fun k hk => (hrow.lt k hk).1⟩
  · rcases List.mem_cons.1 hp with rfl | hp
    · rcases hv k hk with h4 | h4
      · exact h3 _ (List.mem_cons_self) k h4 hf
      · have := h1.lt k hf; omega
    · exact h3 p (List.mem_cons_of_mem _ hp) k hk hf
  · rcases List.mem_cons.1 hp with rfl | hp
    · exact hT
    · exact (h.each p (List.mem_cons_of_mem _ hp)).of_block fun k hk => hg.block k ((h.each p (List.mem_cons_of_mem _ hp)).lt k hk).2 fun e => hap.1 p hp k e.symm hk
  · rcases hv k hk with h4 | h4
    · exact hap.1 q hq k h4 hk2
    · have := ((h.each q (List.mem_cons_of_mem _ hq)).lt k hk2).2; omega
theorem Work.sub {w wr : World} {a j : Nat} {L : List KV} {rows rows2 : List RowT} (h : Work w wr a j L rows) (hs : ∀ p ∈ rows2, p ∈ rows) (hp : rows2.Pairwise fun p q => ∀ k, p.1.ownBlock = some k → q.1.ownBlock ≠ some k) : Work w wr a j L rows2 := by
  obtain ⟨F, h1, h2, h3⟩ := h.ex
  exact ⟨⟨F, h1, h2, fun p hp => h3 p (hs p hp)⟩, fun p hp => h.each p (hs p hp), hp, h.b⟩
theorem Work.tail {w wr : World} {a j : Nat} {L : List KV} {rows : List RowT} {p : RowT} (h : Work w wr a j L (p :: rows)) : Work w wr a j L rows :=
  h.sub (fun q hq => List.mem_cons_of_mem _ hq) (List.pairwise_cons.1 h.apart).2
theorem Work.sublist {w wr : World} {a j : Nat} {L : List KV} {rows rows2 : List RowT} (h : Work w wr a j L rows) (hs : rows2.Sublist rows) : Work w wr a j L rows2 :=
  h.sub (fun _ hq => hs.subset hq) (h.apart.sublist hs)
theorem Txts.at {B n c : Nat} {w : World} {oa : Option Addr} {T : List ByteArray} (h : Txts B w (.slice oa n c) T) {i : Nat} {s : ByteArray} (hi : T[i]? = some s) : ∃ ad, oa = some ad ∧ w.cell? (ad.add i) = some (.string s) := by
  obtain ⟨oa2, c2, e, _, g⟩ := h.strs.shape
  simp only [Value.slice.injEq] at e
  obtain ⟨rfl, _, _⟩ := e
  exact g i s hi
theorem grow_own {v : Value} {g n c H : Nat} (hat : v.ownBlock = some g ∨ g = H) : ∀ k, (Value.slice (some ⟨g, 0, none⟩) n c).ownBlock = some k → v.ownBlock = some k ∨ H ≤ k := by
  intro k hk
  have e : g = k := by simpa [Value.ownBlock] using hk
  subst e
  exact hat.imp id fun h => by rw [h]; exact Nat.le_refl _
theorem filter_take {T : List ByteArray} {p : ByteArray → Bool} {m : Nat} {y : ByteArray} (h : T[m]? = some y) : (T.take (m + 1)).filter p = (T.take m).filter p ++ if p y then [y] else [] := by
  rw [List.take_add_one, h, List.filter_append]
  cases e : p y <;> simp [e]
theorem Work.swap {w wr : World} {a j : Nat} {L : List KV} {rows : List RowT} {p q : RowT} (h : Work w wr a j L (p :: q :: rows)) : Work w wr a j L (q :: p :: rows) := by
  obtain ⟨h1, h2⟩ := List.pairwise_cons.1 h.apart
  obtain ⟨h3, h4⟩ := List.pairwise_cons.1 h2
  refine h.sub (fun x hx => ?_) (List.Pairwise.cons (fun x hx k hk hk2 => ?_) (List.Pairwise.cons (fun x hx => h1 x (List.mem_cons_of_mem _ hx)) h4))
  · rcases List.mem_cons.1 hx with rfl | hx
    · simp
    · rcases List.mem_cons.1 hx with rfl | hx
      · simp
      · simp [hx]
  · rcases List.mem_cons.1 hx with rfl | hx
    · exact h1 q (by simp) k hk2 hk
    · exact h3 x hx k hk hk2
theorem Txts.own {B n c : Nat} {w : World} {oa : Option Addr} {T : List ByteArray} (h : Txts B w (.slice oa n c) T) (hn : 0 < n) : ∃ g, oa = some ⟨g, 0, none⟩ := by
  rcases h.2 with ⟨h1, h0⟩ | ⟨g, oc, cur, h1, _⟩
  · simp only [Value.slice.injEq] at h1
    omega
  · simp only [Value.slice.injEq] at h1
    exact ⟨g, h1.1⟩
theorem Txts.len {B n c : Nat} {w : World} {oa : Option Addr} {T : List ByteArray} (h : Txts B w (.slice oa n c) T) : n = T.length := by
  obtain ⟨oa2, c2, e, _⟩ := h.strs.shape
  simp only [Value.slice.injEq] at e
  exact e.2.1
theorem Work.stored {w wr : World} {a j n c g : Nat} {L : List KV} {rows : List RowT} {U : List ByteArray} (h : Work w wr a j L ((.slice (some ⟨g, 0, none⟩) n c, U) :: rows)) (m : Nat) (s : ByteArray) : Work w (wr.setCell ⟨g, m, none⟩ (.string s)) a j L ((.slice (some ⟨g, 0, none⟩) n c, U.set m s) :: rows) := by
  have hT : Txts w.heap.size wr (.slice (some ⟨g, 0, none⟩) n c) U := h.each _ (List.mem_cons_self)
  have hn := hT.len
  subst hn
  obtain ⟨h1, h2⟩ := World.ownsRow.stored hT m (.string s)
  refine h.grow h2 ?_ fun k hk => .inl hk
  show World.ownsRow _ _ _ _ _ _ _
  rw [List.length_set, show texts (U.set m s) = (texts U).set m (.string s) from List.map_set]
  exact h1
theorem Work.head {w wr : World} {a j : Nat} {L : List KV} {rows : List RowT} {v : Value} {T : List ByteArray} (h : Work w wr a j L ((v, T) :: rows)) : Txts w.heap.size wr v T := h.each _ (List.mem_cons_self)

def pickI (x n : Int) : Int := if n ≤ 0 then 0 else x % n
theorem pickI_lt {x n : Int} (h : 0 < n) : 0 ≤ pickI x n ∧ pickI x n < n := by
  unfold pickI
  rw [if_neg (by omega)]
  exact ⟨Int.emod_nonneg _ (by omega), Int.emod_lt_of_pos _ h⟩
theorem tmod_pick {x n : Int} (h : 0 < n) : (if x.tmod n < 0 then x.tmod n + n else x.tmod n) = pickI x n := by
  have e : pickI x n = x % n := by unfold pickI; rw [if_neg (by omega)]
  rw [e]
  clear e
  have h1 := Int.tmod_eq_emod (a := x) (b := n)
  have h2 := Int.emod_nonneg x (show n ≠ 0 by omega)
  have h3 := Int.emod_lt_of_pos x h
  have h4 : (n.natAbs : Int) = n := by omega
  by_cases hc : 0 ≤ x ∨ n ∣ x
  · rw [if_pos hc] at h1
    generalize x.tmod n = y at *
    generalize x % n = z at *
    split <;> omega
  · rw [if_neg hc] at h1
    generalize x.tmod n = y at *
    generalize x % n = z at *
    split <;> omega
set_option maxRecDepth 100000 in
theorem Pick (x n : Int) (w : World) (hn : 0 < n) (hn2 : n ≤ 2000000) :
    Calls Try.prog 26 #[.int .i64 x, .int .i64 n] w fun e w' => e = .returned (.int .i64 (pickI x n)) ∧ w' = w := by
  have h1 : ¬ n ≤ 0 := by omega
  have h0 : ¬ n = 0 := by omega
  have hp := tmod_pick (x := x) hn
  have hr1 : x.tmod n < n := Int.tmod_lt_of_pos x hn
  have hr2 : -n ≤ x.tmod n := by
    by_cases h : x.tmod n < 0
    · rw [if_pos h] at hp
      have := (pickI_lt (x := x) hn).1
      omega
    · omega
  by_cases h : x.tmod n < 0
  · rw [if_pos h] at hp
    rw [← hp]
    have HP := Lib.hid hp
    clear hp
    go_enter Try.func26, Try.ntmps26
    go_wp2_with fail
    go_ret
    exact ⟨rfl, rfl⟩
  · rw [if_neg h] at hp
    rw [← hp]
    have HP := Lib.hid hp
    clear hp
    go_enter Try.func26, Try.ntmps26
    go_wp2_with fail
    go_ret
    exact ⟨rfl, rfl⟩

set_option maxRecDepth 100000 in
theorem copyTexts {w : World} {v : Value} {T : List ByteArray} (h : Strs w v T) (hz : T.length ≤ 1000000) :
    Calls Try.prog 27 #[v] w fun e w' => ∃ v', e = .returned v' ∧ Txts w.heap.size w' v' T ∧ Below w.heap.size w w' := by
  obtain ⟨oa, oc, rfl, hoc, g⟩ := h.shape
  have HG := Lib.hid g
  clear h g
  obtain ⟨i0, z0, hi, hz2, hsz, hby, hzs⟩ := string_info
  have HI := Lib.hid (⟨hi, hz2, hsz, hby, hzs⟩ : _ ∧ _ ∧ _ ∧ _ ∧ _)
  clear hi hz2 hsz hby hzs
  cases hT : T with
  | nil =>
    subst hT
    simp only [List.length_nil]
    rcases oa with _ | ad
    · rw [hoc rfl]
      go_enter Try.func27, Try.ntmps27
      go_wp2_with fail
      go_ret
      exact ⟨_, rfl, World.ownsRow_nil _ _ _ _, Below.refl _ _⟩
    · go_enter Try.func27, Try.ntmps27
      go_wp2_with fail
      go_ret
      exact ⟨_, rfl, World.ownsRow_nil _ _ _ _, Below.refl _ _⟩
  | cons x0 T0 =>
    rw [← hT]
    obtain ⟨ad, rfl, _⟩ := HG.out 0 x0 (by rw [hT]; rfl)
    have hpos : 0 < T.length := by rw [hT, List.length_cons]; omega
    have HT := Lib.hid hT
    clear hT
    go_enter Try.func27, Try.ntmps27
    go_wp2_with (at_builtin; refine wpList_append_lies _ rfl (.tmp 4) (.tmp 5) 34 rfl w.heap.size 9 i0 z0 1 16 Try.underlying34 HI.out.1 HI.out.2.1 HI.out.2.2.1 HI.out.2.2.2.1 HI.out.2.2.2.2 (by decide) (.slice none 0 0) 0 [] rfl (World.ownsRow_nil _ _ _ _) ad T.length oc (texts T) rfl (by rw [texts_length, Nat.mul_one]) (fun j u hu => by
        rw [texts, List.getElem?_map] at hu
        cases hj : T[j]? with
        | none => rw [hj] at hu; cases hu
        | some s =>
          rw [hj] at hu
          obtain ⟨ad2, e, hc⟩ := HG.out j s hj
          cases e
          cases hu
          exact hc) (texts_one T) hpos (by unfold maxLen; omega) (by omega) (Nat.le_refl _) _ rfl ?_; intro g2 cap2 w4 hown hgrow hat hlt4; rw [Nat.zero_add] at hown ⊢; have HO := Lib.hid (⟨hown, (Below.refl w.heap.size w).grown hgrow (Nat.le_refl _) (fun k hk => by cases hk)⟩ : _ ∧ _); clear hown hgrow hat hlt4)
    go_ret
    exact ⟨_, rfl, HO.out.1, HO.out.2⟩
end Go.Proofs.Ytlagnklmfanmoaa.Ar
