/-
  Package world: a stream opened (Open).
-/
import Derived.Test.YtahblmcjocepeaaDoorWoH
namespace Go.Proofs.YtahblmcjocepeaaDoor.Wo
open Go.RowKit Go.Maps

def openE (st : St) (k : Int) (n : ByteArray) : Int :=
  if ¬ (1 ≤ k ∧ k ≤ 5) then 2
  else if 0 ≤ placeL k n st.streams then 0
  else if st.most ≤ st.streams.length then 15
  else if st.fails 1 n = true ∨ (k = 1 ∧ n ≠ dash ∧ st.file n = none) then 12
  else 0
def openNew (st : St) (k : Int) (n : ByteArray) : Prop := (1 ≤ k ∧ k ≤ 5) ∧ placeL k n st.streams < 0 ∧ st.streams.length < st.most ∧ st.fails 1 n = false ∧ ¬ (k = 1 ∧ n ≠ dash ∧ st.file n = none)
def openedS (st : St) (k : Int) (n : ByteArray) : St := { begunS st k n with streams := st.streams ++ [⟨k, n, srcOf st k n⟩], trace := st.trace ++ [⟨1, k, n, noText, 0⟩] }
noncomputable instance (st : St) (k : Int) (n : ByteArray) : Decidable (openNew st k n) := Classical.propDecidable _
noncomputable def openS (st : St) (k : Int) (n : ByteArray) : St := if openNew st k n then openedS st k n else st

section
variable {w : World} {B fm rm xm : Nat} {D : DataW Unit} {vs vt : Value} {ps : List Value} {T : Tags} {st : St} {n : ByteArray} {k : Int}
theorem WdAtS.goes (h : WdAt w B fm rm xm D vs vt ps T st) {w' : World} (hb : Below w.heap.size w w') : Goes w w' B T st :=
  ⟨fm, rm, xm, D, vs, vt, ps, T, h.below hb, fun _ _ => rfl, Turn.of_below hb⟩

theorem WdAtS.drewN (h : WdAt w B fm rm xm D vs vt ps T st) (m : Nat) : WdAt (w.drewN m) B fm rm xm D vs vt ps T st := h.later (Nat.le_refl _) fun _ _ => rfl
theorem Below.of_drewN {w w' : World} {m : Nat} (h : Below (w.drewN m).heap.size (w.drewN m) w') : Below w.heap.size w w' := ⟨h.os, h.tape, h.output, h.size, h.block⟩
theorem WdAtS.lookNone (h : WdAt w B fm rm xm D vs vt ps T st) (hn : Small n) (hf : st.file n = none) : (Instr.lookup 99 (.map (some fm)) (.string n) false).run Tryd.prog w = .ok (.pointer none) w := by
  rcases h.look n hn with ⟨_, h2⟩ | ⟨l, b, buf, h1, _⟩
  · exact h2
  · rw [hf] at h1; cases h1
theorem WdAtS.lookSome (h : WdAt w B fm rm xm D vs vt ps T st) (hn : Small n) {l : List UInt8} (hf : st.file n = some l) : ∃ b, (Instr.lookup 99 (.map (some fm)) (.string n) false).run Tryd.prog w = .ok (ptr b) w := by
  rcases h.look n hn with ⟨h1, _⟩ | ⟨l2, b, buf, h1, h2, _⟩
  · rw [hf] at h1; cases h1
  · exact ⟨b, h2⟩
theorem flatS_append : ∀ (l : List Strm) (ps : List Value) (s : Strm) (p : Value), ps.length = l.length → flatS (l ++ [s]) (ps ++ [p]) = flatS l ps ++ s.cells p
  | [], [], s, p, _ => by simp [flatS]
  | x :: l, y :: ps, s, p, h => by
    rw [List.cons_append, List.cons_append, flatS, flatS, flatS_append l ps s p (by simpa using h), List.append_assoc]
  | [], _ :: _, _, _, h => by simp at h
  | _ :: _, [], _, _, h => by simp at h
theorem uniq_append {l : List Strm} (h : Uniq l) {s : Strm} (hp : placeL s.kind s.name l < 0) : Uniq (l ++ [s]) := by
  unfold Uniq at h ⊢
  rw [List.pairwise_append]
  refine ⟨h, by simp, fun a ha b hb e => ?_⟩
  obtain rfl : b = s := by simpa using hb
  have h1 : anyL b.kind b.name l = true := by
    unfold anyL
    rw [List.any_eq_true]
    exact ⟨a, ha, isIt_iff.2 e⟩
  rw [placeL_any, decide_eq_true_eq] at h1
  omega
theorem strm_info : ∃ i z, Tryd.prog.info? 115 = some i ∧ i.zero = some z ∧ i.size = 3 ∧ i.bytes = 32 ∧ z.cells.size = 3 := by
  have h : (Tryd.prog.info? 115).map (fun i => (i.zero.map (·.cells.size), i.size, i.bytes)) = some (some 3, 3, 32) := by kernel_rfl
  cases hi : Tryd.prog.info? 115 with
  | none => rw [hi] at h; cases h
  | some i =>
    rw [hi] at h
    simp only [Option.map_some, Option.some.injEq, Prod.mk.injEq] at h
    cases hz : i.zero with
    | none => rw [hz] at h; cases h.1
    | some z => rw [hz] at h; exact ⟨i, z, rfl, hz, h.2.1, h.2.2, by simpa using h.1⟩
theorem begunS_streams (st : St) (k : Int) (n : ByteArray) : (begunS st k n).streams = st.streams ∧ (begunS st k n).trace = st.trace := by
  have hb : (beginS st n).streams = st.streams ∧ (beginS st n).trace = st.trace := by unfold beginS; split <;> exact ⟨rfl, rfl⟩
  unfold begunS
  split
  · exact hb
  · split
    · exact hb
    · exact ⟨rfl, rfl⟩
theorem SrcAt.one {w : World} {B : Nat} {T : Tags} {s : Strm} {p : Value} (h : SrcAt w B T s p) : ∃ o, p = .pointer o := by
  unfold SrcAt at h
  cases hs : s.src with
  | none => rw [hs] at h; exact ⟨_, h⟩
  | stdin => rw [hs] at h; exact ⟨_, h⟩
  | own t => rw [hs] at h; obtain ⟨b, h, _⟩ := h; exact ⟨_, h⟩
theorem WdAtS.drew (h : WdAt w B fm rm xm D vs vt ps T st) : WdAt w.drew B fm rm xm D vs vt ps T st := h.later (Nat.le_refl _) fun _ _ => rfl
theorem three_one (k : Int) (n : ByteArray) (o : Option Addr) : ∀ u ∈ [Value.int .u8 k, .string n, .pointer o], u.oneCell' = true := by
  intro u hu
  simp only [List.mem_cons, List.not_mem_nil, or_false] at hu
  rcases hu with rfl | rfl | rfl <;> rfl
theorem WdAtS.box_lt (h : WdAt w B fm rm xm D vs vt ps T st) (o : Obj) : B < (w.alloc o).heap.size := by
  have := h.cells.lt
  rw [alloc_size]; omega
theorem WdAtS.ne_streams (h : WdAt w B fm rm xm D vs vt ps T st) : some B ≠ vs.ownBlock := fun e => by have := h.streams.tag B e.symm; rw [h.tB] at this; cases this
theorem H4row (h : WdAt w B fm rm xm D vs vt ps T (begunS st k n)) : w.ownsRow 0 115 3 vs st.streams.length (flatS st.streams ps) := by
  have := h.streams.row
  rw [(begunS_streams st k n).1] at this
  exact this
theorem WdAtS.openStream (h : WdAt w B fm rm xm D vs vt ps T st) (s : Strm) (p : Value) (hsrc : SrcAt w B T s p) (hk : 1 ≤ s.kind ∧ s.kind ≤ 5 ∧ Small s.name) (hpl : placeL s.kind s.name st.streams < 0) {o : Obj} {w5 : World} {g cap m : Nat} (hm : st.streams.length = m) {X : List Value} (hX : flatS st.streams ps = X)
    (hown : w5.ownsRow 0 115 3 (.slice (some ⟨g, 0, none⟩) (m + 1) cap) (m + 1) (X ++ s.cells p)) (hg : (w.alloc o).grownBy w5 vs.ownBlock) (hat : vs.ownBlock = some g ∨ g = (w.alloc o).heap.size) :
    ∃ T', WdAt (w5.setCell ⟨B, 8, none⟩ (.slice (some ⟨g, 0, none⟩) (m + 1) cap)) B fm rm xm D (.slice (some ⟨g, 0, none⟩) (m + 1) cap) vt (ps ++ [p]) T' { st with streams := st.streams ++ [s] } ∧ (∀ k, k < w.heap.size → T' k = T k) ∧
      Turn (fun k => T k ≠ .no) w (w5.setCell ⟨B, 8, none⟩ (.slice (some ⟨g, 0, none⟩) (m + 1) cap)) := by
  subst hm hX
  have hA : Below w.heap.size w (w.alloc o) := (Below.refl _ w).alloc (Nat.le_refl _) o
  have hsl := h.streams.len
  obtain ⟨T', q1, q2, q3⟩ := (h.below hA).streamed (l := st.streams ++ [s]) (ps' := ps ++ [p]) hg (by simp [hsl]) (by rw [flatS_append _ _ _ _ hsl, List.length_append]; exact hown) (fun k hk => hat.imp (fun e => e.trans (by rw [← hk]; rfl)) fun e => by
      have : g = k := by simpa [Value.ownBlock] using hk
      rw [← this, e]; exact Nat.le_refl _)
    (fun i s2 p2 h1 h2 => by
      rw [List.getElem?_append] at h1 h2
      by_cases hi : i < st.streams.length
      · rw [if_pos hi] at h1
        rw [if_pos (by omega)] at h2
        exact (h.below hA).streams.each i s2 p2 h1 h2
      · rw [if_neg hi] at h1
        rw [if_neg (by omega)] at h2
        have e1 : i - st.streams.length = 0 := by
          rcases Nat.eq_zero_or_pos (i - st.streams.length) with h3 | h3
          · exact h3
          · rw [List.getElem?_eq_none (by simp; omega)] at h1; cases h1
        rw [hsl, e1] at h2
        rw [e1] at h1
        simp at h1 h2
        subst h1 h2
        refine hsrc.later fun k hk => hA.block k (h.lt k (by rw [hk]; simp)))
    (fun s2 hs2 => by
      rcases List.mem_append.1 hs2 with h1 | h1
      · exact h.streams.kinds s2 h1
      · obtain rfl : s2 = s := by simpa using h1
        exact hk)
    (uniq_append h.streams.uniq hpl)
  exact ⟨T', q1, fun k hk => q2 k (Nat.lt_of_lt_of_le hk hA.size), q3.before hA⟩

theorem openedS_eq (st : St) (k : Int) (n : ByteArray) : ({ { begunS st k n with streams := (begunS st k n).streams ++ [(⟨k, n, srcOf st k n⟩ : Strm)] } with trace := (begunS st k n).trace ++ [(⟨1, k, n, noText, 0⟩ : Ev)] } : St) = openedS st k n := by
  unfold openedS
  rw [(begunS_streams st k n).1, (begunS_streams st k n).2]
theorem Goes.chain {w3 w4 w5 w6 : World} {T4 T5 T6 : Tags} {st' : St} (hb : Below w.heap.size w w3) (h4 : ∀ k, k < w3.drew.heap.size → T4 k = T k) (t4 : Turn (fun k => T k ≠ .no) w3.drew w4) (h5 : ∀ k, k < w4.heap.size → T5 k = T4 k) (t5 : Turn (fun k => T4 k ≠ .no) w4 w5) (h6 : ∀ k, k < w5.heap.size → T6 k = T5 k) (t6 : Turn (fun k => T5 k ≠ .no) w5 w6)
    (h : WdAt w6 B fm rm xm D vs vt ps T6 st') : Goes w w6 B T st' := by
  have z4 : w3.drew.heap.size ≤ w4.heap.size := t4.size
  have z5 : w4.heap.size ≤ w5.heap.size := t5.size
  have t35 := t4.thenTags t5 h4
  have h35 : ∀ k, k < w3.drew.heap.size → T5 k = T k := fun k hk => (h5 k (Nat.lt_of_lt_of_le hk z4)).trans (h4 k hk)
  have t36 := t35.thenTags t6 h35
  have e3 : w3.drew.heap.size = w3.heap.size := rfl
  exact ⟨fm, rm, xm, D, vs, vt, ps, T6, h, fun k hk => (h6 k (by have := hb.size; omega)).trans (h35 k (Nat.lt_of_lt_of_le hk hb.size)), Turn.before (b := w3) ⟨t36.os, t36.tape, t36.output, t36.size, t36.block⟩ hb⟩

set_option maxHeartbeats 2000000 in
set_option maxRecDepth 100000 in
theorem open_ (h : WdAt w B fm rm xm D vs vt ps T st) (hk : 0 ≤ k ∧ k < 256) (hn : Small n) (hm : st.made ≤ 1000000) (hs : st.streams.length ≤ 1000000) (ht : st.trace.length ≤ 1000000) :
    Calls Tryd.prog 37 #[ptr B, .int .u8 k, .string n] w fun e w' => e = .returned (.int .i64 (openE st k n)) ∧ Goes w w' B T (openS st k n) := by
  have hC := Lib.hid h.cells
  by_cases hr : 1 ≤ k ∧ k ≤ 5
  · have hr1 : ¬ k < 1 := by omega
    have hr2 : ¬ 5 < k := by omega
    by_cases hp : 0 ≤ placeL k n st.streams
    · have he : openE st k n = 0 := by unfold openE; rw [if_neg (fun h => h hr), if_pos hp]
      have hx : openS st k n = st := if_neg fun h => by have := h.2.1; omega
      rw [he, hx]
      generalize hpl : placeL k n st.streams = pl at hp
      have HP := Lib.hid (⟨h, hpl⟩ : _ ∧ _)
      clear h hpl hr he hx
      go_enter Tryd.func37, Tryd.ntmps37
      go_wp2_with (first
        | (go_at_call 40; refine (made hC.out).mono ?_; rintro e w' ⟨rfl, hw⟩; obtain rfl := hw.symm; clear hw)
        | (go_at_call 41; refine (place HP.out.1 _ n hs).mono ?_; rintro e w2 ⟨rfl, hb2⟩; rw [HP.out.2]; have H2 := Lib.hid hb2; clear hb2))
      go_ret
      exact ⟨rfl, HP.out.1.goes H2.out⟩
    · obtain ⟨oa, c, rfl, _⟩ := slice_of h.streams.row
      by_cases hq : st.most ≤ st.streams.length
      · have he : openE st k n = 15 := by unfold openE; rw [if_neg (fun h => h hr), if_neg hp, if_pos hq]
        have hx : openS st k n = st := if_neg fun h => by have := h.2.2.1; omega
        rw [he, hx]
        generalize hpl : placeL k n st.streams = pl at hp
        have HP := Lib.hid (⟨h, hpl⟩ : _ ∧ _)
        clear h hpl hr he hx
        go_enter Tryd.func37, Tryd.ntmps37
        go_wp2_with (first
        | (go_at_call 40; refine (made hC.out).mono ?_; rintro e w' ⟨rfl, hw⟩; obtain rfl := hw.symm; clear hw)
        | (go_at_call 49; refine (failing (H2.out.1.drewN _) 1 n (by decide) (by decide) hn).mono ?_; rintro e w3 ⟨rfl, hb3⟩; have h3 := (H2.out.1.drewN _).below hb3; have hb3' := H2.out.2.trans ((Below.of_drewN hb3).mono H2.out.2.size); rw [HF.out]; have c0 := h3.cells.c0; have c1 := h3.cells.c1; have c8 := h3.cells.c8; have H3 := Lib.hid (⟨h3, hb3'⟩ : _ ∧ _); clear h3 hb3 hb3')
        | (go_at_call 41; refine (place HP.out.1 _ n hs).mono ?_; rintro e w2 ⟨rfl, hb2⟩; rw [HP.out.2]; have h2 := HP.out.1.below hb2; have c5 := h2.cells.c5; have c8 := h2.cells.c8; have H2 := Lib.hid (⟨h2, hb2⟩ : _ ∧ _); clear hb2 h2))
        go_quiet (fail)
        go_wp2_with (first
        | (go_at_call 40; refine (made hC.out).mono ?_; rintro e w' ⟨rfl, hw⟩; obtain rfl := hw.symm; clear hw)
        | (go_at_call 49; refine (failing (H2.out.1.drewN _) 1 n (by decide) (by decide) hn).mono ?_; rintro e w3 ⟨rfl, hb3⟩; have h3 := (H2.out.1.drewN _).below hb3; have hb3' := H2.out.2.trans ((Below.of_drewN hb3).mono H2.out.2.size); rw [HF.out]; have c0 := h3.cells.c0; have c1 := h3.cells.c1; have c8 := h3.cells.c8; have H3 := Lib.hid (⟨h3, hb3'⟩ : _ ∧ _); clear h3 hb3 hb3')
        | (go_at_call 41; refine (place HP.out.1 _ n hs).mono ?_; rintro e w2 ⟨rfl, hb2⟩; rw [HP.out.2]; have h2 := HP.out.1.below hb2; have c5 := h2.cells.c5; have c8 := h2.cells.c8; have H2 := Lib.hid (⟨h2, hb2⟩ : _ ∧ _); clear hb2 h2))
        go_ret
        exact ⟨rfl, HP.out.1.goes (below_drewN H2.out.2 _)⟩
      by_cases hf : st.fails 1 n = true
      · have he : openE st k n = 12 := by unfold openE; rw [if_neg (fun h => h hr), if_neg hp, if_neg hq, if_pos (.inl hf)]
        have hx : openS st k n = st := if_neg fun h => by rw [h.2.2.2.1] at hf; cases hf
        rw [he, hx]
        generalize hpl : placeL k n st.streams = pl at hp
        have HF := Lib.hid hf
        have HP := Lib.hid (⟨h, hpl⟩ : _ ∧ _)
        clear h hpl hr he hx hf
        go_enter Tryd.func37, Tryd.ntmps37
        go_wp2_with (first
        | (go_at_call 40; refine (made hC.out).mono ?_; rintro e w' ⟨rfl, hw⟩; obtain rfl := hw.symm; clear hw)
        | (go_at_call 49; refine (failing (H2.out.1.drewN _) 1 n (by decide) (by decide) hn).mono ?_; rintro e w3 ⟨rfl, hb3⟩; have h3 := (H2.out.1.drewN _).below hb3; have hb3' := H2.out.2.trans ((Below.of_drewN hb3).mono H2.out.2.size); rw [HF.out]; have c0 := h3.cells.c0; have c1 := h3.cells.c1; have c8 := h3.cells.c8; have H3 := Lib.hid (⟨h3, hb3'⟩ : _ ∧ _); clear h3 hb3 hb3')
        | (go_at_call 41; refine (place HP.out.1 _ n hs).mono ?_; rintro e w2 ⟨rfl, hb2⟩; rw [HP.out.2]; have h2 := HP.out.1.below hb2; have c5 := h2.cells.c5; have c8 := h2.cells.c8; have H2 := Lib.hid (⟨h2, hb2⟩ : _ ∧ _); clear hb2 h2))
        go_quiet (fail)
        go_wp2_with (first
        | (go_at_call 40; refine (made hC.out).mono ?_; rintro e w' ⟨rfl, hw⟩; obtain rfl := hw.symm; clear hw)
        | (go_at_call 49; refine (failing (H2.out.1.drewN _) 1 n (by decide) (by decide) hn).mono ?_; rintro e w3 ⟨rfl, hb3⟩; have h3 := (H2.out.1.drewN _).below hb3; have hb3' := H2.out.2.trans ((Below.of_drewN hb3).mono H2.out.2.size); rw [HF.out]; have c0 := h3.cells.c0; have c1 := h3.cells.c1; have c8 := h3.cells.c8; have H3 := Lib.hid (⟨h3, hb3'⟩ : _ ∧ _); clear h3 hb3 hb3')
        | (go_at_call 41; refine (place HP.out.1 _ n hs).mono ?_; rintro e w2 ⟨rfl, hb2⟩; rw [HP.out.2]; have h2 := HP.out.1.below hb2; have c5 := h2.cells.c5; have c8 := h2.cells.c8; have H2 := Lib.hid (⟨h2, hb2⟩ : _ ∧ _); clear hb2 h2))
        go_ret
        exact ⟨rfl, HP.out.1.goes H3.out.2⟩
      have hf0 : st.fails 1 n = false := by simpa using hf
      by_cases hno : k = 1 ∧ n ≠ dash ∧ st.file n = none
      · have he : openE st k n = 12 := by unfold openE; rw [if_neg (fun h => h hr), if_neg hp, if_neg hq, if_pos (.inr hno)]
        have hx : openS st k n = st := if_neg fun h => h.2.2.2.2 hno
        rw [he, hx]
        obtain ⟨rfl, hd, hfn⟩ := hno
        have hxd : (n.toList == [45]) = false := by rw [← dash_list]; exact toList_ne hd
        generalize hpl : placeL 1 n st.streams = pl at hp
        have HF := Lib.hid hf0
        have HP := Lib.hid (⟨h, hpl, hfn⟩ : _ ∧ _ ∧ _)
        clear h hpl hr he hx hf hf0 hd hfn
        go_enter Tryd.func37, Tryd.ntmps37
        go_wp2_with (first
        | (go_at_call 40; refine (made hC.out).mono ?_; rintro e w' ⟨rfl, hw⟩; obtain rfl := hw.symm; clear hw)
        | (go_at_call 49; refine (failing (H2.out.1.drewN _) 1 n (by decide) (by decide) hn).mono ?_; rintro e w3 ⟨rfl, hb3⟩; have h3 := (H2.out.1.drewN _).below hb3; have hb3' := H2.out.2.trans ((Below.of_drewN hb3).mono H2.out.2.size); rw [HF.out]; have c0 := h3.cells.c0; have c1 := h3.cells.c1; have c8 := h3.cells.c8; have hlk := h3.lookNone hn HP.out.2.2; have H3 := Lib.hid (⟨h3, hb3'⟩ : _ ∧ _); clear h3 hb3 hb3')
        | (go_at_call 41; refine (place HP.out.1 _ n hs).mono ?_; rintro e w2 ⟨rfl, hb2⟩; rw [HP.out.2.1]; have h2 := HP.out.1.below hb2; have c5 := h2.cells.c5; have c8 := h2.cells.c8; have H2 := Lib.hid (⟨h2, hb2⟩ : _ ∧ _); clear hb2 h2)
        | rw [bld_eq_nil])
        go_quiet (fail)
        go_wp2_with (first
        | (go_at_call 40; refine (made hC.out).mono ?_; rintro e w' ⟨rfl, hw⟩; obtain rfl := hw.symm; clear hw)
        | (go_at_call 49; refine (failing (H2.out.1.drewN _) 1 n (by decide) (by decide) hn).mono ?_; rintro e w3 ⟨rfl, hb3⟩; have h3 := (H2.out.1.drewN _).below hb3; have hb3' := H2.out.2.trans ((Below.of_drewN hb3).mono H2.out.2.size); rw [HF.out]; have c0 := h3.cells.c0; have c1 := h3.cells.c1; have c8 := h3.cells.c8; have hlk := h3.lookNone hn HP.out.2.2; have H3 := Lib.hid (⟨h3, hb3'⟩ : _ ∧ _); clear h3 hb3 hb3')
        | (go_at_call 41; refine (place HP.out.1 _ n hs).mono ?_; rintro e w2 ⟨rfl, hb2⟩; rw [HP.out.2.1]; have h2 := HP.out.1.below hb2; have c5 := h2.cells.c5; have c8 := h2.cells.c8; have H2 := Lib.hid (⟨h2, hb2⟩ : _ ∧ _); clear hb2 h2)
        | rw [bld_eq_nil])
        go_ret
        exact ⟨rfl, HP.out.1.goes H3.out.2⟩
      have hnew : openNew st k n := ⟨hr, by omega, by omega, hf0, hno⟩
      have he : openE st k n = 0 := by unfold openE; rw [if_neg (fun h => h hr), if_neg hp, if_neg hq, if_neg (fun h => h.elim hf hno)]
      have hx : openS st k n = openedS st k n := if_pos hnew
      rw [he, hx]
      generalize hpl : placeL k n st.streams = pl at hp
      have HF := Lib.hid hf0
      by_cases hk1 : k = 1
      · subst hk1
        by_cases hd : n = dash
        · have hxd : (n.toList == [45]) = true := by rw [hd, dash_list]; rfl
          have HD := Lib.hid hd
          have HP := Lib.hid (⟨h, hpl, hnew⟩ : _ ∧ _ ∧ _)
          clear h hpl hr he hx hf hf0 hd hno hnew
          go_enter Tryd.func37, Tryd.ntmps37
          go_wp2_with (first
        | (go_at_call 40; refine (made hC.out).mono ?_; rintro e w' ⟨rfl, hw⟩; obtain rfl := hw.symm; clear hw)
        | (go_at_call 49; refine (failing (H2.out.1.drewN _) 1 n (by decide) (by decide) hn).mono ?_; rintro e w3 ⟨rfl, hb3⟩; have h3 := (H2.out.1.drewN _).below hb3; have hb3' := H2.out.2.trans ((Below.of_drewN hb3).mono H2.out.2.size); rw [HF.out]; have c0 := h3.cells.c0; have c1 := h3.cells.c1; have c8 := h3.cells.c8; have H3 := Lib.hid (⟨h3, hb3'⟩ : _ ∧ _); clear h3 hb3 hb3')
        | (go_at_call 41; refine (place HP.out.1 _ n hs).mono ?_; rintro e w2 ⟨rfl, hb2⟩; rw [HP.out.2.1]; have h2 := HP.out.1.below hb2; have c5 := h2.cells.c5; have c8 := h2.cells.c8; have H2 := Lib.hid (⟨h2, hb2⟩ : _ ∧ _); clear hb2 h2))
          go_quiet (fail)
          go_wp2_with (first
        | (go_at_call 40; refine (made hC.out).mono ?_; rintro e w' ⟨rfl, hw⟩; obtain rfl := hw.symm; clear hw)
        | (go_at_call 49; refine (failing (H2.out.1.drewN _) 1 n (by decide) (by decide) hn).mono ?_; rintro e w3 ⟨rfl, hb3⟩; have h3 := (H2.out.1.drewN _).below hb3; have hb3' := H2.out.2.trans ((Below.of_drewN hb3).mono H2.out.2.size); rw [HF.out]; have c0 := h3.cells.c0; have c1 := h3.cells.c1; have c8 := h3.cells.c8; have H3 := Lib.hid (⟨h3, hb3'⟩ : _ ∧ _); clear h3 hb3 hb3')
        | (go_at_call 41; refine (place HP.out.1 _ n hs).mono ?_; rintro e w2 ⟨rfl, hb2⟩; rw [HP.out.2.1]; have h2 := HP.out.1.below hb2; have c5 := h2.cells.c5; have c8 := h2.cells.c8; have H2 := Lib.hid (⟨h2, hb2⟩ : _ ∧ _); clear hb2 h2))
          obtain ⟨i, z, hi, hz, hsz, hby, hzs⟩ := strm_info
          have HZ := Lib.hid (⟨hi, hz, hsz, hby, hzs⟩ : _ ∧ _ ∧ _ ∧ _ ∧ _)
          clear hi hz hsz hby hzs
          have hKN := Lib.hid HP.out.2.2
          go_region_law (first
            | (refine step_append_lies _ rfl (.tmp 60) (.tmp 68) 102 rfl 0 115 i z 3 32 Tryd.underlying102 HZ.out.1 HZ.out.2.1 HZ.out.2.2.1 HZ.out.2.2.2.1 HZ.out.2.2.2.2 (by decide) (.slice oa st.streams.length c) st.streams.length (flatS st.streams ps) (by simp [Act.eval]) (H4.out.2.2.2.2.alloc _) ⟨w4.heap.size, 0, none⟩ 1 1 [.int .u8 1, .string n, .pointer po] (by simp [Act.eval]) rfl (World.news_of_block (alloc_new w4 _)) (three_one _ _ _) (by decide) (by unfold maxLen; omega) (by omega) (Nat.zero_le _) _ rfl ?_; intro g' cap' w5 hown hgrow hat hlt; have q1 := (hgrow.cell_far ⟨B, 8, none⟩ (H4.out.1.box_lt _) H4.out.1.ne_streams).trans ((((Below.refl _ w4).alloc (Nat.le_refl _) _).cell (p := ⟨B, 8, none⟩) H4.out.1.cells.lt).trans d8); have q2 := (hgrow.frozen_far ⟨B, 8, none⟩ (H4.out.1.box_lt _) H4.out.1.ne_streams).trans ((((Below.refl _ w4).alloc (Nat.le_refl _) _).frozen (p := ⟨B, 8, none⟩) H4.out.1.cells.lt).trans z8); have HO := Lib.hid (⟨hown, hgrow, hat, hlt⟩ : _ ∧ _ ∧ _ ∧ _); clear hown hgrow hat hlt)
            | (go_simp; go_at_call 62; refine (begin_ H3.out.1.drew 1  n hn hm hKN.out.1 (fun _ e => absurd HD.out e)).mono ?_; rintro e w4 ⟨p, rfl, D', T', q1, q2, q3, q4⟩; obtain ⟨po, rfl⟩ := q4.one; have d8 := q1.cells.c8; have e8 := (((Below.refl _ w4).alloc (Nat.le_refl _) (.cells #[.int .u8 1, .string n, .pointer po] 115)).cell (p := ⟨B, 8, none⟩) q1.cells.lt).trans d8; have z8 := q1.cells.z 8; have hq5 := H4row q1; have H4 := Lib.hid (⟨q1, q2, q3, q4, hq5⟩ : _ ∧ _ ∧ _ ∧ _ ∧ _); clear q1 q2 q3 q4 hq5))
          all_goals
            have hs4 := begunS_streams st 1 n
            obtain ⟨T5, r1, r2, r3⟩ := H4.out.1.openStream ⟨1, n, srcOf st 1 n⟩ (.pointer po) H4.out.2.2.2.1 ⟨hKN.out.1.1, hKN.out.1.2, hn⟩ (by rw [hs4.1]; exact hKN.out.2.1) (congrArg List.length hs4.1) (congrArg (fun l => flatS l ps) hs4.1) HO.out.1 HO.out.2.1 HO.out.2.2.1
            have H5 := Lib.hid (⟨r1, r2, r3⟩ : _ ∧ _ ∧ _)
            have ht5 : (begunS st 1 n).trace.length ≤ 1000000 := by rw [hs4.2]; exact ht
            clear r1 r2 r3 q1 q2 d8 z8 e8
            go_wp2_with (go_at_call 44; refine (note H5.out.1 ⟨1, 1, n, noText, 0⟩ ht5).mono ?_; rintro e w6 ⟨rfl, vt', T6, s1, s2, s3⟩; have H6 := Lib.hid (⟨s1, s2, s3⟩ : _ ∧ _ ∧ _); clear s1 s2 s3)
            go_ret
            have s1 := H6.out.1
            rw [openedS_eq] at s1
            exact ⟨rfl, Goes.chain H3.out.2 H4.out.2.1 H4.out.2.2.1 H5.out.2.1 H5.out.2.2 H6.out.2.1 H6.out.2.2 s1⟩
        · have hxd : (n.toList == [45]) = false := by rw [← dash_list]; exact toList_ne hd
          obtain ⟨l, hl⟩ : ∃ l, st.file n = some l := by
            cases ho : st.file n with
            | none => exact absurd ⟨rfl, hd, ho⟩ hno
            | some l => exact ⟨l, rfl⟩
          have HP := Lib.hid (⟨h, hpl, hnew, hl⟩ : _ ∧ _ ∧ _ ∧ _)
          clear h hpl hr he hx hf hf0 hd hno hnew hl
          go_enter Tryd.func37, Tryd.ntmps37
          go_wp2_with (first
        | (go_at_call 40; refine (made hC.out).mono ?_; rintro e w' ⟨rfl, hw⟩; obtain rfl := hw.symm; clear hw)
        | (go_at_call 49; refine (failing (H2.out.1.drewN _) 1 n (by decide) (by decide) hn).mono ?_; rintro e w3 ⟨rfl, hb3⟩; have h3 := (H2.out.1.drewN _).below hb3; have hb3' := H2.out.2.trans ((Below.of_drewN hb3).mono H2.out.2.size); rw [HF.out]; have c0 := h3.cells.c0; have c1 := h3.cells.c1; have c8 := h3.cells.c8; obtain ⟨fb, hlk⟩ := h3.lookSome hn HP.out.2.2.2; have H3 := Lib.hid (⟨h3, hb3'⟩ : _ ∧ _); clear h3 hb3 hb3')
        | (go_at_call 41; refine (place HP.out.1 _ n hs).mono ?_; rintro e w2 ⟨rfl, hb2⟩; rw [HP.out.2.1]; have h2 := HP.out.1.below hb2; have c5 := h2.cells.c5; have c8 := h2.cells.c8; have H2 := Lib.hid (⟨h2, hb2⟩ : _ ∧ _); clear hb2 h2)
        | rw [bld_eq_ptr])
          go_quiet (fail)
          go_wp2_with (first
        | (go_at_call 40; refine (made hC.out).mono ?_; rintro e w' ⟨rfl, hw⟩; obtain rfl := hw.symm; clear hw)
        | (go_at_call 49; refine (failing (H2.out.1.drewN _) 1 n (by decide) (by decide) hn).mono ?_; rintro e w3 ⟨rfl, hb3⟩; have h3 := (H2.out.1.drewN _).below hb3; have hb3' := H2.out.2.trans ((Below.of_drewN hb3).mono H2.out.2.size); rw [HF.out]; have c0 := h3.cells.c0; have c1 := h3.cells.c1; have c8 := h3.cells.c8; obtain ⟨fb, hlk⟩ := h3.lookSome hn HP.out.2.2.2; have H3 := Lib.hid (⟨h3, hb3'⟩ : _ ∧ _); clear h3 hb3 hb3')
        | (go_at_call 41; refine (place HP.out.1 _ n hs).mono ?_; rintro e w2 ⟨rfl, hb2⟩; rw [HP.out.2.1]; have h2 := HP.out.1.below hb2; have c5 := h2.cells.c5; have c8 := h2.cells.c8; have H2 := Lib.hid (⟨h2, hb2⟩ : _ ∧ _); clear hb2 h2)
        | rw [bld_eq_ptr])
          obtain ⟨i, z, hi, hz, hsz, hby, hzs⟩ := strm_info
          have HZ := Lib.hid (⟨hi, hz, hsz, hby, hzs⟩ : _ ∧ _ ∧ _ ∧ _ ∧ _)
          clear hi hz hsz hby hzs
          have hKN := Lib.hid HP.out.2.2.1
          go_region_law (first
            | (refine step_append_lies _ rfl (.tmp 60) (.tmp 68) 102 rfl 0 115 i z 3 32 Tryd.underlying102 HZ.out.1 HZ.out.2.1 HZ.out.2.2.1 HZ.out.2.2.2.1 HZ.out.2.2.2.2 (by decide) (.slice oa st.streams.length c) st.streams.length (flatS st.streams ps) (by simp [Act.eval]) (H4.out.2.2.2.2.alloc _) ⟨w4.heap.size, 0, none⟩ 1 1 [.int .u8 1, .string n, .pointer po] (by simp [Act.eval]) rfl (World.news_of_block (alloc_new w4 _)) (three_one _ _ _) (by decide) (by unfold maxLen; omega) (by omega) (Nat.zero_le _) _ rfl ?_; intro g' cap' w5 hown hgrow hat hlt; have q1 := (hgrow.cell_far ⟨B, 8, none⟩ (H4.out.1.box_lt _) H4.out.1.ne_streams).trans ((((Below.refl _ w4).alloc (Nat.le_refl _) _).cell (p := ⟨B, 8, none⟩) H4.out.1.cells.lt).trans d8); have q2 := (hgrow.frozen_far ⟨B, 8, none⟩ (H4.out.1.box_lt _) H4.out.1.ne_streams).trans ((((Below.refl _ w4).alloc (Nat.le_refl _) _).frozen (p := ⟨B, 8, none⟩) H4.out.1.cells.lt).trans z8); have HO := Lib.hid (⟨hown, hgrow, hat, hlt⟩ : _ ∧ _ ∧ _ ∧ _); clear hown hgrow hat hlt)
            | (go_simp; go_at_call 62; refine (begin_ H3.out.1.drew 1  n hn hm hKN.out.1 (fun _ _ => ⟨_, HP.out.2.2.2⟩)).mono ?_; rintro e w4 ⟨p, rfl, D', T', q1, q2, q3, q4⟩; obtain ⟨po, rfl⟩ := q4.one; have d8 := q1.cells.c8; have e8 := (((Below.refl _ w4).alloc (Nat.le_refl _) (.cells #[.int .u8 1, .string n, .pointer po] 115)).cell (p := ⟨B, 8, none⟩) q1.cells.lt).trans d8; have z8 := q1.cells.z 8; have hq5 := H4row q1; have H4 := Lib.hid (⟨q1, q2, q3, q4, hq5⟩ : _ ∧ _ ∧ _ ∧ _ ∧ _); clear q1 q2 q3 q4 hq5))
          all_goals
            have hs4 := begunS_streams st 1 n
            obtain ⟨T5, r1, r2, r3⟩ := H4.out.1.openStream ⟨1, n, srcOf st 1 n⟩ (.pointer po) H4.out.2.2.2.1 ⟨hKN.out.1.1, hKN.out.1.2, hn⟩ (by rw [hs4.1]; exact hKN.out.2.1) (congrArg List.length hs4.1) (congrArg (fun l => flatS l ps) hs4.1) HO.out.1 HO.out.2.1 HO.out.2.2.1
            have H5 := Lib.hid (⟨r1, r2, r3⟩ : _ ∧ _ ∧ _)
            have ht5 : (begunS st 1 n).trace.length ≤ 1000000 := by rw [hs4.2]; exact ht
            clear r1 r2 r3 q1 q2 d8 z8 e8
            go_wp2_with (go_at_call 44; refine (note H5.out.1 ⟨1, 1, n, noText, 0⟩ ht5).mono ?_; rintro e w6 ⟨rfl, vt', T6, s1, s2, s3⟩; have H6 := Lib.hid (⟨s1, s2, s3⟩ : _ ∧ _ ∧ _); clear s1 s2 s3)
            go_ret
            have s1 := H6.out.1
            rw [openedS_eq] at s1
            exact ⟨rfl, Goes.chain H3.out.2 H4.out.2.1 H4.out.2.2.1 H5.out.2.1 H5.out.2.2 H6.out.2.1 H6.out.2.2 s1⟩
      · have hxk : (k == 1) = false := beq_eq_false_iff_ne.2 hk1
        have HK := Lib.hid hk1
        have HP := Lib.hid (⟨h, hpl, hnew⟩ : _ ∧ _ ∧ _)
        clear h hpl hr he hx hf hf0 hno hnew hk1
        go_enter Tryd.func37, Tryd.ntmps37
        go_wp2_with (first
        | (go_at_call 40; refine (made hC.out).mono ?_; rintro e w' ⟨rfl, hw⟩; obtain rfl := hw.symm; clear hw)
        | (go_at_call 49; refine (failing (H2.out.1.drewN _) 1 n (by decide) (by decide) hn).mono ?_; rintro e w3 ⟨rfl, hb3⟩; have h3 := (H2.out.1.drewN _).below hb3; have hb3' := H2.out.2.trans ((Below.of_drewN hb3).mono H2.out.2.size); rw [HF.out]; have c0 := h3.cells.c0; have c1 := h3.cells.c1; have c8 := h3.cells.c8; have H3 := Lib.hid (⟨h3, hb3'⟩ : _ ∧ _); clear h3 hb3 hb3')
        | (go_at_call 41; refine (place HP.out.1 _ n hs).mono ?_; rintro e w2 ⟨rfl, hb2⟩; rw [HP.out.2.1]; have h2 := HP.out.1.below hb2; have c5 := h2.cells.c5; have c8 := h2.cells.c8; have H2 := Lib.hid (⟨h2, hb2⟩ : _ ∧ _); clear hb2 h2))
        go_quiet (fail)
        go_wp2_with (first
        | (go_at_call 40; refine (made hC.out).mono ?_; rintro e w' ⟨rfl, hw⟩; obtain rfl := hw.symm; clear hw)
        | (go_at_call 49; refine (failing (H2.out.1.drewN _) 1 n (by decide) (by decide) hn).mono ?_; rintro e w3 ⟨rfl, hb3⟩; have h3 := (H2.out.1.drewN _).below hb3; have hb3' := H2.out.2.trans ((Below.of_drewN hb3).mono H2.out.2.size); rw [HF.out]; have c0 := h3.cells.c0; have c1 := h3.cells.c1; have c8 := h3.cells.c8; have H3 := Lib.hid (⟨h3, hb3'⟩ : _ ∧ _); clear h3 hb3 hb3')
        | (go_at_call 41; refine (place HP.out.1 _ n hs).mono ?_; rintro e w2 ⟨rfl, hb2⟩; rw [HP.out.2.1]; have h2 := HP.out.1.below hb2; have c5 := h2.cells.c5; have c8 := h2.cells.c8; have H2 := Lib.hid (⟨h2, hb2⟩ : _ ∧ _); clear hb2 h2))
        obtain ⟨i, z, hi, hz, hsz, hby, hzs⟩ := strm_info
        have HZ := Lib.hid (⟨hi, hz, hsz, hby, hzs⟩ : _ ∧ _ ∧ _ ∧ _ ∧ _)
        clear hi hz hsz hby hzs
        have hKN := Lib.hid HP.out.2.2
        go_region_law (first
          | (refine step_append_lies _ rfl (.tmp 60) (.tmp 68) 102 rfl 0 115 i z 3 32 Tryd.underlying102 HZ.out.1 HZ.out.2.1 HZ.out.2.2.1 HZ.out.2.2.2.1 HZ.out.2.2.2.2 (by decide) (.slice oa st.streams.length c) st.streams.length (flatS st.streams ps) (by simp [Act.eval]) (H4.out.2.2.2.2.alloc _) ⟨w4.heap.size, 0, none⟩ 1 1 [.int .u8 k, .string n, .pointer po] (by simp [Act.eval]) rfl (World.news_of_block (alloc_new w4 _)) (three_one _ _ _) (by decide) (by unfold maxLen; omega) (by omega) (Nat.zero_le _) _ rfl ?_; intro g' cap' w5 hown hgrow hat hlt; have q1 := (hgrow.cell_far ⟨B, 8, none⟩ (H4.out.1.box_lt _) H4.out.1.ne_streams).trans ((((Below.refl _ w4).alloc (Nat.le_refl _) _).cell (p := ⟨B, 8, none⟩) H4.out.1.cells.lt).trans d8); have q2 := (hgrow.frozen_far ⟨B, 8, none⟩ (H4.out.1.box_lt _) H4.out.1.ne_streams).trans ((((Below.refl _ w4).alloc (Nat.le_refl _) _).frozen (p := ⟨B, 8, none⟩) H4.out.1.cells.lt).trans z8); have HO := Lib.hid (⟨hown, hgrow, hat, hlt⟩ : _ ∧ _ ∧ _ ∧ _); clear hown hgrow hat hlt)
          | (go_simp; go_at_call 62; refine (begin_ H3.out.1.drew k  n hn hm hKN.out.1 (fun e => absurd e HK.out)).mono ?_; rintro e w4 ⟨p, rfl, D', T', q1, q2, q3, q4⟩; obtain ⟨po, rfl⟩ := q4.one; have d8 := q1.cells.c8; have e8 := (((Below.refl _ w4).alloc (Nat.le_refl _) (.cells #[.int .u8 k, .string n, .pointer po] 115)).cell (p := ⟨B, 8, none⟩) q1.cells.lt).trans d8; have z8 := q1.cells.z 8; have hq5 := H4row q1; have H4 := Lib.hid (⟨q1, q2, q3, q4, hq5⟩ : _ ∧ _ ∧ _ ∧ _ ∧ _); clear q1 q2 q3 q4 hq5))
        all_goals
          have hs4 := begunS_streams st k n
          obtain ⟨T5, r1, r2, r3⟩ := H4.out.1.openStream ⟨k, n, srcOf st k n⟩ (.pointer po) H4.out.2.2.2.1 ⟨hKN.out.1.1, hKN.out.1.2, hn⟩ (by rw [hs4.1]; exact hKN.out.2.1) (congrArg List.length hs4.1) (congrArg (fun l => flatS l ps) hs4.1) HO.out.1 HO.out.2.1 HO.out.2.2.1
          have H5 := Lib.hid (⟨r1, r2, r3⟩ : _ ∧ _ ∧ _)
          have ht5 : (begunS st k n).trace.length ≤ 1000000 := by rw [hs4.2]; exact ht
          clear r1 r2 r3 q1 q2 d8 z8 e8
          go_wp2_with (go_at_call 44; refine (note H5.out.1 ⟨1, k, n, noText, 0⟩ ht5).mono ?_; rintro e w6 ⟨rfl, vt', T6, s1, s2, s3⟩; have H6 := Lib.hid (⟨s1, s2, s3⟩ : _ ∧ _ ∧ _); clear s1 s2 s3)
          go_ret
          have s1 := H6.out.1
          rw [openedS_eq] at s1
          exact ⟨rfl, Goes.chain H3.out.2 H4.out.2.1 H4.out.2.2.1 H5.out.2.1 H5.out.2.2 H6.out.2.1 H6.out.2.2 s1⟩
  · have he : openE st k n = 2 := by unfold openE; rw [if_pos hr]
    have hx : openS st k n = st := if_neg fun h => hr h.1
    rw [he, hx]
    have HP := Lib.hid h
    clear h he hx
    by_cases hr1 : k < 1
    · clear hr
      go_enter Tryd.func37, Tryd.ntmps37
      go_wp2_with (first
        | (go_at_call 40; refine (made hC.out).mono ?_; rintro e w' ⟨rfl, hw⟩; obtain rfl := hw.symm; clear hw))
      go_ret
      exact ⟨rfl, HP.out.goes (Below.refl _ _)⟩
    · have hr2 : 5 < k := by omega
      clear hr
      go_enter Tryd.func37, Tryd.ntmps37
      go_wp2_with (first
        | (go_at_call 40; refine (made hC.out).mono ?_; rintro e w' ⟨rfl, hw⟩; obtain rfl := hw.symm; clear hw))
      go_ret
      exact ⟨rfl, HP.out.goes (Below.refl _ _)⟩
end
end Go.Proofs.YtahblmcjocepeaaDoor.Wo
