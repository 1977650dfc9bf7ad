/-
  Package world: builders written, read, emptied.
-/
import Derived.Test.YtahblmcjocepeaaDoorWoB
namespace Go.Proofs.YtahblmcjocepeaaDoor.Wo
open Go.RowKit Go.Maps

theorem byte_info : ∃ i, Tryd.prog.info? 5 = some i ∧ i.zero = some (.int .u8 0) ∧ i.size = 1 ∧ i.bytes = 1 := by
  have h : (Tryd.prog.info? 5).map (fun i => (i.zero, i.size, i.bytes)) = some (some (.int .u8 0), 1, 1) := by kernel_rfl
  cases hi : Tryd.prog.info? 5 with
  | none => rw [hi] at h; cases h
  | some i =>
    rw [hi] at h
    simp only [Option.map_some, Option.some.injEq, Prod.mk.injEq] at h
    exact ⟨i, rfl, h.1, h.2.1, h.2.2⟩
theorem bld_info : ∃ j, Tryd.prog.info? 91 = some j ∧ j.size = 2 := by
  have h : (Tryd.prog.info? 91).map (·.size) = some 2 := by kernel_rfl
  cases hi : Tryd.prog.info? 91 with
  | none => rw [hi] at h; cases h
  | some i => rw [hi] at h; exact ⟨i, rfl, by simpa using h⟩

set_option maxRecDepth 100000 in
theorem copyCheck {w : World} {b : Nat} {p v : Value} (hp : p = .pointer none ∨ p = ptr b) (h : w.heap[b]? = some (.cells #[p, v] 91)) :
    Calls Tryd.prog 60 #[ptr b] w fun e w' => e = .returned (.tuple #[]) ∧ w'.heap[b]? = some (.cells #[ptr b, v] 91) ∧ Turn (fun k => k = b) w w' := by
  obtain ⟨j, hj, hj2⟩ := bld_info
  have c0 : w.cell? ⟨b, 0, none⟩ = some p := by simp [World.cell?, h]
  have f0 : w.frozen? ⟨b, 0, none⟩ = false := by simp [World.frozen?, h]
  have hsh : w.shape? b = some (91, 2) := by simp [World.shape?, h]
  have hne := Lib.run_neq_ptr_same (P := Tryd.prog) w (tp := 89) ⟨b, 0, none⟩ Tryd.underlying89 hj
  have hext := run_callFunc_extern (e := Extern.AbiNoEscape.same) Tryd.func78 (by kernel_rfl) (by kernel_rfl) (by kernel_rfl) (by kernel_rfl)
  have hlies : liesAt Tryd.prog Tryd.prog.depth 91 (2 / Tryd.prog.cellsOf 91) 0 91 1 = true := by kernel_rfl
  rcases hp with rfl | rfl
  · go_enter Tryd.func60, Tryd.ntmps60
    go_wp2_with fail
    rw [Lib.run_to_unsafe w ⟨b, 0, none⟩ Tryd.underlying89 Tryd.underlying156 hj (by rw [hj2]; decide) hsh (Nat.zero_lt_succ 1)]
    simp only [Result.andThen]
    rw [Oper.upon_value]
    go_wp2_with fail
    rw [Lib.run_noEscape]
    simp only [Result.andThen]
    rw [Oper.upon_value]
    go_wp2_with fail
    rw [Lib.run_from_unsafe w ⟨b, 0, none⟩ Tryd.underlying156 Tryd.underlying89 hj hsh hlies]
    simp only [Result.andThen]
    rw [Oper.upon_value]
    go_wp2_with fail
    go_end0
    refine ⟨rfl, ?_, Turn.of_set w ⟨b, 0, none⟩ _⟩
    simp [World.setCell, Array.getElem?_modify, h]
  · go_enter Tryd.func60, Tryd.ntmps60
    go_wp2_with (first | rw [hne])
    go_end0
    exact ⟨rfl, h, Turn.refl _ _⟩

section
variable {P : Program} (w : World)
theorem run_append_hat (t u ty e : TypeId) (i : TypeInfo) (ht : P.underlying t = some (.slice e)) (hu : P.underlying u = some .string) (hi : P.info? e = some i) (hz : i.zero = some (.int .u8 0)) (hsize : i.size = 1) (hby : i.bytes = 1)
    (v : Value) (n : Nat) (xs : List Value) (hown : w.ownsRowF 0 e 1 v n xs) (s : ByteArray) (hbytes : n + s.size ≤ 1000000000) :
    ∃ v' w', (Builtin.append_ #[t, u] ty #[v, .string s]).run P w = .ok v' w' ∧ w'.ownsRowF 0 e 1 v' (n + s.size) (xs ++ Lib.strCells s) ∧ w.grownBy w' v.ownBlock ∧ (v = .slice none 0 0 → s.size = 0 → v' = .slice none 0 0) ∧ ∀ k, v'.ownBlock = some k → v.ownBlock = some k ∨ w.heap.size ≤ k := by
  obtain ⟨v', w', h1, h2, h3, h9⟩ := Lib.run_append_own_stringF (P := P) w 0 t u ty e i ht hu hi hz hsize hby v n xs hown s (by unfold maxLen; omega) (by omega) (Nat.zero_le _)
  refine ⟨v', w', h1, h2, h3, fun a b => h9.2 ⟨a, b⟩, ?_⟩
  clear h9
  rcases hown.2 with ⟨rfl, rfl⟩ | ⟨g, cap, cur, fz, rfl, hbg, hg, hfz, hnc, hcm, hcs, htake⟩
  · have hx : xs = [] := List.eq_nil_of_length_eq_zero (by simpa using hown.1)
    subst hx
    obtain ⟨v2, w2, q1, q2, _, _⟩ := Lib.run_append_own_stringF (P := P) w w.heap.size t u ty e i ht hu hi hz hsize hby (.slice none 0 0) 0 [] (World.ownsRowF_nil _ _ _ _) s (by unfold maxLen; omega) (by omega) (Nat.le_refl _)
    rw [h1] at q1
    cases q1
    exact fun k hk => .inr (q2.lt k hk).1
  · have hxl : xs.length = n := by simpa using hown.1
    have hcs' : cur.size = cap := by simpa using hcs
    by_cases hroom : n + s.size ≤ cap
    · have hr := Lib.run_append_room_stringF (P := P) w t u ty e i ht hu hi hsize g n cap cur fz hg (by simpa using hfz) s hroom (by omega)
      rw [h1] at hr
      cases hr
      exact fun k hk => .inl hk
    · have hr := Lib.run_append_grow_string (P := P) w t u ty e i (.int .u8 0) ht hu hi hz ⟨g, 0, none⟩ n cap xs (by rw [hsize]; simpa using hxl) (hown.cells (g := g) rfl) s (by omega) (by omega) (by rw [hby]; exact growslice_fits (by unfold maxLen at hcm; omega) (by omega))
      rw [h1] at hr
      cases hr
      intro k hk
      have : w.heap.size = k := by simpa [Value.ownBlock] using hk
      exact .inr (by omega)
theorem wpList_append_hat {ops : Array Oper} {rest : List Oper} {o : Oper} {a : Act} {Q : Exit → Act → World → Prop} (hgd : o.guard = none) (sl x : Operand) (t u : TypeId) (ho : o.op = .call { callee := .builtin .append, args := #[sl, x], argTypes := #[t, u] })
    (e : TypeId) (i : TypeInfo) (ht : P.underlying t = some (.slice e)) (hu : P.underlying u = some .string) (hi : P.info? e = some i) (hz : i.zero = some (.int .u8 0)) (hsize : i.size = 1) (hby : i.bytes = 1)
    (v : Value) (n : Nat) (xs : List Value) (hs : a.eval sl = v) (hown : w.ownsRowF 0 e 1 v n xs) (s : ByteArray) (hx : a.eval x = .string s) (hbytes : n + s.size ≤ 1000000000)
    (h : ∀ v' w', w'.ownsRowF 0 e 1 v' (n + s.size) (xs ++ Lib.strCells s) → w.grownBy w' v.ownBlock → (v = .slice none 0 0 → s.size = 0 → v' = .slice none 0 0) → (∀ k, v'.ownBlock = some k → v.ownBlock = some k ∨ w.heap.size ≤ k) → wpList P ops Q rest (a.put o.dst v') w') : wpList P ops Q (o :: rest) a w := by
  refine wpList_plain hgd fun K hK => ?_
  obtain ⟨v', w', hr, h2, h3, h4, h5⟩ := run_append_hat (P := P) w t u o.type e i ht hu hi hz hsize hby v n xs hown s hbytes
  unfold Oper.wp execOp
  simp only [ho, resolve, invoke, builtin, Sem.run_bind, Sem.run_pure, Result.andThen_ok, List.map_toArray, List.map_cons, List.map_nil, hs, hx, hr]
  exact hK _ _ (h v' w' h2 h3 h4 h5)
end

set_option maxRecDepth 100000 in
theorem writeString {w : World} {b : Nat} {buf : Option Nat} {l : List UInt8} (s : ByteArray) (h : Bd w b buf l) (hlen : l.length + s.size ≤ 1000000000) :
    Calls Tryd.prog 33 #[ptr b, .string s] w fun e w' => e = .returned (.tuple #[.int .i64 s.size, .nilIface]) ∧ ∃ buf', Bd w' b buf' (l ++ s.data.toList) ∧ Turn (fun k => k = b ∨ some k = buf) w w' ∧ ∀ k, buf' = some k → buf = some k ∨ w.heap.size ≤ k := by
  obtain ⟨i0, hi, hz0, hz1, hz2⟩ := byte_info
  have hap := h.apart
  have hbl := h.lt
  have hgl := h.ltBuf
  obtain ⟨p, v, hp, hb, hr, hnil, rfl⟩ := h
  have HH := Lib.hid (⟨hp, hb, hnil⟩ : _ ∧ _ ∧ _)
  clear hp hb hnil
  go_enter Tryd.func33, Tryd.ntmps33
  go_wp2_with (first
    | (at_builtin; refine wpList_append_hat _ rfl _ _ 76 9 rfl 5 i0 Tryd.underlying76 Tryd.underlying9 hi hz0 hz1 hz2 _ _ _ rfl hr1 s rfl hlen ?_; intro v' w2 hown' hgrow hnl hat; have hb2 : w2.heap[b]? = some (.cells #[ptr b, v] 91) := (hgrow.block b (Nat.lt_of_lt_of_le hbl H1.out.2.size) (fun e => hap e.symm)).trans H1.out.1; have d0 : w2.cell? ⟨b, 0, none⟩ = some (ptr b) := (by simp [World.cell?, hb2]); have d1 : w2.cell? ⟨b, 1, none⟩ = some v := (by simp [World.cell?, hb2]); have f1 : w2.frozen? ⟨b, 1, none⟩ = false := (by simp [World.frozen?, hb2]); obtain ⟨ao, n', cap, rfl⟩ : ∃ ao n' cap, v' = .slice ao n' cap := (by
          rcases hown'.2 with ⟨hv, _⟩ | ⟨g, cap, cur, fz, hv, _⟩
          · exact ⟨_, _, _, hv⟩
          · exact ⟨_, _, _, hv⟩); have H2 := Lib.hid (⟨hown', hgrow, hb2, hnl, hat⟩ : _ ∧ _ ∧ _ ∧ _ ∧ _); clear hown' hgrow hb2 hnl hat)
    | (go_at_call 60; refine (copyCheck HH.out.1 HH.out.2.1).mono ?_; rintro e w1 ⟨rfl, hb1, ht1⟩; have hr1 := rowF_of_block hr (w' := w1) fun k hk => ht1.block k (hgl k hk) fun e => hap (by rw [hk, e]); have c0 : w1.cell? ⟨b, 0, none⟩ = some (ptr b) := (by simp [World.cell?, hb1]); have c1 : w1.cell? ⟨b, 1, none⟩ = some v := (by simp [World.cell?, hb1]); have H1 := Lib.hid (⟨hb1, ht1⟩ : _ ∧ _); clear hb1 ht1 hr))
  go_ret2
  obtain ⟨hown', hgrow, hb2, hnl, hat⟩ := H2.out
  have hne2 : (Value.slice ao n' cap).ownBlock ≠ some b := Lib.ownBlock_neF hown' hb2 (by decide)
  refine ⟨rfl, (Value.slice ao n' cap).ownBlock, ⟨ptr b, .slice ao n' cap, .inr rfl, ?_, ?_, fun e => ?_, rfl⟩, ?_, ?_⟩
  · simp [World.setCell, Array.getElem?_modify, hb2]
  · have e1 : Lib.byteCells (l ++ s.data.toList) = Lib.byteCells l ++ Lib.strCells s := by simp [Lib.byteCells, Lib.strCells]
    have e2 : (l ++ s.data.toList).length = l.length + s.size := by rw [List.length_append, Array.length_toList]; rfl
    rw [e1, e2]
    exact rowF_of_block hown' fun k hk => heap_set _ _ _ fun e => hne2 (by rw [hk, e])
  · obtain ⟨e1, e2⟩ := List.append_eq_nil_iff.1 e
    exact hnl (HH.out.2.2 e1) (by have := congrArg List.length e2; rw [Array.length_toList] at this; exact this)
  · exact ((H1.out.2.mono fun k hk => .inl hk).trans (Turn.of_grown hgrow) fun i hi => .inl (.inr hi)).trans (Turn.of_set _ _ _) fun i hi => .inl (.inl hi)
  · exact fun k hk => (hat k hk).imp id fun h => Nat.le_trans H1.out.2.size h

theorem freeze_row {w : World} {n cap : Nat} {xs : List Value} {g : Nat} (h : w.ownsRowF 0 5 1 (.slice (some ⟨g, 0, none⟩) n cap) n xs) (hn : n ≠ 0) : (w.freeze ⟨g, 0, none⟩ n).ownsRowF 0 5 1 (.slice (some ⟨g, 0, none⟩) n cap) n xs := by
  rcases h.2 with ⟨h1, _⟩ | ⟨g2, cap2, cur, fz, h1, h2, h3, h4, h5, h6, h7, h8⟩
  · cases h1
  · cases h1
    obtain ⟨lo, hi⟩ := fz
    refine ⟨h.1, .inr ⟨g, cap, cur, if lo == hi then (0, 0 + n) else (min lo 0, max hi (0 + n)), rfl, h2, ?_, ?_, h5, h6, h7, h8⟩⟩
    · unfold World.freeze
      rw [if_neg hn]
      simp [Array.getElem?_modify, h3]
    · simp only at h4
      split <;> simp only <;> omega
theorem freeze_heap (w : World) (p : Addr) (n : Nat) {k : Nat} (h : k ≠ p.block) : (w.freeze p n).heap[k]? = w.heap[k]? := by
  unfold World.freeze
  split
  · rfl
  · simp only [Array.getElem?_modify]
    rw [if_neg fun e => h e.symm]

theorem turn_froze (g cap n : Nat) (w : World) : Turn (fun k => some k = (Value.slice (some ⟨g, 0, none⟩) n cap).ownBlock) w (w.drew.freeze ⟨g, 0, none⟩ n) :=
  have t := (Turn.of_freeze w.drew ⟨g, 0, none⟩ n).mono (S1 := fun k => some k = (Value.slice (some ⟨g, 0, none⟩) n cap).ownBlock) fun k hk => by
    have : k = g := hk
    subst this; rfl
  ⟨t.os, t.tape, t.output, t.size, t.block⟩

set_option maxRecDepth 100000 in
theorem toString {w : World} {b : Nat} {buf : Option Nat} {l : List UInt8} (h : Bd w b buf l) :
    Calls Tryd.prog 35 #[ptr b] w fun e w' => e = .returned (.string (txt l)) ∧ Bd w' b buf l ∧ Turn (fun k => some k = buf) w w' := by
  have hap := h.apart
  have hbl := h.lt
  have hgl := h.ltBuf
  obtain ⟨p, v, hp, hb, hr, hnil, rfl⟩ := h
  have c1 : ∀ W : World, W.heap = w.heap → W.cell? ⟨b, 1, none⟩ = some v := fun W hW => by simp [World.cell?, hW, hb]
  have hc1 : Tryd.prog.cellsOf 5 = 1 := by kernel_rfl
  rcases hr.2 with ⟨rfl, h0⟩ | ⟨g, cap, cur, fz, rfl, _, hg, hfz, hnc, hcm, hcs, htake⟩
  · obtain rfl : l = [] := List.eq_nil_of_length_eq_zero h0
    have HH := Lib.hid (⟨hp, hb, hr, hnil⟩ : _ ∧ _ ∧ _ ∧ _)
    have c1' := c1 w.drew rfl
    clear hp hb hr c1 hnil
    have hSD : ∀ W : World, (Builtin.unsafeSliceData_ #[76] 135 #[.slice none 0 0]).run Tryd.prog W = .ok (.pointer none) W := fun W => by kernel_rfl
    have hUS : ∀ W : World, (Builtin.unsafeString_ #[135, 3] 9 #[.pointer none, .int .i64 0]).run Tryd.prog W = .ok (.string .empty) W := fun W => by kernel_rfl
    go_enter Tryd.func35, Tryd.ntmps35
    go_wp2_with fail
    go_region
    all_goals go_wp2_with fail
    all_goals go_ret
    all_goals exact ⟨rfl, ⟨p, _, HH.out.1, HH.out.2.1, HH.out.2.2.1, fun _ => rfl, rfl⟩, Turn.of_below (Below.refl _ w).drew⟩
  · have hl : l ≠ [] := fun e => by cases hnil e
    have hl0 : l.length ≠ 0 := by simpa using hl
    have HH := Lib.hid (⟨hp, hb, hr, hnil⟩ : _ ∧ _ ∧ _ ∧ _)
    have c1' := c1 w.drew rfl
    have hSD : (Builtin.unsafeSliceData_ #[76] 135 #[.slice (some ⟨g, 0, none⟩) l.length cap]).run Tryd.prog w.drew = .ok (.pointer (some ⟨g, 0, none⟩)) w.drew := Lib.run_unsafeSliceData_row _ _ _ _ _ _ (by omega)
    have hUS : (Builtin.unsafeString_ #[135, 3] 9 #[.pointer (some ⟨g, 0, none⟩), .int .i64 l.length]).run Tryd.prog w.drew = .ok (.string ⟨l.toArray⟩) (w.drew.freeze ⟨g, 0, none⟩ l.length) := by
      refine Lib.run_unsafeString_row w.drew 135 3 9 5 Tryd.underlying135 hc1 g cur.size (by have hg' : w.drew.heap[g]? = some (.cells cur 5 fz) := hg; simp [World.shape?, hg']) l hl (by omega) (by unfold maxLen at hcm; omega) ?_
      intro j x hx
      exact hr.cells (g := g) rfl j (.int .u8 x.toNat) (by simp [Lib.byteCells, hx])
    clear hp hb hr c1 hnil htake
    have hgb : g ≠ b := fun e => hap (by rw [← e]; rfl)
    go_enter Tryd.func35, Tryd.ntmps35
    go_wp2_with fail
    go_region
    all_goals go_wp2_with fail
    all_goals go_ret
    all_goals exact ⟨rfl, ⟨p, _, HH.out.1, (freeze_heap _ _ _ (fun e => hgb e.symm)).trans HH.out.2.1, freeze_row (w := w.drew) HH.out.2.2.1 hl0, HH.out.2.2.2, rfl⟩, turn_froze g cap l.length w⟩

set_option maxRecDepth 100000 in
theorem reset {w : World} {b : Nat} {buf : Option Nat} {l : List UInt8} (h : Bd w b buf l) :
    Calls Tryd.prog 80 #[ptr b] w fun e w' => e = .returned (.tuple #[]) ∧ Bd w' b none [] ∧ Turn (fun k => k = b) w w' := by
  obtain ⟨p, v, hp, hb, hr, hnil, rfl⟩ := h
  have c0 : w.cell? ⟨b, 0, none⟩ = some p := by simp [World.cell?, hb]
  have c1 : w.cell? ⟨b, 1, none⟩ = some v := by simp [World.cell?, hb]
  have f0 : w.frozen? ⟨b, 0, none⟩ = false := by simp [World.frozen?, hb]
  have f1 : w.frozen? ⟨b, 1, none⟩ = false := by simp [World.frozen?, hb]
  have HH := Lib.hid hb
  clear hb hr hnil hp
  go_enter Tryd.func80, Tryd.ntmps80
  go_wp2_with fail
  go_end0
  refine ⟨rfl, Bd.made ?_, (Turn.of_set w ⟨b, 0, none⟩ _).trans (Turn.of_set (w.setCell ⟨b, 0, none⟩ _) ⟨b, 1, none⟩ _) fun i hi => .inl hi⟩
  simp [World.setCell, Array.getElem?_modify, HH.out]
end Go.Proofs.YtahblmcjocepeaaDoor.Wo
