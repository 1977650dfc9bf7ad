/-
  Package world: an event noted (note), a file to write to (file).
-/
import Derived.Test.YtahblmcjocepeaaDoorWoF
namespace Go.Proofs.YtahblmcjocepeaaDoor.Wo
open Go.RowKit Go.Maps

theorem ev_info : ∃ i z, Tryd.prog.info? 119 = some i ∧ i.zero = some z ∧ i.size = 5 ∧ i.bytes = 48 ∧ z.cells.size = 5 := by
  have h : (Tryd.prog.info? 119).map (fun i => (i.zero.map (·.cells.size), i.size, i.bytes)) = some (some 5, 5, 48) := by kernel_rfl
  cases hi : Tryd.prog.info? 119 with
  | none => rw [hi] at h; cases h
  | some i =>
    rw [hi] at h
    simp only [Option.map_some, Option.some.injEq, Prod.mk.injEq] at h
    cases hz : i.zero with
    | none => rw [hz] at h; cases h.1
    | some z => rw [hz] at h; exact ⟨i, z, rfl, hz, h.2.1, h.2.2, by simpa using h.1⟩
theorem Ev.one (e : Ev) : ∀ u ∈ e.cells, u.oneCell' = true := by
  intro u hu
  simp only [Ev.cells, List.mem_cons, List.not_mem_nil, or_false] at hu
  rcases hu with rfl | rfl | rfl | rfl | rfl <;> rfl
theorem box_cell {w : World} {cs : Array Value} {t : TypeId} (i : Nat) : (w.alloc (.cells cs t)).cell? ⟨w.heap.size, i, none⟩ = cs[i]? := by
  unfold World.cell?
  rw [alloc_new]
  rfl
/- What a world's call makes of it. -/
def Goes (w w' : World) (B : Nat) (T : Tags) (st' : St) : Prop := ∃ fm rm xm D vs vt ps T', WdAt w' B fm rm xm D vs vt ps T' st' ∧ (∀ k, k < w.heap.size → T' k = T k) ∧ Turn (fun k => T k ≠ .no) w w'
theorem Turn.before {S : Nat → Prop} {a b c : World} (k : Turn S b c) (h : Below a.heap.size a b) : Turn S a c := (Turn.of_below h).trans k fun _ hi => .inl hi

set_option maxRecDepth 100000 in
theorem note {w : World} {B fm rm xm : Nat} {D : DataW Unit} {vs vt : Value} {ps : List Value} {T : Tags} {st : St} (h : WdAt w B fm rm xm D vs vt ps T st) (ev : Ev) (hl : st.trace.length ≤ 1000000) :
    Calls Tryd.prog 44 #[ptr B, .agg ⟨ev.cells⟩] w fun e w' => e = .returned (.tuple #[]) ∧ ∃ vt' T', WdAt w' B fm rm xm D vs vt' ps T' { st with trace := st.trace ++ [ev] } ∧ (∀ k, k < w.heap.size → T' k = T k) ∧ Turn (fun k => T k ≠ .no) w w' := by
  obtain ⟨i, z, hi, hz, hsz, hby, hzs⟩ := ev_info
  obtain ⟨oa, c, rfl, hoa⟩ := slice_of h.trace.row
  have HZ := Lib.hid (⟨hi, hz, hsz, hby, hzs⟩ : _ ∧ _ ∧ _ ∧ _ ∧ _)
  clear hi hz hsz hby hzs
  unfold Ev.cells
  obtain ⟨wA, hA⟩ : ∃ wA, wA = w.alloc (.cells #[.int .u8 ev.kind, .int .u8 ev.stream, .string ev.name, .string ev.data, .int .i64 ev.status] 119) := ⟨_, rfl⟩
  have d : ∀ i, wA.cell? ⟨w.heap.size, i, none⟩ = (#[.int .u8 ev.kind, .int .u8 ev.stream, .string ev.name, .string ev.data, .int .i64 ev.status] : Array Value)[i]? := fun i => by rw [hA]; exact box_cell i
  have hb : Below w.heap.size w wA := by rw [hA]; exact (Below.refl _ w).alloc (Nat.le_refl _) _
  have h2 := h.below hb
  have hBt : some B ≠ (Value.slice oa st.trace.length c).ownBlock := fun e => by have := h.trace.tag B e.symm; rw [h.tB] at this; cases this
  have c9 := h2.cells.c9
  have z9 := h2.cells.z 9
  have hBl := h2.cells.lt
  have hBl2 : ∀ o, B < (wA.alloc o).drew.heap.size := fun o => by
    show B < (wA.alloc o).heap.size
    rw [alloc_size]; exact Nat.lt_succ_of_lt hBl
  have d0 := d 0
  have d1 := d 1
  have d2 := d 2
  have d3 := d 3
  have d4 := d 4
  have HH := Lib.hid (⟨h2, hb, hBt⟩ : _ ∧ _ ∧ _)
  clear h h2 hb d hoa hBt
  go_enter Tryd.func44, Tryd.ntmps44
  go_wp2_with fail
  rw [← hA]
  clear hA
  go_region_law (refine step_append_lies _ rfl (.tmp 8) (.tmp 10) 50 rfl 0 119 i z 5 48 Tryd.underlying50 HZ.out.1 HZ.out.2.1 HZ.out.2.2.1 HZ.out.2.2.2.1 HZ.out.2.2.2.2 (by decide) (.slice oa st.trace.length c) st.trace.length (flatE st.trace) (by simp [Act.eval]) ((HH.out.1.trace.row.drew).alloc _) ⟨wA.heap.size, 0, none⟩ 1 1 [.int .u8 ev.kind, .int .u8 ev.stream, .string ev.name, .string ev.data, .int .i64 ev.status] (by simp [Act.eval]) rfl (World.news_of_block (alloc_new wA.drew _)) ev.one (by decide) (by unfold maxLen; omega) (by omega) (Nat.zero_le _) _ rfl ?_; intro g' cap' w' hown hgrow hat hlt; have q1 : w'.cell? ⟨B, 9, none⟩ = some (.slice oa st.trace.length c) := (hgrow.cell_far ⟨B, 9, none⟩ (hBl2 _) HH.out.2.2).trans ((((Below.refl _ wA).drew.alloc (Nat.le_refl _) _).cell (p := ⟨B, 9, none⟩) hBl).trans c9); have q2 : w'.frozen? ⟨B, 9, none⟩ = false := (hgrow.frozen_far ⟨B, 9, none⟩ (hBl2 _) HH.out.2.2).trans ((((Below.refl _ wA).drew.alloc (Nat.le_refl _) _).frozen (p := ⟨B, 9, none⟩) hBl).trans z9); have HO := Lib.hid (⟨hown, hgrow, hat, hlt⟩ : _ ∧ _ ∧ _ ∧ _); clear hown hgrow hat hlt)
  all_goals go_wp2_with fail
  all_goals go_end0
  all_goals
    have hb3 : Below wA.heap.size wA (wA.drew.alloc (.cells #[.int .u8 ev.kind, .int .u8 ev.stream, .string ev.name, .string ev.data, .int .i64 ev.status] 119)) := (Below.refl _ wA).drew.alloc (Nat.le_refl _) _
    obtain ⟨T', q1, q2, q3⟩ := (HH.out.1.below hb3).noted ev HO.out.2.1 HO.out.1 fun k hk => HO.out.2.2.1.imp (fun e => e.trans (by rw [← hk]; rfl)) fun e => by
      have : g' = k := by simpa [Value.ownBlock] using hk
      rw [← this, e]; exact Nat.le_refl _
    exact ⟨rfl, _, T', q1, fun k hk => q2 k (Nat.lt_of_lt_of_le hk (Nat.le_trans HH.out.2.1.size hb3.size)), q3.before (HH.out.2.1.trans (hb3.mono HH.out.2.1.size))⟩

theorem zero_ptr (w : World) : (zeroValue 89).run Tryd.prog w = .ok (.pointer none) w := by kernel_rfl
theorem rdPtr_nil : rdPtr (.pointer none) = some (nilD, []) := rfl
theorem rdPtr_ptr (b : Nat) : rdPtr (ptr b) = some (ptrD b, []) := rfl
theorem ptrD_inj {a b : Nat} (h : ptrD a = ptrD b) : a = b := by
  unfold ptrD at h
  injection h with h
  injection h with h1 h2
  omega
theorem bld_eq_nil (w : World) : (binOp .eql 89 (.pointer none) (.pointer none)).run Tryd.prog w = .ok (.bool true) w := by
  have h : ∀ d : Nat, (Op.equalIn (d + 1) 89 (.pointer none) (.pointer none)).run Tryd.prog w = .ok true w := fun d => by
    simp [Op.equalIn, run_underlying Tryd.underlying89]
  simp only [binOp]
  simp [Op.equal, Op.maxDepth, h 9999]
theorem bld_eq_ptr (b : Nat) (w : World) : (binOp .eql 89 (ptr b) (.pointer none)).run Tryd.prog w = .ok (.bool false) w := by
  have h : ∀ d : Nat, (Op.equalIn (d + 1) 89 (ptr b) (.pointer none)).run Tryd.prog w = .ok false w := fun d => by
    simp [Op.equalIn, run_underlying Tryd.underlying89, ptr]
  simp only [binOp]
  simp [Op.equal, Op.maxDepth, h 9999]
/- What the map of files says of a name. -/
theorem WdAtS.look {sv : Value} {w : World} {B fm rm xm : Nat} {D : DataW Unit} {vs vt : Value} {ps : List Value} {T : Tags} {st : St} (h : WdAtS sv w B fm rm xm D vs vt ps T st) (n : ByteArray) (hn : Small n) :
    (st.file n = none ∧ (Instr.lookup 99 (.map (some fm)) (.string n) false).run Tryd.prog w = .ok (.pointer none) w) ∨
    ∃ l b buf, st.file n = some l ∧ (Instr.lookup 99 (.map (some fm)) (.string n) false).run Tryd.prog w = .ok (ptr b) w ∧ D.atKey (kl n) nilD = ptrD b ∧ Bd w b buf l ∧ T b = .bld n ∧ ∀ k, buf = some k → T k = .buf n := by
  obtain ⟨v, q, hrun, hv⟩ := h.files.map.lookup keyed Tryd.underlying99 (zero_ptr w) rdPtr_nil (key_of hn)
  have he := h.files.each n hn
  cases ho : st.file n with
  | none =>
    rw [ho] at he
    have he : D.atKey (kl n) nilD = nilD := he
    rw [he] at hv
    rcases rdPtr_inv hv with ⟨rfl, _⟩ | ⟨b, rfl, e⟩
    · exact .inl ⟨rfl, hrun⟩
    · cases e
  | some l =>
    rw [ho] at he
    obtain ⟨b, buf, q1, q2, q3, q4⟩ := he
    rw [q1] at hv
    rcases rdPtr_inv hv with ⟨rfl, e⟩ | ⟨b2, rfl, e⟩
    · cases e
    · obtain rfl := ptrD_inj e
      exact .inr ⟨l, b, buf, rfl, hrun, q1, q2, q3, q4⟩

/- A file to write to: the one that is there, or a new one. -/
def beginS (st : St) (n : ByteArray) : St := if (st.file n).isSome then st else { st with file := setF st.file n [], made := st.made + 1 }
set_option maxRecDepth 100000 in
theorem fileX {sv : Value} {w : World} {B fm rm xm : Nat} {D : DataW Unit} {vs vt : Value} {ps : List Value} {T : Tags} {st : St} (h : WdAtS sv w B fm rm xm D vs vt ps T st) (n : ByteArray) (hn : Small n) (hm : st.made ≤ 1000000) :
    Calls Tryd.prog 36 #[ptr B, .string n] w fun e w' => ∃ b D' T', e = .returned (ptr b) ∧
      WdAtS sv w' B fm rm xm D' vs vt ps T' (beginS st n) ∧ (∀ k, k < w.heap.size → T' k = T k) ∧ Turn (fun k => T k ≠ .no) w w' ∧ D'.atKey (kl n) nilD = ptrD b ∧ Turn (fun k => k = fm) w w' := by
  have hC := h.cells
  have c1 := hC.c1
  rcases h.look n hn with ⟨h1, h2⟩ | ⟨l, b, buf, h1, h2, h3, h4, h5, h6⟩
  · have HH := Lib.hid (⟨h, h1⟩ : _ ∧ _)
    have hA := (Below.refl _ w).alloc (Nat.le_refl _) (.cells #[.pointer none, .slice none 0 0] 91)
    have c1' := (hC.below hA).c1
    have HA := Lib.hid (⟨h.below hA, hA⟩ : _ ∧ _)
    clear h h1 hC hA
    have hk := key_of hn
    go_enter Tryd.func36, Tryd.ntmps36
    go_wp2_with (first
      | rw [bld_eq_nil]
      | (at_mapUpdate; refine wpList_mapUpdate_in _ rfl _ _ _ 99 rfl 9 89 keyed Tryd.underlying99 rdPtr fm st.made D rfl HA.out.1.files.map (by unfold maxLen; omega) (.string n) (ptr w.heap.size) (kl n) rfl rfl hk (ptrD w.heap.size) [] (rdPtr_ptr _) ?_; intro w3 hown3 hturn3; have H3 := Lib.hid (⟨hown3, hturn3⟩ : _ ∧ _); clear hown3 hturn3))
    go_ret
    have hfn : T fm = .files := HH.out.1.tf
    have hfl : fm < w.heap.size := HH.out.1.lt fm (by rw [hfn]; simp)
    have hg := H3.out.2.grown
    have ht : Turn (fun k => k = fm) w w3 := ((Turn.of_grown hg).mono fun k hk => by simpa using hk).before HA.out.2
    have hbd : Bd w3 w.heap.size none [] := Bd.made ((hg.block w.heap.size (by rw [alloc_size]; omega) (by simp; omega)).trans (alloc_new w _))
    obtain ⟨T', q1, q2, q3⟩ := HH.out.1.begun hn (Nat.le_refl _) ht H3.out.1 hbd
    exact ⟨w.heap.size, _, T', rfl, by unfold beginS; rw [HH.out.2]; exact q1, q2, q3, atKey_put_same (MapIs.isMap HH.out.1.files.map) (kl_key _) _ _, ht⟩
  · have HH := Lib.hid (⟨h, h1, h3⟩ : _ ∧ _ ∧ _)
    clear h h1 hC h3 h4 h5 h6
    go_enter Tryd.func36, Tryd.ntmps36
    go_wp2_with (first | rw [bld_eq_ptr])
    go_ret
    exact ⟨b, D, T, rfl, by unfold beginS; rw [HH.out.2.1]; exact HH.out.1, fun _ _ => rfl, Turn.refl _ _, HH.out.2.2, Turn.refl _ _⟩
theorem file {sv : Value} {w : World} {B fm rm xm : Nat} {D : DataW Unit} {vs vt : Value} {ps : List Value} {T : Tags} {st : St} (h : WdAtS sv w B fm rm xm D vs vt ps T st) (n : ByteArray) (hn : Small n) (hm : st.made ≤ 1000000) :
    Calls Tryd.prog 36 #[ptr B, .string n] w fun e w' => ∃ b D' T', e = .returned (ptr b) ∧
      WdAtS sv w' B fm rm xm D' vs vt ps T' (beginS st n) ∧ (∀ k, k < w.heap.size → T' k = T k) ∧ Turn (fun k => T k ≠ .no) w w' ∧ D'.atKey (kl n) nilD = ptrD b :=
  (fileX h n hn hm).mono fun _ _ ⟨b, D', T', h1, h2, h3, h4, h5, _⟩ => ⟨b, D', T', h1, h2, h3, h4, h5⟩
end Go.Proofs.YtahblmcjocepeaaDoor.Wo
