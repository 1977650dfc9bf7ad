/-
  Package world: a world made of its script (New).
-/
import Derived.Test.YtjlenfnflonfoaaWoO
namespace Go.Proofs.Ytjlenfnflonfoaa.Wo
open Go.RowKit Go.Maps

theorem makeMap1 (w : World) : (Instr.makeMap 81 none).run Try.prog w = .ok (.map (some w.heap.size)) (w.alloc (.map #[] 0)) := by
  simp [Instr.makeMap, run_underlying Try.underlying81, newObj]
  rfl
theorem makeMap2 (w : World) : (Instr.makeMap 82 none).run Try.prog w = .ok (.map (some w.heap.size)) (w.alloc (.map #[] 0)) := by
  simp [Instr.makeMap, run_underlying Try.underlying82, newObj]
  rfl
theorem makeMap3 (w : World) : (Instr.makeMap 83 none).run Try.prog w = .ok (.map (some w.heap.size)) (w.alloc (.map #[] 0)) := by
  simp [Instr.makeMap, run_underlying Try.underlying83, newObj]
  rfl
theorem bld_neq_nil (w : World) : (binOp .neq 87 (.pointer none) (.pointer none)).run Try.prog w = .ok (.bool false) w := by
  have h : ∀ d : Nat, (Op.equalIn (d + 1) 87 (.pointer none) (.pointer none)).run Try.prog w = .ok true w := fun d => by
    simp [Op.equalIn, run_underlying Try.underlying87]
  simp only [binOp]
  simp [Op.equal, Op.maxDepth, h 9999]

abbrev FileD := ByteArray × ByteArray
def Row2 (w : World) (oa : Option Addr) (L : List FileD) : Prop := ∀ (i : Nat) p, L[i]? = some p → ∃ g o, oa = some ⟨g, o, none⟩ ∧ w.cell? ⟨g, o + i * 2, none⟩ = some (.string p.1) ∧ w.cell? ⟨g, o + i * 2 + 1, none⟩ = some (.string p.2)
theorem Row2.below {w w' : World} {oa : Option Addr} {L : List FileD} (h : Row2 w oa L) (hb : Below w.heap.size w w') : Row2 w' oa L := fun i p hp => by
  obtain ⟨g, o, h1, h2, h3⟩ := h i p hp
  exact ⟨g, o, h1, (hb.cell (World.block_lt_of_cell? w _ h2)).trans h2, (hb.cell (World.block_lt_of_cell? w _ h3)).trans h3⟩
def st0 (stdin : ByteArray) (most clk ch : Int) : St := ⟨fun _ => none, stdin, fun _ => none, fun _ _ => false, most, clk, ch, [], [], 0⟩
def fileS (st : St) (p : FileD) : St := { beginS st p.1 with file := setF (beginS st p.1).file p.1 (((st.file p.1).getD []) ++ p.2.data.toList) }
def filesTo (st : St) (L : List FileD) : St := L.foldl fileS st
theorem filesTo_snoc (st : St) (L : List FileD) (p : FileD) : filesTo st (L ++ [p]) = fileS (filesTo st L) p := by simp [filesTo]
def Once2 (L : List FileD) : Prop := L.Pairwise fun a b => a.1 ≠ b.1
theorem filesTo_none (st : St) (n : ByteArray) : ∀ L : List FileD, st.file n = none → (∀ p ∈ L, p.1 ≠ n) → (filesTo st L).file n = none := by
  intro L
  induction L generalizing st with
  | nil => exact fun h _ => h
  | cons p L ih =>
    intro h hL
    refine ih (fileS st p) ?_ fun q hq => hL q (List.mem_cons_of_mem _ hq)
    have hp := hL p List.mem_cons_self
    show setF (beginS st p.1).file p.1 _ n = none
    rw [setF, if_neg fun e => hp e.symm]
    unfold beginS
    split
    · exact h
    · show setF st.file p.1 [] n = none
      rw [setF, if_neg fun e => hp e.symm]
      exact h
theorem filesTo_made (st : St) : ∀ L : List FileD, (filesTo st L).made ≤ st.made + L.length := by
  intro L
  induction L generalizing st with
  | nil => exact Nat.le_refl _
  | cons p L ih =>
    have h1 := ih (fileS st p)
    have h2 : (fileS st p).made ≤ st.made + 1 := by
      show (beginS st p.1).made ≤ _
      unfold beginS
      split
      · omega
      · exact Nat.le_refl _
    show (filesTo (fileS st p) L).made ≤ _
    rw [List.length_cons]; omega

/- The world's own blocks, all new. -/
def newTags (H : Nat) : Tags := fun k => if k = H + 1 then .files else if k = H + 1 + 1 then .replies else if k = H + 1 + 1 + 1 then .fails else if k = H + 1 + 1 + 1 + 1 then .self else .no
def OnlyNew (o : Obj) (w wr : World) (T : Tags) : Prop := (∀ k, T k ≠ .no → w.heap.size ≤ k) ∧ Below w.heap.size w wr ∧ T w.heap.size = .no ∧ wr.heap[w.heap.size]? = some o
theorem new_only (H : Nat) : ∀ k, newTags H k ≠ .no → H ≤ k := by
  intro k hk
  unfold newTags at hk
  split at hk
  · omega
  · split at hk
    · omega
    · split at hk
      · omega
      · split at hk
        · omega
        · exact absurd rfl hk
theorem OnlyNew.step {o : Obj} {w wr w2 : World} {T T2 : Tags} (h : OnlyNew o w wr T) (e : ∀ k, k < wr.heap.size → T2 k = T k) (t : Turn (fun k => T k ≠ .no) wr w2) : OnlyNew o w w2 T2 := by
  have hl : w.heap.size < wr.heap.size := (Array.getElem?_eq_some_iff.1 h.2.2.2).1
  refine ⟨fun k hk => ?_, h.2.1.trans ⟨t.os, t.tape, t.output, t.size, fun k hk => t.block k (Nat.lt_of_lt_of_le hk h.2.1.size) fun e2 => by have := h.1 k e2; omega⟩, (e _ hl).trans h.2.2.1, (t.block _ hl fun e2 => e2 h.2.2.1).trans h.2.2.2⟩
  by_cases hlt : k < wr.heap.size
  · rw [e k hlt] at hk; exact h.1 k hk
  · omega
theorem once_take {L : List FileD} (h : Once2 L) {j : Nat} {p : FileD} (hp : L[j]? = some p) : ∀ q ∈ L.take j, q.1 ≠ p.1 := by
  intro q hq
  obtain ⟨i, hi, rfl⟩ := List.mem_iff_getElem.1 hq
  rw [List.length_take] at hi
  obtain ⟨hj, rfl⟩ := List.getElem?_eq_some_iff.1 hp
  rw [List.getElem_take]
  unfold Once2 at h
  rw [List.pairwise_iff_getElem] at h
  exact h i j (by omega) hj (by omega)
theorem noneLook {sv : Value} {w : World} {B fm rm xm : Nat} {D : DataW Unit} {vs vt : Value} {ps : List Value} {T : Tags} {st : St} {n : ByteArray} (h : WdAtS sv w B fm rm xm D vs vt ps T st) (hn : Small n) (hf : st.file n = none) (m : Nat) : (Instr.lookup 81 (.map (some fm)) (.string n) false).run Try.prog (w.drewN m) = .ok (.pointer none) (w.drewN m) := by
  have h2 : WdAtS sv (w.drewN m) B fm rm xm D vs vt ps T st := h.later (Nat.le_refl _) fun _ _ => rfl
  rcases h2.look n hn with ⟨_, h2⟩ | ⟨l, b, buf, h1, _⟩
  · exact h2
  · rw [hf] at h1; cases h1
theorem cell_lt {w : World} {p : Addr} {v : Value} (h : w.cell? p = some v) : p.block < w.heap.size := World.block_lt_of_cell? w p h
theorem newTags_box (H : Nat) : newTags H H = .no := by
  unfold newTags
  rw [if_neg (by omega), if_neg (by omega), if_neg (by omega), if_neg (by omega)]
theorem five_below (w : World) (a b c d e : Obj) : Below w.heap.size w (((((w.alloc a).alloc b).alloc c).alloc d).alloc e) :=
  ((((((Below.refl _ w).alloc (Nat.le_refl _) a).alloc (by rw [alloc_size]; omega) b).alloc (by rw [alloc_size, alloc_size]; omega) c).alloc (by rw [alloc_size, alloc_size, alloc_size]; omega) d).alloc (by rw [alloc_size, alloc_size, alloc_size, alloc_size]; omega) e)
theorem five (w : World) (a b c d e : Obj) : (((((w.alloc a).alloc b).alloc c).alloc d).alloc e).heap[w.heap.size]? = some a ∧ (((((w.alloc a).alloc b).alloc c).alloc d).alloc e).heap[w.heap.size + 1]? = some b ∧ (((((w.alloc a).alloc b).alloc c).alloc d).alloc e).heap[w.heap.size + 1 + 1]? = some c ∧
    (((((w.alloc a).alloc b).alloc c).alloc d).alloc e).heap[w.heap.size + 1 + 1 + 1]? = some d ∧ (((((w.alloc a).alloc b).alloc c).alloc d).alloc e).heap[w.heap.size + 1 + 1 + 1 + 1]? = some e := by
  have h1 := alloc_new w a
  have h2 := alloc_new (w.alloc a) b
  have h3 := alloc_new ((w.alloc a).alloc b) c
  have h4 := alloc_new (((w.alloc a).alloc b).alloc c) d
  have h5 := alloc_new ((((w.alloc a).alloc b).alloc c).alloc d) e
  simp only [alloc_size] at h2 h3 h4 h5
  have s1 : (w.alloc a).heap.size = w.heap.size + 1 := alloc_size _ _
  have s2 : ((w.alloc a).alloc b).heap.size = w.heap.size + 1 + 1 := by rw [alloc_size, alloc_size]
  have s3 : (((w.alloc a).alloc b).alloc c).heap.size = w.heap.size + 1 + 1 + 1 := by rw [alloc_size, alloc_size, alloc_size]
  have s4 : ((((w.alloc a).alloc b).alloc c).alloc d).heap.size = w.heap.size + 1 + 1 + 1 + 1 := by rw [alloc_size, alloc_size, alloc_size, alloc_size]
  have o5 : ∀ k, k < w.heap.size + 1 + 1 + 1 + 1 → (((((w.alloc a).alloc b).alloc c).alloc d).alloc e).heap[k]? = ((((w.alloc a).alloc b).alloc c).alloc d).heap[k]? := fun k hk => alloc_old _ _ (by omega)
  have o4 : ∀ k, k < w.heap.size + 1 + 1 + 1 → ((((w.alloc a).alloc b).alloc c).alloc d).heap[k]? = (((w.alloc a).alloc b).alloc c).heap[k]? := fun k hk => alloc_old _ _ (by omega)
  have o3 : ∀ k, k < w.heap.size + 1 + 1 → (((w.alloc a).alloc b).alloc c).heap[k]? = ((w.alloc a).alloc b).heap[k]? := fun k hk => alloc_old _ _ (by omega)
  have o2 : ∀ k, k < w.heap.size + 1 → ((w.alloc a).alloc b).heap[k]? = (w.alloc a).heap[k]? := fun k hk => alloc_old _ _ (by omega)
  refine ⟨?_, ?_, ?_, ?_, h5⟩
  · rw [o5 _ (by omega), o4 _ (by omega), o3 _ (by omega), o2 _ (by omega)]; exact h1
  · rw [o5 _ (by omega), o4 _ (by omega), o3 _ (by omega)]; exact h2
  · rw [o5 _ (by omega), o4 _ (by omega)]; exact h3
  · rw [o5 _ (by omega)]; exact h4
theorem five_box (w : World) (a b c d e : Obj) : (((((w.alloc a).alloc b).alloc c).alloc d).alloc e).heap[w.heap.size]? = some a := (five w a b c d e).1
theorem mapMade {w : World} {mb : Nat} (h : w.heap[mb]? = some (.map #[] 0)) : MapIs w mb 0 (.map []) := by
  obtain ⟨es, clock, h1, h2⟩ := World.ownsMap_made (H := Unit) w Try.prog 9 rdPtr
  rw [alloc_new] at h1
  simp only [Option.some.injEq, Obj.map.injEq] at h1
  obtain ⟨rfl, rfl⟩ := h1
  exact ⟨_, _, h, h2⟩
theorem look_empty {t k e : TypeId} (c : Bool) (K : Keyed Try.prog k) (ht : Try.prog.underlying t = some (.map k e)) {W : World} {b : Nat} (hb : W.heap[b]? = some (.map #[] 0)) {z : Value} (hz : (zeroValue e).run Try.prog W = .ok z W) {key : Value} {kl : Lit} (hkey : keyOf Try.prog k key = some kl) :
    (Instr.lookup t (.map (some b)) key c).run Try.prog W = .ok (if c then .tuple #[z, .bool false] else z) W := by
  rcases K.find W hkey [] (by simp) with ⟨f1, _⟩ | ⟨j, e0, _, f2, _⟩
  · simp [Instr.lookup, run_underlying ht, MapKept.run_getObj_map hb, K.check W _ hkey, f1, hz, Result.andThen]
  · simp at f2
theorem zero_reply (W : World) : (zeroValue 74).run Try.prog W = .ok (.agg #[.string noText, .string noText, .int .i64 0]) W := by kernel_rfl
theorem fail_empty {W : World} {b : Nat} (hb : W.heap[b]? = some (.map #[] 0)) (op : Int) (n : ByteArray) :
    (Instr.lookup 83 (.map (some b)) (.agg #[.int .u8 op, .string n]) true).run Try.prog W = .ok (.tuple #[.agg #[], .bool false]) W := by
  have h1 : (Instr.checkKey true 10000 76 (.agg #[.int .u8 op, .string n])).run Try.prog W = .ok () W := by kernel_rfl
  have h2 : (Instr.findKey 76 (.agg #[.int .u8 op, .string n]) []).run Try.prog W = .ok none W := by kernel_rfl
  have h3 : (zeroValue 94).run Try.prog W = .ok (.agg #[]) W := by kernel_rfl
  simp [Instr.lookup, run_underlying Try.underlying83, MapKept.run_getObj_map hb, h1, h2, h3, Result.andThen]
theorem WdAtS.selfed {sv : Value} {w : World} {B fm rm xm : Nat} {D : DataW Unit} {vs vt : Value} {ps : List Value} {T : Tags} {st : St} (h : WdAtS sv w B fm rm xm D vs vt ps T st) :
    WdAt (w.setCell ⟨B, 0, none⟩ (ptr B)) B fm rm xm D vs vt ps T st ∧ Turn (fun k => T k ≠ .no) w (w.setCell ⟨B, 0, none⟩ (ptr B)) := by
  have hBn : T B ≠ .no := by rw [h.tB]; simp
  have f := h.frame (fun p => p = .self) (w' := w.setCell ⟨B, 0, none⟩ (ptr B)) (T' := T) (fun k h0 hz => heap_set _ _ _ (fun e => hz (by rw [e]; exact h.tB))) (fun k _ => rfl) (fun k hk => by rw [size_set]; exact h.lt k hk)
  refine ⟨⟨?_, f.tB, f.tf, f.tr, f.tx, ⟨f.map (by simp), fun n hn => f.file n hn (by simp) (by simp)⟩, f.replies (by simp), f.fails (by simp), ⟨f.slen, f.srow (by simp), f.stag, fun i s p h1 h2 => f.src i s p h1 h2 (by simp), f.kinds, f.uniq⟩, ⟨f.trow (by simp), f.ttag⟩, f.lt⟩, (Turn.of_set _ _ _).mono fun k hk => by rw [hk]; exact hBn⟩
  rw [blk_set h.blk]
  rfl
theorem new_at {w : World} (stdin : ByteArray) (most clk ch : Int) (o : Obj) :
    WdAtS (.pointer none) (((((w.alloc o).alloc (.map #[] 0)).alloc (.map #[] 0)).alloc (.map #[] 0)).alloc (.cells #[.pointer none, .map (some (w.heap.size + 1)), .string stdin, .map (some (w.heap.size + 1 + 1)), .map (some (w.heap.size + 1 + 1 + 1)), .int .i64 most, .int .i64 clk, .int .u64 ch, .slice none 0 0, .slice none 0 0] 86))
      (w.heap.size + 1 + 1 + 1 + 1) (w.heap.size + 1) (w.heap.size + 1 + 1) (w.heap.size + 1 + 1 + 1) (.map []) (.slice none 0 0) (.slice none 0 0) [] (newTags w.heap.size) (st0 stdin most clk ch) := by
  obtain ⟨q0, q1, q2, q3, q4⟩ := five w o (.map #[] 0) (.map #[] 0) (.map #[] 0) (.cells #[.pointer none, .map (some (w.heap.size + 1)), .string stdin, .map (some (w.heap.size + 1 + 1)), .map (some (w.heap.size + 1 + 1 + 1)), .int .i64 most, .int .i64 clk, .int .u64 ch, .slice none 0 0, .slice none 0 0] 86)
  refine ⟨q4, ?_, ?_, ?_, ?_, ⟨mapMade q1, fun n hn => rfl⟩, fun W hW n hn => ?_, fun W hW op n h0 h1 hn => ?_, { len := rfl, row := World.ownsRow_nil _ _ _ _, tag := (fun k hk => by cases hk), each := (fun i s p h1 => by simp [st0] at h1), kinds := (fun s hs => by simp [st0] at hs), uniq := List.Pairwise.nil }, ⟨World.ownsRow_nil _ _ _ _, fun k hk => by cases hk⟩, fun k hk => ?_⟩
  · unfold newTags; rw [if_neg (by omega), if_neg (by omega), if_neg (by omega), if_pos rfl]
  · unfold newTags; rw [if_pos rfl]
  · unfold newTags; rw [if_neg (by omega), if_pos rfl]
  · unfold newTags; rw [if_neg (by omega), if_neg (by omega), if_pos rfl]
  · have hb : W.heap[w.heap.size + 1 + 1]? = some (.map #[] 0) := hW.trans q2
    have r1 := look_empty true keyed Try.underlying82 hb (zero_reply W) (key_of hn)
    have r2 := look_empty false keyed Try.underlying82 hb (zero_reply W) (key_of hn)
    exact ⟨⟨noText, r1⟩, noText, r2⟩
  · have hb : W.heap[w.heap.size + 1 + 1 + 1]? = some (.map #[] 0) := hW.trans q3
    exact fail_empty hb op n
  · have := five_below w o (.map #[] 0) (.map #[] 0) (.map #[] 0) (.cells #[.pointer none, .map (some (w.heap.size + 1)), .string stdin, .map (some (w.heap.size + 1 + 1)), .map (some (w.heap.size + 1 + 1 + 1)), .int .i64 most, .int .i64 clk, .int .u64 ch, .slice none 0 0, .slice none 0 0] 86)
    simp only [alloc_size]
    unfold newTags at hk
    split at hk
    · omega
    · split at hk
      · omega
      · split at hk
        · omega
        · split at hk
          · omega
          · exact absurd rfl hk

set_option maxHeartbeats 2000000 in
set_option maxRecDepth 100000 in
theorem new_ {w : World} {oa : Option Addr} {nf cf : Nat} {L : List FileD} {stdin : ByteArray} {most clk ch : Int} (hm : 0 ≤ most ∧ most ≤ 16) (hL : Row2 w oa L) (hn : nf = L.length) (hz : L.length ≤ 1000) (hsm : ∀ p ∈ L, Small p.1 ∧ p.2.size ≤ 1000000) (ho : Once2 L) :
    Calls Try.prog 8 #[.agg #[.slice oa nf cf, .string stdin, .slice none 0 0, .slice none 0 0, .int .i64 most, .int .i64 clk, .int .u64 ch]] w fun e w' => ∃ B T, e = .returned (.tuple #[ptr B, .int .i64 0]) ∧ Wd w' B T (filesTo (st0 stdin most clk ch) L) ∧ (∀ k, T k ≠ .no → w.heap.size ≤ k) ∧ Below w.heap.size w w' := by
  have h1 : ¬ most < 0 := by omega
  have h2 : ¬ 16 < most := by omega
  subst hn
  obtain ⟨wA, hA⟩ : ∃ wA, wA = (((((w.alloc (.cells #[.slice oa L.length cf, .string stdin, .slice none 0 0, .slice none 0 0, .int .i64 most, .int .i64 clk, .int .u64 ch] 27)).alloc (.map #[] 0)).alloc (.map #[] 0)).alloc (.map #[] 0)).alloc (.cells #[.pointer none, .map (some (w.heap.size + 1)), .string stdin, .map (some (w.heap.size + 1 + 1)), .map (some (w.heap.size + 1 + 1 + 1)), .int .i64 most, .int .i64 clk, .int .u64 ch, .slice none 0 0, .slice none 0 0] 86)) := ⟨_, rfl⟩
  have hw := new_at (w := w) stdin most clk ch (.cells #[.slice oa L.length cf, .string stdin, .slice none 0 0, .slice none 0 0, .int .i64 most, .int .i64 clk, .int .u64 ch] 27)
  rw [← hA] at hw
  have hbA : Below w.heap.size w wA := by rw [hA]; exact five_below w _ _ _ _ _
  have hbox := five_box w (.cells #[.slice oa L.length cf, .string stdin, .slice none 0 0, .slice none 0 0, .int .i64 most, .int .i64 clk, .int .u64 ch] 27) (.map #[] 0) (.map #[] 0) (.map #[] 0) (.cells #[.pointer none, .map (some (w.heap.size + 1)), .string stdin, .map (some (w.heap.size + 1 + 1)), .map (some (w.heap.size + 1 + 1 + 1)), .int .i64 most, .int .i64 clk, .int .u64 ch, .slice none 0 0, .slice none 0 0] 86)
  rw [← hA] at hbox
  have HH := Lib.hid (⟨hL, hsm, ho, hw, hbA, hbox⟩ : _ ∧ _ ∧ _ ∧ _ ∧ _ ∧ _)
  clear hL hsm ho hw hbA hbox
  go_enter Try.func8, Try.ntmps8
  go_wp2_with (first | rw [makeMap1] | rw [makeMap2] | rw [makeMap3])
  rw [← hA]
  clear hA
  go_loopg [37] L.length (fun q i wr => ∃ j, L.length - j = q ∧ j ≤ L.length ∧ i = .int .i64 (j : Int) ∧ ∃ D T', WdAtS (.pointer none) wr (w.heap.size + 1 + 1 + 1 + 1) (w.heap.size + 1) (w.heap.size + 1 + 1) (w.heap.size + 1 + 1 + 1) D (.slice none 0 0) (.slice none 0 0) [] T' (filesTo (st0 stdin most clk ch) (L.take j)) ∧ OnlyNew (.cells #[.slice oa L.length cf, .string stdin, .slice none 0 0, .slice none 0 0, .int .i64 most, .int .i64 clk, .int .u64 ch] 27) w wr T')
  case atStart => exact ⟨0, rfl, Nat.zero_le _, rfl, _, _, HH.out.2.2.2.1, new_only _, HH.out.2.2.2.2.1, newTags_box _, HH.out.2.2.2.2.2⟩
  case round =>
    obtain ⟨j, hq, hj, rfl, D1, T1, hw1, hnw1⟩ := hrel
    by_cases hlt : j < L.length
    · have hlt' : (j : Int) < (L.length : Int) := by omega
      obtain ⟨p, hp⟩ : ∃ p, L[j]? = some p := ⟨_, List.getElem?_eq_getElem hlt⟩
      obtain ⟨g, off, rfl, d0, d1⟩ := HH.out.1.below hnw1.2.1 j p hp
      have hpm : p ∈ L := List.mem_of_getElem? hp
      have hno : (filesTo (st0 stdin most clk ch) (L.take j)).file p.1 = none := filesTo_none _ _ _ rfl (once_take HH.out.2.2.1 hp)
      have hmd := filesTo_made (st0 stdin most clk ch) (L.take j)
      have hmd2 : (filesTo (st0 stdin most clk ch) (L.take j)).made ≤ 1000000 := by
        have : (st0 stdin most clk ch).made = 0 := rfl
        rw [List.length_take] at hmd; omega
      have htk : filesTo (st0 stdin most clk ch) (L.take (j + 1)) = fileS (filesTo (st0 stdin most clk ch) (L.take j)) p := by
        rw [List.take_add_one, hp]; exact filesTo_snoc _ _ _
      generalize filesTo (st0 stdin most clk ch) (L.take j) = s1 at hw1 hno htk hmd2
      clear hmd hp
      obtain ⟨wB, hB⟩ : ∃ wB, wB = wr.alloc (.cells #[.string p.1, .string p.2] 54) := ⟨_, rfl⟩
      have hbB : Below wr.heap.size wr wB := by rw [hB]; exact (Below.refl _ wr).alloc (Nat.le_refl _) _
      have hwB := hw1.below hbB
      have hTn : T1 wr.heap.size = .no := Classical.byContradiction fun e => by have := hw1.lt _ e; omega
      have hsl := HH.out.2.1 p hpm
      have hlk := noneLook hwB hsl.1 hno
      have hneq := bld_neq_nil
      have c1 := hwB.cells.c1
      have b0 : wB.cell? ⟨wr.heap.size, 0, none⟩ = some (.string p.1) := by rw [hB]; exact box_cell 0
      have b1 : wB.cell? ⟨wr.heap.size, 1, none⟩ = some (.string p.2) := by rw [hB]; exact box_cell 1
      have HW := Lib.hid (⟨hw1, hnw1, hwB, hbB, hno, htk, hsl, hTn⟩ : _ ∧ _ ∧ _ ∧ _ ∧ _ ∧ _ ∧ _ ∧ _)
      clear hw1 hnw1 hwB hbB hno htk hTn
      go_wp2_with fail
      rw [← hB]
      clear hB
      go_quiet (fail)
      go_wp2_with fail
      go_region_law (first
        | (go_simp; go_at_call 29; refine (file (by exact HW.out.2.2.1.later (Nat.le_refl _) fun _ _ => rfl) p.1 hsl.1 hmd2).mono ?_; rintro e w4 ⟨b, D', T', rfl, q1, q2, q3, q4⟩; obtain ⟨l, buf, q5, q6, q7, q8⟩ := begun_at q1 hsl.1 q4; have q10 := Option.some.inj (q5.symm.trans (beginS_file s1 p.1)); have z3 : Turn (fun k => T1 k ≠ .no) wB w4 := ⟨q3.os, q3.tape, q3.output, q3.size, q3.block⟩; have b1' := (World.cell?_of_block (a := ⟨wr.heap.size, 1, none⟩) (z3.block wr.heap.size (cell_lt b1) fun e => e HW.out.2.2.2.2.2.2.2)).trans b1; have H4 := Lib.hid (⟨q1, q2, z3, q10, q6, q7, q8, q4⟩ : _ ∧ _ ∧ _ ∧ _ ∧ _ ∧ _ ∧ _ ∧ _); clear q1 q2 q3 q4 q5 q6 q7 q8 q10 z3)
        | (go_simp; go_at_call 30; refine (writeString p.2 H4.out.2.2.2.2.1 (by rw [H4.out.2.2.2.1, HW.out.2.2.2.2.1]; show 0 + _ ≤ _; have := hsl.2; omega)).mono ?_; rintro e w5 ⟨rfl, buf', s1, s2, s3⟩; obtain ⟨T5, r1, r2, r3⟩ := H4.out.1.wrote hsl.1 H4.out.2.2.2.2.2.2.2 H4.out.2.2.2.2.1 H4.out.2.2.2.2.2.1 H4.out.2.2.2.2.2.2.1 s2 s1 s3; rw [H4.out.2.2.2.1] at r1; have H5 := Lib.hid (⟨r1, r2, r3⟩ : _ ∧ _ ∧ _); clear s1 s2 s3 r1 r2 r3))
      all_goals go_wp2_with fail
      all_goals go_roundg (L.length - (j + 1))
      case measure | measure | measure => omega
      all_goals
        have q2 : ∀ k, k < wB.heap.size → T' k = T1 k := H4.out.2.1
        have hz := HW.out.2.2.2.1.size
        have hz4 := H4.out.2.2.1.size
        refine ⟨j + 1, rfl, hlt, by go_num, D', T5, ?_, HW.out.2.1.step (fun k hk => (H5.out.2.1 k (by omega)).trans (q2 k (by omega))) ((H4.out.2.2.1.thenTags H5.out.2.2 q2).before HW.out.2.2.2.1)⟩
        rw [HW.out.2.2.2.2.2.1]
        exact H5.out.1
    · obtain rfl : j = L.length := by omega
      have hge : ¬ (L.length : Int) < (L.length : Int) := by omega
      rw [List.take_length] at hw1
      have x2 : wr.cell? ⟨w.heap.size, 2, none⟩ = some (.slice none 0 0) := by simp [World.cell?, hnw1.2.2.2]
      have x3 : wr.cell? ⟨w.heap.size, 3, none⟩ = some (.slice none 0 0) := by simp [World.cell?, hnw1.2.2.2]
      have HW := Lib.hid (⟨hw1, hnw1⟩ : _ ∧ _)
      clear hw1 hnw1
      go_wp2_with fail
      go_loopg [60] 0 (fun q i w9 => i = .int .i64 0 ∧ w9 = wr)
      case atStart => exact ⟨rfl, rfl⟩
      case round =>
        obtain ⟨rfl, rfl⟩ := hrel
        go_wp2_with fail
        go_loopg [86] 0 (fun q i w9 => i = .int .i64 0 ∧ w9 = wr)
        case atStart => exact ⟨rfl, rfl⟩
        case round =>
          obtain ⟨rfl, rfl⟩ := hrel
          have hC := HW.out.1.cells
          have y0 := hC.c0
          have y1 := hC.z 0
          clear hC
          go_wp2_with fail
          go_ret2
          obtain ⟨q1, q2⟩ := HW.out.1.selfed
          have q3 := HW.out.2.step (fun _ _ => rfl) q2
          exact ⟨_, T1, rfl, ⟨_, _, _, _, _, _, _, q1⟩, q3.1, q3.2.1⟩
end Go.Proofs.Ytjlenfnflonfoaa.Wo
