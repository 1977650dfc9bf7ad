/-
  Package reader: the Builder within a text: written, told, how long it is.
-/
import Derived.Test.YtahblmcjocepeaaDoorWoB2
import Derived.Deep.CutRange
namespace Go.Proofs.YtahblmcjocepeaaDoor.Rd
open Go.RowKit Go.Maps Wo

abbrev pt2 (b : Nat) : Value := .pointer (some ⟨b, 2, none⟩)
abbrev TxtO (A M p v : Value) : Obj := .cells #[A, M, p, v] 139
/- A text in memory: what it holds, its closure, and a Builder whose buffer is known. -/
structure Bt (w : World) (b : Nat) (buf : Option Nat) (A M : Value) (l : List UInt8) : Prop where
  ex : ∃ p v, (p = .pointer none ∨ p = pt2 b) ∧ w.heap[b]? = some (TxtO A M p v) ∧ w.ownsRowF 0 5 1 v l.length (Lib.byteCells l) ∧ (l = [] → v = .slice none 0 0) ∧ v.ownBlock = buf
theorem Bt.apart {w : World} {b : Nat} {buf : Option Nat} {A M : Value} {l : List UInt8} (h : Bt w b buf A M l) : buf ≠ some b := by
  obtain ⟨p, v, _, h2, h3, _, rfl⟩ := h
  exact Lib.ownBlock_neF h3 h2 (by decide)
theorem Bt.lt {w : World} {b : Nat} {buf : Option Nat} {A M : Value} {l : List UInt8} (h : Bt w b buf A M l) : b < w.heap.size := by
  obtain ⟨p, v, _, h2, _⟩ := h
  exact (Array.getElem?_eq_some_iff.1 h2).1
theorem Bt.ltBuf {w : World} {b : Nat} {buf : Option Nat} {A M : Value} {l : List UInt8} (h : Bt w b buf A M l) : ∀ k, buf = some k → k < w.heap.size := by
  obtain ⟨p, v, _, h2, h3, _, rfl⟩ := h
  exact fun k hk => (h3.lt k hk).2
theorem Bt.later {w w' : World} {b : Nat} {buf : Option Nat} {A M : Value} {l : List UInt8} (h : Bt w b buf A M l) (hb : w'.heap[b]? = w.heap[b]?) (hg : ∀ k, buf = some k → w'.heap[k]? = w.heap[k]?) : Bt w' b buf A M l := by
  obtain ⟨p, v, h1, h2, h3, h4, rfl⟩ := h
  exact ⟨p, v, h1, hb.trans h2, rowF_of_block h3 hg, h4, rfl⟩
theorem Bt.below {w w' : World} {b : Nat} {buf : Option Nat} {A M : Value} {l : List UInt8} (h : Bt w b buf A M l) (hb : Below w.heap.size w w') : Bt w' b buf A M l :=
  h.later (hb.block b h.lt) fun k hk => hb.block k (h.ltBuf k hk)
theorem Bt.all {w : World} {b : Nat} {buf : Option Nat} {A M : Value} {l : List UInt8} (h : Bt w b buf A M l) : w.cell? ⟨b, 0, none⟩ = some A ∧ w.cell? ⟨b, 1, none⟩ = some M ∧ w.frozen? ⟨b, 0, none⟩ = false ∧ w.frozen? ⟨b, 1, none⟩ = false := by
  obtain ⟨p, v, _, h2, _⟩ := h
  simp [World.cell?, World.frozen?, h2]
set_option maxRecDepth 100000 in
theorem copyCheck {w : World} {b : Nat} {A M p v : Value} (hp : p = .pointer none ∨ p = pt2 b) (h : w.heap[b]? = some (TxtO A M p v)) :
    Calls Tryd.prog 60 #[pt2 b] w fun e w' => e = .returned (.tuple #[]) ∧ w'.heap[b]? = some (TxtO A M (pt2 b) v) ∧ Turn (fun k => k = b) w w' := by
  obtain ⟨j, hj, hj2⟩ := bld_info
  have c0 : w.cell? ⟨b, 2, none⟩ = some p := by simp [World.cell?, h]
  have f0 : w.frozen? ⟨b, 2, none⟩ = false := by simp [World.frozen?, h]
  have hsh : w.shape? b = some (139, 4) := by simp [World.shape?, h]
  have hne := Lib.run_neq_ptr_same (P := Tryd.prog) w (tp := 89) ⟨b, 2, none⟩ Tryd.underlying89 hj
  have hext := run_callFunc_extern (e := Extern.AbiNoEscape.same) Tryd.func78 (by kernel_rfl) (by kernel_rfl) (by kernel_rfl) (by kernel_rfl)
  have hlies : liesAt Tryd.prog Tryd.prog.depth 139 (4 / Tryd.prog.cellsOf 139) 2 91 1 = true := by kernel_rfl
  rcases hp with rfl | rfl
  · go_enter Tryd.func60, Tryd.ntmps60
    go_wp2_with fail
    rw [Lib.run_to_unsafe w ⟨b, 2, none⟩ Tryd.underlying89 Tryd.underlying156 hj (by rw [hj2]; decide) hsh (show 2 < 4 by decide)]
    simp only [Result.andThen]
    rw [Oper.upon_value]
    go_wp2_with fail
    rw [Lib.run_noEscape]
    simp only [Result.andThen]
    rw [Oper.upon_value]
    go_wp2_with fail
    rw [Lib.run_from_unsafe w ⟨b, 2, none⟩ Tryd.underlying156 Tryd.underlying89 hj hsh hlies]
    simp only [Result.andThen]
    rw [Oper.upon_value]
    go_wp2_with fail
    go_end0
    refine ⟨rfl, ?_, Turn.of_set w ⟨b, 2, none⟩ _⟩
    simp [World.setCell, Array.getElem?_modify, h]
  · go_enter Tryd.func60, Tryd.ntmps60
    go_wp2_with (first | rw [hne])
    go_end0
    exact ⟨rfl, h, Turn.refl _ _⟩

set_option maxRecDepth 100000 in
theorem writeString {w : World} {b : Nat} {buf : Option Nat} {A M : Value} {l : List UInt8} (s : ByteArray) (h : Bt w b buf A M l) (hlen : l.length + s.size ≤ 1000000000) :
    Calls Tryd.prog 33 #[pt2 b, .string s] w fun e w' => e = .returned (.tuple #[.int .i64 s.size, .nilIface]) ∧ ∃ buf', Bt w' b buf' A M (l ++ s.data.toList) ∧ Turn (fun k => k = b ∨ some k = buf) w w' ∧ ∀ k, buf' = some k → buf = some k ∨ w.heap.size ≤ k := by
  obtain ⟨i0, hi, hz0, hz1, hz2⟩ := byte_info
  have hap := h.apart
  have hbl := h.lt
  have hgl := h.ltBuf
  obtain ⟨p, v, hp, hb, hr, hnil, rfl⟩ := h
  have HH := Lib.hid (⟨hp, hb, hnil⟩ : _ ∧ _ ∧ _)
  clear hp hb hnil
  go_enter Tryd.func33, Tryd.ntmps33
  go_wp2_with (first
    | (at_builtin; refine wpList_append_hat _ rfl _ _ 76 9 rfl 5 i0 Tryd.underlying76 Tryd.underlying9 hi hz0 hz1 hz2 _ _ _ rfl hr1 s rfl hlen ?_; intro v' w2 hown' hgrow hnl hat; have hb2 : w2.heap[b]? = some (TxtO A M (pt2 b) v) := (hgrow.block b (Nat.lt_of_lt_of_le hbl H1.out.2.size) (fun e => hap e.symm)).trans H1.out.1; have d0 : w2.cell? ⟨b, 2, none⟩ = some (pt2 b) := (by simp [World.cell?, hb2]); have d1 : w2.cell? ⟨b, 3, none⟩ = some v := (by simp [World.cell?, hb2]); have f1 : w2.frozen? ⟨b, 3, none⟩ = false := (by simp [World.frozen?, hb2]); obtain ⟨ao, n', cap, rfl⟩ : ∃ ao n' cap, v' = .slice ao n' cap := (by
          rcases hown'.2 with ⟨hv, _⟩ | ⟨g, cap, cur, fz, hv, _⟩
          · exact ⟨_, _, _, hv⟩
          · exact ⟨_, _, _, hv⟩); have H2 := Lib.hid (⟨hown', hgrow, hb2, hnl, hat⟩ : _ ∧ _ ∧ _ ∧ _ ∧ _); clear hown' hgrow hb2 hnl hat)
    | (go_at_call 60; refine (copyCheck HH.out.1 HH.out.2.1).mono ?_; rintro e w1 ⟨rfl, hb1, ht1⟩; have hr1 := rowF_of_block hr (w' := w1) fun k hk => ht1.block k (hgl k hk) fun e => hap (by rw [hk, e]); have c0 : w1.cell? ⟨b, 2, none⟩ = some (pt2 b) := (by simp [World.cell?, hb1]); have c1 : w1.cell? ⟨b, 3, none⟩ = some v := (by simp [World.cell?, hb1]); have H1 := Lib.hid (⟨hb1, ht1⟩ : _ ∧ _); clear hb1 ht1 hr))
  go_ret2
  obtain ⟨hown', hgrow, hb2, hnl, hat⟩ := H2.out
  have hne2 : (Value.slice ao n' cap).ownBlock ≠ some b := Lib.ownBlock_neF hown' hb2 (by decide)
  refine ⟨rfl, (Value.slice ao n' cap).ownBlock, ⟨pt2 b, .slice ao n' cap, .inr rfl, ?_, ?_, fun e => ?_, rfl⟩, ?_, ?_⟩
  · simp [World.setCell, Array.getElem?_modify, hb2]
  · have e1 : Lib.byteCells (l ++ s.data.toList) = Lib.byteCells l ++ Lib.strCells s := by simp [Lib.byteCells, Lib.strCells]
    have e2 : (l ++ s.data.toList).length = l.length + s.size := by rw [List.length_append, Array.length_toList]; rfl
    rw [e1, e2]
    exact rowF_of_block hown' fun k hk => heap_set _ _ _ fun e => hne2 (by rw [hk, e])
  · obtain ⟨e1, e2⟩ := List.append_eq_nil_iff.1 e
    exact hnl (HH.out.2.2 e1) (by have := congrArg List.length e2; rw [Array.length_toList] at this; exact this)
  · exact ((H1.out.2.mono fun k hk => .inl hk).trans (Turn.of_grown hgrow) fun i hi => .inl (.inr hi)).trans (Turn.of_set _ _ _) fun i hi => .inl (.inl hi)
  · exact fun k hk => (hat k hk).imp id fun h => Nat.le_trans H1.out.2.size h

set_option maxRecDepth 100000 in
theorem toString {w : World} {b : Nat} {buf : Option Nat} {A M : Value} {l : List UInt8} (h : Bt w b buf A M l) :
    Calls Tryd.prog 35 #[pt2 b] w fun e w' => e = .returned (.string (txt l)) ∧ Bt w' b buf A M l ∧ Turn (fun k => some k = buf) w w' := by
  have hap := h.apart
  have hbl := h.lt
  have hgl := h.ltBuf
  obtain ⟨p, v, hp, hb, hr, hnil, rfl⟩ := h
  have c1 : ∀ W : World, W.heap = w.heap → W.cell? ⟨b, 3, none⟩ = some v := fun W hW => by simp [World.cell?, hW, hb]
  have hc1 : Tryd.prog.cellsOf 5 = 1 := by kernel_rfl
  rcases hr.2 with ⟨rfl, h0⟩ | ⟨g, cap, cur, fz, rfl, _, hg, hfz, hnc, hcm, hcs, htake⟩
  · obtain rfl : l = [] := List.eq_nil_of_length_eq_zero h0
    have HH := Lib.hid (⟨hp, hb, hr, hnil⟩ : _ ∧ _ ∧ _ ∧ _)
    have c1' := c1 w.drew rfl
    clear hp hb hr c1 hnil
    have hSD : ∀ W : World, (Builtin.unsafeSliceData_ #[76] 135 #[.slice none 0 0]).run Tryd.prog W = .ok (.pointer none) W := fun W => by kernel_rfl
    have hUS : ∀ W : World, (Builtin.unsafeString_ #[135, 3] 9 #[.pointer none, .int .i64 0]).run Tryd.prog W = .ok (.string .empty) W := fun W => by kernel_rfl
    go_enter Tryd.func35, Tryd.ntmps35
    go_wp2_with fail
    go_region
    all_goals go_wp2_with fail
    all_goals go_ret
    all_goals exact ⟨rfl, ⟨p, _, HH.out.1, HH.out.2.1, HH.out.2.2.1, fun _ => rfl, rfl⟩, Turn.of_below (Below.refl _ w).drew⟩
  · have hl : l ≠ [] := fun e => by cases hnil e
    have hl0 : l.length ≠ 0 := by simpa using hl
    have HH := Lib.hid (⟨hp, hb, hr, hnil⟩ : _ ∧ _ ∧ _ ∧ _)
    have c1' := c1 w.drew rfl
    have hSD : (Builtin.unsafeSliceData_ #[76] 135 #[.slice (some ⟨g, 0, none⟩) l.length cap]).run Tryd.prog w.drew = .ok (.pointer (some ⟨g, 0, none⟩)) w.drew := Lib.run_unsafeSliceData_row _ _ _ _ _ _ (by omega)
    have hUS : (Builtin.unsafeString_ #[135, 3] 9 #[.pointer (some ⟨g, 0, none⟩), .int .i64 l.length]).run Tryd.prog w.drew = .ok (.string ⟨l.toArray⟩) (w.drew.freeze ⟨g, 0, none⟩ l.length) := by
      refine Lib.run_unsafeString_row w.drew 135 3 9 5 Tryd.underlying135 hc1 g cur.size (by have hg' : w.drew.heap[g]? = some (.cells cur 5 fz) := hg; simp [World.shape?, hg']) l hl (by omega) (by unfold maxLen at hcm; omega) ?_
      intro j x hx
      exact hr.cells (g := g) rfl j (.int .u8 x.toNat) (by simp [Lib.byteCells, hx])
    clear hp hb hr c1 hnil htake
    have hgb : g ≠ b := fun e => hap (by rw [← e]; rfl)
    go_enter Tryd.func35, Tryd.ntmps35
    go_wp2_with fail
    go_region
    all_goals go_wp2_with fail
    all_goals go_ret
    all_goals exact ⟨rfl, ⟨p, _, HH.out.1, (freeze_heap _ _ _ (fun e => hgb e.symm)).trans HH.out.2.1, freeze_row (w := w.drew) HH.out.2.2.1 hl0, HH.out.2.2.2, rfl⟩, turn_froze g cap l.length w⟩


set_option maxRecDepth 100000 in
theorem lenB {w : World} {b : Nat} {buf : Option Nat} {A M : Value} {l : List UInt8} (h : Bt w b buf A M l) :
    Calls Tryd.prog 34 #[pt2 b] w fun e w' => e = .returned (.int .i64 l.length) ∧ w' = w := by
  obtain ⟨p, v, hp, hb, hr, hnil, rfl⟩ := h
  have c3 : w.cell? ⟨b, 3, none⟩ = some v := by simp [World.cell?, hb]
  rcases hr.2 with ⟨rfl, h0⟩ | ⟨g, cap, cur, fz, rfl, _⟩
  · clear hb hp hr hnil
    go_enter Tryd.func34, Tryd.ntmps34
    go_wp2_with fail
    go_ret
    exact ⟨by rw [h0]; rfl, rfl⟩
  · clear hb hp hr hnil
    go_enter Tryd.func34, Tryd.ntmps34
    go_wp2_with fail
    go_ret
    exact ⟨rfl, rfl⟩
end Go.Proofs.YtahblmcjocepeaaDoor.Rd
