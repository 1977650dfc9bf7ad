/-
  Package reader: the next record by a byte (byByte, record), what stands behind (behind).
-/
import Derived.Test.YtahblmcjocepeaaDoorRdF
import Derived.Test.YtahblmcjocepeaaDoorShelf
namespace Go.Proofs.YtahblmcjocepeaaDoor.Rd
open Go.RowKit Go.Maps Wo

theorem enter_of {P : Program} {f : FuncId} {fn : Func} {c : Code} (hf : P.funcs[f]? = some fn) (hname : (fn.name == "runtime.NumGoroutine") = false) (hb : fn.body = some c) (args : Array Value) (w : World) : (callFunc f args).run P w = .ok (.enter f args) w := by
  have h1 : (fn.name = "runtime.NumGoroutine") = False := by simpa using hname
  simp [callFunc, hf, h1, hb]

def byteF (tot : ByteArray) (b : Int) : Nat → Nat := idx b.toNat.toUInt8 tot.data.toList
def byteI (b : Int) (s : ByteArray) : Int := Lib.indexByte s.data.toList b.toNat.toUInt8
theorem len_list (s : ByteArray) : s.data.toList.length = s.size := by rw [Array.length_toList]; rfl
theorem fndByte (tot : ByteArray) (b : Int) : Fnd tot (byteI b) (byteF tot b) := by
  refine ⟨fun f p hf hp hn => ?_, fun f p hf hp hn => ?_, ?_⟩
  · have hge := Lib.indexByte_ge (tot.extract f p).data.toList b.toNat.toUInt8
    have hn1 : Lib.indexByte (tot.extract f p).data.toList b.toNat.toUInt8 = -1 := by unfold byteI at hn; omega
    rw [ext_list] at hn1
    have := piece_none (by rw [len_list]; exact hp) hf hn1
    exact ⟨this, idx_ge⟩
  · obtain ⟨o, ho⟩ : ∃ o : Nat, byteI b (tot.extract f p) = o := ⟨(byteI b (tot.extract f p)).toNat, by omega⟩
    have ho2 := ho
    unfold byteI at ho2
    rw [ext_list] at ho2
    obtain ⟨h1, h2⟩ := piece_some (by rw [len_list]; exact hp) ho2
    rw [ho]
    unfold byteF
    exact ⟨by rw [h1]; push_cast; rfl, by rw [h1]; exact h2⟩
  · have h1 := idx_ge (c := b.toNat.toUInt8) (T := tot.data.toList) (a := tot.size)
    have h2 := idx_le (c := b.toNat.toUInt8) (T := tot.data.toList) (a := tot.size) (by rw [len_list]; exact Nat.le_refl _)
    rw [len_list] at h2
    unfold byteF
    omega
set_option maxRecDepth 100000 in
theorem byByte1 {w : World} {eb : Nat} {b : Int} (s : ByteArray) (h : w.cell? ⟨eb, 0, none⟩ = some (.int .u8 b)) :
    Calls Tryd.prog 93 #[.string s, ptr eb] w fun e w' => e = .returned (.int .i64 (byteI b s)) ∧ w' = w := by
  go_enter Tryd.func93, Tryd.ntmps93
  go_wp2_with (go_at_call 94; refine (Tryd.strings_IndexByte s b _).mono ?_; rintro e w1 ⟨rfl, hw⟩; obtain rfl := hw.symm; clear hw)
  go_ret
  exact ⟨rfl, rfl⟩
set_option maxRecDepth 100000 in
theorem clone (s : ByteArray) (w : World) (hs : s.size ≤ 281474976710656) :
    Calls Tryd.prog 67 #[.string s] w fun e w' => e = .returned (.string s) ∧ Below w.heap.size w w' := by
  go_enter Tryd.func67, Tryd.ntmps67
  go_wp2_with (go_at_call 83; refine (Tryd.stringslite_Clone s _ hs).mono ?_; rintro e w1 ⟨rfl, hb⟩)
  go_ret
  exact ⟨rfl, hb⟩
section
variable {w0 w : World} {c : Cst} {x : Blks} {buf : Option Nat} {p : Nat} {over : Bool} {bx : List Nat}
abbrev spanV (f t n : Nat) : Value := .agg #[.int .i64 (f : Int), .int .i64 (t : Int), .int .i64 (n : Int)]
def EndAt (F p' tot : Nat) (over' : Bool) : Prop := F < p' ∨ (F = p' ∧ p' = tot ∧ over' = true)
set_option maxHeartbeats 1000000 in
set_option maxRecDepth 100000 in
theorem byByte (hS : Src c.B c.k c.n c.tot c.G) (hz : c.tot.size ≤ 10000000) (h : Nx w0 w c x buf p p over bx) (b : Int) :
    Calls Tryd.prog 82 #[ptr x.tt, .int .u8 b] w fun e w' => ∃ p' over' buf', e = .returned (spanV 0 (byteF c.tot b 0) (min (byteF c.tot b 0 + 1) p')) ∧ Nx w0 w' c x buf' p' p' over' bx ∧ Keep bx w w' ∧ p ≤ p' ∧ EndAt (byteF c.tot b 0) p' c.tot.size over' := by
  have hm := h.more (w2 := (w.alloc (.cells #[.int .u8 b] 5)).alloc (.cells #[.int .i64 0, .int .i64 0, .int .i64 0] 142)) (((Below.refl _ w).alloc (Nat.le_refl _) _).alloc (by rw [alloc_size]; omega) _) (nb := [w.heap.size, w.heap.size + 1]) (by
    intro k hk
    rw [alloc_size, alloc_size]
    simp only [List.mem_cons, List.not_mem_nil, or_false] at hk
    rcases hk with rfl | rfl <;> omega)
  go_enter Tryd.func82, Tryd.ntmps82
  go_upto_region 1 with fail
  obtain ⟨wA, hA⟩ : ∃ wA, wA = (w.alloc (.cells #[.int .u8 b] 5)).alloc (.cells #[.int .i64 0, .int .i64 0, .int .i64 0] 142) := ⟨_, rfl⟩
  have ha0 : wA.heap[w.heap.size]? = some (.cells #[.int .u8 b] 5) := by
    rw [hA, alloc_old _ _ (by rw [alloc_size]; omega)]; exact alloc_new _ _
  have ha1 : wA.heap[w.heap.size + 1]? = some (.cells #[.int .i64 0, .int .i64 0, .int .i64 0] 142) := by
    rw [hA, ← alloc_size w]; exact alloc_new _ _
  rw [← hA] at hm ⊢
  clear hA
  generalize hsb : w.heap.size + 1 = sb at hm ha1 ⊢
  generalize heb : w.heap.size = eb at hm ha0 ⊢
  have hse : eb ≠ sb := by omega
  have hkp : Keep bx w wA := hm.2
  have hN := hm.1
  have hsn : sb ∉ bx := fun e => by
    obtain ⟨st, h1, _⟩ := h.rp
    have := (h1.lt (b := sb) (by simp [e])).1
    omega
  have hqr : byteF c.tot b 0 ≤ c.tot.size := by
    have := idx_le (c := b.toNat.toUInt8) (T := c.tot.data.toList) (a := 0) (Nat.zero_le _)
    rw [len_list] at this
    exact this
  have HA := Lib.hid (⟨hN, hkp, ha0, ha1, hsn, hS⟩ : _ ∧ _ ∧ _ ∧ _ ∧ _ ∧ _)
  have hcls : Cls 93 #[ptr eb] ([eb, sb] ++ bx) (byteI b) wA := ⟨fun args w => enter_of Tryd.func93 (by kernel_rfl) rfl args w, fun s W hK => (byByte1 s (by have := (hK eb (by simp)).trans ha0; simp [World.cell?, this])).mono fun e w' ⟨he, hw⟩ => ⟨he, by rw [hw]; exact Below.refl _ _⟩⟩
  have HC := Lib.hid hcls
  obtain ⟨q, hq⟩ : ∃ q, q = byteF c.tot b 0 := ⟨_, rfl⟩
  rw [← hq] at hqr
  have hq1 : (q : Int) ≤ 10000000 := by omega
  have hq0 : 0 ≤ (q : Int) := by omega
  have HQ := Lib.hid (⟨hq, hqr⟩ : _ ∧ _)
  clear hm h hN hkp ha0 ha1 hse hcls hsb heb hS hsn hq hqr
  go_wp2_with (go_at_call 89; refine (seek (f := 0) HA.out.2.2.2.2.2 hz HC.out (fndByte c.tot b) HA.out.1 (Nat.zero_le _)).mono ?_; rintro e w3 ⟨rfl, p', over', buf', hn3, hk3, hp3, he3⟩; rw [← HQ.out.1] at he3 ⊢; obtain ⟨t0, _, _, _⟩ := hn3.tx.all; have hle3 : p' ≤ c.tot.size := (by obtain ⟨st, h1, h2⟩ := hn3.rp; exact HA.out.2.2.2.2.2.le _ _ h2); obtain ⟨A, hAe⟩ : ∃ A, A = c.tot.extract 0 p' := ⟨_, rfl⟩; rw [← hAe] at t0; have hsz : (A.size : Int) = (p' : Int) := (by rw [hAe, ByteArray.size_extract]; omega); have s3 := (hk3 sb (by simp)).trans HA.out.2.2.2.1; have H3 := Lib.hid (⟨hn3, hk3, hp3, he3, s3⟩ : _ ∧ _ ∧ _ ∧ _ ∧ _); have s0 := cell_of s3 0; have s1 := cell_of s3 1; have s2 := cell_of s3 2; have z0 := frozen_of s3 0; have z1 := frozen_of s3 1; have z2 := frozen_of s3 2; clear hn3 hk3 hp3 he3 s3)
  have hmin : min ((q : Int) + 1) (p' : Int) = ((min (q + 1) p' : Nat) : Int) := by omega
  obtain ⟨wF, hF⟩ : ∃ wF, wF = ((w3.setCell ⟨sb, 0, none⟩ (.int .i64 0)).setCell ⟨sb, 1, none⟩ (.int .i64 (q : Int))).setCell ⟨sb, 2, none⟩ (.int .i64 ((min (q + 1) p' : Nat) : Int)) := ⟨_, rfl⟩
  have hbl : wF.heap[sb]? = some (.cells #[.int .i64 0, .int .i64 (q : Int), .int .i64 ((min (q + 1) p' : Nat) : Int)] 142) := by
    rw [hF, blk_set (blk_set (blk_set H3.out.2.2.2.2 _ _) _ _)]; rfl
  have hT : Turn (fun k => k = sb) w3 wF := by
    rw [hF]
    exact ((Turn.of_set w3 ⟨sb, 0, none⟩ _).trans (Turn.of_set _ ⟨sb, 1, none⟩ _) fun i hi => .inl hi).trans (Turn.of_set _ ⟨sb, 2, none⟩ _) fun i hi => .inl hi
  rw [hmin, ← hF]
  have z0 := cell_of hbl 0
  have z1 := cell_of hbl 1
  have z2 := cell_of hbl 2
  have hnF := (H3.out.1.turn (b := sb) (by simp) hT).less (bx2 := bx) (fun k hk => by simp [hk])
  have hkF : Keep bx w wF := (HA.out.2.1.trans fun k hk => H3.out.2.1 k (by simp [hk])).trans fun k hk => hT.block k ((H3.out.1.less (bx2 := bx) (fun k hk => by simp [hk])).rp.elim fun st h => (h.1.lt (b := k) (by simp [hk])).1) fun e => HA.out.2.2.2.2.1 (e ▸ hk)
  refine bodyPost_ret (v := spanV 0 q (min (q + 1) p')) (by simp [results, Tryd.results82, go_sem, z0, z1, z2]) rfl ?_
  refine ⟨p', over', buf', by rw [← HQ.out.1], hnF, hkF, H3.out.2.2.1, ?_⟩
  rw [← HQ.out.1]
  exact H3.out.2.2.2.1
/- Of one byte. -/
set_option maxHeartbeats 1000000 in
set_option maxRecDepth 100000 in
theorem record (hS : Src c.B c.k c.n c.tot c.G) (hz : c.tot.size ≤ 10000000) (h : Nx w0 w c x buf p p over bx) (b : UInt8) :
    Calls Tryd.prog 65 #[ptr x.tt, .string ⟨#[b]⟩] w fun e w' => ∃ p' over' buf', e = .returned (spanV 0 (byteF c.tot b.toNat 0) (min (byteF c.tot b.toNat 0 + 1) p')) ∧ Nx w0 w' c x buf' p' p' over' bx ∧ Keep bx w w' ∧ p ≤ p' ∧ EndAt (byteF c.tot b.toNat 0) p' c.tot.size over' := by
  have hm := h.more (w2 := w.alloc (.cells #[.int .i64 0, .int .i64 0, .int .i64 0] 142)) ((Below.refl _ w).alloc (Nat.le_refl _) _) (nb := [w.heap.size]) (by
    intro k hk
    rw [alloc_size]
    simp at hk
    omega)
  go_enter Tryd.func65, Tryd.ntmps65
  go_upto_region 1 with fail
  obtain ⟨wA, hA⟩ : ∃ wA, wA = w.alloc (.cells #[.int .i64 0, .int .i64 0, .int .i64 0] 142) := ⟨_, rfl⟩
  have ha1 : wA.heap[w.heap.size]? = some (.cells #[.int .i64 0, .int .i64 0, .int .i64 0] 142) := by
    rw [hA]; exact alloc_new _ _
  rw [← hA] at hm ⊢
  clear hA
  generalize hsb : w.heap.size = sb at hm ha1 ⊢
  have hsn : sb ∉ bx := fun e => by
    obtain ⟨st, h1, _⟩ := h.rp
    have := (h1.lt (b := sb) (by simp [e])).1
    omega
  have HA := Lib.hid (⟨hm.1, hm.2, ha1, hsn, hS⟩ : _ ∧ _ ∧ _ ∧ _ ∧ _)
  clear hm h ha1 hsn hsb hS
  go_wp2_with (go_at_call 82; refine (byByte HA.out.2.2.2.2 hz HA.out.1 (b.toNat : Int)).mono ?_; rintro e w3 ⟨p', over', buf', rfl, hn3, hk3, hp3, he3⟩; obtain ⟨q, hq⟩ : ∃ q, q = byteF c.tot (b.toNat : Int) 0 := ⟨_, rfl⟩; rw [← hq] at he3 ⊢; have HQ := Lib.hid hq; clear hq; obtain ⟨m, hm⟩ : ∃ m, m = min (q + 1) p' := ⟨_, rfl⟩; rw [← hm]; have HM := Lib.hid hm; clear hm; have s3 := (hk3 sb (by simp)).trans HA.out.2.2.1; have H3 := Lib.hid (⟨hn3, hk3, hp3, he3, s3⟩ : _ ∧ _ ∧ _ ∧ _ ∧ _); have s0 := cell_of s3 0; have s1 := cell_of s3 1; have s2 := cell_of s3 2; have z0 := frozen_of s3 0; have z1 := frozen_of s3 1; have z2 := frozen_of s3 2; clear hn3 hk3 hp3 he3 s3)
  obtain ⟨wF, hF⟩ : ∃ wF, wF = ((w3.setCell ⟨sb, 0, none⟩ (.int .i64 0)).setCell ⟨sb, 1, none⟩ (.int .i64 (q : Int))).setCell ⟨sb, 2, none⟩ (.int .i64 (m : Int)) := ⟨_, rfl⟩
  have hbl : wF.heap[sb]? = some (.cells #[.int .i64 0, .int .i64 (q : Int), .int .i64 (m : Int)] 142) := by
    rw [hF, blk_set (blk_set (blk_set H3.out.2.2.2.2 _ _) _ _)]; rfl
  have hT : Turn (fun k => k = sb) w3 wF := by
    rw [hF]
    exact ((Turn.of_set w3 ⟨sb, 0, none⟩ _).trans (Turn.of_set _ ⟨sb, 1, none⟩ _) fun i hi => .inl hi).trans (Turn.of_set _ ⟨sb, 2, none⟩ _) fun i hi => .inl hi
  rw [← hF]
  have z0 := cell_of hbl 0
  have z1 := cell_of hbl 1
  have z2 := cell_of hbl 2
  have hnF := (H3.out.1.turn (b := sb) (by simp) hT).less (bx2 := bx) (fun k hk => by simp [hk])
  have hkF : Keep bx w wF := (HA.out.2.1.trans fun k hk => H3.out.2.1 k (by simp [hk])).trans fun k hk => hT.block k ((H3.out.1.less (bx2 := bx) (fun k hk => by simp [hk])).rp.elim fun st h => (h.1.lt (b := k) (by simp [hk])).1) fun e => HA.out.2.2.2.1 (e ▸ hk)
  refine bodyPost_ret (v := spanV 0 q m) (by simp [results, Tryd.results65, go_sem, z0, z1, z2]) rfl ?_
  refine ⟨p', over', buf', by rw [HM.out, ← HQ.out], hnF, hkF, H3.out.2.2.1, ?_⟩
  rw [← HQ.out]
  exact H3.out.2.2.2.1
/- What stands from a place on. -/
set_option maxRecDepth 100000 in
theorem behind {tt : Nat} {A : ByteArray} {M : Value} (h : Tx w tt buf A M) (k : Nat) (hk : k ≤ A.size) (hz : A.size ≤ 10000000) :
    Calls Tryd.prog 66 #[ptr tt, .int .i64 (k : Int)] w fun e w' => e = .returned (.string (A.extract k A.size)) ∧ Below w.heap.size w w' := by
  obtain ⟨l, hB, hl⟩ := h
  obtain ⟨t0, _, _, _⟩ := hB.all
  have hki : ¬ (A.size : Int) < (k : Int) := by omega
  have hcz : (A.extract k A.size).size ≤ 281474976710656 := by rw [ByteArray.size_extract]; omega
  by_cases hl0 : l = []
  · subst hl0
    have HH := Lib.hid hB
    clear hB hl
    go_enter Tryd.func66, Tryd.ntmps66
    go_wp2_with (go_at_call 34; refine (lenB HH.out).mono ?_; rintro e w1 ⟨rfl, hw⟩; obtain rfl := hw.symm; clear hw)
    go_ret
    exact ⟨rfl, Below.refl _ _⟩
  · have hne : ¬ (l.length : Int) = 0 := by
      have : l.length ≠ 0 := fun e => hl0 (List.eq_nil_of_length_eq_zero e)
      omega
    have hnb : ((l.length : Int) == 0) = false := beq_eq_false_iff_ne.2 hne
    have HH := Lib.hid hB
    clear hB hl hl0
    go_enter Tryd.func66, Tryd.ntmps66
    go_wp2_with (first
      | (go_at_call 67; refine (clone _ _ hcz).mono ?_; rintro e w2 ⟨rfl, hb2⟩)
      | (go_at_call 34; refine (lenB HH.out).mono ?_; rintro e w1 ⟨rfl, hw⟩; obtain rfl := hw.symm; clear hw))
    go_ret
    exact ⟨rfl, hb2⟩
end
end Go.Proofs.YtahblmcjocepeaaDoor.Rd
