/-
  WorldWhole: the walk.
-/
import Derived.Test.YtkgoglcmoehbkaaWoWb
import Derived.Test.YtkgoglcmoehbkaaRgA
namespace Go.Proofs.Ytkgoglcmoehbkaa.Wo
open Go.RowKit Go.Maps

abbrev LW (H : Nat) (g q : Nat → ByteArray) : List Blk := [(H, #[.string (g 0), .string (g 1), .string (g 2)], 59), (H + 1, #[.string (q 0), .string (q 1), .string (q 2)], 59), (H + 1 + 1, #[.string nF, .string dash, .string nC], 59), (H + 1 + 1 + 1, #[.int .u8 1, .int .u8 1, .int .u8 2], 60), (H + 1 + 1 + 1 + 1, #[.string nO, .string nF, .string nP], 59), (H + 1 + 1 + 1 + 1 + 1, #[.int .u8 3, .int .u8 4, .int .u8 5], 60)]
section
variable {w wr : World} {B H : Nat} {st : St} {g q : Nat → ByteArray}
theorem six_boxes {w2 : World} (h : Play w w2 B st) : PlayL w ((((((w2.alloc (.cells #[.string noText, .string noText, .string noText] 59)).alloc (.cells #[.string noText, .string noText, .string noText] 59)).alloc (.cells #[.string nF, .string dash, .string nC] 59)).alloc (.cells #[.int .u8 1, .int .u8 1, .int .u8 2] 60)).alloc (.cells #[.string nO, .string nF, .string nP] 59)).alloc (.cells #[.int .u8 3, .int .u8 4, .int .u8 5] 60)) B st (LW w2.heap.size (fun _ => noText) (fun _ => noText)) := by
  have h6 := (((((h.blocks.box #[.string noText, .string noText, .string noText] 59).box #[.string noText, .string noText, .string noText] 59).box #[.string nF, .string dash, .string nC] 59).box #[.int .u8 1, .int .u8 1, .int .u8 2] 60).box #[.string nO, .string nF, .string nP] 59).box #[.int .u8 3, .int .u8 4, .int .u8 5] 60
  simp only [alloc_size] at h6
  refine h6.sub fun x hx => ?_
  simp only [LW, List.mem_cons, List.not_mem_nil, or_false] at hx ⊢
  rcases hx with h | h | h | h | h | h <;> simp [h]
structure LWc (wr : World) (H : Nat) (g q : Nat → ByteArray) (k : Nat) : Prop where
  g : wr.cell? ⟨H, k, none⟩ = some (.string (g k))
  q : wr.cell? ⟨H + 1, k, none⟩ = some (.string (q k))
  inN : wr.cell? ⟨H + 1 + 1, k, none⟩ = some (.string (inN k))
  inK : wr.cell? ⟨H + 1 + 1 + 1, k, none⟩ = some (.int .u8 (inK k))
  outN : wr.cell? ⟨H + 1 + 1 + 1 + 1, k, none⟩ = some (.string (outN k))
  outK : wr.cell? ⟨H + 1 + 1 + 1 + 1 + 1, k, none⟩ = some (.int .u8 (outK k))
  zg : wr.frozen? ⟨H, k, none⟩ = false
  zq : wr.frozen? ⟨H + 1, k, none⟩ = false
theorem PlayL.cells (h : PlayL w wr B st (LW H g q)) {k : Nat} (hk : k < 3) : LWc wr H g q k := by
  have c0 := h.cell (b := H) (cs := #[.string (g 0), .string (g 1), .string (g 2)]) (t := 59) (by simp [LW]) k
  have c1 := h.cell (b := H + 1) (cs := #[.string (q 0), .string (q 1), .string (q 2)]) (t := 59) (by simp [LW]) k
  have c2 := h.cell (b := H + 1 + 1) (cs := #[.string nF, .string dash, .string nC]) (t := 59) (by simp [LW]) k
  have c3 := h.cell (b := H + 1 + 1 + 1) (cs := #[.int .u8 1, .int .u8 1, .int .u8 2]) (t := 60) (by simp [LW]) k
  have c4 := h.cell (b := H + 1 + 1 + 1 + 1) (cs := #[.string nO, .string nF, .string nP]) (t := 59) (by simp [LW]) k
  have c5 := h.cell (b := H + 1 + 1 + 1 + 1 + 1) (cs := #[.int .u8 3, .int .u8 4, .int .u8 5]) (t := 60) (by simp [LW]) k
  have z0 := h.frozen (b := H) (cs := #[.string (g 0), .string (g 1), .string (g 2)]) (t := 59) (by simp [LW]) k
  have z1 := h.frozen (b := H + 1) (cs := #[.string (q 0), .string (q 1), .string (q 2)]) (t := 59) (by simp [LW]) k
  match k, hk with
  | 0, _ => exact ⟨c0, c1, c2, c3, c4, c5, z0, z1⟩
  | 1, _ => exact ⟨c0, c1, c2, c3, c4, c5, z0, z1⟩
  | 2, _ => exact ⟨c0, c1, c2, c3, c4, c5, z0, z1⟩
theorem PlayL.setG (h : PlayL w wr B st (LW H g q)) {k : Nat} (hk : k < 3) (x : ByteArray) : PlayL w (wr.setCell ⟨H, k, none⟩ (.string x)) B st (LW H (set3 g k x) q) := by
  have h2 := PlayL.set (b := H) h (fun y hy => by
    simp only [List.mem_cons, List.not_mem_nil, or_false] at hy
    rcases hy with rfl | rfl | rfl | rfl | rfl <;> simp <;> omega) k (.string x)
  match k, hk with
  | 0, _ => exact h2
  | 1, _ => exact h2
  | 2, _ => exact h2
theorem PlayL.setQ (h : PlayL w wr B st (LW H g q)) {k : Nat} (hk : k < 3) (x : ByteArray) : PlayL w (wr.setCell ⟨H + 1, k, none⟩ (.string x)) B st (LW H g (set3 q k x)) := by
  have h1 : PlayL w wr B st ((H + 1, #[.string (q 0), .string (q 1), .string (q 2)], 59) :: (LW H g q).eraseIdx 1) := h.sub fun y hy => by
    simp only [LW, List.eraseIdx_cons_succ, List.eraseIdx_cons_zero, List.mem_cons, List.not_mem_nil, or_false] at hy ⊢
    rcases hy with h | h | h | h | h | h <;> simp [h]
  have h2 := PlayL.set (b := H + 1) h1 (fun y hy => by
    simp only [LW, List.eraseIdx_cons_succ, List.eraseIdx_cons_zero, List.mem_cons, List.not_mem_nil, or_false] at hy
    rcases hy with rfl | rfl | rfl | rfl | rfl <;> simp <;> omega) k (.string x)
  have h3 : PlayL w (wr.setCell ⟨H + 1, k, none⟩ (.string x)) B st ((H + 1, #[.string (set3 q k x 0), .string (set3 q k x 1), .string (set3 q k x 2)], 59) :: (LW H g q).eraseIdx 1) := by
    match k, hk with
    | 0, _ => exact h2
    | 1, _ => exact h2
    | 2, _ => exact h2
  refine h3.sub fun y hy => ?_
  simp only [LW, List.eraseIdx_cons_succ, List.eraseIdx_cons_zero, List.mem_cons, List.not_mem_nil, or_false] at hy ⊢
  rcases hy with h | h | h | h | h | h <;> simp [h]
end
theorem wld_eql_nil (a : Addr) (w : World) : (binOp .eql 31 (.pointer (some a)) (.pointer none)).run Try.prog w = .ok (.bool false) w := by
  have h : ∀ d : Nat, (Op.equalIn (d + 1) 31 (.pointer (some a)) (.pointer none)).run Try.prog w = .ok false w := fun d => by
    simp [Op.equalIn, run_underlying Try.underlying31]
  simp only [binOp]
  simp [Op.equal, Op.maxDepth, h 9999]
def Ints (w : World) (v : Value) (C : List Int) : Prop := ∃ oa c, v = .slice oa C.length c ∧ ∀ (i : Nat) x, C[i]? = some x → (-9223372036854775808 ≤ x ∧ x ≤ 9223372036854775807) ∧ ∃ l p, oa = some ⟨l, p, none⟩ ∧ w.cell? ⟨l, p + i, none⟩ = some (.int .i64 x)
def Texts (w : World) (v : Value) (C : List ByteArray) : Prop := ∃ oa c, v = .slice oa C.length c ∧ ∀ (i : Nat) x, C[i]? = some x → ∃ l p, oa = some ⟨l, p, none⟩ ∧ w.cell? ⟨l, p + i, none⟩ = some (.string x)
theorem txt_append (a : List UInt8) (d : ByteArray) : txt a ++ d = txt (a ++ d.data.toList) := by
  apply ByteArray.ext
  simp [txt, ByteArray.data_append]
theorem piped_take (l : List Ev) (m : Nat) : (piped (l.take m)).length ≤ (piped l).length := by
  induction l generalizing m with
  | nil => simp
  | cons e r ih =>
    cases m with
    | zero => simp [piped]
    | succ m => rw [List.take_succ_cons, piped, piped, List.length_append, List.length_append]; have := ih m; omega
theorem set3_same {α : Type} (a : Nat → α) (k : Nat) (x : α) : set3 a k x k = x := if_pos rfl
theorem set3_other {α : Type} (a : Nat → α) {k i : Nat} (x : α) (h : i ≠ k) : set3 a k x i = a i := if_neg h
theorem append3 (a b c : ByteArray) : (a ++ b) ++ c = a ++ (b ++ c) := by
  apply ByteArray.ext
  simp [ByteArray.data_append]
theorem src_step {file stdin reply : ByteArray} {g l : Nat → ByteArray} {k : Nat} {s t : ByteArray} (h : ∀ i, i < 3 → g i ++ l i = pick3 file stdin reply i) (hst : s ++ t = l k) : ∀ i, i < 3 → set3 g k (g k ++ s) i ++ set3 l k t i = pick3 file stdin reply i := fun i hi => by
  by_cases e : i = k
  · subst e
    rw [set3_same, set3_same, append3, hst]
    exact h i hi
  · rw [set3_other _ _ e, set3_other _ _ e]
    exact h i hi
def SrcOk (file stdin reply : ByteArray) (g l : Nat → ByteArray) : Prop := ∀ i, i < 3 → g i ++ l i = pick3 file stdin reply i
theorem PlayL.srcCell {w wr : World} {B S : Nat} {st : St} {f s r : ByteArray} {t : TypeId} {L : List Blk} (h : PlayL w wr B st ((S, #[.string f, .string s, .string r], t) :: L)) {k : Nat} (hk : k < 3) : wr.cell? ⟨S, k, none⟩ = some (.string (pick3 f s r k)) := by
  have c := h.cell (b := S) List.mem_cons_self k
  match k, hk with
  | 0, _ => exact c
  | 1, _ => exact c
  | 2, _ => exact c
structure Mid (w wr : World) (B H : Nat) (file stdin reply : ByteArray) (g q l : Nat → ByteArray) (st : St) (j : Nat) : Prop where
  play : PlayL w wr B st (LW H g q)
  whl : WhlF l (file ++ q 1).data.toList (q 0).data.toList (q 2).data.toList st
  src : SrcOk file stdin reply g l
  qs : ∀ i, (q i).size ≤ 100 * j
  tr : st.trace.length ≤ 6 + j
theorem src_size {file stdin reply : ByteArray} (h1 : file.size ≤ 300) (h2 : stdin.size ≤ 300) (h3 : reply.size ≤ 300) {g l : Nat → ByteArray} (h : SrcOk file stdin reply g l) {k : Nat} (hk : k < 3) : (g k).size + (l k).size ≤ 300 := by
  have := congrArg ByteArray.size (h k hk)
  rw [ByteArray.size_append] at this
  rw [this]
  match k, hk with
  | 0, _ => exact h1
  | 1, _ => exact h2
  | 2, _ => exact h3

set_option maxHeartbeats 4000000 in
set_option maxRecDepth 100000 in
theorem whole {K : Nat} (haw : AwakeOk K) (file stdin reply : ByteArray) (vc vd : Value) (C : List Int) (Dt : List ByteArray) (w : World) (hK : K ≤ w.heap.size) (hC : Ints w vc C) (hD : Texts w vd Dt) :
    Calls Try.prog 4 #[.string file, .string stdin, .string reply, vc, vd] w fun e w' => e = .returned (.bool true) ∧ Below w.heap.size w w' := by
  obtain ⟨oc, cc, rfl, hC⟩ := hC
  obtain ⟨od, cd, rfl, hD⟩ := hD
  have HA := Lib.hid haw
  have HC := Lib.hid hC
  have HD := Lib.hid hD
  clear haw hC hD
  by_cases h1 : 300 < file.size
  · have h1' : 300 < (file.size : Int) := by omega
    go_enter Try.func4, Try.ntmps4
    go_wp2_with (go_at_call 7; refine (HA.out _ hK).mono ?_; rintro e w' ⟨rfl, hb⟩)
    go_ret
    exact ⟨rfl, hb⟩
  by_cases h2 : 300 < stdin.size
  · have h1' : ¬ 300 < (file.size : Int) := by omega
    have h2' : 300 < (stdin.size : Int) := by omega
    go_enter Try.func4, Try.ntmps4
    go_wp2_with (go_at_call 7; refine (HA.out _ hK).mono ?_; rintro e w' ⟨rfl, hb⟩)
    go_ret
    exact ⟨rfl, hb⟩
  by_cases h3 : 300 < reply.size
  · have h1' : ¬ 300 < (file.size : Int) := by omega
    have h2' : ¬ 300 < (stdin.size : Int) := by omega
    have h3' : 300 < (reply.size : Int) := by omega
    go_enter Try.func4, Try.ntmps4
    go_wp2_with (go_at_call 7; refine (HA.out _ hK).mono ?_; rintro e w' ⟨rfl, hb⟩)
    go_ret
    exact ⟨rfl, hb⟩
  have h1' : ¬ 300 < (file.size : Int) := by omega
  have h2' : ¬ 300 < (stdin.size : Int) := by omega
  have h3' : ¬ 300 < (reply.size : Int) := by omega
  have HS := Lib.hid (⟨Nat.le_of_not_lt h1, Nat.le_of_not_lt h2, Nat.le_of_not_lt h3⟩ : file.size ≤ 300 ∧ stdin.size ≤ 300 ∧ reply.size ≤ 300)
  clear h1 h2 h3
  go_enter Try.func4, Try.ntmps4
  go_wp2_with (first
    | (go_at_call 19; refine (plainW file stdin reply w HS.out.1).mono ?_; rintro e w2 ⟨B, st, rfl, q1, q2, q3⟩; have H2 := Lib.hid (⟨q1, q2, q3⟩ : _ ∧ _ ∧ _); clear q1 q2 q3)
    | rw [wld_eql_nil])
  have hM0 : ∃ g q l st, Mid w ((((((w2.alloc (.cells #[.string noText, .string noText, .string noText] 59)).alloc (.cells #[.string noText, .string noText, .string noText] 59)).alloc (.cells #[.string nF, .string dash, .string nC] 59)).alloc (.cells #[.int .u8 1, .int .u8 1, .int .u8 2] 60)).alloc (.cells #[.string nO, .string nF, .string nP] 59)).alloc (.cells #[.int .u8 3, .int .u8 4, .int .u8 5] 60)) B w2.heap.size file stdin reply g q l st 0 := by
    refine ⟨fun _ => noText, fun _ => noText, pick3 file stdin reply, st, six_boxes H2.out.1, ?_, ?_, fun _ => Nat.le_refl _, by rw [H2.out.2.2]; exact Nat.le_refl _⟩
    · have := H2.out.2.1
      have e : (file ++ noText) = file := by apply ByteArray.ext; simp
      simp only [e]
      exact this
    · intro i _
      apply ByteArray.ext; simp
  obtain ⟨wS, hS⟩ : ∃ wS, wS = ((((((w2.alloc (.cells #[.string noText, .string noText, .string noText] 59)).alloc (.cells #[.string noText, .string noText, .string noText] 59)).alloc (.cells #[.string ⟨#[102]⟩, .string ⟨#[45]⟩, .string ⟨#[99]⟩] 59)).alloc (.cells #[.int .u8 1, .int .u8 1, .int .u8 2] 60)).alloc (.cells #[.string ⟨#[111]⟩, .string ⟨#[102]⟩, .string ⟨#[112]⟩] 59)).alloc (.cells #[.int .u8 3, .int .u8 4, .int .u8 5] 60)) := ⟨_, rfl⟩
  have hM1 : ∃ g q l st, Mid w wS B w2.heap.size file stdin reply g q l st 0 := by rw [hS]; exact hM0
  clear hM0
  rw [← hS]
  clear hS H2
  generalize w2.heap.size = H at *
  have HM := Lib.hid hM1
  clear hM1
  go_loopg [18] C.length (fun qq i wr => ∃ j g q l st, C.length - j = qq ∧ j ≤ C.length ∧ j ≤ 40 ∧ i = .int .i64 (j : Int) ∧ Mid w wr B H file stdin reply g q l st j)
  case atStart => 
    obtain ⟨g, q, l, st, hM⟩ := HM.out
    exact ⟨0, g, q, l, st, rfl, Nat.zero_le _, by omega, rfl, hM⟩
  case round =>
    obtain ⟨j, g, q, l, st, hq, hj, hj4, rfl, hM⟩ := hrel
    clear HM
    by_cases hlt : j < C.length ∧ j < 40
    · obtain ⟨hlt, hlt4⟩ := hlt
      have hlt' : (j : Int) < (C.length : Int) := by omega
      have hlt4' : (j : Int) < 40 := by omega
      obtain ⟨c, hc⟩ : ∃ c, C[j]? = some c := ⟨_, List.getElem?_eq_getElem hlt⟩
      obtain ⟨⟨cr1, cr2⟩, lc, pc, rfl, dc⟩ := HC.out j c hc
      have hbw : Below w.heap.size w wr := hM.play.play.b
      have dc := (hbw.cell (World.block_lt_of_cell? w _ dc)).trans dc
      obtain ⟨k, hk3, hpk⟩ : ∃ k : Nat, k < 3 ∧ pickI c 3 = (k : Int) := by
        have := pickI_lt (x := c) (n := 3) (by decide)
        exact ⟨(pickI c 3).toNat, by omega, by omega⟩
      obtain ⟨m, hm5, hpm⟩ : ∃ m : Nat, m < 50 ∧ pickI (IntKind.i64.wrap (c.tdiv 3)) 50 = (m : Int) := by
        have := pickI_lt (x := IntKind.i64.wrap (c.tdiv 3)) (n := 50) (by decide)
        exact ⟨(pickI (IntKind.i64.wrap (c.tdiv 3)) 50).toNat, by omega, by omega⟩
      have hk3' : (k : Int) < 3 := by omega
      have hm1 : (1 : Int) ≤ 1 + (m : Int) := by omega
      have hm2 : (1 : Int) + (m : Int) ≤ 1000000 := by omega
      have hls : (l k).size ≤ 1000000 := by have := src_size HS.out.1 HS.out.2.1 HS.out.2.2 hM.src hk3; omega
      have HP := Lib.hid (⟨hpk, hpm, hM⟩ : _ ∧ _ ∧ _)
      have HX := Lib.hid (⟨hm1, hm2, hls⟩ : _ ∧ _ ∧ _)
      clear hls hm1 hm2
      have hwr : IntKind.i64.wrap (1 + (m : Int)) = 1 + (m : Int) := by rw [IntKind.wrap_i64]; omega
      clear hpk hpm hM hbw hc
      go_upto_region 15 with (go_at_call 20; refine (Pick c 3 _ (by decide) (by decide)).mono ?_; rintro e w' ⟨rfl, hw⟩; obtain rfl := hw.symm; clear hw; rw [HP.out.1])
      refine Rg.wp_region_mid 14 rfl (by kernel_rfl) (by kernel_rfl) ?_
      intro wE hbE hhE
      have dcE := cell_of_heap hhE dc
      have hPE := HP.out.2.2.play.below hbE
      obtain ⟨_, _, eN, eK, _, _, _, _⟩ := hPE.cells hk3
      have HE := Lib.hid hPE
      have HRd := Lib.hid (hPE.readW HP.out.2.2.whl hk3 HX.out.1 HX.out.2.1 HX.out.2.2)
      clear hPE hbE hhE
      simp only [List.take_succ_cons, List.take_zero, List.drop_succ_cons, List.drop_zero]
      repeat still_step
      have hpk2 := Pick (IntKind.i64.wrap (c.tdiv 3)) 50 wE (by decide) (by decide)
      rw [HP.out.2.1] at hpk2
      still_call hpk2
      clear hpk2
      repeat still_step
      refine wpStill_nil ?_
      intro K hK
      go_simp
      go_at_call 21
      refine HRd.out.mono ?_
      rintro e w3 ⟨s, t, st3, rfl, hst, _, hP3, hW3, ht3⟩
      go_simp
      refine hK _ _ ?_
      clear hK K
      repeat still_step
      refine wpStill_nil ?_
      have hgs1 : ((g k).size : Int) ≤ 1000 := by have := src_size HS.out.1 HS.out.2.1 HS.out.2.2 HP.out.2.2.src hk3; omega
      have hgs2 : (s.size : Int) ≤ 1000 := by
        have q1 := src_size HS.out.1 HS.out.2.1 HS.out.2.2 HP.out.2.2.src hk3
        have q2 := congrArg ByteArray.size hst
        rw [ByteArray.size_append] at q2
        omega
      obtain ⟨cg, _, _, _, _, _, zg, _⟩ := hP3.cells hk3
      have H3 := Lib.hid (⟨hP3.setG hk3 (g k ++ s), hW3, ht3, src_step HP.out.2.2.src hst⟩ : _ ∧ _ ∧ _ ∧ _)
      clear hP3 hW3 ht3 hst HE HRd eN eK dcE HX
      go_upto_region 19 with fail
      obtain ⟨wG, hG⟩ : ∃ wG, wG = w3.setCell ⟨H, k, none⟩ (.string (g k ++ s)) := ⟨_, rfl⟩
      have hPG := H3.out.1
      rw [← hG] at hPG ⊢
      have HG := Lib.hid (⟨hPG, H3.out.2⟩ : _ ∧ _ ∧ _ ∧ _)
      clear hG hPG H3 hgs1 hgs2 cg zg
      by_cases hjd : j < Dt.length
      · have hjd' : (j : Int) < (Dt.length : Int) := by omega
        obtain ⟨d, hd⟩ : ∃ d, Dt[j]? = some d := ⟨_, List.getElem?_eq_getElem hjd⟩
        obtain ⟨ld, pd, rfl, dd⟩ := HD.out j d hd
        have HD0 := Lib.hid dd
        have dd := (HG.out.1.play.b.cell (World.block_lt_of_cell? w _ dd)).trans dd
        by_cases hds : d.size < 100
        · have hds' : (d.size : Int) < 100 := by omega
          go_upto_region 20 with fail
          refine Rg.wp_region_mid 11 rfl (by kernel_rfl) (by kernel_rfl) ?_
          intro wE hbE hhE
          have dE := cell_of_heap hhE dd
          have hPE := HG.out.1.below hbE
          obtain ⟨_, _, _, _, eN, eK, _, _⟩ := hPE.cells hk3
          have HRd := Lib.hid (hPE.writeW HG.out.2.1 hk3 (d := d) (by omega) (by have := HS.out.1; omega) (fun i => by have := HP.out.2.2.qs i; omega) (by rw [HG.out.2.2.1]; have := HP.out.2.2.tr; omega))
          clear hPE hbE hhE
          simp only [List.take_succ_cons, List.take_zero, List.drop_succ_cons, List.drop_zero]
          repeat still_step
          refine wpStill_nil ?_
          intro K hK
          go_simp
          go_at_call 22
          refine HRd.out.mono ?_
          rintro e w5 ⟨rfl, st5, hP5, hW5, ht5⟩
          go_simp
          refine hK _ _ ?_
          clear hK K
          repeat still_step
          refine wpStill_nil ?_
          have d5 := (hP5.play.b.cell (World.block_lt_of_cell? w _ HD0.out)).trans HD0.out
          have hq1 : ((q k).size : Int) ≤ 100000 := by have := HP.out.2.2.qs k; omega
          have hq2 : ¬ 9223372036854775807 < (q k).size + d.size := by omega
          have H5 := Lib.hid (⟨hP5, hW5, ht5⟩ : _ ∧ _ ∧ _)
          clear hP5 hW5 ht5 dE eN eK HRd
          go_upto_region 22 with fail
          refine region_tailH 10 (by kernel_rfl) (by kernel_rfl) ?_
          intro wF hbF hhF
          have dF := cell_of_heap hhF d5
          have hPF := H5.out.1.below hbF
          obtain ⟨_, cq, _, _, _, _, _, zq⟩ := hPF.cells hk3
          have HF := Lib.hid hPF
          clear hPF hbF hhF d5
          simp only [List.take_succ_cons, List.take_zero, List.drop_succ_cons, List.drop_zero]
          repeat still_step
          refine wpStill_nil ?_
          go_wp2_with fail
          go_roundg (C.length - (j + 1))
          case measure => omega
          case rel =>
            refine ⟨j + 1, set3 g k (g k ++ s), set3 q k (q k ++ d), set3 l k t, st5, rfl, hlt, by omega, by go_num, HF.out.setQ hk3 (q k ++ d), H5.out.2.1, HG.out.2.2.2, fun i => ?_, ?_⟩
            · have := HP.out.2.2.qs i
              by_cases e : i = k
              · subst e; rw [set3_same, ByteArray.size_append]; omega
              · rw [set3_other _ _ e]; omega
            · have q1 := H5.out.2.2
              rw [HG.out.2.2.1] at q1
              have := HP.out.2.2.tr
              omega
        · have hds' : ¬ (d.size : Int) < 100 := by omega
          go_wp2_with fail
          go_roundg (C.length - (j + 1))
          case measure => omega
          case rel =>
            exact ⟨j + 1, set3 g k (g k ++ s), q, set3 l k t, st3, rfl, hlt, by omega, by go_num, HG.out.1, HG.out.2.1, HG.out.2.2.2, fun i => by have := HP.out.2.2.qs i; omega, by rw [HG.out.2.2.1]; have := HP.out.2.2.tr; omega⟩
      · have hjd' : ¬ (j : Int) < (Dt.length : Int) := by omega
        go_wp2_with fail
        go_roundg (C.length - (j + 1))
        case measure => omega
        case rel =>
          exact ⟨j + 1, set3 g k (g k ++ s), q, set3 l k t, st3, rfl, hlt, by omega, by go_num, HG.out.1, HG.out.2.1, HG.out.2.2.2, fun i => by have := HP.out.2.2.qs i; omega, by rw [HG.out.2.2.1]; have := HP.out.2.2.tr; omega⟩
    · have hge : ¬ (j : Int) < (C.length : Int) ∨ ((j : Int) < (C.length : Int) ∧ ¬ (j : Int) < 40) := by omega
      have HM := Lib.hid hM
      clear hM hlt
      rcases hge with hge | ⟨hge, hge2⟩
      all_goals
        go_wp2_with fail
        obtain ⟨wT, hT⟩ : ∃ wT, wT = wr.alloc (.cells #[.string file, .string stdin, .string reply] 59) := ⟨_, rfl⟩
        have hPT := HM.out.play.box #[.string file, .string stdin, .string reply] 59
        rw [← hT] at hPT ⊢
        have HT := Lib.hid hPT
        clear hT hPT
        generalize wr.heap.size = S at *
        go_loopg [23] 3 (fun qq i w9 => ∃ k l st, 3 - k = qq ∧ k ≤ 3 ∧ i = .int .i64 (k : Int) ∧ PlayL w w9 B st ((S, #[.string file, .string stdin, .string reply], 59) :: LW H g q) ∧ WhlF l (file ++ q 1).data.toList (q 0).data.toList (q 2).data.toList st ∧ (∀ i, k ≤ i → i < 3 → g i ++ l i = pick3 file stdin reply i) ∧ st.trace.length ≤ 6 + j)
        case atStart => exact ⟨0, l, st, rfl, by omega, rfl, HT.out, HM.out.whl, fun i _ h => HM.out.src i h, HM.out.tr⟩
        case round =>
          obtain ⟨k, l2, st2, hq2, hk3, rfl, hP9, hW9, hs9, ht9⟩ := hrel
          by_cases hlt : k < 3
          · have hlt' : (k : Int) < 3 := by omega
            have hgl := hs9 k (Nat.le_refl _) hlt
            have hsz : (l2 k).size ≤ 300 := by
              have q1 := congrArg ByteArray.size hgl
              rw [ByteArray.size_append] at q1
              have q2 := src_size HS.out.1 HS.out.2.1 HS.out.2.2 HM.out.src hlt
              have q3 := congrArg ByteArray.size (HM.out.src k hlt)
              rw [ByteArray.size_append] at q3
              omega
            have hgz : ¬ 9223372036854775807 < (g k).size + (l2 k).size := by
              have q2 := src_size HS.out.1 HS.out.2.1 HS.out.2.2 HM.out.src hlt
              omega
            have H9 := Lib.hid (⟨hP9, hW9, hs9, ht9, hgl, hsz⟩ : _ ∧ _ ∧ _ ∧ _ ∧ _ ∧ _)
            clear hP9 hW9 hs9 ht9 hgl hsz
            go_upto_region 27 with fail
            refine Rg.wp_region_mid 7 rfl (by kernel_rfl) (by kernel_rfl) ?_
            intro wE hbE hhE
            have hPE := H9.out.1.below hbE
            obtain ⟨_, _, eN, eK, _, _, _, _⟩ := (hPE.sub fun x hx => List.mem_cons_of_mem _ hx : PlayL w wE B st2 (LW H g q)).cells hlt
            have HRd := Lib.hid (hPE.readW H9.out.2.1 hlt (m := 1000) (by decide) (by decide) (by have := H9.out.2.2.2.2.2; omega))
            clear hPE hbE hhE
            simp only [List.take_succ_cons, List.take_zero, List.drop_succ_cons, List.drop_zero]
            repeat still_step
            refine wpStill_nil ?_
            intro K hK
            go_simp
            go_at_call 21
            refine HRd.out.mono ?_
            rintro e w3 ⟨s, t, st3, rfl, hst, hst2, hP3, hW3, ht3⟩
            obtain ⟨rfl, rfl⟩ := hst2 (by have := H9.out.2.2.2.2.2; omega)
            go_simp
            refine hK _ _ ?_
            clear hK K
            repeat still_step
            refine wpStill_nil ?_
            have H3 := Lib.hid (⟨hP3, hW3, ht3⟩ : _ ∧ _ ∧ _)
            clear hP3 hW3 ht3 hst hst2 eN eK HRd
            go_upto_region 28 with fail
            refine Rg.wp_region_mid 7 rfl (by kernel_rfl) (by kernel_rfl) ?_
            intro wE2 hbE hhE
            have hPE := H3.out.1.below hbE
            obtain ⟨_, _, eN, eK, _, _, _, _⟩ := (hPE.sub fun x hx => List.mem_cons_of_mem _ hx : PlayL w wE2 B st3 (LW H g q)).cells hlt
            have hz : (set3 l2 k noText) k = noText := set3_same _ _ _
            have HRd := Lib.hid (hPE.readW H3.out.2.1 hlt (m := 1) (by decide) (by decide) (by rw [hz]; decide))
            clear hPE hbE hhE
            simp only [List.take_succ_cons, List.take_zero, List.drop_succ_cons, List.drop_zero]
            repeat still_step
            refine wpStill_nil ?_
            intro K hK
            go_simp
            go_at_call 21
            refine HRd.out.mono ?_
            rintro e w4 ⟨s, t, st4, rfl, hst, hst2, hP4, hW4, ht4⟩
            rw [hz] at hst2
            obtain ⟨rfl, rfl⟩ := hst2 (by decide)
            go_simp
            refine hK _ _ ?_
            clear hK K
            repeat still_step
            refine wpStill_nil ?_
            have cs := hP4.srcCell hlt
            rw [← H9.out.2.2.2.2.1] at cs
            obtain ⟨cg, _, _, _, _, _, _, _⟩ := (hP4.sub fun x hx => List.mem_cons_of_mem _ hx : PlayL w w4 B st4 (LW H g q)).cells hlt
            have H4 := Lib.hid (⟨hP4, hW4, ht4⟩ : _ ∧ _ ∧ _)
            clear hP4 hW4 ht4 hst hst2 eN eK HRd hz
            go_upto_region 29 with fail
            go_quiet (fail)
            go_wp2_with fail
            go_roundg (3 - (k + 1))
            case measure => omega
            case rel =>
              refine ⟨k + 1, _, st4, rfl, hlt, by go_num, H4.out.1.drewN _, H4.out.2.1, fun i h1 h2 => ?_, by rw [H4.out.2.2, H3.out.2.2]; exact H9.out.2.2.2.1⟩
              rw [set3_other _ _ (by omega), set3_other _ _ (by omega)]
              exact H9.out.2.2.1 i (by omega) h2
          · obtain rfl : k = 3 := by omega
            clear hs9
            have htl : st2.trace.length ≤ 1000000 := by omega
            have H9 := Lib.hid (⟨hP9, hW9⟩ : _ ∧ _)
            clear hP9 hW9
            go_wp2_with (first
              | (go_at_call 13; have HH := H6.out; refine (HH.trace htl).mono ?_; rintro e w7 ⟨v, rfl, hr7, hP7⟩; obtain ⟨oa, c7, rfl, _⟩ := slice_of hr7; have H7 := Lib.hid (⟨hr7, hP7⟩ : _ ∧ _); clear hr7 hP7 HH)
              | (go_at_call 16; have HH := H5.out; refine (HH.fileOf (n := nF) (small_out 1) H9.out.2.f).mono ?_; rintro e w6 ⟨rfl, hP6⟩; rw [txt_data]; have H6 := Lib.hid hP6; clear hP6 HH)
              | (go_at_call 16; refine (H9.out.1.fileOf (n := nO) (small_out 0) H9.out.2.o).mono ?_; rintro e w5 ⟨rfl, hP5⟩; rw [txt_data]; have H5 := Lib.hid hP5; clear hP5))
            go_loopg [32, 200] st2.trace.length (fun qq p i w9 => ∃ m, st2.trace.length - m = qq ∧ m ≤ st2.trace.length ∧ i = .int .i64 (m : Int) ∧ p = .string (txt (piped (st2.trace.take m))) ∧ Below w7.heap.size w7 w9)
            case atStart => exact ⟨0, rfl, Nat.zero_le _, rfl, rfl, Below.refl _ _⟩
            case round =>
              obtain ⟨m, hqm, hm, rfl, rfl, hb9⟩ := hrel
              have hpl : (piped st2.trace).length ≤ 4000 := by
                rw [H9.out.2.pp, Array.length_toList]
                have := HM.out.qs 2
                show (q 2).size ≤ _
                omega
              by_cases hlt : m < st2.trace.length
              · have hlt' : (m : Int) < (st2.trace.length : Int) := by omega
                obtain ⟨ev, hev⟩ : ∃ ev, st2.trace[m]? = some ev := ⟨_, List.getElem?_eq_getElem hlt⟩
                obtain ⟨g0, rfl, d0, d1, d2, d3, d4⟩ := events_at H7.out.1 hev
                have d0 := (hb9.cell (World.block_lt_of_cell? w7 _ d0)).trans d0
                have d1 := (hb9.cell (World.block_lt_of_cell? w7 _ d1)).trans d1
                have d2 := (hb9.cell (World.block_lt_of_cell? w7 _ d2)).trans d2
                have d3 := (hb9.cell (World.block_lt_of_cell? w7 _ d3)).trans d3
                have d4 := (hb9.cell (World.block_lt_of_cell? w7 _ d4)).trans d4
                have htk : piped (st2.trace.take (m + 1)) = piped (st2.trace.take m) ++ (if ev.kind = 2 ∧ ev.stream = 5 then ev.data.data.toList else []) := by
                  rw [List.take_add_one, hev]
                  exact piped_snoc _ _
                have hbox := hb9.trans (((Below.refl _ wr).alloc (Nat.le_refl _) (.cells #[.int .u8 ev.kind, .int .u8 ev.stream, .string ev.name, .string ev.data, .int .i64 ev.status] 67)).mono hb9.size)
                have hp1 := piped_take st2.trace (m + 1)
                rw [htk, List.length_append] at hp1
                have hsz : ev.kind = 2 ∧ ev.stream = 5 → ¬ 9223372036854775807 < (txt (piped (st2.trace.take m))).size + ev.data.size := fun h => by
                  rw [if_pos h] at hp1
                  have e1 : (txt (piped (st2.trace.take m))).size = (piped (st2.trace.take m)).length := by show (List.toArray _).size = _; simp
                  have e2 : ev.data.data.toList.length = ev.data.size := Array.length_toList
                  omega
                have HE := Lib.hid (⟨htk, hbox⟩ : _ ∧ _)
                clear htk hbox hev hp1 hpl hb9
                generalize piped (st2.trace.take m) = pm at *
                obtain ⟨kd, sm, nm, dt, sx⟩ := ev
                dsimp only at d0 d1 d2 d3 d4 hsz
                by_cases hk1 : kd = 2
                · subst hk1
                  by_cases hk2 : sm = 5
                  · subst hk2
                    have hsz := hsz ⟨rfl, rfl⟩
                    go_wp2_with fail
                    go_roundg (st2.trace.length - (m + 1))
                    case measure => omega
                    case rel =>
                      refine ⟨m + 1, rfl, hlt, by go_num, ?_, HE.out.2⟩
                      rw [HE.out.1, txt_append]
                      simp
                  · clear hsz
                    go_wp2_with fail
                    go_roundg (st2.trace.length - (m + 1))
                    case measure => omega
                    case rel =>
                      refine ⟨m + 1, rfl, hlt, by go_num, ?_, HE.out.2⟩
                      rw [HE.out.1, if_neg (fun h => hk2 h.2), List.append_nil]
                · clear hsz
                  go_wp2_with fail
                  go_roundg (st2.trace.length - (m + 1))
                  case measure => omega
                  case rel =>
                    refine ⟨m + 1, rfl, hlt, by go_num, ?_, HE.out.2⟩
                    rw [HE.out.1, if_neg (fun h => hk1 h.1), List.append_nil]
              · obtain rfl : m = st2.trace.length := by omega
                have hge3 : ¬ (st2.trace.length : Int) < (st2.trace.length : Int) := by omega
                rw [List.take_length, H9.out.2.pp, txt_data]
                have hP9 := H7.out.2.below hb9
                have hPL : PlayL w wr B st2 (LW H g q) := hP9.sub fun x hx => List.mem_cons_of_mem _ hx
                have z0 := (hPL.cells (k := 0) (by decide)).q
                have z1 := (hPL.cells (k := 1) (by decide)).q
                have z2 := (hPL.cells (k := 2) (by decide)).q
                have hfz : ¬ 9223372036854775807 < file.size + (q 1).size := by
                  have := HM.out.qs 1
                  have := HS.out.1
                  omega
                have hbw : Below w.heap.size w wr := hPL.play.b
                have HZ := Lib.hid hbw
                clear hP9 hPL hbw hb9 hpl
                go_wp2_with (go_at_call 7; refine (HA.out _ (Nat.le_trans hK HZ.out.size)).mono ?_; rintro e w' ⟨rfl, hbZ⟩)
                go_ret
                exact ⟨rfl, HZ.out.trans (hbZ.mono HZ.out.size)⟩
end Go.Proofs.Ytkgoglcmoehbkaa.Wo
