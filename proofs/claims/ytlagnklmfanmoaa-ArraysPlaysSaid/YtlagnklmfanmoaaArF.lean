/-
  Package arrays: a key that is taken out (takeOut).
-/
import Derived.Test.YtlagnklmfanmoaaArE
namespace Go.Proofs.Ytlagnklmfanmoaa.Ar
open Go.RowKit Go.Maps

theorem del_none {l : List KV} {s : ByteArray} (h : hasL l s = false) : delL l s = l :=
  List.filter_eq_self.2 fun p hp => by
    have := (List.any_eq_false.1 h) p hp
    simpa using this

set_option maxRecDepth 100000 in
theorem takeOut_none {w : World} {S : Nat → Prop} {N pb mb g cap : Nat} {D : DataW Unit} {rs : List Row} (s : ByteArray) (h : Rows w S N pb mb g cap D rs) (hs : s.size ≤ 1000000) (hh : has D (kl s) = false) :
    Calls Try.prog 33 #[.pointer (some ⟨pb, 0, none⟩), .string s] w
      fun e w' => e = .returned (.bool false) ∧ w' = w := by
  have c0 := h.p0
  have hpl := h.lt _ h.s1
  have HH := Lib.hid h
  clear h
  go_enter Try.func33, Try.ntmps33
  go_wp2_with (first
    | (at_lookup; refine wpList_lookup_own_ok_int _ rfl _ _ 70 rfl 9 3 .i64 keyed Try.underlying70 Try.underlying3 (zero_int _) mb N D rfl HH.out.map _ _ rfl (key_of hs) ?_; intro c hat hwc; rw [hh]))
  go_ret
  exact ⟨rfl, rfl⟩

/- A row laid over another one. -/
def store5 (w : World) (g o : Nat) (r : Row) : World :=
  ((((w.setCell ⟨g, o, none⟩ (.string r.key)).setCell ⟨g, o + 1, none⟩ (.int .u8 r.cell.kind)).setCell ⟨g, o + 2, none⟩ (.int .u64 r.cell.n)).setCell ⟨g, o + 3, none⟩ (.string r.cell.s)).setCell ⟨g, o + 4, none⟩ (.bool r.there)
theorem set5 (l : List Value) (o : Nat) (a b c d e : Value) (h : o + 5 ≤ l.length) : ((((l.set o a).set (o + 1) b).set (o + 2) c).set (o + 3) d).set (o + 4) e = l.take o ++ [a, b, c, d, e] ++ l.drop (o + 5) := by
  apply List.ext_getElem?
  intro k
  by_cases hk : k < o
  · rw [List.append_assoc, List.getElem?_append_left (by rw [List.length_take]; omega), List.getElem?_take, if_pos hk]
    rw [List.getElem?_set_ne (by omega), List.getElem?_set_ne (by omega), List.getElem?_set_ne (by omega), List.getElem?_set_ne (by omega), List.getElem?_set_ne (by omega)]
  · by_cases h5 : k < o + 5
    · rw [List.getElem?_append_left (by simp [List.length_take]; omega), List.getElem?_append_right (by rw [List.length_take]; omega)]
      have hm : min o l.length = o := by omega
      rw [List.length_take, hm]
      obtain rfl | rfl | rfl | rfl | rfl : k = o ∨ k = o + 1 ∨ k = o + 2 ∨ k = o + 3 ∨ k = o + 4 := by omega
      · rw [List.getElem?_set_ne (by omega), List.getElem?_set_ne (by omega), List.getElem?_set_ne (by omega), List.getElem?_set_ne (by omega), List.getElem?_set_self (by omega)]; simp
      · rw [List.getElem?_set_ne (by omega), List.getElem?_set_ne (by omega), List.getElem?_set_ne (by omega), List.getElem?_set_self (by simp; omega)]; simp
      · rw [List.getElem?_set_ne (by omega), List.getElem?_set_ne (by omega), List.getElem?_set_self (by simp; omega)]; simp
      · rw [List.getElem?_set_ne (by omega), List.getElem?_set_self (by simp; omega)]; simp
      · rw [List.getElem?_set_self (by simp; omega)]; simp
    · rw [List.getElem?_append_right (by simp [List.length_take]; omega)]
      rw [List.getElem?_set_ne (by omega), List.getElem?_set_ne (by omega), List.getElem?_set_ne (by omega), List.getElem?_set_ne (by omega), List.getElem?_set_ne (by omega), List.getElem?_drop]
      congr 1
      simp [List.length_take]; omega
theorem stored5 {w : World} {g n cap i : Nat} {rs : List Row} (h : w.ownsRow 0 67 5 (.slice (some ⟨g, 0, none⟩) n cap) n (flat rs)) (hi : i < rs.length) (r : Row) :
    (store5 w g (i * 5) r).ownsRow 0 67 5 (.slice (some ⟨g, 0, none⟩) n cap) n (flat (rs.set i r)) ∧ w.grownBy (store5 w g (i * 5) r) (some g) := by
  obtain ⟨h1, g1⟩ := h.stored (i * 5) (.string r.key)
  obtain ⟨h2, g2⟩ := h1.stored (i * 5 + 1) (.int .u8 r.cell.kind)
  obtain ⟨h3, g3⟩ := h2.stored (i * 5 + 2) (.int .u64 r.cell.n)
  obtain ⟨h4, g4⟩ := h3.stored (i * 5 + 3) (.string r.cell.s)
  obtain ⟨h5, g5⟩ := h4.stored (i * 5 + 4) (.bool r.there)
  have e0 := set5 (flat rs) (i * 5) (.string r.key) (.int .u8 r.cell.kind) (.int .u64 r.cell.n) (.string r.cell.s) (.bool r.there) (by rw [flat_length]; omega)
  have e : flat (rs.set i r) = _ := (flat_set rs i r hi).trans e0.symm
  unfold store5
  refine ⟨by rw [e]; exact h5, ⟨?_, ?_, ?_, ?_, fun k hk hn => ?_⟩⟩
  · exact g5.os.trans (g4.os.trans (g3.os.trans (g2.os.trans g1.os)))
  · exact g5.tape.trans (g4.tape.trans (g3.tape.trans (g2.tape.trans g1.tape)))
  · exact g5.output.trans (g4.output.trans (g3.output.trans (g2.output.trans g1.output)))
  · exact Nat.le_trans g1.size (Nat.le_trans g2.size (Nat.le_trans g3.size (Nat.le_trans g4.size g5.size)))
  · have hk' : ∀ (o : Nat), k ≠ (⟨g, o, none⟩ : Addr).block := fun o e => hn (by rw [e])
    rw [heap_set _ _ _ (hk' _), heap_set _ _ _ (hk' _), heap_set _ _ _ (hk' _), heap_set _ _ _ (hk' _), heap_set _ _ _ (hk' _)]

/- A region that draws, whose operations read: the worlds that have all that this one has. -/
structure Later (u : World) where
  w : World
  h : Below u.heap.size u w
instance (u : World) : Nonempty (Later u) := ⟨⟨u, Below.refl _ _⟩⟩
theorem wp_region_later {P : Program} {id : Nat} {Q : Exit → Act → World → Prop} {a : Act} {w : World} {l : List Oper} (hm : P.follows .mixedOrders = true) (hB : Region.lexB .any l.toArray = true)
    (h : wpQuiet P l.toArray (fun w' => ∃ x : Later w, w' = x.w) (fun a' => ∀ w', (∃ x : Later w, w' = x.w) → Q .normal a' w') l a) : (Code.region id l.toArray true).wp P Q a w :=
  wp_region_quiet (C := fun w' => ∃ x : Later w, w' = x.w) hm hB ⟨⟨{ w with drawn := w.drawn + 1 }, ⟨rfl, rfl, rfl, Nat.le_refl _, fun _ _ => rfl⟩⟩, rfl⟩ (by simpa using h)
theorem Later.cell {w : World} (x : Later w) {p : Addr} {v : Value} (h : w.cell? p = some v) : x.w.cell? p = some v := (x.h.cell (cell_lt h)).trans h
theorem out_rows {w w1 : World} {S : Nat → Prop} {N pb mb g cap : Nat} {D : DataW Unit} {rs : List Row} {i : Nat} {r : Row} (h : Rows w S N pb mb g cap D rs) (hi : rs[i]? = some r) (hr : r.there = true) (ht : w.mapTurned w1 mb) (hm : MapIs w1 mb N (D.del (kl r.key))) :
    Rows (store5 w1 g (i * 5) Row.zero) S N pb mb g cap (D.del (kl r.key)) (rs.set i Row.zero) ∧ Turn S w (store5 w1 g (i * 5) Row.zero) := by
  obtain ⟨hlt, _⟩ := List.getElem?_eq_some_iff.mp hi
  have n1 := h.ne1
  have n2 := h.ne2
  have n3 := h.ne3
  have hg1 := ht.grown
  have z1 := hg1.size
  have hrow := row_of_block h.row (hg1.block g (h.lt _ h.s3) (by simpa using fun e => n3 e.symm))
  obtain ⟨hrow2, hg2⟩ := stored5 hrow hlt Row.zero
  have z2 := hg2.size
  have hX : ∀ k, k < w.heap.size → k ≠ mb → k ≠ g → (store5 w1 g (i * 5) Row.zero).heap[k]? = w.heap[k]? := fun k hk h1 h2 => by
    rw [hg2.block k (by omega) (by simpa using h2), hg1.block k hk (by simpa using h1)]
  have e0 := hX pb (h.lt _ h.s1) n1 n2
  refine ⟨⟨(World.cell?_of_block (a := ⟨pb, 0, none⟩) e0).trans h.p0, (World.frozen?_of_block (a := ⟨pb, 0, none⟩) e0).trans h.f0, ?_, (World.frozen?_of_block (a := ⟨pb, 1, none⟩) e0).trans h.f1, hm.of_block (hg2.block mb (Nat.lt_of_lt_of_le (h.lt _ h.s2) z1) (by simpa using n3)), ?_, h.ties.out hi hr, by rw [List.length_set]; exact h.len, n1, n2, n3, h.s1, h.s2, h.s3, fun k hk => ?_⟩, ⟨?_, ?_, ?_, by omega, fun k hk hS => hX k hk (fun e => hS (e ▸ h.s2)) fun e => hS (e ▸ h.s3)⟩⟩
  · rw [List.length_set]; exact (World.cell?_of_block (a := ⟨pb, 1, none⟩) e0).trans h.p1
  · rw [List.length_set]; exact hrow2
  · have := h.lt k hk; omega
  · exact hg2.os.trans hg1.os
  · exact hg2.tape.trans hg1.tape
  · exact hg2.output.trans hg1.output

theorem moved {w : World} {S S2 : Nat → Prop} {N pb pb2 mb g cap m2 g2 c2 : Nat} {n2 : Nat} {D : DataW Unit} {rs : List Row} (h : Rows w S2 N pb2 mb g cap D rs) (ne : pb ≠ mb ∧ pb ≠ g) (p0 : w.cell? ⟨pb, 0, none⟩ = some (.map (some m2))) (f0 : w.frozen? ⟨pb, 0, none⟩ = false)
    (p1 : w.cell? ⟨pb, 1, none⟩ = some (.slice (some ⟨g2, 0, none⟩) n2 c2)) (f1 : w.frozen? ⟨pb, 1, none⟩ = false) (s1 : S pb) (hS : ∀ k, S k → k < w.heap.size) :
    Rows ((w.setCell ⟨pb, 0, none⟩ (.map (some mb))).setCell ⟨pb, 1, none⟩ (.slice (some ⟨g, 0, none⟩) rs.length cap)) (fun k => S k ∨ S2 k) N pb mb g cap D rs ∧
      Turn S w ((w.setCell ⟨pb, 0, none⟩ (.map (some mb))).setCell ⟨pb, 1, none⟩ (.slice (some ⟨g, 0, none⟩) rs.length cap)) := by
  have hX : ∀ k, k ≠ pb → ((w.setCell ⟨pb, 0, none⟩ (.map (some mb))).setCell ⟨pb, 1, none⟩ (.slice (some ⟨g, 0, none⟩) rs.length cap)).heap[k]? = w.heap[k]? := fun k hk => by
    rw [heap_set _ _ _ (by simpa using hk), heap_set _ _ _ (by simpa using hk)]
  refine ⟨⟨?_, ?_, ?_, ?_, h.map.of_block (hX _ (fun e => ne.1 e.symm)), row_of_block h.row (hX _ (fun e => ne.2 e.symm)), h.ties, h.len, ne.1, ne.2, h.ne3, .inl s1, .inr h.s2, .inr h.s3, ?_⟩, ⟨rfl, rfl, rfl, ?_, ?_⟩⟩
  · rw [World.cell?_setCell_other _ _ _ _ (by simp), World.cell?_setCell_same' w _ _ (by rw [p0]; rfl)]
  · rw [World.frozen?_setCell, World.frozen?_setCell]; exact f0
  · rw [World.cell?_setCell_same' _ _ _ (by rw [World.cell?_setCell_other _ _ _ _ (by simp), p1]; rfl)]
  · rw [World.frozen?_setCell, World.frozen?_setCell]; exact f1
  · rintro k (hk | hk)
    · rw [size_set, size_set]; exact hS k hk
    · rw [size_set, size_set]; exact h.lt k hk
  · rw [size_set, size_set]; exact Nat.le_refl _
  · intro k _ hk
    exact hX k fun e => hk (e ▸ s1)

theorem quiet_len {P : Program} {ops : Array Oper} {C : World → Prop} {o : Oper} {a : Act} {K : Act → Prop} {E : Prop} (hw : Region.wanted o (yielded ops a.tmps) = true) (m : Operand) (t : TypeId) (hop : o.op = Op.call { callee := Callee.builtin Builtin.len, args := #[m], argTypes := #[t] })
    (k e : TypeId) (ht : P.underlying t = some (.map k e)) (R : Value → Option (DataW Unit × List MemPlace)) (b n : Nat) (D : DataW Unit) (hm : a.eval m = .map (some b)) (hown : ∀ w, C w → w.ownsMap P k R b n D)
    (hK : K (a.put o.dst (.int .i64 (Maps.size D)))) : if Region.wanted o (yielded ops a.tmps) = true then o.quiet P a C K else E := by
  rw [if_pos hw]
  refine ⟨_, fun w hC => ?_, hK⟩
  have hl := (hown w hC).len ht o.type
  unfold Oper.quietAt
  simp [execOp, hop, resolve, invoke, builtin, hm, hl, Result.andThen, Oper.quietUpon]

set_option maxRecDepth 100000 in
theorem takeOut_some {w : World} {S : Nat → Prop} {N pb mb g cap : Nat} {D : DataW Unit} {rs : List Row} {i : Nat} {r : Row} (h : Rows w S N pb mb g cap D rs) (hi : rs[i]? = some r) (hr : r.there = true) (hN : N ≤ 1000000) :
    Calls Try.prog 33 #[.pointer (some ⟨pb, 0, none⟩), .string r.key] w
      fun e w' => e = .returned (.bool true) ∧ ∃ (S' : Nat → Prop) (rs' : List Row), IsRows w' S' N pb rs' ∧ live rs' = delL (live rs) r.key ∧ Turn S w w' ∧ (∀ k, S' k → S k ∨ w.heap.size ≤ k) := by
  have c0 := h.p0
  have c1 := h.p1
  have hpl := h.lt _ h.s1
  have hlen := h.len
  have hs := h.ties.small r (List.mem_of_getElem? hi)
  obtain ⟨hh, hat0⟩ := h.ties.at_ i r hi hr
  obtain ⟨hlt, _⟩ := List.getElem?_eq_some_iff.mp hi
  have HH := Lib.hid h
  have HI := Lib.hid hi
  clear h hi
  go_enter Try.func33, Try.ntmps33
  go_wp2_with (first
    | (at_lookup; refine wpList_lookup_own_ok_int _ rfl _ _ 70 rfl 9 3 .i64 keyed Try.underlying70 Try.underlying3 (zero_int _) mb N D rfl HH.out.map _ _ rfl (key_of hs) ?_; intro c hat hwc; rw [hh]; (have hci : c = (i : Int) := by (rw [hat0] at hat; simp only [pi, DataW.lit.injEq, Lit.int.injEq, true_and] at hat; exact hat.symm)); subst hci; clear hat hwc hat0)
    | (at_delete; refine wpList_delete_own _ rfl _ _ 70 9 rfl 3 keyed Try.underlying70 _ mb N D rfl HH.out.map _ _ rfl (key_of hs) ?_; intro w1 hown1 hturn1; have d1 : w1.cell? ⟨pb, 1, none⟩ = some (.slice (some ⟨g, 0, none⟩) rs.length cap) := (World.cell?_of_block (a := ⟨pb, 1, none⟩) (hturn1.grown.block pb hpl (by simpa using HH.out.ne1))).trans c1; have hrow1 := row_of_block HH.out.row (hturn1.grown.block g (HH.out.lt _ HH.out.s3) (by simpa using fun e => HH.out.ne3 e.symm)); have f0 : w1.cell? ⟨g, i * 5, none⟩ = some (.string r.key) := (hrow1.cellAt (i * 5) (by omega)).trans (flat_get rs i r HI.out 0 (by omega)); have f1 : w1.cell? ⟨g, i * 5 + 1, none⟩ = some (.int .u8 r.cell.kind) := (hrow1.cellAt (i * 5 + 1) (by omega)).trans (flat_get rs i r HI.out 1 (by omega)); have f2 : w1.cell? ⟨g, i * 5 + 2, none⟩ = some (.int .u64 r.cell.n) := (hrow1.cellAt (i * 5 + 2) (by omega)).trans (flat_get rs i r HI.out 2 (by omega)); have f3 : w1.cell? ⟨g, i * 5 + 3, none⟩ = some (.string r.cell.s) := (hrow1.cellAt (i * 5 + 3) (by omega)).trans (flat_get rs i r HI.out 3 (by omega)); have f4 : w1.cell? ⟨g, i * 5 + 4, none⟩ = some (.bool r.there) := (hrow1.cellAt (i * 5 + 4) (by omega)).trans (flat_get rs i r HI.out 4 (by omega)); have q0 := hrow1.frozenAt (i * 5); have q1 := hrow1.frozenAt (i * 5 + 1); have q2 := hrow1.frozenAt (i * 5 + 2); have q3 := hrow1.frozenAt (i * 5 + 3); have q4 := hrow1.frozenAt (i * 5 + 4); have H1 := Lib.hid (⟨hown1, hturn1, hrow1⟩ : _ ∧ _ ∧ _); clear hown1 hturn1 hrow1))
  obtain ⟨hr2, ht2⟩ := out_rows HH.out HI.out hr H1.out.2.1 H1.out.1
  obtain ⟨w2, hw2⟩ : ∃ w2, w2 = store5 w1 g (i * 5) Row.zero := ⟨_, rfl⟩
  rw [← hw2] at hr2 ht2
  unfold store5 at hw2
  simp only [Row.zero, Cell.zero] at hw2
  rw [← hw2]
  have hl2 : live (rs.set i Row.zero) = delL (live rs) r.key := live_out rs i r HH.out.ties.once HI.out hr
  have hz2 : (rs.set i Row.zero).length = rs.length := List.length_set
  have hsz2 : Maps.size (D.del (kl r.key)) ≤ rs.length := by rw [hr2.ties.size]; have := live_length (rs.set i Row.zero); omega
  obtain ⟨rs2, hrs2⟩ : ∃ rs2, rs2 = rs.set i Row.zero := ⟨_, rfl⟩
  rw [← hrs2] at hr2 hl2 hz2
  obtain ⟨D2, hD2⟩ : ∃ D2, D2 = D.del (kl r.key) := ⟨_, rfl⟩
  rw [← hD2] at hr2 hsz2
  clear hw2 d1 f0 f1 f2 f3 f4 q0 q1 q2 q3 q4 c0 c1 hh H1 hrs2 hD2
  have e1 : ∀ x : Later w2, x.w.cell? ⟨pb, 0, none⟩ = some (.map (some mb)) := fun x => x.cell hr2.p0
  have e2 : ∀ x : Later w2, x.w.cell? ⟨pb, 1, none⟩ = some (.slice (some ⟨g, 0, none⟩) rs.length cap) := fun x => x.cell (by rw [← hz2]; exact hr2.p1)
  have e3 : ∀ x, (∃ y : Later w2, x = y.w) → MapIs x mb N D2 := fun x hx => by obtain ⟨y, rfl⟩ := hx; exact (hr2.below y.h).map
  refine wp_region_later (by kernel_rfl) (by kernel_rfl) ?_
  repeat (with_reducible refine wpQuiet_step ?_; intro K hK; first | (refine quiet_len rfl _ 70 rfl 9 3 Try.underlying70 _ mb N D2 rfl e3 ?_; refine hK _ ?_; clear hK K) | (go_simp; refine hK _ ?_; clear hK K))
  refine wpQuiet_nil ?_
  rintro w3 ⟨x, rfl⟩
  have hgone : IntKind.i64.wrap ((rs.length : Int) - (Maps.size D2 : Int)) = ((rs.length - Maps.size D2 : Nat) : Int) := by rw [IntKind.wrap_i64]; omega
  rw [hgone]
  clear hgone
  obtain ⟨gn, hgn⟩ : ∃ gn : Nat, gn = rs.length - Maps.size D2 := ⟨_, rfl⟩
  rw [← hgn]
  clear hgn
  have g1 := e1 x
  have g2 := e2 x
  have hx := hr2.below x.h
  have hl := fun ty : TypeId => hx.map.len Try.underlying70 ty
  have hwx := ht2.trans (Turn.of_below (S := S) x.h) (fun k hk => .inl hk)
  have H2 := Lib.hid (⟨hx, hwx, hl2⟩ : _ ∧ _ ∧ _)
  clear hr2 ht2 hl2 hx hwx
  clear e1 e2 e3
  obtain ⟨w3, hw3⟩ : ∃ w3, w3 = x.w := ⟨_, rfl⟩
  rw [← hw3] at H2 g1 g2 hl ⊢
  clear hw3 x
  by_cases hg1 : 16 < gn
  · have hg1' : 16 < (gn : Int) := by omega
    by_cases hg2 : Maps.size D2 < gn
    · have hg2' : ((Maps.size D2 : Nat) : Int) < (gn : Int) := by omega
      go_wp2_with (first | rw [hl] | (go_at_call 35; refine (packed H2.out.1 hN).mono ?_; rintro e w4 ⟨S4, pb4, rfl, hr4, hb4, hs4⟩; have HR := Lib.hid hr4; clear hr4; obtain ⟨mb4, g4, cap4, D4, hR4⟩ := HR.out; clear HR; have k0 := hR4.p0; have k1 := hR4.p1; have hQ := H2.out.1.below hb4; have j0 := hQ.p0; have j1 := hQ.p1; have j2 := hQ.f0; have j3 := hQ.f1; clear hQ; have HB := Lib.hid (⟨hR4, hb4, hs4⟩ : _ ∧ _ ∧ _); clear hR4 hb4 hs4))
      all_goals go_ret
      all_goals
        have hQ := H2.out.1.below HB.out.2.1
        have hpb := H2.out.1.lt _ H2.out.1.s1
        have l1 := HB.out.2.2 _ HB.out.1.s2
        have l2 := HB.out.2.2 _ HB.out.1.s3
        obtain ⟨r1, t1⟩ := moved HB.out.1 (by omega) j0 j2 j1 j3 H2.out.1.s1 hQ.lt
        refine ⟨rfl, _, _, ⟨_, _, _, _, r1⟩, (live_filter _).trans H2.out.2.2, (H2.out.2.1.trans (Turn.of_below (S := S) HB.out.2.1) (fun k hk => .inl hk)).trans t1 (fun k hk => .inl hk), ?_⟩
        rintro k (hk | hk)
        · exact .inl hk
        · exact .inr (Nat.le_trans H2.out.2.1.size (HB.out.2.2 k hk))
    · have hg2' : ¬ ((Maps.size D2 : Nat) : Int) < (gn : Int) := by omega
      go_wp2_with (rw [hl])
      go_ret
      exact ⟨rfl, S, rs2, ⟨mb, g, cap, D2, H2.out.1⟩, H2.out.2.2, H2.out.2.1, fun k hk => .inl hk⟩
  · have hg1' : ¬ 16 < (gn : Int) := by omega
    go_wp2_with fail
    go_ret
    exact ⟨rfl, S, rs2, ⟨mb, g, cap, D2, H2.out.1⟩, H2.out.2.2, H2.out.2.1, fun k hk => .inl hk⟩
end Go.Proofs.Ytlagnklmfanmoaa.Ar
