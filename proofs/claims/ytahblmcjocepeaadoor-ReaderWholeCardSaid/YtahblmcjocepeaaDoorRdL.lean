/-
  Package reader: ReaderWhole answers true for every text and every byte.
-/
import Derived.Test.YtahblmcjocepeaaDoorRdK
namespace Go.Proofs.YtahblmcjocepeaaDoor.Rd
open Go.RowKit Go.Maps Wo

def AwakeOk (K : Nat) : Prop := ∀ W : World, K ≤ W.heap.size → Calls Tryd.prog 15 #[] W fun e W' => e = .returned (.bool true) ∧ Below W.heap.size W W'
theorem Txts.len {B : Nat} {w : World} {v : Value} {T : List ByteArray} (h : Txts B w v T) : ∃ oa oc, v = .slice oa T.length oc := by
  rcases h.shape with ⟨rfl, rfl⟩ | ⟨g, oc, rfl, _⟩
  · exact ⟨none, 0, rfl⟩
  · exact ⟨_, _, rfl⟩
theorem startA (B : Nat) (s : ByteArray) : (⟨B, 1, dash, s, noText, false, Std s⟩ : Cst) = cA B s 0 noText false := by
  have e2 : (fun (k : Nat) (st : St) => Std s (0 + k) st) = Std s := by
    funext k st
    rw [Nat.zero_add]
  show _ = Cst.mk B 1 dash (s.extract 0 s.size) noText false (fun k st => Std s (0 + k) st)
  rw [e2, ByteArray.extract_zero_size]
theorem noByte {b : UInt8} {X : List UInt8} {q : Nat} (hq : q = idx b X 0) (hl : q ≤ X.length) : decide (0 ≤ Lib.indexByte (X.take q) b) = false := by
  apply decide_eq_false
  intro h
  obtain ⟨o, ho⟩ : ∃ o : Nat, Lib.indexByte (X.take q) b = o := ⟨(Lib.indexByte (X.take q) b).toNat, by omega⟩
  have := piece_some (a := 0) (p := q) hl (o := o) (by rw [List.drop_zero, Nat.sub_zero]; exact ho)
  omega
theorem toList_inj {x y : ByteArray} (h : x.toList = y.toList) : x = y := by
  rw [Lib.toList_data, Lib.toList_data] at h
  exact ByteArray.ext (Array.toList_inj.1 h)
theorem nil_list : (⟨#[]⟩ : ByteArray).toList = [] := by rw [Lib.toList_data]
set_option maxHeartbeats 2000000 in
set_option maxRecDepth 100000 in
theorem whole {K : Nat} {w : World} (haw : AwakeOk K) (hK : K ≤ w.heap.size) (s : ByteArray) (b : UInt8) :
    Calls Tryd.prog 6 #[.string s, .int .u8 b.toNat] w fun e w' => e = .returned (.bool true) ∧ Below w.heap.size w w' := by
  by_cases hz : s.size ≤ 4000
  case neg =>
    have h1 : (4000 : Int) < (s.size : Int) := by omega
    go_enter Tryd.func6, Tryd.ntmps6
    go_wp2_with (go_at_call 15; refine (haw _ hK).mono ?_; rintro e w1 ⟨rfl, hb1⟩; have H1 := Lib.hid hb1; clear hb1)
    go_ret
    exact ⟨rfl, H1.out⟩
  have h1 : ¬ (4000 : Int) < (s.size : Int) := by omega
  have hconv := conv_one b (w.alloc (.cells #[.int .u8 b.toNat] 5)) w.heap.size (by rw [World.cell?_alloc_at _ _ _ _ rfl]; rfl)
  obtain ⟨i0, z0, hi, hzz, hsz, hby, hzs⟩ := string_info
  have HI := Lib.hid (⟨hi, hzz, hsz, hby, hzs⟩ : _ ∧ _ ∧ _ ∧ _ ∧ _)
  clear hi hzz hsz hby hzs
  obtain ⟨rs, hrs⟩ : ∃ rs : ByteArray, rs = ⟨#[b]⟩ := ⟨_, rfl⟩
  have HRS := Lib.hid hrs
  rw [← hrs] at hconv
  clear hrs
  go_enter Tryd.func6, Tryd.ntmps6
  go_upto_region 6 with (first
    | rw [hconv]
    | (go_at_call 24; refine (ofS s).mono ?_; rintro e w3 ⟨B, rb, rfl, h3⟩; rw [startA] at h3; have H3 := Lib.hid h3; clear h3))
  have hbA : Below w.heap.size w (w.alloc (.cells #[.int .u8 b.toNat] 5)) := (Below.refl _ w).alloc (Nat.le_refl _) _
  have HA := Lib.hid hbA
  clear hbA hconv
  go_loopg [8] s.size (fun k l wr => ∃ a L e0 left p over, s.size - a = k ∧ a ≤ s.size ∧ RdS (w.alloc (.cells #[.int .u8 b.toNat] 5)) wr (cA B s a left e0) rb p over (bufL l.ownBlock) ∧ Txts 0 wr l L ∧ L.length ≤ a ∧ Said s b a L)
  case atStart => exact ⟨0, [], false, noText, 0, false, by omega, Nat.zero_le _, H3.out, World.ownsRow_nil _ _ _ _, Nat.le_refl _, .inl ⟨rfl, rfl⟩⟩
  case round =>
    obtain ⟨a, L, e0, left, p, over, hk, ha, hR, hT, hL, hSd⟩ := hrel
    obtain ⟨oa, oc, rfl⟩ := hT.len
    generalize hw0 : w.alloc (.cells #[.int .u8 b.toNat] 5) = w0 at *
    have hsrc := srcA B s (by omega) a ha left e0
    have hsz : (cA B s a left e0).tot.size = s.size - a := by show (s.extract a s.size).size = _; rw [ByteArray.size_extract]; omega
    have hq : byteF (cA B s a left e0).tot (b.toNat : Int) 0 = idx b (s.data.toList.drop a) 0 := by
      show idx ((b.toNat : Int).toNat.toUInt8) (s.extract a s.size).data.toList 0 = _
      have e1 : (b.toNat : Int).toNat.toUInt8 = b := by simp
      rw [e1, ext_list, List.take_of_length_le (by rw [List.length_drop, len_list]; omega)]
    have hl4 : ¬ (4000 : Int) < (L.length : Int) := by omega
    have hN := nextN hsrc (by rw [hsz]; omega) hR b
    rw [← HRS.out, hq] at hN
    obtain ⟨q, hq2⟩ : ∃ q, q = idx b (s.data.toList.drop a) 0 := ⟨_, rfl⟩
    rw [← hq2] at hN
    obtain ⟨tx, htx⟩ : ∃ tx : ByteArray, tx = (s.extract a s.size).extract 0 q := ⟨_, rfl⟩
    have HN := Lib.hid hN
    have HH := Lib.hid (⟨hR, hT, hSd, hq2, htx, hsz⟩ : _ ∧ _ ∧ _ ∧ _ ∧ _ ∧ _)
    clear hN hR hT hSd hq2 hq htx hsz hsrc
    go_upto_region 7 with (go_at_call 12; refine HN.out.mono ?_; rintro e w4 ⟨p', ov', a1, a2, a3, rfl, a5, a6⟩; rw [show (cA B s a left e0).tot.extract 0 q = tx from HH.out.2.2.2.2.1.symm]; have H4 := Lib.hid (⟨a1, a2, a3, a5, a6⟩ : _ ∧ _ ∧ _ ∧ _ ∧ _); clear a1 a2 a3 a5 a6; cases hz0 : decide (p' = 0))
    · have hp0 : p' ≠ 0 := of_decide_eq_false hz0
      obtain ⟨a1, a2, a3, a5, a6⟩ := H4.out
      rw [HH.out.2.2.2.2.2] at a2 a3
      have hqx : q ≤ (s.data.toList.drop a).length := by
        rw [HH.out.2.2.2.1]; exact idx_le (Nat.zero_le _)
      have hxl : (s.data.toList.drop a).length = s.size - a := by rw [List.length_drop, len_list]
      have hmin : a + min (q + 1) p' ≤ s.size := by
        rcases a3 with e | e <;> omega
      rw [nextA B s a left e0 _ _ p' hmin] at a5
      have hT4 : Txts 0 w4 (.slice oa L.length oc) L := row_of_block HH.out.2.1 fun k hk2 => a6 k (by rw [hk2]; simp [bufL])
      have hc := Tryd.strings_Contains_one tx b w4
      have htl : tx.data.toList = (s.data.toList.drop a).take q := by
        rw [HH.out.2.2.2.2.1, ext_list, ext_list, List.drop_zero, Nat.sub_zero, List.take_of_length_le (l := s.data.toList.drop a) (by omega)]
      rw [htl, noByte HH.out.2.2.2.1 hqx, ← HRS.out] at hc
      have hend := ended a5
      have hsd := Said.step HH.out.2.2.1 ha HH.out.2.2.2.1 hp0 a2 (by rcases a3 with e | e <;> omega)
      rw [← HH.out.2.2.2.2.1] at hsd
      have hgt : a < a + min (q + 1) p' := by omega
      have hH := Lib.hid (⟨a5, hT4, hsd, hc, hend⟩ : _ ∧ _ ∧ _ ∧ _ ∧ _)
      clear a5 a6 hT4 hsd hc hend htl a1 a2 a3
      go_wp2_with (first
        | (go_at_call 25; refine hH.out.2.2.2.1.mono ?_; rintro e w5 ⟨rfl, hw⟩; obtain rfl := hw.symm; clear hw)
        | (go_at_call 14; refine hH.out.2.2.2.2.mono ?_; rintro e w6 ⟨rfl, hw⟩; obtain rfl := hw.symm; clear hw; rw [show (cA B s (a + min (q + 1) p') ((s.extract a s.size).extract (min (q + 1) p') p') (id (decide (p' = 0)))).e0 = false from hz0])
        | (at_builtin; refine wpList_append_lies _ rfl (.tmp 56) (.tmp 58) 79 rfl 0 9 i0 z0 1 16 Tryd.underlying79 HI.out.1 HI.out.2.1 HI.out.2.2.1 HI.out.2.2.2.1 HI.out.2.2.2.2 (by decide) (.slice oa L.length oc) L.length (texts L) rfl (hH.out.2.1.alloc _) ⟨w4.heap.size, 0, none⟩ 1 1 [.string tx] rfl rfl (World.news_of_block (heap_alloc_new w4 _)) (texts_one [tx]) (by decide) (by unfold maxLen; omega) (by omega) (Nat.zero_le _) _ rfl ?_; intro g2 cap2 w7 hown hgrow hat hlt4; have H7 := Lib.hid (⟨Txts.snoc hown, hgrow, hat, hlt4⟩ : _ ∧ _ ∧ _ ∧ _); clear hown hgrow hat hlt4))
      go_roundg (s.size - (a + min (q + 1) p'))
      case measure => omega
      case rel =>
        obtain ⟨b1, b2, b3, b4⟩ := H7.out
        have hlt8 : ∀ k, (Value.slice oa L.length oc).ownBlock = some k → k < w4.heap.size := fun k hk2 => hH.out.2.1.lt k hk2 |>.2
        refine ⟨a + min (q + 1) p', L ++ [tx], _, _, _, ov', rfl, hmin, hH.out.1.swap (w2 := w7) (Turn.trans (Turn.of_below ((Below.refl _ w4).alloc (Nat.le_refl _) _)) (Turn.of_grown b2) fun i hi => .inl ?_) fun k hk2 => ?_, ?_, ?_, hH.out.2.2.1⟩
        · rw [← hi]; simp [bufL]
        · simp only [Value.ownBlock, bufL, List.mem_cons, List.not_mem_nil, or_false] at hk2
          subst hk2
          rcases b3 with e | e
          · exact .inr (by rw [e]; simp [bufL])
          · exact .inl ⟨by rw [e, alloc_size]; omega, b4⟩
        · exact b1
        · rw [List.length_append]
          have : ([tx] : List ByteArray).length = 1 := rfl
          omega
    · have hp0 : p' = 0 := of_decide_eq_true hz0
      obtain ⟨a1, a2, a3, a5, a6⟩ := H4.out
      rw [HH.out.2.2.2.2.2] at a2 a3
      subst hp0
      have hq0 : q = 0 := by rcases a3 with e | e <;> omega
      have has : a = s.size := by rcases a3 with e | e <;> omega
      rw [nextA B s a left e0 _ _ 0 (by omega)] at a5
      have hT4 : Txts 0 w4 (.slice oa L.length oc) L := row_of_block HH.out.2.1 fun k hk2 => a6 k (by rw [hk2]; simp [bufL])
      have htx0 : tx = ⟨#[]⟩ := by
        rw [HH.out.2.2.2.2.1, hq0]
        refine ByteArray.ext (Array.eq_empty_of_size_eq_zero ?_)
        show ((s.extract a s.size).extract 0 0).size = 0
        rw [ByteArray.size_extract]; omega
      have hSd := HH.out.2.2.1
      rw [has] at hSd
      have hjl := hSd.len
      have hJ := joinT b hT4 (by omega) (by omega)
      have hW := hSd.whole
      obtain ⟨wh, hwh⟩ : ∃ wh : ByteArray, wh = ⟨(joinL L b).toArray⟩ := ⟨_, rfl⟩
      have hws : wh.size ≤ s.size := by rw [hwh]; show (List.toArray _).size ≤ _; rw [List.size_toArray]; exact hjl
      rw [← hwh] at hJ hW
      rw [← HRS.out] at hJ hW
      have hE : ∀ w5, Below w4.heap.size w4 w5 → Calls Tryd.prog 14 #[ptr rb] w5 fun e w' => e = .returned (.bool true) ∧ w' = w5 := fun w5 hb5 => by
        have := ended (a5.below hb5).1
        exact this
      have hb4 : Below w.heap.size w w4 := by
        obtain ⟨st, r1, _⟩ := a5.rp
        have h0 := HA.out
        exact h0.trans (r1.b.mono h0.size)
      have hsuf := Tryd.strings_HasSuffix s rs
      have HJ := Lib.hid (⟨hJ, hE, hb4, hsuf⟩ : _ ∧ _ ∧ _ ∧ _)
      clear a5 a6 hT4 hJ hE hb4 hsuf hSd hjl hwh a1 a2 a3
      subst htx0
      go_upto_region 14 with (go_at_call 26; refine HJ.out.1.mono ?_; rintro e w5 ⟨rfl, hb5⟩; have H5 := Lib.hid hb5; clear hb5)
      have hE5 := HJ.out.2.1 _ H5.out
      have hA5 := haw w5 (Nat.le_trans hK (Nat.le_trans HJ.out.2.2.1.size H5.out.size))
      have hS5 := HJ.out.2.2.2 w5 (by omega)
      have HB := Lib.hid (⟨hE5, hA5, HJ.out.2.2.1.trans (H5.out.mono HJ.out.2.2.1.size), hS5⟩ : _ ∧ _ ∧ _ ∧ _)
      clear hE5 hA5 hS5
      rcases hW with ⟨hs, hs2⟩ | ⟨hn, hcat, hne⟩
      · rw [hs]
        rcases hs2 with hs2 | ⟨hn, hsf⟩
        · have t2 : s.toList = [] := by rw [hs2]; exact nil_list
          have t3 : s.toList.isEmpty = true := by rw [t2]; rfl
          go_wp2_with (first
            | (go_at_call 14; refine HB.out.1.mono ?_; rintro e w6 ⟨rfl, hw⟩; obtain rfl := hw.symm; clear hw)
            | (go_at_call 15; refine HB.out.2.1.mono ?_; rintro e w7 ⟨rfl, hb7⟩; have H7 := Lib.hid hb7; clear hb7))
          go_ret
          exact ⟨rfl, HB.out.2.2.1.trans (H7.out.mono HB.out.2.2.1.size)⟩
        · have t2 : ¬ s.toList = [] := fun e => hn (toList_inj (e.trans nil_list.symm))
          have t3 : s.toList.isEmpty = false := by cases hx : s.toList with | nil => exact absurd hx t2 | cons _ _ => rfl
          go_wp2_with (first
            | (go_at_call 27; refine HB.out.2.2.2.mono ?_; rintro e w6 ⟨rfl, hw⟩; obtain rfl := hw.symm; clear hw; rw [show Lib.hasSuffix s.data.toList rs.data.toList = false from by rw [HRS.out]; exact hsf])
            | (go_at_call 14; refine HB.out.1.mono ?_; rintro e w6 ⟨rfl, hw⟩; obtain rfl := hw.symm; clear hw)
            | (go_at_call 15; refine HB.out.2.1.mono ?_; rintro e w7 ⟨rfl, hb7⟩; have H7 := Lib.hid hb7; clear hb7))
          go_ret
          exact ⟨rfl, HB.out.2.2.1.trans (H7.out.mono HB.out.2.2.1.size)⟩
      · have t1 : ¬ wh.toList = s.toList := fun e => hn (toList_inj e)
        have t2 : ¬ s.toList = [] := fun e => hne (toList_inj (e.trans nil_list.symm))
        have t3 : s.toList.isEmpty = false := by cases hx : s.toList with | nil => exact absurd hx t2 | cons _ _ => rfl
        have t4 : (wh ++ rs).toList = s.toList := by rw [hcat]
        have hrz : rs.size = 1 := by rw [HRS.out]; rfl
        have t5 : ¬ 9223372036854775807 < wh.size + rs.size := by omega
        have t6 : (wh.size : Int) + (rs.size : Int) ≤ 9223372036854775807 := by omega
        go_wp2_with (first
          | (go_at_call 14; refine HB.out.1.mono ?_; rintro e w6 ⟨rfl, hw⟩; obtain rfl := hw.symm; clear hw)
          | (go_at_call 15; refine HB.out.2.1.mono ?_; rintro e w7 ⟨rfl, hb7⟩; have H7 := Lib.hid hb7; clear hb7))
        go_ret
        exact ⟨rfl, HB.out.2.2.1.trans (H7.out.mono HB.out.2.2.1.size)⟩
end Go.Proofs.YtahblmcjocepeaaDoor.Rd
