/-
  ArraysOrder, walked.
-/
import Derived.Test.YtlagnklmfanmoaaArO
import Derived.Test.YtlagnklmfanmoaaArEq
import Derived.Deep.CutRange
namespace Go.Proofs.Ytlagnklmfanmoaa.Ar
open Go.RowKit Go.Maps

/- A slice that reads as these numbers. -/
structure Nums (w : World) (v : Value) (X : List Int) : Prop where
  shape : ∃ oa cap, v = .slice oa X.length cap ∧ ∀ (i : Nat) (x : Int), X[i]? = some x → ∃ ad, oa = some ad ∧ w.cell? (ad.add i) = some (.int .i64 x)

theorem keys_del (L : List KV) (s : ByteArray) : keysL (delL L s) = (keysL L).filter fun t => !decide (t = s) := by
  unfold keysL delL
  rw [List.filter_map]
  rfl
theorem keys_set (L : List KV) (s : ByteArray) (c : Cell) : keysL (setL L s c) = if hasL L s then keysL L else keysL L ++ [s] := by
  unfold setL keysL
  cases h : hasL L s
  · simp
  · rw [if_pos rfl, if_pos rfl, List.map_map]
    apply List.map_congr_left
    intro p _
    simp only [Function.comp]
    split
    · rename_i e; exact e.symm
    · rfl
theorem get_map (s : ByteArray) (c : Cell) : ∀ L : List KV, hasL L s = true → getL (L.map fun p => if p.1 = s then (s, c) else p) s = some c
  | [], h => by simp [hasL] at h
  | x :: l, h => by
    by_cases e : x.1 = s
    · simp [getL, e]
    · have h2 : hasL l s = true := by simpa [hasL, e] using h
      have ih := get_map s c l h2
      simp only [getL, List.map_cons, if_neg e, List.find?_cons, decide_eq_false e] at ih ⊢
      exact ih
theorem cell_set (L : List KV) (s : ByteArray) (c : Cell) : cellL (setL L s c) s = c := by
  unfold setL
  cases h : hasL L s
  · have hn : L.find? (fun p => decide (p.1 = s)) = none := List.find?_eq_none.2 fun p hp => by
      have := (List.any_eq_false.1 h) p hp
      simpa using this
    simp [cellL, getL, List.find?_append, hn]
  · rw [if_pos rfl, cellL, get_map s c L h]
    rfl
def abc : ByteArray := ⟨#[97, 98, 99, 100, 101, 102, 103, 104, 105, 106, 107, 108]⟩

set_option maxHeartbeats 6400000 in
set_option maxRecDepth 100000 in
theorem order {K : Nat} (hAw : Awake K) (v : Value) (X : List Int) (w : World) (hK : K ≤ w.heap.size) (hX : Nums w v X) :
    Calls Try.prog 6 #[v] w fun e w' => e = .returned (.bool true) ∧ Below w.heap.size w w' := by
  have HAw := Lib.hid hAw
  obtain ⟨oa, ca, rfl, g1⟩ := hX.shape
  have HG := Lib.hid g1
  clear hAw hX g1
  go_enter Try.func6, Try.ntmps6
  go_wp2_with (go_at_call 8; refine (Mine.new w w (Below.refl _ _)).mono ?_; rintro e w1 ⟨a, rfl, hM⟩; have HM := Lib.hid hM; clear hM)
  go_loopg [4, 5] X.length (fun k l i wr => ∃ j L, X.length - j = k ∧ j ≤ X.length ∧ j ≤ 120 ∧ i = .int .i64 (j : Int) ∧ Work w wr a j L [(l, keysL L)])
  case atStart => exact ⟨0, [], rfl, Nat.zero_le _, Nat.zero_le _, rfl, (Work.start HM.out).pushNil⟩
  case round =>
    obtain ⟨j, L, hk, hj, hj120, rfl, hW⟩ := hrel
    have hLj := hW.length
    obtain ⟨ol, cl, rfl, hol, gl⟩ := hW.head.strs.shape
    have hkl : (keysL L).length = L.length := List.length_map _
    rw [hkl] at hW
    have HW := Lib.hid hW
    have HL := Lib.hid (⟨hol, gl⟩ : _ ∧ _)
    clear hW hol gl HM
    by_cases hend : j < X.length ∧ j < 120
    · have hlt1 : (j : Int) < (X.length : Int) := by omega
      have hlt2 : (j : Int) < 120 := by omega
      obtain ⟨x, hx⟩ : ∃ x, X[j]? = some x := ⟨_, List.getElem?_eq_getElem hend.1⟩
      obtain ⟨aa, rfl, d1⟩ := HG.out j x hx
      have d2 := (HW.out.b.cell (p := aa.add j) (cell_lt d1)).trans d1
      clear d1 hx
      obtain ⟨c, hc⟩ : ∃ c : Nat, (c : Int) = pickI x 1000003 := ⟨(pickI x 1000003).toNat, by have := (pickI_lt (x := x) (n := 1000003) (by omega)).1; omega⟩
      have hc2 : (c : Int) < 1000003 := by rw [hc]; exact (pickI_lt (by omega)).2
      have HC := Lib.hid hc
      clear hc
      have t1 : (c : Int).tmod 12 = (c : Int) % 12 := Int.tmod_eq_emod_of_nonneg (by omega)
      have t2 : (c : Int).tdiv 12 = (c : Int) / 12 := Int.tdiv_eq_ediv_of_nonneg (by omega)
      have t3 : ((c : Int) / 12).tmod 3 = (c : Int) / 12 % 3 := Int.tmod_eq_emod_of_nonneg (by omega)
      have hm12 : c % 12 < 12 := Nat.mod_lt _ (by omega)
      rw [hkl]
      go_upto_region 8 with (go_at_call 26; refine (Pick x 1000003 _ (by omega) (by omega)).mono ?_; rintro e w5 ⟨rfl, hw5⟩; obtain rfl := hw5.symm; clear hw5; rw [← HC.out])
      obtain ⟨x7, hx7⟩ : ∃ x7, x7 = abc.extract (c % 12) (c % 12 + 1) := ⟨_, rfl⟩
      unfold abc at hx7
      have hz7 : x7.size ≤ 1 := by rw [hx7, ByteArray.size_extract]; omega
      rw [← hx7]
      clear hx7
      go_upto_region 9 with (go_at_call 12; obtain ⟨F0, hA0⟩ := HW.out.arr; refine (keys hA0 (by omega)).mono ?_; clear hA0; rintro e w5 ⟨u, rfl, hT5, hb5⟩; have H5 := Lib.hid (HW.out.push hb5 hT5); clear hT5 hb5)
      obtain ⟨bh, hbh⟩ : ∃ bh, bh = hasL L x7 := ⟨_, rfl⟩
      have HBH := Lib.hid hbh
      clear hbh
      go_upto_region 10 with (go_at_call 13; obtain ⟨F0, hA0⟩ := H5.out.arr; refine (peek x7 hA0 (by omega)).mono ?_; clear hA0; rintro e w6 ⟨rfl, hb6⟩; rw [← HBH.out]; generalize cellL L x7 = C6; obtain ⟨ck, cn, cs⟩ := C6; simp only [Cell.cells]; have H6 := Lib.hid ((H5.out.below hb6).below ((Below.refl _ w6).alloc (Nat.le_refl _) (.cells #[.int .u8 ck, .int .u64 cn, .string cs] 31))); clear hb6)
      generalize w6.alloc (.cells #[.int .u8 ck, .int .u64 cn, .string cs] 31) = w7 at *
      go_upto_if 49 with fail
      go_cut [4, 11, 12, 13, 14] from 17 to 127 (fun s4 s11 s12 s13 s14 wx => ∃ L2, Work w wx a (j + 1) L2 [(s4, keysL L2), (u, keysL L)])
      case first =>
        clear t1 t2 t3
        cases hd : ((c : Int) / 12 % 3 == 0)
        rotate_left
        · cases hh : hasL L x7
          all_goals
            go_upto_region 14 with (go_at_call 11; refine (H6.out.lift fun F hA => delete x7 hA (by omega) (by omega)).mono ?_; rintro e w8 ⟨rfl, hW8⟩; rw [← HBH.out]; have H8 := Lib.hid hW8.pushNil; clear hW8)
            go_wp2_with fail
            go_loopg [11, 12] L.length (fun k l i wq => ∃ m, L.length - m = k ∧ m ≤ L.length ∧ i = .int .i64 (m : Int) ∧ Work w wq a j (delL L x7) [(l, ((keysL L).take m).filter fun t => !decide (t = x7)), (u, keysL L), (.slice ol L.length cl, keysL L)])
            case atStart => exact ⟨0, rfl, Nat.zero_le _, rfl, H8.out⟩
            case round =>
              obtain ⟨m, hkm, hm, rfl, hQ⟩ := hrel
              have hshape := hQ.head.shape
              have HQ := Lib.hid hQ
              by_cases hlm : m < L.length
              · have hlm' : (m : Int) < (L.length : Int) := by omega
                obtain ⟨y, hy⟩ : ∃ y, (keysL L)[m]? = some y := ⟨_, List.getElem?_eq_getElem (by rw [hkl]; exact hlm)⟩
                obtain ⟨ay, rfl, e1⟩ := (hQ.each (.slice ol L.length cl, keysL L) (by simp)).at hy
                have hft := filter_take (p := fun t => !decide (t = x7)) hy
                have HY := Lib.hid hft
                clear hQ hft hy
                obtain ⟨ov, cv, rfl⟩ := hshape
                have hV : (((keysL L).take m).filter (fun t => !decide (t = x7))).length ≤ 1000000 := by
                  have h1 := List.length_filter_le (fun t => !decide (t = x7)) ((keysL L).take m)
                  rw [List.length_take] at h1
                  omega
                generalize ((keysL L).take m).filter (fun t => !decide (t = x7)) = V at *
                by_cases hyx : y = x7
                · subst hyx
                  have hft := HY.out
                  rw [if_neg (by simp), List.append_nil] at hft
                  have HF := Lib.hid hft
                  clear hft
                  go_wp2_with fail
                  go_roundg (L.length - (m + 1))
                  case measure => omega
                  case rel => exact ⟨m + 1, rfl, hlm, by go_num, by rw [HF.out]; exact HQ.out⟩
                · have hbn : (y.toList == x7.toList) = false := toList_ne hyx
                  have hft := HY.out
                  rw [if_pos (by simp [hyx])] at hft
                  have HF := Lib.hid hft
                  obtain ⟨i0, z0, hi, hz2, hsz, hby, hzs⟩ := string_info
                  have HI := Lib.hid (⟨hi, hz2, hsz, hby, hzs⟩ : _ ∧ _ ∧ _ ∧ _ ∧ _)
                  clear hft hi hz2 hsz hby hzs
                  go_upto_region 18 with fail
                  go_wp2_with (at_builtin; refine wpList_append_lies _ rfl (.tmp 67) (.tmp 72) 34 rfl w.heap.size 9 i0 z0 1 16 Try.underlying34 HI.out.1 HI.out.2.1 HI.out.2.2.1 HI.out.2.2.2.1 HI.out.2.2.2.2 (by decide) (.slice ov V.length cv) V.length (texts V) rfl (HQ.out.head.alloc _) ⟨wr.heap.size, 0, none⟩ 1 1 [.string y] rfl rfl (World.news_of_block (heap_alloc_new wr _)) (texts_one [y]) (by decide) (by unfold maxLen; omega) (by omega) (Nat.le_trans HQ.out.b.size (two_size (Nat.le_refl _))) _ rfl ?_; intro g2 cap2 w4 hown hgrow hat hlt4; have HO := Lib.hid ((HQ.out.below ((Below.refl _ wr).alloc (Nat.le_refl _) _)).grow hgrow (Txts.snoc hown) (grow_own hat)); clear hown hgrow hat hlt4)
                  go_roundg (L.length - (m + 1))
                  case measure => omega
                  case rel => exact ⟨m + 1, rfl, hlm, by go_num, by rw [HF.out]; exact HO.out⟩
              · obtain rfl : m = L.length := by omega
                have hend2 : ¬ (L.length : Int) < (L.length : Int) := by omega
                rw [List.take_of_length_le (by rw [hkl]; exact Nat.le_refl _), ← keys_del] at hQ HQ
                have HQ2 := Lib.hid ((HQ.out.sublist (List.Sublist.cons_cons _ (List.Sublist.cons_cons _ (List.nil_sublist _)))).mono (Nat.le_succ j))
                clear hQ HQ hshape
                go_wp2_with fail
                go_meet
                exact ⟨_, HQ2.out⟩
        · cases bh
          · go_upto_region 23 with (first
              | (go_at_call 9; have Q8 := H7.out; refine (Q8.lift fun F hA => setN x7 (numC j) hA (by omega) (by omega)).mono ?_; rintro e w9 ⟨rfl, hW9⟩; have H9 := Lib.hid hW9; clear hW9 Q8)
              | (go_at_call 10; refine (num j _ (by omega)).mono ?_; rintro e w8 ⟨rfl, hb8⟩; have H7 := Lib.hid (H6.out.below hb8); clear hb8))
            have hks := keys_set L x7 (numC j)
            rw [← HBH.out, if_neg (by decide)] at hks
            have HKS := Lib.hid hks
            clear hks
            obtain ⟨i0, z0, hi, hz2, hsz, hby, hzs⟩ := string_info
            have HI := Lib.hid (⟨hi, hz2, hsz, hby, hzs⟩ : _ ∧ _ ∧ _ ∧ _ ∧ _)
            clear hi hz2 hsz hby hzs
            have hkb : (keysL L).length ≤ 1000 := by rw [hkl]; omega
            clear hkl
            go_upto_region 24 with (first
              | (at_builtin; refine wpList_append_lies _ rfl (.tmp 84) (.tmp 86) 34 rfl w.heap.size 9 i0 z0 1 16 Try.underlying34 HI.out.1 HI.out.2.1 HI.out.2.2.1 HI.out.2.2.2.1 HI.out.2.2.2.2 (by decide) (.slice oy (keysL L).length cy) (keysL L).length (texts (keysL L)) rfl (HB.out.head.alloc _) ⟨wB.heap.size, 0, none⟩ 1 1 [.string x7] rfl rfl (World.news_of_block (heap_alloc_new wB _)) (texts_one [x7]) (by decide) (by unfold maxLen; omega) (by omega) (Nat.le_trans HB.out.b.size (two_size (Nat.le_refl _))) _ rfl ?_; intro g2 cap2 w4 hown hgrow hat hlt4; have HO := Lib.hid ((HB.out.below ((Below.refl _ wB).alloc (Nat.le_refl _) _)).grow hgrow (Txts.snoc hown) (grow_own hat)); clear hown hgrow hat hlt4)
              | (go_at_call 27; (have Q9 : Strs w9 (.slice ol L.length cl) (keysL L) := (H9.out.each (.slice ol L.length cl, keysL L) (by simp)).strs); refine (copyTexts Q9 (by omega)).mono ?_; clear Q9; rintro e wB ⟨v9, rfl, hT9, hb9⟩; obtain ⟨oy, cy, rfl, _⟩ := hT9.strs.shape; have HB := Lib.hid (H9.out.push hb9 hT9); clear hT9 hb9))
            have HZ := Lib.hid (show Work w w4 a (j + 1) (setL L x7 (numC j)) [(.slice (some ⟨g2, 0, none⟩) ((keysL L).length + 1) cap2, keysL (setL L x7 (numC j))), (u, keysL L)] by rw [HKS.out]; exact HO.out.sublist (List.Sublist.cons_cons _ (List.Sublist.cons_cons _ (List.nil_sublist _))))
            clear HO
            go_upto_region 25 with (go_at_call 13; obtain ⟨F0, hA0⟩ := HZ.out.arr; refine (peek x7 hA0 (by omega)).mono ?_; clear hA0; rintro e wA ⟨rfl, hbA⟩; rw [cell_set, has_set]; simp only [numC, Cell.cells]; have HA := Lib.hid (HZ.out.below hbA); clear hbA)
            have hn1 := alloc_new wA (.cells #[.int .u8 1, .int .u64 (j : Int), .string ⟨#[]⟩] 31)
            have hbz := (Below.refl _ wA).alloc (Nat.le_refl _) (.cells #[.int .u8 1, .int .u64 (j : Int), .string ⟨#[]⟩] 31)
            generalize wA.alloc (.cells #[.int .u8 1, .int .u64 (j : Int), .string ⟨#[]⟩] 31) = wC at *
            have HC2 := Lib.hid (HA.out.below hbz)
            have O1 := own3 (c := numC j) hn1
            have e0 : ∀ q : Later wC, q.w.cell? ⟨wA.heap.size, 0, none⟩ = some (.int .u8 1) := fun q => q.cell O1.z0
            have e1 : ∀ q : Later wC, q.w.cell? ⟨wA.heap.size, 1, none⟩ = some (.int .u64 (j : Int)) := fun q => q.cell O1.z1
            have e2 : ∀ q : Later wC, q.w.cell? ⟨wA.heap.size, 2, none⟩ = some (.string ⟨#[]⟩) := fun q => q.cell O1.z2
            clear O1 hbz hn1
            have hne := cell_neq 1 (j : Int) ⟨#[]⟩
            refine wp_region_later (by kernel_rfl) (by kernel_rfl) ?_
            repeat (with_reducible refine wpQuiet_step ?_; intro K hK; go_simp; first | (refine hK _ ?_; clear hK K) | (apply Exists.intro; refine ⟨fun q => ?_, hK _ ?_⟩; (go_at_call 10; exact later_call (num j _ (by omega))); simp only [numC, Cell.cells]; clear hK K))
            refine wpQuiet_nil ?_
            rintro wQ ⟨q, rfl⟩
            go_wp2_with fail
            go_meet
            exact ⟨_, HC2.out.below q.h⟩
          · go_upto_region 24 with (first
              | (go_at_call 9; have Q8 := H7.out; refine (Q8.lift fun F hA => setN x7 (numC j) hA (by omega) (by omega)).mono ?_; rintro e w9 ⟨rfl, hW9⟩; have H9 := Lib.hid hW9; clear hW9 Q8)
              | (go_at_call 10; refine (num j _ (by omega)).mono ?_; rintro e w8 ⟨rfl, hb8⟩; have H7 := Lib.hid (H6.out.below hb8); clear hb8))
            have hks := keys_set L x7 (numC j)
            rw [← HBH.out, if_pos rfl] at hks
            have HZ := Lib.hid (show Work w w9 a (j + 1) (setL L x7 (numC j)) [(.slice ol L.length cl, keysL (setL L x7 (numC j))), (u, keysL L)] by rw [hks]; exact H9.out.swap)
            clear hks
            go_upto_region 25 with (go_at_call 13; obtain ⟨F0, hA0⟩ := HZ.out.arr; refine (peek x7 hA0 (by omega)).mono ?_; clear hA0; rintro e wA ⟨rfl, hbA⟩; rw [cell_set, has_set]; simp only [numC, Cell.cells]; have HA := Lib.hid (HZ.out.below hbA); clear hbA)
            have hn1 := alloc_new wA (.cells #[.int .u8 1, .int .u64 (j : Int), .string ⟨#[]⟩] 31)
            have hbz := (Below.refl _ wA).alloc (Nat.le_refl _) (.cells #[.int .u8 1, .int .u64 (j : Int), .string ⟨#[]⟩] 31)
            generalize wA.alloc (.cells #[.int .u8 1, .int .u64 (j : Int), .string ⟨#[]⟩] 31) = wC at *
            have HC2 := Lib.hid (HA.out.below hbz)
            have O1 := own3 (c := numC j) hn1
            have e0 : ∀ q : Later wC, q.w.cell? ⟨wA.heap.size, 0, none⟩ = some (.int .u8 1) := fun q => q.cell O1.z0
            have e1 : ∀ q : Later wC, q.w.cell? ⟨wA.heap.size, 1, none⟩ = some (.int .u64 (j : Int)) := fun q => q.cell O1.z1
            have e2 : ∀ q : Later wC, q.w.cell? ⟨wA.heap.size, 2, none⟩ = some (.string ⟨#[]⟩) := fun q => q.cell O1.z2
            clear O1 hbz hn1
            have hne := cell_neq 1 (j : Int) ⟨#[]⟩
            refine wp_region_later (by kernel_rfl) (by kernel_rfl) ?_
            repeat (with_reducible refine wpQuiet_step ?_; intro K hK; go_simp; first | (refine hK _ ?_; clear hK K) | (apply Exists.intro; refine ⟨fun q => ?_, hK _ ?_⟩; (go_at_call 10; exact later_call (num j _ (by omega))); simp only [numC, Cell.cells]; clear hK K))
            refine wpQuiet_nil ?_
            rintro wQ ⟨q, rfl⟩
            go_wp2_with fail
            go_meet
            exact ⟨_, HC2.out.below q.h⟩
      case rest =>
        obtain ⟨L2, hR⟩ := hcut
        have hLj2 := hR.length
        obtain ⟨o4, c4, rfl, _, _⟩ := hR.head.strs.shape
        obtain ⟨ou, cu, rfl, _, _⟩ := hR.tail.head.strs.shape
        have hkl2 : (keysL L2).length = L2.length := List.length_map _
        rw [hkl2, hkl] at hR
        rw [hkl2, hkl]
        have hkb2 : (keysL L2).length ≤ 1000 := by rw [hkl2]; omega
        have hkb1 : (keysL L).length ≤ 1000 := by rw [hkl]; omega
        have hkb3 : (keysL L2).length ≤ 1000000 := by omega
        have HK := Lib.hid hkl
        clear t1 t2 t3 hm12 hz7 hc2
        have HR := Lib.hid hR
        clear hR hkl hkl2 H5 H6
        go_upto_region 29 with (first
          | (go_at_call 28; (have Q5 : Strs w5 v5 (keysL L2) := H5.out.1.strs); (have Q6 : Strs w5 (.slice o4 L2.length c4) (keysL L2) := H5.out.2.head.strs); refine (sameTexts Q5 Q6 hkb3).mono ?_; clear Q5 Q6; rintro e w6 ⟨rfl, n6, hw6⟩; rw [decide_eq_true (show keysL L2 = keysL L2 from rfl)]; (have hb6 : Below w5.heap.size w5 w6 := by rw [hw6]; exact below_drewN (Below.refl _ _) n6); have H6 := Lib.hid (H5.out.2.below hb6); clear hw6 hb6)
          | (go_at_call 12; obtain ⟨F0, hA0⟩ := HR.out.arr; refine (keys hA0 (by omega)).mono ?_; clear hA0; rintro e w5 ⟨v5, rfl, hT5, hb5⟩; have H5 := Lib.hid (⟨hT5, HR.out.below hb5⟩ : _ ∧ _); clear hT5 hb5)
          | (go_at_call 16; obtain ⟨F0, hA0⟩ := H6.out.arr; refine (len hA0).mono ?_; clear hA0; rintro e wL ⟨rfl, hwL⟩; obtain rfl := hwL.symm; clear hwL))
        clear H5
        go_wp2_with fail
        go_loopg [15] L.length (fun k i wr => ∃ m U, L.length - m = k ∧ m ≤ L.length ∧ i = .int .i64 (m : Int) ∧ U.length = L.length ∧ Work w wr a (j + 1) L2 [(.slice ou L.length cu, U), (.slice o4 L2.length c4, keysL L2)])
        case atStart => exact ⟨0, keysL L, rfl, Nat.zero_le _, rfl, HK.out, H6.out.swap⟩
        case round =>
          obtain ⟨m, U, hkm, hm, rfl, hU, hQ⟩ := hrel
          have HQ := Lib.hid hQ
          by_cases hlm : m < L.length
          · have hlm' : (m : Int) < (L.length : Int) := by omega
            obtain ⟨g, rfl⟩ := hQ.head.own (by omega)
            have hT : wr.ownsRow w.heap.size 9 1 (.slice (some ⟨g, 0, none⟩) L.length cu) L.length (texts U) := by
              have h := hQ.head
              rw [← hU] at h ⊢
              exact h
            have c9 := World.ownsRow.cellAt hT m (by rw [Nat.mul_one]; exact hlm)
            have z9 := World.ownsRow.frozenAt hT m
            obtain ⟨y, hy⟩ : ∃ y, U[m]? = some y := ⟨_, List.getElem?_eq_getElem (by omega)⟩
            rw [texts, List.getElem?_map, hy] at c9
            simp only [Option.map_some] at c9
            clear hQ hT hy
            go_wp2_with fail
            go_roundg (L.length - (m + 1))
            case measure => omega
            case rel => exact ⟨m + 1, _, rfl, hlm, by go_num, (List.length_set).trans hU, HQ.out.stored m _⟩
          · obtain rfl : m = L.length := by omega
            have hge : ¬ (L.length : Int) < (L.length : Int) := by omega
            have HZ := Lib.hid hQ.tail
            clear hQ HQ
            go_wp2_with (first
              | (go_at_call 28; (have Q5 : Strs w5 v5 (keysL L2) := H5.out.1.strs); (have Q6 : Strs w5 (.slice o4 L2.length c4) (keysL L2) := H5.out.2.head.strs); refine (sameTexts Q5 Q6 hkb3).mono ?_; clear Q5 Q6; rintro e w6 ⟨rfl, n6, hw6⟩; rw [decide_eq_true (show keysL L2 = keysL L2 from rfl)]; (have hb6 : Below w5.heap.size w5 w6 := by rw [hw6]; exact below_drewN (Below.refl _ _) n6); have H6 := Lib.hid (H5.out.2.below hb6); clear hw6 hb6)
              | (go_at_call 12; obtain ⟨F0, hA0⟩ := HZ.out.arr; refine (keys hA0 (by omega)).mono ?_; clear hA0; rintro e w5 ⟨v5, rfl, hT5, hb5⟩; have H5 := Lib.hid (⟨hT5, HZ.out.below hb5⟩ : _ ∧ _); clear hT5 hb5))
            go_roundg (X.length - (j + 1))
            case measure => omega
            case rel => exact ⟨j + 1, L2, rfl, hend.1, hend.2, by go_num, H6.out⟩
    · clear hkl
      have hlast : X.length ≤ j ∨ 120 ≤ j := by omega
      by_cases hjX : j < X.length
      · have hlt1 : (j : Int) < (X.length : Int) := by omega
        have hge : ¬ (j : Int) < 120 := by omega
        go_wp2_with (go_at_call 20; refine (HAw.out _ (Nat.le_trans hK HW.out.b.size)).mono ?_; rintro e w' ⟨rfl, hb⟩)
        go_ret
        exact ⟨rfl, HW.out.b.trans (hb.mono HW.out.b.size)⟩
      · have hge : ¬ (j : Int) < (X.length : Int) := by omega
        go_wp2_with (go_at_call 20; refine (HAw.out _ (Nat.le_trans hK HW.out.b.size)).mono ?_; rintro e w' ⟨rfl, hb⟩)
        go_ret
        exact ⟨rfl, HW.out.b.trans (hb.mono HW.out.b.size)⟩
end Go.Proofs.Ytlagnklmfanmoaa.Ar
