/-
  ArraysNumbers, walked.
-/
import Derived.Test.YtlagnklmfanmoaaArT
import Derived.Laws.BytesString
namespace Go.Proofs.Ytlagnklmfanmoaa.Ar
open Go.RowKit Go.Maps

theorem conv_key (j : Nat) (W : World) (b : Nat) (h0 : W.cell? ⟨b, 0, none⟩ = some (.int .u8 (IntKind.u8.wrap (j : Int)))) (h1 : W.cell? ⟨b, 1, none⟩ = some (.int .u8 (IntKind.u8.wrap ((j : Int) / 256)))) :
    (convert 27 9 (.slice (some ⟨b, 0, none⟩) 2 2)).run Try.prog W = .ok (.string (keyN j)) W := by
  rw [run_convert_bytes_string W _ _ _ _ _ _ Try.underlying27 Try.underlying5 Try.underlying9]
  have h : (loadCells ⟨b, 0, none⟩ 2).run Try.prog W = .ok ([IntKind.u8.wrap (j : Int), IntKind.u8.wrap ((j : Int) / 256)].map (Value.int .u8)).toArray W := by
    simp [loadCells, go_sem, h0, h1]
  rw [run_bytesToString W ⟨b, 0, none⟩ 2 2 _ h]
  have e0 : UInt8.ofNat (IntKind.u8.wrap (j : Int)).toNat = UInt8.ofNat j := by
    apply UInt8.toNat_inj.1
    simp only [UInt8.toNat_ofNat']
    simp [IntKind.wrap, IntKind.bits, IntKind.signed]
    omega
  have e1 : UInt8.ofNat (IntKind.u8.wrap ((j : Int) / 256)).toNat = UInt8.ofNat (j / 256) := by
    apply UInt8.toNat_inj.1
    simp only [UInt8.toNat_ofNat']
    simp [IntKind.wrap, IntKind.bits, IntKind.signed]
    omega
  simp only [List.foldl_cons, List.foldl_nil, e0, e1]
  rfl
theorem conv_key2 (j : Nat) (hj : j < 300) (W : World) (b : Nat) (h0 : W.cell? ⟨b, 0, none⟩ = some (.int .u8 ((j : Int) % 256))) (h1 : W.cell? ⟨b, 1, none⟩ = some (.int .u8 ((j : Int) / 256))) :
    (convert 27 9 (.slice (some ⟨b, 0, none⟩) 2 2)).run Try.prog W = .ok (.string (keyN j)) W := by
  refine conv_key j W b (h0.trans ?_) (h1.trans ?_)
  · simp [IntKind.wrap, IntKind.bits, IntKind.signed]
  · simp [IntKind.wrap, IntKind.bits, IntKind.signed]
    omega
theorem numX (x : Int) (n : Nat) (w : World) (hx : x = (n : Int)) (hn : n ≤ 1000000) : Calls Try.prog 10 #[.int .i64 x] w fun e w' => e = .returned (.agg ⟨(numC n).cells⟩) ∧ Below w.heap.size w w' := by
  subst hx; exact num n w hn
theorem Work.mine {w wr : World} {a j : Nat} {L : List KV} {rows : List RowT} (h : Work w wr a j L rows) : Mine w wr a j L := by
  obtain ⟨F, h1, h2, _⟩ := h.ex
  exact ⟨⟨F, h1, h2⟩, h.b⟩
theorem keyCall {w : World} (bk c : Nat) (xs : List ByteArray) (sep : ByteArray) (hcells : ∀ (j : Nat) x, xs[j]? = some x → w.cell? ⟨bk, 0 + j, none⟩ = some (.string x)) (hbk : bk < w.heap.size) (hN : xs.length ≤ 140737488355328) (hcap : xs.length ≤ c)
    (hlen : (Lib.join (xs.map (·.data.toList)) sep.data.toList).length ≤ 1000000) :
    Calls Try.prog 19 #[.slice (some ⟨bk, 0, none⟩) xs.length c, .string sep] w fun e w' => e = .returned (.string ⟨(Lib.join (xs.map (·.data.toList)) sep.data.toList).toArray⟩) ∧ Below w.heap.size w w' := by
  obtain ⟨r, hr⟩ : ∃ r : ByteArray, r = ⟨(Lib.join (xs.map (·.data.toList)) sep.data.toList).toArray⟩ := ⟨_, rfl⟩
  have hrs : r.size ≤ 1000000 := by rw [hr]; show (List.toArray _).size ≤ _; rw [List.size_toArray]; exact hlen
  rw [← hr]
  have HJ := Lib.hid (Try.strings_Join bk 0 c xs sep w hcells hbk hN hcap (by omega))
  rw [← hr] at HJ
  clear hr hcells hlen
  go_enter Try.func19, Try.ntmps19
  go_wp2_with (first
    | (go_at_call 34; refine (clone r _ hrs).mono ?_; rintro e w2 ⟨rfl, hb2⟩; have H2 := Lib.hid hb2; clear hb2)
    | (go_at_call 36; refine HJ.out.mono ?_; rintro e w1 ⟨rfl, hb1⟩; have H1 := Lib.hid hb1; clear hb1))
  go_ret
  exact ⟨rfl, H1.out.trans (H2.out.mono H1.out.size)⟩
theorem key1 (W : World) : Calls Try.prog 19 #[.slice (some ⟨W.heap.size, 0, none⟩) 1 1, .string ⟨#[45]⟩] (W.alloc (.cells #[.string ⟨#[97]⟩] 9)) fun e w' => e = .returned (.string ⟨#[97]⟩) ∧ Below W.heap.size W w' := by
  have h := keyCall (w := W.alloc (.cells #[.string ⟨#[97]⟩] 9)) W.heap.size 1 [⟨#[97]⟩] ⟨#[45]⟩ (fun j x hx => by
    match j, hx with
    | 0, hx =>
      cases hx
      rw [World.cell?_alloc_at _ _ _ _ rfl]; rfl
    | j + 1, hx => simp at hx) (by rw [alloc_size]; exact Nat.lt_succ_self _) (by decide) (by decide) (by decide)
  refine h.mono fun e w' ⟨he, hb⟩ => ⟨he, ((Below.refl _ W).alloc (Nat.le_refl _) _).trans (hb.mono (two_size (Nat.le_refl _)))⟩
theorem key3 (W : World) : Calls Try.prog 19 #[.slice (some ⟨W.heap.size, 0, none⟩) 3 3, .string ⟨#[44]⟩] (W.alloc (.cells #[.string ⟨#[]⟩, .string ⟨#[]⟩, .string ⟨#[]⟩] 9)) fun e w' => e = .returned (.string ⟨#[44, 44]⟩) ∧ Below W.heap.size W w' := by
  have h := keyCall (w := W.alloc (.cells #[.string ⟨#[]⟩, .string ⟨#[]⟩, .string ⟨#[]⟩] 9)) W.heap.size 3 [⟨#[]⟩, ⟨#[]⟩, ⟨#[]⟩] ⟨#[44]⟩ (fun j x hx => by
    match j, hx with
    | 0, hx => cases hx; rw [World.cell?_alloc_at _ _ _ _ rfl]; rfl
    | 1, hx => cases hx; rw [World.cell?_alloc_at _ _ _ _ rfl]; rfl
    | 2, hx => cases hx; rw [World.cell?_alloc_at _ _ _ _ rfl]; rfl
    | j + 3, hx => simp at hx) (by rw [alloc_size]; exact Nat.lt_succ_self _) (by decide) (by decide) (by decide)
  refine h.mono fun e w' ⟨he, hb⟩ => ⟨he, ((Below.refl _ W).alloc (Nat.le_refl _) _).trans (hb.mono (two_size (Nat.le_refl _)))⟩
set_option maxHeartbeats 3200000 in
set_option maxRecDepth 100000 in
theorem numbers {K : Nat} (hAw : Awake K) (w : World) (hK : K ≤ w.heap.size) :
    Calls Try.prog 3 #[] w fun e w' => e = .returned (.bool true) ∧ Below w.heap.size w w' := by
  have HAw := Lib.hid hAw
  clear hAw
  go_enter Try.func3, Try.ntmps3
  go_wp2_with (go_at_call 8; refine (Mine.new w w (Below.refl _ _)).mono ?_; rintro e w1 ⟨a, rfl, hM⟩; have HM := Lib.hid hM; clear hM)
  go_loopg [2] 300 (fun k i wr => ∃ j : Nat, 300 - j = k ∧ j ≤ 300 ∧ i = .int .i64 (j : Int) ∧ Mine w wr a j (L1 j))
  case atStart => exact ⟨0, rfl, Nat.zero_le _, rfl, HM.out⟩
  case round =>
    obtain ⟨j, hk, hj, rfl, hM⟩ := hrel
    have HR := Lib.hid hM
    clear hM HM
    by_cases hlt : j < 300
    · have hlt' : (j : Int) < 300 := by omega
      go_upto_region 5 with fail
      have hconv := conv_key j
      have hbA : Below wr.heap.size wr ((wr.alloc (.cells #[.int .u8 (IntKind.u8.wrap (j : Int)), .int .u8 (IntKind.u8.wrap ((j : Int) / 256))] 5)).drew) := ((Below.refl _ wr).alloc (Nat.le_refl _) _).drew
      have hbB : Below wr.heap.size wr wr.drew := (Below.refl _ wr).drew
      have HAB := Lib.hid (⟨hbA, hbB⟩ : _ ∧ _)
      clear hbA hbB
      go_region_with (first
        | (go_at_call 9; (with_reducible refine (HM2.out.lift fun F hA => setN (keyN j) (numC j) hA (by rw [keyN_size]; omega) (by omega)).mono ?_); rintro e w3 ⟨rfl, hM3⟩; rw [L1_succ hlt] at hM3; have H3 := Lib.hid hM3; clear hM3)
        | (go_at_call 9; (with_reducible refine ((HM2.out.below ((Below.refl _ _).alloc (Nat.le_refl _) _)).lift fun F hA => setN (keyN j) (numC j) hA (by rw [keyN_size]; omega) (by omega)).mono ?_); rintro e w3 ⟨rfl, hM3⟩; rw [L1_succ hlt] at hM3; have H3 := Lib.hid hM3; clear hM3)
        | (go_at_call 10; (with_reducible refine (num j (wr.drew) (by omega)).mono ?_); rintro e w2 ⟨rfl, hb2⟩; have HM2 := Lib.hid ((HR.out.below HAB.out.2).below hb2); clear hb2)
        | (go_at_call 10; refine (num j _ (by omega)).mono ?_; rintro e w2 ⟨rfl, hb2⟩; have c0 := (hb2.cell (p := ⟨wr.heap.size, 0, none⟩) (by show wr.heap.size < (wr.alloc _).heap.size; rw [alloc_size]; exact Nat.lt_succ_self _)).trans (by show (wr.alloc _).cell? _ = _; rw [World.cell?_alloc_at _ _ _ _ rfl]; rfl : _ = some (.int .u8 (IntKind.u8.wrap (j : Int)))); have c1 := (hb2.cell (p := ⟨wr.heap.size, 1, none⟩) (by show wr.heap.size < (wr.alloc _).heap.size; rw [alloc_size]; exact Nat.lt_succ_self _)).trans (by show (wr.alloc _).cell? _ = _; rw [World.cell?_alloc_at _ _ _ _ rfl]; rfl : _ = some (.int .u8 (IntKind.u8.wrap ((j : Int) / 256)))); have HM2 := Lib.hid ((HR.out.below HAB.out.1).below hb2); clear hb2))
      all_goals go_wp2_with fail
      all_goals go_roundg (300 - (j + 1))
      all_goals first
        | omega
        | exact ⟨j + 1, rfl, hlt, by go_num, H3.out⟩
    · have hge : ¬ (j : Int) < 300 := by omega
      obtain rfl : j = 300 := by omega
      rw [← L2_zero] at HR
      go_wp2_with fail
      go_loopg [3] 300 (fun k i wr => ∃ j : Nat, 300 - j = k ∧ j ≤ 300 ∧ i = .int .i64 (j : Int) ∧ Mine w wr a 300 (L2 j))
      case atStart => exact ⟨0, rfl, Nat.zero_le _, rfl, HR.out⟩
      case round =>
        obtain ⟨j, hk2, hj2, rfl, hM⟩ := hrel
        have H2 := Lib.hid hM
        clear hM HR
        by_cases hlt : j < 300
        · have hlt' : (j : Int) < 300 := by omega
          have t1 : (j : Int).tmod 3 = (j : Int) % 3 := Int.tmod_eq_emod_of_nonneg (by omega)
          have hconv := conv_key j
          by_cases h3 : j % 3 = 0
          · have hd : ¬ 0 < (j : Int) % 3 := by omega
            have hdd : decide (0 < (j : Int) % 3) = false := decide_eq_false hd
            go_wp2_with fail
            go_roundg (300 - (j + 1))
            case measure => omega
            case rel => exact ⟨j + 1, rfl, hlt, by go_num, by rw [L2_stay h3]; exact H2.out⟩
          · have hd : 0 < (j : Int) % 3 := by omega
            have hconv2 := conv_key2 j hlt (wr.alloc (.cells #[.int .u8 ((j : Int) % 256), .int .u8 ((j : Int) / 256)] 5)) wr.heap.size (by rw [World.cell?_alloc_at _ _ _ _ rfl]; rfl) (by rw [World.cell?_alloc_at _ _ _ _ rfl]; rfl)
            clear hconv
            go_wp2_with (go_at_call 11; refine ((H2.out.below ((Below.refl _ _).alloc (Nat.le_refl _) _)).lift fun F hA => delete (keyN j) hA (by rw [keyN_size]; omega) (by omega)).mono ?_; rintro e w3 ⟨rfl, hM3⟩; rw [L2_del hlt h3] at hM3; rw [L2_has hlt]; have H3 := Lib.hid hM3; clear hM3)
            go_roundg (300 - (j + 1))
            case measure => omega
            case rel => exact ⟨j + 1, rfl, hlt, by go_num, H3.out⟩
        · have hge2 : ¬ (j : Int) < 300 := by omega
          obtain rfl : j = 300 := by omega
          rw [L2_end] at H2
          go_upto_region 12 with (go_at_call 12; obtain ⟨F0, hA0⟩ := H2.out.arr; refine (keys hA0 (by omega)).mono ?_; clear hA0; rintro e w4 ⟨v4, rfl, hT4, hb4⟩; have HW := Lib.hid ((Work.start H2.out).push hb4 hT4); clear hT4 hb4)
          obtain ⟨ol, cl, rfl, _, _⟩ := HW.out.head.strs.shape
          have hkl : (keysL L3).length = 100 := by rw [keysL, List.length_map, L3_length]
          rw [hkl] at HW ⊢
          clear hkl H2
          go_wp2_with fail
          go_loopg [5] 100 (fun k i wr => ∃ j : Nat, 100 - j = k ∧ j ≤ 100 ∧ i = .int .i64 (j : Int) ∧ Work w wr a 300 L3 [(.slice ol 100 cl, keysL L3)])
          case atStart => exact ⟨0, rfl, Nat.zero_le _, rfl, HW.out⟩
          case round =>
            obtain ⟨j, hk3, hj3, rfl, hQ⟩ := hrel
            have HQ := Lib.hid hQ
            clear HW
            by_cases hlt : j < 100
            · have hlt' : (j : Int) < 100 := by omega
              obtain ⟨ay, rfl, e1⟩ := hQ.head.at (L3_keys hlt)
              clear hQ
              go_upto_region 16 with (go_at_call 13; obtain ⟨F0, hA0⟩ := HQ.out.arr; refine (peek (keyN (3 * j)) hA0 (by rw [keyN_size]; omega)).mono ?_; clear hA0; rintro e wA ⟨rfl, hbA⟩; rw [L3_cell hlt, L3_has hlt]; simp only [numC, Cell.cells]; have HA := Lib.hid (HQ.out.below hbA); clear hbA)
              have hn1 := alloc_new wA (.cells #[.int .u8 1, .int .u64 ((3 * j : Nat) : Int), .string ⟨#[]⟩] 31)
              have hbz := (Below.refl _ wA).alloc (Nat.le_refl _) (.cells #[.int .u8 1, .int .u64 ((3 * j : Nat) : Int), .string ⟨#[]⟩] 31)
              have hne := cell_neq 1 ((3 * j : Nat) : Int) ⟨#[]⟩
              have O1 := own3 (c := numC (3 * j)) hn1
              have hx3 : ((3 * j : Nat) : Int) = 3 * (j : Int) := by omega
              unfold numC at O1
              rw [hx3] at hbz hne O1
              generalize hWC : wA.alloc (.cells #[.int .u8 1, .int .u64 (3 * (j : Int)), .string ⟨#[]⟩] 31) = wC at *
              have HC2 := Lib.hid (HA.out.below hbz)
              have e0 : ∀ q : Later wC, q.w.cell? ⟨wA.heap.size, 0, none⟩ = some (.int .u8 1) := fun q => q.cell O1.z0
              have e1 : ∀ q : Later wC, q.w.cell? ⟨wA.heap.size, 1, none⟩ = some (.int .u64 (3 * (j : Int))) := fun q => q.cell O1.z1
              have e2 : ∀ q : Later wC, q.w.cell? ⟨wA.heap.size, 2, none⟩ = some (.string ⟨#[]⟩) := fun q => q.cell O1.z2
              clear O1 hbz hn1 hWC
              refine wp_region_later (by kernel_rfl) (by kernel_rfl) ?_
              repeat (with_reducible refine wpQuiet_step ?_; intro K hK; go_simp; first | (refine hK _ ?_; clear hK K) | (apply Exists.intro; refine ⟨fun q => ?_, hK _ ?_⟩; (go_at_call 10; exact later_call (numX _ (3 * j) _ (by rw [IntKind.wrap_i64]; omega) (by omega))); simp only [numC, Cell.cells, hx3]; clear hK K))
              refine wpQuiet_nil ?_
              rintro wQ ⟨q, rfl⟩
              go_wp2_with fail
              go_roundg (100 - (j + 1))
              case measure => omega
              case rel => exact ⟨j + 1, rfl, hlt, by go_num, HC2.out.below q.h⟩
            · have hge3 : ¬ (j : Int) < 100 := by omega
              have HM := Lib.hid hQ.mine
              clear hQ HQ
              go_upto_region 19 with (go_at_call 14; refine (HM.out.copy (by omega)).mono ?_; rintro e w3 ⟨b, rfl, hW3, _⟩; have H3 := Lib.hid hW3; clear hW3)
              go_upto_region 20 with (go_at_call 15; refine (H3.out.lift (Nat.le_refl _) fun F hA => (clear hA).mono fun _ _ h => ⟨h.1, h.2.mono (Nat.zero_le _)⟩).mono ?_; rintro e wA ⟨rfl, hWA⟩; have HA := Lib.hid hWA; clear hWA)
              go_upto_region 21 with (go_at_call 13; obtain ⟨F0, hA0⟩ := HA.out.one.arr; refine (peek ⟨#[120]⟩ hA0 (by decide)).mono ?_; clear hA0; rintro e wB ⟨rfl, hbB⟩; rw [show cellL [] ⟨#[120]⟩ = Cell.zero from rfl, show hasL [] ⟨#[120]⟩ = false from rfl]; simp only [Cell.zero, Cell.cells]; have HB := Lib.hid (HA.out.below hbB); clear hbB)
              have hbz := (Below.refl _ wB).alloc (Nat.le_refl _) (.cells #[.int .u8 0, .int .u64 0, .string ⟨#[]⟩] 31)
              generalize wB.alloc (.cells #[.int .u8 0, .int .u64 0, .string ⟨#[]⟩] 31) = wC at *
              have HC := Lib.hid (HB.out.below hbz)
              have hzz := cell_eql 0 0 ⟨#[]⟩
              have h3l := L3_length
              clear hbz HA HB H3 HM
              go_wp2_with (first
                | (go_at_call 20; refine (HAw.out _ (Nat.le_trans hK HI.out.size)).mono ?_; rintro e w' ⟨rfl, hbZ⟩)
                | (go_at_call 19; have MM := HH.out; refine (key3 _).mono ?_; rintro e w9 ⟨rfl, hb9⟩; have HI := Lib.hid (HH.out.trans (hb9.mono HH.out.size)); clear hb9 MM)
                | (go_at_call 19; refine (key1 _).mono ?_; rintro e w8 ⟨rfl, hb8⟩; have HH := Lib.hid (HF.out.b.trans (hb8.mono HF.out.b.size)); clear hb8)
                | (go_at_call 17; obtain ⟨F0, hA0⟩ := HF.out.one.arr; refine (hasCall ⟨#[]⟩ hA0 (by decide)).mono ?_; clear hA0; rintro e w5 ⟨rfl, hw5⟩; obtain rfl := hw5.symm; clear hw5; rw [show hasL (askL [] ⟨#[]⟩) ⟨#[]⟩ = true from rfl])
                | (go_at_call 18; refine (HE.out.lift (Nat.le_succ 300) fun F hA => getN ⟨#[]⟩ hA (by decide) (by omega)).mono ?_; rintro e w7 ⟨rfl, hW7⟩; rw [show cellL [] ⟨#[]⟩ = Cell.zero from rfl]; simp only [Cell.zero, Cell.cells]; have HF := Lib.hid hW7; clear hW7)
                | (go_at_call 17; obtain ⟨F0, hA0⟩ := HE.out.one.arr; refine (hasCall ⟨#[120]⟩ hA0 (by decide)).mono ?_; clear hA0; rintro e w5 ⟨rfl, hw5⟩; obtain rfl := hw5.symm; clear hw5; rw [show hasL [] ⟨#[120]⟩ = false from rfl])
                | (go_at_call 11; refine (HD.out.lift (Nat.le_refl _) fun F hA => delete ⟨#[120]⟩ hA (by decide) (by omega)).mono ?_; rintro e w6 ⟨rfl, hW6⟩; rw [show hasL [] ⟨#[120]⟩ = false from rfl]; rw [show delL [] ⟨#[120]⟩ = [] from rfl] at hW6; have HE := Lib.hid hW6; clear hW6)
                | (go_at_call 12; obtain ⟨F0, hA0⟩ := HC.out.one.arr; refine (keys hA0 (by omega)).mono ?_; clear hA0; rintro e w5 ⟨v5, rfl, hT5, hb5⟩; obtain ⟨o5, c5, rfl, _⟩ := hT5.strs.shape; rw [show (keysL []).length = 0 from rfl]; have HD := Lib.hid (HC.out.below hb5); clear hT5 hb5)
                | (go_at_call 16; have MM := ML.out; obtain ⟨F0, hA0⟩ := HC.out.one.arr; refine (len hA0).mono ?_; clear hA0 MM; rintro e w5 ⟨rfl, hw5⟩; obtain rfl := hw5.symm; clear hw5; rw [List.length_nil])
                | (go_at_call 16; obtain ⟨F0, hA0⟩ := HC.out.other.arr; refine (len hA0).mono ?_; clear hA0; rintro e w5 ⟨rfl, hw5⟩; obtain rfl := hw5.symm; clear hw5; rw [h3l]; have ML := Lib.hid (rfl : (0 : Nat) = 0)))
              go_ret
              exact ⟨rfl, HI.out.trans (hbZ.mono HI.out.size)⟩
end Go.Proofs.Ytlagnklmfanmoaa.Ar
