/-
  ArraysPlays, walked.
-/
import Derived.Test.YtlagnklmfanmoaaArAa
namespace Go.Proofs.Ytlagnklmfanmoaa.Ar
open Go.RowKit Go.Maps

structure OpR where
  kind : Int
  key : ByteArray
  cell : Cell
structure Scr (w : World) (v : Value) (X : List OpR) : Prop where
  shape : ∃ oa cap, v = .slice oa X.length cap ∧ ∀ (i : Nat) (o : OpR), X[i]? = some o → ∃ g off, oa = some ⟨g, off, none⟩ ∧ w.cell? ⟨g, off + i * 5, none⟩ = some (.int .i64 o.kind) ∧ w.cell? ⟨g, off + i * 5 + 1, none⟩ = some (.string o.key) ∧
    w.cell? ⟨g, off + i * 5 + 2, none⟩ = some (.int .u8 o.cell.kind) ∧ w.cell? ⟨g, off + i * 5 + 3, none⟩ = some (.int .u64 o.cell.n) ∧ w.cell? ⟨g, off + i * 5 + 4, none⟩ = some (.string o.cell.s)

set_option maxHeartbeats 6400000 in
set_option maxRecDepth 100000 in
theorem plays {K : Nat} (hAw : Awake K) (v u : Value) (X : List OpR) (T : List ByteArray) (sep : ByteArray) (w : World) (hK : K ≤ w.heap.size) (hX : Scr w v X) (hT : Strs w u T) (hkey : ∀ oa n c, u = .slice oa n c → n ≤ c ∧ (n ≠ 0 → ∃ g off, oa = some ⟨g, off, none⟩)) :
    Calls Try.prog 4 #[v, u, .string sep] w fun e w' => e = .returned (.bool true) ∧ Below w.heap.size w w' := by
  have HAw := Lib.hid hAw
  obtain ⟨oa, ca, rfl, gx⟩ := hX.shape
  obtain ⟨ot, ct, rfl, _, gt⟩ := hT.shape
  have HG := Lib.hid (⟨gx, gt, hT⟩ : _ ∧ _ ∧ _)
  have hcap := Lib.hid (hkey ot T.length ct rfl)
  clear hAw hX hT gx gt hkey
  by_cases hbig : 20 < T.length ∨ 50 < sep.size
  · by_cases h20 : 20 < T.length
    · have h20' : 20 < (T.length : Int) := by omega
      go_enter Try.func4, Try.ntmps4
      go_wp2_with (go_at_call 20; refine (HAw.out _ hK).mono ?_; rintro e w' ⟨rfl, hb⟩)
      go_ret
      exact ⟨rfl, hb⟩
    · have h20' : ¬ 20 < (T.length : Int) := by omega
      have h50 : 50 < (sep.size : Int) := by omega
      go_enter Try.func4, Try.ntmps4
      go_wp2_with (go_at_call 20; refine (HAw.out _ hK).mono ?_; rintro e w' ⟨rfl, hb⟩)
      go_ret
      exact ⟨rfl, hb⟩
  have hTl : T.length ≤ 20 := by omega
  have hsl : sep.size ≤ 50 := by omega
  have h20' : ¬ 20 < (T.length : Int) := by omega
  have h50 : ¬ 50 < (sep.size : Int) := by omega
  go_enter Try.func4, Try.ntmps4
  go_wp2_with fail
  go_loopg [7] T.length (fun k i wr => ∃ j, T.length - j = k ∧ j ≤ T.length ∧ i = .int .i64 (j : Int) ∧ (∀ k t, k < j → T[k]? = some t → t.size ≤ 50) ∧ wr = w)
  case atStart => exact ⟨0, rfl, Nat.zero_le _, rfl, fun k t hk => by omega, rfl⟩
  case round =>
    obtain ⟨j, hk, hj, rfl, hall, hwr⟩ := hrel
    obtain rfl := hwr.symm
    clear hwr
    have HL := Lib.hid hall
    clear hall
    by_cases hlt : j < T.length
    · have hlt' : (j : Int) < (T.length : Int) := by omega
      obtain ⟨x, hx⟩ : ∃ x, T[j]? = some x := ⟨_, List.getElem?_eq_getElem hlt⟩
      obtain ⟨aa, rfl, d1⟩ := HG.out.2.1 j x hx
      have HX := Lib.hid hx
      clear hx
      by_cases hx50 : 50 < x.size
      · have hx50' : 50 < (x.size : Int) := by omega
        go_wp2_with (go_at_call 20; refine (HAw.out _ hK).mono ?_; rintro e w' ⟨rfl, hb⟩)
        go_ret
        exact ⟨rfl, hb⟩
      · have hx50' : ¬ 50 < (x.size : Int) := by omega
        go_wp2_with fail
        go_roundg (T.length - (j + 1))
        case measure => omega
        case rel =>
          refine ⟨j + 1, rfl, hlt, by go_num, fun k t hk2 ht => ?_, rfl⟩
          by_cases e : k = j
          · subst e
            rw [HX.out] at ht
            cases ht
            omega
          · exact HL.out k t (by omega) ht
    · have hge : ¬ (j : Int) < (T.length : Int) := by omega
      have hsm : ∀ t ∈ T, t.size ≤ 50 := fun t ht => by
        obtain ⟨k, hk2⟩ := List.getElem?_of_mem ht
        exact HL.out k t (by have := (List.getElem?_eq_some_iff.1 hk2).1; omega) hk2
      have HS := Lib.hid hsm
      clear hsm HL
      go_upto_region 9 with (go_at_call 8; refine (Mine.new w w (Below.refl _ _)).mono ?_; rintro e w1 ⟨a, rfl, hM⟩; have HM := Lib.hid (Play.start hM); clear hM)
      go_wp2_with fail
      go_loopg [8, 9, 10] X.length (fun k s8 s9 i wr => ∃ j a L v, X.length - j = k ∧ j ≤ X.length ∧ j ≤ 80 ∧ s8 = .pointer (some ⟨a, 0, none⟩) ∧ s9 = v ∧ i = .int .i64 (j : Int) ∧ Play noQ w wr a j L v L)
      case atStart => exact ⟨0, a, [], _, rfl, Nat.zero_le _, Nat.zero_le _, rfl, rfl, rfl, HM.out⟩
      case round =>
        clear HM
        obtain ⟨j, a, L, v, hk2, hj2, hj80, rfl, rfl, rfl, hP⟩ := hrel
        have hLj := hP.mine.length
        have hnd := (hP.arr).choose_spec.nodup
        obtain ⟨oi, ci, rfl, _⟩ := hP.items.shape
        have HP := Lib.hid (⟨hP, hnd⟩ : _ ∧ _)
        clear hP hnd
        by_cases hend : j < X.length ∧ j < 80
        · have hlt1 : (j : Int) < (X.length : Int) := by omega
          have hlt2 : (j : Int) < 80 := by omega
          obtain ⟨o, ho⟩ : ∃ o, X[j]? = some o := ⟨_, List.getElem?_eq_getElem hend.1⟩
          obtain ⟨g, off, rfl, c0, c1, c2, c3, c4⟩ := HG.out.1 j o ho
          clear ho
          have e0 := (HP.out.1.b.cell (cell_lt c0)).trans c0
          have e1 := (HP.out.1.b.cell (cell_lt c1)).trans c1
          have e2 := (HP.out.1.b.cell (cell_lt c2)).trans c2
          have e3 := (HP.out.1.b.cell (cell_lt c3)).trans c3
          have e4 := (HP.out.1.b.cell (cell_lt c4)).trans c4
          obtain ⟨kind, key, ck, cn, cs⟩ := o
          clear c0 c1 c2 c3 c4
          simp only at e0 e1 e2 e3 e4
          go_upto_region 14 with fail
          have hO := Own5.made wr kind key ck cn cs
          have hB := HP.out.1.box (.cells #[.int .i64 kind, .string key, .int .u8 ck, .int .u64 cn, .string cs] 45)
          have hnd := HP.out.2
          generalize wr.alloc (.cells #[.int .i64 kind, .string key, .int .u8 ck, .int .u64 cn, .string cs] 45) = wB at *
          generalize wr.heap.size = q at *
          have HB := Lib.hid (⟨hB, hO⟩ : _ ∧ _)
          have hQ : ∀ k, k = q → k < wB.heap.size := fun k hk => by rw [hk]; exact HB.out.2.lt
          have HQ := Lib.hid (⟨hQ, hnd⟩ : _ ∧ _)
          obtain ⟨x0, x1, x2, x3, x4, _⟩ := hO
          clear hB hQ hnd e0 e1 e2 e3 e4 HP
          by_cases hk50 : 50 < key.size
          · have hk50' : 50 < (key.size : Int) := by omega
            go_wp2_with fail
            go_roundg (X.length - (j + 1))
            case measure => omega
            case rel => exact ⟨j + 1, a, L, _, rfl, hend.1, hend.2, rfl, rfl, by go_num, HB.out.1.drop.mono (Nat.le_succ j)⟩
          have hk50' : ¬ 50 < (key.size : Int) := by omega
          by_cases k12 : kind = 1 ∨ kind = 2
          · rcases k12 with rfl | rfl
            all_goals
              go_upto_region 39 with (first
                | (go_at_call 21; have M1 := H1.out; refine (refSet key ⟨ck, cn, cs⟩ M1.1.items HQ.out.2 (by omega)).mono ?_; rintro e w3 ⟨v3, rfl, hI3, hb3⟩; have hO3 := M1.2.below hb3; have H2 := Lib.hid (⟨M1.1.ref hb3 hI3, hO3⟩ : _ ∧ _); obtain ⟨z0, z1, z2, z3, z4, _⟩ := hO3; clear hI3 hb3 M1)
                | (go_at_call 9; refine (HB.out.1.lift HQ.out.1 fun F hA => setN key ⟨ck, cn, cs⟩ hA (by omega) (by omega)).mono ?_; rintro e w2 ⟨rfl, hP2, hK2⟩; have hO2 := HB.out.2.keptQ hK2; have H1 := Lib.hid (⟨hP2, hO2⟩ : _ ∧ _); obtain ⟨y0, y1, y2, y3, y4, _⟩ := hO2; clear hP2 hK2))
              go_wp2_with (go_at_call 24; obtain ⟨F0, hA0⟩ := H2.out.1.arr; refine (same key hA0 H2.out.1.items (by omega) (by omega)).mono ?_; clear hA0; rintro e wE ⟨rfl, hbE⟩; have HE := Lib.hid (H2.out.1.below hbE).drop; clear hbE)
              go_roundg (X.length - (j + 1))
              case measure => omega
              case rel => exact ⟨j + 1, a, setL L key ⟨ck, cn, cs⟩, _, rfl, hend.1, hend.2, rfl, rfl, by go_num, HE.out⟩
          by_cases k5 : kind = 5
          · subst k5
            go_upto_region 39 with (go_at_call 15; refine (HB.out.1.lift HQ.out.1 fun F hA => clear hA).mono ?_; rintro e w2 ⟨rfl, hP2, hK2⟩; have hO2 := HB.out.2.keptQ hK2; have H2 := Lib.hid (⟨hP2.empty.mono (Nat.zero_le (j + 1)), hO2⟩ : _ ∧ _); obtain ⟨y0, y1, y2, y3, y4, _⟩ := hO2; clear hP2 hK2)
            go_wp2_with (go_at_call 24; obtain ⟨F0, hA0⟩ := H2.out.1.arr; refine (same key hA0 H2.out.1.items (by omega) (by omega)).mono ?_; clear hA0; rintro e wE ⟨rfl, hbE⟩; have HE := Lib.hid (H2.out.1.below hbE).drop; clear hbE)
            go_roundg (X.length - (j + 1))
            case measure => omega
            case rel => exact ⟨j + 1, a, [], _, rfl, hend.1, hend.2, rfl, rfl, by go_num, HE.out⟩
          by_cases k6 : kind = 6
          · subst k6
            go_upto_region 39 with (first
              | (go_at_call 15; have M := H5.out; refine (M.1.lift (fun k hk => by rw [hk]; exact M.2.lt) (Nat.le_refl _) fun F hA => (clear hA).mono fun _ _ h => ⟨h.1, h.2.mono (Nat.zero_le _)⟩).mono ?_; rintro e w6 ⟨rfl, hP6, hK6⟩; have hO6 := M.2.keptQ hK6; have H2 := Lib.hid (⟨hP6.other, hO6⟩ : _ ∧ _); obtain ⟨y0, y1, y2, y3, y4, _⟩ := hO6; clear hP6 hK6 M)
              | (go_at_call 9; have M := H4.out; refine (M.1.lift (fun k hk => by rw [hk]; exact M.2.lt) (Nat.le_succ j) fun F hA => setN ⟨#[111, 116, 104, 101, 114]⟩ (numC 1) hA (by decide) (by omega)).mono ?_; rintro e w5 ⟨rfl, hP5, hK5⟩; have hO5 := M.2.keptQ hK5; have H5 := Lib.hid (⟨hP5, hO5⟩ : _ ∧ _); clear hP5 hK5 M hO5)
              | (go_at_call 10; refine (num 1 _ (by omega)).mono ?_; rintro e w4 ⟨rfl, hb4⟩; have H4 := Lib.hid (⟨H3.out.1.below hb4, H3.out.2.below hb4⟩ : _ ∧ _); clear hb4)
              | (go_at_call 14; refine (HB.out.1.copy HQ.out.1 (by omega)).mono ?_; rintro e w3 ⟨b, rfl, hP3, hb3⟩; have H3 := Lib.hid (⟨hP3, HB.out.2.below hb3⟩ : _ ∧ _); clear hP3 hb3))
            go_wp2_with (go_at_call 24; obtain ⟨F0, hA0⟩ := H2.out.1.arr; refine (same key hA0 H2.out.1.items (by omega) (by omega)).mono ?_; clear hA0; rintro e wE ⟨rfl, hbE⟩; have HE := Lib.hid (H2.out.1.below hbE).drop; clear hbE)
            go_roundg (X.length - (j + 1))
            case measure => omega
            case rel => exact ⟨j + 1, b, L, _, rfl, hend.1, hend.2, rfl, rfl, by go_num, HE.out⟩
          by_cases k3 : kind = 3
          · subst k3
            obtain ⟨⟨dk, dn, ds⟩, hC⟩ : ∃ C, C = cellL L key := ⟨_, rfl⟩
            have HC := Lib.hid hC
            clear hC
            go_upto_region 23 with (go_at_call 18; refine (HB.out.1.lift HQ.out.1 fun F hA => getN key hA (by omega) (by omega)).mono ?_; rintro e w2 ⟨rfl, hP2, hK2⟩; rw [← HC.out]; simp only [Cell.cells]; have H1 := Lib.hid (⟨hP2, HB.out.2.keptQ hK2⟩ : _ ∧ _); clear hP2 hK2)
            have hba : Below w2.heap.size w2 (w2.alloc (.cells #[.int .u8 dk, .int .u64 dn, .string ds] 31)) := (Below.refl _ w2).alloc (Nat.le_refl _) _
            have o1 := own3 (c := ⟨dk, dn, ds⟩) (alloc_new w2 (.cells #[.int .u8 dk, .int .u64 dn, .string ds] 31))
            have hl1 : w2.heap.size < (w2.alloc (.cells #[.int .u8 dk, .int .u64 dn, .string ds] 31)).heap.size := by rw [alloc_size]; exact Nat.lt_succ_self _
            generalize w2.alloc (.cells #[.int .u8 dk, .int .u64 dn, .string ds] 31) = w3 at *
            have hO3 := H1.out.2.below hba
            have H3 := Lib.hid (⟨H1.out.1.below hba, hO3, o1, hl1⟩ : _ ∧ _ ∧ _ ∧ _)
            obtain ⟨y0, y1, y2, y3, y4, _⟩ := hO3
            clear hba o1 hl1
            go_upto_region 24 with (go_at_call 22; refine (refGet key H3.out.1.items HQ.out.2 (by omega)).mono ?_; rintro e w4 ⟨v4, rfl, hv4, hb4⟩; rw [← HC.out]; simp only [Cell.cells]; have H4 := Lib.hid (⟨hv4, hb4⟩ : _ ∧ _); clear hv4 hb4)
            have hP4 : Play (fun k => k = q) w w4 a (j + 1) (askL L key) v4 (askL L key) := by
              rcases H4.out.1 with ⟨rfl, hh⟩ | hI
              · have h5 := H3.out.1.below H4.out.2
                rw [ask_has hh] at h5 ⊢
                exact h5
              · exact H3.out.1.ref H4.out.2 hI
            have hba : Below w4.heap.size w4 (w4.alloc (.cells #[.int .u8 dk, .int .u64 dn, .string ds] 31)) := (Below.refl _ w4).alloc (Nat.le_refl _) _
            have o2 := own3 (c := ⟨dk, dn, ds⟩) (alloc_new w4 (.cells #[.int .u8 dk, .int .u64 dn, .string ds] 31))
            generalize w4.alloc (.cells #[.int .u8 dk, .int .u64 dn, .string ds] 31) = w5 at *
            have hO5 := (H3.out.2.1.below H4.out.2).below hba
            have hbz : Below w3.heap.size w3 w5 := H4.out.2.trans (hba.mono H4.out.2.size)
            have b0 := (hbz.cell (p := ⟨w2.heap.size, 0, none⟩) H3.out.2.2.2).trans H3.out.2.2.1.z0
            have b1 := (hbz.cell (p := ⟨w2.heap.size, 1, none⟩) H3.out.2.2.2).trans H3.out.2.2.1.z1
            have b2 := (hbz.cell (p := ⟨w2.heap.size, 2, none⟩) H3.out.2.2.2).trans H3.out.2.2.1.z2
            have H2 := Lib.hid (⟨hP4.below hba, hO5⟩ : _ ∧ _)
            obtain ⟨z0, z1, z2, z3, z4, _⟩ := hO5
            obtain ⟨t0, t1, t2, _, _, _⟩ := o2
            have heq := cell_eql dk dn ds
            clear hP4 hba hbz
            go_upto_region 39 with fail
            go_wp2_with (go_at_call 24; obtain ⟨F0, hA0⟩ := H2.out.1.arr; refine (same key hA0 H2.out.1.items (by omega) (by omega)).mono ?_; clear hA0; rintro e wE ⟨rfl, hbE⟩; have HE := Lib.hid (H2.out.1.below hbE).drop; clear hbE)
            go_roundg (X.length - (j + 1))
            case measure => omega
            case rel => exact ⟨j + 1, a, askL L key, _, rfl, hend.1, hend.2, rfl, rfl, by go_num, HE.out⟩
          by_cases k4 : kind = 4
          · subst k4
            obtain ⟨bh, hbh⟩ : ∃ bh, bh = hasL L key := ⟨_, rfl⟩
            have HBH := Lib.hid hbh
            clear hbh
            go_upto_region 28 with (go_at_call 11; refine (HB.out.1.lift HQ.out.1 fun F hA => delete key hA (by omega) (by omega)).mono ?_; rintro e w2 ⟨rfl, hP2, hK2⟩; rw [← HBH.out]; have hO2 := HB.out.2.keptQ hK2; have H1 := Lib.hid (⟨hP2, hO2⟩ : _ ∧ _); obtain ⟨y0, y1, y2, y3, y4, _⟩ := hO2; clear hP2 hK2)
            go_upto_region 29 with (go_at_call 23; refine (refDelete key H1.out.1.items (by omega)).mono ?_; rintro e w4 ⟨v4, rfl, hI4, hb4⟩; rw [← HBH.out]; have hO4 := H1.out.2.below hb4; have H2 := Lib.hid (⟨(H1.out.1.ref hb4 hI4).mono (Nat.le_succ j), hO4⟩ : _ ∧ _); obtain ⟨z0, z1, z2, z3, z4, _⟩ := hO4; clear hI4 hb4)
            go_upto_region 39 with fail
            go_wp2_with (go_at_call 24; obtain ⟨F0, hA0⟩ := H2.out.1.arr; refine (same key hA0 H2.out.1.items (by omega) (by omega)).mono ?_; clear hA0; rintro e wE ⟨rfl, hbE⟩; have HE := Lib.hid (H2.out.1.below hbE).drop; clear hbE)
            go_roundg (X.length - (j + 1))
            case measure => omega
            case rel => exact ⟨j + 1, a, delL L key, _, rfl, hend.1, hend.2, rfl, rfl, by go_num, HE.out⟩
          have k1 : ¬ kind = 1 := fun e => k12 (.inl e)
          have k2 : ¬ kind = 2 := fun e => k12 (.inr e)
          go_upto_region 39 with fail
          have H2 := Lib.hid (⟨HB.out.1.mono (Nat.le_succ j), HB.out.2⟩ : _ ∧ _)
          go_wp2_with (go_at_call 24; obtain ⟨F0, hA0⟩ := H2.out.1.arr; refine (same key hA0 H2.out.1.items (by omega) (by omega)).mono ?_; clear hA0; rintro e wE ⟨rfl, hbE⟩; have HE := Lib.hid (H2.out.1.below hbE).drop; clear hbE)
          go_roundg (X.length - (j + 1))
          case measure => omega
          case rel => exact ⟨j + 1, a, L, _, rfl, hend.1, hend.2, rfl, rfl, by go_num, HE.out⟩
        · have HT := Lib.hid (⟨HG.out.2.2.below HP.out.1.b (Nat.le_refl _), HP.out.1.b⟩ : _ ∧ _)
          by_cases hjX : j < X.length
          all_goals
            first
            | (have hlt1 : (j : Int) < (X.length : Int) := by omega
               have hge : ¬ (j : Int) < 80 := by omega)
            | (have hge : ¬ (j : Int) < (X.length : Int) := by omega)
            go_wp2_with (first
              | (go_at_call 20; refine (HAw.out _ (Nat.le_trans hK HK2.out.size)).mono ?_; rintro e w' ⟨rfl, hbZ⟩)
              | (go_at_call 25; have M := HK1.out; refine (refKey sep M.1 hTl HS.out hsl).mono ?_; rintro e wK ⟨rfl, hwK⟩; obtain rfl := hwK.symm; clear hwK; have HK2 := Lib.hid M.2; clear M)
              | (go_at_call 19; refine (keyAny sep HT.out.1 hcap.out.1 hcap.out.2 hTl HS.out hsl).mono ?_; rintro e w8 ⟨rfl, hb8⟩; have HK1 := Lib.hid (⟨HT.out.1.below hb8 (Nat.le_refl _), HT.out.2.trans (hb8.mono HT.out.2.size)⟩ : _ ∧ _); clear hb8))
            go_ret
            exact ⟨rfl, HK2.out.trans (hbZ.mono HK2.out.size)⟩
end Go.Proofs.Ytlagnklmfanmoaa.Ar
