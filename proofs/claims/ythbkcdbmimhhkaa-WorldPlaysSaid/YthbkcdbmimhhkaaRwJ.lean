/-
  The document's world: closing (Close).
-/
import Derived.Test.YthbkcdbmimhhkaaRwF
namespace Go.Proofs.Ythbkcdbmimhhkaa.Rw
open Go.RowKit Go.Maps Wo

def rClSt (S : Scpt) (k : Int) (n : ByteArray) : Int := if k = 2 ∨ k = 5 then rStat S n else 0
abbrev RClR := RSt × Int × Bool
def rCloseStep (S : Scpt) (r : RSt) (n : ByteArray) (k : Int) (a : RClR) : RClR := if rplace k n r.opn < 0 then a else (eventR a.1 ⟨3, k, n, noText, rClSt S k n⟩, rClSt S k n, true)
def rCloseTo (S : Scpt) (r : RSt) (n : ByteArray) : Nat → RClR
  | 0 => (r, 0, false)
  | i + 1 => rCloseStep S r n ((i : Int) + 1) (rCloseTo S r n i)
theorem rCloseTo_opn (S : Scpt) (r : RSt) (n : ByteArray) : ∀ i, (rCloseTo S r n i).1.opn = r.opn ∧ (rCloseTo S r n i).1.events.length ≤ r.events.length + i
  | 0 => ⟨rfl, Nat.le_refl _⟩
  | i + 1 => by
    obtain ⟨h1, h2⟩ := rCloseTo_opn S r n i
    show (rCloseStep S r n ((i : Int) + 1) (rCloseTo S r n i)).1.opn = _ ∧ (rCloseStep S r n ((i : Int) + 1) (rCloseTo S r n i)).1.events.length ≤ _
    unfold rCloseStep
    split
    · exact ⟨h1, by omega⟩
    · refine ⟨h1, ?_⟩
      show ((rCloseTo S r n i).1.events ++ [_]).length ≤ _
      rw [List.length_append, List.length_singleton]; omega
def keepS (n : ByteArray) (l : List RStrm) : List RStrm := l.filter fun s => !decide (s.name = n)
def rCloseS (S : Scpt) (r : RSt) (n : ByteArray) : RSt := { (rCloseTo S r n 5).1 with opn := keepS n r.opn }
structure MadeS (wA wr : World) (l : List RStrm) (v : Value) : Prop where
  own : OwnS wr wA.heap.size v l
  below : Below wA.heap.size wA wr
section
variable {w : World} {S : Scpt} {r : RSt} {s : Shp}
set_option maxHeartbeats 4000000 in
set_option maxRecDepth 100000 in
theorem closeRef (h : RefAt w S r s) (n : ByteArray) (hf : Fewer S r) (hev : r.events.length ≤ 900000) :
    Calls Try.prog 34 #[.agg (s.cells S r), .string n] w fun x w' => ∃ s', x = .returned (.tuple #[.agg (s'.cells S (rCloseS S r n)), .int .i64 (rCloseTo S r n 5).2.1, .bool (rCloseTo S r n 5).2.2]) ∧ s'.scr = s.scr ∧ RefAt w' S (rCloseS S r n) s' ∧ Below w.heap.size w w' := by
  have hzo : r.opn.length ≤ 1000000 := by have := hf.opn; omega
  have hzr := hf.reps
  obtain ⟨c, hc⟩ := replyA_data S n
  have HC := Lib.hid hc
  clear hc
  obtain ⟨i0, zz0, hi, hz0, hsz, hby, hzs⟩ := stream_info
  have HI := Lib.hid (⟨hi, hz0, hsz, hby, hzs⟩ : _ ∧ _ ∧ _ ∧ _ ∧ _)
  clear hi hz0 hsz hby hzs
  have hR := Run.two h
  go_enter Try.func34, Try.ntmps34
  go_upto_region 1 with fail
  obtain ⟨wA, hA⟩ : ∃ wA, wA = (w.alloc (.cells (s.cells S r) 38)).alloc (.cells #[.slice none 0 0, .string ⟨#[]⟩, .slice none 0 0, .slice none 0 0, .int .i64 0, .int .i64 0, .int .u64 0, .slice none 0 0, .int .i64 0, .slice none 0 0, .int .u64 0, .slice none 0 0] 38) := ⟨_, rfl⟩
  rw [← hA] at hR ⊢
  clear hA
  generalize w.heap.size + 1 = b2 at *
  generalize w.heap.size = b0 at hR ⊢
  have HR := Lib.hid (⟨h, hR⟩ : _ ∧ _)
  clear h hR
  go_wp2_with fail
  go_loopg [7, 8, 9] 5 (fun q a b k wr => ∃ (i : Nat) (rI : RSt) (sI : Shp), 5 - i = q ∧ i ≤ 5 ∧ k = .int .u8 ((i : Int) + 1) ∧ a = .int .i64 (rCloseTo S r n i).2.1 ∧ b = .bool (rCloseTo S r n i).2.2 ∧ rI = (rCloseTo S r n i).1 ∧ sI.scr = s.scr ∧ Run w wr S rI sI b0 b2)
  case atStart => exact ⟨0, r, s, rfl, by omega, rfl, rfl, rfl, rfl, rfl, HR.out.2⟩
  case round =>
    obtain ⟨i, rI, sI, hq, hi, rfl, rfl, rfl, hrI, hsI, hRI⟩ := hrel
    obtain ⟨ho1, ho2⟩ := rCloseTo_opn S r n i
    rw [← hrI] at ho1 ho2
    have hst : rCloseTo S r n (i + 1) = rCloseStep S r n ((i : Int) + 1) (rCloseTo S r n i) := rfl
    obtain ⟨sta, hsta⟩ : ∃ x, x = (rCloseTo S r n i).2.1 := ⟨_, rfl⟩
    obtain ⟨anb, hanb⟩ : ∃ x, x = (rCloseTo S r n i).2.2 := ⟨_, rfl⟩
    rw [← hsta, ← hanb]
    have HI2 := Lib.hid (⟨hrI, hsI, ho1, hst, hsta, hanb⟩ : _ ∧ _ ∧ _ ∧ _ ∧ _ ∧ _)
    have HRI := Lib.hid hRI
    have hzoI : rI.opn.length ≤ 1000000 := by rw [ho1]; exact hzo
    have hzeI : rI.events.length ≤ 1000000 := by omega
    clear hrI hsI ho1 hst hsta hanb
    by_cases hlt : i < 5
    · obtain ⟨k, hk⟩ : ∃ k : Int, k = (i : Int) + 1 := ⟨_, rfl⟩
      have hk5 : k ≤ 5 := by omega
      have hk1 : 1 ≤ k := by omega
      have hw1 : IntKind.u8.wrap (k + 1) = k + 1 := by rw [IntKind.wrap_u8]; omega
      rw [← hk]
      have HK := Lib.hid hk
      clear hk
      obtain ⟨y0, y1, y2, y3, y4, y5, y6, y7, y8, y9, y10, y11, _, _⟩ := (HRI.out).rbox
      by_cases hp : rplace k n r.opn < 0
      · have HP := Lib.hid hp
        go_wp2_with (go_at_call 15; refine (findRef HRI.out.ref k n hzoI).mono ?_; rintro e w1 ⟨rfl, hbb⟩; rw [HI2.out.2.2.1]; have hRR := (HRI.out).later hbb; obtain ⟨y0, y1, y2, y3, y4, y5, y6, y7, y8, y9, y10, y11, _, _⟩ := hRR.rbox; have H1 := Lib.hid hRR; clear hRR hbb)
        go_roundg (5 - (i + 1))
        case measure => omega
        case rel =>
          have hstep : rCloseTo S r n (i + 1) = rCloseTo S r n i := by
            rw [HI2.out.2.2.2.1, ← HK.out]
            unfold rCloseStep
            rw [if_pos HP.out]
          exact ⟨i + 1, rI, sI, rfl, hlt, by rw [HK.out]; push_cast; rfl, by rw [hstep, ← HI2.out.2.2.2.2.1], by rw [hstep, ← HI2.out.2.2.2.2.2], by rw [hstep]; exact HI2.out.1, HI2.out.2.1, H1.out⟩
      · have HP := Lib.hid hp
        by_cases hk2 : k = 2 ∨ k = 5
        · have HS := Lib.hid (show rClSt S k n = rStat S n from if_pos hk2)
          have hkb : (k == 2 || k == 5) = true := by rcases hk2 with e | e <;> rw [e] <;> rfl
          have hcase : k = 2 ∨ (k ≠ 2 ∧ k = 5) := by omega
          clear hk2 hkb
          rcases hcase with hk22 | ⟨hk22, hk55⟩
          · have hb2k : (k == 2) = true := beq_iff_eq.2 hk22
            clear hk22
            go_upto_region 11 with (first
              | (go_at_call 50; refine (replyRef H1.out.ref n hzr).mono ?_; rintro e w2 ⟨rfl, hbb⟩; rw [HC.out]; have hRR := (H1.out).later hbb; obtain ⟨y0, y1, y2, y3, y4, y5, y6, y7, y8, y9, y10, y11, _, _⟩ := hRR.rbox; have H2 := Lib.hid hRR; clear hRR hbb)
              | (go_at_call 15; refine (findRef HRI.out.ref k n hzoI).mono ?_; rintro e w1 ⟨rfl, hbb⟩; rw [HI2.out.2.2.1]; have hRR := (HRI.out).later hbb; obtain ⟨y0, y1, y2, y3, y4, y5, y6, y7, y8, y9, y10, y11, _, _⟩ := hRR.rbox; have H1 := Lib.hid hRR; clear hRR hbb))
            obtain ⟨wV, hV⟩ : ∃ wV, wV = w2.alloc (.cells #[.string c, .string (rOut S n), .int .i64 (rStat S n)] 74) := ⟨_, rfl⟩
            have hbV : Below w2.heap.size w2 wV := by rw [hV]; exact (Below.refl _ w2).alloc (Nat.le_refl _) _
            have v2 : wV.cell? ⟨w2.heap.size, 2, none⟩ = some (.int .i64 (rStat S n)) := by rw [hV]; exact box_cell 2
            have hRV := H2.out.later hbV
            rw [← hV]
            obtain ⟨y0, y1, y2, y3, y4, y5, y6, y7, y8, y9, y10, y11, _, _⟩ := hRV.rbox
            have HV := Lib.hid hRV
            clear hRV hbV hV
            go_upto_region 5 with (go_at_call 52; refine (eventRef (HV.out).ref ⟨3, k, n, noText, (rStat S n)⟩ hzeI).mono ?_; rintro e w6 ⟨s6, rfl, hs6, hr6, hb6⟩; have hRR := (HV.out).later hb6; obtain ⟨_, _, _, _, _, _, _, _, _, _, _, _, pz, _⟩ := hRR.rbox; obtain ⟨y0, y1, y2, y3, y4, y5, y6, y7, y8, y9, y10, y11, _, _⟩ := hRR.rbox; have pz0 := pz 0; have pz1 := pz 1; have pz2 := pz 2; have pz3 := pz 3; have pz4 := pz 4; have pz5 := pz 5; have pz6 := pz 6; have pz7 := pz 7; have pz8 := pz 8; have pz9 := pz 9; have pz10 := pz 10; have pz11 := pz 11; have H6 := Lib.hid (⟨hRR, hr6, hs6⟩ : _ ∧ _ ∧ _); obtain ⟨r6, hr6e⟩ : ∃ x, x = eventR rI ⟨3, k, n, noText, (rStat S n)⟩ := ⟨_, rfl⟩; rw [← hr6e] at H6 ⊢; have HE6 := Lib.hid hr6e; clear hRR hr6 hs6 hb6 pz hr6e)
            rw [put12_def]
            obtain ⟨wZ, hZ⟩ : ∃ wZ, wZ = put12 w6 b0 S r6 s6 := ⟨_, rfl⟩
            have hRZ := H6.out.1.put H6.out.2.1 H6.out.2.2
            rw [← hZ] at hRZ ⊢
            have HZ := Lib.hid hRZ
            clear hRZ hZ
            go_wp2_with fail
            go_roundg (5 - (i + 1))
            case measure => omega
            case rel =>
              have hstep : rCloseTo S r n (i + 1) = (eventR rI ⟨3, k, n, noText, (rStat S n)⟩, (rStat S n), true) := by
                rw [HI2.out.2.2.2.1, ← HK.out]
                unfold rCloseStep
                rw [if_neg (by have := HP.out; omega), ← HI2.out.1]
                have : rClSt S k n = (rStat S n) := HS.out
                rw [this]
              exact ⟨i + 1, r6, s6, rfl, hlt, by rw [HK.out]; push_cast; rfl, by rw [hstep], by rw [hstep], by rw [hstep, HE6.out], H6.out.2.2.trans HI2.out.2.1, HZ.out⟩
          · have hb2k : (k == 2) = false := beq_eq_false_iff_ne.2 hk22
            have hb5k : (k == 5) = true := beq_iff_eq.2 hk55
            clear hk55
            go_upto_region 11 with (first
              | (go_at_call 50; refine (replyRef H1.out.ref n hzr).mono ?_; rintro e w2 ⟨rfl, hbb⟩; rw [HC.out]; have hRR := (H1.out).later hbb; obtain ⟨y0, y1, y2, y3, y4, y5, y6, y7, y8, y9, y10, y11, _, _⟩ := hRR.rbox; have H2 := Lib.hid hRR; clear hRR hbb)
              | (go_at_call 15; refine (findRef HRI.out.ref k n hzoI).mono ?_; rintro e w1 ⟨rfl, hbb⟩; rw [HI2.out.2.2.1]; have hRR := (HRI.out).later hbb; obtain ⟨y0, y1, y2, y3, y4, y5, y6, y7, y8, y9, y10, y11, _, _⟩ := hRR.rbox; have H1 := Lib.hid hRR; clear hRR hbb))
            obtain ⟨wV, hV⟩ : ∃ wV, wV = w2.alloc (.cells #[.string c, .string (rOut S n), .int .i64 (rStat S n)] 74) := ⟨_, rfl⟩
            have hbV : Below w2.heap.size w2 wV := by rw [hV]; exact (Below.refl _ w2).alloc (Nat.le_refl _) _
            have v2 : wV.cell? ⟨w2.heap.size, 2, none⟩ = some (.int .i64 (rStat S n)) := by rw [hV]; exact box_cell 2
            have hRV := H2.out.later hbV
            rw [← hV]
            obtain ⟨y0, y1, y2, y3, y4, y5, y6, y7, y8, y9, y10, y11, _, _⟩ := hRV.rbox
            have HV := Lib.hid hRV
            clear hRV hbV hV
            go_upto_region 5 with (go_at_call 52; refine (eventRef (HV.out).ref ⟨3, k, n, noText, (rStat S n)⟩ hzeI).mono ?_; rintro e w6 ⟨s6, rfl, hs6, hr6, hb6⟩; have hRR := (HV.out).later hb6; obtain ⟨_, _, _, _, _, _, _, _, _, _, _, _, pz, _⟩ := hRR.rbox; obtain ⟨y0, y1, y2, y3, y4, y5, y6, y7, y8, y9, y10, y11, _, _⟩ := hRR.rbox; have pz0 := pz 0; have pz1 := pz 1; have pz2 := pz 2; have pz3 := pz 3; have pz4 := pz 4; have pz5 := pz 5; have pz6 := pz 6; have pz7 := pz 7; have pz8 := pz 8; have pz9 := pz 9; have pz10 := pz 10; have pz11 := pz 11; have H6 := Lib.hid (⟨hRR, hr6, hs6⟩ : _ ∧ _ ∧ _); obtain ⟨r6, hr6e⟩ : ∃ x, x = eventR rI ⟨3, k, n, noText, (rStat S n)⟩ := ⟨_, rfl⟩; rw [← hr6e] at H6 ⊢; have HE6 := Lib.hid hr6e; clear hRR hr6 hs6 hb6 pz hr6e)
            rw [put12_def]
            obtain ⟨wZ, hZ⟩ : ∃ wZ, wZ = put12 w6 b0 S r6 s6 := ⟨_, rfl⟩
            have hRZ := H6.out.1.put H6.out.2.1 H6.out.2.2
            rw [← hZ] at hRZ ⊢
            have HZ := Lib.hid hRZ
            clear hRZ hZ
            go_wp2_with fail
            go_roundg (5 - (i + 1))
            case measure => omega
            case rel =>
              have hstep : rCloseTo S r n (i + 1) = (eventR rI ⟨3, k, n, noText, (rStat S n)⟩, (rStat S n), true) := by
                rw [HI2.out.2.2.2.1, ← HK.out]
                unfold rCloseStep
                rw [if_neg (by have := HP.out; omega), ← HI2.out.1]
                have : rClSt S k n = (rStat S n) := HS.out
                rw [this]
              exact ⟨i + 1, r6, s6, rfl, hlt, by rw [HK.out]; push_cast; rfl, by rw [hstep], by rw [hstep], by rw [hstep, HE6.out], H6.out.2.2.trans HI2.out.2.1, HZ.out⟩
        · have HS := Lib.hid (show rClSt S k n = 0 from if_neg hk2)
          have hb2k : (k == 2) = false := beq_eq_false_iff_ne.2 (fun e => hk2 (.inl e))
          have hb5k : (k == 5) = false := beq_eq_false_iff_ne.2 (fun e => hk2 (.inr e))
          have hn2k : ¬ k = 2 := fun e => hk2 (.inl e)
          have hn5k : ¬ k = 5 := fun e => hk2 (.inr e)
          clear hk2
          go_upto_region 5 with (first
            | (go_at_call 52; refine (eventRef (H1.out).ref ⟨3, k, n, noText, 0⟩ hzeI).mono ?_; rintro e w6 ⟨s6, rfl, hs6, hr6, hb6⟩; have hRR := (H1.out).later hb6; obtain ⟨_, _, _, _, _, _, _, _, _, _, _, _, pz, _⟩ := hRR.rbox; obtain ⟨y0, y1, y2, y3, y4, y5, y6, y7, y8, y9, y10, y11, _, _⟩ := hRR.rbox; have pz0 := pz 0; have pz1 := pz 1; have pz2 := pz 2; have pz3 := pz 3; have pz4 := pz 4; have pz5 := pz 5; have pz6 := pz 6; have pz7 := pz 7; have pz8 := pz 8; have pz9 := pz 9; have pz10 := pz 10; have pz11 := pz 11; have H6 := Lib.hid (⟨hRR, hr6, hs6⟩ : _ ∧ _ ∧ _); obtain ⟨r6, hr6e⟩ : ∃ x, x = eventR rI ⟨3, k, n, noText, 0⟩ := ⟨_, rfl⟩; rw [← hr6e] at H6 ⊢; have HE6 := Lib.hid hr6e; clear hRR hr6 hs6 hb6 pz hr6e)
            | (go_at_call 15; refine (findRef HRI.out.ref k n hzoI).mono ?_; rintro e w1 ⟨rfl, hbb⟩; rw [HI2.out.2.2.1]; have hRR := (HRI.out).later hbb; obtain ⟨y0, y1, y2, y3, y4, y5, y6, y7, y8, y9, y10, y11, _, _⟩ := hRR.rbox; have H1 := Lib.hid hRR; clear hRR hbb))
          rw [put12_def]
          obtain ⟨wZ, hZ⟩ : ∃ wZ, wZ = put12 w6 b0 S r6 s6 := ⟨_, rfl⟩
          have hRZ := H6.out.1.put H6.out.2.1 H6.out.2.2
          rw [← hZ] at hRZ ⊢
          have HZ := Lib.hid hRZ
          clear hRZ hZ
          go_wp2_with fail
          go_roundg (5 - (i + 1))
          case measure => omega
          case rel =>
            have hstep : rCloseTo S r n (i + 1) = (eventR rI ⟨3, k, n, noText, 0⟩, 0, true) := by
              rw [HI2.out.2.2.2.1, ← HK.out]
              unfold rCloseStep
              rw [if_neg (by have := HP.out; omega), ← HI2.out.1]
              have : rClSt S k n = 0 := HS.out
              rw [this]
            exact ⟨i + 1, r6, s6, rfl, hlt, by rw [HK.out]; push_cast; rfl, by rw [hstep], by rw [hstep], by rw [hstep, HE6.out], H6.out.2.2.trans HI2.out.2.1, HZ.out⟩
    · obtain rfl : i = 5 := by omega
      generalize wr = wr0 at *
      have y9 := HRI.out.rbox.c9
      have HY9 := Lib.hid y9
      go_wp2_with fail
      clear y9
      go_loopg [12, 13] rI.opn.length (fun q l i w9 => ∃ j, rI.opn.length - j = q ∧ j ≤ rI.opn.length ∧ i = .int .i64 (j : Int) ∧ MadeS wr0 w9 (keepS n (rI.opn.take j)) l)
      case atStart => exact ⟨0, rfl, Nat.zero_le _, rfl, own_nil _ _ _ _, Below.refl _ _⟩
      case round =>
        obtain ⟨j, hq2, hj, rfl, hM⟩ := hrel
        obtain ⟨oo, co, rfl, _⟩ := hM.own.shape
        have y9 := (hM.below.cell (p := ⟨b0, 9, none⟩) (cell_lt HY9.out)).trans HY9.out
        have hkl : (keepS n (rI.opn.take j)).length ≤ 1000000 := Nat.le_trans (List.length_filter_le _ _) (by rw [List.length_take]; omega)
        by_cases hlt2 : j < rI.opn.length
        · have hlt2' : (j : Int) < (rI.opn.length : Int) := by omega
          obtain ⟨p, hp⟩ : ∃ p, rI.opn[j]? = some p := ⟨_, List.getElem?_eq_getElem hlt2⟩
          have htk : rI.opn.take (j + 1) = rI.opn.take j ++ [p] := by rw [List.take_add_one, hp]; rfl
          obtain ⟨g, hg, hc⟩ := (HRI.out.ref.ro.below hM.below).at lenS hp
          have e0 : wr.cell? ⟨g, j * 4, none⟩ = some (.int .u8 p.kind) := hc 0 (by decide)
          have e1 : wr.cell? ⟨g, j * 4 + 1, none⟩ = some (.string p.name) := hc 1 (by decide)
          have e2 : wr.cell? ⟨g, j * 4 + 2, none⟩ = some (.string p.source) := hc 2 (by decide)
          have e3 : wr.cell? ⟨g, j * 4 + 3, none⟩ = some (.int .i64 (p.taken : Int)) := hc 3 (by decide)
          rw [hg] at y9
          have HT := Lib.hid (⟨htk, hM⟩ : _ ∧ _)
          have hbase := hM.below.size
          clear htk hM hc hp hg
          by_cases hps : p.name = n
          · have HS := Lib.hid hps
            have hb : (p.name.toList == n.toList) = true := by rw [hps]; simp
            clear hps
            go_wp2_with fail
            go_roundg (rI.opn.length - (j + 1))
            case measure => omega
            case rel =>
              refine ⟨j + 1, rfl, hlt2, by go_num, ?_⟩
              rw [HT.out.1]
              have : keepS n (rI.opn.take j ++ [p]) = keepS n (rI.opn.take j) := by
                unfold keepS
                rw [List.filter_append]
                simp [HS.out]
              rw [this]
              exact HT.out.2
          · have HS := Lib.hid hps
            have hb : (p.name.toList == n.toList) = false := toList_ne hps
            clear hps
            obtain ⟨kl, hkl2⟩ : ∃ x, x = keepS n (rI.opn.take j) := ⟨_, rfl⟩
            rw [← hkl2] at HT hkl ⊢
            have HKL := Lib.hid hkl2
            clear hkl2
            go_wp2_with (at_builtin; refine wpList_append_lies _ rfl (.tmp 58) (.tmp 64) 35 rfl wr0.heap.size 109 i0 zz0 4 48 Try.underlying35 HI.out.1 HI.out.2.1 HI.out.2.2.1 HI.out.2.2.2.1 HI.out.2.2.2.2 (by decide) (.slice oo kl.length co) kl.length (flatL RStrm.cells kl) rfl ((HT.out.2.own).alloc _) ⟨wr.heap.size, 0, none⟩ 1 1 (p.cells) rfl rfl (World.news_of_block (heap_alloc_new wr _)) (oneS p) (by decide) (by unfold maxLen; omega) (by omega) (by rw [alloc_size]; exact Nat.le_succ_of_le hbase) _ rfl ?_; intro g2 cap2 w4 hown hgrow hat hlt4; have hb4 : Below wr0.heap.size wr0 w4 := (HT.out.2.below.trans (((Below.refl _ wr).alloc (Nat.le_refl _) _).mono HT.out.2.below.size)).grown hgrow (by rw [alloc_size]; exact Nat.le_succ_of_le hbase) (fun k hk => (HT.out.2.own.lt k hk).1); have HO := Lib.hid (MadeS.mk (l := kl ++ [p]) (v := .slice (some ⟨g2, 0, none⟩) (kl.length + 1) cap2) (by show World.ownsRow _ _ _ _ _ _ _; rw [List.length_append, flatL_snoc]; exact hown) hb4); clear hown hgrow hat hlt4 hb4)
            go_roundg (rI.opn.length - (j + 1))
            case measure => omega
            case rel =>
              have : keepS n (rI.opn.take j ++ [p]) = kl ++ [p] := by
                rw [HKL.out]
                unfold keepS
                rw [List.filter_append]
                simp [HS.out]
              rw [show (Value.slice (some ⟨g2, 0, none⟩) (kl.length + 1) cap2) = .slice (some ⟨g2, 0, none⟩) (kl.length + 1) cap2 from rfl]
              refine ⟨j + 1, rfl, hlt2, by go_num, ?_⟩
              rw [HT.out.1, this]
              exact HO.out
        · obtain rfl : j = rI.opn.length := by omega
          have hge2 : ¬ (rI.opn.length : Int) < (rI.opn.length : Int) := by omega
          rw [List.take_length] at hM ⊢
          have hRr := HRI.out.later hM.below
          have z9 := hRr.rbox.z 9
          have x9 := hRr.rbox.c9
          obtain ⟨s2, hs2⟩ : ∃ x : Shp, x = { sI with oO := oo, cO := co } := ⟨_, rfl⟩
          obtain ⟨r2, hr2⟩ : ∃ x : RSt, x = { rI with opn := keepS n rI.opn } := ⟨_, rfl⟩
          have hF := hRr.field (i := 9) (v := .slice oo (keepS n rI.opn).length co) (r' := r2) (s' := s2) (by rw [hs2, hr2]; rfl) ⟨by rw [hs2]; exact hRr.ref.rr, by rw [hs2]; exact hRr.ref.rx, by rw [hs2, hr2]; exact hRr.ref.rf, by rw [hs2, hr2]; exact Own.base hM.own (Nat.zero_le _), by rw [hs2, hr2]; exact hRr.ref.re, by rw [hs2]; exact hRr.ref.gh.setO (rows_okb hM.own HRI.out.ref.gh.bs) _⟩ (by rw [hs2]; rfl)
          have HN := Lib.hid (⟨hr2, (show s2.scr = s.scr by rw [hs2]; exact HI2.out.2.1)⟩ : _ ∧ _)
          clear hM hRr hs2 hr2
          go_upto_region 20 with fail
          obtain ⟨wY, hY⟩ : ∃ wY, wY = wr.setCell ⟨b0, 9, none⟩ (.slice oo (keepS n rI.opn).length co) := ⟨_, rfl⟩
          rw [← hY] at hF ⊢
          have HF := Lib.hid hF
          clear hY z9 x9 y9 hF
          obtain ⟨y0, y1, y2, y3, y4, y5, y6, y7, y8, y9, y10, y11, _, _⟩ := (HF.out).rbox
          obtain ⟨q0, q1, q2, q3, q4, q5, q6, q7, q8, q9, q10, q11, qz, _⟩ := (HF.out).rres
          have qz0 := qz 0
          have qz1 := qz 1
          have qz2 := qz 2
          have qz3 := qz 3
          have qz4 := qz 4
          have qz5 := qz 5
          have qz6 := qz 6
          have qz7 := qz 7
          have qz8 := qz 8
          have qz9 := qz 9
          have qz10 := qz 10
          have qz11 := qz 11
          clear qz
          go_wp2_with fail
          rw [put12_def]
          obtain ⟨d1, d2, d3⟩ := (HF.out).done
          obtain ⟨z0, z1, z2, z3, z4, z5, z6, z7, z8, z9, z10, z11, _, _⟩ := d3
          generalize put12 wY b2 S r2 s2 = w9 at *
          refine bodyPost_ret (v := .tuple #[.agg (s2.cells S r2), .int .i64 sta, .bool anb]) (by simp [results, Try.results34, go_sem, z0, z1, z2, z3, z4, z5, z6, z7, z8, z9, z10, z11]) rfl ?_
          have hfin : r2 = rCloseS S r n := by
            rw [HN.out.1, HI2.out.1, (rCloseTo_opn S r n 5).1]; rfl
          rw [hfin] at d1 ⊢
          rw [← HI2.out.2.2.2.2.1, ← HI2.out.2.2.2.2.2]
          exact ⟨s2, rfl, HN.out.2, d1, d2⟩
end
end Go.Proofs.Ythbkcdbmimhhkaa.Rw
