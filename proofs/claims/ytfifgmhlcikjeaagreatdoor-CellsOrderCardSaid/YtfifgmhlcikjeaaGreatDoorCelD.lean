/-
  Package cells' statements: CellsOrder, walked.
-/
import Derived.Test.YtfifgmhlcikjeaaGreatDoorCelC
namespace Go.Proofs.YtfifgmhlcikjeaaGreatDoor.Cel
open Go.RowKit

structure Later (u : World) where
  w : World
  h : Below u.heap.size u w
instance (u : World) : Nonempty (Later u) := ⟨⟨u, Below.refl _ _⟩⟩
theorem wp_region_later {P : Program} {id : Nat} {Q : Exit → Act → World → Prop} {a : Act} {w : World} {l : List Oper} (hm : P.follows .mixedOrders = true) (hB : Region.lexB .any l.toArray = true)
    (h : wpQuiet P l.toArray (fun w' => ∃ x : Later w, w' = x.w) (fun a' => ∀ w', (∃ x : Later w, w' = x.w) → Q .normal a' w') l a) : (Code.region id l.toArray true).wp P Q a w :=
  wp_region_quiet (C := fun w' => ∃ x : Later w, w' = x.w) hm hB ⟨⟨{ w with drawn := w.drawn + 1 }, ⟨rfl, rfl, rfl, Nat.le_refl _, fun _ _ => rfl⟩⟩, rfl⟩ (by simpa using h)
theorem Later.cell {w : World} (x : Later w) {p : Addr} {v : Value} (h : w.cell? p = some v) : x.w.cell? p = some v := (x.h.cell (cell_lt h)).trans h
/- A call in such a region: what it makes lies behind. -/
theorem later_call {P : Program} {f : FuncId} {args : Array Value} {w : World} {x : Later w} {v : Value} (h : Calls P f args x.w fun e w' => e = .returned v ∧ Below x.w.heap.size x.w w') :
    Calls P f args x.w fun e w'' => e = .returned v ∧ ∃ y : Later w, w'' = y.w :=
  h.mono fun _ w' ⟨he, hb⟩ => ⟨he, ⟨w', x.h.trans (hb.mono x.h.size)⟩, rfl⟩

theorem textsU (k n : Int) (s : ByteArray) (w : World) :
    Calls Tryz.prog 20 #[.agg #[.int .u8 k, .int .u64 n, .string s]] w fun e w' => e = .returned (.bool !(numericB k)) ∧ Below w.heap.size w w' := texts k n s w
theorem later_texts {w : World} {x : Later w} (k n : Int) (s : ByteArray) :
    Calls Tryz.prog 20 #[.agg #[.int .u8 k, .int .u64 n, .string s]] x.w fun e w'' => e = .returned (.bool !(numericB k)) ∧ ∃ y : Later w, w'' = y.w := later_call (textsU k n s x.w)

theorem cmpU (k n k' n' : Int) (s s' f : ByteArray) (w : World) (hs : numericB k' = numericB k) :
    Calls Tryz.prog 17 #[.agg #[.int .u8 k, .int .u64 n, .string s], .agg #[.int .u8 k', .int .u64 n', .string s'], .string f] w
      fun e w' => e = .returned (.tuple #[.int .i64 (cmpI k n s k' n' s'), .int .i64 0]) ∧ Below w.heap.size w w' := compare k n k' n' s s' f w hs
theorem cmpI_order (n : Bool) : IsOrder (fun (a b : {x : Int × Int × ByteArray // numericB x.1 = n}) => cmpI a.1.1 a.1.2.1 a.1.2.2 b.1.1 b.1.2.1 b.1.2.2) := by
  cases n with
  | true =>
    have := order_map cmpF_order (fun a : {x : Int × Int × ByteArray // numericB x.1 = true} => (bitsI a.1.1 a.1.2.1).toNat)
    have e : (fun (a b : {x : Int × Int × ByteArray // numericB x.1 = true}) => cmpI a.1.1 a.1.2.1 a.1.2.2 b.1.1 b.1.2.1 b.1.2.2) = fun a b => cmpF (bitsI a.1.1 a.1.2.1).toNat (bitsI b.1.1 b.1.2.1).toNat := by
      funext a b; unfold cmpI; rw [if_pos a.2]
    rw [e]; exact this
  | false =>
    have := order_map cmpS_order (fun a : {x : Int × Int × ByteArray // numericB x.1 = false} => textI a.1.1 a.1.2.2)
    have e : (fun (a b : {x : Int × Int × ByteArray // numericB x.1 = false}) => cmpI a.1.1 a.1.2.1 a.1.2.2 b.1.1 b.1.2.1 b.1.2.2) = fun a b => cmpS (textI a.1.1 a.1.2.2) (textI b.1.1 b.1.2.2) := by
      funext a b; unfold cmpI; rw [if_neg (by rw [a.2]; simp)]
    rw [e]; exact this
structure Facts (x y z u v : Int) : Prop where
  u : u = -x
  v : v = 0
  low : -1 ≤ x ∧ x ≤ 1
  chain : x ≤ 0 → y ≤ 0 → z ≤ 0 ∧ (z = 0 → x = 0 ∧ y = 0)
theorem facts (k n k' n' k'' n'' : Int) (s s' s'' : ByteArray) (q1 : numericB k' = numericB k) (q2 : numericB k'' = numericB k) :
    Facts (cmpI k n s k' n' s') (cmpI k' n' s' k'' n'' s'') (cmpI k n s k'' n'' s'') (cmpI k' n' s' k n s) (cmpI k n s k n s) := by
  have h := cmpI_order (numericB k)
  have a : {x : Int × Int × ByteArray // numericB x.1 = numericB k} := ⟨(k, n, s), rfl⟩
  exact ⟨h.turn ⟨(k, n, s), rfl⟩ ⟨(k', n', s'), q1⟩, h.self ⟨(k, n, s), rfl⟩, h.low ⟨(k, n, s), rfl⟩ ⟨(k', n', s'), q1⟩, h.chain ⟨(k, n, s), rfl⟩ ⟨(k', n', s'), q1⟩ ⟨(k'', n'', s''), q2⟩⟩

def Awake (D : World → Prop) : Prop := ∀ w : World, D w → Calls Tryz.prog 19 #[] w fun e w' => e = .returned (.bool true) ∧ Below w.heap.size w w'

set_option maxHeartbeats 4000000 in
set_option maxRecDepth 100000 in
theorem cellsOrder {D : World → Prop} (hD : ∀ w w', Below w.heap.size w w' → D w → D w') (haw : Awake D) (k n k' n' k'' n'' : Int) (s s' s'' : ByteArray) (w : World) (hw : D w) :
    Calls Tryz.prog 4 #[cellV k n s, cellV k' n' s', cellV k'' n'' s''] w fun e w' => e = .returned (.bool true) ∧ Below w.heap.size w w' := by
  by_cases h1 : (300 : Int) < ((s.size : Nat) : Int)
  · unfold cellV at *
    go_enter Tryz.func4, Tryz.ntmps4
    go_wp2_with fail
    have HT0 := Three.new w #[.int .u8 k, .int .u64 n, .string s] #[.int .u8 k', .int .u64 n', .string s'] #[.int .u8 k'', .int .u64 n'', .string s''] 25 25 25
    revert HT0
    generalize ((w.alloc (.cells #[.int .u8 k, .int .u64 n, .string s] 25)).alloc (.cells #[.int .u8 k', .int .u64 n', .string s'] 25)).alloc (.cells #[.int .u8 k'', .int .u64 n'', .string s''] 25) = u
    intro HT0
    have HT := Lib.hid HT0
    clear HT0
    refine wp_region_later (by kernel_rfl) (by kernel_rfl) ?_
    have L0 := fun x : Later _ => x.cell (HT.out.fst 0 _ rfl)
    have L1 := fun x : Later _ => x.cell (HT.out.fst 1 _ rfl)
    have L2 := fun x : Later _ => x.cell (HT.out.fst 2 _ rfl)
    have M0 := fun x : Later _ => x.cell (HT.out.snd 0 _ rfl)
    have M1 := fun x : Later _ => x.cell (HT.out.snd 1 _ rfl)
    have M2 := fun x : Later _ => x.cell (HT.out.snd 2 _ rfl)
    have N0 := fun x : Later _ => x.cell (HT.out.trd 0 _ rfl)
    have N1 := fun x : Later _ => x.cell (HT.out.trd 1 _ rfl)
    have N2 := fun x : Later _ => x.cell (HT.out.trd 2 _ rfl)
    repeat quiet_step (first | (go_at_call 20; exact later_texts _ _ _))
    refine wpQuiet_nil ?_
    rintro _ ⟨x, rfl⟩
    have ht := HT.out.below x.h
    clear L0 L1 L2 M0 M1 M2 N0 N1 N2 HT
    revert ht
    generalize x.w = y
    intro ht
    have H0 := Lib.hid ht
    clear ht
    go_wp2_with (go_at_call 19; refine (haw _ (hD _ _ H0.out.low hw)).mono ?_; rintro e w6 ⟨rfl, hb6⟩; have H6 := Lib.hid (H0.out.low.trans (hb6.mono H0.out.low.size)); clear hb6)
    all_goals go_ret
    exact ⟨rfl, H6.out⟩
  by_cases h2 : (300 : Int) < ((s'.size : Nat) : Int)
  · unfold cellV at *
    go_enter Tryz.func4, Tryz.ntmps4
    go_wp2_with fail
    have HT0 := Three.new w #[.int .u8 k, .int .u64 n, .string s] #[.int .u8 k', .int .u64 n', .string s'] #[.int .u8 k'', .int .u64 n'', .string s''] 25 25 25
    revert HT0
    generalize ((w.alloc (.cells #[.int .u8 k, .int .u64 n, .string s] 25)).alloc (.cells #[.int .u8 k', .int .u64 n', .string s'] 25)).alloc (.cells #[.int .u8 k'', .int .u64 n'', .string s''] 25) = u
    intro HT0
    have HT := Lib.hid HT0
    clear HT0
    refine wp_region_later (by kernel_rfl) (by kernel_rfl) ?_
    have L0 := fun x : Later _ => x.cell (HT.out.fst 0 _ rfl)
    have L1 := fun x : Later _ => x.cell (HT.out.fst 1 _ rfl)
    have L2 := fun x : Later _ => x.cell (HT.out.fst 2 _ rfl)
    have M0 := fun x : Later _ => x.cell (HT.out.snd 0 _ rfl)
    have M1 := fun x : Later _ => x.cell (HT.out.snd 1 _ rfl)
    have M2 := fun x : Later _ => x.cell (HT.out.snd 2 _ rfl)
    have N0 := fun x : Later _ => x.cell (HT.out.trd 0 _ rfl)
    have N1 := fun x : Later _ => x.cell (HT.out.trd 1 _ rfl)
    have N2 := fun x : Later _ => x.cell (HT.out.trd 2 _ rfl)
    repeat quiet_step (first | (go_at_call 20; exact later_texts _ _ _))
    refine wpQuiet_nil ?_
    rintro _ ⟨x, rfl⟩
    have ht := HT.out.below x.h
    clear L0 L1 L2 M0 M1 M2 N0 N1 N2 HT
    revert ht
    generalize x.w = y
    intro ht
    have H0 := Lib.hid ht
    clear ht
    go_wp2_with (go_at_call 19; refine (haw _ (hD _ _ H0.out.low hw)).mono ?_; rintro e w6 ⟨rfl, hb6⟩; have H6 := Lib.hid (H0.out.low.trans (hb6.mono H0.out.low.size)); clear hb6)
    all_goals go_ret
    exact ⟨rfl, H6.out⟩
  by_cases h3 : (300 : Int) < ((s''.size : Nat) : Int)
  · unfold cellV at *
    go_enter Tryz.func4, Tryz.ntmps4
    go_wp2_with fail
    have HT0 := Three.new w #[.int .u8 k, .int .u64 n, .string s] #[.int .u8 k', .int .u64 n', .string s'] #[.int .u8 k'', .int .u64 n'', .string s''] 25 25 25
    revert HT0
    generalize ((w.alloc (.cells #[.int .u8 k, .int .u64 n, .string s] 25)).alloc (.cells #[.int .u8 k', .int .u64 n', .string s'] 25)).alloc (.cells #[.int .u8 k'', .int .u64 n'', .string s''] 25) = u
    intro HT0
    have HT := Lib.hid HT0
    clear HT0
    refine wp_region_later (by kernel_rfl) (by kernel_rfl) ?_
    have L0 := fun x : Later _ => x.cell (HT.out.fst 0 _ rfl)
    have L1 := fun x : Later _ => x.cell (HT.out.fst 1 _ rfl)
    have L2 := fun x : Later _ => x.cell (HT.out.fst 2 _ rfl)
    have M0 := fun x : Later _ => x.cell (HT.out.snd 0 _ rfl)
    have M1 := fun x : Later _ => x.cell (HT.out.snd 1 _ rfl)
    have M2 := fun x : Later _ => x.cell (HT.out.snd 2 _ rfl)
    have N0 := fun x : Later _ => x.cell (HT.out.trd 0 _ rfl)
    have N1 := fun x : Later _ => x.cell (HT.out.trd 1 _ rfl)
    have N2 := fun x : Later _ => x.cell (HT.out.trd 2 _ rfl)
    repeat quiet_step (first | (go_at_call 20; exact later_texts _ _ _))
    refine wpQuiet_nil ?_
    rintro _ ⟨x, rfl⟩
    have ht := HT.out.below x.h
    clear L0 L1 L2 M0 M1 M2 N0 N1 N2 HT
    revert ht
    generalize x.w = y
    intro ht
    have H0 := Lib.hid ht
    clear ht
    go_wp2_with (go_at_call 19; refine (haw _ (hD _ _ H0.out.low hw)).mono ?_; rintro e w6 ⟨rfl, hb6⟩; have H6 := Lib.hid (H0.out.low.trans (hb6.mono H0.out.low.size)); clear hb6)
    all_goals go_ret
    exact ⟨rfl, H6.out⟩
  by_cases q1 : numericB k' = numericB k
  · by_cases q2 : numericB k'' = numericB k
    · have HF := Lib.hid (facts k n k' n' k'' n'' s s' s'' q1 q2)
      unfold cellV at *
      go_enter Tryz.func4, Tryz.ntmps4
      go_wp2_with fail
      have HT0 := Three.new w #[.int .u8 k, .int .u64 n, .string s] #[.int .u8 k', .int .u64 n', .string s'] #[.int .u8 k'', .int .u64 n'', .string s''] 25 25 25
      revert HT0
      generalize ((w.alloc (.cells #[.int .u8 k, .int .u64 n, .string s] 25)).alloc (.cells #[.int .u8 k', .int .u64 n', .string s'] 25)).alloc (.cells #[.int .u8 k'', .int .u64 n'', .string s''] 25) = u
      intro HT0
      have HT := Lib.hid HT0
      clear HT0
      refine wp_region_later (by kernel_rfl) (by kernel_rfl) ?_
      have L0 := fun x : Later _ => x.cell (HT.out.fst 0 _ rfl)
      have L1 := fun x : Later _ => x.cell (HT.out.fst 1 _ rfl)
      have L2 := fun x : Later _ => x.cell (HT.out.fst 2 _ rfl)
      have M0 := fun x : Later _ => x.cell (HT.out.snd 0 _ rfl)
      have M1 := fun x : Later _ => x.cell (HT.out.snd 1 _ rfl)
      have M2 := fun x : Later _ => x.cell (HT.out.snd 2 _ rfl)
      have N0 := fun x : Later _ => x.cell (HT.out.trd 0 _ rfl)
      have N1 := fun x : Later _ => x.cell (HT.out.trd 1 _ rfl)
      have N2 := fun x : Later _ => x.cell (HT.out.trd 2 _ rfl)
      repeat quiet_step (first | (go_at_call 20; exact later_texts _ _ _))
      refine wpQuiet_nil ?_
      rintro _ ⟨x, rfl⟩
      have ht := HT.out.below x.h
      clear L0 L1 L2 M0 M1 M2 N0 N1 N2 HT
      revert ht
      generalize x.w = y
      intro ht
      have c000 := ht.fst 0 _ rfl
      have c001 := ht.fst 1 _ rfl
      have c002 := ht.fst 2 _ rfl
      have c010 := ht.snd 0 _ rfl
      have c011 := ht.snd 1 _ rfl
      have c012 := ht.snd 2 _ rfl
      have c020 := ht.trd 0 _ rfl
      have c021 := ht.trd 1 _ rfl
      have c022 := ht.trd 2 _ rfl
      have H0 := Lib.hid ht
      clear ht
      go_wp2_with (first
        | (have HH := H5.out; go_at_call 19; refine (haw _ (hD _ _ H5.out.low hw)).mono ?_; rintro e w6 ⟨rfl, hb6⟩; have H6 := Lib.hid (H5.out.low.trans (hb6.mono H5.out.low.size)); clear hb6)
        | (have HH := H4.out; go_at_call 17; refine (cmpU _ _ _ _ _ _ _ _ rfl).mono ?_; rintro e w5 ⟨rfl, hb5⟩; clear HH; have ht := H4.out.below hb5; have c500 := ht.fst 0 _ rfl; have c501 := ht.fst 1 _ rfl; have c502 := ht.fst 2 _ rfl; have c510 := ht.snd 0 _ rfl; have c511 := ht.snd 1 _ rfl; have c512 := ht.snd 2 _ rfl; have c520 := ht.trd 0 _ rfl; have c521 := ht.trd 1 _ rfl; have c522 := ht.trd 2 _ rfl; have H5 := Lib.hid ht; clear ht hb5)
        | (have HH := H3.out; go_at_call 17; refine (cmpU _ _ _ _ _ _ _ _ q1.symm).mono ?_; rintro e w4 ⟨rfl, hb4⟩; clear HH; have ht := H3.out.below hb4; have c400 := ht.fst 0 _ rfl; have c401 := ht.fst 1 _ rfl; have c402 := ht.fst 2 _ rfl; have c410 := ht.snd 0 _ rfl; have c411 := ht.snd 1 _ rfl; have c412 := ht.snd 2 _ rfl; have c420 := ht.trd 0 _ rfl; have c421 := ht.trd 1 _ rfl; have c422 := ht.trd 2 _ rfl; have H4 := Lib.hid ht; clear ht hb4)
        | (have HH := H2.out; go_at_call 17; refine (cmpU _ _ _ _ _ _ _ _ q2).mono ?_; rintro e w3 ⟨rfl, hb3⟩; clear HH; have ht := H2.out.below hb3; have c300 := ht.fst 0 _ rfl; have c301 := ht.fst 1 _ rfl; have c302 := ht.fst 2 _ rfl; have c310 := ht.snd 0 _ rfl; have c311 := ht.snd 1 _ rfl; have c312 := ht.snd 2 _ rfl; have c320 := ht.trd 0 _ rfl; have c321 := ht.trd 1 _ rfl; have c322 := ht.trd 2 _ rfl; have H3 := Lib.hid ht; clear ht hb3)
        | (have HH := H1.out; go_at_call 17; refine (cmpU _ _ _ _ _ _ _ _ (q2.trans q1.symm)).mono ?_; rintro e w2 ⟨rfl, hb2⟩; clear HH; have ht := H1.out.below hb2; have c200 := ht.fst 0 _ rfl; have c201 := ht.fst 1 _ rfl; have c202 := ht.fst 2 _ rfl; have c210 := ht.snd 0 _ rfl; have c211 := ht.snd 1 _ rfl; have c212 := ht.snd 2 _ rfl; have c220 := ht.trd 0 _ rfl; have c221 := ht.trd 1 _ rfl; have c222 := ht.trd 2 _ rfl; have H2 := Lib.hid ht; clear ht hb2)
        | (have HH := H0.out; go_at_call 17; refine (cmpU _ _ _ _ _ _ _ _ q1).mono ?_; rintro e w1 ⟨rfl, hb1⟩; clear HH; have ht := H0.out.below hb1; have c100 := ht.fst 0 _ rfl; have c101 := ht.fst 1 _ rfl; have c102 := ht.fst 2 _ rfl; have c110 := ht.snd 0 _ rfl; have c111 := ht.snd 1 _ rfl; have c112 := ht.snd 2 _ rfl; have c120 := ht.trd 0 _ rfl; have c121 := ht.trd 1 _ rfl; have c122 := ht.trd 2 _ rfl; have H1 := Lib.hid ht; clear ht hb1))
      all_goals first
        | (go_ret; exact ⟨rfl, H6.out⟩)
        | (exfalso; have F := HF.out; obtain ⟨f1, f2, f3, f4⟩ := F; try simp only [wrap64] at *; omega)
    · have q3 : numericB k'' = !(numericB k) := by cases h : numericB k <;> cases h' : numericB k'' <;> simp_all
      clear q2
      unfold cellV at *
      go_enter Tryz.func4, Tryz.ntmps4
      go_wp2_with fail
      have HT0 := Three.new w #[.int .u8 k, .int .u64 n, .string s] #[.int .u8 k', .int .u64 n', .string s'] #[.int .u8 k'', .int .u64 n'', .string s''] 25 25 25
      revert HT0
      generalize ((w.alloc (.cells #[.int .u8 k, .int .u64 n, .string s] 25)).alloc (.cells #[.int .u8 k', .int .u64 n', .string s'] 25)).alloc (.cells #[.int .u8 k'', .int .u64 n'', .string s''] 25) = u
      intro HT0
      have HT := Lib.hid HT0
      clear HT0
      refine wp_region_later (by kernel_rfl) (by kernel_rfl) ?_
      have L0 := fun x : Later _ => x.cell (HT.out.fst 0 _ rfl)
      have L1 := fun x : Later _ => x.cell (HT.out.fst 1 _ rfl)
      have L2 := fun x : Later _ => x.cell (HT.out.fst 2 _ rfl)
      have M0 := fun x : Later _ => x.cell (HT.out.snd 0 _ rfl)
      have M1 := fun x : Later _ => x.cell (HT.out.snd 1 _ rfl)
      have M2 := fun x : Later _ => x.cell (HT.out.snd 2 _ rfl)
      have N0 := fun x : Later _ => x.cell (HT.out.trd 0 _ rfl)
      have N1 := fun x : Later _ => x.cell (HT.out.trd 1 _ rfl)
      have N2 := fun x : Later _ => x.cell (HT.out.trd 2 _ rfl)
      repeat quiet_step (first | (go_at_call 20; exact later_texts _ _ _))
      refine wpQuiet_nil ?_
      rintro _ ⟨x, rfl⟩
      have ht := HT.out.below x.h
      clear L0 L1 L2 M0 M1 M2 N0 N1 N2 HT
      revert ht
      generalize x.w = y
      intro ht
      have H0 := Lib.hid ht
      clear ht
      go_wp2_with (go_at_call 19; refine (haw _ (hD _ _ H0.out.low hw)).mono ?_; rintro e w6 ⟨rfl, hb6⟩; have H6 := Lib.hid (H0.out.low.trans (hb6.mono H0.out.low.size)); clear hb6)
      all_goals go_ret
      exact ⟨rfl, H6.out⟩
  · have q3 : numericB k' = !(numericB k) := by cases h : numericB k <;> cases h' : numericB k' <;> simp_all
    clear q1
    unfold cellV at *
    go_enter Tryz.func4, Tryz.ntmps4
    go_wp2_with fail
    have HT0 := Three.new w #[.int .u8 k, .int .u64 n, .string s] #[.int .u8 k', .int .u64 n', .string s'] #[.int .u8 k'', .int .u64 n'', .string s''] 25 25 25
    revert HT0
    generalize ((w.alloc (.cells #[.int .u8 k, .int .u64 n, .string s] 25)).alloc (.cells #[.int .u8 k', .int .u64 n', .string s'] 25)).alloc (.cells #[.int .u8 k'', .int .u64 n'', .string s''] 25) = u
    intro HT0
    have HT := Lib.hid HT0
    clear HT0
    refine wp_region_later (by kernel_rfl) (by kernel_rfl) ?_
    have L0 := fun x : Later _ => x.cell (HT.out.fst 0 _ rfl)
    have L1 := fun x : Later _ => x.cell (HT.out.fst 1 _ rfl)
    have L2 := fun x : Later _ => x.cell (HT.out.fst 2 _ rfl)
    have M0 := fun x : Later _ => x.cell (HT.out.snd 0 _ rfl)
    have M1 := fun x : Later _ => x.cell (HT.out.snd 1 _ rfl)
    have M2 := fun x : Later _ => x.cell (HT.out.snd 2 _ rfl)
    have N0 := fun x : Later _ => x.cell (HT.out.trd 0 _ rfl)
    have N1 := fun x : Later _ => x.cell (HT.out.trd 1 _ rfl)
    have N2 := fun x : Later _ => x.cell (HT.out.trd 2 _ rfl)
    repeat quiet_step (first | (go_at_call 20; exact later_texts _ _ _))
    refine wpQuiet_nil ?_
    rintro _ ⟨x, rfl⟩
    have ht := HT.out.below x.h
    clear L0 L1 L2 M0 M1 M2 N0 N1 N2 HT
    revert ht
    generalize x.w = y
    intro ht
    have H0 := Lib.hid ht
    clear ht
    go_wp2_with (go_at_call 19; refine (haw _ (hD _ _ H0.out.low hw)).mono ?_; rintro e w6 ⟨rfl, hb6⟩; have H6 := Lib.hid (H0.out.low.trans (hb6.mono H0.out.low.size)); clear hb6)
    all_goals go_ret
    exact ⟨rfl, H6.out⟩
end Go.Proofs.YtfifgmhlcikjeaaGreatDoor.Cel
