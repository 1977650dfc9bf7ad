/-
  CellsOrder answers true for every input, and leaves what was handed in as it was. Conditions: none beside the row's own (the listed variables hold what the program's text lays).
-/
import Derived.Test.YtfifgmhlcikjeaaGreatDoorBase
import Derived.Test.YtfifgmhlcikjeaaGreatDoorNum
import Derived.Test.YtfifgmhlcikjeaaGreatDoorTie
import Derived.Test.YtfifgmhlcikjeaaGreatDoorCards
import Derived.Test.YtfifgmhlcikjeaaGreatDoorCelD
import Derived.LaidMore
import Derived.Lay
import Derived.SevenTiedAt
namespace Go.Proofs.YtfifgmhlcikjeaaGreatDoor.Ro
open Go.ChangeShapes Go.WideShapes Go.ChangeAt Go.RowKit Go.Ev

theorem own : ownKnob Tryz.prog.godebug = none := by kernel_rfl
theorem laidOut : laidOutB Tryz.prog = true := by kernel_rfl
theorem laid_witness {os : Os} (args : Array Value) : laidMetH Tryz.prog laidAll ((World.laidAll Tryz.prog os laidAll).forCall (fun _ _ => 0) ⟨#[], args, []⟩).memory := by
  rw [MakeChecks.laidMetH_plain _ _ _ (by kernel_rfl)]; exact laidMet_laidAll _ (by kernel_rfl) (by kernel_rfl)
theorem shaped_witness {os : Os} (args : Array Value) : ((World.laidAll Tryz.prog os laidAll).forCall (fun _ _ => 0) ⟨#[], args, []⟩).Shaped Tryz.prog := World.shaped_of_ZipB (by kernel_rfl) (by kernel_rfl)

set_option maxRecDepth 100000 in
theorem cell_opened {H : Type} {enc : TypeId × Value → H} {W : World} {b : Nat} {sp : Nat → Bool} {hd : Bool} {v : Value} {d : DataW H} {p : List MemPlace} (h : DataW.Trod enc Tryz.prog W b sp hd 25 v d p) {base : Nat} (hv : Value.okWide Tryz.prog W .any base 25 v) :
    ∃ k n s, v = Cel.cellV k n s := by
  obtain ⟨⟨cs⟩, rfl, _⟩ := okWide_struct Tryz.underlying25 hv
  obtain ⟨fuel, h⟩ := h
  have c25 : Tryz.prog.cellsOf 25 = 3 := by kernel_rfl
  have c22 : Tryz.prog.cellsOf 22 = 1 := by kernel_rfl
  have c23 : Tryz.prog.cellsOf 23 = 1 := by kernel_rfl
  have c9 : Tryz.prog.cellsOf 9 = 1 := by kernel_rfl
  obtain ⟨xs, n, rfl, _, hl, hxl, hf⟩ := DataW.trod_struct Tryz.underlying25 h
  clear h
  rw [c25] at hl
  have hxl' : xs.length = 3 := hxl
  have hl' : cs.length = 3 := hl
  match cs, hl', xs, hxl' with
  | [u0, u1, u2], _, [y0, y1, y2], _ =>
    have h0 : DataW.trod enc Tryz.prog W b sp hd n 22 (([u0, u1, u2].drop 0).take (Tryz.prog.cellsOf 22)) = some y0 := hf 0 _ rfl
    have h1 : DataW.trod enc Tryz.prog W b sp hd n 23 (([u0, u1, u2].drop 1).take (Tryz.prog.cellsOf 23)) = some y1 := hf 1 _ rfl
    have h2 : DataW.trod enc Tryz.prog W b sp hd n 9 (([u0, u1, u2].drop 2).take (Tryz.prog.cellsOf 9)) = some y2 := hf 2 _ rfl
    rw [c22] at h0
    rw [c23] at h1
    rw [c9] at h2
    obtain ⟨k, e0, _, _⟩ := DataW.trod_int Tryz.underlying22 h0
    obtain ⟨m, e1, _, _⟩ := DataW.trod_int Tryz.underlying23 h1
    obtain ⟨s, e2, _, _⟩ := DataW.trod_string Tryz.underlying9 h2
    simp at e0 e1 e2
    subst e0 e1 e2
    exact ⟨k, m, s, rfl⟩

def Dk (w : World) : Prop := 17 ≤ w.heap.size ∧ Base.ok (old w) w
theorem Dk_below (w w' : World) (h : Below w.heap.size w w') (hd : Dk w) : Dk w' :=
  ⟨Nat.le_trans hd.1 h.size, Base.keep (Kept.of_below h) (fun _ hk => Nat.lt_of_lt_of_le hk h.size) hd.2⟩
theorem awakeHere : Cel.Awake Dk := fun w hw => (Go.Ev.known2).call w hw.1 hw.2

set_option maxRecDepth 100000 in
theorem order_lifted (os : Os) (started : os.Started) (H : Type) (enc : TypeId × Value → H) :
    ReturnsInHanded {} Tryz.checked os 4 .any (fun w args => (Rows.cellsOrderSpec.pre enc Tryz.prog Tryz.f4 Rows.cellsOrderRow.domain false w args ∧ laidMetH Tryz.prog Rows.cellsOrderRow.laid w) ∧ sizedMet enc Tryz.prog Tryz.f4 (OpenSpec.ofChange Rows.cellsOrderSpec) false w args)
      (Rows.cellsOrderSpec.post enc Tryz.prog Tryz.f4 false true false false) := by
  refine returnsInHanded_of_change_laid (C := Tryz.checked) (X := fun w _ => laidMetH Tryz.prog Rows.cellsOrderRow.laid w) (fun _ _ _ hh h => h.of_heap hh) own started (by kernel_rfl) Tryz.func4
    (ChangeSpec.witness_shaped (enc := enc) (C := Tryz.checked) (os := os) (X := fun w _ => laidMetH Tryz.prog Rows.cellsOrderRow.laid w) false (World.laidAll Tryz.prog os laidAll) #[.agg #[.int .u8 0, .int .u64 0, .string ⟨#[]⟩], .agg #[.int .u8 0, .int .u64 0, .string ⟨#[]⟩], .agg #[.int .u8 0, .int .u64 0, .string ⟨#[]⟩]] 8 (World.laidAll_os _ _ _)
      (shaped_witness _) (by kernel_rfl) (by kernel_rfl) (by kernel_rfl) (laid_witness _)) ?_
  intro W base args ds gs before hval0 hW hL hsh
  have hval : ∀ (j : Nat) t v, Tryz.f4.params[j]? = some t → args[j]? = some v → Value.okWide Tryz.prog W .any base t v := hval0
  have hW' := hW
  obtain ⟨p, q, hA0, hV, rfl, _, _⟩ := hW
  have hA : DataW.TrodAll enc Tryz.prog W 0 (fun _ => true) true Tryz.f4.params.toList args.toList ds p := hA0
  rw [Tryz.params4] at hA hval
  obtain ⟨v0, vs0, d0, ds0, p0, q0, hargs, rfl, rfl, h0, r0⟩ := trodAll_cons hA
  obtain ⟨v1, vs1, d1, ds1, p1, q1, rfl, rfl, rfl, h1, r1⟩ := trodAll_cons r0
  obtain ⟨v2, vs2, d2, ds2, p2, q2, rfl, rfl, rfl, h2, r2⟩ := trodAll_cons r1
  obtain ⟨rfl, rfl, rfl⟩ := trodAll_nil r2
  obtain rfl : args = #[v0, v1, v2] := by cases args; simp_all
  obtain ⟨rfl, rfl⟩ := trodVars_none hV
  obtain ⟨k, n, s, rfl⟩ := cell_opened h0 (hval 0 25 v0 rfl rfl)
  obtain ⟨k', n', s', rfl⟩ := cell_opened h1 (hval 1 25 v1 rfl rfl)
  obtain ⟨k'', n'', s'', rfl⟩ := cell_opened h2 (hval 2 25 v2 rfl rfl)
  refine (Cel.cellsOrder Dk_below awakeHere k n k' n' k'' n'' s s' s'' W ⟨enough hsh, base_ok hL hsh⟩).mono fun e W' ⟨he, hB⟩ => ?_
  subst he
  exact ⟨_, rfl, post_reads laidOut (by kernel_rfl) hW' rfl (fun _ _ _ => trodAll_cons_mk (shut_bool Tryz.underlying4 _) trodAll_mk0) rfl rfl hB⟩

end Go.Proofs.YtfifgmhlcikjeaaGreatDoor.Ro
namespace Go.Proofs.YtfifgmhlcikjeaaGreatDoor
open Go.RowKit
theorem cellsOrder_said : Rows.CellsOrderSaid :=
  OpenClaim.holds_of_wide 4 Tryz.f4 rfl rfl rfl rfl rfl rfl rfl ⟨rfl, rfl, rfl, rfl, rfl⟩ rfl rfl rfl rfl rfl (by kernel_rfl) Tryz.func4 (by kernel_rfl)
    (of_decide_eq_true (by kernel_rfl)) (by unfold Func.isWrapper; first | (rw [if_pos (by decide +kernel)]; kernel_rfl) | (rw [if_neg (by decide +kernel)]; exact ⟨rfl, rfl⟩))
    (fun os started H enc _ => Ro.order_lifted os started H enc)
theorem cellsOrder_holds : Rows.CellsOrderCardSaid :=
  Claim7.holds_tied_plain_at .later [] [.data, .data, .widerDeep, .widerDeep, .data, .data, .data, .data, .data, .data, .sentinel, .sentinel, .pinned, .pinned, .pinned] true (true, "8c17ead8c3d14988e5f939f470b84588c1ac74ed18b241991c295099e8196604") true cellsOrder_said (fun _ h => by cases h) (by kernel_rfl) (fun _ h => by cases h) cellsOrder_row_tie rfl ⟨rfl, rfl⟩ (by kernel_rfl) rfl
    (fun f fn hf hfn => by
      obtain rfl : f = 4 := Option.some.inj ((show Tryz.prog.funcNamed "winnower/winnowerlaw08.CellsOrder" = some 4 by kernel_rfl).symm.trans hf) |>.symm
      obtain rfl : fn = Tryz.f4 := (Option.some.inj (Tryz.func4.symm.trans hfn)).symm
      exact ⟨by kernel_rfl, fun j t ht => by
        rw [Tryz.params4] at ht
        have hm : t ∈ [25, 25, 25] := by simpa using Array.mem_of_getElem? ht
        have hall : ([25, 25, 25].all fun u => !Tryz.prog.wantsStandIn u) = true := by kernel_rfl
        exact (show Tryz.prog.wantsStandIn t = false by simpa using List.all_eq_true.1 hall t hm)⟩)
    (by kernel_rfl)
#print axioms cellsOrder_holds
end Go.Proofs.YtfifgmhlcikjeaaGreatDoor
