/-
  FieldsNone answers true for every input, and leaves what was handed in as it was. Conditions: none beside the row's own (the listed variables hold what the program's text lays).
-/
import Derived.Test.YtoghgbljglofnaaGreatDoorAwake
import Derived.Test.YtoghgbljglofnaaGreatDoorFacts
import Derived.Test.YtoghgbljglofnaaGreatDoorEv7
import Derived.Test.YtoghgbljglofnaaGreatDoorRows
import Derived.Test.YtoghgbljglofnaaGreatDoorTie
import Derived.Test.YtoghgbljglofnaaGreatDoorCards
import Derived.Stop.Joined
import Derived.MakeChecks
import Derived.LaidMore
import Derived.Lay
import Derived.SevenTiedAt
import Derived.OpenShut
namespace Go.Proofs.YtoghgbljglofnaaGreatDoor.Ro
open Go.ChangeShapes Go.WideShapes Go.ChangeAt Go.RowKit Go.Ev Go.Lib
open Go.ChangeMaps (open_string shut_string)

def laidAll : List (String × DataW Unit) := Rows.fieldsNoneRow.laid
theorem enough {W : World} (h : W.ShapedOpen Tryz.prog) : 17 ≤ W.heap.size := size_of_shaped h (by kernel_rfl) (by kernel_rfl)
theorem own : ownKnob Tryz.prog.godebug = none := by kernel_rfl
theorem laidOut : laidOutB Tryz.prog = true := by kernel_rfl
theorem laid_witness {os : Os} (args : Array Value) : laidMetH Tryz.prog laidAll ((World.laidAll Tryz.prog os laidAll).forCall (fun _ _ => 0) ⟨#[], args, []⟩).memory := by
  rw [MakeChecks.laidMetH_plain _ _ _ (by kernel_rfl)]; exact laidMet_laidAll _ (by kernel_rfl) (by kernel_rfl)
theorem shaped_witness {os : Os} (args : Array Value) : ((World.laidAll Tryz.prog os laidAll).forCall (fun _ _ => 0) ⟨#[], args, []⟩).Shaped Tryz.prog := World.shaped_of_ZipB (by kernel_rfl) (by kernel_rfl)

set_option maxRecDepth 100000 in
theorem cell_opened {H : Type} {enc : TypeId × Value → H} {W : World} {b : Nat} {sp : Nat → Bool} {hd : Bool} {v : Value} {d : DataW H} {p : List MemPlace} (h : DataW.Trod enc Tryz.prog W b sp hd 33 v d p) {base : Nat} (hv : Value.okWide Tryz.prog W .any base 33 v) :
    ∃ k n s, v = .agg #[.int .u8 k, .int .u64 n, .string s] := by
  obtain ⟨⟨cs⟩, rfl, _⟩ := okWide_struct Tryz.underlying33 hv
  obtain ⟨fuel, h⟩ := h
  have c31 : Tryz.prog.cellsOf 33 = 3 := by kernel_rfl
  have c28 : Tryz.prog.cellsOf 30 = 1 := by kernel_rfl
  have c29 : Tryz.prog.cellsOf 31 = 1 := by kernel_rfl
  have c9 : Tryz.prog.cellsOf 9 = 1 := by kernel_rfl
  obtain ⟨xs, n, rfl, _, hl, hxl, hf⟩ := DataW.trod_struct Tryz.underlying33 h
  clear h
  rw [c31] at hl
  have hxl' : xs.length = 3 := hxl
  have hl' : cs.length = 3 := hl
  match cs, hl', xs, hxl' with
  | [u0, u1, u2], _, [y0, y1, y2], _ =>
    have h0 : DataW.trod enc Tryz.prog W b sp hd n 30 (([u0, u1, u2].drop 0).take (Tryz.prog.cellsOf 30)) = some y0 := hf 0 _ rfl
    have h1 : DataW.trod enc Tryz.prog W b sp hd n 31 (([u0, u1, u2].drop 1).take (Tryz.prog.cellsOf 31)) = some y1 := hf 1 _ rfl
    have h2 : DataW.trod enc Tryz.prog W b sp hd n 9 (([u0, u1, u2].drop 2).take (Tryz.prog.cellsOf 9)) = some y2 := hf 2 _ rfl
    rw [c28] at h0
    rw [c29] at h1
    rw [c9] at h2
    obtain ⟨k, e0, _, _⟩ := DataW.trod_int Tryz.underlying30 h0
    obtain ⟨m, e1, _, _⟩ := DataW.trod_int Tryz.underlying31 h1
    obtain ⟨s, e2, _, _⟩ := DataW.trod_string Tryz.underlying9 h2
    simp at e0 e1 e2
    subst e0 e1 e2
    exact ⟨k, m, s, rfl⟩

set_option maxRecDepth 100000 in
theorem none_lifted (os : Os) (started : os.Started) (H : Type) (enc : TypeId × Value → H) :
    ReturnsInHanded {} Tryz.checked os 4 .any (fun w args => (Rows.fieldsNoneSpec.pre enc Tryz.prog Tryz.f4 Rows.fieldsNoneRow.domain false w args ∧ laidMetH Tryz.prog Rows.fieldsNoneRow.laid w) ∧ sizedMet enc Tryz.prog Tryz.f4 (OpenSpec.ofChange Rows.fieldsNoneSpec) false w args)
      (Rows.fieldsNoneSpec.post enc Tryz.prog Tryz.f4 false true false false) := by
  refine returnsInHanded_of_change_laid (C := Tryz.checked) (X := fun w _ => laidMetH Tryz.prog Rows.fieldsNoneRow.laid w) (fun _ _ _ hh h => h.of_heap hh) own started (by kernel_rfl) Tryz.func4
    (ChangeSpec.witness_shaped (enc := enc) (C := Tryz.checked) (os := os) (X := fun w _ => laidMetH Tryz.prog Rows.fieldsNoneRow.laid w) false (World.laidAll Tryz.prog os laidAll) #[.int .i64 0, .string ⟨#[]⟩, .agg #[.int .u8 0, .int .u64 0, .string ⟨#[]⟩]] 8 (World.laidAll_os _ _ _)
      (shaped_witness _) (by kernel_rfl) (by kernel_rfl) (by kernel_rfl) (laid_witness _)) ?_
  intro W base args ds gs before hval0 hW hL hsh
  have hval : ∀ (j : Nat) t v, Tryz.f4.params[j]? = some t → args[j]? = some v → Value.okWide Tryz.prog W .any base t v := hval0
  have hW' := hW
  obtain ⟨p, q, hA0, hV, rfl, _, _⟩ := hW
  have hA : DataW.TrodAll enc Tryz.prog W 0 (fun _ => true) true Tryz.f4.params.toList args.toList ds p := hA0
  rw [Tryz.params4] at hA hval
  obtain ⟨v0, vs0, d0, ds0, p0, q0, hargs, rfl, rfl, h0, r0⟩ := trodAll_cons hA
  obtain ⟨v1, vs1, d1, ds1, p1, q1, rfl, rfl, rfl, h1, r1⟩ := trodAll_cons r0
  obtain ⟨v2, vs2, d2, ds2, p2, q2, rfl, rfl, rfl, h2, r2⟩ := trodAll_cons r1
  obtain ⟨rfl, rfl, rfl⟩ := trodAll_nil r2
  obtain rfl : args = #[v0, v1, v2] := by cases args; simp_all
  obtain ⟨rfl, rfl⟩ := trodVars_none hV
  obtain ⟨i, rfl, rfl, rfl, wi⟩ := open_int Tryz.underlying3 (hval 0 3 v0 rfl rfl) h0
  obtain ⟨s, rfl, rfl, rfl, ws⟩ := open_string Tryz.underlying9 (hval 1 9 v1 rfl rfl) h1
  obtain ⟨k, n, t, rfl⟩ := cell_opened h2 (hval 2 33 v2 rfl rfl)
  refine ((Go.Ev.nones i s k n t).call W (enough hsh) trivial).mono fun e W' ⟨he, hB⟩ => ?_
  subst he
  exact ⟨_, rfl, post_reads laidOut (by kernel_rfl) hW' rfl (fun _ _ _ => trodAll_cons_mk (shut_bool Tryz.underlying4 _) trodAll_mk0) rfl rfl hB⟩

end Go.Proofs.YtoghgbljglofnaaGreatDoor.Ro
namespace Go.Proofs.YtoghgbljglofnaaGreatDoor
open Go.RowKit
theorem fieldsNone_said : Rows.FieldsNoneSaid :=
  OpenClaim.holds_of_wide 4 Tryz.f4 rfl rfl rfl rfl rfl rfl rfl ⟨rfl, rfl, rfl, rfl, rfl⟩ rfl rfl rfl rfl rfl Jo.named Tryz.func4 Jo.closed Jo.inst Jo.wrap
    (fun os started H enc _ => Ro.none_lifted os started H enc)
theorem fieldsNone_holds : Rows.FieldsNoneCardSaid :=
  Claim7.holds_tied_plain_at .later [] [.data, .data, .widerDeep, .widerDeep, .data, .data, .data, .data, .data, .data, .sentinel, .sentinel, .pinned, .pinned, .pinned] true (true, "266e4d9ec18bf42a98fdf15823b56ccf635f2d07ca1bc07a4094483fbb2fbfe9") true fieldsNone_said (fun _ h => by cases h) Jo.wf (fun _ h => by cases h) fieldsNone_row_tie rfl ⟨rfl, rfl⟩ Jo.mainIs rfl
    (fun f fn hf hfn => by
      obtain rfl : f = 4 := Option.some.inj (Jo.named.symm.trans hf) |>.symm
      obtain rfl : fn = Tryz.f4 := (Option.some.inj (Tryz.func4.symm.trans hfn)).symm
      exact ⟨Jo.looks, fun j t ht => by
        rw [Tryz.params4] at ht
        have hm : t ∈ [3, 9, 33] := by simpa using Array.mem_of_getElem? ht
        exact (show Tryz.prog.wantsStandIn t = false by simpa using List.all_eq_true.1 Jo.wants t hm)⟩)
    Jo.goes
#print axioms fieldsNone_holds
end Go.Proofs.YtoghgbljglofnaaGreatDoor
