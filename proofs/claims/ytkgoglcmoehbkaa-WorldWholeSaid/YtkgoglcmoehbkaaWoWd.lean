/-
  WorldWhole answers true for every input, and leaves what was handed in as it was. Conditions: none beside the row's own.
-/
import Derived.Test.YtkgoglcmoehbkaaWoWc
import Derived.Test.YtkgoglcmoehbkaaAwake
import Derived.Test.YtkgoglcmoehbkaaEv7
import Derived.Test.YtkgoglcmoehbkaaRows
import Derived.SliceStrings
import Derived.ChangeSlices
import Derived.HandedShaped
import Derived.ProofKit
import Derived.OpenShut
namespace Go.Proofs.Ytkgoglcmoehbkaa.Ww
open Go.ChangeShapes Go.WideShapes Go.ChangeAt Go.RowKit Go.Ev
open Go.ChangeMaps (open_string shut_string)

theorem own : ownKnob Try.prog.godebug = none := by kernel_rfl
theorem laidOut : laidOutB Try.prog = true := by kernel_rfl
theorem awakeHere : Wo.AwakeOk 0 := fun w hw => (Go.Ev.awake7).call w hw trivial

theorem spot_none {W : World} {l o s : Nat} : W.cell? ⟨l, o, some s⟩ = none := by
  unfold World.cell?
  split <;> rfl
theorem no_spot {W : World} {l o : Nat} {spt : Option Nat} {v : Value} (h : W.cell? ((⟨l, o, spt⟩ : Addr).add 0) = some v) : spt = none := by
  cases spt with
  | none => rfl
  | some s =>
    have h2 : W.cell? ⟨l, o, some s⟩ = some v := h
    rw [spot_none] at h2
    cases h2
/- A slice of one-celled things, opened. -/
set_option maxRecDepth 100000 in
theorem row_opened {α H : Type} {enc : TypeId × Value → H} {W : World} {b : Nat} {sp : Nat → Bool} {hd : Bool} {v : Value} {d : DataW H} {p : List MemPlace} {t e : TypeId} (ht : Try.prog.underlying t = some (.slice e)) (c1 : Try.prog.cellsOf e = 1) (ok : α → Prop) (z : α) (val : α → Value)
    (one : ∀ {fuel : Nat} {u : Value} {x : DataW H × List MemPlace}, DataW.trod enc Try.prog W b sp hd fuel e [u] = some x → ∃ a, ok a ∧ u = val a)
    (h : DataW.Trod enc Try.prog W b sp hd t v d p) {base : Nat} (hv : Value.okWide Try.prog W .any base t v) :
    ∃ (C : List α) (oa : Option Addr) (c : Nat), v = .slice oa C.length c ∧ ∀ (i : Nat) x, C[i]? = some x → ok x ∧ ∃ l q, oa = some ⟨l, q, none⟩ ∧ W.cell? ⟨l, q + i, none⟩ = some (val x) := by
  obtain ⟨fuel, h⟩ := h
  obtain ⟨oa, n, c, rfl⟩ := okWide_slice ht hv
  rcases DataW.trod_slice ht h with ⟨h1, _⟩ | ⟨ad, len, cap, elems, rest, n2, _, h1, _, _, _, _, hel, hei, _, _⟩
  · have h2 : [Value.slice oa n c] = [.slice none 0 0] := h1
    simp only [List.cons.injEq, Value.slice.injEq, and_true] at h2
    obtain ⟨rfl, rfl, rfl⟩ := h2
    exact ⟨[], none, 0, rfl, fun i x hx => by simp at hx⟩
  · have h2 : [Value.slice oa n c] = [.slice (some ad) len cap] := h1
    simp only [List.cons.injEq, Value.slice.injEq, and_true] at h2
    obtain ⟨rfl, rfl, rfl⟩ := h2
    rw [c1] at hei
    have hx : ∀ i, i < n → ∃ a, ok a ∧ W.cells? b (ad.add (i * 1)) 1 = some [val a] := fun i hi => by
      have q := hei i hi
      rw [List.getElem?_eq_getElem (by omega)] at q
      obtain ⟨cs', q1, q2⟩ := Option.bind_eq_some_iff.1 q
      have hl : cs'.length = 1 := by
        exact (World.cells?_some q1).2.1
      match cs', hl with
      | [u], _ =>
        obtain ⟨a, ha, rfl⟩ := one q2
        exact ⟨a, ha, q1⟩
    obtain ⟨l, of_, spt⟩ := ad
    have hfun : ∃ V : Nat → α, ∀ i, i < n → ok (V i) ∧ W.cells? b ((⟨l, of_, spt⟩ : Addr).add (i * 1)) 1 = some [val (V i)] := by
      refine ⟨fun i => if hi : i < n then Classical.choose (hx i hi) else z, fun i hi => ?_⟩
      have e : (fun i => if hi : i < n then Classical.choose (hx i hi) else z) i = Classical.choose (hx i hi) := dif_pos hi
      rw [e]
      exact Classical.choose_spec (hx i hi)
    obtain ⟨V, hV⟩ := hfun
    have hlen : ((List.range n).map V).length = n := by simp
    refine ⟨(List.range n).map V, some ⟨l, of_, spt⟩, c, by rw [hlen], fun i x hx => ?_⟩
    rw [List.getElem?_map] at hx
    have hi : i < n := by
      rcases Nat.lt_or_ge i n with h | h
      · exact h
      · rw [List.getElem?_eq_none (by simpa using h)] at hx
        cases hx
    rw [List.getElem?_range hi] at hx
    have hx2 : V i = x := by simpa using hx
    subst hx2
    have hsp : spt = none := by
      obtain ⟨_, _, q3⟩ := World.cells?_some (hV 0 (by omega)).2
      have q4 := q3 0 (by omega)
      rw [Nat.zero_mul] at q4
      exact no_spot (l := l) (o := of_) q4
    subst hsp
    obtain ⟨_, _, q3⟩ := World.cells?_some (hV i hi).2
    have q6 := q3 0 (by omega)
    rw [Wo.add_flat, Wo.add_flat, Nat.mul_one] at q6
    exact ⟨(hV i hi).1, l, of_, rfl, q6⟩

set_option maxRecDepth 100000 in
theorem whole_lifted (os : Os) (started : os.Started) (H : Type) (enc : TypeId × Value → H) :
    ReturnsInHanded {} Try.checked os 4 .any (Rows.worldWholeSpec.pre6 enc Try.prog Try.f4 Rows.worldWholeRow.domain false) (Rows.worldWholeSpec.post enc Try.prog Try.f4 false true false false) := by
  refine returnsInHanded_of_change_shaped (C := Try.checked) own started (by kernel_rfl) Try.func4
    (ChangeSpec.witness6 (enc := enc) (C := Try.checked) false ⟨#[], #[.string ⟨#[]⟩, .string ⟨#[]⟩, .string ⟨#[]⟩, .slice none 0 0, .slice none 0 0], []⟩ 8 (by kernel_rfl) (by kernel_rfl) (by kernel_rfl) (by kernel_rfl)) ?_
  intro W base args ds gs before hval0 hW _ _ hsh _
  have hval : ∀ (j : Nat) t v, Try.f4.params[j]? = some t → args[j]? = some v → Value.okWide Try.prog W .any base t v := hval0
  have hW' := hW
  obtain ⟨p, q, hA0, hV, rfl, hfz, hnd⟩ := hW
  have hA : DataW.TrodAll enc Try.prog W 0 (fun _ => true) true Try.f4.params.toList args.toList ds p := hA0
  rw [Try.params4] at hA hval
  obtain ⟨v0, vs0, d0, ds0, p0, q0, hargs, rfl, rfl, h0, r0⟩ := trodAll_cons hA
  obtain ⟨v1, vs1, d1, ds1, p1, q1, rfl, rfl, rfl, h1, r1⟩ := trodAll_cons r0
  obtain ⟨v2, vs2, d2, ds2, p2, q2, rfl, rfl, rfl, h2, r2⟩ := trodAll_cons r1
  obtain ⟨v3, vs3, d3, ds3, p3, q3, rfl, rfl, rfl, h3, r3⟩ := trodAll_cons r2
  obtain ⟨v4, vs4, d4, ds4, p4, q4, rfl, rfl, rfl, h4, r4⟩ := trodAll_cons r3
  obtain ⟨rfl, rfl, rfl⟩ := trodAll_nil r4
  obtain rfl : args = #[v0, v1, v2, v3, v4] := by cases args; simp_all
  obtain ⟨rfl, rfl⟩ := trodVars_none hV
  obtain ⟨s0, rfl, e0, f0⟩ := open_string Try.underlying9 (hval 0 9 v0 rfl rfl) h0
  obtain ⟨s1, rfl, e1, f1⟩ := open_string Try.underlying9 (hval 1 9 v1 rfl rfl) h1
  obtain ⟨s2, rfl, e2, f2⟩ := open_string Try.underlying9 (hval 2 9 v2 rfl rfl) h2
  obtain ⟨C, oc, cc, rfl, hC⟩ := row_opened (e := 3) Try.underlying56 (by kernel_rfl) (fun x : Int => -9223372036854775808 ≤ x ∧ x ≤ 9223372036854775807) 0 (fun x => .int .i64 x) (fun {fuel u x} h => by
    obtain ⟨c, e0, w1, w2⟩ := DataW.trod_int Try.underlying3 h
    have w0 : (Lit.int .i64 c).wf = true := by first | exact w1 | exact w2 | assumption
    refine ⟨c, ?_, by simpa using e0⟩
    simp [Lit.wf, IntKind.min, IntKind.max, IntKind.signed, IntKind.bits] at w0
    omega) h3 (hval 3 56 v3 rfl rfl)
  obtain ⟨Dt, od, cd, rfl, hD⟩ := row_opened (e := 9) Try.underlying57 (by kernel_rfl) (fun _ : ByteArray => True) ⟨#[]⟩ (fun x => .string x) (fun {fuel u x} h => by
    obtain ⟨c, e0, _, _⟩ := DataW.trod_string Try.underlying9 h
    exact ⟨c, trivial, by simpa using e0⟩) h4 (hval 4 57 v4 rfl rfl)
  refine (Wo.whole awakeHere s0 s1 s2 _ _ C Dt W (Nat.zero_le _) ⟨oc, cc, rfl, hC⟩ ⟨od, cd, rfl, fun i x h => (hD i x h).2⟩).mono fun e W' ⟨he, hB⟩ => ?_
  subst he
  exact ⟨_, rfl, post_reads laidOut (by kernel_rfl) hW' rfl (fun _ _ _ => trodAll_cons_mk (shut_bool Try.underlying4 _) trodAll_mk0) rfl rfl hB⟩

end Go.Proofs.Ytkgoglcmoehbkaa.Ww
namespace Go.Proofs.Ytkgoglcmoehbkaa
open Go.RowKit
theorem worldWhole_holds : Rows.WorldWholeSaid :=
  OpenClaim.holds_of_wide 4 Try.f4 rfl rfl rfl rfl rfl rfl rfl ⟨rfl, rfl, rfl, rfl, rfl⟩ rfl rfl rfl rfl rfl (by kernel_rfl) Try.func4 (by kernel_rfl)
    (of_decide_eq_true (by kernel_rfl)) (by unfold Func.isWrapper; first | (rw [if_pos (by decide +kernel)]; kernel_rfl) | (rw [if_neg (by decide +kernel)]; exact ⟨rfl, rfl⟩))
    (fun os started H enc _ => Ww.whole_lifted os started H enc)
#print axioms worldWhole_holds
end Go.Proofs.Ytkgoglcmoehbkaa
