/-
  WorldLimits answers true for every input, and leaves what was handed in as it was. Conditions: none beside the row's own.
-/
import Derived.Test.YtjlenfnflonfoaaWoS
import Derived.Test.YtjlenfnflonfoaaAwake
import Derived.Test.YtjlenfnflonfoaaEv7
import Derived.Test.YtjlenfnflonfoaaRows
import Derived.SliceStrings
import Derived.ChangeSlices
import Derived.HandedShaped
import Derived.ProofKit
import Derived.OpenShut
namespace Go.Proofs.Ytjlenfnflonfoaa.Wt
open Go.ChangeShapes Go.WideShapes Go.ChangeAt Go.RowKit Go.Ev
open Go.ChangeMaps (open_string shut_string)

theorem own : ownKnob Try.prog.godebug = none := by kernel_rfl
theorem laidOut : laidOutB Try.prog = true := by kernel_rfl
theorem awakeHere : Wo.AwakeOk 0 := fun w hw => (Go.Ev.awake7).call w hw trivial

theorem spot_none {W : World} {l o s : Nat} : W.cell? ⟨l, o, some s⟩ = none := by
  unfold World.cell?
  split <;> rfl
theorem no_spot {W : World} {l o : Nat} {spt : Option Nat} {v : Value} (h : W.cell? ((⟨l, o, spt⟩ : Addr).add 0) = some v) : spt = none := by
  cases spt with
  | none => rfl
  | some s =>
    have h2 : W.cell? ⟨l, o, some s⟩ = some v := h
    rw [spot_none] at h2
    cases h2
theorem in_u8 {k : Int} (h : (Lit.int .u8 k).wf = true) : 0 ≤ k ∧ k < 256 := by
  simp [Lit.wf, IntKind.min, IntKind.max, IntKind.signed, IntKind.bits] at h
  omega
set_option maxRecDepth 100000 in
theorem op_cells {H : Type} {enc : TypeId × Value → H} {W : World} {b fuel : Nat} {sp : Nat → Bool} {hd : Bool} {cs : List Value} {x : DataW H × List MemPlace} (h : DataW.trod enc Try.prog W b sp hd fuel 43 cs = some x) :
    ∃ o : Wo.OpR, (0 ≤ o.k ∧ o.k < 256) ∧ cs = [.int .i64 o.kind, .int .u8 o.k, .string o.name, .string o.data, .int .i64 o.n] := by
  have c45 : Try.prog.cellsOf 43 = 5 := by kernel_rfl
  have c3 : Try.prog.cellsOf 3 = 1 := by kernel_rfl
  have c41 : Try.prog.cellsOf 41 = 1 := by kernel_rfl
  have c9 : Try.prog.cellsOf 9 = 1 := by kernel_rfl
  obtain ⟨xs, n, rfl, _, hl, hxl, hf⟩ := DataW.trod_struct Try.underlying43 h
  clear h
  rw [c45] at hl
  have hxl' : xs.length = 5 := hxl
  have hl' : cs.length = 5 := hl
  match cs, hl', xs, hxl' with
  | [u0, u1, u2, u3, u4], _, [y0, y1, y2, y3, y4], _ =>
    have h0 : DataW.trod enc Try.prog W b sp hd n 3 (([u0, u1, u2, u3, u4].drop 0).take (Try.prog.cellsOf 3)) = some y0 := hf 0 _ rfl
    have h1 : DataW.trod enc Try.prog W b sp hd n 41 (([u0, u1, u2, u3, u4].drop 1).take (Try.prog.cellsOf 41)) = some y1 := hf 1 _ rfl
    have h2 : DataW.trod enc Try.prog W b sp hd n 9 (([u0, u1, u2, u3, u4].drop 2).take (Try.prog.cellsOf 9)) = some y2 := hf 2 _ rfl
    have h3 : DataW.trod enc Try.prog W b sp hd n 9 (([u0, u1, u2, u3, u4].drop 3).take (Try.prog.cellsOf 9)) = some y3 := hf 3 _ rfl
    have h4 : DataW.trod enc Try.prog W b sp hd n 3 (([u0, u1, u2, u3, u4].drop 4).take (Try.prog.cellsOf 3)) = some y4 := hf 4 _ rfl
    rw [c3] at h0 h4
    rw [c41] at h1
    rw [c9] at h2 h3
    obtain ⟨kd, e0, _, _⟩ := DataW.trod_int Try.underlying3 h0
    obtain ⟨k, e1, w1, _⟩ := DataW.trod_int Try.underlying41 h1
    obtain ⟨nm, e2, _, _⟩ := DataW.trod_string Try.underlying9 h2
    obtain ⟨dt, e3, _, _⟩ := DataW.trod_string Try.underlying9 h3
    obtain ⟨n, e4, _, _⟩ := DataW.trod_int Try.underlying3 h4
    simp at e0 e1 e2 e3 e4
    subst e0 e1 e2 e3 e4
    exact ⟨⟨kd, k, nm, dt, n⟩, in_u8 (by first | exact w1 | assumption), rfl⟩
set_option maxRecDepth 100000 in
theorem script_opened {H : Type} {enc : TypeId × Value → H} {W : World} {b : Nat} {sp : Nat → Bool} {hd : Bool} {v : Value} {d : DataW H} {p : List MemPlace} (h : DataW.Trod enc Try.prog W b sp hd 28 v d p) {base : Nat} (hv : Value.okWide Try.prog W .any base 28 v) :
    ∃ X, Wo.Scr W v X ∧ ∀ o ∈ X, 0 ≤ o.k ∧ o.k < 256 := by
  obtain ⟨fuel, h⟩ := h
  have c45 : Try.prog.cellsOf 43 = 5 := by kernel_rfl
  obtain ⟨oa, n, c, rfl⟩ := okWide_slice Try.underlying28 hv
  rcases DataW.trod_slice Try.underlying28 h with ⟨h1, _⟩ | ⟨ad, len, cap, elems, rest, n2, _, h1, _, _, _, _, hel, hei, _, _⟩
  · have h2 : [Value.slice oa n c] = [.slice none 0 0] := h1
    simp only [List.cons.injEq, Value.slice.injEq, and_true] at h2
    obtain ⟨rfl, rfl, rfl⟩ := h2
    exact ⟨[], ⟨none, 0, rfl, fun i o ho => by simp at ho⟩, fun o ho => by simp at ho⟩
  · have h2 : [Value.slice oa n c] = [.slice (some ad) len cap] := h1
    simp only [List.cons.injEq, Value.slice.injEq, and_true] at h2
    obtain ⟨rfl, rfl, rfl⟩ := h2
    rw [c45] at hei
    have hx : ∀ i, i < n → ∃ o : Wo.OpR, (0 ≤ o.k ∧ o.k < 256) ∧ W.cells? b (ad.add (i * 5)) 5 = some [.int .i64 o.kind, .int .u8 o.k, .string o.name, .string o.data, .int .i64 o.n] := fun i hi => by
      have q := hei i hi
      rw [List.getElem?_eq_getElem (by omega)] at q
      obtain ⟨cs', q1, q2⟩ := Option.bind_eq_some_iff.1 q
      obtain ⟨o, ho, rfl⟩ := op_cells q2
      exact ⟨o, ho, q1⟩
    obtain ⟨l, of_, spt⟩ := ad
    let V : Nat → Wo.OpR := fun i => if hi : i < n then Classical.choose (hx i hi) else ⟨0, 0, ⟨#[]⟩, ⟨#[]⟩, 0⟩
    have hV : ∀ i, i < n → (0 ≤ (V i).k ∧ (V i).k < 256) ∧ W.cells? b ((⟨l, of_, spt⟩ : Addr).add (i * 5)) 5 = some [.int .i64 (V i).kind, .int .u8 (V i).k, .string (V i).name, .string (V i).data, .int .i64 (V i).n] := fun i hi => by
      have e : V i = Classical.choose (hx i hi) := dif_pos hi
      rw [e]
      exact Classical.choose_spec (hx i hi)
    clear_value V
    have hlen : ((List.range n).map V).length = n := by simp
    refine ⟨(List.range n).map V, ⟨some ⟨l, of_, spt⟩, c, by rw [hlen], fun i o ho => ?_⟩, fun o ho => ?_⟩
    · rw [List.getElem?_map] at ho
      have hi : i < n := by
        rcases Nat.lt_or_ge i n with h | h
        · exact h
        · rw [List.getElem?_eq_none (by simpa using h)] at ho
          cases ho
      rw [List.getElem?_range hi] at ho
      have ho2 : V i = o := by simpa using ho
      subst ho2
      have hsp : spt = none := by
        obtain ⟨_, _, q3⟩ := World.cells?_some (hV 0 (by omega)).2
        have q4 := q3 0 (by omega)
        rw [Nat.zero_mul] at q4
        exact no_spot (l := l) (o := of_) q4
      subst hsp
      obtain ⟨_, _, q3⟩ := World.cells?_some (hV i hi).2
      have q : ∀ j, j < 5 → W.cell? ⟨l, of_ + i * 5 + j, none⟩ = ([.int .i64 (V i).kind, .int .u8 (V i).k, .string (V i).name, .string (V i).data, .int .i64 (V i).n] : List Value)[j]? := fun j hj => by
        have q6 := q3 j hj
        rw [Wo.add_flat, Wo.add_flat] at q6
        exact q6
      exact ⟨l, of_, rfl, q 0 (by omega), q 1 (by omega), q 2 (by omega), q 3 (by omega), q 4 (by omega)⟩
    · obtain ⟨i, hi, rfl⟩ := List.mem_map.1 ho
      exact (hV i (List.mem_range.1 hi)).1

set_option maxRecDepth 100000 in
theorem limits_lifted (os : Os) (started : os.Started) (H : Type) (enc : TypeId × Value → H) :
    ReturnsInHanded {} Try.checked os 5 .any (Rows.worldLimitsSpec.pre6 enc Try.prog Try.f5 Rows.worldLimitsRow.domain false) (Rows.worldLimitsSpec.post enc Try.prog Try.f5 false true false false) := by
  refine returnsInHanded_of_change_shaped (C := Try.checked) own started (by kernel_rfl) Try.func5
    (ChangeSpec.witness6 (enc := enc) (C := Try.checked) false ⟨#[], #[.int .i64 0, .slice none 0 0], []⟩ 8 (by kernel_rfl) (by kernel_rfl) (by kernel_rfl) (by kernel_rfl)) ?_
  intro W base args ds gs before hval0 hW _ _ hsh _
  have hval : ∀ (j : Nat) t v, Try.f5.params[j]? = some t → args[j]? = some v → Value.okWide Try.prog W .any base t v := hval0
  have hW' := hW
  obtain ⟨p, q, hA0, hV, rfl, hfz, hnd⟩ := hW
  have hA : DataW.TrodAll enc Try.prog W 0 (fun _ => true) true Try.f5.params.toList args.toList ds p := hA0
  rw [Try.params5] at hA hval
  obtain ⟨v0, vs0, d0, ds0, p0, q0, hargs, rfl, rfl, h0, r0⟩ := trodAll_cons hA
  obtain ⟨v1, vs1, d1, ds1, p1, q1, rfl, rfl, rfl, h1, r1⟩ := trodAll_cons r0
  obtain ⟨rfl, rfl, rfl⟩ := trodAll_nil r1
  obtain rfl : args = #[v0, v1] := by cases args; simp_all
  obtain ⟨rfl, rfl⟩ := trodVars_none hV
  obtain ⟨lim, rfl, rfl, rfl, wl⟩ := open_int Try.underlying3 (hval 0 3 v0 rfl rfl) h0
  obtain ⟨X, hX, hXk⟩ := script_opened h1 (hval 1 28 v1 rfl rfl)
  refine (Wo.limits awakeHere lim v1 X W (Nat.zero_le _) hX hXk).mono fun e W' ⟨he, hB⟩ => ?_
  subst he
  exact ⟨_, rfl, post_reads laidOut (by kernel_rfl) hW' rfl (fun _ _ _ => trodAll_cons_mk (shut_bool Try.underlying4 _) trodAll_mk0) rfl rfl hB⟩

end Go.Proofs.Ytjlenfnflonfoaa.Wt
namespace Go.Proofs.Ytjlenfnflonfoaa
open Go.RowKit
theorem worldLimits_holds : Rows.WorldLimitsSaid :=
  OpenClaim.holds_of_wide 5 Try.f5 rfl rfl rfl rfl rfl rfl rfl ⟨rfl, rfl, rfl, rfl, rfl⟩ rfl rfl rfl rfl rfl (by kernel_rfl) Try.func5 (by kernel_rfl)
    (of_decide_eq_true (by kernel_rfl)) (by unfold Func.isWrapper; first | (rw [if_pos (by decide +kernel)]; kernel_rfl) | (rw [if_neg (by decide +kernel)]; exact ⟨rfl, rfl⟩))
    (fun os started H enc _ => Wt.limits_lifted os started H enc)
#print axioms worldLimits_holds
end Go.Proofs.Ytjlenfnflonfoaa
