/-
  ArraysPlays answers true for every input, and leaves what was handed in as it was. Conditions: none beside the row's own.
-/
import Derived.Test.YtlagnklmfanmoaaArRo
import Derived.Test.YtlagnklmfanmoaaArAb
namespace Go.Proofs.Ytlagnklmfanmoaa.Ro
open Go.ChangeShapes Go.WideShapes Go.ChangeAt Go.RowKit Go.Ev
open Go.ChangeMaps (open_string shut_string)

theorem spot_none {W : World} {l o s : Nat} : W.cell? ⟨l, o, some s⟩ = none := by
  unfold World.cell?
  split <;> rfl
set_option maxRecDepth 100000 in
theorem cell_cells {H : Type} {enc : TypeId × Value → H} {W : World} {b fuel : Nat} {sp : Nat → Bool} {hd : Bool} {cs : List Value} {x : DataW H × List MemPlace} (h : DataW.trod enc Try.prog W b sp hd fuel 31 cs = some x) :
    ∃ k n s, cs = [.int .u8 k, .int .u64 n, .string s] := by
  have c31 : Try.prog.cellsOf 31 = 3 := by kernel_rfl
  have c28 : Try.prog.cellsOf 28 = 1 := by kernel_rfl
  have c29 : Try.prog.cellsOf 29 = 1 := by kernel_rfl
  have c9 : Try.prog.cellsOf 9 = 1 := by kernel_rfl
  obtain ⟨xs, n, rfl, _, hl, hxl, hf⟩ := DataW.trod_struct Try.underlying31 h
  clear h
  rw [c31] at hl
  have hxl' : xs.length = 3 := hxl
  have hl' : cs.length = 3 := hl
  match cs, hl', xs, hxl' with
  | [u0, u1, u2], _, [y0, y1, y2], _ =>
    have h0 : DataW.trod enc Try.prog W b sp hd n 28 (([u0, u1, u2].drop 0).take (Try.prog.cellsOf 28)) = some y0 := hf 0 _ rfl
    have h1 : DataW.trod enc Try.prog W b sp hd n 29 (([u0, u1, u2].drop 1).take (Try.prog.cellsOf 29)) = some y1 := hf 1 _ rfl
    have h2 : DataW.trod enc Try.prog W b sp hd n 9 (([u0, u1, u2].drop 2).take (Try.prog.cellsOf 9)) = some y2 := hf 2 _ rfl
    rw [c28] at h0
    rw [c29] at h1
    rw [c9] at h2
    obtain ⟨k, e0, _, _⟩ := DataW.trod_int Try.underlying28 h0
    obtain ⟨m, e1, _, _⟩ := DataW.trod_int Try.underlying29 h1
    obtain ⟨s, e2, _, _⟩ := DataW.trod_string Try.underlying9 h2
    simp at e0 e1 e2
    subst e0 e1 e2
    exact ⟨k, m, s, rfl⟩
set_option maxRecDepth 100000 in
theorem op_cells {H : Type} {enc : TypeId × Value → H} {W : World} {b fuel : Nat} {sp : Nat → Bool} {hd : Bool} {cs : List Value} {x : DataW H × List MemPlace} (h : DataW.trod enc Try.prog W b sp hd fuel 45 cs = some x) :
    ∃ o : Ar.OpR, cs = [.int .i64 o.kind, .string o.key, .int .u8 o.cell.kind, .int .u64 o.cell.n, .string o.cell.s] := by
  have c45 : Try.prog.cellsOf 45 = 5 := by kernel_rfl
  have c3 : Try.prog.cellsOf 3 = 1 := by kernel_rfl
  have c9 : Try.prog.cellsOf 9 = 1 := by kernel_rfl
  have c31 : Try.prog.cellsOf 31 = 3 := by kernel_rfl
  obtain ⟨xs, n, rfl, _, hl, hxl, hf⟩ := DataW.trod_struct Try.underlying45 h
  clear h
  rw [c45] at hl
  have hxl' : xs.length = 3 := hxl
  have hl' : cs.length = 5 := hl
  match cs, hl', xs, hxl' with
  | [u0, u1, u2, u3, u4], _, [y0, y1, y2], _ =>
    have h0 : DataW.trod enc Try.prog W b sp hd n 3 (([u0, u1, u2, u3, u4].drop 0).take (Try.prog.cellsOf 3)) = some y0 := hf 0 _ rfl
    have h1 : DataW.trod enc Try.prog W b sp hd n 9 (([u0, u1, u2, u3, u4].drop 1).take (Try.prog.cellsOf 9)) = some y1 := hf 1 _ rfl
    have h2 : DataW.trod enc Try.prog W b sp hd n 31 (([u0, u1, u2, u3, u4].drop 2).take (Try.prog.cellsOf 31)) = some y2 := hf 2 _ rfl
    rw [c3] at h0
    rw [c9] at h1
    rw [c31] at h2
    obtain ⟨k, e0, _, _⟩ := DataW.trod_int Try.underlying3 h0
    obtain ⟨s, e1, _, _⟩ := DataW.trod_string Try.underlying9 h1
    obtain ⟨ck, cn, ct, e2⟩ := cell_cells h2
    simp at e0 e1 e2
    obtain ⟨rfl, rfl, rfl⟩ := e2
    subst e0 e1
    exact ⟨⟨k, s, ⟨ck, cn, ct⟩⟩, rfl⟩

theorem no_spot {W : World} {l o : Nat} {spt : Option Nat} {v : Value} (h : W.cell? ((⟨l, o, spt⟩ : Addr).add 0) = some v) : spt = none := by
  cases spt with
  | none => rfl
  | some s =>
    have h2 : W.cell? ⟨l, o, some s⟩ = some v := h
    rw [spot_none] at h2
    cases h2
theorem script_opened {H : Type} {enc : TypeId × Value → H} {W : World} {b : Nat} {sp : Nat → Bool} {hd : Bool} {v : Value} {d : DataW H} {p : List MemPlace} (h : DataW.Trod enc Try.prog W b sp hd 42 v d p) {base : Nat} (hv : Value.okWide Try.prog W .any base 42 v) :
    ∃ X, Ar.Scr W v X := by
  obtain ⟨fuel, h⟩ := h
  have c45 : Try.prog.cellsOf 45 = 5 := by kernel_rfl
  obtain ⟨oa, n, c, rfl⟩ := okWide_slice Try.underlying42 hv
  rcases DataW.trod_slice Try.underlying42 h with ⟨h1, _⟩ | ⟨ad, len, cap, elems, rest, n2, _, h1, _, _, _, _, hel, hei, _, _⟩
  · have h2 : [Value.slice oa n c] = [.slice none 0 0] := h1
    simp only [List.cons.injEq, Value.slice.injEq, and_true] at h2
    obtain ⟨rfl, rfl, rfl⟩ := h2
    exact ⟨[], ⟨none, 0, rfl, fun i o ho => by simp at ho⟩⟩
  · have h2 : [Value.slice oa n c] = [.slice (some ad) len cap] := h1
    simp only [List.cons.injEq, Value.slice.injEq, and_true] at h2
    obtain ⟨rfl, rfl, rfl⟩ := h2
    rw [c45] at hei
    have hx : ∀ i, i < n → ∃ o : Ar.OpR, W.cells? b (ad.add (i * 5)) 5 = some [.int .i64 o.kind, .string o.key, .int .u8 o.cell.kind, .int .u64 o.cell.n, .string o.cell.s] := fun i hi => by
      have q := hei i hi
      rw [List.getElem?_eq_getElem (by omega)] at q
      obtain ⟨cs', q1, q2⟩ := Option.bind_eq_some_iff.1 q
      obtain ⟨o, rfl⟩ := op_cells q2
      exact ⟨o, q1⟩
    obtain ⟨l, of_, spt⟩ := ad
    let V : Nat → Ar.OpR := fun i => if hi : i < n then Classical.choose (hx i hi) else ⟨0, ⟨#[]⟩, Ar.Cell.zero⟩
    have hV : ∀ i, i < n → W.cells? b ((⟨l, of_, spt⟩ : Addr).add (i * 5)) 5 = some [.int .i64 (V i).kind, .string (V i).key, .int .u8 (V i).cell.kind, .int .u64 (V i).cell.n, .string (V i).cell.s] := fun i hi => by
      have e : V i = Classical.choose (hx i hi) := dif_pos hi
      rw [e]
      exact Classical.choose_spec (hx i hi)
    clear_value V
    have hlen : ((List.range n).map V).length = n := by simp
    refine ⟨(List.range n).map V, ⟨some ⟨l, of_, spt⟩, c, by rw [hlen], fun i o ho => ?_⟩⟩
    rw [List.getElem?_map] at ho
    have hi : i < n := by
      rcases Nat.lt_or_ge i n with h | h
      · exact h
      · rw [List.getElem?_eq_none (by simpa using h)] at ho
        cases ho
    rw [List.getElem?_range hi] at ho
    have ho2 : V i = o := by simpa using ho
    subst ho2
    have hsp : spt = none := by
      obtain ⟨_, _, q3⟩ := World.cells?_some (hV 0 (by omega))
      have q4 := q3 0 (by omega)
      rw [Nat.zero_mul] at q4
      exact no_spot (l := l) (o := of_) q4
    subst hsp
    obtain ⟨_, _, q3⟩ := World.cells?_some (hV i hi)
    have q : ∀ j, j < 5 → W.cell? ⟨l, of_ + i * 5 + j, none⟩ = ([.int .i64 (V i).kind, .string (V i).key, .int .u8 (V i).cell.kind, .int .u64 (V i).cell.n, .string (V i).cell.s] : List Value)[j]? := fun j hj => by
      have q6 := q3 j hj
      rw [add_plain, add_plain] at q6
      exact q6
    exact ⟨l, of_, rfl, q 0 (by omega), q 1 (by omega), q 2 (by omega), q 3 (by omega), q 4 (by omega)⟩
theorem texts_place {H : Type} {enc : TypeId × Value → H} {W : World} {b : Nat} {sp : Nat → Bool} {hd : Bool} {v : Value} {d : DataW H} {p : List MemPlace} (h : DataW.Trod enc Try.prog W b sp hd 34 v d p) :
    ∀ oa n c, v = .slice oa n c → n ≤ c ∧ (n ≠ 0 → ∃ g off, oa = some ⟨g, off, none⟩) := by
  intro oa n c e
  subst e
  obtain ⟨fuel, h⟩ := h
  have hc : Try.prog.cellsOf 9 = 1 := by kernel_rfl
  rcases open_strings Try.underlying34 Try.underlying9 hc h with ⟨h1, _⟩ | ⟨a, len, cap, ss, h1, _, hlc, _, hlen, _, hcell, _⟩
  · have h2 : [Value.slice oa n c] = [.slice none 0 0] := h1
    simp only [List.cons.injEq, Value.slice.injEq, and_true] at h2
    obtain ⟨rfl, rfl, rfl⟩ := h2
    exact ⟨Nat.le_refl _, fun h => absurd rfl h⟩
  · have h2 : [Value.slice oa n c] = [.slice (some a) len cap] := h1
    simp only [List.cons.injEq, Value.slice.injEq, and_true] at h2
    obtain ⟨rfl, rfl, rfl⟩ := h2
    refine ⟨hlc, fun hn => ?_⟩
    have hle : n ≤ ss.length := by rw [hlen]; split <;> omega
    obtain ⟨l, o, spt⟩ := a
    have hsp : spt = none := no_spot (l := l) (o := o) (hcell 0 (by omega))
    subst hsp
    exact ⟨l, o, rfl⟩

set_option maxRecDepth 100000 in
theorem plays_lifted (os : Os) (started : os.Started) (H : Type) (enc : TypeId × Value → H) :
    ReturnsInHanded {} Try.checked os 4 .any (Rows.arraysPlaysSpec.pre6 enc Try.prog Try.f4 Rows.arraysPlaysRow.domain false) (Rows.arraysPlaysSpec.post enc Try.prog Try.f4 false true false false) := by
  refine returnsInHanded_of_change_shaped (C := Try.checked) own started (by kernel_rfl) Try.func4
    (ChangeSpec.witness6 (enc := enc) (C := Try.checked) false ⟨#[], #[.slice none 0 0, .slice none 0 0, .string ⟨#[]⟩], []⟩ 8 (by kernel_rfl) (by kernel_rfl) (by kernel_rfl) (by kernel_rfl)) ?_
  intro W base args ds gs before hval0 hW _ _ hsh _
  have hval : ∀ (j : Nat) t v, Try.f4.params[j]? = some t → args[j]? = some v → Value.okWide Try.prog W .any base t v := hval0
  have hW' := hW
  obtain ⟨p, q, hA0, hV, rfl, hfz, hnd⟩ := hW
  have hA : DataW.TrodAll enc Try.prog W 0 (fun _ => true) true Try.f4.params.toList args.toList ds p := hA0
  rw [Try.params4] at hA hval
  obtain ⟨v0, vs0, d0, ds0, p0, q0, hargs, rfl, rfl, h0, r0⟩ := trodAll_cons hA
  obtain ⟨v1, vs1, d1, ds1, p1, q1, rfl, rfl, rfl, h1, r1⟩ := trodAll_cons r0
  obtain ⟨v2, vs2, d2, ds2, p2, q2, rfl, rfl, rfl, h2, r2⟩ := trodAll_cons r1
  obtain ⟨rfl, rfl, rfl⟩ := trodAll_nil r2
  obtain rfl : args = #[v0, v1, v2] := by cases args; simp_all
  obtain ⟨rfl, rfl⟩ := trodVars_none hV
  obtain ⟨s, rfl, rfl, rfl, ws⟩ := open_string Try.underlying9 (hval 2 9 v2 rfl rfl) h2
  obtain ⟨T, hT⟩ := texts_opened h1 (hval 1 34 v1 rfl rfl)
  obtain ⟨X, hX⟩ := script_opened h0 (hval 0 42 v0 rfl rfl)
  refine (Ar.plays awakeHere v0 v1 X T s W (enough hsh) hX hT (texts_place h1)).mono fun e W' ⟨he, hB⟩ => ?_
  subst he
  exact ⟨_, rfl, post_reads laidOut (by kernel_rfl) hW' rfl (fun _ _ _ => trodAll_cons_mk (shut_bool Try.underlying4 _) trodAll_mk0) rfl rfl hB⟩

end Go.Proofs.Ytlagnklmfanmoaa.Ro
namespace Go.Proofs.Ytlagnklmfanmoaa
open Go.RowKit
theorem arraysPlays_holds : Rows.ArraysPlaysSaid :=
  OpenClaim.holds_of_wide 4 Try.f4 rfl rfl rfl rfl rfl rfl rfl ⟨rfl, rfl, rfl, rfl, rfl⟩ rfl rfl rfl rfl rfl (by kernel_rfl) Try.func4 (by kernel_rfl)
    (of_decide_eq_true (by kernel_rfl)) (by unfold Func.isWrapper; first | (rw [if_pos (by decide +kernel)]; kernel_rfl) | (rw [if_neg (by decide +kernel)]; exact ⟨rfl, rfl⟩))
    (fun os started H enc _ => Ro.plays_lifted os started H enc)
#print axioms arraysPlays_holds
end Go.Proofs.Ytlagnklmfanmoaa
