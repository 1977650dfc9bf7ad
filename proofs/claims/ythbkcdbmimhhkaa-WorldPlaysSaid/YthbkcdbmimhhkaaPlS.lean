/-
  WorldPlays answers true for every input, and leaves what was handed in as it was. Conditions: none beside the row's own.
-/
import Derived.Test.YthbkcdbmimhhkaaPlR
import Derived.Test.YthbkcdbmimhhkaaAwake
import Derived.Test.YthbkcdbmimhhkaaEv7
import Derived.Test.YthbkcdbmimhhkaaRows
import Derived.SliceStrings
import Derived.ChangeSlices
import Derived.HandedShaped
import Derived.ProofKit
import Derived.OpenShut
namespace Go.Proofs.Ythbkcdbmimhhkaa.Wq
open Go.ChangeShapes Go.WideShapes Go.ChangeAt Go.RowKit Go.Ev
open Go.ChangeMaps (open_string shut_string)

theorem own : ownKnob Try.prog.godebug = none := by kernel_rfl
theorem laidOut : laidOutB Try.prog = true := by kernel_rfl
theorem awakeHere : Wo.AwakeOk 0 := fun w hw => (Go.Ev.awake7).call w hw trivial

theorem spot_none {W : World} {l o s : Nat} : W.cell? ⟨l, o, some s⟩ = none := by
  unfold World.cell?
  split <;> rfl
theorem no_spot {W : World} {l o : Nat} {spt : Option Nat} {v : Value} (h : W.cell? ((⟨l, o, spt⟩ : Addr).add 0) = some v) : spt = none := by
  cases spt with
  | none => rfl
  | some s =>
    have h2 : W.cell? ⟨l, o, some s⟩ = some v := h
    rw [spot_none] at h2
    cases h2
theorem in_u8 {k : Int} (h : (Lit.int .u8 k).wf = true) : 0 ≤ k ∧ k < 256 := by
  simp [Lit.wf, IntKind.min, IntKind.max, IntKind.signed, IntKind.bits] at h
  omega
theorem in_i64 {k : Int} (h : (Lit.int .i64 k).wf = true) : -9223372036854775808 ≤ k ∧ k ≤ 9223372036854775807 := by
  simp [Lit.wf, IntKind.min, IntKind.max, IntKind.signed, IntKind.bits] at h
  omega
section
variable {H : Type} {enc : TypeId × Value → H} {W : World} {b : Nat} {sp : Nat → Bool} {hd : Bool}
/- A slice of things of k cells, opened. -/
set_option maxRecDepth 100000 in
theorem rows_opened {α : Type} {t e : TypeId} {k : Nat} (ht : Try.prog.underlying t = some (.slice e)) (ck : Try.prog.cellsOf e = k) (hk : 0 < k) (ok : α → Prop) (z : α) (f : α → List Value)
    (one : ∀ {fuel : Nat} {cs : List Value} {x : DataW H × List MemPlace}, DataW.trod enc Try.prog W b sp hd fuel e cs = some x → ∃ a, ok a ∧ cs = f a)
    {fuel : Nat} {u : Value} {y : DataW H × List MemPlace} (h : DataW.trod enc Try.prog W b sp hd fuel t [u] = some y) :
    ∃ (L : List α) (oa : Option Addr) (c : Nat), u = .slice oa L.length c ∧ (oa = none → c = 0) ∧ (∀ a ∈ L, ok a) ∧ ∀ (i : Nat) a, L[i]? = some a → ∃ l q, oa = some ⟨l, q, none⟩ ∧ ∀ j, j < k → W.cell? ⟨l, q + i * k + j, none⟩ = (f a)[j]? := by
  rcases DataW.trod_slice ht h with ⟨h1, _⟩ | ⟨ad, len, cap, elems, rest, n2, _, h1, _, _, _, _, hel, hei, _, _⟩
  · have h2 : u = .slice none 0 0 := by simpa using h1
    subst h2
    exact ⟨[], none, 0, rfl, fun _ => rfl, fun a ha => by simp at ha, fun i a ha => by simp at ha⟩
  · have h2 : u = .slice (some ad) len cap := by simpa using h1
    subst h2
    rw [ck] at hei
    have hx : ∀ i, i < len → ∃ a, ok a ∧ W.cells? b (ad.add (i * k)) k = some (f a) := fun i hi => by
      have q := hei i hi
      rw [List.getElem?_eq_getElem (by omega)] at q
      obtain ⟨cs', q1, q2⟩ := Option.bind_eq_some_iff.1 q
      obtain ⟨a, ha, rfl⟩ := one q2
      exact ⟨a, ha, q1⟩
    obtain ⟨l, of_, spt⟩ := ad
    have hfun : ∃ V : Nat → α, ∀ i, i < len → ok (V i) ∧ W.cells? b ((⟨l, of_, spt⟩ : Addr).add (i * k)) k = some (f (V i)) := by
      refine ⟨fun i => if hi : i < len then Classical.choose (hx i hi) else z, fun i hi => ?_⟩
      have e : (fun i => if hi : i < len then Classical.choose (hx i hi) else z) i = Classical.choose (hx i hi) := dif_pos hi
      rw [e]
      exact Classical.choose_spec (hx i hi)
    obtain ⟨V, hV⟩ := hfun
    have hlen : ((List.range len).map V).length = len := by simp
    refine ⟨(List.range len).map V, some ⟨l, of_, spt⟩, cap, by rw [hlen], (fun h => by cases h), fun a ha => ?_, fun i a ha => ?_⟩
    · obtain ⟨i, hi, rfl⟩ := List.mem_map.1 ha
      exact (hV i (List.mem_range.1 hi)).1
    · rw [List.getElem?_map] at ha
      have hi : i < len := by
        rcases Nat.lt_or_ge i len with h | h
        · exact h
        · rw [List.getElem?_eq_none (by simpa using h)] at ha
          cases ha
      rw [List.getElem?_range hi] at ha
      have ha2 : V i = a := by simpa using ha
      subst ha2
      have hsp : spt = none := by
        obtain ⟨_, hl0, q3⟩ := World.cells?_some (hV 0 (by omega)).2
        have q4 := q3 0 (by omega)
        rw [Nat.zero_mul] at q4
        rw [List.getElem?_eq_getElem (by omega)] at q4
        exact no_spot (l := l) (o := of_) q4
      subst hsp
      obtain ⟨_, _, q3⟩ := World.cells?_some (hV i hi).2
      refine ⟨l, of_, rfl, fun j hj => ?_⟩
      have q6 := q3 j hj
      rw [Wo.add_flat, Wo.add_flat] at q6
      exact q6
set_option maxRecDepth 100000 in
theorem content_cells {fuel : Nat} {cs : List Value} {x : DataW H × List MemPlace} (h : DataW.trod enc Try.prog W b sp hd fuel 54 cs = some x) :
    ∃ p : Wo.FileD, True ∧ cs = Rw.cellsF p := by
  have c9 : Try.prog.cellsOf 9 = 1 := by kernel_rfl
  have c2 : Try.prog.cellsOf 54 = 2 := by kernel_rfl
  obtain ⟨xs, n, rfl, _, hl, hxl, hf⟩ := DataW.trod_struct Try.underlying54 h
  clear h
  rw [c2] at hl
  have hxl' : xs.length = 2 := hxl
  have hl' : cs.length = 2 := hl
  match cs, hl', xs, hxl' with
  | [u0, u1], _, [y0, y1], _ =>
    have h0 : DataW.trod enc Try.prog W b sp hd n 9 (([u0, u1].drop 0).take (Try.prog.cellsOf 9)) = some y0 := hf 0 _ rfl
    have h1 : DataW.trod enc Try.prog W b sp hd n 9 (([u0, u1].drop 1).take (Try.prog.cellsOf 9)) = some y1 := hf 1 _ rfl
    rw [c9] at h0 h1
    obtain ⟨a0, e0, _, _⟩ := DataW.trod_string Try.underlying9 h0
    obtain ⟨a1, e1, _, _⟩ := DataW.trod_string Try.underlying9 h1
    simp at e0 e1
    subst e0 e1
    exact ⟨(a0, a1), trivial, rfl⟩
def cellsR (r : Wo.RepD) : List Value := [.string r.cmd, .string r.out, .int .i64 r.status]
def cellsX (r : Wo.FailD) : List Value := [.int .u8 r.op, .string r.name]
def cellsO (o : Wo.OpR) : List Value := [.int .i64 o.kind, .int .u8 o.k, .string o.name, .string o.data, .int .i64 o.n]
set_option maxRecDepth 100000 in
theorem reply_cells {fuel : Nat} {cs : List Value} {x : DataW H × List MemPlace} (h : DataW.trod enc Try.prog W b sp hd fuel 74 cs = some x) :
    ∃ p : Wo.RepD, True ∧ cs = cellsR p := by
  have c9 : Try.prog.cellsOf 9 = 1 := by kernel_rfl
  have c3 : Try.prog.cellsOf 3 = 1 := by kernel_rfl
  have c2 : Try.prog.cellsOf 74 = 3 := by kernel_rfl
  obtain ⟨xs, n, rfl, _, hl, hxl, hf⟩ := DataW.trod_struct Try.underlying74 h
  clear h
  rw [c2] at hl
  have hxl' : xs.length = 3 := hxl
  have hl' : cs.length = 3 := hl
  match cs, hl', xs, hxl' with
  | [u0, u1, u2], _, [y0, y1, y2], _ =>
    have h0 : DataW.trod enc Try.prog W b sp hd n 9 (([u0, u1, u2].drop 0).take (Try.prog.cellsOf 9)) = some y0 := hf 0 _ rfl
    have h1 : DataW.trod enc Try.prog W b sp hd n 9 (([u0, u1, u2].drop 1).take (Try.prog.cellsOf 9)) = some y1 := hf 1 _ rfl
    have h2 : DataW.trod enc Try.prog W b sp hd n 3 (([u0, u1, u2].drop 2).take (Try.prog.cellsOf 3)) = some y2 := hf 2 _ rfl
    rw [c9] at h0 h1
    rw [c3] at h2
    obtain ⟨a0, e0, _, _⟩ := DataW.trod_string Try.underlying9 h0
    obtain ⟨a1, e1, _, _⟩ := DataW.trod_string Try.underlying9 h1
    obtain ⟨a2, e2, _, _⟩ := DataW.trod_int Try.underlying3 h2
    simp at e0 e1 e2
    subst e0 e1 e2
    exact ⟨⟨a0, a1, a2⟩, trivial, rfl⟩
set_option maxRecDepth 100000 in
theorem fail_cells {fuel : Nat} {cs : List Value} {x : DataW H × List MemPlace} (h : DataW.trod enc Try.prog W b sp hd fuel 76 cs = some x) :
    ∃ p : Wo.FailD, (0 ≤ p.op ∧ p.op < 256) ∧ cs = cellsX p := by
  have c9 : Try.prog.cellsOf 9 = 1 := by kernel_rfl
  have c3 : Try.prog.cellsOf 5 = 1 := by kernel_rfl
  have c2 : Try.prog.cellsOf 76 = 2 := by kernel_rfl
  obtain ⟨xs, n, rfl, _, hl, hxl, hf⟩ := DataW.trod_struct Try.underlying76 h
  clear h
  rw [c2] at hl
  have hxl' : xs.length = 2 := hxl
  have hl' : cs.length = 2 := hl
  match cs, hl', xs, hxl' with
  | [u0, u1], _, [y0, y1], _ =>
    have h0 : DataW.trod enc Try.prog W b sp hd n 5 (([u0, u1].drop 0).take (Try.prog.cellsOf 5)) = some y0 := hf 0 _ rfl
    have h1 : DataW.trod enc Try.prog W b sp hd n 9 (([u0, u1].drop 1).take (Try.prog.cellsOf 9)) = some y1 := hf 1 _ rfl
    rw [c3] at h0
    rw [c9] at h1
    obtain ⟨a0, e0, w0, _⟩ := DataW.trod_int Try.underlying5 h0
    obtain ⟨a1, e1, _, _⟩ := DataW.trod_string Try.underlying9 h1
    simp at e0 e1
    subst e0 e1
    exact ⟨⟨a0, a1⟩, in_u8 (by first | exact w0 | assumption), rfl⟩
set_option maxRecDepth 100000 in
theorem op_cells {fuel : Nat} {cs : List Value} {x : DataW H × List MemPlace} (h : DataW.trod enc Try.prog W b sp hd fuel 43 cs = some x) :
    ∃ o : Wo.OpR, Rw.OpOk o ∧ cs = cellsO o := by
  have c45 : Try.prog.cellsOf 43 = 5 := by kernel_rfl
  have c3 : Try.prog.cellsOf 3 = 1 := by kernel_rfl
  have c41 : Try.prog.cellsOf 41 = 1 := by kernel_rfl
  have c9 : Try.prog.cellsOf 9 = 1 := by kernel_rfl
  obtain ⟨xs, n, rfl, _, hl, hxl, hf⟩ := DataW.trod_struct Try.underlying43 h
  clear h
  rw [c45] at hl
  have hxl' : xs.length = 5 := hxl
  have hl' : cs.length = 5 := hl
  match cs, hl', xs, hxl' with
  | [u0, u1, u2, u3, u4], _, [y0, y1, y2, y3, y4], _ =>
    have h0 : DataW.trod enc Try.prog W b sp hd n 3 (([u0, u1, u2, u3, u4].drop 0).take (Try.prog.cellsOf 3)) = some y0 := hf 0 _ rfl
    have h1 : DataW.trod enc Try.prog W b sp hd n 41 (([u0, u1, u2, u3, u4].drop 1).take (Try.prog.cellsOf 41)) = some y1 := hf 1 _ rfl
    have h2 : DataW.trod enc Try.prog W b sp hd n 9 (([u0, u1, u2, u3, u4].drop 2).take (Try.prog.cellsOf 9)) = some y2 := hf 2 _ rfl
    have h3 : DataW.trod enc Try.prog W b sp hd n 9 (([u0, u1, u2, u3, u4].drop 3).take (Try.prog.cellsOf 9)) = some y3 := hf 3 _ rfl
    have h4 : DataW.trod enc Try.prog W b sp hd n 3 (([u0, u1, u2, u3, u4].drop 4).take (Try.prog.cellsOf 3)) = some y4 := hf 4 _ rfl
    rw [c3] at h0 h4
    rw [c41] at h1
    rw [c9] at h2 h3
    obtain ⟨kd, e0, _, _⟩ := DataW.trod_int Try.underlying3 h0
    obtain ⟨k, e1, w1, _⟩ := DataW.trod_int Try.underlying41 h1
    obtain ⟨nm, e2, _, _⟩ := DataW.trod_string Try.underlying9 h2
    obtain ⟨dt, e3, _, _⟩ := DataW.trod_string Try.underlying9 h3
    obtain ⟨n, e4, w4, _⟩ := DataW.trod_int Try.underlying3 h4
    simp at e0 e1 e2 e3 e4
    subst e0 e1 e2 e3 e4
    exact ⟨⟨kd, k, nm, dt, n⟩, ⟨in_u8 (by first | exact w1 | assumption), in_i64 (by first | exact w4 | assumption)⟩, rfl⟩
/- The script. -/
set_option maxRecDepth 100000 in
theorem script_of {fuel : Nat} {cs : List Value} {x : DataW H × List MemPlace} (h : DataW.trod enc Try.prog W b sp hd fuel 27 cs = some x) :
    ∃ (S : Rw.Scpt) (s : Rw.Shp), cs = (Rw.scr7 S s).toList ∧ Rw.ScrAt W S s ∧ ∀ x ∈ S.fails, 0 ≤ x.op ∧ x.op < 256 := by
  have c9 : Try.prog.cellsOf 9 = 1 := by kernel_rfl
  have c3 : Try.prog.cellsOf 3 = 1 := by kernel_rfl
  have c25 : Try.prog.cellsOf 25 = 1 := by kernel_rfl
  have s1 : Try.prog.cellsOf 22 = 1 := by kernel_rfl
  have s2 : Try.prog.cellsOf 23 = 1 := by kernel_rfl
  have s3 : Try.prog.cellsOf 24 = 1 := by kernel_rfl
  have c7 : Try.prog.cellsOf 27 = 7 := by kernel_rfl
  obtain ⟨xs, n, rfl, _, hl, hxl, hf⟩ := DataW.trod_struct Try.underlying27 h
  clear h
  rw [c7] at hl
  have hxl' : xs.length = 7 := hxl
  have hl' : cs.length = 7 := hl
  match cs, hl', xs, hxl' with
  | [u0, u1, u2, u3, u4, u5, u6], _, [y0, y1, y2, y3, y4, y5, y6], _ =>
    have h0 : DataW.trod enc Try.prog W b sp hd n 22 (([u0, u1, u2, u3, u4, u5, u6].drop 0).take (Try.prog.cellsOf 22)) = some y0 := hf 0 _ rfl
    have h1 : DataW.trod enc Try.prog W b sp hd n 9 (([u0, u1, u2, u3, u4, u5, u6].drop 1).take (Try.prog.cellsOf 9)) = some y1 := hf 1 _ rfl
    have h2 : DataW.trod enc Try.prog W b sp hd n 23 (([u0, u1, u2, u3, u4, u5, u6].drop 2).take (Try.prog.cellsOf 23)) = some y2 := hf 2 _ rfl
    have h3 : DataW.trod enc Try.prog W b sp hd n 24 (([u0, u1, u2, u3, u4, u5, u6].drop 3).take (Try.prog.cellsOf 24)) = some y3 := hf 3 _ rfl
    have h4 : DataW.trod enc Try.prog W b sp hd n 3 (([u0, u1, u2, u3, u4, u5, u6].drop 4).take (Try.prog.cellsOf 3)) = some y4 := hf 4 _ rfl
    have h5 : DataW.trod enc Try.prog W b sp hd n 3 (([u0, u1, u2, u3, u4, u5, u6].drop 5).take (Try.prog.cellsOf 3)) = some y5 := hf 5 _ rfl
    have h6 : DataW.trod enc Try.prog W b sp hd n 25 (([u0, u1, u2, u3, u4, u5, u6].drop 6).take (Try.prog.cellsOf 25)) = some y6 := hf 6 _ rfl
    clear hf hxl hl
    rw [s1] at h0
    rw [c9] at h1
    rw [s2] at h2
    rw [s3] at h3
    rw [c3] at h4 h5
    rw [c25] at h6
    obtain ⟨stdin, e1, _, _⟩ := DataW.trod_string Try.underlying9 h1
    obtain ⟨most, e4, _, _⟩ := DataW.trod_int Try.underlying3 h4
    obtain ⟨clk, e5, _, _⟩ := DataW.trod_int Try.underlying3 h5
    obtain ⟨ch, e6, _, _⟩ := DataW.trod_int Try.underlying25 h6
    simp at e1 e4 e5 e6
    subst e1 e4 e5 e6
    obtain ⟨L, oa, ca, rfl, na, _, hL⟩ := rows_opened Try.underlying22 (by kernel_rfl : Try.prog.cellsOf 54 = 2) (by decide) (fun _ => True) (⟨⟨#[]⟩, ⟨#[]⟩⟩ : Wo.FileD) Rw.cellsF (fun h => content_cells h) (show DataW.trod enc Try.prog W b sp hd n 22 [u0] = some y0 from h0)
    obtain ⟨R, oR, cR, rfl, _, _, hR⟩ := rows_opened Try.underlying23 (by kernel_rfl : Try.prog.cellsOf 74 = 3) (by decide) (fun _ => True) (⟨⟨#[]⟩, ⟨#[]⟩, 0⟩ : Wo.RepD) cellsR (fun h => reply_cells h) (show DataW.trod enc Try.prog W b sp hd n 23 [u2] = some y2 from h2)
    obtain ⟨X, oX, cX, rfl, _, hX0, hX⟩ := rows_opened Try.underlying24 (by kernel_rfl : Try.prog.cellsOf 76 = 2) (by decide) (fun p : Wo.FailD => 0 ≤ p.op ∧ p.op < 256) (⟨0, ⟨#[]⟩⟩ : Wo.FailD) cellsX (fun h => fail_cells h) (show DataW.trod enc Try.prog W b sp hd n 24 [u3] = some y3 from h3)
    refine ⟨⟨L, stdin, R, X, most, clk, ch, 0, fun _ => True, fun _ _ => trivial⟩, ⟨oa, ca, oR, cR, oX, cX, none, 0, none, 0, none, 0⟩, rfl, ⟨fun i p hp => ?_, na, fun i p hp => ?_, fun i p hp => ?_, Nat.zero_le _⟩, hX0⟩
    · obtain ⟨l, q, e, hc⟩ := hL i p hp
      exact ⟨l, q, e, hc 0 (by decide), hc 1 (by decide)⟩
    · obtain ⟨l, q, e, hc⟩ := hR i p hp
      exact ⟨l, q, e, hc 0 (by decide), hc 1 (by decide), hc 2 (by decide)⟩
    · obtain ⟨l, q, e, hc⟩ := hX i p hp
      exact ⟨l, q, e, hc 0 (by decide), hc 1 (by decide)⟩
theorem ops_of {fuel : Nat} {v : Value} {x : DataW H × List MemPlace} (h : DataW.trod enc Try.prog W b sp hd fuel 28 [v] = some x) : ∃ X, Wo.Scr W v X ∧ ∀ o ∈ X, Rw.OpOk o := by
  obtain ⟨X, oX, cX, rfl, _, hX0, hX⟩ := rows_opened Try.underlying28 (by kernel_rfl : Try.prog.cellsOf 43 = 5) (by decide) Rw.OpOk (⟨0, 0, ⟨#[]⟩, ⟨#[]⟩, 0⟩ : Wo.OpR) cellsO (fun h => op_cells h) h
  refine ⟨X, ⟨oX, cX, rfl, fun i o ho => ?_⟩, hX0⟩
  obtain ⟨l, q, e, hc⟩ := hX i o ho
  exact ⟨l, q, e, hc 0 (by decide), hc 1 (by decide), hc 2 (by decide), hc 3 (by decide), hc 4 (by decide)⟩
end
set_option maxRecDepth 100000 in
theorem plays_lifted (os : Os) (started : os.Started) (H : Type) (enc : TypeId × Value → H) :
    ReturnsInHanded {} Try.checked os 3 .any (Rows.worldPlaysSpec.pre6 enc Try.prog Try.f3 Rows.worldPlaysRow.domain false) (Rows.worldPlaysSpec.post enc Try.prog Try.f3 false true false false) := by
  refine returnsInHanded_of_change_shaped (C := Try.checked) own started (by kernel_rfl) Try.func3
    (ChangeSpec.witness6 (enc := enc) (C := Try.checked) false ⟨#[], #[.agg #[.slice none 0 0, .string ⟨#[]⟩, .slice none 0 0, .slice none 0 0, .int .i64 0, .int .i64 0, .int .u64 0], .slice none 0 0], []⟩ 8 (by kernel_rfl) (by kernel_rfl) (by kernel_rfl) (by kernel_rfl)) ?_
  intro W base args ds gs before hval0 hW _ _ hsh _
  have hval : ∀ (j : Nat) t v, Try.f3.params[j]? = some t → args[j]? = some v → Value.okWide Try.prog W .any base t v := hval0
  have hW' := hW
  obtain ⟨p, q, hA0, hV, rfl, hfz, hnd⟩ := hW
  have hA : DataW.TrodAll enc Try.prog W 0 (fun _ => true) true Try.f3.params.toList args.toList ds p := hA0
  rw [Try.params3] at hA hval
  obtain ⟨v0, vs0, d0, ds0, p0, q0, hargs, rfl, rfl, h0, r0⟩ := trodAll_cons hA
  obtain ⟨v1, vs1, d1, ds1, p1, q1, rfl, rfl, rfl, h1, r1⟩ := trodAll_cons r0
  obtain ⟨rfl, rfl, rfl⟩ := trodAll_nil r1
  obtain rfl : args = #[v0, v1] := by cases args; simp_all
  obtain ⟨rfl, rfl⟩ := trodVars_none hV
  obtain ⟨⟨cs⟩, rfl, _⟩ := okWide_struct Try.underlying27 (hval 0 27 v0 rfl rfl)
  obtain ⟨oa, n, c, rfl⟩ := okWide_slice Try.underlying28 (hval 1 28 v1 rfl rfl)
  obtain ⟨fuel0, hf0⟩ := h0
  obtain ⟨fuel1, hf1⟩ := h1
  obtain ⟨S, s, rfl, hS, hSx⟩ := script_of (cs := cs) hf0
  obtain ⟨X, hX, hXk⟩ := ops_of (v := .slice oa n c) hf1
  have key : Calls Try.prog 3 #[.agg (Rw.scr7 S s), .slice oa n c] W fun e w' => e = .returned (.bool true) ∧ Below W.heap.size W w' := by
    by_cases hd : Rw.Short S ∧ Rw.OkS S
    · exact Rw.plays awakeHere (Nat.zero_le _) hS _ X hX hXk ⟨hd.1, hd.2, hSx⟩
    · exact Rw.idle awakeHere (Nat.zero_le _) hS _ hd
  refine key.mono fun e W' ⟨he, hB⟩ => ?_
  subst he
  exact ⟨_, rfl, post_reads laidOut (by kernel_rfl) hW' rfl (fun _ _ _ => trodAll_cons_mk (shut_bool Try.underlying4 _) trodAll_mk0) rfl rfl hB⟩

end Go.Proofs.Ythbkcdbmimhhkaa.Wq
namespace Go.Proofs.Ythbkcdbmimhhkaa
open Go.RowKit
theorem worldPlays_holds : Rows.WorldPlaysSaid :=
  OpenClaim.holds_of_wide 3 Try.f3 rfl rfl rfl rfl rfl rfl rfl ⟨rfl, rfl, rfl, rfl, rfl⟩ rfl rfl rfl rfl rfl (by kernel_rfl) Try.func3 (by kernel_rfl)
    (of_decide_eq_true (by kernel_rfl)) (by unfold Func.isWrapper; first | (rw [if_pos (by decide +kernel)]; kernel_rfl) | (rw [if_neg (by decide +kernel)]; exact ⟨rfl, rfl⟩))
    (fun os started H enc _ => Wq.plays_lifted os started H enc)
#print axioms worldPlays_holds
end Go.Proofs.Ythbkcdbmimhhkaa
