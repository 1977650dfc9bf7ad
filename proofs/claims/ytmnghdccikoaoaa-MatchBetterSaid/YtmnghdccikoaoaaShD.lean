/-
  Package shape: a tree that came in, opened.
-/
import Derived.Test.YtmnghdccikoaoaaShA
import Derived.Deep.Slices
import Derived.OpenShut
namespace Go.Proofs.Ytmnghdccikoaoaa.Sh
open Go.RowKit Go.ChangeShapes

def inR : Nat → Re → Prop
  | 0, _ => True
  | l + 1, .mk k s0 s1 s2 s3 a b kids => ((0 ≤ k ∧ k ≤ 255) ∧ (0 ≤ s0 ∧ s0 < 18446744073709551616) ∧ (0 ≤ s1 ∧ s1 < 18446744073709551616) ∧ (0 ≤ s2 ∧ s2 < 18446744073709551616) ∧ (0 ≤ s3 ∧ s3 < 18446744073709551616) ∧
      (-9223372036854775808 ≤ a ∧ a ≤ 9223372036854775807) ∧ (-9223372036854775808 ≤ b ∧ b ≤ 9223372036854775807)) ∧ ∀ r ∈ kids, inR l r
theorem add_none (l o n : Nat) : (⟨l, o, none⟩ : Addr).add n = ⟨l, o + n, none⟩ := by
  unfold Addr.add
  split
  · rename_i h
    rw [h, Nat.add_zero]
  · rfl
theorem spot_none {W : World} {l o : Nat} {s : Nat} : W.cell? ⟨l, o, some s⟩ = none := by
  unfold World.cell?
  split <;> rfl
theorem wf_u64 {n : Int} (h : (Lit.int .u64 n).wf = true) : 0 ≤ n ∧ n < 18446744073709551616 := by
  simp only [Lit.wf, Bool.and_eq_true, decide_eq_true_eq] at h
  have h1 : IntKind.u64.min = 0 := by decide
  have h2 : IntKind.u64.max = 18446744073709551615 := by decide
  rw [h1, h2] at h
  omega
theorem wf_u8 {n : Int} (h : (Lit.int .u8 n).wf = true) : 0 ≤ n ∧ n ≤ 255 := by
  simp only [Lit.wf, Bool.and_eq_true, decide_eq_true_eq] at h
  have h1 : IntKind.u8.min = 0 := by decide
  have h2 : IntKind.u8.max = 255 := by decide
  rw [h1, h2] at h
  omega
theorem wf_i64 {n : Int} (h : (Lit.int .i64 n).wf = true) : -9223372036854775808 ≤ n ∧ n ≤ 9223372036854775807 := by
  simp only [Lit.wf, Bool.and_eq_true, decide_eq_true_eq] at h
  have h1 : IntKind.i64.min = -9223372036854775808 := by decide
  have h2 : IntKind.i64.max = 9223372036854775807 := by decide
  rw [h1, h2] at h
  omega
set_option maxRecDepth 100000 in
theorem opened {H : Type} {enc : TypeId × Value → H} {W : World} {base : Nat} {sp : Nat → Bool} {held : Bool} : ∀ (N fuel : Nat) (cs : List Value) (x : DataW H × List MemPlace), fuel ≤ N →
    DataW.trod enc Try.prog W base sp held fuel 34 cs = some x → ∃ r, Lies W r cs ∧ ∀ l, inR l r
  | 0, fuel, cs, x, hN, h => by
    have : fuel = 0 := by omega
    subst this
    simp [DataW.trod] at h
  | N + 1, fuel, cs, x, hN, h => by
    have c1 : Try.prog.cellsOf 34 = 8 := by kernel_rfl
    have c2 : Try.prog.cellsOf 31 = 4 := by kernel_rfl
    have c3 : Try.prog.cellsOf 29 = 1 := by kernel_rfl
    have c4 : Try.prog.cellsOf 3 = 1 := by kernel_rfl
    have c5 : Try.prog.cellsOf 28 = 1 := by kernel_rfl
    have c6 : Try.prog.cellsOf 32 = 1 := by kernel_rfl
    obtain ⟨xs, n, rfl, _, hl, hxl, hf⟩ := DataW.trod_struct Try.underlying34 h
    clear h
    rw [c1] at hl
    have hxl' : xs.length = 5 := hxl
    match cs, hl, xs, hxl' with
    | [u0, u1, u2, u3, u4, u5, u6, u7], _, [y0, y1, y2, y3, y4], _ =>
      have h0 : DataW.trod enc Try.prog W base sp held n 28 (([u0, u1, u2, u3, u4, u5, u6, u7].drop 0).take (Try.prog.cellsOf 28)) = some y0 := hf 0 _ rfl
      have h1 : DataW.trod enc Try.prog W base sp held n 31 (([u0, u1, u2, u3, u4, u5, u6, u7].drop 1).take (Try.prog.cellsOf 31)) = some y1 := hf 1 _ rfl
      have h2 : DataW.trod enc Try.prog W base sp held n 3 (([u0, u1, u2, u3, u4, u5, u6, u7].drop 5).take (Try.prog.cellsOf 3)) = some y2 := hf 2 _ rfl
      have h3 : DataW.trod enc Try.prog W base sp held n 3 (([u0, u1, u2, u3, u4, u5, u6, u7].drop 6).take (Try.prog.cellsOf 3)) = some y3 := hf 3 _ rfl
      have h4 : DataW.trod enc Try.prog W base sp held n 32 (([u0, u1, u2, u3, u4, u5, u6, u7].drop 7).take (Try.prog.cellsOf 32)) = some y4 := hf 4 _ rfl
      clear hf hxl
      rw [c5] at h0
      rw [c2] at h1
      rw [c4] at h2 h3
      rw [c6] at h4
      obtain ⟨k, e0, _, w0⟩ := DataW.trod_int Try.underlying28 h0
      obtain ⟨a, e2, _, w2⟩ := DataW.trod_int Try.underlying3 h2
      obtain ⟨b, e3, _, w3⟩ := DataW.trod_int Try.underlying3 h3
      obtain ⟨zs, m, hm, _, _, hz, hg⟩ := DataW.trod_array Try.underlying31 h1
      simp only [c3] at hg
      match zs, hz with
      | [z0, z1, z2, z3], _ =>
        obtain ⟨s0, f0, _, v0⟩ := DataW.trod_int Try.underlying29 (hg 0 (by omega))
        obtain ⟨s1, f1, _, v1⟩ := DataW.trod_int Try.underlying29 (hg 1 (by omega))
        obtain ⟨s2, f2, _, v2⟩ := DataW.trod_int Try.underlying29 (hg 2 (by omega))
        obtain ⟨s3, f3, _, v3⟩ := DataW.trod_int Try.underlying29 (hg 3 (by omega))
        simp at e0 e2 e3 f0 f1 f2 f3
        subst e0 e2 e3 f0 f1 f2 f3
        have hw := And.intro (wf_u8 w0) (And.intro (wf_u64 v0) (And.intro (wf_u64 v1) (And.intro (wf_u64 v2) (And.intro (wf_u64 v3) (And.intro (wf_i64 w2) (wf_i64 w3))))))
        rcases DataW.trod_slice Try.underlying32 h4 with ⟨e4, _⟩ | ⟨ad, len, cap, elems, rest, n2, hn2, e4, _, hb, hlc, hcm, hel, hei, _, _⟩
        · simp at e4
          subst e4
          refine ⟨.mk k s0 s1 s2 s3 a b [], .nil .., fun l => ?_⟩
          cases l with
          | zero => trivial
          | succ l => exact ⟨hw, fun r hr => by simp at hr⟩
        · simp at e4
          subst e4
          rw [c1] at hei
          rcases Nat.eq_zero_or_pos len with hz0 | hpos
          · subst hz0
            refine ⟨.mk k s0 s1 s2 s3 a b [], .nil .., fun l => ?_⟩
            cases l with
            | zero => trivial
            | succ l => exact ⟨hw, fun r hr => by simp at hr⟩
          · have hx : ∀ i, i < len → ∃ cs', W.cells? base (ad.add (i * 8)) 8 = some cs' ∧ ∃ r, Lies W r cs' ∧ ∀ l, inR l r := fun i hi => by
              have q := hei i hi
              rw [List.getElem?_eq_getElem (by omega)] at q
              obtain ⟨cs', q1, q2⟩ := Option.bind_eq_some_iff.1 q
              exact ⟨cs', q1, opened N n2 cs' _ (by omega) q2⟩
            obtain ⟨l, o, spt⟩ := ad
            have hsp : spt = none := by
              obtain ⟨cs', q1, _⟩ := hx 0 hpos
              obtain ⟨_, q2, q3⟩ := World.cells?_some q1
              have q4 := q3 0 (by omega)
              cases spt with
              | none => rfl
              | some s =>
                have q5 : W.cell? ⟨l, o, some s⟩ = cs'[0]? := q4
                rw [spot_none, List.getElem?_eq_getElem (by omega)] at q5
                cases q5
            subst hsp
            have hy : ∀ i, i < len → ∃ z : Re × List Value, (∀ j v, z.2[j]? = some v → W.cell? ⟨l, o + i * 8 + j, none⟩ = some v) ∧ Lies W z.1 z.2 ∧ ∀ l, inR l z.1 := fun i hi => by
              obtain ⟨cs', q1, r, q2, q3⟩ := hx i hi
              obtain ⟨_, q4, q5⟩ := World.cells?_some q1
              refine ⟨(r, cs'), fun j v hv => ?_, q2, q3⟩
              have hj : j < 8 := by
                obtain ⟨hj, _⟩ := List.getElem?_eq_some_iff.mp hv
                have hj2 : j < cs'.length := hj
                omega
              have q6 := q5 j hj
              rw [add_none, add_none] at q6
              exact q6.trans hv
            let V : Nat → Re × List Value := fun i => if hi : i < len then Classical.choose (hy i hi) else (.mk 0 0 0 0 0 0 0 [], [])
            have hV : ∀ i, i < len → (∀ j v, (V i).2[j]? = some v → W.cell? ⟨l, o + i * 8 + j, none⟩ = some v) ∧ Lies W (V i).1 (V i).2 ∧ ∀ l, inR l (V i).1 := fun i hi => by
              have e : V i = Classical.choose (hy i hi) := dif_pos hi
              rw [e]
              exact Classical.choose_spec (hy i hi)
            clear_value V
            have hlen : ((List.range len).map fun i => (V i).1).length = len := by simp
            refine ⟨.mk k s0 s1 s2 s3 a b ((List.range len).map fun i => (V i).1), ?_, fun l => ?_⟩
            · have := Lies.row (W := W) k s0 s1 s2 s3 a b ((List.range len).map fun i => (V i).1) l o cap (fun i => (V i).2) (by rw [hlen]; exact hlc) hcm (fun i hi => (hV i (by rw [hlen] at hi; exact hi)).1) (fun i r hr => by
                rw [List.getElem?_map] at hr
                by_cases hi : i < len
                · rw [List.getElem?_range hi] at hr
                  simp at hr
                  rw [← hr]
                  exact (hV i hi).2.1
                · rw [List.getElem?_eq_none (by simp; omega)] at hr
                  cases hr)
              rw [hlen] at this
              exact this
            · cases l with
              | zero => trivial
              | succ l =>
                refine ⟨hw, fun r hr => ?_⟩
                rw [List.mem_map] at hr
                obtain ⟨i, hi, rfl⟩ := hr
                exact (hV i (List.mem_range.mp hi)).2.2 l
end Go.Proofs.Ytmnghdccikoaoaa.Sh
