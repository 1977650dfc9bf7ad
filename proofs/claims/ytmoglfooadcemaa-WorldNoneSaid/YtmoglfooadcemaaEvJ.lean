/-
  The evaluator's operations that make or write memory: bytes of a text, copy, append.
-/
import Derived.Test.YtmoglfooadcemaaEvI
namespace Go.Ev
open Go.RowKit

variable {P : Program} {T : TE} [TOk P T] {vs vs1 : VS} {ρ : Operand → Value} {o : Oper} {n : VN} {N0 : Nat → Prop} {W0 W : World} {μ : Mu}

theorem G.allocZ (h : G N0 W0 vs W μ) {xs : List Value} {c : Array Value} {elem : TypeId} {esz extra fam : Nat} {grow : Bool} (z : Nat × Nat) (hz : z.2 ≤ z.1 ∨ c.size ≤ z.1)
    (hxy : ∀ (i : Nat) v, xs[i]? = some v → ∃ v', c[i]? = some v' ∧ R μ v v') (hroom : xs.length + extra * esz ≤ c.size) (hfix : grow = false → extra = 0) :
    G N0 W0 (vs.add ⟨xs, elem, esz, fam, true, grow, false, false⟩) (W.alloc (.cells c elem z)) (μ.put vs.next ⟨W.heap.size, 0, extra, esz, xs.length⟩) := by
  have hle := Mu.put_le (h.fresh vs.next (Nat.le_refl _)) ⟨W.heap.size, 0, extra, esz, xs.length⟩
  have h1 : G N0 W0 vs (W.alloc (.cells c elem z)) μ := h.world (Kept.new _ _)
  refine h1.add (c := c) (z := z) ⟨?_, fun _ => ⟨hz, fun hk => Nat.lt_irrefl _ (h.start _ hk)⟩, rfl, rfl, by simpa using hroom, hfix, (fun x => by cases x), (fun x => by cases x), ?_⟩ ?_
  · show (W.heap.push _)[W.heap.size]? = _
    simp
  · intro i v hv
    obtain ⟨v', e1, e2⟩ := hxy i v hv
    exact ⟨v', by simpa using e1, e2.mono hle⟩
  · intro id' B' hm _ l' hl'
    obtain ⟨m, c, z, e1, L⟩ := h.blocks id' B' hm
    rw [hl'] at e1; cases e1
    have := (Array.getElem?_eq_some_iff.1 L.at_).1
    show l'.blk ≠ W.heap.size
    omega

def byteV (b : UInt8) : Value := .int .u8 b.toNat

theorem freeze_alloc (w : World) (c : Array Value) (e : TypeId) : (w.alloc (.cells c e)).freeze { block := w.heap.size, off := c.size } 1 = w.alloc (.cells c e (c.size, c.size + 1)) := by
  simp only [World.freeze, World.alloc, Nat.one_ne_zero, if_false]
  congr 1
  apply Array.ext
  · simp
  · intro i h1 h2
    simp [Array.getElem_modify, Array.getElem_push]
    by_cases hi : i < w.heap.size
    · have : ¬ w.heap.size = i := by omega
      simp [hi, this]
    · have : w.heap.size = i := by simp at h2; omega
      simp [this]

def vbytes (T : TE) (vs : VS) (dst : TypeId) (s : ByteArray) : Option (VN × VS) :=
  match T.und dst with
  | some (.slice e) => match T.und e with
    | some (.int .u8) => some (.value (.slice (some ⟨vs.next, 0, none⟩) s.data.toList.length s.data.toList.length), vs.add ⟨s.data.toList.map byteV, e, 1, vs.next, true, true, false, false⟩)
    | _ => none
  | _ => none
theorem sound_bytes {src dst : TypeId} {x : Operand} {s : ByteArray} (ho : o.op = .convert src dst x) (hx : ρ x = .string s) (hd : T.und src = some .string) (h : vbytes T vs dst s = some (n, vs1)) : SoundM P vs ρ o n vs1 := by
  intro N0 W0 W μ ρ' hG hρ
  have h1 := hρ x (by simp [ho, Op.operands])
  rw [hx] at h1
  have e1 : ρ' x = .string s := by cases hv : ρ' x <;> rw [hv] at h1 <;> cases h1; rfl
  unfold vbytes at h
  split at h
  case h_2 => cases h
  rename_i e hu
  split at h
  case h_2 => cases h
  rename_i hu2
  cases h
  obtain ⟨cap, hcap, hcut⟩ : ∃ cap, s.size ≤ cap ∧ (Question.appendCap s.size 0 e).cut (W.tape W.drawn (.appendCap s.size 0 e)) = cap := ⟨_, by simp [Question.cut], rfl⟩
  have hG1 : G N0 W0 vs W.drew μ := hG.drawn _
  have hsz : s.data.toList.length = s.size := by rw [Array.length_toList]; rfl
  let c : Array Value := s.data.map (fun b => .int .u8 b.toNat) ++ Array.replicate (cap - s.size) (.int .u8 0)
  have hds : s.data.size = s.size := rfl
  have hcs : c.size = cap := by simp only [c, Array.size_append, Array.size_map, Array.size_replicate, hds]; omega
  have hg := hG1.allocZ (xs := s.data.toList.map byteV) (c := c) (elem := e) (esz := 1) (extra := cap - s.size) (fam := vs.next) (grow := true) (c.size, c.size + 1) (.inr (Nat.le_refl _))
    (fun i v hv => by
      simp only [List.getElem?_map, Option.map_eq_some_iff] at hv
      obtain ⟨b, hb, rfl⟩ := hv
      have hi : i < s.data.size := by have := (List.getElem?_eq_some_iff.1 hb).1; simpa using this
      refine ⟨byteV b, ?_, .int _ _⟩
      simp only [c]
      rw [Array.getElem?_append_left (by simpa using hi)]
      simp only [Array.getElem?_map]
      rw [Array.getElem?_toList] at hb
      rw [hb]; rfl)
    (by rw [List.length_map, hsz, hcs]; omega) (fun h => by cases h)
  refine ⟨_, _, .value (.slice (some ⟨W.heap.size, 0, none⟩) s.size cap), hG.le_put _, hg, ?_, ?_⟩
  · have hfz := freeze_alloc W.drew c e
    have hsh : (W.drew.alloc (.cells c e)).shape? W.heap.size = some (e, c.size) := by
      show (match (W.drew.heap.push (.cells c e))[W.heap.size]? with | some (.cells c elem _) => some (elem, c.size) | _ => none) = _
      have : (W.drew.heap.push (.cells c e))[W.heap.size]? = some (.cells c e) := by
        exact Array.getElem?_push_size
      rw [this]
    have hforced : (Question.appendCap s.size 0 e).forced = false := rfl
    have hc2 : (Array.map (fun b => Value.int IntKind.u8 (UInt8.toNat b)) s.data ++ Array.replicate (cap - s.size) (Value.int IntKind.u8 0)) = c := rfl
    simp [execOp, ho, e1, convert, run_underlying (TOk.und (P := P) hd), run_underlying (TOk.und (P := P) hu), run_underlying (TOk.und (P := P) hu2), Conv.stringToBytes, hforced, hcut, newRow, markStringish]
    rw [hc2, hsh]
    simp only [run_freeze, Result.andThen_ok]
    have : W.heap.size = W.drew.heap.size := rfl
    rw [this, hfz]
  · have := R_newSlice (μ := μ) vs W.heap.size (cap - s.size) 1 (s.data.toList.map byteV).length s.size (.inr (by rw [List.length_map, hsz, Nat.mul_one])) s.size
    have e2 : s.size + (cap - s.size) = cap := by omega
    rw [e2] at this
    simpa [RN, hsz] using this


/- The first cells of what is appended or copied. -/
def vfirst (vs : VS) (size n : Nat) : Value → Option (List Value)
  | .slice (some a) _ _ => vread vs a (n * size)
  | .slice none _ _ => some []
  | .string s => some ((s.data.toList.take n).map byteV)
  | _ => none
theorem extract_data (s : ByteArray) (n : Nat) : (s.extract 0 n).data.toList = s.data.toList.take n := by
  simp [ByteArray.data_extract]
theorem first_run (hG : G N0 W0 vs W μ) {size n : Nat} {x x' : Value} {xs : List Value} (h : vfirst vs size n x = some xs) (hx : R μ x x') :
    ∃ ys : Array Value, (Builtin.firstCells size n x').run P W = .ok ys W ∧ RA μ xs.toArray ys := by
  unfold vfirst at h
  split at h
  · rename_i a m c
    obtain ⟨l, hl, _, rfl⟩ := hx.inv_slice
    obtain ⟨ys, h1, h2⟩ := hG.run_load (P := P) h hl
    exact ⟨ys, by simp [Builtin.firstCells, h1], h2⟩
  · cases h
    cases hx
    exact ⟨#[], by simp [Builtin.firstCells], RA.empty⟩
  · rename_i s
    cases h
    cases hx
    refine ⟨(s.extract 0 n).data.map fun b => .int .u8 b.toNat, by simp [Builtin.firstCells], ?_⟩
    have e : ((s.extract 0 n).data.map fun b => Value.int .u8 b.toNat) = ((s.data.toList.take n).map byteV).toArray := by
      apply Array.ext'
      simp only [Array.toList_map, extract_data]
      rfl
    rw [e]
    refine RA_self μ (plainA_of fun i v hv => ?_)
    simp only [List.getElem?_toArray, List.getElem?_map, Option.map_eq_some_iff] at hv
    obtain ⟨b, _, rfl⟩ := hv
    rfl
  · cases h
def vlenOf : Value → Option Nat
  | .slice _ n _ => some n
  | .string s => some s.data.toList.length
  | _ => none
theorem lenOf_run {x x' : Value} {n : Nat} (h : vlenOf x = some n) (hx : R μ x x') : (Builtin.lenOf x').run P W = .ok n W := by
  unfold vlenOf at h
  split at h
  · cases h; cases hx <;> simp [Builtin.lenOf]
  · cases h; cases hx; simp [Builtin.lenOf]
  · cases h

def vcopy (T : TE) (vs : VS) (dT : TypeId) (dst src : Value) : Option (VN × VS) :=
  match T.und dT, dst, vlenOf src with
  | some (.slice elem), .slice base dLen _, some sLen => match T.inf elem with
    | some i => match vfirst vs i.size (Nat.min sLen dLen) src with
      | some [] => some (.value (goInt (Nat.min sLen dLen)), vs)
      | some xs => match base with
        | some a => match vwrite vs a xs with
          | some vs1 => some (.value (goInt (Nat.min sLen dLen)), vs1)
          | none => none
        | none => some (.value (goInt (Nat.min sLen dLen)), vs)
      | none => none
    | none => none
  | _, _, _ => none
theorem sound_copy {c : Call} {x y : Operand} {t u : TypeId} (ho : o.op = .call c) (hc : c.callee = .builtin .copy) (ha : c.args = #[x, y]) (ht : c.argTypes = #[t, u]) (h : vcopy T vs t (ρ x) (ρ y) = some (n, vs1)) : SoundM P vs ρ o n vs1 := by
  intro N0 W0 W μ ρ' hG hρ
  have h1 := hρ x (by simp [ho, Op.operands, Call.operands, hc, ha])
  have h2 := hρ y (by simp [ho, Op.operands, Call.operands, hc, ha])
  generalize hx : ρ x = vx at *
  generalize hy : ρ y = vy at *
  generalize hx' : ρ' x = vx' at *
  generalize hy' : ρ' y = vy' at *
  unfold vcopy at h
  split at h
  case h_2 => cases h
  rename_i elem base dLen cp sLen hu hl
  split at h
  case h_2 => cases h
  rename_i i hi
  have hlen := lenOf_run (P := P) (W := W) hl h2
  obtain ⟨base', cp', e0, hb⟩ : ∃ base' cp', vx' = .slice base' dLen cp' ∧ ((base = none ∧ base' = none) ∨ ∃ a l, base = some a ∧ μ a.block = some l ∧ base' = some (amap l a)) := by
    cases h1 with
    | nilslice => exact ⟨_, _, rfl, .inl ⟨rfl, rfl⟩⟩
    | slice a l _ _ hm => exact ⟨_, _, rfl, .inr ⟨a, l, rfl, hm, rfl⟩⟩
  subst e0
  split at h
  · rename_i hf
    cases h
    obtain ⟨ys, r1, r2⟩ := first_run (P := P) hG hf h2
    have hy0 : ys = #[] := by have := r2.1; simp at this; exact Array.eq_empty_of_size_eq_zero this.symm
    subst hy0
    refine ⟨μ, W, .value (goInt (Nat.min sLen dLen)), Mu.le_refl _, hG, ?_, .int _ _⟩
    rcases hb with ⟨_, rfl⟩ | ⟨a, l, _, _, rfl⟩ <;>
      simp [execOp, ho, resolve, hc, ha, ht, invoke, builtin, Builtin.copy_, run_underlying (TOk.und (P := P) hu), hx', hy', hlen, run_sizeOf' (TOk.inf (P := P) hi), r1, storeCells]
  · rename_i xs hne hf
    obtain ⟨ys, r1, r2⟩ := first_run (P := P) hG hf h2
    split at h
    · rename_i a
      split at h
      case h_2 => cases h
      rename_i vs2 hw
      cases h
      rcases hb with ⟨e, _⟩ | ⟨a', l, e, hm, rfl⟩
      · cases e
      cases e
      obtain ⟨W1, q1, q2⟩ := hG.write (P := P) hw hm (ys := ys.toList) (by simpa using r2)
      refine ⟨μ, W1, .value (goInt (Nat.min sLen dLen)), Mu.le_refl _, q2, ?_, .int _ _⟩
      simp [execOp, ho, resolve, hc, ha, ht, invoke, builtin, Builtin.copy_, run_underlying (TOk.und (P := P) hu), hx', hy', hlen, run_sizeOf' (TOk.inf (P := P) hi), r1, q1]
    · cases h
      rcases hb with ⟨_, rfl⟩ | ⟨a', l, e, hm, rfl⟩
      · refine ⟨μ, W, .value (goInt (Nat.min sLen dLen)), Mu.le_refl _, hG, ?_, .int _ _⟩
        simp [execOp, ho, resolve, hc, ha, ht, invoke, builtin, Builtin.copy_, run_underlying (TOk.und (P := P) hu), hx', hy', hlen, run_sizeOf' (TOk.inf (P := P) hi), r1]
      · cases e
  · cases h

end Go.Ev
