/-
  The evaluator's pointers: as unsafe.Pointer and back, held against each other; functions that hand back what they are given.
-/
import Derived.Test.YtahblmcjocepeaaDoorGc
import Derived.Lib.Builder
import Derived.Lib.UnsafeStr
import Derived.StillTail
import Derived.Deep.Quiet
namespace Go.Ev
open Go.RowKit
variable [Base]

variable {P : Program} {T : TE} [TOk P T] {vs vs1 : VS} {ρ : Operand → Value} {o : Oper} {n : VN} {N0 : Nat → Prop} {W0 W : World} {μ : Mu}

def vunsafe (T : TE) (vs : VS) (src dst : TypeId) (a : Addr) : Option Value :=
  match find vs.heap a.block with
  | some B => bif a.spot.isNone && Nat.blt a.off B.cells.length then
      match T.und src, T.und dst with
      | some (.pointer t), some .unsafePointer => match T.inf t with
        | some i => bif Nat.beq i.size 0 then none else some (.pointer (some a))
        | none => none
      | some .unsafePointer, some (.pointer u) => match T.inf u with
        | some _ => bif B.whole && T.lies B.elem B.cells.length a.off u then some (.pointer (some a)) else none
        | none => none
      | _, _ => none
    else none
  | none => none
theorem sound_unsafe {src dst : TypeId} {x : Operand} {a : Addr} {v : Value} (ho : o.op = .convert src dst x) (hx : ρ x = .pointer (some a)) (h : vunsafe T vs src dst a = some v) : Sound P vs ρ o (.value v) := by
  intro N0 W0 W μ ρ' hG hρ
  have h1 := hρ x (by simp [ho, Op.operands])
  rw [hx] at h1
  obtain ⟨l, hl, e⟩ := h1.inv_ptr
  unfold vunsafe at h
  split at h
  case h_2 => cases h
  rename_i B hf
  simp only [Bool.cond_eq_ite] at h
  split at h
  case isFalse => cases h
  rename_i hb
  simp only [Bool.and_eq_true, Option.isNone_iff_eq_none, Nat.blt_eq] at hb
  obtain ⟨l', c, z, hm, L⟩ := hG.blocks _ _ (find_mem hf)
  rw [hl] at hm; cases hm
  have hsh : W.shape? (amap l a).block = some (B.elem, c.size) := by
    show W.shape? l.blk = _
    simp [World.shape?, L.at_]
  have hroom := L.room
  have hlen := L.len
  have hoff : (amap l a).off < c.size := by
    show l.off + a.off < c.size
    omega
  split at h
  · rename_i t hs hd
    split at h
    case h_2 => cases h
    rename_i i hi
    split at h
    · cases h
    rename_i hz
    cases h
    have hz' : i.size ≠ 0 := fun e => hz (by rw [e]; rfl)
    exact ⟨.value (.pointer (some (amap l a))), by simp [execOp, ho, e, Lib.run_to_unsafe W (amap l a) (TOk.und (P := P) hs) (TOk.und (P := P) hd) (TOk.inf (P := P) hi) hz' hsh hoff], .ptr a l hl⟩
  · rename_i u hs hd
    split at h
    case h_2 => cases h
    rename_i i hi
    split at h
    case isFalse => cases h
    rename_i hw
    simp only [Bool.and_eq_true] at hw
    cases h
    obtain ⟨w1, w2⟩ := L.whole hw.1
    have hlies : liesAt P P.depth B.elem (c.size / P.cellsOf B.elem) (amap l a).off u 1 = true := by
      have : (amap l a).off = a.off := by show l.off + a.off = a.off; omega
      rw [this, w2]
      exact TOk.lies hw.2
    exact ⟨.value (.pointer (some (amap l a))), by simp [execOp, ho, e, Lib.run_from_unsafe W (amap l a) (TOk.und (P := P) hs) (TOk.und (P := P) hd) (TOk.inf (P := P) hi) hsh hlies], .ptr a l hl⟩
  · cases h

/- Two pointers into one block. -/
def vptrEq (T : TE) (op : BinOp) (t : TypeId) (a b : Addr) : Option Value :=
  match T.und t with
  | some (.pointer e) => match T.inf e with
    | some i => bif Nat.beq a.block b.block && a.spot.isNone && b.spot.isNone && !(Nat.beq i.size 0) then
        match op with
        | .eql => some (.bool (Nat.beq a.off b.off))
        | .neq => some (.bool (!Nat.beq a.off b.off))
        | _ => none
      else none
    | none => none
  | _ => none
omit [Base] in
theorem sameAddr_block {a b : Addr} (h : a.block = b.block) : (sameAddr a b).run P W = .ok (a == b) W := by
  simp [sameAddr, h]
theorem sound_ptrEq {op : BinOp} {t u : TypeId} {x y : Operand} {a b : Addr} {v : Value} (ho : o.op = .binOp op t x y u) (hx : ρ x = .pointer (some a)) (hy : ρ y = .pointer (some b)) (h : vptrEq T op t a b = some v) : Sound P vs ρ o (.value v) := by
  intro N0 W0 W μ ρ' hG hρ
  have h1 := hρ x (by simp [ho, Op.operands])
  have h2 := hρ y (by simp [ho, Op.operands])
  rw [hx] at h1; rw [hy] at h2
  obtain ⟨l, hl, e⟩ := h1.inv_ptr
  obtain ⟨l', hl', e'⟩ := h2.inv_ptr
  unfold vptrEq at h
  split at h
  case h_2 => cases h
  rename_i te hu
  split at h
  case h_2 => cases h
  rename_i i hi
  simp only [Bool.cond_eq_ite] at h
  split at h
  case isFalse => cases h
  rename_i hb
  simp only [Bool.and_eq_true, Option.isNone_iff_eq_none, Nat.beq_eq, Bool.not_eq_true'] at hb
  obtain ⟨⟨⟨b1, b2⟩, b3⟩, b4⟩ := hb
  have hz : ¬ i.size = 0 := fun e => by rw [e] at b4; cases b4
  rw [← b1, hl] at hl'; cases hl'
  have heq : (amap l a == amap l b) = Nat.beq a.off b.off := by
    rw [Bool.eq_iff_iff, beq_iff_eq, Nat.beq_eq]
    simp [amap, b2, b3]
  have hrun : ∀ d : Nat, (Op.equalIn (d + 1) t (.pointer (some (amap l a))) (.pointer (some (amap l b)))).run P W = .ok (Nat.beq a.off b.off) W := fun d => by
    rw [← heq]
    simp [Op.equalIn, run_underlying (TOk.und (P := P) hu), run_sizeOf' (TOk.inf (P := P) hi), hz, sameAddr_block (P := P) (W := W) (a := amap l a) (b := amap l b) rfl]
  split at h
  · cases h
    refine ⟨.value (.bool (Nat.beq a.off b.off)), ?_, .bool _⟩
    have : binOp .eql t (.pointer (some (amap l a))) (.pointer (some (amap l b))) = (do pure (.bool (← Op.equal t (.pointer (some (amap l a))) (.pointer (some (amap l b)))))) := rfl
    simp [execOp, ho, e, e', eqGuard, this, Op.equal, Op.maxDepth, hrun 9999]
  · cases h
    refine ⟨.value (.bool (!Nat.beq a.off b.off)), ?_, .bool _⟩
    have : binOp .neq t (.pointer (some (amap l a))) (.pointer (some (amap l b))) = (do pure (.bool (!(← Op.equal t (.pointer (some (amap l a))) (.pointer (some (amap l b))))))) := rfl
    simp [execOp, ho, e, e', eqGuard, this, Op.equal, Op.maxDepth, hrun 9999]
  · cases h

/- A function that hands back what it is given. -/
def vident (T : TE) (ρ : Operand → Value) (c : Call) : Option VN :=
  match c.callee with
  | .value f => match ρ f, c.args.toList with
    | .func (.func g) first captured, [x] => match first.toList, captured.toList with
      | [], [] => bif T.idf g then some (.value (ρ x)) else none
      | _, _ => none
    | _, _ => none
  | _ => none
theorem sound_ident {c : Call} (ho : o.op = .call c) (h : vident T ρ c = some n) : Sound P vs ρ o n := by
  intro N0 W0 W μ ρ' hG hρ
  unfold vident at h
  split at h
  case h_2 => cases h
  rename_i f hc
  split at h
  case h_2 => cases h
  rename_i g first captured x hf ha
  split at h
  case h_2 => cases h
  rename_i q1 q2
  simp only [Bool.cond_eq_ite] at h
  split at h
  case isFalse => cases h
  rename_i hid
  cases h
  have ha' : c.args = #[x] := Array.ext' ha
  have h1 := hρ f (by simp [ho, Op.operands, Call.operands, hc])
  have h2 := hρ x (by simp [ho, Op.operands, Call.operands, hc, ha'])
  rw [hf] at h1
  obtain ⟨a', b', e, ra, rb⟩ := h1.inv_func
  have ea : a' = #[] := by have := ra.1; rw [show first = #[] from Array.ext' q1] at this; simp at this; exact Array.eq_empty_of_size_eq_zero this.symm
  have eb : b' = #[] := by have := rb.1; rw [show captured = #[] from Array.ext' q2] at this; simp at this; exact Array.eq_empty_of_size_eq_zero this.symm
  subst ea; subst eb
  refine ⟨.value (ρ' x), ?_, h2⟩
  have e1 : execOp ρ' o = callFunc g #[ρ' x] := by
    simp [execOp, ho, resolve, hc, e, Deferred.ofValue, invoke, ha']
  rw [e1]
  exact TOk.idf hid _ W

end Go.Ev

/-
  The evaluator's bytes as a text without a copy (what strings.Builder hands back).
-/
namespace Go.Ev
open Go.RowKit
variable [Base]

variable {P : Program} {T : TE} [TOk P T] {vs vs1 : VS} {ρ : Operand → Value} {o : Oper} {n : VN} {N0 : Nat → Prop} {W0 W : World} {μ : Mu}

omit [Base] in
theorem liesAt_row {e : TypeId} (hc : P.cellsOf e = 1) (count off n : Nat) (hn : off + n ≤ count) : liesAt P P.depth e count off e n = true := by
  have hd : P.depth = (2 * (P.types.size + Made.depth) + 1) + 1 := rfl
  rw [hd]
  simp only [liesAt, Bool.or_eq_true]
  left
  rw [hd]
  simp [rowAt, hc, hn, sameLayout]
  omega

def vsliceData (x : Value) : Option Value :=
  match x with
  | .slice none _ _ => some (.pointer none)
  | .slice (some a) _ c => bif Nat.beq c 0 then none else some (.pointer (some a))
  | _ => none
theorem sound_sliceData {c : Call} {x : Operand} {v : Value} (ho : o.op = .call c) (hc : c.callee = .builtin .unsafeSliceData) (ha : c.args = #[x]) (h : vsliceData (ρ x) = some v) : Sound P vs ρ o (.value v) := by
  intro N0 W0 W μ ρ' hG hρ
  have h1 := hρ x (by simp [ho, Op.operands, Call.operands, hc, ha])
  unfold vsliceData at h
  split at h
  · rename_i m cp hx
    cases h
    rw [hx] at h1
    have e : ρ' x = .slice none m cp := by cases hv : ρ' x <;> rw [hv] at h1 <;> cases h1; rfl
    exact ⟨.value (.pointer none), by simp [execOp, ho, resolve, hc, ha, invoke, builtin, e, Lib.run_unsafeSliceData_nil], .nilptr⟩
  · rename_i a m cp hx
    simp only [Bool.cond_eq_ite] at h
    split at h
    · cases h
    rename_i hz
    cases h
    rw [hx] at h1
    obtain ⟨l, hl, _, e⟩ := h1.inv_slice
    have hz' : cp + l.extra ≠ 0 := fun q => hz (by have : cp = 0 := by omega
                                                   rw [this]; rfl)
    exact ⟨.value (.pointer (some (amap l a))), by simp [execOp, ho, resolve, hc, ha, invoke, builtin, e, Lib.run_unsafeSliceData_row (W) _ _ (amap l a) m _ hz'], .ptr a l hl⟩
  · cases h

def lockFam (id fam : Nat) : List (Nat × VB) → List (Nat × VB)
  | [] => []
  | (i, b) :: l => bif Nat.beq b.fam fam then (i, { b with rw := false, tail := b.tail && Nat.beq i id }) :: lockFam id fam l else (i, b) :: lockFam id fam l
omit [Base] in
theorem lockFam_mem {id fam : Nat} : ∀ {l : List (Nat × VB)} {i : Nat} {b : VB}, (i, b) ∈ lockFam id fam l → ∃ b', (i, b') ∈ l ∧ ((b'.fam = fam ∧ b = { b' with rw := false, tail := b'.tail && Nat.beq i id }) ∨ (b'.fam ≠ fam ∧ b = b'))
  | (j, c) :: l, i, b, h => by
    simp only [lockFam, Bool.cond_eq_ite] at h
    split at h
    · rename_i hb
      have hb := Nat.eq_of_beq_eq_true hb
      rcases List.mem_cons.1 h with e | h
      · cases e; exact ⟨c, by simp, .inl ⟨hb, rfl⟩⟩
      · obtain ⟨b', h1, h2⟩ := lockFam_mem h
        exact ⟨b', List.mem_cons_of_mem _ h1, h2⟩
    · rename_i hb
      rcases List.mem_cons.1 h with e | h
      · cases e; exact ⟨c, by simp, .inr ⟨fun e => hb (by rw [e]; exact Nat.beq_refl _), rfl⟩⟩
      · obtain ⟨b', h1, h2⟩ := lockFam_mem h
        exact ⟨b', List.mem_cons_of_mem _ h1, h2⟩

omit [Base] in
theorem loadBytes_run : ∀ (xs : List Value) (a : Addr) (s r : ByteArray), (∀ (j : Nat) v, xs[j]? = some v → W.cell? (a.add j) = some v) → pushAll xs s = some r → (loadBytes a s xs.length).run P W = .ok r W
  | [], a, s, r, _, h => by simp [pushAll] at h; simp [loadBytes, h]
  | v :: l, a, s, r, hc, h => by
    obtain ⟨m, rfl⟩ : ∃ m, v = .int .u8 m := by
      cases v with
      | int k m => cases k <;> first | (simp [pushAll] at h; done) | exact ⟨m, rfl⟩
      | _ => simp [pushAll] at h
    simp only [pushAll] at h
    have h0 : W.cell? a = some (.int .u8 m) := by
      have := hc 0 _ rfl
      simpa [Addr.add] using this
    have ih := loadBytes_run l (a.add 1) (s.push (UInt8.ofNat m.toNat)) r (fun j y hy => by
      have := hc (j + 1) y (by simpa using hy)
      have e : (a.add 1).add j = a.add (j + 1) := by
        unfold Addr.add
        by_cases hj : j = 0
        · subst hj; simp
        · simp [hj]; omega
      rw [e]; exact this) h
    simp only [List.length_cons, loadBytes, Sem.run_bind, run_load, h0, Result.andThen]
    exact ih

omit [Base] in
theorem dropX_len : ∀ (n : Nat) (l : List Value), (dropX n l).length = l.length - n
  | 0, l => by simp [dropX]
  | n + 1, [] => by simp [dropX]
  | n + 1, _ :: l => by simp [dropX, dropX_len n l]
omit [Base] in
theorem vread_le {a : Addr} {B : VB} {n : Nat} {xs : List Value} (hf : find vs.heap a.block = some B) (h : vread vs a n = some xs) (hn : 0 < n) : a.off + n ≤ B.cells.length := by
  unfold vread at h
  rw [hf] at h
  simp only [Bool.cond_eq_ite] at h
  split at h
  · have h1 := (takeX_spec _ _ _ h).2
    rw [dropX_len] at h1
    omega
  · cases h
def vbyteText (T : TE) (vs : VS) (pt : TypeId) (a : Addr) (m : Int) : Option (Value × VS) :=
  match T.und pt, find vs.heap a.block with
  | some (.pointer e), some B => match T.inf e with
    | some i => bif (B.rw || B.tail) && a.spot.isNone && Nat.beq B.elem e && Nat.beq i.size 1 && decide (0 < m) && decide (m ≤ 2 ^ 40) then
        match vread vs a m.toNat with
        | some xs => match bytesOf xs with
          | some r => some (.string ⟨⟨r⟩⟩, { heap := lockFam a.block B.fam vs.heap, next := vs.next, ng := vs.ng, objs := vs.objs, dfr := vs.dfr })
          | none => none
        | none => none
      else none
    | none => none
  | _, _ => none

omit [Base] in
theorem freeze_at {W : World} {a : Addr} {c : Array Value} {e : TypeId} {z : Nat × Nat} (h : W.heap[a.block]? = some (.cells c e z)) (m : Nat) : ∃ z', (W.freeze a m).heap[a.block]? = some (.cells c e z') := by
  unfold World.freeze
  split
  · exact ⟨z, h⟩
  · exact ⟨_, by simp [Array.getElem?_modify, h]; rfl⟩
omit [Base] in
theorem freeze_top {W : World} {a : Addr} {c : Array Value} {e : TypeId} {z : Nat × Nat} (h : W.heap[a.block]? = some (.cells c e z)) (m : Nat) : ∃ z', (W.freeze a m).heap[a.block]? = some (.cells c e z') ∧ ∀ n, z.2 ≤ n → a.off + m ≤ n → z'.2 ≤ n := by
  obtain ⟨lo, hi⟩ := z
  unfold World.freeze
  split
  · exact ⟨_, h, fun n h1 _ => h1⟩
  · refine ⟨_, by simp [Array.getElem?_modify, h]; rfl, fun n h1 h2 => ?_⟩
    split
    · exact h2
    · simp only at h1 ⊢; omega
omit [Base] in
theorem freeze_other {W : World} {a : Addr} (m k : Nat) (hk : k ≠ a.block) : (W.freeze a m).heap[k]? = W.heap[k]? := by
  unfold World.freeze
  split
  · rfl
  · simp only [Array.getElem?_modify]
    rw [if_neg (Ne.symm hk)]
omit [Base] in
theorem freeze_size {W : World} {a : Addr} (m : Nat) : (W.freeze a m).heap.size = W.heap.size := by
  unfold World.freeze
  split
  · rfl
  · simp

omit [Base] in
theorem freeze_os {W : World} {a : Addr} (m : Nat) : (W.freeze a m).os = W.os := by unfold World.freeze; split <;> rfl
omit [Base] in
theorem freeze_tape {W : World} {a : Addr} (m : Nat) : (W.freeze a m).tape = W.tape := by unfold World.freeze; split <;> rfl
omit [Base] in
theorem freeze_out {W : World} {a : Addr} (m : Nat) : (W.freeze a m).output = W.output := by unfold World.freeze; split <;> rfl
theorem sound_byteText {c : Call} {x y : Operand} {pt it : TypeId} {a : Addr} {k : IntKind} {m : Int} {v : Value} (ho : o.op = .call c) (hc : c.callee = .builtin .unsafeString) (ha : c.args = #[x, y]) (ht : c.argTypes = #[pt, it]) (hx : ρ x = .pointer (some a)) (hy : ρ y = .int k m)
    (h : vbyteText T vs pt a m = some (v, vs1)) : SoundM P vs ρ o (.value v) vs1 := by
  intro N0 W0 W μ ρ' hG hρ
  have h1 := hρ x (by simp [ho, Op.operands, Call.operands, hc, ha])
  have h2 := hρ y (by simp [ho, Op.operands, Call.operands, hc, ha])
  rw [hx] at h1; rw [hy] at h2
  obtain ⟨l, hl, e1⟩ := h1.inv_ptr
  have e2 := h2.inv_int
  unfold vbyteText at h
  split at h
  case h_2 => cases h
  rename_i e B hu hf
  split at h
  case h_2 => cases h
  rename_i i hi
  simp only [Bool.cond_eq_ite] at h
  split at h
  case isFalse => cases h
  rename_i hb
  simp only [Bool.and_eq_true, Option.isNone_iff_eq_none, Nat.beq_eq, decide_eq_true_eq] at hb
  obtain ⟨⟨⟨⟨⟨hrw, hsp⟩, helem⟩, hsz⟩, hpos⟩, hmx⟩ := hb
  split at h
  case h_2 => cases h
  rename_i xs hr
  split at h
  case h_2 => cases h
  rename_i r hby
  cases h
  obtain ⟨l', cc, z, hm, L⟩ := hG.blocks _ _ (find_mem hf)
  rw [hl] at hm; cases hm
  obtain ⟨ys, r1, r2, r3, r4⟩ := hG.read hr hl
  have hpush : pushAll xs .empty = some ⟨⟨r⟩⟩ := by
    have := pushAll_of xs r .empty hby
    simpa using this
  have hys : ys = xs := by
    have := r4.plain (by simpa [plainA] using pushAll_plain _ _ _ hpush)
    simpa using this
  subst hys
  have hcells : P.cellsOf e = 1 := by simp [Program.cellsOf, TOk.inf (P := P) hi, hsz]
  have hsh : W.shape? (amap l a).block = some (B.elem, cc.size) := by
    show W.shape? l.blk = _
    simp [World.shape?, L.at_]
  have hspan : (amap l a).off + m.toNat ≤ cc.size := by
    have hlast := r3 (m.toNat - 1) ys[m.toNat - 1] (by simp)
    have hs : (amap l a).add (m.toNat - 1) = ⟨l.blk, l.off + a.off + (m.toNat - 1), none⟩ := by
      unfold Addr.add amap; split <;> simp_all [Nat.add_assoc]
    rw [hs] at hlast
    simp only [World.cell?, L.at_] at hlast
    have := (Array.getElem?_eq_some_iff.1 (by simpa using hlast)).1
    show l.off + a.off + m.toNat ≤ cc.size
    omega
  have hlies : liesAt P P.depth B.elem (cc.size / P.cellsOf B.elem) (amap l a).off e m.toNat = true := by
    rw [helem, hcells, Nat.div_one]
    exact liesAt_row hcells _ _ _ hspan
  have hload := loadBytes_run (P := P) ys (amap l a) .empty ⟨⟨r⟩⟩ r3 hpush
  rw [r1] at hload
  have hmax : IntKind.i64.max = 9223372036854775807 := rfl
  have hbig : ¬ (9223372036854775807 : Int) < m := by omega
  have hneg : ¬ m < 0 := by omega
  have hne : ¬ m = 0 := by omega
  have hrun : (Builtin.unsafeString_ #[pt, it] o.type #[.pointer (some (amap l a)), .int k m]).run P W = .ok (.string ⟨⟨r⟩⟩) (W.freeze (amap l a) m.toNat) := by
    have hdef : Builtin.unsafeString_ #[pt, it] o.type #[.pointer (some (amap l a)), .int k m] =
        (do
          let n ← asInt (.int k m)
          if n < 0 then runtimePanic (.error "unsafe.String: len out of range")
          if n > IntKind.i64.max then unsupported (.unsafePointer "String: a length above the largest int")
          if n = 0 then pure (.string .empty)
          else if ← variablesAt (amap l a) (← elemOf pt) n.toNat then do
            let s ← loadBytes (amap l a) .empty n.toNat
            freeze (amap l a) n.toNat
            pure (.string s)
          else unsupported (.unsafePointer "String: not so many bytes at ptr")) := rfl
    rw [hdef]
    simp [asInt, asIntOf, hmax, hbig, hneg, hne, variablesAt, hsh, elemOf, run_underlying (TOk.und (P := P) hu), hlies, hload]
  have hN : ¬ N0 l.blk := (Bool.or_eq_true_iff.1 hrw).elim (fun q => (L.own q).2) fun q => (L.tail q).2
  have hbound : a.off + m.toNat ≤ B.cells.length := vread_le hf hr (by omega)
  refine ⟨μ, W.freeze (amap l a) m.toNat, .value (.string ⟨⟨r⟩⟩), Mu.le_refl _, ?_, by simp [execOp, ho, resolve, hc, ha, ht, invoke, builtin, e1, e2, hrun], .string _⟩
  have hother : ∀ b, b ≠ l.blk → (W.freeze (amap l a) m.toNat).heap[b]? = W.heap[b]? := fun b hb => freeze_other _ _ hb
  refine ⟨hG.below.trans ⟨freeze_os _, freeze_tape _, freeze_out _, by rw [freeze_size]; exact Nat.le_refl _, fun k hk => freeze_other _ _ fun e => hN (by have e2 : k = l.blk := e; rw [← e2]; exact hk)⟩, by rw [freeze_size]; exact hG.start, hG.fresh, fun g q h0 => by rw [freeze_size]; exact hG.globs g q h0, hG.glo, ?_, ?_, hG.objs.keep fun b ob e hn => ?_, hG.base⟩
  · intro id B0 hm
    obtain ⟨B', hin, hcase⟩ := lockFam_mem hm
    obtain ⟨q, c', z', hq, L'⟩ := hG.blocks _ _ hin
    by_cases hbk : q.blk = l.blk
    · have hat := L'.at_
      rw [hbk] at hat
      obtain ⟨z2, hz2, htop⟩ := freeze_top (a := amap l a) hat m.toNat
      have hz2 : (W.freeze (amap l a) m.toNat).heap[q.blk]? = some (.cells c' B'.elem z2) := by rw [hbk]; exact hz2
      rcases hcase with ⟨_, rfl⟩ | ⟨hne2, rfl⟩
      · exact ⟨q, c', z2, hq, ⟨hz2, (fun x => by cases x), L'.len, L'.esz, L'.room, L'.fixed, L'.whole, (fun x => by
          simp only [Bool.and_eq_true, Nat.beq_eq] at x
          obtain ⟨x1, rfl⟩ := x
          rw [hl] at hq; cases hq
          refine ⟨htop _ (L'.tail x1).1 ?_, hN⟩
          show l.off + a.off + m.toNat ≤ l.off + l.len
          have := L.len
          omega), L'.cells⟩⟩
      · exact absurd hbk (hG.apart _ _ _ _ hin (find_mem hf) hne2 _ _ hq hl)
    · rcases hcase with ⟨_, rfl⟩ | ⟨_, rfl⟩
      · exact ⟨q, c', z', hq, ⟨by rw [hother _ hbk]; exact L'.at_, (fun x => by cases x), L'.len, L'.esz, L'.room, L'.fixed, L'.whole, (fun x => by
          simp only [Bool.and_eq_true] at x
          exact L'.tail x.1), L'.cells⟩⟩
      · exact ⟨q, c', z', hq, ⟨by rw [hother _ hbk]; exact L'.at_, L'.own, L'.len, L'.esz, L'.room, L'.fixed, L'.whole, L'.tail, L'.cells⟩⟩
  · intro id B1 id' B2 hm1 hm2 hfam
    obtain ⟨C1, i1, c1⟩ := lockFam_mem hm1
    obtain ⟨C2, i2, c2⟩ := lockFam_mem hm2
    have f1 : B1.fam = C1.fam := by rcases c1 with ⟨_, rfl⟩ | ⟨_, rfl⟩ <;> rfl
    have f2 : B2.fam = C2.fam := by rcases c2 with ⟨_, rfl⟩ | ⟨_, rfl⟩ <;> rfl
    exact hG.apart id C1 id' C2 i1 i2 (by rw [← f1, ← f2]; exact hfam)
  · by_cases hb : b = l.blk
    · rw [hb, L.at_] at e; cases e; cases hn
    · rw [hother _ hb]; exact e

/- No byte: the empty text. -/
def vnoText (x y : Value) : Option Value :=
  match x, y with
  | .pointer _, .int .i64 (.ofNat 0) => some (.string .empty)
  | _, _ => none
theorem sound_noText {c : Call} {x y : Operand} {pt it : TypeId} {v : Value} (ho : o.op = .call c) (hc : c.callee = .builtin .unsafeString) (ha : c.args = #[x, y]) (ht : c.argTypes = #[pt, it]) (h : vnoText (ρ x) (ρ y) = some v) : Sound P vs ρ o (.value v) := by
  intro N0 W0 W μ ρ' hG hρ
  have h1 := hρ x (by simp [ho, Op.operands, Call.operands, hc, ha])
  have h2 := hρ y (by simp [ho, Op.operands, Call.operands, hc, ha])
  unfold vnoText at h
  split at h
  case h_2 => cases h
  rename_i p hx hy
  cases h
  rw [hx] at h1; rw [hy] at h2
  have e2 := h2.inv_int
  obtain ⟨q, e1⟩ : ∃ q, ρ' x = .pointer q := by
    cases hv : ρ' x <;> rw [hv] at h1 <;> cases h1
    · exact ⟨_, rfl⟩
    · exact ⟨_, rfl⟩
  refine ⟨.value (.string .empty), ?_, .string _⟩
  have := Lib.run_unsafeString_none (P := P) W pt it o.type q
  have e2' : ρ' y = .int .i64 0 := e2
  simp [execOp, ho, resolve, hc, ha, ht, invoke, builtin, e1, e2', this]

end Go.Ev

/-
  The evaluator on code, and what it says of the machine.
-/
namespace Go.Ev
open Go.RowKit
variable [Base]

noncomputable def lget (t : List Value) : Nat → Value :=
  List.rec (motive := fun _ => Nat → Value) (fun _ => undef) (fun v _ ih n => Nat.rec (motive := fun _ => Value) v (fun m _ => ih m) n) t
noncomputable def lset (t : List Value) : Nat → Value → List Value :=
  List.rec (motive := fun _ => Nat → Value → List Value) (fun _ _ => []) (fun x l ih n v => Nat.rec (motive := fun _ => List Value) (v :: l) (fun m _ => x :: ih m v) n) t
noncomputable def vev (t : List Value) : Operand → Value
  | .tmp i => lget t i
  | .const v => v
  | .global g => .pointer (some ⟨g, 0, none⟩)
  | .func f => .func (.func f) #[] #[]
noncomputable def vput (t : List Value) (dst : Option Tmp) (v : Value) : List Value :=
  match dst with
  | some d => lset t d v
  | none => t

omit [Base] in
theorem lget_eq : ∀ (t : List Value) (i : Nat), lget t i = (t[i]?).getD undef
  | [], i => by simp [lget]
  | v :: l, 0 => rfl
  | v :: l, i + 1 => by
    have : lget (v :: l) (i + 1) = lget l i := rfl
    rw [this, lget_eq l i]; simp
omit [Base] in
theorem lset_eq : ∀ (t : List Value) (i : Nat) (v : Value), lset t i v = t.set i v
  | [], i, v => by simp [lset]
  | x :: l, 0, v => rfl
  | x :: l, i + 1, v => by
    have : lset (x :: l) (i + 1) v = x :: lset l i v := rfl
    rw [this, lset_eq l i v]; simp

def okOperand (ng : Nat) : Operand → Bool
  | .const v => plainB v
  | .global g => Nat.blt g ng
  | _ => true

variable {P : Program} {T : TE} [TOk P T] {N0 : Nat → Prop} {W0 W : World} {vs : VS} {μ : Mu}

omit [Base] in
theorem R_undef : R μ undef undef := plain_self μ undef rfl
theorem ev_rel {t : List Value} {a : Act} (hG : G N0 W0 vs W μ) (h : RA μ t.toArray a.tmps) {x : Operand} (hx : okOperand vs.ng x = true) : R μ (vev t x) (a.eval x) := by
  cases x with
  | tmp i =>
    simp only [vev, lget_eq, Act.eval, Array.getD_eq_getD_getElem?]
    cases hi : t[i]? with
    | none =>
      have : a.tmps[i]? = none := by
        have h1 : t.length ≤ i := by simpa using hi
        have h2 : t.length = a.tmps.size := by simpa using h.1
        simp; omega
      rw [this]; exact R_undef
    | some v =>
      obtain ⟨y, h1, h2⟩ := h.get (i := i) (x := v) (by simpa using hi)
      rw [h1]; exact h2
  | const v => exact plain_self μ v hx
  | global g =>
    obtain ⟨l, h1, h2, h3⟩ := hG.glo g (by simpa [okOperand] using hx)
    have := R.ptr (μ := μ) ⟨g, 0, none⟩ l h1
    simpa [amap, h2, h3, vev, Act.eval] using this
  | func f => exact plain_self μ _ rfl

omit [Base] in
theorem put_rel {t : List Value} {a : Act} (h : RA μ t.toArray a.tmps) {v v' : Value} (hv : R μ v v') (dst : Option Tmp) : RA μ (vput t dst v).toArray (a.put dst v').tmps := by
  cases dst with
  | none => exact h
  | some d =>
    simp only [vput, lset_eq, Act.put]
    refine ⟨by simpa using h.1, fun i x y hx hy => ?_⟩
    simp only [List.getElem?_toArray, List.getElem?_set] at hx
    rw [Array.getElem?_setIfInBounds] at hy
    have hs : t.length = a.tmps.size := by simpa using h.1
    split at hx
    · rename_i e
      rw [if_pos e] at hy
      split at hx
      · rename_i e2; rw [if_pos (by omega)] at hy; cases hx; cases hy; exact hv
      · cases hx
    · rename_i e
      rw [if_neg e] at hy
      exact h.2 i x y (by simpa using hx) hy
omit [Base] in
theorem put_defers (a : Act) (dst : Option Tmp) (v : Value) : (a.put dst v).defers = a.defers := by cases dst <;> rfl

/- Is an operation wanted? -/
def boolOf : Value → Option Bool
  | .bool b => some b
  | _ => none
def dstOf : List Oper → Nat → Option Tmp
  | [], _ => none
  | o :: _, 0 => o.dst
  | _ :: l, n + 1 => dstOf l n
omit [Base] in
theorem dstOf_eq : ∀ (l : List Oper) (j : Nat), dstOf l j = (l[j]?).bind (·.dst)
  | [], j => by simp [dstOf]
  | o :: l, 0 => by simp [dstOf]
  | o :: l, j + 1 => by simp [dstOf, dstOf_eq l j]
noncomputable def vwanted (ops : List Oper) (t : List Value) (o : Oper) : Bool :=
  match o.guard with
  | none => true
  | some (j, want) => match dstOf ops j with
    | some d => match lget t d with
      | .bool b => (b == want)
      | _ => false
    | none => false
omit [Base] in
theorem wanted_rel {ops : Array Oper} {t : List Value} {a : Act} (h : RA μ t.toArray a.tmps) (o : Oper) : Region.wanted o (yielded ops a.tmps) = vwanted ops.toList t o := by
  unfold Region.wanted vwanted
  cases o.guard with
  | none => rfl
  | some g =>
    obtain ⟨j, want⟩ := g
    simp only [yielded, dstOf_eq, Array.getElem?_toList]
    cases hd : (ops[j]?).bind (·.dst) with
    | none => simp
    | some d =>
      simp only [Option.bind_some, lget_eq]
      cases hi : t[d]? with
      | none =>
        have : a.tmps[d]? = none := by
          have h1 : t.length ≤ d := by simpa using hi
          have h2 : t.length = a.tmps.size := by simpa using h.1
          simp; omega
        rw [this]; rfl
      | some v =>
        obtain ⟨y, h1, h2⟩ := h.get (i := d) (x := v) (by simpa using hi)
        rw [h1]
        cases h2 <;> simp

/- How a call ends; the calls that were put off; how code is left. -/
inductive VE where
  | ret (v : Value)
  | pan (v : Value)
abbrev CallE := FuncId → Array Value → VS → Option (VE × VS)
abbrev OpE := VS → (Operand → Value) → Oper → Option (VN × VS)
abbrev QtE := VS → (Operand → Value) → Oper → Option VN

def panicked (v : Value) : List PanicEntry := [{ v := v, recovered := false }]
def REnd (μ : Mu) : VE → Ending → Prop
  | .ret v, e => ∃ v', R μ v v' ∧ e = .returned v'
  | .pan v, e => ∃ v', R μ v v' ∧ e = .panicked (panicked v')
def DR (μ : Mu) : List VD → List Deferred → Prop
  | [], [] => True
  | x :: l, d :: l' => (∃ cap', d.target = .fn (.func x.g) cap' ∧ RA μ x.cap.toArray cap' ∧ RA μ x.args.toArray d.args) ∧ DR μ l l'
  | _, _ => False
omit [Base] in
theorem DR.mono {μ ν : Mu} (hl : μ.le ν) : ∀ {l : List VD} {l' : List Deferred}, DR μ l l' → DR ν l l'
  | [], [], h => h
  | _ :: _, _ :: _, h => let ⟨⟨c, h1, h2, h3⟩, h4⟩ := h; ⟨⟨c, h1, h2.mono hl, h3.mono hl⟩, h4.mono hl⟩
  | [], _ :: _, h => h.elim
  | _ :: _, [], h => h.elim
omit [Base] in
theorem DR.nil_iff {μ : Mu} {l : List Deferred} (h : DR μ [] l) : l = [] := by
  cases l with
  | nil => rfl
  | cons _ _ => exact h.elim

def CallOK (P : Program) (call : CallE) : Prop :=
  ∀ f args vs e vs1, call f args vs = some (e, vs1) → ∀ (N0 : Nat → Prop) (W0 W : World) (μ : Mu) (args' : Array Value), RA μ args args' → G N0 W0 vs W μ →
    Calls P f args' W fun e' W' => ∃ μ1, μ.le μ1 ∧ G N0 W0 vs1 W' μ1 ∧ REnd μ1 e e'

inductive VX where
  | normal (t : List Value) (vs : VS)
  | exit (id : Nat) (t : List Value) (vs : VS)
  | ret (t : List Value) (vs : VS)
  | pan (v : Value) (t : List Value) (vs : VS)

def St (N0 : Nat → Prop) (W0 : World) (μ : Mu) (t : List Value) (vs : VS) (a : Act) (w : World) : Prop := ∃ μ1, μ.le μ1 ∧ RA μ1 t.toArray a.tmps ∧ G N0 W0 vs w μ1 ∧ DR μ1 vs.dfr a.defers
theorem St.mono {μ ν : Mu} (h : μ.le ν) {t : List Value} {vs : VS} {a : Act} {w : World} (s : St N0 W0 ν t vs a w) : St N0 W0 μ t vs a w :=
  let ⟨m, h2, h3⟩ := s; ⟨m, Mu.le_trans h h2, h3⟩
def Post (N0 : Nat → Prop) (W0 : World) (μ : Mu) : VX → Exit → Act → World → Prop
  | .normal t vs, e, a, w => e = .normal ∧ St N0 W0 μ t vs a w
  | .exit id t vs, e, a, w => e = .exit id ∧ St N0 W0 μ t vs a w
  | .ret t vs, e, a, w => e = .ret ∧ St N0 W0 μ t vs a w
  | .pan v t vs, e, a, w => ∃ μ1 v', μ.le μ1 ∧ e = .panic (panicked v') ∧ R μ1 v v' ∧ RA μ1 t.toArray a.tmps ∧ G N0 W0 vs w μ1 ∧ DR μ1 vs.dfr a.defers
theorem Post.mono {μ ν : Mu} (h : μ.le ν) : ∀ {x : VX} {e : Exit} {a : Act} {w : World}, Post N0 W0 ν x e a w → Post N0 W0 μ x e a w
  | .normal _ _, _, _, _, ⟨h1, h2⟩ => ⟨h1, h2.mono h⟩
  | .exit _ _ _, _, _, _, ⟨h1, h2⟩ => ⟨h1, h2.mono h⟩
  | .ret _ _, _, _, _, ⟨h1, h2⟩ => ⟨h1, h2.mono h⟩
  | .pan _ _ _, _, _, _, ⟨m, v', h1, h2⟩ => ⟨m, v', Mu.le_trans h h1, h2⟩

noncomputable def panicOf (t : List Value) (o : Oper) : Option Value :=
  match o.op with
  | .panic x => match vev t x with
    | .iface ty v => some (.iface ty v)
    | _ => none
  | _ => none
omit [Base] in
theorem panicOf_run {t : List Value} {o : Oper} {v : Value} (h : panicOf t o = some v) {a : Act} (hr : ∀ x ∈ o.op.operands, R μ (vev t x) (a.eval x)) :
    ∃ v', (execOp a.eval o).run P W = .halt (.panic v') W ∧ R μ v v' := by
  unfold panicOf at h
  split at h
  case h_2 => cases h
  rename_i x ho
  split at h
  case h_2 => cases h
  rename_i ty u hx
  cases h
  have h1 := hr x (by simp [ho, Op.operands])
  rw [hx] at h1
  obtain ⟨u', e, _⟩ := h1.inv_iface
  refine ⟨.iface ty u', ?_, e ▸ h1⟩
  simp [execOp, ho, e, Instr.panic, goPanic]

noncomputable def vops (op : OpE) (call : CallE) (ops : List Oper) : List Oper → List Value → VS → Option VX
  | [], t, vs => some (.normal t vs)
  | o :: rest, t, vs =>
    bif vwanted ops t o then
      match op vs (vev t) o with
      | some (.value v, vs1) => vops op call ops rest (vput t o.dst v) vs1
      | some (.skip, vs1) => vops op call ops rest (vput t o.dst undef) vs1
      | some (.enter f args, vs1) => match call f args vs1 with
        | some (.ret v, vs2) => vops op call ops rest (vput t o.dst v) vs2
        | some (.pan v, vs2) => some (.pan v t vs2)
        | none => none
      | some (.defer g cap args, vs1) => vops op call ops rest (vput t o.dst undef) { heap := vs1.heap, next := vs1.next, ng := vs1.ng, objs := vs1.objs, dfr := ⟨g, cap, args⟩ :: vs1.dfr }
      | none => match panicOf t o with
        | some v => some (.pan v t vs)
        | none => none
    else vops op call ops rest (vput t o.dst undef) vs

/- What operations and calls leave. -/
def Keeps (vs vs1 : VS) : Prop := vs1.ng = vs.ng ∧ vs1.dfr = vs.dfr

theorem G.put_off {vs : VS} (h : G N0 W0 vs W μ) (l : List VD) : G N0 W0 { heap := vs.heap, next := vs.next, ng := vs.ng, objs := vs.objs, dfr := l } W μ :=
  ⟨h.below, h.start, h.fresh, h.globs, h.glo, h.blocks, h.apart, h.objs, h.base⟩

theorem vops_sound {op : OpE} {call : CallE} (hop : ∀ vs ρ o n vs1, op vs ρ o = some (n, vs1) → SoundM P vs ρ o n vs1) (hcall : CallOK P call) (ops : Array Oper)
    (hng : ∀ vs ρ o n vs1, op vs ρ o = some (n, vs1) → Keeps vs vs1) (hngc : ∀ f args vs v vs1, call f args vs = some (v, vs1) → Keeps vs vs1) {ng : Nat} {Q : Exit → Act → World → Prop} :
    ∀ (l : List Oper) (k : Nat) (t : List Value) (vs : VS) (x : VX), (∀ j, l[j]? = ops[k + j]?) → (∀ o ∈ l, ∀ x ∈ o.op.operands, okOperand ng x = true) → vs.ng = ng → vops op call ops.toList l t vs = some x →
      ∀ (W : World) (μ : Mu) (a : Act), DR μ vs.dfr a.defers → RA μ t.toArray a.tmps → G N0 W0 vs W μ → (∀ e a' w, Post N0 W0 μ x e a' w → Q e a' w) → wpOps P ops Q (List.range' k l.length) a W
  | [], k, t, vs, x, _, _, _, h, W, μ, a, hd, ht, hG, hQ => by
    simp only [vops] at h
    cases h
    exact hQ .normal a W ⟨rfl, μ, Mu.le_refl _, ht, hG, hd⟩
  | o :: rest, k, t, vs, x, hl, hok, hng0, h, W, μ, a, hd, ht, hG, hQ => by
    have ho : ops[k]? = some o := by have := hl 0; simpa using this.symm
    have hl' : ∀ j, rest[j]? = ops[k + 1 + j]? := fun j => by
      have := hl (j + 1)
      rw [List.getElem?_cons_succ] at this
      rw [this]; congr 1; omega
    have hok' : ∀ o' ∈ rest, ∀ x ∈ o'.op.operands, okOperand ng x = true := fun o' h' => hok o' (List.mem_cons_of_mem _ h')
    simp only [List.length_cons, List.range'_succ, wpOps, ho]
    rw [wanted_rel ht]
    simp only [vops, Bool.cond_eq_ite] at h
    split at h
    · rename_i hw
      rw [if_pos hw]
      left
      have hrel : ∀ x ∈ o.op.operands, R μ (vev t x) (a.eval x) := fun x hx => ev_rel hG ht (by rw [hng0]; exact hok o (by simp) x hx)
      cases hx : op vs (vev t) o with
      | none =>
        rw [hx] at h
        simp only at h
        split at h
        case h_2 => cases h
        rename_i v hp
        cases h
        obtain ⟨v', hrun, hv⟩ := panicOf_run (P := P) (W := W) hp hrel
        unfold Oper.wp
        rw [hrun]
        exact hQ _ _ _ ⟨μ, v', Mu.le_refl _, rfl, hv, ht, hG, hd⟩
      | some r =>
        obtain ⟨n, vs2⟩ := r
        rw [hx] at h
        obtain ⟨μ1, W1, n', hle, hG1, hrun, hn⟩ := hop _ _ _ _ _ hx N0 W0 W μ a.eval hG hrel
        obtain ⟨hng1, hd1⟩ := hng _ _ _ _ _ hx
        rw [hng0] at hng1
        have hd' : DR μ1 vs2.dfr a.defers := by rw [hd1]; exact hd.mono hle
        unfold Oper.wp
        rw [hrun]
        cases n with
        | value v =>
          cases n' <;> simp only [RN] at hn
          rename_i v'
          simp only [Oper.upon]
          exact vops_sound hop hcall ops hng hngc rest (k + 1) _ _ _ hl' hok' hng1 h W1 μ1 _ (by rw [put_defers]; exact hd') (put_rel (ht.mono hle) hn o.dst) hG1 (fun e a' w s => hQ e a' w (s.mono hle))
        | skip =>
          cases n' <;> simp only [RN] at hn
          simp only [Oper.upon]
          exact vops_sound hop hcall ops hng hngc rest (k + 1) _ _ _ hl' hok' hng1 h W1 μ1 _ (by rw [put_defers]; exact hd') (put_rel (ht.mono hle) R_undef o.dst) hG1 (fun e a' w s => hQ e a' w (s.mono hle))
        | defer g cap args =>
          cases n' <;> simp only [RN] at hn
          rename_i d
          simp only [Oper.upon]
          refine vops_sound hop hcall ops hng hngc rest (k + 1) _ _ _ hl' hok' (by exact hng1) h W1 μ1 _ (by rw [put_defers]; exact ⟨hn, hd'⟩) (put_rel (a := { a with defers := d :: a.defers }) (ht.mono hle) R_undef o.dst) (hG1.put_off _) (fun e a' w s => hQ e a' w (s.mono hle))
        | enter f args =>
          cases n' <;> simp only [RN] at hn
          rename_i g args'
          obtain ⟨rfl, hargs⟩ := hn
          simp only at h
          cases hc : call f args vs2 with
          | none => rw [hc] at h; cases h
          | some r =>
            obtain ⟨v, vs3⟩ := r
            rw [hc] at h
            simp only [Oper.upon]
            refine (hcall _ _ _ _ _ hc N0 W0 W1 μ1 args' hargs hG1).mono ?_
            obtain ⟨hng2, hd2⟩ := hngc _ _ _ _ _ hc
            rintro e W' ⟨μ2, hle2, hG2, he⟩
            have hle3 := Mu.le_trans hle hle2
            have hd3 : DR μ2 vs3.dfr a.defers := by rw [hd2]; exact hd'.mono hle2
            cases v with
            | ret v =>
              obtain ⟨v', hv, rfl⟩ := he
              exact vops_sound hop hcall ops hng hngc rest (k + 1) _ _ _ hl' hok' (by rw [hng2, hng1]) h W' μ2 _ (by rw [put_defers]; exact hd3) (put_rel (ht.mono hle3) hv o.dst) hG2 (fun e a' w s => hQ e a' w (s.mono hle3))
            | pan v =>
              obtain ⟨v', hv, rfl⟩ := he
              cases h
              exact hQ _ _ _ ⟨μ2, v', hle3, rfl, hv, ht.mono hle3, hG2, hd3⟩
    · rename_i hw
      rw [if_neg hw]
      exact vops_sound hop hcall ops hng hngc rest (k + 1) _ _ _ hl' hok' hng0 h W μ _ (by rw [put_defers]; exact hd) (put_rel ht R_undef o.dst) hG hQ

end Go.Ev

/-
  A region that draws, with operations ahead that turn memory: which of them may have come up when another one does.
-/
namespace Go.Ev
open Go

variable {P : Program} {ops : Array Oper} {md : Region.Mode}

/- What is laid down of such a region: the operations that turn memory ('eff'); the sets of them that may have come up ('labels': first those of the order in which they stand, from none to all ('fin'); then perhaps one more); between which of the sets an operation leads ('tr');
   a row of constants that is made ahead of the append that takes it ('flt': its place, the append's); two stores that may come in either order ('cm'). -/
structure RS where
  n : Nat
  eff : List Nat
  labels : List (List Nat)
  tr : List (List (Nat × Nat))
  fin : Nat
  flt : Option (Nat × Nat)
  cm : Option (Nat × Nat)
def memN (x : Nat) : List Nat → Bool
  | [] => false
  | y :: l => bif Nat.beq y x then true else memN x l
def memP (p q : Nat) : List (Nat × Nat) → Bool
  | [] => false
  | (a, b) :: l => bif Nat.beq a p && Nat.beq b q then true else memP p q l
def labelOf (rs : RS) (p : Nat) : List Nat :=
  match rs.labels[p]? with
  | some l => l
  | none => []
def trOf (rs : RS) (i : Nat) : List (Nat × Nat) :=
  match rs.tr[i]? with
  | some l => l
  | none => []
def prOf (rs : RS) (i p q : Nat) : Prop := memP p q (trOf rs i) = true
def reach (md : Region.Mode) (ops : Array Oper) : Nat → Nat → Nat → Bool
  | 0, _, _ => false
  | f + 1, j, i => match ops[j]? with
    | some oj => oj.after.toList.any fun e => Region.binds md e && (Nat.beq e.on i || reach md ops f e.on i)
    | none => false
def shut (md : Region.Mode) (ops : Array Oper) (rs : RS) (i p : Nat) : Bool :=
  rs.eff.any (fun e => !(memN e (labelOf rs p)) && reach md ops rs.n i e) || rs.eff.any (fun e => memN e (labelOf rs p) && reach md ops rs.n e i) || (memN i rs.eff && memN i (labelOf rs p))
def leads (rs : RS) (i p q : Nat) : Bool := memP p q (trOf rs i) && Nat.blt q rs.labels.length && rs.eff.all fun e => (memN e (labelOf rs q)) == (memN e (labelOf rs p) || Nat.beq e i)
def phasesOk (md : Region.Mode) (ops : Array Oper) (rs : RS) : Bool :=
  Nat.blt 0 rs.labels.length && rs.eff.all (fun e => Nat.blt e rs.n && !(memN e (labelOf rs 0))) &&
  (List.range rs.labels.length).all (fun p => Nat.beq p rs.fin || rs.eff.any fun e => !(memN e (labelOf rs p))) &&
  (List.range rs.n).all fun i => (List.range rs.labels.length).all fun p => shut md ops rs i p || (List.range rs.labels.length).any fun q => leads rs i p q

theorem reach_listed {listed : Array Bool} (hcl : ∀ j oj, ops[j]? = some oj → listed.getD j false = true → ∀ e ∈ oj.after, Region.binds md e = true → listed.getD e.on false = true) :
    ∀ (f j i : Nat), reach md ops f j i = true → listed.getD j false = true → listed.getD i false = true
  | 0, j, i, h, _ => by simp [reach] at h
  | f + 1, j, i, h, hj => by
    simp only [reach] at h
    split at h
    · rename_i oj hoj
      obtain ⟨e, he, hb⟩ := List.any_eq_true.1 h
      simp only [Bool.and_eq_true, Bool.or_eq_true, Nat.beq_eq] at hb
      have h1 := hcl j oj hoj hj e (by simpa using he) hb.1
      rcases hb.2 with h2 | h2
      · rw [← h2]; exact h1
      · exact reach_listed hcl f e.on i h2 h1
    · cases h
theorem reach_ready {listed : Array Bool} (hcl : ∀ j oj, ops[j]? = some oj → listed.getD j false = true → ∀ e ∈ oj.after, Region.binds md e = true → listed.getD e.on false = true)
    {f j i : Nat} (h : reach md ops f j i = true) (hj : j ∈ Region.ready md ops listed) : listed.getD i false = true := by
  obtain ⟨_, oj, hoj, hall⟩ := mem_ready.1 hj
  cases f with
  | zero => simp [reach] at h
  | succ f =>
    simp only [reach, hoj] at h
    obtain ⟨e, he, hb⟩ := List.any_eq_true.1 h
    simp only [Bool.and_eq_true, Bool.or_eq_true, Nat.beq_eq] at hb
    have h1 := hall e (by simpa using he) hb.1
    rcases hb.2 with h2 | h2
    · rw [← h2]; exact h1
    · exact reach_listed hcl f e.on i h2 h1
theorem memN_iff {x : Nat} : ∀ {l : List Nat}, memN x l = true ↔ x ∈ l
  | [] => by simp [memN]
  | y :: l => by
    simp only [memN, Bool.cond_eq_ite, List.mem_cons]
    split
    · rename_i h; simp [Nat.eq_of_beq_eq_true h]
    · rename_i h
      have hne : ¬ x = y := fun e => h (by rw [e]; exact Nat.beq_refl _)
      rw [memN_iff]; simp [hne]

structure PhInv (md : Region.Mode) (ops : Array Oper) (rs : RS) (listed : Array Bool) (p : Nat) : Prop where
  head : HeadInv md ops rs.n listed
  le : p < rs.labels.length
  eff : ∀ e, e ∈ rs.eff → (listed.getD e false = true ↔ memN e (labelOf rs p) = true)

theorem phStep {rs : RS} (hok : ∀ i p, i < rs.n → p < rs.labels.length → shut md ops rs i p = true ∨ ∃ q, leads rs i p q = true)
    (listed : Array Bool) (p i : Nat) (inv : PhInv md ops rs listed p) (hr : i ∈ Region.ready md ops listed) (hin : i < rs.n) : ∃ q, prOf rs i p q ∧ PhInv md ops rs (listed.setIfInBounds i true) q := by
  have hun := getD_both (mem_ready.1 hr).1
  have hcl := inv.head.closed
  have hopen : shut md ops rs i p = false := by
    cases hs : shut md ops rs i p with
    | false => rfl
    | true =>
      exfalso
      simp only [shut, Bool.or_eq_true, Bool.and_eq_true, List.any_eq_true, Bool.not_eq_true'] at hs
      rcases hs with (⟨e, he, h1, h2⟩ | ⟨e, he, h1, h2⟩) | ⟨h1, h2⟩
      · have := (inv.eff e he).1 (reach_ready hcl h2 hr)
        rw [h1] at this; cases this
      · have := reach_listed hcl rs.n e i h2 ((inv.eff e he).2 h1)
        rw [hun] at this; cases this
      · have := (inv.eff i (memN_iff.1 h1)).2 h2
        rw [hun] at this; cases this
  obtain ⟨q, hq⟩ := (hok i p hin inv.le).resolve_left (by rw [hopen]; simp)
  simp only [leads, Bool.and_eq_true, Nat.blt_eq, List.all_eq_true, beq_iff_eq] at hq
  obtain ⟨⟨h1, h2⟩, h3⟩ := hq
  refine ⟨q, h1, inv.head.set hr hin, h2, fun e he => ?_⟩
  rw [h3 e he]
  by_cases hie : i = e
  · subst hie
    have hsz : i < listed.size := by
      rw [inv.head.size]
      obtain ⟨_, oj, hoj, _⟩ := mem_ready.1 hr
      exact (Array.getElem?_eq_some_iff.1 hoj).1
    simp [hsz]
  · rw [getD_set_ne false hie, inv.eff e he]
    have : Nat.beq e i = false := by
      cases hb : Nat.beq e i with
      | false => rfl
      | true => exact absurd (Nat.eq_of_beq_eq_true hb).symm hie
    simp [this]

theorem phasesOk_spec {rs : RS} (h : phasesOk md ops rs = true) : 0 < rs.labels.length ∧ (∀ e ∈ rs.eff, e < rs.n ∧ memN e (labelOf rs 0) = false) ∧ (∀ p, p < rs.labels.length → (∀ e ∈ rs.eff, memN e (labelOf rs p) = true) → p = rs.fin) ∧
    ∀ i p, i < rs.n → p < rs.labels.length → shut md ops rs i p = true ∨ ∃ q, leads rs i p q = true := by
  simp only [phasesOk, Bool.and_eq_true, List.all_eq_true, List.mem_range, Bool.or_eq_true, List.any_eq_true, Nat.blt_eq, Nat.beq_eq, Bool.not_eq_true'] at h
  obtain ⟨⟨⟨h1, h2⟩, h3⟩, h4⟩ := h
  refine ⟨h1, h2, fun p hp hall => ?_, fun i p hi hp => ?_⟩
  · rcases h3 p hp with h | ⟨e, he, hn⟩
    · exact h
    · rw [hall e he] at hn; cases hn
  · rcases h4 i hi p hp with h | ⟨q, _, hq⟩
    · exact .inl h
    · exact .inr ⟨q, hq⟩

end Go.Ev
