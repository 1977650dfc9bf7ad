/-
  The evaluator's bytes as a text without a copy (what strings.Builder hands back).
-/
import Derived.Test.YtmoglfooadcemaaEvT
import Derived.Test.YtmoglfooadcemaaEvU
import Derived.Lib.UnsafeStr
namespace Go.Ev
open Go.RowKit

variable {P : Program} {T : TE} [TOk P T] {vs vs1 : VS} {ρ : Operand → Value} {o : Oper} {n : VN} {N0 : Nat → Prop} {W0 W : World} {μ : Mu}

theorem liesAt_row {e : TypeId} (hc : P.cellsOf e = 1) (count off n : Nat) (hn : off + n ≤ count) : liesAt P P.depth e count off e n = true := by
  have hd : P.depth = (2 * (P.types.size + Made.depth) + 1) + 1 := rfl
  rw [hd]
  simp only [liesAt, Bool.or_eq_true]
  left
  rw [hd]
  simp [rowAt, hc, hn, sameLayout]
  omega

def vsliceData (x : Value) : Option Value :=
  match x with
  | .slice none _ _ => some (.pointer none)
  | .slice (some a) _ c => bif Nat.beq c 0 then none else some (.pointer (some a))
  | _ => none
theorem sound_sliceData {c : Call} {x : Operand} {v : Value} (ho : o.op = .call c) (hc : c.callee = .builtin .unsafeSliceData) (ha : c.args = #[x]) (h : vsliceData (ρ x) = some v) : Sound P vs ρ o (.value v) := by
  intro N0 W0 W μ ρ' hG hρ
  have h1 := hρ x (by simp [ho, Op.operands, Call.operands, hc, ha])
  unfold vsliceData at h
  split at h
  · rename_i m cp hx
    cases h
    rw [hx] at h1
    have e : ρ' x = .slice none m cp := by cases hv : ρ' x <;> rw [hv] at h1 <;> cases h1; rfl
    exact ⟨.value (.pointer none), by simp [execOp, ho, resolve, hc, ha, invoke, builtin, e, Lib.run_unsafeSliceData_nil], .nilptr⟩
  · rename_i a m cp hx
    simp only [Bool.cond_eq_ite] at h
    split at h
    · cases h
    rename_i hz
    cases h
    rw [hx] at h1
    obtain ⟨l, hl, _, e⟩ := h1.inv_slice
    have hz' : cp + l.extra ≠ 0 := fun q => hz (by have : cp = 0 := by omega
                                                   rw [this]; rfl)
    exact ⟨.value (.pointer (some (amap l a))), by simp [execOp, ho, resolve, hc, ha, invoke, builtin, e, Lib.run_unsafeSliceData_row (W) _ _ (amap l a) m _ hz'], .ptr a l hl⟩
  · cases h

def lockFam (id fam : Nat) : List (Nat × VB) → List (Nat × VB)
  | [] => []
  | (i, b) :: l => bif Nat.beq b.fam fam then (i, { b with rw := false, tail := b.tail && Nat.beq i id }) :: lockFam id fam l else (i, b) :: lockFam id fam l
theorem lockFam_mem {id fam : Nat} : ∀ {l : List (Nat × VB)} {i : Nat} {b : VB}, (i, b) ∈ lockFam id fam l → ∃ b', (i, b') ∈ l ∧ ((b'.fam = fam ∧ b = { b' with rw := false, tail := b'.tail && Nat.beq i id }) ∨ (b'.fam ≠ fam ∧ b = b'))
  | (j, c) :: l, i, b, h => by
    simp only [lockFam, Bool.cond_eq_ite] at h
    split at h
    · rename_i hb
      have hb := Nat.eq_of_beq_eq_true hb
      rcases List.mem_cons.1 h with e | h
      · cases e; exact ⟨c, by simp, .inl ⟨hb, rfl⟩⟩
      · obtain ⟨b', h1, h2⟩ := lockFam_mem h
        exact ⟨b', List.mem_cons_of_mem _ h1, h2⟩
    · rename_i hb
      rcases List.mem_cons.1 h with e | h
      · cases e; exact ⟨c, by simp, .inr ⟨fun e => hb (by rw [e]; exact Nat.beq_refl _), rfl⟩⟩
      · obtain ⟨b', h1, h2⟩ := lockFam_mem h
        exact ⟨b', List.mem_cons_of_mem _ h1, h2⟩

theorem loadBytes_run : ∀ (xs : List Value) (a : Addr) (s r : ByteArray), (∀ (j : Nat) v, xs[j]? = some v → W.cell? (a.add j) = some v) → pushAll xs s = some r → (loadBytes a s xs.length).run P W = .ok r W
  | [], a, s, r, _, h => by simp [pushAll] at h; simp [loadBytes, h]
  | v :: l, a, s, r, hc, h => by
    obtain ⟨m, rfl⟩ : ∃ m, v = .int .u8 m := by
      cases v with
      | int k m => cases k <;> first | (simp [pushAll] at h; done) | exact ⟨m, rfl⟩
      | _ => simp [pushAll] at h
    simp only [pushAll] at h
    have h0 : W.cell? a = some (.int .u8 m) := by
      have := hc 0 _ rfl
      simpa [Addr.add] using this
    have ih := loadBytes_run l (a.add 1) (s.push (UInt8.ofNat m.toNat)) r (fun j y hy => by
      have := hc (j + 1) y (by simpa using hy)
      have e : (a.add 1).add j = a.add (j + 1) := by
        unfold Addr.add
        by_cases hj : j = 0
        · subst hj; simp
        · simp [hj]; omega
      rw [e]; exact this) h
    simp only [List.length_cons, loadBytes, Sem.run_bind, run_load, h0, Result.andThen]
    exact ih

theorem dropX_len : ∀ (n : Nat) (l : List Value), (dropX n l).length = l.length - n
  | 0, l => by simp [dropX]
  | n + 1, [] => by simp [dropX]
  | n + 1, _ :: l => by simp [dropX, dropX_len n l]
theorem vread_le {a : Addr} {B : VB} {n : Nat} {xs : List Value} (hf : find vs.heap a.block = some B) (h : vread vs a n = some xs) (hn : 0 < n) : a.off + n ≤ B.cells.length := by
  unfold vread at h
  rw [hf] at h
  simp only [Bool.cond_eq_ite] at h
  split at h
  · have h1 := (takeX_spec _ _ _ h).2
    rw [dropX_len] at h1
    omega
  · cases h
def vbyteText (T : TE) (vs : VS) (pt : TypeId) (a : Addr) (m : Int) : Option (Value × VS) :=
  match T.und pt, find vs.heap a.block with
  | some (.pointer e), some B => match T.inf e with
    | some i => bif (B.rw || B.tail) && a.spot.isNone && Nat.beq B.elem e && Nat.beq i.size 1 && decide (0 < m) && decide (m ≤ 2 ^ 40) then
        match vread vs a m.toNat with
        | some xs => match bytesOf xs with
          | some r => some (.string ⟨⟨r⟩⟩, { heap := lockFam a.block B.fam vs.heap, next := vs.next, ng := vs.ng, objs := vs.objs, dfr := vs.dfr })
          | none => none
        | none => none
      else none
    | none => none
  | _, _ => none

theorem freeze_at {W : World} {a : Addr} {c : Array Value} {e : TypeId} {z : Nat × Nat} (h : W.heap[a.block]? = some (.cells c e z)) (m : Nat) : ∃ z', (W.freeze a m).heap[a.block]? = some (.cells c e z') := by
  unfold World.freeze
  split
  · exact ⟨z, h⟩
  · exact ⟨_, by simp [Array.getElem?_modify, h]; rfl⟩
theorem freeze_top {W : World} {a : Addr} {c : Array Value} {e : TypeId} {z : Nat × Nat} (h : W.heap[a.block]? = some (.cells c e z)) (m : Nat) : ∃ z', (W.freeze a m).heap[a.block]? = some (.cells c e z') ∧ ∀ n, z.2 ≤ n → a.off + m ≤ n → z'.2 ≤ n := by
  obtain ⟨lo, hi⟩ := z
  unfold World.freeze
  split
  · exact ⟨_, h, fun n h1 _ => h1⟩
  · refine ⟨_, by simp [Array.getElem?_modify, h]; rfl, fun n h1 h2 => ?_⟩
    split
    · exact h2
    · simp only at h1 ⊢; omega
theorem freeze_other {W : World} {a : Addr} (m k : Nat) (hk : k ≠ a.block) : (W.freeze a m).heap[k]? = W.heap[k]? := by
  unfold World.freeze
  split
  · rfl
  · simp only [Array.getElem?_modify]
    rw [if_neg (Ne.symm hk)]
theorem freeze_size {W : World} {a : Addr} (m : Nat) : (W.freeze a m).heap.size = W.heap.size := by
  unfold World.freeze
  split
  · rfl
  · simp

theorem freeze_os {W : World} {a : Addr} (m : Nat) : (W.freeze a m).os = W.os := by unfold World.freeze; split <;> rfl
theorem freeze_tape {W : World} {a : Addr} (m : Nat) : (W.freeze a m).tape = W.tape := by unfold World.freeze; split <;> rfl
theorem freeze_out {W : World} {a : Addr} (m : Nat) : (W.freeze a m).output = W.output := by unfold World.freeze; split <;> rfl
theorem sound_byteText {c : Call} {x y : Operand} {pt it : TypeId} {a : Addr} {k : IntKind} {m : Int} {v : Value} (ho : o.op = .call c) (hc : c.callee = .builtin .unsafeString) (ha : c.args = #[x, y]) (ht : c.argTypes = #[pt, it]) (hx : ρ x = .pointer (some a)) (hy : ρ y = .int k m)
    (h : vbyteText T vs pt a m = some (v, vs1)) : SoundM P vs ρ o (.value v) vs1 := by
  intro N0 W0 W μ ρ' hG hρ
  have h1 := hρ x (by simp [ho, Op.operands, Call.operands, hc, ha])
  have h2 := hρ y (by simp [ho, Op.operands, Call.operands, hc, ha])
  rw [hx] at h1; rw [hy] at h2
  obtain ⟨l, hl, e1⟩ := h1.inv_ptr
  have e2 := h2.inv_int
  unfold vbyteText at h
  split at h
  case h_2 => cases h
  rename_i e B hu hf
  split at h
  case h_2 => cases h
  rename_i i hi
  simp only [Bool.cond_eq_ite] at h
  split at h
  case isFalse => cases h
  rename_i hb
  simp only [Bool.and_eq_true, Option.isNone_iff_eq_none, Nat.beq_eq, decide_eq_true_eq] at hb
  obtain ⟨⟨⟨⟨⟨hrw, hsp⟩, helem⟩, hsz⟩, hpos⟩, hmx⟩ := hb
  split at h
  case h_2 => cases h
  rename_i xs hr
  split at h
  case h_2 => cases h
  rename_i r hby
  cases h
  obtain ⟨l', cc, z, hm, L⟩ := hG.blocks _ _ (find_mem hf)
  rw [hl] at hm; cases hm
  obtain ⟨ys, r1, r2, r3, r4⟩ := hG.read hr hl
  have hpush : pushAll xs .empty = some ⟨⟨r⟩⟩ := by
    have := pushAll_of xs r .empty hby
    simpa using this
  have hys : ys = xs := by
    have := r4.plain (by simpa [plainA] using pushAll_plain _ _ _ hpush)
    simpa using this
  subst hys
  have hcells : P.cellsOf e = 1 := by simp [Program.cellsOf, TOk.inf (P := P) hi, hsz]
  have hsh : W.shape? (amap l a).block = some (B.elem, cc.size) := by
    show W.shape? l.blk = _
    simp [World.shape?, L.at_]
  have hspan : (amap l a).off + m.toNat ≤ cc.size := by
    have hlast := r3 (m.toNat - 1) ys[m.toNat - 1] (by simp)
    have hs : (amap l a).add (m.toNat - 1) = ⟨l.blk, l.off + a.off + (m.toNat - 1), none⟩ := by
      unfold Addr.add amap; split <;> simp_all [Nat.add_assoc]
    rw [hs] at hlast
    simp only [World.cell?, L.at_] at hlast
    have := (Array.getElem?_eq_some_iff.1 (by simpa using hlast)).1
    show l.off + a.off + m.toNat ≤ cc.size
    omega
  have hlies : liesAt P P.depth B.elem (cc.size / P.cellsOf B.elem) (amap l a).off e m.toNat = true := by
    rw [helem, hcells, Nat.div_one]
    exact liesAt_row hcells _ _ _ hspan
  have hload := loadBytes_run (P := P) ys (amap l a) .empty ⟨⟨r⟩⟩ r3 hpush
  rw [r1] at hload
  have hmax : IntKind.i64.max = 9223372036854775807 := rfl
  have hbig : ¬ (9223372036854775807 : Int) < m := by omega
  have hneg : ¬ m < 0 := by omega
  have hne : ¬ m = 0 := by omega
  have hrun : (Builtin.unsafeString_ #[pt, it] o.type #[.pointer (some (amap l a)), .int k m]).run P W = .ok (.string ⟨⟨r⟩⟩) (W.freeze (amap l a) m.toNat) := by
    have hdef : Builtin.unsafeString_ #[pt, it] o.type #[.pointer (some (amap l a)), .int k m] =
        (do
          let n ← asInt (.int k m)
          if n < 0 then runtimePanic (.error "unsafe.String: len out of range")
          if n > IntKind.i64.max then unsupported (.unsafePointer "String: a length above the largest int")
          if n = 0 then pure (.string .empty)
          else if ← variablesAt (amap l a) (← elemOf pt) n.toNat then do
            let s ← loadBytes (amap l a) .empty n.toNat
            freeze (amap l a) n.toNat
            pure (.string s)
          else unsupported (.unsafePointer "String: not so many bytes at ptr")) := rfl
    rw [hdef]
    simp [asInt, asIntOf, hmax, hbig, hneg, hne, variablesAt, hsh, elemOf, run_underlying (TOk.und (P := P) hu), hlies, hload]
  have hN : ¬ N0 l.blk := (Bool.or_eq_true_iff.1 hrw).elim (fun q => (L.own q).2) fun q => (L.tail q).2
  have hbound : a.off + m.toNat ≤ B.cells.length := vread_le hf hr (by omega)
  refine ⟨μ, W.freeze (amap l a) m.toNat, .value (.string ⟨⟨r⟩⟩), Mu.le_refl _, ?_, by simp [execOp, ho, resolve, hc, ha, ht, invoke, builtin, e1, e2, hrun], .string _⟩
  have hother : ∀ b, b ≠ l.blk → (W.freeze (amap l a) m.toNat).heap[b]? = W.heap[b]? := fun b hb => freeze_other _ _ hb
  refine ⟨hG.below.trans ⟨freeze_os _, freeze_tape _, freeze_out _, by rw [freeze_size]; exact Nat.le_refl _, fun k hk => freeze_other _ _ fun e => hN (by have e2 : k = l.blk := e; rw [← e2]; exact hk)⟩, by rw [freeze_size]; exact hG.start, hG.fresh, fun g q h0 => by rw [freeze_size]; exact hG.globs g q h0, hG.glo, ?_, ?_, hG.objs.keep fun b ob e hn => ?_⟩
  · intro id B0 hm
    obtain ⟨B', hin, hcase⟩ := lockFam_mem hm
    obtain ⟨q, c', z', hq, L'⟩ := hG.blocks _ _ hin
    by_cases hbk : q.blk = l.blk
    · have hat := L'.at_
      rw [hbk] at hat
      obtain ⟨z2, hz2, htop⟩ := freeze_top (a := amap l a) hat m.toNat
      have hz2 : (W.freeze (amap l a) m.toNat).heap[q.blk]? = some (.cells c' B'.elem z2) := by rw [hbk]; exact hz2
      rcases hcase with ⟨_, rfl⟩ | ⟨hne2, rfl⟩
      · exact ⟨q, c', z2, hq, ⟨hz2, (fun x => by cases x), L'.len, L'.esz, L'.room, L'.fixed, L'.whole, (fun x => by
          simp only [Bool.and_eq_true, Nat.beq_eq] at x
          obtain ⟨x1, rfl⟩ := x
          rw [hl] at hq; cases hq
          refine ⟨htop _ (L'.tail x1).1 ?_, hN⟩
          show l.off + a.off + m.toNat ≤ l.off + l.len
          have := L.len
          omega), L'.cells⟩⟩
      · exact absurd hbk (hG.apart _ _ _ _ hin (find_mem hf) hne2 _ _ hq hl)
    · rcases hcase with ⟨_, rfl⟩ | ⟨_, rfl⟩
      · exact ⟨q, c', z', hq, ⟨by rw [hother _ hbk]; exact L'.at_, (fun x => by cases x), L'.len, L'.esz, L'.room, L'.fixed, L'.whole, (fun x => by
          simp only [Bool.and_eq_true] at x
          exact L'.tail x.1), L'.cells⟩⟩
      · exact ⟨q, c', z', hq, ⟨by rw [hother _ hbk]; exact L'.at_, L'.own, L'.len, L'.esz, L'.room, L'.fixed, L'.whole, L'.tail, L'.cells⟩⟩
  · intro id B1 id' B2 hm1 hm2 hfam
    obtain ⟨C1, i1, c1⟩ := lockFam_mem hm1
    obtain ⟨C2, i2, c2⟩ := lockFam_mem hm2
    have f1 : B1.fam = C1.fam := by rcases c1 with ⟨_, rfl⟩ | ⟨_, rfl⟩ <;> rfl
    have f2 : B2.fam = C2.fam := by rcases c2 with ⟨_, rfl⟩ | ⟨_, rfl⟩ <;> rfl
    exact hG.apart id C1 id' C2 i1 i2 (by rw [← f1, ← f2]; exact hfam)
  · by_cases hb : b = l.blk
    · rw [hb, L.at_] at e; cases e; cases hn
    · rw [hother _ hb]; exact e

/- No byte: the empty text. -/
def vnoText (x y : Value) : Option Value :=
  match x, y with
  | .pointer _, .int .i64 (.ofNat 0) => some (.string .empty)
  | _, _ => none
theorem sound_noText {c : Call} {x y : Operand} {pt it : TypeId} {v : Value} (ho : o.op = .call c) (hc : c.callee = .builtin .unsafeString) (ha : c.args = #[x, y]) (ht : c.argTypes = #[pt, it]) (h : vnoText (ρ x) (ρ y) = some v) : Sound P vs ρ o (.value v) := by
  intro N0 W0 W μ ρ' hG hρ
  have h1 := hρ x (by simp [ho, Op.operands, Call.operands, hc, ha])
  have h2 := hρ y (by simp [ho, Op.operands, Call.operands, hc, ha])
  unfold vnoText at h
  split at h
  case h_2 => cases h
  rename_i p hx hy
  cases h
  rw [hx] at h1; rw [hy] at h2
  have e2 := h2.inv_int
  obtain ⟨q, e1⟩ : ∃ q, ρ' x = .pointer q := by
    cases hv : ρ' x <;> rw [hv] at h1 <;> cases h1
    · exact ⟨_, rfl⟩
    · exact ⟨_, rfl⟩
  refine ⟨.value (.string .empty), ?_, .string _⟩
  have := Lib.run_unsafeString_none (P := P) W pt it o.type q
  have e2' : ρ' y = .int .i64 0 := e2
  simp [execOp, ho, resolve, hc, ha, ht, invoke, builtin, e1, e2', this]

end Go.Ev
