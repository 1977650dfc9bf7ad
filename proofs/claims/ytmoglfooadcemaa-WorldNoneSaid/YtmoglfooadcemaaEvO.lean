/-
  The evaluator, all operations together; a call's answer from nothing but the kernel's reckoning.
-/
import Derived.Test.YtmoglfooadcemaaEvM
import Derived.Test.YtmoglfooadcemaaEvN
import Derived.Test.YtmoglfooadcemaaEvT
import Derived.Test.YtmoglfooadcemaaEvU
import Derived.Test.YtmoglfooadcemaaEvX
import Derived.Test.YtmoglfooadcemaaEv3
import Derived.Test.YtmoglfooadcemaaEv4
namespace Go.Ev
open Go.RowKit

variable {P : Program} {T : TE} [TOk P T] {vs vs1 : VS} {ρ : Operand → Value} {o : Oper} {n : VN}

def same (vs : VS) (x : Option VN) : Option (VN × VS) :=
  match x with
  | some n => some (n, vs)
  | none => none
theorem same_some {x : Option VN} (h : same vs x = some (n, vs1)) : x = some n ∧ vs1 = vs := by
  unfold same at h
  split at h
  · cases h; exact ⟨rfl, rfl⟩
  · cases h

/- What leaves memory alone, maps with it. -/
def qLenM (P : Program) (T : TE) (vs : VS) (ρ : Operand → Value) (o : Oper) (c : Call) : Option VN :=
  match c.args.toList, c.argTypes.toList with
  | [x], [t] => match ρ x with
    | .map _ => vlift (vlenMap T vs t (ρ x))
    | _ => vquiet P T vs ρ o
  | _, _ => vquiet P T vs ρ o
def qIdent (P : Program) (T : TE) (vs : VS) (ρ : Operand → Value) (o : Oper) (c : Call) : Option VN :=
  match vident T ρ c with
  | some n => some n
  | none => vquiet P T vs ρ o
def qData (P : Program) (T : TE) (vs : VS) (ρ : Operand → Value) (o : Oper) (c : Call) : Option VN :=
  match c.args.toList with
  | [x] => vlift (vsliceData (ρ x))
  | _ => vquiet P T vs ρ o
def qText (P : Program) (T : TE) (vs : VS) (ρ : Operand → Value) (o : Oper) (c : Call) : Option VN :=
  match c.args.toList, c.argTypes.toList with
  | [x, y], [_, _] => vlift (vnoText (ρ x) (ρ y))
  | _, _ => vquiet P T vs ρ o
def qUnsafe (P : Program) (T : TE) (vs : VS) (ρ : Operand → Value) (o : Oper) (src dst : TypeId) (x : Operand) : Option VN :=
  match ρ x with
  | .pointer (some a) => vlift (vunsafe T vs src dst a)
  | _ => vquiet P T vs ρ o
def qPtr (P : Program) (T : TE) (vs : VS) (ρ : Operand → Value) (o : Oper) (op : BinOp) (t : TypeId) (x y : Operand) : Option VN :=
  match ρ x, ρ y with
  | .pointer (some a), .pointer (some b) => vlift (vptrEq T op t a b)
  | _, _ => vquiet P T vs ρ o
def qLookup (P : Program) (T : TE) (vs : VS) (ρ : Operand → Value) (t : TypeId) (x i : Operand) (ok : Bool) : Option VN :=
  match vlookup T vs t (ρ x) (ρ i) ok with
  | some v => some (.value v)
  | none => vlift (vlookupW P T vs t (ρ x) (ρ i) ok)
def vquietM (P : Program) (T : TE) (vs : VS) (ρ : Operand → Value) (o : Oper) : Option VN :=
  match o.op with
  | .lookup t x i ok => qLookup P T vs ρ t x i ok
  | .call c => match c.callee with
    | .builtin .len => qLenM P T vs ρ o c
    | .builtin .unsafeSliceData => qData P T vs ρ o c
    | .builtin .unsafeString => qText P T vs ρ o c
    | _ => qIdent P T vs ρ o c
  | .convert src dst x => qUnsafe P T vs ρ o src dst x
  | .binOp op t x y _ => qPtr P T vs ρ o op t x y
  | _ => vquiet P T vs ρ o
theorem vquietM_sound (hN : NamesOk P) (h : vquietM P T vs ρ o = some n) : Sound P vs ρ o n := by
  unfold vquietM at h
  split at h
  · rename_i t x i ok ho
    unfold qLookup at h
    split at h
    · rename_i v h1; cases h; exact sound_lookup ho h1
    · obtain ⟨v, h1, rfl⟩ := vlift_some h
      exact sound_lookupW ho h1
  · rename_i c ho
    split at h
    · rename_i hc
      unfold qLenM at h
      split at h
      · rename_i x t ha ht
        split at h
        · obtain ⟨v, h1, rfl⟩ := vlift_some h
          exact sound_lenMap ho hc (Array.ext' ha) (Array.ext' ht) h1
        · exact vquiet_sound hN h
      · exact vquiet_sound hN h
    · rename_i hc
      unfold qData at h
      split at h
      · rename_i x ha
        obtain ⟨v, h1, rfl⟩ := vlift_some h
        exact sound_sliceData ho hc (Array.ext' ha) h1
      · exact vquiet_sound hN h
    · rename_i hc
      unfold qText at h
      split at h
      · rename_i x y t u ha ht
        obtain ⟨v, h1, rfl⟩ := vlift_some h
        exact sound_noText ho hc (Array.ext' ha) (Array.ext' ht) h1
      · exact vquiet_sound hN h
    · unfold qIdent at h
      split at h
      · rename_i m hi; cases h; exact sound_ident ho hi
      · exact vquiet_sound hN h
  · rename_i src dst x ho
    unfold qUnsafe at h
    split at h
    · rename_i a hx
      obtain ⟨v, h1, rfl⟩ := vlift_some h
      exact sound_unsafe ho hx h1
    · exact vquiet_sound hN h
  · rename_i op t x y u ho
    unfold qPtr at h
    split at h
    · rename_i a b hx hy
      obtain ⟨v, h1, rfl⟩ := vlift_some h
      exact sound_ptrEq ho hx hy h1
    · exact vquiet_sound hN h
  · exact vquiet_sound hN h

def oStore (T : TE) (vs : VS) (ρ : Operand → Value) (t : TypeId) (x y : Operand) : Option (VN × VS) :=
  match ρ x with
  | .pointer (some a) => match vstore T vs t a (ρ y) with
    | some vs1 => some (.skip, vs1)
    | none => none
  | _ => none
def oSlice (P : Program) (T : TE) (vs : VS) (ρ : Operand → Value) (o : Oper) (t : TypeId) (x : Operand) (lo hi : Option Operand) : Option (VN × VS) :=
  match ρ x with
  | .slice (some a) len cap => match vsliceAt T vs t a len cap (lo.map ρ) (hi.map ρ) with
    | some (l, h, sz) => bif Nat.beq l cap then vsliceEnd vs a else some (.value (.slice (some (a.add (l * sz))) (h - l) (cap - l)), vs)
    | none => none
  | .pointer (some a) => match vsliceArr T vs t a (lo.map ρ) (hi.map ρ) with
    | some v => some (.value v, vs)
    | none => none
  | _ => same vs (qSlice P T vs ρ o t x lo hi)
def oConv (P : Program) (T : TE) (vs : VS) (ρ : Operand → Value) (o : Oper) (src dst : TypeId) (x : Operand) : Option (VN × VS) :=
  match ρ x with
  | .string s => match T.und src, T.und dst with
    | some .string, some (.slice _) => vbytes T vs dst s
    | _, _ => same vs (qConv P T vs ρ o src dst x)
  | .pointer (some a) => same vs (vlift (vunsafe T vs src dst a))
  | _ => same vs (qConv P T vs ρ o src dst x)
def oCall (P : Program) (T : TE) (vs : VS) (ρ : Operand → Value) (o : Oper) (c : Call) : Option (VN × VS) :=
  match c.callee with
  | .builtin .append => match c.args.toList, c.argTypes.toList with
    | [x, y], [t, u] => vappend T vs t u (ρ x) (ρ y)
    | _, _ => none
  | .builtin .copy => match c.args.toList, c.argTypes.toList with
    | [x, y], [t, _] => vcopy T vs t (ρ x) (ρ y)
    | _, _ => none
  | .builtin .delete => match c.args.toList, c.argTypes.toList with
    | [x, y], [t, _] => match vdelete T vs t (ρ x) (ρ y) with
      | some vs1 => some (.value (.tuple #[]), vs1)
      | none => none
    | _, _ => none
  | .builtin .clear => match c.args.toList, c.argTypes.toList with
    | [x], [t] => match vclear T vs t (ρ x) with
      | some vs1 => some (.value (.tuple #[]), vs1)
      | none => none
    | _, _ => none
  | .builtin .unsafeString => match c.args.toList, c.argTypes.toList with
    | [x, y], [t, _] => match ρ x, ρ y with
      | .pointer (some a), .int _ (.ofNat (m + 1)) => match vbyteText T vs t a (.ofNat (m + 1)) with
        | some (v, vs1) => some (.value v, vs1)
        | none => none
      | _, _ => same vs (vquietM P T vs ρ o)
    | _, _ => none
  | _ => same vs (vquietM P T vs ρ o)

def oSlice3 (P : Program) (T : TE) (vs : VS) (ρ : Operand → Value) (o : Oper) (t : TypeId) (x : Operand) (lo hi : Option Operand) (y : Operand) : Option (VN × VS) :=
  match ρ x with
  | .slice (some a) _ cap => vslice3 T vs t a cap (lo.map ρ) (hi.map ρ) (ρ y)
  | _ => same vs (vquietM P T vs ρ o)
def oUpdate (P : Program) (T : TE) (vs : VS) (ρ : Operand → Value) (t : TypeId) (m k x : Operand) : Option (VN × VS) :=
  match vupdate T vs t (ρ m) (ρ k) (ρ x) with
  | some vs1 => some (.skip, vs1)
  | none => match vupdateW P T vs t (ρ m) (ρ k) (ρ x) with
    | some vs1 => some (.skip, vs1)
    | none => none
def oDefer (T : TE) (vs : VS) (ρ : Operand → Value) (c : Call) : Option (VN × VS) :=
  match c.callee with
  | .value f => match ρ f with
    | .func (.func g) first captured => bif T.body g then some (.defer g captured.toList (first.toList ++ c.args.toList.map ρ), vs) else none
    | _ => none
  | _ => none
omit [TOk P T] in
theorem sound_defer {c : Call} (ho : o.op = .defer c) (h : oDefer T vs ρ c = some (n, vs1)) : SoundM P vs ρ o n vs1 := by
  unfold oDefer at h
  split at h
  case h_2 => cases h
  rename_i f hc
  split at h
  case h_2 => cases h
  rename_i g first captured hf
  simp only [Bool.cond_eq_ite] at h
  split at h
  case isFalse => cases h
  cases h
  refine Sound.toM fun N0 W0 W μ ρ' hG hρ => ?_
  have h1 := hρ f (by simp [ho, Op.operands, Call.operands, hc])
  rw [hf] at h1
  obtain ⟨a', b', e, ra, rb⟩ := h1.inv_func
  have h2 : RA μ (c.args.map ρ) (c.args.map ρ') := RA.map fun x hx => hρ x (by simp [ho, Op.operands, Call.operands, hc, hx])
  have hra := ra.append h2
  refine ⟨.defer { target := .fn (.func g) b', args := a' ++ c.args.map ρ' }, ?_, b', rfl, by simpa using rb, ?_⟩
  · simp [execOp, ho, resolve, hc, e, Deferred.ofValue]
  · rw [show first ++ c.args.map ρ = (first.toList ++ c.args.toList.map ρ).toArray from Array.ext' (by simp)] at hra
    exact hra

def vop (P : Program) (T : TE) (vs : VS) (ρ : Operand → Value) (o : Oper) : Option (VN × VS) :=
  match o.op with
  | .alloc elem => valloc T vs elem
  | .box elem x => some (.value (newPtr vs), vs.add ⟨(ρ x).cells.toList, elem, eszOf T elem, vs.next, true, false, true, false⟩)
  | .store t x y => oStore T vs ρ t x y
  | .makeSlice t l c => vmake T vs t (ρ l) (ρ c)
  | .buildSlice t len parts => vbuildSlice T vs t len (parts.toList.map fun p => (p.1, ρ p.2))
  | .slice t x lo hi none => oSlice P T vs ρ o t x lo hi
  | .slice t x lo hi (some y) => oSlice3 P T vs ρ o t x lo hi y
  | .convert src dst x => oConv P T vs ρ o src dst x
  | .call c => oCall P T vs ρ o c
  | .defer c => oDefer T vs ρ c
  | .makeMap t r => vmakeMap T vs t (r.map ρ)
  | .mapUpdate t m k x => oUpdate P T vs ρ t m k x
  | .insert t m k x => oUpdate P T vs ρ t m k x
  | .range t x => vrange T vs t (ρ x)
  | .next x true => vnext vs (ρ x)
  | _ => same vs (vquietM P T vs ρ o)

theorem sound_same (hN : NamesOk P) (h : same vs (vquiet P T vs ρ o) = some (n, vs1)) : SoundM P vs ρ o n vs1 := by
  obtain ⟨h1, rfl⟩ := same_some h
  exact (vquiet_sound hN h1).toM

theorem sound_sameM (hN : NamesOk P) (h : same vs (vquietM P T vs ρ o) = some (n, vs1)) : SoundM P vs ρ o n vs1 := by
  obtain ⟨h1, rfl⟩ := same_some h
  exact (vquietM_sound hN h1).toM

omit [TOk P T] in
theorem quiet_slice {t : TypeId} {x : Operand} {lo hi : Option Operand} (ho : o.op = .slice t x lo hi none) : vquiet P T vs ρ o = qSlice P T vs ρ o t x lo hi := by unfold vquiet; rw [ho]
omit [TOk P T] in
theorem quiet_conv {src dst : TypeId} {x : Operand} (ho : o.op = .convert src dst x) : vquiet P T vs ρ o = qConv P T vs ρ o src dst x := by unfold vquiet; rw [ho]
omit [TOk P T] in
theorem quiet_call {c : Call} (ho : o.op = .call c) : vquiet P T vs ρ o = qCall P T ρ o c := by unfold vquiet; rw [ho]
theorem vop_sound (hN : NamesOk P) (h : vop P T vs ρ o = some (n, vs1)) : SoundM P vs ρ o n vs1 := by
  unfold vop at h
  split at h
  case h_1 elem ho => exact sound_alloc ho h
  case h_2 elem x ho => cases h; exact sound_box ho
  case h_3 t x y ho =>
    unfold oStore at h
    split at h
    · rename_i a hx
      split at h
      · rename_i vs2 hs; cases h; exact sound_store ho hx hs
      · cases h
    · cases h
  case h_4 t l c ho => exact sound_make ho h
  case h_5 t len parts ho => exact sound_buildSlice ho h
  case h_6 t x lo hi ho =>
    unfold oSlice at h
    split at h
    · rename_i a len cap hx
      split at h
      · rename_i l hh sz hv
        simp only [Bool.cond_eq_ite] at h
        split at h
        · rename_i hl
          have := Nat.eq_of_beq_eq_true hl
          subst this
          exact sound_sliceEnd ho hx hv h
        · rename_i hne
          cases h
          exact (sound_slice ho hx hv fun e => hne (by rw [e]; exact Nat.beq_refl _)).toM
      · cases h
    · rename_i a hx
      split at h
      · rename_i v hv; cases h; exact (sound_sliceArr ho hx hv).toM
      · cases h
    · rw [← quiet_slice ho] at h; exact sound_same hN h
  case h_7 t x lo hi y ho =>
    unfold oSlice3 at h
    split at h
    · rename_i a len cap hx; exact sound_slice3 ho hx h
    · exact sound_sameM hN h
  case h_8 src dst x ho =>
    unfold oConv at h
    split at h
    · rename_i s hx
      split at h
      · rename_i hu _; exact sound_bytes ho hx hu h
      · rw [← quiet_conv ho] at h; exact sound_same hN h
    · rename_i a hx
      obtain ⟨h1, rfl⟩ := same_some h
      obtain ⟨v, h2, rfl⟩ := vlift_some h1
      exact (sound_unsafe ho hx h2).toM
    · rw [← quiet_conv ho] at h; exact sound_same hN h
  case h_9 c ho =>
    unfold oCall at h
    split at h
    · rename_i hc
      split at h
      · rename_i x y t u ha ht; exact sound_append ho hc (Array.ext' ha) (Array.ext' ht) h
      · cases h
    · rename_i hc
      split at h
      · rename_i x y t u ha ht; exact sound_copy ho hc (Array.ext' ha) (Array.ext' ht) h
      · cases h
    · rename_i hc
      split at h
      · rename_i x y t u ha ht
        split at h
        · rename_i vs2 hd; cases h; exact sound_delete ho hc (Array.ext' ha) (Array.ext' ht) hd
        · cases h
      · cases h
    · rename_i hc
      split at h
      · rename_i x t ha ht
        split at h
        · rename_i vs2 hd; cases h; exact sound_clear ho hc (Array.ext' ha) (Array.ext' ht) hd
        · cases h
      · cases h
    · rename_i hc
      split at h
      · rename_i x y t u ha ht
        split at h
        · rename_i a k m hx hy
          split at h
          · rename_i v vs2 hb
            cases h
            exact sound_byteText ho hc (Array.ext' ha) (Array.ext' ht) hx hy hb
          · cases h
        · exact sound_sameM hN h
      · cases h
    · exact sound_sameM hN h
  case h_10 c ho => exact sound_defer ho h
  case h_11 t r ho => exact sound_makeMap ho h
  case h_12 t m k x ho =>
    unfold oUpdate at h
    split at h
    · rename_i vs2 hu; cases h; exact sound_update (.inl ho) hu
    · split at h
      · rename_i vs2 hu; cases h; exact sound_updateW (.inl ho) hu
      · cases h
  case h_13 t m k x ho =>
    unfold oUpdate at h
    split at h
    · rename_i vs2 hu; cases h; exact sound_update (.inr ho) hu
    · split at h
      · rename_i vs2 hu; cases h; exact sound_updateW (.inr ho) hu
      · cases h
  case h_14 t x ho => exact sound_range ho h
  case h_15 x ho => exact sound_next ho h
  case h_16 => exact sound_sameM hN h

end Go.Ev
