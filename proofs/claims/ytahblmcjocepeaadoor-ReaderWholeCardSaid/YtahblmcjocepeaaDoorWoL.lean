/-
  Package world: reading from a stream (Read).
-/
import Derived.Test.YtahblmcjocepeaaDoorWoK
namespace Go.Proofs.YtahblmcjocepeaaDoor.Wo
open Go.RowKit Go.Maps

def srcText (st : St) : Src → Option ByteArray
  | .none => none
  | .stdin => some st.stdin
  | .own t => some t
/- The stream that is read: where it stands, and what it has left. -/
def Reads (st : St) (k : Int) (n : ByteArray) (o : Option (Nat × Strm × ByteArray)) : Prop :=
  match o with
  | none => placeL k n st.streams < 0 ∨ ∃ (i : Nat) (s : Strm), placeL k n st.streams = i ∧ st.streams[i]? = some s ∧ srcText st s.src = none
  | some (i, s, t) => placeL k n st.streams = (i : Nat) ∧ st.streams[i]? = some s ∧ srcText st s.src = some t
theorem reads_ex (st : St) (k : Int) (n : ByteArray) : ∃ o, Reads st k n o := by
  by_cases h : placeL k n st.streams < 0
  · exact ⟨none, .inl h⟩
  · obtain ⟨i, hi⟩ : ∃ i : Nat, placeL k n st.streams = i := ⟨(placeL k n st.streams).toNat, by omega⟩
    obtain ⟨s, hs, _⟩ := placeL_get k n st.streams i hi
    cases ht : srcText st s.src with
    | none => exact ⟨none, .inr ⟨i, s, hi, hs, ht⟩⟩
    | some t => exact ⟨some (i, s, t), hi, hs, ht⟩
def readE (st : St) (n : ByteArray) (m : Int) (o : Option (Nat × Strm × ByteArray)) : Int := if o = none then 16 else if m < 1 then 2 else if st.fails 2 n = true then 13 else 0
def cutN (m : Int) (t : ByteArray) : Nat := (min m (t.size : Int)).toNat
def tookS (st : St) (i : Nat) (s : Strm) (t : ByteArray) : St :=
  match s.src with
  | .stdin => { st with stdin := t }
  | _ => { st with streams := st.streams.set i { s with src := .own t } }
theorem str_eq_nil (w : World) : (binOp .eql 113 (.pointer none) (.pointer none)).run Tryd.prog w = .ok (.bool true) w := by
  have h : ∀ d : Nat, (Op.equalIn (d + 1) 113 (.pointer none) (.pointer none)).run Tryd.prog w = .ok true w := fun d => by
    simp [Op.equalIn, run_underlying Tryd.underlying113]
  simp only [binOp]
  simp [Op.equal, Op.maxDepth, h 9999]
theorem str_eq_ptr (a : Addr) (w : World) : (binOp .eql 113 (.pointer (some a)) (.pointer none)).run Tryd.prog w = .ok (.bool false) w := by
  have h : ∀ d : Nat, (Op.equalIn (d + 1) 113 (.pointer (some a)) (.pointer none)).run Tryd.prog w = .ok false w := fun d => by
    simp [Op.equalIn, run_underlying Tryd.underlying113]
  simp only [binOp]
  simp [Op.equal, Op.maxDepth, h 9999]

theorem src_none {w : World} {B : Nat} {T : Tags} {s : Strm} {p : Value} {st : St} (h : SrcAt w B T s p) (hx : srcText st s.src = none) : p = .pointer none := by
  unfold SrcAt at h
  cases hs : s.src with
  | none => rw [hs] at h; exact h
  | stdin => rw [hs] at hx; cases hx
  | own t => rw [hs] at hx; cases hx

section
variable {w : World} {B fm rm xm : Nat} {D : DataW Unit} {vs vt : Value} {ps : List Value} {T : Tags} {st : St} {n : ByteArray} {k m : Int}

theorem src_some (h : WdAt w B fm rm xm D vs vt ps T st) {i : Nat} {s : Strm} {p : Value} {t : ByteArray} (hi : st.streams[i]? = some s) (hp : ps[i]? = some p) (hx : srcText st s.src = some t) :
    ∃ a, p = .pointer (some a) ∧ w.cell? a = some (.string t) ∧ w.frozen? a = false ∧ ∀ t', WdAt (w.setCell a (.string t')) B fm rm xm D vs vt ps T (tookS st i s t') ∧ Turn (fun k => T k ≠ .no) w (w.setCell a (.string t')) := by
  have hsrc := h.streams.each i s p hi hp
  unfold SrcAt at hsrc
  cases hs : s.src with
  | none => rw [hs] at hx; cases hx
  | stdin =>
    rw [hs] at hsrc hx
    cases hx
    refine ⟨_, hsrc, h.cells.c2, h.cells.z 2, fun t' => ?_⟩
    have := h.stdin t'
    unfold tookS
    rw [hs]
    exact this
  | own t0 =>
    rw [hs] at hsrc hx
    cases hx
    obtain ⟨b, rfl, hb, tb⟩ := hsrc
    refine ⟨_, rfl, by simp [World.cell?, hb], by simp [World.frozen?, hb], fun t' => ?_⟩
    have := h.readOn t' hi hp hs
    unfold tookS
    rw [hs]
    exact this
def ReadPost (w w' : World) (B : Nat) (T : Tags) (st : St) (n : ByteArray) (m : Int) (o : Option (Nat × Strm × ByteArray)) (e : Ending) : Prop :=
  match o with
  | none => e = .returned (.tuple #[.string noText, .int .i64 16]) ∧ Goes w w' B T st
  | some (i, s, t) => if readE st n m o = 0 then e = .returned (.tuple #[.string (t.extract 0 (cutN m t)), .int .i64 0]) ∧ Goes w w' B T (tookS st i s (t.extract (cutN m t) t.size)) else e = .returned (.tuple #[.string noText, .int .i64 (readE st n m o)]) ∧ Goes w w' B T st

set_option maxHeartbeats 2000000 in
set_option maxRecDepth 100000 in
theorem read_ (h : WdAt w B fm rm xm D vs vt ps T st) (hn : Small n) (hs : st.streams.length ≤ 1000000) (hm : -9223372036854775808 ≤ m ∧ m ≤ 9223372036854775807) {o : Option (Nat × Strm × ByteArray)} (ho : Reads st k n o) (hsz : ∀ i s t, o = some (i, s, t) → t.size ≤ 1000000000) :
    Calls Tryd.prog 20 #[ptr B, .int .u8 k, .string n, .int .i64 m] w fun e w' => ReadPost w w' B T st n m o e := by
  have hC := Lib.hid h.cells
  obtain ⟨oa, c, rfl, _⟩ := slice_of h.streams.row
  have HP := Lib.hid h
  cases o with
  | none =>
    rcases ho with hl | ⟨i, s, hl, hi, hx⟩
    · obtain ⟨pl, hpl⟩ : ∃ pl, pl = placeL k n st.streams := ⟨_, rfl⟩
      rw [← hpl] at hl
      have HL := Lib.hid hpl.symm
      clear hpl h
      go_enter Tryd.func20, Tryd.ntmps20
      go_wp2_with (first
        | (go_at_call 40; refine (made hC.out).mono ?_; rintro e w' ⟨rfl, hw⟩; obtain rfl := hw.symm; clear hw)
        | (go_at_call 41; refine (place HP.out k n hs).mono ?_; rintro e w2 ⟨rfl, hb2⟩; rw [HL.out]; have h2 := HP.out.below hb2; have H2 := Lib.hid (⟨h2, hb2⟩ : _ ∧ _); clear hb2 h2))
      go_ret2
      exact (⟨rfl, HP.out.goes H2.out.2⟩ : _ ∧ _)
    · have hlt := (List.getElem?_eq_some_iff.1 hi).1
      have hnn : ¬ (i : Int) < 0 := by omega
      have hin : (i : Int) < (st.streams.length : Int) := by omega
      have HL := Lib.hid hl
      have HS := Lib.hid hi
      have HX := Lib.hid hx
      clear hl hi hx h
      go_enter Tryd.func20, Tryd.ntmps20
      go_wp2_with (first
        | rw [str_eq_nil]
        | (go_at_call 40; refine (made hC.out).mono ?_; rintro e w' ⟨rfl, hw⟩; obtain rfl := hw.symm; clear hw)
        | (go_at_call 41; refine (place HP.out k n hs).mono ?_; rintro e w2 ⟨rfl, hb2⟩; rw [HL.out]; have h2 := HP.out.below hb2; have c8 := h2.cells.c8; obtain ⟨g, p, ea, hp, hsrc, d0, d1, d2⟩ := h2.streams.at HS.out; obtain rfl := ea; obtain rfl := src_none hsrc HX.out; clear hp hsrc d0 d1; have H2 := Lib.hid (⟨h2, hb2⟩ : _ ∧ _); clear hb2 h2))
      go_ret2
      exact (⟨rfl, HP.out.goes H2.out.2⟩ : _ ∧ _)
  | some q =>
    obtain ⟨i, s, t⟩ := q
    obtain ⟨hl, hi, hx⟩ := ho
    have hsz2 := hsz i s t rfl
    have hlt := (List.getElem?_eq_some_iff.1 hi).1
    have hnn : ¬ (i : Int) < 0 := by omega
    have hin : (i : Int) < (st.streams.length : Int) := by omega
    have HL := Lib.hid hl
    have HS := Lib.hid hi
    have HX := Lib.hid hx
    clear hl hi hx h hsz
    by_cases hm1 : m < 1
    · have he : readE st n m (some (i, s, t)) = 2 := by unfold readE; rw [if_neg (by simp), if_pos hm1]
      have HE := Lib.hid he
      clear he
      go_enter Tryd.func20, Tryd.ntmps20
      go_wp2_with (first
        | rw [str_eq_ptr]
        | (go_at_call 40; refine (made hC.out).mono ?_; rintro e w' ⟨rfl, hw⟩; obtain rfl := hw.symm; clear hw)
        | (go_at_call 41; refine (place HP.out k n hs).mono ?_; rintro e w2 ⟨rfl, hb2⟩; rw [HL.out]; have h2 := HP.out.below hb2; have c8 := h2.cells.c8; obtain ⟨g, p, ea, hp, hsrc, d0, d1, d2⟩ := h2.streams.at HS.out; obtain rfl := ea; obtain ⟨a, rfl, ca, fa, ua⟩ := src_some h2 HS.out hp HX.out; have HQ := Lib.hid hp; clear hp hsrc d0 d1 ua; have H2 := Lib.hid (⟨h2, hb2⟩ : _ ∧ _); clear hb2 h2))
      go_ret2
      show ite _ _ _
      rw [HE.out, if_neg (by decide)]
      exact ⟨rfl, HP.out.goes H2.out.2⟩
    by_cases hf : st.fails 2 n = true
    · have he : readE st n m (some (i, s, t)) = 13 := by unfold readE; rw [if_neg (by simp), if_neg hm1, if_pos hf]
      have HE := Lib.hid he
      have HF := Lib.hid hf
      clear he hf
      go_enter Tryd.func20, Tryd.ntmps20
      go_wp2_with (first
        | rw [str_eq_ptr]
        | (go_at_call 40; refine (made hC.out).mono ?_; rintro e w' ⟨rfl, hw⟩; obtain rfl := hw.symm; clear hw)
        | (go_at_call 49; refine (failing H2.out.1 2 n (by decide) (by decide) hn).mono ?_; rintro e w3 ⟨rfl, hb3⟩; rw [HF.out]; have h3 := H2.out.1.below hb3; have hb3' := H2.out.2.trans (hb3.mono H2.out.2.size); have c8' := h3.cells.c8; obtain ⟨g', p', ea, hp', hsrc, d0, d1, d2'⟩ := h3.streams.at HS.out; cases ea; have hpe := HQ.out.symm.trans hp'; cases hpe; obtain ⟨a', ea, ca', fa', ua⟩ := src_some h3 HS.out hp' HX.out; cases ea; have H3 := Lib.hid (⟨h3, hb3', ua⟩ : _ ∧ _ ∧ _); clear h3 hb3 hb3' hsrc d0 d1 hp' ua)
        | (go_at_call 41; refine (place HP.out k n hs).mono ?_; rintro e w2 ⟨rfl, hb2⟩; rw [HL.out]; have h2 := HP.out.below hb2; have c8 := h2.cells.c8; obtain ⟨g, p, ea, hp, hsrc, d0, d1, d2⟩ := h2.streams.at HS.out; obtain rfl := ea; obtain ⟨a, rfl, ca, fa, ua⟩ := src_some h2 HS.out hp HX.out; have HQ := Lib.hid hp; clear hp hsrc d0 d1 ua; have H2 := Lib.hid (⟨h2, hb2⟩ : _ ∧ _); clear hb2 h2))
      go_ret2
      show ite _ _ _
      rw [HE.out, if_neg (by decide)]
      exact ⟨rfl, HP.out.goes H3.out.2.1⟩
    have he : readE st n m (some (i, s, t)) = 0 := by unfold readE; rw [if_neg (by simp), if_neg hm1, if_neg hf]
    have HE := Lib.hid he
    have HF := Lib.hid (show st.fails 2 n = false by simpa using hf)
    clear he hf
    go_enter Tryd.func20, Tryd.ntmps20
    go_wp2_with (first
      | rw [str_eq_ptr]
      | (go_at_call 40; refine (made hC.out).mono ?_; rintro e w' ⟨rfl, hw⟩; obtain rfl := hw.symm; clear hw)
      | (go_at_call 49; refine (failing H2.out.1 2 n (by decide) (by decide) hn).mono ?_; rintro e w3 ⟨rfl, hb3⟩; rw [HF.out]; have h3 := H2.out.1.below hb3; have hb3' := H2.out.2.trans (hb3.mono H2.out.2.size); have c8' := h3.cells.c8; obtain ⟨g', p', ea, hp', hsrc, d0, d1, d2'⟩ := h3.streams.at HS.out; cases ea; have hpe := HQ.out.symm.trans hp'; cases hpe; obtain ⟨a', ea, ca', fa', ua⟩ := src_some h3 HS.out hp' HX.out; cases ea; have H3 := Lib.hid (⟨h3, hb3', ua⟩ : _ ∧ _ ∧ _); clear h3 hb3 hb3' hsrc d0 d1 hp' ua)
      | (go_at_call 41; refine (place HP.out k n hs).mono ?_; rintro e w2 ⟨rfl, hb2⟩; rw [HL.out]; have h2 := HP.out.below hb2; have c8 := h2.cells.c8; obtain ⟨g, p, ea, hp, hsrc, d0, d1, d2⟩ := h2.streams.at HS.out; obtain rfl := ea; obtain ⟨a, rfl, ca, fa, ua⟩ := src_some h2 HS.out hp HX.out; have HQ := Lib.hid hp; clear hp hsrc d0 d1 ua; have H2 := Lib.hid (⟨h2, hb2⟩ : _ ∧ _); clear hb2 h2))
    go_ret2
    show ite _ _ _
    rw [HE.out, if_pos rfl]
    obtain ⟨q1, q2⟩ := H3.out.2.2 (t.extract (cutN m t) t.size)
    exact ⟨rfl, Goes.step H3.out.2.1 (fun _ _ => rfl) q2 q1⟩
end
end Go.Proofs.YtahblmcjocepeaaDoor.Wo
