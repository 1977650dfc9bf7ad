/-
  Both worlds beside each other: each call of one and of the other.
-/
import Derived.Test.YthbkcdbmimhhkaaPa
namespace Go.Proofs.Ythbkcdbmimhhkaa.Rw
open Go.RowKit Go.Maps Wo

set_option maxRecDepth 100000
section
variable {w0 w : World} {B : Nat} {S : Scpt} {st : St} {r : RSt} {s : Shp} {bx : List Nat}
theorem Fewer.gho (hf : Fewer S r) (n : Nat) (T : Tags) : Fewer (Rw.gho S n T) r := ⟨hf.reps, hf.fails, hf.files, hf.opn, hf.events⟩
theorem Duo.opened (h : Duo w0 w B S st r s bx) (k : Int) (n : ByteArray) (hf : Fewer S r) :
    Calls Try.prog 31 #[.agg (s.cells S r), .int .u8 k, .string n] w fun e w2 => ∃ s', e = .returned (.tuple #[.agg (s'.cells S (rOpenS S r k n)), .int .i64 (rOpenE S r k n)]) ∧ Duo w0 w2 B S st (rOpenS S r k n) s' bx ∧ Keep bx w w2 := by
  refine (h.ref (args := #[.agg (s.cells S r), .int .u8 k, .string n]) (R := fun _ e r' s' => r' = rOpenS S r k n ∧ e = .returned (.tuple #[.agg (s'.cells S (rOpenS S r k n)), .int .i64 (rOpenE S r k n)])) fun m T hr => (openedRef hr k n (hf.gho m T)).mono fun e w2 ⟨s', he, hs, hr2, hb⟩ => ⟨_, s', ⟨rfl, he⟩, hs, hr2, hb⟩).mono ?_
  rintro e w2 ⟨r', s', _, _, ⟨rfl, he⟩, hd, hk⟩
  exact ⟨s', he, hd, hk⟩
theorem Duo.written (h : Duo w0 w B S st r s bx) (k : Int) (n d : ByteArray) (hf : Fewer S r) (hsz : ∀ p ∈ r.files, p.2.size ≤ 1000000000) (hsd : d.size ≤ 1000000000) :
    Calls Try.prog 33 #[.agg (s.cells S r), .int .u8 k, .string n, .string d] w fun e w2 => ∃ s', e = .returned (.tuple #[.agg (s'.cells S (rWriteS S r k n d)), .int .i64 (rWriteE S r k n)]) ∧ Duo w0 w2 B S st (rWriteS S r k n d) s' bx ∧ Keep bx w w2 := by
  refine (h.ref (args := #[.agg (s.cells S r), .int .u8 k, .string n, .string d]) (R := fun _ e r' s' => r' = rWriteS S r k n d ∧ e = .returned (.tuple #[.agg (s'.cells S (rWriteS S r k n d)), .int .i64 (rWriteE S r k n)])) fun m T hr => (writeRef hr k n d (hf.gho m T) hsz hsd).mono fun e w2 ⟨s', he, hs, hr2, hb⟩ => ⟨_, s', ⟨rfl, he⟩, hs, hr2, hb⟩).mono ?_
  rintro e w2 ⟨r', s', _, _, ⟨rfl, he⟩, hd, hk⟩
  exact ⟨s', he, hd, hk⟩
theorem Duo.closed (h : Duo w0 w B S st r s bx) (n : ByteArray) (hf : Fewer S r) (hev : r.events.length ≤ 900000) :
    Calls Try.prog 34 #[.agg (s.cells S r), .string n] w fun e w2 => ∃ s', e = .returned (.tuple #[.agg (s'.cells S (rCloseS S r n)), .int .i64 (rCloseTo S r n 5).2.1, .bool (rCloseTo S r n 5).2.2]) ∧ Duo w0 w2 B S st (rCloseS S r n) s' bx ∧ Keep bx w w2 := by
  have eC : ∀ m T i, rCloseTo (Rw.gho S m T) r n i = rCloseTo S r n i := fun m T i => by
    induction i with
    | zero => rfl
    | succ i ih =>
      show rCloseStep (Rw.gho S m T) r n ((i : Int) + 1) (rCloseTo (Rw.gho S m T) r n i) = rCloseStep S r n ((i : Int) + 1) (rCloseTo S r n i)
      rw [ih]; rfl
  have eS : ∀ m T, rCloseS (Rw.gho S m T) r n = rCloseS S r n := fun m T => by unfold rCloseS; rw [eC]
  refine (h.ref (args := #[.agg (s.cells S r), .string n]) (R := fun _ e r' s' => r' = rCloseS S r n ∧ e = .returned (.tuple #[.agg (s'.cells S (rCloseS S r n)), .int .i64 (rCloseTo S r n 5).2.1, .bool (rCloseTo S r n 5).2.2])) fun m T hr => (closeRef hr n (hf.gho m T) hev).mono fun e w2 ⟨s', he, hs, hr2, hb⟩ => ⟨_, s', ⟨eS m T, ?_⟩, hs, hr2, hb⟩).mono ?_
  · rw [eS, eC] at he; exact he
  rintro e w2 ⟨r', s', _, _, ⟨rfl, he⟩, hd, hk⟩
  exact ⟨s', he, hd, hk⟩
theorem Duo.ran (h : Duo w0 w B S st r s bx) (n : ByteArray) (hf : Fewer S r) :
    Calls Try.prog 35 #[.agg (s.cells S r), .string n] w fun e w2 => ∃ s', e = .returned (.tuple #[.agg (s'.cells S (rSysS S r n)), .int .i64 (rSysM S n), .int .i64 (rSysE S n)]) ∧ Duo w0 w2 B S st (rSysS S r n) s' bx ∧ Keep bx w w2 := by
  refine (h.ref (args := #[.agg (s.cells S r), .string n]) (R := fun _ e r' s' => r' = rSysS S r n ∧ e = .returned (.tuple #[.agg (s'.cells S (rSysS S r n)), .int .i64 (rSysM S n), .int .i64 (rSysE S n)])) fun m T hr => (systemRef hr n (hf.gho m T)).mono fun e w2 ⟨s', he, hs, hr2, hb⟩ => ⟨_, s', ⟨rfl, he⟩, hs, hr2, hb⟩).mono ?_
  rintro e w2 ⟨r', s', _, _, ⟨rfl, he⟩, hd, hk⟩
  exact ⟨s', he, hd, hk⟩
theorem rCloseS_gho (m : Nat) (T : Tags) (r : RSt) (n : ByteArray) : rCloseS (Rw.gho S m T) r n = rCloseS S r n := by
  have eC : ∀ i, rCloseTo (Rw.gho S m T) r n i = rCloseTo S r n i := fun i => by
    induction i with
    | zero => rfl
    | succ i ih =>
      show rCloseStep (Rw.gho S m T) r n ((i : Int) + 1) (rCloseTo (Rw.gho S m T) r n i) = rCloseStep S r n ((i : Int) + 1) (rCloseTo S r n i)
      rw [ih]; rfl
  unfold rCloseS
  rw [eC]
theorem rAllTo_gho (m : Nat) (T : Tags) (r : RSt) : ∀ i, rAllTo (Rw.gho S m T) i r = rAllTo S i r
  | 0 => rfl
  | i + 1 => by
    show rAllStep (Rw.gho S m T) (rAllTo (Rw.gho S m T) i r) = rAllStep S (rAllTo S i r)
    rw [rAllTo_gho m T r i]
    unfold rAllStep
    split
    · rfl
    · exact rCloseS_gho _ _ _ _
theorem Duo.closedAll (h : Duo w0 w B S st r s bx) (hf : Fewer S r) (hev : r.events.length + 5 * r.opn.length ≤ 900000) :
    Calls Try.prog 36 #[.agg (s.cells S r)] w fun e w2 => ∃ s' j, j ≤ r.opn.length ∧ (rAllTo S j r).opn = [] ∧ e = .returned (.agg (s'.cells S (rAllTo S j r))) ∧ Duo w0 w2 B S st (rAllTo S j r) s' bx ∧ Keep bx w w2 := by
  refine (h.ref (args := #[.agg (s.cells S r)]) (R := fun _ e r' s' => ∃ j, j ≤ r.opn.length ∧ (rAllTo S j r).opn = [] ∧ r' = rAllTo S j r ∧ e = .returned (.agg (s'.cells S (rAllTo S j r)))) fun m T hr => (closeAllRef hr (hf.gho m T) hev).mono fun e w2 ⟨s', j, hj, hn, he, hs, hr2, hb⟩ => ⟨_, s', ⟨j, hj, ?_, rAllTo_gho m T r j, ?_⟩, hs, hr2, hb⟩).mono ?_
  · rw [rAllTo_gho] at hn; exact hn
  · rw [rAllTo_gho] at he; exact he
  rintro e w2 ⟨r', s', _, _, ⟨j, hj, hn, rfl, he⟩, hd, hk⟩
  exact ⟨s', j, hj, hn, he, hd, hk⟩
theorem Duo.chanced (h : Duo w0 w B S st r s bx) :
    Calls Try.prog 38 #[.agg (s.cells S r)] w fun e w2 => ∃ s', e = .returned (.tuple #[.agg (s'.cells S (chanceR r)), .int .u64 r.number]) ∧ Duo w0 w2 B S st (chanceR r) s' bx ∧ Keep bx w w2 := by
  refine (h.ref (args := #[.agg (s.cells S r)]) (R := fun _ e r' s' => r' = chanceR r ∧ e = .returned (.tuple #[.agg (s'.cells S (chanceR r)), .int .u64 r.number])) fun m T hr => (chanceRef hr).mono fun e w2 ⟨s', he, hs, hr2, hb⟩ => ⟨_, s', ⟨rfl, he⟩, hs, hr2, hb⟩).mono ?_
  rintro e w2 ⟨r', s', _, _, ⟨rfl, he⟩, hd, hk⟩
  exact ⟨s', he, hd, hk⟩
def ReadPostD (w0 w : World) (B : Nat) (S : Scpt) (st : St) (r : RSt) (bx : List Nat) (k : Int) (n : ByteArray) (m : Int) (e : Ending) (w2 : World) : Prop :=
  (rReadE S r k n m ≠ 0 ∧ ∃ s', e = .returned (.tuple #[.agg (s'.cells S r), .string noText, .int .i64 (rReadE S r k n m)]) ∧ Duo w0 w2 B S st r s' bx ∧ Keep bx w w2) ∨
  (rReadE S r k n m = 0 ∧ ∃ (i : Nat) (p : RStrm) (s' : Shp), rplace k n r.opn = i ∧ r.opn[i]? = some p ∧ e = .returned (.tuple #[.agg (s'.cells S (rRead S r k n m i p)), .string ((rLeft S r k n p).extract 0 (cutN m (rLeft S r k n p))), .int .i64 0]) ∧ Duo w0 w2 B S st (rRead S r k n m i p) s' bx ∧ Keep bx w w2)
theorem Duo.given (h : Duo w0 w B S st r s bx) (k : Int) (n : ByteArray) (m : Int) (hf : Fewer S r) (htk : r.taken ≤ S.stdin.size) (hsz : S.stdin.size ≤ 1000000000) (htp : ∀ p ∈ r.opn, p.taken ≤ p.source.size ∧ p.source.size ≤ 1000000000) :
    Calls Try.prog 32 #[.agg (s.cells S r), .int .u8 k, .string n, .int .i64 m] w (ReadPostD w0 w B S st r bx k n m) := by
  refine (h.ref (args := #[.agg (s.cells S r), .int .u8 k, .string n, .int .i64 m]) (R := fun _ e r' s' => (rReadE S r k n m ≠ 0 ∧ r' = r ∧ e = .returned (.tuple #[.agg (s'.cells S r), .string noText, .int .i64 (rReadE S r k n m)])) ∨ (rReadE S r k n m = 0 ∧ ∃ (i : Nat) (p : RStrm), rplace k n r.opn = i ∧ r.opn[i]? = some p ∧ r' = rRead S r k n m i p ∧ e = .returned (.tuple #[.agg (s'.cells S (rRead S r k n m i p)), .string ((rLeft S r k n p).extract 0 (cutN m (rLeft S r k n p))), .int .i64 0]))) fun a T hr => (readRef hr k n m (hf.gho a T) htk hsz htp).mono fun e w2 hp => ?_).mono ?_
  · rcases hp with ⟨h1, s', he, hs, hr2, hb⟩ | ⟨h1, i, p, s', h2, h3, he, hs, hr2, hb⟩
    · exact ⟨_, s', .inl ⟨h1, rfl, he⟩, hs, hr2, hb⟩
    · exact ⟨_, s', .inr ⟨h1, i, p, h2, h3, rfl, he⟩, hs, hr2, hb⟩
  rintro e w2 ⟨r', s', _, _, (⟨h1, rfl, he⟩ | ⟨h1, i, p, h2, h3, rfl, he⟩), hd, hk⟩
  · exact .inl ⟨h1, s', he, hd, hk⟩
  · exact .inr ⟨h1, i, p, s', h2, h3, he, hd, hk⟩
theorem Duo.ra (h : Duo w0 w B S st r s bx) : ∃ n T, RefAt w (Rw.gho S n T) r s := by
  obtain ⟨fm, rm, xm, D, vs, vt, ps, T, h1, h2, h3, h4, h5, h6⟩ := h
  exact ⟨_, T, h4⟩
theorem Duo.found (h : Duo w0 w B S st r s bx) (k : Int) (n : ByteArray) (hz : r.opn.length ≤ 1000000) :
    Calls Try.prog 15 #[.agg (s.cells S r), .int .u8 k, .string n] w fun e w' => e = .returned (.int .i64 (rplace k n r.opn)) ∧ Below w.heap.size w w' := by
  obtain ⟨m, T, hr⟩ := h.ra
  exact findRef hr k n hz
theorem Duo.fileR (h : Duo w0 w B S st r s bx) (n : ByteArray) (hz : r.files.length ≤ 1000000) :
    Calls Try.prog 17 #[.agg (s.cells S r), .string n] w fun e w' => e = .returned (fileA (lookF n r.files)) ∧ Below w.heap.size w w' := by
  obtain ⟨m, T, hr⟩ := h.ra
  exact fileRef hr n hz
/- The program's. -/
theorem Duo.open (h : Duo w0 w B S st r s bx) {k : Int} {n : ByteArray} (hk : 0 ≤ k ∧ k < 256) (hn : Small n) (hm : st.made ≤ 1000000) (hs : st.streams.length ≤ 1000000) (ht : st.trace.length ≤ 1000000) :
    Calls Try.prog 24 #[ptr B, .int .u8 k, .string n] w fun e w2 => e = .returned (.int .i64 (openE st k n)) ∧ Duo w0 w2 B S (openS st k n) r s bx ∧ Keep bx w w2 :=
  h.prog1 fun _ _ _ _ _ _ _ _ q => open_ q hk hn hm hs ht
theorem Duo.write (h : Duo w0 w B S st r s bx) {k : Int} {n d : ByteArray} (hk : 0 ≤ k ∧ k < 256) (hn : Small n) (hm : st.made ≤ 1000000) (hs : st.streams.length ≤ 1000000) (ht : st.trace.length ≤ 1000000) (hd : ((st.file n).getD []).length + d.size ≤ 1000000000) :
    Calls Try.prog 22 #[ptr B, .int .u8 k, .string n, .string d] w fun e w2 => e = .returned (.int .i64 (writeE st k n)) ∧ Duo w0 w2 B S (writeS st k n d) r s bx ∧ Keep bx w w2 :=
  h.prog1 fun _ _ _ _ _ _ _ _ q => write_ q hk hn hm hs ht hd
theorem Duo.close (h : Duo w0 w B S st r s bx) {n : ByteArray} (hn : Small n) (hs : st.streams.length ≤ 1000000) (ht : st.trace.length ≤ 900000) :
    Calls Try.prog 23 #[ptr B, .string n] w fun e w2 => e = .returned (.tuple #[.int .i64 (closeTo n 5 (st, 0, false)).2.1, .bool (closeTo n 5 (st, 0, false)).2.2]) ∧ Duo w0 w2 B S (closeTo n 5 (st, 0, false)).1 r s bx ∧ Keep bx w w2 :=
  h.prog1 fun _ _ _ _ _ _ _ _ q => close_ q hn hs ht
theorem Duo.closeAll (h : Duo w0 w B S st r s bx) (hs : st.streams.length ≤ 1000) (ht : st.trace.length ≤ 800000) :
    Calls Try.prog 25 #[ptr B] w fun e w2 => ∃ st2, (e = .returned (.tuple #[]) ∧ ∃ j, j ≤ st.streams.length ∧ st2 = allTo j st ∧ (allTo j st).streams = []) ∧ Duo w0 w2 B S st2 r s bx ∧ Keep bx w w2 :=
  h.prog (R := fun e st2 => e = .returned (.tuple #[]) ∧ ∃ j, j ≤ st.streams.length ∧ st2 = allTo j st ∧ (allTo j st).streams = []) fun _ _ _ _ _ _ _ _ q => (closeAll_ q hs ht).mono fun e w2 ⟨he, j, hj, hg, hn⟩ => ⟨_, ⟨he, j, hj, rfl, hn⟩, hg⟩
theorem Duo.system (h : Duo w0 w B S st r s bx) {n : ByteArray} (hn : Small n) (ht : st.trace.length ≤ 1000000) :
    Calls Try.prog 28 #[ptr B, .string n] w fun e w2 => e = .returned (.tuple #[.int .i64 (sysM st n), .int .i64 (sysE st n)]) ∧ Duo w0 w2 B S (sysS st n) r s bx ∧ Keep bx w w2 :=
  h.prog1 fun _ _ _ _ _ _ _ _ q => system_ q hn ht
theorem Duo.chance (h : Duo w0 w B S st r s bx) :
    Calls Try.prog 37 #[ptr B] w fun e w2 => e = .returned (.int .u64 st.chance) ∧ Duo w0 w2 B S { st with chance := nextU st.chance } r s bx ∧ Keep bx w w2 :=
  h.prog1 fun _ _ _ _ _ _ _ _ q => chanceOf q
theorem Duo.file (h : Duo w0 w B S st r s bx) {n : ByteArray} (hn : Small n) :
    Calls Try.prog 16 #[ptr B, .string n] w fun e w2 => e = .returned (.tuple #[.string (txt ((st.file n).getD [])), .bool (st.file n).isSome]) ∧ Duo w0 w2 B S st r s bx ∧ Keep bx w w2 :=
  h.prog1 fun _ _ _ _ _ _ _ _ q => fileOf q hn
def ReadD (st : St) (n : ByteArray) (m : Int) (o : Option (Nat × Strm × ByteArray)) (e : Ending) (st2 : St) : Prop :=
  match o with
  | none => e = .returned (.tuple #[.string noText, .int .i64 16]) ∧ st2 = st
  | some (i, s, t) => if readE st n m o = 0 then e = .returned (.tuple #[.string (t.extract 0 (cutN m t)), .int .i64 0]) ∧ st2 = tookS st i s (t.extract (cutN m t) t.size) else e = .returned (.tuple #[.string noText, .int .i64 (readE st n m o)]) ∧ st2 = st
theorem Duo.readP (h : Duo w0 w B S st r s bx) {k : Int} {n : ByteArray} {m : Int} (hn : Small n) (hs : st.streams.length ≤ 1000000) (hm : -9223372036854775808 ≤ m ∧ m ≤ 9223372036854775807) {o : Option (Nat × Strm × ByteArray)} (ho : Reads st k n o) (hsz : ∀ i s t, o = some (i, s, t) → t.size ≤ 1000000000) :
    Calls Try.prog 21 #[ptr B, .int .u8 k, .string n, .int .i64 m] w fun e w2 => ∃ st2, ReadD st n m o e st2 ∧ Duo w0 w2 B S st2 r s bx ∧ Keep bx w w2 :=
  h.prog (R := ReadD st n m o) fun _ _ _ _ _ _ _ _ q => (read_ q hn hs hm ho hsz).mono fun e w2 hp => by
    unfold ReadPost at hp
    cases o with
    | none => exact ⟨st, ⟨hp.1, rfl⟩, hp.2⟩
    | some x =>
      obtain ⟨i, s, t⟩ := x
      dsimp only at hp
      by_cases hz : readE st n m (some (i, s, t)) = 0
      · rw [if_pos hz] at hp
        exact ⟨_, (by unfold ReadD; dsimp only; rw [if_pos hz]; exact ⟨hp.1, rfl⟩), hp.2⟩
      · rw [if_neg hz] at hp
        exact ⟨_, (by unfold ReadD; dsimp only; rw [if_neg hz]; exact ⟨hp.1, rfl⟩), hp.2⟩
theorem Duo.streamsN (h : Duo w0 w B S st r s bx) :
    Calls Try.prog 11 #[ptr B] w fun e w2 => e = .returned (.int .i64 st.streams.length) ∧ w2 = w := by
  obtain ⟨fm, rm, xm, D, vs, vt, ps, T, h1, h2, h3, h4, h5, h6⟩ := h
  exact Wo.streamsN h1
theorem Duo.clock (h : Duo w0 w B S st r s bx) :
    Calls Try.prog 18 #[ptr B] w fun e w2 => e = .returned (.int .i64 st.clock) ∧ w2 = w := by
  obtain ⟨fm, rm, xm, D, vs, vt, ps, T, h1, h2, h3, h4, h5, h6⟩ := h
  exact Wo.clock h1
theorem Duo.isOpen (h : Duo w0 w B S st r s bx) (k : Int) (n : ByteArray) (hl : st.streams.length ≤ 1000000) :
    Calls Try.prog 14 #[ptr B, .int .u8 k, .string n] w fun e w' => e = .returned (.bool (openB k n st.streams)) ∧ Below w.heap.size w w' := by
  obtain ⟨fm, rm, xm, D, vs, vt, ps, T, h1, h2, h3, h4, h5, h6⟩ := h
  exact Wo.isOpen h1 k n hl
theorem Duo.trace (h : Duo w0 w B S st r s bx) (ht : st.trace.length ≤ 1000000) :
    Calls Try.prog 13 #[ptr B] w fun e w' => ∃ v, e = .returned v ∧ OwnE w' w.heap.size v st.trace ∧ Below w.heap.size w w' := by
  obtain ⟨fm, rm, xm, D, vs, vt, ps, T, h1, h2, h3, h4, h5, h6⟩ := h
  exact traceOf h1 ht
theorem Duo.events (h : Duo w0 w B S st r s bx) : OwnE w 0 (.slice s.oE r.events.length s.cE) r.events := by
  obtain ⟨m, T, hr⟩ := h.ra
  exact hr.re
theorem Duo.files (h : Duo w0 w B S st r s bx) : OwnF w 0 (.slice s.oF r.files.length s.cF) r.files := by
  obtain ⟨m, T, hr⟩ := h.ra
  exact hr.rf
end
end Go.Proofs.Ythbkcdbmimhhkaa.Rw
