/-
  The document's world beside the program's, plain: what each call answers, and that both go on alike.
-/
import Derived.Test.YthbkcdbmimhhkaaRwA
namespace Go.Proofs.Ythbkcdbmimhhkaa.Rw
open Go.RowKit Go.Maps Wo

def live (s : RStrm) : Strm := ⟨s.kind, s.name, if s.kind = 1 then (if s.name = dash then .stdin else .own (s.source.extract s.taken s.source.size)) else if s.kind = 2 then .own (s.source.extract s.taken s.source.size) else .none⟩
structure Agree (S : Scpt) (st : St) (r : RSt) : Prop where
  most : st.most = S.most
  clk : st.clock = S.clk
  chance : st.chance = r.number
  file : ∀ n, st.file n = (lookF n r.files).map fun p => p.2.data.toList
  reply : ∀ n, st.reply n = (lookR n S.reps).map fun p => (p.out, p.status)
  fails : ∀ op n, st.fails op n = (lookX op n S.fails).isSome
  stdin : st.stdin = S.stdin.extract r.taken S.stdin.size
  taken : r.taken ≤ S.stdin.size
  trace : st.trace = r.events
  strms : st.streams = r.opn.map live
  tk : ∀ s ∈ r.opn, s.taken ≤ s.source.size
  once : r.files.Pairwise fun a b => a.1 ≠ b.1

theorem isIt_live (k : Int) (n : ByteArray) (s : RStrm) : isIt k n (live s) = isIt k n s.strm := rfl
theorem placeL_live (k : Int) (n : ByteArray) : ∀ l : List RStrm, placeL k n (l.map live) = rplace k n l
  | [] => rfl
  | s :: r => by
    have ih := placeL_live k n r
    unfold rplace at ih ⊢
    rw [List.map_cons, List.map_cons, placeL_cons, placeL_cons, isIt_live, ih]
theorem Agree.place {S : Scpt} {st : St} {r : RSt} (h : Agree S st r) (k : Int) (n : ByteArray) : placeL k n st.streams = rplace k n r.opn := by rw [h.strms, placeL_live]
theorem Agree.len {S : Scpt} {st : St} {r : RSt} (h : Agree S st r) : st.streams.length = r.opn.length := by rw [h.strms, List.length_map]

/- A file's bytes turned. -/
def withF (l : List FileD) (n d : ByteArray) : List FileD := (l.map fun p => if p.1 = n then (p.1, d) else p) ++ (if (lookF n l).isSome then [] else [(n, d)])
def rWith (r : RSt) (n d : ByteArray) : RSt := { r with files := withF r.files n d }
theorem lookF_cons (n : ByteArray) (p : FileD) (l : List FileD) : lookF n (p :: l) = if p.1 = n then some p else lookF n l := by
  unfold lookF
  rw [List.find?_cons]
  by_cases h : p.1 = n
  · rw [decide_eq_true h, if_pos h]
  · rw [decide_eq_false h, if_neg h]
theorem lookF_append (n : ByteArray) (l r : List FileD) : lookF n (l ++ r) = if (lookF n l).isSome then lookF n l else lookF n r := by
  induction l with
  | nil => rfl
  | cons p l ih =>
    rw [List.cons_append, lookF_cons, lookF_cons]
    by_cases h : p.1 = n
    · rw [if_pos h, if_pos h]; rfl
    · rw [if_neg h, if_neg h, ih]
theorem lookF_map (n d m : ByteArray) (l : List FileD) : lookF m (l.map fun p => if p.1 = n then (p.1, d) else p) = (lookF m l).map fun p => if p.1 = n then (p.1, d) else p := by
  induction l with
  | nil => rfl
  | cons p l ih =>
    rw [List.map_cons, lookF_cons, lookF_cons, ih]
    by_cases h : p.1 = m
    · have e : (if p.1 = n then (p.1, d) else p).1 = m := by split <;> exact h
      rw [if_pos e, if_pos h]; rfl
    · have e : (if p.1 = n then (p.1, d) else p).1 ≠ m := by split <;> exact h
      rw [if_neg e, if_neg h]
theorem lookF_name {n : ByteArray} {l : List FileD} {p : FileD} (h : lookF n l = some p) : p.1 = n := by
  have := List.find?_some h
  simpa using this
theorem lookF_with (n d m : ByteArray) (l : List FileD) : lookF m (withF l n d) = if m = n then some (n, d) else lookF m l := by
  unfold withF
  rw [lookF_append, lookF_map]
  by_cases h : m = n
  · subst h
    rw [if_pos rfl]
    cases hl : lookF m l with
    | none => simp [lookF]
    | some p =>
      have hp := lookF_name hl
      simp [hp]
  · rw [if_neg h]
    cases hl : lookF m l with
    | none =>
      simp only [Option.map_none, Option.isSome_none, Bool.false_eq_true, if_false]
      split
      · rfl
      · rw [lookF_cons, if_neg (fun e => h e.symm)]; rfl
    | some p =>
      have hp := lookF_name hl
      have : p.1 ≠ n := fun e => h (hp.symm.trans e)
      simp [this]
theorem lookF_mem {n : ByteArray} {l : List FileD} {p : FileD} (h : lookF n l = some p) : p ∈ l := List.mem_of_find?_eq_some h
theorem lookF_none {n : ByteArray} {l : List FileD} (h : lookF n l = none) : ∀ p ∈ l, p.1 ≠ n := by
  intro p hp
  have := List.find?_eq_none.1 h p hp
  simpa using this
theorem once_with {n d : ByteArray} {l : List FileD} (h : l.Pairwise fun a b => a.1 ≠ b.1) : (withF l n d).Pairwise fun a b => a.1 ≠ b.1 := by
  unfold withF
  rw [List.pairwise_append]
  have hk : ∀ p : FileD, (if p.1 = n then (p.1, d) else p).1 = p.1 := fun p => by split <;> rfl
  refine ⟨?_, ?_, ?_⟩
  · rw [List.pairwise_map]
    refine h.imp fun hab => ?_
    rw [hk, hk]; exact hab
  · split
    · exact List.Pairwise.nil
    · exact List.pairwise_singleton _ _
  · intro a ha b hb
    split at hb
    · cases hb
    · rename_i hn
      obtain rfl : b = (n, d) := by simpa using hb
      obtain ⟨p, hp, rfl⟩ := List.mem_map.1 ha
      rw [hk]
      exact lookF_none (by simpa using hn) p hp
theorem lookF_at {l : List FileD} (h : l.Pairwise fun a b => a.1 ≠ b.1) {i : Nat} {p : FileD} (hi : l[i]? = some p) : lookF p.1 l = some p := by
  induction l generalizing i with
  | nil => simp at hi
  | cons x l ih =>
    rw [List.pairwise_cons] at h
    cases i with
    | zero =>
      obtain rfl : x = p := by simpa using hi
      rw [lookF_cons, if_pos rfl]
    | succ i =>
      have hi' : l[i]? = some p := by simpa using hi
      rw [lookF_cons, if_neg (h.1 p (List.mem_of_getElem? hi'))]
      exact ih h.2 hi'
theorem with_len (l : List FileD) (n d : ByteArray) : (withF l n d).length ≤ l.length + 1 := by
  unfold withF
  rw [List.length_append, List.length_map]
  split <;> simp
theorem with_size {l : List FileD} {n d : ByteArray} {m : Nat} (h : ∀ p ∈ l, p.2.size ≤ m) (hd : d.size ≤ m) : ∀ p ∈ withF l n d, p.2.size ≤ m := by
  intro p hp
  rcases List.mem_append.1 hp with hp | hp
  · obtain ⟨x, hx, rfl⟩ := List.mem_map.1 hp
    split
    · exact hd
    · exact h x hx
  · split at hp
    · cases hp
    · obtain rfl : p = (n, d) := by simpa using hp
      exact hd

section
variable {S : Scpt} {st : St} {r : RSt}
theorem Agree.setF (h : Agree S st r) (n d : ByteArray) {l : List UInt8} (hl : l = d.data.toList) : ∀ m, (Wo.setF st.file n l) m = (lookF m (withF r.files n d)).map fun p => p.2.data.toList := by
  intro m
  rw [lookF_with]
  unfold Wo.setF
  by_cases e : m = n
  · rw [if_pos e, if_pos e, hl]; rfl
  · rw [if_neg e, if_neg e]; exact h.file m
/- An opening. -/
def rData (r : RSt) (n : ByteArray) : ByteArray := match lookF n r.files with | some p => p.2 | none => noText
def rOut (S : Scpt) (n : ByteArray) : ByteArray := match lookR n S.reps with | some p => p.out | none => noText
def rStat (S : Scpt) (n : ByteArray) : Int := match lookR n S.reps with | some p => p.status | none => 0
def rOpenE (S : Scpt) (r : RSt) (k : Int) (n : ByteArray) : Int :=
  if ¬ (1 ≤ k ∧ k ≤ 5) then 2
  else if 0 ≤ rplace k n r.opn then 0
  else if S.most ≤ r.opn.length then 15
  else if (lookX 1 n S.fails).isSome = true ∨ (k = 1 ∧ n ≠ dash ∧ lookF n r.files = none) then 12
  else 0
def rOpenNew (S : Scpt) (r : RSt) (k : Int) (n : ByteArray) : Prop := (1 ≤ k ∧ k ≤ 5) ∧ rplace k n r.opn < 0 ∧ (r.opn.length : Int) < S.most ∧ (lookX 1 n S.fails).isSome = false ∧ ¬ (k = 1 ∧ n ≠ dash ∧ lookF n r.files = none)
def rBegun (r : RSt) (k : Int) (n : ByteArray) : RSt := if k = 3 then rWith r n noText else if k = 4 then rWith r n (rData r n) else r
def rStrm (S : Scpt) (r : RSt) (k : Int) (n : ByteArray) : RStrm := ⟨k, n, if k = 1 then rData r n else if k = 2 then rOut S n else noText, 0⟩
def rOpened (S : Scpt) (r : RSt) (k : Int) (n : ByteArray) : RSt := { rBegun r k n with opn := r.opn ++ [rStrm S r k n], events := r.events ++ [⟨1, k, n, noText, 0⟩] }
noncomputable instance (S : Scpt) (r : RSt) (k : Int) (n : ByteArray) : Decidable (rOpenNew S r k n) := Classical.propDecidable _
noncomputable def rOpenS (S : Scpt) (r : RSt) (k : Int) (n : ByteArray) : RSt := if rOpenNew S r k n then rOpened S r k n else r
theorem Agree.none_iff (h : Agree S st r) (n : ByteArray) : st.file n = none ↔ lookF n r.files = none := by
  rw [h.file]; simp
theorem Agree.openE (h : Agree S st r) (k : Int) (n : ByteArray) : openE st k n = rOpenE S r k n := by
  unfold Wo.openE rOpenE
  rw [h.place, h.most, h.len, h.fails]
  simp only [h.none_iff]
theorem Agree.openNew (h : Agree S st r) (k : Int) (n : ByteArray) : openNew st k n ↔ rOpenNew S r k n := by
  unfold Wo.openNew rOpenNew
  rw [h.place, h.most, h.len, h.fails, h.none_iff]
theorem data_of (h : Agree S st r) (n : ByteArray) : txt ((st.file n).getD []) = rData r n := by
  rw [h.file]
  unfold rData
  cases lookF n r.files with
  | none => rfl
  | some p => rfl
theorem out_of (h : Agree S st r) (n : ByteArray) : ((st.reply n).getD (noText, 0)).1 = rOut S n ∧ ((st.reply n).getD (noText, 0)).2 = rStat S n := by
  rw [h.reply]
  unfold rOut rStat
  cases lookR n S.reps with
  | none => exact ⟨rfl, rfl⟩
  | some p => exact ⟨rfl, rfl⟩
theorem whole_text (s : ByteArray) : s.extract 0 s.size = s := ByteArray.extract_zero_size
theorem live_new (h : Agree S st r) (k : Int) (n : ByteArray) : live (rStrm S r k n) = ⟨k, n, srcOf st k n⟩ := by
  unfold live rStrm srcOf
  simp only
  by_cases h1 : k = 1
  · by_cases h2 : n = dash
    · simp [h1, h2]
    · have := data_of h n
      simp [h1, h2, this, whole_text]
  · by_cases h2 : k = 2
    · have := (out_of h n).1
      subst h2
      simp [this, whole_text]
    · simp [h1, h2]
/- What is turned of files alone. -/
structure Same (S : Scpt) (a b : St) (x y : RSt) : Prop where
  a1 : b.most = a.most ∧ b.clock = a.clock ∧ b.chance = a.chance ∧ b.reply = a.reply ∧ b.fails = a.fails ∧ b.stdin = a.stdin ∧ b.trace = a.trace ∧ b.streams = a.streams
  a2 : y.taken = x.taken ∧ y.opn = x.opn ∧ y.number = x.number ∧ y.events = x.events
theorem Agree.same {a b : St} {x y : RSt} (h : Agree S a x) (hs : Same S a b x y) (hf : ∀ n, b.file n = (lookF n y.files).map fun p => p.2.data.toList) (ho : y.files.Pairwise fun a b => a.1 ≠ b.1) : Agree S b y := by
  obtain ⟨⟨q1, q2, q3, q4, q5, q6, q7, q8⟩, p1, p2, p3, p4⟩ := hs
  exact ⟨q1.trans h.most, q2.trans h.clk, by rw [q3, p3]; exact h.chance, hf, fun n => by rw [q4]; exact h.reply n, fun op n => by rw [q5]; exact h.fails op n, by rw [q6, p1]; exact h.stdin, by rw [p1]; exact h.taken, by rw [q7, p4]; exact h.trace, by rw [q8, p2]; exact h.strms, by rw [p2]; exact h.tk, ho⟩
theorem beginS_same (st : St) (n : ByteArray) : (beginS st n).most = st.most ∧ (beginS st n).clock = st.clock ∧ (beginS st n).chance = st.chance ∧ (beginS st n).reply = st.reply ∧ (beginS st n).fails = st.fails ∧ (beginS st n).stdin = st.stdin ∧ (beginS st n).trace = st.trace ∧ (beginS st n).streams = st.streams := by
  unfold beginS
  split <;> exact ⟨rfl, rfl, rfl, rfl, rfl, rfl, rfl, rfl⟩
theorem setF_twice (f : ByteArray → Option (List UInt8)) (n : ByteArray) (a b : List UInt8) : Wo.setF (Wo.setF f n a) n b = Wo.setF f n b := by
  funext m
  unfold Wo.setF
  split <;> rfl
theorem begin_set (st : St) (n : ByteArray) (b : List UInt8) : Wo.setF (beginS st n).file n b = Wo.setF st.file n b := by
  unfold beginS
  split
  · rfl
  · exact setF_twice _ _ _ _
theorem begin_file (st : St) (n : ByteArray) : (beginS st n).file = Wo.setF st.file n ((st.file n).getD []) := by
  unfold beginS
  cases h : st.file n with
  | none => rfl
  | some l =>
    funext m
    unfold Wo.setF
    by_cases e : m = n
    · rw [if_pos e, e]; exact h
    · rw [if_neg e]; rfl
theorem Agree.begun (h : Agree S st r) (k : Int) (n : ByteArray) : Agree S (begunS st k n) (rBegun r k n) := by
  unfold begunS rBegun
  by_cases h3 : k = 3
  · rw [if_pos h3, if_pos h3]
    refine h.same ⟨beginS_same st n, rfl, rfl, rfl, rfl⟩ ?_ (once_with h.once)
    have e : (emptied (beginS st n) n).file = Wo.setF st.file n [] := begin_set st n []
    rw [e]
    exact h.setF n noText rfl
  · rw [if_neg h3, if_neg h3]
    by_cases h4 : k = 4
    · rw [if_pos h4, if_pos h4]
      refine h.same ⟨beginS_same st n, rfl, rfl, rfl, rfl⟩ ?_ (once_with h.once)
      rw [begin_file]
      refine h.setF n (rData r n) ?_
      rw [← data_of h]; rfl
    · rw [if_neg h4, if_neg h4]; exact h
theorem Agree.openS (h : Agree S st r) (k : Int) (n : ByteArray) : Agree S (openS st k n) (rOpenS S r k n) := by
  unfold Wo.openS rOpenS
  by_cases hn : Wo.openNew st k n
  · rw [if_pos hn, if_pos ((h.openNew k n).1 hn)]
    have hb := h.begun k n
    have e1 := begunS_streams st k n
    have e2 : (rBegun r k n).opn = r.opn ∧ (rBegun r k n).events = r.events := by
      unfold rBegun
      split
      · exact ⟨rfl, rfl⟩
      · split <;> exact ⟨rfl, rfl⟩
    refine ⟨hb.most, hb.clk, hb.chance, hb.file, hb.reply, hb.fails, hb.stdin, hb.taken, ?_, ?_, ?_, hb.once⟩
    · show st.trace ++ [_] = r.events ++ [_]
      rw [h.trace]
    · show st.streams ++ [_] = (r.opn ++ [_]).map live
      rw [List.map_append, h.strms, List.map_cons, List.map_nil, live_new h]
    · intro s hs
      rcases List.mem_append.1 hs with hs | hs
      · exact h.tk s hs
      · obtain rfl : s = rStrm S r k n := by simpa using hs
        exact Nat.zero_le _
  · rw [if_neg hn, if_neg (fun e => hn ((h.openNew k n).2 e))]; exact h
end
end Go.Proofs.Ythbkcdbmimhhkaa.Rw
