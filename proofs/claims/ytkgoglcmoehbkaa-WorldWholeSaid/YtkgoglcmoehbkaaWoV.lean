/-
  Package world, plain: what the openings, readings and writings of WorldWhole keep.
-/
import Derived.Test.YtkgoglcmoehbkaaWoS
namespace Go.Proofs.Ytkgoglcmoehbkaa.Wo
open Go.RowKit Go.Maps

abbrev nF : ByteArray := ⟨#[102]⟩
abbrev nC : ByteArray := ⟨#[99]⟩
abbrev nO : ByteArray := ⟨#[111]⟩
abbrev nP : ByteArray := ⟨#[112]⟩
def six (l0 l2 : ByteArray) : List Strm := [⟨1, nF, .own l0⟩, ⟨1, dash, .stdin⟩, ⟨2, nC, .own l2⟩, ⟨3, nO, .none⟩, ⟨4, nF, .none⟩, ⟨5, nP, .none⟩]
/- What was written to a command, of a trace. -/
def piped : List Ev → List UInt8
  | [] => []
  | e :: r => (if e.kind = 2 ∧ e.stream = 5 then e.data.data.toList else []) ++ piped r
theorem piped_snoc (e : Ev) : ∀ l, piped (l ++ [e]) = piped l ++ (if e.kind = 2 ∧ e.stream = 5 then e.data.data.toList else [])
  | [] => by simp [piped]
  | x :: r => by rw [List.cons_append, piped, piped_snoc e r, piped, List.append_assoc]
structure Whl (l0 l1 l2 : ByteArray) (pf po pp : List UInt8) (st : St) : Prop where
  streams : st.streams = six l0 l2
  stdin : st.stdin = l1
  f : st.file nF = some pf
  o : st.file nO = some po
  p : st.file nP = none
  fails : ∀ op n, st.fails op n = false
  pp : piped st.trace = pp
  made : st.made ≤ 3

/- The openings. -/
structure Opn (file stdin reply : ByteArray) (i : Nat) (st : St) : Prop where
  streams : st.streams = (six file reply).take i
  stdin : st.stdin = stdin
  f : st.file nF = some file.data.toList
  o : 4 ≤ i → st.file nO = some []
  no : ¬ 4 ≤ i → st.file nO = none
  p : st.file nP = none
  reply : st.reply nC = some (reply, 0)
  fails : ∀ op n, st.fails op n = false
  most : st.most = 9
  pp : piped st.trace = []
  tr : st.trace.length = i
  made : st.made ≤ if 4 ≤ i then 2 else 1
theorem txt_data (s : ByteArray) : txt s.data.toList = s := rfl
theorem opn_zero (file stdin reply : ByteArray) : Opn file stdin reply 0 { filesTo (st0 stdin 9 0 0) [(nF, file)] with reply := repTo [⟨nC, reply, 0⟩], fails := failTo [] } where
  streams := rfl
  stdin := rfl
  f := by
    show (fileS (st0 stdin 9 0 0) (nF, file)).file nF = _
    unfold fileS setF
    simp [st0]
  o := fun h => absurd h (by decide)
  no := fun _ => by
    show (fileS (st0 stdin 9 0 0) (nF, file)).file nO = _
    unfold fileS beginS setF
    simp [st0, show nO ≠ nF from by decide]
  p := by
    show (fileS (st0 stdin 9 0 0) (nF, file)).file nP = _
    unfold fileS beginS setF
    simp [st0, show nP ≠ nF from by decide]
  reply := by
    show repS (fun _ => none) ⟨nC, reply, 0⟩ nC = _
    unfold repS
    simp
  fails := fun _ _ => rfl
  most := rfl
  pp := rfl
  tr := rfl
  made := by
    show (fileS (st0 stdin 9 0 0) (nF, file)).made ≤ _
    unfold fileS beginS
    simp [st0]
def kindAt : Nat → Int | 0 => 1 | 1 => 1 | 2 => 2 | 3 => 3 | 4 => 4 | _ => 5
def nameAt : Nat → ByteArray | 0 => nF | 1 => dash | 2 => nC | 3 => nO | 4 => nF | _ => nP
theorem opn_new {file stdin reply : ByteArray} {i : Nat} {st : St} (h : Opn file stdin reply i st) (hi : i < 6) : openNew st (kindAt i) (nameAt i) ∧ openE st (kindAt i) (nameAt i) = 0 := by
  have hpl : placeL (kindAt i) (nameAt i) st.streams < 0 := by
    rw [h.streams]
    match i, hi with
    | 0, _ => show placeL 1 nF [] < 0; simp [placeL]
    | 1, _ => show placeL 1 dash [_] < 0; simp [placeL, isIt, show nF ≠ dash from by decide]
    | 2, _ => show placeL 2 nC [_, _] < 0; simp [placeL, isIt]
    | 3, _ => show placeL 3 nO [_, _, _] < 0; simp [placeL, isIt]
    | 4, _ => show placeL 4 nF [_, _, _, _] < 0; simp [placeL, isIt]
    | 5, _ => show placeL 5 nP [_, _, _, _, _] < 0; simp [placeL, isIt]
  have hlen : st.streams.length = i := by rw [h.streams, List.length_take]; show min i 6 = i; omega
  have hk : 1 ≤ kindAt i ∧ kindAt i ≤ 5 := by
    match i, hi with
    | 0, _ => decide
    | 1, _ => decide
    | 2, _ => decide
    | 3, _ => decide
    | 4, _ => decide
    | 5, _ => decide
  have hno : ¬ (kindAt i = 1 ∧ nameAt i ≠ dash ∧ st.file (nameAt i) = none) := by
    match i, hi with
    | 0, _ => rintro ⟨_, _, h3⟩; rw [show nameAt 0 = nF from rfl, h.f] at h3; cases h3
    | 1, _ => rintro ⟨_, h3, _⟩; exact h3 rfl
    | 2, _ => rintro ⟨h3, _⟩; exact absurd h3 (by decide)
    | 3, _ => rintro ⟨h3, _⟩; exact absurd h3 (by decide)
    | 4, _ => rintro ⟨h3, _⟩; exact absurd h3 (by decide)
    | 5, _ => rintro ⟨h3, _⟩; exact absurd h3 (by decide)
  have hm : (st.streams.length : Int) < st.most := by rw [hlen, h.most]; omega
  refine ⟨⟨hk, hpl, hm, h.fails _ _, hno⟩, ?_⟩
  unfold openE
  rw [if_neg (fun e => e hk), if_neg (by omega), if_neg (by omega), if_neg (by rintro (e | e); · rw [h.fails] at e; cases e
                                                                               · exact hno e)]
theorem opn_step {file stdin reply : ByteArray} {i : Nat} {st : St} (h : Opn file stdin reply i st) (hi : i < 6) : Opn file stdin reply (i + 1) (openS st (kindAt i) (nameAt i)) := by
  have hx : openS st (kindAt i) (nameAt i) = openedS st (kindAt i) (nameAt i) := if_pos (opn_new h hi).1
  rw [hx]
  have hs : (openedS st (kindAt i) (nameAt i)).streams = st.streams ++ [⟨kindAt i, nameAt i, srcOf st (kindAt i) (nameAt i)⟩] := rfl
  have ht : (openedS st (kindAt i) (nameAt i)).trace = st.trace ++ [⟨1, kindAt i, nameAt i, noText, 0⟩] := rfl
  have hpp : piped (st.trace ++ [(⟨1, kindAt i, nameAt i, noText, 0⟩ : Ev)]) = [] := by rw [piped_snoc, h.pp]; simp
  have htr : (st.trace ++ [(⟨1, kindAt i, nameAt i, noText, 0⟩ : Ev)]).length = i + 1 := by rw [List.length_append, h.tr]; rfl
  have hmd := h.made
  match i, hi with
  | 0, _ =>
    refine ⟨?_, h.stdin, h.f, fun e => absurd e (by decide), fun _ => h.no (by decide), h.p, h.reply, h.fails, h.most, hpp, htr, h.made⟩
    rw [hs, h.streams]
    show [(⟨1, nF, srcOf st 1 nF⟩ : Strm)] = _
    have : srcOf st 1 nF = .own file := by unfold srcOf; rw [if_pos rfl, if_neg (by decide), h.f]; rfl
    rw [this]; rfl
  | 1, _ =>
    refine ⟨?_, h.stdin, h.f, fun e => absurd e (by decide), fun _ => h.no (by decide), h.p, h.reply, h.fails, h.most, hpp, htr, h.made⟩
    rw [hs, h.streams]
    have : srcOf st 1 dash = .stdin := by unfold srcOf; rw [if_pos rfl, if_pos rfl]
    show _ ++ [(⟨1, dash, srcOf st 1 dash⟩ : Strm)] = _
    rw [this]; rfl
  | 2, _ =>
    refine ⟨?_, h.stdin, h.f, fun e => absurd e (by decide), fun _ => h.no (by decide), h.p, h.reply, h.fails, h.most, hpp, htr, h.made⟩
    rw [hs, h.streams]
    have : srcOf st 2 nC = .own reply := by unfold srcOf; rw [if_neg (by decide), if_pos rfl, h.reply]; rfl
    show _ ++ [(⟨2, nC, srcOf st 2 nC⟩ : Strm)] = _
    rw [this]; rfl
  | 3, _ =>
    have hn : st.file nO = none := h.no (by decide)
    have hb : begunS st 3 nO = emptied (beginS st nO) nO := if_pos rfl
    have hbb : beginS st nO = { st with file := setF st.file nO [], made := st.made + 1 } := by unfold beginS; rw [hn]; rfl
    have hf : (openedS st 3 nO).file = setF (setF st.file nO []) nO [] := by
      show (begunS st 3 nO).file = _
      rw [hb]
      show setF (beginS st nO).file nO [] = _
      rw [hbb]
    have hbs : (begunS st 3 nO).stdin = st.stdin ∧ (begunS st 3 nO).reply = st.reply ∧ (begunS st 3 nO).fails = st.fails ∧ (begunS st 3 nO).most = st.most ∧ (begunS st 3 nO).made = st.made + 1 := by
      rw [hb, hbb]; exact ⟨rfl, rfl, rfl, rfl, rfl⟩
    refine ⟨?_, hbs.1.trans h.stdin, ?_, fun _ => ?_, fun e => absurd (by decide) e, ?_, ?_, ?_, hbs.2.2.2.1.trans h.most, hpp, htr, ?_⟩
    · rw [hs, h.streams]
      show _ ++ [(⟨3, nO, srcOf st 3 nO⟩ : Strm)] = _
      have : srcOf st 3 nO = .none := by unfold srcOf; rw [if_neg (by decide), if_neg (by decide)]
      rw [this]; rfl
    · show (openedS st 3 nO).file nF = _
      rw [hf]; unfold setF; rw [if_neg (by decide), if_neg (by decide)]; exact h.f
    · show (openedS st 3 nO).file nO = _
      rw [hf]; unfold setF; rw [if_pos rfl]
    · show (openedS st 3 nO).file nP = _
      rw [hf]; unfold setF; rw [if_neg (by decide), if_neg (by decide)]; exact h.p
    · show (begunS st 3 nO).reply nC = _
      rw [hbs.2.1]; exact h.reply
    · intro op n
      show (begunS st 3 nO).fails op n = _
      rw [hbs.2.2.1]; exact h.fails op n
    · show (begunS st 3 nO).made ≤ _
      rw [hbs.2.2.2.2]; simp at hmd ⊢; omega
  | 4, _ =>
    have hb : begunS st 4 nF = beginS st nF := by unfold begunS; rw [if_neg (by decide), if_pos rfl]
    have hbb : beginS st nF = st := by unfold beginS; rw [h.f]; rfl
    have hfl : begunS st 4 nF = st := hb.trans hbb
    refine ⟨?_, ?_, ?_, fun _ => ?_, fun e => absurd (by decide) e, ?_, ?_, ?_, ?_, hpp, htr, ?_⟩
    · rw [hs, h.streams]
      show _ ++ [(⟨4, nF, srcOf st 4 nF⟩ : Strm)] = _
      have : srcOf st 4 nF = .none := by unfold srcOf; rw [if_neg (by decide), if_neg (by decide)]
      rw [this]; rfl
    · show (begunS st 4 nF).stdin = _; rw [hfl]; exact h.stdin
    · show (begunS st 4 nF).file nF = _; rw [hfl]; exact h.f
    · show (begunS st 4 nF).file nO = _; rw [hfl]; exact h.o (by decide)
    · show (begunS st 4 nF).file nP = _; rw [hfl]; exact h.p
    · show (begunS st 4 nF).reply nC = _; rw [hfl]; exact h.reply
    · intro op n; show (begunS st 4 nF).fails op n = _; rw [hfl]; exact h.fails op n
    · show (begunS st 4 nF).most = _; rw [hfl]; exact h.most
    · show (begunS st 4 nF).made ≤ _; rw [hfl]; simpa using hmd
  | 5, _ =>
    refine ⟨?_, h.stdin, h.f, fun _ => h.o (by decide), fun e => absurd (by decide) e, h.p, h.reply, h.fails, h.most, hpp, htr, h.made⟩
    rw [hs, h.streams]
    show _ ++ [(⟨5, nP, srcOf st 5 nP⟩ : Strm)] = _
    have : srcOf st 5 nP = .none := by unfold srcOf; rw [if_neg (by decide), if_neg (by decide)]
    rw [this]; rfl
theorem opn_done {file stdin reply : ByteArray} {st : St} (h : Opn file stdin reply 6 st) : Whl file stdin reply file.data.toList [] [] st :=
  ⟨h.streams, h.stdin, h.f, h.o (by decide), h.p, h.fails, h.pp, by have := h.made; simp at this; omega⟩

/- What the stream k has left, and the world when m bytes of it were read. -/
def pick3 {α : Type} (a b c : α) : Nat → α | 0 => a | 1 => b | _ => c
def inK : Nat → Int | 0 => 1 | 1 => 1 | _ => 2
def inN : Nat → ByteArray | 0 => nF | 1 => dash | _ => nC
def outK : Nat → Int | 0 => 3 | 1 => 4 | _ => 5
def outN : Nat → ByteArray | 0 => nO | 1 => nF | _ => nP
section
variable {l0 l1 l2 : ByteArray} {pf po pp : List UInt8} {st : St}
def strmAt (l0 l2 : ByteArray) : Nat → Strm | 0 => ⟨1, nF, .own l0⟩ | 1 => ⟨1, dash, .stdin⟩ | _ => ⟨2, nC, .own l2⟩
theorem whl_reads (h : Whl l0 l1 l2 pf po pp st) {k : Nat} (hk : k < 3) : Reads st (inK k) (inN k) (some (k, strmAt l0 l2 k, pick3 l0 l1 l2 k)) := by
  unfold Reads
  rw [h.streams]
  match k, hk with
  | 0, _ => exact ⟨rfl, rfl, rfl⟩
  | 1, _ => exact ⟨by show placeL 1 dash (_ :: _ :: _) = _; simp [placeL_cons, isIt, show nF ≠ dash from by decide], rfl, by show some st.stdin = _; rw [h.stdin]; rfl⟩
  | 2, _ => exact ⟨by show placeL 2 nC (_ :: _ :: _ :: _) = _; simp [placeL_cons, isIt], rfl, rfl⟩
def set3 {α : Type} (a : Nat → α) (k : Nat) (x : α) : Nat → α := fun i => if i = k then x else a i
theorem whl_took (h : Whl l0 l1 l2 pf po pp st) {k : Nat} (hk : k < 3) (t : ByteArray) : Whl (if k = 0 then t else l0) (if k = 1 then t else l1) (if k = 2 then t else l2) pf po pp (tookS st k (strmAt l0 l2 k) t) := by
  match k, hk with
  | 0, _ =>
    refine ⟨?_, h.stdin, h.f, h.o, h.p, h.fails, h.pp, h.made⟩
    show st.streams.set 0 _ = _
    rw [h.streams]; rfl
  | 1, _ => exact ⟨h.streams, rfl, h.f, h.o, h.p, h.fails, h.pp, h.made⟩
  | 2, _ =>
    refine ⟨?_, h.stdin, h.f, h.o, h.p, h.fails, h.pp, h.made⟩
    show st.streams.set 2 _ = _
    rw [h.streams]; rfl
theorem whl_writes (h : Whl l0 l1 l2 pf po pp st) {k : Nat} (hk : k < 3) (d : ByteArray) : writeE st (outK k) (outN k) = 0 ∧
    Whl l0 l1 l2 (if k = 1 then pf ++ d.data.toList else pf) (if k = 0 then po ++ d.data.toList else po) (if k = 2 then pp ++ d.data.toList else pp) (writeS st (outK k) (outN k) d) ∧ (writeS st (outK k) (outN k) d).trace.length ≤ st.trace.length + 1 := by
  have hop : openB (outK k) (wname (outK k) (outN k)) st.streams = true := by
    rw [h.streams]
    unfold openB
    match k, hk with
    | 0, _ => exact by show (_ || decide (0 ≤ placeL 3 nO (_ :: _ :: _ :: _ :: _))) = true; simp [placeL_cons, isIt]
    | 1, _ => exact by show (_ || decide (0 ≤ placeL 4 nF (_ :: _ :: _ :: _ :: _ :: _))) = true; simp [placeL_cons, isIt]
    | 2, _ => exact by show (_ || decide (0 ≤ placeL 5 nP (_ :: _ :: _ :: _ :: _ :: _ :: _))) = true; simp [placeL_cons, isIt]
  have hk3 : ¬ outK k < 3 := by
    match k, hk with
    | 0, _ => decide
    | 1, _ => decide
    | 2, _ => decide
  have he : writeE st (outK k) (outN k) = 0 := by
    unfold writeE
    rw [if_neg (by rintro (e | e); · exact hk3 e
                   · rw [hop] at e; cases e), if_neg (by rw [h.fails]; decide)]
  refine ⟨he, ?_⟩
  by_cases hd : d = noText
  · have hx : writeS st (outK k) (outN k) d = st := if_neg (fun e => e.2 hd)
    rw [hx]
    subst hd
    have e0 : (noText : ByteArray).data.toList = [] := rfl
    rw [e0]
    simp only [List.append_nil, ite_self]
    exact ⟨h, Nat.le_succ _⟩
  · have hx : writeS st (outK k) (outN k) d = wroteS st (outK k) (outN k) d := if_pos ⟨he, hd⟩
    rw [hx]
    clear hx he hop hk3
    match k, hk with
    | 0, _ =>
      have hw : wroteS st 3 nO d = { { beginS st nO with file := setF (beginS st nO).file nO (((st.file nO).getD []) ++ d.data.toList) } with trace := (beginS st nO).trace ++ [(⟨2, 3, nO, d, 0⟩ : Ev)] } := wroteS_file (.inl rfl) rfl
      have hb : beginS st nO = st := by unfold beginS; rw [h.o]; rfl
      rw [hb] at hw
      show Whl _ _ _ _ _ _ (wroteS st 3 nO d) ∧ (wroteS st 3 nO d).trace.length ≤ _
      rw [hw]
      refine ⟨⟨h.streams, h.stdin, ?_, ?_, ?_, h.fails, ?_, h.made⟩, by show (st.trace ++ [_]).length ≤ _; rw [List.length_append]; exact Nat.le_refl _⟩
      · show setF st.file nO (((st.file nO).getD []) ++ d.data.toList) nF = _
        unfold setF; rw [if_neg (by decide)]; exact h.f
      · show setF st.file nO (((st.file nO).getD []) ++ d.data.toList) nO = _
        unfold setF; rw [if_pos rfl, h.o]; rfl
      · show setF st.file nO (((st.file nO).getD []) ++ d.data.toList) nP = _
        unfold setF; rw [if_neg (by decide)]; exact h.p
      · show piped (st.trace ++ [_]) = _
        rw [piped_snoc, h.pp]; simp
    | 1, _ =>
      have hw : wroteS st 4 nF d = { { beginS st nF with file := setF (beginS st nF).file nF (((st.file nF).getD []) ++ d.data.toList) } with trace := (beginS st nF).trace ++ [(⟨2, 4, nF, d, 0⟩ : Ev)] } := wroteS_file (.inr rfl) rfl
      have hb : beginS st nF = st := by unfold beginS; rw [h.f]; rfl
      rw [hb] at hw
      show Whl _ _ _ _ _ _ (wroteS st 4 nF d) ∧ (wroteS st 4 nF d).trace.length ≤ _
      rw [hw]
      refine ⟨⟨h.streams, h.stdin, ?_, ?_, ?_, h.fails, ?_, h.made⟩, by show (st.trace ++ [_]).length ≤ _; rw [List.length_append]; exact Nat.le_refl _⟩
      · show setF st.file nF (((st.file nF).getD []) ++ d.data.toList) nF = _
        unfold setF; rw [if_pos rfl, h.f]; rfl
      · show setF st.file nF (((st.file nF).getD []) ++ d.data.toList) nO = _
        unfold setF; rw [if_neg (by decide)]; exact h.o
      · show setF st.file nF (((st.file nF).getD []) ++ d.data.toList) nP = _
        unfold setF; rw [if_neg (by decide)]; exact h.p
      · show piped (st.trace ++ [_]) = _
        rw [piped_snoc, h.pp]; simp
    | 2, _ =>
      have hw : wroteS st 5 nP d = { st with trace := st.trace ++ [(⟨2, 5, wname 5 nP, d, 0⟩ : Ev)] } := wroteS_note (by decide)
      show Whl _ _ _ _ _ _ (wroteS st 5 nP d) ∧ (wroteS st 5 nP d).trace.length ≤ _
      rw [hw]
      refine ⟨⟨h.streams, h.stdin, h.f, h.o, h.p, h.fails, ?_, h.made⟩, by show (st.trace ++ [_]).length ≤ _; rw [List.length_append]; exact Nat.le_refl _⟩
      show piped (st.trace ++ [_]) = _
      rw [piped_snoc, h.pp]; simp
end
end Go.Proofs.Ytkgoglcmoehbkaa.Wo
