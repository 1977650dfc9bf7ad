/-
  The document's world: reading and writing, whatever is asked (Read, Write).
-/
import Derived.Test.YthbkcdbmimhhkaaRwI
import Derived.Test.YthbkcdbmimhhkaaRwL
namespace Go.Proofs.Ythbkcdbmimhhkaa.Rw
open Go.RowKit Go.Maps Wo

section
variable {w : World} {S : Scpt} {r : RSt} {s : Shp}
theorem rData_size {m : Nat} (h : ∀ p ∈ r.files, p.2.size ≤ m) (n : ByteArray) : (rData r n).size ≤ m := by
  unfold rData
  cases hl : lookF n r.files with
  | none => exact Nat.zero_le _
  | some p => exact h p (List.mem_of_find?_eq_some hl)
theorem writeRef (h : RefAt w S r s) (k : Int) (n d : ByteArray) (hf : Fewer S r) (hsz : ∀ p ∈ r.files, p.2.size ≤ 1000000000) (hsd : d.size ≤ 1000000000) :
    Calls Try.prog 33 #[.agg (s.cells S r), .int .u8 k, .string n, .string d] w (WritePost w S r s k n d) := by
  have hds := rData_size hsz n
  by_cases h6 : k = 6
  · subst h6
    cases hx : (lookX 3 (wname 6 n) S.fails).isSome with
    | true => exact writeC6 h n d hf hx
    | false =>
      by_cases hd : d = noText
      · exact writeD6 h n d hf hx hd
      · have := writeE6 h n d hf hx hd
        exact this
  · by_cases hk : 3 ≤ k ∧ k ≤ 5
    · have hc : k = 3 ∨ k = 4 ∨ k = 5 := by omega
      rcases hc with rfl | rfl | rfl
      · by_cases hp : rplace 3 n r.opn < 0
        · exact writeB3 h n d hf hp
        · cases hx : (lookX 3 (wname 3 n) S.fails).isSome with
          | true => exact writeC3 h n d hf hp hx
          | false =>
            by_cases hd : d = noText
            · exact writeD3 h n d hf hp hx hd
            · exact writeE3 h n d hf hp hx hd hds hsd
      · by_cases hp : rplace 4 n r.opn < 0
        · exact writeB4 h n d hf hp
        · cases hx : (lookX 3 (wname 4 n) S.fails).isSome with
          | true => exact writeC4 h n d hf hp hx
          | false =>
            by_cases hd : d = noText
            · exact writeD4 h n d hf hp hx hd
            · exact writeE4 h n d hf hp hx hd hds hsd
      · by_cases hp : rplace 5 n r.opn < 0
        · exact writeB5 h n d hf hp
        · cases hx : (lookX 3 (wname 5 n) S.fails).isSome with
          | true => exact writeC5 h n d hf hp hx
          | false =>
            by_cases hd : d = noText
            · exact writeD5 h n d hf hp hx hd
            · exact writeE5 h n d hf hp hx hd
    · exact writeA h k n d hf h6 hk

/- What is read, and what is left then. -/
def rLeft (S : Scpt) (r : RSt) (k : Int) (n : ByteArray) (p : RStrm) : ByteArray := if k = 1 ∧ n = dash then S.stdin.extract r.taken S.stdin.size else p.source.extract p.taken p.source.size
def rRead (S : Scpt) (r : RSt) (k : Int) (n : ByteArray) (m : Int) (i : Nat) (p : RStrm) : RSt := if k = 1 ∧ n = dash then tookW r ((rLeft S r k n p).extract 0 (cutN m (rLeft S r k n p))) else tookO r i p ((rLeft S r k n p).extract 0 (cutN m (rLeft S r k n p)))
def ReadPostR (w : World) (S : Scpt) (r : RSt) (s : Shp) (k : Int) (n : ByteArray) (m : Int) (x : Ending) (w' : World) : Prop :=
  (rReadE S r k n m ≠ 0 ∧ ∃ s', x = .returned (.tuple #[.agg (s'.cells S r), .string noText, .int .i64 (rReadE S r k n m)]) ∧ s'.scr = s.scr ∧ RefAt w' S r s' ∧ Below w.heap.size w w') ∨
  (rReadE S r k n m = 0 ∧ ∃ (i : Nat) (p : RStrm) (s' : Shp), rplace k n r.opn = i ∧ r.opn[i]? = some p ∧ x = .returned (.tuple #[.agg (s'.cells S (rRead S r k n m i p)), .string ((rLeft S r k n p).extract 0 (cutN m (rLeft S r k n p))), .int .i64 0]) ∧ s'.scr = s.scr ∧ RefAt w' S (rRead S r k n m i p) s' ∧ Below w.heap.size w w')
theorem cut_less {m : Int} {t : ByteArray} (h1 : ¬ m < 1) (h2 : m < (t.size : Int)) : cutN m t = m.toNat := by unfold cutN; omega
theorem cut_more {m : Int} {t : ByteArray} (h2 : ¬ m < (t.size : Int)) : t.extract 0 (cutN m t) = t := by
  have : cutN m t = t.size := by unfold cutN; omega
  rw [this]; exact ByteArray.extract_zero_size
theorem rplace_get {k : Int} {n : ByteArray} {l : List RStrm} {i : Nat} (h : rplace k n l = i) : ∃ p, l[i]? = some p ∧ p.kind = k ∧ p.name = n := by
  obtain ⟨s, h1, h2⟩ := placeL_get k n _ i h
  rw [List.getElem?_map] at h1
  cases hp : l[i]? with
  | none => rw [hp] at h1; cases h1
  | some p =>
    rw [hp] at h1
    obtain rfl : p.strm = s := by simpa using h1
    exact ⟨p, rfl, isIt_iff.1 h2⟩
theorem left_size (s : ByteArray) {t : Nat} (h : t ≤ s.size) : (s.extract t s.size).size = s.size - t := by
  rw [ByteArray.size_extract]; omega
theorem readRef (h : RefAt w S r s) (k : Int) (n : ByteArray) (m : Int) (hf : Fewer S r) (htk : r.taken ≤ S.stdin.size) (hsz : S.stdin.size ≤ 1000000000) (htp : ∀ p ∈ r.opn, p.taken ≤ p.source.size ∧ p.source.size ≤ 1000000000) :
    Calls Try.prog 32 #[.agg (s.cells S r), .int .u8 k, .string n, .int .i64 m] w (ReadPostR w S r s k n m) := by
  by_cases hp : rplace k n r.opn < 0
  · have he : rReadE S r k n m = 16 := if_pos (.inl hp)
    refine (readA h k n m hf _ rfl hp).mono fun x w' q => .inl ⟨by rw [he]; decide, ?_⟩
    rw [he]; exact q
  · have hp0 : 0 ≤ rplace k n r.opn := by omega
    by_cases hk : k = 1 ∨ k = 2
    · obtain ⟨i, hi⟩ : ∃ i : Nat, rplace k n r.opn = i := ⟨(rplace k n r.opn).toNat, by omega⟩
      obtain ⟨p, hpi, _, _⟩ := rplace_get hi
      obtain ⟨t1, t2⟩ := htp p (List.mem_of_getElem? hpi)
      have hbad : ¬ (rplace k n r.opn < 0 ∨ ¬ (k = 1 ∨ k = 2)) := fun e => e.elim hp fun e => e hk
      by_cases hm : m < 1
      · have he : rReadE S r k n m = 2 := by unfold rReadE; rw [if_neg hbad, if_pos hm]
        rcases hk with rfl | rfl
        · refine (readC1 h n m hf _ rfl hp0 hm).mono fun x w' q => .inl ⟨by rw [he]; decide, ?_⟩
          rw [he]; exact q
        · refine (readC2 h n m hf _ rfl hp0 hm).mono fun x w' q => .inl ⟨by rw [he]; decide, ?_⟩
          rw [he]; exact q
      · cases hx : (lookX 2 n S.fails).isSome with
        | true =>
          have he : rReadE S r k n m = 13 := by unfold rReadE; rw [if_neg hbad, if_neg hm, if_pos hx]
          rcases hk with rfl | rfl
          · refine (readD1 h n m hf _ rfl hp0 hm hx).mono fun x w' q => .inl ⟨by rw [he]; decide, ?_⟩
            rw [he]; exact q
          · refine (readD2 h n m hf _ rfl hp0 hm hx).mono fun x w' q => .inl ⟨by rw [he]; decide, ?_⟩
            rw [he]; exact q
        | false =>
          have he : rReadE S r k n m = 0 := by unfold rReadE; rw [if_neg hbad, if_neg hm, if_neg (by rw [hx]; decide)]
          by_cases hd : k = 1 ∧ n = dash
          · obtain ⟨rfl, hn⟩ := hd
            have el : rLeft S r 1 n p = S.stdin.extract r.taken S.stdin.size := if_pos ⟨rfl, hn⟩
            have er : rRead S r 1 n m i p = tookW r ((rLeft S r 1 n p).extract 0 (cutN m (rLeft S r 1 n p))) := if_pos ⟨rfl, hn⟩
            have hls := left_size S.stdin htk
            by_cases hle : m < ((S.stdin.size - r.taken : Nat) : Int)
            · refine (readE1 h n m hf _ rfl hp0 hm hx hn htk hsz hle).mono fun x w' q => .inr ⟨he, i, p, ?_⟩
              rw [er, el, cut_less hm (by rw [hls]; exact hle)]
              obtain ⟨s', q1, q2⟩ := q
              exact ⟨s', hi, hpi, q1, q2⟩
            · refine (readE2 h n m hf _ rfl hp0 hm hx hn htk hsz hle).mono fun x w' q => .inr ⟨he, i, p, ?_⟩
              rw [er, el, cut_more (by rw [hls]; exact hle)]
              obtain ⟨s', q1, q2⟩ := q
              exact ⟨s', hi, hpi, q1, q2⟩
          · have el : rLeft S r k n p = p.source.extract p.taken p.source.size := if_neg hd
            have er : rRead S r k n m i p = tookO r i p ((rLeft S r k n p).extract 0 (cutN m (rLeft S r k n p))) := if_neg hd
            have hls := left_size p.source t1
            by_cases hle : m < ((p.source.size - p.taken : Nat) : Int)
            · rcases hk with rfl | rfl
              · refine (readF1 h n m hf i p hpi hi hm hx (fun e => hd ⟨rfl, e⟩) t1 t2 hle).mono fun x w' q => .inr ⟨he, i, p, ?_⟩
                rw [er, el, cut_less hm (by rw [hls]; exact hle)]
                obtain ⟨s', q1, q2⟩ := q
                exact ⟨s', hi, hpi, q1, q2⟩
              · refine (readF2 h n m hf i p hpi hi hm hx t1 t2 hle).mono fun x w' q => .inr ⟨he, i, p, ?_⟩
                rw [er, el, cut_less hm (by rw [hls]; exact hle)]
                obtain ⟨s', q1, q2⟩ := q
                exact ⟨s', hi, hpi, q1, q2⟩
            · rcases hk with rfl | rfl
              · refine (readG1 h n m hf i p hpi hi hm hx (fun e => hd ⟨rfl, e⟩) t1 t2 hle).mono fun x w' q => .inr ⟨he, i, p, ?_⟩
                rw [er, el, cut_more (by rw [hls]; exact hle)]
                obtain ⟨s', q1, q2⟩ := q
                exact ⟨s', hi, hpi, q1, q2⟩
              · refine (readG2 h n m hf i p hpi hi hm hx t1 t2 hle).mono fun x w' q => .inr ⟨he, i, p, ?_⟩
                rw [er, el, cut_more (by rw [hls]; exact hle)]
                obtain ⟨s', q1, q2⟩ := q
                exact ⟨s', hi, hpi, q1, q2⟩
    · have he : rReadE S r k n m = 16 := if_pos (.inr hk)
      refine (readB h k n m hf _ rfl hp0 (fun e => hk (.inl e)) (fun e => hk (.inr e))).mono fun x w' q => .inl ⟨by rw [he]; decide, ?_⟩
      rw [he]; exact q
end
end Go.Proofs.Ythbkcdbmimhhkaa.Rw
