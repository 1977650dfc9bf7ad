/-
  Package lex: what a text says, what a pattern says; 'quoted'.
-/
import Derived.Test.YtefpkgdakihceaaDoorLxH
namespace Go.Proofs.YtefpkgdakihceaaDoor.Lx
open Go.RowKit

/- A builder of the call's own. -/
abbrev Bld (B b : Nat) (l : List UInt8) (w : World) : Prop := Lib.IsBuilder 60 5 B b (Lib.byteCells l) w
theorem writeString (B b : Nat) (l : List UInt8) (s : ByteArray) (w : World) (h : Bld B b l w) (hlen : l.length + s.size ≤ 140737488355328) (hBw : B ≤ w.heap.size) :
    Calls Tryd.prog 41 #[.pointer (some ⟨b, 0, none⟩), .string s] w fun e w' => e = .returned (.tuple #[.int .i64 s.size, .nilIface]) ∧ (Bld B b (l ++ s.data.toList) w' ∧ Below B w w') := by
  refine (Any.Builder_WriteString (P := Tryd.prog) (ρ := Tryd.lays154_ren) { Tryd.lays154 with } Tryd.Builder_Extra_154 B b _ s w h ?_ hBw).mono ?_
  · simpa [Lib.byteCells] using hlen
  · rintro e w' ⟨rfl, h1, h2⟩
    refine ⟨rfl, .inr ?_, h2⟩
    have e : Lib.byteCells (l ++ s.data.toList) = Lib.byteCells l ++ Lib.strCells s := by
      simp [Lib.byteCells, Lib.strCells]
    rw [e]
    exact h1
theorem grown_none {w w' : World} (hb : Below w.heap.size w w') : w.grownBy w' none := ⟨hb.os, hb.tape, hb.output, hb.size, fun k hk _ => hb.block k hk⟩
theorem at_below {B b : Nat} {p : Value} {cs : List Value} {w w' : World} (h : Lib.BuilderAt 60 5 B b p cs w) (hb : Below w.heap.size w w') : Lib.BuilderAt 60 5 B b p cs w' := by
  have hlt := h.lt
  obtain ⟨h1, v, h2, h3, h4⟩ := h
  refine ⟨h1, v, by rw [hb.block _ hlt]; exact h2, h3.kept (grown_none hb) ?_, h4⟩
  cases v.ownBlock
  · exact .inl rfl
  · exact .inr (by simp)
theorem Bld.below {B b : Nat} {l : List UInt8} {w w' : World} (h : Bld B b l w) (hb : Below w.heap.size w w') : Bld B b l w' := by
  rcases h with h | h
  · exact .inl (at_below h hb)
  · exact .inr (at_below h hb)
theorem Bld.new (w : World) : Bld w.heap.size w.heap.size [] (w.alloc (.cells #[.pointer none, .slice none 0 0] 60)) := by
  refine .inl ⟨Nat.le_refl _, .slice none 0 0, ?_, ?_, ?_⟩
  · show (w.heap.push _)[w.heap.size]? = _
    rw [Array.getElem?_push, if_pos rfl]
  · exact ⟨rfl, .inl ⟨rfl, rfl⟩⟩
  · simp [Value.ownBlock]

/- Plain: where a backslash stands first. -/
theorem cut_cases (l : List UInt8) : (∃ p r, l = p ++ 92 :: r ∧ (∀ c ∈ p, c ≠ 92) ∧ Lib.cut l [92] = (p, r, true)) ∨ ((∀ c ∈ l, c ≠ 92) ∧ Lib.cut l [92] = (l, [], false)) := by
  have hge := Lib.index_ge l [92]
  have h1 := Lib.index_one l 92
  by_cases h : Lib.index l [92] = -1
  · refine .inr ⟨?_, ?_⟩
    · intro c hc e
      obtain ⟨k, hk, rfl⟩ := List.mem_iff_getElem.1 hc
      have := Lib.indexByte_none (l := l) (c := 92) (by rw [← h1]; exact h) k
      rw [List.getElem?_eq_getElem hk, e] at this
      exact this rfl
    · unfold Lib.cut
      rw [if_neg (by omega)]
  · obtain ⟨i, hi⟩ : ∃ i : Nat, Lib.index l [92] = i := ⟨(Lib.index l [92]).toNat, by omega⟩
    obtain ⟨a1, a2⟩ := Lib.indexByte_some (l := l) (c := 92) (o := i) (by rw [← h1]; exact hi)
    obtain ⟨hlt, hget⟩ := List.getElem?_eq_some_iff.1 a1
    refine .inl ⟨l.take i, l.drop (i + 1), ?_, ?_, ?_⟩
    · conv => lhs; rw [← List.take_append_drop i l, List.drop_eq_getElem_cons hlt, hget]
    · intro c hc e
      obtain ⟨k, hk, rfl⟩ := List.mem_iff_getElem.1 hc
      rw [List.length_take] at hk
      apply a2 k (by omega)
      rw [List.getElem?_eq_getElem (by omega)]
      rw [List.getElem_take] at e
      rw [e]
    · unfold Lib.cut
      rw [if_pos (by omega), hi]
      rfl
theorem okL_plains (q : UInt8) : ∀ (p r : List UInt8), (∀ c ∈ p, c ≠ 92) → okL q (p ++ 92 :: r) = true → ∃ d r', r = d :: r' ∧ okL q r' = true
  | [], r, _, h => by
    cases r with
    | nil => simp [okL] at h
    | cons d r' => exact ⟨d, r', rfl, by simpa [okL] using h⟩
  | [c], r, hp, h => by
    have hc := hp c (by simp)
    refine okL_plains q [] r (by simp) ?_
    simp only [List.cons_append, List.nil_append, okL, if_neg hc, Bool.and_eq_true] at h
    exact h.2
  | c :: d :: p, r, hp, h => by
    have hc := hp c (by simp)
    refine okL_plains q (d :: p) r (fun x hx => hp x (List.mem_cons_of_mem _ hx)) ?_
    simp only [List.cons_append, okL, if_neg hc, Bool.and_eq_true] at h
    exact h.2
theorem okL_digits (q : UInt8) : ∀ (k : Nat) (r : List UInt8), okL q r = true → (∀ i (_ : i < k) (h : i < r.length), r[i] ≠ 92) → okL q (r.drop k) = true
  | 0, r, h, _ => by simpa using h
  | k + 1, [], h, _ => by simp [okL]
  | k + 1, [c], h, _ => by simp [okL]
  | k + 1, c :: d :: r, h, hn => by
    have hc : c ≠ 92 := by
      have := hn 0 (by omega) (by simp)
      simp only [List.getElem_cons_zero] at this
      exact this
    simp only [okL, if_neg hc, Bool.and_eq_true] at h
    exact okL_digits q k (d :: r) h.2 fun i hi hl => by
      have := hn (i + 1) (by omega) (by simpa using hl)
      simpa using this
theorem okL_mark (q : UInt8) (d : UInt8) (r' : List UInt8) (h : okL q r' = true) : okL q ((d :: r').drop (markN (d :: r'))) = true := by
  obtain ⟨k, hk⟩ : ∃ k, markN (d :: r') = k + 1 := ⟨markN (d :: r') - 1, by have := markN_pos (d :: r'); omega⟩
  rw [hk, List.drop_succ_cons]
  refine okL_digits q k r' h fun i hi hl => ?_
  have ho : i + 1 < octN 3 (d :: r') := by
    unfold markN at hk
    split at hk <;> omega
  have := octB_not (octN_get 3 (d :: r') (i + 1) ho)
  simp only [List.getElem_cons_succ] at this
  exact this.2.2.1
theorem markS_len (l : List UInt8) : (markS l).length ≤ 2 := by
  unfold markS
  split
  · unfold oneM
    split <;> simp
  · simp
theorem markN_le (d : UInt8) (r : List UInt8) : markN (d :: r) ≤ (d :: r).length := by
  have := octN_le 3 (d :: r)
  unfold markN
  split
  · simp
  · omega

/- Plain: \/ as a slash. -/
def repL : List UInt8 → List UInt8
  | [] => []
  | [c] => [c]
  | c :: d :: r => if c = 92 ∧ d = 47 then 47 :: repL r else c :: repL (d :: r)
theorem repL_pat : ∀ (l : List UInt8), okL 47 l = true → repL l = patL l
  | [], _ => rfl
  | [_], _ => rfl
  | c :: d :: r, h => by
    by_cases hc : c = 92
    · subst hc
      have hr : okL 47 r = true := by simpa [okL] using h
      have ih := repL_pat r hr
      by_cases hd : d = 47
      · simp only [repL, patL, hd, and_self, if_true, ih]
      · simp only [repL, patL, hd, and_false, if_false, if_true]
        congr 1
        cases r with
        | nil => simp [repL, patL]
        | cons x r =>
          have hx : ¬ (d = 92 ∧ x = 47) := by
            rintro ⟨rfl, rfl⟩
            cases r <;> simp [okL] at hr
          rw [repL, if_neg hx, ih]
    · have ih := repL_pat (d :: r) (by simp only [okL, if_neg hc, Bool.and_eq_true] at h; exact h.2)
      simp only [repL, patL, hc, false_and, if_false, ih]
theorem repL_skip : ∀ (i : Nat) (l : List UInt8), i ≤ l.length → Lib.NoOcc l [92, 47] i → repL l = l.take i ++ repL (l.drop i)
  | 0, l, _, _ => by simp
  | i + 1, [], h, _ => by simp at h
  | i + 1, [c], h, hn => by
    obtain rfl : i = 0 := by simpa using h
    simp [repL]
  | i + 1, c :: d :: r, h, hn => by
    have h0 := hn 0 (by omega)
    have hc : ¬ (c = 92 ∧ d = 47) := by
      rintro ⟨rfl, rfl⟩
      simp [Lib.occAt] at h0
    have ih := repL_skip i (d :: r) (by simpa using h) (fun j hj => by
      have := hn (j + 1) (by omega)
      simpa [Lib.occAt] using this)
    rw [repL, if_neg hc, ih]
    rfl
theorem replaceAll_rep (l : List UInt8) : Lib.replaceAll l [92, 47] [47] = repL l := by
  have main : ∀ (n : Nat) (l : List UInt8), l.length ≤ n → Lib.replaceK [92, 47] [47] (Lib.count l [92, 47]) l = repL l := by
    intro n
    induction n with
    | zero =>
      intro l hl
      obtain rfl : l = [] := List.eq_nil_of_length_eq_zero (by omega)
      rfl
    | succ n ih =>
      intro l hl
      rcases Lib.index_spec l [92, 47] with ⟨h1, h2⟩ | ⟨i, h1, h2, h3, h4⟩
      · rw [Lib.count_miss h1, Lib.replaceK]
        have := repL_skip l.length l (Nat.le_refl _) (fun j hj => h2 j (by omega))
        rw [this]
        simp [repL]
      · rw [Lib.count_hit (by simp) h1, Nat.add_comm, Lib.replaceK_hit _ _ _ _ _ h1]
        have hroom : i + 2 ≤ l.length := by
          unfold Lib.occAt at h3
          have := (List.isPrefixOf_iff_prefix.1 h3).length_le
          simp only [List.length_cons, List.length_nil, List.length_drop] at this
          omega
        rw [ih (l.drop (i + [92, 47].length)) (by simp only [List.length_drop, List.length_cons, List.length_nil]; omega), repL_skip i l h2 h4]
        unfold Lib.occAt at h3
        obtain ⟨t, ht⟩ := List.isPrefixOf_iff_prefix.1 h3
        have hd : l.drop (i + 2) = t := by
          have : l.drop (i + 2) = (l.drop i).drop 2 := by rw [List.drop_drop]
          rw [this, ← ht]
          rfl
        rw [← ht]
        show l.take i ++ [47] ++ repL (l.drop (i + 2)) = l.take i ++ repL (92 :: 47 :: t)
        rw [hd]
        simp [repL]
  have hne : (([92, 47] : List UInt8) == [47]) = false := by decide
  unfold Lib.replaceAll Lib.replace Lib.replaceNum
  rw [hne]
  simp only [Bool.false_eq_true, if_false]
  rw [if_pos (.inl (by decide))]
  exact main _ l (Nat.le_refl _)
theorem patternSays (s : ByteArray) (m : Int) (w0 w : World) (hL : Live m w0 w) (hok : okL 47 s.data.toList = true) (hs : s.size ≤ 65536) :
    Calls Tryd.prog 23 #[.string s] w fun e w' => e = .returned (.string (strL (saysQ 47 s.data.toList))) ∧ Live m w0 w' := by
  have hc := Lib.countB_mul_le ⟨#[92, 47]⟩ (by decide) s.size s (Nat.le_refl _)
  have hz : (⟨#[92, 47]⟩ : ByteArray).size = 2 := rfl
  have hz1 : (⟨#[47]⟩ : ByteArray).size = 1 := rfl
  have HR := Lib.hid (show (⟨(Lib.replaceAll s.data.toList (⟨#[92, 47]⟩ : ByteArray).data.toList (⟨#[47]⟩ : ByteArray).data.toList).toArray⟩ : ByteArray) = strL (saysQ 47 s.data.toList) by
    show (⟨(Lib.replaceAll s.data.toList [92, 47] [47]).toArray⟩ : ByteArray) = _
    rw [replaceAll_rep, repL_pat _ hok]
    rfl)
  have HL : Hid (s.size + Lib.countB s ⟨#[92, 47]⟩ * (⟨#[47]⟩ : ByteArray).size ≤ 140737488355328) := Lib.hid (by rw [hz1]; rw [hz] at hc; omega)
  clear hc hz hz1
  go_enter Tryd.func23, Tryd.ntmps23
  go_wp2_with (go_at_call 44; refine (Tryd.strings_ReplaceAll s ⟨#[92, 47]⟩ ⟨#[47]⟩ m _ (by omega) hL.hm (by decide) HL.out).mono ?_; rintro e w' ⟨rfl, hb⟩; rw [HR.out])
  go_ret
  exact ⟨rfl, hL.step hb⟩

/- The builder's round. -/
structure TS (m : Int) (w0 w wr : World) (acc : List UInt8) : Prop where
  live : Live m w0 wr
  le : w0.heap.size ≤ w.heap.size
  b : Below w.heap.size w wr
  bld : Bld w.heap.size w.heap.size acc wr
theorem TS.step {m : Int} {w0 w wr w' : World} {acc : List UInt8} (h : TS m w0 w wr acc) (hb : Below wr.heap.size wr w') : TS m w0 w w' acc :=
  ⟨h.live.step hb, h.le, h.b.trans (hb.mono h.b.size), h.bld.below hb⟩
theorem TS.wrote {m : Int} {w0 w wr w' : World} {acc acc' : List UInt8} (h : TS m w0 w wr acc) (hb : Below w.heap.size wr w') (hl : Bld w.heap.size w.heap.size acc' w') : TS m w0 w w' acc' :=
  ⟨⟨h.live.b.trans (hb.mono h.le), h.live.z, h.live.m⟩, h.le, h.b.trans hb, hl⟩
theorem TS.write {m : Int} {w0 w wr : World} {acc : List UInt8} (h : TS m w0 w wr acc) (l : List UInt8) (hlen : acc.length + l.length ≤ 1000000) :
    Calls Tryd.prog 41 #[.pointer (some ⟨w.heap.size, 0, none⟩), .string (strL l)] wr fun e w' => (∃ n : Int, e = .returned (.tuple #[.int .i64 n, .nilIface])) ∧ TS m w0 w w' (acc ++ l) := by
  refine (writeString _ _ acc (strL l) wr h.bld ?_ h.b.size).mono ?_
  · have : (strL l).size = l.length := by simp [strL, ByteArray.size]
    omega
  · rintro e w' ⟨rfl, h1, h2⟩
    exact ⟨⟨_, rfl⟩, h.wrote h2 h1⟩
theorem cut_yes (t : ByteArray) (p r : List UInt8) (h3 : Lib.cut t.data.toList [92] = (p, r, true)) (m : Int) (w : World) (hs : t.size ≤ 65536) (hm : w.cell? ⟨0, 0, none⟩ = some (.int .i64 m)) :
    Calls Tryd.prog 40 #[.string t, .string ⟨#[92]⟩] w fun e w' => e = .returned (.tuple #[.string (strL p), .string (strL r), .bool true]) ∧ Below w.heap.size w w' := by
  refine (Tryd.strings_Cut t ⟨#[92]⟩ m w (by omega) hm).mono ?_
  rintro e w' ⟨rfl, n, rfl⟩
  have e2 : (⟨#[92]⟩ : ByteArray).data.toList = [92] := rfl
  rw [e2, h3]
  exact ⟨rfl, below_drewN (Below.refl _ _) n⟩
theorem cut_no (t : ByteArray) (h3 : Lib.cut t.data.toList [92] = (t.data.toList, [], false)) (m : Int) (w : World) (hs : t.size ≤ 65536) (hm : w.cell? ⟨0, 0, none⟩ = some (.int .i64 m)) :
    Calls Tryd.prog 40 #[.string t, .string ⟨#[92]⟩] w fun e w' => e = .returned (.tuple #[.string (strL t.data.toList), .string (strL []), .bool false]) ∧ Below w.heap.size w w' := by
  refine (Tryd.strings_Cut t ⟨#[92]⟩ m w (by omega) hm).mono ?_
  rintro e w' ⟨rfl, n, rfl⟩
  have e2 : (⟨#[92]⟩ : ByteArray).data.toList = [92] := rfl
  rw [e2, h3]
  exact ⟨rfl, below_drewN (Below.refl _ _) n⟩
theorem TS.marked {m : Int} {w0 w wr : World} {acc : List UInt8} (h : TS m w0 w wr acc) (l : List UInt8) (h0 : l ≠ []) (hs : l.length ≤ 65536) :
    Calls Tryd.prog 43 #[.string (strL l)] wr fun e w' => e = .returned (.tuple #[.string (strL (markS l)), .int .i64 (markN l)]) ∧ TS m w0 w w' acc := by
  have hz : (strL l).size = l.length := by simp [strL, ByteArray.size]
  have h1 : 0 < l.length := List.length_pos_iff.2 h0
  refine (mark (strL l) m wr wr (Live.refl (by have := h.live.b.size; have := h.live.z; omega) h.live.hm) (by omega) (by omega)).mono ?_
  rintro e w' ⟨rfl, h2⟩
  exact ⟨rfl, h.step h2.b⟩
theorem TS.string {m : Int} {w0 w wr : World} {acc : List UInt8} (h : TS m w0 w wr acc) :
    Calls Tryd.prog 42 #[.pointer (some ⟨w.heap.size, 0, none⟩)] wr fun e w' => e = .returned (.string (strL acc)) ∧ Live m w0 w' := by
  refine (Tryd.Builder_String_any _ _ acc wr h.bld h.b.size).mono ?_
  rintro e w' ⟨rfl, h1⟩
  exact ⟨rfl, h.live.b.trans (h1.mono h.le), h.live.z, h.live.m⟩

set_option maxHeartbeats 3200000 in
theorem textSays (s : ByteArray) (m : Int) (w0 w : World) (hL : Live m w0 w) (hok : okL 34 s.data.toList = true) (hs : s.size ≤ 65536) :
    Calls Tryd.prog 22 #[.string s] w fun e w' => e = .returned (.string (strL (saysL s.data.toList))) ∧ Live m w0 w' := by
  have HK := Lib.hid hok
  clear hok
  go_enter Tryd.func22, Tryd.ntmps22
  go_wp2_with fail
  go_loopw [0] (fun v wr => ∃ (t : ByteArray) (acc : List UInt8), v = .string t ∧ TS m w0 w wr acc ∧ acc ++ saysL t.data.toList = saysL s.data.toList ∧ okL 34 t.data.toList = true ∧ acc.length + 2 * t.size ≤ 2 * s.size) (fun v _ => match v with | .string t => t.size | _ => 0)
  case atStart => exact ⟨s, [], rfl, ⟨hL.step ((Below.refl _ _).alloc (Nat.le_refl _) _), hL.b.size, (Below.refl _ _).alloc (Nat.le_refl _) _, Bld.new w⟩, rfl, HK.out, by simp⟩
  case round =>
    obtain ⟨t, acc, rfl, hT, hsay, hok, hlen⟩ := hrel
    have HS := Lib.hid hsay
    have hzt := Lib.size_eq t
    clear hsay
    rcases cut_cases t.data.toList with ⟨p, r, h1, h2, h3⟩ | ⟨h2, h3⟩
    · rw [h1] at hok
      obtain ⟨d, r', rfl, hok'⟩ := okL_plains 34 p r h2 hok
      have HSay := Lib.hid (show saysL t.data.toList = p ++ (markS (d :: r') ++ saysL ((d :: r').drop (markN (d :: r')))) by rw [h1, saysL_plains p _ h2, saysL_mark])
      have HOK := Lib.hid (okL_mark 34 d r' hok')
      have HC := Lib.hid h3
      have hml := markS_len (d :: r')
      have hmn := markN_pos (d :: r')
      have hmn2 := markN_le d r'
      have hlt : p.length + 1 + (r'.length + 1) = t.size := by rw [hzt, h1]; simp; omega
      have HX := Lib.hid (ext_list (strL (d :: r')) (markN (d :: r')))
      have HXZ := Lib.hid (show (strL (d :: r')).size = r'.length + 1 by simp [strL, ByteArray.size])
      generalize hl : d :: r' = l at *
      have hll : l.length = r'.length + 1 := by rw [← hl]; simp
      have hne : l ≠ [] := by rw [← hl]; simp
      generalize hk : markN l = k at *
      have HKK := Lib.hid hk
      clear h1 h2 h3 hok hok' hl hk hzt
      go_wp2_with (first
        | (go_at_call 40; (with_reducible refine (cut_yes t p l HC.out m _ (by omega) hT.live.hm).mono ?_); rintro e w' ⟨rfl, hb⟩; have hT1 := hT.step hb; clear hb hT)
        | (go_at_call 43; (with_reducible refine (hT2.marked l hne (by omega)).mono ?_); rintro e w' ⟨rfl, hT3⟩; rw [HKK.out]; clear hT2)
        | (go_at_call 41; (with_reducible refine (hT1.write p (by omega)).mono ?_); rintro e w' ⟨⟨n1, rfl⟩, hT2⟩; clear hT1)
        | (go_at_call 41; (with_reducible refine (hT3.write (markS l) (by simp only [List.length_append]; omega)).mono ?_); rintro e w' ⟨⟨n1, rfl⟩, hT4⟩; clear hT3))
      go_roundw
      case rel =>
        refine ⟨_, _, rfl, hT4, ?_, ?_, ?_⟩
        · rw [HX.out]
          show acc ++ p ++ markS l ++ saysL (l.drop k) = _
          rw [← HS.out, HSay.out]
          simp
        · rw [HX.out]
          exact HOK.out
        · have h1 := HXZ.out
          rw [ByteArray.size_extract]
          simp only [List.length_append]
          omega
      case measure =>
        have h1 := HXZ.out
        show ((strL l).extract k (strL l).size).size < t.size
        rw [ByteArray.size_extract]
        omega
    · have HC := Lib.hid h3
      have HSay := Lib.hid (show saysL t.data.toList = t.data.toList by have := saysL_plains t.data.toList [] h2; rw [List.append_nil, saysL_nil, List.append_nil] at this; exact this)
      clear h2 h3
      go_wp2_with (first
        | (go_at_call 40; (with_reducible refine (cut_no t HC.out m _ (by omega) hT.live.hm).mono ?_); rintro e w' ⟨rfl, hb⟩; have hT1 := hT.step hb; clear hb hT)
        | (go_at_call 41; (with_reducible refine (hT1.write t.data.toList (by omega)).mono ?_); rintro e w' ⟨⟨n1, rfl⟩, hT2⟩; clear hT1)
        | (go_at_call 42; (with_reducible refine (hT2.string).mono ?_); rintro e w' ⟨rfl, hL3⟩; clear hT2))
      go_ret
      exact ⟨ret_str (by rw [← HS.out, HSay.out]), by assumption⟩

/- A text or a pattern. -/
theorem ret_tok {k : IntKind} {a b : Int} {c d : ByteArray} {k' : IntKind} {x y : Int} (h : a = b) (h2 : c = d) (h3 : x = y) : Ending.returned (.tuple #[.int k a, .string c, .int k' x]) = .returned (.tuple #[.int k b, .string d, .int k' y]) := by rw [h, h2, h3]
end Go.Proofs.YtefpkgdakihceaaDoor.Lx
