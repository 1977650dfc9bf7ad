/-
  The evaluator's append.
-/
import Derived.Test.YtmoglfooadcemaaEvJ
namespace Go.Ev
open Go.RowKit

variable {P : Program} {T : TE} [TOk P T] {vs vs1 : VS} {ρ : Operand → Value} {o : Oper} {n : VN} {N0 : Nat → Prop} {W0 W : World} {μ : Mu}

def keepFam (l : List (Nat × VB)) (id fam lim : Nat) : List (Nat × VB) :=
  match l with
  | [] => []
  | (i, b) :: r => bif Nat.beq b.fam fam && !(Nat.beq i id && Nat.ble b.cells.length lim) then keepFam r id fam lim else (i, b) :: keepFam r id fam lim
theorem keepFam_mem : ∀ {l : List (Nat × VB)} {id fam lim i : Nat} {b : VB}, (i, b) ∈ keepFam l id fam lim → (i, b) ∈ l ∧ (b.fam ≠ fam ∨ (i = id ∧ b.cells.length ≤ lim))
  | (j, c) :: l, id, fam, lim, i, b, h => by
    simp only [keepFam, Bool.cond_eq_ite] at h
    split at h
    · obtain ⟨h1, h2⟩ := keepFam_mem h
      exact ⟨List.mem_cons_of_mem _ h1, h2⟩
    · rename_i hc
      rcases List.mem_cons.1 h with e | h
      · cases e
        refine ⟨by simp, ?_⟩
        simp only [Bool.and_eq_true, Bool.not_eq_true', Bool.and_eq_false_iff, not_and, not_or] at hc
        by_cases hf : c.fam = fam
        · right
          have := hc (by rw [hf]; exact Nat.beq_refl _)
          simp only [Bool.not_eq_false, Nat.beq_eq, Nat.ble_eq] at this
          exact this
        · exact .inl hf
      · obtain ⟨h1, h2⟩ := keepFam_mem h
        exact ⟨List.mem_cons_of_mem _ h1, h2⟩

/- What is put behind a block's cells, in its own room. -/
theorem G.behind (h : G N0 W0 vs W μ) {a : Addr} {B : VB} (hf : find vs.heap a.block = some B) {l : Loc} (hl : μ a.block = some l) (hsp : a.spot = none) {old new : List Value} {ys : Array Value} {k sz need : Nat} (hrw : B.rw = true ∨ (B.tail = true ∧ a.off + k = B.cells.length))
    (hold : vread vs a k = some old) (hnew : RA μ new.toArray ys) (hone : ∀ v ∈ new, v.oneCell' = true) (hfit : l.off + a.off + need * sz ≤ l.off + l.len + l.extra * l.esz) (hneed : k + new.length = need * sz)
    {cap : Nat} (hcap : a.off + cap * sz = l.len) (hesz : l.esz = sz) (hle : need ≤ cap + l.extra) (hcn : cap ≤ need) :
    ∃ W1, (storeCells ((amap l a).add k) ys.toList).run P W = .ok () W1 ∧
      G N0 W0 (({ vs with heap := keepFam vs.heap a.block B.fam (a.off + k) } : VS).add ⟨old ++ new, B.elem, sz, B.fam, B.rw, true, false, B.tail⟩) W1 (μ.put vs.next ⟨l.blk, l.off + a.off, cap + l.extra - need, sz, need * sz⟩) := by
  have hmem := find_mem hf
  obtain ⟨l', c, z, hm, L⟩ := h.blocks _ _ hmem
  rw [hl] at hm; cases hm
  have hlenB := L.len
  have hN : ¬ N0 l.blk := hrw.elim (fun q => (L.own q).2) fun q => (L.tail q.1).2
  have hz : z.2 ≤ z.1 ∨ c.size ≤ z.1 ∨ z.2 ≤ l.off + a.off + k := hrw.elim (fun q => (L.own q).1.imp id .inl) fun q => .inr (.inr (by have := (L.tail q.1).1; omega))
  have hroom := L.room
  have hys : ys.size = new.length := by simpa using hnew.1.symm
  have hadd : (amap l a).add k = ⟨l.blk, l.off + a.off + k, none⟩ := by
    unfold Addr.add amap; split <;> simp_all
  have hfit2 : l.off + a.off + k + ys.toList.length ≤ c.size := by simp only [Array.length_toList, hys]; omega
  have hrun := run_storeCells_z (P := P) l.blk (l.off + a.off + k) B.elem z ys.toList c W L.at_ hz (by simpa using hfit2) (fun v hv => by
    obtain ⟨i, hi, he⟩ := List.mem_iff_getElem.1 hv
    have hi' : i < new.length := by simp at hi; omega
    have hR := hnew.2 i new[i] v (by simp) (by rw [← he]; simp)
    rw [hR.one]
    exact hone _ (by simp))
  rw [hadd]
  refine ⟨_, hrun, ?_⟩
  generalize hc1 : (c.toList.take (l.off + a.off + k) ++ ys.toList ++ c.toList.drop (l.off + a.off + k + ys.toList.length)).toArray = c1
  have hget : ∀ j, c1[j]? = if j < l.off + a.off + k then c[j]? else if j < l.off + a.off + k + ys.size then ys[j - (l.off + a.off + k)]? else c[j]? := fun j => by
    rw [← hc1, List.getElem?_toArray]
    have := splice_get (c := c.toList) (p := l.off + a.off + k) (ys := ys.toList) (by simpa using hfit2) j
    simpa using this
  have hsize : c1.size = c.size := by rw [← hc1]; simp at hfit2 ⊢; omega
  have hother : ∀ b, b ≠ l.blk → (W.setRow l.blk c1).heap[b]? = W.heap[b]? := fun b hb => setRow_other _ _ _ _ hb
  have hsame := setRow_heap W l.blk c c1 B.elem z L.at_
  have hG1 : G N0 W0 { vs with heap := keepFam vs.heap a.block B.fam (a.off + k) } (W.setRow l.blk c1) μ := by
    refine ⟨?_, by simpa using h.start, h.fresh, fun g m h0 => by simpa using h.globs g m h0, h.glo, ?_, ?_, h.objs.keep fun b o e hn => ?_⟩
    · exact h.below.trans ⟨rfl, rfl, rfl, by simp, fun b hb => hother b fun e => hN (e ▸ hb)⟩
    · intro id B' hin
      obtain ⟨hin', hcase⟩ := keepFam_mem hin
      obtain ⟨l', c', z', hm', L'⟩ := h.blocks _ _ hin'
      by_cases hb : l'.blk = l.blk
      · rcases hcase with hfam | ⟨rfl, hlim⟩
        · exact absurd hb (h.apart _ _ _ _ hin' hmem hfam _ _ hm' hl)
        · rw [hl] at hm'; cases hm'
          have e := L'.at_
          rw [L.at_] at e
          simp only [Option.some.injEq, Obj.cells.injEq] at e
          obtain ⟨rfl, e2, rfl⟩ := e
          refine ⟨l, c1, z, hl, ⟨by rw [hsame, e2], fun x => ⟨by rw [hsize]; exact (L'.own x).1, (L'.own x).2⟩, L'.len, L'.esz, by rw [hsize]; exact L'.room, L'.fixed, fun x => ⟨(L'.whole x).1, by rw [hsize]; exact (L'.whole x).2⟩, L'.tail, ?_⟩⟩
          intro i v hv
          obtain ⟨v', q1, q2⟩ := L'.cells i v hv
          have hi := (List.getElem?_eq_some_iff.1 hv).1
          refine ⟨v', ?_, q2⟩
          rw [hget, if_pos (by omega), q1]
      · exact ⟨l', c', z', hm', ⟨by rw [hother _ hb]; exact L'.at_, L'.own, L'.len, L'.esz, L'.room, L'.fixed, L'.whole, L'.tail, L'.cells⟩⟩
    · intro id B1 id' B2 h1 h2 hfam
      exact h.apart id B1 id' B2 (keepFam_mem h1).1 (keepFam_mem h2).1 hfam
    · by_cases hb : b = l.blk
      · rw [hb, L.at_] at e; cases e; cases hn
      · rw [hother _ hb]; exact e
  obtain ⟨ys0, r1, r2, r3, r4⟩ := h.read hold hl
  have hle' := Mu.put_le (h.fresh vs.next (Nat.le_refl _)) ⟨l.blk, l.off + a.off, cap + l.extra - need, sz, need * sz⟩
  have hmulc : cap * sz ≤ need * sz := Nat.mul_le_mul_right _ hcn
  refine hG1.add (c := c1) (z := z) ⟨hsame, fun x => ⟨by rw [hsize]; exact (L.own x).1, hN⟩, ?_, rfl, ?_, fun x => (by cases x), fun x => (by cases x), fun x => ⟨Nat.le_trans (L.tail x).1 (by show l.off + l.len ≤ l.off + a.off + need * sz; omega), hN⟩, ?_⟩ ?_
  · simp only [List.length_append]; omega
  · rw [hsize]
    show l.off + a.off + need * sz + (cap + l.extra - need) * sz ≤ c.size
    have e : need * sz + (cap + l.extra - need) * sz = cap * sz + l.extra * sz := by rw [← Nat.add_mul, ← Nat.add_mul]; congr 1; omega
    rw [hesz] at hroom
    omega
  · intro i v hv
    by_cases hi : i < old.length
    · rw [List.getElem?_append_left hi] at hv
      have hi0 : i < ys0.length := by omega
      have q := r3 i ys0[i] (by simp)
      have hs : (amap l a).add i = ⟨l.blk, l.off + a.off + i, none⟩ := by unfold Addr.add amap; split <;> simp_all
      rw [hs] at q
      simp only [World.cell?, L.at_] at q
      refine ⟨ys0[i], ?_, (r4.2 i v _ (by simpa using hv) (by simp)).mono hle'⟩
      show c1[l.off + a.off + i]? = _
      rw [hget, if_pos (by omega)]
      simpa using q
    · rw [List.getElem?_append_right (by omega)] at hv
      have hj : i - old.length < new.length := (List.getElem?_eq_some_iff.1 hv).1
      have hj' : i - old.length < ys.size := by omega
      refine ⟨ys[i - old.length], ?_, (hnew.2 (i - old.length) v _ (by simpa using hv) (by simp)).mono hle'⟩
      show c1[l.off + a.off + i]? = _
      rw [hget, if_neg (by omega), if_pos (by omega)]
      have : l.off + a.off + i - (l.off + a.off + k) = i - old.length := by omega
      rw [this]
      simp [hj']
  · intro id' B' hm' hfam l' hl'
    exact h.apart id' B' _ B (keepFam_mem hm').1 hmem hfam l' l hl' hl


theorem growBy_le (need : Nat) : ∀ r c, c ≤ need → Builtin.growBy need r c ≤ need + (need + 768) / 4
  | 0, c, h => by simp only [Builtin.growBy]; omega
  | r + 1, c, h => by
    simp only [Builtin.growBy]
    split
    · omega
    · by_cases h2 : c + (c + 768) / 4 ≤ need
      · exact growBy_le need r _ h2
      · have : Builtin.growBy need r (c + (c + 768) / 4) = c + (c + 768) / 4 := by
          cases r with
          | zero => rfl
          | succ r => simp only [Builtin.growBy]; rw [if_pos (by omega)]
        rw [this]; omega
theorem nextcap_le {need c : Nat} (h : c < need) : Builtin.nextslicecap need c ≤ 2 * need + 1000 := by
  unfold Builtin.nextslicecap
  split
  · omega
  · split
    · omega
    · have := growBy_le need 4 c (by omega)
      omega

theorem size_zeroCells (z : Array Value) (k : Nat) : (Builtin.zeroCells z k).size = k * z.size := by simp [Builtin.zeroCells]

def rowD : TypeDesc → Bool
  | .slice _ => true
  | .string => true
  | _ => false

/- append where a new row must be made. -/
theorem append_new {sT xT ty elem : TypeId} {d : TypeDesc} {i : TypeInfo} {z : Value} {base : Option Addr} {sLen sCap k : Nat} {x' : Value} {ys0 ys : Array Value} (hu : T.und sT = some (.slice elem)) (hx : T.und xT = some d) (hd : rowD d = true)
    (hi : T.inf elem = some i) (hz : i.zero = some z) (hl : (Builtin.lenOf x').run P W = .ok k W) (hbig : (2 * (sLen + k) + 1000) * i.bytes ≤ 2 ^ 40) (hsmall : sLen + k ≤ 2 ^ 40) (hc : ¬ sLen + k ≤ sCap)
    (hold : (Builtin.firstCells i.size sLen (.slice base sLen sCap)).run P W.drew = .ok ys0 W.drew) (hnew : (Builtin.firstCells i.size k x').run P W.drew = .ok ys W.drew) :
    ∃ cap, sLen + k ≤ cap ∧ (Builtin.append_ #[sT, xT] ty #[.slice base sLen sCap, x']).run P W =
      .ok (.slice (some ⟨W.heap.size, 0, none⟩) (sLen + k) cap) (W.drew.alloc (.cells (ys0 ++ ys ++ Builtin.zeroCells z.cells (cap - (sLen + k))) elem)) := by
  refine ⟨(Question.appendCap (sLen + k) sCap elem).cut (W.tape W.drawn (.appendCap (sLen + k) sCap elem)), by simp [Question.cut], ?_⟩
  have hforced : (Question.appendCap (sLen + k) sCap elem).forced = false := rfl
  have hn1 : ¬ (((sLen + k : Nat) : Int) > IntKind.i64.max ∧ ((false = true) ∨ i.bytes = 0)) := by
    have : IntKind.i64.max = 9223372036854775807 := by decide
    rw [this]; omega
  have hn2 : ¬ Builtin.nextslicecap (sLen + k) sCap * i.bytes > 2 ^ 48 := by
    have h1 := nextcap_le (need := sLen + k) (c := sCap) (by omega)
    have h2 : Builtin.nextslicecap (sLen + k) sCap * i.bytes ≤ (2 * (sLen + k) + 1000) * i.bytes := Nat.mul_le_mul_right _ h1
    omega
  have hm1 : ¬ ((9223372036854775807 : Int) < (sLen : Int) + k ∧ i.bytes = 0) := by omega
  have hn2' : ¬ 281474976710656 < Builtin.nextslicecap (sLen + k) sCap * i.bytes := by omega
  have hmax : IntKind.i64.max = 9223372036854775807 := by decide
  obtain ⟨e, rfl⟩ | rfl : (∃ e, d = .slice e) ∨ d = .string := by cases d <;> simp [rowD] at hd ⊢
  · simp [Builtin.append_, run_underlying (TOk.und (P := P) hu), run_underlying (TOk.und (P := P) hx), run_sizeOf' (TOk.inf (P := P) hi), hl, hc, run_typeInfo' (TOk.inf (P := P) hi), hm1, hn2', hforced, hold, hnew, run_zero' (TOk.inf (P := P) hi) hz, newRow, hmax]
  · simp [Builtin.append_, run_underlying (TOk.und (P := P) hu), run_underlying (TOk.und (P := P) hx), run_sizeOf' (TOk.inf (P := P) hi), hl, hc, run_typeInfo' (TOk.inf (P := P) hi), hm1, hn2', hforced, hold, hnew, run_zero' (TOk.inf (P := P) hi) hz, newRow, hmax]

/- append in a row's own room. -/
theorem append_in {sT xT ty elem : TypeId} {d : TypeDesc} {i : TypeInfo} {a : Addr} {sLen sCap k : Nat} {x' : Value} {ys : Array Value} {W1 : World} (hu : T.und sT = some (.slice elem)) (hx : T.und xT = some d) (hd : rowD d = true)
    (hi : T.inf elem = some i) (hl : (Builtin.lenOf x').run P W = .ok k W) (hc : sLen + k ≤ sCap) (hnew : (Builtin.firstCells i.size k x').run P W = .ok ys W) (hst : (storeCells (a.add (sLen * i.size)) ys.toList).run P W = .ok () W1) :
    (Builtin.append_ #[sT, xT] ty #[.slice (some a) sLen sCap, x']).run P W = .ok (.slice (some a) (sLen + k) sCap) W1 := by
  obtain ⟨e, rfl⟩ | rfl : (∃ e, d = .slice e) ∨ d = .string := by cases d <;> simp [rowD] at hd ⊢
  · simp [Builtin.append_, run_underlying (TOk.und (P := P) hu), run_underlying (TOk.und (P := P) hx), run_sizeOf' (TOk.inf (P := P) hi), hl, hc, hnew, hst]
  · simp [Builtin.append_, run_underlying (TOk.und (P := P) hu), run_underlying (TOk.und (P := P) hx), run_sizeOf' (TOk.inf (P := P) hi), hl, hc, hnew, hst]
theorem append_nil {sT xT ty elem : TypeId} {d : TypeDesc} {i : TypeInfo} {sLen sCap k : Nat} {x' : Value} {ys : Array Value} (hu : T.und sT = some (.slice elem)) (hx : T.und xT = some d) (hd : rowD d = true)
    (hi : T.inf elem = some i) (hl : (Builtin.lenOf x').run P W = .ok k W) (hc : sLen + k ≤ sCap) (hnew : (Builtin.firstCells i.size k x').run P W = .ok ys W) :
    (Builtin.append_ #[sT, xT] ty #[.slice none sLen sCap, x']).run P W = .ok (.slice none (sLen + k) sCap) W := by
  obtain ⟨e, rfl⟩ | rfl : (∃ e, d = .slice e) ∨ d = .string := by cases d <;> simp [rowD] at hd ⊢
  · simp [Builtin.append_, run_underlying (TOk.und (P := P) hu), run_underlying (TOk.und (P := P) hx), run_sizeOf' (TOk.inf (P := P) hi), hl, hc, hnew]
  · simp [Builtin.append_, run_underlying (TOk.und (P := P) hu), run_underlying (TOk.und (P := P) hx), run_sizeOf' (TOk.inf (P := P) hi), hl, hc, hnew]

def vappendG (T : TE) (vs : VS) (sT xT : TypeId) (s : Value) (k : Nat) (nf : Nat → Option (List Value)) : Option (VN × VS) :=
  match T.und sT, T.und xT, s with
  | some (.slice elem), some d, .slice base sLen sCap => match T.inf elem with
    | some i => match i.zero, nf i.size with
      | some z, some new =>
        bif rowD d then
          bif Nat.ble (sLen + k) sCap then
            match base, new with
            | none, _ => some (.value (.slice none (sLen + k) sCap), vs)
            | some a, [] => some (.value (.slice (some a) (sLen + k) sCap), vs)
            | some a, new => match vwrite vs (a.add (sLen * i.size)) new with
              | some vs1 => some (.value (.slice (some a) (sLen + k) sCap), vs1)
              | none => none
          else bif Nat.beq z.cells.size i.size && Nat.ble ((2 * (sLen + k) + 1000) * i.bytes) (2 ^ 40) && Nat.ble (sLen + k) (2 ^ 40) && Nat.beq new.length (k * i.size) && new.all Value.oneCell' then
            match base with
            | none => bif Nat.beq sLen 0 then some (.value (.slice (some ⟨vs.next, 0, none⟩) k k), vs.add ⟨new, elem, i.size, vs.next, true, true, false, true⟩) else none
            | some a => match find vs.heap a.block, vread vs a (sLen * i.size) with
              | some B, some old =>
                bif B.grow then
                  bif (B.rw || (B.tail && Nat.beq (a.off + sLen * i.size) B.cells.length)) && Nat.beq B.esz i.size && Nat.beq B.elem elem && a.spot.isNone then
                    some (.value (.slice (some ⟨vs.next, 0, none⟩) (sLen + k) (sLen + k)), ({ vs with heap := keepFam vs.heap a.block B.fam (a.off + sLen * i.size) } : VS).add ⟨old ++ new, elem, i.size, B.fam, B.rw, true, false, B.tail⟩)
                  else none
                else some (.value (.slice (some ⟨vs.next, 0, none⟩) (sLen + k) (sLen + k)), vs.add ⟨old ++ new, elem, i.size, vs.next, true, true, false, true⟩)
              | _, _ => none
          else none
        else none
      | _, _ => none
    | none => none
  | _, _, _ => none
def vappend (T : TE) (vs : VS) (sT xT : TypeId) (s x : Value) : Option (VN × VS) :=
  match vlenOf x with
  | some k => vappendG T vs sT xT s k fun sz => vfirst vs sz k x
  | none => none

theorem G.keep (h : G N0 W0 vs W μ) (id fam lim : Nat) : G N0 W0 { vs with heap := keepFam vs.heap id fam lim } W μ :=
  ⟨h.below, h.start, h.fresh, h.globs, h.glo, fun id B hm => h.blocks id B (keepFam_mem hm).1, fun id B id' B' h1 h2 => h.apart id B id' B' (keepFam_mem h1).1 (keepFam_mem h2).1, h.objs⟩

/- The new row, as the evaluator has it. -/
theorem G.newRow {rw tail : Bool} (h : G N0 W0 vs W μ) {old new : List Value} {ys0 ys : Array Value} {elem : TypeId} {sz fam need cap : Nat} {z : Array Value} (h0 : RA μ old.toArray ys0) (h1 : RA μ new.toArray ys) (hz : z.size = sz) (hlen : old.length + new.length = need * sz) :
    G N0 W0 (vs.add ⟨old ++ new, elem, sz, fam, rw, true, false, tail⟩) (W.alloc (.cells (ys0 ++ ys ++ Builtin.zeroCells z (cap - need)) elem)) (μ.put vs.next ⟨W.heap.size, 0, cap - need, sz, need * sz⟩) := by
  have hr := h0.append h1
  have := h.alloc (xs := old ++ new) (ys := ys0 ++ ys) (rest := Builtin.zeroCells z (cap - need)) (elem := elem) (esz := sz) (extra := cap - need) (fam := fam) (rw := rw) (grow := true) (whole := false) (tail := tail) (by simpa using hr) (by rw [size_zeroCells, hz]; exact Nat.le_refl _) (fun h => by cases h) (fun h => by cases h)
  have e : (old ++ new).length = need * sz := by simpa using hlen
  rw [e] at this
  exact this

theorem append_core (hG : G N0 W0 vs W μ) {vx vx' vy' : Value} (h1 : R μ vx vx') {t u ty : TypeId} {k : Nat} {nf : Nat → Option (List Value)} (h : vappendG T vs t u vx k nf = some (n, vs1)) (hlen : ∀ w, (Builtin.lenOf vy').run P w = .ok k w)
    (hfst : ∀ sz new, nf sz = some new → ∃ ys, RA μ new.toArray ys ∧ (Builtin.firstCells sz k vy').run P W = .ok ys W ∧ (Builtin.firstCells sz k vy').run P W.drew = .ok ys W.drew)
    {E : Sem Next} (hexec : ∀ v W1, (Builtin.append_ #[t, u] ty #[vx', vy']).run P W = .ok v W1 → E.run P W = .ok (.value v) W1) : ∃ μ1 W1 n', μ.le μ1 ∧ G N0 W0 vs1 W1 μ1 ∧ E.run P W = .ok n' W1 ∧ RN μ1 n n' := by
  unfold vappendG at h
  split at h
  case h_2 => cases h
  rename_i elem d base sLen sCap hu hud
  split at h
  case h_2 => cases h
  rename_i i hi
  split at h
  case h_2 => cases h
  rename_i z new hz hf
  simp only [Bool.cond_eq_ite] at h
  split at h
  case isFalse => cases h
  rename_i hd
  have hlen1 := hlen W.drew
  have hlen := hlen W
  obtain ⟨ys, r2, r1, r1d⟩ := hfst _ _ hf
  split at h
  · rename_i hfit
    have hfit := Nat.le_of_ble_eq_true hfit
    split at h
    · cases h
      cases h1
      exact ⟨μ, W, _, Mu.le_refl _, hG, hexec _ _ (append_nil (P := P) hu hud hd hi hlen hfit r1), .nilslice _ _⟩
    · rename_i a
      cases h
      obtain ⟨l, hm, hex, rfl⟩ := h1.inv_slice
      have hy0 : ys = #[] := by have := r2.1; simp at this; exact Array.eq_empty_of_size_eq_zero this.symm
      subst hy0
      exact ⟨μ, W, _, Mu.le_refl _, hG, hexec _ _ (append_in (P := P) hu hud hd hi hlen (Nat.le_trans hfit (Nat.le_add_right _ _)) r1 (by simp [storeCells])), .slice a l _ _ hm hex⟩
    · rename_i a _
      split at h
      case h_2 => cases h
      rename_i vs2 hw
      cases h
      obtain ⟨l, hm, hex, rfl⟩ := h1.inv_slice
      have hblk : (a.add (sLen * i.size)).block = a.block := by unfold Addr.add; split <;> rfl
      obtain ⟨W1, q1, q2⟩ := hG.write (P := P) hw (l := l) (by rw [hblk]; exact hm) (ys := ys.toList) (by simpa using r2)
      rw [← amap_add] at q1
      exact ⟨μ, W1, _, Mu.le_refl _, q2, hexec _ _ (append_in (P := P) hu hud hd hi hlen (Nat.le_trans hfit (Nat.le_add_right _ _)) r1 q1), .slice a l _ _ hm hex⟩
  · rename_i hnofit
    have hnofit : ¬ sLen + k ≤ sCap := fun e => hnofit (by rw [Nat.ble_eq]; exact e)
    split at h
    case isFalse => cases h
    rename_i hb
    simp only [Bool.and_eq_true, Nat.ble_eq, Nat.beq_eq, List.all_eq_true] at hb
    obtain ⟨⟨⟨⟨b1, b2⟩, b3⟩, b4⟩, b5⟩ := hb
    split at h
    · split at h
      case isFalse => cases h
      rename_i hs0
      have hs0 := Nat.eq_of_beq_eq_true hs0
      subst hs0
      cases h
      cases h1
      obtain ⟨cap, hcap, hr⟩ := append_new (P := P) (ty := ty) (W := W) (base := none) (ys0 := #[]) hu hud hd hi hz hlen b2 b3 hnofit (by simp [Builtin.firstCells]) r1d
      have hg := G.newRow (rw := true) (tail := true) (hG.drawn (W.drawn + 1)) (old := []) (elem := elem) (fam := vs.next) RA.empty r2 (z := z.cells) b1 (need := 0 + k) (cap := cap) (by simpa using b4)
      refine ⟨_, _, _, hG.le_put _, hg, hexec _ _ hr, ?_⟩
      have := R_newSlice (μ := μ) vs W.heap.size (cap - (0 + k)) i.size ((0 + k) * i.size) (0 + k) (.inr rfl) (0 + k)
      have e : 0 + k + (cap - (0 + k)) = cap := by omega
      rw [e] at this
      simpa [RN] using this
    · rename_i a
      obtain ⟨l, hm, hex, rfl⟩ := h1.inv_slice
      split at h
      case h_2 => cases h
      rename_i B old hfind hold
      obtain ⟨l', cc, zz, hm', L⟩ := hG.blocks _ _ (find_mem hfind)
      rw [hm] at hm'; cases hm'
      obtain ⟨ys0, p1, p2⟩ := (hG.drawn (W.drawn + 1)).run_load (P := P) hold hm
      obtain ⟨yy, t1, t2, t3, t4⟩ := hG.read hold hm
      have hfc : (Builtin.firstCells i.size sLen (.slice (some (amap l a)) sLen (sCap + l.extra))).run P W.drew = .ok ys0 W.drew := by
        simp only [Builtin.firstCells]; exact p1
      have hlen3 : old.length + new.length = (sLen + k) * i.size := by rw [t1, b4, Nat.add_mul]
      split at h
      · rename_i hgrow
        split at h
        case isFalse => cases h
        rename_i hb2
        simp only [Bool.and_eq_true, Bool.or_eq_true, Nat.beq_eq, Option.isNone_iff_eq_none] at hb2
        obtain ⟨⟨⟨g1, g2⟩, g3⟩, g4⟩ := hb2
        subst g3
        cases h
        by_cases hin : sLen + k ≤ sCap + l.extra
        · have hex0 : ¬ l.extra = 0 := by omega
          have hoff := hex.resolve_left hex0
          have hesz : l.esz = i.size := by rw [L.esz, g2]
          rw [hesz] at hoff
          have hmul : (sLen + k) * i.size ≤ (sCap + l.extra) * i.size := Nat.mul_le_mul_right _ hin
          have hmul2 : (sCap + l.extra) * i.size = sCap * i.size + l.extra * i.size := Nat.add_mul _ _ _
          obtain ⟨W1, q1, q2⟩ := hG.behind (P := P) (sz := i.size) (need := sLen + k) (cap := sCap) hfind hm g4 (k := sLen * i.size) (g1.imp id fun q => ⟨q.1, q.2⟩) hold r2 b5 (by rw [hesz]; omega) (by rw [Nat.add_mul, ← b4]) hoff hesz hin (by omega)
          refine ⟨_, W1, _, hG.le_put _, q2, hexec _ _ (append_in (P := P) hu hud hd hi hlen hin r1 q1), ?_⟩
          have := R.slice (μ := μ.put vs.next ⟨l.blk, l.off + a.off, sCap + l.extra - (sLen + k), i.size, (sLen + k) * i.size⟩) ⟨vs.next, 0, none⟩ _ (sLen + k) (sLen + k) (Mu.put_self _ _ _) (.inr (by simp))
          have e : sLen + k + (sCap + l.extra - (sLen + k)) = sCap + l.extra := by omega
          simpa [amap, RN, e, g4] using this
        · obtain ⟨cap, hcap, hr⟩ := append_new (P := P) (ty := ty) (W := W) hu hud hd hi hz hlen b2 b3 hin hfc r1d
          have hg := G.newRow (rw := B.rw) (tail := B.tail) ((hG.keep a.block B.fam (a.off + sLen * i.size)).drawn (W.drawn + 1)) (old := old) (elem := B.elem) (fam := B.fam) p2 r2 (z := z.cells) (cap := cap) b1 hlen3
          refine ⟨_, _, _, hG.le_put _, hg, hexec _ _ hr, ?_⟩
          have := R_newSlice (μ := μ) vs W.heap.size (cap - (sLen + k)) i.size ((sLen + k) * i.size) (sLen + k) (.inr rfl) (sLen + k)
          have e : sLen + k + (cap - (sLen + k)) = cap := by omega
          rw [e] at this
          exact this
      · rename_i hgrow
        have hex0 := L.fixed (by simpa using hgrow)
        cases h
        obtain ⟨cap, hcap, hr⟩ := append_new (P := P) (ty := ty) (W := W) hu hud hd hi hz hlen b2 b3 (by omega) hfc r1d
        have hg := G.newRow (rw := true) (tail := true) (hG.drawn (W.drawn + 1)) (old := old) (elem := elem) (fam := vs.next) p2 r2 (z := z.cells) (cap := cap) b1 hlen3
        refine ⟨_, _, _, hG.le_put _, hg, hexec _ _ hr, ?_⟩
        have := R_newSlice (μ := μ) vs W.heap.size (cap - (sLen + k)) i.size ((sLen + k) * i.size) (sLen + k) (.inr rfl) (sLen + k)
        have e : sLen + k + (cap - (sLen + k)) = cap := by omega
        rw [e] at this
        exact this

theorem sound_append {c : Call} {x y : Operand} {t u : TypeId} (ho : o.op = .call c) (hc : c.callee = .builtin .append) (ha : c.args = #[x, y]) (ht : c.argTypes = #[t, u]) (h : vappend T vs t u (ρ x) (ρ y) = some (n, vs1)) : SoundM P vs ρ o n vs1 := by
  intro N0 W0 W μ ρ' hG hρ
  have h1 := hρ x (by simp [ho, Op.operands, Call.operands, hc, ha])
  have h2 := hρ y (by simp [ho, Op.operands, Call.operands, hc, ha])
  unfold vappend at h
  split at h
  case h_2 => cases h
  rename_i k hl
  refine append_core (P := P) (ty := o.type) hG h1 h (fun w => lenOf_run (P := P) (W := w) hl h2) (fun sz new hf => ?_) (fun v W1 hr => by simp [execOp, ho, resolve, hc, ha, ht, invoke, builtin, hr])
  obtain ⟨ys, r1, r2⟩ := first_run (P := P) hG hf h2
  obtain ⟨ysd, r1d, r2d⟩ := first_run (P := P) (hG.drawn (W.drawn + 1)) hf h2
  have hysd : ysd = ys := r2d.fn r2
  subst hysd
  exact ⟨ysd, r2, r1, r1d⟩

end Go.Ev
