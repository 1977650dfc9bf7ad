/-
  Package world: what turns in a world: its streams, its trace, a file, what is handed in, what a stream has left.
-/
import Derived.Test.YthbkcdbmimhhkaaWa
import Derived.LaidEqlPtr
namespace Go.Proofs.Ythbkcdbmimhhkaa.Wo
open Go.RowKit Go.Maps

theorem ne_part {T : Tags} {a b : Nat} {x y : Part} (ha : T a = x) (hb : T b = y) (h : x ≠ y) : a ≠ b := fun e => h (by rw [← ha, ← hb, e])

def tagAt (T : Tags) (o : Option Nat) (x : Part) : Tags := fun k => if o = some k then x else T k
theorem tagAt_other {T : Tags} {o : Option Nat} {x : Part} {k : Nat} (h : o ≠ some k) : tagAt T o x k = T k := if_neg h
theorem tagAt_same {T : Tags} {k : Nat} {x : Part} : tagAt T (some k) x k = x := if_pos rfl
/- The tagged block is of that part already, or is new. -/
theorem tagAt_old {T : Tags} {o : Option Nat} {x : Part} {H : Nat} (hT : ∀ k, T k ≠ .no → k < H) (h : ∀ k, o = some k → T k = x ∨ H ≤ k) : (∀ k, T k ≠ .no → tagAt T o x k = T k) ∧ ∀ k, k < H → tagAt T o x k = T k ∨ (T k = .no ∧ False) := by
  refine ⟨fun k hk => ?_, fun k hk => .inl ?_⟩
  · by_cases e : o = some k
    · subst e
      rw [tagAt_same]
      rcases h k rfl with h1 | h1
      · exact h1.symm
      · have := hT k hk; omega
    · exact tagAt_other e
  · by_cases e : o = some k
    · subst e
      rw [tagAt_same]
      rcases h k rfl with h1 | h1
      · exact h1.symm
      · omega
    · exact tagAt_other e

theorem blk_set {w : World} {B : Nat} {cs : Array Value} {t : TypeId} (h : w.heap[B]? = some (.cells cs t)) (i : Nat) (v : Value) : (w.setCell ⟨B, i, none⟩ v).heap[B]? = some (.cells (cs.setIfInBounds i v) t) := by
  simp [World.setCell, Array.getElem?_modify, h]

theorem MapIs.isMap {w : World} {mb N : Nat} {D : DataW Unit} (h : MapIs w mb N D) : IsMap D := by
  obtain ⟨es, clock, _, _, _, rfl⟩ := h
  exact ⟨_, rfl⟩
theorem kl_key (s : ByteArray) : WideAt.IsKeyLit (kl s) := by
  unfold WideAt.IsKeyLit kl
  first | trivial | exact ⟨_, rfl⟩ | simp

structure WdZ (sv : Value) (Z : Part → Prop) (w : World) (B fm rm xm : Nat) (D : DataW Unit) (vs vt : Value) (ps : List Value) (T : Tags) (st : St) : Prop where
  blk : ¬ Z .self → w.heap[B]? = some (.cells #[sv, .map (some fm), .string st.stdin, .map (some rm), .map (some xm), .int .i64 st.most, .int .i64 st.clock, .int .u64 st.chance, vs, vt] 86)
  tB : T B = .self
  tf : T fm = .files
  tr : T rm = .replies
  tx : T xm = .fails
  map : ¬ Z .files → MapIs w fm st.made D
  file : ∀ n, Small n → ¬ Z (.bld n) → ¬ Z (.buf n) → FileIs w T D n (st.file n)
  replies : ¬ Z .replies → Replies w rm st.reply
  fails : ¬ Z .fails → Fails w xm st.fails
  slen : ps.length = st.streams.length
  srow : ¬ Z .streams → w.ownsRow 0 113 3 vs st.streams.length (flatS st.streams ps)
  stag : ∀ k, vs.ownBlock = some k → T k = .streams
  src : ∀ (i : Nat) s p, st.streams[i]? = some s → ps[i]? = some p → ¬ Z (.left s.kind s.name) → SrcAt w B T s p
  kinds : ∀ s ∈ st.streams, 1 ≤ s.kind ∧ s.kind ≤ 5 ∧ Small s.name
  uniq : Uniq st.streams
  trow : ¬ Z .trace → w.ownsRow 0 67 5 vt st.trace.length (flatE st.trace)
  ttag : ∀ k, vt.ownBlock = some k → T k = .trace
  lt : ∀ k, T k ≠ .no → k < w.heap.size

section
variable {sv : Value} {w : World} {B fm rm xm : Nat} {D : DataW Unit} {vs vt : Value} {ps : List Value} {T : Tags} {st : St}

theorem WdAtS.frame (h : WdAtS sv w B fm rm xm D vs vt ps T st) (Z : Part → Prop) {w' : World} {T' : Tags} (hb : ∀ k, T k ≠ .no → ¬ Z (T k) → w'.heap[k]? = w.heap[k]?) (hT : ∀ k, T k ≠ .no → T' k = T k) (hl : ∀ k, T' k ≠ .no → k < w'.heap.size) :
    WdZ sv Z w' B fm rm xm D vs vt ps T' st := by
  have h2 : WdAtS sv w B fm rm xm D vs vt ps (fun k => T k) st := h
  exact {
    blk := fun hz => (hb B (by rw [h.tB]; simp) (by rw [h.tB]; exact hz)).trans h.blk
    tB := (hT B (by rw [h.tB]; simp)).trans h.tB
    tf := (hT fm (by rw [h.tf]; simp)).trans h.tf
    tr := (hT rm (by rw [h.tr]; simp)).trans h.tr
    tx := (hT xm (by rw [h.tx]; simp)).trans h.tx
    map := fun hz => h.files.map.of_block (hb fm (by rw [h.tf]; simp) (by rw [h.tf]; exact hz))
    file := fun n hn h1 h2 => by
      have q := h.files.each n hn
      cases ho : st.file n with
      | none => rw [ho] at q; exact q
      | some l =>
        rw [ho] at q
        obtain ⟨b, buf, q1, q2, q3, q4⟩ := q
        refine ⟨b, buf, q1, q2.later (hb b (by rw [q3]; simp) (by rw [q3]; exact h1)) fun k hk => hb k (by rw [q4 k hk]; simp) (by rw [q4 k hk]; exact h2), (hT b (by rw [q3]; simp)).trans q3, fun k hk => (hT k (by rw [q4 k hk]; simp)).trans (q4 k hk)⟩
    replies := fun hz => h.replies.of_block (hb rm (by rw [h.tr]; simp) (by rw [h.tr]; exact hz))
    fails := fun hz => h.fails.of_block (hb xm (by rw [h.tx]; simp) (by rw [h.tx]; exact hz))
    slen := h.streams.len
    srow := fun hz => row_of_block h.streams.row fun k hk => hb k (by rw [h.streams.tag k hk]; simp) (by rw [h.streams.tag k hk]; exact hz)
    stag := fun k hk => (hT k (by rw [h.streams.tag k hk]; simp)).trans (h.streams.tag k hk)
    src := fun i s p h1 h2 hz => by
      have q := h.streams.each i s p h1 h2
      unfold SrcAt at q ⊢
      cases hs : s.src with
      | none => rw [hs] at q; exact q
      | stdin => rw [hs] at q; exact q
      | own t =>
        rw [hs] at q
        obtain ⟨b, q1, q2, q3⟩ := q
        exact ⟨b, q1, (hb b (by rw [q3]; simp) (by rw [q3]; exact hz)).trans q2, (hT b (by rw [q3]; simp)).trans q3⟩
    kinds := h.streams.kinds
    uniq := h.streams.uniq
    trow := fun hz => row_of_block h.trace.row fun k hk => hb k (by rw [h.trace.tag k hk]; simp) (by rw [h.trace.tag k hk]; exact hz)
    ttag := fun k hk => (hT k (by rw [h.trace.tag k hk]; simp)).trans (h.trace.tag k hk)
    lt := hl }

theorem hT_of {H : Nat} {T' : Tags} (hT : ∀ k, T k ≠ .no → k < H) (h : ∀ k, k < H → T' k = T k) : ∀ k, T k ≠ .no → T' k = T k := fun k hk => h k (hT k hk)

/- An event more. -/
theorem WdAtS.noted (h : WdAtS sv w B fm rm xm D vs vt ps T st) {w1 : World} {v' : Value} (e : Ev) (hg : w.grownBy w1 vt.ownBlock) (hr : w1.ownsRow 0 67 5 v' (st.trace.length + 1) (flatE st.trace ++ e.cells)) (hat : ∀ k, v'.ownBlock = some k → vt.ownBlock = some k ∨ w.heap.size ≤ k) :
    ∃ T', WdAtS sv (w1.setCell ⟨B, 9, none⟩ v') B fm rm xm D vs v' ps T' { st with trace := st.trace ++ [e] } ∧ (∀ k, k < w.heap.size → T' k = T k) ∧ Turn (fun k => T k ≠ .no) w (w1.setCell ⟨B, 9, none⟩ v') := by
  have hBn : T B ≠ .no := by rw [h.tB]; simp
  have hBl := h.lt B hBn
  have hBt : some B ≠ vt.ownBlock := fun e => by have := h.trace.tag B e.symm; rw [h.tB] at this; cases this
  have hvB : v'.ownBlock ≠ some B := fun e => by
    rcases hat B e with h1 | h1
    · exact hBt h1.symm
    · omega
  have ho := tagAt_old (o := v'.ownBlock) (x := .trace) h.lt fun k hk => (hat k hk).imp (h.trace.tag k) id
  have hx : ∀ k, k < w.heap.size → tagAt T v'.ownBlock .trace k = T k := fun k hk => (ho.2 k hk).elim id fun h => h.2.elim
  have f := h.frame (fun p => p = .self ∨ p = .trace) (w' := w1.setCell ⟨B, 9, none⟩ v') (T' := tagAt T v'.ownBlock .trace) (fun k h0 hz => by
    rw [heap_set _ _ _ (fun e => hz (.inl (by rw [e]; exact h.tB)))]
    exact hg.block k (h.lt k h0) fun e => hz (.inr (h.trace.tag k e.symm))) ho.1 (fun k hk => by
    rw [size_set]
    by_cases e : v'.ownBlock = some k
    · exact (hr.lt k e).2
    · rw [tagAt_other e] at hk
      exact Nat.lt_of_lt_of_le (h.lt k hk) hg.size)
  refine ⟨tagAt T v'.ownBlock .trace, ⟨?_, f.tB, f.tf, f.tr, f.tx, ⟨f.map (by simp), fun n hn => f.file n hn (by simp) (by simp)⟩, f.replies (by simp), f.fails (by simp), ⟨f.slen, f.srow (by simp), f.stag, fun i s p h1 h2 => f.src i s p h1 h2 (by simp), f.kinds, f.uniq⟩, ⟨?_, fun k hk => by rw [hk]; exact tagAt_same⟩, f.lt⟩, hx, ?_⟩
  · rw [blk_set ((hg.block B hBl hBt).trans h.blk)]
    rfl
  · have hlen : (flatE st.trace ++ e.cells) = flatE (st.trace ++ [e]) := by simp [flatE]
    rw [← hlen, List.length_append]
    exact row_of_block hr fun k hk => heap_set _ _ _ fun e => hvB (by rw [hk, e])
  · exact (Turn.of_grown hg).mono (fun k hk => by rw [h.trace.tag k hk.symm]; simp) |>.trans (Turn.of_set _ _ _) fun k hk => .inl (by rw [hk]; exact hBn)

/- Other streams. -/
theorem WdAtS.streamed (h : WdAtS sv w B fm rm xm D vs vt ps T st) {w1 : World} {v' : Value} {l : List Strm} {ps' : List Value} (hg : w.grownBy w1 vs.ownBlock) (hlen : ps'.length = l.length) (hr : w1.ownsRow 0 113 3 v' l.length (flatS l ps')) (hat : ∀ k, v'.ownBlock = some k → vs.ownBlock = some k ∨ w.heap.size ≤ k)
    (hsrc : ∀ (i : Nat) s p, l[i]? = some s → ps'[i]? = some p → SrcAt w B T s p) (hk : ∀ s ∈ l, 1 ≤ s.kind ∧ s.kind ≤ 5 ∧ Small s.name) (hu : Uniq l) :
    ∃ T', WdAtS sv (w1.setCell ⟨B, 8, none⟩ v') B fm rm xm D v' vt ps' T' { st with streams := l } ∧ (∀ k, k < w.heap.size → T' k = T k) ∧ Turn (fun k => T k ≠ .no) w (w1.setCell ⟨B, 8, none⟩ v') := by
  have hBn : T B ≠ .no := by rw [h.tB]; simp
  have hBl := h.lt B hBn
  have hBt : some B ≠ vs.ownBlock := fun e => by have := h.streams.tag B e.symm; rw [h.tB] at this; cases this
  have hvB : v'.ownBlock ≠ some B := fun e => by
    rcases hat B e with h1 | h1
    · exact hBt h1.symm
    · omega
  have ho := tagAt_old (o := v'.ownBlock) (x := .streams) h.lt fun k hk => (hat k hk).imp (h.streams.tag k) id
  have hx : ∀ k, k < w.heap.size → tagAt T v'.ownBlock .streams k = T k := fun k hk => (ho.2 k hk).elim id fun h => h.2.elim
  have hblk : ∀ k, T k ≠ .no → ¬ (T k = .self ∨ T k = .streams) → (w1.setCell ⟨B, 8, none⟩ v').heap[k]? = w.heap[k]? := fun k h0 hz => by
    rw [heap_set _ _ _ (fun e => hz (.inl (by rw [e]; exact h.tB)))]
    exact hg.block k (h.lt k h0) fun e => hz (.inr (h.streams.tag k e.symm))
  have f := h.frame (fun p => p = .self ∨ p = .streams) (w' := w1.setCell ⟨B, 8, none⟩ v') (T' := tagAt T v'.ownBlock .streams) hblk ho.1 (fun k hk => by
    rw [size_set]
    by_cases e : v'.ownBlock = some k
    · exact (hr.lt k e).2
    · rw [tagAt_other e] at hk
      exact Nat.lt_of_lt_of_le (h.lt k hk) hg.size)
  refine ⟨tagAt T v'.ownBlock .streams, ⟨?_, f.tB, f.tf, f.tr, f.tx, ⟨f.map (by simp), fun n hn => f.file n hn (by simp) (by simp)⟩, f.replies (by simp), f.fails (by simp), ⟨hlen, ?_, fun k hk => by rw [hk]; exact tagAt_same, fun i s p h1 h2 => ?_, hk, hu⟩, ⟨f.trow (by simp), f.ttag⟩, f.lt⟩, hx, ?_⟩
  · rw [blk_set ((hg.block B hBl hBt).trans h.blk)]
    rfl
  · exact row_of_block hr fun k hk => heap_set _ _ _ fun e => hvB (by rw [hk, e])
  · exact ((hsrc i s p h1 h2).retag hx).later fun k hk => by
      by_cases e : v'.ownBlock = some k
      · rw [e, tagAt_same] at hk; cases hk
      · rw [tagAt_other e] at hk
        exact hblk k (by rw [hk]; simp) (by rw [hk]; simp)
  · exact (Turn.of_grown hg).mono (fun k hk => by rw [h.streams.tag k hk.symm]; simp) |>.trans (Turn.of_set _ _ _) fun k hk => .inl (by rw [hk]; exact hBn)

def setF (f : ByteArray → Option (List UInt8)) (n : ByteArray) (l : List UInt8) : ByteArray → Option (List UInt8) := fun m => if m = n then some l else f m

/- A file's bytes. -/
theorem WdAtS.wrote (h : WdAtS sv w B fm rm xm D vs vt ps T st) {n : ByteArray} {b : Nat} {buf buf' : Option Nat} {l l' : List UInt8} (hn : Small n) (hd : D.atKey (kl n) nilD = ptrD b) (hb : Bd w b buf l) (tb : T b = .bld n) (tg : ∀ k, buf = some k → T k = .buf n)
    {w' : World} (ht : Turn (fun k => k = b ∨ some k = buf) w w') (hb' : Bd w' b buf' l') (hat : ∀ k, buf' = some k → buf = some k ∨ w.heap.size ≤ k) :
    ∃ T', WdAtS sv w' B fm rm xm D vs vt ps T' { st with file := setF st.file n l' } ∧ (∀ k, k < w.heap.size → T' k = T k) ∧ Turn (fun k => T k ≠ .no) w w' := by
  have ho := tagAt_old (o := buf') (x := .buf n) h.lt fun k hk => (hat k hk).imp (tg k) id
  have hx : ∀ k, k < w.heap.size → tagAt T buf' (.buf n) k = T k := fun k hk => (ho.2 k hk).elim id fun h => h.2.elim
  have f := h.frame (fun p => p = .bld n ∨ p = .buf n) (w' := w') (T' := tagAt T buf' (.buf n)) (fun k h0 hz => ht.block k (h.lt k h0) fun e => by
    rcases e with rfl | e
    · exact hz (.inl tb)
    · exact hz (.inr (tg k e.symm))) ho.1 (fun k hk => by
    by_cases e : buf' = some k
    · exact hb'.ltBuf k e
    · rw [tagAt_other e] at hk
      exact Nat.lt_of_lt_of_le (h.lt k hk) ht.size)
  refine ⟨tagAt T buf' (.buf n), ⟨f.blk (by simp), f.tB, f.tf, f.tr, f.tx, ⟨f.map (by simp), fun m hm => ?_⟩, f.replies (by simp), f.fails (by simp), ⟨f.slen, f.srow (by simp), f.stag, fun i s p h1 h2 => f.src i s p h1 h2 (by simp), f.kinds, f.uniq⟩, ⟨f.trow (by simp), f.ttag⟩, f.lt⟩, hx, ?_⟩
  · by_cases e : m = n
    · subst e
      show FileIs _ _ _ _ (setF _ _ _ _)
      rw [setF, if_pos rfl]
      exact ⟨b, buf', hd, hb', (hx b hb.lt).trans tb, fun k hk => by rw [hk]; exact tagAt_same⟩
    · have := f.file m hm (by simp [e]) (by simp [e])
      show FileIs _ _ _ _ (setF _ _ _ _)
      rw [setF, if_neg e]
      exact this
  · exact ht.mono fun k hk => by
      rcases hk with rfl | hk
      · rw [tb]; simp
      · rw [tg k hk.symm]; simp

/- A file that was not there. -/
theorem WdAtS.begun (h : WdAtS sv w B fm rm xm D vs vt ps T st) {n : ByteArray} {b : Nat} (hn : Small n) {w' : World} (hbs : w.heap.size ≤ b) (ht : Turn (fun k => k = fm) w w') (hm : MapIs w' fm (st.made + 1) (D.put (kl n) (ptrD b))) (hb' : Bd w' b none []) :
    ∃ T', WdAtS sv w' B fm rm xm (D.put (kl n) (ptrD b)) vs vt ps T' { st with file := setF st.file n [], made := st.made + 1 } ∧ (∀ k, k < w.heap.size → T' k = T k) ∧ Turn (fun k => T k ≠ .no) w w' := by
  have ho := tagAt_old (o := some b) (x := .bld n) h.lt fun k hk => .inr (by cases hk; exact hbs)
  have hx : ∀ k, k < w.heap.size → tagAt T (some b) (.bld n) k = T k := fun k hk => (ho.2 k hk).elim id fun h => h.2.elim
  have f := h.frame (fun p => p = .files) (w' := w') (T' := tagAt T (some b) (.bld n)) (fun k h0 hz => ht.block k (h.lt k h0) fun e => hz (by rw [e]; exact h.tf)) ho.1 (fun k hk => by
    by_cases e : some b = some k
    · cases e; exact hb'.lt
    · rw [tagAt_other e] at hk
      exact Nat.lt_of_lt_of_le (h.lt k hk) ht.size)
  refine ⟨tagAt T (some b) (.bld n), ⟨f.blk (by simp), f.tB, f.tf, f.tr, f.tx, ⟨hm, fun m hm2 => ?_⟩, f.replies (by simp), f.fails (by simp), ⟨f.slen, f.srow (by simp), f.stag, fun i s p h1 h2 => f.src i s p h1 h2 (by simp), f.kinds, f.uniq⟩, ⟨f.trow (by simp), f.ttag⟩, f.lt⟩, hx, ht.mono fun k hk => by rw [hk, h.tf]; simp⟩
  have hD : IsMap D := MapIs.isMap h.files.map
  by_cases e : m = n
  · subst e
    show FileIs _ _ _ _ (setF _ _ _ _)
    rw [setF, if_pos rfl]
    exact ⟨b, none, atKey_put_same hD (kl_key _) _ _, hb', tagAt_same, fun k hk => by cases hk⟩
  · have q := f.file m hm2 (by simp) (by simp)
    show FileIs _ _ _ _ (setF _ _ _ _)
    rw [setF, if_neg e]
    have hk : (D.put (kl n) (ptrD b)).atKey (kl m) nilD = D.atKey (kl m) nilD := atKey_put_other (fun e2 => e (kl_inj e2)) _ _
    cases ho : st.file m with
    | none => rw [ho] at q; exact hk.trans q
    | some l =>
      rw [ho] at q
      obtain ⟨b2, buf, q1, q2, q3, q4⟩ := q
      exact ⟨b2, buf, hk.trans q1, q2, q3, q4⟩

/- What is handed in has been read on. -/
theorem WdAtS.stdin (h : WdAtS sv w B fm rm xm D vs vt ps T st) (s : ByteArray) :
    WdAtS sv (w.setCell ⟨B, 2, none⟩ (.string s)) B fm rm xm D vs vt ps T { st with stdin := s } ∧ Turn (fun k => T k ≠ .no) w (w.setCell ⟨B, 2, none⟩ (.string s)) := by
  have hBn : T B ≠ .no := by rw [h.tB]; simp
  have f := h.frame (fun p => p = .self) (w' := w.setCell ⟨B, 2, none⟩ (.string s)) (T' := T) (fun k h0 hz => heap_set _ _ _ (fun e => hz (by rw [e]; exact h.tB))) (fun k _ => rfl) (fun k hk => by rw [size_set]; exact h.lt k hk)
  refine ⟨⟨?_, f.tB, f.tf, f.tr, f.tx, ⟨f.map (by simp), fun n hn => f.file n hn (by simp) (by simp)⟩, f.replies (by simp), f.fails (by simp), ⟨f.slen, f.srow (by simp), f.stag, fun i s p h1 h2 => f.src i s p h1 h2 (by simp), f.kinds, f.uniq⟩, ⟨f.trow (by simp), f.ttag⟩, f.lt⟩, (Turn.of_set _ _ _).mono fun k hk => by rw [hk]; exact hBn⟩
  rw [blk_set h.blk]
  rfl
/- The next number of chance. -/
theorem WdAtS.chance (h : WdAtS sv w B fm rm xm D vs vt ps T st) (c : Int) :
    WdAtS sv (w.setCell ⟨B, 7, none⟩ (.int .u64 c)) B fm rm xm D vs vt ps T { st with chance := c } ∧ Turn (fun k => T k ≠ .no) w (w.setCell ⟨B, 7, none⟩ (.int .u64 c)) := by
  have hBn : T B ≠ .no := by rw [h.tB]; simp
  have f := h.frame (fun p => p = .self) (w' := w.setCell ⟨B, 7, none⟩ (.int .u64 c)) (T' := T) (fun k h0 hz => heap_set _ _ _ (fun e => hz (by rw [e]; exact h.tB))) (fun k _ => rfl) (fun k hk => by rw [size_set]; exact h.lt k hk)
  refine ⟨⟨?_, f.tB, f.tf, f.tr, f.tx, ⟨f.map (by simp), fun n hn => f.file n hn (by simp) (by simp)⟩, f.replies (by simp), f.fails (by simp), ⟨f.slen, f.srow (by simp), f.stag, fun i s p h1 h2 => f.src i s p h1 h2 (by simp), f.kinds, f.uniq⟩, ⟨f.trow (by simp), f.ttag⟩, f.lt⟩, (Turn.of_set _ _ _).mono fun k hk => by rw [hk]; exact hBn⟩
  rw [blk_set h.blk]
  rfl

theorem flatS_set {l : List Strm} {ps : List Value} {i : Nat} {s : Strm} {x : Src} (hi : l[i]? = some s) : flatS (l.set i { s with src := x }) ps = flatS l ps := by
  induction l generalizing i ps with
  | nil => simp at hi
  | cons a r ih =>
    cases i with
    | zero =>
      have : a = s := by simpa using hi
      subst this
      cases ps <;> rfl
    | succ i =>
      cases ps with
      | nil => rfl
      | cons p q =>
        rw [List.set_cons_succ, flatS, flatS, ih (by simpa using hi)]
theorem uniq_ne {l : List Strm} (h : Uniq l) {i j : Nat} {a b : Strm} (hi : l[i]? = some a) (hj : l[j]? = some b) (hij : i ≠ j) : ¬ (a.kind = b.kind ∧ a.name = b.name) := by
  unfold Uniq at h
  rw [List.pairwise_iff_getElem] at h
  obtain ⟨h1, rfl⟩ := List.getElem?_eq_some_iff.1 hi
  obtain ⟨h2, rfl⟩ := List.getElem?_eq_some_iff.1 hj
  rcases Nat.lt_or_gt_of_ne hij with hlt | hlt
  · exact h i j h1 h2 hlt
  · exact fun e => h j i h2 h1 hlt ⟨e.1.symm, e.2.symm⟩
theorem uniq_set {l : List Strm} (h : Uniq l) {i : Nat} {s : Strm} {x : Src} (hi : l[i]? = some s) : Uniq (l.set i { s with src := x }) := by
  have hm : (l.set i { s with src := x }).map (fun s => (s.kind, s.name)) = l.map (fun s => (s.kind, s.name)) := by
    rw [List.map_set]
    obtain ⟨h1, rfl⟩ := List.getElem?_eq_some_iff.1 hi
    apply List.ext_getElem (by simp)
    intro k h2 h3
    rw [List.getElem_set]
    split
    · subst_vars; simp
    · rfl
  have hp : ∀ l : List Strm, Uniq l ↔ (l.map fun s => (s.kind, s.name)).Pairwise (· ≠ ·) := fun l => by
    unfold Uniq
    rw [List.pairwise_map]
    constructor <;> intro h <;> refine h.imp fun h2 h3 => h2 ?_
    · simpa using h3
    · simpa using h3
  rw [hp] at h ⊢
  rw [hm]
  exact h
/- A stream of its own text has been read on. -/
theorem WdAtS.readOn (h : WdAtS sv w B fm rm xm D vs vt ps T st) {i b : Nat} {s : Strm} (t : ByteArray) (hi : st.streams[i]? = some s) (hp : ps[i]? = some (ptr b)) {t0 : ByteArray} (hs : s.src = .own t0) :
    WdAtS sv (w.setCell ⟨b, 0, none⟩ (.string t)) B fm rm xm D vs vt ps T { st with streams := st.streams.set i { s with src := .own t } } ∧ Turn (fun k => T k ≠ .no) w (w.setCell ⟨b, 0, none⟩ (.string t)) := by
  have hsrc := h.streams.each i s (ptr b) hi hp
  unfold SrcAt at hsrc
  rw [hs] at hsrc
  obtain ⟨b2, e, hb, tb⟩ := hsrc
  obtain rfl : b = b2 := by simpa [ptr] using e
  have hbn : T b ≠ .no := by rw [tb]; simp
  have f := h.frame (fun p => p = .left s.kind s.name) (w' := w.setCell ⟨b, 0, none⟩ (.string t)) (T' := T) (fun k h0 hz => heap_set _ _ _ (fun e => hz (by rw [e]; exact tb))) (fun k _ => rfl) (fun k hk => by rw [size_set]; exact h.lt k hk)
  have hlt : i < st.streams.length := (List.getElem?_eq_some_iff.1 hi).1
  refine ⟨⟨f.blk (by simp), f.tB, f.tf, f.tr, f.tx, ⟨f.map (by simp), fun n hn => f.file n hn (by simp) (by simp)⟩, f.replies (by simp), f.fails (by simp), ⟨?_, ?_, f.stag, ?_, ?_, ?_⟩, ⟨f.trow (by simp), f.ttag⟩, f.lt⟩, (Turn.of_set _ _ _).mono fun k hk => by rw [hk]; exact hbn⟩
  · show ps.length = (st.streams.set i _).length
    rw [List.length_set]; exact f.slen
  · show World.ownsRow _ 0 _ 3 vs (st.streams.set i _).length (flatS (st.streams.set i _) ps)
    rw [List.length_set, flatS_set hi]
    exact f.srow (by simp)
  · intro i2 s2 p2 h1 h2
    by_cases e : i = i2
    · subst e
      have h1' : st.streams[i]? = some s := hi
      rw [List.getElem?_set_self hlt] at h1
      cases h1
      rw [hp] at h2
      cases h2
      exact ⟨b, rfl, by rw [blk_set hb]; rfl, tb⟩
    · rw [List.getElem?_set_ne e] at h1
      refine f.src i2 s2 p2 h1 h2 fun e2 => ?_
      have hne := uniq_ne h.streams.uniq hi h1 (fun e3 => e e3)
      injection e2 with e4 e5
      exact hne ⟨e4.symm, e5.symm⟩
  · intro s2 hs2
    rcases List.mem_or_eq_of_mem_set hs2 with h1 | rfl
    · exact f.kinds s2 h1
    · exact f.kinds s (List.mem_of_getElem? hi)
  · exact uniq_set h.streams.uniq hi
end
end Go.Proofs.Ythbkcdbmimhhkaa.Wo

/-
  Package world: what only reads: made, Streams, Clock, failing, place, IsOpen.
-/
namespace Go.Proofs.Ythbkcdbmimhhkaa.Wo
open Go.RowKit Go.Maps

theorem world_info : ∃ j, Try.prog.info? 86 = some j := by
  have h : (Try.prog.info? 86).isSome = true := by kernel_rfl
  exact Option.isSome_iff_exists.1 h
theorem self_eq (a : Addr) (w : World) : (binOp .eql 31 (.pointer (some a)) (.pointer (some a))).run Try.prog w = .ok (.bool true) w := by
  obtain ⟨j, hj⟩ := world_info
  exact run_eql_ptr_same w a Try.underlying31 hj
theorem nil_neq (a : Addr) (w : World) : (binOp .neq 31 (.pointer (some a)) (.pointer none)).run Try.prog w = .ok (.bool true) w := by
  have h : ∀ d : Nat, (Op.equalIn (d + 1) 31 (.pointer (some a)) (.pointer none)).run Try.prog w = .ok false w := fun d => by
    simp [Op.equalIn, run_underlying Try.underlying31]
  simp only [binOp]
  simp [Op.equal, Op.maxDepth, h 9999]

/- A world's cells. -/
structure CellsS (sv : Value) (w : World) (B fm rm xm : Nat) (vs vt : Value) (st : St) : Prop where
  c0 : w.cell? ⟨B, 0, none⟩ = some sv
  c1 : w.cell? ⟨B, 1, none⟩ = some (.map (some fm))
  c2 : w.cell? ⟨B, 2, none⟩ = some (.string st.stdin)
  c3 : w.cell? ⟨B, 3, none⟩ = some (.map (some rm))
  c4 : w.cell? ⟨B, 4, none⟩ = some (.map (some xm))
  c5 : w.cell? ⟨B, 5, none⟩ = some (.int .i64 st.most)
  c6 : w.cell? ⟨B, 6, none⟩ = some (.int .i64 st.clock)
  c7 : w.cell? ⟨B, 7, none⟩ = some (.int .u64 st.chance)
  c8 : w.cell? ⟨B, 8, none⟩ = some vs
  c9 : w.cell? ⟨B, 9, none⟩ = some vt
  z : ∀ i, w.frozen? ⟨B, i, none⟩ = false
  lt : B < w.heap.size
theorem WdAtS.cells {sv : Value} {w : World} {B fm rm xm : Nat} {D : DataW Unit} {vs vt : Value} {ps : List Value} {T : Tags} {st : St} (h : WdAtS sv w B fm rm xm D vs vt ps T st) : CellsS sv w B fm rm xm vs vt st := by
  have hb := h.blk
  refine ⟨?_, ?_, ?_, ?_, ?_, ?_, ?_, ?_, ?_, ?_, fun i => by simp [World.frozen?, hb], h.lt B (by rw [h.tB]; simp)⟩
  all_goals simp [World.cell?, hb]
theorem CellsS.later {sv : Value} {w w' : World} {B fm rm xm : Nat} {vs vt : Value} {st : St} (h : CellsS sv w B fm rm xm vs vt st) (hb : w'.heap[B]? = w.heap[B]?) : CellsS sv w' B fm rm xm vs vt st := by
  have e : ∀ i, w'.cell? ⟨B, i, none⟩ = w.cell? ⟨B, i, none⟩ := fun i => World.cell?_of_block hb
  have e2 : ∀ i, w'.frozen? ⟨B, i, none⟩ = w.frozen? ⟨B, i, none⟩ := fun i => World.frozen?_of_block hb
  have hlt : B < w'.heap.size := by
    have := h.lt
    rcases Nat.lt_or_ge B w'.heap.size with h1 | h1
    · exact h1
    · rw [Array.getElem?_eq_none h1, Array.getElem?_eq_getElem this] at hb
      cases hb
  exact ⟨(e _).trans h.c0, (e _).trans h.c1, (e _).trans h.c2, (e _).trans h.c3, (e _).trans h.c4, (e _).trans h.c5, (e _).trans h.c6, (e _).trans h.c7, (e _).trans h.c8, (e _).trans h.c9, fun i => (e2 i).trans (h.z i), hlt⟩
theorem CellsS.below {sv : Value} {w w' : World} {B fm rm xm : Nat} {vs vt : Value} {st : St} (h : CellsS sv w B fm rm xm vs vt st) (hb : Below w.heap.size w w') : CellsS sv w' B fm rm xm vs vt st := h.later (hb.block B h.lt)

abbrev Cells (w : World) (B fm rm xm : Nat) (vs vt : Value) (st : St) : Prop := CellsS (ptr B) w B fm rm xm vs vt st
section
variable {w : World} {B fm rm xm : Nat} {D : DataW Unit} {vs vt : Value} {ps : List Value} {T : Tags} {st : St}

theorem made (h : Cells w B fm rm xm vs vt st) :
    Calls Try.prog 39 #[ptr B] w fun e w' => e = .returned (.bool true) ∧ w' = w := by
  have c0 := h.c0
  clear h
  go_enter Try.func39, Try.ntmps39
  go_wp2_with (first | rw [self_eq] | rw [nil_neq])
  go_ret
  exact ⟨rfl, rfl⟩

theorem slice_of {w : World} {b : Nat} {e : TypeId} {size n : Nat} {v : Value} {xs : List Value} (h : w.ownsRow b e size v n xs) : ∃ oa c, v = .slice oa n c ∧ ∀ k, v.ownBlock = some k → oa = some ⟨k, 0, none⟩ := by
  rcases h.2 with ⟨rfl, rfl⟩ | ⟨g, cap, cur, rfl, _⟩
  · exact ⟨none, 0, rfl, fun k hk => by cases hk⟩
  · exact ⟨_, cap, rfl, fun k hk => by cases hk; rfl⟩

theorem streamsN (h : WdAt w B fm rm xm D vs vt ps T st) :
    Calls Try.prog 11 #[ptr B] w fun e w' => e = .returned (.int .i64 st.streams.length) ∧ w' = w := by
  have hC := Lib.hid h.cells
  have c8 := h.cells.c8
  obtain ⟨oa, c, rfl, _⟩ := slice_of h.streams.row
  clear h
  go_enter Try.func11, Try.ntmps11
  go_wp2_with (go_at_call 39; refine (made hC.out).mono ?_; rintro e w' ⟨rfl, hw⟩; obtain rfl := hw.symm; clear hw)
  go_ret
  exact ⟨rfl, rfl⟩
theorem clock (h : WdAt w B fm rm xm D vs vt ps T st) :
    Calls Try.prog 18 #[ptr B] w fun e w' => e = .returned (.int .i64 st.clock) ∧ w' = w := by
  have hC := Lib.hid h.cells
  have c6 := h.cells.c6
  clear h
  go_enter Try.func18, Try.ntmps18
  go_wp2_with (go_at_call 39; refine (made hC.out).mono ?_; rintro e w' ⟨rfl, hw⟩; obtain rfl := hw.symm; clear hw)
  go_ret
  exact ⟨rfl, rfl⟩
theorem failing (h : WdAt w B fm rm xm D vs vt ps T st) (op : Int) (n : ByteArray) (h0 : 0 ≤ op) (h1 : op < 256) (hn : Small n) :
    Calls Try.prog 43 #[ptr B, .int .u8 op, .string n] w fun e w' => e = .returned (.bool (st.fails op n)) ∧ Below w.heap.size w w' := by
  have c4 := h.cells.c4
  have hF := h.fails.look h0 h1 hn
  clear h
  go_enter Try.func43, Try.ntmps43
  go_wp2_with fail
  go_ret
  exact ⟨rfl, (Below.refl _ w).alloc (Nat.le_refl _) _⟩
end
end Go.Proofs.Ythbkcdbmimhhkaa.Wo

/-
  Package world: where a stream stands (place), IsOpen.
-/
namespace Go.Proofs.Ythbkcdbmimhhkaa.Wo
open Go.RowKit Go.Maps

theorem toList_ne {x y : ByteArray} (h : x ≠ y) : (x.toList == y.toList) = false := by
  rw [beq_eq_false_iff_ne, Lib.toList_data, Lib.toList_data]
  exact fun e => h (ByteArray.ext (Array.toList_inj.1 e))
theorem alloc_size (w : World) (o : Obj) : (w.alloc o).heap.size = w.heap.size + 1 := by
  show (w.heap.push o).size = _
  simp
theorem alloc_new (w : World) (o : Obj) : (w.alloc o).heap[w.heap.size]? = some o := heap_alloc_new w o
theorem alloc_old (w : World) (o : Obj) {k : Nat} (h : k < w.heap.size) : (w.alloc o).heap[k]? = w.heap[k]? := by
  show (w.heap.push o)[k]? = _
  rw [Array.getElem?_push_lt h, Array.getElem?_eq_getElem h]

theorem flatS_length : ∀ (l : List Strm) (ps : List Value), ps.length = l.length → (flatS l ps).length = l.length * 3
  | [], [], _ => rfl
  | s :: r, p :: q, h => by
    rw [flatS, List.length_append, flatS_length r q (by simpa using h)]
    simp only [Strm.cells, List.length_cons, List.length_nil]
    omega
  | [], _ :: _, h => by simp at h
  | _ :: _, [], h => by simp at h
theorem flatS_get : ∀ (l : List Strm) (ps : List Value) (i : Nat) (s : Strm) (p : Value), l[i]? = some s → ps[i]? = some p → ∀ j, j < 3 → (flatS l ps)[i * 3 + j]? = (s.cells p)[j]?
  | x :: l, y :: ps, 0, s, p, h, h2, j, hj => by
    simp at h h2; subst h h2
    have : j < (x.cells y).length := hj
    simp only [flatS, Nat.zero_mul, Nat.zero_add]
    rw [List.getElem?_append_left this]
  | x :: l, y :: ps, i + 1, s, p, h, h2, j, hj => by
    have ih := flatS_get l ps i s p (by simpa using h) (by simpa using h2) j hj
    have e : (i + 1) * 3 + j = (x.cells y).length + (i * 3 + j) := by show _ = 3 + _; omega
    simp only [flatS, e]
    rw [List.getElem?_append_right (Nat.le_add_right _ _), Nat.add_sub_cancel_left]
    exact ih
theorem Streams.at {w : World} {B n c : Nat} {T : Tags} {oa : Option Addr} {ps : List Value} {l : List Strm} (h : Streams w B T (.slice oa n c) ps l) {i : Nat} {s : Strm} (hi : l[i]? = some s) :
    ∃ g p, oa = some ⟨g, 0, none⟩ ∧ ps[i]? = some p ∧ SrcAt w B T s p ∧ w.cell? ⟨g, i * 3, none⟩ = some (.int .u8 s.kind) ∧ w.cell? ⟨g, i * 3 + 1, none⟩ = some (.string s.name) ∧ w.cell? ⟨g, i * 3 + 2, none⟩ = some p := by
  have hlt := (List.getElem?_eq_some_iff.1 hi).1
  obtain ⟨p, hp⟩ : ∃ p, ps[i]? = some p := ⟨_, List.getElem?_eq_getElem (by rw [h.len]; exact hlt)⟩
  have h2 := h.row
  rcases h.row.2 with ⟨h1, h0⟩ | ⟨g, oc, cur, h1, _⟩
  · omega
  · simp only [Value.slice.injEq] at h1
    obtain ⟨rfl, rfl, rfl⟩ := h1
    have hc : ∀ j, j < 3 → w.cell? ⟨g, i * 3 + j, none⟩ = (s.cells p)[j]? := fun j hj => by
      rw [h2.cellAt (i * 3 + j) (by omega), flatS_get l ps i s p hi hp j hj]
    exact ⟨g, p, rfl, hp, h.each i s p hi hp, hc 0 (by omega), hc 1 (by omega), hc 2 (by omega)⟩
theorem Streams.below {w w' : World} {B : Nat} {T : Tags} {vs : Value} {ps : List Value} {l : List Strm} (h : Streams w B T vs ps l) (hb : Below w.heap.size w w') : Streams w' B T vs ps l where
  len := h.len
  row := row_of_block h.row fun k hk => hb.block k (h.row.lt k hk).2
  tag := h.tag
  each := fun i s p h1 h2 => by
    have q := h.each i s p h1 h2
    unfold SrcAt at q ⊢
    cases hs : s.src with
    | none => rw [hs] at q; exact q
    | stdin => rw [hs] at q; exact q
    | own t =>
      rw [hs] at q
      obtain ⟨b, q1, q2, q3⟩ := q
      exact ⟨b, q1, (hb.block b (Array.getElem?_eq_some_iff.1 q2).1).trans q2, q3⟩
  kinds := h.kinds
  uniq := h.uniq

set_option maxRecDepth 100000 in
theorem place1 {w : World} {kb nb : Nat} {k : Int} {n : ByteArray} (s : Strm) (p : Value) (hk : w.cell? ⟨kb, 0, none⟩ = some (.int .u8 k)) (hn : w.cell? ⟨nb, 0, none⟩ = some (.string n)) :
    Calls Try.prog 54 #[.agg #[.int .u8 s.kind, .string s.name, p], ptr kb, ptr nb] w fun e w' => e = .returned (.bool (isIt k n s)) ∧ Below w.heap.size w w' := by
  have hb : Below w.heap.size w (w.alloc (.cells #[.int .u8 s.kind, .string s.name, p] 113)) := (Below.refl _ w).alloc (Nat.le_refl _) _
  have hk' := (hb.cell (p := ⟨kb, 0, none⟩) (World.block_lt_of_cell? w _ hk)).trans hk
  have hn' := (hb.cell (p := ⟨nb, 0, none⟩) (World.block_lt_of_cell? w _ hn)).trans hn
  have HB := Lib.hid hb
  clear hb hk hn
  by_cases h1 : s.kind = k
  · have hx0 : (s.kind == k) = true := by rw [h1]; simp
    by_cases h2 : s.name = n
    · have hx : (s.name.toList == n.toList) = true := by rw [h2]; simp
      have HI := Lib.hid (isIt_iff.2 ⟨h1, h2⟩)
      clear h2 h1
      go_enter Try.func54, Try.ntmps54
      go_wp2_with fail
      go_ret
      exact ⟨by rw [HI.out]; rfl, HB.out⟩
    · have hx : (s.name.toList == n.toList) = false := toList_ne h2
      have HI := Lib.hid (show isIt k n s = false from by rw [Bool.eq_false_iff]; exact fun h => h2 (isIt_iff.1 h).2)
      clear h2 h1
      go_enter Try.func54, Try.ntmps54
      go_wp2_with fail
      go_ret
      exact ⟨by rw [HI.out]; rfl, HB.out⟩
  · have hx0 : (s.kind == k) = false := beq_eq_false_iff_ne.2 h1
    have HI := Lib.hid (show isIt k n s = false from by rw [Bool.eq_false_iff]; exact fun h => h1 (isIt_iff.1 h).1)
    clear h1
    go_enter Try.func54, Try.ntmps54
    go_wp2_with fail
    go_ret
    exact ⟨by rw [HI.out]; rfl, HB.out⟩

set_option maxRecDepth 100000 in
theorem indexFunc {w : World} {B kb nb n0 c : Nat} {T : Tags} {oa : Option Addr} {ps : List Value} {l : List Strm} {k : Int} {n : ByteArray} (h : Streams w B T (.slice oa n0 c) ps l) (hn0 : n0 = l.length) (hl : l.length ≤ 1000000) (hk : w.cell? ⟨kb, 0, none⟩ = some (.int .u8 k)) (hn : w.cell? ⟨nb, 0, none⟩ = some (.string n)) :
    Calls Try.prog 53 #[.slice oa n0 c, .func (Fn.func 54) #[] #[ptr kb, ptr nb]] w fun e w' => e = .returned (.int .i64 (placeL k n l)) ∧ Below w.heap.size w w' := by
  subst hn0
  have HH := Lib.hid h
  have HK := Lib.hid (⟨hk, hn⟩ : _ ∧ _)
  clear h hk hn
  go_enter Try.func53, Try.ntmps53
  go_wp2_with fail
  go_loopg [8] l.length (fun q i wr => ∃ j, l.length - j = q ∧ j ≤ l.length ∧ i = .int .i64 (j : Int) ∧ (∀ i s, i < j → l[i]? = some s → isIt k n s = false) ∧ Below w.heap.size w wr)
  case atStart => exact ⟨0, rfl, Nat.zero_le _, rfl, fun i s hi => by omega, Below.refl _ w⟩
  case round =>
    obtain ⟨j, hq, hj, rfl, hno, hb⟩ := hrel
    have HN := Lib.hid (⟨hno, hb⟩ : _ ∧ _)
    clear hno hb
    by_cases hlt : j < l.length
    · have hlt' : (j : Int) < (l.length : Int) := by omega
      obtain ⟨s, hs⟩ : ∃ s, l[j]? = some s := ⟨_, List.getElem?_eq_getElem hlt⟩
      obtain ⟨g, p, rfl, _, _, c0, c1, c2⟩ := (HH.out.below HN.out.2).at hs
      have HS := Lib.hid hs
      clear hs
      by_cases hit : isIt k n s = true
      · have HT := Lib.hid hit
        clear hit
        go_wp2_with (go_at_call 54; refine (place1 (k := k) (n := n) s p ((HN.out.2.cell (World.block_lt_of_cell? w _ HK.out.1)).trans HK.out.1) ((HN.out.2.cell (World.block_lt_of_cell? w _ HK.out.2)).trans HK.out.2)).mono ?_; rintro e w3 ⟨rfl, hb3⟩; rw [HT.out]; have H3 := Lib.hid (HN.out.2.trans (hb3.mono HN.out.2.size)); clear hb3)
        go_ret
        exact ⟨by rw [(placeL_not k n j l HN.out.1).2 s HS.out HT.out]; rfl, H3.out⟩
      · have HT := Lib.hid (show isIt k n s = false by simpa using hit)
        clear hit
        go_wp2_with (go_at_call 54; refine (place1 (k := k) (n := n) s p ((HN.out.2.cell (World.block_lt_of_cell? w _ HK.out.1)).trans HK.out.1) ((HN.out.2.cell (World.block_lt_of_cell? w _ HK.out.2)).trans HK.out.2)).mono ?_; rintro e w3 ⟨rfl, hb3⟩; rw [HT.out]; have H3 := Lib.hid (HN.out.2.trans (hb3.mono HN.out.2.size)); clear hb3)
        go_roundg (l.length - (j + 1))
        case measure => omega
        case rel =>
          refine ⟨j + 1, rfl, hlt, by go_num, fun i t hi ht => ?_, H3.out⟩
          by_cases e : i = j
          · subst e
            have := HS.out
            rw [ht] at this
            cases this
            exact HT.out
          · exact HN.out.1 i t (by omega) ht
    · obtain rfl : j = l.length := by omega
      have hge : ¬ (l.length : Int) < (l.length : Int) := by omega
      go_wp2_with fail
      go_ret
      exact ⟨by rw [(placeL_not k n l.length l HN.out.1).1 rfl]; rfl, HN.out.2⟩

theorem place {w : World} {B fm rm xm : Nat} {D : DataW Unit} {vs vt : Value} {ps : List Value} {T : Tags} {st : St} (h : WdAt w B fm rm xm D vs vt ps T st) (k : Int) (n : ByteArray) (hl : st.streams.length ≤ 1000000) :
    Calls Try.prog 41 #[ptr B, .int .u8 k, .string n] w fun e w' => e = .returned (.int .i64 (placeL k n st.streams)) ∧ Below w.heap.size w w' := by
  have hC := h.cells
  obtain ⟨oa, c, rfl, hoa⟩ := slice_of h.streams.row
  have hb2 : Below w.heap.size w ((w.alloc (.cells #[.int .u8 k] 41)).alloc (.cells #[.string n] 9)) := ((Below.refl _ w).alloc (Nat.le_refl _) _).alloc (by simp) _
  have c8 := (hC.below hb2).c8
  have h2 := h.streams.below hb2
  have hq1 : ((w.alloc (.cells #[.int .u8 k] 41)).alloc (.cells #[.string n] 9)).cell? ⟨w.heap.size, 0, none⟩ = some (.int .u8 k) := by
    have e2 := (alloc_old (w.alloc (.cells #[.int .u8 k] 41)) (.cells #[.string n] 9) (k := w.heap.size) (by rw [alloc_size]; omega)).trans (alloc_new w _)
    unfold World.cell?
    rw [e2]
    rfl
  have hq2 : ((w.alloc (.cells #[.int .u8 k] 41)).alloc (.cells #[.string n] 9)).cell? ⟨w.heap.size + 1, 0, none⟩ = some (.string n) := by
    have e1 := alloc_new (w.alloc (.cells #[.int .u8 k] 41)) (.cells #[.string n] 9)
    rw [alloc_size] at e1
    unfold World.cell?
    rw [e1]
    rfl
  have HH := Lib.hid (⟨h, hoa, hb2, h2, hq1, hq2⟩ : _ ∧ _ ∧ _ ∧ _ ∧ _ ∧ _)
  clear h hoa hb2 hC h2 hq1 hq2
  go_enter Try.func41, Try.ntmps41
  go_wp2_with (go_at_call 53; obtain ⟨q1, q2, q3, q4, q5, q6⟩ := HH.out; refine (indexFunc q4 rfl hl q5 q6).mono ?_; rintro e w3 ⟨rfl, hb3⟩; have H3 := Lib.hid (q3.trans (hb3.mono q3.size)); clear q1 q2 q3 q4 q5 q6 hb3)
  go_ret
  exact ⟨rfl, H3.out⟩

def openB (k : Int) (n : ByteArray) (l : List Strm) : Bool := decide (k = 6) || decide (0 ≤ placeL k n l)
set_option maxRecDepth 100000 in
theorem isOpen {w : World} {B fm rm xm : Nat} {D : DataW Unit} {vs vt : Value} {ps : List Value} {T : Tags} {st : St} (h : WdAt w B fm rm xm D vs vt ps T st) (k : Int) (n : ByteArray) (hl : st.streams.length ≤ 1000000) :
    Calls Try.prog 14 #[ptr B, .int .u8 k, .string n] w fun e w' => e = .returned (.bool (openB k n st.streams)) ∧ Below w.heap.size w w' := by
  have hC := Lib.hid h.cells
  have HH := Lib.hid h
  clear h
  by_cases h6 : k = 6
  · subst h6
    go_enter Try.func14, Try.ntmps14
    go_wp2_with (go_at_call 39; refine (made hC.out).mono ?_; rintro e w' ⟨rfl, hw⟩; obtain rfl := hw.symm; clear hw)
    go_ret
    exact ⟨rfl, Below.refl _ w⟩
  · have hx0 : (k == 6) = false := beq_eq_false_iff_ne.2 h6
    have H6 := Lib.hid h6
    clear h6
    generalize hpl : placeL k n st.streams = pl
    have HP := Lib.hid hpl
    clear hpl
    go_enter Try.func14, Try.ntmps14
    go_wp2_with (first
      | (go_at_call 39; refine (made hC.out).mono ?_; rintro e w' ⟨rfl, hw⟩; obtain rfl := hw.symm; clear hw)
      | (go_at_call 41; refine (place HH.out k n hl).mono ?_; rintro e w2 ⟨rfl, hb2⟩; rw [HP.out]; have H2 := Lib.hid hb2; clear hb2))
    go_ret
    exact ⟨by unfold openB; rw [HP.out, decide_eq_false H6.out]; rfl, H2.out⟩
end Go.Proofs.Ythbkcdbmimhhkaa.Wo

/-
  Package world: an event noted (note), a file to write to (file).
-/
namespace Go.Proofs.Ythbkcdbmimhhkaa.Wo
open Go.RowKit Go.Maps

theorem ev_info : ∃ i z, Try.prog.info? 67 = some i ∧ i.zero = some z ∧ i.size = 5 ∧ i.bytes = 48 ∧ z.cells.size = 5 := by
  have h : (Try.prog.info? 67).map (fun i => (i.zero.map (·.cells.size), i.size, i.bytes)) = some (some 5, 5, 48) := by kernel_rfl
  cases hi : Try.prog.info? 67 with
  | none => rw [hi] at h; cases h
  | some i =>
    rw [hi] at h
    simp only [Option.map_some, Option.some.injEq, Prod.mk.injEq] at h
    cases hz : i.zero with
    | none => rw [hz] at h; cases h.1
    | some z => rw [hz] at h; exact ⟨i, z, rfl, hz, h.2.1, h.2.2, by simpa using h.1⟩
theorem Ev.one (e : Ev) : ∀ u ∈ e.cells, u.oneCell' = true := by
  intro u hu
  simp only [Ev.cells, List.mem_cons, List.not_mem_nil, or_false] at hu
  rcases hu with rfl | rfl | rfl | rfl | rfl <;> rfl
theorem box_cell {w : World} {cs : Array Value} {t : TypeId} (i : Nat) : (w.alloc (.cells cs t)).cell? ⟨w.heap.size, i, none⟩ = cs[i]? := by
  unfold World.cell?
  rw [alloc_new]
  rfl
/- What a world's call makes of it. -/
def Goes (w w' : World) (B : Nat) (T : Tags) (st' : St) : Prop := ∃ fm rm xm D vs vt ps T', WdAt w' B fm rm xm D vs vt ps T' st' ∧ (∀ k, k < w.heap.size → T' k = T k) ∧ Turn (fun k => T k ≠ .no) w w'
theorem Turn.before {S : Nat → Prop} {a b c : World} (k : Turn S b c) (h : Below a.heap.size a b) : Turn S a c := (Turn.of_below h).trans k fun _ hi => .inl hi

set_option maxRecDepth 100000 in
theorem note {w : World} {B fm rm xm : Nat} {D : DataW Unit} {vs vt : Value} {ps : List Value} {T : Tags} {st : St} (h : WdAt w B fm rm xm D vs vt ps T st) (ev : Ev) (hl : st.trace.length ≤ 1000000) :
    Calls Try.prog 44 #[ptr B, .agg ⟨ev.cells⟩] w fun e w' => e = .returned (.tuple #[]) ∧ ∃ vt' T', WdAt w' B fm rm xm D vs vt' ps T' { st with trace := st.trace ++ [ev] } ∧ (∀ k, k < w.heap.size → T' k = T k) ∧ Turn (fun k => T k ≠ .no) w w' := by
  obtain ⟨i, z, hi, hz, hsz, hby, hzs⟩ := ev_info
  obtain ⟨oa, c, rfl, hoa⟩ := slice_of h.trace.row
  have HZ := Lib.hid (⟨hi, hz, hsz, hby, hzs⟩ : _ ∧ _ ∧ _ ∧ _ ∧ _)
  clear hi hz hsz hby hzs
  unfold Ev.cells
  obtain ⟨wA, hA⟩ : ∃ wA, wA = w.alloc (.cells #[.int .u8 ev.kind, .int .u8 ev.stream, .string ev.name, .string ev.data, .int .i64 ev.status] 67) := ⟨_, rfl⟩
  have d : ∀ i, wA.cell? ⟨w.heap.size, i, none⟩ = (#[.int .u8 ev.kind, .int .u8 ev.stream, .string ev.name, .string ev.data, .int .i64 ev.status] : Array Value)[i]? := fun i => by rw [hA]; exact box_cell i
  have hb : Below w.heap.size w wA := by rw [hA]; exact (Below.refl _ w).alloc (Nat.le_refl _) _
  have h2 := h.below hb
  have hBt : some B ≠ (Value.slice oa st.trace.length c).ownBlock := fun e => by have := h.trace.tag B e.symm; rw [h.tB] at this; cases this
  have c9 := h2.cells.c9
  have z9 := h2.cells.z 9
  have hBl := h2.cells.lt
  have hBl2 : ∀ o, B < (wA.alloc o).drew.heap.size := fun o => by
    show B < (wA.alloc o).heap.size
    rw [alloc_size]; exact Nat.lt_succ_of_lt hBl
  have d0 := d 0
  have d1 := d 1
  have d2 := d 2
  have d3 := d 3
  have d4 := d 4
  have HH := Lib.hid (⟨h2, hb, hBt⟩ : _ ∧ _ ∧ _)
  clear h h2 hb d hoa hBt
  go_enter Try.func44, Try.ntmps44
  go_wp2_with fail
  rw [← hA]
  clear hA
  go_region_law (refine step_append_lies _ rfl (.tmp 8) (.tmp 10) 36 rfl 0 67 i z 5 48 Try.underlying36 HZ.out.1 HZ.out.2.1 HZ.out.2.2.1 HZ.out.2.2.2.1 HZ.out.2.2.2.2 (by decide) (.slice oa st.trace.length c) st.trace.length (flatE st.trace) (by simp [Act.eval]) ((HH.out.1.trace.row.drew).alloc _) ⟨wA.heap.size, 0, none⟩ 1 1 [.int .u8 ev.kind, .int .u8 ev.stream, .string ev.name, .string ev.data, .int .i64 ev.status] (by simp [Act.eval]) rfl (World.news_of_block (alloc_new wA.drew _)) ev.one (by decide) (by unfold maxLen; omega) (by omega) (Nat.zero_le _) _ rfl ?_; intro g' cap' w' hown hgrow hat hlt; have q1 : w'.cell? ⟨B, 9, none⟩ = some (.slice oa st.trace.length c) := (hgrow.cell_far ⟨B, 9, none⟩ (hBl2 _) HH.out.2.2).trans ((((Below.refl _ wA).drew.alloc (Nat.le_refl _) _).cell (p := ⟨B, 9, none⟩) hBl).trans c9); have q2 : w'.frozen? ⟨B, 9, none⟩ = false := (hgrow.frozen_far ⟨B, 9, none⟩ (hBl2 _) HH.out.2.2).trans ((((Below.refl _ wA).drew.alloc (Nat.le_refl _) _).frozen (p := ⟨B, 9, none⟩) hBl).trans z9); have HO := Lib.hid (⟨hown, hgrow, hat, hlt⟩ : _ ∧ _ ∧ _ ∧ _); clear hown hgrow hat hlt)
  all_goals go_wp2_with fail
  all_goals go_end0
  all_goals
    have hb3 : Below wA.heap.size wA (wA.drew.alloc (.cells #[.int .u8 ev.kind, .int .u8 ev.stream, .string ev.name, .string ev.data, .int .i64 ev.status] 67)) := (Below.refl _ wA).drew.alloc (Nat.le_refl _) _
    obtain ⟨T', q1, q2, q3⟩ := (HH.out.1.below hb3).noted ev HO.out.2.1 HO.out.1 fun k hk => HO.out.2.2.1.imp (fun e => e.trans (by rw [← hk]; rfl)) fun e => by
      have : g' = k := by simpa [Value.ownBlock] using hk
      rw [← this, e]; exact Nat.le_refl _
    exact ⟨rfl, _, T', q1, fun k hk => q2 k (Nat.lt_of_lt_of_le hk (Nat.le_trans HH.out.2.1.size hb3.size)), q3.before (HH.out.2.1.trans (hb3.mono HH.out.2.1.size))⟩

theorem zero_ptr (w : World) : (zeroValue 87).run Try.prog w = .ok (.pointer none) w := by kernel_rfl
theorem rdPtr_nil : rdPtr (.pointer none) = some (nilD, []) := rfl
theorem rdPtr_ptr (b : Nat) : rdPtr (ptr b) = some (ptrD b, []) := rfl
theorem ptrD_inj {a b : Nat} (h : ptrD a = ptrD b) : a = b := by
  unfold ptrD at h
  injection h with h
  injection h with h1 h2
  omega
theorem bld_eq_nil (w : World) : (binOp .eql 87 (.pointer none) (.pointer none)).run Try.prog w = .ok (.bool true) w := by
  have h : ∀ d : Nat, (Op.equalIn (d + 1) 87 (.pointer none) (.pointer none)).run Try.prog w = .ok true w := fun d => by
    simp [Op.equalIn, run_underlying Try.underlying87]
  simp only [binOp]
  simp [Op.equal, Op.maxDepth, h 9999]
theorem bld_eq_ptr (b : Nat) (w : World) : (binOp .eql 87 (ptr b) (.pointer none)).run Try.prog w = .ok (.bool false) w := by
  have h : ∀ d : Nat, (Op.equalIn (d + 1) 87 (ptr b) (.pointer none)).run Try.prog w = .ok false w := fun d => by
    simp [Op.equalIn, run_underlying Try.underlying87, ptr]
  simp only [binOp]
  simp [Op.equal, Op.maxDepth, h 9999]
/- What the map of files says of a name. -/
theorem WdAtS.look {sv : Value} {w : World} {B fm rm xm : Nat} {D : DataW Unit} {vs vt : Value} {ps : List Value} {T : Tags} {st : St} (h : WdAtS sv w B fm rm xm D vs vt ps T st) (n : ByteArray) (hn : Small n) :
    (st.file n = none ∧ (Instr.lookup 81 (.map (some fm)) (.string n) false).run Try.prog w = .ok (.pointer none) w) ∨
    ∃ l b buf, st.file n = some l ∧ (Instr.lookup 81 (.map (some fm)) (.string n) false).run Try.prog w = .ok (ptr b) w ∧ D.atKey (kl n) nilD = ptrD b ∧ Bd w b buf l ∧ T b = .bld n ∧ ∀ k, buf = some k → T k = .buf n := by
  obtain ⟨v, q, hrun, hv⟩ := h.files.map.lookup keyed Try.underlying81 (zero_ptr w) rdPtr_nil (key_of hn)
  have he := h.files.each n hn
  cases ho : st.file n with
  | none =>
    rw [ho] at he
    have he : D.atKey (kl n) nilD = nilD := he
    rw [he] at hv
    rcases rdPtr_inv hv with ⟨rfl, _⟩ | ⟨b, rfl, e⟩
    · exact .inl ⟨rfl, hrun⟩
    · cases e
  | some l =>
    rw [ho] at he
    obtain ⟨b, buf, q1, q2, q3, q4⟩ := he
    rw [q1] at hv
    rcases rdPtr_inv hv with ⟨rfl, e⟩ | ⟨b2, rfl, e⟩
    · cases e
    · obtain rfl := ptrD_inj e
      exact .inr ⟨l, b, buf, rfl, hrun, q1, q2, q3, q4⟩

/- A file to write to: the one that is there, or a new one. -/
def beginS (st : St) (n : ByteArray) : St := if (st.file n).isSome then st else { st with file := setF st.file n [], made := st.made + 1 }
set_option maxRecDepth 100000 in
theorem fileX {sv : Value} {w : World} {B fm rm xm : Nat} {D : DataW Unit} {vs vt : Value} {ps : List Value} {T : Tags} {st : St} (h : WdAtS sv w B fm rm xm D vs vt ps T st) (n : ByteArray) (hn : Small n) (hm : st.made ≤ 1000000) :
    Calls Try.prog 29 #[ptr B, .string n] w fun e w' => ∃ b D' T', e = .returned (ptr b) ∧
      WdAtS sv w' B fm rm xm D' vs vt ps T' (beginS st n) ∧ (∀ k, k < w.heap.size → T' k = T k) ∧ Turn (fun k => T k ≠ .no) w w' ∧ D'.atKey (kl n) nilD = ptrD b ∧ Turn (fun k => k = fm) w w' := by
  have hC := h.cells
  have c1 := hC.c1
  rcases h.look n hn with ⟨h1, h2⟩ | ⟨l, b, buf, h1, h2, h3, h4, h5, h6⟩
  · have HH := Lib.hid (⟨h, h1⟩ : _ ∧ _)
    have hA := (Below.refl _ w).alloc (Nat.le_refl _) (.cells #[.pointer none, .slice none 0 0] 120)
    have c1' := (hC.below hA).c1
    have HA := Lib.hid (⟨h.below hA, hA⟩ : _ ∧ _)
    clear h h1 hC hA
    have hk := key_of hn
    go_enter Try.func29, Try.ntmps29
    go_wp2_with (first
      | rw [bld_eq_nil]
      | (at_mapUpdate; refine wpList_mapUpdate_in _ rfl _ _ _ 81 rfl 9 87 keyed Try.underlying81 rdPtr fm st.made D rfl HA.out.1.files.map (by unfold maxLen; omega) (.string n) (ptr w.heap.size) (kl n) rfl rfl hk (ptrD w.heap.size) [] (rdPtr_ptr _) ?_; intro w3 hown3 hturn3; have H3 := Lib.hid (⟨hown3, hturn3⟩ : _ ∧ _); clear hown3 hturn3))
    go_ret
    have hfn : T fm = .files := HH.out.1.tf
    have hfl : fm < w.heap.size := HH.out.1.lt fm (by rw [hfn]; simp)
    have hg := H3.out.2.grown
    have ht : Turn (fun k => k = fm) w w3 := ((Turn.of_grown hg).mono fun k hk => by simpa using hk).before HA.out.2
    have hbd : Bd w3 w.heap.size none [] := Bd.made ((hg.block w.heap.size (by rw [alloc_size]; omega) (by simp; omega)).trans (alloc_new w _))
    obtain ⟨T', q1, q2, q3⟩ := HH.out.1.begun hn (Nat.le_refl _) ht H3.out.1 hbd
    exact ⟨w.heap.size, _, T', rfl, by unfold beginS; rw [HH.out.2]; exact q1, q2, q3, atKey_put_same (MapIs.isMap HH.out.1.files.map) (kl_key _) _ _, ht⟩
  · have HH := Lib.hid (⟨h, h1, h3⟩ : _ ∧ _ ∧ _)
    clear h h1 hC h3 h4 h5 h6
    go_enter Try.func29, Try.ntmps29
    go_wp2_with (first | rw [bld_eq_ptr])
    go_ret
    exact ⟨b, D, T, rfl, by unfold beginS; rw [HH.out.2.1]; exact HH.out.1, fun _ _ => rfl, Turn.refl _ _, HH.out.2.2, Turn.refl _ _⟩
theorem file {sv : Value} {w : World} {B fm rm xm : Nat} {D : DataW Unit} {vs vt : Value} {ps : List Value} {T : Tags} {st : St} (h : WdAtS sv w B fm rm xm D vs vt ps T st) (n : ByteArray) (hn : Small n) (hm : st.made ≤ 1000000) :
    Calls Try.prog 29 #[ptr B, .string n] w fun e w' => ∃ b D' T', e = .returned (ptr b) ∧
      WdAtS sv w' B fm rm xm D' vs vt ps T' (beginS st n) ∧ (∀ k, k < w.heap.size → T' k = T k) ∧ Turn (fun k => T k ≠ .no) w w' ∧ D'.atKey (kl n) nilD = ptrD b :=
  (fileX h n hn hm).mono fun _ _ ⟨b, D', T', h1, h2, h3, h4, h5, _⟩ => ⟨b, D', T', h1, h2, h3, h4, h5⟩
end Go.Proofs.Ythbkcdbmimhhkaa.Wo
