/-
  Package world: what turns in a world: its streams, its trace, a file, what is handed in, what a stream has left.
-/
import Derived.Test.YtahblmcjocepeaaDoorWoC
namespace Go.Proofs.YtahblmcjocepeaaDoor.Wo
open Go.RowKit Go.Maps

theorem ne_part {T : Tags} {a b : Nat} {x y : Part} (ha : T a = x) (hb : T b = y) (h : x ≠ y) : a ≠ b := fun e => h (by rw [← ha, ← hb, e])

def tagAt (T : Tags) (o : Option Nat) (x : Part) : Tags := fun k => if o = some k then x else T k
theorem tagAt_other {T : Tags} {o : Option Nat} {x : Part} {k : Nat} (h : o ≠ some k) : tagAt T o x k = T k := if_neg h
theorem tagAt_same {T : Tags} {k : Nat} {x : Part} : tagAt T (some k) x k = x := if_pos rfl
/- The tagged block is of that part already, or is new. -/
theorem tagAt_old {T : Tags} {o : Option Nat} {x : Part} {H : Nat} (hT : ∀ k, T k ≠ .no → k < H) (h : ∀ k, o = some k → T k = x ∨ H ≤ k) : (∀ k, T k ≠ .no → tagAt T o x k = T k) ∧ ∀ k, k < H → tagAt T o x k = T k ∨ (T k = .no ∧ False) := by
  refine ⟨fun k hk => ?_, fun k hk => .inl ?_⟩
  · by_cases e : o = some k
    · subst e
      rw [tagAt_same]
      rcases h k rfl with h1 | h1
      · exact h1.symm
      · have := hT k hk; omega
    · exact tagAt_other e
  · by_cases e : o = some k
    · subst e
      rw [tagAt_same]
      rcases h k rfl with h1 | h1
      · exact h1.symm
      · omega
    · exact tagAt_other e

theorem blk_set {w : World} {B : Nat} {cs : Array Value} {t : TypeId} (h : w.heap[B]? = some (.cells cs t)) (i : Nat) (v : Value) : (w.setCell ⟨B, i, none⟩ v).heap[B]? = some (.cells (cs.setIfInBounds i v) t) := by
  simp [World.setCell, Array.getElem?_modify, h]

theorem MapIs.isMap {w : World} {mb N : Nat} {D : DataW Unit} (h : MapIs w mb N D) : IsMap D := by
  obtain ⟨es, clock, _, _, _, rfl⟩ := h
  exact ⟨_, rfl⟩
theorem kl_key (s : ByteArray) : WideAt.IsKeyLit (kl s) := by
  unfold WideAt.IsKeyLit kl
  first | trivial | exact ⟨_, rfl⟩ | simp

structure WdZ (sv : Value) (Z : Part → Prop) (w : World) (B fm rm xm : Nat) (D : DataW Unit) (vs vt : Value) (ps : List Value) (T : Tags) (st : St) : Prop where
  blk : ¬ Z .self → w.heap[B]? = some (.cells #[sv, .map (some fm), .string st.stdin, .map (some rm), .map (some xm), .int .i64 st.most, .int .i64 st.clock, .int .u64 st.chance, vs, vt] 104)
  tB : T B = .self
  tf : T fm = .files
  tr : T rm = .replies
  tx : T xm = .fails
  map : ¬ Z .files → MapIs w fm st.made D
  file : ∀ n, Small n → ¬ Z (.bld n) → ¬ Z (.buf n) → FileIs w T D n (st.file n)
  replies : ¬ Z .replies → Replies w rm st.reply
  fails : ¬ Z .fails → Fails w xm st.fails
  slen : ps.length = st.streams.length
  srow : ¬ Z .streams → w.ownsRow 0 115 3 vs st.streams.length (flatS st.streams ps)
  stag : ∀ k, vs.ownBlock = some k → T k = .streams
  src : ∀ (i : Nat) s p, st.streams[i]? = some s → ps[i]? = some p → ¬ Z (.left s.kind s.name) → SrcAt w B T s p
  kinds : ∀ s ∈ st.streams, 1 ≤ s.kind ∧ s.kind ≤ 5 ∧ Small s.name
  uniq : Uniq st.streams
  trow : ¬ Z .trace → w.ownsRow 0 119 5 vt st.trace.length (flatE st.trace)
  ttag : ∀ k, vt.ownBlock = some k → T k = .trace
  lt : ∀ k, T k ≠ .no → k < w.heap.size

section
variable {sv : Value} {w : World} {B fm rm xm : Nat} {D : DataW Unit} {vs vt : Value} {ps : List Value} {T : Tags} {st : St}

theorem WdAtS.frame (h : WdAtS sv w B fm rm xm D vs vt ps T st) (Z : Part → Prop) {w' : World} {T' : Tags} (hb : ∀ k, T k ≠ .no → ¬ Z (T k) → w'.heap[k]? = w.heap[k]?) (hT : ∀ k, T k ≠ .no → T' k = T k) (hl : ∀ k, T' k ≠ .no → k < w'.heap.size) :
    WdZ sv Z w' B fm rm xm D vs vt ps T' st := by
  have h2 : WdAtS sv w B fm rm xm D vs vt ps (fun k => T k) st := h
  exact {
    blk := fun hz => (hb B (by rw [h.tB]; simp) (by rw [h.tB]; exact hz)).trans h.blk
    tB := (hT B (by rw [h.tB]; simp)).trans h.tB
    tf := (hT fm (by rw [h.tf]; simp)).trans h.tf
    tr := (hT rm (by rw [h.tr]; simp)).trans h.tr
    tx := (hT xm (by rw [h.tx]; simp)).trans h.tx
    map := fun hz => h.files.map.of_block (hb fm (by rw [h.tf]; simp) (by rw [h.tf]; exact hz))
    file := fun n hn h1 h2 => by
      have q := h.files.each n hn
      cases ho : st.file n with
      | none => rw [ho] at q; exact q
      | some l =>
        rw [ho] at q
        obtain ⟨b, buf, q1, q2, q3, q4⟩ := q
        refine ⟨b, buf, q1, q2.later (hb b (by rw [q3]; simp) (by rw [q3]; exact h1)) fun k hk => hb k (by rw [q4 k hk]; simp) (by rw [q4 k hk]; exact h2), (hT b (by rw [q3]; simp)).trans q3, fun k hk => (hT k (by rw [q4 k hk]; simp)).trans (q4 k hk)⟩
    replies := fun hz => h.replies.of_block (hb rm (by rw [h.tr]; simp) (by rw [h.tr]; exact hz))
    fails := fun hz => h.fails.of_block (hb xm (by rw [h.tx]; simp) (by rw [h.tx]; exact hz))
    slen := h.streams.len
    srow := fun hz => row_of_block h.streams.row fun k hk => hb k (by rw [h.streams.tag k hk]; simp) (by rw [h.streams.tag k hk]; exact hz)
    stag := fun k hk => (hT k (by rw [h.streams.tag k hk]; simp)).trans (h.streams.tag k hk)
    src := fun i s p h1 h2 hz => by
      have q := h.streams.each i s p h1 h2
      unfold SrcAt at q ⊢
      cases hs : s.src with
      | none => rw [hs] at q; exact q
      | stdin => rw [hs] at q; exact q
      | own t =>
        rw [hs] at q
        obtain ⟨b, q1, q2, q3⟩ := q
        exact ⟨b, q1, (hb b (by rw [q3]; simp) (by rw [q3]; exact hz)).trans q2, (hT b (by rw [q3]; simp)).trans q3⟩
    kinds := h.streams.kinds
    uniq := h.streams.uniq
    trow := fun hz => row_of_block h.trace.row fun k hk => hb k (by rw [h.trace.tag k hk]; simp) (by rw [h.trace.tag k hk]; exact hz)
    ttag := fun k hk => (hT k (by rw [h.trace.tag k hk]; simp)).trans (h.trace.tag k hk)
    lt := hl }

theorem hT_of {H : Nat} {T' : Tags} (hT : ∀ k, T k ≠ .no → k < H) (h : ∀ k, k < H → T' k = T k) : ∀ k, T k ≠ .no → T' k = T k := fun k hk => h k (hT k hk)

/- An event more. -/
theorem WdAtS.noted (h : WdAtS sv w B fm rm xm D vs vt ps T st) {w1 : World} {v' : Value} (e : Ev) (hg : w.grownBy w1 vt.ownBlock) (hr : w1.ownsRow 0 119 5 v' (st.trace.length + 1) (flatE st.trace ++ e.cells)) (hat : ∀ k, v'.ownBlock = some k → vt.ownBlock = some k ∨ w.heap.size ≤ k) :
    ∃ T', WdAtS sv (w1.setCell ⟨B, 9, none⟩ v') B fm rm xm D vs v' ps T' { st with trace := st.trace ++ [e] } ∧ (∀ k, k < w.heap.size → T' k = T k) ∧ Turn (fun k => T k ≠ .no) w (w1.setCell ⟨B, 9, none⟩ v') := by
  have hBn : T B ≠ .no := by rw [h.tB]; simp
  have hBl := h.lt B hBn
  have hBt : some B ≠ vt.ownBlock := fun e => by have := h.trace.tag B e.symm; rw [h.tB] at this; cases this
  have hvB : v'.ownBlock ≠ some B := fun e => by
    rcases hat B e with h1 | h1
    · exact hBt h1.symm
    · omega
  have ho := tagAt_old (o := v'.ownBlock) (x := .trace) h.lt fun k hk => (hat k hk).imp (h.trace.tag k) id
  have hx : ∀ k, k < w.heap.size → tagAt T v'.ownBlock .trace k = T k := fun k hk => (ho.2 k hk).elim id fun h => h.2.elim
  have f := h.frame (fun p => p = .self ∨ p = .trace) (w' := w1.setCell ⟨B, 9, none⟩ v') (T' := tagAt T v'.ownBlock .trace) (fun k h0 hz => by
    rw [heap_set _ _ _ (fun e => hz (.inl (by rw [e]; exact h.tB)))]
    exact hg.block k (h.lt k h0) fun e => hz (.inr (h.trace.tag k e.symm))) ho.1 (fun k hk => by
    rw [size_set]
    by_cases e : v'.ownBlock = some k
    · exact (hr.lt k e).2
    · rw [tagAt_other e] at hk
      exact Nat.lt_of_lt_of_le (h.lt k hk) hg.size)
  refine ⟨tagAt T v'.ownBlock .trace, ⟨?_, f.tB, f.tf, f.tr, f.tx, ⟨f.map (by simp), fun n hn => f.file n hn (by simp) (by simp)⟩, f.replies (by simp), f.fails (by simp), ⟨f.slen, f.srow (by simp), f.stag, fun i s p h1 h2 => f.src i s p h1 h2 (by simp), f.kinds, f.uniq⟩, ⟨?_, fun k hk => by rw [hk]; exact tagAt_same⟩, f.lt⟩, hx, ?_⟩
  · rw [blk_set ((hg.block B hBl hBt).trans h.blk)]
    rfl
  · have hlen : (flatE st.trace ++ e.cells) = flatE (st.trace ++ [e]) := by simp [flatE]
    rw [← hlen, List.length_append]
    exact row_of_block hr fun k hk => heap_set _ _ _ fun e => hvB (by rw [hk, e])
  · exact (Turn.of_grown hg).mono (fun k hk => by rw [h.trace.tag k hk.symm]; simp) |>.trans (Turn.of_set _ _ _) fun k hk => .inl (by rw [hk]; exact hBn)

/- Other streams. -/
theorem WdAtS.streamed (h : WdAtS sv w B fm rm xm D vs vt ps T st) {w1 : World} {v' : Value} {l : List Strm} {ps' : List Value} (hg : w.grownBy w1 vs.ownBlock) (hlen : ps'.length = l.length) (hr : w1.ownsRow 0 115 3 v' l.length (flatS l ps')) (hat : ∀ k, v'.ownBlock = some k → vs.ownBlock = some k ∨ w.heap.size ≤ k)
    (hsrc : ∀ (i : Nat) s p, l[i]? = some s → ps'[i]? = some p → SrcAt w B T s p) (hk : ∀ s ∈ l, 1 ≤ s.kind ∧ s.kind ≤ 5 ∧ Small s.name) (hu : Uniq l) :
    ∃ T', WdAtS sv (w1.setCell ⟨B, 8, none⟩ v') B fm rm xm D v' vt ps' T' { st with streams := l } ∧ (∀ k, k < w.heap.size → T' k = T k) ∧ Turn (fun k => T k ≠ .no) w (w1.setCell ⟨B, 8, none⟩ v') := by
  have hBn : T B ≠ .no := by rw [h.tB]; simp
  have hBl := h.lt B hBn
  have hBt : some B ≠ vs.ownBlock := fun e => by have := h.streams.tag B e.symm; rw [h.tB] at this; cases this
  have hvB : v'.ownBlock ≠ some B := fun e => by
    rcases hat B e with h1 | h1
    · exact hBt h1.symm
    · omega
  have ho := tagAt_old (o := v'.ownBlock) (x := .streams) h.lt fun k hk => (hat k hk).imp (h.streams.tag k) id
  have hx : ∀ k, k < w.heap.size → tagAt T v'.ownBlock .streams k = T k := fun k hk => (ho.2 k hk).elim id fun h => h.2.elim
  have hblk : ∀ k, T k ≠ .no → ¬ (T k = .self ∨ T k = .streams) → (w1.setCell ⟨B, 8, none⟩ v').heap[k]? = w.heap[k]? := fun k h0 hz => by
    rw [heap_set _ _ _ (fun e => hz (.inl (by rw [e]; exact h.tB)))]
    exact hg.block k (h.lt k h0) fun e => hz (.inr (h.streams.tag k e.symm))
  have f := h.frame (fun p => p = .self ∨ p = .streams) (w' := w1.setCell ⟨B, 8, none⟩ v') (T' := tagAt T v'.ownBlock .streams) hblk ho.1 (fun k hk => by
    rw [size_set]
    by_cases e : v'.ownBlock = some k
    · exact (hr.lt k e).2
    · rw [tagAt_other e] at hk
      exact Nat.lt_of_lt_of_le (h.lt k hk) hg.size)
  refine ⟨tagAt T v'.ownBlock .streams, ⟨?_, f.tB, f.tf, f.tr, f.tx, ⟨f.map (by simp), fun n hn => f.file n hn (by simp) (by simp)⟩, f.replies (by simp), f.fails (by simp), ⟨hlen, ?_, fun k hk => by rw [hk]; exact tagAt_same, fun i s p h1 h2 => ?_, hk, hu⟩, ⟨f.trow (by simp), f.ttag⟩, f.lt⟩, hx, ?_⟩
  · rw [blk_set ((hg.block B hBl hBt).trans h.blk)]
    rfl
  · exact row_of_block hr fun k hk => heap_set _ _ _ fun e => hvB (by rw [hk, e])
  · exact ((hsrc i s p h1 h2).retag hx).later fun k hk => by
      by_cases e : v'.ownBlock = some k
      · rw [e, tagAt_same] at hk; cases hk
      · rw [tagAt_other e] at hk
        exact hblk k (by rw [hk]; simp) (by rw [hk]; simp)
  · exact (Turn.of_grown hg).mono (fun k hk => by rw [h.streams.tag k hk.symm]; simp) |>.trans (Turn.of_set _ _ _) fun k hk => .inl (by rw [hk]; exact hBn)

def setF (f : ByteArray → Option (List UInt8)) (n : ByteArray) (l : List UInt8) : ByteArray → Option (List UInt8) := fun m => if m = n then some l else f m

/- A file's bytes. -/
theorem WdAtS.wrote (h : WdAtS sv w B fm rm xm D vs vt ps T st) {n : ByteArray} {b : Nat} {buf buf' : Option Nat} {l l' : List UInt8} (hn : Small n) (hd : D.atKey (kl n) nilD = ptrD b) (hb : Bd w b buf l) (tb : T b = .bld n) (tg : ∀ k, buf = some k → T k = .buf n)
    {w' : World} (ht : Turn (fun k => k = b ∨ some k = buf) w w') (hb' : Bd w' b buf' l') (hat : ∀ k, buf' = some k → buf = some k ∨ w.heap.size ≤ k) :
    ∃ T', WdAtS sv w' B fm rm xm D vs vt ps T' { st with file := setF st.file n l' } ∧ (∀ k, k < w.heap.size → T' k = T k) ∧ Turn (fun k => T k ≠ .no) w w' := by
  have ho := tagAt_old (o := buf') (x := .buf n) h.lt fun k hk => (hat k hk).imp (tg k) id
  have hx : ∀ k, k < w.heap.size → tagAt T buf' (.buf n) k = T k := fun k hk => (ho.2 k hk).elim id fun h => h.2.elim
  have f := h.frame (fun p => p = .bld n ∨ p = .buf n) (w' := w') (T' := tagAt T buf' (.buf n)) (fun k h0 hz => ht.block k (h.lt k h0) fun e => by
    rcases e with rfl | e
    · exact hz (.inl tb)
    · exact hz (.inr (tg k e.symm))) ho.1 (fun k hk => by
    by_cases e : buf' = some k
    · exact hb'.ltBuf k e
    · rw [tagAt_other e] at hk
      exact Nat.lt_of_lt_of_le (h.lt k hk) ht.size)
  refine ⟨tagAt T buf' (.buf n), ⟨f.blk (by simp), f.tB, f.tf, f.tr, f.tx, ⟨f.map (by simp), fun m hm => ?_⟩, f.replies (by simp), f.fails (by simp), ⟨f.slen, f.srow (by simp), f.stag, fun i s p h1 h2 => f.src i s p h1 h2 (by simp), f.kinds, f.uniq⟩, ⟨f.trow (by simp), f.ttag⟩, f.lt⟩, hx, ?_⟩
  · by_cases e : m = n
    · subst e
      show FileIs _ _ _ _ (setF _ _ _ _)
      rw [setF, if_pos rfl]
      exact ⟨b, buf', hd, hb', (hx b hb.lt).trans tb, fun k hk => by rw [hk]; exact tagAt_same⟩
    · have := f.file m hm (by simp [e]) (by simp [e])
      show FileIs _ _ _ _ (setF _ _ _ _)
      rw [setF, if_neg e]
      exact this
  · exact ht.mono fun k hk => by
      rcases hk with rfl | hk
      · rw [tb]; simp
      · rw [tg k hk.symm]; simp

/- A file that was not there. -/
theorem WdAtS.begun (h : WdAtS sv w B fm rm xm D vs vt ps T st) {n : ByteArray} {b : Nat} (hn : Small n) {w' : World} (hbs : w.heap.size ≤ b) (ht : Turn (fun k => k = fm) w w') (hm : MapIs w' fm (st.made + 1) (D.put (kl n) (ptrD b))) (hb' : Bd w' b none []) :
    ∃ T', WdAtS sv w' B fm rm xm (D.put (kl n) (ptrD b)) vs vt ps T' { st with file := setF st.file n [], made := st.made + 1 } ∧ (∀ k, k < w.heap.size → T' k = T k) ∧ Turn (fun k => T k ≠ .no) w w' := by
  have ho := tagAt_old (o := some b) (x := .bld n) h.lt fun k hk => .inr (by cases hk; exact hbs)
  have hx : ∀ k, k < w.heap.size → tagAt T (some b) (.bld n) k = T k := fun k hk => (ho.2 k hk).elim id fun h => h.2.elim
  have f := h.frame (fun p => p = .files) (w' := w') (T' := tagAt T (some b) (.bld n)) (fun k h0 hz => ht.block k (h.lt k h0) fun e => hz (by rw [e]; exact h.tf)) ho.1 (fun k hk => by
    by_cases e : some b = some k
    · cases e; exact hb'.lt
    · rw [tagAt_other e] at hk
      exact Nat.lt_of_lt_of_le (h.lt k hk) ht.size)
  refine ⟨tagAt T (some b) (.bld n), ⟨f.blk (by simp), f.tB, f.tf, f.tr, f.tx, ⟨hm, fun m hm2 => ?_⟩, f.replies (by simp), f.fails (by simp), ⟨f.slen, f.srow (by simp), f.stag, fun i s p h1 h2 => f.src i s p h1 h2 (by simp), f.kinds, f.uniq⟩, ⟨f.trow (by simp), f.ttag⟩, f.lt⟩, hx, ht.mono fun k hk => by rw [hk, h.tf]; simp⟩
  have hD : IsMap D := MapIs.isMap h.files.map
  by_cases e : m = n
  · subst e
    show FileIs _ _ _ _ (setF _ _ _ _)
    rw [setF, if_pos rfl]
    exact ⟨b, none, atKey_put_same hD (kl_key _) _ _, hb', tagAt_same, fun k hk => by cases hk⟩
  · have q := f.file m hm2 (by simp) (by simp)
    show FileIs _ _ _ _ (setF _ _ _ _)
    rw [setF, if_neg e]
    have hk : (D.put (kl n) (ptrD b)).atKey (kl m) nilD = D.atKey (kl m) nilD := atKey_put_other (fun e2 => e (kl_inj e2)) _ _
    cases ho : st.file m with
    | none => rw [ho] at q; exact hk.trans q
    | some l =>
      rw [ho] at q
      obtain ⟨b2, buf, q1, q2, q3, q4⟩ := q
      exact ⟨b2, buf, hk.trans q1, q2, q3, q4⟩

/- What is handed in has been read on. -/
theorem WdAtS.stdin (h : WdAtS sv w B fm rm xm D vs vt ps T st) (s : ByteArray) :
    WdAtS sv (w.setCell ⟨B, 2, none⟩ (.string s)) B fm rm xm D vs vt ps T { st with stdin := s } ∧ Turn (fun k => T k ≠ .no) w (w.setCell ⟨B, 2, none⟩ (.string s)) := by
  have hBn : T B ≠ .no := by rw [h.tB]; simp
  have f := h.frame (fun p => p = .self) (w' := w.setCell ⟨B, 2, none⟩ (.string s)) (T' := T) (fun k h0 hz => heap_set _ _ _ (fun e => hz (by rw [e]; exact h.tB))) (fun k _ => rfl) (fun k hk => by rw [size_set]; exact h.lt k hk)
  refine ⟨⟨?_, f.tB, f.tf, f.tr, f.tx, ⟨f.map (by simp), fun n hn => f.file n hn (by simp) (by simp)⟩, f.replies (by simp), f.fails (by simp), ⟨f.slen, f.srow (by simp), f.stag, fun i s p h1 h2 => f.src i s p h1 h2 (by simp), f.kinds, f.uniq⟩, ⟨f.trow (by simp), f.ttag⟩, f.lt⟩, (Turn.of_set _ _ _).mono fun k hk => by rw [hk]; exact hBn⟩
  rw [blk_set h.blk]
  rfl
/- The next number of chance. -/
theorem WdAtS.chance (h : WdAtS sv w B fm rm xm D vs vt ps T st) (c : Int) :
    WdAtS sv (w.setCell ⟨B, 7, none⟩ (.int .u64 c)) B fm rm xm D vs vt ps T { st with chance := c } ∧ Turn (fun k => T k ≠ .no) w (w.setCell ⟨B, 7, none⟩ (.int .u64 c)) := by
  have hBn : T B ≠ .no := by rw [h.tB]; simp
  have f := h.frame (fun p => p = .self) (w' := w.setCell ⟨B, 7, none⟩ (.int .u64 c)) (T' := T) (fun k h0 hz => heap_set _ _ _ (fun e => hz (by rw [e]; exact h.tB))) (fun k _ => rfl) (fun k hk => by rw [size_set]; exact h.lt k hk)
  refine ⟨⟨?_, f.tB, f.tf, f.tr, f.tx, ⟨f.map (by simp), fun n hn => f.file n hn (by simp) (by simp)⟩, f.replies (by simp), f.fails (by simp), ⟨f.slen, f.srow (by simp), f.stag, fun i s p h1 h2 => f.src i s p h1 h2 (by simp), f.kinds, f.uniq⟩, ⟨f.trow (by simp), f.ttag⟩, f.lt⟩, (Turn.of_set _ _ _).mono fun k hk => by rw [hk]; exact hBn⟩
  rw [blk_set h.blk]
  rfl

theorem flatS_set {l : List Strm} {ps : List Value} {i : Nat} {s : Strm} {x : Src} (hi : l[i]? = some s) : flatS (l.set i { s with src := x }) ps = flatS l ps := by
  induction l generalizing i ps with
  | nil => simp at hi
  | cons a r ih =>
    cases i with
    | zero =>
      have : a = s := by simpa using hi
      subst this
      cases ps <;> rfl
    | succ i =>
      cases ps with
      | nil => rfl
      | cons p q =>
        rw [List.set_cons_succ, flatS, flatS, ih (by simpa using hi)]
theorem uniq_ne {l : List Strm} (h : Uniq l) {i j : Nat} {a b : Strm} (hi : l[i]? = some a) (hj : l[j]? = some b) (hij : i ≠ j) : ¬ (a.kind = b.kind ∧ a.name = b.name) := by
  unfold Uniq at h
  rw [List.pairwise_iff_getElem] at h
  obtain ⟨h1, rfl⟩ := List.getElem?_eq_some_iff.1 hi
  obtain ⟨h2, rfl⟩ := List.getElem?_eq_some_iff.1 hj
  rcases Nat.lt_or_gt_of_ne hij with hlt | hlt
  · exact h i j h1 h2 hlt
  · exact fun e => h j i h2 h1 hlt ⟨e.1.symm, e.2.symm⟩
theorem uniq_set {l : List Strm} (h : Uniq l) {i : Nat} {s : Strm} {x : Src} (hi : l[i]? = some s) : Uniq (l.set i { s with src := x }) := by
  have hm : (l.set i { s with src := x }).map (fun s => (s.kind, s.name)) = l.map (fun s => (s.kind, s.name)) := by
    rw [List.map_set]
    obtain ⟨h1, rfl⟩ := List.getElem?_eq_some_iff.1 hi
    apply List.ext_getElem (by simp)
    intro k h2 h3
    rw [List.getElem_set]
    split
    · subst_vars; simp
    · rfl
  have hp : ∀ l : List Strm, Uniq l ↔ (l.map fun s => (s.kind, s.name)).Pairwise (· ≠ ·) := fun l => by
    unfold Uniq
    rw [List.pairwise_map]
    constructor <;> intro h <;> refine h.imp fun h2 h3 => h2 ?_
    · simpa using h3
    · simpa using h3
  rw [hp] at h ⊢
  rw [hm]
  exact h
/- A stream of its own text has been read on. -/
theorem WdAtS.readOn (h : WdAtS sv w B fm rm xm D vs vt ps T st) {i b : Nat} {s : Strm} (t : ByteArray) (hi : st.streams[i]? = some s) (hp : ps[i]? = some (ptr b)) {t0 : ByteArray} (hs : s.src = .own t0) :
    WdAtS sv (w.setCell ⟨b, 0, none⟩ (.string t)) B fm rm xm D vs vt ps T { st with streams := st.streams.set i { s with src := .own t } } ∧ Turn (fun k => T k ≠ .no) w (w.setCell ⟨b, 0, none⟩ (.string t)) := by
  have hsrc := h.streams.each i s (ptr b) hi hp
  unfold SrcAt at hsrc
  rw [hs] at hsrc
  obtain ⟨b2, e, hb, tb⟩ := hsrc
  obtain rfl : b = b2 := by simpa [ptr] using e
  have hbn : T b ≠ .no := by rw [tb]; simp
  have f := h.frame (fun p => p = .left s.kind s.name) (w' := w.setCell ⟨b, 0, none⟩ (.string t)) (T' := T) (fun k h0 hz => heap_set _ _ _ (fun e => hz (by rw [e]; exact tb))) (fun k _ => rfl) (fun k hk => by rw [size_set]; exact h.lt k hk)
  have hlt : i < st.streams.length := (List.getElem?_eq_some_iff.1 hi).1
  refine ⟨⟨f.blk (by simp), f.tB, f.tf, f.tr, f.tx, ⟨f.map (by simp), fun n hn => f.file n hn (by simp) (by simp)⟩, f.replies (by simp), f.fails (by simp), ⟨?_, ?_, f.stag, ?_, ?_, ?_⟩, ⟨f.trow (by simp), f.ttag⟩, f.lt⟩, (Turn.of_set _ _ _).mono fun k hk => by rw [hk]; exact hbn⟩
  · show ps.length = (st.streams.set i _).length
    rw [List.length_set]; exact f.slen
  · show World.ownsRow _ 0 _ 3 vs (st.streams.set i _).length (flatS (st.streams.set i _) ps)
    rw [List.length_set, flatS_set hi]
    exact f.srow (by simp)
  · intro i2 s2 p2 h1 h2
    by_cases e : i = i2
    · subst e
      have h1' : st.streams[i]? = some s := hi
      rw [List.getElem?_set_self hlt] at h1
      cases h1
      rw [hp] at h2
      cases h2
      exact ⟨b, rfl, by rw [blk_set hb]; rfl, tb⟩
    · rw [List.getElem?_set_ne e] at h1
      refine f.src i2 s2 p2 h1 h2 fun e2 => ?_
      have hne := uniq_ne h.streams.uniq hi h1 (fun e3 => e e3)
      injection e2 with e4 e5
      exact hne ⟨e4.symm, e5.symm⟩
  · intro s2 hs2
    rcases List.mem_or_eq_of_mem_set hs2 with h1 | rfl
    · exact f.kinds s2 h1
    · exact f.kinds s (List.mem_of_getElem? hi)
  · exact uniq_set h.streams.uniq hi
end
end Go.Proofs.YtahblmcjocepeaaDoor.Wo
