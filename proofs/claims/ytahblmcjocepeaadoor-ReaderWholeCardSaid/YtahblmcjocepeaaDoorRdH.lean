/-
  Package reader: the next record (Reader.next), by one byte.
-/
import Derived.Test.YtahblmcjocepeaaDoorRdG
import Derived.Laws.EntriesVeiled
namespace Go.Proofs.YtahblmcjocepeaaDoor.Rd
open Go.RowKit Go.Maps Wo

/- A reader in memory: its stream's whole from what is left on. -/
structure RdS (w0 w : World) (c : Cst) (rb : Nat) (p : Nat) (over : Bool) (bx : List Nat) : Prop where
  rp : ∃ st, Rp w0 w c.B st (rb :: bx) ∧ c.G p st
  r : w.heap[rb]? = some (.cells (rdC rb c.B c.k c.n c.left over c.e0) 74)
  lf : c.left = c.tot.extract 0 p
  ov : over = true → p = c.tot.size
  nd : rb ∉ bx
structure Later (u : World) where
  w : World
  h : Below u.heap.size u w
instance (u : World) : Nonempty (Later u) := ⟨⟨u, Below.refl _ _⟩⟩
theorem wp_region_later {P : Program} {id : Nat} {Q : Exit → Act → World → Prop} {a : Act} {w : World} {l : List Oper} (hm : P.follows .mixedOrders = true) (hB : Region.lexB .any l.toArray = true)
    (h : wpQuiet P l.toArray (fun w' => ∃ x : Later w, w' = x.w) (fun a' => ∀ w', (∃ x : Later w, w' = x.w) → Q .normal a' w') l a) : (Code.region id l.toArray true).wp P Q a w :=
  wp_region_quiet (C := fun w' => ∃ x : Later w, w' = x.w) hm hB ⟨⟨{ w with drawn := w.drawn + 1 }, ⟨rfl, rfl, rfl, Nat.le_refl _, fun _ _ => rfl⟩⟩, rfl⟩ (by simpa using h)
theorem Later.cell {w : World} (x : Later w) {p : Addr} {v : Value} (h : w.cell? p = some v) : x.w.cell? p = some v := (x.h.cell (World.block_lt_of_cell? w p h)).trans h
theorem later_call {P : Program} {f : FuncId} {args : Array Value} {w : World} {x : Later w} {v : Value} (h : Calls P f args x.w fun e w' => e = .returned v ∧ Below x.w.heap.size x.w w') :
    Calls P f args x.w fun e w'' => e = .returned v ∧ ∃ y : Later w, w'' = y.w :=
  h.mono fun _ w' ⟨he, hb⟩ => ⟨he, ⟨w', x.h.trans (hb.mono x.h.size)⟩, rfl⟩
section
variable {w0 w : World} {c : Cst} {rb : Nat} {p : Nat} {over : Bool} {bx : List Nat}
theorem Nx.start {wB : World} {b2 eb tt t8 : Nat} (h : RdS w0 w c rb p over bx) (hb : Below w.heap.size w wB) (hl : ∀ k ∈ [b2, eb, t8, tt], w.heap.size ≤ k)
    (h2 : wB.heap[b2]? = some (.cells #[ptr rb] 38)) (he : wB.heap[eb]? = some (.cells #[.int .i64 0] 25)) (h8 : wB.heap[t8]? = some (.cells #[ptr tt] 137)) (ht : wB.heap[tt]? = some (.cells #[.string c.left, .nilFunc, .pointer none, .slice none 0 0] 139)) :
    Nx w0 (wB.setCell ⟨tt, 1, none⟩ (moreF b2 eb t8)) c ⟨rb, b2, eb, t8, tt⟩ none p p over bx ∧ Keep bx w (wB.setCell ⟨tt, 1, none⟩ (moreF b2 eb t8)) := by
  obtain ⟨st, h1, hg⟩ := h.rp
  have lt : ∀ {k : Nat} {o : Obj}, wB.heap[k]? = some o → k < wB.heap.size := fun hk => (Array.getElem?_eq_some_iff.1 hk).1
  have hlt : ∀ k ∈ rb :: bx, k < w.heap.size := fun k hk => (h1.lt hk).1
  have hr := (hb.block rb (hlt rb (by simp))).trans h.r
  have hne : ∀ {k : Nat} {cs : Array Value} {t : TypeId}, wB.heap[k]? = some (.cells cs t) → t ≠ 139 → k ≠ tt := fun {k cs t} hk h1 e => by
    rw [e, ht] at hk
    simp only [Option.some.injEq, Obj.cells.injEq] at hk
    exact h1 hk.2.1.symm
  have hm := h1.more hb (nb := [b2, eb, t8, tt]) (by
    intro k hk
    refine ⟨hl k hk, ?_⟩
    simp only [List.mem_cons, List.not_mem_nil, or_false] at hk
    rcases hk with rfl | rfl | rfl | rfl
    · exact lt h2
    · exact lt he
    · exact lt h8
    · exact lt ht)
  have hT : Turn (fun k => k = tt) wB (wB.setCell ⟨tt, 1, none⟩ (moreF b2 eb t8)) := Turn.of_set wB ⟨tt, 1, none⟩ (moreF b2 eb t8)
  have hge := hl tt (by simp)
  refine ⟨⟨⟨st, (hm.1.turn (hT.mono fun k hk => by rw [hk]; simp)).less fun k hk => ?_, hg⟩, (heap_set _ _ _ (hne hr (by decide))).trans hr, (heap_set _ _ _ (hne h2 (by decide))).trans h2, (heap_set _ _ _ (hne he (by decide))).trans he, (heap_set _ _ _ (hne h8 (by decide))).trans h8, ?_, h.ov, fun k hk hm2 => ?_, fun k hk => by cases hk⟩, fun k hk => (heap_set _ _ _ fun e => ?_).trans (hm.2 k (by simp [hk]))⟩
  · simp only [bufL, List.nil_append, List.mem_append, List.mem_cons, List.not_mem_nil, or_false] at hk ⊢
    rcases hk with (rfl | rfl | rfl | rfl | rfl) | hk
    · exact .inr (.inl rfl)
    · exact .inl (.inl rfl)
    · exact .inl (.inr (.inl rfl))
    · exact .inl (.inr (.inr (.inl rfl)))
    · exact .inl (.inr (.inr (.inr rfl)))
    · exact .inr (.inr hk)
  · refine ⟨[], ⟨.pointer none, .slice none 0 0, .inl rfl, ?_, World.ownsRowF_nil _ _ _ _, fun _ => rfl, rfl⟩, .inl rfl⟩
    rw [blk_set ht, ← h.lf]
    rfl
  · have hkl := hlt k (by simp [hm2])
    simp only [List.mem_cons, List.not_mem_nil, or_false] at hk
    rcases hk with rfl | rfl | rfl | rfl | rfl
    · exact h.nd hm2
    · have := hl k (by simp); omega
    · have := hl k (by simp); omega
    · have := hl k (by simp); omega
    · have := hl k (by simp); omega
  · have e2 : k = tt := e
    have := hlt k (by simp [hk])
    omega
/- The reader, gone on to a place. -/
def nextC (c : Cst) (m p' : Nat) : Cst := { c with tot := c.tot.extract m c.tot.size, left := c.tot.extract m p', G := fun k st => c.G (m + k) st }
theorem Nx.leave {x : Blks} {buf : Option Nat} {p' m : Nat} {over' : Bool} (h : Nx w0 w c x buf p' p' over' bx) (hm : m ≤ p') (hp : p' ≤ c.tot.size) :
    RdS w0 (w.setCell ⟨x.rb, 4, none⟩ (.string (c.tot.extract m p'))) (nextC c m p') x.rb (p' - m) over' bx ∧ Keep bx w (w.setCell ⟨x.rb, 4, none⟩ (.string (c.tot.extract m p'))) ∧ (w.setCell ⟨x.rb, 4, none⟩ (.string (c.tot.extract m p'))).cell? ⟨x.t8, 0, none⟩ = some (ptr x.tt) ∧ (w.setCell ⟨x.rb, 4, none⟩ (.string (c.tot.extract m p'))).cell? ⟨x.tt, 0, none⟩ = some (.string (c.tot.extract 0 p')) := by
  obtain ⟨st, h1, hg⟩ := h.rp
  have hne : ∀ {k : Nat} {cs : Array Value} {t : TypeId}, w.heap[k]? = some (.cells cs t) → t ≠ 74 → k ≠ x.rb := fun {k cs t} hk h1 e => by
    rw [e, h.r] at hk
    simp only [Option.some.injEq, Obj.cells.injEq] at hk
    exact h1 hk.2.1.symm
  have htt : x.tt ≠ x.rb := by
    obtain ⟨l, ⟨p, v, _, hq, _⟩, _⟩ := h.tx
    exact hne hq (by decide)
  have hT : Turn (fun k => k = x.rb) w (w.setCell ⟨x.rb, 4, none⟩ (.string (c.tot.extract m p'))) := Turn.of_set w ⟨x.rb, 4, none⟩ _
  refine ⟨⟨⟨st, (h1.turn (hT.mono fun k hk => by rw [hk]; simp)).less fun k hk => ?_, ?_⟩, ?_, ?_, fun e => ?_, h.nd.1 _ (by simp)⟩, fun k hk => heap_set _ _ _ fun e => ?_, ?_, ?_⟩
  · simp only [List.mem_append, List.mem_cons] at hk ⊢
    rcases hk with rfl | hk
    · exact .inr (.inl (.inl rfl))
    · exact .inr (.inr hk)
  · show c.G (m + (p' - m)) st
    rw [show m + (p' - m) = p' by omega]; exact hg
  · rw [blk_set h.r]; rfl
  · show c.tot.extract m p' = (c.tot.extract m c.tot.size).extract 0 (p' - m)
    rw [ByteArray.extract_extract]
    congr 1 <;> omega
  · have := h.ov e
    show p' - m = (c.tot.extract m c.tot.size).size
    rw [ByteArray.size_extract]; omega
  · have e2 : k = x.rb := e
    exact h.nd.1 x.rb (by simp) (e2 ▸ hk)
  · exact (World.cell?_of_block (heap_set _ _ _ (show x.t8 ≠ x.rb from hne h.t (by decide)))).trans (cell_of h.t 0)
  · exact (World.cell?_of_block (heap_set _ _ _ (show x.tt ≠ x.rb from htt))).trans h.tx.all.1
theorem RdS.below {w2 : World} (h : RdS w0 w c rb p over bx) (hb : Below w.heap.size w w2) : RdS w0 w2 c rb p over bx ∧ Keep bx w w2 := by
  obtain ⟨st, h1, hg⟩ := h.rp
  obtain ⟨q1, q2⟩ := h1.below hb
  exact ⟨⟨⟨st, q1, hg⟩, (q2 rb (by simp)).trans h.r, h.lf, h.ov, h.nd⟩, fun k hk => q2 k (by simp [hk])⟩
def NextPost (w0 w : World) (c : Cst) (rb p : Nat) (bx : List Nat) (q : Nat) (e : Ending) (w' : World) : Prop :=
  ∃ p' over', p ≤ p' ∧ p' ≤ c.tot.size ∧ EndAt q p' c.tot.size over' ∧ e = .returned (if p' = 0 then .tuple #[.string ⟨#[]⟩, .bool false, .int .i64 0] else .tuple #[.string (c.tot.extract 0 q), .bool true, .int .i64 0]) ∧ RdS w0 w' (nextC c (min (q + 1) p') p') rb (p' - min (q + 1) p') over' bx ∧ Keep bx w w'
set_option maxHeartbeats 2000000 in
set_option maxRecDepth 100000 in
theorem nextR (hS : Src c.B c.k c.n c.tot c.G) (hz : c.tot.size ≤ 10000000) (h : RdS w0 w c rb p over bx) (b : UInt8) :
    Calls Tryd.prog 39 #[ptr rb, .string ⟨#[b]⟩] w (NextPost w0 w c rb p bx (byteF c.tot b.toNat 0)) := by
  go_enter Tryd.func39, Tryd.ntmps39
  go_upto_region 2 with fail
  obtain ⟨wA, hA⟩ : ∃ wA, wA = (w.alloc (.cells #[ptr rb] 38)).alloc (.cells #[.int .i64 0] 25) := ⟨_, rfl⟩
  have hbA : Below w.heap.size w wA := by rw [hA]; exact ((Below.refl _ w).alloc (Nat.le_refl _) _).alloc (by rw [alloc_size]; omega) _
  have a2 : wA.heap[w.heap.size]? = some (.cells #[ptr rb] 38) := by rw [hA, alloc_old _ _ (by rw [alloc_size]; omega)]; exact alloc_new _ _
  have ae : wA.heap[w.heap.size + 1]? = some (.cells #[.int .i64 0] 25) := by rw [hA, ← alloc_size w]; exact alloc_new _ _
  have az : wA.heap.size = w.heap.size + 1 + 1 := by rw [hA, alloc_size, alloc_size]
  have ar := (hbA.block rb (Array.getElem?_eq_some_iff.1 h.r).1).trans h.r
  have q4 : wA.cell? ⟨rb, 4, none⟩ = some (.string c.left) := cell_of ar 4
  have c2 : wA.cell? ⟨w.heap.size, 0, none⟩ = some (ptr rb) := cell_of a2 0
  rw [← hA]
  clear hA
  go_upto_region 3 with fail
  obtain ⟨wB, hB⟩ : ∃ wB, wB = (wA.alloc (.cells #[.string c.left, .nilFunc, .pointer none, .slice none 0 0] 139)).alloc (.cells #[ptr (w.heap.size + 1 + 1)] 137) := ⟨_, rfl⟩
  have hbB : Below wA.heap.size wA wB := by rw [hB]; exact ((Below.refl _ wA).alloc (Nat.le_refl _) _).alloc (by rw [alloc_size]; omega) _
  have bt : wB.heap[w.heap.size + 1 + 1]? = some (.cells #[.string c.left, .nilFunc, .pointer none, .slice none 0 0] 139) := by
    rw [hB, ← az, alloc_old _ _ (by rw [alloc_size]; omega)]; exact alloc_new _ _
  have b8 : wB.heap[w.heap.size + 1 + 1 + 1]? = some (.cells #[ptr (w.heap.size + 1 + 1)] 137) := by
    rw [hB, ← az, ← alloc_size wA]; exact alloc_new _ _
  have b2 := (hbB.block w.heap.size (by omega)).trans a2
  have be := (hbB.block (w.heap.size + 1) (by omega)).trans ae
  have hN := Nx.start h (hbA.trans (hbB.mono hbA.size)) (by
    intro k hk
    simp only [List.mem_cons, List.not_mem_nil, or_false] at hk
    rcases hk with rfl | rfl | rfl | rfl <;> omega) b2 be b8 bt
  have c8 : wB.cell? ⟨w.heap.size + 1 + 1 + 1, 0, none⟩ = some (ptr (w.heap.size + 1 + 1)) := cell_of b8 0
  have ct : wB.cell? ⟨w.heap.size + 1 + 1, 1, none⟩ = some .nilFunc := cell_of bt 1
  have zt : wB.frozen? ⟨w.heap.size + 1 + 1, 1, none⟩ = false := frozen_of bt 1
  rw [← hB]
  clear hB q4 c2 hbA hbB bt b8 b2 be a2 ae az ar
  generalize w.heap.size + 1 + 1 + 1 = t8 at *
  generalize w.heap.size + 1 + 1 = tt at *
  generalize w.heap.size + 1 = eb at *
  generalize hnb2 : w.heap.size = nb2 at hN ⊢
  have HN := Lib.hid hN
  clear hN
  go_upto_region 4 with fail
  obtain ⟨wC, hC⟩ : ∃ wC, wC = wB.setCell ⟨tt, 1, none⟩ (moreF nb2 eb t8) := ⟨_, rfl⟩
  have hN := HN.out
  rw [← hC] at hN ⊢
  have HH := Lib.hid (⟨h, hS⟩ : _ ∧ _)
  clear hC HN ct zt c8 h hS
  obtain ⟨_, _, _, c8, _, _⟩ := hN.1.cells
  have HN := Lib.hid hN
  clear hN
  go_upto_region 5 with (go_at_call 65; refine (record HH.out.2 hz HN.out.1 b).mono ?_; rintro e w3 ⟨p', ov', buf', rfl, hn3, hk3, hp3, he3⟩; obtain ⟨q, hq⟩ : ∃ q, q = byteF c.tot (b.toNat : Int) 0 := ⟨_, rfl⟩; rw [← hq] at he3 ⊢; obtain ⟨m, hm⟩ : ∃ m, m = min (q + 1) p' := ⟨_, rfl⟩; rw [← hm]; have H3 := Lib.hid (⟨hn3, HN.out.2.trans hk3, hp3, he3, hq, hm⟩ : _ ∧ _ ∧ _ ∧ _ ∧ _ ∧ _); clear hn3 hk3 hp3 he3 hq hm c8)
  obtain ⟨w4, hW⟩ : ∃ w4, w4 = w3.alloc (.cells #[.int .i64 0, .int .i64 (q : Int), .int .i64 (m : Int)] 142) := ⟨_, rfl⟩
  have hb4 : Below w3.heap.size w3 w4 := by rw [hW]; exact (Below.refl _ w3).alloc (Nat.le_refl _) _
  have s4 : w4.heap[w3.heap.size]? = some (.cells #[.int .i64 0, .int .i64 (q : Int), .int .i64 (m : Int)] 142) := by rw [hW]; exact alloc_new _ _
  rw [← hW]
  clear hW
  have hn4 := H3.out.1.below hb4
  have hk4 : Keep bx w w4 := H3.out.2.1.trans fun k hk => by
    obtain ⟨st, h1, _⟩ := H3.out.1.rp
    exact hb4.block k ((h1.lt (b := k) (by simp [hk])).1)
  clear hb4
  generalize w3.heap.size = sp at s4 ⊢
  obtain ⟨c2, ce, _, c8, _, _⟩ := hn4.cells
  have p0 : w4.cell? ⟨sp, 0, none⟩ = some (.int .i64 0) := cell_of s4 0
  have p1 : w4.cell? ⟨sp, 1, none⟩ = some (.int .i64 (q : Int)) := cell_of s4 1
  have p2 : w4.cell? ⟨sp, 2, none⟩ = some (.int .i64 (m : Int)) := cell_of s4 2
  have H4 := Lib.hid (⟨hn4, hk4, s4⟩ : _ ∧ _ ∧ _)
  have hmz : m ≤ (c.tot.extract 0 p').size := by
    have := H3.out.2.2.2.2.2
    have hle : p' ≤ c.tot.size := by
      obtain ⟨st, h1, h2⟩ := hn4.rp
      exact HH.out.2.le _ _ h2
    rw [ByteArray.size_extract]
    omega
  have hAz : (c.tot.extract 0 p').size ≤ 10000000 := by rw [ByteArray.size_extract]; omega
  have l4 : w4.cell? ⟨rb, 4, none⟩ = some (.string c.left) := cell_of hn4.r 4
  have z4 : w4.frozen? ⟨rb, 4, none⟩ = false := frozen_of hn4.r 4
  have hle0 : p' ≤ c.tot.size := by
    obtain ⟨st, h1, h2⟩ := hn4.rp
    exact HH.out.2.le _ _ h2
  obtain ⟨lf, hlf⟩ : ∃ lf, lf = c.tot.extract m p' := ⟨_, rfl⟩
  have hex : (c.tot.extract 0 p').extract m (c.tot.extract 0 p').size = lf := by
    have hmp : m ≤ p' := by have := H3.out.2.2.2.2.2; omega
    rw [hlf, ByteArray.size_extract, ByteArray.extract_extract]
    congr 1 <;> omega
  have HEX := Lib.hid (⟨hex, hlf⟩ : _ ∧ _)
  clear s4 hn4 hk4 hex hlf hle0
  go_upto_region 8 with fail
  go_region_law (go_simp; go_at_call 66; refine (behind (H4.out.1.below (Below.refl _ _).drew).tx m hmz hAz).mono ?_; rintro e w5 ⟨rfl, hb5⟩; rw [HEX.out.1]; have h5 := H4.out.1.below ((Below.refl _ w4).drew.trans hb5); have c2' := h5.cells.1; have l4' : w5.cell? ⟨rb, 4, none⟩ = some (.string c.left) := cell_of h5.r 4; have z4' : w5.frozen? ⟨rb, 4, none⟩ = false := frozen_of h5.r 4; have H5 := Lib.hid (⟨h5, (Below.refl _ w4).drew.trans hb5⟩ : _ ∧ _); clear h5 hb5)
  all_goals
    have hle : p' ≤ c.tot.size := by
      obtain ⟨st, h1, h2⟩ := H5.out.1.rp
      exact HH.out.2.le _ _ h2
    have hmp : m ≤ p' := by have := H3.out.2.2.2.2.2; omega
    obtain ⟨hL1, hL2, hL3, hL4⟩ := H5.out.1.leave hmp hle
    rw [← HEX.out.2] at hL1 hL2 hL3 hL4
    have hs5 := (H5.out.2.block sp (Array.getElem?_eq_some_iff.1 H4.out.2.2).1).trans H4.out.2.2
    have hspr : sp ≠ rb := fun e => by
      rw [e, H5.out.1.r] at hs5
      simp only [Option.some.injEq, Obj.cells.injEq] at hs5
      exact absurd hs5.2.1 (by decide)
    obtain ⟨w6, h6⟩ : ∃ w6, w6 = w5.setCell ⟨rb, 4, none⟩ (.string lf) := ⟨_, rfl⟩
    have hs6 : w6.heap[sp]? = some (.cells #[.int .i64 0, .int .i64 (q : Int), .int .i64 (m : Int)] 142) := by rw [h6, heap_set _ _ _ (show sp ≠ rb from hspr)]; exact hs5
    have hk6 : Keep bx w w6 := by
      rw [h6]
      refine (H4.out.2.1.trans fun k hk => ?_).trans hL2
      obtain ⟨st, h1, _⟩ := H4.out.1.rp
      exact H5.out.2.block k ((h1.lt (b := k) (by simp [hk])).1)
    rw [← h6] at hL1 hL3 hL4 ⊢
    have H6 := Lib.hid (⟨hL1, hk6, hle⟩ : _ ∧ _ ∧ _)
    have s0 : w6.cell? ⟨sp, 0, none⟩ = some (.int .i64 0) := cell_of hs6 0
    have s1 : w6.cell? ⟨sp, 1, none⟩ = some (.int .i64 (q : Int)) := cell_of hs6 1
    obtain ⟨A, hA⟩ : ∃ A, A = c.tot.extract 0 p' := ⟨_, rfl⟩
    rw [← hA] at hL4
    have hAi : (A.size : Int) = (p' : Int) := by rw [hA, ByteArray.size_extract]; omega
    have HX := Lib.hid hA
    clear hL1 hL2 hs5 hspr h6 hs6 hk6 hA c2 ce c8 p0 p1 p2 l4 z4 c2' l4' z4' hmz hAz
    have hqp : q ≤ p' := by rcases H3.out.2.2.2.1 with e | e <;> omega
    have hq1 : ¬ (A.size : Int) < (q : Int) := by omega
    have hq0 : 0 ≤ (q : Int) := by omega
    have hqA : (q : Int) ≤ (A.size : Int) := by omega
    have hcz : (A.extract 0 q).size ≤ 281474976710656 := by rw [ByteArray.size_extract]; omega
    have hAq : A.extract 0 q = c.tot.extract 0 q := by
      rw [HX.out, ByteArray.extract_extract]
      congr 1 <;> omega
    have HAQ := Lib.hid (⟨hAq, hqp⟩ : _ ∧ _)
    clear hAq hqp
    by_cases hp0 : p' = 0
    · have ha0 : (A.size : Int) = 0 := by omega
      have HP := Lib.hid hp0
      clear hp0 hAi hq1 hqA
      go_wp2_with fail
      go_quiet (fail)
      go_wp2_with fail
      refine bodyPost_ret (v := .tuple #[.string ⟨#[]⟩, .bool false, .int .i64 0]) (by simp [results, Tryd.results39, go_sem]) rfl ?_
      have hb7 : Below w6.heap.size w6 (w6.drewN nq) := below_drewN (Below.refl _ _) nq
      obtain ⟨r1, r2⟩ := H6.out.1.below hb7
      unfold NextPost
      rw [← H3.out.2.2.2.2.1]
      rw [H3.out.2.2.2.2.2] at r1
      exact ⟨p', ov', H3.out.2.2.1, H6.out.2.2, H3.out.2.2.2.1, by rw [if_pos HP.out], r1, H6.out.2.1.trans r2⟩
    · have ha0 : ¬ (A.size : Int) = 0 := by omega
      have ha1 : ¬ 0 = (A.size : Int) := by omega
      have ha2 : ((0 : Int) == (A.size : Int)) = false := beq_eq_false_iff_ne.2 ha1
      have HP := Lib.hid hp0
      clear hp0 hAi
      go_wp2_with fail
      go_quiet (fail)
      go_wp2_with fail
      have hb7 : Below w6.heap.size w6 (w6.drewN nq) := below_drewN (Below.refl _ _) nq
      obtain ⟨r1, r2⟩ := H6.out.1.below hb7
      have H7 := Lib.hid (⟨r1, H6.out.2.1.trans r2⟩ : _ ∧ _)
      have k8 := (hb7.cell (World.block_lt_of_cell? w6 _ hL3)).trans hL3
      have kt := (hb7.cell (World.block_lt_of_cell? w6 _ hL4)).trans hL4
      have k0 := (hb7.cell (World.block_lt_of_cell? w6 _ s0)).trans s0
      have k1 := (hb7.cell (World.block_lt_of_cell? w6 _ s1)).trans s1
      clear hb7 r1 r2 hL3 hL4 s0 s1
      generalize w6.drewN nq = w7 at *
      refine wp_region_later (by kernel_rfl) (by kernel_rfl) ?_
      have k8L := fun y : Later w7 => y.cell k8
      have ktL := fun y : Later w7 => y.cell kt
      have k0L := fun y : Later w7 => y.cell k0
      have k1L := fun y : Later w7 => y.cell k1
      repeat (with_reducible refine wpQuiet_step ?_; intro K hK; go_simp; first | (refine hK _ ?_; clear hK K) | (apply Exists.intro; refine ⟨fun y => ?_, hK _ ?_⟩; (go_at_call 67; exact later_call (clone _ _ hcz)); clear hK K))
      refine wpQuiet_nil ?_
      rintro w8 ⟨y, rfl⟩
      obtain ⟨r1, r2⟩ := H7.out.1.below y.h
      go_wp2_with fail
      refine bodyPost_ret (v := .tuple #[.string (c.tot.extract 0 q), .bool true, .int .i64 0]) (by rw [← HAQ.out.1]; simp [results, Tryd.results39, go_sem]) rfl ?_
      unfold NextPost
      rw [← H3.out.2.2.2.2.1]
      rw [H3.out.2.2.2.2.2] at r1
      exact ⟨p', ov', H3.out.2.2.1, H6.out.2.2, H3.out.2.2.2.1, by rw [if_neg HP.out], r1, H7.out.2.trans r2⟩
end
end Go.Proofs.YtahblmcjocepeaaDoor.Rd
