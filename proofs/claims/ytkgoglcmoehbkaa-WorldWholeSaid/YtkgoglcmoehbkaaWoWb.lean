/-
  A world that is being played with, beside blocks of the law's own; reading and writing there (WorldWhole).
-/
import Derived.Test.YtkgoglcmoehbkaaWoWa
namespace Go.Proofs.Ytkgoglcmoehbkaa.Wo
open Go.RowKit Go.Maps

abbrev Blk := Nat × Array Value × TypeId
def PlayL (w wr : World) (B : Nat) (st : St) (L : List Blk) : Prop := ∃ fm rm xm D vs vt ps T, WdAt wr B fm rm xm D vs vt ps T st ∧ (∀ k, T k ≠ .no → w.heap.size ≤ k) ∧ Below w.heap.size w wr ∧ ∀ x ∈ L, T x.1 = .no ∧ w.heap.size ≤ x.1 ∧ wr.heap[x.1]? = some (.cells x.2.1 x.2.2)
section
variable {w wr : World} {B : Nat} {st : St} {L : List Blk}
theorem Play.blocks (h : Play w wr B st) : PlayL w wr B st [] := by
  obtain ⟨fm, rm, xm, D, vs, vt, ps, T, h1, h2, h3⟩ := h
  exact ⟨fm, rm, xm, D, vs, vt, ps, T, h1, h2, h3, fun x hx => by cases hx⟩
theorem PlayL.play (h : PlayL w wr B st L) : Play w wr B st := by
  obtain ⟨fm, rm, xm, D, vs, vt, ps, T, h1, h2, h3, _⟩ := h
  exact ⟨fm, rm, xm, D, vs, vt, ps, T, h1, h2, h3⟩
theorem PlayL.sub {L' : List Blk} (h : PlayL w wr B st L) (hs : ∀ x ∈ L', x ∈ L) : PlayL w wr B st L' := by
  obtain ⟨fm, rm, xm, D, vs, vt, ps, T, h1, h2, h3, h4⟩ := h
  exact ⟨fm, rm, xm, D, vs, vt, ps, T, h1, h2, h3, fun x hx => h4 x (hs x hx)⟩
theorem PlayL.lt (h : PlayL w wr B st L) {x : Blk} (hx : x ∈ L) : x.1 < wr.heap.size := by
  obtain ⟨fm, rm, xm, D, vs, vt, ps, T, h1, h2, h3, h4⟩ := h
  exact (Array.getElem?_eq_some_iff.1 (h4 x hx).2.2).1
theorem PlayL.cell (h : PlayL w wr B st L) {b : Nat} {cs : Array Value} {t : TypeId} (hx : (b, cs, t) ∈ L) (i : Nat) : wr.cell? ⟨b, i, none⟩ = cs[i]? := by
  obtain ⟨fm, rm, xm, D, vs, vt, ps, T, h1, h2, h3, h4⟩ := h
  have := (h4 _ hx).2.2
  simp only at this
  simp [World.cell?, this]
theorem PlayL.frozen (h : PlayL w wr B st L) {b : Nat} {cs : Array Value} {t : TypeId} (hx : (b, cs, t) ∈ L) (i : Nat) : wr.frozen? ⟨b, i, none⟩ = false := by
  obtain ⟨fm, rm, xm, D, vs, vt, ps, T, h1, h2, h3, h4⟩ := h
  have := (h4 _ hx).2.2
  simp only at this
  simp [World.frozen?, this]
theorem PlayL.box (h : PlayL w wr B st L) (cs : Array Value) (t : TypeId) : PlayL w (wr.alloc (.cells cs t)) B st ((wr.heap.size, cs, t) :: L) := by
  obtain ⟨fm, rm, xm, D, vs, vt, ps, T, h1, h2, h3, h4⟩ := h
  have hb : Below wr.heap.size wr (wr.alloc (.cells cs t)) := (Below.refl _ wr).alloc (Nat.le_refl _) _
  refine ⟨fm, rm, xm, D, vs, vt, ps, T, h1.below hb, h2, h3.trans (hb.mono h3.size), fun x hx => ?_⟩
  rcases List.mem_cons.1 hx with rfl | hx
  · exact ⟨Classical.byContradiction fun e => by have := h1.lt _ e; omega, h3.size, alloc_new _ _⟩
  · obtain ⟨q1, q2, q3⟩ := h4 x hx
    exact ⟨q1, q2, (alloc_old _ _ (Array.getElem?_eq_some_iff.1 q3).1).trans q3⟩
theorem PlayL.below {w2 : World} (h : PlayL w wr B st L) (hb : Below wr.heap.size wr w2) : PlayL w w2 B st L := by
  obtain ⟨fm, rm, xm, D, vs, vt, ps, T, h1, h2, h3, h4⟩ := h
  exact ⟨fm, rm, xm, D, vs, vt, ps, T, h1.below hb, h2, h3.trans (hb.mono h3.size), fun x hx => ⟨(h4 x hx).1, (h4 x hx).2.1, (hb.block x.1 (Array.getElem?_eq_some_iff.1 (h4 x hx).2.2).1).trans (h4 x hx).2.2⟩⟩
theorem PlayL.drewN (h : PlayL w wr B st L) (m : Nat) : PlayL w (wr.drewN m) B st L := by
  obtain ⟨fm, rm, xm, D, vs, vt, ps, T, h1, h2, h3, h4⟩ := h
  exact ⟨fm, rm, xm, D, vs, vt, ps, T, h1.drewN m, h2, below_drewN h3 m, h4⟩
theorem PlayL.set {b : Nat} {cs : Array Value} {t : TypeId} (h : PlayL w wr B st ((b, cs, t) :: L)) (hn : ∀ x ∈ L, x.1 ≠ b) (i : Nat) (v : Value) : PlayL w (wr.setCell ⟨b, i, none⟩ v) B st ((b, cs.setIfInBounds i v, t) :: L) := by
  obtain ⟨fm, rm, xm, D, vs, vt, ps, T, h1, h2, h3, h4⟩ := h
  obtain ⟨q1, q2, q3⟩ := h4 _ List.mem_cons_self
  simp only at q1 q2 q3
  refine ⟨fm, rm, xm, D, vs, vt, ps, T, h1.later (by rw [size_set]; exact Nat.le_refl _) fun k hk => heap_set _ _ _ (fun e => hk (by rw [e]; exact q1)), h2, ⟨h3.os, h3.tape, h3.output, by rw [size_set]; exact h3.size, fun k hk => (heap_set _ _ _ (fun e => by have e2 : k = b := e; omega)).trans (h3.block k hk)⟩, fun x hx => ?_⟩
  rcases List.mem_cons.1 hx with rfl | hx
  · exact ⟨q1, q2, blk_set q3 i v⟩
  · obtain ⟨p1, p2, p3⟩ := h4 x (List.mem_cons_of_mem _ hx)
    exact ⟨p1, p2, (heap_set _ _ _ (fun e => hn x hx e)).trans p3⟩
/- A call of the world, played. -/
theorem PlayL.call {f : FuncId} {args : Array Value} {R : Ending → St → Prop} (h : PlayL w wr B st L)
    (op : ∀ fm rm xm D vs vt ps T, WdAt wr B fm rm xm D vs vt ps T st → Calls Try.prog f args wr fun e w2 => ∃ st2, R e st2 ∧ Goes wr w2 B T st2) : Calls Try.prog f args wr fun e w2 => ∃ st2, R e st2 ∧ PlayL w w2 B st2 L := by
  obtain ⟨fm, rm, xm, D, vs, vt, ps, T, h1, h2, h3, h4⟩ := h
  refine (op _ _ _ _ _ _ _ _ h1).mono fun e w2 ⟨st2, he, hg⟩ => ⟨st2, he, ?_⟩
  obtain ⟨fm, rm, xm, D, vs, vt, ps, T2, g1, g2, g3⟩ := hg
  refine ⟨fm, rm, xm, D, vs, vt, ps, T2, g1, fun k hk => ?_, h3.trans ⟨g3.os, g3.tape, g3.output, g3.size, fun k hk => g3.block k (Nat.lt_of_lt_of_le hk h3.size) fun e2 => by have := h2 k e2; omega⟩, fun x hx => ?_⟩
  · by_cases hl : k < wr.heap.size
    · rw [g2 k hl] at hk; exact h2 k hk
    · have := h3.size; omega
  · obtain ⟨p1, p2, p3⟩ := h4 x hx
    have hlt := (Array.getElem?_eq_some_iff.1 p3).1
    exact ⟨(g2 _ hlt).trans p1, p2, (g3.block _ hlt fun e2 => e2 p1).trans p3⟩
theorem PlayL.fileOf (h : PlayL w wr B st L) {n : ByteArray} (hn : Small n) {l : List UInt8} (hf : st.file n = some l) :
    Calls Try.prog 16 #[ptr B, .string n] wr fun e w2 => e = .returned (.tuple #[.string (txt l), .bool true]) ∧ PlayL w w2 B st L := by
  refine (h.call (R := fun e st' => e = .returned (.tuple #[.string (txt l), .bool true]) ∧ st' = st) fun fm rm xm D vs vt ps T q => (Wo.fileOf q hn).mono ?_).mono ?_
  · rintro e w2 ⟨he, hg⟩
    refine ⟨_, ⟨?_, rfl⟩, hg⟩
    rw [he, hf]; rfl
  · rintro e w2 ⟨st2, ⟨he, rfl⟩, hp⟩
    exact ⟨he, hp⟩
theorem PlayL.trace (h : PlayL w wr B st L) (ht : st.trace.length ≤ 1000000) :
    Calls Try.prog 13 #[ptr B] wr fun e w2 => ∃ v, e = .returned v ∧ w2.ownsRow wr.heap.size 67 5 v st.trace.length (flatE st.trace) ∧ PlayL w w2 B st L := by
  have h0 := h
  obtain ⟨fm, rm, xm, D, vs, vt, ps, T, h1, h2, h3, h4⟩ := h
  exact (traceOf h1 ht).mono fun e w2 ⟨v, he, hr, hb⟩ => ⟨v, he, hr, h0.below hb⟩

theorem small_in (k : Nat) : Small (inN k) := by
  unfold Small
  match k with
  | 0 => decide
  | 1 => decide
  | k + 2 => show nC.size ≤ 1000000; decide
theorem small_out (k : Nat) : Small (outN k) := by
  unfold Small
  match k with
  | 0 => decide
  | 1 => decide
  | k + 2 => show nP.size ≤ 1000000; decide
theorem out_range (k : Nat) : 0 ≤ outK k ∧ outK k < 256 := by
  match k with
  | 0 => decide
  | 1 => decide
  | k + 2 => show (0 : Int) ≤ 5 ∧ (5 : Int) < 256; decide
theorem whl_streams {l0 l1 l2 : ByteArray} {pf po pp : List UInt8} {st : St} (h : Whl l0 l1 l2 pf po pp st) : st.streams.length = 6 := by rw [h.streams]; rfl
abbrev WhlF (l : Nat → ByteArray) (pf po pp : List UInt8) (st : St) : Prop := Whl (l 0) (l 1) (l 2) pf po pp st
theorem pick3_fn (l : Nat → ByteArray) {k : Nat} (hk : k < 3) : pick3 (l 0) (l 1) (l 2) k = l k := by
  match k, hk with
  | 0, _ => rfl
  | 1, _ => rfl
  | 2, _ => rfl
theorem whlF_took {l : Nat → ByteArray} {pf po pp : List UInt8} {st : St} (h : WhlF l pf po pp st) {k : Nat} (hk : k < 3) (t : ByteArray) : WhlF (set3 l k t) pf po pp (tookS st k (strmAt (l 0) (l 2) k) t) := by
  have := whl_took h hk t
  match k, hk with
  | 0, _ => exact this
  | 1, _ => exact this
  | 2, _ => exact this
theorem took_trace (st : St) (i : Nat) (s : Strm) (t : ByteArray) : (tookS st i s t).trace = st.trace := by
  unfold tookS
  split <;> rfl
theorem cut_whole (t : ByteArray) (n : Nat) : t.extract 0 n ++ t.extract n t.size = t := by
  rw [ByteArray.extract_append_extract]
  by_cases h : n ≤ t.size
  · rw [Nat.min_eq_left (Nat.zero_le _), Nat.max_eq_right h, ByteArray.extract_zero_size]
  · rw [Nat.min_eq_left (Nat.zero_le _), Nat.max_eq_left (by omega)]
    apply ByteArray.ext
    simp
    omega
theorem PlayL.readW (h : PlayL w wr B st L) {l : Nat → ByteArray} {pf po pp : List UInt8} (hW : WhlF l pf po pp st) {k : Nat} (hk : k < 3) {m : Int} (h1 : 1 ≤ m) (h2 : m ≤ 1000000) (hl : (l k).size ≤ 1000000) :
    Calls Try.prog 21 #[ptr B, .int .u8 (inK k), .string (inN k), .int .i64 m] wr fun e w2 => ∃ s t st2, e = .returned (.tuple #[.string s, .int .i64 0]) ∧ s ++ t = l k ∧ (((l k).size : Int) ≤ m → s = l k ∧ t = noText) ∧ PlayL w w2 B st2 L ∧ WhlF (set3 l k t) pf po pp st2 ∧ st2.trace = st.trace := by
  have hR := whl_reads hW hk
  have hsz : ∀ i s t, some (k, strmAt (l 0) (l 2) k, pick3 (l 0) (l 1) (l 2) k) = some (i, s, t) → t.size ≤ 1000000000 := by
    intro i s t e
    simp only [Option.some.injEq, Prod.mk.injEq] at e
    rw [← e.2.2, pick3_fn l hk]; omega
  have hE : readE st (inN k) m (some (k, strmAt (l 0) (l 2) k, pick3 (l 0) (l 1) (l 2) k)) = 0 := by
    unfold readE
    rw [if_neg (by simp), if_neg (by omega), if_neg (by rw [hW.fails]; decide)]
  refine (h.call (R := fun e st' => e = .returned (.tuple #[.string ((l k).extract 0 (cutN m (l k))), .int .i64 0]) ∧ st' = tookS st k (strmAt (l 0) (l 2) k) ((l k).extract (cutN m (l k)) (l k).size)) fun fm rm xm D vs vt ps T q => (read_ q (small_in k) (by rw [whl_streams hW]; decide) ⟨by omega, by omega⟩ hR hsz).mono ?_).mono ?_
  · intro e w2 hp
    unfold ReadPost at hp
    simp only at hp
    rw [if_pos hE, pick3_fn l hk] at hp
    exact ⟨_, ⟨hp.1, rfl⟩, hp.2⟩
  · rintro e w2 ⟨st2, ⟨he, rfl⟩, hp⟩
    refine ⟨_, _, _, he, cut_whole _ _, fun hm => ?_, hp, whlF_took hW hk _, took_trace _ _ _ _⟩
    have hc : cutN m (l k) = (l k).size := by unfold cutN; omega
    rw [hc]
    exact ⟨ByteArray.extract_zero_size, by apply ByteArray.ext; simp⟩
theorem PlayL.writeW (h : PlayL w wr B st L) {l q : Nat → ByteArray} {file : ByteArray} (hW : WhlF l (file ++ q 1).data.toList (q 0).data.toList (q 2).data.toList st) {k : Nat} (hk : k < 3) {d : ByteArray} (hd : d.size ≤ 1000000) (hf : file.size ≤ 1000000) (hq : ∀ i, (q i).size ≤ 1000000) (ht : st.trace.length ≤ 1000000) :
    Calls Try.prog 22 #[ptr B, .int .u8 (outK k), .string (outN k), .string d] wr fun e w2 => e = .returned (.int .i64 0) ∧ ∃ st2, PlayL w w2 B st2 L ∧ WhlF l (file ++ set3 q k (q k ++ d) 1).data.toList (set3 q k (q k ++ d) 0).data.toList (set3 q k (q k ++ d) 2).data.toList st2 ∧ st2.trace.length ≤ st.trace.length + 1 := by
  obtain ⟨hE, hW2, ht2⟩ := whl_writes hW hk d
  have hfl : ((st.file (outN k)).getD []).length ≤ 3000000 := by
    match k, hk with
    | 0, _ => show ((st.file nO).getD []).length ≤ _; rw [hW.o]; have := hq 0; show (q 0).data.toList.length ≤ _; rw [Array.length_toList]; show (q 0).size ≤ _; omega
    | 1, _ => show ((st.file nF).getD []).length ≤ _; rw [hW.f]; have := hq 1; show (file ++ q 1).data.toList.length ≤ _; rw [Array.length_toList]; show (file ++ q 1).size ≤ _; rw [ByteArray.size_append]; omega
    | 2, _ =>
      show ((st.file nP).getD []).length ≤ _
      rw [hW.p]; decide
  refine (h.call (R := fun e st' => e = .returned (.int .i64 0) ∧ st' = writeS st (outK k) (outN k) d) fun fm rm xm D vs vt ps T q' => (write_ q' (out_range k) (small_out k) (by have := hW.made; omega) (by rw [whl_streams hW]; decide) ht (by omega)).mono ?_).mono ?_
  · rintro e w2 ⟨he, hg⟩
    rw [hE] at he
    exact ⟨_, ⟨he, rfl⟩, hg⟩
  · rintro e w2 ⟨st2, ⟨he, rfl⟩, hp⟩
    refine ⟨he, _, hp, ?_, ht2⟩
    match k, hk with
    | 0, _ => simpa [set3, ByteArray.data_append] using hW2
    | 1, _ => simpa [set3, ByteArray.data_append] using hW2
    | 2, _ => simpa [set3, ByteArray.data_append] using hW2
end
end Go.Proofs.Ytkgoglcmoehbkaa.Wo
