/-
  Package arrays: what the calls answer: Has, Len, Get, Peek, Delete, Clear, Copy.
-/
import Derived.Test.YtlagnklmfanmoaaArG
import Derived.Deep.RegionWith
namespace Go.Proofs.Ytlagnklmfanmoaa.Ar
open Go.RowKit Go.Maps

theorem Turn.of_set (w : World) (p : Addr) (v : Value) : Turn (fun k => k = p.block) w (w.setCell p v) :=
  ⟨rfl, rfl, rfl, by rw [size_set]; exact Nat.le_refl _, fun k _ hk => heap_set w p v hk⟩
theorem Turn.set {S : Nat → Prop} {a b : World} (h : Turn S a b) (p : Addr) (v : Value) (hs : S p.block ∨ a.heap.size ≤ p.block) : Turn S a (b.setCell p v) :=
  h.trans (Turn.of_set b p v) fun i hi => by rw [hi]; exact hs
theorem nextOf {w w2 : World} {a pb : Nat} {S F S2 : Nat → Prop} {N N2 : Nat} {rs rs2 : List Row} (h : ArrAt w a pb S F N rs) (ht : Turn S w w2) (hr : IsRows w2 S2 N2 pb rs2) (hg : ∀ k, S2 k → S k ∨ w.heap.size ≤ k) : Next w w2 a N2 F (live rs2) :=
  ⟨_, ⟨pb, S2, rs2, h.turned ht hr hg, rfl⟩, ht.mono h.sub, fun k hk => hk.elim .inl fun h2 => (hg k h2).imp (h.sub k) id⟩
/- What a call has made of its own ahead of it and behind it. -/
theorem Next.around {w w1 w2 w3 : World} {a N : Nat} {F G : Nat → Prop} {L : List KV} (hb : Below w.heap.size w w1) (hn : Next w1 w2 a N F L) (ht : Turn G w2 w3) (hG : ∀ k, G k → w.heap.size ≤ k ∧ k < w1.heap.size) (hF : ∀ k, F k → k < w.heap.size) : Next w w3 a N F L := by
  obtain ⟨F', hA, hT, hs⟩ := hn
  refine ⟨F', hA.apart ht fun k hk hg => ?_, ((Turn.of_below hb).trans hT fun i hi => .inl hi).trans ht fun i hi => .inr (hG i hi).1, fun k hk => ?_⟩
  · have := hG k hg
    rcases hs k hk with h | h
    · have := hF k h; omega
    · omega
  · rcases hs k hk with h | h
    · exact .inl h
    · exact .inr (Nat.le_trans hb.size h)

/- A cell laid into a block of one's own. -/
def put3 (w : World) (b : Nat) (c : Cell) : World := ((w.setCell ⟨b, 0, none⟩ (.int .u8 c.kind)).setCell ⟨b, 1, none⟩ (.int .u64 c.n)).setCell ⟨b, 2, none⟩ (.string c.s)
structure Own3 (w : World) (b : Nat) (c : Cell) : Prop where
  z0 : w.cell? ⟨b, 0, none⟩ = some (.int .u8 c.kind)
  z1 : w.cell? ⟨b, 1, none⟩ = some (.int .u64 c.n)
  z2 : w.cell? ⟨b, 2, none⟩ = some (.string c.s)
  y0 : w.frozen? ⟨b, 0, none⟩ = false
  y1 : w.frozen? ⟨b, 1, none⟩ = false
  y2 : w.frozen? ⟨b, 2, none⟩ = false
theorem own3 {w : World} {b : Nat} {c : Cell} (h : w.heap[b]? = some (.cells ⟨c.cells⟩ 31)) : Own3 w b c := by
  unfold Cell.cells at h
  exact ⟨by simp [World.cell?, h], by simp [World.cell?, h], by simp [World.cell?, h], by simp [World.frozen?, h], by simp [World.frozen?, h], by simp [World.frozen?, h]⟩
theorem put3_own {w : World} {b : Nat} {c d : Cell} (h : Own3 w b d) : Own3 (put3 w b c) b c where
  z0 := by
    unfold put3
    rw [World.cell?_setCell_other _ _ _ _ (by simp), World.cell?_setCell_other _ _ _ _ (by simp), World.cell?_setCell_same' _ _ _ (by rw [h.z0]; rfl)]
  z1 := by
    unfold put3
    rw [World.cell?_setCell_other _ _ _ _ (by simp), World.cell?_setCell_same' _ _ _ (by rw [World.cell?_setCell_other _ _ _ _ (by simp), h.z1]; rfl)]
  z2 := by
    unfold put3
    rw [World.cell?_setCell_same' _ _ _ (by rw [World.cell?_setCell_other _ _ _ _ (by simp), World.cell?_setCell_other _ _ _ _ (by simp), h.z2]; rfl)]
  y0 := by unfold put3; rw [World.frozen?_setCell, World.frozen?_setCell, World.frozen?_setCell]; exact h.y0
  y1 := by unfold put3; rw [World.frozen?_setCell, World.frozen?_setCell, World.frozen?_setCell]; exact h.y1
  y2 := by unfold put3; rw [World.frozen?_setCell, World.frozen?_setCell, World.frozen?_setCell]; exact h.y2
theorem put3_turn (w : World) (b : Nat) (c : Cell) : Turn (fun k => k = b) w (put3 w b c) := by
  have h1 : Turn (fun k => k = b) w (w.setCell ⟨b, 0, none⟩ (.int .u8 c.kind)) := Turn.of_set w ⟨b, 0, none⟩ (.int .u8 c.kind)
  have h2 := h1.set ⟨b, 1, none⟩ (.int .u64 c.n) (.inl rfl)
  exact h2.set ⟨b, 2, none⟩ (.string c.s) (.inl rfl)

theorem hasCall {w : World} {a N : Nat} {F : Nat → Prop} {L : List KV} (s : ByteArray) (h : Arr w a N F L) (hs : s.size ≤ 1000000) :
    Calls Try.prog 17 #[.pointer (some ⟨a, 0, none⟩), .string s] w fun e w' => e = .returned (.bool (hasL L s)) ∧ w' = w := by
  obtain ⟨pb, S, rs, hA, hl⟩ := h
  obtain ⟨mb, g, cap, D, hR⟩ := hA.rows
  have c0 := hA.c0
  have c1 := hA.c1
  have p0 := hR.p0
  have hiff := hR.ties.has_iff s
  rw [hl] at hiff
  rw [← hiff]
  have HR := Lib.hid hR
  clear hA hR hl hiff
  cases hh : has D (kl s)
  all_goals
    go_enter Try.func17, Try.ntmps17
    go_wp2_with (first
      | (go_at_call 31; refine (made_at c0).mono ?_; rintro e w' ⟨rfl, rfl⟩)
      | (at_lookup; refine wpList_lookup_own_ok_int _ rfl _ _ 70 rfl 9 3 .i64 keyed Try.underlying70 Try.underlying3 (zero_int _) mb N D rfl HR.out.map _ _ rfl (key_of hs) ?_; intro c hat hwc; rw [hh]))
    go_ret
    exact ⟨rfl, rfl⟩

theorem len {w : World} {a N : Nat} {F : Nat → Prop} {L : List KV} (h : Arr w a N F L) :
    Calls Try.prog 16 #[.pointer (some ⟨a, 0, none⟩)] w fun e w' => e = .returned (.int .i64 L.length) ∧ w' = w := by
  obtain ⟨pb, S, rs, hA, hl⟩ := h
  obtain ⟨mb, g, cap, D, hR⟩ := hA.rows
  have c0 := hA.c0
  have c1 := hA.c1
  have p0 := hR.p0
  have hsz := hR.ties.size
  rw [hl] at hsz
  have HR := Lib.hid hR
  have HZ := Lib.hid hsz
  clear hA hR hl hsz
  go_enter Try.func16, Try.ntmps16
  go_wp2_with (first
    | (go_at_call 31; refine (made_at c0).mono ?_; rintro e w' ⟨rfl, rfl⟩)
    | (at_len; refine wpList_len_own _ rfl _ 70 rfl 9 3 Try.underlying70 _ mb N D rfl HR.out.map ?_))
  rw [HZ.out]
  go_ret
  exact ⟨rfl, rfl⟩

set_option maxRecDepth 100000 in
theorem get {w : World} {a N : Nat} {F : Nat → Prop} {L : List KV} (s : ByteArray) (h : Arr w a N F L) (hs : s.size ≤ 1000000) (hN : N < 1000000) :
    Calls Try.prog 18 #[.pointer (some ⟨a, 0, none⟩), .string s] w fun e w' => e = .returned (.agg ⟨(cellL L s).cells⟩) ∧ Next w w' a (if hasL L s then N else N + 1) F (askL L s) := by
  obtain ⟨pb, S, rs, hA, hl⟩ := h
  obtain ⟨mb, g, cap, D, hR⟩ := hA.rows
  have c0 := hA.c0
  have c1 := hA.c1
  have al := hA.lt a hA.fa
  have hF := hA.lt
  subst hl
  have HH := Lib.hid (⟨hA, hR⟩ : _ ∧ _)
  clear hA hR
  obtain ⟨N2, hN2⟩ : ∃ N2, N2 = if hasL (live rs) s then N else N + 1 := ⟨_, rfl⟩
  rw [← hN2]
  have HN2 := Lib.hid hN2
  clear hN2
  go_enter Try.func18, Try.ntmps18
  go_wp2_with (first
    | (go_at_call 31; refine (made_at (((Below.refl _ w).alloc (Nat.le_refl _) _).cell (p := ⟨a, 0, none⟩) al |>.trans c0)).mono ?_; rintro e w' ⟨rfl, rfl⟩)
    | (go_at_call 32; refine (row s (HH.out.2.below ((Below.refl _ w).alloc (Nat.le_refl _) _)) hs hN).mono ?_; rintro e w2 ⟨S', g', cap', D', rs', i, rfl, hR2, hT, hG, r, hri, hrt, hrk, hlv, hcl⟩; have f1 := hR2.cells hri 1 _ rfl; have f2 := hR2.cells hri 2 _ rfl; have f3 := hR2.cells hri 3 _ rfl; have o0 := (hT.block w.heap.size (by rw [alloc_size]; omega) (fun k => by have := hF _ (HH.out.1.sub _ k); omega)); rw [alloc_new] at o0; have O0 := own3 (c := Cell.zero) o0; rw [← HN2.out] at hR2; obtain ⟨z0, z1, z2, y0, y1, y2⟩ := O0; have HR2 := Lib.hid (⟨hR2, hT, hG, hlv, hcl, o0⟩ : _ ∧ _ ∧ _ ∧ _ ∧ _ ∧ _); clear hR2 hT hG hri hrt hrk hlv hcl o0))
  obtain ⟨q0, q1, q2, _, _, _⟩ := put3_own (c := r.cell) (own3 (c := Cell.zero) HR2.out.2.2.2.2.2)
  have hp : put3 w2 w.heap.size r.cell = _ := rfl
  unfold put3 at hp q0 q1 q2
  refine bodyPost_ret (v := .agg ⟨r.cell.cells⟩) (by simp [results, Try.results18, go_sem, q0, q1, q2, Cell.cells]) rfl ?_
  refine ⟨by rw [HR2.out.2.2.2.2.1], ?_⟩
  have hn := nextOf (HH.out.1.below ((Below.refl _ w).alloc (Nat.le_refl _) _)) HR2.out.2.1 ⟨_, _, _, _, HR2.out.1⟩ HR2.out.2.2.1
  rw [HR2.out.2.2.2.1] at hn
  exact hn.around ((Below.refl _ w).alloc (Nat.le_refl _) _) (put3_turn w2 w.heap.size r.cell) (fun k hk => by rw [hk, alloc_size]; omega) hF
end Go.Proofs.Ytlagnklmfanmoaa.Ar
