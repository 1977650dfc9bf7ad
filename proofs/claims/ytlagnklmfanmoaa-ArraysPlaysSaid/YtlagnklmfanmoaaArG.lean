/-
  Package arrays: arrays in memory, and what their calls answer (New, Has, Len, Set, Get, Peek).
-/
import Derived.Test.YtlagnklmfanmoaaArF
import Derived.LaidEqlPtr
namespace Go.Proofs.Ytlagnklmfanmoaa.Ar
open Go.RowKit Go.Maps

theorem IsRows.lt {w : World} {S : Nat → Prop} {N pb : Nat} {rs : List Row} (h : IsRows w S N pb rs) : ∀ k, S k → k < w.heap.size := by
  obtain ⟨_, _, _, _, h⟩ := h; exact h.lt
theorem IsRows.s1 {w : World} {S : Nat → Prop} {N pb : Nat} {rs : List Row} (h : IsRows w S N pb rs) : S pb := by
  obtain ⟨_, _, _, _, h⟩ := h; exact h.s1
theorem IsRows.len {w : World} {S : Nat → Prop} {N pb : Nat} {rs : List Row} (h : IsRows w S N pb rs) : rs.length ≤ N := by
  obtain ⟨_, _, _, _, h⟩ := h; exact h.len
theorem IsRows.once {w : World} {S : Nat → Prop} {N pb : Nat} {rs : List Row} (h : IsRows w S N pb rs) : Once rs := by
  obtain ⟨_, _, _, _, h⟩ := h; exact h.ties.once
theorem IsRows.small {w : World} {S : Nat → Prop} {N pb : Nat} {rs : List Row} (h : IsRows w S N pb rs) : ∀ r ∈ rs, r.key.size ≤ 1000000 := by
  obtain ⟨_, _, _, _, h⟩ := h; exact h.ties.small
theorem IsRows.mono {w : World} {S : Nat → Prop} {N M pb : Nat} {rs : List Row} (h : IsRows w S N pb rs) (hm : N ≤ M) : IsRows w S M pb rs := by
  obtain ⟨a, b, c, d, h⟩ := h; exact ⟨a, b, c, d, h.mono hm⟩
theorem IsRows.later {w w' : World} {S : Nat → Prop} {N pb : Nat} {rs : List Row} (h : IsRows w S N pb rs) (hs : w.heap.size ≤ w'.heap.size) (hb : ∀ k, S k → w'.heap[k]? = w.heap[k]?) : IsRows w' S N pb rs := by
  obtain ⟨a, b, c, d, h⟩ := h; exact ⟨a, b, c, d, h.later hs hb⟩
theorem IsRows.below {w w' : World} {S : Nat → Prop} {N pb : Nat} {rs : List Row} (h : IsRows w S N pb rs) (hb : Below w.heap.size w w') : IsRows w' S N pb rs :=
  h.later hb.size fun k hk => hb.block k (h.lt k hk)

structure ArrAt (w : World) (a pb : Nat) (S F : Nat → Prop) (N : Nat) (rs : List Row) : Prop where
  c0 : w.cell? ⟨a, 0, none⟩ = some (.pointer (some ⟨a, 0, none⟩))
  c1 : w.cell? ⟨a, 1, none⟩ = some (.pointer (some ⟨pb, 0, none⟩))
  z1 : w.frozen? ⟨a, 1, none⟩ = false
  rows : IsRows w S N pb rs
  na : ¬ S a
  sub : ∀ k, S k → F k
  fa : F a
  lt : ∀ k, F k → k < w.heap.size
theorem ArrAt.later {w w' : World} {a pb : Nat} {S F : Nat → Prop} {N : Nat} {rs : List Row} (h : ArrAt w a pb S F N rs) (hs : w.heap.size ≤ w'.heap.size) (hb : ∀ k, F k → w'.heap[k]? = w.heap[k]?) : ArrAt w' a pb S F N rs where
  c0 := (World.cell?_of_block (a := ⟨a, 0, none⟩) (hb a h.fa)).trans h.c0
  c1 := (World.cell?_of_block (a := ⟨a, 1, none⟩) (hb a h.fa)).trans h.c1
  z1 := (World.frozen?_of_block (a := ⟨a, 1, none⟩) (hb a h.fa)).trans h.z1
  rows := h.rows.later hs fun k hk => hb k (h.sub k hk)
  na := h.na
  sub := h.sub
  fa := h.fa
  lt := fun k hk => Nat.lt_of_lt_of_le (h.lt k hk) hs
theorem ArrAt.below {w w' : World} {a pb : Nat} {S F : Nat → Prop} {N : Nat} {rs : List Row} (h : ArrAt w a pb S F N rs) (hb : Below w.heap.size w w') : ArrAt w' a pb S F N rs :=
  h.later hb.size fun k hk => hb.block k (h.lt k hk)
theorem ArrAt.mono {w : World} {a pb : Nat} {S F : Nat → Prop} {N M : Nat} {rs : List Row} (h : ArrAt w a pb S F N rs) (hm : N ≤ M) : ArrAt w a pb S F M rs := { h with rows := h.rows.mono hm }
/- Its rows are turned, the array's own two cells not. -/
theorem ArrAt.turned {w w' : World} {a pb : Nat} {S S2 F : Nat → Prop} {N N2 : Nat} {rs rs2 : List Row} (h : ArrAt w a pb S F N rs) (ht : Turn S w w') (hr : IsRows w' S2 N2 pb rs2) (hg : ∀ k, S2 k → S k ∨ w.heap.size ≤ k) : ArrAt w' a pb S2 (fun k => F k ∨ S2 k) N2 rs2 where
  c0 := (World.cell?_of_block (a := ⟨a, 0, none⟩) (ht.block a (h.lt a h.fa) h.na)).trans h.c0
  c1 := (World.cell?_of_block (a := ⟨a, 1, none⟩) (ht.block a (h.lt a h.fa) h.na)).trans h.c1
  z1 := (World.frozen?_of_block (a := ⟨a, 1, none⟩) (ht.block a (h.lt a h.fa) h.na)).trans h.z1
  rows := hr
  na := fun h2 => by
    rcases hg a h2 with h3 | h3
    · exact h.na h3
    · have := h.lt a h.fa; omega
  sub := fun k hk => .inr hk
  fa := .inl h.fa
  lt := fun k hk => by
    rcases hk with hk | hk
    · exact Nat.lt_of_lt_of_le (h.lt k hk) ht.size
    · exact hr.lt k hk

/- An array of these keys and cells, at block a; no other block of it than F's. -/
def Arr (w : World) (a N : Nat) (F : Nat → Prop) (L : List KV) : Prop := ∃ (pb : Nat) (S : Nat → Prop) (rs : List Row), ArrAt w a pb S F N rs ∧ live rs = L
theorem Arr.later {w w' : World} {a N : Nat} {F : Nat → Prop} {L : List KV} (h : Arr w a N F L) (hs : w.heap.size ≤ w'.heap.size) (hb : ∀ k, F k → w'.heap[k]? = w.heap[k]?) : Arr w' a N F L := by
  obtain ⟨pb, S, rs, h1, h2⟩ := h; exact ⟨pb, S, rs, h1.later hs hb, h2⟩
theorem Arr.lt {w : World} {a N : Nat} {F : Nat → Prop} {L : List KV} (h : Arr w a N F L) : ∀ k, F k → k < w.heap.size := by
  obtain ⟨pb, S, rs, h1, h2⟩ := h; exact h1.lt
theorem Arr.fa {w : World} {a N : Nat} {F : Nat → Prop} {L : List KV} (h : Arr w a N F L) : F a := by
  obtain ⟨pb, S, rs, h1, h2⟩ := h; exact h1.fa
theorem Arr.below {w w' : World} {a N : Nat} {F : Nat → Prop} {L : List KV} (h : Arr w a N F L) (hb : Below w.heap.size w w') : Arr w' a N F L :=
  h.later hb.size fun k hk => hb.block k (h.lt k hk)
theorem Arr.apart {w w' : World} {a N : Nat} {F G : Nat → Prop} {L : List KV} (h : Arr w a N F L) (ht : Turn G w w') (hd : ∀ k, F k → ¬ G k) : Arr w' a N F L :=
  h.later ht.size fun k hk => ht.block k (h.lt k hk) (hd k hk)
theorem Arr.mono {w : World} {a N M : Nat} {F : Nat → Prop} {L : List KV} (h : Arr w a N F L) (hm : N ≤ M) : Arr w a M F L := by
  obtain ⟨pb, S, rs, h1, h2⟩ := h; exact ⟨pb, S, rs, h1.mono hm, h2⟩
theorem Arr.once {w : World} {a N : Nat} {F : Nat → Prop} {L : List KV} (h : Arr w a N F L) : ∃ rs, Once rs ∧ live rs = L ∧ rs.length ≤ N ∧ ∀ r ∈ rs, r.key.size ≤ 1000000 := by
  obtain ⟨pb, S, rs, h1, h2⟩ := h; exact ⟨rs, h1.rows.once, h2, h1.rows.len, h1.rows.small⟩
theorem Arr.length {w : World} {a N : Nat} {F : Nat → Prop} {L : List KV} (h : Arr w a N F L) : L.length ≤ N := by
  obtain ⟨rs, _, rfl, h2, _⟩ := h.once
  exact Nat.le_trans (live_length rs) h2

/- What a call makes of an array. -/
def Next (w w' : World) (a N : Nat) (F : Nat → Prop) (L : List KV) : Prop := ∃ F', Arr w' a N F' L ∧ Turn F w w' ∧ ∀ k, F' k → F k ∨ w.heap.size ≤ k

theorem array_info : ∃ j, Try.prog.info? 55 = some j := by
  have h : (Try.prog.info? 55).isSome = true := by kernel_rfl
  exact Option.isSome_iff_exists.1 h
theorem self_eq (a : Addr) (w : World) : (binOp .eql 22 (.pointer (some a)) (.pointer (some a))).run Try.prog w = .ok (.bool true) w := by
  obtain ⟨j, hj⟩ := array_info
  exact run_eql_ptr_same w a Try.underlying22 hj
theorem nil_eq (a : Addr) (w : World) : (binOp .eql 22 (.pointer none) (.pointer (some a))).run Try.prog w = .ok (.bool false) w := by
  have h : ∀ d : Nat, (Op.equalIn (d + 1) 22 (.pointer none) (.pointer (some a))).run Try.prog w = .ok false w := fun d => by
    simp [Op.equalIn, run_underlying Try.underlying22]
  simp only [binOp]
  simp [Op.equal, Op.maxDepth, h 9999]

theorem made_at {w : World} {a : Nat} (c0 : w.cell? ⟨a, 0, none⟩ = some (.pointer (some ⟨a, 0, none⟩))) :
    Calls Try.prog 31 #[.pointer (some ⟨a, 0, none⟩)] w fun e w' => e = .returned (.bool true) ∧ w' = w := by
  go_enter Try.func31, Try.ntmps31
  go_wp2_with (first | rw [self_eq] | rw [nil_eq])
  go_ret
  exact ⟨rfl, rfl⟩
theorem made_nil {w : World} : Calls Try.prog 31 #[.pointer none] w fun e w' => e = .returned (.bool false) ∧ w' = w := by
  go_enter Try.func31, Try.ntmps31
  go_wp2_with (first | rw [self_eq] | rw [nil_eq])
  go_ret
  exact ⟨rfl, rfl⟩
theorem made_zero {w : World} {a : Nat} (c0 : w.cell? ⟨a, 0, none⟩ = some (.pointer none)) :
    Calls Try.prog 31 #[.pointer (some ⟨a, 0, none⟩)] w fun e w' => e = .returned (.bool false) ∧ w' = w := by
  go_enter Try.func31, Try.ntmps31
  go_wp2_with (first | rw [self_eq] | rw [nil_eq])
  go_ret
  exact ⟨rfl, rfl⟩

theorem ArrAt.made {w : World} {a pb : Nat} {S : Nat → Prop} {N : Nat} {rs : List Row} (h : w.heap[a]? = some (.cells #[.pointer (some ⟨a, 0, none⟩), .pointer (some ⟨pb, 0, none⟩)] 55)) (hr : IsRows w S N pb rs) (ha : ¬ S a) : ArrAt w a pb S (fun k => S k ∨ k = a) N rs where
  c0 := by simp [World.cell?, h]
  c1 := by simp [World.cell?, h]
  z1 := by simp [World.frozen?, h]
  rows := hr
  na := ha
  sub := fun k hk => .inl hk
  fa := .inr rfl
  lt := fun k hk => by
    rcases hk with hk | rfl
    · exact hr.lt k hk
    · exact (Array.getElem?_eq_some_iff.mp h).1

theorem holding {w : World} {S : Nat → Prop} {N pb : Nat} {rs : List Row} (h : IsRows w S N pb rs) :
    Calls Try.prog 29 #[.pointer (some ⟨pb, 0, none⟩)] w
      fun e w' => e = .returned (.pointer (some ⟨w.heap.size, 0, none⟩)) ∧ ArrAt w' w.heap.size pb S (fun k => S k ∨ k = w.heap.size) N rs ∧ Below w.heap.size w w' := by
  have hl := h.lt
  have HH := Lib.hid h
  clear h
  go_enter Try.func29, Try.ntmps29
  go_wp2_with fail
  go_ret
  have hA := alloc_new w (.cells #[.pointer (some ⟨w.heap.size, 0, none⟩), .pointer (some ⟨pb, 0, none⟩)] 55)
  have hb := (Below.refl _ w).alloc (Nat.le_refl _) (.cells #[.pointer (some ⟨w.heap.size, 0, none⟩), .pointer (some ⟨pb, 0, none⟩)] 55)
  exact ⟨rfl, ArrAt.made hA (HH.out.below hb) fun h => Nat.lt_irrefl _ (hl _ h), hb⟩

theorem new (w : World) : Calls Try.prog 8 #[] w
    fun e w' => ∃ a, e = .returned (.pointer (some ⟨a, 0, none⟩)) ∧ Arr w' a 0 (span w.heap.size w'.heap.size) [] ∧ Below w.heap.size w w' := by
  go_enter Try.func8, Try.ntmps8
  go_wp2_with (first
    | (go_at_call 29; have HX := HR.out.1; refine (holding HX).mono ?_; rintro e w2 ⟨rfl, hA, hb⟩; have H2 := Lib.hid (⟨hA, hb⟩ : _ ∧ _); clear hA hb)
    | (go_at_call 30; refine (newRows 0 w (by omega)).mono ?_; rintro e w1 ⟨pb, mb, g, cap, rfl, hr, hb⟩; (have hI : IsRows w1 (span w.heap.size w1.heap.size) 0 pb [] := ⟨_, _, _, _, hr⟩); have HR := Lib.hid (⟨hI, hb⟩ : _ ∧ _); clear hr hb hI))
  go_ret
  refine ⟨w1.heap.size, rfl, ⟨pb, _, [], { H2.out.1 with sub := fun k hk => ?_, fa := ?_, lt := fun k hk => hk.2 }, rfl⟩, HR.out.2.trans (H2.out.2.mono HR.out.2.size)⟩
  · exact ⟨hk.1, Nat.lt_of_lt_of_le hk.2 H2.out.2.size⟩
  · exact ⟨HR.out.2.size, H2.out.1.lt _ (.inr rfl)⟩
end Go.Proofs.Ytlagnklmfanmoaa.Ar
