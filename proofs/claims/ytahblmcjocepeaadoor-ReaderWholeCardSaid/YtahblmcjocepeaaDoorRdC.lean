/-
  Package reader: more is read (text.add, the closure of next).
-/
import Derived.Test.YtahblmcjocepeaaDoorRdA
import Derived.Test.YtahblmcjocepeaaDoorRdP
import Derived.StillTail
import Derived.StillTailTactics
namespace Go.Proofs.YtahblmcjocepeaaDoor.Rd
open Go.RowKit Go.Maps Wo

/- A text: what of it is there, and its Builder, which holds the same or nothing. -/
def Tx (w : World) (tt : Nat) (buf : Option Nat) (A : ByteArray) (M : Value) : Prop := ∃ l, Bt w tt buf (.string A) M l ∧ (l = [] ∨ l = A.data.toList)
theorem Tx.lt {w : World} {tt : Nat} {buf : Option Nat} {A : ByteArray} {M : Value} (h : Tx w tt buf A M) : tt < w.heap.size := by
  obtain ⟨l, h, _⟩ := h; exact h.lt
theorem Tx.ltBuf {w : World} {tt : Nat} {buf : Option Nat} {A : ByteArray} {M : Value} (h : Tx w tt buf A M) : ∀ k, buf = some k → k < w.heap.size := by
  obtain ⟨l, h, _⟩ := h; exact h.ltBuf
theorem Tx.later {w w' : World} {tt : Nat} {buf : Option Nat} {A : ByteArray} {M : Value} (h : Tx w tt buf A M) (hb : w'.heap[tt]? = w.heap[tt]?) (hg : ∀ k, buf = some k → w'.heap[k]? = w.heap[k]?) : Tx w' tt buf A M := by
  obtain ⟨l, h, h2⟩ := h; exact ⟨l, h.later hb hg, h2⟩
theorem Tx.all {w : World} {tt : Nat} {buf : Option Nat} {A : ByteArray} {M : Value} (h : Tx w tt buf A M) : w.cell? ⟨tt, 0, none⟩ = some (.string A) ∧ w.cell? ⟨tt, 1, none⟩ = some M ∧ w.frozen? ⟨tt, 0, none⟩ = false ∧ w.frozen? ⟨tt, 1, none⟩ = false := by
  obtain ⟨l, h, _⟩ := h; exact h.all
theorem Bt.setAll {w : World} {b : Nat} {buf : Option Nat} {A M : Value} {l : List UInt8} (h : Bt w b buf A M l) (A' : Value) : Bt (w.setCell ⟨b, 0, none⟩ A') b buf A' M l := by
  have hap := h.apart
  obtain ⟨p, v, h1, h2, h3, h4, rfl⟩ := h
  refine ⟨p, v, h1, ?_, rowF_of_block h3 fun k hk => heap_set _ _ _ fun e => hap (by rw [hk, e]), h4, rfl⟩
  simp [World.setCell, Array.getElem?_modify, h2]
theorem chainB {a b c : World} {tt : Nat} {buf buf1 : Option Nat} (t1 : Turn (fun k => k = tt ∨ some k = buf) a b) (t2 : Turn (fun k => k = tt ∨ some k = buf1) b c) (hb : ∀ k, buf1 = some k → buf = some k ∨ a.heap.size ≤ k) : Turn (fun k => k = tt ∨ some k = buf) a c :=
  t1.trans t2 fun i hi => by
    rcases hi with h | h
    · exact .inl (.inl h)
    · exact (hb i h.symm).imp (fun h => .inr h.symm) id
theorem region_tailR {P : Program} {id : Nat} {Q : Exit → Act → World → Prop} {a : Act} {w : World} {l : List Oper} (n : Nat) (hm : P.follows .mixedOrders = true) (hB : Region.lexTailB .any l.toArray n = true)
    (h : ∀ w2, Below w.heap.size w w2 → w2.heap = w.heap → wpStill P l.toArray w2 (fun a' => wpList P l.toArray Q (l.drop n) a' w2) (l.take n) a) : (Code.region id l.toArray true).wp P Q a w :=
  wp_region_still_tail n hm hB (h { w with drawn := w.drawn + 1 } ⟨rfl, rfl, rfl, Nat.le_refl _, fun _ _ => rfl⟩ rfl)
theorem txt_toList (s : ByteArray) : txt s.data.toList = s := rfl
/- Behind both writings: it is told, and stands in the text. -/
structure Wr (w w2 : World) (tt : Nat) (buf : Option Nat) (A : ByteArray) (M : Value) (l : List UInt8) (buf2 : Option Nat) : Prop where
  bt : Bt w2 tt buf2 (.string A) M l
  turn : Turn (fun k => k = tt ∨ some k = buf) w w2
  new : ∀ k, buf2 = some k → buf = some k ∨ w.heap.size ≤ k
theorem Wr.step {w w1 w2 : World} {tt : Nat} {buf b1 b2 : Option Nat} {A : ByteArray} {M : Value} {l l2 : List UInt8} (h : Wr w w1 tt buf A M l b1) (hb : Bt w2 tt b2 (.string A) M l2) (ht : Turn (fun k => k = tt ∨ some k = b1) w1 w2) (hn : ∀ k, b2 = some k → b1 = some k ∨ w1.heap.size ≤ k) : Wr w w2 tt buf A M l2 b2 :=
  ⟨hb, chainB h.turn ht h.new, fun k hk => (hn k hk).elim (h.new k) fun e => .inr (Nat.le_trans h.turn.size e)⟩
theorem Wr.start {w w1 : World} {tt : Nat} {buf : Option Nat} {A : ByteArray} {M : Value} {l : List UInt8} (h : Bt w tt buf (.string A) M l) (hb : Below w.heap.size w w1) : Wr w w1 tt buf A M l buf :=
  ⟨h.below hb, Turn.of_below hb, fun k hk => .inl hk⟩
theorem Wr.fin {w w2 : World} {tt : Nat} {buf b2 : Option Nat} {A A2 : ByteArray} {M : Value} (h : Wr w w2 tt buf A M A2.data.toList b2) : ∃ buf', Tx (w2.setCell ⟨tt, 0, none⟩ (.string A2)) tt buf' A2 M ∧ Turn (fun k => k = tt ∨ some k = buf) w (w2.setCell ⟨tt, 0, none⟩ (.string A2)) ∧ ∀ k, buf' = some k → buf = some k ∨ w.heap.size ≤ k :=
  ⟨b2, ⟨_, h.bt.setAll _, .inr rfl⟩, h.turn.trans (Turn.of_set w2 ⟨tt, 0, none⟩ _) fun i hi => .inl (.inl hi), h.new⟩
set_option maxRecDepth 100000 in
theorem add {w : World} {tt : Nat} {buf : Option Nat} {A : ByteArray} {M : Value} (h : Tx w tt buf A M) (s : ByteArray) (hz : A.size + s.size ≤ 100000000) :
    Calls Tryd.prog 64 #[ptr tt, .string s] w fun e w' => e = .returned (.tuple #[]) ∧ ∃ buf', Tx w' tt buf' (A ++ s) M ∧ Turn (fun k => k = tt ∨ some k = buf) w w' ∧ ∀ k, buf' = some k → buf = some k ∨ w.heap.size ≤ k := by
  obtain ⟨l, hB, hl⟩ := h
  have hlA : (A ++ s).data.toList = A.data.toList ++ s.data.toList := by rw [ByteArray.data_append, Array.toList_append]
  have hAz : A.data.toList.length = A.size := by rw [Array.length_toList]; rfl
  have HA := Lib.hid (⟨hlA, hAz⟩ : _ ∧ _)
  clear hlA
  by_cases hl0 : l = []
  · subst hl0
    have HH := Lib.hid hB
    have c0 := hB.all.1
    clear hB hl hAz
    go_enter Tryd.func64, Tryd.ntmps64
    go_wp2_with (go_at_call 34; refine (lenB HH.out).mono ?_; rintro e w1 ⟨rfl, hw⟩; obtain rfl := hw.symm; clear hw)
    refine region_tailR 7 (by kernel_rfl) (by kernel_rfl) ?_
    intro wE hbE hhE
    have c0 : wE.cell? ⟨tt, 0, none⟩ = some (.string A) := (World.cell?_of_block (by rw [hhE])).trans c0
    have H0 := Lib.hid (Wr.start HH.out hbE)
    clear hbE hhE
    simp only [List.take_succ_cons, List.take_zero, List.drop_succ_cons, List.drop_zero]
    repeat still_step
    refine wpStill_nil ?_
    go_wp2_with (first
      | (go_at_call 35; have hh := H2.out; refine (toString hh.bt).mono ?_; rintro e w4 ⟨rfl, hb4, ht4⟩; have H4 := Lib.hid (hh.step hb4 (ht4.mono fun k hk => .inr hk) (fun k hk => .inl hk)); have q := hb4.all; have c4 := q.1; have f4 := q.2.2.1; rw [← HA.out.1]; rw [txt_toList]; clear hh hb4 ht4 q)
      | (go_at_call 33; have hh := H1.out; refine (writeString s hh.bt (by rw [HA.out.2]; omega)).mono ?_; rintro e w3 ⟨rfl, b3, hb3, ht3, hn3⟩; have H2 := Lib.hid (hh.step hb3 ht3 hn3); clear hh hb3 ht3 hn3)
      | (go_at_call 33; have hh := H0.out; refine (writeString A hh.bt (by show 0 + _ ≤ _; omega)).mono ?_; rintro e w2 ⟨rfl, b2, hb2, ht2, hn2⟩; have hb2 : Bt w2 tt b2 (.string A) M A.data.toList := hb2; have H1 := Lib.hid (hh.step hb2 ht2 hn2); clear hh hb2 ht2 hn2))
    go_end0
    have hf := H4.out
    rw [← HA.out.1] at hf
    exact ⟨rfl, hf.fin⟩
  · have hlA2 : l = A.data.toList := hl.resolve_left hl0
    have hne : ¬ (A.size : Int) = 0 := by
      intro e
      have : A.data.toList.length = 0 := by rw [hAz]; omega
      exact hl0 (hlA2.trans (List.eq_nil_of_length_eq_zero this))
    have hlen : (l.length : Int) = (A.size : Int) := by rw [hlA2, hAz]
    have hnb : ((A.size : Int) == 0) = false := beq_eq_false_iff_ne.2 hne
    subst hlA2
    have HH := Lib.hid (Wr.start hB (Below.refl _ w))
    have HB := Lib.hid hB
    have HL := Lib.hid hlen
    clear hB hl hAz hl0 hlen
    go_enter Tryd.func64, Tryd.ntmps64
    go_wp2_with (first
      | (go_at_call 35; have hh := H2.out; refine (toString hh.bt).mono ?_; rintro e w4 ⟨rfl, hb4, ht4⟩; have H4 := Lib.hid (hh.step hb4 (ht4.mono fun k hk => .inr hk) (fun k hk => .inl hk)); have q := hb4.all; have c4 := q.1; have f4 := q.2.2.1; rw [← HA.out.1]; rw [txt_toList]; clear hh hb4 ht4 q)
      | (go_at_call 33; have hh := HH.out; refine (writeString s hh.bt (by rw [HA.out.2]; omega)).mono ?_; rintro e w3 ⟨rfl, b3, hb3, ht3, hn3⟩; have H2 := Lib.hid (hh.step hb3 ht3 hn3); clear hh hb3 ht3 hn3)
      | (go_at_call 34; refine (lenB HB.out).mono ?_; rintro e w1 ⟨rfl, hw⟩; obtain rfl := hw.symm; clear hw; rw [HL.out]))
    go_end0
    have hf := H4.out
    rw [← HA.out.1] at hf
    exact ⟨rfl, hf.fin⟩
end Go.Proofs.YtahblmcjocepeaaDoor.Rd
