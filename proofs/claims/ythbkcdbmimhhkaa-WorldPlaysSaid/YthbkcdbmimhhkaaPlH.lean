/-
  Both worlds beside each other, plain: reading.
-/
import Derived.Test.YthbkcdbmimhhkaaPlF
namespace Go.Proofs.Ythbkcdbmimhhkaa.Rw
open Go.RowKit Go.Maps Wo

section
variable {S : Scpt} {st : St} {r : RSt} {k : Int} {n : ByteArray} {m : Int}
theorem left_le (h : Agree S st r) (hs : S.stdin.size ≤ 200) {p : RStrm} (hp : p.source.size ≤ 6000) : (rLeft S r k n p).size ≤ 1000000000 := by
  unfold rLeft
  split <;> (rw [ByteArray.size_extract]; omega)
def NoRead (S : Scpt) (st : St) (r : RSt) (k : Int) (n : ByteArray) (m : Int) : Prop := rReadE S r k n m ≠ 0 ∧ ∃ o, Reads st k n o ∧ (∀ i s t, o = some (i, s, t) → t.size ≤ 1000000000) ∧ ∀ e st2, ReadD st n m o e st2 → e = .returned (.tuple #[.string noText, .int .i64 (rReadE S r k n m)]) ∧ st2 = st
def Piece (S : Scpt) (st : St) (r : RSt) (k : Int) (n : ByteArray) (m : Int) : Prop := rReadE S r k n m = 0 ∧ ∃ (i : Nat) (p : RStrm), rplace k n r.opn = i ∧ r.opn[i]? = some p ∧ ∃ o, Reads st k n o ∧ (∀ i s t, o = some (i, s, t) → t.size ≤ 1000000000) ∧ ∀ e st2, ReadD st n m o e st2 → e = .returned (.tuple #[.string ((rLeft S r k n p).extract 0 (cutN m (rLeft S r k n p))), .int .i64 0]) ∧ st2 = tookS st i (live p) ((rLeft S r k n p).extract (cutN m (rLeft S r k n p)) (rLeft S r k n p).size) ∧ Agree S st2 (rRead S r k n m i p)
theorem read_both (h : Agree S st r) (hs : S.stdin.size ≤ 200) (hz : ∀ p ∈ r.opn, p.source.size ≤ 6000) : NoRead S st r k n m ∨ Piece S st r k n m := by
  by_cases h0 : rplace k n r.opn < 0
  · have he : rReadE S r k n m = 16 := if_pos (.inl h0)
    refine .inl ⟨by rw [he]; decide, none, .inl (by rw [h.place]; exact h0), fun i s t e => (by cases e), fun e st2 hd => ?_⟩
    rw [he]; exact hd
  · obtain ⟨i, hi⟩ : ∃ i : Nat, rplace k n r.opn = i := ⟨(rplace k n r.opn).toNat, by omega⟩
    obtain ⟨p, hp, hpk, hpn⟩ := rplace_get hi
    have hpm := List.mem_of_getElem? hp
    by_cases hk : k = 1 ∨ k = 2
    · have hr : ∀ o, Reads st k n o → ∃ t, o = o := fun o _ => ⟨0, rfl⟩
      have ht := h.took (m := m) hi hp hk hpk hpn
      have hsz : ∀ i' s t, some (i, live p, rLeft S r k n p) = some (i', s, t) → t.size ≤ 1000000000 := fun i' s t e => by
        simp only [Option.some.injEq, Prod.mk.injEq] at e
        obtain ⟨_, _, rfl⟩ := e
        exact left_le h hs (hz p hpm)
      have he : rReadE S r k n m = readE st n m (some (i, live p, rLeft S r k n p)) := by
        unfold rReadE readE
        rw [if_neg (fun e => e.elim h0 (fun e => e hk)), if_neg (show ¬ some (i, live p, rLeft S r k n p) = none from (by simp)), h.fails]
      by_cases hz0 : rReadE S r k n m = 0
      · refine .inr ⟨hz0, i, p, hi, hp, _, ht.1, hsz, fun e st2 hd => ?_⟩
        unfold ReadD at hd
        dsimp only at hd
        rw [if_pos (he.symm.trans hz0)] at hd
        exact ⟨hd.1, hd.2, by rw [hd.2]; exact ht.2⟩
      · refine .inl ⟨hz0, _, ht.1, hsz, fun e st2 hd => ?_⟩
        unfold ReadD at hd
        dsimp only at hd
        rw [if_neg (fun e => hz0 (he.trans e)), ← he] at hd
        exact hd
    · have he : rReadE S r k n m = 16 := if_pos (.inr hk)
      have hsi : st.streams[i]? = some (live p) := by rw [h.strms, List.getElem?_map, hp]; rfl
      refine .inl ⟨by rw [he]; decide, none, .inr ⟨i, live p, (h.place k n).trans hi, hsi, ?_⟩, fun i s t e => (by cases e), fun e st2 hd => ?_⟩
      · have : (live p).src = .none := by
          unfold live
          rw [hpk]
          simp only
          rw [if_neg (fun e => hk (.inl e)), if_neg (fun e => hk (.inr e))]
        rw [this]; rfl
      · rw [he]; exact hd
end
end Go.Proofs.Ythbkcdbmimhhkaa.Rw
