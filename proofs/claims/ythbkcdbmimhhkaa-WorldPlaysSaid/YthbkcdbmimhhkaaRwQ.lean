/-
  The document's world beside the program's, plain: writing, running, chance.
-/
import Derived.Test.YthbkcdbmimhhkaaRwO
import Derived.Test.YthbkcdbmimhhkaaRwK
import Derived.Test.YthbkcdbmimhhkaaRwH
import Derived.Test.YthbkcdbmimhhkaaRwM
namespace Go.Proofs.Ythbkcdbmimhhkaa.Rw
open Go.RowKit Go.Maps Wo

section
variable {S : Scpt} {st : St} {r : RSt}
theorem Agree.writeE (h : Agree S st r) (hk : ∀ s ∈ st.streams, 1 ≤ s.kind ∧ s.kind ≤ 5) (k : Int) (n : ByteArray) : writeE st k n = rWriteE S r k n := by
  unfold Wo.writeE rWriteE
  have hc : (k < 3 ∨ openB k (wname k n) st.streams = false) ↔ (k ≠ 6 ∧ (¬ (3 ≤ k ∧ k ≤ 5) ∨ rplace k n r.opn < 0)) := by
    by_cases h6 : k = 6
    · subst h6
      have : openB 6 (wname 6 n) st.streams = true := rfl
      rw [this]
      simp
    · have hw : wname k n = n := if_neg h6
      rw [hw]
      have ho : openB k n st.streams = decide (0 ≤ rplace k n r.opn) := by
        unfold openB
        rw [decide_eq_false h6, Bool.false_or, h.place]
      rw [ho, decide_eq_false_iff_not]
      constructor
      · rintro (e | e)
        · exact ⟨h6, .inl (by omega)⟩
        · exact ⟨h6, .inr (by omega)⟩
      · rintro ⟨_, e | e⟩
        · by_cases h3 : k < 3
          · exact .inl h3
          · have hp := placeL_out (n := n) (show ¬ (1 ≤ k ∧ k ≤ 5) by omega) _ hk
            rw [h.place] at hp
            exact .inr (by omega)
        · exact .inr (by omega)
  simp only [hc, h.fails]
theorem Agree.event {a : St} {x : RSt} (h : Agree S a x) (e : Ev) : Agree S { a with trace := a.trace ++ [e] } (eventR x e) :=
  ⟨h.most, h.clk, h.chance, h.file, h.reply, h.fails, h.stdin, h.taken, by show a.trace ++ [e] = x.events ++ [e]; rw [h.trace], h.strms, h.tk, h.once⟩
theorem Agree.writeS (h : Agree S st r) (hk : ∀ s ∈ st.streams, 1 ≤ s.kind ∧ s.kind ≤ 5) (k : Int) (n d : ByteArray) : Agree S (writeS st k n d) (rWriteS S r k n d) := by
  unfold Wo.writeS rWriteS
  rw [h.writeE hk]
  by_cases hc : rWriteE S r k n = 0 ∧ d ≠ noText
  · rw [if_pos hc, if_pos hc]
    unfold rWrote
    by_cases h34 : k = 3 ∨ k = 4
    · have hw : wname k n = n := if_neg (by omega)
      rw [wroteS_file h34 hw, if_pos h34, hw]
      have hf : Agree S { beginS st n with file := Wo.setF (beginS st n).file n (((st.file n).getD []) ++ d.data.toList) } (rWith r n (rData r n ++ d)) := by
        refine h.same ⟨beginS_same st n, rfl, rfl, rfl, rfl⟩ ?_ (once_with h.once)
        show ∀ m, (Wo.setF (beginS st n).file n _) m = _
        rw [begin_set]
        refine h.setF n (rData r n ++ d) ?_
        rw [← data_of h, ByteArray.data_append, Array.toList_append]
        rfl
      exact hf.event _
    · rw [wroteS_note h34, if_neg h34]
      exact h.event _
  · rw [if_neg hc, if_neg hc]; exact h
theorem Agree.sysM (h : Agree S st r) (n : ByteArray) : sysM st n = rSysM S n ∧ sysE st n = rSysE S n := by
  have he := (out_of h n).2
  have hs : (st.reply n).isSome = (lookR n S.reps).isSome := by rw [h.reply]; simp
  unfold Rw.sysM rSysM Rw.sysE rSysE
  rw [h.fails, he, hs]
  exact ⟨rfl, rfl⟩
theorem Agree.sysS (h : Agree S st r) (n : ByteArray) : Agree S (sysS st n) (rSysS S r n) := by
  unfold Rw.sysS rSysS
  rw [h.fails]
  by_cases hx : (lookX 4 n S.fails).isSome = true
  · rw [if_pos hx, if_pos hx]; exact h
  · rw [if_neg hx, if_neg hx, (h.sysM n).1]
    exact h.event _
theorem Agree.took (h : Agree S st r) {k : Int} {n : ByteArray} {m : Int} {i : Nat} {p : RStrm} (hi : rplace k n r.opn = i) (hp : r.opn[i]? = some p) (hk : k = 1 ∨ k = 2) (hpk : p.kind = k) (hpn : p.name = n) :
    Reads st k n (some (i, live p, rLeft S r k n p)) ∧ Agree S (tookS st i (live p) ((rLeft S r k n p).extract (cutN m (rLeft S r k n p)) (rLeft S r k n p).size)) (rRead S r k n m i p) := by
  have hsi : st.streams[i]? = some (live p) := by rw [h.strms, List.getElem?_map, hp]; rfl
  have hpc : ∀ t : ByteArray, (t.extract 0 (cutN m t)).size = cutN m t := fun t => by
    rw [ByteArray.size_extract]; unfold cutN; omega
  have hcut : ∀ (s : ByteArray) (t : Nat), t ≤ s.size → (s.extract t s.size).extract (cutN m (s.extract t s.size)) (s.extract t s.size).size = s.extract (t + ((s.extract t s.size).extract 0 (cutN m (s.extract t s.size))).size) s.size := by
    intro s t ht
    rw [hpc, left_size s ht, ByteArray.extract_extract]
    congr 1
    omega
  have hle : ∀ (s : ByteArray) (t : Nat), t ≤ s.size → t + ((s.extract t s.size).extract 0 (cutN m (s.extract t s.size))).size ≤ s.size := by
    intro s t ht
    rw [hpc]
    have := left_size s ht
    unfold cutN
    rw [this]
    omega
  by_cases hd : k = 1 ∧ n = dash
  · have hsrc : (live p).src = .stdin := by unfold live; simp [hpk, hpn, hd.1, hd.2]
    have hl : rLeft S r k n p = S.stdin.extract r.taken S.stdin.size := if_pos hd
    refine ⟨⟨(h.place k n).trans hi, hsi, by rw [hsrc, hl]; show some st.stdin = _; rw [h.stdin]⟩, ?_⟩
    have e1 : tookS st i (live p) ((rLeft S r k n p).extract (cutN m (rLeft S r k n p)) (rLeft S r k n p).size) = { st with stdin := (rLeft S r k n p).extract (cutN m (rLeft S r k n p)) (rLeft S r k n p).size } := by
      unfold tookS
      rw [hsrc]
    have e2 : rRead S r k n m i p = tookW r ((rLeft S r k n p).extract 0 (cutN m (rLeft S r k n p))) := if_pos hd
    rw [e1, e2, hl]
    refine ⟨h.most, h.clk, h.chance, h.file, h.reply, h.fails, ?_, ?_, h.trace, h.strms, h.tk, h.once⟩
    · exact hcut S.stdin r.taken h.taken
    · exact hle S.stdin r.taken h.taken
  · have hsrc : (live p).src = .own (p.source.extract p.taken p.source.size) := by
      unfold live
      rcases hk with rfl | rfl
      · have : p.name ≠ dash := fun e => hd ⟨rfl, hpn.symm.trans e⟩
        simp [hpk, this]
      · simp [hpk]
    have htp := h.tk p (List.mem_of_getElem? hp)
    have hl : rLeft S r k n p = p.source.extract p.taken p.source.size := if_neg hd
    refine ⟨⟨(h.place k n).trans hi, hsi, by rw [hsrc, hl]; rfl⟩, ?_⟩
    have e1 : tookS st i (live p) ((rLeft S r k n p).extract (cutN m (rLeft S r k n p)) (rLeft S r k n p).size) = { st with streams := st.streams.set i { live p with src := .own ((rLeft S r k n p).extract (cutN m (rLeft S r k n p)) (rLeft S r k n p).size) } } := by
      unfold tookS
      rw [hsrc]
    have e2 : rRead S r k n m i p = tookO r i p ((rLeft S r k n p).extract 0 (cutN m (rLeft S r k n p))) := if_neg hd
    rw [e1, e2, hl]
    refine ⟨h.most, h.clk, h.chance, h.file, h.reply, h.fails, h.stdin, h.taken, h.trace, ?_, ?_, h.once⟩
    · show st.streams.set i _ = (r.opn.set i _).map live
      rw [List.map_set, h.strms]
      congr 1
      unfold live
      rcases hk with rfl | rfl
      · have hnd : p.name ≠ dash := fun e => hd ⟨rfl, hpn.symm.trans e⟩
        simp only [hpk, if_true, if_neg hnd]
        rw [hcut p.source p.taken htp]
      · simp only [hpk]
        rw [hcut p.source p.taken htp]
        rfl
    · intro q hq
      rcases List.mem_or_eq_of_mem_set hq with h1 | rfl
      · exact h.tk q h1
      · exact hle p.source p.taken htp
end
end Go.Proofs.Ythbkcdbmimhhkaa.Rw
