/-
  Package match: what a walk of a search leaves.
-/
import Derived.Test.YtmnghdccikoaoaaMuB
namespace Go.Proofs.Ytmnghdccikoaoaa.Mt
open Go.RowKit Go.Proofs.Ytmnghdccikoaoaa.Sh

variable {w w' : World} {x : Bx} {mb gs cap B : Nat} {sts : List St} {size first a0 a1 a2 a3 : Int} {lv : Value} {X X0 : LS} {start here : Nat}

def SearchJ (x : Bx) (mb gs cap B : Nat) (sts : List St) (size first a0 a1 a2 a3 : Int) (X0 : LS) (start here : Nat) : PutJ := fun ps w S =>
  ∃ lv, (∀ k, S k ↔ Turns x lv k) ∧ SMem w x mb gs cap B sts size first a0 a1 a2 a3 lv (ps.foldl (put1s sts start here) X0) start here
theorem put1s_len (X : LS) (q : Nat) : (put1s sts start here X q).L.length ≤ X.L.length + 1 := by
  unfold put1s
  split
  · split
    · simp
    · simp
  · simp
theorem puts_len : ∀ (ps : List Nat) (X : LS), (ps.foldl (put1s sts start here) X).L.length ≤ X.L.length + ps.length
  | [], X => by simp
  | q :: l, X => by
    have h1 := puts_len l (put1s sts start here X q)
    have h2 := put1s_len (sts := sts) (start := start) (here := here) X q
    simp only [List.foldl_cons, List.length_cons]
    omega
theorem put1s_take {q : Nat} {s : St} (hs : sts[q]? = some s) (ha : s.act = 1) (X : LS) : put1s sts start here X q = { X with L := X.L ++ [(q, start)] } := by
  unfold put1s; rw [hs]; simp [ha]
theorem put1s_goal {q : Nat} {s : St} (hs : sts[q]? = some s) (ha : s.act = 0) (X : LS) : put1s sts start here X q = { L := X.L, at_ := (start : Int), n := (here : Int) - (start : Int), found := true } := by
  unfold put1s; rw [hs]; simp [ha]
theorem Turns.lt (h : SMem w x mb gs cap B sts size first a0 a1 a2 a3 lv X start here) {k : Nat} (hk : Turns x lv k) : k < w.heap.size := by
  have hl := h.ap.lt
  have hsz := h.le
  rcases hk with rfl | rfl | rfl | rfl | hk
  · exact Nat.lt_of_lt_of_le hl.2.1 hsz
  · exact Nat.lt_of_lt_of_le hl.2.2.2.2.1 hsz
  · exact Nat.lt_of_lt_of_le hl.2.2.2.2.2.1 hsz
  · exact Nat.lt_of_lt_of_le hl.2.2.2.2.2.2.1 hsz
  · exact (h.own_lt hk).2
theorem search_ok (Bw : Nat) (hL : X0.L.length ≤ 100000) (hn : sts.length ≤ 100000) (hst : start ≤ here) (hh : here ≤ 1000000000000) :
    PutOk 57 (args1 x) sts Bw (fun k => k = x.cm ∨ k = mb ∨ k = gs ∨ k = x.cs ∨ k = x.ch) (SearchJ x mb gs cap B sts size first a0 a1 a2 a3 X0 start here) where
  enters := fun args w => enter_of Try.func57 (by kernel_rfl) rfl args w
  lt := fun ps w S ⟨lv, h1, h2⟩ k hk => ((h1 k).mp hk).lt h2
  stable := fun ps w w' S ⟨lv, h1, h2⟩ hs hk => ⟨lv, h1, h2.keep hs fun k e => hk k (by
    rcases e with e | e
    · exact .inl ((h1 k).mpr e)
    · exact .inr e)⟩
  put := fun ps w S q s ⟨lv, h1, h2⟩ hs ha _ hps => by
    have hlen := puts_len (sts := sts) (start := start) (here := here) ps X0
    rcases ha with ha | ha
    · refine (search1_take h2 q s hs ha (by omega)).mono fun e w' ⟨he, lv', hp⟩ => ⟨he, Turns x lv', ⟨lv', fun _ => Iff.rfl, ?_⟩, hp.same, fun k hk hS => hp.fr k hk fun e => hS ((h1 k).mpr e), fun k hk => ?_⟩
      · rw [List.foldl_append, List.foldl_cons, List.foldl_nil, put1s_take hs ha]
        exact hp.mem
      · rcases hk with e | e | e | e | e
        · exact .inl ((h1 k).mpr (.inl e))
        · exact .inl ((h1 k).mpr (.inr (.inl e)))
        · exact .inl ((h1 k).mpr (.inr (.inr (.inl e))))
        · exact .inl ((h1 k).mpr (.inr (.inr (.inr (.inl e)))))
        · rcases hp.own with q1 | ⟨g, hg, q1⟩
          · exact .inl ((h1 k).mpr (.inr (.inr (.inr (.inr (q1 ▸ e))))))
          · rw [q1] at e
            cases e
            exact .inr hg
    · refine (search1_goal h2 q s hs ha hst hh).mono fun e w' ⟨he, lv', hp⟩ => ⟨he, Turns x lv', ⟨lv', fun _ => Iff.rfl, ?_⟩, hp.same, fun k hk hS => hp.fr k hk fun e => hS ((h1 k).mpr e), fun k hk => ?_⟩
      · rw [List.foldl_append, List.foldl_cons, List.foldl_nil, put1s_goal hs ha]
        exact hp.mem
      · rcases hk with e | e | e | e | e
        · exact .inl ((h1 k).mpr (.inl e))
        · exact .inl ((h1 k).mpr (.inr (.inl e)))
        · exact .inl ((h1 k).mpr (.inr (.inr (.inl e))))
        · exact .inl ((h1 k).mpr (.inr (.inr (.inr (.inl e)))))
        · rcases hp.own with q1 | ⟨g, hg, q1⟩
          · exact .inl ((h1 k).mpr (.inr (.inr (.inr (.inr (q1 ▸ e))))))
          · rw [q1] at e
            cases e
            exact .inr hg
end Go.Proofs.Ytmnghdccikoaoaa.Mt
