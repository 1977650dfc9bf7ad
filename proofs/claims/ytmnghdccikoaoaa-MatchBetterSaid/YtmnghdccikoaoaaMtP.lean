/-
  Package match: what the states of a tree take is what the tree takes: any number of times, ways, all right trees.
-/
import Derived.Test.YtmnghdccikoaoaaMtO
namespace Go.Proofs.Ytmnghdccikoaoaa.Mt
open Go.RowKit Go.Proofs.Ytmnghdccikoaoaa.Sh

variable {t : List Nat}

/- Any number of times. -/
theorem setNext_other (L : List St) (i q : Nat) (next : Int) (h : q ≠ i) : (setNext L i next)[q]? = L[q]? := by
  unfold setNext
  rw [List.getElem?_modify]
  simp [Ne.symm h]
theorem setNext_same {L : List St} {i : Nat} {next : Int} {s : St} (h : L[i]? = some s) : (setNext L i next)[i]? = some { s with next := next } := by
  unfold setNext
  rw [List.getElem?_modify]
  simp [h]
theorem loop_facts {f : Lay} {R : Nat → Nat → Prop} (h : Frag t f R) {next : Int} {sts S : List St} (hA : Agrees S (layLoop f next sts).1 sts.length) :
    S[((sts.length : Int)).toNat]? = some (fork (layLoop f next sts).2.2 next) ∧ Agrees S (f (sts.length : Int) (sts ++ [fork 0 next])).1 (sts ++ [fork 0 next]).length := by
  have h1 := h.adds (sts.length : Int) (sts ++ [fork 0 next])
  rw [List.length_append] at h1
  have h2 : (f (sts.length : Int) (sts ++ [fork 0 next])).1[sts.length]? = some (fork 0 next) := by
    rw [h.pre _ _ _ (by simp)]
    simp
  have hlen : (layLoop f next sts).1.length = (f (sts.length : Int) (sts ++ [fork 0 next])).1.length := by simp [layLoop, setNext_length]
  simp only [List.length_cons, List.length_nil] at h1
  constructor
  · have e : ((sts.length : Int)).toNat = sts.length := by simp
    rw [e, hA _ (Nat.le_refl _) (by omega)]
    exact setNext_same h2
  · intro q hq hl
    rw [List.length_append] at hq
    simp only [List.length_cons, List.length_nil] at hq
    rw [hA q (by omega) (by omega)]
    exact setNext_other _ _ _ _ (by omega)
theorem star_fwd {f : Lay} {R : Nat → Nat → Prop} (h : Frag t f R) {next : Int} {sts S : List St} (hA : Agrees S (layLoop f next sts).1 sts.length) : ∀ (n i j : Nat), Acc S t n (sts.length : Int) i j → ∃ k m d, m ≤ n ∧ iter R d i k ∧ Acc S t m next k j := by
  obtain ⟨hs, hB⟩ := loop_facts h hA
  intro n
  induction n using Nat.strongRecOn with
  | ind n ih =>
    intro i j ha
    cases n with
    | zero => exact absurd ha (acc_fork0 hs)
    | succ n =>
      rcases (acc_fork hs).mp ha with q | q
      · obtain ⟨k, m, q1, q2, q3⟩ := h.fwd _ _ S hB n i j q
        obtain ⟨k2, m2, d, p1, p2, p3⟩ := ih m (by omega) k j q3
        exact ⟨k2, m2, d + 1, by omega, ⟨k, q2, p2⟩, p3⟩
      · exact ⟨i, n, 0, Nat.le_succ _, rfl, q⟩
theorem star_bwd {f : Lay} {R : Nat → Nat → Prop} (h : Frag t f R) {next : Int} {sts S : List St} (hA : Agrees S (layLoop f next sts).1 sts.length) {n k j : Nat} (ha : Acc S t n next k j) : ∀ (d i : Nat), iter R d i k → ∃ m, Acc S t m (sts.length : Int) i j
  | 0, i, hi => ⟨n + 1, (acc_fork (loop_facts h hA).1).mpr (.inr (by rw [← (hi : k = i)]; exact ha))⟩
  | d + 1, i, ⟨k1, h1, h2⟩ => by
    obtain ⟨hs, hB⟩ := loop_facts h hA
    obtain ⟨m, q⟩ := star_bwd h hA ha d k1 h2
    obtain ⟨m2, q2⟩ := h.bwd _ _ S hB m i k1 j h1 q
    exact ⟨m2 + 1, (acc_fork hs).mpr (.inl q2)⟩
theorem loop_pre {f : Lay} {R : Nat → Nat → Prop} (h : Frag t f R) (next : Int) (sts : List St) (q : Nat) (hq : q < sts.length) : (layLoop f next sts).1[q]? = sts[q]? := by
  simp only [layLoop]
  rw [setNext_other _ _ _ _ (by omega), h.pre _ _ _ (by rw [List.length_append]; omega), List.getElem?_append_left hq]
theorem frag_star {f : Lay} {R : Nat → Nat → Prop} (h : Frag t f R) : Frag t (fun next sts => ((layLoop f next sts).1, (layLoop f next sts).2.1)) (fun i j => ∃ d, iter R d i j) where
  adds := fun next sts => Nat.le_trans (Nat.le_succ _) (layLoop_adds h.adds next sts)
  pre := loop_pre h
  fwd := fun next sts S hA n i j ha => by
    obtain ⟨k, m, d, q1, q2, q3⟩ := star_fwd h hA n i j ha
    exact ⟨k, m, q1, ⟨d, q2⟩, q3⟩
  bwd := fun next sts S hA n i k j ⟨d, hd⟩ ha => star_bwd h hA ha d i hd
theorem frag_body {f : Lay} {R : Nat → Nat → Prop} (h : Frag t f R) : Frag t (fun next sts => ((layLoop f next sts).1, (layLoop f next sts).2.2)) (fun i j => ∃ d, iter R (d + 1) i j) where
  adds := fun next sts => Nat.le_trans (Nat.le_succ _) (layLoop_adds h.adds next sts)
  pre := loop_pre h
  fwd := fun next sts S hA n i j ha => by
    obtain ⟨hs, hB⟩ := loop_facts h hA
    obtain ⟨k, m, q1, q2, q3⟩ := h.fwd _ _ S hB n i j ha
    obtain ⟨k2, m2, d, p1, p2, p3⟩ := star_fwd h hA m k j q3
    exact ⟨k2, m2, by omega, ⟨d, k, q2, p2⟩, p3⟩
  bwd := fun next sts S hA n i k j ⟨d, k1, h1, h2⟩ ha => by
    obtain ⟨hs, hB⟩ := loop_facts h hA
    obtain ⟨m, q⟩ := star_bwd h hA ha d k1 h2
    exact h.bwd _ _ S hB m i k1 j h1 q
theorem iter_add {R : Nat → Nat → Prop} : ∀ (a b i j : Nat), iter R (a + b) i j ↔ ∃ k, iter R a i k ∧ iter R b k j
  | 0, b, i, j => by simp [iter]
  | a + 1, b, i, j => by
    rw [show a + 1 + b = (a + b) + 1 by omega]
    constructor
    · rintro ⟨k, h1, h2⟩
      obtain ⟨k2, h3, h4⟩ := (iter_add a b k j).mp h2
      exact ⟨k2, ⟨k, h1, h3⟩, h4⟩
    · rintro ⟨k, ⟨k2, h1, h2⟩, h3⟩
      exact ⟨k2, h1, (iter_add a b k2 j).mpr ⟨k, h2, h3⟩⟩
theorem frag_times {f : Lay} {R : Nat → Nat → Prop} (h : Frag t f R) (la : Nat) (b : Int) (hb : b = -1 ∨ (la : Int) ≤ b) : Frag t (layTimes f la b) (fun i j => ∃ n : Nat, (la : Int) ≤ n ∧ (b < 0 ∨ (n : Int) ≤ b) ∧ iter R n i j) := by
  rcases hb with rfl | hb
  · cases la with
    | zero =>
      refine Frag.congr (f := layTimes f (0 : Nat) (-1)) (frag_star h) fun i j => ?_
      constructor
      · rintro ⟨d, hd⟩; exact ⟨d, by omega, .inl (by omega), hd⟩
      · rintro ⟨d, _, _, hd⟩; exact ⟨d, hd⟩
    | succ la =>
      have e : layTimes f ((la + 1 : Nat) : Int) (-1) = fun next sts => layRow f la (layLoop f next sts).2.2 (layLoop f next sts).1 := by
        funext next sts
        unfold layTimes
        rw [if_pos (by omega)]
        simp only
        rw [if_neg (by omega)]
        rfl
      rw [e]
      refine Frag.congr (frag_then (frag_row h la) (frag_body h)) fun i j => ?_
      constructor
      · rintro ⟨k, h1, d, h2⟩
        exact ⟨la + (d + 1), by omega, .inl (by omega), (iter_add la (d + 1) i j).mpr ⟨k, h1, h2⟩⟩
      · rintro ⟨n, h1, _, h2⟩
        obtain ⟨d, rfl⟩ : ∃ d, n = la + (d + 1) := ⟨n - la - 1, by omega⟩
        obtain ⟨k, q1, q2⟩ := (iter_add la (d + 1) i j).mp h2
        exact ⟨k, q1, d, q2⟩
  · obtain ⟨d, rfl⟩ : ∃ d : Nat, b = (la : Int) + d := ⟨(b - la).toNat, by omega⟩
    have e : layTimes f la ((la : Int) + d) = fun next sts => layRow f la (layMay f next d next sts).2 (layMay f next d next sts).1 := by
      funext next sts
      unfold layTimes
      rw [if_neg (by omega)]
      have e1 : ((la : Int) + d - la).toNat = d := by omega
      have e2 : (la : Int).toNat = la := by omega
      rw [e1, e2]
    rw [e]
    refine Frag.congr (frag_then (frag_row h la) (frag_may h d)) fun i j => ?_
    constructor
    · rintro ⟨k, h1, m, h2, h3⟩
      exact ⟨la + m, by omega, .inr (by omega), (iter_add la m i j).mpr ⟨k, h1, h3⟩⟩
    · rintro ⟨n, h1, h2, h3⟩
      obtain ⟨m, rfl⟩ : ∃ m, n = la + m := ⟨n - la, by omega⟩
      obtain ⟨k, q1, q2⟩ := (iter_add la m i j).mp h3
      exact ⟨k, q1, m, by omega, q2⟩

/- Ways. -/
theorem ways_pre {f : Re → Lay} {R : Re → Nat → Nat → Prop} (out : Int) : ∀ (l : List Re), (∀ r ∈ l, Frag t (f r) (R r)) → ∀ (first : Int) (sts : List St) (q : Nat), q < sts.length → (layWays f out l first sts).1[q]? = sts[q]?
  | [], _, _, _, _, _ => rfl
  | r :: l, h, first, sts, q, hq => by
    have h1 := (h r (by simp)).adds out sts
    unfold layWays
    rw [ways_pre out l (fun x hx => h x (by simp [hx])) _ _ q (by rw [List.length_append]; omega), List.getElem?_append_left (by omega)]
    exact (h r (by simp)).pre out sts q hq
theorem ways_adds {f : Re → Lay} {R : Re → Nat → Nat → Prop} (out : Int) : ∀ (l : List Re), (∀ r ∈ l, Frag t (f r) (R r)) → Adds (layWays f out l)
  | [], _, _, _ => Nat.le_refl _
  | r :: l, h, first, sts => by
    have h1 := (h r (by simp)).adds out sts
    have h2 := ways_adds out l (fun x hx => h x (by simp [hx])) ((f r out sts).1.length : Int) ((f r out sts).1 ++ [fork first (f r out sts).2])
    rw [List.length_append] at h2
    unfold layWays
    omega
theorem ways_acc {f : Re → Lay} {R : Re → Nat → Nat → Prop} (out : Int) : ∀ (l : List Re), (∀ r ∈ l, Frag t (f r) (R r)) → ∀ (first : Int) (sts S : List St), Agrees S (layWays f out l first sts).1 sts.length →
    (∀ n i j, Acc S t n (layWays f out l first sts).2 i j → (∃ c, c ≤ n ∧ Acc S t c first i j) ∨ ∃ r ∈ l, ∃ k c, c ≤ n ∧ R r i k ∧ Acc S t c out k j) ∧
    (∀ i j, ((∃ c, Acc S t c first i j) ∨ ∃ r ∈ l, ∃ k c, R r i k ∧ Acc S t c out k j) → ∃ n, Acc S t n (layWays f out l first sts).2 i j)
  | [], _, first, sts, S, _ => ⟨fun n i j h => .inl ⟨n, Nat.le_refl _, h⟩, fun i j h => h.elim id fun ⟨x, hx, _⟩ => absurd hx (by simp)⟩
  | r :: l, h, first, sts, S, hA => by
    have hr := h r (by simp)
    have hl : ∀ x ∈ l, Frag t (f x) (R x) := fun x hx => h x (by simp [hx])
    have h1 := hr.adds out sts
    have h2 := ways_adds out l hl ((f r out sts).1.length : Int) ((f r out sts).1 ++ [fork first (f r out sts).2])
    rw [List.length_append] at h2
    have hpre := ways_pre out l hl ((f r out sts).1.length : Int) ((f r out sts).1 ++ [fork first (f r out sts).2])
    rw [layWays] at hA ⊢
    have hs := of_agrees (s := fork first (f r out sts).2) hA h1 (by simpa using h2) (fun q hq => hpre q (by rw [List.length_append]; simpa using hq))
    obtain ⟨ih1, ih2⟩ := ways_acc out l hl ((f r out sts).1.length : Int) ((f r out sts).1 ++ [fork first (f r out sts).2]) S (hA.less (by rw [List.length_append]; omega))
    have hA2 : Agrees S (f r out sts).1 sts.length := hA.head (by omega) fun q hq => by
      rw [hpre q (by rw [List.length_append]; omega), List.getElem?_append_left hq]
    constructor
    · intro n i j ha
      rcases ih1 n i j ha with ⟨c, q1, q2⟩ | ⟨x, hx, k, c, q1, q2, q3⟩
      · cases c with
        | zero => exact absurd q2 (acc_fork0 hs)
        | succ c =>
          rcases (acc_fork hs).mp q2 with q3 | q3
          · exact .inl ⟨c, by omega, q3⟩
          · obtain ⟨k, m, p1, p2, p3⟩ := hr.fwd out sts S hA2 c i j q3
            exact .inr ⟨r, by simp, k, m, by omega, p2, p3⟩
      · exact .inr ⟨x, by simp [hx], k, c, q1, q2, q3⟩
    · rintro i j (⟨c, hc⟩ | ⟨x, hx, k, c, q1, q2⟩)
      · exact ih2 i j (.inl ⟨c + 1, (acc_fork hs).mpr (.inl hc)⟩)
      · rcases List.mem_cons.mp hx with rfl | hx
        · obtain ⟨m, p⟩ := hr.bwd out sts S hA2 c i k j q1 q2
          exact ih2 i j (.inl ⟨m + 1, (acc_fork hs).mpr (.inr p)⟩)
        · exact ih2 i j (.inr ⟨x, hx, k, c, q1, q2⟩)
theorem frag_alt {f : Re → Lay} {R : Re → Nat → Nat → Prop} (k0 : Re) (l : List Re) (h : ∀ r ∈ k0 :: l, Frag t (f r) (R r)) : Frag t (layAlt f (k0 :: l)) (fun i j => ∃ r ∈ k0 :: l, R r i j) := by
  have h0 := h k0 (by simp)
  have hl : ∀ x ∈ l, Frag t (f x) (R x) := fun x hx => h x (by simp [hx])
  have ha : ∀ next sts, sts.length ≤ (f k0 next sts).1.length ∧ (f k0 next sts).1.length ≤ (layAlt f (k0 :: l) next sts).1.length := fun next sts => ⟨h0.adds next sts, ways_adds next l hl _ _⟩
  have hp : ∀ next sts q, q < (f k0 next sts).1.length → (layAlt f (k0 :: l) next sts).1[q]? = (f k0 next sts).1[q]? := fun next sts q hq => ways_pre next l hl _ _ q hq
  refine ⟨fun next sts => Nat.le_trans (ha next sts).1 (ha next sts).2, fun next sts q hq => (hp next sts q (Nat.lt_of_lt_of_le hq (ha next sts).1)).trans (h0.pre next sts q hq), fun next sts S hA n i j hh => ?_, fun next sts S hA n i k j ⟨r, hr, hR⟩ hh => ?_⟩
  · have hA0 : Agrees S (f k0 next sts).1 sts.length := hA.head (ha next sts).2 (hp next sts)
    rcases (ways_acc next l hl _ _ S (hA.less (ha next sts).1)).1 n i j hh with ⟨c, q1, q2⟩ | ⟨x, hx, k, c, q1, q2, q3⟩
    · obtain ⟨k, m, p1, p2, p3⟩ := h0.fwd next sts S hA0 c i j q2
      exact ⟨k, m, by omega, ⟨k0, by simp, p2⟩, p3⟩
    · exact ⟨k, c, q1, ⟨x, by simp [hx], q2⟩, q3⟩
  · have hA0 : Agrees S (f k0 next sts).1 sts.length := hA.head (ha next sts).2 (hp next sts)
    refine (ways_acc next l hl _ _ S (hA.less (ha next sts).1)).2 i j ?_
    rcases List.mem_cons.mp hr with rfl | hr
    · exact .inl (h0.bwd next sts S hA0 n i k j hR hh)
    · exact .inr ⟨r, hr, k, n, hR, hh⟩

/- All right trees. -/
theorem fits_kind' {k s0 s1 s2 s3 a b : Int} {n : Nat} (h : fitsI k s0 s1 s2 s3 a b n = true) : k = 1 ∨ k = 2 ∨ k = 3 ∨ k = 4 ∨ (k = 5 ∧ 2 ≤ n) ∨ (k = 6 ∧ 2 ≤ n) ∨ (k = 7 ∧ n = 1 ∧ timesFitI a b = true) := by
  unfold fitsI at h
  split at h
  · omega
  · split at h
    · omega
    · split at h
      · simp at h; omega
      · split at h
        · simp at h; right; right; right; right; right; right; exact ⟨by assumption, h.2, h.1.2⟩
        · simp at h
theorem cat_congr {R Q : Re → Nat → Nat → Prop} : ∀ (l : List Re), (∀ r ∈ l, ∀ i j, R r i j ↔ Q r i j) → ∀ i j, cat R l i j ↔ cat Q l i j
  | [], _, _, _ => Iff.rfl
  | r :: l, h, i, j => by
    have ih := cat_congr l fun x hx => h x (by simp [hx])
    constructor
    · rintro ⟨k, h1, h2⟩; exact ⟨k, (h r (by simp) i k).mp h1, (ih k j).mp h2⟩
    · rintro ⟨k, h1, h2⟩; exact ⟨k, (h r (by simp) i k).mpr h1, (ih k j).mpr h2⟩
theorem frag_tree : ∀ (l : Nat) (r : Re) (n : Int), (rightG l r n).1 = true → Frag t (lay l r) (takes t l r)
  | 0, r, n, h => by simp [rightG] at h
  | l + 1, .mk k s0 s1 s2 s3 a b kids, n, h => by
    obtain ⟨hfit, ha0, ha1, hb0, hb1, hln, hks⟩ := right_open h
    have hk : ∀ r ∈ kids, Frag t (lay l r) (takes t l r) := fun r hr => by
      obtain ⟨i, hi⟩ := List.getElem?_of_mem hr
      obtain ⟨m, _, _, hm⟩ := hks i r hi
      exact frag_tree l r m hm
    rcases fits_kind' hfit with rfl | rfl | rfl | rfl | ⟨rfl, h2⟩ | ⟨rfl, h2⟩ | ⟨rfl, h1, hf⟩
    · exact frag_id
    · exact frag_set s0 s1 s2 s3
    · exact frag_begin
    · exact frag_end
    · exact frag_cat kids hk
    · cases kids with
      | nil => simp at h2
      | cons k0 rest => exact frag_alt k0 rest hk
    · match kids, h1, hk with
      | [kid], _, hk =>
        obtain ⟨la, rfl⟩ : ∃ la : Nat, a = la := ⟨a.toNat, by omega⟩
        have hab : b = -1 ∨ (la : Int) ≤ b := by
          unfold timesFitI at hf
          simp only [decide_eq_true_eq] at hf
          rcases hf.2.2 with h | h
          · exact .inl h
          · exact .inr h.1
        exact frag_times (hk kid (by simp)) la b hab
end Go.Proofs.Ytmnghdccikoaoaa.Mt
