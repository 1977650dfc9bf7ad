/-
  Package match: a right tree's states lead to states, are few, and hold words.
-/
import Derived.Test.YtmnghdccikoaoaaMtT
import Derived.Test.YtmnghdccikoaoaaMtP
namespace Go.Proofs.Ytmnghdccikoaoaa.Mt
open Go.RowKit Go.Proofs.Ytmnghdccikoaoaa.Sh

def AtS (i : Int) (sts : List St) : Prop := 0 ≤ i ∧ i < (sts.length : Int)
def OkS (sts : List St) : Prop := ∀ (q : Nat) (s : St), sts[q]? = some s → AtS s.next sts ∧ AtS s.other sts ∧ (∀ k, InWord (s.word k)) ∧ (s.act = 0 → q = 0)
theorem AtS.le {i : Int} {a b : List St} (h : AtS i a) (hl : a.length ≤ b.length) : AtS i b := ⟨h.1, by have := h.2; omega⟩
theorem OkS.add {sts : List St} (h : OkS sts) {s : St} (h1 : AtS s.next (sts ++ [s])) (h2 : AtS s.other (sts ++ [s])) (h3 : ∀ k, InWord (s.word k)) (h4 : s.act ≠ 0) : OkS (sts ++ [s]) := by
  intro q x hx
  have hl : sts.length ≤ (sts ++ [s]).length := by simp
  rw [List.getElem?_append] at hx
  split at hx
  · obtain ⟨q1, q2, q3⟩ := h q x hx
    exact ⟨q1.le hl, q2.le hl, q3⟩
  · have : x = s := by
      have h4 := List.getElem?_eq_some_iff.mp hx
      obtain ⟨h5, h6⟩ := h4
      simp at h5
      rw [← h6]
      simp [h5]
    subst this
    exact ⟨h1, h2, h3, fun e => absurd e h4⟩
theorem zero_word : InWord 0 := by constructor <;> decide
theorem fork_words (a b : Int) : ∀ k, InWord ((fork a b).word k) := fun k => by
  simp only [St.word, fork]
  repeat' split
  all_goals exact zero_word
theorem fork_act (a b : Int) : (fork a b).act ≠ 0 := by show (2 : Int) ≠ 0; decide
theorem AtS.snoc {i : Int} {sts : List St} (s : St) (h : AtS i sts) : AtS i (sts ++ [s]) := h.le (by simp)
theorem AtS.last (sts : List St) (s : St) : AtS (sts.length : Int) (sts ++ [s]) := ⟨by omega, by simp; omega⟩
theorem setNext_ok {sts : List St} {i : Nat} {n : Int} (h : OkS sts) (hn : AtS n sts) : OkS (setNext sts i n) := by
  intro q x hx
  have hl : (setNext sts i n).length = sts.length := setNext_length _ _ _
  unfold setNext at hx
  rw [List.getElem?_modify] at hx
  obtain ⟨y, hy, e⟩ := Option.map_eq_some_iff.mp hx
  obtain ⟨q1, q2, q3⟩ := h q y hy
  split at e
  · subst e
    exact ⟨hn.le (by omega), q2.le (by omega), q3⟩
  · subst e
    exact ⟨q1.le (by omega), q2.le (by omega), q3⟩

structure Fine (f : Lay) (c : Nat) : Prop where
  adds : Adds f
  go : ∀ next sts, OkS sts → AtS next sts → OkS (f next sts).1 ∧ AtS (f next sts).2 (f next sts).1 ∧ (f next sts).1.length ≤ sts.length + c
theorem Fine.mono {f : Lay} {c c' : Nat} (h : Fine f c) (hc : c ≤ c') : Fine f c' := ⟨h.adds, fun next sts h1 h2 => let ⟨a, b, d⟩ := h.go next sts h1 h2; ⟨a, b, by omega⟩⟩
theorem fine_id : Fine (fun next sts => (sts, next)) 0 := ⟨fun _ _ => Nat.le_refl _, fun _ _ h1 h2 => ⟨h1, h2, Nat.le_refl _⟩⟩
theorem fine_one (act : Int) (hact : act ≠ 0) (s0 s1 s2 s3 : Int) (h0 : InWord s0) (h1 : InWord s1) (h2 : InWord s2) (h3 : InWord s3) : Fine (fun next sts => (sts ++ [⟨act, s0, s1, s2, s3, next, 0⟩], (sts.length : Int))) 1 := by
  refine ⟨fun _ _ => by simp, fun next sts q1 q2 => ⟨q1.add (q2.snoc _) ⟨Int.le_refl _, ?_⟩ (fun k => ?_) hact, AtS.last _ _, by simp⟩⟩
  · show (0 : Int) < _
    simp
  · simp only [St.word]
    repeat' split
    all_goals assumption
theorem fine_row {f : Lay} {c : Nat} (h : Fine f c) : ∀ n, Fine (layRow f n) (n * c)
  | 0 => by rw [Nat.zero_mul]; exact fine_id
  | n + 1 => ⟨layRow_adds h.adds (n + 1), fun next sts h1 h2 => by
    obtain ⟨a, b, d⟩ := h.go next sts h1 h2
    obtain ⟨a2, b2, d2⟩ := (fine_row h n).go _ _ a b
    have e : (n + 1) * c = n * c + c := Nat.succ_mul _ _
    exact ⟨a2, b2, by simp only [layRow]; omega⟩⟩
theorem fine_may {f : Lay} {c : Nat} (h : Fine f c) (out : Int) : ∀ n first sts, OkS sts → AtS first sts → AtS out sts → OkS (layMay f out n first sts).1 ∧ AtS (layMay f out n first sts).2 (layMay f out n first sts).1 ∧ (layMay f out n first sts).1.length ≤ sts.length + n * (c + 1)
  | 0, first, sts, h1, h2, _ => ⟨h1, h2, by simp [layMay]⟩
  | n + 1, first, sts, h1, h2, h3 => by
    obtain ⟨a, b, d⟩ := h.go first sts h1 h2
    have hl := h.adds first sts
    have h4 := fine_may h out n ((f first sts).1.length : Int) ((f first sts).1 ++ [fork (f first sts).2 out]) (a.add (b.snoc _) ((h3.le hl).snoc _) (fork_words _ _) (fork_act _ _)) (AtS.last _ _) ((h3.le hl).snoc _)
    have e : (n + 1) * (c + 1) = n * (c + 1) + (c + 1) := Nat.succ_mul _ _
    unfold layMay
    refine ⟨h4.1, h4.2.1, ?_⟩
    have h5 := h4.2.2
    rw [List.length_append] at h5
    simp only [List.length_cons, List.length_nil] at h5
    omega
theorem fine_loop {f : Lay} {c : Nat} (h : Fine f c) (next : Int) (sts : List St) (h1 : OkS sts) (h2 : AtS next sts) : OkS (layLoop f next sts).1 ∧ AtS (layLoop f next sts).2.1 (layLoop f next sts).1 ∧ AtS (layLoop f next sts).2.2 (layLoop f next sts).1 ∧ (layLoop f next sts).1.length ≤ sts.length + 1 + c := by
  have h0 : AtS 0 (sts ++ [fork 0 next]) := ⟨by omega, by simp⟩
  obtain ⟨a, b, d⟩ := h.go (sts.length : Int) (sts ++ [fork 0 next]) (h1.add h0 (h2.snoc _) (fork_words _ _) (fork_act _ _)) (AtS.last _ _)
  have hl := h.adds (sts.length : Int) (sts ++ [fork 0 next])
  simp only [layLoop]
  have e := setNext_length (f (sts.length : Int) (sts ++ [fork 0 next])).1 sts.length (f (sts.length : Int) (sts ++ [fork 0 next])).2
  rw [List.length_append] at d hl
  simp only [List.length_cons, List.length_nil] at d hl
  exact ⟨setNext_ok a b, ⟨by omega, by rw [e]; omega⟩, b.le (by rw [e]; exact Nat.le_refl _), by rw [e]; omega⟩
theorem fine_times {f : Lay} {c C : Nat} (h : Fine f c) (least : Nat) (most : Int) (hm : most < 0 ∨ (least : Int) ≤ most) (h1 : most < 0 → 1 + c ≤ C ∧ 1 + least * c ≤ C) (h2 : 0 ≤ most → (most.toNat - least) * (c + 1) + least * c ≤ C) : Fine (layTimes f least most) C := by
  refine ⟨layTimes_adds h.adds _ _, fun next sts q1 q2 => ?_⟩
  unfold layTimes
  split
  · rename_i hneg
    obtain ⟨e1, e2⟩ := h1 hneg
    obtain ⟨a, b, b2, d⟩ := fine_loop h next sts q1 q2
    split
    · exact ⟨a, b, by show (layLoop f next sts).1.length ≤ _; omega⟩
    · rename_i hl0
      obtain ⟨m, rfl⟩ : ∃ m, least = m + 1 := ⟨least - 1, by omega⟩
      have e3 : ((m + 1 : Nat) : Int).toNat - 1 = m := by omega
      rw [e3]
      obtain ⟨a2, b3, d2⟩ := (fine_row h m).go _ _ a b2
      have e : (m + 1) * c = m * c + c := Nat.succ_mul _ _
      exact ⟨a2, b3, by show (layRow f m (layLoop f next sts).2.2 (layLoop f next sts).1).1.length ≤ _; omega⟩
  · rename_i hneg
    have e2 := h2 (by omega)
    obtain ⟨a, b, d⟩ := fine_may h next (most - least).toNat next sts q1 q2 q2
    obtain ⟨a2, b2, d2⟩ := (fine_row h least).go _ _ a b
    have e3 : (most - (least : Int)).toNat = most.toNat - least := by omega
    have e4 : ((least : Nat) : Int).toNat = least := by omega
    rw [e4]
    rw [e3] at a2 b2 d d2 ⊢
    exact ⟨a2, b2, by show (layRow f least (layMay f next (most.toNat - least) next sts).2 (layMay f next (most.toNat - least) next sts).1).1.length ≤ _; omega⟩
theorem fits_ab {k s0 s1 s2 s3 a b : Int} {n : Nat} (h : fitsI k s0 s1 s2 s3 a b n = true) (hk : k = 5 ∨ k = 6) : a = 0 ∧ b = 0 := by
  unfold fitsI at h
  rw [if_neg (by omega), if_neg (by omega), if_pos hk] at h
  simp only [Bool.and_eq_true, decide_eq_true_eq] at h
  exact ⟨h.2.1, h.2.2.1⟩
def sumC (c : Re → Nat) : List Re → Nat
  | [] => 0
  | r :: l => c r + sumC c l
theorem fine_cat {f : Re → Lay} {c : Re → Nat} : ∀ (l : List Re), (∀ r ∈ l, Fine (f r) (c r)) → Fine (layCat f l) (sumC c l)
  | [], _ => fine_id
  | r :: l, h => by
    have h1 := fine_cat l fun r hr => h r (by simp [hr])
    have h2 := h r (by simp)
    refine ⟨fun next sts => Nat.le_trans (h1.adds next sts) (h2.adds _ _), fun next sts q1 q2 => ?_⟩
    obtain ⟨a, b, d⟩ := h1.go next sts q1 q2
    obtain ⟨a2, b2, d2⟩ := h2.go _ _ a b
    exact ⟨a2, b2, by simp only [layCat, sumC]; omega⟩
theorem fine_ways {f : Re → Lay} {c : Re → Nat} (out : Int) : ∀ (l : List Re), (∀ r ∈ l, Fine (f r) (c r)) → ∀ first sts, OkS sts → AtS first sts → AtS out sts → OkS (layWays f out l first sts).1 ∧ AtS (layWays f out l first sts).2 (layWays f out l first sts).1 ∧ (layWays f out l first sts).1.length ≤ sts.length + sumC c l + l.length
  | [], _, first, sts, h1, h2, _ => ⟨h1, h2, by simp [layWays, sumC]⟩
  | r :: l, h, first, sts, h1, h2, h3 => by
    have hr := h r (by simp)
    obtain ⟨a, b, d⟩ := hr.go out sts h1 h3
    have hl := hr.adds out sts
    have h4 := fine_ways out l (fun r hr => h r (by simp [hr])) ((f r out sts).1.length : Int) ((f r out sts).1 ++ [fork first (f r out sts).2]) (a.add ((h2.le hl).snoc _) (b.snoc _) (fork_words _ _) (fork_act _ _)) (AtS.last _ _) ((h3.le hl).snoc _)
    unfold layWays
    refine ⟨h4.1, h4.2.1, ?_⟩
    have h5 := h4.2.2
    rw [List.length_append] at h5
    simp only [List.length_cons, List.length_nil, sumC] at h5 ⊢
    omega
theorem fine_alt {f : Re → Lay} {c : Re → Nat} (ha : ∀ r, Adds (f r)) (k0 : Re) (l : List Re) (h : ∀ r ∈ k0 :: l, Fine (f r) (c r)) : Fine (layAlt f (k0 :: l)) (sumC c (k0 :: l) + l.length) := by
  refine ⟨layAlt_adds ha _, fun next sts q1 q2 => ?_⟩
  have h0 := h k0 (by simp)
  obtain ⟨a, b, d⟩ := h0.go next sts q1 q2
  have h1 := fine_ways next l (fun r hr => h r (by simp [hr])) _ _ a b (q2.le (h0.adds next sts))
  unfold layAlt
  exact ⟨h1.1, h1.2.1, by have := h1.2.2; simp only [sumC]; omega⟩

/- A tree's words. -/
def WordsR : Nat → Re → Prop
  | 0, _ => True
  | l + 1, .mk _ s0 s1 s2 s3 _ _ kids => (InWord s0 ∧ InWord s1 ∧ InWord s2 ∧ InWord s3) ∧ ∀ r ∈ kids, WordsR l r
def cnt (r : Re) : Nat := (2 * sizeI r - 1).toNat
theorem sumC_le : ∀ (l : List Re), (sumC cnt l : Int) + l.length = 2 * sizesI 1 l
  | [] => by simp [sumC, sizesI]
  | r :: l => by
    have h1 := sumC_le l
    have h2 := sizeI_ge r
    simp only [sumC, sizesI, List.length_cons, cnt]
    omega
theorem sizesI_mem {t : Int} (ht : 1 ≤ t) : ∀ (l : List Re) (r : Re), r ∈ l → sizeI r ≤ sizesI t l
  | x :: l, r, h => by
    have hx := sizeI_ge x
    have hn := sizesI_ge t (by omega) l
    have hm : sizeI x ≤ sizeI x * t := by
      have := Int.mul_le_mul_of_nonneg_left ht (show 0 ≤ sizeI x by omega)
      omega
    unfold sizesI
    rcases List.mem_cons.mp h with rfl | h
    · omega
    · have := sizesI_mem ht l r h
      omega
theorem fine_tree : ∀ (l : Nat) (r : Re) (n : Int), (rightG l r n).1 = true → sizeI r ≤ 20000 → WordsR l r → Fine (lay l r) (cnt r)
  | 0, r, n, h, _, _ => by simp [rightG] at h
  | l + 1, .mk k s0 s1 s2 s3 a b kids, n, h, hz, hw => by
    obtain ⟨hfit, ha0, ha1, hb0, hb1, hln, hks⟩ := right_open h
    obtain ⟨⟨w0, w1, w2, w3⟩, hwk⟩ := hw
    have ht1 : (1 : Int) ≤ max a (max b 1) := by omega
    have hs : sizeI (.mk k s0 s1 s2 s3 a b kids) = 1 + sizesI (max a (max b 1)) kids := by
      have := hz
      unfold sizeI at this ⊢
      omega
    have hk : ∀ r ∈ kids, Fine (lay l r) (cnt r) := fun r hr => by
      obtain ⟨i, hi⟩ := List.getElem?_of_mem hr
      obtain ⟨m, _, _, hm⟩ := hks i r hi
      have := sizesI_mem ht1 kids r hr
      exact fine_tree l r m hm (by omega) (hwk r hr)
    have hc : cnt (.mk k s0 s1 s2 s3 a b kids) = (1 + 2 * sizesI (max a (max b 1)) kids).toNat := by unfold cnt; rw [hs]; congr 1; omega
    have hn := sizesI_ge (max a (max b 1)) (by omega) kids
    rw [hc]
    rcases fits_kind' hfit with rfl | rfl | rfl | rfl | ⟨rfl, h2⟩ | ⟨rfl, h2⟩ | ⟨rfl, h1, hf⟩
    · exact fine_id.mono (Nat.zero_le _)
    · exact (fine_one 1 (by decide) s0 s1 s2 s3 w0 w1 w2 w3).mono (by omega)
    · exact (fine_one 3 (by decide) 0 0 0 0 zero_word zero_word zero_word zero_word).mono (by omega)
    · exact (fine_one 4 (by decide) 0 0 0 0 zero_word zero_word zero_word zero_word).mono (by omega)
    · have hab := fits_ab hfit (.inl rfl)
      have e : max a (max b 1) = 1 := by omega
      rw [e]
      refine (fine_cat kids hk).mono ?_
      have := sumC_le kids
      omega
    · have hab := fits_ab hfit (.inr rfl)
      have e : max a (max b 1) = 1 := by omega
      rw [e]
      cases kids with
      | nil => simp at h2
      | cons k0 rest =>
        refine (fine_alt (lay_adds l) k0 rest hk).mono ?_
        have := sumC_le (k0 :: rest)
        simp only [List.length_cons] at this
        omega
    · match kids, h1, hk, hn with
      | [kid], _, hk, hn =>
        obtain ⟨la, rfl⟩ : ∃ la : Nat, a = la := ⟨a.toNat, by omega⟩
        have hkf := hk kid (by simp)
        have hsz := sizeI_ge kid
        obtain ⟨z, hzk⟩ : ∃ z : Nat, sizeI kid = z := ⟨(sizeI kid).toNat, by omega⟩
        have hcn : cnt kid = 2 * z - 1 := by unfold cnt; omega
        rw [hcn] at hkf
        have hf' : b = -1 ∨ (la : Int) ≤ b := by
          unfold timesFitI at hf
          simp only [decide_eq_true_eq] at hf
          rcases hf.2.2 with h | h
          · exact .inl h
          · exact .inr h.1
        obtain ⟨t, ht⟩ : ∃ t : Nat, max (la : Int) (max b 1) = t := ⟨(max (la : Int) (max b 1)).toNat, by omega⟩
        have hz1 : 1 ≤ z := by omega
        have hC : (1 + 2 * sizesI (max (la : Int) (max b 1)) [kid]).toNat = 1 + 2 * (z * t) := by
          simp only [sizesI]
          rw [hzk, ht]
          have : (z : Int) * (t : Int) = ((z * t : Nat) : Int) := by push_cast; rfl
          rw [this]
          omega
        rw [hC]
        have ht' : 1 ≤ t ∧ la ≤ t := by omega
        have hzt : z ≤ z * t := Nat.le_mul_of_pos_right z (by omega)
        refine fine_times hkf la b (by omega) (fun hneg => ?_) (fun hpos => ?_)
        · refine ⟨by omega, ?_⟩
          have h3 : la * (2 * z - 1) ≤ t * (2 * z) := Nat.mul_le_mul ht'.2 (by omega)
          have h4 : t * (2 * z) = 2 * (z * t) := by rw [Nat.mul_comm t, Nat.mul_assoc]
          omega
        · have hbt : b.toNat ≤ t := by omega
          have h3 : (b.toNat - la) * (2 * z - 1 + 1) + la * (2 * z - 1) ≤ b.toNat * (2 * z) := by
            have e1 : 2 * z - 1 + 1 = 2 * z := by omega
            rw [e1]
            have h5 : la * (2 * z - 1) ≤ la * (2 * z) := Nat.mul_le_mul_left _ (by omega)
            have h6 : (b.toNat - la) * (2 * z) + la * (2 * z) = b.toNat * (2 * z) := by rw [← Nat.add_mul]; congr 1; omega
            omega
          have h7 : b.toNat * (2 * z) ≤ t * (2 * z) := Nat.mul_le_mul_right _ hbt
          have h4 : t * (2 * z) = 2 * (z * t) := by rw [Nat.mul_comm t, Nat.mul_assoc]
          omega
end Go.Proofs.Ytmnghdccikoaoaa.Mt
