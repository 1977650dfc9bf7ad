/-
  Layer 12, plain: what stands between quotes, or slashes: where it ends, and what it says; of lists of bytes.
-/
import Derived.Lib.IndexMore
import Derived.Lib.Replace
import Derived.Lib.Hide
namespace Go.Proofs.YtefpkgdakihceaaDoor.Lx

def octB (c : UInt8) : Bool := decide (48 ≤ c.toNat ∧ c.toNat ≤ 55)
/- How many octal digits stand ahead, n at most. -/
def octN : Nat → List UInt8 → Nat
  | 0, _ => 0
  | _ + 1, [] => 0
  | n + 1, c :: l => if octB c = true then octN n l + 1 else 0
def octVal (l : List UInt8) : Nat := l.foldl (fun a c => a * 8 + (c.toNat - 48)) 0
def plainM (c : UInt8) : Option UInt8 :=
  if c = 34 then some 34 else if c = 92 then some 92 else if c = 47 then some 47 else if c = 97 then some 7 else if c = 98 then some 8 else if c = 102 then some 12
  else if c = 110 then some 10 else if c = 114 then some 13 else if c = 116 then some 9 else if c = 118 then some 11 else none
/- What a mark says, by what stands behind its backslash, and how much of that it takes. -/
def oneM (c : UInt8) : List UInt8 := match plainM c with
  | some d => [d]
  | none => [92, c]
def markS (l : List UInt8) : List UInt8 := if octN 3 l = 0 then oneM (l.headD 0) else [UInt8.ofNat (octVal (l.take (octN 3 l)) % 256)]
def markN (l : List UInt8) : Nat := if octN 3 l = 0 then 1 else octN 3 l
theorem markN_pos (l : List UInt8) : 1 ≤ markN l := by unfold markN; split <;> omega
theorem octN_le : ∀ (n : Nat) (l : List UInt8), octN n l ≤ n ∧ octN n l ≤ l.length
  | 0, _ => ⟨Nat.le_refl _, Nat.zero_le _⟩
  | _ + 1, [] => ⟨Nat.zero_le _, Nat.zero_le _⟩
  | n + 1, c :: l => by
    have := octN_le n l
    unfold octN
    split
    · simp only [List.length_cons]; omega
    · simp
theorem octN_take : ∀ (n : Nat) (l : List UInt8) (j : Nat), octN n (l.take j) = min (octN n l) j
  | 0, _, _ => by simp [octN]
  | _ + 1, [], _ => by simp [octN]
  | n + 1, c :: l, 0 => by simp [octN]
  | n + 1, c :: l, j + 1 => by
    have := octN_take n l j
    simp only [List.take_succ_cons, octN]
    split <;> omega
theorem octN_get : ∀ (n : Nat) (l : List UInt8) (i : Nat) (h : i < octN n l), octB (l[i]'(by have := octN_le n l; omega)) = true
  | 0, _, _, h => by simp [octN] at h
  | _ + 1, [], _, h => by simp [octN] at h
  | n + 1, c :: l, 0, h => by
    unfold octN at h
    split at h
    · assumption
    · omega
  | n + 1, c :: l, i + 1, h => by
    unfold octN at h
    split at h
    · exact octN_get n l i (by omega)
    · omega
/- What a text says. -/
def saysL (l : List UInt8) : List UInt8 :=
  match l with
  | [] => []
  | c :: r => if c = 92 then markS r ++ saysL (r.drop (markN r)) else c :: saysL r
termination_by l.length
decreasing_by
  · simp only [List.length_drop, List.length_cons]; omega
  · simp
theorem saysL_nil : saysL [] = [] := by rw [saysL]
theorem saysL_mark (r : List UInt8) : saysL (92 :: r) = markS r ++ saysL (r.drop (markN r)) := by rw [saysL, if_pos rfl]
theorem saysL_plain {c : UInt8} (h : c ≠ 92) (r : List UInt8) : saysL (c :: r) = c :: saysL r := by rw [saysL, if_neg h]
theorem saysL_plains : ∀ (p r : List UInt8), (∀ c ∈ p, c ≠ 92) → saysL (p ++ r) = p ++ saysL r
  | [], _, _ => rfl
  | c :: p, r, h => by
    rw [List.cons_append, saysL_plain (h c (by simp)), saysL_plains p r (fun d hd => h d (by simp [hd]))]
    rfl
/- What a pattern says. -/
def patL : List UInt8 → List UInt8
  | [] => []
  | [c] => [c]
  | c :: d :: r => if c = 92 then (if d = 47 then 47 :: patL r else 92 :: d :: patL r) else c :: patL (d :: r)
def saysQ (q : UInt8) (l : List UInt8) : List UInt8 := if q = 47 then patL l else saysL l
/- No quote but behind a backslash, and no backslash alone at the end. -/
def okL (q : UInt8) : List UInt8 → Bool
  | [] => true
  | [c] => c != 92 && c != q
  | c :: d :: r => if c = 92 then okL q r else c != q && okL q (d :: r)
/- How far it goes. -/
def closeL (q : UInt8) : List UInt8 → Bool → Nat
  | [], _ => 0
  | c :: l, m => if c = 10 ∨ (m = false ∧ c = q) then 0 else closeL q l (!m && c == 92) + 1
theorem closeL_le (q : UInt8) : ∀ (l : List UInt8) (m : Bool), closeL q l m ≤ l.length
  | [], _ => Nat.le_refl _
  | c :: l, m => by
    unfold closeL
    split
    · simp
    · have := closeL_le q l (!m && c == 92)
      simp only [List.length_cons]; omega
theorem closeL_go {q c : UInt8} {l : List UInt8} {m : Bool} (h1 : c ≠ 10) (h2 : m = true ∨ c ≠ q) : closeL q (c :: l) m = closeL q l (!m && c == 92) + 1 := by
  have : ¬ (c = 10 ∨ (m = false ∧ c = q)) := by
    rintro (h | ⟨h, h3⟩)
    · exact h1 h
    · rcases h2 with h2 | h2
      · rw [h] at h2; cases h2
      · exact h2 h3
  rw [closeL, if_neg this]
theorem closeL_stop {q c : UInt8} {l : List UInt8} {m : Bool} (h : c = 10 ∨ (m = false ∧ c = q)) : closeL q (c :: l) m = 0 := by rw [closeL, if_pos h]
/- Bytes that mean nothing are gone over. -/
theorem closeL_over (q : UInt8) : ∀ (j : Nat) (l : List UInt8), j ≤ l.length → (∀ i (hi : i < l.length), i < j → l[i] ≠ 10 ∧ l[i] ≠ q ∧ l[i] ≠ 92) → closeL q l false = j + closeL q (l.drop j) false
  | 0, l, _, _ => by simp
  | j + 1, [], h, _ => by simp at h
  | j + 1, c :: l, h, hc => by
    have h0 := hc 0 (by simp) (by omega)
    simp only [List.getElem_cons_zero] at h0
    have hb : (!false && c == 92) = false := by
      have : (c == 92) = false := by rw [beq_eq_false_iff_ne]; exact h0.2.2
      rw [this]; rfl
    rw [closeL_go h0.1 (.inr h0.2.1), hb, closeL_over q j l (by simpa using h) (fun i hi hij => by
      have := hc (i + 1) (by simpa using hi) (by omega)
      simpa using this)]
    simp only [List.drop_succ_cons]
    omega
/- The document's own: what is said up to the end, and how much is taken, the last quote with it. -/
def qL (q : UInt8) (l : List UInt8) : Option (List UInt8 × Nat) :=
  match l with
  | [] => none
  | c :: r => if c = 10 then none else if c = q then some ([], 1)
    else if c ≠ 92 then (qL q r).map fun x => (c :: x.1, x.2 + 1)
    else match r with
      | [] => none
      | d :: r' => if d = 10 then none
        else if q = 47 then (qL q r').map fun x => ((if d = 47 then [47] else [92, d]) ++ x.1, x.2 + 2)
        else (qL q ((d :: r').drop (markN (d :: r')))).map fun x => (markS (d :: r') ++ x.1, x.2 + 1 + markN (d :: r'))
termination_by l.length
decreasing_by
  · simp
  · simp only [List.length_cons]; omega
  · simp only [List.length_drop, List.length_cons]; omega
theorem qL_nil (q : UInt8) : qL q [] = none := by rw [qL.eq_def]
theorem qL_cons (q c : UInt8) (r : List UInt8) : qL q (c :: r) = if c = 10 then none else if c = q then some ([], 1)
    else if c ≠ 92 then (qL q r).map fun x => (c :: x.1, x.2 + 1)
    else match r with
      | [] => none
      | d :: r' => if d = 10 then none
        else if q = 47 then (qL q r').map fun x => ((if d = 47 then [47] else [92, d]) ++ x.1, x.2 + 2)
        else (qL q ((d :: r').drop (markN (d :: r')))).map fun x => (markS (d :: r') ++ x.1, x.2 + 1 + markN (d :: r')) := by rw [qL.eq_def]
theorem octB_not {c : UInt8} (h : octB c = true) : c ≠ 10 ∧ c ≠ 34 ∧ c ≠ 92 ∧ c ≠ 47 := by
  simp only [octB, decide_eq_true_eq] at h
  refine ⟨?_, ?_, ?_, ?_⟩
  all_goals
    rintro rfl
    revert h
    decide
theorem markS_take {r : List UInt8} {j : Nat} (h1 : 1 ≤ j) (h2 : markN r ≤ j) : markS (r.take j) = markS r ∧ markN (r.take j) = markN r := by
  have ho := octN_take 3 r j
  have e : octN 3 (r.take j) = octN 3 r := by
    unfold markN at h2
    split at h2 <;> omega
  constructor
  · unfold markS
    rw [e]
    split
    · congr 1
      cases r with
      | nil => simp
      | cons a r => obtain ⟨j, rfl⟩ : ∃ i, j = i + 1 := ⟨j - 1, by omega⟩; simp
    · have hm : min (octN 3 r) j = octN 3 r := by
        unfold markN at h2
        split at h2 <;> omega
      rw [List.take_take, hm]
  · unfold markN
    rw [e]
/- What the document's own tells is what stands up to the end. -/
theorem qL_eq (q : UInt8) (hq : q = 34 ∨ q = 47) (l : List UInt8) :
    (closeL q l false < l.length → l[closeL q l false]? ≠ some 10 → qL q l = some (saysQ q (l.take (closeL q l false)), closeL q l false + 1) ∧ okL q (l.take (closeL q l false)) = true) ∧
    (¬ (closeL q l false < l.length ∧ l[closeL q l false]? ≠ some 10) → qL q l = none) := by
  match l with
  | [] => exact ⟨fun h => by simp [closeL] at h, fun _ => qL_nil q⟩
  | c :: r =>
    by_cases c1 : c = 10
    · rw [closeL_stop (.inl c1)]
      exact ⟨fun _ h => absurd (by simp [c1]) h, fun _ => by rw [qL_cons, if_pos c1]⟩
    by_cases c2 : c = q
    · rw [closeL_stop (.inr ⟨rfl, c2⟩)]
      refine ⟨fun _ _ => ⟨?_, rfl⟩, fun h => absurd ⟨by simp, by simp [c1]⟩ h⟩
      rw [qL_cons, if_neg c1, if_pos c2]
      simp only [List.take_zero]
      unfold saysQ
      rw [saysL_nil, patL, ite_self]
    by_cases c3 : c = 92
    · subst c3
      have e0 : closeL q (92 :: r) false = closeL q r true + 1 := closeL_go c1 (.inr c2)
      match r with
      | [] =>
        rw [e0]
        exact ⟨fun h => by simp [closeL] at h, fun _ => by rw [qL_cons, if_neg c1, if_neg c2, if_neg (by simp)]⟩
      | d :: r' =>
        by_cases d1 : d = 10
        · rw [e0, closeL_stop (.inl d1)]
          exact ⟨fun _ h => absurd (by simp [d1]) h, fun _ => by rw [qL_cons, if_neg c1, if_neg c2, if_neg (by simp)]; simp [d1]⟩
        have e1 : closeL q (92 :: d :: r') false = closeL q r' false + 2 := by
          rw [e0, closeL_go d1 (.inl rfl)]; rfl
        have eqv : qL q (92 :: d :: r') = if q = 47 then (qL q r').map fun x => ((if d = 47 then [47] else [92, d]) ++ x.1, x.2 + 2)
            else (qL q ((d :: r').drop (markN (d :: r')))).map fun x => (markS (d :: r') ++ x.1, x.2 + 1 + markN (d :: r')) := by
          rw [qL_cons, if_neg c1, if_neg c2, if_neg (by simp)]
          simp only [if_neg d1]
        have ok : ∀ n, okL q ((92 :: d :: r').take (n + 2)) = okL q (r'.take n) := fun n => by
          simp only [List.take_succ_cons, okL, if_true]
        rw [e1]
        by_cases hs : q = 47
        · have IH := qL_eq q hq r'
          rw [eqv, if_pos hs]
          constructor
          · intro h1 h2
            obtain ⟨i1, i2⟩ := IH.1 (by simpa using h1) (by simpa using h2)
            refine ⟨?_, by rw [ok]; exact i2⟩
            rw [i1]
            unfold saysQ
            simp only [if_pos hs, Option.map_some, List.take_succ_cons, patL, if_true]
            split <;> simp
          · intro h
            rw [IH.2 (fun h2 => h ⟨by simpa using h2.1, by simpa using h2.2⟩)]
            rfl
        · have hq34 : q = 34 := hq.resolve_right hs
          obtain ⟨k, hk⟩ : ∃ k, markN (d :: r') = k + 1 := ⟨markN (d :: r') - 1, by have := markN_pos (d :: r'); omega⟩
          have hkl : k ≤ r'.length := by
            have := octN_le 3 (d :: r')
            unfold markN at hk
            simp only [List.length_cons] at this
            split at hk <;> omega
          have hover : ∀ i (hi : i < r'.length), i < k → r'[i] ≠ 10 ∧ r'[i] ≠ q ∧ r'[i] ≠ 92 := by
            intro i hi hik
            have ho : i + 1 < octN 3 (d :: r') := by
              unfold markN at hk
              split at hk <;> omega
            have := octB_not (octN_get 3 (d :: r') (i + 1) ho)
            simp only [List.getElem_cons_succ] at this
            exact ⟨this.1, by rw [hq34]; exact this.2.1, this.2.2.1⟩
          have e2 := closeL_over q k r' hkl hover
          have IH := qL_eq q hq (r'.drop k)
          have ed : (d :: r').drop (markN (d :: r')) = r'.drop k := by rw [hk]; simp
          rw [eqv, if_neg hs, ed, e2]
          generalize hn : closeL q (r'.drop k) false = n at *
          have g : ∀ n, (92 :: d :: r')[k + n + 2]? = (r'.drop k)[n]? := fun n => by simp
          rw [g]
          have okd : ∀ (j : Nat) (t : List UInt8) (m : Nat), (∀ i (hi : i < t.length), i < j → t[i] ≠ 10 ∧ t[i] ≠ q ∧ t[i] ≠ 92) → j ≤ t.length → okL q (t.take (j + m)) = okL q ((t.drop j).take m) := by
            intro j
            induction j with
            | zero => intro t m _ _; simp
            | succ j ih =>
              intro t m hc hj
              cases t with
              | nil => simp at hj
              | cons a t =>
                have h0 := hc 0 (by simp) (by omega)
                simp only [List.getElem_cons_zero] at h0
                have ih2 := ih t m (fun i hi hij => by
                  have := hc (i + 1) (by simpa using hi) (by omega)
                  simpa using this) (by simpa using hj)
                rw [show j + 1 + m = (j + m) + 1 by omega, List.take_succ_cons, List.drop_succ_cons, ← ih2]
                cases hx : t.take (j + m) with
                | nil => simp [okL, h0.2.1, h0.2.2]
                | cons b t' => simp [okL, h0.2.1, h0.2.2]
          constructor
          · intro h1 h2
            obtain ⟨i1, i2⟩ := IH.1 (by simp only [List.length_cons, List.length_drop] at h1 ⊢; omega) h2
            constructor
            · rw [i1]
              have ht := markS_take (r := d :: r') (j := k + n + 1) (by omega) (by omega)
              have ex : (92 :: d :: r').take (k + n + 2) = 92 :: (d :: r').take (k + n + 1) := rfl
              unfold saysQ
              rw [if_neg hs, if_neg hs, ex, saysL_mark, ht.1, ht.2, hk]
              simp only [Option.map_some, List.take_succ_cons, List.drop_succ_cons, Option.some.injEq, Prod.mk.injEq]
              refine ⟨?_, by omega⟩
              rw [List.drop_take, show k + n - k = n by omega]
            · rw [show k + n + 2 = (k + n) + 2 by omega, ok, okd k r' n hover hkl]
              exact i2
          · intro h
            rw [IH.2 (fun h2 => h ⟨by have := h2.1; simp only [List.length_cons, List.length_drop] at this ⊢; omega, h2.2⟩)]
            rfl
    · have e0 : closeL q (c :: r) false = closeL q r false + 1 := by
        rw [closeL_go c1 (.inr c2)]
        have : (c == 92) = false := by rw [beq_eq_false_iff_ne]; exact c3
        rw [this]; rfl
      have IH := qL_eq q hq r
      have eqv : qL q (c :: r) = (qL q r).map fun x => (c :: x.1, x.2 + 1) := by
        rw [qL_cons, if_neg c1, if_neg c2, if_pos c3]
      rw [e0, eqv]
      constructor
      · intro h1 h2
        obtain ⟨i1, i2⟩ := IH.1 (by simpa using h1) (by simpa using h2)
        rw [i1]
        constructor
        · simp only [Option.map_some, List.take_succ_cons]
          unfold saysQ
          cases hx : r.take (closeL q r false) with
          | nil => simp [patL, saysL_plain c3, saysL_nil]
          | cons a t =>
            simp only [patL, saysL_plain c3, if_neg c3]
            split <;> rfl
        · rw [List.take_succ_cons]
          cases hx : r.take (closeL q r false) with
          | nil => simp [okL, c2, c3]
          | cons a t => rw [hx] at i2; simp [okL, c2, c3, i2]
      · intro h
        rw [IH.2 (fun h2 => h ⟨by simpa using h2.1, by simpa using h2.2⟩)]
        rfl
termination_by l.length
decreasing_by
  all_goals simp only [List.length_cons, List.length_drop]
  all_goals omega
end Go.Proofs.YtefpkgdakihceaaDoor.Lx
