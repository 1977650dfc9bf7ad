/-
  Package cells: to compare is an order.
-/
import Derived.Test.YtfifgmhlcikjeaaGreatDoorCelB
namespace Go.Proofs.YtfifgmhlcikjeaaGreatDoor.Cel
open Go.RowKit Ieee

/- Numbers of a word, as whole numbers of their least part. -/
def Big (B : Nat) : Prop := ∀ n, n ≤ 2200 → 2 ^ n ≤ B
theorem big_of (N : Nat) : ∃ B, ∀ n, n ≤ N → 2 ^ n ≤ B := ⟨2 ^ N, fun _ h => Nat.pow_le_pow_right (by decide) h⟩
theorem big : ∃ B, Big B := big_of 2200
theorem Big.pos {B : Nat} (h : Big B) : 0 < B := Nat.lt_of_lt_of_le (by decide) (h 0 (by omega))
def keyD (B : Nat) : Datum → Int
  | .number s m i => signed s m (i + 1074).toNat
  | .infinity s => if s then -(B : Int) else (B : Int)
  | .nan _ _ => 0
def okD : Datum → Prop
  | .number _ m i => -1074 ≤ i ∧ i ≤ 1000 ∧ m < 2 ^ 53
  | _ => True
theorem read_ok (x : Nat) : okD (double.read x) := by
  have hL : double.leastPlace = -1074 := by decide
  have hb : double.binade = 2 ^ 52 := by decide
  have hi : double.infRung = 2047 * 2 ^ 52 := by decide
  unfold Format.read
  rw [hL, hb, hi]
  simp only
  generalize x % double.signWeight = r
  split
  · rename_i h1
    exact ⟨by decide, by decide, by omega⟩
  · split
    · rename_i h1 h2
      refine ⟨by omega, by omega, by omega⟩
    · split <;> trivial
theorem signed_up (s : Bool) (m a b : Nat) : signed s m (a + b) = signed s m a * 2 ^ b := by
  unfold signed
  split <;> simp [Nat.shiftLeft_eq, Nat.pow_add, Int.mul_assoc, Int.neg_mul]
theorem compare_lt (a b : Int) : Ord.compare a b = .lt ↔ a < b := by
  simp only [Ord.compare, compareOfLessAndEq]
  split
  · simp_all
  · split <;> simp_all
theorem compare_gt (a b : Int) : Ord.compare a b = .gt ↔ b < a := by
  simp only [Ord.compare, compareOfLessAndEq]
  split
  · simp; omega
  · split
    · simp; omega
    · simp; omega
theorem signed_bound {B : Nat} (hB : Big B) {s : Bool} {m : Nat} {i : Int} (h : okD (.number s m i)) : -(B : Int) < signed s m (i + 1074).toNat ∧ signed s m (i + 1074).toNat < (B : Int) := by
  obtain ⟨h1, h2, h3⟩ := h
  have hs : m <<< (i + 1074).toNat < B := by
    rw [Nat.shiftLeft_eq]
    calc m * 2 ^ (i + 1074).toNat < 2 ^ 53 * 2 ^ (i + 1074).toNat := Nat.mul_lt_mul_of_pos_right h3 (Nat.pow_pos (by decide))
      _ = 2 ^ (53 + (i + 1074).toNat) := by rw [Nat.pow_add]
      _ ≤ B := hB _ (by omega)
  have hp := hB.pos
  unfold signed
  generalize m <<< (i + 1074).toNat = x at *
  split <;> omega
def isNanD : Datum → Bool
  | .nan _ _ => true
  | _ => false
theorem order_key {B : Nat} (hB : Big B) {d e : Datum} (hd : okD d) (he : okD e) (h1 : isNanD d = false) (h2 : isNanD e = false) : ∃ o, d.order e = some o ∧ (o = .lt ↔ keyD B d < keyD B e) ∧ (o = .gt ↔ keyD B e < keyD B d) := by
  have hp := hB.pos
  cases d with
  | nan => cases h1
  | infinity s =>
    cases e with
    | nan => cases h2
    | infinity t =>
      refine ⟨_, rfl, ?_, ?_⟩
      · simp only [keyD]
        cases s <;> cases t <;> first | exact iff_of_false (by decide) (by simp <;> omega) | exact iff_of_true (by decide) (by simp <;> omega)
      · simp only [keyD]
        cases s <;> cases t <;> first | exact iff_of_false (by decide) (by simp <;> omega) | exact iff_of_true (by decide) (by simp <;> omega)
    | number t n j =>
      have hb := signed_bound hB he
      refine ⟨_, rfl, ?_, ?_⟩
      · simp only [keyD]
        cases s <;> simp <;> omega
      · simp only [keyD]
        cases s <;> simp <;> omega
  | number s m i =>
    cases e with
    | nan => cases h2
    | infinity t =>
      have hb := signed_bound hB hd
      refine ⟨_, rfl, ?_, ?_⟩
      · simp only [keyD]
        cases t <;> simp <;> omega
      · simp only [keyD]
        cases t <;> simp <;> omega
    | number t n j =>
      obtain ⟨a1, a2, _⟩ := hd
      obtain ⟨b1, b2, _⟩ := he
      have e1 : (i + 1074).toNat = (i - min i j).toNat + (min i j + 1074).toNat := by omega
      have e2 : (j + 1074).toNat = (j - min i j).toNat + (min i j + 1074).toNat := by omega
      have hpow : (0 : Int) < 2 ^ (min i j + 1074).toNat := by
        have e : ((2 ^ (min i j + 1074).toNat : Nat) : Int) = 2 ^ (min i j + 1074).toNat := by rw [Int.natCast_pow]; rfl
        rw [← e]; exact Int.ofNat_lt.mpr (Nat.pow_pos (by decide))
      refine ⟨_, rfl, ?_, ?_⟩
      · rw [compare_lt]
        simp only [keyD]
        rw [e1, e2, signed_up, signed_up]
        exact (Int.mul_lt_mul_right hpow).symm
      · rw [compare_gt]
        simp only [keyD]
        rw [e1, e2, signed_up, signed_up]
        exact (Int.mul_lt_mul_right hpow).symm
theorem nanF_read (x : Nat) : nanF x = isNanD (double.read x) := by
  obtain ⟨B, hB⟩ := big
  show (((double.read x).order (double.read x)) != some Ordering.eq) = _
  cases hd : double.read x with
  | nan s t => rfl
  | infinity s => cases s <;> rfl
  | number s m i =>
    obtain ⟨o, h1, h2, h3⟩ := order_key hB (d := .number s m i) (e := .number s m i) (by rw [← hd]; exact read_ok x) (by rw [← hd]; exact read_ok x) rfl rfl
    rw [h1]
    cases o with
    | eq => rfl
    | lt => exact absurd (h2.1 rfl) (Int.lt_irrefl _)
    | gt => exact absurd (h3.1 rfl) (Int.lt_irrefl _)
def keyN (B x : Nat) : Int := keyD B (double.read x)
theorem ord_key {B : Nat} (hB : Big B) {x y : Nat} (hx : nanF x = false) (hy : nanF y = false) : (ordF x y = some .lt ↔ keyN B x < keyN B y) ∧ (ordF x y = some .gt ↔ keyN B y < keyN B x) := by
  rw [nanF_read] at hx hy
  obtain ⟨o, h1, h2, h3⟩ := order_key hB (read_ok x) (read_ok y) hx hy
  have h0 : ordF x y = some o := h1
  rw [h0]
  exact ⟨by simp only [Option.some.injEq]; exact h2, by simp only [Option.some.injEq]; exact h3⟩

/- An order. -/
structure IsOrder {α : Type} (c : α → α → Int) : Prop where
  self : ∀ a, c a a = 0
  turn : ∀ a b, c b a = -(c a b)
  low : ∀ a b, -1 ≤ c a b ∧ c a b ≤ 1
  chain : ∀ a b d, c a b ≤ 0 → c b d ≤ 0 → c a d ≤ 0 ∧ (c a d = 0 → c a b = 0 ∧ c b d = 0)
theorem order_of_key {α : Type} (c : α → α → Int) (f : α → Int × Int) (h : ∀ a b, c a b = if (f a).1 < (f b).1 ∨ (f a).1 = (f b).1 ∧ (f a).2 < (f b).2 then -1 else if (f b).1 < (f a).1 ∨ (f b).1 = (f a).1 ∧ (f b).2 < (f a).2 then 1 else 0) : IsOrder c := by
  refine ⟨fun a => ?_, fun a b => ?_, fun a b => ?_, fun a b d => ?_⟩
  · rw [h, if_neg (by omega), if_neg (by omega)]
  · rw [h, h]
    generalize (f a).1 = x, (f a).2 = y, (f b).1 = u, (f b).2 = v
    repeat' split
    all_goals omega
  · rw [h]
    repeat' split
    all_goals omega
  · rw [h, h, h]
    generalize (f a).1 = x, (f a).2 = y, (f b).1 = u, (f b).2 = v, (f d).1 = p, (f d).2 = q
    intro h1 h2
    refine ⟨?_, fun h3 => ?_⟩
    · revert h1 h2
      repeat' split
      all_goals omega
    · revert h1 h2 h3
      repeat' split
      all_goals omega
theorem cmpF_order : IsOrder cmpF := by
  obtain ⟨B, hB⟩ := big
  refine order_of_key cmpF (fun x => if nanF x = true then (0, 0) else (1, keyN B x)) fun a b => ?_
  unfold cmpF
  cases ha : nanF a <;> cases hb : nanF b
  · obtain ⟨h1, h2⟩ := ord_key hB ha hb
    simp only [h1, h2]
    simp
  · simp
  · simp
  · simp

theorem less_irrefl : ∀ x : List UInt8, Op.bytesLess x x = false
  | [] => rfl
  | a :: x => by simp [Op.bytesLess, less_irrefl x]
theorem less_trans : ∀ {x y z : List UInt8}, Op.bytesLess x y = true → Op.bytesLess y z = true → Op.bytesLess x z = true
  | _, [], _, h, _ => by simp [Op.bytesLess] at h
  | _, _ :: _, [], _, h => by simp [Op.bytesLess] at h
  | [], _ :: _, _ :: _, _, _ => by simp [Op.bytesLess]
  | a :: x, b :: y, c :: z, h1, h2 => by
    simp only [Op.bytesLess, Bool.or_eq_true, decide_eq_true_eq, Bool.and_eq_true, beq_iff_eq] at *
    rcases h1 with h1 | ⟨rfl, h1⟩ <;> rcases h2 with h2 | ⟨rfl, h2⟩
    · exact .inl (UInt8.lt_trans h1 h2)
    · exact .inl h1
    · exact .inl h2
    · exact .inr ⟨rfl, less_trans h1 h2⟩
theorem less_total : ∀ {x y : List UInt8}, Op.bytesLess x y = false → x = y ∨ Op.bytesLess y x = true
  | [], [], _ => .inl rfl
  | _ :: _, [], _ => .inr (by simp [Op.bytesLess])
  | [], _ :: _, h => by simp [Op.bytesLess] at h
  | a :: x, b :: y, h => by
    simp only [Op.bytesLess, Bool.or_eq_false_iff, decide_eq_false_iff_not, Bool.and_eq_false_iff, beq_eq_false_iff_ne] at h
    by_cases e : a = b
    · subst e
      have h2 := h.2.resolve_left (by simp)
      rcases less_total h2 with e | e
      · exact .inl (by rw [e])
      · exact .inr (by simp [Op.bytesLess, e])
    · have : b < a := by
        rcases UInt8.lt_or_lt_of_ne (Ne.symm e) with q | q
        · exact q
        · exact absurd q h.1
      exact .inr (by simp [Op.bytesLess, this])
theorem less_asymm {x y : List UInt8} (h : Op.bytesLess x y = true) : Op.bytesLess y x = false := by
  cases h2 : Op.bytesLess y x with
  | false => rfl
  | true => have := less_trans h h2; rw [less_irrefl] at this; cases this
theorem cmpS_neg {a b : ByteArray} : cmpS a b = -1 ↔ Op.bytesLess a.toList b.toList = true := by
  unfold cmpS; split
  · simp_all
  · split <;> simp_all
theorem cmpS_zero {a b : ByteArray} : cmpS a b = 0 ↔ a.toList = b.toList := by
  unfold cmpS; split
  · rename_i h
    refine ⟨fun x => by omega, fun x => ?_⟩
    rw [x, less_irrefl] at h; cases h
  · split <;> simp_all
theorem cmpS_vals (a b : ByteArray) : cmpS a b = -1 ∨ cmpS a b = 0 ∨ cmpS a b = 1 := by
  unfold cmpS; repeat' split
  all_goals simp
theorem cmpS_order : IsOrder cmpS := by
  have hturn : ∀ a b, cmpS b a = -(cmpS a b) := fun a b => by
    rcases cmpS_vals a b with h | h | h
    · have h1 := cmpS_neg.1 h
      have h2 := less_asymm h1
      have h3 : ¬ b.toList = a.toList := fun e => by rw [e, less_irrefl] at h1; cases h1
      rw [h]; unfold cmpS; rw [if_neg (by rw [h2]; simp), if_neg h3]; rfl
    · have := cmpS_zero.1 h
      rw [h, cmpS_zero.2 this.symm]; rfl
    · have h1 : ¬ Op.bytesLess a.toList b.toList = true := fun e => by have := cmpS_neg.2 e; omega
      have h2 : ¬ a.toList = b.toList := fun e => by have := cmpS_zero.2 e; omega
      have h3 := (less_total (by simpa using h1)).resolve_left h2
      rw [h, cmpS_neg.2 h3]
  refine ⟨fun a => cmpS_zero.2 rfl, hturn, fun a b => by rcases cmpS_vals a b with h | h | h <;> omega, fun a b d h1 h2 => ?_⟩
  rcases cmpS_vals a b with e1 | e1 | e1
  · have l1 := cmpS_neg.1 e1
    rcases cmpS_vals b d with e2 | e2 | e2
    · have := cmpS_neg.2 (less_trans l1 (cmpS_neg.1 e2)); omega
    · have q := cmpS_zero.1 e2
      rw [q] at l1
      have := cmpS_neg.2 l1; omega
    · omega
  · have q := cmpS_zero.1 e1
    have e : cmpS a d = cmpS b d := by unfold cmpS; rw [q]
    rw [e]; omega
  · omega
theorem order_map {α β : Type} {c : β → β → Int} (h : IsOrder c) (f : α → β) : IsOrder fun a b => c (f a) (f b) :=
  ⟨fun _ => h.self _, fun _ _ => h.turn _ _, fun _ _ => h.low _ _, fun _ _ _ => h.chain _ _ _⟩
end Go.Proofs.YtfifgmhlcikjeaaGreatDoor.Cel
