/-
  The evaluator's rows of constants, appending such a row, and stores that may come in either order.
-/
import Derived.Test.YtmoglfooadcemaaEvO
import Derived.Test.YtmoglfooadcemaaEv1
namespace Go.Ev
open Go.RowKit

variable {P : Program} {T : TE} [TOk P T] {vs vs1 : VS} {ρ : Operand → Value} {o : Oper} {n : VN} {N0 : Nat → Prop} {W0 W : World} {μ : Mu}

/- The constants. -/
def constOf : List (Nat × Operand) → Option (List (Nat × Value))
  | [] => some []
  | (i, .const v) :: l => match constOf l with
    | some r => bif plainB v then some ((i, v) :: r) else none
    | none => none
  | _ => none
theorem constOf_eq (f : Operand → Value) (hf : ∀ v, f (.const v) = v) : ∀ {l : List (Nat × Operand)} {r : List (Nat × Value)}, constOf l = some r → l.map (fun p => (p.1, f p.2)) = r
  | [], r, h => by simp [constOf] at h; simp [h]
  | (i, x) :: l, r, h => by
    cases x <;> simp only [constOf] at h <;> first | cases h | skip
    rename_i v
    split at h
    · rename_i r' hr
      simp only [Bool.cond_eq_ite] at h
      split at h
      · cases h; simp [hf, constOf_eq f hf hr]
      · cases h
    · cases h

def vflt (T : TE) (o : Oper) : Option (List Value × Nat) :=
  match o.op with
  | .buildSlice t len parts => match T.und t, constOf parts.toList with
    | some (.slice elem), some ps => match T.inf elem with
      | some i => match i.zero with
        | some z => bif plainB z && Nat.ble (len * i.size) (2 ^ 24) && Nat.beq z.cells.size i.size then
            match lfill (fun k => some (k * i.size, i.size)) (rep z.cells.toList len) ps with
            | some cs => some (cs, len)
            | none => none
          else none
        | none => none
      | none => none
    | _, _ => none
  | _ => none
/- An operand that is a constant in whatever frame: what 'parts' are made of. -/
theorem vflt_run {cs : List Value} {k : Nat} (h : vflt T o = some (cs, k)) : ∃ el, ∀ (a : Act) (w : World), (execOp a.eval o).run P w = .ok (.value (rowV w.heap.size k)) (w.alloc (.cells cs.toArray el)) := by
  unfold vflt at h
  split at h
  case h_2 => cases h
  rename_i t len parts ho
  split at h
  case h_2 => cases h
  rename_i elem ps hu hps
  split at h
  case h_2 => cases h
  rename_i i hi
  split at h
  case h_2 => cases h
  rename_i z hz
  simp only [Bool.cond_eq_ite] at h
  split at h
  case isFalse => cases h
  rename_i hb
  simp only [Bool.and_eq_true, Nat.ble_eq, Nat.beq_eq] at hb
  obtain ⟨⟨hp, b1⟩, b2⟩ := hb
  split at h
  case h_2 => cases h
  rename_i cs' hf
  cases h
  refine ⟨elem, fun a w => ?_⟩
  have hconst := constOf_eq a.eval (fun _ => rfl) hps
  have e1 := fill_list _ _ _ _ hf
  have harr : (Array.range (k * i.size)).map (z.cells[· % z.cells.size]!) = (rep z.cells.toList k).toArray := by rw [← b2]; exact rep_zeros _ _
  rw [← harr, ← hconst] at e1
  have e1 : Instr.fill (fun k => some (k * i.size, i.size)) ((Array.range (k * i.size)).map (z.cells[· % z.cells.size]!)) (parts.map fun (i, x) => (i, a.eval x)).toList = some cs.toArray := by
    rw [← e1]; congr 1; simp
  have b1' : ¬ 2 ^ 24 < k * i.size := by omega
  by_cases h0 : k * i.size = 0
  · have hz0 : (Array.range (k * i.size)).map (z.cells[· % z.cells.size]!) = (Array.range (k * i.size)).map ((#[] : Array Value)[· % (#[] : Array Value).size]!) := by
      rw [h0]; exact Array.ext (by simp) (fun i h1 => by simp at h1)
    rw [hz0] at e1
    simp only [execOp, ho, Instr.buildSlice, Sem.run_bind, run_underlying (TOk.und (P := P) hu), Result.andThen_ok, run_sizeOf' (TOk.inf (P := P) hi), Sem.run_ite, gt_iff_lt, if_neg b1', if_pos h0, Sem.run_pure, e1, newRow, run_newObj]
    rfl
  · simp only [execOp, ho, Instr.buildSlice, Sem.run_bind, run_underlying (TOk.und (P := P) hu), Result.andThen_ok, run_sizeOf' (TOk.inf (P := P) hi), Sem.run_ite, gt_iff_lt, if_neg b1', if_neg h0, Sem.run_pure, run_zero' (TOk.inf (P := P) hi) hz, e1, newRow, run_newObj]
    rfl

def vapc (T : TE) (vs : VS) (ρ : Operand → Value) (o : Oper) (k : Nat) (cs : List Value) : Option (Value × VS) :=
  match o.op with
  | .call c => match c.callee with
    | .builtin .append => match c.args.toList, c.argTypes.toList with
      | [x, y], [t, u] => match ρ y with
        | .slice (some ⟨z, 0, none⟩) len _ => bif Nat.beq (z + 1) vs.next && Nat.beq len k then
            match vappendG T vs t u (ρ x) k (fun sz => bif Nat.beq cs.length (k * sz) && plainL cs then some cs else none) with
            | some (.value v, vs1) => some (v, vs1)
            | _ => none
          else none
        | _ => none
      | _, _ => none
    | _ => none
  | _ => none
theorem vapc_run {v : Value} {k : Nat} {cs : List Value} (h : vapc T vs ρ o k cs = some (v, vs1)) {ρ' : Operand → Value} {z : Nat} {l : Loc} {el : TypeId} {zz : Nat × Nat} (hz : z + 1 = vs.next) (hG : G N0 W0 vs W μ) (hρ : ∀ x ∈ o.op.operands, R μ (ρ x) (ρ' x))
    (hl : μ z = some l) (hoff : l.off = 0) (hcell : W.heap[l.blk]? = some (.cells cs.toArray el zz)) : ∃ μ1 W1 n', μ.le μ1 ∧ G N0 W0 vs1 W1 μ1 ∧ (execOp ρ' o).run P W = .ok n' W1 ∧ RN μ1 (.value v) n' := by
  unfold vapc at h
  split at h
  case h_2 => cases h
  rename_i c ho
  split at h
  case h_2 => cases h
  rename_i hc
  split at h
  case h_2 => cases h
  rename_i x y t u ha ht
  have ha := Array.ext' (ys := #[x, y]) ha
  have ht := Array.ext' (ys := #[t, u]) ht
  split at h
  case h_2 => cases h
  rename_i z' len cp hy
  simp only [Bool.cond_eq_ite] at h
  split at h
  case isFalse => cases h
  rename_i hb
  simp only [Bool.and_eq_true, Nat.beq_eq] at hb
  obtain ⟨hz', rfl⟩ := hb
  have : z' = z := by omega
  subst this
  split at h
  case h_2 => cases h
  rename_i v' vs' happ
  cases h
  have h1 := hρ x (by simp [ho, Op.operands, Call.operands, hc, ha])
  have h2 := hρ y (by simp [ho, Op.operands, Call.operands, hc, ha])
  rw [hy] at h2
  obtain ⟨l', hl', _, ey⟩ := h2.inv_slice
  rw [hl] at hl'
  cases hl'
  have haddr : amap l ⟨z', 0, none⟩ = ⟨l.blk, 0, none⟩ := by simp [amap, hoff]
  rw [haddr] at ey
  refine append_core (P := P) (ty := o.type) hG h1 happ (vy' := ρ' y) (fun w => by rw [ey]; simp [Builtin.lenOf]) (fun sz new hf => ?_) (fun v W1 hr => by simp [execOp, ho, resolve, hc, ha, ht, invoke, builtin, hr])
  split at hf
  case isFalse => cases hf
  rename_i hb
  simp only [Bool.and_eq_true, Nat.beq_eq] at hb
  cases hf
  have hcl : ∀ w : World, w.heap = W.heap → ∀ (j : Nat) v, cs[j]? = some v → w.cell? ((⟨l.blk, 0, none⟩ : Addr).add j) = some v := fun w hw j v hj => by
    have hs : ((⟨l.blk, 0, none⟩ : Addr).add j) = ⟨l.blk, j, none⟩ := by unfold Addr.add; split <;> simp_all
    rw [hs]
    simp [World.cell?, hw, hcell, hj]
  refine ⟨cs.toArray, RA_self μ (by simpa [plainA] using hb.2), ?_, ?_⟩
  · rw [ey]
    have := run_loadCells_list (P := P) W ⟨l.blk, 0, none⟩ cs (hcl W rfl)
    simp only [Builtin.firstCells]
    rw [← hb.1]; exact this
  · rw [ey]
    have := run_loadCells_list (P := P) W.drew ⟨l.blk, 0, none⟩ cs (hcl W.drew rfl)
    simp only [Builtin.firstCells]
    rw [← hb.1]; exact this

/- Two stores into blocks of different families. -/
def famsOk (i f j g : Nat) : List (Nat × VB) → Bool
  | [] => true
  | (k, b) :: l => (bif Nat.beq k i then Nat.beq b.fam f else true) && (bif Nat.beq k j then Nat.beq b.fam g else true) && famsOk i f j g l
def vcm (vs : VS) (ρ1 : Operand → Value) (o1 : Oper) (ρ2 : Operand → Value) (o2 : Oper) : Bool :=
  match o1.op, o2.op with
  | .store _ x1 _, .store _ x2 _ => match ρ1 x1, ρ2 x2 with
    | .pointer (some a), .pointer (some b) => match find vs.heap a.block, find vs.heap b.block with
      | some A, some B => !(Nat.beq a.block b.block) && !(Nat.beq A.fam B.fam) && famsOk a.block A.fam b.block B.fam vs.heap
      | _, _ => false
    | _, _ => false
  | _, _ => false

theorem famsOk_tail {i f j g k : Nat} {b : VB} {l : List (Nat × VB)} (h : famsOk i f j g ((k, b) :: l) = true) : (k = i → b.fam = f) ∧ (k = j → b.fam = g) ∧ famsOk i f j g l = true := by
  simp only [famsOk, Bool.and_eq_true, Bool.cond_eq_ite] at h
  obtain ⟨⟨h1, h2⟩, h3⟩ := h
  refine ⟨fun e => ?_, fun e => ?_, h3⟩
  · rw [if_pos (by rw [e]; exact Nat.beq_refl _)] at h1; exact Nat.eq_of_beq_eq_true h1
  · rw [if_pos (by rw [e]; exact Nat.beq_refl _)] at h2; exact Nat.eq_of_beq_eq_true h2
theorem beq_false {a b : Nat} (h : a ≠ b) : Nat.beq a b = false := by
  cases hb : Nat.beq a b with
  | false => rfl
  | true => exact absurd (Nat.eq_of_beq_eq_true hb) h
theorem find_upd {i f j g : Nat} {A' : VB} (hij : j ≠ i) (hfg : f ≠ g) : ∀ {l : List (Nat × VB)}, famsOk i f j g l = true → find (upd l i f A') j = find l j
  | [], _ => rfl
  | (k, b) :: l, h => by
    obtain ⟨h1, h2, h3⟩ := famsOk_tail h
    by_cases hki : k = i
    · subst hki
      simp only [upd, Nat.beq_refl, cond_true, find, beq_false (Ne.symm hij), cond_false]
      exact find_upd hij hfg h3
    · by_cases hf : b.fam = f
      · have hkj : k ≠ j := fun e => hfg (by rw [← hf, h2 e])
        simp only [upd, beq_false hki, cond_false, hf, Nat.beq_refl, cond_true, find, beq_false hkj]
        exact find_upd hij hfg h3
      · simp only [upd, beq_false hki, cond_false, beq_false hf, find]
        rw [find_upd hij hfg h3]
theorem upd_comm {i f j g : Nat} {A' B' : VB} (hij : i ≠ j) (hfg : f ≠ g) (hA : A'.fam = f) (hB : B'.fam = g) : ∀ {l : List (Nat × VB)}, famsOk i f j g l = true → upd (upd l i f A') j g B' = upd (upd l j g B') i f A'
  | [], _ => rfl
  | (k, b) :: l, h => by
    obtain ⟨h1, h2, h3⟩ := famsOk_tail h
    have ih := upd_comm hij hfg hA hB (l := l) h3
    by_cases hki : k = i
    · subst hki
      have hbf := h1 rfl
      have hg : b.fam ≠ g := fun e => hfg (by rw [← hbf, e])
      have hAg : A'.fam ≠ g := fun e => hfg (by rw [← hA, e])
      simp only [upd, Nat.beq_refl, cond_true, beq_false hij, cond_false, beq_false hAg, beq_false hg, ih]
    · by_cases hkj : k = j
      · subst hkj
        have hbg := h2 rfl
        have hf : b.fam ≠ f := fun e => hfg (by rw [← hbg, e])
        have hBf : B'.fam ≠ f := fun e => hfg (by rw [← hB, e])
        simp only [upd, Nat.beq_refl, cond_true, beq_false hki, cond_false, beq_false hf, beq_false hBf, ih]
      · by_cases hf : b.fam = f
        · have hg : b.fam ≠ g := fun e => hfg (by rw [← hf, e])
          simp only [upd, beq_false hki, beq_false hkj, cond_false, hf, Nat.beq_refl, cond_true, beq_false (show f ≠ g from hfg), ih]
        · by_cases hg : b.fam = g
          · have hgf : g ≠ f := Ne.symm hfg
            simp only [upd, beq_false hki, beq_false hkj, cond_false, hg, Nat.beq_refl, cond_true, beq_false hgf, ih]
          · simp only [upd, beq_false hki, beq_false hkj, cond_false, beq_false hf, beq_false hg, ih]

theorem vwrite_find {a : Addr} {xs : List Value} (h : vwrite vs a xs = some vs1) : ∃ A, find vs.heap a.block = some A ∧ (A.rw && a.spot.isNone && Nat.ble (a.off + xs.length) A.cells.length && xs.all Value.oneCell') = true ∧
    vs1 = { vs with heap := upd vs.heap a.block A.fam { A with cells := A.cells.take a.off ++ (xs ++ A.cells.drop (a.off + xs.length)) } } := by
  unfold vwrite at h
  split at h
  · rename_i A hA
    simp only [Bool.cond_eq_ite] at h
    split at h
    · rename_i hc; cases h; exact ⟨A, hA, hc, rfl⟩
    · cases h
  · cases h
theorem vwrite_comm {a b : Addr} {xs ys : List Value} {v1 v12 v2 : VS} {A B : VB} (hA : find vs.heap a.block = some A) (hB : find vs.heap b.block = some B) (hab : a.block ≠ b.block) (hfg : A.fam ≠ B.fam) (hok : famsOk a.block A.fam b.block B.fam vs.heap = true)
    (h1 : vwrite vs a xs = some v1) (h2 : vwrite v1 b ys = some v12) (h3 : vwrite vs b ys = some v2) : vwrite v2 a xs = some v12 := by
  obtain ⟨A1, q1, c1, rfl⟩ := vwrite_find h1
  rw [hA] at q1; cases q1
  obtain ⟨B1, q2, c2, rfl⟩ := vwrite_find h3
  rw [hB] at q2; cases q2
  obtain ⟨B2, q3, c3, rfl⟩ := vwrite_find h2
  rw [find_upd (Ne.symm hab) hfg hok, hB] at q3; cases q3
  have hok' : famsOk b.block B.fam a.block A.fam vs.heap = true := by
    have : ∀ l : List (Nat × VB), famsOk a.block A.fam b.block B.fam l = true → famsOk b.block B.fam a.block A.fam l = true := by
      intro l
      induction l with
      | nil => exact fun h => h
      | cons x l ih =>
        intro h
        obtain ⟨k, c⟩ := x
        simp only [famsOk, Bool.and_eq_true] at h ⊢
        exact ⟨⟨h.1.2, h.1.1⟩, ih h.2⟩
    exact this _ hok
  have hf : find (upd vs.heap b.block B.fam { B with cells := B.cells.take b.off ++ (ys ++ B.cells.drop (b.off + ys.length)) }) a.block = some A := by
    rw [find_upd hab (Ne.symm hfg) hok', hA]
  unfold vwrite
  simp only [hf, c1, cond_true]
  congr 2
  exact (upd_comm (A' := { A with cells := A.cells.take a.off ++ (xs ++ A.cells.drop (a.off + xs.length)) }) (B' := { B with cells := B.cells.take b.off ++ (ys ++ B.cells.drop (b.off + ys.length)) }) hab hfg rfl rfl hok).symm

omit [TOk P T] in
theorem vcm_ok {ρ1 ρ2 : Operand → Value} {o1 o2 : Oper} {v1 v12 v2 : VS} (hc : vcm vs ρ1 o1 ρ2 o2 = true) (h1 : vop P T vs ρ1 o1 = some (.skip, v1)) (h2 : vop P T v1 ρ2 o2 = some (.skip, v12)) (h3 : vop P T vs ρ2 o2 = some (.skip, v2)) : vop P T v2 ρ1 o1 = some (.skip, v12) := by
  unfold vcm at hc
  split at hc
  case h_2 => cases hc
  rename_i t1 x1 y1 t2 x2 y2 ho1 ho2
  split at hc
  case h_2 => cases hc
  rename_i a b ha hb
  split at hc
  case h_2 => cases hc
  rename_i A B hA hB
  simp only [Bool.and_eq_true, Bool.not_eq_true'] at hc
  obtain ⟨⟨c1, c2⟩, c3⟩ := hc
  have hab : a.block ≠ b.block := fun e => by rw [e, Nat.beq_refl] at c1; cases c1
  have hfg : A.fam ≠ B.fam := fun e => by rw [e, Nat.beq_refl] at c2; cases c2
  have store : ∀ {s s' : VS} {ρ : Operand → Value} {o : Oper} {t : TypeId} {x y : Operand} {c : Addr}, o.op = .store t x y → ρ x = .pointer (some c) → (vop P T s ρ o = some (.skip, s') ↔ ∃ i, T.inf t = some i ∧ (ρ y).cells.size = i.size ∧ vwrite s c (ρ y).cells.toList = some s') := by
    intro s s' ρ o t x y c ho hx
    unfold vop
    rw [ho]
    simp only [oStore, hx, vstore]
    cases hi : T.inf t with
    | none => simp
    | some i =>
      simp only [Bool.cond_eq_ite]
      by_cases hs : (ρ y).cells.size = i.size
      · have : Nat.beq (ρ y).cells.size i.size = true := by rw [hs]; exact Nat.beq_refl _
        rw [if_pos this]
        cases hw : vwrite s c (ρ y).cells.toList with
        | none => simp
        | some s2 => simp [hs]
      · have : ¬ Nat.beq (ρ y).cells.size i.size = true := fun e => hs (Nat.eq_of_beq_eq_true e)
        rw [if_neg this]
        simp [hs]
  obtain ⟨i1, q1, q2, w1⟩ := (store ho1 ha).1 h1
  obtain ⟨i2, q3, q4, w2⟩ := (store ho2 hb).1 h2
  obtain ⟨i3, q5, q6, w3⟩ := (store ho2 hb).1 h3
  exact (store ho1 ha).2 ⟨i1, q1, q2, vwrite_comm hA hB hab hfg c3 w1 w2 w3⟩

def vfx (T : TE) : FX := ⟨vflt T, vapc T, vcm⟩
theorem fxRun : FxRun P (vfx T) := ⟨fun _ _ _ h => vflt_run h, fun _ _ _ _ _ _ _ h _ _ _ _ _ _ _ _ _ hz hG hρ hl hoff hcell => vapc_run h hz hG hρ hl hoff hcell⟩
omit [TOk P T] in
theorem vapc_keeps {k : Nat} {cs : List Value} {v : Value} (h : vapc T vs ρ o k cs = some (v, vs1)) (hw : ∀ {vs vs1 : VS} {a : Addr} {xs : List Value}, vwrite vs a xs = some vs1 → Keeps vs vs1) : vs1.ng = vs.ng ∧ vs1.dfr = vs.dfr := by
  unfold vapc at h
  split at h
  case h_2 => cases h
  split at h
  case h_2 => cases h
  split at h
  case h_2 => cases h
  split at h
  case h_2 => cases h
  simp only [Bool.cond_eq_ite] at h
  split at h
  case isFalse => cases h
  split at h
  case h_2 => cases h
  rename_i happ
  cases h
  unfold vappendG at happ
  repeat' (first | (split at happ) | (simp only [Bool.cond_eq_ite] at happ))
  all_goals first | (cases happ; exact ⟨rfl, rfl⟩) | (cases happ; done) | skip
  all_goals (cases happ; first | exact ⟨rfl, rfl⟩ | exact hw (by assumption))
end Go.Ev
