/-
  The evaluator on regions that draw their order: what the walk of the lexical order says.
-/
import Derived.Test.YtmoglfooadcemaaEvZ
namespace Go.Ev
open Go.RowKit

variable {P : Program} {T : TE} [TOk P T] {N0 : Nat → Prop} {W0 W : World} {vs : VS} {μ : Mu}
variable {op : OpE} {qt : QtE} {fx : FX} {call : CallE} {ops : List Oper} {rs : RS} {all : List VS}

def LexAt (op : OpE) (qt : QtE) (call : CallE) (ops : List Oper) (rs : RS) (all : List VS) (i : Nat) (o : Oper) (t : List Value) (v : Value) : Prop :=
  ∀ p q, prOf rs i p q → ∀ s, all[p]? = some s →
    (vwanted ops t o = true ∧ ((∃ s', all[q]? = some s' ∧ eval1 op call s t o = some (v, s')) ∨ (q = p ∧ qval qt call s t o = some v))) ∨
    (vwanted ops t o = false ∧ v = undef ∧ all[q]? = some s)
def LexE (fx : FX) (rs : RS) (all : List VS) (fd : Pend) (i : Nat) (o : Oper) (t : List Value) (r v : Value) (t1 : List Value) : Prop :=
  (∀ p q, prOf rs i p q → ∀ s, all[p]? = some s → ∃ s', all[q]? = some s' ∧ r = rowV s.next fd.2.2 ∧ fx.apc s.bump (vev (vput t (some fd.1) r)) o fd.2.2 fd.2.1 = some (v, s')) ∧ t1 = vput (vput t (some fd.1) r) o.dst v
def Step (op : OpE) (qt : QtE) (fx : FX) (call : CallE) (ops : List Oper) (rs : RS) (all : List VS) (val : Nat → Value) (tt : Nat → List Value) (fd : Pend) (j : Nat) (o : Oper) : Prop :=
  (isFst rs.flt j = true ∧ o.guard = none ∧ fx.flt o = some (fd.2.1, fd.2.2) ∧ o.dst = some fd.1 ∧ trLoop (trOf rs j) = true ∧ tt (j + 1) = tt j) ∨
  (isFst rs.flt j = false ∧ isSnd rs.flt j = true ∧ o.guard = none ∧ ∃ f, rs.flt = some (f, j) ∧ f < j ∧ LexE fx rs all fd j o (tt j) (val f) (val j) (tt (j + 1))) ∨
  (isFst rs.flt j = false ∧ isSnd rs.flt j = false ∧ LexAt op qt call ops rs all j o (tt j) (val j) ∧ tt (j + 1) = vput (tt j) o.dst (val j))
theorem Step.congr {val val' : Nat → Value} {tt tt' : Nat → List Value} {fd : Pend} {j : Nat} {o : Oper} (h : Step op qt fx call ops rs all val tt fd j o) (h1 : val' j = val j) (h2 : tt' j = tt j) (h3 : tt' (j + 1) = tt (j + 1)) (h4 : ∀ f, rs.flt = some (f, j) → val' f = val f) :
    Step op qt fx call ops rs all val' tt' fd j o := by
  rcases h with ⟨a, b, c, d, e, f⟩ | ⟨a, b, c, f, d, e, g⟩ | ⟨a, b, c, d⟩
  · exact .inl ⟨a, b, c, d, e, by rw [h3, f, h2]⟩
  · exact .inr (.inl ⟨a, b, c, f, d, e, by rw [h2, h3, h1, h4 f d]; exact g⟩)
  · exact .inr (.inr ⟨a, b, by rw [h1, h2]; exact c, by rw [h3, d, h2, h1]⟩)
theorem isFst_eq {x : Option (Nat × Nat)} {i : Nat} (h : isFst x i = true) : ∃ b, x = some (i, b) := by
  unfold isFst at h
  split at h
  · rename_i a b; exact ⟨b, by rw [Nat.eq_of_beq_eq_true h]⟩
  · cases h
theorem isSnd_eq {x : Option (Nat × Nat)} {i : Nat} (h : isSnd x i = true) : ∃ a, x = some (a, i) ∧ a < i := by
  unfold isSnd at h
  split at h
  · rename_i a b
    simp only [Bool.and_eq_true, Nat.beq_eq, Nat.blt_eq] at h
    exact ⟨a, by rw [h.1], by omega⟩
  · cases h

structure FxOk (op : OpE) (fx : FX) : Prop where
  cm : ∀ vs ρ1 o1 ρ2 o2 v1 v12 v2, fx.cm vs ρ1 o1 ρ2 o2 = true → op vs ρ1 o1 = some (.skip, v1) → op v1 ρ2 o2 = some (.skip, v12) → op vs ρ2 o2 = some (.skip, v2) → op v2 ρ1 o1 = some (.skip, v12)
  keep : ∀ vs ρ o k cs v vs1, fx.apc vs ρ o k cs = some (v, vs1) → Keeps vs vs1

theorem vhead_keeps (hng : ∀ vs ρ o n vs1, op vs ρ o = some (n, vs1) → Keeps vs vs1) (hF : FxOk op fx) (hngc : ∀ f args vs v vs1, call f args vs = some (v, vs1) → Keeps vs vs1) :
    ∀ (l : List Oper) (i : Nat) (t : List Value) (hist : List VS) (cur : VS) (pend : Option Pend) (mk : Option (Oper × List Value)) (t1 : List Value) (fs ex : List VS), vhead op qt fx call ops rs i l t hist cur pend mk = some (t1, fs, ex) →
      (∃ r, fs = cur :: r) ∧ (∀ s ∈ fs, Keeps cur s) ∧ ((∀ h ∈ hist, Keeps h cur) → ∀ s ∈ ex, Keeps cur s)
  | [], i, t, hist, cur, pend, mk, t1, fs, ex, h => by
    cases pend <;> cases mk <;> simp only [vhead] at h
    · cases h
      exact ⟨⟨[], rfl⟩, fun s hs => by simp at hs; rw [hs]; exact ⟨rfl, rfl⟩, fun _ s hs => by simp at hs⟩
    all_goals cases h
  | o :: l, i, t, hist, cur, pend, mk, t1, fs, ex, h => by
    have adv : ∀ {v1 : VS} {fs2 ex2 : List VS}, Keeps cur v1 → ((∃ r, fs2 = v1 :: r) ∧ (∀ s ∈ fs2, Keeps v1 s) ∧ ((∀ h ∈ cur :: hist, Keeps h v1) → ∀ s ∈ ex2, Keeps v1 s)) →
        (∃ r, cur :: fs2 = cur :: r) ∧ (∀ s ∈ cur :: fs2, Keeps cur s) ∧ ((∀ h ∈ hist, Keeps h cur) → ∀ s ∈ ex2, Keeps cur s) := by
      intro v1 fs2 ex2 hk ⟨_, h2, h3⟩
      refine ⟨⟨fs2, rfl⟩, fun s hs => ?_, fun hh s hs => ?_⟩
      · rcases List.mem_cons.1 hs with e | hs
        · rw [e]; exact ⟨rfl, rfl⟩
        · have := h2 s hs; exact ⟨this.1.trans hk.1, this.2.trans hk.2⟩
      · have := h3 (fun x hx => by
          rcases List.mem_cons.1 hx with e | hx
          · rw [e]; exact hk
          · have := hh x hx; exact ⟨hk.1.trans this.1, hk.2.trans this.2⟩) s hs
        exact ⟨this.1.trans hk.1, this.2.trans hk.2⟩
    simp only [vhead, Bool.cond_eq_ite] at h
    split at h
    · split at h
      · split at h
        · exact vhead_keeps hng hF hngc l _ _ _ _ _ _ _ _ _ h
        · cases h
      · cases h
    split at h
    · split at h
      · split at h
        · split at h
          · rename_i v s1 ha
            split at h
            · rename_i hr
              cases h
              have hk := hF.keep _ _ _ _ _ _ _ ha
              exact adv ⟨hk.1, hk.2⟩ (vhead_keeps hng hF hngc l _ _ _ _ _ _ _ _ _ hr)
            · cases h
          · cases h
        · cases h
      · cases h
    split at h
    · split at h
      · rename_i s1 _ ho
        split at h
        · split at h
          · rename_i hr
            cases h
            exact adv (hng _ _ _ _ _ ho) (vhead_keeps hng hF hngc l _ _ _ _ _ _ _ _ _ hr)
          · cases h
        · cases h
      · cases h
    split at h
    · split at h
      · rename_i oi ti h0 hs0 _
        split at h
        · rename_i s1 sx ho hx
          split at h
          · cases h
            have hk := hng _ _ _ _ _ ho
            refine ⟨⟨_, rfl⟩, fun s hs => ?_, fun hh s hs => ?_⟩
            · simp at hs
              rcases hs with rfl | rfl
              · exact ⟨rfl, rfl⟩
              · exact hk
            · simp at hs
              rw [hs]
              have h1 := hng _ _ _ _ _ hx
              have h2 := hh h0 (by simp)
              exact ⟨h1.1.trans h2.1.symm, h1.2.trans h2.2.symm⟩
          · cases h
        · cases h
      · cases h
    split at h
    · split at h
      · split at h
        · split at h
          · split at h
            · rename_i v vs1 he
              split at h
              · rename_i hr
                cases h
                exact adv (eval1_keeps hng hngc he) (vhead_keeps hng hF hngc l _ _ _ _ _ _ _ _ _ hr)
              · cases h
            · cases h
          · split at h
            · rename_i hr
              cases h
              exact adv ⟨rfl, rfl⟩ (vhead_keeps hng hF hngc l _ _ _ _ _ _ _ _ _ hr)
            · cases h
        · cases h
      · cases h
    split at h
    · split at h
      · split at h
        · split at h
          · rename_i hr
            split at h
            · cases h; exact vhead_keeps hng hF hngc l _ _ _ _ _ _ _ _ _ hr
            · cases h
          · cases h
        · cases h
      · exact vhead_keeps hng hF hngc l _ _ _ _ _ _ _ _ _ h
    · cases h

theorem all_at {hist fs ex : List VS} {j : Nat} {s : VS} (h : fs[j]? = some s) : (revApp hist fs ++ ex)[hist.length + j]? = some s := by
  have h1 := revApp_get hist fs j s h
  rw [List.getElem?_append_left (List.getElem?_eq_some_iff.1 h1).1]
  exact h1
theorem revApp_len : ∀ (h l : List VS), (revApp h l).length = h.length + l.length
  | [], l => by simp [revApp]
  | x :: h, l => by simp [revApp, revApp_len h]; omega

theorem vhead_lex (hng : ∀ vs ρ o n vs1, op vs ρ o = some (n, vs1) → Keeps vs vs1) (hF : FxOk op fx) (hngc : ∀ f args vs v vs1, call f args vs = some (v, vs1) → Keeps vs vs1) :
    ∀ (l : List Oper) (i : Nat) (t : List Value) (hist : List VS) (cur : VS) (pend : Option Pend) (mk : Option (Oper × List Value)) (t1 : List Value) (fs ex : List VS), vhead op qt fx call ops rs i l t hist cur pend mk = some (t1, fs, ex) → revApp hist fs ++ ex = all →
      ∃ (val : Nat → Value) (tt : Nat → List Value) (fd : Pend), (∀ x, pend = some x → fd = x) ∧ tt i = t ∧ tt (i + l.length) = t1 ∧ (∀ k o, l[k]? = some o → Step op qt fx call ops rs all val tt fd (i + k) o) ∧
        ∀ oi ti h hist', mk = some (oi, ti) → hist = h :: hist' → op h (vev ti) oi = some (.skip, cur) → ∃ sx s12, all[hist.length + 2]? = some sx ∧ all[hist.length + 1]? = some s12 ∧ op sx (vev ti) oi = some (.skip, s12)
  | [], i, t, hist, cur, pend, mk, t1, fs, ex, h, _ => by
    cases pend <;> cases mk <;> simp only [vhead] at h
    · cases h
      exact ⟨fun _ => undef, fun _ => t, (0, [], 0), (fun x hx => by cases hx), rfl, rfl, (fun k o hk => by simp at hk), (fun _ _ _ _ hm => by cases hm)⟩
    all_goals cases h
  | o :: l, i, t, hist, cur, pend, mk, t1, fs, ex, h, hall => by
    have len : i + (o :: l).length = i + 1 + l.length := by simp; omega
    have glue : ∀ {val val' : Nat → Value} {tt : Nat → List Value} {fd : Pend}, (∀ k o', l[k]? = some o' → Step op qt fx call ops rs all val tt fd (i + 1 + k) o') → tt (i + 1 + l.length) = t1 →
        (∀ j, i < j → val' j = val j) → (∀ f j, rs.flt = some (f, j) → i < j → val' f = val f) → Step op qt fx call ops rs all val' (fun j => if j = i then t else tt j) fd i o →
        (fun j => if j = i then t else tt j) i = t ∧ (fun j => if j = i then t else tt j) (i + (o :: l).length) = t1 ∧ ∀ k o', (o :: l)[k]? = some o' → Step op qt fx call ops rs all val' (fun j => if j = i then t else tt j) fd (i + k) o' := by
      intro val val' tt fd h1 h2 h3 h4 h5
      refine ⟨by simp, ?_, ?_⟩
      · have : ¬ i + (o :: l).length = i := by simp
        simp only [if_neg this]
        rw [len]; exact h2
      · intro k o' hk
        cases k with
        | zero =>
          simp only [List.getElem?_cons_zero, Option.some.injEq] at hk
          subst hk
          exact h5
        | succ k =>
          have := h1 k o' (by simpa using hk)
          rw [show i + (k + 1) = i + 1 + k by omega]
          have e1 : ¬ i + 1 + k = i := by omega
          have e2 : ¬ i + 1 + k + 1 = i := by omega
          exact this.congr (h3 _ (by omega)) (by simp only [if_neg e1]) (by simp only [if_neg e2]) (fun f hf => h4 f _ hf (by omega))
    have e1 : ¬ i + 1 = i := by omega
    have hcur : ∀ {r : List VS}, fs = cur :: r → all[hist.length]? = some cur := fun {r} hr => by rw [← hall]; exact all_at (j := 0) (by rw [hr]; rfl)
    simp only [vhead, Bool.cond_eq_ite] at h
    split at h
    · rename_i hf
      split at h
      case h_2 => cases h
      rename_i cs k d hg hfl hdst
      split at h
      case isFalse => cases h
      rename_i htr
      obtain ⟨val, tt, fd, a0, a1, a2, a3, a4⟩ := vhead_lex hng hF hngc l _ _ _ _ _ _ _ _ _ h hall
      have hfd := a0 _ rfl
      subst hfd
      obtain ⟨b1, b2, b3⟩ := glue (val' := val) a3 a2 (fun _ _ => rfl) (fun _ _ _ _ => rfl) (.inl ⟨hf, hg, hfl, hdst, htr, by simp only [if_neg e1, if_true]; exact a1⟩)
      exact ⟨val, _, _, (fun x hx => by cases hx), b1, b2, b3, a4⟩
    rename_i hf
    simp only [Bool.not_eq_true] at hf
    split at h
    · rename_i hs
      split at h
      case h_2 => cases h
      rename_i d cs k hg
      split at h
      case isFalse => cases h
      rename_i htr
      split at h
      case h_2 => cases h
      rename_i v s1 ha
      split at h
      case h_2 => cases h
      rename_i t2 fs2 ex2 hr
      cases h
      obtain ⟨val, tt, fd, a0, a1, a2, a3, a4⟩ := vhead_lex hng hF hngc l _ _ _ _ _ _ _ _ _ hr hall
      obtain ⟨⟨r, hr1⟩, _⟩ := vhead_keeps hng hF hngc l _ _ _ _ _ _ _ _ _ hr
      obtain ⟨f, hf1, hf2⟩ := isSnd_eq hs
      have hc := hcur rfl
      have hn : all[hist.length + 1]? = some s1 := by rw [← hall]; exact all_at (j := 1) (by rw [hr1]; rfl)
      have a3' : ∀ k' o', l[k']? = some o' → Step op qt fx call ops rs all val tt (d, cs, k) (i + 1 + k') o' := fun k' o' hk => by
        rcases a3 k' o' hk with ⟨q1, _⟩ | ⟨_, q2, _⟩ | q
        · obtain ⟨b, hb⟩ := isFst_eq q1
          rw [hf1] at hb
          simp only [Option.some.injEq, Prod.mk.injEq] at hb
          omega
        · obtain ⟨a, ha', _⟩ := isSnd_eq q2
          rw [hf1] at ha'
          simp only [Option.some.injEq, Prod.mk.injEq] at ha'
          omega
        · exact .inr (.inr q)
      obtain ⟨b1, b2, b3⟩ := glue (val := val) (val' := fun j => if j = i then v else if j = f then rowV cur.next k else val j) a3' a2
        (fun j hj => by
          have e2 : ¬ j = i := by omega
          have e3 : ¬ j = f := by omega
          simp only [if_neg e2, if_neg e3])
        (fun f' j hfj hj => by rw [hf1] at hfj; simp only [Option.some.injEq, Prod.mk.injEq] at hfj; omega)
        (.inr (.inl ⟨hf, hs, hg, f, hf1, hf2, by
          have e4 : ¬ f = i := by omega
          simp only [if_true, if_neg e1, if_neg e4]
          refine ⟨fun p q hpq s hs' => ?_, a1⟩
          obtain ⟨rfl, rfl⟩ := trIs_mem htr hpq
          rw [hc] at hs'; cases hs'
          exact ⟨s1, hn, rfl, ha⟩⟩))
      exact ⟨_, _, (d, cs, k), (fun x hx => by cases hx; rfl), b1, b2, b3, fun _ _ _ _ hm => by cases hm⟩
    rename_i hs
    simp only [Bool.not_eq_true] at hs
    have norm : ∀ {val : Nat → Value} {tt : Nat → List Value} {fd : Pend} {v : Value}, (∀ k o', l[k]? = some o' → Step op qt fx call ops rs all val tt fd (i + 1 + k) o') → tt (i + 1 + l.length) = t1 → tt (i + 1) = vput t o.dst v → LexAt op qt call ops rs all i o t v →
        ∃ (val' : Nat → Value) (tt' : Nat → List Value), tt' i = t ∧ tt' (i + (o :: l).length) = t1 ∧ ∀ k o', (o :: l)[k]? = some o' → Step op qt fx call ops rs all val' tt' fd (i + k) o' := by
      intro val tt fd v h1 h2 h3 h4
      have hfi : ∀ f j, rs.flt = some (f, j) → f ≠ i := fun f j hfj e => by
        have : isFst rs.flt i = true := by rw [hfj, e]; simp [isFst]
        rw [hf] at this; cases this
      refine ⟨fun j => if j = i then v else val j, fun j => if j = i then t else tt j, ?_⟩
      exact glue h1 h2 (fun j hj => by
        have e2 : ¬ j = i := by omega
        simp only [if_neg e2]) (fun f j hfj _ => by simp only [if_neg (hfi f j hfj)]) (.inr (.inr ⟨hf, hs, by simp only [if_true]; exact h4, by simp only [if_true, if_neg e1]; exact h3⟩))
    split at h
    · rename_i hcm
      split at h
      case h_2 => cases h
      rename_i s1 hg ho
      split at h
      case isFalse => cases h
      rename_i htr
      split at h
      case h_2 => cases h
      rename_i t2 fs2 ex2 hr
      cases h
      obtain ⟨val, tt, fd, a0, a1, a2, a3, a4⟩ := vhead_lex hng hF hngc l _ _ _ _ _ _ _ _ _ hr hall
      obtain ⟨⟨r, hr1⟩, _⟩ := vhead_keeps hng hF hngc l _ _ _ _ _ _ _ _ _ hr
      have hc := hcur rfl
      have hn : all[hist.length + 1]? = some s1 := by rw [← hall]; exact all_at (j := 1) (by rw [hr1]; rfl)
      obtain ⟨sx, s12, m1, m2, m3⟩ := a4 o t cur hist rfl rfl ho
      have hw : vwanted ops t o = true := by unfold vwanted; rw [hg]
      obtain ⟨val', tt', b1, b2, b3⟩ := norm a3 a2 a1 (fun p q hpq s hs' => by
        refine .inl ⟨hw, .inl ?_⟩
        rcases trIs2_mem htr hpq with ⟨rfl, rfl⟩ | ⟨rfl, rfl⟩
        · rw [hc] at hs'; cases hs'
          exact ⟨s1, hn, by simp only [eval1, ho]⟩
        · have m1' : all[hist.length + 3]? = some sx := m1
          rw [m1'] at hs'; cases hs'
          exact ⟨s12, m2, by simp only [eval1, m3]⟩)
      exact ⟨val', tt', fd, a0, b1, b2, b3, fun _ _ _ _ hm => by cases hm⟩
    split at h
    · rename_i hcm
      split at h
      case h_2 => cases h
      rename_i oi ti h0 hist0 hg
      split at h
      case h_2 => cases h
      rename_i s1 sx ho hx
      split at h
      case isFalse => cases h
      rename_i hb
      simp only [Bool.and_eq_true] at hb
      obtain ⟨hcmt, htr⟩ := hb
      cases h
      have hc : all[(h0 :: hist0).length]? = some cur := by rw [← hall]; exact all_at (j := 0) rfl
      have hn : all[(h0 :: hist0).length + 1]? = some s1 := by rw [← hall]; exact all_at (j := 1) rfl
      have hh : all[(h0 :: hist0).length - 1]? = some h0 := by
        rw [← hall]
        exact all_at (hist := hist0) (j := 0) (fs := [h0, cur, s1]) rfl
      have hxx : all[(h0 :: hist0).length + 2]? = some sx := by
        rw [← hall]
        have hl : (revApp (h0 :: hist0) [cur, s1]).length = (h0 :: hist0).length + 2 := by rw [revApp_len]; rfl
        rw [List.getElem?_append_right (by rw [hl]; exact Nat.le_refl _), hl]
        simp
      have hw : vwanted ops t o = true := by unfold vwanted; rw [hg]
      have hstep : LexAt op qt call ops rs all i o t undef := fun p q hpq s hs' => by
        refine .inl ⟨hw, .inl ?_⟩
        rcases trIs2_mem htr hpq with ⟨rfl, rfl⟩ | ⟨rfl, rfl⟩
        · rw [hc] at hs'; cases hs'
          exact ⟨s1, hn, by simp only [eval1, ho]⟩
        · rw [hh] at hs'; cases hs'
          exact ⟨sx, hxx, by simp only [eval1, hx]⟩
      obtain ⟨val', tt', b1, b2, b3⟩ := norm (val := fun _ => undef) (tt := fun _ => vput t o.dst undef) (fd := (0, [], 0)) (v := undef) (fun k o' hk => by simp at hk) rfl rfl hstep
      refine ⟨val', tt', (0, [], 0), (fun x hx => by cases hx), b1, b2, b3, fun oi' ti' h' hist' hm hhist hop => ?_⟩
      cases hm
      cases hhist
      exact ⟨sx, s1, hxx, hn, hF.cm _ _ _ _ _ _ _ _ hcmt hop ho hx⟩
    split at h
    · rename_i heff
      split at h
      case h_2 => cases h
      split at h
      case isFalse => cases h
      rename_i htr
      split at h
      · rename_i hw
        split at h
        case h_2 => cases h
        rename_i v vs1 he
        split at h
        case h_2 => cases h
        rename_i t2 fs2 ex2 hr
        cases h
        obtain ⟨val, tt, fd, a0, a1, a2, a3, a4⟩ := vhead_lex hng hF hngc l _ _ _ _ _ _ _ _ _ hr hall
        obtain ⟨⟨r, hr1⟩, _⟩ := vhead_keeps hng hF hngc l _ _ _ _ _ _ _ _ _ hr
        have hc := hcur rfl
        have hn : all[hist.length + 1]? = some vs1 := by rw [← hall]; exact all_at (j := 1) (by rw [hr1]; rfl)
        obtain ⟨val', tt', b1, b2, b3⟩ := norm a3 a2 a1 (fun p q hpq s hs' => by
          obtain ⟨rfl, rfl⟩ := trIs_mem htr hpq
          rw [hc] at hs'; cases hs'
          exact .inl ⟨hw, .inl ⟨vs1, hn, he⟩⟩)
        exact ⟨val', tt', fd, a0, b1, b2, b3, fun _ _ _ _ hm => by cases hm⟩
      · rename_i hw
        simp only [Bool.not_eq_true] at hw
        split at h
        case h_2 => cases h
        rename_i t2 fs2 ex2 hr
        cases h
        obtain ⟨val, tt, fd, a0, a1, a2, a3, a4⟩ := vhead_lex hng hF hngc l _ _ _ _ _ _ _ _ _ hr hall
        obtain ⟨⟨r, hr1⟩, _⟩ := vhead_keeps hng hF hngc l _ _ _ _ _ _ _ _ _ hr
        have hc := hcur rfl
        have hn : all[hist.length + 1]? = some cur := by rw [← hall]; exact all_at (j := 1) (by rw [hr1]; rfl)
        obtain ⟨val', tt', b1, b2, b3⟩ := norm a3 a2 a1 (fun p q hpq s hs' => by
          obtain ⟨rfl, rfl⟩ := trIs_mem htr hpq
          rw [hc] at hs'; cases hs'
          exact .inr ⟨hw, rfl, hn⟩)
        exact ⟨val', tt', fd, a0, b1, b2, b3, fun _ _ _ _ hm => by cases hm⟩
    split at h
    case isFalse => cases h
    rename_i htr
    split at h
    · rename_i hw
      split at h
      case h_2 => cases h
      rename_i v he
      split at h
      case h_2 => cases h
      rename_i t2 fs2 ex2 hr
      split at h
      case isFalse => cases h
      rename_i hot
      cases h
      obtain ⟨val, tt, fd, a0, a1, a2, a3, a4⟩ := vhead_lex hng hF hngc l _ _ _ _ _ _ _ _ _ hr hall
      obtain ⟨⟨r, hr1⟩, _⟩ := vhead_keeps hng hF hngc l _ _ _ _ _ _ _ _ _ hr
      have hc := hcur hr1
      obtain ⟨val', tt', b1, b2, b3⟩ := norm a3 a2 a1 (fun p q hpq s hs' => by
        have e := trLoop_mem htr hpq
        subst e
        refine .inl ⟨hw, .inr ⟨rfl, ?_⟩⟩
        by_cases hq : p = hist.length
        · subst hq
          rw [hc] at hs'; cases hs'
          exact he
        · exact others_at _ 0 hot p s (by rw [hall]; exact hs') (by rw [Nat.zero_add]; exact hpq) (by omega))
      exact ⟨val', tt', fd, a0, b1, b2, b3, a4⟩
    · rename_i hw
      simp only [Bool.not_eq_true] at hw
      obtain ⟨val, tt, fd, a0, a1, a2, a3, a4⟩ := vhead_lex hng hF hngc l _ _ _ _ _ _ _ _ _ h hall
      obtain ⟨val', tt', b1, b2, b3⟩ := norm a3 a2 a1 (fun p q hpq s hs' => by
        have e := trLoop_mem htr hpq
        subst e
        exact .inr ⟨hw, rfl, hs'⟩)
      exact ⟨val', tt', fd, a0, b1, b2, b3, a4⟩

end Go.Ev
