/-
  Package match: a walker goes from a state on (walk).
-/
import Derived.Test.YtmnghdccikoaoaaMtX
import Derived.Deep.LoopGhost
import Derived.Handy
namespace Go.Proofs.Ytmnghdccikoaoaa.Mt
open Go.RowKit Go.Proofs.Ytmnghdccikoaoaa.Sh

variable {pf : FuncId} {caps : Array Value} {J : PutJ} {N : Nat → Prop} {B wb gs gn cap : Nat} {sts : List St}

/- The end of a walk. -/
def Ended (sts : List St) (p len : Int) (c0 cF : Cfg) : Prop := ∃ c1, Steps sts p len c0 c1 ∧ Round sts p len c1 cF ∧ cF.op = []

theorem round_room {p len : Int} {c c1 : Cfg} (h : Round sts p len c c1) (hl : c.seen.length = sts.length) : c1.ps.length + unseen c1.seen p ≤ c.ps.length + unseen c.seen p ∧ c1.seen.length = sts.length := by
  cases h with
  | again => exact ⟨Nat.le_refl _, hl⟩
  | put s hs hn ha =>
    have hi := (List.getElem?_eq_some_iff.mp hs).1
    have := unseen_set c.seen p c.i (by omega) hn
    refine ⟨?_, by simp [mark, hl]⟩
    simp only [mark, List.length_append, List.length_cons, List.length_nil]
    omega
  | stop s hs hn ha =>
    have hi := (List.getElem?_eq_some_iff.mp hs).1
    have := unseen_set c.seen p c.i (by omega) hn
    refine ⟨?_, by simp [mark, hl]⟩
    simp only [mark]
    omega
theorem step_room {p len : Int} {c c1 : Cfg} (h : Step sts p len c c1) (hl : c.seen.length = sts.length) : c1.ps.length + unseen c1.seen p ≤ c.ps.length + unseen c.seen p ∧ c1.seen.length = sts.length := by
  cases h with
  | pop c2 x l hr ho =>
    have h2 := round_room hr hl
    exact h2
  | fork s hs hn ha =>
    have hi := (List.getElem?_eq_some_iff.mp hs).1
    have := unseen_set c.seen p c.i (by omega) hn
    refine ⟨?_, by simp [mark, hl]⟩
    simp only [mark]
    omega
  | go s hs hn ha =>
    have hi := (List.getElem?_eq_some_iff.mp hs).1
    have := unseen_set c.seen p c.i (by omega) hn
    refine ⟨?_, by simp [mark, hl]⟩
    simp only [mark]
    omega
theorem steps_room {p len : Int} {c c1 : Cfg} (h : Steps sts p len c c1) (hl : c.seen.length = sts.length) : c1.ps.length + unseen c1.seen p ≤ c.ps.length + unseen c.seen p ∧ c1.seen.length = sts.length := by
  induction h with
  | refl => exact ⟨Nat.le_refl _, hl⟩
  | tail a b _ h2 ih =>
    have := step_room h2 ih.2
    exact ⟨by omega, this.2⟩
theorem put_room {p len : Int} {c c1 : Cfg} (h : Steps sts p len c c1) (hl : c.seen.length = sts.length) (hps : c.ps = []) : c1.ps.length ≤ sts.length := by
  have h1 := (steps_room h hl).1
  have h2 : unseen c.seen p ≤ c.seen.length := List.length_filter_le _ _
  rw [hps] at h1
  simp only [List.length_nil] at h1
  omega

theorem one_new (u : World) (n : Nat) (hn : u.heap.size = n) (cs : Array Value) (t : TypeId) : ((u.alloc (.cells cs t)).drew).heap[n]? = some (.cells cs t) := by
  subst hn
  exact heap_alloc_new u (.cells cs t)
theorem size_setCell (u : World) (a : Addr) (v : Value) : (u.setCell a v).heap.size = u.heap.size := by simp [World.setCell]
set_option maxHeartbeats 2000000 in
set_option maxRecDepth 100000 in
theorem walk (hp : PutOk pf caps sts B N J) (hcl : Closed sts) (p len : Int) (hp0 : 0 ≤ p) (hp1 : p ≤ 1000000000000) (w : World) (c0 : Cfg) (ov0 : Value) (S0 : Nat → Prop) (h0 : Mid J N B wb gs gn cap (.func (.func pf) #[] caps) sts w ov0 S0 w c0 ov0 S0) (hn : sts.length ≤ 100000) (ho : c0.op = []) (hps : c0.ps = []) :
    Calls Try.prog 55 #[.pointer (some ⟨wb, 0, none⟩), .int .i64 (c0.i : Int), .int .i64 p, .int .i64 len] w
      fun e w' => e = .returned (.tuple #[]) ∧ ∃ cF ov S, Ended sts p len c0 cF ∧ Mid J N B wb gs gn cap (.func (.func pf) #[] caps) sts w ov0 S0 w' cF ov S := by
  have HSL := Lib.hid h0.wk.sl
  have H0 := Lib.hid h0
  have HP := Lib.hid hp
  have HC := Lib.hid hcl
  clear h0 hp hcl
  go_enter Try.func55, Try.ntmps55
  go_wp2_with fail
  go_loopg [1] (measure p c0) (fun k i wr => ∃ (c : Cfg) (ov : Value) (S : Nat → Prop), measure p c = k ∧ i = .int .i64 (c.i : Int) ∧ Steps sts p len c0 c ∧ Mid J N B wb gs gn cap (.func (.func pf) #[] caps) sts w ov0 S0 wr c ov S ∧ c.op.length + unseen c.seen p ≤ sts.length)
  case atStart => exact ⟨c0, ov0, S0, rfl, rfl, .refl _, H0.out, by rw [ho, ← H0.out.wk.sl]; simp [unseen]; exact List.length_filter_le _ _⟩
  case round =>
    obtain ⟨c, ov, S, hk, rfl, hst, hm, hol⟩ := hrel
    obtain ⟨s, hs⟩ : ∃ s, sts[c.i]? = some s := ⟨_, List.getElem?_eq_getElem hm.il⟩
    obtain ⟨x, hx⟩ : ∃ x, c.seen[c.i]? = some x := ⟨_, List.getElem?_eq_getElem (by rw [hm.wk.sl]; exact hm.il)⟩
    have k0 := hm.wk.c0
    have k1 := hm.wk.c1
    have k2 := hm.wk.c2
    have k3 := hm.wk.c3
    have k4 := hm.wk.f2
    have k5 := hm.wk.seen_cell hx
    have k6 := hm.wk.seen_frozen c.i
    have hil := hm.il
    have hil' : (c.i : Int) < (sts.length : Int) := by omega
    have HM := Lib.hid hm
    have HT := Lib.hid hst
    have HX := Lib.hid hx
    have HS := Lib.hid hs
    clear hm hst hx hs
    by_cases hseen : x = p + 1
    · subst hseen
      rcases List.eq_nil_or_concat c.op with he | ⟨l, y, he⟩
      · obtain ⟨oa, oc, rfl⟩ := HM.out.form
        have hz : c.op.length = 0 := by rw [he]; rfl
        rw [hz] at k2
        go_wp2_with fail
        go_returns
        exact ⟨rfl, c, _, S, ⟨c, HT.out, .again c HX.out, he⟩, HM.out⟩
      · rw [List.concat_eq_append] at he
        obtain ⟨g, oc, rfl, hoc, hBg, k7, hy⟩ := HM.out.last he
        have HE := Lib.hid he
        have hll : l.length ≤ 100000 := by rw [he] at hol; simp at hol; omega
        have hlen : c.op.length = l.length + 1 := by rw [he]; simp
        clear he
        go_wp2_with fail
        go_region
        go_wp2_with fail
        go_roundg (measure p { c with i := y, op := l })
        case measure => simp only [measure] at hk ⊢; omega
        case rel => exact ⟨_, _, S, rfl, rfl, .tail _ _ _ HT.out (.pop c c y l (.again c HX.out) HE.out), (HM.out.popped HP.out HE.out rfl).later HP.out ((Below.refl _ _).drew), by simp only; omega⟩
    · have hum := unseen_set c.seen p c.i (by rw [HM.out.wk.sl]; exact hil) (by rw [HX.out]; simpa using hseen)
      have HQ := Lib.hid hum
      have hnx : c.seen[c.i]? ≠ some (p + 1) := by rw [HX.out]; simpa using hseen
      have HZ := Lib.hid hnx
      have e0 : wr.cell? ⟨gs, c.i * 7, none⟩ = some (.int .u8 s.act) := HM.out.wk.st c.i s HS.out 0 _ rfl
      have e5 : wr.cell? ⟨gs, c.i * 7 + 5, none⟩ = some (.int .i64 s.next) := HM.out.wk.st c.i s HS.out 5 _ rfl
      have e6 : wr.cell? ⟨gs, c.i * 7 + 6, none⟩ = some (.int .i64 s.other) := HM.out.wk.st c.i s HS.out 6 _ rfl
      have n1 := HM.out.wk.ne.1
      have n2 := HM.out.wk.ne.2.1
      have n3 := HM.out.wk.ne.2.2
      have z1 : wb < wr.heap.size := by have := HM.out.wk.lt; omega
      have z2 : gs < wr.heap.size := by have := HM.out.wk.lt; omega
      have z3 : gn < wr.heap.size := by have := HM.out.wk.lt; omega
      clear hum hnx
      by_cases h2 : s.act = 2
      · obtain ⟨i, z, hi, hz, hsz, hby, hzs⟩ := int_info
        obtain ⟨no, hno⟩ : ∃ no : Nat, s.other = no := ⟨s.other.toNat, by have := HC.out c.i s HS.out; omega⟩
        obtain ⟨nn, hnn⟩ : ∃ nn : Nat, s.next = nn := ⟨s.next.toNat, by have := HC.out c.i s HS.out; omega⟩
        have hcl := HC.out c.i s HS.out
        rw [hno, hnn] at hcl
        rw [hno] at e6
        rw [hnn] at e5
        have HM1 := Lib.hid (HM.out.marked HP.out p)
        have HI := Lib.hid (⟨hi, hz, hsz, hby, hzs⟩ : _ ∧ _ ∧ _ ∧ _ ∧ _)
        have HA := Lib.hid (⟨h2, hno, hnn⟩ : _ ∧ _ ∧ _)
        have hstep : Step sts p len c { mark c p with i := nn, op := c.op ++ [no] } := by
          have h := Step.fork (p := p) (len := len) c s HS.out HZ.out h2
          rw [hno, hnn] at h
          simpa using h
        have HSt := Lib.hid hstep
        clear hi hz hsz hby hzs hstep
        go_wp2_with fail
        go_region_law (refine step_append_lies _ rfl (.tmp 44) (.tmp 49) 117 rfl B 3 i z 1 8 Try.underlying117 HI.out.1 HI.out.2.1 HI.out.2.2.1 HI.out.2.2.2.1 HI.out.2.2.2.2 (by decide) ov c.op.length (c.op.map fun (n : Nat) => Value.int .i64 (n : Int)) (by simp [Act.eval]) ((HM1.out.wk.row.alloc _).drew) ⟨wr.heap.size, 0, none⟩ 1 1 [.int .i64 (no : Int)] (by simp [Act.eval]) rfl (World.news_of_block (one_new _ _ (size_setCell _ _ _) _ _)) (by intro u hu; simp at hu; rw [hu]; rfl) (by decide) (by unfold maxLen; omega) (by omega) (two_size HM1.out.wk.lt.2.2.2) _ rfl ?_; intro g oc w' hown hgrow hat hlt; have q1 := ((HM1.out.far (((Below.refl _ _).alloc (Nat.le_refl _) _).drew) hgrow wb 2 (.inl rfl)).1.trans HM1.out.wk.c2); have q2 := ((HM1.out.far (((Below.refl _ _).alloc (Nat.le_refl _) _).drew) hgrow wb 2 (.inl rfl)).2.1.trans HM1.out.wk.f2); have r5 : w'.cell? ⟨gs, c.i * 7 + 5, none⟩ = some (.int .i64 (nn : Int)) := ((HM1.out.far (((Below.refl _ _).alloc (Nat.le_refl _) _).drew) hgrow gs (c.i * 7 + 5) (.inr (.inl rfl))).1.trans (by rw [← HA.out.2.2]; exact HM1.out.wk.st c.i s HS.out 5 _ rfl)); have HO := Lib.hid (⟨hown, hgrow, hat, hlt⟩ : _ ∧ _ ∧ _ ∧ _); clear hown hgrow hat hlt)
        all_goals go_wp2_with fail
        all_goals go_roundg (measure p { mark c p with i := nn, op := c.op ++ [no] })
        all_goals first
          | exact ⟨_, _, S, rfl, rfl, .tail _ _ _ HT.out HSt.out, (HM1.out.pushed HP.out (((Below.refl _ _).alloc (Nat.le_refl _) _).drew) (by omega) HO.out.1 HO.out.2.1 HO.out.2.2.1).at_ nn (by omega), by have := HQ.out; simp only [mark, List.length_append, List.length_cons, List.length_nil]; omega⟩
          | (simp only [measure, mark, List.length_append, List.length_cons, List.length_nil] at hk ⊢; have := HQ.out; omega)
      · have HM1 := Lib.hid (HM.out.marked HP.out p)
        have hcl := HC.out c.i s HS.out
        obtain ⟨nn, hnn⟩ : ∃ nn : Nat, s.next = nn := ⟨s.next.toNat, by omega⟩
        rw [hnn] at hcl e5
        by_cases hgo : (s.act = 3 ∧ p = 0) ∨ (s.act = 4 ∧ p = len)
        · have hstep : Step sts p len c { mark c p with i := nn } := by
            have h := Step.go (p := p) (len := len) c s HS.out HZ.out hgo
            rw [hnn] at h
            simpa using h
          have HSt := Lib.hid hstep
          clear hstep
          rcases hgo with ⟨ha, rfl⟩ | ⟨ha, rfl⟩
          · go_wp2_with fail
            go_roundg (measure 0 { mark c 0 with i := nn })
            case measure => simp only [measure, mark] at hk ⊢; have := HQ.out; omega
            case rel => exact ⟨_, _, S, rfl, rfl, .tail _ _ _ HT.out HSt.out, HM1.out.at_ nn (by omega), by have := HQ.out; simp only [mark]; omega⟩
          · go_wp2_with fail
            go_roundg (measure p { mark c p with i := nn })
            case measure => simp only [measure, mark] at hk ⊢; have := HQ.out; omega
            case rel => exact ⟨_, _, S, rfl, rfl, .tail _ _ _ HT.out HSt.out, HM1.out.at_ nn (by omega), by have := HQ.out; simp only [mark]; omega⟩
        · have hp3 : ¬ (s.act = 3 ∧ p = 0) := fun h => hgo (.inl h)
          have hp4 : ¬ (s.act = 4 ∧ p = len) := fun h => hgo (.inr h)
          have hent := HP.out.enters
          rcases Classical.em (s.act = 1) with ha | ha1
          · skip
            rcases List.eq_nil_or_concat c.op with he | ⟨l, y, he⟩
            · obtain ⟨oa, oc, rfl⟩ := HM.out.form
              have hz : c.op.length = 0 := by rw [he]; rfl
              have HE := Lib.hid he
              clear he
              go_wp2_with (refine (HP.out.put c.ps _ S c.i s HM1.out.j HS.out (.inl ha) HM1.out.wk.lt.2.2.2 (put_room HT.out HSL.out hps)).mono ?_; rintro e w2 ⟨rfl, S2, hj2, hs2, hf2, hS2⟩; have HM2 := Lib.hid (HM1.out.putted hj2 hs2 hf2 hS2); have m2 := HM2.out.wk.c2; have m3 := HM2.out.wk.f2; rw [hz] at m2; clear hj2 hs2 hf2 hS2)
              go_returns
              exact ⟨rfl, _, _, S2, ⟨c, HT.out, .put c s HS.out HZ.out (.inl ha), HE.out⟩, HM2.out⟩
            · rw [List.concat_eq_append] at he
              obtain ⟨g, oc, rfl, hoc, hBg, k7, hy⟩ := HM.out.last he
              have HE := Lib.hid he
              have hlen : c.op.length = l.length + 1 := by rw [he]; simp
              have hll : l.length ≤ 100000 := by omega
              clear he k7
              go_wp2_with (refine (HP.out.put c.ps _ S c.i s HM1.out.j HS.out (.inl ha) HM1.out.wk.lt.2.2.2 (put_room HT.out HSL.out hps)).mono ?_; rintro e w2 ⟨rfl, S2, hj2, hs2, hf2, hS2⟩; have HM2 := Lib.hid (HM1.out.putted hj2 hs2 hf2 hS2); have m2 := HM2.out.wk.c2; have m3 := HM2.out.wk.f2; have m4 := HM2.out.last_cell HE.out; clear hj2 hs2 hf2 hS2)
              go_region
              go_wp2_with fail
              go_roundg (measure p { mark c p with ps := c.ps ++ [c.i], i := y, op := l })
              case measure => simp only [measure, mark] at hk ⊢; have := HQ.out; omega
              case rel => exact ⟨_, _, S2, rfl, rfl, .tail _ _ _ HT.out (.pop c _ y l (.put c s HS.out HZ.out (.inl ha)) HE.out), (HM2.out.popped HP.out HE.out rfl).later HP.out ((Below.refl _ _).drew), by have := HQ.out; simp only [mark]; omega⟩
          · rcases Classical.em (s.act = 0) with ha | ha0
            · skip
              rcases List.eq_nil_or_concat c.op with he | ⟨l, y, he⟩
              · obtain ⟨oa, oc, rfl⟩ := HM.out.form
                have hz : c.op.length = 0 := by rw [he]; rfl
                have HE := Lib.hid he
                clear he
                go_wp2_with (refine (HP.out.put c.ps _ S c.i s HM1.out.j HS.out (.inr ha) HM1.out.wk.lt.2.2.2 (put_room HT.out HSL.out hps)).mono ?_; rintro e w2 ⟨rfl, S2, hj2, hs2, hf2, hS2⟩; have HM2 := Lib.hid (HM1.out.putted hj2 hs2 hf2 hS2); have m2 := HM2.out.wk.c2; have m3 := HM2.out.wk.f2; rw [hz] at m2; clear hj2 hs2 hf2 hS2)
                go_returns
                exact ⟨rfl, _, _, S2, ⟨c, HT.out, .put c s HS.out HZ.out (.inr ha), HE.out⟩, HM2.out⟩
              · rw [List.concat_eq_append] at he
                obtain ⟨g, oc, rfl, hoc, hBg, k7, hy⟩ := HM.out.last he
                have HE := Lib.hid he
                have hlen : c.op.length = l.length + 1 := by rw [he]; simp
                have hll : l.length ≤ 100000 := by omega
                clear he k7
                go_wp2_with (refine (HP.out.put c.ps _ S c.i s HM1.out.j HS.out (.inr ha) HM1.out.wk.lt.2.2.2 (put_room HT.out HSL.out hps)).mono ?_; rintro e w2 ⟨rfl, S2, hj2, hs2, hf2, hS2⟩; have HM2 := Lib.hid (HM1.out.putted hj2 hs2 hf2 hS2); have m2 := HM2.out.wk.c2; have m3 := HM2.out.wk.f2; have m4 := HM2.out.last_cell HE.out; clear hj2 hs2 hf2 hS2)
                go_region
                go_wp2_with fail
                go_roundg (measure p { mark c p with ps := c.ps ++ [c.i], i := y, op := l })
                case measure => simp only [measure, mark] at hk ⊢; have := HQ.out; omega
                case rel => exact ⟨_, _, S2, rfl, rfl, .tail _ _ _ HT.out (.pop c _ y l (.put c s HS.out HZ.out (.inr ha)) HE.out), (HM2.out.popped HP.out HE.out rfl).later HP.out ((Below.refl _ _).drew), by have := HQ.out; simp only [mark]; omega⟩
            · have hstop := Round.stop (p := p) (len := len) c s HS.out HZ.out ⟨ha1, ha0, h2, hp3, hp4⟩
              have HP2 := Lib.hid hstop
              clear hstop hent
              rcases Classical.em (s.act = 3) with a3 | a3
              · have hp30 : p ≠ 0 := fun e => hp3 ⟨a3, e⟩
                clear hp3 hp4 hgo
                rcases List.eq_nil_or_concat c.op with he | ⟨l, y, he⟩
                · obtain ⟨oa, oc, rfl⟩ := HM.out.form
                  have hz : c.op.length = 0 := by rw [he]; rfl
                  rw [hz] at k2
                  have HE := Lib.hid he
                  clear he
                  go_wp2_with fail
                  go_returns
                  exact ⟨rfl, _, _, S, ⟨c, HT.out, HP2.out, HE.out⟩, HM1.out⟩
                · rw [List.concat_eq_append] at he
                  obtain ⟨g, oc, rfl, hoc, hBg, k7, hy⟩ := HM.out.last he
                  have HE := Lib.hid he
                  have hlen : c.op.length = l.length + 1 := by rw [he]; simp
                  have hll : l.length ≤ 100000 := by omega
                  have hgn : g ≠ gn := by have := HM.out.wk.lt; omega
                  clear he
                  go_wp2_with fail
                  go_region
                  go_wp2_with fail
                  go_roundg (measure p { mark c p with i := y, op := l })
                  case measure => simp only [measure, mark] at hk ⊢; have := HQ.out; omega
                  case rel => exact ⟨_, _, S, rfl, rfl, .tail _ _ _ HT.out (.pop c _ y l HP2.out HE.out), (HM1.out.popped HP.out HE.out rfl).later HP.out ((Below.refl _ _).drew), by have := HQ.out; simp only [mark]; omega⟩
              · rcases Classical.em (s.act = 4) with a4 | a4
                · have hp40 : p ≠ len := fun e => hp4 ⟨a4, e⟩
                  clear hp3 hp4 hgo
                  rcases List.eq_nil_or_concat c.op with he | ⟨l, y, he⟩
                  · obtain ⟨oa, oc, rfl⟩ := HM.out.form
                    have hz : c.op.length = 0 := by rw [he]; rfl
                    rw [hz] at k2
                    have HE := Lib.hid he
                    clear he
                    go_wp2_with fail
                    go_returns
                    exact ⟨rfl, _, _, S, ⟨c, HT.out, HP2.out, HE.out⟩, HM1.out⟩
                  · rw [List.concat_eq_append] at he
                    obtain ⟨g, oc, rfl, hoc, hBg, k7, hy⟩ := HM.out.last he
                    have HE := Lib.hid he
                    have hlen : c.op.length = l.length + 1 := by rw [he]; simp
                    have hll : l.length ≤ 100000 := by omega
                    have hgn : g ≠ gn := by have := HM.out.wk.lt; omega
                    clear he
                    go_wp2_with fail
                    go_region
                    go_wp2_with fail
                    go_roundg (measure p { mark c p with i := y, op := l })
                    case measure => simp only [measure, mark] at hk ⊢; have := HQ.out; omega
                    case rel => exact ⟨_, _, S, rfl, rfl, .tail _ _ _ HT.out (.pop c _ y l HP2.out HE.out), (HM1.out.popped HP.out HE.out rfl).later HP.out ((Below.refl _ _).drew), by have := HQ.out; simp only [mark]; omega⟩
                · clear hp3 hp4 hgo
                  rcases List.eq_nil_or_concat c.op with he | ⟨l, y, he⟩
                  · obtain ⟨oa, oc, rfl⟩ := HM.out.form
                    have hz : c.op.length = 0 := by rw [he]; rfl
                    rw [hz] at k2
                    have HE := Lib.hid he
                    clear he
                    go_wp2_with fail
                    go_returns
                    exact ⟨rfl, _, _, S, ⟨c, HT.out, HP2.out, HE.out⟩, HM1.out⟩
                  · rw [List.concat_eq_append] at he
                    obtain ⟨g, oc, rfl, hoc, hBg, k7, hy⟩ := HM.out.last he
                    have HE := Lib.hid he
                    have hlen : c.op.length = l.length + 1 := by rw [he]; simp
                    have hll : l.length ≤ 100000 := by omega
                    have hgn : g ≠ gn := by have := HM.out.wk.lt; omega
                    clear he
                    go_wp2_with fail
                    go_region
                    go_wp2_with fail
                    go_roundg (measure p { mark c p with i := y, op := l })
                    case measure => simp only [measure, mark] at hk ⊢; have := HQ.out; omega
                    case rel => exact ⟨_, _, S, rfl, rfl, .tail _ _ _ HT.out (.pop c _ y l HP2.out HE.out), (HM1.out.popped HP.out HE.out rfl).later HP.out ((Below.refl _ _).drew), by have := HQ.out; simp only [mark]; omega⟩
end Go.Proofs.Ytmnghdccikoaoaa.Mt
