/-
  A closed call, told by the kernel: what the evaluator answers, the machine answers, in whatever memory.
-/
import Derived.Test.YtmoglfooadcemaaEv2
namespace Go.Ev
open Go.RowKit

variable {P : Program} {T : TE} [TOk P T]

theorem ng_write {vs vs1 : VS} {a : Addr} {xs : List Value} (h : vwrite vs a xs = some vs1) : Keeps vs vs1 := by
  unfold vwrite at h
  split at h
  · simp only [Bool.cond_eq_ite] at h
    split at h
    · cases h; exact ⟨rfl, rfl⟩
    · cases h
  · cases h

omit [TOk P T] in
theorem vop_ng {vs vs1 : VS} {ρ : Operand → Value} {o : Oper} {n : VN} (h : vop P T vs ρ o = some (n, vs1)) : Keeps vs vs1 := by
  have hsame : ∀ x : Option VN, same vs x = some (n, vs1) → Keeps vs vs1 := fun x h => by rw [(same_some h).2]; exact ⟨rfl, rfl⟩
  have hup : ∀ {t : TypeId} {m k x : Operand}, oUpdate P T vs ρ t m k x = some (n, vs1) → Keeps vs vs1 := fun {t m k x} h => by
    unfold oUpdate at h
    split at h
    · rename_i vs2 hu
      cases h
      unfold vupdate at hu
      repeat' (first | (split at hu) | (simp only [Bool.cond_eq_ite] at hu))
      all_goals first | (cases hu; exact ⟨rfl, rfl⟩) | (cases hu; done)
    · split at h
      · rename_i vs2 hu
        cases h
        unfold vupdateW at hu
        repeat' (first | (split at hu) | (simp only [Bool.cond_eq_ite] at hu))
        all_goals first | (cases hu; exact ⟨rfl, rfl⟩) | (cases hu; done)
      · cases h
  unfold vop at h
  split at h
  · unfold valloc at h
    repeat' (first | (split at h) | (simp only [Bool.cond_eq_ite] at h))
    all_goals first | (cases h; exact ⟨rfl, rfl⟩) | (cases h; done)
  · cases h; exact ⟨rfl, rfl⟩
  · unfold oStore at h
    split at h
    · split at h
      · rename_i vs2 hs
        cases h
        unfold vstore at hs
        split at hs
        · simp only [Bool.cond_eq_ite] at hs
          split at hs
          · exact ng_write hs
          · cases hs
        · cases hs
      · cases h
    · cases h
  · unfold vmake at h
    repeat' (first | (split at h) | (simp only [Bool.cond_eq_ite] at h))
    all_goals first | (cases h; exact ⟨rfl, rfl⟩) | (cases h; done)
  · unfold vbuildSlice at h
    repeat' (first | (split at h) | (simp only [Bool.cond_eq_ite] at h))
    all_goals first | (cases h; exact ⟨rfl, rfl⟩) | (cases h; done)
  · unfold oSlice at h
    split at h
    · split at h
      · simp only [Bool.cond_eq_ite] at h
        split at h
        · unfold vsliceEnd at h
          repeat' (first | (split at h) | (simp only [Bool.cond_eq_ite] at h))
          all_goals first | (cases h; exact ⟨rfl, rfl⟩) | (cases h; done)
        · cases h; exact ⟨rfl, rfl⟩
      · cases h
    · split at h
      · cases h; exact ⟨rfl, rfl⟩
      · cases h
    · exact hsame _ h
  · unfold oSlice3 at h
    split at h
    · unfold vslice3 at h
      repeat' (first | (split at h) | (simp only [Bool.cond_eq_ite] at h))
      all_goals first | (cases h; exact ⟨rfl, rfl⟩) | (cases h; done)
    · exact hsame _ h
  · unfold oConv at h
    split at h
    · split at h
      · unfold vbytes at h
        repeat' (first | (split at h) | (simp only [Bool.cond_eq_ite] at h))
        all_goals first | (cases h; exact ⟨rfl, rfl⟩) | (cases h; done)
      · exact hsame _ h
    · exact hsame _ h
    · exact hsame _ h
  · unfold oCall at h
    split at h
    · split at h
      · unfold vappend vappendG at h
        repeat' (first | (split at h) | (simp only [Bool.cond_eq_ite] at h))
        all_goals first | (cases h; exact ⟨rfl, rfl⟩) | (cases h; done) | skip
        all_goals (cases h; first | exact ⟨rfl, rfl⟩ | exact ng_write (by assumption))
      · cases h
    · split at h
      · unfold vcopy at h
        repeat' (first | (split at h) | (simp only [Bool.cond_eq_ite] at h))
        all_goals first | (cases h; exact ⟨rfl, rfl⟩) | (cases h; done) | skip
        all_goals (cases h; first | exact ⟨rfl, rfl⟩ | exact ng_write (by assumption))
      · cases h
    · split at h
      · split at h
        · rename_i vs2 hd
          cases h
          unfold vdelete at hd
          repeat' (first | (split at hd) | (simp only [Bool.cond_eq_ite] at hd))
          all_goals first | (cases hd; exact ⟨rfl, rfl⟩) | (cases hd; done)
        · cases h
      · cases h
    · split at h
      · split at h
        · rename_i vs2 hd
          cases h
          unfold vclear at hd
          repeat' (first | (split at hd) | (simp only [Bool.cond_eq_ite] at hd))
          all_goals first | (cases hd; exact ⟨rfl, rfl⟩) | (cases hd; done) | exact ng_write hd
        · cases h
      · cases h
    · split at h
      · split at h
        · split at h
          · rename_i v vs2 hb
            cases h
            unfold vbyteText at hb
            repeat' (first | (split at hb) | (simp only [Bool.cond_eq_ite] at hb))
            all_goals first | (cases hb; exact ⟨rfl, rfl⟩) | (cases hb; done)
          · cases h
        · exact hsame _ h
      · cases h
    · exact hsame _ h
  · unfold oDefer at h
    repeat' (first | (split at h) | (simp only [Bool.cond_eq_ite] at h))
    all_goals first | (cases h; exact ⟨rfl, rfl⟩) | (cases h; done)
  · unfold vmakeMap at h
    repeat' (first | (split at h) | (simp only [Bool.cond_eq_ite] at h))
    all_goals first | (cases h; exact ⟨rfl, rfl⟩) | (cases h; done)
  · exact hup h
  · exact hup h
  · unfold vrange at h
    repeat' (first | (split at h) | (simp only [Bool.cond_eq_ite] at h))
    all_goals first | (cases h; exact ⟨rfl, rfl⟩) | (cases h; done)
  · unfold vnext at h
    repeat' (first | (split at h) | (simp only [Bool.cond_eq_ite] at h))
    all_goals first | (cases h; exact ⟨rfl, rfl⟩) | (cases h; done)
  · exact hsame _ h

theorem engOk (hN : NamesOk P) (hm : P.follows .mixedOrders = true) : EngOk P (vop P T) (vquietM P T) (vfx T) :=
  ⟨fun _ _ _ _ _ h => vop_sound hN h, fun _ _ _ _ _ h => vop_ng h, fun _ _ _ _ h => vquietM_sound hN h, hm, hN, fxRun, ⟨fun _ _ _ _ _ _ _ _ hc h1 h2 h3 => vcm_ok hc h1 h2 h3, fun _ _ _ _ _ _ _ h => vapc_keeps h ng_write⟩⟩

/- The start: no memory of the evaluator's own; the variables where they are. -/
def startMu (ng : Nat) : Mu := fun g => if g < ng then some ⟨g, 0, 0, 1, 0⟩ else none
theorem G_start (W : World) (ng : Nat) (h : ng ≤ W.heap.size) : G (old W) W ⟨[], ng, ng, [], []⟩ W (startMu ng) := by
  refine ⟨Kept.refl _ _, fun _ hk => hk, ?_, ?_, ?_, fun id B hm => by simp at hm, fun id B id' B' hm => by simp at hm, ⟨fun id O hm => by simp at hm, fun id O id' O' hm => by simp at hm⟩⟩
  · intro a ha
    simp only at ha
    simp [startMu]; omega
  · intro g l hg
    unfold startMu at hg
    split at hg
    · cases hg; simp; omega
    · cases hg
  · intro g hg
    exact ⟨⟨g, 0, 0, 1, 0⟩, by simp [startMu]; exact hg, rfl, rfl⟩

theorem told (hN : NamesOk P) (hm : P.follows .mixedOrders = true) {ng fuel d : Nat} {tbl : Nat → Option VF} (hT : TblOk P ng tbl) {f : FuncId} {args : Array Value} {v : Value} {vs1 : VS} (hp : plainA args = true) (hv : plainB v = true)
    (h : vcall T (vop P T) (vquietM P T) (vfx T) ng tbl fuel d f args ⟨[], ng, ng, [], []⟩ = some (.ret v, vs1)) (W : World) (hW : ng ≤ W.heap.size) :
    Calls P f args W fun e W' => e = .returned v ∧ Below W.heap.size W W' := by
  refine (vcall_sound (engOk hN hm) hT d f args _ (.ret v) vs1 h (old W) W W (startMu ng) args (RA_self _ hp) (G_start W ng hW)).mono ?_
  rintro e W' ⟨μ1, _, hG, v', hr, rfl⟩
  exact ⟨by rw [hr.plain hv], hG.below.below⟩


/- The start with tables: package-level variables whose cells are known, to be read. -/
abbrev Tab := Nat × List Value × TypeId
def tabHeap : List Tab → List (Nat × VB)
  | [] => []
  | (g, cs, e) :: r => (g, ⟨cs, e, 1, g, false, false, false, false⟩) :: tabHeap r
def tabMu (ng : Nat) : List Tab → Mu
  | [] => startMu ng
  | (g, cs, _) :: r => fun i => if i = g then some ⟨g, 0, 0, 1, cs.length⟩ else tabMu ng r i
def keysOk (ng : Nat) : List Tab → Bool
  | [] => true
  | (g, cs, _) :: r => Nat.blt g ng && r.all (fun x => !Nat.beq x.1 g) && plainL cs && keysOk ng r
theorem tab_mem : ∀ {tabs : List Tab} {id : Nat} {B : VB}, (id, B) ∈ tabHeap tabs → ∃ cs e, (id, cs, e) ∈ tabs ∧ B = ⟨cs, e, 1, id, false, false, false, false⟩
  | (g, cs, e) :: r, id, B, h => by
    rcases List.mem_cons.1 h with q | q
    · cases q; exact ⟨cs, e, by simp, rfl⟩
    · obtain ⟨cs', e', h1, h2⟩ := tab_mem q
      exact ⟨cs', e', List.mem_cons_of_mem _ h1, h2⟩
theorem tabMu_at {ng : Nat} : ∀ {tabs : List Tab} {g : Nat} {cs : List Value} {e : TypeId}, keysOk ng tabs = true → (g, cs, e) ∈ tabs → tabMu ng tabs g = some ⟨g, 0, 0, 1, cs.length⟩ ∧ g < ng ∧ plainL cs = true
  | (g', cs', e') :: r, g, cs, e, hk, h => by
    simp only [keysOk, Bool.and_eq_true, List.all_eq_true, Bool.not_eq_true'] at hk
    obtain ⟨⟨⟨k1, k2⟩, k3⟩, k4⟩ := hk
    rcases List.mem_cons.1 h with q | q
    · cases q; exact ⟨by simp [tabMu], by simpa using k1, k3⟩
    · have hne : ¬ g = g' := fun q' => by
        have := k2 _ q
        simp only at this
        rw [q'] at this
        rw [Nat.beq_refl] at this; cases this
      obtain ⟨h1, h2⟩ := tabMu_at k4 q
      exact ⟨by simp only [tabMu, if_neg hne]; exact h1, h2⟩
theorem tabMu_any {ng : Nat} : ∀ {tabs : List Tab} {g : Nat} {l : Loc}, keysOk ng tabs = true → tabMu ng tabs g = some l → l.blk = g ∧ l.off = 0 ∧ g < ng
  | [], g, l, _, h => by
    unfold tabMu startMu at h
    split at h
    · rename_i hg; cases h; exact ⟨rfl, rfl, hg⟩
    · cases h
  | (g', cs', e') :: r, g, l, hk, h => by
    simp only [keysOk, Bool.and_eq_true] at hk
    simp only [tabMu] at h
    split at h
    · rename_i hg; cases h; exact ⟨hg.symm, rfl, by rw [hg]; simpa using hk.1.1.1⟩
    · exact tabMu_any hk.2 h
theorem tabMu_some {ng : Nat} : ∀ (tabs : List Tab) {g : Nat}, g < ng → ∃ l, tabMu ng tabs g = some l
  | [], g, h => ⟨_, by simp [tabMu, startMu, h]; rfl⟩
  | (g', cs', e') :: r, g, h => by
    simp only [tabMu]
    split
    · exact ⟨_, rfl⟩
    · exact tabMu_some r h

/- A world in which the tables lie. -/
def Laid (tabs : List Tab) (W : World) : Prop := ∀ g cs e, (g, cs, e) ∈ tabs → ∃ c z, W.heap[g]? = some (.cells c e z) ∧ ∀ (i : Nat) v, cs[i]? = some v → c[i]? = some v
theorem G_startT {W : World} {ng : Nat} {tabs : List Tab} (hk : keysOk ng tabs = true) (hW : ng ≤ W.heap.size) (hl : Laid tabs W) : G (old W) W ⟨tabHeap tabs, ng, ng, [], []⟩ W (tabMu ng tabs) := by
  refine ⟨Kept.refl _ _, fun _ hk => hk, ?_, ?_, ?_, ?_, ?_, ⟨fun id O hm => by simp at hm, fun id O id' O' hm => by simp at hm⟩⟩
  · intro a ha
    cases h : tabMu ng tabs a with
    | none => rfl
    | some l => have := (tabMu_any hk h).2.2; simp only at ha; omega
  · intro g l hg
    have := tabMu_any hk hg
    omega
  · intro g hg
    obtain ⟨l, h⟩ := tabMu_some tabs hg
    have := tabMu_any hk h
    exact ⟨l, h, this.1, this.2.1⟩
  · intro id B hm
    obtain ⟨cs, e, h1, rfl⟩ := tab_mem hm
    obtain ⟨h2, h3, h4⟩ := tabMu_at hk h1
    obtain ⟨c, z, h5, h6⟩ := hl id cs e h1
    have hlen : cs.length ≤ c.size := by
      rcases Nat.eq_zero_or_pos cs.length with h0 | h0
      · omega
      · have := h6 (cs.length - 1) cs[cs.length - 1] (by simp)
        have := (Array.getElem?_eq_some_iff.1 this).1
        omega
    exact ⟨_, c, z, h2, ⟨h5, (fun x => by cases x), rfl, rfl, by simpa using hlen, fun _ => rfl, (fun x => by cases x), (fun x => by cases x), fun i v hv => ⟨v, by simpa using h6 i v hv, plainL_self _ cs h4 i v hv⟩⟩⟩
  · intro id B id' B' hm hm' hf l l' hl1 hl2 hb
    obtain ⟨cs, e, h1, rfl⟩ := tab_mem hm
    obtain ⟨cs', e', h1', rfl⟩ := tab_mem hm'
    have q1 := tabMu_any hk hl1
    have q2 := tabMu_any hk hl2
    exact hf (by show id = id'; omega)

theorem toldT (hN : NamesOk P) (hm : P.follows .mixedOrders = true) {ng fuel d : Nat} {tbl : Nat → Option VF} (hT : TblOk P ng tbl) {tabs : List Tab} (hk : keysOk ng tabs = true) {f : FuncId} {args : Array Value} {v : Value} {vs1 : VS} (hp : plainA args = true) (hv : plainB v = true)
    (h : vcall T (vop P T) (vquietM P T) (vfx T) ng tbl fuel d f args ⟨tabHeap tabs, ng, ng, [], []⟩ = some (.ret v, vs1)) (W : World) (hW : ng ≤ W.heap.size) (hl : Laid tabs W) :
    Calls P f args W fun e W' => e = .returned v ∧ Below W.heap.size W W' := by
  refine (vcall_sound (engOk hN hm) hT d f args _ (.ret v) vs1 h (old W) W W (tabMu ng tabs) args (RA_self _ hp) (G_startT hk hW hl)).mono ?_
  rintro e W' ⟨μ1, _, hG, v', hr, rfl⟩
  exact ⟨by rw [hr.plain hv], hG.below.below⟩

end Go.Ev
