/-
  The evaluator's operations that leave memory alone: what they say of the machine.
-/
import Derived.Test.YtmoglfooadcemaaEvF
namespace Go.Ev
open Go.RowKit

variable {P : Program} {T : TE} [TOk P T] {vs : VS} {ρ : Operand → Value} {o : Oper} {n : VN}

theorem vquiet_sound (hN : NamesOk P) (h : vquiet P T vs ρ o = some n) : Sound P vs ρ o n := by
  unfold vquiet at h
  split at h
  case h_1 x ho => cases h; exact sound_move (.inl ho)
  case h_2 x ho => cases h; exact sound_move (.inr ho)
  case h_3 c a b ho =>
    unfold qPick at h
    split at h
    · rename_i t hc; cases h; exact sound_pick ho hc
    · cases h
  case h_4 t x ho =>
    unfold qLoad at h
    split at h
    · rename_i a hx
      obtain ⟨v, h1, rfl⟩ := vlift_some h
      exact sound_load ho hx h1
    · cases h
  case h_5 x ho =>
    unfold qNil at h
    simp only [Bool.cond_eq_ite] at h
    split at h
    · rename_i hx; cases h; exact sound_nilCheck ho hx
    · cases h
  case h_6 s x f ho =>
    unfold qFieldAddr at h
    split at h
    · rename_i a hx
      obtain ⟨v, h1, rfl⟩ := vlift_some h
      exact sound_fieldAddr ho hx h1
    · cases h
  case h_7 t x i ho =>
    obtain ⟨v, h1, rfl⟩ := vlift_some h
    exact sound_indexAddr ho h1
  case h_8 x ix ho =>
    unfold qExtract at h
    split at h
    · rename_i a hx
      obtain ⟨v, h1, rfl⟩ := vlift_some h
      exact sound_extract ho hx h1
    · cases h
  case h_9 t x f ho =>
    unfold qField at h
    split at h
    · rename_i fields a hu hx
      split at h
      · rename_i fl hf
        obtain ⟨v, h1, rfl⟩ := vlift_some h
        exact sound_field ho hu hx hf h1
      · cases h
    · cases h
  case h_10 t x i ho =>
    unfold qIndex at h
    split at h
    · rename_i s k m hx hi
      obtain ⟨v, h1, rfl⟩ := vlift_some h
      exact sound_at ho hx hi h1
    · rename_i a k m hx hi
      split at h
      · rename_i len elem hu
        split at h
        · rename_i inf hinf
          simp only [Bool.cond_eq_ite] at h
          split at h
          · rename_i hb
            simp only [Bool.and_eq_true, decide_eq_true_eq] at hb
            obtain ⟨v, h1, rfl⟩ := vlift_some h
            exact sound_index ho hu hx hi hinf hb h1
          · cases h
        · cases h
      · cases h
    · cases h
  case h_11 t x lo hi ho =>
    unfold qSlice at h
    split at h
    · rename_i a len cap hx
      split at h
      · rename_i l hh sz hv
        simp only [Bool.cond_eq_ite] at h
        split at h
        · cases h
        · rename_i hne
          cases h
          exact sound_slice ho hx hv fun e => hne (by rw [e]; exact Nat.beq_refl _)
      · cases h
    · rename_i s hx
      obtain ⟨v, h1, rfl⟩ := vlift_some h
      exact sound_cut ho hx h1
    · exact sound_plain (by rw [ho]; rfl) h
  case h_12 t x ho =>
    unfold qIface at h
    split at h
    · rename_i d hu
      simp only [Bool.cond_eq_ite] at h
      split at h
      · rename_i hd; cases h; exact sound_makeInterface ho hu hd
      · cases h
    · cases h
  case h_13 fn first captured ho => cases h; exact sound_makeFunc ho
  case h_14 src dst x ho =>
    unfold qConv at h
    split at h
    · rename_i a len cap hx
      obtain ⟨v, h1, rfl⟩ := vlift_some h
      exact sound_text ho hx h1
    · exact sound_plain (by rw [ho]; rfl) h
  case h_15 op t x y u ho =>
    unfold qBin at h
    split at h
    · rename_i k a k' b hx hy
      unfold qOr at h
      split at h
      · rename_i v hv; cases h; exact sound_int ho hx hy hv
      · exact sound_plain (by rw [ho]; rfl) h
    · rename_i a b hx hy
      unfold qOr at h
      split at h
      · rename_i v hv; cases h; exact sound_str ho hx hy hv
      · exact sound_plain (by rw [ho]; rfl) h
    · unfold qOr at h
      split at h
      · rename_i v hv; cases h; exact sound_nil ho hv
      · exact sound_plain (by rw [ho]; rfl) h
  case h_16 t parts ho =>
    obtain ⟨v, h1, rfl⟩ := vlift_some h
    exact sound_build ho h1
  case h_17 x xt asserted ok ho =>
    unfold qOr at h
    split at h
    · rename_i v hv; cases h; exact sound_assert ho hv
    · exact sound_plain (by rw [ho]; rfl) h
  case h_18 c ho =>
    unfold qCall at h
    split at h
    · rename_i f hc
      split at h
      · rename_i g first captured hf
        simp only [Bool.cond_eq_ite] at h
        split at h
        · rename_i hb; cases h; exact sound_call hN ho hc hf (TOk.body (P := P) hb)
        · obtain ⟨v, h1, rfl⟩ := vlift_some h
          exact sound_ext ho hc hf h1
      · cases h
    · rename_i hc
      unfold qLen at h
      split at h
      · rename_i x t ha ht
        split at h
        · rename_i v hv; cases h; exact sound_len ho hc (Array.ext' ha) (Array.ext' ht) hv
        · unfold qOr at h
          split at h
          · rename_i v hv; cases h; exact sound_size ho hc (Array.ext' ha) (Array.ext' ht) hv
          · exact sound_plain (by rw [ho]; rfl) h
      · cases h
    · exact sound_plain (by rw [ho]; rfl) h
  case h_19 => cases h
  case h_20 hns =>
    exact sound_plain (by
      cases ho : o.op <;> first
        | rfl
        | (exfalso; exact hns _ _ ho)) h

end Go.Ev
