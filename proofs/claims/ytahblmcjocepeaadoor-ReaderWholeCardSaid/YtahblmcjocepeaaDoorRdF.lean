/-
  Package reader: a place is sought (text.seek).
-/
import Derived.Test.YtahblmcjocepeaaDoorRdE
namespace Go.Proofs.YtahblmcjocepeaaDoor.Rd
open Go.RowKit Go.Maps Wo

/- What a closure finds in a piece, and what that says of the whole. -/
structure Fnd (tot : ByteArray) (ix : ByteArray → Int) (F : Nat → Nat) : Prop where
  no : ∀ f p, f ≤ p → p ≤ tot.size → ix (tot.extract f p) < 0 → F f = F p ∧ p ≤ F p
  yes : ∀ f p, f ≤ p → p ≤ tot.size → 0 ≤ ix (tot.extract f p) → (F f : Int) = f + ix (tot.extract f p) ∧ F f < p
  last : F tot.size = tot.size
structure Cls (g : FuncId) (caps : Array Value) (bx : List Nat) (ix : ByteArray → Int) (w1 : World) : Prop where
  enters : ∀ (args : Array Value) (w : World), (callFunc g args).run Tryd.prog w = .ok (.enter g args) w
  call : ∀ (s : ByteArray) (W : World), Keep bx w1 W → Calls Tryd.prog g (#[.string s] ++ caps) W fun e w' => e = .returned (.int .i64 (ix s)) ∧ Below W.heap.size W w'
section
variable {w0 w : World} {c : Cst} {x : Blks} {buf : Option Nat} {p : Nat} {over : Bool} {bx : List Nat}
set_option maxHeartbeats 1000000 in
set_option maxRecDepth 100000 in
theorem seek {g : FuncId} {caps : Array Value} {ix : ByteArray → Int} {F : Nat → Nat} (hS : Src c.B c.k c.n c.tot c.G) (hz : c.tot.size ≤ 10000000) (hc : Cls g caps bx ix w) (hF : Fnd c.tot ix F) (h : Nx w0 w c x buf p p over bx) (f : Nat) (hf : f ≤ p) :
    Calls Tryd.prog 89 #[ptr x.tt, .int .i64 (f : Int), .func (Fn.func g) #[] caps] w fun e w' => e = .returned (.int .i64 (F f : Int)) ∧ ∃ p' over' buf', Nx w0 w' c x buf' p' p' over' bx ∧ Keep bx w w' ∧ p ≤ p' ∧ (F f < p' ∨ (F f = p' ∧ p' = c.tot.size ∧ over' = true)) := by
  have HS := Lib.hid (⟨hS, hc, hF⟩ : _ ∧ _ ∧ _)
  have hen := hc.enters
  have H0 := Lib.hid h
  clear hS hc hF h
  go_enter Tryd.func89, Tryd.ntmps89
  go_wp2_with fail
  go_loopg [1] (c.tot.size - p) (fun q i wr => ∃ (f' p' : Nat) (over' : Bool) (buf' : Option Nat), c.tot.size - p' = q ∧ f' ≤ p' ∧ F f' = F f ∧ i = .int .i64 (f' : Int) ∧ Nx w0 wr c x buf' p' p' over' bx ∧ Keep bx w wr ∧ p ≤ p')
  case atStart => exact ⟨f, p, over, buf, rfl, hf, rfl, rfl, H0.out, Keep.refl _ _, Nat.le_refl _⟩
  case round =>
    obtain ⟨f', p', over', buf', hq, hf', hFf, rfl, hN, hkp, hpp⟩ := hrel
    have hle : p' ≤ c.tot.size := by
      obtain ⟨st, h1, h2⟩ := hN.rp
      exact HS.out.1.le _ _ h2
    have hsz : (c.tot.extract 0 p').size = p' := by rw [ByteArray.size_extract]; omega
    have hex : (c.tot.extract 0 p').extract f' p' = c.tot.extract f' p' := by
      rw [ByteArray.extract_extract]
      congr 1 <;> omega
    obtain ⟨t0, t1, _, _⟩ := hN.tx.all
    obtain ⟨A, hA⟩ : ∃ A, A = c.tot.extract 0 p' := ⟨_, rfl⟩
    rw [← hA] at t0 hsz hex
    have HN := Lib.hid (⟨hN, hkp, hFf⟩ : _ ∧ _ ∧ _)
    have HE := Lib.hid (⟨hsz, hex, hA⟩ : _ ∧ _ ∧ _)
    have hsi : (A.size : Int) = (p' : Int) := by rw [hsz]
    have hfi : ¬ (A.size : Int) < (f' : Int) := by omega
    clear hN hkp hFf hsz hex hA
    have hex' : A.extract f' A.size = c.tot.extract f' p' := by rw [HE.out.1]; exact HE.out.2.1
    have hNN := HS.out.2.2.no f' p' hf' hle
    have hYY := HS.out.2.2.yes f' p' hf' hle
    rw [← hex'] at hNN hYY
    have HX := Lib.hid hex'
    clear hex'
    by_cases hix : 0 ≤ ix (A.extract f' A.size)
    · obtain ⟨y1, y2⟩ := hYY hix
      obtain ⟨o, ho⟩ : ∃ o, o = ix (A.extract f' A.size) := ⟨_, rfl⟩
      have HO := Lib.hid ho
      rw [← ho] at y1 hix
      clear ho hNN hYY
      go_wp2_with (refine (HS.out.2.1.call _ _ HN.out.2.1).mono ?_; rintro e w3 ⟨rfl, hb3⟩; rw [← HO.out]; have H3 := Lib.hid hb3; clear hb3)
      go_ret
      exact ⟨(by rw [← HN.out.2.2, y1]; rfl), p', over', buf', HN.out.1.below H3.out, HN.out.2.1.trans (HN.out.1.below H3.out |> fun _ => by
        obtain ⟨st, h1, h2⟩ := HN.out.1.rp
        exact fun b hb => H3.out.block b ((h1.lt (b := b) (by simp [hb])).1)), hpp, .inl (by rw [← HN.out.2.2]; exact y2)⟩
    · obtain ⟨y1, y2⟩ := hNN (by omega)
      obtain ⟨o, ho⟩ : ∃ o, o = ix (A.extract f' A.size) := ⟨_, rfl⟩
      have HO := Lib.hid ho
      rw [← ho] at hix
      have HY := Lib.hid (⟨y1, y2⟩ : _ ∧ _)
      clear ho hNN hYY y1 y2
      go_wp2_with (first
        | (go_at_call 63; have hh := H3.out; refine (more HS.out.1 hz hh.1).mono ?_; rintro e w4 ⟨p2, ov2, buf2, rfl, hN4, hk4, hp4, he4⟩; have H4 := Lib.hid (⟨hN4, hh.2.trans hk4, hp4, he4⟩ : _ ∧ _ ∧ _ ∧ _); clear hh hN4 hk4 hp4 he4; cases hd : decide (p' < p2))
        | (refine (HS.out.2.1.call _ _ HN.out.2.1).mono ?_; rintro e w3 ⟨rfl, hb3⟩; rw [← HO.out]; have hn3 := HN.out.1.below hb3; have hk3 : Keep bx w w3 := HN.out.2.1.trans (by
            obtain ⟨st, h1, h2⟩ := HN.out.1.rp
            exact fun b hb => hb3.block b ((h1.lt (b := b) (by simp [hb])).1)); have H3 := Lib.hid (⟨hn3, hk3⟩ : _ ∧ _); clear t0 t1; obtain ⟨t0, t1, _, _⟩ := hn3.tx.all; rw [← HE.out.2.2] at t0; clear hb3 hn3 hk3))
      · have hnl : ¬ p' < p2 := of_decide_eq_false hd
        obtain ⟨n1, n2, n3, n4⟩ := H4.out
        have e2 : p2 = p' := by omega
        obtain ⟨e3, e4⟩ := n4 e2
        have e5 : F f = p' := by rw [← HN.out.2.2, HY.out.1, e3]; exact HS.out.2.2.last
        go_ret
        exact ⟨(by rw [e5]; rfl), p2, ov2, buf2, n1, n2, by omega, .inr ⟨by omega, by omega, e4⟩⟩
      · have hlt : p' < p2 := of_decide_eq_true hd
        obtain ⟨n1, n2, n3, n4⟩ := H4.out
        have hle2 : p2 ≤ c.tot.size := by
          obtain ⟨st, h1, h2⟩ := n1.rp
          exact HS.out.1.le _ _ h2
        have HM := Lib.hid (⟨n1, n2⟩ : _ ∧ _)
        clear n1 n2
        go_roundg (c.tot.size - p2)
        case measure => omega
        case rel => exact ⟨p', p2, ov2, buf2, rfl, n3, by rw [← HY.out.1]; exact HN.out.2.2, rfl, HM.out.1, HM.out.2, by omega⟩
end
end Go.Proofs.YtahblmcjocepeaaDoor.Rd
