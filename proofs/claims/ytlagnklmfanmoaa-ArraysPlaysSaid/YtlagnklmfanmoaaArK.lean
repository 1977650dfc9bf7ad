/-
  Package arrays: what the calls answer: Keys.
-/
import Derived.Test.YtlagnklmfanmoaaArJ
import Derived.Deep.LoopGhost
namespace Go.Proofs.Ytlagnklmfanmoaa.Ar
open Go.RowKit Go.Maps

def texts (T : List ByteArray) : List Value := T.map Value.string
abbrev Txts (B : Nat) (w : World) (v : Value) (T : List ByteArray) : Prop := w.ownsRow B 9 1 v T.length (texts T)
theorem texts_length (T : List ByteArray) : (texts T).length = T.length := List.length_map _
theorem texts_one (T : List ByteArray) : ∀ u ∈ texts T, u.oneCell' = true := by
  intro u hu
  obtain ⟨s, _, rfl⟩ := List.mem_map.1 hu
  rfl
theorem Txts.below {B : Nat} {w w' : World} {v : Value} {T : List ByteArray} (h : Txts B w v T) (hb : Below w.heap.size w w') : Txts B w' v T := by
  refine World.ownsRow.kept (row := none) h ⟨hb.os, hb.tape, hb.output, hb.size, fun k hk _ => hb.block k hk⟩ ?_
  cases v.ownBlock
  · exact .inl rfl
  · exact .inr (by simp)
theorem string_info : ∃ i z, Try.prog.info? 9 = some i ∧ i.zero = some z ∧ i.size = 1 ∧ i.bytes = 16 ∧ z.cells.size = 1 := by
  have h : (Try.prog.info? 9).map (fun i => (i.zero.map (·.cells.size), i.size, i.bytes)) = some (some 1, 1, 16) := by kernel_rfl
  cases hi : Try.prog.info? 9 with
  | none => rw [hi] at h; cases h
  | some i =>
    rw [hi] at h
    simp only [Option.map_some, Option.some.injEq, Prod.mk.injEq] at h
    cases hz : i.zero with
    | none => rw [hz] at h; cases h.1
    | some z => rw [hz] at h; exact ⟨i, z, rfl, hz, h.2.1, h.2.2, by simpa using h.1⟩
def keysL (L : List KV) : List ByteArray := L.map (·.1)
theorem live_take {rs : List Row} {j : Nat} {r : Row} (hj : rs[j]? = some r) : live (rs.take (j + 1)) = live (rs.take j) ++ if r.there then [(r.key, r.cell)] else [] := by
  rw [List.take_add_one, hj, live_append]
  cases h : r.there <;> simp [live, h]
theorem Txts.snoc {B g cap : Nat} {w : World} {T : List ByteArray} {s : ByteArray} (h : w.ownsRow B 9 1 (.slice (some ⟨g, 0, none⟩) (T.length + 1) cap) (T.length + 1) (texts T ++ [.string s])) : Txts B w (.slice (some ⟨g, 0, none⟩) (T.length + 1) cap) (T ++ [s]) := by
  show World.ownsRow _ _ _ _ _ _ _
  rw [List.length_append, show texts (T ++ [s]) = texts T ++ [.string s] from List.map_append]
  exact h
theorem Txts.shape {B : Nat} {w : World} {v : Value} {T : List ByteArray} (h : Txts B w v T) : ∃ oa oc, v = .slice oa T.length oc := by
  rcases h.2 with ⟨h1, h2⟩ | ⟨g, oc, cur, h1, _⟩
  · exact ⟨none, 0, by rw [h1, h2]⟩
  · exact ⟨_, _, h1⟩

set_option maxHeartbeats 1600000 in
set_option maxRecDepth 100000 in
theorem keys {w : World} {a N : Nat} {F : Nat → Prop} {L : List KV} (h : Arr w a N F L) (hN : N ≤ 1000000) :
    Calls Try.prog 12 #[.pointer (some ⟨a, 0, none⟩)] w fun e w' => ∃ v, e = .returned v ∧ Txts w.heap.size w' v (keysL L) ∧ Below w.heap.size w w' := by
  have hlen := h.length
  have hArr := Lib.hid h
  obtain ⟨pb, S, rs, hA, hl⟩ := h
  obtain ⟨mb, g, cap, D, hR⟩ := hA.rows
  have c0 := hA.c0
  have c1 := hA.c1
  have al := hA.lt a hA.fa
  have HH := Lib.hid (⟨hA, hR, hl⟩ : _ ∧ _ ∧ _)
  obtain ⟨i0, z0, hi, hz, hsz, hby, hzs⟩ := string_info
  obtain ⟨M, hM⟩ : ∃ M, M = madeCells z0.cells (L.length * 1) := ⟨_, rfl⟩
  have hMs : M.size = L.length * 1 := by rw [hM, size_madeCells]
  have hmk : ∀ W : World, (Instr.makeSlice 34 (.int .i64 0) (.int .i64 (L.length : Int))).run Try.prog W = .ok (.slice (some ⟨W.heap.size, 0, none⟩) 0 L.length) (W.alloc (.cells M 9)) := fun W => by
    have h := run_make (P := Try.prog) W 34 9 i0 z0 Try.underlying34 hi hz .i64 .i64 0 (L.length : Int) (by omega) (by omega) (by rw [hby]; omega) (by omega)
    rw [hsz] at h
    rw [hM]
    simpa using h
  have HI := Lib.hid (⟨hi, hz, hsz, hby, hzs, hMs⟩ : _ ∧ _ ∧ _ ∧ _ ∧ _ ∧ _)
  clear hA hR hl hi hz hsz hby hzs hM hMs
  have hbm : ∀ o, Below w.heap.size w (w.alloc o) := fun o => (Below.refl _ w).alloc (Nat.le_refl _) o
  have b1 : ∀ o, (w.alloc o).cell? ⟨a, 1, none⟩ = some (.pointer (some ⟨pb, 0, none⟩)) := fun o => ((hbm o).cell (p := ⟨a, 1, none⟩) al).trans c1
  have b2 : ∀ o, (w.alloc o).cell? ⟨pb, 1, none⟩ = some (.slice (some ⟨g, 0, none⟩) rs.length cap) := fun o => (HH.out.2.1.below (hbm o)).p1
  have HB := Lib.hid hbm
  clear hbm
  go_enter Try.func12, Try.ntmps12
  go_wp2_with (first
    | (go_at_call 16; refine (len hArr.out).mono ?_; rintro e w' ⟨rfl, hw⟩; obtain rfl := hw.symm; clear hw)
    | (go_at_call 31; refine (made_at c0).mono ?_; rintro e w' ⟨rfl, hw⟩; obtain rfl := hw.symm; clear hw))
  go_loopg [3, 20] rs.length (fun k l i wr => ∃ j, rs.length - j = k ∧ j ≤ rs.length ∧ i = .int .i64 (j : Int) ∧ Txts w.heap.size wr l (keysL (live (rs.take j))) ∧ Below w.heap.size w wr)
  case atStart => exact ⟨0, rfl, Nat.zero_le _, rfl, World.ownsRow_made w M L.length (Nat.le_refl _) (by unfold maxLen; omega) HI.out.2.2.2.2.2, HB.out _⟩
  case round =>
    obtain ⟨j, hk, hj, rfl, hT, hb⟩ := hrel
    by_cases hlt : j < rs.length
    · have hlt' : (j : Int) < ((rs.length : Nat) : Int) := by omega
      obtain ⟨r, hrj⟩ : ∃ r, rs[j]? = some r := ⟨_, List.getElem?_eq_getElem hlt⟩
      have hx := HH.out.2.1.below hb
      have f0 : wr.cell? ⟨g, j * 5, none⟩ = some (.string r.key) := hx.cells hrj 0 _ rfl
      have f1 := hx.cells hrj 1 _ rfl
      have f2 := hx.cells hrj 2 _ rfl
      have f3 := hx.cells hrj 3 _ rfl
      have f4 := hx.cells hrj 4 _ rfl
      have hsm := hx.ties.small r (List.mem_of_getElem? hrj)
      have hlt2 := live_take hrj
      have hjl : (keysL (live (rs.take j))).length ≤ 1000000 := by
        rw [keysL, List.length_map]
        have := live_length (rs.take j)
        rw [List.length_take] at this
        have := HH.out.2.1.len
        omega
      have hrl : rs.length ≤ 1000000 := Nat.le_trans HH.out.2.1.len hN
      have hks : keysL (live (rs.take (j + 1))) = keysL (live (rs.take j)) ++ if r.there then [r.key] else [] := by
        rw [hlt2, keysL, List.map_append]
        cases r.there <;> rfl
      generalize keysL (live (rs.take j)) = T at hT hjl hks
      obtain ⟨oa, oc, rfl⟩ := hT.shape
      have hlt2 := hks
      clear hks
      have H2 := Lib.hid (⟨hb, hT, hlt2⟩ : _ ∧ _ ∧ _)
      clear hb hT hlt2 hx
      cases ht : r.there with
      | true =>
        rw [ht] at f4 H2
        go_wp2_with (first
          | (go_at_call 34; refine (clone r.key _ hsm).mono ?_; rintro e w3 ⟨rfl, hw3⟩; have HW := Lib.hid ((((Below.refl _ wr).alloc (Nat.le_refl _) _).trans (hw3.mono (two_size (Nat.le_refl _)))) : Below wr.heap.size wr w3); clear hw3)
          | (at_builtin; refine wpList_append_lies _ rfl (.tmp 26) (.tmp 30) 34 rfl w.heap.size 9 i0 z0 1 16 Try.underlying34 HI.out.1 HI.out.2.1 HI.out.2.2.1 HI.out.2.2.2.1 HI.out.2.2.2.2.1 (by decide) (.slice oa T.length oc) T.length (texts T) rfl ((H2.out.2.1.below HW.out).alloc _) ⟨w3.heap.size, 0, none⟩ 1 1 [.string r.key] rfl rfl (World.news_of_block (heap_alloc_new w3 _)) (texts_one [r.key]) (by decide) (by unfold maxLen; omega) (by omega) (Nat.le_trans H2.out.1.size (two_size HW.out.size)) _ rfl ?_; intro g2 cap2 w4 hown hgrow hat hlt4; have HO := Lib.hid (⟨Txts.snoc hown, (H2.out.1.trans ((HW.out.trans ((Below.refl _ w3).alloc HW.out.size _)).mono H2.out.1.size)).grown hgrow (Nat.le_trans H2.out.1.size (two_size HW.out.size)) (fun k hk => (H2.out.2.1.lt k hk).1)⟩ : _ ∧ _); clear hown hgrow hat hlt4))
        go_roundg (rs.length - (j + 1))
        case measure => omega
        case rel =>
          refine ⟨j + 1, rfl, hlt, by go_num, ?_, HO.out.2⟩
          have := H2.out.2.2
          rw [if_pos trivial] at this
          rw [this]
          exact HO.out.1
      | false =>
        rw [ht] at f4 H2
        go_wp2_with fail
        go_roundg (rs.length - (j + 1))
        case measure => omega
        case rel =>
          refine ⟨j + 1, rfl, hlt, by go_num, ?_, H2.out.1.trans (((Below.refl _ wr).alloc (Nat.le_refl _) _).mono H2.out.1.size)⟩
          have := H2.out.2.2
          rw [if_neg (by simp), List.append_nil] at this
          rw [this]
          exact H2.out.2.1.below ((Below.refl _ wr).alloc (Nat.le_refl _) _)
    · have hge : ¬ (j : Int) < ((rs.length : Nat) : Int) := by omega
      have he : rs.take j = rs := List.take_of_length_le (by omega)
      rw [he] at hT
      have H2 := Lib.hid (⟨hT, hb⟩ : _ ∧ _)
      clear hT hb
      go_wp2_with fail
      go_ret
      refine ⟨_, rfl, ?_, H2.out.2⟩
      rw [← HH.out.2.2]
      exact H2.out.1
end Go.Proofs.Ytlagnklmfanmoaa.Ar
