/-
  Package reader: a reader of what is handed in (New; the law's of).
-/
import Derived.Test.YtahblmcjocepeaaDoorRdI
namespace Go.Proofs.YtahblmcjocepeaaDoor.Rd
open Go.RowKit Go.Maps Wo

def Std (s : ByteArray) (p : Nat) (st : St) : Prop := st.stdin = s.extract p s.size ∧ p ≤ s.size ∧ st.streams = [⟨1, dash, .stdin⟩] ∧ st.fails = fun _ _ => false
theorem srcStd (B : Nat) (s : ByteArray) (hz : s.size ≤ 10000000) : Src B 1 dash s (Std s) := by
  refine ⟨fun p st h => h.2.1, fun p st h w fm rm xm D vs vt ps T hw => ?_⟩
  obtain ⟨h1, h2, h3, h4⟩ := h
  have hsz : (s.extract p s.size).size = s.size - p := by rw [ByteArray.size_extract]; omega
  have hr : Reads st 1 dash (some (0, ⟨1, dash, .stdin⟩, st.stdin)) := by
    refine ⟨?_, ?_, rfl⟩
    · rw [h3]; rfl
    · rw [h3]; rfl
  have hd : Small dash := by unfold Small; decide
  have hc := read_ (n := dash) (k := 1) (m := 512) hw hd (by rw [h3]; decide) (by decide) hr (fun i s' t e => by
    simp only [Option.some.injEq, Prod.mk.injEq] at e
    obtain ⟨_, _, rfl⟩ := e
    rw [h1, hsz]; omega)
  refine hc.mono fun e w2 hp => ?_
  unfold ReadPost at hp
  dsimp only at hp
  have he : readE st dash 512 (some (0, ⟨1, dash, .stdin⟩, st.stdin)) = 0 := by
    unfold readE
    rw [if_neg (by simp), if_neg (by decide), h4]
    rfl
  rw [if_pos he] at hp
  have hcut : cutN 512 st.stdin = min 512 (s.size - p) := by unfold cutN; rw [h1, hsz]; omega
  refine ⟨_, ⟨?_, ?_⟩, hp.2⟩
  · have e2 : (s.extract p s.size).extract 0 (min 512 (s.size - p)) = s.extract p (min (p + 512) s.size) := by
      rw [ByteArray.extract_extract]
      congr 1 <;> omega
    rw [hp.1, hcut, h1, e2]
  · refine ⟨?_, by omega, h3, h4⟩
    show st.stdin.extract (cutN 512 st.stdin) st.stdin.size = _
    rw [hcut, h1, hsz, ByteArray.extract_extract]
    congr 1 <;> omega
set_option maxHeartbeats 1000000 in
set_option maxRecDepth 100000 in
theorem newR {w0 w : World} {B : Nat} {st : St} (h : Rp w0 w B st []) (hn : openE st 1 dash = 0) (hm : st.made ≤ 1000000) (hs : st.streams.length ≤ 1000000) (ht : st.trace.length ≤ 1000000) (s : ByteArray) (G : Nat → St → Prop) (hg : G 0 (openS st 1 dash)) :
    Calls Tryd.prog 11 #[ptr B, .int .u8 1, .string dash] w fun e w' => ∃ rb, e = .returned (.tuple #[ptr rb, .int .i64 0]) ∧ RdS w0 w' ⟨B, 1, dash, s, noText, false, G⟩ rb 0 false [] := by
  have hd : Small dash := by unfold Small; decide
  have HH := Lib.hid (⟨h, hn, hg⟩ : _ ∧ _ ∧ _)
  clear h hn hg
  go_enter Tryd.func11, Tryd.ntmps11
  go_upto_region 7 with (go_at_call 37; refine (HH.out.1.call (R := fun e st2 => e = .returned (.int .i64 (openE st 1 dash)) ∧ st2 = openS st 1 dash) fun _ _ _ _ _ _ _ _ q => (open_ q (by decide) hd hm hs ht).mono fun e w2 ⟨he, hg⟩ => ⟨_, ⟨he, rfl⟩, hg⟩).mono ?_; rintro e w3 ⟨st2, ⟨rfl, rfl⟩, hr3, hk3⟩; rw [HH.out.2.1]; have H3 := Lib.hid hr3; clear hr3 hk3)
  obtain ⟨w4, hW⟩ : ∃ w4, w4 = w3.alloc (.cells #[.pointer none, ptr B, .int .u8 1, .string dash, .string ⟨#[]⟩, .bool false, .bool false] 74) := ⟨_, rfl⟩
  have hb4 : Below w3.heap.size w3 w4 := by rw [hW]; exact (Below.refl _ w3).alloc (Nat.le_refl _) _
  have r4 : w4.heap[w3.heap.size]? = some (.cells #[.pointer none, ptr B, .int .u8 1, .string dash, .string ⟨#[]⟩, .bool false, .bool false] 74) := by rw [hW]; exact alloc_new _ _
  have hm4 := H3.out.more hb4 (nb := [w3.heap.size]) (by intro k hk; simp at hk; rw [hk, hW, alloc_size]; omega)
  have q0 : w4.cell? ⟨w3.heap.size, 0, none⟩ = some (.pointer none) := cell_of r4 0
  have z0 : w4.frozen? ⟨w3.heap.size, 0, none⟩ = false := frozen_of r4 0
  rw [← hW]
  clear hW hb4
  generalize w3.heap.size = rb at *
  go_wp2_with fail
  refine bodyPost_ret (v := .tuple #[ptr rb, .int .i64 0]) (by simp [results, Tryd.results11, go_sem]) rfl ?_
  refine ⟨rb, rfl, ⟨openS st 1 dash, hm4.1.turn ((Turn.of_set w4 ⟨rb, 0, none⟩ _).mono fun k hk => by rw [hk]; simp), HH.out.2.2⟩, ?_, ?_, fun e => (by cases e), (by simp)⟩
  · rw [blk_set r4]; rfl
  · show noText = s.extract 0 0
    refine (ByteArray.ext (Array.eq_empty_of_size_eq_zero ?_)).symm
    show (s.extract 0 0).size = 0
    rw [ByteArray.size_extract]; omega
theorem filesTo_nil (st : St) : filesTo st [] = st := rfl
set_option maxHeartbeats 1000000 in
set_option maxRecDepth 100000 in
theorem ofS {w : World} (s : ByteArray) :
    Calls Tryd.prog 24 #[.string s] w fun e w' => ∃ B rb, e = .returned (.tuple #[ptr B, ptr rb]) ∧ RdS w w' ⟨B, 1, dash, s, noText, false, Std s⟩ rb 0 false [] := by
  go_enter Tryd.func24, Tryd.ntmps24
  have hg : openS (st0 s 4 0 0) 1 dash = { st0 s 4 0 0 with streams := [⟨1, dash, .stdin⟩], trace := [⟨1, 1, dash, noText, 0⟩] } := by
    unfold openS
    rw [if_pos (by unfold openNew; refine ⟨by decide, (show placeL 1 dash [] < 0 by decide), (show ((([] : List Strm).length : Nat) : Int) < 4 by decide), rfl, fun e => e.2.1 rfl⟩)]
    rfl
  have HG := Lib.hid hg
  clear hg
  go_wp2_with (first
    | (go_at_call 11; refine (newR (st := st0 s 4 0 0) H2.out (by rfl) (Nat.zero_le _) (Nat.zero_le _) (Nat.zero_le _) s (Std s) (by rw [HG.out]; exact ⟨by show s = s.extract 0 s.size; exact ByteArray.extract_zero_size.symm, Nat.zero_le _, rfl, rfl⟩)).mono ?_; rintro e w3 ⟨rb, rfl, hr3⟩; have H3 := Lib.hid hr3; clear hr3)
    | (go_at_call 10; refine (new_ (L := []) (oa := none) (nf := 0) (cf := 0) (stdin := s) (most := 4) (clk := 0) (ch := 0) (by decide) (fun i p hp => by simp at hp) rfl (by decide) (by simp) List.Pairwise.nil).mono ?_; rintro e w2 ⟨B, T, rfl, ⟨fm, rm, xm, D, vs, vt, ps, hw2⟩, hT2, hb2⟩; have H2 := Lib.hid (show Rp w w2 B (st0 s 4 0 0) [] from ⟨fm, rm, xm, D, vs, vt, ps, T, hw2, hT2, hb2, fun b hb => by simp at hb⟩); clear hw2 hT2 hb2))
  refine bodyPost_ret (v := .tuple #[ptr B, ptr rb]) (by simp [results, Tryd.results24, go_sem]) rfl ?_
  exact ⟨B, rb, rfl, H3.out⟩
end Go.Proofs.YtahblmcjocepeaaDoor.Rd
