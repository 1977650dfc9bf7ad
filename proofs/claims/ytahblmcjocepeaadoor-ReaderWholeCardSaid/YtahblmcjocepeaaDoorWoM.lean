/-
  Package world: a stream taken out (slices.Delete).
-/
import Derived.Test.YtahblmcjocepeaaDoorWoL
namespace Go.Proofs.YtahblmcjocepeaaDoor.Wo
open Go.RowKit Go.Maps

theorem step_append_in {P : Program} {ops : Array Oper} {o : Oper} {a : Act} {w : World} {K : Act → World → Prop} {Q : Exit → Act → World → Prop} {E : Prop} (hgd : o.guard = none) (s x : Operand) (t : TypeId) (hop : o.op = Op.call { callee := Callee.builtin Builtin.append, args := #[s, x], argTypes := #[t, t] })
    (e : TypeId) (i : TypeInfo) (size : Nat) (h1 : P.underlying t = some (.slice e)) (h2 : P.info? e = some i) (h4 : i.size = size) (g n cap : Nat) (cur : Array Value) (hg : w.heap[g]? = some (.cells cur e (0, 0))) (hs : a.eval s = .slice (some ⟨g, 0, none⟩) n cap)
    (ad : Addr) (m c : Nat) (news : List Value) (hx : a.eval x = .slice (some ad) m c) (hn : news.length = m * size) (hc : ∀ j u, news[j]? = some u → w.cell? (ad.add j) = some u) (h1c : ∀ u ∈ news, u.oneCell' = true) (hroom : n + m ≤ cap) (hfit : n * size + news.length ≤ cur.size)
    (hK : K (a.put o.dst (.slice (some ⟨g, 0, none⟩) (n + m) cap)) (w.setRow g (cur.toList.take (n * size) ++ news ++ cur.toList.drop (n * size + news.length)).toArray)) :
    if Region.wanted o (yielded ops a.tmps) = true then Oper.wp P o a w K Q else E := by
  have hw : Region.wanted o (yielded ops a.tmps) = true := by simp [Region.wanted, hgd]
  rw [if_pos hw]
  subst h4
  have hrun := run_append_room (P := P) w t o.type e i h1 h2 g n cap cur hg ad m c news hn hc h1c hroom hfit
  unfold Oper.wp
  simp [execOp, hop, resolve, invoke, builtin, hs, hx, hrun, Result.andThen]
  rw [Oper.upon_value]
  simpa using hK

theorem run_clear_row (W : World) (g o c : Nat) (cur : Array Value) {i0 : TypeInfo} {z0 : Value} (hi0 : Tryd.prog.info? 115 = some i0) (hz0 : i0.zero = some z0) (hzs : z0.cells.size = 3) (h1 : ∀ u ∈ (Builtin.zeroCells z0.cells 1).toList, u.oneCell' = true) (hg : W.heap[g]? = some (.cells cur 115 (0, 0))) (hfit : o + 3 ≤ cur.size) :
    ∃ Z : List Value, Z.length = 3 ∧ (Builtin.clear_ #[102] 0 #[.slice (some ⟨g, o, none⟩) 1 c]).run Tryd.prog W = .ok (.tuple #[]) (W.setRow g (cur.toList.take o ++ Z ++ cur.toList.drop (o + 3)).toArray) := by
  have hv : ∀ w, (zeroValue 115).run Tryd.prog w = .ok z0 w := fun w => by simp [zeroValue, typeInfo, hi0, hz0]
  have hl : (Builtin.zeroCells z0.cells 1).toList.length = 3 := by simp [size_zeroCells, hzs]
  have hst := run_storeCells_at Tryd.prog g o 115 (Builtin.zeroCells z0.cells 1).toList 0 cur W hg (by rw [hl]; simpa using hfit) h1
  rw [hl] at hst
  simp only [Nat.add_zero] at hst
  refine ⟨_, hl, ?_⟩
  simp [Builtin.clear_, run_underlying Tryd.underlying102, hv, hst]
theorem zero_one {i0 : TypeInfo} {z0 : Value} (hi0 : Tryd.prog.info? 115 = some i0) (hz0 : i0.zero = some z0) : ∀ u ∈ (Builtin.zeroCells z0.cells 1).toList, u.oneCell' = true := by
  have h : (Tryd.prog.info? 115).map (fun i => i.zero.map fun z => (Builtin.zeroCells z.cells 1).toList.all (·.oneCell')) = some (some true) := by kernel_rfl
  rw [hi0, Option.map_some, hz0, Option.map_some] at h
  simp only [Option.some.injEq, List.all_eq_true] at h
  exact h
theorem row_out {cur A Bv : Array Value} {xs Z : List Value} {L i c : Nat} (hxl : xs.length = L * 3) (_hcs : cur.size = c * 3) (htake : cur.toList.take (L * 3) = xs) (hi : i < L) (hLc : L ≤ c) (hZ : Z.length = 3) {R : List Value} (hA : A = (cur.toList.take (i * 3) ++ (xs.drop ((i + 1) * 3) ++ R)).toArray) (hR : R.length = c * 3 - (L - 1) * 3)
    (hB : Bv = (A.toList.take ((L - 1) * 3) ++ Z ++ A.toList.drop ((L - 1) * 3 + 3)).toArray) : A.size = c * 3 ∧ Bv.size = c * 3 ∧ Bv.toList.take ((L - 1) * 3) = xs.take (i * 3) ++ xs.drop (i * 3 + 3) := by
  have e1 : cur.toList.take (i * 3) = xs.take (i * 3) := by rw [← htake, List.take_take, Nat.min_eq_left (by omega)]
  have l1 : (xs.take (i * 3) ++ xs.drop ((i + 1) * 3)).length = (L - 1) * 3 := by rw [List.length_append, List.length_take, List.length_drop]; omega
  have hAl : A.toList = (xs.take (i * 3) ++ xs.drop ((i + 1) * 3)) ++ R := by rw [hA, e1]; simp
  have hAs : A.toList.length = c * 3 := by rw [hAl, List.length_append, l1, hR]; omega
  have hAt : A.toList.take ((L - 1) * 3) = xs.take (i * 3) ++ xs.drop ((i + 1) * 3) := by rw [hAl, ← l1, List.take_left]
  refine ⟨by rw [← hAs]; simp, ?_, ?_⟩
  · rw [hB]
    simp only [List.size_toArray, List.length_append, List.length_take, List.length_drop, hZ]
    rw [hAs]; omega
  · rw [hB]
    show ((A.toList.take ((L - 1) * 3) ++ Z) ++ A.toList.drop ((L - 1) * 3 + 3)).take ((L - 1) * 3) = _
    rw [hAt, List.append_assoc, ← l1, List.take_left, show i * 3 + 3 = (i + 1) * 3 by omega]

theorem sizeA {cur A : Array Value} {xs : List Value} {L i c : Nat} (hxl : xs.length = L * 3) (hcs : cur.size = c * 3) (htake : cur.toList.take (L * 3) = xs) (hi : i < L) (hLc : L ≤ c) {R : List Value} (hA : A = (cur.toList.take (i * 3) ++ (xs.drop ((i + 1) * 3) ++ R)).toArray) (hR : R.length = c * 3 - (L - 1) * 3) : A.size = c * 3 :=
  (row_out (Z := [default, default, default]) hxl hcs htake hi hLc rfl hA hR rfl).1
theorem delete_end {w : World} {g c L i : Nat} {cur A Bv : Array Value} {xs Z R : List Value} (hg : w.heap[g]? = some (.cells cur 115 (0, 0))) (hxl : xs.length = L * 3) (hcs : cur.size = c * 3) (htake : cur.toList.take (L * 3) = xs) (hi : i < L) (hLc : L ≤ c) (hcm : c ≤ maxLen) (hZ : Z.length = 3) (hA : A = (cur.toList.take (i * 3) ++ (xs.drop ((i + 1) * 3) ++ R)).toArray) (hR : R.length = c * 3 - (L - 1) * 3)
    (hB : Bv = (A.toList.take ((L - 1) * 3) ++ Z ++ A.toList.drop ((L - 1) * 3 + 3)).toArray) :
    ((w.drew.setRow g A).setRow g Bv).ownsRow 0 115 3 (.slice (some ⟨g, 0, none⟩) (L - 1) c) (L - 1) (xs.take (i * 3) ++ xs.drop (i * 3 + 3)) ∧ w.grownBy ((w.drew.setRow g A).setRow g Bv) (some g) := by
  obtain ⟨q1, q2, q3⟩ := row_out hxl hcs htake hi hLc hZ hA hR hB
  refine ⟨⟨?_, .inr ⟨g, c, Bv, rfl, Nat.zero_le _, setRow_heap _ g A Bv _ _ (setRow_heap w.drew g cur A _ _ hg), by omega, hcm, q2, q3⟩⟩, ⟨rfl, rfl, rfl, by simp, fun k _ hk => ?_⟩⟩
  · rw [List.length_append, List.length_take, List.length_drop]; omega
  · have hne : k ≠ g := fun e => hk (by rw [e])
    rw [setRow_other _ _ _ _ hne, setRow_other _ _ _ _ hne]
    rfl

theorem add_flat (g o j : Nat) : (⟨g, o, none⟩ : Addr).add j = ⟨g, o + j, none⟩ := by unfold Addr.add; split <;> simp_all

set_option maxRecDepth 100000 in
theorem delete_ {w : World} {g c L i : Nat} {xs : List Value} (h : w.ownsRow 0 115 3 (.slice (some ⟨g, 0, none⟩) L c) L xs) (h1c : ∀ u ∈ xs, u.oneCell' = true) (hi : i < L) (hL : L ≤ 1000000) :
    Calls Tryd.prog 42 #[.slice (some ⟨g, 0, none⟩) L c, .int .i64 i, .int .i64 ((i : Int) + 1)] w fun e w' => e = .returned (.slice (some ⟨g, 0, none⟩) (L - 1) c) ∧
      w'.ownsRow 0 115 3 (.slice (some ⟨g, 0, none⟩) (L - 1) c) (L - 1) (xs.take (i * 3) ++ xs.drop (i * 3 + 3)) ∧ w.grownBy w' (some g) := by
  obtain ⟨i0, z0, hi0, hz0, hsz, hby, hzs⟩ := strm_info
  have hxl := h.1
  obtain ⟨cur, hg, hLc, hcm, hcs, htake⟩ : ∃ cur, w.heap[g]? = some (.cells cur 115 (0, 0)) ∧ L ≤ c ∧ c ≤ maxLen ∧ cur.size = c * 3 ∧ cur.toList.take (L * 3) = xs := by
    rcases h.2 with ⟨h1, _⟩ | ⟨g2, c2, cur, h1, _, h3, h4, h5, h6, h7⟩
    · cases h1
    · cases h1; exact ⟨cur, h3, h4, h5, h6, h7⟩
  have hcells := h.cells (g := g) rfl
  have a1 : (i : Int) ≤ (L : Int) := by omega
  have a2 : (i : Int) + 1 ≤ (L : Int) := by omega
  have a3 : (i : Int) ≤ (i : Int) + 1 := by omega
  have a4 : (L : Int) ≤ (c : Int) := by omega
  have a5 : (i : Int) ≤ (c : Int) := by omega
  have a8 : (0 : Int) ≤ (i : Int) + 1 := by omega
  have a9 : ((i : Int) + 1).toNat = i + 1 := by omega
  have a6 : ¬ (i : Int) = (i : Int) + 1 := by omega
  have HH := Lib.hid (⟨hxl, hcs, htake, hcells⟩ : _ ∧ _ ∧ _ ∧ _)
  clear h htake hcells
  by_cases hce : c = i + 1
  · obtain rfl : L = i + 1 := by omega
    subst hce
    go_enter Tryd.func42, Tryd.ntmps42
    go_wp2_with fail
    go_region_law (refine step_append_in rfl (.tmp 22) (.tmp 25) 102 rfl 115 i0 3 Tryd.underlying102 hi0 hsz g i (i + 1) cur hg (by simp [Act.eval, Act.put]) ⟨g, 0, none⟩ 0 0 [] (by simp [Act.eval, Act.put]) rfl (fun j u hj => by cases hj) (fun u hu => by cases hu) (by omega) (by rw [HH.out.2.1]; simp; omega) ?_)
    all_goals go_wp2_with fail
    all_goals
      obtain ⟨Z, hZ, hcl⟩ := run_clear_row (w.drew.setRow g cur) g (i * 3) 1 cur hi0 hz0 hzs (zero_one hi0 hz0) (setRow_heap w.drew g cur cur _ _ hg) (by rw [HH.out.2.1]; omega)
      obtain ⟨Bv, hB⟩ : ∃ Bv, Bv = (cur.toList.take (i * 3) ++ Z ++ cur.toList.drop (i * 3 + 3)).toArray := ⟨_, rfl⟩
      rw [hcl, ← hB]
      have HB := Lib.hid hB
      clear hB hcl
      simp only [Result.andThen]
      rw [Oper.upon_value]
      go_wp2_with fail
      go_ret
      have hd : xs.drop ((i + 1) * 3) = [] := List.drop_eq_nil_of_le (by rw [HH.out.1]; exact Nat.le_refl _)
      obtain ⟨q1, q2⟩ := delete_end (R := cur.toList.drop (i * 3)) hg HH.out.1 HH.out.2.1 HH.out.2.2.1 hi (Nat.le_refl _) hcm hZ (A := cur) (by rw [hd, List.nil_append, List.take_append_drop]) (by rw [List.length_drop, Array.length_toList, HH.out.2.1, Nat.add_sub_cancel]) HB.out
      exact ⟨rfl, q1, q2⟩
  · have a7 : ¬ c = i + 1 := hce
    have hnl : (xs.drop ((i + 1) * 3)).length = (L - (i + 1)) * 3 := by rw [List.length_drop, HH.out.1]; omega
    have hnc : ∀ j u, (xs.drop ((i + 1) * 3))[j]? = some u → w.drew.cell? ((⟨g, (i + 1) * 3, none⟩ : Addr).add j) = some u := fun j u hj => by
      rw [List.getElem?_drop] at hj
      have := HH.out.2.2.2 _ u hj
      rw [add_flat] at this ⊢
      rw [Nat.zero_add] at this
      exact this
    have hn1 : ∀ u ∈ xs.drop ((i + 1) * 3), u.oneCell' = true := fun u hu => h1c u (List.mem_of_mem_drop hu)
    have hfit : i * 3 + (xs.drop ((i + 1) * 3)).length ≤ cur.size := by rw [hnl, HH.out.2.1]; omega
    have HN := Lib.hid (⟨hnl, hnc, hn1, hfit⟩ : _ ∧ _ ∧ _ ∧ _)
    clear hnl hnc hn1 hfit
    go_enter Tryd.func42, Tryd.ntmps42
    go_wp2_with fail
    go_region_law (refine step_append_in rfl (.tmp 22) (.tmp 25) 102 rfl 115 i0 3 Tryd.underlying102 hi0 hsz g i c cur hg (by simp [Act.eval, Act.put]) ⟨g, (i + 1) * 3, none⟩ (L - (i + 1)) (c - (i + 1)) (xs.drop ((i + 1) * 3)) (by simp [Act.eval, Act.put]) HN.out.1 HN.out.2.1 HN.out.2.2.1 (by omega) HN.out.2.2.2 ?_)
    all_goals go_wp2_with fail
    all_goals
      have f1 : i + (L - (i + 1)) = L - 1 := by omega
      have f2 : L - (L - 1) = 1 := by omega
      obtain ⟨A, hA⟩ : ∃ A, A = (List.take (i * 3) cur.toList ++ (List.drop ((i + 1) * 3) xs ++ List.drop (i * 3 + (L * 3 - (i + 1) * 3)) cur.toList)).toArray := ⟨_, rfl⟩
      have hR : (List.drop (i * 3 + (L * 3 - (i + 1) * 3)) cur.toList).length = c * 3 - (L - 1) * 3 := by rw [List.length_drop, Array.length_toList, HH.out.2.1]; omega
      rw [← hA, f1, f2]
      have HA := Lib.hid (⟨hA, hR⟩ : _ ∧ _)
      clear hA hR
      obtain ⟨Z, hZ, hcl⟩ := run_clear_row (w.drew.setRow g A) g ((L - 1) * 3) (c - (L - 1)) A hi0 hz0 hzs (zero_one hi0 hz0) (setRow_heap w.drew g cur A _ _ hg) (by rw [(sizeA HH.out.1 HH.out.2.1 HH.out.2.2.1 hi hLc HA.out.1 HA.out.2)]; omega)
      obtain ⟨Bv, hB⟩ : ∃ Bv, Bv = (A.toList.take ((L - 1) * 3) ++ Z ++ A.toList.drop ((L - 1) * 3 + 3)).toArray := ⟨_, rfl⟩
      rw [hcl, ← hB]
      have HB := Lib.hid hB
      clear hB hcl
      simp only [Result.andThen]
      rw [Oper.upon_value]
      go_wp2_with fail
      go_ret
      obtain ⟨q1, q2⟩ := delete_end hg HH.out.1 HH.out.2.1 HH.out.2.2.1 hi hLc hcm hZ HA.out.1 HA.out.2 HB.out
      exact ⟨rfl, q1, q2⟩
end Go.Proofs.YtahblmcjocepeaaDoor.Wo
