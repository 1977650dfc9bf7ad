/-
  The document's world: what is looked for: Find, File, Reply, Fails.
-/
import Derived.Test.YthbkcdbmimhhkaaRwA
namespace Go.Proofs.Ythbkcdbmimhhkaa.Rw
open Go.RowKit Go.Maps Wo

section
variable {w : World} {S : Scpt} {r : RSt} {s : Shp}

set_option maxRecDepth 100000 in
theorem findRef (h : RefAt w S r s) (k : Int) (n : ByteArray) (hz : r.opn.length ≤ 1000000) :
    Calls Try.prog 15 #[.agg (s.cells S r), .int .u8 k, .string n] w fun e w' => e = .returned (.int .i64 (rplace k n r.opn)) ∧ Below w.heap.size w w' := by
  obtain ⟨oa, ca, oR, cR, oX, cX, oF, cF, oO, cO, oE, cE⟩ := s
  have HH := Lib.hid h.ro
  clear h
  go_enter Try.func15, Try.ntmps15
  go_upto_region 1 with fail
  obtain ⟨wA, hA⟩ : ∃ wA, wA = w.alloc (.cells #[.slice oa S.files.length ca, .string S.stdin, .slice oR S.reps.length cR, .slice oX S.fails.length cX, .int .i64 S.most, .int .i64 S.clk, .int .u64 S.chance, .slice oF r.files.length cF, .int .i64 (r.taken : Int), .slice oO r.opn.length cO, .int .u64 r.number, .slice oE r.events.length cE] 38) := ⟨_, rfl⟩
  have hbA : Below w.heap.size w wA := by rw [hA]; exact (Below.refl _ w).alloc (Nat.le_refl _) _
  have c9 : wA.cell? ⟨w.heap.size, 9, none⟩ = some (.slice oO r.opn.length cO) := by rw [hA]; exact box_cell 9
  rw [← hA]
  have HB := Lib.hid (⟨hbA, HH.out.below hbA⟩ : _ ∧ _)
  clear hbA hA
  go_wp2_with fail
  go_loopg [7] r.opn.length (fun q i wr => ∃ j, r.opn.length - j = q ∧ j ≤ r.opn.length ∧ i = .int .i64 (j : Int) ∧ (∀ i t, i < j → (r.opn.map RStrm.strm)[i]? = some t → isIt k n t = false) ∧ wr = wA)
  case atStart => exact ⟨0, rfl, Nat.zero_le _, rfl, fun i t hi => by omega, rfl⟩
  case round =>
    obtain ⟨j, hq, hj, rfl, hno, rfl⟩ := hrel
    have HN := Lib.hid hno
    clear hno
    by_cases hlt : j < r.opn.length
    · have hlt' : (j : Int) < (r.opn.length : Int) := by omega
      obtain ⟨p, hp⟩ : ∃ p, r.opn[j]? = some p := ⟨_, List.getElem?_eq_getElem hlt⟩
      obtain ⟨g, rfl, hc⟩ := HB.out.2.at lenS hp
      have d0 : wr.cell? ⟨g, j * 4, none⟩ = some (.int .u8 p.kind) := hc 0 (by decide)
      have d1 : wr.cell? ⟨g, j * 4 + 1, none⟩ = some (.string p.name) := hc 1 (by decide)
      have hpm : (r.opn.map RStrm.strm)[j]? = some p.strm := by rw [List.getElem?_map, hp]; rfl
      have HP := Lib.hid hpm
      clear hp hc hpm
      by_cases hk : p.kind = k
      · by_cases hps : p.name = n
        · have hi := (placeL_not k n j (r.opn.map RStrm.strm) HN.out).2 _ HP.out (isIt_iff.2 ⟨hk, hps⟩)
          have HS := Lib.hid hi
          have hb : (p.name.toList == n.toList) = true := by rw [hps]; simp
          clear hps hi
          go_wp2_with fail
          go_ret
          exact ⟨by unfold rplace; rw [HS.out]; rfl, HB.out.1⟩
        · have HS := Lib.hid hps
          have hb : (p.name.toList == n.toList) = false := toList_ne hps
          clear hps
          go_wp2_with fail
          go_roundg (r.opn.length - (j + 1))
          case measure => omega
          case rel =>
            refine ⟨j + 1, rfl, hlt, by go_num, fun i t hi ht => ?_, rfl⟩
            by_cases e : i = j
            · subst e
              rw [HP.out] at ht
              cases ht
              rw [Bool.eq_false_iff]
              exact fun h => HS.out (isIt_iff.1 h).2
            · exact HN.out i t (by omega) ht
      · have HS := Lib.hid hk
        have hb : (p.kind == k) = false := beq_eq_false_iff_ne.2 hk
        clear hk
        go_wp2_with fail
        go_roundg (r.opn.length - (j + 1))
        case measure => omega
        case rel =>
          refine ⟨j + 1, rfl, hlt, by go_num, fun i t hi ht => ?_, rfl⟩
          by_cases e : i = j
          · subst e
            rw [HP.out] at ht
            cases ht
            rw [Bool.eq_false_iff]
            exact fun h => HS.out (isIt_iff.1 h).1
          · exact HN.out i t (by omega) ht
    · obtain rfl : j = r.opn.length := by omega
      have hge : ¬ (r.opn.length : Int) < (r.opn.length : Int) := by omega
      have hi := (placeL_not k n r.opn.length (r.opn.map RStrm.strm) HN.out).1 (by simp)
      have HS := Lib.hid hi
      clear hi
      go_wp2_with fail
      go_ret
      exact ⟨by unfold rplace; rw [HS.out]; rfl, HB.out.1⟩

def fileA (o : Option FileD) : Value := .tuple #[.string (match o with | some p => p.2 | none => noText), .bool o.isSome]
set_option maxRecDepth 100000 in
theorem fileRef (h : RefAt w S r s) (n : ByteArray) (hz : r.files.length ≤ 1000000) :
    Calls Try.prog 17 #[.agg (s.cells S r), .string n] w fun e w' => e = .returned (fileA (lookF n r.files)) ∧ Below w.heap.size w w' := by
  obtain ⟨oa, ca, oR, cR, oX, cX, oF, cF, oO, cO, oE, cE⟩ := s
  have HH := Lib.hid h.rf
  clear h
  go_enter Try.func17, Try.ntmps17
  go_upto_region 1 with fail
  obtain ⟨wA, hA⟩ : ∃ wA, wA = w.alloc (.cells #[.slice oa S.files.length ca, .string S.stdin, .slice oR S.reps.length cR, .slice oX S.fails.length cX, .int .i64 S.most, .int .i64 S.clk, .int .u64 S.chance, .slice oF r.files.length cF, .int .i64 (r.taken : Int), .slice oO r.opn.length cO, .int .u64 r.number, .slice oE r.events.length cE] 38) := ⟨_, rfl⟩
  have hbA : Below w.heap.size w wA := by rw [hA]; exact (Below.refl _ w).alloc (Nat.le_refl _) _
  have c7 : wA.cell? ⟨w.heap.size, 7, none⟩ = some (.slice oF r.files.length cF) := by rw [hA]; exact box_cell 7
  rw [← hA]
  have HB := Lib.hid (⟨hbA, HH.out.below hbA⟩ : _ ∧ _)
  clear hbA hA
  go_wp2_with fail
  go_loopg [6] r.files.length (fun q i wr => ∃ j, r.files.length - j = q ∧ j ≤ r.files.length ∧ i = .int .i64 (j : Int) ∧ (∀ i (t : FileD), i < j → r.files[i]? = some t → decide (t.1 = n) = false) ∧ wr = wA)
  case atStart => exact ⟨0, rfl, Nat.zero_le _, rfl, fun i t hi => by omega, rfl⟩
  case round =>
    obtain ⟨j, hq, hj, rfl, hno, rfl⟩ := hrel
    have hf := find_at (fun p : FileD => decide (p.1 = n)) r.files j hno
    have HN := Lib.hid (⟨hno, hf⟩ : _ ∧ _)
    clear hno hf
    by_cases hlt : j < r.files.length
    · have hlt' : (j : Int) < (r.files.length : Int) := by omega
      obtain ⟨p, hp⟩ : ∃ p, r.files[j]? = some p := ⟨_, List.getElem?_eq_getElem hlt⟩
      obtain ⟨g, rfl, hc⟩ := HB.out.2.at lenF hp
      have d0 : wr.cell? ⟨g, j * 2, none⟩ = some (.string p.1) := hc 0 (by decide)
      have d1 : wr.cell? ⟨g, j * 2 + 1, none⟩ = some (.string p.2) := hc 1 (by decide)
      have HP := Lib.hid hp
      clear hp hc
      by_cases hps : p.1 = n
      · have hi := HN.out.2.1 p HP.out (decide_eq_true hps)
        have HS := Lib.hid hi
        have hb : (p.1.toList == n.toList) = true := by rw [hps]; simp
        clear hps hi
        go_wp2_with fail
        go_ret2
        exact ⟨by unfold lookF; rw [HS.out]; rfl, HB.out.1⟩
      · have HS := Lib.hid hps
        have hb : (p.1.toList == n.toList) = false := toList_ne hps
        clear hps
        go_wp2_with fail
        go_roundg (r.files.length - (j + 1))
        case measure => omega
        case rel =>
          refine ⟨j + 1, rfl, hlt, by go_num, fun i t hi ht => ?_, rfl⟩
          by_cases e : i = j
          · subst e
            rw [HP.out] at ht
            cases ht
            exact decide_eq_false HS.out
          · exact HN.out.1 i t (by omega) ht
    · obtain rfl : j = r.files.length := by omega
      have hge : ¬ (r.files.length : Int) < (r.files.length : Int) := by omega
      have HS := Lib.hid (HN.out.2.2 (Nat.le_refl _))
      go_wp2_with fail
      go_ret2
      exact ⟨by unfold lookF; rw [HS.out]; rfl, HB.out.1⟩

set_option maxRecDepth 100000 in
theorem failsRef (h : RefAt w S r s) (op : Int) (n : ByteArray) (hz : S.fails.length ≤ 1000000) :
    Calls Try.prog 49 #[.agg (s.cells S r), .int .u8 op, .string n] w fun e w' => e = .returned (.bool (lookX op n S.fails).isSome) ∧ Below w.heap.size w w' := by
  obtain ⟨oa, ca, oR, cR, oX, cX, oF, cF, oO, cO, oE, cE⟩ := s
  have HH := Lib.hid h.rx
  clear h
  go_enter Try.func49, Try.ntmps49
  go_upto_region 1 with fail
  obtain ⟨wA, hA⟩ : ∃ wA, wA = w.alloc (.cells #[.slice oa S.files.length ca, .string S.stdin, .slice oR S.reps.length cR, .slice oX S.fails.length cX, .int .i64 S.most, .int .i64 S.clk, .int .u64 S.chance, .slice oF r.files.length cF, .int .i64 (r.taken : Int), .slice oO r.opn.length cO, .int .u64 r.number, .slice oE r.events.length cE] 38) := ⟨_, rfl⟩
  have hbA : Below w.heap.size w wA := by rw [hA]; exact (Below.refl _ w).alloc (Nat.le_refl _) _
  have c3 : wA.cell? ⟨w.heap.size, 3, none⟩ = some (.slice oX S.fails.length cX) := by rw [hA]; exact box_cell 3
  rw [← hA]
  have HB := Lib.hid (⟨hbA, HH.out.below hbA⟩ : _ ∧ _)
  clear hbA hA
  go_wp2_with fail
  go_loopg [7] S.fails.length (fun q i wr => ∃ j, S.fails.length - j = q ∧ j ≤ S.fails.length ∧ i = .int .i64 (j : Int) ∧ (∀ i (t : FailD), i < j → S.fails[i]? = some t → (decide (t.op = op) && decide (t.name = n)) = false) ∧ wr = wA)
  case atStart => exact ⟨0, rfl, Nat.zero_le _, rfl, fun i t hi => by omega, rfl⟩
  case round =>
    obtain ⟨j, hq, hj, rfl, hno, rfl⟩ := hrel
    have hf := find_at (fun p : FailD => decide (p.op = op) && decide (p.name = n)) S.fails j hno
    have HN := Lib.hid (⟨hno, hf⟩ : _ ∧ _)
    clear hno hf
    by_cases hlt : j < S.fails.length
    · have hlt' : (j : Int) < (S.fails.length : Int) := by omega
      obtain ⟨p, hp⟩ : ∃ p, S.fails[j]? = some p := ⟨_, List.getElem?_eq_getElem hlt⟩
      obtain ⟨g, o, rfl, d0, d1⟩ := HB.out.2 j p hp
      have HP := Lib.hid hp
      clear hp
      by_cases hk : p.op = op
      · by_cases hps : p.name = n
        · have hi := HN.out.2.1 p HP.out (by rw [decide_eq_true hk, decide_eq_true hps]; rfl)
          have HS := Lib.hid hi
          have hb : (p.name.toList == n.toList) = true := by rw [hps]; simp
          clear hps hi
          go_wp2_with fail
          go_ret
          exact ⟨by unfold lookX; rw [HS.out]; rfl, HB.out.1⟩
        · have HS := Lib.hid hps
          have hb : (p.name.toList == n.toList) = false := toList_ne hps
          clear hps
          go_wp2_with fail
          go_roundg (S.fails.length - (j + 1))
          case measure => omega
          case rel =>
            refine ⟨j + 1, rfl, hlt, by go_num, fun i t hi ht => ?_, rfl⟩
            by_cases e : i = j
            · subst e
              rw [HP.out] at ht
              cases ht
              rw [decide_eq_false HS.out, Bool.and_false]
            · exact HN.out.1 i t (by omega) ht
      · have HS := Lib.hid hk
        have hb : (p.op == op) = false := beq_eq_false_iff_ne.2 hk
        clear hk
        go_wp2_with fail
        go_roundg (S.fails.length - (j + 1))
        case measure => omega
        case rel =>
          refine ⟨j + 1, rfl, hlt, by go_num, fun i t hi ht => ?_, rfl⟩
          by_cases e : i = j
          · subst e
            rw [HP.out] at ht
            cases ht
            rw [decide_eq_false HS.out, Bool.false_and]
          · exact HN.out.1 i t (by omega) ht
    · obtain rfl : j = S.fails.length := by omega
      have hge : ¬ (S.fails.length : Int) < (S.fails.length : Int) := by omega
      have HS := Lib.hid (HN.out.2.2 (Nat.le_refl _))
      go_wp2_with fail
      go_ret
      exact ⟨by unfold lookX; rw [HS.out]; rfl, HB.out.1⟩

def replyA (o : Option RepD) : Value := .tuple #[.agg (match o with | some p => #[.string p.cmd, .string p.out, .int .i64 p.status] | none => #[.string noText, .string noText, .int .i64 0]), .bool o.isSome]
set_option maxRecDepth 100000 in
theorem replyRef (h : RefAt w S r s) (n : ByteArray) (hz : S.reps.length ≤ 1000000) :
    Calls Try.prog 50 #[.agg (s.cells S r), .string n] w fun e w' => e = .returned (replyA (lookR n S.reps)) ∧ Below w.heap.size w w' := by
  obtain ⟨oa, ca, oR, cR, oX, cX, oF, cF, oO, cO, oE, cE⟩ := s
  have HH := Lib.hid h.rr
  clear h
  go_enter Try.func50, Try.ntmps50
  go_upto_region 1 with fail
  obtain ⟨wA, hA⟩ : ∃ wA, wA = (w.alloc (.cells #[.slice oa S.files.length ca, .string S.stdin, .slice oR S.reps.length cR, .slice oX S.fails.length cX, .int .i64 S.most, .int .i64 S.clk, .int .u64 S.chance, .slice oF r.files.length cF, .int .i64 (r.taken : Int), .slice oO r.opn.length cO, .int .u64 r.number, .slice oE r.events.length cE] 38)).alloc (.cells #[.string noText, .string noText, .int .i64 0] 74) := ⟨_, rfl⟩
  have hbA : Below w.heap.size w wA := by rw [hA]; exact ((Below.refl _ w).alloc (Nat.le_refl _) _).alloc (by rw [alloc_size]; omega) _
  have hblk : wA.heap[w.heap.size]? = some (.cells #[.slice oa S.files.length ca, .string S.stdin, .slice oR S.reps.length cR, .slice oX S.fails.length cX, .int .i64 S.most, .int .i64 S.clk, .int .u64 S.chance, .slice oF r.files.length cF, .int .i64 (r.taken : Int), .slice oO r.opn.length cO, .int .u64 r.number, .slice oE r.events.length cE] 38) := by
    rw [hA, alloc_old _ _ (by rw [alloc_size]; omega)]; exact alloc_new _ _
  have hblk2 : wA.heap[w.heap.size + 1]? = some (.cells #[.string noText, .string noText, .int .i64 0] 74) := by
    rw [hA, ← alloc_size w]; exact alloc_new _ _
  have c2 : wA.cell? ⟨w.heap.size, 2, none⟩ = some (.slice oR S.reps.length cR) := by simp [World.cell?, hblk]
  have k0 : wA.cell? ⟨w.heap.size + 1, 0, none⟩ = some (.string noText) := by simp [World.cell?, hblk2]
  have k1 : wA.cell? ⟨w.heap.size + 1, 1, none⟩ = some (.string noText) := by simp [World.cell?, hblk2]
  have k2 : wA.cell? ⟨w.heap.size + 1, 2, none⟩ = some (.int .i64 0) := by simp [World.cell?, hblk2]
  have kz : ∀ i, wA.frozen? ⟨w.heap.size + 1, i, none⟩ = false := fun i => by simp [World.frozen?, hblk2]
  rw [← hA]
  have HB := Lib.hid (⟨hbA, HH.out.below hbA⟩ : _ ∧ _)
  have HZ := Lib.hid (⟨hblk2, kz⟩ : _ ∧ _)
  clear hbA hA hblk hblk2 kz
  go_wp2_with fail
  go_loopg [6] S.reps.length (fun q i wr => ∃ j, S.reps.length - j = q ∧ j ≤ S.reps.length ∧ i = .int .i64 (j : Int) ∧ (∀ i (t : RepD), i < j → S.reps[i]? = some t → decide (t.cmd = n) = false) ∧ wr = wA)
  case atStart => exact ⟨0, rfl, Nat.zero_le _, rfl, fun i t hi => by omega, rfl⟩
  case round =>
    obtain ⟨j, hq, hj, rfl, hno, rfl⟩ := hrel
    have hf := find_at (fun p : RepD => decide (p.cmd = n)) S.reps j hno
    have HN := Lib.hid (⟨hno, hf⟩ : _ ∧ _)
    clear hno hf
    have z0 := HZ.out.2 0
    have z1 := HZ.out.2 1
    have z2 := HZ.out.2 2
    by_cases hlt : j < S.reps.length
    · have hlt' : (j : Int) < (S.reps.length : Int) := by omega
      obtain ⟨p, hp⟩ : ∃ p, S.reps[j]? = some p := ⟨_, List.getElem?_eq_getElem hlt⟩
      obtain ⟨g, o, rfl, d0, d1, d2⟩ := HB.out.2 j p hp
      have HP := Lib.hid hp
      clear hp
      by_cases hps : p.cmd = n
      · have hi := HN.out.2.1 p HP.out (decide_eq_true hps)
        have HS := Lib.hid hi
        have hb : (p.cmd.toList == n.toList) = true := by rw [hps]; simp
        clear hps hi
        go_wp2_with fail
        refine bodyPost_ret (v := replyA (some p)) (by simp [results, Try.results50, go_sem, replyA, k0, k1, k2]) rfl ?_
        exact ⟨by unfold lookR; rw [HS.out], below_set (below_set (below_set HB.out.1 (Nat.le_succ _) _ _) (Nat.le_succ _) _ _) (Nat.le_succ _) _ _⟩
      · have HS := Lib.hid hps
        have hb : (p.cmd.toList == n.toList) = false := toList_ne hps
        clear hps
        go_wp2_with fail
        go_roundg (S.reps.length - (j + 1))
        case measure => omega
        case rel =>
          refine ⟨j + 1, rfl, hlt, by go_num, fun i t hi ht => ?_, rfl⟩
          by_cases e : i = j
          · subst e
            rw [HP.out] at ht
            cases ht
            exact decide_eq_false HS.out
          · exact HN.out.1 i t (by omega) ht
    · obtain rfl : j = S.reps.length := by omega
      have hge : ¬ (S.reps.length : Int) < (S.reps.length : Int) := by omega
      have HS := Lib.hid (HN.out.2.2 (Nat.le_refl _))
      go_wp2_with fail
      refine bodyPost_ret (v := replyA none) (by simp [results, Try.results50, go_sem, replyA, k0, k1, k2]) rfl ?_
      exact ⟨by unfold lookR; rw [HS.out], below_set (below_set (below_set HB.out.1 (Nat.le_succ _) _ _) (Nat.le_succ _) _ _) (Nat.le_succ _) _ _⟩
end
end Go.Proofs.Ythbkcdbmimhhkaa.Rw
