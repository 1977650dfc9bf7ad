/-
  The document's own Lower, Upper, Index, Cut (package winnowerref01): they answer what octets' answer.
-/
import Derived.Test.YtghdjhdnohooeaaOctC
import Derived.Laws.BytesArg
namespace Go.Proofs.Ytghdjhdnohooeaa.Oct
open Go.RowKit

def bytesV (l : List UInt8) : List Value := l.map fun b => Value.int .u8 (b.toNat : Int)
def Gathered (l : List UInt8) (w wr : World) (v : Value) : Prop := wr.ownsRow w.heap.size 5 1 v l.length (bytesV l) ∧ Below w.heap.size w wr

theorem gathered_end {l : List UInt8} {w wr : World} {v : Value} (h : Gathered l w wr v) :
    (convert 33 9 v).run Try.prog wr = .ok (.string ⟨l.toArray⟩) wr := by
  obtain ⟨ho, _⟩ := h
  rcases ho.2 with ⟨rfl, hx⟩ | ⟨g, cap, cur, rfl, _⟩
  · obtain rfl : l = [] := by simpa [bytesV] using hx
    rw [run_convert_bytes_nil (P := Try.prog) wr 33 5 Try.underlying33 Try.underlying5 _ _ 9 Try.underlying9]
    rfl
  · exact run_convert_bytes_back (P := Try.prog) wr 33 9 5 ⟨g, 0, none⟩ cap l Try.underlying33 Try.underlying5 Try.underlying9 (fun j hj => by
      have hp : (⟨g, 0, none⟩ : Addr).add j = ⟨g, j, none⟩ := by unfold Addr.add; split <;> simp_all
      rw [hp, ho.cellAt j (by omega)]
      simp [bytesV, hj])
theorem gathered_start (w : World) : Gathered [] w w (.slice none 0 0) := ⟨⟨rfl, .inl ⟨rfl, rfl⟩⟩, Below.refl _ _⟩


/- One byte more behind what was gathered: 'out = append(out, b)'. -/
theorem wpList_push {ops : Array Oper} {rest : List Oper} {o : Oper} {a : Act} {Q : Exit → Act → World → Prop} {w wr : World} (hgd : o.guard = none) (s x : Operand)
    (ho : o.op = .call { callee := .builtin .append, args := #[s, x], argTypes := #[33, 33] }) {l : List UInt8} {v : Value} {y : Int} (b : UInt8) (hs : a.eval s = v) (hG : Gathered l w wr v)
    (hx : a.eval x = .slice (some ⟨wr.heap.size, 0, none⟩) 1 1) (hy : (b.toNat : Int) = y) (hlen : l.length ≤ 10000000)
    (h : ∀ v' w', Gathered (l ++ [b]) w w' v' → wpList Try.prog ops Q rest (a.put o.dst v') w') :
    wpList Try.prog ops Q (o :: rest) a (wr.alloc (.cells #[.int .u8 y] 5)) := by
  obtain ⟨i0, hi, hz0, hz1, hz2⟩ := info_parts Try.info5
  obtain ⟨hown, hb⟩ := hG
  subst hy
  refine wpList_append_own _ hgd s x 33 ho w.heap.size 5 i0 (.int .u8 0) 1 1 Try.underlying33 hi hz0 hz1 hz2 rfl (by decide) v _ _ hs (hown.alloc _) ⟨wr.heap.size, 0, none⟩ 1 1 [.int .u8 (b.toNat : Int)] hx rfl ?c1 ?c2 ?c3 ?c4 ?c5 ?_
  case c1 =>
    intro j u hj
    match j, hj with
    | 0, hj => simp at hj; subst hj; simp [Addr.add]
  case c2 => intro u hu; simp at hu; subst hu; rfl
  case c3 => unfold maxLen; omega
  case c4 => omega
  case c5 => have := hb.size; simp; omega
  intro v' w1 hown' hgrow _
  refine h v' w1 ⟨?_, ?_⟩
  · have e : (l ++ [b]).length = l.length + 1 := by simp
    have e2 : bytesV (l ++ [b]) = bytesV l ++ [.int .u8 (b.toNat : Int)] := by simp [bytesV]
    rw [e, e2]
    exact hown'
  · exact (hb.alloc hb.size _).grown hgrow (by have := hb.size; simp; omega) (fun k hk => (hown.lt k hk).1)

theorem take_map_snoc (g : UInt8 → UInt8) (s : ByteArray) (k : Nat) (h : k < s.size) : (s.data.toList.take (k + 1)).map g = (s.data.toList.take k).map g ++ [g s[k]] := by
  rw [List.take_succ_eq_append_getElem (by simpa using h), List.map_append]; rfl

set_option maxHeartbeats 1600000 in
theorem refLower (s : ByteArray) (w : World) (hs : s.size ≤ 100000) :
    Calls Try.prog 18 #[.string s] w fun e w' => e = .returned (.string (lowB s)) ∧ Below w.heap.size w w' := by
  go_enter Try.func18, Try.ntmps18
  go_wp2_with fail
  go_loopw [3, 4] (fun v i wr => ∃ k : Nat, k ≤ s.size ∧ i = .int .i64 k ∧ Gathered ((s.data.toList.take k).map lowByte) w wr v) (fun _ i _ => s.size - (intOf i).toNat)
  case atStart => exact ⟨0, Nat.zero_le _, rfl, gathered_start w⟩
  case round =>
    obtain ⟨k, hk, rfl, hG⟩ := hrel
    by_cases hlt : k < s.size
    · have HG := Lib.hid hG
      clear hG
      have hlen : ((s.data.toList.take k).map lowByte).length ≤ 10000000 := by have := Lib.size_eq s; simp; omega
      have hL := Lib.hid hlen
      clear hlen
      have hbd := (s[k]).toNat_lt
      have hsn := Lib.hid (take_map_snoc lowByte s k hlt)
      have hlb := Lib.hid (toNat_lowByte s[k])
      by_cases hc : 65 ≤ (s[k].toNat : Int) ∧ (s[k].toNat : Int) ≤ 90
      · have hv := Lib.hid (show lowI s[k].toNat = (s[k].toNat : Int) + 32 by unfold lowI; rw [if_pos hc])
        obtain ⟨c1, c2⟩ := hc
        go_wp2_with (at_builtin; refine wpList_push rfl _ _ rfl (lowByte s[k]) rfl HG.out rfl (hlb.out.trans hv.out) hL.out ?_; intro v' w1 hG1; rw [← hsn.out] at hG1; have HG1 := Lib.hid hG1; clear hG1)
        go_roundw
        case rel => exact ⟨k + 1, by omega, by go_num, HG1.out⟩
        case measure => simp [intOf]; omega
      · have hv := Lib.hid (show lowI s[k].toNat = (s[k].toNat : Int) by unfold lowI; rw [if_neg hc])
        by_cases c1 : 65 ≤ (s[k].toNat : Int)
        · have c2 : 90 < (s[k].toNat : Int) := by omega
          clear hc
          go_wp2_with (at_builtin; refine wpList_push rfl _ _ rfl (lowByte s[k]) rfl HG.out rfl (hlb.out.trans hv.out) hL.out ?_; intro v' w1 hG1; rw [← hsn.out] at hG1; have HG1 := Lib.hid hG1; clear hG1)
          go_roundw
          case rel => exact ⟨k + 1, by omega, by go_num, HG1.out⟩
          case measure => simp [intOf]; omega
        · have c2 : (s[k].toNat : Int) < 65 := by omega
          clear hc c1
          go_wp2_with (at_builtin; refine wpList_push rfl _ _ rfl (lowByte s[k]) rfl HG.out rfl (hlb.out.trans hv.out) hL.out ?_; intro v' w1 hG1; rw [← hsn.out] at hG1; have HG1 := Lib.hid hG1; clear hG1)
          go_roundw
          case rel => exact ⟨k + 1, by omega, by go_num, HG1.out⟩
          case measure => simp [intOf]; omega
    · have hk2 : (s.data.toList.take k).map lowByte = s.data.toList.map lowByte := by
        rw [List.take_of_length_le (by have := Lib.size_eq s; omega)]
      rw [hk2] at hG
      have hb := Lib.hid hG.2
      have hconv := gathered_end hG
      clear hG hk2
      go_wp2_with fail
      go_ret
      exact ⟨rfl, hb.out⟩
set_option maxHeartbeats 1600000 in
theorem refUpper (s : ByteArray) (w : World) (hs : s.size ≤ 100000) :
    Calls Try.prog 20 #[.string s] w fun e w' => e = .returned (.string (upB s)) ∧ Below w.heap.size w w' := by
  go_enter Try.func20, Try.ntmps20
  go_wp2_with fail
  go_loopw [3, 4] (fun v i wr => ∃ k : Nat, k ≤ s.size ∧ i = .int .i64 k ∧ Gathered ((s.data.toList.take k).map upByte) w wr v) (fun _ i _ => s.size - (intOf i).toNat)
  case atStart => exact ⟨0, Nat.zero_le _, rfl, gathered_start w⟩
  case round =>
    obtain ⟨k, hk, rfl, hG⟩ := hrel
    by_cases hlt : k < s.size
    · have HG := Lib.hid hG
      clear hG
      have hlen : ((s.data.toList.take k).map upByte).length ≤ 10000000 := by have := Lib.size_eq s; simp; omega
      have hL := Lib.hid hlen
      clear hlen
      have hbd := (s[k]).toNat_lt
      have hsn := Lib.hid (take_map_snoc upByte s k hlt)
      have hlb := Lib.hid (toNat_upByte s[k])
      by_cases hc : 97 ≤ (s[k].toNat : Int) ∧ (s[k].toNat : Int) ≤ 122
      · have hv := Lib.hid (show upI s[k].toNat = (s[k].toNat : Int) - 32 by unfold upI; rw [if_pos hc])
        obtain ⟨c1, c2⟩ := hc
        go_wp2_with (at_builtin; refine wpList_push rfl _ _ rfl (upByte s[k]) rfl HG.out rfl (hlb.out.trans hv.out) hL.out ?_; intro v' w1 hG1; rw [← hsn.out] at hG1; have HG1 := Lib.hid hG1; clear hG1)
        go_roundw
        case rel => exact ⟨k + 1, by omega, by go_num, HG1.out⟩
        case measure => simp [intOf]; omega
      · have hv := Lib.hid (show upI s[k].toNat = (s[k].toNat : Int) by unfold upI; rw [if_neg hc])
        by_cases c1 : 97 ≤ (s[k].toNat : Int)
        · have c2 : 122 < (s[k].toNat : Int) := by omega
          clear hc
          go_wp2_with (at_builtin; refine wpList_push rfl _ _ rfl (upByte s[k]) rfl HG.out rfl (hlb.out.trans hv.out) hL.out ?_; intro v' w1 hG1; rw [← hsn.out] at hG1; have HG1 := Lib.hid hG1; clear hG1)
          go_roundw
          case rel => exact ⟨k + 1, by omega, by go_num, HG1.out⟩
          case measure => simp [intOf]; omega
        · have c2 : (s[k].toNat : Int) < 97 := by omega
          clear hc c1
          go_wp2_with (at_builtin; refine wpList_push rfl _ _ rfl (upByte s[k]) rfl HG.out rfl (hlb.out.trans hv.out) hL.out ?_; intro v' w1 hG1; rw [← hsn.out] at hG1; have HG1 := Lib.hid hG1; clear hG1)
          go_roundw
          case rel => exact ⟨k + 1, by omega, by go_num, HG1.out⟩
          case measure => simp [intOf]; omega
    · have hk2 : (s.data.toList.take k).map upByte = s.data.toList.map upByte := by
        rw [List.take_of_length_le (by have := Lib.size_eq s; omega)]
      rw [hk2] at hG
      have hb := Lib.hid hG.2
      have hconv := gathered_end hG
      clear hG hk2
      go_wp2_with fail
      go_ret
      exact ⟨rfl, hb.out⟩
end Go.Proofs.Ytghdjhdnohooeaa.Oct
