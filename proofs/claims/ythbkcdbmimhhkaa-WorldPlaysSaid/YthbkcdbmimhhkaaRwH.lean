/-
  The document's world: a stream opened, whatever is asked (Opened).
-/
import Derived.Test.YthbkcdbmimhhkaaRwG
namespace Go.Proofs.Ythbkcdbmimhhkaa.Rw
open Go.RowKit Go.Maps Wo

theorem openedRef {w : World} {S : Scpt} {r : RSt} {s : Shp} (h : RefAt w S r s) (k : Int) (n : ByteArray) (hf : Fewer S r) :
    Calls Try.prog 31 #[.agg (s.cells S r), .int .u8 k, .string n] w (OpenPost w S r s k n) := by
  by_cases hk : 1 ≤ k ∧ k ≤ 5
  · by_cases hp : 0 ≤ rplace k n r.opn
    · exact openedB h k n hf hk hp
    · by_cases hm : S.most ≤ r.opn.length
      · exact openedC h k n hf hk hp hm
      · by_cases hx : (lookX 1 n S.fails).isSome = true
        · exact openedD h k n hf hk hp hm hx
        · have hx2 : (lookX 1 n S.fails).isSome = false := by simpa using hx
          have hc : k = 1 ∨ k = 2 ∨ k = 3 ∨ k = 4 ∨ k = 5 := by omega
          rcases hc with rfl | rfl | rfl | rfl | rfl
          · by_cases hn : n = dash
            · exact openedDash h n hf hp hm hx2 hn
            · by_cases hl : lookF n r.files = none
              · exact openedD2 h 1 n hf rfl hp hm hx2 hn hl
              · exact openedFile h n hf hp hm hx2 hn hl
          · exact openedPipe h n hf hp hm hx2
          · exact openedOut h n hf hp hm hx2
          · exact openedAppend h n hf hp hm hx2
          · exact openedTo h n hf hp hm hx2
  · exact openedA h k n hf hk
end Go.Proofs.Ythbkcdbmimhhkaa.Rw
