/-
  SpanParses.
-/
import Derived.Test.YtenipnlpambehaaDoorZzR
import Derived.Test.YtenipnlpambehaaDoorZzP
set_option linter.unusedVariables false
set_option linter.unusedSimpArgs false
namespace Go.Proofs.YtenipnlpambehaaDoor
open Go.RowKit Go.Shelf
namespace Sn
open Oc Tg Ac

theorem parR_len (l : List UInt8) (size : Int) : (parR l size).1.length ≤ l.length + 1 := by
  unfold parR
  split
  · simp
  · split
    · simp
    · unfold ansR
      split
      · split
        · simp
        · have h1 := List.length_filterMap_le (keepN size) (elR l).1
          have h2 : (elR l).1.length ≤ l.length + 1 := by
            unfold elR
            split
            · have := (listR_short (cutB 61 l)).1
              have := cutB_len 61 l
              dsimp only
              omega
            · simp
          dsimp only
          omega
      · simp

end Sn
end Go.Proofs.YtenipnlpambehaaDoor
