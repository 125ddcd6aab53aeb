/-
  Parse, whole.
-/
import Derived.Test.YtjngpafokkjkdaaGreatDoorPPa
import Derived.Test.YtjngpafokkjkdaaGreatDoorTKs0
import Derived.Test.YtjngpafokkjkdaaGreatDoorTKs1
import Derived.Test.YtjngpafokkjkdaaGreatDoorTKs2
set_option linter.unusedVariables false
set_option linter.unusedSimpArgs false
namespace Go.Proofs.YtjngpafokkjkdaaGreatDoor
open Go.RowKit
namespace Bs

theorem takersC : TakersC := by
  intro form P w hf h
  rcases hf with rfl | rfl | rfl
  · exact takers_0 P w h
  · exact takers_1 P w h
  · exact takers_2 P w h
theorem Parse_any (l : List UInt8) (now : Int) (hl : l.length ≤ 140737488355328) (hn : I64 now) (w : World) (tb : Tb w) :
    Calls Tryz.prog 38 #[.string (str l), .int .i64 now] w fun e w' => e = .returned (.tuple #[.int .i64 (parseS l now).1, .int .i64 (parseS l now).2.1, .int .i64 (parseS l now).2.2.1, .int .i64 (parseS l now).2.2.2]) ∧ Below w.heap.size w w' := Parse_any0 takersC l now hl hn w tb

end Bs
end Go.Proofs.YtjngpafokkjkdaaGreatDoor
