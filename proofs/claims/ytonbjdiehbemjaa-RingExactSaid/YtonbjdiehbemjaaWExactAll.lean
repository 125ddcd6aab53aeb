/-
  The walk of the law RingExact, with every call's step.
-/
import Derived.Test.YtonbjdiehbemjaaGStepAll
import Derived.Test.YtonbjdiehbemjaaWExact
namespace Go.Proofs.Ytonbjdiehbemjaa
open Go.RowKit
namespace Rg

theorem walk_RingExact (cp : Int) (v1 : Value) (ls : List Op) (w : World) (h1 : RdO w v1 ls) (hM : ML w) (h2 : -9223372036854775808 ≤ cp) (h3 : cp ≤ 9223372036854775807) (hz : ls.length ≤ 9223372036854775807) :
    Calls Try.prog 3 #[.int .i64 cp, v1] w fun e w' => e = .returned (.bool true) ∧ Below w.heap.size w w' :=
  walkS_RingExact step_any cp v1 ls w h1 hM h2 h3 hz

end Rg
end Go.Proofs.Ytonbjdiehbemjaa
