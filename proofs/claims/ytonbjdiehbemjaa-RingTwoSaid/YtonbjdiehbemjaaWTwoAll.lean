/-
  The walk of the law RingTwo, with every call's step.
-/
import Derived.Test.YtonbjdiehbemjaaGStepAll
import Derived.Test.YtonbjdiehbemjaaWTwo
namespace Go.Proofs.Ytonbjdiehbemjaa
open Go.RowKit
namespace Rg

theorem walk_RingTwo (ca cb : Int) (v1 : Value) (ls : List Op) (w : World) (h1 : RdO w v1 ls) (hM : ML w) (h2 : -9223372036854775808 ≤ ca) (h3 : ca ≤ 9223372036854775807) (h4 : -9223372036854775808 ≤ cb) (h5 : cb ≤ 9223372036854775807) (hz : ls.length ≤ 9223372036854775807) :
    Calls Try.prog 4 #[.int .i64 ca, .int .i64 cb, v1] w fun e w' => e = .returned (.bool true) ∧ Below w.heap.size w w' :=
  walkS_RingTwo step_any ca cb v1 ls w h1 hM h2 h3 h4 h5 hz

end Rg
end Go.Proofs.Ytonbjdiehbemjaa
