/-
  One call and what the document says of it: every kind.
-/
import Derived.Test.YtonbjdiehbemjaaGStep0
import Derived.Test.YtonbjdiehbemjaaGStep1
import Derived.Test.YtonbjdiehbemjaaGStep2
import Derived.Test.YtonbjdiehbemjaaGStep3
import Derived.Test.YtonbjdiehbemjaaGStep4
import Derived.Test.YtonbjdiehbemjaaGStep5
import Derived.Test.YtonbjdiehbemjaaGStep6
import Derived.Test.YtonbjdiehbemjaaGStep7
import Derived.Test.YtonbjdiehbemjaaGStep8
import Derived.Test.YtonbjdiehbemjaaGStep9
import Derived.Test.YtonbjdiehbemjaaGStep10
import Derived.Test.YtonbjdiehbemjaaGStep11
import Derived.Test.YtonbjdiehbemjaaGStep12
namespace Go.Proofs.Ytonbjdiehbemjaa
open Go.RowKit
namespace Rg

theorem step_any : StepAll := by
  intro w p bs cap h xs mv K I N pv q H
  obtain ⟨n, hn⟩ : ∃ n, kd K = n := ⟨_, rfl⟩
  have hlt := kd_lt K
  rw [hn] at hlt
  match n, hlt, hn with
  | 0, _, hn => exact step_0 H hn
  | 1, _, hn => exact step_1 H hn
  | 2, _, hn => exact step_2 H hn
  | 3, _, hn => exact step_3 H hn
  | 4, _, hn => exact step_4 H hn
  | 5, _, hn => exact step_5 H hn
  | 6, _, hn => exact step_6 H hn
  | 7, _, hn => exact step_7 H hn
  | 8, _, hn => exact step_8 H hn
  | 9, _, hn => exact step_9 H hn
  | 10, _, hn => exact step_10 H hn
  | 11, _, hn => exact step_11 H hn
  | 12, _, hn => exact step_12 H hn

end Rg
end Go.Proofs.Ytonbjdiehbemjaa
