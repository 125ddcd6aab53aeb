import Derived.Test.YtmleafglnhcgoaaGreatDoorHpA
import Derived.Test.YtmleafglnhcgoaaGreatDoorHpB
import Derived.Test.YtmleafglnhcgoaaGreatDoorHpC
import Derived.Test.YtmleafglnhcgoaaGreatDoorHpD
import Derived.Test.YtmleafglnhcgoaaGreatDoorRows
import Derived.Test.YtmleafglnhcgoaaGreatDoorCards
import Derived.Test.YtmleafglnhcgoaaGreatDoorTie
import Derived.ProofKit
import Derived.OpenShut
import Derived.ShutString
import Derived.ChangeOld
import Derived.Below
import Derived.Deep.DeepHandedRow
import Derived.Stop.Joined
import Derived.SevenTiedAt
import Derived.Lib.LaidTab
import Derived.Lay
import Derived.Stop.LaidErr
import Derived.LaidMore
import Derived.JoinedCond
import Derived.LaidHandle
namespace Go.Proofs.YtmleafglnhcgoaaGreatDoor
open Go.ChangeShapes Go.WideShapes Go.ChangeAt Go.RowKit
theorem hpE : joinedFacts Tryz.pinned.checked.prog 3 Tryz.f3 (Rows.OpenSpec.upto Rows.handlePlainsSpec).bare Rows.handlePlainsUptoRow = true := by
  unfold joinedFacts
  rw [hpA, hpB, hpC, hpD]
  exact of_decide_eq_true (by kernel_rfl)
end Go.Proofs.YtmleafglnhcgoaaGreatDoor
