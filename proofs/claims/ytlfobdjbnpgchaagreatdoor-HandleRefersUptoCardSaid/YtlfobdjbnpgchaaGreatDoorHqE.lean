import Derived.Test.YtlfobdjbnpgchaaGreatDoorHqA
import Derived.Test.YtlfobdjbnpgchaaGreatDoorHqB
import Derived.Test.YtlfobdjbnpgchaaGreatDoorHqC
import Derived.Test.YtlfobdjbnpgchaaGreatDoorHqD
import Derived.Test.YtlfobdjbnpgchaaGreatDoorRows
import Derived.Test.YtlfobdjbnpgchaaGreatDoorCards
import Derived.Test.YtlfobdjbnpgchaaGreatDoorTie
import Derived.ProofKit
import Derived.OpenShut
import Derived.ShutString
import Derived.ChangeOld
import Derived.Below
import Derived.Deep.DeepHandedRow
import Derived.Stop.Joined
import Derived.SevenTiedAt
import Derived.Lib.LaidTab
import Derived.Lay
import Derived.Stop.LaidErr
import Derived.LaidMore
import Derived.JoinedCond
import Derived.LaidHandle
namespace Go.Proofs.YtlfobdjbnpgchaaGreatDoor
open Go.ChangeShapes Go.WideShapes Go.ChangeAt Go.RowKit
theorem hqE : joinedFacts Tryz.pinned.checked.prog 3 Tryz.f3 (Rows.OpenSpec.upto Rows.handleRefersSpec).bare Rows.handleRefersUptoRow = true := by
  unfold joinedFacts
  rw [hqA, hqB, hqC, hqD]
  exact of_decide_eq_true (by kernel_rfl)
end Go.Proofs.YtlfobdjbnpgchaaGreatDoor
