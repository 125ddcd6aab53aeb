import Derived.Test.YtlfobdjbnpgchaaGreatDoorHvA
import Derived.Test.YtlfobdjbnpgchaaGreatDoorHvB
import Derived.Test.YtlfobdjbnpgchaaGreatDoorHvC
import Derived.Test.YtlfobdjbnpgchaaGreatDoorHvD
import Derived.Test.YtlfobdjbnpgchaaGreatDoorRows
import Derived.Test.YtlfobdjbnpgchaaGreatDoorCards
import Derived.Test.YtlfobdjbnpgchaaGreatDoorTie
import Derived.ProofKit
import Derived.OpenShut
import Derived.ShutString
import Derived.ChangeOld
import Derived.Below
import Derived.Deep.DeepHandedRow
import Derived.Stop.Joined
import Derived.SevenTiedAt
import Derived.Lib.LaidTab
import Derived.Lay
import Derived.Stop.LaidErr
import Derived.LaidMore
import Derived.JoinedCond
import Derived.LaidHandle
namespace Go.Proofs.YtlfobdjbnpgchaaGreatDoor
open Go.ChangeShapes Go.WideShapes Go.ChangeAt Go.RowKit
theorem hvE : joinedFacts Tryz.pinned.checked.prog 5 Tryz.f5 (Rows.OpenSpec.upto Rows.handleUpgradesSpec).bare Rows.handleUpgradesUptoRow = true := by
  unfold joinedFacts
  rw [hvA, hvB, hvC, hvD]
  exact of_decide_eq_true (by kernel_rfl)
end Go.Proofs.YtlfobdjbnpgchaaGreatDoor
