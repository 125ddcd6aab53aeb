import Derived.Test.YtmleafglnhcgoaaGreatDoorRows
import Derived.Test.YtmleafglnhcgoaaGreatDoorCards
import Derived.Test.YtmleafglnhcgoaaGreatDoorTie
import Derived.ProofKit
import Derived.OpenShut
import Derived.ShutString
import Derived.ChangeOld
import Derived.Below
import Derived.Deep.DeepHandedRow
import Derived.Stop.Joined
import Derived.SevenTiedAt
import Derived.Lib.LaidTab
import Derived.Lay
import Derived.Stop.LaidErr
import Derived.LaidMore
import Derived.JoinedCond
import Derived.LaidHandle
namespace Go.Proofs.YtmleafglnhcgoaaGreatDoor
open Go.ChangeShapes Go.WideShapes Go.ChangeAt Go.RowKit
theorem hpC : (Rows.handlePlainsUptoRow.recurses == Program.recurses Tryz.pinned.checked.prog 3) = true := by kernel_rfl
end Go.Proofs.YtmleafglnhcgoaaGreatDoor
