import Derived.Test.YticncpjpkgdnlaaGreatDoorRows
import Derived.Test.YticncpjpkgdnlaaGreatDoorCards
import Derived.Test.YticncpjpkgdnlaaGreatDoorTie
import Derived.ProofKit
import Derived.OpenShut
import Derived.ShutString
import Derived.ChangeOld
import Derived.Below
import Derived.Deep.DeepHandedRow
import Derived.Stop.Joined
import Derived.SevenTiedAt
import Derived.Lib.LaidTab
import Derived.Lay
import Derived.Stop.LaidErr
import Derived.LaidMore
import Derived.JoinedCond
import Derived.LaidHandle
namespace Go.Proofs.YticncpjpkgdnlaaGreatDoor
open Go.ChangeShapes Go.WideShapes Go.ChangeAt Go.RowKit
theorem hwG : false = Rows.handleCountsUptoRow.goesBy Tryz.pinned.checked.prog := by kernel_rfl
end Go.Proofs.YticncpjpkgdnlaaGreatDoor
