import Derived.Test.YticncpjpkgdnlaaGreatDoorHwA
import Derived.Test.YticncpjpkgdnlaaGreatDoorHwB
import Derived.Test.YticncpjpkgdnlaaGreatDoorHwC
import Derived.Test.YticncpjpkgdnlaaGreatDoorHwD
import Derived.Test.YticncpjpkgdnlaaGreatDoorRows
import Derived.Test.YticncpjpkgdnlaaGreatDoorCards
import Derived.Test.YticncpjpkgdnlaaGreatDoorTie
import Derived.ProofKit
import Derived.OpenShut
import Derived.ShutString
import Derived.ChangeOld
import Derived.Below
import Derived.Deep.DeepHandedRow
import Derived.Stop.Joined
import Derived.SevenTiedAt
import Derived.Lib.LaidTab
import Derived.Lay
import Derived.Stop.LaidErr
import Derived.LaidMore
import Derived.JoinedCond
import Derived.LaidHandle
namespace Go.Proofs.YticncpjpkgdnlaaGreatDoor
open Go.ChangeShapes Go.WideShapes Go.ChangeAt Go.RowKit
theorem hwE : joinedFacts Tryz.pinned.checked.prog 3 Tryz.f3 (Rows.OpenSpec.upto Rows.handleCountsSpec).bare Rows.handleCountsUptoRow = true := by
  unfold joinedFacts
  rw [hwA, hwB, hwC, hwD]
  exact of_decide_eq_true (by kernel_rfl)
end Go.Proofs.YticncpjpkgdnlaaGreatDoor
