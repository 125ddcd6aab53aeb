/-
  The law TagDecides, as its row hands it.
-/
import Derived.Test.YtjngpafokkjkdaaGreatDoorWDe8
import Derived.Test.YtjngpafokkjkdaaGreatDoorOpA
import Derived.Test.YtjngpafokkjkdaaGreatDoorSTb8
set_option linter.unusedVariables false
namespace Go.Proofs.YtjngpafokkjkdaaGreatDoor
open Go.RowKit Go.Shelf
namespace Tt
open Oc

theorem walkb_TagDecides (A : ByteArray) (u : Value) (t : List Fd.Fl) (n : Int) (i : -9223372036854775808 ≤ n ∧ n ≤ 9223372036854775807) (b : A.size + Fd.bulkfields t ≤ 1048576) (s : St) (is : -9223372036854775808 ≤ s.tm ∧ s.tm ≤ 9223372036854775807) (bs : s.own.2.length ≤ 1048576) (W : World) (R : Fd.InF u t W) (tab : Fd.ML W ∧ Bs.Tb W) :
    Calls Tryz.prog 3 #[.agg #[.string A, u, .int .i64 n], .agg #[.bool s.th, .bool s.own.1, .string (str s.own.2), .bool s.tg, .int .i64 s.tm, .bool s.td]] W fun e w' => e = .returned (.bool true) ∧ Below W.heap.size W w' := by
  unfold Fd.bulkfields at b
  exact walk_TagDecides A u t n s i is (by omega) (by omega) W R tab.1 tab.2

end Tt
end Go.Proofs.YtjngpafokkjkdaaGreatDoor
