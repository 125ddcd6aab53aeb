/-
  handle: equal handlers (written by mkhk.py).
-/
import Derived.Test.YticncpjpkgdnlaaGreatDoorHkB
import Derived.Test.YticncpjpkgdnlaaGreatDoorQBel
set_option linter.unusedVariables false
set_option linter.unusedSimpArgs false
set_option maxRecDepth 100000
namespace Go.Proofs.YticncpjpkgdnlaaGreatDoor
open Go.RowKit Go.Shelf
namespace Hn
open Oc Tg _root_.Go.Proofs.YticncpjpkgdnlaaGreatDoor.Fd _root_.Go.Proofs.YticncpjpkgdnlaaGreatDoor.Ck _root_.Go.Proofs.YticncpjpkgdnlaaGreatDoor.Ms

set_option maxHeartbeats 1000000 in
theorem eq_hand (k k' st st' n n' : Int) (nm nm' tx tx' md md' : ByteArray) (W : World) : (binOp .eql 39 (.agg #[.int .i64 k, .string nm, .string tx, .string md, .int .i64 st, .int .i64 n]) (.agg #[.int .i64 k', .string nm', .string tx', .string md', .int .i64 st', .int .i64 n'])).run Tryz.prog W = .ok (.bool ((k == k') && (nm.toList == nm'.toList) && (tx.toList == tx'.toList) && (md.toList == md'.toList) && (st == st') && (n == n'))) W := by
  go_simp
  repeat' split
  all_goals simp_all
/-- The same, veiled: the walk takes what is said of it. -/
def eqH (x y : Value) : Sem Value := binOp .eql 39 x y
theorem eqH_eq (x y : Value) : binOp .eql 39 x y = eqH x y := rfl

end Hn
end Go.Proofs.YticncpjpkgdnlaaGreatDoor
