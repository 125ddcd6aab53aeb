/-
  AcceptPrints, over what came in.
-/
import Derived.Test.YtmgadjnllahbiaaDoorWPn
import Derived.Test.YtmgadjnllahbiaaDoorOpM
set_option linter.unusedVariables false
set_option linter.unusedSimpArgs false
namespace Go.Proofs.YtmgadjnllahbiaaDoor
open Go.RowKit Go.Shelf
namespace Ac
open Oc Tg

theorem walkb_AcceptPrints (A B : ByteArray) (u : Value) (t : List Prm) (hb : A.size + B.size + bulkparams t ≤ 1048576) (w : World) (hR : RdP u t w ∧ NilP u t) (hw : Env w) :
    Calls Tryd.prog 3 #[.agg #[.string A, .string B, u]] w fun e w' => e = .returned (.bool true) ∧ Below w.heap.size w w' := by
  unfold bulkparams at hb
  have h1 := size_list A
  have h2 := size_list B
  have h3 := len_sumP t
  have hM : EachP 1048576 t := fun p hp => by
    obtain ⟨k, hk, rfl⟩ := List.mem_iff_getElem.1 hp
    have := nth_sz t k hk
    have e : nth t k = t[k] := by
      unfold nth
      rw [List.getD_eq_getElem?_getD, List.getElem?_eq_getElem hk]
      rfl
    rw [e] at this
    unfold szP at this
    omega
  have h := walk_AcceptPrints A.data.toList B.data.toList u t (by omega) (by omega) hM (by omega) (by omega) w hR.1 hw
  rw [str_self, str_self] at h
  exact h

end Ac
end Go.Proofs.YtmgadjnllahbiaaDoor
