/-
  A walk of a law.
-/
import Derived.Test.YthdepdgmlngafaaDoorRSay
import Derived.OpenShut
set_option linter.unusedVariables false
set_option linter.unusedSimpArgs false
namespace Go.Proofs.YthdepdgmlngafaaDoor.octetQuotesUpto
open Go.RowKit
open Go.Proofs.YthdepdgmlngafaaDoor.Oc

set_option maxRecDepth 100000 in
set_option maxHeartbeats 1000000 in
theorem walk (a0 : ByteArray) (w0 : a0.size ≤ 1048576) (w : World) (t : Tab w) :
    Calls Tryd.prog 7 #[.string a0] w fun e w' => e = .returned (.bool true) ∧ Below w.heap.size w w' := by
  have HT : Hid (Tab w) := t
  clear t
  go_enter Tryd.func7, Tryd.ntmps7
  go_wp2_with fail
  refine (Quote_any a0 (by omega) _).mono ?_
  rintro e w2 ⟨rfl, hb2⟩
  generalize hg : quoteR a0.data.toList = g
  have HG : Hid (quoteR a0.data.toList = g) := hg
  clear hg
  obtain ⟨g1, g2⟩ := g
  go_wp2_with fail
  refine (rQuote_any a0 (by omega) _).mono ?_
  rintro e w3 ⟨rfl, hb3⟩
  rw [HG.out]
  go_wp2_with fail
  refine (Unquote_any a0 (by omega) _).mono ?_
  rintro e w4 ⟨rfl, hb4⟩
  generalize hx : unqR a0.data.toList = x
  have HX : Hid (unqR a0.data.toList = x) := hx
  clear hx
  obtain ⟨x1, x2, x3⟩ := x
  go_wp2_with fail
  refine (rUnquote_any a0 (by omega) _).mono ?_
  rintro e w5 ⟨rfl, hb5⟩
  rw [HX.out]
  have hb := bel_trans (bel_trans (bel_trans hb2 hb3) hb4) hb5
  have HB : Hid (Below w.heap.size w w5) := hb
  clear hb hb2 hb3 hb4 hb5
  go_wp2_with fail
  refine (awake_any _ (HT.out.below HB.out (Nat.le_refl _))).mono ?_
  rintro e w6 ⟨rfl, hb6⟩
  go_wp2
  go_ret
  exact ⟨rfl, bel_trans HB.out hb6⟩

end Go.Proofs.YthdepdgmlngafaaDoor.octetQuotesUpto
