/-
  The law HandleUpgrades, where what it reads is of bulk at most 1048576: the row, the tied card.
-/
import Derived.Test.YtlfobdjbnpgchaaGreatDoorRows
import Derived.Test.YtlfobdjbnpgchaaGreatDoorCards
import Derived.Test.YtlfobdjbnpgchaaGreatDoorTie
import Derived.Test.YtlfobdjbnpgchaaGreatDoorWHs
import Derived.Test.YtlfobdjbnpgchaaGreatDoorHvE
import Derived.Test.YtlfobdjbnpgchaaGreatDoorHvG
import Derived.Test.YtlfobdjbnpgchaaGreatDoorWit
import Derived.ProofKit
import Derived.OpenShut
import Derived.ShutString
import Derived.ChangeOld
import Derived.Below
import Derived.Deep.DeepHandedRow
import Derived.Stop.Joined
import Derived.SevenTiedAt
import Derived.Lib.LaidTab
import Derived.Lay
import Derived.Stop.LaidErr
import Derived.LaidMore
import Derived.JoinedCond
import Derived.LaidHandle
set_option linter.unusedVariables false
set_option linter.unusedSimpArgs false
namespace Go.Proofs.YtlfobdjbnpgchaaGreatDoor.handleUpgradesUpto
open Go.ChangeShapes Go.WideShapes Go.ChangeAt Go.RowKit
open Go.ChangeMaps (open_string shut_string)
open Go.Proofs.YtlfobdjbnpgchaaGreatDoor.Oc
open Go.Proofs.YtlfobdjbnpgchaaGreatDoor.Fd
open Go.Proofs.YtlfobdjbnpgchaaGreatDoor.Ms

theorem own : ownKnob Tryz.prog.godebug = none := by kernel_rfl
def laidL : List (String × DataW Unit) := [("math/bits.deBruijn32tab", Rows.laid_math_bits_deBruijn32tab), ("math/bits.deBruijn64tab", Rows.laid_math_bits_deBruijn64tab), ("internal/strconv.uint64pow10", Rows.laid_internal_strconv_uint64pow10), ("unicode/utf8.acceptRanges", Rows.laid_unicode_utf8_acceptRanges), ("errors.errorType", Rows.laid_errors_errorType), ("turnpike/octet.tokenSigns", Rows.laid_turnpike_octet_tokenSigns), ("turnpike/stamp.plainMonths", Rows.laid_turnpike_stamp_plainMonths), ("turnpike/stamp.shortDays", Rows.laid_turnpike_stamp_shortDays), ("turnpike/stamp.longDays", Rows.laid_turnpike_stamp_longDays), ("turnpike/stamp.months", Rows.laid_turnpike_stamp_months), ("turnpike/cookie.sameWords", Rows.laid_turnpike_cookie_sameWords), ("unicode/utf8.first", Rows.laid_unicode_utf8_first)]
def plainL : List (String × DataW Unit) := [("math/bits.deBruijn32tab", Rows.laid_math_bits_deBruijn32tab), ("math/bits.deBruijn64tab", Rows.laid_math_bits_deBruijn64tab), ("internal/strconv.uint64pow10", Rows.laid_internal_strconv_uint64pow10), ("unicode/utf8.acceptRanges", Rows.laid_unicode_utf8_acceptRanges), ("turnpike/octet.tokenSigns", Rows.laid_turnpike_octet_tokenSigns), ("turnpike/stamp.plainMonths", Rows.laid_turnpike_stamp_plainMonths), ("turnpike/stamp.shortDays", Rows.laid_turnpike_stamp_shortDays), ("turnpike/stamp.longDays", Rows.laid_turnpike_stamp_longDays), ("turnpike/stamp.months", Rows.laid_turnpike_stamp_months), ("turnpike/cookie.sameWords", Rows.laid_turnpike_cookie_sameWords), ("unicode/utf8.first", Rows.laid_unicode_utf8_first)]
def handL : List (String × DataW Unit) := [("errors.errorType", Rows.laid_errors_errorType)]
theorem split_laid {W : World} (h : laidMetH Tryz.prog laidL W) : laidMet Tryz.prog plainL W ∧ handlesMet Tryz.prog handL W := h
theorem gErr : Tryz.prog.globalNamed "errors.errorType" = some 9 := by kernel_rfl
/-- A world that meets the condition: the handle's cell laid, then the plain tables. -/
noncomputable def w0L (os : Os) : World :=
  let w0 := World.holding Tryz.prog os ⟨#[], #[], []⟩
  { w0 with heap := w0.heap.modify 9 fun
      | .cells _ t frozen => .cells #[.iface 390 (.agg #[.pointer (some ⟨13, 71, none⟩)])] t frozen
      | o => o }
noncomputable def laidW (os : Os) : World := (w0L os).layVars Tryz.prog plainL
theorem plain_met (os : Os) : laidMet Tryz.prog plainL (laidW os) := by
  have e1 : (plainL.filter fun x => (plainL.map (·.1)).contains x.1) = plainL := List.filter_eq_self.2 fun x hx => List.contains_iff_mem.2 (List.mem_map.2 ⟨x, hx, rfl⟩)
  have e2 : (plainL.filter fun x => !(plainL.map (·.1)).contains x.1) = [] := List.filter_eq_nil_iff.2 fun x hx => by rw [List.contains_iff_mem.2 (List.mem_map.2 ⟨x, hx, rfl⟩)]; simp
  have hf : (w0L os).layFits Tryz.prog plainL [] = true := by kernel_rfl
  have hi : (w0L os).layIfaces Tryz.prog plainL (laidW os) = true := by kernel_rfl
  exact laidMet_layVars (w0 := w0L os) (plainL.map (·.1)) [] (by rw [e1]; rfl) (by rw [e1]; exact hf) (by rw [e1]; exact hi) (by rw [e2]; exact LaidIn.none)
theorem tPow : (Tryz.prog.globals[3]?).map (·.type) = some 261 := by kernel_rfl
theorem pow_of_laid {W : World} (h : laidMetH Tryz.prog laidL W) : Pow W := by
  have h := (split_laid h).1
  have h := laidMet.tail (laidMet.tail h)
  exact Lib.tabIs_of_head (k := .u64) (zs := Lib.pow10Tab) gPow tPow Tryz.underlying261 Tryz.underlying202 (by kernel_rfl) (by kernel_rfl) h
theorem gTok : Tryz.prog.globalNamed "turnpike/octet.tokenSigns" = some 7 := by kernel_rfl
theorem tTok : (Tryz.prog.globals[7]?).map (·.type) = some 306 := by kernel_rfl
theorem tab_of_laid {W : World} (h : laidMetH Tryz.prog laidL W) : Tab W := by
  have h := (split_laid h).1
  have h := laidMet.tail (laidMet.tail (laidMet.tail (laidMet.tail h)))
  have hT := Lib.tabIs_of_head (k := .u64) (zs := [288068722172624896, 6341068274398134270, 0, 0]) gTok tTok Tryz.underlying306 Tryz.underlying202 (by kernel_rfl) (by kernel_rfl) h
  exact tab_mk (hT.cell gTok 0 (by decide)) (hT.cell gTok 1 (by decide)) (hT.cell gTok 2 (by decide)) (hT.cell gTok 3 (by decide))
theorem i64w {x : Int} (h : (Lit.int .i64 x).wf = true) : Ms.i64 x := by
  have := bounds_i64 h
  unfold Ms.i64
  omega



theorem laid_met (os : Os) : laidMetH Tryz.prog laidL ((laidW os).forCall (fun _ _ => 0) ⟨#[], #[.string ByteArray.empty, .int .i64 0], []⟩).memory :=
  laidMetH_of_parts ((plain_met os).of_heap (by simp [World.memory, World.forCall, Input.heap])) (by kernel_rfl)
theorem reads (os : Os) {H : Type} (enc : TypeId × Value → H) : ∃ places, DataW.whole enc Tryz.prog ((laidW os).forCall (fun _ _ => 0) ⟨#[], #[.string ByteArray.empty, .int .i64 0], []⟩).memory Tryz.f5.params.toList Rows.handleUpgradesSpec.vars false (#[.string ByteArray.empty, .int .i64 0] : Array Value).toList 8 = some ([.lit (.string []), .lit (.int .i64 0)], [], places) :=
  ⟨[], by kernel_rfl⟩

set_option maxRecDepth 100000 in
theorem lifted (os : Os) (started : os.Started) (H : Type) (enc : TypeId × Value → H) (F : Stop.Interp) :
    ReturnsInHanded {} Tryz.checked os 5 .any ((Rows.OpenSpec.upto Rows.handleUpgradesSpec).preRow enc Tryz.prog Tryz.f5 Rows.handleUpgradesUptoRow.domain false Rows.handleUpgradesUptoRow.laid) (((Rows.OpenSpec.upto Rows.handleUpgradesSpec).at F).post enc Tryz.prog Tryz.f5 false true false false) := by
  obtain ⟨places, hx⟩ := reads os enc
  refine returnsInHanded_of_row (C := Tryz.checked) (s := Rows.OpenSpec.upto Rows.handleUpgradesSpec) own started (by kernel_rfl) Tryz.func5
    (witness_zip (enc := enc) (C := Tryz.checked) false (laidW os) #[.string ByteArray.empty, .int .i64 0] (by unfold laidW; rw [World.layVars_os]; rfl) (World.shaped_of_ZipB (by kernel_rfl) (by kernel_rfl)) (by kernel_rfl)
      (OpenSpec.preRow_of_cond 8 hx (by kernel_rfl) (fun k hk => by cases hk; kernel_rfl) (by kernel_rfl) (laid_met os))) ?_
  intro W base args ds gs before hval0 hW _ hcond _ hL0 hsh _
  have hL : laidMetH Tryz.prog laidL W := hL0
  have hval : ∀ (j : Nat) t v, Tryz.f5.params[j]? = some t → args[j]? = some v → Value.okWide Tryz.prog W .any base t v := hval0
  have hk := of_decide_eq_true (hcond _ rfl)
  have hW' := hW
  obtain ⟨p, q, hA0, hV, rfl, hfz, hnd⟩ := hW
  have hA : DataW.TrodAll enc Tryz.prog W 0 (fun _ => true) true Tryz.f5.params.toList args.toList ds p := hA0
  rw [Tryz.params5] at hA hval
  obtain ⟨v0, vs0, d0, ds0, p0, q0, hargs, rfl, rfl, h0, r0⟩ := trodAll_cons hA
  obtain ⟨v1, vs1, d1, ds1, p1, q1, rfl, rfl, rfl, h1, r1⟩ := trodAll_cons r0
  obtain ⟨rfl, rfl, rfl⟩ := trodAll_nil r1
  obtain rfl : args = #[v0, v1] := by cases args; simp_all
  obtain ⟨rfl, rfl⟩ := trodVars_none hV
  obtain ⟨a0, rfl, rfl, rfl, w0⟩ := open_string Tryz.underlying9 (hval 0 9 v0 rfl rfl) h0
  obtain ⟨a1, rfl, rfl, rfl, w1⟩ := open_int Tryz.underlying3 (hval 1 3 v1 rfl rfl) h1
  simp only [List.append_nil, Rows.uptoBulkAll, Rows.uptoBulk] at hk
  have s0 := size_list a0
  have b0 : a0.size ≤ 1048576 := by omega
  have pw := pow_of_laid hL
  have tab := tab_of_laid hL
  clear hA0 hval0
  simp only [List.append_nil] at hW'
  refine (Hn.walk_HandleUpgrades a0 b0 a1 (i64w w1) W tab pw).mono fun e W' ⟨he, bel⟩ => ?_
  subst he
  exact ⟨_, rfl, _, _, _, [], [], [], hW', trodAll_mk1 (shut_bool Tryz.underlying4 _), (trodAll_cons_mk (shut_string Tryz.underlying9 w0) (trodAll_cons_mk (shut_int Tryz.underlying3 w1) trodAll_mk0)), rfl, bel.frame _, fun h => by cases h⟩

theorem over : Rows.HandleUpgradesUptoSaid :=
  OpenClaim.holds_of_cond 5 Tryz.f5 rfl rfl rfl rfl rfl rfl rfl ⟨rfl, rfl, rfl, rfl, rfl⟩ rfl rfl rfl rfl rfl (by kernel_rfl) Tryz.func5 hvE
    (of_decide_eq_true (by kernel_rfl)) (by unfold Func.isWrapper; first | (rw [if_pos (by decide +kernel)]; kernel_rfl) | (rw [if_neg (by decide +kernel)]; exact ⟨rfl, rfl⟩))
    (fun os started H enc _ F => by rw [OpenClaim.pre_eq_preRow]; exact lifted os started H enc F)

end Go.Proofs.YtlfobdjbnpgchaaGreatDoor.handleUpgradesUpto

namespace Go.Proofs.YtlfobdjbnpgchaaGreatDoor
open Go
/-- The tied card of the second form. -/
theorem handleUpgradesUpto_card : Rows.HandleUpgradesUptoCardSaid :=
  Claim7.holds_tied_plain_at .later [] [.data, .data, .data, .data, .handle, .data, .data, .data, .data, .data, .data, .pinned] true (true, "3ca0123acb085cb7acab48d269d5a313aa4b33cac46ff580273c01c9f3343a1c") true
    handleUpgradesUpto.over (fun _ h => by cases h) (by kernel_rfl) (fun _ h => by cases h) handleUpgradesUpto_row_tie rfl ⟨rfl, rfl⟩ (by kernel_rfl) rfl
    (fun f fn hf hfn => by
      obtain rfl : f = 5 := Option.some.inj ((show Tryz.prog.funcNamed "turnpike/turnpikelaw18.HandleUpgrades" = some 5 by kernel_rfl).symm.trans hf) |>.symm
      obtain rfl : fn = Tryz.f5 := (Option.some.inj (Tryz.func5.symm.trans hfn)).symm
      exact ⟨by kernel_rfl, fun j t ht => by
        rw [Tryz.params5] at ht
        have hm : t ∈ [9, 3] := by simpa using Array.mem_of_getElem? ht
        have hall : ([9, 3].all fun u => !Tryz.prog.wantsStandIn u) = true := by kernel_rfl
        exact (show Tryz.prog.wantsStandIn t = false by simpa using List.all_eq_true.1 hall t hm)⟩)
    hvG
#print axioms handleUpgradesUpto_card
end Go.Proofs.YtlfobdjbnpgchaaGreatDoor
