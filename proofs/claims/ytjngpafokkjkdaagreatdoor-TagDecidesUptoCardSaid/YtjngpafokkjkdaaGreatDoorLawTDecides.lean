/-
  The law TagDecides, where what it reads is of bulk at most 1048576: the row, the tied card.
-/
import Derived.Test.YtjngpafokkjkdaaGreatDoorRows
import Derived.Test.YtjngpafokkjkdaaGreatDoorCards
import Derived.Test.YtjngpafokkjkdaaGreatDoorTie
import Derived.Test.YtjngpafokkjkdaaGreatDoorMgG1
import Derived.ProofKit
import Derived.OpenShut
import Derived.ShutString
import Derived.ChangeOld
import Derived.Below
import Derived.Deep.DeepHandedRow
import Derived.Stop.Joined
import Derived.SevenTiedAt
import Derived.Lib.LaidTab
import Derived.Lay
import Derived.Stop.LaidErr
import Derived.LaidMore
import Derived.JoinedCond
set_option linter.unusedVariables false
set_option linter.unusedSimpArgs false
namespace Go.Proofs.YtjngpafokkjkdaaGreatDoor.tagDecidesUpto
open Go.ChangeShapes Go.WideShapes Go.ChangeAt Go.RowKit
open Go.ChangeMaps (open_string shut_string)
open Go.Proofs.YtjngpafokkjkdaaGreatDoor.Oc
open Go.Proofs.YtjngpafokkjkdaaGreatDoor.Tt

theorem own : ownKnob Tryz.prog.godebug = none := by kernel_rfl
def laidL : List (String × DataW Unit) := [("unicode/utf8.acceptRanges", Rows.laid_unicode_utf8_acceptRanges), ("turnpike/stamp.plainMonths", Rows.laid_turnpike_stamp_plainMonths), ("turnpike/stamp.shortDays", Rows.laid_turnpike_stamp_shortDays), ("turnpike/stamp.longDays", Rows.laid_turnpike_stamp_longDays), ("turnpike/stamp.months", Rows.laid_turnpike_stamp_months), ("unicode/utf8.first", Rows.laid_unicode_utf8_first)]



theorem laid_met (os : Os) : laidMet Tryz.prog laidL ((World.laidAll Tryz.prog os laidL).forCall (fun _ _ => 0) ⟨#[], #[.agg #[.string ByteArray.empty, .slice none 0 0, .int .i64 0], .agg #[.bool false, .bool false, .string ByteArray.empty, .bool false, .int .i64 0, .bool false]], []⟩).memory :=
  laidMet_laidAll _ (by kernel_rfl) (by kernel_rfl)
theorem reads (os : Os) {H : Type} (enc : TypeId × Value → H) : ∃ places, DataW.whole enc Tryz.prog ((World.laidAll Tryz.prog os laidL).forCall (fun _ _ => 0) ⟨#[], #[.agg #[.string ByteArray.empty, .slice none 0 0, .int .i64 0], .agg #[.bool false, .bool false, .string ByteArray.empty, .bool false, .int .i64 0, .bool false]], []⟩).memory Tryz.f3.params.toList Rows.tagDecidesSpec.vars false (#[.agg #[.string ByteArray.empty, .slice none 0 0, .int .i64 0], .agg #[.bool false, .bool false, .string ByteArray.empty, .bool false, .int .i64 0, .bool false]] : Array Value).toList 8 = some ([.agg [.lit (.string []), .nil, .lit (.int .i64 0)], .agg [.lit (.bool false), .agg [.lit (.bool false), .lit (.string [])], .lit (.bool false), .lit (.int .i64 0), .lit (.bool false)]], [], places) :=
  ⟨[], by kernel_rfl⟩

set_option maxRecDepth 100000 in
theorem lifted (os : Os) (started : os.Started) (H : Type) (enc : TypeId × Value → H) (F : Stop.Interp) :
    ReturnsInHanded {} Tryz.checked os 3 .any ((Rows.OpenSpec.upto Rows.tagDecidesSpec).preRow enc Tryz.prog Tryz.f3 Rows.tagDecidesUptoRow.domain false Rows.tagDecidesUptoRow.laid) (((Rows.OpenSpec.upto Rows.tagDecidesSpec).at F).post enc Tryz.prog Tryz.f3 false true false false) := by
  obtain ⟨places, hx⟩ := reads os enc
  refine returnsInHanded_of_row (C := Tryz.checked) (s := Rows.OpenSpec.upto Rows.tagDecidesSpec) own started (by kernel_rfl) Tryz.func3
    (witness_zip (enc := enc) (C := Tryz.checked) false (World.laidAll Tryz.prog os laidL) #[.agg #[.string ByteArray.empty, .slice none 0 0, .int .i64 0], .agg #[.bool false, .bool false, .string ByteArray.empty, .bool false, .int .i64 0, .bool false]] (World.laidAll_os _ _ _) (World.shaped_of_ZipB (by kernel_rfl) (by kernel_rfl)) (by kernel_rfl)
      (OpenSpec.preRow_of_cond 8 hx (by kernel_rfl) (fun k hk => by cases hk; kernel_rfl) (by kernel_rfl) (laid_met os))) ?_
  intro W base args ds gs before hval0 hW _ hcond _ hL0 hsh _
  have hL : laidMetH Tryz.prog laidL W := hL0
  have hval : ∀ (j : Nat) t v, Tryz.f3.params[j]? = some t → args[j]? = some v → Value.okWide Tryz.prog W .any base t v := hval0
  have hk := of_decide_eq_true (hcond _ rfl)
  have hW' := hW
  obtain ⟨p, q, hA0, hV, rfl, hfz, hnd⟩ := hW
  have hA : DataW.TrodAll enc Tryz.prog W 0 (fun _ => true) true Tryz.f3.params.toList args.toList ds p := hA0
  rw [Tryz.params3] at hA hval
  obtain ⟨v0, vs0, d0, ds0, p0, q0, hargs, rfl, rfl, h0, r0⟩ := trodAll_cons hA
  obtain ⟨v1, vs1, d1, ds1, p1, q1, rfl, rfl, rfl, h1, r1⟩ := trodAll_cons r0
  obtain ⟨rfl, rfl, rfl⟩ := trodAll_nil r1
  obtain rfl : args = #[v0, v1] := by cases args; simp_all
  obtain ⟨rfl, rfl⟩ := trodVars_none hV
  have k0 := h0
  have l0 : ∀ x ∈ p0, x.block < W.heap.size := fun x hx => hW'.lt x (by simp [hx])
  obtain ⟨A0, u0, t0, n0, rfl, R0, i0, B0⟩ := Fd.open_asked (hval 0 24 v0 rfl rfl) h0
  have k1 := h1
  have l1 : ∀ x ∈ p1, x.block < W.heap.size := fun x hx => hW'.lt x (by simp [hx])
  obtain ⟨s1, rfl, i1, B1⟩ := Fd.open_state (hval 1 28 v1 rfl rfl) h1
  simp only [List.append_nil, Rows.uptoBulkAll, Rows.uptoBulk] at hk
  have b0 : A0.size + Fd.bulkfields t0 ≤ 1048576 := Nat.le_trans B0 (by omega)
  have b1 : s1.own.2.length ≤ 1048576 := Nat.le_trans B1 (by omega)
  have tab : Fd.ML W ∧ Bs.Tb W := ⟨Tryz.laysM143.s1_3 W hsh, Bs.tb_of_laid8 hL⟩
  clear hA0 hval0
  simp only [List.append_nil] at hW'
  refine (Tt.walkb_TagDecides A0 u0 t0 n0 i0 b0 s1 i1 b1 W R0 tab).mono fun e W' ⟨he, bel⟩ => ?_
  subst he
  exact ⟨_, rfl, _, _, _, _, _, _, hW', trodAll_mk1 (shut_bool Tryz.underlying4 _), (trodAll_cons_mk (Below.trod Fd.laidOutT (by kernel_rfl) (of_decide_eq_true (by kernel_rfl)) k0 bel l0) (trodAll_cons_mk (Below.trod Fd.laidOutT (by kernel_rfl) (of_decide_eq_true (by kernel_rfl)) k1 bel l1) trodAll_mk0)), rfl, bel.frame _, fun h => by cases h⟩

theorem over : Rows.TagDecidesUptoSaid :=
  OpenClaim.holds_of_cond 3 Tryz.f3 rfl rfl rfl rfl rfl rfl rfl ⟨rfl, rfl, rfl, rfl, rfl⟩ rfl rfl rfl rfl rfl (by kernel_rfl) Tryz.func3 (by kernel_rfl)
    (of_decide_eq_true (by kernel_rfl)) (by unfold Func.isWrapper; first | (rw [if_pos (by decide +kernel)]; kernel_rfl) | (rw [if_neg (by decide +kernel)]; exact ⟨rfl, rfl⟩))
    (fun os started H enc _ F => by rw [OpenClaim.pre_eq_preRow]; exact lifted os started H enc F)

end Go.Proofs.YtjngpafokkjkdaaGreatDoor.tagDecidesUpto

namespace Go.Proofs.YtjngpafokkjkdaaGreatDoor
open Go
/-- The tied card of the second form. -/
theorem tagDecidesUpto_card : Rows.TagDecidesUptoCardSaid :=
  Claim7.holds_tied_plain_at .later [] [.data, .data, .data, .data, .data, .pinned] true (true, "d2a396520b3aa7ff768f8065f52ef23ee099da4978854489705db9ff20e24200") false
    tagDecidesUpto.over (fun _ h => by cases h) (by kernel_rfl) (fun _ h => by cases h) tagDecidesUpto_row_tie rfl ⟨rfl, rfl⟩ (by kernel_rfl) rfl
    (fun f fn hf hfn => by
      obtain rfl : f = 3 := Option.some.inj ((show Tryz.prog.funcNamed "turnpike/turnpikelaw08.TagDecides" = some 3 by kernel_rfl).symm.trans hf) |>.symm
      obtain rfl : fn = Tryz.f3 := (Option.some.inj (Tryz.func3.symm.trans hfn)).symm
      exact ⟨by kernel_rfl, fun j t ht => by
        rw [Tryz.params3] at ht
        have hm : t ∈ [24, 28] := by simpa using Array.mem_of_getElem? ht
        have hall : ([24, 28].all fun u => !Tryz.prog.wantsStandIn u) = true := by kernel_rfl
        exact (show Tryz.prog.wantsStandIn t = false by simpa using List.all_eq_true.1 hall t hm)⟩)
    (by kernel_rfl)
#print axioms tagDecidesUpto_card
end Go.Proofs.YtjngpafokkjkdaaGreatDoor
