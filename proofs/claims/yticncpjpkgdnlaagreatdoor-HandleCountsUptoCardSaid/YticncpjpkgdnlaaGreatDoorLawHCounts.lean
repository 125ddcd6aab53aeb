/-
  The law HandleCounts, where what it reads is of bulk at most 1048576: the row, the tied card.
-/
import Derived.Test.YticncpjpkgdnlaaGreatDoorRows
import Derived.Test.YticncpjpkgdnlaaGreatDoorCards
import Derived.Test.YticncpjpkgdnlaaGreatDoorTie
import Derived.Test.YticncpjpkgdnlaaGreatDoorWKd
import Derived.Test.YticncpjpkgdnlaaGreatDoorHwE
import Derived.Test.YticncpjpkgdnlaaGreatDoorHwG
import Derived.Test.YticncpjpkgdnlaaGreatDoorMgO
import Derived.Test.YticncpjpkgdnlaaGreatDoorKoT
import Derived.Test.YticncpjpkgdnlaaGreatDoorWit
import Derived.ProofKit
import Derived.OpenShut
import Derived.ShutString
import Derived.ChangeOld
import Derived.Below
import Derived.Deep.DeepHandedRow
import Derived.Stop.Joined
import Derived.SevenTiedAt
import Derived.Lib.LaidTab
import Derived.Lay
import Derived.Stop.LaidErr
import Derived.LaidMore
import Derived.JoinedCond
import Derived.LaidHandle
set_option linter.unusedVariables false
set_option linter.unusedSimpArgs false
namespace Go.Proofs.YticncpjpkgdnlaaGreatDoor.handleCountsUpto
open Go.ChangeShapes Go.WideShapes Go.ChangeAt Go.RowKit
open Go.ChangeMaps (open_string shut_string)
open Go.Proofs.YticncpjpkgdnlaaGreatDoor.Oc
open Go.Proofs.YticncpjpkgdnlaaGreatDoor.Fd
open Go.Proofs.YticncpjpkgdnlaaGreatDoor.Ms

theorem own : ownKnob Tryz.prog.godebug = none := by kernel_rfl
def laidL : List (String × DataW Unit) := [("math/bits.deBruijn32tab", Rows.laid_math_bits_deBruijn32tab), ("math/bits.deBruijn64tab", Rows.laid_math_bits_deBruijn64tab), ("internal/strconv.uint64pow10", Rows.laid_internal_strconv_uint64pow10), ("unicode/utf8.acceptRanges", Rows.laid_unicode_utf8_acceptRanges), ("errors.errorType", Rows.laid_errors_errorType), ("turnpike/octet.tokenSigns", Rows.laid_turnpike_octet_tokenSigns), ("turnpike/stamp.plainMonths", Rows.laid_turnpike_stamp_plainMonths), ("turnpike/stamp.shortDays", Rows.laid_turnpike_stamp_shortDays), ("turnpike/stamp.longDays", Rows.laid_turnpike_stamp_longDays), ("turnpike/stamp.months", Rows.laid_turnpike_stamp_months), ("turnpike/cookie.sameWords", Rows.laid_turnpike_cookie_sameWords), ("unicode/utf8.first", Rows.laid_unicode_utf8_first)]
def plainL : List (String × DataW Unit) := [("math/bits.deBruijn32tab", Rows.laid_math_bits_deBruijn32tab), ("math/bits.deBruijn64tab", Rows.laid_math_bits_deBruijn64tab), ("internal/strconv.uint64pow10", Rows.laid_internal_strconv_uint64pow10), ("unicode/utf8.acceptRanges", Rows.laid_unicode_utf8_acceptRanges), ("turnpike/octet.tokenSigns", Rows.laid_turnpike_octet_tokenSigns), ("turnpike/stamp.plainMonths", Rows.laid_turnpike_stamp_plainMonths), ("turnpike/stamp.shortDays", Rows.laid_turnpike_stamp_shortDays), ("turnpike/stamp.longDays", Rows.laid_turnpike_stamp_longDays), ("turnpike/stamp.months", Rows.laid_turnpike_stamp_months), ("turnpike/cookie.sameWords", Rows.laid_turnpike_cookie_sameWords), ("unicode/utf8.first", Rows.laid_unicode_utf8_first)]
def handL : List (String × DataW Unit) := [("errors.errorType", Rows.laid_errors_errorType)]
theorem split_laid {W : World} (h : laidMetH Tryz.prog laidL W) : laidMet Tryz.prog plainL W ∧ handlesMet Tryz.prog handL W := h
theorem gErr : Tryz.prog.globalNamed "errors.errorType" = some 5 := by kernel_rfl
/-- A world that meets the condition: the handle's cell laid, then the plain tables. -/
noncomputable def w0L (os : Os) : World :=
  let w0 := World.holding Tryz.prog os ⟨#[], #[], []⟩
  { w0 with heap := w0.heap.modify 5 fun
      | .cells _ t frozen => .cells #[.iface 365 (.agg #[.pointer (some ⟨13, 60, none⟩)])] t frozen
      | o => o }
noncomputable def laidW (os : Os) : World := (w0L os).layVars Tryz.prog plainL
theorem plain_met (os : Os) : laidMet Tryz.prog plainL (laidW os) := by
  have e1 : (plainL.filter fun x => (plainL.map (·.1)).contains x.1) = plainL := List.filter_eq_self.2 fun x hx => List.contains_iff_mem.2 (List.mem_map.2 ⟨x, hx, rfl⟩)
  have e2 : (plainL.filter fun x => !(plainL.map (·.1)).contains x.1) = [] := List.filter_eq_nil_iff.2 fun x hx => by rw [List.contains_iff_mem.2 (List.mem_map.2 ⟨x, hx, rfl⟩)]; simp
  have hf : (w0L os).layFits Tryz.prog plainL [] = true := by kernel_rfl
  have hi : (w0L os).layIfaces Tryz.prog plainL (laidW os) = true := by kernel_rfl
  exact laidMet_layVars (w0 := w0L os) (plainL.map (·.1)) [] (by rw [e1]; rfl) (by rw [e1]; exact hf) (by rw [e1]; exact hi) (by rw [e2]; exact LaidIn.none)
theorem tPow : (Tryz.prog.globals[6]?).map (·.type) = some 335 := by kernel_rfl
theorem pow_of_laid {W : World} (h : laidMetH Tryz.prog laidL W) : Pow W := by
  have h := (split_laid h).1
  have h := laidMet.tail (laidMet.tail h)
  exact Lib.tabIs_of_head (k := .u64) (zs := Lib.pow10Tab) gPow tPow Tryz.underlying335 Tryz.underlying239 (by kernel_rfl) (by kernel_rfl) h
theorem gTok : Tryz.prog.globalNamed "turnpike/octet.tokenSigns" = some 4 := by kernel_rfl
theorem tTok : (Tryz.prog.globals[4]?).map (·.type) = some 267 := by kernel_rfl
theorem tab_of_laid {W : World} (h : laidMetH Tryz.prog laidL W) : Tab W := by
  have h := (split_laid h).1
  have h := laidMet.tail (laidMet.tail (laidMet.tail (laidMet.tail h)))
  have hT := Lib.tabIs_of_head (k := .u64) (zs := [288068722172624896, 6341068274398134270, 0, 0]) gTok tTok Tryz.underlying267 Tryz.underlying239 (by kernel_rfl) (by kernel_rfl) h
  exact tab_mk (hT.cell gTok 0 (by decide)) (hT.cell gTok 1 (by decide)) (hT.cell gTok 2 (by decide)) (hT.cell gTok 3 (by decide))
theorem gPm : Tryz.prog.globalNamed "turnpike/stamp.plainMonths" = some 8 := by kernel_rfl
theorem gSd : Tryz.prog.globalNamed "turnpike/stamp.shortDays" = some 3 := by kernel_rfl
theorem gLd : Tryz.prog.globalNamed "turnpike/stamp.longDays" = some 2 := by kernel_rfl
theorem gMo : Tryz.prog.globalNamed "turnpike/stamp.months" = some 1 := by kernel_rfl
theorem gSw : Tryz.prog.globalNamed "turnpike/cookie.sameWords" = some 0 := by kernel_rfl
theorem tPm : (Tryz.prog.globals[8]?).map (·.type) = some 351 := by kernel_rfl
theorem tSd : (Tryz.prog.globals[3]?).map (·.type) = some 252 := by kernel_rfl
theorem tLd : (Tryz.prog.globals[2]?).map (·.type) = some 252 := by kernel_rfl
theorem tMo : (Tryz.prog.globals[1]?).map (·.type) = some 250 := by kernel_rfl
theorem tSw : (Tryz.prog.globals[0]?).map (·.type) = some 153 := by kernel_rfl
theorem tb_of_laid {W : World} (h : laidMetH Tryz.prog laidL W) : Bs.Tb W := by
  have hP := pow_of_laid h
  have h := (split_laid h).1
  have h3 := laidMet.tail (laidMet.tail (laidMet.tail (laidMet.tail (laidMet.tail h))))
  have h4 := laidMet.tail h3
  have h5 := laidMet.tail h4
  have h6 := laidMet.tail h5
  have hM := Lib.tabIs_of_head (k := .i64) (zs := Bs.pms) gPm tPm Tryz.underlying351 Tryz.underlying3 (by kernel_rfl) (by kernel_rfl) h3
  have hS := Bs.stab_cell (zs := Bs.shorts) gSd tSd Tryz.underlying252 Tryz.underlying9 (by kernel_rfl) (by kernel_rfl) h4
  have hL := Bs.stab_cell (zs := Bs.longs) gLd tLd Tryz.underlying252 Tryz.underlying9 (by kernel_rfl) (by kernel_rfl) h5
  have hO := Bs.stab_cell (zs := Bs.mons) gMo tMo Tryz.underlying250 Tryz.underlying9 (by kernel_rfl) (by kernel_rfl) h6
  exact ⟨World.block_lt_of_cell? W _ (hM.cell gPm 0 (by decide)), World.block_lt_of_cell? W _ (hS 0 (by decide)), World.block_lt_of_cell? W _ (hL 0 (by decide)), World.block_lt_of_cell? W _ (hO 0 (by decide)), World.block_lt_of_cell? W _ (hP.cell gPow 0 (by decide)), fun i hi => hM.cell gPm i hi, fun i hi => hS i hi, fun i hi => hL i hi, fun i hi => hO i hi, hP⟩
theorem sw_of_laid {W : World} (h : laidMetH Tryz.prog laidL W) : Ko.SW W := by
  have h := (split_laid h).1
  have h7 := laidMet.tail (laidMet.tail (laidMet.tail (laidMet.tail (laidMet.tail (laidMet.tail (laidMet.tail (laidMet.tail (laidMet.tail h))))))))
  exact Bs.stab_cell (zs := [[], [76, 97, 120], [83, 116, 114, 105, 99, 116], [78, 111, 110, 101]]) gSw tSw Tryz.underlying153 Tryz.underlying9 (by kernel_rfl) (by kernel_rfl) h7 0 (by decide)
theorem print0 {w : World} (tb : Bs.Tb w) (W : World) (h : Below w.heap.size w W) : Calls Tryz.prog 100 #[.int .i64 0] W fun e w' => ∃ (x : ByteArray) (E : Int), e = .returned (.tuple #[.string x, .int .i64 E]) ∧ x.size ≤ 100 ∧ Below W.heap.size W w' :=
  (Bs.Print_any 0 (by unfold Bs.I64; omega) W (tb.bel h)).mono fun e w' ⟨he, hb⟩ => ⟨_, _, he, by rw [Bs.str_size]; decide +kernel, hb⟩
theorem i64w {x : Int} (h : (Lit.int .i64 x).wf = true) : Ms.i64 x := by
  have := bounds_i64 h
  unfold Ms.i64
  omega



theorem laid_met (os : Os) : laidMetH Tryz.prog laidL ((laidW os).forCall (fun _ _ => 0) ⟨#[], #[.string ByteArray.empty, .int .i64 0, .int .i64 0], []⟩).memory :=
  laidMetH_of_parts ((plain_met os).of_heap (by simp [World.memory, World.forCall, Input.heap])) (by kernel_rfl)
theorem reads (os : Os) {H : Type} (enc : TypeId × Value → H) : ∃ places, DataW.whole enc Tryz.prog ((laidW os).forCall (fun _ _ => 0) ⟨#[], #[.string ByteArray.empty, .int .i64 0, .int .i64 0], []⟩).memory Tryz.f3.params.toList Rows.handleCountsSpec.vars false (#[.string ByteArray.empty, .int .i64 0, .int .i64 0] : Array Value).toList 8 = some ([.lit (.string []), .lit (.int .i64 0), .lit (.int .i64 0)], [], places) :=
  ⟨[], by kernel_rfl⟩

set_option maxRecDepth 100000 in
theorem lifted (os : Os) (started : os.Started) (H : Type) (enc : TypeId × Value → H) (F : Stop.Interp) :
    ReturnsInHanded {} Tryz.checked os 3 .any ((Rows.OpenSpec.upto Rows.handleCountsSpec).preRow enc Tryz.prog Tryz.f3 Rows.handleCountsUptoRow.domain false Rows.handleCountsUptoRow.laid) (((Rows.OpenSpec.upto Rows.handleCountsSpec).at F).post enc Tryz.prog Tryz.f3 false true false false) := by
  obtain ⟨places, hx⟩ := reads os enc
  refine returnsInHanded_of_row (C := Tryz.checked) (s := Rows.OpenSpec.upto Rows.handleCountsSpec) own started (by kernel_rfl) Tryz.func3
    (witness_zip (enc := enc) (C := Tryz.checked) false (laidW os) #[.string ByteArray.empty, .int .i64 0, .int .i64 0] (by unfold laidW; rw [World.layVars_os]; rfl) (World.shaped_of_ZipB (by kernel_rfl) (by kernel_rfl)) (by kernel_rfl)
      (OpenSpec.preRow_of_cond 8 hx (by kernel_rfl) (fun k hk => by cases hk; kernel_rfl) (by kernel_rfl) (laid_met os))) ?_
  intro W base args ds gs before hval0 hW _ hcond _ hL0 hsh _
  have hL : laidMetH Tryz.prog laidL W := hL0
  have hval : ∀ (j : Nat) t v, Tryz.f3.params[j]? = some t → args[j]? = some v → Value.okWide Tryz.prog W .any base t v := hval0
  have hk := of_decide_eq_true (hcond _ rfl)
  have hW' := hW
  obtain ⟨p, q, hA0, hV, rfl, hfz, hnd⟩ := hW
  have hA : DataW.TrodAll enc Tryz.prog W 0 (fun _ => true) true Tryz.f3.params.toList args.toList ds p := hA0
  rw [Tryz.params3] at hA hval
  obtain ⟨v0, vs0, d0, ds0, p0, q0, hargs, rfl, rfl, h0, r0⟩ := trodAll_cons hA
  obtain ⟨v1, vs1, d1, ds1, p1, q1, rfl, rfl, rfl, h1, r1⟩ := trodAll_cons r0
  obtain ⟨v2, vs2, d2, ds2, p2, q2, rfl, rfl, rfl, h2, r2⟩ := trodAll_cons r1
  obtain ⟨rfl, rfl, rfl⟩ := trodAll_nil r2
  obtain rfl : args = #[v0, v1, v2] := by cases args; simp_all
  obtain ⟨rfl, rfl⟩ := trodVars_none hV
  obtain ⟨a0, rfl, rfl, rfl, w0⟩ := open_string Tryz.underlying9 (hval 0 9 v0 rfl rfl) h0
  obtain ⟨a1, rfl, rfl, rfl, w1⟩ := open_int Tryz.underlying3 (hval 1 3 v1 rfl rfl) h1
  obtain ⟨a2, rfl, rfl, rfl, w2⟩ := open_int Tryz.underlying3 (hval 2 3 v2 rfl rfl) h2
  simp only [List.append_nil, Rows.uptoBulkAll, Rows.uptoBulk] at hk
  have s0 := size_list a0
  have b0 : a0.size ≤ 1048576 := by omega
  have pw := pow_of_laid hL
  have tab := tab_of_laid hL
  have tbs := tb_of_laid hL
  have sw := sw_of_laid hL
  have ml : Tg.ML W := Tryz.laysM145.s1_3 W hsh
  clear hA0 hval0
  simp only [List.append_nil] at hW'
  refine (Ko.walk_HandleCounts a0 b0 a1 a2 (i64w w1) W ml tab pw sw (fun W2 h2 => print0 tbs W2 h2)).mono fun e W' ⟨he, bel⟩ => ?_
  subst he
  exact ⟨_, rfl, _, _, _, [], [], [], hW', trodAll_mk1 (shut_bool Tryz.underlying4 _), (trodAll_cons_mk (shut_string Tryz.underlying9 w0) (trodAll_cons_mk (shut_int Tryz.underlying3 w1) (trodAll_cons_mk (shut_int Tryz.underlying3 w2) trodAll_mk0))), rfl, bel.frame _, fun h => by cases h⟩

theorem over : Rows.HandleCountsUptoSaid :=
  OpenClaim.holds_of_cond 3 Tryz.f3 rfl rfl rfl rfl rfl rfl rfl ⟨rfl, rfl, rfl, rfl, rfl⟩ rfl rfl rfl rfl rfl (by kernel_rfl) Tryz.func3 hwE
    (of_decide_eq_true (by kernel_rfl)) (by unfold Func.isWrapper; first | (rw [if_pos (by decide +kernel)]; kernel_rfl) | (rw [if_neg (by decide +kernel)]; exact ⟨rfl, rfl⟩))
    (fun os started H enc _ F => by rw [OpenClaim.pre_eq_preRow]; exact lifted os started H enc F)

end Go.Proofs.YticncpjpkgdnlaaGreatDoor.handleCountsUpto

namespace Go.Proofs.YticncpjpkgdnlaaGreatDoor
open Go
/-- The tied card of the second form. -/
theorem handleCountsUpto_card : Rows.HandleCountsUptoCardSaid :=
  Claim7.holds_tied_plain_at .later [] [.data, .data, .data, .data, .handle, .data, .data, .data, .data, .data, .data, .pinned] true (true, "80f9192e29882d86db43c23096afa9a93d978e912a343c005ac040e76bc7f867") true
    handleCountsUpto.over (fun _ h => by cases h) (by kernel_rfl) (fun _ h => by cases h) handleCountsUpto_row_tie rfl ⟨rfl, rfl⟩ (by kernel_rfl) rfl
    (fun f fn hf hfn => by
      obtain rfl : f = 3 := Option.some.inj ((show Tryz.prog.funcNamed "turnpike/turnpikelaw18.HandleCounts" = some 3 by kernel_rfl).symm.trans hf) |>.symm
      obtain rfl : fn = Tryz.f3 := (Option.some.inj (Tryz.func3.symm.trans hfn)).symm
      exact ⟨by kernel_rfl, fun j t ht => by
        rw [Tryz.params3] at ht
        have hm : t ∈ [9, 3, 3] := by simpa using Array.mem_of_getElem? ht
        have hall : ([9, 3, 3].all fun u => !Tryz.prog.wantsStandIn u) = true := by kernel_rfl
        exact (show Tryz.prog.wantsStandIn t = false by simpa using List.all_eq_true.1 hall t hm)⟩)
    hwG
#print axioms handleCountsUpto_card
end Go.Proofs.YticncpjpkgdnlaaGreatDoor
