/- Several texts as one. -/
import Derived.Test.YtjngpafokkjkdaaGreatDoorRows
import Derived.Test.YtjngpafokkjkdaaGreatDoorMgP
import Derived.LaidMore
import Derived.Deep.DeepHandedRow
import Derived.Lib.LaidTab
import Derived.Stop.LaidErr
import Derived.Test.YtjngpafokkjkdaaGreatDoorMgF1
import Derived.Lay
import Derived.Stop.Joined
/-
  The tables of dates lie where the program's text lays them (for the rows of tag).
-/
set_option linter.unusedVariables false
set_option linter.unusedSimpArgs false
namespace Go.Proofs.YtjngpafokkjkdaaGreatDoor
open Go.ChangeShapes Go.WideShapes Go.ChangeAt Go.RowKit
namespace Bs

def stabData {H : Type} (zs : List (List UInt8)) : DataW H := .agg (zs.map fun z => .lit (.string z))
theorem cells_of_stab {H : Type} {enc : TypeId × Value → H} {P : Program} {w : World} {base : Nat} {sp : Nat → Bool} {held : Bool} {fuel : Nat} {t e : TypeId} {n : Nat} {cs : List Value} {zs : List (List UInt8)} {p : List MemPlace}
    (ht : P.underlying t = some (.array n e)) (he : P.underlying e = some .string) (hce : P.cellsOf e = 1) (hct : P.cellsOf t = n)
    (h : DataW.trod enc P w base sp held fuel t cs = some (stabData zs, p)) : cs = zs.map fun z => Value.string (str z) := by
  cases fuel with
  | zero => simp [DataW.trod] at h
  | succ fuel =>
    simp only [DataW.trod, ht, hce, hct, Nat.mul_one] at h
    split at h
    · rename_i hl
      obtain ⟨xs, hm, hx⟩ := Option.map_eq_some_iff.1 h
      have hxs : xs.map (·.1) = zs.map fun z => (DataW.lit (.string z) : DataW H) := by
        have := congrArg Prod.fst hx
        simpa [stabData] using this
      have hxl : xs.length = n := by simpa using Lib.mapM_length hm
      have hzl : zs.length = n := by
        have := congrArg List.length hxs
        simp at this
        omega
      apply List.ext_getElem?
      intro i
      by_cases hi : i < n
      · obtain ⟨b, hb, hf⟩ := Lib.mapM_at hm i i (by simp [hi])
        obtain ⟨z, hc, rfl, _⟩ := DataW.trod_string he hf
        have h1 : cs[i]? = some (.string z) := by
          have := congrArg (·[0]?) hc
          simpa [List.getElem?_take, List.getElem?_drop] using this
        have h2 : (xs.map (·.1))[i]? = some (DataW.lit (.string z.data.toList) : DataW H) := by simp [hb]
        rw [hxs] at h2
        simp only [List.getElem?_map, Option.map_eq_some_iff, DataW.lit.injEq, Lit.string.injEq] at h2
        obtain ⟨z', hz', e⟩ := h2
        simp [h1, hz', e, str_self]
      · rw [List.getElem?_eq_none (by omega), List.getElem?_eq_none (by simp; omega)]
    · cases h
theorem stab_cell {P : Program} {W : World} {name : String} {zs : List (List UInt8)} {rest : List (String × DataW Unit)} {g : Nat} {t e : TypeId} {n : Nat}
    (hg : P.globalNamed name = some g) (hty : (P.globals[g]?).map (·.type) = some t) (ht : P.underlying t = some (.array n e)) (he : P.underlying e = some .string) (hce : P.cellsOf e = 1) (hct : P.cellsOf t = n)
    (h : laidMet P ((name, stabData zs) :: rest) W) (i : Nat) (hi : i < zs.length) : W.cell? ⟨g, i, none⟩ = some (.string (str (zs.getD i []))) := by
  obtain ⟨ps, ⟨g', t', cs, fuel, p, q, hg', ht', hvar, hd, _, _⟩, _⟩ := h
  obtain rfl := Option.some.inj (hg.symm.trans hg')
  obtain rfl := Option.some.inj (hty.symm.trans ht')
  have hv : W.var? P name = some (zs.map fun z => Value.string (str z)).toArray := by rw [hvar, ← cells_of_stab ht he hce hct hd]
  have := World.var?_cell hg hv i
  simpa [List.getD, hi] using this

def laidL8 : List (String × DataW Unit) := [("unicode/utf8.acceptRanges", Rows.laid_unicode_utf8_acceptRanges), ("turnpike/stamp.plainMonths", Rows.laid_turnpike_stamp_plainMonths), ("turnpike/stamp.shortDays", Rows.laid_turnpike_stamp_shortDays), ("turnpike/stamp.longDays", Rows.laid_turnpike_stamp_longDays), ("turnpike/stamp.months", Rows.laid_turnpike_stamp_months), ("unicode/utf8.first", Rows.laid_unicode_utf8_first)]
theorem gPm : Tryz.prog.globalNamed "turnpike/stamp.plainMonths" = some 2 := by kernel_rfl
theorem gSd : Tryz.prog.globalNamed "turnpike/stamp.shortDays" = some 0 := by kernel_rfl
theorem gLd : Tryz.prog.globalNamed "turnpike/stamp.longDays" = some 1 := by kernel_rfl
theorem gMo : Tryz.prog.globalNamed "turnpike/stamp.months" = some 3 := by kernel_rfl
theorem tPm : (Tryz.prog.globals[2]?).map (·.type) = some 149 := by kernel_rfl
theorem tSd : (Tryz.prog.globals[0]?).map (·.type) = some 134 := by kernel_rfl
theorem tLd : (Tryz.prog.globals[1]?).map (·.type) = some 134 := by kernel_rfl
theorem tMo : (Tryz.prog.globals[3]?).map (·.type) = some 153 := by kernel_rfl

theorem tb_of_laid8 {W : World} (h : laidMetH Tryz.prog laidL8 W) : Tb W := by
  rw [MakeChecks.laidMetH_plain _ _ _ (by kernel_rfl)] at h
  have h3 := laidMet.tail h
  have h4 := laidMet.tail h3
  have h5 := laidMet.tail h4
  have h6 := laidMet.tail h5
  have hM := Lib.tabIs_of_head (k := .i64) (zs := pms) gPm tPm Tryz.underlying149 Tryz.underlying3 (by kernel_rfl) (by kernel_rfl) h3
  have hS := stab_cell (zs := shorts) gSd tSd Tryz.underlying134 Tryz.underlying9 (by kernel_rfl) (by kernel_rfl) h4
  have hL := stab_cell (zs := longs) gLd tLd Tryz.underlying134 Tryz.underlying9 (by kernel_rfl) (by kernel_rfl) h5
  have hO := stab_cell (zs := mons) gMo tMo Tryz.underlying153 Tryz.underlying9 (by kernel_rfl) (by kernel_rfl) h6
  exact ⟨World.block_lt_of_cell? W _ (hM.cell gPm 0 (by decide)), World.block_lt_of_cell? W _ (hS 0 (by decide)), World.block_lt_of_cell? W _ (hL 0 (by decide)), World.block_lt_of_cell? W _ (hO 0 (by decide)), fun i hi => hM.cell gPm i hi, fun i hi => hS i hi, fun i hi => hL i hi, fun i hi => hO i hi⟩

end Bs
end Go.Proofs.YtjngpafokkjkdaaGreatDoor

/-
  The law TagRanges, as its row hands it.
-/

/-
  A witness for a row with a condition of its own, at a world whose listed tables are laid.
-/
set_option linter.unusedVariables false
namespace Go.Proofs.YtjngpafokkjkdaaGreatDoor
namespace Oc

theorem witness_zip {H : Type} {enc : TypeId × Value → H} {C : Checked} {os : Os} {f : FuncId} {fn : Func} {s : OpenSpec} {conds : List PathCond} {apart : Bool} {laid : List (String × DataW Unit)} (modest : Bool) (w0 : World) (args : Array Value) (hos : w0.os = os)
    (hsh : (w0.forCall (fun _ _ => 0) ⟨#[], args, []⟩).Shaped C.prog)
    (hok : Input.okWideB C.prog (w0.forCall (fun _ _ => 0) ⟨#[], args, []⟩) f ⟨#[], args, []⟩ = true)
    (hrow : s.preRow enc C.prog fn conds apart laid (w0.forCall (fun _ _ => 0) ⟨#[], args, []⟩).memory args) :
    ∃ (w : World) (tape : Tape) (i : Input), w.os = os ∧ (w.forCall tape i).Shaped C.prog ∧ i.vars = [] ∧ Input.okWide C.prog (w.forCall tape i) .any w.heap.size f i ∧
      s.preRow enc C.prog fn conds apart laid (w.forCall tape i).memory i.args ∧ ({ modest := modest } : Assume).holds C.prog (lone (Frame.enter C.prog f i.args .normal) [] (w.forCall tape i)) :=
  ⟨w0, fun _ _ => 0, ⟨#[], args, []⟩, hos, hsh, (Input.okWide_of_okWideB (base := 0) hok).1, (Input.okWide_of_okWideB hok).2, hrow, by
    simp only [Assume.holds]
    exact ⟨by simp, by simp, fun _ => Modest.zero, by simp, by simp⟩⟩

end Oc
end Go.Proofs.YtjngpafokkjkdaaGreatDoor
