/- Several texts as one. -/
import Derived.Test.YtepidekmnkempaaDoorAMe
import Derived.Test.YtepidekmnkempaaDoorMgN
import Derived.Test.YtepidekmnkempaaDoorMgM
import Derived.Test.YtepidekmnkempaaDoorRows
import Derived.Deep.DeepHandedRow
import Derived.Lay
import Derived.Stop.Joined
/-
  The law's awake.
-/
set_option linter.unusedVariables false
set_option linter.unusedSimpArgs false
namespace Go.Proofs.YtepidekmnkempaaDoor
open Go.RowKit Go.Shelf
namespace Ac
open Oc Tg

theorem qual_half : qual [48, 46, 53] = (500, 0) := by decide
theorem parM_html : parM [84, 101, 120, 116, 47, 72, 116, 109, 108] = some ([116, 101, 120, 116], [104, 116, 109, 108], []) := by rfl

set_option maxRecDepth 100000 in
set_option maxHeartbeats 1000000 in
theorem awake_any (w : World) (hw : Env w) :
    Calls Tryd.prog 7 #[] w fun e w' => e = .returned (.bool true) ∧ Below w.heap.size w w' := by
  have HQ : Hid (∀ w, ML w → Calls Tryd.prog 18 #[.string ⟨#[48, 46, 53]⟩] w fun e w' => e = .returned (.tuple #[.int .i64 500, .int .i64 0]) ∧ Below w.heap.size w w') := fun w h => by
    have := Quality_any ⟨#[48, 46, 53]⟩ (by show 3 ≤ 4000000000; omega) w h
    rw [show (⟨#[48, 46, 53]⟩ : ByteArray).data.toList = [48, 46, 53] from rfl, qual_half] at this
    exact this
  have HP : Hid (∀ w, Env w → Calls Tryd.prog 5 #[.string ⟨#[84, 101, 120, 116, 47, 72, 116, 109, 108]⟩] w fun e w' => ∃ v, e = .returned (.tuple #[.agg #[.string ⟨#[116, 101, 120, 116]⟩, .string ⟨#[104, 116, 109, 108]⟩, v], .int .i64 0]) ∧ OwnP 71 w.heap.size v [] w' ∧ Below w.heap.size w w') := fun w h => by
    have := Parse_any ⟨#[84, 101, 120, 116, 47, 72, 116, 109, 108]⟩ (by show 9 ≤ 134217728; omega) w h
    rw [show (⟨#[84, 101, 120, 116, 47, 72, 116, 109, 108]⟩ : ByteArray).data.toList = [84, 101, 120, 116, 47, 72, 116, 109, 108] from rfl, parM_html] at this
    exact this
  have HE : Hid (Env w) := hw
  clear hw
  go_enter Tryd.func7, Tryd.ntmps7
  go_wp2_with fail
  refine (HQ.out _ HE.out.2).mono ?_
  rintro e w2 ⟨rfl, hb2⟩
  have HB2 : Hid (Below w.heap.size w w2) := hb2
  clear hb2
  go_wp2_with fail
  refine (HP.out _ (HE.out.below HB2.out)).mono ?_
  rintro e w3 ⟨v, rfl, ho, hb3⟩
  have HB3 : Hid (Below w.heap.size w w3) := bel_trans HB2.out hb3
  have HB4 : Hid (Below w.heap.size w (w3.alloc (.cells #[.string ⟨#[116, 101, 120, 116]⟩, .string ⟨#[104, 116, 109, 108]⟩, v] 24))) := HB3.out.alloc HB3.out.size _
  obtain ⟨va, vc, rfl, _⟩ := OwnP.rd ho
  clear hb3 ho HP HQ
  go_wp2
  go_ret
  exact ⟨rfl, HB4.out⟩

end Ac
end Go.Proofs.YtepidekmnkempaaDoor

/-
  AcceptParses.
-/
set_option maxRecDepth 100000
set_option linter.unusedVariables false
set_option linter.unusedSimpArgs false
namespace Go.Proofs.YtepidekmnkempaaDoor
open Go.RowKit Go.Shelf
namespace Ac
open Oc Tg

theorem parM_len (l : List UInt8) : (mdP (parM l)).length ≤ l.length := by
  obtain ⟨_, h2, _, _⟩ := med_bd (trim l)
  have h3 := trim_len l
  have h4 : (mdP (parM l)).length ≤ (mdP (med (trim l))).length := by
    unfold parM
    cases h : med (trim l) with
    | none => exact Nat.le_refl _
    | some x =>
      dsimp only
      split
      · exact Nat.zero_le _
      · exact Nat.le_refl _
  omega

set_option maxHeartbeats 4000000 in
theorem walk_AcceptParses (s : ByteArray) (hs : s.size ≤ 1048576) (w : World) (hw : Env w) :
    Calls Tryd.prog 3 #[.string s] w fun e w' => e = .returned (.bool true) ∧ Below w.heap.size w w' := by
  have hlen := parM_len s.data.toList
  rw [size_list] at hlen
  have HE : Hid (∀ W, Below w.heap.size w W → Env W) := fun W b => hw.below b
  have HPa : Hid (Calls Tryd.prog 5 #[.string s] w _) := Parse_any s (by omega) w hw
  have HRp : Hid (∀ W, Below w.heap.size w W → Calls Tryd.prog 6 #[.string s] W _) := fun W b => rParse07_any s (by omega) W (hw.below b)
  clear hw
  generalize parM s.data.toList = PM at *
  generalize parE PM = E at *
  generalize str (mdT PM) = A at *
  generalize str (mdS PM) = B at *
  generalize mdP PM = t at *
  have hEE : (E == E) = true := by simp
  go_enter Tryd.func3, Tryd.ntmps3
  go_wp2_with fail
  refine HPa.out.mono ?_
  rintro e w1 ⟨v1, rfl, ho1, hb1⟩
  obtain ⟨a1, c1, rfl, _⟩ := OwnP.rd ho1
  have HR1 : Hid (RdP (.slice a1 t.length c1) t w1) := OwnP.rd ho1
  have HB1 : Hid (Below w.heap.size w w1) := hb1
  clear ho1 hb1
  have hbx : Below w1.heap.size w1 (w1.alloc (.cells #[.string A, .string B, .slice a1 t.length c1] 24)) := (Below.refl _ w1).alloc (Nat.le_refl _) _
  have HX1 : Hid ((w1.alloc (.cells #[.string A, .string B, .slice a1 t.length c1] 24)).heap[w1.heap.size]? = some (.cells #[.string A, .string B, .slice a1 t.length c1] 24 (0, 0))) := heap_alloc_new w1 _
  have HB1x : Hid (Below w.heap.size w (w1.alloc (.cells #[.string A, .string B, .slice a1 t.length c1] 24))) := bel_trans HB1.out hbx
  have HR1x : Hid (RdP (.slice a1 t.length c1) t (w1.alloc (.cells #[.string A, .string B, .slice a1 t.length c1] 24))) := HR1.out.below hbx
  have hsz1 : Hid (w1.heap.size < (w1.alloc (.cells #[.string A, .string B, .slice a1 t.length c1] 24)).heap.size) := (by simp : _ < _)
  clear hbx HR1 HB1
  go_wp2_with fail
  generalize w1.alloc (.cells #[.string A, .string B, .slice a1 t.length c1] 24) = w2 at *
  refine (HRp.out _ HB1x.out).mono ?_
  rintro e w3 ⟨v2, rfl, ho3, hb3⟩
  obtain ⟨a2, c2, rfl, _⟩ := OwnP.rd ho3
  have HR3 : Hid (RdP (.slice a2 t.length c2) t w3) := OwnP.rd ho3
  have HR1y : Hid (RdP (.slice a1 t.length c1) t w3) := HR1x.out.below hb3
  have HX3 : Hid (w3.heap[w1.heap.size]? = some (.cells #[.string A, .string B, .slice a1 t.length c1] 24 (0, 0))) := (hb3.block _ hsz1.out).trans HX1.out
  have HB3 : Hid (Below w.heap.size w w3) := bel_trans HB1x.out hb3
  have hs3 : Hid (w1.heap.size < w3.heap.size) := Nat.lt_of_lt_of_le hsz1.out hb3.size
  clear ho3 hb3 HX1 HB1x HR1x hsz1
  have hbx : Below w3.heap.size w3 (w3.alloc (.cells #[.string A, .string B, .slice a2 t.length c2] 30)) := (Below.refl _ w3).alloc (Nat.le_refl _) _
  have HY4 : Hid ((w3.alloc (.cells #[.string A, .string B, .slice a2 t.length c2] 30)).heap[w3.heap.size]? = some (.cells #[.string A, .string B, .slice a2 t.length c2] 30 (0, 0))) := heap_alloc_new w3 _
  have HX4 : Hid ((w3.alloc (.cells #[.string A, .string B, .slice a2 t.length c2] 30)).heap[w1.heap.size]? = some (.cells #[.string A, .string B, .slice a1 t.length c1] 24 (0, 0))) := (hbx.block _ hs3.out).trans HX3.out
  have HB4 : Hid (Below w.heap.size w (w3.alloc (.cells #[.string A, .string B, .slice a2 t.length c2] 30))) := bel_trans HB3.out hbx
  have HRa : Hid (RdP (.slice a1 t.length c1) t (w3.alloc (.cells #[.string A, .string B, .slice a2 t.length c2] 30))) := HR1y.out.below hbx
  have HRb : Hid (RdP (.slice a2 t.length c2) t (w3.alloc (.cells #[.string A, .string B, .slice a2 t.length c2] 30))) := HR3.out.below hbx
  clear hbx HR3 HR1y HX3 HB3 hs3
  go_wp2_with fail
  generalize w3.alloc (.cells #[.string A, .string B, .slice a2 t.length c2] 30) = w4 at *
  refine (awake_any w4 (HE.out _ HB4.out)).mono ?_
  rintro e w5 ⟨rfl, hb5⟩
  have hX5 : w5.heap[w1.heap.size]? = some (.cells #[.string A, .string B, .slice a1 t.length c1] 24 (0, 0)) := (hb5.block _ (Array.getElem?_eq_some_iff.1 HX4.out).1).trans HX4.out
  have hY5 : w5.heap[w3.heap.size]? = some (.cells #[.string A, .string B, .slice a2 t.length c2] 30 (0, 0)) := (hb5.block _ (Array.getElem?_eq_some_iff.1 HY4.out).1).trans HY4.out
  have HRa5 : Hid (RdP (.slice a1 t.length c1) t w5) := HRa.out.below hb5
  have HRb5 : Hid (RdP (.slice a2 t.length c2) t w5) := HRb.out.below hb5
  have HB5 : Hid (Below w.heap.size w w5) := bel_trans HB4.out hb5
  have x0 := Lib.cell_of_heap hX5 0
  have x1 := Lib.cell_of_heap hX5 1
  have x2 := Lib.cell_of_heap hX5 2
  have y0 := Lib.cell_of_heap hY5 0
  have y1 := Lib.cell_of_heap hY5 1
  have y2 := Lib.cell_of_heap hY5 2
  simp only [List.getElem?_toArray, List.getElem?_cons_zero, List.getElem?_cons_succ] at x0 x1 x2 y0 y1 y2
  clear hb5 hX5 hY5 HX4 HY4 HRa HRb HB4
  go_wp2_with fail
  refine (alike07_any A B _ _ t w5 HRa5.out HRb5.out (by omega)).mono ?_
  rintro e w6 ⟨rfl, hb6⟩
  have HB6 : Hid (Below w.heap.size w w6) := bel_trans HB5.out hb6
  clear hb6
  go_wp2
  go_ret
  exact ⟨by simp, HB6.out⟩

end Ac
end Go.Proofs.YtepidekmnkempaaDoor

/-
  A witness for a row with a condition of its own, at a world whose listed tables are laid.
-/
set_option linter.unusedVariables false
namespace Go.Proofs.YtepidekmnkempaaDoor
namespace Oc

theorem witness_zip {H : Type} {enc : TypeId × Value → H} {C : Checked} {os : Os} {f : FuncId} {fn : Func} {s : OpenSpec} {conds : List PathCond} {apart : Bool} {laid : List (String × DataW Unit)} (modest : Bool) (w0 : World) (args : Array Value) (hos : w0.os = os)
    (hsh : (w0.forCall (fun _ _ => 0) ⟨#[], args, []⟩).Shaped C.prog)
    (hok : Input.okWideB C.prog (w0.forCall (fun _ _ => 0) ⟨#[], args, []⟩) f ⟨#[], args, []⟩ = true)
    (hrow : s.preRow enc C.prog fn conds apart laid (w0.forCall (fun _ _ => 0) ⟨#[], args, []⟩).memory args) :
    ∃ (w : World) (tape : Tape) (i : Input), w.os = os ∧ (w.forCall tape i).Shaped C.prog ∧ i.vars = [] ∧ Input.okWide C.prog (w.forCall tape i) .any w.heap.size f i ∧
      s.preRow enc C.prog fn conds apart laid (w.forCall tape i).memory i.args ∧ ({ modest := modest } : Assume).holds C.prog (lone (Frame.enter C.prog f i.args .normal) [] (w.forCall tape i)) :=
  ⟨w0, fun _ _ => 0, ⟨#[], args, []⟩, hos, hsh, (Input.okWide_of_okWideB (base := 0) hok).1, (Input.okWide_of_okWideB hok).2, hrow, by
    simp only [Assume.holds]
    exact ⟨by simp, by simp, fun _ => Modest.zero, by simp, by simp⟩⟩

end Oc
end Go.Proofs.YtepidekmnkempaaDoor
