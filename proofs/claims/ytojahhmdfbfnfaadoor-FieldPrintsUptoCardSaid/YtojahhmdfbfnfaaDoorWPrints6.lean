/-
  FieldPrints.
-/
import Derived.Test.YtojahhmdfbfnfaaDoorFPw
set_option linter.unusedVariables false
set_option linter.unusedSimpArgs false
namespace Go.Proofs.YtojahhmdfbfnfaaDoor
open Go.RowKit Go.Shelf
namespace Fd
open Oc Tg

set_option maxRecDepth 100000 in
set_option maxHeartbeats 4000000 in
theorem walk_FieldPrints (v : Value) (t : List Fl) (hs : bulkfields t ≤ 1048576) (w : World) (hin : InF v t w) (hw : Env w) :
    Calls Tryd.prog 5 #[v] w fun e w' => e = .returned (.bool true) ∧ Below w.heap.size w w' := by
  unfold bulkfields at hs
  have hlen := len_sumF t
  have HA : Hid (Calls _ _ _ _ _) := awake_any w hw
  have HE : Hid (Env w) := hw
  have HI : Hid (InF v t w) := hin
  have HR : Hid (RdF v t w) := hin.1
  have HH : Hid (∀ w, InF v t w → Calls Tryd.prog 18 #[v] w fun e w' => ∃ u f, e = .returned (.tuple #[u, f]) ∧ InF u t w' ∧ RdF f (t ++ spareF) w' ∧ Below w.heap.size w w') := fun w h => handed_any v t w h (by omega)
  have HP : Hid (∀ u w, RdF u t w → Tab w → Calls Tryd.prog 19 #[u] w fun e w' => e = .returned (.tuple #[.string (str (printT t).1), .int .i64 (printT t).2]) ∧ Below w.heap.size w w') := fun u w h tb => Print_any u t hs w h tb
  have HQ : Hid (∀ u w, RdF u t w → Calls Tryd.prog 20 #[u] w fun e w' => e = .returned (.tuple #[.string (str (printT t).1), .int .i64 (printT t).2]) ∧ Below w.heap.size w w') := fun u w h => rPrint_any u t hs w h
  have HL : Hid (∀ w, RdF v t w → Calls Tryd.prog 21 #[v] w fun e w' => ∃ u, e = .returned u ∧ OwnF 30 w.heap.size u t w' ∧ Below w.heap.size w w') := fun w h => plain_any v t w h (by omega)
  have HO : Hid (∀ f w, RdF f (t ++ spareF) w → RdF v t w → Calls Tryd.prog 22 #[f, v] w fun e w' => e = .returned (.bool true) ∧ Below w.heap.size w w') := fun f w h1 h2 => whole_any f v t w h1 h2 (by omega)
  obtain ⟨⟨a, c, rfl, _⟩, _⟩ := hin
  clear hw
  generalize str (printT t).1 = PS at *
  generalize (printT t).2 = PZ at *
  have e1 : (PS.toList != PS.toList) = false := by simp
  have e2 : (PZ != PZ) = false := by simp
  go_enter Tryd.func5, Tryd.ntmps5
  go_wp2_with fail
  refine HA.out.mono ?_
  rintro e w1 ⟨rfl, hb⟩
  have HB1 : Hid (Below w.heap.size w w1) := hb
  clear hb
  go_wp2_with fail
  refine (HH.out _ (HI.out.below HB1.out)).mono ?_
  rintro e w2 ⟨u, f, rfl, hu, hf, hb⟩
  have HB2 : Hid (Below w.heap.size w w2) := bel_trans HB1.out hb
  have HU2 : Hid (RdF u t w2) := hu.1
  have HF2 : Hid (RdF f (t ++ spareF) w2) := hf
  clear hb hu hf
  go_wp2_with fail
  refine (HP.out _ _ HU2.out (HE.out.below HB2.out).1).mono ?_
  rintro e w3 ⟨rfl, hb⟩
  have HB3 : Hid (Below w.heap.size w w3) := bel_trans HB2.out hb
  have HF3 : Hid (RdF f (t ++ spareF) w3) := HF2.out.below hb
  clear hb
  go_wp2_with fail
  refine (HL.out _ (HR.out.below HB3.out)).mono ?_
  rintro e w4 ⟨q, rfl, hq, hb⟩
  have HB4 : Hid (Below w.heap.size w w4) := bel_trans HB3.out hb
  have HF4 : Hid (RdF f (t ++ spareF) w4) := HF3.out.below hb
  have HQ4 : Hid (RdF q t w4) := hq.rd
  clear hb hq
  go_wp2_with fail
  refine (HQ.out _ _ HQ4.out).mono ?_
  rintro e w5 ⟨rfl, hb⟩
  have HB5 : Hid (Below w.heap.size w w5) := bel_trans HB4.out hb
  have HF5 : Hid (RdF f (t ++ spareF) w5) := HF4.out.below hb
  clear hb
  go_wp2_with fail
  refine (HO.out _ _ HF5.out (HR.out.below HB5.out)).mono ?_
  rintro e w6 ⟨rfl, hb⟩
  have HB6 : Hid (Below w.heap.size w w6) := bel_trans HB5.out hb
  clear hb
  go_wp2
  go_loopw [49] (fun i wr => ∃ k : Nat, k ≤ t.length ∧ i = .int .i64 k ∧ Hid (Below w.heap.size w wr)) (fun i _ => t.length - (intOf i).toNat)
  case atStart => exact ⟨0, Nat.zero_le _, rfl, HB6⟩
  case round =>
    obtain ⟨k, hk, rfl, hbl⟩ := hrel
    clear HA HH HP HQ HL HO HB1 HB2 HU2 HF2 HB3 HF3 HB4 HF4 HQ4 HB5 HF5 HB6
    by_cases hlt : k < t.length
    · obtain ⟨a', c', e', hcs⟩ := HR.out.below hbl.out
      injection e' with e1 _ e2
      subst e1 e2
      rcases hcs with h | ⟨g, o, rfl, hlc, hcell⟩
      · rw [h] at hlt; simp at hlt
      obtain ⟨p0, p1⟩ := hcell k hlt
      have hz := sz_le t k hlt
      have hp1 : (nth t k).1.length ≤ 1048576 := by unfold szF at hz; omega
      have hp2 : (nth t k).2.length ≤ 1048576 := by unfold szF at hz; omega
      have H1 : Hid (∀ w, Tab w → Calls Tryd.prog 23 #[.agg #[.string (str (nth t k).1), .string (str (nth t k).2)]] w fun e w' => e = .returned (.tuple #[.string (str (printL (nth t k)).1), .int .i64 (printL (nth t k)).2]) ∧ Below w.heap.size w w') := fun w tb => PrintLine_any (nth t k) (by omega) (by omega) w tb
      have H2 : Hid (∀ w, Calls Tryd.prog 24 #[.agg #[.string (str (nth t k).1), .string (str (nth t k).2)]] w fun e w' => e = .returned (.tuple #[.string (str (printL (nth t k)).1), .int .i64 (printL (nth t k)).2]) ∧ Below w.heap.size w w') := fun w => rPrintLine_any (nth t k) (by omega) (by omega) w
      clear hcell hz hp1 hp2
      generalize nth t k = p at *
      generalize str (printL p).1 = LS at *
      generalize (printL p).2 = LZ at *
      have e3 : (LS.toList != LS.toList) = false := by simp
      have e4 : (LZ != LZ) = false := by simp
      generalize str p.1 = N at *
      generalize str p.2 = V at *
      have hb1 : Below wr.heap.size wr (wr.alloc (.cells #[.string N, .string V] 26)) := (Below.refl _ wr).alloc (Nat.le_refl _) _
      have HBW : Hid (Below w.heap.size w (wr.alloc (.cells #[.string N, .string V] 26))) := bel_trans hbl.out hb1
      clear hb1
      go_wp2_with fail
      refine (H1.out _ (HE.out.below HBW.out).1).mono ?_
      rintro e x2 ⟨rfl, hb2⟩
      have c0 : x2.cell? ⟨wr.heap.size, 0, none⟩ = some (.string N) := by rw [hb2.cell (by simp)]; simp
      have c1 : x2.cell? ⟨wr.heap.size, 1, none⟩ = some (.string V) := by rw [hb2.cell (by simp)]; simp
      have HX2 : Hid (Below w.heap.size w x2) := bel_trans HBW.out hb2
      clear hb2
      go_wp2_with fail
      refine (H2.out _).mono ?_
      rintro e x3 ⟨rfl, hb3⟩
      have HX3 : Hid (Below w.heap.size w x3) := bel_trans HX2.out hb3
      clear hb3
      go_wp2
      go_roundw
      case rel => exact ⟨k + 1, by omega, by go_num, HX3⟩
      case measure => simp [intOf]; omega
    · go_wp2
      go_ret
      exact ⟨rfl, hbl.out⟩

end Fd
end Go.Proofs.YtojahhmdfbfnfaaDoor
