/- Several texts as one. -/
import Derived.Test.YtnhkkemphjblhaaDoorMgM
import Derived.Test.YtnhkkemphjblhaaDoorMgN
import Derived.Test.YtnhkkemphjblhaaDoorMgP
import Derived.Test.YtnhkkemphjblhaaDoorMgQ
import Derived.Test.YtnhkkemphjblhaaDoorMgR
/-
  The law's awake.
-/
set_option linter.unusedVariables false
set_option linter.unusedSimpArgs false
namespace Go.Proofs.YtnhkkemphjblhaaDoor
open Go.RowKit Go.Shelf
namespace Ac
open Oc Tg

theorem qual_half : qual [48, 46, 53] = (500, 0) := by decide
theorem parM_html : parM [84, 101, 120, 116, 47, 72, 116, 109, 108] = some ([116, 101, 120, 116], [104, 116, 109, 108], []) := by rfl

set_option maxRecDepth 100000 in
set_option maxHeartbeats 1000000 in
theorem awake_any (w : World) (hw : Env w) :
    Calls Tryd.prog 9 #[] w fun e w' => e = .returned (.bool true) ∧ Below w.heap.size w w' := by
  have HQ : Hid (∀ w, ML w → Calls Tryd.prog 26 #[.string ⟨#[48, 46, 53]⟩] w fun e w' => e = .returned (.tuple #[.int .i64 500, .int .i64 0]) ∧ Below w.heap.size w w') := fun w h => by
    have := Quality_any ⟨#[48, 46, 53]⟩ (by show 3 ≤ 4000000000; omega) w h
    rw [show (⟨#[48, 46, 53]⟩ : ByteArray).data.toList = [48, 46, 53] from rfl, qual_half] at this
    exact this
  have HP : Hid (∀ w, Env w → Calls Tryd.prog 7 #[.string ⟨#[84, 101, 120, 116, 47, 72, 116, 109, 108]⟩] w fun e w' => ∃ v, e = .returned (.tuple #[.agg #[.string ⟨#[116, 101, 120, 116]⟩, .string ⟨#[104, 116, 109, 108]⟩, v], .int .i64 0]) ∧ OwnP 64 w.heap.size v [] w' ∧ Below w.heap.size w w') := fun w h => by
    have := Parse_any ⟨#[84, 101, 120, 116, 47, 72, 116, 109, 108]⟩ (by show 9 ≤ 134217728; omega) w h
    rw [show (⟨#[84, 101, 120, 116, 47, 72, 116, 109, 108]⟩ : ByteArray).data.toList = [84, 101, 120, 116, 47, 72, 116, 109, 108] from rfl, parM_html] at this
    exact this
  have HE : Hid (Env w) := hw
  clear hw
  go_enter Tryd.func9, Tryd.ntmps9
  go_wp2_with fail
  refine (HQ.out _ HE.out.2).mono ?_
  rintro e w2 ⟨rfl, hb2⟩
  have HB2 : Hid (Below w.heap.size w w2) := hb2
  clear hb2
  go_wp2_with fail
  refine (HP.out _ (HE.out.below HB2.out)).mono ?_
  rintro e w3 ⟨v, rfl, ho, hb3⟩
  have HB3 : Hid (Below w.heap.size w w3) := bel_trans HB2.out hb3
  have HB4 : Hid (Below w.heap.size w (w3.alloc (.cells #[.string ⟨#[116, 101, 120, 116]⟩, .string ⟨#[104, 116, 109, 108]⟩, v] 24))) := HB3.out.alloc HB3.out.size _
  obtain ⟨va, vc, rfl, _⟩ := OwnP.rd ho
  clear hb3 ho HP HQ
  go_wp2
  go_ret
  exact ⟨rfl, HB4.out⟩

end Ac
end Go.Proofs.YtnhkkemphjblhaaDoor

/-
  AcceptCodings.
-/
set_option linter.unusedVariables false
set_option linter.unusedSimpArgs false
namespace Go.Proofs.YtnhkkemphjblhaaDoor
open Go.RowKit Go.Shelf
namespace Ac
open Oc Tg

theorem mem_sumL : ∀ (t : List (List UInt8)) (x : List UInt8), x ∈ t → x.length ≤ sumL t := fun t x hx => by
  obtain ⟨j, hj, rfl⟩ := List.mem_iff_getElem.1 hx
  have := el_le t j hj
  rwa [List.getD_eq_getElem?_getD, List.getElem?_eq_getElem hj] at this

set_option maxRecDepth 100000 in
set_option maxHeartbeats 2000000 in
theorem walk_AcceptCodings (v : Value) (t : List Wt) (ht : bulkweights t ≤ 1048576) (g : Bool) (u : Value) (os : List (List UInt8)) (hos : bulkstrings os ≤ 1048576) (w : World) (hv : RdW v t w ∧ NilW v t ∧ ∀ p ∈ t, inI p.2) (hu : RdS u os w) (hw : Env w) :
    Calls Tryd.prog 5 #[v, .bool g, u] w fun e w' => e = .returned (.bool true) ∧ Below w.heap.size w w' := by
  obtain ⟨hv, _, hin⟩ := hv
  have hM : EachW 1048576 t := fun p hp => ⟨Nat.le_trans (each_bulkW t p hp) ht, hin p hp⟩
  have hl : t.length ≤ 16777216 := by have := len_bulkW t; omega
  unfold bulkstrings at hos
  have ho : os.length ≤ 16777216 := by omega
  have hox : ∀ x ∈ os, x.length ≤ 1048576 := fun x hx => by have := mem_sumL os x hx; omega
  have HE : Hid (Env w) := hw
  have HA : Hid (∀ W, Below w.heap.size w W → Calls Tryd.prog 9 #[] W fun e w' => e = .returned (.bool true) ∧ Below (World.heap W).size W w') := fun W b => awake_any W (HE.out.below b)
  have HW : Hid (Calls Tryd.prog 14 #[v] w fun e w' => ∃ u, e = .returned u ∧ OwnW 67 w.heap.size u t w' ∧ Below w.heap.size w w') := weights_any v t w hv hl
  have HC : Hid (∀ W, Below w.heap.size w W → Calls Tryd.prog 15 #[v, .bool g, u] W fun e w' => e = .returned (.int .i64 (bst (fun k => likG g t (os.getD k [])) os.length).1) ∧ Below (World.heap W).size W w') := fun W b => ChooseCoding_any v u t os g hox ho hM hl W (hv.below b) (hu.below b)
  have HR : Hid (∀ W x, Below w.heap.size w W → RdW x t W → Calls Tryd.prog 16 #[x, .bool g, u] W fun e w' => e = .returned (.int .i64 (bst (fun k => likG g t (os.getD k [])) os.length).1) ∧ Below (World.heap W).size W w') := fun W x b h => rChooseCoding_any x u t os g hox ho hM hl W h (hu.below b)
  have HS : Hid (∀ W x, Below w.heap.size w W → RdW x t W → Calls Tryd.prog 17 #[v, x] W fun e w' => e = .returned (.bool true) ∧ ∃ n, w' = World.drewN W n) := fun W x b h => sameW_any v x t W (hv.below b) h (by omega)
  obtain ⟨av, cv, rfl, _⟩ := hv
  obtain ⟨a, c, rfl, _⟩ := hu
  generalize (bst (fun k => likG g t (os.getD k [])) os.length).1 = R at *
  have hR : (R == R) = true := by simp
  clear hM hox hin hw
  go_enter Tryd.func5, Tryd.ntmps5
  go_wp2_with fail
  refine HW.out.mono ?_
  rintro e w1 ⟨x, rfl, ho1, hb1⟩
  have HO1 : Hid (RdW x t w1) := ho1.rd
  have HB1 : Hid (Below w.heap.size w w1) := hb1
  obtain ⟨ax, cx, rfl, _⟩ := ho1.rd
  clear ho1 hb1
  go_wp2_with fail
  refine (HA.out w1 HB1.out).mono ?_
  rintro e w2 ⟨rfl, hb2⟩
  have HO2 : Hid (RdW (.slice ax t.length cx) t w2) := HO1.out.below hb2
  have HB2 : Hid (Below w.heap.size w w2) := bel_trans HB1.out hb2
  clear hb2
  go_wp2_with fail
  refine (HC.out w2 HB2.out).mono ?_
  rintro e w3 ⟨rfl, hb3⟩
  have HO3 : Hid (RdW (.slice ax t.length cx) t w3) := HO2.out.below hb3
  have HB3 : Hid (Below w.heap.size w w3) := bel_trans HB2.out hb3
  clear hb3
  go_wp2_with fail
  refine (HR.out w3 _ HB3.out HO3.out).mono ?_
  rintro e w4 ⟨rfl, hb4⟩
  have HO4 : Hid (RdW (.slice ax t.length cx) t w4) := HO3.out.below hb4
  have HB4 : Hid (Below w.heap.size w w4) := bel_trans HB3.out hb4
  clear hb4
  go_wp2_with fail
  refine (HS.out w4 _ HB4.out HO4.out).mono ?_
  rintro e w5 ⟨rfl, n, hn⟩
  have HB5 : Hid (Below w.heap.size w w5) := (by rw [hn]; exact below_drewN HB4.out _ : Below _ _ _)
  clear hn
  go_wp2
  go_ret
  exact ⟨rfl, HB5.out⟩

end Ac
end Go.Proofs.YtnhkkemphjblhaaDoor

/-
  AcceptLanguages.
-/
set_option linter.unusedVariables false
set_option linter.unusedSimpArgs false
namespace Go.Proofs.YtnhkkemphjblhaaDoor
open Go.RowKit Go.Shelf
namespace Ac
open Oc Tg

set_option maxRecDepth 100000 in
set_option maxHeartbeats 2000000 in
theorem walk_AcceptLanguages (v : Value) (t : List Wt) (ht : bulkweights t ≤ 1048576) (u : Value) (os : List (List UInt8)) (hos : bulkstrings os ≤ 1048576) (w : World) (hv : RdW v t w ∧ NilW v t ∧ ∀ p ∈ t, inI p.2) (hu : RdS u os w) (hw : Env w) :
    Calls Tryd.prog 6 #[v, u] w fun e w' => e = .returned (.bool true) ∧ Below w.heap.size w w' := by
  obtain ⟨hv, _, hin⟩ := hv
  have hM : EachW 1048576 t := fun p hp => ⟨Nat.le_trans (each_bulkW t p hp) ht, hin p hp⟩
  have hl : t.length ≤ 16777216 := by have := len_bulkW t; omega
  unfold bulkstrings at hos
  have ho : os.length ≤ 16777216 := by omega
  have hox : ∀ x ∈ os, x.length ≤ 1048576 := fun x hx => by have := mem_sumL os x hx; omega
  have HE : Hid (Env w) := hw
  have HA : Hid (∀ W, Below w.heap.size w W → Calls Tryd.prog 9 #[] W fun e w' => e = .returned (.bool true) ∧ Below (World.heap W).size W w') := fun W b => awake_any W (HE.out.below b)
  have HW : Hid (Calls Tryd.prog 14 #[v] w fun e w' => ∃ u, e = .returned u ∧ OwnW 67 w.heap.size u t w' ∧ Below w.heap.size w w') := weights_any v t w hv hl
  have HC : Hid (∀ W, Below w.heap.size w W → Calls Tryd.prog 18 #[v, u] W fun e w' => e = .returned (.int .i64 (bst (fun k => likLL t (os.getD k [])) os.length).1) ∧ Below (World.heap W).size W w') := fun W b => ChooseLanguage_any v u t os hox ho hM hl W (hw.2.below b) (hv.below b) (hu.below b)
  have HR : Hid (∀ W x, Below w.heap.size w W → RdW x t W → Calls Tryd.prog 19 #[x, u] W fun e w' => e = .returned (.int .i64 (bst (fun k => likLL t (os.getD k [])) os.length).1) ∧ Below (World.heap W).size W w') := fun W x b h => rChooseLanguage_any x u t os hox ho hM hl W h (hu.below b)
  have HS : Hid (∀ W x, Below w.heap.size w W → RdW x t W → Calls Tryd.prog 17 #[v, x] W fun e w' => e = .returned (.bool true) ∧ ∃ n, w' = World.drewN W n) := fun W x b h => sameW_any v x t W (hv.below b) h (by omega)
  obtain ⟨av, cv, rfl, _⟩ := hv
  obtain ⟨a, c, rfl, _⟩ := hu
  generalize (bst (fun k => likLL t (os.getD k [])) os.length).1 = R at *
  have hR : (R == R) = true := by simp
  clear hM hox hin hw
  go_enter Tryd.func6, Tryd.ntmps6
  go_wp2_with fail
  refine HW.out.mono ?_
  rintro e w1 ⟨x, rfl, ho1, hb1⟩
  have HO1 : Hid (RdW x t w1) := ho1.rd
  have HB1 : Hid (Below w.heap.size w w1) := hb1
  obtain ⟨ax, cx, rfl, _⟩ := ho1.rd
  clear ho1 hb1
  go_wp2_with fail
  refine (HA.out w1 HB1.out).mono ?_
  rintro e w2 ⟨rfl, hb2⟩
  have HO2 : Hid (RdW (.slice ax t.length cx) t w2) := HO1.out.below hb2
  have HB2 : Hid (Below w.heap.size w w2) := bel_trans HB1.out hb2
  clear hb2
  go_wp2_with fail
  refine (HC.out w2 HB2.out).mono ?_
  rintro e w3 ⟨rfl, hb3⟩
  have HO3 : Hid (RdW (.slice ax t.length cx) t w3) := HO2.out.below hb3
  have HB3 : Hid (Below w.heap.size w w3) := bel_trans HB2.out hb3
  clear hb3
  go_wp2_with fail
  refine (HR.out w3 _ HB3.out HO3.out).mono ?_
  rintro e w4 ⟨rfl, hb4⟩
  have HO4 : Hid (RdW (.slice ax t.length cx) t w4) := HO3.out.below hb4
  have HB4 : Hid (Below w.heap.size w w4) := bel_trans HB3.out hb4
  clear hb4
  go_wp2_with fail
  refine (HS.out w4 _ HB4.out HO4.out).mono ?_
  rintro e w5 ⟨rfl, n, hn⟩
  have HB5 : Hid (Below w.heap.size w w5) := (by rw [hn]; exact below_drewN HB4.out _ : Below _ _ _)
  clear hn
  go_wp2
  go_ret
  exact ⟨rfl, HB5.out⟩

end Ac
end Go.Proofs.YtnhkkemphjblhaaDoor
