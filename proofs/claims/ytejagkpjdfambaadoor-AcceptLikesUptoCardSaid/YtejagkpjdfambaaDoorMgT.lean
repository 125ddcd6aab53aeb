/- Several texts as one. -/
import Derived.Test.YtejagkpjdfambaaDoorARg
import Derived.Test.YtejagkpjdfambaaDoorARl
import Derived.Test.YtejagkpjdfambaaDoorARs
import Derived.Test.YtejagkpjdfambaaDoorWBe
import Derived.Test.YtejagkpjdfambaaDoorMgM
import Derived.Deep.RegionHeld3
import Derived.Test.YtejagkpjdfambaaDoorRows
import Derived.Deep.DeepHandedRow
import Derived.Lay
import Derived.Stop.Joined
/-
  AcceptLikes.
-/
set_option maxRecDepth 100000
set_option linter.unusedVariables false
set_option linter.unusedSimpArgs false
namespace Go.Proofs.YtejagkpjdfambaaDoor
open Go.RowKit Go.Shelf
namespace Ac
open Oc Tg

set_option maxHeartbeats 4000000 in
theorem walk_AcceptLikes0 (v u : Value) (t : List Rng) (m : Md) (ht : ∀ r ∈ t, OkMd r.md) (hm : OkMd m) (hl : t.length ≤ 16777216) (w : World) (hv : RdRg v t w) (hu : RdP u m.ps w) (hw : Env w) :
    Calls Tryd.prog 3 #[v, .agg #[.string m.ty, .string m.sub, u]] w fun e w' => e = .returned (.bool true) ∧ Below w.heap.size w w' := by
  obtain ⟨w2, hw2⟩ : ∃ w2, w2 = w.alloc (.cells #[.string m.ty, .string m.sub, u] 25) := ⟨_, rfl⟩
  have hb2 : Below w.heap.size w w2 := by rw [hw2]; exact (Below.refl _ w).alloc (Nat.le_refl _) _
  have R1 : w2.heap[w.heap.size]? = some (.cells #[.string m.ty, .string m.sub, u] 25 (0, 0)) := by rw [hw2]; exact heap_alloc_new w _
  have HX : Hid (∀ W, Below w2.heap.size w2 W → (W.cell? ⟨w.heap.size, 0, none⟩ = some (.string m.ty) ∧ W.cell? ⟨w.heap.size, 1, none⟩ = some (.string m.sub) ∧ W.cell? ⟨w.heap.size, 2, none⟩ = some u)) := fun W b => by
    have S1 := (b.block _ (Array.getElem?_eq_some_iff.1 R1).1).trans R1
    exact ⟨Lib.cell_of_heap S1 0, Lib.cell_of_heap S1 1, Lib.cell_of_heap S1 2⟩
  have HA : Hid (∀ W, Below w2.heap.size w2 W → Calls Tryd.prog 7 #[] W fun e w' => e = .returned (.bool true) ∧ Below (World.heap W).size W w') := fun W b => awake_any W (hw.below (bel_trans hb2 b))
  have HG : Hid (∀ W, Below w2.heap.size w2 W → Calls Tryd.prog 6 #[v] W fun e w' => ∃ x, e = .returned x ∧ RdRg x t w' ∧ Below (World.heap W).size W w') := fun W b => ranges_any v t ht hl W (hv.below (bel_trans hb2 b))
  have HL : Hid (∀ W, Below w2.heap.size w2 W → Calls Tryd.prog 8 #[v, .agg #[.string m.ty, .string m.sub, u]] W fun e w' => e = .returned (.int .i64 (likM t m)) ∧ Below (World.heap W).size W w') := fun W b => Liking_any v u t m ht hm hl W (hv.below (bel_trans hb2 b)) (hu.below (bel_trans hb2 b))
  have HR : Hid (∀ W x y, RdRg x t W → RdP y m.ps W → Calls Tryd.prog 9 #[x, .agg #[.string m.ty, .string m.sub, y]] W fun e w' => e = .returned (.int .i64 (likM t m)) ∧ Below (World.heap W).size W w') := fun W x y h1 h2 => by
    have := rLiking_any x y t m ht hm hl W h1 h2
    rwa [rlk_likM t m ht] at this
  have HS : Hid (∀ W x, Below w2.heap.size w2 W → RdRg x t W → Calls Tryd.prog 11 #[v, x] W fun e w' => e = .returned (.bool true) ∧ Below (World.heap W).size W w') := fun W x b h => sameRanges_any v x t ht hl W (hv.below (bel_trans hb2 b)) h
  have HD : Hid (∀ W, Below w2.heap.size w2 W → Calls Tryd.prog 10 #[.agg #[.string m.ty, .string m.sub, u]] W fun e w' => ∃ a c, e = .returned (.agg #[.string m.ty, .string m.sub, .slice a m.ps.length c]) ∧ RdP (.slice a m.ps.length c) m.ps w' ∧ Below (World.heap W).size W w') := fun W b => (media_any _ _ u m.ps hm.2.2.2 W (hu.below (bel_trans hb2 b))).mono fun e w' ⟨x, he, ho, hb⟩ => by
    obtain ⟨a, c, rfl, hh⟩ := OwnP.rd ho
    exact ⟨a, c, he, ⟨a, c, rfl, hh⟩, hb⟩
  have HB2 : Hid (Below w.heap.size w w2) := hb2
  obtain ⟨av, cv, rfl, _⟩ := hv
  obtain ⟨au, cu, rfl, _⟩ := hu
  generalize likM t m = V at *
  have hVV : (V == V) = true := by simp
  clear ht hm hw R1 hb2
  go_enter Tryd.func3, Tryd.ntmps3
  go_wp2_with fail
  rw [← hw2]
  clear hw2
  refine (HG.out _ (Below.refl _ _)).mono ?_
  rintro e w3 ⟨x, rfl, hx3, hb3⟩
  have HB3 : Hid (Below w2.heap.size w2 w3) := hb3
  have HX3 : Hid (RdRg x t w3) := hx3
  obtain ⟨ax, cx, rfl, _⟩ := hx3
  clear hb3
  have HBn : Hid (Below w3.heap.size w3 w3.drew) := (Below.refl _ _).drew
  have HU2 : Hid True := trivial
  go_wp2_with fail
  go_region_held3 (fun W => W.cell? ⟨w.heap.size, 0, none⟩ = some (.string m.ty) ∧ W.cell? ⟨w.heap.size, 1, none⟩ = some (.string m.sub) ∧ W.cell? ⟨w.heap.size, 2, none⟩ = some (.slice au m.ps.length cu)) (first | with_reducible exact HX.out _ (bel_trans HB3.out HBn.out)) (first
    | (go_at_call 7; refine (HA.out _ (bel_trans HB3.out HBn.out)).mono ?_; rintro e wn ⟨rfl, hbn⟩; have HBn : Hid (Below w3.heap.size w3 wn) := bel_trans HBn.out hbn; clear hbn)
    | (go_at_call 8; refine (HL.out _ (bel_trans HB3.out HBn.out)).mono ?_; rintro e wn ⟨rfl, hbn⟩; (try (have HU2 : Hid (RdP _ m.ps wn) := HU2.out.below hbn)); have HBn : Hid (Below w3.heap.size w3 wn) := bel_trans HBn.out hbn; clear hbn)
    | (go_at_call 10; (with_reducible refine (HD.out _ (bel_trans HB3.out HBn.out)).mono ?_); rintro e wn ⟨a1, c1, rfl, ho, hbn⟩; have HU2 : Hid (RdP (.slice a1 m.ps.length c1) m.ps wn) := ho; have HBn : Hid (Below w3.heap.size w3 wn) := bel_trans HBn.out hbn; clear hbn ho)
    | (go_at_call 9; refine (HR.out _ _ _ (HX3.out.below HBn.out) HU2.out).mono ?_; rintro e wn ⟨rfl, hbn⟩; have HBn : Hid (Below w3.heap.size w3 wn) := bel_trans HBn.out hbn; clear hbn)
    | (go_at_call 11; refine (HS.out _ _ (bel_trans HB3.out HBn.out) (HX3.out.below HBn.out)).mono ?_; rintro e wn ⟨rfl, hbn⟩; have HBn : Hid (Below w3.heap.size w3 wn) := bel_trans HBn.out hbn; clear hbn))
  all_goals
    go_wp2
    go_ret
    exact ⟨by simp, bel_trans HB2.out (bel_trans HB3.out HBn.out)⟩

theorem walk_AcceptLikes (v : Value) (t : List Rng) (bt : (t.map fun r => szM r.md + 1).sum ≤ 1048576) (A B : ByteArray) (u : Value) (ps : List Prm) (bo : A.size + B.size + bulkparams ps ≤ 1048576) (w : World) (hv : RdRg v t w) (hu : RdP u ps w ∧ NilP u ps) (hw : Env w) :
    Calls Tryd.prog 3 #[v, .agg #[.string A, .string B, u]] w fun e w' => e = .returned (.bool true) ∧ Below w.heap.size w w' := by
  obtain ⟨a1, a2⟩ := sum_each (fun r : Rng => szM r.md) t _ bt
  exact walk_AcceptLikes0 v u t ⟨A, B, ps⟩ (fun r hr => okMd_of_bulk r.md (a1 r hr)) (okMd_of_bulk ⟨A, B, ps⟩ bo) (by omega) w hv hu.1 hw

end Ac
end Go.Proofs.YtejagkpjdfambaaDoor

/-
  A witness for a row with a condition of its own, at a world whose listed tables are laid.
-/
set_option linter.unusedVariables false
namespace Go.Proofs.YtejagkpjdfambaaDoor
namespace Oc

theorem witness_zip {H : Type} {enc : TypeId × Value → H} {C : Checked} {os : Os} {f : FuncId} {fn : Func} {s : OpenSpec} {conds : List PathCond} {apart : Bool} {laid : List (String × DataW Unit)} (modest : Bool) (w0 : World) (args : Array Value) (hos : w0.os = os)
    (hsh : (w0.forCall (fun _ _ => 0) ⟨#[], args, []⟩).Shaped C.prog)
    (hok : Input.okWideB C.prog (w0.forCall (fun _ _ => 0) ⟨#[], args, []⟩) f ⟨#[], args, []⟩ = true)
    (hrow : s.preRow enc C.prog fn conds apart laid (w0.forCall (fun _ _ => 0) ⟨#[], args, []⟩).memory args) :
    ∃ (w : World) (tape : Tape) (i : Input), w.os = os ∧ (w.forCall tape i).Shaped C.prog ∧ i.vars = [] ∧ Input.okWide C.prog (w.forCall tape i) .any w.heap.size f i ∧
      s.preRow enc C.prog fn conds apart laid (w.forCall tape i).memory i.args ∧ ({ modest := modest } : Assume).holds C.prog (lone (Frame.enter C.prog f i.args .normal) [] (w.forCall tape i)) :=
  ⟨w0, fun _ _ => 0, ⟨#[], args, []⟩, hos, hsh, (Input.okWide_of_okWideB (base := 0) hok).1, (Input.okWide_of_okWideB hok).2, hrow, by
    simp only [Assume.holds]
    exact ⟨by simp, by simp, fun _ => Modest.zero, by simp, by simp⟩⟩

end Oc
end Go.Proofs.YtejagkpjdfambaaDoor
