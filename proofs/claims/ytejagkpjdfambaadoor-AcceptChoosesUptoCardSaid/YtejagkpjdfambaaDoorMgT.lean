/- Several texts as one. -/
import Derived.Test.YtejagkpjdfambaaDoorAOf
import Derived.Test.YtejagkpjdfambaaDoorWBe
import Derived.Test.YtejagkpjdfambaaDoorRows
import Derived.Deep.DeepHandedRow
import Derived.Lay
import Derived.Stop.Joined
/-
  The document's Choose; AcceptChooses.
-/
set_option maxRecDepth 100000
set_option linter.unusedVariables false
set_option linter.unusedSimpArgs false
namespace Go.Proofs.YtejagkpjdfambaaDoor
open Go.RowKit Go.Shelf
namespace Ac
open Oc Tg

theorem qm_take {os : List Md} (f : Md → Int) {k : Nat} (h : k < os.length) : (os.take (k + 1)).map f = (os.take k).map f ++ [f (nthM os k)] := by
  unfold nthM
  rw [List.take_add_one, List.getElem?_eq_getElem h, List.map_append, List.getD_eq_getElem?_getD, List.getElem?_eq_getElem h]
  rfl
theorem bsM_map (os : List Md) (f : Md → Int) : ∀ k, k ≤ os.length → bsM (fun j => (os.map f).getD j 0) k = bsM (fun j => f (nthM os j)) k
  | 0, _ => rfl
  | k + 1, h => by
    have ih := bsM_map os f k (by omega)
    have e : (os.map f).getD k 0 = f (nthM os k) := by
      unfold nthM
      rw [List.getD_eq_getElem?_getD, List.getElem?_map, List.getElem?_eq_getElem (by omega), List.getD_eq_getElem?_getD, List.getElem?_eq_getElem (by omega)]
      rfl
    show (if (bsM _ k).2 < (os.map f).getD k 0 then ((k : Int), (os.map f).getD k 0) else bsM _ k) = _
    rw [ih, e]
    rfl

set_option maxHeartbeats 4000000 in
theorem rChoose_any (v u : Value) (t : List Rng) (os : List Md) (hos : ∀ r ∈ os, OkMd r) (ho : os.length ≤ 16777216) (ht : ∀ r ∈ t, OkMd r.md) (hl : t.length ≤ 16777216) (w : World) (hv : RdRg v t w) (hu : RdMs u os w) :
    Calls Tryd.prog 13 #[v, u] w fun e w' => e = .returned (.int .i64 (bsM (fun k => likM t (nthM os k)) os.length).1) ∧ Below w.heap.size w w' := by
  have HV : Hid (RdRg v t w) := hv
  have HU : Hid (RdMs u os w) := hu
  have HC : Hid (∀ W x k, k < os.length → Below w.heap.size w W → RdP x (nthM os k).ps W → Calls Tryd.prog 9 #[v, .agg #[.string (nthM os k).ty, .string (nthM os k).sub, x]] W fun e w' => e = .returned (.int .i64 (likM t (nthM os k))) ∧ Below (World.heap W).size W w') := fun W x k hk b hx => by
    have := rLiking_any v x t (nthM os k) ht (OkMs.at hos hk) hl W (hv.below b) hx
    rwa [rlk_likM t _ ht] at this
  have HE : Hid (bsM (fun j => (os.map (likM t)).getD j 0) os.length = bsM (fun k => likM t (nthM os k)) os.length) := bsM_map os (likM t) os.length (Nat.le_refl _)
  obtain ⟨a, c, rfl, _⟩ := hu
  obtain ⟨av, cv, rfl, _⟩ := hv
  clear hos ht
  go_enter Tryd.func13, Tryd.ntmps13
  go_wp2
  go_loopw [5, 6] (fun ov i wr => ∃ k : Nat, k ≤ os.length ∧ i = .int .i64 k ∧ Hid (OwnI w.heap.size ov ((os.take k).map (likM t)) wr) ∧ Hid (Below w.heap.size w wr)) (fun _ i _ => os.length - (intOf i).toNat)
  case atStart => exact ⟨0, Nat.zero_le _, rfl, ownI_empty w (Nat.le_refl _), (Below.refl _ w).alloc (Nat.le_refl _) _⟩
  case round =>
    obtain ⟨k, hk, rfl, hown, hbl⟩ := hrel
    have hsz := hbl.out.size
    by_cases hlt : k < os.length
    · obtain ⟨a', c', e', hcs⟩ := HU.out.below hbl.out
      injection e' with e1 _ e2
      subst e1 e2
      rcases hcs with h | ⟨g2, o2, rfl, hlc, hcell⟩
      · rw [h] at hlt; simp at hlt
      obtain ⟨d0, d1, x, d2, hx, _⟩ := hcell k hlt
      have HK' : Hid (Calls _ _ _ _ _) := HC.out wr x k hlt hbl.out hx
      obtain ⟨xa, xc, rfl, _⟩ := hx
      have HT : Hid (_ = _) := qm_take (likM t) hlt
      have hlk : ((os.take k).map (likM t)).length + 1 ≤ 2147483648 := by rw [List.length_map, List.length_take]; omega
      clear hcell
      generalize likM t (nthM os k) = Y at *
      generalize (nthM os k).ty = X0 at *
      generalize (nthM os k).sub = X1 at *
      generalize (nthM os k).ps.length = xn at *
      go_wp2_with fail
      refine HK'.out.mono ?_
      rintro e w2 ⟨rfl, hb2⟩
      have HO2 : Hid (OwnI w.heap.size _ ((os.take k).map (likM t)) w2) := hown.out.below hb2
      have HB2 : Hid (Below w.heap.size w w2) := bel_trans hbl.out hb2
      have hs2 : w.heap.size ≤ w2.heap.size := HB2.out.size
      clear hb2 hown d0 d1 d2
      go_wp2_with (at_builtin; go_must (refine wp_appI rfl (.tmp 14) (.tmp 21) rfl w.heap.size _ ((os.take k).map (likM t)) _ Y rfl HO2.out _ rfl (by simp) hlk hs2 ?_); intro v6 w6 hown6 hb6)
      have HO6 : Hid (OwnI w.heap.size v6 ((os.take (k + 1)).map (likM t)) w6) := (by rw [HT.out]; exact hown6 : OwnI _ v6 _ w6)
      have HB6 : Hid (Below w.heap.size w w6) := HB2.out.trans hb6
      clear hown6 hb6
      go_roundw
      case rel => exact ⟨k + 1, by omega, by go_num, HO6, HB6⟩
      case measure => simp [intOf]; omega
    · obtain rfl : k = os.length := by omega
      rw [List.take_length] at hown
      have HF := rfirst_any _ _ (by rw [List.length_map]; exact ho) wr hown.out.rd
      rw [List.length_map] at HF
      have HF' : Hid (Calls _ _ _ _ _) := HF
      clear HF
      have HV2 : Hid ((bsM (fun k => likM t (nthM os k)) os.length).1 = (bsM (fun j => (os.map (likM t)).getD j 0) os.length).1) := (by rw [HE.out] : _ = _)
      generalize (bsM (fun j => (os.map (likM t)).getD j 0) os.length).1 = V at HF' HV2
      go_wp2_with fail
      refine HF'.out.mono ?_
      rintro e w2 ⟨rfl, hb2⟩
      have HB2 : Hid (Below w.heap.size w w2) := bel_trans hbl.out hb2
      clear hb2
      go_wp2
      go_ret
      exact ⟨by rw [HV2.out]; rfl, HB2.out⟩

set_option maxHeartbeats 4000000 in
theorem walk_AcceptChooses0 (v u : Value) (t : List Rng) (os : List Md) (hos : ∀ r ∈ os, OkMd r) (ho : os.length ≤ 16777216) (ht : ∀ r ∈ t, OkMd r.md) (hl : t.length ≤ 16777216) (w : World) (hv : RdRg v t w) (hu : RdMs u os w) (hw : Env w) :
    Calls Tryd.prog 4 #[v, u] w fun e w' => e = .returned (.bool true) ∧ Below w.heap.size w w' := by
  have HA : Hid (Calls Tryd.prog 7 #[] w fun e w' => e = .returned (.bool true) ∧ Below w.heap.size w w') := awake_any w hw
  have HC : Hid (∀ W, Below w.heap.size w W → Calls Tryd.prog 12 #[v, u] W fun e w' => e = .returned (.int .i64 (bsM (fun k => likM t (nthM os k)) os.length).1) ∧ Below (World.heap W).size W w') := fun W b => Choose_any v u t os hos ho ht hl W (hv.below b) (hu.below b)
  have HG : Hid (∀ W, Below w.heap.size w W → Calls Tryd.prog 6 #[v] W fun e w' => ∃ x, e = .returned x ∧ RdRg x t w' ∧ Below (World.heap W).size W w') := fun W b => ranges_any v t ht hl W (hv.below b)
  have HO : Hid (∀ W, Below w.heap.size w W → Calls Tryd.prog 14 #[u] W fun e w' => ∃ x, e = .returned x ∧ RdMs x os w' ∧ Below (World.heap W).size W w') := fun W b => offers_any u os hos ho W (hu.below b)
  have HR : Hid (∀ W x y, RdRg x t W → RdMs y os W → Calls Tryd.prog 13 #[x, y] W fun e w' => e = .returned (.int .i64 (bsM (fun k => likM t (nthM os k)) os.length).1) ∧ Below (World.heap W).size W w') := fun W x y h1 h2 => rChoose_any x y t os hos ho ht hl W h1 h2
  obtain ⟨a, c, rfl, _⟩ := hu
  obtain ⟨av, cv, rfl, _⟩ := hv
  generalize (bsM (fun k => likM t (nthM os k)) os.length).1 = V at *
  clear hos ht hw
  go_enter Tryd.func4, Tryd.ntmps4
  go_wp2_with fail
  refine HA.out.mono ?_
  rintro e w1 ⟨rfl, hb1⟩
  have HB1 : Hid (Below w.heap.size w w1) := hb1
  clear hb1
  go_wp2_with fail
  refine (HC.out _ HB1.out).mono ?_
  rintro e w2 ⟨rfl, hb2⟩
  have HB2 : Hid (Below w.heap.size w w2) := bel_trans HB1.out hb2
  clear hb2
  go_wp2_with fail
  refine (HG.out _ HB2.out).mono ?_
  rintro e w3 ⟨x, rfl, hx, hb3⟩
  have HX : Hid (RdRg x t w3) := hx
  obtain ⟨xa, xc, rfl, _⟩ := hx
  have HB3 : Hid (Below w.heap.size w w3) := bel_trans HB2.out hb3
  clear hb3
  go_wp2_with fail
  refine (HO.out _ HB3.out).mono ?_
  rintro e w4 ⟨y, rfl, hy, hb4⟩
  have HX4 : Hid (RdRg (.slice xa t.length xc) t w4) := HX.out.below hb4
  have HY : Hid (RdMs y os w4) := hy
  obtain ⟨ya, yc, rfl, _⟩ := hy
  have HB4 : Hid (Below w.heap.size w w4) := bel_trans HB3.out hb4
  clear hb4
  go_wp2_with fail
  refine (HR.out _ _ _ HX4.out HY.out).mono ?_
  rintro e w5 ⟨rfl, hb5⟩
  have HB5 : Hid (Below w.heap.size w w5) := bel_trans HB4.out hb5
  clear hb5
  have hVV : (V == V) = true := by simp
  go_wp2
  go_ret
  exact ⟨by simp, HB5.out⟩

theorem walk_AcceptChooses (v : Value) (t : List Rng) (bt : (t.map fun r => szM r.md + 1).sum ≤ 1048576) (u : Value) (os : List Md) (bo : (os.map fun r => szM r + 1).sum ≤ 1048576) (w : World) (hv : RdRg v t w) (hu : RdMs u os w) (hw : Env w) :
    Calls Tryd.prog 4 #[v, u] w fun e w' => e = .returned (.bool true) ∧ Below w.heap.size w w' := by
  obtain ⟨a1, a2⟩ := sum_each (fun r : Rng => szM r.md) t _ bt
  obtain ⟨b1, b2⟩ := sum_each szM os _ bo
  exact walk_AcceptChooses0 v u t os (fun r hr => okMd_of_bulk r (b1 r hr)) (by omega) (fun r hr => okMd_of_bulk r.md (a1 r hr)) (by omega) w hv hu hw

end Ac
end Go.Proofs.YtejagkpjdfambaaDoor

/-
  A witness for a row with a condition of its own, at a world whose listed tables are laid.
-/
set_option linter.unusedVariables false
namespace Go.Proofs.YtejagkpjdfambaaDoor
namespace Oc

theorem witness_zip {H : Type} {enc : TypeId × Value → H} {C : Checked} {os : Os} {f : FuncId} {fn : Func} {s : OpenSpec} {conds : List PathCond} {apart : Bool} {laid : List (String × DataW Unit)} (modest : Bool) (w0 : World) (args : Array Value) (hos : w0.os = os)
    (hsh : (w0.forCall (fun _ _ => 0) ⟨#[], args, []⟩).Shaped C.prog)
    (hok : Input.okWideB C.prog (w0.forCall (fun _ _ => 0) ⟨#[], args, []⟩) f ⟨#[], args, []⟩ = true)
    (hrow : s.preRow enc C.prog fn conds apart laid (w0.forCall (fun _ _ => 0) ⟨#[], args, []⟩).memory args) :
    ∃ (w : World) (tape : Tape) (i : Input), w.os = os ∧ (w.forCall tape i).Shaped C.prog ∧ i.vars = [] ∧ Input.okWide C.prog (w.forCall tape i) .any w.heap.size f i ∧
      s.preRow enc C.prog fn conds apart laid (w.forCall tape i).memory i.args ∧ ({ modest := modest } : Assume).holds C.prog (lone (Frame.enter C.prog f i.args .normal) [] (w.forCall tape i)) :=
  ⟨w0, fun _ _ => 0, ⟨#[], args, []⟩, hos, hsh, (Input.okWide_of_okWideB (base := 0) hok).1, (Input.okWide_of_okWideB hok).2, hrow, by
    simp only [Assume.holds]
    exact ⟨by simp, by simp, fun _ => Modest.zero, by simp, by simp⟩⟩

end Oc
end Go.Proofs.YtejagkpjdfambaaDoor
