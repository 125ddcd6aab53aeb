/-
  The law's sameRanges.
-/
import Derived.Test.YtejagkpjdfambaaDoorALi
import Derived.Test.YtejagkpjdfambaaDoorMgQ
import Derived.Deep.RegionHeld3
set_option maxRecDepth 100000
set_option linter.unusedVariables false
set_option linter.unusedSimpArgs false
namespace Go.Proofs.YtejagkpjdfambaaDoor
open Go.RowKit Go.Shelf
namespace Ac
open Oc Tg

set_option maxHeartbeats 4000000 in
theorem sameRanges_any (v u : Value) (t : List Rng) (ht : ∀ r ∈ t, OkMd r.md) (hl : t.length ≤ 16777216) (w : World) (hv : RdRg v t w) (hu : RdRg u t w) :
    Calls Tryd.prog 11 #[v, u] w fun e w' => e = .returned (.bool true) ∧ Below w.heap.size w w' := by
  have HT : Hid (RdRg v t w) := hv
  have HU : Hid (RdRg u t w) := hu
  have HOk : Hid (∀ r ∈ t, OkMd r.md) := ht
  obtain ⟨va, vc, rfl, _⟩ := hv
  obtain ⟨ua, uc, rfl, _⟩ := hu
  clear ht
  have hne : ((t.length : Int) != (t.length : Int)) = false := by simp
  go_enter Tryd.func11, Tryd.ntmps11
  go_wp2
  go_loopw [5] (fun i wr => ∃ (k : Nat), k ≤ t.length ∧ i = .int .i64 k ∧ Hid (Below w.heap.size w wr)) (fun i _ => t.length - (intOf i).toNat)
  case atStart => exact ⟨0, Nat.zero_le _, rfl, Below.refl _ _⟩
  case round =>
    obtain ⟨k, hk, rfl, hbl⟩ := hrel
    by_cases hlt : k < t.length
    · obtain ⟨a', c', e', hcs⟩ := HT.out.below hbl.out
      injection e' with e1 _ e2
      subst e1 e2
      rcases hcs with h | ⟨g, o, rfl, hlc, hcell⟩
      · rw [h] at hlt; simp at hlt
      obtain ⟨⟨⟨p0, p1, u', p2, hrp, _⟩, p3⟩, hq⟩ := hcell k hlt
      obtain ⟨a', c', e', hcs⟩ := HU.out.below hbl.out
      injection e' with e1 _ e2
      subst e1 e2
      rcases hcs with h | ⟨g2, o2, rfl, hlc2, hcell2⟩
      · rw [h] at hlt; simp at hlt
      obtain ⟨⟨⟨r0, r1, u2, r2, hrp2, _⟩, r3⟩, _⟩ := hcell2 k hlt
      have hok := OkRg.at HOk.out hlt
      have HC : Hid (∀ W, Below wr.heap.size wr W → Calls Tryd.prog 22 #[.agg #[.string (nthR t k).md.ty, .string (nthR t k).md.sub, u'], .agg #[.string (nthR t k).md.ty, .string (nthR t k).md.sub, u2]] W fun e w' => e = .returned (.bool true) ∧ Below (World.heap W).size W w') := fun W b => alike07_any _ _ _ _ (nthR t k).md.ps W (hrp.below b) (hrp2.below b) (by have := hok.2.2.2; omega)
      obtain ⟨ra, rc, rfl, _⟩ := hrp
      obtain ⟨sa, sc, rfl, _⟩ := hrp2
      clear hcell hcell2 hok hq
      generalize (nthR t k).md.ty = N1 at *
      generalize (nthR t k).md.sub = N2 at *
      generalize (nthR t k).md.ps.length = rn at *
      generalize (nthR t k).q = q at *
      have hki : (k : Int) < (t.length : Int) := by omega
      have hk0 : (0 : Int) ≤ (k : Int) := by omega
      have hqq : (q != q) = false := by simp
      have HCell : Hid (∀ W, Below wr.heap.size wr W → (W.cell? ⟨g, o + k * 4, none⟩ = some (.string N1) ∧ W.cell? ⟨g, o + k * 4 + 1, none⟩ = some (.string N2) ∧ W.cell? ⟨g, o + k * 4 + 2, none⟩ = some (.slice ra rn rc) ∧ W.cell? ⟨g, o + k * 4 + 3, none⟩ = some (.int .i64 q)) ∧ (W.cell? ⟨g2, o2 + k * 4, none⟩ = some (.string N1) ∧ W.cell? ⟨g2, o2 + k * 4 + 1, none⟩ = some (.string N2) ∧ W.cell? ⟨g2, o2 + k * 4 + 2, none⟩ = some (.slice sa rn sc) ∧ W.cell? ⟨g2, o2 + k * 4 + 3, none⟩ = some (.int .i64 q))) := fun W b => ⟨⟨(b.cell (World.block_lt_of_cell? wr _ p0)).trans p0, (b.cell (World.block_lt_of_cell? wr _ p1)).trans p1, (b.cell (World.block_lt_of_cell? wr _ p2)).trans p2, (b.cell (World.block_lt_of_cell? wr _ p3)).trans p3⟩, (b.cell (World.block_lt_of_cell? wr _ r0)).trans r0, (b.cell (World.block_lt_of_cell? wr _ r1)).trans r1, (b.cell (World.block_lt_of_cell? wr _ r2)).trans r2, (b.cell (World.block_lt_of_cell? wr _ r3)).trans r3⟩
      clear p0 p1 p2 p3 r0 r1 r2 r3
      have HBn : Hid (Below wr.heap.size wr wr.drew) := (Below.refl _ _).drew
      go_wp2_with fail
      go_region_held3 (fun W => (W.cell? ⟨g, o + k * 4, none⟩ = some (.string N1) ∧ W.cell? ⟨g, o + k * 4 + 1, none⟩ = some (.string N2) ∧ W.cell? ⟨g, o + k * 4 + 2, none⟩ = some (.slice ra rn rc) ∧ W.cell? ⟨g, o + k * 4 + 3, none⟩ = some (.int .i64 q)) ∧ (W.cell? ⟨g2, o2 + k * 4, none⟩ = some (.string N1) ∧ W.cell? ⟨g2, o2 + k * 4 + 1, none⟩ = some (.string N2) ∧ W.cell? ⟨g2, o2 + k * 4 + 2, none⟩ = some (.slice sa rn sc) ∧ W.cell? ⟨g2, o2 + k * 4 + 3, none⟩ = some (.int .i64 q))) (first | with_reducible exact HCell.out _ HBn.out) (first
        | (go_at_call 22; refine (HC.out _ HBn.out).mono ?_; rintro e wn ⟨rfl, hbn⟩; have HBn : Hid (Below wr.heap.size wr wn) := bel_trans HBn.out hbn; clear hbn))
      all_goals
        go_wp2
        go_roundw
        case rel => exact ⟨k + 1, by omega, by go_num, bel_trans hbl.out HBn.out⟩
        case measure => simp [intOf]; omega
    · obtain rfl : k = t.length := by omega
      go_wp2
      go_ret
      exact ⟨rfl, hbl.out⟩

end Ac
end Go.Proofs.YtejagkpjdfambaaDoor
