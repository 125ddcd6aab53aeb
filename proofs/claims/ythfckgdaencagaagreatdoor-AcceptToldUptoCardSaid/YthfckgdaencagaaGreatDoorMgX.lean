/- Several texts as one. -/
import Derived.Test.YthfckgdaencagaaGreatDoorALi
import Derived.Deep.RegionWith
import Derived.Deep.RegionHeld3
import Derived.Test.YthfckgdaencagaaGreatDoorMgV
import Derived.Deep.CutBlock
import Derived.Deep.DeepCutAuto
import Derived.Deep.Cut
import Derived.Deep.CutRange
/-
  Plainly: the document's way of liking is the program's.
-/
set_option maxRecDepth 100000
set_option linter.unusedVariables false
set_option linter.unusedSimpArgs false
namespace Go.Proofs.YthfckgdaencagaaGreatDoor
open Go.RowKit Go.Shelf
namespace Ac
open Oc Tg

def nuT (x : Int × Int × Int) : Int := x.2.2 + 2000000000000 * x.1 + 1000000000000 * x.2.1
def rst1 (s : Int × Int) (r : (Int × Int × Int) × Int) : Int × Int := if s.1 < nuT r.1 then (nuT r.1, r.2) else s
def rst (l : List ((Int × Int × Int) × Int)) : Int × Int := l.foldl rst1 (-1, 0)
theorem rst_snoc (l : List ((Int × Int × Int) × Int)) (r : (Int × Int × Int) × Int) : rst (l ++ [r]) = rst1 (rst l) r := by unfold rst; rw [List.foldl_append]; rfl
def rlk (t : List Rng) (m : Md) : Int := if t = [] then 1000 else (rst (mets t m)).2
theorem nmd_in (A : ByteArray) : 0 ≤ nmd A ∧ nmd A ≤ 1 := by unfold nmd; split <;> omega
/-- A kind of narrowness that there is. -/
def Vld (x : Int × Int × Int) : Prop := (0 ≤ x.1 ∧ x.1 ≤ 1) ∧ (0 ≤ x.2.1 ∧ x.2.1 ≤ 1) ∧ 0 ≤ x.2.2 ∧ x.2.2 < 1000000000000
theorem cm3_lt {x y : Int × Int × Int} (hx : Vld x) (hy : Vld y) : cm3 (sel3 x.1 x.2.1 x.2.2) (sel3 y.1 y.2.1 y.2.2) < 0 ↔ nuT x < nuT y := by
  obtain ⟨x0, x1, x2⟩ := x
  obtain ⟨y0, y1, y2⟩ := y
  unfold Vld at hx hy
  have e0 : ∀ a b c : Int, sel3 a b c 0 = a := fun _ _ _ => rfl
  have e1 : ∀ a b c : Int, sel3 a b c 1 = b := fun _ _ _ => rfl
  have e2 : ∀ a b c : Int, sel3 a b c 2 = c := fun _ _ _ => rfl
  unfold cm3 nuT
  simp only [e0, e1, e2] at hx hy ⊢
  unfold cmpZ
  by_cases h0 : x0 = y0
  · rw [if_neg (by simpa using h0)]
    by_cases h1 : x1 = y1
    · rw [if_neg (by simpa using h1)]
      split
      · constructor <;> intro h <;> omega
      · split <;> constructor <;> intro h <;> omega
    · rw [if_pos h1]
      split
      · constructor <;> intro h <;> omega
      · split <;> constructor <;> intro h <;> omega
  · rw [if_pos h0]
    split
    · constructor <;> intro h <;> omega
    · split <;> constructor <;> intro h <;> omega
theorem nuT_inj {x y : Int × Int × Int} (hx : Vld x) (hy : Vld y) (h : nuT x = nuT y) : x = y := by
  obtain ⟨x0, x1, x2⟩ := x
  obtain ⟨y0, y1, y2⟩ := y
  unfold Vld at hx hy
  unfold nuT at h
  simp only [] at hx hy h
  have e0 : x0 = y0 := by omega
  have e1 : x1 = y1 := by omega
  have e2 : x2 = y2 := by omega
  rw [e0, e1, e2]
theorem gr3_yes {x y : Int × Int × Int} (hx : Vld x) (hy : Vld y) (h : nuT x < nuT y) : gr3 x y = y := by unfold gr3; rw [if_pos ((cm3_lt hx hy).2 h)]
theorem gr3_no {x y : Int × Int × Int} (hx : Vld x) (hy : Vld y) (h : ¬ nuT x < nuT y) : gr3 x y = x := by unfold gr3; rw [if_neg (fun k => h ((cm3_lt hx hy).1 k))]
theorem nuT_pos {x : Int × Int × Int} (hx : Vld x) : 0 ≤ nuT x := by unfold Vld at hx; unfold nuT; omega
theorem vld0 : Vld (0, 0, 0) := by unfold Vld; decide
theorem fstQ_app {x : Int × Int × Int} {l : List ((Int × Int × Int) × Int)} {r : (Int × Int × Int) × Int} (h : ∃ s ∈ l, s.1 = x) : fstQ x (l ++ [r]) = fstQ x l := by
  unfold fstQ
  rw [List.find?_append]
  obtain ⟨s, hs, he⟩ := h
  cases hf : l.find? (fun r => decide (r.1 = x)) with
  | none => exact absurd he (by simpa using List.find?_eq_none.1 hf s hs)
  | some y => rfl
theorem fstQ_new {x : Int × Int × Int} {l : List ((Int × Int × Int) × Int)} {q : Int} (h : ∀ s ∈ l, s.1 ≠ x) : fstQ x (l ++ [(x, q)]) = q := by
  unfold fstQ
  rw [List.find?_append, List.find?_eq_none.2 (fun s hs => by simpa using h s hs)]
  simp
/-- Both ways say the same. -/
theorem rst_most : ∀ (n : Nat) (l : List ((Int × Int × Int) × Int)), l.length = n → (∀ r ∈ l, Vld r.1) → (l = [] ∨ (rst l = (nuT (most l), fstQ (most l) l) ∧ Vld (most l) ∧ (∃ s ∈ l, s.1 = most l) ∧ ∀ s ∈ l, nuT s.1 ≤ nuT (most l)))
  | 0, l, h, _ => .inl (List.length_eq_zero_iff.1 h)
  | n + 1, l, h, hv => by
    right
    obtain ⟨l', r, rfl⟩ : ∃ l' r, l = l' ++ [r] := by
      have hne : l ≠ [] := fun e => by rw [e] at h; simp at h
      exact ⟨l.dropLast, l.getLast hne, (List.dropLast_concat_getLast hne).symm⟩
    have hl' : l'.length = n := by rw [List.length_append] at h; simpa using h
    have hr : Vld r.1 := hv r (by simp)
    have hv' : ∀ s ∈ l', Vld s.1 := fun s hs => hv s (by simp [hs])
    rw [rst_snoc, most_snoc]
    rcases rst_most n l' hl' hv' with rfl | ⟨e, hm, hex, hall⟩
    · have hp := nuT_pos hr
      have e0 : most [] = (0, 0, 0) := rfl
      have e1 : rst [] = (-1, 0) := rfl
      have hg : gr3 (0, 0, 0) r.1 = r.1 := by
        by_cases hc : nuT (0, 0, 0) < nuT r.1
        · exact gr3_yes vld0 hr hc
        · rw [gr3_no vld0 hr hc]
          refine nuT_inj vld0 hr ?_
          have : nuT (0, 0, 0) = 0 := by decide
          omega
      rw [e0, e1, hg]
      refine ⟨?_, hr, ⟨r, by simp, rfl⟩, fun s hs => ?_⟩
      · unfold rst1
        rw [if_pos (by show (-1 : Int) < nuT r.1; omega)]
        have := fstQ_new (x := r.1) (l := []) (q := r.2) (fun s hs => by simp at hs)
        rw [this]
      · simp at hs
        rw [hs]
        exact Int.le_refl _
    · rw [e]
      unfold rst1
      by_cases hc : nuT (most l') < nuT r.1
      · rw [if_pos hc, gr3_yes hm hr hc]
        refine ⟨?_, hr, ⟨r, by simp, rfl⟩, fun s hs => ?_⟩
        · have := fstQ_new (x := r.1) (l := l') (q := r.2) (fun s hs e => by have := hall s hs; rw [e] at this; omega)
          rw [this]
        · rcases List.mem_append.1 hs with hs | hs
          · have := hall s hs
            omega
          · simp at hs
            rw [hs]
            exact Int.le_refl _
      · rw [if_neg hc, gr3_no hm hr hc, fstQ_app hex]
        obtain ⟨s0, hs0, he0⟩ := hex
        refine ⟨rfl, hm, ⟨s0, by simp [hs0], he0⟩, fun s hs => ?_⟩
        rcases List.mem_append.1 hs with hs | hs
        · exact hall s hs
        · simp at hs
          rw [hs]
          omega
theorem rlk_likM (t : List Rng) (m : Md) (ht : ∀ r ∈ t, OkMd r.md) : rlk t m = likM t m := by
  unfold rlk likM
  split
  · rfl
  · have hv : ∀ r ∈ mets t m, Vld r.1 := by
      intro r hr
      unfold mets at hr
      rw [List.mem_map] at hr
      obtain ⟨x, hx, rfl⟩ := hr
      have hk := (ht x (List.mem_filter.1 hx).1).2.2.2
      have h1 := nmd_in x.md.sub
      have h2 := nmd_in x.md.ty
      unfold Vld kq nrw
      exact ⟨h1, h2, by show (0 : Int) ≤ (x.md.ps.length : Int); omega, by show (x.md.ps.length : Int) < 1000000000000; omega⟩
    rcases rst_most _ (mets t m) rfl hv with h | ⟨h, _⟩
    · rw [h]
      rfl
    · rw [h]

end Ac
end Go.Proofs.YthfckgdaencagaaGreatDoor

/-
  The document's Meets.
-/
set_option linter.unusedVariables false
set_option linter.unusedSimpArgs false
namespace Go.Proofs.YthfckgdaencagaaGreatDoor
open Go.RowKit Go.Shelf
namespace Ac
open Oc Tg

theorem any_take {ms : List Prm} (f : Prm → Bool) {k : Nat} (h : k < ms.length) : (ms.take (k + 1)).any f = ((ms.take k).any f || f (nth ms k)) := by
  rw [List.take_add_one, List.getElem?_eq_getElem h, List.any_append]
  unfold nth
  rw [List.getD_eq_getElem?_getD, List.getElem?_eq_getElem h]
  simp
theorem made2 (W : World) (x0 x1 x2 y0 y1 y2 : Value) (T : TypeId) :
    ((((W.alloc (.cells #[x0, x1, x2] T)).alloc (.cells #[y0, y1, y2] T)).drew.cell? ⟨W.heap.size, 0, none⟩ = some x0 ∧ ((W.alloc (.cells #[x0, x1, x2] T)).alloc (.cells #[y0, y1, y2] T)).drew.cell? ⟨W.heap.size, 1, none⟩ = some x1) ∧
    (((W.alloc (.cells #[x0, x1, x2] T)).alloc (.cells #[y0, y1, y2] T)).drew.cell? ⟨W.heap.size + 1, 0, none⟩ = some y0 ∧ ((W.alloc (.cells #[x0, x1, x2] T)).alloc (.cells #[y0, y1, y2] T)).drew.cell? ⟨W.heap.size + 1, 1, none⟩ = some y1)) := by
  have R1 : ((W.alloc (.cells #[x0, x1, x2] T)).alloc (.cells #[y0, y1, y2] T)).heap[W.heap.size]? = some (.cells #[x0, x1, x2] T (0, 0)) := by
    rw [Below.heap_alloc _ _ _ (by simp)]
    exact heap_alloc_new W _
  have R2 := heap_alloc_new (W.alloc (.cells #[x0, x1, x2] T)) (.cells #[y0, y1, y2] T)
  rw [World.size_alloc] at R2
  exact ⟨⟨Lib.cell_of_heap R1 0, Lib.cell_of_heap R1 1⟩, ⟨Lib.cell_of_heap R2 0, Lib.cell_of_heap R2 1⟩⟩
theorem bel_drew2 {w0 W : World} (h : Below w0.heap.size w0 W) (o o' : Obj) : Below w0.heap.size w0 ((W.alloc o).alloc o').drew :=
  ((h.alloc h.size o).alloc (by have := h.size; simp; omega) o').drew

set_option maxRecDepth 100000 in
set_option maxHeartbeats 4000000 in
theorem rMeets_any (A B C D : ByteArray) (v u : Value) (rs ms : List Prm) (hA : A.size ≤ maxLen) (hB : B.size ≤ maxLen) (hC : C.size ≤ maxLen) (hD : D.size ≤ maxLen) (hR : EachP maxLen rs) (hM : EachP maxLen ms) (hl : rs.length ≤ 16777216) (hl2 : ms.length ≤ 16777216) (w : World) (hv : RdP v rs w) (hu : RdP u ms w) :
    Calls Tryz.prog 47 #[.agg #[.string A, .string B, v], .agg #[.string C, .string D, u]] w fun e w' => e = .returned (.bool (metM A B C D rs ms)) ∧ Below w.heap.size w w' := by
  obtain ⟨w2, hw2⟩ : ∃ w2, w2 = (w.alloc (.cells #[.string A, .string B, v] 40)).alloc (.cells #[.string C, .string D, u] 40) := ⟨_, rfl⟩
  have hb2 : Below w.heap.size w w2 := by rw [hw2]; exact ((Below.refl _ w).alloc (Nat.le_refl _) _).alloc (by simp) _
  have R1 : w2.heap[w.heap.size]? = some (.cells #[.string A, .string B, v] 40 (0, 0)) := by
    rw [hw2, Below.heap_alloc _ _ _ (by simp)]
    exact heap_alloc_new w _
  have R2 : w2.heap[w.heap.size + 1]? = some (.cells #[.string C, .string D, u] 40 (0, 0)) := by
    rw [hw2]
    have := heap_alloc_new (w.alloc (.cells #[.string A, .string B, v] 40)) (.cells #[.string C, .string D, u] 40)
    rwa [World.size_alloc] at this
  have HX : Hid (∀ W, Below w2.heap.size w2 W → (W.cell? ⟨w.heap.size, 0, none⟩ = some (.string A) ∧ W.cell? ⟨w.heap.size, 1, none⟩ = some (.string B) ∧ W.cell? ⟨w.heap.size, 2, none⟩ = some v) ∧ (W.cell? ⟨w.heap.size + 1, 0, none⟩ = some (.string C) ∧ W.cell? ⟨w.heap.size + 1, 1, none⟩ = some (.string D) ∧ W.cell? ⟨w.heap.size + 1, 2, none⟩ = some u)) := fun W b => by
    have S1 := (b.block _ (Array.getElem?_eq_some_iff.1 R1).1).trans R1
    have S2 := (b.block _ (Array.getElem?_eq_some_iff.1 R2).1).trans R2
    exact ⟨⟨Lib.cell_of_heap S1 0, Lib.cell_of_heap S1 1, Lib.cell_of_heap S1 2⟩, ⟨Lib.cell_of_heap S2 0, Lib.cell_of_heap S2 1, Lib.cell_of_heap S2 2⟩⟩
  have H1 : Hid (∀ W, Calls Tryz.prog 75 #[.string A, .string C] W fun e w' => e = .returned (.bool (decide (lowS A = lowS C))) ∧ Below (World.heap W).size W w') := fun W => rSame_any A C hA hC W
  have H2 : Hid (∀ W, Calls Tryz.prog 75 #[.string B, .string D] W fun e w' => e = .returned (.bool (decide (lowS B = lowS D))) ∧ Below (World.heap W).size W w') := fun W => rSame_any B D hB hD W
  have HV : Hid (metM A B C D rs ms = ((((A.toList == [42]) || decide (lowS A = lowS C)) && ((B.toList == [42]) || decide (lowS B = lowS D))) && parMt rs ms)) := (rfl : _ = _)
  have HN : Hid (∀ k, k < rs.length → ms.any (alP (nth rs k)) = false → parMt rs ms = false) := fun k hk h => parMt_no hk h
  have HY : Hid ((∀ k, k < rs.length → ms.any (alP (nth rs k)) = true) → parMt rs ms = true) := fun h => parMt_yes h
  have HB2 : Hid (Below w.heap.size w w2) := hb2
  have HRv : Hid (RdP v rs w) := hv
  have HRu : Hid (RdP u ms w) := hu
  have HRe : Hid (EachP maxLen rs) := hR
  have HMe : Hid (EachP maxLen ms) := hM
  obtain ⟨a, c, rfl, _⟩ := hv
  obtain ⟨a2, c2, rfl, _⟩ := hu
  clear hR hM R1 R2 hb2
  generalize metM A B C D rs ms = V at *
  generalize parMt rs ms = P3 at *
  generalize decide (lowS A = lowS C) = E1 at *
  generalize decide (lowS B = lowS D) = E2 at *
  have hsA : (A.toList != [42]) = !(A.toList == [42]) := rfl
  have hsB : (B.toList != [42]) = !(B.toList == [42]) := rfl
  go_enter Tryz.func47, Tryz.ntmps47
  go_upto_region 1 with fail
  rw [← hw2]
  clear hw2
  go_cut [33] from 10 to 33 (fun s33 wx => s33 = .bool (!(((A.toList == [42]) || E1) && ((B.toList == [42]) || E2))) ∧ Hid (Below w2.heap.size w2 wx))
  case first =>
    obtain ⟨⟨x0, x1, x2⟩, ⟨y0, y1, y2⟩⟩ := HX.out w2 (Below.refl _ _)
    cases hA1 : (A.toList == [42]) with
    | true =>
      rw [hA1] at hsA
      cases hB1 : (B.toList == [42]) with
      | true =>
        rw [hB1] at hsB
        go_wp2_with fail
        go_meet
        exact ⟨by rw [hA1, hB1]; rfl, Below.refl _ _⟩
      | false =>
        rw [hB1] at hsB
        go_wp2_with fail
        refine (H2.out _).mono ?_
        rintro e w3 ⟨rfl, hb3⟩
        have HB3 : Hid (Below w2.heap.size w2 w3) := hb3
        clear hb3
        go_wp2_with fail
        go_meet
        exact ⟨by rw [hA1, hB1]; cases E2 <;> rfl, HB3⟩
    | false =>
      rw [hA1] at hsA
      go_wp2_with fail
      refine (H1.out _).mono ?_
      rintro e w3 ⟨rfl, hb3⟩
      have HB3 : Hid (Below w2.heap.size w2 w3) := hb3
      clear hb3 x0 x1 x2 y0 y1 y2
      obtain ⟨⟨x0, x1, x2⟩, ⟨y0, y1, y2⟩⟩ := HX.out w3 HB3.out
      cases E1 with
      | false =>
        go_wp2_with fail
        go_meet
        exact ⟨by rw [hA1]; rfl, HB3⟩
      | true =>
        cases hB1 : (B.toList == [42]) with
        | true =>
          rw [hB1] at hsB
          go_wp2_with fail
          go_meet
          exact ⟨by rw [hA1, hB1]; rfl, HB3⟩
        | false =>
          rw [hB1] at hsB
          go_wp2_with fail
          refine (H2.out _).mono ?_
          rintro e w4 ⟨rfl, hb4⟩
          have HB4 : Hid (Below w2.heap.size w2 w4) := bel_trans HB3.out hb4
          clear hb4
          go_wp2_with fail
          go_meet
          exact ⟨by rw [hA1, hB1]; cases E2 <;> rfl, HB4⟩
  case rest =>
    obtain ⟨rfl, HBc⟩ := hcut
    generalize (((A.toList == [42]) || E1) && ((B.toList == [42]) || E2)) = E at *
    clear hsA hsB
    cases E with
    | false =>
      go_wp2
      go_ret
      refine ⟨?_, bel_trans HB2.out HBc.out⟩
      rw [HV.out]
      rfl
    | true =>
      rw [Bool.true_and] at HV
      simp only [Bool.not_true]
      go_wp2
      go_loopw [5] (fun i wr => ∃ k : Nat, k ≤ rs.length ∧ i = .int .i64 k ∧ Hid (∀ j, j < k → ms.any (alP (nth rs j)) = true) ∧ Hid (Below w2.heap.size w2 wr)) (fun i _ => rs.length - (intOf i).toNat)
      case atStart => exact ⟨0, Nat.zero_le _, rfl, (fun j hj => absurd hj (Nat.not_lt_zero _) : ∀ j, j < 0 → _), HBc⟩
      case round =>
        obtain ⟨k, hk, rfl, hall, hbl⟩ := hrel
        obtain ⟨⟨x0, x1, x2⟩, ⟨y0, y1, y2⟩⟩ := HX.out wr hbl.out
        clear x0 x1 y0 y1
        by_cases hlt : k < rs.length
        · have hki : (k : Int) < (rs.length : Int) := by omega
          obtain ⟨wo, rfl⟩ : ∃ wo, wo = wr := ⟨_, rfl⟩
          have FF : ms.any (alP (nth rs k)) = false → Hid (V = false) := fun h => (by rw [HV.out]; exact HN.out k hlt h : V = false)
          have TT : ms.any (alP (nth rs k)) = true → Hid (∀ j, j < k + 1 → ms.any (alP (nth rs j)) = true) := fun h j hj => by
            rcases Nat.lt_succ_iff_lt_or_eq.1 hj with h' | rfl
            · exact hall.out j h'
            · exact h
          have HCr : Hid (∃ g o, a = some ⟨g, o, none⟩ ∧ rs.length ≤ c ∧ w.cell? ⟨g, o + k * 3, none⟩ = some (.string (str (nth rs k).1)) ∧ w.cell? ⟨g, o + k * 3 + 1, none⟩ = some (.string (str (nth rs k).2.1)) ∧ w.cell? ⟨g, o + k * 3 + 2, none⟩ = some (.bool (nth rs k).2.2)) := by
            obtain ⟨a', c', e', hcs⟩ := HRv.out
            injection e' with e1 _ e2
            subst e1 e2
            rcases hcs with h | ⟨g, o, e, hlc, hcell⟩
            · rw [h] at hlt; simp at hlt
            · exact ⟨g, o, e, hlc, hcell k hlt⟩
          have hEr := (HRe.out.at k hlt).1
          clear hall
          go_wp2
          go_loopw [6, 7] (fun f i wr => ∃ j : Nat, j ≤ ms.length ∧ f = .bool ((ms.take j).any (alP (nth rs k))) ∧ i = .int .i64 j ∧ Hid (Below w2.heap.size w2 wr)) (fun _ i _ => ms.length - (intOf i).toNat)
          case atStart => exact ⟨0, Nat.zero_le _, rfl, rfl, hbl⟩
          case round =>
            clear x2 y2
            obtain ⟨j, hj, rfl, rfl, hbj⟩ := hrel
            obtain ⟨⟨x0, x1, x2⟩, ⟨y0, y1, y2⟩⟩ := HX.out wr hbj.out
            clear x0 x1 y0 y1
            by_cases hlt2 : j < ms.length
            · have hji : (j : Int) < (ms.length : Int) := by omega
              obtain ⟨g, o, ha, hlc, p0, p1, p2⟩ := HCr.out
              subst ha
              have HBw : Hid (Below w.heap.size w wr) := bel_trans HB2.out hbj.out
              have r0 := (HBw.out.cell (World.block_lt_of_cell? _ _ p0)).trans p0
              have r1 := (HBw.out.cell (World.block_lt_of_cell? _ _ p1)).trans p1
              have r2 := (HBw.out.cell (World.block_lt_of_cell? _ _ p2)).trans p2
              obtain ⟨a', c', e', hcs⟩ := HRu.out.below HBw.out
              injection e' with e1 _ e2
              subst e1 e2
              rcases hcs with h | ⟨g2, o2, ha2, hlc2, hcell2⟩
              · rw [h] at hlt2; simp at hlt2
              subst ha2
              obtain ⟨s0, s1, s2⟩ := hcell2 j hlt2
              have hEm := (HMe.out.at j hlt2).1
              have HC : Hid (∀ W, Calls Tryz.prog 75 #[.string (str (nth rs k).1), .string (str (nth ms j).1)] W fun e w' => e = .returned (.bool (decide (lowS (str (nth rs k).1) = lowS (str (nth ms j).1)))) ∧ Below (World.heap W).size W w') := fun W => rSame_any _ _ (by rw [str_size]; exact hEr) (by rw [str_size]; exact hEm) W
              have HT : Hid ((ms.take (j + 1)).any (alP (nth rs k)) = ((ms.take j).any (alP (nth rs k)) || (decide (lowS (str (nth rs k).1) = lowS (str (nth ms j).1)) && ((str (nth rs k).2.1).toList == (str (nth ms j).2.1).toList)))) := (by rw [any_take _ hlt2, veq]; rfl : _ = _)
              clear hcell2 p0 p1 p2 hEm
              generalize (ms.take j).any (alP (nth rs k)) = F0 at *
              generalize decide (lowS (str (nth rs k).1) = lowS (str (nth ms j).1)) = S0 at *
              generalize hp : nth rs k = p at *
              generalize hq : nth ms j = q at *
              clear hq
              have HPk : Hid (nth rs k = p) := hp
              clear hp
              obtain ⟨pn, pv, pb⟩ := p
              obtain ⟨qn, qv, qb⟩ := q
              dsimp only at r0 r1 r2 s0 s1 s2 HC HT
              generalize str pn = PN at *
              generalize str pv = PV at *
              generalize str qn = QN at *
              generalize str qv = QV at *
              have t2 : wr.drew.cell? ⟨w.heap.size, 2, none⟩ = some (.slice (some ⟨g, o, none⟩) rs.length c) := x2
              have z2 : wr.drew.cell? ⟨w.heap.size + 1, 2, none⟩ = some (.slice (some ⟨g2, o2, none⟩) ms.length c2) := y2
              have u0 : wr.drew.cell? ⟨g, o + k * 3, none⟩ = some (.string PN) := r0
              have u1 : wr.drew.cell? ⟨g, o + k * 3 + 1, none⟩ = some (.string PV) := r1
              have u2 : wr.drew.cell? ⟨g, o + k * 3 + 2, none⟩ = some (.bool pb) := r2
              have v0 : wr.drew.cell? ⟨g2, o2 + j * 3, none⟩ = some (.string QN) := s0
              have v1 : wr.drew.cell? ⟨g2, o2 + j * 3 + 1, none⟩ = some (.string QV) := s1
              have v2 : wr.drew.cell? ⟨g2, o2 + j * 3 + 2, none⟩ = some (.bool qb) := s2
              have l1 : w.heap.size < wr.heap.size := World.block_lt_of_cell? _ _ x2
              have l2 : w.heap.size + 1 < wr.heap.size := World.block_lt_of_cell? _ _ y2
              have l3 : g < wr.heap.size := World.block_lt_of_cell? _ _ r0
              have l4 : g2 < wr.heap.size := World.block_lt_of_cell? _ _ s0
              go_upto_region 10 with fail
              go_cut [8, 9] from 48 to 57 (fun s8 s9 wx => ∃ b8 b9, s8 = .pointer (some ⟨b8, 0, none⟩) ∧ s9 = .pointer (some ⟨b9, 0, none⟩) ∧ Hid ((wx.cell? ⟨b8, 0, none⟩ = some (.string PN) ∧ wx.cell? ⟨b8, 1, none⟩ = some (.string PV)) ∧ (wx.cell? ⟨b9, 0, none⟩ = some (.string QN) ∧ wx.cell? ⟨b9, 1, none⟩ = some (.string QV))) ∧ Hid (Below w2.heap.size w2 wx))
              case first =>
                go_region
                · go_wp2_with fail
                  go_meet
                  exact ⟨_, _, rfl, rfl, (made2 wr _ _ _ _ _ _ _ : _ ∧ _), (bel_drew2 (hbj.out) _ _ : Below _ _ _)⟩
                · go_wp2_with fail
                  go_meet
                  exact ⟨_, _, rfl, rfl, ((made2 wr _ _ _ _ _ _ _).symm : _ ∧ _), (bel_drew2 (hbj.out) _ _ : Below _ _ _)⟩
              case rest =>
                obtain ⟨b8, b9, rfl, rfl, HCC, HBd⟩ := hcut
                obtain ⟨⟨m0, m1⟩, ⟨n0, n1⟩⟩ := HCC.out
                clear x2 y2 r0 r1 r2 s0 s1 s2 t2 z2 u0 u1 u2 v0 v1 v2 l1 l2 l3 l4 HCC
                cases F0 with
                | true =>
                  go_wp2
                  go_roundw
                  case rel => exact ⟨j + 1, by omega, by rw [HT.out]; rfl, by go_num, HBd⟩
                  case measure => simp [intOf]; omega
                | false =>
                  go_wp2_with fail
                  refine (HC.out _).mono ?_
                  rintro e w5 ⟨rfl, hb5⟩
                  have m1' := (hb5.cell (p := ⟨b8, 1, none⟩) (World.block_lt_of_cell? _ _ m1)).trans m1
                  have n1' := (hb5.cell (p := ⟨b9, 1, none⟩) (World.block_lt_of_cell? _ _ n1)).trans n1
                  have HB5 : Hid (Below w2.heap.size w2 w5) := bel_trans HBd.out hb5
                  clear hb5 m0 m1 n0 n1
                  rw [Bool.false_or] at HT
                  cases S0 with
                  | false =>
                    go_wp2
                    go_roundw
                    case rel => exact ⟨j + 1, by omega, by rw [HT.out]; rfl, by go_num, HB5⟩
                    case measure => simp [intOf]; omega
                  | true =>
                    rw [Bool.true_and] at HT
                    cases hE : (PV.toList == QV.toList) with
                    | true =>
                      rw [hE] at HT
                      go_wp2
                      go_roundw
                      case rel => exact ⟨j + 1, by omega, by rw [HT.out], by go_num, HB5⟩
                      case measure => simp [intOf]; omega
                    | false =>
                      rw [hE] at HT
                      go_wp2
                      go_roundw
                      case rel => exact ⟨j + 1, by omega, by rw [HT.out], by go_num, HB5⟩
                      case measure => simp [intOf]; omega
            · obtain rfl : j = ms.length := by omega
              rw [List.take_length]
              generalize ms.any (alP (nth rs k)) = F0 at *
              cases F0 with
              | true =>
                have tt := TT rfl
                clear TT FF
                go_wp2
                go_roundw
                case rel => exact ⟨k + 1, by omega, by go_num, tt, hbj⟩
                case measure => simp [intOf]; omega
              | false =>
                have ff := FF rfl
                clear TT FF
                go_wp2
                go_ret
                refine ⟨?_, bel_trans HB2.out hbj.out⟩
                rw [ff.out]
                rfl
        · obtain rfl : k = rs.length := by omega
          have HF : Hid (V = true) := (by rw [HV.out]; exact HY.out hall.out : V = true)
          clear hall
          go_wp2
          go_ret
          refine ⟨?_, bel_trans HB2.out hbl.out⟩
          rw [HF.out]
          rfl

end Ac
end Go.Proofs.YthfckgdaencagaaGreatDoor
