/-
  sheet.Print.
-/
import Derived.Test.YtndglpjkmgcdpaaGreatDoorMgZ
set_option linter.unusedVariables false
set_option linter.unusedSimpArgs false
namespace Go.Proofs.YtndglpjkmgcdpaaGreatDoor
open Go.RowKit Go.Shelf
namespace Wr
open Oc Tg Pt Mf

/-- What Print answers. -/
def fullR (b : List UInt8) (t : List P5) : List UInt8 × Int := if bndR b = false ∨ standsR t b = true then ([], 151) else if t = [] then ([], 153) else prtR b t
def sixL (b hd bd : List UInt8) : List (List UInt8) := [45 :: 45 :: b, [13, 10], hd, [13, 10], bd, [13, 10]]
def sx (b hd bd : List UInt8) (j : Nat) : ByteArray := str ((sixL b hd bd).getD j [])
theorem six_all (b : List UInt8) (p : P5) : (sixL b (headR p) p.b).flatten = partR b p := by simp [sixL, partR]
theorem six_next (b hd bd : List UInt8) (acc : List UInt8) (j : Nat) (h : j < 6) : Lib.byteCells (acc ++ ((sixL b hd bd).take j).flatten) ++ Lib.strCells (sx b hd bd j) = Lib.byteCells (acc ++ ((sixL b hd bd).take (j + 1)).flatten) := by
  have hl : j < (sixL b hd bd).length := h
  unfold sx
  rw [cells_str, List.take_succ_eq_append_getElem hl, List.flatten_append, ← List.append_assoc, cells_app, List.getD_eq_getElem?_getD, List.getElem?_eq_getElem hl]
  simp [Lib.byteCells]
theorem six_cell (b hd bd : List UInt8) (j : Nat) (h : j < 6) (W : World) (R : Nat) (hr : W.heap[R]? = some (.cells #[.string (str (45 :: 45 :: b)), .string ⟨#[13, 10]⟩, .string (str hd), .string ⟨#[13, 10]⟩, .string (str bd), .string ⟨#[13, 10]⟩] 9 (0, 0))) : W.cell? ⟨R, j, none⟩ = some (.string (sx b hd bd j)) := by
  rw [Lib.cell_of_heap hr]
  rcases (by omega : j = 0 ∨ j = 1 ∨ j = 2 ∨ j = 3 ∨ j = 4 ∨ j = 5) with rfl | rfl | rfl | rfl | rfl | rfl <;> rfl
theorem flat_le (L : List (List UInt8)) (j : Nat) : ((L.take j).flatten).length ≤ L.flatten.length := by
  conv => rhs; rw [← List.take_append_drop j L]
  rw [List.flatten_append, List.length_append]
  omega
theorem sx_len (b hd bd : List UInt8) (j : Nat) (h : j < 6) : (sx b hd bd j).size ≤ (sixL b hd bd).flatten.length := by
  unfold sx
  rw [str_size]
  rcases (by omega : j = 0 ∨ j = 1 ∨ j = 2 ∨ j = 3 ∨ j = 4 ∨ j = 5) with rfl | rfl | rfl | rfl | rfl | rfl <;> simp [sixL] <;> omega

set_option maxRecDepth 100000 in
set_option maxHeartbeats 4000000 in
theorem Print15_any (b : List UInt8) (v : Value) (t : List P5) (hb0 : b.length ≤ 1048576) (hb : t.length + sumT t ≤ 1048576) (w : World) (hr : RdT v t w) (hm : ML w) (ht : Tab w) :
    Calls Tryz.prog 8 #[.string (str b), v] w fun e w' => e = .returned (.tuple #[.string (str (fullR b t).1), .int .i64 (fullR b t).2]) ∧ Below w.heap.size w w' := by
  have hmk : (⟨#[45, 45]⟩ : ByteArray) ++ str b = str (45 :: 45 :: b) := by
    rw [show (⟨#[45, 45]⟩ : ByteArray) = str [45, 45] from rfl, cat2]; rfl
  have HMk : Hid ((⟨#[45, 45]⟩ : ByteArray) ++ str b = str (45 :: 45 :: b)) := hmk
  have hbz : 2 + (str b).size ≤ 9223372036854775807 := by rw [str_size]; omega
  have HI : Hid (∀ W, Calls Tryz.prog 20 #[.string (str b)] W fun e w' => e = .returned (.bool (bndR b)) ∧ Below W.heap.size W w') := fun W => by
    have := IsBoundary_any (str b) (by rw [str_size]; omega) W
    rw [str_list] at this
    exact this
  have HCt : Hid (∀ W, ML W → W.cell? ⟨w.heap.size, 0, none⟩ = some (.string (str (45 :: 45 :: b))) → w.heap.size < W.heap.size → RdT v t W → Calls Tryz.prog 21 #[v, .func (.func 18) #[] #[.pointer (some ⟨w.heap.size, 0, none⟩)]] W fun e w' => e = .returned (.bool (standsR t b)) ∧ Below W.heap.size W w') := fun W h1 h2 h3 h4 => ContainsFunc_P v t (by omega) b w.heap.size W h1 h2 h3 h4
  have HRd : Hid (RdT v t w) := hr
  have HM : Hid (ML w) := hm
  have HT : Hid (Tab w) := ht
  obtain ⟨a, c, rfl, hcs⟩ := hr
  have HC : Hid (t = [] ∨ ∃ g o, a = some ⟨g, o, none⟩ ∧ t.length ≤ c ∧ ∀ j, j < t.length → CellT w g (o + j * 5) (nthT t j)) := hcs
  clear hm ht hcs hmk
  obtain ⟨w1, hw1⟩ : ∃ w1, w1 = w.alloc (.cells #[.string (str (45 :: 45 :: b))] 9) := ⟨_, rfl⟩
  have HB1 : Hid (Below w.heap.size w w1) := (by rw [hw1]; exact (Below.refl _ w).alloc (Nat.le_refl _) _ : Below _ _ _)
  have HX1 : Hid (w1.cell? ⟨w.heap.size, 0, none⟩ = some (.string (str (45 :: 45 :: b)))) := (by rw [hw1, Lib.cell_of_heap (heap_alloc_new w _)]; rfl : _ = _)
  have hz1 : w.heap.size < w1.heap.size := by rw [hw1]; simp
  have HF : Hid (fullR b t = if bndR b = false ∨ standsR t b = true then ([], 151) else if t = [] then ([], 153) else prtR b t) := (rfl : _ = _)
  have HBl : Hid (bndR b = true → b.length ≤ 70) := fun h => by
    unfold bndR at h
    simp only [Bool.and_eq_true, decide_eq_true_eq] at h
    exact h.2.2
  generalize fullR b t = FR at *
  cases hbr : bndR b with
  | false =>
    have HV : Hid (FR = ([], 151)) := (by rw [HF.out, if_pos (.inl hbr)] : _ = _)
    rw [hbr] at HI
    go_enter Tryz.func8, Tryz.ntmps8
    go_wp2_with fail
    rw [HMk.out, ← hw1]
    clear hw1
    refine (HI.out _).mono ?_
    rintro e w2 ⟨rfl, hb2⟩
    have HB2 : Hid (Below w.heap.size w w2) := bel_trans HB1.out hb2
    clear hb2
    go_wp2
    go_ret2
    exact ⟨by rw [HV.out]; rfl, HB2.out⟩
  | true =>
    rw [hbr] at HI
    have hb70 := HBl.out hbr
    cases hst : standsR t b with
    | true =>
      have HV : Hid (FR = ([], 151)) := (by rw [HF.out, if_pos (.inr hst)] : _ = _)
      rw [hst] at HCt
      go_enter Tryz.func8, Tryz.ntmps8
      go_wp2_with fail
      rw [HMk.out, ← hw1]
      clear hw1
      refine (HI.out _).mono ?_
      rintro e w2 ⟨rfl, hb2⟩
      have HB2 : Hid (Below w.heap.size w w2) := bel_trans HB1.out hb2
      have HX2 : Hid (w2.cell? ⟨w.heap.size, 0, none⟩ = some (.string (str (45 :: 45 :: b)))) := (hb2.cell (p := ⟨w.heap.size, 0, none⟩) hz1).trans HX1.out
      have hz2 : w.heap.size < w2.heap.size := Nat.lt_of_lt_of_le hz1 hb2.size
      clear hb2
      go_wp2_with fail
      refine (HCt.out _ (HM.out.below HB2.out) HX2.out hz2 (HRd.out.below HB2.out)).mono ?_
      rintro e w3 ⟨rfl, hb3⟩
      have HB3 : Hid (Below w.heap.size w w3) := bel_trans HB2.out hb3
      clear hb3
      go_wp2
      go_ret2
      exact ⟨by rw [HV.out]; rfl, HB3.out⟩
    | false =>
      rw [hst] at HCt
      have HF2 : Hid (FR = if t = [] then ([], 153) else prtR b t) := (by rw [HF.out, if_neg (by rw [hbr, hst]; simp)] : _ = _)
      by_cases ht0 : t = []
      · have HV : Hid (FR = ([], 153)) := (by rw [HF2.out, if_pos ht0] : _ = _)
        have hl0 : ((t.length : Int) == 0) = true := by rw [ht0]; rfl
        clear HF HF2 ht0
        go_enter Tryz.func8, Tryz.ntmps8
        go_wp2_with fail
        rw [HMk.out, ← hw1]
        clear hw1
        refine (HI.out _).mono ?_
        rintro e w2 ⟨rfl, hb2⟩
        have HB2 : Hid (Below w.heap.size w w2) := bel_trans HB1.out hb2
        have HX2 : Hid (w2.cell? ⟨w.heap.size, 0, none⟩ = some (.string (str (45 :: 45 :: b)))) := (hb2.cell (p := ⟨w.heap.size, 0, none⟩) hz1).trans HX1.out
        have hz2 : w.heap.size < w2.heap.size := Nat.lt_of_lt_of_le hz1 hb2.size
        clear hb2
        go_wp2_with fail
        refine (HCt.out _ (HM.out.below HB2.out) HX2.out hz2 (HRd.out.below HB2.out)).mono ?_
        rintro e w3 ⟨rfl, hb3⟩
        have HB3 : Hid (Below w.heap.size w w3) := bel_trans HB2.out hb3
        clear hb3
        go_wp2
        go_ret2
        exact ⟨by rw [HV.out]; rfl, HB3.out⟩
      · have HV : Hid (FR = prtR b t) := (by rw [HF2.out, if_neg ht0] : _ = _)
        have hl0 : ((t.length : Int) == 0) = false := by
          have : t.length ≠ 0 := fun e => ht0 (List.length_eq_zero_iff.1 e)
          simp; omega
        clear HF HF2 hbr hst ht0 HBl
        go_enter Tryz.func8, Tryz.ntmps8
        go_wp2_with fail
        rw [HMk.out, ← hw1]
        clear hw1
        refine (HI.out _).mono ?_
        rintro e w2 ⟨rfl, hb2⟩
        have HB2 : Hid (Below w.heap.size w w2) := bel_trans HB1.out hb2
        have HX2 : Hid (w2.cell? ⟨w.heap.size, 0, none⟩ = some (.string (str (45 :: 45 :: b)))) := (hb2.cell (p := ⟨w.heap.size, 0, none⟩) hz1).trans HX1.out
        have hz2 : w.heap.size < w2.heap.size := Nat.lt_of_lt_of_le hz1 hb2.size
        clear hb2
        go_wp2_with fail
        refine (HCt.out _ (HM.out.below HB2.out) HX2.out hz2 (HRd.out.below HB2.out)).mono ?_
        rintro e w3 ⟨rfl, hb3⟩
        have HB3 : Hid (Below w.heap.size w w3) := bel_trans HB2.out hb3
        have HX3 : Hid (w3.cell? ⟨w.heap.size, 0, none⟩ = some (.string (str (45 :: 45 :: b)))) := (hb3.cell (p := ⟨w.heap.size, 0, none⟩) hz2).trans HX2.out
        have hz3 : w.heap.size < w3.heap.size := Nat.lt_of_lt_of_le hz2 hb3.size
        clear hb3 HX2 hz2 HX1 hz1
        have HBd0 : Hid (Bd (w3.heap.size + 1) w3.heap.size (Lib.byteCells (bodyR b (t.take 0))) (w3.alloc (.cells #[.pointer none, .slice none 0 0] 57))) := Bd.new w3 (w3.heap.size + 1)
        have HBe0 : Hid (Below w3.heap.size w3 (w3.alloc (.cells #[.pointer none, .slice none 0 0] 57))) := (Below.refl _ w3).alloc (Nat.le_refl _) _
        have HSz0 : Hid (w3.heap.size + 1 ≤ (w3.alloc (.cells #[.pointer none, .slice none 0 0] 57)).heap.size) := (by simp : _ ≤ _)
        generalize hMK : str (45 :: 45 :: b) = MK at *
        have HMK : Hid (str (45 :: 45 :: b) = MK) := hMK
        have hMKz : MK.size = b.length + 2 := by rw [← hMK, str_size]; simp
        clear hMK HMk
        go_wp2
        go_loopw [33] (fun iv wr => ∃ k : Nat, k ≤ t.length ∧ iv = .int .i64 k ∧ Hid ((t.take k).all okPt = true) ∧ Hid (Bd (w3.heap.size + 1) w3.heap.size (Lib.byteCells (bodyR b (t.take k))) wr) ∧ Hid (Below w3.heap.size w3 wr) ∧ Hid (w3.heap.size + 1 ≤ wr.heap.size)) (fun iv _ => t.length - (intOf iv).toNat)
        case atStart => exact ⟨0, Nat.zero_le _, rfl, (rfl : (t.take 0).all okPt = true), HBd0, HBe0, HSz0⟩
        case round =>
          obtain ⟨k, hk, rfl, hA, hBd, hBl, hSz⟩ := hrel
          obtain ⟨wo, rfl⟩ : ∃ wo, wo = wr := ⟨_, rfl⟩
          by_cases hlt : k < t.length
          · rcases HC.out with h | ⟨g, o, rfl, hcap, hcell⟩
            · rw [h] at hlt; simp at hlt
            have hck := hcell k hlt
            have hg : g < w.heap.size := World.block_lt_of_cell? w _ hck.1
            have HBo : Hid (Below w.heap.size w wo) := bel_trans HB3.out hBl.out
            obtain ⟨d0, d1, d2, d3, d4⟩ := hck.below HBo.out hg
            clear hcell hck
            have hsz := szT_le t k hlt
            have HPH : Hid (∀ W, Tab W → _) := fun W h => printHead_any (nthT t k) (by omega) W h
            have HBad : Hid (okPt (nthT t k) = false → FR = ([], 152)) := fun h => by rw [HV.out]; exact prt_bad b t k hlt h
            have HAn : Hid (okPt (nthT t k) = true → (t.take (k + 1)).all okPt = true) := fun h => by rw [take_nthT t k hlt, List.all_append, hA.out]; simp [h]
            have HBn : Hid (bodyR b (t.take (k + 1)) = bodyR b (t.take k) ++ partR b (nthT t k)) := (by rw [take_nthT t k hlt, body_snoc] : _ = _)
            have hbl := body_len b (t.take k)
            have hst := sumT_take t k
            have hpl := part_len b (nthT t k)
            have hbk : (bodyR b (t.take k)).length ≤ 500000000 := by
              have h1 : (t.take k).length ≤ 1048576 := by rw [List.length_take]; omega
              have h2 : (t.take k).length * (b.length + 120) ≤ 1048576 * 190 := Nat.mul_le_mul h1 (by omega)
              omega
            have hpk : (partR b (nthT t k)).length ≤ 500000000 := by omega
            clear hbl hst hpl
            generalize nthT t k = p at *
            obtain ⟨wa, hwa⟩ : ∃ wa, wa = wo.alloc (.cells #[.string (str p.n), .string (str p.f), .string (str p.m), .string (str p.b), .bool p.h] 41) := ⟨_, rfl⟩
            have HCp : Hid (wa.heap[wo.heap.size]? = some (.cells #[.string (str p.n), .string (str p.f), .string (str p.m), .string (str p.b), .bool p.h] 41 (0, 0))) := (by rw [hwa]; exact heap_alloc_new wo _ : _ = _)
            have hba : Below wo.heap.size wo wa := by rw [hwa]; exact (Below.refl _ wo).alloc (Nat.le_refl _) _
            have hza : wo.heap.size < wa.heap.size := by rw [hwa]; simp
            have HBda : Hid (Bd (w3.heap.size + 1) w3.heap.size (Lib.byteCells (bodyR b (t.take k))) wa) := hBd.out.below hba
            have HBla : Hid (Below w3.heap.size w3 wa) := hBl.out.trans (hba.mono hBl.out.size)
            have HTa : Hid (Tab wa) := HT.out.below (bel_trans HB3.out HBla.out) (Nat.le_refl _)
            clear hba
            generalize hPN : str p.n = PN at *
            generalize hPF : str p.f = PF at *
            generalize hPM : str p.m = PM at *
            clear hPN hPF hPM
            go_wp2_with fail
            rw [← hwa]
            clear hwa
            refine (HPH.out _ HTa.out).mono ?_
            rintro e w5 ⟨X, rfl, hX, hb5⟩
            have HX5 : Hid (okPt p = true → X = str (headR p)) := hX
            have HBd5 : Hid (Bd (w3.heap.size + 1) w3.heap.size (Lib.byteCells (bodyR b (t.take k))) w5) := HBda.out.below hb5
            have HBl5 : Hid (Below w3.heap.size w3 w5) := HBla.out.trans (hb5.mono HBla.out.size)
            have hr5 : w5.heap[wo.heap.size]? = some (.cells #[.string PN, .string PF, .string PM, .string (str p.b), .bool p.h] 41 (0, 0)) := (hb5.block _ hza).trans HCp.out
            have hy5 : w5.cell? ⟨wo.heap.size, 3, none⟩ = some (.string (str p.b)) := by rw [Lib.cell_of_heap hr5]; rfl
            have hx5 : w5.cell? ⟨w.heap.size, 0, none⟩ = some (.string MK) := (HBl5.out.cell (p := ⟨w.heap.size, 0, none⟩) hz3).trans HX3.out
            have hz5 : w3.heap.size + 1 ≤ w5.heap.size := Nat.le_trans hSz.out (Nat.le_trans (Nat.le_of_lt hza) hb5.size)
            clear hX hb5 hr5 HBda HBla HCp HTa
            cases hok : okPt p with
            | false =>
              have HVb : Hid (FR = ([], 152)) := HBad.out hok
              go_wp2
              go_ret2
              exact ⟨by rw [HVb.out]; rfl, bel_trans HB3.out HBl5.out⟩
            | true =>
              have hXe := HX5.out hok
              subst hXe
              have HAk : Hid ((t.take (k + 1)).all okPt = true) := HAn.out hok
              clear HX5 HBad HAn hok
              have HR6 : Hid ((w5.alloc (.cells #[.string MK, .string ⟨#[13, 10]⟩, .string (str (headR p)), .string ⟨#[13, 10]⟩, .string (str p.b), .string ⟨#[13, 10]⟩] 9)).heap[w5.heap.size]? = some (.cells #[.string MK, .string ⟨#[13, 10]⟩, .string (str (headR p)), .string ⟨#[13, 10]⟩, .string (str p.b), .string ⟨#[13, 10]⟩] 9 (0, 0))) := heap_alloc_new w5 _
              have HBd6 : Hid (Bd (w3.heap.size + 1) w3.heap.size (Lib.byteCells (bodyR b (t.take k) ++ ((sixL b (headR p) p.b).take 0).flatten)) (w5.alloc (.cells #[.string MK, .string ⟨#[13, 10]⟩, .string (str (headR p)), .string ⟨#[13, 10]⟩, .string (str p.b), .string ⟨#[13, 10]⟩] 9))) := (by rw [List.take_zero, List.flatten_nil, List.append_nil]; exact HBd5.out.below ((Below.refl _ w5).alloc (Nat.le_refl _) _) : Bd _ _ _ _)
              have HBl6 : Hid (Below w3.heap.size w3 (w5.alloc (.cells #[.string MK, .string ⟨#[13, 10]⟩, .string (str (headR p)), .string ⟨#[13, 10]⟩, .string (str p.b), .string ⟨#[13, 10]⟩] 9))) := HBl5.out.alloc HBl5.out.size _
              have HSz6 : Hid (w3.heap.size + 1 ≤ (w5.alloc (.cells #[.string MK, .string ⟨#[13, 10]⟩, .string (str (headR p)), .string ⟨#[13, 10]⟩, .string (str p.b), .string ⟨#[13, 10]⟩] 9)).heap.size) := (by simp; omega : _ ≤ _)
              have HSix : Hid (∀ j, j < 6 → ∀ W : World, W.heap[w5.heap.size]? = some (.cells #[.string MK, .string ⟨#[13, 10]⟩, .string (str (headR p)), .string ⟨#[13, 10]⟩, .string (str p.b), .string ⟨#[13, 10]⟩] 9 (0, 0)) → W.cell? ⟨w5.heap.size, j, none⟩ = some (.string (sx b (headR p) p.b j))) := fun j hj W h => six_cell b (headR p) p.b j hj W _ (by rw [HMK.out]; exact h)
              have HNx : Hid (∀ j, j < 6 → Lib.byteCells (bodyR b (t.take k) ++ ((sixL b (headR p) p.b).take j).flatten) ++ Lib.strCells (sx b (headR p) p.b j) = Lib.byteCells (bodyR b (t.take k) ++ ((sixL b (headR p) p.b).take (j + 1)).flatten)) := fun j hj => six_next b (headR p) p.b _ j hj
              have HLn : Hid (∀ j, j < 6 → (Lib.byteCells (bodyR b (t.take k) ++ ((sixL b (headR p) p.b).take j).flatten)).length + (sx b (headR p) p.b j).size ≤ 140737488355328) := fun j hj => by
                have h1 := flat_le (sixL b (headR p) p.b) j
                have h2 := sx_len b (headR p) p.b j hj
                rw [six_all] at h1 h2
                rw [Tg.cells_len, List.length_append]
                omega
              have HAll : Hid (bodyR b (t.take k) ++ ((sixL b (headR p) p.b).take 6).flatten = bodyR b (t.take (k + 1))) := (by rw [HBn.out, ← six_all]; rfl : _ = _)
              generalize str p.b = PBd at *
              generalize str (headR p) = PHd at *
              go_wp2
              generalize (w5.alloc (.cells #[.string MK, .string ⟨#[13, 10]⟩, .string PHd, .string ⟨#[13, 10]⟩, .string PBd, .string ⟨#[13, 10]⟩] 9)) = w6 at *
              go_loopw [50] (fun iv wq => ∃ j : Nat, j ≤ 6 ∧ iv = .int .i64 j ∧ Hid (Bd (w3.heap.size + 1) w3.heap.size (Lib.byteCells (bodyR b (t.take k) ++ ((sixL b (headR p) p.b).take j).flatten)) wq) ∧ Hid (wq.heap[w5.heap.size]? = some (.cells #[.string MK, .string ⟨#[13, 10]⟩, .string PHd, .string ⟨#[13, 10]⟩, .string PBd, .string ⟨#[13, 10]⟩] 9 (0, 0))) ∧ Hid (Below w3.heap.size w3 wq) ∧ Hid (w3.heap.size + 1 ≤ wq.heap.size)) (fun iv _ => 6 - (intOf iv).toNat)
              case atStart => exact ⟨0, Nat.zero_le _, rfl, HBd6, HR6, HBl6, HSz6⟩
              case round =>
                obtain ⟨j, hj, rfl, hBj, hRj, hLj, hZj⟩ := hrel
                by_cases hj6 : j < 6
                · have hji : (j : Int) < 6 := by omega
                  have hcj := HSix.out j hj6 _ hRj.out
                  have HNj := HNx.out j hj6
                  have HNj' : Hid (_ = _) := HNj
                  have HLj : Hid (_ ≤ _) := HLn.out j hj6
                  clear HNj
                  generalize sx b (headR p) p.b j = SJ at *
                  go_wp2_with fail
                  refine (WriteString_bk _ _ _ _ _ hBj.out HLj.out hZj.out).mono ?_
                  rintro e w8 ⟨rfl, hB8, hF8, hK8⟩
                  have HB8 : Hid (Bd (w3.heap.size + 1) w3.heap.size (Lib.byteCells (bodyR b (t.take k) ++ ((sixL b (headR p) p.b).take (j + 1)).flatten)) w8) := (by rw [← HNj'.out]; exact hB8 : Bd _ _ _ _)
                  have HR8 : Hid (w8.heap[w5.heap.size]? = some (.cells #[.string MK, .string ⟨#[13, 10]⟩, .string PHd, .string ⟨#[13, 10]⟩, .string PBd, .string ⟨#[13, 10]⟩] 9 (0, 0))) := hK8 _ _ _ _ (by omega) (by decide) hRj.out
                  have HL8 : Hid (Below w3.heap.size w3 w8) := hLj.out.trans (hF8.below (Nat.le_succ _) (Nat.le_refl _))
                  have HZ8 : Hid (w3.heap.size + 1 ≤ w8.heap.size) := Nat.le_trans hZj.out hF8.size
                  clear hB8 hF8 hK8
                  go_wp2
                  go_roundw
                  case rel => exact ⟨j + 1, by omega, by go_num, HB8, HR8, HL8, HZ8⟩
                  case measure => simp [intOf]; omega
                · obtain rfl : j = 6 := by omega
                  have HB9 : Hid (Bd (w3.heap.size + 1) w3.heap.size (Lib.byteCells (bodyR b (t.take (k + 1)))) wr) := (by rw [← HAll.out]; exact hBj.out : Bd _ _ _ _)
                  go_wp2
                  go_roundw
                  case rel => exact ⟨k + 1, by omega, by go_num, HAk, HB9, hLj, hZj⟩
                  case measure => simp [intOf]; omega
          · obtain rfl : k = t.length := by omega
            have hA' := hA.out
            have hBd' := hBd.out
            rw [List.take_length] at hA' hBd'
            have HVe : Hid (FR = (bodyR b t ++ endR b, 0)) := (by rw [HV.out]; unfold prtR; rw [hA']; rfl : _ = _)
            have HBd2 : Hid (Bd (w3.heap.size + 1) w3.heap.size (Lib.byteCells (bodyR b t)) wo) := hBd'
            have hx5 : wo.cell? ⟨w.heap.size, 0, none⟩ = some (.string MK) := (hBl.out.cell (p := ⟨w.heap.size, 0, none⟩) hz3).trans HX3.out
            have hEd : MK ++ (⟨#[45, 45]⟩ : ByteArray) ++ (⟨#[13, 10]⟩ : ByteArray) = str (endR b) := by
              rw [← HMK.out, show (⟨#[45, 45]⟩ : ByteArray) = str [45, 45] from rfl, show (⟨#[13, 10]⟩ : ByteArray) = str [13, 10] from rfl, cat2, cat2]; rfl
            have HEd : Hid (MK ++ (⟨#[45, 45]⟩ : ByteArray) ++ (⟨#[13, 10]⟩ : ByteArray) = str (endR b)) := hEd
            have hbl := body_len b t
            have hbk : (bodyR b t).length ≤ 500000000 := by
              have h2 : t.length * (b.length + 120) ≤ 1048576 * 190 := Nat.mul_le_mul (by omega) (by omega)
              omega
            have hel : (str (endR b)).size ≤ 100 := by rw [str_size]; unfold endR; simp; omega
            have hs1 : MK.size + 2 ≤ 9223372036854775807 := by omega
            have hs2 : MK.size + 2 + 2 ≤ 9223372036854775807 := by omega
            have HLe : Hid ((Lib.byteCells (bodyR b t)).length + (str (endR b)).size ≤ 140737488355328) := (by rw [Tg.cells_len]; omega : _ ≤ _)
            have HCe : Hid (Lib.byteCells (bodyR b t) ++ Lib.strCells (str (endR b)) = Lib.byteCells (bodyR b t ++ endR b)) := (by rw [cells_str, cells_app] : _ = _)
            clear hA' hBd' hEd hbl hbk
            generalize str (endR b) = ED at *
            go_wp2_with fail
            rw [HEd.out]
            refine (WriteString_bd _ _ _ _ _ HBd2.out HLe.out hSz.out).mono ?_
            rintro e w8 ⟨rfl, hB8, hF8⟩
            have HB8 : Hid (Bd (w3.heap.size + 1) w3.heap.size (Lib.byteCells (bodyR b t ++ endR b)) w8) := (by rw [← HCe.out]; exact hB8 : Bd _ _ _ _)
            have HL8 : Hid (Below w3.heap.size w3 w8) := hBl.out.trans (hF8.below (Nat.le_succ _) (Nat.le_refl _))
            have HZ8 : Hid (w3.heap.size + 1 ≤ w8.heap.size) := Nat.le_trans hSz.out hF8.size
            clear hB8 hF8
            go_wp2_with fail
            refine (String_bd _ _ _ _ HB8.out HZ8.out).mono ?_
            rintro e w9 ⟨rfl, hb9, _⟩
            have HL9 : Hid (Below w3.heap.size w3 w9) := HL8.out.trans (hb9.mono (by omega))
            clear hb9
            go_wp2
            go_ret2
            exact ⟨by rw [HVe.out]; rfl, bel_trans HB3.out HL9.out⟩

end Wr
end Go.Proofs.YtndglpjkmgcdpaaGreatDoor
