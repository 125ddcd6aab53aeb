/-
  FieldOne.
-/
import Derived.Test.YtjmeijjmgmcncaaDoorFDO
import Derived.Test.YtjmeijjmgmcncaaDoorFFm
import Derived.Deep.Cut
import Derived.Deep.CutRange
set_option linter.unusedVariables false
set_option linter.unusedSimpArgs false
namespace Go.Proofs.YtjmeijjmgmcncaaDoor
open Go.RowKit Go.Shelf
namespace Fd
open Oc Tg

theorem vals_up (s : List UInt8) (t : List Fl) (k : Nat) (h : k < t.length) : (vals s (t.take (k + 1))).length = (vals s (t.take k)).length + (if alike s (nth t k) then 1 else 0) := by
  rw [vals_take s t k h]
  split <;> simp

set_option maxRecDepth 100000 in
set_option maxHeartbeats 2000000 in
theorem walk_FieldOne (v : Value) (t : List Fl) (hs : bulkfields t ≤ 1048576) (old : Bool) (w : World) (hin : InF v t w) (hw : Env w) :
    Calls Tryd.prog 6 #[v, .bool old] w fun e w' => e = .returned (.bool true) ∧ Below w.heap.size w w' := by
  unfold bulkfields at hs
  have hlen := len_sumF t
  have hM : Hid (Each 1048576 t) := (each_sumF t).mono hs
  have HA : Hid (Calls _ _ _ _ _) := awake_any w hw
  have HE : Hid (Env w) := hw
  have HI : Hid (InF v t w) := hin
  have HR : Hid (RdF v t w) := hin.1
  have HWi : Hid (∀ w, InF v t w → Calls Tryd.prog 27 #[v] w fun e w' => ∃ u, e = .returned u ∧ OwnF 52 w.heap.size u t w' ∧ Below w.heap.size w w') := fun w h => wide_any v t w h (by omega)
  have HFr : Hid (∀ u w, RdF u t w → Tab w → Calls Tryd.prog 26 #[u, .bool old] w fun e w' => e = .returned (.tuple #[.agg #[.int .i64 (framingF t old).1, .int .i64 (framingF t old).2.1], .int .i64 (framingF t old).2.2]) ∧ Below w.heap.size w w') := fun u w h tb => Framing_any u t old hs w h tb
  have HL : Hid (∀ u w, RdF u t w → Calls Tryd.prog 31 #[u, .string ⟨#[67, 111, 110, 116, 101, 110, 116, 45, 76, 101, 110, 103, 116, 104]⟩] w fun e w' => ∃ x, e = .returned (.tuple #[x, .int .i64 (listF nCL t).2]) ∧ OwnS w.heap.size x (listF nCL t).1 w' ∧ Below w.heap.size w w') := fun u w h => List6_any u t nCL (by decide) hs w h
  have HA1 : Hid (∀ (p : Fl) w, p.1.length ≤ 1048576 → Calls Tryd.prog 30 #[.string (str p.1), .string ⟨#[99, 111, 110, 116, 101, 110, 116, 45, 108, 101, 110, 103, 116, 104]⟩] w fun e w' => e = .returned (.bool (alike nCL p)) ∧ Below w.heap.size w w') := fun p w h => by
    have h := rAlike_any (str p.1) (str [99, 111, 110, 116, 101, 110, 116, 45, 108, 101, 110, 103, 116, 104]) (by rw [str_size]; unfold maxLen; omega) (by decide) w
    rw [low_alike, show lower [99, 111, 110, 116, 101, 110, 116, 45, 108, 101, 110, 103, 116, 104] = lower nCL by decide] at h
    exact h
  have HA2 : Hid (∀ (p : Fl) w, p.1.length ≤ 1048576 → Calls Tryd.prog 30 #[.string (str p.1), .string ⟨#[116, 114, 97, 110, 115, 102, 101, 114, 45, 101, 110, 99, 111, 100, 105, 110, 103]⟩] w fun e w' => e = .returned (.bool (alike nTE p)) ∧ Below w.heap.size w w') := fun p w h => by
    have h := rAlike_any (str p.1) (str [116, 114, 97, 110, 115, 102, 101, 114, 45, 101, 110, 99, 111, 100, 105, 110, 103]) (by rw [str_size]; unfold maxLen; omega) (by decide) w
    rw [low_alike, show lower [116, 114, 97, 110, 115, 102, 101, 114, 45, 101, 110, 99, 111, 100, 105, 110, 103] = lower nTE by decide] at h
    exact h
  have HW : Hid (_) := one_ways t old
  have htl : t.length ≤ 1048576 := by omega
  have HLn : Hid ((listF nCL t).1.length ≤ 1048576) := by
    have hv := sumV_filter nCL t
    have hll := listV_len (vals nCL t) []
    show _ ≤ _
    unfold listF
    simp at hll
    omega
  have HSh : Hid (∀ x ∈ (listF nCL t).1, x.length ≤ 1048576) := listV_short 1048576 (vals nCL t) [] (fun x hx => by cases hx) (vals_short hM.out nCL)
  obtain ⟨⟨a, c, rfl, _⟩, _⟩ := hin
  clear hw hs
  generalize (framingF t old).1 = f1 at *
  generalize (framingF t old).2.1 = f2 at *
  generalize (framingF t old).2.2 = f3 at *
  go_enter Tryd.func6, Tryd.ntmps6
  go_wp2_with fail
  refine (HA.out).mono ?_
  rintro e w1 ⟨rfl, hb⟩
  have HB1 : Hid (Below w.heap.size w w1) := hb
  clear hb
  go_wp2_with fail
  refine (HWi.out _ (HI.out.below HB1.out)).mono ?_
  rintro e w2 ⟨u, rfl, hu, hb⟩
  have HB2 : Hid (Below w.heap.size w w2) := bel_trans HB1.out hb
  have U_2 : Hid (RdF u t w2) := hu.rd
  clear hb hu
  go_wp2_with fail
  refine (HFr.out _ _ U_2.out (HE.out.below HB2.out).1).mono ?_
  rintro e w3 ⟨rfl, hb⟩
  have HB3 : Hid (Below w.heap.size w w3) := bel_trans HB2.out hb
  clear hb U_2 HFr HA
  obtain ⟨w4, hW⟩ : ∃ W, W = w3.alloc (.cells #[.int .i64 f1, .int .i64 f2] 48) := ⟨_, rfl⟩
  have hz : Hid (w4.heap.size = w3.heap.size + 1) := by show _ = _; rw [hW]; simp
  have R1 : w4.heap[w3.heap.size]? = some (.cells #[.int .i64 f1, .int .i64 f2] 48 (0, 0)) := by rw [hW]; exact heap_alloc_new w3 _
  have HR1 : Hid (_) := R1
  have hb : Below w3.heap.size w3 w4 := by rw [hW]; exact (Below.refl _ w3).alloc (Nat.le_refl _) _
  have HB4 : Hid (Below w.heap.size w w4) := bel_trans HB3.out hb
  clear R1 hb
  go_wp2_with fail
  rw [← hW]
  clear hW
  go_loopw [7, 8, 29] (fun nv cv i wr => ∃ k : Nat, k ≤ t.length ∧ i = .int .i64 k ∧ nv = .int .i64 ((vals nCL (t.take k)).length : Int) ∧ cv = .int .i64 ((vals nTE (t.take k)).length : Int) ∧ Hid (Below w4.heap.size w4 wr)) (fun _ _ i _ => t.length - (intOf i).toNat)
  case atStart => exact ⟨0, Nat.zero_le _, rfl, rfl, rfl, Below.refl _ _⟩
  case round =>
    obtain ⟨k, hk, rfl, rfl, rfl, hbl⟩ := hrel
    have hn1 : (vals nCL (t.take k)).length ≤ 1048576 := by
      have := vals_len nCL (t.take k)
      rw [List.length_take] at this
      omega
    have hn2 : (vals nTE (t.take k)).length ≤ 1048576 := by
      have := vals_len nTE (t.take k)
      rw [List.length_take] at this
      omega
    by_cases hlt : k < t.length
    · have HV1 : Hid (_) := vals_up nCL t k hlt
      have HV2 : Hid (_) := vals_up nTE t k hlt
      have HRk : Hid (RdF (.slice a t.length c) t wr) := (HR.out.below HB4.out).below hbl.out
      obtain ⟨a', c', e', hcs⟩ := HRk.out
      injection e' with e1 _ e2
      subst e1 e2
      rcases hcs with h | ⟨g, o, rfl, hlc, hcell⟩
      · rw [h] at hlt; simp at hlt
      obtain ⟨p0, p1⟩ := hcell k hlt
      have hEk := hM.out.at k hlt
      have HC1 : Hid (∀ w, Calls Tryd.prog 30 #[.string (str (nth t k).1), .string ⟨#[99, 111, 110, 116, 101, 110, 116, 45, 108, 101, 110, 103, 116, 104]⟩] w fun e w' => e = .returned (.bool (alike nCL (nth t k))) ∧ Below w.heap.size w w') := fun w => HA1.out _ w hEk.1
      have HC2 : Hid (∀ w, Calls Tryd.prog 30 #[.string (str (nth t k).1), .string ⟨#[116, 114, 97, 110, 115, 102, 101, 114, 45, 101, 110, 99, 111, 100, 105, 110, 103]⟩] w fun e w' => e = .returned (.bool (alike nTE (nth t k))) ∧ Below w.heap.size w w') := fun w => HA2.out _ w hEk.1
      clear hcell hEk HA1 HA2 HW HL HWi
      generalize alike nCL (nth t k) = b1 at HC1 HV1
      generalize alike nTE (nth t k) = b2 at HC2 HV2
      generalize nth t k = p at *
      obtain ⟨pn, pv⟩ := p
      dsimp only at p0 p1 HC1 HC2
      generalize hn : str pn = N at *
      clear hn
      generalize (vals nCL (t.take k)).length = n1 at *
      generalize (vals nTE (t.take k)).length = n2 at *
      have hb1 : Below wr.heap.size wr (wr.alloc (.cells #[.string N, .string (str pv)] 52)) := (Below.refl _ wr).alloc (Nat.le_refl _) _
      have HBb : Hid (Below w4.heap.size w4 (wr.alloc (.cells #[.string N, .string (str pv)] 52))) := bel_trans hbl.out hb1
      clear hb1
      cases b1 <;> cases b2
      all_goals
        go_wp2_with fail
        refine (HC1.out _).mono ?_
        rintro e w5 ⟨rfl, hb⟩
        have HB5 : Hid (Below w4.heap.size w4 w5) := bel_trans HBb.out hb
        have d0 : w5.cell? ⟨wr.heap.size, 0, none⟩ = some (.string N) := by rw [hb.cell (by simp)]; simp
        clear hb
        go_wp2_with fail
        refine (HC2.out _).mono ?_
        rintro e w6 ⟨rfl, hb⟩
        have HB6 : Hid (Below w4.heap.size w4 w6) := bel_trans HB5.out hb
        clear hb
        go_wp2
        go_round
        case rel => exact ⟨k + 1, by omega, by go_num, by have h := HV1.out; simp at h; first | (rw [h]; done) | (rw [h]; congr 1; omega) | (rw [h]; go_num), by have h := HV2.out; simp at h; first | (rw [h]; done) | (rw [h]; congr 1; omega) | (rw [h]; go_num), HB6.out⟩
        case measure => simp [intOf]; omega
    · obtain rfl : k = t.length := by omega
      rw [List.take_length] at *
      clear HA1 HA2
      have R1 := (hbl.out.block _ (show w3.heap.size < _ by have := hz.out; omega)).trans HR1.out
      have HBr : Hid (Below w.heap.size w wr) := bel_trans HB4.out hbl.out
      have c0 := Lib.cell_of_heap R1 0
      have c1 := Lib.cell_of_heap R1 1
      simp at c0 c1
      have HR2 : Hid (_) := R1
      clear R1
      generalize (vals nCL t).length = n1 at *
      generalize (vals nTE t).length = n2 at *
      rcases HW.out with ⟨y3, rfl, rfl, yn⟩ | ⟨rfl, rfl, rfl, rfl, rfl⟩ | ⟨rfl, rfl, rfl, rfl, yn, rfl⟩ | ⟨rfl, rfl, rfl, yl⟩
      · have q1 : (f3 != 0) = true := by simpa using y3
        have q2 : decide ((0 : Int) < n1 + n2) = true := decide_eq_true (by omega)
        clear HW y3
        go_wp2
        go_ret
        exact ⟨rfl, HBr.out⟩
      · clear HW
        go_wp2
        go_ret
        exact ⟨rfl, HBr.out⟩
      · clear HW
        have q2 : decide ((0 : Int) < n2) = true := decide_eq_true (by omega)
        go_wp2
        go_ret
        exact ⟨rfl, HBr.out⟩
      · obtain ⟨l2, l0, hall, hnum, hle⟩ := yl
        have HD : Hid (∀ k, k < (listF nCL t).1.length → ∀ w, Calls Tryd.prog 32 #[.string (str ((listF nCL t).1.getD k []))] w fun e w' => e = .returned (.string (str (stripZ ((listF nCL t).1.getD 0 [])))) ∧ Below w.heap.size w w') := fun k hk w => by
          obtain ⟨h1, h2, h3⟩ := hall k hk
          have hm : (listF nCL t).1.getD k [] ∈ (listF nCL t).1 := by
            rw [List.getD_eq_getElem?_getD, List.getElem?_eq_getElem hk]
            exact List.getElem_mem _
          have h := digits_any (str ((listF nCL t).1.getD k [])) (by rw [str_size]; have := HSh.out _ hm; omega) (by rw [str_list]; exact h1) (by rw [str_list]; exact h2) w
          rw [str_list, h3] at h
          exact h
        have p0 : 0 < (listF nCL t).1.length := List.length_pos_iff.2 l0
        have hZ := strip_facts _ (hall 0 p0).1 (hall 0 p0).2.1
        have hZl : (stripZ ((listF nCL t).1.getD 0 [])).length ≤ 1048576 := by
          have hm : (listF nCL t).1.getD 0 [] ∈ (listF nCL t).1 := by
            rw [List.getD_eq_getElem?_getD, List.getElem?_eq_getElem p0]
            exact List.getElem_mem _
          have h1 := HSh.out _ hm
          have h2 := hZ.2.2.2.2
          omega
        have hZ1 := hZ.1
        have hZ2 := hZ.2.1
        have HLn' := HLn.out
        rw [l2] at HL
        clear HW hall l2 l0 hZ HSh HLn
        generalize (listF nCL t).1 = L at *
        generalize stripZ (L.getD 0 []) = z at *
        obtain ⟨Z, hZe⟩ : ∃ Z, Z = str z := ⟨_, rfl⟩
        have hZz : z = Z.data.toList := by rw [hZe, str_list]
        have hZs : Z.size ≤ 1048576 := by rw [hZe, str_size]; exact hZl
        rw [← hZe] at HD
        subst hZz
        clear hZe hZl
        have hZp : ¬ Z.size = 0 := by have := len_pos hZ1; omega
        have he := nonempty_of hZp
        have HZd : Hid (∀ k, k < Z.size → 48 ≤ byt Z k ∧ byt Z k ≤ 57) := by
          intro k hk
          have := hZ2 (Z.data.toList.getD k 0) (by
            rw [List.getD_eq_getElem?_getD, List.getElem?_eq_getElem (by simpa using hk)]
            exact List.getElem_mem _)
          unfold byt
          omega
        have HPr : Hid (f2 = pre 10 Z Z.size) := by show _ = _; rw [pre_all]; exact hnum
        clear hZ1 hZ2 hnum hZp
        have q0 : ((L.length : Int) == 0) = false := by simp; intro h; rw [h] at p0; simp at p0
        go_wp2_with fail
        refine (HWi.out _ (HI.out.below HBr.out)).mono ?_
        rintro e w7 ⟨u7, rfl, hu, hb⟩
        have HB7 : Hid (Below wr.heap.size wr w7) := hb
        have U7 : Hid (RdF u7 t w7) := hu.rd
        clear hb hu
        go_wp2_with fail
        refine (HL.out _ _ U7.out).mono ?_
        rintro e w8 ⟨x, rfl, hx, hb⟩
        have HB8 : Hid (Below wr.heap.size wr w8) := bel_trans HB7.out hb
        have HX : Hid (RdS x L w8) := hx.rd
        obtain ⟨xa, xc, rfl, _⟩ := hx.rd
        clear hb hx U7 HL HWi
        have HB48 : Hid (Below w4.heap.size w4 w8) := bel_trans hbl.out HB8.out
        have HB08 : Hid (Below w.heap.size w w8) := bel_trans HBr.out HB8.out
        go_wp2
        clear c0 c1 HR2 HB8 HB7 HBr hbl
        go_loopw [108] (fun i wr => ∃ k : Nat, k ≤ L.length ∧ i = .int .i64 k ∧ Hid (Below w8.heap.size w8 wr)) (fun i _ => L.length - (intOf i).toNat)
        case atStart => exact ⟨0, Nat.zero_le _, rfl, Below.refl _ _⟩
        case round =>
          obtain ⟨k, hk, rfl, hbm⟩ := hrel
          rename World => wq
          have XC : Hid (∀ W, Below w8.heap.size w8 W → ∃ g o, xa = some ⟨g, o, none⟩ ∧ L.length ≤ xc ∧ ∀ j, j < L.length → W.cell? ⟨g, o + j, none⟩ = some (.string (str (L.getD j [])))) := fun W hW => by
            obtain ⟨a', c', e', h⟩ := HX.out.below hW
            injection e' with e1 _ e2
            subst e1 e2
            rcases h with h | h
            · rw [h] at p0; simp at p0
            · exact h
          by_cases hlt2 : k < L.length
          · obtain ⟨g, o, rfl, hlc, hcell⟩ := XC.out _ hbm.out
            have p1 := hcell k hlt2
            clear hcell
            have hzz : (Z.toList != Z.toList) = false := by simp
            have HBd : Hid (Below w8.heap.size w8 wq.drew) := hbm.out.drew
            have XZ : Hid (∀ W, Below w8.heap.size w8 W → W.cell? ⟨g, o, none⟩ = some (.string (str (L.getD 0 [])))) := fun W hW => by
              obtain ⟨g', o', e', _, hc⟩ := XC.out _ hW
              injection e' with e'
              injection e' with e1 e2
              subst e1 e2
              exact hc 0 p0
            have zq : wq.drew.cell? ⟨g, o, none⟩ = some (.string (str (L.getD 0 []))) := XZ.out _ HBd.out
            have HDk : Hid (∀ w, Calls Tryd.prog 32 #[.string (str (L.getD k []))] w fun e w' => e = .returned (.string Z) ∧ Below w.heap.size w w') := fun w => HD.out k hlt2 w
            have HD0 : Hid (∀ w, Calls Tryd.prog 32 #[.string (str (L.getD 0 []))] w fun e w' => e = .returned (.string Z) ∧ Below w.heap.size w w') := fun w => HD.out 0 p0 w
            clear XC HX HI HE HR hM HB08 HB48 HPr HZd HD
            generalize str (L.getD k []) = S at *
            generalize str (L.getD 0 []) = S0 at *
            go_wp2_with fail
            go_cut [123] from 109 to 124 (fun sb wx => sb = .bool false ∧ Hid (Below w8.heap.size w8 wx))
            case first =>
              go_region_with (go_at_call 32; (first | (with_reducible refine (HDk.out _).mono ?_) | (with_reducible refine (HD0.out _).mono ?_)); rintro e wn ⟨rfl, hbn⟩; have HBn : Hid (Below w8.heap.size w8 wn) := (by first | exact bel_trans HBn.out hbn | exact bel_trans HBd.out hbn : Below w8.heap.size w8 wn); have zn := XZ.out _ HBn.out; clear hbn)
              all_goals
                go_wp2_with fail
                go_meet
                exact ⟨rfl, HBn⟩
            case rest =>
              obtain ⟨rfl, HBc⟩ := hcut
              go_wp2
              go_roundw
              case rel => exact ⟨k + 1, by omega, by go_num, HBc⟩
              case measure => simp [intOf]; omega
          · obtain rfl : k = L.length := by omega
            obtain ⟨g, o, rfl, hlc, hcell⟩ := XC.out _ hbm.out
            have p1 := hcell 0 p0
            simp only [Nat.add_zero] at p1
            clear hcell XC
            have HD0 : Hid (∀ w, Calls Tryd.prog 32 #[.string (str (L.getD 0 []))] w fun e w' => e = .returned (.string Z) ∧ Below w.heap.size w w') := fun w => HD.out 0 p0 w
            clear HX HI HE HR hM HD
            generalize str (L.getD 0 []) = S0 at *
            go_wp2_with fail
            refine (HD0.out _).mono ?_
            rintro e wa ⟨rfl, hb⟩
            have HBa : Hid (Below w8.heap.size w8 wa) := bel_trans hbm.out hb
            clear hb
            have hcv := fun w => Lib.run_convert_string_bytes (P := Tryd.prog) w 9 61 5 Z Tryd.underlying9 Tryd.underlying61 Tryd.underlying5
            have hby := below_bytes wa 5 Z
            have hr := bytes_row wa 5 Z
            have HBf : Hid (Below w.heap.size w (Lib.bytesWorld wa 5 Z)) := bel_trans (bel_trans HB08.out HBa.out) hby
            have HB4f : Hid (Below w4.heap.size w4 (Lib.bytesWorld wa 5 Z)) := bel_trans (bel_trans HB48.out HBa.out) hby
            have R1 := (HB4f.out.block _ (show w3.heap.size < _ by have := hz.out; omega)).trans HR1.out
            have c0 := Lib.cell_of_heap R1 0
            have c1 := Lib.cell_of_heap R1 1
            simp at c0 c1
            clear R1 hby HD0 p1 HBa HB08 HB48 HB4f hbm HR1 HLn' q0
            go_wp2
            have HRow : Hid (Row (Lib.bytesWorld wa 5 Z) wa.heap.size Z.size (byt Z)) := hr
            clear hr hcv
            generalize Lib.bytesWorld wa 5 Z = W at *
            have HP0 : Hid (pre 10 Z 0 = 0) := pre_zero 10 Z
            go_loopw [15, 131] (fun nv iv wx => ∃ k : Nat, k ≤ Z.size ∧ iv = .int .i64 k ∧ nv = .int .i64 (pre 10 Z k) ∧ W = wx) (fun _ iv _ => Z.size - (intOf iv).toNat)
            case atStart => exact ⟨0, Nat.zero_le _, rfl, by rw [HP0.out], rfl⟩
            case round =>
              obtain ⟨k, hk, rfl, rfl, rfl⟩ := hrel
              by_cases hltz : k < Z.size
              · have r1 := HRow.out.cell k hltz
                obtain ⟨d0, d1⟩ := HZd.out k hltz
                have hp1 := pre_succ 10 Z k hltz
                have hp2 := pre_le 10 (by omega) Z (k + 1) Z.size (by omega) (Nat.le_refl _)
                have hp3 := pre_nonneg 10 (by omega) Z k hk
                have hp4 := HPr.out
                have hv : valI (byt Z k) = byt Z k - 48 := valI_d (by omega)
                have hq : 10 * pre 10 Z k + (byt Z k - 48) = pre 10 Z (k + 1) := by rw [hp1, hv]; omega
                have HQ : Hid (10 * pre 10 Z k + (byt Z k - 48) = pre 10 Z (k + 1)) := hq
                have hb1 : pre 10 Z k ≤ 1099511627776 := by omega
                have hb2 : 10 * pre 10 Z k + (byt Z k - 48) ≤ 1099511627776 := by omega
                clear hp1 hp2 hp4 hv hq
                generalize pre 10 Z k = N at *
                generalize byt Z k = B at *
                go_wp2
                go_roundw
                case rel => exact ⟨k + 1, by omega, by go_num, by rw [← HQ.out], trivial⟩
                case measure => simp [intOf]; omega
              · obtain rfl : k = Z.size := by omega
                have hfin : (f2 == pre 10 Z Z.size) = true := by rw [HPr.out]; simp
                go_wp2
                go_ret
                exact ⟨rfl, HBf.out⟩

end Fd
end Go.Proofs.YtjmeijjmgmcncaaDoor
