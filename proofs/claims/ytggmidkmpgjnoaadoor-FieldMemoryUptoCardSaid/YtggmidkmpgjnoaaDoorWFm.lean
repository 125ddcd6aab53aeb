/-
  FieldMemory: the walk (written by mkwfm.py).
-/
import Derived.Test.YtggmidkmpgjnoaaDoorZMb
import Derived.Test.YtggmidkmpgjnoaaDoorFTb
import Derived.Test.YtggmidkmpgjnoaaDoorMgQ
import Derived.Test.YtggmidkmpgjnoaaDoorMgM
import Derived.Test.YtggmidkmpgjnoaaDoorMgR
import Derived.Test.YtggmidkmpgjnoaaDoorWTurns6
import Derived.Test.YtggmidkmpgjnoaaDoorQBel
import Derived.Deep.RegionWith
import Derived.Laws.Cover4
set_option linter.unusedVariables false
set_option linter.unusedSimpArgs false
namespace Go.Proofs.YtggmidkmpgjnoaaDoor
open Go.RowKit Go.Shelf
namespace Fd
open Oc Tg Zm

theorem parseT_few6 : ∀ (f : Nat) (l : List UInt8) (a : Nat) (acc : List Fl), acc.length ≤ 100 → (parseT f l a acc).1.length ≤ 100
  | 0, l, a, acc, h => by simp [parseT]
  | f + 1, l, a, acc, h => by
    rw [parseT_succ]
    split
    · exact h
    · split
      · simp
      · split
        · simp
        · split
          · exact parseT_few6 f _ _ _ (by simp; omega)
          · simp
theorem printG_len : ∀ (t : List Fl) (acc : List UInt8), (printG t acc).1.length ≤ acc.length + 2 * sumF t
  | [], acc => by simp [printG]
  | p :: t, acc => by
    unfold printG
    have hs : sumF (p :: t) = szF p + sumF t := by unfold sumF; simp
    have hp := lineP_len p
    have hz : 3 ≤ szF p := by unfold szF; omega
    split
    · have := printG_len t (acc ++ lineP p ++ [13, 10])
      rw [List.length_append, List.length_append] at this
      simp only [List.length_cons, List.length_nil] at this
      omega
    · simp
theorem printT_len (t : List Fl) : (printT t).1.length ≤ 2 * sumF t := by
  unfold printT
  split
  · simp
  · have := printG_len t []
    simpa using this
/-- How long the lists are. -/
def lf (a b c d e : Nat) (q : Nat) : Nat := if q % 5 = 0 then a else if q % 5 = 1 then b else if q % 5 = 2 then c else if q % 5 = 3 then d else e
theorem lf_le {a b c d e M : Nat} (ha : a ≤ M) (hb : b ≤ M) (hc : c ≤ M) (hd : d ≤ M) (he : e ≤ M) (q : Nat) : lf a b c d e q ≤ M := by
  unfold lf
  repeat' split
  all_goals assumption
def ltr (i : Nat) : ByteArray := canonS (Utf8.encode (97 + (i : Int)))
def dgF (X : ByteArray) (q c : Nat) : Value × Value := (.string ⟨#[109, 97, 114, 107]⟩, .string (ltr q ++ X))
theorem ltr_size (i : Nat) : (ltr i).size ≤ 4 := by
  unfold ltr canonS
  rw [str_size, canonL_len, lowS_size]
  exact encode_size_le _
theorem infoLF : (Tryd.prog.info? 22).map (fun i => (i.zero, i.size, i.bytes)) = some (some (.slice none 0 0), 1, 24) := by kernel_rfl

set_option maxRecDepth 100000 in
set_option maxHeartbeats 8000000 in
theorem walk_FieldMemory (v : Value) (t : List Fl) (hs : bulkfields t ≤ 1048576) (a1 : ByteArray) (b1 : a1.size ≤ 1048576) (a2 : ByteArray) (b2 : a2.size ≤ 1048576) (w : World) (hin : InF v t w) (hw : Env w) :
    Calls Tryd.prog 4 #[v, .string a1, .string a2] w fun e w' => e = .returned (.bool true) ∧ Below w.heap.size w w' := by
  unfold bulkfields at hs
  have hlen := len_sumF t
  have hM : Each 1048576 t := (each_sumF t).mono hs
  obtain ⟨n, rfl⟩ : ∃ n, a1 = str n := ⟨_, (str_self a1).symm⟩
  obtain ⟨x, rfl⟩ : ∃ x, a2 = str x := ⟨_, (str_self a2).symm⟩
  have hXs : (str x).size ≤ 1048576 := b2
  rw [str_size] at b1 b2
  have und21 : Tryd.prog.underlying 21 = some (.int .i32) := by kernel_rfl
  have und9 : Tryd.prog.underlying 9 = some .string := by kernel_rfl
  have hpt := printT_len t
  have HA : Hid (Calls _ _ _ _ _) := awake_any w hw
  have HE : Hid (Env w) := hw
  have HI : Hid (InF v t w) := hin
  have HR : Hid (RdF v t w) := hin.1
  have HWd : Hid (∀ w, InF v t w → Calls Tryd.prog 16 #[v] w fun e w' => ∃ u, e = .returned u ∧ OwnF 46 w.heap.size u t w' ∧ Below w.heap.size w w') := fun w h => wide_any v t w h (by omega)
  have HPl : Hid (∀ w, RdF v t w → Calls Tryd.prog 7 #[v] w fun e w' => ∃ u, e = .returned u ∧ OwnF 51 w.heap.size u t w' ∧ Below w.heap.size w w') := fun w h => plain_any v t w h (by omega)
  have HPr : Hid (∀ u w, RdF u t w → Calls Tryd.prog 17 #[u] w fun e w' => e = .returned (.tuple #[.string (str (printT t).1), .int .i64 (printT t).2]) ∧ Below w.heap.size w w') := fun u w h => rPrint_any u t hs w h
  have HAd : Hid (∀ u w, RdF u t w → Tab w → Calls Tryd.prog 8 #[u, .string (str n), .string (str x)] w fun e w' => ∃ y, e = .returned (.tuple #[y, .int .i64 (addF t (n, x)).2]) ∧ OwnF 46 w.heap.size y (addF t (n, x)).1 w' ∧ Below w.heap.size w w') := fun u w h tb => Add_any u t n x b1 b2 hM (by omega) w h tb
  have HSe : Hid (∀ u w, RdF u t w → Tab w → Calls Tryd.prog 12 #[u, .string (str n), .string (str x)] w fun e w' => ∃ y, e = .returned (.tuple #[y, .int .i64 (setF t (n, x)).2]) ∧ OwnF 46 w.heap.size y (setF t (n, x)).1 w' ∧ Below w.heap.size w w') := fun u w h tb => Set_any u t n x b1 b2 hM (by omega) w h tb
  have HPa : Hid (∀ w, Env w → Calls Tryd.prog 18 #[.string (str (printT t).1)] w fun e w' => ∃ y, e = .returned (.tuple #[y, .int .i64 ((parseText (printT t).1).2.1 : Nat), .int .i64 (parseText (printT t).1).2.2]) ∧ OwnF 46 w.heap.size y (parseText (printT t).1).1 w' ∧ Below w.heap.size w w') := fun w h => by
    have := Parse_any (str (printT t).1) (by rw [str_size]; omega) w h
    rw [str_list] at this
    exact this
  have HRe : Hid (∀ u w, RdF u t w → Calls Tryd.prog 14 #[u, .string (str n)] w fun e w' => ∃ y, e = .returned y ∧ OwnF 46 w.heap.size y (t.filter (unlike n)) w' ∧ Below w.heap.size w w') := fun u w h => Remove_any u t n b1 hM (by omega) w h
  have HrRe : Hid (∀ u w, RdF u t w → Calls Tryd.prog 15 #[u, .string (str n)] w fun e w' => ∃ y, e = .returned y ∧ OwnF 51 w.heap.size y (t.filter (unlike n)) w' ∧ Below w.heap.size w w') := fun u w h => rRemove_any u t n b1 hM (by omega) w h
  have HOn : Hid (∀ u w, RdF u t w → Tab w → Calls Tryd.prog 19 #[u] w fun e w' => ∃ y, e = .returned y ∧ OwnF 46 w.heap.size y (t.filter (onw (endsF t))) w' ∧ Below w.heap.size w w') := fun u w h tb => Onward_any u t hs w h tb
  have HCn : Hid (∀ (i : Nat) w, Calls Tryd.prog 20 #[.string (Utf8.encode (97 + (i : Int)))] w fun e w' => e = .returned (.string (ltr i)) ∧ Below w.heap.size w w') := fun i w => rCanon_any _ (by have := encode_size_le (97 + (i : Int)); unfold maxLen; omega) w
  have l1 := addF_len t (n, x)
  have l2 := setF_len t (n, x)
  have l3 := List.length_filter_le (unlike n) t
  have l4 := List.length_filter_le (onw (endsF t)) t
  have l5 : (parseText (printT t).1).1.length ≤ 100 := parseT_few6 _ _ _ _ (by simp)
  have hl3 : (t.filter (unlike n)).length ≤ 4294967296 := by omega
  have htl : t.length ≤ 4294967296 := by omega
  have hLF : ∀ q, lf (addF t (n, x)).1.length (setF t (n, x)).1.length (parseText (printT t).1).1.length (t.filter (unlike n)).length (t.filter (onw (endsF t))).length q ≤ 1048677 := fun q => lf_le (by omega) (by omega) (by omega) (by omega) (by omega) q
  have E0 : ∀ i, lf (addF t (n, x)).1.length (setF t (n, x)).1.length (parseText (printT t).1).1.length (t.filter (unlike n)).length (t.filter (onw (endsF t))).length (5 * i) = (addF t (n, x)).1.length := fun i => by unfold lf; rw [if_pos (by omega)]
  have E1 : ∀ i, lf (addF t (n, x)).1.length (setF t (n, x)).1.length (parseText (printT t).1).1.length (t.filter (unlike n)).length (t.filter (onw (endsF t))).length (5 * i + 1) = (setF t (n, x)).1.length := fun i => by unfold lf; rw [if_neg (by omega), if_pos (by omega)]
  have E2 : ∀ i, lf (addF t (n, x)).1.length (setF t (n, x)).1.length (parseText (printT t).1).1.length (t.filter (unlike n)).length (t.filter (onw (endsF t))).length (5 * i + 2) = (parseText (printT t).1).1.length := fun i => by unfold lf; rw [if_neg (by omega), if_neg (by omega), if_pos (by omega)]
  have E3 : ∀ i, lf (addF t (n, x)).1.length (setF t (n, x)).1.length (parseText (printT t).1).1.length (t.filter (unlike n)).length (t.filter (onw (endsF t))).length (5 * i + 3) = (t.filter (unlike n)).length := fun i => by unfold lf; rw [if_neg (by omega), if_neg (by omega), if_neg (by omega), if_pos (by omega)]
  have E4 : ∀ i, lf (addF t (n, x)).1.length (setF t (n, x)).1.length (parseText (printT t).1).1.length (t.filter (unlike n)).length (t.filter (onw (endsF t))).length (5 * i + 4) = (t.filter (onw (endsF t))).length := fun i => by unfold lf; rw [if_neg (by omega), if_neg (by omega), if_neg (by omega), if_neg (by omega)]
  have HLF : Hid (∀ q, _ ≤ 1048677) := hLF
  have HE0 : Hid (∀ i, _ = _) := E0
  have HE1 : Hid (∀ i, _ = _) := E1
  have HE2 : Hid (∀ i, _ = _) := E2
  have HE3 : Hid (∀ i, _ = _) := E3
  have HE4 : Hid (∀ i, _ = _) := E4
  clear hLF E0 E1 E2 E3 E4
  obtain ⟨⟨a, c, rfl, _⟩, _⟩ := hin
  clear hw hs hlen hM b1 b2 l1 l2 l3 l4 l5 hpt
  generalize lf (addF t (n, x)).1.length (setF t (n, x)).1.length (parseText (printT t).1).1.length (t.filter (unlike n)).length (t.filter (onw (endsF t))).length = LF at *
  generalize t.filter (unlike n) = R at *
  generalize t.filter (onw (endsF t)) = O at *
  generalize addF t (n, x) = AF at *
  obtain ⟨A1, zA⟩ := AF
  generalize setF t (n, x) = SF at *
  obtain ⟨S1, zS⟩ := SF
  generalize parseText (printT t).1 = PT at *
  obtain ⟨P1, pA, pE⟩ := PT
  dsimp only at HAd HSe HPa HE0 HE1 HE2
  generalize (pA : Int) = pZ at *
  generalize str (printT t).1 = TX at *
  generalize (printT t).2 = zT at *
  generalize str n = NN at *
  generalize str x = X at *
  go_enter Tryd.func4, Tryd.ntmps4
  go_wp2_with fail
  refine (HA.out).mono ?_
  rintro e w1 ⟨rfl, hb⟩
  have HB1 : Hid (Below w.heap.size w w1) := hb
  clear hb
  go_wp2_with fail
  refine (HWd.out _ (HI.out.below HB1.out)).mono ?_
  rintro e w2 ⟨vin, rfl, ho2, hb2⟩
  have HO2 : Hid (OwnF 46 w1.heap.size vin t w2) := ho2
  have HB2 : Hid (Below w1.heap.size w1 w2) := hb2
  have HB02 : Hid (Below w.heap.size w w2) := bel_trans HB1.out hb2
  clear ho2 hb2
  go_wp2_with fail
  refine (HPl.out _ (HR.out.below HB02.out)).mono ?_
  rintro e w3 ⟨m, rfl, hm, hb3⟩
  have HM3 : Hid (RdF m t w3) := hm.rd
  have HB3 : Hid (Below w2.heap.size w2 w3) := hb3
  clear hm hb3
  go_wp2_with fail
  refine (HPr.out _ _ HM3.out).mono ?_
  rintro e w4 ⟨rfl, hb4⟩
  have HB4 : Hid (Below w2.heap.size w2 w4) := bel_trans HB3.out hb4
  obtain ⟨V, hMz, h0, h1, h2⟩ := Mz.startNil (TL := 22) (T := 46) (TR := 46) (L := LF) (B := w.heap.size) (w1 := w1) HB1.out.size HO2.out HB2.out (v2 := .slice none 0 0) (m2 := 0) (r2 := []) (World.ownsRow_nil w4 _ _ _) HB4.out
  have HMz : Hid (∃ N X, Mz 22 46 46 w.heap.size LF t.length 0 (encF t) [] 0 0 V N X w4) := hMz
  have HV : Hid (V 1 = vin) := h1
  have H0 : Hid (V 0 = .slice none 0 0) := h0
  have HBw : Hid (Below w.heap.size w w4) := bel_trans HB02.out HB4.out
  clear hMz h0 h1 h2 hb4 HO2 HB2 HB02 HM3 HB3 HB4 HB1
  go_wp2
  go_loopw [10, 37] (fun lv iv wr => ∃ (i : Nat) (V : Nat → Value), i ≤ 2 ∧ iv = .int .i64 i ∧ Hid (lv = V 0) ∧ Hid (V 1 = vin) ∧ Hid (∃ N X, Mz 22 46 46 w.heap.size LF t.length 0 (encF t) [] (5 * i) (5 * i) V N X wr) ∧ Hid (Below w.heap.size w wr)) (fun _ iv _ => 2 - (intOf iv).toNat)
  case atStart => exact ⟨0, V, by omega, rfl, H0.out.symm, HV, HMz, HBw⟩
  case round =>
    clear HMz HV HBw H0 V
    obtain ⟨i, V, hi, rfl, hlv, HV, HMz, HB⟩ := hrel
    by_cases hlt : i < 2
    · have hs0 := HB.out.size
      have HIn0 : Hid (RdF vin t wr) := (by
        obtain ⟨N, X, M⟩ := HMz.out
        have := M.rows.1
        rw [HV.out] at this
        exact OwnF.rd (T := 46) (B := w.heap.size) this : RdF _ _ _)
      go_wp2_with fail
      refine (HAd.out _ _ HIn0.out (HE.out.below HB.out).1).mono ?_
      rintro e w1 ⟨y1, rfl, ho1, hb1⟩
      obtain ⟨ya1, yc1, rfl⟩ := OwnF.form ho1
      have HIn1 : Hid (RdF vin t w1) := HIn0.out.below hb1
      have HM1 : Hid (∃ N X, Mz 22 46 46 w.heap.size LF t.length 0 (encF t) [] (5 * i + 1) (5 * i) (upd V (10 + 5 * i) (.slice ya1 A1.length yc1)) N X w1) := (by
        obtain ⟨N, X, M⟩ := HMz.out
        exact M.addS (by omega) hb1 hs0 ho1 (HE0.out i).symm : ∃ N X, _)
      have HB1 : Hid (Below w.heap.size w w1) := bel_trans HB.out hb1
      have hs1 := HB1.out.size
      clear ho1 hb1 HMz HB HIn0
      go_wp2_with fail
      refine (HSe.out _ _ HIn1.out (HE.out.below HB1.out).1).mono ?_
      rintro e w2 ⟨y2, rfl, ho2, hb2⟩
      obtain ⟨ya2, yc2, rfl⟩ := OwnF.form ho2
      have HIn2 : Hid (RdF vin t w2) := HIn1.out.below hb2
      have HM2 : Hid (∃ N X, Mz 22 46 46 w.heap.size LF t.length 0 (encF t) [] (5 * i + 2) (5 * i) (upd (upd V (10 + 5 * i) (.slice ya1 A1.length yc1)) (10 + (5 * i + 1)) (.slice ya2 S1.length yc2)) N X w2) := (by
        obtain ⟨N, X, M⟩ := HM1.out
        exact M.addS (by omega) hb2 hs1 ho2 (HE1.out i).symm : ∃ N X, _)
      have HB2 : Hid (Below w.heap.size w w2) := bel_trans HB1.out hb2
      have hs2 := HB2.out.size
      clear ho2 hb2 HM1 HB1 HIn1
      go_wp2_with fail
      refine (HPa.out _ (HE.out.below HB2.out)).mono ?_
      rintro e w3 ⟨y3, rfl, ho3, hb3⟩
      obtain ⟨ya3, yc3, rfl⟩ := OwnF.form ho3
      have HIn3 : Hid (RdF vin t w3) := HIn2.out.below hb3
      have HM3 : Hid (∃ N X, Mz 22 46 46 w.heap.size LF t.length 0 (encF t) [] (5 * i + 3) (5 * i) (upd (upd (upd V (10 + 5 * i) (.slice ya1 A1.length yc1)) (10 + (5 * i + 1)) (.slice ya2 S1.length yc2)) (10 + (5 * i + 2)) (.slice ya3 P1.length yc3)) N X w3) := (by
        obtain ⟨N, X, M⟩ := HM2.out
        exact M.addS (by omega) hb3 hs2 ho3 (HE2.out i).symm : ∃ N X, _)
      have HB3 : Hid (Below w.heap.size w w3) := bel_trans HB2.out hb3
      have hs3 := HB3.out.size
      clear ho3 hb3 HM2 HB2 HIn2
      go_wp2_with fail
      refine (HRe.out _ _ HIn3.out).mono ?_
      rintro e w4 ⟨y4, rfl, ho4, hb4⟩
      obtain ⟨ya4, yc4, rfl⟩ := OwnF.form ho4
      have HIn4 : Hid (RdF vin t w4) := HIn3.out.below hb4
      have HM4 : Hid (∃ N X, Mz 22 46 46 w.heap.size LF t.length 0 (encF t) [] (5 * i + 4) (5 * i) (upd (upd (upd (upd V (10 + 5 * i) (.slice ya1 A1.length yc1)) (10 + (5 * i + 1)) (.slice ya2 S1.length yc2)) (10 + (5 * i + 2)) (.slice ya3 P1.length yc3)) (10 + (5 * i + 3)) (.slice ya4 R.length yc4)) N X w4) := (by
        obtain ⟨N, X, M⟩ := HM3.out
        exact M.addS (by omega) hb4 hs3 ho4 (HE3.out i).symm : ∃ N X, _)
      have HB4 : Hid (Below w.heap.size w w4) := bel_trans HB3.out hb4
      have hs4 := HB4.out.size
      clear ho4 hb4 HM3 HB3 HIn3
      go_wp2_with fail
      refine (HOn.out _ _ HIn4.out (HE.out.below HB4.out).1).mono ?_
      rintro e w5 ⟨y5, rfl, ho5, hb5⟩
      obtain ⟨ya5, yc5, rfl⟩ := OwnF.form ho5
      have HIn5 : Hid (RdF vin t w5) := HIn4.out.below hb5
      have HM5 : Hid (∃ N X, Mz 22 46 46 w.heap.size LF t.length 0 (encF t) [] (5 * i + 5) (5 * i) (upd (upd (upd (upd (upd V (10 + 5 * i) (.slice ya1 A1.length yc1)) (10 + (5 * i + 1)) (.slice ya2 S1.length yc2)) (10 + (5 * i + 2)) (.slice ya3 P1.length yc3)) (10 + (5 * i + 3)) (.slice ya4 R.length yc4)) (10 + (5 * i + 4)) (.slice ya5 O.length yc5)) N X w5) := (by
        obtain ⟨N, X, M⟩ := HM4.out
        exact M.addS (by omega) hb5 hs4 ho5 (HE4.out i).symm : ∃ N X, _)
      have HB5 : Hid (Below w.heap.size w w5) := bel_trans HB4.out hb5
      have hs5 := HB5.out.size
      clear ho5 hb5 HM4 HB4 HIn4
      obtain ⟨V', hV'⟩ : ∃ V', V' = (upd (upd (upd (upd (upd V (10 + 5 * i) (.slice ya1 A1.length yc1)) (10 + (5 * i + 1)) (.slice ya2 S1.length yc2)) (10 + (5 * i + 2)) (.slice ya3 P1.length yc3)) (10 + (5 * i + 3)) (.slice ya4 R.length yc4)) (10 + (5 * i + 4)) (.slice ya5 O.length yc5)) := ⟨_, rfl⟩
      rw [← hV'] at HM5
      have HV2 : Hid (V' 1 = vin) := (by
        rw [hV']
        simp only [upd]
        repeat rw [if_neg (by omega)]
        exact HV.out : _ = _)
      have HVs : Hid ([(.slice ya1 A1.length yc1 : Value), .slice ya2 S1.length yc2, .slice ya3 P1.length yc3, .slice ya4 R.length yc4, .slice ya5 O.length yc5] = (List.range 5).map (fun j => V' (10 + (5 * i + j)))) := (by
        show _ = [V' (10 + (5 * i + 0)), V' (10 + (5 * i + 1)), V' (10 + (5 * i + 2)), V' (10 + (5 * i + 3)), V' (10 + (5 * i + 4))]
        have f0 : V' (10 + (5 * i + 0)) = .slice ya1 A1.length yc1 := by rw [hV', upd_other _ _ (by omega), upd_other _ _ (by omega), upd_other _ _ (by omega), upd_other _ _ (by omega), Nat.add_zero, upd_same]
        have f1 : V' (10 + (5 * i + 1)) = .slice ya2 S1.length yc2 := by rw [hV', upd_other _ _ (by omega), upd_other _ _ (by omega), upd_other _ _ (by omega), upd_same]
        have f2 : V' (10 + (5 * i + 2)) = .slice ya3 P1.length yc3 := by rw [hV', upd_other _ _ (by omega), upd_other _ _ (by omega), upd_same]
        have f3 : V' (10 + (5 * i + 3)) = .slice ya4 R.length yc4 := by rw [hV', upd_other _ _ (by omega), upd_same]
        have f4 : V' (10 + (5 * i + 4)) = .slice ya5 O.length yc5 := by rw [hV', upd_same]
        rw [f0, f1, f2, f3, f4] : _ = _)
      have hlv' : Hid (_ = V' 0) := hlv.out.trans (by rw [hV', upd_other _ _ (by omega), upd_other _ _ (by omega), upd_other _ _ (by omega), upd_other _ _ (by omega), upd_other _ _ (by omega)])
      clear hV' hlv HV
      go_wp2_with (at_builtin; go_must (refine wp_appZ 41 Tryd.underlying41 infoLF rfl (.tmp 59) (.tmp 68) rfl HM5.out 5 (by decide) (by omega) (by omega) _ rfl (by exact hlv'.out) _ HVs.out _ rfl (by simp) hs5 ?_))
      intro v8 w8 N8 X8 hM8 hb8
      have HM8 : Hid (∃ N X, Mz 22 46 46 w.heap.size LF t.length 0 (encF t) [] (5 * (i + 1)) (5 * (i + 1)) (upd V' 0 v8) N X w8) := ⟨N8, X8, hM8⟩
      have HB8 : Hid (Below w.heap.size w w8) := HB5.out.trans hb8
      have HV8 : Hid ((upd V' 0 v8) 1 = vin) := (by rw [upd_other _ _ (by omega)]; exact HV2.out : _ = _)
      have hl8 : Hid (v8 = (upd V' 0 v8) 0) := (by rw [upd_same] : v8 = _)
      clear hM8 hb8 HM5 HB5
      go_wp2
      go_roundw
      case rel => exact ⟨i + 1, _, by omega, by go_num, hl8, HV8, HM8, HB8⟩
      case measure => simp [intOf]; omega
    · obtain rfl : i = 2 := by omega
      rw [show (((2 : Nat) : Nat) : Int) = 2 from rfl]
      have P0 : Ph 22 46 46 w.heap.size 10 LF t.length 0 (encF t) [] (dgF X) V 0 0 wr := Ph.start HMz.out
      obtain ⟨g0, c0, hv0, h60⟩ := P0.formL (by omega)
      have e0 := hlv.out.trans hv0
      subst e0
      have HPh : Hid (Ph 22 46 46 w.heap.size 10 LF t.length 0 (encF t) [] (dgF X) V 0 0 wr) := P0
      have HV0 : Hid (V 0 = .slice (some ⟨g0, 0, none⟩) 10 c0) := hv0
      clear P0 hv0 hlv HMz hi hlt
      go_wp2
      go_loopw [73] (fun iv wr => ∃ i : Nat, i ≤ 10 ∧ iv = .int .i64 i ∧ Hid (Ph 22 46 46 w.heap.size 10 LF t.length 0 (encF t) [] (dgF X) V i 0 wr) ∧ Hid (Below w.heap.size w wr)) (fun iv _ => 10 - (intOf iv).toNat)
      case atStart => exact ⟨0, by omega, rfl, HPh, HB⟩
      case round =>
        clear HPh HB
        obtain ⟨i, hi, rfl, HPh, HB⟩ := hrel
        by_cases hlt : i < 10
        · have hcL := HPh.out.cellL HV0.out i hlt
          obtain ⟨a', c', hv⟩ := HPh.out.lenS i hlt
          rw [hv] at hcL
          have HVi : Hid (V (10 + i) = .slice a' (LF i) c') := hv
          have hn : LF i ≤ 1048677 := HLF.out i
          clear hv
          go_wp2
          rw [show decide ((i : Int) < 10) = true from decide_eq_true (by omega)]
          go_loopw [80] (fun jv wr => ∃ j : Nat, j ≤ LF i ∧ jv = .int .i64 j ∧ Hid (Ph 22 46 46 w.heap.size 10 LF t.length 0 (encF t) [] (dgF X) V i j wr) ∧ Hid (Below w.heap.size w wr)) (fun jv _ => LF i - (intOf jv).toNat)
          case atStart => exact ⟨0, by omega, rfl, HPh, HB⟩
          case round =>
            clear HPh HB hcL
            obtain ⟨j, hj, rfl, HPh, HB⟩ := hrel
            by_cases hjn : j < LF i
            · rcases HPh.out.formS i hlt with ⟨_, h⟩ | ⟨g, cap, hv, hcap⟩
              · omega
              have ee := HVi.out.symm.trans hv
              injection ee with ee1 _ ee2
              subst ee1 ee2
              have HCi : Hid (∀ w, Calls Tryd.prog 20 #[.string (Utf8.encode (97 + (i : Int)))] w fun e w' => e = .returned (.string (ltr i)) ∧ Below (World.heap w).size w w') := fun w => HCn.out i w
              have hcv : ∀ w, (convert 21 9 (.int .i32 (97 + (i : Int)))).run Tryd.prog w = .ok (.string (Utf8.encode (97 + (i : Int)))) w := fun w => by
                simp [convert, run_underlying und21, run_underlying und9, Conv.intToString]
              have hYs := ltr_size i
              have hw32 : IntKind.i32.wrap (97 + (i : Int)) = 97 + (i : Int) := by rw [IntKind.wrap_i32]; omega
              have HDg : Hid (dgF X i j = (.string ⟨#[109, 97, 114, 107]⟩, .string (ltr i ++ X))) := rfl
              generalize Utf8.encode (97 + (i : Int)) = LT at *
              generalize ltr i = Y at *
              have hsum : Y.size + X.size ≤ 9223372036854775807 := by omega
              go_wp2_with fail
              refine (HCi.out _).mono ?_
              rintro e w5 ⟨rfl, hb5⟩
              have P5 := HPh.out.below hb5
              obtain ⟨⟨u0, hu0⟩, hf0⟩ := P5.freeS i hlt hv (j * 2) (by omega)
              obtain ⟨⟨u1, hu1⟩, hf1⟩ := P5.freeS i hlt hv (j * 2 + 1) (by omega)
              have hge := P5.geS i hlt hv
              have HBn : Hid (Below w.heap.size w ((w5.setCell ⟨g, j * 2, none⟩ (.string ⟨#[109, 97, 114, 107]⟩)).setCell ⟨g, j * 2 + 1, none⟩ (.string (Y ++ X)))) := ((bel_trans HB.out hb5).setCell (p := ⟨g, j * 2, none⟩) hge _).setCell (p := ⟨g, j * 2 + 1, none⟩) hge _
              have HPn : Hid (Ph 22 46 46 w.heap.size 10 LF t.length 0 (encF t) [] (dgF X) V i (j + 1) ((w5.setCell ⟨g, j * 2, none⟩ (.string ⟨#[109, 97, 114, 107]⟩)).setCell ⟨g, j * 2 + 1, none⟩ (.string (Y ++ X)))) := (by
                have := P5.setS hlt hjn hv
                rw [HDg.out] at this
                exact this : Ph _ _ _ _ _ _ _ _ _ _ _ _ _ _ _)
              clear hv P5 hb5
              go_wp2
              go_roundw
              case rel => exact ⟨j + 1, by omega, by go_num, HPn, HBn⟩
              case measure => simp [intOf]; omega
            · obtain rfl : j = LF i := by omega
              have HPn : Hid (Ph 22 46 46 w.heap.size 10 LF t.length 0 (encF t) [] (dgF X) V (i + 1) 0 wr) := HPh.out.nextS
              go_wp2
              go_roundw
              case rel => exact ⟨i + 1, by omega, by go_num, HPn, HB⟩
              case measure => simp [intOf]; omega
        · obtain rfl : i = 10 := by omega
          rw [show (((10 : Nat) : Nat) : Int) = 10 from rfl]
          have HPg : Hid (Pg 22 46 46 w.heap.size 10 9 LF t.length 0 (encF t) [] (dgF X) (.string ⟨#[103, 114, 111, 119, 110]⟩) V 0 wr) := Pg.start HPh.out
          clear hlt hi HPh
          go_wp2
          go_loopw [98] (fun iv wr => ∃ (i : Nat) (V : Nat → Value), i ≤ 10 ∧ iv = .int .i64 i ∧ Hid (V 0 = .slice (some ⟨g0, 0, none⟩) 10 c0) ∧ Hid (V 1 = vin) ∧ Hid (Pg 22 46 46 w.heap.size 10 9 LF t.length 0 (encF t) [] (dgF X) (.string ⟨#[103, 114, 111, 119, 110]⟩) V i wr) ∧ Hid (Below w.heap.size w wr)) (fun iv _ => 10 - (intOf iv).toNat)
          case atStart => exact ⟨0, V, by omega, rfl, HV0, HV, HPg, HB⟩
          case round =>
            clear HPg HB HV0 HV
            obtain ⟨i, V2, hi, rfl, HV0, HV, HPg, HB⟩ := hrel
            by_cases hlt : i < 10
            · obtain ⟨hcL, hfz, hgB⟩ := HPg.out.cellL HV0.out i hlt
              have HPA : Hid (PgA 22 46 46 w.heap.size 10 9 LF t.length 0 (encF t) [] (dgF X) (.string ⟨#[103, 114, 111, 119, 110]⟩) V2 i (V2 (10 + i)) 0 wr) := HPg.out.alias hlt
              have hn : LF i ≤ 1048677 := HLF.out i
              clear HPg
              go_wp2
              rw [show decide ((i : Int) < 10) = true from decide_eq_true (by omega)]
              go_loopw [22, 103] (fun gv jv wr => ∃ j : Nat, j ≤ 9 ∧ jv = .int .i64 j ∧ Hid (PgA 22 46 46 w.heap.size 10 9 LF t.length 0 (encF t) [] (dgF X) (.string ⟨#[103, 114, 111, 119, 110]⟩) V2 i gv j wr) ∧ Hid (Below w.heap.size w wr)) (fun _ jv _ => 9 - (intOf jv).toNat)
              case atStart => exact ⟨0, by omega, rfl, HPA, HB⟩
              case round =>
                clear HPA HB hcL hfz
                obtain ⟨j, hj, rfl, HPA, HB⟩ := hrel
                by_cases hjn : j < 9
                · have hs5 := HB.out.size
                  have hnl : LF i + j + 1 ≤ 2147483648 := by omega
                  go_wp2_with (at_builtin; go_must (refine wp_growG (.string ⟨#[]⟩) (.string ⟨#[]⟩) 32 (by decide) Tryd.underlying22 infoF rfl rfl (.tmp 105) (.tmp 107) rfl hlt _ HPA.out hnl rfl _ rfl _ rfl (by simp) hs5 ?_))
                  intro v6 w6 hP6 hb6
                  have HP6 : Hid (PgA 22 46 46 w.heap.size 10 9 LF t.length 0 (encF t) [] (dgF X) (.string ⟨#[103, 114, 111, 119, 110]⟩) V2 i v6 (j + 1) w6) := hP6
                  have HB6 : Hid (Below w.heap.size w w6) := HB.out.trans hb6
                  clear hP6 hb6 HPA HB
                  go_wp2
                  go_roundw
                  case rel => exact ⟨j + 1, by omega, by go_num, HP6, HB6⟩
                  case measure => simp [intOf]; omega
                · obtain rfl : j = 9 := by omega
                  rw [show (((9 : Nat) : Nat) : Int) = 9 from rfl]
                  have HPn := HPA.out.put hlt HV0.out
                  obtain ⟨N9, X9, M9, _, ys9, o9, _⟩ := HPA.out
                  rcases owns_form o9 with ⟨_, h⟩ | ⟨g9, cap9, e9, _⟩
                  · omega
                  subst e9
                  clear o9
                  have hc9 : wr.cell? ⟨g0, i, none⟩ = some (V2 (10 + i)) := (by
                    have h := M9.fam.own 0 (by unfold domZ; omega)
                    rw [HV0.out, M9.n0] at h
                    refine owns_cell h ?_
                    rw [M9.x0]
                    simp [hlt])
                  have hf9 : wr.frozen? ⟨g0, i, none⟩ = false := (by
                    have h := M9.fam.own 0 (by unfold domZ; omega)
                    rw [HV0.out, M9.n0] at h
                    exact owns_free h i)
                  clear M9
                  have HPn2 : Hid (Pg 22 46 46 w.heap.size 10 9 LF t.length 0 (encF t) [] (dgF X) (.string ⟨#[103, 114, 111, 119, 110]⟩) (upd V2 (10 + i) (.slice (some ⟨g9, 0, none⟩) (LF i + 9) cap9)) (i + 1) (wr.setCell ⟨g0, i, none⟩ (.slice (some ⟨g9, 0, none⟩) (LF i + 9) cap9))) := HPn
                  have HB9 : Hid (Below w.heap.size w (wr.setCell ⟨g0, i, none⟩ (.slice (some ⟨g9, 0, none⟩) (LF i + 9) cap9))) := HB.out.setCell (p := ⟨g0, i, none⟩) hgB _
                  have HV9 : Hid ((upd V2 (10 + i) (.slice (some ⟨g9, 0, none⟩) (LF i + 9) cap9)) 0 = .slice (some ⟨g0, 0, none⟩) 10 c0) := (by rw [upd_other _ _ (by omega)]; exact HV0.out : _ = _)
                  have HW9 : Hid ((upd V2 (10 + i) (.slice (some ⟨g9, 0, none⟩) (LF i + 9) cap9)) 1 = vin) := (by rw [upd_other _ _ (by omega)]; exact HV.out : _ = _)
                  clear HPn HPA HB
                  go_wp2
                  go_roundw
                  case rel => exact ⟨i + 1, _, by omega, by go_num, HV9, HW9, HPn2, HB9⟩
                  case measure => simp [intOf]; omega
            · obtain rfl : i = 10 := by omega
              rw [show (((10 : Nat) : Nat) : Int) = 10 from rfl]
              clear hlt hi
              go_wp2
              go_loopw [117] (fun iv wr => ∃ i : Nat, i ≤ 10 ∧ iv = .int .i64 i ∧ Hid (Pg 22 46 46 w.heap.size 10 9 LF t.length 0 (encF t) [] (dgF X) (.string ⟨#[103, 114, 111, 119, 110]⟩) V2 10 wr) ∧ Hid (Below w.heap.size w wr)) (fun iv _ => 10 - (intOf iv).toNat)
              case atStart => exact ⟨0, by omega, rfl, HPg, HB⟩
              case round =>
                clear HPg HB
                obtain ⟨i, hi, rfl, HPg, HB⟩ := hrel
                by_cases hlt : i < 10
                · obtain ⟨hcL, hfz, hgB⟩ := HPg.out.cellL HV0.out i hlt
                  have hLg : Lg 9 LF 10 i = LF i + 9 := by unfold Lg; rw [if_pos hlt]
                  rcases HPg.out.formS i hlt with ⟨_, h⟩ | ⟨g, cap, hv, hcap⟩
                  · rw [hLg] at h; omega
                  rw [hLg] at hv hcap
                  rw [hv] at hcL
                  have HVi : Hid (V2 (10 + i) = .slice (some ⟨g, 0, none⟩) (LF i + 9) cap) := hv
                  have hn : LF i ≤ 1048677 := HLF.out i
                  clear hv hLg hfz hgB
                  obtain ⟨n9, hn9⟩ : ∃ n9, n9 = LF i + 9 := ⟨_, rfl⟩
                  rw [← hn9] at hcL hcap
                  have HN9 : Hid (n9 = LF i + 9) := hn9
                  have hn9a : n9 ≤ 1048686 := by omega
                  have hn9b : 9 ≤ n9 := by omega
                  clear hn9 hn
                  go_wp2
                  rw [show decide ((i : Int) < 10) = true from decide_eq_true (by omega)]
                  go_loopw [124] (fun jv wr => ∃ j : Nat, j ≤ n9 ∧ jv = .int .i64 j ∧ Hid (Pg 22 46 46 w.heap.size 10 9 LF t.length 0 (encF t) [] (dgF X) (.string ⟨#[103, 114, 111, 119, 110]⟩) V2 10 wr) ∧ Hid (Below w.heap.size w wr)) (fun jv _ => n9 - (intOf jv).toNat)
                  case atStart => exact ⟨0, by omega, rfl, HPg, HB⟩
                  case round =>
                    clear HPg HB hcL
                    obtain ⟨j, hj, rfl, HPg, HB⟩ := hrel
                    by_cases hjn : j < n9
                    · have hw9 : IntKind.i64.wrap ((n9 : Int) - 9) = (n9 : Int) - 9 := by rw [IntKind.wrap_i64]; omega
                      by_cases hjl : j < LF i
                      · obtain ⟨hu0, hu1⟩ := HPg.out.marks i hlt HVi.out j hjl
                        unfold dgF at hu0 hu1
                        dsimp only at hu0 hu1
                        have hd1 : decide ((j : Int) < (n9 : Int) - 9) = true := decide_eq_true (by have := HN9.out; omega)
                        have HCi : Hid (∀ w, Calls Tryd.prog 20 #[.string (Utf8.encode (97 + (i : Int)))] w fun e w' => e = .returned (.string (ltr i)) ∧ Below (World.heap w).size w w') := fun w => HCn.out i w
                        have hcv : ∀ w, (convert 21 9 (.int .i32 (97 + (i : Int)))).run Tryd.prog w = .ok (.string (Utf8.encode (97 + (i : Int)))) w := fun w => by
                          simp [convert, run_underlying und21, run_underlying und9, Conv.intToString]
                        have hw32 : IntKind.i32.wrap (97 + (i : Int)) = 97 + (i : Int) := by rw [IntKind.wrap_i32]; omega
                        have hw64 : IntKind.i64.wrap (97 + (i : Int)) = 97 + (i : Int) := by rw [IntKind.wrap_i64]; omega
                        have hYs := ltr_size i
                        generalize Utf8.encode (97 + (i : Int)) = LT at *
                        generalize ltr i = Y at *
                        have hsum : Y.size + X.size ≤ 9223372036854775807 := by omega
                        have hsumN : ¬ (9223372036854775807 < Y.size + X.size) := by omega
                        have hb6 : Below wr.heap.size wr (wr.alloc (.cells #[.string ⟨#[109, 97, 114, 107]⟩, .string (Y ++ X)] 46)) := (Below.refl _ wr).alloc (Nat.le_refl _) _
                        have HP6 : Hid (Pg 22 46 46 w.heap.size 10 9 LF t.length 0 (encF t) [] (dgF X) (.string ⟨#[103, 114, 111, 119, 110]⟩) V2 10 (wr.alloc (.cells #[.string ⟨#[109, 97, 114, 107]⟩, .string (Y ++ X)] 46))) := HPg.out.below hb6
                        have HB6 : Hid (Below w.heap.size w (wr.alloc (.cells #[.string ⟨#[109, 97, 114, 107]⟩, .string (Y ++ X)] 46))) := bel_trans HB.out hb6
                        clear hb6
                        obtain ⟨w6, hw6⟩ : ∃ w6, w6 = wr.alloc (.cells #[.string ⟨#[109, 97, 114, 107]⟩, .string (Y ++ X)] 46) := ⟨_, rfl⟩
                        have c0 : w6.cell? ⟨wr.heap.size, 0, none⟩ = some (.string ⟨#[109, 97, 114, 107]⟩) := by rw [hw6]; simp
                        have c1 : w6.cell? ⟨wr.heap.size, 1, none⟩ = some (.string (Y ++ X)) := by rw [hw6]; simp
                        have hlt6 : wr.heap.size < w6.heap.size := by rw [hw6]; simp
                        rw [← hw6] at HP6 HB6
                        go_wp2_with fail
                        rw [← hw6]
                        clear hw6 hu0 hu1
                        generalize wr.heap.size = B6 at *
                        have hne : ((Y ++ X).toList != (Y ++ X).toList) = false := by simp
                        have hd2 : decide ((n9 : Int) - 9 ≤ (j : Int)) = false := decide_eq_false (by have := HN9.out; omega)
                        have k0 : ∀ p : BelBy w6, p.to.cell? ⟨B6, 0, none⟩ = some (.string ⟨#[109, 97, 114, 107]⟩) := fun p => p.cell c0
                        have k1 : ∀ p : BelBy w6, p.to.cell? ⟨B6, 1, none⟩ = some (.string (Y ++ X)) := fun p => p.cell c1
                        have inh : Nonempty (BelBy w6) := ⟨⟨w6, Below.refl _ w6⟩⟩
                        clear c0 c1 hlt6
                        refine wp_region_bel mixB (by kernel_rfl) ?_
                        iterate 29 (quiet_step (first | (go_at_call 20; with_reducible exact Calls.bel_of (HCi.out _))))
                        iterate 3 (with_reducible (refine wpQuiet_step (fun K hK => ?_)); go_simp; (with_reducible refine hK _ ?_); clear hK K)
                        iterate 2 (quiet_step (fail))
                        refine wpQuiet_nil ?_
                        rintro _ ⟨pq, rfl⟩
                        have HP7 : Hid (Pg 22 46 46 w.heap.size 10 9 LF t.length 0 (encF t) [] (dgF X) (.string ⟨#[103, 114, 111, 119, 110]⟩) V2 10 pq.to) := HP6.out.below pq.bel
                        have HB7 : Hid (Below w.heap.size w pq.to) := bel_trans HB6.out pq.bel
                        generalize pq.to = w7 at *
                        clear k0 k1 inh
                        go_wp2
                        go_roundw
                        case rel => exact ⟨j + 1, by omega, by go_num, HP7, HB7⟩
                        case measure => simp [intOf]; omega
                      · obtain ⟨ux, hu0, hu1⟩ := HPg.out.grown i hlt HVi.out j (by omega) (by have := HN9.out; omega)
                        have hd1 : decide ((j : Int) < (n9 : Int) - 9) = false := decide_eq_false (by have := HN9.out; omega)
                        have hd2 : decide ((n9 : Int) - 9 ≤ (j : Int)) = true := decide_eq_true (by have := HN9.out; omega)
                        obtain ⟨w6, hw6⟩ : ∃ w6, w6 = wr.alloc (.cells #[.string ⟨#[103, 114, 111, 119, 110]⟩, .string ux] 46) := ⟨_, rfl⟩
                        have c0 : w6.cell? ⟨wr.heap.size, 0, none⟩ = some (.string ⟨#[103, 114, 111, 119, 110]⟩) := by rw [hw6]; simp
                        have hb6 : Below wr.heap.size wr w6 := by rw [hw6]; exact (Below.refl _ wr).alloc (Nat.le_refl _) _
                        have HP6 : Hid (Pg 22 46 46 w.heap.size 10 9 LF t.length 0 (encF t) [] (dgF X) (.string ⟨#[103, 114, 111, 119, 110]⟩) V2 10 w6) := HPg.out.below hb6
                        have HB6 : Hid (Below w.heap.size w w6) := bel_trans HB.out hb6
                        clear hb6
                        go_wp2_with fail
                        rw [← hw6]
                        clear hw6 hu0 hu1
                        generalize wr.heap.size = B6 at *
                        go_quiet (fail)
                        have HP7 : Hid (Pg 22 46 46 w.heap.size 10 9 LF t.length 0 (encF t) [] (dgF X) (.string ⟨#[103, 114, 111, 119, 110]⟩) V2 10 (w6.drewN nq)) := HP6.out.below (below_drewN (Below.refl _ _) _)
                        have HB7 : Hid (Below w.heap.size w (w6.drewN nq)) := below_drewN HB6.out _
                        go_wp2
                        go_roundw
                        case rel => exact ⟨j + 1, by omega, by go_num, HP7, HB7⟩
                        case measure => simp [intOf]; omega
                    · obtain rfl : j = n9 := by omega
                      go_wp2
                      go_roundw
                      case rel => exact ⟨i + 1, by omega, by go_num, HPg, HB⟩
                      case measure => simp [intOf]; omega
                · obtain rfl : i = 10 := by omega
                  rw [show (((10 : Nat) : Nat) : Int) = 10 from rfl]
                  have HI0 : Hid (RdF vin t wr) := (by
                    have := HPg.out.rows.1
                    rw [HV.out] at this
                    exact OwnF.rd (T := 46) (B := w.heap.size) this : RdF _ _ _)
                  clear hlt hi HPg
                  go_wp2_with fail
                  refine (HPl.out _ (HR.out.below HB.out)).mono ?_
                  rintro e w2 ⟨m2, rfl, hm, hb2⟩
                  have HM2 : Hid (RdF m2 t w2) := hm.rd
                  have HI2 : Hid (RdF vin t w2) := HI0.out.below hb2
                  have HB2 : Hid (Below w.heap.size w w2) := bel_trans HB.out hb2
                  have HS2 : Hid (Calls _ _ _ _ _) := same_any vin m2 t w2 HI2.out HM2.out htl
                  clear hm hb2 HB HI0
                  go_wp2_with fail
                  refine HS2.out.mono ?_
                  rintro e w3 ⟨rfl, hb3⟩
                  have HI3 : Hid (RdF vin t w3) := HI2.out.below hb3
                  have HB3 : Hid (Below w.heap.size w w3) := bel_trans HB2.out hb3
                  clear hb3 HS2 HB2 HI2 HM2
                  go_wp2_with fail
                  refine (HRe.out _ _ HI3.out).mono ?_
                  rintro e w4 ⟨y4, rfl, ho4, hb4⟩
                  have HY4 : Hid (RdF y4 R w4) := ho4.rd
                  have HB4 : Hid (Below w.heap.size w w4) := bel_trans HB3.out hb4
                  clear ho4 hb4 HB3 HI3
                  go_wp2_with fail
                  refine (HPl.out _ (HR.out.below HB4.out)).mono ?_
                  rintro e w5 ⟨m5, rfl, hm5, hb5⟩
                  have HM5 : Hid (RdF m5 t w5) := hm5.rd
                  have HY5 : Hid (RdF y4 R w5) := HY4.out.below hb5
                  have HB5 : Hid (Below w.heap.size w w5) := bel_trans HB4.out hb5
                  clear hm5 hb5 HB4 HY4
                  go_wp2_with fail
                  refine (HrRe.out _ _ HM5.out).mono ?_
                  rintro e w6 ⟨y6, rfl, ho6, hb6⟩
                  have HY6 : Hid (RdF y4 R w6) := HY5.out.below hb6
                  have HB6 : Hid (Below w.heap.size w w6) := bel_trans HB5.out hb6
                  have HS6 : Hid (Calls _ _ _ _ _) := same_any y4 y6 R w6 HY6.out ho6.rd hl3
                  clear ho6 hb6 HB5 HY5 HM5
                  go_wp2_with fail
                  refine HS6.out.mono ?_
                  rintro e w7 ⟨rfl, hb7⟩
                  have HB7 : Hid (Below w.heap.size w w7) := bel_trans HB6.out hb7
                  clear hb7
                  go_wp2
                  go_ret
                  exact ⟨rfl, HB7.out⟩

end Fd
end Go.Proofs.YtggmidkmpgjnoaaDoor
