/-
  sheet: the document's Parse.
-/
import Derived.Test.YtlnlhhobmgiceaaGreatDoorSrW
import Derived.Test.YtlnlhhobmgiceaaGreatDoorSrR
import Derived.Deep.CutBlock
import Derived.Deep.DeepCutAuto
set_option linter.unusedVariables false
set_option linter.unusedSimpArgs false
namespace Go.Proofs.YtlnlhhobmgiceaaGreatDoor
open Go.RowKit Go.Shelf
namespace Sr
open Oc Tg Mf

theorem own_none {W : World} {B n : Nat} (hB : B ≤ n) (h : W.heap[n]? = some (.cells #[] 62 (0, 0))) : Pt.OwnT 62 B (.slice (some ⟨n, 0, none⟩) 0 0) [] W :=
  ⟨by simp [Pt.encT], .inr ⟨n, 0, #[], rfl, hB, h, by simp, by decide, by simp, by simp [Pt.encT]⟩⟩
/-- What the document's Parse answers at a place. -/
def Ans (w : World) (R : List Pt.P5 × Int × Int) (e : Ending) (w' : World) : Prop := ∃ lv, e = .returned (.tuple #[lv, .int .i64 R.2.1, .int .i64 R.2.2]) ∧ Pt.OwnT 62 w.heap.size lv R.1 w' ∧ Below w.heap.size w w'

theorem PD.put {w : World} {b : Nat} {x : Pt.P5} (h : PD w b x) (y : Pt.P5) : PD (((((w.setCell ⟨b, 0, none⟩ (.string (str y.n))).setCell ⟨b, 1, none⟩ (.string (str y.f))).setCell ⟨b, 2, none⟩ (.string (str y.m))).setCell ⟨b, 3, none⟩ (.string (str y.b))).setCell ⟨b, 4, none⟩ (.bool y.h)) b y := by
  unfold PD at *
  have z0 := heap_setCell_same w b 0 _ _ (.string (str y.n)) h
  have z1 := heap_setCell_same _ b 1 _ _ (.string (str y.f)) z0
  have z2 := heap_setCell_same _ b 2 _ _ (.string (str y.m)) z1
  have z3 := heap_setCell_same _ b 3 _ _ (.string (str y.b)) z2
  have z4 := heap_setCell_same _ b 4 _ _ (.bool y.h) z3
  rw [z4]
  rfl
/-- What stands behind the call of field. -/
def R35 (TP : Int × Pt.P5 × Bool × Bool) (wq : World) (v20 v21 v22 v23 : Value) (wx : World) : Prop := ∃ b20 y d' t', v20 = .pointer (some ⟨b20, 0, none⟩) ∧ v21 = .bool d' ∧ v22 = .bool t' ∧ v23 = .int .i64 TP.1 ∧ (TP.1 = 0 → TP.2 = (y, d', t')) ∧ PD wx b20 y ∧ wq.heap.size ≤ b20 ∧ Below wq.heap.size wq wx
theorem r35_put {TP : Int × Pt.P5 × Bool × Bool} {wr w8 : World} {o : Obj} {y : Pt.P5} {d' t' : Bool} (hy : TP.1 = 0 → TP.2 = (y, d', t')) (hb8 : Below (wr.alloc o).drew.heap.size (wr.alloc o).drew w8) (pz : PD w8 wr.heap.size Pt.p0) :
    R35 TP wr (.pointer (some ⟨wr.heap.size, 0, none⟩)) (.bool d') (.bool t') (.int .i64 TP.1) (((((w8.setCell ⟨wr.heap.size, 0, none⟩ (.string (str y.n))).setCell ⟨wr.heap.size, 1, none⟩ (.string (str y.f))).setCell ⟨wr.heap.size, 2, none⟩ (.string (str y.m))).setCell ⟨wr.heap.size, 3, none⟩ (.string (str y.b))).setCell ⟨wr.heap.size, 4, none⟩ (.bool y.h)) := by
  have h0 : Below wr.heap.size wr w8 := (((Below.refl wr.heap.size wr).alloc (Nat.le_refl _) o).drew).trans (hb8.mono (by rw [show (wr.alloc o).drew.heap.size = (wr.alloc o).heap.size from rfl, World.size_alloc]; omega))
  exact ⟨_, y, d', t', rfl, rfl, rfl, rfl, hy, pz.put y, Nat.le_refl _, ((((h0.setCell (p := ⟨wr.heap.size, 0, none⟩) (Nat.le_refl _) _).setCell (p := ⟨wr.heap.size, 1, none⟩) (Nat.le_refl _) _).setCell (p := ⟨wr.heap.size, 2, none⟩) (Nat.le_refl _) _).setCell (p := ⟨wr.heap.size, 3, none⟩) (Nat.le_refl _) _).setCell (p := ⟨wr.heap.size, 4, none⟩) (Nat.le_refl _) _⟩
/-- What the answer hangs on, once the fields are read. -/
structure PF (l mk : List UInt8) (kk f : Nat) (acc : List Pt.P5) (F : Pt.P5 × Option (Int × Int) × Nat) (R : List Pt.P5 × Int × Int) : Prop where
  h1 : ∀ e, F.2.1 = some e → R = ([], e.1, e.2)
  h2 : ∀ y p, F = (y, none, p) → Lib.hasPrefix (l.drop p) mk = true → R = ([], (p : Int), 152)
  h3 : ∀ y p (z : Int), F = (y, none, p) → Lib.hasPrefix (l.drop p) mk = false → bytP (l.drop p) mk l.length = ([], some (z, 154), 0) → R = ([], z, 154)
  h4 : ∀ y p j, F = (y, none, p) → Lib.hasPrefix (l.drop p) mk = false → bytP (l.drop p) mk l.length = ((l.drop p).take j, none, j + 2) → R = ((prsP l mk kk f (acc ++ [{ y with b := (l.drop p).take j }]) (p + (j + 2))).1, errN (prsP l mk kk f (acc ++ [{ y with b := (l.drop p).take j }]) (p + (j + 2))).2)
theorem PF.mk' {l mk : List UInt8} {kk f a : Nat} {acc : List Pt.P5} {F : Pt.P5 × Option (Int × Int) × Nat} {R : List Pt.P5 × Int × Int} (hF : F = fdsP l a)
    (hR : R = ((if (prtP l mk a).2.1 ≠ none then ([], (prtP l mk a).2.1) else prsP l mk kk f (acc ++ [(prtP l mk a).1]) (prtP l mk a).2.2).1, errN (if (prtP l mk a).2.1 ≠ none then ([], (prtP l mk a).2.1) else prsP l mk kk f (acc ++ [(prtP l mk a).1]) (prtP l mk a).2.2).2)) : PF l mk kk f acc F R := by
  have hp : prtP l mk a = (if F.2.1 ≠ none then (Pt.p0, F.2.1, a) else if Lib.hasPrefix (l.drop F.2.2) mk = true then (Pt.p0, some ((F.2.2 : Int), 152), F.2.2) else ({ F.1 with b := (bytP (l.drop F.2.2) mk l.length).1 }, (bytP (l.drop F.2.2) mk l.length).2.1, F.2.2 + (bytP (l.drop F.2.2) mk l.length).2.2)) := by unfold prtP; rw [hF]
  refine ⟨fun e h => ?_, fun y p h h0 => ?_, fun y p z h h0 hb => ?_, fun y p j h h0 hb => ?_⟩
  · have e' : prtP l mk a = (Pt.p0, some e, a) := by rw [hp, if_pos (by rw [h]; simp), h]
    rw [hR, e']
    simp [errN]
  · have e' : prtP l mk a = (Pt.p0, some ((p : Int), 152), p) := by rw [hp, h]; simp [h0]
    rw [hR, e']
    simp [errN]
  · have e' : (prtP l mk a).2.1 = some (z, 154) := by rw [hp, h]; simp [h0, hb]
    rw [hR]
    simp [e', errN]
  · have e' : prtP l mk a = ({ y with b := (l.drop p).take j }, none, p + (j + 2)) := by rw [hp, h]; simp [h0, hb]
    rw [hR, e']
    simp

set_option maxRecDepth 100000 in
set_option maxHeartbeats 6000000 in
theorem rParse_any (b s : ByteArray) (most : Int) (hb1 : b.size ≤ 1048576) (hs : s.size ≤ 1073741820) (hmost : most < 9223372036854775808) (w : World) :
    Calls Tryz.prog 6 #[.string b, .string s, .int .i64 most] w fun e w' => Ans w (parR b.data.toList s.data.toList most) e w' := by
  obtain ⟨R, HRR⟩ : ∃ R, Hid (R = parR b.data.toList s.data.toList most) := ⟨_, rfl⟩
  have HRd : Hid (R = _) := HRR.out.trans (by unfold parR; exact rfl)
  rw [← HRR.out]
  have HIb : Hid (∀ W, Calls _ _ _ W _) := fun W => rIsMark_any b (by omega) W
  obtain ⟨w1, hw1⟩ : ∃ w1, w1 = w.alloc (.cells #[] 62) := ⟨_, rfl⟩
  have hn1 : w1.heap[w.heap.size]? = some (.cells #[] 62 (0, 0)) := by rw [hw1]; exact heap_alloc_new w _
  have hb1' : Below w.heap.size w w1 := by rw [hw1]; exact (Below.refl _ w).alloc (Nat.le_refl _) _
  clear HRR
  generalize bndR b.data.toList = B at *
  cases B with
  | false =>
    have HQ : Hid (R = ([], 0, 151)) := (by rw [HRd.out, if_pos rfl] : R = _)
    go_enter Tryz.func6, Tryz.ntmps6
    go_wp2_with fail
    rw [← hw1]
    refine (HIb.out _).mono ?_
    rintro e w2 ⟨rfl, hw2⟩
    have HN2 : Hid (w2.heap[w.heap.size]? = _) := (hw2.block _ (Array.getElem?_eq_some_iff.1 hn1).1).trans hn1
    have HB2 : Hid (Below w.heap.size w w2) := hb1'.trans (hw2.mono hb1'.size)
    clear hw2 hn1 hb1' hw1
    go_wp2
    refine bodyPost_ret (v := .tuple #[.slice (some ⟨w.heap.size, 0, none⟩) 0 0, .int .i64 0, .int .i64 151]) (by simp [results, Tryz.results6, go_sem]; try rfl) rfl ?_
    rw [HQ.out]
    exact ⟨_, rfl, own_none (Nat.le_refl _) HN2.out, HB2.out⟩
  | true =>
    by_cases hm1 : most < 1
    · have HQ : Hid (R = ([], 0, 1)) := (by rw [HRd.out, if_neg (by simp), if_pos hm1] : R = _)
      go_enter Tryz.func6, Tryz.ntmps6
      go_wp2_with fail
      rw [← hw1]
      refine (HIb.out _).mono ?_
      rintro e w2 ⟨rfl, hw2⟩
      have HN2 : Hid (w2.heap[w.heap.size]? = _) := (hw2.block _ (Array.getElem?_eq_some_iff.1 hn1).1).trans hn1
      have HB2 : Hid (Below w.heap.size w w2) := hb1'.trans (hw2.mono hb1'.size)
      clear hw2 hn1 hb1' hw1
      go_wp2
      refine bodyPost_ret (v := .tuple #[.slice (some ⟨w.heap.size, 0, none⟩) 0 0, .int .i64 0, .int .i64 1]) (by simp [results, Tryz.results6, go_sem]; try rfl) rfl ?_
      rw [HQ.out]
      exact ⟨_, rfl, own_none (Nat.le_refl _) HN2.out, HB2.out⟩
    · have HQ0 : Hid (R = ((allP s.data.toList ([45, 45] ++ b.data.toList) most.toNat).1, errN (allP s.data.toList ([45, 45] ++ b.data.toList) most.toNat).2)) := (by rw [HRd.out, if_neg (by simp), if_neg hm1] : R = _)
      obtain ⟨kk, hk⟩ : ∃ k : Nat, most = (k : Int) := ⟨most.toNat, by omega⟩
      subst hk
      have hkn : (kk : Int).toNat = kk := by simp
      rw [hkn] at HQ0
      have hcat : (⟨#[45, 45]⟩ : ByteArray) ++ b = str ([45, 45] ++ b.data.toList) := by
        apply eq_list
        rw [str_list, ByteArray.data_append, Array.toList_append]
      have hml2 : ([45, 45] ++ b.data.toList).length ≤ 4000000 := by simp [size_list]; omega
      have hml1 : 2 ≤ ([45, 45] ++ b.data.toList).length := by simp
      have HCat : Hid ((⟨#[45, 45]⟩ : ByteArray) ++ b = str ([45, 45] ++ b.data.toList)) := hcat
      clear HRd hcat hkn
      have hsl : s.data.toList.length = s.size := size_list s
      have HS1 : Hid (∀ (k : Nat) W, k ≤ s.size → Calls Tryz.prog 21 #[.string s, .int .i64 (k : Int), .string ⟨#[13, 10]⟩] W fun e w' => e = .returned (.bool (Lib.hasPrefix (s.data.toList.drop k) [13, 10])) ∧ w' = W) := fun k W h => rstarts_any s ⟨#[13, 10]⟩ (by omega) (by decide) k h W
      have HS2 : Hid (∀ (k : Nat) W, k ≤ s.size → Calls Tryz.prog 21 #[.string s, .int .i64 (k : Int), .string ⟨#[45, 45]⟩] W fun e w' => e = .returned (.bool (Lib.hasPrefix (s.data.toList.drop k) [45, 45])) ∧ w' = W) := fun k W h => rstarts_any s ⟨#[45, 45]⟩ (by omega) (by decide) k h W
      have HS3 : Hid (∀ (k : Nat) (t : List UInt8) W, t.length ≤ 5000000 → k ≤ s.size → Calls Tryz.prog 21 #[.string s, .int .i64 (k : Int), .string (str t)] W fun e w' => e = .returned (.bool (Lib.hasPrefix (s.data.toList.drop k) t)) ∧ w' = W) := fun k t W h0 h => by
        have := rstarts_any s (str t) (by omega) (by rw [str_size]; omega) k h W
        rw [str_list] at this
        exact this
      have HTa : Hid (∀ (k : Nat) W, k ≤ s.size → Calls _ _ _ W _) := fun k W h => rtail_any s (by omega) k h W
      have HFi : Hid (∀ x d t (l : List UInt8) W, l ≠ [] → l.length ≤ s.size → Calls _ _ _ W _) := fun x d t l W h1 h2 => rfield_any x d t l h1 (by omega) W
      have HEx : Hid (∀ k j : Nat, s.extract k (k + j) = str ((s.data.toList.drop k).take j)) := ext_take s
      generalize [45, 45] ++ b.data.toList = mk at *
      have HSL : Hid (s.data.toList.length = s.size) := hsl
      have HG : Hid (∀ k, k < s.size → (byt s k = ((s.data.toList.getD k 0).toNat : Int)) ∧ s.data.toList.drop k = s.data.toList.getD k 0 :: s.data.toList.drop (k + 1)) := fun k h => ⟨rfl, drop_get _ _ (by omega)⟩
      generalize hll : s.data.toList = l at *
      clear hll
      obtain ⟨zb, hzb⟩ : ∃ zb, b.size = zb := ⟨_, rfl⟩
      have hk2 : (⟨#[45, 45]⟩ : ByteArray).size = 2 := rfl
      have had1 : ¬ (9223372036854775807 < 2 + zb) := by omega
      have hm2 : decide ((kk : Int) < 1) = false := by simpa using hm1
      go_enter Tryz.func6, Tryz.ntmps6
      go_wp2_with fail
      rw [← hw1]
      refine (HIb.out _).mono ?_
      rintro e w2 ⟨rfl, hw2⟩
      have HN2 : Hid (w2.heap[w.heap.size]? = some (.cells #[] 62 (0, 0))) := (hw2.block _ (Array.getElem?_eq_some_iff.1 hn1).1).trans hn1
      have HB2 : Hid (Below w.heap.size w w2) := hb1'.trans (hw2.mono hb1'.size)
      clear hw2 hn1 hb1' hw1 HIb
      go_wp2_with fail
      rw [HCat.out]
      have HMo : Hid ((kk : Int) < 9223372036854775808 ∧ b.size ≤ 1048576 ∧ 1 ≤ kk) := ⟨hmost, hb1, by omega⟩
      clear HCat hm2 had1 hk2 hmost hb1 hzb hm1
      obtain ⟨SM, hSM⟩ : ∃ SM, SM = str mk := ⟨_, rfl⟩
      have HSM : Hid (SM = str mk) := hSM
      have hzM : SM.size = mk.length := by rw [hSM]; exact str_size mk
      rw [← hSM]
      clear hSM
      have HSm : Hid (∀ (k : Nat) W, k ≤ s.size → Calls Tryz.prog 21 #[.string s, .int .i64 (k : Int), .string SM] W fun e w' => e = .returned (.bool (Lib.hasPrefix (l.drop k) mk)) ∧ w' = W) := fun k W h => by
        rw [HSM.out]
        exact HS3.out k mk W (by omega) h
      go_loopw [11] (fun v wr => ∃ a : Nat, v = .int .i64 (a : Int) ∧ a ≤ s.size ∧ Hid (P1 l mk a) ∧ wr = w2) (fun v _ => s.size + 1 - (intOf v).toNat)
      case atStart => exact ⟨0, rfl, Nat.zero_le _, (.inl rfl : P1 l mk 0), rfl⟩
      case round =>
        obtain ⟨a, rfl, ha, HP, rfl⟩ := hrel
        go_upto_region 8 with fail
        go_cut [55] from 36 to 55 (fun c wx => c = .bool (!C1 l mk a) ∧ wx = wr)
        case first =>
          have HC : Hid (C1 l mk a = _) := (by unfold C1; exact rfl)
          have HSa : Hid (Calls _ _ _ wr _) := HSm.out a wr ha
          generalize C1 l mk a = cc at *
          generalize Lib.hasPrefix (l.drop a) mk = b1 at *
          cases b1 with
          | false =>
            have hcc : cc = false := HC.out
            subst hcc
            clear HC
            go_wp2_with fail
            refine HSa.out.mono ?_
            rintro e w' ⟨rfl, rfl⟩
            go_wp2
            go_meet
            case rel => exact ⟨rfl, rfl⟩
          | true =>
            by_cases h0 : a = 0
            · have hcc : cc = true := by rw [HC.out, decide_eq_true h0]; simp
              subst hcc
              have h0' : ¬ (a : Int) > 0 := by omega
              have g0 : decide ((a : Int) > 0) = false := decide_eq_false h0'
              clear HC h0
              go_wp2_with fail
              refine HSa.out.mono ?_
              rintro e w' ⟨rfl, rfl⟩
              go_wp2
              go_meet
              case rel => exact ⟨rfl, rfl⟩
            · have h0' : (0 : Int) < (a : Int) := by omega
              by_cases h2 : a < 2
              · have hcc : cc = false := by
                  rw [HC.out, decide_eq_false h0, decide_eq_false (show ¬ 2 ≤ a by omega)]
                  rfl
                subst hcc
                have h2' : (a : Int) < 2 := by omega
                have g0 : decide ((a : Int) > 0) = true := decide_eq_true h0'
                have g2 : decide ((a : Int) < 2) = true := decide_eq_true h2'
                clear HC h0 h2 hml1 hml2 hzM
                go_wp2_with fail
                refine HSa.out.mono ?_
                rintro e w' ⟨rfl, rfl⟩
                go_wp2
                go_meet
                case rel => exact ⟨rfl, rfl⟩
              · have h2' : ¬ (a : Int) < 2 := by omega
                have hcc : cc = Lib.hasPrefix (l.drop (a - 2)) [13, 10] := by
                  rw [HC.out, decide_eq_false h0, decide_eq_true (show 2 ≤ a by omega)]
                  simp
                have hsb := HS1.out (a - 2) wr (by omega)
                have hsub : ((a - 2 : Nat) : Int) = (a : Int) - 2 := by omega
                rw [hsub] at hsb
                have HSb : Hid (Calls _ _ _ wr _) := hsb
                clear hsb hsub
                generalize Lib.hasPrefix (l.drop (a - 2)) [13, 10] = b2 at *
                subst hcc
                have g0 : decide ((a : Int) > 0) = true := decide_eq_true h0'
                have g2 : decide ((a : Int) < 2) = false := decide_eq_false h2'
                clear HC h0 h2 hml1 hml2 hzM
                go_wp2_with fail
                refine HSa.out.mono ?_
                rintro e w' ⟨rfl, rfl⟩
                go_wp2_with fail
                refine HSb.out.mono ?_
                rintro e w' ⟨rfl, rfl⟩
                go_wp2
                go_meet
                case rel => exact ⟨rfl, rfl⟩
        case rest =>
          obtain ⟨rfl, rfl⟩ := hcut
          cases hC : C1 l mk a with
          | false =>
            have HP2 : Hid (P1 l mk (a + 1)) := P1_step HP.out hC
            by_cases hgt : a + 1 > s.size
            · have hgt' : (a : Int) + 1 > (s.size : Int) := by omega
              have HQ : Hid (R = ([], (s.size : Int), 154)) := (by
                have := P1_past HP2.out hml1 (by rw [HSL.out]; omega)
                rw [HQ0.out]
                unfold allP
                rw [this, HSL.out]
                rfl : R = _)
              go_wp2
              refine bodyPost_ret (v := .tuple #[.slice (some ⟨w.heap.size, 0, none⟩) 0 0, .int .i64 (s.size : Int), .int .i64 154]) (by simp [results, Tryz.results6, go_sem]; try rfl) rfl ?_
              rw [HQ.out]
              exact ⟨_, rfl, own_none (Nat.le_refl _) HN2.out, HB2.out⟩
            · have hgt' : ¬ (a : Int) + 1 > (s.size : Int) := by omega
              go_wp2
              go_roundw
              case rel => exact ⟨a + 1, by go_num, by omega, HP2, by first | trivial | rfl⟩
              case measure => simp [intOf]; omega
          | true =>
            have hpre := P1_hit HP.out (by rw [HSL.out]; exact ha) hC
            have hal := C1_len (by omega) hC
            rw [HSL.out] at hal
            have HQ1 : Hid (R = ((prsP l mk kk (s.size + 1) [] a).1, errN (prsP l mk kk (s.size + 1) [] a).2)) := (by
              rw [HQ0.out]
              unfold allP
              rw [hpre, HSL.out]
              rfl : R = _)
            clear hpre hC HP HQ0
            have hwn : w.heap.size < wc.heap.size := (Array.getElem?_eq_some_iff.1 HN2.out).1
            obtain ⟨w3, hw3⟩ : ∃ w3, w3 = wc.alloc (.cells #[] 62) := ⟨_, rfl⟩
            have hb3 : Below wc.heap.size wc w3 := by rw [hw3]; exact (Below.refl _ wc).alloc (Nat.le_refl _) _
            have HN3 : Hid (w3.heap[w.heap.size]? = some (.cells #[] 62 (0, 0))) := ((hb3.block _ hwn).trans HN2.out : _ = _)
            have HB3 : Hid (Below w.heap.size w w3) := HB2.out.trans (hb3.mono HB2.out.size)
            have HO3 : Hid (Pt.OwnT 62 (w.heap.size + 1) (.slice (some ⟨wc.heap.size, 0, none⟩) 0 0) [] w3) := own_none hwn (by rw [hw3]; exact heap_alloc_new wc _)
            clear hb3 HN2 HB2
            go_wp2_with fail
            rw [← hw3]
            clear hw3
            go_loopw [11, 12] (fun av ov wr => ∃ (a f : Nat) (acc : List Pt.P5), av = .int .i64 (a : Int) ∧ a + mk.length ≤ s.size ∧ s.size ≤ a + f ∧ acc.length ≤ a ∧ acc.length ≤ kk ∧ Hid (R = ((prsP l mk kk (f + 1) acc a).1, errN (prsP l mk kk (f + 1) acc a).2)) ∧ Hid (Pt.OwnT 62 (w.heap.size + 1) ov acc wr) ∧ Hid (wr.heap[w.heap.size]? = some (.cells #[] 62 (0, 0))) ∧ Hid (Below w.heap.size w wr)) (fun av _ _ => s.size + 1 - (intOf av).toNat)
            case atStart => exact ⟨a, s.size, [], rfl, hal, by omega, by simp, by simp, HQ1, HO3, HN3, HB3⟩
            case round =>
              clear HQ1 HO3 HN3 HB3 hal ha hwn
              obtain ⟨a, f, acc, rfl, hal, haf, hacc, hakk, HQ, HOw, HN, HB⟩ := hrel
              obtain ⟨oa, oc, rfl⟩ := ownT_form HOw.out
              have hal' : (a : Int) + (mk.length : Int) ≤ (s.size : Int) := by omega
              have hq := HQ.out
              rw [prsP] at hq
              have HQ2 : Hid (R = _) := hq
              clear hq HQ
              have HTK : Hid (∀ T, tkP l a mk.length (decide (0 < acc.length)) = T → T = tkP l a mk.length (decide (0 < acc.length))) := fun T h => h.symm
              obtain ⟨r, hr⟩ : ∃ r, l.drop (a + mk.length) = r := ⟨_, rfl⟩
              have HRr : Hid (l.drop (a + mk.length) = r) := hr
              have hrl : r.length + (a + mk.length) = s.size := by rw [← hr, List.length_drop, HSL.out]; omega
              have hcast : ((a + mk.length : Nat) : Int) = (a : Int) + (mk.length : Int) := by omega
              have HSd : Hid (Calls Tryz.prog 21 #[.string s, .int .i64 ((a : Int) + (mk.length : Int)), .string ⟨#[45, 45]⟩] wr fun e w' => e = .returned (.bool (Lib.hasPrefix r [45, 45])) ∧ w' = wr) := (by
                have := HS2.out (a + mk.length) wr hal
                rw [hr, hcast] at this
                exact this : Calls _ _ _ _ _)
              have HTl : Hid (Calls Tryz.prog 22 #[.string s, .int .i64 ((a : Int) + (mk.length : Int))] wr fun e w' => e = .returned (.tuple #[.int .i64 (tailR r).1, .bool (tailR r).2]) ∧ w' = wr) := (by
                have := HTa.out (a + mk.length) wr hal
                rw [hr, hcast] at this
                exact this : Calls _ _ _ _ _)
              clear hr hcast
              go_upto_region 14 with fail
              go_cut [77] from 70 to 77 (fun c wx => c = .bool (decide (0 < acc.length) && Lib.hasPrefix r [45, 45]) ∧ wx = wr)
              case first =>
                by_cases hl : 0 < acc.length
                · have g0 : decide ((acc.length : Int) > 0) = true := decide_eq_true (by omega)
                  have hl' : (acc.length : Int) > 0 := by omega
                  go_wp2_with fail
                  refine HSd.out.mono ?_
                  rintro e w' ⟨rfl, rfl⟩
                  go_wp2
                  go_meet
                  case rel => exact ⟨by rw [decide_eq_true hl, Bool.true_and], rfl⟩
                · have g0 : decide ((acc.length : Int) > 0) = false := decide_eq_false (by omega)
                  have hl' : ¬ (acc.length : Int) > 0 := by omega
                  go_wp2
                  go_meet
                  case rel => exact ⟨by rw [decide_eq_false hl, Bool.false_and], rfl⟩
              case rest =>
                obtain ⟨rfl, rfl⟩ := hcut
                clear HSd
                cases hD : (decide (0 < acc.length) && Lib.hasPrefix r [45, 45]) with
                | true =>
                  have hl : 0 < acc.length := by simp at hD; exact hD.1
                  have h45 : Lib.hasPrefix r [45, 45] = true := by simp at hD; exact hD.2
                  clear hD HTl
                  have hr2 : 2 ≤ r.length := by
                    have := (List.isPrefixOf_iff_prefix.1 h45).length_le
                    simpa using this
                  rw [decide_eq_true hl] at HQ2
                  have HDr : Hid (l.drop (a + mk.length + 2) = r.drop 2) := (by rw [← HRr.out, List.drop_drop] : _ = _)
                  have HSe : Hid (Calls Tryz.prog 21 #[.string s, .int .i64 ((a : Int) + (mk.length : Int) + 2), .string ⟨#[13, 10]⟩] wc fun e w' => e = .returned (.bool (Lib.hasPrefix (r.drop 2) [13, 10])) ∧ w' = wc) := (by
                    have := HS1.out (a + mk.length + 2) wc (by omega)
                    rw [HDr.out, show ((a + mk.length + 2 : Nat) : Int) = (a : Int) + (mk.length : Int) + 2 by omega] at this
                    exact this : Calls _ _ _ _ _)
                  have HOr : Hid (Pt.OwnT 62 w.heap.size (.slice oa acc.length oc) acc wc) := ⟨HOw.out.1, HOw.out.2.imp id (fun ⟨g, c, cur, e, hg, r⟩ => ⟨g, c, cur, e, by omega, r⟩)⟩
                  by_cases h2 : r.length = 2
                  · have h2' : (a : Int) + (mk.length : Int) + 2 = (s.size : Int) := by omega
                    have HQ3 : Hid (R = (acc, 0, 0)) := (by rw [HQ2.out, tk_done l a mk.length true r HRr.out rfl h45 (.inl h2)]; simp [errN] : R = _)
                    go_wp2
                    refine bodyPost_ret (v := .tuple #[.slice oa acc.length oc, .int .i64 0, .int .i64 0]) (by simp [results, Tryz.results6, go_sem]; try rfl) rfl ?_
                    rw [HQ3.out]
                    exact ⟨_, rfl, HOr.out, HB.out⟩
                  · have h2' : ¬ (a : Int) + (mk.length : Int) + 2 = (s.size : Int) := by omega
                    have h2b : ((a : Int) + (mk.length : Int) + 2 == (s.size : Int)) = false := by simpa using h2'
                    go_wp2_with fail
                    refine HSe.out.mono ?_
                    rintro e w' ⟨rfl, hwe⟩
                    rw [hwe]
                    clear hwe
                    cases h13 : Lib.hasPrefix (r.drop 2) [13, 10] with
                    | true =>
                      have HQ3 : Hid (R = (acc, 0, 0)) := (by rw [HQ2.out, tk_done l a mk.length true r HRr.out rfl h45 (.inr h13)]; simp [errN] : R = _)
                      go_wp2
                      refine bodyPost_ret (v := .tuple #[.slice oa acc.length oc, .int .i64 0, .int .i64 0]) (by simp [results, Tryz.results6, go_sem]; try rfl) rfl ?_
                      rw [HQ3.out]
                      exact ⟨_, rfl, HOr.out, HB.out⟩
                    | false =>
                      obtain ⟨r2, e2⟩ : ∃ r2, r = 45 :: 45 :: r2 := by obtain ⟨t, ht⟩ := List.isPrefixOf_iff_prefix.1 h45; exact ⟨t, by rw [← ht]; rfl⟩
                      by_cases h3 : r.length = 3
                      · have h3' : (a : Int) + (mk.length : Int) + 3 = (s.size : Int) := by omega
                        have hlt : a + mk.length + 2 < s.size := by omega
                        have hlt' : (a : Int) + (mk.length : Int) + 2 < (s.size : Int) := by omega
                        have hlt0 : (0 : Int) ≤ (a : Int) + (mk.length : Int) + 2 := by omega
                        have hltn : ((a : Int) + (mk.length : Int) + 2).toNat = a + mk.length + 2 := by omega
                        have hby : ((s[a + mk.length + 2].toNat : Nat) : Int) = byt s (a + mk.length + 2) := byt_at s (a + mk.length + 2) hlt
                        obtain ⟨g1, g2⟩ := HG.out (a + mk.length + 2) hlt
                        rw [HDr.out, e2] at g2
                        have hr2l : r2.length = 1 := by rw [e2] at h3; simpa using h3
                        obtain ⟨c, rfl⟩ : ∃ c, r2 = [c] := by
                          match r2, hr2l with
                          | [c], _ => exact ⟨c, rfl⟩
                        simp at g2
                        have hc : byt s (a + mk.length + 2) = (c.toNat : Int) := by rw [g1, List.getD_eq_getElem?_getD, ← g2.1]
                        clear g1 g2
                        by_cases hc13 : c = 13
                        · have hbb : byt s (a + mk.length + 2) = 13 := by rw [hc, hc13]; rfl
                          have hb3 : (byt s (a + mk.length + 2) == 13) = true := by simpa using hbb
                          have HQ3 : Hid (R = ([], (s.size : Int), 154)) := (by rw [HQ2.out, tk_shut1 l a mk.length true r HRr.out rfl (by rw [e2, hc13]), HSL.out]; simp [errN] : R = _)
                          clear hc e2 h3 hrl hr2 hr2l hml1 hml2 hal haf hacc hakk h2 hzM hl h45 h13
                          go_wp2
                          refine bodyPost_ret (v := .tuple #[.slice (some ⟨w.heap.size, 0, none⟩) 0 0, .int .i64 (s.size : Int), .int .i64 154]) (by simp [results, Tryz.results6, go_sem]; try rfl) rfl ?_
                          rw [HQ3.out]
                          exact ⟨_, rfl, own_none (Nat.le_refl _) HN.out, HB.out⟩
                        · have hbb : ¬ byt s (a + mk.length + 2) = 13 := by
                            rw [hc]
                            intro h
                            apply hc13
                            apply UInt8.toNat.inj
                            show c.toNat = 13
                            omega
                          have hb3 : (byt s (a + mk.length + 2) == 13) = false := by simpa using hbb
                          have HQ3 : Hid (R = ([], (a : Int) + (mk.length : Int), 151)) := (by rw [HQ2.out, tk_bnd1 l a mk.length true r HRr.out rfl h45 (by rw [h13]; simp [h2]) (by rw [e2]; simp [hc13])]; simp [errN] : R = _)
                          clear hc e2 h3 hrl hr2 hr2l hml1 hml2 hal haf hacc hakk h2 hzM hl h45 h13
                          go_wp2
                          refine bodyPost_ret (v := .tuple #[.slice (some ⟨w.heap.size, 0, none⟩) 0 0, .int .i64 ((a : Int) + (mk.length : Int)), .int .i64 151]) (by simp [results, Tryz.results6, go_sem]; try rfl) rfl ?_
                          rw [HQ3.out]
                          exact ⟨_, rfl, own_none (Nat.le_refl _) HN.out, HB.out⟩
                      · have h3' : ¬ (a : Int) + (mk.length : Int) + 3 = (s.size : Int) := by omega
                        have h3b : ((a : Int) + (mk.length : Int) + 3 == (s.size : Int)) = false := by simpa using h3'
                        have HQ3 : Hid (R = ([], (a : Int) + (mk.length : Int), 151)) := (by rw [HQ2.out, tk_bnd1 l a mk.length true r HRr.out rfl h45 (by rw [h13]; simp [h2]) (by intro h; rw [h] at h3; exact h3 rfl)]; simp [errN] : R = _)
                        clear e2
                        go_wp2
                        refine bodyPost_ret (v := .tuple #[.slice (some ⟨w.heap.size, 0, none⟩) 0 0, .int .i64 ((a : Int) + (mk.length : Int)), .int .i64 151]) (by simp [results, Tryz.results6, go_sem]; try rfl) rfl ?_
                        rw [HQ3.out]
                        exact ⟨_, rfl, own_none (Nat.le_refl _) HN.out, HB.out⟩
                | false =>
                  have hnD : ¬ (decide (0 < acc.length) = true ∧ Lib.hasPrefix r [45, 45] = true) := by
                    rintro ⟨h1, h2⟩
                    rw [h1, h2] at hD
                    cases hD
                  clear hD
                  have HND : Hid (¬ (decide (0 < acc.length) = true ∧ Lib.hasPrefix r [45, 45] = true)) := hnD
                  clear hnD
                  have HK1 : Hid _ := tk_ok l a mk.length (decide (0 < acc.length)) r HRr.out
                  have HK2 : Hid _ := tk_shut2 l a mk.length (decide (0 < acc.length)) r HRr.out HND.out
                  have HK3 : Hid _ := tk_bnd2 l a mk.length (decide (0 < acc.length)) r HRr.out HND.out
                  have HKI : Hid _ := tkP_in l a mk.length (decide (0 < acc.length)) (by rw [HSL.out]; exact hal)
                  have hTr := trimL_len r
                  go_wp2_with fail
                  refine HTl.out.mono ?_
                  rintro e w' ⟨rfl, hwe⟩
                  rw [hwe]
                  clear hwe HTl
                  generalize tailR r = T at *
                  obtain ⟨tn, ts⟩ := T
                  dsimp only at HK1 HK2 HK3 ⊢
                  go_upto_region 21 with fail
                  go_cut [131] from 113 to 131 (fun c wx => c = .bool (decide (ts = true ∨ (0 < acc.length ∧ r = [45]))) ∧ wx = wc)
                  case first =>
                    cases ts with
                    | true =>
                      go_wp2
                      go_meet
                      case rel => exact ⟨by simp, rfl⟩
                    | false =>
                      by_cases hl : 0 < acc.length
                      · have hl' : (acc.length : Int) > 0 := by omega
                        have g0 : decide ((acc.length : Int) > 0) = true := decide_eq_true hl'
                        by_cases h1 : r.length = 1
                        · have h1' : (a : Int) + (mk.length : Int) + 1 = (s.size : Int) := by omega
                          obtain ⟨c, e2⟩ : ∃ c, r = [c] := by
                            match r, h1 with
                            | [c], _ => exact ⟨c, rfl⟩
                          have hlt : a + mk.length < s.size := by omega
                          have hlt' : (a : Int) + (mk.length : Int) < (s.size : Int) := by omega
                          have hlt0 : (0 : Int) ≤ (a : Int) + (mk.length : Int) := by omega
                          have hltn : ((a : Int) + (mk.length : Int)).toNat = a + mk.length := by omega
                          have hby : ((s[a + mk.length].toNat : Nat) : Int) = byt s (a + mk.length) := byt_at s (a + mk.length) hlt
                          obtain ⟨g1, g2⟩ := HG.out (a + mk.length) hlt
                          rw [HRr.out, e2] at g2
                          injection g2 with g2 g3
                          have hc : byt s (a + mk.length) = (c.toNat : Int) := by rw [g1, ← g2]
                          clear g1 g2 g3
                          by_cases hc45 : c = 45
                          · have hbb : byt s (a + mk.length) = 45 := by rw [hc, hc45]; rfl
                            have hb3 : (byt s (a + mk.length) == 45) = true := by simpa using hbb
                            clear hc h1 hrl hml1 hml2 hal haf hacc hakk hzM hTr
                            go_wp2
                            go_meet
                            case rel => exact ⟨by rw [decide_eq_true (.inr ⟨hl, by rw [e2, hc45]⟩)], rfl⟩
                          · have hbb : ¬ byt s (a + mk.length) = 45 := by
                              rw [hc]
                              intro h
                              apply hc45
                              apply UInt8.toNat.inj
                              show c.toNat = 45
                              omega
                            have hb3 : (byt s (a + mk.length) == 45) = false := by simpa using hbb
                            clear hc h1 hrl hml1 hml2 hal haf hacc hakk hzM hTr
                            go_wp2
                            go_meet
                            case rel => exact ⟨by rw [decide_eq_false (by rintro (h | ⟨_, h⟩); cases h; rw [e2] at h; injection h with h; exact hc45 h)], rfl⟩
                        · have h1' : ¬ (a : Int) + (mk.length : Int) + 1 = (s.size : Int) := by omega
                          have h1b : ((a : Int) + (mk.length : Int) + 1 == (s.size : Int)) = false := by simpa using h1'
                          clear hrl hml1 hml2 hal haf hacc hakk hzM hTr
                          go_wp2
                          go_meet
                          case rel => exact ⟨by rw [decide_eq_false (by rintro (h | ⟨_, h⟩); cases h; rw [h] at h1; exact h1 rfl)], rfl⟩
                      · have hl' : ¬ (acc.length : Int) > 0 := by omega
                        have g0 : decide ((acc.length : Int) > 0) = false := decide_eq_false hl'
                        go_wp2
                        go_meet
                        case rel => exact ⟨by rw [decide_eq_false (by rintro (h | ⟨h, _⟩); cases h; exact hl h)], rfl⟩
                  case rest =>
                    obtain ⟨rfl, rfl⟩ := hcut
                    by_cases hSH : ts = true ∨ (0 < acc.length ∧ r = [45])
                    · rw [decide_eq_true hSH]
                      have HQ3 : Hid (R = ([], (s.size : Int), 154)) := (by rw [HQ2.out, HK2.out (hSH.imp id (fun h => ⟨decide_eq_true h.1, h.2⟩)), HSL.out]; simp [errN] : R = _)
                      go_wp2
                      refine bodyPost_ret (v := .tuple #[.slice (some ⟨w.heap.size, 0, none⟩) 0 0, .int .i64 (s.size : Int), .int .i64 154]) (by simp [results, Tryz.results6, go_sem]; try rfl) rfl ?_
                      rw [HQ3.out]
                      exact ⟨_, rfl, own_none (Nat.le_refl _) HN.out, HB.out⟩
                    · rw [decide_eq_false hSH]
                      have htf : ts = false := by
                        cases ts with
                        | false => rfl
                        | true => exact absurd (.inl rfl) hSH
                      subst htf
                      by_cases htn : tn < 0
                      · have htb : decide (tn < 0) = true := decide_eq_true htn
                        have HQ3 : Hid (R = ([], (a : Int) + (mk.length : Int), 151)) := (by rw [HQ2.out, HK3.out rfl htn (fun h => hSH (.inr ⟨of_decide_eq_true h.1, h.2⟩))]; simp [errN] : R = _)
                        go_wp2
                        refine bodyPost_ret (v := .tuple #[.slice (some ⟨w.heap.size, 0, none⟩) 0 0, .int .i64 ((a : Int) + (mk.length : Int)), .int .i64 151]) (by simp [results, Tryz.results6, go_sem]; try rfl) rfl ?_
                        rw [HQ3.out]
                        exact ⟨_, rfl, own_none (Nat.le_refl _) HN.out, HB.out⟩
                      · have htb : decide (tn < 0) = false := decide_eq_false htn
                        obtain ⟨hk1, hk2⟩ := HK1.out rfl (by omega)
                        have hki := HKI.out (by rw [hk1]) (by rw [hk1])
                        rw [hk1] at HQ2 hki
                        dsimp only at hki hk2
                        obtain ⟨hki1, hki2⟩ := hki
                        rw [HSL.out] at hki2 hk1
                        have HQ3 : Hid (R = _) := HQ2.out.trans (by rw [if_neg (by simp), if_neg (by simp), HSL.out])
                        rw [HSL.out] at hki1
                        clear HQ2 HK1 HK2 HK3 HKI hk1 hSH HND
                        by_cases hge : acc.length = kk
                        · have hge' : (acc.length : Int) ≥ (kk : Int) := by omega
                          have hgeb : decide ((acc.length : Int) ≥ (kk : Int)) = true := decide_eq_true hge'
                          have HQ4 : Hid (R = ([], (a : Int), 153)) := (by rw [HQ3.out, if_pos hge]; simp [errN] : R = _)
                          go_wp2
                          refine bodyPost_ret (v := .tuple #[.slice (some ⟨w.heap.size, 0, none⟩) 0 0, .int .i64 (a : Int), .int .i64 153]) (by simp [results, Tryz.results6, go_sem]; try rfl) rfl ?_
                          rw [HQ4.out]
                          exact ⟨_, rfl, own_none (Nat.le_refl _) HN.out, HB.out⟩
                        · have hge' : ¬ (acc.length : Int) ≥ (kk : Int) := by omega
                          have hgeb : decide ((acc.length : Int) ≥ (kk : Int)) = false := decide_eq_false hge'
                          have HQ4 : Hid (R = _) := HQ3.out.trans (by rw [if_neg hge])
                          clear HQ3
                          obtain ⟨a2, ha2⟩ : ∃ a2, a2 = s.size - (trimL r).length + 2 := ⟨_, rfl⟩
                          rw [← ha2] at HQ4 hki1 hki2
                          have hat : (a : Int) + (mk.length : Int) + tn = (a2 : Int) := by omega
                          have HAT : Hid ((a : Int) + (mk.length : Int) + tn = (a2 : Int)) := hat
                          clear ha2 hk2 hTr hrl htn
                          obtain ⟨wb, hwb⟩ : ∃ wb, wb = wc := ⟨_, rfl⟩
                          subst hwb
                          have hnw : w.heap.size < wb.heap.size := (Array.getElem?_eq_some_iff.1 HN.out).1
                          obtain ⟨w5, hw5⟩ : ∃ w5, w5 = wb.alloc (.cells #[.string ⟨#[]⟩, .string ⟨#[]⟩, .string ⟨#[]⟩, .string ⟨#[]⟩, .bool false] 62) := ⟨_, rfl⟩
                          have hb5 : Below wb.heap.size wb w5 := by rw [hw5]; exact (Below.refl _ wb).alloc (Nat.le_refl _) _
                          have HP5 : Hid (PD w5 wb.heap.size Pt.p0) := (by rw [hw5]; exact heap_alloc_new wb _ : PD _ _ _)
                          have HN5 : Hid (w5.heap[w.heap.size]? = some (.cells #[] 62 (0, 0))) := ((hb5.block _ hnw).trans HN.out : _ = _)
                          have HB5 : Hid (Below w.heap.size w w5) := HB.out.trans (hb5.mono HB.out.size)
                          have hs5 : w5.heap.size = wb.heap.size + 1 := by rw [hw5]; simp
                          have HBc5 : Hid (Below wb.heap.size wb w5) := hb5
                          clear hb5 HN HB
                          obtain ⟨F, HF0⟩ : ∃ F, Hid (F = fdsP l a2) := ⟨_, rfl⟩
                          have HF : Hid (fldP l.length (lnsR (l.drop a2) a2) Pt.p0 false false = F) := (by rw [HF0.out]; rfl : _ = _)
                          have HPF : Hid (PF l mk kk f acc F R) := PF.mk' HF0.out HQ4.out
                          clear HQ4 HF0
                          go_wp2_with fail
                          rw [← hw5]
                          clear hw5
                          go_loopw [11, 17, 18] (fun cv dv tv wq => ∃ (c : Nat) (x : Pt.P5) (d t : Bool), cv = .int .i64 (c : Int) ∧ c ≤ s.size ∧ a2 ≤ c ∧ dv = .bool d ∧ tv = .bool t ∧ Hid (fldP l.length (lnsR (l.drop c) c) x d t = F) ∧ Hid (PD wq wb.heap.size x) ∧ Hid (Chg wb.heap.size w5 wq)) (fun cv _ _ _ => s.size + 1 - (intOf cv).toNat)
                          case atStart => exact ⟨a2, Pt.p0, false, false, rfl, hki2, Nat.le_refl _, rfl, rfl, HF, HP5, Chg.refl _ _⟩
                          case round =>
                            clear HF HP5 hat htb hgeb hge'
                            obtain ⟨c, x, d, t, rfl, hc1, hc2, rfl, rfl, HFc, HPc, HCc⟩ := hrel
                            have hsq : wb.heap.size + 1 ≤ wr.heap.size := by have := HCc.out.size; omega
                            have HNq : Hid (wr.heap[w.heap.size]? = some (.cells #[] 62 (0, 0))) := ((HCc.out.block _ (by omega) (by omega)).trans HN5.out : _ = _)
                            have HBcq : Hid (Below wb.heap.size wb wr) := HBc5.out.trans (HCc.out.below (Nat.le_refl _) (by omega))
                            have HBq : Hid (Below w.heap.size w wr) := HB5.out.trans (HCc.out.below (by omega) (by omega))
                            go_wp2_with fail
                            go_loopw [19] (fun sv wz => ∃ j : Nat, sv = .int .i64 ((c : Int) + (j : Int)) ∧ c + j ≤ s.size ∧ Hid (Lib.NoOcc (l.drop c) [13, 10] j) ∧ wz = wr) (fun sv _ => s.size + 1 - (intOf sv).toNat)
                            case atStart => exact ⟨0, by simp, by omega, noOcc_zero _ _, rfl⟩
                            case round =>
                              obtain ⟨j, rfl, hj, HNo, hz⟩ := hrel
                              subst hz
                              by_cases hlt : c + j < s.size
                              · have hlt' : (c : Int) + (j : Int) < (s.size : Int) := by omega
                                have HSt : Hid (∀ W, Calls Tryz.prog 21 #[.string s, .int .i64 ((c : Int) + (j : Int)), .string ⟨#[13, 10]⟩] W fun e w' => e = .returned (.bool (Lib.hasPrefix (l.drop (c + j)) [13, 10])) ∧ w' = W) := fun W => HS1.out (c + j) W (by omega)
                                cases hb : Lib.hasPrefix (l.drop (c + j)) [13, 10] with
                                | false =>
                                  rw [hb] at HSt
                                  have HNo2 : Hid (Lib.NoOcc (l.drop c) [13, 10] (j + 1)) := noOcc_succ HNo.out (by rw [occ_drop]; exact hb)
                                  clear hb HNo
                                  go_wp2_with fail
                                  refine (HSt.out _).mono ?_
                                  rintro e w' ⟨rfl, hwe⟩
                                  rw [hwe]
                                  clear hwe
                                  go_wp2
                                  go_roundw
                                  case rel => exact ⟨j + 1, congrArg (Value.int .i64) (by omega), by omega, HNo2, by first | trivial | rfl⟩
                                  case measure => simp [intOf]; omega
                                | true =>
                                  rw [hb] at HSt
                                  have HFs : Hid (F = _) := HFc.out.symm.trans ((fld_step HNo.out (by rw [HSL.out]; omega) (by rw [HSL.out]; omega) hb x d t).trans (by rw [fldP]))
                                  have hb2 : c + j + 2 ≤ s.size := by
                                    have := (List.isPrefixOf_iff_prefix.1 hb).length_le
                                    rw [List.length_drop, HSL.out] at this
                                    simp at this
                                    omega
                                  have hne : ¬ (c : Int) + (j : Int) = (s.size : Int) := by omega
                                  have hneb : ((c : Int) + (j : Int) == (s.size : Int)) = false := by simpa using hne
                                  clear HFc HNo hb
                                  go_wp2_with fail
                                  refine (HSt.out _).mono ?_
                                  rintro e w' ⟨rfl, hwe⟩
                                  rw [hwe]
                                  clear hwe HSt
                                  by_cases hj0 : j = 0
                                  · subst hj0
                                    have hneb2 : ((c : Int) == (s.size : Int)) = false := by simpa using hne
                                    clear hne hneb
                                    cases d with
                                    | false =>
                                      have HQ5 : Hid (R = ([], (c : Int), 152)) := HPF.out.h1 ((c : Int), 152) (by rw [HFs.out]; simp [takP])
                                      clear HFs
                                      go_wp2
                                      refine bodyPost_ret (v := .tuple #[.slice (some ⟨w.heap.size, 0, none⟩) 0 0, .int .i64 (c : Int), .int .i64 152]) (by simp [results, Tryz.results6, go_sem]; try rfl) rfl ?_
                                      rw [HQ5.out]
                                      exact ⟨_, rfl, own_none (Nat.le_refl _) HNq.out, HBq.out⟩
                                    | true =>
                                      have HFv : Hid (F = (x, none, c + 2)) := (by rw [HFs.out]; simp [takP] : F = _)
                                      have HSf : Hid (∀ W, Calls Tryz.prog 21 #[.string s, .int .i64 ((c : Int) + 2), .string SM] W fun e w' => e = .returned (.bool (Lib.hasPrefix (l.drop (c + 2)) mk)) ∧ w' = W) := fun W => HSm.out (c + 2) W (by omega)
                                      clear HFs
                                      go_wp2_with fail
                                      refine (HSf.out _).mono ?_
                                      rintro e w' ⟨rfl, hwe⟩
                                      rw [hwe]
                                      clear hwe HSf
                                      cases hpm : Lib.hasPrefix (l.drop (c + 2)) mk with
                                      | true =>
                                        have HQ5 : Hid (R = ([], (c : Int) + 2, 152)) := HPF.out.h2 x (c + 2) HFv.out hpm
                                        clear HFv
                                        go_wp2
                                        refine bodyPost_ret (v := .tuple #[.slice (some ⟨w.heap.size, 0, none⟩) 0 0, .int .i64 ((c : Int) + 2), .int .i64 152]) (by simp [results, Tryz.results6, go_sem]; try rfl) rfl ?_
                                        rw [HQ5.out]
                                        exact ⟨_, rfl, own_none (Nat.le_refl _) HNq.out, HBq.out⟩
                                      | false =>
                                        have hz2 : (⟨#[13, 10]⟩ : ByteArray).size = 2 := rfl
                                        have had : ¬ (9223372036854775807 < 2 + mk.length) := by omega
                                        go_wp2_with fail
                                        go_loopw [25] (fun sv wz => ∃ i : Nat, sv = .int .i64 ((c : Int) + 2 + (i : Int)) ∧ c + 2 + i ≤ s.size ∧ Hid (Lib.NoOcc (l.drop (c + 2)) ([13, 10] ++ mk) i) ∧ wz = wr) (fun sv _ => s.size + 1 - (intOf sv).toNat)
                                        case atStart => exact ⟨0, by simp, by omega, noOcc_zero _ _, rfl⟩
                                        case round =>
                                          obtain ⟨i, rfl, hi, HNi, hz⟩ := hrel
                                          subst hz
                                          by_cases hlt2 : c + 2 + i < s.size
                                          · have hlt2' : (c : Int) + 2 + (i : Int) < (s.size : Int) := by omega
                                            have HSg : Hid (∀ W, Calls Tryz.prog 21 #[.string s, .int .i64 ((c : Int) + 2 + (i : Int)), .string (⟨#[13, 10]⟩ ++ SM)] W fun e w' => e = .returned (.bool (Lib.hasPrefix (l.drop (c + 2 + i)) ([13, 10] ++ mk))) ∧ w' = W) := fun W => by
                                              have := HS3.out (c + 2 + i) ([13, 10] ++ mk) W (by simp; omega) (by omega)
                                              rw [show (⟨#[13, 10]⟩ : ByteArray) ++ SM = str ([13, 10] ++ mk) by rw [HSM.out]; apply eq_list; simp [str]]
                                              exact this
                                            cases hbi : Lib.hasPrefix (l.drop (c + 2 + i)) ([13, 10] ++ mk) with
                                            | false =>
                                              rw [hbi] at HSg
                                              have HNi2 : Hid (Lib.NoOcc (l.drop (c + 2)) ([13, 10] ++ mk) (i + 1)) := noOcc_succ HNi.out (by rw [occ_drop]; exact hbi)
                                              clear hbi HNi
                                              go_wp2_with fail
                                              refine (HSg.out _).mono ?_
                                              rintro e w' ⟨rfl, hwe⟩
                                              rw [hwe]
                                              clear hwe
                                              go_wp2
                                              go_roundw
                                              case rel => exact ⟨i + 1, congrArg (Value.int .i64) (by omega), by omega, HNi2, by first | trivial | rfl⟩
                                              case measure => simp [intOf]; omega
                                            | true =>
                                              rw [hbi] at HSg
                                              have hby := byt_hit (l := l) (mk := mk) (f := c + 2) (j := i) HNi.out (by rw [HSL.out]; omega) (by rw [HSL.out]; omega) hbi l.length
                                              have hbl : c + 2 + i + (2 + mk.length) ≤ s.size := by
                                                have := (List.isPrefixOf_iff_prefix.1 hbi).length_le
                                                rw [List.length_drop, HSL.out] at this
                                                simp at this
                                                omega
                                              have HQ5 : Hid (R = ((prsP l mk kk f (acc ++ [{ x with b := (l.drop (c + 2)).take i }]) (c + 2 + (i + 2))).1, errN (prsP l mk kk f (acc ++ [{ x with b := (l.drop (c + 2)).take i }]) (c + 2 + (i + 2))).2)) := HPF.out.h4 x (c + 2) i HFv.out hpm hby
                                              have hex := HEx.out (c + 2) i
                                              have HEXx : Hid (s.extract (c + 2) (c + 2 + i) = str ((l.drop (c + 2)).take i)) := hex
                                              clear hby hbi HNi HFv hpm hex
                                              have hne2 : ¬ (c : Int) + 2 + (i : Int) = (s.size : Int) := by omega
                                              have hneb3 : ((c : Int) + 2 + (i : Int) == (s.size : Int)) = false := by simpa using hne2
                                              go_wp2_with fail
                                              refine (HSg.out _).mono ?_
                                              rintro e w' ⟨rfl, hwe⟩
                                              rw [hwe]
                                              clear hwe HSg
                                              obtain ⟨e0, e1, e2, e3, e4⟩ := HPc.out.cells
                                              have zz3 := HPc.out.fz 3
                                              have hex := HEXx.out
                                              obtain ⟨BD, hBD⟩ : ∃ BD, BD = (l.drop (c + 2)).take i := ⟨_, rfl⟩
                                              rw [← hBD] at HQ5 hex
                                              clear hBD HEXx
                                              obtain ⟨w7, hw7⟩ : ∃ w7, w7 = wr.setCell ⟨wb.heap.size, 3, none⟩ (.string (str BD)) := ⟨_, rfl⟩
                                              have hbc7 : Below wb.heap.size wb w7 := by rw [hw7]; exact HBcq.out.setCell (p := ⟨wb.heap.size, 3, none⟩) (Nat.le_refl _) _
                                              have HP7 : Hid (PD w7 wb.heap.size { x with b := BD }) := (by rw [hw7]; exact HPc.out.setB BD : PD _ _ _)
                                              have HO7 : Hid (Pt.OwnT 62 (w.heap.size + 1) (.slice oa acc.length oc) acc w7) := HOw.out.below hbc7
                                              have HN7 : Hid (w7.heap[w.heap.size]? = some (.cells #[] 62 (0, 0))) := (by rw [hw7]; exact (set_other _ _ _ _ _ (by omega)).trans HNq.out : _ = _)
                                              have HB7 : Hid (Below w.heap.size w w7) := (by rw [hw7]; exact HBq.out.setCell (p := ⟨wb.heap.size, 3, none⟩) (Nat.le_of_lt hnw) _ : Below _ _ _)
                                              have HZ7 : Hid (w.heap.size + 1 ≤ w7.heap.size) := (by rw [hw7, set_size]; omega : _ ≤ _)
                                              have HA5 : Hid (acc.length + 1 ≤ 1073741824) := (by omega : _ ≤ _)
                                              have HAR : Hid (c + 2 + (i + 2) + mk.length ≤ s.size ∧ (∃ f', f = f' + 1 ∧ s.size ≤ c + 2 + (i + 2) + f') ∧ acc.length + 1 ≤ c + 2 + (i + 2) ∧ acc.length + 1 ≤ kk ∧ a < c + 2 + (i + 2)) := ⟨by omega, ⟨f - 1, by omega, by omega⟩, by omega, by omega, by omega⟩
                                              clear hbc7 HPF HOw HBq HNq HCc HPc HB5 HN5 HBc5 HBcq HS1 HS2 HS3 HSm HTa HFi HEx HG HSL HMo HSM hzM hml1 hml2 hal haf hacc hakk hki1 hki2 hc1 hc2 hj hlt hlt' hlt2 hb2 hge hz2 had hneb2 hbl hal'
                                              have hx1 : (0 : Int) ≤ (c : Int) + 2 := by omega
                                              have hx2 : (c : Int) + 2 ≤ (c : Int) + 2 + (i : Int) := by omega
                                              have hx3 : (c : Int) + 2 + (i : Int) ≤ (s.size : Int) := by omega
                                              have hx4 : ((c : Int) + 2).toNat = c + 2 := by omega
                                              have hx5 : ((c : Int) + 2 + (i : Int)).toNat = c + 2 + i := by omega
                                              go_upto_region 51 with fail
                                              rw [← hw7]
                                              clear hw7 e0 e1 e2 e3 e4 zz3 hx1 hx2 hx3 hx4 hx5 hex hne2 hneb3
                                              have hu1 : (c : Int) + 2 + (i : Int) + 2 ≤ 9223372036854775807 := by omega
                                              have hu0 : (-9223372036854775808 : Int) ≤ (c : Int) + 2 + (i : Int) + 2 := by omega
                                              have q0 : w7.cell? ⟨wb.heap.size, 0, none⟩ = some (.string (str x.n)) := HP7.out.cells.1
                                              have q1 : w7.cell? ⟨wb.heap.size, 1, none⟩ = some (.string (str x.f)) := HP7.out.cells.2.1
                                              have q2 : w7.cell? ⟨wb.heap.size, 2, none⟩ = some (.string (str x.m)) := HP7.out.cells.2.2.1
                                              have q3 : w7.cell? ⟨wb.heap.size, 3, none⟩ = some (.string (str BD)) := HP7.out.cells.2.2.2.1
                                              have q4 : w7.cell? ⟨wb.heap.size, 4, none⟩ = some (.bool x.h) := HP7.out.cells.2.2.2.2
                                              go_wp2_with (at_builtin; go_must (refine wp_appT 62 29 Pt.infoT2 Tryz.underlying29 rfl (.tmp 234) (.tmp 236) rfl (w.heap.size + 1) _ acc _ { x with b := BD } (by simp [Act.eval, Act.put]) HO7.out _ (by simp [Act.eval, Act.put]) rfl HA5.out HZ7.out ?_; intro v6 w6 hO6 hb6))
                                              have HN6 : Hid (w6.heap[w.heap.size]? = some (.cells #[] 62 (0, 0))) := ((hb6.block _ (by omega)).trans HN7.out : _ = _)
                                              have HB6 : Hid (Below w.heap.size w w6) := HB7.out.trans (hb6.mono (by omega))
                                              have HO6 : Hid (Pt.OwnT 62 (w.heap.size + 1) v6 (acc ++ [{ x with b := BD }]) w6) := hO6
                                              clear hO6 hb6 HN7 HB7 HO7 HP7 q0 q1 q2 q3 q4
                                              obtain ⟨ac2, hac2⟩ : ∃ ac2, ac2 = acc ++ [{ x with b := BD }] := ⟨_, rfl⟩
                                              obtain ⟨a9, ha9⟩ : ∃ a9, a9 = c + 2 + (i + 2) := ⟨_, rfl⟩
                                              rw [← hac2] at HQ5 HO6
                                              rw [← ha9] at HQ5 HAR
                                              have HL2 : Hid (ac2.length = acc.length + 1) := (by rw [hac2, List.length_append]; rfl : _ = _)
                                              have HA9 : Hid ((c : Int) + 2 + (i : Int) + 2 = (a9 : Int)) := (by omega : _ = _)
                                              clear hac2 ha9
                                              go_wp2
                                              refine ⟨⟨_, _, _, _, _, _, _, _, _, _, _, _, _, _, _, _, _, _, _, _, _, _, _, _, _, _, _, _, _, _, _, _, _, _, _, _, _, _, _, _, _, _, _, _, _, _, _, _, _, _, _, _, _, _, _, _, _, _, _, _, _, _, _, _, _, _, _, _, _, _, _, _, _, _, _, _, _, _, _, _, _, _, _, _, _, _, _, _, _, _, _, _, _, _, _, _, _, _, _, _, _, _, _, _, _, _, _, _, _, _, _, _, _, _, _, _, _, _, _, _, _, _, _, _, _, _, _, _, _, _, _, _, _, _, _, _, _, _, _, _, _, _, _, _, _, _, _, _, _, _, _, _, _, _, _, _, _, _, _, _, _, _, _, _, _, _, _, _, _, _, _, _, _, _, _, _, _, _, _, _, _, _, _, _, _, _, _, _, _, _, _, _, ?rel, rfl⟩, ?measure⟩
                                              case rel =>
                                                obtain ⟨r1, ⟨f', hf', r2⟩, r3, r4, r5⟩ := HAR.out
                                                subst hf'
                                                refine ⟨a9, f', ac2, ?_, r1, r2, ?_, ?_, HQ5, HO6, HN6, HB6⟩
                                                · rw [HA9.out]
                                                · rw [HL2.out]; exact r3
                                                · rw [HL2.out]; exact r4
                                              case measure =>
                                                obtain ⟨r1, _, r3, r4, r5⟩ := HAR.out
                                                rw [HA9.out]
                                                simp [intOf]
                                                omega
                                          · have hge4 : ¬ (c : Int) + 2 + (i : Int) < (s.size : Int) := by omega
                                            have heq4 : (c : Int) + 2 + (i : Int) = (s.size : Int) := by omega
                                            have HQ5 : Hid (R = ([], (s.size : Int), 154)) := (by
                                              have h0 := byt_past (l := l) (mk := mk) (f := c + 2) (by rw [HSL.out, show s.size - (c + 2) = i by omega]; exact HNi.out) l.length
                                              have := HPF.out.h3 x (c + 2) _ HFv.out hpm h0
                                              rw [HSL.out] at this
                                              exact this : R = _)
                                            clear HNi HFv
                                            go_wp2
                                            refine bodyPost_ret (v := .tuple #[.slice (some ⟨w.heap.size, 0, none⟩) 0 0, .int .i64 (s.size : Int), .int .i64 154]) (by simp [results, Tryz.results6, go_sem]; try rfl) rfl ?_
                                            rw [HQ5.out]
                                            exact ⟨_, rfl, own_none (Nat.le_refl _) HNq.out, HBq.out⟩
                                  · have hz0 : ¬ (c : Int) + (j : Int) = (c : Int) := by omega
                                    have hz1 : ((c : Int) + (j : Int) == (c : Int)) = false := by simpa using hz0
                                    have hln : ((l.drop c).take j).length = j := by rw [List.length_take, List.length_drop, HSL.out]; omega
                                    have hlne : (l.drop c).take j ≠ [] := fun h => by rw [h] at hln; exact hj0 hln.symm
                                    have HFl : Hid (∀ W, Calls Tryz.prog 23 #[aggP x, .bool d, .bool t, .string (str ((l.drop c).take j))] W fun e w' => FQ (takP ((l.drop c).take j) x d t) e ∧ Below (World.heap W).size W w') := fun W => HFi.out x d t _ W hlne (by rw [hln]; omega)
                                    unfold aggP at HFl
                                    have hex := HEx.out c j
                                    have HFt : Hid (F = _) := HFs.out.trans (by rw [if_neg hlne])
                                    generalize (l.drop c).take j = ln at *
                                    generalize takP ln x d t = TP at *
                                    obtain ⟨e0, e1, e2, e3, e4⟩ := HPc.out.cells
                                    have f0 : wr.drew.cell? ⟨wb.heap.size, 0, none⟩ = _ := e0
                                    have f1 : wr.drew.cell? ⟨wb.heap.size, 1, none⟩ = _ := e1
                                    have f2 : wr.drew.cell? ⟨wb.heap.size, 2, none⟩ = _ := e2
                                    have f3 : wr.drew.cell? ⟨wb.heap.size, 3, none⟩ = _ := e3
                                    have f4 : wr.drew.cell? ⟨wb.heap.size, 4, none⟩ = _ := e4
                                    have hpb : wb.heap.size < wr.heap.size := by omega
                                    have hx1 : (0 : Int) ≤ (c : Int) := by omega
                                    have hx2 : (c : Int) ≤ (c : Int) + (j : Int) := by omega
                                    have hx3 : (c : Int) + (j : Int) ≤ (s.size : Int) := by omega
                                    have hx4 : ((c : Int) + (j : Int)).toNat = c + j := by omega
                                    go_upto_region 35 with fail
                                    go_cut [20, 21, 22, 23] from 172 to 184 (fun v20 v21 v22 v23 wx => R35 TP wr v20 v21 v22 v23 wx)
                                    case first =>
                                      go_region_with (go_at_call 23; refine (HFl.out _).mono ?_; rintro e w8 ⟨⟨y, d', t', rfl, hy⟩, hb8⟩; unfold aggP; try (have pz : PD w8 wr.heap.size Pt.p0 := (hb8.block _ (by simp)).trans (heap_alloc_new wr _); obtain ⟨y0, y1, y2, y3, y4⟩ := pz.cells; have yz0 := pz.fz 0; have yz1 := pz.fz 1; have yz2 := pz.fz 2; have yz3 := pz.fz 3; have yz4 := pz.fz 4))
                                      all_goals go_wp2
                                      all_goals go_meet
                                      · exact ⟨_, y, d', t', rfl, rfl, rfl, rfl, hy, heap_alloc_new w8 _, hb8.size, ((Below.refl wr.heap.size wr).drew.trans (hb8.mono (Nat.le_of_eq rfl))).alloc hb8.size _⟩
                                      · exact r35_put hy hb8 pz
                                      · exact r35_put hy hb8 pz
                                    case rest =>
                                      obtain ⟨b20, y, d', t', rfl, rfl, rfl, rfl, hy, hpd, hb20, hbw⟩ := hcut
                                      have HPw : Hid (PD wc wb.heap.size x) := HPc.out.below hbw
                                      have HCw : Hid (Chg wb.heap.size w5 wc) := HCc.out.bel hbw
                                      have HNw : Hid (wc.heap[w.heap.size]? = some (.cells #[] 62 (0, 0))) := ((hbw.block _ (by omega)).trans HNq.out : _ = _)
                                      have HBw : Hid (Below w.heap.size w wc) := HBq.out.trans (hbw.mono (by omega))
                                      have HPy : Hid (PD wc b20 y) := hpd
                                      clear hpd hbw e0 e1 e2 e3 e4 f0 f1 f2 f3 f4 HPc HCc HNq HBq hx1 hx2 hx3 hx4 hex
                                      by_cases hte : TP.1 = 0
                                      · have hTP := hy hte
                                        have HFu : Hid (fldP l.length (lnsR (l.drop (c + j + 2)) (c + j + 2)) y d' t' = F) := (by rw [HFt.out, if_neg (by simp [hte]), hTP] : _ = _)
                                        clear HFt HFs hy
                                        obtain ⟨q0, q1, q2, q3, q4⟩ := HPy.out.cells
                                        obtain ⟨e0, e1, e2, e3, e4⟩ := HPw.out.cells
                                        have z0 := HPw.out.fz 0
                                        have z1 := HPw.out.fz 1
                                        have z2 := HPw.out.fz 2
                                        have z3 := HPw.out.fz 3
                                        have z4 := HPw.out.fz 4
                                        have hnb : b20 ≠ wb.heap.size := by omega
                                        have hnb' : wb.heap.size ≠ b20 := by omega
                                        have hteb : (TP.1 != 0) = false := by simp [hte]
                                        go_wp2
                                        go_roundw
                                        case rel =>
                                          refine ⟨c + j + 2, y, d', t', congrArg (Value.int .i64) (by omega), by omega, by omega, rfl, rfl, HFu, ?_, ?_⟩
                                          · exact (HPw.out.put y : PD _ _ _)
                                          · exact (((((HCw.out.set 0 _).set 1 _).set 2 _).set 3 _).set 4 _ : Chg _ _ _)
                                        case measure => simp [intOf]; omega
                                      · have HQ5 : Hid (R = ([], (c : Int), TP.1)) := HPF.out.h1 ((c : Int), TP.1) (by rw [HFt.out, if_pos hte])
                                        have hteb : (TP.1 != 0) = true := by simpa using hte
                                        clear HFt HFs hy
                                        go_wp2
                                        refine bodyPost_ret (v := .tuple #[.slice (some ⟨w.heap.size, 0, none⟩) 0 0, .int .i64 (c : Int), .int .i64 TP.1]) (by simp [results, Tryz.results6, go_sem]; try rfl) rfl ?_
                                        rw [HQ5.out]
                                        exact ⟨_, rfl, own_none (Nat.le_refl _) HNw.out, HBw.out⟩
                              · have hge3 : ¬ (c : Int) + (j : Int) < (s.size : Int) := by omega
                                have heq3 : (c : Int) + (j : Int) = (s.size : Int) := by omega
                                have HQ5 : Hid (R = ([], (s.size : Int), 154)) := (by
                                  have := fld_end (l := l) (a := c) (by rw [HSL.out, show s.size - c = j by omega]; exact HNo.out) x d t
                                  rw [HFc.out] at this
                                  have := HPF.out.h1 ((l.length : Int), 154) (by rw [this])
                                  rw [HSL.out] at this
                                  exact this : R = _)
                                clear HFc HNo
                                go_wp2
                                refine bodyPost_ret (v := .tuple #[.slice (some ⟨w.heap.size, 0, none⟩) 0 0, .int .i64 (s.size : Int), .int .i64 154]) (by simp [results, Tryz.results6, go_sem]; try rfl) rfl ?_
                                rw [HQ5.out]
                                exact ⟨_, rfl, own_none (Nat.le_refl _) HNq.out, HBq.out⟩

end Sr
end Go.Proofs.YtlnlhhobmgiceaaGreatDoor
