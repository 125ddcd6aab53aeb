/- Several texts as one. -/
import Derived.Test.YtfpncbgedhodaaaDoorMgM
import Derived.Test.YtfpncbgedhodaaaDoorMgG
import Derived.Test.YtfpncbgedhodaaaDoorMgO
import Derived.Test.YtfpncbgedhodaaaDoorMgP
/-
  field.maybeHost, Host; the document's Host.
-/
set_option linter.unusedVariables false
set_option linter.unusedSimpArgs false
namespace Go.Proofs.YtfpncbgedhodaaaDoor
open Go.RowKit Go.Shelf
namespace Fd
open Oc Tg

def noH : List UInt8 := [34, 35, 47, 60, 62, 63, 64, 92]
def badH (c : UInt8) : Bool := decide ((c.toNat : Int) ≤ 32) || (decide (126 < (c.toNat : Int)) || has c noH)
def sHost : List UInt8 := [72, 111, 115, 116]
/-- What Host says. -/
def hostR (V : List (List UInt8)) (old : Bool) : List UInt8 × Bool × Int :=
  if V.length = 0 then (if old = true then ([], false, 0) else ([], false, 69))
  else if 1 < V.length then ([], false, 69)
  else if (V.getD 0 []).all (fun c => !badH c) = true then (V.getD 0 [], true, 0) else ([], false, 69)
theorem idx_no (c : UInt8) : decide (0 ≤ Lib.indexByte noH c) = has c noH := by
  have h : ∀ n : Nat, n < 256 → decide (0 ≤ Lib.indexByte noH (UInt8.ofNat n)) = has (UInt8.ofNat n) noH := by decide +kernel
  have := h c.toNat c.toNat_lt
  rwa [UInt8.ofNat_toNat] at this
theorem find_no (c : UInt8) : decide (0 ≤ findZ c noH) = has c noH := by
  unfold findZ
  cases has c noH with
  | true => simp
  | false => simp
theorem bad_some (l : List UInt8) (k : Nat) (hk : k < l.length) (h : badH (l.getD k 0) = true) : l.all (fun c => !badH c) = false := by
  rw [List.all_eq_false]
  refine ⟨l[k], List.getElem_mem _, ?_⟩
  rw [List.getD_eq_getElem?_getD, List.getElem?_eq_getElem hk] at h
  simp at h
  simp [h]
theorem bad_none (l : List UInt8) (h : ∀ j, j < l.length → badH (l.getD j 0) = false) : l.all (fun c => !badH c) = true := by
  rw [List.all_eq_true]
  intro x hx
  obtain ⟨k, hk, rfl⟩ := List.mem_iff_getElem.1 hx
  have := h k hk
  rw [List.getD_eq_getElem?_getD, List.getElem?_eq_getElem hk] at this
  simp at this
  simp [this]

set_option maxRecDepth 100000 in
set_option maxHeartbeats 2000000 in
theorem maybeHost_any (s : ByteArray) (hs : s.size ≤ 16777216) (w : World) :
    Calls Tryd.prog 44 #[.string s] w fun e w' => e = .returned (.bool (s.data.toList.all (fun c => !badH c))) ∧ Below w.heap.size w w' := by
  have hcv := fun w => Lib.run_convert_string_bytes (P := Tryd.prog) w 9 87 5 s Tryd.underlying9 Tryd.underlying87 Tryd.underlying5
  obtain ⟨w1, hw1⟩ : ∃ w1, w1 = Lib.bytesWorld w 5 s := ⟨_, rfl⟩
  have HB1 : Hid (Below w.heap.size w w1) := by rw [hw1]; exact below_bytes w 5 s
  have HC : Hid (∀ j, j < s.size → w1.cell? ⟨w.heap.size, j, none⟩ = some (.int .u8 (byt s j))) := fun j hj => by rw [hw1]; exact bytes_cell w 5 s j hj
  have HI : Hid (∀ (c : UInt8) W, Calls Tryd.prog 72 #[.string ⟨#[34, 35, 47, 60, 62, 63, 64, 92]⟩, .int .u8 (c.toNat : Int)] W fun e w' => e = .returned (.int .i64 (Lib.indexByte noH c)) ∧ w' = W) := fun c W => by
    have h := Tryd.strings_IndexByte ⟨#[34, 35, 47, 60, 62, 63, 64, 92]⟩ (c.toNat : Int) W
    rw [show ((c.toNat : Int).toNat.toUInt8) = c by simp] at h
    exact h
  have HY : Hid (∀ k, k < s.size → badH (s.data.toList.getD k 0) = true → s.data.toList.all (fun c => !badH c) = false) := fun k hk h => bad_some _ k (by rw [size_list]; exact hk) h
  have HN : Hid ((∀ j, j < s.size → badH (s.data.toList.getD j 0) = false) → s.data.toList.all (fun c => !badH c) = true) := fun h => bad_none _ (fun j hj => h j (by rw [size_list] at hj; exact hj))
  generalize s.data.toList.all (fun c => !badH c) = M at *
  go_enter Tryd.func44, Tryd.ntmps44
  go_wp2
  rw [← hw1]
  clear hw1 hcv
  go_loopw [8] (fun i wr => ∃ k : Nat, k ≤ s.size ∧ i = .int .i64 k ∧ Hid (∀ j, j < k → badH (s.data.toList.getD j 0) = false) ∧ w1 = wr) (fun i _ => s.size - (intOf i).toNat)
  case atStart => exact ⟨0, Nat.zero_le _, rfl, (fun j hj => absurd hj (Nat.not_lt_zero _) : ∀ j, j < 0 → _), rfl⟩
  case round =>
    obtain ⟨k, hk, rfl, hA, rfl⟩ := hrel
    by_cases hlt : k < s.size
    · have c0 := HC.out k hlt
      have HYk : Hid (badH (s.data.toList.getD k 0) = true → M = false) := HY.out k hlt
      have HAn : Hid (badH (s.data.toList.getD k 0) = false → ∀ j, j < k + 1 → badH (s.data.toList.getD j 0) = false) := fun h j hj => by
        by_cases e : j = k
        · rw [e]; exact h
        · exact hA.out j (by omega)
      obtain ⟨b0, b1⟩ := byt_bd s k
      have hbe : byt s k = ((s.data.toList.getD k 0).toNat : Int) := rfl
      rw [hbe] at c0 b0 b1
      have HIk : Hid (∀ W, _) := fun W => HI.out (s.data.toList.getD k 0) W
      have HBd : Hid (badH (s.data.toList.getD k 0) = (decide (((s.data.toList.getD k 0).toNat : Int) ≤ 32) || (decide (126 < ((s.data.toList.getD k 0).toNat : Int)) || decide (0 ≤ Lib.indexByte noH (s.data.toList.getD k 0))))) := (by rw [idx_no]; rfl : _ = _)
      generalize badH (s.data.toList.getD k 0) = BD at *
      generalize Lib.indexByte noH (s.data.toList.getD k 0) = IX at *
      generalize ((s.data.toList.getD k 0).toNat : Int) = C at *
      clear hbe
      by_cases h1 : C ≤ 32
      · have hM : Hid (M = false) := HYk.out (by rw [HBd.out]; simp [h1])
        go_wp2
        go_ret
        rw [hM.out]
        exact ⟨rfl, HB1.out⟩
      · by_cases h2 : 126 < C
        · have hM : Hid (M = false) := HYk.out (by rw [HBd.out]; simp [h2])
          go_wp2
          go_ret
          rw [hM.out]
          exact ⟨rfl, HB1.out⟩
        · go_wp2_with fail
          refine (HIk.out _).mono ?_
          rintro e w2 ⟨rfl, hw2⟩
          rw [hw2]
          clear hw2
          by_cases h3 : 0 ≤ IX
          · have hM : Hid (M = false) := HYk.out (by rw [HBd.out]; simp [h3])
            go_wp2
            go_ret
            rw [hM.out]
            exact ⟨rfl, HB1.out⟩
          · have HAk : Hid (∀ j, j < k + 1 → badH (s.data.toList.getD j 0) = false) := HAn.out (by rw [HBd.out]; simp [h1, h2, h3])
            go_wp2
            go_roundw
            case rel => exact ⟨k + 1, by omega, by go_num, HAk, by first | rfl | trivial⟩
            case measure => simp [intOf]; omega
    · obtain rfl : k = s.size := by omega
      have hM : Hid (M = true) := HN.out hA.out
      go_wp2
      go_ret
      rw [hM.out]
      exact ⟨rfl, HB1.out⟩

set_option maxRecDepth 100000 in
set_option maxHeartbeats 2000000 in
theorem Host_any (fv : Value) (fs : List Fl) (old : Bool) (w : World) (hrd : RdF fv fs w) (hsum : sumF fs ≤ 1048576) :
    Calls Tryd.prog 18 #[fv, .bool old] w fun e w' => e = .returned (.tuple #[.string (str (hostR (vals sHost fs) old).1), .bool (hostR (vals sHost fs) old).2.1, .int .i64 (hostR (vals sHost fs) old).2.2]) ∧ Below w.heap.size w w' := by
  have hlen := len_sumF fs
  have HA : Hid (Calls _ _ _ _ _) := All_any fv fs sHost (by decide) ((each_sumF fs).mono hsum) (by omega) w hrd
  have e1 : str sHost = ⟨#[72, 111, 115, 116]⟩ := rfl
  rw [e1] at HA
  have h1 := sumV_filter sHost fs
  obtain ⟨fa, fc, rfl, _⟩ := hrd
  have hvl : (vals sHost fs).length ≤ 16777216 := by omega
  generalize vals sHost fs = V at *
  clear e1 hlen
  by_cases h0 : V.length = 0
  · have hl0 : ((V.length : Int) == 0) = true := by simp [h0]
    have hl1 : ((V.length : Int) != 1) = true := by simp [h0]
    cases old with
    | true =>
      have HR : Hid (hostR V true = ([], false, 0)) := (by unfold hostR; rw [if_pos h0, if_pos rfl] : hostR V true = _)
      clear h0
      go_enter Tryd.func18, Tryd.ntmps18
      go_wp2_with fail
      refine HA.out.mono ?_
      rintro e w2 ⟨u, rfl, ho, hb2⟩
      obtain ⟨ua, uc, rfl⟩ := ho.form
      have HB2 : Hid (Below w.heap.size w w2) := hb2
      clear hb2 ho
      go_wp2
      go_ret3
      rw [HR.out]
      exact ⟨rfl, HB2.out⟩
    | false =>
      have HR : Hid (hostR V false = ([], false, 69)) := (by unfold hostR; rw [if_pos h0, if_neg (by decide)] : hostR V false = _)
      clear h0
      go_enter Tryd.func18, Tryd.ntmps18
      go_wp2_with fail
      refine HA.out.mono ?_
      rintro e w2 ⟨u, rfl, ho, hb2⟩
      obtain ⟨ua, uc, rfl⟩ := ho.form
      have HB2 : Hid (Below w.heap.size w w2) := hb2
      clear hb2 ho
      go_wp2
      go_ret3
      rw [HR.out]
      exact ⟨rfl, HB2.out⟩
  · have hl0 : ((V.length : Int) == 0) = false := by rw [beq_eq_false_iff_ne]; omega
    by_cases hm : 1 < V.length
    · have hl1 : ((V.length : Int) != 1) = true := by rw [bne_iff_ne]; omega
      have HR : Hid (hostR V old = ([], false, 69)) := (by unfold hostR; rw [if_neg h0, if_pos hm] : hostR V old = _)
      clear h0 hm
      go_enter Tryd.func18, Tryd.ntmps18
      go_wp2_with fail
      refine HA.out.mono ?_
      rintro e w2 ⟨u, rfl, ho, hb2⟩
      obtain ⟨ua, uc, rfl⟩ := ho.form
      have HB2 : Hid (Below w.heap.size w w2) := hb2
      clear hb2 ho
      go_wp2
      go_ret3
      rw [HR.out]
      exact ⟨rfl, HB2.out⟩
    · obtain ⟨v, rfl⟩ := List.length_eq_one_iff.1 (show V.length = 1 by omega)
      have hvz : v.length ≤ 1048576 := by simp [sumV] at h1; omega
      have HMb : Hid (∀ W, _) := fun W => maybeHost_any (str v) (by rw [str_size]; omega) W
      rw [str_list] at HMb
      have HR : Hid (hostR [v] old = if v.all (fun c => !badH c) = true then (v, true, 0) else ([], false, 69)) := (by unfold hostR; rw [if_neg h0, if_neg hm]; rfl : hostR [v] old = _)
      generalize v.all (fun c => !badH c) = MB at *
      have hl1 : ([v] : List (List UInt8)).length = 1 := rfl
      clear h0 hm h1 hvl hl0
      go_enter Tryd.func18, Tryd.ntmps18
      go_wp2_with fail
      refine HA.out.mono ?_
      rintro e w2 ⟨u, rfl, ho, hb2⟩
      have HB2 : Hid (Below w.heap.size w w2) := hb2
      obtain ⟨ua, uc, rfl, hcs⟩ := ho.rd
      rcases hcs with hh | ⟨g2, o2, rfl, hlc, hcell⟩
      · cases hh
      have q0 := hcell 0 (by simp)
      clear hcell hb2 ho
      simp only [Nat.add_zero] at q0
      rw [show ([v] : List (List UInt8)).getD 0 [] = v from rfl] at q0
      generalize hsv : str v = SV at *
      have HSV : Hid (str v = SV) := hsv
      clear hsv
      go_wp2_with fail
      refine (HMb.out _).mono ?_
      rintro e w3 ⟨rfl, hb3⟩
      have HB3 : Hid (Below w.heap.size w w3) := HB2.out.trans (hb3.mono HB2.out.size)
      have q3 := (hb3.cell (p := ⟨g2, o2, none⟩) (World.block_lt_of_cell? w2 _ q0)).trans q0
      clear hb3 q0
      cases MB with
      | false =>
        rw [if_neg (by decide)] at HR
        go_wp2
        go_ret3
        rw [HR.out]
        exact ⟨rfl, HB3.out⟩
      | true =>
        rw [if_pos rfl] at HR
        go_wp2
        go_ret3
        rw [HR.out]
        refine ⟨?_, HB3.out⟩
        dsimp only
        rw [HSV.out]
        rfl

end Fd
end Go.Proofs.YtfpncbgedhodaaaDoor

/-
  The document's Host.
-/
set_option linter.unusedVariables false
set_option linter.unusedSimpArgs false
namespace Go.Proofs.YtfpncbgedhodaaaDoor
open Go.RowKit Go.Shelf
namespace Fd
open Oc Tg

set_option maxRecDepth 100000 in
set_option maxHeartbeats 800000 in
theorem rHost_any (fv : Value) (fs : List Fl) (old : Bool) (w : World) (hrd : RdF fv fs w) (hsum : sumF fs ≤ 1048576) :
    Calls Tryd.prog 19 #[fv, .bool old] w fun e w' => e = .returned (.tuple #[.string (str (hostR (vals sHost fs) old).1), .bool (hostR (vals sHost fs) old).2.1, .int .i64 (hostR (vals sHost fs) old).2.2]) ∧ Below w.heap.size w w' := by
  have hlen := len_sumF fs
  have HA : Hid (Calls _ _ _ _ _) := rAll_any fv fs sHost (by decide) ((each_sumF fs).mono hsum) (by omega) w hrd
  have e1 : str sHost = ⟨#[72, 111, 115, 116]⟩ := rfl
  rw [e1] at HA
  have h1 := sumV_filter sHost fs
  obtain ⟨fa, fc, rfl, _⟩ := hrd
  have hvl : (vals sHost fs).length ≤ 16777216 := by omega
  generalize vals sHost fs = V at *
  clear e1 hlen
  by_cases h0 : V.length = 0
  · have hl0 : ((V.length : Int) == 0) = true := by simp [h0]
    cases old with
    | true =>
      have HR : Hid (hostR V true = ([], false, 0)) := (by unfold hostR; rw [if_pos h0, if_pos rfl] : hostR V true = _)
      clear h0
      go_enter Tryd.func19, Tryd.ntmps19
      go_wp2_with fail
      refine HA.out.mono ?_
      rintro e w2 ⟨u, rfl, ho, hb2⟩
      obtain ⟨ua, uc, rfl⟩ := ho.form
      have HB2 : Hid (Below w.heap.size w w2) := hb2
      clear hb2 ho
      go_wp2
      go_ret3
      rw [HR.out]
      exact ⟨rfl, HB2.out⟩
    | false =>
      have HR : Hid (hostR V false = ([], false, 69)) := (by unfold hostR; rw [if_pos h0, if_neg (by decide)] : hostR V false = _)
      clear h0
      go_enter Tryd.func19, Tryd.ntmps19
      go_wp2_with fail
      refine HA.out.mono ?_
      rintro e w2 ⟨u, rfl, ho, hb2⟩
      obtain ⟨ua, uc, rfl⟩ := ho.form
      have HB2 : Hid (Below w.heap.size w w2) := hb2
      clear hb2 ho
      go_wp2
      go_ret3
      rw [HR.out]
      exact ⟨rfl, HB2.out⟩
  · have hl0 : ((V.length : Int) == 0) = false := by rw [beq_eq_false_iff_ne]; omega
    by_cases hm : 1 < V.length
    · have hl1 : (1 : Int) < (V.length : Int) := by omega
      have HR : Hid (hostR V old = ([], false, 69)) := (by unfold hostR; rw [if_neg h0, if_pos hm] : hostR V old = _)
      clear h0
      go_enter Tryd.func19, Tryd.ntmps19
      go_wp2_with fail
      refine HA.out.mono ?_
      rintro e w2 ⟨u, rfl, ho, hb2⟩
      obtain ⟨ua, uc, rfl⟩ := ho.form
      have HB2 : Hid (Below w.heap.size w w2) := hb2
      clear hb2 ho
      go_wp2
      go_ret3
      rw [HR.out]
      exact ⟨rfl, HB2.out⟩
    · obtain ⟨v, rfl⟩ := List.length_eq_one_iff.1 (show V.length = 1 by omega)
      have hvz : v.length ≤ 1048576 := by simp [sumV] at h1; omega
      have HFi : Hid (∀ (c : UInt8) W, Calls Tryd.prog 46 #[.string ⟨#[34, 35, 47, 60, 62, 63, 64, 92]⟩, .int .u8 (c.toNat : Int)] W fun e w' => e = .returned (.int .i64 (findZ c noH)) ∧ w' = W) := fun c W => rfind_any ⟨#[34, 35, 47, 60, 62, 63, 64, 92]⟩ (by decide) c W
      have HR : Hid (hostR [v] old = if v.all (fun c => !badH c) = true then (v, true, 0) else ([], false, 69)) := (by unfold hostR; rw [if_neg h0, if_neg hm]; rfl : hostR [v] old = _)
      have HY : Hid (∀ k, k < v.length → badH (v.getD k 0) = true → v.all (fun c => !badH c) = false) := fun k hk h => bad_some _ k hk h
      have HN : Hid ((∀ j, j < v.length → badH (v.getD j 0) = false) → v.all (fun c => !badH c) = true) := fun h => bad_none _ h
      have HB : Hid (∀ k, k < (str v).size → byt (str v) k = ((v.getD k 0).toNat : Int)) := fun k hk => by unfold byt; rw [str_list]
      have hsz : (str v).size = v.length := str_size v
      generalize v.all (fun c => !badH c) = MB at *
      generalize hsv : str v = SV at *
      have HSV : Hid (str v = SV) := hsv
      clear hsv
      have hl1 : ([v] : List (List UInt8)).length = 1 := rfl
      have hsz2 : SV.size ≤ 1048576 := by omega
      have HSZ : Hid (SV.size = v.length) := hsz
      clear h0 hm h1 hvl hl0 hsz hvz
      go_enter Tryd.func19, Tryd.ntmps19
      go_wp2_with fail
      refine HA.out.mono ?_
      rintro e w2 ⟨u, rfl, ho, hb2⟩
      have HB2 : Hid (Below w.heap.size w w2) := hb2
      obtain ⟨ua, uc, rfl, hcs⟩ := ho.rd
      rcases hcs with hh | ⟨g2, o2, rfl, hlc, hcell⟩
      · cases hh
      have q0 := hcell 0 (by simp)
      clear hcell hb2 ho
      simp only [Nat.add_zero] at q0
      rw [show ([v] : List (List UInt8)).getD 0 [] = v from rfl, HSV.out] at q0
      go_wp2
      go_loopw [8] (fun i wr => ∃ k : Nat, k ≤ SV.size ∧ i = .int .i64 k ∧ Hid (∀ j, j < k → badH (v.getD j 0) = false) ∧ w2 = wr) (fun i _ => SV.size - (intOf i).toNat)
      case atStart => exact ⟨0, Nat.zero_le _, rfl, (fun j hj => absurd hj (Nat.not_lt_zero _) : ∀ j, j < 0 → _), rfl⟩
      case round =>
        obtain ⟨k, hk, rfl, hA, rfl⟩ := hrel
        by_cases hlt : k < SV.size
        · have HYk : Hid (badH (v.getD k 0) = true → MB = false) := HY.out k (by have := HSZ.out; omega)
          have HAn : Hid (badH (v.getD k 0) = false → ∀ j, j < k + 1 → badH (v.getD j 0) = false) := fun h j hj => by
            by_cases e : j = k
            · rw [e]; exact h
            · exact hA.out j (by omega)
          obtain ⟨b0, b1⟩ := byt_bd SV k
          have hbe := HB.out k hlt
          have HIk : Hid (∀ W, _) := fun W => HFi.out (v.getD k 0) W
          have HBd : Hid (badH (v.getD k 0) = (decide (((v.getD k 0).toNat : Int) ≤ 32) || (decide (126 < ((v.getD k 0).toNat : Int)) || decide (0 ≤ findZ (v.getD k 0) noH)))) := (by rw [find_no]; rfl : _ = _)
          have hby : ((SV[k].toNat : Nat) : Int) = byt SV k := byt_at SV k hlt
          rw [← hbe] at HIk HBd
          rw [← hby] at HIk HBd b0 b1
          generalize badH (v.getD k 0) = BD at *
          generalize findZ (v.getD k 0) noH = IX at *
          clear hbe hby
          by_cases h1 : ((SV[k].toNat : Nat) : Int) ≤ 32
          · have hM : Hid (MB = false) := HYk.out (by rw [HBd.out]; simp [h1])
            have h1' : ((SV[k].toNat : Nat) : Int) < 33 := by omega
            go_wp2
            go_ret3
            rw [HR.out, hM.out, if_neg (by decide)]
            exact ⟨rfl, HB2.out⟩
          · have h1' : ¬ ((SV[k].toNat : Nat) : Int) < 33 := by omega
            by_cases h2 : 126 < ((SV[k].toNat : Nat) : Int)
            · have hM : Hid (MB = false) := HYk.out (by rw [HBd.out]; simp [h2])
              go_wp2
              go_ret3
              rw [HR.out, hM.out, if_neg (by decide)]
              exact ⟨rfl, HB2.out⟩
            · go_wp2_with fail
              refine (HIk.out _).mono ?_
              rintro e w3 ⟨rfl, hw3⟩
              rw [hw3]
              clear hw3
              by_cases h3 : 0 ≤ IX
              · have hM : Hid (MB = false) := HYk.out (by rw [HBd.out]; simp [h3])
                go_wp2
                go_ret3
                rw [HR.out, hM.out, if_neg (by decide)]
                exact ⟨rfl, HB2.out⟩
              · have HAk : Hid (∀ j, j < k + 1 → badH (v.getD j 0) = false) := HAn.out (by rw [HBd.out]; simp [h1, h2, h3])
                go_wp2
                go_roundw
                case rel => exact ⟨k + 1, by omega, by go_num, HAk, by first | rfl | trivial⟩
                case measure => simp [intOf]; omega
        · obtain rfl : k = SV.size := by omega
          have hM : Hid (MB = true) := HN.out (by have := HSZ.out; intro j hj; exact hA.out j (by omega))
          go_wp2
          go_ret3
          rw [HR.out, hM.out, if_pos rfl]
          refine ⟨?_, HB2.out⟩
          dsimp only
          rw [HSV.out]
          rfl

end Fd
end Go.Proofs.YtfpncbgedhodaaaDoor

/-
  Lengths: the document's decimal; Length, and the document's.
-/
set_option linter.unusedVariables false
set_option linter.unusedSimpArgs false
namespace Go.Proofs.YtfpncbgedhodaaaDoor
open Go.RowKit Go.Shelf
namespace Fd
open Oc Tg

def dec (x : List UInt8) : Int × Int := numR 10 x 1099511627776
def decZ (x : List UInt8) : Int := if (dec x).2 = 0 then (dec x).1 else -1
theorem val_low {c : Int} (h : c < 48) : 10 ≤ valI c := by unfold valI; (repeat' split) <;> omega
theorem val_high {c : Int} (h : 57 < c) : 10 ≤ valI c := by unfold valI; (repeat' split) <;> omega
theorem decZ_bad {s : ByteArray} (k : Nat) (h : k < s.size) (hv : 10 ≤ valI (byt s k)) : decZ s.data.toList = -1 := by
  unfold decZ dec
  rw [numR_bad 10 _ s k h hv]
  rfl

end Fd
end Go.Proofs.YtfpncbgedhodaaaDoor
