/-
  Of the document: digits.
-/
import Derived.Test.YtifhbjkgdnemjaaGreatDoorMgC
set_option linter.unusedVariables false
set_option linter.unusedSimpArgs false
set_option maxRecDepth 100000
namespace Go.Proofs.YtifhbjkgdnemjaaGreatDoor
open Go.RowKit Go.Shelf
namespace Ck
open Oc Tg _root_.Go.Proofs.YtifhbjkgdnemjaaGreatDoor.Fd

theorem appL (a b : ByteArray) : (a ++ b).data.toList = a.data.toList ++ b.data.toList := by simp

set_option maxHeartbeats 1000000 in
theorem rdigits_any (n : Nat) (hn : n ≤ 1099511627776) (w : World) :
    Calls Tryz.prog 28 #[.int .i64 (n : Int)] w fun e w' => e = .returned (.string (str (hexd n))) ∧ w' = w := by
  have hlen := hexd_len 10 n (Nat.lt_of_le_of_lt hn (by decide))
  have HLn : Hid ((hexd n).length ≤ 11) := hlen
  clear hlen
  go_enter Tryz.func28, Tryz.ntmps28
  go_wp2
  go_loop [0, 3] (fun nv sv => ∃ (k : Nat) (ds : List UInt8), k ≤ 1099511627776 ∧ nv = .int .i64 k ∧ sv = .string (str ds) ∧ Hid (hexd n = hexd k ++ ds)) (fun nv _ => (intOf nv).toNat)
  case atStart => exact ⟨n, [], hn, rfl, rfl, (by simp : hexd n = hexd n ++ [])⟩
  case round =>
    obtain ⟨k, ds, hk, rfl, rfl, hst⟩ := hrel
    have hdl : ds.length ≤ 11 := by
      have h := congrArg List.length hst.out
      rw [List.length_append] at h
      have := HLn.out
      omega
    obtain ⟨d, hd⟩ : ∃ d, d = k % 16 := ⟨_, rfl⟩
    obtain ⟨q, hq⟩ : ∃ q, q = k / 16 := ⟨_, rfl⟩
    have hmod : ((k : Int)).tmod 16 = (d : Int) := by rw [Int.tmod_eq_emod_of_nonneg (by omega), hd]; omega
    have hmod2 : (k : Int) % 16 = (d : Int) := by rw [hd]; omega
    have hquo : ((k : Int)).tdiv 16 = (q : Int) := by rw [Int.tdiv_eq_ediv_of_nonneg (by omega), hq]; omega
    have hquo2 : (k : Int) / 16 = (q : Int) := by rw [hq]; omega
    have hd16 : d < 16 := by omega
    have HDs : Hid ((⟨#[48, 49, 50, 51, 52, 53, 54, 55, 56, 57, 97, 98, 99, 100, 101, 102]⟩ : ByteArray).extract d (d + 1) = str [hexc d]) := dig_slice d hd16
    have HAp : Hid (str [hexc d] ++ str ds = str (hexc d :: ds)) := (eq_list (by rw [appL, str_list, str_list, str_list]; rfl) : str [hexc d] ++ str ds = str (hexc d :: ds))
    have hs2 : (str ds).size = ds.length := str_size ds
    have HQ : Hid (q = k / 16) := hq
    have HDd : Hid (d = k % 16) := hd
    have hqk : q ≤ k := by omega
    by_cases hz : q = 0
    · have HE : Hid (hexd n = hexc d :: ds) := by
        have h16 : k < 16 := by omega
        have h := hst.out
        rw [hexd_low h16] at h
        have : d = k := by rw [hd]; omega
        rw [this]
        exact h
      have hz' : ((q : Int) == 0) = true := by simp [hz]
      clear hd hq hz
      go_wp2
      go_ret
      rw [HE.out]
      refine ⟨?_, rfl⟩
      rw [← HAp.out, ← HDs.out]
      rfl
    · have HE : Hid (hexd n = hexd q ++ (hexc d :: ds)) := by
        have h16 : ¬ k < 16 := by omega
        have h := hst.out
        rw [hexd_high h16, ← hq, ← hd] at h
        show hexd n = hexd q ++ (hexc d :: ds)
        rw [h]
        simp
      have hz' : ((q : Int) == 0) = false := by simp; omega
      have hqlt : q < k := by omega
      clear hd hq hz
      go_wp2
      go_round
      case rel => exact ⟨q, hexc d :: ds, by omega, rfl, (by rw [← HAp.out, ← HDs.out]), HE⟩
      case measure => simp [intOf]; omega

end Ck
end Go.Proofs.YtifhbjkgdnemjaaGreatDoor
