/-
  Lengths: the document's decimal; Length, and the document's.
-/
import Derived.Test.YtojahhmdfbfnfabDoorFHs
set_option linter.unusedVariables false
set_option linter.unusedSimpArgs false
namespace Go.Proofs.YtojahhmdfbfnfabDoor
open Go.RowKit Go.Shelf
namespace Fd
open Oc Tg

def dec (x : List UInt8) : Int × Int := numR 10 x 1099511627776
def decZ (x : List UInt8) : Int := if (dec x).2 = 0 then (dec x).1 else -1
theorem val_low {c : Int} (h : c < 48) : 10 ≤ valI c := by unfold valI; (repeat' split) <;> omega
theorem val_high {c : Int} (h : 57 < c) : 10 ≤ valI c := by unfold valI; (repeat' split) <;> omega
theorem decZ_bad {s : ByteArray} (k : Nat) (h : k < s.size) (hv : 10 ≤ valI (byt s k)) : decZ s.data.toList = -1 := by
  unfold decZ dec
  rw [numR_bad 10 _ s k h hv]
  rfl

set_option maxRecDepth 100000 in
set_option maxHeartbeats 1000000 in
theorem rdecimal_any (s : ByteArray) (hs : s.size ≤ 134217728) (w : World) :
    Calls Tryd.prog 43 #[.string s] w fun e w' => e = .returned (.int .i64 (decZ s.data.toList)) ∧ w' = w := by
  go_enter Tryd.func43, Tryd.ntmps43
  go_wp2
  go_loop [3, 4] (fun nv i => ∃ (k : Nat) (n : Int), k ≤ s.size ∧ i = .int .i64 k ∧ nv = .int .i64 n ∧ 0 ≤ n ∧ n ≤ 10995116277769 ∧ Hid (∀ j, j < k → valI (byt s j) < 10) ∧ Hid (n = pre 10 s k ∨ (1099511627776 < n ∧ 1099511627776 < pre 10 s k))) (fun _ i => s.size - (intOf i).toNat)
  case atStart => exact ⟨0, 0, Nat.zero_le _, rfl, rfl, by omega, by omega, (fun j hj => by omega : ∀ j, j < 0 → _), (.inl (pre_zero 10 s).symm : _ ∨ _)⟩
  case round =>
    obtain ⟨k, n, hk, rfl, rfl, n0, n1, hall, hst⟩ := hrel
    by_cases hlt : k < s.size
    · have hby : ((s[k].toNat : Nat) : Int) = byt s k := byt_at s k hlt
      obtain ⟨b0, b1⟩ := byt_bd s k
      have HBad : 10 ≤ valI (byt s k) → Hid (decZ s.data.toList = -1) := fun h => decZ_bad k hlt h
      have HPre : Hid (pre 10 s (k + 1) = pre 10 s k * 10 + valI (byt s k)) := pre_succ 10 s k hlt
      have HMono : Hid (pre 10 s k ≤ pre 10 s (k + 1)) := pre_le 10 (by omega) s k (k + 1) (by omega) hlt
      by_cases hlo : byt s k < 48
      · have HB := HBad (val_low hlo)
        have q1 : decide ((s[k].toNat : Int) < 48) = true := decide_eq_true (by omega)
        go_wp2
        go_ret
        exact ⟨ret_int HB.out.symm, rfl⟩
      · have q1 : decide ((s[k].toNat : Int) < 48) = false := decide_eq_false (by omega)
        by_cases hhi : 57 < byt s k
        · have HB := HBad (val_high hhi)
          have q2 : decide (57 < (s[k].toNat : Int)) = true := decide_eq_true (by omega)
          go_wp2
          go_ret
          exact ⟨ret_int HB.out.symm, rfl⟩
        · have q2 : decide (57 < (s[k].toNat : Int)) = false := decide_eq_false (by omega)
          have hv : valI (byt s k) = byt s k - 48 := valI_d (by omega)
          have HV : Hid (valI (byt s k) = byt s k - 48) := hv
          have HN : Hid (∀ j, j < k + 1 → valI (byt s j) < 10) := fun j hj => by
            by_cases hjk : j = k
            · subst hjk; have := HV.out; omega
            · exact hall.out j (by omega)
          clear hv HBad
          by_cases hM : n ≤ 1099511627776
          · have HS : Hid (10 * n + (byt s k - 48) = pre 10 s (k + 1) ∨ (1099511627776 < 10 * n + (byt s k - 48) ∧ 1099511627776 < pre 10 s (k + 1))) := by
              left
              rcases hst.out with h | ⟨h, _⟩
              · rw [HPre.out, HV.out, ← h]; omega
              · omega
            go_wp2
            go_round
            case rel => exact ⟨k + 1, 10 * n + (byt s k - 48), by omega, by go_num, by first | rfl | (congr 1; omega) | go_num, by omega, by omega, HN, HS⟩
            case measure => simp [intOf]; omega
          · have HS : Hid (n = pre 10 s (k + 1) ∨ (1099511627776 < n ∧ 1099511627776 < pre 10 s (k + 1))) := by
              right
              refine ⟨by omega, ?_⟩
              rcases hst.out with h | ⟨_, h⟩
              · have := HMono.out; omega
              · have := HMono.out; omega
            go_wp2
            go_round
            case rel => exact ⟨k + 1, n, by omega, by go_num, rfl, n0, n1, HN, HS⟩
            case measure => simp [intOf]; omega
    · obtain rfl : k = s.size := by omega
      by_cases hz : s.size = 0
      · have he := empty_of hz
        have HE : Hid (decZ s.data.toList = -1) := by
          show _ = _
          unfold decZ dec
          rw [numR_empty _ _ s hz]
          rfl
        go_wp2
        go_ret
        exact ⟨ret_int HE.out.symm, rfl⟩
      · have he := nonempty_of hz
        by_cases hM : 1099511627776 < n
        · have HE : Hid (decZ s.data.toList = -1) := by
            show _ = _
            unfold decZ dec
            rw [numR_big 10 _ s (by omega) hall.out (by rcases hst.out with h | ⟨_, h⟩ <;> omega)]
            rfl
          go_wp2
          go_ret
          exact ⟨ret_int HE.out.symm, rfl⟩
        · have HE : Hid (decZ s.data.toList = n) := by
            show _ = _
            have h := hst.out.resolve_right (fun h => hM h.1)
            unfold decZ dec
            rw [numR_fits 10 _ s (by omega) hall.out (by omega)]
            exact h.symm
          go_wp2
          go_ret
          exact ⟨ret_int HE.out.symm, rfl⟩

end Fd
end Go.Proofs.YtojahhmdfbfnfabDoor
