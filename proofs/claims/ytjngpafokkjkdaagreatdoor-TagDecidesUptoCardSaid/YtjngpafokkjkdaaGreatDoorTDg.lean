/-
  The function that takes so many digits.
-/
import Derived.Test.YtjngpafokkjkdaaGreatDoorSTk
set_option linter.unusedVariables false
set_option linter.unusedSimpArgs false
namespace Go.Proofs.YtjngpafokkjkdaaGreatDoor
open Go.RowKit
namespace Bs

def dgR (st : List Int) (f : Nat) (a : Int) : Except Nat (Nat × Int) → Except Nat (Nat × List Int)
  | .ok (b, v) => .ok (b, put st f v a)
  | .error e => .error e
theorem put_len {st : List Int} {f : Nat} {v a : Int} : (put st f v a).length = st.length := by unfold put; simp
theorem put_v {st : List Int} {f : Nat} (h : st.length = 14) (hf : f < 7) (v a : Int) : g (put st f v a) (2 * f) = v := by
  unfold put g
  rw [List.getD_eq_getElem?_getD, List.getElem?_set_ne (by omega), List.getElem?_set_self (by omega)]
  rfl
theorem put_put {st : List Int} {f : Nat} (v v' a : Int) : (put st f v a).set (2 * f) v' = put st f v' a := by
  unfold put
  rw [List.set_comm _ _ (by omega), List.set_set]
theorem put_at {st : List Int} {f : Nat} (v a a' : Int) : (put st f v a).set (2 * f + 1) a' = put st f v a' := by
  unfold put
  rw [List.set_set]

set_option maxRecDepth 100000 in
set_option maxHeartbeats 1000000 in
theorem digits1_any (l : List UInt8) (n f at' a b P : Nat) (st : List Int) (hl : l.length ≤ 140737488355328) (hn : n ≤ 4) (hf : f < 7) (ha : at' ≤ l.length) (w : World) (hp : Pcs w P st)
    (ca : w.cell? ⟨a, 0, none⟩ = some (pp P (2 * f))) (cb : w.cell? ⟨b, 0, none⟩ = some (.int .i64 (n : Int))) (na : a ≠ P) (nb : b ≠ P) :
    Calls Tryz.prog 120 #[.string (str l), .int .i64 (at' : Int), pp a 0, pp b 0] w fun e w' => Took (dgR st f at' (dgs l n at' 0)) P e w' ∧ But [P] w w' := by
  have hs : (str l).size = l.length := str_size l
  have c0 := hp.cell (2 * f) (by omega)
  have c1 := hp.cell (2 * f + 1) (by omega)
  have f0 := hp.free (2 * f)
  have f1 := hp.free (2 * f + 1)
  have HP : Hid (Pcs w P st) := hp
  clear hp
  unfold pp at *
  go_enter Tryz.func120, Tryz.ntmps120
  go_wp2
  go_loopw [1, 13] (fun x i wr => ∃ (k q : Nat) (v : Int), k ≤ n ∧ q ≤ l.length ∧ x = .int .i64 (q : Int) ∧ i = .int .i64 (k : Int) ∧ 0 ≤ v ∧ Hid (v + 1 ≤ 10 ^ k) ∧ Hid (dgs l (n - k) q v = dgs l n at' 0) ∧ Hid (Pcs wr P (put st f v at')) ∧ Hid (But [P] w wr)) (fun _ i _ => n - (intOf i).toNat)
  case atStart => exact ⟨0, at', 0, by omega, ha, rfl, rfl, by omega, (by decide : (0 : Int) + 1 ≤ 10 ^ 0), (rfl : dgs l (n - 0) at' 0 = dgs l n at' 0), (HP.out.set _ (by omega) _).set _ (by omega) _, ((But.refl [P] w).setCell (by simp) _).setCell (by simp) _⟩
  case round =>
    obtain ⟨k, q, v, hk, hq, rfl, rfl, hv0, hv, he, hpc, hb⟩ := hrel
    have na' : a ∉ [P] := fun e => by simp at e; exact na e
    have ca' := hb.out.cell ca na'
    have hlen : st.length = 14 := HP.out.len
    have cv := hpc.out.cell (2 * f) (by omega)
    rw [put_v hlen hf] at cv
    have fv := hpc.out.free (2 * f)
    clear ca cb c0 c1 f0 f1
    by_cases hkn : k < n
    · obtain ⟨m, hm⟩ : ∃ m, n - k = m + 1 := ⟨n - k - 1, by omega⟩
      have hv3 : v ≤ 999 := by
        have := hv.out
        rcases (by omega : k = 0 ∨ k = 1 ∨ k = 2 ∨ k = 3) with rfl | rfl | rfl | rfl <;> simp at this <;> omega
      by_cases hql : q = l.length
      · have HS : Hid (dgs l n at' 0 = .error q) := (by
          rw [← he.out, hm]
          unfold dgs
          rw [List.getElem?_eq_none (by omega)] : dgs l n at' 0 = .error q)
        have hd : ((q : Int) == (l.length : Int)) = true := by simp [hql]
        go_wp2
        go_ret2
        exact ⟨by rw [HS.out]; exact ⟨rfl, _, hpc.out⟩, hb.out⟩
      · have hg := lget (l := l) (j := q) (by omega)
        have e1 := str_at l q (by omega)
        have hd : ((q : Int) == (l.length : Int)) = false := by simp; omega
        have hu := (l.getD q 0).toNat_lt
        by_cases hdg : dgt (l.getD q 0) = true
        · have HS : Hid (dgs l (n - (k + 1)) (q + 1) (v * 10 + ((((l.getD q 0).toNat : Nat) : Int) - 48)) = dgs l n at' 0) := (by
            rw [← he.out, hm]
            conv => rhs; unfold dgs
            rw [hg]
            dsimp only
            rw [if_pos hdg, show n - (k + 1) = m by omega]
            rfl : _ = _)
          have hr : 48 ≤ (l.getD q 0).toNat ∧ (l.getD q 0).toNat ≤ 57 := by simpa [dgt] using hdg
          clear hg hdg he
          generalize (l.getD q 0).toNat = X at *
          have w1 : IntKind.u8.wrap ((X : Int) - 48) = (X : Int) - 48 := by simp [IntKind.wrap, IntKind.signed, IntKind.bits]; omega
          go_wp2_with fail
          go_region
          all_goals go_wp2
          all_goals go_roundw
          case rel =>
            refine ⟨k + 1, q + 1, v * 10 + ((X : Int) - 48), by omega, by omega, by go_num, by go_num, by omega, ?_, HS, ?_, ?_⟩
            · have := hv.out
              exact (by rw [Int.pow_succ]; omega : v * 10 + ((X : Int) - 48) + 1 ≤ 10 ^ (k + 1))
            · have h2 := (hpc.out.but (((But.refl [] _).drewN 1)) (fun e => by cases e)).set (2 * f) (by omega) (v * 10 + ((X : Int) - 48))
              rw [put_put] at h2
              exact h2
            · exact (hb.out.drewN 1).setCell (by simp) _
          case measure => simp only [intOf]; omega
        · have HS : Hid (dgs l n at' 0 = .error q) := (by
            rw [← he.out, hm]
            unfold dgs
            rw [hg]
            dsimp only
            rw [if_neg hdg] : dgs l n at' 0 = .error q)
          have hr : ¬ (48 ≤ (l.getD q 0).toNat ∧ (l.getD q 0).toNat ≤ 57) := by simpa [dgt] using hdg
          clear hg hdg
          generalize (l.getD q 0).toNat = X at *
          rcases (by omega : X < 48 ∨ 57 < X) with hx | hx
          · have hx' : (X : Int) < 48 := by omega
            go_wp2
            go_ret2
            exact ⟨by rw [HS.out]; exact ⟨rfl, _, hpc.out⟩, hb.out⟩
          · have hx' : ¬ (X : Int) < 48 := by omega
            have hx2 : (57 : Int) < (X : Int) := by omega
            go_wp2
            go_ret2
            exact ⟨by rw [HS.out]; exact ⟨rfl, _, hpc.out⟩, hb.out⟩
    · have HS : Hid (dgs l n at' 0 = .ok (q, v)) := (by
        rw [← he.out, show n - k = 0 by omega]
        rfl : dgs l n at' 0 = .ok (q, v))
      go_wp2
      go_ret2
      exact ⟨by rw [HS.out]; exact ⟨rfl, hpc.out⟩, hb.out⟩

end Bs
end Go.Proofs.YtjngpafokkjkdaaGreatDoor
