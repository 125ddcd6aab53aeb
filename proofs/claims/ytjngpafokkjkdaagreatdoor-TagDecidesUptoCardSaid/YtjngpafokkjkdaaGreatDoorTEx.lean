/-
  The function that takes just these bytes.
-/
import Derived.Test.YtjngpafokkjkdaaGreatDoorSTk
set_option linter.unusedVariables false
set_option linter.unusedSimpArgs false
namespace Go.Proofs.YtjngpafokkjkdaaGreatDoor
open Go.RowKit
namespace Bs

def exR : Except Nat Nat → Int × Bool
  | .ok b => ((b : Int), true)
  | .error b => ((b : Int), false)
theorem exs_step (l t : List UInt8) (i a : Nat) (hi : i < t.length) : exs l (t.drop i) a = if l[a]? = some (t.getD i 0) then exs l (t.drop (i + 1)) (a + 1) else .error a := by
  rw [List.drop_eq_getElem_cons hi, List.getD_eq_getElem?_getD, List.getElem?_eq_getElem hi]
  rfl
theorem exs_end (l t : List UInt8) (a : Nat) : exs l (t.drop t.length) a = .ok a := by
  rw [List.drop_length]
  rfl

set_option maxRecDepth 100000 in
set_option maxHeartbeats 1000000 in
theorem exactly1_any (l t : List UInt8) (at' a : Nat) (hl : l.length ≤ 140737488355328) (ht : t.length ≤ 100) (ha : at' ≤ l.length) (w : World) (c : w.cell? ⟨a, 0, none⟩ = some (.string (str t))) :
    Calls Tryz.prog 121 #[.string (str l), .int .i64 (at' : Int), pp a 0] w fun e w' => e = .returned (.tuple #[.int .i64 (exR (exs l t at')).1, .bool (exR (exs l t at')).2]) ∧ But [] w w' := by
  have hs : (str l).size = l.length := str_size l
  have hs2 : (str t).size = t.length := str_size t
  unfold pp
  go_enter Tryz.func121, Tryz.ntmps121
  go_wp2
  go_loopw [1, 10] (fun x i wr => ∃ k q : Nat, k ≤ t.length ∧ q ≤ l.length ∧ x = .int .i64 (q : Int) ∧ i = .int .i64 (k : Int) ∧ Hid (exs l (t.drop k) q = exs l t at') ∧ Hid (But [] w wr) ∧ wr.cell? ⟨a, 0, none⟩ = some (.string (str t))) (fun _ i _ => t.length - (intOf i).toNat)
  case atStart => exact ⟨0, at', by omega, ha, rfl, rfl, (rfl : exs l (t.drop 0) at' = exs l t at'), But.refl _ _, c⟩
  case round =>
    obtain ⟨k, q, hk, hq, rfl, rfl, he, hb, hc⟩ := hrel
    by_cases hkt : k < t.length
    · have hst := exs_step l t k q hkt
      have e2 := str_at t k (by omega)
      by_cases hql : q = l.length
      · rw [if_neg (by rw [hql, List.getElem?_eq_none (Nat.le_refl _)]; intro h; cases h), he.out] at hst
        have HS : Hid _ := hst
        clear hst
        have hd : ((q : Int) == (l.length : Int)) = true := by simp [hql]
        go_wp2_with fail
        go_quiet (fail)
        go_wp2
        go_ret2
        exact ⟨by rw [HS.out]; rfl, hb.out.drewN _⟩
      · have hg := lget (l := l) (j := q) (by omega)
        have e1 := str_at l q (by omega)
        have hd : ((q : Int) == (l.length : Int)) = false := by simp; omega
        by_cases hx : l.getD q 0 = t.getD k 0
        · rw [if_pos (by rw [hg, hx]), he.out] at hst
          have HS : Hid (_ = _) := hst.symm
          clear hst hg
          have hne : (((l.getD q 0).toNat : Int) != ((t.getD k 0).toNat : Int)) = false := by rw [hx]; simp
          clear hx
          generalize ((l.getD q 0).toNat : Int) = X at *
          generalize ((t.getD k 0).toNat : Int) = Y at *
          go_wp2_with fail
          go_quiet (fail)
          go_wp2
          go_roundw
          case rel => exact ⟨k + 1, q + 1, by omega, by omega, by go_num, by go_num, HS, hb.out.drewN _, ((But.refl [] _).drewN _).cell hc (fun e => by cases e)⟩
          case measure => simp only [intOf]; omega
        · rw [if_neg (by rw [hg]; intro h; exact hx (Option.some.inj h)), he.out] at hst
          have HS : Hid _ := hst
          clear hst hg
          have hne : (((l.getD q 0).toNat : Int) != ((t.getD k 0).toNat : Int)) = true := by
            rw [bne_iff_ne]
            intro h
            exact hx (UInt8.toNat_inj.1 (by omega))
          clear hx
          generalize ((l.getD q 0).toNat : Int) = X at *
          generalize ((t.getD k 0).toNat : Int) = Y at *
          go_wp2_with fail
          go_quiet (fail)
          go_wp2
          go_ret2
          exact ⟨by rw [HS.out]; rfl, hb.out.drewN _⟩
    · obtain rfl : k = t.length := by omega
      have hst := exs_end l t q
      rw [he.out] at hst
      have HS : Hid _ := hst
      clear hst
      go_wp2
      go_ret2
      exact ⟨by rw [HS.out]; rfl, hb.out⟩

end Bs
end Go.Proofs.YtjngpafokkjkdaaGreatDoor
