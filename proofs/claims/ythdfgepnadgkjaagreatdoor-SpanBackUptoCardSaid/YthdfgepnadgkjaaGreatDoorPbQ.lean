/-
  span: what a range header asks for; the mark that is chosen; how long a body in parts is (plain).
-/
import Derived.Test.YthdfgepnadgkjaaGreatDoorPbP
import Derived.Test.YthdfgepnadgkjaaGreatDoorMkB
import Derived.Test.YthdfgepnadgkjaaGreatDoorMgT
import Derived.Test.YthdfgepnadgkjaaGreatDoorQkE
import Derived.Test.YthdfgepnadgkjaaGreatDoorPbR
set_option linter.unusedVariables false
set_option linter.unusedSimpArgs false
namespace Go.Proofs.YthdfgepnadgkjaaGreatDoor
open Go.RowKit Go.Shelf
namespace Sn
open Oc Tg Ac Mk

theorem par_sp (l : List UInt8) (size : Int) (h0 : 0 ≤ size) (he : (parR l size).2 = 0) : (∀ x ∈ (parR l size).1, isSp x size = true) ∧ (parR l size).1 ≠ [] ∧ (parR l size).1.length ≤ l.length := by
  unfold parR at he ⊢
  rw [if_neg (by omega)] at he ⊢
  cases hel : (elR l).2 with
  | false => rw [if_pos hel] at he; simp at he
  | true =>
    simp only [hel, Bool.true_eq_false, if_false] at he ⊢
    unfold ansR at he ⊢
    split at he
    · rename_i hall
      rw [if_pos hall]
      split at he
      · simp at he
      · rename_i hz
        rw [if_neg hz]
        refine ⟨?_, fun e => hz (by dsimp only at e; rw [e]; rfl), ?_⟩
        · intro x hx
          obtain ⟨e, _, hk⟩ := List.mem_filterMap.1 hx
          unfold keepN at hk
          split at hk
          · cases hk
          · rename_i hem
            injection hk with hk
            subst hk
            unfold emp at hem
            unfold isSp
            simp only [decide_eq_true_eq] at hem
            refine decide_eq_true ?_
            unfold wth at *
            dsimp only at *
            omega
        · dsimp only
          have h1 := List.length_filterMap_le (keepN size) (elR l).1
          have h6 : 6 ≤ l.length := by
            refine Classical.byContradiction fun hc => ?_
            rw [elR_short (by omega)] at hel
            cases hel
          by_cases hb : lower (l.take 6) = [98, 121, 116, 101, 115, 61]
          · rw [elR_yes h6 hb] at h1 ⊢
            have h2 := (listR_short (l.drop 6)).1
            rw [List.length_drop] at h2
            dsimp only at *
            omega
          · rw [elR_not hb] at hel
            cases hel
    · simp at he
theorem mark_ok (N : Nat) (hN : N ≤ 1048576) : bndR (partL ++ D N) = true ∧ (partL ++ D N).length ≤ 26 := by
  have hl := itoa_len N hN
  rw [itoaD] at hl
  have hlen : (partL ++ D N).length ≤ 26 := by rw [List.length_append]; unfold partL; simp; omega
  refine ⟨?_, hlen⟩
  unfold bndR
  have h1 : (partL ++ D N).all markB = true := by
    rw [List.all_append]
    have : (D N).all markB = true := List.all_eq_true.2 fun c hc => by
      have := (isD_iff c).1 (D_all N c hc)
      unfold markB markI
      have e1 : decide ((48 : Int) ≤ (c.toNat : Int)) = true := decide_eq_true (by omega)
      have e2 : decide ((c.toNat : Int) ≤ 57) = true := decide_eq_true (by omega)
      rw [e1, e2]
      rfl
    rw [this]
    decide
  rw [h1, decide_eq_true (by unfold partL; simp), decide_eq_true (by omega)]
  rfl
theorem mark_free {b : List UInt8} {N : Nat} (h : ¬ std b N) : Lib.contains b ([45, 45] ++ (partL ++ D N)) = false := by
  cases e : Lib.contains b ([45, 45] ++ (partL ++ D N)) with
  | false => rfl
  | true => exact (h ((std_iff b N).1 e)).elim
theorem part_small {bd md body : List UInt8} (h1 : bd.length ≤ 26) (h2 : md.length ≤ 3) (h3 : body.length ≤ 1048576) {x : Sp} (hx : isSp x body.length = true) : ((partB bd md body x).length : Int) ≤ 200 + (x.2 - x.1) := by
  have hh : 0 ≤ x.1 ∧ x.1 < x.2 ∧ x.2 ≤ (body.length : Int) := of_decide_eq_true hx
  have ht : (telR x body.length).1.length ≤ 80 := by
    unfold telR
    rw [if_pos hx]
    have e1 := extR_len x (by omega) (by omega) (by omega) (by omega)
    have e2 := Lib.itoa_length_le (body.length : Int) (by omega) (by omega)
    simp only [List.length_append, List.length_cons, List.length_nil]
    omega
  unfold partB opB mdB rgB
  simp only [List.length_append, List.length_cons, List.length_nil, List.length_take, List.length_drop]
  omega
theorem prts_small {bd md body : List UInt8} (h1 : bd.length ≤ 26) (h2 : md.length ≤ 3) (h3 : body.length ≤ 1048576) : ∀ (m : List Sp) (lo : Int), Norm m → (∀ x ∈ m, isSp x body.length = true ∧ lo ≤ x.1) → lo ≤ (body.length : Int) → ((prtsB bd md body m).length : Int) ≤ 200 * (m.length : Int) + ((body.length : Int) - lo)
  | [], lo, _, _, h => by simp [prtsB]; omega
  | x :: m, lo, hn, hs, h => by
    obtain ⟨_, n2, n3⟩ := hn
    obtain ⟨hx, hlo⟩ := hs x (by simp)
    have hh : 0 ≤ x.1 ∧ x.1 < x.2 ∧ x.2 ≤ (body.length : Int) := of_decide_eq_true hx
    have ih := prts_small h1 h2 h3 m x.2 n3 (fun y hy => ⟨(hs y (by simp [hy])).1, Int.le_of_lt (n2 y hy)⟩) hh.2.2
    have hp := part_small h1 h2 h3 hx
    show ((partB bd md body x ++ prtsB bd md body m).length : Int) ≤ _
    rw [List.length_append, List.length_cons]
    push_cast
    omega
theorem map_nth (md body : List UInt8) (m : List Sp) (k : Nat) (h : k < m.length) : nthC9 (m.map (pcOf md body)) k = pcOf md body (nthN m k) := by
  unfold nthC9 nthN
  rw [List.getD_eq_getElem?_getD, List.getElem?_map, List.getElem?_eq_getElem h, List.getD_eq_getElem?_getD, List.getElem?_eq_getElem h]
  rfl

end Sn
end Go.Proofs.YthdfgepnadgkjaaGreatDoor
