/-
  The document's Hex, Digit, Unhex.
-/
import Derived.Test.YtgdecgagdacipaaGreatDoorBEnc2
set_option linter.unusedVariables false
set_option linter.unusedSimpArgs false
namespace Go.Proofs.YtgdecgagdacipaaGreatDoor
open Go.RowKit
namespace Bs
set_option maxRecDepth 100000

attribute [local go_sem ↓] Go.wp_at_zero Go.wp_at_succ

theorem own_empty (w : World) : Own w.heap.size (.slice (some ⟨w.heap.size, 0, none⟩) 0 0) [] (w.alloc (.cells #[] 5)) := own_made w 0 (by omega) #[] rfl

set_option maxRecDepth 100000 in
set_option maxHeartbeats 1000000 in
theorem rHex_any (l : List UInt8) (hl : 2 * l.length ≤ 140737488355328) (w : World) :
    Calls Tryz.prog 39 #[.string (str l)] w fun e w' => e = .returned (.string (str (hexL l))) ∧ Below w.heap.size w w' := by
  have hs : (str l).size = l.length := str_size l
  have HOw : Hid (Own w.heap.size (.slice (some ⟨w.heap.size, 0, none⟩) 0 0) [] (w.alloc (.cells #[] 5))) := own_empty w
  have hby : ∀ (k : Nat) (h : k < (str l).size), ((str l)[k]'h) = l.getD k 0 := fun k h => by rw [← at_lt _ k h, str_list]
  go_enter Tryz.func39, Tryz.ntmps39
  go_wp2
  go_loopw [3, 4] (fun v i wr => ∃ k : Nat, k ≤ l.length ∧ i = .int .i64 k ∧ Hid (Own w.heap.size v (hexL (l.take k)) wr) ∧ Hid (Below w.heap.size w wr)) (fun _ i _ => l.length - (intOf i).toNat)
  case atStart => exact ⟨0, by omega, rfl, HOw.out, (Below.refl _ w).alloc (Nat.le_refl _) _⟩
  case round =>
    obtain ⟨k, hk, rfl, HO, HB⟩ := hrel
    have hsz := HB.out.size
    by_cases hlt : k < l.length
    · have HN : Hid (hexL (l.take (k + 1)) = hexL (l.take k) ++ [hx ((l.getD k 0).toNat / 16), hx ((l.getD k 0).toNat % 16)]) := hex_take l k hlt
      have HT : Hid ((hexL (l.take k)).length + 2 ≤ 140737488355328) := (by rw [hexL_length, List.length_take]; omega : (hexL (l.take k)).length + 2 ≤ 140737488355328)
      have hbk := hby k
      clear hby
      have hu := (l.getD k 0).toNat_lt
      generalize l.getD k 0 = u at *
      generalize hexL (l.take k) = t at *
      have ha : ((u.toNat : Nat) : Int) % 16 = ((u.toNat % 16 : Nat) : Int) := by omega
      have hd : ((u.toNat : Nat) : Int) / 16 = ((u.toNat / 16 : Nat) : Int) := by omega
      have h1 := hx_at (u.toNat / 16)
      have h2 := hx_at (u.toNat % 16)
      have l1 : u.toNat / 16 < 16 := by omega
      have l2 : u.toNat % 16 < 16 := by omega
      generalize u.toNat / 16 = p at *
      generalize u.toNat % 16 = q at *
      have l1' : (p : Int) < 16 := by omega
      have l2' : (q : Int) < 16 := by omega
      have ht : (((u.toNat : Nat) : Int)).tmod 16 = (q : Int) := by rw [Int.tmod_eq_emod_of_nonneg (by omega)]; exact ha
      have wp : IntKind.u8.wrap (p : Int) = (p : Int) := by rw [IntKind.wrap_u8]; omega
      have wq : IntKind.u8.wrap (q : Int) = (q : Int) := by rw [IntKind.wrap_u8]; omega
      have HOd : Hid (Own w.heap.size u3 t wr.drew) := HO.out
      have hcs : (#[Value.int .u8 ((hx p).toNat : Int), Value.int .u8 ((hx q).toNat : Int)] : Array Value).toList = bv [hx p, hx q] := rfl
      go_wp2
      go_region_law (refine step_app rfl (.tmp 12) (.tmp 23) rfl w.heap.size u3 t [hx p, hx q] 2 rfl wr.drew _ hcs (by simp [Act.eval, Act.put]) HOd.out (by simp [Act.eval, Act.put]) HT.out hsz ?_; intro v2 w2 HO2 HB2)
      all_goals go_wp2
      all_goals exact ⟨⟨k + 1, by omega, by go_num, (by rw [HN.out]; exact HO2.out : Own w.heap.size _ (hexL (l.take (k + 1))) _), HB.out.drew.trans HB2.out⟩, by simp [intOf]; omega⟩
    · obtain rfl : k = l.length := by omega
      have hbk := back wr _ _ HO.out.rd
      rw [List.take_length] at hbk
      go_wp2
      go_ret
      exact ⟨rfl, HB.out⟩

end Bs
end Go.Proofs.YtgdecgagdacipaaGreatDoor
