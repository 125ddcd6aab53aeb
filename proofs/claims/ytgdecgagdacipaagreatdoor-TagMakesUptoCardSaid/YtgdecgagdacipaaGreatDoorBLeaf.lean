/-
  strings.IndexByte, the number of a sign; strings.TrimRight of '='; a slice of bytes of one's own, appended to.
-/
import Derived.Test.YtgdecgagdacipaaGreatDoorBBase
set_option linter.unusedVariables false
set_option linter.unusedSimpArgs false
namespace Go.Proofs.YtgdecgagdacipaaGreatDoor
open Go.RowKit
namespace Bs
set_option maxRecDepth 100000

set_option maxHeartbeats 400000 in
theorem sIndexByte_any (s : ByteArray) (c : Int) (w : World) :
    Calls Tryz.prog 70 #[.string s, .int .u8 c] w fun e w' => e = .returned (.int .i64 (firstIdx s c.toNat.toUInt8)) ∧ w' = w := by
  go_enter Tryz.func70, Tryz.ntmps70
  go_wp2
  rw [run_callFunc_indexByte Tryz.func95 (by kernel_rfl) (by kernel_rfl) (by kernel_rfl) (by kernel_rfl), run_indexByte_string]
  simp only [Result.andThen]
  rw [Oper.upon_value]
  go_wp2
  go_ret
  exact ⟨rfl, rfl⟩

set_option maxHeartbeats 400000 in
theorem IndexByte_any (s : ByteArray) (c : Int) (w : World) :
    Calls Tryz.prog 141 #[.string s, .int .u8 c] w fun e w' => e = .returned (.int .i64 (firstIdx s c.toNat.toUInt8)) ∧ w' = w := by
  go_enter Tryz.func141, Tryz.ntmps141
  go_wp2_with fail
  refine (sIndexByte_any s c w).mono ?_
  rintro e w' ⟨rfl, rfl⟩
  go_wp2
  go_ret
  exact ⟨rfl, rfl⟩

theorem idx_signs (c : UInt8) : firstIdx ⟨#[65, 66, 67, 68, 69, 70, 71, 72, 73, 74, 75, 76, 77, 78, 79, 80, 81, 82, 83, 84, 85, 86, 87, 88, 89, 90, 97, 98, 99, 100, 101, 102, 103, 104, 105, 106, 107, 108, 109, 110, 111, 112, 113, 114, 115, 116, 117, 118, 119, 120, 121, 122, 48, 49, 50, 51, 52, 53, 54, 55, 56, 57, 43, 47]⟩ c = num c := by
  revert c
  apply all_bytes
  decide +kernel
theorem idx_digits (c : UInt8) : firstIdx ⟨#[48, 49, 50, 51, 52, 53, 54, 55, 56, 57, 97, 98, 99, 100, 101, 102]⟩ c = hv c := by
  revert c
  apply all_bytes
  decide +kernel
theorem u8_back (c : UInt8) : ((c.toNat : Int)).toNat.toUInt8 = c := by simp

theorem str_extract (l : List UInt8) (i j : Nat) : (str l).extract i j = str ((l.take j).drop i) := by
  apply eq_list
  rw [str_list, ByteArray.data_extract]
  simp [str, List.drop_take]

set_option maxHeartbeats 400000 in
theorem trimRightByte_any (l : List UInt8) (n : Nat) (hn : n ≤ l.length) (hl : l.length ≤ 140737488355328) (ht : ∀ j, n ≤ j → j < l.length → l.getD j 0 = 61) (h0 : n = 0 ∨ l.getD (n - 1) 0 ≠ 61) (w : World) :
    Calls Tryz.prog 64 #[.string (str l), .int .u8 61] w fun e w' => e = .returned (.string (str (l.take n))) ∧ w' = w := by
  have hsz : ∀ k, (str (l.take k)).size = min k l.length := fun k => by rw [str_size, List.length_take]
  go_enter Tryz.func64, Tryz.ntmps64
  go_wp2
  go_loop [0] (fun v => ∃ k : Nat, n ≤ k ∧ k ≤ l.length ∧ v = .string (str (l.take k))) (fun v => match v with | .string s => s.size | _ => 0)
  case atStart => exact ⟨l.length, hn, Nat.le_refl _, by rw [List.take_length]⟩
  case round =>
    obtain ⟨k, hk, hk', rfl⟩ := hrel
    have hs := hsz k
    rw [Nat.min_eq_left hk'] at hs
    by_cases h : n < k
    · have e : (((str (l.take k))[k - 1]'(by omega)).toNat : Int) = 61 := by
        have := ht (k - 1) (by omega) (by omega)
        rw [← at_lt, str_list, List.getD_eq_getElem?_getD, List.getElem?_take, if_pos (by omega), ← List.getD_eq_getElem?_getD, this]
        rfl
      have HX : Hid ((str (l.take k)).extract 0 (k - 1) = str (l.take (k - 1))) := (by rw [str_extract, List.take_take, Nat.min_eq_left (by omega)]; rfl : (str (l.take k)).extract 0 (k - 1) = str (l.take (k - 1)))
      have HS : Hid ((str (l.take (k - 1))).size = k - 1) := (by rw [hsz]; omega : (str (l.take (k - 1))).size = k - 1)
      go_wp2
      rw [HX.out]
      exact ⟨⟨k - 1, by omega, by omega, rfl⟩, by show (str (l.take (k - 1))).size < (str (l.take k)).size; rw [HS.out, hs]; omega⟩
    · obtain rfl : k = n := by omega
      rcases h0 with h0 | h0
      · subst h0
        go_wp2
        go_ret
        exact ⟨rfl, rfl⟩
      · by_cases hz : k = 0
        · subst hz
          go_wp2
          go_ret
          exact ⟨rfl, rfl⟩
        · have e : (((str (l.take k))[k - 1]'(by omega)).toNat : Int) ≠ 61 := by
            intro e
            apply h0
            rw [← at_lt, str_list, List.getD_eq_getElem?_getD, List.getElem?_take, if_pos (by omega), ← List.getD_eq_getElem?_getD] at e
            exact u8_eq (by show _ = 61; omega)
          have e' : ((((str (l.take k))[k - 1]'(by omega)).toNat : Int) == 61) = false := by simpa using e
          go_wp2
          go_ret
          exact ⟨rfl, rfl⟩

/-- A slice of bytes of the call's own. -/
def Own (B : Nat) (v : Value) (l : List UInt8) (w : World) : Prop := w.ownsRow B 5 1 v l.length (bv l)
theorem Own.alloc {B : Nat} {v : Value} {l : List UInt8} {w : World} (h : Own B v l w) (o : Obj) : Own B v l (w.alloc o) := World.ownsRow.alloc h o
theorem Own.rd {B : Nat} {v : Value} {l : List UInt8} {w : World} (h : Own B v l w) : RdB w v l := RdB.own h
theorem Own.below {B : Nat} {v : Value} {l : List UInt8} {w w' : World} (h : Own B v l w) (b : Below w.heap.size w w') : Own B v l w' := (But.of_below b).owns h (fun _ _ e => by cases e)
theorem own_nil (B : Nat) (w : World) : Own B (.slice none 0 0) [] w := World.ownsRow_nil w B _ 1
theorem own_made (w : World) (c : Nat) (hc : c ≤ 9223372036854775807) (cs : Array Value) (hs : cs.size = c) : Own w.heap.size (.slice (some ⟨w.heap.size, 0, none⟩) 0 c) [] (w.alloc (.cells cs 5)) :=
  World.ownsRow_made w cs c (Nat.le_refl _) (by unfold maxLen; omega) (by omega)
/-- Bytes that were just built, appended to a slice of the call's own. -/
theorem wp_app {ops : Array Oper} {rest : List Oper} {o : Oper} {a : Act} {Q : Exit → Act → World → Prop} (hgd : o.guard = none) (s x : Operand)
    (ho : o.op = .call { callee := .builtin .append, args := #[s, x], argTypes := #[74, 74] }) (B : Nat) (v : Value) (l u : List UInt8) (W : World) (cs : Array Value) (hc : cs.toList = bv u)
    (hs : a.eval s = v) (hown : Own B v l W) (hx : a.eval x = .slice (some ⟨W.heap.size, 0, none⟩) u.length u.length) (hlen : l.length + u.length ≤ 140737488355328) (hB : B ≤ W.heap.size)
    (h : ∀ v' w', Hid (Own B v' (l ++ u) w') → Hid (Below B W w') → wpList Tryz.prog ops Q rest (a.put o.dst v') w') : wpList Tryz.prog ops Q (o :: rest) a (W.alloc (.cells cs 5)) := by
  refine wp_appB (by simp [Region.wanted, hgd]) s x ho B v _ l u hs (hown.alloc _) hx ?_ hlen (by simp; omega) ?_
  · refine ⟨_, _, rfl, Nat.le_refl _, (fun e => by cases e), .inr ⟨W.heap.size, 0, rfl, fun j y hj => ?_⟩⟩
    have h1 : cs[j]? = some (.int .u8 (y.toNat : Int)) := by
      rw [← Array.getElem?_toList, hc, bv_get, hj]
      rfl
    rw [Nat.zero_add]
    have h2 := heap_alloc_new W (.cells cs 5)
    unfold World.cell?
    rw [show (⟨W.heap.size, j, none⟩ : Addr).block = W.heap.size from rfl, h2]
    exact h1
  · intro v' w' h1 h2
    exact h v' w' h1.out (((Below.refl B W).alloc hB _).grown h2.out (by simp; omega) (fun k hk => (World.ownsRow.lt hown k hk).1))

end Bs
end Go.Proofs.YtgdecgagdacipaaGreatDoor
