/-
  strings.IndexByte, the number of a sign; strings.TrimRight of '='; a slice of bytes of one's own, appended to.
-/
import Derived.Test.YtcnjnlmjgbmjnabBBase
set_option linter.unusedVariables false
set_option linter.unusedSimpArgs false
namespace Go.Proofs.Ytcnjnlmjgbmjnab
open Go.RowKit
namespace Bs

theorem idx_signs (c : UInt8) : firstIdx ⟨#[65, 66, 67, 68, 69, 70, 71, 72, 73, 74, 75, 76, 77, 78, 79, 80, 81, 82, 83, 84, 85, 86, 87, 88, 89, 90, 97, 98, 99, 100, 101, 102, 103, 104, 105, 106, 107, 108, 109, 110, 111, 112, 113, 114, 115, 116, 117, 118, 119, 120, 121, 122, 48, 49, 50, 51, 52, 53, 54, 55, 56, 57, 43, 47]⟩ c = num c := by
  revert c
  apply all_bytes
  decide +kernel
theorem idx_digits (c : UInt8) : firstIdx ⟨#[48, 49, 50, 51, 52, 53, 54, 55, 56, 57, 97, 98, 99, 100, 101, 102]⟩ c = hv c := by
  revert c
  apply all_bytes
  decide +kernel
theorem u8_back (c : UInt8) : ((c.toNat : Int)).toNat.toUInt8 = c := by simp

theorem str_extract (l : List UInt8) (i j : Nat) : (str l).extract i j = str ((l.take j).drop i) := by
  apply eq_list
  rw [str_list, ByteArray.data_extract]
  simp [str, List.drop_take]

/-- A slice of bytes of the call's own. -/
def Own (B : Nat) (v : Value) (l : List UInt8) (w : World) : Prop := w.ownsRow B 5 1 v l.length (bv l)
theorem Own.alloc {B : Nat} {v : Value} {l : List UInt8} {w : World} (h : Own B v l w) (o : Obj) : Own B v l (w.alloc o) := World.ownsRow.alloc h o
theorem Own.rd {B : Nat} {v : Value} {l : List UInt8} {w : World} (h : Own B v l w) : RdB w v l := RdB.own h
theorem Own.below {B : Nat} {v : Value} {l : List UInt8} {w w' : World} (h : Own B v l w) (b : Below w.heap.size w w') : Own B v l w' := (But.of_below b).owns h (fun _ _ e => by cases e)
theorem own_nil (B : Nat) (w : World) : Own B (.slice none 0 0) [] w := World.ownsRow_nil w B _ 1
theorem own_made (w : World) (c : Nat) (hc : c ≤ 9223372036854775807) (cs : Array Value) (hs : cs.size = c) : Own w.heap.size (.slice (some ⟨w.heap.size, 0, none⟩) 0 c) [] (w.alloc (.cells cs 5)) :=
  World.ownsRow_made w cs c (Nat.le_refl _) (by unfold maxLen; omega) (by omega)
/-- Bytes that were just built, appended to a slice of the call's own. -/
theorem wp_app {ops : Array Oper} {rest : List Oper} {o : Oper} {a : Act} {Q : Exit → Act → World → Prop} (hgd : o.guard = none) (s x : Operand)
    (ho : o.op = .call { callee := .builtin .append, args := #[s, x], argTypes := #[27, 27] }) (B : Nat) (v : Value) (l u : List UInt8) (W : World) (cs : Array Value) (hc : cs.toList = bv u)
    (hs : a.eval s = v) (hown : Own B v l W) (hx : a.eval x = .slice (some ⟨W.heap.size, 0, none⟩) u.length u.length) (hlen : l.length + u.length ≤ 140737488355328) (hB : B ≤ W.heap.size)
    (h : ∀ v' w', Hid (Own B v' (l ++ u) w') → Hid (Below B W w') → wpList Try.prog ops Q rest (a.put o.dst v') w') : wpList Try.prog ops Q (o :: rest) a (W.alloc (.cells cs 5)) := by
  refine wp_appB (by simp [Region.wanted, hgd]) s x ho B v _ l u hs (hown.alloc _) hx ?_ hlen (by simp; omega) ?_
  · refine ⟨_, _, rfl, Nat.le_refl _, (fun e => by cases e), .inr ⟨W.heap.size, 0, rfl, fun j y hj => ?_⟩⟩
    have h1 : cs[j]? = some (.int .u8 (y.toNat : Int)) := by
      rw [← Array.getElem?_toList, hc, bv_get, hj]
      rfl
    rw [Nat.zero_add]
    have h2 := heap_alloc_new W (.cells cs 5)
    unfold World.cell?
    rw [show (⟨W.heap.size, j, none⟩ : Addr).block = W.heap.size from rfl, h2]
    exact h1
  · intro v' w' h1 h2
    exact h v' w' h1.out (((Below.refl B W).alloc hB _).grown h2.out (by simp; omega) (fun k hk => (World.ownsRow.lt hown k hk).1))

end Bs
end Go.Proofs.Ytcnjnlmjgbmjnab
