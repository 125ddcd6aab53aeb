/-
  SHA-1: turning, the eighty words, one piece: over the model's own numbers.
-/
import Derived.Test.YtcnjnlmjgbmjnabDoorBAwake
import Derived.Laws.BitsAllLaws
import Derived.Lib.EndianBits
import Derived.Laws.Closers25b
import Derived.Deep.MidRow
import Derived.Deep.RegionHeld3
set_option linter.unusedVariables false
set_option linter.unusedSimpArgs false
namespace Go.Proofs.YtcnjnlmjgbmjnabDoor
open Go.RowKit
namespace Bs

def U32 (x : Int) : Prop := 0 ≤ x ∧ x ≤ 4294967295
def rl1 (x : Int) : Int := bits .or .u32 (x * 2 % 4294967296) (x / 2147483648)
def rl5 (x : Int) : Int := bits .or .u32 (x * 32 % 4294967296) (x / 134217728)
def rl30 (x : Int) : Int := bits .or .u32 (x * 1073741824 % 4294967296) (x / 4)
theorem bits_u32 (op : BinOp) (a b : Int) : U32 (bits op .u32 a b) := ⟨bits_lo_u32 op a b, bits_hi_u32 op a b⟩
theorem rl1_u (x : Int) : U32 (rl1 x) := bits_u32 _ _ _
theorem rl5_u (x : Int) : U32 (rl5 x) := bits_u32 _ _ _
theorem rl30_u (x : Int) : U32 (rl30 x) := bits_u32 _ _ _

set_option maxRecDepth 100000 in
set_option maxHeartbeats 400000 in
theorem Rot1_any (x : Int) (hx : U32 x) (w : World) : Calls Tryd.prog 35 #[.int .u32 x, .int .i64 1] w fun e w' => e = .returned (.int .u32 (rl1 x)) ∧ w' = w := by
  obtain ⟨h0, h1⟩ := hx
  have hb : bits .and .u64 1 31 = 1 := by decide
  go_enter Tryd.func35, Tryd.ntmps35
  go_wp2
  go_ret
  exact ⟨rfl, rfl⟩

set_option maxRecDepth 100000 in
set_option maxHeartbeats 400000 in
theorem Rot5_any (x : Int) (hx : U32 x) (w : World) : Calls Tryd.prog 35 #[.int .u32 x, .int .i64 5] w fun e w' => e = .returned (.int .u32 (rl5 x)) ∧ w' = w := by
  obtain ⟨h0, h1⟩ := hx
  have hb : bits .and .u64 5 31 = 5 := by decide
  go_enter Tryd.func35, Tryd.ntmps35
  go_wp2
  go_ret
  exact ⟨rfl, rfl⟩

set_option maxRecDepth 100000 in
set_option maxHeartbeats 400000 in
theorem Rot30_any (x : Int) (hx : U32 x) (w : World) : Calls Tryd.prog 35 #[.int .u32 x, .int .i64 30] w fun e w' => e = .returned (.int .u32 (rl30 x)) ∧ w' = w := by
  obtain ⟨h0, h1⟩ := hx
  have hb : bits .and .u64 30 31 = 30 := by decide
  go_enter Tryd.func35, Tryd.ntmps35
  go_wp2
  go_ret
  exact ⟨rfl, rfl⟩

set_option maxRecDepth 100000 in
set_option maxHeartbeats 400000 in
theorem left1_any (x : Int) (hx : U32 x) (w : World) : Calls Tryd.prog 24 #[.int .u32 x, .int .u64 1] w fun e w' => e = .returned (.int .u32 (rl1 x)) ∧ w' = w := by
  obtain ⟨h0, h1⟩ := hx
  go_enter Tryd.func24, Tryd.ntmps24
  go_wp2
  go_ret
  exact ⟨rfl, rfl⟩

set_option maxRecDepth 100000 in
set_option maxHeartbeats 400000 in
theorem left5_any (x : Int) (hx : U32 x) (w : World) : Calls Tryd.prog 24 #[.int .u32 x, .int .u64 5] w fun e w' => e = .returned (.int .u32 (rl5 x)) ∧ w' = w := by
  obtain ⟨h0, h1⟩ := hx
  go_enter Tryd.func24, Tryd.ntmps24
  go_wp2
  go_ret
  exact ⟨rfl, rfl⟩

set_option maxRecDepth 100000 in
set_option maxHeartbeats 400000 in
theorem left30_any (x : Int) (hx : U32 x) (w : World) : Calls Tryd.prog 24 #[.int .u32 x, .int .u64 30] w fun e w' => e = .returned (.int .u32 (rl30 x)) ∧ w' = w := by
  obtain ⟨h0, h1⟩ := hx
  go_enter Tryd.func24, Tryd.ntmps24
  go_wp2
  go_ret
  exact ⟨rfl, rfl⟩

/- The words of a piece. -/
def n256 (l : List UInt8) : Nat := l.foldl (fun a b => a * 256 + b.toNat) 0
theorem n256_snoc (l : List UInt8) (b : UInt8) : n256 (l ++ [b]) = n256 l * 256 + b.toNat := by unfold n256; rw [List.foldl_append]; rfl
theorem n256_lt : ∀ (l : List UInt8), l.length ≤ 3 → n256 l < 16777216
  | [], _ => by decide
  | [a], _ => by have := a.toNat_lt; show 0 * 256 + a.toNat < _; omega
  | [a, b], _ => by have := a.toNat_lt; have := b.toNat_lt; simp [n256]; omega
  | [a, b, c], _ => by have := a.toNat_lt; have := b.toNat_lt; have := c.toNat_lt; simp [n256]; omega
  | _ :: _ :: _ :: _ :: _, h => by simp at h
/-- The word j, when i bytes have come. -/
def pw (p : List UInt8) (i j : Nat) : Nat := n256 (((p.take i).drop (4 * j)).take 4)
theorem pw_lt (p : List UInt8) (i j : Nat) : pw p i j < 4294967296 := by
  unfold pw
  have hl : (((p.take i).drop (4 * j)).take 4).length ≤ 4 := by rw [List.length_take]; omega
  generalize ((p.take i).drop (4 * j)).take 4 = l at hl
  match l, hl with
  | [], _ => decide
  | a :: l, h =>
    have := n256_lt ((a :: l).dropLast) (by simp at h ⊢; omega)
    have e := List.dropLast_concat_getLast (l := a :: l) (by simp)
    rw [← e, n256_snoc]
    have := ((a :: l).getLast (by simp)).toNat_lt
    omega
theorem pw_zero (p : List UInt8) (j : Nat) : pw p 0 j = 0 := by unfold pw; simp [n256]
theorem pw_else (p : List UInt8) (i j : Nat) (hi : i < p.length) (h : j ≠ i / 4) : pw p (i + 1) j = pw p i j := by
  unfold pw
  congr 1
  rw [take_snoc p i hi]
  rcases Nat.lt_or_gt_of_ne h with h | h
  · rw [List.drop_append_of_le_length (by simp; omega), List.take_append_of_le_length (by simp; omega)]
  · rw [List.drop_of_length_le (by simp; omega), List.drop_of_length_le (by simp; omega)]
theorem pw_step (p : List UInt8) (i : Nat) (hi : i < p.length) : pw p (i + 1) (i / 4) = pw p i (i / 4) * 256 + (p.getD i 0).toNat ∧ pw p i (i / 4) < 16777216 := by
  have e0 : (p.take i).length = i := by simp; omega
  have e1 : ((p.take i).drop (4 * (i / 4))).length = i % 4 := by simp; omega
  have e2 : (((p.take i).drop (4 * (i / 4))).take 4) = (p.take i).drop (4 * (i / 4)) := List.take_of_length_le (by omega)
  refine ⟨?_, ?_⟩
  · unfold pw
    rw [take_snoc p i hi, List.drop_append_of_le_length (by omega), List.take_of_length_le (by simp; omega), n256_snoc, e2]
  · unfold pw
    rw [e2]
    exact n256_lt _ (by omega)

/-- The eighty words. -/
def wsch (p : List UInt8) (t : Nat) : Int :=
  if h : t < 16 then ((pw p 64 t : Nat) : Int) else rl1 (bits .xor .u32 (bits .xor .u32 (bits .xor .u32 (wsch p (t - 3)) (wsch p (t - 8))) (wsch p (t - 14))) (wsch p (t - 16)))
termination_by t
decreasing_by all_goals omega
theorem wsch_lt (p : List UInt8) (t : Nat) (h : t < 16) : wsch p t = ((pw p 64 t : Nat) : Int) := by rw [wsch, dif_pos h]
theorem wsch_ge (p : List UInt8) (t : Nat) (h : 16 ≤ t) : wsch p t = rl1 (bits .xor .u32 (bits .xor .u32 (bits .xor .u32 (wsch p (t - 3)) (wsch p (t - 8))) (wsch p (t - 14))) (wsch p (t - 16))) := by rw [wsch, dif_neg (by omega)]
theorem wsch_u (p : List UInt8) (t : Nat) : U32 (wsch p t) := by
  by_cases h : t < 16
  · rw [wsch_lt p t h]
    have := pw_lt p 64 t
    exact ⟨by omega, by omega⟩
  · rw [wsch_ge p t (by omega)]
    exact rl1_u _
/-- What word j holds when the words below t are made. -/
def wst (p : List UInt8) (t j : Nat) : Int := if j < t then wsch p j else 0

end Bs
end Go.Proofs.YtcnjnlmjgbmjnabDoor
