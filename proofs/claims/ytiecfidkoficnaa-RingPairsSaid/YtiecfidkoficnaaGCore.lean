/-
  The small methods of a ring: what they answer, and that nothing turns.
-/
import Derived.Test.YtiecfidkoficnaaGApp
set_option linter.unusedVariables false
set_option linter.unusedSimpArgs false
namespace Go.Proofs.Ytiecfidkoficnaa
open Go.RowKit
namespace Rg

set_option maxRecDepth 100000 in
theorem Cap_any {w : World} {rp sb cap head : Nat} {xs : List UInt8} (hR : IsRing w rp sb cap head xs) : Calls Try.prog 67 #[.pointer (some ⟨rp, 0, none⟩)] w fun e w' => e = .returned (.int .i64 (cap : Int)) ∧ Below w.heap.size w w' := by
  obtain ⟨c0, c1, c2, cf⟩ := hR.cells
  clear hR
  go_enter Try.func67, Try.ntmps67
  go_wp2
  go_ret
  exact ⟨rfl, Below.refl _ _⟩

set_option maxRecDepth 100000 in
theorem Len_any {w : World} {rp sb cap head : Nat} {xs : List UInt8} (hR : IsRing w rp sb cap head xs) : Calls Try.prog 16 #[.pointer (some ⟨rp, 0, none⟩)] w fun e w' => e = .returned (.int .i64 (xs.length : Int)) ∧ Below w.heap.size w w' := by
  obtain ⟨c0, c1, c2, cf⟩ := hR.cells
  clear hR
  go_enter Try.func16, Try.ntmps16
  go_wp2
  go_ret
  exact ⟨rfl, Below.refl _ _⟩

set_option maxRecDepth 100000 in
theorem Head_any {w : World} {rp sb cap head : Nat} {xs : List UInt8} (hR : IsRing w rp sb cap head xs) : Calls Try.prog 41 #[.pointer (some ⟨rp, 0, none⟩)] w fun e w' => e = .returned (.int .i64 (head : Int)) ∧ Below w.heap.size w w' := by
  obtain ⟨c0, c1, c2, cf⟩ := hR.cells
  clear hR
  go_enter Try.func41, Try.ntmps41
  go_wp2
  go_ret
  exact ⟨rfl, Below.refl _ _⟩

set_option maxRecDepth 100000 in
theorem Free_any {w : World} {rp sb cap head : Nat} {xs : List UInt8} (hR : IsRing w rp sb cap head xs) : Calls Try.prog 59 #[.pointer (some ⟨rp, 0, none⟩)] w fun e w' => e = .returned (.int .i64 ((cap - xs.length : Nat) : Int)) ∧ Below w.heap.size w w' := by
  have HR : Hid (IsRing w rp sb cap head xs) := hR
  have hl := hR.hlen
  have hc := hR.hcap
  clear hR
  go_enter Try.func59, Try.ntmps59
  go_wp2_with fail
  refine (Cap_any HR.out).mono ?_
  rintro e w1 ⟨rfl, hb1⟩
  have HB1 : Hid (Below w.heap.size w w1) := hb1
  clear hb1
  go_wp2_with fail
  refine (Len_any (HR.out.below HB1.out)).mono ?_
  rintro e w2 ⟨rfl, hb2⟩
  have HB2 : Hid (Below w.heap.size w w2) := HB1.out.trans (hb2.mono HB1.out.size)
  clear hb2
  go_wp2
  go_ret
  exact ⟨by go_num, HB2.out⟩

set_option maxRecDepth 100000 in
theorem place_any {w : World} {rp sb cap head : Nat} {xs : List UInt8} (hR : IsRing w rp sb cap head xs) (i : Nat) (hi : i ≤ cap) : Calls Try.prog 62 #[.pointer (some ⟨rp, 0, none⟩), .int .i64 (i : Int)] w fun e w' => e = .returned (.int .i64 ((pl cap head i : Nat) : Int)) ∧ Below w.heap.size w w' := by
  obtain ⟨c0, c1, c2, cf⟩ := hR.cells
  have h1 := hR.hhead
  have h2 := hR.hcap
  clear hR
  by_cases hc : cap ≤ head + i
  · have HP : Hid (pl cap head i = head + i - cap) := if_pos hc
    have hc' : (cap : Int) ≤ (i : Int) + (head : Int) := by omega
    go_enter Try.func62, Try.ntmps62
    go_wp2
    go_ret
    exact ⟨by rw [HP.out]; go_num, Below.refl _ _⟩
  · have HP : Hid (pl cap head i = head + i) := if_neg hc
    have hc' : ¬ (cap : Int) ≤ (i : Int) + (head : Int) := by omega
    go_enter Try.func62, Try.ntmps62
    go_wp2
    go_ret
    exact ⟨by rw [HP.out]; go_num, Below.refl _ _⟩

/-- How many of n bytes wait from a number on. -/
def rch (len : Nat) (from' n : Int) : Nat := if from' < 0 ∨ n < 0 ∨ (len : Int) < from' then 0 else min n.toNat (len - from'.toNat)
theorem rch_le (len : Nat) (f n : Int) : rch len f n ≤ len := by
  unfold rch
  split <;> omega
theorem rch_zero (len : Nat) (n : Nat) : rch len 0 (n : Int) = min n len := by
  unfold rch
  rw [if_neg (by omega)]
  omega
theorem rch_fit (len : Nat) (f n : Int) (h : 0 < rch len f n) : 0 ≤ f ∧ 0 ≤ n ∧ f.toNat + rch len f n ≤ len := by
  unfold rch at *
  split at h
  · omega
  · rename_i hc
    rw [if_neg hc]
    omega

set_option maxRecDepth 100000 in
theorem reach_any {w : World} {rp sb cap head : Nat} {xs : List UInt8} (hR : IsRing w rp sb cap head xs) (f n : Int) (hf0 : -9223372036854775808 ≤ f) (hf1 : f ≤ 9223372036854775807) (hn0 : -9223372036854775808 ≤ n) (hn1 : n ≤ 9223372036854775807) : Calls Try.prog 47 #[.pointer (some ⟨rp, 0, none⟩), .int .i64 f, .int .i64 n] w fun e w' => e = .returned (.int .i64 ((rch xs.length f n : Nat) : Int)) ∧ Below w.heap.size w w' := by
  have HR : Hid (IsRing w rp sb cap head xs) := hR
  have hl := hR.hlen
  have hc := hR.hcap
  clear hR
  by_cases h1 : f < 0
  · have HP : Hid (rch xs.length f n = 0) := if_pos (.inl h1)
    go_enter Try.func47, Try.ntmps47
    go_wp2
    go_ret
    exact ⟨by rw [HP.out]; rfl, Below.refl _ _⟩
  by_cases h2 : n < 0
  · have HP : Hid (rch xs.length f n = 0) := if_pos (.inr (.inl h2))
    go_enter Try.func47, Try.ntmps47
    go_wp2
    go_ret
    exact ⟨by rw [HP.out]; rfl, Below.refl _ _⟩
  go_enter Try.func47, Try.ntmps47
  go_wp2_with fail
  refine (Len_any HR.out).mono ?_
  rintro e w1 ⟨rfl, hb1⟩
  have HB1 : Hid (Below w.heap.size w w1) := hb1
  clear hb1
  by_cases h3 : (xs.length : Int) < f
  · have HP : Hid (rch xs.length f n = 0) := if_pos (.inr (.inr h3))
    go_wp2
    go_ret
    exact ⟨by rw [HP.out]; rfl, HB1.out⟩
  have HP : Hid (rch xs.length f n = min n.toNat (xs.length - f.toNat)) := if_neg (by omega)
  go_wp2_with fail
  refine (Len_any (HR.out.below HB1.out)).mono ?_
  rintro e w2 ⟨rfl, hb2⟩
  have HB2 : Hid (Below w.heap.size w w2) := HB1.out.trans (hb2.mono HB1.out.size)
  clear hb2
  by_cases h4 : n ≤ (xs.length : Int) - f
  · go_wp2
    go_ret
    exact ⟨by rw [HP.out]; go_num, HB2.out⟩
  · go_wp2
    go_ret
    exact ⟨by rw [HP.out]; go_num, HB2.out⟩

end Rg
end Go.Proofs.Ytiecfidkoficnaa
