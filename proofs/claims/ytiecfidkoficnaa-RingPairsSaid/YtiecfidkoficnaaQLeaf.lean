/-
  The queue's small functions.
-/
import Derived.Test.YtiecfidkoficnaaQBase
import Derived.Test.YtiecfidkoficnaaGCore
set_option maxRecDepth 100000
set_option linter.unusedVariables false
set_option linter.unusedSimpArgs false
namespace Go.Proofs.Ytiecfidkoficnaa
open Go.RowKit
namespace Rg

set_option maxRecDepth 100000 in
theorem qLen_S {w : World} {p : Option Addr} {bs : List Nat} {cap : Nat} {xs : List (List Value)} (H : QP w 9 1 97 p bs cap xs) : Calls Try.prog 24 #[.pointer p] w fun e w' => e = .returned (.int .i64 (xs.length : Int)) ∧ Below w.heap.size w w' := by
  rcases H with ⟨rfl, _, _, rfl⟩ | ⟨qp, sv, head, n, cs, rfl, _, H, hx⟩
  · go_enter Try.func24, Try.ntmps24
    go_wp2
    go_ret
    exact ⟨rfl, Below.refl _ _⟩
  · obtain ⟨c0, c1, c2, c3, cf⟩ := row4q H.str
    clear H hx
    go_enter Try.func24, Try.ntmps24
    go_wp2
    go_ret
    exact ⟨rfl, Below.refl _ _⟩

set_option maxRecDepth 100000 in
theorem qCap_S {w : World} {p : Option Addr} {bs : List Nat} {cap : Nat} {xs : List (List Value)} (H : QP w 9 1 97 p bs cap xs) : Calls Try.prog 25 #[.pointer p] w fun e w' => e = .returned (.int .i64 (cap : Int)) ∧ Below w.heap.size w w' := by
  rcases H with ⟨rfl, _, rfl, rfl⟩ | ⟨qp, sv, head, n, cs, rfl, _, H, hx⟩
  · go_enter Try.func25, Try.ntmps25
    go_wp2
    go_ret
    exact ⟨rfl, Below.refl _ _⟩
  · obtain ⟨c0, c1, c2, c3, cf⟩ := row4q H.str
    clear H hx
    go_enter Try.func25, Try.ntmps25
    go_wp2
    go_ret
    exact ⟨rfl, Below.refl _ _⟩

set_option maxRecDepth 100000 in
theorem qPlace_S {w : World} {qp : Nat} {sv : Value} {cap head count n : Nat} {cs : List Value} (H : IsQ w 9 1 97 qp sv cap head count n cs) (i : Nat) (hi : i ≤ cap) : Calls Try.prog 49 #[.pointer (some ⟨qp, 0, none⟩), .int .i64 (i : Int)] w fun e w' => e = .returned (.int .i64 ((pl cap head i : Nat) : Int)) ∧ Below w.heap.size w w' := by
  obtain ⟨c0, c1, c2, c3, cf⟩ := row4q H.str
  have h1 := H.hh
  have h2 := H.cap2
  clear H
  by_cases hc : cap ≤ head + i
  · have HP : Hid (pl cap head i = head + i - cap) := if_pos hc
    have hc' : (cap : Int) ≤ (i : Int) + (head : Int) := by omega
    go_enter Try.func49, Try.ntmps49
    go_wp2
    go_ret
    exact ⟨by rw [HP.out]; go_num, Below.refl _ _⟩
  · have HP : Hid (pl cap head i = head + i) := if_neg hc
    have hc' : ¬ (cap : Int) ≤ (i : Int) + (head : Int) := by omega
    go_enter Try.func49, Try.ntmps49
    go_wp2
    go_ret
    exact ⟨by rw [HP.out]; go_num, Below.refl _ _⟩

set_option maxRecDepth 100000 in
theorem qNew_S (w : World) (c : Int) (h0 : -9223372036854775808 ≤ c) (h1 : c ≤ 9223372036854775807) : Calls Try.prog 18 #[.int .i64 c] w fun e w' => ∃ (p : Option Addr) (bs : List Nat) (cap : Nat) (E : Int), e = .returned (.tuple #[.pointer p, .int .i64 E]) ∧ NewQ w c p bs cap E ∧ QP w' 9 1 97 p bs cap [] ∧ Below w.heap.size w w' := by
  by_cases hb : 1 ≤ c ∧ c ≤ 65536
  · obtain ⟨cap, rfl⟩ := Int.eq_ofNat_of_zero_le (show 0 ≤ c by omega)
    have g1 : ¬ ((cap : Nat) : Int) < 1 := by omega
    have g2 : ¬ (65536 : Int) < ((cap : Nat) : Int) := by omega
    go_enter Try.func18, Try.ntmps18
    go_wp2
    go_ret2
    refine ⟨_, [w.heap.size], cap, 0, rfl, .inl ⟨by omega, by omega, rfl, rfl, rfl, rfl⟩, .inr ⟨w.heap.size, .slice none 0 0, 0, 0, [], rfl, rfl, ⟨heap_alloc_new _ _, World.ownsRow_nil _ _ _ _, (fun g hg => by cases hg), by omega, by omega, by omega, by simp, by omega, (fun _ => by simp)⟩, rfl⟩, (Below.refl _ w).alloc (Nat.le_refl _) _⟩
  · by_cases g1 : c < 1
    · go_enter Try.func18, Try.ntmps18
      go_wp2
      go_ret2
      exact ⟨none, [], 0, 20, rfl, .inr ⟨hb, rfl, rfl, rfl⟩, .inl ⟨rfl, rfl, rfl, rfl⟩, Below.refl _ _⟩
    · have g2 : (65536 : Int) < c := by omega
      go_enter Try.func18, Try.ntmps18
      go_wp2
      go_ret2
      exact ⟨none, [], 0, 20, rfl, .inr ⟨hb, rfl, rfl, rfl⟩, .inl ⟨rfl, rfl, rfl, rfl⟩, Below.refl _ _⟩

set_option maxRecDepth 100000 in
theorem qLen_P {w : World} {p : Option Addr} {bs : List Nat} {cap : Nat} {xs : List (List Value)} (H : QP w 68 2 102 p bs cap xs) : Calls Try.prog 31 #[.pointer p] w fun e w' => e = .returned (.int .i64 (xs.length : Int)) ∧ Below w.heap.size w w' := by
  rcases H with ⟨rfl, _, _, rfl⟩ | ⟨qp, sv, head, n, cs, rfl, _, H, hx⟩
  · go_enter Try.func31, Try.ntmps31
    go_wp2
    go_ret
    exact ⟨rfl, Below.refl _ _⟩
  · obtain ⟨c0, c1, c2, c3, cf⟩ := row4q H.str
    clear H hx
    go_enter Try.func31, Try.ntmps31
    go_wp2
    go_ret
    exact ⟨rfl, Below.refl _ _⟩

set_option maxRecDepth 100000 in
theorem qCap_P {w : World} {p : Option Addr} {bs : List Nat} {cap : Nat} {xs : List (List Value)} (H : QP w 68 2 102 p bs cap xs) : Calls Try.prog 51 #[.pointer p] w fun e w' => e = .returned (.int .i64 (cap : Int)) ∧ Below w.heap.size w w' := by
  rcases H with ⟨rfl, _, rfl, rfl⟩ | ⟨qp, sv, head, n, cs, rfl, _, H, hx⟩
  · go_enter Try.func51, Try.ntmps51
    go_wp2
    go_ret
    exact ⟨rfl, Below.refl _ _⟩
  · obtain ⟨c0, c1, c2, c3, cf⟩ := row4q H.str
    clear H hx
    go_enter Try.func51, Try.ntmps51
    go_wp2
    go_ret
    exact ⟨rfl, Below.refl _ _⟩

set_option maxRecDepth 100000 in
theorem qPlace_P {w : World} {qp : Nat} {sv : Value} {cap head count n : Nat} {cs : List Value} (H : IsQ w 68 2 102 qp sv cap head count n cs) (i : Nat) (hi : i ≤ cap) : Calls Try.prog 52 #[.pointer (some ⟨qp, 0, none⟩), .int .i64 (i : Int)] w fun e w' => e = .returned (.int .i64 ((pl cap head i : Nat) : Int)) ∧ Below w.heap.size w w' := by
  obtain ⟨c0, c1, c2, c3, cf⟩ := row4q H.str
  have h1 := H.hh
  have h2 := H.cap2
  clear H
  by_cases hc : cap ≤ head + i
  · have HP : Hid (pl cap head i = head + i - cap) := if_pos hc
    have hc' : (cap : Int) ≤ (i : Int) + (head : Int) := by omega
    go_enter Try.func52, Try.ntmps52
    go_wp2
    go_ret
    exact ⟨by rw [HP.out]; go_num, Below.refl _ _⟩
  · have HP : Hid (pl cap head i = head + i) := if_neg hc
    have hc' : ¬ (cap : Int) ≤ (i : Int) + (head : Int) := by omega
    go_enter Try.func52, Try.ntmps52
    go_wp2
    go_ret
    exact ⟨by rw [HP.out]; go_num, Below.refl _ _⟩

set_option maxRecDepth 100000 in
theorem qNew_P (w : World) (c : Int) (h0 : -9223372036854775808 ≤ c) (h1 : c ≤ 9223372036854775807) : Calls Try.prog 28 #[.int .i64 c] w fun e w' => ∃ (p : Option Addr) (bs : List Nat) (cap : Nat) (E : Int), e = .returned (.tuple #[.pointer p, .int .i64 E]) ∧ NewQ w c p bs cap E ∧ QP w' 68 2 102 p bs cap [] ∧ Below w.heap.size w w' := by
  by_cases hb : 1 ≤ c ∧ c ≤ 65536
  · obtain ⟨cap, rfl⟩ := Int.eq_ofNat_of_zero_le (show 0 ≤ c by omega)
    have g1 : ¬ ((cap : Nat) : Int) < 1 := by omega
    have g2 : ¬ (65536 : Int) < ((cap : Nat) : Int) := by omega
    go_enter Try.func28, Try.ntmps28
    go_wp2
    go_ret2
    refine ⟨_, [w.heap.size], cap, 0, rfl, .inl ⟨by omega, by omega, rfl, rfl, rfl, rfl⟩, .inr ⟨w.heap.size, .slice none 0 0, 0, 0, [], rfl, rfl, ⟨heap_alloc_new _ _, World.ownsRow_nil _ _ _ _, (fun g hg => by cases hg), by omega, by omega, by omega, by simp, by omega, (fun _ => by simp)⟩, rfl⟩, (Below.refl _ w).alloc (Nat.le_refl _) _⟩
  · by_cases g1 : c < 1
    · go_enter Try.func28, Try.ntmps28
      go_wp2
      go_ret2
      exact ⟨none, [], 0, 20, rfl, .inr ⟨hb, rfl, rfl, rfl⟩, .inl ⟨rfl, rfl, rfl, rfl⟩, Below.refl _ _⟩
    · have g2 : (65536 : Int) < c := by omega
      go_enter Try.func28, Try.ntmps28
      go_wp2
      go_ret2
      exact ⟨none, [], 0, 20, rfl, .inr ⟨hb, rfl, rfl, rfl⟩, .inl ⟨rfl, rfl, rfl, rfl⟩, Below.refl _ _⟩

set_option maxRecDepth 100000 in
theorem qLen_I {w : World} {p : Option Addr} {bs : List Nat} {cap : Nat} {xs : List (List Value)} (H : QP w 3 1 106 p bs cap xs) : Calls Try.prog 37 #[.pointer p] w fun e w' => e = .returned (.int .i64 (xs.length : Int)) ∧ Below w.heap.size w w' := by
  rcases H with ⟨rfl, _, _, rfl⟩ | ⟨qp, sv, head, n, cs, rfl, _, H, hx⟩
  · go_enter Try.func37, Try.ntmps37
    go_wp2
    go_ret
    exact ⟨rfl, Below.refl _ _⟩
  · obtain ⟨c0, c1, c2, c3, cf⟩ := row4q H.str
    clear H hx
    go_enter Try.func37, Try.ntmps37
    go_wp2
    go_ret
    exact ⟨rfl, Below.refl _ _⟩

set_option maxRecDepth 100000 in
theorem qCap_I {w : World} {p : Option Addr} {bs : List Nat} {cap : Nat} {xs : List (List Value)} (H : QP w 3 1 106 p bs cap xs) : Calls Try.prog 54 #[.pointer p] w fun e w' => e = .returned (.int .i64 (cap : Int)) ∧ Below w.heap.size w w' := by
  rcases H with ⟨rfl, _, rfl, rfl⟩ | ⟨qp, sv, head, n, cs, rfl, _, H, hx⟩
  · go_enter Try.func54, Try.ntmps54
    go_wp2
    go_ret
    exact ⟨rfl, Below.refl _ _⟩
  · obtain ⟨c0, c1, c2, c3, cf⟩ := row4q H.str
    clear H hx
    go_enter Try.func54, Try.ntmps54
    go_wp2
    go_ret
    exact ⟨rfl, Below.refl _ _⟩

set_option maxRecDepth 100000 in
theorem qPlace_I {w : World} {qp : Nat} {sv : Value} {cap head count n : Nat} {cs : List Value} (H : IsQ w 3 1 106 qp sv cap head count n cs) (i : Nat) (hi : i ≤ cap) : Calls Try.prog 55 #[.pointer (some ⟨qp, 0, none⟩), .int .i64 (i : Int)] w fun e w' => e = .returned (.int .i64 ((pl cap head i : Nat) : Int)) ∧ Below w.heap.size w w' := by
  obtain ⟨c0, c1, c2, c3, cf⟩ := row4q H.str
  have h1 := H.hh
  have h2 := H.cap2
  clear H
  by_cases hc : cap ≤ head + i
  · have HP : Hid (pl cap head i = head + i - cap) := if_pos hc
    have hc' : (cap : Int) ≤ (i : Int) + (head : Int) := by omega
    go_enter Try.func55, Try.ntmps55
    go_wp2
    go_ret
    exact ⟨by rw [HP.out]; go_num, Below.refl _ _⟩
  · have HP : Hid (pl cap head i = head + i) := if_neg hc
    have hc' : ¬ (cap : Int) ≤ (i : Int) + (head : Int) := by omega
    go_enter Try.func55, Try.ntmps55
    go_wp2
    go_ret
    exact ⟨by rw [HP.out]; go_num, Below.refl _ _⟩

set_option maxRecDepth 100000 in
theorem qNew_I (w : World) (c : Int) (h0 : -9223372036854775808 ≤ c) (h1 : c ≤ 9223372036854775807) : Calls Try.prog 32 #[.int .i64 c] w fun e w' => ∃ (p : Option Addr) (bs : List Nat) (cap : Nat) (E : Int), e = .returned (.tuple #[.pointer p, .int .i64 E]) ∧ NewQ w c p bs cap E ∧ QP w' 3 1 106 p bs cap [] ∧ Below w.heap.size w w' := by
  by_cases hb : 1 ≤ c ∧ c ≤ 65536
  · obtain ⟨cap, rfl⟩ := Int.eq_ofNat_of_zero_le (show 0 ≤ c by omega)
    have g1 : ¬ ((cap : Nat) : Int) < 1 := by omega
    have g2 : ¬ (65536 : Int) < ((cap : Nat) : Int) := by omega
    go_enter Try.func32, Try.ntmps32
    go_wp2
    go_ret2
    refine ⟨_, [w.heap.size], cap, 0, rfl, .inl ⟨by omega, by omega, rfl, rfl, rfl, rfl⟩, .inr ⟨w.heap.size, .slice none 0 0, 0, 0, [], rfl, rfl, ⟨heap_alloc_new _ _, World.ownsRow_nil _ _ _ _, (fun g hg => by cases hg), by omega, by omega, by omega, by simp, by omega, (fun _ => by simp)⟩, rfl⟩, (Below.refl _ w).alloc (Nat.le_refl _) _⟩
  · by_cases g1 : c < 1
    · go_enter Try.func32, Try.ntmps32
      go_wp2
      go_ret2
      exact ⟨none, [], 0, 20, rfl, .inr ⟨hb, rfl, rfl, rfl⟩, .inl ⟨rfl, rfl, rfl, rfl⟩, Below.refl _ _⟩
    · have g2 : (65536 : Int) < c := by omega
      go_enter Try.func32, Try.ntmps32
      go_wp2
      go_ret2
      exact ⟨none, [], 0, 20, rfl, .inr ⟨hb, rfl, rfl, rfl⟩, .inl ⟨rfl, rfl, rfl, rfl⟩, Below.refl _ _⟩

end Rg
end Go.Proofs.Ytiecfidkoficnaa
