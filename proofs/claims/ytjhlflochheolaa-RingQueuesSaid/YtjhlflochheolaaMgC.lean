/- Several texts as one. -/
import Derived.Test.YtjhlflochheolaaMgB
import Derived.Deep.RegionHeld3
/-
  The small methods of a ring: what they answer, and that nothing turns.
-/
set_option linter.unusedVariables false
set_option linter.unusedSimpArgs false
namespace Go.Proofs.Ytjhlflochheolaa
open Go.RowKit
namespace Rg

set_option maxRecDepth 100000 in
theorem Cap_any {w : World} {rp sb cap head : Nat} {xs : List UInt8} (hR : IsRing w rp sb cap head xs) : Calls Try.prog 58 #[.pointer (some ⟨rp, 0, none⟩)] w fun e w' => e = .returned (.int .i64 (cap : Int)) ∧ Below w.heap.size w w' := by
  obtain ⟨c0, c1, c2, cf⟩ := hR.cells
  clear hR
  go_enter Try.func58, Try.ntmps58
  go_wp2
  go_ret
  exact ⟨rfl, Below.refl _ _⟩

set_option maxRecDepth 100000 in
theorem Len_any {w : World} {rp sb cap head : Nat} {xs : List UInt8} (hR : IsRing w rp sb cap head xs) : Calls Try.prog 15 #[.pointer (some ⟨rp, 0, none⟩)] w fun e w' => e = .returned (.int .i64 (xs.length : Int)) ∧ Below w.heap.size w w' := by
  obtain ⟨c0, c1, c2, cf⟩ := hR.cells
  clear hR
  go_enter Try.func15, Try.ntmps15
  go_wp2
  go_ret
  exact ⟨rfl, Below.refl _ _⟩

set_option maxRecDepth 100000 in
theorem Head_any {w : World} {rp sb cap head : Nat} {xs : List UInt8} (hR : IsRing w rp sb cap head xs) : Calls Try.prog 36 #[.pointer (some ⟨rp, 0, none⟩)] w fun e w' => e = .returned (.int .i64 (head : Int)) ∧ Below w.heap.size w w' := by
  obtain ⟨c0, c1, c2, cf⟩ := hR.cells
  clear hR
  go_enter Try.func36, Try.ntmps36
  go_wp2
  go_ret
  exact ⟨rfl, Below.refl _ _⟩

set_option maxRecDepth 100000 in
theorem Free_any {w : World} {rp sb cap head : Nat} {xs : List UInt8} (hR : IsRing w rp sb cap head xs) : Calls Try.prog 51 #[.pointer (some ⟨rp, 0, none⟩)] w fun e w' => e = .returned (.int .i64 ((cap - xs.length : Nat) : Int)) ∧ Below w.heap.size w w' := by
  have HR : Hid (IsRing w rp sb cap head xs) := hR
  have hl := hR.hlen
  have hc := hR.hcap
  clear hR
  go_enter Try.func51, Try.ntmps51
  go_wp2_with fail
  refine (Cap_any HR.out).mono ?_
  rintro e w1 ⟨rfl, hb1⟩
  have HB1 : Hid (Below w.heap.size w w1) := hb1
  clear hb1
  go_wp2_with fail
  refine (Len_any (HR.out.below HB1.out)).mono ?_
  rintro e w2 ⟨rfl, hb2⟩
  have HB2 : Hid (Below w.heap.size w w2) := HB1.out.trans (hb2.mono HB1.out.size)
  clear hb2
  go_wp2
  go_ret
  exact ⟨by go_num, HB2.out⟩

set_option maxRecDepth 100000 in
theorem place_any {w : World} {rp sb cap head : Nat} {xs : List UInt8} (hR : IsRing w rp sb cap head xs) (i : Nat) (hi : i ≤ cap) : Calls Try.prog 54 #[.pointer (some ⟨rp, 0, none⟩), .int .i64 (i : Int)] w fun e w' => e = .returned (.int .i64 ((pl cap head i : Nat) : Int)) ∧ Below w.heap.size w w' := by
  obtain ⟨c0, c1, c2, cf⟩ := hR.cells
  have h1 := hR.hhead
  have h2 := hR.hcap
  clear hR
  by_cases hc : cap ≤ head + i
  · have HP : Hid (pl cap head i = head + i - cap) := if_pos hc
    have hc' : (cap : Int) ≤ (i : Int) + (head : Int) := by omega
    go_enter Try.func54, Try.ntmps54
    go_wp2
    go_ret
    exact ⟨by rw [HP.out]; go_num, Below.refl _ _⟩
  · have HP : Hid (pl cap head i = head + i) := if_neg hc
    have hc' : ¬ (cap : Int) ≤ (i : Int) + (head : Int) := by omega
    go_enter Try.func54, Try.ntmps54
    go_wp2
    go_ret
    exact ⟨by rw [HP.out]; go_num, Below.refl _ _⟩

/-- How many of n bytes wait from a number on. -/
def rch (len : Nat) (from' n : Int) : Nat := if from' < 0 ∨ n < 0 ∨ (len : Int) < from' then 0 else min n.toNat (len - from'.toNat)
theorem rch_le (len : Nat) (f n : Int) : rch len f n ≤ len := by
  unfold rch
  split <;> omega
theorem rch_zero (len : Nat) (n : Nat) : rch len 0 (n : Int) = min n len := by
  unfold rch
  rw [if_neg (by omega)]
  omega
theorem rch_fit (len : Nat) (f n : Int) (h : 0 < rch len f n) : 0 ≤ f ∧ 0 ≤ n ∧ f.toNat + rch len f n ≤ len := by
  unfold rch at *
  split at h
  · omega
  · rename_i hc
    rw [if_neg hc]
    omega

set_option maxRecDepth 100000 in
theorem reach_any {w : World} {rp sb cap head : Nat} {xs : List UInt8} (hR : IsRing w rp sb cap head xs) (f n : Int) (hf0 : -9223372036854775808 ≤ f) (hf1 : f ≤ 9223372036854775807) (hn0 : -9223372036854775808 ≤ n) (hn1 : n ≤ 9223372036854775807) : Calls Try.prog 42 #[.pointer (some ⟨rp, 0, none⟩), .int .i64 f, .int .i64 n] w fun e w' => e = .returned (.int .i64 ((rch xs.length f n : Nat) : Int)) ∧ Below w.heap.size w w' := by
  have HR : Hid (IsRing w rp sb cap head xs) := hR
  have hl := hR.hlen
  have hc := hR.hcap
  clear hR
  by_cases h1 : f < 0
  · have HP : Hid (rch xs.length f n = 0) := if_pos (.inl h1)
    go_enter Try.func42, Try.ntmps42
    go_wp2
    go_ret
    exact ⟨by rw [HP.out]; rfl, Below.refl _ _⟩
  by_cases h2 : n < 0
  · have HP : Hid (rch xs.length f n = 0) := if_pos (.inr (.inl h2))
    go_enter Try.func42, Try.ntmps42
    go_wp2
    go_ret
    exact ⟨by rw [HP.out]; rfl, Below.refl _ _⟩
  go_enter Try.func42, Try.ntmps42
  go_wp2_with fail
  refine (Len_any HR.out).mono ?_
  rintro e w1 ⟨rfl, hb1⟩
  have HB1 : Hid (Below w.heap.size w w1) := hb1
  clear hb1
  by_cases h3 : (xs.length : Int) < f
  · have HP : Hid (rch xs.length f n = 0) := if_pos (.inr (.inr h3))
    go_wp2
    go_ret
    exact ⟨by rw [HP.out]; rfl, HB1.out⟩
  have HP : Hid (rch xs.length f n = min n.toNat (xs.length - f.toNat)) := if_neg (by omega)
  go_wp2_with fail
  refine (Len_any (HR.out.below HB1.out)).mono ?_
  rintro e w2 ⟨rfl, hb2⟩
  have HB2 : Hid (Below w.heap.size w w2) := HB1.out.trans (hb2.mono HB1.out.size)
  clear hb2
  by_cases h4 : n ≤ (xs.length : Int) - f
  · go_wp2
    go_ret
    exact ⟨by rw [HP.out]; go_num, HB2.out⟩
  · go_wp2
    go_ret
    exact ⟨by rw [HP.out]; go_num, HB2.out⟩

end Rg
end Go.Proofs.Ytjhlflochheolaa

/-
  The queue's small functions.
-/
set_option maxRecDepth 100000
set_option linter.unusedVariables false
set_option linter.unusedSimpArgs false
namespace Go.Proofs.Ytjhlflochheolaa
open Go.RowKit
namespace Rg

set_option maxRecDepth 100000 in
theorem qLen_S {w : World} {p : Option Addr} {bs : List Nat} {cap : Nat} {xs : List (List Value)} (H : QP w 9 1 87 p bs cap xs) : Calls Try.prog 23 #[.pointer p] w fun e w' => e = .returned (.int .i64 (xs.length : Int)) ∧ Below w.heap.size w w' := by
  rcases H with ⟨rfl, _, _, rfl⟩ | ⟨qp, sv, head, n, cs, rfl, _, H, hx⟩
  · go_enter Try.func23, Try.ntmps23
    go_wp2
    go_ret
    exact ⟨rfl, Below.refl _ _⟩
  · obtain ⟨c0, c1, c2, c3, cf⟩ := row4q H.str
    clear H hx
    go_enter Try.func23, Try.ntmps23
    go_wp2
    go_ret
    exact ⟨rfl, Below.refl _ _⟩

set_option maxRecDepth 100000 in
theorem qCap_S {w : World} {p : Option Addr} {bs : List Nat} {cap : Nat} {xs : List (List Value)} (H : QP w 9 1 87 p bs cap xs) : Calls Try.prog 24 #[.pointer p] w fun e w' => e = .returned (.int .i64 (cap : Int)) ∧ Below w.heap.size w w' := by
  rcases H with ⟨rfl, _, rfl, rfl⟩ | ⟨qp, sv, head, n, cs, rfl, _, H, hx⟩
  · go_enter Try.func24, Try.ntmps24
    go_wp2
    go_ret
    exact ⟨rfl, Below.refl _ _⟩
  · obtain ⟨c0, c1, c2, c3, cf⟩ := row4q H.str
    clear H hx
    go_enter Try.func24, Try.ntmps24
    go_wp2
    go_ret
    exact ⟨rfl, Below.refl _ _⟩

set_option maxRecDepth 100000 in
theorem qPlace_S {w : World} {qp : Nat} {sv : Value} {cap head count n : Nat} {cs : List Value} (H : IsQ w 9 1 87 qp sv cap head count n cs) (i : Nat) (hi : i ≤ cap) : Calls Try.prog 44 #[.pointer (some ⟨qp, 0, none⟩), .int .i64 (i : Int)] w fun e w' => e = .returned (.int .i64 ((pl cap head i : Nat) : Int)) ∧ Below w.heap.size w w' := by
  obtain ⟨c0, c1, c2, c3, cf⟩ := row4q H.str
  have h1 := H.hh
  have h2 := H.cap2
  clear H
  by_cases hc : cap ≤ head + i
  · have HP : Hid (pl cap head i = head + i - cap) := if_pos hc
    have hc' : (cap : Int) ≤ (i : Int) + (head : Int) := by omega
    go_enter Try.func44, Try.ntmps44
    go_wp2
    go_ret
    exact ⟨by rw [HP.out]; go_num, Below.refl _ _⟩
  · have HP : Hid (pl cap head i = head + i) := if_neg hc
    have hc' : ¬ (cap : Int) ≤ (i : Int) + (head : Int) := by omega
    go_enter Try.func44, Try.ntmps44
    go_wp2
    go_ret
    exact ⟨by rw [HP.out]; go_num, Below.refl _ _⟩

set_option maxRecDepth 100000 in
theorem qNew_S (w : World) (c : Int) (h0 : -9223372036854775808 ≤ c) (h1 : c ≤ 9223372036854775807) : Calls Try.prog 17 #[.int .i64 c] w fun e w' => ∃ (p : Option Addr) (bs : List Nat) (cap : Nat) (E : Int), e = .returned (.tuple #[.pointer p, .int .i64 E]) ∧ NewQ w c p bs cap E ∧ QP w' 9 1 87 p bs cap [] ∧ Below w.heap.size w w' := by
  by_cases hb : 1 ≤ c ∧ c ≤ 65536
  · obtain ⟨cap, rfl⟩ := Int.eq_ofNat_of_zero_le (show 0 ≤ c by omega)
    have g1 : ¬ ((cap : Nat) : Int) < 1 := by omega
    have g2 : ¬ (65536 : Int) < ((cap : Nat) : Int) := by omega
    go_enter Try.func17, Try.ntmps17
    go_wp2
    go_ret2
    refine ⟨_, [w.heap.size], cap, 0, rfl, .inl ⟨by omega, by omega, rfl, rfl, rfl, rfl⟩, .inr ⟨w.heap.size, .slice none 0 0, 0, 0, [], rfl, rfl, ⟨heap_alloc_new _ _, World.ownsRow_nil _ _ _ _, (fun g hg => by cases hg), by omega, by omega, by omega, by simp, by omega, (fun _ => by simp)⟩, rfl⟩, (Below.refl _ w).alloc (Nat.le_refl _) _⟩
  · by_cases g1 : c < 1
    · go_enter Try.func17, Try.ntmps17
      go_wp2
      go_ret2
      exact ⟨none, [], 0, 20, rfl, .inr ⟨hb, rfl, rfl, rfl⟩, .inl ⟨rfl, rfl, rfl, rfl⟩, Below.refl _ _⟩
    · have g2 : (65536 : Int) < c := by omega
      go_enter Try.func17, Try.ntmps17
      go_wp2
      go_ret2
      exact ⟨none, [], 0, 20, rfl, .inr ⟨hb, rfl, rfl, rfl⟩, .inl ⟨rfl, rfl, rfl, rfl⟩, Below.refl _ _⟩

set_option maxRecDepth 100000 in
theorem qLen_I {w : World} {p : Option Addr} {bs : List Nat} {cap : Nat} {xs : List (List Value)} (H : QP w 3 1 92 p bs cap xs) : Calls Try.prog 32 #[.pointer p] w fun e w' => e = .returned (.int .i64 (xs.length : Int)) ∧ Below w.heap.size w w' := by
  rcases H with ⟨rfl, _, _, rfl⟩ | ⟨qp, sv, head, n, cs, rfl, _, H, hx⟩
  · go_enter Try.func32, Try.ntmps32
    go_wp2
    go_ret
    exact ⟨rfl, Below.refl _ _⟩
  · obtain ⟨c0, c1, c2, c3, cf⟩ := row4q H.str
    clear H hx
    go_enter Try.func32, Try.ntmps32
    go_wp2
    go_ret
    exact ⟨rfl, Below.refl _ _⟩

set_option maxRecDepth 100000 in
theorem qCap_I {w : World} {p : Option Addr} {bs : List Nat} {cap : Nat} {xs : List (List Value)} (H : QP w 3 1 92 p bs cap xs) : Calls Try.prog 46 #[.pointer p] w fun e w' => e = .returned (.int .i64 (cap : Int)) ∧ Below w.heap.size w w' := by
  rcases H with ⟨rfl, _, rfl, rfl⟩ | ⟨qp, sv, head, n, cs, rfl, _, H, hx⟩
  · go_enter Try.func46, Try.ntmps46
    go_wp2
    go_ret
    exact ⟨rfl, Below.refl _ _⟩
  · obtain ⟨c0, c1, c2, c3, cf⟩ := row4q H.str
    clear H hx
    go_enter Try.func46, Try.ntmps46
    go_wp2
    go_ret
    exact ⟨rfl, Below.refl _ _⟩

set_option maxRecDepth 100000 in
theorem qPlace_I {w : World} {qp : Nat} {sv : Value} {cap head count n : Nat} {cs : List Value} (H : IsQ w 3 1 92 qp sv cap head count n cs) (i : Nat) (hi : i ≤ cap) : Calls Try.prog 47 #[.pointer (some ⟨qp, 0, none⟩), .int .i64 (i : Int)] w fun e w' => e = .returned (.int .i64 ((pl cap head i : Nat) : Int)) ∧ Below w.heap.size w w' := by
  obtain ⟨c0, c1, c2, c3, cf⟩ := row4q H.str
  have h1 := H.hh
  have h2 := H.cap2
  clear H
  by_cases hc : cap ≤ head + i
  · have HP : Hid (pl cap head i = head + i - cap) := if_pos hc
    have hc' : (cap : Int) ≤ (i : Int) + (head : Int) := by omega
    go_enter Try.func47, Try.ntmps47
    go_wp2
    go_ret
    exact ⟨by rw [HP.out]; go_num, Below.refl _ _⟩
  · have HP : Hid (pl cap head i = head + i) := if_neg hc
    have hc' : ¬ (cap : Int) ≤ (i : Int) + (head : Int) := by omega
    go_enter Try.func47, Try.ntmps47
    go_wp2
    go_ret
    exact ⟨by rw [HP.out]; go_num, Below.refl _ _⟩

set_option maxRecDepth 100000 in
theorem qNew_I (w : World) (c : Int) (h0 : -9223372036854775808 ≤ c) (h1 : c ≤ 9223372036854775807) : Calls Try.prog 27 #[.int .i64 c] w fun e w' => ∃ (p : Option Addr) (bs : List Nat) (cap : Nat) (E : Int), e = .returned (.tuple #[.pointer p, .int .i64 E]) ∧ NewQ w c p bs cap E ∧ QP w' 3 1 92 p bs cap [] ∧ Below w.heap.size w w' := by
  by_cases hb : 1 ≤ c ∧ c ≤ 65536
  · obtain ⟨cap, rfl⟩ := Int.eq_ofNat_of_zero_le (show 0 ≤ c by omega)
    have g1 : ¬ ((cap : Nat) : Int) < 1 := by omega
    have g2 : ¬ (65536 : Int) < ((cap : Nat) : Int) := by omega
    go_enter Try.func27, Try.ntmps27
    go_wp2
    go_ret2
    refine ⟨_, [w.heap.size], cap, 0, rfl, .inl ⟨by omega, by omega, rfl, rfl, rfl, rfl⟩, .inr ⟨w.heap.size, .slice none 0 0, 0, 0, [], rfl, rfl, ⟨heap_alloc_new _ _, World.ownsRow_nil _ _ _ _, (fun g hg => by cases hg), by omega, by omega, by omega, by simp, by omega, (fun _ => by simp)⟩, rfl⟩, (Below.refl _ w).alloc (Nat.le_refl _) _⟩
  · by_cases g1 : c < 1
    · go_enter Try.func27, Try.ntmps27
      go_wp2
      go_ret2
      exact ⟨none, [], 0, 20, rfl, .inr ⟨hb, rfl, rfl, rfl⟩, .inl ⟨rfl, rfl, rfl, rfl⟩, Below.refl _ _⟩
    · have g2 : (65536 : Int) < c := by omega
      go_enter Try.func27, Try.ntmps27
      go_wp2
      go_ret2
      exact ⟨none, [], 0, 20, rfl, .inr ⟨hb, rfl, rfl, rfl⟩, .inl ⟨rfl, rfl, rfl, rfl⟩, Below.refl _ _⟩

end Rg
end Go.Proofs.Ytjhlflochheolaa

/-
  The queue's At, First.
-/
set_option maxRecDepth 100000
set_option linter.unusedVariables false
set_option linter.unusedSimpArgs false
namespace Go.Proofs.Ytjhlflochheolaa
open Go.RowKit
namespace Rg

theorem wait_get {cap head count S : Nat} {cs : List Value} {i : Nat} {c : List Value} (h : (wait cap head count S cs)[i]? = some c) : i < count ∧ (cs.drop (pl cap head i * S)).take S = c := by
  have hi : i < count := by
    have := (List.getElem?_eq_some_iff.1 h).1
    rwa [wait_length] at this
  refine ⟨hi, ?_⟩
  unfold wait at h
  rw [List.getElem?_map, List.getElem?_range hi] at h
  simpa using h
theorem take_drop_get {cs : List Value} {k S j : Nat} {c : List Value} (h : (cs.drop k).take S = c) (hj : j < c.length) : cs[k + j]? = c[j]? := by
  have h1 : c.length ≤ S := by rw [← h]; simp; omega
  rw [← h, List.getElem?_take_of_lt (by omega), List.getElem?_drop]
theorem IsQ.below {w w' : World} {E S QT qp : Nat} {sv : Value} {cap head count n : Nat} {cs : List Value} (H : IsQ w E S QT qp sv cap head count n cs) (b : Below w.heap.size w w') : IsQ w' E S QT qp sv cap head count n cs :=
  ⟨(But.of_below b).heap H.str (fun e => by cases e), (But.of_below b).owns H.own (fun _ _ e => by cases e), H.sep, H.cap1, H.cap2, H.hn, H.hc, H.hh, H.grow⟩
theorem QP.below {w w' : World} {E S QT : Nat} {p : Option Addr} {bs : List Nat} {cap : Nat} {xs : List (List Value)} (H : QP w E S QT p bs cap xs) (b : Below w.heap.size w w') : QP w' E S QT p bs cap xs := by
  rcases H with H | ⟨qp, sv, head, n, cs, h1, h2, H, h3⟩
  · exact .inl H
  · exact .inr ⟨qp, sv, head, n, cs, h1, h2, H.below b, h3⟩

set_option maxHeartbeats 2000000 in
theorem qAt_S {w : World} {p : Option Addr} {bs : List Nat} {cap : Nat} {xs : List (List Value)} (HQ : QP w 9 1 87 p bs cap xs) (i : Nat) (x : ByteArray) (hx : xs[i]? = some [.string x]) : Calls Try.prog 22 #[.pointer p, .int .i64 (i : Int)] w fun e w' => e = .returned (.tuple #[.string x, .bool true]) ∧ Below w.heap.size w w' := by
  have HQ' : Hid (QP w 9 1 87 p bs cap xs) := HQ
  rcases HQ with ⟨rfl, _, _, rfl⟩ | ⟨qp, sv, head, n, cs, rfl, hbs, H, hxs⟩
  · simp at hx
  clear hbs
  rw [hxs] at hx
  obtain ⟨hi, hw⟩ := wait_get hx
  have hp := H.pl_lt hi
  obtain ⟨g, c, rfl⟩ : ∃ g c, sv = .slice (some ⟨g, 0, none⟩) n c := by
    rcases H.own.2 with ⟨_, e⟩ | ⟨g, c, _, e, _⟩
    · omega
    · exact ⟨g, c, e⟩
  obtain ⟨c0, c1, c2, c3, cf⟩ := row4q H.str
  have g0 : w.cell? ⟨g, pl cap head i, none⟩ = some (.string x) := by rw [H.own.cellAt _ (by have := H.own.1; omega)]; simpa using take_drop_get hw (j := 0) (by simp)
  have HH : Hid (IsQ w 9 1 87 qp (.slice (some ⟨g, 0, none⟩) n c) cap head xs.length n cs) := H
  have hcap := H.cap2
  have hle := H.hc
  have hn := H.hn
  have hmn : n ≤ c := by
    rcases H.own.2 with ⟨e, _⟩ | ⟨g', c', _, e, _, _, h, _⟩
    · cases e
    · injection e with _ _ e3
      omega
  clear H hx hxs hw
  obtain ⟨P, hP⟩ : ∃ P, P = pl cap head i := ⟨_, rfl⟩
  rw [← hP] at hp g0
  have HPP : Hid (pl cap head i = P) := hP.symm
  clear hP
  have hg1 : ¬ ((i : Nat) : Int) < 0 := by omega
  have hg2 : ((i : Nat) : Int) < ((xs.length : Nat) : Int) := by omega
  have hp' : ((P : Nat) : Int) < ((n : Nat) : Int) := by omega
  go_enter Try.func22, Try.ntmps22
  go_wp2_with fail
  refine (qLen_S HQ'.out).mono ?_
  rintro e w1 ⟨rfl, hb⟩
  have HB1 : Hid (Below w.heap.size w w1) := hb
  have k0 := (But.of_below hb).cell c0 (fun e => by cases e)
  have hg0 := (But.of_below hb).cell g0 (fun e => by cases e)
  clear hb c0 c1 c2 c3 cf g0
  go_wp2_with fail
  have HBd : Hid (Below w1.heap.size w1 w1.drew) := (Below.refl _ _).drew
  have d0 : w1.drew.cell? ⟨qp, 0, none⟩ = some (.slice (some ⟨g, 0, none⟩) n c) := k0
  have dg0 : w1.drew.cell? ⟨g, P, none⟩ = some (.string x) := hg0
  go_region_held3 (fun W => W.cell? ⟨qp, 0, none⟩ = some (.slice (some ⟨g, 0, none⟩) n c) ∧ W.cell? ⟨g, P, none⟩ = some (.string x)) (first | exact ⟨d0, dg0⟩ | exact ⟨m0, mg0⟩) (first | (go_at_call 44; refine (qPlace_S ((HH.out.below HB1.out).below HBd.out) i (by omega)).mono ?_; rintro e w2 ⟨rfl, hb2⟩; rw [HPP.out]; have HB2 : Hid (Below w1.heap.size w1 w2) := bel_trans HBd.out hb2; clear hb2; have m0 := (But.of_below HB2.out).cell k0 (fun e => by cases e); have mg0 := (But.of_below HB2.out).cell hg0 (fun e => by cases e)))
  all_goals
    go_wp2
    go_ret2
    exact ⟨rfl, bel_trans HB1.out HB2.out⟩

set_option maxHeartbeats 2000000 in
theorem qAtNo_S {w : World} {p : Option Addr} {bs : List Nat} {cap : Nat} {xs : List (List Value)} (HQ : QP w 9 1 87 p bs cap xs) (i : Int) (hi0 : -9223372036854775808 ≤ i) (hi1 : i ≤ 9223372036854775807) (hx : i < 0 ∨ (xs.length : Int) ≤ i) : Calls Try.prog 22 #[.pointer p, .int .i64 i] w fun e w' => e = .returned (.tuple #[.string ⟨#[]⟩, .bool false]) ∧ Below w.heap.size w w' := by
  have HQ' : Hid (QP w 9 1 87 p bs cap xs) := HQ
  clear HQ
  by_cases hg1 : i < 0
  · clear hx
    go_enter Try.func22, Try.ntmps22
    go_wp2
    go_ret2
    exact ⟨rfl, Below.refl _ _⟩
  · have hg2 : ¬ i < ((xs.length : Nat) : Int) := by omega
    have hg3 : ((xs.length : Nat) : Int) ≤ i := by omega
    clear hx
    go_enter Try.func22, Try.ntmps22
    go_wp2_with fail
    refine (qLen_S HQ'.out).mono ?_
    rintro e w1 ⟨rfl, hb⟩
    have HB1 : Hid (Below w.heap.size w w1) := hb
    clear hb
    go_wp2
    go_ret2
    exact ⟨rfl, HB1.out⟩

set_option maxHeartbeats 2000000 in
theorem qFirst_S {w : World} {p : Option Addr} {bs : List Nat} {cap : Nat} {xs : List (List Value)} (HQ : QP w 9 1 87 p bs cap xs) (x : ByteArray) (hx : xs[0]? = some [.string x]) : Calls Try.prog 21 #[.pointer p] w fun e w' => e = .returned (.tuple #[.string x, .bool true]) ∧ Below w.heap.size w w' := by
  have H0 := qAt_S HQ 0 x hx
  have HH0 : Hid (Calls Try.prog 22 #[.pointer p, .int .i64 0] w fun e w' => e = .returned (.tuple #[.string x, .bool true]) ∧ Below w.heap.size w w') := H0
  clear HQ H0 hx
  go_enter Try.func21, Try.ntmps21
  go_wp2_with fail
  refine HH0.out.mono ?_
  rintro e w1 ⟨rfl, hb⟩
  have HB1 : Hid (Below w.heap.size w w1) := hb
  clear hb
  go_wp2
  go_ret2
  exact ⟨rfl, HB1.out⟩

set_option maxHeartbeats 2000000 in
theorem qFirstNo_S {w : World} {p : Option Addr} {bs : List Nat} {cap : Nat} (HQ : QP w 9 1 87 p bs cap []) : Calls Try.prog 21 #[.pointer p] w fun e w' => e = .returned (.tuple #[.string ⟨#[]⟩, .bool false]) ∧ Below w.heap.size w w' := by
  have H0 := qAtNo_S HQ 0 (by omega) (by omega) (.inr (by simp))
  have HH0 : Hid (Calls Try.prog 22 #[.pointer p, .int .i64 0] w fun e w' => e = .returned (.tuple #[.string ⟨#[]⟩, .bool false]) ∧ Below w.heap.size w w') := H0
  clear HQ H0
  go_enter Try.func21, Try.ntmps21
  go_wp2_with fail
  refine HH0.out.mono ?_
  rintro e w1 ⟨rfl, hb⟩
  have HB1 : Hid (Below w.heap.size w w1) := hb
  clear hb
  go_wp2
  go_ret2
  exact ⟨rfl, HB1.out⟩

set_option maxHeartbeats 2000000 in
theorem qAt_I {w : World} {p : Option Addr} {bs : List Nat} {cap : Nat} {xs : List (List Value)} (HQ : QP w 3 1 92 p bs cap xs) (i : Nat) (x : Int) (hx : xs[i]? = some [.int .i64 x]) : Calls Try.prog 57 #[.pointer p, .int .i64 (i : Int)] w fun e w' => e = .returned (.tuple #[.int .i64 x, .bool true]) ∧ Below w.heap.size w w' := by
  have HQ' : Hid (QP w 3 1 92 p bs cap xs) := HQ
  rcases HQ with ⟨rfl, _, _, rfl⟩ | ⟨qp, sv, head, n, cs, rfl, hbs, H, hxs⟩
  · simp at hx
  clear hbs
  rw [hxs] at hx
  obtain ⟨hi, hw⟩ := wait_get hx
  have hp := H.pl_lt hi
  obtain ⟨g, c, rfl⟩ : ∃ g c, sv = .slice (some ⟨g, 0, none⟩) n c := by
    rcases H.own.2 with ⟨_, e⟩ | ⟨g, c, _, e, _⟩
    · omega
    · exact ⟨g, c, e⟩
  obtain ⟨c0, c1, c2, c3, cf⟩ := row4q H.str
  have g0 : w.cell? ⟨g, pl cap head i, none⟩ = some (.int .i64 x) := by rw [H.own.cellAt _ (by have := H.own.1; omega)]; simpa using take_drop_get hw (j := 0) (by simp)
  have HH : Hid (IsQ w 3 1 92 qp (.slice (some ⟨g, 0, none⟩) n c) cap head xs.length n cs) := H
  have hcap := H.cap2
  have hle := H.hc
  have hn := H.hn
  have hmn : n ≤ c := by
    rcases H.own.2 with ⟨e, _⟩ | ⟨g', c', _, e, _, _, h, _⟩
    · cases e
    · injection e with _ _ e3
      omega
  clear H hx hxs hw
  obtain ⟨P, hP⟩ : ∃ P, P = pl cap head i := ⟨_, rfl⟩
  rw [← hP] at hp g0
  have HPP : Hid (pl cap head i = P) := hP.symm
  clear hP
  have hg1 : ¬ ((i : Nat) : Int) < 0 := by omega
  have hg2 : ((i : Nat) : Int) < ((xs.length : Nat) : Int) := by omega
  have hp' : ((P : Nat) : Int) < ((n : Nat) : Int) := by omega
  go_enter Try.func57, Try.ntmps57
  go_wp2_with fail
  refine (qLen_I HQ'.out).mono ?_
  rintro e w1 ⟨rfl, hb⟩
  have HB1 : Hid (Below w.heap.size w w1) := hb
  have k0 := (But.of_below hb).cell c0 (fun e => by cases e)
  have hg0 := (But.of_below hb).cell g0 (fun e => by cases e)
  clear hb c0 c1 c2 c3 cf g0
  go_wp2_with fail
  have HBd : Hid (Below w1.heap.size w1 w1.drew) := (Below.refl _ _).drew
  have d0 : w1.drew.cell? ⟨qp, 0, none⟩ = some (.slice (some ⟨g, 0, none⟩) n c) := k0
  have dg0 : w1.drew.cell? ⟨g, P, none⟩ = some (.int .i64 x) := hg0
  go_region_held3 (fun W => W.cell? ⟨qp, 0, none⟩ = some (.slice (some ⟨g, 0, none⟩) n c) ∧ W.cell? ⟨g, P, none⟩ = some (.int .i64 x)) (first | exact ⟨d0, dg0⟩ | exact ⟨m0, mg0⟩) (first | (go_at_call 47; refine (qPlace_I ((HH.out.below HB1.out).below HBd.out) i (by omega)).mono ?_; rintro e w2 ⟨rfl, hb2⟩; rw [HPP.out]; have HB2 : Hid (Below w1.heap.size w1 w2) := bel_trans HBd.out hb2; clear hb2; have m0 := (But.of_below HB2.out).cell k0 (fun e => by cases e); have mg0 := (But.of_below HB2.out).cell hg0 (fun e => by cases e)))
  all_goals
    go_wp2
    go_ret2
    exact ⟨rfl, bel_trans HB1.out HB2.out⟩

set_option maxHeartbeats 2000000 in
theorem qAtNo_I {w : World} {p : Option Addr} {bs : List Nat} {cap : Nat} {xs : List (List Value)} (HQ : QP w 3 1 92 p bs cap xs) (i : Int) (hi0 : -9223372036854775808 ≤ i) (hi1 : i ≤ 9223372036854775807) (hx : i < 0 ∨ (xs.length : Int) ≤ i) : Calls Try.prog 57 #[.pointer p, .int .i64 i] w fun e w' => e = .returned (.tuple #[.int .i64 0, .bool false]) ∧ Below w.heap.size w w' := by
  have HQ' : Hid (QP w 3 1 92 p bs cap xs) := HQ
  clear HQ
  by_cases hg1 : i < 0
  · clear hx
    go_enter Try.func57, Try.ntmps57
    go_wp2
    go_ret2
    exact ⟨rfl, Below.refl _ _⟩
  · have hg2 : ¬ i < ((xs.length : Nat) : Int) := by omega
    have hg3 : ((xs.length : Nat) : Int) ≤ i := by omega
    clear hx
    go_enter Try.func57, Try.ntmps57
    go_wp2_with fail
    refine (qLen_I HQ'.out).mono ?_
    rintro e w1 ⟨rfl, hb⟩
    have HB1 : Hid (Below w.heap.size w w1) := hb
    clear hb
    go_wp2
    go_ret2
    exact ⟨rfl, HB1.out⟩

set_option maxHeartbeats 2000000 in
theorem qFirst_I {w : World} {p : Option Addr} {bs : List Nat} {cap : Nat} {xs : List (List Value)} (HQ : QP w 3 1 92 p bs cap xs) (x : Int) (hx : xs[0]? = some [.int .i64 x]) : Calls Try.prog 50 #[.pointer p] w fun e w' => e = .returned (.tuple #[.int .i64 x, .bool true]) ∧ Below w.heap.size w w' := by
  have H0 := qAt_I HQ 0 x hx
  have HH0 : Hid (Calls Try.prog 57 #[.pointer p, .int .i64 0] w fun e w' => e = .returned (.tuple #[.int .i64 x, .bool true]) ∧ Below w.heap.size w w') := H0
  clear HQ H0 hx
  go_enter Try.func50, Try.ntmps50
  go_wp2_with fail
  refine HH0.out.mono ?_
  rintro e w1 ⟨rfl, hb⟩
  have HB1 : Hid (Below w.heap.size w w1) := hb
  clear hb
  go_wp2
  go_ret2
  exact ⟨rfl, HB1.out⟩

set_option maxHeartbeats 2000000 in
theorem qFirstNo_I {w : World} {p : Option Addr} {bs : List Nat} {cap : Nat} (HQ : QP w 3 1 92 p bs cap []) : Calls Try.prog 50 #[.pointer p] w fun e w' => e = .returned (.tuple #[.int .i64 0, .bool false]) ∧ Below w.heap.size w w' := by
  have H0 := qAtNo_I HQ 0 (by omega) (by omega) (.inr (by simp))
  have HH0 : Hid (Calls Try.prog 57 #[.pointer p, .int .i64 0] w fun e w' => e = .returned (.tuple #[.int .i64 0, .bool false]) ∧ Below w.heap.size w w') := H0
  clear HQ H0
  go_enter Try.func50, Try.ntmps50
  go_wp2_with fail
  refine HH0.out.mono ?_
  rintro e w1 ⟨rfl, hb⟩
  have HB1 : Hid (Below w.heap.size w w1) := hb
  clear hb
  go_wp2
  go_ret2
  exact ⟨rfl, HB1.out⟩

end Rg
end Go.Proofs.Ytjhlflochheolaa
