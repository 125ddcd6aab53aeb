/- Several texts as one. -/
import Derived.Test.YtclciccgcegpmaaMgC
import Derived.Test.YtclciccgcegpmaaMgD
import Derived.DataReads
/-
  A ring or a nil one.
-/
set_option linter.unusedVariables false
set_option linter.unusedSimpArgs false
namespace Go.Proofs.Ytclciccgcegpmaa
open Go.RowKit
namespace Rg

/-- A ring, or a nil one: its blocks, its places, its head, what waits. -/
def RingP (w : World) (p : Option Addr) (bs : List Nat) (cap h : Nat) (xs : List UInt8) : Prop :=
  (p = none ∧ bs = [] ∧ cap = 0 ∧ h = 0 ∧ xs = []) ∨ ∃ rp sb, p = some ⟨rp, 0, none⟩ ∧ bs = [rp, sb] ∧ IsRing w rp sb cap h xs
theorem RingP.but {w w' : World} {p : Option Addr} {bs cs : List Nat} {cap h : Nat} {xs : List UInt8} (H : RingP w p bs cap h xs) (b : But cs w w') (hd : ∀ x ∈ bs, x ∉ cs) : RingP w' p bs cap h xs := by
  rcases H with H | ⟨rp, sb, e1, e2, H⟩
  · exact .inl H
  · refine .inr ⟨rp, sb, e1, e2, H.but b (hd rp ?_) (hd sb ?_)⟩ <;> rw [e2] <;> simp
theorem RingP.below {w w' : World} {p : Option Addr} {bs : List Nat} {cap h : Nat} {xs : List UInt8} (H : RingP w p bs cap h xs) (b : Below w.heap.size w w') : RingP w' p bs cap h xs := H.but (But.of_below b) (fun _ _ e => by cases e)
theorem RingP.hlen {w : World} {p : Option Addr} {bs : List Nat} {cap h : Nat} {xs : List UInt8} (H : RingP w p bs cap h xs) : xs.length ≤ cap ∧ cap ≤ 1048576 := by
  rcases H with ⟨_, _, rfl, rfl, rfl⟩ | ⟨rp, sb, _, _, H⟩
  · simp
  · exact ⟨H.hlen, H.hcap⟩
theorem RingP.lt {w : World} {p : Option Addr} {bs : List Nat} {cap h : Nat} {xs : List UInt8} (H : RingP w p bs cap h xs) : ∀ x ∈ bs, x < w.heap.size := by
  rcases H with ⟨_, rfl, _⟩ | ⟨rp, sb, _, rfl, H⟩
  · intro x hx; cases hx
  · intro x hx
    have := H.lt1
    have := H.lt2
    simp at hx
    omega

set_option maxRecDepth 100000 in
theorem CapP {w : World} {p : Option Addr} {bs : List Nat} {cap h : Nat} {xs : List UInt8} (H : RingP w p bs cap h xs) : Calls Try.prog 29 #[.pointer p] w fun e w' => e = .returned (.int .i64 (cap : Int)) ∧ Below w.heap.size w w' := by
  rcases H with ⟨rfl, _, rfl, _, rfl⟩ | ⟨rp, sb, rfl, _, H⟩
  · go_enter Try.func29, Try.ntmps29
    go_wp2
    go_ret
    exact ⟨rfl, Below.refl _ _⟩
  · exact Cap_any H
set_option maxRecDepth 100000 in
theorem LenP {w : World} {p : Option Addr} {bs : List Nat} {cap h : Nat} {xs : List UInt8} (H : RingP w p bs cap h xs) : Calls Try.prog 13 #[.pointer p] w fun e w' => e = .returned (.int .i64 (xs.length : Int)) ∧ Below w.heap.size w w' := by
  rcases H with ⟨rfl, _, rfl, _, rfl⟩ | ⟨rp, sb, rfl, _, H⟩
  · go_enter Try.func13, Try.ntmps13
    go_wp2
    go_ret
    exact ⟨rfl, Below.refl _ _⟩
  · exact Len_any H
set_option maxRecDepth 100000 in
theorem HeadP {w : World} {p : Option Addr} {bs : List Nat} {cap h : Nat} {xs : List UInt8} (H : RingP w p bs cap h xs) : Calls Try.prog 17 #[.pointer p] w fun e w' => e = .returned (.int .i64 (h : Int)) ∧ Below w.heap.size w w' := by
  rcases H with ⟨rfl, _, rfl, rfl, rfl⟩ | ⟨rp, sb, rfl, _, H⟩
  · go_enter Try.func17, Try.ntmps17
    go_wp2
    go_ret
    exact ⟨rfl, Below.refl _ _⟩
  · exact Head_any H
set_option maxRecDepth 100000 in
theorem FreeP {w : World} {p : Option Addr} {bs : List Nat} {cap h : Nat} {xs : List UInt8} (H : RingP w p bs cap h xs) : Calls Try.prog 25 #[.pointer p] w fun e w' => e = .returned (.int .i64 ((cap - xs.length : Nat) : Int)) ∧ Below w.heap.size w w' := by
  have HH : Hid (RingP w p bs cap h xs) := H
  obtain ⟨h1, h2⟩ := H.hlen
  clear H
  go_enter Try.func25, Try.ntmps25
  go_wp2_with fail
  refine (CapP HH.out).mono ?_
  rintro e w1 ⟨rfl, hb1⟩
  have HB1 : Hid (Below w.heap.size w w1) := hb1
  clear hb1
  go_wp2_with fail
  refine (LenP (HH.out.below HB1.out)).mono ?_
  rintro e w2 ⟨rfl, hb2⟩
  have HB2 : Hid (Below w.heap.size w w2) := bel_trans HB1.out hb2
  clear hb2
  go_wp2
  go_ret
  exact ⟨by go_num, HB2.out⟩
set_option maxRecDepth 100000 in
theorem PutP {w : World} {p : Option Addr} {bs : List Nat} {cap h : Nat} {xs : List UInt8} (H : RingP w p bs cap h xs) (v : Value) (l : List UInt8) (hv : RdB w v l) (hg : ∀ g, v.ownBlock = some g → g ∉ bs) (hl63 : l.length ≤ 9223372036854775807) (n : Nat) (hn : n = min l.length (cap - xs.length)) :
    Calls Try.prog 15 #[.pointer p, v] w fun e w' => e = .returned (.int .i64 (n : Int)) ∧ RingP w' p bs cap h (xs ++ l.take n) ∧ But bs w w' := by
  have HH : Hid (RingP w p bs cap h xs) := H
  rcases H with ⟨rfl, rfl, rfl, rfl, rfl⟩ | ⟨rp, sb, rfl, rfl, H⟩
  · obtain ⟨a, c, rfl, hac, _⟩ := hv
    have hn0 : n = 0 := by simpa using hn
    clear hn hg
    subst hn0
    go_enter Try.func15, Try.ntmps15
    go_wp2_with fail
    refine (FreeP HH.out).mono ?_
    rintro e w1 ⟨rfl, hb1⟩
    have HB1 : Hid (Below w.heap.size w w1) := hb1
    clear hb1
    rw [show ((0 - ([] : List UInt8).length : Nat) : Int) = 0 from rfl]
    by_cases hz : l.length = 0
    · have hz1 : (((l.length : Nat) : Int) == 0) = true := by simp [hz]
      have hz2 : ((l.length : Nat) : Int) ≤ 0 := by omega
      go_wp2
      go_ret
      exact ⟨rfl, HH.out.below HB1.out, (But.of_below HB1.out)⟩
    · have hz2 : ¬ ((l.length : Nat) : Int) ≤ 0 := by omega
      go_wp2
      go_ret
      exact ⟨rfl, HH.out.below HB1.out, (But.of_below HB1.out)⟩
  · refine (Put_any H v l hv (fun g hg' => by have := hg g hg'; simp at this; exact this) hl63 n hn).mono ?_
    rintro e w' ⟨rfl, h1, h2⟩
    exact ⟨rfl, .inr ⟨rp, sb, rfl, rfl, h1⟩, h2⟩
set_option maxRecDepth 100000 in
theorem reachP {w : World} {p : Option Addr} {bs : List Nat} {cap h : Nat} {xs : List UInt8} (H : RingP w p bs cap h xs) (f n : Int) (hf0 : -9223372036854775808 ≤ f) (hf1 : f ≤ 9223372036854775807) (hn0 : -9223372036854775808 ≤ n) (hn1 : n ≤ 9223372036854775807) : Calls Try.prog 23 #[.pointer p, .int .i64 f, .int .i64 n] w fun e w' => e = .returned (.int .i64 ((rch xs.length f n : Nat) : Int)) ∧ Below w.heap.size w w' := by
  have HH : Hid (RingP w p bs cap h xs) := H
  rcases H with ⟨rfl, rfl, rfl, rfl, rfl⟩ | ⟨rp, sb, rfl, rfl, H⟩
  · have HZ : Hid (rch ([] : List UInt8).length f n = 0) := (by have := rch_le ([] : List UInt8).length f n; simpa using this : rch ([] : List UInt8).length f n = 0)
    by_cases h1 : f < 0
    · go_enter Try.func23, Try.ntmps23
      go_wp2
      go_ret
      exact ⟨by rw [show rch 0 _ _ = 0 from HZ.out]; rfl, Below.refl _ _⟩
    by_cases h2 : n < 0
    · go_enter Try.func23, Try.ntmps23
      go_wp2
      go_ret
      exact ⟨by rw [show rch 0 _ _ = 0 from HZ.out]; rfl, Below.refl _ _⟩
    go_enter Try.func23, Try.ntmps23
    go_wp2_with fail
    refine (LenP HH.out).mono ?_
    rintro e w1 ⟨rfl, hb1⟩
    rw [show ((([] : List UInt8).length : Nat) : Int) = 0 from rfl]
    have HB1 : Hid (Below w.heap.size w w1) := hb1
    clear hb1
    by_cases h3 : (0 : Int) < f
    · go_wp2
      go_ret
      exact ⟨by rw [show rch 0 _ _ = 0 from HZ.out]; rfl, HB1.out⟩
    obtain rfl : f = 0 := by omega
    go_wp2_with fail
    refine (LenP (HH.out.below HB1.out)).mono ?_
    rintro e w2 ⟨rfl, hb2⟩
    rw [show ((([] : List UInt8).length : Nat) : Int) = 0 from rfl]
    have HB2 : Hid (Below w.heap.size w w2) := bel_trans HB1.out hb2
    clear hb2
    by_cases h4 : n ≤ 0
    · obtain rfl : n = 0 := by omega
      go_wp2
      go_ret
      exact ⟨by rw [show rch 0 _ _ = 0 from HZ.out]; rfl, HB2.out⟩
    · go_wp2
      go_ret
      exact ⟨by rw [show rch 0 _ _ = 0 from HZ.out]; rfl, HB2.out⟩
  · exact reach_any H f n hf0 hf1 hn0 hn1
set_option maxRecDepth 100000 in
theorem PeekP {w : World} {p : Option Addr} {bs : List Nat} {cap h : Nat} {xs : List UInt8} (H : RingP w p bs cap h xs) (f n : Int) (hf0 : -9223372036854775808 ≤ f) (hf1 : f ≤ 9223372036854775807) (hn0 : -9223372036854775808 ≤ n) (hn1 : n ≤ 9223372036854775807) (m : Nat) (hm : m = rch xs.length f n) :
    Calls Try.prog 12 #[.pointer p, .int .i64 f, .int .i64 n] w fun e w' => ∃ v, e = .returned v ∧ w'.ownsRow w.heap.size 5 1 v m (bv ((xs.drop f.toNat).take m)) ∧ Below w.heap.size w w' := by
  have HH : Hid (RingP w p bs cap h xs) := H
  rcases H with ⟨rfl, rfl, rfl, rfl, rfl⟩ | ⟨rp, sb, rfl, rfl, H⟩
  · have hm0 : m = 0 := by have := rch_le ([] : List UInt8).length f n; rw [← hm] at this; simpa using this
    have HZ : Hid (rch ([] : List UInt8).length f n = 0) := (by rw [← hm, hm0] : rch ([] : List UInt8).length f n = 0)
    clear hm
    subst hm0
    go_enter Try.func12, Try.ntmps12
    go_wp2_with fail
    refine (reachP HH.out f n hf0 hf1 hn0 hn1).mono ?_
    rintro e w1 ⟨rfl, hb1⟩
    have HB1 : Hid (Below w.heap.size w w1) := hb1
    clear hb1
    rw [HZ.out]
    go_wp2
    go_ret
    exact ⟨_, rfl, World.ownsRow_nil _ _ _ _, HB1.out⟩
  · exact Peek_any H f n hf0 hf1 hn0 hn1 m hm
set_option maxRecDepth 100000 in
theorem DropP {w : World} {p : Option Addr} {bs : List Nat} {cap h : Nat} {xs : List UInt8} (H : RingP w p bs cap h xs) (n : Int) (hn0 : -9223372036854775808 ≤ n) (hn1 : n ≤ 9223372036854775807) (m : Nat) (hm : m = rch xs.length 0 n) :
    Calls Try.prog 26 #[.pointer p, .int .i64 n] w fun e w' => e = .returned (.int .i64 (m : Int)) ∧ RingP w' p bs cap (pl cap h m) (xs.drop m) ∧ But bs w w' := by
  have HH : Hid (RingP w p bs cap h xs) := H
  rcases H with ⟨rfl, rfl, rfl, rfl, rfl⟩ | ⟨rp, sb, rfl, rfl, H⟩
  · have hm0 : m = 0 := by have := rch_le ([] : List UInt8).length 0 n; rw [← hm] at this; simpa using this
    have HZ : Hid (rch ([] : List UInt8).length 0 n = 0) := (by rw [← hm, hm0] : rch ([] : List UInt8).length 0 n = 0)
    clear hm
    subst hm0
    go_enter Try.func26, Try.ntmps26
    go_wp2_with fail
    refine (reachP HH.out 0 n (by omega) (by omega) hn0 hn1).mono ?_
    rintro e w1 ⟨rfl, hb1⟩
    have HB1 : Hid (Below w.heap.size w w1) := hb1
    clear hb1
    rw [HZ.out]
    go_wp2
    go_ret
    exact ⟨rfl, .inl ⟨rfl, rfl, rfl, rfl, rfl⟩, But.of_below HB1.out⟩
  · refine (Drop_any H n hn0 hn1 m hm).mono ?_
    rintro e w' ⟨rfl, h1, h2⟩
    exact ⟨rfl, .inr ⟨rp, sb, rfl, rfl, h1⟩, h2⟩
set_option maxRecDepth 100000 in
theorem TakeP {w : World} {p : Option Addr} {bs : List Nat} {cap h : Nat} {xs : List UInt8} (H : RingP w p bs cap h xs) (n : Int) (hn0 : -9223372036854775808 ≤ n) (hn1 : n ≤ 9223372036854775807) (m : Nat) (hm : m = rch xs.length 0 n) :
    Calls Try.prog 16 #[.pointer p, .int .i64 n] w fun e w' => ∃ v, e = .returned v ∧ w'.ownsRow w.heap.size 5 1 v m (bv (xs.take m)) ∧ RingP w' p bs cap (pl cap h m) (xs.drop m) ∧ But bs w w' := by
  have HH : Hid (RingP w p bs cap h xs) := H
  rcases H with ⟨rfl, rfl, rfl, rfl, rfl⟩ | ⟨rp, sb, rfl, rfl, H⟩
  · have hm0 : m = 0 := by have := rch_le ([] : List UInt8).length 0 n; rw [← hm] at this; simpa using this
    have HZ : Hid (0 = rch ([] : List UInt8).length 0 n) := (by rw [← hm, hm0] : 0 = rch ([] : List UInt8).length 0 n)
    clear hm
    subst hm0
    go_enter Try.func16, Try.ntmps16
    go_wp2_with fail
    refine (PeekP HH.out 0 n (by omega) (by omega) hn0 hn1 0 HZ.out).mono ?_
    rintro e w1 ⟨v, rfl, ho, hb1⟩
    obtain ⟨a, c, rfl, _⟩ := owns_slice ho
    have HB1 : Hid (Below w.heap.size w w1) := hb1
    have HO1 : Hid (w1.ownsRow w.heap.size 5 1 (.slice a 0 c) 0 (bv [])) := ho
    clear hb1 ho
    go_wp2_with fail
    refine (DropP (HH.out.below HB1.out) 0 (by omega) (by omega) 0 (by have := rch_zero ([] : List UInt8).length 0; simpa using this.symm)).mono ?_
    rintro e w2 ⟨rfl, h1, h2⟩
    have HB2 : Hid (Below w1.heap.size w1 w2) := h2.to_below
    have HP2 : Hid (RingP w2 none [] 0 0 []) := h1
    clear h1 h2
    go_wp2
    go_ret
    exact ⟨_, rfl, (But.of_below HB2.out).owns HO1.out (fun _ _ e => by cases e), HP2.out, But.of_below (bel_trans HB1.out HB2.out)⟩
  · refine (Take_any H n hn0 hn1 m hm).mono ?_
    rintro e w' ⟨v, rfl, h0, h1, h2⟩
    exact ⟨v, rfl, h0, .inr ⟨rp, sb, rfl, rfl, h1⟩, h2⟩

end Rg
end Go.Proofs.Ytclciccgcegpmaa

/-
  ring: the document's Take, at a seat that has little else.
-/
set_option linter.unusedVariables false
set_option linter.unusedSimpArgs false
namespace Go.Proofs.Ytclciccgcegpmaa
open Go.RowKit
namespace Rg

theorem pk_eq (l : List UInt8) (f n : Int) : (l.drop f.toNat).take (rch l.length f n) = pc l f n := by
  unfold rch pc
  by_cases h1 : f < 0
  · rw [if_pos (.inl h1), if_pos (.inl h1)]; simp
  by_cases h2 : n < 0
  · rw [if_pos (.inr (.inl h2)), if_pos (.inr (by omega))]; simp
  by_cases h3 : (l.length : Int) < f
  · rw [if_pos (.inr (.inr h3)), List.drop_eq_nil_of_le (by omega)]; simp
  · rw [if_neg (by omega)]
    by_cases h4 : n ≤ 0
    · obtain rfl : n = 0 := by omega
      rw [if_pos (by omega)]; simp
    · rw [if_neg (by omega)]
      by_cases c : n.toNat ≤ l.length - f.toNat
      · rw [Nat.min_eq_left c]
      · rw [Nat.min_eq_right (by omega), List.take_of_length_le (by rw [List.length_drop]; omega), List.take_of_length_le (by rw [List.length_drop]; omega)]

theorem pc_take (l : List UInt8) (n : Int) : pc l 0 n = l.take (rch l.length 0 n) := by
  rw [← pk_eq]
  rfl
theorem owns_low' {W : World} {B B' T S n : Nat} {v : Value} {xs : List Value} (h : W.ownsRow B T S v n xs) (hB : B' ≤ B) : W.ownsRow B' T S v n xs := by
  refine ⟨h.1, ?_⟩
  rcases h.2 with hz | ⟨g, cap, cur, e, hb, r⟩
  · exact .inl hz
  · exact .inr ⟨g, cap, cur, e, by omega, r⟩

set_option maxRecDepth 100000 in
set_option maxHeartbeats 2000000 in
theorem rTake_any {w : World} {cap h : Nat} {lv : Value} {l : List UInt8} (hlv : RdB w lv l) (hc : cap ≤ 1048576) (hl : l.length ≤ cap) (hh : h < cap ∨ (cap = 0 ∧ h = 0)) (n : Int) (hn0 : -9223372036854775808 ≤ n) (hn1 : n ≤ 9223372036854775807) (m : Nat) (hm : m = rch l.length 0 n) :
    Calls Try.prog 8 #[.agg #[.int .i64 (cap : Int), lv, .int .i64 (h : Int)], .int .i64 n] w fun e w' => ∃ lv' ov, e = .returned (.tuple #[.agg #[.int .i64 (cap : Int), lv', .int .i64 ((pl cap h m : Nat) : Int)], ov]) ∧
      w'.ownsRow w.heap.size 5 1 lv' (l.drop m).length (bv (l.drop m)) ∧ (∃ a c, ov = .slice a m c) ∧ RdB w' ov (l.take m) ∧ Below w.heap.size w w' := by
  have HLV : Hid (RdB w lv l) := hlv
  obtain ⟨al, cl, rfl, halc, _⟩ := hlv
  have hml : m ≤ l.length := by rw [hm]; exact rch_le _ _ _
  have HM : Hid (m = rch l.length 0 n) := hm
  clear hm
  have HPL : Hid (0 < cap → ((h : Int) + (m : Int)) % (cap : Int) = ((pl cap h m : Nat) : Int)) := (fun h0 => by rw [pl_mod cap h m (by omega) (by omega)]; simp : 0 < cap → ((h : Int) + (m : Int)) % (cap : Int) = ((pl cap h m : Nat) : Int))
  have hp0' : cap = 0 → ((pl cap h m : Nat) : Int) = (h : Int) := by
    intro h0
    have h1 : m = 0 := by omega
    have h2 : h = 0 := by omega
    rw [h0, h1, h2]
    rfl
  have HP0 : Hid (cap = 0 → ((pl cap h m : Nat) : Int) = (h : Int)) := hp0'
  clear hp0'
  obtain ⟨h', hh'⟩ : ∃ h', h' = pl cap h m := ⟨_, rfl⟩
  rw [← hh'] at HPL HP0 ⊢
  clear hh'
  obtain ⟨w1, hw1⟩ : ∃ w1, w1 = (w.alloc (.cells #[.int .i64 (cap : Int), .slice al l.length cl, .int .i64 (h : Int)] 27)).alloc (.cells #[.int .i64 0, .slice none 0 0, .int .i64 0] 27) := ⟨_, rfl⟩
  have HB1 : Hid (Below w.heap.size w w1) := (by rw [hw1]; exact ((Below.refl _ w).alloc (Nat.le_refl _) _).alloc (by simp) _ : Below w.heap.size w w1)
  have HA1 : Hid (w1.heap[w.heap.size]? = some (.cells #[.int .i64 (cap : Int), .slice al l.length cl, .int .i64 (h : Int)] 27 (0, 0))) := (by rw [hw1]; exact heap_alloc2_old _ _ _ : w1.heap[w.heap.size]? = _)
  have HC1 : Hid (w1.heap[w.heap.size + 1]? = some (.cells #[.int .i64 0, .slice none 0 0, .int .i64 0] 27 (0, 0))) := (by rw [hw1]; exact heap_alloc2_new _ _ _ : w1.heap[w.heap.size + 1]? = _)
  have hs1 : w1.heap.size = w.heap.size + 2 := by rw [hw1]; simp
  go_enter Try.func8, Try.ntmps8
  go_wp2_with fail
  rw [← hw1]
  clear hw1
  refine (piece_any (HLV.out.below HB1.out) 0 n (by omega) (by omega) hn0 hn1 (by omega)).mono ?_
  rintro e w2 ⟨v2, rfl, ho2, hb2⟩
  rw [pc_take, ← HM.out] at ho2
  have hlt : (l.take m).length = m := by rw [List.length_take]; omega
  rw [hlt] at ho2
  obtain ⟨a2, c2, rfl, hc2⟩ := owns_slice ho2
  have HV2 : Hid (RdB w2 (.slice a2 m c2) (l.take m)) := RdB.ofOwn ho2
  have HG2 : Hid (∀ g, (Value.slice a2 m c2).ownBlock = some g → w1.heap.size ≤ g) := fun g hg => owns_fresh ho2 g hg
  have HB2 : Hid (Below w1.heap.size w1 w2) := hb2
  clear ho2 hb2 hlt
  obtain ⟨d0, d1, d2, df⟩ := row3 ((But.of_below HB2.out).heap HA1.out (fun e => by cases e))
  go_wp2_with fail
  refine (piece_any (HLV.out.below (bel_trans HB1.out HB2.out)) ((m : Nat) : Int) ((l.length : Nat) : Int) (by omega) (by omega) (by omega) (by omega) (by omega)).mono ?_
  rintro e w3 ⟨v3, rfl, ho3, hb3⟩
  rw [pc_nat, List.take_of_length_le (by rw [List.length_drop]; omega)] at ho3
  obtain ⟨a3, c3, rfl, hc3⟩ := owns_slice ho3
  have HB3 : Hid (Below w1.heap.size w1 w3) := bel_trans HB2.out hb3
  have HV3 : Hid (RdB w3 (.slice a2 m c2) (l.take m)) := HV2.out.below hb3
  have HO3 : Hid (w3.ownsRow (w.heap.size + 2) 5 1 (.slice a3 (l.drop m).length c3) (l.drop m).length (bv (l.drop m))) := owns_low' ho3 (by have := HB2.out.size; omega)
  clear ho3 hb3 d0 d1 d2 df HV2
  obtain ⟨D, hD⟩ : ∃ D, D = (l.drop m).length := ⟨_, rfl⟩
  rw [← hD] at HO3 hc3 ⊢
  have HD : Hid (D = (l.drop m).length) := hD
  clear hD
  obtain ⟨d0, d1, d2, df⟩ := row3 ((But.of_below HB3.out).heap HA1.out (fun e => by cases e))
  obtain ⟨e0, e1, e2, ef⟩ := row3 ((But.of_below HB3.out).heap HC1.out (fun e => by cases e))
  have hq3 : ∀ g, (Value.slice a3 D c3).ownBlock = some g → w.heap.size + 2 ≤ g := fun g hg => owns_fresh HO3.out g hg
  have HQ3 : Hid (∀ g, (Value.slice a3 D c3).ownBlock = some g → w.heap.size + 2 ≤ g) := hq3
  clear hq3
  have hbt : ∀ (W : World), But [w.heap.size, w.heap.size + 1] w3 W → W.ownsRow w.heap.size 5 1 (.slice a3 D c3) (l.drop m).length (bv (l.drop m)) ∧ RdB W (.slice a2 m c2) (l.take m) ∧ Below w.heap.size w W := fun W b => by
    refine ⟨?_, HV3.out.but b (fun g hg => by have := HG2.out g hg; simp; omega), (bel_trans HB1.out HB3.out).trans (b.below (by have := HB3.out.size; omega) (by simp))⟩
    have := b.owns HO3.out (fun g hg => by have := HQ3.out g hg; simp; omega)
    rw [HD.out] at this
    rw [HD.out]
    exact owns_low' this (by omega)
  have HBT : Hid (∀ (W : World), But [w.heap.size, w.heap.size + 1] w3 W → W.ownsRow w.heap.size 5 1 (.slice a3 D c3) (l.drop m).length (bv (l.drop m)) ∧ RdB W (.slice a2 m c2) (l.take m) ∧ Below w.heap.size w W) := hbt
  clear hbt
  by_cases hcz : 0 < cap
  · have hcz' : (0 : Int) < ((cap : Nat) : Int) := by omega
    have hcz2 : (((cap : Nat) : Int) == 0) = false := by simp; omega
    have hpm := HPL.out hcz
    go_wp2
    refine bodyPost_ret (v := .tuple #[.agg #[.int .i64 (cap : Int), .slice a3 D c3, .int .i64 ((h' : Nat) : Int)], .slice a2 m c2]) (by simp [results, Try.results8, go_sem, e0, e1, e2]) rfl ?_
    obtain ⟨r1, r2, r3⟩ := HBT.out _ (((((((But.refl _ w3).setCell (p := ⟨w.heap.size, 1, none⟩) (by simp) (.slice a3 D c3)).setCell (p := ⟨w.heap.size, 2, none⟩) (by simp) (.int .i64 ((h' : Nat) : Int))).setCell (p := ⟨w.heap.size + 1, 0, none⟩) (by simp) (.int .i64 (cap : Int))).setCell (p := ⟨w.heap.size + 1, 1, none⟩) (by simp) (.slice a3 D c3)).setCell (p := ⟨w.heap.size + 1, 2, none⟩) (by simp) (.int .i64 ((h' : Nat) : Int))))
    exact ⟨_, _, rfl, r1, ⟨_, _, rfl⟩, r2, r3⟩
  · have hcz' : ¬ (0 : Int) < ((cap : Nat) : Int) := by omega
    have hp0 := HP0.out (by omega)
    go_wp2
    refine bodyPost_ret (v := .tuple #[.agg #[.int .i64 (cap : Int), .slice a3 D c3, .int .i64 ((h' : Nat) : Int)], .slice a2 m c2]) (by simp [results, Try.results8, go_sem, e0, e1, e2, hp0]) rfl ?_
    obtain ⟨r1, r2, r3⟩ := HBT.out _ ((((((But.refl _ w3).setCell (p := ⟨w.heap.size, 1, none⟩) (by simp) (.slice a3 D c3)).setCell (p := ⟨w.heap.size + 1, 0, none⟩) (by simp) (.int .i64 (cap : Int))).setCell (p := ⟨w.heap.size + 1, 1, none⟩) (by simp) (.slice a3 D c3)).setCell (p := ⟨w.heap.size + 1, 2, none⟩) (by simp) (.int .i64 (h : Int))))
    exact ⟨_, _, rfl, r1, ⟨_, _, rfl⟩, r2, r3⟩

end Rg
end Go.Proofs.Ytclciccgcegpmaa

/-
  A slice of slices of bytes that came in.
-/
set_option linter.unusedVariables false
set_option linter.unusedSimpArgs false
namespace Go.Proofs.Ytclciccgcegpmaa
open Go.RowKit Go.ChangeShapes Go.WideShapes Go.ChangeAt
namespace Rg

def RdBB (w : World) (v : Value) (ls : List (List UInt8)) : Prop :=
  ∃ a cap, v = .slice a ls.length cap ∧ ls.length ≤ cap ∧ (∀ l ∈ ls, l.length ≤ 140737488351232) ∧ (ls = [] ∨ ∃ g o, a = some ⟨g, o, none⟩ ∧ ∀ j l, ls[j]? = some l → ∃ u, w.cell? ⟨g, o + j, none⟩ = some u ∧ RdB w u l)

theorem weights_all {H : Type} {P : Program} {e : TypeId} : ∀ {ds : List (DataW H)} {d : DataW H}, d ∈ ds → ∀ n ∈ d.weights P e, n ∈ DataW.weightsAll P e ds
  | d0 :: ds, d, hd, n, hn => by
    simp only [DataW.weightsAll, List.mem_append]
    rcases List.mem_cons.1 hd with rfl | hd
    · exact .inl hn
    · exact .inr (weights_all hd n hn)

set_option maxRecDepth 100000 in
/- A slice of bytes, by its reading. -/
theorem read_b {H : Type} {enc : TypeId × Value → H} {W : World} {fuel : Nat} {cs : List Value} {x : DataW H × List MemPlace} (hf : DataW.trod enc Try.prog W 0 (fun _ => true) true fuel 25 cs = some x) (hsz : ∀ n ∈ x.1.weights Try.prog 25, n ≤ reachBytes) :
    ∃ v l, cs = [v] ∧ RdB W v l ∧ l.length ≤ 140737488351232 := by
  rcases open_ints Try.underlying25 Try.underlying5 cellsB hf with ⟨rfl, hx⟩ | ⟨a, len, cap, zs, rfl, _, hl, hm, hz, hx, hcell, hwz⟩
  · exact ⟨_, [], rfl, RdB.nil _, by simp⟩
  · simp only [if_true] at hz
    have hlen : ((zs.take len).map fun z => UInt8.ofNat z.toNat).length = len := by simp; omega
    refine ⟨_, (zs.take len).map fun z => UInt8.ofNat z.toNat, rfl, ⟨some a, cap, by rw [hlen], by omega, (fun e => by cases e), ?_⟩, ?_⟩
    · by_cases c : len = 0
      · left
        exact List.eq_nil_of_length_eq_zero (by omega)
      · right
        obtain ⟨b, off, rfl, hc2⟩ := ints_at hcell (by omega)
        refine ⟨b, off, rfl, fun j x hj => ?_⟩
        have hjl : j < len := by
          have := (List.getElem?_eq_some_iff.1 hj).1
          omega
        rw [hc2 j (by omega)]
        rw [List.getElem?_map, List.getElem?_take_of_lt hjl, List.getElem?_eq_getElem (by omega)] at hj
        have hb := byte_wf (hwz _ (List.getElem_mem (show j < zs.length by omega)))
        simp only [Option.map_some, Option.some.injEq] at hj
        subst hj
        simp only [List.getD, List.getElem?_eq_getElem (show j < zs.length by omega), Option.getD_some]
        congr 2
        simp only [UInt8.toNat_ofNat']
        omega
    · have := hsz ((lits .u8 (zs.take len) : List (DataW H)).length + (lits .u8 (zs.drop len) : List (DataW H)).length) (by rw [hx]; simp [DataW.weights, Try.underlying25, bytesB])
      simp only [lits, List.length_map, List.length_take, List.length_drop, reachBytes] at this
      rw [hlen]
      omega

theorem cellsBB : Try.prog.cellsOf 25 = 1 := by kernel_rfl
set_option maxRecDepth 100000 in
theorem opened_bb {H : Type} {enc : TypeId × Value → H} {W : World} {v : Value} {d : DataW H} {p : List MemPlace} {base : Nat} (hok : Value.okWide Try.prog W .any base 30 v)
    (h0 : DataW.Trod enc Try.prog W 0 (fun _ => true) true 30 v d p) (hsz : ∀ n ∈ d.weights Try.prog 30, n ≤ reachBytes) : ∃ ls : List (List UInt8), RdBB W v ls ∧ ls.length ≤ 9223372036854775807 := by
  obtain ⟨a0, len, cap, rfl⟩ := okWide_slice Try.underlying30 hok
  obtain ⟨fuel, hf⟩ := h0
  rcases DataW.trod_slice Try.underlying30 hf with ⟨hcs, hx⟩ | ⟨a, len', cap', elems, rest, n, _, hcs, hx, hb, hl, hm, hlen, hel, _, _⟩
  · simp [Value.cells] at hcs
    obtain ⟨rfl, rfl, rfl⟩ := hcs
    exact ⟨[], ⟨none, 0, rfl, Nat.le_refl _, (fun _ h => by cases h), .inl rfl⟩, by simp⟩
  · simp [Value.cells] at hcs
    obtain ⟨rfl, rfl, rfl⟩ := hcs
    simp only [Prod.mk.injEq] at hx
    obtain ⟨rfl, rfl⟩ := hx
    have each : ∀ i, ∃ l : List UInt8, i < len → ∃ u, W.cell? (a.add i) = some u ∧ RdB W u l ∧ l.length ≤ 140737488351232 := by
      intro i
      by_cases hi : i < len
      · have h1 := hel i hi
        have hy : elems[i]? = some elems[i] := List.getElem?_eq_getElem (by omega)
        rw [hy, cellsBB, Nat.mul_one, Option.bind_eq_some_iff] at h1
        obtain ⟨cs, hcs, ht⟩ := h1
        obtain ⟨v, l, rfl, r1, r2⟩ := read_b ht (fun n hn => hsz n (by
          simp only [DataW.weights, Try.underlying30]
          refine List.mem_cons_of_mem _ (List.mem_append_left _ (weights_all (d := elems[i].1) ?_ n hn))
          exact List.mem_map_of_mem (List.getElem_mem _)))
        exact ⟨l, fun _ => ⟨v, cell_of_cells?_one hcs, r1, r2⟩⟩
      · exact ⟨[], fun h => absurd h hi⟩
    obtain ⟨f, hf⟩ := Classical.axiomOfChoice each
    have hl2 : ((List.range len).map f).length = len := by simp
    refine ⟨(List.range len).map f, ⟨some a, cap, by rw [hl2], by omega, ?_, ?_⟩, by rw [hl2]; unfold maxLen at hm; omega⟩
    · intro l hl
      obtain ⟨i, hi, rfl⟩ := List.mem_map.1 hl
      obtain ⟨_, _, _, h⟩ := hf i (List.mem_range.1 hi)
      exact h
    · by_cases c : len = 0
      · left
        exact List.eq_nil_of_length_eq_zero (by omega)
      · right
        obtain ⟨u, hu, _⟩ := hf 0 (by omega)
        obtain ⟨b, off, spot⟩ := a
        have hspot : spot = none := by simpa [Addr.add] using World.cell?_spot hu
        subst hspot
        refine ⟨b, off, rfl, fun j l hj => ?_⟩
        have hjl : j < len := by
          have := (List.getElem?_eq_some_iff.1 hj).1
          omega
        rw [List.getElem?_map, List.getElem?_range hjl] at hj
        simp only [Option.map_some, Option.some.injEq] at hj
        subst hj
        obtain ⟨u, hu, h1, _⟩ := hf j hjl
        rw [Go.WideShapes.add_plain] at hu
        exact ⟨u, hu, h1⟩

end Rg
end Go.Proofs.Ytclciccgcegpmaa
