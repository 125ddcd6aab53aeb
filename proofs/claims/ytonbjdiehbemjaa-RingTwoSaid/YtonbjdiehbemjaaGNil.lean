/-
  A ring or a nil one.
-/
import Derived.Test.YtonbjdiehbemjaaGNew
set_option linter.unusedVariables false
set_option linter.unusedSimpArgs false
namespace Go.Proofs.Ytonbjdiehbemjaa
open Go.RowKit
namespace Rg

/-- A ring, or a nil one: its blocks, its places, its head, what waits. -/
def RingP (w : World) (p : Option Addr) (bs : List Nat) (cap h : Nat) (xs : List UInt8) : Prop :=
  (p = none ∧ bs = [] ∧ cap = 0 ∧ h = 0 ∧ xs = []) ∨ ∃ rp sb, p = some ⟨rp, 0, none⟩ ∧ bs = [rp, sb] ∧ IsRing w rp sb cap h xs
theorem RingP.but {w w' : World} {p : Option Addr} {bs cs : List Nat} {cap h : Nat} {xs : List UInt8} (H : RingP w p bs cap h xs) (b : But cs w w') (hd : ∀ x ∈ bs, x ∉ cs) : RingP w' p bs cap h xs := by
  rcases H with H | ⟨rp, sb, e1, e2, H⟩
  · exact .inl H
  · refine .inr ⟨rp, sb, e1, e2, H.but b (hd rp ?_) (hd sb ?_)⟩ <;> rw [e2] <;> simp
theorem RingP.below {w w' : World} {p : Option Addr} {bs : List Nat} {cap h : Nat} {xs : List UInt8} (H : RingP w p bs cap h xs) (b : Below w.heap.size w w') : RingP w' p bs cap h xs := H.but (But.of_below b) (fun _ _ e => by cases e)
theorem RingP.hlen {w : World} {p : Option Addr} {bs : List Nat} {cap h : Nat} {xs : List UInt8} (H : RingP w p bs cap h xs) : xs.length ≤ cap ∧ cap ≤ 1048576 := by
  rcases H with ⟨_, _, rfl, rfl, rfl⟩ | ⟨rp, sb, _, _, H⟩
  · simp
  · exact ⟨H.hlen, H.hcap⟩
theorem RingP.lt {w : World} {p : Option Addr} {bs : List Nat} {cap h : Nat} {xs : List UInt8} (H : RingP w p bs cap h xs) : ∀ x ∈ bs, x < w.heap.size := by
  rcases H with ⟨_, rfl, _⟩ | ⟨rp, sb, _, rfl, H⟩
  · intro x hx; cases hx
  · intro x hx
    have := H.lt1
    have := H.lt2
    simp at hx
    omega

set_option maxRecDepth 100000 in
theorem CapP {w : World} {p : Option Addr} {bs : List Nat} {cap h : Nat} {xs : List UInt8} (H : RingP w p bs cap h xs) : Calls Try.prog 41 #[.pointer p] w fun e w' => e = .returned (.int .i64 (cap : Int)) ∧ Below w.heap.size w w' := by
  rcases H with ⟨rfl, _, rfl, _, rfl⟩ | ⟨rp, sb, rfl, _, H⟩
  · go_enter Try.func41, Try.ntmps41
    go_wp2
    go_ret
    exact ⟨rfl, Below.refl _ _⟩
  · exact Cap_any H
set_option maxRecDepth 100000 in
theorem LenP {w : World} {p : Option Addr} {bs : List Nat} {cap h : Nat} {xs : List UInt8} (H : RingP w p bs cap h xs) : Calls Try.prog 19 #[.pointer p] w fun e w' => e = .returned (.int .i64 (xs.length : Int)) ∧ Below w.heap.size w w' := by
  rcases H with ⟨rfl, _, rfl, _, rfl⟩ | ⟨rp, sb, rfl, _, H⟩
  · go_enter Try.func19, Try.ntmps19
    go_wp2
    go_ret
    exact ⟨rfl, Below.refl _ _⟩
  · exact Len_any H
set_option maxRecDepth 100000 in
theorem HeadP {w : World} {p : Option Addr} {bs : List Nat} {cap h : Nat} {xs : List UInt8} (H : RingP w p bs cap h xs) : Calls Try.prog 25 #[.pointer p] w fun e w' => e = .returned (.int .i64 (h : Int)) ∧ Below w.heap.size w w' := by
  rcases H with ⟨rfl, _, rfl, rfl, rfl⟩ | ⟨rp, sb, rfl, _, H⟩
  · go_enter Try.func25, Try.ntmps25
    go_wp2
    go_ret
    exact ⟨rfl, Below.refl _ _⟩
  · exact Head_any H
set_option maxRecDepth 100000 in
theorem FreeP {w : World} {p : Option Addr} {bs : List Nat} {cap h : Nat} {xs : List UInt8} (H : RingP w p bs cap h xs) : Calls Try.prog 24 #[.pointer p] w fun e w' => e = .returned (.int .i64 ((cap - xs.length : Nat) : Int)) ∧ Below w.heap.size w w' := by
  have HH : Hid (RingP w p bs cap h xs) := H
  obtain ⟨h1, h2⟩ := H.hlen
  clear H
  go_enter Try.func24, Try.ntmps24
  go_wp2_with fail
  refine (CapP HH.out).mono ?_
  rintro e w1 ⟨rfl, hb1⟩
  have HB1 : Hid (Below w.heap.size w w1) := hb1
  clear hb1
  go_wp2_with fail
  refine (LenP (HH.out.below HB1.out)).mono ?_
  rintro e w2 ⟨rfl, hb2⟩
  have HB2 : Hid (Below w.heap.size w w2) := bel_trans HB1.out hb2
  clear hb2
  go_wp2
  go_ret
  exact ⟨by go_num, HB2.out⟩
set_option maxRecDepth 100000 in
theorem PutP {w : World} {p : Option Addr} {bs : List Nat} {cap h : Nat} {xs : List UInt8} (H : RingP w p bs cap h xs) (v : Value) (l : List UInt8) (hv : RdB w v l) (hg : ∀ g, v.ownBlock = some g → g ∉ bs) (hl63 : l.length ≤ 9223372036854775807) (n : Nat) (hn : n = min l.length (cap - xs.length)) :
    Calls Try.prog 20 #[.pointer p, v] w fun e w' => e = .returned (.int .i64 (n : Int)) ∧ RingP w' p bs cap h (xs ++ l.take n) ∧ But bs w w' := by
  have HH : Hid (RingP w p bs cap h xs) := H
  rcases H with ⟨rfl, rfl, rfl, rfl, rfl⟩ | ⟨rp, sb, rfl, rfl, H⟩
  · obtain ⟨a, c, rfl, hac, _⟩ := hv
    have hn0 : n = 0 := by simpa using hn
    clear hn hg
    subst hn0
    go_enter Try.func20, Try.ntmps20
    go_wp2_with fail
    refine (FreeP HH.out).mono ?_
    rintro e w1 ⟨rfl, hb1⟩
    have HB1 : Hid (Below w.heap.size w w1) := hb1
    clear hb1
    rw [show ((0 - ([] : List UInt8).length : Nat) : Int) = 0 from rfl]
    by_cases hz : l.length = 0
    · have hz1 : (((l.length : Nat) : Int) == 0) = true := by simp [hz]
      have hz2 : ((l.length : Nat) : Int) ≤ 0 := by omega
      go_wp2
      go_ret
      exact ⟨rfl, HH.out.below HB1.out, (But.of_below HB1.out)⟩
    · have hz2 : ¬ ((l.length : Nat) : Int) ≤ 0 := by omega
      go_wp2
      go_ret
      exact ⟨rfl, HH.out.below HB1.out, (But.of_below HB1.out)⟩
  · refine (Put_any H v l hv (fun g hg' => by have := hg g hg'; simp at this; exact this) hl63 n hn).mono ?_
    rintro e w' ⟨rfl, h1, h2⟩
    exact ⟨rfl, .inr ⟨rp, sb, rfl, rfl, h1⟩, h2⟩
set_option maxRecDepth 100000 in
theorem reachP {w : World} {p : Option Addr} {bs : List Nat} {cap h : Nat} {xs : List UInt8} (H : RingP w p bs cap h xs) (f n : Int) (hf0 : -9223372036854775808 ≤ f) (hf1 : f ≤ 9223372036854775807) (hn0 : -9223372036854775808 ≤ n) (hn1 : n ≤ 9223372036854775807) : Calls Try.prog 44 #[.pointer p, .int .i64 f, .int .i64 n] w fun e w' => e = .returned (.int .i64 ((rch xs.length f n : Nat) : Int)) ∧ Below w.heap.size w w' := by
  have HH : Hid (RingP w p bs cap h xs) := H
  rcases H with ⟨rfl, rfl, rfl, rfl, rfl⟩ | ⟨rp, sb, rfl, rfl, H⟩
  · have HZ : Hid (rch ([] : List UInt8).length f n = 0) := (by have := rch_le ([] : List UInt8).length f n; simpa using this : rch ([] : List UInt8).length f n = 0)
    by_cases h1 : f < 0
    · go_enter Try.func44, Try.ntmps44
      go_wp2
      go_ret
      exact ⟨by rw [show rch 0 _ _ = 0 from HZ.out]; rfl, Below.refl _ _⟩
    by_cases h2 : n < 0
    · go_enter Try.func44, Try.ntmps44
      go_wp2
      go_ret
      exact ⟨by rw [show rch 0 _ _ = 0 from HZ.out]; rfl, Below.refl _ _⟩
    go_enter Try.func44, Try.ntmps44
    go_wp2_with fail
    refine (LenP HH.out).mono ?_
    rintro e w1 ⟨rfl, hb1⟩
    rw [show ((([] : List UInt8).length : Nat) : Int) = 0 from rfl]
    have HB1 : Hid (Below w.heap.size w w1) := hb1
    clear hb1
    by_cases h3 : (0 : Int) < f
    · go_wp2
      go_ret
      exact ⟨by rw [show rch 0 _ _ = 0 from HZ.out]; rfl, HB1.out⟩
    obtain rfl : f = 0 := by omega
    go_wp2_with fail
    refine (LenP (HH.out.below HB1.out)).mono ?_
    rintro e w2 ⟨rfl, hb2⟩
    rw [show ((([] : List UInt8).length : Nat) : Int) = 0 from rfl]
    have HB2 : Hid (Below w.heap.size w w2) := bel_trans HB1.out hb2
    clear hb2
    by_cases h4 : n ≤ 0
    · obtain rfl : n = 0 := by omega
      go_wp2
      go_ret
      exact ⟨by rw [show rch 0 _ _ = 0 from HZ.out]; rfl, HB2.out⟩
    · go_wp2
      go_ret
      exact ⟨by rw [show rch 0 _ _ = 0 from HZ.out]; rfl, HB2.out⟩
  · exact reach_any H f n hf0 hf1 hn0 hn1
set_option maxRecDepth 100000 in
theorem PeekP {w : World} {p : Option Addr} {bs : List Nat} {cap h : Nat} {xs : List UInt8} (H : RingP w p bs cap h xs) (f n : Int) (hf0 : -9223372036854775808 ≤ f) (hf1 : f ≤ 9223372036854775807) (hn0 : -9223372036854775808 ≤ n) (hn1 : n ≤ 9223372036854775807) (m : Nat) (hm : m = rch xs.length f n) :
    Calls Try.prog 18 #[.pointer p, .int .i64 f, .int .i64 n] w fun e w' => ∃ v, e = .returned v ∧ w'.ownsRow w.heap.size 5 1 v m (bv ((xs.drop f.toNat).take m)) ∧ Below w.heap.size w w' := by
  have HH : Hid (RingP w p bs cap h xs) := H
  rcases H with ⟨rfl, rfl, rfl, rfl, rfl⟩ | ⟨rp, sb, rfl, rfl, H⟩
  · have hm0 : m = 0 := by have := rch_le ([] : List UInt8).length f n; rw [← hm] at this; simpa using this
    have HZ : Hid (rch ([] : List UInt8).length f n = 0) := (by rw [← hm, hm0] : rch ([] : List UInt8).length f n = 0)
    clear hm
    subst hm0
    go_enter Try.func18, Try.ntmps18
    go_wp2_with fail
    refine (reachP HH.out f n hf0 hf1 hn0 hn1).mono ?_
    rintro e w1 ⟨rfl, hb1⟩
    have HB1 : Hid (Below w.heap.size w w1) := hb1
    clear hb1
    rw [HZ.out]
    go_wp2
    go_ret
    exact ⟨_, rfl, World.ownsRow_nil _ _ _ _, HB1.out⟩
  · exact Peek_any H f n hf0 hf1 hn0 hn1 m hm
set_option maxRecDepth 100000 in
theorem DropP {w : World} {p : Option Addr} {bs : List Nat} {cap h : Nat} {xs : List UInt8} (H : RingP w p bs cap h xs) (n : Int) (hn0 : -9223372036854775808 ≤ n) (hn1 : n ≤ 9223372036854775807) (m : Nat) (hm : m = rch xs.length 0 n) :
    Calls Try.prog 36 #[.pointer p, .int .i64 n] w fun e w' => e = .returned (.int .i64 (m : Int)) ∧ RingP w' p bs cap (pl cap h m) (xs.drop m) ∧ But bs w w' := by
  have HH : Hid (RingP w p bs cap h xs) := H
  rcases H with ⟨rfl, rfl, rfl, rfl, rfl⟩ | ⟨rp, sb, rfl, rfl, H⟩
  · have hm0 : m = 0 := by have := rch_le ([] : List UInt8).length 0 n; rw [← hm] at this; simpa using this
    have HZ : Hid (rch ([] : List UInt8).length 0 n = 0) := (by rw [← hm, hm0] : rch ([] : List UInt8).length 0 n = 0)
    clear hm
    subst hm0
    go_enter Try.func36, Try.ntmps36
    go_wp2_with fail
    refine (reachP HH.out 0 n (by omega) (by omega) hn0 hn1).mono ?_
    rintro e w1 ⟨rfl, hb1⟩
    have HB1 : Hid (Below w.heap.size w w1) := hb1
    clear hb1
    rw [HZ.out]
    go_wp2
    go_ret
    exact ⟨rfl, .inl ⟨rfl, rfl, rfl, rfl, rfl⟩, But.of_below HB1.out⟩
  · refine (Drop_any H n hn0 hn1 m hm).mono ?_
    rintro e w' ⟨rfl, h1, h2⟩
    exact ⟨rfl, .inr ⟨rp, sb, rfl, rfl, h1⟩, h2⟩
set_option maxRecDepth 100000 in
theorem TakeP {w : World} {p : Option Addr} {bs : List Nat} {cap h : Nat} {xs : List UInt8} (H : RingP w p bs cap h xs) (n : Int) (hn0 : -9223372036854775808 ≤ n) (hn1 : n ≤ 9223372036854775807) (m : Nat) (hm : m = rch xs.length 0 n) :
    Calls Try.prog 23 #[.pointer p, .int .i64 n] w fun e w' => ∃ v, e = .returned v ∧ w'.ownsRow w.heap.size 5 1 v m (bv (xs.take m)) ∧ RingP w' p bs cap (pl cap h m) (xs.drop m) ∧ But bs w w' := by
  have HH : Hid (RingP w p bs cap h xs) := H
  rcases H with ⟨rfl, rfl, rfl, rfl, rfl⟩ | ⟨rp, sb, rfl, rfl, H⟩
  · have hm0 : m = 0 := by have := rch_le ([] : List UInt8).length 0 n; rw [← hm] at this; simpa using this
    have HZ : Hid (0 = rch ([] : List UInt8).length 0 n) := (by rw [← hm, hm0] : 0 = rch ([] : List UInt8).length 0 n)
    clear hm
    subst hm0
    go_enter Try.func23, Try.ntmps23
    go_wp2_with fail
    refine (PeekP HH.out 0 n (by omega) (by omega) hn0 hn1 0 HZ.out).mono ?_
    rintro e w1 ⟨v, rfl, ho, hb1⟩
    obtain ⟨a, c, rfl, _⟩ := owns_slice ho
    have HB1 : Hid (Below w.heap.size w w1) := hb1
    have HO1 : Hid (w1.ownsRow w.heap.size 5 1 (.slice a 0 c) 0 (bv [])) := ho
    clear hb1 ho
    go_wp2_with fail
    refine (DropP (HH.out.below HB1.out) 0 (by omega) (by omega) 0 (by have := rch_zero ([] : List UInt8).length 0; simpa using this.symm)).mono ?_
    rintro e w2 ⟨rfl, h1, h2⟩
    have HB2 : Hid (Below w1.heap.size w1 w2) := h2.to_below
    have HP2 : Hid (RingP w2 none [] 0 0 []) := h1
    clear h1 h2
    go_wp2
    go_ret
    exact ⟨_, rfl, (But.of_below HB2.out).owns HO1.out (fun _ _ e => by cases e), HP2.out, But.of_below (bel_trans HB1.out HB2.out)⟩
  · refine (Take_any H n hn0 hn1 m hm).mono ?_
    rintro e w' ⟨v, rfl, h0, h1, h2⟩
    exact ⟨v, rfl, h0, .inr ⟨rp, sb, rfl, rfl, h1⟩, h2⟩

end Rg
end Go.Proofs.Ytonbjdiehbemjaa
