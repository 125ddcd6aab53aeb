/- Several texts as one. -/
import Derived.Test.YtclciccgcegpmaaMgA
import Derived.Deep.Quiet
import Derived.Deep.QuietTactic
/-
  The small methods of a ring: what they answer, and that nothing turns.
-/
set_option linter.unusedVariables false
set_option linter.unusedSimpArgs false
namespace Go.Proofs.Ytclciccgcegpmaa
open Go.RowKit
namespace Rg

set_option maxRecDepth 100000 in
theorem Cap_any {w : World} {rp sb cap head : Nat} {xs : List UInt8} (hR : IsRing w rp sb cap head xs) : Calls Try.prog 29 #[.pointer (some ⟨rp, 0, none⟩)] w fun e w' => e = .returned (.int .i64 (cap : Int)) ∧ Below w.heap.size w w' := by
  obtain ⟨c0, c1, c2, cf⟩ := hR.cells
  clear hR
  go_enter Try.func29, Try.ntmps29
  go_wp2
  go_ret
  exact ⟨rfl, Below.refl _ _⟩

set_option maxRecDepth 100000 in
theorem Len_any {w : World} {rp sb cap head : Nat} {xs : List UInt8} (hR : IsRing w rp sb cap head xs) : Calls Try.prog 13 #[.pointer (some ⟨rp, 0, none⟩)] w fun e w' => e = .returned (.int .i64 (xs.length : Int)) ∧ Below w.heap.size w w' := by
  obtain ⟨c0, c1, c2, cf⟩ := hR.cells
  clear hR
  go_enter Try.func13, Try.ntmps13
  go_wp2
  go_ret
  exact ⟨rfl, Below.refl _ _⟩

set_option maxRecDepth 100000 in
theorem Head_any {w : World} {rp sb cap head : Nat} {xs : List UInt8} (hR : IsRing w rp sb cap head xs) : Calls Try.prog 17 #[.pointer (some ⟨rp, 0, none⟩)] w fun e w' => e = .returned (.int .i64 (head : Int)) ∧ Below w.heap.size w w' := by
  obtain ⟨c0, c1, c2, cf⟩ := hR.cells
  clear hR
  go_enter Try.func17, Try.ntmps17
  go_wp2
  go_ret
  exact ⟨rfl, Below.refl _ _⟩

set_option maxRecDepth 100000 in
theorem Free_any {w : World} {rp sb cap head : Nat} {xs : List UInt8} (hR : IsRing w rp sb cap head xs) : Calls Try.prog 25 #[.pointer (some ⟨rp, 0, none⟩)] w fun e w' => e = .returned (.int .i64 ((cap - xs.length : Nat) : Int)) ∧ Below w.heap.size w w' := by
  have HR : Hid (IsRing w rp sb cap head xs) := hR
  have hl := hR.hlen
  have hc := hR.hcap
  clear hR
  go_enter Try.func25, Try.ntmps25
  go_wp2_with fail
  refine (Cap_any HR.out).mono ?_
  rintro e w1 ⟨rfl, hb1⟩
  have HB1 : Hid (Below w.heap.size w w1) := hb1
  clear hb1
  go_wp2_with fail
  refine (Len_any (HR.out.below HB1.out)).mono ?_
  rintro e w2 ⟨rfl, hb2⟩
  have HB2 : Hid (Below w.heap.size w w2) := HB1.out.trans (hb2.mono HB1.out.size)
  clear hb2
  go_wp2
  go_ret
  exact ⟨by go_num, HB2.out⟩

set_option maxRecDepth 100000 in
theorem place_any {w : World} {rp sb cap head : Nat} {xs : List UInt8} (hR : IsRing w rp sb cap head xs) (i : Nat) (hi : i ≤ cap) : Calls Try.prog 28 #[.pointer (some ⟨rp, 0, none⟩), .int .i64 (i : Int)] w fun e w' => e = .returned (.int .i64 ((pl cap head i : Nat) : Int)) ∧ Below w.heap.size w w' := by
  obtain ⟨c0, c1, c2, cf⟩ := hR.cells
  have h1 := hR.hhead
  have h2 := hR.hcap
  clear hR
  by_cases hc : cap ≤ head + i
  · have HP : Hid (pl cap head i = head + i - cap) := if_pos hc
    have hc' : (cap : Int) ≤ (i : Int) + (head : Int) := by omega
    go_enter Try.func28, Try.ntmps28
    go_wp2
    go_ret
    exact ⟨by rw [HP.out]; go_num, Below.refl _ _⟩
  · have HP : Hid (pl cap head i = head + i) := if_neg hc
    have hc' : ¬ (cap : Int) ≤ (i : Int) + (head : Int) := by omega
    go_enter Try.func28, Try.ntmps28
    go_wp2
    go_ret
    exact ⟨by rw [HP.out]; go_num, Below.refl _ _⟩

/-- How many of n bytes wait from a number on. -/
def rch (len : Nat) (from' n : Int) : Nat := if from' < 0 ∨ n < 0 ∨ (len : Int) < from' then 0 else min n.toNat (len - from'.toNat)
theorem rch_le (len : Nat) (f n : Int) : rch len f n ≤ len := by
  unfold rch
  split <;> omega
theorem rch_zero (len : Nat) (n : Nat) : rch len 0 (n : Int) = min n len := by
  unfold rch
  rw [if_neg (by omega)]
  omega
theorem rch_fit (len : Nat) (f n : Int) (h : 0 < rch len f n) : 0 ≤ f ∧ 0 ≤ n ∧ f.toNat + rch len f n ≤ len := by
  unfold rch at *
  split at h
  · omega
  · rename_i hc
    rw [if_neg hc]
    omega

set_option maxRecDepth 100000 in
theorem reach_any {w : World} {rp sb cap head : Nat} {xs : List UInt8} (hR : IsRing w rp sb cap head xs) (f n : Int) (hf0 : -9223372036854775808 ≤ f) (hf1 : f ≤ 9223372036854775807) (hn0 : -9223372036854775808 ≤ n) (hn1 : n ≤ 9223372036854775807) : Calls Try.prog 23 #[.pointer (some ⟨rp, 0, none⟩), .int .i64 f, .int .i64 n] w fun e w' => e = .returned (.int .i64 ((rch xs.length f n : Nat) : Int)) ∧ Below w.heap.size w w' := by
  have HR : Hid (IsRing w rp sb cap head xs) := hR
  have hl := hR.hlen
  have hc := hR.hcap
  clear hR
  by_cases h1 : f < 0
  · have HP : Hid (rch xs.length f n = 0) := if_pos (.inl h1)
    go_enter Try.func23, Try.ntmps23
    go_wp2
    go_ret
    exact ⟨by rw [HP.out]; rfl, Below.refl _ _⟩
  by_cases h2 : n < 0
  · have HP : Hid (rch xs.length f n = 0) := if_pos (.inr (.inl h2))
    go_enter Try.func23, Try.ntmps23
    go_wp2
    go_ret
    exact ⟨by rw [HP.out]; rfl, Below.refl _ _⟩
  go_enter Try.func23, Try.ntmps23
  go_wp2_with fail
  refine (Len_any HR.out).mono ?_
  rintro e w1 ⟨rfl, hb1⟩
  have HB1 : Hid (Below w.heap.size w w1) := hb1
  clear hb1
  by_cases h3 : (xs.length : Int) < f
  · have HP : Hid (rch xs.length f n = 0) := if_pos (.inr (.inr h3))
    go_wp2
    go_ret
    exact ⟨by rw [HP.out]; rfl, HB1.out⟩
  have HP : Hid (rch xs.length f n = min n.toNat (xs.length - f.toNat)) := if_neg (by omega)
  go_wp2_with fail
  refine (Len_any (HR.out.below HB1.out)).mono ?_
  rintro e w2 ⟨rfl, hb2⟩
  have HB2 : Hid (Below w.heap.size w w2) := HB1.out.trans (hb2.mono HB1.out.size)
  clear hb2
  by_cases h4 : n ≤ (xs.length : Int) - f
  · go_wp2
    go_ret
    exact ⟨by rw [HP.out]; go_num, HB2.out⟩
  · go_wp2
    go_ret
    exact ⟨by rw [HP.out]; go_num, HB2.out⟩

end Rg
end Go.Proofs.Ytclciccgcegpmaa

/-
  Making a ring; its two pieces; putting, looking, dropping, taking.
-/
set_option linter.unusedVariables false
set_option linter.unusedSimpArgs false
namespace Go.Proofs.Ytclciccgcegpmaa
open Go.RowKit
namespace Rg

set_option maxRecDepth 100000 in
theorem run_mkB (W : World) (n : Nat) (hn : n ≤ 140737488355328) : (Instr.makeSlice 25 (.int .i64 (n : Int)) (.int .i64 (n : Int))).run Try.prog W = .ok (.slice (some ⟨W.heap.size, 0, none⟩) n n) (W.alloc (.cells (bv (List.replicate n 0)).toArray 5 (0, 0))) := by
  obtain ⟨i0, hi, hz0, hz1, hz2⟩ := info_parts infoB
  have hr := run_make (P := Try.prog) W 25 5 i0 (.int .u8 0) Try.underlying25 hi hz0 .i64 .i64 (n : Int) (n : Int) (by omega) (Int.le_refl _) (by rw [hz2]; omega) (by omega)
  simp only [Int.toNat_natCast, hz1] at hr
  rw [hr]
  congr 3
  apply Array.toList_inj.1
  show (madeCells #[Value.int .u8 0] (n * 1)).toList = _
  rw [toList_madeCells_one, Nat.mul_one]
  unfold bv
  simp

set_option maxRecDepth 100000 in
theorem New_any (w : World) (c : Nat) (h1 : 1 ≤ c) (h2 : c ≤ 1048576) : Calls Try.prog 14 #[.int .i64 (c : Int)] w fun e w' => e = .returned (.tuple #[.pointer (some ⟨w.heap.size + 1, 0, none⟩), .int .i64 0]) ∧ IsRing w' (w.heap.size + 1) w.heap.size c 0 [] ∧ Below w.heap.size w w' := by
  have hm := run_mkB w c (by omega)
  have g1 : ¬ (c : Int) < 1 := by omega
  have g2 : ¬ (1048576 : Int) < (c : Int) := by omega
  go_enter Try.func14, Try.ntmps14
  go_wp2
  go_ret2
  refine ⟨rfl, ⟨?_, ⟨List.replicate c 0, by simp, ?_, rfl⟩, by omega, by omega, by simp, by omega⟩, ?_⟩
  · exact heap_alloc2_new _ _ _
  · exact heap_alloc2_old _ _ _
  · exact ((Below.refl _ w).alloc (Nat.le_refl _) _).alloc (by simp) _

set_option maxRecDepth 100000 in
theorem New_bad (w : World) (c : Int) (h : ¬ (1 ≤ c ∧ c ≤ 1048576)) : Calls Try.prog 14 #[.int .i64 c] w fun e w' => e = .returned (.tuple #[.pointer none, .int .i64 20]) ∧ Below w.heap.size w w' := by
  by_cases g1 : c < 1
  · go_enter Try.func14, Try.ntmps14
    go_wp2
    go_ret2
    exact ⟨by simp, Below.refl _ _⟩
  · have g2 : (1048576 : Int) < c := by omega
    go_enter Try.func14, Try.ntmps14
    go_wp2
    go_ret2
    exact ⟨by simp, Below.refl _ _⟩

/- The two pieces of n places from a number on. -/
set_option maxRecDepth 100000 in
theorem pieces_any {w : World} {rp sb cap head : Nat} {xs : List UInt8} (hR : IsRing w rp sb cap head xs) (st : List UInt8) (hl : st.length = cap) (hst : w.heap[sb]? = some (.cells (bv st).toArray 5 (0, 0))) (f n s k : Nat) (hf : f ≤ cap) (hn : n ≤ cap) (hs : s = pl cap head f) (hk : k = ahead cap s n) :
    Calls Try.prog 24 #[.pointer (some ⟨rp, 0, none⟩), .int .i64 (f : Int), .int .i64 (n : Int)] w fun e w' => ∃ a1 a2,
      e = .returned (.tuple #[.slice a1 k k, .slice a2 (n - k) (n - k)]) ∧ (0 < k → a1 = some ⟨sb, s, none⟩) ∧ (0 < n - k → a2 = some ⟨sb, 0, none⟩) ∧
      RdB w' (.slice a1 k k) ((st.drop s).take k) ∧ RdB w' (.slice a2 (n - k) (n - k)) (st.take (n - k)) ∧ (∀ g, (Value.slice a1 k k).ownBlock = some g → g = sb) ∧ (∀ g, (Value.slice a2 (n - k) (n - k)).ownBlock = some g → g = sb) ∧ Below w.heap.size w w' := by
  have HR : Hid (IsRing w rp sb cap head xs) := hR
  have h1 := hR.hhead
  have h2 := hR.hcap
  clear hR
  have hp := pl_lt cap head f h1 hf
  rw [← hs] at hp
  have hk1 := ahead_le cap s n hp
  have hk2 := ahead_fit cap s n hp
  have hk3 := ahead_rest cap s n hp hn
  have hk4 : k = min (s + n) cap - s := hk
  rw [← hk] at hk1 hk2 hk3
  have hrd : RdB w (.slice (some ⟨sb, 0, none⟩) cap cap) st := ⟨_, _, by rw [hl], by omega, (fun e => by cases e), .inr ⟨sb, 0, rfl, fun j x hj => by rw [cell_of_row w sb _ _ _ _ hst]; simp [bv, hj]⟩⟩
  have HS : Hid (s = pl cap head f) := hs
  clear hs hk
  go_enter Try.func24, Try.ntmps24
  go_wp2_with fail
  refine (place_any HR.out f hf).mono ?_
  rintro e w1 ⟨rfl, hb1⟩
  rw [← HS.out]
  obtain ⟨a1, r1, p1, b1, e1⟩ := cut_three (hrd.below hb1) s (s + k) (by omega) (by omega)
  obtain ⟨a2, r2, p2, b2, e2⟩ := cut_three (hrd.below hb1) 0 (n - k) (by omega) (by omega)
  obtain ⟨c0, c1, c2, cf⟩ := (HR.out.below hb1).cells
  rw [List.drop_zero] at r2
  simp only [Nat.add_sub_cancel_left, Nat.sub_zero, Nat.add_zero, Nat.zero_add] at r1 r2 p1 p2 b1 b2 e1 e2
  have q1 : Hid (0 < k → a1 = some ⟨sb, s, none⟩) := fun h => by have := p1 sb 0 rfl (by omega); rwa [Nat.zero_add] at this
  have q2 : Hid (0 < n - k → a2 = some ⟨sb, 0, none⟩) := fun h => p2 sb 0 rfl h
  have o1 : Hid (∀ g, (Value.slice a1 k k).ownBlock = some g → g = sb) := fun g hg => by have := b1 g hg; injection this with this; exact this.symm
  have o2 : Hid (∀ g, (Value.slice a2 (n - k) (n - k)).ownBlock = some g → g = sb) := fun g hg => by have := b2 g hg; injection this with this; exact this.symm
  have R1 : Hid (RdB w1 (.slice a1 k k) ((st.drop s).take k)) := r1
  have R2 : Hid (RdB w1 (.slice a2 (n - k) (n - k)) (st.take (n - k))) := r2
  have HB1 : Hid (Below w.heap.size w w1) := hb1
  have HK4 : Hid (k = min (s + n) cap - s) := hk4
  clear p1 p2 b1 b2 r1 r2 hb1 hk4 hrd hst
  replace e2 : ∀ w : World, (Instr.slice 25 (.slice (some ⟨sb, 0, none⟩) cap cap) (some (.int .i64 0)) (some (.int .i64 ((n - k : Nat) : Int))) (some (.int .i64 ((n - k : Nat) : Int)))).run Try.prog w = .ok (.slice a2 (n - k) (n - k)) w := e2
  obtain ⟨J1, hJ1⟩ : ∃ J : Int, J = ((s + k : Nat) : Int) := ⟨_, rfl⟩
  obtain ⟨J2, hJ2⟩ : ∃ J : Int, J = ((n - k : Nat) : Int) := ⟨_, rfl⟩
  rw [← hJ1] at e1
  rw [← hJ2] at e2
  have HJ1 : Hid (J1 = ((s + k : Nat) : Int)) := hJ1
  have HJ2 : Hid (J2 = ((n - k : Nat) : Int)) := hJ2
  clear hJ1 hJ2
  by_cases hc : s + n ≤ cap
  · have x2 : Hid ((n : Int) - ((s : Int) + (n : Int) - (s : Int)) = J2) := (by have := HK4.out; have := HJ2.out; omega : (n : Int) - ((s : Int) + (n : Int) - (s : Int)) = J2)
    have x1 : Hid ((s : Int) + (n : Int) = J1) := (by have := HK4.out; have := HJ1.out; omega : (s : Int) + (n : Int) = J1)
    go_wp2
    rw [x2.out, x1.out]
    go_quiet (fail)
    go_wp2
    go_ret2
    exact ⟨a1, a2, rfl, q1.out, q2.out, R1.out, R2.out, o1.out, o2.out, bel_drewN HB1.out _⟩
  · have x2 : Hid ((n : Int) - ((cap : Int) - (s : Int)) = J2) := (by have := HK4.out; have := HJ2.out; omega : (n : Int) - ((cap : Int) - (s : Int)) = J2)
    have x1 : Hid ((cap : Int) = J1) := (by have := HK4.out; have := HJ1.out; omega : (cap : Int) = J1)
    go_wp2
    rw [x2.out, x1.out]
    go_quiet (fail)
    go_wp2
    go_ret2
    exact ⟨a1, a2, rfl, q1.out, q2.out, R1.out, R2.out, o1.out, o2.out, bel_drewN HB1.out _⟩

/- A row written, a field set: the ring behind it. -/
set_option maxRecDepth 100000 in
theorem IsRing.put {w w1 w2 : World} {rp sb cap head : Nat} {xs : List UInt8} (hR : IsRing w rp sb cap head xs) (st st' ys : List UInt8) (hl : st'.length = cap) (hw : win st' head ys.length = ys) (hy : ys.length ≤ cap)
    (h1 : w1.heap[sb]? = some (.cells (bv st').toArray 5 (0, 0))) (hb : But [sb] w w1) (h2 : w2 = w1.setCell ⟨rp, 2, none⟩ (.int .i64 (ys.length : Int))) :
    IsRing w2 rp sb cap head ys ∧ But [rp, sb] w w2 := by
  subst h2
  have hstr : w1.heap[rp]? = some (.cells #[.slice (some ⟨sb, 0, none⟩) cap cap, .int .i64 (head : Int), .int .i64 (xs.length : Int)] 57 (0, 0)) := hb.heap hR.str (by simp [hR.ne])
  refine ⟨⟨?_, ⟨st', hl, ?_, hw⟩, hR.ne, hR.hhead, hy, hR.hcap⟩, ((hb.mono (by simp)).setCell (by simp) _)⟩
  · rw [heap_setCell_same w1 rp 2 _ _ _ hstr]
    rfl
  · rw [heap_setCell_other w1 _ sb _ (fun e => hR.ne e.symm)]
    exact h1

set_option maxRecDepth 100000 in
set_option maxHeartbeats 1000000 in
theorem Put_any {w : World} {rp sb cap head : Nat} {xs : List UInt8} (hR : IsRing w rp sb cap head xs) (v : Value) (l : List UInt8) (hv : RdB w v l) (hg : ∀ g, v.ownBlock = some g → g ≠ rp ∧ g ≠ sb) (hl63 : l.length ≤ 9223372036854775807) (n : Nat) (hn : n = min l.length (cap - xs.length)) :
    Calls Try.prog 15 #[.pointer (some ⟨rp, 0, none⟩), v] w fun e w' => e = .returned (.int .i64 (n : Int)) ∧ IsRing w' rp sb cap head (xs ++ l.take n) ∧ But [rp, sb] w w' := by
  have HR : Hid (IsRing w rp sb cap head xs) := hR
  have hx := hR.hlen
  have hc := hR.hcap
  have hh := hR.hhead
  obtain ⟨st, hst, hstore, hwin⟩ := hR.store
  have HW : Hid (win st head xs.length = xs) := hwin
  have HST : Hid (w.heap[sb]? = some (.cells (bv st).toArray 5 (0, 0))) := hstore
  have HV : Hid (RdB w v l) := hv
  have HG : Hid (∀ g, v.ownBlock = some g → g ≠ rp ∧ g ≠ sb) := hg
  obtain ⟨a, c, rfl, hlc, _⟩ := hv
  clear hR hwin hstore hg
  have HN : Hid (n = min l.length (cap - xs.length)) := hn
  have hn1 : n ≤ l.length := by omega
  have hn2 : xs.length + n ≤ cap := by omega
  clear hn
  obtain ⟨s, hs⟩ : ∃ s, s = pl cap head xs.length := ⟨_, rfl⟩
  obtain ⟨k, hk⟩ : ∃ k, k = ahead cap s n := ⟨_, rfl⟩
  have hp := pl_lt cap head xs.length hh hx
  rw [← hs] at hp
  have hk1 := ahead_le cap s n hp
  have hk2 := ahead_fit cap s n hp
  rw [← hk] at hk1 hk2
  have HS : Hid (s = pl cap head xs.length) := hs
  have HK : Hid (k = ahead cap s n) := hk
  clear hs hk
  go_enter Try.func15, Try.ntmps15
  go_wp2_with fail
  refine (Free_any HR.out).mono ?_
  rintro e w1 ⟨rfl, hb1⟩
  have HB1 : Hid (Below w.heap.size w w1) := hb1
  clear hb1
  obtain ⟨c0, c1, c2, cf⟩ := (HR.out.below HB1.out).cells
  obtain ⟨fr, hfr⟩ : ∃ fr, fr = cap - xs.length := ⟨_, rfl⟩
  rw [← hfr]
  have HF : Hid (fr = cap - xs.length) := hfr
  have hfr1 : fr ≤ 1048576 := by omega
  clear hfr
  by_cases hle : l.length ≤ fr
  · have hln : Hid (((l.length : Nat) : Int) = (n : Int)) := (by have := HN.out; have := HF.out; omega : ((l.length : Nat) : Int) = (n : Int))
    by_cases hz : n = 0
    · have hz' : (((l.length : Nat) : Int) == 0) = true := by rw [hln.out]; simp [hz]
      go_wp2
      go_ret
      refine ⟨by rw [hz]; rfl, ?_, (But.of_below HB1.out).nil⟩
      rw [hz, List.take_zero, List.append_nil]
      exact HR.out.below HB1.out
    · have hz' : (((l.length : Nat) : Int) == 0) = false := by rw [hln.out]; simp; omega
      go_wp2_with fail
      rw [hln.out]
      refine (pieces_any (HR.out.below HB1.out) st hst (by rw [HB1.out.block sb (HR.out.lt2)]; exact HST.out) xs.length n s k (by omega) (by omega) HS.out HK.out).mono ?_
      rintro e w2 ⟨a1, a2, rfl, q1, q2, R1, R2, o1, o2, hb2⟩
      have HB2 : Hid (Below w.heap.size w w2) := bel_trans HB1.out hb2
      have Q1 : Hid (0 < k → a1 = some ⟨sb, s, none⟩) := q1
      have Q2 : Hid (0 < n - k → a2 = some ⟨sb, 0, none⟩) := q2
      clear q1 q2 R1 R2 o1 o2 hb2
      have HV2 : Hid (RdB w2 (.slice a l.length c) l) := HV.out.below HB2.out
      have HS2 : Hid (w2.heap[sb]? = some (.cells (bv st).toArray 5 (0, 0))) := (by rw [HB2.out.block sb (HR.out.lt2)]; exact HST.out : w2.heap[sb]? = _)
      obtain ⟨a3, r3, _, b3, e3⟩ := cut_from HV.out k (by omega)
      have HV3 : Hid (RdB w (.slice a3 (l.length - k) (c - k)) (l.drop k)) := r3
      have HO3 : Hid (∀ g, (Value.slice a3 (l.length - k) (c - k)).ownBlock = some g → g ∉ [sb]) := fun g hg => by have := HG.out g (b3 g hg); simp; exact this.2
      clear r3 b3
      obtain ⟨w3, run3, hs3, hg3⟩ := run_cp 3 w2 a1 k k _ l HV2.out sb s st 5 HS2.out k (by omega) Q1.out (by rw [hst]; omega)
      have HB3 : Hid (But [sb] w w3) := ((But.of_below HB2.out).nil).grown hg3.out (fun k hk => by cases hk; simp)
      have HV4 : Hid (RdB w3 (.slice a3 (l.length - k) (c - k)) (l.drop k)) := HV3.out.but HB3.out HO3.out
      have l1 : Hid ((splice st s (l.take k)).length = cap) := (by rw [length_splice _ _ _ (by rw [List.length_take, hst]; omega), hst] : (splice st s (l.take k)).length = cap)
      obtain ⟨w4, run4, hs4, hg4⟩ := run_cp 3 w3 a2 (n - k) (n - k) _ (l.drop k) HV4.out sb 0 (splice st s (l.take k)) 5 hs3.out (n - k) (by rw [List.length_drop]; omega) Q2.out (by rw [l1.out]; omega)
      have HB4 : Hid (But [sb] w w4) := HB3.out.grown hg4.out (fun k hk => by cases hk; simp)
      have hstr : Hid (w4.heap[rp]? = some (.cells #[.slice (some ⟨sb, 0, none⟩) cap cap, .int .i64 (head : Int), .int .i64 (xs.length : Int)] 57 (0, 0))) := HB4.out.heap HR.out.str (by simp [HR.out.ne])
      have d2 : w4.cell? ⟨rp, 2, none⟩ = some (.int .i64 (xs.length : Int)) := by rw [cell_of_row w4 rp _ _ _ _ hstr.out]; rfl
      have d3 : w4.frozen? ⟨rp, 2, none⟩ = false := frozen_of_row w4 rp 2 _ _ hstr.out
      go_wp2
      go_ret
      have e1 : (l.take k).length = k := by rw [List.length_take]; omega
      have e2 : ((l.drop k).take (n - k)).length = n - k := by rw [List.length_take, List.length_drop]; omega
      have e4 : l.take n = l.take k ++ (l.drop k).take (n - k) := by rw [← List.take_add, show k + (n - k) = n by omega]
      have e5 : (xs ++ l.take n).length = xs.length + n := by rw [List.length_append, List.length_take]; omega
      have hw := win_put st head xs.length (l.take k) ((l.drop k).take (n - k)) (by omega) (by rw [e1, e2]; omega) (by rw [e1, e2, hst, ← HS.out, show k + (n - k) = n by omega]; exact HK.out)
      rw [e1, e2, hst, ← HS.out, show k + (n - k) = n by omega, HW.out, ← e4, ← e5] at hw
      have := IsRing.put (w2 := w4.setCell ⟨rp, 2, none⟩ (.int .i64 ((xs.length : Int) + (n : Int)))) HR.out st _ (xs ++ l.take n) (by rw [length_splice _ _ _ (by rw [l1.out, e2]; omega), l1.out]) hw (by rw [e5]; omega) hs4.out HB4.out (by rw [e5]; simp)
      exact ⟨by go_num, this.1, this.2⟩
  · have hln : Hid (((fr : Nat) : Int) = (n : Int)) := (by have := HN.out; have := HF.out; omega : ((fr : Nat) : Int) = (n : Int))
    by_cases hz : n = 0
    · have hz' : (((fr : Nat) : Int) == 0) = true := by rw [hln.out]; simp [hz]
      go_wp2
      go_ret
      refine ⟨by rw [hz]; rfl, ?_, (But.of_below HB1.out).nil⟩
      rw [hz, List.take_zero, List.append_nil]
      exact HR.out.below HB1.out
    · have hz' : (((fr : Nat) : Int) == 0) = false := by rw [hln.out]; simp; omega
      go_wp2_with fail
      rw [hln.out]
      refine (pieces_any (HR.out.below HB1.out) st hst (by rw [HB1.out.block sb (HR.out.lt2)]; exact HST.out) xs.length n s k (by omega) (by omega) HS.out HK.out).mono ?_
      rintro e w2 ⟨a1, a2, rfl, q1, q2, R1, R2, o1, o2, hb2⟩
      have HB2 : Hid (Below w.heap.size w w2) := bel_trans HB1.out hb2
      have Q1 : Hid (0 < k → a1 = some ⟨sb, s, none⟩) := q1
      have Q2 : Hid (0 < n - k → a2 = some ⟨sb, 0, none⟩) := q2
      clear q1 q2 R1 R2 o1 o2 hb2
      have HV2 : Hid (RdB w2 (.slice a l.length c) l) := HV.out.below HB2.out
      have HS2 : Hid (w2.heap[sb]? = some (.cells (bv st).toArray 5 (0, 0))) := (by rw [HB2.out.block sb (HR.out.lt2)]; exact HST.out : w2.heap[sb]? = _)
      obtain ⟨a3, r3, _, b3, e3⟩ := cut_from HV.out k (by omega)
      have HV3 : Hid (RdB w (.slice a3 (l.length - k) (c - k)) (l.drop k)) := r3
      have HO3 : Hid (∀ g, (Value.slice a3 (l.length - k) (c - k)).ownBlock = some g → g ∉ [sb]) := fun g hg => by have := HG.out g (b3 g hg); simp; exact this.2
      clear r3 b3
      obtain ⟨w3, run3, hs3, hg3⟩ := run_cp 3 w2 a1 k k _ l HV2.out sb s st 5 HS2.out k (by omega) Q1.out (by rw [hst]; omega)
      have HB3 : Hid (But [sb] w w3) := ((But.of_below HB2.out).nil).grown hg3.out (fun k hk => by cases hk; simp)
      have HV4 : Hid (RdB w3 (.slice a3 (l.length - k) (c - k)) (l.drop k)) := HV3.out.but HB3.out HO3.out
      have l1 : Hid ((splice st s (l.take k)).length = cap) := (by rw [length_splice _ _ _ (by rw [List.length_take, hst]; omega), hst] : (splice st s (l.take k)).length = cap)
      obtain ⟨w4, run4, hs4, hg4⟩ := run_cp 3 w3 a2 (n - k) (n - k) _ (l.drop k) HV4.out sb 0 (splice st s (l.take k)) 5 hs3.out (n - k) (by rw [List.length_drop]; omega) Q2.out (by rw [l1.out]; omega)
      have HB4 : Hid (But [sb] w w4) := HB3.out.grown hg4.out (fun k hk => by cases hk; simp)
      have hstr : Hid (w4.heap[rp]? = some (.cells #[.slice (some ⟨sb, 0, none⟩) cap cap, .int .i64 (head : Int), .int .i64 (xs.length : Int)] 57 (0, 0))) := HB4.out.heap HR.out.str (by simp [HR.out.ne])
      have d2 : w4.cell? ⟨rp, 2, none⟩ = some (.int .i64 (xs.length : Int)) := by rw [cell_of_row w4 rp _ _ _ _ hstr.out]; rfl
      have d3 : w4.frozen? ⟨rp, 2, none⟩ = false := frozen_of_row w4 rp 2 _ _ hstr.out
      go_wp2
      go_ret
      have e1 : (l.take k).length = k := by rw [List.length_take]; omega
      have e2 : ((l.drop k).take (n - k)).length = n - k := by rw [List.length_take, List.length_drop]; omega
      have e4 : l.take n = l.take k ++ (l.drop k).take (n - k) := by rw [← List.take_add, show k + (n - k) = n by omega]
      have e5 : (xs ++ l.take n).length = xs.length + n := by rw [List.length_append, List.length_take]; omega
      have hw := win_put st head xs.length (l.take k) ((l.drop k).take (n - k)) (by omega) (by rw [e1, e2]; omega) (by rw [e1, e2, hst, ← HS.out, show k + (n - k) = n by omega]; exact HK.out)
      rw [e1, e2, hst, ← HS.out, show k + (n - k) = n by omega, HW.out, ← e4, ← e5] at hw
      have := IsRing.put (w2 := w4.setCell ⟨rp, 2, none⟩ (.int .i64 ((xs.length : Int) + (n : Int)))) HR.out st _ (xs ++ l.take n) (by rw [length_splice _ _ _ (by rw [l1.out, e2]; omega), l1.out]) hw (by rw [e5]; omega) hs4.out HB4.out (by rw [e5]; simp)
      exact ⟨by go_num, this.1, this.2⟩

end Rg
end Go.Proofs.Ytclciccgcegpmaa

/-
  Putting all, looking, dropping, taking.
-/
set_option linter.unusedVariables false
set_option linter.unusedSimpArgs false
namespace Go.Proofs.Ytclciccgcegpmaa
open Go.RowKit
namespace Rg

set_option maxRecDepth 100000 in
theorem owns_heap {w : World} {g B : Nat} {l : List UInt8} {n : Nat} (h : w.heap[g]? = some (.cells (bv l).toArray 5 (0, 0))) (hB : B ≤ g) (hn : n = l.length) (hm : l.length ≤ maxLen) : w.ownsRow B 5 1 (.slice (some ⟨g, 0, none⟩) n n) n (bv l) := by
  subst hn
  refine ⟨by rw [bv_length]; omega, .inr ⟨g, l.length, (bv l).toArray, rfl, hB, h, Nat.le_refl _, hm, by simp [bv_length], ?_⟩⟩
  rw [Nat.mul_one]
  exact List.take_of_length_le (by rw [bv_length]; exact Nat.le_refl _)

set_option maxRecDepth 100000 in
theorem PutAll_any {w : World} {rp sb cap head : Nat} {xs : List UInt8} (hR : IsRing w rp sb cap head xs) (v : Value) (l : List UInt8) (hv : RdB w v l) (hg : ∀ g, v.ownBlock = some g → g ≠ rp ∧ g ≠ sb) (hl63 : l.length ≤ 9223372036854775807) (hfit : xs.length + l.length ≤ cap) :
    Calls Try.prog 18 #[.pointer (some ⟨rp, 0, none⟩), v] w fun e w' => e = .returned (.int .i64 0) ∧ IsRing w' rp sb cap head (xs ++ l) ∧ But [rp, sb] w w' := by
  have HR : Hid (IsRing w rp sb cap head xs) := hR
  have hx := hR.hlen
  have hc := hR.hcap
  have HV : Hid (RdB w v l) := hv
  have HG : Hid (∀ g, v.ownBlock = some g → g ≠ rp ∧ g ≠ sb) := hg
  obtain ⟨a, c, rfl, hlc, _⟩ := hv
  clear hR hg
  go_enter Try.func18, Try.ntmps18
  go_wp2_with fail
  refine (Free_any HR.out).mono ?_
  rintro e w1 ⟨rfl, hb1⟩
  have HB1 : Hid (Below w.heap.size w w1) := hb1
  clear hb1
  obtain ⟨fr, hfr⟩ : ∃ fr, fr = cap - xs.length := ⟨_, rfl⟩
  rw [← hfr]
  have HF : Hid (fr = cap - xs.length) := hfr
  have hle : ¬ ((fr : Nat) : Int) < ((l.length : Nat) : Int) := by omega
  clear hfr
  go_wp2_with fail
  refine (Put_any (HR.out.below HB1.out) _ l (HV.out.below HB1.out) HG.out hl63 l.length (by omega)).mono ?_
  rintro e w2 ⟨rfl, h2, h3⟩
  have HR2 : Hid (IsRing w2 rp sb cap head (xs ++ l)) := (by rw [List.take_length] at h2; exact h2 : IsRing w2 rp sb cap head (xs ++ l))
  have HB2 : Hid (But [rp, sb] w w2) := (But.of_below HB1.out).nil.trans h3
  clear h2 h3
  go_wp2
  go_ret
  exact ⟨rfl, HR2.out, HB2.out⟩

set_option maxRecDepth 100000 in
theorem PutAll_full {w : World} {rp sb cap head : Nat} {xs : List UInt8} (hR : IsRing w rp sb cap head xs) (v : Value) (l : List UInt8) (hv : RdB w v l) (hl63 : l.length ≤ 9223372036854775807) (hfit : cap < xs.length + l.length) :
    Calls Try.prog 18 #[.pointer (some ⟨rp, 0, none⟩), v] w fun e w' => e = .returned (.int .i64 21) ∧ Below w.heap.size w w' := by
  have HR : Hid (IsRing w rp sb cap head xs) := hR
  have hx := hR.hlen
  have hc := hR.hcap
  obtain ⟨a, c, rfl, hlc, _⟩ := hv
  clear hR
  go_enter Try.func18, Try.ntmps18
  go_wp2_with fail
  refine (Free_any HR.out).mono ?_
  rintro e w1 ⟨rfl, hb1⟩
  have HB1 : Hid (Below w.heap.size w w1) := hb1
  clear hb1
  obtain ⟨fr, hfr⟩ : ∃ fr, fr = cap - xs.length := ⟨_, rfl⟩
  rw [← hfr]
  have hle : ((fr : Nat) : Int) < ((l.length : Nat) : Int) := by omega
  clear hfr
  go_wp2
  go_ret
  exact ⟨rfl, HB1.out⟩

set_option maxRecDepth 100000 in
set_option maxHeartbeats 1000000 in
theorem Peek_any {w : World} {rp sb cap head : Nat} {xs : List UInt8} (hR : IsRing w rp sb cap head xs) (f n : Int) (hf0 : -9223372036854775808 ≤ f) (hf1 : f ≤ 9223372036854775807) (hn0 : -9223372036854775808 ≤ n) (hn1 : n ≤ 9223372036854775807) (m : Nat) (hm : m = rch xs.length f n) :
    Calls Try.prog 12 #[.pointer (some ⟨rp, 0, none⟩), .int .i64 f, .int .i64 n] w fun e w' => ∃ v, e = .returned v ∧ w'.ownsRow w.heap.size 5 1 v m (bv ((xs.drop f.toNat).take m)) ∧ Below w.heap.size w w' := by
  have HR : Hid (IsRing w rp sb cap head xs) := hR
  have hx := hR.hlen
  have hc := hR.hcap
  have hh := hR.hhead
  obtain ⟨st, hst, hstore, hwin⟩ := hR.store
  have HW : Hid (win st head xs.length = xs) := hwin
  have HST : Hid (w.heap[sb]? = some (.cells (bv st).toArray 5 (0, 0))) := hstore
  clear hR hwin hstore
  have HM : Hid (m = rch xs.length f n) := hm
  have hmle : m ≤ xs.length := by rw [hm]; exact rch_le _ _ _
  clear hm
  go_enter Try.func12, Try.ntmps12
  go_wp2_with fail
  refine (reach_any HR.out f n hf0 hf1 hn0 hn1).mono ?_
  rintro e w1 ⟨rfl, hb1⟩
  have HB1 : Hid (Below w.heap.size w w1) := hb1
  clear hb1
  rw [← HM.out]
  by_cases hz : m = 0
  · have hz' : ((m : Int) == 0) = true := by simp [hz]
    go_wp2
    go_ret
    refine ⟨_, rfl, ?_, HB1.out⟩
    rw [hz, List.take_zero]
    exact World.ownsRow_nil _ _ _ _
  · have hz' : ((m : Int) == 0) = false := by simp; omega
    obtain ⟨f0, f1, f2⟩ := rch_fit xs.length f n (by have := HM.out; omega)
    obtain ⟨F, hF⟩ := Int.eq_ofNat_of_zero_le f0
    subst hF
    have hfm : F + m ≤ xs.length := by have := HM.out; simp only [Int.toNat_natCast] at f2; omega
    clear f0 f1 f2
    obtain ⟨s, hs⟩ : ∃ s, s = pl cap head F := ⟨_, rfl⟩
    obtain ⟨k, hk⟩ : ∃ k, k = ahead cap s m := ⟨_, rfl⟩
    have hp := pl_lt cap head F hh (by omega)
    rw [← hs] at hp
    have hk1 := ahead_le cap s m hp
    have hk2 := ahead_fit cap s m hp
    have hk3 := ahead_rest cap s m hp (by omega)
    rw [← hk] at hk1 hk2 hk3
    have HE : Hid ((xs.drop F).take m = (st.drop s).take k ++ st.take (m - k)) := by
      show _ = _
      have h1 := win_part st head xs.length F m (by omega) (by omega) hfm
      rw [HW.out, hst, ← hs] at h1
      rw [h1, win_pieces st s m (by omega) (by omega), hst, ← hk]
    have HS : Hid (s = pl cap head F) := hs
    have HK : Hid (k = ahead cap s m) := hk
    clear hs hk
    have hmk := run_mkB w1 m (by omega)
    obtain ⟨w2, hw2⟩ : ∃ w2, w2 = w1.alloc (.cells (bv (List.replicate m 0)).toArray 5 (0, 0)) := ⟨_, rfl⟩
    rw [← hw2] at hmk
    have HG2 : Hid (w2.heap[w1.heap.size]? = some (.cells (bv (List.replicate m 0)).toArray 5 (0, 0))) := (by rw [hw2]; exact heap_alloc_new _ _ : w2.heap[w1.heap.size]? = _)
    have HB2 : Hid (Below w.heap.size w w2) := (by rw [hw2]; exact HB1.out.alloc HB1.out.size _ : Below w.heap.size w w2)
    have hg1 : w.heap.size ≤ w1.heap.size := HB1.out.size
    have hsb : sb < w.heap.size := HR.out.lt2
    clear hw2
    generalize w1.heap.size = g at *
    go_wp2_with fail
    refine (pieces_any (HR.out.below HB2.out) st hst (by rw [HB2.out.block sb hsb]; exact HST.out) F m s k (by omega) (by omega) HS.out HK.out).mono ?_
    rintro e w3 ⟨a1, a2, rfl, q1, q2, R1, R2, o1, o2, hb3⟩
    have HB3 : Hid (Below w.heap.size w w3) := bel_trans HB2.out hb3
    have RA : Hid (RdB w3 (.slice a1 k k) ((st.drop s).take k)) := R1
    have RB : Hid (RdB w3 (.slice a2 (m - k) (m - k)) (st.take (m - k))) := R2
    have OB : Hid (∀ x, (Value.slice a2 (m - k) (m - k)).ownBlock = some x → x ∉ [g]) := fun x hx => by have := o2 x hx; simp; omega
    have HG3 : Hid (w3.heap[g]? = some (.cells (bv (List.replicate m 0)).toArray 5 (0, 0))) := (by rw [hb3.block g (Array.getElem?_eq_some_iff.1 HG2.out).1]; exact HG2.out : w3.heap[g]? = _)
    clear q1 q2 R1 R2 o1 o2 hb3
    have l1 : ((st.drop s).take k).length = k := by rw [List.length_take, List.length_drop]; omega
    have l2 : (st.take (m - k)).length = m - k := by rw [List.length_take]; omega
    obtain ⟨w4, run4, hs4, hg4⟩ := run_cp 3 w3 (some ⟨g, 0, none⟩) m m _ _ RA.out g 0 (List.replicate m 0) 5 HG3.out k (by rw [l1]; omega) (fun _ => rfl) (by simp; omega)
    have HS4 : Hid (w4.heap[g]? = some (.cells (bv (splice (List.replicate m 0) 0 ((st.drop s).take k))).toArray 5 (0, 0))) := by
      have := hs4.out
      rwa [List.take_of_length_le (by omega)] at this
    have RB4 : Hid (RdB w4 (.slice a2 (m - k) (m - k)) (st.take (m - k))) := RB.out.but ((But.refl [g] w3).grown hg4.out (fun x hx => by cases hx; simp)) OB.out
    have l3 : (splice (List.replicate m (0 : UInt8)) 0 ((st.drop s).take k)).length = m := by rw [length_splice _ _ _ (by simp; omega)]; simp
    have RO : RdB w4 (.slice (some ⟨g, 0, none⟩) m m) (splice (List.replicate m 0) 0 ((st.drop s).take k)) := ⟨_, _, by rw [l3], by omega, (fun e => by cases e), .inr ⟨g, 0, rfl, fun j x hj => by rw [cell_of_row w4 g _ _ _ _ HS4.out]; simp [bv, hj]⟩⟩
    obtain ⟨a3, _, p3, _, e3⟩ := cut_from RO k (by omega)
    obtain ⟨w5, run5, hs5, hg5⟩ := run_cp 3 w4 a3 (m - k) (m - k) _ _ RB4.out g k _ 5 HS4.out (m - k) (by rw [l2]; omega) (fun h => by have := p3 g 0 rfl (by omega); rwa [Nat.zero_add] at this) (by omega)
    have HS5 : Hid (w5.heap[g]? = some (.cells (bv ((xs.drop F).take m)).toArray 5 (0, 0))) := by
      have := hs5.out
      rwa [show (st.take (m - k)).take (m - k) = st.take (m - k) by rw [List.take_take, Nat.min_self], fill_two m k _ _ l1 (by omega), ← HE.out] at this
    have HB5 : Hid (Below w.heap.size w w5) := (HB3.out.grown hg4.out HB3.out.size (fun x hx => by cases hx; exact hg1)).grown hg5.out (by have := hg4.out.size; have := HB3.out.size; omega) (fun x hx => by cases hx; exact hg1)
    clear hs4 hs5 RO p3 l1 l2 l3
    have hlen : Hid (m = ((xs.drop F).take m).length) := (by rw [List.length_take, List.length_drop]; omega : m = ((xs.drop F).take m).length)
    go_wp2
    go_ret
    exact ⟨_, rfl, owns_heap (l := (xs.drop F).take m) HS5.out hg1 hlen.out (by rw [← hlen.out]; unfold maxLen; omega), HB5.out⟩

set_option maxRecDepth 100000 in
theorem Drop_any {w : World} {rp sb cap head : Nat} {xs : List UInt8} (hR : IsRing w rp sb cap head xs) (n : Int) (hn0 : -9223372036854775808 ≤ n) (hn1 : n ≤ 9223372036854775807) (m : Nat) (hm : m = rch xs.length 0 n) :
    Calls Try.prog 26 #[.pointer (some ⟨rp, 0, none⟩), .int .i64 n] w fun e w' => e = .returned (.int .i64 (m : Int)) ∧ IsRing w' rp sb cap (pl cap head m) (xs.drop m) ∧ But [rp, sb] w w' := by
  have HR : Hid (IsRing w rp sb cap head xs) := hR
  have hx := hR.hlen
  have hc := hR.hcap
  have hh := hR.hhead
  clear hR
  have HM : Hid (m = rch xs.length 0 n) := hm
  have hmle : m ≤ xs.length := by rw [hm]; exact rch_le _ _ _
  clear hm
  go_enter Try.func26, Try.ntmps26
  go_wp2_with fail
  refine (reach_any HR.out 0 n (by omega) (by omega) hn0 hn1).mono ?_
  rintro e w1 ⟨rfl, hb1⟩
  have HB1 : Hid (Below w.heap.size w w1) := hb1
  clear hb1
  rw [← HM.out]
  by_cases hz : m = 0
  · have hz' : ((m : Int) == 0) = true := by simp [hz]
    go_wp2
    go_ret
    refine ⟨by rw [hz]; rfl, ?_, (But.of_below HB1.out).nil⟩
    rw [hz, List.drop_zero, pl_zero cap head hh]
    exact HR.out.below HB1.out
  · have hz' : ((m : Int) == 0) = false := by simp; omega
    go_wp2_with fail
    refine (place_any (HR.out.below HB1.out) m (by omega)).mono ?_
    rintro e w2 ⟨rfl, hb2⟩
    have HB2 : Hid (Below w.heap.size w w2) := bel_trans HB1.out hb2
    clear hb2
    have HR2 : Hid (IsRing w2 rp sb cap head xs) := HR.out.below HB2.out
    obtain ⟨c0, c1, c2, cf⟩ := HR2.out.cells
    obtain ⟨h', hh'⟩ : ∃ h', h' = pl cap head m := ⟨_, rfl⟩
    rw [← hh']
    have HH : Hid (h' = pl cap head m) := hh'
    clear hh'
    go_wp2
    go_ret
    obtain ⟨st, hst, hstore, hwin⟩ := HR2.out.store
    have hl : (xs.drop m).length = xs.length - m := by simp
    have s1 := heap_setCell_same w2 rp 1 _ _ (.int .i64 (h' : Int)) HR2.out.str
    have s2 := heap_setCell_same _ rp 2 _ _ (.int .i64 ((xs.length : Int) - (m : Int))) s1
    refine ⟨rfl, ⟨?_, ⟨st, hst, ?_, ?_⟩, HR2.out.ne, ?_, by omega, HR2.out.hcap⟩, ?_⟩
    · first | (rw [s2, hl, ← HH.out]; simp; omega) | skip
    · rw [heap_setCell_other _ _ sb _ (fun e => HR2.out.ne e.symm), heap_setCell_other _ _ sb _ (fun e => HR2.out.ne e.symm)]
      exact hstore
    · rw [hl, ← hst, ← win_drop st head xs.length m (by omega) (by omega) hmle, hwin]
    · exact pl_lt cap head m hh (by omega)
    · exact ((((But.of_below HB2.out).nil).setCell (by simp) _).setCell (by simp) _)

set_option maxRecDepth 100000 in
theorem Take_any {w : World} {rp sb cap head : Nat} {xs : List UInt8} (hR : IsRing w rp sb cap head xs) (n : Int) (hn0 : -9223372036854775808 ≤ n) (hn1 : n ≤ 9223372036854775807) (m : Nat) (hm : m = rch xs.length 0 n) :
    Calls Try.prog 16 #[.pointer (some ⟨rp, 0, none⟩), .int .i64 n] w fun e w' => ∃ v, e = .returned v ∧ w'.ownsRow w.heap.size 5 1 v m (bv (xs.take m)) ∧ IsRing w' rp sb cap (pl cap head m) (xs.drop m) ∧ But [rp, sb] w w' := by
  have HR : Hid (IsRing w rp sb cap head xs) := hR
  have hx := hR.hlen
  have hc := hR.hcap
  have hh := hR.hhead
  clear hR
  have HM : Hid (m = rch xs.length 0 n) := hm
  have hmle : m ≤ xs.length := by rw [hm]; exact rch_le _ _ _
  clear hm
  go_enter Try.func16, Try.ntmps16
  go_wp2_with fail
  refine (Peek_any HR.out 0 n (by omega) (by omega) hn0 hn1 m HM.out).mono ?_
  rintro e w1 ⟨v, rfl, ho, hb1⟩
  have HB1 : Hid (Below w.heap.size w w1) := hb1
  have HO : Hid (w1.ownsRow w.heap.size 5 1 v m (bv (xs.take m))) := ho
  have HF : Hid (∀ g, v.ownBlock = some g → g ∉ [rp, sb]) := fun g hg => by
    have h1 := owns_fresh ho g hg
    have h2 := HR.out.lt1
    have h3 := HR.out.lt2
    simp
    omega
  have hvf : ∃ a c, v = .slice a m c := by
    rcases ho.2 with ⟨e, h0⟩ | ⟨g, c, _, e, _⟩
    · exact ⟨none, 0, by rw [e, h0]⟩
    · exact ⟨_, c, e⟩
  clear hb1 ho
  obtain ⟨a, c, rfl⟩ := hvf
  go_wp2_with fail
  refine (Drop_any (HR.out.below HB1.out) (m : Int) (by omega) (by omega) m (by rw [rch_zero]; omega)).mono ?_
  rintro e w2 ⟨rfl, h2, h3⟩
  have HR2 : Hid (IsRing w2 rp sb cap (pl cap head m) (xs.drop m)) := h2
  have HB2 : Hid (But [rp, sb] w1 w2) := h3
  clear h2 h3
  go_wp2
  go_ret
  exact ⟨_, rfl, HB2.out.owns HO.out HF.out, HR2.out, (But.of_below HB1.out).nil.trans HB2.out⟩

end Rg
end Go.Proofs.Ytclciccgcegpmaa
