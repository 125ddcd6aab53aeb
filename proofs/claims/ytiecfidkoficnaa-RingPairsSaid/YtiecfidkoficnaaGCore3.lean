/-
  Putting all, looking, dropping, taking.
-/
import Derived.Test.YtiecfidkoficnaaGCore2
set_option linter.unusedVariables false
set_option linter.unusedSimpArgs false
namespace Go.Proofs.Ytiecfidkoficnaa
open Go.RowKit
namespace Rg

set_option maxRecDepth 100000 in
theorem owns_heap {w : World} {g B : Nat} {l : List UInt8} {n : Nat} (h : w.heap[g]? = some (.cells (bv l).toArray 5 (0, 0))) (hB : B ≤ g) (hn : n = l.length) (hm : l.length ≤ maxLen) : w.ownsRow B 5 1 (.slice (some ⟨g, 0, none⟩) n n) n (bv l) := by
  subst hn
  refine ⟨by rw [bv_length]; omega, .inr ⟨g, l.length, (bv l).toArray, rfl, hB, h, Nat.le_refl _, hm, by simp [bv_length], ?_⟩⟩
  rw [Nat.mul_one]
  exact List.take_of_length_le (by rw [bv_length]; exact Nat.le_refl _)

set_option maxRecDepth 100000 in
theorem PutAll_any {w : World} {rp sb cap head : Nat} {xs : List UInt8} (hR : IsRing w rp sb cap head xs) (v : Value) (l : List UInt8) (hv : RdB w v l) (hg : ∀ g, v.ownBlock = some g → g ≠ rp ∧ g ≠ sb) (hl63 : l.length ≤ 9223372036854775807) (hfit : xs.length + l.length ≤ cap) :
    Calls Try.prog 42 #[.pointer (some ⟨rp, 0, none⟩), v] w fun e w' => e = .returned (.int .i64 0) ∧ IsRing w' rp sb cap head (xs ++ l) ∧ But [rp, sb] w w' := by
  have HR : Hid (IsRing w rp sb cap head xs) := hR
  have hx := hR.hlen
  have hc := hR.hcap
  have HV : Hid (RdB w v l) := hv
  have HG : Hid (∀ g, v.ownBlock = some g → g ≠ rp ∧ g ≠ sb) := hg
  obtain ⟨a, c, rfl, hlc, _⟩ := hv
  clear hR hg
  go_enter Try.func42, Try.ntmps42
  go_wp2_with fail
  refine (Free_any HR.out).mono ?_
  rintro e w1 ⟨rfl, hb1⟩
  have HB1 : Hid (Below w.heap.size w w1) := hb1
  clear hb1
  obtain ⟨fr, hfr⟩ : ∃ fr, fr = cap - xs.length := ⟨_, rfl⟩
  rw [← hfr]
  have HF : Hid (fr = cap - xs.length) := hfr
  have hle : ¬ ((fr : Nat) : Int) < ((l.length : Nat) : Int) := by omega
  clear hfr
  go_wp2_with fail
  refine (Put_any (HR.out.below HB1.out) _ l (HV.out.below HB1.out) HG.out hl63 l.length (by omega)).mono ?_
  rintro e w2 ⟨rfl, h2, h3⟩
  have HR2 : Hid (IsRing w2 rp sb cap head (xs ++ l)) := (by rw [List.take_length] at h2; exact h2 : IsRing w2 rp sb cap head (xs ++ l))
  have HB2 : Hid (But [rp, sb] w w2) := (But.of_below HB1.out).nil.trans h3
  clear h2 h3
  go_wp2
  go_ret
  exact ⟨rfl, HR2.out, HB2.out⟩

set_option maxRecDepth 100000 in
theorem PutAll_full {w : World} {rp sb cap head : Nat} {xs : List UInt8} (hR : IsRing w rp sb cap head xs) (v : Value) (l : List UInt8) (hv : RdB w v l) (hl63 : l.length ≤ 9223372036854775807) (hfit : cap < xs.length + l.length) :
    Calls Try.prog 42 #[.pointer (some ⟨rp, 0, none⟩), v] w fun e w' => e = .returned (.int .i64 21) ∧ Below w.heap.size w w' := by
  have HR : Hid (IsRing w rp sb cap head xs) := hR
  have hx := hR.hlen
  have hc := hR.hcap
  obtain ⟨a, c, rfl, hlc, _⟩ := hv
  clear hR
  go_enter Try.func42, Try.ntmps42
  go_wp2_with fail
  refine (Free_any HR.out).mono ?_
  rintro e w1 ⟨rfl, hb1⟩
  have HB1 : Hid (Below w.heap.size w w1) := hb1
  clear hb1
  obtain ⟨fr, hfr⟩ : ∃ fr, fr = cap - xs.length := ⟨_, rfl⟩
  rw [← hfr]
  have hle : ((fr : Nat) : Int) < ((l.length : Nat) : Int) := by omega
  clear hfr
  go_wp2
  go_ret
  exact ⟨rfl, HB1.out⟩

set_option maxRecDepth 100000 in
set_option maxHeartbeats 1000000 in
theorem Peek_any {w : World} {rp sb cap head : Nat} {xs : List UInt8} (hR : IsRing w rp sb cap head xs) (f n : Int) (hf0 : -9223372036854775808 ≤ f) (hf1 : f ≤ 9223372036854775807) (hn0 : -9223372036854775808 ≤ n) (hn1 : n ≤ 9223372036854775807) (m : Nat) (hm : m = rch xs.length f n) :
    Calls Try.prog 15 #[.pointer (some ⟨rp, 0, none⟩), .int .i64 f, .int .i64 n] w fun e w' => ∃ v, e = .returned v ∧ w'.ownsRow w.heap.size 5 1 v m (bv ((xs.drop f.toNat).take m)) ∧ Below w.heap.size w w' := by
  have HR : Hid (IsRing w rp sb cap head xs) := hR
  have hx := hR.hlen
  have hc := hR.hcap
  have hh := hR.hhead
  obtain ⟨st, hst, hstore, hwin⟩ := hR.store
  have HW : Hid (win st head xs.length = xs) := hwin
  have HST : Hid (w.heap[sb]? = some (.cells (bv st).toArray 5 (0, 0))) := hstore
  clear hR hwin hstore
  have HM : Hid (m = rch xs.length f n) := hm
  have hmle : m ≤ xs.length := by rw [hm]; exact rch_le _ _ _
  clear hm
  go_enter Try.func15, Try.ntmps15
  go_wp2_with fail
  refine (reach_any HR.out f n hf0 hf1 hn0 hn1).mono ?_
  rintro e w1 ⟨rfl, hb1⟩
  have HB1 : Hid (Below w.heap.size w w1) := hb1
  clear hb1
  rw [← HM.out]
  by_cases hz : m = 0
  · have hz' : ((m : Int) == 0) = true := by simp [hz]
    go_wp2
    go_ret
    refine ⟨_, rfl, ?_, HB1.out⟩
    rw [hz, List.take_zero]
    exact World.ownsRow_nil _ _ _ _
  · have hz' : ((m : Int) == 0) = false := by simp; omega
    obtain ⟨f0, f1, f2⟩ := rch_fit xs.length f n (by have := HM.out; omega)
    obtain ⟨F, hF⟩ := Int.eq_ofNat_of_zero_le f0
    subst hF
    have hfm : F + m ≤ xs.length := by have := HM.out; simp only [Int.toNat_natCast] at f2; omega
    clear f0 f1 f2
    obtain ⟨s, hs⟩ : ∃ s, s = pl cap head F := ⟨_, rfl⟩
    obtain ⟨k, hk⟩ : ∃ k, k = ahead cap s m := ⟨_, rfl⟩
    have hp := pl_lt cap head F hh (by omega)
    rw [← hs] at hp
    have hk1 := ahead_le cap s m hp
    have hk2 := ahead_fit cap s m hp
    have hk3 := ahead_rest cap s m hp (by omega)
    rw [← hk] at hk1 hk2 hk3
    have HE : Hid ((xs.drop F).take m = (st.drop s).take k ++ st.take (m - k)) := by
      show _ = _
      have h1 := win_part st head xs.length F m (by omega) (by omega) hfm
      rw [HW.out, hst, ← hs] at h1
      rw [h1, win_pieces st s m (by omega) (by omega), hst, ← hk]
    have HS : Hid (s = pl cap head F) := hs
    have HK : Hid (k = ahead cap s m) := hk
    clear hs hk
    have hmk := run_mkB w1 m (by omega)
    obtain ⟨w2, hw2⟩ : ∃ w2, w2 = w1.alloc (.cells (bv (List.replicate m 0)).toArray 5 (0, 0)) := ⟨_, rfl⟩
    rw [← hw2] at hmk
    have HG2 : Hid (w2.heap[w1.heap.size]? = some (.cells (bv (List.replicate m 0)).toArray 5 (0, 0))) := (by rw [hw2]; exact heap_alloc_new _ _ : w2.heap[w1.heap.size]? = _)
    have HB2 : Hid (Below w.heap.size w w2) := (by rw [hw2]; exact HB1.out.alloc HB1.out.size _ : Below w.heap.size w w2)
    have hg1 : w.heap.size ≤ w1.heap.size := HB1.out.size
    have hsb : sb < w.heap.size := HR.out.lt2
    clear hw2
    generalize w1.heap.size = g at *
    go_wp2_with fail
    refine (pieces_any (HR.out.below HB2.out) st hst (by rw [HB2.out.block sb hsb]; exact HST.out) F m s k (by omega) (by omega) HS.out HK.out).mono ?_
    rintro e w3 ⟨a1, a2, rfl, q1, q2, R1, R2, o1, o2, hb3⟩
    have HB3 : Hid (Below w.heap.size w w3) := bel_trans HB2.out hb3
    have RA : Hid (RdB w3 (.slice a1 k k) ((st.drop s).take k)) := R1
    have RB : Hid (RdB w3 (.slice a2 (m - k) (m - k)) (st.take (m - k))) := R2
    have OB : Hid (∀ x, (Value.slice a2 (m - k) (m - k)).ownBlock = some x → x ∉ [g]) := fun x hx => by have := o2 x hx; simp; omega
    have HG3 : Hid (w3.heap[g]? = some (.cells (bv (List.replicate m 0)).toArray 5 (0, 0))) := (by rw [hb3.block g (Array.getElem?_eq_some_iff.1 HG2.out).1]; exact HG2.out : w3.heap[g]? = _)
    clear q1 q2 R1 R2 o1 o2 hb3
    have l1 : ((st.drop s).take k).length = k := by rw [List.length_take, List.length_drop]; omega
    have l2 : (st.take (m - k)).length = m - k := by rw [List.length_take]; omega
    obtain ⟨w4, run4, hs4, hg4⟩ := run_cp 3 w3 (some ⟨g, 0, none⟩) m m _ _ RA.out g 0 (List.replicate m 0) 5 HG3.out k (by rw [l1]; omega) (fun _ => rfl) (by simp; omega)
    have HS4 : Hid (w4.heap[g]? = some (.cells (bv (splice (List.replicate m 0) 0 ((st.drop s).take k))).toArray 5 (0, 0))) := by
      have := hs4.out
      rwa [List.take_of_length_le (by omega)] at this
    have RB4 : Hid (RdB w4 (.slice a2 (m - k) (m - k)) (st.take (m - k))) := RB.out.but ((But.refl [g] w3).grown hg4.out (fun x hx => by cases hx; simp)) OB.out
    have l3 : (splice (List.replicate m (0 : UInt8)) 0 ((st.drop s).take k)).length = m := by rw [length_splice _ _ _ (by simp; omega)]; simp
    have RO : RdB w4 (.slice (some ⟨g, 0, none⟩) m m) (splice (List.replicate m 0) 0 ((st.drop s).take k)) := ⟨_, _, by rw [l3], by omega, (fun e => by cases e), .inr ⟨g, 0, rfl, fun j x hj => by rw [cell_of_row w4 g _ _ _ _ HS4.out]; simp [bv, hj]⟩⟩
    obtain ⟨a3, _, p3, _, e3⟩ := cut_from RO k (by omega)
    obtain ⟨w5, run5, hs5, hg5⟩ := run_cp 3 w4 a3 (m - k) (m - k) _ _ RB4.out g k _ 5 HS4.out (m - k) (by rw [l2]; omega) (fun h => by have := p3 g 0 rfl (by omega); rwa [Nat.zero_add] at this) (by omega)
    have HS5 : Hid (w5.heap[g]? = some (.cells (bv ((xs.drop F).take m)).toArray 5 (0, 0))) := by
      have := hs5.out
      rwa [show (st.take (m - k)).take (m - k) = st.take (m - k) by rw [List.take_take, Nat.min_self], fill_two m k _ _ l1 (by omega), ← HE.out] at this
    have HB5 : Hid (Below w.heap.size w w5) := (HB3.out.grown hg4.out HB3.out.size (fun x hx => by cases hx; exact hg1)).grown hg5.out (by have := hg4.out.size; have := HB3.out.size; omega) (fun x hx => by cases hx; exact hg1)
    clear hs4 hs5 RO p3 l1 l2 l3
    have hlen : Hid (m = ((xs.drop F).take m).length) := (by rw [List.length_take, List.length_drop]; omega : m = ((xs.drop F).take m).length)
    go_wp2
    go_ret
    exact ⟨_, rfl, owns_heap (l := (xs.drop F).take m) HS5.out hg1 hlen.out (by rw [← hlen.out]; unfold maxLen; omega), HB5.out⟩

set_option maxRecDepth 100000 in
theorem Drop_any {w : World} {rp sb cap head : Nat} {xs : List UInt8} (hR : IsRing w rp sb cap head xs) (n : Int) (hn0 : -9223372036854775808 ≤ n) (hn1 : n ≤ 9223372036854775807) (m : Nat) (hm : m = rch xs.length 0 n) :
    Calls Try.prog 60 #[.pointer (some ⟨rp, 0, none⟩), .int .i64 n] w fun e w' => e = .returned (.int .i64 (m : Int)) ∧ IsRing w' rp sb cap (pl cap head m) (xs.drop m) ∧ But [rp, sb] w w' := by
  have HR : Hid (IsRing w rp sb cap head xs) := hR
  have hx := hR.hlen
  have hc := hR.hcap
  have hh := hR.hhead
  clear hR
  have HM : Hid (m = rch xs.length 0 n) := hm
  have hmle : m ≤ xs.length := by rw [hm]; exact rch_le _ _ _
  clear hm
  go_enter Try.func60, Try.ntmps60
  go_wp2_with fail
  refine (reach_any HR.out 0 n (by omega) (by omega) hn0 hn1).mono ?_
  rintro e w1 ⟨rfl, hb1⟩
  have HB1 : Hid (Below w.heap.size w w1) := hb1
  clear hb1
  rw [← HM.out]
  by_cases hz : m = 0
  · have hz' : ((m : Int) == 0) = true := by simp [hz]
    go_wp2
    go_ret
    refine ⟨by rw [hz]; rfl, ?_, (But.of_below HB1.out).nil⟩
    rw [hz, List.drop_zero, pl_zero cap head hh]
    exact HR.out.below HB1.out
  · have hz' : ((m : Int) == 0) = false := by simp; omega
    go_wp2_with fail
    refine (place_any (HR.out.below HB1.out) m (by omega)).mono ?_
    rintro e w2 ⟨rfl, hb2⟩
    have HB2 : Hid (Below w.heap.size w w2) := bel_trans HB1.out hb2
    clear hb2
    have HR2 : Hid (IsRing w2 rp sb cap head xs) := HR.out.below HB2.out
    obtain ⟨c0, c1, c2, cf⟩ := HR2.out.cells
    obtain ⟨h', hh'⟩ : ∃ h', h' = pl cap head m := ⟨_, rfl⟩
    rw [← hh']
    have HH : Hid (h' = pl cap head m) := hh'
    clear hh'
    go_wp2
    go_ret
    obtain ⟨st, hst, hstore, hwin⟩ := HR2.out.store
    have hl : (xs.drop m).length = xs.length - m := by simp
    have s1 := heap_setCell_same w2 rp 1 _ _ (.int .i64 (h' : Int)) HR2.out.str
    have s2 := heap_setCell_same _ rp 2 _ _ (.int .i64 ((xs.length : Int) - (m : Int))) s1
    refine ⟨rfl, ⟨?_, ⟨st, hst, ?_, ?_⟩, HR2.out.ne, ?_, by omega, HR2.out.hcap⟩, ?_⟩
    · first | (rw [s2, hl, ← HH.out]; simp; omega) | skip
    · rw [heap_setCell_other _ _ sb _ (fun e => HR2.out.ne e.symm), heap_setCell_other _ _ sb _ (fun e => HR2.out.ne e.symm)]
      exact hstore
    · rw [hl, ← hst, ← win_drop st head xs.length m (by omega) (by omega) hmle, hwin]
    · exact pl_lt cap head m hh (by omega)
    · exact ((((But.of_below HB2.out).nil).setCell (by simp) _).setCell (by simp) _)

set_option maxRecDepth 100000 in
theorem Take_any {w : World} {rp sb cap head : Nat} {xs : List UInt8} (hR : IsRing w rp sb cap head xs) (n : Int) (hn0 : -9223372036854775808 ≤ n) (hn1 : n ≤ 9223372036854775807) (m : Nat) (hm : m = rch xs.length 0 n) :
    Calls Try.prog 40 #[.pointer (some ⟨rp, 0, none⟩), .int .i64 n] w fun e w' => ∃ v, e = .returned v ∧ w'.ownsRow w.heap.size 5 1 v m (bv (xs.take m)) ∧ IsRing w' rp sb cap (pl cap head m) (xs.drop m) ∧ But [rp, sb] w w' := by
  have HR : Hid (IsRing w rp sb cap head xs) := hR
  have hx := hR.hlen
  have hc := hR.hcap
  have hh := hR.hhead
  clear hR
  have HM : Hid (m = rch xs.length 0 n) := hm
  have hmle : m ≤ xs.length := by rw [hm]; exact rch_le _ _ _
  clear hm
  go_enter Try.func40, Try.ntmps40
  go_wp2_with fail
  refine (Peek_any HR.out 0 n (by omega) (by omega) hn0 hn1 m HM.out).mono ?_
  rintro e w1 ⟨v, rfl, ho, hb1⟩
  have HB1 : Hid (Below w.heap.size w w1) := hb1
  have HO : Hid (w1.ownsRow w.heap.size 5 1 v m (bv (xs.take m))) := ho
  have HF : Hid (∀ g, v.ownBlock = some g → g ∉ [rp, sb]) := fun g hg => by
    have h1 := owns_fresh ho g hg
    have h2 := HR.out.lt1
    have h3 := HR.out.lt2
    simp
    omega
  have hvf : ∃ a c, v = .slice a m c := by
    rcases ho.2 with ⟨e, h0⟩ | ⟨g, c, _, e, _⟩
    · exact ⟨none, 0, by rw [e, h0]⟩
    · exact ⟨_, c, e⟩
  clear hb1 ho
  obtain ⟨a, c, rfl⟩ := hvf
  go_wp2_with fail
  refine (Drop_any (HR.out.below HB1.out) (m : Int) (by omega) (by omega) m (by rw [rch_zero]; omega)).mono ?_
  rintro e w2 ⟨rfl, h2, h3⟩
  have HR2 : Hid (IsRing w2 rp sb cap (pl cap head m) (xs.drop m)) := h2
  have HB2 : Hid (But [rp, sb] w1 w2) := h3
  clear h2 h3
  go_wp2
  go_ret
  exact ⟨_, rfl, HB2.out.owns HO.out HF.out, HR2.out, (But.of_below HB1.out).nil.trans HB2.out⟩

end Rg
end Go.Proofs.Ytiecfidkoficnaa
