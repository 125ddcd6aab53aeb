/-
  Find.
-/
import Derived.Test.YtonbjdiehbemjaaGFind2
set_option linter.unusedVariables false
set_option linter.unusedSimpArgs false
namespace Go.Proofs.Ytonbjdiehbemjaa
open Go.RowKit
namespace Rg

theorem index_le (L p : List UInt8) : Lib.index L p ≤ L.length := by
  rcases index_cases L p with ⟨i, e, h1, _⟩ | ⟨e, _⟩
  · rw [e]; have := h1.1; omega
  · rw [e]; omega
theorem seamR_le (A B p : List UInt8) : seamR A B p ≤ 2 * A.length + B.length ∧ -1 ≤ seamR A B p := by
  unfold seamR
  have h1 := index_le (seamL A B p) p
  have h2 := Lib.index_ge (seamL A B p) p
  have h3 : (seamL A B p).length ≤ A.length + B.length := by unfold seamL; rw [List.length_append, List.length_drop, List.length_take]; omega
  have h4 : sk A p ≤ A.length := by unfold sk; omega
  split <;> omega

set_option maxRecDepth 100000 in
set_option maxHeartbeats 2000000 in
theorem Find_any {w : World} {rp sb cap head : Nat} {xs : List UInt8} (hR : IsRing w rp sb cap head xs) {u : Value} {p : List UInt8} (hu : RdB w u p) (hp : p.length ≤ 140737488355328) (hm : ML w) (f : Int) (hf0 : -9223372036854775808 ≤ f) (hf1 : f ≤ 9223372036854775807) :
    Calls Try.prog 34 #[.pointer (some ⟨rp, 0, none⟩), u, .int .i64 f] w fun e w' => e = .returned (.int .i64 (fnd xs p f)) ∧ Below w.heap.size w w' := by
  have HR : Hid (IsRing w rp sb cap head xs) := hR
  have HM : Hid (ML w) := hm
  have HU : Hid (RdB w u p) := hu
  have hx := hR.hlen
  have hc := hR.hcap
  have hh := hR.hhead
  obtain ⟨st, hst, hstore, hwin⟩ := hR.store
  have HW : Hid (win st head xs.length = xs) := hwin
  have HST : Hid (w.heap[sb]? = some (.cells (bv st).toArray 5 (0, 0))) := hstore
  obtain ⟨c0, c1, c2, cf⟩ := hR.cells
  obtain ⟨au, cu, rfl, hcu, _⟩ := hu
  clear hR hm hwin hstore
  by_cases h1 : f < 0
  · have HF : Hid (fnd xs p f = -1) := if_pos (.inl h1)
    go_enter Try.func34, Try.ntmps34
    go_wp2
    go_ret
    exact ⟨by rw [HF.out]; rfl, Below.refl _ _⟩
  by_cases h2 : (xs.length : Int) < f
  · have HF : Hid (fnd xs p f = -1) := if_pos (.inr h2)
    go_enter Try.func34, Try.ntmps34
    go_wp2
    go_ret
    exact ⟨by rw [HF.out]; rfl, Below.refl _ _⟩
  obtain ⟨F, rfl⟩ := Int.eq_ofNat_of_zero_le (show 0 ≤ f by omega)
  have hF : F ≤ xs.length := by omega
  have HF : Hid (fnd xs p (F : Int) = if Lib.index (xs.drop F) p < 0 then -1 else (F : Int) + Lib.index (xs.drop F) p) := if_neg (by omega)
  obtain ⟨n, hn⟩ : ∃ n : Nat, (n : Int) = (xs.length : Int) - (F : Int) := ⟨xs.length - F, by omega⟩
  have HN : Hid ((xs.length : Int) - (F : Int) = (n : Int)) := hn.symm
  have hn1 : n + F ≤ xs.length := by omega
  have hn2 : xs.length ≤ n + F := by omega
  clear hn
  obtain ⟨s, hs⟩ : ∃ s, s = pl cap head F := ⟨_, rfl⟩
  obtain ⟨k, hk⟩ : ∃ k, k = ahead cap s n := ⟨_, rfl⟩
  have hpl := pl_lt cap head F hh (by omega)
  rw [← hs] at hpl
  have hk1 := ahead_le cap s n hpl
  have hk2 := ahead_fit cap s n hpl
  have hk3 := ahead_rest cap s n hpl (by omega)
  rw [← hk] at hk1 hk2 hk3
  have HE : Hid (xs.drop F = (st.drop s).take k ++ st.take (n - k)) := by
    show _ = _
    have h3 := win_drop st head xs.length F (by omega) (by omega) hF
    rw [HW.out, hst, ← hs, show xs.length - F = n by omega] at h3
    rw [h3, win_pieces st s n (by omega) (by omega), hst, ← hk]
  have HS : Hid (s = pl cap head F) := hs
  have HK : Hid (k = ahead cap s n) := hk
  clear hs hk
  go_enter Try.func34, Try.ntmps34
  go_wp2_with fail
  rw [HN.out]
  refine (pieces_any HR.out st hst HST.out F n s k (by omega) (by omega) HS.out HK.out).mono ?_
  rintro e w1 ⟨a1, a2, rfl, q1, q2, R1, R2, o1, o2, hb1⟩
  have lA : ((st.drop s).take k).length = k := by rw [List.length_take, List.length_drop]; omega
  have lB : (st.take (n - k)).length = n - k := by rw [List.length_take]; omega
  have RA : Hid (RdB w1 (.slice a1 k k) ((st.drop s).take k)) := R1
  have RB : Hid (RdB w1 (.slice a2 (n - k) (n - k)) (st.take (n - k))) := R2
  have HB1 : Hid (Below w.heap.size w w1) := hb1
  clear q1 q2 R1 R2 o1 o2 hb1 c0 c1 c2 cf
  rw [HE.out] at HF
  clear HE
  generalize (st.drop s).take k = A at *
  generalize st.take (n - k) = B at *
  have hkA : k ≤ 1048576 := by omega
  go_wp2_with fail
  refine (Index_any RA.out (HU.out.below HB1.out) (by omega) (by omega) (HM.out.below HB1.out)).mono ?_
  rintro e w2 ⟨rfl, hb2⟩
  have HB2 : Hid (Below w1.heap.size w1 w2) := hb2
  clear hb2
  have ia1 := Lib.index_ge A p
  have ia2 := index_le A p
  by_cases h3 : 0 ≤ Lib.index A p
  · have HR1 : Hid (fnd xs p (F : Int) = (F : Int) + Lib.index A p) := (by rw [HF.out, find_first h3, if_neg (by omega)] : fnd xs p (F : Int) = (F : Int) + Lib.index A p)
    have hAl : (A.length : Int) ≤ 1048576 := by omega
    generalize Lib.index A p = ia at *
    go_wp2
    go_ret
    exact ⟨by rw [HR1.out]; rfl, bel_trans HB1.out HB2.out⟩
  obtain ⟨hp0, fs1, fs2⟩ := find_seam (A := A) (B := B) (p := p) (by omega)
  have FS1 : Hid (0 ≤ seamR A B p → Lib.index (A ++ B) p = seamR A B p) := fs1
  have FS2 : Hid (seamR A B p < 0 → Lib.index (A ++ B) p = if Lib.index B p < 0 then -1 else (A.length : Int) + Lib.index B p) := fs2
  clear fs1 fs2
  generalize Lib.index A p = ia at *
  go_wp2_with fail
  refine (seam_any (RA.out.below HB2.out) (RB.out.below HB2.out) (HU.out.below (bel_trans HB1.out HB2.out)) (by omega) (by omega) hp0 (by omega) ((HM.out.below HB1.out).below HB2.out)).mono ?_
  rintro e w3 ⟨rfl, hb3⟩
  have HB3 : Hid (Below w1.heap.size w1 w3) := bel_trans HB2.out hb3
  clear hb3
  obtain ⟨sr1, sr2⟩ := seamR_le A B p
  have sr3 : seamR A B p ≤ 4194304 := by omega
  by_cases h4 : 0 ≤ seamR A B p
  · have HR1 : Hid (fnd xs p (F : Int) = (F : Int) + seamR A B p) := (by rw [HF.out, FS1.out h4, if_neg (by omega)] : fnd xs p (F : Int) = (F : Int) + seamR A B p)
    clear FS1 FS2
    generalize seamR A B p = sr at *
    go_wp2
    go_ret
    exact ⟨by rw [HR1.out]; rfl, bel_trans HB1.out HB3.out⟩
  have HI := FS2.out (by omega)
  have HF2 : Hid (fnd xs p (F : Int) = if Lib.index B p < 0 then -1 else (F : Int) + (A.length : Int) + Lib.index B p) := by
    show _ = _
    rw [HF.out, HI]
    have := Lib.index_ge B p
    by_cases c : Lib.index B p < 0
    · rw [if_pos c, if_pos (by omega), if_pos c]
    · rw [if_neg c, if_neg (by omega), if_neg c]; omega
  clear HI FS1 FS2 HF
  generalize seamR A B p = sr at *
  go_wp2_with fail
  refine (Index_any (RB.out.below HB3.out) (HU.out.below (bel_trans HB1.out HB3.out)) (by omega) (by omega) ((HM.out.below HB1.out).below HB3.out)).mono ?_
  rintro e w4 ⟨rfl, hb4⟩
  have HB4 : Hid (Below w1.heap.size w1 w4) := bel_trans HB3.out hb4
  clear hb4
  have ib1 := Lib.index_ge B p
  have ib2 := index_le B p
  generalize Lib.index B p = ib at *
  have ib3 : ib ≤ 1048576 := by omega
  by_cases h5 : 0 ≤ ib
  · have HR1 : Hid (fnd xs p (F : Int) = (F : Int) + (k : Int) + ib) := (by rw [HF2.out, if_neg (by omega), lA] : fnd xs p (F : Int) = (F : Int) + (k : Int) + ib)
    go_wp2
    go_ret
    exact ⟨by rw [HR1.out]; rfl, bel_trans HB1.out HB4.out⟩
  · have HR1 : Hid (fnd xs p (F : Int) = -1) := (by rw [HF2.out, if_pos (by omega)] : fnd xs p (F : Int) = -1)
    go_wp2
    go_ret
    exact ⟨by rw [HR1.out]; rfl, bel_trans HB1.out HB4.out⟩

end Rg
end Go.Proofs.Ytonbjdiehbemjaa
