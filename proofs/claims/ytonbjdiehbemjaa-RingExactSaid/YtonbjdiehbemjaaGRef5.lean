/-
  The document's ring: Clear, PutAll, Take; the ring's PutAll, Parts, nil too; copied, whole.
-/
import Derived.Test.YtonbjdiehbemjaaGRef4
set_option linter.unusedVariables false
set_option linter.unusedSimpArgs false
namespace Go.Proofs.Ytonbjdiehbemjaa
open Go.RowKit
namespace Rg

theorem owns_low {W : World} {B B' T S n : Nat} {v : Value} {xs : List Value} (h : W.ownsRow B T S v n xs) (hB : B' ≤ B) : W.ownsRow B' T S v n xs := by
  refine ⟨h.1, ?_⟩
  rcases h.2 with hz | ⟨g, cap, cur, e, hb, r⟩
  · exact .inl hz
  · exact .inr ⟨g, cap, cur, e, by omega, r⟩

set_option maxRecDepth 100000 in
theorem rClear_any {w : World} {cap gone : Nat} {lv : Value} (hlv : ∃ a n c, lv = .slice a n c) :
    Calls Try.prog 38 #[.agg #[.int .i64 (cap : Int), lv, .int .i64 (gone : Int)]] w fun e w' => e = .returned (.agg #[.int .i64 (cap : Int), .slice none 0 0, .int .i64 0]) ∧ Below w.heap.size w w' := by
  obtain ⟨a, n, c, rfl⟩ := hlv
  go_enter Try.func38, Try.ntmps38
  go_wp2
  refine bodyPost_ret (v := .agg #[.int .i64 (cap : Int), .slice none 0 0, .int .i64 0]) (by simp [results, Try.results38, go_sem]) rfl ⟨rfl, ?_⟩
  first | exact ((Below.refl _ w).alloc (Nat.le_refl _) _).alloc (by simp) _ | (trace_state; sorry)

set_option maxRecDepth 100000 in
theorem PutAllP {w : World} {p : Option Addr} {bs : List Nat} {cap h : Nat} {xs : List UInt8} (H : RingP w p bs cap h xs) (v : Value) (l : List UInt8) (hv : RdB w v l) (hg : ∀ g, v.ownBlock = some g → g ∉ bs) (hl63 : l.length ≤ 9223372036854775807) (hfit : xs.length + l.length ≤ cap) :
    Calls Try.prog 22 #[.pointer p, v] w fun e w' => e = .returned (.int .i64 0) ∧ RingP w' p bs cap h (xs ++ l) ∧ But bs w w' := by
  have HH : Hid (RingP w p bs cap h xs) := H
  obtain ⟨h1, h2⟩ := H.hlen
  have HV : Hid (RdB w v l) := hv
  have HG : Hid (∀ g, v.ownBlock = some g → g ∉ bs) := hg
  obtain ⟨a, c, rfl, hlc, _⟩ := hv
  clear H hg
  go_enter Try.func22, Try.ntmps22
  go_wp2_with fail
  refine (FreeP HH.out).mono ?_
  rintro e w1 ⟨rfl, hb1⟩
  have HB1 : Hid (Below w.heap.size w w1) := hb1
  clear hb1
  obtain ⟨fr, hfr⟩ : ∃ fr, fr = cap - xs.length := ⟨_, rfl⟩
  rw [← hfr]
  have hle : ¬ ((fr : Nat) : Int) < ((l.length : Nat) : Int) := by omega
  clear hfr
  go_wp2_with fail
  refine (PutP (HH.out.below HB1.out) _ l (HV.out.below HB1.out) HG.out hl63 l.length (by omega)).mono ?_
  rintro e w2 ⟨rfl, hP, hb⟩
  rw [List.take_length] at hP
  have HP2 : Hid (RingP w2 p bs cap h (xs ++ l)) := hP
  have HB2 : Hid (But bs w w2) := (But.of_below HB1.out).nil.trans hb
  clear hP hb
  go_wp2
  go_ret
  exact ⟨rfl, HP2.out, HB2.out⟩
set_option maxRecDepth 100000 in
theorem PutAllP_full {w : World} {p : Option Addr} {bs : List Nat} {cap h : Nat} {xs : List UInt8} (H : RingP w p bs cap h xs) (v : Value) (l : List UInt8) (hv : RdB w v l) (hl63 : l.length ≤ 9223372036854775807) (hfit : cap < xs.length + l.length) :
    Calls Try.prog 22 #[.pointer p, v] w fun e w' => e = .returned (.int .i64 21) ∧ RingP w' p bs cap h xs ∧ But bs w w' := by
  have HH : Hid (RingP w p bs cap h xs) := H
  obtain ⟨h1, h2⟩ := H.hlen
  obtain ⟨a, c, rfl, hlc, _⟩ := hv
  clear H
  go_enter Try.func22, Try.ntmps22
  go_wp2_with fail
  refine (FreeP HH.out).mono ?_
  rintro e w1 ⟨rfl, hb1⟩
  have HB1 : Hid (Below w.heap.size w w1) := hb1
  clear hb1
  obtain ⟨fr, hfr⟩ : ∃ fr, fr = cap - xs.length := ⟨_, rfl⟩
  rw [← hfr]
  have hle : ((fr : Nat) : Int) < ((l.length : Nat) : Int) := by omega
  clear hfr
  go_wp2
  go_ret
  exact ⟨rfl, HH.out.below HB1.out, (But.of_below HB1.out).nil⟩

set_option maxRecDepth 100000 in
set_option maxHeartbeats 2000000 in
theorem rPutAll_any {w : World} {cap gone : Nat} {lv v : Value} {l p : List UInt8} (hlv : RdB w lv l) (hv : RdB w v p) (hc : cap ≤ 1048576) (hl : l.length ≤ cap) (hp : p.length ≤ 140737488355328) :
    Calls Try.prog 28 #[.agg #[.int .i64 (cap : Int), lv, .int .i64 (gone : Int)], v] w fun e w' => ∃ lv' E, e = .returned (.tuple #[.agg #[.int .i64 (cap : Int), lv', .int .i64 (gone : Int)], .int .i64 E]) ∧
      ((l.length + p.length ≤ cap ∧ E = 0 ∧ w'.ownsRow w.heap.size 5 1 lv' (l ++ p).length (bv (l ++ p))) ∨ (cap < l.length + p.length ∧ E = 21 ∧ lv' = lv)) ∧ Below w.heap.size w w' := by
  have HLV : Hid (RdB w lv l) := hlv
  have HV : Hid (RdB w v p) := hv
  obtain ⟨a, c, rfl, hac, _⟩ := hv
  obtain ⟨al, cl, rfl, halc, _⟩ := hlv
  obtain ⟨w1, hw1⟩ : ∃ w1, w1 = (w.alloc (.cells #[.int .i64 (cap : Int), .slice al l.length cl, .int .i64 (gone : Int)] 27)).alloc (.cells #[.int .i64 0, .slice none 0 0, .int .i64 0] 27) := ⟨_, rfl⟩
  have HB1 : Hid (Below w.heap.size w w1) := (by rw [hw1]; exact ((Below.refl _ w).alloc (Nat.le_refl _) _).alloc (by simp) _ : Below w.heap.size w w1)
  have HA1 : Hid (w1.heap[w.heap.size]? = some (.cells #[.int .i64 (cap : Int), .slice al l.length cl, .int .i64 (gone : Int)] 27 (0, 0))) := (by rw [hw1]; exact heap_alloc2_old _ _ _ : w1.heap[w.heap.size]? = _)
  have HC1 : Hid (w1.heap[w.heap.size + 1]? = some (.cells #[.int .i64 0, .slice none 0 0, .int .i64 0] 27 (0, 0))) := (by rw [hw1]; exact heap_alloc2_new _ _ _ : w1.heap[w.heap.size + 1]? = _)
  have hs1 : w1.heap.size = w.heap.size + 2 := by rw [hw1]; simp
  go_enter Try.func28, Try.ntmps28
  go_wp2_with fail
  rw [← hw1]
  clear hw1
  refine (rFree_any (HLV.out.below HB1.out) hc hl).mono ?_
  rintro e w2 ⟨rfl, hb2⟩
  have HB2 : Hid (Below w1.heap.size w1 w2) := hb2
  clear hb2
  obtain ⟨fr, hfr⟩ : ∃ fr, fr = cap - l.length := ⟨_, rfl⟩
  rw [← hfr]
  have hf1 : fr + l.length ≤ cap := by omega
  have hf2 : cap ≤ fr + l.length := by omega
  clear hfr
  obtain ⟨d0, d1, d2, df⟩ := row3 ((But.of_below HB2.out).heap HA1.out (fun e => by cases e))
  obtain ⟨e0, e1, e2, ef⟩ := row3 ((But.of_below HB2.out).heap HC1.out (fun e => by cases e))
  by_cases hgt : fr < p.length
  · have hgt' : ((fr : Nat) : Int) < ((p.length : Nat) : Int) := by omega
    go_wp2
    refine bodyPost_ret (v := .tuple #[.agg #[.int .i64 (cap : Int), .slice al l.length cl, .int .i64 (gone : Int)], .int .i64 21]) (by simp [results, Try.results28, go_sem, e0, e1, e2]) rfl ⟨_, _, rfl, .inr ⟨by omega, rfl, rfl⟩, ?_⟩
    exact (((bel_trans HB1.out HB2.out).setCell (p := ⟨w.heap.size + 1, 0, none⟩) (Nat.le_succ _) _).setCell (p := ⟨w.heap.size + 1, 1, none⟩) (Nat.le_succ _) _).setCell (p := ⟨w.heap.size + 1, 2, none⟩) (Nat.le_succ _) _
  · have hgt' : ¬ ((fr : Nat) : Int) < ((p.length : Nat) : Int) := by omega
    go_wp2_with fail
    refine (rPut_any (HLV.out.below (bel_trans HB1.out HB2.out)) (HV.out.below (bel_trans HB1.out HB2.out)) hc hl hp p.length (by omega)).mono ?_
    rintro e w3 ⟨lv', rfl, ho3, hb3⟩
    rw [List.take_length] at ho3
    have HB3 : Hid (Below w1.heap.size w1 w3) := bel_trans HB2.out hb3
    have s2 := HB2.out.size
    obtain ⟨nl, hnl⟩ : ∃ nl, nl = l ++ p := ⟨_, rfl⟩
    rw [← hnl] at ho3
    have HO3 : Hid (w3.ownsRow (w.heap.size + 2) 5 1 lv' nl.length (bv nl)) := owns_low ho3 (by omega)
    have HNL : Hid (nl = l ++ p) := hnl
    clear ho3 hb3 hnl d0 d1 d2 df e0 e1 e2 ef
    obtain ⟨a3, c3, rfl, _⟩ := owns_slice HO3.out
    obtain ⟨d0, d1, d2, df⟩ := row3 ((But.of_below HB3.out).heap HA1.out (fun e => by cases e))
    obtain ⟨e0, e1, e2, ef⟩ := row3 ((But.of_below HB3.out).heap HC1.out (fun e => by cases e))
    go_wp2
    have hq : ∀ g, (Value.slice a3 nl.length c3).ownBlock = some g → w.heap.size + 2 ≤ g := fun g hg => owns_fresh HO3.out g hg
    refine bodyPost_ret (v := .tuple #[.agg #[.int .i64 (cap : Int), .slice a3 nl.length c3, .int .i64 (gone : Int)], .int .i64 0]) (by simp [results, Try.results28, go_sem, e0, e1, e2]) rfl ⟨_, _, rfl, .inl ⟨by omega, rfl, ?_⟩, ?_⟩
    · rw [← HNL.out]
      refine owns_low (B := w.heap.size + 2) ?_ (by omega)
      exact owns_set (owns_set (owns_set (owns_set (owns_set (owns_set HO3.out (fun g hg => by have := hq g hg; simp; omega)) (fun g hg => by have := hq g hg; simp; omega)) (fun g hg => by have := hq g hg; simp; omega)) (fun g hg => by have := hq g hg; simp; omega)) (fun g hg => by have := hq g hg; simp; omega)) (fun g hg => by have := hq g hg; simp; omega)
    · exact ((((((bel_trans HB1.out HB3.out).setCell (p := ⟨w.heap.size, 0, none⟩) (Nat.le_refl _) _).setCell (p := ⟨w.heap.size, 1, none⟩) (Nat.le_refl _) _).setCell (p := ⟨w.heap.size, 2, none⟩) (Nat.le_refl _) _).setCell (p := ⟨w.heap.size + 1, 0, none⟩) (Nat.le_succ _) _).setCell (p := ⟨w.heap.size + 1, 1, none⟩) (Nat.le_succ _) _).setCell (p := ⟨w.heap.size + 1, 2, none⟩) (Nat.le_succ _) _

set_option maxRecDepth 100000 in
theorem copied_any {w : World} {v : Value} {l : List UInt8} (hv : RdB w v l) (hl : l.length ≤ 140737488351232) :
    Calls Try.prog 27 #[v] w fun e w' => ∃ pa pc fa fc, e = .returned (.tuple #[.slice pa l.length pc, .slice fa (l.length + 3) fc]) ∧ RdB w' (.slice pa l.length pc) l ∧ RdB w' (.slice fa (l.length + 3) fc) (l ++ [201, 202, 203]) ∧ (∀ g, (Value.slice pa l.length pc).ownBlock = some g → w.heap.size ≤ g) ∧ (∀ g, (Value.slice fa (l.length + 3) fc).ownBlock = some g → w.heap.size ≤ g) ∧ Below w.heap.size w w' := by
  have HV : Hid (RdB w v l) := hv
  obtain ⟨a, c, rfl, hc, _⟩ := hv
  have hl47 : l.length ≤ 140737488355328 := by omega
  have hs : l.length + [(201 : UInt8), 202, 203].length ≤ 140737488355328 := by simp; omega
  go_enter Try.func27, Try.ntmps27
  go_wp2_with (at_builtin; first | (refine wp_new rfl (.tmp 5) (.tmp 6) rfl w _ l l.length rfl rfl rfl HV.out hl47 ?_; intro a2 c2 w2 ho2 hb2) | (refine wp_appB rfl (.tmp 7) (.tmp 8) rfl w.heap.size _ _ l [201, 202, 203] rfl (ho2.out.alloc _) rfl (RdB.built w2 [201, 202, 203] _ (by simp [bv])) hs (by have := hb2.out.size; simp; omega) ?_; intro v3 w3 ho3 hg3; obtain ⟨a3, c3, rfl, hc3⟩ := owns_slice ho3.out; have HO3 : Hid (w3.ownsRow w.heap.size 5 1 (.slice a3 (l ++ [201, 202, 203]).length c3) (l ++ [201, 202, 203]).length (bv (l ++ [201, 202, 203]))) := ho3; clear ho3; rw [show (l ++ [(201 : UInt8), 202, 203]).length = l.length + 3 by simp] at HO3 hc3 ⊢; have RF : Hid (RdB w3 (.slice a3 (l.length + 3) c3) (l ++ [201, 202, 203])) := RdB.ofOwn HO3.out; obtain ⟨a4, r4, _, b4, e4⟩ := cut_upto RF.out l.length (by simp); have R4 : Hid (RdB w3 (.slice a4 l.length c3) l) := (by rw [List.take_left] at r4; exact r4 : RdB w3 (.slice a4 l.length c3) l); have B4 : Hid (∀ g, (Value.slice a4 l.length c3).ownBlock = some g → w.heap.size ≤ g) := (fun g hg => owns_fresh HO3.out g (b4 g hg)); clear r4 b4))
  go_ret2
  refine ⟨_, _, _, _, rfl, R4.out, RF.out, B4.out, (fun g hg => owns_fresh HO3.out g hg), ?_⟩
  have hg3' : (w2.alloc (.cells #[.int .u8 201, .int .u8 202, .int .u8 203] 5)).grownBy w3 (Value.slice a2 l.length c2).ownBlock := hg3.out
  exact (hb2.out.alloc hb2.out.size _).grown hg3' (by have := hb2.out.size; simp; omega) (fun k hk => owns_fresh ho2.out k hk)

set_option maxRecDepth 100000 in
set_option maxHeartbeats 1000000 in
theorem whole_any {w : World} {fa : Option Addr} {fc : Nat} {v : Value} {l : List UInt8} (hu : RdB w (.slice fa (l.length + 3) fc) (l ++ [201, 202, 203])) (hv : RdB w v l) (hl : l.length ≤ 140737488351232) :
    Calls Try.prog 42 #[.slice fa (l.length + 3) fc, v] w fun e w' => e = .returned (.bool true) ∧ Below w.heap.size w w' := by
  have HV : Hid (RdB w v l) := hv
  have HU : Hid (RdB w (.slice fa (l.length + 3) fc) (l ++ [201, 202, 203])) := hu
  clear hu
  obtain ⟨a, c, rfl, hc, _⟩ := hv
  have hl47 : l.length ≤ 140737488355328 := by omega
  have hs : l.length + [(201 : UInt8), 202, 203].length ≤ 140737488355328 := by simp; omega
  go_enter Try.func42, Try.ntmps42
  go_wp2_with (at_builtin; first | (refine wp_new rfl (.tmp 6) (.tmp 7) rfl w _ l l.length rfl rfl rfl HV.out hl47 ?_; intro a2 c2 w2 ho2 hb2) | (refine wp_appB rfl (.tmp 8) (.tmp 9) rfl w.heap.size _ _ l [201, 202, 203] rfl (ho2.out.alloc _) rfl (RdB.built w2 [201, 202, 203] _ (by simp [bv])) hs (by have := hb2.out.size; simp; omega) ?_; intro v3 w3 ho3 hg3))
  have hg3' : (w2.alloc (.cells #[.int .u8 201, .int .u8 202, .int .u8 203] 5)).grownBy w3 (Value.slice a2 l.length c2).ownBlock := hg3.out
  have HB3 : Hid (Below w.heap.size w w3) := (hb2.out.alloc hb2.out.size _).grown hg3' (by have := hb2.out.size; simp; omega) (fun k hk => owns_fresh ho2.out k hk)
  refine (same_any (HU.out.below HB3.out) (RdB.ofOwn ho3.out) true (by simp)).mono ?_
  rintro e w4 ⟨rfl, hb4⟩
  have HB4 : Hid (Below w.heap.size w w4) := bel_trans HB3.out hb4
  clear hb4 ho2 ho3 hg3 hg3' hb2
  go_wp2
  go_ret
  exact ⟨rfl, HB4.out⟩

end Rg
end Go.Proofs.Ytonbjdiehbemjaa
