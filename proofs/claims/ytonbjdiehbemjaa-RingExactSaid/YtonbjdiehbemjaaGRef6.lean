/-
  The document's ring: Take, Parts, Find; the ring's Parts and Find, nil too.
-/
import Derived.Test.YtonbjdiehbemjaaGRef4
import Derived.Test.YtonbjdiehbemjaaGFind3
import Derived.Test.YtonbjdiehbemjaaFPlain2
set_option linter.unusedVariables false
set_option linter.unusedSimpArgs false
namespace Go.Proofs.Ytonbjdiehbemjaa
open Go.RowKit
namespace Rg

theorem pc_take (l : List UInt8) (n : Int) : pc l 0 n = l.take (rch l.length 0 n) := by
  rw [← pk_eq]
  rfl
theorem owns_low' {W : World} {B B' T S n : Nat} {v : Value} {xs : List Value} (h : W.ownsRow B T S v n xs) (hB : B' ≤ B) : W.ownsRow B' T S v n xs := by
  refine ⟨h.1, ?_⟩
  rcases h.2 with hz | ⟨g, cap, cur, e, hb, r⟩
  · exact .inl hz
  · exact .inr ⟨g, cap, cur, e, by omega, r⟩

set_option maxRecDepth 100000 in
set_option maxHeartbeats 2000000 in
theorem rTake_any {w : World} {cap h : Nat} {lv : Value} {l : List UInt8} (hlv : RdB w lv l) (hc : cap ≤ 1048576) (hl : l.length ≤ cap) (hh : h < cap ∨ (cap = 0 ∧ h = 0)) (n : Int) (hn0 : -9223372036854775808 ≤ n) (hn1 : n ≤ 9223372036854775807) (m : Nat) (hm : m = rch l.length 0 n) :
    Calls Try.prog 14 #[.agg #[.int .i64 (cap : Int), lv, .int .i64 (h : Int)], .int .i64 n] w fun e w' => ∃ lv' ov, e = .returned (.tuple #[.agg #[.int .i64 (cap : Int), lv', .int .i64 ((pl cap h m : Nat) : Int)], ov]) ∧
      w'.ownsRow w.heap.size 5 1 lv' (l.drop m).length (bv (l.drop m)) ∧ (∃ a c, ov = .slice a m c) ∧ RdB w' ov (l.take m) ∧ Below w.heap.size w w' := by
  have HLV : Hid (RdB w lv l) := hlv
  obtain ⟨al, cl, rfl, halc, _⟩ := hlv
  have hml : m ≤ l.length := by rw [hm]; exact rch_le _ _ _
  have HM : Hid (m = rch l.length 0 n) := hm
  clear hm
  have HPL : Hid (0 < cap → ((h : Int) + (m : Int)) % (cap : Int) = ((pl cap h m : Nat) : Int)) := (fun h0 => by rw [pl_mod cap h m (by omega) (by omega)]; simp : 0 < cap → ((h : Int) + (m : Int)) % (cap : Int) = ((pl cap h m : Nat) : Int))
  have hp0' : cap = 0 → ((pl cap h m : Nat) : Int) = (h : Int) := by
    intro h0
    have h1 : m = 0 := by omega
    have h2 : h = 0 := by omega
    rw [h0, h1, h2]
    rfl
  have HP0 : Hid (cap = 0 → ((pl cap h m : Nat) : Int) = (h : Int)) := hp0'
  clear hp0'
  obtain ⟨h', hh'⟩ : ∃ h', h' = pl cap h m := ⟨_, rfl⟩
  rw [← hh'] at HPL HP0 ⊢
  clear hh'
  obtain ⟨w1, hw1⟩ : ∃ w1, w1 = (w.alloc (.cells #[.int .i64 (cap : Int), .slice al l.length cl, .int .i64 (h : Int)] 27)).alloc (.cells #[.int .i64 0, .slice none 0 0, .int .i64 0] 27) := ⟨_, rfl⟩
  have HB1 : Hid (Below w.heap.size w w1) := (by rw [hw1]; exact ((Below.refl _ w).alloc (Nat.le_refl _) _).alloc (by simp) _ : Below w.heap.size w w1)
  have HA1 : Hid (w1.heap[w.heap.size]? = some (.cells #[.int .i64 (cap : Int), .slice al l.length cl, .int .i64 (h : Int)] 27 (0, 0))) := (by rw [hw1]; exact heap_alloc2_old _ _ _ : w1.heap[w.heap.size]? = _)
  have HC1 : Hid (w1.heap[w.heap.size + 1]? = some (.cells #[.int .i64 0, .slice none 0 0, .int .i64 0] 27 (0, 0))) := (by rw [hw1]; exact heap_alloc2_new _ _ _ : w1.heap[w.heap.size + 1]? = _)
  have hs1 : w1.heap.size = w.heap.size + 2 := by rw [hw1]; simp
  go_enter Try.func14, Try.ntmps14
  go_wp2_with fail
  rw [← hw1]
  clear hw1
  refine (piece_any (HLV.out.below HB1.out) 0 n (by omega) (by omega) hn0 hn1 (by omega)).mono ?_
  rintro e w2 ⟨v2, rfl, ho2, hb2⟩
  rw [pc_take, ← HM.out] at ho2
  have hlt : (l.take m).length = m := by rw [List.length_take]; omega
  rw [hlt] at ho2
  obtain ⟨a2, c2, rfl, hc2⟩ := owns_slice ho2
  have HV2 : Hid (RdB w2 (.slice a2 m c2) (l.take m)) := RdB.ofOwn ho2
  have HG2 : Hid (∀ g, (Value.slice a2 m c2).ownBlock = some g → w1.heap.size ≤ g) := fun g hg => owns_fresh ho2 g hg
  have HB2 : Hid (Below w1.heap.size w1 w2) := hb2
  clear ho2 hb2 hlt
  obtain ⟨d0, d1, d2, df⟩ := row3 ((But.of_below HB2.out).heap HA1.out (fun e => by cases e))
  go_wp2_with fail
  refine (piece_any (HLV.out.below (bel_trans HB1.out HB2.out)) ((m : Nat) : Int) ((l.length : Nat) : Int) (by omega) (by omega) (by omega) (by omega) (by omega)).mono ?_
  rintro e w3 ⟨v3, rfl, ho3, hb3⟩
  rw [pc_nat, List.take_of_length_le (by rw [List.length_drop]; omega)] at ho3
  obtain ⟨a3, c3, rfl, hc3⟩ := owns_slice ho3
  have HB3 : Hid (Below w1.heap.size w1 w3) := bel_trans HB2.out hb3
  have HV3 : Hid (RdB w3 (.slice a2 m c2) (l.take m)) := HV2.out.below hb3
  have HO3 : Hid (w3.ownsRow (w.heap.size + 2) 5 1 (.slice a3 (l.drop m).length c3) (l.drop m).length (bv (l.drop m))) := owns_low' ho3 (by have := HB2.out.size; omega)
  clear ho3 hb3 d0 d1 d2 df HV2
  obtain ⟨D, hD⟩ : ∃ D, D = (l.drop m).length := ⟨_, rfl⟩
  rw [← hD] at HO3 hc3 ⊢
  have HD : Hid (D = (l.drop m).length) := hD
  clear hD
  obtain ⟨d0, d1, d2, df⟩ := row3 ((But.of_below HB3.out).heap HA1.out (fun e => by cases e))
  obtain ⟨e0, e1, e2, ef⟩ := row3 ((But.of_below HB3.out).heap HC1.out (fun e => by cases e))
  have hq3 : ∀ g, (Value.slice a3 D c3).ownBlock = some g → w.heap.size + 2 ≤ g := fun g hg => owns_fresh HO3.out g hg
  have HQ3 : Hid (∀ g, (Value.slice a3 D c3).ownBlock = some g → w.heap.size + 2 ≤ g) := hq3
  clear hq3
  have hbt : ∀ (W : World), But [w.heap.size, w.heap.size + 1] w3 W → W.ownsRow w.heap.size 5 1 (.slice a3 D c3) (l.drop m).length (bv (l.drop m)) ∧ RdB W (.slice a2 m c2) (l.take m) ∧ Below w.heap.size w W := fun W b => by
    refine ⟨?_, HV3.out.but b (fun g hg => by have := HG2.out g hg; simp; omega), (bel_trans HB1.out HB3.out).trans (b.below (by have := HB3.out.size; omega) (by simp))⟩
    have := b.owns HO3.out (fun g hg => by have := HQ3.out g hg; simp; omega)
    rw [HD.out] at this
    rw [HD.out]
    exact owns_low' this (by omega)
  have HBT : Hid (∀ (W : World), But [w.heap.size, w.heap.size + 1] w3 W → W.ownsRow w.heap.size 5 1 (.slice a3 D c3) (l.drop m).length (bv (l.drop m)) ∧ RdB W (.slice a2 m c2) (l.take m) ∧ Below w.heap.size w W) := hbt
  clear hbt
  by_cases hcz : 0 < cap
  · have hcz' : (0 : Int) < ((cap : Nat) : Int) := by omega
    have hcz2 : (((cap : Nat) : Int) == 0) = false := by simp; omega
    have hpm := HPL.out hcz
    go_wp2
    refine bodyPost_ret (v := .tuple #[.agg #[.int .i64 (cap : Int), .slice a3 D c3, .int .i64 ((h' : Nat) : Int)], .slice a2 m c2]) (by simp [results, Try.results14, go_sem, e0, e1, e2]) rfl ?_
    obtain ⟨r1, r2, r3⟩ := HBT.out _ (((((((But.refl _ w3).setCell (p := ⟨w.heap.size, 1, none⟩) (by simp) (.slice a3 D c3)).setCell (p := ⟨w.heap.size, 2, none⟩) (by simp) (.int .i64 ((h' : Nat) : Int))).setCell (p := ⟨w.heap.size + 1, 0, none⟩) (by simp) (.int .i64 (cap : Int))).setCell (p := ⟨w.heap.size + 1, 1, none⟩) (by simp) (.slice a3 D c3)).setCell (p := ⟨w.heap.size + 1, 2, none⟩) (by simp) (.int .i64 ((h' : Nat) : Int))))
    exact ⟨_, _, rfl, r1, ⟨_, _, rfl⟩, r2, r3⟩
  · have hcz' : ¬ (0 : Int) < ((cap : Nat) : Int) := by omega
    have hp0 := HP0.out (by omega)
    go_wp2
    refine bodyPost_ret (v := .tuple #[.agg #[.int .i64 (cap : Int), .slice a3 D c3, .int .i64 ((h' : Nat) : Int)], .slice a2 m c2]) (by simp [results, Try.results14, go_sem, e0, e1, e2, hp0]) rfl ?_
    obtain ⟨r1, r2, r3⟩ := HBT.out _ ((((((But.refl _ w3).setCell (p := ⟨w.heap.size, 1, none⟩) (by simp) (.slice a3 D c3)).setCell (p := ⟨w.heap.size + 1, 0, none⟩) (by simp) (.int .i64 (cap : Int))).setCell (p := ⟨w.heap.size + 1, 1, none⟩) (by simp) (.slice a3 D c3)).setCell (p := ⟨w.heap.size + 1, 2, none⟩) (by simp) (.int .i64 (h : Int))))
    exact ⟨_, _, rfl, r1, ⟨_, _, rfl⟩, r2, r3⟩

set_option maxRecDepth 100000 in
theorem FindP {w : World} {p : Option Addr} {bs : List Nat} {cap h : Nat} {xs : List UInt8} (H : RingP w p bs cap h xs) {u : Value} {q : List UInt8} (hu : RdB w u q) (hq : q.length ≤ 140737488355328) (hm : ML w) (f : Int) (hf0 : -9223372036854775808 ≤ f) (hf1 : f ≤ 9223372036854775807) (r : Int) (hr : r = if cap = 0 then -1 else fnd xs q f) :
    Calls Try.prog 34 #[.pointer p, u, .int .i64 f] w fun e w' => e = .returned (.int .i64 r) ∧ Below w.heap.size w w' := by
  rcases H with ⟨rfl, rfl, rfl, rfl, rfl⟩ | ⟨rp, sb, rfl, rfl, H⟩
  · have hr' : r = -1 := by rw [hr, if_pos rfl]
    clear hr
    subst hr'
    go_enter Try.func34, Try.ntmps34
    go_wp2
    go_ret
    exact ⟨rfl, Below.refl _ _⟩
  · have hr' : r = fnd xs q f := by rw [hr, if_neg (by have := H.hhead; omega)]
    rw [hr']
    exact Find_any H hu hq hm f hf0 hf1

set_option maxRecDepth 100000 in
theorem PartsP {w : World} {p : Option Addr} {bs : List Nat} {cap h : Nat} {xs : List UInt8} (H : RingP w p bs cap h xs) :
    Calls Try.prog 32 #[.pointer p] w fun e w' => ∃ v u, e = .returned (.tuple #[v, u]) ∧ RdB w' v (part1 cap h xs) ∧ RdB w' u (part2 cap h xs) ∧ Below w.heap.size w w' := by
  rcases H with ⟨rfl, rfl, rfl, rfl, rfl⟩ | ⟨rp, sb, rfl, rfl, H⟩
  · go_enter Try.func32, Try.ntmps32
    go_wp2
    go_ret2
    exact ⟨_, _, rfl, RdB.nil _, RdB.nil _, Below.refl _ _⟩
  · refine (Parts_any H).mono ?_
    rintro e w' ⟨v, u, rfl, h1, h2, _, h3⟩
    exact ⟨v, u, rfl, RdB.ofOwn h1, RdB.ofOwn h2, h3⟩

set_option maxRecDepth 100000 in
set_option maxHeartbeats 1000000 in
theorem stands_any {w : World} {v u : Value} {l p : List UInt8} (hv : RdB w v l) (hu : RdB w u p) (hl : l.length ≤ 1048576) (hp : p.length ≤ 140737488355328) (J : Nat) (hJ : J ≤ l.length) (b : Bool) (hb : b = true ↔ At l p J) :
    Calls Try.prog 50 #[v, u, .int .i64 (J : Int)] w fun e w' => e = .returned (.bool b) ∧ Below w.heap.size w w' := by
  obtain ⟨a, c, rfl, hc, _, hr⟩ := hv
  obtain ⟨a2, c2, rfl, hc2, _, hr2⟩ := hu
  have HR : Hid (l = [] ∨ ∃ g o, a = some ⟨g, o, none⟩ ∧ ∀ j x, l[j]? = some x → w.cell? ⟨g, o + j, none⟩ = some (.int .u8 (x.toNat : Int))) := hr
  have HR2 : Hid (p = [] ∨ ∃ g o, a2 = some ⟨g, o, none⟩ ∧ ∀ j x, p[j]? = some x → w.cell? ⟨g, o + j, none⟩ = some (.int .u8 (x.toNat : Int))) := hr2
  have HB : Hid (b = true ↔ At l p J) := hb
  clear hr hr2 hb
  by_cases hfit : l.length < J + p.length
  · have hfit' : ((l.length : Nat) : Int) < ((J : Nat) : Int) + ((p.length : Nat) : Int) := by omega
    have HF : Hid (b = false) := (by
      cases hb : b with
      | false => rfl
      | true => have := (HB.out.1 hb).1; omega : b = false)
    go_enter Try.func50, Try.ntmps50
    go_wp2
    go_ret
    exact ⟨by rw [HF.out]; rfl, Below.refl _ _⟩
  have hfit' : ¬ ((l.length : Nat) : Int) < ((J : Nat) : Int) + ((p.length : Nat) : Int) := by omega
  go_enter Try.func50, Try.ntmps50
  go_wp2
  go_loopw [7] (fun i wr => ∃ k : Nat, k ≤ p.length ∧ i = .int .i64 (k : Int) ∧ Hid (∀ j, j < k → l[J + j]? = p[j]?) ∧ Hid (Below w.heap.size w wr)) (fun i _ => p.length - (intOf i).toNat)
  case atStart => exact ⟨0, Nat.zero_le _, rfl, (fun j hj => by omega), Below.refl _ _⟩
  case round =>
    obtain ⟨k, hk, rfl, HE, HW⟩ := hrel
    by_cases hkl : k < p.length
    · have hkl' : ((k : Nat) : Int) < ((p.length : Nat) : Int) := by omega
      obtain ⟨y, hy⟩ : ∃ y, p[k]? = some y := ⟨_, List.getElem?_eq_getElem hkl⟩
      obtain ⟨x, hx⟩ : ∃ x, l[J + k]? = some x := ⟨_, List.getElem?_eq_getElem (by omega)⟩
      rcases HR.out with e | ⟨g, o, rfl, hcell⟩
      · rw [e] at hx; simp at hx
      rcases HR2.out with e | ⟨g2, o2, rfl, hcell2⟩
      · rw [e] at hkl; simp at hkl
      have q1 := hcell _ x hx
      have q2 := hcell2 _ y hy
      have d1 : wr.cell? ⟨g, o + (J + k), none⟩ = some (.int .u8 (x.toNat : Int)) := (But.of_below HW.out).cell q1 (fun e => by cases e)
      have d2 : wr.cell? ⟨g2, o2 + k, none⟩ = some (.int .u8 (y.toNat : Int)) := (But.of_below HW.out).cell q2 (fun e => by cases e)
      have hjk : ((J : Nat) : Int) + ((k : Nat) : Int) < ((l.length : Nat) : Int) := by omega
      have hjk0 : 0 ≤ ((J : Nat) : Int) + ((k : Nat) : Int) := by omega
      have hjk2 : (((J : Nat) : Int) + ((k : Nat) : Int)).toNat = J + k := by omega
      have HX : Hid (l[J + k]? = some x) := hx
      have HY : Hid (p[k]? = some y) := hy
      clear hcell hcell2 q1 q2 hx hy
      by_cases hxy : x = y
      · have hne : (((x.toNat : Nat) : Int) != ((y.toNat : Nat) : Int)) = false := by rw [hxy]; simp
        go_wp2_with fail
        go_quiet (fail)
        go_wp2
        go_roundw
        case rel =>
          refine ⟨k + 1, by omega, by go_num, (fun j hj => ?_), bel_drewN HW.out _⟩
          by_cases c : j < k
          · exact HE.out j c
          · obtain rfl : j = k := by omega
            rw [HX.out, HY.out, hxy]
        case measure => simp [intOf]; omega
      · have hne : (((x.toNat : Nat) : Int) != ((y.toNat : Nat) : Int)) = true := by
          rw [bne_iff_ne]
          intro e
          exact hxy (UInt8.toNat_inj.1 (by omega))
        have HF : Hid (b = false) := (by
          cases hb : b with
          | false => rfl
          | true =>
            have := (HB.out.1 hb).2 k hkl
            rw [HX.out, HY.out] at this
            exact absurd (Option.some.inj this) hxy : b = false)
        go_wp2_with fail
        go_quiet (fail)
        go_wp2
        go_ret
        exact ⟨by rw [HF.out]; rfl, bel_drewN HW.out _⟩
    · have hkl' : ¬ ((k : Nat) : Int) < ((p.length : Nat) : Int) := by omega
      have HT : Hid (b = true) := HB.out.2 ⟨by omega, fun j hj => HE.out j (by omega)⟩
      go_wp2
      go_ret
      exact ⟨by rw [HT.out]; rfl, HW.out⟩

open Classical in
set_option maxRecDepth 100000 in
set_option maxHeartbeats 1000000 in
theorem rFind_any {w : World} {cap gone : Nat} {lv u : Value} {l p : List UInt8} (hlv : RdB w lv l) (hu : RdB w u p) (hl : l.length ≤ 1048576) (hp : p.length ≤ 140737488355328) (hc : cap ≤ 1048576) (f : Int) (hf0 : -9223372036854775808 ≤ f) (hf1 : f ≤ 9223372036854775807) (r : Int) (hr : r = if cap = 0 then -1 else fnd l p f) :
    Calls Try.prog 35 #[.agg #[.int .i64 (cap : Int), lv, .int .i64 (gone : Int)], u, .int .i64 f] w fun e w' => e = .returned (.int .i64 r) ∧ Below w.heap.size w w' := by
  have HLV : Hid (RdB w lv l) := hlv
  have HU : Hid (RdB w u p) := hu
  have HRr : Hid (r = if cap = 0 then -1 else fnd l p f) := hr
  clear hr
  obtain ⟨al, cl, rfl, halc, _⟩ := hlv
  obtain ⟨au, cu, rfl, hauc, _⟩ := hu
  obtain ⟨w1, hw1⟩ : ∃ w1, w1 = w.alloc (.cells #[.int .i64 (cap : Int), .slice al l.length cl, .int .i64 (gone : Int)] 27) := ⟨_, rfl⟩
  have HB1 : Hid (Below w.heap.size w w1) := (by rw [hw1]; exact (Below.refl _ w).alloc (Nat.le_refl _) _ : Below w.heap.size w w1)
  have HA1 : Hid (w1.heap[w.heap.size]? = some (.cells #[.int .i64 (cap : Int), .slice al l.length cl, .int .i64 (gone : Int)] 27 (0, 0))) := (by rw [hw1]; exact heap_alloc_new _ _ : w1.heap[w.heap.size]? = _)
  by_cases h1 : f < 0
  · have HR : Hid (r = -1) := (by rw [HRr.out]; split; rfl; exact if_pos (.inl h1) : r = -1)
    go_enter Try.func35, Try.ntmps35
    go_wp2
    rw [← hw1]
    go_ret
    exact ⟨by rw [HR.out]; rfl, HB1.out⟩
  by_cases h2 : cap = 0
  · have HR : Hid (r = -1) := (by rw [HRr.out, if_pos h2] : r = -1)
    have h2' : (((cap : Nat) : Int) == 0) = true := by simp [h2]
    go_enter Try.func35, Try.ntmps35
    go_wp2
    go_ret
    exact ⟨by rw [HR.out]; rfl, (Below.refl _ w).alloc (Nat.le_refl _) _⟩
  have h2' : (((cap : Nat) : Int) == 0) = false := by simp; omega
  obtain ⟨F, rfl⟩ := Int.eq_ofNat_of_zero_le (show 0 ≤ f by omega)
  have HR : Hid (r = fnd l p (F : Int)) := (by rw [HRr.out, if_neg h2] : r = fnd l p (F : Int))
  go_enter Try.func35, Try.ntmps35
  go_wp2
  rw [← hw1]
  clear hw1
  go_loopw [7] (fun i wr => ∃ J : Nat, i = .int .i64 (J : Int) ∧ F ≤ J ∧ (J = F ∨ J ≤ l.length + 1) ∧ Hid (∀ j, F ≤ j → j < J → ¬ At l p j) ∧ Hid (Below w1.heap.size w1 wr)) (fun i _ => l.length + 1 - (intOf i).toNat)
  case atStart => exact ⟨F, rfl, Nat.le_refl _, .inl rfl, (fun j h1 h2 => by omega), Below.refl _ _⟩
  case round =>
    obtain ⟨J, rfl, hFJ, hJ, HN, HB⟩ := hrel
    obtain ⟨d0, d1, d2, df⟩ := row3 ((But.of_below HB.out).heap HA1.out (fun e => by cases e))
    by_cases hJl : J ≤ l.length
    · have hJl' : ((J : Nat) : Int) ≤ ((l.length : Nat) : Int) := by omega
      go_wp2_with fail
      refine (stands_any (HLV.out.below (bel_trans HB1.out HB.out)) (HU.out.below (bel_trans HB1.out HB.out)) hl hp J hJl (decide (At l p J)) (by simp)).mono ?_
      rintro e w2 ⟨rfl, hb⟩
      have HB2 : Hid (Below w1.heap.size w1 w2) := bel_trans HB.out hb
      clear hb d0 d1 d2 df
      by_cases hat : At l p J
      · rw [decide_eq_true hat]
        have HF : Hid (r = (J : Int)) := (by rw [HR.out]; exact fnd_is l p F J hFJ hat HN.out : r = (J : Int))
        go_wp2
        go_ret
        exact ⟨by rw [HF.out]; rfl, bel_trans HB1.out HB2.out⟩
      · rw [decide_eq_false hat]
        have Hat : Hid (¬ At l p J) := hat
        clear hat
        go_wp2
        go_roundw
        case rel =>
          refine ⟨J + 1, by go_num, by omega, by omega, (fun j h1 h2 => ?_), HB2⟩
          by_cases c : j < J
          · exact HN.out j h1 c
          · obtain rfl : j = J := by omega
            exact Hat.out
        case measure => simp [intOf]; omega
    · have hJl' : ¬ ((J : Nat) : Int) ≤ ((l.length : Nat) : Int) := by omega
      have HF : Hid (r = -1) := (by rw [HR.out]; exact fnd_no l p F (fun j h1 h2 => HN.out j h1 (by omega)) : r = -1)
      go_wp2
      go_ret
      exact ⟨by rw [HF.out]; rfl, bel_trans HB1.out HB.out⟩

end Rg
end Go.Proofs.Ytonbjdiehbemjaa
