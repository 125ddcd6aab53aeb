/-
  The document's ring: At, Peek, Head, Clear, PutAll, Take, Parts; the ring's At, Clear, PutAll, Parts, nil too.
-/
import Derived.Test.YtonbjdiehbemjaaGRef3
import Derived.Test.YtonbjdiehbemjaaGNil
import Derived.Deep.RegionWith
set_option linter.unusedVariables false
set_option linter.unusedSimpArgs false
namespace Go.Proofs.Ytonbjdiehbemjaa
open Go.RowKit
namespace Rg

def atk (l : List UInt8) (i : Int) : Bool := decide (0 ≤ i ∧ i < l.length)
def atb (l : List UInt8) (i : Int) : Int := if 0 ≤ i ∧ i < l.length then (((l[i.toNat]?).getD 0).toNat : Int) else 0
theorem atb_in {l : List UInt8} {i : Nat} {x : UInt8} (h : l[i]? = some x) : atb l (i : Int) = (x.toNat : Int) ∧ atk l (i : Int) = true := by
  have hi := (List.getElem?_eq_some_iff.1 h).1
  unfold atb atk
  rw [if_pos (by omega), Int.toNat_natCast, h]
  exact ⟨rfl, decide_eq_true (by omega)⟩
theorem atb_out {l : List UInt8} {i : Int} (h : ¬ (0 ≤ i ∧ i < l.length)) : atb l i = 0 ∧ atk l i = false := by
  unfold atb atk
  rw [if_neg h]
  exact ⟨rfl, decide_eq_false h⟩

set_option maxRecDepth 100000 in
theorem rAt_any {w : World} {cap gone : Nat} {lv : Value} {l : List UInt8} (hv : RdB w lv l) (hl : l.length ≤ 1048576) (i : Int) (hi0 : -9223372036854775808 ≤ i) (hi1 : i ≤ 9223372036854775807) :
    Calls Try.prog 30 #[.agg #[.int .i64 (cap : Int), lv, .int .i64 (gone : Int)], .int .i64 i] w fun e w' => e = .returned (.tuple #[.int .u8 (atb l i), .bool (atk l i)]) ∧ Below w.heap.size w w' := by
  have HV : Hid (RdB w lv l) := hv
  obtain ⟨a, c, rfl, hc, hz, hr⟩ := hv
  have HRD : Hid (l = [] ∨ ∃ g o, a = some ⟨g, o, none⟩ ∧ ∀ j x, l[j]? = some x → w.cell? ⟨g, o + j, none⟩ = some (.int .u8 (x.toNat : Int))) := hr
  clear hr hz
  have hB : Below w.heap.size w (w.alloc (.cells #[.int .i64 (cap : Int), .slice a l.length c, .int .i64 (gone : Int)] 27)) := (Below.refl _ w).alloc (Nat.le_refl _) _
  by_cases h1 : i < 0
  · obtain ⟨e1, e2⟩ := atb_out (l := l) (i := i) (by omega)
    have E1 : Hid (atb l i = 0) := e1
    have E2 : Hid (atk l i = false) := e2
    clear e1 e2
    go_enter Try.func30, Try.ntmps30
    go_wp2
    go_ret2
    exact ⟨by rw [E1.out, E2.out]; rfl, hB⟩
  by_cases h2 : (l.length : Int) ≤ i
  · obtain ⟨e1, e2⟩ := atb_out (l := l) (i := i) (by omega)
    have E1 : Hid (atb l i = 0) := e1
    have E2 : Hid (atk l i = false) := e2
    clear e1 e2
    go_enter Try.func30, Try.ntmps30
    go_wp2
    go_ret2
    exact ⟨by rw [E1.out, E2.out]; rfl, hB⟩
  obtain ⟨k, rfl⟩ := Int.eq_ofNat_of_zero_le (show 0 ≤ i by omega)
  have hk : k < l.length := by omega
  obtain ⟨x, hx⟩ : ∃ x, l[k]? = some x := ⟨_, List.getElem?_eq_getElem hk⟩
  rcases HRD.out with e | ⟨g, o, rfl, hcell⟩
  · rw [e] at hk; simp at hk
  obtain ⟨e1, e2⟩ := atb_in hx
  have E1 : Hid (atb l (k : Int) = (x.toNat : Int)) := e1
  have E2 : Hid (atk l (k : Int) = true) := e2
  have hcx := hcell k x hx
  have hdx : (w.alloc (.cells #[.int .i64 (cap : Int), .slice (some ⟨g, o, none⟩) l.length c, .int .i64 (gone : Int)] 27)).cell? ⟨g, o + k, none⟩ = some (.int .u8 (x.toNat : Int)) := (hB.cell (p := ⟨g, o + k, none⟩) (World.block_lt_of_cell? w _ hcx)).trans hcx
  have hgne : g ≠ w.heap.size := by have := World.block_lt_of_cell? w _ hcx; simp at this; omega
  clear e1 e2 hcell hx
  go_enter Try.func30, Try.ntmps30
  go_wp2
  go_ret2
  exact ⟨by rw [E1.out, E2.out]; rfl, hB⟩

set_option maxRecDepth 100000 in
theorem place_same {w : World} {rp sb cap head : Nat} {xs : List UInt8} (hR : IsRing w rp sb cap head xs) (i : Nat) (hi : i ≤ cap) : Calls Try.prog 46 #[.pointer (some ⟨rp, 0, none⟩), .int .i64 (i : Int)] w fun e w' => e = .returned (.int .i64 ((pl cap head i : Nat) : Int)) ∧ w' = w := by
  obtain ⟨c0, c1, c2, cf⟩ := hR.cells
  have h1 := hR.hhead
  have h2 := hR.hcap
  clear hR
  by_cases hc : cap ≤ head + i
  · have HP : Hid (pl cap head i = head + i - cap) := if_pos hc
    have hc' : (cap : Int) ≤ (i : Int) + (head : Int) := by omega
    go_enter Try.func46, Try.ntmps46
    go_wp2
    go_ret
    exact ⟨by rw [HP.out]; go_num, rfl⟩
  · have HP : Hid (pl cap head i = head + i) := if_neg hc
    have hc' : ¬ (cap : Int) ≤ (i : Int) + (head : Int) := by omega
    go_enter Try.func46, Try.ntmps46
    go_wp2
    go_ret
    exact ⟨by rw [HP.out]; go_num, rfl⟩

set_option maxRecDepth 100000 in
theorem AtP {w : World} {p : Option Addr} {bs : List Nat} {cap h : Nat} {xs : List UInt8} (H : RingP w p bs cap h xs) (i : Int) (hi0 : -9223372036854775808 ≤ i) (hi1 : i ≤ 9223372036854775807) :
    Calls Try.prog 29 #[.pointer p, .int .i64 i] w fun e w' => e = .returned (.tuple #[.int .u8 (atb xs i), .bool (atk xs i)]) ∧ Below w.heap.size w w' := by
  have HH : Hid (RingP w p bs cap h xs) := H
  obtain ⟨hl1, hl2⟩ := H.hlen
  by_cases h1 : i < 0
  · obtain ⟨e1, e2⟩ := atb_out (l := xs) (i := i) (by omega)
    have E1 : Hid (atb xs i = 0) := e1
    have E2 : Hid (atk xs i = false) := e2
    clear e1 e2 H
    go_enter Try.func29, Try.ntmps29
    go_wp2
    go_ret2
    exact ⟨by rw [E1.out, E2.out]; rfl, Below.refl _ _⟩
  by_cases h2 : (xs.length : Int) ≤ i
  · obtain ⟨e1, e2⟩ := atb_out (l := xs) (i := i) (by omega)
    have E1 : Hid (atb xs i = 0) := e1
    have E2 : Hid (atk xs i = false) := e2
    clear e1 e2 H
    go_enter Try.func29, Try.ntmps29
    go_wp2_with fail
    refine (LenP HH.out).mono ?_
    rintro e w1 ⟨rfl, hb⟩
    have HB1 : Hid (Below w.heap.size w w1) := hb
    clear hb
    go_wp2
    go_ret2
    exact ⟨by rw [E1.out, E2.out]; rfl, HB1.out⟩
  obtain ⟨k, rfl⟩ := Int.eq_ofNat_of_zero_le (show 0 ≤ i by omega)
  have hk : k < xs.length := by omega
  obtain ⟨x, hx⟩ : ∃ x, xs[k]? = some x := ⟨_, List.getElem?_eq_getElem hk⟩
  obtain ⟨e1, e2⟩ := atb_in hx
  have E1 : Hid (atb xs (k : Int) = (x.toNat : Int)) := e1
  have E2 : Hid (atk xs (k : Int) = true) := e2
  rcases H with ⟨_, _, _, _, rfl⟩ | ⟨rp, sb, rfl, _, H⟩
  · simp at hk
  have hh := H.hhead
  clear e1 e2
  go_enter Try.func29, Try.ntmps29
  go_wp2_with fail
  refine (LenP HH.out).mono ?_
  rintro e w1 ⟨rfl, hb⟩
  have HB1 : Hid (Below w.heap.size w w1) := hb
  have HR1 : Hid (IsRing w1 rp sb cap h xs) := H.below hb
  clear hb H
  obtain ⟨st, hst, hstore, hwin⟩ := HR1.out.store
  obtain ⟨c0, c1, c2, cf⟩ := HR1.out.cells
  have hpl := pl_lt cap h k hh (by omega)
  have hsx : st[pl cap h k]? = some x := by
    have := win_get st h xs.length k hk (by omega) (by omega)
    rw [hwin, hx, hst] at this
    exact this.symm
  obtain ⟨P, hP⟩ : ∃ P, P = pl cap h k := ⟨_, rfl⟩
  rw [← hP] at hpl hsx
  have HPl : Hid (pl cap h k = P) := hP.symm
  have hcx : w1.cell? ⟨sb, P, none⟩ = some (.int .u8 (x.toNat : Int)) := by rw [cell_of_row w1 sb _ _ _ _ hstore]; simp [bv, hsx]
  have hP1 : ((P : Nat) : Int) < ((cap : Nat) : Int) := by omega
  have HC : Hid (∀ n, Calls Try.prog 46 #[.pointer (some ⟨rp, 0, none⟩), .int .i64 (k : Int)] (w1.drewN n) fun e w' => e = .returned (.int .i64 ((P : Nat) : Int)) ∧ w' = w1.drewN n) := fun n => by
    have := place_same (HR1.out.below (bel_drewN (Below.refl _ _) n)) k (by omega)
    rw [HPl.out] at this
    exact this
  clear hstore hwin hsx hx hP
  go_wp2_with fail
  go_quiet ((go_at_call 46; exact Calls.quiet_of_same (HC.out _)))
  go_wp2
  go_ret2
  exact ⟨by rw [E1.out, E2.out]; rfl, bel_drewN HB1.out _⟩

theorem pk_eq (l : List UInt8) (f n : Int) : (l.drop f.toNat).take (rch l.length f n) = pc l f n := by
  unfold rch pc
  by_cases h1 : f < 0
  · rw [if_pos (.inl h1), if_pos (.inl h1)]; simp
  by_cases h2 : n < 0
  · rw [if_pos (.inr (.inl h2)), if_pos (.inr (by omega))]; simp
  by_cases h3 : (l.length : Int) < f
  · rw [if_pos (.inr (.inr h3)), List.drop_eq_nil_of_le (by omega)]; simp
  · rw [if_neg (by omega)]
    by_cases h4 : n ≤ 0
    · obtain rfl : n = 0 := by omega
      rw [if_pos (by omega)]; simp
    · rw [if_neg (by omega)]
      by_cases c : n.toNat ≤ l.length - f.toNat
      · rw [Nat.min_eq_left c]
      · rw [Nat.min_eq_right (by omega), List.take_of_length_le (by rw [List.length_drop]; omega), List.take_of_length_le (by rw [List.length_drop]; omega)]

set_option maxRecDepth 100000 in
theorem rPeek_any {w : World} {cap gone : Nat} {lv : Value} {l : List UInt8} (hv : RdB w lv l) (hl : l.length ≤ 1048576) (f n : Int) (hf0 : -9223372036854775808 ≤ f) (hf1 : f ≤ 9223372036854775807) (hn0 : -9223372036854775808 ≤ n) (hn1 : n ≤ 9223372036854775807) :
    Calls Try.prog 31 #[.agg #[.int .i64 (cap : Int), lv, .int .i64 (gone : Int)], .int .i64 f, .int .i64 n] w fun e w' => ∃ v, e = .returned v ∧ RdB w' v (pc l f n) ∧ Below w.heap.size w w' := by
  have HV : Hid (RdB w lv l) := hv
  obtain ⟨a, c, rfl, hc, _⟩ := hv
  have hB : Below w.heap.size w (w.alloc (.cells #[.int .i64 (cap : Int), .slice a l.length c, .int .i64 (gone : Int)] 27)) := (Below.refl _ w).alloc (Nat.le_refl _) _
  go_enter Try.func31, Try.ntmps31
  go_wp2_with fail
  refine (piece_any (HV.out.below hB) f n hf0 hf1 hn0 hn1 (by omega)).mono ?_
  rintro e w2 ⟨v, rfl, ho, hb⟩
  have HO : Hid (RdB w2 v (pc l f n)) := RdB.ofOwn ho
  have HB : Hid (Below w.heap.size w w2) := bel_trans hB hb
  clear ho hb hB
  go_wp2
  go_ret
  exact ⟨_, rfl, HO.out, HB.out⟩

set_option maxRecDepth 100000 in
theorem rHead_any {w : World} {cap h : Nat} {lv : Value} (hlv : ∃ a n c, lv = .slice a n c) (hc : cap ≤ 1048576) (hh : h < cap ∨ (cap = 0 ∧ h = 0)) :
    Calls Try.prog 40 #[.agg #[.int .i64 (cap : Int), lv, .int .i64 (h : Int)]] w fun e w' => e = .returned (.int .i64 (h : Int)) ∧ Below w.heap.size w w' := by
  obtain ⟨a, n, c, rfl⟩ := hlv
  have hB : Below w.heap.size w (w.alloc (.cells #[.int .i64 (cap : Int), .slice a n c, .int .i64 (h : Int)] 27)) := (Below.refl _ w).alloc (Nat.le_refl _) _
  rcases hh with hh | ⟨rfl, rfl⟩
  · have hz : (((cap : Nat) : Int) == 0) = false := by simp; omega
    have hm : ((h : Nat) : Int) % ((cap : Nat) : Int) = ((h : Nat) : Int) := Int.emod_eq_of_lt (by omega) (by omega)
    go_enter Try.func40, Try.ntmps40
    go_wp2
    go_ret
    exact ⟨by simp [hm], hB⟩
  · go_enter Try.func40, Try.ntmps40
    go_wp2
    go_ret
    exact ⟨rfl, hB⟩

set_option maxRecDepth 100000 in
theorem ClearP {w : World} {p : Option Addr} {bs : List Nat} {cap h : Nat} {xs : List UInt8} (H : RingP w p bs cap h xs) :
    Calls Try.prog 37 #[.pointer p] w fun e w' => e = .returned (.tuple #[]) ∧ RingP w' p bs cap 0 [] ∧ But bs w w' := by
  rcases H with ⟨rfl, rfl, rfl, rfl, rfl⟩ | ⟨rp, sb, rfl, rfl, H⟩
  · go_enter Try.func37, Try.ntmps37
    go_wp2
    refine bodyPost_ret (results_none rfl _ _ _) rfl ?_
    exact ⟨rfl, .inl ⟨rfl, rfl, rfl, rfl, rfl⟩, But.refl _ _⟩
  · obtain ⟨c0, c1, c2, cf⟩ := H.cells
    obtain ⟨st, hst, hstore, hwin⟩ := H.store
    have s1 := heap_setCell_same w rp 1 _ _ (.int .i64 0) H.str
    have s2 := heap_setCell_same _ rp 2 _ _ (.int .i64 0) s1
    have HR : Hid (IsRing ((w.setCell ⟨rp, 1, none⟩ (.int .i64 0)).setCell ⟨rp, 2, none⟩ (.int .i64 0)) rp sb cap 0 []) := ⟨s2, ⟨st, hst, by rw [heap_setCell_other _ _ sb _ (fun e => H.ne e.symm), heap_setCell_other _ _ sb _ (fun e => H.ne e.symm)]; exact hstore, rfl⟩, H.ne, by have := H.hhead; omega, by simp, H.hcap⟩
    have HB : Hid (But [rp, sb] w ((w.setCell ⟨rp, 1, none⟩ (.int .i64 0)).setCell ⟨rp, 2, none⟩ (.int .i64 0))) := ((But.refl _ w).setCell (by simp) _).setCell (by simp) _
    clear s1 s2 H hwin hstore
    go_enter Try.func37, Try.ntmps37
    go_wp2
    go_end0
    exact ⟨rfl, .inr ⟨rp, sb, rfl, rfl, HR.out⟩, HB.out⟩

end Rg
end Go.Proofs.Ytonbjdiehbemjaa
