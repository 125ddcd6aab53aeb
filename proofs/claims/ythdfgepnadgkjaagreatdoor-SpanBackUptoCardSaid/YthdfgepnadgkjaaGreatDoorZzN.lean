/- Several texts as one. -/
import Derived.Test.YthdfgepnadgkjaaGreatDoorZzJ
import Derived.Test.YthdfgepnadgkjaaGreatDoorZzL
import Derived.Test.YthdfgepnadgkjaaGreatDoorZzK
/-
  What digits say, read back.
-/
set_option linter.unusedVariables false
set_option linter.unusedSimpArgs false
namespace Go.Proofs.YthdfgepnadgkjaaGreatDoor
open Go.RowKit
namespace Oc

theorem val_digit (d : Nat) (h : d < 10) : valI ((UInt8.ofNat (48 + d)).toNat : Int) = (d : Int) := by
  have e : (UInt8.ofNat (48 + d)).toNat = 48 + d := by rw [UInt8.toNat_ofNat']; omega
  rw [e, valI_d (by omega)]
  omega
theorem num_dec : ∀ u : Nat, numOf 10 (Lib.decDigits u) = (u : Int) := by
  intro u
  induction u using Nat.strongRecOn with
  | _ u ih =>
    by_cases h : u < 10
    · rw [Lib.decDigits_one h]
      show (0 : Int) * 10 + valI _ = _
      rw [val_digit u h]
      omega
    · rw [Lib.decDigits, dif_neg h, numOf_snoc, ih (u / 10) (by omega), val_digit _ (by omega)]
      omega
theorem dec_digits : ∀ u : Nat, ∀ c ∈ Lib.decDigits u, valI (c.toNat : Int) < 10 := by
  intro u
  induction u using Nat.strongRecOn with
  | _ u ih =>
    by_cases h : u < 10
    · rw [Lib.decDigits_one h]
      intro c hc
      have hc := List.mem_singleton.1 hc
      subst hc
      rw [val_digit u h]
      omega
    · rw [Lib.decDigits, dif_neg h]
      intro c hc
      rcases List.mem_append.1 hc with hc | hc
      · exact ih (u / 10) (by omega) c hc
      · have hc := List.mem_singleton.1 hc
        subst hc
        rw [val_digit (u % 10) (by omega)]
        omega
theorem dec_ne (u : Nat) : Lib.decDigits u ≠ [] := by
  rw [Lib.decDigits]
  split <;> simp
theorem dec_head : ∀ u : Nat, u ≠ 0 → (Lib.decDigits u).getD 0 0 ≠ 48 := by
  intro u
  induction u using Nat.strongRecOn with
  | _ u ih =>
    intro hu
    by_cases h : u < 10
    · rw [Lib.decDigits_one h]
      intro e
      have e2 := congrArg UInt8.toNat e
      simp [UInt8.toNat_ofNat'] at e2
      omega
    · rw [Lib.decDigits, dif_neg h]
      have hne := dec_ne (u / 10)
      have h1 := ih (u / 10) (by omega) (by omega)
      cases e : Lib.decDigits (u / 10) with
      | nil => exact absurd e hne
      | cons a l => rw [e] at h1; simpa using h1
theorem num_zeros (l : List UInt8) : ∀ k : Nat, numOf 10 (List.replicate k 48 ++ l) = numOf 10 l
  | 0 => by simp
  | k + 1 => by
    have := num_zeros l k
    rw [List.replicate_succ, List.cons_append]
    unfold numOf at *
    rw [List.foldl_cons]
    have e : (0 : Int) * 10 + valI ((48 : UInt8).toNat : Int) = 0 := by decide
    rw [e]
    exact this
theorem numR_zeros (u k : Nat) (most : Int) : numR 10 (List.replicate k 48 ++ Lib.decDigits u) most = if most < (u : Int) then (0, 12) else ((u : Int), 0) := by
  unfold numR
  rw [if_neg, num_zeros, num_dec]
  simp only [Bool.or_eq_true, List.any_eq_true, not_or]
  constructor
  · cases e : Lib.decDigits u with
    | nil => exact absurd e (dec_ne u)
    | cons a l => cases k <;> simp [List.replicate_succ]
  · rintro ⟨c, hc, h⟩
    have h := of_decide_eq_true h
    rcases List.mem_append.1 hc with hc | hc
    · have := List.eq_of_mem_replicate hc
      subst this
      have e : valI ((48 : UInt8).toNat : Int) = 0 := by decide
      rw [e] at h
      omega
    · have := dec_digits u c hc
      omega

end Oc
end Go.Proofs.YthdfgepnadgkjaaGreatDoor

/-
  span, plainly: what is told is read back.
-/
set_option linter.unusedVariables false
set_option linter.unusedSimpArgs false
namespace Go.Proofs.YthdfgepnadgkjaaGreatDoor
open Go.RowKit Go.Shelf
namespace Sn
open Oc Tg Ac

theorem itoa_pos {n : Int} (h : 0 ≤ n) : Lib.itoa n = Lib.decDigits n.toNat := by
  unfold Lib.itoa
  rw [if_neg (by omega)]
theorem itoa_dig {n : Int} (h : 0 ≤ n) (c : UInt8) (hc : c ∈ Lib.itoa n) : 48 ≤ c.toNat ∧ c.toNat ≤ 57 := by
  rw [itoa_pos h] at hc
  have := dec_digits n.toNat c hc
  unfold valI at this
  have hb := c.toNat_lt
  repeat' split at this
  all_goals omega
theorem itoa_no {n : Int} (h : 0 ≤ n) (b : UInt8) (hb : b.toNat < 48) (c : UInt8) (hc : c ∈ Lib.itoa n) : c ≠ b := by
  intro e
  subst e
  have := itoa_dig h c hc
  omega
theorem itoa_ne {n : Int} (h : 0 ≤ n) : Lib.itoa n ≠ [] := by rw [itoa_pos h]; exact dec_ne _
theorem numR_itoa {n m : Int} (h : 0 ≤ n) (hm : n ≤ m) : numR 10 (Lib.itoa n) m = (n, 0) := by
  have := numR_zeros n.toNat 0 m
  rw [List.replicate_zero, List.nil_append, ← itoa_pos h, if_neg (by omega)] at this
  rw [this]
  congr 1
  omega
theorem pln_itoa {n : Int} (h : 0 ≤ n) (hm : n ≤ 4611686018427387904) : pln (Lib.itoa n) = (n, true) := by
  unfold pln
  rw [numR_itoa h hm]
  simp
theorem cut_at (b : UInt8) : ∀ (l r : List UInt8), (∀ c ∈ l, c ≠ b) → cutA b (l ++ b :: r) = l ∧ cutB b (l ++ b :: r) = r ∧ has b (l ++ b :: r) = true
  | [], r, _ => by simp [cutA, cutB, has]
  | c :: l, r, h => by
    have hc := h c (by simp)
    obtain ⟨i1, i2, i3⟩ := cut_at b l r (fun x hx => h x (by simp [hx]))
    have e1 : cutA b (c :: (l ++ b :: r)) = c :: cutA b (l ++ b :: r) := by simp [cutA, hc]
    have e2 : cutB b (c :: (l ++ b :: r)) = cutB b (l ++ b :: r) := by simp [cutB, hc]
    refine ⟨by rw [List.cons_append, e1, i1], by rw [List.cons_append, e2, i2], ?_⟩
    unfold has
    simp
theorem extR_no {x : Sp} (h0 : 0 ≤ x.1) (h1 : x.1 < x.2) (c : UInt8) (hc : c ∈ extR x) : c ≠ 47 := by
  unfold extR at hc
  simp only [List.mem_append, List.mem_singleton] at hc
  rcases hc with (hc | rfl) | hc
  · exact itoa_no h0 47 (by decide) c hc
  · decide
  · exact itoa_no (by omega) 47 (by decide) c hc
theorem exP_ext {x : Sp} (h0 : 0 ≤ x.1) (h1 : x.1 < x.2) (h2 : x.2 ≤ 4611686018427387904) : exP (extR x) = (x, true) := by
  have e : extR x = Lib.itoa x.1 ++ 45 :: Lib.itoa (x.2 - 1) := by unfold extR; simp
  obtain ⟨i1, i2, _⟩ := cut_at 45 (Lib.itoa x.1) (Lib.itoa (x.2 - 1)) (fun c hc => itoa_no h0 45 (by decide) c hc)
  unfold exP
  rw [e, i1, i2, pln_itoa h0 (by omega), pln_itoa (by omega) (by omega)]
  obtain ⟨a, b⟩ := x
  dsimp only at *
  rw [decide_eq_true (by omega)]
  congr 2
  omega
theorem ext_star {x : Sp} (h0 : 0 ≤ x.1) : extR x ≠ [42] := by
  intro e
  have hn := itoa_ne h0
  cases hi : Lib.itoa x.1 with
  | nil => exact hn hi
  | cons c t =>
    have := itoa_dig h0 c (by rw [hi]; simp)
    unfold extR at e
    rw [hi] at e
    simp at e
/-- What is told of a span is read back. -/
theorem tel_back {x : Sp} {size : Int} (hsp : isSp x size = true) (hs : size ≤ 4611686018427387904) : tolR (telR x size).1 = (x, size, 0) := by
  have hh : 0 ≤ x.1 ∧ x.1 < x.2 ∧ x.2 ≤ size := of_decide_eq_true hsp
  obtain ⟨h0, h1, h2⟩ := hh
  unfold telR
  rw [if_pos hsp]
  dsimp only
  rw [tolR_six (by rfl)]
  rw [show List.drop 6 ([98, 121, 116, 101, 115, 32] ++ extR x ++ [47] ++ Lib.itoa size) = extR x ++ 47 :: Lib.itoa size by simp]
  obtain ⟨i1, i2, _⟩ := cut_at 47 (extR x) (Lib.itoa size) (fun c hc => extR_no h0 h1 c hc)
  have hx := exP_ext h0 h1 (by omega)
  have hp := pln_itoa (n := size) (by omega) hs
  unfold tolS
  rw [i1, i2, hx, hp]
  dsimp only
  rw [hsp]
  rfl
theorem non_back {size : Int} (h0 : 0 ≤ size) (hs : size ≤ 4611686018427387904) : tolR (nonR size).1 = ((0, 0), size, 0) := by
  unfold nonR
  rw [if_neg (by omega)]
  dsimp only
  rw [tolR_six (by rfl)]
  rw [show List.drop 6 ([98, 121, 116, 101, 115, 32, 42, 47] ++ Lib.itoa size) = [42] ++ 47 :: Lib.itoa size by simp]
  obtain ⟨i1, i2, _⟩ := cut_at 47 [42] (Lib.itoa size) (by decide)
  have hp := pln_itoa (n := size) (by omega) hs
  rw [tolS_star1 i1 (by rw [i2, hp]), i2, hp]

end Sn
end Go.Proofs.YthdfgepnadgkjaaGreatDoor

/-
  span.areSpans.
-/
set_option linter.unusedVariables false
set_option linter.unusedSimpArgs false
namespace Go.Proofs.YthdfgepnadgkjaaGreatDoor
open Go.RowKit Go.Shelf
namespace Sn
open Oc Tg Ac

def allSp (t : List Sp) (size : Int) : Bool := t.all fun x => isSp x size
theorem nthN_mem' {d : List Sp} {k : Nat} (h : k < d.length) : nthN d k = d[k] := by
  unfold nthN
  rw [List.getD_eq_getElem?_getD, List.getElem?_eq_getElem h]
  rfl
theorem allSp_no {t : List Sp} {size : Int} {k : Nat} (hk : k < t.length) (h : isSp (nthN t k) size = false) : allSp t size = false := by
  unfold allSp
  rw [List.all_eq_false]
  exact ⟨t[k], List.getElem_mem _, by rw [← nthN_mem' hk, h]; simp⟩
theorem allSp_yes {t : List Sp} {size : Int} (h : ∀ j, j < t.length → isSp (nthN t j) size = true) : allSp t size = true := by
  unfold allSp
  rw [List.all_eq_true]
  intro x hx
  obtain ⟨k, hk, rfl⟩ := List.mem_iff_getElem.1 hx
  rw [← nthN_mem' hk]
  exact h k hk

set_option maxRecDepth 100000 in
set_option maxHeartbeats 1000000 in
theorem areSpans1_any (a b size : Int) (B : Nat) (w : World) (hc : w.cell? ⟨B, 0, none⟩ = some (.int .i64 size)) :
    Calls Tryz.prog 55 #[.agg #[.int .i64 a, .int .i64 b], .pointer (some ⟨B, 0, none⟩)] w fun e w' => e = .returned (.bool (!isSp (a, b) size)) ∧ Below w.heap.size w w' := by
  obtain ⟨w1, hw1⟩ : ∃ w1, w1 = w.alloc (.cells #[.int .i64 a, .int .i64 b] 38) := ⟨_, rfl⟩
  have hb1 : Below w.heap.size w w1 := by rw [hw1]; exact (Below.refl _ w).alloc (Nat.le_refl _) _
  have hc1 : (w.alloc (.cells #[.int .i64 a, .int .i64 b] 38)).cell? ⟨B, 0, none⟩ = some (.int .i64 size) := by rw [← hw1, hb1.cell (World.block_lt_of_cell? w _ hc)]; exact hc
  have HS : Hid (Calls Tryz.prog 44 #[.agg #[.int .i64 a, .int .i64 b], .int .i64 size] w1 fun e w' => e = .returned (.bool (isSp (a, b) size)) ∧ Below w1.heap.size w1 w') := (isSpan_gr a b size w1).mono (fun e w' ⟨h1, h2⟩ => ⟨h1, Grew.below h2⟩)
  have HB1 : Hid (Below w.heap.size w w1) := hb1
  generalize isSp (a, b) size = s at *
  clear hc hb1
  go_enter Tryz.func55, Tryz.ntmps55
  go_wp2_with fail
  rw [← hw1]
  refine HS.out.mono ?_
  rintro e w3 ⟨rfl, hb3⟩
  have HB3 : Hid (Below w.heap.size w w3) := bel_trans HB1.out hb3
  clear hb3
  go_wp2
  go_ret
  exact ⟨rfl, HB3.out⟩

set_option maxRecDepth 100000 in
set_option maxHeartbeats 1000000 in
theorem IndexFunc_s (v : Value) (d : List Sp) (size : Int) (B : Nat) (hn : d.length ≤ 4294967296) (w : World) (hrd : RdN v d w) (hc : w.cell? ⟨B, 0, none⟩ = some (.int .i64 size)) :
    Calls Tryz.prog 45 #[v, .func (.func 55) #[] #[.pointer (some ⟨B, 0, none⟩)]] w fun e w' => (∃ z : Int, e = .returned (.int .i64 z) ∧ decide (0 ≤ z) = !allSp d size) ∧ Below w.heap.size w w' := by
  have HR : Hid (RdN v d w) := hrd
  have HN : Hid (∀ (x : Sp) W, Below w.heap.size w W → Calls Tryz.prog 55 #[.agg #[.int .i64 x.1, .int .i64 x.2], .pointer (some ⟨B, 0, none⟩)] W fun e w' => e = .returned (.bool (!isSp x size)) ∧ Below (World.heap W).size W w') := fun x W hb => areSpans1_any x.1 x.2 size B W ((hb.cell (World.block_lt_of_cell? w _ hc)).trans hc)
  obtain ⟨a, c, rfl, _⟩ := hrd
  clear hc
  go_enter Tryz.func45, Tryz.ntmps45
  go_wp2
  go_loopw [8] (fun i wr => ∃ k : Nat, k ≤ d.length ∧ i = .int .i64 k ∧ Hid (∀ j, j < k → isSp (nthN d j) size = true) ∧ Hid (Below w.heap.size w wr)) (fun i _ => d.length - (intOf i).toNat)
  case atStart => exact ⟨0, Nat.zero_le _, rfl, (fun j hj => by omega : ∀ j, j < 0 → _), Below.refl _ _⟩
  case round =>
    obtain ⟨k, hk, rfl, hall, hbl⟩ := hrel
    by_cases hlt : k < d.length
    · obtain ⟨a', c', e', hcs⟩ := HR.out.below hbl.out
      injection e' with e1 _ e2
      subst e1 e2
      rcases hcs with h | ⟨g, o, rfl, hlc, hcell⟩
      · rw [h] at hlt; simp at hlt
      obtain ⟨p0, p1⟩ := hcell k hlt
      have HNk : Hid (Calls _ _ _ wr _) := HN.out (nthN d k) wr hbl.out
      have HT : isSp (nthN d k) size = false → Hid (allSp d size = false) := fun h => allSp_no hlt h
      have HF : isSp (nthN d k) size = true → Hid (∀ j, j < k + 1 → isSp (nthN d j) size = true) := fun h j hj => by
        by_cases hjk : j = k
        · subst hjk; exact h
        · exact hall.out j (by omega)
      clear hcell
      generalize isSp (nthN d k) size = b at HNk HT HF
      generalize (nthN d k).1 = X at *
      generalize (nthN d k).2 = Y at *
      cases b with
      | false =>
        have HT2 := HT rfl
        clear HT HF
        go_wp2_with fail
        refine HNk.out.mono ?_
        rintro e w2 ⟨rfl, hb2⟩
        have HB2 : Hid (Below w.heap.size w w2) := bel_trans hbl.out hb2
        clear hb2
        go_wp2
        go_ret
        exact ⟨⟨_, rfl, by rw [HT2.out]; simp⟩, HB2.out⟩
      | true =>
        have HF2 := HF rfl
        clear HT HF
        go_wp2_with fail
        refine HNk.out.mono ?_
        rintro e w2 ⟨rfl, hb2⟩
        have HB2 : Hid (Below w.heap.size w w2) := bel_trans hbl.out hb2
        clear hb2
        go_wp2
        go_roundw
        case rel => exact ⟨k + 1, by omega, by go_num, HF2, HB2⟩
        case measure => simp [intOf]; omega
    · have HE : Hid (allSp d size = true) := allSp_yes (fun j hj => hall.out j (by omega))
      go_wp2
      go_ret
      exact ⟨⟨_, rfl, by rw [HE.out]; rfl⟩, hbl.out⟩

set_option maxRecDepth 100000 in
set_option maxHeartbeats 1000000 in
theorem areSpans_any (v : Value) (d : List Sp) (size : Int) (hn : d.length ≤ 4294967296) (w : World) (hrd : RdN v d w) :
    Calls Tryz.prog 29 #[v, .int .i64 size] w fun e w' => e = .returned (.bool (allSp d size)) ∧ Below w.heap.size w w' := by
  have HCo : Hid (∀ B W, RdN v d W → W.cell? ⟨B, 0, none⟩ = some (.int .i64 size) → Calls Tryz.prog 54 #[v, .func (.func 55) #[] #[.pointer (some ⟨B, 0, none⟩)]] W fun e w' => e = .returned (.bool (!allSp d size)) ∧ Below (World.heap W).size W w') := fun B W h hc => by
    have HI : Hid (Calls _ _ _ _ _) := IndexFunc_s v d size B hn W h hc
    obtain ⟨a, c, rfl, _⟩ := h
    generalize allSp d size = s at *
    clear hc
    go_enter Tryz.func54, Tryz.ntmps54
    go_wp2_with fail
    refine HI.out.mono ?_
    rintro e w2 ⟨⟨z, rfl, hz⟩, hb2⟩
    have HB2 : Hid (Below W.heap.size W w2) := hb2
    have HZ : Hid (decide (0 ≤ z) = !s) := hz
    clear hb2 hz
    go_wp2
    go_ret
    rw [← HZ.out]
    exact ⟨by first | rfl | simp, HB2.out⟩
  obtain ⟨w1, hw1⟩ : ∃ w1, w1 = w.alloc (.cells #[.int .i64 size] 3) := ⟨_, rfl⟩
  have hb1 : Below w.heap.size w w1 := by rw [hw1]; exact (Below.refl _ w).alloc (Nat.le_refl _) _
  have hc1 : w1.cell? ⟨w.heap.size, 0, none⟩ = some (.int .i64 size) := by rw [hw1]; simp
  have HC : Hid (Calls _ _ _ _ _) := HCo.out w.heap.size w1 (hrd.below hb1) hc1
  have HB1 : Hid (Below w.heap.size w w1) := hb1
  obtain ⟨a, c, rfl, _⟩ := hrd
  generalize allSp d size = s at *
  clear hb1 hc1 HCo
  go_enter Tryz.func29, Tryz.ntmps29
  go_wp2_with fail
  rw [← hw1]
  refine HC.out.mono ?_
  rintro e w2 ⟨rfl, hb2⟩
  have HB2 : Hid (Below w.heap.size w w2) := bel_trans HB1.out hb2
  clear hb2
  go_wp2
  go_ret
  exact ⟨by first | rfl | (cases s <;> rfl), HB2.out⟩

end Sn
end Go.Proofs.YthdfgepnadgkjaaGreatDoor
