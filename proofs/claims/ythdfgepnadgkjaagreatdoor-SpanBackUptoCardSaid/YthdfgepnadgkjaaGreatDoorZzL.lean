/- Several texts as one. -/
import Derived.Test.YthdfgepnadgkjaaGreatDoorZzK
import Derived.Test.YthdfgepnadgkjaaGreatDoorZzI
/-
  span: extent, Tell, TellNone, Cut.
-/
set_option linter.unusedVariables false
set_option linter.unusedSimpArgs false
namespace Go.Proofs.YthdfgepnadgkjaaGreatDoor
open Go.RowKit Go.Shelf
open Go.Sort (grow alloc_eq_grow grow_grow grow_empty)
namespace Sn
open Oc Tg Ac

theorem Pow.grown {w : World} (h : Pow w) (n : Nat) (os : Array Obj) : Pow (grow (w.drewN n) os) := Oc.Pow.below h (Grew.below ⟨n, os, rfl⟩) (Nat.le_refl _)
/-- First and last byte. -/
def extR (x : Sp) : List UInt8 := Lib.itoa x.1 ++ [45] ++ Lib.itoa (x.2 - 1)
/-- A content range. -/
def telR (x : Sp) (size : Int) : List UInt8 × Int := if isSp x size = true then ([98, 121, 116, 101, 115, 32] ++ extR x ++ [47] ++ Lib.itoa size, 0) else ([], 91)
def nonR (size : Int) : List UInt8 × Int := if size < 0 then ([], 1) else ([98, 121, 116, 101, 115, 32, 42, 47] ++ Lib.itoa size, 0)
def cutR (l : List UInt8) (x : Sp) : List UInt8 × Int := if isSp x l.length = true then ((l.drop x.1.toNat).take (x.2.toNat - x.1.toNat), 0) else ([], 91)
theorem str_app (a b : List UInt8) : str a ++ str b = str (a ++ b) := by rw [cat_str, str_list]
theorem extR_len (x : Sp) (h0 : -9223372036854775808 ≤ x.1) (h1 : x.1 ≤ 9223372036854775807) (h2 : -9223372036854775808 < x.2) (h3 : x.2 ≤ 9223372036854775807) : (extR x).length ≤ 43 := by
  have := Lib.itoa_length_le x.1 h0 h1
  have := Lib.itoa_length_le (x.2 - 1) (by omega) (by omega)
  unfold extR
  simp
  omega
theorem isSp_t {a b size : Int} (h : isSp (a, b) size = true) : 0 ≤ a ∧ a < b ∧ b ≤ size := of_decide_eq_true h

set_option maxRecDepth 100000 in
set_option maxHeartbeats 1000000 in
theorem extent_gr (a b : Int) (a0 : -9223372036854775808 ≤ a) (a1 : a ≤ 9223372036854775807) (b0 : -9223372036854775808 < b) (b1 : b ≤ 9223372036854775807) (w : World) (hp : Pow w) :
    Calls Tryz.prog 57 #[.agg #[.int .i64 a, .int .i64 b]] w fun e w' => e = .returned (.string (str (extR (a, b)))) ∧ ∃ q os, w' = grow (w.drewN q) os := by
  obtain ⟨w1, hw1⟩ : ∃ w1, w1 = w.alloc (.cells #[.int .i64 a, .int .i64 b] 38) := ⟨_, rfl⟩
  have HPB : Hid (PB 38 w1 w.heap.size (a, b)) := (by rw [hw1]; exact heap_alloc_new w _ : PB _ _ _ _)
  have HB1 : Hid (Grew w w1) := (by rw [hw1]; exact (Grew.refl w).alloc _ : Grew _ _)
  have hp1 : Pow w1 := Oc.Pow.below hp HB1.out.below (Nat.le_refl _)
  have HPW : Hid (Pow w1) := hp1
  have HDA : Hid (∀ n os, Calls _ _ _ (grow (w1.drewN n) os) _) := fun n os => Digits_gr a a0 a1 (grow (w1.drewN n) os) (Pow.grown hp1 n os)
  have HDB : Hid (∀ n os, Calls _ _ _ (grow (w1.drewN n) os) _) := fun n os => Digits_gr (b - 1) (by omega) (by omega) (grow (w1.drewN n) os) (Pow.grown hp1 n os)
  have k0 : ∀ n os, (grow (w1.drewN n) os).cell? ⟨w.heap.size, 0, none⟩ = some (.int .i64 a) := fun n os => (HPB.out.grown n os).c0
  have k1 : ∀ n os, (grow (w1.drewN n) os).cell? ⟨w.heap.size, 1, none⟩ = some (.int .i64 b) := fun n os => (HPB.out.grown n os).c1
  have lA := Lib.itoa_length_le a a0 a1
  have lB := Lib.itoa_length_le (b - 1) (by omega) (by omega)
  have HE : Hid (str (extR (a, b)) = str (Lib.itoa a) ++ ⟨#[45]⟩ ++ str (Lib.itoa (b - 1))) := (by
    unfold extR
    rw [show (⟨#[45]⟩ : ByteArray) = str [45] from rfl, str_app, str_app] : _ = _)
  rw [← str_size] at lA lB
  have hwr : IntKind.i64.wrap (b - 1) = b - 1 := by rw [IntKind.wrap_i64]; omega
  clear hp hp1
  generalize str (extR (a, b)) = E at *
  generalize str (Lib.itoa a) = A at *
  generalize str (Lib.itoa (b - 1)) = B at *
  have hk : (⟨#[45]⟩ : ByteArray).size = 1 := rfl
  have hmx := mixO
  go_enter Tryz.func57, Tryz.ntmps57
  go_wp2_with fail
  rw [← hw1]
  clear hw1
  generalize w.heap.size = g at *
  generalize (⟨#[45]⟩ : ByteArray) = K at *
  have hs1 : ¬ (9223372036854775807 < A.size + K.size) := by omega
  have hs2 : ¬ (9223372036854775807 < A.size + K.size + B.size) := by omega
  clear hk
  go_quiet_grown (first | (go_at_call 25; with_reducible (refine Calls.grown_of (HDA.out _ _))) | (go_at_call 25; with_reducible (refine Calls.grown_of (HDB.out _ _))))
  go_wp2
  go_ret
  exact ⟨ret_string HE.out.symm, HB1.out.trans ⟨nq, osq, rfl⟩⟩

set_option maxRecDepth 100000 in
set_option maxHeartbeats 1000000 in
theorem Tell_gr (a b size : Int) (a0 : -9223372036854775808 ≤ a) (a1 : a ≤ 9223372036854775807) (b0 : -9223372036854775808 ≤ b) (b1 : b ≤ 9223372036854775807) (s0 : -9223372036854775808 ≤ size) (s1 : size ≤ 9223372036854775807) (w : World) (hp : Pow w) :
    Calls Tryz.prog 32 #[.agg #[.int .i64 a, .int .i64 b], .int .i64 size] w fun e w' => e = .returned (.tuple #[.string (str (telR (a, b) size).1), .int .i64 (telR (a, b) size).2]) ∧ ∃ q os, w' = grow (w.drewN q) os := by
  obtain ⟨w1, hw1⟩ : ∃ w1, w1 = w.alloc (.cells #[.int .i64 a, .int .i64 b] 38) := ⟨_, rfl⟩
  have HPB : Hid (PB 38 w1 w.heap.size (a, b)) := (by rw [hw1]; exact heap_alloc_new w _ : PB _ _ _ _)
  have HB1 : Hid (Grew w w1) := (by rw [hw1]; exact (Grew.refl w).alloc _ : Grew _ _)
  have hp1 : Pow w1 := Oc.Pow.below hp HB1.out.below (Nat.le_refl _)
  have HPW : Hid (Pow w1) := hp1
  have HI : Hid (∀ W, Calls _ _ _ W _) := fun W => isSpan_gr a b size W
  have q0 := HPB.out.c0
  have q1 := HPB.out.c1
  cases hsp : isSp (a, b) size with
  | false =>
    rw [hsp] at HI
    have HT : Hid (telR (a, b) size = ([], 91)) := (by unfold telR; rw [hsp]; rfl : telR (a, b) size = _)
    clear hsp
    go_enter Tryz.func32, Tryz.ntmps32
    go_wp2_with fail
    rw [← hw1]
    refine (HI.out _).mono ?_
    rintro e w3 ⟨rfl, hg3⟩
    have HG3 : Hid (Grew w1 w3) := hg3
    clear hg3
    go_wp2
    go_ret2
    rw [HT.out]
    exact ⟨rfl, HB1.out.trans HG3.out⟩
  | true =>
    rw [hsp] at HI
    obtain ⟨e0, e1, e2⟩ := isSp_t hsp
    have HX : Hid (∀ W, Pow W → Calls _ _ _ W _) := fun W h => extent_gr a b a0 a1 (by omega) b1 W h
    have HD : Hid (∀ W, Pow W → Calls _ _ _ W _) := fun W h => Digits_gr size s0 s1 W h
    have HT : Hid (telR (a, b) size = ([98, 121, 116, 101, 115, 32] ++ extR (a, b) ++ [47] ++ Lib.itoa size, 0)) := (by unfold telR; rw [if_pos hsp] : telR (a, b) size = _)
    have HE : Hid (str ([98, 121, 116, 101, 115, 32] ++ extR (a, b) ++ [47] ++ Lib.itoa size) = ⟨#[98, 121, 116, 101, 115, 32]⟩ ++ str (extR (a, b)) ++ ⟨#[47]⟩ ++ str (Lib.itoa size)) := (by
      rw [show (⟨#[98, 121, 116, 101, 115, 32]⟩ : ByteArray) = str [98, 121, 116, 101, 115, 32] from rfl, show (⟨#[47]⟩ : ByteArray) = str [47] from rfl, str_app, str_app, str_app] : _ = _)
    have lX := extR_len (a, b) a0 a1 (by show -9223372036854775808 < b; omega) b1
    have lD := Lib.itoa_length_le size s0 s1
    rw [← str_size] at lX lD
    clear hsp
    generalize str (extR (a, b)) = X at *
    generalize str (Lib.itoa size) = D at *
    have hk1 : (⟨#[98, 121, 116, 101, 115, 32]⟩ : ByteArray).size = 6 := rfl
    have hk2 : (⟨#[47]⟩ : ByteArray).size = 1 := rfl
    go_enter Tryz.func32, Tryz.ntmps32
    generalize (⟨#[98, 121, 116, 101, 115, 32]⟩ : ByteArray) = K1 at *
    generalize (⟨#[47]⟩ : ByteArray) = K2 at *
    have hs1 : K1.size + X.size ≤ 9223372036854775807 := by omega
    have hs2 : K1.size + X.size + K2.size ≤ 9223372036854775807 := by omega
    have hs3 : K1.size + X.size + K2.size + D.size ≤ 9223372036854775807 := by omega
    clear hk1 hk2
    go_wp2_with fail
    rw [← hw1]
    clear hw1
    refine (HI.out _).mono ?_
    rintro e w3 ⟨rfl, hg3⟩
    have HG3 : Hid (Grew w1 w3) := hg3
    have hp3 := HPB.out.below HG3.out.below
    have r0 := hp3.c0
    have r1 := hp3.c1
    clear hg3 hp3 q0 q1
    go_wp2_with fail
    refine (HX.out _ (Oc.Pow.below HPW.out HG3.out.below (Nat.le_refl _))).mono ?_
    rintro e w4 ⟨rfl, hg4⟩
    have HG4 : Hid (Grew w1 w4) := HG3.out.trans hg4
    clear hg4
    go_wp2_with fail
    refine (HD.out _ (Oc.Pow.below HPW.out HG4.out.below (Nat.le_refl _))).mono ?_
    rintro e w5 ⟨rfl, hg5⟩
    have HG5 : Hid (Grew w w5) := HB1.out.trans (HG4.out.trans hg5)
    clear hg5
    go_wp2
    go_ret2
    rw [HT.out]
    dsimp only
    rw [HE.out]
    exact ⟨rfl, HG5.out⟩

set_option maxRecDepth 100000 in
set_option maxHeartbeats 1000000 in
theorem Cut_gr (s : ByteArray) (hs : s.size ≤ 9223372036854775807) (a b : Int) (w : World) :
    Calls Tryz.prog 19 #[.string s, .agg #[.int .i64 a, .int .i64 b]] w fun e w' => e = .returned (.tuple #[.string (str (cutR s.data.toList (a, b)).1), .int .i64 (cutR s.data.toList (a, b)).2]) ∧ ∃ q os, w' = grow (w.drewN q) os := by
  obtain ⟨w1, hw1⟩ : ∃ w1, w1 = w.alloc (.cells #[.int .i64 a, .int .i64 b] 38) := ⟨_, rfl⟩
  have HPB : Hid (PB 38 w1 w.heap.size (a, b)) := (by rw [hw1]; exact heap_alloc_new w _ : PB _ _ _ _)
  have HB1 : Hid (Grew w w1) := (by rw [hw1]; exact (Grew.refl w).alloc _ : Grew _ _)
  have HI : Hid (∀ W, Calls _ _ _ W _) := fun W => isSpan_gr a b s.size W
  have q0 := HPB.out.c0
  have q1 := HPB.out.c1
  have hl : s.data.toList.length = s.size := size_list s
  cases hsp : isSp (a, b) s.size with
  | false =>
    rw [hsp] at HI
    have HT : Hid (cutR s.data.toList (a, b) = ([], 91)) := (by unfold cutR; rw [hl, hsp]; rfl : cutR s.data.toList (a, b) = _)
    clear hsp hl
    go_enter Tryz.func19, Tryz.ntmps19
    go_wp2_with fail
    rw [← hw1]
    refine (HI.out _).mono ?_
    rintro e w3 ⟨rfl, hg3⟩
    have HG3 : Hid (Grew w1 w3) := hg3
    clear hg3
    go_wp2
    go_ret2
    rw [HT.out]
    exact ⟨rfl, HB1.out.trans HG3.out⟩
  | true =>
    rw [hsp] at HI
    obtain ⟨e0, e1, e2⟩ := isSp_t hsp
    have HT : Hid (cutR s.data.toList (a, b) = ((s.data.toList.drop a.toNat).take (b.toNat - a.toNat), 0)) := (by unfold cutR; rw [hl, if_pos hsp] : cutR s.data.toList (a, b) = _)
    have HX : Hid (str ((s.data.toList.drop a.toNat).take (b.toNat - a.toNat)) = s.extract a.toNat b.toNat) := (by rw [← Lib.extract_data, str_self] : _ = _)
    clear hsp hl
    go_enter Tryz.func19, Tryz.ntmps19
    go_wp2_with fail
    rw [← hw1]
    clear hw1
    refine (HI.out _).mono ?_
    rintro e w3 ⟨rfl, hg3⟩
    have HG3 : Hid (Grew w1 w3) := hg3
    have hp3 := HPB.out.below HG3.out.below
    have r0 := hp3.c0
    have r1 := hp3.c1
    clear hg3 hp3 q0 q1
    go_wp2
    go_ret2
    rw [HT.out]
    dsimp only
    rw [HX.out]
    exact ⟨rfl, HB1.out.trans HG3.out⟩

end Sn
end Go.Proofs.YthdfgepnadgkjaaGreatDoor

/-
  span, plainly: what a content range says.
-/
set_option linter.unusedVariables false
set_option linter.unusedSimpArgs false
namespace Go.Proofs.YthdfgepnadgkjaaGreatDoor
open Go.RowKit Go.Shelf
namespace Sn
open Oc Tg Ac

/-- A number as it is printed. -/
def pln (l : List UInt8) : Int × Bool := ((numR 10 l 4611686018427387904).1, decide ((numR 10 l 4611686018427387904).2 = 0) && decide (Lib.itoa (numR 10 l 4611686018427387904).1 = l))
theorem pln_bd (l : List UInt8) : 0 ≤ (pln l).1 ∧ (pln l).1 ≤ 4611686018427387904 := by
  have := numR_bd l 4611686018427387904 (by omega)
  exact ⟨this.1, this.2.1⟩
theorem pln_bad {l : List UInt8} (h : (numR 10 l 4611686018427387904).2 ≠ 0) : (pln l).2 = false := by unfold pln; simp [h]
theorem pln_nil : (pln []).2 = false := pln_bad (by decide +kernel)
theorem pln_star : (pln [42]).2 = false := pln_bad (by decide +kernel)
/-- A first and a last byte. -/
def exP (l : List UInt8) : Sp × Bool := (((pln (cutA 45 l)).1, (pln (cutB 45 l)).1 + 1), ((pln (cutA 45 l)).2 && (pln (cutB 45 l)).2) && decide ((pln (cutA 45 l)).1 ≤ (pln (cutB 45 l)).1))
/-- What stands behind the unit. -/
def tolS (s : List UInt8) : Sp × Int × Int :=
  if ((exP (cutA 47 s)).2 && (pln (cutB 47 s)).2) && isSp (exP (cutA 47 s)).1 (pln (cutB 47 s)).1 then ((exP (cutA 47 s)).1, (pln (cutB 47 s)).1, 0)
  else if (exP (cutA 47 s)).2 && decide (cutB 47 s = [42]) then ((exP (cutA 47 s)).1, -1, 0)
  else if decide (cutA 47 s = [42]) && (pln (cutB 47 s)).2 then ((0, 0), (pln (cutB 47 s)).1, 0)
  else ((0, 0), 0, 90)
/-- What a content range says. -/
def tolR (l : List UInt8) : Sp × Int × Int := if cutA 32 l = [98, 121, 116, 101, 115] then tolS (cutB 32 l) else ((0, 0), 0, 90)

theorem exP_nodash {l : List UInt8} (h : has 45 l = false) : (exP l).2 = false := by
  unfold exP
  rw [cutB_none 45 l h]
  dsimp only
  rw [pln_nil]
  simp
theorem exP_star : (exP [42]).2 = false := exP_nodash (by decide)
theorem tolS_noslash {s : List UInt8} (h : has 47 s = false) : tolS s = ((0, 0), 0, 90) := by
  unfold tolS
  rw [cutB_none 47 s h, pln_nil]
  simp
theorem tolS_star0 {s : List UInt8} (h : cutA 47 s = [42]) (hk : (pln (cutB 47 s)).2 = false) : tolS s = ((0, 0), 0, 90) := by
  unfold tolS
  rw [h, exP_star, hk]
  simp
theorem tolS_star1 {s : List UInt8} (h : cutA 47 s = [42]) (hk : (pln (cutB 47 s)).2 = true) : tolS s = ((0, 0), (pln (cutB 47 s)).1, 0) := by
  unfold tolS
  rw [h, exP_star, hk]
  simp
theorem tolS_bad {s : List UInt8} (h : cutA 47 s ≠ [42]) (hk : (exP (cutA 47 s)).2 = false) : tolS s = ((0, 0), 0, 90) := by
  unfold tolS
  rw [hk]
  simp [h]
theorem tolS_un {s : List UInt8} (h : cutA 47 s ≠ [42]) (hk : (pln (cutB 47 s)).2 = false) (hw : cutB 47 s ≠ [42]) : tolS s = ((0, 0), 0, 90) := by
  unfold tolS
  rw [hk]
  simp [h, hw]
theorem tolS_far {s : List UInt8} (h : cutA 47 s ≠ [42]) (hk : (pln (cutB 47 s)).2 = true) (hb : (pln (cutB 47 s)).1 ≤ (pln (cutB 45 (cutA 47 s))).1) : tolS s = ((0, 0), 0, 90) := by
  have hw : cutB 47 s ≠ [42] := fun e => by rw [e, pln_star] at hk; cases hk
  have hi : isSp (exP (cutA 47 s)).1 (pln (cutB 47 s)).1 = false := by
    unfold isSp exP
    rw [decide_eq_false]
    dsimp only
    omega
  unfold tolS
  rw [hi]
  simp [h, hw]
theorem tolS_ok {s : List UInt8} (he : (exP (cutA 47 s)).2 = true) (hk : (pln (cutB 47 s)).2 = true) (hb : (pln (cutB 45 (cutA 47 s))).1 < (pln (cutB 47 s)).1) : tolS s = ((exP (cutA 47 s)).1, (pln (cutB 47 s)).1, 0) := by
  have h1 := (pln_bd (cutA 45 (cutA 47 s))).1
  have hle : (pln (cutA 45 (cutA 47 s))).1 ≤ (pln (cutB 45 (cutA 47 s))).1 := by
    unfold exP at he
    simp only [Bool.and_eq_true, decide_eq_true_eq] at he
    exact he.2
  have hi : isSp (exP (cutA 47 s)).1 (pln (cutB 47 s)).1 = true := by
    unfold isSp exP
    rw [decide_eq_true]
    dsimp only
    omega
  unfold tolS
  rw [hi, he, hk]
  simp
theorem tolS_any {s : List UInt8} (he : (exP (cutA 47 s)).2 = true) (hk : (pln (cutB 47 s)).2 = false) (hw : cutB 47 s = [42]) : tolS s = ((exP (cutA 47 s)).1, -1, 0) := by
  unfold tolS
  rw [he, hk, hw]
  simp
theorem tolR_six {l : List UInt8} (h : l.take 6 = [98, 121, 116, 101, 115, 32]) : tolR l = tolS (l.drop 6) := by
  have hl : l = [98, 121, 116, 101, 115, 32] ++ l.drop 6 := by
    conv => lhs; rw [← List.take_append_drop 6 l]
    rw [h]
  generalize l.drop 6 = r at *
  subst hl
  unfold tolR
  rw [show cutA 32 ([98, 121, 116, 101, 115, 32] ++ r) = [98, 121, 116, 101, 115] by simp [cutA], show cutB 32 ([98, 121, 116, 101, 115, 32] ++ r) = r by simp [cutB], if_pos rfl]
theorem tolR_not {l : List UInt8} (h : l.take 6 ≠ [98, 121, 116, 101, 115, 32]) : tolR l = ((0, 0), 0, 90) := by
  unfold tolR
  split
  · rename_i e
    cases hh : has 32 l with
    | false =>
      rw [cutB_none 32 l hh]
      decide +kernel
    | true =>
      exfalso
      apply h
      have h2 := cut_app 32 l hh
      rw [e] at h2
      rw [← h2]
      rfl
  · rfl

end Sn
end Go.Proofs.YthdfgepnadgkjaaGreatDoor
