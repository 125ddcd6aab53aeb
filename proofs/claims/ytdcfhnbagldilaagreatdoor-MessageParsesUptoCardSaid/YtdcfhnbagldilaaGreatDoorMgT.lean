import Derived.Test.YtdcfhnbagldilaaGreatDoorMgS
import Derived.Test.YtdcfhnbagldilaaGreatDoorMgK
import Derived.Test.YtdcfhnbagldilaaGreatDoorMgL
import Derived.Lib.AppendZeros
import Derived.Test.YtdcfhnbagldilaaGreatDoorMgI
set_option linter.unusedVariables false
set_option linter.unusedSimpArgs false
set_option maxRecDepth 100000
namespace Go.Proofs.YtdcfhnbagldilaaGreatDoor
open Go.RowKit Go.Shelf
namespace Ms
open Oc Tg _root_.Go.Proofs.YtdcfhnbagldilaaGreatDoor.Fd _root_.Go.Proofs.YtdcfhnbagldilaaGreatDoor.Ck
theorem dec_bd (l : List UInt8) : 0 ≤ (dec l).1 ∧ (dec l).1 ≤ 1099511627776 := by
  have h0 : 0 ≤ numOf 10 l := by
    have := pre_nonneg 10 (by decide) (str l) (str l).size (Nat.le_refl _)
    rw [pre_all, str_list] at this
    exact this
  unfold dec numR
  split
  · exact ⟨by decide, by decide⟩
  · split
    · exact ⟨by decide, by decide⟩
    · rename_i h
      exact ⟨h0, by show numOf 10 l ≤ _; omega⟩
theorem length_bd (t : List Fl) : 0 ≤ (lengthF t).1 ∧ (lengthF t).1 ≤ 1099511627776 := by
  unfold lengthF lenL
  repeat' split
  all_goals first | exact dec_bd _ | exact ⟨by decide, by decide⟩
theorem framing_bd (t : List Fl) (old : Bool) : 0 ≤ (framingF t old).2.1 ∧ (framingF t old).2.1 ≤ 1099511627776 := by
  have := length_bd t
  unfold framingF frame
  repeat' split
  all_goals first | exact this | exact ⟨by decide, by decide⟩
def LenOk (s : HS) : Prop := s.headed = true → ∃ n : Nat, s.len = (n : Int) ∧ n ≤ 1099511627776
theorem hTake_len {s : HS} (h : LenOk s) (u : UInt8) (a : Nat) : LenOk (hTake s u a).1 := by
  have hh : ∀ s : HS, LenOk s → ∀ a, LenOk (hHead s a).1 := fun s h a => by
    unfold hHead
    split
    · exact h
    · intro _
      have := framing_bd s.fs (s.minor == 0)
      exact ⟨(framingF s.fs (s.minor == 0)).2.1.toNat, by show (framingF s.fs (s.minor == 0)).2.1 = _; omega, by omega⟩
  have hf : ∀ s : HS, LenOk s → ∀ l a, LenOk (hField s l a).1 := fun s h l a => by
    unfold hField
    repeat' split
    all_goals exact h
  unfold hTake
  split
  · exact h
  split
  · exact h
  split
  · unfold hEnd
    split
    · exact h
    split
    · exact hh (hNew s) h _
    · exact hf (hNew s) h _ _
  split
  · exact h
  · exact h
theorem hRun_len : ∀ (l : List UInt8) (s : HS), LenOk s → LenOk (hRun s l).1
  | [], s, h => h
  | u :: t, s, h => by
    unfold hRun
    split
    · exact h
    · have h1 := hTake_len (s := hNext s t) h u s.used
      split
      · exact h1
      · exact hRun_len t _ h1
theorem hRun_ok : ∀ (l : List UInt8) (s : HS), HOk s → (hRun s l).2 = 0 → HOk (hRun s l).1
  | [], s, h, _ => h
  | u :: t, s, h, he => by
    unfold hRun at he ⊢
    by_cases hh : s.headed = true
    · rw [if_pos hh]
      exact h
    · rw [if_neg hh] at he ⊢
      by_cases hz : (hTake (hNext s t) u s.used).2 ≠ 0
      · rw [if_pos hz] at he
        exact absurd he hz
      · rw [if_neg hz] at he ⊢
        exact hRun_ok t _ (h.next t u (by simpa using hz)) he
theorem hRun_piece : ∀ (l : List UInt8) (s : HS), s.piece = l → (hRun s l).1.piece.length ≤ l.length
  | [], s, h => by show s.piece.length ≤ _; rw [h]; exact Nat.le_refl _
  | u :: t, s, h => by
    unfold hRun
    split
    · show s.piece.length ≤ _
      rw [h]
      exact Nat.le_refl _
    · have h1 : (hTake (hNext s t) u s.used).1.piece = t := (hTake_piece _ _ _).1
      split
      · rw [h1]
        simp
      · have := hRun_piece t _ h1
        simp only [List.length_cons]
        omega
theorem div100 (n : Int) (k : Int) (hk : 0 < k) : (n.tdiv 100 == k) = decide (100 * k ≤ n ∧ n ≤ 100 * k + 99) := by
  rw [Bool.eq_iff_iff, beq_iff_eq, decide_eq_true_iff]
  rcases Int.le_total 0 n with h | h
  · rw [Int.tdiv_eq_ediv_of_nonneg h]
    omega
  · have : n.tdiv 100 ≤ 0 := by
      have h2 := Int.tdiv_nonneg (a := -n) (b := 100) (by omega) (by omega)
      rw [Int.neg_tdiv] at h2
      omega
    omega
def i64 (n : Int) : Prop := -9223372036854775808 ≤ n ∧ n ≤ 9223372036854775807
theorem div_in {n : Int} (h : i64 n) : wrap64 (n.tdiv 100) = n.tdiv 100 := by
  obtain ⟨h1, h2⟩ := h
  have h3 : -9223372036854775808 ≤ n.tdiv 100 ∧ n.tdiv 100 ≤ 9223372036854775807 := by
    rcases Int.le_total 0 n with h | h
    · rw [Int.tdiv_eq_ediv_of_nonneg h]
      omega
    · have e : n.tdiv 100 = -((-n) / 100) := by
        rw [← Int.tdiv_eq_ediv_of_nonneg (show 0 ≤ -n by omega), Int.neg_tdiv, Int.neg_neg]
      rw [e]
      omega
  unfold wrap64
  omega
set_option maxHeartbeats 1000000 in
theorem isInformal_any (n : Int) (hn : i64 n) (w : World) : Calls Tryz.prog 90 #[.int .i64 n] w fun e w' => e = .returned (.bool (inf n)) ∧ w' = w := by
  have HQ : Hid ((wrap64 (n.tdiv 100) == 1) = inf n) := (by rw [div_in hn]; exact div100 n 1 (by omega) : _ = _)
  generalize inf n = b at *
  go_enter Tryz.func90, Tryz.ntmps90
  go_wp2
  go_ret
  exact ⟨by rw [← HQ.out]; rfl, rfl⟩
set_option maxHeartbeats 1000000 in
theorem isSuccess_any (n : Int) (hn : i64 n) (w : World) : Calls Tryz.prog 97 #[.int .i64 n] w fun e w' => e = .returned (.bool (decide (200 ≤ n ∧ n ≤ 299))) ∧ w' = w := by
  have HQ : Hid ((wrap64 (n.tdiv 100) == 2) = decide (200 ≤ n ∧ n ≤ 299)) := (by rw [div_in hn]; exact div100 n 2 (by omega) : _ = _)
  generalize decide (200 ≤ n ∧ n ≤ 299) = b at *
  go_enter Tryz.func97, Tryz.ntmps97
  go_wp2
  go_ret
  exact ⟨by rw [← HQ.out]; rfl, rfl⟩
set_option maxHeartbeats 1000000 in
theorem neverBody_any (n : Int) (hn : i64 n) (w : World) : Calls Tryz.prog 61 #[.int .i64 n] w fun e w' => e = .returned (.bool (nvr n)) ∧ w' = w := by
  have HI : Hid (Calls _ _ _ _ _) := isInformal_any n hn w
  have HQ : Hid (nvr n = (inf n || (n == 204 || n == 304))) := rfl
  generalize nvr n = R at *
  generalize inf n = b at *
  go_enter Tryz.func61, Tryz.ntmps61
  go_wp2_with fail
  refine HI.out.mono ?_
  rintro e w' ⟨rfl, hw⟩
  rw [hw]
  cases b with
  | true =>
    go_wp2
    go_ret
    exact ⟨by rw [HQ.out]; rfl, rfl⟩
  | false =>
    by_cases h4 : n = 204
    · subst h4
      go_wp2
      go_ret
      exact ⟨by rw [HQ.out]; rfl, rfl⟩
    · have h4' : (n == 204) = false := by simp [h4]
      go_wp2
      go_ret
      exact ⟨by rw [HQ.out, h4']; rfl, rfl⟩
set_option maxHeartbeats 1000000 in
theorem tunnels_any (m : ByteArray) (n : Int) (hn : i64 n) (w : World) : Calls Tryz.prog 62 #[.string m, .int .i64 n] w fun e w' => e = .returned (.bool (tun m.data.toList n)) ∧ w' = w := by
  have HI : Hid (Calls _ _ _ _ _) := isSuccess_any n hn w
  have HQ : Hid (tun m.data.toList n = (decide (m.data.toList = [67, 79, 78, 78, 69, 67, 84]) && decide (200 ≤ n ∧ n ≤ 299))) := rfl
  generalize tun m.data.toList n = R at *
  generalize decide (200 ≤ n ∧ n ≤ 299) = b at *
  by_cases hm : m.data.toList = [67, 79, 78, 78, 69, 67, 84]
  · have hm' : (m.toList == [67, 79, 78, 78, 69, 67, 84]) = true := by rw [ByteArray.toList_eq, hm]; rfl
    rw [decide_eq_true hm] at HQ
    clear hm
    go_enter Tryz.func62, Tryz.ntmps62
    go_wp2_with fail
    refine HI.out.mono ?_
    rintro e w' ⟨rfl, hw⟩
    rw [hw]
    go_wp2
    go_ret
    exact ⟨by rw [HQ.out]; rfl, rfl⟩
  · have hm' : (m.toList == [67, 79, 78, 78, 69, 67, 84]) = false := by rw [ByteArray.toList_eq]; simpa using hm
    rw [decide_eq_false hm] at HQ
    clear hm
    go_enter Tryz.func62, Tryz.ntmps62
    go_wp2
    go_ret
    exact ⟨by rw [HQ.out]; rfl, rfl⟩
set_option maxHeartbeats 1000000 in
theorem Bodyless_any (m : ByteArray) (n : Int) (hn : i64 n) (w : World) : Calls Tryz.prog 24 #[.string m, .int .i64 n] w fun e w' => e = .returned (.bool (bdl m.data.toList n)) ∧ w' = w := by
  have HI : Hid (∀ W, Calls _ _ _ W _) := fun W => neverBody_any n hn W
  have HU : Hid (∀ W, Calls _ _ _ W _) := fun W => tunnels_any m n hn W
  have HQ : Hid (bdl m.data.toList n = (nvr n || (decide (m.data.toList = [72, 69, 65, 68]) || tun m.data.toList n))) := rfl
  generalize bdl m.data.toList n = R at *
  generalize nvr n = b at *
  generalize tun m.data.toList n = t at *
  go_enter Tryz.func24, Tryz.ntmps24
  go_wp2_with fail
  refine (HI.out _).mono ?_
  rintro e w' ⟨rfl, hw⟩
  rw [hw]
  clear hw
  cases b with
  | true =>
    go_wp2
    go_ret
    exact ⟨by rw [HQ.out]; rfl, rfl⟩
  | false =>
    by_cases hm : m.data.toList = [72, 69, 65, 68]
    · have hm' : (m.toList == [72, 69, 65, 68]) = true := by rw [ByteArray.toList_eq, hm]; rfl
      rw [decide_eq_true hm] at HQ
      clear hm
      go_wp2
      go_ret
      exact ⟨by rw [HQ.out]; rfl, rfl⟩
    · have hm' : (m.toList == [72, 69, 65, 68]) = false := by rw [ByteArray.toList_eq]; simpa using hm
      rw [decide_eq_false hm] at HQ
      clear hm
      go_wp2_with fail
      refine (HU.out _).mono ?_
      rintro e w' ⟨rfl, hw⟩
      rw [hw]
      go_wp2
      go_ret
      exact ⟨by rw [HQ.out]; rfl, rfl⟩
end Ms
end Go.Proofs.YtdcfhnbagldilaaGreatDoor
set_option linter.unusedVariables false
set_option linter.unusedSimpArgs false
set_option maxRecDepth 100000
namespace Go.Proofs.YtdcfhnbagldilaaGreatDoor
open Go.RowKit Go.Shelf
namespace Ms
open Oc Tg _root_.Go.Proofs.YtdcfhnbagldilaaGreatDoor.Fd _root_.Go.Proofs.YtdcfhnbagldilaaGreatDoor.Ck
def isSt (n : Int) : Bool := decide (100 ≤ n ∧ n ≤ 599)
def isRs (l : List UInt8) : Bool := decide (l.length ≤ 256) && isFld l
set_option maxHeartbeats 1000000 in
theorem isStatus_any (n : Int) (w : World) : Calls Tryz.prog 43 #[.int .i64 n] w fun e w' => e = .returned (.bool (isSt n)) ∧ w' = w := by
  obtain ⟨R, hR⟩ : ∃ R, R = isSt n := ⟨_, rfl⟩
  rw [← hR]
  have HR : Hid (R = decide (100 ≤ n ∧ n ≤ 599)) := hR
  clear hR
  by_cases h1 : 100 ≤ n
  · have HQ : Hid (R = decide (n ≤ 599)) := (by rw [HR.out]; simp [h1] : _ = _)
    go_enter Tryz.func43, Tryz.ntmps43
    go_wp2
    go_ret
    exact ⟨by rw [HQ.out]; rfl, rfl⟩
  · have HQ : Hid (R = false) := (by rw [HR.out]; simp [h1] : _ = _)
    go_enter Tryz.func43, Tryz.ntmps43
    go_wp2
    go_ret
    exact ⟨by rw [HQ.out]; rfl, rfl⟩
set_option maxHeartbeats 1000000 in
theorem isReason_any (s : ByteArray) (hs : s.size ≤ 4000000000) (w : World) : Calls Tryz.prog 44 #[.string s] w fun e w' => e = .returned (.bool (isRs s.data.toList)) ∧ Below w.heap.size w w' := by
  have HI : Hid (Calls _ _ _ _ _) := IsField_any s (by unfold maxLen; omega) w
  have HQ : Hid (isRs s.data.toList = (decide (s.size ≤ 256) && isFld s.data.toList)) := (by unfold isRs; rw [size_list] : _ = _)
  generalize isRs s.data.toList = R at *
  generalize isFld s.data.toList = b at *
  by_cases h1 : s.size ≤ 256
  · have h1' : (s.size : Int) ≤ 256 := by omega
    rw [decide_eq_true h1] at HQ
    clear h1
    go_enter Tryz.func44, Tryz.ntmps44
    go_wp2_with fail
    refine HI.out.mono ?_
    rintro e w' ⟨rfl, hb⟩
    have HB : Hid (Below w.heap.size w w') := hb
    clear hb
    go_wp2
    go_ret
    exact ⟨by rw [HQ.out]; rfl, HB.out⟩
  · have h1' : ¬ (s.size : Int) ≤ 256 := by omega
    rw [decide_eq_false h1] at HQ
    clear h1
    go_enter Tryz.func44, Tryz.ntmps44
    go_wp2
    go_ret
    exact ⟨by rw [HQ.out]; rfl, Below.refl _ _⟩
def nCn : List UInt8 := [67, 111, 110, 110, 101, 99, 116, 105, 111, 110]
def frI (x : List UInt8) (n : Int) : Bool := decide (lower x = lower nCL) || (decide (lower x = lower nTE) || (decide (lower x = lower nCn) && n != 101))
theorem Same_l (a b : List UInt8) (ha : a.length ≤ maxLen) (hb : b.length ≤ maxLen) (w : World) :
    Calls Tryz.prog 86 #[.string (str a), .string (str b)] w fun e w' => e = .returned (.bool (decide (lower a = lower b))) ∧ Below w.heap.size w w' := by
  have h := Same_any (str a) (str b) (by rw [str_size]; exact ha) (by rw [str_size]; exact hb) w
  rw [low_alike a b] at h
  exact h
set_option maxHeartbeats 2000000 in
theorem framesItself_any (x : List UInt8) (hx : x.length ≤ maxLen) (n : Int) (w : World) : Calls Tryz.prog 47 #[.string (str x), .int .i64 n] w fun e w' => e = .returned (.bool (frI x n)) ∧ Below w.heap.size w w' := by
  have H1 : Hid (∀ W, Calls Tryz.prog 86 #[.string (str x), .string ⟨#[67, 111, 110, 116, 101, 110, 116, 45, 76, 101, 110, 103, 116, 104]⟩] W fun e w' => e = .returned (.bool (decide (lower x = lower nCL))) ∧ Below (World.heap W).size W w') := fun W => Same_l x nCL hx (by decide) W
  have H2 : Hid (∀ W, Calls Tryz.prog 86 #[.string (str x), .string ⟨#[84, 114, 97, 110, 115, 102, 101, 114, 45, 69, 110, 99, 111, 100, 105, 110, 103]⟩] W fun e w' => e = .returned (.bool (decide (lower x = lower nTE))) ∧ Below (World.heap W).size W w') := fun W => Same_l x nTE hx (by decide) W
  have H3 : Hid (∀ W, Calls Tryz.prog 86 #[.string (str x), .string ⟨#[67, 111, 110, 110, 101, 99, 116, 105, 111, 110]⟩] W fun e w' => e = .returned (.bool (decide (lower x = lower nCn))) ∧ Below (World.heap W).size W w') := fun W => Same_l x nCn hx (by decide) W
  have HQ : Hid (frI x n = (decide (lower x = lower nCL) || (decide (lower x = lower nTE) || (decide (lower x = lower nCn) && n != 101)))) := rfl
  generalize frI x n = R at *
  generalize decide (lower x = lower nCL) = b1 at *
  generalize decide (lower x = lower nTE) = b2 at *
  generalize decide (lower x = lower nCn) = b3 at *
  generalize str x = X at *
  go_enter Tryz.func47, Tryz.ntmps47
  go_wp2_with fail
  refine (H1.out _).mono ?_
  rintro e w1 ⟨rfl, hb1⟩
  have HB1 : Hid (Below w.heap.size w w1) := hb1
  clear hb1
  cases b1 with
  | true =>
    go_wp2
    go_ret
    exact ⟨by rw [HQ.out]; rfl, HB1.out⟩
  | false =>
    go_wp2_with fail
    refine (H2.out _).mono ?_
    rintro e w2 ⟨rfl, hb2⟩
    have HB2 : Hid (Below w.heap.size w w2) := bel_trans HB1.out hb2
    clear hb2
    cases b2 with
    | true =>
      go_wp2
      go_ret
      exact ⟨by rw [HQ.out]; rfl, HB2.out⟩
    | false =>
      go_wp2_with fail
      refine (H3.out _).mono ?_
      rintro e w3 ⟨rfl, hb3⟩
      have HB3 : Hid (Below w.heap.size w w3) := bel_trans HB2.out hb3
      clear hb3
      cases b3 with
      | true =>
        go_wp2
        go_ret
        exact ⟨by rw [HQ.out]; rfl, HB3.out⟩
      | false =>
        go_wp2
        go_ret
        exact ⟨by rw [HQ.out]; rfl, HB3.out⟩
set_option maxHeartbeats 2000000 in
theorem Head1_any (p : Fl) (hp : p.1.length ≤ maxLen) (n : Int) (B : Nat) (w : World) (hB : B < w.heap.size) (hc : w.cell? ⟨B, 0, none⟩ = some (.int .i64 n)) :
    Calls Tryz.prog 46 #[.agg #[.string (str p.1), .string (str p.2)], .pointer (some ⟨B, 0, none⟩)] w fun e w' => e = .returned (.bool (frI p.1 n)) ∧ Below w.heap.size w w' := by
  have HF : Hid (∀ W, Calls _ _ _ W _) := fun W => framesItself_any p.1 hp n W
  generalize str p.1 = X at *
  generalize str p.2 = Y at *
  generalize frI p.1 n = R at *
  have hc2 : (w.alloc (.cells #[.string X, .string Y] 47)).cell? ⟨B, 0, none⟩ = some (.int .i64 n) := ((But.refl [] w).alloc _).cell hc (fun e => by cases e)
  go_enter Tryz.func46, Tryz.ntmps46
  go_wp2_with fail
  refine (HF.out _).mono ?_
  rintro e w1 ⟨rfl, hb1⟩
  have HB1 : Hid (Below w.heap.size w w1) := (bel_trans ((Below.refl _ w).alloc (Nat.le_refl _) _) hb1 : Below _ _ _)
  clear hb1
  go_wp2
  go_ret
  exact ⟨rfl, HB1.out⟩
def anyI (t : List Fl) (n : Int) : Bool := t.any (fun p => frI p.1 n)
theorem any_at {t : List Fl} {n : Int} {k : Nat} (hk : k < t.length) (h : frI (nth t k).1 n = true) : anyI t n = true := by
  unfold anyI
  rw [List.any_eq_true]
  refine ⟨nth t k, ?_, h⟩
  unfold nth
  rw [List.getD_eq_getElem?_getD, List.getElem?_eq_getElem hk]
  exact List.getElem_mem _
theorem any_none {t : List Fl} {n : Int} (h : ∀ j, j < t.length → frI (nth t j).1 n = false) : anyI t n = false := by
  unfold anyI
  rw [List.any_eq_false]
  intro p hp
  obtain ⟨j, hj, rfl⟩ := List.mem_iff_getElem.1 hp
  have := h j hj
  unfold nth at this
  rw [List.getD_eq_getElem?_getD, List.getElem?_eq_getElem hj] at this
  simpa using this
set_option maxHeartbeats 2000000 in
theorem ContainsFunc_h (v : Value) (t : List Fl) (hM : Each maxLen t) (hl : t.length ≤ 4294967296) (n : Int) (B : Nat) (w : World) (hrd : RdF v t w) (hc : w.cell? ⟨B, 0, none⟩ = some (.int .i64 n)) :
    Calls Tryz.prog 45 #[v, .func (.func 46) #[] #[.pointer (some ⟨B, 0, none⟩)]] w fun e w' => e = .returned (.bool (anyI t n)) ∧ Below w.heap.size w w' := by
  have HIx : Hid (Calls Tryz.prog 85 #[v, .func (.func 46) #[] #[.pointer (some ⟨B, 0, none⟩)]] w fun e w' => ∃ z : Int, e = .returned (.int .i64 z) ∧ decide (0 ≤ z) = anyI t n ∧ Below w.heap.size w w') := by
    have HR : Hid (RdF v t w) := hrd
    have HC : Hid (w.cell? ⟨B, 0, none⟩ = some (.int .i64 n)) := hc
    have HM : Hid (Each maxLen t) := hM
    obtain ⟨a, c, rfl, _⟩ := hrd
    clear hc hM
    show Calls _ _ _ _ _
    go_enter Tryz.func85, Tryz.ntmps85
    go_wp2
    go_loopw [8] (fun i wr => ∃ k : Nat, k ≤ t.length ∧ i = .int .i64 k ∧ Hid (∀ j, j < k → frI (nth t j).1 n = false) ∧ Hid (Below w.heap.size w wr)) (fun i _ => t.length - (intOf i).toNat)
    case atStart => exact ⟨0, Nat.zero_le _, rfl, (fun j hj => by omega : ∀ j, j < 0 → _), Below.refl _ _⟩
    case round =>
      obtain ⟨k, hk, rfl, hall, hbl⟩ := hrel
      by_cases hlt : k < t.length
      · obtain ⟨a', c', e', hcs⟩ := HR.out.below hbl.out
        injection e' with e1 _ e2
        subst e1 e2
        rcases hcs with h | ⟨g, o, rfl, hlc, hcell⟩
        · rw [h] at hlt; simp at hlt
        obtain ⟨p0, p1⟩ := hcell k hlt
        clear hcell
        have hBl := World.block_lt_of_cell? w _ HC.out
        have HN : Hid (Calls Tryz.prog 46 #[.agg #[.string (str (nth t k).1), .string (str (nth t k).2)], .pointer (some ⟨B, 0, none⟩)] wr fun e w' => e = .returned (.bool (frI (nth t k).1 n)) ∧ Below wr.heap.size wr w') :=
          Head1_any (nth t k) (HM.out.at k hlt).1 n B wr (Nat.lt_of_lt_of_le hBl hbl.out.size) (by rw [hbl.out.cell hBl]; exact HC.out)
        have HT : frI (nth t k).1 n = true → Hid (decide (0 ≤ (k : Int)) = anyI t n) := fun h => (by rw [any_at hlt h]; simp : _ = _)
        have HF : frI (nth t k).1 n = false → Hid (∀ j, j < k + 1 → frI (nth t j).1 n = false) := fun h j hj => by
          by_cases hjk : j = k
          · subst hjk; exact h
          · exact hall.out j (by omega)
        generalize str (nth t k).1 = X at p0 HN
        generalize str (nth t k).2 = Y at p1 HN
        generalize frI (nth t k).1 n = b at HN HT HF
        clear hBl
        cases b with
        | true =>
          have HT2 := HT rfl
          clear HT HF
          go_wp2_with fail
          refine HN.out.mono ?_
          rintro e w2 ⟨rfl, hb2⟩
          have HB2 : Hid (Below w.heap.size w w2) := bel_trans hbl.out hb2
          clear hb2
          go_wp2
          go_ret
          exact ⟨_, rfl, HT2.out, HB2.out⟩
        | false =>
          have HF2 := HF rfl
          clear HT HF
          go_wp2_with fail
          refine HN.out.mono ?_
          rintro e w2 ⟨rfl, hb2⟩
          have HB2 : Hid (Below w.heap.size w w2) := bel_trans hbl.out hb2
          clear hb2
          go_wp2
          go_roundw
          case rel => exact ⟨k + 1, by omega, by go_num, HF2, HB2⟩
          case measure => simp [intOf]; omega
      · have HE : Hid (decide ((0 : Int) ≤ -1) = anyI t n) := (by rw [any_none (fun j hj => hall.out j (by omega))]; rfl : _ = _)
        go_wp2
        go_ret
        exact ⟨_, rfl, HE.out, hbl.out⟩
  generalize anyI t n = R at *
  clear hrd hc hM
  go_enter Tryz.func45, Tryz.ntmps45
  go_wp2_with fail
  refine HIx.out.mono ?_
  rintro e w1 ⟨z, rfl, hz, hb1⟩
  have HZ : Hid (decide (0 ≤ z) = R) := hz
  have HB1 : Hid (Below w.heap.size w w1) := hb1
  clear hz hb1
  go_wp2
  go_ret
  exact ⟨by rw [← HZ.out]; rfl, HB1.out⟩
end Ms
end Go.Proofs.YtdcfhnbagldilaaGreatDoor
set_option linter.unusedVariables false
set_option linter.unusedSimpArgs false
set_option maxRecDepth 100000
namespace Go.Proofs.YtdcfhnbagldilaaGreatDoor
open Go.RowKit Go.Shelf
namespace Ms
open Oc Tg _root_.Go.Proofs.YtdcfhnbagldilaaGreatDoor.Fd _root_.Go.Proofs.YtdcfhnbagldilaaGreatDoor.Ck
set_option maxHeartbeats 2000000 in
theorem Grow_nil (k : Nat) (hk : k ≤ 2147483648) (w : World) :
    Calls Tryz.prog 89 #[.slice none 0 0, .int .i64 (k : Int)] w fun e w' => ∃ v, e = .returned v ∧ OwnF 47 w.heap.size v [] w' ∧ Below w.heap.size w w' := by
  by_cases h0 : k = 0
  · subst h0
    go_enter Tryz.func89, Tryz.ntmps89
    go_wp2
    go_ret
    exact ⟨_, rfl, ownF_nil _ _ _, Below.refl _ _⟩
  · obtain ⟨i0, hi, hz0, hz1, hz2⟩ := info_parts infoF
    have hrun := fun ty => Lib.run_append_nil_zeros (P := Tryz.prog) w 25 3 ty 47 i0 (.agg #[.string ⟨#[]⟩, .string ⟨#[]⟩]) .i64 .i64 Tryz.underlying25 Tryz.underlying3 hi hz0 k (by omega) (by rw [hz1]; omega) (by omega) (by rw [hz2]; omega)
    have hge := grownCap_ge w k 0 47
    have hle := grownCap_le_maxLen w k 0 47 (by unfold maxLen; omega)
    generalize grownCap w k 0 47 = cp at *
    have HO : Hid (OwnF 47 w.heap.size (.slice (some ⟨w.heap.size, 0, none⟩) 0 cp) [] (w.drew.alloc (.cells (Builtin.zeroCells (Value.agg #[.string ⟨#[]⟩, .string ⟨#[]⟩]).cells k ++ Builtin.zeroCells (Value.agg #[.string ⟨#[]⟩, .string ⟨#[]⟩]).cells (cp - k)) 47))) := by
      refine ⟨rfl, .inr ⟨w.heap.size, cp, _, rfl, Nat.le_refl _, heap_alloc_new w.drew _, Nat.zero_le _, hle, ?_, rfl⟩⟩
      have hz1 : (Value.agg #[.string ⟨#[]⟩, .string ⟨#[]⟩]).cells.size = 2 := rfl
      simp only [Array.size_append, size_zeroCells, hz1]
      omega
    have HB : Hid (Below w.heap.size w (w.drew.alloc (.cells (Builtin.zeroCells (Value.agg #[.string ⟨#[]⟩, .string ⟨#[]⟩]).cells k ++ Builtin.zeroCells (Value.agg #[.string ⟨#[]⟩, .string ⟨#[]⟩]).cells (cp - k)) 47))) := (Below.refl _ w).drew.alloc (Nat.le_refl _) _
    obtain ⟨W, hW⟩ : ∃ W, W = w.drew.alloc (.cells (Builtin.zeroCells (Value.agg #[.string ⟨#[]⟩, .string ⟨#[]⟩]).cells k ++ Builtin.zeroCells (Value.agg #[.string ⟨#[]⟩, .string ⟨#[]⟩]).cells (cp - k)) 47) := ⟨_, rfl⟩
    rw [← hW] at HO HB
    have hrun2 : ∀ ty, (Builtin.append_ #[25, 3] ty #[.slice none 0 0, .int .i64 (k : Int)]).run Tryz.prog w = .ok (.slice (some ⟨w.heap.size, 0, none⟩) k cp) W := fun ty => by rw [hW]; exact hrun ty
    clear hrun hW
    have hk0 : 0 < (k : Int) := by omega
    have hk1 : ¬ (k : Int) < 0 := by omega
    unfold maxLen at hle
    go_enter Tryz.func89, Tryz.ntmps89
    go_wp2_with (at_builtin; refine Lib.wpList_append_run _ rfl _ _ _ _ rfl _ _ rfl rfl _ _ (hrun2 _) ?_)
    go_ret
    exact ⟨_, rfl, HO.out, HB.out⟩
set_option maxHeartbeats 4000000 in
theorem Concat_two (v1 v2 : Value) (t1 t2 : List Fl) (b : Nat) (w : World) (h1 : InF v1 t1 w) (h2 : InF v2 t2 w) (hl : t1.length + t2.length ≤ 2147483648) (c0 : w.cell? ⟨b, 0, none⟩ = some v1) (c1 : w.cell? ⟨b, 1, none⟩ = some v2) :
    Calls Tryz.prog 50 #[.slice (some ⟨b, 0, none⟩) 2 2] w fun e w' => ∃ v, e = .returned v ∧ OwnF 47 w.heap.size v (t1 ++ t2) w' ∧ Below w.heap.size w w' := by
  have H1 : Hid (InF v1 t1 w) := h1
  have H2 : Hid (InF v2 t2 w) := h2
  have HC0 : Hid (w.cell? ⟨b, 0, none⟩ = some v1) := c0
  have HC1 : Hid (w.cell? ⟨b, 1, none⟩ = some v2) := c1
  obtain ⟨a1, k1, rfl, _⟩ := h1.1
  obtain ⟨a2, k2, rfl, _⟩ := h2.1
  clear h1 h2
  have HG : Hid (Calls _ _ _ _ _) := Grow_nil (t1.length + t2.length) hl w
  have hcs : (((t1.length + t2.length : Nat) : Int)) = (t1.length : Int) + (t2.length : Int) := by omega
  rw [hcs] at HG
  clear hcs
  go_enter Tryz.func50, Tryz.ntmps50
  go_wp2
  go_loopw [3, 11] (fun z i wr => Hid (wr = w) ∧ (i = .int .i64 0 ∧ z = .int .i64 0 ∨ i = .int .i64 1 ∧ z = .int .i64 (t1.length : Int) ∨ i = .int .i64 2 ∧ z = .int .i64 ((t1.length : Int) + (t2.length : Int)))) (fun _ i _ => 2 - (intOf i).toNat)
  case atStart => exact ⟨rfl, .inl ⟨rfl, rfl⟩⟩
  case round =>
    obtain ⟨hw, hrel⟩ := hrel
    obtain rfl : w = wr := hw.out.symm
    rcases hrel with ⟨rfl, rfl⟩ | ⟨rfl, rfl⟩ | ⟨rfl, rfl⟩
    · have hn : ¬ (t1.length : Int) < 0 := by omega
      go_wp2
      go_roundw
      case rel => exact ⟨trivial, .inr (.inl ⟨rfl, by simp⟩)⟩
      case measure => simp [intOf]
    · have hn : ¬ (t1.length : Int) + (t2.length : Int) < 0 := by omega
      go_wp2
      go_roundw
      case rel => exact ⟨trivial, .inr (.inr ⟨rfl, rfl⟩)⟩
      case measure => simp [intOf]
    · go_wp2_with fail
      refine HG.out.mono ?_
      rintro e w1 ⟨v, rfl, ho1, hb1⟩
      have HO1 : Hid (OwnF 47 w.heap.size v [] w1) := ho1
      have HB1 : Hid (Below w.heap.size w w1) := hb1
      clear ho1 hb1 hw
      go_wp2
      go_loopw [6, 27] (fun v i wr => ∃ t : List Fl, (i = .int .i64 0 ∧ t = [] ∨ i = .int .i64 1 ∧ t = t1 ∨ i = .int .i64 2 ∧ t = t1 ++ t2) ∧ Hid (OwnF 47 w.heap.size v t wr) ∧ Hid (Below w.heap.size w wr)) (fun _ i _ => 2 - (intOf i).toNat)
      case atStart => exact ⟨[], .inl ⟨rfl, rfl⟩, HO1, HB1⟩
      case round =>
        rename_i v6 i6
        obtain ⟨t, hit, hown, hbl⟩ := hrel
        rcases hit with ⟨rfl, rfl⟩ | ⟨rfl, rfl⟩ | ⟨rfl, rfl⟩
        ·
          obtain ⟨ax, cx, rfl⟩ := ownF_form hown.out
          have hsz := hbl.out.size
          have cb : wr.cell? ⟨b, 0, none⟩ = some (.slice a1 t1.length k1) := by rw [hbl.out.cell (World.block_lt_of_cell? w _ HC0.out)]; exact HC0.out
          have HIn : Hid (InF (.slice a1 t1.length k1) t1 wr) := H1.out.below hbl.out
          go_wp2_with (at_builtin; go_must (refine wp_appFs 47 25 infoF Tryz.underlying25 rfl (.tmp 31) (.tmp 32) rfl w.heap.size _ _ [] t1 rfl hown.out rfl HIn.out (by first | omega | (simp; omega)) hsz ?_); intro v5 w5 o5 b5)
          have O5 : Hid (OwnF 47 w.heap.size v5 t1 w5) := o5
          have B5 : Hid (Below w.heap.size w w5) := hbl.out.trans b5
          clear o5 b5 cb
          go_roundw
          case rel => exact ⟨t1, .inr (.inl ⟨rfl, rfl⟩), O5, B5⟩
          case measure => simp [intOf]
        ·
          obtain ⟨ax, cx, rfl⟩ := ownF_form hown.out
          have hsz := hbl.out.size
          have cb : wr.cell? ⟨b, 1, none⟩ = some (.slice a2 t2.length k2) := by rw [hbl.out.cell (World.block_lt_of_cell? w _ HC1.out)]; exact HC1.out
          have HIn : Hid (InF (.slice a2 t2.length k2) t2 wr) := H2.out.below hbl.out
          go_wp2_with (at_builtin; go_must (refine wp_appFs 47 25 infoF Tryz.underlying25 rfl (.tmp 31) (.tmp 32) rfl w.heap.size _ _ t t2 rfl hown.out rfl HIn.out (by first | omega | (simp; omega)) hsz ?_); intro v5 w5 o5 b5)
          have O5 : Hid (OwnF 47 w.heap.size v5 (t ++ t2) w5) := o5
          have B5 : Hid (Below w.heap.size w w5) := hbl.out.trans b5
          clear o5 b5 cb
          go_roundw
          case rel => exact ⟨t ++ t2, .inr (.inr ⟨rfl, rfl⟩), O5, B5⟩
          case measure => simp [intOf]
        · go_wp2
          go_ret
          exact ⟨_, rfl, hown.out, hbl.out⟩
end Ms
end Go.Proofs.YtdcfhnbagldilaaGreatDoor
set_option linter.unusedVariables false
set_option linter.unusedSimpArgs false
set_option maxRecDepth 100000
namespace Go.Proofs.YtdcfhnbagldilaaGreatDoor
open Go.RowKit Go.Shelf Go.Lib
namespace Ck
open Oc Tg _root_.Go.Proofs.YtdcfhnbagldilaaGreatDoor.Fd
theorem Ok.fin {s : DS} {k : Nat} (h : Ok s k) (e : Int) : Ok (fin s e) k := by
  refine ⟨Nat.le_refl _, h.most, h.room, h.fields, h.left, (fun h => by cases h), h.total, ?_, (fun h => absurd h (by show ¬ (5 : Nat) ≤ 3; decide)), (fun _ => rfl), ?_⟩
  · have := h.len
    show 0 + s.body.length + s.tr.length ≤ k
    omega
  · refine ⟨fun _ => ?_, fun _ => rfl⟩
    show (e == 0) = true ∨ e ≠ 0
    by_cases h : e = 0
    · exact .inl (by simp [h])
    · exact .inr h
theorem Ok.mono {s : DS} {k m : Nat} (h : Ok s k) (hm : k ≤ m) : Ok s m := ⟨h.mode, h.most, h.room, h.fields, h.left, h.pos, ⟨h.total.1, by have := h.total.2; omega⟩, by have := h.len; omega, h.size, h.bare, h.over⟩
theorem Ok.new (most room fields : Int) (h1 : 0 ≤ most ∧ most ≤ 9223372036854775807) (h2 : 0 ≤ room ∧ room ≤ 9223372036854775807) (h3 : 0 ≤ fields ∧ fields ≤ 9223372036854775807) : Ok (new most room fields) 0 := by
  refine ⟨Nat.zero_le _, h1, h2, h3, ⟨by show (0 : Int) ≤ 0; decide, by show (0 : Int) ≤ 1099511627776; decide⟩, (fun h => by cases h), ⟨by show (0 : Int) ≤ 0; decide, by show (0 : Int) ≤ 0; decide⟩, Nat.le_refl _, (fun _ => by show 0 < 256; decide), (fun _ => rfl), ?_⟩
  constructor
  · intro h; cases h
  · rintro (h | h)
    · cases h
    · exact absurd rfl h
theorem notOver {s : DS} {k : Nat} (h : Ok s k) (hm : s.mode ≠ 5) : ¬ (s.done = true ∨ s.err ≠ 0) := fun e => hm (h.over.2 e)
theorem Ok.re {s s' : DS} {k m : Nat} (h : Ok s k) (hm : s.mode ≠ 5) (hm' : s'.mode < 5) (hmo : 0 ≤ s'.most ∧ s'.most ≤ 9223372036854775807) (hro : 0 ≤ s'.room ∧ s'.room ≤ 9223372036854775807) (hfi : 0 ≤ s'.fields ∧ s'.fields ≤ 9223372036854775807)
    (hle : 0 ≤ s'.left ∧ s'.left ≤ 1099511627776) (hpo : s'.mode = 1 → 0 < s'.left) (hto : s'.total = s.total) (hlen : s'.line.length + s'.body.length + s'.tr.length ≤ m) (hkm : k ≤ m) (hsz : s'.mode ≤ 3 → s'.line.length < 256) (hba : s'.mode = 1 ∨ s'.mode = 2 ∨ s'.mode = 3 → s'.line = [])
    (hd : s'.done = s.done) (he : s'.err = s.err) : Ok s' m := by
  have ht := h.total
  refine ⟨by omega, hmo, hro, hfi, hle, hpo, by rw [hto]; omega, hlen, hsz, hba, ?_⟩
  rw [hd, he]
  exact ⟨fun e => by omega, fun e => absurd e (notOver h hm)⟩
theorem endSize_ok {s : DS} {k : Nat} (h : Ok { s with line := [] } k) (hm : s.mode ≠ 5) : Ok (endSize s) k := by
  have hq := sizeR_bd (said s)
  have hmo := h.most
  have hl := h.len
  simp only at hmo hl
  unfold endSize
  split
  · exact h.fin _
  · split
    · exact h.fin _
    · split
      · exact h.fin _
      · split
        · exact h.re hm (by show 4 < 5; decide) h.most h.room h.fields h.left (fun e => by cases e) rfl h.len (Nat.le_refl _) (fun e => by simp at e) (fun e => by simp at e) rfl rfl
        · rename_i h1 h2 h3 h4
          refine h.re hm (by show 1 < 5; decide) ⟨?_, ?_⟩ h.room h.fields ⟨?_, ?_⟩ (fun _ => ?_) rfl h.len (Nat.le_refl _) (fun _ => by show 0 < 256; decide) (fun _ => rfl) rfl rfl
          · show 0 ≤ s.most - (sizeR (said s)).1; omega
          · show s.most - (sizeR (said s)).1 ≤ _; omega
          · show 0 ≤ (sizeR (said s)).1; omega
          · show (sizeR (said s)).1 ≤ _; omega
          · show 0 < (sizeR (said s)).1; omega
theorem Ok.clear {s : DS} {k : Nat} (h : Ok s k) : Ok { s with line := [] } k :=
  ⟨h.mode, h.most, h.room, h.fields, h.left, h.pos, h.total, by have := h.len; show 0 + s.body.length + s.tr.length ≤ k; omega, (fun _ => by show 0 < 256; decide), (fun _ => rfl), h.over⟩
theorem inSize_ok {s : DS} {k : Nat} (h : Ok s k) (hm : s.mode = 0) (c : UInt8) : Ok (inSize s c) (k + 1) := by
  have hl := h.len
  have hz := h.size (by omega)
  unfold inSize
  split
  · exact endSize_ok (s := put s c) (h.clear.mono (Nat.le_succ _)) (by show s.mode ≠ 5; omega)
  · split
    · exact (h.clear.fin 100).mono (Nat.le_succ _)
    · refine h.re (by omega) (by show s.mode < 5; omega) h.most h.room h.fields h.left (fun e => h.pos e) rfl ?_ (Nat.le_succ _) (fun _ => ?_) (fun e => ?_) rfl rfl
      · show (s.line ++ [c]).length + s.body.length + s.tr.length ≤ k + 1
        simp; omega
      · show (s.line ++ [c]).length < 256
        simp; omega
      · have e' : s.mode = 1 ∨ s.mode = 2 ∨ s.mode = 3 := e
        omega
theorem inChunk_ok {s : DS} {k : Nat} (h : Ok s k) (hm : s.mode = 1) (t : List UInt8) (ht : (t.length : Int) ≤ s.left) : Ok (inChunk s t) (k + t.length) := by
  have hl := h.len
  have hle := h.left
  have hb := h.bare (by omega)
  refine h.re (by omega) ?_ h.most h.room h.fields ⟨?_, ?_⟩ ?_ rfl ?_ (by omega) ?_ ?_ rfl rfl
  · show (if s.left - (t.length : Int) = 0 then 2 else 1) < 5
    split <;> decide
  · show 0 ≤ s.left - (t.length : Int); omega
  · show s.left - (t.length : Int) ≤ _; omega
  · intro e
    show 0 < s.left - (t.length : Int)
    have e' : (if s.left - (t.length : Int) = 0 then 2 else 1) = 1 := e
    split at e'
    · cases e'
    · omega
  · show s.line.length + (s.body ++ t).length + s.tr.length ≤ k + t.length
    simp; omega
  · intro _; show s.line.length < 256; rw [hb]; decide
  · intro _; exact hb
theorem behindChunk_ok {s : DS} {k : Nat} (h : Ok s k) (hm : s.mode = 2) (c : UInt8) : Ok (behindChunk s c) (k + 1) := by
  have hl := h.len
  have hb := h.bare (by omega)
  have h3 : Ok { s with mode := 3 } (k + 1) := h.re (by omega) (by show 3 < 5; decide) h.most h.room h.fields h.left (fun e => by cases e) rfl (by show s.line.length + s.body.length + s.tr.length ≤ _; omega) (Nat.le_succ _) (fun _ => by show s.line.length < 256; rw [hb]; decide) (fun _ => hb) rfl rfl
  unfold behindChunk
  split
  · exact h3
  · exact h3.fin _
theorem behindReturn_ok {s : DS} {k : Nat} (h : Ok s k) (hm : s.mode = 3) (c : UInt8) : Ok (behindReturn s c) (k + 1) := by
  have hl := h.len
  have hb := h.bare (by omega)
  have h3 : Ok { s with mode := 0 } (k + 1) := h.re (by omega) (by show 0 < 5; decide) h.most h.room h.fields h.left (fun e => by cases e) rfl (by show s.line.length + s.body.length + s.tr.length ≤ _; omega) (Nat.le_succ _) (fun _ => by show s.line.length < 256; rw [hb]; decide) (fun e => hb) rfl rfl
  unfold behindReturn
  split
  · exact h3
  · exact h3.fin _
theorem keep_ok {s : DS} {k : Nat} (h : Ok s k) (hm : s.mode = 4) (hf : s.fields ≠ 0) (l : List UInt8) (hl : s.line.length + s.body.length + s.tr.length + 1 ≤ k) : Ok (keep s l) k := by
  have hfi := h.fields
  unfold keep
  split
  · exact h.fin _
  · refine h.re (by omega) (by show s.mode < 5; omega) h.most h.room ⟨?_, ?_⟩ h.left (fun e => h.pos e) rfl ?_ (Nat.le_refl _) (fun e => ?_) (fun e => ?_) rfl rfl
    · show 0 ≤ s.fields - 1; omega
    · show s.fields - 1 ≤ _; omega
    · show s.line.length + s.body.length + (s.tr ++ [(parseL l).1]).length ≤ k
      simp; omega
    · have e' : s.mode ≤ 3 := e
      omega
    · have e' : s.mode = 1 ∨ s.mode = 2 ∨ s.mode = 3 := e
      omega
theorem endTrailer_ok {s : DS} {k : Nat} (h : Ok { s with line := [] } k) (hm : s.mode = 4) (hl : s.body.length + s.tr.length + 1 ≤ k) : Ok (endTrailer s) k := by
  unfold endTrailer
  split
  · exact h.fin _
  · split
    · exact h.fin _
    · split
      · exact h.fin _
      · rename_i h3
        exact keep_ok h hm h3 _ (by show 0 + s.body.length + s.tr.length + 1 ≤ k; omega)
theorem inTrailers_ok {s : DS} {k : Nat} (h : Ok s k) (hm : s.mode = 4) (c : UInt8) : Ok (inTrailers s c) (k + 1) := by
  have hl := h.len
  have hr := h.room
  unfold inTrailers
  split
  · exact (h.fin _).mono (Nat.le_succ _)
  · rename_i h0
    have h1 : Ok { s with room := s.room - 1 } k := h.re (by omega) (by show s.mode < 5; omega) h.most ⟨by show 0 ≤ s.room - 1; omega, by show s.room - 1 ≤ _; omega⟩ h.fields h.left (fun e => h.pos e) rfl h.len (Nat.le_refl _) (fun e => h.size e) (fun e => h.bare e) rfl rfl
    split
    · exact endTrailer_ok (s := put { s with room := s.room - 1 } c) (h1.clear.mono (Nat.le_succ _)) hm (by show s.body.length + s.tr.length + 1 ≤ k + 1; omega)
    · refine h1.re (by show s.mode ≠ 5; omega) (by show s.mode < 5; omega) h1.most h1.room h1.fields h1.left (fun e => h1.pos e) rfl ?_ (Nat.le_succ _) (fun e => ?_) (fun e => ?_) rfl rfl
      · show (s.line ++ [c]).length + s.body.length + s.tr.length ≤ k + 1
        simp; omega
      · have e' : s.mode ≤ 3 := e
        omega
      · have e' : s.mode = 1 ∨ s.mode = 2 ∨ s.mode = 3 := e
        omega
theorem mode_cases {s : DS} {k : Nat} (h : Ok s k) (hm : s.mode ≠ 5) : s.mode = 0 ∨ s.mode = 1 ∨ s.mode = 2 ∨ s.mode = 3 ∨ s.mode = 4 := by
  have := h.mode
  omega
theorem bstep_ok {s : DS} {k : Nat} (h : Ok s k) (hm : s.mode ≠ 5) (c : UInt8) : Ok (bstep s c) (k + 1) := by
  unfold bstep
  rcases mode_cases h hm with e | e | e | e | e
  · rw [e]; exact inSize_ok h e c
  · rw [e]; exact inChunk_ok h e [c] (by have := h.pos e; simp; omega)
  · rw [e]; exact behindChunk_ok h e c
  · rw [e]; exact behindReturn_ok h e c
  · rw [e]; exact inTrailers_ok h e c
theorem eat_nil (s : DS) : eat s [] = (0, s) := by rw [eat]
theorem eat_over {s : DS} (h : s.mode = 5) (l : List UInt8) : eat s l = (0, s) := by
  cases l with
  | nil => exact eat_nil s
  | cons c t => rw [eat, if_pos h]
theorem eat_cons {s : DS} (h : s.mode ≠ 5) (c : UInt8) (t : List UInt8) : eat s (c :: t) = ((eat (bstep s c) t).1 + 1, (eat (bstep s c) t).2) := by rw [eat, if_neg h]
theorem eat_le : ∀ (l : List UInt8) (s : DS), (eat s l).1 ≤ l.length
  | [], s => by rw [eat_nil]; exact Nat.le_refl _
  | c :: t, s => by
    by_cases h : s.mode = 5
    · rw [eat_over h]; exact Nat.zero_le _
    · rw [eat_cons h]; have := eat_le t (bstep s c); simp; omega
theorem eat_ok : ∀ (l : List UInt8) (s : DS) (k : Nat), Ok s k → Ok (eat s l).2 (k + (eat s l).1)
  | [], s, k, h => by rw [eat_nil]; exact h
  | c :: t, s, k, h => by
    by_cases hm : s.mode = 5
    · rw [eat_over hm]; exact h
    · rw [eat_cons hm]
      have := eat_ok t (bstep s c) (k + 1) (bstep_ok h hm c)
      rw [show k + ((eat (bstep s c) t).1 + 1) = k + 1 + (eat (bstep s c) t).1 by omega]
      exact this
theorem eat_all : ∀ (l : List UInt8) (s : DS), (eat s l).2.mode ≠ 5 → (eat s l).1 = l.length
  | [], s, _ => by rw [eat_nil]; rfl
  | c :: t, s, h => by
    by_cases hm : s.mode = 5
    · rw [eat_over hm] at h; exact absurd hm h
    · rw [eat_cons hm] at h ⊢
      have := eat_all t (bstep s c) h
      simp [this]
theorem inChunk_cons {s : DS} {k : Nat} (h : Ok s k) (hm : s.mode = 1) (c d : UInt8) (t : List UInt8) (ht : ((c :: d :: t).length : Int) ≤ s.left) : inChunk (inChunk s [c]) (d :: t) = inChunk s (c :: d :: t) := by
  unfold inChunk
  simp only [List.length_cons, List.length_nil, List.append_assoc, List.singleton_append]
  have e : s.left - ((0 + 1 : Nat) : Int) - ((t.length + 1 : Nat) : Int) = s.left - ((t.length + 1 + 1 : Nat) : Int) := by omega
  simp only [e]
theorem eat_chunk : ∀ (t r : List UInt8) (s : DS) (k : Nat), Ok s k → s.mode = 1 → t ≠ [] → (t.length : Int) ≤ s.left → eat s (t ++ r) = (t.length + (eat (inChunk s t) r).1, (eat (inChunk s t) r).2)
  | [], r, s, k, h, hm, hn, ht => absurd rfl hn
  | [c], r, s, k, h, hm, hn, ht => by
    have e : bstep s c = inChunk s [c] := by unfold bstep; rw [hm]; rfl
    rw [List.singleton_append, eat_cons (by omega), e]
    simp; omega
  | c :: d :: t, r, s, k, h, hm, hn, ht => by
    have e : bstep s c = inChunk s [c] := by unfold bstep; rw [hm]; rfl
    have hk := inChunk_ok h hm [c] (by simp at ht ⊢; omega)
    have hm1 : (inChunk s [c]).mode = 1 := by
      show (if s.left - (([c] : List UInt8).length : Int) = 0 then 2 else 1) = 1
      rw [if_neg (by simp at ht ⊢; omega)]
    rw [List.cons_append, eat_cons (by omega), e, eat_chunk (d :: t) r (inChunk s [c]) _ hk hm1 (by simp) (by show _ ≤ s.left - (([c] : List UInt8).length : Int); simp at ht ⊢; omega), inChunk_cons h hm c d t ht]
    simp; omega
end Ck
end Go.Proofs.YtdcfhnbagldilaaGreatDoor
