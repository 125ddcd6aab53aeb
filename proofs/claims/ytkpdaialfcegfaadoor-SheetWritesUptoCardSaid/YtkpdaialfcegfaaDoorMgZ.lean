/- Several texts as one. -/
import Derived.Test.YtkpdaialfcegfaaDoorMgO
import Derived.Test.YtkpdaialfcegfaaDoorMgX
import Derived.Test.YtkpdaialfcegfaaDoorMgY
/-
  sheet: Boundary, both; SheetMarks.
-/
set_option linter.unusedVariables false
set_option linter.unusedSimpArgs false
namespace Go.Proofs.YtkpdaialfcegfaaDoor
open Go.RowKit Go.Shelf
namespace Mf
open Oc Tg Pt

theorem itoaD (k : Nat) : Lib.itoa (k : Int) = D k := by
  unfold Lib.itoa
  rw [if_neg (by omega)]
  rfl
theorem itoa_len (k : Nat) (h : k ≤ 1048576) : (Lib.itoa (k : Int)).length ≤ 22 := by
  have := decD_len (k : Int) (by omega) (by omega)
  by_cases h0 : k = 0
  · subst h0
    rw [show ((0 : Nat) : Int) = 0 from rfl, itoa_zero]
    decide
  · rw [itoa_decD _ (by omega), if_neg (by omega)]
    simpa using Nat.le_succ_of_le this
def formL : List UInt8 := [102, 111, 114, 109]
theorem ext_list2 (s : ByteArray) (a b : Nat) : (s.extract a b).data.toList = (s.data.toList.drop a).take (b - a) := by
  rw [ByteArray.data_extract, Array.toList_extract, List.extract_eq_take_drop]
theorem occ_ext (b s : ByteArray) (k : Nat) : ((b.extract k (k + s.size)).toList == s.toList) = Lib.occAt b.data.toList s.data.toList k := by
  rw [eq_toList]
  unfold Lib.occAt
  rw [Bool.eq_iff_iff, decide_eq_true_iff, List.isPrefixOf_iff_prefix, List.prefix_iff_eq_take, size_list]
  constructor
  · intro h
    have := congrArg (fun x : ByteArray => x.data.toList) h
    rw [ext_list2, Nat.add_sub_cancel_left] at this
    exact this.symm
  · intro h
    apply eq_list
    rw [ext_list2, Nat.add_sub_cancel_left]
    exact h.symm

set_option maxRecDepth 100000 in
set_option maxHeartbeats 1000000 in
theorem Stands_any (b s : ByteArray) (hb : b.size ≤ 16777216) (h0 : 0 < s.size) (hs : s.size ≤ 16777216) (w : World) :
    Calls Tryd.prog 80 #[.string b, .string s] w fun e w' => e = .returned (.bool (Lib.contains b.data.toList s.data.toList)) ∧ w' = w := by
  have HH : Hid (∀ k, k ≤ b.size → Lib.NoOcc b.data.toList s.data.toList k → Lib.occAt b.data.toList s.data.toList k = true → Lib.contains b.data.toList s.data.toList = true) := fun k hk hn ho => by
    unfold Lib.contains
    rw [Lib.index_hit hn (by rw [size_list]; exact hk) ho]
    simp
  have HP : Hid (∀ k, Lib.NoOcc b.data.toList s.data.toList k → b.size < k + s.size → Lib.contains b.data.toList s.data.toList = false) := fun k hn hk => by
    unfold Lib.contains
    rw [Lib.index_past (by intro e; rw [← size_list, e] at h0; simp at h0) hn (by rw [size_list, size_list]; exact hk)]
    rfl
  have HO : Hid (∀ k, ((b.extract k (k + s.size)).toList == s.toList) = Lib.occAt b.data.toList s.data.toList k) := fun k => occ_ext b s k
  have HSu : Hid (∀ k, Lib.NoOcc b.data.toList s.data.toList k → Lib.occAt b.data.toList s.data.toList k = false → Lib.NoOcc b.data.toList s.data.toList (k + 1)) := fun k hn ho j hj => by
    by_cases e : j = k
    · rw [e]; exact ho
    · exact hn j (by omega)
  generalize Lib.contains b.data.toList s.data.toList = M at *
  go_enter Tryd.func80, Tryd.ntmps80
  go_wp2
  go_loop [5] (fun i => ∃ k : Nat, k ≤ b.size + 1 ∧ i = .int .i64 k ∧ Hid (Lib.NoOcc b.data.toList s.data.toList k)) (fun i => b.size + 1 - (intOf i).toNat)
  case atStart => exact ⟨0, Nat.zero_le _, rfl, Lib.NoOcc.zero _ _⟩
  case round =>
    obtain ⟨k, hk, rfl, hn⟩ := hrel
    by_cases hle : k + s.size ≤ b.size
    · have hle' : (k : Int) + (s.size : Int) ≤ (b.size : Int) := by omega
      have hok := HO.out k
      have HT : Hid (Lib.occAt b.data.toList s.data.toList k = true → M = true) := HH.out k (by omega) hn.out
      have HF : Hid (Lib.occAt b.data.toList s.data.toList k = false → Lib.NoOcc b.data.toList s.data.toList (k + 1)) := HSu.out k hn.out
      generalize Lib.occAt b.data.toList s.data.toList k = o at *
      cases o with
      | true =>
        have hM : Hid (M = true) := HT.out rfl
        clear HT HF
        go_wp2
        go_ret
        rw [hM.out]
        exact ⟨rfl, rfl⟩
      | false =>
        have HN : Hid (Lib.NoOcc b.data.toList s.data.toList (k + 1)) := HF.out rfl
        clear HT HF
        go_wp2
        go_round
        case rel => exact ⟨k + 1, by omega, by go_num, HN⟩
        case measure => simp [intOf]; omega
    · have hM : Hid (M = false) := HP.out k hn.out (by omega)
      have hle' : ¬ (k : Int) + (s.size : Int) ≤ (b.size : Int) := by omega
      go_wp2
      go_ret
      rw [hM.out]
      exact ⟨rfl, rfl⟩

set_option maxRecDepth 100000 in
set_option maxHeartbeats 2000000 in
theorem Boundary_any (v : Value) (t : List P5) (hb : t.length + sumT t ≤ 1048576) (N : Nat) (hN : N ≤ sumT t) (hfree : ¬ stdL (txs t) N) (hall : ∀ m, m < N → stdL (txs t) m) (w : World) (hr : RdT v t w) (hw : ML w) (hp : Pow w) (hw1 : 1 ≤ w.heap.size) :
    Calls Tryd.prog 17 #[v] w fun e w' => e = .returned (.string (str (formL ++ D N))) ∧ Below w.heap.size w w' := by
  have HT : Hid (Calls Tryd.prog 36 #[v] w fun e w' => ∃ M n ks, e = .returned (.map (some M)) ∧ MI M n ks w' ∧ (∀ m, m ∈ ks ↔ m ≤ sumT t ∧ stdL (txs t) m) ∧ Below w.heap.size w w') := takenNumbers_any v t hb w hr hw hw1
  have HD : Hid (∀ W, Below w.heap.size w W → Calls Tryd.prog 37 #[.int .i64 (N : Int)] W fun e w' => e = .returned (.string (str (Lib.itoa (N : Int)))) ∧ Below (World.heap W).size W w') := fun W bl => Digits_any (N : Int) (by omega) (by omega) W (hp.below bl (Nat.le_refl _))
  have HL : Hid ((Lib.itoa (N : Int)).length ≤ 22) := itoa_len N (by omega)
  have HE : Hid (str formL ++ str (Lib.itoa (N : Int)) = str (formL ++ D N)) := (by rw [cat_str, str_list, itoaD] : _ = _)
  have zI : (str (Lib.itoa (N : Int))).size ≤ 22 := by rw [str_size]; exact HL.out
  obtain ⟨a, c, rfl, _⟩ := hr
  clear hw hp
  generalize str (formL ++ D N) = R at *
  generalize str (Lib.itoa (N : Int)) = I at *
  go_enter Tryd.func17, Tryd.ntmps17
  go_wp2_with fail
  refine HT.out.mono ?_
  rintro e w1 ⟨M, n, ks, rfl, hm, hks, hb1⟩
  have HM : Hid (MI M n ks w1) := hm
  have HB1 : Hid (Below w.heap.size w w1) := hb1
  have HIn : Hid (∀ k, k < N → k ∈ ks) := fun k hk => (hks k).2 ⟨by omega, hall k hk⟩
  have HOut : Hid (N ∉ ks) := fun h => hfree ((hks N).1 h).2
  clear hm hb1 hks hfree hall
  go_wp2
  go_loopw [4] (fun nv wr => ∃ k : Nat, k ≤ N ∧ nv = .int .i64 (k : Int) ∧ Hid (Below w1.heap.size w1 wr)) (fun nv _ => N - (intOf nv).toNat)
  case atStart => exact ⟨0, Nat.zero_le _, rfl, Below.refl _ _⟩
  case round =>
    obtain ⟨k, hk, rfl, hbl⟩ := hrel
    have hlk := look_MI (HM.out.below hbl.out) k (by omega)
    have hb2 : Below w1.heap.size w1 (wr.alloc (.cells #[] 66)) := hbl.out.alloc hbl.out.size _
    have HB2 : Hid (Below w1.heap.size w1 (wr.alloc (.cells #[] 66))) := hb2
    clear hb2
    by_cases hlt : k < N
    · rw [decide_eq_true (HIn.out k hlt)] at hlk
      go_wp2
      go_roundw
      case rel => exact ⟨k + 1, by omega, by go_num, HB2⟩
      case measure => simp [intOf]; omega
    · obtain rfl : k = N := by omega
      rw [decide_eq_false HOut.out] at hlk
      go_wp2_with fail
      refine (HD.out _ (bel_trans HB1.out HB2.out)).mono ?_
      rintro e w3 ⟨rfl, hb3⟩
      have HB3 : Hid (Below w.heap.size w w3) := bel_trans (bel_trans HB1.out HB2.out) hb3
      clear hb3
      have hsum : ¬ (9223372036854775807 : Int) < (4 : Int) + (I.size : Int) := by omega
      go_wp2
      go_ret
      refine ⟨?_, HB3.out⟩
      rw [← HE.out]
      rfl

/-- Does a boundary stand in one of some parts, with -- ahead of it? -/
def inP (p : P5) (b : List UInt8) : Bool := Lib.contains p.b (45 :: 45 :: b) || (Lib.contains p.n (45 :: 45 :: b) || (Lib.contains p.f (45 :: 45 :: b) || Lib.contains p.m (45 :: 45 :: b)))
def standsR (t : List P5) (b : List UInt8) : Bool := t.any fun p => inP p b
theorem stands_std (t : List P5) (n : Nat) : standsR t (formL ++ D n) = true ↔ stdL (txs t) n := by
  have e : (45 : UInt8) :: 45 :: (formL ++ D n) = PP ++ D n := rfl
  unfold standsR
  rw [List.any_eq_true, stdL_iff]
  constructor
  · rintro ⟨p, hp, h⟩
    unfold inP at h
    rw [e] at h
    simp only [Bool.or_eq_true] at h
    have hm : ∀ s ∈ tx4 p, s ∈ txs t := fun s hs => List.mem_flatMap.2 ⟨p, hp, hs⟩
    rcases h with h | h | h | h
    · exact ⟨p.b, hm _ (by simp [tx4]), (std_iff _ _).1 h⟩
    · exact ⟨p.n, hm _ (by simp [tx4]), (std_iff _ _).1 h⟩
    · exact ⟨p.f, hm _ (by simp [tx4]), (std_iff _ _).1 h⟩
    · exact ⟨p.m, hm _ (by simp [tx4]), (std_iff _ _).1 h⟩
  · rintro ⟨s, hs, h⟩
    obtain ⟨p, hp, hq⟩ := List.mem_flatMap.1 hs
    have h' := (std_iff _ _).2 h
    refine ⟨p, hp, ?_⟩
    unfold inP
    rw [e]
    simp only [Bool.or_eq_true]
    simp only [tx4, List.mem_cons, List.not_mem_nil, or_false] at hq
    rcases hq with rfl | rfl | rfl | rfl
    · exact .inl h'
    · exact .inr (.inl h')
    · exact .inr (.inr (.inl h'))
    · exact .inr (.inr (.inr h'))

set_option maxRecDepth 100000 in
set_option maxHeartbeats 4000000 in
theorem stands_any (v : Value) (t : List P5) (hb : t.length + sumT t ≤ 1048576) (b : List UInt8) (hbl : b.length ≤ 1048576) (w : World) (hr : RdT v t w) :
    Calls Tryd.prog 39 #[v, .string (str b)] w fun e w' => e = .returned (.bool (standsR t b)) ∧ Below w.heap.size w w' := by
  obtain ⟨a, c, rfl, hcs⟩ := hr
  have HC : Hid (t = [] ∨ ∃ g o, a = some ⟨g, o, none⟩ ∧ t.length ≤ c ∧ ∀ j, j < t.length → CellT w g (o + j * 5) (nthT t j)) := hcs
  have HSt : Hid (∀ s : List UInt8, s.length ≤ 1048576 → ∀ W, Calls Tryd.prog 80 #[.string (str s), .string (⟨#[45, 45]⟩ ++ str b)] W fun e w' => e = .returned (.bool (Lib.contains s (45 :: 45 :: b))) ∧ w' = W) := fun s hs W => by
    have e : (⟨#[45, 45]⟩ : ByteArray) ++ str b = str (45 :: 45 :: b) := by
      rw [show (⟨#[45, 45]⟩ : ByteArray) = str [45, 45] from rfl, cat_str, str_list]
      rfl
    have h := Stands_any (str s) (str (45 :: 45 :: b)) (by rw [str_size]; omega) (by rw [str_size]; simp) (by rw [str_size]; simp; omega) W
    rw [str_list, str_list] at h
    rw [e]
    exact h
  have hbz : (str b).size ≤ 1048576 := by rw [str_size]; exact hbl
  have HAll : Hid (∀ k, k ≤ t.length → (t.take k).any (fun p => inP p b) = false → k < t.length → inP (nthT t k) b = true → standsR t b = true) := fun k hk _ hlt h => by
    unfold standsR
    rw [List.any_eq_true]
    refine ⟨nthT t k, ?_, h⟩
    unfold nthT
    rw [List.getD_eq_getElem?_getD, List.getElem?_eq_getElem hlt]
    exact List.getElem_mem hlt
  have HDone : Hid ((t.take t.length).any (fun p => inP p b) = false → standsR t b = false) := fun h => by rw [List.take_length] at h; exact h
  clear hcs
  generalize standsR t b = V at *
  generalize str b = SB at *
  go_enter Tryd.func39, Tryd.ntmps39
  go_wp2
  go_loopw [5] (fun iv wr => ∃ k : Nat, k ≤ t.length ∧ iv = .int .i64 k ∧ Hid ((t.take k).any (fun p => inP p b) = false) ∧ Hid (Below w.heap.size w wr)) (fun iv _ => t.length - (intOf iv).toNat)
  case atStart => exact ⟨0, Nat.zero_le _, rfl, (rfl : (t.take 0).any (fun p => inP p b) = false), Below.refl _ _⟩
  case round =>
    obtain ⟨k, hk, rfl, hA, hblw⟩ := hrel
    by_cases hlt : k < t.length
    · rcases HC.out with h | ⟨g, o, rfl, hcap, hcell⟩
      · rw [h] at hlt; simp at hlt
      have hck := hcell k hlt
      have hg : g < w.heap.size := World.block_lt_of_cell? w _ hck.1
      obtain ⟨d0, d1, d2, d3, d4⟩ := hck.below hblw.out hg
      clear hcell hck
      have hsz := szT_le t k hlt
      unfold szT at hsz
      have HY : Hid (inP (nthT t k) b = true → V = true) := HAll.out k hk hA.out hlt
      have HNx : Hid (inP (nthT t k) b = false → (t.take (k + 1)).any (fun p => inP p b) = false) := fun h => by rw [take_nthT t k hlt, List.any_append, hA.out]; simp [h]
      generalize nthT t k = p at *
      have S1 : Hid (∀ W, _) := fun W => HSt.out p.b (by omega) W
      have S2 : Hid (∀ W, _) := fun W => HSt.out p.n (by omega) W
      have S3 : Hid (∀ W, _) := fun W => HSt.out p.f (by omega) W
      have S4 : Hid (∀ W, _) := fun W => HSt.out p.m (by omega) W
      have HI : Hid (inP p b = (Lib.contains p.b (45 :: 45 :: b) || (Lib.contains p.n (45 :: 45 :: b) || (Lib.contains p.f (45 :: 45 :: b) || Lib.contains p.m (45 :: 45 :: b))))) := (rfl : _ = _)
      generalize inP p b = IP at *
      generalize Lib.contains p.b (45 :: 45 :: b) = q1 at *
      generalize Lib.contains p.n (45 :: 45 :: b) = q2 at *
      generalize Lib.contains p.f (45 :: 45 :: b) = q3 at *
      generalize Lib.contains p.m (45 :: 45 :: b) = q4 at *
      generalize str p.n = N1 at *
      generalize str p.f = F1 at *
      generalize str p.m = M1 at *
      generalize str p.b = B1 at *
      generalize p.h = H1 at *
      have HB1 : Hid (Below w.heap.size w (wr.alloc (.cells #[.string N1, .string F1, .string M1, .string B1, .bool H1] 72))) := hblw.out.alloc hblw.out.size _
      have hsum : ¬ (9223372036854775807 : Int) < (2 : Int) + (SB.size : Int) := by omega
      cases q1 with
      | true =>
        have HV : Hid (V = true) := HY.out (by rw [HI.out]; rfl)
        go_wp2_with fail
        refine (S1.out _).mono ?_
        rintro e w5 ⟨rfl, hw5⟩
        rw [hw5]
        clear hw5 w5
        go_wp2
        go_ret
        exact ⟨by rw [HV.out]; rfl, HB1.out⟩
      | false =>
        cases q2 with
        | true =>
          have HV : Hid (V = true) := HY.out (by rw [HI.out]; rfl)
          go_wp2_with fail
          refine (S1.out _).mono ?_
          rintro e w5 ⟨rfl, hw5⟩
          rw [hw5]
          clear hw5 w5
          go_wp2_with fail
          refine (S2.out _).mono ?_
          rintro e w5 ⟨rfl, hw5⟩
          rw [hw5]
          clear hw5 w5
          go_wp2
          go_ret
          exact ⟨by rw [HV.out]; rfl, HB1.out⟩
        | false =>
          cases q3 with
          | true =>
            have HV : Hid (V = true) := HY.out (by rw [HI.out]; rfl)
            go_wp2_with fail
            refine (S1.out _).mono ?_
            rintro e w5 ⟨rfl, hw5⟩
            rw [hw5]
            clear hw5 w5
            go_wp2_with fail
            refine (S2.out _).mono ?_
            rintro e w5 ⟨rfl, hw5⟩
            rw [hw5]
            clear hw5 w5
            go_wp2_with fail
            refine (S3.out _).mono ?_
            rintro e w5 ⟨rfl, hw5⟩
            rw [hw5]
            clear hw5 w5
            go_wp2
            go_ret
            exact ⟨by rw [HV.out]; rfl, HB1.out⟩
          | false =>
            cases q4 with
            | true =>
              have HV : Hid (V = true) := HY.out (by rw [HI.out]; rfl)
              go_wp2_with fail
              refine (S1.out _).mono ?_
              rintro e w5 ⟨rfl, hw5⟩
              rw [hw5]
              clear hw5 w5
              go_wp2_with fail
              refine (S2.out _).mono ?_
              rintro e w5 ⟨rfl, hw5⟩
              rw [hw5]
              clear hw5 w5
              go_wp2_with fail
              refine (S3.out _).mono ?_
              rintro e w5 ⟨rfl, hw5⟩
              rw [hw5]
              clear hw5 w5
              go_wp2_with fail
              refine (S4.out _).mono ?_
              rintro e w5 ⟨rfl, hw5⟩
              rw [hw5]
              clear hw5 w5
              go_wp2
              go_ret
              exact ⟨by rw [HV.out]; rfl, HB1.out⟩
            | false =>
              have HX : Hid ((t.take (k + 1)).any (fun p => inP p b) = false) := HNx.out (by rw [HI.out]; rfl)
              go_wp2_with fail
              refine (S1.out _).mono ?_
              rintro e w5 ⟨rfl, hw5⟩
              rw [hw5]
              clear hw5 w5
              go_wp2_with fail
              refine (S2.out _).mono ?_
              rintro e w5 ⟨rfl, hw5⟩
              rw [hw5]
              clear hw5 w5
              go_wp2_with fail
              refine (S3.out _).mono ?_
              rintro e w5 ⟨rfl, hw5⟩
              rw [hw5]
              clear hw5 w5
              go_wp2_with fail
              refine (S4.out _).mono ?_
              rintro e w5 ⟨rfl, hw5⟩
              rw [hw5]
              clear hw5 w5
              go_wp2
              go_roundw
              case rel => exact ⟨k + 1, by omega, by go_num, HX, HB1⟩
              case measure => simp [intOf]; omega
    · obtain rfl : k = t.length := by omega
      have HV : Hid (V = false) := HDone.out hA.out
      go_wp2
      go_ret
      exact ⟨by rw [HV.out]; rfl, hblw.out⟩

set_option maxRecDepth 100000 in
set_option maxHeartbeats 2000000 in
theorem rBoundary_any (v : Value) (t : List P5) (hb : t.length + sumT t ≤ 1048576) (N : Nat) (hN : N ≤ sumT t) (hfree : ¬ stdL (txs t) N) (hall : ∀ m, m < N → stdL (txs t) m) (w : World) (hr : RdT v t w) :
    Calls Tryd.prog 18 #[v] w fun e w' => e = .returned (.string (str (formL ++ D N))) ∧ Below w.heap.size w w' := by
  have HD : Hid (∀ k : Nat, k ≤ N → ∀ W, Calls Tryd.prog 38 #[.int .i64 (k : Int)] W fun e w' => e = .returned (.string (str (Lib.itoa (k : Int)))) ∧ Below (World.heap W).size W w') := fun k hk W => rDigits_any (k : Int) (by omega) (by omega) W
  have HS : Hid (∀ k : Nat, k ≤ N → ∀ W, RdT v t W → Calls Tryd.prog 39 #[v, .string (str formL ++ str (Lib.itoa (k : Int)))] W fun e w' => e = .returned (.bool (decide (k < N))) ∧ Below W.heap.size W w') := fun k hk W hW => by
    have hl := itoa_len k (by omega)
    have h := stands_any v t hb (formL ++ D k) (by rw [List.length_append, ← itoaD]; have : formL.length = 4 := rfl; omega) W hW
    rw [cat_str, str_list, itoaD]
    have e : standsR t (formL ++ D k) = decide (k < N) := by
      rw [Bool.eq_iff_iff, stands_std, decide_eq_true_iff]
      constructor
      · intro h
        refine Classical.byContradiction fun hc => ?_
        obtain rfl : k = N := by omega
        exact hfree h
      · exact fun h => hall k h
    rw [e] at h
    exact h
  have HE : Hid (str formL ++ str (Lib.itoa (N : Int)) = str (formL ++ D N)) := (by rw [cat_str, str_list, itoaD] : _ = _)
  have HZ : Hid (∀ k : Nat, k ≤ N → (str (Lib.itoa (k : Int))).size ≤ 22) := fun k hk => by rw [str_size]; exact itoa_len k (by omega)
  have HRd : Hid (RdT v t w) := hr
  obtain ⟨a, c, rfl, _⟩ := hr
  clear hfree hall
  generalize str (formL ++ D N) = R at *
  go_enter Tryd.func18, Tryd.ntmps18
  go_wp2
  go_loopw [3] (fun nv wr => ∃ k : Nat, k ≤ N ∧ nv = .int .i64 (k : Int) ∧ Hid (Below w.heap.size w wr)) (fun nv _ => N - (intOf nv).toNat)
  case atStart => exact ⟨0, Nat.zero_le _, rfl, Below.refl _ _⟩
  case round =>
    obtain ⟨k, hk, rfl, hbl⟩ := hrel
    have HDk : Hid (∀ W, _) := fun W => HD.out k hk W
    have HSk : Hid (∀ W, RdT _ t W → _) := fun W h => HS.out k hk W h
    have zI := HZ.out k hk
    have hsum : ¬ (9223372036854775807 : Int) < (6 : Int) + ((str (Lib.itoa (k : Int))).size : Int) := by omega
    have hsum4 : ¬ (9223372036854775807 : Int) < (4 : Int) + ((str (Lib.itoa (k : Int))).size : Int) := by omega
    by_cases hlt : k < N
    · rw [decide_eq_true hlt] at HSk
      generalize str (Lib.itoa (k : Int)) = I at *
      go_wp2_with fail
      refine (HDk.out _).mono ?_
      rintro e w2 ⟨rfl, hb2⟩
      have HB2 : Hid (Below w.heap.size w w2) := bel_trans hbl.out hb2
      clear hb2
      go_wp2_with fail
      rw [show (⟨#[102, 111, 114, 109]⟩ : ByteArray) = str formL from rfl]
      refine (HSk.out _ (HRd.out.below HB2.out)).mono ?_
      rintro e w3 ⟨rfl, hb3⟩
      have HB3 : Hid (Below w.heap.size w w3) := bel_trans HB2.out hb3
      clear hb3
      go_wp2
      go_roundw
      case rel => exact ⟨k + 1, by omega, by go_num, HB3⟩
      case measure => simp [intOf]; omega
    · obtain rfl : k = N := by omega
      rw [decide_eq_false hlt] at HSk
      generalize str (Lib.itoa (k : Int)) = I at *
      go_wp2_with fail
      refine (HDk.out _).mono ?_
      rintro e w2 ⟨rfl, hb2⟩
      have HB2 : Hid (Below w.heap.size w w2) := bel_trans hbl.out hb2
      clear hb2
      go_wp2_with fail
      rw [show (⟨#[102, 111, 114, 109]⟩ : ByteArray) = str formL from rfl]
      refine (HSk.out _ (HRd.out.below HB2.out)).mono ?_
      rintro e w3 ⟨rfl, hb3⟩
      have HB3 : Hid (Below w.heap.size w w3) := bel_trans HB2.out hb3
      clear hb3
      go_wp2
      go_ret
      refine ⟨?_, HB3.out⟩
      rw [← HE.out]
      rfl


set_option maxRecDepth 100000 in
set_option maxHeartbeats 2000000 in
theorem walk_SheetMarks (s : ByteArray) (hs : s.size ≤ 1048576) (v : Value) (t : List P5) (hb : t.length + sumT t ≤ 1048576) (w : World) (hr : RdT v t w) (hm : ML w) (hp : Pow w) (hw1 : 1 ≤ w.heap.size) :
    Calls Tryd.prog 5 #[.string s, v] w fun e w' => e = .returned (.bool true) ∧ Below w.heap.size w w' := by
  obtain ⟨N, hN, hfree, hall⟩ := first_freeL (txs t)
  rw [txs_sum] at hN
  have HA : Hid (∀ w, ML w → _) := fun w h => awake15_any w h
  have HI : Hid (∀ w, _) := fun w => IsBoundary_any s (by omega) w
  have HK : Hid (∀ w, _) := fun w => rIsMark_any s (by omega) w
  have HBd : Hid (∀ W, RdT v t W → ML W → Pow W → 1 ≤ W.heap.size → _) := fun W h1 h2 h3 h4 => Boundary_any v t hb N hN hfree hall W h1 h2 h3 h4
  have HG : Hid (∀ W, RdT v t W → _) := fun W h => given15_any v t W h (by omega)
  have HR : Hid (∀ u W, RdT u t W → _) := fun u W h => rBoundary_any u t hb N hN hfree hall W h
  have HRd : Hid (RdT v t w) := hr
  have HM : Hid (ML w) := hm
  have HP : Hid (Pow w) := hp
  obtain ⟨a, c, rfl, _⟩ := hr
  clear hm hp hfree hall
  generalize bndR s.data.toList = BR at *
  generalize str (formL ++ D N) = X at *
  go_enter Tryd.func5, Tryd.ntmps5
  go_wp2_with fail
  refine (HA.out _ HM.out).mono ?_
  rintro e w1 ⟨rfl, hb1⟩
  have HB1 : Hid (Below w.heap.size w w1) := hb1
  clear hb1
  go_wp2_with fail
  refine (HI.out _).mono ?_
  rintro e w2 ⟨rfl, hb2⟩
  have HB2 : Hid (Below w.heap.size w w2) := bel_trans HB1.out hb2
  clear hb2
  go_wp2_with fail
  refine (HK.out _).mono ?_
  rintro e w3 ⟨rfl, hb3⟩
  have HB3 : Hid (Below w.heap.size w w3) := bel_trans HB2.out hb3
  clear hb3
  go_wp2_with fail
  refine (HBd.out _ (HRd.out.below HB3.out) (HM.out.below HB3.out) (HP.out.below HB3.out (Nat.le_refl _)) (Nat.le_trans hw1 HB3.out.size)).mono ?_
  rintro e w4 ⟨rfl, hb4⟩
  have HB4 : Hid (Below w.heap.size w w4) := bel_trans HB3.out hb4
  clear hb4
  go_wp2_with fail
  refine (HG.out _ (HRd.out.below HB4.out)).mono ?_
  rintro e w5 ⟨u, rfl, ho5, hb5⟩
  have HB5 : Hid (Below w.heap.size w w5) := bel_trans HB4.out hb5
  have HU5 : Hid (RdT u t w5) := ho5.rd
  clear ho5 hb5
  go_wp2_with fail
  refine (HR.out _ _ HU5.out).mono ?_
  rintro e w6 ⟨rfl, hb6⟩
  have HB6 : Hid (Below w.heap.size w w6) := bel_trans HB5.out hb6
  clear hb6
  go_wp2
  go_ret
  exact ⟨rfl, HB6.out⟩

end Mf
end Go.Proofs.YtkpdaialfcegfaaDoor

/-
  sheet: the law's parts; hasMark, the closure of Print, slices.ContainsFunc over parts (written by mkwra.py).
-/
set_option linter.unusedVariables false
set_option linter.unusedSimpArgs false
namespace Go.Proofs.YtkpdaialfcegfaaDoor
open Go.RowKit Go.Shelf
namespace Wr
open Oc Tg Pt Mf

set_option maxRecDepth 100000 in
set_option maxHeartbeats 4000000 in
theorem parts15_any (v1 v2 : Value) (t : List P5) (w : World) (h1 : RdT v1 t w) (h2 : RdT v2 t w) (hl : t.length ≤ 4294967296) :
    Calls Tryd.prog 24 #[v1, v2] w fun e w' => e = .returned (.bool true) ∧ ∃ n, w' = w.drewN n := by
  obtain ⟨a1, c1, rfl, h1⟩ := h1
  obtain ⟨a2, c2, rfl, h2⟩ := h2
  have hne : ((t.length : Int) != (t.length : Int)) = false := by simp
  go_enter Tryd.func24, Tryd.ntmps24
  go_wp2
  go_loopw [5] (fun i wr => ∃ k : Nat, k ≤ t.length ∧ i = .int .i64 k ∧ Hid (∃ n, wr = w.drewN n)) (fun i _ => t.length - (intOf i).toNat)
  case atStart => exact ⟨0, Nat.zero_le _, rfl, (⟨0, rfl⟩ : ∃ n, w = w.drewN n)⟩
  case round =>
    obtain ⟨k, hk, rfl, hw⟩ := hrel
    obtain ⟨n, rfl⟩ := hw.out
    clear hw
    by_cases hlt : k < t.length
    · rcases h1 with h | ⟨g1, o1, rfl, hc1, hcell1⟩
      · rw [h] at hlt; simp at hlt
      rcases h2 with h | ⟨g2, o2, rfl, hc2, hcell2⟩
      · rw [h] at hlt; simp at hlt
      obtain ⟨p0, p1, p2, p3, p4⟩ := hcell1 k hlt
      obtain ⟨q0, q1, q2, q3, q4⟩ := hcell2 k hlt
      clear hcell1 hcell2
      generalize str (nthT t k).n = x0 at p0 q0
      generalize str (nthT t k).f = x1 at p1 q1
      generalize str (nthT t k).m = x2 at p2 q2
      generalize str (nthT t k).b = x3 at p3 q3
      generalize (nthT t k).h = z at p4 q4
      have hz : (z != z) = false := by simp
      go_wp2_with fail
      go_quiet (fail)
      go_wp2
      go_roundw
      case rel => exact ⟨k + 1, by omega, by go_num, drawn_again w _ _⟩
      case measure => simp [intOf]; omega
    · go_wp2
      go_ret
      exact ⟨rfl, _, rfl⟩

set_option maxRecDepth 100000 in
set_option maxHeartbeats 2000000 in
theorem hasMark_any (p : P5) (b : List UInt8) (hp : szT p ≤ 1048576) (w : World) (hm : ML w) :
    Calls Tryd.prog 51 #[.agg #[.string (str p.n), .string (str p.f), .string (str p.m), .string (str p.b), .bool p.h], .string (str (45 :: 45 :: b))] w fun e w' => e = .returned (.bool (inP p b)) ∧ Below w.heap.size w w' := by
  unfold szT at hp
  have HS : Hid (∀ s : List UInt8, s.length ≤ 1048576 → ∀ W, ML W → Calls Tryd.prog 91 #[.string (str s), .string (str (45 :: 45 :: b))] W fun e w' => e = .returned (.bool (Lib.contains s (45 :: 45 :: b))) ∧ w' = W) := fun s hs W hW => by
    obtain ⟨m, hm⟩ := hW
    have h := Tryd.strings_Contains (str s) (str (45 :: 45 :: b)) m W (by rw [str_size]; omega) hm
    rw [str_list, str_list] at h
    exact h
  have S1 : Hid (∀ W, ML W → _) := fun W h => HS.out p.b (by omega) W h
  have S2 : Hid (∀ W, ML W → _) := fun W h => HS.out p.n (by omega) W h
  have S3 : Hid (∀ W, ML W → _) := fun W h => HS.out p.f (by omega) W h
  have S4 : Hid (∀ W, ML W → _) := fun W h => HS.out p.m (by omega) W h
  have HI : Hid (inP p b = (Lib.contains p.b (45 :: 45 :: b) || (Lib.contains p.n (45 :: 45 :: b) || (Lib.contains p.f (45 :: 45 :: b) || Lib.contains p.m (45 :: 45 :: b))))) := (rfl : _ = _)
  have HM : Hid (ML w) := hm
  clear hm HS hp
  generalize inP p b = IP at *
  generalize Lib.contains p.b (45 :: 45 :: b) = q1 at *
  generalize Lib.contains p.n (45 :: 45 :: b) = q2 at *
  generalize Lib.contains p.f (45 :: 45 :: b) = q3 at *
  generalize Lib.contains p.m (45 :: 45 :: b) = q4 at *
  generalize str p.n = N1 at *
  generalize str p.f = F1 at *
  generalize str p.m = M1 at *
  generalize str p.b = B1 at *
  generalize p.h = H1 at *
  generalize str (45 :: 45 :: b) = MK at *
  have i0 := fun W => index4_0 (.string B1) (.string N1) (.string F1) (.string M1) W
  have i1 := fun W => index4_1 (.string B1) (.string N1) (.string F1) (.string M1) W
  have i2 := fun W => index4_2 (.string B1) (.string N1) (.string F1) (.string M1) W
  have i3 := fun W => index4_3 (.string B1) (.string N1) (.string F1) (.string M1) W
  have HB1 : Hid (Below w.heap.size w (w.alloc (.cells #[.string N1, .string F1, .string M1, .string B1, .bool H1] 71))) := (Below.refl _ w).alloc (Nat.le_refl _) _
  go_enter Tryd.func51, Tryd.ntmps51
  go_wp2_with fail
  refine (textsOf_any _ _ _ _ _ _).mono ?_
  rintro e w2 ⟨rfl, hb2⟩
  have HB2 : Hid (Below w.heap.size w w2) := HB1.out.trans (hb2.mono HB1.out.size)
  have HM2 : Hid (ML w2) := HM.out.below HB2.out
  clear hb2 HB1
  go_wp2
  go_loopw [9] (fun iv wq => (Five2 iv True (q1 = false) (q1 = false ∧ q2 = false) (q1 = false ∧ q2 = false ∧ q3 = false) (q1 = false ∧ q2 = false ∧ q3 = false ∧ q4 = false)) ∧ w2 = wq) (fun iv _ => 4 - (intOf iv).toNat)
  case atStart => exact ⟨.inl ⟨rfl, trivial⟩, rfl⟩
  case round =>
    obtain ⟨hq, rfl⟩ := hrel
    rcases hq with ⟨rfl, hq⟩ | ⟨rfl, hq⟩ | ⟨rfl, hq⟩ | ⟨rfl, hq⟩ | ⟨rfl, hq⟩
    · cases q1 with
      | true =>
        have HV : Hid (IP = true) := (by rw [HI.out]; simp : IP = true)
        go_wp2_with fail
        refine (S1.out _ HM2.out).mono ?_
        rintro e w5 ⟨rfl, hw5⟩
        rw [hw5]
        clear hw5
        go_wp2
        go_ret
        exact ⟨by rw [HV.out]; rfl, HB2.out⟩
      | false =>
        have HQ : Hid ((false : Bool) = false) := (rfl : (false : Bool) = false)
        go_wp2_with fail
        refine (S1.out _ HM2.out).mono ?_
        rintro e w5 ⟨rfl, hw5⟩
        rw [hw5]
        clear hw5
        go_wp2
        go_roundw
        case rel => first | exact ⟨.inr (.inl ⟨rfl, HQ⟩), rfl⟩ | exact ⟨.inr (.inl ⟨rfl, HQ⟩), trivial⟩
        case measure => simp [intOf]
    · cases q2 with
      | true =>
        have HV : Hid (IP = true) := (by have h1 := hq.out; rw [HI.out, h1]; simp : IP = true)
        go_wp2_with fail
        refine (S2.out _ HM2.out).mono ?_
        rintro e w5 ⟨rfl, hw5⟩
        rw [hw5]
        clear hw5
        go_wp2
        go_ret
        exact ⟨by rw [HV.out]; rfl, HB2.out⟩
      | false =>
        have HQ : Hid (q1 = false ∧ (false : Bool) = false) := (by have h1 := hq.out; exact ⟨h1, rfl⟩ : q1 = false ∧ (false : Bool) = false)
        go_wp2_with fail
        refine (S2.out _ HM2.out).mono ?_
        rintro e w5 ⟨rfl, hw5⟩
        rw [hw5]
        clear hw5
        go_wp2
        go_roundw
        case rel => first | exact ⟨.inr (.inr (.inl ⟨rfl, HQ⟩)), rfl⟩ | exact ⟨.inr (.inr (.inl ⟨rfl, HQ⟩)), trivial⟩
        case measure => simp [intOf]
    · cases q3 with
      | true =>
        have HV : Hid (IP = true) := (by obtain ⟨h1, h2⟩ := hq.out; rw [HI.out, h1, h2]; simp : IP = true)
        go_wp2_with fail
        refine (S3.out _ HM2.out).mono ?_
        rintro e w5 ⟨rfl, hw5⟩
        rw [hw5]
        clear hw5
        go_wp2
        go_ret
        exact ⟨by rw [HV.out]; rfl, HB2.out⟩
      | false =>
        have HQ : Hid (q1 = false ∧ q2 = false ∧ (false : Bool) = false) := (by obtain ⟨h1, h2⟩ := hq.out; exact ⟨h1, h2, rfl⟩ : q1 = false ∧ q2 = false ∧ (false : Bool) = false)
        go_wp2_with fail
        refine (S3.out _ HM2.out).mono ?_
        rintro e w5 ⟨rfl, hw5⟩
        rw [hw5]
        clear hw5
        go_wp2
        go_roundw
        case rel => first | exact ⟨.inr (.inr (.inr (.inl ⟨rfl, HQ⟩))), rfl⟩ | exact ⟨.inr (.inr (.inr (.inl ⟨rfl, HQ⟩))), trivial⟩
        case measure => simp [intOf]
    · cases q4 with
      | true =>
        have HV : Hid (IP = true) := (by obtain ⟨h1, h2, h3⟩ := hq.out; rw [HI.out, h1, h2, h3]; simp : IP = true)
        go_wp2_with fail
        refine (S4.out _ HM2.out).mono ?_
        rintro e w5 ⟨rfl, hw5⟩
        rw [hw5]
        clear hw5
        go_wp2
        go_ret
        exact ⟨by rw [HV.out]; rfl, HB2.out⟩
      | false =>
        have HQ : Hid (q1 = false ∧ q2 = false ∧ q3 = false ∧ (false : Bool) = false) := (by obtain ⟨h1, h2, h3⟩ := hq.out; exact ⟨h1, h2, h3, rfl⟩ : q1 = false ∧ q2 = false ∧ q3 = false ∧ (false : Bool) = false)
        go_wp2_with fail
        refine (S4.out _ HM2.out).mono ?_
        rintro e w5 ⟨rfl, hw5⟩
        rw [hw5]
        clear hw5
        go_wp2
        go_roundw
        case rel => first | exact ⟨.inr (.inr (.inr (.inr ⟨rfl, HQ⟩))), rfl⟩ | exact ⟨.inr (.inr (.inr (.inr ⟨rfl, HQ⟩))), trivial⟩
        case measure => simp [intOf]
    · have HV : Hid (IP = false) := (by obtain ⟨h1, h2, h3, h4⟩ := hq.out; rw [HI.out, h1, h2, h3, h4]; rfl : IP = false)
      go_wp2
      go_ret
      exact ⟨by rw [HV.out]; rfl, HB2.out⟩

set_option maxRecDepth 100000 in
set_option maxHeartbeats 1000000 in
theorem marked_any (p : P5) (b : List UInt8) (hp : szT p ≤ 1048576) (B : Nat) (w : World) (hm : ML w) (hB : w.cell? ⟨B, 0, none⟩ = some (.string (str (45 :: 45 :: b)))) (hBl : B < w.heap.size) :
    Calls Tryd.prog 50 #[.agg #[.string (str p.n), .string (str p.f), .string (str p.m), .string (str p.b), .bool p.h], .pointer (some ⟨B, 0, none⟩)] w fun e w' => e = .returned (.bool (inP p b)) ∧ Below w.heap.size w w' := by
  have HH : Hid (∀ W, ML W → _) := fun W h => hasMark_any p b hp W h
  have HB1 : Hid (Below w.heap.size w (w.alloc (.cells #[.string (str p.n), .string (str p.f), .string (str p.m), .string (str p.b), .bool p.h] 71))) := (Below.refl _ w).alloc (Nat.le_refl _) _
  have HM : Hid (ML w) := hm
  clear hm
  generalize inP p b = IP at *
  generalize str p.n = N1 at *
  generalize str p.f = F1 at *
  generalize str p.m = M1 at *
  generalize str p.b = B1 at *
  generalize p.h = H1 at *
  generalize str (45 :: 45 :: b) = MK at *
  go_enter Tryd.func50, Tryd.ntmps50
  go_wp2_with fail
  refine (HH.out _ (HM.out.below HB1.out)).mono ?_
  rintro e w2 ⟨rfl, hb2⟩
  have HB2 : Hid (Below w.heap.size w w2) := HB1.out.trans (hb2.mono HB1.out.size)
  clear hb2
  go_wp2
  go_ret
  exact ⟨rfl, HB2.out⟩

def idxP (f : P5 → Bool) (t : List P5) : Int := match t.findIdx? f with | some k => (k : Int) | none => -1
theorem idxP_at {f : P5 → Bool} {t : List P5} {k : Nat} (hk : k < t.length) (h : f (nthT t k) = true) (hall : ∀ j, j < k → f (nthT t j) = false) : idxP f t = k := by
  unfold idxP
  have e : t.findIdx? f = some k := by
    rw [List.findIdx?_eq_some_iff_getElem]
    have en : ∀ j (hj : j < t.length), nthT t j = t[j] := fun j hj => by unfold nthT; rw [List.getD_eq_getElem?_getD, List.getElem?_eq_getElem hj]; rfl
    refine ⟨hk, by rw [← en k hk]; exact h, fun j hj => ?_⟩
    have := hall j hj
    rw [en j (by omega)] at this
    simp [this]
  rw [e]
theorem idxP_none {f : P5 → Bool} {t : List P5} (hall : ∀ j, j < t.length → f (nthT t j) = false) : idxP f t = -1 := by
  unfold idxP
  have e : t.findIdx? f = none := by
    rw [List.findIdx?_eq_none_iff]
    intro x hx
    obtain ⟨j, hj, rfl⟩ := List.getElem_of_mem hx
    have := hall j hj
    unfold nthT at this
    rw [List.getD_eq_getElem?_getD, List.getElem?_eq_getElem hj] at this
    exact this
  rw [e]
theorem idxP_any (f : P5 → Bool) (t : List P5) : decide (0 ≤ idxP f t) = t.any f := by
  unfold idxP
  cases h : t.findIdx? f with
  | none =>
    rw [List.findIdx?_eq_none_iff] at h
    have : t.any f = false := by rw [List.any_eq_false]; intro x hx; simp [h x hx]
    rw [this]; rfl
  | some k =>
    rw [List.findIdx?_eq_some_iff_getElem] at h
    obtain ⟨hk, hf, _⟩ := h
    have : t.any f = true := by rw [List.any_eq_true]; exact ⟨t[k], List.getElem_mem hk, hf⟩
    rw [this]
    simp

set_option maxRecDepth 100000 in
set_option maxHeartbeats 2000000 in
theorem IndexFunc_P (v : Value) (t : List P5) (hb : t.length + sumT t ≤ 1048576) (b : List UInt8) (B : Nat) (w : World) (hm : ML w) (hB : w.cell? ⟨B, 0, none⟩ = some (.string (str (45 :: 45 :: b)))) (hBl : B < w.heap.size) (hrd : RdT v t w) :
    Calls Tryd.prog 92 #[v, .func (.func 50) #[] #[.pointer (some ⟨B, 0, none⟩)]] w fun e w' => e = .returned (.int .i64 (idxP (fun p => inP p b) t)) ∧ Below w.heap.size w w' := by
  have HR : Hid (RdT v t w) := hrd
  obtain ⟨a, c, rfl, _⟩ := hrd
  have HM : Hid (ML w) := hm
  have HBx : Hid (w.cell? ⟨B, 0, none⟩ = some (.string (str (45 :: 45 :: b)))) := hB
  clear hm hB
  go_enter Tryd.func92, Tryd.ntmps92
  go_wp2
  go_loopw [8] (fun i wr => ∃ k : Nat, k ≤ t.length ∧ i = .int .i64 k ∧ Hid (∀ j, j < k → inP (nthT t j) b = false) ∧ Hid (Below w.heap.size w wr)) (fun i _ => t.length - (intOf i).toNat)
  case atStart => exact ⟨0, Nat.zero_le _, rfl, (fun j hj => absurd hj (Nat.not_lt_zero _) : ∀ j, j < 0 → _), Below.refl _ _⟩
  case round =>
    obtain ⟨k, hk, rfl, hall, hbl⟩ := hrel
    by_cases hlt : k < t.length
    · obtain ⟨a', c', e', hcs⟩ := HR.out.below hbl.out
      injection e' with e1 _ e2
      subst e1 e2
      rcases hcs with h | ⟨g, o, rfl, hlc, hcell⟩
      · rw [h] at hlt; simp at hlt
      obtain ⟨p0, p1, p2, p3, p4⟩ := hcell k hlt
      clear hcell
      have hsz := szT_le t k hlt
      have HN : Hid (Calls Tryd.prog 50 #[.agg #[.string (str (nthT t k).n), .string (str (nthT t k).f), .string (str (nthT t k).m), .string (str (nthT t k).b), .bool (nthT t k).h], .pointer (some ⟨B, 0, none⟩)] wr fun e w' => e = .returned (.bool (inP (nthT t k) b)) ∧ Below wr.heap.size wr w') :=
        marked_any (nthT t k) b (by omega) B wr (HM.out.below hbl.out) ((hbl.out.cell (p := ⟨B, 0, none⟩) hBl).trans HBx.out) (Nat.lt_of_lt_of_le hBl hbl.out.size)
      have HT : inP (nthT t k) b = true → Hid (idxP (fun p => inP p b) t = k) := fun h => idxP_at (f := fun p => inP p b) hlt h hall.out
      have HF : inP (nthT t k) b = false → Hid (∀ j, j < k + 1 → inP (nthT t j) b = false) := fun h j hj => by
        by_cases hjk : j = k
        · subst hjk; exact h
        · exact hall.out j (by omega)
      generalize str (nthT t k).n = X0 at p0 HN
      generalize str (nthT t k).f = X1 at p1 HN
      generalize str (nthT t k).m = X2 at p2 HN
      generalize str (nthT t k).b = X3 at p3 HN
      generalize inP (nthT t k) b = q at HN HT HF
      generalize (nthT t k).h = Z at p4 HN
      cases q with
      | true =>
        have HT2 := HT rfl
        clear HT HF
        go_wp2_with fail
        refine HN.out.mono ?_
        rintro e w2 ⟨rfl, hb2⟩
        have HB2 : Hid (Below w.heap.size w w2) := bel_trans hbl.out hb2
        clear hb2
        go_wp2
        go_ret
        exact ⟨ret_int HT2.out.symm, HB2.out⟩
      | false =>
        have HF2 := HF rfl
        clear HT HF
        go_wp2_with fail
        refine HN.out.mono ?_
        rintro e w2 ⟨rfl, hb2⟩
        have HB2 : Hid (Below w.heap.size w w2) := bel_trans hbl.out hb2
        clear hb2
        go_wp2
        go_roundw
        case rel => exact ⟨k + 1, by omega, by go_num, HF2, HB2⟩
        case measure => simp [intOf]; omega
    · have HE : Hid (idxP (fun p => inP p b) t = -1) := idxP_none (fun j hj => hall.out j (by omega))
      go_wp2
      go_ret
      exact ⟨ret_int HE.out.symm, hbl.out⟩

set_option maxRecDepth 100000 in
set_option maxHeartbeats 1000000 in
theorem ContainsFunc_P (v : Value) (t : List P5) (hb : t.length + sumT t ≤ 1048576) (b : List UInt8) (B : Nat) (w : World) (hm : ML w) (hB : w.cell? ⟨B, 0, none⟩ = some (.string (str (45 :: 45 :: b)))) (hBl : B < w.heap.size) (hrd : RdT v t w) :
    Calls Tryd.prog 52 #[v, .func (.func 50) #[] #[.pointer (some ⟨B, 0, none⟩)]] w fun e w' => e = .returned (.bool (standsR t b)) ∧ Below w.heap.size w w' := by
  have H := IndexFunc_P v t hb b B w hm hB hBl hrd
  have HA : Hid (decide (0 ≤ idxP (fun p => inP p b) t) = standsR t b) := idxP_any _ _
  clear hrd hB hm
  generalize idxP (fun p => inP p b) t = z at *
  generalize standsR t b = q at *
  go_enter Tryd.func52, Tryd.ntmps52
  go_wp2_with fail
  refine H.mono ?_
  rintro e w2 ⟨rfl, hb2⟩
  go_wp2
  go_ret
  exact ⟨ret_bool HA.out, hb2⟩

end Wr
end Go.Proofs.YtkpdaialfcegfaaDoor
