/-
  sheet: Boundary, both; SheetMarks.
-/
import Derived.Test.YtndglpjkmgcdpaaGreatDoorMgY
import Derived.Test.YtndglpjkmgcdpaaGreatDoorMgT
set_option linter.unusedVariables false
set_option linter.unusedSimpArgs false
namespace Go.Proofs.YtndglpjkmgcdpaaGreatDoor
open Go.RowKit Go.Shelf
namespace Mf
open Oc Tg Pt

theorem itoaD (k : Nat) : Lib.itoa (k : Int) = D k := by
  unfold Lib.itoa
  rw [if_neg (by omega)]
  rfl
theorem itoa_len (k : Nat) (h : k ≤ 1048576) : (Lib.itoa (k : Int)).length ≤ 22 := by
  have := decD_len (k : Int) (by omega) (by omega)
  by_cases h0 : k = 0
  · subst h0
    rw [show ((0 : Nat) : Int) = 0 from rfl, itoa_zero]
    decide
  · rw [itoa_decD _ (by omega), if_neg (by omega)]
    simpa using Nat.le_succ_of_le this
def formL : List UInt8 := [102, 111, 114, 109]
theorem ext_list2 (s : ByteArray) (a b : Nat) : (s.extract a b).data.toList = (s.data.toList.drop a).take (b - a) := by
  rw [ByteArray.data_extract, Array.toList_extract, List.extract_eq_take_drop]
theorem occ_ext (b s : ByteArray) (k : Nat) : ((b.extract k (k + s.size)).toList == s.toList) = Lib.occAt b.data.toList s.data.toList k := by
  rw [eq_toList]
  unfold Lib.occAt
  rw [Bool.eq_iff_iff, decide_eq_true_iff, List.isPrefixOf_iff_prefix, List.prefix_iff_eq_take, size_list]
  constructor
  · intro h
    have := congrArg (fun x : ByteArray => x.data.toList) h
    rw [ext_list2, Nat.add_sub_cancel_left] at this
    exact this.symm
  · intro h
    apply eq_list
    rw [ext_list2, Nat.add_sub_cancel_left]
    exact h.symm

set_option maxRecDepth 100000 in
set_option maxHeartbeats 1000000 in
theorem Stands_any (b s : ByteArray) (hb : b.size ≤ 16777216) (h0 : 0 < s.size) (hs : s.size ≤ 16777216) (w : World) :
    Calls Tryz.prog 14 #[.string b, .string s] w fun e w' => e = .returned (.bool (Lib.contains b.data.toList s.data.toList)) ∧ w' = w := by
  have HH : Hid (∀ k, k ≤ b.size → Lib.NoOcc b.data.toList s.data.toList k → Lib.occAt b.data.toList s.data.toList k = true → Lib.contains b.data.toList s.data.toList = true) := fun k hk hn ho => by
    unfold Lib.contains
    rw [Lib.index_hit hn (by rw [size_list]; exact hk) ho]
    simp
  have HP : Hid (∀ k, Lib.NoOcc b.data.toList s.data.toList k → b.size < k + s.size → Lib.contains b.data.toList s.data.toList = false) := fun k hn hk => by
    unfold Lib.contains
    rw [Lib.index_past (by intro e; rw [← size_list, e] at h0; simp at h0) hn (by rw [size_list, size_list]; exact hk)]
    rfl
  have HO : Hid (∀ k, ((b.extract k (k + s.size)).toList == s.toList) = Lib.occAt b.data.toList s.data.toList k) := fun k => occ_ext b s k
  have HSu : Hid (∀ k, Lib.NoOcc b.data.toList s.data.toList k → Lib.occAt b.data.toList s.data.toList k = false → Lib.NoOcc b.data.toList s.data.toList (k + 1)) := fun k hn ho j hj => by
    by_cases e : j = k
    · rw [e]; exact ho
    · exact hn j (by omega)
  generalize Lib.contains b.data.toList s.data.toList = M at *
  go_enter Tryz.func14, Tryz.ntmps14
  go_wp2
  go_loop [5] (fun i => ∃ k : Nat, k ≤ b.size + 1 ∧ i = .int .i64 k ∧ Hid (Lib.NoOcc b.data.toList s.data.toList k)) (fun i => b.size + 1 - (intOf i).toNat)
  case atStart => exact ⟨0, Nat.zero_le _, rfl, Lib.NoOcc.zero _ _⟩
  case round =>
    obtain ⟨k, hk, rfl, hn⟩ := hrel
    by_cases hle : k + s.size ≤ b.size
    · have hle' : (k : Int) + (s.size : Int) ≤ (b.size : Int) := by omega
      have hok := HO.out k
      have HT : Hid (Lib.occAt b.data.toList s.data.toList k = true → M = true) := HH.out k (by omega) hn.out
      have HF : Hid (Lib.occAt b.data.toList s.data.toList k = false → Lib.NoOcc b.data.toList s.data.toList (k + 1)) := HSu.out k hn.out
      generalize Lib.occAt b.data.toList s.data.toList k = o at *
      cases o with
      | true =>
        have hM : Hid (M = true) := HT.out rfl
        clear HT HF
        go_wp2
        go_ret
        rw [hM.out]
        exact ⟨rfl, rfl⟩
      | false =>
        have HN : Hid (Lib.NoOcc b.data.toList s.data.toList (k + 1)) := HF.out rfl
        clear HT HF
        go_wp2
        go_round
        case rel => exact ⟨k + 1, by omega, by go_num, HN⟩
        case measure => simp [intOf]; omega
    · have hM : Hid (M = false) := HP.out k hn.out (by omega)
      have hle' : ¬ (k : Int) + (s.size : Int) ≤ (b.size : Int) := by omega
      go_wp2
      go_ret
      rw [hM.out]
      exact ⟨rfl, rfl⟩

set_option maxRecDepth 100000 in
set_option maxHeartbeats 2000000 in
theorem Boundary_any (v : Value) (t : List P5) (hb : t.length + sumT t ≤ 1048576) (N : Nat) (hN : N ≤ sumT t) (hfree : ¬ stdL (txs t) N) (hall : ∀ m, m < N → stdL (txs t) m) (w : World) (hr : RdT v t w) (hw : ML w) (hp : Pow w) (hw1 : 1 + 1 ≤ w.heap.size) :
    Calls Tryz.prog 7 #[v] w fun e w' => e = .returned (.string (str (formL ++ D N))) ∧ Below w.heap.size w w' := by
  have HT : Hid (Calls Tryz.prog 16 #[v] w fun e w' => ∃ M n ks, e = .returned (.map (some M)) ∧ MI M n ks w' ∧ (∀ m, m ∈ ks ↔ m ≤ sumT t ∧ stdL (txs t) m) ∧ Below w.heap.size w w') := takenNumbers_any v t hb w hr hw hw1
  have HD : Hid (∀ W, Below w.heap.size w W → Calls Tryz.prog 17 #[.int .i64 (N : Int)] W fun e w' => e = .returned (.string (str (Lib.itoa (N : Int)))) ∧ Below (World.heap W).size W w') := fun W bl => Digits_any (N : Int) (by omega) (by omega) W (hp.below bl (Nat.le_refl _))
  have HL : Hid ((Lib.itoa (N : Int)).length ≤ 22) := itoa_len N (by omega)
  have HE : Hid (str formL ++ str (Lib.itoa (N : Int)) = str (formL ++ D N)) := (by rw [cat_str, str_list, itoaD] : _ = _)
  have zI : (str (Lib.itoa (N : Int))).size ≤ 22 := by rw [str_size]; exact HL.out
  obtain ⟨a, c, rfl, _⟩ := hr
  clear hw hp
  generalize str (formL ++ D N) = R at *
  generalize str (Lib.itoa (N : Int)) = I at *
  go_enter Tryz.func7, Tryz.ntmps7
  go_wp2_with fail
  refine HT.out.mono ?_
  rintro e w1 ⟨M, n, ks, rfl, hm, hks, hb1⟩
  have HM : Hid (MI M n ks w1) := hm
  have HB1 : Hid (Below w.heap.size w w1) := hb1
  have HIn : Hid (∀ k, k < N → k ∈ ks) := fun k hk => (hks k).2 ⟨by omega, hall k hk⟩
  have HOut : Hid (N ∉ ks) := fun h => hfree ((hks N).1 h).2
  clear hm hb1 hks hfree hall
  go_wp2
  go_loopw [4] (fun nv wr => ∃ k : Nat, k ≤ N ∧ nv = .int .i64 (k : Int) ∧ Hid (Below w1.heap.size w1 wr)) (fun nv _ => N - (intOf nv).toNat)
  case atStart => exact ⟨0, Nat.zero_le _, rfl, Below.refl _ _⟩
  case round =>
    obtain ⟨k, hk, rfl, hbl⟩ := hrel
    have hlk := look_MI (HM.out.below hbl.out) k (by omega)
    have hb2 : Below w1.heap.size w1 (wr.alloc (.cells #[] 47)) := hbl.out.alloc hbl.out.size _
    have HB2 : Hid (Below w1.heap.size w1 (wr.alloc (.cells #[] 47))) := hb2
    clear hb2
    by_cases hlt : k < N
    · rw [decide_eq_true (HIn.out k hlt)] at hlk
      go_wp2
      go_roundw
      case rel => exact ⟨k + 1, by omega, by go_num, HB2⟩
      case measure => simp [intOf]; omega
    · obtain rfl : k = N := by omega
      rw [decide_eq_false HOut.out] at hlk
      go_wp2_with fail
      refine (HD.out _ (bel_trans HB1.out HB2.out)).mono ?_
      rintro e w3 ⟨rfl, hb3⟩
      have HB3 : Hid (Below w.heap.size w w3) := bel_trans (bel_trans HB1.out HB2.out) hb3
      clear hb3
      have hsum : ¬ (9223372036854775807 : Int) < (4 : Int) + (I.size : Int) := by omega
      go_wp2
      go_ret
      refine ⟨?_, HB3.out⟩
      rw [← HE.out]
      rfl

/-- Does a boundary stand in one of some parts, with -- ahead of it? -/
def inP (p : P5) (b : List UInt8) : Bool := Lib.contains p.b (45 :: 45 :: b) || (Lib.contains p.n (45 :: 45 :: b) || (Lib.contains p.f (45 :: 45 :: b) || Lib.contains p.m (45 :: 45 :: b)))
def standsR (t : List P5) (b : List UInt8) : Bool := t.any fun p => inP p b
theorem stands_std (t : List P5) (n : Nat) : standsR t (formL ++ D n) = true ↔ stdL (txs t) n := by
  have e : (45 : UInt8) :: 45 :: (formL ++ D n) = PP ++ D n := rfl
  unfold standsR
  rw [List.any_eq_true, stdL_iff]
  constructor
  · rintro ⟨p, hp, h⟩
    unfold inP at h
    rw [e] at h
    simp only [Bool.or_eq_true] at h
    have hm : ∀ s ∈ tx4 p, s ∈ txs t := fun s hs => List.mem_flatMap.2 ⟨p, hp, hs⟩
    rcases h with h | h | h | h
    · exact ⟨p.b, hm _ (by simp [tx4]), (std_iff _ _).1 h⟩
    · exact ⟨p.n, hm _ (by simp [tx4]), (std_iff _ _).1 h⟩
    · exact ⟨p.f, hm _ (by simp [tx4]), (std_iff _ _).1 h⟩
    · exact ⟨p.m, hm _ (by simp [tx4]), (std_iff _ _).1 h⟩
  · rintro ⟨s, hs, h⟩
    obtain ⟨p, hp, hq⟩ := List.mem_flatMap.1 hs
    have h' := (std_iff _ _).2 h
    refine ⟨p, hp, ?_⟩
    unfold inP
    rw [e]
    simp only [Bool.or_eq_true]
    simp only [tx4, List.mem_cons, List.not_mem_nil, or_false] at hq
    rcases hq with rfl | rfl | rfl | rfl
    · exact .inl h'
    · exact .inr (.inl h')
    · exact .inr (.inr (.inl h'))
    · exact .inr (.inr (.inr h'))

set_option maxRecDepth 100000 in
set_option maxHeartbeats 4000000 in
theorem stands_any (v : Value) (t : List P5) (hb : t.length + sumT t ≤ 1048576) (b : List UInt8) (hbl : b.length ≤ 1048576) (w : World) (hr : RdT v t w) :
    Calls Tryz.prog 26 #[v, .string (str b)] w fun e w' => e = .returned (.bool (standsR t b)) ∧ Below w.heap.size w w' := by
  obtain ⟨a, c, rfl, hcs⟩ := hr
  have HC : Hid (t = [] ∨ ∃ g o, a = some ⟨g, o, none⟩ ∧ t.length ≤ c ∧ ∀ j, j < t.length → CellT w g (o + j * 5) (nthT t j)) := hcs
  have HSt : Hid (∀ s : List UInt8, s.length ≤ 1048576 → ∀ W, Calls Tryz.prog 14 #[.string (str s), .string (⟨#[45, 45]⟩ ++ str b)] W fun e w' => e = .returned (.bool (Lib.contains s (45 :: 45 :: b))) ∧ w' = W) := fun s hs W => by
    have e : (⟨#[45, 45]⟩ : ByteArray) ++ str b = str (45 :: 45 :: b) := by
      rw [show (⟨#[45, 45]⟩ : ByteArray) = str [45, 45] from rfl, cat_str, str_list]
      rfl
    have h := Stands_any (str s) (str (45 :: 45 :: b)) (by rw [str_size]; omega) (by rw [str_size]; simp) (by rw [str_size]; simp; omega) W
    rw [str_list, str_list] at h
    rw [e]
    exact h
  have hbz : (str b).size ≤ 1048576 := by rw [str_size]; exact hbl
  have HAll : Hid (∀ k, k ≤ t.length → (t.take k).any (fun p => inP p b) = false → k < t.length → inP (nthT t k) b = true → standsR t b = true) := fun k hk _ hlt h => by
    unfold standsR
    rw [List.any_eq_true]
    refine ⟨nthT t k, ?_, h⟩
    unfold nthT
    rw [List.getD_eq_getElem?_getD, List.getElem?_eq_getElem hlt]
    exact List.getElem_mem hlt
  have HDone : Hid ((t.take t.length).any (fun p => inP p b) = false → standsR t b = false) := fun h => by rw [List.take_length] at h; exact h
  clear hcs
  generalize standsR t b = V at *
  generalize str b = SB at *
  go_enter Tryz.func26, Tryz.ntmps26
  go_wp2
  go_loopw [5] (fun iv wr => ∃ k : Nat, k ≤ t.length ∧ iv = .int .i64 k ∧ Hid ((t.take k).any (fun p => inP p b) = false) ∧ Hid (Below w.heap.size w wr)) (fun iv _ => t.length - (intOf iv).toNat)
  case atStart => exact ⟨0, Nat.zero_le _, rfl, (rfl : (t.take 0).any (fun p => inP p b) = false), Below.refl _ _⟩
  case round =>
    obtain ⟨k, hk, rfl, hA, hblw⟩ := hrel
    by_cases hlt : k < t.length
    · rcases HC.out with h | ⟨g, o, rfl, hcap, hcell⟩
      · rw [h] at hlt; simp at hlt
      have hck := hcell k hlt
      have hg : g < w.heap.size := World.block_lt_of_cell? w _ hck.1
      obtain ⟨d0, d1, d2, d3, d4⟩ := hck.below hblw.out hg
      clear hcell hck
      have hsz := szT_le t k hlt
      unfold szT at hsz
      have HY : Hid (inP (nthT t k) b = true → V = true) := HAll.out k hk hA.out hlt
      have HNx : Hid (inP (nthT t k) b = false → (t.take (k + 1)).any (fun p => inP p b) = false) := fun h => by rw [take_nthT t k hlt, List.any_append, hA.out]; simp [h]
      generalize nthT t k = p at *
      have S1 : Hid (∀ W, _) := fun W => HSt.out p.b (by omega) W
      have S2 : Hid (∀ W, _) := fun W => HSt.out p.n (by omega) W
      have S3 : Hid (∀ W, _) := fun W => HSt.out p.f (by omega) W
      have S4 : Hid (∀ W, _) := fun W => HSt.out p.m (by omega) W
      have HI : Hid (inP p b = (Lib.contains p.b (45 :: 45 :: b) || (Lib.contains p.n (45 :: 45 :: b) || (Lib.contains p.f (45 :: 45 :: b) || Lib.contains p.m (45 :: 45 :: b))))) := (rfl : _ = _)
      generalize inP p b = IP at *
      generalize Lib.contains p.b (45 :: 45 :: b) = q1 at *
      generalize Lib.contains p.n (45 :: 45 :: b) = q2 at *
      generalize Lib.contains p.f (45 :: 45 :: b) = q3 at *
      generalize Lib.contains p.m (45 :: 45 :: b) = q4 at *
      generalize str p.n = N1 at *
      generalize str p.f = F1 at *
      generalize str p.m = M1 at *
      generalize str p.b = B1 at *
      generalize p.h = H1 at *
      have HB1 : Hid (Below w.heap.size w (wr.alloc (.cells #[.string N1, .string F1, .string M1, .string B1, .bool H1] 44))) := hblw.out.alloc hblw.out.size _
      have hsum : ¬ (9223372036854775807 : Int) < (2 : Int) + (SB.size : Int) := by omega
      cases q1 with
      | true =>
        have HV : Hid (V = true) := HY.out (by rw [HI.out]; rfl)
        go_wp2_with fail
        refine (S1.out _).mono ?_
        rintro e w5 ⟨rfl, hw5⟩
        rw [hw5]
        clear hw5 w5
        go_wp2
        go_ret
        exact ⟨by rw [HV.out]; rfl, HB1.out⟩
      | false =>
        cases q2 with
        | true =>
          have HV : Hid (V = true) := HY.out (by rw [HI.out]; rfl)
          go_wp2_with fail
          refine (S1.out _).mono ?_
          rintro e w5 ⟨rfl, hw5⟩
          rw [hw5]
          clear hw5 w5
          go_wp2_with fail
          refine (S2.out _).mono ?_
          rintro e w5 ⟨rfl, hw5⟩
          rw [hw5]
          clear hw5 w5
          go_wp2
          go_ret
          exact ⟨by rw [HV.out]; rfl, HB1.out⟩
        | false =>
          cases q3 with
          | true =>
            have HV : Hid (V = true) := HY.out (by rw [HI.out]; rfl)
            go_wp2_with fail
            refine (S1.out _).mono ?_
            rintro e w5 ⟨rfl, hw5⟩
            rw [hw5]
            clear hw5 w5
            go_wp2_with fail
            refine (S2.out _).mono ?_
            rintro e w5 ⟨rfl, hw5⟩
            rw [hw5]
            clear hw5 w5
            go_wp2_with fail
            refine (S3.out _).mono ?_
            rintro e w5 ⟨rfl, hw5⟩
            rw [hw5]
            clear hw5 w5
            go_wp2
            go_ret
            exact ⟨by rw [HV.out]; rfl, HB1.out⟩
          | false =>
            cases q4 with
            | true =>
              have HV : Hid (V = true) := HY.out (by rw [HI.out]; rfl)
              go_wp2_with fail
              refine (S1.out _).mono ?_
              rintro e w5 ⟨rfl, hw5⟩
              rw [hw5]
              clear hw5 w5
              go_wp2_with fail
              refine (S2.out _).mono ?_
              rintro e w5 ⟨rfl, hw5⟩
              rw [hw5]
              clear hw5 w5
              go_wp2_with fail
              refine (S3.out _).mono ?_
              rintro e w5 ⟨rfl, hw5⟩
              rw [hw5]
              clear hw5 w5
              go_wp2_with fail
              refine (S4.out _).mono ?_
              rintro e w5 ⟨rfl, hw5⟩
              rw [hw5]
              clear hw5 w5
              go_wp2
              go_ret
              exact ⟨by rw [HV.out]; rfl, HB1.out⟩
            | false =>
              have HX : Hid ((t.take (k + 1)).any (fun p => inP p b) = false) := HNx.out (by rw [HI.out]; rfl)
              go_wp2_with fail
              refine (S1.out _).mono ?_
              rintro e w5 ⟨rfl, hw5⟩
              rw [hw5]
              clear hw5 w5
              go_wp2_with fail
              refine (S2.out _).mono ?_
              rintro e w5 ⟨rfl, hw5⟩
              rw [hw5]
              clear hw5 w5
              go_wp2_with fail
              refine (S3.out _).mono ?_
              rintro e w5 ⟨rfl, hw5⟩
              rw [hw5]
              clear hw5 w5
              go_wp2_with fail
              refine (S4.out _).mono ?_
              rintro e w5 ⟨rfl, hw5⟩
              rw [hw5]
              clear hw5 w5
              go_wp2
              go_roundw
              case rel => exact ⟨k + 1, by omega, by go_num, HX, HB1⟩
              case measure => simp [intOf]; omega
    · obtain rfl : k = t.length := by omega
      have HV : Hid (V = false) := HDone.out hA.out
      go_wp2
      go_ret
      exact ⟨by rw [HV.out]; rfl, hblw.out⟩

set_option maxRecDepth 100000 in
set_option maxHeartbeats 2000000 in
theorem rBoundary_any (v : Value) (t : List P5) (hb : t.length + sumT t ≤ 1048576) (N : Nat) (hN : N ≤ sumT t) (hfree : ¬ stdL (txs t) N) (hall : ∀ m, m < N → stdL (txs t) m) (w : World) (hr : RdT v t w) :
    Calls Tryz.prog 10 #[v] w fun e w' => e = .returned (.string (str (formL ++ D N))) ∧ Below w.heap.size w w' := by
  have HD : Hid (∀ k : Nat, k ≤ N → ∀ W, Calls Tryz.prog 30 #[.int .i64 (k : Int)] W fun e w' => e = .returned (.string (str (Lib.itoa (k : Int)))) ∧ Below (World.heap W).size W w') := fun k hk W => rDigits_any (k : Int) (by omega) (by omega) W
  have HS : Hid (∀ k : Nat, k ≤ N → ∀ W, RdT v t W → Calls Tryz.prog 26 #[v, .string (str formL ++ str (Lib.itoa (k : Int)))] W fun e w' => e = .returned (.bool (decide (k < N))) ∧ Below W.heap.size W w') := fun k hk W hW => by
    have hl := itoa_len k (by omega)
    have h := stands_any v t hb (formL ++ D k) (by rw [List.length_append, ← itoaD]; have : formL.length = 4 := rfl; omega) W hW
    rw [cat_str, str_list, itoaD]
    have e : standsR t (formL ++ D k) = decide (k < N) := by
      rw [Bool.eq_iff_iff, stands_std, decide_eq_true_iff]
      constructor
      · intro h
        refine Classical.byContradiction fun hc => ?_
        obtain rfl : k = N := by omega
        exact hfree h
      · exact fun h => hall k h
    rw [e] at h
    exact h
  have HE : Hid (str formL ++ str (Lib.itoa (N : Int)) = str (formL ++ D N)) := (by rw [cat_str, str_list, itoaD] : _ = _)
  have HZ : Hid (∀ k : Nat, k ≤ N → (str (Lib.itoa (k : Int))).size ≤ 22) := fun k hk => by rw [str_size]; exact itoa_len k (by omega)
  have HRd : Hid (RdT v t w) := hr
  obtain ⟨a, c, rfl, _⟩ := hr
  clear hfree hall
  generalize str (formL ++ D N) = R at *
  go_enter Tryz.func10, Tryz.ntmps10
  go_wp2
  go_loopw [3] (fun nv wr => ∃ k : Nat, k ≤ N ∧ nv = .int .i64 (k : Int) ∧ Hid (Below w.heap.size w wr)) (fun nv _ => N - (intOf nv).toNat)
  case atStart => exact ⟨0, Nat.zero_le _, rfl, Below.refl _ _⟩
  case round =>
    obtain ⟨k, hk, rfl, hbl⟩ := hrel
    have HDk : Hid (∀ W, _) := fun W => HD.out k hk W
    have HSk : Hid (∀ W, RdT _ t W → _) := fun W h => HS.out k hk W h
    have zI := HZ.out k hk
    have hsum : ¬ (9223372036854775807 : Int) < (6 : Int) + ((str (Lib.itoa (k : Int))).size : Int) := by omega
    have hsum4 : ¬ (9223372036854775807 : Int) < (4 : Int) + ((str (Lib.itoa (k : Int))).size : Int) := by omega
    by_cases hlt : k < N
    · rw [decide_eq_true hlt] at HSk
      generalize str (Lib.itoa (k : Int)) = I at *
      go_wp2_with fail
      refine (HDk.out _).mono ?_
      rintro e w2 ⟨rfl, hb2⟩
      have HB2 : Hid (Below w.heap.size w w2) := bel_trans hbl.out hb2
      clear hb2
      go_wp2_with fail
      rw [show (⟨#[102, 111, 114, 109]⟩ : ByteArray) = str formL from rfl]
      refine (HSk.out _ (HRd.out.below HB2.out)).mono ?_
      rintro e w3 ⟨rfl, hb3⟩
      have HB3 : Hid (Below w.heap.size w w3) := bel_trans HB2.out hb3
      clear hb3
      go_wp2
      go_roundw
      case rel => exact ⟨k + 1, by omega, by go_num, HB3⟩
      case measure => simp [intOf]; omega
    · obtain rfl : k = N := by omega
      rw [decide_eq_false hlt] at HSk
      generalize str (Lib.itoa (k : Int)) = I at *
      go_wp2_with fail
      refine (HDk.out _).mono ?_
      rintro e w2 ⟨rfl, hb2⟩
      have HB2 : Hid (Below w.heap.size w w2) := bel_trans hbl.out hb2
      clear hb2
      go_wp2_with fail
      rw [show (⟨#[102, 111, 114, 109]⟩ : ByteArray) = str formL from rfl]
      refine (HSk.out _ (HRd.out.below HB2.out)).mono ?_
      rintro e w3 ⟨rfl, hb3⟩
      have HB3 : Hid (Below w.heap.size w w3) := bel_trans HB2.out hb3
      clear hb3
      go_wp2
      go_ret
      refine ⟨?_, HB3.out⟩
      rw [← HE.out]
      rfl

end Mf
end Go.Proofs.YtndglpjkmgcdpaaGreatDoor
