/- Several texts as one. -/
import Derived.Test.YtfoepegndoippaaDoorZzF
import Derived.Test.YtfoepegndoippaaDoorZzM
import Derived.Test.YtfoepegndoippaaDoorRows
import Derived.Deep.DeepHandedRow
import Derived.Lay
import Derived.Stop.Joined
/-
  span: Boundary, the document's Stands and Boundary; SpanMarks.
-/
set_option linter.unusedVariables false
set_option linter.unusedSimpArgs false
namespace Go.Proofs.YtfoepegndoippaaDoor
open Go.RowKit Go.Shelf
namespace Sn
open Oc Tg Ac Mk

theorem itoaD (k : Nat) : Lib.itoa (k : Int) = D k := by
  unfold Lib.itoa
  rw [if_neg (by omega)]
  rfl
theorem itoa_len (k : Nat) (h : k ≤ 1048576) : (Lib.itoa (k : Int)).length ≤ 22 := by
  have := decD_len (k : Int) (by omega) (by omega)
  by_cases h0 : k = 0
  · subst h0
    rw [show ((0 : Nat) : Int) = 0 from rfl, itoa_zero]
    decide
  · rw [itoa_decD _ (by omega), if_neg (by omega)]
    simpa using Nat.le_succ_of_le this
def partL : List UInt8 := [112, 97, 114, 116]

theorem ext_list2 (s : ByteArray) (a b : Nat) : (s.extract a b).data.toList = (s.data.toList.drop a).take (b - a) := by
  rw [ByteArray.data_extract, Array.toList_extract, List.extract_eq_take_drop]
theorem occ_ext (b s : ByteArray) (k : Nat) : ((b.extract k (k + s.size)).toList == s.toList) = Lib.occAt b.data.toList s.data.toList k := by
  rw [eq_toList]
  unfold Lib.occAt
  rw [Bool.eq_iff_iff, decide_eq_true_iff, List.isPrefixOf_iff_prefix, List.prefix_iff_eq_take, size_list]
  constructor
  · intro h
    have := congrArg (fun x : ByteArray => x.data.toList) h
    rw [ext_list2, Nat.add_sub_cancel_left] at this
    exact this.symm
  · intro h
    apply eq_list
    rw [ext_list2, Nat.add_sub_cancel_left]
    exact h.symm

set_option maxRecDepth 100000 in
set_option maxHeartbeats 1000000 in
theorem Stands_any (b s : ByteArray) (hb : b.size ≤ 16777216) (h0 : 0 < s.size) (hs : s.size ≤ 16777216) (w : World) :
    Calls Tryd.prog 11 #[.string b, .string s] w fun e w' => e = .returned (.bool (Lib.contains b.data.toList s.data.toList)) ∧ w' = w := by
  have HH : Hid (∀ k, k ≤ b.size → Lib.NoOcc b.data.toList s.data.toList k → Lib.occAt b.data.toList s.data.toList k = true → Lib.contains b.data.toList s.data.toList = true) := fun k hk hn ho => by
    unfold Lib.contains
    rw [Lib.index_hit hn (by rw [size_list]; exact hk) ho]
    simp
  have HP : Hid (∀ k, Lib.NoOcc b.data.toList s.data.toList k → b.size < k + s.size → Lib.contains b.data.toList s.data.toList = false) := fun k hn hk => by
    unfold Lib.contains
    rw [Lib.index_past (by intro e; rw [← size_list, e] at h0; simp at h0) hn (by rw [size_list, size_list]; exact hk)]
    rfl
  have HO : Hid (∀ k, ((b.extract k (k + s.size)).toList == s.toList) = Lib.occAt b.data.toList s.data.toList k) := fun k => occ_ext b s k
  have HSu : Hid (∀ k, Lib.NoOcc b.data.toList s.data.toList k → Lib.occAt b.data.toList s.data.toList k = false → Lib.NoOcc b.data.toList s.data.toList (k + 1)) := fun k hn ho j hj => by
    by_cases e : j = k
    · rw [e]; exact ho
    · exact hn j (by omega)
  generalize Lib.contains b.data.toList s.data.toList = M at *
  go_enter Tryd.func11, Tryd.ntmps11
  go_wp2
  go_loop [5] (fun i => ∃ k : Nat, k ≤ b.size + 1 ∧ i = .int .i64 k ∧ Hid (Lib.NoOcc b.data.toList s.data.toList k)) (fun i => b.size + 1 - (intOf i).toNat)
  case atStart => exact ⟨0, Nat.zero_le _, rfl, Lib.NoOcc.zero _ _⟩
  case round =>
    obtain ⟨k, hk, rfl, hn⟩ := hrel
    by_cases hle : k + s.size ≤ b.size
    · have hle' : (k : Int) + (s.size : Int) ≤ (b.size : Int) := by omega
      have hok := HO.out k
      have HT : Hid (Lib.occAt b.data.toList s.data.toList k = true → M = true) := HH.out k (by omega) hn.out
      have HF : Hid (Lib.occAt b.data.toList s.data.toList k = false → Lib.NoOcc b.data.toList s.data.toList (k + 1)) := HSu.out k hn.out
      generalize Lib.occAt b.data.toList s.data.toList k = o at *
      cases o with
      | true =>
        have hM : Hid (M = true) := HT.out rfl
        clear HT HF
        go_wp2
        go_ret
        rw [hM.out]
        exact ⟨rfl, rfl⟩
      | false =>
        have HN : Hid (Lib.NoOcc b.data.toList s.data.toList (k + 1)) := HF.out rfl
        clear HT HF
        go_wp2
        go_round
        case rel => exact ⟨k + 1, by omega, by go_num, HN⟩
        case measure => simp [intOf]; omega
    · have hM : Hid (M = false) := HP.out k hn.out (by omega)
      have hle' : ¬ (k : Int) + (s.size : Int) ≤ (b.size : Int) := by omega
      go_wp2
      go_ret
      rw [hM.out]
      exact ⟨rfl, rfl⟩

set_option maxRecDepth 100000 in
set_option maxHeartbeats 2000000 in
theorem Boundary_any (b : Bs) (hb : b.length ≤ 1048576) (N : Nat) (hN : N ≤ b.length) (hfree : ¬ std b N) (hall : ∀ m, m < N → std b m) (w : World) (hw : ML w) (hp : Pow w) :
    Calls Tryd.prog 5 #[.string (str b)] w fun e w' => e = .returned (.string (str (partL ++ D N))) ∧ Below w.heap.size w w' := by
  have HT : Hid (Calls Tryd.prog 9 #[.string (str b)] w fun e w' => ∃ n ks, e = .returned (.map (some w.heap.size)) ∧ MI w.heap.size n ks w' ∧ (∀ m, m ∈ ks ↔ m ≤ b.length ∧ std b m) ∧ Below w.heap.size w w') := taken_any b hb w hw
  have HD : Hid (∀ W, Below w.heap.size w W → Calls Tryd.prog 10 #[.int .i64 (N : Int)] W fun e w' => e = .returned (.string (str (Lib.itoa (N : Int)))) ∧ Below (World.heap W).size W w') := fun W bl => Digits_any (N : Int) (by omega) (by omega) W (hp.below bl (Nat.le_refl _))
  have HL : Hid ((Lib.itoa (N : Int)).length ≤ 22) := itoa_len N (by omega)
  have HE : Hid (str partL ++ str (Lib.itoa (N : Int)) = str (partL ++ D N)) := (by rw [cat_str, str_list, itoaD] : _ = _)
  have zI : (str (Lib.itoa (N : Int))).size ≤ 22 := by rw [str_size]; exact HL.out
  clear hw hp
  generalize str (partL ++ D N) = R at *
  generalize str (Lib.itoa (N : Int)) = I at *
  go_enter Tryd.func5, Tryd.ntmps5
  go_wp2_with fail
  refine HT.out.mono ?_
  rintro e w1 ⟨n, ks, rfl, hm, hks, hb1⟩
  have HM : Hid (MI w.heap.size n ks w1) := hm
  have HB1 : Hid (Below w.heap.size w w1) := hb1
  have HIn : Hid (∀ k, k < N → k ∈ ks) := fun k hk => (hks k).2 ⟨by omega, hall k hk⟩
  have HOut : Hid (N ∉ ks) := fun h => hfree ((hks N).1 h).2
  clear hm hb1 hks hfree hall
  go_wp2
  go_loopw [4] (fun nv wr => ∃ k : Nat, k ≤ N ∧ nv = .int .i64 (k : Int) ∧ Hid (Below w1.heap.size w1 wr)) (fun nv _ => N - (intOf nv).toNat)
  case atStart => exact ⟨0, Nat.zero_le _, rfl, Below.refl _ _⟩
  case round =>
    obtain ⟨k, hk, rfl, hbl⟩ := hrel
    have hlk := look_MI (HM.out.below hbl.out) k (by omega)
    have hb2 : Below w1.heap.size w1 (wr.alloc (.cells #[] 35)) := hbl.out.alloc hbl.out.size _
    have HB2 : Hid (Below w1.heap.size w1 (wr.alloc (.cells #[] 35))) := hb2
    clear hb2
    by_cases hlt : k < N
    · rw [decide_eq_true (HIn.out k hlt)] at hlk
      go_wp2
      go_roundw
      case rel => exact ⟨k + 1, by omega, by go_num, HB2⟩
      case measure => simp [intOf]; omega
    · obtain rfl : k = N := by omega
      rw [decide_eq_false HOut.out] at hlk
      go_wp2_with fail
      refine (HD.out _ (bel_trans HB1.out HB2.out)).mono ?_
      rintro e w3 ⟨rfl, hb3⟩
      have HB3 : Hid (Below w.heap.size w w3) := bel_trans (bel_trans HB1.out HB2.out) hb3
      clear hb3
      have hsum : ¬ (9223372036854775807 : Int) < (4 : Int) + (I.size : Int) := by omega
      go_wp2
      go_ret
      refine ⟨?_, HB3.out⟩
      rw [← HE.out]
      rfl

set_option maxRecDepth 100000 in
set_option maxHeartbeats 2000000 in
theorem rBoundary_any (b : Bs) (hb : b.length ≤ 1048576) (N : Nat) (hN : N ≤ b.length) (hfree : ¬ std b N) (hall : ∀ m, m < N → std b m) (w : World) :
    Calls Tryd.prog 6 #[.string (str b)] w fun e w' => e = .returned (.string (str (partL ++ D N))) ∧ Below w.heap.size w w' := by
  have HD : Hid (∀ k : Nat, k ≤ N → ∀ W, Calls Tryd.prog 12 #[.int .i64 (k : Int)] W fun e w' => e = .returned (.string (str (Lib.itoa (k : Int)))) ∧ Below (World.heap W).size W w') := fun k hk W => rDigits_any (k : Int) (by omega) (by omega) W
  have HS : Hid (∀ k : Nat, k ≤ N → ∀ W, Calls Tryd.prog 11 #[.string (str b), .string (str PP ++ str (Lib.itoa (k : Int)))] W fun e w' => e = .returned (.bool (decide (k < N))) ∧ w' = W) := fun k hk W => by
    have hl := itoa_len k (by omega)
    have h := Stands_any (str b) (str PP ++ str (Lib.itoa (k : Int))) (by rw [str_size]; omega) (by rw [cat_str, str_size]; simp [PP]) (by rw [cat_str, str_size, str_list, List.length_append]; have : PP.length = 6 := rfl; omega) W
    rw [str_list, cat_str, str_list, str_list, itoaD] at h
    rw [cat_str, str_list, itoaD]
    have e : Lib.contains b (PP ++ D k) = decide (k < N) := by
      rw [Bool.eq_iff_iff, std_iff, decide_eq_true_iff]
      constructor
      · intro h
        refine Classical.byContradiction fun hc => ?_
        obtain rfl : k = N := by omega
        exact hfree h
      · exact fun h => hall k h
    rw [e] at h
    exact h
  have HE : Hid (str partL ++ str (Lib.itoa (N : Int)) = str (partL ++ D N)) := (by rw [cat_str, str_list, itoaD] : _ = _)
  have HZ : Hid (∀ k : Nat, k ≤ N → (str (Lib.itoa (k : Int))).size ≤ 22) := fun k hk => by rw [str_size]; exact itoa_len k (by omega)
  clear hfree hall
  generalize str (partL ++ D N) = R at *
  go_enter Tryd.func6, Tryd.ntmps6
  go_wp2
  go_loopw [3] (fun nv wr => ∃ k : Nat, k ≤ N ∧ nv = .int .i64 (k : Int) ∧ Hid (Below w.heap.size w wr)) (fun nv _ => N - (intOf nv).toNat)
  case atStart => exact ⟨0, Nat.zero_le _, rfl, Below.refl _ _⟩
  case round =>
    obtain ⟨k, hk, rfl, hbl⟩ := hrel
    have HDk : Hid (∀ W, _) := fun W => HD.out k hk W
    have HSk : Hid (∀ W, _) := fun W => HS.out k hk W
    have zI := HZ.out k hk
    have hsum : ¬ (9223372036854775807 : Int) < (6 : Int) + ((str (Lib.itoa (k : Int))).size : Int) := by omega
    have hsum4 : ¬ (9223372036854775807 : Int) < (4 : Int) + ((str (Lib.itoa (k : Int))).size : Int) := by omega
    by_cases hlt : k < N
    · rw [decide_eq_true hlt] at HSk
      generalize str (Lib.itoa (k : Int)) = I at *
      go_wp2_with fail
      refine (HDk.out _).mono ?_
      rintro e w2 ⟨rfl, hb2⟩
      have HB2 : Hid (Below w.heap.size w w2) := bel_trans hbl.out hb2
      clear hb2
      go_wp2_with fail
      rw [show (⟨#[45, 45, 112, 97, 114, 116]⟩ : ByteArray) = str PP from rfl]
      refine (HSk.out _).mono ?_
      rintro e w3 ⟨rfl, rfl⟩
      go_wp2
      go_roundw
      case rel => exact ⟨k + 1, by omega, by go_num, HB2⟩
      case measure => simp [intOf]; omega
    · obtain rfl : k = N := by omega
      rw [decide_eq_false hlt] at HSk
      generalize str (Lib.itoa (k : Int)) = I at *
      go_wp2_with fail
      refine (HDk.out _).mono ?_
      rintro e w2 ⟨rfl, hb2⟩
      have HB2 : Hid (Below w.heap.size w w2) := bel_trans hbl.out hb2
      clear hb2
      go_wp2_with fail
      rw [show (⟨#[45, 45, 112, 97, 114, 116]⟩ : ByteArray) = str PP from rfl]
      refine (HSk.out _).mono ?_
      rintro e w3 ⟨rfl, rfl⟩
      go_wp2_with fail
      refine (HDk.out _).mono ?_
      rintro e w4 ⟨rfl, hb4⟩
      have HB4 : Hid (Below w.heap.size w w4) := bel_trans HB2.out hb4
      clear hb4
      go_wp2
      go_ret
      refine ⟨?_, HB4.out⟩
      rw [← HE.out]
      rfl

set_option maxRecDepth 100000 in
set_option maxHeartbeats 2000000 in
theorem walk_SpanMarks (s : ByteArray) (hs : s.size ≤ 1048576) (w : World) (hw : ML w ∧ Pow w) :
    Calls Tryd.prog 3 #[.string s] w fun e w' => e = .returned (.bool true) ∧ Below w.heap.size w w' := by
  obtain ⟨b, rfl⟩ : ∃ b, s = str b := ⟨s.data.toList, (str_self s).symm⟩
  rw [str_size] at hs
  obtain ⟨N, hN, hfree, hall⟩ := first_free b
  have HA : Hid (Calls Tryd.prog 4 #[] w fun e w' => e = .returned (.bool true) ∧ Below w.heap.size w w') := awake_any w hw.1
  have HB : Hid (∀ W, Below w.heap.size w W → Calls Tryd.prog 5 #[.string (str b)] W fun e w' => e = .returned (.string (str (partL ++ D N))) ∧ Below (World.heap W).size W w') := fun W bl => Boundary_any b hs N hN hfree hall W (hw.1.below bl) (hw.2.below bl (Nat.le_refl _))
  have HR : Hid (∀ W, Calls Tryd.prog 6 #[.string (str b)] W fun e w' => e = .returned (.string (str (partL ++ D N))) ∧ Below (World.heap W).size W w') := fun W => rBoundary_any b hs N hN hfree hall W
  clear hw hfree hall
  generalize str (partL ++ D N) = R at *
  have hRR : (R.toList == R.toList) = true := by simp
  go_enter Tryd.func3, Tryd.ntmps3
  go_wp2_with fail
  refine HA.out.mono ?_
  rintro e w1 ⟨rfl, hb1⟩
  have HB1 : Hid (Below w.heap.size w w1) := hb1
  clear hb1
  go_wp2_with fail
  refine (HB.out _ HB1.out).mono ?_
  rintro e w2 ⟨rfl, hb2⟩
  have HB2 : Hid (Below w.heap.size w w2) := bel_trans HB1.out hb2
  clear hb2
  go_wp2_with fail
  refine (HR.out _).mono ?_
  rintro e w3 ⟨rfl, hb3⟩
  have HB3 : Hid (Below w.heap.size w w3) := bel_trans HB2.out hb3
  clear hb3
  go_wp2
  go_ret
  exact ⟨by simp, HB3.out⟩

end Sn
end Go.Proofs.YtfoepegndoippaaDoor

/-
  A witness for a row with a condition of its own, at a world whose listed tables are laid.
-/
set_option linter.unusedVariables false
namespace Go.Proofs.YtfoepegndoippaaDoor
namespace Oc

theorem witness_zip {H : Type} {enc : TypeId × Value → H} {C : Checked} {os : Os} {f : FuncId} {fn : Func} {s : OpenSpec} {conds : List PathCond} {apart : Bool} {laid : List (String × DataW Unit)} (modest : Bool) (w0 : World) (args : Array Value) (hos : w0.os = os)
    (hsh : (w0.forCall (fun _ _ => 0) ⟨#[], args, []⟩).Shaped C.prog)
    (hok : Input.okWideB C.prog (w0.forCall (fun _ _ => 0) ⟨#[], args, []⟩) f ⟨#[], args, []⟩ = true)
    (hrow : s.preRow enc C.prog fn conds apart laid (w0.forCall (fun _ _ => 0) ⟨#[], args, []⟩).memory args) :
    ∃ (w : World) (tape : Tape) (i : Input), w.os = os ∧ (w.forCall tape i).Shaped C.prog ∧ i.vars = [] ∧ Input.okWide C.prog (w.forCall tape i) .any w.heap.size f i ∧
      s.preRow enc C.prog fn conds apart laid (w.forCall tape i).memory i.args ∧ ({ modest := modest } : Assume).holds C.prog (lone (Frame.enter C.prog f i.args .normal) [] (w.forCall tape i)) :=
  ⟨w0, fun _ _ => 0, ⟨#[], args, []⟩, hos, hsh, (Input.okWide_of_okWideB (base := 0) hok).1, (Input.okWide_of_okWideB hok).2, hrow, by
    simp only [Assume.holds]
    exact ⟨by simp, by simp, fun _ => Modest.zero, by simp, by simp⟩⟩

end Oc
end Go.Proofs.YtfoepegndoippaaDoor
