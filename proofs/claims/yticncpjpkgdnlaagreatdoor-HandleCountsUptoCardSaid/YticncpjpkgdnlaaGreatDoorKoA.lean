/-
  cookie: signs, values, cookies (written by mkko.py).
-/
import Derived.Test.YticncpjpkgdnlaaGreatDoorHnB
import Derived.Test.YticncpjpkgdnlaaGreatDoorGHa
import Derived.Test.YticncpjpkgdnlaaGreatDoorFKp
set_option linter.unusedVariables false
set_option linter.unusedSimpArgs false
set_option maxRecDepth 100000
namespace Go.Proofs.YticncpjpkgdnlaaGreatDoor
open Go.RowKit Go.Shelf
namespace Ko
open Oc Tg _root_.Go.Proofs.YticncpjpkgdnlaaGreatDoor.Fd _root_.Go.Proofs.YticncpjpkgdnlaaGreatDoor.Ck _root_.Go.Proofs.YticncpjpkgdnlaaGreatDoor.Ms _root_.Go.Proofs.YticncpjpkgdnlaaGreatDoor.Hn

def signB (o : ByteArray) (c : UInt8) : Bool := decide (32 < (c.toNat : Int)) && decide ((c.toNat : Int) ≤ 126) && decide (Lib.indexByte o.data.toList ((c.toNat : Int)).toNat.toUInt8 < 0)
def sgn (o s : ByteArray) : Bool := s.data.toList.all (signB o)
def byU (s : ByteArray) (k : Nat) : UInt8 := s.data.toList.getD k 0
theorem byt_byU (s : ByteArray) (k : Nat) : byt s k = ((byU s k).toNat : Int) := rfl

set_option maxHeartbeats 1000000 in
theorem hasSigns_any (s o : ByteArray) (hs : s.size ≤ maxLen) (w : World) :
    Calls Tryz.prog 230 #[.string s, .string o] w fun e w' => e = .returned (.bool (sgn o s)) ∧ Below w.heap.size w w' := by
  unfold maxLen at hs
  have hcv := fun w => Lib.run_convert_string_bytes (P := Tryz.prog) w 9 42 5 s Tryz.underlying9 Tryz.underlying42 Tryz.underlying5
  have hb := below_bytes w 5 s
  have hc := bytes_cell w 5 s
  have HIx : Hid (∀ (c : Int) w, Calls Tryz.prog 220 #[.string o, .int .u8 c] w fun e w' => e = .returned (.int .i64 (Lib.indexByte o.data.toList c.toNat.toUInt8)) ∧ w' = w) := fun c w => Tryz.strings_IndexByte o c w
  go_enter Tryz.func230, Tryz.ntmps230
  go_wp2
  go_loop [10] (fun i => ∃ k : Nat, k ≤ s.size ∧ i = .int .i64 k ∧ Hid (∀ j, j < k → signB o (byU s j) = true)) (fun i => s.size - (intOf i).toNat)
  case atStart => exact ⟨0, Nat.zero_le _, rfl, (fun j hj => by omega : ∀ j, j < 0 → _)⟩
  case round =>
    obtain ⟨k, hk, rfl, hall⟩ := hrel
    by_cases hlt : k < s.size
    · have hck := hc k hlt
      have HT : signB o (byU s k) = true → Hid (∀ j, j < k + 1 → signB o (byU s j) = true) := fun ht j hj => by
        by_cases hjk : j = k
        · subst hjk; exact ht
        · exact hall.out j (by omega)
      have HF : signB o (byU s k) = false → Hid (sgn o s = false) := fun ht => all_not (signB o) 0 _ k (by rw [size_list]; exact hlt) ht
      have HS : Hid (signB o (byU s k) = (decide (32 < byt s k) && decide (byt s k ≤ 126) && decide (Lib.indexByte o.data.toList (byt s k).toNat.toUInt8 < 0))) := rfl
      clear hall hc
      generalize byt s k = c at *
      generalize signB o (byU s k) = sb at *
      by_cases h1 : c ≤ 32
      · have HE := HF (by rw [HS.out]; simp only [Bool.and_eq_false_iff, decide_eq_false_iff_not]; omega)
        go_wp2
        go_ret
        exact ⟨ret_bool HE.out.symm, hb⟩
      · by_cases h2 : 126 < c
        · have HE := HF (by rw [HS.out]; simp only [Bool.and_eq_false_iff, decide_eq_false_iff_not]; omega)
          have h2' : ¬ c ≤ 126 := by omega
          go_wp2
          go_ret
          exact ⟨ret_bool HE.out.symm, hb⟩
        · have HI := HIx.out c
          have HW : Hid (∀ w, Calls Tryz.prog 220 #[.string o, .int .u8 c] w fun e w' => e = .returned (.int .i64 (Lib.indexByte o.data.toList c.toNat.toUInt8)) ∧ w' = w) := HI
          have hS2 := HS.out
          clear HI HIx HS
          generalize Lib.indexByte o.data.toList c.toNat.toUInt8 = x at *
          by_cases h3 : 0 ≤ x
          · have HE := HF (by rw [hS2]; simp only [Bool.and_eq_false_iff, decide_eq_false_iff_not]; omega)
            clear HF HT hS2
            go_wp2_with (go_at_call 220; refine (HW.out _).mono ?_; rintro e w' ⟨rfl, rfl⟩)
            go_ret
            exact ⟨ret_bool HE.out.symm, hb⟩
          · have HA := HT (by rw [hS2]; simp only [Bool.and_eq_true, decide_eq_true_eq]; omega)
            clear HF HT hS2
            go_wp2_with (go_at_call 220; refine (HW.out _).mono ?_; rintro e w' ⟨rfl, rfl⟩)
            go_round
            case rel => exact ⟨k + 1, by omega, by go_num, HA⟩
            case measure => simp [intOf]; omega
    · have HE : Hid (sgn o s = true) := all_of (signB o) 0 _ (fun j hj => hall.out j (by rw [size_list] at hj; omega))
      go_wp2
      go_ret
      exact ⟨ret_bool HE.out.symm, hb⟩

/-- A value's signs but its quotes. -/
def bare (s : ByteArray) : ByteArray := if 1 < s.size ∧ Lib.hasPrefix s.data.toList [34] = true ∧ Lib.hasSuffix s.data.toList [34] = true then s.extract 1 (s.size - 1) else s
def valB (s : ByteArray) : Bool := sgn ⟨#[34, 44, 59, 92]⟩ (bare s)
theorem bare_size (s : ByteArray) : (bare s).size ≤ s.size := by
  unfold bare
  split
  · rw [ByteArray.size_extract]; omega
  · exact Nat.le_refl _

set_option maxHeartbeats 1000000 in
theorem isValue_any (s : ByteArray) (hs : s.size ≤ maxLen) (w : World) :
    Calls Tryz.prog 229 #[.string s] w fun e w' => e = .returned (.bool (valB s)) ∧ Below w.heap.size w w' := by
  have HH : Hid (∀ w, Calls Tryz.prog 230 #[.string (bare s), .string ⟨#[34, 44, 59, 92]⟩] w fun e w' => e = .returned (.bool (valB s)) ∧ Below w.heap.size w w') := fun w => hasSigns_any (bare s) ⟨#[34, 44, 59, 92]⟩ (Nat.le_trans (bare_size s) hs) w
  have HP : Hid (∀ w, Calls Tryz.prog 133 #[.string s, .string ⟨#[34]⟩] w fun e w' => e = .returned (.bool (Lib.hasPrefix s.data.toList [34])) ∧ w' = w) := fun w => Tryz.strings_HasPrefix s ⟨#[34]⟩ w
  have HSf : Hid (∀ w, Calls Tryz.prog 141 #[.string s, .string ⟨#[34]⟩] w fun e w' => e = .returned (.bool (Lib.hasSuffix s.data.toList [34])) ∧ w' = w) := fun w => Tryz.strings_HasSuffix s ⟨#[34]⟩ w (by unfold maxLen at hs; omega)
  have HB : Hid (bare s = if 1 < s.size ∧ Lib.hasPrefix s.data.toList [34] = true ∧ Lib.hasSuffix s.data.toList [34] = true then s.extract 1 (s.size - 1) else s) := rfl
  unfold maxLen at hs
  generalize valB s = r at *
  generalize bare s = b at *
  generalize Lib.hasPrefix s.data.toList [34] = p at *
  generalize Lib.hasSuffix s.data.toList [34] = q at *
  by_cases h1 : 1 < s.size
  · have h1' : (1 : Int) < (s.size : Int) := by omega
    have hw : IntKind.i64.wrap ((s.size : Int) - 1) = (s.size : Int) - 1 := by rw [IntKind.wrap_i64]; omega
    have hn : ((s.size : Int) - 1).toNat = s.size - 1 := by omega
    cases p with
    | true => cases q with
      | true =>
        have HE : Hid (s.extract 1 (s.size - 1) = b) := (by rw [HB.out, if_pos ⟨h1, rfl, rfl⟩] : _ = _)
        clear HB
        go_enter Tryz.func229, Tryz.ntmps229
        go_wp2_with (first | (go_at_call 133; refine (HP.out _).mono ?_; rintro e w' ⟨rfl, rfl⟩) | (go_at_call 141; refine (HSf.out _).mono ?_; rintro e w' ⟨rfl, rfl⟩) | fail)
        rw [HE.out]
        refine (HH.out _).mono ?_
        rintro e w2 ⟨rfl, hb⟩
        go_wp2
        go_ret
        exact ⟨rfl, hb⟩
      | false =>
        have HE : Hid (b = s) := (by rw [HB.out, if_neg (by simp)] : _ = _)
        clear HB
        rw [HE.out] at HH
        go_enter Tryz.func229, Tryz.ntmps229
        go_wp2_with (first | (go_at_call 133; refine (HP.out _).mono ?_; rintro e w' ⟨rfl, rfl⟩) | (go_at_call 141; refine (HSf.out _).mono ?_; rintro e w' ⟨rfl, rfl⟩) | fail)
        refine (HH.out _).mono ?_
        rintro e w2 ⟨rfl, hb⟩
        go_wp2
        go_ret
        exact ⟨rfl, hb⟩
    | false =>
      have HE : Hid (b = s) := (by rw [HB.out, if_neg (by simp)] : _ = _)
      clear HB
      rw [HE.out] at HH
      go_enter Tryz.func229, Tryz.ntmps229
      go_wp2_with (first | (go_at_call 133; refine (HP.out _).mono ?_; rintro e w' ⟨rfl, rfl⟩) | fail)
      refine (HH.out _).mono ?_
      rintro e w2 ⟨rfl, hb⟩
      go_wp2
      go_ret
      exact ⟨rfl, hb⟩
  · have h1' : ¬ (1 : Int) < (s.size : Int) := by omega
    have HE : Hid (b = s) := (by rw [HB.out, if_neg (fun h => h1 h.1)] : _ = _)
    clear HB
    rw [HE.out] at HH
    go_enter Tryz.func229, Tryz.ntmps229
    go_wp2_with fail
    refine (HH.out _).mono ?_
    rintro e w2 ⟨rfl, hb⟩
    go_wp2
    go_ret
    exact ⟨rfl, hb⟩

def cokB (n v : ByteArray) : Bool := decide (n.size + v.size ≤ 4096) && isTok n.data.toList && valB v

set_option maxHeartbeats 1000000 in
theorem isCookie_any (n v : ByteArray) (hn : n.size ≤ 4000000) (hv : v.size ≤ 4000000) (w : World) (tb : Tab w) :
    Calls Tryz.prog 166 #[.agg #[.string n, .string v]] w fun e w' => e = .returned (.bool (cokB n v)) ∧ Below w.heap.size w w' := by
  have HTk : Hid (∀ W, Below w.heap.size w W → Calls Tryz.prog 66 #[.string n] W fun e w' => e = .returned (.bool (isTok n.data.toList)) ∧ Below W.heap.size W w') := fun W h => IsToken_any n (by unfold maxLen; omega) W (tb.below h (Nat.le_refl _))
  have HVl : Hid (∀ W, Calls Tryz.prog 229 #[.string v] W fun e w' => e = .returned (.bool (valB v)) ∧ Below W.heap.size W w') := fun W => isValue_any v (by unfold maxLen; omega) W
  have HC : Hid (cokB n v = (decide (n.size + v.size ≤ 4096) && isTok n.data.toList && valB v)) := rfl
  generalize cokB n v = r at *
  generalize isTok n.data.toList = t at *
  generalize valB v = q at *
  obtain ⟨w1, hw1⟩ : ∃ w1, w1 = w.alloc (.cells #[.string n, .string v] 148) := ⟨_, rfl⟩
  have hb1 : Below w.heap.size w w1 := by rw [hw1]; exact (Below.refl _ w).alloc (Nat.le_refl _) _
  have HM1 : Hid (Blk 148 w1 w.heap.size [.string n, .string v]) := (by rw [hw1]; exact heap_alloc_new w _ : Blk _ _ _ _)
  have HB1 : Hid (Below w.heap.size w w1) := hb1
  have HW1 : Hid (w1 = _) := hw1
  have c0 := HM1.out.cell 0 rfl
  have c1 := HM1.out.cell 1 rfl
  have hw : IntKind.i64.wrap ((n.size : Int) + (v.size : Int)) = (n.size : Int) + (v.size : Int) := by rw [IntKind.wrap_i64]; omega
  clear hw1 hb1 tb
  by_cases h : n.size + v.size ≤ 4096
  · have h' : (n.size : Int) + (v.size : Int) ≤ 4096 := by omega
    cases t with
    | true =>
      have HR : Hid (r = q) := (by rw [HC.out]; simp [h] : _ = _)
      clear HC h
      go_enter Tryz.func166, Tryz.ntmps166
      go_wp2_with (first | (rw [← HW1.out]; fail) | fail)
      try rw [← HW1.out]
      refine (HTk.out _ HB1.out).mono ?_
      rintro e w2 ⟨rfl, hb2⟩
      have HM2 : Hid (Blk 148 w2 w.heap.size [.string n, .string v]) := HM1.out.below hb2
      have HB2 : Hid (Below w.heap.size w w2) := bel_tr HB1.out hb2 HB1.out.size
      clear c0 c1 hb2
      have c1 := HM2.out.cell 1 rfl
      go_wp2_with fail
      refine (HVl.out _).mono ?_
      rintro e w3 ⟨rfl, hb3⟩
      have HB3 : Hid (Below w.heap.size w w3) := bel_tr HB2.out hb3 HB2.out.size
      clear hb3
      go_wp2
      go_ret
      exact ⟨by rw [HR.out]; rfl, HB3.out⟩
    | false =>
      have HR : Hid (r = false) := (by rw [HC.out]; simp : _ = _)
      clear HC h
      go_enter Tryz.func166, Tryz.ntmps166
      go_wp2_with fail
      try rw [← HW1.out]
      refine (HTk.out _ HB1.out).mono ?_
      rintro e w2 ⟨rfl, hb2⟩
      have HB2 : Hid (Below w.heap.size w w2) := bel_tr HB1.out hb2 HB1.out.size
      clear c0 c1 hb2
      go_wp2
      go_ret
      exact ⟨by rw [HR.out]; rfl, HB2.out⟩
  · have h' : ¬ (n.size : Int) + (v.size : Int) ≤ 4096 := by omega
    have HR : Hid (r = false) := (by rw [HC.out]; simp [h] : _ = _)
    clear HC h
    go_enter Tryz.func166, Tryz.ntmps166
    go_wp2
    try rw [← HW1.out]
    go_ret
    exact ⟨by rw [HR.out]; rfl, HB1.out⟩

end Ko
end Go.Proofs.YticncpjpkgdnlaaGreatDoor
