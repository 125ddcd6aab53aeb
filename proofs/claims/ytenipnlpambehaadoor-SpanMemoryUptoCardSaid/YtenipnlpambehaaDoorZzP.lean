/- Several texts as one. -/
import Derived.Test.YtenipnlpambehaaDoorZzM
import Derived.Test.YtenipnlpambehaaDoorZzO
/-
  Numbers in digits: worlds that only grew.
-/
set_option linter.unusedVariables false
set_option linter.unusedSimpArgs false
namespace Go.Proofs.YtenipnlpambehaaDoor
open Go.RowKit Go.Shelf
open Go.Sort (grow alloc_eq_grow grow_grow grow_empty)
namespace Sn
open Oc

set_option maxHeartbeats 400000 in
theorem Digits_gr (n : Int) (h0 : -9223372036854775808 ≤ n) (h1 : n ≤ 9223372036854775807) (w : World) (t : Pow w) :
    Calls Tryd.prog 99 #[.int .i64 n] w fun e w' => e = .returned (.string (str (Lib.itoa n))) ∧ ∃ q os, w' = grow (w.drewN q) os := by
  have HT : Hid (Pow w) := t
  clear t
  have hcon := Tryd.strconv_Itoa n h0 h1 w HT.out
  change Calls Tryd.prog 109 _ _ (fun e w' => e = .returned (.string (str (Lib.itoa n))) ∧ ∃ k os, w' = grow (w.drewN k) os) at hcon
  have HC : Hid (Calls Tryd.prog 109 #[.int .i64 n] w (fun e w' => e = .returned (.string (str (Lib.itoa n))) ∧ ∃ k os, w' = grow (w.drewN k) os)) := hcon
  clear hcon
  go_enter Tryd.func99, Tryd.ntmps99
  go_wp2_with fail
  refine HC.out.mono ?_
  rintro e w' ⟨rfl, k, os, rfl⟩
  go_wp2
  go_ret
  exact ⟨rfl, k, os, rfl⟩

set_option maxRecDepth 100000 in
set_option maxHeartbeats 1000000 in
theorem rDigits_gr (n : Int) (h0 : -9223372036854775808 ≤ n) (h1 : n ≤ 9223372036854775807) (w : World) :
    Calls Tryd.prog 62 #[.int .i64 n] w fun e w' => e = .returned (.string (str (Lib.itoa n))) ∧ ∃ q os, w' = grow (w.drewN q) os := by
  by_cases hz : n = 0
  · subst hz
    have HZ : Hid (Lib.itoa 0 = [48]) := itoa_zero
    go_enter Tryd.func62, Tryd.ntmps62
    go_wp2
    go_ret
    exact ⟨ret_string (by rw [HZ.out]; rfl), Grew.refl _⟩
  · have hz' : (n == 0) = false := by simp [hz]
    have HI : Hid (Lib.itoa n = (if n < 0 then [45] else []) ++ decD n.natAbs) := itoa_decD n hz
    have HL : Hid ((decD n.natAbs).length ≤ 21) := decD_len n h0 h1
    go_enter Tryd.func62, Tryd.ntmps62
    go_wp2
    go_loopw [0, 4] (fun mv ov wr => ∃ (m : Int) (o : ByteArray), mv = .int .i64 m ∧ ov = .string o ∧ -9223372036854775808 ≤ m ∧ m ≤ 9223372036854775807 ∧ o.size ≤ 21 ∧ Hid (decD m.natAbs ++ o.data.toList = decD n.natAbs) ∧ Hid (Grew w wr)) (fun mv _ _ => (intOf mv).natAbs)
    case atStart => exact ⟨n, ⟨#[]⟩, rfl, rfl, h0, h1, by decide, (by simp : decD n.natAbs ++ (⟨#[]⟩ : ByteArray).data.toList = decD n.natAbs), Grew.refl _⟩
    case round =>
      obtain ⟨m, o, rfl, rfl, m0, m1, hos, hst, hbl⟩ := hrel
      by_cases hm : m = 0
      · subst hm
        have HO : Hid (str (decD n.natAbs) = o) := (by rw [← hst.out]; exact str_self o : str (decD n.natAbs) = o)
        have hsz : (⟨#[45]⟩ : ByteArray).size + o.size ≤ 9223372036854775807 := by show 1 + o.size ≤ _; omega
        by_cases hn : n < 0
        · have HN : Hid (str (Lib.itoa n) = ⟨#[45]⟩ ++ o) := by
            show str (Lib.itoa n) = _
            rw [HI.out, if_pos hn, ← HO.out, show (⟨#[45]⟩ : ByteArray) = str [45] from rfl, cat_str, str_list]
          go_wp2
          go_ret
          exact ⟨ret_string HN.out.symm, hbl.out⟩
        · have HN : Hid (str (Lib.itoa n) = o) := by
            show str (Lib.itoa n) = _
            rw [HI.out, if_neg hn, ← HO.out]; rfl
          go_wp2
          go_ret
          exact ⟨ret_string HN.out.symm, hbl.out⟩
      · have hm' : (m != 0) = true := by simp [hm]
        have HS : Hid (decD m.natAbs = decD (m.natAbs / 10) ++ [UInt8.ofNat (48 + m.natAbs % 10)]) := decD_step _ (by omega)
        have HL2 : Hid ((decD m.natAbs).length + o.size ≤ 21) := by
          have h1 := HL.out
          rw [← hst.out, List.length_append, size_list] at h1
          exact h1
        have HL3 : Hid (1 + o.size ≤ 21) := by
          have h1 := HL2.out
          rw [HS.out, List.length_append] at h1
          simp at h1
          show 1 + o.size ≤ 21
          omega
        have hsz : ∀ c : UInt8, (str [c]).size + o.size ≤ 9223372036854775807 := by intro c; rw [str_size]; simp; omega
        have next : ∀ (q d : Int), q.natAbs = m.natAbs / 10 → 0 ≤ d → d = ((m.natAbs % 10 : Nat) : Int) → decD q.natAbs ++ (str [UInt8.ofNat (48 + d).toNat] ++ o).data.toList = decD n.natAbs := by
          intro q d e1 d0 e2
          rw [cat_str, str_list, e1, ← hst.out, HS.out, List.append_assoc, show (48 + d).toNat = 48 + m.natAbs % 10 by omega]
        have HX : Hid (∀ (q d : Int), q.natAbs = m.natAbs / 10 → 0 ≤ d → d = ((m.natAbs % 10 : Nat) : Int) → decD q.natAbs ++ (str [UInt8.ofNat (48 + d).toNat] ++ o).data.toList = decD n.natAbs) := next
        clear next
        have HZ : Hid (∀ c : UInt8, (str [c] ++ o).size ≤ 21) := by
          intro c
          rw [cat_str, str_size]
          have := HL3.out
          simp
          omega
        rcases (show 0 < m ∨ m < 0 by omega) with hp | hp
        · have hob := one_byte wr (48 + m % 10) (by omega) (by omega)
          have hsz' := hsz (UInt8.ofNat (48 + m % 10).toNat)
          clear hsz
          go_wp2
          go_roundw
          case rel => exact ⟨m / 10, _, rfl, rfl, by omega, by omega, HZ.out _, HX.out (m / 10) (m % 10) (by omega) (by omega) (by omega), hbl.out.alloc _⟩
          case measure => simp [intOf]; omega
        · obtain ⟨f1, f2, f3, f4⟩ := div_facts m 10 (by omega)
          have f5 : m.tmod 10 ≤ 0 := by
            have := Int.tmod_nonneg 10 (show 0 ≤ -m by omega)
            rw [Int.neg_tmod] at this
            omega
          have HM : Hid ((m.tdiv 10).natAbs < m.natAbs) := (by omega : (m.tdiv 10).natAbs < m.natAbs)
          by_cases hd : m.tmod 10 < 0
          · have hob := one_byte wr (48 + -m.tmod 10) (by omega) (by omega)
            have hsz' := hsz (UInt8.ofNat (48 + -m.tmod 10).toNat)
            clear hsz
            have F : Hid (10 * m.tdiv 10 + m.tmod 10 = m) := f1
            clear f1
            go_wp2
            go_roundw
            case rel =>
              have f1 := F.out
              exact ⟨m.tdiv 10, _, rfl, rfl, by omega, by omega, HZ.out _, HX.out (m.tdiv 10) (-m.tmod 10) (by omega) (by omega) (by omega), hbl.out.alloc _⟩
            case measure => exact HM.out
          · have hd0 : 0 ≤ m.tmod 10 := by omega
            have hob := one_byte wr (48 + m.tmod 10) (by omega) (by omega)
            have hsz' := hsz (UInt8.ofNat (48 + m.tmod 10).toNat)
            clear hsz
            have F : Hid (10 * m.tdiv 10 + m.tmod 10 = m) := f1
            clear f1
            go_wp2
            go_roundw
            case rel =>
              have f1 := F.out
              exact ⟨m.tdiv 10, _, rfl, rfl, by omega, by omega, HZ.out _, HX.out (m.tdiv 10) (m.tmod 10) (by omega) (by omega) (by omega), hbl.out.alloc _⟩
            case measure => exact HM.out

end Sn
end Go.Proofs.YtenipnlpambehaaDoor

/-
  span: extent, Tell, TellNone, Cut.
-/
set_option linter.unusedVariables false
set_option linter.unusedSimpArgs false
namespace Go.Proofs.YtenipnlpambehaaDoor
open Go.RowKit Go.Shelf
open Go.Sort (grow alloc_eq_grow grow_grow grow_empty)
namespace Sn
open Oc Tg Ac

theorem Pow.grown {w : World} (h : Pow w) (n : Nat) (os : Array Obj) : Pow (grow (w.drewN n) os) := Oc.Pow.below h (Grew.below ⟨n, os, rfl⟩) (Nat.le_refl _)
/-- First and last byte. -/
def extR (x : Sp) : List UInt8 := Lib.itoa x.1 ++ [45] ++ Lib.itoa (x.2 - 1)
/-- A content range. -/
def telR (x : Sp) (size : Int) : List UInt8 × Int := if isSp x size = true then ([98, 121, 116, 101, 115, 32] ++ extR x ++ [47] ++ Lib.itoa size, 0) else ([], 91)
def nonR (size : Int) : List UInt8 × Int := if size < 0 then ([], 1) else ([98, 121, 116, 101, 115, 32, 42, 47] ++ Lib.itoa size, 0)
def cutR (l : List UInt8) (x : Sp) : List UInt8 × Int := if isSp x l.length = true then ((l.drop x.1.toNat).take (x.2.toNat - x.1.toNat), 0) else ([], 91)
theorem str_app (a b : List UInt8) : str a ++ str b = str (a ++ b) := by rw [cat_str, str_list]
theorem extR_len (x : Sp) (h0 : -9223372036854775808 ≤ x.1) (h1 : x.1 ≤ 9223372036854775807) (h2 : -9223372036854775808 < x.2) (h3 : x.2 ≤ 9223372036854775807) : (extR x).length ≤ 43 := by
  have := Lib.itoa_length_le x.1 h0 h1
  have := Lib.itoa_length_le (x.2 - 1) (by omega) (by omega)
  unfold extR
  simp
  omega
theorem isSp_t {a b size : Int} (h : isSp (a, b) size = true) : 0 ≤ a ∧ a < b ∧ b ≤ size := of_decide_eq_true h

set_option maxRecDepth 100000 in
set_option maxHeartbeats 1000000 in
theorem Cut_gr (s : ByteArray) (hs : s.size ≤ 9223372036854775807) (a b : Int) (w : World) :
    Calls Tryd.prog 24 #[.string s, .agg #[.int .i64 a, .int .i64 b]] w fun e w' => e = .returned (.tuple #[.string (str (cutR s.data.toList (a, b)).1), .int .i64 (cutR s.data.toList (a, b)).2]) ∧ ∃ q os, w' = grow (w.drewN q) os := by
  obtain ⟨w1, hw1⟩ : ∃ w1, w1 = w.alloc (.cells #[.int .i64 a, .int .i64 b] 44) := ⟨_, rfl⟩
  have HPB : Hid (PB 44 w1 w.heap.size (a, b)) := (by rw [hw1]; exact heap_alloc_new w _ : PB _ _ _ _)
  have HB1 : Hid (Grew w w1) := (by rw [hw1]; exact (Grew.refl w).alloc _ : Grew _ _)
  have HI : Hid (∀ W, Calls _ _ _ W _) := fun W => isSpan_gr a b s.size W
  have q0 := HPB.out.c0
  have q1 := HPB.out.c1
  have hl : s.data.toList.length = s.size := size_list s
  cases hsp : isSp (a, b) s.size with
  | false =>
    rw [hsp] at HI
    have HT : Hid (cutR s.data.toList (a, b) = ([], 91)) := (by unfold cutR; rw [hl, hsp]; rfl : cutR s.data.toList (a, b) = _)
    clear hsp hl
    go_enter Tryd.func24, Tryd.ntmps24
    go_wp2_with fail
    rw [← hw1]
    refine (HI.out _).mono ?_
    rintro e w3 ⟨rfl, hg3⟩
    have HG3 : Hid (Grew w1 w3) := hg3
    clear hg3
    go_wp2
    go_ret2
    rw [HT.out]
    exact ⟨rfl, HB1.out.trans HG3.out⟩
  | true =>
    rw [hsp] at HI
    obtain ⟨e0, e1, e2⟩ := isSp_t hsp
    have HT : Hid (cutR s.data.toList (a, b) = ((s.data.toList.drop a.toNat).take (b.toNat - a.toNat), 0)) := (by unfold cutR; rw [hl, if_pos hsp] : cutR s.data.toList (a, b) = _)
    have HX : Hid (str ((s.data.toList.drop a.toNat).take (b.toNat - a.toNat)) = s.extract a.toNat b.toNat) := (by rw [← Lib.extract_data, str_self] : _ = _)
    clear hsp hl
    go_enter Tryd.func24, Tryd.ntmps24
    go_wp2_with fail
    rw [← hw1]
    clear hw1
    refine (HI.out _).mono ?_
    rintro e w3 ⟨rfl, hg3⟩
    have HG3 : Hid (Grew w1 w3) := hg3
    have hp3 := HPB.out.below HG3.out.below
    have r0 := hp3.c0
    have r1 := hp3.c1
    clear hg3 hp3 q0 q1
    go_wp2
    go_ret2
    rw [HT.out]
    dsimp only
    rw [HX.out]
    exact ⟨rfl, HB1.out.trans HG3.out⟩

end Sn
end Go.Proofs.YtenipnlpambehaaDoor

/-
  span: awake.
-/
set_option linter.unusedVariables false
set_option linter.unusedSimpArgs false
namespace Go.Proofs.YtenipnlpambehaaDoor
open Go.RowKit Go.Shelf
namespace Sn
open Oc Tg Ac

set_option maxRecDepth 100000 in
set_option maxHeartbeats 1000000 in
theorem awake_any (w : World) (hw : ML w) :
    Calls Tryd.prog 7 #[] w fun e w' => e = .returned (.bool true) ∧ Below w.heap.size w w' := by
  have h := Parse_any (str [98, 121, 116, 101, 115, 61, 48, 45, 52]) (by decide +kernel) 10 (by omega) (by omega) w hw
  rw [show parR (str [98, 121, 116, 101, 115, 61, 48, 45, 52]).data.toList 10 = ([(0, 5)], 0) by decide +kernel] at h
  have HP : Hid (Calls Tryd.prog 12 #[.string ⟨#[98, 121, 116, 101, 115, 61, 48, 45, 52]⟩, .int .i64 10] w _) := h
  clear h
  have HC : Hid (∀ W, Calls Tryd.prog 24 #[.string ⟨#[104, 101, 108, 108, 111]⟩, .agg #[.int .i64 1, .int .i64 3]] W fun e w' => e = .returned (.tuple #[.string ⟨#[101, 108]⟩, .int .i64 0]) ∧ Below W.heap.size W w') := fun W => by
    have h := Cut_gr (str [104, 101, 108, 108, 111]) (by decide +kernel) 1 3 W
    rw [show cutR (str [104, 101, 108, 108, 111]).data.toList (1, 3) = ([101, 108], 0) by decide +kernel] at h
    exact h.mono fun e w' ⟨h1, h2⟩ => ⟨h1, Grew.below h2⟩
  clear hw
  have HEQ := fun y1 y2 w => eqN 0 5 y1 y2 w
  go_enter Tryd.func7, Tryd.ntmps7
  go_wp2_with fail
  refine HP.out.mono ?_
  rintro e w2 ⟨v, rfl, ho, hb2⟩
  have HB2 : Hid (Below w.heap.size w w2) := hb2
  have HR2 : Hid (RdN v [(0, 5)] w2) := ho.rd
  obtain ⟨va, vc, rfl⟩ := ho.form
  clear ho hb2
  go_wp2_with fail
  refine (HC.out _).mono ?_
  rintro e w3 ⟨rfl, hb3⟩
  have HB3 : Hid (Below w.heap.size w w3) := bel_trans HB2.out hb3
  obtain ⟨a', c', e', hcs⟩ := HR2.out.below hb3
  injection e' with e1 _ e2
  subst e1 e2
  rcases hcs with h | ⟨g, o, rfl, hlc, hcell⟩
  · cases h
  have p0 : w3.cell? ⟨g, o, none⟩ = some (.int .i64 0) := by simpa [nthN] using (hcell 0 (by decide)).1
  have p1 : w3.cell? ⟨g, o + 1, none⟩ = some (.int .i64 5) := by simpa [nthN] using (hcell 0 (by decide)).2
  clear hcell hb3 HR2
  go_wp2
  go_ret
  exact ⟨ret_bool (by simp), HB3.out⟩

end Sn
end Go.Proofs.YtenipnlpambehaaDoor
