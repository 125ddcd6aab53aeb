/-
  Numbers in digits.
-/
import Derived.Test.YtpnijigjlhfklaaGreatDoorClass
import Derived.Test.YtpnijigjlhfklaaGreatDoorShelf
import Derived.Lib.ItoaMem
import Derived.Lib.ItoaLen
import Derived.Lib.AppendIntMem
set_option linter.unusedVariables false
set_option linter.unusedSimpArgs false
namespace Go.Proofs.YtpnijigjlhfklaaGreatDoor
open Go.RowKit Go.Shelf
open Go.Sort (grow)
namespace Oc

/-- Go's table of tens lies where it was laid. -/
def Pow (w : World) : Prop := Lib.TabIs Tryz.prog w "internal/strconv.uint64pow10" .u64 Lib.pow10Tab
theorem gPow : Tryz.prog.globalNamed "internal/strconv.uint64pow10" = some 3 := by kernel_rfl
theorem Pow.lt {w : World} (h : Pow w) : 3 < w.heap.size := by
  have c := Lib.TabIs.cell h gPow 0 (by rw [Lib.pow10Tab_length]; omega)
  rcases Nat.lt_or_ge 3 w.heap.size with h | h
  · exact h
  · simp [World.cell?, Array.getElem?_eq_none h] at c
theorem Pow.below {B : Nat} {w w' : World} (h : Pow w) (b : Below B w w') (hB : w.heap.size ≤ B) : Pow w' := by
  have := h.lt
  exact var?_below b gPow (by omega) h

set_option maxHeartbeats 400000 in
theorem Digits_any (n : Int) (h0 : -9223372036854775808 ≤ n) (h1 : n ≤ 9223372036854775807) (w : World) (t : Pow w) :
    Calls Tryz.prog 81 #[.int .i64 n] w fun e w' => e = .returned (.string (str (Lib.itoa n))) ∧ Below w.heap.size w w' := by
  have HT : Hid (Pow w) := t
  clear t
  have hcon := Tryz.strconv_Itoa n h0 h1 w HT.out
  change Calls Tryz.prog 102 _ _ (fun e w' => e = .returned (.string (str (Lib.itoa n))) ∧ ∃ k os, w' = grow (w.drewN k) os) at hcon
  have HC : Hid (Calls Tryz.prog 102 #[.int .i64 n] w (fun e w' => e = .returned (.string (str (Lib.itoa n))) ∧ ∃ k os, w' = grow (w.drewN k) os)) := hcon
  clear hcon
  go_enter Tryz.func81, Tryz.ntmps81
  go_wp2_with fail
  refine HC.out.mono ?_
  rintro e w' ⟨rfl, k, os, rfl⟩
  go_wp2
  go_ret
  exact ⟨rfl, Lib.below_grow _ w (Nat.le_refl _) k os⟩

/-- Digits without any for 0. -/
def decD (u : Nat) : List UInt8 := if u = 0 then [] else Lib.decDigits u
theorem decD_step (u : Nat) (h : u ≠ 0) : decD u = decD (u / 10) ++ [UInt8.ofNat (48 + u % 10)] := by
  unfold decD
  rw [if_neg h]
  by_cases h1 : u < 10
  · rw [if_pos (by omega), Lib.decDigits_one h1, Nat.mod_eq_of_lt h1]; rfl
  · rw [if_neg (by omega), Lib.decDigits, dif_neg h1]
theorem decD_len (n : Int) (h0 : -9223372036854775808 ≤ n) (h1 : n ≤ 9223372036854775807) : (decD n.natAbs).length ≤ 21 := by
  have h := Lib.itoa_length_le n h0 h1
  unfold decD Lib.itoa at *
  split
  · simp
  · split at h
    · simp at h; omega
    · rw [show n.natAbs = n.toNat by omega]; exact h
theorem itoa_decD (n : Int) (h : n ≠ 0) : Lib.itoa n = (if n < 0 then [45] else []) ++ decD n.natAbs := by
  unfold Lib.itoa decD
  by_cases hn : n < 0
  · rw [if_pos hn, if_pos hn, if_neg (by omega)]; rfl
  · rw [if_neg hn, if_neg hn, if_neg (by omega), show n.natAbs = n.toNat by omega]; rfl
theorem itoa_zero : Lib.itoa 0 = [48] := by
  unfold Lib.itoa
  rw [if_neg (by omega), show (0 : Int).toNat = 0 from rfl, Lib.decDigits_one (by omega)]; rfl

theorem one_byte (W : World) (x : Int) (h0 : 0 ≤ x) (h1 : x ≤ 255) :
    (convert 67 9 (.slice (some ⟨W.heap.size, 0, none⟩) 1 1)).run Tryz.prog (W.alloc (.cells #[.int .u8 x] 5)) = .ok (.string (str [UInt8.ofNat x.toNat])) (W.alloc (.cells #[.int .u8 x] 5)) := by
  have h := run_convert_bytes_back (P := Tryz.prog) (W.alloc (.cells #[.int .u8 x] 5)) 67 9 5 ⟨W.heap.size, 0, none⟩ 1 [UInt8.ofNat x.toNat] Tryz.underlying67 Tryz.underlying5 Tryz.underlying9 (fun j hj => by
    have hj0 : j = 0 := by simpa using hj
    subst hj0
    have e : ((UInt8.ofNat x.toNat).toNat : Int) = x := by
      rw [UInt8.toNat_ofNat']
      omega
    have hc : (W.alloc (.cells #[.int .u8 x] 5)).cell? ⟨W.heap.size, 0, none⟩ = some (.int .u8 x) := by simp [World.cell?, World.alloc, -World.alloc_eq]
    rw [show (Addr.add ⟨W.heap.size, 0, none⟩ 0) = ⟨W.heap.size, 0, none⟩ from rfl, hc]
    show _ = some (Value.int .u8 ((UInt8.ofNat x.toNat).toNat : Int))
    rw [e])
  exact h
theorem cat_str (a : List UInt8) (s : ByteArray) : str a ++ s = str (a ++ s.data.toList) := by
  apply eq_list
  rw [str_list]
  simp [str]

set_option maxRecDepth 100000 in
set_option maxHeartbeats 1000000 in
theorem rDigits_any (n : Int) (h0 : -9223372036854775808 ≤ n) (h1 : n ≤ 9223372036854775807) (w : World) :
    Calls Tryz.prog 19 #[.int .i64 n] w fun e w' => e = .returned (.string (str (Lib.itoa n))) ∧ Below w.heap.size w w' := by
  by_cases hz : n = 0
  · subst hz
    have HZ : Hid (Lib.itoa 0 = [48]) := itoa_zero
    go_enter Tryz.func19, Tryz.ntmps19
    go_wp2
    go_ret
    exact ⟨ret_string (by rw [HZ.out]; rfl), Below.refl _ _⟩
  · have hz' : (n == 0) = false := by simp [hz]
    have HI : Hid (Lib.itoa n = (if n < 0 then [45] else []) ++ decD n.natAbs) := itoa_decD n hz
    have HL : Hid ((decD n.natAbs).length ≤ 21) := decD_len n h0 h1
    go_enter Tryz.func19, Tryz.ntmps19
    go_wp2
    go_loopw [0, 4] (fun mv ov wr => ∃ (m : Int) (o : ByteArray), mv = .int .i64 m ∧ ov = .string o ∧ -9223372036854775808 ≤ m ∧ m ≤ 9223372036854775807 ∧ o.size ≤ 21 ∧ Hid (decD m.natAbs ++ o.data.toList = decD n.natAbs) ∧ Hid (Below w.heap.size w wr)) (fun mv _ _ => (intOf mv).natAbs)
    case atStart => exact ⟨n, ⟨#[]⟩, rfl, rfl, h0, h1, by decide, (by simp : decD n.natAbs ++ (⟨#[]⟩ : ByteArray).data.toList = decD n.natAbs), Below.refl _ _⟩
    case round =>
      obtain ⟨m, o, rfl, rfl, m0, m1, hos, hst, hbl⟩ := hrel
      by_cases hm : m = 0
      · subst hm
        have HO : Hid (str (decD n.natAbs) = o) := (by rw [← hst.out]; exact str_self o : str (decD n.natAbs) = o)
        have hsz : (⟨#[45]⟩ : ByteArray).size + o.size ≤ 9223372036854775807 := by show 1 + o.size ≤ _; omega
        by_cases hn : n < 0
        · have HN : Hid (str (Lib.itoa n) = ⟨#[45]⟩ ++ o) := by
            show str (Lib.itoa n) = _
            rw [HI.out, if_pos hn, ← HO.out, show (⟨#[45]⟩ : ByteArray) = str [45] from rfl, cat_str, str_list]
          go_wp2
          go_ret
          exact ⟨ret_string HN.out.symm, hbl.out⟩
        · have HN : Hid (str (Lib.itoa n) = o) := by
            show str (Lib.itoa n) = _
            rw [HI.out, if_neg hn, ← HO.out]; rfl
          go_wp2
          go_ret
          exact ⟨ret_string HN.out.symm, hbl.out⟩
      · have hm' : (m != 0) = true := by simp [hm]
        have HS : Hid (decD m.natAbs = decD (m.natAbs / 10) ++ [UInt8.ofNat (48 + m.natAbs % 10)]) := decD_step _ (by omega)
        have HL2 : Hid ((decD m.natAbs).length + o.size ≤ 21) := by
          have h1 := HL.out
          rw [← hst.out, List.length_append, size_list] at h1
          exact h1
        have HL3 : Hid (1 + o.size ≤ 21) := by
          have h1 := HL2.out
          rw [HS.out, List.length_append] at h1
          simp at h1
          show 1 + o.size ≤ 21
          omega
        have hsz : ∀ c : UInt8, (str [c]).size + o.size ≤ 9223372036854775807 := by intro c; rw [str_size]; simp; omega
        have next : ∀ (q d : Int), q.natAbs = m.natAbs / 10 → 0 ≤ d → d = ((m.natAbs % 10 : Nat) : Int) → decD q.natAbs ++ (str [UInt8.ofNat (48 + d).toNat] ++ o).data.toList = decD n.natAbs := by
          intro q d e1 d0 e2
          rw [cat_str, str_list, e1, ← hst.out, HS.out, List.append_assoc, show (48 + d).toNat = 48 + m.natAbs % 10 by omega]
        have HX : Hid (∀ (q d : Int), q.natAbs = m.natAbs / 10 → 0 ≤ d → d = ((m.natAbs % 10 : Nat) : Int) → decD q.natAbs ++ (str [UInt8.ofNat (48 + d).toNat] ++ o).data.toList = decD n.natAbs) := next
        clear next
        have HZ : Hid (∀ c : UInt8, (str [c] ++ o).size ≤ 21) := by
          intro c
          rw [cat_str, str_size]
          have := HL3.out
          simp
          omega
        rcases (show 0 < m ∨ m < 0 by omega) with hp | hp
        · have hob := one_byte wr (48 + m % 10) (by omega) (by omega)
          have hsz' := hsz (UInt8.ofNat (48 + m % 10).toNat)
          clear hsz
          go_wp2
          go_roundw
          case rel => exact ⟨m / 10, _, rfl, rfl, by omega, by omega, HZ.out _, HX.out (m / 10) (m % 10) (by omega) (by omega) (by omega), hbl.out.alloc hbl.out.size _⟩
          case measure => simp [intOf]; omega
        · obtain ⟨f1, f2, f3, f4⟩ := div_facts m 10 (by omega)
          have f5 : m.tmod 10 ≤ 0 := by
            have := Int.tmod_nonneg 10 (show 0 ≤ -m by omega)
            rw [Int.neg_tmod] at this
            omega
          have HM : Hid ((m.tdiv 10).natAbs < m.natAbs) := (by omega : (m.tdiv 10).natAbs < m.natAbs)
          by_cases hd : m.tmod 10 < 0
          · have hob := one_byte wr (48 + -m.tmod 10) (by omega) (by omega)
            have hsz' := hsz (UInt8.ofNat (48 + -m.tmod 10).toNat)
            clear hsz
            have F : Hid (10 * m.tdiv 10 + m.tmod 10 = m) := f1
            clear f1
            go_wp2
            go_roundw
            case rel =>
              have f1 := F.out
              exact ⟨m.tdiv 10, _, rfl, rfl, by omega, by omega, HZ.out _, HX.out (m.tdiv 10) (-m.tmod 10) (by omega) (by omega) (by omega), hbl.out.alloc hbl.out.size _⟩
            case measure => exact HM.out
          · have hd0 : 0 ≤ m.tmod 10 := by omega
            have hob := one_byte wr (48 + m.tmod 10) (by omega) (by omega)
            have hsz' := hsz (UInt8.ofNat (48 + m.tmod 10).toNat)
            clear hsz
            have F : Hid (10 * m.tdiv 10 + m.tmod 10 = m) := f1
            clear f1
            go_wp2
            go_roundw
            case rel =>
              have f1 := F.out
              exact ⟨m.tdiv 10, _, rfl, rfl, by omega, by omega, HZ.out _, HX.out (m.tdiv 10) (m.tmod 10) (by omega) (by omega) (by omega), hbl.out.alloc hbl.out.size _⟩
            case measure => exact HM.out

end Oc
end Go.Proofs.YtpnijigjlhfklaaGreatDoor
