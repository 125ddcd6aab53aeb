/- Several texts as one. -/
import Derived.Test.YtkpdaialfcegfaaDoorMgN
import Derived.Deep.RegionHeld3
import Derived.Test.YtkpdaialfcegfaaDoorMgE
import Derived.Test.YtkpdaialfcegfaaDoorMgH
import Derived.Lib.ItoaMem
import Derived.Lib.ItoaLen
import Derived.Lib.AppendIntMem
/-
  The law's given: parts as the document has them.
-/
set_option linter.unusedVariables false
set_option linter.unusedSimpArgs false
namespace Go.Proofs.YtkpdaialfcegfaaDoor
open Go.RowKit Go.Shelf
namespace Pt
open Oc Tg

set_option maxRecDepth 100000 in
set_option maxHeartbeats 4000000 in
theorem given15_any (v : Value) (t : List P5) (w : World) (h : RdT v t w) (hl : t.length ≤ 16777216) :
    Calls Tryd.prog 19 #[v] w fun e w' => ∃ u, e = .returned u ∧ OwnT 72 w.heap.size u t w' ∧ Below w.heap.size w w' := by
  obtain ⟨a, c, rfl, h⟩ := h
  have HR : Hid (t = [] ∨ ∃ g o, a = some ⟨g, o, none⟩ ∧ t.length ≤ c ∧ ∀ j, j < t.length → CellT w g (o + j * 5) (nthT t j)) := h
  clear h
  go_enter Tryd.func19, Tryd.ntmps19
  go_wp2
  go_loopw [3, 4] (fun ov i wr => ∃ k : Nat, k ≤ t.length ∧ i = .int .i64 k ∧ Hid (OwnT 72 w.heap.size ov (t.take k) wr) ∧ Hid (Below w.heap.size w wr)) (fun _ i _ => t.length - (intOf i).toNat)
  case atStart => exact ⟨0, Nat.zero_le _, rfl, ownT_empty _ w (Nat.le_refl _), (Below.refl _ w).alloc (Nat.le_refl _) _⟩
  case round =>
    obtain ⟨k, hk, rfl, hown, hbl⟩ := hrel
    have hsz := hbl.out.size
    by_cases hlt : k < t.length
    · rcases HR.out with h | ⟨g, o, rfl, hc, hcell⟩
      · rw [h] at hlt; simp at hlt
      have hck := hcell k hlt
      have hg : g < w.heap.size := World.block_lt_of_cell? w _ hck.1
      obtain ⟨d0, d1, d2, d3, d4⟩ := hck.below hbl.out hg
      obtain ⟨e0, e1, e2, e3, e4⟩ := hck
      clear hcell
      have HTk : Hid (t.take (k + 1) = t.take k ++ [nthT t k]) := take_nthT t k hlt
      have hlk : (t.take k).length + 1 ≤ 1073741824 := by rw [List.length_take]; omega
      generalize nthT t k = p at *
      generalize hn : str p.n = n at d0 e0
      generalize hf : str p.f = f at d1 e1
      generalize hm : str p.m = m at d2 e2
      generalize hb : str p.b = b at d3 e3
      generalize hh : p.h = hh0 at d4 e4
      have HN : Hid (n = str p.n) := hn.symm
      have HF : Hid (f = str p.f) := hf.symm
      have HM : Hid (m = str p.m) := hm.symm
      have HBo : Hid (b = str p.b) := hb.symm
      have HH : Hid (hh0 = p.h) := hh.symm
      clear hn hf hm hb hh
      have HO1 : Hid (OwnT 72 w.heap.size _ (t.take k) wr.drew) := hown.out.below (below_drewN (Below.refl _ _) 1)
      have HB1 : Hid (Below w.heap.size w wr.drew) := below_drewN hbl.out 1
      have hs1 : w.heap.size ≤ wr.drew.heap.size := hsz
      have HBn : Hid (Below w.heap.size w wr) := hbl.out
      have HK : Hid (∀ W, Below w.heap.size w W → W.cell? ⟨g, o + k * 5, none⟩ = some (.string n) ∧ W.cell? ⟨g, o + k * 5 + 1, none⟩ = some (.string f) ∧ W.cell? ⟨g, o + k * 5 + 2, none⟩ = some (.string m) ∧ W.cell? ⟨g, o + k * 5 + 3, none⟩ = some (.string b) ∧ W.cell? ⟨g, o + k * 5 + 4, none⟩ = some (.bool hh0)) := fun W h => ⟨(h.cell (p := ⟨g, o + k * 5, none⟩) hg).trans e0, (h.cell (p := ⟨g, o + k * 5 + 1, none⟩) hg).trans e1, (h.cell (p := ⟨g, o + k * 5 + 2, none⟩) hg).trans e2, (h.cell (p := ⟨g, o + k * 5 + 3, none⟩) hg).trans e3, (h.cell (p := ⟨g, o + k * 5 + 4, none⟩) hg).trans e4⟩
      clear d0 d1 d2 d3 d4 e0 e1 e2 e3 e4
      go_wp2_with fail
      go_region_held3 (fun W => W.cell? ⟨g, o + k * 5, none⟩ = some (.string n) ∧ W.cell? ⟨g, o + k * 5 + 1, none⟩ = some (.string f) ∧ W.cell? ⟨g, o + k * 5 + 2, none⟩ = some (.string m) ∧ W.cell? ⟨g, o + k * 5 + 3, none⟩ = some (.string b) ∧ W.cell? ⟨g, o + k * 5 + 4, none⟩ = some (.bool hh0))
        ((refine HK.out _ ?_; first | with_reducible exact HBn.out | with_reducible exact HBn.out.drew | with_reducible exact HBn.out.drew.alloc hs1 _ | with_reducible exact HBn.out.alloc hsz _ | with_reducible exact (HBn.out.alloc hsz _).drew))
        (first
          | (refine step_appT 72 41 infoT2 Tryd.underlying41 rfl (.tmp 12) (.tmp 39) rfl w.heap.size _ (t.take k) wr.drew p _ _ _ _ HN.out HF.out HM.out HBo.out _ HH.out (by simp [Act.eval, Act.put]) HO1.out _ (by simp [Act.eval, Act.put]) rfl hlk hs1 ?_; intro v6 w6 hown6 hb6; have HBn : Hid (Below w.heap.size w w6) := HB1.out.trans hb6))
      all_goals
        have HO6 : Hid (OwnT 72 w.heap.size v6 (t.take (k + 1)) w6) := (by rw [HTk.out]; exact hown6 : OwnT 72 w.heap.size v6 (t.take (k + 1)) w6)
        have HB6 : Hid (Below w.heap.size w w6) := HB1.out.trans hb6
        clear hown6 hb6
        go_wp2
        go_roundw
        case rel => exact ⟨k + 1, by omega, by go_num, HO6, HB6⟩
        case measure => simp [intOf]; omega
    · obtain rfl : k = t.length := by omega
      rw [List.take_length] at hown
      go_wp2
      go_ret
      exact ⟨_, rfl, hown.out, hbl.out⟩

end Pt
end Go.Proofs.YtkpdaialfcegfaaDoor

/-
  Numbers in digits.
-/
set_option linter.unusedVariables false
set_option linter.unusedSimpArgs false
namespace Go.Proofs.YtkpdaialfcegfaaDoor
open Go.RowKit Go.Shelf
open Go.Sort (grow)
namespace Oc

/-- Go's table of tens lies where it was laid. -/
def Pow (w : World) : Prop := Lib.TabIs Tryd.prog w "internal/strconv.uint64pow10" .u64 Lib.pow10Tab
theorem gPow : Tryd.prog.globalNamed "internal/strconv.uint64pow10" = some 4 := by kernel_rfl
theorem Pow.lt {w : World} (h : Pow w) : 4 < w.heap.size := by
  have c := Lib.TabIs.cell h gPow 0 (by rw [Lib.pow10Tab_length]; omega)
  rcases Nat.lt_or_ge 4 w.heap.size with h | h
  · exact h
  · simp [World.cell?, Array.getElem?_eq_none h] at c
theorem Pow.below {B : Nat} {w w' : World} (h : Pow w) (b : Below B w w') (hB : w.heap.size ≤ B) : Pow w' := by
  have := h.lt
  exact var?_below b gPow (by omega) h

set_option maxHeartbeats 400000 in
theorem Digits_any (n : Int) (h0 : -9223372036854775808 ≤ n) (h1 : n ≤ 9223372036854775807) (w : World) (t : Pow w) :
    Calls Tryd.prog 37 #[.int .i64 n] w fun e w' => e = .returned (.string (str (Lib.itoa n))) ∧ Below w.heap.size w w' := by
  have HT : Hid (Pow w) := t
  clear t
  have hcon := Tryd.strconv_Itoa n h0 h1 w HT.out
  change Calls Tryd.prog 79 _ _ (fun e w' => e = .returned (.string (str (Lib.itoa n))) ∧ ∃ k os, w' = grow (w.drewN k) os) at hcon
  have HC : Hid (Calls Tryd.prog 79 #[.int .i64 n] w (fun e w' => e = .returned (.string (str (Lib.itoa n))) ∧ ∃ k os, w' = grow (w.drewN k) os)) := hcon
  clear hcon
  go_enter Tryd.func37, Tryd.ntmps37
  go_wp2_with fail
  refine HC.out.mono ?_
  rintro e w' ⟨rfl, k, os, rfl⟩
  go_wp2
  go_ret
  exact ⟨rfl, Lib.below_grow _ w (Nat.le_refl _) k os⟩

/-- Digits without any for 0. -/
def decD (u : Nat) : List UInt8 := if u = 0 then [] else Lib.decDigits u
theorem decD_step (u : Nat) (h : u ≠ 0) : decD u = decD (u / 10) ++ [UInt8.ofNat (48 + u % 10)] := by
  unfold decD
  rw [if_neg h]
  by_cases h1 : u < 10
  · rw [if_pos (by omega), Lib.decDigits_one h1, Nat.mod_eq_of_lt h1]; rfl
  · rw [if_neg (by omega), Lib.decDigits, dif_neg h1]
theorem decD_len (n : Int) (h0 : -9223372036854775808 ≤ n) (h1 : n ≤ 9223372036854775807) : (decD n.natAbs).length ≤ 21 := by
  have h := Lib.itoa_length_le n h0 h1
  unfold decD Lib.itoa at *
  split
  · simp
  · split at h
    · simp at h; omega
    · rw [show n.natAbs = n.toNat by omega]; exact h
theorem itoa_decD (n : Int) (h : n ≠ 0) : Lib.itoa n = (if n < 0 then [45] else []) ++ decD n.natAbs := by
  unfold Lib.itoa decD
  by_cases hn : n < 0
  · rw [if_pos hn, if_pos hn, if_neg (by omega)]; rfl
  · rw [if_neg hn, if_neg hn, if_neg (by omega), show n.natAbs = n.toNat by omega]; rfl
theorem itoa_zero : Lib.itoa 0 = [48] := by
  unfold Lib.itoa
  rw [if_neg (by omega), show (0 : Int).toNat = 0 from rfl, Lib.decDigits_one (by omega)]; rfl

theorem one_byte (W : World) (x : Int) (h0 : 0 ≤ x) (h1 : x ≤ 255) :
    (convert 61 9 (.slice (some ⟨W.heap.size, 0, none⟩) 1 1)).run Tryd.prog (W.alloc (.cells #[.int .u8 x] 5)) = .ok (.string (str [UInt8.ofNat x.toNat])) (W.alloc (.cells #[.int .u8 x] 5)) := by
  have h := run_convert_bytes_back (P := Tryd.prog) (W.alloc (.cells #[.int .u8 x] 5)) 61 9 5 ⟨W.heap.size, 0, none⟩ 1 [UInt8.ofNat x.toNat] Tryd.underlying61 Tryd.underlying5 Tryd.underlying9 (fun j hj => by
    have hj0 : j = 0 := by simpa using hj
    subst hj0
    have e : ((UInt8.ofNat x.toNat).toNat : Int) = x := by
      rw [UInt8.toNat_ofNat']
      omega
    have hc : (W.alloc (.cells #[.int .u8 x] 5)).cell? ⟨W.heap.size, 0, none⟩ = some (.int .u8 x) := by simp [World.cell?, World.alloc, -World.alloc_eq]
    rw [show (Addr.add ⟨W.heap.size, 0, none⟩ 0) = ⟨W.heap.size, 0, none⟩ from rfl, hc]
    show _ = some (Value.int .u8 ((UInt8.ofNat x.toNat).toNat : Int))
    rw [e])
  exact h
theorem cat_str (a : List UInt8) (s : ByteArray) : str a ++ s = str (a ++ s.data.toList) := by
  apply eq_list
  rw [str_list]
  simp [str]

set_option maxRecDepth 100000 in
set_option maxHeartbeats 1000000 in
theorem rDigits_any (n : Int) (h0 : -9223372036854775808 ≤ n) (h1 : n ≤ 9223372036854775807) (w : World) :
    Calls Tryd.prog 38 #[.int .i64 n] w fun e w' => e = .returned (.string (str (Lib.itoa n))) ∧ Below w.heap.size w w' := by
  by_cases hz : n = 0
  · subst hz
    have HZ : Hid (Lib.itoa 0 = [48]) := itoa_zero
    go_enter Tryd.func38, Tryd.ntmps38
    go_wp2
    go_ret
    exact ⟨ret_string (by rw [HZ.out]; rfl), Below.refl _ _⟩
  · have hz' : (n == 0) = false := by simp [hz]
    have HI : Hid (Lib.itoa n = (if n < 0 then [45] else []) ++ decD n.natAbs) := itoa_decD n hz
    have HL : Hid ((decD n.natAbs).length ≤ 21) := decD_len n h0 h1
    go_enter Tryd.func38, Tryd.ntmps38
    go_wp2
    go_loopw [0, 4] (fun mv ov wr => ∃ (m : Int) (o : ByteArray), mv = .int .i64 m ∧ ov = .string o ∧ -9223372036854775808 ≤ m ∧ m ≤ 9223372036854775807 ∧ o.size ≤ 21 ∧ Hid (decD m.natAbs ++ o.data.toList = decD n.natAbs) ∧ Hid (Below w.heap.size w wr)) (fun mv _ _ => (intOf mv).natAbs)
    case atStart => exact ⟨n, ⟨#[]⟩, rfl, rfl, h0, h1, by decide, (by simp : decD n.natAbs ++ (⟨#[]⟩ : ByteArray).data.toList = decD n.natAbs), Below.refl _ _⟩
    case round =>
      obtain ⟨m, o, rfl, rfl, m0, m1, hos, hst, hbl⟩ := hrel
      by_cases hm : m = 0
      · subst hm
        have HO : Hid (str (decD n.natAbs) = o) := (by rw [← hst.out]; exact str_self o : str (decD n.natAbs) = o)
        have hsz : (⟨#[45]⟩ : ByteArray).size + o.size ≤ 9223372036854775807 := by show 1 + o.size ≤ _; omega
        by_cases hn : n < 0
        · have HN : Hid (str (Lib.itoa n) = ⟨#[45]⟩ ++ o) := by
            show str (Lib.itoa n) = _
            rw [HI.out, if_pos hn, ← HO.out, show (⟨#[45]⟩ : ByteArray) = str [45] from rfl, cat_str, str_list]
          go_wp2
          go_ret
          exact ⟨ret_string HN.out.symm, hbl.out⟩
        · have HN : Hid (str (Lib.itoa n) = o) := by
            show str (Lib.itoa n) = _
            rw [HI.out, if_neg hn, ← HO.out]; rfl
          go_wp2
          go_ret
          exact ⟨ret_string HN.out.symm, hbl.out⟩
      · have hm' : (m != 0) = true := by simp [hm]
        have HS : Hid (decD m.natAbs = decD (m.natAbs / 10) ++ [UInt8.ofNat (48 + m.natAbs % 10)]) := decD_step _ (by omega)
        have HL2 : Hid ((decD m.natAbs).length + o.size ≤ 21) := by
          have h1 := HL.out
          rw [← hst.out, List.length_append, size_list] at h1
          exact h1
        have HL3 : Hid (1 + o.size ≤ 21) := by
          have h1 := HL2.out
          rw [HS.out, List.length_append] at h1
          simp at h1
          show 1 + o.size ≤ 21
          omega
        have hsz : ∀ c : UInt8, (str [c]).size + o.size ≤ 9223372036854775807 := by intro c; rw [str_size]; simp; omega
        have next : ∀ (q d : Int), q.natAbs = m.natAbs / 10 → 0 ≤ d → d = ((m.natAbs % 10 : Nat) : Int) → decD q.natAbs ++ (str [UInt8.ofNat (48 + d).toNat] ++ o).data.toList = decD n.natAbs := by
          intro q d e1 d0 e2
          rw [cat_str, str_list, e1, ← hst.out, HS.out, List.append_assoc, show (48 + d).toNat = 48 + m.natAbs % 10 by omega]
        have HX : Hid (∀ (q d : Int), q.natAbs = m.natAbs / 10 → 0 ≤ d → d = ((m.natAbs % 10 : Nat) : Int) → decD q.natAbs ++ (str [UInt8.ofNat (48 + d).toNat] ++ o).data.toList = decD n.natAbs) := next
        clear next
        have HZ : Hid (∀ c : UInt8, (str [c] ++ o).size ≤ 21) := by
          intro c
          rw [cat_str, str_size]
          have := HL3.out
          simp
          omega
        rcases (show 0 < m ∨ m < 0 by omega) with hp | hp
        · have hob := one_byte wr (48 + m % 10) (by omega) (by omega)
          have hsz' := hsz (UInt8.ofNat (48 + m % 10).toNat)
          clear hsz
          go_wp2
          go_roundw
          case rel => exact ⟨m / 10, _, rfl, rfl, by omega, by omega, HZ.out _, HX.out (m / 10) (m % 10) (by omega) (by omega) (by omega), hbl.out.alloc hbl.out.size _⟩
          case measure => simp [intOf]; omega
        · obtain ⟨f1, f2, f3, f4⟩ := div_facts m 10 (by omega)
          have f5 : m.tmod 10 ≤ 0 := by
            have := Int.tmod_nonneg 10 (show 0 ≤ -m by omega)
            rw [Int.neg_tmod] at this
            omega
          have HM : Hid ((m.tdiv 10).natAbs < m.natAbs) := (by omega : (m.tdiv 10).natAbs < m.natAbs)
          by_cases hd : m.tmod 10 < 0
          · have hob := one_byte wr (48 + -m.tmod 10) (by omega) (by omega)
            have hsz' := hsz (UInt8.ofNat (48 + -m.tmod 10).toNat)
            clear hsz
            have F : Hid (10 * m.tdiv 10 + m.tmod 10 = m) := f1
            clear f1
            go_wp2
            go_roundw
            case rel =>
              have f1 := F.out
              exact ⟨m.tdiv 10, _, rfl, rfl, by omega, by omega, HZ.out _, HX.out (m.tdiv 10) (-m.tmod 10) (by omega) (by omega) (by omega), hbl.out.alloc hbl.out.size _⟩
            case measure => exact HM.out
          · have hd0 : 0 ≤ m.tmod 10 := by omega
            have hob := one_byte wr (48 + m.tmod 10) (by omega) (by omega)
            have hsz' := hsz (UInt8.ofNat (48 + m.tmod 10).toNat)
            clear hsz
            have F : Hid (10 * m.tdiv 10 + m.tmod 10 = m) := f1
            clear f1
            go_wp2
            go_roundw
            case rel =>
              have f1 := F.out
              exact ⟨m.tdiv 10, _, rfl, rfl, by omega, by omega, HZ.out _, HX.out (m.tdiv 10) (m.tmod 10) (by omega) (by omega) (by omega), hbl.out.alloc hbl.out.size _⟩
            case measure => exact HM.out

end Oc
end Go.Proofs.YtkpdaialfcegfaaDoor
