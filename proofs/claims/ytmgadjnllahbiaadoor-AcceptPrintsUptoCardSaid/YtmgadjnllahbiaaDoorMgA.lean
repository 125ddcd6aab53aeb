/- Several texts as one. -/
import Derived.Test.YtmgadjnllahbiaaDoorAMe
import Derived.Test.YtmgadjnllahbiaaDoorRPrm2
import Derived.Test.YtmgadjnllahbiaaDoorAppR
import Derived.Test.YtmgadjnllahbiaaDoorPrt
import Derived.Test.YtmgadjnllahbiaaDoorRJoin
import Derived.Test.YtmgadjnllahbiaaDoorPlain
import Derived.Test.YtmgadjnllahbiaaDoorRows
import Derived.WalkKit
import Derived.Deep.QuietTactic
import Derived.BigQuiet
import Derived.Maps.AppendAt
import Derived.Test.YtmgadjnllahbiaaDoorAPn
import Derived.Test.YtmgadjnllahbiaaDoorAQl
import Derived.Test.YtmgadjnllahbiaaDoorSameL
import Derived.Test.YtmgadjnllahbiaaDoorJPlain
import Derived.OpenShut
import Derived.SliceStrings
import Derived.Carry
import Derived.Test.YtmgadjnllahbiaaDoorPrPlain
import Derived.Deep.Strs
import Derived.Test.YtmgadjnllahbiaaDoorALib
/-
  The document's parts, valued, Parse.
-/
set_option linter.unusedVariables false
set_option linter.unusedSimpArgs false
namespace Go.Proofs.YtmgadjnllahbiaaDoor
open Go.RowKit Go.Shelf
namespace Ac
open Oc Tg

set_option maxRecDepth 100000 in
set_option maxHeartbeats 1000000 in
theorem valued_any (v : Value) (t : List Prm) (w : World) (h : RdP v t w) (hl : t.length ≤ 4294967296) :
    Calls Tryd.prog 16 #[v] w fun e w' => e = .returned (.bool (!t.any noVal)) ∧ w' = w := by
  obtain ⟨a1, c1, rfl, h1⟩ := h
  go_enter Tryd.func16, Tryd.ntmps16
  go_wp2
  go_loop [3] (fun i => ∃ k : Nat, k ≤ t.length ∧ i = .int .i64 k ∧ Hid (∀ j, j < k → noVal (nth t j) = false)) (fun i => t.length - (intOf i).toNat)
  case atStart => exact ⟨0, Nat.zero_le _, rfl, (fun j hj => by omega : ∀ j, j < 0 → _)⟩
  case round =>
    obtain ⟨k, hk, rfl, hall⟩ := hrel
    by_cases hlt : k < t.length
    · rcases h1 with h | ⟨g1, o1, rfl, hc1, hcell1⟩
      · rw [h] at hlt; simp at hlt
      obtain ⟨_, _, p2⟩ := hcell1 k hlt
      clear hcell1
      have HT : (nth t k).2.2 = false → Hid ((!t.any noVal) = false) := fun h => (by
        have : t.any noVal = true := by
          rw [← idxB_any, idxB_at hlt (by unfold noVal; rw [h]; rfl) hall.out]
          exact decide_eq_true (by omega)
        rw [this]; rfl : (!t.any noVal) = false)
      have HF : (nth t k).2.2 = true → Hid (∀ j, j < k + 1 → noVal (nth t j) = false) := fun h j hj => by
        by_cases hjk : j = k
        · subst hjk; unfold noVal; rw [h]; rfl
        · exact hall.out j (by omega)
      generalize (nth t k).2.2 = z at *
      cases z with
      | true =>
        have HF2 := HF rfl
        go_wp2
        go_round
        case rel => exact ⟨k + 1, by omega, by go_num, HF2⟩
        case measure => simp [intOf]; omega
      | false =>
        have HT2 := HT rfl
        go_wp2
        go_ret
        exact ⟨ret_bool HT2.out.symm, rfl⟩
    · have HE : Hid ((!t.any noVal) = true) := by
        show _ = _
        have : t.any noVal = false := by
          rw [← idxB_any, idxB_none (fun j hj => hall.out j (by omega))]
          rfl
        rw [this]; rfl
      go_wp2
      go_ret
      exact ⟨ret_bool HE.out.symm, rfl⟩

end Ac
end Go.Proofs.YtmgadjnllahbiaaDoor

/-
  The document's Print.
-/
set_option linter.unusedVariables false
set_option linter.unusedSimpArgs false
namespace Go.Proofs.YtmgadjnllahbiaaDoor
open Go.RowKit Go.Shelf
namespace Oc

/-- A text appended to a slice of bytes of the call's own: other blocks stay. -/
theorem wp_appG {ops : Array Oper} {rest : List Oper} {o : Oper} {a : Act} {Q : Exit → Act → World → Prop} (hgd : o.guard = none) (s x : Operand)
    (ho : o.op = .call { callee := .builtin .append, args := #[s, x], argTypes := #[56, 9] }) (B : Nat) (v : Value) (l : List UInt8) (W : World) (y : ByteArray) (m : List UInt8) (hy : y = str m)
    (hs : a.eval s = v) (hown : Own B v l W) (hx : a.eval x = .string y) (hlen : l.length + m.length ≤ 140737488355328) (hB : B ≤ W.heap.size)
    (h : ∀ v' w', Own B v' (l ++ m) w' → Below B W w' → W.grownBy w' v.ownBlock → wpList Tryd.prog ops Q rest (a.put o.dst v') w') : wpList Tryd.prog ops Q (o :: rest) a W := by
  subst hy
  obtain ⟨i0, hi, hz0, hz1, hz2⟩ := info5
  refine Lib.wpList_append_own_string _ hgd s x 56 9 ho B 5 i0 Tryd.underlying56 Tryd.underlying9 hi hz0 hz1 hz2 v l.length _ hs hown (str m) hx ?_ ?_ ?_ ?_
  · rw [str_size]; unfold maxLen; omega
  · rw [str_size]; omega
  · exact hB
  · intro v' w' h1 h2 _
    rw [Lib.strCells_eq, str_list, ← Lib.byteCells_append, str_size] at h1
    refine h v' w' ?_ ((Below.refl B W).grown h2 hB (fun k hk => (World.ownsRow.lt hown k hk).1)) h2
    unfold Own
    rw [List.length_append]
    exact h1
theorem Own.below {B : Nat} {v : Value} {l : List UInt8} {w w' : World} (h : Own B v l w) (b : Below w.heap.size w w') : Own B v l w' := by
  refine ⟨h.1, ?_⟩
  rcases h.2 with hn | ⟨g, cap, cur, rfl, hb, hg, rest⟩
  · exact .inl hn
  · refine .inr ⟨g, cap, cur, rfl, hb, ?_, rest⟩
    have hlt : g < w.heap.size := by
      rcases Nat.lt_or_ge g w.heap.size with h | h
      · exact h
      · simp [Array.getElem?_eq_none h] at hg
    rw [b.block g hlt]
    exact hg
theorem prt1_nofld {n v : List UInt8} {b : Bool} (h : isFld v = false) : prt1 (n, v, b) = none := by
  unfold prt1
  simp only
  split
  · rfl
  · split
    · rw [if_neg]
      intro e
      rw [e] at h
      cases h
    · rw [if_neg (fun e => by rw [isTok_fld e] at h; cases h), if_neg (by rw [h]; simp)]

set_option maxRecDepth 100000 in
set_option maxHeartbeats 4000000 in
theorem rPrint_any (v : Value) (t : List Prm) (w : World) (h : RdP v t w) (hl : t.length ≤ 16777216) (hS : sumP t ≤ 8388608) :
    Calls Tryd.prog 14 #[v] w fun e w' => e = .returned (.tuple #[.string (str (printR t).1), .int .i64 (printR t).2]) ∧ Below w.heap.size w w' := by
  obtain ⟨a, c, rfl, h⟩ := h
  have HR : Hid (t = [] ∨ ∃ g o, a = some ⟨g, o, none⟩ ∧ t.length ≤ c ∧ ∀ j, j < t.length → w.cell? ⟨g, o + j * 3, none⟩ = some (.string (str (nth t j).1)) ∧ w.cell? ⟨g, o + j * 3 + 1, none⟩ = some (.string (str (nth t j).2.1)) ∧ w.cell? ⟨g, o + j * 3 + 2, none⟩ = some (.bool (nth t j).2.2)) := h
  clear h
  go_enter Tryd.func14, Tryd.ntmps14
  go_wp2
  go_loopw [4, 5] (fun ov i wr => ∃ (k : Nat) (acc : List UInt8), k ≤ t.length ∧ i = .int .i64 k ∧ acc.length + 2 * sumP (t.drop k) ≤ 16777216 ∧ Hid (prts t = (prts (t.drop k)).map (acc ++ ·)) ∧ Hid (Own w.heap.size ov acc wr) ∧ Hid (Below w.heap.size w wr)) (fun _ i _ => t.length - (intOf i).toNat)
  case atStart => exact ⟨0, [], Nat.zero_le _, rfl, by simp; omega, (by simp : prts t = (prts (t.drop 0)).map ([] ++ ·)), own_none _ w (Nat.le_refl _), (Below.refl _ w).alloc (Nat.le_refl _) _⟩
  case round =>
    obtain ⟨k, acc, hk, rfl, hacc, hst, hown, hbl⟩ := hrel
    have hsz := hbl.out.size
    by_cases hlt : k < t.length
    · rcases HR.out with h | ⟨g, o, rfl, hc, hcell⟩
      · rw [h] at hlt; simp at hlt
      obtain ⟨c0, c1, c2⟩ := hcell k hlt
      have hg : g < w.heap.size := World.block_lt_of_cell? w _ c0
      have d0 : wr.cell? ⟨g, o + k * 3, none⟩ = some (.string (str (nth t k).1)) := (hbl.out.cell (p := ⟨g, o + k * 3, none⟩) hg).trans c0
      have d1 : wr.cell? ⟨g, o + k * 3 + 1, none⟩ = some (.string (str (nth t k).2.1)) := (hbl.out.cell (p := ⟨g, o + k * 3 + 1, none⟩) hg).trans c1
      have d2 : wr.cell? ⟨g, o + k * 3 + 2, none⟩ = some (.bool (nth t k).2.2) := (hbl.out.cell (p := ⟨g, o + k * 3 + 2, none⟩) hg).trans c2
      clear hcell c0 c1 c2
      have hz := nth_sz t k hlt
      rw [sumP_drop t k hlt] at hacc
      have HStep : Hid (∀ x, prt1 (nth t k) = some x → prts t = (prts (t.drop (k + 1))).map ((acc ++ x) ++ ·)) := fun x hx => prts_step hlt hst.out hx
      have HBad : Hid (prt1 (nth t k) = none → printR t = ([], 15)) := fun hx => prts_bad hlt hst.out hx
      have hgr : g ≠ wr.heap.size := by omega
      generalize nth t k = p at *
      obtain ⟨pn, pv, pb⟩ := p
      unfold szP at hz hacc
      dsimp only at hz hacc d0 d1 d2
      have hn := str_size pn
      have hv := str_size pv
      have HL1 : Hid ((str pn).data.toList = pn) := str_list pn
      have HL2 : Hid ((str pv).data.toList = pv) := str_list pv
      generalize str pn = n at *
      generalize str pv = v at *
      have HN : Hid (n.size ≤ maxLen) := (by unfold maxLen; omega : n.size ≤ maxLen)
      have HV : Hid (v.size ≤ maxLen) := (by unfold maxLen; omega : v.size ≤ maxLen)
      have HB3 : Hid (Below w.heap.size w (wr.alloc (.cells #[.string n, .string v, .bool pb] 41))) := hbl.out.alloc hsz _
      have HO3 : Hid (Own w.heap.size _ acc (wr.alloc (.cells #[.string n, .string v, .bool pb] 41))) := hown.out.alloc _
      go_wp2_with fail
      refine (rIsToken_any n HN.out _).mono ?_
      rintro e w4 ⟨rfl, rfl⟩
      rw [HL1.out]
      cases htn : isTok pn with
      | false =>
        have HE : Hid (printR t = ([], 15)) := HBad.out (by unfold prt1; rw [if_pos htn])
        clear htn
        go_wp2
        go_ret2
        rw [HE.out]
        exact ⟨rfl, HB3.out⟩
      | true =>
        have htn' : ¬ isTok pn = false := by rw [htn]; simp
        go_wp2_with fail
        refine (rIsField_any v HV.out _).mono ?_
        rintro e w5 ⟨rfl, rfl⟩
        rw [HL2.out]
        cases hf : isFld pv with
        | false =>
          have HE : Hid (printR t = ([], 15)) := HBad.out (prt1_nofld hf)
          clear htn htn' hf
          go_wp2
          go_ret2
          rw [HE.out]
          exact ⟨rfl, HB3.out⟩
        | true =>
          have HY1 : Hid ((⟨#[59, 32]⟩ : ByteArray) ++ n = str (59 :: 32 :: pn)) := to_str (by rw [cat_list, HL1.out]; rfl)
          have hz1 : (⟨#[59, 32]⟩ : ByteArray).size + n.size ≤ 9223372036854775807 := by show 2 + n.size ≤ _; omega
          have HA1 : Hid (acc.length + (59 :: 32 :: pn).length ≤ 140737488355328) := (by simp only [List.length_cons]; omega : acc.length + (59 :: 32 :: pn).length ≤ 140737488355328)
          have HOB : Hid (∀ b, Value.ownBlock u4 = some b → b < wr.heap.size) := fun b hb => (World.ownsRow.lt hown.out b hb).2
          have hsa : w.heap.size ≤ (wr.alloc (.cells #[.string n, .string v, .bool pb] 41)).heap.size := by simp; omega
          generalize hq : (⟨#[59, 32]⟩ : ByteArray) ++ n = q at HY1
          cases pb with
          | false =>
            by_cases hv0 : v.size = 0
            · have hve := empty_of hv0
              have hvl : pv = [] := List.length_eq_zero_iff.1 (by omega)
              have hp : prt1 (pn, pv, false) = some (59 :: 32 :: pn) := by unfold prt1; rw [if_neg htn', if_pos rfl, if_pos hvl]
              have HS2 : Hid (prts t = (prts (t.drop (k + 1))).map ((acc ++ (59 :: 32 :: pn)) ++ ·)) := HStep.out _ hp
              have hxl := prt1_len hp
              unfold szP at hxl
              dsimp only at hxl
              clear hp htn htn' hf hvl
              go_wp2_with (at_builtin; go_must (refine wp_appG rfl (.tmp 39) (.tmp 42) rfl w.heap.size _ acc _ _ (59 :: 32 :: pn) HY1.out rfl HO3.out rfl HA1.out hsa ?_))
              intro v6 w6 hown6 hb6 hg6
              have HO6 : Hid (Own w.heap.size v6 (acc ++ (59 :: 32 :: pn)) w6) := hown6
              have HB6 : Hid (Below w.heap.size w w6) := HB3.out.trans hb6
              have hblk := hg6.block wr.heap.size (by simp) (fun e => by have := HOB.out _ e.symm; omega)
              have k2 : w6.cell? ⟨wr.heap.size, 2, none⟩ = some (.bool false) := (World.cell?_of_block (a := ⟨wr.heap.size, 2, none⟩) hblk).trans (by simp)
              clear hown6 hb6 hg6 hblk
              go_wp2
              go_roundw
              case rel => exact ⟨k + 1, acc ++ (59 :: 32 :: pn), by omega, by go_num, by rw [List.length_append]; omega, HS2, HO6, HB6⟩
              case measure => simp [intOf]; omega
            · have hve := nonempty_of hv0
              have hvl : ¬ pv = [] := fun e => hv0 (by rw [hv, e]; rfl)
              have HE : Hid (printR t = ([], 15)) := HBad.out (by unfold prt1; rw [if_neg htn', if_pos rfl, if_neg hvl])
              clear htn htn' hf hvl
              go_wp2
              go_ret2
              rw [HE.out]
              exact ⟨rfl, HB3.out⟩
          | true =>
            have hne : ¬ (true = false) := by simp
            have hve : v.toList.isEmpty = true ∨ v.toList.isEmpty = false := by cases v.toList.isEmpty <;> simp
            go_wp2_with (at_builtin; go_must (refine wp_appG rfl (.tmp 39) (.tmp 42) rfl w.heap.size _ acc _ _ (59 :: 32 :: pn) HY1.out rfl HO3.out rfl HA1.out hsa ?_))
            intro v6 w6 hown6 hb6 hg6
            have HO6 : Hid (Own w.heap.size v6 (acc ++ (59 :: 32 :: pn)) w6) := hown6
            have HB6 : Hid (Below w.heap.size w w6) := HB3.out.trans hb6
            have hs6 := HB6.out.size
            have hblk := hg6.block wr.heap.size (by simp) (fun e => by have := HOB.out _ e.symm; omega)
            have k1 : w6.cell? ⟨wr.heap.size, 1, none⟩ = some (.string v) := (World.cell?_of_block (a := ⟨wr.heap.size, 1, none⟩) hblk).trans (by simp)
            have k2 : w6.cell? ⟨wr.heap.size, 2, none⟩ = some (.bool true) := (World.cell?_of_block (a := ⟨wr.heap.size, 2, none⟩) hblk).trans (by simp)
            clear hown6 hb6 hg6 hblk
            go_wp2_with fail
            refine (rIsToken_any v HV.out _).mono ?_
            rintro e w7 ⟨rfl, rfl⟩
            rw [HL2.out]
            cases htv : isTok pv with
            | true =>
              have hp : prt1 (pn, pv, true) = some (59 :: 32 :: (pn ++ 61 :: pv)) := by unfold prt1; rw [if_neg htn', if_neg hne, if_pos htv]
              have HS2 : Hid (prts t = (prts (t.drop (k + 1))).map ((acc ++ (59 :: 32 :: (pn ++ 61 :: pv))) ++ ·)) := HStep.out _ hp
              have hxl := prt1_len hp
              unfold szP at hxl
              dsimp only at hxl
              have HY2 : Hid ((⟨#[61]⟩ : ByteArray) ++ v = str (61 :: pv)) := to_str (by rw [cat_list, HL2.out]; rfl)
              have hz2 : (⟨#[61]⟩ : ByteArray).size + v.size ≤ 9223372036854775807 := by show 1 + v.size ≤ _; omega
              have HA2 : Hid ((acc ++ (59 :: 32 :: pn)).length + (61 :: pv).length ≤ 140737488355328) := (by rw [List.length_append]; simp only [List.length_cons]; omega : (acc ++ (59 :: 32 :: pn)).length + (61 :: pv).length ≤ 140737488355328)
              have HAp : Hid ((acc ++ (59 :: 32 :: pn)) ++ (61 :: pv) = acc ++ (59 :: 32 :: (pn ++ 61 :: pv))) := (by simp : (acc ++ (59 :: 32 :: pn)) ++ (61 :: pv) = acc ++ (59 :: 32 :: (pn ++ 61 :: pv)))
              clear hp htn htn' hf htv hne
              generalize acc ++ (59 :: 32 :: pn) = acc2 at *
              generalize hq2 : (⟨#[61]⟩ : ByteArray) ++ v = q2 at HY2
              go_wp2_with (at_builtin; go_must (refine wp_appG rfl (.tmp 56) (.tmp 58) rfl w.heap.size _ acc2 _ _ (61 :: pv) HY2.out rfl HO6.out rfl HA2.out hs6 ?_))
              intro v8 w8 hown8 hb8 _
              have HO8 : Hid (Own w.heap.size v8 (acc ++ (59 :: 32 :: (pn ++ 61 :: pv))) w8) := (by rw [← HAp.out]; exact hown8 : Own w.heap.size v8 (acc ++ (59 :: 32 :: (pn ++ 61 :: pv))) w8)
              have HB8 : Hid (Below w.heap.size w w8) := HB6.out.trans hb8
              clear hown8 hb8
              go_wp2
              go_roundw
              case rel => exact ⟨k + 1, _, by omega, by go_num, by rw [List.length_append]; omega, HS2, HO8, HB8⟩
              case measure => simp [intOf]; omega
            | false =>
              have htv' : ¬ isTok pv = true := by rw [htv]; simp
              have hp : prt1 (pn, pv, true) = some (59 :: 32 :: (pn ++ 61 :: qText pv)) := by unfold prt1; rw [if_neg htn', if_neg hne, if_neg htv', if_pos hf]
              have HS2 : Hid (prts t = (prts (t.drop (k + 1))).map ((acc ++ (59 :: 32 :: (pn ++ 61 :: qText pv))) ++ ·)) := HStep.out _ hp
              have hxl := prt1_len hp
              unfold szP at hxl
              dsimp only at hxl
              have hql := qText_len pv
              have HQ : Hid (quoteR pv = (qText pv, 0)) := (by unfold quoteR; rw [hf]; rfl : quoteR pv = _)
              have HA2 : Hid ((acc ++ (59 :: 32 :: pn)).length + (61 :: qText pv).length ≤ 140737488355328) := (by rw [List.length_append]; simp only [List.length_cons]; omega : (acc ++ (59 :: 32 :: pn)).length + (61 :: qText pv).length ≤ 140737488355328)
              have HAp : Hid ((acc ++ (59 :: 32 :: pn)) ++ (61 :: qText pv) = acc ++ (59 :: 32 :: (pn ++ 61 :: qText pv))) := (by simp : (acc ++ (59 :: 32 :: pn)) ++ (61 :: qText pv) = acc ++ (59 :: 32 :: (pn ++ 61 :: qText pv)))
              have hqs := str_size (qText pv)
              clear hp htn htn' hf htv htv' hne
              generalize acc ++ (59 :: 32 :: pn) = acc2 at *
              go_wp2_with fail
              refine (rQuote_any v (by omega) _).mono ?_
              rintro e w7 ⟨rfl, hb7⟩
              rw [HL2.out, HQ.out]
              have HB7 : Hid (Below w.heap.size w w7) := bel_trans HB6.out hb7
              have HO7 : Hid (Own w.heap.size v6 acc2 w7) := HO6.out.below hb7
              have hs7 := HB7.out.size
              clear hb7
              have HY2 : Hid ((⟨#[61]⟩ : ByteArray) ++ str (qText pv) = str (61 :: qText pv)) := to_str (by rw [cat_list, str_list]; rfl)
              have hz2 : (⟨#[61]⟩ : ByteArray).size + (str (qText pv)).size ≤ 9223372036854775807 := by show 1 + _ ≤ _; omega
              dsimp only
              generalize str (qText pv) = y at *
              generalize hq2 : (⟨#[61]⟩ : ByteArray) ++ y = q2 at HY2
              go_wp2_with (at_builtin; go_must (refine wp_appG rfl (.tmp 56) (.tmp 58) rfl w.heap.size _ acc2 _ _ (61 :: qText pv) HY2.out rfl HO7.out rfl HA2.out hs7 ?_))
              intro v8 w8 hown8 hb8 _
              have HO8 : Hid (Own w.heap.size v8 (acc ++ (59 :: 32 :: (pn ++ 61 :: qText pv))) w8) := (by rw [← HAp.out]; exact hown8 : Own w.heap.size v8 (acc ++ (59 :: 32 :: (pn ++ 61 :: qText pv))) w8)
              have HB8 : Hid (Below w.heap.size w w8) := HB7.out.trans hb8
              clear hown8 hb8
              go_wp2
              go_roundw
              case rel => exact ⟨k + 1, _, by omega, by go_num, by rw [List.length_append]; omega, HS2, HO8, HB8⟩
              case measure => simp [intOf]; omega
    · obtain rfl : k = t.length := by omega
      have hpe := prts_end hst.out
      have HE : Hid (printR t = (acc, 0)) := (by unfold printR; rw [hpe] : printR t = _)
      have hconv := own_back hown.out
      clear hpe
      go_wp2
      go_ret2
      rw [HE.out]
      exact ⟨rfl, hbl.out⟩

end Oc
end Go.Proofs.YtmgadjnllahbiaaDoor

/-
  A region that draws its order, whose own operations only read and whose callees leave all that lay: one walk.
-/
set_option linter.unusedVariables false
set_option linter.unusedSimpArgs false
namespace Go.Proofs.YtmgadjnllahbiaaDoor
open Go.RowKit
namespace Oc

/-- A world in which all that lay in w lies as it lay. -/
structure BelBy (w : World) where
  to : World
  bel : Below w.heap.size w to
theorem wp_region_bel {P : Program} {id : Nat} {Q : Exit → Act → World → Prop} {a : Act} {w : World} {l : List Oper} (hm : P.follows .mixedOrders = true) (hB : Region.lexB .any l.toArray = true)
    (h : wpQuiet P l.toArray (fun w' => ∃ p : BelBy w, w' = p.to) (fun a' => ∀ w', (∃ p : BelBy w, w' = p.to) → Q .normal a' w') l a) : (Code.region id l.toArray true).wp P Q a w :=
  wp_region_quiet (C := fun w' => ∃ p : BelBy w, w' = p.to) hm hB ⟨⟨w.drew, ⟨rfl, rfl, rfl, Nat.le_refl _, fun _ _ => rfl⟩⟩, rfl⟩ (by simpa using h)
/-- A callee's contract, met in such a world. -/
theorem Calls.bel_of {P : Program} {f : FuncId} {args : Array Value} {w : World} {p : BelBy w} {v : Value}
    (h : Calls P f args p.to fun e w' => e = .returned v ∧ Below p.to.heap.size p.to w') : Calls P f args p.to fun e w'' => e = .returned v ∧ ∃ p' : BelBy w, w'' = p'.to :=
  h.mono fun _ w' ⟨he, hb⟩ => ⟨he, ⟨w', p.bel.trans (hb.mono p.bel.size)⟩, rfl⟩
theorem BelBy.cell {w : World} (p : BelBy w) {a : Addr} {v : Value} (h : w.cell? a = some v) : p.to.cell? a = some v := by
  rw [p.bel.cell (World.block_lt_of_cell? w _ h)]
  exact h
theorem mixB : Tryd.prog.follows .mixedOrders = true := by kernel_rfl

end Oc
end Go.Proofs.YtmgadjnllahbiaaDoor

/-
  The law's params and alike.
-/
set_option linter.unusedVariables false
set_option linter.unusedSimpArgs false
namespace Go.Proofs.YtmgadjnllahbiaaDoor
open Go.RowKit Go.Shelf
namespace Ac
open Oc Tg

set_option maxRecDepth 100000 in
set_option maxHeartbeats 1000000 in
theorem params_any (v1 v2 : Value) (t : List Prm) (w : World) (h1 : RdP v1 t w) (h2 : RdP v2 t w) (hl : t.length ≤ 4294967296) :
    Calls Tryd.prog 19 #[v1, v2] w fun e w' => e = .returned (.bool true) ∧ ∃ n, w' = w.drewN n := by
  obtain ⟨a1, c1, rfl, h1⟩ := h1
  obtain ⟨a2, c2, rfl, h2⟩ := h2
  have hne : ((t.length : Int) != (t.length : Int)) = false := by simp
  go_enter Tryd.func19, Tryd.ntmps19
  go_wp2
  go_loopw [5] (fun i wr => ∃ k : Nat, k ≤ t.length ∧ i = .int .i64 k ∧ Hid (∃ n, wr = w.drewN n)) (fun i _ => t.length - (intOf i).toNat)
  case atStart => exact ⟨0, Nat.zero_le _, rfl, (⟨0, rfl⟩ : ∃ n, w = w.drewN n)⟩
  case round =>
    obtain ⟨k, hk, rfl, hw⟩ := hrel
    obtain ⟨n, rfl⟩ := hw.out
    clear hw
    by_cases hlt : k < t.length
    · rcases h1 with h | ⟨g1, o1, rfl, hc1, hcell1⟩
      · rw [h] at hlt; simp at hlt
      rcases h2 with h | ⟨g2, o2, rfl, hc2, hcell2⟩
      · rw [h] at hlt; simp at hlt
      obtain ⟨p0, p1, p2⟩ := hcell1 k hlt
      obtain ⟨q0, q1, q2⟩ := hcell2 k hlt
      clear hcell1 hcell2
      generalize str (nth t k).1 = x at p0 q0
      generalize str (nth t k).2.1 = y at p1 q1
      generalize (nth t k).2.2 = z at p2 q2
      have hz : (z != z) = false := by simp
      go_wp2_with fail
      go_quiet (fail)
      go_wp2
      go_roundw
      case rel => exact ⟨k + 1, by omega, by go_num, (⟨_, rfl⟩ : ∃ m, w.drewN (n + nq) = w.drewN m)⟩
      case measure => simp [intOf]; omega
    · go_wp2
      go_ret
      exact ⟨rfl, _, rfl⟩

set_option maxRecDepth 100000 in
set_option maxHeartbeats 1000000 in
theorem alike07_any (A B : ByteArray) (v1 v2 : Value) (t : List Prm) (w : World) (h1 : RdP v1 t w) (h2 : RdP v2 t w) (hl : t.length ≤ 4294967296) :
    Calls Tryd.prog 8 #[.agg #[.string A, .string B, v1], .agg #[.string A, .string B, v2]] w fun e w' => e = .returned (.bool true) ∧ Below w.heap.size w w' := by
  have hA : (A.toList == A.toList) = true := by simp
  have hB : (B.toList == B.toList) = true := by simp
  obtain ⟨w2, hw2⟩ : ∃ w2, w2 = (w.alloc (.cells #[.string A, .string B, v1] 24)).alloc (.cells #[.string A, .string B, v2] 27) := ⟨_, rfl⟩
  have hb2 : Below w.heap.size w w2 := by rw [hw2]; exact ((Below.refl _ w).alloc (Nat.le_refl _) _).alloc (by simp) _
  have HP : Hid (Calls Tryd.prog 19 #[v1, v2] w2 fun e w' => e = .returned (.bool true) ∧ ∃ n, w' = w2.drewN n) := params_any v1 v2 t w2 (h1.below hb2) (h2.below hb2) hl
  have HB2 : Hid (Below w.heap.size w w2) := hb2
  obtain ⟨a1, c1, rfl, _⟩ := h1
  obtain ⟨a2, c2, rfl, _⟩ := h2
  clear hb2
  subst hw2
  go_enter Tryd.func8, Tryd.ntmps8
  go_wp2_with fail
  refine HP.out.mono ?_
  rintro e w3 ⟨rfl, n, rfl⟩
  go_wp2
  go_ret
  exact ⟨rfl, bel_trans HB2.out ⟨rfl, rfl, rfl, Nat.le_refl _, fun _ _ => rfl⟩⟩

end Ac
end Go.Proofs.YtmgadjnllahbiaaDoor

/-
  The law's media: a media type as the document has it.
-/
set_option linter.unusedVariables false
set_option linter.unusedSimpArgs false
namespace Go.Proofs.YtmgadjnllahbiaaDoor
open Go.RowKit Go.Shelf
namespace Ac
open Oc Tg

theorem heap_keep {W : World} {b : Nat} {o o' : Obj} (h : W.heap[b]? = some o) : (W.alloc o').heap[b]? = some o := by
  have hlt : b < W.heap.size := (Array.getElem?_eq_some_iff.1 h).1
  show (W.heap.push o')[b]? = _
  rw [Array.getElem?_push_lt hlt]
  rw [Array.getElem?_eq_getElem hlt] at h
  exact h
theorem heap_newAt (W : World) (o : Obj) (n : Nat) (h : W.heap.size = n) : (W.alloc o).heap[n]? = some o := by
  subst h
  exact heap_alloc_new W o
theorem take_nthM (t : List Prm) (k : Nat) (h : k < t.length) : t.take (k + 1) = t.take k ++ [nth t k] := by
  unfold nth
  rw [List.take_add_one, List.getElem?_eq_getElem h, List.getD_eq_getElem?_getD, List.getElem?_eq_getElem h]; rfl
/-- A parameter appended to a slice of the call's own; every block but the slice's own stays. -/
theorem wp_appP2 {ops : Array Oper} {rest : List Oper} {o : Oper} {a : Act} {Q : Exit → Act → World → Prop} (T S : Nat) (hinfo : (Tryd.prog.info? T).map (fun i => (i.zero, i.size, i.bytes)) = some (some (.agg #[.string ⟨#[]⟩, .string ⟨#[]⟩, .bool false]), 3, 40))
    (hund : Tryd.prog.underlying S = some (.slice T)) (hgd : o.guard = none) (s x : Operand)
    (ho : o.op = .call { callee := .builtin .append, args := #[s, x], argTypes := #[S, S] }) (B : Nat) (v : Value) (t : List Prm) (W : World) (p : Prm) (n1 n2 : ByteArray) (h1 : n1 = str p.1) (h2 : n2 = str p.2.1) (b : Bool) (h3 : b = p.2.2)
    (hs : a.eval s = v) (hown : OwnP T B v t W) (g : Nat) (hx : a.eval x = .slice (some ⟨g, 0, none⟩) 1 1) (hg : g = W.heap.size) (hlen : t.length + 1 ≤ 2147483648) (hB : B ≤ W.heap.size)
    (h : ∀ v' w', OwnP T B v' (t ++ [p]) w' → Below B W w' → (∀ k, k < W.heap.size → v.ownBlock ≠ some k → w'.heap[k]? = W.heap[k]?) → wpList Tryd.prog ops Q rest (a.put o.dst v') w') : wpList Tryd.prog ops Q (o :: rest) a (W.alloc (.cells #[.string n1, .string n2, .bool b] T)) := by
  subst h1 h2 h3 hg
  obtain ⟨i0, hi, hz0, hz1, hz2⟩ := info_parts hinfo
  refine wpList_append_own_at _ hgd s x S ho B T i0 (.agg #[.string ⟨#[]⟩, .string ⟨#[]⟩, .bool false]) 3 40 hund hi hz0 hz1 hz2 rfl (by decide) v t.length _ hs (World.ownsRow.alloc hown _) ⟨W.heap.size, 0, none⟩ 1 1 (enc1 p) hx rfl ?_ ?_ ?_ ?_ ?_ ?_
  · intro j u hj
    unfold enc1 at hj
    match j, hj with
    | 0, hj => simp at hj; subst hj; simp [Addr.add]
    | 1, hj => simp at hj; subst hj; simp [Addr.add]
    | 2, hj => simp at hj; subst hj; simp [Addr.add]
  · intro u hu
    unfold enc1 at hu
    simp at hu
    rcases hu with rfl | rfl | rfl <;> rfl
  · unfold maxLen; omega
  · omega
  · simp; omega
  · intro v' w' h1 h2 _ h4
    refine h v' w' ?_ (((Below.refl B W).alloc hB _).grown h2 (by simp; omega) (fun k hk => (World.ownsRow.lt hown k hk).1)) (fun k hk hne => (h2.block k (by simp; omega) (fun e => hne e.symm)).trans (Lib.alloc_old W _ k hk))
    unfold OwnP
    rw [encP_snoc, List.length_append]
    exact h1
/-- The row's block is none that holds cells of another type. -/
theorem OwnP.notBlk {T B : Nat} {v : Value} {t : List Prm} {w : World} (h : OwnP T B v t w) {k : Nat} {cs : Array Value} {T' : TypeId} {fz : Nat × Nat} (hk : w.heap[k]? = some (.cells cs T' fz)) (hT : T' ≠ T) : v.ownBlock ≠ some k := by
  intro e
  rcases h.2 with ⟨rfl, _⟩ | ⟨g, cap, cur, rfl, _, hg, _⟩
  · cases e
  · have : g = k := by simpa [Value.ownBlock] using e
    subst this
    rw [hk] at hg
    injection hg with hg
    injection hg with _ h2 _
    exact hT h2

theorem OwnP.setOther {T B p j : Nat} {v : Value} {t : List Prm} {w : World} (h : OwnP T B v t w) (hne : v.ownBlock ≠ some p) (u : Value) : OwnP T B v t (w.setCell ⟨p, j, none⟩ u) := by
  refine ⟨h.1, ?_⟩
  rcases h.2 with hn | ⟨g, cap, cur, rfl, hb, hg, rest⟩
  · exact .inl hn
  · refine .inr ⟨g, cap, cur, rfl, hb, ?_, rest⟩
    rw [heap_setCell_other w ⟨p, j, none⟩ g u (fun e => hne (by simpa [Value.ownBlock] using e))]
    exact hg

set_option maxRecDepth 100000 in
set_option maxHeartbeats 4000000 in
theorem media_any (A B : ByteArray) (v : Value) (ps : List Prm) (hl : ps.length ≤ 16777216) (w : World) (hrd : RdP v ps w) :
    Calls Tryd.prog 4 #[.agg #[.string A, .string B, v]] w fun e w' => ∃ u, e = .returned (.agg #[.string A, .string B, u]) ∧ OwnP 41 w.heap.size u ps w' ∧ Below w.heap.size w w' := by
  have HR : Hid (RdP v ps w) := hrd
  obtain ⟨va, vc, rfl, _⟩ := hrd
  obtain ⟨w1, hw1⟩ : ∃ w1, w1 = (((w.alloc (.cells #[.string A, .string B, .slice va ps.length vc] 24)).alloc (.cells #[.string ⟨#[]⟩, .string ⟨#[]⟩, .slice none 0 0] 27)).alloc (.cells #[] 41)).alloc (.cells #[.string A, .string B, .slice (some ⟨w.heap.size + 1 + 1, 0, none⟩) 0 0] 27) := ⟨_, rfl⟩
  have hb1 : Below w.heap.size w w1 := by rw [hw1]; exact ((((Below.refl _ w).alloc (Nat.le_refl _) _).alloc (by simp) _).alloc (by simp; omega) _).alloc (by simp; omega) _
  have hz1 : w1.heap.size = w.heap.size + 4 := by rw [hw1]; simp
  have B0 : Hid (w1.heap[w.heap.size]? = some (.cells #[.string A, .string B, .slice va ps.length vc] 24 (0, 0))) := by
    show _ = _; rw [hw1]; exact heap_keep (heap_keep (heap_keep (heap_alloc_new w _)))
  have B1 : Hid (w1.heap[w.heap.size + 1]? = some (.cells #[.string ⟨#[]⟩, .string ⟨#[]⟩, .slice none 0 0] 27 (0, 0))) := by
    show _ = _; rw [hw1]; exact heap_keep (heap_keep (heap_newAt _ _ _ (by simp)))
  have B2 : Hid (w1.heap[w.heap.size + 1 + 1]? = some (.cells #[] 41 (0, 0))) := by
    show _ = _; rw [hw1]; exact heap_keep (heap_newAt _ _ _ (by simp))
  have B3 : Hid (w1.heap[w.heap.size + 1 + 1 + 1]? = some (.cells #[.string A, .string B, .slice (some ⟨w.heap.size + 1 + 1, 0, none⟩) 0 0] 27 (0, 0))) := by
    show _ = _; rw [hw1]; exact heap_newAt _ _ _ (by simp)
  have O0 : Hid (OwnP 41 (w.heap.size + 1 + 1) (.slice (some ⟨w.heap.size + 1 + 1, 0, none⟩) 0 0) [] w1) := (⟨by simp [encP], .inr ⟨w.heap.size + 1 + 1, 0, #[], rfl, Nat.le_refl _, B2.out, by simp, by decide, by simp, by simp [encP]⟩⟩ : OwnP _ _ _ _ _)
  have HB1 : Hid (Below w.heap.size w w1) := hb1
  clear hb1
  go_enter Tryd.func4, Tryd.ntmps4
  go_wp2
  rw [← hw1]
  clear hw1
  go_loopw [4] (fun iv wr => ∃ (k : Nat) (uv : Value), k ≤ ps.length ∧ iv = .int .i64 k ∧ Hid (wr.heap[w.heap.size]? = some (.cells #[.string A, .string B, .slice va ps.length vc] 24 (0, 0))) ∧ Hid (wr.heap[w.heap.size + 1]? = some (.cells #[.string ⟨#[]⟩, .string ⟨#[]⟩, .slice none 0 0] 27 (0, 0))) ∧ Hid (wr.heap[w.heap.size + 1 + 1 + 1]? = some (.cells #[.string A, .string B, uv] 27 (0, 0))) ∧ Hid (OwnP 41 (w.heap.size + 1 + 1) uv (ps.take k) wr) ∧ Hid (Below w.heap.size w wr) ∧ Hid (w.heap.size + 4 ≤ wr.heap.size)) (fun iv _ => ps.length - (intOf iv).toNat)
  case atStart => exact ⟨0, _, Nat.zero_le _, rfl, B0, B1, B3, O0, HB1, (by omega : w.heap.size + 4 ≤ w1.heap.size)⟩
  case round =>
    obtain ⟨k, uv, hk, rfl, hB0, hB1, hB3, hown, hbl, hsz⟩ := hrel
    obtain ⟨ua, uc, rfl, _⟩ := OwnP.rd hown.out
    have hlkk : (ps.take k).length = k := by rw [List.length_take]; omega
    rw [hlkk] at hB3 hown
    have c2 := Lib.cell_of_heap hB0.out 2
    have d0 := Lib.cell_of_heap hB3.out 0
    have d1 := Lib.cell_of_heap hB3.out 1
    have d2 := Lib.cell_of_heap hB3.out 2
    have fd2 := Lib.frozen_of_heap hB3.out 2
    simp at c2 d0 d1 d2
    by_cases hlt : k < ps.length
    · obtain ⟨a', c', e', hcs⟩ := HR.out.below hbl.out
      injection e' with e1 _ e2
      subst e1 e2
      rcases hcs with h | ⟨g, o, rfl, hlc, hcell⟩
      · rw [h] at hlt; simp at hlt
      obtain ⟨p0, p1, p2⟩ := hcell k hlt
      clear hcell
      have HTk : Hid (ps.take (k + 1) = ps.take k ++ [nth ps k]) := take_nthM ps k hlt
      have hlk : (ps.take k).length + 1 ≤ 2147483648 := by rw [List.length_take]; omega
      generalize nth ps k = p at *
      obtain ⟨pn, pv, pb⟩ := p
      dsimp only at p0 p1 p2
      generalize hn : str pn = n at p0
      generalize hv : str pv = vv at p1
      have HNe : Hid (n = str pn) := hn.symm
      have HVe : Hid (vv = str pv) := hv.symm
      clear hn hv
      obtain ⟨w5, hw5⟩ : ∃ w5, w5 = wr.alloc (.cells #[.string n, .string vv, .bool pb] 40) := ⟨_, rfl⟩
      have E0 : Hid (w5.heap[w.heap.size]? = some (.cells #[.string A, .string B, .slice (some ⟨g, o, none⟩) ps.length vc] 24 (0, 0))) := by show _ = _; rw [hw5]; exact heap_keep hB0.out
      have E1 : Hid (w5.heap[w.heap.size + 1]? = some (.cells #[.string ⟨#[]⟩, .string ⟨#[]⟩, .slice none 0 0] 27 (0, 0))) := by show _ = _; rw [hw5]; exact heap_keep hB1.out
      have E3 : Hid (w5.heap[w.heap.size + 1 + 1 + 1]? = some (.cells #[.string A, .string B, .slice ua k uc] 27 (0, 0))) := by show _ = _; rw [hw5]; exact heap_keep hB3.out
      have O5 : Hid (OwnP 41 (w.heap.size + 1 + 1) (.slice ua k uc) (ps.take k) w5) := by show OwnP _ _ _ _ _; rw [hw5]; exact World.ownsRow.alloc hown.out _
      have HB5 : Hid (Below w.heap.size w w5) := by show Below _ _ _; rw [hw5]; exact hbl.out.alloc hbl.out.size _
      have hz5 : Hid (w.heap.size + 5 ≤ w5.heap.size) := by show _ ≤ _; rw [hw5]; have := hsz.out; simp; omega
      have hB5 : w.heap.size + 1 + 1 ≤ w5.heap.size := by have := hz5.out; omega
      have x0 := Lib.cell_of_heap E3.out 0
      have x1 := Lib.cell_of_heap E3.out 1
      have x2 := Lib.cell_of_heap E3.out 2
      simp only [List.getElem?_toArray, List.getElem?_cons_succ, List.getElem?_cons_zero] at x0 x1 x2
      clear c2 d0 d1 d2 fd2
      have c2 := Lib.cell_of_heap hB0.out 2
      simp at c2
      subst hw5
      go_wp2_with (at_builtin; go_must (refine wp_appP2 41 25 infoP2 Tryd.underlying25 rfl (.tmp 25) (.tmp 33) rfl (w.heap.size + 1 + 1) (.slice ua k uc) (ps.take k) _ (pn, pv, pb) _ _ HNe.out HVe.out _ rfl rfl O5.out _ (by simp [Act.eval, Act.put]) rfl hlk hB5 ?_; intro v7 w7 hown7 hb7 hkeep; have K0 : Hid (w7.heap[w.heap.size]? = some (.cells #[.string A, .string B, .slice (some ⟨g, o, none⟩) ps.length vc] 24 (0, 0))) := (hkeep _ (by have := hz5.out; omega) (OwnP.notBlk O5.out E0.out (by decide))).trans E0.out; have K1 : Hid (w7.heap[w.heap.size + 1]? = some (.cells #[.string ⟨#[]⟩, .string ⟨#[]⟩, .slice none 0 0] 27 (0, 0))) := (hkeep _ (by have := hz5.out; omega) (OwnP.notBlk O5.out E1.out (by decide))).trans E1.out; have K3 : Hid (w7.heap[w.heap.size + 1 + 1 + 1]? = some (.cells #[.string A, .string B, .slice ua k uc] 27 (0, 0))) := (hkeep _ (by have := hz5.out; omega) (OwnP.notBlk O5.out E3.out (by decide))).trans E3.out; have HO7 : Hid (OwnP 41 (w.heap.size + 1 + 1) v7 (ps.take (k + 1)) w7) := (by rw [HTk.out]; exact hown7 : OwnP _ _ _ _ _); have HB7 : Hid (Below w.heap.size w w7) := HB5.out.trans (hb7.mono (by omega)); have hz7 : Hid (w.heap.size + 1 + 1 + 1 < w7.heap.size) := (by have := hz5.out; have := hb7.size; omega : w.heap.size + 1 + 1 + 1 < w7.heap.size); obtain ⟨u7, c7, rfl, _⟩ := OwnP.rd HO7.out; have y2 := Lib.cell_of_heap K3.out 2; have fy2 := Lib.frozen_of_heap K3.out 2; simp only [List.getElem?_toArray, List.getElem?_cons_succ, List.getElem?_cons_zero] at y2; clear hown7 hb7 hkeep))
      go_roundw
      case rel =>
        have HO8 := HO7.out
        rw [List.length_take] at HO8
        refine ⟨k + 1, .slice u7 (min (k + 1) ps.length) c7, by omega, by go_num, ?_, ?_, ?_, ?_, ?_, ?_⟩
        · exact (heap_setCell_other w7 ⟨w.heap.size + 1 + 1 + 1, 2, none⟩ _ _ (by simp; omega)).trans K0.out
        · exact (heap_setCell_other w7 ⟨w.heap.size + 1 + 1 + 1, 2, none⟩ _ _ (by simp)).trans K1.out
        · exact heap_setCell_same w7 _ 2 _ _ _ K3.out
        · exact OwnP.setOther HO8 (OwnP.notBlk HO8 K3.out (by decide)) _
        · exact HB7.out.setCell (by simp; omega) _
        · exact Nat.le_trans (Nat.succ_le_of_lt hz7.out) (by simp)
      case measure => simp [intOf]; omega
    · obtain rfl : k = ps.length := by omega
      rw [List.take_length] at hown
      have e1a := Lib.cell_of_heap hB1.out 0
      have e1b := Lib.cell_of_heap hB1.out 1
      have e1c := Lib.cell_of_heap hB1.out 2
      have f1a := Lib.frozen_of_heap hB1.out 0
      have f1b := Lib.frozen_of_heap hB1.out 1
      have f1c := Lib.frozen_of_heap hB1.out 2
      simp at e1a e1b e1c
      go_wp2
      refine bodyPost_ret (v := .agg #[.string A, .string B, .slice ua ps.length uc]) (by simp [results, Tryd.results4, go_sem, e1a, e1b, e1c]) rfl ?_
      refine ⟨_, rfl, ?_, (Below.setCell (p := ⟨w.heap.size + 1, 2, none⟩) (Below.setCell (p := ⟨w.heap.size + 1, 1, none⟩) (Below.setCell (p := ⟨w.heap.size + 1, 0, none⟩) hbl.out (by simp) _) (by simp) _) (by simp) _)⟩
      exact OwnP.mono (OwnP.setBelow (a := ⟨w.heap.size + 1, 2, none⟩) (OwnP.setBelow (a := ⟨w.heap.size + 1, 1, none⟩) (OwnP.setBelow (a := ⟨w.heap.size + 1, 0, none⟩) hown.out (by simp) _) (by simp) _) (by simp) _) (by omega)

end Ac
end Go.Proofs.YtmgadjnllahbiaaDoor

/-
  The document's Print.
-/
set_option linter.unusedVariables false
set_option linter.unusedSimpArgs false
namespace Go.Proofs.YtmgadjnllahbiaaDoor
open Go.RowKit Go.Shelf
namespace Ac
open Oc Tg

/-- All names small, so far. -/
def smallK (A B : List UInt8) (ps : List Prm) (k : Nat) : Bool := (decide (lower A = A) && decide (lower B = B)) && (ps.take k).all (fun p => decide (lower p.1 = p.1))
theorem smallK_next (A B : List UInt8) (ps : List Prm) (k : Nat) (hk : k < ps.length) : smallK A B ps (k + 1) = (smallK A B ps k && decide (lower (nth ps k).1 = (nth ps k).1)) := by
  unfold smallK
  rw [take_nthM ps k hk, List.all_append]
  simp [Bool.and_assoc]

theorem smallK_all (A B : List UInt8) (ps : List Prm) : smallK A B ps ps.length = ((decide (lower A = A) && decide (lower B = B)) && !ps.any notSmall) := by
  unfold smallK
  rw [List.take_length]
  congr 1
  induction ps with
  | nil => rfl
  | cons p t ih =>
    rw [List.all_cons, ih, List.any_cons]
    unfold notSmall
    simp
theorem prM_doc (A B : List UInt8) (ps : List Prm) : prM A B ps = if (printR ps).2 ≠ 0 ∨ smallK A B ps ps.length = false ∨ ps.any noVal = true ∨ isTok A = false ∨ isTok B = false then ([], 70) else (A ++ 47 :: (B ++ (printR ps).1), 0) := by
  rw [smallK_all]
  unfold prM printR smTok
  cases prts ps with
  | none => simp
  | some x =>
    cases isTok A <;> cases isTok B <;> cases decide (lower A = A) <;> cases decide (lower B = B) <;> cases ps.any noVal <;> cases ps.any notSmall <;> simp

set_option maxRecDepth 100000 in
set_option maxHeartbeats 4000000 in
theorem rPrint07_any (A B : List UInt8) (v : Value) (ps : List Prm) (hA : A.length ≤ 1048576) (hB : B.length ≤ 1048576) (hM : EachP 1048576 ps) (hl : ps.length ≤ 1048576) (hS : sumP ps ≤ 8388608) (w : World) (hrd : RdP v ps w) :
    Calls Tryd.prog 6 #[.agg #[.string (str A), .string (str B), v]] w fun e w' => e = .returned (.tuple #[.string (str (prM A B ps).1), .int .i64 (prM A B ps).2]) ∧ Below w.heap.size w w' := by
  have HR : Hid (RdP v ps w) := hrd
  obtain ⟨va, vc, rfl, _⟩ := hrd
  obtain ⟨w2, hw2⟩ : ∃ w2, w2 = w.alloc (.cells #[.string (str A), .string (str B), .slice va ps.length vc] 27) := ⟨_, rfl⟩
  have HR1 : Hid (w2.heap[w.heap.size]? = some (.cells #[.string (str A), .string (str B), .slice va ps.length vc] 27 (0, 0))) := by
    show _ = _; rw [hw2]; exact heap_alloc_new w _
  have hb2 : Below w.heap.size w w2 := by rw [hw2]; exact (Below.refl _ w).alloc (Nat.le_refl _) _
  have hz2 : w.heap.size < w2.heap.size := by rw [hw2]; simp
  have HB2 : Hid (Below w.heap.size w w2) := hb2
  have HR2 : Hid (RdP (.slice va ps.length vc) ps w2) := HR.out.below hb2
  clear hb2
  have hcell : Hid (∀ W, Below w2.heap.size w2 W → W.cell? ⟨w.heap.size, 0, none⟩ = some (.string (str A)) ∧ W.cell? ⟨w.heap.size, 1, none⟩ = some (.string (str B)) ∧ W.cell? ⟨w.heap.size, 2, none⟩ = some (.slice va ps.length vc)) := fun W hW => by
    have R := (hW.block _ hz2).trans HR1.out
    have c0 := Lib.cell_of_heap R 0
    have c1 := Lib.cell_of_heap R 1
    have c2 := Lib.cell_of_heap R 2
    simp at c0 c1 c2
    exact ⟨c0, c1, c2⟩
  have low : ∀ (l : List UInt8), l.length ≤ 1048576 → ∀ w, Calls Tryd.prog 15 #[.string (str l)] w fun e w' => e = .returned (.string (str (lower l))) ∧ Below w.heap.size w w' := fun l hl w => by
    have := rLower_any (str l) (by rw [str_size]; unfold maxLen; omega) w
    unfold lowS at this
    rw [str_list] at this
    exact this
  have LA : Hid (_) := low A hA
  have LB : Hid (_) := low B hB
  have LP : Hid (∀ k, k < ps.length → ∀ w, Calls Tryd.prog 15 #[.string (str (nth ps k).1)] w fun e w' => e = .returned (.string (str (lower (nth ps k).1))) ∧ Below w.heap.size w w') := fun k hk w => low _ (hM.at k hk).1 w
  have VA : Hid (((str (lower A)).toList == (str A).toList) = decide (lower A = A)) := veq _ _
  have VB : Hid (((str (lower B)).toList == (str B).toList) = decide (lower B = B)) := veq _ _
  have VP : Hid (∀ k, ((str (lower (nth ps k).1)).toList == (str (nth ps k).1).toList) = decide (lower (nth ps k).1 = (nth ps k).1)) := fun k => veq _ _
  have FP : Hid (∀ w, RdP (.slice va ps.length vc) ps w → Calls Tryd.prog 14 #[.slice va ps.length vc] w fun e w' => e = .returned (.tuple #[.string (str (printR ps).1), .int .i64 (printR ps).2]) ∧ Below w.heap.size w w') := fun w h => rPrint_any _ ps w h (by omega) hS
  have FV : Hid (∀ w, RdP (.slice va ps.length vc) ps w → Calls _ _ _ w _) := fun w h => valued_any _ ps w h (by omega)
  have tokA : Hid (∀ w, Calls Tryd.prog 17 #[.string (str A)] w fun e w' => e = .returned (.bool (isTok A)) ∧ w' = w) := fun w => by
    have h := rIsToken_any (str A) (by rw [str_size]; unfold maxLen; omega) w
    rw [str_list] at h
    exact h
  have tokB' : Hid (∀ w, Calls Tryd.prog 17 #[.string (str B)] w fun e w' => e = .returned (.bool (isTok B)) ∧ w' = w) := fun w => by
    have h := rIsToken_any (str B) (by rw [str_size]; unfold maxLen; omega) w
    rw [str_list] at h
    exact h
  have hmx := mixB
  clear low
  go_enter Tryd.func6, Tryd.ntmps6
  go_wp2_with fail
  rw [← hw2]
  clear hw2
  refine (FP.out _ HR2.out).mono ?_
  rintro e w3 ⟨rfl, hb3⟩
  have HB3 : Hid (Below w2.heap.size w2 w3) := hb3
  clear hb3
  have k0 : ∀ p : BelBy w3, p.to.cell? ⟨w.heap.size, 0, none⟩ = some (.string (str A)) := fun p => (hcell.out _ (bel_trans HB3.out p.bel)).1
  have k1 : ∀ p : BelBy w3, p.to.cell? ⟨w.heap.size, 1, none⟩ = some (.string (str B)) := fun p => (hcell.out _ (bel_trans HB3.out p.bel)).2.1
  generalize hSA : str A = SA at *
  generalize hSB : str B = SB at *
  generalize hXA : str (lower A) = XA at *
  generalize hXB : str (lower B) = XB at *
  have HX : Hid (smallK A B ps 0 = (decide (lower A = A) && decide (lower B = B))) := (by unfold smallK; simp : smallK A B ps 0 = _)
  generalize hdA : decide (lower A = A) = dA at *
  generalize hdB : decide (lower B = B) = dB at *
  have va1 := VA.out
  have vb1 := VB.out
  have inh : Nonempty (BelBy w3) := ⟨⟨w3, Below.refl _ w3⟩⟩
  go_wp2_with fail
  cases dA
  all_goals
    refine wp_region_bel hmx (by kernel_rfl) ?_
    repeat (quiet_step (first | (go_at_call 15; with_reducible (refine Calls.bel_of (LA.out _))) | (go_at_call 15; with_reducible (refine Calls.bel_of (LB.out _)))))
    refine wpQuiet_nil ?_
    rintro _ ⟨pq, rfl⟩
    have HB4 : Hid (Below w2.heap.size w2 pq.to) := bel_trans HB3.out pq.bel
    generalize pq.to = w4 at *
    clear k0 k1 inh va1 vb1
    go_wp2
    go_loopw [6, 7] (fun sv iv wr => ∃ k : Nat, k ≤ ps.length ∧ iv = .int .i64 k ∧ sv = .bool (smallK A B ps k) ∧ Hid (Below w2.heap.size w2 wr)) (fun _ iv _ => ps.length - (intOf iv).toNat)
    case atStart => exact ⟨0, Nat.zero_le _, rfl, by rw [HX.out]; first | rfl | simp, HB4⟩
    case round =>
      obtain ⟨k, hk, rfl, rfl, hbl⟩ := hrel
      obtain ⟨c0, c1, c2⟩ := hcell.out _ hbl.out
      by_cases hlt : k < ps.length
      · have HNX := smallK_next A B ps k hlt
        have inh : Nonempty (BelBy wr) := ⟨⟨wr, Below.refl _ wr⟩⟩
        have k2 : ∀ p : BelBy wr, p.to.cell? ⟨w.heap.size, 2, none⟩ = some (.slice va ps.length vc) := fun p => p.cell c2
        obtain ⟨a', c', e', hcs⟩ := (HR2.out.below hbl.out)
        injection e' with e1 _ e2
        subst e1 e2
        rcases hcs with h | ⟨g, o, rfl, hlc, hcell3⟩
        · rw [h] at hlt; simp at hlt
        have p0 := (hcell3 k hlt).1
        clear hcell3
        have p0' : ∀ p : BelBy wr, p.to.cell? ⟨g, o + k * 3, none⟩ = some (.string (str (nth ps k).1)) := fun p => p.cell p0
        have LK : Hid (∀ W, Calls _ _ _ W _) := LP.out k hlt
        have vk := VP.out k
        generalize str (lower (nth ps k).1) = XK at *
        generalize str (nth ps k).1 = SK at *
        generalize hdk : decide (lower (nth ps k).1 = (nth ps k).1) = dk at *
        have HNX' : Hid (smallK A B ps (k + 1) = (smallK A B ps k && dk)) := HNX
        clear HNX
        generalize smallK A B ps k = sk at *
        have hk0 : (0 : Int) ≤ (k : Int) := by omega
        have hk1 : (k : Int) < (ps.length : Int) := by omega
        go_wp2_with fail
        cases sk
        · clear k2 p0' inh LK vk
          go_quiet (fail)
          have HB5 : Hid (Below w2.heap.size w2 (wr.drewN nq)) := hbl.out.trans ⟨rfl, rfl, rfl, Nat.le_refl _, fun _ _ => rfl⟩
          go_wp2
          go_roundw
          case rel => exact ⟨k + 1, by omega, by go_num, by rw [HNX'.out]; simp, HB5⟩
          case measure => simp [intOf]; omega
        · refine wp_region_bel hmx (by kernel_rfl) ?_
          iterate 18 (quiet_step (first | (go_at_call 15; exact Calls.bel_of (LK.out _))))
          refine wpQuiet_nil ?_
          rintro _ ⟨pq2, rfl⟩
          have HB5 : Hid (Below w2.heap.size w2 pq2.to) := bel_trans hbl.out pq2.bel
          generalize pq2.to = w5 at *
          clear k2 p0' inh
          go_wp2
          go_roundw
          case rel => exact ⟨k + 1, by omega, by go_num, by rw [HNX'.out]; simp, HB5⟩
          case measure => simp [intOf]; omega
      · obtain rfl : k = ps.length := by omega
        have HP := prM_doc A B ps
        have HP' : Hid (prM A B ps = _) := HP
        clear HP
        generalize smallK A B ps ps.length = sk at *
        have HRr : Hid (RdP (.slice va ps.length vc) ps wr) := HR2.out.below hbl.out
        have FVr := FV.out wr HRr.out
        have HFV : Hid (Calls _ _ _ wr _) := FVr
        clear FVr
        generalize ps.any noVal = nv at *
        generalize isTok A = ta at *
        generalize isTok B = tb at *
        by_cases he : (printR ps).2 = 0
        · cases sk with
          | false =>
            have HN : Hid (prM A B ps = ([], 70)) := (by rw [HP'.out]; simp : prM A B ps = _)
            have he' : ((printR ps).2 != 0) = false := by simp [he]
            go_wp2
            go_ret2
            rw [HN.out]
            exact ⟨rfl, HB2.out.trans (hbl.out.mono (by omega))⟩
          | true =>
            have he' : ((printR ps).2 != 0) = false := by simp [he]
            have HE : Hid ((printR ps).2 = 0) := he
            clear he
            go_wp2_with fail
            refine HFV.out.mono ?_
            rintro e w6 ⟨rfl, hw6⟩
            rw [hw6]
            clear hw6
            cases nv with
            | true =>
              have HN : Hid (prM A B ps = ([], 70)) := (by rw [HP'.out]; simp : prM A B ps = _)
              go_wp2
              go_ret2
              rw [HN.out]
              exact ⟨rfl, HB2.out.trans (hbl.out.mono (by omega))⟩
            | false =>
              go_wp2_with fail
              refine (tokA.out _).mono ?_
              rintro e w7 ⟨rfl, hw7⟩
              rw [hw7]
              clear hw7
              cases ta with
              | false =>
                have HN : Hid (prM A B ps = ([], 70)) := (by rw [HP'.out]; simp : prM A B ps = _)
                go_wp2
                go_ret2
                rw [HN.out]
                exact ⟨rfl, HB2.out.trans (hbl.out.mono (by omega))⟩
              | true =>
                go_wp2_with fail
                refine (tokB'.out _).mono ?_
                rintro e w8 ⟨rfl, hw8⟩
                rw [hw8]
                clear hw8
                cases tb with
                | false =>
                  have HN : Hid (prM A B ps = ([], 70)) := (by rw [HP'.out]; simp : prM A B ps = _)
                  go_wp2
                  go_ret2
                  rw [HN.out]
                  exact ⟨rfl, HB2.out.trans (hbl.out.mono (by omega))⟩
                | true =>
                  have HN : Hid (prM A B ps = (A ++ 47 :: (B ++ (printR ps).1), 0)) := (by rw [HP'.out, HE.out]; simp : prM A B ps = _)
                  have HQ : Hid (str (A ++ 47 :: (B ++ (printR ps).1)) = SA ++ ⟨#[47]⟩ ++ SB ++ str (printR ps).1) := (by
                    rw [← hSA, ← hSB, show (⟨#[47]⟩ : ByteArray) = str [47] from rfl]
                    apply eq_list
                    simp [str] : _ = _)
                  have lA : SA.size ≤ 1048576 := by rw [← hSA, str_size]; exact hA
                  have lB : SB.size ≤ 1048576 := by rw [← hSB, str_size]; exact hB
                  have lP : (str (printR ps).1).size ≤ 16777216 := by
                    rw [str_size]
                    unfold printR
                    cases hp : prts ps with
                    | none => simp
                    | some x => have := prts_len ps x hp; dsimp only; omega
                  generalize str (printR ps).1 = SP at *
                  have hk1 : (⟨#[47]⟩ : ByteArray).size = 1 := rfl
                  generalize (⟨#[47]⟩ : ByteArray) = K1 at *
                  have hs1 : SA.size + K1.size ≤ 9223372036854775807 := by omega
                  have hs2 : SA.size + K1.size + SB.size ≤ 9223372036854775807 := by omega
                  have hs3 : SA.size + K1.size + SB.size + SP.size ≤ 9223372036854775807 := by omega
                  clear hk1
                  go_wp2
                  go_ret2
                  rw [HN.out]
                  dsimp only
                  rw [HQ.out]
                  exact ⟨rfl, HB2.out.trans (hbl.out.mono (by omega))⟩
        · have he' : ((printR ps).2 != 0) = true := by simp [he]
          have HN : Hid (prM A B ps = ([], 70)) := (by rw [HP'.out, if_pos (.inl he)] : prM A B ps = _)
          go_wp2
          go_ret2
          rw [HN.out]
          exact ⟨rfl, HB2.out.trans (hbl.out.mono (by omega))⟩

end Ac
end Go.Proofs.YtmgadjnllahbiaaDoor

/-
  The law's awake.
-/
set_option linter.unusedVariables false
set_option linter.unusedSimpArgs false
namespace Go.Proofs.YtmgadjnllahbiaaDoor
open Go.RowKit Go.Shelf
namespace Ac
open Oc Tg

theorem qual_half : qual [48, 46, 53] = (500, 0) := by decide
theorem parM_html : parM [84, 101, 120, 116, 47, 72, 116, 109, 108] = some ([116, 101, 120, 116], [104, 116, 109, 108], []) := by rfl

set_option maxRecDepth 100000 in
set_option maxHeartbeats 1000000 in
theorem awake_any (w : World) (hw : Env w) :
    Calls Tryd.prog 7 #[] w fun e w' => e = .returned (.bool true) ∧ Below w.heap.size w w' := by
  have HQ : Hid (∀ w, ML w → Calls Tryd.prog 18 #[.string ⟨#[48, 46, 53]⟩] w fun e w' => e = .returned (.tuple #[.int .i64 500, .int .i64 0]) ∧ Below w.heap.size w w') := fun w h => by
    have := Quality_any ⟨#[48, 46, 53]⟩ (by show 3 ≤ 4000000000; omega) w h
    rw [show (⟨#[48, 46, 53]⟩ : ByteArray).data.toList = [48, 46, 53] from rfl, qual_half] at this
    exact this
  have HP : Hid (∀ w, Env w → Calls Tryd.prog 9 #[.string ⟨#[84, 101, 120, 116, 47, 72, 116, 109, 108]⟩] w fun e w' => ∃ v, e = .returned (.tuple #[.agg #[.string ⟨#[116, 101, 120, 116]⟩, .string ⟨#[104, 116, 109, 108]⟩, v], .int .i64 0]) ∧ OwnP 40 w.heap.size v [] w' ∧ Below w.heap.size w w') := fun w h => by
    have := Parse_any ⟨#[84, 101, 120, 116, 47, 72, 116, 109, 108]⟩ (by show 9 ≤ 134217728; omega) w h
    rw [show (⟨#[84, 101, 120, 116, 47, 72, 116, 109, 108]⟩ : ByteArray).data.toList = [84, 101, 120, 116, 47, 72, 116, 109, 108] from rfl, parM_html] at this
    exact this
  have HE : Hid (Env w) := hw
  clear hw
  go_enter Tryd.func7, Tryd.ntmps7
  go_wp2_with fail
  refine (HQ.out _ HE.out.2).mono ?_
  rintro e w2 ⟨rfl, hb2⟩
  have HB2 : Hid (Below w.heap.size w w2) := hb2
  clear hb2
  go_wp2_with fail
  refine (HP.out _ (HE.out.below HB2.out)).mono ?_
  rintro e w3 ⟨v, rfl, ho, hb3⟩
  have HB3 : Hid (Below w.heap.size w w3) := bel_trans HB2.out hb3
  have HB4 : Hid (Below w.heap.size w (w3.alloc (.cells #[.string ⟨#[116, 101, 120, 116]⟩, .string ⟨#[104, 116, 109, 108]⟩, v] 24))) := HB3.out.alloc HB3.out.size _
  obtain ⟨va, vc, rfl, _⟩ := OwnP.rd ho
  clear hb3 ho HP HQ
  go_wp2
  go_ret
  exact ⟨rfl, HB4.out⟩

end Ac
end Go.Proofs.YtmgadjnllahbiaaDoor

/-
  AcceptPrints.
-/
set_option linter.unusedVariables false
set_option linter.unusedSimpArgs false
namespace Go.Proofs.YtmgadjnllahbiaaDoor
open Go.RowKit Go.Shelf
namespace Ac
open Oc Tg

theorem MB {T : Nat} {w : World} {g : Nat} {A B : ByteArray} {v : Value} (h : w.heap[g]? = some (.cells #[.string A, .string B, v] T (0, 0))) : w.cell? ⟨g, 0, none⟩ = some (.string A) ∧ w.cell? ⟨g, 1, none⟩ = some (.string B) ∧ w.cell? ⟨g, 2, none⟩ = some v := by
  have c0 := Lib.cell_of_heap h 0
  have c1 := Lib.cell_of_heap h 1
  have c2 := Lib.cell_of_heap h 2
  simp at c0 c1 c2
  exact ⟨c0, c1, c2⟩
theorem heap_bel {w w' : World} {g : Nat} {o : Obj} (h : w.heap[g]? = some o) (b : Below w.heap.size w w') : w'.heap[g]? = some o := by
  have hl : g < w.heap.size := by
    rcases Nat.lt_or_ge g w.heap.size with h' | h'
    · exact h'
    · simp [Array.getElem?_eq_none h'] at h
  rw [b.block g hl]
  exact h

set_option maxRecDepth 100000 in
set_option maxHeartbeats 4000000 in
theorem walk_AcceptPrints (A B : List UInt8) (v : Value) (ps : List Prm) (hA : A.length ≤ 1048576) (hB : B.length ≤ 1048576) (hM : EachP 1048576 ps) (hl : ps.length ≤ 1048576) (hS : sumP ps ≤ 8388608) (w : World) (hrd : RdP v ps w) (hw : Env w) :
    Calls Tryd.prog 3 #[.agg #[.string (str A), .string (str B), v]] w fun e w' => e = .returned (.bool true) ∧ Below w.heap.size w w' := by
  have HE : Hid (Env w) := hw
  have HR : Hid (RdP v ps w) := hrd
  have HMd : Hid (∀ W, RdP v ps W → Calls _ _ _ W _) := fun W h => media_any (str A) (str B) v ps (by omega) W h
  have HP : Hid (∀ W, RdP v ps W → Env W → Calls _ _ _ W _) := fun W h he => Print07_any A B v ps hA hB hM hl hS W h he.1
  have HQ : Hid (∀ u W, RdP u ps W → Calls _ _ _ W _) := fun u W h => rPrint07_any A B u ps hA hB hM hl hS W h
  have HAk : Hid (∀ v1 v2 W, RdP v1 ps W → RdP v2 ps W → Calls _ _ _ W _) := fun v1 v2 W h1 h2 => alike07_any (str A) (str B) v1 v2 ps W h1 h2 (by omega)
  have HAw : Hid (∀ W, Env W → Calls _ _ _ W _) := fun W he => awake_any W he
  have hprl : (prM A B ps).1.length ≤ 134217728 := by
    rw [prM_doc]
    split
    · simp
    · have : (printR ps).1.length ≤ 16777216 := by
        unfold printR
        cases hp : prts ps with
        | none => simp
        | some x => have := prts_len ps x hp; dsimp only; omega
      simp
      omega
  have HB' : Hid ((prM A B ps).2 = 0 → ∀ W, Env W → Calls Tryd.prog 9 #[.string (str (prM A B ps).1)] W fun e w' => ∃ u, e = .returned (.tuple #[.agg #[.string (str A), .string (str B), u], .int .i64 0]) ∧ RdP u ps w' ∧ Below W.heap.size W w') := fun h W he => by
    have hp := Parse_any (str (prM A B ps).1) (by rw [str_size]; exact hprl) W he
    rw [str_list, prM_read A B ps h] at hp
    refine hp.mono ?_
    rintro e w' ⟨u, rfl, ho, hb⟩
    exact ⟨u, rfl, OwnP.rd ho, hb⟩
  clear hw hprl
  obtain ⟨va, vc, rfl, _⟩ := hrd
  generalize prM A B ps = PM at *
  obtain ⟨pt, pe⟩ := PM
  dsimp only at *
  generalize str pt = PT at *
  generalize str A = SA at *
  generalize str B = SB at *
  obtain ⟨w1, hw1⟩ : ∃ w1, w1 = w.alloc (.cells #[.string SA, .string SB, .slice va ps.length vc] 24) := ⟨_, rfl⟩
  have H1 : Hid (w1.heap[w.heap.size]? = some (.cells #[.string SA, .string SB, .slice va ps.length vc] 24 (0, 0))) := (by rw [hw1]; exact heap_alloc_new w _ : _ = _)
  have HB1 : Hid (Below w.heap.size w w1) := (by rw [hw1]; exact (Below.refl _ w).alloc (Nat.le_refl _) _ : Below _ _ _)
  obtain ⟨c0, c1, c2⟩ := MB H1.out
  go_enter Tryd.func3, Tryd.ntmps3
  go_wp2_with fail
  rw [← hw1]
  clear hw1
  refine (HMd.out _ (HR.out.below HB1.out)).mono ?_
  rintro e w2 ⟨u, rfl, hou, hb2⟩
  have HB2 : Hid (Below w.heap.size w w2) := bel_trans HB1.out hb2
  have H2 : Hid (_ = _) := heap_bel H1.out hb2
  have HRu : Hid (RdP u ps w2) := OwnP.rd hou
  obtain ⟨ua, uc, rfl, _⟩ := OwnP.rd hou
  clear hou hb2 c0 c1 c2
  obtain ⟨w3, hw3⟩ : ∃ w3, w3 = w2.alloc (.cells #[.string SA, .string SB, .slice ua ps.length uc] 27) := ⟨_, rfl⟩
  have hb3 : Below w2.heap.size w2 w3 := by rw [hw3]; exact (Below.refl _ w2).alloc (Nat.le_refl _) _
  have HB3 : Hid (Below w.heap.size w w3) := bel_trans HB2.out hb3
  have H3 : Hid (_ = _) := heap_bel H2.out hb3
  have K3 : Hid (w3.heap[w2.heap.size]? = some (.cells #[.string SA, .string SB, .slice ua ps.length uc] 27 (0, 0))) := (by rw [hw3]; exact heap_alloc_new w2 _ : _ = _)
  have HRu3 : Hid (RdP _ ps w3) := HRu.out.below hb3
  clear hb3
  obtain ⟨c0, c1, c2⟩ := MB H2.out
  have hlt2 : w.heap.size < w2.heap.size := World.block_lt_of_cell? w2 _ c0
  have hne1 : w.heap.size ≠ w2.heap.size := by omega
  have hne2 : w2.heap.size ≠ w.heap.size := by omega
  generalize hg2 : w2.heap.size = g2 at *
  go_wp2_with fail
  rw [← hw3]
  clear hw3
  refine (HP.out _ (HR.out.below HB3.out) (HE.out.below HB3.out)).mono ?_
  rintro e w4 ⟨rfl, hb4⟩
  have HB4 : Hid (Below w.heap.size w w4) := bel_trans HB3.out hb4
  have H4 : Hid (_ = _) := heap_bel H3.out hb4
  have K4 : Hid (_ = _) := heap_bel K3.out hb4
  have HRu4 : Hid (RdP _ ps w4) := HRu3.out.below hb4
  clear hb4 c0 c1 c2
  obtain ⟨c0, c1, c2⟩ := MB K4.out
  go_wp2_with fail
  refine (HQ.out _ _ HRu4.out).mono ?_
  rintro e w5 ⟨rfl, hb5⟩
  have HB5 : Hid (Below w.heap.size w w5) := bel_trans HB4.out hb5
  have H5 : Hid (_ = _) := heap_bel H4.out hb5
  have K5 : Hid (_ = _) := heap_bel K4.out hb5
  have HRu5 : Hid (RdP _ ps w5) := HRu4.out.below hb5
  clear hb5 c0 c1 c2
  go_wp2_with fail
  refine (HAw.out _ (HE.out.below HB5.out)).mono ?_
  rintro e w6 ⟨rfl, hb6⟩
  have HB6 : Hid (Below w.heap.size w w6) := bel_trans HB5.out hb6
  have H6 : Hid (_ = _) := heap_bel H5.out hb6
  have K6 : Hid (_ = _) := heap_bel K5.out hb6
  have HRu6 : Hid (RdP _ ps w6) := HRu5.out.below hb6
  clear hb6
  obtain ⟨c0, c1, c2⟩ := MB H6.out
  obtain ⟨d0, d1, d2⟩ := MB K6.out
  have nT : (PT.toList != PT.toList) = false := by simp
  have nE : (pe != pe) = false := by simp
  go_wp2_with fail
  refine (HAk.out _ _ _ (HR.out.below HB6.out) HRu6.out).mono ?_
  rintro e w7 ⟨rfl, hb7⟩
  have HB7 : Hid (Below w.heap.size w w7) := bel_trans HB6.out hb7
  have K7 : Hid (_ = _) := heap_bel K6.out hb7
  have HRu7 : Hid (RdP _ ps w7) := HRu6.out.below hb7
  clear hb7 c0 c1 c2 d0 d1 d2
  by_cases hpe : pe = 0
  · subst hpe
    have HBk := HB'.out rfl
    have HBk' : Hid (∀ W, Env W → Calls _ _ _ W _) := HBk
    clear HBk
    go_wp2_with fail
    refine (HBk'.out _ (HE.out.below HB7.out)).mono ?_
    rintro e w8 ⟨u2, rfl, hru2, hb8⟩
    have HB8 : Hid (Below w.heap.size w w8) := bel_trans HB7.out hb8
    have K8 : Hid (_ = _) := heap_bel K7.out hb8
    have HRu8 : Hid (RdP _ ps w8) := HRu7.out.below hb8
    have HR8 : Hid (RdP u2 ps w8) := hru2
    obtain ⟨xa, xc, rfl, _⟩ := hru2
    clear hb8
    obtain ⟨w9, hw9⟩ : ∃ w9, w9 = w8.alloc (.cells #[.string SA, .string SB, .slice xa ps.length xc] 24) := ⟨_, rfl⟩
    have hb9 : Below w8.heap.size w8 w9 := by rw [hw9]; exact (Below.refl _ w8).alloc (Nat.le_refl _) _
    have HB9 : Hid (Below w.heap.size w w9) := bel_trans HB8.out hb9
    have J9 : Hid (w9.heap[w8.heap.size]? = some (.cells #[.string SA, .string SB, .slice xa ps.length xc] 24 (0, 0))) := (by rw [hw9]; exact heap_alloc_new w8 _ : _ = _)
    have K9 : Hid (_ = _) := heap_bel K8.out hb9
    have HRu9 : Hid (RdP _ ps w9) := HRu8.out.below hb9
    have HR9 : Hid (RdP _ ps w9) := HR8.out.below hb9
    clear hb9
    obtain ⟨d0, d1, d2⟩ := MB K8.out
    have hlt8 : g2 < w8.heap.size := World.block_lt_of_cell? w8 _ d0
    have hne3 : g2 ≠ w8.heap.size := by omega
    have hne4 : w8.heap.size ≠ g2 := by omega
    generalize hg8 : w8.heap.size = g8 at *
    go_wp2_with fail
    rw [← hw9]
    clear hw9
    refine (HAk.out _ _ _ HR9.out HRu9.out).mono ?_
    rintro e wa ⟨rfl, hba⟩
    have HBa : Hid (Below w.heap.size w wa) := bel_trans HB9.out hba
    clear hba
    go_wp2
    go_ret
    exact ⟨ret_bool (by simp), HBa.out⟩
  · have hpe' : (pe != 0) = true := by simp [hpe]
    go_wp2
    go_ret
    exact ⟨rfl, HB7.out⟩

end Ac
end Go.Proofs.YtmgadjnllahbiaaDoor

/-
  A slice of texts that came in, read as texts.
-/
set_option linter.unusedVariables false
set_option linter.unusedSimpArgs false
namespace Go.Proofs.YtmgadjnllahbiaaDoor
open Go.ChangeShapes Go.WideShapes Go.RowKit
namespace Oc

theorem laidOutT : laidOutB Tryd.prog = true := by kernel_rfl

theorem cells9 : Tryd.prog.cellsOf 9 = 1 := by kernel_rfl

end Oc
end Go.Proofs.YtmgadjnllahbiaaDoor

/-
  A slice of parameters that came in, read as parameters.
-/
set_option linter.unusedVariables false
set_option linter.unusedSimpArgs false
namespace Go.Proofs.YtmgadjnllahbiaaDoor
open Go.ChangeShapes Go.WideShapes Go.RowKit
namespace Oc

theorem cellsP : Tryd.prog.cellsOf 40 = 3 := by kernel_rfl
theorem cells4 : Tryd.prog.cellsOf 4 = 1 := by kernel_rfl
def bulkparams (t : List Prm) : Nat := sumP t
def prmOf {H : Type} (y : DataW H × List MemPlace) : Prm := match y.1 with | .agg [.lit (.string a), .lit (.string b), .lit (.bool c)] => (a, b, c) | _ => ([], [], false)
theorem bulk_prms {H : Type} : ∀ es : List (DataW H × List MemPlace), (∀ y ∈ es, ∃ a b c, y.1 = .agg [.lit (.string a), .lit (.string b), .lit (.bool c)]) → Rows.uptoBulkAll (es.map (·.1)) = sumP (es.map prmOf)
  | [], _ => by simp [sumP, Rows.uptoBulkAll]
  | y :: es, h => by
    have ih := bulk_prms es (fun z hz => h z (List.mem_cons_of_mem _ hz))
    obtain ⟨a, b, c, e⟩ := h y (by simp)
    simp only [sumP, List.map_cons, List.sum_cons, Rows.uptoBulkAll, ih, e, prmOf, szP, Rows.uptoBulk] at ih ⊢
    omega
/-- The form of a slice of none. -/
def NilP (v : Value) (t : List Prm) : Prop := t = [] → v = .slice none 0 0 ∨ ∃ g c, v = .slice (some g) 0 c
theorem len_sumP : ∀ t : List Prm, t.length ≤ sumP t
  | [] => Nat.zero_le _
  | p :: t => by
    have := len_sumP t
    simp only [sumP, List.map_cons, List.sum_cons, List.length_cons, szP] at this ⊢
    omega
theorem prts_len : ∀ {t : List Prm} {x : List UInt8}, prts t = some x → x.length ≤ 2 * sumP t
  | [], x, h => by cases h; exact Nat.zero_le _
  | p :: r, x, h => by
    unfold prts at h
    cases hp : prt1 p with
    | none => rw [hp] at h; cases h
    | some a =>
      rw [hp] at h
      obtain ⟨b, hb, rfl⟩ := Option.map_eq_some_iff.1 h
      have h1 := prt1_len hp
      have h2 := prts_len hb
      show (a ++ b).length ≤ 2 * (szP p + sumP r)
      rw [List.length_append]
      omega
theorem addr_add (g o k : Nat) : Addr.add ⟨g, o, none⟩ k = ⟨g, o + k, none⟩ := by unfold Addr.add; split <;> simp_all
set_option maxRecDepth 100000 in
theorem open_params {H : Type} {enc : TypeId × Value → H} {W : World} {base : Nat} {v : Value} {d : DataW H} {ps : List MemPlace} (hval : Value.okWide Tryd.prog W .any base 22 v)
    (h : DataW.Trod enc Tryd.prog W 0 (fun _ => true) true 22 v d ps) : ∃ t : List Prm, (RdP v t W ∧ NilP v t) ∧ bulkparams t ≤ Rows.uptoBulk d := by
  obtain ⟨a0, len, cap, rfl⟩ := okWide_slice Tryd.underlying22 hval
  obtain ⟨fuel, hf⟩ := h
  rcases DataW.trod_slice Tryd.underlying22 hf with ⟨hcs, hx⟩ | ⟨a, len', cap', elems, rest, n, _, hcs, hx, hb, hl, hm, hlen, hel, _, _⟩
  · simp [Value.cells] at hcs
    obtain ⟨rfl, rfl, rfl⟩ := hcs
    exact ⟨[], ⟨⟨none, 0, rfl, .inl rfl⟩, fun _ => .inl rfl⟩, by simp [bulkparams, sumP]⟩
  · simp [Value.cells] at hcs
    obtain ⟨rfl, rfl, rfl⟩ := hcs
    simp only [Prod.mk.injEq] at hx
    obtain ⟨rfl, rfl⟩ := hx
    have each : ∀ i y, elems[i]? = some y → ∃ (s1 s2 : ByteArray) (b : Bool), y.1 = .agg [.lit (.string s1.data.toList), .lit (.string s2.data.toList), .lit (.bool b)] ∧ W.cell? ((a.add (i * 3)).add 0) = some (.string s1) ∧ W.cell? ((a.add (i * 3)).add 1) = some (.string s2) ∧ W.cell? ((a.add (i * 3)).add 2) = some (.bool b) := by
      intro i y hy
      have hi : i < len := by rw [← hlen]; exact (List.getElem?_eq_some_iff.1 hy).1
      have h1 := hel i hi
      rw [hy, cellsP, Option.bind_eq_some_iff] at h1
      obtain ⟨cs, hcs, ht⟩ := h1
      obtain ⟨_, hcl, hcc⟩ := World.cells?_some hcs
      obtain ⟨y0, y1, y2, m, rfl, _, t0, t1, t2⟩ := Deep.trod_struct3 Tryd.underlying40 ht
      simp only [cells9, cells4, List.drop_zero] at t0 t1 t2
      obtain ⟨s1, e1, r1, _⟩ := DataW.trod_string Tryd.underlying9 t0
      obtain ⟨s2, e2, r2, _⟩ := DataW.trod_string Tryd.underlying9 t1
      obtain ⟨b, e3, r3⟩ := DataW.trod_bool Tryd.underlying4 t2
      subst r1 r2 r3
      match cs, hcl with
      | [c0, c1, c2], _ =>
        simp at e1 e2 e3
        subst e1 e2 e3
        exact ⟨s1, s2, b, rfl, hcc 0 (by omega), hcc 1 (by omega), hcc 2 (by omega)⟩
    refine ⟨elems.map prmOf, ⟨⟨some a, cap, by rw [List.length_map, hlen], ?_⟩, fun e => .inr ⟨a, cap, by have := congrArg List.length e; rw [List.length_map, hlen] at this; rw [this]; rfl⟩⟩, ?_⟩
    · by_cases hl0 : len = 0
      · left
        have : elems = [] := List.length_eq_zero_iff.1 (by omega)
        rw [this]; rfl
      · right
        obtain ⟨g, o, spot⟩ := a
        have hspot : spot = none := by
          obtain ⟨y, hy⟩ : ∃ y, elems[0]? = some y := ⟨elems[0]'(by omega), List.getElem?_eq_getElem (by omega)⟩
          obtain ⟨s1, s2, b, _, c0, _, _⟩ := each 0 y hy
          simpa [Addr.add] using World.cell?_spot c0
        subst hspot
        refine ⟨g, o, rfl, by rw [List.length_map, hlen]; exact hl, fun j hj => ?_⟩
        rw [List.length_map] at hj
        obtain ⟨s1, s2, b, ey, c0, c1, c2⟩ := each j _ (List.getElem?_eq_getElem hj)
        have en : nth (elems.map prmOf) j = (s1.data.toList, s2.data.toList, b) := by
          unfold nth
          rw [List.getD_eq_getElem?_getD, List.getElem?_map, List.getElem?_eq_getElem hj]
          show prmOf elems[j] = _
          unfold prmOf
          rw [ey]
        rw [addr_add, addr_add] at c0 c1 c2
        rw [en]
        dsimp only
        rw [str_self, str_self]
        exact ⟨c0, c1, c2⟩
    · have hb := bulk_prms elems (fun y hy => by
        obtain ⟨i, hi⟩ := List.getElem?_of_mem hy
        obtain ⟨s1, s2, b, ey, _⟩ := each i y hi
        exact ⟨_, _, _, ey⟩)
      simp only [Rows.uptoBulk, hb, bulkparams]
      omega

end Oc
end Go.Proofs.YtmgadjnllahbiaaDoor

/-
  A media type that came in, by value.
-/
set_option linter.unusedVariables false
set_option linter.unusedSimpArgs false
namespace Go.Proofs.YtmgadjnllahbiaaDoor
open Go.ChangeShapes Go.WideShapes Go.RowKit
namespace Ac
open Oc

set_option maxRecDepth 100000 in
theorem open_paramsT {H : Type} {enc : TypeId × Value → H} {W : World} {v : Value} {d : DataW H} {ps : List MemPlace} (hval : ∃ a len cap, v = .slice a len cap)
    (h : DataW.Trod enc Tryd.prog W 0 (fun _ => true) true 22 v d ps) : ∃ t : List Prm, (RdP v t W ∧ NilP v t) ∧ bulkparams t ≤ Rows.uptoBulk d := by
  obtain ⟨a0, len, cap, rfl⟩ := hval
  obtain ⟨fuel, hf⟩ := h
  rcases DataW.trod_slice Tryd.underlying22 hf with ⟨hcs, hx⟩ | ⟨a, len', cap', elems, rest, n, _, hcs, hx, hb, hl, hm, hlen, hel, _, _⟩
  · simp [Value.cells] at hcs
    obtain ⟨rfl, rfl, rfl⟩ := hcs
    exact ⟨[], ⟨⟨none, 0, rfl, .inl rfl⟩, fun _ => .inl rfl⟩, by simp [bulkparams, sumP]⟩
  · simp [Value.cells] at hcs
    obtain ⟨rfl, rfl, rfl⟩ := hcs
    simp only [Prod.mk.injEq] at hx
    obtain ⟨rfl, rfl⟩ := hx
    have each : ∀ i y, elems[i]? = some y → ∃ (s1 s2 : ByteArray) (b : Bool), y.1 = .agg [.lit (.string s1.data.toList), .lit (.string s2.data.toList), .lit (.bool b)] ∧ W.cell? ((a.add (i * 3)).add 0) = some (.string s1) ∧ W.cell? ((a.add (i * 3)).add 1) = some (.string s2) ∧ W.cell? ((a.add (i * 3)).add 2) = some (.bool b) := by
      intro i y hy
      have hi : i < len := by rw [← hlen]; exact (List.getElem?_eq_some_iff.1 hy).1
      have h1 := hel i hi
      rw [hy, cellsP, Option.bind_eq_some_iff] at h1
      obtain ⟨cs, hcs, ht⟩ := h1
      obtain ⟨_, hcl, hcc⟩ := World.cells?_some hcs
      obtain ⟨y0, y1, y2, m, rfl, _, t0, t1, t2⟩ := Deep.trod_struct3 Tryd.underlying40 ht
      simp only [cells9, cells4, List.drop_zero] at t0 t1 t2
      obtain ⟨s1, e1, r1, _⟩ := DataW.trod_string Tryd.underlying9 t0
      obtain ⟨s2, e2, r2, _⟩ := DataW.trod_string Tryd.underlying9 t1
      obtain ⟨b, e3, r3⟩ := DataW.trod_bool Tryd.underlying4 t2
      subst r1 r2 r3
      match cs, hcl with
      | [c0, c1, c2], _ =>
        simp at e1 e2 e3
        subst e1 e2 e3
        exact ⟨s1, s2, b, rfl, hcc 0 (by omega), hcc 1 (by omega), hcc 2 (by omega)⟩
    refine ⟨elems.map prmOf, ⟨⟨some a, cap, by rw [List.length_map, hlen], ?_⟩, fun e => .inr ⟨a, cap, by have := congrArg List.length e; rw [List.length_map, hlen] at this; rw [this]; rfl⟩⟩, ?_⟩
    · by_cases hl0 : len = 0
      · left
        have : elems = [] := List.length_eq_zero_iff.1 (by omega)
        rw [this]; rfl
      · right
        obtain ⟨g, o, spot⟩ := a
        have hspot : spot = none := by
          obtain ⟨y, hy⟩ : ∃ y, elems[0]? = some y := ⟨elems[0]'(by omega), List.getElem?_eq_getElem (by omega)⟩
          obtain ⟨s1, s2, b, _, c0, _, _⟩ := each 0 y hy
          simpa [Addr.add] using World.cell?_spot c0
        subst hspot
        refine ⟨g, o, rfl, by rw [List.length_map, hlen]; exact hl, fun j hj => ?_⟩
        rw [List.length_map] at hj
        obtain ⟨s1, s2, b, ey, c0, c1, c2⟩ := each j _ (List.getElem?_eq_getElem hj)
        have en : nth (elems.map prmOf) j = (s1.data.toList, s2.data.toList, b) := by
          unfold nth
          rw [List.getD_eq_getElem?_getD, List.getElem?_map, List.getElem?_eq_getElem hj]
          show prmOf elems[j] = _
          unfold prmOf
          rw [ey]
        rw [addr_add, addr_add] at c0 c1 c2
        rw [en]
        dsimp only
        rw [str_self, str_self]
        exact ⟨c0, c1, c2⟩
    · have hb := bulk_prms elems (fun y hy => by
        obtain ⟨i, hi⟩ := List.getElem?_of_mem hy
        obtain ⟨s1, s2, b, ey, _⟩ := each i y hi
        exact ⟨_, _, _, ey⟩)
      simp only [Rows.uptoBulk, hb, bulkparams]
      omega


theorem cellsM : Tryd.prog.cellsOf 24 = 3 := by kernel_rfl
theorem cellsL : Tryd.prog.cellsOf 22 = 1 := by kernel_rfl
theorem array3 {α : Type} {cs : Array α} (h : cs.size = 3) : ∃ c0 c1 c2, cs = #[c0, c1, c2] := by
  obtain ⟨l⟩ := cs
  match l, h with
  | [c0, c1, c2], _ => exact ⟨c0, c1, c2, rfl⟩

set_option maxRecDepth 100000 in
theorem open_media {H : Type} {enc : TypeId × Value → H} {W : World} {base : Nat} {v : Value} {d : DataW H} {ps : List MemPlace} (hval : Value.okWide Tryd.prog W .any base 24 v)
    (h : DataW.Trod enc Tryd.prog W 0 (fun _ => true) true 24 v d ps) :
    ∃ (A B : ByteArray) (u : Value) (t : List Prm), v = .agg #[.string A, .string B, u] ∧ (RdP u t W ∧ NilP u t) ∧ A.size + B.size + bulkparams t ≤ Rows.uptoBulk d := by
  obtain ⟨cs, rfl, hsz⟩ := okWide_struct Tryd.underlying24 hval
  obtain ⟨c0, c1, c2, rfl⟩ := array3 (hsz.trans cellsM)
  obtain ⟨fuel, hf⟩ := h
  obtain ⟨y0, y1, y2, m, hx, _, t0, t1, t2⟩ := Deep.trod_struct3 Tryd.underlying24 hf
  simp only [cells9, cellsL, Value.cells, List.drop_zero] at t0 t1 t2
  obtain ⟨s1, e1, r1, _⟩ := DataW.trod_string Tryd.underlying9 t0
  obtain ⟨s2, e2, r2, _⟩ := DataW.trod_string Tryd.underlying9 t1
  simp at e1 e2
  subst e1 e2 r1 r2
  have hs2 : ∃ a len cap, c2 = .slice a len cap := by
    rcases DataW.trod_slice Tryd.underlying22 t2 with ⟨hcs, _⟩ | ⟨a, len', cap', elems, rest, n, _, hcs, _⟩
    · simp at hcs; exact ⟨_, _, _, hcs⟩
    · simp at hcs; exact ⟨_, _, _, hcs⟩
  obtain ⟨a2, l2, cap2, rfl⟩ := hs2
  obtain ⟨t, ht, hb⟩ := open_paramsT (enc := enc) (W := W) (v := .slice a2 l2 cap2) (d := y2.1) (ps := y2.2) ⟨_, _, _, rfl⟩ ⟨m, by simpa [Value.cells] using t2⟩
  refine ⟨s1, s2, _, t, rfl, ht, ?_⟩
  have hd : d = .agg [.lit (.string s1.data.toList), .lit (.string s2.data.toList), y2.1] := by
    injection hx
  rw [hd]
  simp only [Rows.uptoBulk, Rows.uptoBulkAll]
  have h1 := size_list s1
  have h2 := size_list s2
  omega

end Ac
end Go.Proofs.YtmgadjnllahbiaaDoor

/-
  AcceptPrints, over what came in.
-/
set_option linter.unusedVariables false
set_option linter.unusedSimpArgs false
namespace Go.Proofs.YtmgadjnllahbiaaDoor
open Go.RowKit Go.Shelf
namespace Ac
open Oc Tg

theorem walkb_AcceptPrints (A B : ByteArray) (u : Value) (t : List Prm) (hb : A.size + B.size + bulkparams t ≤ 1048576) (w : World) (hR : RdP u t w ∧ NilP u t) (hw : Env w) :
    Calls Tryd.prog 3 #[.agg #[.string A, .string B, u]] w fun e w' => e = .returned (.bool true) ∧ Below w.heap.size w w' := by
  unfold bulkparams at hb
  have h1 := size_list A
  have h2 := size_list B
  have h3 := len_sumP t
  have hM : EachP 1048576 t := fun p hp => by
    obtain ⟨k, hk, rfl⟩ := List.mem_iff_getElem.1 hp
    have := nth_sz t k hk
    have e : nth t k = t[k] := by
      unfold nth
      rw [List.getD_eq_getElem?_getD, List.getElem?_eq_getElem hk]
      rfl
    rw [e] at this
    unfold szP at this
    omega
  have h := walk_AcceptPrints A.data.toList B.data.toList u t (by omega) (by omega) hM (by omega) (by omega) w hR.1 hw
  rw [str_self, str_self] at h
  exact h

end Ac
end Go.Proofs.YtmgadjnllahbiaaDoor
