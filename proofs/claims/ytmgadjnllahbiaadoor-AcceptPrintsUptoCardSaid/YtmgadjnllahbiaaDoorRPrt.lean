/-
  The document's Print.
-/
import Derived.Test.YtmgadjnllahbiaaDoorPrt
import Derived.Test.YtmgadjnllahbiaaDoorRJoin
set_option linter.unusedVariables false
set_option linter.unusedSimpArgs false
namespace Go.Proofs.YtmgadjnllahbiaaDoor
open Go.RowKit Go.Shelf
namespace Oc

/-- A text appended to a slice of bytes of the call's own: other blocks stay. -/
theorem wp_appG {ops : Array Oper} {rest : List Oper} {o : Oper} {a : Act} {Q : Exit → Act → World → Prop} (hgd : o.guard = none) (s x : Operand)
    (ho : o.op = .call { callee := .builtin .append, args := #[s, x], argTypes := #[56, 9] }) (B : Nat) (v : Value) (l : List UInt8) (W : World) (y : ByteArray) (m : List UInt8) (hy : y = str m)
    (hs : a.eval s = v) (hown : Own B v l W) (hx : a.eval x = .string y) (hlen : l.length + m.length ≤ 140737488355328) (hB : B ≤ W.heap.size)
    (h : ∀ v' w', Own B v' (l ++ m) w' → Below B W w' → W.grownBy w' v.ownBlock → wpList Tryd.prog ops Q rest (a.put o.dst v') w') : wpList Tryd.prog ops Q (o :: rest) a W := by
  subst hy
  obtain ⟨i0, hi, hz0, hz1, hz2⟩ := info5
  refine Lib.wpList_append_own_string _ hgd s x 56 9 ho B 5 i0 Tryd.underlying56 Tryd.underlying9 hi hz0 hz1 hz2 v l.length _ hs hown (str m) hx ?_ ?_ ?_ ?_
  · rw [str_size]; unfold maxLen; omega
  · rw [str_size]; omega
  · exact hB
  · intro v' w' h1 h2 _
    rw [Lib.strCells_eq, str_list, ← Lib.byteCells_append, str_size] at h1
    refine h v' w' ?_ ((Below.refl B W).grown h2 hB (fun k hk => (World.ownsRow.lt hown k hk).1)) h2
    unfold Own
    rw [List.length_append]
    exact h1
theorem Own.below {B : Nat} {v : Value} {l : List UInt8} {w w' : World} (h : Own B v l w) (b : Below w.heap.size w w') : Own B v l w' := by
  refine ⟨h.1, ?_⟩
  rcases h.2 with hn | ⟨g, cap, cur, rfl, hb, hg, rest⟩
  · exact .inl hn
  · refine .inr ⟨g, cap, cur, rfl, hb, ?_, rest⟩
    have hlt : g < w.heap.size := by
      rcases Nat.lt_or_ge g w.heap.size with h | h
      · exact h
      · simp [Array.getElem?_eq_none h] at hg
    rw [b.block g hlt]
    exact hg
theorem prt1_nofld {n v : List UInt8} {b : Bool} (h : isFld v = false) : prt1 (n, v, b) = none := by
  unfold prt1
  simp only
  split
  · rfl
  · split
    · rw [if_neg]
      intro e
      rw [e] at h
      cases h
    · rw [if_neg (fun e => by rw [isTok_fld e] at h; cases h), if_neg (by rw [h]; simp)]

set_option maxRecDepth 100000 in
set_option maxHeartbeats 4000000 in
theorem rPrint_any (v : Value) (t : List Prm) (w : World) (h : RdP v t w) (hl : t.length ≤ 16777216) (hS : sumP t ≤ 8388608) :
    Calls Tryd.prog 14 #[v] w fun e w' => e = .returned (.tuple #[.string (str (printR t).1), .int .i64 (printR t).2]) ∧ Below w.heap.size w w' := by
  obtain ⟨a, c, rfl, h⟩ := h
  have HR : Hid (t = [] ∨ ∃ g o, a = some ⟨g, o, none⟩ ∧ t.length ≤ c ∧ ∀ j, j < t.length → w.cell? ⟨g, o + j * 3, none⟩ = some (.string (str (nth t j).1)) ∧ w.cell? ⟨g, o + j * 3 + 1, none⟩ = some (.string (str (nth t j).2.1)) ∧ w.cell? ⟨g, o + j * 3 + 2, none⟩ = some (.bool (nth t j).2.2)) := h
  clear h
  go_enter Tryd.func14, Tryd.ntmps14
  go_wp2
  go_loopw [4, 5] (fun ov i wr => ∃ (k : Nat) (acc : List UInt8), k ≤ t.length ∧ i = .int .i64 k ∧ acc.length + 2 * sumP (t.drop k) ≤ 16777216 ∧ Hid (prts t = (prts (t.drop k)).map (acc ++ ·)) ∧ Hid (Own w.heap.size ov acc wr) ∧ Hid (Below w.heap.size w wr)) (fun _ i _ => t.length - (intOf i).toNat)
  case atStart => exact ⟨0, [], Nat.zero_le _, rfl, by simp; omega, (by simp : prts t = (prts (t.drop 0)).map ([] ++ ·)), own_none _ w (Nat.le_refl _), (Below.refl _ w).alloc (Nat.le_refl _) _⟩
  case round =>
    obtain ⟨k, acc, hk, rfl, hacc, hst, hown, hbl⟩ := hrel
    have hsz := hbl.out.size
    by_cases hlt : k < t.length
    · rcases HR.out with h | ⟨g, o, rfl, hc, hcell⟩
      · rw [h] at hlt; simp at hlt
      obtain ⟨c0, c1, c2⟩ := hcell k hlt
      have hg : g < w.heap.size := World.block_lt_of_cell? w _ c0
      have d0 : wr.cell? ⟨g, o + k * 3, none⟩ = some (.string (str (nth t k).1)) := (hbl.out.cell (p := ⟨g, o + k * 3, none⟩) hg).trans c0
      have d1 : wr.cell? ⟨g, o + k * 3 + 1, none⟩ = some (.string (str (nth t k).2.1)) := (hbl.out.cell (p := ⟨g, o + k * 3 + 1, none⟩) hg).trans c1
      have d2 : wr.cell? ⟨g, o + k * 3 + 2, none⟩ = some (.bool (nth t k).2.2) := (hbl.out.cell (p := ⟨g, o + k * 3 + 2, none⟩) hg).trans c2
      clear hcell c0 c1 c2
      have hz := nth_sz t k hlt
      rw [sumP_drop t k hlt] at hacc
      have HStep : Hid (∀ x, prt1 (nth t k) = some x → prts t = (prts (t.drop (k + 1))).map ((acc ++ x) ++ ·)) := fun x hx => prts_step hlt hst.out hx
      have HBad : Hid (prt1 (nth t k) = none → printR t = ([], 15)) := fun hx => prts_bad hlt hst.out hx
      have hgr : g ≠ wr.heap.size := by omega
      generalize nth t k = p at *
      obtain ⟨pn, pv, pb⟩ := p
      unfold szP at hz hacc
      dsimp only at hz hacc d0 d1 d2
      have hn := str_size pn
      have hv := str_size pv
      have HL1 : Hid ((str pn).data.toList = pn) := str_list pn
      have HL2 : Hid ((str pv).data.toList = pv) := str_list pv
      generalize str pn = n at *
      generalize str pv = v at *
      have HN : Hid (n.size ≤ maxLen) := (by unfold maxLen; omega : n.size ≤ maxLen)
      have HV : Hid (v.size ≤ maxLen) := (by unfold maxLen; omega : v.size ≤ maxLen)
      have HB3 : Hid (Below w.heap.size w (wr.alloc (.cells #[.string n, .string v, .bool pb] 41))) := hbl.out.alloc hsz _
      have HO3 : Hid (Own w.heap.size _ acc (wr.alloc (.cells #[.string n, .string v, .bool pb] 41))) := hown.out.alloc _
      go_wp2_with fail
      refine (rIsToken_any n HN.out _).mono ?_
      rintro e w4 ⟨rfl, rfl⟩
      rw [HL1.out]
      cases htn : isTok pn with
      | false =>
        have HE : Hid (printR t = ([], 15)) := HBad.out (by unfold prt1; rw [if_pos htn])
        clear htn
        go_wp2
        go_ret2
        rw [HE.out]
        exact ⟨rfl, HB3.out⟩
      | true =>
        have htn' : ¬ isTok pn = false := by rw [htn]; simp
        go_wp2_with fail
        refine (rIsField_any v HV.out _).mono ?_
        rintro e w5 ⟨rfl, rfl⟩
        rw [HL2.out]
        cases hf : isFld pv with
        | false =>
          have HE : Hid (printR t = ([], 15)) := HBad.out (prt1_nofld hf)
          clear htn htn' hf
          go_wp2
          go_ret2
          rw [HE.out]
          exact ⟨rfl, HB3.out⟩
        | true =>
          have HY1 : Hid ((⟨#[59, 32]⟩ : ByteArray) ++ n = str (59 :: 32 :: pn)) := to_str (by rw [cat_list, HL1.out]; rfl)
          have hz1 : (⟨#[59, 32]⟩ : ByteArray).size + n.size ≤ 9223372036854775807 := by show 2 + n.size ≤ _; omega
          have HA1 : Hid (acc.length + (59 :: 32 :: pn).length ≤ 140737488355328) := (by simp only [List.length_cons]; omega : acc.length + (59 :: 32 :: pn).length ≤ 140737488355328)
          have HOB : Hid (∀ b, Value.ownBlock u4 = some b → b < wr.heap.size) := fun b hb => (World.ownsRow.lt hown.out b hb).2
          have hsa : w.heap.size ≤ (wr.alloc (.cells #[.string n, .string v, .bool pb] 41)).heap.size := by simp; omega
          generalize hq : (⟨#[59, 32]⟩ : ByteArray) ++ n = q at HY1
          cases pb with
          | false =>
            by_cases hv0 : v.size = 0
            · have hve := empty_of hv0
              have hvl : pv = [] := List.length_eq_zero_iff.1 (by omega)
              have hp : prt1 (pn, pv, false) = some (59 :: 32 :: pn) := by unfold prt1; rw [if_neg htn', if_pos rfl, if_pos hvl]
              have HS2 : Hid (prts t = (prts (t.drop (k + 1))).map ((acc ++ (59 :: 32 :: pn)) ++ ·)) := HStep.out _ hp
              have hxl := prt1_len hp
              unfold szP at hxl
              dsimp only at hxl
              clear hp htn htn' hf hvl
              go_wp2_with (at_builtin; go_must (refine wp_appG rfl (.tmp 39) (.tmp 42) rfl w.heap.size _ acc _ _ (59 :: 32 :: pn) HY1.out rfl HO3.out rfl HA1.out hsa ?_))
              intro v6 w6 hown6 hb6 hg6
              have HO6 : Hid (Own w.heap.size v6 (acc ++ (59 :: 32 :: pn)) w6) := hown6
              have HB6 : Hid (Below w.heap.size w w6) := HB3.out.trans hb6
              have hblk := hg6.block wr.heap.size (by simp) (fun e => by have := HOB.out _ e.symm; omega)
              have k2 : w6.cell? ⟨wr.heap.size, 2, none⟩ = some (.bool false) := (World.cell?_of_block (a := ⟨wr.heap.size, 2, none⟩) hblk).trans (by simp)
              clear hown6 hb6 hg6 hblk
              go_wp2
              go_roundw
              case rel => exact ⟨k + 1, acc ++ (59 :: 32 :: pn), by omega, by go_num, by rw [List.length_append]; omega, HS2, HO6, HB6⟩
              case measure => simp [intOf]; omega
            · have hve := nonempty_of hv0
              have hvl : ¬ pv = [] := fun e => hv0 (by rw [hv, e]; rfl)
              have HE : Hid (printR t = ([], 15)) := HBad.out (by unfold prt1; rw [if_neg htn', if_pos rfl, if_neg hvl])
              clear htn htn' hf hvl
              go_wp2
              go_ret2
              rw [HE.out]
              exact ⟨rfl, HB3.out⟩
          | true =>
            have hne : ¬ (true = false) := by simp
            have hve : v.toList.isEmpty = true ∨ v.toList.isEmpty = false := by cases v.toList.isEmpty <;> simp
            go_wp2_with (at_builtin; go_must (refine wp_appG rfl (.tmp 39) (.tmp 42) rfl w.heap.size _ acc _ _ (59 :: 32 :: pn) HY1.out rfl HO3.out rfl HA1.out hsa ?_))
            intro v6 w6 hown6 hb6 hg6
            have HO6 : Hid (Own w.heap.size v6 (acc ++ (59 :: 32 :: pn)) w6) := hown6
            have HB6 : Hid (Below w.heap.size w w6) := HB3.out.trans hb6
            have hs6 := HB6.out.size
            have hblk := hg6.block wr.heap.size (by simp) (fun e => by have := HOB.out _ e.symm; omega)
            have k1 : w6.cell? ⟨wr.heap.size, 1, none⟩ = some (.string v) := (World.cell?_of_block (a := ⟨wr.heap.size, 1, none⟩) hblk).trans (by simp)
            have k2 : w6.cell? ⟨wr.heap.size, 2, none⟩ = some (.bool true) := (World.cell?_of_block (a := ⟨wr.heap.size, 2, none⟩) hblk).trans (by simp)
            clear hown6 hb6 hg6 hblk
            go_wp2_with fail
            refine (rIsToken_any v HV.out _).mono ?_
            rintro e w7 ⟨rfl, rfl⟩
            rw [HL2.out]
            cases htv : isTok pv with
            | true =>
              have hp : prt1 (pn, pv, true) = some (59 :: 32 :: (pn ++ 61 :: pv)) := by unfold prt1; rw [if_neg htn', if_neg hne, if_pos htv]
              have HS2 : Hid (prts t = (prts (t.drop (k + 1))).map ((acc ++ (59 :: 32 :: (pn ++ 61 :: pv))) ++ ·)) := HStep.out _ hp
              have hxl := prt1_len hp
              unfold szP at hxl
              dsimp only at hxl
              have HY2 : Hid ((⟨#[61]⟩ : ByteArray) ++ v = str (61 :: pv)) := to_str (by rw [cat_list, HL2.out]; rfl)
              have hz2 : (⟨#[61]⟩ : ByteArray).size + v.size ≤ 9223372036854775807 := by show 1 + v.size ≤ _; omega
              have HA2 : Hid ((acc ++ (59 :: 32 :: pn)).length + (61 :: pv).length ≤ 140737488355328) := (by rw [List.length_append]; simp only [List.length_cons]; omega : (acc ++ (59 :: 32 :: pn)).length + (61 :: pv).length ≤ 140737488355328)
              have HAp : Hid ((acc ++ (59 :: 32 :: pn)) ++ (61 :: pv) = acc ++ (59 :: 32 :: (pn ++ 61 :: pv))) := (by simp : (acc ++ (59 :: 32 :: pn)) ++ (61 :: pv) = acc ++ (59 :: 32 :: (pn ++ 61 :: pv)))
              clear hp htn htn' hf htv hne
              generalize acc ++ (59 :: 32 :: pn) = acc2 at *
              generalize hq2 : (⟨#[61]⟩ : ByteArray) ++ v = q2 at HY2
              go_wp2_with (at_builtin; go_must (refine wp_appG rfl (.tmp 56) (.tmp 58) rfl w.heap.size _ acc2 _ _ (61 :: pv) HY2.out rfl HO6.out rfl HA2.out hs6 ?_))
              intro v8 w8 hown8 hb8 _
              have HO8 : Hid (Own w.heap.size v8 (acc ++ (59 :: 32 :: (pn ++ 61 :: pv))) w8) := (by rw [← HAp.out]; exact hown8 : Own w.heap.size v8 (acc ++ (59 :: 32 :: (pn ++ 61 :: pv))) w8)
              have HB8 : Hid (Below w.heap.size w w8) := HB6.out.trans hb8
              clear hown8 hb8
              go_wp2
              go_roundw
              case rel => exact ⟨k + 1, _, by omega, by go_num, by rw [List.length_append]; omega, HS2, HO8, HB8⟩
              case measure => simp [intOf]; omega
            | false =>
              have htv' : ¬ isTok pv = true := by rw [htv]; simp
              have hp : prt1 (pn, pv, true) = some (59 :: 32 :: (pn ++ 61 :: qText pv)) := by unfold prt1; rw [if_neg htn', if_neg hne, if_neg htv', if_pos hf]
              have HS2 : Hid (prts t = (prts (t.drop (k + 1))).map ((acc ++ (59 :: 32 :: (pn ++ 61 :: qText pv))) ++ ·)) := HStep.out _ hp
              have hxl := prt1_len hp
              unfold szP at hxl
              dsimp only at hxl
              have hql := qText_len pv
              have HQ : Hid (quoteR pv = (qText pv, 0)) := (by unfold quoteR; rw [hf]; rfl : quoteR pv = _)
              have HA2 : Hid ((acc ++ (59 :: 32 :: pn)).length + (61 :: qText pv).length ≤ 140737488355328) := (by rw [List.length_append]; simp only [List.length_cons]; omega : (acc ++ (59 :: 32 :: pn)).length + (61 :: qText pv).length ≤ 140737488355328)
              have HAp : Hid ((acc ++ (59 :: 32 :: pn)) ++ (61 :: qText pv) = acc ++ (59 :: 32 :: (pn ++ 61 :: qText pv))) := (by simp : (acc ++ (59 :: 32 :: pn)) ++ (61 :: qText pv) = acc ++ (59 :: 32 :: (pn ++ 61 :: qText pv)))
              have hqs := str_size (qText pv)
              clear hp htn htn' hf htv htv' hne
              generalize acc ++ (59 :: 32 :: pn) = acc2 at *
              go_wp2_with fail
              refine (rQuote_any v (by omega) _).mono ?_
              rintro e w7 ⟨rfl, hb7⟩
              rw [HL2.out, HQ.out]
              have HB7 : Hid (Below w.heap.size w w7) := bel_trans HB6.out hb7
              have HO7 : Hid (Own w.heap.size v6 acc2 w7) := HO6.out.below hb7
              have hs7 := HB7.out.size
              clear hb7
              have HY2 : Hid ((⟨#[61]⟩ : ByteArray) ++ str (qText pv) = str (61 :: qText pv)) := to_str (by rw [cat_list, str_list]; rfl)
              have hz2 : (⟨#[61]⟩ : ByteArray).size + (str (qText pv)).size ≤ 9223372036854775807 := by show 1 + _ ≤ _; omega
              dsimp only
              generalize str (qText pv) = y at *
              generalize hq2 : (⟨#[61]⟩ : ByteArray) ++ y = q2 at HY2
              go_wp2_with (at_builtin; go_must (refine wp_appG rfl (.tmp 56) (.tmp 58) rfl w.heap.size _ acc2 _ _ (61 :: qText pv) HY2.out rfl HO7.out rfl HA2.out hs7 ?_))
              intro v8 w8 hown8 hb8 _
              have HO8 : Hid (Own w.heap.size v8 (acc ++ (59 :: 32 :: (pn ++ 61 :: qText pv))) w8) := (by rw [← HAp.out]; exact hown8 : Own w.heap.size v8 (acc ++ (59 :: 32 :: (pn ++ 61 :: qText pv))) w8)
              have HB8 : Hid (Below w.heap.size w w8) := HB7.out.trans hb8
              clear hown8 hb8
              go_wp2
              go_roundw
              case rel => exact ⟨k + 1, _, by omega, by go_num, by rw [List.length_append]; omega, HS2, HO8, HB8⟩
              case measure => simp [intOf]; omega
    · obtain rfl : k = t.length := by omega
      have hpe := prts_end hst.out
      have HE : Hid (printR t = (acc, 0)) := (by unfold printR; rw [hpe] : printR t = _)
      have hconv := own_back hown.out
      clear hpe
      go_wp2
      go_ret2
      rw [HE.out]
      exact ⟨rfl, hbl.out⟩

end Oc
end Go.Proofs.YtmgadjnllahbiaaDoor
