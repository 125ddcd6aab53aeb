/-
  The document's Print of sheet (written by mkwrd.py).
-/
import Derived.Test.YtndglpjkmgcdpaaGreatDoorWrC
import Derived.Test.YtndglpjkmgcdpaaGreatDoorMgH
set_option linter.unusedVariables false
set_option linter.unusedSimpArgs false
namespace Go.Proofs.YtndglpjkmgcdpaaGreatDoor
open Go.RowKit Go.Shelf
namespace Wr
open Oc Tg Pt Mf

/-- A text appended: blocks of other types stay. -/
theorem wp_apK {ops : Array Oper} {rest : List Oper} {o : Oper} {a : Act} {Q : Exit → Act → World → Prop} (hgd : o.guard = none) (s x : Operand)
    (ho : o.op = .call { callee := .builtin .append, args := #[s, x], argTypes := #[55, 9] }) (B : Nat) (v : Value) (l : List UInt8) (t : ByteArray) (W : World)
    (hs : a.eval s = v) (hown : Ow B v l W) (hx : a.eval x = .string t) (hlen : l.length + t.size ≤ 140737488355328) (hB : B ≤ W.heap.size)
    (h : ∀ v' w', Ow B v' (l ++ t.data.toList) w' → Below B W w' → (∀ (k : Nat) (c : Array Value) (T : TypeId) (z : Nat × Nat), T ≠ 5 → W.heap[k]? = some (Obj.cells c T z) → w'.heap[k]? = some (Obj.cells c T z)) → wpList Tryz.prog ops Q rest (a.put o.dst v') w') : wpList Tryz.prog ops Q (o :: rest) a W := by
  obtain ⟨i0, hi, hz0, hz1, hz2⟩ := inf5
  refine Lib.wpList_append_own_string _ hgd s x 55 9 ho B 5 i0 Tryz.underlying55 Tryz.underlying9 hi hz0 hz1 hz2 v l.length _ hs hown t hx ?_ ?_ ?_ ?_
  · unfold maxLen; omega
  · omega
  · omega
  · intro v' w' h1 h2 _
    refine h v' w' ?_ ((Below.refl B W).grown h2 hB (fun k hk => (World.ownsRow.lt hown k hk).1)) (fun k c T z hT hk => (Kt.grown (b := k + 1) h2 hown : Kt (k + 1) W w') k c T z (by omega) hT hk)
    unfold Ow
    rw [List.length_append, Tg.cells_app]
    rw [show Lib.strCells t = Lib.byteCells t.data.toList by rw [← Tg.cells_str, str_self]] at h1
    have e : t.data.toList.length = t.size := size_list t
    rw [e]
    exact h1
theorem row5 {W : World} {R T : Nat} {a b c d e : Value} (h : W.heap[R]? = some (.cells #[a, b, c, d, e] T (0, 0))) : (W.cell? ⟨R, 0, none⟩ = some a ∧ W.cell? ⟨R, 1, none⟩ = some b) ∧ W.cell? ⟨R, 2, none⟩ = some c ∧ W.cell? ⟨R, 3, none⟩ = some d ∧ W.cell? ⟨R, 4, none⟩ = some e :=
  ⟨⟨by rw [Lib.cell_of_heap h]; rfl, by rw [Lib.cell_of_heap h]; rfl⟩, by rw [Lib.cell_of_heap h]; rfl, by rw [Lib.cell_of_heap h]; rfl, by rw [Lib.cell_of_heap h]; rfl⟩
theorem cat_list (a b : ByteArray) : (a ++ b).data.toList = a.data.toList ++ b.data.toList := by rw [ByteArray.data_append, Array.toList_append]
theorem ok_bad (p : P5) (h : (isFld p.n && (isFld p.f && (p.h || decide (p.f = []))) && (isFld p.m && decide (trim p.m = p.m))) = false) : okPt p = false := by
  unfold okPt
  rw [med_ok]
  cases hp : pass p with
  | false => rfl
  | true =>
    have hp' := hp
    unfold pass at hp'
    rw [hp'] at h
    have : Fd.isValue p.m = false := by
      unfold Fd.isValue
      cases h1 : isFld p.m with
      | false => rfl
      | true => rw [h1] at h; have h2 : decide (trim p.m = p.m) = false := by simpa using h
                rw [h2]; simp
    rw [this]; simp
theorem ok_len (p : P5) (hp : pass p = true) (hm : isFld p.m = true) (ht : trim p.m = p.m) : okPt p = (decide ((valR p).length ≤ 8192) && decide (p.m.length ≤ 8192)) := by
  unfold okPt
  rw [med_ok, hp, val_ok p hp]
  unfold Fd.isValue
  rw [hm, ht]
  simp

set_option maxRecDepth 100000 in
set_option maxHeartbeats 8000000 in
theorem rPrint15_any (b : List UInt8) (v : Value) (t : List P5) (hb0 : b.length ≤ 1048576) (hb : t.length + sumT t ≤ 1048576) (w : World) (hr : RdT v t w) :
    Calls Tryz.prog 9 #[.string (str b), v] w fun e w' => e = .returned (.tuple #[.string (str (fullR b t).1), .int .i64 (fullR b t).2]) ∧ Below w.heap.size w w' := by
  have hbz : (str b).size = b.length := str_size b
  have HI : Hid (∀ W, Calls Tryz.prog 25 #[.string (str b)] W fun e w' => e = .returned (.bool (bndR b)) ∧ Below W.heap.size W w') := fun W => by
    have := rIsMark_any (str b) (by rw [str_size]; omega) W
    rw [str_list] at this
    exact this
  have HCt : Hid (∀ W, RdT v t W → Calls Tryz.prog 26 #[v, .string (str b)] W fun e w' => e = .returned (.bool (standsR t b)) ∧ Below W.heap.size W w') := fun W h => stands_any v t (by omega) b (by omega) W h
  have HRd : Hid (RdT v t w) := hr
  obtain ⟨a, c, rfl, hcs⟩ := hr
  have HC : Hid (t = [] ∨ ∃ g o, a = some ⟨g, o, none⟩ ∧ t.length ≤ c ∧ ∀ j, j < t.length → CellT w g (o + j * 5) (nthT t j)) := hcs
  clear hcs
  have HF : Hid (fullR b t = if bndR b = false ∨ standsR t b = true then ([], 151) else if t = [] then ([], 153) else prtR b t) := (rfl : _ = _)
  have HBl : Hid (bndR b = true → b.length ≤ 70) := fun h => by
    unfold bndR at h
    simp only [Bool.and_eq_true, decide_eq_true_eq] at h
    exact h.2.2
  generalize fullR b t = FR at *
  cases hbr : bndR b with
  | false =>
    have HV : Hid (FR = ([], 151)) := (by rw [HF.out, if_pos (.inl hbr)] : _ = _)
    rw [hbr] at HI
    go_enter Tryz.func9, Tryz.ntmps9
    go_wp2_with fail
    refine (HI.out _).mono ?_
    rintro e w2 ⟨rfl, hb2⟩
    go_wp2
    go_ret2
    exact ⟨by rw [HV.out]; rfl, hb2⟩
  | true =>
    rw [hbr] at HI
    have hb70 := HBl.out hbr
    cases hst : standsR t b with
    | true =>
      have HV : Hid (FR = ([], 151)) := (by rw [HF.out, if_pos (.inr hst)] : _ = _)
      rw [hst] at HCt
      go_enter Tryz.func9, Tryz.ntmps9
      go_wp2_with fail
      refine (HI.out _).mono ?_
      rintro e w2 ⟨rfl, hb2⟩
      have HB2 : Hid (Below w.heap.size w w2) := hb2
      clear hb2
      go_wp2_with fail
      refine (HCt.out _ (HRd.out.below HB2.out)).mono ?_
      rintro e w3 ⟨rfl, hb3⟩
      have HB3 : Hid (Below w.heap.size w w3) := bel_trans HB2.out hb3
      clear hb3
      go_wp2
      go_ret2
      exact ⟨by rw [HV.out]; rfl, HB3.out⟩
    | false =>
      rw [hst] at HCt
      have HF2 : Hid (FR = if t = [] then ([], 153) else prtR b t) := (by rw [HF.out, if_neg (by rw [hbr, hst]; simp)] : _ = _)
      by_cases ht0 : t = []
      · have HV : Hid (FR = ([], 153)) := (by rw [HF2.out, if_pos ht0] : _ = _)
        have hl0 : ((t.length : Int) == 0) = true := by rw [ht0]; rfl
        clear HF HF2 ht0
        go_enter Tryz.func9, Tryz.ntmps9
        go_wp2_with fail
        refine (HI.out _).mono ?_
        rintro e w2 ⟨rfl, hb2⟩
        have HB2 : Hid (Below w.heap.size w w2) := hb2
        clear hb2
        go_wp2_with fail
        refine (HCt.out _ (HRd.out.below HB2.out)).mono ?_
        rintro e w3 ⟨rfl, hb3⟩
        have HB3 : Hid (Below w.heap.size w w3) := bel_trans HB2.out hb3
        clear hb3
        go_wp2
        go_ret2
        exact ⟨by rw [HV.out]; rfl, HB3.out⟩
      · have HV : Hid (FR = prtR b t) := (by rw [HF2.out, if_neg ht0] : _ = _)
        have hl0 : ((t.length : Int) == 0) = false := by
          have : t.length ≠ 0 := fun e => ht0 (List.length_eq_zero_iff.1 e)
          simp; omega
        clear HF HF2 hbr hst ht0 HBl
        go_enter Tryz.func9, Tryz.ntmps9
        go_wp2_with fail
        refine (HI.out _).mono ?_
        rintro e w2 ⟨rfl, hb2⟩
        have HB2 : Hid (Below w.heap.size w w2) := hb2
        clear hb2
        go_wp2_with fail
        refine (HCt.out _ (HRd.out.below HB2.out)).mono ?_
        rintro e w3 ⟨rfl, hb3⟩
        have HB3 : Hid (Below w.heap.size w w3) := bel_trans HB2.out hb3
        clear hb3
        have HO0 : Hid (Ow w3.heap.size (.slice (some ⟨w3.heap.size, 0, none⟩) 0 0) (bodyR b (t.take 0)) (w3.alloc (.cells #[] 5))) := Ow.none w3
        have HBe0 : Hid (Below w3.heap.size w3 (w3.alloc (.cells #[] 5))) := (Below.refl _ w3).alloc (Nat.le_refl _) _
        generalize hSB : str b = SB at *
        have HSB : Hid (str b = SB) := hSB
        clear hSB
        go_wp2
        go_loopw [6, 7] (fun ov iv wr => ∃ k : Nat, k ≤ t.length ∧ iv = .int .i64 k ∧ Hid ((t.take k).all okPt = true) ∧ Hid (Ow w3.heap.size ov (bodyR b (t.take k)) wr) ∧ Hid (Below w3.heap.size w3 wr)) (fun _ iv _ => t.length - (intOf iv).toNat)
        case atStart => exact ⟨0, Nat.zero_le _, rfl, (rfl : (t.take 0).all okPt = true), HO0, HBe0⟩
        case round =>
          obtain ⟨k, hk, rfl, hA, hOw, hBl⟩ := hrel
          obtain ⟨wo, rfl⟩ : ∃ wo, wo = wr := ⟨_, rfl⟩
          by_cases hlt : k < t.length
          · rcases HC.out with h | ⟨g, o, rfl, hcap, hcell⟩
            · rw [h] at hlt; simp at hlt
            have hck := hcell k hlt
            have hg : g < w.heap.size := World.block_lt_of_cell? w _ hck.1
            have HBo : Hid (Below w.heap.size w wo) := bel_trans HB3.out hBl.out
            obtain ⟨d0, d1, d2, d3, d4⟩ := hck.below HBo.out hg
            clear hcell hck
            have hsz := szT_le t k hlt
            have HBad : Hid (okPt (nthT t k) = false → FR = ([], 152)) := fun h => by rw [HV.out]; exact prt_bad b t k hlt h
            have HAn : Hid (okPt (nthT t k) = true → (t.take (k + 1)).all okPt = true) := fun h => by rw [take_nthT t k hlt, List.all_append, hA.out]; simp [h]
            have HBn : Hid (bodyR b (t.take (k + 1)) = bodyR b (t.take k) ++ partR b (nthT t k)) := (by rw [take_nthT t k hlt, body_snoc] : _ = _)
            have hbl := body_len b (t.take k)
            have hst := sumT_take t k
            have hpl := part_len b (nthT t k)
            have HLa : Hid ((bodyR b (t.take k)).length ≤ 500000000) := by
              show _ ≤ _
              have h1 : (t.take k).length ≤ 1048576 := by rw [List.length_take]; omega
              have h2 : (t.take k).length * (b.length + 120) ≤ 1048576 * 190 := Nat.mul_le_mul h1 (by omega)
              omega
            clear hbl hst hpl
            generalize nthT t k = p at *
            generalize bodyR b (t.take k) = acc at *
            unfold szT at hsz
            have HQ1 : Hid (∀ W, Calls Tryz.prog 27 #[.string (str p.n)] W fun e w' => e = .returned (.tuple #[.string (str (quoteR p.n).1), .int .i64 (quoteR p.n).2]) ∧ Below W.heap.size W w') := fun W => by
              have := rQuote_any (str p.n) (by rw [str_size]; omega) W
              rw [str_list] at this
              exact this
            have HQ2 : Hid (∀ W, Calls Tryz.prog 27 #[.string (str p.f)] W fun e w' => e = .returned (.tuple #[.string (str (quoteR p.f).1), .int .i64 (quoteR p.f).2]) ∧ Below W.heap.size W w') := fun W => by
              have := rQuote_any (str p.f) (by rw [str_size]; omega) W
              rw [str_list] at this
              exact this
            have HIF : Hid (∀ W, Calls Tryz.prog 28 #[.string (str p.m)] W fun e w' => e = .returned (.bool (isFld p.m)) ∧ w' = W) := fun W => by
              have := rIsField_any (str p.m) (by rw [str_size]; unfold maxLen; omega) W
              rw [str_list] at this
              exact this
            have HTr : Hid (∀ W, Calls Tryz.prog 29 #[.string (str p.m)] W fun e w' => e = .returned (.string (str (trim p.m))) ∧ w' = W) := fun W => by
              have := rTrim_any (str p.m) (by rw [str_size]; unfold maxLen; omega) W
              rw [str_list] at this
              exact this
            have HOb : Hid ((isFld p.n && (isFld p.f && (p.h || decide (p.f = []))) && (isFld p.m && decide (trim p.m = p.m))) = false → okPt p = false) := fun h => ok_bad p h
            have HOl : Hid (pass p = true → isFld p.m = true → trim p.m = p.m → okPt p = (decide ((valR p).length ≤ 8192) && decide (p.m.length ≤ 8192))) := fun h1 h2 h3 => ok_len p h1 h2 h3
            have HPs : Hid (pass p = (isFld p.n && (isFld p.f && (p.h || decide (p.f = []))))) := (rfl : _ = _)
            have HEf : Hid ((str p.f).toList.isEmpty = decide (p.f = [])) := emp_dec p.f
            have HEm : Hid ((str p.m).toList.isEmpty = decide (p.m = [])) := emp_dec p.m
            have HNe : Hid (trim p.m ≠ p.m → ((str (trim p.m)).toList == (str p.m).toList) = false) := fun h => by
              rw [Bool.eq_false_iff]; intro e
              have e := eq_of_beq e
              rw [ByteArray.toList_eq, ByteArray.toList_eq, str_list, str_list] at e
              exact h e
            have HTM : Hid (trim p.m = p.m → str (trim p.m) = str p.m) := fun h => by rw [h]
            have hqn := qText_len p.n
            have hqf := qText_len p.f
            have hvl := val_len p
            have zm := str_size p.m
            have zb := str_size p.b
            obtain ⟨wa, hwa⟩ : ∃ wa, wa = wo.alloc (.cells #[.string (str p.n), .string (str p.f), .string (str p.m), .string (str p.b), .bool p.h] 44) := ⟨_, rfl⟩
            have hra : wa.heap[wo.heap.size]? = some (.cells #[.string (str p.n), .string (str p.f), .string (str p.m), .string (str p.b), .bool p.h] 44 (0, 0)) := by rw [hwa]; exact heap_alloc_new wo _
            have hba : Below wo.heap.size wo wa := by rw [hwa]; exact (Below.refl _ wo).alloc (Nat.le_refl _) _
            have hza : wo.heap.size < wa.heap.size := by rw [hwa]; simp
            have HOa : Hid (Ow w3.heap.size u6 acc wa) := hOw.out.below hba
            have HBla : Hid (Below w3.heap.size w3 wa) := hBl.out.trans (hba.mono hBl.out.size)
            have HWV1 : Hid (p.h = true → (⟨#[102, 111, 114, 109, 45, 100, 97, 116, 97, 59, 32, 110, 97, 109, 101, 61]⟩ : ByteArray) ++ str (qText p.n) ++ ((⟨#[59, 32, 102, 105, 108, 101, 110, 97, 109, 101, 61]⟩ : ByteArray) ++ str (qText p.f)) = str (valR p)) := fun h => by
              show str K1 ++ str (qText p.n) ++ (str K2 ++ str (qText p.f)) = _
              unfold valR; rw [if_pos h, cat2, cat2, cat2]
            have HWV0 : Hid (p.h = false → (⟨#[102, 111, 114, 109, 45, 100, 97, 116, 97, 59, 32, 110, 97, 109, 101, 61]⟩ : ByteArray) ++ str (qText p.n) = str (valR p)) := fun h => by
              show str K1 ++ str (qText p.n) = _
              unfold valR; rw [if_neg (by rw [h]; simp), cat2]
            have HVz : Hid ((str (valR p)).size = (valR p).length) := str_size _
            have zq1 : (str (qText p.n)).size ≤ 2097154 := by rw [str_size]; omega
            have zq2 : (str (qText p.f)).size ≤ 2097154 := by rw [str_size]; omega
            have HVl : Hid ((str (valR p)).data.toList = valR p) := str_list _
            have HMl : Hid ((str p.m).data.toList = p.m) := str_list _
            have HBl2 : Hid ((str p.b).data.toList = p.b) := str_list _
            have HSl : Hid (SB.data.toList = b) := (by rw [← HSB.out, str_list] : _ = _)
            have HPt : Hid (partR b p = (45 :: 45 :: b) ++ [13, 10] ++ (CD ++ [58, 32] ++ valR p ++ [13, 10] ++ (if p.m = [] then [] else CT ++ [58, 32] ++ p.m ++ [13, 10])) ++ [13, 10] ++ p.b ++ [13, 10]) := (rfl : _ = _)
            clear hba
            generalize hPH : p.h = PH at *
            generalize str p.f = PF at *
            generalize str p.n = PN at *
            generalize str p.m = PM at *
            generalize str p.b = PBd at *
            generalize str (valR p) = VS at *
            generalize str (trim p.m) = TM at *
            cases hn : isFld p.n with
            | false =>
              have hq : quoteR p.n = ([], 13) := by unfold quoteR; rw [hn]; rfl
              rw [hq] at HQ1
              have HVb : Hid (FR = ([], 152)) := HBad.out (HOb.out (by rw [hn]; rfl))
              generalize quoteR p.f = QQ at *
              obtain ⟨QQ1, QQ2⟩ := QQ
              dsimp only at HQ1 HQ2
              clear hq hn HOb HOl HPs HWV1 HWV0 HTM HNe HPt
              generalize isFld p.m = IM at *
              go_wp2_with fail
              rw [← hwa]
              clear hwa
              refine (HQ1.out _).mono ?_
              rintro e w4 ⟨rfl, hb4⟩
              have r4 : w4.heap[wo.heap.size]? = some (.cells #[.string PN, .string PF, .string PM, .string PBd, .bool PH] 44 (0, 0)) := (hb4.block _ hza).trans hra
              have HO4 : Hid (Ow w3.heap.size u6 acc w4) := HOa.out.below hb4
              have HB4 : Hid (Below w3.heap.size w3 w4) := HBla.out.trans (hb4.mono HBla.out.size)
              have hz4 : wo.heap.size < w4.heap.size := Nat.lt_of_lt_of_le hza hb4.size
              obtain ⟨⟨x40, x41⟩, x42, x43, x44⟩ := row5 r4
              clear hb4
              go_wp2_with fail
              refine (HQ2.out _).mono ?_
              rintro e w5 ⟨rfl, hb5⟩
              have r5 : w5.heap[wo.heap.size]? = some (.cells #[.string PN, .string PF, .string PM, .string PBd, .bool PH] 44 (0, 0)) := (hb5.block _ hz4).trans r4
              have HO5 : Hid (Ow w3.heap.size u6 acc w5) := HO4.out.below hb5
              have HB5 : Hid (Below w3.heap.size w3 w5) := HB4.out.trans (hb5.mono HB4.out.size)
              have hz5 : wo.heap.size < w5.heap.size := Nat.lt_of_lt_of_le hz4 hb5.size
              obtain ⟨⟨x50, x51⟩, x52, x53, x54⟩ := row5 r5
              clear hb5 x40 x41 x42 x43 x44 r4 HO4 HB4
              go_wp2_with fail
              go_quiet (first | (go_at_call 28; with_reducible exact Calls.quiet_of_same (HIF.out _)) | (go_at_call 29; with_reducible exact Calls.quiet_of_same (HTr.out _)))
              go_wp2
              go_ret2
              exact ⟨by rw [HVb.out]; rfl, bel_trans HB3.out (below_drewN HB5.out _)⟩
            | true =>
              have hq : quoteR p.n = (qText p.n, 0) := by unfold quoteR; rw [hn]; rfl
              rw [hq] at HQ1
              cases hf : isFld p.f with
              | false =>
                have hq2 : quoteR p.f = ([], 13) := by unfold quoteR; rw [hf]; rfl
                rw [hq2] at HQ2
                have HVb : Hid (FR = ([], 152)) := HBad.out (HOb.out (by rw [hn, hf]; rfl))
                dsimp only at HQ1 HQ2
                clear hq hq2 hn hf HOb HOl HPs HWV1 HWV0 HTM HNe HPt
                generalize isFld p.m = IM at *
                go_wp2_with fail
                rw [← hwa]
                clear hwa
                refine (HQ1.out _).mono ?_
                rintro e w4 ⟨rfl, hb4⟩
                have r4 : w4.heap[wo.heap.size]? = some (.cells #[.string PN, .string PF, .string PM, .string PBd, .bool PH] 44 (0, 0)) := (hb4.block _ hza).trans hra
                have HO4 : Hid (Ow w3.heap.size u6 acc w4) := HOa.out.below hb4
                have HB4 : Hid (Below w3.heap.size w3 w4) := HBla.out.trans (hb4.mono HBla.out.size)
                have hz4 : wo.heap.size < w4.heap.size := Nat.lt_of_lt_of_le hza hb4.size
                obtain ⟨⟨x40, x41⟩, x42, x43, x44⟩ := row5 r4
                clear hb4
                go_wp2_with fail
                refine (HQ2.out _).mono ?_
                rintro e w5 ⟨rfl, hb5⟩
                have r5 : w5.heap[wo.heap.size]? = some (.cells #[.string PN, .string PF, .string PM, .string PBd, .bool PH] 44 (0, 0)) := (hb5.block _ hz4).trans r4
                have HO5 : Hid (Ow w3.heap.size u6 acc w5) := HO4.out.below hb5
                have HB5 : Hid (Below w3.heap.size w3 w5) := HB4.out.trans (hb5.mono HB4.out.size)
                have hz5 : wo.heap.size < w5.heap.size := Nat.lt_of_lt_of_le hz4 hb5.size
                obtain ⟨⟨x50, x51⟩, x52, x53, x54⟩ := row5 r5
                clear hb5 x40 x41 x42 x43 x44 r4 HO4 HB4
                go_wp2_with fail
                go_quiet (first | (go_at_call 28; with_reducible exact Calls.quiet_of_same (HIF.out _)) | (go_at_call 29; with_reducible exact Calls.quiet_of_same (HTr.out _)))
                go_wp2
                go_ret2
                exact ⟨by rw [HVb.out]; rfl, bel_trans HB3.out (below_drewN HB5.out _)⟩
              | true =>
                have hq2 : quoteR p.f = (qText p.f, 0) := by unfold quoteR; rw [hf]; rfl
                rw [hq2] at HQ2
                dsimp only at HQ1 HQ2
                generalize str (qText p.n) = QN at *
                generalize str (qText p.f) = QF at *
                clear hq hq2
                cases hmf : isFld p.m with
                | false =>
                  rw [hmf] at HIF
                  have HVb : Hid (FR = ([], 152)) := HBad.out (HOb.out (by rw [hn, hf, hmf]; simp))
                  clear hn hf hmf HOb HOl HPs HWV1 HWV0 HTM HNe HPt
                  go_wp2_with fail
                  rw [← hwa]
                  clear hwa
                  refine (HQ1.out _).mono ?_
                  rintro e w4 ⟨rfl, hb4⟩
                  have r4 : w4.heap[wo.heap.size]? = some (.cells #[.string PN, .string PF, .string PM, .string PBd, .bool PH] 44 (0, 0)) := (hb4.block _ hza).trans hra
                  have HO4 : Hid (Ow w3.heap.size u6 acc w4) := HOa.out.below hb4
                  have HB4 : Hid (Below w3.heap.size w3 w4) := HBla.out.trans (hb4.mono HBla.out.size)
                  have hz4 : wo.heap.size < w4.heap.size := Nat.lt_of_lt_of_le hza hb4.size
                  obtain ⟨⟨x40, x41⟩, x42, x43, x44⟩ := row5 r4
                  clear hb4
                  go_wp2_with fail
                  refine (HQ2.out _).mono ?_
                  rintro e w5 ⟨rfl, hb5⟩
                  have r5 : w5.heap[wo.heap.size]? = some (.cells #[.string PN, .string PF, .string PM, .string PBd, .bool PH] 44 (0, 0)) := (hb5.block _ hz4).trans r4
                  have HO5 : Hid (Ow w3.heap.size u6 acc w5) := HO4.out.below hb5
                  have HB5 : Hid (Below w3.heap.size w3 w5) := HB4.out.trans (hb5.mono HB4.out.size)
                  have hz5 : wo.heap.size < w5.heap.size := Nat.lt_of_lt_of_le hz4 hb5.size
                  obtain ⟨⟨x50, x51⟩, x52, x53, x54⟩ := row5 r5
                  clear hb5 x40 x41 x42 x43 x44 r4 HO4 HB4
                  go_wp2_with fail
                  go_quiet (first | (go_at_call 28; with_reducible exact Calls.quiet_of_same (HIF.out _)) | (go_at_call 29; with_reducible exact Calls.quiet_of_same (HTr.out _)))
                  go_wp2
                  go_ret2
                  exact ⟨by rw [HVb.out]; rfl, bel_trans HB3.out (below_drewN HB5.out _)⟩
                | true =>
                  rw [hmf] at HIF
                  by_cases htr : trim p.m = p.m
                  · have hTM := HTM.out htr
                    rw [hTM] at HTr
                    clear hTM HNe HTM
                    cases PH with
                    | false =>
                      by_cases hfe : p.f = []
                      · have HPs2 : Hid (pass p = true) := (by rw [HPs.out, hn, hf, decide_eq_true hfe]; rfl : _ = _)
                        have hfe' : PF.toList.isEmpty = true := by rw [HEf.out, decide_eq_true hfe]
                        clear hn hf hfe HPs HOb HEf
                        have HOk : Hid (okPt p = (decide ((valR p).length ≤ 8192) && decide (p.m.length ≤ 8192))) := HOl.out HPs2.out hmf htr
                        have HWV : Hid ((⟨#[102, 111, 114, 109, 45, 100, 97, 116, 97, 59, 32, 110, 97, 109, 101, 61]⟩ : ByteArray) ++ QN = VS) := HWV0.out rfl
                        clear HOl HPs2 HWV1 HWV0 htr hmf
                        rw [HVz.out.symm] at HOk

                        have hvz := HVz.out
                        have s1 : 2 + SB.size ≤ 9223372036854775807 := by omega
                        have s2 : 2 + SB.size + 2 ≤ 9223372036854775807 := by omega
                        have s3 : 2 + SB.size + 2 + 21 ≤ 9223372036854775807 := by omega
                        have s4 : 16 + QN.size ≤ 9223372036854775807 := by omega
                        have s5 : 11 + QF.size ≤ 9223372036854775807 := by omega
                        have s6 : 16 + QN.size + (11 + QF.size) ≤ 9223372036854775807 := by omega
                        have s7 : VS.size + 2 ≤ 9223372036854775807 := by omega
                        have s8 : 14 + PM.size ≤ 9223372036854775807 := by omega
                        have s9 : 14 + PM.size + 2 ≤ 9223372036854775807 := by omega
                        have s10 : 2 + PBd.size ≤ 9223372036854775807 := by omega
                        have s11 : 2 + PBd.size + 2 ≤ 9223372036854775807 := by omega

                        go_wp2_with fail
                        rw [← hwa]
                        clear hwa
                        refine (HQ1.out _).mono ?_
                        rintro e w4 ⟨rfl, hb4⟩
                        have r4 : w4.heap[wo.heap.size]? = some (.cells #[.string PN, .string PF, .string PM, .string PBd, .bool false] 44 (0, 0)) := (hb4.block _ hza).trans hra
                        have HO4 : Hid (Ow w3.heap.size u6 acc w4) := HOa.out.below hb4
                        have HB4 : Hid (Below w3.heap.size w3 w4) := HBla.out.trans (hb4.mono HBla.out.size)
                        have hz4 : wo.heap.size < w4.heap.size := Nat.lt_of_lt_of_le hza hb4.size
                        obtain ⟨⟨x40, x41⟩, x42, x43, x44⟩ := row5 r4
                        clear hb4
                        go_wp2_with fail
                        refine (HQ2.out _).mono ?_
                        rintro e w5 ⟨rfl, hb5⟩
                        have r5 : w5.heap[wo.heap.size]? = some (.cells #[.string PN, .string PF, .string PM, .string PBd, .bool false] 44 (0, 0)) := (hb5.block _ hz4).trans r4
                        have HO5 : Hid (Ow w3.heap.size u6 acc w5) := HO4.out.below hb5
                        have HB5 : Hid (Below w3.heap.size w3 w5) := HB4.out.trans (hb5.mono HB4.out.size)
                        have hz5 : wo.heap.size < w5.heap.size := Nat.lt_of_lt_of_le hz4 hb5.size
                        obtain ⟨⟨x50, x51⟩, x52, x53, x54⟩ := row5 r5
                        clear hb5 x40 x41 x42 x43 x44 r4 HO4 HB4
                        go_wp2_with fail
                        go_quiet (first | (go_at_call 28; with_reducible exact Calls.quiet_of_same (HIF.out _)) | (go_at_call 29; with_reducible exact Calls.quiet_of_same (HTr.out _)))

                        obtain ⟨w6, hw6⟩ : ∃ w6, w6 = w5.drewN nq := ⟨_, rfl⟩
                        rw [← hw6]
                        have hb6 : Below w5.heap.size w5 w6 := by rw [hw6]; exact below_drewN (Below.refl _ w5) _
                        have r6 : w6.heap[wo.heap.size]? = some (.cells #[.string PN, .string PF, .string PM, .string PBd, .bool false] 44 (0, 0)) := (hb6.block _ hz5).trans r5
                        have HO6 : Hid (Ow w3.heap.size u6 acc w6) := HO5.out.below hb6
                        have HB6 : Hid (Below w3.heap.size w3 w6) := HB5.out.trans (hb6.mono HB5.out.size)
                        obtain ⟨⟨x60, x61⟩, x62, x63, x64⟩ := row5 r6
                        clear hb6 hw6 x50 x51 x52 x53 x54 r5 HO5 HB5 nq
                        have hl1 : acc.length + ((⟨#[45, 45]⟩ : ByteArray) ++ SB ++ (⟨#[13, 10]⟩ : ByteArray) ++ (⟨#[67, 111, 110, 116, 101, 110, 116, 45, 68, 105, 115, 112, 111, 115, 105, 116, 105, 111, 110, 58, 32]⟩ : ByteArray)).size ≤ 140737488355328 := by
                          have := HLa.out
                          simp only [ByteArray.size_append]
                          have e1 : (⟨#[45, 45]⟩ : ByteArray).size = 2 := rfl
                          have e2 : (⟨#[13, 10]⟩ : ByteArray).size = 2 := rfl
                          have e3 : (⟨#[67, 111, 110, 116, 101, 110, 116, 45, 68, 105, 115, 112, 111, 115, 105, 116, 105, 111, 110, 58, 32]⟩ : ByteArray).size = 21 := rfl
                          omega
                        have HH1 : Hid (acc.length + ((⟨#[45, 45]⟩ : ByteArray) ++ SB ++ (⟨#[13, 10]⟩ : ByteArray) ++ (⟨#[67, 111, 110, 116, 101, 110, 116, 45, 68, 105, 115, 112, 111, 115, 105, 116, 105, 111, 110, 58, 32]⟩ : ByteArray)).size ≤ 140737488355328) := hl1
                        clear hl1
                        go_wp2_with (first | (at_builtin; refine wp_apK rfl (.tmp 78) (.tmp 82) rfl w3.heap.size _ acc _ _ rfl HO6.out rfl HH1.out HB6.out.size ?_))
                        intro v7 w7 ho7 hb7 hk7
                        have HO7 : Hid (Ow w3.heap.size v7 (acc ++ (45 :: 45 :: (b ++ [13, 10, 67, 111, 110, 116, 101, 110, 116, 45, 68, 105, 115, 112, 111, 115, 105, 116, 105, 111, 110, 58, 32]))) w7) := by have h := ho7; rw [HSl.out] at h; exact h
                        have r7 := hk7 _ _ _ _ _ (by decide) r6
                        have HB7 : Hid (Below w3.heap.size w3 w7) := HB6.out.trans hb7
                        obtain ⟨⟨x70, x71⟩, x72, x73, x74⟩ := row5 r7
                        have HLb : Hid ((acc ++ (45 :: 45 :: (b ++ [13, 10, 67, 111, 110, 116, 101, 110, 116, 45, 68, 105, 115, 112, 111, 115, 105, 116, 105, 111, 110, 58, 32]))).length ≤ 500000100) := by
                          show _ ≤ _
                          have := HLa.out
                          simp only [List.length_append, List.length_cons, List.length_nil]
                          omega
                        have HAc : Hid (∃ ac, ac = acc ++ (45 :: 45 :: (b ++ [13, 10, 67, 111, 110, 116, 101, 110, 116, 45, 68, 105, 115, 112, 111, 115, 105, 116, 105, 111, 110, 58, 32]))) := ⟨_, rfl⟩
                        obtain ⟨ac, hac⟩ := HAc.out
                        rw [← hac] at HO7 HLb
                        have HAe : Hid (ac = acc ++ (45 :: 45 :: (b ++ [13, 10, 67, 111, 110, 116, 101, 110, 116, 45, 68, 105, 115, 112, 111, 115, 105, 116, 105, 111, 110, 58, 32]))) := hac
                        clear hac HAc ho7 hb7 hk7 r6 x60 x61 x62 x63 x64 HO6 HB6
                        have hvq : VS.size = 16 + QN.size := by rw [← HWV.out]; simp only [ByteArray.size_append]; rfl
                        by_cases hv : VS.size ≤ 8192
                        · have hv1 : ¬ ((8192 : Int) < ((16 + QN.size : Nat) : Int)) := by omega
                          by_cases hm : p.m.length ≤ 8192
                          · have hm1 : ¬ ((8192 : Int) < (PM.size : Int)) := by omega
                            have HOk1 : Hid (okPt p = true) := (by rw [HOk.out, decide_eq_true hv, decide_eq_true hm]; rfl : _ = _)
                            have HVQ : Hid (valR p = K1 ++ QN.data.toList) := (by rw [← HVl.out, ← HWV.out]; simp only [cat_list]; rfl : _ = _)
                            have HH2 : Hid (ac.length + ((⟨#[102, 111, 114, 109, 45, 100, 97, 116, 97, 59, 32, 110, 97, 109, 101, 61]⟩ : ByteArray) ++ QN ++ (⟨#[13, 10]⟩ : ByteArray)).size ≤ 140737488355328) := by
                              show _ ≤ _
                              have := HLb.out
                              have e2 : (⟨#[13, 10]⟩ : ByteArray).size = 2 := rfl
                              rw [HWV.out, ByteArray.size_append]
                              omega
                            have HH3 : Hid ((ac ++ (valR p ++ [13, 10])).length + ((⟨#[67, 111, 110, 116, 101, 110, 116, 45, 84, 121, 112, 101, 58, 32]⟩ : ByteArray) ++ PM ++ (⟨#[13, 10]⟩ : ByteArray)).size ≤ 140737488355328) := by
                              show _ ≤ _
                              have := HLb.out
                              have e2 : (⟨#[13, 10]⟩ : ByteArray).size = 2 := rfl
                              have e3 : (⟨#[67, 111, 110, 116, 101, 110, 116, 45, 84, 121, 112, 101, 58, 32]⟩ : ByteArray).size = 14 := rfl
                              simp only [ByteArray.size_append, List.length_append, List.length_cons, List.length_nil]
                              omega
                            have HH4a : Hid ((ac ++ (valR p ++ [13, 10])).length + ((⟨#[13, 10]⟩ : ByteArray) ++ PBd ++ (⟨#[13, 10]⟩ : ByteArray)).size ≤ 140737488355328) := by
                              show _ ≤ _
                              have := HLb.out
                              have e2 : (⟨#[13, 10]⟩ : ByteArray).size = 2 := rfl
                              simp only [ByteArray.size_append, List.length_append, List.length_cons, List.length_nil]
                              omega
                            have HH4b : Hid ((ac ++ (valR p ++ [13, 10]) ++ (CT ++ [58, 32] ++ p.m ++ [13, 10])).length + ((⟨#[13, 10]⟩ : ByteArray) ++ PBd ++ (⟨#[13, 10]⟩ : ByteArray)).size ≤ 140737488355328) := by
                              show _ ≤ _
                              have := HLb.out
                              have e2 : (⟨#[13, 10]⟩ : ByteArray).size = 2 := rfl
                              have e3 : CT.length = 12 := rfl
                              simp only [ByteArray.size_append, List.length_append, List.length_cons, List.length_nil, e3]
                              omega
                            go_wp2_with (first | (at_builtin; refine wp_apK rfl (.tmp 101) (.tmp 103) rfl w3.heap.size _ ac _ _ rfl HO7.out rfl HH2.out HB7.out.size ?_))
                            intro v8 w8 ho8 hb8 hk8
                            have HO8 : Hid (Ow w3.heap.size v8 (ac ++ (valR p ++ [13, 10])) w8) := by
                              refine Eq.mp (congrArg (fun l => Ow w3.heap.size v8 l w8) ?_) ho8
                              rw [HVQ.out]; simp [K1, K2]
                            have r8 := hk8 _ _ _ _ _ (by decide) r7
                            have HB8 : Hid (Below w3.heap.size w3 w8) := HB7.out.trans hb8
                            obtain ⟨⟨x80, x81⟩, x82, x83, x84⟩ := row5 r8
                            clear ho8 hb8 hk8 r7 x70 x71 x72 x73 x74 HO7 HB7
                            by_cases hm0 : p.m = []
                            · have hme : PM.toList.isEmpty = true := by rw [HEm.out, decide_eq_true hm0]
                              go_wp2_with (first | (at_builtin; refine wp_apK rfl (.tmp 114) (.tmp 118) rfl w3.heap.size _ (ac ++ (valR p ++ [13, 10])) _ _ rfl HO8.out rfl HH4a.out HB8.out.size ?_))
                              intro v10 w10 ho10 hb10 hk10
                              have HO10 : Hid (Ow w3.heap.size v10 ((ac ++ (valR p ++ [13, 10])) ++ ([13, 10] ++ p.b ++ [13, 10])) w10) := by
                                refine Eq.mp (congrArg (fun l => Ow w3.heap.size v10 l w10) ?_) ho10
                                rw [← HBl2.out]; simp
                              have r10 := hk10 _ _ _ _ _ (by decide) r8
                              have HB10 : Hid (Below w3.heap.size w3 w10) := HB8.out.trans hb10
                              obtain ⟨⟨x100, x101⟩, x102, x103, x104⟩ := row5 r10
                              clear ho10 hb10 hk10 r8 x80 x81 x82 x83 x84 HO8 HB8
                              have HA1 : Hid ((t.take (k + 1)).all okPt = true) := HAn.out HOk1.out
                              have HO11 : Hid (Ow w3.heap.size v10 (bodyR b (t.take (k + 1))) w10) := by
                                refine Eq.mp (congrArg (fun l => Ow w3.heap.size v10 l w10) ?_) HO10.out
                                rw [HBn.out, HPt.out, HAe.out, if_pos hm0]
                                simp [CD, CT]
                              clear HO10
                              go_wp2
                              go_roundw
                              case rel => exact ⟨k + 1, by omega, by go_num, HA1, HO11, HB10⟩
                              case measure => simp [intOf]; omega
                            · have hme : PM.toList.isEmpty = false := by rw [HEm.out, decide_eq_false hm0]
                              go_wp2_with (first | (at_builtin; refine wp_apK rfl (.tmp 108) (.tmp 112) rfl w3.heap.size _ (ac ++ (valR p ++ [13, 10])) _ _ rfl HO8.out rfl HH3.out HB8.out.size ?_))
                              intro v9 w9 ho9 hb9 hk9
                              have HO9 : Hid (Ow w3.heap.size v9 ((ac ++ (valR p ++ [13, 10])) ++ (CT ++ [58, 32] ++ p.m ++ [13, 10])) w9) := by
                                refine Eq.mp (congrArg (fun l => Ow w3.heap.size v9 l w9) ?_) ho9
                                rw [← HMl.out]; simp [CT]
                              have r9 := hk9 _ _ _ _ _ (by decide) r8
                              have HB9 : Hid (Below w3.heap.size w3 w9) := HB8.out.trans hb9
                              obtain ⟨⟨x90, x91⟩, x92, x93, x94⟩ := row5 r9
                              clear ho9 hb9 hk9 r8 x80 x81 x82 x83 x84 HO8 HB8
                              go_wp2_with (first | (at_builtin; refine wp_apK rfl (.tmp 114) (.tmp 118) rfl w3.heap.size _ (ac ++ (valR p ++ [13, 10]) ++ (CT ++ [58, 32] ++ p.m ++ [13, 10])) _ _ rfl HO9.out rfl HH4b.out HB9.out.size ?_))
                              intro v10 w10 ho10 hb10 hk10
                              have HO10 : Hid (Ow w3.heap.size v10 ((ac ++ (valR p ++ [13, 10]) ++ (CT ++ [58, 32] ++ p.m ++ [13, 10])) ++ ([13, 10] ++ p.b ++ [13, 10])) w10) := by
                                refine Eq.mp (congrArg (fun l => Ow w3.heap.size v10 l w10) ?_) ho10
                                rw [← HBl2.out]; simp
                              have r10 := hk10 _ _ _ _ _ (by decide) r9
                              have HB10 : Hid (Below w3.heap.size w3 w10) := HB9.out.trans hb10
                              obtain ⟨⟨x100, x101⟩, x102, x103, x104⟩ := row5 r10
                              clear ho10 hb10 hk10 r9 x90 x91 x92 x93 x94 HO9 HB9
                              have HA1 : Hid ((t.take (k + 1)).all okPt = true) := HAn.out HOk1.out
                              have HO11 : Hid (Ow w3.heap.size v10 (bodyR b (t.take (k + 1))) w10) := by
                                refine Eq.mp (congrArg (fun l => Ow w3.heap.size v10 l w10) ?_) HO10.out
                                rw [HBn.out, HPt.out, HAe.out, if_neg hm0]
                                simp [CD, CT]
                              clear HO10
                              go_wp2
                              go_roundw
                              case rel => exact ⟨k + 1, by omega, by go_num, HA1, HO11, HB10⟩
                              case measure => simp [intOf]; omega
                          · have hm1 : (8192 : Int) < (PM.size : Int) := by omega
                            have HVb : Hid (FR = ([], 152)) := HBad.out (by rw [HOk.out, decide_eq_false hm]; simp)
                            go_wp2
                            go_ret2
                            exact ⟨by rw [HVb.out]; rfl, bel_trans HB3.out HB7.out⟩
                        · have hv1 : (8192 : Int) < ((16 + QN.size : Nat) : Int) := by omega
                          have HVb : Hid (FR = ([], 152)) := HBad.out (by rw [HOk.out, decide_eq_false hv]; rfl)
                          go_wp2
                          go_ret2
                          exact ⟨by rw [HVb.out]; rfl, bel_trans HB3.out HB7.out⟩
                      · have hfe' : PF.toList.isEmpty = false := by rw [HEf.out, decide_eq_false hfe]
                        have HVb : Hid (FR = ([], 152)) := HBad.out (HOb.out (by rw [hn, hf, hmf, decide_eq_false hfe]; simp))
                        clear hn hf hmf hfe htr HOb HOl HPs HWV1 HWV0 HPt HEf
                        go_wp2_with fail
                        rw [← hwa]
                        clear hwa
                        refine (HQ1.out _).mono ?_
                        rintro e w4 ⟨rfl, hb4⟩
                        have r4 : w4.heap[wo.heap.size]? = some (.cells #[.string PN, .string PF, .string PM, .string PBd, .bool false] 44 (0, 0)) := (hb4.block _ hza).trans hra
                        have HO4 : Hid (Ow w3.heap.size u6 acc w4) := HOa.out.below hb4
                        have HB4 : Hid (Below w3.heap.size w3 w4) := HBla.out.trans (hb4.mono HBla.out.size)
                        have hz4 : wo.heap.size < w4.heap.size := Nat.lt_of_lt_of_le hza hb4.size
                        obtain ⟨⟨x40, x41⟩, x42, x43, x44⟩ := row5 r4
                        clear hb4
                        go_wp2_with fail
                        refine (HQ2.out _).mono ?_
                        rintro e w5 ⟨rfl, hb5⟩
                        have r5 : w5.heap[wo.heap.size]? = some (.cells #[.string PN, .string PF, .string PM, .string PBd, .bool false] 44 (0, 0)) := (hb5.block _ hz4).trans r4
                        have HO5 : Hid (Ow w3.heap.size u6 acc w5) := HO4.out.below hb5
                        have HB5 : Hid (Below w3.heap.size w3 w5) := HB4.out.trans (hb5.mono HB4.out.size)
                        have hz5 : wo.heap.size < w5.heap.size := Nat.lt_of_lt_of_le hz4 hb5.size
                        obtain ⟨⟨x50, x51⟩, x52, x53, x54⟩ := row5 r5
                        clear hb5 x40 x41 x42 x43 x44 r4 HO4 HB4
                        go_wp2_with fail
                        go_quiet (first | (go_at_call 28; with_reducible exact Calls.quiet_of_same (HIF.out _)) | (go_at_call 29; with_reducible exact Calls.quiet_of_same (HTr.out _)))
                        go_wp2
                        go_ret2
                        exact ⟨by rw [HVb.out]; rfl, bel_trans HB3.out (below_drewN HB5.out _)⟩
                    | true =>
                      have HPs2 : Hid (pass p = true) := (by rw [HPs.out, hn, hf]; rfl : _ = _)
                      clear hn hf HPs HOb HEf
                      have HOk : Hid (okPt p = (decide ((valR p).length ≤ 8192) && decide (p.m.length ≤ 8192))) := HOl.out HPs2.out hmf htr
                      have HWV : Hid ((⟨#[102, 111, 114, 109, 45, 100, 97, 116, 97, 59, 32, 110, 97, 109, 101, 61]⟩ : ByteArray) ++ QN ++ ((⟨#[59, 32, 102, 105, 108, 101, 110, 97, 109, 101, 61]⟩ : ByteArray) ++ QF) = VS) := HWV1.out rfl
                      clear HOl HPs2 HWV1 HWV0 htr hmf
                      rw [HVz.out.symm] at HOk

                      have hvz := HVz.out
                      have s1 : 2 + SB.size ≤ 9223372036854775807 := by omega
                      have s2 : 2 + SB.size + 2 ≤ 9223372036854775807 := by omega
                      have s3 : 2 + SB.size + 2 + 21 ≤ 9223372036854775807 := by omega
                      have s4 : 16 + QN.size ≤ 9223372036854775807 := by omega
                      have s5 : 11 + QF.size ≤ 9223372036854775807 := by omega
                      have s6 : 16 + QN.size + (11 + QF.size) ≤ 9223372036854775807 := by omega
                      have s7 : VS.size + 2 ≤ 9223372036854775807 := by omega
                      have s8 : 14 + PM.size ≤ 9223372036854775807 := by omega
                      have s9 : 14 + PM.size + 2 ≤ 9223372036854775807 := by omega
                      have s10 : 2 + PBd.size ≤ 9223372036854775807 := by omega
                      have s11 : 2 + PBd.size + 2 ≤ 9223372036854775807 := by omega

                      go_wp2_with fail
                      rw [← hwa]
                      clear hwa
                      refine (HQ1.out _).mono ?_
                      rintro e w4 ⟨rfl, hb4⟩
                      have r4 : w4.heap[wo.heap.size]? = some (.cells #[.string PN, .string PF, .string PM, .string PBd, .bool true] 44 (0, 0)) := (hb4.block _ hza).trans hra
                      have HO4 : Hid (Ow w3.heap.size u6 acc w4) := HOa.out.below hb4
                      have HB4 : Hid (Below w3.heap.size w3 w4) := HBla.out.trans (hb4.mono HBla.out.size)
                      have hz4 : wo.heap.size < w4.heap.size := Nat.lt_of_lt_of_le hza hb4.size
                      obtain ⟨⟨x40, x41⟩, x42, x43, x44⟩ := row5 r4
                      clear hb4
                      go_wp2_with fail
                      refine (HQ2.out _).mono ?_
                      rintro e w5 ⟨rfl, hb5⟩
                      have r5 : w5.heap[wo.heap.size]? = some (.cells #[.string PN, .string PF, .string PM, .string PBd, .bool true] 44 (0, 0)) := (hb5.block _ hz4).trans r4
                      have HO5 : Hid (Ow w3.heap.size u6 acc w5) := HO4.out.below hb5
                      have HB5 : Hid (Below w3.heap.size w3 w5) := HB4.out.trans (hb5.mono HB4.out.size)
                      have hz5 : wo.heap.size < w5.heap.size := Nat.lt_of_lt_of_le hz4 hb5.size
                      obtain ⟨⟨x50, x51⟩, x52, x53, x54⟩ := row5 r5
                      clear hb5 x40 x41 x42 x43 x44 r4 HO4 HB4
                      go_wp2_with fail
                      go_quiet (first | (go_at_call 28; with_reducible exact Calls.quiet_of_same (HIF.out _)) | (go_at_call 29; with_reducible exact Calls.quiet_of_same (HTr.out _)))

                      obtain ⟨w6, hw6⟩ : ∃ w6, w6 = w5.drewN nq := ⟨_, rfl⟩
                      rw [← hw6]
                      have hb6 : Below w5.heap.size w5 w6 := by rw [hw6]; exact below_drewN (Below.refl _ w5) _
                      have r6 : w6.heap[wo.heap.size]? = some (.cells #[.string PN, .string PF, .string PM, .string PBd, .bool true] 44 (0, 0)) := (hb6.block _ hz5).trans r5
                      have HO6 : Hid (Ow w3.heap.size u6 acc w6) := HO5.out.below hb6
                      have HB6 : Hid (Below w3.heap.size w3 w6) := HB5.out.trans (hb6.mono HB5.out.size)
                      obtain ⟨⟨x60, x61⟩, x62, x63, x64⟩ := row5 r6
                      clear hb6 hw6 x50 x51 x52 x53 x54 r5 HO5 HB5 nq
                      have hl1 : acc.length + ((⟨#[45, 45]⟩ : ByteArray) ++ SB ++ (⟨#[13, 10]⟩ : ByteArray) ++ (⟨#[67, 111, 110, 116, 101, 110, 116, 45, 68, 105, 115, 112, 111, 115, 105, 116, 105, 111, 110, 58, 32]⟩ : ByteArray)).size ≤ 140737488355328 := by
                        have := HLa.out
                        simp only [ByteArray.size_append]
                        have e1 : (⟨#[45, 45]⟩ : ByteArray).size = 2 := rfl
                        have e2 : (⟨#[13, 10]⟩ : ByteArray).size = 2 := rfl
                        have e3 : (⟨#[67, 111, 110, 116, 101, 110, 116, 45, 68, 105, 115, 112, 111, 115, 105, 116, 105, 111, 110, 58, 32]⟩ : ByteArray).size = 21 := rfl
                        omega
                      have HH1 : Hid (acc.length + ((⟨#[45, 45]⟩ : ByteArray) ++ SB ++ (⟨#[13, 10]⟩ : ByteArray) ++ (⟨#[67, 111, 110, 116, 101, 110, 116, 45, 68, 105, 115, 112, 111, 115, 105, 116, 105, 111, 110, 58, 32]⟩ : ByteArray)).size ≤ 140737488355328) := hl1
                      clear hl1
                      go_wp2_with (first | (at_builtin; refine wp_apK rfl (.tmp 78) (.tmp 82) rfl w3.heap.size _ acc _ _ rfl HO6.out rfl HH1.out HB6.out.size ?_))
                      intro v7 w7 ho7 hb7 hk7
                      have HO7 : Hid (Ow w3.heap.size v7 (acc ++ (45 :: 45 :: (b ++ [13, 10, 67, 111, 110, 116, 101, 110, 116, 45, 68, 105, 115, 112, 111, 115, 105, 116, 105, 111, 110, 58, 32]))) w7) := by have h := ho7; rw [HSl.out] at h; exact h
                      have r7 := hk7 _ _ _ _ _ (by decide) r6
                      have HB7 : Hid (Below w3.heap.size w3 w7) := HB6.out.trans hb7
                      obtain ⟨⟨x70, x71⟩, x72, x73, x74⟩ := row5 r7
                      have HLb : Hid ((acc ++ (45 :: 45 :: (b ++ [13, 10, 67, 111, 110, 116, 101, 110, 116, 45, 68, 105, 115, 112, 111, 115, 105, 116, 105, 111, 110, 58, 32]))).length ≤ 500000100) := by
                        show _ ≤ _
                        have := HLa.out
                        simp only [List.length_append, List.length_cons, List.length_nil]
                        omega
                      have HAc : Hid (∃ ac, ac = acc ++ (45 :: 45 :: (b ++ [13, 10, 67, 111, 110, 116, 101, 110, 116, 45, 68, 105, 115, 112, 111, 115, 105, 116, 105, 111, 110, 58, 32]))) := ⟨_, rfl⟩
                      obtain ⟨ac, hac⟩ := HAc.out
                      rw [← hac] at HO7 HLb
                      have HAe : Hid (ac = acc ++ (45 :: 45 :: (b ++ [13, 10, 67, 111, 110, 116, 101, 110, 116, 45, 68, 105, 115, 112, 111, 115, 105, 116, 105, 111, 110, 58, 32]))) := hac
                      clear hac HAc ho7 hb7 hk7 r6 x60 x61 x62 x63 x64 HO6 HB6
                      have hvq : VS.size = 16 + QN.size + (11 + QF.size) := by rw [← HWV.out]; simp only [ByteArray.size_append]; rfl
                      by_cases hv : VS.size ≤ 8192
                      · have hv1 : ¬ ((8192 : Int) < ((16 + QN.size + (11 + QF.size) : Nat) : Int)) := by omega
                        by_cases hm : p.m.length ≤ 8192
                        · have hm1 : ¬ ((8192 : Int) < (PM.size : Int)) := by omega
                          have HOk1 : Hid (okPt p = true) := (by rw [HOk.out, decide_eq_true hv, decide_eq_true hm]; rfl : _ = _)
                          have HVQ : Hid (valR p = K1 ++ QN.data.toList ++ (K2 ++ QF.data.toList)) := (by rw [← HVl.out, ← HWV.out]; simp only [cat_list]; rfl : _ = _)
                          have HH2 : Hid (ac.length + ((⟨#[102, 111, 114, 109, 45, 100, 97, 116, 97, 59, 32, 110, 97, 109, 101, 61]⟩ : ByteArray) ++ QN ++ ((⟨#[59, 32, 102, 105, 108, 101, 110, 97, 109, 101, 61]⟩ : ByteArray) ++ QF) ++ (⟨#[13, 10]⟩ : ByteArray)).size ≤ 140737488355328) := by
                            show _ ≤ _
                            have := HLb.out
                            have e2 : (⟨#[13, 10]⟩ : ByteArray).size = 2 := rfl
                            rw [HWV.out, ByteArray.size_append]
                            omega
                          have HH3 : Hid ((ac ++ (valR p ++ [13, 10])).length + ((⟨#[67, 111, 110, 116, 101, 110, 116, 45, 84, 121, 112, 101, 58, 32]⟩ : ByteArray) ++ PM ++ (⟨#[13, 10]⟩ : ByteArray)).size ≤ 140737488355328) := by
                            show _ ≤ _
                            have := HLb.out
                            have e2 : (⟨#[13, 10]⟩ : ByteArray).size = 2 := rfl
                            have e3 : (⟨#[67, 111, 110, 116, 101, 110, 116, 45, 84, 121, 112, 101, 58, 32]⟩ : ByteArray).size = 14 := rfl
                            simp only [ByteArray.size_append, List.length_append, List.length_cons, List.length_nil]
                            omega
                          have HH4a : Hid ((ac ++ (valR p ++ [13, 10])).length + ((⟨#[13, 10]⟩ : ByteArray) ++ PBd ++ (⟨#[13, 10]⟩ : ByteArray)).size ≤ 140737488355328) := by
                            show _ ≤ _
                            have := HLb.out
                            have e2 : (⟨#[13, 10]⟩ : ByteArray).size = 2 := rfl
                            simp only [ByteArray.size_append, List.length_append, List.length_cons, List.length_nil]
                            omega
                          have HH4b : Hid ((ac ++ (valR p ++ [13, 10]) ++ (CT ++ [58, 32] ++ p.m ++ [13, 10])).length + ((⟨#[13, 10]⟩ : ByteArray) ++ PBd ++ (⟨#[13, 10]⟩ : ByteArray)).size ≤ 140737488355328) := by
                            show _ ≤ _
                            have := HLb.out
                            have e2 : (⟨#[13, 10]⟩ : ByteArray).size = 2 := rfl
                            have e3 : CT.length = 12 := rfl
                            simp only [ByteArray.size_append, List.length_append, List.length_cons, List.length_nil, e3]
                            omega
                          go_wp2_with (first | (at_builtin; refine wp_apK rfl (.tmp 101) (.tmp 103) rfl w3.heap.size _ ac _ _ rfl HO7.out rfl HH2.out HB7.out.size ?_))
                          intro v8 w8 ho8 hb8 hk8
                          have HO8 : Hid (Ow w3.heap.size v8 (ac ++ (valR p ++ [13, 10])) w8) := by
                            refine Eq.mp (congrArg (fun l => Ow w3.heap.size v8 l w8) ?_) ho8
                            rw [HVQ.out]; simp [K1, K2]
                          have r8 := hk8 _ _ _ _ _ (by decide) r7
                          have HB8 : Hid (Below w3.heap.size w3 w8) := HB7.out.trans hb8
                          obtain ⟨⟨x80, x81⟩, x82, x83, x84⟩ := row5 r8
                          clear ho8 hb8 hk8 r7 x70 x71 x72 x73 x74 HO7 HB7
                          by_cases hm0 : p.m = []
                          · have hme : PM.toList.isEmpty = true := by rw [HEm.out, decide_eq_true hm0]
                            go_wp2_with (first | (at_builtin; refine wp_apK rfl (.tmp 114) (.tmp 118) rfl w3.heap.size _ (ac ++ (valR p ++ [13, 10])) _ _ rfl HO8.out rfl HH4a.out HB8.out.size ?_))
                            intro v10 w10 ho10 hb10 hk10
                            have HO10 : Hid (Ow w3.heap.size v10 ((ac ++ (valR p ++ [13, 10])) ++ ([13, 10] ++ p.b ++ [13, 10])) w10) := by
                              refine Eq.mp (congrArg (fun l => Ow w3.heap.size v10 l w10) ?_) ho10
                              rw [← HBl2.out]; simp
                            have r10 := hk10 _ _ _ _ _ (by decide) r8
                            have HB10 : Hid (Below w3.heap.size w3 w10) := HB8.out.trans hb10
                            obtain ⟨⟨x100, x101⟩, x102, x103, x104⟩ := row5 r10
                            clear ho10 hb10 hk10 r8 x80 x81 x82 x83 x84 HO8 HB8
                            have HA1 : Hid ((t.take (k + 1)).all okPt = true) := HAn.out HOk1.out
                            have HO11 : Hid (Ow w3.heap.size v10 (bodyR b (t.take (k + 1))) w10) := by
                              refine Eq.mp (congrArg (fun l => Ow w3.heap.size v10 l w10) ?_) HO10.out
                              rw [HBn.out, HPt.out, HAe.out, if_pos hm0]
                              simp [CD, CT]
                            clear HO10
                            go_wp2
                            go_roundw
                            case rel => exact ⟨k + 1, by omega, by go_num, HA1, HO11, HB10⟩
                            case measure => simp [intOf]; omega
                          · have hme : PM.toList.isEmpty = false := by rw [HEm.out, decide_eq_false hm0]
                            go_wp2_with (first | (at_builtin; refine wp_apK rfl (.tmp 108) (.tmp 112) rfl w3.heap.size _ (ac ++ (valR p ++ [13, 10])) _ _ rfl HO8.out rfl HH3.out HB8.out.size ?_))
                            intro v9 w9 ho9 hb9 hk9
                            have HO9 : Hid (Ow w3.heap.size v9 ((ac ++ (valR p ++ [13, 10])) ++ (CT ++ [58, 32] ++ p.m ++ [13, 10])) w9) := by
                              refine Eq.mp (congrArg (fun l => Ow w3.heap.size v9 l w9) ?_) ho9
                              rw [← HMl.out]; simp [CT]
                            have r9 := hk9 _ _ _ _ _ (by decide) r8
                            have HB9 : Hid (Below w3.heap.size w3 w9) := HB8.out.trans hb9
                            obtain ⟨⟨x90, x91⟩, x92, x93, x94⟩ := row5 r9
                            clear ho9 hb9 hk9 r8 x80 x81 x82 x83 x84 HO8 HB8
                            go_wp2_with (first | (at_builtin; refine wp_apK rfl (.tmp 114) (.tmp 118) rfl w3.heap.size _ (ac ++ (valR p ++ [13, 10]) ++ (CT ++ [58, 32] ++ p.m ++ [13, 10])) _ _ rfl HO9.out rfl HH4b.out HB9.out.size ?_))
                            intro v10 w10 ho10 hb10 hk10
                            have HO10 : Hid (Ow w3.heap.size v10 ((ac ++ (valR p ++ [13, 10]) ++ (CT ++ [58, 32] ++ p.m ++ [13, 10])) ++ ([13, 10] ++ p.b ++ [13, 10])) w10) := by
                              refine Eq.mp (congrArg (fun l => Ow w3.heap.size v10 l w10) ?_) ho10
                              rw [← HBl2.out]; simp
                            have r10 := hk10 _ _ _ _ _ (by decide) r9
                            have HB10 : Hid (Below w3.heap.size w3 w10) := HB9.out.trans hb10
                            obtain ⟨⟨x100, x101⟩, x102, x103, x104⟩ := row5 r10
                            clear ho10 hb10 hk10 r9 x90 x91 x92 x93 x94 HO9 HB9
                            have HA1 : Hid ((t.take (k + 1)).all okPt = true) := HAn.out HOk1.out
                            have HO11 : Hid (Ow w3.heap.size v10 (bodyR b (t.take (k + 1))) w10) := by
                              refine Eq.mp (congrArg (fun l => Ow w3.heap.size v10 l w10) ?_) HO10.out
                              rw [HBn.out, HPt.out, HAe.out, if_neg hm0]
                              simp [CD, CT]
                            clear HO10
                            go_wp2
                            go_roundw
                            case rel => exact ⟨k + 1, by omega, by go_num, HA1, HO11, HB10⟩
                            case measure => simp [intOf]; omega
                        · have hm1 : (8192 : Int) < (PM.size : Int) := by omega
                          have HVb : Hid (FR = ([], 152)) := HBad.out (by rw [HOk.out, decide_eq_false hm]; simp)
                          go_wp2
                          go_ret2
                          exact ⟨by rw [HVb.out]; rfl, bel_trans HB3.out HB7.out⟩
                      · have hv1 : (8192 : Int) < ((16 + QN.size + (11 + QF.size) : Nat) : Int) := by omega
                        have HVb : Hid (FR = ([], 152)) := HBad.out (by rw [HOk.out, decide_eq_false hv]; rfl)
                        go_wp2
                        go_ret2
                        exact ⟨by rw [HVb.out]; rfl, bel_trans HB3.out HB7.out⟩
                  · have hne : (TM.toList == PM.toList) = false := HNe.out htr
                    have hne2 : (TM.toList != PM.toList) = true := by simp [bne, hne]
                    have HVb : Hid (FR = ([], 152)) := HBad.out (HOb.out (by rw [hn, hf, hmf, decide_eq_false htr]; simp))
                    clear hn hf hmf htr HOb HOl HPs HWV1 HWV0 HTM HNe HPt
                    go_wp2_with fail
                    rw [← hwa]
                    clear hwa
                    refine (HQ1.out _).mono ?_
                    rintro e w4 ⟨rfl, hb4⟩
                    have r4 : w4.heap[wo.heap.size]? = some (.cells #[.string PN, .string PF, .string PM, .string PBd, .bool PH] 44 (0, 0)) := (hb4.block _ hza).trans hra
                    have HO4 : Hid (Ow w3.heap.size u6 acc w4) := HOa.out.below hb4
                    have HB4 : Hid (Below w3.heap.size w3 w4) := HBla.out.trans (hb4.mono HBla.out.size)
                    have hz4 : wo.heap.size < w4.heap.size := Nat.lt_of_lt_of_le hza hb4.size
                    obtain ⟨⟨x40, x41⟩, x42, x43, x44⟩ := row5 r4
                    clear hb4
                    go_wp2_with fail
                    refine (HQ2.out _).mono ?_
                    rintro e w5 ⟨rfl, hb5⟩
                    have r5 : w5.heap[wo.heap.size]? = some (.cells #[.string PN, .string PF, .string PM, .string PBd, .bool PH] 44 (0, 0)) := (hb5.block _ hz4).trans r4
                    have HO5 : Hid (Ow w3.heap.size u6 acc w5) := HO4.out.below hb5
                    have HB5 : Hid (Below w3.heap.size w3 w5) := HB4.out.trans (hb5.mono HB4.out.size)
                    have hz5 : wo.heap.size < w5.heap.size := Nat.lt_of_lt_of_le hz4 hb5.size
                    obtain ⟨⟨x50, x51⟩, x52, x53, x54⟩ := row5 r5
                    clear hb5 x40 x41 x42 x43 x44 r4 HO4 HB4
                    go_wp2_with fail
                    go_quiet (first | (go_at_call 28; with_reducible exact Calls.quiet_of_same (HIF.out _)) | (go_at_call 29; with_reducible exact Calls.quiet_of_same (HTr.out _)))
                    go_wp2
                    go_ret2
                    exact ⟨by rw [HVb.out]; rfl, bel_trans HB3.out (below_drewN HB5.out _)⟩
          · obtain rfl : k = t.length := by omega
            have hA' := hA.out
            have hO' := hOw.out
            rw [List.take_length] at hA' hO'
            have HVe : Hid (FR = (bodyR b t ++ endR b, 0)) := (by rw [HV.out]; unfold prtR; rw [hA']; rfl : _ = _)
            have hback := hO'.back
            have hbl := body_len b t
            have hbk : (bodyR b t).length ≤ 500000000 := by
              have h2 : t.length * (b.length + 120) ≤ 1048576 * 190 := Nat.mul_le_mul (by omega) (by omega)
              omega
            have HRz : Hid ((str (bodyR b t)).size ≤ 500000000) := (by rw [str_size]; exact hbk : _ ≤ _)
            have HEq : Hid (str (bodyR b t) ++ (⟨#[45, 45]⟩ : ByteArray) ++ SB ++ (⟨#[45, 45]⟩ : ByteArray) ++ (⟨#[13, 10]⟩ : ByteArray) = str (bodyR b t ++ endR b)) := by
              show _ = _
              rw [← HSB.out, show (⟨#[45, 45]⟩ : ByteArray) = str [45, 45] from rfl, show (⟨#[13, 10]⟩ : ByteArray) = str [13, 10] from rfl, cat2, cat2, cat2, cat2]
              congr 1
              simp [endR]
            clear hA' hO' hbl hbk
            generalize str (bodyR b t) = RB at *
            have z0 := HRz.out
            have s1 : RB.size + 2 ≤ 9223372036854775807 := by omega
            have s2 : RB.size + 2 + SB.size ≤ 9223372036854775807 := by omega
            have s3 : RB.size + 2 + SB.size + 2 ≤ 9223372036854775807 := by omega
            have s4 : RB.size + 2 + SB.size + 2 + 2 ≤ 9223372036854775807 := by omega
            go_wp2
            go_ret2
            exact ⟨by rw [HVe.out, ← HEq.out]; rfl, bel_trans HB3.out hBl.out⟩

end Wr
end Go.Proofs.YtndglpjkmgcdpaaGreatDoor
