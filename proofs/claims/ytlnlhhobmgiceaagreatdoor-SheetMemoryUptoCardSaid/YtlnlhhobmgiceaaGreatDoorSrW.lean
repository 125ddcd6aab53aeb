/-
  sheet: the document's field: what a line of fields makes of a part (written by mksrw.py).
-/
import Derived.Test.YtlnlhhobmgiceaaGreatDoorSrV
import Derived.Test.YtlnlhhobmgiceaaGreatDoorMgP
import Derived.Test.YtlnlhhobmgiceaaGreatDoorDsC
set_option linter.unusedVariables false
set_option linter.unusedSimpArgs false
namespace Go.Proofs.YtlnlhhobmgiceaaGreatDoor
open Go.RowKit Go.Shelf
namespace Sr
open Oc Tg Mf

/-- The document's part lies in a block. -/
def PD (w : World) (b : Nat) (x : Pt.P5) : Prop := w.heap[b]? = some (.cells #[.string (str x.n), .string (str x.f), .string (str x.m), .string (str x.b), .bool x.h] 62 (0, 0))
theorem PD.below {w w' : World} {b : Nat} {x : Pt.P5} (h : PD w b x) (c : Below w.heap.size w w') : PD w' b x := by
  unfold PD at *
  rw [c.block b (Array.getElem?_eq_some_iff.1 h).1]
  exact h
theorem PD.cells {w : World} {b : Nat} {x : Pt.P5} (h : PD w b x) : w.cell? ⟨b, 0, none⟩ = some (.string (str x.n)) ∧ w.cell? ⟨b, 1, none⟩ = some (.string (str x.f)) ∧ w.cell? ⟨b, 2, none⟩ = some (.string (str x.m)) ∧ w.cell? ⟨b, 3, none⟩ = some (.string (str x.b)) ∧ w.cell? ⟨b, 4, none⟩ = some (.bool x.h) := by
  have : ∀ k : Nat, w.cell? ⟨b, k, none⟩ = #[Value.string (str x.n), .string (str x.f), .string (str x.m), .string (str x.b), .bool x.h][k]? := fun k => by unfold PD at h; simp [World.cell?, h]
  exact ⟨by simpa using this 0, by simpa using this 1, by simpa using this 2, by simpa using this 3, by simpa using this 4⟩
theorem PD.fz {w : World} {b : Nat} {x : Pt.P5} (h : PD w b x) (k : Nat) : w.frozen? ⟨b, k, none⟩ = false := Lib.frozen_of_heap h k
theorem PD.other {w : World} {b k : Nat} {x : Pt.P5} (h : PD w b x) (hk : k ≠ b) (j : Nat) (v : Value) : PD (w.setCell ⟨k, j, none⟩ v) b x := (set_other w k j b v hk).trans h
theorem PD.setM {w : World} {b : Nat} {x : Pt.P5} (h : PD w b x) (v : List UInt8) : PD (w.setCell ⟨b, 2, none⟩ (.string (str v))) b { x with m := v } := by
  unfold PD
  rw [heap_setCell_same w b 2 _ _ (.string (str v)) h]
  rfl
theorem PD.setN {w : World} {b : Nat} {x : Pt.P5} (h : PD w b x) (v : List UInt8) : PD (w.setCell ⟨b, 0, none⟩ (.string (str v))) b { x with n := v } := by
  unfold PD
  rw [heap_setCell_same w b 0 _ _ (.string (str v)) h]
  rfl
theorem PD.setB {w : World} {b : Nat} {x : Pt.P5} (h : PD w b x) (v : List UInt8) : PD (w.setCell ⟨b, 3, none⟩ (.string (str v))) b { x with b := v } := by
  unfold PD
  rw [heap_setCell_same w b 3 _ _ (.string (str v)) h]
  rfl
theorem PD.setF {w : World} {b : Nat} {x : Pt.P5} (h : PD w b x) (v : List UInt8) : PD ((w.setCell ⟨b, 1, none⟩ (.string (str v))).setCell ⟨b, 4, none⟩ (.bool true)) b { x with f := v, h := true } := by
  unfold PD
  have z1 := heap_setCell_same w b 1 _ _ (.string (str v)) h
  rw [heap_setCell_same _ b 4 _ _ (.bool true) z1]
  rfl
/-- What the document's field answers. -/
def FQ (R : Int × Pt.P5 × Bool × Bool) (e : Ending) : Prop := ∃ y d' t', e = .returned (.tuple #[aggP y, .bool d', .bool t', .int .i64 R.1]) ∧ (R.1 = 0 → R.2 = (y, d', t'))
theorem cdct : ¬ lowS cdS = lowS ctS := by decide

set_option maxRecDepth 100000 in
set_option maxHeartbeats 4000000 in
theorem rfield_any (x : Pt.P5) (d t : Bool) (l : List UInt8) (hl0 : l ≠ []) (hl : l.length ≤ 4000000000) (w : World) :
    Calls Tryz.prog 23 #[aggP x, .bool d, .bool t, .string (str l)] w fun e w' => FQ (takP l x d t) e ∧ Below w.heap.size w w' := by
  obtain ⟨R, HRR⟩ : ∃ R, Hid (R = takP l x d t) := ⟨_, rfl⟩
  have HRd : Hid (R = _) := HRR.out.trans (by unfold takP; rw [if_neg hl0])
  rw [← HRR.out]
  have hvl := parseL_len l
  have hnl := parseL_nam l
  have HPl : Hid (∀ W, Calls Tryz.prog 47 #[.string (str l)] W fun e w' => e = .returned (Fd.lineV (Fd.parseL l)) ∧ Below (World.heap W).size W w') := fun W => by
    have := Fd.rParseLine_any (str l) (by rw [str_size]; exact hl) W
    rw [str_list] at this
    exact this
  clear HRR
  unfold Fd.lineV at HPl
  generalize Fd.parseL l = P at *
  obtain ⟨⟨pn, pv⟩, pk, pe⟩ := P
  dsimp only at HPl HRd hvl hnl
  obtain ⟨w2, hw2⟩ : ∃ w2, w2 = (w.alloc (.cells #[.string (str x.n), .string (str x.f), .string (str x.m), .string (str x.b), .bool x.h] 62)).alloc (.cells #[.string ⟨#[]⟩, .string ⟨#[]⟩, .string ⟨#[]⟩, .string ⟨#[]⟩, .bool false] 62) := ⟨_, rfl⟩
  have hb2 : Below w.heap.size w w2 := by rw [hw2]; exact ((Below.refl _ w).alloc (Nat.le_refl _) _).alloc (by simp) _
  have hp2 : PD w2 w.heap.size x := by rw [hw2]; exact heap_keep (heap_alloc_new w _)
  have hq2 : PD w2 (w.heap.size + 1) Pt.p0 := by rw [hw2]; exact heap_new _ _ _ (by simp)
  unfold aggP
  go_enter Tryz.func23, Tryz.ntmps23
  go_wp2_with fail
  rw [← hw2]
  clear hw2
  refine (HPl.out _).mono ?_
  rintro e w3 ⟨rfl, hb3⟩
  obtain ⟨w4, hw4⟩ : ∃ w4, w4 = w3.alloc (.cells #[.string (str pn), .string (str pv)] 86) := ⟨_, rfl⟩
  have hb4 : Below w2.heap.size w2 w4 := by rw [hw4]; exact hb3.alloc hb3.size _
  have hfs : w.heap.size + 1 < w3.heap.size := Nat.lt_of_lt_of_le (Array.getElem?_eq_some_iff.1 hq2).1 hb3.size
  have HPw4 : Hid (PD w4 w.heap.size x) := hp2.below hb4
  have HZw4 : Hid (PD w4 (w.heap.size + 1) Pt.p0) := hq2.below hb4
  have HBw4 : Hid (Below w.heap.size w w4) := hb2.trans (hb4.mono hb2.size)
  have HF4 : Hid (w4.heap[w3.heap.size]? = some (.cells #[.string (str pn), .string (str pv)] 86 (0, 0))) := (by rw [hw4]; exact heap_alloc_new w3 _ : _ = _)
  have HPw3 : Hid (PD w3 w.heap.size x) := hp2.below hb3
  have HZw3 : Hid (PD w3 (w.heap.size + 1) Pt.p0) := hq2.below hb3
  have HBw3 : Hid (Below w.heap.size w w3) := hb2.trans (hb3.mono hb2.size)
  clear hb3 hb4 hp2 hq2 hb2 HPl
  by_cases hpe : pe = 0
  · subst hpe
    have HRf : Hid (R = _) := HRd.out.trans (by rw [if_neg (by simp)])
    clear HRd
    have HS1 : Hid (∀ W, Calls Tryz.prog 48 #[.string (str pn), .string ctS] W fun e w' => e = .returned (.bool (decide (lowS (str pn) = lowS ctS))) ∧ Below (World.heap W).size W w') := fun W => rSame_any _ _ (by rw [str_size]; unfold maxLen; omega) (by unfold maxLen; decide) W
    have HS2 : Hid (∀ W, Calls Tryz.prog 48 #[.string (str pn), .string cdS] W fun e w' => e = .returned (.bool (decide (lowS (str pn) = lowS cdS))) ∧ Below (World.heap W).size W w') := fun W => rSame_any _ _ (by rw [str_size]; unfold maxLen; omega) (by unfold maxLen; decide) W
    have HDi : Hid (∀ W, Calls _ _ _ W _) := fun W => Ds.rDisposition_any (str pv) (by rw [str_size]; omega) W
    have HDl : Hid ((str pv).data.toList = pv) := str_list pv
    obtain ⟨SP, hSP⟩ : ∃ SP, SP = str pv := ⟨_, rfl⟩
    have HSP : Hid (SP = str pv) := hSP
    rw [← hSP] at HF4 HDi HDl hw4 ⊢
    clear hSP
    rw [HDl.out] at HDi
    have q40 : w4.cell? ⟨w3.heap.size, 0, none⟩ = some (.string (str pn)) := by simp [World.cell?, HF4.out]
    go_wp2_with fail
    rw [← hw4]
    clear hw4
    refine (HS1.out _).mono ?_
    rintro e w5 ⟨rfl, hb5⟩
    have HPw5 : Hid (PD w5 w.heap.size x) := HPw4.out.below hb5
    have HZw5 : Hid (PD w5 (w.heap.size + 1) Pt.p0) := HZw4.out.below hb5
    have HBw5 : Hid (Below w.heap.size w w5) := HBw4.out.trans (hb5.mono HBw4.out.size)
    have HF5 : Hid (w5.heap[w3.heap.size]? = some (.cells #[.string (str pn), .string SP] 86 (0, 0))) := ((hb5.block _ (Array.getElem?_eq_some_iff.1 HF4.out).1).trans HF4.out : _ = _)
    clear hb5 HPw4 HZw4 HBw4 HF4 q40
    have q50 : w5.cell? ⟨w3.heap.size, 0, none⟩ = some (.string (str pn)) := by simp [World.cell?, HF5.out]
    have q51 : w5.cell? ⟨w3.heap.size, 1, none⟩ = some (.string SP) := by simp [World.cell?, HF5.out]
    by_cases hct : lowS (str pn) = lowS ctS
    · have hcd : ¬ lowS (str pn) = lowS cdS := fun h => cdct (h.symm.trans hct)
      have HRg : Hid (R = ((medP pv x t).1, (medP pv x t).2.1, d, (medP pv x t).2.2)) := (by rw [HRf.out, if_neg hcd, if_pos hct] : R = _)
      rw [decide_eq_true hct]
      clear HRf hct hcd
      cases t with
      | true =>
        have HQ : Hid (R = (152, x, d, true)) := HRg.out
        clear HRg
        obtain ⟨e0, e1, e2, e3, e4⟩ := HPw5.out.cells
        obtain ⟨d0, d1, d2, d3, d4⟩ := HZw5.out.cells
        have z0 := HZw5.out.fz 0
        have z1 := HZw5.out.fz 1
        have z2 := HZw5.out.fz 2
        have z3 := HZw5.out.fz 3
        have z4 := HZw5.out.fz 4
        have hn1 : w.heap.size + 1 ≠ w.heap.size := by omega
        have hn2 : w.heap.size ≠ w.heap.size + 1 := by omega
        go_wp2
        refine bodyPost_ret (v := .tuple #[aggP x, .bool d, .bool true, .int .i64 152]) (by simp [results, Tryz.results23, go_sem, aggP, d0, d1, d2, d3, d4, e0, e1, e2, e3, e4]; try rfl) rfl ?_
        rw [HQ.out]
        refine ⟨⟨x, d, true, rfl, fun h => absurd h (by simp)⟩, ?_⟩
        exact (((((HBw5.out.setCell (p := ⟨w.heap.size + 1, 0, none⟩) (by simp) _).setCell (p := ⟨w.heap.size + 1, 1, none⟩) (by simp) _).setCell (p := ⟨w.heap.size + 1, 2, none⟩) (by simp) _).setCell (p := ⟨w.heap.size + 1, 3, none⟩) (by simp) _).setCell (p := ⟨w.heap.size + 1, 4, none⟩) (by simp) _)
      | false =>
        have HQ : Hid (R = (0, { x with m := pv }, d, true)) := HRg.out
        clear HRg
        obtain ⟨e0, e1, e2, e3, e4⟩ := HPw5.out.cells
        have fz := HPw5.out.fz 2
        obtain ⟨d0, d1, d2, d3, d4⟩ := HZw5.out.cells
        have z0 := HZw5.out.fz 0
        have z1 := HZw5.out.fz 1
        have z2 := HZw5.out.fz 2
        have z3 := HZw5.out.fz 3
        have z4 := HZw5.out.fz 4
        have hn1 : w.heap.size + 1 ≠ w.heap.size := by omega
        have hn2 : w.heap.size ≠ w.heap.size + 1 := by omega
        go_wp2
        refine bodyPost_ret (v := .tuple #[.agg #[.string (str x.n), .string (str x.f), .string SP, .string (str x.b), .bool x.h], .bool d, .bool true, .int .i64 0]) (by simp [results, Tryz.results23, go_sem, d0, d1, d2, d3, d4, e0, e1, e2, e3, e4]; try rfl) rfl ?_
        rw [HQ.out]
        refine ⟨⟨{ x with m := pv }, d, true, by rw [HSP.out]; rfl, fun _ => rfl⟩, ?_⟩
        exact ((((((HBw5.out.setCell (p := ⟨w.heap.size, 2, none⟩) (Nat.le_refl _) _).setCell (p := ⟨w.heap.size + 1, 0, none⟩) (by simp) _).setCell (p := ⟨w.heap.size + 1, 1, none⟩) (by simp) _).setCell (p := ⟨w.heap.size + 1, 2, none⟩) (by simp) _).setCell (p := ⟨w.heap.size + 1, 3, none⟩) (by simp) _).setCell (p := ⟨w.heap.size + 1, 4, none⟩) (by simp) _)
    · rw [decide_eq_false hct]
      go_wp2_with fail
      refine (HS2.out _).mono ?_
      rintro e w6 ⟨rfl, hb6⟩
      have HPw6 : Hid (PD w6 w.heap.size x) := HPw5.out.below hb6
      have HZw6 : Hid (PD w6 (w.heap.size + 1) Pt.p0) := HZw5.out.below hb6
      have HBw6 : Hid (Below w.heap.size w w6) := HBw5.out.trans (hb6.mono HBw5.out.size)
      have HF6 : Hid (w6.heap[w3.heap.size]? = some (.cells #[.string (str pn), .string SP] 86 (0, 0))) := ((hb6.block _ (Array.getElem?_eq_some_iff.1 HF5.out).1).trans HF5.out : _ = _)
      clear hb6 HPw5 HZw5 HBw5 HF5 q50 q51
      have q60 : w6.cell? ⟨w3.heap.size, 0, none⟩ = some (.string (str pn)) := by simp [World.cell?, HF6.out]
      have q61 : w6.cell? ⟨w3.heap.size, 1, none⟩ = some (.string SP) := by simp [World.cell?, HF6.out]
      by_cases hcd : lowS (str pn) = lowS cdS
      · have HRg : Hid (R = ((dspP pv x d).1, (dspP pv x d).2.1, (dspP pv x d).2.2, t)) := (by rw [HRf.out, if_pos hcd] : R = _)
        rw [decide_eq_true hcd]
        clear HRf hcd hct HS1 HS2
        have HRh : Hid (R = _) := HRg.out.trans (by unfold dspP; exact rfl)
        clear HRg
        go_wp2_with fail
        refine (HDi.out _).mono ?_
        rintro e w7 ⟨rv, rfl, hO7, hb7⟩
        have HPw7 : Hid (PD w7 w.heap.size x) := HPw6.out.below hb7
        have HZw7 : Hid (PD w7 (w.heap.size + 1) Pt.p0) := HZw6.out.below hb7
        have HBw7 : Hid (Below w.heap.size w w7) := HBw6.out.trans (hb7.mono HBw6.out.size)
        have HO7 : Hid (OwnP 57 w6.heap.size rv (Ds.disR pv).2.1 w7) := hO7
        have hz6 : w.heap.size + 1 < w6.heap.size := (Array.getElem?_eq_some_iff.1 HZw6.out).1
        have HZ67 : Hid (w6.heap.size ≤ w7.heap.size) := hb7.size
        clear hO7 hb7 HPw6 HZw6 HBw6 HF6 q60 q61 HDi
        generalize Ds.disR pv = D at *
        obtain ⟨wd, ps, er⟩ := D
        dsimp only at HO7 HRh ⊢
        obtain ⟨la, lc, e1, hcs⟩ := HO7.out.rd
        subst e1
        have HCS : Hid _ := hcs
        clear hcs
        have hpl : ps.length ≤ 9223372036854775807 := OwnP.len HO7.out
        have hW : (str wd).toList = wd := by rw [ByteArray.toList_eq, str_list]
        generalize str wd = SW at *
        by_cases hbad : d = true ∨ er ≠ 0 ∨ wd ≠ formL
        · have HQ : Hid (R = (152, x, d, t)) := (by rw [HRh.out, if_pos hbad] : R = _)
          clear HRh
          cases d with
          | true =>
            obtain ⟨e0, e1, e2, e3, e4⟩ := HPw7.out.cells
            obtain ⟨d0, d1, d2, d3, d4⟩ := HZw7.out.cells
            have z0 := HZw7.out.fz 0
            have z1 := HZw7.out.fz 1
            have z2 := HZw7.out.fz 2
            have z3 := HZw7.out.fz 3
            have z4 := HZw7.out.fz 4
            have hn1 : w.heap.size + 1 ≠ w.heap.size := by omega
            have hn2 : w.heap.size ≠ w.heap.size + 1 := by omega
            go_wp2
            refine bodyPost_ret (v := .tuple #[aggP x, .bool true, .bool t, .int .i64 152]) (by simp [results, Tryz.results23, go_sem, aggP, d0, d1, d2, d3, d4, e0, e1, e2, e3, e4]; try rfl) rfl ?_
            rw [HQ.out]
            refine ⟨⟨x, true, t, rfl, fun h => absurd h (by simp)⟩, ?_⟩
            exact (((((HBw7.out.setCell (p := ⟨w.heap.size + 1, 0, none⟩) (by simp) _).setCell (p := ⟨w.heap.size + 1, 1, none⟩) (by simp) _).setCell (p := ⟨w.heap.size + 1, 2, none⟩) (by simp) _).setCell (p := ⟨w.heap.size + 1, 3, none⟩) (by simp) _).setCell (p := ⟨w.heap.size + 1, 4, none⟩) (by simp) _)
          | false =>
            by_cases her : er = 0
            · subst her
              have hwf : ¬ wd = formL := fun e => by rcases hbad with h | h | h; cases h; exact h rfl; exact h e
              have h1 : ¬ SW.toList = [102, 111, 114, 109, 45, 100, 97, 116, 97] := by rw [hW]; exact hwf
              have h2 : (SW.toList == [102, 111, 114, 109, 45, 100, 97, 116, 97]) = false := by simpa using h1
              clear hbad hW hwf
              obtain ⟨e0, e1, e2, e3, e4⟩ := HPw7.out.cells
              obtain ⟨d0, d1, d2, d3, d4⟩ := HZw7.out.cells
              have z0 := HZw7.out.fz 0
              have z1 := HZw7.out.fz 1
              have z2 := HZw7.out.fz 2
              have z3 := HZw7.out.fz 3
              have z4 := HZw7.out.fz 4
              have hn1 : w.heap.size + 1 ≠ w.heap.size := by omega
              have hn2 : w.heap.size ≠ w.heap.size + 1 := by omega
              go_wp2
              refine bodyPost_ret (v := .tuple #[aggP x, .bool false, .bool t, .int .i64 152]) (by simp [results, Tryz.results23, go_sem, aggP, d0, d1, d2, d3, d4, e0, e1, e2, e3, e4]; try rfl) rfl ?_
              rw [HQ.out]
              refine ⟨⟨x, false, t, rfl, fun h => absurd h (by simp)⟩, ?_⟩
              exact (((((HBw7.out.setCell (p := ⟨w.heap.size + 1, 0, none⟩) (by simp) _).setCell (p := ⟨w.heap.size + 1, 1, none⟩) (by simp) _).setCell (p := ⟨w.heap.size + 1, 2, none⟩) (by simp) _).setCell (p := ⟨w.heap.size + 1, 3, none⟩) (by simp) _).setCell (p := ⟨w.heap.size + 1, 4, none⟩) (by simp) _)
            · have hp1 : (er != 0) = true := by simpa using her
              clear hbad hW
              obtain ⟨e0, e1, e2, e3, e4⟩ := HPw7.out.cells
              obtain ⟨d0, d1, d2, d3, d4⟩ := HZw7.out.cells
              have z0 := HZw7.out.fz 0
              have z1 := HZw7.out.fz 1
              have z2 := HZw7.out.fz 2
              have z3 := HZw7.out.fz 3
              have z4 := HZw7.out.fz 4
              have hn1 : w.heap.size + 1 ≠ w.heap.size := by omega
              have hn2 : w.heap.size ≠ w.heap.size + 1 := by omega
              go_wp2
              refine bodyPost_ret (v := .tuple #[aggP x, .bool false, .bool t, .int .i64 152]) (by simp [results, Tryz.results23, go_sem, aggP, d0, d1, d2, d3, d4, e0, e1, e2, e3, e4]; try rfl) rfl ?_
              rw [HQ.out]
              refine ⟨⟨x, false, t, rfl, fun h => absurd h (by simp)⟩, ?_⟩
              exact (((((HBw7.out.setCell (p := ⟨w.heap.size + 1, 0, none⟩) (by simp) _).setCell (p := ⟨w.heap.size + 1, 1, none⟩) (by simp) _).setCell (p := ⟨w.heap.size + 1, 2, none⟩) (by simp) _).setCell (p := ⟨w.heap.size + 1, 3, none⟩) (by simp) _).setCell (p := ⟨w.heap.size + 1, 4, none⟩) (by simp) _)
        · have hdf : d = false := by
            cases d with
            | false => rfl
            | true => exact (hbad (.inl rfl)).elim
          have hef : er = 0 := Classical.byContradiction fun e => hbad (.inr (.inl e))
          have hwf : wd = formL := Classical.byContradiction fun e => hbad (.inr (.inr e))
          subst hdf hef
          have HRi : Hid (R = _) := HRh.out.trans (by rw [if_neg hbad])
          have h1 : SW.toList = [102, 111, 114, 109, 45, 100, 97, 116, 97] := by rw [hW, hwf]; rfl
          have h2 : (SW.toList == [102, 111, 114, 109, 45, 100, 97, 116, 97]) = true := by rw [h1]; rfl
          clear hbad hW hwf HRh
          go_wp2_with fail
          go_loopw [18, 19] (fun nv i wr => ∃ k : Nat, k ≤ ps.length ∧ i = .int .i64 (k : Int) ∧ nv = .bool (dfold x (ps.take k)).2 ∧ Hid (PD wr w.heap.size (dfold x (ps.take k)).1) ∧ Hid (Chg w.heap.size w7 wr)) (fun _ i _ => ps.length - (intOf i).toNat)
          case atStart => exact ⟨0, Nat.zero_le _, rfl, rfl, HPw7, Chg.refl _ _⟩
          case round =>
            obtain ⟨k, hk, rfl, rfl, HHr, HCr⟩ := hrel
            by_cases hlt : k < ps.length
            · have hlt' : ((k : Nat) : Int) < ((ps.length : Nat) : Int) := by omega
              have HOr : Hid (OwnP 57 w6.heap.size (.slice la ps.length lc) ps wr) := OwnP.chg HO7.out HCr.out (by omega)
              obtain ⟨la', lc', e1, hcs⟩ := HOr.out.rd
              injection e1 with e11 e13 e12
              clear e13
              subst e11 e12
              rcases hcs with h | ⟨g, off, rfl, hlc, hcell⟩
              · rw [h] at hlt; simp at hlt
              obtain ⟨p0, p1, p2⟩ := hcell k hlt
              have HF : Hid (dfold x (ps.take (k + 1)) = dstep (dfold x (ps.take k)) (nth ps k)) := dfold_take x ps k hlt
              clear hcell HCS
              generalize dfold x (ps.take k) = Y at *
              generalize nth ps k = q at *
              obtain ⟨qn, qv, qh⟩ := q
              obtain ⟨yx, yn⟩ := Y
              dsimp only at p0 p1 p2 HHr
              have hqn : (str qn).toList = qn := by rw [ByteArray.toList_eq, str_list]
              have fN := HHr.out.fz 0
              have fF := HHr.out.fz 1
              have fB := HHr.out.fz 4
              obtain ⟨g0, g1, g2, g3, g4⟩ := HHr.out.cells
              have HSN : Hid (PD (wr.setCell ⟨w.heap.size, 0, none⟩ (.string (str qv))) w.heap.size { yx with n := qv } ∧ Chg w.heap.size w7 (wr.setCell ⟨w.heap.size, 0, none⟩ (.string (str qv)))) := ⟨HHr.out.setN qv, HCr.out.set 0 _⟩
              have HSF : Hid (PD ((wr.setCell ⟨w.heap.size, 1, none⟩ (.string (str qv))).setCell ⟨w.heap.size, 4, none⟩ (.bool true)) w.heap.size { yx with f := qv, h := true } ∧ Chg w.heap.size w7 ((wr.setCell ⟨w.heap.size, 1, none⟩ (.string (str qv))).setCell ⟨w.heap.size, 4, none⟩ (.bool true))) := ⟨HHr.out.setF qv, (HCr.out.set 1 _).set 4 _⟩
              have hgw : g ≠ w.heap.size := by
                rcases HOr.out.2 with ⟨e, _⟩ | ⟨g', c', cur', e, hB', _⟩
                · cases e
                · injection e with e1 e2 e3
                  injection e1 with e1
                  injection e1 with e1
                  omega
              have hgw' : w.heap.size ≠ g := hgw.symm
              generalize str qv = SQ at *
              by_cases hN : qn = nameL
              · have HY : Hid (dfold x (ps.take (k + 1)) = ({ yx with n := qv }, true)) := (by rw [HF.out]; unfold dstep; rw [if_pos hN] : _ = _)
                have k1 : (str qn).toList = [110, 97, 109, 101] := by rw [hqn, hN]; rfl
                have k2 : ((str qn).toList == [110, 97, 109, 101]) = true := by rw [k1]; rfl
                have k4 : ((str qn).toList == [102, 105, 108, 101, 110, 97, 109, 101]) = false := by rw [k1]; decide
                clear hqn hN HF
                generalize str qn = SN at *
                go_wp2
                go_roundw
                case rel =>
                  refine ⟨k + 1, by omega, by go_num, by rw [HY.out], ?_, HSN.out.2⟩
                  rw [HY.out]
                  exact HSN.out.1
                case measure => simp [intOf]; omega
              · have k1 : ¬ (str qn).toList = [110, 97, 109, 101] := by rw [hqn]; exact hN
                have k2 : ((str qn).toList == [110, 97, 109, 101]) = false := by simpa using k1
                by_cases hF2 : qn = fileL
                · have HY : Hid (dfold x (ps.take (k + 1)) = ({ yx with f := qv, h := true }, yn)) := (by rw [HF.out]; unfold dstep; rw [if_neg hN, if_pos hF2] : _ = _)
                  have k3 : (str qn).toList = [102, 105, 108, 101, 110, 97, 109, 101] := by rw [hqn, hF2]; rfl
                  have k4 : ((str qn).toList == [102, 105, 108, 101, 110, 97, 109, 101]) = true := by rw [k3]; rfl
                  clear hqn hN HF hF2
                  generalize str qn = SN at *
                  go_wp2
                  go_roundw
                  case rel =>
                    refine ⟨k + 1, by omega, by go_num, by rw [HY.out], ?_, HSF.out.2⟩
                    rw [HY.out]
                    exact HSF.out.1
                  case measure => simp [intOf]; omega
                · have HY : Hid (dfold x (ps.take (k + 1)) = (yx, yn)) := (by rw [HF.out]; unfold dstep; rw [if_neg hN, if_neg hF2] : _ = _)
                  have k3 : ¬ (str qn).toList = [102, 105, 108, 101, 110, 97, 109, 101] := by rw [hqn]; exact hF2
                  have k4 : ((str qn).toList == [102, 105, 108, 101, 110, 97, 109, 101]) = false := by simpa using k3
                  clear hqn hN HF hF2
                  generalize str qn = SN at *
                  go_wp2
                  go_roundw
                  case rel =>
                    refine ⟨k + 1, by omega, by go_num, by rw [HY.out], ?_, HCr⟩
                    rw [HY.out]
                    exact HHr.out
                  case measure => simp [intOf]; omega
            · obtain rfl : k = ps.length := by omega
              have hlt' : ¬ ((ps.length : Nat) : Int) < ((ps.length : Nat) : Int) := by omega
              rw [List.take_length] at HHr
              rw [List.take_length]
              have hz7 : w6.heap.size ≤ w7.heap.size := HZ67.out
              generalize dfold x ps = Y at *
              obtain ⟨yx, yn⟩ := Y
              dsimp only at HHr HRi
              have HPwr : Hid (PD wr w.heap.size yx) := HHr
              have HZwr : Hid (PD wr (w.heap.size + 1) Pt.p0) := ((HCr.out.block _ (by omega) (by omega)).trans HZw7.out : _ = _)
              have HBwr : Hid (Below w.heap.size w wr) := HBw7.out.trans (HCr.out.below (Nat.le_refl _) (by omega))
              cases yn with
              | true =>
                have HQ : Hid (R = (0, yx, true, t)) := (by rw [HRi.out]; simp : R = _)
                clear HRi
                obtain ⟨e0, e1, e2, e3, e4⟩ := HPwr.out.cells
                obtain ⟨d0, d1, d2, d3, d4⟩ := HZwr.out.cells
                have z0 := HZwr.out.fz 0
                have z1 := HZwr.out.fz 1
                have z2 := HZwr.out.fz 2
                have z3 := HZwr.out.fz 3
                have z4 := HZwr.out.fz 4
                have hn1 : w.heap.size + 1 ≠ w.heap.size := by omega
                have hn2 : w.heap.size ≠ w.heap.size + 1 := by omega
                go_wp2
                refine bodyPost_ret (v := .tuple #[aggP yx, .bool true, .bool t, .int .i64 0]) (by simp [results, Tryz.results23, go_sem, aggP, d0, d1, d2, d3, d4, e0, e1, e2, e3, e4]; try rfl) rfl ?_
                rw [HQ.out]
                refine ⟨⟨yx, true, t, rfl, fun _ => rfl⟩, ?_⟩
                exact (((((HBwr.out.setCell (p := ⟨w.heap.size + 1, 0, none⟩) (by simp) _).setCell (p := ⟨w.heap.size + 1, 1, none⟩) (by simp) _).setCell (p := ⟨w.heap.size + 1, 2, none⟩) (by simp) _).setCell (p := ⟨w.heap.size + 1, 3, none⟩) (by simp) _).setCell (p := ⟨w.heap.size + 1, 4, none⟩) (by simp) _)
              | false =>
                have HQ : Hid (R = (152, yx, false, t)) := (by rw [HRi.out]; simp : R = _)
                clear HRi
                obtain ⟨e0, e1, e2, e3, e4⟩ := HPwr.out.cells
                obtain ⟨d0, d1, d2, d3, d4⟩ := HZwr.out.cells
                have z0 := HZwr.out.fz 0
                have z1 := HZwr.out.fz 1
                have z2 := HZwr.out.fz 2
                have z3 := HZwr.out.fz 3
                have z4 := HZwr.out.fz 4
                have hn1 : w.heap.size + 1 ≠ w.heap.size := by omega
                have hn2 : w.heap.size ≠ w.heap.size + 1 := by omega
                go_wp2
                refine bodyPost_ret (v := .tuple #[aggP yx, .bool false, .bool t, .int .i64 152]) (by simp [results, Tryz.results23, go_sem, aggP, d0, d1, d2, d3, d4, e0, e1, e2, e3, e4]; try rfl) rfl ?_
                rw [HQ.out]
                refine ⟨⟨yx, false, t, rfl, fun h => absurd h (by simp)⟩, ?_⟩
                exact (((((HBwr.out.setCell (p := ⟨w.heap.size + 1, 0, none⟩) (by simp) _).setCell (p := ⟨w.heap.size + 1, 1, none⟩) (by simp) _).setCell (p := ⟨w.heap.size + 1, 2, none⟩) (by simp) _).setCell (p := ⟨w.heap.size + 1, 3, none⟩) (by simp) _).setCell (p := ⟨w.heap.size + 1, 4, none⟩) (by simp) _)
      · have HQ : Hid (R = (0, x, d, t)) := (by rw [HRf.out, if_neg hcd, if_neg hct] : R = _)
        rw [decide_eq_false hcd]
        clear HRf hcd hct
        obtain ⟨e0, e1, e2, e3, e4⟩ := HPw6.out.cells
        obtain ⟨d0, d1, d2, d3, d4⟩ := HZw6.out.cells
        have z0 := HZw6.out.fz 0
        have z1 := HZw6.out.fz 1
        have z2 := HZw6.out.fz 2
        have z3 := HZw6.out.fz 3
        have z4 := HZw6.out.fz 4
        have hn1 : w.heap.size + 1 ≠ w.heap.size := by omega
        have hn2 : w.heap.size ≠ w.heap.size + 1 := by omega
        go_wp2
        refine bodyPost_ret (v := .tuple #[aggP x, .bool d, .bool t, .int .i64 0]) (by simp [results, Tryz.results23, go_sem, aggP, d0, d1, d2, d3, d4, e0, e1, e2, e3, e4]; try rfl) rfl ?_
        rw [HQ.out]
        refine ⟨⟨x, d, t, rfl, fun _ => rfl⟩, ?_⟩
        exact (((((HBw6.out.setCell (p := ⟨w.heap.size + 1, 0, none⟩) (by simp) _).setCell (p := ⟨w.heap.size + 1, 1, none⟩) (by simp) _).setCell (p := ⟨w.heap.size + 1, 2, none⟩) (by simp) _).setCell (p := ⟨w.heap.size + 1, 3, none⟩) (by simp) _).setCell (p := ⟨w.heap.size + 1, 4, none⟩) (by simp) _)
  · have HQ : Hid (R = (pe, x, d, t)) := (by rw [HRd.out, if_pos hpe] : R = _)
    have hp1 : (pe != 0) = true := by simpa using hpe
    clear HRd
    subst hw4
    have hfs2 : w.heap.size < w3.heap.size := by omega
    obtain ⟨e0, e1, e2, e3, e4⟩ := HPw3.out.cells
    obtain ⟨d0, d1, d2, d3, d4⟩ := HZw3.out.cells
    have z0 := HZw3.out.fz 0
    have z1 := HZw3.out.fz 1
    have z2 := HZw3.out.fz 2
    have z3 := HZw3.out.fz 3
    have z4 := HZw3.out.fz 4
    have hn1 : w.heap.size + 1 ≠ w.heap.size := by omega
    have hn2 : w.heap.size ≠ w.heap.size + 1 := by omega
    go_wp2
    refine bodyPost_ret (v := .tuple #[aggP x, .bool d, .bool t, .int .i64 pe]) (by simp [results, Tryz.results23, go_sem, aggP, hfs, hfs2, set_size, d0, d1, d2, d3, d4, e0, e1, e2, e3, e4]; try rfl) rfl ?_
    rw [HQ.out]
    refine ⟨⟨x, d, t, rfl, fun h => absurd h hpe⟩, ?_⟩
    exact ((((((HBw3.out.setCell (p := ⟨w.heap.size + 1, 0, none⟩) (by simp) _).setCell (p := ⟨w.heap.size + 1, 1, none⟩) (by simp) _).setCell (p := ⟨w.heap.size + 1, 2, none⟩) (by simp) _).setCell (p := ⟨w.heap.size + 1, 3, none⟩) (by simp) _).setCell (p := ⟨w.heap.size + 1, 4, none⟩) (by simp) _).alloc (by simp only [set_size]; omega) _)

end Sr
end Go.Proofs.YtlnlhhobmgiceaaGreatDoor
