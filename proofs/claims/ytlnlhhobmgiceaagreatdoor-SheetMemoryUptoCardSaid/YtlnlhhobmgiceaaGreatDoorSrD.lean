/-
  sheet: head's dispose.
-/
import Derived.Test.YtlnlhhobmgiceaaGreatDoorMgM
set_option linter.unusedVariables false
set_option linter.unusedSimpArgs false
namespace Go.Proofs.YtlnlhhobmgiceaaGreatDoor
open Go.RowKit Go.Shelf
namespace Sr
open Oc Tg Mf

def nameL : List UInt8 := [110, 97, 109, 101]
def fileL : List UInt8 := [102, 105, 108, 101, 110, 97, 109, 101]
def formL : List UInt8 := [102, 111, 114, 109, 45, 100, 97, 116, 97]
def dstep (y : Pt.P5 × Bool) (q : Prm) : Pt.P5 × Bool := if q.1 = nameL then ({ y.1 with n := q.2.1 }, true) else if q.1 = fileL then ({ y.1 with f := q.2.1, h := true }, y.2) else y
def dfold (x : Pt.P5) (ps : List Prm) : Pt.P5 × Bool := ps.foldl dstep (x, false)
/-- What dispose does: the error, the head. -/
def dspP (v : List UInt8) (x : Pt.P5) (d : Bool) : Int × Pt.P5 × Bool :=
  if d = true ∨ (Ds.disR v).2.2 ≠ 0 ∨ (Ds.disR v).1 ≠ formL then (152, x, d)
  else if (dfold x (Ds.disR v).2.1).2 = true then (0, (dfold x (Ds.disR v).2.1).1, true) else (152, (dfold x (Ds.disR v).2.1).1, d)
theorem dfold_take (x : Pt.P5) (ps : List Prm) (k : Nat) (h : k < ps.length) : dfold x (ps.take (k + 1)) = dstep (dfold x (ps.take k)) (nth ps k) := by
  unfold dfold
  rw [List.take_add_one, List.getElem?_eq_getElem h, List.foldl_append]
  unfold nth
  rw [List.getD_eq_getElem?_getD, List.getElem?_eq_getElem h]
  rfl
theorem OwnP.chg {T B b : Nat} {v : Value} {ps : List Prm} {w w' : World} (h : OwnP T B v ps w) (c : Chg b w w') (hb : b < B) : OwnP T B v ps w' := by
  refine ⟨h.1, ?_⟩
  rcases h.2 with hn | ⟨g, cap, cur, rfl, hB, hg, rest⟩
  · exact .inl hn
  · refine .inr ⟨g, cap, cur, rfl, hB, ?_, rest⟩
    rw [c.block g (Array.getElem?_eq_some_iff.1 hg).1 (by omega)]
    exact hg
theorem OwnP.len {T B : Nat} {v : Value} {ps : List Prm} {w : World} (h : OwnP T B v ps w) : ps.length ≤ 9223372036854775807 := by
  rcases h.2 with ⟨_, hn⟩ | ⟨g, cap, cur, rfl, hB, hg, hn, hm, _⟩
  · omega
  · unfold maxLen at hm; omega
theorem Hd.chg {w w' : World} {b g : Nat} {x : Pt.P5} {d t : Bool} (h : Hd w b x d t) (c : Chg g w w') (hn : b ≠ g) : Hd w' b x d t := by
  unfold Hd at *
  rw [c.block b (Array.getElem?_eq_some_iff.1 h).1 hn]
  exact h
theorem setN {w : World} {b : Nat} {x : Pt.P5} {d t : Bool} (h : Hd w b x d t) (v : List UInt8) : Hd (w.setCell ⟨b, 0, none⟩ (.string (str v))) b { x with n := v } d t := by
  have z1 := heap_setCell_same w b 0 _ _ (.string (str v)) h
  unfold Hd
  rw [z1]
  rfl
theorem setF {w : World} {b : Nat} {x : Pt.P5} {d t : Bool} (h : Hd w b x d t) (v : List UInt8) : Hd ((w.setCell ⟨b, 1, none⟩ (.string (str v))).setCell ⟨b, 4, none⟩ (.bool true)) b { x with f := v, h := true } d t := by
  have z1 := heap_setCell_same w b 1 _ _ (.string (str v)) h
  have z2 := heap_setCell_same _ b 4 _ _ (.bool true) z1
  unfold Hd
  rw [z2]
  rfl
theorem setD {w : World} {b : Nat} {x : Pt.P5} {d t : Bool} (h : Hd w b x d t) : Hd (w.setCell ⟨b, 5, none⟩ (.bool true)) b x true t := by
  have z1 := heap_setCell_same w b 5 _ _ (.bool true) h
  unfold Hd
  rw [z1]
  rfl
theorem box3 {W : World} {b T : Nat} {x y z : Value} (h : W.heap[b]? = some (.cells #[x, y, z] T (0, 0))) : W.cell? ⟨b, 0, none⟩ = some x ∧ W.cell? ⟨b, 1, none⟩ = some y ∧ W.cell? ⟨b, 2, none⟩ = some z := by
  have : ∀ k : Nat, W.cell? ⟨b, k, none⟩ = #[x, y, z][k]? := fun k => by simp [World.cell?, h]
  exact ⟨by simpa using this 0, by simpa using this 1, by simpa using this 2⟩

set_option maxRecDepth 100000 in
set_option maxHeartbeats 4000000 in
theorem dispose_any (b : Nat) (x : Pt.P5) (d t : Bool) (v : List UInt8) (hv : v.length ≤ 16777216) (w : World) (hH : Hd w b x d t) (ht : Tab w) (hm : ML w) :
    Calls Tryz.prog 136 #[.pointer (some ⟨b, 0, none⟩), .string (str v)] w fun e w' => e = .returned (.int .i64 (dspP v x d).1) ∧ Hd w' b (dspP v x d).2.1 (dspP v x d).2.2 t ∧ Chg b w w' := by
  have hbl : b < w.heap.size := (Array.getElem?_eq_some_iff.1 hH).1
  have HH : Hid (Hd w b x d t) := hH
  have HDs := Ds.Disposition_any (str v) (by rw [str_size]; exact hv) w ht hm
  rw [str_list] at HDs
  have HRd : Hid (dspP v x d = _) := (by unfold dspP; exact rfl)
  generalize dspP v x d = R at *
  generalize Ds.disR v = D at *
  obtain ⟨wd, ps, er⟩ := D
  dsimp only at HDs HRd
  have HD' : Hid (Calls _ _ _ w _) := HDs
  clear HDs hH ht hm
  have hW : (str wd).toList = wd := by rw [ByteArray.toList_eq, str_list]
  generalize str v = SV at *
  go_enter Tryz.func136, Tryz.ntmps136
  go_wp2_with fail
  refine HD'.out.mono ?_
  rintro e w1 ⟨lv, rfl, ho1, hb1⟩
  have HH1 : Hid (Hd w1 b x d t) := HH.out.below hb1
  have HC1 : Hid (Chg b w w1) := Chg.of b hb1
  have HO1 : Hid (OwnP 47 w.heap.size lv ps w1) := ho1
  have hpl := OwnP.len ho1
  obtain ⟨la, lc, rfl, _⟩ := ho1.rd
  clear ho1 hb1 HD'
  obtain ⟨c0, c1, c2, c3, c4, c5, c6⟩ := HH1.out.cells
  generalize str wd = SW at *
  by_cases hbad : d = true ∨ er ≠ 0 ∨ wd ≠ formL
  · have HQ : Hid (R = (152, x, d)) := (by rw [HRd.out, if_pos hbad] : R = _)
    clear HRd
    cases d with
    | true =>
      clear hbad hW
      go_wp2
      go_ret
      rw [HQ.out]
      exact ⟨rfl, HH1.out, HC1.out⟩
    | false =>
      by_cases he : er = 0
      · subst he
        have hwf : wd ≠ formL := by simpa using hbad
        have h1 : ¬ SW.toList = [102, 111, 114, 109, 45, 100, 97, 116, 97] := by rw [hW]; exact hwf
        have h2 : (SW.toList == [102, 111, 114, 109, 45, 100, 97, 116, 97]) = false := by simpa using h1
        clear hbad hW hwf
        go_wp2
        go_ret
        rw [HQ.out]
        exact ⟨rfl, HH1.out, HC1.out⟩
      · have h1 : (er != 0) = true := by simpa using he
        clear hbad hW
        go_wp2
        go_ret
        rw [HQ.out]
        exact ⟨rfl, HH1.out, HC1.out⟩
  · have HRe : Hid (R = if (dfold x ps).2 = true then (0, (dfold x ps).1, true) else (152, (dfold x ps).1, d)) := (by rw [HRd.out, if_neg hbad] : R = _)
    have hdf : d = false := by cases d with
      | false => rfl
      | true => exact (hbad (.inl rfl)).elim
    have hef : er = 0 := Classical.byContradiction fun e => hbad (.inr (.inl e))
    have hwf : wd = formL := Classical.byContradiction fun e => hbad (.inr (.inr e))
    subst hdf hef
    have h1 : SW.toList = [102, 111, 114, 109, 45, 100, 97, 116, 97] := by rw [hW, hwf]; rfl
    have h2 : (SW.toList == [102, 111, 114, 109, 45, 100, 97, 116, 97]) = true := by rw [h1]; rfl
    clear hbad hW hwf HRd
    go_wp2_with fail
    go_loopw [8, 31] (fun nv i wr => ∃ k : Nat, k ≤ ps.length ∧ i = .int .i64 (k : Int) ∧ nv = .bool (dfold x (ps.take k)).2 ∧ Hid (Hd wr b (dfold x (ps.take k)).1 false t) ∧ Hid (Chg b w1 wr)) (fun _ i _ => ps.length - (intOf i).toNat)
    case atStart => exact ⟨0, Nat.zero_le _, rfl, rfl, HH1, Chg.refl _ _⟩
    case round =>
      obtain ⟨k, hk, rfl, rfl, HHr, HCr⟩ := hrel
      by_cases hlt : k < ps.length
      · have hlt' : ((k : Nat) : Int) < ((ps.length : Nat) : Int) := by omega
        have HOr : Hid (OwnP 47 w.heap.size (.slice la ps.length lc) ps wr) := OwnP.chg HO1.out HCr.out hbl
        obtain ⟨la', lc', e1, hcs⟩ := HOr.out.rd
        injection e1 with e11 e13 e12
        clear e13
        subst e11 e12
        rcases hcs with h | ⟨g, off, rfl, hlc, hcell⟩
        · rw [h] at hlt; simp at hlt
        obtain ⟨p0, p1, p2⟩ := hcell k hlt
        have HF : Hid (dfold x (ps.take (k + 1)) = dstep (dfold x (ps.take k)) (nth ps k)) := dfold_take x ps k hlt
        clear hcell
        generalize dfold x (ps.take k) = Y at *
        generalize nth ps k = q at *
        obtain ⟨qn, qv, qh⟩ := q
        obtain ⟨yx, yn⟩ := Y
        dsimp only at p0 p1 p2 HHr
        have hqn : (str qn).toList = qn := by rw [ByteArray.toList_eq, str_list]
        obtain ⟨w3, hw3⟩ : ∃ w3, w3 = wr.alloc (.cells #[.string (str qn), .string (str qv), .bool qh] 47) := ⟨_, rfl⟩
        have HX3 : Hid (w3.heap[wr.heap.size]? = some (.cells #[.string (str qn), .string (str qv), .bool qh] 47 (0, 0))) := (by rw [hw3]; exact heap_alloc_new _ _ : _ = _)
        have HB3 : Hid (Below wr.heap.size wr w3) := (by rw [hw3]; exact (Below.refl _ wr).alloc (Nat.le_refl _) _ : Below _ _ _)
        have HH3 : Hid (Hd w3 b yx false t) := HHr.out.below HB3.out
        have HC3 : Hid (Chg b w1 w3) := HCr.out.bel HB3.out
        obtain ⟨r0, r1, r2⟩ := box3 HX3.out
        have fN := HH3.out.f 0
        have fF := HH3.out.f 1
        have fB := HH3.out.f 4
        obtain ⟨g0, g1, g2, g3, g4, g5, g6⟩ := HH3.out.cells
        have HSN : Hid (Hd (w3.setCell ⟨b, 0, none⟩ (.string (str qv))) b { yx with n := qv } false t ∧ Chg b w1 (w3.setCell ⟨b, 0, none⟩ (.string (str qv)))) := ⟨setN HH3.out qv, HC3.out.set 0 _⟩
        have HSF : Hid (Hd ((w3.setCell ⟨b, 1, none⟩ (.string (str qv))).setCell ⟨b, 4, none⟩ (.bool true)) b { yx with f := qv, h := true } false t ∧ Chg b w1 ((w3.setCell ⟨b, 1, none⟩ (.string (str qv))).setCell ⟨b, 4, none⟩ (.bool true))) := ⟨setF HH3.out qv, (HC3.out.set 1 _).set 4 _⟩
        have hwb : wr.heap.size ≠ b := by have := HCr.out.size; have := (Array.getElem?_eq_some_iff.1 HH1.out).1; omega
        generalize str qv = SQ at *
        by_cases hN : qn = nameL
        · have HY : Hid (dfold x (ps.take (k + 1)) = ({ yx with n := qv }, true)) := (by rw [HF.out]; unfold dstep; rw [if_pos hN] : _ = _)
          have k1 : (str qn).toList = [110, 97, 109, 101] := by rw [hqn, hN]; rfl
          have k2 : ((str qn).toList == [110, 97, 109, 101]) = true := by rw [k1]; rfl
          clear hqn hN HF
          generalize str qn = SN at *
          subst hw3
          go_wp2
          go_roundw
          case rel =>
            refine ⟨k + 1, by omega, by go_num, by rw [HY.out], ?_, HSN.out.2⟩
            rw [HY.out]
            exact HSN.out.1
          case measure => simp [intOf]; omega
        · have k1 : ¬ (str qn).toList = [110, 97, 109, 101] := by rw [hqn]; exact hN
          have k2 : ((str qn).toList == [110, 97, 109, 101]) = false := by simpa using k1
          by_cases hF2 : qn = fileL
          · have HY : Hid (dfold x (ps.take (k + 1)) = ({ yx with f := qv, h := true }, yn)) := (by rw [HF.out]; unfold dstep; rw [if_neg hN, if_pos hF2] : _ = _)
            have k3 : (str qn).toList = [102, 105, 108, 101, 110, 97, 109, 101] := by rw [hqn, hF2]; rfl
            have k4 : ((str qn).toList == [102, 105, 108, 101, 110, 97, 109, 101]) = true := by rw [k3]; rfl
            clear hqn hN HF hF2
            generalize str qn = SN at *
            subst hw3
            go_wp2
            go_roundw
            case rel =>
              refine ⟨k + 1, by omega, by go_num, by rw [HY.out], ?_, HSF.out.2⟩
              rw [HY.out]
              exact HSF.out.1
            case measure => simp [intOf]; omega
          · have HY : Hid (dfold x (ps.take (k + 1)) = (yx, yn)) := (by rw [HF.out]; unfold dstep; rw [if_neg hN, if_neg hF2] : _ = _)
            have k3 : ¬ (str qn).toList = [102, 105, 108, 101, 110, 97, 109, 101] := by rw [hqn]; exact hF2
            have k4 : ((str qn).toList == [102, 105, 108, 101, 110, 97, 109, 101]) = false := by simpa using k3
            clear hqn hN HF hF2
            generalize str qn = SN at *
            subst hw3
            go_wp2
            go_roundw
            case rel =>
              refine ⟨k + 1, by omega, by go_num, by rw [HY.out], ?_, HC3.out⟩
              rw [HY.out]
              exact HH3.out
            case measure => simp [intOf]; omega
      · obtain rfl : k = ps.length := by omega
        have hlt' : ¬ ((ps.length : Nat) : Int) < ((ps.length : Nat) : Int) := by omega
        rw [List.take_length] at HHr
        rw [List.take_length]
        generalize dfold x ps = Y at *
        obtain ⟨yx, yn⟩ := Y
        dsimp only at HHr HRe
        have HCz : Hid (Chg b w wr) := HC1.out.trans HCr.out
        have fD := HHr.out.f 5
        obtain ⟨g0, g1, g2, g3, g4, g5, g6⟩ := HHr.out.cells
        have HSD : Hid (Hd (wr.setCell ⟨b, 5, none⟩ (.bool true)) b yx true t ∧ Chg b w (wr.setCell ⟨b, 5, none⟩ (.bool true))) := ⟨setD HHr.out, HCz.out.set 5 _⟩
        cases yn with
        | true =>
          have HQ : Hid (R = (0, yx, true)) := (by rw [HRe.out]; simp : R = _)
          go_wp2
          go_ret
          rw [HQ.out]
          exact ⟨rfl, HSD.out.1, HSD.out.2⟩
        | false =>
          have HQ : Hid (R = (152, yx, false)) := (by rw [HRe.out]; simp : R = _)
          go_wp2
          go_ret
          rw [HQ.out]
          exact ⟨rfl, HHr.out, HCz.out⟩

end Sr
end Go.Proofs.YtlnlhhobmgiceaaGreatDoor
