/- Several texts as one. -/
import Derived.Test.YthfckgdaencagaaGreatDoorMgK
import Derived.Laws.AppendOwnNone
import Derived.Test.YthfckgdaencagaaGreatDoorMgA1
import Derived.Test.YthfckgdaencagaaGreatDoorMgP
import Derived.Test.YthfckgdaencagaaGreatDoorMgO
/-
  A slice of texts appended to one of the call's own.
-/
set_option linter.unusedVariables false
set_option linter.unusedSimpArgs false
namespace Go.Proofs.YthfckgdaencagaaGreatDoor
open Go.RowKit Go.Shelf
namespace Oc

theorem wpList_wanted {P : Program} {ops : Array Oper} {rest : List Oper} {o : Oper} {a : Act} {w : World} {Q : Exit → Act → World → Prop} (hw : Region.wanted o (yielded ops a.tmps) = true)
    (h : o.wp P a w (wpList P ops Q rest) Q) : wpList P ops Q (o :: rest) a w := by
  rw [wpList, if_pos hw]
  exact .inl h

theorem wp_appR {ops : Array Oper} {rest : List Oper} {o : Oper} {a : Act} {W : World} {Q : Exit → Act → World → Prop} (hw : Region.wanted o (yielded ops a.tmps) = true) (s x : Operand)
    (ho : o.op = .call { callee := .builtin .append, args := #[s, x], argTypes := #[22, 22] }) (B : Nat) (v y : Value) (t u : List (List UInt8))
    (hs : a.eval s = v) (hown : OwnS B v t W) (hx : a.eval x = y) (hy : RdS y u W) (hnil : u = [] → y = .slice none 0 0 ∨ ∃ g c, y = .slice (some g) 0 c) (hlen : t.length + u.length ≤ 4294967296) (hB : B ≤ W.heap.size)
    (h : ∀ v' w', OwnS B v' (t ++ u) w' → Below B W w' → wpList Tryz.prog ops Q rest (a.put o.dst v') w') : wpList Tryz.prog ops Q (o :: rest) a W := by
  obtain ⟨i0, hi, hz0, hz1, hz2⟩ := infoS
  refine wpList_wanted hw ?_
  have own' : ∀ (ad : Addr) (c : Nat), y = .slice (some ad) u.length c → (∀ j, j < u.length → W.cell? (ad.add j) = some (.string (str (u.getD j [])))) → o.wp Tryz.prog a W (wpList Tryz.prog ops Q rest) Q := by
    intro ad c ey hcell
    refine wp_append_own W s x 22 ho B 9 i0 (.string ⟨#[]⟩) 1 16 Tryz.underlying22 hi hz0 hz1 hz2 rfl (by decide) v t.length _ hs hown ad u.length c (encS u) (hx.trans ey) (by simp [encS]) ?_ ?_ ?_ ?_ hB ?_
    · intro j z hj
      have hjl : j < u.length := by
        have := (List.getElem?_eq_some_iff.1 hj).1
        simpa [encS] using this
      rw [hcell j hjl]
      unfold encS at hj
      rw [List.getElem?_map, List.getElem?_eq_getElem hjl] at hj
      rw [List.getD_eq_getElem?_getD, List.getElem?_eq_getElem hjl]
      simpa using hj
    · intro z hz
      unfold encS at hz
      obtain ⟨l, _, rfl⟩ := List.mem_map.1 hz
      rfl
    · unfold maxLen; omega
    · omega
    · intro v' w' h1 h2 _
      refine h v' w' ?_ ((Below.refl B W).grown h2 hB (fun k hk => (World.ownsRow.lt hown k hk).1))
      unfold OwnS
      rw [List.length_append]
      simpa [encS] using h1
  obtain ⟨a2, c2, rfl, hr⟩ := hy
  by_cases hu : u = []
  · subst hu
    rcases hnil rfl with e | ⟨g, c, e⟩
    · have hrun := run_append_owned_none (P := Tryz.prog) (w := W) B 22 o.type 9 i0 1 Tryz.underlying22 hi v t.length _ hown
      have hx' : a.eval x = .slice none 0 0 := hx.trans e
      unfold Oper.wp
      simp [execOp, ho, resolve, invoke, builtin, hs, hx', hrun, Result.andThen]
      have := h v W (by simpa using hown) (Below.refl _ _)
      exact this
    · exact own' g c e (fun j hj => by simp at hj)
  · rcases hr with hr | ⟨g, o', rfl, hc, hcell⟩
    · exact absurd hr hu
    · refine own' ⟨g, o', none⟩ c2 rfl (fun j hj => ?_)
      have ea : Addr.add ⟨g, o', none⟩ j = ⟨g, o' + j, none⟩ := by unfold Addr.add; split <;> simp_all
      rw [ea]
      exact hcell j hj
theorem OwnS.nilish {B : Nat} {v : Value} {t : List (List UInt8)} {w : World} (h : OwnS B v t w) : t = [] → v = .slice none 0 0 ∨ ∃ g c, v = .slice (some g) 0 c := by
  intro e
  subst e
  rcases h.2 with ⟨rfl, _⟩ | ⟨g, cap, cur, rfl, _⟩
  · exact .inl rfl
  · exact .inr ⟨_, _, rfl⟩

theorem listR_split {a b : List UInt8} (ha : (listR a).2 = 0) (hb : (listR b).2 = 0) : listR (a ++ 44 :: b) = ((listR a).1 ++ (listR b).1, 0) := by
  unfold listR at *
  cases h1 : lst [] a with
  | none => rw [h1] at ha; cases ha
  | some t =>
    cases h2 : lst [] b with
    | none => rw [h2] at hb; cases hb
    | some u =>
      rw [lst_split a.length a [] b t (Nat.le_refl _) h1, h2]
      rfl

end Oc
end Go.Proofs.YthfckgdaencagaaGreatDoor

/-
  The document's weight, Weights; the law's sameWeights.
-/
set_option linter.unusedVariables false
set_option linter.unusedSimpArgs false
namespace Go.Proofs.YthfckgdaencagaaGreatDoor
open Go.RowKit Go.Shelf
namespace Ac
open Oc Tg

theorem infoQ2 : (Tryz.prog.info? 84).map (fun i => (i.zero, i.size, i.bytes)) = some (some (.agg #[.string ⟨#[]⟩, .string ⟨#[]⟩, .bool false]), 3, 40) := by kernel_rfl
theorem take_nthP (t : List Prm) (k : Nat) (h : k < t.length) : t.take (k + 1) = t.take k ++ [nth t k] := by
  unfold nth
  rw [List.take_add_one, List.getElem?_eq_getElem h, List.getD_eq_getElem?_getD, List.getElem?_eq_getElem h]; rfl
/-- Is its name q, in either case? -/
def isQr (p : Prm) : Bool := decide (lower p.1 = [113])
/-- How many stand ahead of the first q. -/
def rAt (ps : List Prm) : Nat := match ps.findIdx? isQr with | some k => k | none => ps.length
theorem low_q (p : Prm) : isQ (lowP p) = isQr p := rfl
theorem rfind (ps : List Prm) : (ps.map lowP).find? isQ = (ps.find? isQr).map lowP := by
  rw [List.find?_map]
  rfl
theorem rwq (ps : List Prm) : wq (ps.map lowP) = match ps.find? isQr with | none => (1000, 0) | some p => qual p.2.1 := by
  unfold wq
  rw [rfind]
  cases ps.find? isQr <;> rfl
theorem rwq_none {ps : List Prm} (h : ∀ j, j < ps.length → isQr (nth ps j) = false) : wq (ps.map lowP) = (1000, 0) := by
  rw [rwq]
  have : ps.find? isQr = none := by
    rw [List.find?_eq_none]
    intro x hx
    obtain ⟨j, hj, rfl⟩ := List.mem_iff_getElem.1 hx
    have := h j hj
    unfold nth at this
    rw [List.getD_eq_getElem?_getD, List.getElem?_eq_getElem hj] at this
    simpa using this
  rw [this]
theorem rwq_at {ps : List Prm} {k : Nat} (hk : k < ps.length) (h1 : isQr (nth ps k) = true) (h : ∀ j, j < k → isQr (nth ps j) = false) : wq (ps.map lowP) = qual (nth ps k).2.1 := by
  rw [rwq]
  have e : nth ps k = ps[k] := by unfold nth; rw [List.getD_eq_getElem?_getD, List.getElem?_eq_getElem hk]; rfl
  have : ps.find? isQr = some ps[k] := by
    rw [List.find?_eq_some_iff_getElem]
    refine ⟨by rw [← e]; exact h1, k, hk, rfl, fun j hj => ?_⟩
    have := h j hj
    unfold nth at this
    rw [List.getD_eq_getElem?_getD, List.getElem?_eq_getElem (by omega)] at this
    simpa using this
  rw [this, e]

set_option maxRecDepth 100000 in
set_option maxHeartbeats 4000000 in
theorem rweight_any (v : Value) (ps : List Prm) (hM : EachP 1048576 ps) (hB : Bare ps) (hl : ps.length ≤ 16777216) (w : World) (hrd : RdP v ps w) :
    Calls Tryz.prog 15 #[v] w fun e w' => ∃ u, e = .returned (.tuple #[u, .int .i64 (wq (ps.map lowP)).1, .int .i64 (wq (ps.map lowP)).2]) ∧ Below w.heap.size w w' := by
  have HR : Hid (RdP v ps w) := hrd
  have HM : Hid (EachP 1048576 ps) := hM
  have HBa : Hid (Bare ps) := hB
  obtain ⟨a, c, rfl, _⟩ := hrd
  clear hM hB
  go_enter Tryz.func15, Tryz.ntmps15
  go_wp2
  go_loopw [5, 6] (fun ov iv wr => ∃ k : Nat, k ≤ ps.length ∧ iv = .int .i64 k ∧ Hid (∀ j, j < k → isQr (nth ps j) = false) ∧ Hid (OwnP 84 w.heap.size ov (ps.take k) wr) ∧ Hid (Below w.heap.size w wr)) (fun _ iv _ => ps.length - (intOf iv).toNat)
  case atStart => exact ⟨0, Nat.zero_le _, rfl, (fun j hj => by omega : ∀ j, j < 0 → _), ownP_empty _ w (Nat.le_refl _), (Below.refl _ w).alloc (Nat.le_refl _) _⟩
  case round =>
    obtain ⟨k, hk, rfl, hall, hown, hbl⟩ := hrel
    have hsz := hbl.out.size
    by_cases hlt : k < ps.length
    · obtain ⟨a', c', e', hcs⟩ := HR.out.below hbl.out
      injection e' with e1 _ e2
      subst e1 e2
      rcases hcs with h | ⟨g, o, rfl, hlc, hcell⟩
      · rw [h] at hlt; simp at hlt
      obtain ⟨p0, p1, p2⟩ := hcell k hlt
      have hgw : g < wr.heap.size := World.block_lt_of_cell? wr _ p0
      clear hcell
      have hx := HM.out.at k hlt
      have HLw : Hid (∀ w, Calls Tryz.prog 33 #[.string (str (nth ps k).1)] w fun e w' => e = .returned (.string (str (lower (nth ps k).1))) ∧ Below w.heap.size w w') := fun w => by
        have := rLower_any (str (nth ps k).1) (by rw [str_size]; unfold maxLen; omega) w
        unfold lowS at this
        rw [str_list] at this
        exact this
      have HQl : Hid (∀ w, Calls Tryz.prog 34 #[.string (str (nth ps k).2.1)] w fun e w' => e = .returned (.tuple #[.int .i64 (qual (nth ps k).2.1).1, .int .i64 (qual (nth ps k).2.1).2]) ∧ w' = w) := fun w => by
        have := rQuality_any (str (nth ps k).2.1) (by rw [str_size]; unfold maxLen; omega) w
        rw [str_list] at this
        exact this
      have HEq : Hid (((str (lower (nth ps k).1)).toList == [113]) = isQr (nth ps k)) := by
        show _ = _
        have h := veq (lower (nth ps k).1) [113]
        have e : (str [113]).toList = [113] := by rw [Lib.toList_data]; rfl
        rw [e] at h
        exact h
      have HHit : Hid (isQr (nth ps k) = true → wq (ps.map lowP) = qual (nth ps k).2.1) := (fun h => rwq_at hlt h hall.out : _ → wq _ = _)
      have HNo : Hid (isQr (nth ps k) = true → (nth ps k).2.2 = false → qual (nth ps k).2.1 = (0, 71)) := (fun _ h => by
        have hm : nth ps k ∈ ps := by
          unfold nth
          rw [List.getD_eq_getElem?_getD, List.getElem?_eq_getElem hlt]
          exact List.getElem_mem hlt
        rw [HBa.out _ hm h]
        exact qual_nil : _ → _ → qual _ = _)
      have HNext : Hid (isQr (nth ps k) = false → ∀ j, j < k + 1 → isQr (nth ps j) = false) := (fun h j hj => by
        by_cases hjk : j = k
        · subst hjk; exact h
        · exact hall.out j (by omega) : _ → ∀ j, _)
      have HTk : Hid (ps.take (k + 1) = ps.take k ++ [nth ps k]) := take_nthP ps k hlt
      have hlk : (ps.take k).length + 1 ≤ 2147483648 := by rw [List.length_take]; omega
      generalize qual (nth ps k).2.1 = QL at *
      obtain ⟨q1, q2⟩ := QL
      dsimp only at HQl
      generalize isQr (nth ps k) = isq at *
      generalize nth ps k = p at *
      obtain ⟨pn, pv, pb⟩ := p
      dsimp only at p0 p1 p2 HLw HQl HEq HNo
      generalize str (lower pn) = LN at *
      generalize hn : str pn = n at p0 HLw
      generalize hv : str pv = vv at p1 HQl
      have HNe : Hid (n = str pn) := hn.symm
      have HVe : Hid (vv = str pv) := hv.symm
      clear hn hv hx
      go_wp2_with fail
      refine (HLw.out _).mono ?_
      rintro e w5 ⟨rfl, hb5⟩
      have d0 := (hb5.cell (p := ⟨g, o + k * 3, none⟩) hgw).trans p0
      have d1 := (hb5.cell (p := ⟨g, o + k * 3 + 1, none⟩) hgw).trans p1
      have d2 := (hb5.cell (p := ⟨g, o + k * 3 + 2, none⟩) hgw).trans p2
      have HB5 : Hid (Below w.heap.size w w5) := bel_trans hbl.out hb5
      have HO5 : Hid (OwnP 84 w.heap.size _ (ps.take k) w5) := hown.out.below hb5
      have hz5 := HB5.out.size
      clear hb5 p0 p1 p2
      cases isq with
      | true =>
        have hq := HEq.out
        have HH : Hid (wq (ps.map lowP) = (q1, q2)) := (by first | exact HHit.out rfl | exact HHit.out trivial : wq (ps.map lowP) = (q1, q2))
        cases pb with
        | false =>
          have HH2 : Hid ((q1, q2) = ((0 : Int), (71 : Int))) := (by first | exact HNo.out rfl rfl | exact HNo.out trivial trivial | exact HNo.out trivial rfl : (q1, q2) = ((0 : Int), (71 : Int)))
          go_wp2
          go_ret3
          rw [HH.out, HH2.out]
          exact ⟨_, rfl, HB5.out⟩
        | true =>
          go_wp2_with fail
          refine (HQl.out _).mono ?_
          rintro e w6 ⟨rfl, hw6⟩
          rw [hw6]
          clear hw6
          go_wp2
          go_ret3
          rw [HH.out]
          exact ⟨_, rfl, HB5.out⟩
      | false =>
        have hq := HEq.out
        have HN2 : Hid (∀ j, j < k + 1 → isQr (nth ps j) = false) := (by first | exact HNext.out rfl | exact HNext.out trivial : ∀ j, j < k + 1 → isQr (nth ps j) = false)
        go_wp2_with (at_builtin; go_must (refine wp_appP 84 38 infoQ2 Tryz.underlying38 rfl (.tmp 42) (.tmp 47) rfl w.heap.size _ (ps.take k) _ (pn, pv, pb) _ _ HNe.out HVe.out _ rfl (by simp [Act.eval, Act.put]) HO5.out _ (by simp [Act.eval, Act.put]) rfl hlk hz5 ?_; intro v7 w7 hown7 hb7))
        have HO7 : Hid (OwnP 84 w.heap.size v7 (ps.take (k + 1)) w7) := (by rw [HTk.out]; exact hown7 : OwnP _ _ _ _ _)
        have HB7 : Hid (Below w.heap.size w w7) := HB5.out.trans hb7
        clear hown7 hb7
        go_wp2
        go_roundw
        case rel => exact ⟨k + 1, by omega, by go_num, HN2, HO7, HB7⟩
        case measure => simp [intOf]; omega
    · have HE : Hid (wq (ps.map lowP) = (1000, 0)) := rwq_none (fun j hj => hall.out j (by omega))
      go_wp2
      go_ret3
      rw [HE.out]
      exact ⟨_, rfl, hbl.out⟩

theorem wt_ref (l : List UInt8) : wt l = if 0 < tokLen l ∧ (paramsR (l.drop (tokLen l))).2.2 = 0 ∧ (tokLen l : Int) + (paramsR (l.drop (tokLen l))).2.1 = l.length then (if (wq ((paramsR (l.drop (tokLen l))).1.map lowP)).2 = 0 then ((lower (l.take (tokLen l)), (wq ((paramsR (l.drop (tokLen l))).1.map lowP)).1), 0) else (([], 0), (wq ((paramsR (l.drop (tokLen l))).1.map lowP)).2)) else (([], 0), 10) := by
  unfold wt
  rw [wrd_eq]
  unfold wrdR full
  have hl := tokLen_le l
  have e : (0 < tokLen l ∧ (paramsR (l.drop (tokLen l))).2.2 = 0 ∧ (paramsR (l.drop (tokLen l))).2.1 = ((l.drop (tokLen l)).length : Int)) ↔ (0 < tokLen l ∧ (paramsR (l.drop (tokLen l))).2.2 = 0 ∧ (tokLen l : Int) + (paramsR (l.drop (tokLen l))).2.1 = l.length) := by
    rw [List.length_drop]
    constructor
    · rintro ⟨a, b, c⟩; exact ⟨a, b, by omega⟩
    · rintro ⟨a, b, c⟩; exact ⟨a, b, by omega⟩
  by_cases hc : 0 < tokLen l ∧ (paramsR (l.drop (tokLen l))).2.2 = 0 ∧ (paramsR (l.drop (tokLen l))).2.1 = ((l.drop (tokLen l)).length : Int)
  · rw [if_pos hc, if_pos (e.1 hc)]
    rfl
  · rw [if_neg hc, if_neg (fun h => hc (e.2 h))]
theorem tokAt (l : List UInt8) (k : Nat) (h : k < tokLen l) : tokB (l.getD k 0) = true := by
  have hl := tokLen_le l
  refine tw_take (p := tokB) l _ ?_
  have hk : k < (l.take (tokLen l)).length := by rw [List.length_take]; omega
  have e : (l.take (tokLen l))[k] = l.getD k 0 := by
    rw [List.getElem_take, List.getD_eq_getElem?_getD, List.getElem?_eq_getElem (by omega)]; rfl
  rw [← e]
  exact List.getElem_mem hk
theorem tokOut (l : List UInt8) (h : tokLen l < l.length) : tokB (l.getD (tokLen l) 0) = false := by
  refine tw_drop (p := tokB) l _ ?_
  show (l.drop (tokLen l)).head? = _
  rw [List.drop_eq_getElem_cons h, List.getD_eq_getElem?_getD, List.getElem?_eq_getElem h]; rfl

end Ac
end Go.Proofs.YthfckgdaencagaaGreatDoor
