/-
  chunk: keepTrailer, endTrailer, inTrailers.
-/
import Derived.Test.YtifhbjkgdnemjaaGreatDoorCkF
import Derived.Test.YtifhbjkgdnemjaaGreatDoorCkD
set_option linter.unusedVariables false
set_option linter.unusedSimpArgs false
set_option maxRecDepth 100000
namespace Go.Proofs.YtifhbjkgdnemjaaGreatDoor
open Go.RowKit Go.Shelf Go.Lib
namespace Ck
open Oc Tg _root_.Go.Proofs.YtifhbjkgdnemjaaGreatDoor.Fd

/-- A field appended, in a region that draws its order. -/
theorem step_appF {ops : Array Oper} {o : Oper} {a : Act} {K : Act → World → Prop} {Q : Exit → Act → World → Prop} {E' : Prop} (hgd : o.guard = none) (s x : Operand)
    (ho : o.op = .call { callee := .builtin .append, args := #[s, x], argTypes := #[37, 37] }) (v : Value) (t : List Fl) (W : World) (p : Fl) (n1 n2 : ByteArray) (h1 : n1 = str p.1) (h2 : n2 = str p.2)
    (hs : a.eval s = v) (hown : OwnF 39 0 v t W) (hx : a.eval x = .slice (some ⟨W.heap.size, 0, none⟩) 1 1) (hlen : t.length + 1 ≤ 2147483648)
    (h : ∀ g cp w', Hid (OwnF 39 0 (.slice (some ⟨g, 0, none⟩) (t.length + 1) cp) (t ++ [p]) w') → Hid (But v.ownBlock.toList W w') → Hid (v.ownBlock = some g ∨ W.heap.size ≤ g) → K (a.put o.dst (.slice (some ⟨g, 0, none⟩) (t.length + 1) cp)) w') :
    if Region.wanted o (yielded ops a.tmps) = true then Oper.wp Tryz.prog o a (W.alloc (.cells #[.string n1, .string n2] 39)) K Q else E' := by
  subst h1 h2
  obtain ⟨i0, hi, hz0, hz1, hz2⟩ := info_parts infoF
  refine step_append_lies _ hgd s x 37 ho 0 39 i0 (.agg #[.string ⟨#[]⟩, .string ⟨#[]⟩]) 2 32 Tryz.underlying37 hi hz0 hz1 hz2 rfl (by decide) v t.length _ hs (World.ownsRow.alloc hown _) ⟨W.heap.size, 0, none⟩ 1 1 (encF1 p) hx rfl ?_ ?_ (by decide) ?_ ?_ (by omega) (W.alloc (.cells #[.string (str p.1), .string (str p.2)] 39)).heap.size rfl ?_
  · intro j u hj
    unfold encF1 at hj
    match j, hj with
    | 0, hj => simp at hj; subst hj; simp [Addr.add]
    | 1, hj => simp at hj; subst hj; simp [Addr.add]
  · intro u hu
    unfold encF1 at hu
    simp at hu
    rcases hu with rfl | rfl <;> rfl
  · unfold maxLen; omega
  · omega
  · intro g cp w' h2 h3 h4 h5
    refine h g cp w' ?_ (((But.refl _ W).alloc _).grown h3 (fun k hk => by rw [hk]; simp)) ?_
    · show OwnF _ _ _ _ _
      unfold OwnF
      rw [encF_snoc, List.length_append]
      exact h2
    · rcases h4 with e | e
      · exact .inl e
      · exact .inr (by rw [e]; simp)

/-- The trailers have turned. -/
theorem IsD.adds {w w6 : World} {D g m cp : Nat} {s : DS} {vl vb vt : Value} {l' : List Fl} (H : IsD w D s vl vb vt) (ho : OwnF 39 0 (.slice (some ⟨g, 0, none⟩) m cp) l' w6) (hb : But vt.ownBlock.toList w w6) (hg : vt.ownBlock = some g ∨ w.heap.size ≤ g) :
    IsD (w6.setCell ⟨D, 10, none⟩ (.slice (some ⟨g, 0, none⟩) m cp)) D { s with tr := l' } vl vb (.slice (some ⟨g, 0, none⟩) m cp) ∧ Goes (ft D vl vb vt) w (ft D vl vb (.slice (some ⟨g, 0, none⟩) m cp)) (w6.setCell ⟨D, 10, none⟩ (.slice (some ⟨g, 0, none⟩) m cp)) := by
  have hD6 : w6.heap[D]? = some (.cells (cellsD s vl vb vt) 87 (0, 0)) := hb.heap H.str (fun e => by
    simp at e
    exact ne_row H.str H.tr (by decide) e rfl)
  have hA := (At.mk (But.refl [D] w6) hD6).set 10 (.slice (some ⟨g, 0, none⟩) m cp)
  refine ⟨IsD.build hD6 hA rfl (hb.owns H.line (fun k hk e => ne_rows H.tr H.line (by decide) (by simpa using e) hk)) (hb.owns H.body (fun k hk e => ne_rows H.tr H.body (by decide) (by simpa using e) hk)) ho H.sep, goes_ft ?_ (fun k h => .inl h) (fun k h => .inl h) ?_⟩
  · exact (hb.mono (fun x hx => by simp at hx; simp [ft, hx])).trans (hA.ftd _ _ _)
  · intro k hk
    have e : g = k := by simpa [Value.ownBlock] using hk
    subst e
    exact hg

theorem ownF_form {T B : Nat} {w : World} {v : Value} {l : List Fl} (h : OwnF T B v l w) : ∃ a c, v = .slice a l.length c := by
  rcases h.2 with ⟨rfl, h0⟩ | ⟨g, cap, cur, rfl, _, _, hn, hm, _⟩
  · exact ⟨none, 0, by rw [h0]⟩
  · exact ⟨_, cap, rfl⟩

set_option maxHeartbeats 8000000 in
theorem keepTrailer_any {w0 w : World} {D : Nat} {s : DS} {bs : List Nat} (HB : Base w0 w bs) (H : Dec w D s bs) (l : List UInt8) (hl : l.length ≤ 4000000000) (hf0 : 0 ≤ s.fields) (hf1 : s.fields ≤ 9223372036854775807) (htr : s.tr.length + 1 ≤ 2147483648) :
    Calls Tryz.prog 106 #[.pointer (some ⟨D, 0, none⟩), .string (str l)] w fun ex w' => ex = .returned (.tuple #[]) ∧ ∃ bs', Dec w' D (keep s l) bs' ∧ Goes bs w bs' w' := by
  have HHB : Hid (Base w0 w bs) := HB
  have HDD : Hid (Dec w D s bs) := H
  have HP : Hid (Calls Tryz.prog 117 #[.string (str l)] w fun e w' => e = .returned (lineV (parseL l)) ∧ Below w.heap.size w w') := by
    have h := ParseLine_any (str l) (by rw [str_size]; exact hl) w HB.at
    rw [str_list] at h
    exact h
  have hnl : (parseL l).1.1.length ≤ 4000000000 := by
    have := cutA_len 58 l
    unfold parseL
    repeat' split
    all_goals (simp only [List.length_nil]; try omega)
  have HM : Hid (∀ w, Tab w → Calls Tryz.prog 47 #[.string (str (parseL l).1.1)] w fun e w' => e = .returned (.bool (trails (parseL l).1.1)) ∧ Below w.heap.size w w') := fun w t => MayTrail_any _ (by unfold maxLen; omega) w t
  have HK : Hid (keep s l = if (parseL l).2.2 ≠ 0 ∨ trails (parseL l).1.1 = false then fin s 101 else { s with fields := s.fields - 1, tr := s.tr ++ [(parseL l).1] }) := rfl
  unfold lineV at HP
  generalize parseL l = q at *
  obtain ⟨⟨p1, p2⟩, pl, pe⟩ := q
  simp only at HP HM HK
  generalize trails p1 = mt at *
  generalize str l = L at *
  obtain ⟨n1, hn1⟩ : ∃ n1, n1 = str p1 := ⟨_, rfl⟩
  obtain ⟨n2, hn2⟩ : ∃ n2, n2 = str p2 := ⟨_, rfl⟩
  rw [← hn1] at HP HM
  rw [← hn2] at HP
  have HN1 : Hid (n1 = str p1) := hn1
  have HN2 : Hid (n2 = str p2) := hn2
  clear hn1 hn2 hl hnl H HB
  go_enter Tryz.func106, Tryz.ntmps106
  go_wp2_with fail
  refine HP.out.mono ?_
  rintro e w1 ⟨rfl, hb1⟩
  have HD1 : Hid (Dec w1 D s bs) := HDD.out.below hb1
  have HG1 : Hid (Goes bs w bs w1) := Goes.below hb1
  clear hb1 HDD HP
  by_cases he : pe = 0
  · subst he
    have hBA : Below w1.heap.size w1 (w1.alloc (.cells #[.string n1, .string n2] 39)) := (Below.refl _ w1).alloc (Nat.le_refl _) _
    have HDA : Hid (Dec (w1.alloc (.cells #[.string n1, .string n2] 39)) D s bs) := HD1.out.below hBA
    have HGA : Hid (Goes bs w bs (w1.alloc (.cells #[.string n1, .string n2] 39))) := HG1.out.trans (Goes.below hBA)
    have hRA : (w1.alloc (.cells #[.string n1, .string n2] 39)).heap[w1.heap.size]? = some (.cells #[.string n1, .string n2] 39 (0, 0)) := heap_alloc_new _ _
    have HRA : Hid ((w1.alloc (.cells #[.string n1, .string n2] 39)).heap[w1.heap.size]? = some (.cells #[.string n1, .string n2] 39 (0, 0))) := hRA
    have HDlt : Hid (D < w1.heap.size) := HD1.out.lt D HD1.out.mem
    clear hBA hRA
    go_wp2_with fail
    refine (HM.out _ (HHB.out.goes HGA.out).at.1).mono ?_
    rintro e w2 ⟨rfl, hb2⟩
    have HD2 : Hid (Dec w2 D s bs) := HDA.out.below hb2
    have HG2 : Hid (Goes bs w bs w2) := HGA.out.trans (Goes.below hb2)
    have HR2 : Hid (w2.heap[w1.heap.size]? = some (.cells #[.string n1, .string n2] 39 (0, 0))) := (But.of_below hb2).heap HRA.out (fun e => by cases e)
    clear hb2 HDA HGA HRA HD1 HG1 HM
    generalize hBz : w1.heap.size = B at *
    clear hBz
    cases mt with
    | false =>
      go_wp2_with fail
      refine (end_any HD2.out 101).mono ?_
      rintro e w3 ⟨rfl, bs3, hd3, hg3⟩
      have HD3 : Hid (Dec w3 D (fin s 101) bs3) := hd3
      have HG3 : Hid (Goes bs w bs3 w3) := HG2.out.trans hg3
      clear hd3 hg3
      go_wp2
      refine bodyPost_ret (results_none rfl _ _ _) rfl ?_
      rw [HK.out, if_pos (by simp)]
      exact ⟨rfl, bs3, HD3.out, HG3.out⟩
    | true =>
      obtain ⟨vl, vb, vt, HI, hbs⟩ := HD2.out
      obtain ⟨a, c, rfl⟩ := ownF_form HI.tr
      have HI2 : Hid (IsD w2 D s vl vb (.slice a s.tr.length c)) := HI
      have HBS : Hid (bs = ft D vl vb (.slice a s.tr.length c)) := hbs
      obtain ⟨c0, c1, c2, c3, c4, c5, c6, c7, c8, c9, c10, cf⟩ := row11 HI.str
      have hA := HI.at.set 5 (.int .i64 (s.fields - 1))
      have HI3 : Hid (IsD (w2.setCell ⟨D, 5, none⟩ (.int .i64 (s.fields - 1))) D { s with fields := s.fields - 1 } vl vb (.slice a s.tr.length c)) := IsD.build HI.str hA rfl HI.line HI.body HI.tr HI.sep
      have HG3 : Hid (Goes (ft D vl vb (.slice a s.tr.length c)) w2 (ft D vl vb (.slice a s.tr.length c)) (w2.setCell ⟨D, 5, none⟩ (.int .i64 (s.fields - 1)))) := goes_ft (hA.ftd _ _ _) (fun g h => .inl h) (fun g h => .inl h) (fun g h => .inl h)
      have HR3 : Hid ((w2.setCell ⟨D, 5, none⟩ (.int .i64 (s.fields - 1))).heap[B]? = some (.cells #[.string n1, .string n2] 39 (0, 0))) := hA.but.heap HR2.out (fun e => by have := HDlt.out; simp at e; omega)
      clear hA HI hbs c0 c1 c2 c3 c4 c6 c7 c8 c9 c10
      go_wp2_with fail
      obtain ⟨w3, hw3⟩ : ∃ w3, w3 = w2.setCell ⟨D, 5, none⟩ (.int .i64 (s.fields - 1)) := ⟨_, rfl⟩
      rw [← hw3] at HI3 HG3 HR3 ⊢
      clear hw3 c5 cf
      have hBlt : B < w3.heap.size := (Array.getElem?_eq_some_iff.1 HR3.out).1
      have hDlt : D < w3.heap.size := (Array.getElem?_eq_some_iff.1 HI3.out.str).1
      obtain ⟨_, _, _, _, _, _, _, _, _, _, c10, cf⟩ := row11 HI3.out.str
      have b0 : w3.cell? ⟨B, 0, none⟩ = some (.string n1) := by rw [cell_of_row w3 B _ _ _ _ HR3.out]; rfl
      have b1 : w3.cell? ⟨B, 1, none⟩ = some (.string n2) := by rw [cell_of_row w3 B _ _ _ _ HR3.out]; rfl
      have HOD : Hid (OwnF 39 0 (.slice a s.tr.length c) s.tr w3.drew) := (But.refl [] w3).drew.owns HI3.out.tr (fun _ _ e => by cases e)
      have HSD : Hid (w3.drew.heap[D]? = some (.cells (cellsD { s with fields := s.fields - 1 } vl vb (.slice a s.tr.length c)) 87 (0, 0))) := (But.refl [] w3).drew.heap HI3.out.str (fun e => by cases e)
      have q1 : ¬ D = w3.heap.size := by omega
      have q2 : ¬ w3.heap.size = D := by omega
      have q3 : ¬ B = w3.heap.size := by omega
      have q4 : ¬ w3.heap.size = B := by omega
      have d10 : w3.drew.cell? ⟨D, 10, none⟩ = some (.slice a s.tr.length c) := c10
      have d0 : w3.drew.cell? ⟨B, 0, none⟩ = some (.string n1) := b0
      have d1 : w3.drew.cell? ⟨B, 1, none⟩ = some (.string n2) := b1
      have a10 : (w3.alloc (.cells #[.string n1, .string n2] 39)).cell? ⟨D, 10, none⟩ = some (.slice a s.tr.length c) := ((But.refl [] w3).alloc _).cell c10 (fun e => by cases e)
      generalize hm : s.tr.length = m at *
      have HMM : Hid (s.tr.length = m) := hm
      have htr' : m + 1 ≤ 2147483648 := htr
      clear hm htr
      go_region_law (refine step_appF rfl (.tmp 34) (.tmp 36) rfl (.slice a m c) s.tr w3.drew (p1, p2) n1 n2 HN1.out HN2.out (by simp [Act.eval, Act.put]) HOD.out (by simp [Act.eval, Act.put]) (by have := HMM.out; omega) ?_; intro g6 c6' w6 ho6 hb6 hg6; rw [HMM.out]; have S6 : Hid (_ = some _) := hb6.out.heap HSD.out (fun e => ne_row HSD.out HOD.out (by decide) (by simpa using e) rfl); obtain ⟨e0, e1, e2, e3, e4, e5, e6, e7, e8, e9, e10, ef⟩ := row11 S6.out)
      all_goals
        have P := IsD.adds HI3.out (l' := s.tr ++ [(p1, p2)]) (m := m + 1) (by have := ho6.out; rw [HMM.out] at this; exact this) ((But.refl _ w3).drew.trans hb6.out) hg6.out
        obtain ⟨w7, hw7⟩ : ∃ w7, w7 = w6.setCell ⟨D, 10, none⟩ (.slice (some ⟨g6, 0, none⟩) (m + 1) c6') := ⟨_, rfl⟩
        rw [← hw7] at P ⊢
        clear hw7
        have HIF : Hid (IsD w7 D { s with fields := s.fields - 1, tr := s.tr ++ [(p1, p2)] } vl vb (.slice (some ⟨g6, 0, none⟩) (m + 1) c6')) := P.1
        have HGF : Hid (Goes bs w (ft D vl vb (.slice (some ⟨g6, 0, none⟩) (m + 1) c6')) w7) := by
          have h2 := HG2.out
          rw [HBS.out] at h2 ⊢
          exact (h2.trans HG3.out).trans P.2
        clear P ho6 hb6 hg6 S6 e0 e1 e2 e3 e4 e5 e6 e7 e8 e9 e10 ef
        go_wp2
        go_end0
        rw [HK.out, if_neg (by simp)]
        exact ⟨rfl, _, ⟨_, _, _, HIF.out, rfl⟩, HGF.out⟩
  · have he1 : (pe != 0) = true := by simp [he]
    have HE : Hid (pe ≠ 0) := he
    clear he
    have hBA : Below w1.heap.size w1 (w1.alloc (.cells #[.string n1, .string n2] 39)) := (Below.refl _ w1).alloc (Nat.le_refl _) _
    have HDA : Hid (Dec (w1.alloc (.cells #[.string n1, .string n2] 39)) D s bs) := HD1.out.below hBA
    have HGA : Hid (Goes bs w bs (w1.alloc (.cells #[.string n1, .string n2] 39))) := HG1.out.trans (Goes.below hBA)
    clear hBA
    go_wp2_with fail
    refine (end_any HDA.out 101).mono ?_
    rintro e w3 ⟨rfl, bs3, hd3, hg3⟩
    have HD3 : Hid (Dec w3 D (fin s 101) bs3) := hd3
    have HG3 : Hid (Goes bs w bs3 w3) := HGA.out.trans hg3
    clear hd3 hg3
    go_wp2
    refine bodyPost_ret (results_none rfl _ _ _) rfl ?_
    rw [HK.out, if_pos (.inl HE.out)]
    exact ⟨rfl, bs3, HD3.out, HG3.out⟩

set_option maxHeartbeats 4000000 in
theorem endTrailer_any {w0 w : World} {D : Nat} {s : DS} {bs : List Nat} (HB : Base w0 w bs) (H : Dec w D s bs) (hl : s.line.length ≤ 4000000000) (hne : s.line ≠ []) (hf0 : 0 ≤ s.fields) (hf1 : s.fields ≤ 9223372036854775807) (htr : s.tr.length + 1 ≤ 2147483648) :
    Calls Tryz.prog 90 #[.pointer (some ⟨D, 0, none⟩)] w fun ex w' => ex = .returned (.tuple #[]) ∧ ∃ bs', Dec w' D (endTrailer s) bs' ∧ Goes bs w bs' w' := by
  have HHB : Hid (Base w0 w bs) := HB
  have HT : Hid (Calls Tryz.prog 70 #[.pointer (some ⟨D, 0, none⟩)] w fun ex w' => ex = .returned (.tuple #[.string (str (said s)), .bool (right s)]) ∧ ∃ bs', Dec w' D (bare s) bs' ∧ Goes bs w bs' w') := takeLine_any H hl hne
  have hsl : (said s).length ≤ 4000000000 := Nat.le_trans (said_le s) hl
  have HE : Hid (endTrailer s = if right s = false then fin (bare s) 101 else if said s = [] then fin (bare s) 0 else if s.fields = 0 then fin (bare s) 104 else keep (bare s) (said s)) := rfl
  have HKp : Hid (∀ (w1 : World) (bs1 : List Nat), Base w0 w1 bs1 → Dec w1 D (bare s) bs1 → Calls Tryz.prog 106 #[.pointer (some ⟨D, 0, none⟩), .string (str (said s))] w1 fun ex w' => ex = .returned (.tuple #[]) ∧ ∃ bs', Dec w' D (keep (bare s) (said s)) bs' ∧ Goes bs1 w1 bs' w') := fun w1 bs1 hb1 hd1 => keepTrailer_any hb1 hd1 _ hsl hf0 hf1 htr
  have HM : Hid (said s = [] ∧ (str (said s)).toList.isEmpty = true ∨ said s ≠ [] ∧ (str (said s)).toList.isEmpty = false) := by
    by_cases h : said s = []
    · exact .inl ⟨h, empty_of (by rw [h]; rfl)⟩
    · exact .inr ⟨h, nonempty_of (by rw [str_size]; exact fun e => h (List.length_eq_zero_iff.1 e))⟩
  generalize right s = r at *
  generalize str (said s) = L at *
  clear H HB hl hne hsl htr
  go_enter Tryz.func90, Tryz.ntmps90
  go_wp2_with fail
  refine HT.out.mono ?_
  rintro e w1 ⟨rfl, bs1, hd1, hg1⟩
  have HD1 : Hid (Dec w1 D (bare s) bs1) := hd1
  have HG1 : Hid (Goes bs w bs1 w1) := hg1
  clear hd1 hg1 HT
  cases r with
  | false =>
    go_wp2_with fail
    refine (end_any HD1.out 101).mono ?_
    rintro e w3 ⟨rfl, bs3, hd3, hg3⟩
    have HD3 : Hid (Dec w3 D (fin (bare s) 101) bs3) := hd3
    have HG3 : Hid (Goes bs w bs3 w3) := HG1.out.trans hg3
    clear hd3 hg3
    go_wp2
    go_end0
    rw [HE.out, if_pos (by simp)]
    exact ⟨rfl, bs3, HD3.out, HG3.out⟩
  | true =>
    rcases HM.out with ⟨hs0, hL⟩ | ⟨hs0, hL⟩
    · have HS0 : Hid (said s = []) := hs0
      clear hs0 HM
      go_wp2_with fail
      refine (end_any HD1.out 0).mono ?_
      rintro e w3 ⟨rfl, bs3, hd3, hg3⟩
      have HD3 : Hid (Dec w3 D (fin (bare s) 0) bs3) := hd3
      have HG3 : Hid (Goes bs w bs3 w3) := HG1.out.trans hg3
      clear hd3 hg3
      go_wp2
      go_end0
      rw [HE.out, if_neg (by simp), if_pos HS0.out]
      exact ⟨rfl, bs3, HD3.out, HG3.out⟩
    · have HS0 : Hid (said s ≠ []) := hs0
      clear hs0 HM
      obtain ⟨vl, vb, vt, c0, c1, c2, c3, c4, c5, c6, c7, c8, c9, c10, cf⟩ := HD1.out.cells
      have c5' : w1.cell? ⟨D, 5, none⟩ = some (.int .i64 s.fields) := c5
      clear c0 c1 c2 c3 c4 c5 c6 c7 c8 c9 c10
      by_cases h0 : s.fields = 0
      · have h0' : (s.fields == 0) = true := by simp [h0]
        have HF0 : Hid (s.fields = 0) := h0
        clear h0
        go_wp2_with fail
        refine (end_any HD1.out 104).mono ?_
        rintro e w3 ⟨rfl, bs3, hd3, hg3⟩
        have HD3 : Hid (Dec w3 D (fin (bare s) 104) bs3) := hd3
        have HG3 : Hid (Goes bs w bs3 w3) := HG1.out.trans hg3
        clear hd3 hg3
        go_wp2
        go_end0
        rw [HE.out, if_neg (by simp), if_neg HS0.out, if_pos HF0.out]
        exact ⟨rfl, bs3, HD3.out, HG3.out⟩
      · have h0' : (s.fields == 0) = false := by simp [h0]
        have HF0 : Hid (¬ s.fields = 0) := h0
        clear h0
        go_wp2_with fail
        refine (HKp.out _ _ (HHB.out.goes HG1.out) HD1.out).mono ?_
        rintro e w3 ⟨rfl, bs3, hd3, hg3⟩
        have HD3 : Hid (Dec w3 D (keep (bare s) (said s)) bs3) := hd3
        have HG3 : Hid (Goes bs w bs3 w3) := HG1.out.trans hg3
        clear hd3 hg3
        go_wp2
        go_end0
        rw [HE.out, if_neg (by simp), if_neg HS0.out, if_neg HF0.out]
        exact ⟨rfl, bs3, HD3.out, HG3.out⟩

set_option maxHeartbeats 8000000 in
theorem inTrailers_any {w0 w : World} {D : Nat} {s : DS} {bs : List Nat} (HB : Base w0 w bs) (H : Dec w D s bs) (hl : s.line.length ≤ 3000000000) (hr0 : 0 ≤ s.room) (hr1 : s.room ≤ 9223372036854775807) (hf0 : 0 ≤ s.fields) (hf1 : s.fields ≤ 9223372036854775807) (htr : s.tr.length + 1 ≤ 2147483648) (t : ByteArray) (ht : 0 < t.size) (u : UInt8) (hu : byt t 0 = (u.toNat : Int)) :
    Calls Tryz.prog 72 #[.pointer (some ⟨D, 0, none⟩), .string t] w fun ex w' => ex = .returned (.int .i64 1) ∧ ∃ bs', Dec w' D (inTrailers s u) bs' ∧ Goes bs w bs' w' := by
  have HHB : Hid (Base w0 w bs) := HB
  have HDD : Hid (Dec w D s bs) := H
  obtain ⟨vl, vb, vt, H, hbs⟩ := H
  obtain ⟨a, c, rfl, hac, hcm, _⟩ := own_form H.line
  have HBS : Hid (bs = ft D (.slice a s.line.length c) vb vt) := hbs
  obtain ⟨c0, c1, c2, c3, c4, c5, c6, c7, c8, c9, c10, cf⟩ := row11 H.str
  by_cases h0 : s.room = 0
  · have h0' : (s.room == 0) = true := by simp [h0]
    have HF0 : Hid (s.room = 0) := h0
    clear h0 H c0 c1 c2 c3 c5 c6 c7 c8 c9 c10 hbs HB
    go_enter Tryz.func72, Tryz.ntmps72
    go_wp2_with fail
    refine (end_any HDD.out 104).mono ?_
    rintro e w3 ⟨rfl, bs3, hd3, hg3⟩
    have HD3 : Hid (Dec w3 D (fin s 104) bs3) := hd3
    have HG3 : Hid (Goes bs w bs3 w3) := hg3
    clear hd3 hg3
    go_wp2
    go_ret
    refine ⟨rfl, bs3, ?_, HG3.out⟩
    unfold inTrailers
    rw [if_pos HF0.out]
    exact HD3.out
  have h0' : (s.room == 0) = false := by simp [h0]
  have HF0 : Hid (¬ s.room = 0) := h0
  have hA := H.at.set 4 (.int .i64 (s.room - 1))
  have HI3 : Hid (IsD (w.setCell ⟨D, 4, none⟩ (.int .i64 (s.room - 1))) D { s with room := s.room - 1 } (.slice a s.line.length c) vb vt) := IsD.build H.str hA rfl H.line H.body H.tr H.sep
  have HG3 : Hid (Goes (ft D (.slice a s.line.length c) vb vt) w (ft D (.slice a s.line.length c) vb vt) (w.setCell ⟨D, 4, none⟩ (.int .i64 (s.room - 1)))) := goes_ft (hA.ftd _ _ _) (fun g h => .inl h) (fun g h => .inl h) (fun g h => .inl h)
  have hby : (((t[0]'ht).toNat : Nat) : Int) = byt t 0 := byt_at t 0 ht
  rw [hu] at hby
  have hu0 : (0 : Int) ≤ (u.toNat : Int) := by omega
  have hu1 : (u.toNat : Int) < 256 := by have := u.toNat_lt; omega
  obtain ⟨x, hx⟩ : ∃ x, x = (u.toNat : Int) := ⟨_, rfl⟩
  rw [← hx] at hby hu0 hu1
  have HX : Hid (x = (u.toNat : Int)) := hx
  clear h0 H c0 c1 c2 c3 c5 c6 c7 c8 c9 c10 hbs HB hA hx hu HDD
  go_enter Tryz.func72, Tryz.ntmps72
  go_wp2_with fail
  obtain ⟨w3, hw3⟩ : ∃ w3, w3 = w.setCell ⟨D, 4, none⟩ (.int .i64 (s.room - 1)) := ⟨_, rfl⟩
  rw [← hw3] at HI3 HG3 ⊢
  clear hw3 c4 cf
  obtain ⟨_, _, _, _, _, _, _, _, c8, _, _, cf⟩ := row11 HI3.out.str
  have HOD : Hid (Own 0 (.slice a s.line.length c) s.line w3.drew) := (But.refl [] w3).drew.owns HI3.out.line (fun _ _ e => by cases e)
  have HSD : Hid (w3.drew.heap[D]? = some (.cells (cellsD { s with room := s.room - 1 } (.slice a s.line.length c) vb vt) 87 (0, 0))) := (But.refl [] w3).drew.heap HI3.out.str (fun e => by cases e)
  have hDlt : D < w3.heap.size := (Array.getElem?_eq_some_iff.1 HI3.out.str).1
  have q1 : ¬ D = w3.heap.size := by omega
  have q2 : ¬ w3.heap.size = D := by omega
  have e8 : w3.drew.cell? ⟨D, 8, none⟩ = some (.slice a s.line.length c) := c8
  have a8 : ∀ y, (w3.alloc (.cells #[.int .u8 y] 5)).cell? ⟨D, 8, none⟩ = some (.slice a s.line.length c) := fun y => ((But.refl [] w3).alloc _).cell c8 (fun e => by cases e)
  generalize hn : s.line.length = n at *
  have HN : Hid (s.line.length = n) := hn
  clear hn
  have hnl : n ≤ 3000000000 := hl
  clear hl
  go_region_law (refine step_appB rfl (.tmp 23) (.tmp 26) rfl (.slice a n c) s.line w3.drew x u HX.out (by simp [Act.eval, Act.put]) HOD.out (by simp [Act.eval, Act.put]) (by have := HN.out; omega) ?_; intro g6 c6' w6 ho6 hb6 hg6; rw [HN.out]; have S6 : Hid (_ = some _) := hb6.out.heap HSD.out (fun e => ne_row HSD.out HOD.out (by decide) (by simpa using e) rfl); obtain ⟨e0, e1, e2, e3, e4, e5, e6, e7, e8, e9, e10, ef⟩ := row11 S6.out)
  all_goals
    have P := IsD.puts HI3.out (l' := s.line ++ [u]) (m := n + 1) (by have := ho6.out; rw [HN.out] at this; exact this) ((But.refl _ w3).drew.trans hb6.out) hg6.out
    obtain ⟨w7, hw7⟩ : ∃ w7, w7 = w6.setCell ⟨D, 8, none⟩ (.slice (some ⟨g6, 0, none⟩) (n + 1) c6') := ⟨_, rfl⟩
    rw [← hw7] at P ⊢
    clear hw7
    have HI : Hid (IsD w7 D (put { s with room := s.room - 1 } u) (.slice (some ⟨g6, 0, none⟩) (n + 1) c6') vb vt) := P.1
    have HG : Hid (Goes bs w (ft D (.slice (some ⟨g6, 0, none⟩) (n + 1) c6') vb vt) w7) := by rw [HBS.out]; exact HG3.out.trans P.2
    clear P ho6 hb6 hg6 S6 e0 e1 e2 e3 e4 e5 e6 e7 e8 e9 e10 ef HOD HSD c8 cf a8 q1 q2 hDlt
    by_cases h10 : u = 10
    · have hx10 : (x == 10) = true := by rw [HX.out, h10]; rfl
      have HU : Hid (u = 10) := h10
      clear h10
      go_wp2_with fail
      refine (endTrailer_any (HHB.out.goes HG.out) ⟨_, _, _, HI.out, rfl⟩ (by rw [len_put]; show s.line.length + 1 ≤ _; rw [HN.out]; omega) (put_ne _ _) hf0 hf1 htr).mono ?_
      rintro e w8 ⟨rfl, bs8, hd8, hg8⟩
      have HD8 : Hid (Dec w8 D (endTrailer (put { s with room := s.room - 1 } u)) bs8) := hd8
      have HG8 : Hid (Goes bs w bs8 w8) := HG.out.trans hg8
      clear hd8 hg8
      go_wp2
      go_ret
      refine ⟨rfl, bs8, ?_, HG8.out⟩
      unfold inTrailers
      rw [if_neg HF0.out, if_pos HU.out]
      exact HD8.out
    · have hx10 : (x == 10) = false := by
        rw [beq_eq_false_iff_ne]
        intro e
        have := HX.out
        exact h10 (UInt8.toNat_inj.1 (by show u.toNat = 10; omega))
      have HU : Hid (¬ u = 10) := h10
      clear h10
      go_wp2
      go_ret
      refine ⟨rfl, _, ?_, HG.out⟩
      unfold inTrailers
      rw [if_neg HF0.out, if_neg HU.out]
      exact ⟨_, _, _, HI.out, rfl⟩

end Ck
end Go.Proofs.YtifhbjkgdnemjaaGreatDoor
