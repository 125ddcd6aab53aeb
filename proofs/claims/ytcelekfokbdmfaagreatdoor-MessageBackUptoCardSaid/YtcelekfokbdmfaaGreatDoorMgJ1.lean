import Derived.Test.YtcelekfokbdmfaaGreatDoorMgI1
import Derived.Test.YtcelekfokbdmfaaGreatDoorMgH1
import Derived.Test.YtcelekfokbdmfaaGreatDoorMgC1
set_option linter.unusedVariables false
set_option linter.unusedSimpArgs false
set_option maxRecDepth 100000
namespace Go.Proofs.YtcelekfokbdmfaaGreatDoor
open Go.RowKit Go.Shelf
namespace Ms
open Oc Tg _root_.Go.Proofs.YtcelekfokbdmfaaGreatDoor.Fd _root_.Go.Proofs.YtcelekfokbdmfaaGreatDoor.Ck
set_option maxHeartbeats 4000000 in
theorem readResponse_ch {T : Nat} (hT : TOk T) {ex : List Value} {w0 w : World} {D : Nat} {s : HS} {bs : List Nat} (HB : Base w0 w bs) (H : HdS T ex w D s bs) (hk : HOk s) (hL : LenOk s) (hSt : StOk s) (hp : s.piece.length ≤ 3000000000) (me : ByteArray) (m : Nat) (hm : m ≤ 9223372036854775807)
    (hTD : T ≠ 170) (hpl : s.piece.length ≤ 2147483647) (hc0 : (hRun s s.piece).2 = 0) (hc1 : (hRun s s.piece).1.headed = true) (hc2 : bdl me.data.toList (hRun s s.piece).1.st = false) (hc3 : (hRun s s.piece).1.kind = 2) :
    Calls Tryz.prog 52 #[.pointer (some ⟨D, 0, none⟩), .string me, .int .i64 (m : Int)] w fun e w' => e = .returned (.tuple #[.bool (chkR (hRun s s.piece).1 m).1.done, .int .i64 (chkR (hRun s s.piece).1 m).1.err]) ∧ (∃ vf vt, IsC T ex w' D (chkR (hRun s s.piece).1 m).1.s (chkR (hRun s s.piece).1 m).1.bd (chkR (hRun s s.piece).1 m).2 w0.heap.size vf vt ∧ ∀ g, vf.ownBlock = some g → w0.heap.size ≤ g) ∧ Below w0.heap.size w0 w' := by
  have HTT : Hid (TOk T) := hT
  have HRh : Hid (Calls _ _ _ _ _) := readHead_any hT HB H hk (by omega)
  have hL1 := hRun_len s.piece s hL
  have hO1 := hRun_ok s.piece s hk
  have hS1 := hRun_st s.piece s hSt
  have hP1 := hRun_piece s.piece s rfl
  generalize hRun s s.piece = Y at *
  obtain ⟨s1, z⟩ := Y
  dsimp only at HRh hL1 hO1 hS1 hP1 hc0 hc1 hc2 hc3 ⊢
  subst hc0
  obtain ⟨Z, hZ⟩ : ∃ Z, Z = chkR s1 m := ⟨_, rfl⟩
  rw [← hZ]
  have HZ : Hid (Z = chkR s1 m) := hZ
  clear hZ
  obtain ⟨⟨zd, ze, zs, zb, zbd⟩, zt⟩ := Z
  dsimp only
  have HBl : Hid (∀ W, Calls _ _ _ W _) := fun W => Bodyless_any me s1.st ⟨by have := hS1.1; omega, by have := hS1.2; omega⟩ W
  have HBB : Hid (Base w0 w bs) := HB
  have HTD : Hid (T ≠ 170) := hTD
  have hDn : D ∈ bs := by
    obtain ⟨vl0, vf0, _, hb0⟩ := id H
    rw [hb0]
    simp [ftH]
  have HD0 : Hid (w0.heap.size ≤ D) := HB.new D hDn
  clear H HB hk hL hSt hT hTD hDn
  go_enter Tryz.func52, Tryz.ntmps52
  go_wp2_with fail
  refine HRh.out.mono ?_
  rintro e w1 ⟨rfl, b1, hd1, hg1⟩
  obtain ⟨b2, hpl, hg2⟩ := hd1.plain
  have HD1 : Hid (PlB T ex w1 D s1 [] [] b2) := hpl
  have HG1 : Hid (Goes bs w b2 w1) := hg1.trans hg2
  clear hd1 hg1 hg2 hpl HRh
  obtain ⟨vl, vb, vf, HI, hbs⟩ := HD1.out
  have c6 : w1.cell? ⟨D, 6, none⟩ = some (.bool s1.headed) := HI.str.cell 6 rfl
  have c9 : w1.cell? ⟨D, 9, none⟩ = some (.int .i64 s1.st) := HI.str.cell 9 rfl
  have c15 : w1.cell? ⟨D, 15, none⟩ = some (.int .i64 s1.kind) := HI.str.cell 15 rfl
  have HIv : Hid (IsB T ex w1 D s1 [] [] vl vb vf) := HI
  have HB1 : Hid (Base w0 w1 b2) := HBB.out.goes HG1.out
  have HVf : Hid (∀ g, vf.ownBlock = some g → w0.heap.size ≤ g) := (fun g hg => HB1.out.new g (by rw [hbs]; simp [ftH, hg]) : ∀ g, vf.ownBlock = some g → w0.heap.size ≤ g)
  clear HI hbs
  have hh : s1.headed = true := hc1
  rw [hh] at c6
  obtain ⟨n, hn, hnb⟩ := hL1 hh
  have hok := hO1 trivial
  have hu := hok.used
  have HBy : Hid (Calls _ _ _ _ _) := HBl.out w1
  clear hh hL1 hO1 HBl hS1 hc1
  rw [hc2] at HBy
  clear hc2
  go_wp2_with fail
  refine HBy.out.mono ?_
  rintro e w2 ⟨rfl, hw2⟩
  rw [hw2]
  clear hw2 HBy
  have h2' : (s1.kind == 2) = true := by simp [hc3]
  have hRc := readChunks_any HTT.out HTD.out HB1.out.env HB1.out.bel HD0.out HIv.out m hm (by omega) (by omega)
  rw [← HZ.out] at hRc
  have HRc : Hid (Calls Tryz.prog 89 #[.pointer (some ⟨D, 0, none⟩), .int .i64 (m : Int)] w1 fun e w' => e = .returned (.tuple #[.bool zd, .int .i64 ze]) ∧ (∃ vt, IsC T ex w' D zs zbd zt w1.heap.size vf vt) ∧ But [D] w1 w') := hRc
  clear hRc
  clear hc3 hn hnb
  go_wp2_with fail
  refine HRc.out.mono ?_
  rintro e w3 ⟨rfl, ⟨vt, hC⟩, hb3⟩
  have HC3 : Hid (IsC T ex w3 D zs zbd zt w0.heap.size vf vt) := (⟨hC.str, hC.fs, own_upF hC.tr HB1.out.bel.size⟩ : IsC _ _ _ _ _ _ _ _ _ _)
  have HB3 : Hid (Below w0.heap.size w0 w3) := HB1.out.bel.trans (hb3.below HB1.out.bel.size (fun x hx => by simp at hx; rw [hx]; exact HD0.out))
  clear hC hb3
  go_wp2
  go_ret2
  exact ⟨rfl, ⟨vf, vt, HC3.out, HVf.out⟩, HB3.out⟩
end Ms
end Go.Proofs.YtcelekfokbdmfaaGreatDoor
set_option linter.unusedVariables false
set_option linter.unusedSimpArgs false
set_option maxRecDepth 100000
namespace Go.Proofs.YtcelekfokbdmfaaGreatDoor
open Go.RowKit Go.Shelf
namespace Ms
open Oc Tg _root_.Go.Proofs.YtcelekfokbdmfaaGreatDoor.Fd _root_.Go.Proofs.YtcelekfokbdmfaaGreatDoor.Ck
def parW (R : BR) (z : Nat) (vf vt : Value) : List Value × Int × Int :=
  if R.err ≠ 0 then (zeroC, R.s.wrong, R.err) else if R.done = false then (zeroC, (z : Int), 124) else (repC R.s R.bd vf vt, (R.s.used : Int), 0)
set_option maxHeartbeats 4000000 in
theorem Parse_ch (me p : ByteArray) (m : Nat) (en : Bool) (hm : m ≤ 9223372036854775807) (hp : p.size ≤ 2147483647) (w : World) (hw : Env w)
    (hc0 : (hRun (newH p.data.toList en) p.data.toList).2 = 0) (hc1 : (hRun (newH p.data.toList en) p.data.toList).1.headed = true) (hc2 : bdl me.data.toList (hRun (newH p.data.toList en) p.data.toList).1.st = false) (hc3 : (hRun (newH p.data.toList en) p.data.toList).1.kind = 2) :
    Calls Tryz.prog 21 #[.string me, .string p, .int .i64 (m : Int), .bool en] w fun e w' => ∃ vf vt, e = .returned (.tuple #[.agg (parW (chkR (hRun (newH p.data.toList en) p.data.toList).1 m).1 p.size vf vt).1.toArray, .int .i64 (parW (chkR (hRun (newH p.data.toList en) p.data.toList).1 m).1 p.size vf vt).2.1, .int .i64 (parW (chkR (hRun (newH p.data.toList en) p.data.toList).1 m).1 p.size vf vt).2.2]) ∧ OwnF 63 w.heap.size vf (chkR (hRun (newH p.data.toList en) p.data.toList).1 m).1.s.fs w' ∧ OwnF 63 w.heap.size vt (chkR (hRun (newH p.data.toList en) p.data.toList).1 m).2 w' ∧ Below w.heap.size w w' := by
  obtain ⟨k1, k2, k3⟩ := newH_ok p.data.toList en
  obtain ⟨wR, hwR⟩ : ∃ wR, wR = w.alloc (.cells #[.int .i64 0, .string ⟨#[]⟩, .slice none 0 0, .string ⟨#[]⟩, .int .i64 0, .slice none 0 0, .int .i64 0, .int .i64 0, .bool false] 51) := ⟨_, rfl⟩
  have hbR : Below w.heap.size w wR := by rw [hwR]; exact (Below.refl _ w).alloc (Nat.le_refl _) _
  have hRb : Blk 51 wR w.heap.size zeroC := by rw [hwR]; exact heap_alloc_new w _
  have hRs : wR.heap.size = w.heap.size + 1 := by rw [hwR]; simp
  obtain ⟨wS, hwS⟩ : ∃ wS, wS = wR.alloc (.cells #[.string p, .bool en, .int .i64 0, .int .i64 0, .slice none 0 0, .int .i64 0, .bool false, .slice none 0 0, .pointer none, .int .i64 0, .string ⟨#[]⟩, .slice none 0 0, .string ⟨#[]⟩, .int .i64 0, .slice none 0 0, .int .i64 0, .int .i64 0, .bool false] 84) := ⟨_, rfl⟩
  have hstr : lcH (newH p.data.toList en) (.slice none 0 0) (.slice none 0 0) [] = [.string p, .bool en, .int .i64 0, .int .i64 0, .slice none 0 0, .int .i64 0, .bool false, .slice none 0 0, .pointer none, .int .i64 0, .string ⟨#[]⟩, .slice none 0 0, .string ⟨#[]⟩, .int .i64 0, .slice none 0 0, .int .i64 0, .int .i64 0, .bool false] := by
    show (Value.string (str p.data.toList) :: _) = _
    rw [str_self]
    rfl
  have hbS : Below wR.heap.size wR wS := by rw [hwS]; exact (Below.refl _ wR).alloc (Nat.le_refl _) _
  have hSb : Blk 84 wS wR.heap.size (lcH (newH p.data.toList en) (.slice none 0 0) (.slice none 0 0) []) := by rw [hstr, hwS]; exact heap_alloc_new wR _
  have hD : HdS 84 [] wS wR.heap.size (newH p.data.toList en) [wR.heap.size] := ⟨.slice none 0 0, .slice none 0 0, ⟨hSb, World.ownsRow_nil _ _ _ _, World.ownsRow_nil _ _ _ _⟩, rfl⟩
  have hB : Base wR wS [wR.heap.size] := ⟨hw.below hbR, hbS, fun x hx => by simp at hx; omega⟩
  have hRr := readResponse_ch tok_stream hB hD k1 k2 k3 (by show p.data.toList.length ≤ _; rw [size_list]; omega) me m hm (by decide) (by show p.data.toList.length ≤ _; rw [size_list]; omega) hc0 hc1 hc2 hc3
  have e1 : (newH p.data.toList en).piece = p.data.toList := rfl
  rw [e1] at hRr
  have HBR : Hid (Below w.heap.size w wR) := hbR
  have HRB : Hid (Blk 51 wR w.heap.size zeroC) := hRb
  have HBS : Hid (Base wR wS [wR.heap.size]) := hB
  have HRS : Hid (wR.heap.size = w.heap.size + 1) := hRs
  generalize chkR (hRun (newH p.data.toList en) p.data.toList).1 m = Z at *
  obtain ⟨R, zt⟩ := Z
  dsimp only at hRr ⊢
  rw [hRs] at hRr
  have HRr : Hid (Calls _ _ _ _ _) := hRr
  clear hRr hB hD hSb hbS hstr hRb hbR k1 k2 k3 hc0 hc1 hc2 hc3 e1
  go_enter Tryz.func21, Tryz.ntmps21
  go_wp2_with fail
  rw [← hwR, ← hwS]
  refine HRr.out.mono ?_
  rintro e w3 ⟨rfl, ⟨vf, vt, hC, hvf⟩, hb3⟩
  have hb3 : Below wR.heap.size wR w3 := by rw [HRS.out]; exact hb3
  have HB3 : Hid (Below w.heap.size w w3) := HBR.out.trans (hb3.mono HBR.out.size)
  have HR3 : Hid (Blk 51 w3 w.heap.size zeroC) := HRB.out.below hb3
  have HFs : Hid (OwnF 63 w.heap.size vf R.s.fs w3) := owns_base hC.fs (fun g hg => by
    have := hvf g hg
    have h2 := HRS.out
    omega)
  have HTs : Hid (OwnF 63 w.heap.size vt zt w3) := own_upF hC.tr (by have := HRS.out; omega)
  obtain ⟨vl, vb, pc, hstr⟩ := hC.str
  obtain ⟨fa, fc, rfl⟩ := ownF_form hC.fs
  obtain ⟨ta, tc, rfl⟩ := ownF_form hC.tr
  have HI3 : Hid (Blk 84 w3 (w.heap.size + 1) (lcC R.s R.bd vl vb (.slice fa R.s.fs.length fc) pc (.slice ta zt.length tc) [])) := hstr
  clear hb3 hvf hC hstr HRr HBS HRB hwR hwS hRs
  generalize hg0 : w.heap.size = g0 at *
  have HG0 : Hid (w.heap.size = g0) := hg0
  clear hg0
  have r0 := HR3.out.cell 0 rfl
  have r1 := HR3.out.cell 1 rfl
  have r2 := HR3.out.cell 2 rfl
  have r3 := HR3.out.cell 3 rfl
  have r4 := HR3.out.cell 4 rfl
  have r5 := HR3.out.cell 5 rfl
  have r6 := HR3.out.cell 6 rfl
  have r7 := HR3.out.cell 7 rfl
  have r8 := HR3.out.cell 8 rfl
  have rf := HR3.out.free
  obtain ⟨done, err, s, body, bd⟩ := R
  dsimp only at HFs HI3 HTs
  have HP : Hid (∀ v u, parW ⟨done, err, s, body, bd⟩ p.size v u = if err ≠ 0 then (zeroC, s.wrong, err) else if done = false then (zeroC, (p.size : Int), 124) else (repC s bd v u, (s.used : Int), 0)) := fun _ _ => rfl
  have c3 : w3.cell? ⟨g0 + 1, 3, none⟩ = some (.int .i64 s.wrong) := HI3.out.cell 3 rfl
  dsimp only
  by_cases he : err = 0
  case neg =>
    have he1 : (err != 0) = true := by simp [he]
    have HQ : Hid (∀ v u, parW ⟨done, err, s, body, bd⟩ p.size v u = (zeroC, s.wrong, err)) := fun v u => (HP.out v u).trans (if_pos he)
    have d3 : w3.drew.cell? ⟨g0 + 1, 3, none⟩ = some (.int .i64 s.wrong) := c3
    clear he HP
    go_wp2_with fail
    go_region_law (fail)
    all_goals
      go_simp
      go_wp2
      have hB9 := set9_blk HR3.out (.int .i64 0) (.string ⟨#[]⟩) (.slice none 0 0) (.string ⟨#[]⟩) (.int .i64 0) (.slice none 0 0) (.int .i64 0) (.int .i64 0) (.bool false)
      have hb9 := set9_but w3 g0 (.int .i64 0) (.string ⟨#[]⟩) (.slice none 0 0) (.string ⟨#[]⟩) (.int .i64 0) (.slice none 0 0) (.int .i64 0) (.int .i64 0) (.bool false)
      have hf9 : OwnF 63 g0 (.slice fa s.fs.length fc) s.fs (set9 w3 g0 (.int .i64 0) (.string ⟨#[]⟩) (.slice none 0 0) (.string ⟨#[]⟩) (.int .i64 0) (.slice none 0 0) (.int .i64 0) (.int .i64 0) (.bool false)) := HR3.out.keep HFs.out (by decide) hb9
      have ht9 : OwnF 63 g0 (.slice ta zt.length tc) zt (set9 w3 g0 (.int .i64 0) (.string ⟨#[]⟩) (.slice none 0 0) (.string ⟨#[]⟩) (.int .i64 0) (.slice none 0 0) (.int .i64 0) (.int .i64 0) (.bool false)) := HR3.out.keep HTs.out (by decide) hb9
      have hl9 : Below g0 w3 (set9 w3 g0 (.int .i64 0) (.string ⟨#[]⟩) (.slice none 0 0) (.string ⟨#[]⟩) (.int .i64 0) (.slice none 0 0) (.int .i64 0) (.int .i64 0) (.bool false)) := hb9.below (by have := HR3.out.lt; omega) (fun x hx => by simp at hx; omega)
      obtain ⟨W9, hW9⟩ : ∃ W9, W9 = (set9 w3 g0 (.int .i64 0) (.string ⟨#[]⟩) (.slice none 0 0) (.string ⟨#[]⟩) (.int .i64 0) (.slice none 0 0) (.int .i64 0) (.int .i64 0) (.bool false)).drew := ⟨_, rfl⟩
      have hB9' : Blk 51 W9 g0 [.int .i64 0, .string ⟨#[]⟩, .slice none 0 0, .string ⟨#[]⟩, .int .i64 0, .slice none 0 0, .int .i64 0, .int .i64 0, .bool false] := by rw [hW9]; exact hB9.but (But.refl [] _).drew (fun e => by cases e)
      have HF9 : Hid (OwnF 63 g0 (.slice fa s.fs.length fc) s.fs W9) := (by rw [hW9]; exact (But.refl [] _).drew.owns hf9 (fun _ _ e => by cases e) : OwnF _ _ _ _ _)
      have HT9 : Hid (OwnF 63 g0 (.slice ta zt.length tc) zt W9) := (by rw [hW9]; exact (But.refl [] _).drew.owns ht9 (fun _ _ e => by cases e) : OwnF _ _ _ _ _)
      have HL9 : Hid (Below g0 w W9) := (by rw [hW9]; exact HB3.out.trans hl9.drew : Below _ _ _)
      have hW9' : (((((((((w3.setCell ⟨g0, 0, none⟩ (.int .i64 0)).setCell ⟨g0, 1, none⟩ (.string ⟨#[]⟩)).setCell ⟨g0, 2, none⟩ (.slice none 0 0)).setCell ⟨g0, 3, none⟩ (.string ⟨#[]⟩)).setCell ⟨g0, 4, none⟩ (.int .i64 0)).setCell ⟨g0, 5, none⟩ (.slice none 0 0)).setCell ⟨g0, 6, none⟩ (.int .i64 0)).setCell ⟨g0, 7, none⟩ (.int .i64 0)).setCell ⟨g0, 8, none⟩ (.bool false)).drew = W9 := hW9.symm
      rw [hW9']
      have q0 := hB9'.cell 0 rfl
      have q1 := hB9'.cell 1 rfl
      have q2 := hB9'.cell 2 rfl
      have q3 := hB9'.cell 3 rfl
      have q4 := hB9'.cell 4 rfl
      have q5 := hB9'.cell 5 rfl
      have q6 := hB9'.cell 6 rfl
      have q7 := hB9'.cell 7 rfl
      have q8 := hB9'.cell 8 rfl
      clear hB9 hb9 hf9 ht9 hl9 hW9 hW9' hB9'
      refine bodyPost_ret (v := .tuple #[.agg #[.int .i64 0, .string ⟨#[]⟩, .slice none 0 0, .string ⟨#[]⟩, .int .i64 0, .slice none 0 0, .int .i64 0, .int .i64 0, .bool false], .int .i64 s.wrong, .int .i64 err]) (by simp [results, Tryz.results21, go_sem, q0, q1, q2, q3, q4, q5, q6, q7, q8]) rfl ?_
      rw [HG0.out]
      refine ⟨.slice fa s.fs.length fc, .slice ta zt.length tc, ?_, HF9.out, HT9.out, HL9.out⟩
      rw [HQ.out]
      rfl
  subst he
  have HP2 : Hid (∀ v u, parW ⟨done, 0, s, body, bd⟩ p.size v u = if done = false then (zeroC, (p.size : Int), 124) else (repC s bd v u, (s.used : Int), 0)) := fun v u => (HP.out v u).trans (if_neg (fun h => h rfl))
  cases done with
  | false =>
    have HQ : Hid (∀ v u, parW ⟨false, 0, s, body, bd⟩ p.size v u = (zeroC, (p.size : Int), 124)) := fun v u => (HP2.out v u).trans (if_pos rfl)
    clear HP HP2
    go_wp2
    have hB9 := set9_blk HR3.out (.int .i64 0) (.string ⟨#[]⟩) (.slice none 0 0) (.string ⟨#[]⟩) (.int .i64 0) (.slice none 0 0) (.int .i64 0) (.int .i64 0) (.bool false)
    have hb9 := set9_but w3 g0 (.int .i64 0) (.string ⟨#[]⟩) (.slice none 0 0) (.string ⟨#[]⟩) (.int .i64 0) (.slice none 0 0) (.int .i64 0) (.int .i64 0) (.bool false)
    have hf9 : OwnF 63 g0 (.slice fa s.fs.length fc) s.fs (set9 w3 g0 (.int .i64 0) (.string ⟨#[]⟩) (.slice none 0 0) (.string ⟨#[]⟩) (.int .i64 0) (.slice none 0 0) (.int .i64 0) (.int .i64 0) (.bool false)) := HR3.out.keep HFs.out (by decide) hb9
    have ht9 : OwnF 63 g0 (.slice ta zt.length tc) zt (set9 w3 g0 (.int .i64 0) (.string ⟨#[]⟩) (.slice none 0 0) (.string ⟨#[]⟩) (.int .i64 0) (.slice none 0 0) (.int .i64 0) (.int .i64 0) (.bool false)) := HR3.out.keep HTs.out (by decide) hb9
    have hl9 : Below g0 w3 (set9 w3 g0 (.int .i64 0) (.string ⟨#[]⟩) (.slice none 0 0) (.string ⟨#[]⟩) (.int .i64 0) (.slice none 0 0) (.int .i64 0) (.int .i64 0) (.bool false)) := hb9.below (by have := HR3.out.lt; omega) (fun x hx => by simp at hx; omega)
    obtain ⟨W9, hW9⟩ : ∃ W9, W9 = (set9 w3 g0 (.int .i64 0) (.string ⟨#[]⟩) (.slice none 0 0) (.string ⟨#[]⟩) (.int .i64 0) (.slice none 0 0) (.int .i64 0) (.int .i64 0) (.bool false)) := ⟨_, rfl⟩
    have hB9' : Blk 51 W9 g0 [.int .i64 0, .string ⟨#[]⟩, .slice none 0 0, .string ⟨#[]⟩, .int .i64 0, .slice none 0 0, .int .i64 0, .int .i64 0, .bool false] := by rw [hW9]; exact hB9
    have HF9 : Hid (OwnF 63 g0 (.slice fa s.fs.length fc) s.fs W9) := (by rw [hW9]; exact hf9 : OwnF _ _ _ _ _)
    have HT9 : Hid (OwnF 63 g0 (.slice ta zt.length tc) zt W9) := (by rw [hW9]; exact ht9 : OwnF _ _ _ _ _)
    have HL9 : Hid (Below g0 w W9) := (by rw [hW9]; exact HB3.out.trans hl9 : Below _ _ _)
    have hW9' : (((((((((w3.setCell ⟨g0, 0, none⟩ (.int .i64 0)).setCell ⟨g0, 1, none⟩ (.string ⟨#[]⟩)).setCell ⟨g0, 2, none⟩ (.slice none 0 0)).setCell ⟨g0, 3, none⟩ (.string ⟨#[]⟩)).setCell ⟨g0, 4, none⟩ (.int .i64 0)).setCell ⟨g0, 5, none⟩ (.slice none 0 0)).setCell ⟨g0, 6, none⟩ (.int .i64 0)).setCell ⟨g0, 7, none⟩ (.int .i64 0)).setCell ⟨g0, 8, none⟩ (.bool false)) = W9 := hW9.symm
    rw [hW9']
    have q0 := hB9'.cell 0 rfl
    have q1 := hB9'.cell 1 rfl
    have q2 := hB9'.cell 2 rfl
    have q3 := hB9'.cell 3 rfl
    have q4 := hB9'.cell 4 rfl
    have q5 := hB9'.cell 5 rfl
    have q6 := hB9'.cell 6 rfl
    have q7 := hB9'.cell 7 rfl
    have q8 := hB9'.cell 8 rfl
    clear hB9 hb9 hf9 ht9 hl9 hW9 hW9' hB9'
    refine bodyPost_ret (v := .tuple #[.agg #[.int .i64 0, .string ⟨#[]⟩, .slice none 0 0, .string ⟨#[]⟩, .int .i64 0, .slice none 0 0, .int .i64 0, .int .i64 0, .bool false], .int .i64 (p.size : Int), .int .i64 124]) (by simp [results, Tryz.results21, go_sem, q0, q1, q2, q3, q4, q5, q6, q7, q8]) rfl ?_
    rw [HG0.out]
    refine ⟨.slice fa s.fs.length fc, .slice ta zt.length tc, ?_, HF9.out, HT9.out, HL9.out⟩
    rw [HQ.out]
    rfl
  | true =>
    have HQ : Hid (∀ v u, parW ⟨true, 0, s, body, bd⟩ p.size v u = (repC s bd v u, (s.used : Int), 0)) := fun v u => (HP2.out v u).trans (if_neg (by simp))
    clear HP HP2
    have c2 : w3.cell? ⟨g0 + 1, 2, none⟩ = some (.int .i64 (s.used : Int)) := HI3.out.cell 2 rfl
    have c9 : w3.cell? ⟨g0 + 1, 9, none⟩ = some (.int .i64 s.st) := HI3.out.cell 9 rfl
    have c10 : w3.cell? ⟨g0 + 1, 10, none⟩ = some (.string (str s.rs)) := HI3.out.cell 10 rfl
    have c11 : w3.cell? ⟨g0 + 1, 11, none⟩ = some (.slice fa s.fs.length fc) := HI3.out.cell 11 rfl
    have c12 : w3.cell? ⟨g0 + 1, 12, none⟩ = some (.string (str bd)) := HI3.out.cell 12 rfl
    have c13 : w3.cell? ⟨g0 + 1, 13, none⟩ = some (.int .i64 s.minor) := HI3.out.cell 13 rfl
    have c14 : w3.cell? ⟨g0 + 1, 14, none⟩ = some (.slice ta zt.length tc) := HI3.out.cell 14 rfl
    have c15 : w3.cell? ⟨g0 + 1, 15, none⟩ = some (.int .i64 s.kind) := HI3.out.cell 15 rfl
    have c16 : w3.cell? ⟨g0 + 1, 16, none⟩ = some (.int .i64 s.len) := HI3.out.cell 16 rfl
    have c17 : w3.cell? ⟨g0 + 1, 17, none⟩ = some (.bool s.per) := HI3.out.cell 17 rfl
    go_wp2_with fail
    go_region_law (fail)
    all_goals
      go_simp
      go_wp2
      have hB9 := set9_blk HR3.out (.int .i64 s.st) (.string (str s.rs)) (.slice fa s.fs.length fc) (.string (str bd)) (.int .i64 s.minor) (.slice ta zt.length tc) (.int .i64 s.kind) (.int .i64 s.len) (.bool s.per)
      have hb9 := set9_but w3 g0 (.int .i64 s.st) (.string (str s.rs)) (.slice fa s.fs.length fc) (.string (str bd)) (.int .i64 s.minor) (.slice ta zt.length tc) (.int .i64 s.kind) (.int .i64 s.len) (.bool s.per)
      have hf9 : OwnF 63 g0 (.slice fa s.fs.length fc) s.fs (set9 w3 g0 (.int .i64 s.st) (.string (str s.rs)) (.slice fa s.fs.length fc) (.string (str bd)) (.int .i64 s.minor) (.slice ta zt.length tc) (.int .i64 s.kind) (.int .i64 s.len) (.bool s.per)) := HR3.out.keep HFs.out (by decide) hb9
      have ht9 : OwnF 63 g0 (.slice ta zt.length tc) zt (set9 w3 g0 (.int .i64 s.st) (.string (str s.rs)) (.slice fa s.fs.length fc) (.string (str bd)) (.int .i64 s.minor) (.slice ta zt.length tc) (.int .i64 s.kind) (.int .i64 s.len) (.bool s.per)) := HR3.out.keep HTs.out (by decide) hb9
      have hl9 : Below g0 w3 (set9 w3 g0 (.int .i64 s.st) (.string (str s.rs)) (.slice fa s.fs.length fc) (.string (str bd)) (.int .i64 s.minor) (.slice ta zt.length tc) (.int .i64 s.kind) (.int .i64 s.len) (.bool s.per)) := hb9.below (by have := HR3.out.lt; omega) (fun x hx => by simp at hx; omega)
      obtain ⟨W9, hW9⟩ : ∃ W9, W9 = (set9 w3 g0 (.int .i64 s.st) (.string (str s.rs)) (.slice fa s.fs.length fc) (.string (str bd)) (.int .i64 s.minor) (.slice ta zt.length tc) (.int .i64 s.kind) (.int .i64 s.len) (.bool s.per)).drew := ⟨_, rfl⟩
      have hB9' : Blk 51 W9 g0 [.int .i64 s.st, .string (str s.rs), .slice fa s.fs.length fc, .string (str bd), .int .i64 s.minor, .slice ta zt.length tc, .int .i64 s.kind, .int .i64 s.len, .bool s.per] := by rw [hW9]; exact hB9.but (But.refl [] _).drew (fun e => by cases e)
      have HF9 : Hid (OwnF 63 g0 (.slice fa s.fs.length fc) s.fs W9) := (by rw [hW9]; exact (But.refl [] _).drew.owns hf9 (fun _ _ e => by cases e) : OwnF _ _ _ _ _)
      have HT9 : Hid (OwnF 63 g0 (.slice ta zt.length tc) zt W9) := (by rw [hW9]; exact (But.refl [] _).drew.owns ht9 (fun _ _ e => by cases e) : OwnF _ _ _ _ _)
      have HL9 : Hid (Below g0 w W9) := (by rw [hW9]; exact HB3.out.trans hl9.drew : Below _ _ _)
      have hW9' : (((((((((w3.setCell ⟨g0, 0, none⟩ (.int .i64 s.st)).setCell ⟨g0, 1, none⟩ (.string (str s.rs))).setCell ⟨g0, 2, none⟩ (.slice fa s.fs.length fc)).setCell ⟨g0, 3, none⟩ (.string (str bd))).setCell ⟨g0, 4, none⟩ (.int .i64 s.minor)).setCell ⟨g0, 5, none⟩ (.slice ta zt.length tc)).setCell ⟨g0, 6, none⟩ (.int .i64 s.kind)).setCell ⟨g0, 7, none⟩ (.int .i64 s.len)).setCell ⟨g0, 8, none⟩ (.bool s.per)).drew = W9 := hW9.symm
      rw [hW9']
      have q0 := hB9'.cell 0 rfl
      have q1 := hB9'.cell 1 rfl
      have q2 := hB9'.cell 2 rfl
      have q3 := hB9'.cell 3 rfl
      have q4 := hB9'.cell 4 rfl
      have q5 := hB9'.cell 5 rfl
      have q6 := hB9'.cell 6 rfl
      have q7 := hB9'.cell 7 rfl
      have q8 := hB9'.cell 8 rfl
      clear hB9 hb9 hf9 ht9 hl9 hW9 hW9' hB9'
      refine bodyPost_ret (v := .tuple #[.agg #[.int .i64 s.st, .string (str s.rs), .slice fa s.fs.length fc, .string (str bd), .int .i64 s.minor, .slice ta zt.length tc, .int .i64 s.kind, .int .i64 s.len, .bool s.per], .int .i64 (s.used : Int), .int .i64 0]) (by simp [results, Tryz.results21, go_sem, q0, q1, q2, q3, q4, q5, q6, q7, q8]) rfl ?_
      rw [HG0.out]
      refine ⟨.slice fa s.fs.length fc, .slice ta zt.length tc, ?_, HF9.out, HT9.out, HL9.out⟩
      rw [HQ.out]
      rfl
def rspW (s : HS) (me : List UInt8) (m : Nat) : BR × List Fl :=
  if (hRun s s.piece).2 = 0 ∧ (hRun s s.piece).1.headed = true ∧ bdl me (hRun s s.piece).1.st = false ∧ (hRun s s.piece).1.kind = 2 then chkR (hRun s s.piece).1 m else (rspR s me m, [])
theorem Parse_any (me p : ByteArray) (m : Nat) (en : Bool) (hm : m ≤ 9223372036854775807) (hp : p.size ≤ 2147483647) (w : World) (hw : Env w) :
    Calls Tryz.prog 21 #[.string me, .string p, .int .i64 (m : Int), .bool en] w fun e w' => ∃ vf vt, e = .returned (.tuple #[.agg (parW (rspW (newH p.data.toList en) me.data.toList m).1 p.size vf vt).1.toArray, .int .i64 (parW (rspW (newH p.data.toList en) me.data.toList m).1 p.size vf vt).2.1, .int .i64 (parW (rspW (newH p.data.toList en) me.data.toList m).1 p.size vf vt).2.2]) ∧ OwnF 63 w.heap.size vf (rspW (newH p.data.toList en) me.data.toList m).1.s.fs w' ∧ OwnF 63 w.heap.size vt (rspW (newH p.data.toList en) me.data.toList m).2 w' ∧ Below w.heap.size w w' := by
  by_cases hc : (hRun (newH p.data.toList en) p.data.toList).2 = 0 ∧ (hRun (newH p.data.toList en) p.data.toList).1.headed = true ∧ bdl me.data.toList (hRun (newH p.data.toList en) p.data.toList).1.st = false ∧ (hRun (newH p.data.toList en) p.data.toList).1.kind = 2
  · have e : rspW (newH p.data.toList en) me.data.toList m = chkR (hRun (newH p.data.toList en) p.data.toList).1 m := if_pos hc
    rw [e]
    exact Parse_ch me p m en hm hp w hw hc.1 hc.2.1 hc.2.2.1 hc.2.2.2
  · have e : rspW (newH p.data.toList en) me.data.toList m = (rspR (newH p.data.toList en) me.data.toList m, []) := if_neg hc
    rw [e]
    have h := Parse_nc me p m en hm (by omega) w hw (fun h0 h1 h2 h3 => hc ⟨h0, h1, h2, h3⟩)
    refine h.mono (fun x w' ⟨vf, hx, h1, h2⟩ => ⟨vf, .slice none 0 0, hx, h1, ownF_nil _ _ _, h2⟩)
end Ms
end Go.Proofs.YtcelekfokbdmfaaGreatDoor
set_option linter.unusedVariables false
set_option linter.unusedSimpArgs false
set_option maxRecDepth 100000
namespace Go.Proofs.YtcelekfokbdmfaaGreatDoor
open Go.RowKit Go.Shelf
namespace Ms
open Oc Tg _root_.Go.Proofs.YtcelekfokbdmfaaGreatDoor.Fd _root_.Go.Proofs.YtcelekfokbdmfaaGreatDoor.Ck
theorem blank_is {c : UInt8} (h : blankB c = true) : ¬ valI (c.toNat : Int) < 10 := by
  have : (c.toNat : Int) = 32 ∨ (c.toNat : Int) = 9 := by
    unfold blankB blankI at h
    simp at h
    omega
  rcases this with h | h
  · rw [h]; decide +kernel
  · rw [h]; decide +kernel
theorem itoa_free (n : Nat) : (∀ c ∈ Lib.itoa (n : Int), c ≠ 44 ∧ c ≠ 34 ∧ blankB c = false) ∧ Lib.itoa (n : Int) ≠ [] := by
  rw [itoa_nat]
  refine ⟨fun c hc => ?_, dec_ne n⟩
  have h := dec_digits n c hc
  refine ⟨?_, ?_, ?_⟩
  · rintro rfl
    revert h; decide +kernel
  · rintro rfl
    revert h; decide +kernel
  · cases hb : blankB c with
    | false => rfl
    | true => exact absurd h (blank_is hb)
theorem dec_itoa (n : Nat) (h : n ≤ 1099511627776) : dec (Lib.itoa (n : Int)) = ((n : Int), 0) := by
  rw [itoa_nat]
  have := numR_zeros n 0 1099511627776
  simp only [List.replicate_zero, List.nil_append] at this
  unfold dec
  rw [this, if_neg (by omega)]
theorem back_vals {r : Rs} {m : Mn} (H : HdOk r m) : vals nTE (r.fs ++ behF r m) = (if m.ch = true then [Fd.chk] else []) ∧ vals nCL (r.fs ++ behF r m) = (if m.ch = true then [] else if nvr r.st = true then [] else [Lib.itoa (r.bd.length : Int)]) ∧ (r.st ≠ 101 → vals nCn (r.fs ++ behF r m) = cnV r m) := by
  obtain ⟨a1, a2, a3⟩ := any_no H.any
  obtain ⟨b1, b2, b3⟩ := beh_vals r m
  rw [vals_app, vals_app, vals_app, a1, a2, b1, b2, b3]
  refine ⟨List.nil_append _, List.nil_append _, fun h => ?_⟩
  rw [a3 h, List.nil_append]
def kindR (r : Rs) (m : Mn) : Int × Int := if m.ch = true then (2, 0) else if nvr r.st = true then (0, 0) else (1, (r.bd.length : Int))
theorem tok_chk (t : List Fl) (h : vals nTE t = [Fd.chk]) : codF t = ([Fd.chk], true, 0) := by
  unfold codF
  have e : tokensF nTE t = ([Fd.chk], 0) := by
    unfold tokensF listF
    rw [h]
    decide +kernel
  rw [h, if_neg (by simp), e]
  rfl
theorem cod_none (t : List Fl) (h : vals nTE t = []) : codF t = ([], false, 0) := by
  unfold codF
  rw [h, if_pos rfl]
theorem length_none (t : List Fl) (h : vals nCL t = []) : lengthF t = (0, false, 0) := by
  unfold lengthF
  rw [h, if_pos rfl]
theorem length_one (t : List Fl) (n : Nat) (hn : n ≤ 1099511627776) (h : vals nCL t = [Lib.itoa (n : Int)]) : lengthF t = ((n : Int), true, 0) := by
  obtain ⟨hf, hne⟩ := itoa_free n
  have e : listF nCL t = ([Lib.itoa (n : Int)], 0) := by
    unfold listF
    rw [h]
    exact listV_one (list_one hf hne)
  unfold lengthF
  rw [h, if_neg (by simp), e, if_pos rfl]
  have := len_ok (L := [Lib.itoa (n : Int)]) (by simp) (fun k hk => by
    have : k = 0 := by simp at hk; omega
    subst this
    have g : [Lib.itoa (n : Int)].getD 0 [] = Lib.itoa (n : Int) := rfl
    rw [g, dec_itoa n hn]
    exact ⟨rfl, rfl⟩)
  rw [this]
  show ((dec (Lib.itoa (n : Int))).1, true, (0 : Int)) = _
  rw [dec_itoa n hn]
theorem frame_back {r : Rs} {m : Mn} (H : HdOk r m) (hb : r.bd.length ≤ 1099511627776) : framingF (r.fs ++ behF r m) false = ((kindR r m).1, (kindR r m).2, 0) := by
  obtain ⟨v1, v2, _⟩ := back_vals H
  unfold framingF kindR
  by_cases hc : m.ch = true
  · rw [if_pos hc] at v1 v2 ⊢
    rw [tok_chk _ v1, length_none _ v2]
    rfl
  · rw [if_neg hc] at v1 v2 ⊢
    rw [cod_none _ v1]
    by_cases hn : nvr r.st = true
    · rw [if_pos hn] at v2 ⊢
      rw [length_none _ v2]
      rfl
    · rw [if_neg hn] at v2 ⊢
      rw [length_one _ _ hb v2]
      rfl
theorem inf_101 : inf 101 = true := by decide +kernel
theorem persist_back {r : Rs} {m : Mn} (H : HdOk r m) (hi : inf r.st = false) : persistF (r.fs ++ behF r m) false = !m.cl := by
  have h101 : r.st ≠ 101 := fun e => by rw [e, inf_101] at hi; cases hi
  have v : vals nCo (r.fs ++ behF r m) = cnV r m := (back_vals H).2.2 h101
  unfold cnV at v
  rw [if_neg (by rw [hi]; simp)] at v
  cases hc : m.cl with
  | true =>
    rw [hc, if_pos rfl] at v
    have e : tokensF nCo (r.fs ++ behF r m) = ([cls], 0) := by
      unfold tokensF listF
      rw [v]
      decide +kernel
    unfold persistF
    rw [e]
    decide +kernel
  | false =>
    rw [hc, if_neg (by simp)] at v
    by_cases ho : m.old = true
    · rw [if_pos ho] at v
      have e : tokensF nCo (r.fs ++ behF r m) = ([kal], 0) := by
        unfold tokensF listF
        rw [v]
        decide +kernel
      unfold persistF
      rw [e]
      decide +kernel
    · rw [if_neg ho] at v
      have e : tokensF nCo (r.fs ++ behF r m) = ([], 0) := by
        unfold tokensF listF
        rw [v]
        decide +kernel
      unfold persistF
      rw [e]
      decide +kernel
def backS (r : Rs) (m : Mn) (rest : List UInt8) (en : Bool) : HS := ⟨rest, en, (headR r m).1.length, 0, [], (headR r m).1.length, true, r.st, rsnR r, r.fs ++ behF r m, 1, (kindR r m).1, (kindR r m).2, persistF (r.fs ++ behF r m) false⟩
theorem run_headed (s : HS) (h : s.headed = true) : ∀ l, hRun s l = (s, 0)
  | [] => rfl
  | u :: t => if_pos h
def oneS (r : Rs) (p : List UInt8) (en : Bool) : HS := ⟨p, en, (stL r).length + 2, 0, [], (stL r).length + 2, false, r.st, rsnR r, [], 1, 0, 0, false⟩
theorem run_first (r : Rs) (h1 : 100 ≤ r.st) (h2 : r.st ≤ 599) (hr : isRs (rsnR r) = true) (hl : (stL r).length + 2 ≤ 65536) (p rest : List UInt8) (en : Bool) : hRun (newH p en) (stL r ++ 13 :: 10 :: rest) = hRun (oneS r rest en) rest := by
  have h := run_line (stL r) (newH p en) rest rfl (stL_plain r h1 h2 hr) (by show 0 + (stL r).length + 2 ≤ 65536; omega) (fun x hx => by cases hx) (fun _ => stL_gon r h1 h2 hr)
  rw [h]
  have hE := hEnd_first { newH p en with piece := rest, used := (newH p en).used + (stL r).length + 2, line := (newH p en).line ++ stL r ++ [13] } (stL r) rfl rfl
  have hS := stL_says r h1 h2 { newH p en with piece := rest, used := (newH p en).used + (stL r).length + 2, line := [], lineAt := (newH p en).used + (stL r).length + 2 }
  have eu : (newH p en).used + (stL r).length + 2 = (stL r).length + 2 := by show 0 + _ + 2 = _; omega
  rw [hE]
  rw [if_neg (fun h => h rfl)]
  refine Eq.trans (b := hRun { newH p en with piece := rest, used := (newH p en).used + (stL r).length + 2, line := [], lineAt := (newH p en).used + (stL r).length + 2, st := r.st, rs := rsnR r, minor := 1 } rest) (congrArg (hRun · rest) hS) ?_
  rw [eu]
  rfl
theorem run_last (s : HS) (rest : List UInt8) (hh : s.headed = false) (hla : s.lineAt ≠ 0) (hln : s.line = []) (hu : s.used + 2 ≤ 65536) (k n : Int) (hf : framingF s.fs (s.minor == 0) = (k, n, 0)) :
    hRun s (13 :: 10 :: rest) = ({ s with piece := rest, used := s.used + 2, line := [], lineAt := s.used + 2, headed := true, kind := k, len := n, per := persistF s.fs (s.minor == 0) }, 0) := by
  have h := run_line [] s rest hh (fun x hx => by cases hx) (by simp only [List.length_nil]; omega) (by rw [hln]; intro x hx; cases hx) (fun h => absurd h hla)
  rw [List.nil_append] at h
  rw [h]
  have hE := hEnd_last { s with piece := rest, used := s.used + ([] : List UInt8).length + 2, line := s.line ++ [] ++ [13] } hla (by dsimp only; rw [hln]; rfl)
  rw [hE]
  unfold hHead
  dsimp only
  rw [hf]
  dsimp only
  rw [if_neg (fun h => h rfl), if_neg (fun h => h rfl), run_headed _ rfl]
  rfl
theorem head_back {r : Rs} {m : Mn} (h : (headR r m).2 = 0) (hl : (headR r m).1.length ≤ 65536) (hb : r.bd.length ≤ 1099511627776) (rest : List UInt8) (en : Bool) :
    hRun (newH ((headR r m).1 ++ rest) en) ((headR r m).1 ++ rest) = (backS r m rest en, 0) := by
  have H := hd_ok h
  have F := frame_back H hb
  unfold backS
  rw [H.is] at hl ⊢
  have hright := H.right
  have hlen := H.len
  have hst := H.st
  have hrs := H.rs
  generalize r.fs ++ behF r m = T at *
  have e := hdP_st r (textOf T) rest
  have hL : (hdP r (textOf T)).length = (stL r).length + 2 + (textOf T).length + 2 := by
    have e0 := hdP_st r (textOf T) []
    rw [List.append_nil] at e0
    rw [e0]
    simp
    omega
  rw [hL] at hl ⊢
  rw [e]
  rw [run_first r hst.1 hst.2 hrs (by omega)]
  obtain ⟨la, hla, e2⟩ := run_fields T (oneS r (textOf T ++ ([] ++ 13 :: 10 :: rest)) en) ([] ++ 13 :: 10 :: rest) rfl (by unfold oneS; dsimp only; omega) rfl hright (by show 0 + T.length ≤ 100; omega) (by show (stL r).length + 2 + (textOf T).length ≤ 65536; omega)
  rw [e2, List.nil_append]
  have em : ((1 : Int) == 0) = false := by decide
  have hl2 := run_last { oneS r (textOf T ++ 13 :: 10 :: rest) en with piece := (if T = [] then (oneS r (textOf T ++ 13 :: 10 :: rest) en).piece else 13 :: 10 :: rest), used := (stL r).length + 2 + (textOf T).length, line := [], lineAt := la, fs := T } rest rfl hla rfl (by dsimp only; omega) (kindR r m).1 (kindR r m).2 (by show framingF T ((1 : Int) == 0) = _; rw [em]; exact F)
  refine Eq.trans ?_ (hl2.trans ?_)
  · rfl
  · have : persistF T ((1 : Int) == 0) = persistF T false := by rw [em]
    show (_, _) = (_, _)
    dsimp only [oneS]
    rw [this]
end Ms
end Go.Proofs.YtcelekfokbdmfaaGreatDoor
set_option linter.unusedVariables false
set_option linter.unusedSimpArgs false
set_option maxRecDepth 100000
namespace Go.Proofs.YtcelekfokbdmfaaGreatDoor
open Go.RowKit Go.Shelf
namespace Ms
open Oc Tg _root_.Go.Proofs.YtcelekfokbdmfaaGreatDoor.Fd _root_.Go.Proofs.YtcelekfokbdmfaaGreatDoor.Ck
theorem bdl_no {me : List UInt8} {n : Int} (h : bdl me n = false) : nvr n = false ∧ inf n = false := by
  unfold bdl at h
  rw [Bool.or_eq_false_iff] at h
  refine ⟨h.1, ?_⟩
  have := h.1
  unfold nvr at this
  rw [Bool.or_eq_false_iff] at this
  exact this.1
theorem prn_enc (r : Rs) (m : Mn) (h : (prnR r m).2 = 0) (hc : m.ch = true) : (encR r.bd m.sz m.tr).2 = 0 := by
  unfold prnR at h
  unfold prnN at h
  rw [if_neg (by rw [hc]; simp)] at h
  generalize headR r m = H at *
  generalize encR r.bd m.sz m.tr = E at *
  by_cases h1 : H.2 = 0
  · rw [if_neg (by simp [h1])] at h
    by_cases h2 : 65536 < H.1.length
    · rw [if_pos h2] at h
      simp at h
    · rw [if_neg h2] at h
      by_cases h3 : E.2 = 0
      · exact h3
      · rw [if_pos h3] at h
        exact absurd h h3
  · rw [if_pos h1] at h
    exact absurd h h1
theorem enc_ok {b : List UInt8} {l : List Int} {t : List Fl} (h : (encR b l t).2 = 0) : t.all okT = true ∧ (encR b l t).1 = encL b l t := by
  unfold encR at h ⊢
  by_cases h1 : 0 ≤ lowI1 l
  · rw [if_pos h1] at h; simp at h
  rw [if_neg h1] at h ⊢
  by_cases h2 : t.all okT = true
  · rw [if_pos h2]
    exact ⟨h2, rfl⟩
  · rw [if_neg h2] at h; simp at h
structure BackOk (r : Rs) (m : Mn) (n : Nat) (P : BR × List Fl) : Prop where
  done : P.1.done = true
  err : P.1.err = 0
  st : P.1.s.st = r.st
  fs : P.1.s.fs = r.fs ++ behF r m
  minor : P.1.s.minor = 1
  used : P.1.s.used = n
  no : bdl m.me r.st = true → P.1.bd = []
  yes : bdl m.me r.st = false → P.1.bd = r.bd ∧ P.2 = m.tr ∧ (P.1.s.kind == 2) = m.ch ∧ P.1.s.per = !m.cl
theorem with_me (m : Mn) : withM m m.me = m := rfl
theorem misf_in {r : Rs} {m : Mn} (h : misf r m = false) (hc : m.ch = false) : m.tr = [] := by
  unfold misf inP at h
  rw [hc] at h
  simp at h
  exact h.2.2
theorem rsp_back {r : Rs} {m : Mn} (h : (prnR r m).2 = 0) (hb : r.bd.length ≤ 1099511627776) (ht : m.tr.length ≤ 100) (hz : (trailG m.tr).length + 2 ≤ 65536) (behind : List UInt8) :
    BackOk r m (prnR r m).1.length (rspW (newH ((prnR r m).1 ++ behind) false) m.me r.bd.length) := by
  obtain ⟨h1, hl, e⟩ := prn_yes r m h m.me
  rw [with_me] at e
  have H := hd_ok h1
  by_cases hbd : bdl m.me r.st = true
  · rw [if_pos hbd] at e
    have Y := head_back h1 hl hb behind false
    have hr : rspW (newH ((prnR r m).1 ++ behind) false) m.me r.bd.length = (⟨true, 0, backS r m behind false, [], []⟩, []) := by
      rw [e]
      dsimp only
      unfold rspW rspR
      have ep : (newH ((headR r m).1 ++ behind) false).piece = (headR r m).1 ++ behind := rfl
      rw [ep, Y]
      dsimp only
      have es : (backS r m behind false).st = r.st := rfl
      rw [es, hbd, if_neg (by simp), if_neg (by simp [backS]), if_pos rfl]
    rw [hr, e]
    exact ⟨rfl, rfl, rfl, rfl, rfl, rfl, fun _ => rfl, fun h => by rw [h] at hbd; cases hbd⟩
  · have hbf : bdl m.me r.st = false := by simpa using hbd
    obtain ⟨hn, hi⟩ := bdl_no hbf
    rw [if_neg hbd] at e
    have Y := head_back h1 hl hb (bodR r m ++ behind) false
    have per := persist_back H hi
    have hp1 : (prnR r m).1 = (headR r m).1 ++ bodR r m := by rw [e]
    rw [hp1, List.append_assoc]
    have ep : (newH ((headR r m).1 ++ (bodR r m ++ behind)) false).piece = (headR r m).1 ++ (bodR r m ++ behind) := rfl
    have es : (backS r m (bodR r m ++ behind) false).st = r.st := rfl
    have eh : (backS r m (bodR r m ++ behind) false).headed = true := rfl
    by_cases hc : m.ch = true
    · have ek : kindR r m = (2, 0) := if_pos hc
      obtain ⟨o1, o2⟩ := enc_ok (prn_enc r m h hc)
      have eb : bodR r m = encL r.bd m.sz m.tr := by
        unfold bodR
        rw [if_pos hc, o2]
      have E := eat_enc (most := (r.bd.length : Int)) (room := 65536) (fields := 100) r.bd m.sz m.tr behind hb (Int.le_refl _) o1 (by omega) (by omega)
      have hr : rspW (newH ((headR r m).1 ++ (bodR r m ++ behind)) false) m.me r.bd.length = chkR (backS r m (bodR r m ++ behind) false) r.bd.length := by
        unfold rspW
        rw [ep, Y]
        dsimp only
        rw [es, eh, hbf, if_pos ⟨rfl, rfl, rfl, by show (kindR r m).1 = 2; rw [ek]⟩]
      have hk : chkR (backS r m (bodR r m ++ behind) false) r.bd.length = (⟨true, 0, bNext (backS r m (bodR r m ++ behind) false) (bodR r m).length, [], r.bd⟩, m.tr) := by
        unfold chkR
        have epp : (backS r m (bodR r m ++ behind) false).piece = bodR r m ++ behind := rfl
        rw [epp, eb]
        obtain ⟨s1, s2, s3, s4, s5⟩ := E
        rw [s1, s2, s3, s4, s5, if_neg (by simp), if_pos rfl]
      rw [hr, hk]
      refine ⟨rfl, rfl, rfl, rfl, rfl, by rw [List.length_append]; rfl, fun h => absurd h hbd, fun _ => ⟨rfl, rfl, ?_, per⟩⟩
      show ((kindR r m).1 == 2) = m.ch
      rw [ek, hc]
      rfl
    · have hcf : m.ch = false := by simpa using hc
      have ek : kindR r m = (1, (r.bd.length : Int)) := by
        unfold kindR
        rw [if_neg hc, if_neg (by rw [hn]; simp)]
      have eb : bodR r m = r.bd := by
        unfold bodR
        rw [if_neg hc]
      have ek1 : (backS r m (bodR r m ++ behind) false).kind = 1 := by show (kindR r m).1 = 1; rw [ek]
      have el1 : (backS r m (bodR r m ++ behind) false).len.toNat = r.bd.length := by show (kindR r m).2.toNat = _; rw [ek]; rfl
      have hr : rspW (newH ((headR r m).1 ++ (bodR r m ++ behind)) false) m.me r.bd.length = (lenR (backS r m (bodR r m ++ behind) false) [] r.bd.length r.bd.length, []) := by
        unfold rspW rspR
        rw [ep, Y]
        dsimp only
        rw [es, eh, hbf, ek1, el1, if_neg (by rintro ⟨_, _, _, h⟩; cases h), if_neg (by simp), if_neg (by simp), if_pos rfl]
      have hk : lenR (backS r m (bodR r m ++ behind) false) [] r.bd.length r.bd.length = ⟨true, 0, bNext (backS r m (bodR r m ++ behind) false) (bodR r m).length, [] ++ r.bd, [] ++ r.bd⟩ := by
        have epp : (backS r m (bodR r m ++ behind) false).piece = bodR r m ++ behind := rfl
        have et : took (backS r m (bodR r m ++ behind) false) [] r.bd.length = r.bd.length := by
          unfold took
          rw [epp, eb, List.length_append]
          simp only [List.length_nil]
          omega
        unfold lenR
        rw [et, epp, eb, if_neg (by omega), if_neg (by simp), List.take_left']
        rfl
      rw [hr, hk]
      refine ⟨rfl, rfl, rfl, rfl, rfl, by rw [List.length_append]; rfl, fun h => absurd h hbd, fun _ => ⟨rfl, (misf_in H.mis hcf).symm, ?_, per⟩⟩
      show ((kindR r m).1 == 2) = m.ch
      rw [ek, hcf]
      rfl
end Ms
end Go.Proofs.YtcelekfokbdmfaaGreatDoor
