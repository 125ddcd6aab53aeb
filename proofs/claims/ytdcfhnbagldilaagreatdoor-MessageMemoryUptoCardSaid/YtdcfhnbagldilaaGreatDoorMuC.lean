import Derived.Test.YtdcfhnbagldilaaGreatDoorMgZ
import Derived.Test.YtdcfhnbagldilaaGreatDoorMgY
set_option linter.unusedVariables false
set_option linter.unusedSimpArgs false
set_option maxRecDepth 100000
namespace Go.Proofs.YtdcfhnbagldilaaGreatDoor
open Go.RowKit Go.Shelf
namespace Ms
open Oc Tg _root_.Go.Proofs.YtdcfhnbagldilaaGreatDoor.Fd _root_.Go.Proofs.YtdcfhnbagldilaaGreatDoor.Ck
def parW (R : BR) (z : Nat) (vf vt : Value) : List Value × Int × Int :=
  if R.err ≠ 0 then (zeroC, R.s.wrong, R.err) else if R.done = false then (zeroC, (z : Int), 124) else (repC R.s R.bd vf vt, (R.s.used : Int), 0)
set_option maxHeartbeats 4000000 in
theorem Parse_ch (me p : ByteArray) (m : Nat) (en : Bool) (hm : m ≤ 9223372036854775807) (hp : p.size ≤ 2147483647) (w : World) (hw : Env w)
    (hc0 : (hRun (newH p.data.toList en) p.data.toList).2 = 0) (hc1 : (hRun (newH p.data.toList en) p.data.toList).1.headed = true) (hc2 : bdl me.data.toList (hRun (newH p.data.toList en) p.data.toList).1.st = false) (hc3 : (hRun (newH p.data.toList en) p.data.toList).1.kind = 2) :
    Calls Tryz.prog 9 #[.string me, .string p, .int .i64 (m : Int), .bool en] w fun e w' => ∃ vf vt, e = .returned (.tuple #[.agg (parW (chkR (hRun (newH p.data.toList en) p.data.toList).1 m).1 p.size vf vt).1.toArray, .int .i64 (parW (chkR (hRun (newH p.data.toList en) p.data.toList).1 m).1 p.size vf vt).2.1, .int .i64 (parW (chkR (hRun (newH p.data.toList en) p.data.toList).1 m).1 p.size vf vt).2.2]) ∧ OwnF 47 w.heap.size vf (chkR (hRun (newH p.data.toList en) p.data.toList).1 m).1.s.fs w' ∧ OwnF 47 w.heap.size vt (chkR (hRun (newH p.data.toList en) p.data.toList).1 m).2 w' ∧ Below w.heap.size w w' := by
  obtain ⟨k1, k2, k3⟩ := newH_ok p.data.toList en
  obtain ⟨wR, hwR⟩ : ∃ wR, wR = w.alloc (.cells #[.int .i64 0, .string ⟨#[]⟩, .slice none 0 0, .string ⟨#[]⟩, .int .i64 0, .slice none 0 0, .int .i64 0, .int .i64 0, .bool false] 31) := ⟨_, rfl⟩
  have hbR : Below w.heap.size w wR := by rw [hwR]; exact (Below.refl _ w).alloc (Nat.le_refl _) _
  have hRb : Blk 31 wR w.heap.size zeroC := by rw [hwR]; exact heap_alloc_new w _
  have hRs : wR.heap.size = w.heap.size + 1 := by rw [hwR]; simp
  obtain ⟨wS, hwS⟩ : ∃ wS, wS = wR.alloc (.cells #[.string p, .bool en, .int .i64 0, .int .i64 0, .slice none 0 0, .int .i64 0, .bool false, .slice none 0 0, .pointer none, .int .i64 0, .string ⟨#[]⟩, .slice none 0 0, .string ⟨#[]⟩, .int .i64 0, .slice none 0 0, .int .i64 0, .int .i64 0, .bool false] 56) := ⟨_, rfl⟩
  have hstr : lcH (newH p.data.toList en) (.slice none 0 0) (.slice none 0 0) [] = [.string p, .bool en, .int .i64 0, .int .i64 0, .slice none 0 0, .int .i64 0, .bool false, .slice none 0 0, .pointer none, .int .i64 0, .string ⟨#[]⟩, .slice none 0 0, .string ⟨#[]⟩, .int .i64 0, .slice none 0 0, .int .i64 0, .int .i64 0, .bool false] := by
    show (Value.string (str p.data.toList) :: _) = _
    rw [str_self]
    rfl
  have hbS : Below wR.heap.size wR wS := by rw [hwS]; exact (Below.refl _ wR).alloc (Nat.le_refl _) _
  have hSb : Blk 56 wS wR.heap.size (lcH (newH p.data.toList en) (.slice none 0 0) (.slice none 0 0) []) := by rw [hstr, hwS]; exact heap_alloc_new wR _
  have hD : HdS 56 [] wS wR.heap.size (newH p.data.toList en) [wR.heap.size] := ⟨.slice none 0 0, .slice none 0 0, ⟨hSb, World.ownsRow_nil _ _ _ _, World.ownsRow_nil _ _ _ _⟩, rfl⟩
  have hB : Base wR wS [wR.heap.size] := ⟨hw.below hbR, hbS, fun x hx => by simp at hx; omega⟩
  have hRr := readResponse_ch tok_stream hB hD k1 k2 k3 (by show p.data.toList.length ≤ _; rw [size_list]; omega) me m hm (by decide) (by show p.data.toList.length ≤ _; rw [size_list]; omega) hc0 hc1 hc2 hc3
  have e1 : (newH p.data.toList en).piece = p.data.toList := rfl
  rw [e1] at hRr
  have HBR : Hid (Below w.heap.size w wR) := hbR
  have HRB : Hid (Blk 31 wR w.heap.size zeroC) := hRb
  have HBS : Hid (Base wR wS [wR.heap.size]) := hB
  have HRS : Hid (wR.heap.size = w.heap.size + 1) := hRs
  generalize chkR (hRun (newH p.data.toList en) p.data.toList).1 m = Z at *
  obtain ⟨R, zt⟩ := Z
  dsimp only at hRr ⊢
  rw [hRs] at hRr
  have HRr : Hid (Calls _ _ _ _ _) := hRr
  clear hRr hB hD hSb hbS hstr hRb hbR k1 k2 k3 hc0 hc1 hc2 hc3 e1
  go_enter Tryz.func9, Tryz.ntmps9
  go_wp2_with fail
  rw [← hwR, ← hwS]
  refine HRr.out.mono ?_
  rintro e w3 ⟨rfl, ⟨vf, vt, hC, hvf⟩, hb3⟩
  have hb3 : Below wR.heap.size wR w3 := by rw [HRS.out]; exact hb3
  have HB3 : Hid (Below w.heap.size w w3) := HBR.out.trans (hb3.mono HBR.out.size)
  have HR3 : Hid (Blk 31 w3 w.heap.size zeroC) := HRB.out.below hb3
  have HFs : Hid (OwnF 47 w.heap.size vf R.s.fs w3) := owns_base hC.fs (fun g hg => by
    have := hvf g hg
    have h2 := HRS.out
    omega)
  have HTs : Hid (OwnF 47 w.heap.size vt zt w3) := own_upF hC.tr (by have := HRS.out; omega)
  obtain ⟨vl, vb, pc, hstr⟩ := hC.str
  obtain ⟨fa, fc, rfl⟩ := ownF_form hC.fs
  obtain ⟨ta, tc, rfl⟩ := ownF_form hC.tr
  have HI3 : Hid (Blk 56 w3 (w.heap.size + 1) (lcC R.s R.bd vl vb (.slice fa R.s.fs.length fc) pc (.slice ta zt.length tc) [])) := hstr
  clear hb3 hvf hC hstr HRr HBS HRB hwR hwS hRs
  generalize hg0 : w.heap.size = g0 at *
  have HG0 : Hid (w.heap.size = g0) := hg0
  clear hg0
  have r0 := HR3.out.cell 0 rfl
  have r1 := HR3.out.cell 1 rfl
  have r2 := HR3.out.cell 2 rfl
  have r3 := HR3.out.cell 3 rfl
  have r4 := HR3.out.cell 4 rfl
  have r5 := HR3.out.cell 5 rfl
  have r6 := HR3.out.cell 6 rfl
  have r7 := HR3.out.cell 7 rfl
  have r8 := HR3.out.cell 8 rfl
  have rf := HR3.out.free
  obtain ⟨done, err, s, body, bd⟩ := R
  dsimp only at HFs HI3 HTs
  have HP : Hid (∀ v u, parW ⟨done, err, s, body, bd⟩ p.size v u = if err ≠ 0 then (zeroC, s.wrong, err) else if done = false then (zeroC, (p.size : Int), 124) else (repC s bd v u, (s.used : Int), 0)) := fun _ _ => rfl
  have c3 : w3.cell? ⟨g0 + 1, 3, none⟩ = some (.int .i64 s.wrong) := HI3.out.cell 3 rfl
  dsimp only
  by_cases he : err = 0
  case neg =>
    have he1 : (err != 0) = true := by simp [he]
    have HQ : Hid (∀ v u, parW ⟨done, err, s, body, bd⟩ p.size v u = (zeroC, s.wrong, err)) := fun v u => (HP.out v u).trans (if_pos he)
    have d3 : w3.drew.cell? ⟨g0 + 1, 3, none⟩ = some (.int .i64 s.wrong) := c3
    clear he HP
    go_wp2_with fail
    go_region_law (fail)
    all_goals
      go_simp
      go_wp2
      have hB9 := set9_blk HR3.out (.int .i64 0) (.string ⟨#[]⟩) (.slice none 0 0) (.string ⟨#[]⟩) (.int .i64 0) (.slice none 0 0) (.int .i64 0) (.int .i64 0) (.bool false)
      have hb9 := set9_but w3 g0 (.int .i64 0) (.string ⟨#[]⟩) (.slice none 0 0) (.string ⟨#[]⟩) (.int .i64 0) (.slice none 0 0) (.int .i64 0) (.int .i64 0) (.bool false)
      have hf9 : OwnF 47 g0 (.slice fa s.fs.length fc) s.fs (set9 w3 g0 (.int .i64 0) (.string ⟨#[]⟩) (.slice none 0 0) (.string ⟨#[]⟩) (.int .i64 0) (.slice none 0 0) (.int .i64 0) (.int .i64 0) (.bool false)) := HR3.out.keep HFs.out (by decide) hb9
      have ht9 : OwnF 47 g0 (.slice ta zt.length tc) zt (set9 w3 g0 (.int .i64 0) (.string ⟨#[]⟩) (.slice none 0 0) (.string ⟨#[]⟩) (.int .i64 0) (.slice none 0 0) (.int .i64 0) (.int .i64 0) (.bool false)) := HR3.out.keep HTs.out (by decide) hb9
      have hl9 : Below g0 w3 (set9 w3 g0 (.int .i64 0) (.string ⟨#[]⟩) (.slice none 0 0) (.string ⟨#[]⟩) (.int .i64 0) (.slice none 0 0) (.int .i64 0) (.int .i64 0) (.bool false)) := hb9.below (by have := HR3.out.lt; omega) (fun x hx => by simp at hx; omega)
      obtain ⟨W9, hW9⟩ : ∃ W9, W9 = (set9 w3 g0 (.int .i64 0) (.string ⟨#[]⟩) (.slice none 0 0) (.string ⟨#[]⟩) (.int .i64 0) (.slice none 0 0) (.int .i64 0) (.int .i64 0) (.bool false)).drew := ⟨_, rfl⟩
      have hB9' : Blk 31 W9 g0 [.int .i64 0, .string ⟨#[]⟩, .slice none 0 0, .string ⟨#[]⟩, .int .i64 0, .slice none 0 0, .int .i64 0, .int .i64 0, .bool false] := by rw [hW9]; exact hB9.but (But.refl [] _).drew (fun e => by cases e)
      have HF9 : Hid (OwnF 47 g0 (.slice fa s.fs.length fc) s.fs W9) := (by rw [hW9]; exact (But.refl [] _).drew.owns hf9 (fun _ _ e => by cases e) : OwnF _ _ _ _ _)
      have HT9 : Hid (OwnF 47 g0 (.slice ta zt.length tc) zt W9) := (by rw [hW9]; exact (But.refl [] _).drew.owns ht9 (fun _ _ e => by cases e) : OwnF _ _ _ _ _)
      have HL9 : Hid (Below g0 w W9) := (by rw [hW9]; exact HB3.out.trans hl9.drew : Below _ _ _)
      have hW9' : (((((((((w3.setCell ⟨g0, 0, none⟩ (.int .i64 0)).setCell ⟨g0, 1, none⟩ (.string ⟨#[]⟩)).setCell ⟨g0, 2, none⟩ (.slice none 0 0)).setCell ⟨g0, 3, none⟩ (.string ⟨#[]⟩)).setCell ⟨g0, 4, none⟩ (.int .i64 0)).setCell ⟨g0, 5, none⟩ (.slice none 0 0)).setCell ⟨g0, 6, none⟩ (.int .i64 0)).setCell ⟨g0, 7, none⟩ (.int .i64 0)).setCell ⟨g0, 8, none⟩ (.bool false)).drew = W9 := hW9.symm
      rw [hW9']
      have q0 := hB9'.cell 0 rfl
      have q1 := hB9'.cell 1 rfl
      have q2 := hB9'.cell 2 rfl
      have q3 := hB9'.cell 3 rfl
      have q4 := hB9'.cell 4 rfl
      have q5 := hB9'.cell 5 rfl
      have q6 := hB9'.cell 6 rfl
      have q7 := hB9'.cell 7 rfl
      have q8 := hB9'.cell 8 rfl
      clear hB9 hb9 hf9 ht9 hl9 hW9 hW9' hB9'
      refine bodyPost_ret (v := .tuple #[.agg #[.int .i64 0, .string ⟨#[]⟩, .slice none 0 0, .string ⟨#[]⟩, .int .i64 0, .slice none 0 0, .int .i64 0, .int .i64 0, .bool false], .int .i64 s.wrong, .int .i64 err]) (by simp [results, Tryz.results9, go_sem, q0, q1, q2, q3, q4, q5, q6, q7, q8]) rfl ?_
      rw [HG0.out]
      refine ⟨.slice fa s.fs.length fc, .slice ta zt.length tc, ?_, HF9.out, HT9.out, HL9.out⟩
      rw [HQ.out]
      rfl
  subst he
  have HP2 : Hid (∀ v u, parW ⟨done, 0, s, body, bd⟩ p.size v u = if done = false then (zeroC, (p.size : Int), 124) else (repC s bd v u, (s.used : Int), 0)) := fun v u => (HP.out v u).trans (if_neg (fun h => h rfl))
  cases done with
  | false =>
    have HQ : Hid (∀ v u, parW ⟨false, 0, s, body, bd⟩ p.size v u = (zeroC, (p.size : Int), 124)) := fun v u => (HP2.out v u).trans (if_pos rfl)
    clear HP HP2
    go_wp2
    have hB9 := set9_blk HR3.out (.int .i64 0) (.string ⟨#[]⟩) (.slice none 0 0) (.string ⟨#[]⟩) (.int .i64 0) (.slice none 0 0) (.int .i64 0) (.int .i64 0) (.bool false)
    have hb9 := set9_but w3 g0 (.int .i64 0) (.string ⟨#[]⟩) (.slice none 0 0) (.string ⟨#[]⟩) (.int .i64 0) (.slice none 0 0) (.int .i64 0) (.int .i64 0) (.bool false)
    have hf9 : OwnF 47 g0 (.slice fa s.fs.length fc) s.fs (set9 w3 g0 (.int .i64 0) (.string ⟨#[]⟩) (.slice none 0 0) (.string ⟨#[]⟩) (.int .i64 0) (.slice none 0 0) (.int .i64 0) (.int .i64 0) (.bool false)) := HR3.out.keep HFs.out (by decide) hb9
    have ht9 : OwnF 47 g0 (.slice ta zt.length tc) zt (set9 w3 g0 (.int .i64 0) (.string ⟨#[]⟩) (.slice none 0 0) (.string ⟨#[]⟩) (.int .i64 0) (.slice none 0 0) (.int .i64 0) (.int .i64 0) (.bool false)) := HR3.out.keep HTs.out (by decide) hb9
    have hl9 : Below g0 w3 (set9 w3 g0 (.int .i64 0) (.string ⟨#[]⟩) (.slice none 0 0) (.string ⟨#[]⟩) (.int .i64 0) (.slice none 0 0) (.int .i64 0) (.int .i64 0) (.bool false)) := hb9.below (by have := HR3.out.lt; omega) (fun x hx => by simp at hx; omega)
    obtain ⟨W9, hW9⟩ : ∃ W9, W9 = (set9 w3 g0 (.int .i64 0) (.string ⟨#[]⟩) (.slice none 0 0) (.string ⟨#[]⟩) (.int .i64 0) (.slice none 0 0) (.int .i64 0) (.int .i64 0) (.bool false)) := ⟨_, rfl⟩
    have hB9' : Blk 31 W9 g0 [.int .i64 0, .string ⟨#[]⟩, .slice none 0 0, .string ⟨#[]⟩, .int .i64 0, .slice none 0 0, .int .i64 0, .int .i64 0, .bool false] := by rw [hW9]; exact hB9
    have HF9 : Hid (OwnF 47 g0 (.slice fa s.fs.length fc) s.fs W9) := (by rw [hW9]; exact hf9 : OwnF _ _ _ _ _)
    have HT9 : Hid (OwnF 47 g0 (.slice ta zt.length tc) zt W9) := (by rw [hW9]; exact ht9 : OwnF _ _ _ _ _)
    have HL9 : Hid (Below g0 w W9) := (by rw [hW9]; exact HB3.out.trans hl9 : Below _ _ _)
    have hW9' : (((((((((w3.setCell ⟨g0, 0, none⟩ (.int .i64 0)).setCell ⟨g0, 1, none⟩ (.string ⟨#[]⟩)).setCell ⟨g0, 2, none⟩ (.slice none 0 0)).setCell ⟨g0, 3, none⟩ (.string ⟨#[]⟩)).setCell ⟨g0, 4, none⟩ (.int .i64 0)).setCell ⟨g0, 5, none⟩ (.slice none 0 0)).setCell ⟨g0, 6, none⟩ (.int .i64 0)).setCell ⟨g0, 7, none⟩ (.int .i64 0)).setCell ⟨g0, 8, none⟩ (.bool false)) = W9 := hW9.symm
    rw [hW9']
    have q0 := hB9'.cell 0 rfl
    have q1 := hB9'.cell 1 rfl
    have q2 := hB9'.cell 2 rfl
    have q3 := hB9'.cell 3 rfl
    have q4 := hB9'.cell 4 rfl
    have q5 := hB9'.cell 5 rfl
    have q6 := hB9'.cell 6 rfl
    have q7 := hB9'.cell 7 rfl
    have q8 := hB9'.cell 8 rfl
    clear hB9 hb9 hf9 ht9 hl9 hW9 hW9' hB9'
    refine bodyPost_ret (v := .tuple #[.agg #[.int .i64 0, .string ⟨#[]⟩, .slice none 0 0, .string ⟨#[]⟩, .int .i64 0, .slice none 0 0, .int .i64 0, .int .i64 0, .bool false], .int .i64 (p.size : Int), .int .i64 124]) (by simp [results, Tryz.results9, go_sem, q0, q1, q2, q3, q4, q5, q6, q7, q8]) rfl ?_
    rw [HG0.out]
    refine ⟨.slice fa s.fs.length fc, .slice ta zt.length tc, ?_, HF9.out, HT9.out, HL9.out⟩
    rw [HQ.out]
    rfl
  | true =>
    have HQ : Hid (∀ v u, parW ⟨true, 0, s, body, bd⟩ p.size v u = (repC s bd v u, (s.used : Int), 0)) := fun v u => (HP2.out v u).trans (if_neg (by simp))
    clear HP HP2
    have c2 : w3.cell? ⟨g0 + 1, 2, none⟩ = some (.int .i64 (s.used : Int)) := HI3.out.cell 2 rfl
    have c9 : w3.cell? ⟨g0 + 1, 9, none⟩ = some (.int .i64 s.st) := HI3.out.cell 9 rfl
    have c10 : w3.cell? ⟨g0 + 1, 10, none⟩ = some (.string (str s.rs)) := HI3.out.cell 10 rfl
    have c11 : w3.cell? ⟨g0 + 1, 11, none⟩ = some (.slice fa s.fs.length fc) := HI3.out.cell 11 rfl
    have c12 : w3.cell? ⟨g0 + 1, 12, none⟩ = some (.string (str bd)) := HI3.out.cell 12 rfl
    have c13 : w3.cell? ⟨g0 + 1, 13, none⟩ = some (.int .i64 s.minor) := HI3.out.cell 13 rfl
    have c14 : w3.cell? ⟨g0 + 1, 14, none⟩ = some (.slice ta zt.length tc) := HI3.out.cell 14 rfl
    have c15 : w3.cell? ⟨g0 + 1, 15, none⟩ = some (.int .i64 s.kind) := HI3.out.cell 15 rfl
    have c16 : w3.cell? ⟨g0 + 1, 16, none⟩ = some (.int .i64 s.len) := HI3.out.cell 16 rfl
    have c17 : w3.cell? ⟨g0 + 1, 17, none⟩ = some (.bool s.per) := HI3.out.cell 17 rfl
    go_wp2_with fail
    go_region_law (fail)
    all_goals
      go_simp
      go_wp2
      have hB9 := set9_blk HR3.out (.int .i64 s.st) (.string (str s.rs)) (.slice fa s.fs.length fc) (.string (str bd)) (.int .i64 s.minor) (.slice ta zt.length tc) (.int .i64 s.kind) (.int .i64 s.len) (.bool s.per)
      have hb9 := set9_but w3 g0 (.int .i64 s.st) (.string (str s.rs)) (.slice fa s.fs.length fc) (.string (str bd)) (.int .i64 s.minor) (.slice ta zt.length tc) (.int .i64 s.kind) (.int .i64 s.len) (.bool s.per)
      have hf9 : OwnF 47 g0 (.slice fa s.fs.length fc) s.fs (set9 w3 g0 (.int .i64 s.st) (.string (str s.rs)) (.slice fa s.fs.length fc) (.string (str bd)) (.int .i64 s.minor) (.slice ta zt.length tc) (.int .i64 s.kind) (.int .i64 s.len) (.bool s.per)) := HR3.out.keep HFs.out (by decide) hb9
      have ht9 : OwnF 47 g0 (.slice ta zt.length tc) zt (set9 w3 g0 (.int .i64 s.st) (.string (str s.rs)) (.slice fa s.fs.length fc) (.string (str bd)) (.int .i64 s.minor) (.slice ta zt.length tc) (.int .i64 s.kind) (.int .i64 s.len) (.bool s.per)) := HR3.out.keep HTs.out (by decide) hb9
      have hl9 : Below g0 w3 (set9 w3 g0 (.int .i64 s.st) (.string (str s.rs)) (.slice fa s.fs.length fc) (.string (str bd)) (.int .i64 s.minor) (.slice ta zt.length tc) (.int .i64 s.kind) (.int .i64 s.len) (.bool s.per)) := hb9.below (by have := HR3.out.lt; omega) (fun x hx => by simp at hx; omega)
      obtain ⟨W9, hW9⟩ : ∃ W9, W9 = (set9 w3 g0 (.int .i64 s.st) (.string (str s.rs)) (.slice fa s.fs.length fc) (.string (str bd)) (.int .i64 s.minor) (.slice ta zt.length tc) (.int .i64 s.kind) (.int .i64 s.len) (.bool s.per)).drew := ⟨_, rfl⟩
      have hB9' : Blk 31 W9 g0 [.int .i64 s.st, .string (str s.rs), .slice fa s.fs.length fc, .string (str bd), .int .i64 s.minor, .slice ta zt.length tc, .int .i64 s.kind, .int .i64 s.len, .bool s.per] := by rw [hW9]; exact hB9.but (But.refl [] _).drew (fun e => by cases e)
      have HF9 : Hid (OwnF 47 g0 (.slice fa s.fs.length fc) s.fs W9) := (by rw [hW9]; exact (But.refl [] _).drew.owns hf9 (fun _ _ e => by cases e) : OwnF _ _ _ _ _)
      have HT9 : Hid (OwnF 47 g0 (.slice ta zt.length tc) zt W9) := (by rw [hW9]; exact (But.refl [] _).drew.owns ht9 (fun _ _ e => by cases e) : OwnF _ _ _ _ _)
      have HL9 : Hid (Below g0 w W9) := (by rw [hW9]; exact HB3.out.trans hl9.drew : Below _ _ _)
      have hW9' : (((((((((w3.setCell ⟨g0, 0, none⟩ (.int .i64 s.st)).setCell ⟨g0, 1, none⟩ (.string (str s.rs))).setCell ⟨g0, 2, none⟩ (.slice fa s.fs.length fc)).setCell ⟨g0, 3, none⟩ (.string (str bd))).setCell ⟨g0, 4, none⟩ (.int .i64 s.minor)).setCell ⟨g0, 5, none⟩ (.slice ta zt.length tc)).setCell ⟨g0, 6, none⟩ (.int .i64 s.kind)).setCell ⟨g0, 7, none⟩ (.int .i64 s.len)).setCell ⟨g0, 8, none⟩ (.bool s.per)).drew = W9 := hW9.symm
      rw [hW9']
      have q0 := hB9'.cell 0 rfl
      have q1 := hB9'.cell 1 rfl
      have q2 := hB9'.cell 2 rfl
      have q3 := hB9'.cell 3 rfl
      have q4 := hB9'.cell 4 rfl
      have q5 := hB9'.cell 5 rfl
      have q6 := hB9'.cell 6 rfl
      have q7 := hB9'.cell 7 rfl
      have q8 := hB9'.cell 8 rfl
      clear hB9 hb9 hf9 ht9 hl9 hW9 hW9' hB9'
      refine bodyPost_ret (v := .tuple #[.agg #[.int .i64 s.st, .string (str s.rs), .slice fa s.fs.length fc, .string (str bd), .int .i64 s.minor, .slice ta zt.length tc, .int .i64 s.kind, .int .i64 s.len, .bool s.per], .int .i64 (s.used : Int), .int .i64 0]) (by simp [results, Tryz.results9, go_sem, q0, q1, q2, q3, q4, q5, q6, q7, q8]) rfl ?_
      rw [HG0.out]
      refine ⟨.slice fa s.fs.length fc, .slice ta zt.length tc, ?_, HF9.out, HT9.out, HL9.out⟩
      rw [HQ.out]
      rfl
def rspW (s : HS) (me : List UInt8) (m : Nat) : BR × List Fl :=
  if (hRun s s.piece).2 = 0 ∧ (hRun s s.piece).1.headed = true ∧ bdl me (hRun s s.piece).1.st = false ∧ (hRun s s.piece).1.kind = 2 then chkR (hRun s s.piece).1 m else (rspR s me m, [])
theorem Parse_any (me p : ByteArray) (m : Nat) (en : Bool) (hm : m ≤ 9223372036854775807) (hp : p.size ≤ 2147483647) (w : World) (hw : Env w) :
    Calls Tryz.prog 9 #[.string me, .string p, .int .i64 (m : Int), .bool en] w fun e w' => ∃ vf vt, e = .returned (.tuple #[.agg (parW (rspW (newH p.data.toList en) me.data.toList m).1 p.size vf vt).1.toArray, .int .i64 (parW (rspW (newH p.data.toList en) me.data.toList m).1 p.size vf vt).2.1, .int .i64 (parW (rspW (newH p.data.toList en) me.data.toList m).1 p.size vf vt).2.2]) ∧ OwnF 47 w.heap.size vf (rspW (newH p.data.toList en) me.data.toList m).1.s.fs w' ∧ OwnF 47 w.heap.size vt (rspW (newH p.data.toList en) me.data.toList m).2 w' ∧ Below w.heap.size w w' := by
  by_cases hc : (hRun (newH p.data.toList en) p.data.toList).2 = 0 ∧ (hRun (newH p.data.toList en) p.data.toList).1.headed = true ∧ bdl me.data.toList (hRun (newH p.data.toList en) p.data.toList).1.st = false ∧ (hRun (newH p.data.toList en) p.data.toList).1.kind = 2
  · have e : rspW (newH p.data.toList en) me.data.toList m = chkR (hRun (newH p.data.toList en) p.data.toList).1 m := if_pos hc
    rw [e]
    exact Parse_ch me p m en hm hp w hw hc.1 hc.2.1 hc.2.2.1 hc.2.2.2
  · have e : rspW (newH p.data.toList en) me.data.toList m = (rspR (newH p.data.toList en) me.data.toList m, []) := if_neg hc
    rw [e]
    have h := Parse_nc me p m en hm (by omega) w hw (fun h0 h1 h2 h3 => hc ⟨h0, h1, h2, h3⟩)
    refine h.mono (fun x w' ⟨vf, hx, h1, h2⟩ => ⟨vf, .slice none 0 0, hx, h1, ownF_nil _ _ _, h2⟩)
end Ms
end Go.Proofs.YtdcfhnbagldilaaGreatDoor
