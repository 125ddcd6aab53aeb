import Derived.Test.YtdcfhnbagldilaaGreatDoorMgE1
import Derived.Test.YtdcfhnbagldilaaGreatDoorMgV
import Derived.Test.YtdcfhnbagldilaaGreatDoorMgD1
import Derived.BigQuiet
import Derived.Deep.RegionHeld3
set_option linter.unusedVariables false
set_option linter.unusedSimpArgs false
set_option maxRecDepth 100000
namespace Go.Proofs.YtdcfhnbagldilaaGreatDoor
open Go.RowKit Go.Shelf
namespace Ms
open Oc Tg _root_.Go.Proofs.YtdcfhnbagldilaaGreatDoor.Fd _root_.Go.Proofs.YtdcfhnbagldilaaGreatDoor.Ck
def cErr (e : Int) : Int := if e = 102 then 125 else e
set_option maxHeartbeats 400000 in
theorem chunkErr_any (e : Int) (w : World) : Calls Tryz.prog 74 #[.int .i64 e] w fun x w' => x = .returned (.int .i64 (cErr e)) ∧ w' = w := by
  by_cases h : e = 102
  · subst h
    go_enter Tryz.func74, Tryz.ntmps74
    go_wp2
    go_ret
    exact ⟨rfl, rfl⟩
  · have h' : (e == 102) = false := by simp [h]
    have HQ : Hid (cErr e = e) := (by unfold cErr; rw [if_neg h] : _ = _)
    clear h
    go_enter Tryz.func74, Tryz.ntmps74
    go_wp2
    go_ret
    exact ⟨by rw [HQ.out]; rfl, rfl⟩
def lcC (s : HS) (bd : List UInt8) (vl vb vf pc vt : Value) (ex : List Value) : List Value :=
  .string (str s.piece) :: .bool s.ended :: .int .i64 (s.used : Int) :: .int .i64 s.wrong :: vl :: .int .i64 (s.lineAt : Int) :: .bool s.headed :: vb :: pc :: .int .i64 s.st :: .string (str s.rs) :: vf :: .string (str bd) :: .int .i64 s.minor :: vt :: .int .i64 s.kind :: .int .i64 s.len :: .bool s.per :: ex
def chkR (s : HS) (m : Nat) : BR × List Fl :=
  if (eat (new (m : Int) 65536 100) s.piece).2.err ≠ 0 then (⟨false, cErr (eat (new (m : Int) 65536 100) s.piece).2.err, { bNext s (eat (new (m : Int) 65536 100) s.piece).1 with wrong := (s.used : Int) + (eat (new (m : Int) 65536 100) s.piece).1 - 1 }, [], []⟩, [])
  else if (eat (new (m : Int) 65536 100) s.piece).2.done = true then (⟨true, 0, bNext s (eat (new (m : Int) 65536 100) s.piece).1, [], (eat (new (m : Int) 65536 100) s.piece).2.body⟩, (eat (new (m : Int) 65536 100) s.piece).2.tr)
  else (⟨false, 0, bNext s (eat (new (m : Int) 65536 100) s.piece).1, [], []⟩, [])
structure IsC (T : Nat) (ex : List Value) (w : World) (D : Nat) (s : HS) (bd : List UInt8) (tr : List Fl) (B : Nat) (vf vt : Value) : Prop where
  str : ∃ vl vb pc, Blk T w D (lcC s bd vl vb vf pc vt ex)
  fs : OwnF 47 0 vf s.fs w
  tr : OwnF 47 B vt tr w
theorem own_upF {w : World} {T S n B B' : Nat} {v : Value} {xs : List Value} (h : w.ownsRow B T S v n xs) (hb : B' ≤ B) : w.ownsRow B' T S v n xs := by
  refine ⟨h.1, ?_⟩
  rcases h.2 with hn | ⟨g, cap, cur, e, hg, rest⟩
  · exact .inl hn
  · exact .inr ⟨g, cap, cur, e, Nat.le_trans hb hg, rest⟩
set_option maxHeartbeats 8000000 in
theorem readChunks_any {T : Nat} (hT : TOk T) (hTD : T ≠ 146) {ex : List Value} {w0 w : World} {D : Nat} {s : HS} {vl vb vf : Value} (hE : Env w0) (hB0 : Below w0.heap.size w0 w) (hD0 : w0.heap.size ≤ D) (H : IsB T ex w D s [] [] vl vb vf) (m : Nat) (hm : m ≤ 9223372036854775807) (hp : s.piece.length ≤ 2147483647) (hu : s.used ≤ 4000000000) :
    Calls Tryz.prog 37 #[.pointer (some ⟨D, 0, none⟩), .int .i64 (m : Int)] w fun e w' => e = .returned (.tuple #[.bool (chkR s m).1.done, .int .i64 (chkR s m).1.err]) ∧ (∃ vt, IsC T ex w' D (chkR s m).1.s (chkR s m).1.bd (chkR s m).2 w.heap.size vf vt) ∧ But [D] w w' := by
  have hok := Ok.new (m : Int) 65536 100 ⟨by omega, by omega⟩ ⟨by omega, by omega⟩ ⟨by omega, by omega⟩
  have hoke := eat_ok s.piece _ 0 hok
  have hel := eat_le s.piece (new (m : Int) 65536 100)
  have HOK : Hid (Ok (new (m : Int) 65536 100) 0) := hok
  have hfn : feedN (new (m : Int) 65536 100) s.piece = ((eat (new (m : Int) 65536 100) s.piece).1 : Int) := by unfold feedN; rw [if_neg (by show ¬ (0 : Nat) = 5; decide)]
  have hfe : feedE (new (m : Int) 65536 100) s.piece = (eat (new (m : Int) 65536 100) s.piece).2.err := by unfold feedE; rw [if_neg (by show ¬ (0 : Nat) = 5; decide)]
  have hfs : feedS (new (m : Int) 65536 100) s.piece = { (eat (new (m : Int) 65536 100) s.piece).2 with total := (eat (new (m : Int) 65536 100) s.piece).2.total + (eat (new (m : Int) 65536 100) s.piece).1 } := by unfold feedS; rw [if_neg (by show ¬ (0 : Nat) = 5; decide)]
  have htl : (eat (new (m : Int) 65536 100) s.piece).2.tr.length ≤ 2147483648 := by have := hoke.len; omega
  have HN : Hid (Calls Tryz.prog 72 #[.int .i64 (m : Int), .int .i64 65536, .int .i64 100] w fun e w' => e = .returned (.tuple #[.pointer (some ⟨w.heap.size, 0, none⟩), .int .i64 0]) ∧ Dec w' w.heap.size (new (m : Int) 65536 100) [w.heap.size] ∧ Below w.heap.size w w') := New_ok (m : Int) 65536 100 (by omega) (by omega) (by omega) w
  have HFd : Hid (∀ W, Base w0 W [w.heap.size] → Dec W w.heap.size (new (m : Int) 65536 100) [w.heap.size] → Calls Tryz.prog 73 #[.pointer (some ⟨w.heap.size, 0, none⟩), .string (str s.piece)] W fun ex w' => ex = .returned (.tuple #[.int .i64 ((eat (new (m : Int) 65536 100) s.piece).1 : Int), .int .i64 (eat (new (m : Int) 65536 100) s.piece).2.err]) ∧ ∃ bs', Dec w' w.heap.size { (eat (new (m : Int) 65536 100) s.piece).2 with total := (eat (new (m : Int) 65536 100) s.piece).2.total + (eat (new (m : Int) 65536 100) s.piece).1 } bs' ∧ Goes [w.heap.size] W bs' w') := fun W hb hd => by
    have h := Feed_any (w0 := w0) (k := 0) hb hd HOK.out (str s.piece) (by rw [str_size]; omega)
    rw [str_list, hfn, hfe, hfs] at h
    exact h
  have HR : Hid (chkR s m = if (eat (new (m : Int) 65536 100) s.piece).2.err ≠ 0 then (⟨false, cErr (eat (new (m : Int) 65536 100) s.piece).2.err, { bNext s (eat (new (m : Int) 65536 100) s.piece).1 with wrong := (s.used : Int) + (eat (new (m : Int) 65536 100) s.piece).1 - 1 }, [], []⟩, [])
    else if (eat (new (m : Int) 65536 100) s.piece).2.done = true then (⟨true, 0, bNext s (eat (new (m : Int) 65536 100) s.piece).1, [], (eat (new (m : Int) 65536 100) s.piece).2.body⟩, (eat (new (m : Int) 65536 100) s.piece).2.tr)
    else (⟨false, 0, bNext s (eat (new (m : Int) 65536 100) s.piece).1, [], []⟩, [])) := rfl
  generalize chkR s m = R at *
  clear hfn hfe hfs hok hoke HOK
  generalize eat (new (m : Int) 65536 100) s.piece = r at *
  obtain ⟨n, st⟩ := r
  dsimp only at HR HFd htl hel
  have hDl := H.str.lt
  have HDl : Hid (D < w.heap.size) := hDl
  have HTT : Hid (TOk T ∧ T ≠ 146) := (⟨hT, hTD⟩ : _ ∧ _)
  have HSt : Hid (Blk T w D (lcC s [] vl vb vf (.pointer none) (.slice none 0 0) ex)) := H.str
  have HFs : Hid (OwnF 47 0 vf s.fs w) := H.fs
  have HBs : Hid (Env w0 ∧ Below w0.heap.size w0 w ∧ w0.heap.size ≤ D) := (⟨hE, hB0, hD0⟩ : _ ∧ _ ∧ _)
  have c8 := HSt.out.cell 8 rfl
  have f8 := HSt.out.free 8
  obtain ⟨nD, hnD⟩ : ∃ nD, nD = w.heap.size := ⟨_, rfl⟩
  have HnD : Hid (nD = w.heap.size) := hnD
  rw [← hnD] at HN HFd HDl ⊢
  clear H hT hTD hE hB0 hD0 hDl hnD
  go_enter Tryz.func37, Tryz.ntmps37
  go_wp2_with fail
  refine HN.out.mono ?_
  rintro e w1 ⟨rfl, hd1, hb1⟩
  have HD1 : Hid (Dec w1 nD (new (m : Int) 65536 100) [nD]) := hd1
  have HB1 : Hid (Below w.heap.size w w1) := (by rw [← HnD.out]; exact hb1 : Below _ _ _)
  have HS1 : Hid (Blk T w1 D (lcC s [] vl vb vf (.pointer none) (.slice none 0 0) ex)) := HSt.out.below HB1.out
  clear hd1 hb1 c8 f8 HN
  obtain ⟨w2, hw2⟩ : ∃ w2, w2 = w1.setCell ⟨D, 8, none⟩ (.pointer (some ⟨nD, 0, none⟩)) := ⟨_, rfl⟩
  have hb2 : But [D] w1 w2 := by rw [hw2]; exact setD (But.refl _ _) _ _
  have HS2 : Hid (Blk T w2 D (lcC s [] vl vb vf (.pointer (some ⟨nD, 0, none⟩)) (.slice none 0 0) ex)) := (by rw [hw2]; exact HS1.out.set 8 _ : Blk _ _ _ _)
  have HD2 : Hid (Dec w2 nD (new (m : Int) 65536 100) [nD]) := HD1.out.but hb2 (fun x hx e => by simp at hx e; have := HDl.out; omega)
  have HB2 : Hid (But [D] w w2) := (But.of_below HB1.out).nil.trans hb2
  have HF2 : Hid (OwnF 47 0 vf s.fs w2) := HS1.out.keep ((But.of_below HB1.out).owns HFs.out (fun _ _ e => by cases e)) HTT.out.1.2 hb2
  have HA2 : Hid (Base w0 w2 [nD]) := (⟨HBs.out.1, HBs.out.2.1.trans (HB2.out.below HBs.out.2.1.size (fun x hx => by simp at hx; have := HBs.out.2.2; omega)), fun x hx => by simp at hx; have := HBs.out.2.1.size; have := HnD.out; omega⟩ : Base _ _ _)
  have HW2 : Hid (w2 = _) := hw2
  have c8 := HS1.out.cell 8 rfl
  have f8 := HS1.out.free 8
  clear hb2 hw2
  go_wp2_with fail
  rw [← HW2.out]
  clear c8 f8 HW2 HS1 HD1 HB1
  have HDn : Hid (D ≠ nD) := (by have := HDl.out; omega : D ≠ nD)
  have HK : Hid (∀ W, But [nD] w2 W → (W.cell? ⟨D, 0, none⟩ = some (.string (str s.piece)) ∧ W.cell? ⟨D, 8, none⟩ = some (.pointer (some ⟨nD, 0, none⟩))) ∧ But [nD] w2 W) := fun W hW => ⟨⟨(HS2.out.but hW (by simpa using HDn.out)).cell 0 rfl, (HS2.out.but hW (by simpa using HDn.out)).cell 8 rfl⟩, hW⟩
  have HBn : Hid (But [nD] w2 w2) := But.refl _ _
  go_region_held3 (fun W => (W.cell? ⟨D, 0, none⟩ = some (.string (str s.piece)) ∧ W.cell? ⟨D, 8, none⟩ = some (.pointer (some ⟨nD, 0, none⟩))) ∧ But [nD] w2 W)
    ((refine HK.out _ ?_; first | with_reducible exact HBn.out | with_reducible exact But.drew HBn.out))
    (first
      | (go_at_call 73; (with_reducible refine (HFd.out w2.drew (HA2.out.below (Below.refl _ _).drew) (HD2.out.below (Below.refl _ _).drew)).mono ?_); rintro e w3 ⟨rfl, bs3, hd3, hg3⟩; have HBn : Hid (But [nD] w2 w3) := (But.refl [nD] w2).drew.trans hg3.but; have HD3 : Hid (Dec w3 nD { st with total := st.total + n } bs3) := hd3; have HX3 : Hid (∀ x, x ∈ bs3 → x = nD ∨ w2.heap.size ≤ x) := (fun x hx => (hg3.sub x hx).imp (fun h => by simpa using h) id : ∀ x, x ∈ bs3 → x = nD ∨ w2.heap.size ≤ x); clear hd3 hg3))
  have HS3 : Hid (Blk T w3 D (lcC s [] vl vb vf (.pointer (some ⟨nD, 0, none⟩)) (.slice none 0 0) ex)) := HS2.out.but HBn.out (by simpa using HDn.out)
  have HF3 : Hid (OwnF 47 0 vf s.fs w3) := HBn.out.owns HF2.out (fun g hg e => by
    have h1 := (World.ownsRow.lt HFs.out g hg).2
    simp at e
    have := HnD.out
    omega)
  have HB3 : Hid (But [D] w w3) := (⟨HBn.out.os.trans HB2.out.os, HBn.out.tape.trans HB2.out.tape, HBn.out.output.trans HB2.out.output, Nat.le_trans HB2.out.size HBn.out.size, fun i hi hn => (HBn.out.block i (Nat.lt_of_lt_of_le hi HB2.out.size) (by simp; have := HnD.out; omega)).trans (HB2.out.block i hi hn)⟩ : But _ _ _)
  have HRo : Hid (Calls _ _ _ _ _) := readOff_raw HS3.out (str s.piece) s.used n rfl rfl (by rw [str_size]; exact hel) (by rw [str_size]; omega) hu
  have HY : Hid ((str s.piece).extract n (str s.piece).size = str (s.piece.drop n)) := (by
    apply eq_list
    rw [Lib.extract_to_end, str_list, str_list] : _ = _)
  go_wp2_with fail
  refine HRo.out.mono ?_
  rintro e w4 ⟨rfl, hw4⟩
  rw [HY.out] at hw4
  have hb4 : But [D] w3 w4 := by rw [hw4]; exact setD (setD (But.refl _ _) _ _) _ _
  have HS4 : Hid (Blk T w4 D (lcC (bNext s n) [] vl vb vf (.pointer (some ⟨nD, 0, none⟩)) (.slice none 0 0) ex)) := (by
    rw [hw4]
    have h := (HS3.out.set 0 (.string (str (s.piece.drop n)))).set 2 (.int .i64 ((s.used : Int) + (n : Int)))
    have e : ((s.used : Int) + (n : Int)) = ((s.used + n : Nat) : Int) := by omega
    rw [e] at h ⊢
    exact h : Blk _ _ _ _)
  have HDx : Hid (∀ x, x ∈ bs3 → x ∉ [D]) := (fun x hx e => by
    simp at e
    subst e
    rcases HX3.out x hx with h | h
    · exact HDn.out h
    · have := HS2.out.lt; omega : ∀ x, x ∈ bs3 → x ∉ [D])
  have HD4 : Hid (Dec w4 nD { st with total := st.total + n } bs3) := HD3.out.but hb4 HDx.out
  have HF4 : Hid (OwnF 47 0 vf s.fs w4) := HS3.out.keep HF3.out HTT.out.1.2 hb4
  have HB4 : Hid (But [D] w w4) := HB3.out.trans hb4
  clear hw4 hb4 HRo HY HB3 HF3 HS3 HBn HK HD3 HFd HD2 HA2 HF2 HB2 HS2
  by_cases hE : st.err = 0
  case neg =>
    have hE1 : (st.err != 0) = true := by simp [hE]
    have HQ : Hid (R = (⟨false, cErr st.err, { bNext s n with wrong := (s.used : Int) + n - 1 }, [], []⟩, [])) := HR.out.trans (if_pos hE)
    have HS4d : Hid (Blk T w4.drew D (lcC (bNext s n) [] vl vb vf (.pointer (some ⟨nD, 0, none⟩)) (.slice none 0 0) ex)) := HS4.out.below (Below.refl _ _).drew
    obtain ⟨u, hu1⟩ : ∃ u : Int, u = ((s.used + n : Nat) : Int) := ⟨_, rfl⟩
    have c2 : w4.cell? ⟨D, 2, none⟩ = some (.int .i64 u) := by rw [hu1]; exact HS4.out.cell 2 rfl
    have d2 : w4.drew.cell? ⟨D, 2, none⟩ = some (.int .i64 u) := c2
    have hub : 0 ≤ u ∧ u ≤ 7000000000 := by omega
    have huw : IntKind.i64.wrap (u - 1) = u - 1 := by rw [IntKind.wrap_i64]; omega
    have HU : Hid (u - 1 = (s.used : Int) + n - 1) := (by omega : _ = _)
    have HRf : Hid (∀ a e, Calls Tryz.prog 64 #[.pointer (some ⟨D, 0, none⟩), .int .i64 a, .int .i64 e] w4.drew fun x w' => x = .returned (.int .i64 e) ∧ w' = (w4.setCell ⟨D, 3, none⟩ (.int .i64 a)).drew) := fun a e => refuse_raw HS4d.out ⟨_, rfl⟩ a e
    have HF4d : Hid (OwnF 47 0 vf s.fs w4.drew) := (But.refl [] _).drew.owns HF4.out (fun _ _ e => by cases e)
    have HB4d : Hid (But [D] w w4.drew) := HB4.out.drew
    obtain ⟨WF, hWF⟩ : ∃ WF, WF = (w4.setCell ⟨D, 3, none⟩ (.int .i64 (u - 1))).drew := ⟨_, rfl⟩
    have hb6 : But [D] w4 WF := by rw [hWF]; exact (setD (But.refl _ _) _ _).drew
    have HS6 : Hid (Blk T WF D (lcC { bNext s n with wrong := (s.used : Int) + n - 1 } [] vl vb vf (.pointer (some ⟨nD, 0, none⟩)) (.slice none 0 0) ex)) := (by
      rw [hWF, HU.out]
      exact (HS4.out.set 3 _).but (But.refl [] _).drew (by simp) : Blk _ _ _ _)
    have HF6 : Hid (OwnF 47 0 vf s.fs WF) := HS4.out.keep HF4.out HTT.out.1.2 hb6
    have HB6 : Hid (But [D] w WF) := HB4.out.trans hb6
    have HWF : Hid (WF = _) := hWF
    clear hE HR hub hu1 HS4 HD4 HF4 HB4 hWF hb6 HS4d HF4d HB4d
    go_wp2_with fail
    go_region_law (first
      | (go_simp; go_at_call 74; refine (chunkErr_any st.err _).mono ?_; rintro e w5 ⟨rfl, hw5⟩; rw [hw5]; clear hw5; dsimp only)
      | (go_simp; go_at_call 64; refine (HRf.out _ _).mono ?_; rintro e w6 ⟨rfl, hw6⟩; rw [hw6]; clear hw6; dsimp only))
    all_goals
      go_wp2
      go_ret2
      rw [HQ.out]
      first
        | (rw [← HWF.out]; exact ⟨rfl, ⟨Value.slice none 0 0, ⟨⟨vl, vb, _, HS6.out⟩, HF6.out, ownF_nil _ _ _⟩⟩, HB6.out⟩)
        | (show _ ∧ (∃ vt, IsC _ _ ((w4.setCell ⟨D, 3, none⟩ (.int .i64 (u - 1))).drew) _ _ _ _ _ _ _) ∧ But _ _ ((w4.setCell ⟨D, 3, none⟩ (.int .i64 (u - 1))).drew); rw [← HWF.out]; exact ⟨rfl, ⟨Value.slice none 0 0, ⟨⟨vl, vb, _, HS6.out⟩, HF6.out, ownF_nil _ _ _⟩⟩, HB6.out⟩)
  rw [hE] at HR ⊢
  have HR2 : Hid (R = _) := HR.out.trans (if_neg (by simp))
  have HDo : Hid (∀ W bs, Dec W nD { st with total := st.total + n } bs → Calls Tryz.prog 75 #[.pointer (some ⟨nD, 0, none⟩)] W fun e w' => e = .returned (.bool st.done) ∧ w' = W) := fun W bs h => (by have q := Done_any h; exact q)
  have c8 : w4.cell? ⟨D, 8, none⟩ = some (.pointer (some ⟨nD, 0, none⟩)) := HS4.out.cell 8 rfl
  have HDc : Hid (Calls _ _ _ _ _) := HDo.out w4 bs3 HD4.out
  clear HR hE
  go_wp2_with fail
  refine HDc.out.mono ?_
  rintro e w5 ⟨rfl, hw5⟩
  rw [hw5]
  clear hw5
  cases hdn : st.done with
  | false =>
    have HQ : Hid (R = (⟨false, 0, bNext s n, [], []⟩, [])) := HR2.out.trans (if_neg (by rw [hdn]; simp))
    rw [hdn] at HDc
    clear HR2 HDo
    go_wp2_with fail
    refine HDc.out.mono ?_
    rintro e w5 ⟨rfl, hw5⟩
    rw [hw5]
    clear hw5
    go_wp2
    go_ret2
    rw [HQ.out]
    exact ⟨rfl, ⟨Value.slice none 0 0, ⟨⟨vl, vb, _, HS4.out⟩, HF4.out, ownF_nil _ _ _⟩⟩, HB4.out⟩
  | true =>
    have HQ : Hid (R = (⟨true, 0, bNext s n, [], st.body⟩, st.tr)) := HR2.out.trans (if_pos hdn)
    have HD4d : Hid (Dec w4.drew nD { st with total := st.total + n } bs3) := HD4.out.below (Below.refl _ _).drew
    have HS4d : Hid (Blk T w4.drew D (lcC (bNext s n) [] vl vb vf (.pointer (some ⟨nD, 0, none⟩)) (.slice none 0 0) ex)) := HS4.out.below (Below.refl _ _).drew
    have HF4d : Hid (OwnF 47 0 vf s.fs w4.drew) := (But.refl [] _).drew.owns HF4.out (fun _ _ e => by cases e)
    have HB4d : Hid (But [D] w w4.drew) := HB4.out.drew
    have HBo : Hid (Calls Tryz.prog 76 #[.pointer (some ⟨nD, 0, none⟩)] w4.drew fun e w' => e = .returned (.string (str st.body)) ∧ w' = w4.drew) := (by have h := Body_any HD4d.out; exact h : Calls _ _ _ _ _)
    have HTr : Hid (Calls Tryz.prog 77 #[.pointer (some ⟨nD, 0, none⟩)] w4.drew fun e w' => ∃ v, e = .returned v ∧ OwnF 47 (World.heap w4.drew).size v st.tr w' ∧ Below (World.heap w4.drew).size w4.drew w') := (by have h := Trailers_any HD4d.out htl; exact h : Calls _ _ _ _ _)
    have HDo2 : Hid (∀ W bs, Dec W nD { st with total := st.total + n } bs → Calls Tryz.prog 75 #[.pointer (some ⟨nD, 0, none⟩)] W fun e w' => e = .returned (.bool true) ∧ w' = W) := fun W bs h => (by have q := HDo.out W bs h; rw [hdn] at q; exact q)
    have d8 : w4.drew.cell? ⟨D, 8, none⟩ = some (.pointer (some ⟨nD, 0, none⟩)) := c8
    have HHz : Hid (w.heap.size ≤ (World.heap w4.drew).size) := HB4d.out.size
    clear HR2 HDo HDc hdn htl HS4 HF4 HB4 HD4
    obtain ⟨BS, hBS⟩ : ∃ BS, BS = str st.body := ⟨_, rfl⟩
    rw [← hBS] at HBo
    have HBS : Hid (BS = str st.body) := hBS
    have HDd : Hid (D < (World.heap w4.drew).size) := HS4d.out.lt
    clear hBS
    go_wp2_with fail
    go_region_law (first
      | (go_simp; go_at_call 76; refine HBo.out.mono ?_; rintro e w5 ⟨rfl, hw5⟩; rw [hw5]; clear hw5; dsimp only)
      | (go_simp; go_at_call 77; refine HTr.out.mono ?_; rintro e w5 ⟨v5, rfl, ho5, hb5⟩; obtain ⟨a5, c5, rfl⟩ := ownF_form ho5; have HS5 : Hid (Blk T w5 D (lcC (bNext s n) [] vl vb vf (.pointer (some ⟨nD, 0, none⟩)) (.slice none 0 0) ex)) := HS4d.out.below hb5; have HO5 : Hid (OwnF 47 (World.heap w4.drew).size (.slice a5 st.tr.length c5) st.tr w5) := ho5; have HB5 : Hid (Below (World.heap w4.drew).size w4.drew w5) := hb5; have e8 : w5.cell? ⟨D, 8, none⟩ = some (.pointer (some ⟨nD, 0, none⟩)) := HS5.out.cell 8 rfl; have e12 := HS5.out.cell 12 rfl; have e14 := HS5.out.cell 14 rfl; have f12 := HS5.out.free 12; have f14 := HS5.out.free 14; clear ho5 hb5; dsimp only))
    all_goals
      obtain ⟨W6, hW6⟩ : ∃ W6, W6 = (w5.setCell ⟨D, 12, none⟩ (.string BS)).setCell ⟨D, 14, none⟩ (.slice a5 st.tr.length c5) := ⟨_, rfl⟩
      rw [← hW6]
      have hb6 : But [D] w5 W6 := by rw [hW6]; exact setD (setD (But.refl _ _) _ _) _ _
      have HS6 : Hid (Blk T W6 D (lcC (bNext s n) st.body vl vb vf (.pointer (some ⟨nD, 0, none⟩)) (.slice a5 st.tr.length c5) ex)) := (by
        rw [hW6]
        have h := (HS5.out.set 12 (.string BS)).set 14 (.slice a5 st.tr.length c5)
        rw [HBS.out] at h ⊢
        exact h : Blk _ _ _ _)
      have HF6 : Hid (OwnF 47 0 vf s.fs W6) := HS5.out.keep ((But.of_below HB5.out).owns HF4d.out (fun _ _ e => by cases e)) HTT.out.1.2 hb6
      have HT6 : Hid (OwnF 47 (World.heap w4.drew).size (.slice a5 st.tr.length c5) st.tr W6) := HS5.out.keep HO5.out HTT.out.1.2 hb6
      have HD6 : Hid (Dec W6 nD { st with total := st.total + n } bs3) := (HD4d.out.below HB5.out).but hb6 HDx.out
      have HB6 : Hid (But [D] w W6) := HB4d.out.trans ((But.of_below HB5.out).nil.trans hb6)
      have HDf : Hid (Calls _ _ _ _ _) := HDo2.out W6 bs3 HD6.out
      have q8 : W6.cell? ⟨D, 8, none⟩ = some (.pointer (some ⟨nD, 0, none⟩)) := HS6.out.cell 8 rfl
      clear hW6 hb6 HS5 HO5 HB5 e8 e12 e14 f12 f14 HD6 HDo2 HTr HBo HD4d HS4d HF4d HB4d d8
      go_wp2_with fail
      refine HDf.out.mono ?_
      rintro e w7 ⟨rfl, hw7⟩
      rw [hw7]
      clear hw7
      go_wp2
      go_ret2
      rw [HQ.out]
      exact ⟨rfl, ⟨_, ⟨⟨vl, vb, _, HS6.out⟩, HF6.out, own_upF HT6.out (by have := HHz.out; have := HnD.out; omega)⟩⟩, HB6.out⟩
end Ms
end Go.Proofs.YtdcfhnbagldilaaGreatDoor
set_option linter.unusedVariables false
set_option linter.unusedSimpArgs false
set_option maxRecDepth 100000
namespace Go.Proofs.YtdcfhnbagldilaaGreatDoor
open Go.RowKit Go.Shelf
namespace Ms
open Oc Tg _root_.Go.Proofs.YtdcfhnbagldilaaGreatDoor.Fd _root_.Go.Proofs.YtdcfhnbagldilaaGreatDoor.Ck
set_option maxHeartbeats 4000000 in
theorem readResponse_ch {T : Nat} (hT : TOk T) {ex : List Value} {w0 w : World} {D : Nat} {s : HS} {bs : List Nat} (HB : Base w0 w bs) (H : HdS T ex w D s bs) (hk : HOk s) (hL : LenOk s) (hSt : StOk s) (hp : s.piece.length ≤ 3000000000) (me : ByteArray) (m : Nat) (hm : m ≤ 9223372036854775807)
    (hTD : T ≠ 146) (hpl : s.piece.length ≤ 2147483647) (hc0 : (hRun s s.piece).2 = 0) (hc1 : (hRun s s.piece).1.headed = true) (hc2 : bdl me.data.toList (hRun s s.piece).1.st = false) (hc3 : (hRun s s.piece).1.kind = 2) :
    Calls Tryz.prog 19 #[.pointer (some ⟨D, 0, none⟩), .string me, .int .i64 (m : Int)] w fun e w' => e = .returned (.tuple #[.bool (chkR (hRun s s.piece).1 m).1.done, .int .i64 (chkR (hRun s s.piece).1 m).1.err]) ∧ (∃ vf vt, IsC T ex w' D (chkR (hRun s s.piece).1 m).1.s (chkR (hRun s s.piece).1 m).1.bd (chkR (hRun s s.piece).1 m).2 w0.heap.size vf vt ∧ ∀ g, vf.ownBlock = some g → w0.heap.size ≤ g) ∧ Below w0.heap.size w0 w' := by
  have HTT : Hid (TOk T) := hT
  have HRh : Hid (Calls _ _ _ _ _) := readHead_any hT HB H hk (by omega)
  have hL1 := hRun_len s.piece s hL
  have hO1 := hRun_ok s.piece s hk
  have hS1 := hRun_st s.piece s hSt
  have hP1 := hRun_piece s.piece s rfl
  generalize hRun s s.piece = Y at *
  obtain ⟨s1, z⟩ := Y
  dsimp only at HRh hL1 hO1 hS1 hP1 hc0 hc1 hc2 hc3 ⊢
  subst hc0
  obtain ⟨Z, hZ⟩ : ∃ Z, Z = chkR s1 m := ⟨_, rfl⟩
  rw [← hZ]
  have HZ : Hid (Z = chkR s1 m) := hZ
  clear hZ
  obtain ⟨⟨zd, ze, zs, zb, zbd⟩, zt⟩ := Z
  dsimp only
  have HBl : Hid (∀ W, Calls _ _ _ W _) := fun W => Bodyless_any me s1.st ⟨by have := hS1.1; omega, by have := hS1.2; omega⟩ W
  have HBB : Hid (Base w0 w bs) := HB
  have HTD : Hid (T ≠ 146) := hTD
  have hDn : D ∈ bs := by
    obtain ⟨vl0, vf0, _, hb0⟩ := id H
    rw [hb0]
    simp [ftH]
  have HD0 : Hid (w0.heap.size ≤ D) := HB.new D hDn
  clear H HB hk hL hSt hT hTD hDn
  go_enter Tryz.func19, Tryz.ntmps19
  go_wp2_with fail
  refine HRh.out.mono ?_
  rintro e w1 ⟨rfl, b1, hd1, hg1⟩
  obtain ⟨b2, hpl, hg2⟩ := hd1.plain
  have HD1 : Hid (PlB T ex w1 D s1 [] [] b2) := hpl
  have HG1 : Hid (Goes bs w b2 w1) := hg1.trans hg2
  clear hd1 hg1 hg2 hpl HRh
  obtain ⟨vl, vb, vf, HI, hbs⟩ := HD1.out
  have c6 : w1.cell? ⟨D, 6, none⟩ = some (.bool s1.headed) := HI.str.cell 6 rfl
  have c9 : w1.cell? ⟨D, 9, none⟩ = some (.int .i64 s1.st) := HI.str.cell 9 rfl
  have c15 : w1.cell? ⟨D, 15, none⟩ = some (.int .i64 s1.kind) := HI.str.cell 15 rfl
  have HIv : Hid (IsB T ex w1 D s1 [] [] vl vb vf) := HI
  have HB1 : Hid (Base w0 w1 b2) := HBB.out.goes HG1.out
  have HVf : Hid (∀ g, vf.ownBlock = some g → w0.heap.size ≤ g) := (fun g hg => HB1.out.new g (by rw [hbs]; simp [ftH, hg]) : ∀ g, vf.ownBlock = some g → w0.heap.size ≤ g)
  clear HI hbs
  have hh : s1.headed = true := hc1
  rw [hh] at c6
  obtain ⟨n, hn, hnb⟩ := hL1 hh
  have hok := hO1 trivial
  have hu := hok.used
  have HBy : Hid (Calls _ _ _ _ _) := HBl.out w1
  clear hh hL1 hO1 HBl hS1 hc1
  rw [hc2] at HBy
  clear hc2
  go_wp2_with fail
  refine HBy.out.mono ?_
  rintro e w2 ⟨rfl, hw2⟩
  rw [hw2]
  clear hw2 HBy
  have h2' : (s1.kind == 2) = true := by simp [hc3]
  have hRc := readChunks_any HTT.out HTD.out HB1.out.env HB1.out.bel HD0.out HIv.out m hm (by omega) (by omega)
  rw [← HZ.out] at hRc
  have HRc : Hid (Calls Tryz.prog 37 #[.pointer (some ⟨D, 0, none⟩), .int .i64 (m : Int)] w1 fun e w' => e = .returned (.tuple #[.bool zd, .int .i64 ze]) ∧ (∃ vt, IsC T ex w' D zs zbd zt w1.heap.size vf vt) ∧ But [D] w1 w') := hRc
  clear hRc
  clear hc3 hn hnb
  go_wp2_with fail
  refine HRc.out.mono ?_
  rintro e w3 ⟨rfl, ⟨vt, hC⟩, hb3⟩
  have HC3 : Hid (IsC T ex w3 D zs zbd zt w0.heap.size vf vt) := (⟨hC.str, hC.fs, own_upF hC.tr HB1.out.bel.size⟩ : IsC _ _ _ _ _ _ _ _ _ _)
  have HB3 : Hid (Below w0.heap.size w0 w3) := HB1.out.bel.trans (hb3.below HB1.out.bel.size (fun x hx => by simp at hx; rw [hx]; exact HD0.out))
  clear hC hb3
  go_wp2
  go_ret2
  exact ⟨rfl, ⟨vf, vt, HC3.out, HVf.out⟩, HB3.out⟩
end Ms
end Go.Proofs.YtdcfhnbagldilaaGreatDoor
