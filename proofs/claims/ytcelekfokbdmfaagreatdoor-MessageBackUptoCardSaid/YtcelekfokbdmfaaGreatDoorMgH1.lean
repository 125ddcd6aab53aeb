import Derived.Test.YtcelekfokbdmfaaGreatDoorMgT
import Derived.Test.YtcelekfokbdmfaaGreatDoorMgE1
import Derived.Test.YtcelekfokbdmfaaGreatDoorMsZ
import Derived.Test.YtcelekfokbdmfaaGreatDoorMgW
import Derived.Test.YtcelekfokbdmfaaGreatDoorMgQ
set_option linter.unusedVariables false
set_option linter.unusedSimpArgs false
set_option maxRecDepth 100000
namespace Go.Proofs.YtcelekfokbdmfaaGreatDoor
open Go.RowKit Go.Shelf
namespace Ms
open Oc Tg _root_.Go.Proofs.YtcelekfokbdmfaaGreatDoor.Fd _root_.Go.Proofs.YtcelekfokbdmfaaGreatDoor.Ck
theorem num_bd (l : List UInt8) (m : Int) (hm : 0 ≤ m) : 0 ≤ (numR 10 l m).1 ∧ (numR 10 l m).1 ≤ m := by
  have h0 : 0 ≤ numOf 10 l := by
    have := pre_nonneg 10 (by decide) (str l) (str l).size (Nat.le_refl _)
    rw [pre_all, str_list] at this
    exact this
  unfold numR
  split
  · exact ⟨Int.le_refl _, hm⟩
  · split
    · exact ⟨Int.le_refl _, hm⟩
    · rename_i h
      exact ⟨h0, by show numOf 10 l ≤ _; omega⟩
def StOk (s : HS) : Prop := 0 ≤ s.st ∧ s.st ≤ 599
theorem hTake_st {s : HS} (h : StOk s) (u : UInt8) (a : Nat) : StOk (hTake s u a).1 := by
  have hh : ∀ s : HS, StOk s → ∀ a, StOk (hHead s a).1 := fun s h a => by
    unfold hHead
    split <;> exact h
  have hf : ∀ s : HS, StOk s → ∀ l a, StOk (hField s l a).1 := fun s h l a => by
    unfold hField
    repeat' split
    all_goals exact h
  unfold hTake
  split
  · exact h
  split
  · exact h
  split
  · unfold hEnd
    split
    · exact num_bd _ 599 (by omega)
    split
    · exact hh (hNew s) h _
    · exact hf (hNew s) h _ _
  split
  · exact h
  · exact h
theorem hRun_st : ∀ (l : List UInt8) (s : HS), StOk s → StOk (hRun s l).1
  | [], s, h => h
  | u :: t, s, h => by
    unfold hRun
    split
    · exact h
    · have h1 := hTake_st (s := hNext s t) h u s.used
      split
      · exact h1
      · exact hRun_st t _ h1
def rspR (s : HS) (me : List UInt8) (m : Nat) : BR :=
  if (hRun s s.piece).2 ≠ 0 ∨ (hRun s s.piece).1.headed = false then ⟨false, (hRun s s.piece).2, (hRun s s.piece).1, [], []⟩
  else if bdl me (hRun s s.piece).1.st = true then ⟨true, 0, (hRun s s.piece).1, [], []⟩
  else if (hRun s s.piece).1.kind = 1 then lenR (hRun s s.piece).1 [] (hRun s s.piece).1.len.toNat m
  else endR (hRun s s.piece).1 [] m
set_option maxHeartbeats 4000000 in
theorem readResponse_nc {T : Nat} (hT : TOk T) {ex : List Value} {w0 w : World} {D : Nat} {s : HS} {bs : List Nat} (HB : Base w0 w bs) (H : HdS T ex w D s bs) (hk : HOk s) (hL : LenOk s) (hSt : StOk s) (hp : s.piece.length ≤ 3000000000) (me : ByteArray) (m : Nat) (hm : m ≤ 9223372036854775807)
    (hc : (hRun s s.piece).2 = 0 → (hRun s s.piece).1.headed = true → bdl me.data.toList (hRun s s.piece).1.st = false → (hRun s s.piece).1.kind ≠ 2) :
    Calls Tryz.prog 52 #[.pointer (some ⟨D, 0, none⟩), .string me, .int .i64 (m : Int)] w fun e w' => e = .returned (.tuple #[.bool (rspR s me.data.toList m).done, .int .i64 (rspR s me.data.toList m).err]) ∧ ∃ bs', PlB T ex w' D (rspR s me.data.toList m).s (rspR s me.data.toList m).body (rspR s me.data.toList m).bd bs' ∧ Goes bs w bs' w' := by
  have HTT : Hid (TOk T) := hT
  have HRh : Hid (Calls _ _ _ _ _) := readHead_any hT HB H hk (by omega)
  have HE : Hid (rspR s me.data.toList m = if (hRun s s.piece).2 ≠ 0 ∨ (hRun s s.piece).1.headed = false then ⟨false, (hRun s s.piece).2, (hRun s s.piece).1, [], []⟩ else if bdl me.data.toList (hRun s s.piece).1.st = true then ⟨true, 0, (hRun s s.piece).1, [], []⟩ else if (hRun s s.piece).1.kind = 1 then lenR (hRun s s.piece).1 [] (hRun s s.piece).1.len.toNat m else endR (hRun s s.piece).1 [] m) := rfl
  have hL1 := hRun_len s.piece s hL
  have hO1 := hRun_ok s.piece s hk
  have hS1 := hRun_st s.piece s hSt
  have hP1 := hRun_piece s.piece s rfl
  generalize rspR s me.data.toList m = R at *
  generalize hRun s s.piece = Y at *
  obtain ⟨s1, z⟩ := Y
  dsimp only at HRh HE hL1 hO1 hS1 hP1 hc
  have HBl : Hid (∀ W, Calls _ _ _ W _) := fun W => Bodyless_any me s1.st ⟨by have := hS1.1; omega, by have := hS1.2; omega⟩ W
  clear H HB hk hL hSt hT
  go_enter Tryz.func52, Tryz.ntmps52
  go_wp2_with fail
  refine HRh.out.mono ?_
  rintro e w1 ⟨rfl, b1, hd1, hg1⟩
  obtain ⟨b2, hpl, hg2⟩ := hd1.plain
  have HD1 : Hid (PlB T ex w1 D s1 [] [] b2) := hpl
  have HG1 : Hid (Goes bs w b2 w1) := hg1.trans hg2
  clear hd1 hg1 hg2 hpl HRh
  by_cases hz : z = 0
  case neg =>
    have hz1 : (z != 0) = true := by simp [hz]
    have HQ : Hid (R = ⟨false, z, s1, [], []⟩) := HE.out.trans (if_pos (.inl hz))
    clear hz HE
    go_wp2
    go_ret2
    rw [HQ.out]
    exact ⟨rfl, b2, HD1.out, HG1.out⟩
  subst hz
  obtain ⟨vl, vb, vf, HI, hbs⟩ := HD1.out
  have c6 : w1.cell? ⟨D, 6, none⟩ = some (.bool s1.headed) := HI.str.cell 6 rfl
  have c9 : w1.cell? ⟨D, 9, none⟩ = some (.int .i64 s1.st) := HI.str.cell 9 rfl
  have c15 : w1.cell? ⟨D, 15, none⟩ = some (.int .i64 s1.kind) := HI.str.cell 15 rfl
  clear HI hbs
  by_cases hh : s1.headed = false
  · have HQ : Hid (R = ⟨false, 0, s1, [], []⟩) := HE.out.trans (if_pos (.inr hh))
    rw [hh] at c6
    clear HE hh
    go_wp2
    go_ret2
    rw [HQ.out]
    exact ⟨rfl, b2, HD1.out, HG1.out⟩
  have HE2 : Hid (R = _) := HE.out.trans (if_neg (fun h => h.elim (fun h => h rfl) hh))
  have hh : s1.headed = true := by simpa using hh
  rw [hh] at c6
  obtain ⟨n, hn, hnb⟩ := hL1 hh
  have hok := hO1 rfl
  have hk2 := hc rfl hh
  have hu := hok.used
  have HBy : Hid (Calls _ _ _ _ _) := HBl.out w1
  clear HE hh hL1 hO1 hc HBl hS1
  generalize hbd : bdl me.data.toList s1.st = bd at *
  clear hbd
  go_wp2_with fail
  refine HBy.out.mono ?_
  rintro e w2 ⟨rfl, hw2⟩
  rw [hw2]
  clear hw2 HBy
  cases bd with
  | true =>
    have HQ : Hid (R = ⟨true, 0, s1, [], []⟩) := HE2.out.trans (if_pos rfl)
    go_wp2
    go_ret2
    rw [HQ.out]
    exact ⟨rfl, b2, HD1.out, HG1.out⟩
  | false =>
    have HE3 : Hid (R = _) := HE2.out.trans (if_neg (by simp))
    have h2 : s1.kind ≠ 2 := hk2 rfl
    have h2' : (s1.kind == 2) = false := by simp [h2]
    clear HE2 hk2 h2
    by_cases h1 : s1.kind = 1
    · have h1' : (s1.kind == 1) = true := by simp [h1]
      have HQ : Hid (R = lenR s1 [] n m) := HE3.out.trans ((if_pos h1).trans (by rw [hn]; rfl))
      have HRl : Hid (Calls _ _ _ _ _) := readLength_any HTT.out HD1.out n m hn hnb hm (Nat.zero_le _) (Nat.zero_le _) (by omega) (by omega)
      generalize lenR s1 [] n m = Z at *
      clear h1 HE3 hn
      go_wp2_with fail
      refine HRl.out.mono ?_
      rintro e w3 ⟨rfl, b3, hd3, hg3⟩
      have HD3 : Hid (PlB T ex w3 D Z.s Z.body Z.bd b3) := hd3
      have HG3 : Hid (Goes bs w b3 w3) := HG1.out.trans hg3
      clear hd3 hg3
      go_wp2
      go_ret2
      rw [HQ.out]
      exact ⟨rfl, b3, HD3.out, HG3.out⟩
    · have h1' : (s1.kind == 1) = false := by simp [h1]
      have HQ : Hid (R = endR s1 [] m) := HE3.out.trans (if_neg h1)
      have HRl : Hid (Calls _ _ _ _ _) := readToEnd_any HTT.out HD1.out m hm (Nat.zero_le _) (Nat.zero_le _) (by omega) (by omega)
      generalize endR s1 [] m = Z at *
      clear h1 HE3 hn
      go_wp2_with fail
      refine HRl.out.mono ?_
      rintro e w3 ⟨rfl, b3, hd3, hg3⟩
      have HD3 : Hid (PlB T ex w3 D Z.s Z.body Z.bd b3) := hd3
      have HG3 : Hid (Goes bs w b3 w3) := HG1.out.trans hg3
      clear hd3 hg3
      go_wp2
      go_ret2
      rw [HQ.out]
      exact ⟨rfl, b3, HD3.out, HG3.out⟩
end Ms
end Go.Proofs.YtcelekfokbdmfaaGreatDoor
set_option linter.unusedVariables false
set_option linter.unusedSimpArgs false
set_option maxRecDepth 100000
namespace Go.Proofs.YtcelekfokbdmfaaGreatDoor
open Go.RowKit Go.Shelf
namespace Ms
open Oc Tg _root_.Go.Proofs.YtcelekfokbdmfaaGreatDoor.Fd _root_.Go.Proofs.YtcelekfokbdmfaaGreatDoor.Ck
theorem owns_base {w : World} {T S n B : Nat} {v : Value} {xs : List Value} (h : w.ownsRow 0 T S v n xs) (hb : ∀ g, v.ownBlock = some g → B ≤ g) : w.ownsRow B T S v n xs := by
  refine ⟨h.1, ?_⟩
  rcases h.2 with hn | ⟨g, cap, cur, rfl, _, rest⟩
  · exact .inl hn
  · exact .inr ⟨g, cap, cur, rfl, hb g rfl, rest⟩
def newH (p : List UInt8) (en : Bool) : HS := ⟨p, en, 0, 0, [], 0, false, 0, [], [], 0, 0, 0, false⟩
theorem newH_ok (p : List UInt8) (en : Bool) : HOk (newH p en) ∧ LenOk (newH p en) ∧ StOk (newH p en) := by
  refine ⟨HOk.new p en, fun h => ?_, ?_⟩
  · cases (show false = true from h)
  · exact (⟨Int.le_refl _, by decide⟩ : (0 : Int) ≤ 0 ∧ (0 : Int) ≤ 599)
def repC (s : HS) (bd : List UInt8) (vf vt : Value) : List Value := [.int .i64 s.st, .string (str s.rs), vf, .string (str bd), .int .i64 s.minor, vt, .int .i64 s.kind, .int .i64 s.len, .bool s.per]
def zeroC : List Value := [.int .i64 0, .string ⟨#[]⟩, .slice none 0 0, .string ⟨#[]⟩, .int .i64 0, .slice none 0 0, .int .i64 0, .int .i64 0, .bool false]
def parC (R : BR) (z : Nat) (vf : Value) : List Value × Int × Int :=
  if R.err ≠ 0 then (zeroC, R.s.wrong, R.err) else if R.done = false then (zeroC, (z : Int), 124) else (repC R.s R.bd vf (.slice none 0 0), (R.s.used : Int), 0)
def set9 (w : World) (g : Nat) (v0 v1 v2 v3 v4 v5 v6 v7 v8 : Value) : World := (((((((((w.setCell ⟨g, 0, none⟩ v0).setCell ⟨g, 1, none⟩ v1).setCell ⟨g, 2, none⟩ v2).setCell ⟨g, 3, none⟩ v3).setCell ⟨g, 4, none⟩ v4).setCell ⟨g, 5, none⟩ v5).setCell ⟨g, 6, none⟩ v6).setCell ⟨g, 7, none⟩ v7).setCell ⟨g, 8, none⟩ v8)
theorem set9_blk {T : Nat} {w : World} {g : Nat} (h : Blk T w g zeroC) (v0 v1 v2 v3 v4 v5 v6 v7 v8 : Value) : Blk T (set9 w g v0 v1 v2 v3 v4 v5 v6 v7 v8) g [v0, v1, v2, v3, v4, v5, v6, v7, v8] :=
  ((((((((h.set 0 v0).set 1 v1).set 2 v2).set 3 v3).set 4 v4).set 5 v5).set 6 v6).set 7 v7).set 8 v8
theorem set9_but (w : World) (g : Nat) (v0 v1 v2 v3 v4 v5 v6 v7 v8 : Value) : But [g] w (set9 w g v0 v1 v2 v3 v4 v5 v6 v7 v8) :=
  setD (setD (setD (setD (setD (setD (setD (setD (setD (But.refl [g] w) 0 v0) 1 v1) 2 v2) 3 v3) 4 v4) 5 v5) 6 v6) 7 v7) 8 v8
theorem tok_stream : TOk 84 := ⟨by decide, by decide⟩
set_option maxHeartbeats 4000000 in
theorem Parse_nc (me p : ByteArray) (m : Nat) (en : Bool) (hm : m ≤ 9223372036854775807) (hp : p.size ≤ 3000000000) (w : World) (hw : Env w)
    (hc : (hRun (newH p.data.toList en) p.data.toList).2 = 0 → (hRun (newH p.data.toList en) p.data.toList).1.headed = true → bdl me.data.toList (hRun (newH p.data.toList en) p.data.toList).1.st = false → (hRun (newH p.data.toList en) p.data.toList).1.kind ≠ 2) :
    Calls Tryz.prog 21 #[.string me, .string p, .int .i64 (m : Int), .bool en] w fun e w' => ∃ vf, e = .returned (.tuple #[.agg (parC (rspR (newH p.data.toList en) me.data.toList m) p.size vf).1.toArray, .int .i64 (parC (rspR (newH p.data.toList en) me.data.toList m) p.size vf).2.1, .int .i64 (parC (rspR (newH p.data.toList en) me.data.toList m) p.size vf).2.2]) ∧ OwnF 63 w.heap.size vf (rspR (newH p.data.toList en) me.data.toList m).s.fs w' ∧ Below w.heap.size w w' := by
  obtain ⟨k1, k2, k3⟩ := newH_ok p.data.toList en
  obtain ⟨wR, hwR⟩ : ∃ wR, wR = w.alloc (.cells #[.int .i64 0, .string ⟨#[]⟩, .slice none 0 0, .string ⟨#[]⟩, .int .i64 0, .slice none 0 0, .int .i64 0, .int .i64 0, .bool false] 51) := ⟨_, rfl⟩
  have hbR : Below w.heap.size w wR := by rw [hwR]; exact (Below.refl _ w).alloc (Nat.le_refl _) _
  have hRb : Blk 51 wR w.heap.size zeroC := by rw [hwR]; exact heap_alloc_new w _
  have hRs : wR.heap.size = w.heap.size + 1 := by rw [hwR]; simp
  obtain ⟨wS, hwS⟩ : ∃ wS, wS = wR.alloc (.cells #[.string p, .bool en, .int .i64 0, .int .i64 0, .slice none 0 0, .int .i64 0, .bool false, .slice none 0 0, .pointer none, .int .i64 0, .string ⟨#[]⟩, .slice none 0 0, .string ⟨#[]⟩, .int .i64 0, .slice none 0 0, .int .i64 0, .int .i64 0, .bool false] 84) := ⟨_, rfl⟩
  have hstr : lcH (newH p.data.toList en) (.slice none 0 0) (.slice none 0 0) [] = [.string p, .bool en, .int .i64 0, .int .i64 0, .slice none 0 0, .int .i64 0, .bool false, .slice none 0 0, .pointer none, .int .i64 0, .string ⟨#[]⟩, .slice none 0 0, .string ⟨#[]⟩, .int .i64 0, .slice none 0 0, .int .i64 0, .int .i64 0, .bool false] := by
    show (Value.string (str p.data.toList) :: _) = _
    rw [str_self]
    rfl
  have hbS : Below wR.heap.size wR wS := by rw [hwS]; exact (Below.refl _ wR).alloc (Nat.le_refl _) _
  have hSb : Blk 84 wS wR.heap.size (lcH (newH p.data.toList en) (.slice none 0 0) (.slice none 0 0) []) := by rw [hstr, hwS]; exact heap_alloc_new wR _
  have hD : HdS 84 [] wS wR.heap.size (newH p.data.toList en) [wR.heap.size] := ⟨.slice none 0 0, .slice none 0 0, ⟨hSb, World.ownsRow_nil _ _ _ _, World.ownsRow_nil _ _ _ _⟩, rfl⟩
  have hB : Base wR wS [wR.heap.size] := ⟨hw.below hbR, hbS, fun x hx => by simp at hx; omega⟩
  have hRr := readResponse_nc tok_stream hB hD k1 k2 k3 (by show p.data.toList.length ≤ _; rw [size_list]; exact hp) me m hm hc
  have HBR : Hid (Below w.heap.size w wR) := hbR
  have HRB : Hid (Blk 51 wR w.heap.size zeroC) := hRb
  have HBS : Hid (Base wR wS [wR.heap.size]) := hB
  have HRS : Hid (wR.heap.size = w.heap.size + 1) := hRs
  generalize rspR (newH p.data.toList en) me.data.toList m = R at *
  rw [hRs] at hRr
  have HRr : Hid (Calls _ _ _ _ _) := hRr
  clear hRr hB hD hSb hbS hstr hRb hbR k1 k2 k3 hc
  go_enter Tryz.func21, Tryz.ntmps21
  go_wp2_with fail
  rw [← hwR, ← hwS]
  refine HRr.out.mono ?_
  rintro e w3 ⟨rfl, b3, hd3, hg3⟩
  have hB3 := HBS.out.goes (by rw [HRS.out]; exact hg3)
  have HB3 : Hid (Below w.heap.size w w3) := HBR.out.trans (hB3.bel.mono (by have := HBR.out.size; exact this))
  have HR3 : Hid (Blk 51 w3 w.heap.size zeroC) := HRB.out.below hB3.bel
  obtain ⟨vl, vb, vf, HI, hbs⟩ := hd3
  have HFs : Hid (OwnF 63 w.heap.size vf R.s.fs w3) := owns_base HI.fs (fun g hg => by
    have := hB3.new g (by rw [hbs]; simp [ftH, hg])
    have h2 := HRS.out
    omega)
  obtain ⟨fa, fc, rfl⟩ := ownF_form HI.fs
  have HI3 : Hid (IsB 84 [] w3 (w.heap.size + 1) R.s R.body R.bd vl vb (.slice fa R.s.fs.length fc)) := HI
  clear hB3 hg3 hbs HI HRr HBS HRB hwR hwS hRs
  generalize hg0 : w.heap.size = g0 at *
  have HG0 : Hid (w.heap.size = g0) := hg0
  clear hg0
  have r0 := HR3.out.cell 0 rfl
  have r1 := HR3.out.cell 1 rfl
  have r2 := HR3.out.cell 2 rfl
  have r3 := HR3.out.cell 3 rfl
  have r4 := HR3.out.cell 4 rfl
  have r5 := HR3.out.cell 5 rfl
  have r6 := HR3.out.cell 6 rfl
  have r7 := HR3.out.cell 7 rfl
  have r8 := HR3.out.cell 8 rfl
  have rf := HR3.out.free
  obtain ⟨done, err, s, body, bd⟩ := R
  dsimp only at HFs HI3
  have HP : Hid (∀ v, parC ⟨done, err, s, body, bd⟩ p.size v = if err ≠ 0 then (zeroC, s.wrong, err) else if done = false then (zeroC, (p.size : Int), 124) else (repC s bd v (.slice none 0 0), (s.used : Int), 0)) := fun _ => rfl
  have c3 : w3.cell? ⟨g0 + 1, 3, none⟩ = some (.int .i64 s.wrong) := HI3.out.str.cell 3 rfl
  dsimp only
  by_cases he : err = 0
  case neg =>
    have he1 : (err != 0) = true := by simp [he]
    have HQ : Hid (∀ v, parC ⟨done, err, s, body, bd⟩ p.size v = (zeroC, s.wrong, err)) := fun v => (HP.out v).trans (if_pos he)
    have d3 : w3.drew.cell? ⟨g0 + 1, 3, none⟩ = some (.int .i64 s.wrong) := c3
    clear he HP
    go_wp2_with fail
    go_region_law (fail)
    all_goals
      go_simp
      go_wp2
      have hB9 := set9_blk HR3.out (.int .i64 0) (.string ⟨#[]⟩) (.slice none 0 0) (.string ⟨#[]⟩) (.int .i64 0) (.slice none 0 0) (.int .i64 0) (.int .i64 0) (.bool false)
      have hb9 := set9_but w3 g0 (.int .i64 0) (.string ⟨#[]⟩) (.slice none 0 0) (.string ⟨#[]⟩) (.int .i64 0) (.slice none 0 0) (.int .i64 0) (.int .i64 0) (.bool false)
      have hf9 : OwnF 63 g0 (.slice fa s.fs.length fc) s.fs (set9 w3 g0 (.int .i64 0) (.string ⟨#[]⟩) (.slice none 0 0) (.string ⟨#[]⟩) (.int .i64 0) (.slice none 0 0) (.int .i64 0) (.int .i64 0) (.bool false)) := HR3.out.keep HFs.out (by decide) hb9
      have hl9 : Below g0 w3 (set9 w3 g0 (.int .i64 0) (.string ⟨#[]⟩) (.slice none 0 0) (.string ⟨#[]⟩) (.int .i64 0) (.slice none 0 0) (.int .i64 0) (.int .i64 0) (.bool false)) := hb9.below (by have := HR3.out.lt; omega) (fun x hx => by simp at hx; omega)
      obtain ⟨W9, hW9⟩ : ∃ W9, W9 = (set9 w3 g0 (.int .i64 0) (.string ⟨#[]⟩) (.slice none 0 0) (.string ⟨#[]⟩) (.int .i64 0) (.slice none 0 0) (.int .i64 0) (.int .i64 0) (.bool false)).drew := ⟨_, rfl⟩
      have hB9' : Blk 51 W9 g0 [.int .i64 0, .string ⟨#[]⟩, .slice none 0 0, .string ⟨#[]⟩, .int .i64 0, .slice none 0 0, .int .i64 0, .int .i64 0, .bool false] := by rw [hW9]; exact hB9.but (But.refl [] _).drew (fun e => by cases e)
      have HF9 : Hid (OwnF 63 g0 (.slice fa s.fs.length fc) s.fs W9) := (by rw [hW9]; exact (But.refl [] _).drew.owns hf9 (fun _ _ e => by cases e) : OwnF _ _ _ _ _)
      have HL9 : Hid (Below g0 w W9) := (by rw [hW9]; exact HB3.out.trans hl9.drew : Below _ _ _)
      have hW9' : (((((((((w3.setCell ⟨g0, 0, none⟩ (.int .i64 0)).setCell ⟨g0, 1, none⟩ (.string ⟨#[]⟩)).setCell ⟨g0, 2, none⟩ (.slice none 0 0)).setCell ⟨g0, 3, none⟩ (.string ⟨#[]⟩)).setCell ⟨g0, 4, none⟩ (.int .i64 0)).setCell ⟨g0, 5, none⟩ (.slice none 0 0)).setCell ⟨g0, 6, none⟩ (.int .i64 0)).setCell ⟨g0, 7, none⟩ (.int .i64 0)).setCell ⟨g0, 8, none⟩ (.bool false)).drew = W9 := hW9.symm
      rw [hW9']
      have q0 := hB9'.cell 0 rfl
      have q1 := hB9'.cell 1 rfl
      have q2 := hB9'.cell 2 rfl
      have q3 := hB9'.cell 3 rfl
      have q4 := hB9'.cell 4 rfl
      have q5 := hB9'.cell 5 rfl
      have q6 := hB9'.cell 6 rfl
      have q7 := hB9'.cell 7 rfl
      have q8 := hB9'.cell 8 rfl
      clear hB9 hb9 hf9 hl9 hW9 hW9' hB9'
      refine bodyPost_ret (v := .tuple #[.agg #[.int .i64 0, .string ⟨#[]⟩, .slice none 0 0, .string ⟨#[]⟩, .int .i64 0, .slice none 0 0, .int .i64 0, .int .i64 0, .bool false], .int .i64 s.wrong, .int .i64 err]) (by simp [results, Tryz.results21, go_sem, q0, q1, q2, q3, q4, q5, q6, q7, q8]) rfl ?_
      rw [HG0.out]
      refine ⟨.slice fa s.fs.length fc, ?_, HF9.out, HL9.out⟩
      rw [HQ.out]
      rfl
  subst he
  have HP2 : Hid (∀ v, parC ⟨done, 0, s, body, bd⟩ p.size v = if done = false then (zeroC, (p.size : Int), 124) else (repC s bd v (.slice none 0 0), (s.used : Int), 0)) := fun v => (HP.out v).trans (if_neg (fun h => h rfl))
  cases done with
  | false =>
    have HQ : Hid (∀ v, parC ⟨false, 0, s, body, bd⟩ p.size v = (zeroC, (p.size : Int), 124)) := fun v => (HP2.out v).trans (if_pos rfl)
    clear HP HP2
    go_wp2
    have hB9 := set9_blk HR3.out (.int .i64 0) (.string ⟨#[]⟩) (.slice none 0 0) (.string ⟨#[]⟩) (.int .i64 0) (.slice none 0 0) (.int .i64 0) (.int .i64 0) (.bool false)
    have hb9 := set9_but w3 g0 (.int .i64 0) (.string ⟨#[]⟩) (.slice none 0 0) (.string ⟨#[]⟩) (.int .i64 0) (.slice none 0 0) (.int .i64 0) (.int .i64 0) (.bool false)
    have hf9 : OwnF 63 g0 (.slice fa s.fs.length fc) s.fs (set9 w3 g0 (.int .i64 0) (.string ⟨#[]⟩) (.slice none 0 0) (.string ⟨#[]⟩) (.int .i64 0) (.slice none 0 0) (.int .i64 0) (.int .i64 0) (.bool false)) := HR3.out.keep HFs.out (by decide) hb9
    have hl9 : Below g0 w3 (set9 w3 g0 (.int .i64 0) (.string ⟨#[]⟩) (.slice none 0 0) (.string ⟨#[]⟩) (.int .i64 0) (.slice none 0 0) (.int .i64 0) (.int .i64 0) (.bool false)) := hb9.below (by have := HR3.out.lt; omega) (fun x hx => by simp at hx; omega)
    obtain ⟨W9, hW9⟩ : ∃ W9, W9 = (set9 w3 g0 (.int .i64 0) (.string ⟨#[]⟩) (.slice none 0 0) (.string ⟨#[]⟩) (.int .i64 0) (.slice none 0 0) (.int .i64 0) (.int .i64 0) (.bool false)) := ⟨_, rfl⟩
    have hB9' : Blk 51 W9 g0 [.int .i64 0, .string ⟨#[]⟩, .slice none 0 0, .string ⟨#[]⟩, .int .i64 0, .slice none 0 0, .int .i64 0, .int .i64 0, .bool false] := by rw [hW9]; exact hB9
    have HF9 : Hid (OwnF 63 g0 (.slice fa s.fs.length fc) s.fs W9) := (by rw [hW9]; exact hf9 : OwnF _ _ _ _ _)
    have HL9 : Hid (Below g0 w W9) := (by rw [hW9]; exact HB3.out.trans hl9 : Below _ _ _)
    have hW9' : (((((((((w3.setCell ⟨g0, 0, none⟩ (.int .i64 0)).setCell ⟨g0, 1, none⟩ (.string ⟨#[]⟩)).setCell ⟨g0, 2, none⟩ (.slice none 0 0)).setCell ⟨g0, 3, none⟩ (.string ⟨#[]⟩)).setCell ⟨g0, 4, none⟩ (.int .i64 0)).setCell ⟨g0, 5, none⟩ (.slice none 0 0)).setCell ⟨g0, 6, none⟩ (.int .i64 0)).setCell ⟨g0, 7, none⟩ (.int .i64 0)).setCell ⟨g0, 8, none⟩ (.bool false)) = W9 := hW9.symm
    rw [hW9']
    have q0 := hB9'.cell 0 rfl
    have q1 := hB9'.cell 1 rfl
    have q2 := hB9'.cell 2 rfl
    have q3 := hB9'.cell 3 rfl
    have q4 := hB9'.cell 4 rfl
    have q5 := hB9'.cell 5 rfl
    have q6 := hB9'.cell 6 rfl
    have q7 := hB9'.cell 7 rfl
    have q8 := hB9'.cell 8 rfl
    clear hB9 hb9 hf9 hl9 hW9 hW9' hB9'
    refine bodyPost_ret (v := .tuple #[.agg #[.int .i64 0, .string ⟨#[]⟩, .slice none 0 0, .string ⟨#[]⟩, .int .i64 0, .slice none 0 0, .int .i64 0, .int .i64 0, .bool false], .int .i64 (p.size : Int), .int .i64 124]) (by simp [results, Tryz.results21, go_sem, q0, q1, q2, q3, q4, q5, q6, q7, q8]) rfl ?_
    rw [HG0.out]
    refine ⟨.slice fa s.fs.length fc, ?_, HF9.out, HL9.out⟩
    rw [HQ.out]
    rfl
  | true =>
    have HQ : Hid (∀ v, parC ⟨true, 0, s, body, bd⟩ p.size v = (repC s bd v (.slice none 0 0), (s.used : Int), 0)) := fun v => (HP2.out v).trans (if_neg (by simp))
    clear HP HP2
    have c2 : w3.cell? ⟨g0 + 1, 2, none⟩ = some (.int .i64 (s.used : Int)) := HI3.out.str.cell 2 rfl
    have c9 : w3.cell? ⟨g0 + 1, 9, none⟩ = some (.int .i64 s.st) := HI3.out.str.cell 9 rfl
    have c10 : w3.cell? ⟨g0 + 1, 10, none⟩ = some (.string (str s.rs)) := HI3.out.str.cell 10 rfl
    have c11 : w3.cell? ⟨g0 + 1, 11, none⟩ = some (.slice fa s.fs.length fc) := HI3.out.str.cell 11 rfl
    have c12 : w3.cell? ⟨g0 + 1, 12, none⟩ = some (.string (str bd)) := HI3.out.str.cell 12 rfl
    have c13 : w3.cell? ⟨g0 + 1, 13, none⟩ = some (.int .i64 s.minor) := HI3.out.str.cell 13 rfl
    have c14 : w3.cell? ⟨g0 + 1, 14, none⟩ = some (.slice none 0 0) := HI3.out.str.cell 14 rfl
    have c15 : w3.cell? ⟨g0 + 1, 15, none⟩ = some (.int .i64 s.kind) := HI3.out.str.cell 15 rfl
    have c16 : w3.cell? ⟨g0 + 1, 16, none⟩ = some (.int .i64 s.len) := HI3.out.str.cell 16 rfl
    have c17 : w3.cell? ⟨g0 + 1, 17, none⟩ = some (.bool s.per) := HI3.out.str.cell 17 rfl
    go_wp2_with fail
    go_region_law (fail)
    all_goals
      go_simp
      go_wp2
      have hB9 := set9_blk HR3.out (.int .i64 s.st) (.string (str s.rs)) (.slice fa s.fs.length fc) (.string (str bd)) (.int .i64 s.minor) (.slice none 0 0) (.int .i64 s.kind) (.int .i64 s.len) (.bool s.per)
      have hb9 := set9_but w3 g0 (.int .i64 s.st) (.string (str s.rs)) (.slice fa s.fs.length fc) (.string (str bd)) (.int .i64 s.minor) (.slice none 0 0) (.int .i64 s.kind) (.int .i64 s.len) (.bool s.per)
      have hf9 : OwnF 63 g0 (.slice fa s.fs.length fc) s.fs (set9 w3 g0 (.int .i64 s.st) (.string (str s.rs)) (.slice fa s.fs.length fc) (.string (str bd)) (.int .i64 s.minor) (.slice none 0 0) (.int .i64 s.kind) (.int .i64 s.len) (.bool s.per)) := HR3.out.keep HFs.out (by decide) hb9
      have hl9 : Below g0 w3 (set9 w3 g0 (.int .i64 s.st) (.string (str s.rs)) (.slice fa s.fs.length fc) (.string (str bd)) (.int .i64 s.minor) (.slice none 0 0) (.int .i64 s.kind) (.int .i64 s.len) (.bool s.per)) := hb9.below (by have := HR3.out.lt; omega) (fun x hx => by simp at hx; omega)
      obtain ⟨W9, hW9⟩ : ∃ W9, W9 = (set9 w3 g0 (.int .i64 s.st) (.string (str s.rs)) (.slice fa s.fs.length fc) (.string (str bd)) (.int .i64 s.minor) (.slice none 0 0) (.int .i64 s.kind) (.int .i64 s.len) (.bool s.per)).drew := ⟨_, rfl⟩
      have hB9' : Blk 51 W9 g0 [.int .i64 s.st, .string (str s.rs), .slice fa s.fs.length fc, .string (str bd), .int .i64 s.minor, .slice none 0 0, .int .i64 s.kind, .int .i64 s.len, .bool s.per] := by rw [hW9]; exact hB9.but (But.refl [] _).drew (fun e => by cases e)
      have HF9 : Hid (OwnF 63 g0 (.slice fa s.fs.length fc) s.fs W9) := (by rw [hW9]; exact (But.refl [] _).drew.owns hf9 (fun _ _ e => by cases e) : OwnF _ _ _ _ _)
      have HL9 : Hid (Below g0 w W9) := (by rw [hW9]; exact HB3.out.trans hl9.drew : Below _ _ _)
      have hW9' : (((((((((w3.setCell ⟨g0, 0, none⟩ (.int .i64 s.st)).setCell ⟨g0, 1, none⟩ (.string (str s.rs))).setCell ⟨g0, 2, none⟩ (.slice fa s.fs.length fc)).setCell ⟨g0, 3, none⟩ (.string (str bd))).setCell ⟨g0, 4, none⟩ (.int .i64 s.minor)).setCell ⟨g0, 5, none⟩ (.slice none 0 0)).setCell ⟨g0, 6, none⟩ (.int .i64 s.kind)).setCell ⟨g0, 7, none⟩ (.int .i64 s.len)).setCell ⟨g0, 8, none⟩ (.bool s.per)).drew = W9 := hW9.symm
      rw [hW9']
      have q0 := hB9'.cell 0 rfl
      have q1 := hB9'.cell 1 rfl
      have q2 := hB9'.cell 2 rfl
      have q3 := hB9'.cell 3 rfl
      have q4 := hB9'.cell 4 rfl
      have q5 := hB9'.cell 5 rfl
      have q6 := hB9'.cell 6 rfl
      have q7 := hB9'.cell 7 rfl
      have q8 := hB9'.cell 8 rfl
      clear hB9 hb9 hf9 hl9 hW9 hW9' hB9'
      refine bodyPost_ret (v := .tuple #[.agg #[.int .i64 s.st, .string (str s.rs), .slice fa s.fs.length fc, .string (str bd), .int .i64 s.minor, .slice none 0 0, .int .i64 s.kind, .int .i64 s.len, .bool s.per], .int .i64 (s.used : Int), .int .i64 0]) (by simp [results, Tryz.results21, go_sem, q0, q1, q2, q3, q4, q5, q6, q7, q8]) rfl ?_
      rw [HG0.out]
      refine ⟨.slice fa s.fs.length fc, ?_, HF9.out, HL9.out⟩
      rw [HQ.out]
      rfl
end Ms
end Go.Proofs.YtcelekfokbdmfaaGreatDoor
set_option linter.unusedVariables false
set_option linter.unusedSimpArgs false
set_option maxRecDepth 100000
namespace Go.Proofs.YtcelekfokbdmfaaGreatDoor
open Go.RowKit Go.Shelf
namespace Ms
open Oc Tg _root_.Go.Proofs.YtcelekfokbdmfaaGreatDoor.Fd _root_.Go.Proofs.YtcelekfokbdmfaaGreatDoor.Ck
def aR : Rs := ⟨200, [], [([65], [49])], [104, 105]⟩
def aM : Mn := ⟨[71, 69, 84], false, false, false, [], []⟩
def aT : List UInt8 := [72, 84, 84, 80, 47, 49, 46, 49, 32, 50, 48, 48, 32, 79, 75, 13, 10, 65, 58, 32, 49, 13, 10, 67, 111, 110, 116, 101, 110, 116, 45, 76, 101, 110, 103, 116, 104, 58, 32, 50, 13, 10, 13, 10, 104, 105]
theorem itoa_2 : Lib.itoa 2 = [50] := by
  rw [itoa_decD 2 (by omega), if_neg (by omega), show (2 : Int).natAbs = 2 from rfl, decD_step 2 (by omega)]
  rfl
theorem itoa_200 : Lib.itoa 200 = [50, 48, 48] := by
  rw [itoa_decD 200 (by omega), if_neg (by omega), show (200 : Int).natAbs = 200 from rfl, decD_step 200 (by omega), show 200 / 10 = 20 from rfl, decD_step 20 (by omega), show 20 / 10 = 2 from rfl, decD_step 2 (by omega)]
  rfl
theorem beh_a : behF aR aM = [(nCL, [50])] := by
  unfold behF
  rw [show (aR.bd.length : Int) = 2 from rfl, itoa_2]
  rfl
theorem head_a : headR aR aM = (aT.take 44, 0) := by
  unfold headR hdP
  rw [beh_a, show aR.st = 200 from rfl, itoa_200]
  decide +kernel
theorem prn_a : prnN aR aM = (aT, 0) := by
  unfold prnN
  rw [head_a]
  decide +kernel
def aH : BR := rspR (newH (aT ++ [120]) false) [71, 69, 84] 2
theorem aH_done : aH.done = true := by decide +kernel
theorem aH_err : aH.err = 0 := by decide +kernel
theorem aH_bd : aH.bd = [104, 105] := by decide +kernel
theorem aH_used : aH.s.used = 46 := by decide +kernel
theorem aH_kind : (hRun (newH (aT ++ [120]) false) (aT ++ [120])).1.kind = 1 := by decide +kernel
set_option maxHeartbeats 2000000 in
theorem awake_any (w : World) (hw : Env w) (hp : Pow w) :
    Calls Tryz.prog 8 #[] w fun e w' => e = .returned (.bool true) ∧ Below w.heap.size w w' := by
  obtain ⟨W0, hW0⟩ : ∃ W0, W0 = w.alloc (.cells #[.string ⟨#[65]⟩, .string ⟨#[49]⟩] 63) := ⟨_, rfl⟩
  have hb0 : Below w.heap.size w W0 := by rw [hW0]; exact (Below.refl _ w).alloc (Nat.le_refl _) _
  have hf : InF (.slice (some ⟨w.heap.size, 0, none⟩) 1 1) aR.fs W0 := by
    rw [hW0]
    exact ⟨rd_oneF w 63 ([65], [49]), fun h => by cases h⟩
  have hPr := Print_nc aR aM rfl ⟨by decide, by decide⟩ (by decide) (by decide) (by decide) (.slice (some ⟨w.heap.size, 0, none⟩) 1 1) (.slice none 0 0) (.slice none 0 0) none 0 rfl W0 hf ⟨none, 0, rfl, .inl rfl⟩ (hp.below hb0 (Nat.le_refl _)) (hw.below hb0).1
  rw [prn_a] at hPr
  have HPr : Hid (Calls Tryz.prog 14 #[.agg #[.int .i64 200, .string ⟨#[]⟩, .slice (some ⟨w.heap.size, 0, none⟩) 1 1, .string ⟨#[104, 105]⟩], .agg #[.string ⟨#[71, 69, 84]⟩, .bool false, .bool false, .bool false, .slice none 0 0, .slice none 0 0]] W0 fun e w' => e = .returned (.tuple #[.string ⟨#[72, 84, 84, 80, 47, 49, 46, 49, 32, 50, 48, 48, 32, 79, 75, 13, 10, 65, 58, 32, 49, 13, 10, 67, 111, 110, 116, 101, 110, 116, 45, 76, 101, 110, 103, 116, 104, 58, 32, 50, 13, 10, 13, 10, 104, 105]⟩, .int .i64 0]) ∧ Below W0.heap.size W0 w') := hPr
  have HPa : Hid (∀ W, Env W → Calls Tryz.prog 21 #[.string ⟨#[71, 69, 84]⟩, .string (⟨#[72, 84, 84, 80, 47, 49, 46, 49, 32, 50, 48, 48, 32, 79, 75, 13, 10, 65, 58, 32, 49, 13, 10, 67, 111, 110, 116, 101, 110, 116, 45, 76, 101, 110, 103, 116, 104, 58, 32, 50, 13, 10, 13, 10, 104, 105]⟩ ++ ⟨#[120]⟩), .int .i64 2, .bool false] W fun e w' => ∃ (rs : ByteArray) (fa : Option Addr) (fl fc : Nat) (st mi kd ln : Int) (pe : Bool), e = .returned (.tuple #[.agg #[.int .i64 st, .string rs, .slice fa fl fc, .string ⟨#[104, 105]⟩, .int .i64 mi, .slice none 0 0, .int .i64 kd, .int .i64 ln, .bool pe], .int .i64 46, .int .i64 0]) ∧ Below (World.heap W).size W w') := fun W hW => by
    have hl : ((⟨#[72, 84, 84, 80, 47, 49, 46, 49, 32, 50, 48, 48, 32, 79, 75, 13, 10, 65, 58, 32, 49, 13, 10, 67, 111, 110, 116, 101, 110, 116, 45, 76, 101, 110, 103, 116, 104, 58, 32, 50, 13, 10, 13, 10, 104, 105]⟩ : ByteArray) ++ ⟨#[120]⟩).data.toList = aT ++ [120] := by simp [aT]
    have h := Parse_nc ⟨#[71, 69, 84]⟩ ((⟨#[72, 84, 84, 80, 47, 49, 46, 49, 32, 50, 48, 48, 32, 79, 75, 13, 10, 65, 58, 32, 49, 13, 10, 67, 111, 110, 116, 101, 110, 116, 45, 76, 101, 110, 103, 116, 104, 58, 32, 50, 13, 10, 13, 10, 104, 105]⟩ : ByteArray) ++ ⟨#[120]⟩) 2 false (by omega) (by rw [← size_list, hl]; decide) W hW (by
      rw [hl]
      intro _ _ _
      rw [aH_kind]
      decide)
    rw [hl] at h
    refine h.mono ?_
    rintro e w' ⟨vf, rfl, ho, hb⟩
    obtain ⟨fa, fc, rfl⟩ := ownF_form ho
    have e1 : rspR (newH (aT ++ [120]) false) (⟨#[71, 69, 84]⟩ : ByteArray).data.toList 2 = aH := rfl
    rw [e1]
    have e2 : ∀ z v, parC aH z v = (repC aH.s aH.bd v (.slice none 0 0), (aH.s.used : Int), 0) := fun z v => by
      unfold parC
      rw [if_neg (fun h => h aH_err), if_neg (by rw [aH_done]; simp)]
    rw [e2, aH_bd, aH_used]
    exact ⟨_, _, _, _, _, _, _, _, _, rfl, hb⟩
  have HW0 : Hid (W0 = _) := hW0
  have HB0 : Hid (Below w.heap.size w W0) := hb0
  have HE : Hid (Env w) := hw
  clear hW0 hb0 hf hPr hw hp
  go_enter Tryz.func8, Tryz.ntmps8
  go_wp2_with fail
  rw [← HW0.out]
  refine HPr.out.mono ?_
  rintro e w1 ⟨rfl, hb1⟩
  have HB1 : Hid (Below w.heap.size w w1) := HB0.out.trans (hb1.mono HB0.out.size)
  clear hb1 HPr HW0
  obtain ⟨TX, hTX⟩ : ∃ TX, TX = (⟨#[72, 84, 84, 80, 47, 49, 46, 49, 32, 50, 48, 48, 32, 79, 75, 13, 10, 65, 58, 32, 49, 13, 10, 67, 111, 110, 116, 101, 110, 116, 45, 76, 101, 110, 103, 116, 104, 58, 32, 50, 13, 10, 13, 10, 104, 105]⟩ : ByteArray) := ⟨_, rfl⟩
  have hz : TX.size = 46 := by rw [hTX]; rfl
  rw [← hTX] at HPa ⊢
  have hq1 : (TX.toList == [72, 84, 84, 80, 47, 49, 46, 49, 32, 50, 48, 48, 32, 79, 75, 13, 10, 65, 58, 32, 49, 13, 10, 67, 111, 110, 116, 101, 110, 116, 45, 76, 101, 110, 103, 116, 104, 58, 32, 50, 13, 10, 13, 10, 104, 105]) = true := by rw [hTX, ByteArray.toList_eq]; decide
  have hq2 : (TX.toList != [72, 84, 84, 80, 47, 49, 46, 49, 32, 50, 48, 48, 32, 79, 75, 13, 10, 65, 58, 32, 49, 13, 10, 67, 111, 110, 116, 101, 110, 116, 45, 76, 101, 110, 103, 116, 104, 58, 32, 50, 13, 10, 13, 10, 104, 105]) = false := by rw [hTX, ByteArray.toList_eq]; decide
  clear hTX
  have hz1 : TX.size + 1 ≤ 9223372036854775807 := by omega
  go_wp2_with fail
  refine (HPa.out _ (HE.out.below HB1.out)).mono ?_
  rintro e w2 ⟨rs, fa, fl, fc, st, mi, kd, ln, pe, rfl, hb2⟩
  have HB2 : Hid (Below w.heap.size w w2) := bel_trans HB1.out hb2
  clear hb2 HPa
  go_wp2
  go_ret
  exact ⟨rfl, HB2.out.alloc HB2.out.size _⟩
end Ms
end Go.Proofs.YtcelekfokbdmfaaGreatDoor
set_option linter.unusedVariables false
set_option linter.unusedSimpArgs false
set_option maxRecDepth 100000
namespace Go.Proofs.YtcelekfokbdmfaaGreatDoor
open Go.RowKit Go.Shelf
namespace Ms
open Oc Tg _root_.Go.Proofs.YtcelekfokbdmfaaGreatDoor.Fd _root_.Go.Proofs.YtcelekfokbdmfaaGreatDoor.Ck
theorem back_no {l : List UInt8} (h : ∀ x ∈ l, x ≠ 13) : backB l = false := by
  unfold backB
  rw [decide_eq_false]
  intro e
  exact h 13 (List.mem_of_getLast? e) rfl
theorem back_yes (l : List UInt8) : backB (l ++ [13]) = true := by
  unfold backB
  simp
theorem run_byte (s : HS) (u : UInt8) (t : List UInt8) (hh : s.headed = false) (hu : s.used < 65536) (hb : ∀ x ∈ s.line, x ≠ 13) (h10 : u ≠ 10) (hg : s.lineAt = 0 → gonI s.used (u.toNat : Int) = true) :
    hRun s (u :: t) = hRun { s with piece := t, used := s.used + 1, line := s.line ++ [u] } t := by
  have ht : hTake (hNext s t) u s.used = ({ s with piece := t, used := s.used + 1, line := s.line ++ [u] }, 0) := by
    unfold hTake hNext
    dsimp only
    rw [if_neg (by omega), back_no hb, decide_eq_false h10, if_neg (by simp), if_neg h10, if_neg]
    rintro ⟨h1, h2⟩
    rw [hg h1] at h2
    cases h2
  show (if s.headed = true then _ else _) = _
  rw [if_neg (by rw [hh]; simp), ht]
  rw [if_neg (by simp)]
theorem run_line : ∀ (l : List UInt8) (s : HS) (rest : List UInt8), s.headed = false → (∀ x ∈ l, x ≠ 13 ∧ x ≠ 10) → s.used + l.length + 2 ≤ 65536 → (∀ x ∈ s.line, x ≠ 13) → (s.lineAt = 0 → ∀ j c, (l ++ [13])[j]? = some c → gonI (s.used + j) (c.toNat : Int) = true) →
    hRun s (l ++ 13 :: 10 :: rest) = (if (hEnd { s with piece := rest, used := s.used + l.length + 2, line := s.line ++ l ++ [13] }).2 ≠ 0 then hEnd { s with piece := rest, used := s.used + l.length + 2, line := s.line ++ l ++ [13] } else hRun (hEnd { s with piece := rest, used := s.used + l.length + 2, line := s.line ++ l ++ [13] }).1 rest)
  | [], s, rest, hh, hl, hu, hb, hg => by
    simp only [List.length_nil, Nat.add_zero] at hu
    rw [List.nil_append, run_byte s 13 (10 :: rest) hh (by omega) hb (by decide) (fun h => by
      have := hg h 0 13 rfl
      simpa using this)]
    show (if s.headed = true then _ else _) = _
    rw [if_neg (by rw [hh]; simp)]
    have ht : hTake (hNext { s with piece := 10 :: rest, used := s.used + 1, line := s.line ++ [13] } rest) 10 (s.used + 1) = hEnd { s with piece := rest, used := s.used + 2, line := s.line ++ [13] } := by
      unfold hTake hNext
      dsimp only
      rw [if_neg (by omega), back_yes, decide_eq_true rfl, if_neg (by simp), if_pos rfl]
    dsimp only
    rw [ht]
    simp only [List.length_nil, Nat.add_zero, List.append_nil]
  | u :: l, s, rest, hh, hl, hu, hb, hg => by
    have hu1 := hl u (List.mem_cons_self)
    simp only [List.length_cons] at hu
    rw [List.cons_append, run_byte s u (l ++ 13 :: 10 :: rest) hh (by omega) hb hu1.2 (fun h => by
      have := hg h 0 u rfl
      simpa using this)]
    rw [run_line l { s with piece := l ++ 13 :: 10 :: rest, used := s.used + 1, line := s.line ++ [u] } rest hh (fun x hx => hl x (List.mem_cons_of_mem _ hx)) (by dsimp only; omega) (by
      intro x hx
      rcases List.mem_append.1 hx with h | h
      · exact hb x h
      · simp at h; rw [h]; exact hu1.1) (fun h j c hc => by
        have := hg h (j + 1) c (by simpa using hc)
        dsimp only
        rw [show s.used + 1 + j = s.used + (j + 1) by omega]
        exact this)]
    dsimp only
    rw [show s.used + 1 + l.length + 2 = s.used + (l.length + 1) + 2 by omega, List.append_assoc s.line [u] l]
    rfl
def mid (s : HS) (la : Nat) (fs : List Fl) (used : Nat) (piece : List UInt8) : HS := { s with piece := piece, used := used, line := [], lineAt := la, fs := fs }
theorem hEnd_field (x : HS) (p : Fl) (hla : x.lineAt ≠ 0) (hl : x.line = lineP p ++ [13]) (h1 : isName p.1 = true) (h2 : isValue p.2 = true) (hne : lineP p ≠ []) (hf : x.fs.length < 100) :
    hEnd x = ({ x with lineAt := x.used, line := [], fs := x.fs ++ [p] }, 0) := by
  have e : x.line.dropLast = lineP p := by rw [hl]; simp
  unfold hEnd
  rw [if_neg hla, e, if_neg hne]
  unfold hField
  have e2 : (hNew x).fs = x.fs := rfl
  rw [e2, if_neg (by omega), parse_line h1 h2, if_neg (by simp)]
  rfl
theorem hEnd_last (x : HS) (hla : x.lineAt ≠ 0) (hl : x.line = [13]) : hEnd x = hHead { x with lineAt := x.used, line := [] } x.lineAt := by
  have e : x.line.dropLast = [] := by rw [hl]; rfl
  unfold hEnd
  rw [if_neg hla, e, if_pos rfl]
  rfl
theorem hEnd_first (x : HS) (l : List UInt8) (hla : x.lineAt = 0) (hl : x.line = l ++ [13]) : hEnd x = (hStatus { x with lineAt := x.used, line := [] } l, 0) := by
  have e : x.line.dropLast = l := by rw [hl]; simp
  unfold hEnd
  rw [if_pos hla, e]
  rfl
theorem line_ne (p : Fl) : lineP p ≠ [] := by
  unfold lineP
  split <;> simp
theorem line_10 {p : Fl} (h1 : isName p.1 = true) (h2 : isValue p.2 = true) : ∀ c ∈ lineP p, c ≠ 10 := by
  obtain ⟨n, v⟩ := p
  dsimp only at h1 h2
  have hn := h1
  unfold isName isTok at hn
  simp only [Bool.and_eq_true, List.all_eq_true] at hn
  have hv := h2
  unfold isValue isFld at hv
  simp only [Bool.and_eq_true, List.all_eq_true] at hv
  intro c hc
  unfold lineP at hc
  dsimp only at hc
  have key : c ∈ n ∨ c = 58 ∨ c = 32 ∨ c ∈ v := by
    split at hc
    · simp at hc; rcases hc with h | h
      · exact .inl h
      · exact .inr (.inl h)
    · simp at hc; rcases hc with h | h | h | h
      · exact .inl h
      · exact .inr (.inl h)
      · exact .inr (.inr (.inl h))
      · exact .inr (.inr (.inr h))
  rcases key with h | rfl | rfl | h
  · exact fun e => by have := hn.1.2 c h; rw [e] at this; revert this; decide +kernel
  · decide
  · decide
  · exact fun e => by have := hv.1.1 c h; rw [e] at this; revert this; decide +kernel
theorem run_field (s : HS) (p : Fl) (rest : List UInt8) (hh : s.headed = false) (hla : s.lineAt ≠ 0) (hln : s.line = []) (h1 : isName p.1 = true) (h2 : isValue p.2 = true) (hn10 : ∀ c ∈ lineP p, c ≠ 10) (hne : lineP p ≠ []) (hf : s.fs.length < 100) (hu : s.used + (lineP p).length + 2 ≤ 65536) :
    hRun s (lineP p ++ 13 :: 10 :: rest) = hRun { s with piece := rest, used := s.used + (lineP p).length + 2, line := [], lineAt := s.used + (lineP p).length + 2, fs := s.fs ++ [p] } rest := by
  rw [run_line (lineP p) s rest hh (fun x hx => ⟨line_13 h1 h2 x hx, hn10 x hx⟩) hu (by rw [hln]; intro x hx; cases hx) (fun h => absurd h hla)]
  rw [hEnd_field { s with piece := rest, used := s.used + (lineP p).length + 2, line := s.line ++ lineP p ++ [13] } p hla (by dsimp only; rw [hln, List.nil_append]) h1 h2 hne hf]
  rw [if_neg (by simp)]
theorem run_fields : ∀ (t : List Fl) (s : HS) (rest : List UInt8), s.headed = false → s.lineAt ≠ 0 → s.line = [] → (∀ p ∈ t, isName p.1 = true ∧ isValue p.2 = true) → s.fs.length + t.length ≤ 100 → s.used + (textOf t).length ≤ 65536 →
    ∃ la, la ≠ 0 ∧ hRun s (textOf t ++ rest) = hRun { s with piece := (if t = [] then s.piece else rest), used := s.used + (textOf t).length, line := [], lineAt := la, fs := s.fs ++ t } rest
  | [], s, rest, hh, hla, hln, hr, hf, hu => ⟨s.lineAt, hla, by
    have e : textOf ([] : List Fl) = [] := rfl
    rw [e, List.nil_append, if_pos rfl, List.append_nil]
    congr 1
    cases s
    simp_all⟩
  | p :: t, s, rest, hh, hla, hln, hr, hf, hu => by
    have e : textOf (p :: t) ++ rest = lineP p ++ 13 :: 10 :: (textOf t ++ rest) := by
      unfold textOf
      rw [List.flatMap_cons]
      simp
    have ez : (textOf (p :: t)).length = (lineP p).length + 2 + (textOf t).length := by
      unfold textOf
      rw [List.flatMap_cons]
      simp
      omega
    simp only [List.length_cons] at hf
    obtain ⟨h1, h2⟩ := hr p List.mem_cons_self
    rw [e, run_field s p (textOf t ++ rest) hh hla hln h1 h2 (line_10 h1 h2) (line_ne p) (by omega) (by omega)]
    obtain ⟨la, hl0, ih⟩ := run_fields t { s with piece := textOf t ++ rest, used := s.used + (lineP p).length + 2, line := [], lineAt := s.used + (lineP p).length + 2, fs := s.fs ++ [p] } rest hh (by dsimp only; omega) rfl (fun q hq => hr q (List.mem_cons_of_mem _ hq)) (by dsimp only; rw [List.length_append]; simp only [List.length_cons, List.length_nil]; omega) (by dsimp only; omega)
    refine ⟨la, hl0, ?_⟩
    rw [ih]
    dsimp only
    have e2 : (if t = [] then textOf t ++ rest else rest) = rest := by
      split
      · next h => rw [h]; rfl
      · rfl
    have e3 : (if p :: t = [] then s.piece else rest) = rest := if_neg (List.cons_ne_nil p t)
    have e4 : s.fs ++ [p] ++ t = s.fs ++ p :: t := by simp
    have e5 : s.used + (lineP p).length + 2 + (textOf t).length = s.used + (textOf (p :: t)).length := by omega
    rw [e2, e3, e4, e5]
end Ms
end Go.Proofs.YtcelekfokbdmfaaGreatDoor
