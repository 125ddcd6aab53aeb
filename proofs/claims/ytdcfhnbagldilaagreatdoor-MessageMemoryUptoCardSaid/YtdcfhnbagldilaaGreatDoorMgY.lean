import Derived.Test.YtdcfhnbagldilaaGreatDoorMgP
import Derived.Test.YtdcfhnbagldilaaGreatDoorMgN
import Derived.Test.YtdcfhnbagldilaaGreatDoorMsZ
import Derived.Test.YtdcfhnbagldilaaGreatDoorMgO
set_option linter.unusedVariables false
set_option linter.unusedSimpArgs false
set_option maxRecDepth 100000
namespace Go.Proofs.YtdcfhnbagldilaaGreatDoor
open Go.RowKit Go.Shelf
namespace Ms
open Oc Tg _root_.Go.Proofs.YtdcfhnbagldilaaGreatDoor.Fd _root_.Go.Proofs.YtdcfhnbagldilaaGreatDoor.Ck
theorem num_bd (l : List UInt8) (m : Int) (hm : 0 ≤ m) : 0 ≤ (numR 10 l m).1 ∧ (numR 10 l m).1 ≤ m := by
  have h0 : 0 ≤ numOf 10 l := by
    have := pre_nonneg 10 (by decide) (str l) (str l).size (Nat.le_refl _)
    rw [pre_all, str_list] at this
    exact this
  unfold numR
  split
  · exact ⟨Int.le_refl _, hm⟩
  · split
    · exact ⟨Int.le_refl _, hm⟩
    · rename_i h
      exact ⟨h0, by show numOf 10 l ≤ _; omega⟩
def StOk (s : HS) : Prop := 0 ≤ s.st ∧ s.st ≤ 599
theorem hTake_st {s : HS} (h : StOk s) (u : UInt8) (a : Nat) : StOk (hTake s u a).1 := by
  have hh : ∀ s : HS, StOk s → ∀ a, StOk (hHead s a).1 := fun s h a => by
    unfold hHead
    split <;> exact h
  have hf : ∀ s : HS, StOk s → ∀ l a, StOk (hField s l a).1 := fun s h l a => by
    unfold hField
    repeat' split
    all_goals exact h
  unfold hTake
  split
  · exact h
  split
  · exact h
  split
  · unfold hEnd
    split
    · exact num_bd _ 599 (by omega)
    split
    · exact hh (hNew s) h _
    · exact hf (hNew s) h _ _
  split
  · exact h
  · exact h
theorem hRun_st : ∀ (l : List UInt8) (s : HS), StOk s → StOk (hRun s l).1
  | [], s, h => h
  | u :: t, s, h => by
    unfold hRun
    split
    · exact h
    · have h1 := hTake_st (s := hNext s t) h u s.used
      split
      · exact h1
      · exact hRun_st t _ h1
def rspR (s : HS) (me : List UInt8) (m : Nat) : BR :=
  if (hRun s s.piece).2 ≠ 0 ∨ (hRun s s.piece).1.headed = false then ⟨false, (hRun s s.piece).2, (hRun s s.piece).1, [], []⟩
  else if bdl me (hRun s s.piece).1.st = true then ⟨true, 0, (hRun s s.piece).1, [], []⟩
  else if (hRun s s.piece).1.kind = 1 then lenR (hRun s s.piece).1 [] (hRun s s.piece).1.len.toNat m
  else endR (hRun s s.piece).1 [] m
set_option maxHeartbeats 4000000 in
theorem readResponse_nc {T : Nat} (hT : TOk T) {ex : List Value} {w0 w : World} {D : Nat} {s : HS} {bs : List Nat} (HB : Base w0 w bs) (H : HdS T ex w D s bs) (hk : HOk s) (hL : LenOk s) (hSt : StOk s) (hp : s.piece.length ≤ 3000000000) (me : ByteArray) (m : Nat) (hm : m ≤ 9223372036854775807)
    (hc : (hRun s s.piece).2 = 0 → (hRun s s.piece).1.headed = true → bdl me.data.toList (hRun s s.piece).1.st = false → (hRun s s.piece).1.kind ≠ 2) :
    Calls Tryz.prog 19 #[.pointer (some ⟨D, 0, none⟩), .string me, .int .i64 (m : Int)] w fun e w' => e = .returned (.tuple #[.bool (rspR s me.data.toList m).done, .int .i64 (rspR s me.data.toList m).err]) ∧ ∃ bs', PlB T ex w' D (rspR s me.data.toList m).s (rspR s me.data.toList m).body (rspR s me.data.toList m).bd bs' ∧ Goes bs w bs' w' := by
  have HTT : Hid (TOk T) := hT
  have HRh : Hid (Calls _ _ _ _ _) := readHead_any hT HB H hk (by omega)
  have HE : Hid (rspR s me.data.toList m = if (hRun s s.piece).2 ≠ 0 ∨ (hRun s s.piece).1.headed = false then ⟨false, (hRun s s.piece).2, (hRun s s.piece).1, [], []⟩ else if bdl me.data.toList (hRun s s.piece).1.st = true then ⟨true, 0, (hRun s s.piece).1, [], []⟩ else if (hRun s s.piece).1.kind = 1 then lenR (hRun s s.piece).1 [] (hRun s s.piece).1.len.toNat m else endR (hRun s s.piece).1 [] m) := rfl
  have hL1 := hRun_len s.piece s hL
  have hO1 := hRun_ok s.piece s hk
  have hS1 := hRun_st s.piece s hSt
  have hP1 := hRun_piece s.piece s rfl
  generalize rspR s me.data.toList m = R at *
  generalize hRun s s.piece = Y at *
  obtain ⟨s1, z⟩ := Y
  dsimp only at HRh HE hL1 hO1 hS1 hP1 hc
  have HBl : Hid (∀ W, Calls _ _ _ W _) := fun W => Bodyless_any me s1.st ⟨by have := hS1.1; omega, by have := hS1.2; omega⟩ W
  clear H HB hk hL hSt hT
  go_enter Tryz.func19, Tryz.ntmps19
  go_wp2_with fail
  refine HRh.out.mono ?_
  rintro e w1 ⟨rfl, b1, hd1, hg1⟩
  obtain ⟨b2, hpl, hg2⟩ := hd1.plain
  have HD1 : Hid (PlB T ex w1 D s1 [] [] b2) := hpl
  have HG1 : Hid (Goes bs w b2 w1) := hg1.trans hg2
  clear hd1 hg1 hg2 hpl HRh
  by_cases hz : z = 0
  case neg =>
    have hz1 : (z != 0) = true := by simp [hz]
    have HQ : Hid (R = ⟨false, z, s1, [], []⟩) := HE.out.trans (if_pos (.inl hz))
    clear hz HE
    go_wp2
    go_ret2
    rw [HQ.out]
    exact ⟨rfl, b2, HD1.out, HG1.out⟩
  subst hz
  obtain ⟨vl, vb, vf, HI, hbs⟩ := HD1.out
  have c6 : w1.cell? ⟨D, 6, none⟩ = some (.bool s1.headed) := HI.str.cell 6 rfl
  have c9 : w1.cell? ⟨D, 9, none⟩ = some (.int .i64 s1.st) := HI.str.cell 9 rfl
  have c15 : w1.cell? ⟨D, 15, none⟩ = some (.int .i64 s1.kind) := HI.str.cell 15 rfl
  clear HI hbs
  by_cases hh : s1.headed = false
  · have HQ : Hid (R = ⟨false, 0, s1, [], []⟩) := HE.out.trans (if_pos (.inr hh))
    rw [hh] at c6
    clear HE hh
    go_wp2
    go_ret2
    rw [HQ.out]
    exact ⟨rfl, b2, HD1.out, HG1.out⟩
  have HE2 : Hid (R = _) := HE.out.trans (if_neg (fun h => h.elim (fun h => h rfl) hh))
  have hh : s1.headed = true := by simpa using hh
  rw [hh] at c6
  obtain ⟨n, hn, hnb⟩ := hL1 hh
  have hok := hO1 rfl
  have hk2 := hc rfl hh
  have hu := hok.used
  have HBy : Hid (Calls _ _ _ _ _) := HBl.out w1
  clear HE hh hL1 hO1 hc HBl hS1
  generalize hbd : bdl me.data.toList s1.st = bd at *
  clear hbd
  go_wp2_with fail
  refine HBy.out.mono ?_
  rintro e w2 ⟨rfl, hw2⟩
  rw [hw2]
  clear hw2 HBy
  cases bd with
  | true =>
    have HQ : Hid (R = ⟨true, 0, s1, [], []⟩) := HE2.out.trans (if_pos rfl)
    go_wp2
    go_ret2
    rw [HQ.out]
    exact ⟨rfl, b2, HD1.out, HG1.out⟩
  | false =>
    have HE3 : Hid (R = _) := HE2.out.trans (if_neg (by simp))
    have h2 : s1.kind ≠ 2 := hk2 rfl
    have h2' : (s1.kind == 2) = false := by simp [h2]
    clear HE2 hk2 h2
    by_cases h1 : s1.kind = 1
    · have h1' : (s1.kind == 1) = true := by simp [h1]
      have HQ : Hid (R = lenR s1 [] n m) := HE3.out.trans ((if_pos h1).trans (by rw [hn]; rfl))
      have HRl : Hid (Calls _ _ _ _ _) := readLength_any HTT.out HD1.out n m hn hnb hm (Nat.zero_le _) (Nat.zero_le _) (by omega) (by omega)
      generalize lenR s1 [] n m = Z at *
      clear h1 HE3 hn
      go_wp2_with fail
      refine HRl.out.mono ?_
      rintro e w3 ⟨rfl, b3, hd3, hg3⟩
      have HD3 : Hid (PlB T ex w3 D Z.s Z.body Z.bd b3) := hd3
      have HG3 : Hid (Goes bs w b3 w3) := HG1.out.trans hg3
      clear hd3 hg3
      go_wp2
      go_ret2
      rw [HQ.out]
      exact ⟨rfl, b3, HD3.out, HG3.out⟩
    · have h1' : (s1.kind == 1) = false := by simp [h1]
      have HQ : Hid (R = endR s1 [] m) := HE3.out.trans (if_neg h1)
      have HRl : Hid (Calls _ _ _ _ _) := readToEnd_any HTT.out HD1.out m hm (Nat.zero_le _) (Nat.zero_le _) (by omega) (by omega)
      generalize endR s1 [] m = Z at *
      clear h1 HE3 hn
      go_wp2_with fail
      refine HRl.out.mono ?_
      rintro e w3 ⟨rfl, b3, hd3, hg3⟩
      have HD3 : Hid (PlB T ex w3 D Z.s Z.body Z.bd b3) := hd3
      have HG3 : Hid (Goes bs w b3 w3) := HG1.out.trans hg3
      clear hd3 hg3
      go_wp2
      go_ret2
      rw [HQ.out]
      exact ⟨rfl, b3, HD3.out, HG3.out⟩
end Ms
end Go.Proofs.YtdcfhnbagldilaaGreatDoor
set_option linter.unusedVariables false
set_option linter.unusedSimpArgs false
set_option maxRecDepth 100000
namespace Go.Proofs.YtdcfhnbagldilaaGreatDoor
open Go.RowKit Go.Shelf
namespace Ms
open Oc Tg _root_.Go.Proofs.YtdcfhnbagldilaaGreatDoor.Fd _root_.Go.Proofs.YtdcfhnbagldilaaGreatDoor.Ck
theorem owns_base {w : World} {T S n B : Nat} {v : Value} {xs : List Value} (h : w.ownsRow 0 T S v n xs) (hb : ∀ g, v.ownBlock = some g → B ≤ g) : w.ownsRow B T S v n xs := by
  refine ⟨h.1, ?_⟩
  rcases h.2 with hn | ⟨g, cap, cur, rfl, _, rest⟩
  · exact .inl hn
  · exact .inr ⟨g, cap, cur, rfl, hb g rfl, rest⟩
def newH (p : List UInt8) (en : Bool) : HS := ⟨p, en, 0, 0, [], 0, false, 0, [], [], 0, 0, 0, false⟩
theorem newH_ok (p : List UInt8) (en : Bool) : HOk (newH p en) ∧ LenOk (newH p en) ∧ StOk (newH p en) := by
  refine ⟨HOk.new p en, fun h => ?_, ?_⟩
  · cases (show false = true from h)
  · exact (⟨Int.le_refl _, by decide⟩ : (0 : Int) ≤ 0 ∧ (0 : Int) ≤ 599)
def repC (s : HS) (bd : List UInt8) (vf vt : Value) : List Value := [.int .i64 s.st, .string (str s.rs), vf, .string (str bd), .int .i64 s.minor, vt, .int .i64 s.kind, .int .i64 s.len, .bool s.per]
def zeroC : List Value := [.int .i64 0, .string ⟨#[]⟩, .slice none 0 0, .string ⟨#[]⟩, .int .i64 0, .slice none 0 0, .int .i64 0, .int .i64 0, .bool false]
def parC (R : BR) (z : Nat) (vf : Value) : List Value × Int × Int :=
  if R.err ≠ 0 then (zeroC, R.s.wrong, R.err) else if R.done = false then (zeroC, (z : Int), 124) else (repC R.s R.bd vf (.slice none 0 0), (R.s.used : Int), 0)
def set9 (w : World) (g : Nat) (v0 v1 v2 v3 v4 v5 v6 v7 v8 : Value) : World := (((((((((w.setCell ⟨g, 0, none⟩ v0).setCell ⟨g, 1, none⟩ v1).setCell ⟨g, 2, none⟩ v2).setCell ⟨g, 3, none⟩ v3).setCell ⟨g, 4, none⟩ v4).setCell ⟨g, 5, none⟩ v5).setCell ⟨g, 6, none⟩ v6).setCell ⟨g, 7, none⟩ v7).setCell ⟨g, 8, none⟩ v8)
theorem set9_blk {T : Nat} {w : World} {g : Nat} (h : Blk T w g zeroC) (v0 v1 v2 v3 v4 v5 v6 v7 v8 : Value) : Blk T (set9 w g v0 v1 v2 v3 v4 v5 v6 v7 v8) g [v0, v1, v2, v3, v4, v5, v6, v7, v8] :=
  ((((((((h.set 0 v0).set 1 v1).set 2 v2).set 3 v3).set 4 v4).set 5 v5).set 6 v6).set 7 v7).set 8 v8
theorem set9_but (w : World) (g : Nat) (v0 v1 v2 v3 v4 v5 v6 v7 v8 : Value) : But [g] w (set9 w g v0 v1 v2 v3 v4 v5 v6 v7 v8) :=
  setD (setD (setD (setD (setD (setD (setD (setD (setD (But.refl [g] w) 0 v0) 1 v1) 2 v2) 3 v3) 4 v4) 5 v5) 6 v6) 7 v7) 8 v8
theorem tok_stream : TOk 56 := ⟨by decide, by decide⟩
set_option maxHeartbeats 4000000 in
theorem Parse_nc (me p : ByteArray) (m : Nat) (en : Bool) (hm : m ≤ 9223372036854775807) (hp : p.size ≤ 3000000000) (w : World) (hw : Env w)
    (hc : (hRun (newH p.data.toList en) p.data.toList).2 = 0 → (hRun (newH p.data.toList en) p.data.toList).1.headed = true → bdl me.data.toList (hRun (newH p.data.toList en) p.data.toList).1.st = false → (hRun (newH p.data.toList en) p.data.toList).1.kind ≠ 2) :
    Calls Tryz.prog 9 #[.string me, .string p, .int .i64 (m : Int), .bool en] w fun e w' => ∃ vf, e = .returned (.tuple #[.agg (parC (rspR (newH p.data.toList en) me.data.toList m) p.size vf).1.toArray, .int .i64 (parC (rspR (newH p.data.toList en) me.data.toList m) p.size vf).2.1, .int .i64 (parC (rspR (newH p.data.toList en) me.data.toList m) p.size vf).2.2]) ∧ OwnF 47 w.heap.size vf (rspR (newH p.data.toList en) me.data.toList m).s.fs w' ∧ Below w.heap.size w w' := by
  obtain ⟨k1, k2, k3⟩ := newH_ok p.data.toList en
  obtain ⟨wR, hwR⟩ : ∃ wR, wR = w.alloc (.cells #[.int .i64 0, .string ⟨#[]⟩, .slice none 0 0, .string ⟨#[]⟩, .int .i64 0, .slice none 0 0, .int .i64 0, .int .i64 0, .bool false] 31) := ⟨_, rfl⟩
  have hbR : Below w.heap.size w wR := by rw [hwR]; exact (Below.refl _ w).alloc (Nat.le_refl _) _
  have hRb : Blk 31 wR w.heap.size zeroC := by rw [hwR]; exact heap_alloc_new w _
  have hRs : wR.heap.size = w.heap.size + 1 := by rw [hwR]; simp
  obtain ⟨wS, hwS⟩ : ∃ wS, wS = wR.alloc (.cells #[.string p, .bool en, .int .i64 0, .int .i64 0, .slice none 0 0, .int .i64 0, .bool false, .slice none 0 0, .pointer none, .int .i64 0, .string ⟨#[]⟩, .slice none 0 0, .string ⟨#[]⟩, .int .i64 0, .slice none 0 0, .int .i64 0, .int .i64 0, .bool false] 56) := ⟨_, rfl⟩
  have hstr : lcH (newH p.data.toList en) (.slice none 0 0) (.slice none 0 0) [] = [.string p, .bool en, .int .i64 0, .int .i64 0, .slice none 0 0, .int .i64 0, .bool false, .slice none 0 0, .pointer none, .int .i64 0, .string ⟨#[]⟩, .slice none 0 0, .string ⟨#[]⟩, .int .i64 0, .slice none 0 0, .int .i64 0, .int .i64 0, .bool false] := by
    show (Value.string (str p.data.toList) :: _) = _
    rw [str_self]
    rfl
  have hbS : Below wR.heap.size wR wS := by rw [hwS]; exact (Below.refl _ wR).alloc (Nat.le_refl _) _
  have hSb : Blk 56 wS wR.heap.size (lcH (newH p.data.toList en) (.slice none 0 0) (.slice none 0 0) []) := by rw [hstr, hwS]; exact heap_alloc_new wR _
  have hD : HdS 56 [] wS wR.heap.size (newH p.data.toList en) [wR.heap.size] := ⟨.slice none 0 0, .slice none 0 0, ⟨hSb, World.ownsRow_nil _ _ _ _, World.ownsRow_nil _ _ _ _⟩, rfl⟩
  have hB : Base wR wS [wR.heap.size] := ⟨hw.below hbR, hbS, fun x hx => by simp at hx; omega⟩
  have hRr := readResponse_nc tok_stream hB hD k1 k2 k3 (by show p.data.toList.length ≤ _; rw [size_list]; exact hp) me m hm hc
  have HBR : Hid (Below w.heap.size w wR) := hbR
  have HRB : Hid (Blk 31 wR w.heap.size zeroC) := hRb
  have HBS : Hid (Base wR wS [wR.heap.size]) := hB
  have HRS : Hid (wR.heap.size = w.heap.size + 1) := hRs
  generalize rspR (newH p.data.toList en) me.data.toList m = R at *
  rw [hRs] at hRr
  have HRr : Hid (Calls _ _ _ _ _) := hRr
  clear hRr hB hD hSb hbS hstr hRb hbR k1 k2 k3 hc
  go_enter Tryz.func9, Tryz.ntmps9
  go_wp2_with fail
  rw [← hwR, ← hwS]
  refine HRr.out.mono ?_
  rintro e w3 ⟨rfl, b3, hd3, hg3⟩
  have hB3 := HBS.out.goes (by rw [HRS.out]; exact hg3)
  have HB3 : Hid (Below w.heap.size w w3) := HBR.out.trans (hB3.bel.mono (by have := HBR.out.size; exact this))
  have HR3 : Hid (Blk 31 w3 w.heap.size zeroC) := HRB.out.below hB3.bel
  obtain ⟨vl, vb, vf, HI, hbs⟩ := hd3
  have HFs : Hid (OwnF 47 w.heap.size vf R.s.fs w3) := owns_base HI.fs (fun g hg => by
    have := hB3.new g (by rw [hbs]; simp [ftH, hg])
    have h2 := HRS.out
    omega)
  obtain ⟨fa, fc, rfl⟩ := ownF_form HI.fs
  have HI3 : Hid (IsB 56 [] w3 (w.heap.size + 1) R.s R.body R.bd vl vb (.slice fa R.s.fs.length fc)) := HI
  clear hB3 hg3 hbs HI HRr HBS HRB hwR hwS hRs
  generalize hg0 : w.heap.size = g0 at *
  have HG0 : Hid (w.heap.size = g0) := hg0
  clear hg0
  have r0 := HR3.out.cell 0 rfl
  have r1 := HR3.out.cell 1 rfl
  have r2 := HR3.out.cell 2 rfl
  have r3 := HR3.out.cell 3 rfl
  have r4 := HR3.out.cell 4 rfl
  have r5 := HR3.out.cell 5 rfl
  have r6 := HR3.out.cell 6 rfl
  have r7 := HR3.out.cell 7 rfl
  have r8 := HR3.out.cell 8 rfl
  have rf := HR3.out.free
  obtain ⟨done, err, s, body, bd⟩ := R
  dsimp only at HFs HI3
  have HP : Hid (∀ v, parC ⟨done, err, s, body, bd⟩ p.size v = if err ≠ 0 then (zeroC, s.wrong, err) else if done = false then (zeroC, (p.size : Int), 124) else (repC s bd v (.slice none 0 0), (s.used : Int), 0)) := fun _ => rfl
  have c3 : w3.cell? ⟨g0 + 1, 3, none⟩ = some (.int .i64 s.wrong) := HI3.out.str.cell 3 rfl
  dsimp only
  by_cases he : err = 0
  case neg =>
    have he1 : (err != 0) = true := by simp [he]
    have HQ : Hid (∀ v, parC ⟨done, err, s, body, bd⟩ p.size v = (zeroC, s.wrong, err)) := fun v => (HP.out v).trans (if_pos he)
    have d3 : w3.drew.cell? ⟨g0 + 1, 3, none⟩ = some (.int .i64 s.wrong) := c3
    clear he HP
    go_wp2_with fail
    go_region_law (fail)
    all_goals
      go_simp
      go_wp2
      have hB9 := set9_blk HR3.out (.int .i64 0) (.string ⟨#[]⟩) (.slice none 0 0) (.string ⟨#[]⟩) (.int .i64 0) (.slice none 0 0) (.int .i64 0) (.int .i64 0) (.bool false)
      have hb9 := set9_but w3 g0 (.int .i64 0) (.string ⟨#[]⟩) (.slice none 0 0) (.string ⟨#[]⟩) (.int .i64 0) (.slice none 0 0) (.int .i64 0) (.int .i64 0) (.bool false)
      have hf9 : OwnF 47 g0 (.slice fa s.fs.length fc) s.fs (set9 w3 g0 (.int .i64 0) (.string ⟨#[]⟩) (.slice none 0 0) (.string ⟨#[]⟩) (.int .i64 0) (.slice none 0 0) (.int .i64 0) (.int .i64 0) (.bool false)) := HR3.out.keep HFs.out (by decide) hb9
      have hl9 : Below g0 w3 (set9 w3 g0 (.int .i64 0) (.string ⟨#[]⟩) (.slice none 0 0) (.string ⟨#[]⟩) (.int .i64 0) (.slice none 0 0) (.int .i64 0) (.int .i64 0) (.bool false)) := hb9.below (by have := HR3.out.lt; omega) (fun x hx => by simp at hx; omega)
      obtain ⟨W9, hW9⟩ : ∃ W9, W9 = (set9 w3 g0 (.int .i64 0) (.string ⟨#[]⟩) (.slice none 0 0) (.string ⟨#[]⟩) (.int .i64 0) (.slice none 0 0) (.int .i64 0) (.int .i64 0) (.bool false)).drew := ⟨_, rfl⟩
      have hB9' : Blk 31 W9 g0 [.int .i64 0, .string ⟨#[]⟩, .slice none 0 0, .string ⟨#[]⟩, .int .i64 0, .slice none 0 0, .int .i64 0, .int .i64 0, .bool false] := by rw [hW9]; exact hB9.but (But.refl [] _).drew (fun e => by cases e)
      have HF9 : Hid (OwnF 47 g0 (.slice fa s.fs.length fc) s.fs W9) := (by rw [hW9]; exact (But.refl [] _).drew.owns hf9 (fun _ _ e => by cases e) : OwnF _ _ _ _ _)
      have HL9 : Hid (Below g0 w W9) := (by rw [hW9]; exact HB3.out.trans hl9.drew : Below _ _ _)
      have hW9' : (((((((((w3.setCell ⟨g0, 0, none⟩ (.int .i64 0)).setCell ⟨g0, 1, none⟩ (.string ⟨#[]⟩)).setCell ⟨g0, 2, none⟩ (.slice none 0 0)).setCell ⟨g0, 3, none⟩ (.string ⟨#[]⟩)).setCell ⟨g0, 4, none⟩ (.int .i64 0)).setCell ⟨g0, 5, none⟩ (.slice none 0 0)).setCell ⟨g0, 6, none⟩ (.int .i64 0)).setCell ⟨g0, 7, none⟩ (.int .i64 0)).setCell ⟨g0, 8, none⟩ (.bool false)).drew = W9 := hW9.symm
      rw [hW9']
      have q0 := hB9'.cell 0 rfl
      have q1 := hB9'.cell 1 rfl
      have q2 := hB9'.cell 2 rfl
      have q3 := hB9'.cell 3 rfl
      have q4 := hB9'.cell 4 rfl
      have q5 := hB9'.cell 5 rfl
      have q6 := hB9'.cell 6 rfl
      have q7 := hB9'.cell 7 rfl
      have q8 := hB9'.cell 8 rfl
      clear hB9 hb9 hf9 hl9 hW9 hW9' hB9'
      refine bodyPost_ret (v := .tuple #[.agg #[.int .i64 0, .string ⟨#[]⟩, .slice none 0 0, .string ⟨#[]⟩, .int .i64 0, .slice none 0 0, .int .i64 0, .int .i64 0, .bool false], .int .i64 s.wrong, .int .i64 err]) (by simp [results, Tryz.results9, go_sem, q0, q1, q2, q3, q4, q5, q6, q7, q8]) rfl ?_
      rw [HG0.out]
      refine ⟨.slice fa s.fs.length fc, ?_, HF9.out, HL9.out⟩
      rw [HQ.out]
      rfl
  subst he
  have HP2 : Hid (∀ v, parC ⟨done, 0, s, body, bd⟩ p.size v = if done = false then (zeroC, (p.size : Int), 124) else (repC s bd v (.slice none 0 0), (s.used : Int), 0)) := fun v => (HP.out v).trans (if_neg (fun h => h rfl))
  cases done with
  | false =>
    have HQ : Hid (∀ v, parC ⟨false, 0, s, body, bd⟩ p.size v = (zeroC, (p.size : Int), 124)) := fun v => (HP2.out v).trans (if_pos rfl)
    clear HP HP2
    go_wp2
    have hB9 := set9_blk HR3.out (.int .i64 0) (.string ⟨#[]⟩) (.slice none 0 0) (.string ⟨#[]⟩) (.int .i64 0) (.slice none 0 0) (.int .i64 0) (.int .i64 0) (.bool false)
    have hb9 := set9_but w3 g0 (.int .i64 0) (.string ⟨#[]⟩) (.slice none 0 0) (.string ⟨#[]⟩) (.int .i64 0) (.slice none 0 0) (.int .i64 0) (.int .i64 0) (.bool false)
    have hf9 : OwnF 47 g0 (.slice fa s.fs.length fc) s.fs (set9 w3 g0 (.int .i64 0) (.string ⟨#[]⟩) (.slice none 0 0) (.string ⟨#[]⟩) (.int .i64 0) (.slice none 0 0) (.int .i64 0) (.int .i64 0) (.bool false)) := HR3.out.keep HFs.out (by decide) hb9
    have hl9 : Below g0 w3 (set9 w3 g0 (.int .i64 0) (.string ⟨#[]⟩) (.slice none 0 0) (.string ⟨#[]⟩) (.int .i64 0) (.slice none 0 0) (.int .i64 0) (.int .i64 0) (.bool false)) := hb9.below (by have := HR3.out.lt; omega) (fun x hx => by simp at hx; omega)
    obtain ⟨W9, hW9⟩ : ∃ W9, W9 = (set9 w3 g0 (.int .i64 0) (.string ⟨#[]⟩) (.slice none 0 0) (.string ⟨#[]⟩) (.int .i64 0) (.slice none 0 0) (.int .i64 0) (.int .i64 0) (.bool false)) := ⟨_, rfl⟩
    have hB9' : Blk 31 W9 g0 [.int .i64 0, .string ⟨#[]⟩, .slice none 0 0, .string ⟨#[]⟩, .int .i64 0, .slice none 0 0, .int .i64 0, .int .i64 0, .bool false] := by rw [hW9]; exact hB9
    have HF9 : Hid (OwnF 47 g0 (.slice fa s.fs.length fc) s.fs W9) := (by rw [hW9]; exact hf9 : OwnF _ _ _ _ _)
    have HL9 : Hid (Below g0 w W9) := (by rw [hW9]; exact HB3.out.trans hl9 : Below _ _ _)
    have hW9' : (((((((((w3.setCell ⟨g0, 0, none⟩ (.int .i64 0)).setCell ⟨g0, 1, none⟩ (.string ⟨#[]⟩)).setCell ⟨g0, 2, none⟩ (.slice none 0 0)).setCell ⟨g0, 3, none⟩ (.string ⟨#[]⟩)).setCell ⟨g0, 4, none⟩ (.int .i64 0)).setCell ⟨g0, 5, none⟩ (.slice none 0 0)).setCell ⟨g0, 6, none⟩ (.int .i64 0)).setCell ⟨g0, 7, none⟩ (.int .i64 0)).setCell ⟨g0, 8, none⟩ (.bool false)) = W9 := hW9.symm
    rw [hW9']
    have q0 := hB9'.cell 0 rfl
    have q1 := hB9'.cell 1 rfl
    have q2 := hB9'.cell 2 rfl
    have q3 := hB9'.cell 3 rfl
    have q4 := hB9'.cell 4 rfl
    have q5 := hB9'.cell 5 rfl
    have q6 := hB9'.cell 6 rfl
    have q7 := hB9'.cell 7 rfl
    have q8 := hB9'.cell 8 rfl
    clear hB9 hb9 hf9 hl9 hW9 hW9' hB9'
    refine bodyPost_ret (v := .tuple #[.agg #[.int .i64 0, .string ⟨#[]⟩, .slice none 0 0, .string ⟨#[]⟩, .int .i64 0, .slice none 0 0, .int .i64 0, .int .i64 0, .bool false], .int .i64 (p.size : Int), .int .i64 124]) (by simp [results, Tryz.results9, go_sem, q0, q1, q2, q3, q4, q5, q6, q7, q8]) rfl ?_
    rw [HG0.out]
    refine ⟨.slice fa s.fs.length fc, ?_, HF9.out, HL9.out⟩
    rw [HQ.out]
    rfl
  | true =>
    have HQ : Hid (∀ v, parC ⟨true, 0, s, body, bd⟩ p.size v = (repC s bd v (.slice none 0 0), (s.used : Int), 0)) := fun v => (HP2.out v).trans (if_neg (by simp))
    clear HP HP2
    have c2 : w3.cell? ⟨g0 + 1, 2, none⟩ = some (.int .i64 (s.used : Int)) := HI3.out.str.cell 2 rfl
    have c9 : w3.cell? ⟨g0 + 1, 9, none⟩ = some (.int .i64 s.st) := HI3.out.str.cell 9 rfl
    have c10 : w3.cell? ⟨g0 + 1, 10, none⟩ = some (.string (str s.rs)) := HI3.out.str.cell 10 rfl
    have c11 : w3.cell? ⟨g0 + 1, 11, none⟩ = some (.slice fa s.fs.length fc) := HI3.out.str.cell 11 rfl
    have c12 : w3.cell? ⟨g0 + 1, 12, none⟩ = some (.string (str bd)) := HI3.out.str.cell 12 rfl
    have c13 : w3.cell? ⟨g0 + 1, 13, none⟩ = some (.int .i64 s.minor) := HI3.out.str.cell 13 rfl
    have c14 : w3.cell? ⟨g0 + 1, 14, none⟩ = some (.slice none 0 0) := HI3.out.str.cell 14 rfl
    have c15 : w3.cell? ⟨g0 + 1, 15, none⟩ = some (.int .i64 s.kind) := HI3.out.str.cell 15 rfl
    have c16 : w3.cell? ⟨g0 + 1, 16, none⟩ = some (.int .i64 s.len) := HI3.out.str.cell 16 rfl
    have c17 : w3.cell? ⟨g0 + 1, 17, none⟩ = some (.bool s.per) := HI3.out.str.cell 17 rfl
    go_wp2_with fail
    go_region_law (fail)
    all_goals
      go_simp
      go_wp2
      have hB9 := set9_blk HR3.out (.int .i64 s.st) (.string (str s.rs)) (.slice fa s.fs.length fc) (.string (str bd)) (.int .i64 s.minor) (.slice none 0 0) (.int .i64 s.kind) (.int .i64 s.len) (.bool s.per)
      have hb9 := set9_but w3 g0 (.int .i64 s.st) (.string (str s.rs)) (.slice fa s.fs.length fc) (.string (str bd)) (.int .i64 s.minor) (.slice none 0 0) (.int .i64 s.kind) (.int .i64 s.len) (.bool s.per)
      have hf9 : OwnF 47 g0 (.slice fa s.fs.length fc) s.fs (set9 w3 g0 (.int .i64 s.st) (.string (str s.rs)) (.slice fa s.fs.length fc) (.string (str bd)) (.int .i64 s.minor) (.slice none 0 0) (.int .i64 s.kind) (.int .i64 s.len) (.bool s.per)) := HR3.out.keep HFs.out (by decide) hb9
      have hl9 : Below g0 w3 (set9 w3 g0 (.int .i64 s.st) (.string (str s.rs)) (.slice fa s.fs.length fc) (.string (str bd)) (.int .i64 s.minor) (.slice none 0 0) (.int .i64 s.kind) (.int .i64 s.len) (.bool s.per)) := hb9.below (by have := HR3.out.lt; omega) (fun x hx => by simp at hx; omega)
      obtain ⟨W9, hW9⟩ : ∃ W9, W9 = (set9 w3 g0 (.int .i64 s.st) (.string (str s.rs)) (.slice fa s.fs.length fc) (.string (str bd)) (.int .i64 s.minor) (.slice none 0 0) (.int .i64 s.kind) (.int .i64 s.len) (.bool s.per)).drew := ⟨_, rfl⟩
      have hB9' : Blk 31 W9 g0 [.int .i64 s.st, .string (str s.rs), .slice fa s.fs.length fc, .string (str bd), .int .i64 s.minor, .slice none 0 0, .int .i64 s.kind, .int .i64 s.len, .bool s.per] := by rw [hW9]; exact hB9.but (But.refl [] _).drew (fun e => by cases e)
      have HF9 : Hid (OwnF 47 g0 (.slice fa s.fs.length fc) s.fs W9) := (by rw [hW9]; exact (But.refl [] _).drew.owns hf9 (fun _ _ e => by cases e) : OwnF _ _ _ _ _)
      have HL9 : Hid (Below g0 w W9) := (by rw [hW9]; exact HB3.out.trans hl9.drew : Below _ _ _)
      have hW9' : (((((((((w3.setCell ⟨g0, 0, none⟩ (.int .i64 s.st)).setCell ⟨g0, 1, none⟩ (.string (str s.rs))).setCell ⟨g0, 2, none⟩ (.slice fa s.fs.length fc)).setCell ⟨g0, 3, none⟩ (.string (str bd))).setCell ⟨g0, 4, none⟩ (.int .i64 s.minor)).setCell ⟨g0, 5, none⟩ (.slice none 0 0)).setCell ⟨g0, 6, none⟩ (.int .i64 s.kind)).setCell ⟨g0, 7, none⟩ (.int .i64 s.len)).setCell ⟨g0, 8, none⟩ (.bool s.per)).drew = W9 := hW9.symm
      rw [hW9']
      have q0 := hB9'.cell 0 rfl
      have q1 := hB9'.cell 1 rfl
      have q2 := hB9'.cell 2 rfl
      have q3 := hB9'.cell 3 rfl
      have q4 := hB9'.cell 4 rfl
      have q5 := hB9'.cell 5 rfl
      have q6 := hB9'.cell 6 rfl
      have q7 := hB9'.cell 7 rfl
      have q8 := hB9'.cell 8 rfl
      clear hB9 hb9 hf9 hl9 hW9 hW9' hB9'
      refine bodyPost_ret (v := .tuple #[.agg #[.int .i64 s.st, .string (str s.rs), .slice fa s.fs.length fc, .string (str bd), .int .i64 s.minor, .slice none 0 0, .int .i64 s.kind, .int .i64 s.len, .bool s.per], .int .i64 (s.used : Int), .int .i64 0]) (by simp [results, Tryz.results9, go_sem, q0, q1, q2, q3, q4, q5, q6, q7, q8]) rfl ?_
      rw [HG0.out]
      refine ⟨.slice fa s.fs.length fc, ?_, HF9.out, HL9.out⟩
      rw [HQ.out]
      rfl
end Ms
end Go.Proofs.YtdcfhnbagldilaaGreatDoor
set_option linter.unusedVariables false
set_option linter.unusedSimpArgs false
namespace Go.Proofs.YtdcfhnbagldilaaGreatDoor
open Go.RowKit
namespace Oc
structure Both (w : World) : Prop where
  tab : Tab w
  pow : Pow w
end Oc
end Go.Proofs.YtdcfhnbagldilaaGreatDoor
set_option linter.unusedVariables false
set_option linter.unusedSimpArgs false
set_option maxRecDepth 100000
namespace Go.Proofs.YtdcfhnbagldilaaGreatDoor
open Go.RowKit Go.Shelf
namespace Ms
open Oc Tg _root_.Go.Proofs.YtdcfhnbagldilaaGreatDoor.Fd _root_.Go.Proofs.YtdcfhnbagldilaaGreatDoor.Ck
def digs (m : Nat) : List UInt8 := if m = 0 then [48] else decD m
def dgR (n : Int) : List UInt8 := if n < 0 then [45] else Lib.itoa n
set_option maxHeartbeats 1000000 in
theorem rEmpty_any (n : Int) (w : World) : Calls Tryz.prog 40 #[.int .i64 n] w fun e w' => e = .returned (.bool (nvr n)) ∧ w' = w := by
  obtain ⟨R, hR⟩ : ∃ R, R = nvr n := ⟨_, rfl⟩
  rw [← hR]
  have HR : Hid (R = (decide (100 ≤ n ∧ n ≤ 199) || (n == 204 || n == 304))) := hR
  clear hR
  by_cases h1 : 100 ≤ n
  · by_cases h2 : n ≤ 199
    · have HQ : Hid (R = true) := (by rw [HR.out]; simp [h1, h2] : _ = _)
      go_enter Tryz.func40, Tryz.ntmps40
      go_wp2
      go_ret
      exact ⟨by rw [HQ.out]; rfl, rfl⟩
    · by_cases h3 : n = 204
      · subst h3
        have HQ : Hid (R = true) := (by rw [HR.out]; rfl : _ = _)
        go_enter Tryz.func40, Tryz.ntmps40
        go_wp2
        go_ret
        exact ⟨by rw [HQ.out]; rfl, rfl⟩
      · have h3' : (n == 204) = false := by simp [h3]
        have HQ : Hid (R = (n == 304)) := (by rw [HR.out, h3']; simp [h2] : _ = _)
        go_enter Tryz.func40, Tryz.ntmps40
        go_wp2
        go_ret
        exact ⟨by rw [HQ.out]; rfl, rfl⟩
  · have h3' : (n == 204) = false := by rw [beq_eq_false_iff_ne]; omega
    have HQ : Hid (R = (n == 304)) := (by rw [HR.out, h3']; simp [h1] : _ = _)
    go_enter Tryz.func40, Tryz.ntmps40
    go_wp2
    go_ret
    exact ⟨by rw [HQ.out]; rfl, rfl⟩
set_option maxHeartbeats 2000000 in
theorem rBodyless_any (m : ByteArray) (n : Int) (w : World) : Calls Tryz.prog 20 #[.string m, .int .i64 n] w fun e w' => e = .returned (.bool (bdl m.data.toList n)) ∧ w' = w := by
  have HI : Hid (∀ W, Calls _ _ _ W _) := fun W => rEmpty_any n W
  have HQ : Hid (bdl m.data.toList n = (nvr n || (decide (m.data.toList = [72, 69, 65, 68]) || (decide (m.data.toList = [67, 79, 78, 78, 69, 67, 84]) && decide (200 ≤ n ∧ n ≤ 299))))) := rfl
  generalize bdl m.data.toList n = R at *
  generalize nvr n = b at *
  go_enter Tryz.func20, Tryz.ntmps20
  go_wp2_with fail
  refine (HI.out _).mono ?_
  rintro e w' ⟨rfl, hw⟩
  rw [hw]
  clear hw
  cases b with
  | true =>
    go_wp2
    go_ret
    exact ⟨by rw [HQ.out]; rfl, rfl⟩
  | false =>
    by_cases hm : m.data.toList = [72, 69, 65, 68]
    · have hm' : (m.toList == [72, 69, 65, 68]) = true := by rw [ByteArray.toList_eq, hm]; rfl
      rw [decide_eq_true hm] at HQ
      clear hm
      go_wp2
      go_ret
      exact ⟨by rw [HQ.out]; rfl, rfl⟩
    · have hm' : (m.toList == [72, 69, 65, 68]) = false := by rw [ByteArray.toList_eq]; simpa using hm
      rw [decide_eq_false hm] at HQ
      clear hm
      by_cases hc : m.data.toList = [67, 79, 78, 78, 69, 67, 84]
      · have hc' : (m.toList == [67, 79, 78, 78, 69, 67, 84]) = true := by rw [ByteArray.toList_eq, hc]; rfl
        rw [decide_eq_true hc] at HQ
        clear hc
        by_cases h1 : 200 ≤ n
        · have HQ2 : Hid (R = decide (n ≤ 299)) := (by rw [HQ.out]; simp [h1] : _ = _)
          go_wp2
          go_ret
          exact ⟨by rw [HQ2.out]; rfl, rfl⟩
        · have HQ2 : Hid (R = false) := (by rw [HQ.out]; simp [h1] : _ = _)
          go_wp2
          go_ret
          exact ⟨by rw [HQ2.out]; rfl, rfl⟩
      · have hc' : (m.toList == [67, 79, 78, 78, 69, 67, 84]) = false := by rw [ByteArray.toList_eq]; simpa using hc
        rw [decide_eq_false hc] at HQ
        clear hc
        go_wp2
        go_ret
        exact ⟨by rw [HQ.out]; rfl, rfl⟩
def ent (c : Int) : List UInt8 := [UInt8.ofNat (48 + c.toNat / 100), UInt8.ofNat (48 + c.toNat / 10 % 10), UInt8.ofNat (48 + c.toNat % 10)] ++ ([32] ++ rsL c)
def flat (l : List Int) : List UInt8 := l.flatMap fun c => ent c ++ [124]
def rTab : List UInt8 := flat codes
theorem flat_app (a b : List Int) : flat (a ++ b) = flat a ++ flat b := by unfold flat; rw [List.flatMap_append]
theorem tab_len : rTab.length = 787 := by decide +kernel
end Ms
end Go.Proofs.YtdcfhnbagldilaaGreatDoor
set_option linter.unusedVariables false
set_option linter.unusedSimpArgs false
set_option maxRecDepth 100000
namespace Go.Proofs.YtdcfhnbagldilaaGreatDoor
open Go.RowKit Go.Shelf
namespace Ms
open Oc Tg _root_.Go.Proofs.YtdcfhnbagldilaaGreatDoor.Fd _root_.Go.Proofs.YtdcfhnbagldilaaGreatDoor.Ck
def mid (s : HS) (la : Nat) (fs : List Fl) (used : Nat) (piece : List UInt8) : HS := { s with piece := piece, used := used, line := [], lineAt := la, fs := fs }
end Ms
end Go.Proofs.YtdcfhnbagldilaaGreatDoor
