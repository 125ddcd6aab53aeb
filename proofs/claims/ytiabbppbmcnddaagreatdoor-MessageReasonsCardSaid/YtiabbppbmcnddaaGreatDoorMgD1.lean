/- Several texts as one. -/
import Derived.Test.YtiabbppbmcnddaaGreatDoorMsZ
import Derived.Test.YtiabbppbmcnddaaGreatDoorMgZ
/-
  message: Print, where the body does not go in chunks.
-/
set_option linter.unusedVariables false
set_option linter.unusedSimpArgs false
set_option maxRecDepth 100000
namespace Go.Proofs.YtiabbppbmcnddaaGreatDoor
open Go.RowKit Go.Shelf
namespace Ms
open Oc Tg _root_.Go.Proofs.YtiabbppbmcnddaaGreatDoor.Fd _root_.Go.Proofs.YtiabbppbmcnddaaGreatDoor.Ck

def prnN (r : Rs) (m : Mn) : List UInt8 × Int :=
  if (headR r m).2 ≠ 0 then ([], (headR r m).2) else if 65536 < (headR r m).1.length then ([], 125) else if bdl m.me r.st = true then ((headR r m).1, 0) else ((headR r m).1 ++ r.bd, 0)

set_option maxHeartbeats 4000000 in
theorem Print_nc (r : Rs) (m : Mn) (hch : m.ch = false) (hn : i64 r.st) (hrl : r.rs.length ≤ 1048576) (hbl : r.bd.length ≤ 1048576) (hS : sumF r.fs ≤ 1048576) (vf vs vt : Value) (sa : Option Addr) (cs : Nat) (hvs : vs = .slice sa m.sz.length cs) (w : World) (hf : InF vf r.fs w) (ht : RdF vt m.tr w) (hp : Pow w) (tab : Tab w) :
    Calls Tryz.prog 21 #[.agg #[.int .i64 r.st, .string (str r.rs), vf, .string (str r.bd)], .agg #[.string (str m.me), .bool m.cl, .bool m.old, .bool m.ch, vs, vt]] w fun e w' => e = .returned (.tuple #[.string (str (prnN r m).1), .int .i64 (prnN r m).2]) ∧ Below w.heap.size w w' := by
  have HHd : Hid (∀ W, InF vf r.fs W → RdF vt m.tr W → Pow W → Tab W → Calls _ _ _ W _) := fun W h1 h2 h3 h4 => Head_any r m hn hrl hbl hS vf vs vt sa cs hvs W h1 h2 h3 h4
  have HBl : Hid (∀ W, Calls Tryz.prog 12 #[.string (str m.me), .int .i64 r.st] W fun e w' => e = .returned (.bool (bdl m.me r.st)) ∧ w' = W) := fun W => by
    have h := Bodyless_any (str m.me) r.st hn W
    rw [str_list] at h
    exact h
  have HIf : Hid (InF vf r.fs w) := hf
  have HTr : Hid (RdF vt m.tr w) := ht
  have HP : Hid (Pow w) := hp
  have HT : Hid (Tab w) := tab
  have HQ : Hid (prnN r m = if (headR r m).2 ≠ 0 then ([], (headR r m).2) else if 65536 < (headR r m).1.length then ([], 125) else if bdl m.me r.st = true then ((headR r m).1, 0) else ((headR r m).1 ++ r.bd, 0)) := rfl
  obtain ⟨af, cf, rfl, _⟩ := hf.1
  obtain ⟨ta, ct, rfl, _⟩ := ht
  subst hvs
  rw [hch] at HHd ⊢
  generalize prnN r m = R at *
  generalize bdl m.me r.st = b at *
  generalize headR r m = H at *
  obtain ⟨H1, H2⟩ := H
  dsimp only at HHd HQ
  have HBD : Hid (∀ l : List UInt8, str (l ++ r.bd) = str l ++ str r.bd) := fun l => (str_app l r.bd).symm
  have hbz : (str r.bd).size ≤ 1048576 := by rw [str_size]; exact hbl
  have hHz : (str H1).size = H1.length := str_size H1
  obtain ⟨HS, hHS⟩ : ∃ HS, HS = str H1 := ⟨_, rfl⟩
  have HHS : Hid (HS = str H1) := hHS
  rw [← hHS] at HHd hHz
  clear hHS
  generalize str r.bd = BD at *
  generalize str r.rs = RS at *
  generalize str m.me = ME at *
  obtain ⟨W0, hW0⟩ : ∃ W0, W0 = (w.alloc (.cells #[.int .i64 r.st, .string RS, .slice af r.fs.length cf, .string BD] 28)).alloc (.cells #[.string ME, .bool m.cl, .bool m.old, .bool false, .slice sa m.sz.length cs, .slice ta m.tr.length ct] 31) := ⟨_, rfl⟩
  have hb0 : Below w.heap.size w W0 := by rw [hW0]; exact ((Below.refl _ w).alloc (Nat.le_refl _) _).alloc (by simp) _
  have hm0 : Blk 31 W0 (w.heap.size + 1) [.string ME, .bool m.cl, .bool m.old, .bool false, .slice sa m.sz.length cs, .slice ta m.tr.length ct] := by
    rw [hW0]
    have h1 := heap_alloc_new (w.alloc (.cells #[.int .i64 r.st, .string RS, .slice af r.fs.length cf, .string BD] 28)) (.cells #[.string ME, .bool m.cl, .bool m.old, .bool false, .slice sa m.sz.length cs, .slice ta m.tr.length ct] 31)
    have e : (w.alloc (.cells #[.int .i64 r.st, .string RS, .slice af r.fs.length cf, .string BD] 28)).heap.size = w.heap.size + 1 := by simp
    rw [e] at h1
    exact h1
  have hr0 : Blk 28 W0 w.heap.size [.int .i64 r.st, .string RS, .slice af r.fs.length cf, .string BD] := by
    rw [hW0]
    exact Blk.below (heap_alloc_new w _) ((Below.refl _ _).alloc (Nat.le_refl _) _)
  have HB0 : Hid (Below w.heap.size w W0) := hb0
  have HM0 : Hid (Blk 31 W0 (w.heap.size + 1) [.string ME, .bool m.cl, .bool m.old, .bool false, .slice sa m.sz.length cs, .slice ta m.tr.length ct]) := hm0
  have HR0 : Hid (Blk 28 W0 w.heap.size [.int .i64 r.st, .string RS, .slice af r.fs.length cf, .string BD]) := hr0
  have HW0 : Hid (W0 = _) := hW0
  clear hb0 hm0 hr0 hW0 hf hp tab hch
  go_enter Tryz.func21, Tryz.ntmps21
  go_wp2_with fail
  rw [← HW0.out]
  refine (HHd.out _ (HIf.out.below HB0.out) (HTr.out.below HB0.out) (HP.out.below HB0.out (Nat.le_refl _)) (HT.out.below HB0.out (Nat.le_refl _))).mono ?_
  rintro e w1 ⟨rfl, hb1⟩
  have HB1 : Hid (Below W0.heap.size W0 w1) := hb1
  have HBw : Hid (Below w.heap.size w w1) := HB0.out.trans (hb1.mono HB0.out.size)
  clear hb1 HHd HW0
  by_cases hz : H2 = 0
  case neg =>
    have hz1 : (H2 != 0) = true := by simp [hz]
    have HQ2 : Hid (R = ([], H2)) := HQ.out.trans (if_pos hz)
    clear hz
    go_wp2
    go_ret2
    rw [HQ2.out]
    exact ⟨rfl, HBw.out⟩
  subst hz
  have HQa : Hid (R = _) := HQ.out.trans (if_neg (fun h => h rfl))
  have r0 : w1.cell? ⟨w.heap.size, 0, none⟩ = some (.int .i64 r.st) := (HR0.out.below HB1.out).cell 0 rfl
  have r3 : w1.cell? ⟨w.heap.size, 3, none⟩ = some (.string BD) := (HR0.out.below HB1.out).cell 3 rfl
  have m0 : w1.cell? ⟨w.heap.size + 1, 0, none⟩ = some (.string ME) := (HM0.out.below HB1.out).cell 0 rfl
  have m3 : w1.cell? ⟨w.heap.size + 1, 3, none⟩ = some (.bool false) := (HM0.out.below HB1.out).cell 3 rfl
  clear HQ
  have HHz : Hid (HS.size = H1.length) := hHz
  clear hHz
  by_cases hl : 65536 < H1.length
  · have hl' : (65536 : Int) < (HS.size : Int) := by have := HHz.out; omega
    have HQ2 : Hid (R = ([], 125)) := HQa.out.trans (if_pos hl)
    clear hl
    go_wp2
    go_ret2
    rw [HQ2.out]
    exact ⟨rfl, HBw.out⟩
  have hl' : ¬ (65536 : Int) < (HS.size : Int) := by have := HHz.out; omega
  have hl2 : HS.size ≤ 65536 := by have := HHz.out; omega
  have HQb : Hid (R = _) := HQa.out.trans (if_neg hl)
  clear HQa hl
  go_wp2_with fail
  refine (HBl.out _).mono ?_
  rintro e w2 ⟨rfl, hw2⟩
  rw [hw2]
  clear hw2
  cases b with
  | true =>
    have HQ2 : Hid (R = (H1, 0)) := HQb.out.trans (if_pos rfl)
    go_wp2
    go_ret2
    rw [HQ2.out]
    exact ⟨by rw [← HHS.out]; rfl, HBw.out⟩
  | false =>
    have HQ2 : Hid (R = (H1 ++ r.bd, 0)) := HQb.out.trans (if_neg (by simp))
    have t1 : HS.size + BD.size ≤ 9223372036854775807 := by omega
    go_wp2
    go_ret2
    rw [HQ2.out]
    exact ⟨by dsimp only; rw [HBD.out, ← HHS.out]; rfl, HBw.out⟩

end Ms
end Go.Proofs.YtiabbppbmcnddaaGreatDoor

/-
  message: readResponse where no chunks come.
-/
set_option linter.unusedVariables false
set_option linter.unusedSimpArgs false
set_option maxRecDepth 100000
namespace Go.Proofs.YtiabbppbmcnddaaGreatDoor
open Go.RowKit Go.Shelf
namespace Ms
open Oc Tg _root_.Go.Proofs.YtiabbppbmcnddaaGreatDoor.Fd _root_.Go.Proofs.YtiabbppbmcnddaaGreatDoor.Ck

theorem num_bd (l : List UInt8) (m : Int) (hm : 0 ≤ m) : 0 ≤ (numR 10 l m).1 ∧ (numR 10 l m).1 ≤ m := by
  have h0 : 0 ≤ numOf 10 l := by
    have := pre_nonneg 10 (by decide) (str l) (str l).size (Nat.le_refl _)
    rw [pre_all, str_list] at this
    exact this
  unfold numR
  split
  · exact ⟨Int.le_refl _, hm⟩
  · split
    · exact ⟨Int.le_refl _, hm⟩
    · rename_i h
      exact ⟨h0, by show numOf 10 l ≤ _; omega⟩
def StOk (s : HS) : Prop := 0 ≤ s.st ∧ s.st ≤ 599
theorem hTake_st {s : HS} (h : StOk s) (u : UInt8) (a : Nat) : StOk (hTake s u a).1 := by
  have hh : ∀ s : HS, StOk s → ∀ a, StOk (hHead s a).1 := fun s h a => by
    unfold hHead
    split <;> exact h
  have hf : ∀ s : HS, StOk s → ∀ l a, StOk (hField s l a).1 := fun s h l a => by
    unfold hField
    repeat' split
    all_goals exact h
  unfold hTake
  split
  · exact h
  split
  · exact h
  split
  · unfold hEnd
    split
    · exact num_bd _ 599 (by omega)
    split
    · exact hh (hNew s) h _
    · exact hf (hNew s) h _ _
  split
  · exact h
  · exact h
theorem hRun_st : ∀ (l : List UInt8) (s : HS), StOk s → StOk (hRun s l).1
  | [], s, h => h
  | u :: t, s, h => by
    unfold hRun
    split
    · exact h
    · have h1 := hTake_st (s := hNext s t) h u s.used
      split
      · exact h1
      · exact hRun_st t _ h1

/-- What comes of reading a response, where its body is not in chunks. -/
def rspR (s : HS) (me : List UInt8) (m : Nat) : BR :=
  if (hRun s s.piece).2 ≠ 0 ∨ (hRun s s.piece).1.headed = false then ⟨false, (hRun s s.piece).2, (hRun s s.piece).1, [], []⟩
  else if bdl me (hRun s s.piece).1.st = true then ⟨true, 0, (hRun s s.piece).1, [], []⟩
  else if (hRun s s.piece).1.kind = 1 then lenR (hRun s s.piece).1 [] (hRun s s.piece).1.len.toNat m
  else endR (hRun s s.piece).1 [] m

set_option maxHeartbeats 4000000 in
theorem readResponse_nc {T : Nat} (hT : TOk T) {ex : List Value} {w0 w : World} {D : Nat} {s : HS} {bs : List Nat} (HB : Base w0 w bs) (H : HdS T ex w D s bs) (hk : HOk s) (hL : LenOk s) (hSt : StOk s) (hp : s.piece.length ≤ 3000000000) (me : ByteArray) (m : Nat) (hm : m ≤ 9223372036854775807)
    (hc : (hRun s s.piece).2 = 0 → (hRun s s.piece).1.headed = true → bdl me.data.toList (hRun s s.piece).1.st = false → (hRun s s.piece).1.kind ≠ 2) :
    Calls Tryz.prog 60 #[.pointer (some ⟨D, 0, none⟩), .string me, .int .i64 (m : Int)] w fun e w' => e = .returned (.tuple #[.bool (rspR s me.data.toList m).done, .int .i64 (rspR s me.data.toList m).err]) ∧ ∃ bs', PlB T ex w' D (rspR s me.data.toList m).s (rspR s me.data.toList m).body (rspR s me.data.toList m).bd bs' ∧ Goes bs w bs' w' := by
  have HTT : Hid (TOk T) := hT
  have HRh : Hid (Calls _ _ _ _ _) := readHead_any hT HB H hk (by omega)
  have HE : Hid (rspR s me.data.toList m = if (hRun s s.piece).2 ≠ 0 ∨ (hRun s s.piece).1.headed = false then ⟨false, (hRun s s.piece).2, (hRun s s.piece).1, [], []⟩ else if bdl me.data.toList (hRun s s.piece).1.st = true then ⟨true, 0, (hRun s s.piece).1, [], []⟩ else if (hRun s s.piece).1.kind = 1 then lenR (hRun s s.piece).1 [] (hRun s s.piece).1.len.toNat m else endR (hRun s s.piece).1 [] m) := rfl
  have hL1 := hRun_len s.piece s hL
  have hO1 := hRun_ok s.piece s hk
  have hS1 := hRun_st s.piece s hSt
  have hP1 := hRun_piece s.piece s rfl
  generalize rspR s me.data.toList m = R at *
  generalize hRun s s.piece = Y at *
  obtain ⟨s1, z⟩ := Y
  dsimp only at HRh HE hL1 hO1 hS1 hP1 hc
  have HBl : Hid (∀ W, Calls _ _ _ W _) := fun W => Bodyless_any me s1.st ⟨by have := hS1.1; omega, by have := hS1.2; omega⟩ W
  clear H HB hk hL hSt hT
  go_enter Tryz.func60, Tryz.ntmps60
  go_wp2_with fail
  refine HRh.out.mono ?_
  rintro e w1 ⟨rfl, b1, hd1, hg1⟩
  obtain ⟨b2, hpl, hg2⟩ := hd1.plain
  have HD1 : Hid (PlB T ex w1 D s1 [] [] b2) := hpl
  have HG1 : Hid (Goes bs w b2 w1) := hg1.trans hg2
  clear hd1 hg1 hg2 hpl HRh
  by_cases hz : z = 0
  case neg =>
    have hz1 : (z != 0) = true := by simp [hz]
    have HQ : Hid (R = ⟨false, z, s1, [], []⟩) := HE.out.trans (if_pos (.inl hz))
    clear hz HE
    go_wp2
    go_ret2
    rw [HQ.out]
    exact ⟨rfl, b2, HD1.out, HG1.out⟩
  subst hz
  obtain ⟨vl, vb, vf, HI, hbs⟩ := HD1.out
  have c6 : w1.cell? ⟨D, 6, none⟩ = some (.bool s1.headed) := HI.str.cell 6 rfl
  have c9 : w1.cell? ⟨D, 9, none⟩ = some (.int .i64 s1.st) := HI.str.cell 9 rfl
  have c15 : w1.cell? ⟨D, 15, none⟩ = some (.int .i64 s1.kind) := HI.str.cell 15 rfl
  clear HI hbs
  by_cases hh : s1.headed = false
  · have HQ : Hid (R = ⟨false, 0, s1, [], []⟩) := HE.out.trans (if_pos (.inr hh))
    rw [hh] at c6
    clear HE hh
    go_wp2
    go_ret2
    rw [HQ.out]
    exact ⟨rfl, b2, HD1.out, HG1.out⟩
  have HE2 : Hid (R = _) := HE.out.trans (if_neg (fun h => h.elim (fun h => h rfl) hh))
  have hh : s1.headed = true := by simpa using hh
  rw [hh] at c6
  obtain ⟨n, hn, hnb⟩ := hL1 hh
  have hok := hO1 rfl
  have hk2 := hc rfl hh
  have hu := hok.used
  have HBy : Hid (Calls _ _ _ _ _) := HBl.out w1
  clear HE hh hL1 hO1 hc HBl hS1
  generalize hbd : bdl me.data.toList s1.st = bd at *
  clear hbd
  go_wp2_with fail
  refine HBy.out.mono ?_
  rintro e w2 ⟨rfl, hw2⟩
  rw [hw2]
  clear hw2 HBy
  cases bd with
  | true =>
    have HQ : Hid (R = ⟨true, 0, s1, [], []⟩) := HE2.out.trans (if_pos rfl)
    go_wp2
    go_ret2
    rw [HQ.out]
    exact ⟨rfl, b2, HD1.out, HG1.out⟩
  | false =>
    have HE3 : Hid (R = _) := HE2.out.trans (if_neg (by simp))
    have h2 : s1.kind ≠ 2 := hk2 rfl
    have h2' : (s1.kind == 2) = false := by simp [h2]
    clear HE2 hk2 h2
    by_cases h1 : s1.kind = 1
    · have h1' : (s1.kind == 1) = true := by simp [h1]
      have HQ : Hid (R = lenR s1 [] n m) := HE3.out.trans ((if_pos h1).trans (by rw [hn]; rfl))
      have HRl : Hid (Calls _ _ _ _ _) := readLength_any HTT.out HD1.out n m hn hnb hm (Nat.zero_le _) (Nat.zero_le _) (by omega) (by omega)
      generalize lenR s1 [] n m = Z at *
      clear h1 HE3 hn
      go_wp2_with fail
      refine HRl.out.mono ?_
      rintro e w3 ⟨rfl, b3, hd3, hg3⟩
      have HD3 : Hid (PlB T ex w3 D Z.s Z.body Z.bd b3) := hd3
      have HG3 : Hid (Goes bs w b3 w3) := HG1.out.trans hg3
      clear hd3 hg3
      go_wp2
      go_ret2
      rw [HQ.out]
      exact ⟨rfl, b3, HD3.out, HG3.out⟩
    · have h1' : (s1.kind == 1) = false := by simp [h1]
      have HQ : Hid (R = endR s1 [] m) := HE3.out.trans (if_neg h1)
      have HRl : Hid (Calls _ _ _ _ _) := readToEnd_any HTT.out HD1.out m hm (Nat.zero_le _) (Nat.zero_le _) (by omega) (by omega)
      generalize endR s1 [] m = Z at *
      clear h1 HE3 hn
      go_wp2_with fail
      refine HRl.out.mono ?_
      rintro e w3 ⟨rfl, b3, hd3, hg3⟩
      have HD3 : Hid (PlB T ex w3 D Z.s Z.body Z.bd b3) := hd3
      have HG3 : Hid (Goes bs w b3 w3) := HG1.out.trans hg3
      clear hd3 hg3
      go_wp2
      go_ret2
      rw [HQ.out]
      exact ⟨rfl, b3, HD3.out, HG3.out⟩

end Ms
end Go.Proofs.YtiabbppbmcnddaaGreatDoor
