import Derived.Test.YtcelekfokbdmfaaGreatDoorMsZ
import Derived.Test.YtcelekfokbdmfaaGreatDoorMgB1
import Derived.Test.YtcelekfokbdmfaaGreatDoorMgC1
import Derived.Test.YtcelekfokbdmfaaGreatDoorMgD1
import Derived.Test.YtcelekfokbdmfaaGreatDoorMgY
import Derived.Test.YtcelekfokbdmfaaGreatDoorMgL
set_option linter.unusedVariables false
set_option linter.unusedSimpArgs false
set_option maxRecDepth 100000
namespace Go.Proofs.YtcelekfokbdmfaaGreatDoor
open Go.RowKit Go.Shelf
namespace Ms
open Oc Tg _root_.Go.Proofs.YtcelekfokbdmfaaGreatDoor.Fd _root_.Go.Proofs.YtcelekfokbdmfaaGreatDoor.Ck
def prnN (r : Rs) (m : Mn) : List UInt8 × Int :=
  if (headR r m).2 ≠ 0 then ([], (headR r m).2) else if 65536 < (headR r m).1.length then ([], 125) else if bdl m.me r.st = true then ((headR r m).1, 0) else ((headR r m).1 ++ r.bd, 0)
set_option maxHeartbeats 4000000 in
theorem Print_nc (r : Rs) (m : Mn) (hch : m.ch = false) (hn : i64 r.st) (hrl : r.rs.length ≤ 1048576) (hbl : r.bd.length ≤ 1048576) (hS : sumF r.fs ≤ 1048576) (vf vs vt : Value) (sa : Option Addr) (cs : Nat) (hvs : vs = .slice sa m.sz.length cs) (w : World) (hf : InF vf r.fs w) (ht : RdF vt m.tr w) (hp : Pow w) (tab : Tab w) :
    Calls Tryz.prog 14 #[.agg #[.int .i64 r.st, .string (str r.rs), vf, .string (str r.bd)], .agg #[.string (str m.me), .bool m.cl, .bool m.old, .bool m.ch, vs, vt]] w fun e w' => e = .returned (.tuple #[.string (str (prnN r m).1), .int .i64 (prnN r m).2]) ∧ Below w.heap.size w w' := by
  have HHd : Hid (∀ W, InF vf r.fs W → RdF vt m.tr W → Pow W → Tab W → Calls _ _ _ W _) := fun W h1 h2 h3 h4 => Head_any r m hn hrl hbl hS vf vs vt sa cs hvs W h1 h2 h3 h4
  have HBl : Hid (∀ W, Calls Tryz.prog 24 #[.string (str m.me), .int .i64 r.st] W fun e w' => e = .returned (.bool (bdl m.me r.st)) ∧ w' = W) := fun W => by
    have h := Bodyless_any (str m.me) r.st hn W
    rw [str_list] at h
    exact h
  have HIf : Hid (InF vf r.fs w) := hf
  have HTr : Hid (RdF vt m.tr w) := ht
  have HP : Hid (Pow w) := hp
  have HT : Hid (Tab w) := tab
  have HQ : Hid (prnN r m = if (headR r m).2 ≠ 0 then ([], (headR r m).2) else if 65536 < (headR r m).1.length then ([], 125) else if bdl m.me r.st = true then ((headR r m).1, 0) else ((headR r m).1 ++ r.bd, 0)) := rfl
  obtain ⟨af, cf, rfl, _⟩ := hf.1
  obtain ⟨ta, ct, rfl, _⟩ := ht
  subst hvs
  rw [hch] at HHd ⊢
  generalize prnN r m = R at *
  generalize bdl m.me r.st = b at *
  generalize headR r m = H at *
  obtain ⟨H1, H2⟩ := H
  dsimp only at HHd HQ
  have HBD : Hid (∀ l : List UInt8, str (l ++ r.bd) = str l ++ str r.bd) := fun l => (str_app l r.bd).symm
  have hbz : (str r.bd).size ≤ 1048576 := by rw [str_size]; exact hbl
  have hHz : (str H1).size = H1.length := str_size H1
  obtain ⟨HS, hHS⟩ : ∃ HS, HS = str H1 := ⟨_, rfl⟩
  have HHS : Hid (HS = str H1) := hHS
  rw [← hHS] at HHd hHz
  clear hHS
  generalize str r.bd = BD at *
  generalize str r.rs = RS at *
  generalize str m.me = ME at *
  obtain ⟨W0, hW0⟩ : ∃ W0, W0 = (w.alloc (.cells #[.int .i64 r.st, .string RS, .slice af r.fs.length cf, .string BD] 24)).alloc (.cells #[.string ME, .bool m.cl, .bool m.old, .bool false, .slice sa m.sz.length cs, .slice ta m.tr.length ct] 27) := ⟨_, rfl⟩
  have hb0 : Below w.heap.size w W0 := by rw [hW0]; exact ((Below.refl _ w).alloc (Nat.le_refl _) _).alloc (by simp) _
  have hm0 : Blk 27 W0 (w.heap.size + 1) [.string ME, .bool m.cl, .bool m.old, .bool false, .slice sa m.sz.length cs, .slice ta m.tr.length ct] := by
    rw [hW0]
    have h1 := heap_alloc_new (w.alloc (.cells #[.int .i64 r.st, .string RS, .slice af r.fs.length cf, .string BD] 24)) (.cells #[.string ME, .bool m.cl, .bool m.old, .bool false, .slice sa m.sz.length cs, .slice ta m.tr.length ct] 27)
    have e : (w.alloc (.cells #[.int .i64 r.st, .string RS, .slice af r.fs.length cf, .string BD] 24)).heap.size = w.heap.size + 1 := by simp
    rw [e] at h1
    exact h1
  have hr0 : Blk 24 W0 w.heap.size [.int .i64 r.st, .string RS, .slice af r.fs.length cf, .string BD] := by
    rw [hW0]
    exact Blk.below (heap_alloc_new w _) ((Below.refl _ _).alloc (Nat.le_refl _) _)
  have HB0 : Hid (Below w.heap.size w W0) := hb0
  have HM0 : Hid (Blk 27 W0 (w.heap.size + 1) [.string ME, .bool m.cl, .bool m.old, .bool false, .slice sa m.sz.length cs, .slice ta m.tr.length ct]) := hm0
  have HR0 : Hid (Blk 24 W0 w.heap.size [.int .i64 r.st, .string RS, .slice af r.fs.length cf, .string BD]) := hr0
  have HW0 : Hid (W0 = _) := hW0
  clear hb0 hm0 hr0 hW0 hf hp tab hch
  go_enter Tryz.func14, Tryz.ntmps14
  go_wp2_with fail
  rw [← HW0.out]
  refine (HHd.out _ (HIf.out.below HB0.out) (HTr.out.below HB0.out) (HP.out.below HB0.out (Nat.le_refl _)) (HT.out.below HB0.out (Nat.le_refl _))).mono ?_
  rintro e w1 ⟨rfl, hb1⟩
  have HB1 : Hid (Below W0.heap.size W0 w1) := hb1
  have HBw : Hid (Below w.heap.size w w1) := HB0.out.trans (hb1.mono HB0.out.size)
  clear hb1 HHd HW0
  by_cases hz : H2 = 0
  case neg =>
    have hz1 : (H2 != 0) = true := by simp [hz]
    have HQ2 : Hid (R = ([], H2)) := HQ.out.trans (if_pos hz)
    clear hz
    go_wp2
    go_ret2
    rw [HQ2.out]
    exact ⟨rfl, HBw.out⟩
  subst hz
  have HQa : Hid (R = _) := HQ.out.trans (if_neg (fun h => h rfl))
  have r0 : w1.cell? ⟨w.heap.size, 0, none⟩ = some (.int .i64 r.st) := (HR0.out.below HB1.out).cell 0 rfl
  have r3 : w1.cell? ⟨w.heap.size, 3, none⟩ = some (.string BD) := (HR0.out.below HB1.out).cell 3 rfl
  have m0 : w1.cell? ⟨w.heap.size + 1, 0, none⟩ = some (.string ME) := (HM0.out.below HB1.out).cell 0 rfl
  have m3 : w1.cell? ⟨w.heap.size + 1, 3, none⟩ = some (.bool false) := (HM0.out.below HB1.out).cell 3 rfl
  clear HQ
  have HHz : Hid (HS.size = H1.length) := hHz
  clear hHz
  by_cases hl : 65536 < H1.length
  · have hl' : (65536 : Int) < (HS.size : Int) := by have := HHz.out; omega
    have HQ2 : Hid (R = ([], 125)) := HQa.out.trans (if_pos hl)
    clear hl
    go_wp2
    go_ret2
    rw [HQ2.out]
    exact ⟨rfl, HBw.out⟩
  have hl' : ¬ (65536 : Int) < (HS.size : Int) := by have := HHz.out; omega
  have hl2 : HS.size ≤ 65536 := by have := HHz.out; omega
  have HQb : Hid (R = _) := HQa.out.trans (if_neg hl)
  clear HQa hl
  go_wp2_with fail
  refine (HBl.out _).mono ?_
  rintro e w2 ⟨rfl, hw2⟩
  rw [hw2]
  clear hw2
  cases b with
  | true =>
    have HQ2 : Hid (R = (H1, 0)) := HQb.out.trans (if_pos rfl)
    go_wp2
    go_ret2
    rw [HQ2.out]
    exact ⟨by rw [← HHS.out]; rfl, HBw.out⟩
  | false =>
    have HQ2 : Hid (R = (H1 ++ r.bd, 0)) := HQb.out.trans (if_neg (by simp))
    have t1 : HS.size + BD.size ≤ 9223372036854775807 := by omega
    go_wp2
    go_ret2
    rw [HQ2.out]
    exact ⟨by dsimp only; rw [HBD.out, ← HHS.out]; rfl, HBw.out⟩
end Ms
end Go.Proofs.YtcelekfokbdmfaaGreatDoor
set_option linter.unusedVariables false
set_option linter.unusedSimpArgs false
set_option maxRecDepth 100000
namespace Go.Proofs.YtcelekfokbdmfaaGreatDoor
open Go.RowKit Go.Shelf
namespace Ms
open Oc Tg _root_.Go.Proofs.YtcelekfokbdmfaaGreatDoor.Fd _root_.Go.Proofs.YtcelekfokbdmfaaGreatDoor.Ck
theorem encR_len (b : List UInt8) (l : List Int) (t : List Fl) (hb : b.length ≤ 1048576) (hl : l.length ≤ 1048576) (hs : sumF t ≤ 1048576) : (encR b l t).1.length ≤ 40000000 := by
  have h1 := cutC_len l b (by omega)
  have h2 := trailG_len t
  have h3 := encL_len b l t
  unfold encR
  split
  · simp
  · split
    · show (encL b l t).length ≤ _
      omega
    · simp
def prnR (r : Rs) (m : Mn) : List UInt8 × Int :=
  if m.ch = false then prnN r m
  else if (headR r m).2 ≠ 0 then ([], (headR r m).2) else if 65536 < (headR r m).1.length then ([], 125)
  else if (encR r.bd m.sz m.tr).2 ≠ 0 then ([], (encR r.bd m.sz m.tr).2) else if bdl m.me r.st = true then ((headR r m).1, 0) else ((headR r m).1 ++ (encR r.bd m.sz m.tr).1, 0)
set_option maxHeartbeats 4000000 in
theorem Print_ch (r : Rs) (m : Mn) (hch : m.ch = true) (hn : i64 r.st) (hrl : r.rs.length ≤ 1048576) (hbl : r.bd.length ≤ 1048576) (hS : sumF r.fs ≤ 1048576) (vf vs vt : Value) (sa : Option Addr) (cs : Nat) (hvs : vs = .slice sa m.sz.length cs) (w : World) (hf : InF vf r.fs w) (ht : RdF vt m.tr w) (hp : Pow w) (tab : Tab w) (hsi : RdI w vs m.sz) (hsl : m.sz.length ≤ 1048576) (hts : sumF m.tr ≤ 1048576) (td : Deb w) :
    Calls Tryz.prog 14 #[.agg #[.int .i64 r.st, .string (str r.rs), vf, .string (str r.bd)], .agg #[.string (str m.me), .bool m.cl, .bool m.old, .bool m.ch, vs, vt]] w fun e w' => e = .returned (.tuple #[.string (str (prnR r m).1), .int .i64 (prnR r m).2]) ∧ Below w.heap.size w w' := by
  have HHd : Hid (∀ W, InF vf r.fs W → RdF vt m.tr W → Pow W → Tab W → Calls _ _ _ W _) := fun W h1 h2 h3 h4 => Head_any r m hn hrl hbl hS vf vs vt sa cs hvs W h1 h2 h3 h4
  have HBl : Hid (∀ W, Calls Tryz.prog 24 #[.string (str m.me), .int .i64 r.st] W fun e w' => e = .returned (.bool (bdl m.me r.st)) ∧ w' = W) := fun W => by
    have h := Bodyless_any (str m.me) r.st hn W
    rw [str_list] at h
    exact h
  have HEn : Hid (∀ W, RdI W vs m.sz → RdF vt m.tr W → Tab W → Deb W → Calls Tryz.prog 43 #[.string (str r.bd), vs, vt] W fun e w' => e = .returned (.tuple #[.string (str (encR r.bd m.sz m.tr).1), .int .i64 (encR r.bd m.sz m.tr).2]) ∧ Below (World.heap W).size W w') := fun W h1 h2 h3 h4 => by
    have h := Encode_any (str r.bd) (by rw [str_size]; exact hbl) vs m.sz hsl vt m.tr hts W h1 h2 h3 h4
    rw [str_list] at h
    exact h
  have hez := encR_len r.bd m.sz m.tr hbl hsl hts
  have HSi : Hid (RdI w vs m.sz) := hsi
  have HTd : Hid (Deb w) := td
  have HIf : Hid (InF vf r.fs w) := hf
  have HTr : Hid (RdF vt m.tr w) := ht
  have HP : Hid (Pow w) := hp
  have HT : Hid (Tab w) := tab
  have HQ : Hid (prnR r m = if (headR r m).2 ≠ 0 then ([], (headR r m).2) else if 65536 < (headR r m).1.length then ([], 125) else if (encR r.bd m.sz m.tr).2 ≠ 0 then ([], (encR r.bd m.sz m.tr).2) else if bdl m.me r.st = true then ((headR r m).1, 0) else ((headR r m).1 ++ (encR r.bd m.sz m.tr).1, 0)) := (by unfold prnR; rw [if_neg (by rw [hch]; simp)] : _ = _)
  obtain ⟨af, cf, rfl, _⟩ := hf.1
  obtain ⟨ta, ct, rfl, _⟩ := ht
  subst hvs
  rw [hch] at HHd ⊢
  generalize prnR r m = R at *
  generalize encR r.bd m.sz m.tr = E at *
  obtain ⟨E1, E2⟩ := E
  dsimp only at HEn HQ hez
  generalize bdl m.me r.st = b at *
  generalize headR r m = H at *
  obtain ⟨H1, H2⟩ := H
  dsimp only at HHd HQ
  have HBD : Hid (∀ l : List UInt8, str (l ++ E1) = str l ++ str E1) := fun l => (str_app l E1).symm
  have hEz : (str E1).size ≤ 40000000 := by rw [str_size]; exact hez
  generalize str E1 = ES at *
  clear hez hsi td
  have hbz : (str r.bd).size ≤ 1048576 := by rw [str_size]; exact hbl
  have hHz : (str H1).size = H1.length := str_size H1
  obtain ⟨HS, hHS⟩ : ∃ HS, HS = str H1 := ⟨_, rfl⟩
  have HHS : Hid (HS = str H1) := hHS
  rw [← hHS] at HHd hHz
  clear hHS
  generalize str r.bd = BD at *
  generalize str r.rs = RS at *
  generalize str m.me = ME at *
  obtain ⟨W0, hW0⟩ : ∃ W0, W0 = (w.alloc (.cells #[.int .i64 r.st, .string RS, .slice af r.fs.length cf, .string BD] 24)).alloc (.cells #[.string ME, .bool m.cl, .bool m.old, .bool true, .slice sa m.sz.length cs, .slice ta m.tr.length ct] 27) := ⟨_, rfl⟩
  have hb0 : Below w.heap.size w W0 := by rw [hW0]; exact ((Below.refl _ w).alloc (Nat.le_refl _) _).alloc (by simp) _
  have hm0 : Blk 27 W0 (w.heap.size + 1) [.string ME, .bool m.cl, .bool m.old, .bool true, .slice sa m.sz.length cs, .slice ta m.tr.length ct] := by
    rw [hW0]
    have h1 := heap_alloc_new (w.alloc (.cells #[.int .i64 r.st, .string RS, .slice af r.fs.length cf, .string BD] 24)) (.cells #[.string ME, .bool m.cl, .bool m.old, .bool true, .slice sa m.sz.length cs, .slice ta m.tr.length ct] 27)
    have e : (w.alloc (.cells #[.int .i64 r.st, .string RS, .slice af r.fs.length cf, .string BD] 24)).heap.size = w.heap.size + 1 := by simp
    rw [e] at h1
    exact h1
  have hr0 : Blk 24 W0 w.heap.size [.int .i64 r.st, .string RS, .slice af r.fs.length cf, .string BD] := by
    rw [hW0]
    exact Blk.below (heap_alloc_new w _) ((Below.refl _ _).alloc (Nat.le_refl _) _)
  have HB0 : Hid (Below w.heap.size w W0) := hb0
  have HM0 : Hid (Blk 27 W0 (w.heap.size + 1) [.string ME, .bool m.cl, .bool m.old, .bool true, .slice sa m.sz.length cs, .slice ta m.tr.length ct]) := hm0
  have HR0 : Hid (Blk 24 W0 w.heap.size [.int .i64 r.st, .string RS, .slice af r.fs.length cf, .string BD]) := hr0
  have HW0 : Hid (W0 = _) := hW0
  clear hb0 hm0 hr0 hW0 hf hp tab hch
  go_enter Tryz.func14, Tryz.ntmps14
  go_wp2_with fail
  rw [← HW0.out]
  refine (HHd.out _ (HIf.out.below HB0.out) (HTr.out.below HB0.out) (HP.out.below HB0.out (Nat.le_refl _)) (HT.out.below HB0.out (Nat.le_refl _))).mono ?_
  rintro e w1 ⟨rfl, hb1⟩
  have HB1 : Hid (Below W0.heap.size W0 w1) := hb1
  have HBw : Hid (Below w.heap.size w w1) := HB0.out.trans (hb1.mono HB0.out.size)
  clear hb1 HHd HW0
  by_cases hz : H2 = 0
  case neg =>
    have hz1 : (H2 != 0) = true := by simp [hz]
    have HQ2 : Hid (R = ([], H2)) := HQ.out.trans (if_pos hz)
    clear hz
    go_wp2
    go_ret2
    rw [HQ2.out]
    exact ⟨rfl, HBw.out⟩
  subst hz
  have HQa : Hid (R = _) := HQ.out.trans (if_neg (fun h => h rfl))
  have r0 : w1.cell? ⟨w.heap.size, 0, none⟩ = some (.int .i64 r.st) := (HR0.out.below HB1.out).cell 0 rfl
  have r3 : w1.cell? ⟨w.heap.size, 3, none⟩ = some (.string BD) := (HR0.out.below HB1.out).cell 3 rfl
  have m0 : w1.cell? ⟨w.heap.size + 1, 0, none⟩ = some (.string ME) := (HM0.out.below HB1.out).cell 0 rfl
  have m4 : w1.cell? ⟨w.heap.size + 1, 4, none⟩ = some (.slice sa m.sz.length cs) := (HM0.out.below HB1.out).cell 4 rfl
  have m5 : w1.cell? ⟨w.heap.size + 1, 5, none⟩ = some (.slice ta m.tr.length ct) := (HM0.out.below HB1.out).cell 5 rfl
  have m3 : w1.cell? ⟨w.heap.size + 1, 3, none⟩ = some (.bool true) := (HM0.out.below HB1.out).cell 3 rfl
  clear HQ
  have HHz : Hid (HS.size = H1.length) := hHz
  clear hHz
  by_cases hl : 65536 < H1.length
  · have hl' : (65536 : Int) < (HS.size : Int) := by have := HHz.out; omega
    have HQ2 : Hid (R = ([], 125)) := HQa.out.trans (if_pos hl)
    clear hl
    go_wp2
    go_ret2
    rw [HQ2.out]
    exact ⟨rfl, HBw.out⟩
  have hl' : ¬ (65536 : Int) < (HS.size : Int) := by have := HHz.out; omega
  have hl2 : HS.size ≤ 65536 := by have := HHz.out; omega
  have HQb : Hid (R = _) := HQa.out.trans (if_neg hl)
  clear HQa hl
  go_wp2_with fail
  refine (HEn.out _ (HSi.out.below HBw.out) (HTr.out.below HBw.out) (HT.out.below HBw.out (Nat.le_refl _)) (HTd.out.below HBw.out)).mono ?_
  rintro e w2 ⟨rfl, hb2⟩
  have HB2 : Hid (Below W0.heap.size W0 w2) := bel_trans HB1.out hb2
  have HBx : Hid (Below w.heap.size w w2) := bel_trans HBw.out hb2
  clear hb2 r0 r3 m0 m3 m4 m5
  by_cases hz : E2 = 0
  case neg =>
    have hz1 : (E2 != 0) = true := by simp [hz]
    have HQ2 : Hid (R = ([], E2)) := HQb.out.trans (if_pos hz)
    clear hz
    go_wp2
    go_ret2
    rw [HQ2.out]
    exact ⟨rfl, HBx.out⟩
  subst hz
  have HQc : Hid (R = _) := HQb.out.trans (if_neg (fun h => h rfl))
  have r0 : w2.cell? ⟨w.heap.size, 0, none⟩ = some (.int .i64 r.st) := (HR0.out.below HB2.out).cell 0 rfl
  have m0 : w2.cell? ⟨w.heap.size + 1, 0, none⟩ = some (.string ME) := (HM0.out.below HB2.out).cell 0 rfl
  clear HQb
  go_wp2_with fail
  refine (HBl.out _).mono ?_
  rintro e w3 ⟨rfl, hw3⟩
  rw [hw3]
  clear hw3
  cases b with
  | true =>
    have HQ2 : Hid (R = (H1, 0)) := HQc.out.trans (if_pos rfl)
    go_wp2
    go_ret2
    rw [HQ2.out]
    exact ⟨by rw [← HHS.out]; rfl, HBx.out⟩
  | false =>
    have HQ2 : Hid (R = (H1 ++ E1, 0)) := HQc.out.trans (if_neg (by simp))
    have t1 : HS.size + ES.size ≤ 9223372036854775807 := by omega
    go_wp2
    go_ret2
    rw [HQ2.out]
    exact ⟨by dsimp only; rw [HBD.out, ← HHS.out]; rfl, HBx.out⟩
theorem Print12_any (r : Rs) (m : Mn) (hn : i64 r.st) (hrl : r.rs.length ≤ 1048576) (hbl : r.bd.length ≤ 1048576) (hS : sumF r.fs ≤ 1048576) (vf vs vt : Value) (w : World) (hf : InF vf r.fs w) (ht : RdF vt m.tr w) (hp : Pow w) (tab : Tab w) (hsi : RdI w vs m.sz) (hsl : m.sz.length ≤ 1048576) (hts : sumF m.tr ≤ 1048576) (td : Deb w) :
    Calls Tryz.prog 14 #[.agg #[.int .i64 r.st, .string (str r.rs), vf, .string (str r.bd)], .agg #[.string (str m.me), .bool m.cl, .bool m.old, .bool m.ch, vs, vt]] w fun e w' => e = .returned (.tuple #[.string (str (prnR r m).1), .int .i64 (prnR r m).2]) ∧ Below w.heap.size w w' := by
  obtain ⟨sa, cs, hvs, _⟩ := id hsi
  cases hch : m.ch with
  | true =>
    have h := Print_ch r m hch hn hrl hbl hS vf vs vt sa cs hvs w hf ht hp tab hsi hsl hts td
    rw [hch] at h
    exact h
  | false =>
    have e : prnR r m = prnN r m := by unfold prnR; rw [if_pos hch]
    have h := Print_nc r m hch hn hrl hbl hS vf vs vt sa cs hvs w hf ht hp tab
    rw [hch] at h
    rw [e]
    exact h
end Ms
end Go.Proofs.YtcelekfokbdmfaaGreatDoor
set_option linter.unusedVariables false
set_option linter.unusedSimpArgs false
set_option maxRecDepth 100000
namespace Go.Proofs.YtcelekfokbdmfaaGreatDoor
open Go.RowKit Go.Shelf
namespace Ck
open Oc Tg _root_.Go.Proofs.YtcelekfokbdmfaaGreatDoor.Fd
theorem appL (a b : ByteArray) : (a ++ b).data.toList = a.data.toList ++ b.data.toList := by simp
set_option maxHeartbeats 1000000 in
theorem rdigits_any (n : Nat) (hn : n ≤ 1099511627776) (w : World) :
    Calls Tryz.prog 77 #[.int .i64 (n : Int)] w fun e w' => e = .returned (.string (str (hexd n))) ∧ w' = w := by
  have hlen := hexd_len 10 n (Nat.lt_of_le_of_lt hn (by decide))
  have HLn : Hid ((hexd n).length ≤ 11) := hlen
  clear hlen
  go_enter Tryz.func77, Tryz.ntmps77
  go_wp2
  go_loop [0, 3] (fun nv sv => ∃ (k : Nat) (ds : List UInt8), k ≤ 1099511627776 ∧ nv = .int .i64 k ∧ sv = .string (str ds) ∧ Hid (hexd n = hexd k ++ ds)) (fun nv _ => (intOf nv).toNat)
  case atStart => exact ⟨n, [], hn, rfl, rfl, (by simp : hexd n = hexd n ++ [])⟩
  case round =>
    obtain ⟨k, ds, hk, rfl, rfl, hst⟩ := hrel
    have hdl : ds.length ≤ 11 := by
      have h := congrArg List.length hst.out
      rw [List.length_append] at h
      have := HLn.out
      omega
    obtain ⟨d, hd⟩ : ∃ d, d = k % 16 := ⟨_, rfl⟩
    obtain ⟨q, hq⟩ : ∃ q, q = k / 16 := ⟨_, rfl⟩
    have hmod : ((k : Int)).tmod 16 = (d : Int) := by rw [Int.tmod_eq_emod_of_nonneg (by omega), hd]; omega
    have hmod2 : (k : Int) % 16 = (d : Int) := by rw [hd]; omega
    have hquo : ((k : Int)).tdiv 16 = (q : Int) := by rw [Int.tdiv_eq_ediv_of_nonneg (by omega), hq]; omega
    have hquo2 : (k : Int) / 16 = (q : Int) := by rw [hq]; omega
    have hd16 : d < 16 := by omega
    have HDs : Hid ((⟨#[48, 49, 50, 51, 52, 53, 54, 55, 56, 57, 97, 98, 99, 100, 101, 102]⟩ : ByteArray).extract d (d + 1) = str [hexc d]) := dig_slice d hd16
    have HAp : Hid (str [hexc d] ++ str ds = str (hexc d :: ds)) := (eq_list (by rw [appL, str_list, str_list, str_list]; rfl) : str [hexc d] ++ str ds = str (hexc d :: ds))
    have hs2 : (str ds).size = ds.length := str_size ds
    have HQ : Hid (q = k / 16) := hq
    have HDd : Hid (d = k % 16) := hd
    have hqk : q ≤ k := by omega
    by_cases hz : q = 0
    · have HE : Hid (hexd n = hexc d :: ds) := by
        have h16 : k < 16 := by omega
        have h := hst.out
        rw [hexd_low h16] at h
        have : d = k := by rw [hd]; omega
        rw [this]
        exact h
      have hz' : ((q : Int) == 0) = true := by simp [hz]
      clear hd hq hz
      go_wp2
      go_ret
      rw [HE.out]
      refine ⟨?_, rfl⟩
      rw [← HAp.out, ← HDs.out]
      rfl
    · have HE : Hid (hexd n = hexd q ++ (hexc d :: ds)) := by
        have h16 : ¬ k < 16 := by omega
        have h := hst.out
        rw [hexd_high h16, ← hq, ← hd] at h
        show hexd n = hexd q ++ (hexc d :: ds)
        rw [h]
        simp
      have hz' : ((q : Int) == 0) = false := by simp; omega
      have hqlt : q < k := by omega
      clear hd hq hz
      go_wp2
      go_round
      case rel => exact ⟨q, hexc d :: ds, by omega, rfl, (by rw [← HAp.out, ← HDs.out]), HE⟩
      case measure => simp [intOf]; omega
end Ck
end Go.Proofs.YtcelekfokbdmfaaGreatDoor
set_option linter.unusedVariables false
set_option linter.unusedSimpArgs false
set_option maxRecDepth 100000
namespace Go.Proofs.YtcelekfokbdmfaaGreatDoor
open Go.RowKit Go.Shelf
namespace Ck
open Oc Tg _root_.Go.Proofs.YtcelekfokbdmfaaGreatDoor.Fd
def piecesC : List Int → List UInt8 → List (List UInt8)
  | [], b => [b]
  | n :: ns, b => b.take n.toNat :: piecesC ns (b.drop n.toNat)
theorem pieces_cut : ∀ (l : List Int) (b : List UInt8), (piecesC l b).flatMap chunkC = cutC l b
  | [], b => by simp [piecesC, cutC]
  | n :: l, b => by
    show chunkC (b.take n.toNat) ++ (piecesC l (b.drop n.toNat)).flatMap chunkC = _
    rw [pieces_cut l]
    rfl
theorem pieces_drop (l : List Int) (k : Nat) (h : k < l.length) (b : List UInt8) : piecesC (l.drop k) b = b.take (nthI l k).toNat :: piecesC (l.drop (k + 1)) (b.drop (nthI l k).toNat) := by
  have : l.drop k = nthI l k :: l.drop (k + 1) := by
    rw [List.drop_eq_getElem_cons h]
    unfold nthI
    rw [List.getD_eq_getElem?_getD, List.getElem?_eq_getElem h]
    rfl
  rw [this]
  rfl
theorem pieces_len : ∀ (l : List Int) (b : List UInt8), (piecesC l b).length = l.length + 1
  | [], b => rfl
  | n :: l, b => by
    show (piecesC l (b.drop n.toNat)).length + 1 = _
    rw [pieces_len l]
    rfl
theorem pieces_each : ∀ (l : List Int) (b p : List UInt8), p ∈ piecesC l b → p.length ≤ b.length
  | [], b, p, h => by simp [piecesC] at h; subst h; exact Nat.le_refl _
  | n :: l, b, p, h => by
    unfold piecesC at h
    rcases List.mem_cons.1 h with h | h
    · subst h; rw [List.length_take]; omega
    · have := pieces_each l _ p h
      rw [List.length_drop] at this
      omega
theorem flat_snoc (L : List (List UInt8)) (k : Nat) (h : k < L.length) : (L.take (k + 1)).flatMap chunkC = (L.take k).flatMap chunkC ++ chunkC (L.getD k []) := by
  have : L.take (k + 1) = L.take k ++ [L.getD k []] := by
    rw [List.take_add_one]
    congr 1
    rw [List.getElem?_eq_getElem h, List.getD_eq_getElem?_getD, List.getElem?_eq_getElem h]
    rfl
  rw [this, List.flatMap_append]
  simp
theorem flat_le (L : List (List UInt8)) (k : Nat) : ((L.take k).flatMap chunkC).length ≤ (L.flatMap chunkC).length := by
  have : L.flatMap chunkC = (L.take k).flatMap chunkC ++ (L.drop k).flatMap chunkC := by rw [← List.flatMap_append, List.take_append_drop]
  rw [this, List.length_append]
  omega
theorem wp_appS2 {ops : Array Oper} {rest : List Oper} {o : Oper} {a : Act} {Q : Exit → Act → World → Prop} (hgd : o.guard = none) (s x : Operand)
    (ho : o.op = .call { callee := .builtin .append, args := #[s, x], argTypes := #[118, 118] }) (B : Nat) (v : Value) (t : List (List UInt8)) (W : World) (y : ByteArray) (l : List UInt8) (hy : y = str l)
    (hs : a.eval s = v) (hown : OwnS B v t W) (g : Nat) (hx : a.eval x = .slice (some ⟨g, 0, none⟩) 1 1) (hg : g = W.heap.size) (hlen : t.length + 1 ≤ 4294967296) (hB : B ≤ W.heap.size)
    (h : ∀ v' w', OwnS B v' (t ++ [l]) w' → Below B W w' → wpList Tryz.prog ops Q rest (a.put o.dst v') w') : wpList Tryz.prog ops Q (o :: rest) a (W.alloc (.cells #[.string y] 9)) := by
  subst hy hg
  exact wp_appS hgd s x ho B v t W l hs hown hx hlen hB h
theorem rdF_get {a : Option Addr} {n c k : Nat} {t : List Fl} {w : World} (h : RdF (.slice a n c) t w) (hk : k < t.length) : ∃ g o, a = some ⟨g, o, none⟩ ∧ t.length ≤ c ∧ w.cell? ⟨g, o + k * 2, none⟩ = some (.string (str (Fd.nth t k).1)) ∧ w.cell? ⟨g, o + k * 2 + 1, none⟩ = some (.string (str (Fd.nth t k).2)) := by
  obtain ⟨a', c', e, h⟩ := h
  injection e with e1 e2 e3
  subst e1 e3
  rcases h with h | ⟨g, o, rfl, hc, hcell⟩
  · rw [h] at hk; simp at hk
  · exact ⟨g, o, rfl, hc, hcell k hk⟩
theorem rdI_get {a : Option Addr} {n c k : Nat} {t : List Int} {w : World} (h : RdI w (.slice a n c) t) (hk : k < t.length) : ∃ g o, a = some ⟨g, o, none⟩ ∧ t.length ≤ c ∧ w.cell? ⟨g, o + k, none⟩ = some (.int .i64 (nthI t k)) := by
  obtain ⟨a', c', e, hc, _, h⟩ := h
  injection e with e1 e2 e3
  subst e1 e3
  rcases h with h | ⟨g, o, rfl, hcell⟩
  · rw [h] at hk; simp at hk
  · exact ⟨g, o, rfl, hc, hcell k _ (nthI_some t k hk)⟩
theorem rdS_get {a : Option Addr} {n c k : Nat} {t : List (List UInt8)} {w : World} (h : RdS (.slice a n c) t w) (hk : k < t.length) : ∃ g o, a = some ⟨g, o, none⟩ ∧ t.length ≤ c ∧ w.cell? ⟨g, o + k, none⟩ = some (.string (str (t.getD k []))) := by
  obtain ⟨a', c', e, h⟩ := h
  injection e with e1 e2 e3
  subst e1 e3
  rcases h with h | ⟨g, o, rfl, hc, hcell⟩
  · rw [h] at hk; simp at hk
  · exact ⟨g, o, rfl, hc, hcell k hk⟩
set_option maxHeartbeats 8000000 in
theorem rEncode_any (body : ByteArray) (hb : body.size ≤ 1048576) (vs : Value) (l : List Int) (hl : l.length ≤ 1048576) (vt : Value) (t : List Fl) (hs : sumF t ≤ 1048576) (w : World) (hi : RdI w vs l) (hr : RdF vt t w) :
    Calls Tryz.prog 44 #[.string body, vs, vt] w fun e w' => e = .returned (.tuple #[.string (str (encR body.data.toList l t).1), .int .i64 (encR body.data.toList l t).2]) ∧ Below w.heap.size w w' := by
  have hlen := len_sumF t
  have hbl0 := size_list body
  have HI : Hid (RdI w vs l) := hi
  have HF : Hid (RdF vt t w) := hr
  obtain ⟨a, c, rfl, hlc, hbd, _⟩ := hi
  obtain ⟨a2, c2, rfl, _⟩ := hr
  have HBd : Hid (∀ x ∈ l, -9223372036854775808 ≤ x ∧ x ≤ 9223372036854775807) := hbd
  clear hbd
  have htg := trailG_len t
  have hcl := cutC_len l body.data.toList (by omega)
  have HPC : Hid ((piecesC l body.data.toList).flatMap chunkC = cutC l body.data.toList) := pieces_cut l body.data.toList
  have HPL : Hid ((piecesC l body.data.toList).length = l.length + 1) := pieces_len l body.data.toList
  have HPE : Hid (∀ p ∈ piecesC l body.data.toList, p.length ≤ 1048576) := (fun p hp => by have := pieces_each l _ p hp; omega : ∀ p ∈ piecesC l body.data.toList, p.length ≤ 1048576)
  have HCL : Hid ((cutC l body.data.toList).length ≤ 20000000) := (by omega : _ ≤ _)
  have HTG : Hid ((trailG t).length ≤ 2097152) := (by omega : _ ≤ _)
  clear htg hcl hbl0
  go_enter Tryz.func44, Tryz.ntmps44
  go_wp2
  go_loopw [24] (fun i wr => ∃ k : Nat, k ≤ l.length ∧ i = .int .i64 k ∧ Hid (∀ j, j < k → 1 ≤ nthI l j) ∧ Hid (wr = w)) (fun i _ => l.length - (intOf i).toNat)
  case atStart => exact ⟨0, Nat.zero_le _, rfl, (fun j hj => by omega : ∀ j, j < 0 → _), (rfl : w = w)⟩
  case round =>
    obtain ⟨k, hk, rfl, hall, hww⟩ := hrel
    by_cases hlt : k < l.length
    · obtain ⟨g, o, rfl, hgc, p0⟩ := rdI_get HI.out hlt
      rw [← hww.out] at p0
      by_cases hx : nthI l k < 1
      · have HE : Hid (encR body.data.toList l t = ([], 1)) := (by unfold encR; rw [if_pos (lowI1_hit hlt hx)] : _ = _)
        generalize nthI l k = X at p0 hx
        go_wp2
        go_ret2
        rw [HE.out, hww.out]
        exact ⟨rfl, Below.refl _ _⟩
      · have HFn : Hid (∀ j, j < k + 1 → 1 ≤ nthI l j) := (fun j hj => by
          by_cases hjk : j = k
          · subst hjk; omega
          · exact hall.out j (by omega) : ∀ j, j < k + 1 → 1 ≤ nthI l j)
        generalize nthI l k = X at p0 hx
        go_wp2
        go_roundw
        case rel => exact ⟨k + 1, by omega, by go_num, HFn, hww⟩
        case measure => simp [intOf]; omega
    · have HPos : Hid (∀ j, j < l.length → 1 ≤ nthI l j) := (fun j hj => hall.out j (by omega) : ∀ j, j < l.length → _)
      have hlow : lowI1 l = -1 := lowI1_no (fun j hj => by have := HPos.out j hj; omega)
      have HE : Hid (encR body.data.toList l t = if t.all okT then (cutC l body.data.toList ++ lineC 0 ++ (trailG t ++ [13, 10]), 0) else ([], 101)) := (by unfold encR; rw [hlow, if_neg (by omega)] : _ = _)
      clear hall hlow hk
      rw [hww.out]
      clear hww
      have hkl : ¬ ((k : Int) < (l.length : Int)) := by omega
      go_wp2
      go_loopw [33] (fun i wr => ∃ k : Nat, k ≤ t.length ∧ i = .int .i64 k ∧ Hid (∀ j, j < k → okT (Fd.nth t j) = true) ∧ Hid (Below w.heap.size w wr)) (fun i _ => t.length - (intOf i).toNat)
      case atStart => exact ⟨0, Nat.zero_le _, rfl, (fun j hj => by omega : ∀ j, j < 0 → _), Below.refl _ _⟩
      case round =>
        obtain ⟨k2, hk2, rfl, hok, hbl⟩ := hrel
        by_cases hlt2 : k2 < t.length
        · obtain ⟨g, o, rfl, hgc, p0, p1⟩ := rdF_get (HF.out.below hbl.out) hlt2
          have hz := szSum t k2 hlt2
          have NX : okT (Fd.nth t k2) = true → Hid (∀ j, j < k2 + 1 → okT (Fd.nth t j) = true) := fun h j hj => by
            by_cases hjk : j = k2
            · subst hjk; exact h
            · exact hok.out j (by omega)
          have BD : okT (Fd.nth t k2) = false → Hid (encR body.data.toList l t = ([], 101)) := fun h => (by rw [HE.out, not_all t k2 hlt2 h]; rfl : _ = _)
          have HRt : Hid (∀ w, Calls Tryz.prog 76 #[.agg #[.string (str (Fd.nth t k2).1), .string (str (Fd.nth t k2).2)]] w fun e w' => e = .returned (.bool (okT (Fd.nth t k2))) ∧ Below w.heap.size w w') := fun w => rRight_any (Fd.nth t k2) (by unfold szF at hz; unfold maxLen; omega) (by unfold szF at hz; unfold maxLen; omega) w
          clear hz
          generalize okT (Fd.nth t k2) = ok at NX BD HRt
          generalize str (Fd.nth t k2).1 = N at p0 HRt
          generalize str (Fd.nth t k2).2 = V at p1 HRt
          have HBa : Hid (Below w.heap.size w (wr.alloc (.cells #[.string N, .string V] 80))) := bel_trans hbl.out ((Below.refl _ wr).alloc (Nat.le_refl _) _)
          cases ok with
          | false =>
            have bd := BD rfl
            clear NX BD
            go_wp2_with fail
            refine (HRt.out _).mono ?_
            rintro e w2 ⟨rfl, hb2⟩
            have HB2 : Hid (Below w.heap.size w w2) := bel_trans HBa.out hb2
            clear hb2
            go_wp2
            go_ret2
            exact ⟨by rw [bd.out]; rfl, HB2.out⟩
          | true =>
            have nx := NX rfl
            clear NX BD
            go_wp2_with fail
            refine (HRt.out _).mono ?_
            rintro e w2 ⟨rfl, hb2⟩
            have HB2 : Hid (Below w.heap.size w w2) := bel_trans HBa.out hb2
            clear hb2
            go_wp2
            go_roundw
            case rel => exact ⟨k2 + 1, by omega, by go_num, nx, HB2⟩
            case measure => simp [intOf]; omega
        · have HAll : Hid (∀ j, j < t.length → okT (Fd.nth t j) = true) := (fun j hj => hok.out j (by omega) : ∀ j, j < t.length → _)
          have HE2 : Hid (encR body.data.toList l t = (cutC l body.data.toList ++ lineC 0 ++ (trailG t ++ [13, 10]), 0)) := (by rw [HE.out, all_of t HAll.out, if_pos rfl] : _ = _)
          have hk2l : ¬ ((k2 : Int) < (t.length : Int)) := by omega
          obtain ⟨w0, hw0⟩ : ∃ w0, w0 = wr := ⟨_, rfl⟩
          rw [← hw0] at hbl ⊢
          clear hok HE hk2 hw0
          go_wp2
          go_loopw [0, 12, 43] (fun bv pv i wr => ∃ (k : Nat) (B : ByteArray) (ps : List (List UInt8)), k ≤ l.length ∧ i = .int .i64 k ∧ bv = .string B ∧ B.size ≤ 1048576 ∧ Hid (ps.length = k) ∧ Hid (piecesC l body.data.toList = ps ++ piecesC (l.drop k) B.data.toList) ∧ Hid (OwnS w.heap.size pv ps wr) ∧ Hid (Below w.heap.size w wr)) (fun _ _ i _ => l.length - (intOf i).toNat)
          case atStart => exact ⟨0, body, [], Nat.zero_le _, rfl, rfl, hb, (rfl : _ = _), (by simp : _ = _), ownS_nil _ _, hbl.out⟩
          case round =>
            obtain ⟨k3, B, ps, hk3, rfl, rfl, hBs, hpl, hst, hown, hbl3⟩ := hrel
            have hsz3 := hbl3.out.size
            by_cases hlt3 : k3 < l.length
            · obtain ⟨g, o, rfl, hgc, p0⟩ := rdI_get (HI.out.below hbl3.out) hlt3
              have hps := HPos.out k3 hlt3
              have hst2 : Hid (piecesC l body.data.toList = (ps ++ [B.data.toList.take (nthI l k3).toNat]) ++ piecesC (l.drop (k3 + 1)) (B.data.toList.drop (nthI l k3).toNat)) := (by rw [hst.out, pieces_drop l k3 hlt3]; simp : _ = _)
              clear hst
              have hlk : ps.length + 1 ≤ 4294967296 := by rw [hpl.out]; omega
              generalize nthI l k3 = X at p0 hps hst2
              by_cases hgt : ((B.size : Nat) : Int) < X
              · have htk : B.data.toList.take X.toNat = B.data.toList := List.take_of_length_le (by rw [size_list]; omega)
                have hdr : B.data.toList.drop X.toNat = [] := List.drop_eq_nil_of_le (by rw [size_list]; omega)
                rw [htk, hdr] at hst2
                have HEx : Hid (B = str B.data.toList) := (str_self B).symm
                have HEy : Hid (ByteArray.empty.data.toList = ([] : List UInt8)) := (rfl : _ = _)
                have hBs2 : ByteArray.empty.size ≤ 1048576 := by decide
                clear htk hdr
                go_wp2_with (at_builtin; go_must (refine wp_appS2 rfl (.tmp 53) (.tmp 57) rfl w.heap.size _ ps wr _ B.data.toList HEx.out rfl hown.out _ rfl rfl hlk hsz3 ?_); intro v6 w6 hown6 hb6)
                have HO6 : Hid (OwnS w.heap.size v6 (ps ++ [B.data.toList]) w6) := hown6
                have HB6 : Hid (Below w.heap.size w w6) := hbl3.out.trans hb6
                have HL6 : Hid ((ps ++ [B.data.toList]).length = k3 + 1) := (by rw [List.length_append, hpl.out]; rfl : _ = _)
                rw [← HEy.out] at hst2
                clear hown6 hb6
                go_roundw
                case rel => exact ⟨k3 + 1, ByteArray.empty, ps ++ [B.data.toList], by omega, by go_num, rfl, hBs2, HL6, hst2, HO6, HB6⟩
                case measure => simp [intOf]; omega
              · obtain ⟨q, rfl⟩ : ∃ q : Nat, X = (q : Int) := ⟨X.toNat, by omega⟩
                have hq : q ≤ B.size := by omega
                rw [Int.toNat_natCast] at hst2
                have HEx : Hid (B.extract 0 q = str (B.data.toList.take q)) := take_ext B q
                have HEy : Hid ((B.extract q B.size).data.toList = B.data.toList.drop q) := drop_ext B q
                have hBs2 : (B.extract q B.size).size ≤ 1048576 := by rw [ByteArray.size_extract]; omega
                go_wp2_with (at_builtin; go_must (refine wp_appS2 rfl (.tmp 53) (.tmp 57) rfl w.heap.size _ ps wr _ (B.data.toList.take q) HEx.out rfl hown.out _ rfl rfl hlk hsz3 ?_); intro v6 w6 hown6 hb6)
                have HO6 : Hid (OwnS w.heap.size v6 (ps ++ [B.data.toList.take q]) w6) := hown6
                have HB6 : Hid (Below w.heap.size w w6) := hbl3.out.trans hb6
                have HL6 : Hid ((ps ++ [B.data.toList.take q]).length = k3 + 1) := (by rw [List.length_append, hpl.out]; rfl : _ = _)
                rw [← HEy.out] at hst2
                clear hown6 hb6
                go_roundw
                case rel => exact ⟨k3 + 1, B.extract q B.size, ps ++ [B.data.toList.take q], by omega, by go_num, rfl, hBs2, HL6, hst2, HO6, HB6⟩
                case measure => simp [intOf]; omega
            · have hPs : Hid (piecesC l body.data.toList = ps ++ [B.data.toList]) := (by rw [hst.out, List.drop_eq_nil_of_le (by omega)]; rfl : _ = _)
              have hlk : ps.length + 1 ≤ 4294967296 := by rw [hpl.out]; omega
              have HEx : Hid (B = str B.data.toList) := (str_self B).symm
              have hk3l : ¬ ((k3 : Int) < (l.length : Int)) := by omega
              obtain ⟨w4, hw4⟩ : ∃ w4, w4 = wr := ⟨_, rfl⟩
              rw [← hw4] at hbl3 hown hsz3 ⊢
              clear hst hk3 hw4
              go_wp2_with (at_builtin; go_must (refine wp_appS2 rfl (.tmp 63) (.tmp 65) rfl w.heap.size _ ps w4 _ B.data.toList HEx.out rfl hown.out _ rfl rfl hlk hsz3 ?_); intro v6 w6 hown6 hb6; have HO6 : Hid (OwnS w.heap.size v6 (ps ++ [B.data.toList]) w6) := hown6; have HB6 : Hid (Below w.heap.size w w6) := hbl3.out.trans hb6; rw [← hPs.out] at HO6; obtain ⟨a6, c6, rfl⟩ := HO6.out.form; have HR6 : Hid (RdS (.slice a6 (piecesC l body.data.toList).length c6) (piecesC l body.data.toList) w6) := HO6.out.rd; clear hown6 hb6)
              generalize hPP : piecesC l body.data.toList = PP at *
              generalize hCC : cutC l body.data.toList = CC at *
              have HPP : Hid (PP.flatMap chunkC = CC) := HPC
              have hPl : PP.length = l.length + 1 := HPL.out
              have HPl : Hid (PP.length = l.length + 1) := HPL
              have hPl2 : PP.length ≤ 1048577 := by omega
              clear hPP hCC HPC HPL hPs HO6 hPl
              go_wp2
              go_loopw [15, 68] (fun ov i wr => ∃ (k : Nat) (O : ByteArray), k ≤ PP.length ∧ i = .int .i64 k ∧ ov = .string O ∧ O.size ≤ 20000000 ∧ Hid (O.data.toList = (PP.take k).flatMap chunkC) ∧ Hid (Below w6.heap.size w6 wr)) (fun _ i _ => PP.length - (intOf i).toNat)
              case atStart => exact ⟨0, ⟨#[]⟩, Nat.zero_le _, rfl, rfl, by decide, (rfl : _ = _), Below.refl _ _⟩
              case round =>
                obtain ⟨k4, O, hk4, rfl, rfl, hOs, hOl, hbl4⟩ := hrel
                by_cases hlt4 : k4 < PP.length
                · obtain ⟨g, o, rfl, hgc, p0⟩ := rdS_get (HR6.out.below hbl4.out) hlt4
                  have hpe := HPE.out (PP.getD k4 []) (by rw [List.getD_eq_getElem?_getD, List.getElem?_eq_getElem hlt4]; exact List.getElem_mem hlt4)
                  have hsn : Hid ((PP.take (k4 + 1)).flatMap chunkC = O.data.toList ++ chunkC (PP.getD k4 [])) := (by rw [flat_snoc PP k4 hlt4, ← hOl.out] : _ = _)
                  have hle : Hid (((PP.take (k4 + 1)).flatMap chunkC).length ≤ 20000000) := Nat.le_trans (flat_le PP (k4 + 1)) (by rw [HPP.out]; exact HCL.out)
                  have hss := str_size (PP.getD k4 [])
                  have hsl := str_list (PP.getD k4 [])
                  generalize PP.getD k4 [] = pc at *
                  have HSl : Hid ((str pc).data.toList = pc) := hsl
                  clear hsl
                  by_cases h0 : pc = []
                  · have he : (str pc).toList.isEmpty = true := empty_of (by rw [hss, h0]; rfl)
                    have hO2 : Hid (O.data.toList = (PP.take (k4 + 1)).flatMap chunkC) := (by rw [hsn.out, h0]; simp [chunkC] : _ = _)
                    generalize str pc = S at *
                    go_wp2
                    go_roundw
                    case rel => exact ⟨k4 + 1, O, by omega, by go_num, rfl, hOs, hO2, hbl4⟩
                    case measure => simp [intOf]; omega
                  · have hs0 : (str pc).size ≠ 0 := fun e => h0 (List.length_eq_zero_iff.1 (by omega))
                    have he : (str pc).toList.isEmpty = false := by
                      cases hb : (str pc).toList.isEmpty with
                      | false => rfl
                      | true =>
                        rw [List.isEmpty_iff, ByteArray.toList_eq, HSl.out] at hb
                        exact absurd hb h0
                    have hO2 : Hid ((PP.take (k4 + 1)).flatMap chunkC = O.data.toList ++ (hexd pc.length ++ [13, 10] ++ pc ++ [13, 10])) := (by rw [hsn.out]; unfold chunkC lineC; rw [if_neg h0] : _ = _)
                    have hdl := hexd_len 10 pc.length (Nat.lt_of_le_of_lt hpe (by decide))
                    have HDg : Hid (∀ w, Calls Tryz.prog 77 #[.int .i64 ((str pc).size : Int)] w fun e w' => e = .returned (.string (str (hexd pc.length))) ∧ w' = w) := fun w => by rw [hss]; exact rdigits_any pc.length (by omega) w
                    have hds := str_size (hexd pc.length)
                    have HDl : Hid ((str (hexd pc.length)).data.toList = hexd pc.length) := str_list _
                    generalize str (hexd pc.length) = D at *
                    generalize str pc = S at *
                    have hz1 : D.size + (⟨#[13, 10]⟩ : ByteArray).size ≤ 9223372036854775807 := by show _ + 2 ≤ _; omega
                    have hz2 : (D ++ ⟨#[13, 10]⟩ : ByteArray).size + S.size ≤ 9223372036854775807 := by rw [cat_size]; show _ + 2 + _ ≤ _; omega
                    have hz3 : (D ++ ⟨#[13, 10]⟩ ++ S : ByteArray).size + (⟨#[13, 10]⟩ : ByteArray).size ≤ 9223372036854775807 := by rw [cat_size, cat_size]; show _ + 2 + _ + 2 ≤ _; omega
                    have hz4 : O.size + (D ++ ⟨#[13, 10]⟩ ++ S ++ ⟨#[13, 10]⟩ : ByteArray).size ≤ 9223372036854775807 := by rw [cat_size, cat_size, cat_size]; show _ + (_ + 2 + _ + 2) ≤ _; omega
                    have HOn : Hid ((O ++ (D ++ ⟨#[13, 10]⟩ ++ S ++ ⟨#[13, 10]⟩)).data.toList = (PP.take (k4 + 1)).flatMap chunkC) := (by rw [hO2.out, cat_list, cat_list, cat_list, cat_list, HDl.out, HSl.out] : _ = _)
                    have hOs2 : (O ++ (D ++ ⟨#[13, 10]⟩ ++ S ++ ⟨#[13, 10]⟩)).size ≤ 20000000 := by rw [← size_list, HOn.out]; exact hle.out
                    clear hO2 hsn hle h0 hdl hds HSl HDl hs0 hss
                    go_wp2_with fail
                    refine (HDg.out _).mono ?_
                    rintro e w7 ⟨rfl, hw7⟩
                    rw [hw7]
                    clear hw7
                    go_wp2
                    go_roundw
                    case rel => exact ⟨k4 + 1, _, by omega, by go_num, rfl, hOs2, HOn, hbl4⟩
                    case measure => simp [intOf]; omega
                · have hOl2 : Hid (O.data.toList = CC) := (by rw [hOl.out, List.take_of_length_le (by omega), HPP.out] : _ = _)
                  have hk4l : ¬ ((k4 : Int) < (PP.length : Int)) := by omega
                  have hz1 : O.size + (⟨#[48, 13, 10]⟩ : ByteArray).size ≤ 9223372036854775807 := by show _ + 3 ≤ _; omega
                  have HO2 : Hid ((O ++ ⟨#[48, 13, 10]⟩ : ByteArray).data.toList = CC ++ lineC 0 ++ trailG (t.take 0)) := (by rw [cat_list, hOl2.out, lineC_zero]; simp [trailG] : _ = _)
                  have hOs2 : (O ++ ⟨#[48, 13, 10]⟩ : ByteArray).size ≤ 20000003 := by rw [cat_size]; show _ + 3 ≤ _; omega
                  obtain ⟨w7, hw7⟩ : ∃ w7, w7 = wr := ⟨_, rfl⟩
                  rw [← hw7] at hbl4 ⊢
                  have HB7 : Hid (Below w.heap.size w w7) := bel_trans HB6.out hbl4.out
                  clear hOl hOl2 hk4 hw7 hbl4
                  go_wp2
                  go_loopw [15, 88] (fun ov i wr => ∃ (k : Nat) (O : ByteArray), k ≤ t.length ∧ i = .int .i64 k ∧ ov = .string O ∧ O.size ≤ 20000003 + k * 1048600 ∧ Hid (O.data.toList = CC ++ lineC 0 ++ trailG (t.take k)) ∧ Hid (Below w.heap.size w wr)) (fun _ i _ => t.length - (intOf i).toNat)
                  case atStart => exact ⟨0, _, Nat.zero_le _, rfl, rfl, by omega, HO2, HB7⟩
                  case round =>
                    obtain ⟨k5, P, hk5, rfl, rfl, hPs, hPl, hbl5⟩ := hrel
                    by_cases hlt5 : k5 < t.length
                    · obtain ⟨g, o, rfl, hgc, p0, p1⟩ := rdF_get (HF.out.below hbl5.out) hlt5
                      have hz := szSum t k5 hlt5
                      have hll := lineP_len (Fd.nth t k5)
                      have hsn : Hid (trailG (t.take (k5 + 1)) = trailG (t.take k5) ++ lineP (Fd.nth t k5) ++ [13, 10]) := trailG_snoc t k5 hlt5
                      have hok5 := okT_is (HAll.out k5 hlt5)
                      have hpr : printL (Fd.nth t k5) = (lineP (Fd.nth t k5), 0) := by unfold printL; rw [if_pos (chk_right hok5.1 hok5.2.1)]
                      have HPr : Hid (∀ w, Calls Tryz.prog 70 #[.agg #[.string (str (Fd.nth t k5).1), .string (str (Fd.nth t k5).2)]] w fun e w' => e = .returned (.tuple #[.string (str (lineP (Fd.nth t k5))), .int .i64 0]) ∧ Below w.heap.size w w') := fun w => by
                        have h := rPrintLine_any (Fd.nth t k5) (by unfold szF at hz; omega) (by unfold szF at hz; omega) w
                        rw [hpr] at h
                        exact h
                      have hLs := str_size (lineP (Fd.nth t k5))
                      have HLl : Hid ((str (lineP (Fd.nth t k5))).data.toList = lineP (Fd.nth t k5)) := str_list _
                      clear hok5 hpr
                      generalize str (lineP (Fd.nth t k5)) = L at *
                      generalize lineP (Fd.nth t k5) = lp at *
                      generalize str (Fd.nth t k5).1 = N at p0 HPr
                      generalize str (Fd.nth t k5).2 = V at p1 HPr
                      have HBa : Hid (Below w.heap.size w (wr.alloc (.cells #[.string N, .string V] 80))) := bel_trans hbl5.out ((Below.refl _ wr).alloc (Nat.le_refl _) _)
                      have hz1 : L.size + (⟨#[13, 10]⟩ : ByteArray).size ≤ 9223372036854775807 := by show _ + 2 ≤ _; omega
                      have hz2 : P.size + (L ++ ⟨#[13, 10]⟩ : ByteArray).size ≤ 9223372036854775807 := by rw [cat_size]; show _ + (_ + 2) ≤ _; omega
                      have HPn : Hid ((P ++ (L ++ ⟨#[13, 10]⟩)).data.toList = CC ++ lineC 0 ++ trailG (t.take (k5 + 1))) := (by rw [cat_list, cat_list, hPl.out, HLl.out, hsn.out]; simp only [List.append_assoc] : _ = _)
                      have hPs2 : (P ++ (L ++ ⟨#[13, 10]⟩)).size ≤ 20000003 + (k5 + 1) * 1048600 := by rw [cat_size, cat_size]; show _ + (_ + 2) ≤ _; omega
                      clear hsn HLl hz hll hLs
                      go_wp2_with fail
                      refine (HPr.out _).mono ?_
                      rintro e w8 ⟨rfl, hb8⟩
                      have HB8 : Hid (Below w.heap.size w w8) := bel_trans HBa.out hb8
                      clear hb8
                      go_wp2
                      go_roundw
                      case rel => exact ⟨k5 + 1, _, by omega, by go_num, rfl, hPs2, HPn, HB8⟩
                      case measure => simp [intOf]; omega
                    · have hPl2 : Hid (P.data.toList ++ [13, 10] = CC ++ lineC 0 ++ (trailG t ++ [13, 10])) := (by rw [hPl.out, List.take_of_length_le (by omega)]; simp only [List.append_assoc] : _ = _)
                      have hz1 : P.size + (⟨#[13, 10]⟩ : ByteArray).size ≤ 9223372036854775807 := by show _ + 2 ≤ _; omega
                      have HFn : Hid (P ++ ⟨#[13, 10]⟩ = str (CC ++ lineC 0 ++ (trailG t ++ [13, 10]))) := to_str (by rw [cat_list]; exact hPl2.out)
                      go_wp2
                      go_ret2
                      exact ⟨by rw [HE2.out, ← HFn.out]; rfl, hbl5.out⟩
end Ck
end Go.Proofs.YtcelekfokbdmfaaGreatDoor
