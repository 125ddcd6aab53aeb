import Derived.Test.YtcelekfokbdmfaaGreatDoorMtK
import Derived.Test.YtcelekfokbdmfaaGreatDoorMgE1
import Derived.Test.YtcelekfokbdmfaaGreatDoorRows
import Derived.Test.YtcelekfokbdmfaaGreatDoorMgC1
import Derived.Test.YtcelekfokbdmfaaGreatDoorMgL
import Derived.OpenShut
import Derived.SliceStrings
import Derived.Carry
import Derived.ChangeSlices
import Derived.ChangeOld
import Derived.Deep.Strs
import Derived.Test.YtcelekfokbdmfaaGreatDoorMgD1
set_option linter.unusedVariables false
set_option linter.unusedSimpArgs false
set_option maxRecDepth 100000
namespace Go.Proofs.YtcelekfokbdmfaaGreatDoor
open Go.RowKit Go.Shelf
namespace Ms
open Oc Tg _root_.Go.Proofs.YtcelekfokbdmfaaGreatDoor.Fd _root_.Go.Proofs.YtcelekfokbdmfaaGreatDoor.Ck
set_option maxHeartbeats 4000000 in
theorem rPrint12_ch (r : Rs) (m : Mn) (hch : m.ch = true) (hn : i64 r.st) (hrl : r.rs.length ≤ 1048576) (hbl : r.bd.length ≤ 1048576) (hS : sumF r.fs ≤ 1048576) (vf vs vt : Value) (sa : Option Addr) (cs : Nat) (hvs : vs = .slice sa m.sz.length cs) (w : World) (hf : InF vf r.fs w) (ht : RdF vt m.tr w) (hsi : RdI w vs m.sz) (hsl : m.sz.length ≤ 1048576) (hts : sumF m.tr ≤ 1048576) :
    Calls Tryz.prog 15 #[.agg #[.int .i64 r.st, .string (str r.rs), vf, .string (str r.bd)], .agg #[.string (str m.me), .bool m.cl, .bool m.old, .bool m.ch, vs, vt]] w fun e w' => e = .returned (.tuple #[.string (str (prnR r m).1), .int .i64 (prnR r m).2]) ∧ Below w.heap.size w w' := by
  have HHd : Hid (∀ W, InF vf r.fs W → RdF vt m.tr W → Calls _ _ _ W _) := fun W h1 h2 => rHead_any r m hn hrl hbl hS vf vs vt sa cs hvs W h1 h2
  have HBl : Hid (∀ W, Calls Tryz.prog 45 #[.string (str m.me), .int .i64 r.st] W fun e w' => e = .returned (.bool (bdl m.me r.st)) ∧ w' = W) := fun W => by
    have h := rBodyless_any (str m.me) r.st W
    rw [str_list] at h
    exact h
  have HEn : Hid (∀ W, RdI W vs m.sz → RdF vt m.tr W → Calls Tryz.prog 44 #[.string (str r.bd), vs, vt] W fun e w' => e = .returned (.tuple #[.string (str (encR r.bd m.sz m.tr).1), .int .i64 (encR r.bd m.sz m.tr).2]) ∧ Below (World.heap W).size W w') := fun W h1 h2 => by
    have h := rEncode_any (str r.bd) (by rw [str_size]; exact hbl) vs m.sz hsl vt m.tr hts W h1 h2
    rw [str_list] at h
    exact h
  have hez := encR_len r.bd m.sz m.tr hbl hsl hts
  have HSi : Hid (RdI w vs m.sz) := hsi
  have HIf : Hid (InF vf r.fs w) := hf
  have HTr : Hid (RdF vt m.tr w) := ht
  have HQ : Hid (prnR r m = if (headR r m).2 ≠ 0 then ([], (headR r m).2) else if 65536 < (headR r m).1.length then ([], 125) else if (encR r.bd m.sz m.tr).2 ≠ 0 then ([], (encR r.bd m.sz m.tr).2) else if bdl m.me r.st = true then ((headR r m).1, 0) else ((headR r m).1 ++ (encR r.bd m.sz m.tr).1, 0)) := (by unfold prnR; rw [if_neg (by rw [hch]; simp)] : _ = _)
  obtain ⟨af, cf, rfl, _⟩ := hf.1
  obtain ⟨ta, ct, rfl, _⟩ := ht
  subst hvs
  rw [hch] at HHd ⊢
  generalize prnR r m = R at *
  generalize bdl m.me r.st = b at *
  generalize headR r m = H at *
  obtain ⟨H1, H2⟩ := H
  dsimp only at HHd HQ
  generalize encR r.bd m.sz m.tr = E at *
  obtain ⟨E1, E2⟩ := E
  dsimp only at HEn HQ hez
  have HBD : Hid (∀ l : List UInt8, str (l ++ E1) = str l ++ str E1) := fun l => (str_app l E1).symm
  have hEz : (str E1).size ≤ 40000000 := by rw [str_size]; exact hez
  generalize str E1 = ES at *
  clear hez hsi
  have hbz : (str r.bd).size ≤ 1048576 := by rw [str_size]; exact hbl
  have hHz : (str H1).size = H1.length := str_size H1
  obtain ⟨HS, hHS⟩ : ∃ HS, HS = str H1 := ⟨_, rfl⟩
  have HHS : Hid (HS = str H1) := hHS
  rw [← hHS] at HHd hHz
  clear hHS
  generalize str r.bd = BD at *
  generalize str r.rs = RS at *
  generalize str m.me = ME at *
  obtain ⟨W0, hW0⟩ : ∃ W0, W0 = (w.alloc (.cells #[.int .i64 r.st, .string RS, .slice af r.fs.length cf, .string BD] 38)).alloc (.cells #[.string ME, .bool m.cl, .bool m.old, .bool true, .slice sa m.sz.length cs, .slice ta m.tr.length ct] 41) := ⟨_, rfl⟩
  have hB := box2 38 41 w [.int .i64 r.st, .string RS, .slice af r.fs.length cf, .string BD] [.string ME, .bool m.cl, .bool m.old, .bool true, .slice sa m.sz.length cs, .slice ta m.tr.length ct]
  have HB0 : Hid (Below w.heap.size w W0) := (by rw [hW0]; exact hB.bel : Below _ _ _)
  have HM0 : Hid (Blk 41 W0 (w.heap.size + 1) [.string ME, .bool m.cl, .bool m.old, .bool true, .slice sa m.sz.length cs, .slice ta m.tr.length ct]) := (by rw [hW0]; exact hB.man : Blk _ _ _ _)
  have HR0 : Hid (Blk 38 W0 w.heap.size [.int .i64 r.st, .string RS, .slice af r.fs.length cf, .string BD]) := (by rw [hW0]; exact hB.resp : Blk _ _ _ _)
  have HW0 : Hid (W0 = _) := hW0
  clear hB hW0 hf hch
  go_enter Tryz.func15, Tryz.ntmps15
  go_wp2_with fail
  rw [← HW0.out]
  refine (HHd.out _ (HIf.out.below HB0.out) (HTr.out.below HB0.out)).mono ?_
  rintro e w1 ⟨rfl, hb1⟩
  have HB1 : Hid (Below W0.heap.size W0 w1) := hb1
  have HBw : Hid (Below w.heap.size w w1) := HB0.out.trans (hb1.mono HB0.out.size)
  clear hb1 HHd HW0
  by_cases hz : H2 = 0
  case neg =>
    have hz1 : (H2 != 0) = true := by simp [hz]
    have HQ2 : Hid (R = ([], H2)) := HQ.out.trans (if_pos hz)
    clear hz
    go_wp2
    go_ret2
    rw [HQ2.out]
    exact ⟨rfl, HBw.out⟩
  subst hz
  have HQa : Hid (R = _) := HQ.out.trans (if_neg (fun h => h rfl))
  have r0 : w1.cell? ⟨w.heap.size, 0, none⟩ = some (.int .i64 r.st) := (HR0.out.below HB1.out).cell 0 rfl
  have r3 : w1.cell? ⟨w.heap.size, 3, none⟩ = some (.string BD) := (HR0.out.below HB1.out).cell 3 rfl
  have m0 : w1.cell? ⟨w.heap.size + 1, 0, none⟩ = some (.string ME) := (HM0.out.below HB1.out).cell 0 rfl
  have m4 : w1.cell? ⟨w.heap.size + 1, 4, none⟩ = some (.slice sa m.sz.length cs) := (HM0.out.below HB1.out).cell 4 rfl
  have m5 : w1.cell? ⟨w.heap.size + 1, 5, none⟩ = some (.slice ta m.tr.length ct) := (HM0.out.below HB1.out).cell 5 rfl
  have m3 : w1.cell? ⟨w.heap.size + 1, 3, none⟩ = some (.bool true) := (HM0.out.below HB1.out).cell 3 rfl
  clear HQ
  have HHz : Hid (HS.size = H1.length) := hHz
  clear hHz
  by_cases hl : 65536 < H1.length
  · have hl' : (65536 : Int) < (HS.size : Int) := by have := HHz.out; omega
    have HQ2 : Hid (R = ([], 125)) := HQa.out.trans (if_pos hl)
    clear hl
    go_wp2
    go_ret2
    rw [HQ2.out]
    exact ⟨rfl, HBw.out⟩
  have hl' : ¬ (65536 : Int) < (HS.size : Int) := by have := HHz.out; omega
  have hl2 : HS.size ≤ 65536 := by have := HHz.out; omega
  have HQb : Hid (R = _) := HQa.out.trans (if_neg hl)
  clear HQa hl
  go_wp2_with fail
  refine (HEn.out _ (HSi.out.below HBw.out) (HTr.out.below HBw.out)).mono ?_
  rintro e w2 ⟨rfl, hb2⟩
  have HB2 : Hid (Below W0.heap.size W0 w2) := bel_trans HB1.out hb2
  have HBx : Hid (Below w.heap.size w w2) := bel_trans HBw.out hb2
  clear hb2 r0 r3 m0 m3 m4 m5
  by_cases hz : E2 = 0
  case neg =>
    have hz1 : (E2 != 0) = true := by simp [hz]
    have HQ2 : Hid (R = ([], E2)) := HQb.out.trans (if_pos hz)
    clear hz
    go_wp2
    go_ret2
    rw [HQ2.out]
    exact ⟨rfl, HBx.out⟩
  subst hz
  have HQc : Hid (R = _) := HQb.out.trans (if_neg (fun h => h rfl))
  clear HQb
  have r0 : w2.cell? ⟨w.heap.size, 0, none⟩ = some (.int .i64 r.st) := (HR0.out.below HB2.out).cell 0 rfl
  have m0 : w2.cell? ⟨w.heap.size + 1, 0, none⟩ = some (.string ME) := (HM0.out.below HB2.out).cell 0 rfl
  go_wp2_with fail
  refine (HBl.out _).mono ?_
  rintro e w3 ⟨rfl, hw3⟩
  rw [hw3]
  clear hw3
  cases b with
  | true =>
    have HQ2 : Hid (R = (H1, 0)) := HQc.out.trans (if_pos rfl)
    have t1 : HS.size + 0 ≤ 9223372036854775807 := by omega
    have hemp : HS ++ (⟨#[]⟩ : ByteArray) = HS := by first | exact ByteArray.append_empty | (apply ByteArray.ext; simp [ByteArray.data_append])
    go_wp2
    go_ret2
    rw [HQ2.out]
    exact ⟨by dsimp only; rw [← HHS.out]; first | rfl | (rw [hemp]; rfl), HBx.out⟩
  | false =>
    have HQ2 : Hid (R = (H1 ++ E1, 0)) := HQc.out.trans (if_neg (by simp))
    have t1 : HS.size + ES.size ≤ 9223372036854775807 := by omega
    go_wp2
    go_ret2
    rw [HQ2.out]
    exact ⟨by dsimp only; rw [HBD.out, ← HHS.out]; rfl, HBx.out⟩
set_option maxHeartbeats 4000000 in
theorem rPrint12_nc (r : Rs) (m : Mn) (hch : m.ch = false) (hn : i64 r.st) (hrl : r.rs.length ≤ 1048576) (hbl : r.bd.length ≤ 1048576) (hS : sumF r.fs ≤ 1048576) (vf vs vt : Value) (sa : Option Addr) (cs : Nat) (hvs : vs = .slice sa m.sz.length cs) (w : World) (hf : InF vf r.fs w) (ht : RdF vt m.tr w) (hsi : RdI w vs m.sz) (hsl : m.sz.length ≤ 1048576) (hts : sumF m.tr ≤ 1048576) :
    Calls Tryz.prog 15 #[.agg #[.int .i64 r.st, .string (str r.rs), vf, .string (str r.bd)], .agg #[.string (str m.me), .bool m.cl, .bool m.old, .bool m.ch, vs, vt]] w fun e w' => e = .returned (.tuple #[.string (str (prnR r m).1), .int .i64 (prnR r m).2]) ∧ Below w.heap.size w w' := by
  have HHd : Hid (∀ W, InF vf r.fs W → RdF vt m.tr W → Calls _ _ _ W _) := fun W h1 h2 => rHead_any r m hn hrl hbl hS vf vs vt sa cs hvs W h1 h2
  have HBl : Hid (∀ W, Calls Tryz.prog 45 #[.string (str m.me), .int .i64 r.st] W fun e w' => e = .returned (.bool (bdl m.me r.st)) ∧ w' = W) := fun W => by
    have h := rBodyless_any (str m.me) r.st W
    rw [str_list] at h
    exact h
  have HEn : Hid (∀ W, RdI W vs m.sz → RdF vt m.tr W → Calls Tryz.prog 44 #[.string (str r.bd), vs, vt] W fun e w' => e = .returned (.tuple #[.string (str (encR r.bd m.sz m.tr).1), .int .i64 (encR r.bd m.sz m.tr).2]) ∧ Below (World.heap W).size W w') := fun W h1 h2 => by
    have h := rEncode_any (str r.bd) (by rw [str_size]; exact hbl) vs m.sz hsl vt m.tr hts W h1 h2
    rw [str_list] at h
    exact h
  have hez := encR_len r.bd m.sz m.tr hbl hsl hts
  have HSi : Hid (RdI w vs m.sz) := hsi
  have HIf : Hid (InF vf r.fs w) := hf
  have HTr : Hid (RdF vt m.tr w) := ht
  have HQ : Hid (prnR r m = if (headR r m).2 ≠ 0 then ([], (headR r m).2) else if 65536 < (headR r m).1.length then ([], 125) else if bdl m.me r.st = true then ((headR r m).1, 0) else ((headR r m).1 ++ r.bd, 0)) := (by unfold prnR; rw [if_pos hch]; rfl : _ = _)
  obtain ⟨af, cf, rfl, _⟩ := hf.1
  obtain ⟨ta, ct, rfl, _⟩ := ht
  subst hvs
  rw [hch] at HHd ⊢
  generalize prnR r m = R at *
  generalize bdl m.me r.st = b at *
  generalize headR r m = H at *
  obtain ⟨H1, H2⟩ := H
  dsimp only at HHd HQ
  have HBD : Hid (∀ l : List UInt8, str (l ++ r.bd) = str l ++ str r.bd) := fun l => (str_app l r.bd).symm
  clear HEn
  clear hez hsi
  have hbz : (str r.bd).size ≤ 1048576 := by rw [str_size]; exact hbl
  have hHz : (str H1).size = H1.length := str_size H1
  obtain ⟨HS, hHS⟩ : ∃ HS, HS = str H1 := ⟨_, rfl⟩
  have HHS : Hid (HS = str H1) := hHS
  rw [← hHS] at HHd hHz
  clear hHS
  generalize str r.bd = BD at *
  generalize str r.rs = RS at *
  generalize str m.me = ME at *
  obtain ⟨W0, hW0⟩ : ∃ W0, W0 = (w.alloc (.cells #[.int .i64 r.st, .string RS, .slice af r.fs.length cf, .string BD] 38)).alloc (.cells #[.string ME, .bool m.cl, .bool m.old, .bool false, .slice sa m.sz.length cs, .slice ta m.tr.length ct] 41) := ⟨_, rfl⟩
  have hB := box2 38 41 w [.int .i64 r.st, .string RS, .slice af r.fs.length cf, .string BD] [.string ME, .bool m.cl, .bool m.old, .bool false, .slice sa m.sz.length cs, .slice ta m.tr.length ct]
  have HB0 : Hid (Below w.heap.size w W0) := (by rw [hW0]; exact hB.bel : Below _ _ _)
  have HM0 : Hid (Blk 41 W0 (w.heap.size + 1) [.string ME, .bool m.cl, .bool m.old, .bool false, .slice sa m.sz.length cs, .slice ta m.tr.length ct]) := (by rw [hW0]; exact hB.man : Blk _ _ _ _)
  have HR0 : Hid (Blk 38 W0 w.heap.size [.int .i64 r.st, .string RS, .slice af r.fs.length cf, .string BD]) := (by rw [hW0]; exact hB.resp : Blk _ _ _ _)
  have HW0 : Hid (W0 = _) := hW0
  clear hB hW0 hf hch
  go_enter Tryz.func15, Tryz.ntmps15
  go_wp2_with fail
  rw [← HW0.out]
  refine (HHd.out _ (HIf.out.below HB0.out) (HTr.out.below HB0.out)).mono ?_
  rintro e w1 ⟨rfl, hb1⟩
  have HB1 : Hid (Below W0.heap.size W0 w1) := hb1
  have HBw : Hid (Below w.heap.size w w1) := HB0.out.trans (hb1.mono HB0.out.size)
  clear hb1 HHd HW0
  by_cases hz : H2 = 0
  case neg =>
    have hz1 : (H2 != 0) = true := by simp [hz]
    have HQ2 : Hid (R = ([], H2)) := HQ.out.trans (if_pos hz)
    clear hz
    go_wp2
    go_ret2
    rw [HQ2.out]
    exact ⟨rfl, HBw.out⟩
  subst hz
  have HQa : Hid (R = _) := HQ.out.trans (if_neg (fun h => h rfl))
  have r0 : w1.cell? ⟨w.heap.size, 0, none⟩ = some (.int .i64 r.st) := (HR0.out.below HB1.out).cell 0 rfl
  have r3 : w1.cell? ⟨w.heap.size, 3, none⟩ = some (.string BD) := (HR0.out.below HB1.out).cell 3 rfl
  have m0 : w1.cell? ⟨w.heap.size + 1, 0, none⟩ = some (.string ME) := (HM0.out.below HB1.out).cell 0 rfl
  have m4 : w1.cell? ⟨w.heap.size + 1, 4, none⟩ = some (.slice sa m.sz.length cs) := (HM0.out.below HB1.out).cell 4 rfl
  have m5 : w1.cell? ⟨w.heap.size + 1, 5, none⟩ = some (.slice ta m.tr.length ct) := (HM0.out.below HB1.out).cell 5 rfl
  have m3 : w1.cell? ⟨w.heap.size + 1, 3, none⟩ = some (.bool false) := (HM0.out.below HB1.out).cell 3 rfl
  clear HQ
  have HHz : Hid (HS.size = H1.length) := hHz
  clear hHz
  by_cases hl : 65536 < H1.length
  · have hl' : (65536 : Int) < (HS.size : Int) := by have := HHz.out; omega
    have HQ2 : Hid (R = ([], 125)) := HQa.out.trans (if_pos hl)
    clear hl
    go_wp2
    go_ret2
    rw [HQ2.out]
    exact ⟨rfl, HBw.out⟩
  have hl' : ¬ (65536 : Int) < (HS.size : Int) := by have := HHz.out; omega
  have hl2 : HS.size ≤ 65536 := by have := HHz.out; omega
  have HQb : Hid (R = _) := HQa.out.trans (if_neg hl)
  have HQc : Hid (R = _) := HQb.out
  clear HQa hl m4 m5
  go_wp2_with fail
  refine (HBl.out _).mono ?_
  rintro e w3 ⟨rfl, hw3⟩
  rw [hw3]
  clear hw3
  cases b with
  | true =>
    have HQ2 : Hid (R = (H1, 0)) := HQc.out.trans (if_pos rfl)
    have t1 : HS.size + 0 ≤ 9223372036854775807 := by omega
    have hemp : HS ++ (⟨#[]⟩ : ByteArray) = HS := by first | exact ByteArray.append_empty | (apply ByteArray.ext; simp [ByteArray.data_append])
    go_wp2
    go_ret2
    rw [HQ2.out]
    exact ⟨by dsimp only; rw [← HHS.out]; first | rfl | (rw [hemp]; rfl), HBw.out⟩
  | false =>
    have HQ2 : Hid (R = (H1 ++ r.bd, 0)) := HQc.out.trans (if_neg (by simp))
    have t1 : HS.size + BD.size ≤ 9223372036854775807 := by omega
    go_wp2
    go_ret2
    rw [HQ2.out]
    exact ⟨by dsimp only; rw [HBD.out, ← HHS.out]; rfl, HBw.out⟩
theorem rPrint12_any (r : Rs) (m : Mn) (hn : i64 r.st) (hrl : r.rs.length ≤ 1048576) (hbl : r.bd.length ≤ 1048576) (hS : sumF r.fs ≤ 1048576) (vf vs vt : Value) (w : World) (hf : InF vf r.fs w) (ht : RdF vt m.tr w) (hsi : RdI w vs m.sz) (hsl : m.sz.length ≤ 1048576) (hts : sumF m.tr ≤ 1048576) :
    Calls Tryz.prog 15 #[.agg #[.int .i64 r.st, .string (str r.rs), vf, .string (str r.bd)], .agg #[.string (str m.me), .bool m.cl, .bool m.old, .bool m.ch, vs, vt]] w fun e w' => e = .returned (.tuple #[.string (str (prnR r m).1), .int .i64 (prnR r m).2]) ∧ Below w.heap.size w w' := by
  obtain ⟨sa, cs, hvs, _⟩ := id hsi
  cases hch : m.ch with
  | true =>
    have h := rPrint12_ch r m hch hn hrl hbl hS vf vs vt sa cs hvs w hf ht hsi hsl hts
    rw [hch] at h
    exact h
  | false =>
    have h := rPrint12_nc r m hch hn hrl hbl hS vf vs vt sa cs hvs w hf ht hsi hsl hts
    rw [hch] at h
    exact h
end Ms
end Go.Proofs.YtcelekfokbdmfaaGreatDoor
set_option linter.unusedVariables false
set_option linter.unusedSimpArgs false
namespace Go.Proofs.YtcelekfokbdmfaaGreatDoor
open Go.ChangeShapes Go.WideShapes Go.RowKit
namespace Ck
open Oc _root_.Go.Proofs.YtcelekfokbdmfaaGreatDoor.Fd
theorem laidOutT : laidOutB Tryz.prog = true := Fd.laidOutT
theorem cellsI : Tryz.prog.cellsOf 3 = 1 := by kernel_rfl
theorem cellsSI : Tryz.prog.cellsOf 25 = 1 := by kernel_rfl
theorem cellsSF : Tryz.prog.cellsOf 22 = 1 := by kernel_rfl
theorem cellsS9 : Tryz.prog.cellsOf 9 = 1 := by kernel_rfl
theorem i64_of_wf {x : Int} (h : (Lit.int .i64 x).wf = true) : -9223372036854775808 ≤ x ∧ x ≤ 9223372036854775807 := by
  simpa [Lit.wf, IntKind.min, IntKind.max, IntKind.signed, IntKind.bits] using h
set_option maxRecDepth 100000 in
theorem opened_i {H : Type} {enc : TypeId × Value → H} {W : World} {v : Value} {d : DataW H} {p : List MemPlace} (hok : ∃ a len cap, v = .slice a len cap)
    (h0 : DataW.Trod enc Tryz.prog W 0 (fun _ => true) true 25 v d p) :
    ∃ l : List Int, RdI W v l ∧ (d = .nil ∧ l = [] ∨ ∃ es sp, d = .slice es sp ∧ es.length = l.length) := by
  obtain ⟨a0, len, cap, rfl⟩ := hok
  obtain ⟨fuel, hf⟩ := h0
  rcases open_ints Tryz.underlying25 Tryz.underlying3 cellsI hf with ⟨hcs, hx⟩ | ⟨a, len', cap', zs, hcs, _, hl, hm, hz, hx, hcell, hwz⟩
  · simp [Value.cells] at hcs
    obtain ⟨rfl, rfl, rfl⟩ := hcs
    simp only [Prod.mk.injEq] at hx
    obtain ⟨rfl, rfl⟩ := hx
    exact ⟨[], ⟨none, 0, rfl, Nat.le_refl _, (fun _ h => by cases h), .inl rfl⟩, .inl ⟨rfl, rfl⟩⟩
  · simp [Value.cells] at hcs
    obtain ⟨rfl, rfl, rfl⟩ := hcs
    simp only [Prod.mk.injEq] at hx
    obtain ⟨rfl, rfl⟩ := hx
    simp only [if_true] at hz
    have hlen : (zs.take len).length = len := by simp; omega
    refine ⟨zs.take len, ⟨some a, cap, by rw [hlen], by omega, (fun x hx => i64_of_wf (hwz x (List.mem_of_mem_take hx))), ?_⟩, .inr ⟨_, _, rfl, by rw [hlen]; simp [lits]; omega⟩⟩
    by_cases c : len = 0
    · left
      exact List.eq_nil_of_length_eq_zero (by omega)
    · right
      obtain ⟨b, off, rfl, hc2⟩ := ints_at hcell (by omega)
      refine ⟨b, off, rfl, fun j x hj => ?_⟩
      have hjl : j < len := by
        have := (List.getElem?_eq_some_iff.1 hj).1
        omega
      rw [hc2 j (by omega)]
      rw [List.getElem?_take_of_lt hjl, List.getElem?_eq_getElem (by omega)] at hj
      simp only [Option.some.injEq] at hj
      subst hj
      simp only [List.getD, List.getElem?_eq_getElem (show j < zs.length by omega), Option.getD_some]
theorem bulk_pos {H : Type} (d : DataW H) : 1 ≤ Rows.uptoBulk d := by
  unfold Rows.uptoBulk
  split <;> omega
theorem bulk_len {H : Type} : ∀ es : List (DataW H), es.length ≤ Rows.uptoBulkAll es
  | [] => by simp
  | d :: es => by
    have ih := bulk_len es
    have h := bulk_pos d
    simp only [List.length_cons, Rows.uptoBulkAll]
    omega
set_option maxRecDepth 100000 in
theorem open_fieldsT {H : Type} {enc : TypeId × Value → H} {W : World} {v : Value} {d : DataW H} {ps : List MemPlace} (hval : ∃ a len cap, v = .slice a len cap)
    (h : DataW.Trod enc Tryz.prog W 0 (fun _ => true) true 22 v d ps) : ∃ t : List Fl, InF v t W ∧ bulkfields t ≤ Rows.uptoBulk d := by
  obtain ⟨a0, len, cap, rfl⟩ := hval
  obtain ⟨fuel, hf⟩ := h
  rcases DataW.trod_slice Tryz.underlying22 hf with ⟨hcs, hx⟩ | ⟨a, len', cap', elems, rest, n, _, hcs, hx, hb, hl, hm, hlen, hel, _, _⟩
  · simp [Value.cells] at hcs
    obtain ⟨rfl, rfl, rfl⟩ := hcs
    exact ⟨[], ⟨⟨none, 0, rfl, .inl rfl⟩, fun _ => .inl rfl⟩, by simp [bulkfields, sumF]⟩
  · simp [Value.cells] at hcs
    obtain ⟨rfl, rfl, rfl⟩ := hcs
    simp only [Prod.mk.injEq] at hx
    obtain ⟨rfl, rfl⟩ := hx
    have each : ∀ i y, elems[i]? = some y → ∃ (s1 s2 : ByteArray), y.1 = .agg [.lit (.string s1.data.toList), .lit (.string s2.data.toList)] ∧ W.cell? ((a.add (i * 2)).add 0) = some (.string s1) ∧ W.cell? ((a.add (i * 2)).add 1) = some (.string s2) := by
      intro i y hy
      have hi : i < len := by rw [← hlen]; exact (List.getElem?_eq_some_iff.1 hy).1
      have h1 := hel i hi
      rw [hy, cellsF, Option.bind_eq_some_iff] at h1
      obtain ⟨cs, hcs, ht⟩ := h1
      obtain ⟨ys, m, _, hx, hl4, hy4, hfs⟩ := DataW.trod_struct Tryz.underlying63 ht
      rw [cellsF] at hl4
      have hcc := (World.cells?_some hcs).2.2
      have t0 := hfs 0 _ rfl
      have t1 := hfs 1 _ rfl
      match cs, hl4 with
      | [x0, x1], _ =>
        match ys, hy4 with
        | [y0, y1], _ =>
          simp [cells9] at t0 t1
          obtain ⟨m0, e0, q0, w0⟩ := DataW.trod_string Tryz.underlying9 t0
          obtain ⟨m1, e1, q1, w1⟩ := DataW.trod_string Tryz.underlying9 t1
          simp at e0 e1
          subst e0 e1
          subst q0 q1
          refine ⟨m0, m1, ?_, hcc 0 (by omega), hcc 1 (by omega)⟩
          rw [hx]
          rfl
    refine ⟨elems.map flOf, ⟨⟨some a, cap, by rw [List.length_map, hlen], ?_⟩, fun e => .inr ⟨a, cap, by have := congrArg List.length e; rw [List.length_map, hlen] at this; rw [this]; rfl⟩⟩, ?_⟩
    · by_cases hl0 : len = 0
      · left
        have : elems = [] := List.length_eq_zero_iff.1 (by omega)
        rw [this]; rfl
      · right
        obtain ⟨g, o, spot⟩ := a
        have hspot : spot = none := by
          obtain ⟨y, hy⟩ : ∃ y, elems[0]? = some y := ⟨elems[0]'(by omega), List.getElem?_eq_getElem (by omega)⟩
          obtain ⟨s1, s2, _, c0, _⟩ := each 0 y hy
          simpa [Addr.add] using World.cell?_spot c0
        subst hspot
        refine ⟨g, o, rfl, by rw [List.length_map, hlen]; exact hl, fun j hj => ?_⟩
        rw [List.length_map] at hj
        obtain ⟨s1, s2, ey, c0, c1⟩ := each j _ (List.getElem?_eq_getElem hj)
        have en : Fd.nth (elems.map flOf) j = (s1.data.toList, s2.data.toList) := by
          unfold Fd.nth
          rw [List.getD_eq_getElem?_getD, List.getElem?_map, List.getElem?_eq_getElem hj]
          show flOf elems[j] = _
          unfold flOf
          rw [ey]
        rw [addr_add, addr_add] at c0 c1
        rw [en]
        dsimp only
        rw [str_self, str_self]
        exact ⟨c0, c1⟩
    · have hb := bulk_fls elems (fun y hy => by
        obtain ⟨i, hi⟩ := List.getElem?_of_mem hy
        obtain ⟨s1, s2, ey, _⟩ := each i y hi
        exact ⟨_, _, ey⟩)
      simp only [Rows.uptoBulk, hb, bulkfields]
      omega
end Ck
end Go.Proofs.YtcelekfokbdmfaaGreatDoor
set_option linter.unusedVariables false
set_option linter.unusedSimpArgs false
namespace Go.Proofs.YtcelekfokbdmfaaGreatDoor
open Go.ChangeShapes Go.WideShapes Go.RowKit Go.Shelf
namespace Ck
open Oc _root_.Go.Proofs.YtcelekfokbdmfaaGreatDoor.Fd
def NilI (v : Value) (l : List Int) : Prop := l = [] → v = .slice none 0 0 ∨ ∃ g c, v = .slice (some g) 0 c
theorem encI_get (u : List Int) (j : Nat) (z : Value) (h : (encI u)[j]? = some z) : ∃ x, u[j]? = some x ∧ z = .int .i64 x := by
  unfold encI at h
  rw [List.getElem?_map] at h
  cases hu : u[j]? with
  | none => rw [hu] at h; cases h
  | some x => rw [hu] at h; exact ⟨x, rfl, (Option.some.inj h).symm⟩
theorem OwnI.form {B : Nat} {v : Value} {l : List Int} {w : World} (h : OwnI B v l w) : ∃ a c, v = .slice a l.length c := by
  rcases h.2 with ⟨rfl, h0⟩ | ⟨g, cap, cur, rfl, _⟩
  · exact ⟨none, 0, by rw [h0]⟩
  · exact ⟨_, _, rfl⟩
def spare1 : List Fl := [([115, 112, 97, 114, 101], [])]
end Ck
end Go.Proofs.YtcelekfokbdmfaaGreatDoor
set_option linter.unusedVariables false
set_option linter.unusedSimpArgs false
set_option maxRecDepth 100000
namespace Go.Proofs.YtcelekfokbdmfaaGreatDoor
open Go.RowKit Go.Shelf
namespace Ms
open Oc Tg _root_.Go.Proofs.YtcelekfokbdmfaaGreatDoor.Fd _root_.Go.Proofs.YtcelekfokbdmfaaGreatDoor.Ck
theorem again12 (w : World) (n q : Nat) : Hid (∃ k, w.drewN (n + q) = w.drewN k) := (⟨_, rfl⟩ : ∃ k, w.drewN (n + q) = w.drewN k)
theorem own_low {T B S n : Nat} {v : Value} {xs : List Value} {w : World} (h : w.ownsRow B T S v n xs) {p : Addr} (hp : p.block < B) (x : Value) : (w.setCell p x).ownsRow B T S v n xs := by
  refine ⟨h.1, ?_⟩
  rcases h.2 with hn | ⟨g, cap, cur, rfl, hb, hg, rest⟩
  · exact .inl hn
  · refine .inr ⟨g, cap, cur, rfl, hb, ?_, rest⟩
    have : p.block ≠ g := by omega
    simp [World.setCell, Array.getElem?_modify, hg, this]
theorem inI_cells {y : Value} {u : List Int} {W : World} (hy : RdI W y u) (hn : NilI y u) : (y = .slice none 0 0 ∧ u.length = 0) ∨ ∃ ad c, y = .slice (some ad) u.length c ∧ ∀ j z, (encI u)[j]? = some z → W.cell? (ad.add j) = some z := by
  obtain ⟨a2, c2, rfl, _, _, hr⟩ := hy
  by_cases hu : u = []
  · subst hu
    rcases hn rfl with e | ⟨g, c, e⟩
    · exact .inl ⟨e, rfl⟩
    · exact .inr ⟨g, c, e, fun j z hj => by simp [encI] at hj⟩
  · rcases hr with hr | ⟨g, o', rfl, hcell⟩
    · exact absurd hr hu
    · refine .inr ⟨⟨g, o', none⟩, c2, rfl, fun j z hj => ?_⟩
      obtain ⟨x, hx1, e⟩ := encI_get u j z hj
      have ea : Addr.add ⟨g, o', none⟩ j = ⟨g, o' + j, none⟩ := by unfold Addr.add; split <;> simp_all
      rw [ea, e]
      exact hcell j x hx1
theorem step_freshI {ops : Array Oper} {o : Oper} {a : Act} {K : Act → World → Prop} {Q : Exit → Act → World → Prop} {E' : Prop} (hgd : o.guard = none) (s x : Operand)
    (ho : o.op = .call { callee := .builtin .append, args := #[s, x], argTypes := #[25, 25] }) (B g : Nat) (y : Value) (u : List Int) (W : World)
    (hs : a.eval s = .slice (some ⟨g, 0, none⟩) 0 0) (hB : B ≤ g) (hgw : W.heap[g]? = some (.cells #[] 3 (0, 0))) (hx : a.eval x = y) (hy : RdI W y u) (hn : NilI y u) (hlen : u.length ≤ 2147483648)
    (h : ∀ v' w', Hid (OwnI B v' u w') → Hid (Below W.heap.size W w') → K (a.put o.dst v') w') :
    if Region.wanted o (yielded ops a.tmps) = true then Oper.wp Tryz.prog o a W K Q else E' :=
  step_fresh 3 25 _ 1 8 infoI rfl Tryz.underlying25 hgd s x ho B g y u.length (encI u) W hs hB hgw hx (by simp [encI]) (inI_cells hy hn) hlen (by omega) h
set_option maxRecDepth 100000 in
set_option maxHeartbeats 1000000 in
theorem same12_any (v1 v2 : Value) (t : List Fl) (w : World) (h1 : RdF v1 t w) (h2 : RdF v2 t w) (hl : t.length ≤ 4294967296) :
    Calls Tryz.prog 16 #[v1, v2] w fun e w' => e = .returned (.bool true) ∧ Below w.heap.size w w' := by
  obtain ⟨a1, c1, rfl, h1⟩ := h1
  obtain ⟨a2, c2, rfl, h2⟩ := h2
  have hne : ((t.length : Int) != (t.length : Int)) = false := by simp
  go_enter Tryz.func16, Tryz.ntmps16
  go_wp2
  go_loopw [13] (fun i wr => ∃ k : Nat, k ≤ t.length ∧ i = .int .i64 k ∧ Hid (∃ n, wr = w.drewN n)) (fun i _ => t.length - (intOf i).toNat)
  case atStart => exact ⟨0, Nat.zero_le _, rfl, (⟨0, rfl⟩ : ∃ n, w = w.drewN n)⟩
  case round =>
    obtain ⟨k, hk, rfl, hw⟩ := hrel
    obtain ⟨n, rfl⟩ := hw.out
    clear hw
    by_cases hlt : k < t.length
    · rcases h1 with h | ⟨g1, o1, rfl, hc1, hcell1⟩
      · rw [h] at hlt; simp at hlt
      rcases h2 with h | ⟨g2, o2, rfl, hc2, hcell2⟩
      · rw [h] at hlt; simp at hlt
      obtain ⟨p0, p1⟩ := hcell1 k hlt
      obtain ⟨q0, q1⟩ := hcell2 k hlt
      clear hcell1 hcell2
      generalize str (nth t k).1 = x at p0 q0
      generalize str (nth t k).2 = y at p1 q1
      go_wp2_with fail
      go_quiet (fail)
      go_wp2
      go_roundw
      case rel => exact ⟨k + 1, by omega, by go_num, again12 w _ _⟩
      case measure => simp [intOf]; omega
    · go_wp2
      go_ret
      exact ⟨rfl, below_drew w n⟩
set_option maxRecDepth 100000 in
set_option maxHeartbeats 2000000 in
theorem plain12_any (v : Value) (t : List Fl) (w : World) (h : RdF v t w) (hl : t.length ≤ 16777216) :
    Calls Tryz.prog 17 #[v] w fun e w' => ∃ u, e = .returned u ∧ OwnF 80 w.heap.size u t w' ∧ Below w.heap.size w w' := by
  have HR : Hid (RdF v t w) := h
  obtain ⟨a, c, rfl, _⟩ := h
  go_enter Tryz.func17, Tryz.ntmps17
  go_wp2
  go_loopw [3, 8] (fun ov i wr => ∃ k : Nat, k ≤ t.length ∧ i = .int .i64 k ∧ Hid (OwnF 80 w.heap.size ov (t.take k) wr) ∧ Hid (Below w.heap.size w wr)) (fun _ i _ => t.length - (intOf i).toNat)
  case atStart => exact ⟨0, Nat.zero_le _, rfl, ownF_nil _ _ _, Below.refl _ _⟩
  case round =>
    obtain ⟨k, hk, rfl, hown, hbl⟩ := hrel
    have hsz := hbl.out.size
    by_cases hlt : k < t.length
    · obtain ⟨a', c', e', hcs⟩ := HR.out.below hbl.out
      injection e' with e1 _ e2
      subst e1 e2
      rcases hcs with h | ⟨g, o, rfl, hlc, hcell⟩
      · rw [h] at hlt; simp at hlt
      obtain ⟨p0, p1⟩ := hcell k hlt
      have HTk : Hid (t.take (k + 1) = t.take k ++ [nth t k]) := take_nth t k hlt
      have hlk : (t.take k).length + 1 ≤ 2147483648 := by rw [List.length_take]; omega
      generalize nth t k = p at *
      obtain ⟨pn, pv⟩ := p
      dsimp only at p0 p1
      generalize hn : str pn = N at p0
      generalize hv : str pv = V at p1
      have HN : Hid (N = str pn) := hn.symm
      have HV : Hid (V = str pv) := hv.symm
      have hb1 : Below wr.heap.size wr (wr.alloc (.cells #[.string N, .string V] 63)) := (Below.refl _ wr).alloc (Nat.le_refl _) _
      have HO1 : Hid (OwnF 80 w.heap.size _ (t.take k) (wr.alloc (.cells #[.string N, .string V] 63))) := hown.out.below hb1
      have HB1 : Hid (Below w.heap.size w (wr.alloc (.cells #[.string N, .string V] 63))) := bel_trans hbl.out hb1
      have hs1 : w.heap.size ≤ (wr.alloc (.cells #[.string N, .string V] 63)).heap.size := HB1.out.size
      clear hcell hn hv hb1
      go_wp2_with (at_builtin; go_must (refine wp_appF 80 36 infoF2 Tryz.underlying36 rfl (.tmp 12) (.tmp 18) rfl w.heap.size _ (t.take k) _ (pn, pv) _ _ HN.out HV.out rfl HO1.out _ rfl (by simp) hlk hs1 ?_); intro v6 w6 hown6 hb6)
      have HO6 : Hid (OwnF 80 w.heap.size v6 (t.take (k + 1)) w6) := (by rw [HTk.out]; exact hown6 : OwnF _ _ v6 (t.take (k + 1)) w6)
      have HB6 : Hid (Below w.heap.size w w6) := HB1.out.trans hb6
      clear hown6 hb6
      go_roundw
      case rel => exact ⟨k + 1, by omega, by go_num, HO6, HB6⟩
      case measure => simp [intOf]; omega
    · obtain rfl : k = t.length := by omega
      rw [List.take_length] at hown
      go_wp2
      go_ret
      exact ⟨_, rfl, hown.out, hbl.out⟩
set_option maxHeartbeats 1000000 in
theorem fields12_any (v : Value) (t : List Fl) (w : World) (h : InF v t w) (hl : t.length ≤ 16777216) :
    Calls Tryz.prog 25 #[v] w fun e w' => ∃ u, e = .returned u ∧ OwnF 63 w.heap.size u t w' ∧ Below w.heap.size w w' := by
  have hb1 : Below w.heap.size w (w.alloc (.cells #[] 63)) := (Below.refl _ w).alloc (Nat.le_refl _) _
  have HI : Hid (InF v t (w.alloc (.cells #[] 63))) := h.below hb1
  have HO : Hid (_) := ownF_empty (B := w.heap.size) 63 w (Nat.le_refl _)
  have HB : Hid (Below w.heap.size w (w.alloc (.cells #[] 63))) := hb1
  have hs : w.heap.size ≤ (w.alloc (.cells #[] 63)).heap.size := hb1.size
  obtain ⟨⟨a, c, rfl, _⟩, _⟩ := h
  clear hb1
  go_enter Tryz.func25, Tryz.ntmps25
  go_wp2_with (at_builtin; go_must (refine wp_appFs 63 22 infoF Tryz.underlying22 rfl (.tmp 3) (.tmp 4) rfl w.heap.size _ _ [] t rfl HO.out rfl HI.out (by simp; omega) hs ?_); intro v5 w5 o5 b5)
  go_ret
  exact ⟨_, rfl, by simpa using o5, HB.out.trans b5⟩
set_option maxHeartbeats 4000000 in
theorem response12_any (r : Rs) (vf : Value) (w : World) (hf : RdF vf r.fs w) (hl : r.fs.length ≤ 16777216) :
    Calls Tryz.prog 12 #[.agg #[.int .i64 r.st, .string (str r.rs), vf, .string (str r.bd)]] w fun e w' => ∃ u, e = .returned (.agg #[.int .i64 r.st, .string (str r.rs), u, .string (str r.bd)]) ∧ OwnF 80 w.heap.size u r.fs w' ∧ Below w.heap.size w w' := by
  have HF : Hid (RdF vf r.fs w) := hf
  obtain ⟨af, cf, rfl, _⟩ := hf
  generalize str r.rs = RS at *
  generalize str r.bd = BD at *
  have hB := box2 24 38 w [.int .i64 r.st, .string RS, .slice af r.fs.length cf, .string BD] [.int .i64 0, .string ⟨#[]⟩, .slice none 0 0, .string ⟨#[]⟩]
  obtain ⟨W0, hW0⟩ : ∃ W0, W0 = (w.alloc (.cells #[.int .i64 r.st, .string RS, .slice af r.fs.length cf, .string BD] 24)).alloc (.cells #[.int .i64 0, .string ⟨#[]⟩, .slice none 0 0, .string ⟨#[]⟩] 38) := ⟨_, rfl⟩
  have HB0 : Hid (Below w.heap.size w W0) := (by rw [hW0]; exact hB.bel : Below _ _ _)
  have HR0 : Hid (Blk 24 W0 w.heap.size [.int .i64 r.st, .string RS, .slice af r.fs.length cf, .string BD]) := (by rw [hW0]; exact hB.resp : Blk _ _ _ _)
  have HZ0 : Hid (Blk 38 W0 (w.heap.size + 1) [.int .i64 0, .string ⟨#[]⟩, .slice none 0 0, .string ⟨#[]⟩]) := (by rw [hW0]; exact hB.man : Blk _ _ _ _)
  have HS0 : Hid (W0.heap.size = w.heap.size + 2) := (by rw [hW0]; simp : _ = _)
  have HW0 : Hid (W0 = _) := hW0
  clear hB hW0
  have HX : Hid (∀ W, Below W0.heap.size W0 W → (W.cell? ⟨w.heap.size, 0, none⟩ = some (.int .i64 r.st) ∧ W.cell? ⟨w.heap.size, 1, none⟩ = some (.string RS) ∧ W.cell? ⟨w.heap.size, 2, none⟩ = some (.slice af r.fs.length cf) ∧ W.cell? ⟨w.heap.size, 3, none⟩ = some (.string BD)) ∧ (W.cell? ⟨w.heap.size + 1, 0, none⟩ = some (.int .i64 0) ∧ W.cell? ⟨w.heap.size + 1, 1, none⟩ = some (.string ⟨#[]⟩) ∧ W.cell? ⟨w.heap.size + 1, 2, none⟩ = some (.slice none 0 0) ∧ W.cell? ⟨w.heap.size + 1, 3, none⟩ = some (.string ⟨#[]⟩)) ∧ (W.frozen? ⟨w.heap.size + 1, 0, none⟩ = false ∧ W.frozen? ⟨w.heap.size + 1, 1, none⟩ = false ∧ W.frozen? ⟨w.heap.size + 1, 2, none⟩ = false ∧ W.frozen? ⟨w.heap.size + 1, 3, none⟩ = false)) := fun W hW => by
    have h1 := HR0.out.below hW
    have h2 := HZ0.out.below hW
    exact ⟨⟨h1.cell 0 rfl, h1.cell 1 rfl, h1.cell 2 rfl, h1.cell 3 rfl⟩, ⟨h2.cell 0 rfl, h2.cell 1 rfl, h2.cell 2 rfl, h2.cell 3 rfl⟩, h2.free 0, h2.free 1, h2.free 2, h2.free 3⟩
  have HK : Hid (∀ W, Below (w.heap.size + 1) W0 W → (W.cell? ⟨w.heap.size, 0, none⟩ = some (.int .i64 r.st) ∧ W.cell? ⟨w.heap.size, 1, none⟩ = some (.string RS) ∧ W.cell? ⟨w.heap.size, 2, none⟩ = some (.slice af r.fs.length cf) ∧ W.cell? ⟨w.heap.size, 3, none⟩ = some (.string BD)) ∧ Below (w.heap.size + 1) W0 W) := fun W hW => by
    have h1 : Blk 24 W w.heap.size [.int .i64 r.st, .string RS, .slice af r.fs.length cf, .string BD] := (hW.block _ (Nat.lt_succ_self _)).trans HR0.out
    exact ⟨⟨h1.cell 0 rfl, h1.cell 1 rfl, h1.cell 2 rfl, h1.cell 3 rfl⟩, hW⟩
  have HBm : Hid (Below (w.heap.size + 1) W0 W0) := Below.refl _ _
  go_enter Tryz.func12, Tryz.ntmps12
  go_wp2_with fail
  rw [← HW0.out]
  go_region_held3 (fun W => (W.cell? ⟨w.heap.size, 0, none⟩ = some (.int .i64 r.st) ∧ W.cell? ⟨w.heap.size, 1, none⟩ = some (.string RS) ∧ W.cell? ⟨w.heap.size, 2, none⟩ = some (.slice af r.fs.length cf) ∧ W.cell? ⟨w.heap.size, 3, none⟩ = some (.string BD)) ∧ Below (w.heap.size + 1) W0 W)
    ((refine HK.out _ ?_; first | with_reducible exact HBm.out | with_reducible exact Below.drew HBm.out | ((repeat (with_reducible refine Below.setCell ?_ (by simp) _)); with_reducible exact HBm.out)))
    (first
      | (go_at_call 17; refine (plain12_any _ r.fs W0.drew (HF.out.below HB0.out.drew) hl).mono ?_; rintro e wS ⟨vS, rfl, hoS, hbS⟩; obtain ⟨a4, c4, rfl⟩ := ownF_form hoS; have HBn : Hid (Below W0.heap.size W0 wS) := bel_trans (Below.refl _ W0).drew hbS; have HBm : Hid (Below (w.heap.size + 1) W0 wS) := HBn.out.mono (by have := HS0.out; omega); have HO4 : Hid (OwnF 80 W0.heap.size (.slice a4 r.fs.length c4) r.fs wS) := own_up hoS (Nat.le_refl _); obtain ⟨_, ⟨d0, d1, d2, d3⟩, h0, h1, h2, h3⟩ := HX.out _ HBn.out; clear hoS hbS))
  all_goals
    go_wp2
    have hlt : w.heap.size + 1 < W0.heap.size := by have := HS0.out; omega
    have HBw : Hid (Below w.heap.size w wS) := HB0.out.trans (HBn.out.mono HB0.out.size)
    refine bodyPost_ret (v := .agg #[.int .i64 r.st, .string RS, .slice a4 r.fs.length c4, .string BD]) (by simp [results, Tryz.results12, go_sem, d0, d1, d2, d3]) rfl ?_
    exact ⟨_, rfl, own_up (own_low (own_low (own_low (own_low HO4.out hlt _) hlt _) hlt _) hlt _) HB0.out.size, (((HBw.out.setCell (by simp) _).setCell (by simp) _).setCell (by simp) _).setCell (by simp) _⟩
end Ms
end Go.Proofs.YtcelekfokbdmfaaGreatDoor
