import Derived.Test.YtdcfhnbagldilaaGreatDoorMsZ
import Derived.Test.YtdcfhnbagldilaaGreatDoorMgR
import Derived.Deep.RegionWith
import Derived.Test.YtdcfhnbagldilaaGreatDoorMgJ
import Derived.Test.YtdcfhnbagldilaaGreatDoorMgG
set_option linter.unusedVariables false
set_option linter.unusedSimpArgs false
set_option maxRecDepth 100000
namespace Go.Proofs.YtdcfhnbagldilaaGreatDoor
open Go.RowKit Go.Shelf
namespace Ms
open Oc Tg _root_.Go.Proofs.YtdcfhnbagldilaaGreatDoor.Fd _root_.Go.Proofs.YtdcfhnbagldilaaGreatDoor.Ck
def prnN (r : Rs) (m : Mn) : List UInt8 × Int :=
  if (headR r m).2 ≠ 0 then ([], (headR r m).2) else if 65536 < (headR r m).1.length then ([], 125) else if bdl m.me r.st = true then ((headR r m).1, 0) else ((headR r m).1 ++ r.bd, 0)
set_option maxHeartbeats 4000000 in
theorem Print_nc (r : Rs) (m : Mn) (hch : m.ch = false) (hn : i64 r.st) (hrl : r.rs.length ≤ 1048576) (hbl : r.bd.length ≤ 1048576) (hS : sumF r.fs ≤ 1048576) (vf vs vt : Value) (sa : Option Addr) (cs : Nat) (hvs : vs = .slice sa m.sz.length cs) (w : World) (hf : InF vf r.fs w) (ht : RdF vt m.tr w) (hp : Pow w) (tab : Tab w) :
    Calls Tryz.prog 11 #[.agg #[.int .i64 r.st, .string (str r.rs), vf, .string (str r.bd)], .agg #[.string (str m.me), .bool m.cl, .bool m.old, .bool m.ch, vs, vt]] w fun e w' => e = .returned (.tuple #[.string (str (prnN r m).1), .int .i64 (prnN r m).2]) ∧ Below w.heap.size w w' := by
  have HHd : Hid (∀ W, InF vf r.fs W → RdF vt m.tr W → Pow W → Tab W → Calls _ _ _ W _) := fun W h1 h2 h3 h4 => Head_any r m hn hrl hbl hS vf vs vt sa cs hvs W h1 h2 h3 h4
  have HBl : Hid (∀ W, Calls Tryz.prog 24 #[.string (str m.me), .int .i64 r.st] W fun e w' => e = .returned (.bool (bdl m.me r.st)) ∧ w' = W) := fun W => by
    have h := Bodyless_any (str m.me) r.st hn W
    rw [str_list] at h
    exact h
  have HIf : Hid (InF vf r.fs w) := hf
  have HTr : Hid (RdF vt m.tr w) := ht
  have HP : Hid (Pow w) := hp
  have HT : Hid (Tab w) := tab
  have HQ : Hid (prnN r m = if (headR r m).2 ≠ 0 then ([], (headR r m).2) else if 65536 < (headR r m).1.length then ([], 125) else if bdl m.me r.st = true then ((headR r m).1, 0) else ((headR r m).1 ++ r.bd, 0)) := rfl
  obtain ⟨af, cf, rfl, _⟩ := hf.1
  obtain ⟨ta, ct, rfl, _⟩ := ht
  subst hvs
  rw [hch] at HHd ⊢
  generalize prnN r m = R at *
  generalize bdl m.me r.st = b at *
  generalize headR r m = H at *
  obtain ⟨H1, H2⟩ := H
  dsimp only at HHd HQ
  have HBD : Hid (∀ l : List UInt8, str (l ++ r.bd) = str l ++ str r.bd) := fun l => (str_app l r.bd).symm
  have hbz : (str r.bd).size ≤ 1048576 := by rw [str_size]; exact hbl
  have hHz : (str H1).size = H1.length := str_size H1
  obtain ⟨HS, hHS⟩ : ∃ HS, HS = str H1 := ⟨_, rfl⟩
  have HHS : Hid (HS = str H1) := hHS
  rw [← hHS] at HHd hHz
  clear hHS
  generalize str r.bd = BD at *
  generalize str r.rs = RS at *
  generalize str m.me = ME at *
  obtain ⟨W0, hW0⟩ : ∃ W0, W0 = (w.alloc (.cells #[.int .i64 r.st, .string RS, .slice af r.fs.length cf, .string BD] 27)).alloc (.cells #[.string ME, .bool m.cl, .bool m.old, .bool false, .slice sa m.sz.length cs, .slice ta m.tr.length ct] 52) := ⟨_, rfl⟩
  have hb0 : Below w.heap.size w W0 := by rw [hW0]; exact ((Below.refl _ w).alloc (Nat.le_refl _) _).alloc (by simp) _
  have hm0 : Blk 52 W0 (w.heap.size + 1) [.string ME, .bool m.cl, .bool m.old, .bool false, .slice sa m.sz.length cs, .slice ta m.tr.length ct] := by
    rw [hW0]
    have h1 := heap_alloc_new (w.alloc (.cells #[.int .i64 r.st, .string RS, .slice af r.fs.length cf, .string BD] 27)) (.cells #[.string ME, .bool m.cl, .bool m.old, .bool false, .slice sa m.sz.length cs, .slice ta m.tr.length ct] 52)
    have e : (w.alloc (.cells #[.int .i64 r.st, .string RS, .slice af r.fs.length cf, .string BD] 27)).heap.size = w.heap.size + 1 := by simp
    rw [e] at h1
    exact h1
  have hr0 : Blk 27 W0 w.heap.size [.int .i64 r.st, .string RS, .slice af r.fs.length cf, .string BD] := by
    rw [hW0]
    exact Blk.below (heap_alloc_new w _) ((Below.refl _ _).alloc (Nat.le_refl _) _)
  have HB0 : Hid (Below w.heap.size w W0) := hb0
  have HM0 : Hid (Blk 52 W0 (w.heap.size + 1) [.string ME, .bool m.cl, .bool m.old, .bool false, .slice sa m.sz.length cs, .slice ta m.tr.length ct]) := hm0
  have HR0 : Hid (Blk 27 W0 w.heap.size [.int .i64 r.st, .string RS, .slice af r.fs.length cf, .string BD]) := hr0
  have HW0 : Hid (W0 = _) := hW0
  clear hb0 hm0 hr0 hW0 hf hp tab hch
  go_enter Tryz.func11, Tryz.ntmps11
  go_wp2_with fail
  rw [← HW0.out]
  refine (HHd.out _ (HIf.out.below HB0.out) (HTr.out.below HB0.out) (HP.out.below HB0.out (Nat.le_refl _)) (HT.out.below HB0.out (Nat.le_refl _))).mono ?_
  rintro e w1 ⟨rfl, hb1⟩
  have HB1 : Hid (Below W0.heap.size W0 w1) := hb1
  have HBw : Hid (Below w.heap.size w w1) := HB0.out.trans (hb1.mono HB0.out.size)
  clear hb1 HHd HW0
  by_cases hz : H2 = 0
  case neg =>
    have hz1 : (H2 != 0) = true := by simp [hz]
    have HQ2 : Hid (R = ([], H2)) := HQ.out.trans (if_pos hz)
    clear hz
    go_wp2
    go_ret2
    rw [HQ2.out]
    exact ⟨rfl, HBw.out⟩
  subst hz
  have HQa : Hid (R = _) := HQ.out.trans (if_neg (fun h => h rfl))
  have r0 : w1.cell? ⟨w.heap.size, 0, none⟩ = some (.int .i64 r.st) := (HR0.out.below HB1.out).cell 0 rfl
  have r3 : w1.cell? ⟨w.heap.size, 3, none⟩ = some (.string BD) := (HR0.out.below HB1.out).cell 3 rfl
  have m0 : w1.cell? ⟨w.heap.size + 1, 0, none⟩ = some (.string ME) := (HM0.out.below HB1.out).cell 0 rfl
  have m3 : w1.cell? ⟨w.heap.size + 1, 3, none⟩ = some (.bool false) := (HM0.out.below HB1.out).cell 3 rfl
  clear HQ
  have HHz : Hid (HS.size = H1.length) := hHz
  clear hHz
  by_cases hl : 65536 < H1.length
  · have hl' : (65536 : Int) < (HS.size : Int) := by have := HHz.out; omega
    have HQ2 : Hid (R = ([], 125)) := HQa.out.trans (if_pos hl)
    clear hl
    go_wp2
    go_ret2
    rw [HQ2.out]
    exact ⟨rfl, HBw.out⟩
  have hl' : ¬ (65536 : Int) < (HS.size : Int) := by have := HHz.out; omega
  have hl2 : HS.size ≤ 65536 := by have := HHz.out; omega
  have HQb : Hid (R = _) := HQa.out.trans (if_neg hl)
  clear HQa hl
  go_wp2_with fail
  refine (HBl.out _).mono ?_
  rintro e w2 ⟨rfl, hw2⟩
  rw [hw2]
  clear hw2
  cases b with
  | true =>
    have HQ2 : Hid (R = (H1, 0)) := HQb.out.trans (if_pos rfl)
    go_wp2
    go_ret2
    rw [HQ2.out]
    exact ⟨by rw [← HHS.out]; rfl, HBw.out⟩
  | false =>
    have HQ2 : Hid (R = (H1 ++ r.bd, 0)) := HQb.out.trans (if_neg (by simp))
    have t1 : HS.size + BD.size ≤ 9223372036854775807 := by omega
    go_wp2
    go_ret2
    rw [HQ2.out]
    exact ⟨by dsimp only; rw [HBD.out, ← HHS.out]; rfl, HBw.out⟩
end Ms
end Go.Proofs.YtdcfhnbagldilaaGreatDoor
set_option linter.unusedVariables false
set_option linter.unusedSimpArgs false
set_option maxRecDepth 100000
namespace Go.Proofs.YtdcfhnbagldilaaGreatDoor
open Go.RowKit Go.Shelf
namespace Ck
open Oc Tg _root_.Go.Proofs.YtdcfhnbagldilaaGreatDoor.Fd
def decR (most room fields : Int) (l : List UInt8) : List UInt8 × List Fl × Int × Int :=
  if most < 0 ∨ room < 0 ∨ fields < 0 then ([], [], 0, 1)
  else if (eat (new most room fields) l).2.err ≠ 0 then ([], [], (eat (new most room fields) l).1 - 1, (eat (new most room fields) l).2.err)
  else if (eat (new most room fields) l).2.done = false then ([], [], (eat (new most room fields) l).1, 105)
  else ((eat (new most room fields) l).2.body, (eat (new most room fields) l).2.tr, (eat (new most room fields) l).1, 0)
end Ck
end Go.Proofs.YtdcfhnbagldilaaGreatDoor
set_option linter.unusedVariables false
set_option linter.unusedSimpArgs false
set_option maxRecDepth 100000
namespace Go.Proofs.YtdcfhnbagldilaaGreatDoor
open Go.RowKit Go.Shelf
namespace Ck
open Oc Tg _root_.Go.Proofs.YtdcfhnbagldilaaGreatDoor.Fd
def digs : List UInt8 := [48, 49, 50, 51, 52, 53, 54, 55, 56, 57, 97, 98, 99, 100, 101, 102]
def hexV (c : UInt8) : Int := if hexB c then valI (c.toNat : Int) else -1
theorem hexV_all : ∀ n : Fin 256, hexV (UInt8.ofNat n.val) = match digs.findIdx? (· == lowB (UInt8.ofNat n.val)) with | some k => (k : Int) | none => -1 := by decide +kernel
theorem hexV_eq (c : UInt8) : hexV c = match digs.findIdx? (· == lowB c) with | some k => (k : Int) | none => -1 := by
  have h := hexV_all ⟨c.toNat, c.toNat_lt⟩
  simpa using h
theorem hexV_hit (c : UInt8) (k : Nat) (hk : k < 16) (h1 : digs.getD k 0 = lowB c) (h2 : ∀ j, j < k → digs.getD j 0 ≠ lowB c) : hexV c = k := by
  rw [hexV_eq]
  have : digs.findIdx? (· == lowB c) = some k := by
    rw [List.findIdx?_eq_some_iff_getElem]
    refine ⟨hk, ?_, fun j hj => ?_⟩
    · have : digs[k]'hk = digs.getD k 0 := by rw [List.getD_eq_getElem?_getD, List.getElem?_eq_getElem hk]; rfl
      rw [this, h1]
      simp
    · have hj16 : j < digs.length := Nat.lt_trans hj hk
      have : digs[j]'hj16 = digs.getD j 0 := by rw [List.getD_eq_getElem?_getD, List.getElem?_eq_getElem hj16]; rfl
      rw [this]
      simpa using h2 j hj
  rw [this]
theorem hexV_miss (c : UInt8) (h : ∀ j, j < 16 → digs.getD j 0 ≠ lowB c) : hexV c = -1 := by
  rw [hexV_eq]
  have : digs.findIdx? (· == lowB c) = none := by
    rw [List.findIdx?_eq_none_iff]
    intro x hx
    obtain ⟨j, hj, rfl⟩ := List.mem_iff_getElem.1 hx
    have := h j hj
    rw [List.getD_eq_getElem?_getD, List.getElem?_eq_getElem hj] at this
    simpa using this
  rw [this]
theorem dig_slice : ∀ k, k < 16 → (⟨#[48, 49, 50, 51, 52, 53, 54, 55, 56, 57, 97, 98, 99, 100, 101, 102]⟩ : ByteArray).extract k (k + 1) = str [digs.getD k 0] := fun k hk => match k, hk with
  | 0, _ => rfl
  | 1, _ => rfl
  | 2, _ => rfl
  | 3, _ => rfl
  | 4, _ => rfl
  | 5, _ => rfl
  | 6, _ => rfl
  | 7, _ => rfl
  | 8, _ => rfl
  | 9, _ => rfl
  | 10, _ => rfl
  | 11, _ => rfl
  | 12, _ => rfl
  | 13, _ => rfl
  | 14, _ => rfl
  | 15, _ => rfl
  | n + 16, h => absurd h (by omega)
set_option maxHeartbeats 2000000 in
theorem rhex_any (c : UInt8) (w : World) :
    Calls Tryz.prog 105 #[.int .u8 (c.toNat : Int)] w fun e w' => e = .returned (.int .i64 (hexV c)) ∧ Below w.heap.size w w' := by
  obtain ⟨x, hx⟩ : ∃ x, x = (c.toNat : Int) := ⟨_, rfl⟩
  have HX : Hid (x = (c.toNat : Int)) := hx
  rw [← hx]
  clear hx
  have HL : Hid (∀ w, Calls Tryz.prog 71 #[.string (str [c])] w fun e w' => e = .returned (.string (str [lowB c])) ∧ Below w.heap.size w w') := fun w => by
    have h := Fd.rLower_any (str [c]) (by rw [str_size]; simp [maxLen]) w
    unfold lowS at h
    rw [str_list] at h
    exact h
  go_enter Tryz.func105, Tryz.ntmps105
  go_wp2
  go_loopw [4] (fun i wr => ∃ k : Nat, k ≤ 16 ∧ i = .int .i64 k ∧ Hid (∀ j, j < k → digs.getD j 0 ≠ lowB c) ∧ Hid (Below w.heap.size w wr)) (fun i _ => 16 - (intOf i).toNat)
  case atStart => exact ⟨0, by omega, rfl, (fun j hj => by omega : ∀ j, j < 0 → _), Below.refl _ _⟩
  case round =>
    obtain ⟨k, hk, rfl, hno, hbl⟩ := hrel
    by_cases hlt : k < 16
    · have hcv : ∀ W : World, (convert 53 9 (.slice (some ⟨W.heap.size, 0, none⟩) 1 1)).run Tryz.prog (W.alloc (.cells #[.int .u8 x] 5)) = .ok (.string (str [c])) (W.alloc (.cells #[.int .u8 x] 5)) := fun W => own_back (own_one W x c HX.out)
      have hcv2 : (convert 53 9 (.slice (some ⟨wr.heap.size, 0, none⟩) 1 1)).run Tryz.prog (wr.alloc (.cells #[.int .u8 x] 5)).drew = .ok (.string (str [c])) (wr.alloc (.cells #[.int .u8 x] 5)).drew := own_back (B := wr.heap.size) ((But.refl [] _).drew.owns (own_one wr x c HX.out) (fun _ _ e => by cases e))
      have hwk : IntKind.i64.wrap ((k : Int) + 1) = (k : Int) + 1 := by rw [IntKind.wrap_i64]; omega
      by_cases hit : digs.getD k 0 = lowB c
      · have q : ((str [lowB c]).toList == ((⟨#[48, 49, 50, 51, 52, 53, 54, 55, 56, 57, 97, 98, 99, 100, 101, 102]⟩ : ByteArray).extract k (k + 1)).toList) = true := by
          rw [dig_slice k hlt, hit]; simp
        have HH : Hid (hexV c = k) := hexV_hit c k hlt hit hno.out
        go_wp2_with fail
        go_region_with (go_at_call 71; refine (HL.out _).mono ?_; rintro e w2 ⟨rfl, hb2⟩; have HB2 : Hid (Below w.heap.size w w2) := bel_trans hbl.out (bel_trans ((Below.refl _ wr).alloc (Nat.le_refl _) _).drew hb2); clear hb2)
        all_goals
          go_simp
          go_wp2
          go_ret
          exact ⟨ret_int (by rw [HH.out]), HB2.out⟩
      · have q : ((str [lowB c]).toList == ((⟨#[48, 49, 50, 51, 52, 53, 54, 55, 56, 57, 97, 98, 99, 100, 101, 102]⟩ : ByteArray).extract k (k + 1)).toList) = false := by
          rw [dig_slice k hlt, eq_toList, decide_eq_false_iff_not]
          intro e
          have e2 := str_inj e
          injection e2 with e2 _
          exact hit e2.symm
        have HN : Hid (∀ j, j < k + 1 → digs.getD j 0 ≠ lowB c) := (fun j hj => by
          by_cases hjk : j = k
          · subst hjk; exact hit
          · exact hno.out j (by omega) : ∀ j, j < k + 1 → digs.getD j 0 ≠ lowB c)
        go_wp2_with fail
        go_region_with (go_at_call 71; refine (HL.out _).mono ?_; rintro e w2 ⟨rfl, hb2⟩; have HB2 : Hid (Below w.heap.size w w2) := bel_trans hbl.out (bel_trans ((Below.refl _ wr).alloc (Nat.le_refl _) _).drew hb2); clear hb2)
        all_goals
          go_simp
          go_wp2
          go_roundw
          case rel => exact ⟨k + 1, by omega, by go_num, HN, HB2.out⟩
          case measure => simp [intOf]; omega
    · have HH : Hid (hexV c = -1) := hexV_miss c (fun j hj => hno.out j (by omega))
      go_wp2
      go_ret
      exact ⟨ret_int (by rw [HH.out]), hbl.out⟩
end Ck
end Go.Proofs.YtdcfhnbagldilaaGreatDoor
set_option linter.unusedVariables false
set_option linter.unusedSimpArgs false
set_option maxRecDepth 100000
namespace Go.Proofs.YtdcfhnbagldilaaGreatDoor
open Go.RowKit Go.Shelf
namespace Ck
open Oc Tg _root_.Go.Proofs.YtdcfhnbagldilaaGreatDoor.Fd
theorem bl_cons (c : UInt8) (l : List UInt8) : bl (c :: l) = if blankB c then bl l + 1 else 0 := by
  unfold bl
  rw [List.takeWhile_cons]
  split <;> simp
theorem tok_cons (c : UInt8) (l : List UInt8) : tokLen (c :: l) = if tokB c then tokLen l + 1 else 0 := by
  unfold tokLen
  rw [List.takeWhile_cons]
  split <;> simp
set_option maxHeartbeats 1000000 in
theorem rpast_any (s : ByteArray) (hs : s.size ≤ 4000000) (a : Nat) (ha : a ≤ s.size) (w : World) :
    Calls Tryz.prog 125 #[.string s, .int .i64 a] w fun e w' => e = .returned (.int .i64 ((a + bl (s.data.toList.drop a) : Nat) : Int)) ∧ w' = w := by
  go_enter Tryz.func125, Tryz.ntmps125
  go_wp2
  go_loop [1] (fun v => ∃ k : Nat, k ≤ s.size ∧ v = .int .i64 k ∧ Hid (a + bl (s.data.toList.drop a) = k + bl (s.data.toList.drop k))) (fun v => s.size - (intOf v).toNat)
  case atStart => exact ⟨a, ha, rfl, rfl⟩
  case round =>
    obtain ⟨k, hk, rfl, he⟩ := hrel
    by_cases hlt : k < s.size
    · have hby : ((s[k].toNat : Nat) : Int) = byt s k := byt_at s k hlt
      obtain ⟨b0, b1⟩ := byt_bd s k
      have HD : Hid (s.data.toList.drop k = s.data.toList.getD k 0 :: s.data.toList.drop (k + 1)) := drop_cons _ k (by rw [size_list]; exact hlt)
      have HB : Hid (blankB (s.data.toList.getD k 0) = blankI (byt s k)) := rfl
      cases hbk : blankI (byt s k) with
      | true =>
        have HN : Hid (a + bl (s.data.toList.drop a) = (k + 1) + bl (s.data.toList.drop (k + 1))) := by
          show _ = _
          rw [he.out, HD.out, bl_cons, HB.out, hbk]
          simp; omega
        go_wp2_with fail
        refine (rBlank_any (byt s k) b0 (by omega) _).mono ?_
        rintro e w2 ⟨rfl, hw⟩
        rw [hw, hbk]
        go_wp2
        go_round
        case rel => exact ⟨k + 1, by omega, by go_num, HN⟩
        case measure => simp [intOf]; omega
      | false =>
        have HN : Hid (a + bl (s.data.toList.drop a) = k) := by
          show _ = _
          rw [he.out, HD.out, bl_cons, HB.out, hbk]
          simp
        go_wp2_with fail
        refine (rBlank_any (byt s k) b0 (by omega) _).mono ?_
        rintro e w2 ⟨rfl, hw⟩
        rw [hw, hbk]
        go_wp2
        go_ret
        exact ⟨ret_int (by have := HN.out; omega), rfl⟩
    · have HN : Hid (a + bl (s.data.toList.drop a) = k) := by
        show _ = _
        rw [he.out, List.drop_eq_nil_of_le (by rw [size_list]; omega)]
        rfl
      go_wp2
      go_ret
      exact ⟨ret_int (by have := HN.out; omega), rfl⟩
set_option maxHeartbeats 1000000 in
theorem rsign_any (s : ByteArray) (hs : s.size ≤ 4000000) (a : Nat) (ha : a ≤ s.size) (w : World) :
    Calls Tryz.prog 126 #[.string s, .int .i64 a] w fun e w' => e = .returned (.int .i64 ((tokLen (s.data.toList.drop a) : Nat) : Int)) ∧ w' = w := by
  go_enter Tryz.func126, Tryz.ntmps126
  go_wp2
  go_loop [5] (fun v => ∃ k : Nat, a + k ≤ s.size ∧ v = .int .i64 k ∧ Hid (tokLen (s.data.toList.drop a) = k + tokLen (s.data.toList.drop (a + k)))) (fun v => s.size - (intOf v).toNat)
  case atStart => exact ⟨0, ha, rfl, (by simp : tokLen (s.data.toList.drop a) = 0 + tokLen (s.data.toList.drop (a + 0)))⟩
  case round =>
    obtain ⟨k, hk, rfl, he⟩ := hrel
    by_cases hlt : a + k < s.size
    · have hlt' : (a : Int) + (k : Int) < (s.size : Int) := by omega
      have hnn : (0 : Int) ≤ (a : Int) + (k : Int) := by omega
      have htn : ((a : Int) + (k : Int)).toNat = a + k := by omega
      have hby : ((s[a + k].toNat : Nat) : Int) = byt s (a + k) := byt_at s (a + k) hlt
      obtain ⟨b0, b1⟩ := byt_bd s (a + k)
      have HD : Hid (s.data.toList.drop (a + k) = s.data.toList.getD (a + k) 0 :: s.data.toList.drop (a + k + 1)) := drop_cons _ (a + k) (by rw [size_list]; exact hlt)
      have HB : Hid (tokB (s.data.toList.getD (a + k) 0) = tokI (byt s (a + k))) := rfl
      cases hbk : tokI (byt s (a + k)) with
      | true =>
        have HN : Hid (tokLen (s.data.toList.drop a) = (k + 1) + tokLen (s.data.toList.drop (a + (k + 1)))) := by
          show _ = _
          rw [he.out, HD.out, tok_cons, HB.out, hbk, show a + (k + 1) = a + k + 1 by omega]
          simp; omega
        go_wp2_with fail
        refine (rSign_any (byt s (a + k)) b0 (by omega) _).mono ?_
        rintro e w2 ⟨rfl, hw⟩
        rw [hw, hbk]
        go_wp2
        go_round
        case rel => exact ⟨k + 1, by omega, by go_num, HN⟩
        case measure => simp [intOf]; omega
      | false =>
        have HN : Hid (tokLen (s.data.toList.drop a) = k) := by
          show _ = _
          rw [he.out, HD.out, tok_cons, HB.out, hbk]
          simp
        go_wp2_with fail
        refine (rSign_any (byt s (a + k)) b0 (by omega) _).mono ?_
        rintro e w2 ⟨rfl, hw⟩
        rw [hw, hbk]
        go_wp2
        go_ret
        exact ⟨ret_int (by have := HN.out; omega), rfl⟩
    · have HN : Hid (tokLen (s.data.toList.drop a) = k) := by
        show _ = _
        rw [he.out, List.drop_eq_nil_of_le (by rw [size_list]; omega)]
        rfl
      have hlt' : ¬ ((a : Int) + (k : Int) < (s.size : Int)) := by omega
      go_wp2
      go_ret
      exact ⟨ret_int (by have := HN.out; omega), rfl⟩
end Ck
end Go.Proofs.YtdcfhnbagldilaaGreatDoor
set_option linter.unusedVariables false
set_option linter.unusedSimpArgs false
namespace Go.Proofs.YtdcfhnbagldilaaGreatDoor
open Go.RowKit Go.Shelf
namespace Oc
def nth (t : List Prm) (j : Nat) : Prm := t.getD j ([], [], false)
def RdP (v : Value) (t : List Prm) (w : World) : Prop :=
  ∃ a c, v = .slice a t.length c ∧ (t = [] ∨ ∃ g o, a = some ⟨g, o, none⟩ ∧ t.length ≤ c ∧ ∀ j, j < t.length → w.cell? ⟨g, o + j * 3, none⟩ = some (.string (str (nth t j).1)) ∧ w.cell? ⟨g, o + j * 3 + 1, none⟩ = some (.string (str (nth t j).2.1)) ∧ w.cell? ⟨g, o + j * 3 + 2, none⟩ = some (.bool (nth t j).2.2))
theorem encP_at : ∀ (t : List Prm) (j : Nat), j < t.length → (encP t)[j * 3]? = some (.string (str (nth t j).1)) ∧ (encP t)[j * 3 + 1]? = some (.string (str (nth t j).2.1)) ∧ (encP t)[j * 3 + 2]? = some (.bool (nth t j).2.2)
  | [], j, h => by simp at h
  | p :: t, 0, _ => ⟨rfl, rfl, rfl⟩
  | p :: t, j + 1, h => by
    have ih := encP_at t j (by simpa using h)
    have e : encP (p :: t) = [.string (str p.1), .string (str p.2.1), .bool p.2.2] ++ encP t := rfl
    rw [e]
    have n : nth (p :: t) (j + 1) = nth t j := by unfold nth; simp
    rw [n, show (j + 1) * 3 = j * 3 + 3 by omega, show j * 3 + 3 + 1 = (j * 3 + 1) + 3 by omega, show j * 3 + 3 + 2 = (j * 3 + 2) + 3 by omega]
    exact ih
theorem OwnP.rd {T B : Nat} {v : Value} {t : List Prm} {w : World} (h : OwnP T B v t w) : RdP v t w := by
  have hall := h
  rcases h.2 with ⟨rfl, h0⟩ | ⟨g, cap, cur, rfl, _, hg, hn, _⟩
  · exact ⟨none, 0, by rw [h0], .inl (List.length_eq_zero_iff.1 h0)⟩
  · refine ⟨_, _, rfl, .inr ⟨g, 0, rfl, by omega, fun j hj => ?_⟩⟩
    obtain ⟨e0, e1, e2⟩ := encP_at t j hj
    have ea : ∀ k, Addr.add ⟨g, 0, none⟩ k = ⟨g, 0 + k, none⟩ := fun k => by unfold Addr.add; split <;> simp_all
    have c0 := World.ownsRow.cells hall (g := g) rfl _ _ e0
    have c1 := World.ownsRow.cells hall (g := g) rfl _ _ e1
    have c2 := World.ownsRow.cells hall (g := g) rfl _ _ e2
    rw [ea] at c0 c1 c2
    exact ⟨c0, c1, c2⟩
theorem RdP.below {v : Value} {t : List Prm} {w w' : World} (h : RdP v t w) (b : Below w.heap.size w w') : RdP v t w' := by
  obtain ⟨a, c, rfl, h⟩ := h
  refine ⟨a, c, rfl, ?_⟩
  rcases h with h | ⟨g, o, e, hc, hcell⟩
  · exact .inl h
  · refine .inr ⟨g, o, e, hc, fun j hj => ?_⟩
    obtain ⟨h1, h2, h3⟩ := hcell j hj
    rw [b.cell (p := ⟨g, o + j * 3, none⟩) (World.block_lt_of_cell? w _ h1), b.cell (p := ⟨g, o + j * 3 + 1, none⟩) (World.block_lt_of_cell? w _ h2), b.cell (p := ⟨g, o + j * 3 + 2, none⟩) (World.block_lt_of_cell? w _ h3)]
    exact ⟨h1, h2, h3⟩
end Oc
end Go.Proofs.YtdcfhnbagldilaaGreatDoor
