/-
  HandleUpgrades (written by mkwhs.py).
-/
import Derived.Test.YtlfobdjbnpgchaaGreatDoorHsL
import Derived.Test.YtlfobdjbnpgchaaGreatDoorMgN
import Derived.Deep.RegionLaw
set_option linter.unusedVariables false
set_option linter.unusedSimpArgs false
set_option maxRecDepth 100000
namespace Go.Proofs.YtlfobdjbnpgchaaGreatDoor
open Go.RowKit Go.Shelf
namespace Hn
open Oc Tg _root_.Go.Proofs.YtlfobdjbnpgchaaGreatDoor.Fd _root_.Go.Proofs.YtlfobdjbnpgchaaGreatDoor.Ck _root_.Go.Proofs.YtlfobdjbnpgchaaGreatDoor.Ms

theorem rem4 (m : Int) : 0 ≤ (m.tmod 4 + 4).tmod 4 ∧ (m.tmod 4 + 4).tmod 4 ≤ 3 := by
  have h : -4 < m.tmod 4 ∧ m.tmod 4 < 4 := by
    rcases Int.le_total 0 m with h | h
    · rw [Int.tmod_eq_emod_of_nonneg h]; omega
    · have e : m = -(-m) := by omega
      rw [e, Int.neg_tmod, Int.tmod_eq_emod_of_nonneg (by omega)]; omega
  rw [Int.tmod_eq_emod_of_nonneg (by omega)]
  omega

theorem field_st (st : Int) (a : Option Addr) (n c : Nat) (bd : ByteArray) (w : World) : (Instr.field 39 (.agg #[.int .i64 st, .string ⟨#[]⟩, .slice a n c, .string bd]) 0).run Tryz.prog w = .ok (.int .i64 st) w := by kernel_rfl
theorem rem4b (m : Int) : -9223372036854775808 ≤ m.tmod 4 + 4 ∧ m.tmod 4 + 4 ≤ 9223372036854775807 := by
  rcases Int.le_total 0 m with h | h
  · rw [Int.tmod_eq_emod_of_nonneg h]; omega
  · have e : m = -(-m) := by omega
    rw [e, Int.neg_tmod, Int.tmod_eq_emod_of_nonneg (by omega)]; omega

set_option maxHeartbeats 8000000 in
theorem walk_HandleUpgrades (s : ByteArray) (hs : s.size ≤ 1048576) (m : Int) (hm : i64 m) (w : World) (tb : Tab w) (hp : Pow w) :
    Calls Tryz.prog 5 #[.string s, .int .i64 m] w fun e w' => e = .returned (.bool true) ∧ Below w.heap.size w w' := by
  have HA : Hid (∀ W, Calls Tryz.prog 6 #[] W fun e w' => e = .returned (.bool true) ∧ Below W.heap.size W w') := fun W => awake_any W
  have HTb : Hid (∀ W, Below w.heap.size w W → Tab W) := fun W h => tb.below h (Nat.le_refl _)
  have HPw : Hid (∀ W, Below w.heap.size w W → Pow W) := fun W h => hp.below h (Nat.le_refl _)
  obtain ⟨k, hk⟩ : ∃ k : List UInt8, k = s.data.toList := ⟨_, rfl⟩
  have hsk : s = str k := by rw [hk]; cases s; simp [str]
  have hkl : k.length ≤ 1048576 := by rw [hk, Array.length_toList]; exact hs
  clear hk hs tb hp
  subst hsk
  have HS1 : Hid (∀ a c W, InF (.slice a 4 c) (lF keyS) W → Below w.heap.size w W → Calls Tryz.prog 17 #[.agg #[.int .i64 9, .string ⟨#[]⟩, .string ⟨#[]⟩, .string ⟨#[]⟩, .int .i64 0, .int .i64 0], .agg #[.string ⟨#[71, 69, 84]⟩, .string ⟨#[47]⟩, .int .i64 1, .int .i64 1, .slice a 4 c, .string ⟨#[]⟩, .slice none 0 0, .int .i64 0, .string ⟨#[]⟩, .int .i64 0, .string ⟨#[]⟩, .string ⟨#[]⟩, .bool false, .slice none 0 0, .int .i64 0], .pointer none] W fun e w' => ∃ a c, e = .returned (.agg #[.int .i64 101, .string ⟨#[]⟩, .slice a 3 c, .string ⟨#[]⟩]) ∧ OwnF 36 W.heap.size (.slice a 3 c) [(upN, wsK), (coN, ugV), (accN, [115, 51, 112, 80, 76, 77, 66, 105, 84, 120, 97, 81, 57, 107, 89, 71, 122, 122, 104, 90, 82, 98, 75, 43, 120, 79, 111, 61])] w' ∧ Below W.heap.size W w') := fun a c W h1 h2 => by
    refine (Answer_socket a c (lF keyS) (sum_l keyS (by decide)) W h1 (HTb.out W h2) (HPw.out W h2)).mono ?_
    rintro e w' ⟨a2, n2, c2, bd, rfl, hf, hb⟩
    obtain ⟨rfl, rfl, ho⟩ := hf sock_s
    rw [sock_s]
    rw [only_l, acc_sample] at ho
    exact ⟨a2, c2, rfl, ho, hb⟩
  obtain ⟨nn, hnn⟩ : ∃ nn : Nat, (nn : Int) = (m.tmod 4 + 4).tmod 4 := ⟨((m.tmod 4 + 4).tmod 4).toNat, Int.toNat_of_nonneg (rem4 m).1⟩
  have hn3 : nn ≤ 3 := by have := (rem4 m).2; omega
  have HS2 : Hid (∀ a c W, InF (.slice a 3 c) (cut nn) W → Below w.heap.size w W → Calls Tryz.prog 17 #[.agg #[.int .i64 9, .string ⟨#[]⟩, .string ⟨#[]⟩, .string ⟨#[]⟩, .int .i64 0, .int .i64 0], .agg #[.string ⟨#[71, 69, 84]⟩, .string ⟨#[47]⟩, .int .i64 1, .int .i64 1, .slice a 3 c, .string ⟨#[]⟩, .slice none 0 0, .int .i64 0, .string ⟨#[]⟩, .int .i64 0, .string ⟨#[]⟩, .string ⟨#[]⟩, .bool false, .slice none 0 0, .int .i64 0], .pointer none] W fun e w' => ∃ st a n c bd, e = .returned (.agg #[.int .i64 st, .string ⟨#[]⟩, .slice a n c, .string bd]) ∧ ¬ (st < 400) ∧ Below W.heap.size W w') := fun a c W h1 h2 => by
    have hl := cut_len nn hn3
    have := Answer_socket a c (cut nn) (sum_cut nn hn3) W (by rw [hl]; exact h1) (HTb.out W h2) (HPw.out W h2)
    rw [hl] at this
    refine this.mono ?_
    rintro e w' ⟨a2, n2, c2, bd, rfl, hf, hb⟩
    exact ⟨_, _, _, _, bd, rfl, by rcases sock_cut nn hn3 with h | h <;> rw [h] <;> decide, hb⟩
  have HS3 : Hid (∀ a c W, InF (.slice a 4 c) (lF k) W → Below w.heap.size w W → Calls Tryz.prog 17 #[.agg #[.int .i64 9, .string ⟨#[]⟩, .string ⟨#[]⟩, .string ⟨#[]⟩, .int .i64 0, .int .i64 0], .agg #[.string ⟨#[71, 69, 84]⟩, .string ⟨#[47]⟩, .int .i64 1, .int .i64 1, .slice a 4 c, .string ⟨#[]⟩, .slice none 0 0, .int .i64 0, .string ⟨#[]⟩, .int .i64 0, .string ⟨#[]⟩, .string ⟨#[]⟩, .bool false, .slice none 0 0, .int .i64 0], .pointer none] W fun e w' => (∃ a c X, e = .returned (.agg #[.int .i64 101, .string ⟨#[]⟩, .slice a 3 c, .string ⟨#[]⟩]) ∧ OwnF 36 W.heap.size (.slice a 3 c) [(upN, wsK), (coN, ugV), (accN, X)] w' ∧ X.length = 28 ∧ Below W.heap.size W w') ∨ (∃ a n c bd, e = .returned (.agg #[.int .i64 400, .string ⟨#[]⟩, .slice a n c, .string bd]) ∧ Below W.heap.size W w')) := fun a c W h1 h2 => by
    refine (Answer_socket a c (lF k) (sum_l k hkl) W h1 (HTb.out W h2) (HPw.out W h2)).mono ?_
    rintro e w' ⟨a2, n2, c2, bd, rfl, hf, hb⟩
    rcases sock_k k with ⟨h, hl⟩ | h
    · obtain ⟨rfl, rfl, ho⟩ := hf h
      rw [h]
      rw [only_l] at ho
      exact .inl ⟨a2, c2, _, rfl, ho, hl, hb⟩
    · rw [h]
      exact .inr ⟨_, _, _, bd, rfl, hb⟩
  clear HTb HPw hkl
  go_enter Tryz.func5, Tryz.ntmps5
  go_wp2_with fail
  refine (HA.out _).mono ?_
  rintro e w1 ⟨rfl, hb1⟩
  obtain ⟨w2, hw2⟩ : ∃ w2, w2 = w1.alloc (.cells #[.string ⟨#[117, 112, 103, 114, 97, 100, 101]⟩, .string ⟨#[97, 44, 32, 87, 101, 98, 83, 111, 99, 107, 101, 116]⟩, .string ⟨#[67, 79, 78, 78, 69, 67, 84, 73, 79, 78]⟩, .string ⟨#[107, 101, 101, 112, 45, 97, 108, 105, 118, 101, 44, 32, 85, 112, 103, 114, 97, 100, 101]⟩, .string ⟨#[115, 101, 99, 45, 119, 101, 98, 115, 111, 99, 107, 101, 116, 45, 118, 101, 114, 115, 105, 111, 110]⟩, .string ⟨#[49, 51]⟩, .string ⟨#[83, 101, 99, 45, 87, 101, 98, 83, 111, 99, 107, 101, 116, 45, 75, 101, 121]⟩, .string ⟨#[100, 71, 104, 108, 73, 72, 78, 104, 98, 88, 66, 115, 90, 83, 66, 117, 98, 50, 53, 106, 90, 81, 61, 61]⟩] 36) := ⟨_, rfl⟩
  have hb2 : Below w1.heap.size w1 w2 := by rw [hw2]; exact (Below.refl _ w1).alloc (Nat.le_refl _) _
  have hs2 : w2.heap.size = w1.heap.size + 1 := by rw [hw2]; simp
  have hL2 : Blk 36 w2 w1.heap.size (cL (str keyS)) := by rw [hw2]; exact heap_alloc_new w1 _
  obtain ⟨w3, hw3⟩ : ∃ w3, w3 = w2.alloc (.cells #[] 36) := ⟨_, rfl⟩
  have hb3 : Below w2.heap.size w2 w3 := by rw [hw3]; exact (Below.refl _ w2).alloc (Nat.le_refl _) _
  have HO3 : Hid (OwnF 36 w2.heap.size (.slice (some ⟨w1.heap.size + 1, 0, none⟩) 0 0) [] w3) := (by rw [hw3, ← hs2]; exact ownF_empty 36 w2 (Nat.le_refl _) : OwnF _ _ _ _ _)
  have HL3 : Hid (Blk 36 w3 w1.heap.size (cL (str keyS))) := (hL2.below hb3 : Blk _ _ _ _)
  have HI3 : Hid (InF (.slice (some ⟨w1.heap.size, 0, none⟩) 4 4) (lF keyS) w3) := (in_l keyS HL3.out : InF _ _ _)
  have HB2 : Hid (Below w.heap.size w w2) := (bel_tr hb1 hb2 hb1.size : Below _ _ _)
  have HB3 : Hid (Below w.heap.size w w3) := (bel_tr HB2.out hb3 HB2.out.size : Below _ _ _)
  have HZ3 : Hid (w2.heap.size ≤ w3.heap.size) := hb3.size
  have HL12 : Hid (w1.heap.size < w2.heap.size) := (by omega : _ < _)
  have HL1 : Hid (w.heap.size ≤ w1.heap.size) := hb1.size
  have HW2 : Hid (w2 = _) := hw2
  have HW3 : Hid (w3 = _) := hw3
  clear hw2 hw3 hb1 hb2 hb3 hs2 hL2 HA
  go_wp2_with (at_builtin; go_must (rw [← HW2.out, ← HW3.out]; refine wp_appFs 36 34 infoF Tryz.underlying34 rfl (.tmp 17) (.tmp 18) rfl w2.heap.size _ _ [] (lF keyS) rfl HO3.out rfl HI3.out (by decide) HZ3.out ?_); intro v4 w4 o4 b4; obtain ⟨fa, fc, e4⟩ := ownF_form o4; have e4 : v4 = .slice fa 4 fc := e4; subst e4; have HO4 : Hid (OwnF 36 w2.heap.size (.slice fa 4 fc) (lF keyS) w4) := (o4 : OwnF _ _ _ _ _); have HB4 : Hid (Below w.heap.size w w4) := (HB3.out.trans (b4.mono HB2.out.size) : Below _ _ _); have HL4 : Hid (Blk 36 w4 w1.heap.size (cL (str keyS))) := (HL3.out.low b4 HL12.out : Blk _ _ _ _); have HLA : Hid (w1.heap.size < w4.heap.size) := (Nat.lt_of_lt_of_le HL12.out (Nat.le_trans HZ3.out b4.size) : _ < _); clear o4 b4)
  obtain ⟨wA, hwA⟩ : ∃ wA, wA = w4.alloc (.cells #[.string ⟨#[71, 69, 84]⟩, .string ⟨#[47]⟩, .int .i64 1, .int .i64 1, .slice fa 4 fc, .string ⟨#[]⟩, .slice none 0 0, .int .i64 0, .string ⟨#[]⟩, .int .i64 0, .string ⟨#[]⟩, .string ⟨#[]⟩, .bool false, .slice none 0 0, .int .i64 0] 59) := ⟨_, rfl⟩
  have hbA : Below w4.heap.size w4 wA := by rw [hwA]; exact (Below.refl _ w4).alloc (Nat.le_refl _) _
  have hsA : wA.heap.size = w4.heap.size + 1 := by rw [hwA]; simp
  have hA : Blk 59 wA w4.heap.size [.string ⟨#[71, 69, 84]⟩, .string ⟨#[47]⟩, .int .i64 1, .int .i64 1, .slice fa 4 fc, .string ⟨#[]⟩, .slice none 0 0, .int .i64 0, .string ⟨#[]⟩, .int .i64 0, .string ⟨#[]⟩, .string ⟨#[]⟩, .bool false, .slice none 0 0, .int .i64 0] := by rw [hwA]; exact heap_alloc_new w4 _
  obtain ⟨wH, hwH⟩ : ∃ wH, wH = wA.alloc (.cells #[.int .i64 9, .string ⟨#[]⟩, .string ⟨#[]⟩, .string ⟨#[]⟩, .int .i64 0, .int .i64 0] 61) := ⟨_, rfl⟩
  have hbH : Below wA.heap.size wA wH := by rw [hwH]; exact (Below.refl _ wA).alloc (Nat.le_refl _) _
  have HHH : Hid (Blk 61 wH (w4.heap.size + 1) [.int .i64 9, .string ⟨#[]⟩, .string ⟨#[]⟩, .string ⟨#[]⟩, .int .i64 0, .int .i64 0]) := (by rw [hwH, ← hsA]; exact heap_alloc_new wA _ : Blk _ _ _ _)
  have HAH : Hid (Blk 59 wH w4.heap.size [.string ⟨#[71, 69, 84]⟩, .string ⟨#[47]⟩, .int .i64 1, .int .i64 1, .slice fa 4 fc, .string ⟨#[]⟩, .slice none 0 0, .int .i64 0, .string ⟨#[]⟩, .int .i64 0, .string ⟨#[]⟩, .string ⟨#[]⟩, .bool false, .slice none 0 0, .int .i64 0]) := (hA.below hbH : Blk _ _ _ _)
  have hb4H : Below w4.heap.size w4 wH := bel_tr hbA hbH hbA.size
  have HLH : Hid (Blk 36 wH w1.heap.size (cL (str keyS))) := (HL4.out.below hb4H : Blk _ _ _ _)
  have HIH : Hid (InF (.slice fa 4 fc) (lF keyS) wH) := (HO4.out.inF.below hb4H : InF _ _ _)
  have HBH : Hid (Below w.heap.size w wH) := (bel_tr HB4.out hb4H HB4.out.size : Below _ _ _)
  have HS4 : Hid (w.heap.size ≤ w4.heap.size) := HB4.out.size
  rw [← hwA, ← hwH]
  clear hbA hbH hb4H hsA hA hwA hwH HO4 HL4 HB4
  refine (HS1.out _ _ _ HIH.out HBH.out).mono ?_
  rintro e w7 ⟨a, c, rfl, ho, hb7⟩
  generalize hg4 : w4.heap.size = gA at *
  generalize hg1 : w1.heap.size = gL at *
  have HGR : Hid (gA + 1 < w7.heap.size) := (Nat.lt_of_lt_of_le HHH.out.lt hb7.size : _ < _)
  have HA7 : Hid (Blk 59 w7 gA [.string ⟨#[71, 69, 84]⟩, .string ⟨#[47]⟩, .int .i64 1, .int .i64 1, .slice fa 4 fc, .string ⟨#[]⟩, .slice none 0 0, .int .i64 0, .string ⟨#[]⟩, .int .i64 0, .string ⟨#[]⟩, .string ⟨#[]⟩, .bool false, .slice none 0 0, .int .i64 0]) := HAH.out.below hb7
  have HH7 : Hid (Blk 61 w7 (gA + 1) [.int .i64 9, .string ⟨#[]⟩, .string ⟨#[]⟩, .string ⟨#[]⟩, .int .i64 0, .int .i64 0]) := HHH.out.below hb7
  have HL7 : Hid (Blk 36 w7 gL (cL (str keyS))) := HLH.out.below hb7
  have HB7 : Hid (Below w.heap.size w w7) := bel_tr HBH.out hb7 HBH.out.size
  obtain ⟨w8, hw8⟩ : ∃ w8, w8 = w7.alloc (.cells #[.int .i64 101, .string ⟨#[]⟩, .slice a 3 c, .string ⟨#[]⟩] 39) := ⟨_, rfl⟩
  have hb8 : Below w7.heap.size w7 w8 := by rw [hw8]; exact (Below.refl _ w7).alloc (Nat.le_refl _) _
  have HA8 : Hid (Blk 59 w8 gA [.string ⟨#[71, 69, 84]⟩, .string ⟨#[47]⟩, .int .i64 1, .int .i64 1, .slice fa 4 fc, .string ⟨#[]⟩, .slice none 0 0, .int .i64 0, .string ⟨#[]⟩, .int .i64 0, .string ⟨#[]⟩, .string ⟨#[]⟩, .bool false, .slice none 0 0, .int .i64 0]) := HA7.out.below hb8
  have HH8 : Hid (Blk 61 w8 (gA + 1) [.int .i64 9, .string ⟨#[]⟩, .string ⟨#[]⟩, .string ⟨#[]⟩, .int .i64 0, .int .i64 0]) := HH7.out.below hb8
  have HL8 : Hid (Blk 36 w8 gL (cL (str keyS))) := HL7.out.below hb8
  have HB8 : Hid (Below w.heap.size w w8) := bel_tr HB7.out hb8 HB7.out.size
  have HR8 : Hid (Blk 39 w8 w7.heap.size [.int .i64 101, .string ⟨#[]⟩, .slice a 3 c, .string ⟨#[]⟩]) := (by rw [hw8]; exact heap_alloc_new w7 _ : Blk _ _ _ _)
  have hr7 : w.heap.size ≤ w7.heap.size := HB7.out.size
  obtain ⟨a', c', e', hcs⟩ := (OwnF.rd (ho.below hb8) : RdF _ _ _)
  injection e' with e1 e0 e2
  clear e0
  subst e1 e2
  rcases hcs with h | ⟨g, o, rfl, hlc, hcell⟩
  · cases h
  obtain ⟨p0, px⟩ := hcell 2 (by simp)
  have p1 : w8.cell? ⟨g, o + 5, none⟩ = some (.string ⟨#[115, 51, 112, 80, 76, 77, 66, 105, 84, 120, 97, 81, 57, 107, 89, 71, 122, 122, 104, 90, 82, 98, 75, 43, 120, 79, 111, 61]⟩) := px
  have HW8 : Hid (w7.alloc (.cells #[.int .i64 101, .string ⟨#[]⟩, .slice (some ⟨g, o, none⟩) 3 c, .string ⟨#[]⟩] 39) = w8) := hw8.symm
  clear ho hb7 hb8 hw8 p0 px hcell hlc HAH HHH HLH HIH HBH HB7 HA7 HH7 HL7
  generalize hg7 : w7.heap.size = gR at *
  have r0 := HR8.out.cell 0 rfl
  have r2 := HR8.out.cell 2 rfl
  have r3 := HR8.out.cell 3 rfl
  clear HS1
  go_wp2_with (first | rw [HW8.out] | fail)
  try rw [HW8.out]
  clear r0 r2 r3 p1 HW8
  have HN : Hid ((wrap64 (m.tmod 4 + 4)).tmod 4 = (nn : Int)) := (by rw [hnn, show wrap64 (m.tmod 4 + 4) = m.tmod 4 + 4 by have := rem4b m; unfold wrap64; omega] : _ = _)
  rw [HN.out]
  clear HN hnn hm HW2 HW3
  have hZ8 := HL8.out.lt
  have hD1 : (nn : Int) ≤ 4 := by omega
  have hD2 : (nn : Int) + 1 ≤ 4 := by omega
  have hD3 : (0 : Int) ≤ (nn : Int) + 1 := by omega
  have hD4 : (0 : Int) ≤ (nn : Int) := by omega
  have hb9 : Below w8.heap.size w8 (w8.alloc (.cells #[] 36)).drew := ((Below.refl _ w8).alloc (Nat.le_refl _) _).drew
  have HO9 : Hid (OwnF 36 w8.heap.size (.slice (some ⟨w8.heap.size, 0, none⟩) 0 0) [] (w8.alloc (.cells #[] 36)).drew) := ((ownF_empty 36 w8 (Nat.le_refl _)).below ((Below.refl _ _).drew) : OwnF _ _ _ _ _)
  have HI9 : Hid (InF (.slice (some ⟨gL, 0, none⟩) nn 4) ((lF keyS).take nn) (w8.alloc (.cells #[] 36)).drew) := (in_front keyS (HL8.out.below hb9) nn hn3 : InF _ _ _)
  have HZ9 : Hid (w8.heap.size ≤ (w8.alloc (.cells #[] 36)).drew.heap.size) := hb9.size
  have HE9 : Hid (Below w8.heap.size w8 (w8.alloc (.cells #[] 36)).drew) := hb9
  have HN9 : Hid (([] : List Fl).length + ((lF keyS).take nn).length ≤ 2147483648) := (by rw [List.length_take]; simp; omega : _ ≤ _)
  have HQ9 : Hid (([] : List Fl) ++ (lF keyS).take nn = (lF keyS).take nn) := List.nil_append _
  have HF9 : Hid (((lF keyS).take nn).length = nn) := (by rw [List.length_take]; simp [lF]; omega : _ = _)
  clear hb9
  have HI10 : Hid (∀ W, Below w8.heap.size w8 W → InF (.slice (if nn = 3 then some ⟨gL, 0, none⟩ else some ⟨gL, (nn + 1) * 2, none⟩) (3 - nn) (3 - nn)) ((lF keyS).drop (nn + 1)) W) := fun W h => by
    by_cases h3 : nn = 3
    · subst h3
      rw [if_pos rfl]
      exact ⟨⟨_, _, rfl, .inl rfl⟩, fun _ => .inr ⟨_, _, rfl⟩⟩
    · rw [if_neg h3]
      exact in_back keyS (HL8.out.below h) nn hn3
  have HN10 : Hid (((lF keyS).take nn).length + ((lF keyS).drop (nn + 1)).length ≤ 2147483648) := (by rw [List.length_take, List.length_drop]; simp [lF]; omega : _ ≤ _)
  have HC10 : Hid ((cut nn).length = 3) := cut_len nn hn3
  have hW1 : IntKind.i64.wrap ((nn : Int) + 1) = (nn : Int) + 1 := by rw [IntKind.wrap_i64]; omega
  have hT1 : ((nn : Int) + 1).toNat = nn + 1 := by omega
  go_region_law (first
    | (refine stepFs rfl (.tmp 52) (.tmp 55) (by rfl) w8.heap.size (.slice (some ⟨w8.heap.size, 0, none⟩) 0 0) (.slice (some ⟨gL, 0, none⟩) nn 4) [] ((lF keyS).take nn) (w8.alloc (.cells #[] 36)).drew (by rfl) HO9.out (by rfl) HI9.out HN9.out HZ9.out ?_; intro vx wx ox _ bx; rw [HQ9.out] at ox; obtain ⟨xa, xc, ex⟩ := ownF_form ox.out; rw [HF9.out] at ex; subst ex; have HBx : Hid (Below w8.heap.size w8 wx) := (HE9.out.trans bx.out : Below _ _ _); have HZx : Hid (w8.heap.size ≤ wx.heap.size) := (HBx.out.size : _ ≤ _); have HIx : Hid (InF _ _ _) := HI10.out wx HBx.out)
    | (refine stepFs rfl (.tmp 56) (.tmp 60) (by rfl) w8.heap.size (.slice xa nn xc) (.slice (if nn = 3 then some ⟨gL, 0, none⟩ else some ⟨gL, (nn + 1) * 2, none⟩) (3 - nn) (3 - nn)) ((lF keyS).take nn) ((lF keyS).drop (nn + 1)) wx (by rfl) ox.out (by rfl) HIx.out HN10.out HZx.out ?_; intro vz wz oz _ bz; obtain ⟨za, zc, ez⟩ := ownF_form oz.out; have ey : vz = .slice za (cut nn).length zc := ez; clear ez; rw [HC10.out] at ey; subst ey; have HOz : Hid (OwnF 36 w8.heap.size (.slice za 3 zc) (cut nn) wz) := (oz.out : OwnF _ _ _ _ _); have HBz : Hid (Below w8.heap.size w8 wz) := (HBx.out.trans bz.out : Below _ _ _); have HAz : Hid (Blk 59 wz gA [.string ⟨#[71, 69, 84]⟩, .string ⟨#[47]⟩, .int .i64 1, .int .i64 1, .slice fa 4 fc, .string ⟨#[]⟩, .slice none 0 0, .int .i64 0, .string ⟨#[]⟩, .int .i64 0, .string ⟨#[]⟩, .string ⟨#[]⟩, .bool false, .slice none 0 0, .int .i64 0]) := (HA8.out.below HBz.out : Blk _ _ _ _); have HHz : Hid (Blk 61 wz (gA + 1) [.int .i64 9, .string ⟨#[]⟩, .string ⟨#[]⟩, .string ⟨#[]⟩, .int .i64 0, .int .i64 0]) := (HH8.out.below HBz.out : Blk _ _ _ _); have HLz : Hid (Blk 36 wz gL (cL (str keyS))) := (HL8.out.below HBz.out : Blk _ _ _ _); have HRz : Hid (Blk 39 wz gR [.int .i64 101, .string ⟨#[]⟩, .slice (some ⟨g, o, none⟩) 3 c, .string ⟨#[]⟩]) := (HR8.out.below HBz.out : Blk _ _ _ _); have zd := HAz.out.cell 4 rfl; have zf := HAz.out.free 4; clear oz bz))
  all_goals clear zd zf HO9 HI9 HZ9 HE9 HN9 HQ9 HF9 HI10 HN10 HC10 hW1 hT1 hD1 hD2 hD3 hD4 HBx HZx HIx bx ox HB2 HB3 HZ3 HL12 HO3 HL3 HI3
  all_goals
    obtain ⟨y1, hy1⟩ : ∃ y1, y1 = wz.setCell ⟨gA, 4, none⟩ (.slice za 3 zc) := ⟨_, rfl⟩
    have hbt : But [gA] wz y1 := by rw [hy1]; exact setD (But.refl [gA] wz) 4 _
    have HA1 : Hid (Blk 59 y1 gA [.string ⟨#[71, 69, 84]⟩, .string ⟨#[47]⟩, .int .i64 1, .int .i64 1, .slice za 3 zc, .string ⟨#[]⟩, .slice none 0 0, .int .i64 0, .string ⟨#[]⟩, .int .i64 0, .string ⟨#[]⟩, .string ⟨#[]⟩, .bool false, .slice none 0 0, .int .i64 0]) := (by rw [hy1]; exact HAz.out.set 4 _ : Blk _ _ _ _)
    have HH1 : Hid (Blk 61 y1 (gA + 1) [.int .i64 9, .string ⟨#[]⟩, .string ⟨#[]⟩, .string ⟨#[]⟩, .int .i64 0, .int .i64 0]) := (HHz.out.but hbt (by simp) : Blk _ _ _ _)
    have HL1y : Hid (Blk 36 y1 gL (cL (str keyS))) := (HLz.out.but hbt (by simp; have := HLA.out; omega) : Blk _ _ _ _)
    have HR1 : Hid (Blk 39 y1 gR [.int .i64 101, .string ⟨#[]⟩, .slice (some ⟨g, o, none⟩) 3 c, .string ⟨#[]⟩]) := (HRz.out.but hbt (by simp; have := HGR.out; omega) : Blk _ _ _ _)
    have HO1 : Hid (OwnF 36 w8.heap.size (.slice za 3 zc) (cut nn) y1) := (HAz.out.keep HOz.out (by decide) hbt : OwnF _ _ _ _ _)
    have HB1 : Hid (Below w.heap.size w y1) := ((HB8.out.trans (HBz.out.mono HB8.out.size)).trans (hbt.below (by have := (HB8.out.trans (HBz.out.mono HB8.out.size)).size; omega) (fun x hx => by simp at hx; subst hx; exact HS4.out)) : Below _ _ _)
    have HY1 : Hid (wz.setCell ⟨gA, 4, none⟩ (.slice za 3 zc) = y1) := hy1.symm
    clear hy1 hbt HAz HHz HLz HRz HOz HBz
    have h0 := HH1.out.cell 0 rfl
    have h1 := HH1.out.cell 1 rfl
    have h2 := HH1.out.cell 2 rfl
    have h3 := HH1.out.cell 3 rfl
    have h4 := HH1.out.cell 4 rfl
    have h5 := HH1.out.cell 5 rfl
    have z0 := HA1.out.cell 0 rfl
    have z1 := HA1.out.cell 1 rfl
    have z2 := HA1.out.cell 2 rfl
    have z3 := HA1.out.cell 3 rfl
    have z4 := HA1.out.cell 4 rfl
    have z5 := HA1.out.cell 5 rfl
    have z6 := HA1.out.cell 6 rfl
    have z7 := HA1.out.cell 7 rfl
    have z8 := HA1.out.cell 8 rfl
    have z9 := HA1.out.cell 9 rfl
    have z10 := HA1.out.cell 10 rfl
    have z11 := HA1.out.cell 11 rfl
    have z12 := HA1.out.cell 12 rfl
    have z13 := HA1.out.cell 13 rfl
    have z14 := HA1.out.cell 14 rfl
    rw [HY1.out]
    clear HY1
    generalize (if nn = 3 then some (⟨gL, 0, none⟩ : Addr) else some ⟨gL, (nn + 1) * 2, none⟩) = YY
    go_wp2_with fail
    refine (HS2.out za zc y1 HO1.out.inF HB1.out).mono ?_
    rintro e y2 ⟨st, va2, vn2, vc2, bd2, rfl, hst, hb2⟩
    have HA2 : Hid (Blk 59 y2 gA [.string ⟨#[71, 69, 84]⟩, .string ⟨#[47]⟩, .int .i64 1, .int .i64 1, .slice za 3 zc, .string ⟨#[]⟩, .slice none 0 0, .int .i64 0, .string ⟨#[]⟩, .int .i64 0, .string ⟨#[]⟩, .string ⟨#[]⟩, .bool false, .slice none 0 0, .int .i64 0]) := HA1.out.below hb2
    have HH2 : Hid (Blk 61 y2 (gA + 1) [.int .i64 9, .string ⟨#[]⟩, .string ⟨#[]⟩, .string ⟨#[]⟩, .int .i64 0, .int .i64 0]) := HH1.out.below hb2
    have HL2y : Hid (Blk 36 y2 gL (cL (str keyS))) := HL1y.out.below hb2
    have HR2 : Hid (Blk 39 y2 gR [.int .i64 101, .string ⟨#[]⟩, .slice (some ⟨g, o, none⟩) 3 c, .string ⟨#[]⟩]) := HR1.out.below hb2
    have HB2y : Hid (Below w.heap.size w y2) := bel_tr HB1.out hb2 HB1.out.size
    obtain ⟨y3, hy3⟩ : ∃ y3, y3 = y2.setCell ⟨gL, 7, none⟩ (.string (str k)) := ⟨_, rfl⟩
    have hbt : But [gL] y2 y3 := by rw [hy3]; exact setD (But.refl [gL] y2) 7 _
    have HL3y : Hid (Blk 36 y3 gL (cL (str k))) := (by rw [hy3]; exact HL2y.out.set 7 (.string (str k)) : Blk _ _ _ _)
    have HA3 : Hid (Blk 59 y3 gA [.string ⟨#[71, 69, 84]⟩, .string ⟨#[47]⟩, .int .i64 1, .int .i64 1, .slice za 3 zc, .string ⟨#[]⟩, .slice none 0 0, .int .i64 0, .string ⟨#[]⟩, .int .i64 0, .string ⟨#[]⟩, .string ⟨#[]⟩, .bool false, .slice none 0 0, .int .i64 0]) := (HA2.out.but hbt (by simp; have := HLA.out; omega) : Blk _ _ _ _)
    have HH3 : Hid (Blk 61 y3 (gA + 1) [.int .i64 9, .string ⟨#[]⟩, .string ⟨#[]⟩, .string ⟨#[]⟩, .int .i64 0, .int .i64 0]) := (HH2.out.but hbt (by simp; have := HLA.out; omega) : Blk _ _ _ _)
    have HR3 : Hid (Blk 39 y3 gR [.int .i64 101, .string ⟨#[]⟩, .slice (some ⟨g, o, none⟩) 3 c, .string ⟨#[]⟩]) := (HR2.out.but hbt (by simp; have := HLA.out; have := HGR.out; omega) : Blk _ _ _ _)
    have HB3y : Hid (Below w.heap.size w y3) := (HB2y.out.trans (hbt.below HB2y.out.size (fun x hx => by simp at hx; subst hx; exact HL1.out)) : Below _ _ _)
    obtain ⟨y4, hy4⟩ : ∃ y4, y4 = y3.setCell ⟨gA, 4, none⟩ (.slice (some ⟨gL, 0, none⟩) 4 4) := ⟨_, rfl⟩
    have hbu : But [gA] y3 y4 := by rw [hy4]; exact setD (But.refl [gA] y3) 4 _
    have HA4 : Hid (Blk 59 y4 gA [.string ⟨#[71, 69, 84]⟩, .string ⟨#[47]⟩, .int .i64 1, .int .i64 1, .slice (some ⟨gL, 0, none⟩) 4 4, .string ⟨#[]⟩, .slice none 0 0, .int .i64 0, .string ⟨#[]⟩, .int .i64 0, .string ⟨#[]⟩, .string ⟨#[]⟩, .bool false, .slice none 0 0, .int .i64 0]) := (by rw [hy4]; exact HA3.out.set 4 _ : Blk _ _ _ _)
    have HH4 : Hid (Blk 61 y4 (gA + 1) [.int .i64 9, .string ⟨#[]⟩, .string ⟨#[]⟩, .string ⟨#[]⟩, .int .i64 0, .int .i64 0]) := (HH3.out.but hbu (by simp) : Blk _ _ _ _)
    have HL4y : Hid (Blk 36 y4 gL (cL (str k))) := (HL3y.out.but hbu (by simp; have := HLA.out; omega) : Blk _ _ _ _)
    have HR4 : Hid (Blk 39 y4 gR [.int .i64 101, .string ⟨#[]⟩, .slice (some ⟨g, o, none⟩) 3 c, .string ⟨#[]⟩]) := (HR3.out.but hbu (by simp; have := HGR.out; omega) : Blk _ _ _ _)
    have HB4y : Hid (Below w.heap.size w y4) := (HB3y.out.trans (hbu.below HB3y.out.size (fun x hx => by simp at hx; subst hx; exact HS4.out)) : Below _ _ _)
    have HI4 : Hid (InF (.slice (some ⟨gL, 0, none⟩) 4 4) (lF k) y4) := (in_l k HL4y.out : InF _ _ _)
    have HY3 : Hid (y2.setCell ⟨gL, 7, none⟩ (.string (str k)) = y3) := hy3.symm
    have HY4 : Hid (y3.setCell ⟨gA, 4, none⟩ (.slice (some ⟨gL, 0, none⟩) 4 4) = y4) := hy4.symm
    clear h0 h1 h2 h3 h4 h5 z0 z1 z2 z3 z4 z5 z6 z7 z8 z9 z10 z11 z12 z13 z14
    have hfd := field_st st va2 vn2 vc2 bd2
    have l7 := HL2y.out.cell 7 rfl
    have lf := HL2y.out.free 7
    have a4 := HA3.out.cell 4 rfl
    have af := HA3.out.free 4
    have h0 := HH4.out.cell 0 rfl
    have h1 := HH4.out.cell 1 rfl
    have h2 := HH4.out.cell 2 rfl
    have h3 := HH4.out.cell 3 rfl
    have h4 := HH4.out.cell 4 rfl
    have h5 := HH4.out.cell 5 rfl
    have z0 := HA4.out.cell 0 rfl
    have z1 := HA4.out.cell 1 rfl
    have z2 := HA4.out.cell 2 rfl
    have z3 := HA4.out.cell 3 rfl
    have z4 := HA4.out.cell 4 rfl
    have z5 := HA4.out.cell 5 rfl
    have z6 := HA4.out.cell 6 rfl
    have z7 := HA4.out.cell 7 rfl
    have z8 := HA4.out.cell 8 rfl
    have z9 := HA4.out.cell 9 rfl
    have z10 := HA4.out.cell 10 rfl
    have z11 := HA4.out.cell 11 rfl
    have z12 := HA4.out.cell 12 rfl
    have z13 := HA4.out.cell 13 rfl
    have z14 := HA4.out.cell 14 rfl
    clear hy3 hy4 hbt hbu hb2 HA1 HH1 HL1y HR1 HB1 HO1 HA2 HH2 HL2y HR2 HB2y HA3 HH3 HL3y HR3 HB3y HL4y HS2 HA8 HH8 HL8 HR8 HB8
    go_wp2_with (first | rw [HY3.out] | rw [HY4.out] | fail)
    refine (HS3.out _ _ y4 HI4.out HB4y.out).mono ?_
    clear hfd l7 lf a4 af h0 h1 h2 h3 h4 h5 z0 z1 z2 z3 z4 z5 z6 z7 z8 z9 z10 z11 z12 z13 z14 HA4 HH4 HI4 HS3 HY3 HY4 hst
    rintro e y5 (⟨a5, c5, X, rfl, ho, hX, hb5⟩ | ⟨a5, n5, c5, bd5, rfl, hb5⟩)
    · have hs5 : (str X).size = 28 := by rw [str_size]; exact hX
      have HR5 : Hid (Blk 39 y5 gR [.int .i64 101, .string ⟨#[]⟩, .slice (some ⟨g, o, none⟩) 3 c, .string ⟨#[]⟩]) := HR4.out.below hb5
      have HB5 : Hid (Below w.heap.size w y5) := bel_tr HB4y.out hb5 HB4y.out.size
      obtain ⟨y6, hy6⟩ : ∃ y6, y6 = set4 y5 gR (.int .i64 101) (.string ⟨#[]⟩) (.slice a5 3 c5) (.string ⟨#[]⟩) := ⟨_, rfl⟩
      have hbv : But [gR] y5 y6 := by rw [hy6]; exact set4_but y5 gR _ _ _ _
      have HR6 : Hid (Blk 39 y6 gR [.int .i64 101, .string ⟨#[]⟩, .slice a5 3 c5, .string ⟨#[]⟩]) := (by rw [hy6]; exact set4_blk HR5.out _ _ _ _ : Blk _ _ _ _)
      have HB6 : Hid (Below w.heap.size w y6) := (HB5.out.trans (hbv.below HB5.out.size (fun x hx => by simp at hx; subst hx; have := HGR.out; have := HS4.out; omega)) : Below _ _ _)
      have HY6 : Hid (((((y5.setCell ⟨gR, 0, none⟩ (.int .i64 101)).setCell ⟨gR, 1, none⟩ (.string ⟨#[]⟩)).setCell ⟨gR, 2, none⟩ (.slice a5 3 c5)).setCell ⟨gR, 3, none⟩ (.string ⟨#[]⟩)) = y6) := hy6.symm
      obtain ⟨a', c', e', hcs⟩ := (OwnF.rd (HR5.out.keep ho (by decide) hbv) : RdF _ _ _)
      injection e' with e1 e0 e2
      clear e0
      subst e1 e2
      rcases hcs with h | ⟨g5, o5, rfl, hlc, hcell⟩
      · cases h
      obtain ⟨p0, px⟩ := hcell 2 (by simp)
      have p1 : y6.cell? ⟨g5, o5 + 5, none⟩ = some (.string (str X)) := px
      clear px p0 hcell hlc hy6 hbv ho hb5 hX
      generalize str X = SX at *
      have r0 := HR5.out.cell 0 rfl
      have r1 := HR5.out.cell 1 rfl
      have r2 := HR5.out.cell 2 rfl
      have r3 := HR5.out.cell 3 rfl
      have rf := HR5.out.free
      have q0 := HR6.out.cell 0 rfl
      have q2 := HR6.out.cell 2 rfl
      go_wp2_with (first | rw [HY6.out] | fail)
      refine bodyPost_ret (v := .bool true) (by simp [results, Tryz.results5, go_sem]) rfl ⟨rfl, HB6.out⟩
    · have HR5 : Hid (Blk 39 y5 gR [.int .i64 101, .string ⟨#[]⟩, .slice (some ⟨g, o, none⟩) 3 c, .string ⟨#[]⟩]) := HR4.out.below hb5
      have HB5 : Hid (Below w.heap.size w y5) := bel_tr HB4y.out hb5 HB4y.out.size
      obtain ⟨y6, hy6⟩ : ∃ y6, y6 = set4 y5 gR (.int .i64 400) (.string ⟨#[]⟩) (.slice a5 n5 c5) (.string bd5) := ⟨_, rfl⟩
      have hbv : But [gR] y5 y6 := by rw [hy6]; exact set4_but y5 gR _ _ _ _
      have HR6 : Hid (Blk 39 y6 gR [.int .i64 400, .string ⟨#[]⟩, .slice a5 n5 c5, .string bd5]) := (by rw [hy6]; exact set4_blk HR5.out _ _ _ _ : Blk _ _ _ _)
      have HB6 : Hid (Below w.heap.size w y6) := (HB5.out.trans (hbv.below HB5.out.size (fun x hx => by simp at hx; subst hx; have := HGR.out; have := HS4.out; omega)) : Below _ _ _)
      have HY6 : Hid (((((y5.setCell ⟨gR, 0, none⟩ (.int .i64 400)).setCell ⟨gR, 1, none⟩ (.string ⟨#[]⟩)).setCell ⟨gR, 2, none⟩ (.slice a5 n5 c5)).setCell ⟨gR, 3, none⟩ (.string bd5)) = y6) := hy6.symm
      clear hy6 hbv hb5
      have r0 := HR5.out.cell 0 rfl
      have r1 := HR5.out.cell 1 rfl
      have r2 := HR5.out.cell 2 rfl
      have r3 := HR5.out.cell 3 rfl
      have rf := HR5.out.free
      have q0 := HR6.out.cell 0 rfl
      have q2 := HR6.out.cell 2 rfl
      go_wp2_with (first | rw [HY6.out] | fail)
      refine bodyPost_ret (v := .bool true) (by simp [results, Tryz.results5, go_sem]) rfl ⟨rfl, HB6.out⟩

end Hn
end Go.Proofs.YtlfobdjbnpgchaaGreatDoor
