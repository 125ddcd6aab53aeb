import Derived.Test.YtdcfhnbagldilaaGreatDoorMuS
import Derived.Test.YtdcfhnbagldilaaGreatDoorMgD1
import Derived.Deep.Cut
import Derived.Deep.CutRange
import Derived.Deep.RegionHeld3
import Derived.Test.YtdcfhnbagldilaaGreatDoorMgS
import Derived.Test.YtdcfhnbagldilaaGreatDoorMgY
set_option linter.unusedVariables false
set_option linter.unusedSimpArgs false
set_option maxRecDepth 100000
namespace Go.Proofs.YtdcfhnbagldilaaGreatDoor
open Go.RowKit Go.Shelf
namespace Ms
open Oc Tg _root_.Go.Proofs.YtdcfhnbagldilaaGreatDoor.Fd _root_.Go.Proofs.YtdcfhnbagldilaaGreatDoor.Ck
def SRel (W0 : World) (cr cm : List Value) (s5 s6 : Value) (wx : World) : Prop := ∃ b5 b6 : Nat, s5 = .pointer (some ⟨b5, 0, none⟩) ∧ s6 = .pointer (some ⟨b6, 0, none⟩) ∧ Blk 27 wx b5 cr ∧ Blk 37 wx b6 cm ∧ Below W0.heap.size W0 wx
theorem srel_a (W0 : World) (cr cm : List Value) (n : Nat) (hn : W0.heap.size = n) : SRel W0 cr cm (.pointer (some ⟨n, 0, none⟩)) (.pointer (some ⟨n + 1, 0, none⟩)) ((W0.alloc (.cells cr.toArray 27)).alloc (.cells cm.toArray 37)).drew := by
  subst hn
  have h := box2 27 37 W0 cr cm
  exact ⟨_, _, rfl, rfl, h.resp.but (But.refl [] _).drew (fun e => by cases e), h.man.but (But.refl [] _).drew (fun e => by cases e), h.bel.drew⟩
theorem srel_b (W0 : World) (cr cm : List Value) (n : Nat) (hn : W0.heap.size = n) : SRel W0 cr cm (.pointer (some ⟨n + 1, 0, none⟩)) (.pointer (some ⟨n, 0, none⟩)) ((W0.alloc (.cells cm.toArray 37)).alloc (.cells cr.toArray 27)).drew := by
  subst hn
  have h := box2 37 27 W0 cm cr
  exact ⟨_, _, rfl, rfl, h.man.but (But.refl [] _).drew (fun e => by cases e), h.resp.but (But.refl [] _).drew (fun e => by cases e), h.bel.drew⟩
set_option maxHeartbeats 4000000 in
theorem same_reply (st mi kind len : Int) (rs bd : ByteArray) (per : Bool) (v1 v2 u1 u2 : Value) (t u : List Fl) (w : World) (h1 : RdF v1 t w) (h2 : RdF v2 t w) (h3 : RdF u1 u w) (h4 : RdF u2 u w) (hl : t.length ≤ 4294967296) (hl2 : u.length ≤ 4294967296) :
    Calls Tryz.prog 8 #[.agg #[.int .i64 st, .string rs, v1, .string bd, .int .i64 mi, u1, .int .i64 kind, .int .i64 len, .bool per], .agg #[.int .i64 st, .string rs, v2, .string bd, .int .i64 mi, u2, .int .i64 kind, .int .i64 len, .bool per]] w fun e w' => e = .returned (.bool true) ∧ Below w.heap.size w w' := by
  have HV : Hid (∀ W, Below w.heap.size w W → RdF v1 t W ∧ RdF v2 t W ∧ RdF u1 u W ∧ RdF u2 u W) := fun W hb => ⟨h1.below hb, h2.below hb, h3.below hb, h4.below hb⟩
  obtain ⟨a1, c1, rfl, _⟩ := h1
  obtain ⟨a2, c2, rfl, _⟩ := h2
  obtain ⟨a3, c3, rfl, _⟩ := h3
  obtain ⟨a4, c4, rfl, _⟩ := h4
  obtain ⟨W0, hW0⟩ : ∃ W0, W0 = (w.alloc (.cells #[.int .i64 st, .string rs, .slice a1 t.length c1, .string bd, .int .i64 mi, .slice a3 u.length c3, .int .i64 kind, .int .i64 len, .bool per] 31)).alloc (.cells #[.int .i64 st, .string rs, .slice a2 t.length c2, .string bd, .int .i64 mi, .slice a4 u.length c4, .int .i64 kind, .int .i64 len, .bool per] 39) := ⟨_, rfl⟩
  have hB := box2 31 39 w [.int .i64 st, .string rs, .slice a1 t.length c1, .string bd, .int .i64 mi, .slice a3 u.length c3, .int .i64 kind, .int .i64 len, .bool per] [.int .i64 st, .string rs, .slice a2 t.length c2, .string bd, .int .i64 mi, .slice a4 u.length c4, .int .i64 kind, .int .i64 len, .bool per]
  have HB0 : Hid (Below w.heap.size w W0) := (by rw [hW0]; exact hB.bel : Below _ _ _)
  have HM0 : Hid (Blk 39 W0 (w.heap.size + 1) [.int .i64 st, .string rs, .slice a2 t.length c2, .string bd, .int .i64 mi, .slice a4 u.length c4, .int .i64 kind, .int .i64 len, .bool per]) := (by rw [hW0]; exact hB.man : Blk _ _ _ _)
  have HR0 : Hid (Blk 31 W0 w.heap.size [.int .i64 st, .string rs, .slice a1 t.length c1, .string bd, .int .i64 mi, .slice a3 u.length c3, .int .i64 kind, .int .i64 len, .bool per]) := (by rw [hW0]; exact hB.resp : Blk _ _ _ _)
  have HZ0 : Hid (W0.heap.size = w.heap.size + 2) := (by rw [hW0]; simp : W0.heap.size = _)
  have HW0 : Hid (W0 = _) := hW0
  clear hB hW0
  go_enter Tryz.func8, Tryz.ntmps8
  go_wp2_with fail
  rw [← HW0.out]
  clear HW0
  generalize hg0 : w.heap.size = g0 at *
  have HG0 : Hid (w.heap.size = g0) := hg0
  clear hg0
  have r0 := HR0.out.cell 0 rfl
  have r1 := HR0.out.cell 1 rfl
  have r2 := HR0.out.cell 2 rfl
  have r3 := HR0.out.cell 3 rfl
  have s0 := HM0.out.cell 0 rfl
  have s1 := HM0.out.cell 1 rfl
  have s2 := HM0.out.cell 2 rfl
  have s3 := HM0.out.cell 3 rfl
  have hsz0 := HZ0.out
  have HA : Hid (SRel W0 [.int .i64 st, .string rs, .slice a1 t.length c1, .string bd] [.int .i64 st, .string rs, .slice a2 t.length c2, .string bd] _ _ _) := srel_a W0 [.int .i64 st, .string rs, .slice a1 t.length c1, .string bd] [.int .i64 st, .string rs, .slice a2 t.length c2, .string bd] (g0 + 2) hsz0
  have HB : Hid (SRel W0 [.int .i64 st, .string rs, .slice a1 t.length c1, .string bd] [.int .i64 st, .string rs, .slice a2 t.length c2, .string bd] _ _ _) := srel_b W0 [.int .i64 st, .string rs, .slice a1 t.length c1, .string bd] [.int .i64 st, .string rs, .slice a2 t.length c2, .string bd] (g0 + 2) hsz0
  go_cut [5, 6] from 7 to 10 (fun s5 s6 wx => Hid (SRel W0 [.int .i64 st, .string rs, .slice a1 t.length c1, .string bd] [.int .i64 st, .string rs, .slice a2 t.length c2, .string bd] s5 s6 wx))
  case first =>
    go_region_law (fail)
    all_goals
      go_wp2_with fail
      go_meet
      first
        | with_reducible exact HA
        | with_reducible exact HB
        | exact HA
        | exact HB
  case rest =>
  obtain ⟨b5, b6, rfl, rfl, hb5, hb6, hbw⟩ := hcut.out
  have H5 : Hid (Blk 27 wc b5 [.int .i64 st, .string rs, .slice a1 t.length c1, .string bd]) := hb5
  have H6 : Hid (Blk 37 wc b6 [.int .i64 st, .string rs, .slice a2 t.length c2, .string bd]) := hb6
  have HBw : Hid (Below g0 w wc) := HB0.out.trans (hbw.mono (by omega))
  have HR1 : Hid (Blk 31 wc g0 [.int .i64 st, .string rs, .slice a1 t.length c1, .string bd, .int .i64 mi, .slice a3 u.length c3, .int .i64 kind, .int .i64 len, .bool per]) := HR0.out.below hbw
  have HM1 : Hid (Blk 39 wc (g0 + 1) [.int .i64 st, .string rs, .slice a2 t.length c2, .string bd, .int .i64 mi, .slice a4 u.length c4, .int .i64 kind, .int .i64 len, .bool per]) := HM0.out.below hbw
  clear hb5 hb6 hbw hcut HA HB HR0 HM0 HZ0 hsz0 r0 r1 r2 r3 s0 s1 s2 s3 HB0
  have p0 := H5.out.cell 0 rfl
  have p1 := H5.out.cell 1 rfl
  have p2 := H5.out.cell 2 rfl
  have p3 := H5.out.cell 3 rfl
  have q0 := H6.out.cell 0 rfl
  have q1 := H6.out.cell 1 rfl
  have q2 := H6.out.cell 2 rfl
  have q3 := H6.out.cell 3 rfl
  obtain ⟨V1, V2, V3, V4⟩ := HV.out wc HBw.out
  have HC1 : Hid (Calls _ _ _ _ _) := same12_any _ _ t wc V1 V2 hl
  clear V1 V2 V3 V4
  go_wp2_with fail
  refine HC1.out.mono ?_
  rintro e w2 ⟨rfl, hb2⟩
  have HB2 : Hid (Below g0 w w2) := HBw.out.trans (hb2.mono (by have := HBw.out.size; have := HG0.out; omega))
  have HR2 : Hid (Blk 31 w2 g0 [.int .i64 st, .string rs, .slice a1 t.length c1, .string bd, .int .i64 mi, .slice a3 u.length c3, .int .i64 kind, .int .i64 len, .bool per]) := HR1.out.below hb2
  have HM2 : Hid (Blk 39 w2 (g0 + 1) [.int .i64 st, .string rs, .slice a2 t.length c2, .string bd, .int .i64 mi, .slice a4 u.length c4, .int .i64 kind, .int .i64 len, .bool per]) := HM1.out.below hb2
  clear hb2 HC1 p0 p1 p2 p3 q0 q1 q2 q3 HR1 HM1 H5 H6
  have r4 := HR2.out.cell 4 rfl
  have s4 := HM2.out.cell 4 rfl
  have r5 := HR2.out.cell 5 rfl
  have s5 := HM2.out.cell 5 rfl
  have r6 := HR2.out.cell 6 rfl
  have s6 := HM2.out.cell 6 rfl
  have r7 := HR2.out.cell 7 rfl
  have s7 := HM2.out.cell 7 rfl
  have r8 := HR2.out.cell 8 rfl
  have s8 := HM2.out.cell 8 rfl
  obtain ⟨V1, V2, V3, V4⟩ := HV.out w2 HB2.out
  have HC2 : Hid (Calls _ _ _ _ _) := same12_any _ _ u w2 V3 V4 hl2
  clear V1 V2 V3 V4
  go_wp2_with fail
  refine HC2.out.mono ?_
  rintro e w3 ⟨rfl, hb3⟩
  have HB3 : Hid (Below g0 w w3) := HB2.out.trans (hb3.mono (by have := HB2.out.size; have := HG0.out; omega))
  have HR3 : Hid (Blk 31 w3 g0 [.int .i64 st, .string rs, .slice a1 t.length c1, .string bd, .int .i64 mi, .slice a3 u.length c3, .int .i64 kind, .int .i64 len, .bool per]) := HR2.out.below hb3
  have HM3 : Hid (Blk 39 w3 (g0 + 1) [.int .i64 st, .string rs, .slice a2 t.length c2, .string bd, .int .i64 mi, .slice a4 u.length c4, .int .i64 kind, .int .i64 len, .bool per]) := HM2.out.below hb3
  clear hb3 HC2
  have x4 := HR3.out.cell 4 rfl
  have y4 := HM3.out.cell 4 rfl
  have x5 := HR3.out.cell 5 rfl
  have y5 := HM3.out.cell 5 rfl
  have x6 := HR3.out.cell 6 rfl
  have y6 := HM3.out.cell 6 rfl
  have x7 := HR3.out.cell 7 rfl
  have y7 := HM3.out.cell 7 rfl
  have x8 := HR3.out.cell 8 rfl
  have y8 := HM3.out.cell 8 rfl
  go_wp2
  go_ret
  exact ⟨rfl, by rw [HG0.out]; exact HB3.out⟩
end Ms
end Go.Proofs.YtdcfhnbagldilaaGreatDoor
set_option linter.unusedVariables false
set_option linter.unusedSimpArgs false
set_option maxRecDepth 100000
namespace Go.Proofs.YtdcfhnbagldilaaGreatDoor
open Go.RowKit Go.Shelf
namespace Ms
open Oc Tg _root_.Go.Proofs.YtdcfhnbagldilaaGreatDoor.Fd _root_.Go.Proofs.YtdcfhnbagldilaaGreatDoor.Ck
def aR : Rs := ⟨200, [], [([65], [49])], [104, 105]⟩
def aM : Mn := ⟨[71, 69, 84], false, false, false, [], []⟩
def aT : List UInt8 := [72, 84, 84, 80, 47, 49, 46, 49, 32, 50, 48, 48, 32, 79, 75, 13, 10, 65, 58, 32, 49, 13, 10, 67, 111, 110, 116, 101, 110, 116, 45, 76, 101, 110, 103, 116, 104, 58, 32, 50, 13, 10, 13, 10, 104, 105]
theorem itoa_2 : Lib.itoa 2 = [50] := by
  rw [itoa_decD 2 (by omega), if_neg (by omega), show (2 : Int).natAbs = 2 from rfl, decD_step 2 (by omega)]
  rfl
theorem itoa_200 : Lib.itoa 200 = [50, 48, 48] := by
  rw [itoa_decD 200 (by omega), if_neg (by omega), show (200 : Int).natAbs = 200 from rfl, decD_step 200 (by omega), show 200 / 10 = 20 from rfl, decD_step 20 (by omega), show 20 / 10 = 2 from rfl, decD_step 2 (by omega)]
  rfl
theorem beh_a : behF aR aM = [(nCL, [50])] := by
  unfold behF
  rw [show (aR.bd.length : Int) = 2 from rfl, itoa_2]
  rfl
theorem head_a : headR aR aM = (aT.take 44, 0) := by
  unfold headR hdP
  rw [beh_a, show aR.st = 200 from rfl, itoa_200]
  decide +kernel
theorem prn_a : prnN aR aM = (aT, 0) := by
  unfold prnN
  rw [head_a]
  decide +kernel
def aH : BR := rspR (newH (aT ++ [120]) false) [71, 69, 84] 2
theorem aH_done : aH.done = true := by decide +kernel
theorem aH_err : aH.err = 0 := by decide +kernel
theorem aH_bd : aH.bd = [104, 105] := by decide +kernel
theorem aH_used : aH.s.used = 46 := by decide +kernel
theorem aH_kind : (hRun (newH (aT ++ [120]) false) (aT ++ [120])).1.kind = 1 := by decide +kernel
set_option maxHeartbeats 2000000 in
theorem awake_any (w : World) (hw : Env w) (hp : Pow w) :
    Calls Tryz.prog 5 #[] w fun e w' => e = .returned (.bool true) ∧ Below w.heap.size w w' := by
  obtain ⟨W0, hW0⟩ : ∃ W0, W0 = w.alloc (.cells #[.string ⟨#[65]⟩, .string ⟨#[49]⟩] 47) := ⟨_, rfl⟩
  have hb0 : Below w.heap.size w W0 := by rw [hW0]; exact (Below.refl _ w).alloc (Nat.le_refl _) _
  have hf : InF (.slice (some ⟨w.heap.size, 0, none⟩) 1 1) aR.fs W0 := by
    rw [hW0]
    exact ⟨rd_oneF w 47 ([65], [49]), fun h => by cases h⟩
  have hPr := Print_nc aR aM rfl ⟨by decide, by decide⟩ (by decide) (by decide) (by decide) (.slice (some ⟨w.heap.size, 0, none⟩) 1 1) (.slice none 0 0) (.slice none 0 0) none 0 rfl W0 hf ⟨none, 0, rfl, .inl rfl⟩ (hp.below hb0 (Nat.le_refl _)) (hw.below hb0).1
  rw [prn_a] at hPr
  have HPr : Hid (Calls Tryz.prog 11 #[.agg #[.int .i64 200, .string ⟨#[]⟩, .slice (some ⟨w.heap.size, 0, none⟩) 1 1, .string ⟨#[104, 105]⟩], .agg #[.string ⟨#[71, 69, 84]⟩, .bool false, .bool false, .bool false, .slice none 0 0, .slice none 0 0]] W0 fun e w' => e = .returned (.tuple #[.string ⟨#[72, 84, 84, 80, 47, 49, 46, 49, 32, 50, 48, 48, 32, 79, 75, 13, 10, 65, 58, 32, 49, 13, 10, 67, 111, 110, 116, 101, 110, 116, 45, 76, 101, 110, 103, 116, 104, 58, 32, 50, 13, 10, 13, 10, 104, 105]⟩, .int .i64 0]) ∧ Below W0.heap.size W0 w') := hPr
  have HPa : Hid (∀ W, Env W → Calls Tryz.prog 9 #[.string ⟨#[71, 69, 84]⟩, .string (⟨#[72, 84, 84, 80, 47, 49, 46, 49, 32, 50, 48, 48, 32, 79, 75, 13, 10, 65, 58, 32, 49, 13, 10, 67, 111, 110, 116, 101, 110, 116, 45, 76, 101, 110, 103, 116, 104, 58, 32, 50, 13, 10, 13, 10, 104, 105]⟩ ++ ⟨#[120]⟩), .int .i64 2, .bool false] W fun e w' => ∃ (rs : ByteArray) (fa : Option Addr) (fl fc : Nat) (st mi kd ln : Int) (pe : Bool), e = .returned (.tuple #[.agg #[.int .i64 st, .string rs, .slice fa fl fc, .string ⟨#[104, 105]⟩, .int .i64 mi, .slice none 0 0, .int .i64 kd, .int .i64 ln, .bool pe], .int .i64 46, .int .i64 0]) ∧ Below (World.heap W).size W w') := fun W hW => by
    have hl : ((⟨#[72, 84, 84, 80, 47, 49, 46, 49, 32, 50, 48, 48, 32, 79, 75, 13, 10, 65, 58, 32, 49, 13, 10, 67, 111, 110, 116, 101, 110, 116, 45, 76, 101, 110, 103, 116, 104, 58, 32, 50, 13, 10, 13, 10, 104, 105]⟩ : ByteArray) ++ ⟨#[120]⟩).data.toList = aT ++ [120] := by simp [aT]
    have h := Parse_nc ⟨#[71, 69, 84]⟩ ((⟨#[72, 84, 84, 80, 47, 49, 46, 49, 32, 50, 48, 48, 32, 79, 75, 13, 10, 65, 58, 32, 49, 13, 10, 67, 111, 110, 116, 101, 110, 116, 45, 76, 101, 110, 103, 116, 104, 58, 32, 50, 13, 10, 13, 10, 104, 105]⟩ : ByteArray) ++ ⟨#[120]⟩) 2 false (by omega) (by rw [← size_list, hl]; decide) W hW (by
      rw [hl]
      intro _ _ _
      rw [aH_kind]
      decide)
    rw [hl] at h
    refine h.mono ?_
    rintro e w' ⟨vf, rfl, ho, hb⟩
    obtain ⟨fa, fc, rfl⟩ := ownF_form ho
    have e1 : rspR (newH (aT ++ [120]) false) (⟨#[71, 69, 84]⟩ : ByteArray).data.toList 2 = aH := rfl
    rw [e1]
    have e2 : ∀ z v, parC aH z v = (repC aH.s aH.bd v (.slice none 0 0), (aH.s.used : Int), 0) := fun z v => by
      unfold parC
      rw [if_neg (fun h => h aH_err), if_neg (by rw [aH_done]; simp)]
    rw [e2, aH_bd, aH_used]
    exact ⟨_, _, _, _, _, _, _, _, _, rfl, hb⟩
  have HW0 : Hid (W0 = _) := hW0
  have HB0 : Hid (Below w.heap.size w W0) := hb0
  have HE : Hid (Env w) := hw
  clear hW0 hb0 hf hPr hw hp
  go_enter Tryz.func5, Tryz.ntmps5
  go_wp2_with fail
  rw [← HW0.out]
  refine HPr.out.mono ?_
  rintro e w1 ⟨rfl, hb1⟩
  have HB1 : Hid (Below w.heap.size w w1) := HB0.out.trans (hb1.mono HB0.out.size)
  clear hb1 HPr HW0
  obtain ⟨TX, hTX⟩ : ∃ TX, TX = (⟨#[72, 84, 84, 80, 47, 49, 46, 49, 32, 50, 48, 48, 32, 79, 75, 13, 10, 65, 58, 32, 49, 13, 10, 67, 111, 110, 116, 101, 110, 116, 45, 76, 101, 110, 103, 116, 104, 58, 32, 50, 13, 10, 13, 10, 104, 105]⟩ : ByteArray) := ⟨_, rfl⟩
  have hz : TX.size = 46 := by rw [hTX]; rfl
  rw [← hTX] at HPa ⊢
  have hq1 : (TX.toList == [72, 84, 84, 80, 47, 49, 46, 49, 32, 50, 48, 48, 32, 79, 75, 13, 10, 65, 58, 32, 49, 13, 10, 67, 111, 110, 116, 101, 110, 116, 45, 76, 101, 110, 103, 116, 104, 58, 32, 50, 13, 10, 13, 10, 104, 105]) = true := by rw [hTX, ByteArray.toList_eq]; decide
  have hq2 : (TX.toList != [72, 84, 84, 80, 47, 49, 46, 49, 32, 50, 48, 48, 32, 79, 75, 13, 10, 65, 58, 32, 49, 13, 10, 67, 111, 110, 116, 101, 110, 116, 45, 76, 101, 110, 103, 116, 104, 58, 32, 50, 13, 10, 13, 10, 104, 105]) = false := by rw [hTX, ByteArray.toList_eq]; decide
  clear hTX
  have hz1 : TX.size + 1 ≤ 9223372036854775807 := by omega
  go_wp2_with fail
  refine (HPa.out _ (HE.out.below HB1.out)).mono ?_
  rintro e w2 ⟨rs, fa, fl, fc, st, mi, kd, ln, pe, rfl, hb2⟩
  have HB2 : Hid (Below w.heap.size w w2) := bel_trans HB1.out hb2
  clear hb2 HPa
  go_wp2
  go_ret
  exact ⟨rfl, HB2.out.alloc HB2.out.size _⟩
end Ms
end Go.Proofs.YtdcfhnbagldilaaGreatDoor
