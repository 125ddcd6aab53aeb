/-
  message: awake (written by mkmtb.py).
-/
import Derived.Test.YtiabbppbmcnddaaGreatDoorMgD1
import Derived.Test.YtiabbppbmcnddaaGreatDoorMsV
set_option linter.unusedVariables false
set_option linter.unusedSimpArgs false
set_option maxRecDepth 100000
namespace Go.Proofs.YtiabbppbmcnddaaGreatDoor
open Go.RowKit Go.Shelf
namespace Ms
open Oc Tg _root_.Go.Proofs.YtiabbppbmcnddaaGreatDoor.Fd _root_.Go.Proofs.YtiabbppbmcnddaaGreatDoor.Ck

def aR : Rs := ⟨200, [], [([65], [49])], [104, 105]⟩
def aM : Mn := ⟨[71, 69, 84], false, false, false, [], []⟩
def aT : List UInt8 := [72, 84, 84, 80, 47, 49, 46, 49, 32, 50, 48, 48, 32, 79, 75, 13, 10, 65, 58, 32, 49, 13, 10, 67, 111, 110, 116, 101, 110, 116, 45, 76, 101, 110, 103, 116, 104, 58, 32, 50, 13, 10, 13, 10, 104, 105]
theorem itoa_2 : Lib.itoa 2 = [50] := by
  rw [itoa_decD 2 (by omega), if_neg (by omega), show (2 : Int).natAbs = 2 from rfl, decD_step 2 (by omega)]
  rfl
theorem itoa_200 : Lib.itoa 200 = [50, 48, 48] := by
  rw [itoa_decD 200 (by omega), if_neg (by omega), show (200 : Int).natAbs = 200 from rfl, decD_step 200 (by omega), show 200 / 10 = 20 from rfl, decD_step 20 (by omega), show 20 / 10 = 2 from rfl, decD_step 2 (by omega)]
  rfl
theorem beh_a : behF aR aM = [(nCL, [50])] := by
  unfold behF
  rw [show (aR.bd.length : Int) = 2 from rfl, itoa_2]
  rfl
theorem head_a : headR aR aM = (aT.take 44, 0) := by
  unfold headR hdP
  rw [beh_a, show aR.st = 200 from rfl, itoa_200]
  decide +kernel
theorem prn_a : prnN aR aM = (aT, 0) := by
  unfold prnN
  rw [head_a]
  decide +kernel
def aH : BR := rspR (newH (aT ++ [120]) false) [71, 69, 84] 2
theorem aH_done : aH.done = true := by decide +kernel
theorem aH_err : aH.err = 0 := by decide +kernel
theorem aH_bd : aH.bd = [104, 105] := by decide +kernel
theorem aH_used : aH.s.used = 46 := by decide +kernel
theorem aH_kind : (hRun (newH (aT ++ [120]) false) (aT ++ [120])).1.kind = 1 := by decide +kernel

set_option maxHeartbeats 2000000 in
theorem awake_any (w : World) (hw : Env w) (hp : Pow w) :
    Calls Tryz.prog 9 #[] w fun e w' => e = .returned (.bool true) ∧ Below w.heap.size w w' := by
  obtain ⟨W0, hW0⟩ : ∃ W0, W0 = w.alloc (.cells #[.string ⟨#[65]⟩, .string ⟨#[49]⟩] 66) := ⟨_, rfl⟩
  have hb0 : Below w.heap.size w W0 := by rw [hW0]; exact (Below.refl _ w).alloc (Nat.le_refl _) _
  have hf : InF (.slice (some ⟨w.heap.size, 0, none⟩) 1 1) aR.fs W0 := by
    rw [hW0]
    exact ⟨rd_oneF w 66 ([65], [49]), fun h => by cases h⟩
  have hPr := Print_nc aR aM rfl ⟨by decide, by decide⟩ (by decide) (by decide) (by decide) (.slice (some ⟨w.heap.size, 0, none⟩) 1 1) (.slice none 0 0) (.slice none 0 0) none 0 rfl W0 hf ⟨none, 0, rfl, .inl rfl⟩ (hp.below hb0 (Nat.le_refl _)) (hw.below hb0).1
  rw [prn_a] at hPr
  have HPr : Hid (Calls Tryz.prog 21 #[.agg #[.int .i64 200, .string ⟨#[]⟩, .slice (some ⟨w.heap.size, 0, none⟩) 1 1, .string ⟨#[104, 105]⟩], .agg #[.string ⟨#[71, 69, 84]⟩, .bool false, .bool false, .bool false, .slice none 0 0, .slice none 0 0]] W0 fun e w' => e = .returned (.tuple #[.string ⟨#[72, 84, 84, 80, 47, 49, 46, 49, 32, 50, 48, 48, 32, 79, 75, 13, 10, 65, 58, 32, 49, 13, 10, 67, 111, 110, 116, 101, 110, 116, 45, 76, 101, 110, 103, 116, 104, 58, 32, 50, 13, 10, 13, 10, 104, 105]⟩, .int .i64 0]) ∧ Below W0.heap.size W0 w') := hPr
  have HPa : Hid (∀ W, Env W → Calls Tryz.prog 28 #[.string ⟨#[71, 69, 84]⟩, .string (⟨#[72, 84, 84, 80, 47, 49, 46, 49, 32, 50, 48, 48, 32, 79, 75, 13, 10, 65, 58, 32, 49, 13, 10, 67, 111, 110, 116, 101, 110, 116, 45, 76, 101, 110, 103, 116, 104, 58, 32, 50, 13, 10, 13, 10, 104, 105]⟩ ++ ⟨#[120]⟩), .int .i64 2, .bool false] W fun e w' => ∃ (rs : ByteArray) (fa : Option Addr) (fl fc : Nat) (st mi kd ln : Int) (pe : Bool), e = .returned (.tuple #[.agg #[.int .i64 st, .string rs, .slice fa fl fc, .string ⟨#[104, 105]⟩, .int .i64 mi, .slice none 0 0, .int .i64 kd, .int .i64 ln, .bool pe], .int .i64 46, .int .i64 0]) ∧ Below (World.heap W).size W w') := fun W hW => by
    have hl : ((⟨#[72, 84, 84, 80, 47, 49, 46, 49, 32, 50, 48, 48, 32, 79, 75, 13, 10, 65, 58, 32, 49, 13, 10, 67, 111, 110, 116, 101, 110, 116, 45, 76, 101, 110, 103, 116, 104, 58, 32, 50, 13, 10, 13, 10, 104, 105]⟩ : ByteArray) ++ ⟨#[120]⟩).data.toList = aT ++ [120] := by simp [aT]
    have h := Parse_nc ⟨#[71, 69, 84]⟩ ((⟨#[72, 84, 84, 80, 47, 49, 46, 49, 32, 50, 48, 48, 32, 79, 75, 13, 10, 65, 58, 32, 49, 13, 10, 67, 111, 110, 116, 101, 110, 116, 45, 76, 101, 110, 103, 116, 104, 58, 32, 50, 13, 10, 13, 10, 104, 105]⟩ : ByteArray) ++ ⟨#[120]⟩) 2 false (by omega) (by rw [← size_list, hl]; decide) W hW (by
      rw [hl]
      intro _ _ _
      rw [aH_kind]
      decide)
    rw [hl] at h
    refine h.mono ?_
    rintro e w' ⟨vf, rfl, ho, hb⟩
    obtain ⟨fa, fc, rfl⟩ := ownF_form ho
    have e1 : rspR (newH (aT ++ [120]) false) (⟨#[71, 69, 84]⟩ : ByteArray).data.toList 2 = aH := rfl
    rw [e1]
    have e2 : ∀ z v, parC aH z v = (repC aH.s aH.bd v (.slice none 0 0), (aH.s.used : Int), 0) := fun z v => by
      unfold parC
      rw [if_neg (fun h => h aH_err), if_neg (by rw [aH_done]; simp)]
    rw [e2, aH_bd, aH_used]
    exact ⟨_, _, _, _, _, _, _, _, _, rfl, hb⟩
  have HW0 : Hid (W0 = _) := hW0
  have HB0 : Hid (Below w.heap.size w W0) := hb0
  have HE : Hid (Env w) := hw
  clear hW0 hb0 hf hPr hw hp
  go_enter Tryz.func9, Tryz.ntmps9
  go_wp2_with fail
  rw [← HW0.out]
  refine HPr.out.mono ?_
  rintro e w1 ⟨rfl, hb1⟩
  have HB1 : Hid (Below w.heap.size w w1) := HB0.out.trans (hb1.mono HB0.out.size)
  clear hb1 HPr HW0
  obtain ⟨TX, hTX⟩ : ∃ TX, TX = (⟨#[72, 84, 84, 80, 47, 49, 46, 49, 32, 50, 48, 48, 32, 79, 75, 13, 10, 65, 58, 32, 49, 13, 10, 67, 111, 110, 116, 101, 110, 116, 45, 76, 101, 110, 103, 116, 104, 58, 32, 50, 13, 10, 13, 10, 104, 105]⟩ : ByteArray) := ⟨_, rfl⟩
  have hz : TX.size = 46 := by rw [hTX]; rfl
  rw [← hTX] at HPa ⊢
  have hq1 : (TX.toList == [72, 84, 84, 80, 47, 49, 46, 49, 32, 50, 48, 48, 32, 79, 75, 13, 10, 65, 58, 32, 49, 13, 10, 67, 111, 110, 116, 101, 110, 116, 45, 76, 101, 110, 103, 116, 104, 58, 32, 50, 13, 10, 13, 10, 104, 105]) = true := by rw [hTX, ByteArray.toList_eq]; decide
  have hq2 : (TX.toList != [72, 84, 84, 80, 47, 49, 46, 49, 32, 50, 48, 48, 32, 79, 75, 13, 10, 65, 58, 32, 49, 13, 10, 67, 111, 110, 116, 101, 110, 116, 45, 76, 101, 110, 103, 116, 104, 58, 32, 50, 13, 10, 13, 10, 104, 105]) = false := by rw [hTX, ByteArray.toList_eq]; decide
  clear hTX
  have hz1 : TX.size + 1 ≤ 9223372036854775807 := by omega
  go_wp2_with fail
  refine (HPa.out _ (HE.out.below HB1.out)).mono ?_
  rintro e w2 ⟨rs, fa, fl, fc, st, mi, kd, ln, pe, rfl, hb2⟩
  have HB2 : Hid (Below w.heap.size w w2) := bel_trans HB1.out hb2
  clear hb2 HPa
  go_wp2
  go_ret
  exact ⟨rfl, HB2.out.alloc HB2.out.size _⟩

end Ms
end Go.Proofs.YtiabbppbmcnddaaGreatDoor
