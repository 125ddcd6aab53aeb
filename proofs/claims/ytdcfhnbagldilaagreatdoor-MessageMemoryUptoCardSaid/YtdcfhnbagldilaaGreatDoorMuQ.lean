import Derived.Test.YtdcfhnbagldilaaGreatDoorMgZ
import Derived.Test.YtdcfhnbagldilaaGreatDoorMgD1
import Derived.Test.YtdcfhnbagldilaaGreatDoorMgM
import Derived.Deep.Cut
import Derived.Deep.CutRange
set_option linter.unusedVariables false
set_option linter.unusedSimpArgs false
set_option maxRecDepth 100000
namespace Go.Proofs.YtdcfhnbagldilaaGreatDoor
open Go.RowKit Go.Shelf
namespace Ms
open Oc Tg _root_.Go.Proofs.YtdcfhnbagldilaaGreatDoor.Fd _root_.Go.Proofs.YtdcfhnbagldilaaGreatDoor.Ck
theorem Blk.low {T : Nat} {w w' : World} {D n : Nat} {cs : List Value} (h : Blk T w D cs) (b : Below n w w') (hD : D < n) : Blk T w' D cs := by
  unfold Blk at *
  rw [b.block D hD]
  exact h
def repD (h : Hd) (bd : List UInt8) (vf vt : Value) : List Value := [.int .i64 h.st, .string (str h.rs), vf, .string (str bd), .int .i64 h.mi, vt, .int .i64 h.kind, .int .i64 h.len, .bool h.per]
def ansH (R : Option Hd × Int × Int) (vf : Value) : List Value := match R.1 with
  | none => zeroC
  | some h => repD h [] vf (.slice none 0 0)
def HdO (FT : Nat) (R : Option Hd × Int × Int) (vf : Value) (n : Nat) (w : World) : Prop := ∀ h, R.1 = some h → OwnF FT n vf h.fs w
theorem w64 (x : Int) (h : -9223372036854775808 ≤ x ∧ x ≤ 9223372036854775807) : wrap64 x = x := by unfold wrap64; omega
theorem i64wr (x : Int) (h : -9223372036854775808 ≤ x ∧ x ≤ 9223372036854775807) : IntKind.i64.wrap x = x := by simp [IntKind.wrap, IntKind.signed, IntKind.bits]; omega
theorem u8w (x : Int) (h : 0 ≤ x ∧ x ≤ 255) : IntKind.u8.wrap x = x := by simp [IntKind.wrap, IntKind.signed, IntKind.bits]; omega
def PQ (w : World) (g0 : Nat) (st mi : Int) (wx : World) : Prop := Blk 39 wx g0 zeroC ∧ Blk 39 wx (g0 + 1) [.int .i64 st, .string ⟨#[]⟩, .slice none 0 0, .string ⟨#[]⟩, .int .i64 mi, .slice none 0 0, .int .i64 0, .int .i64 0, .bool false] ∧ Below g0 w wx ∧ wx.heap.size = g0 + 2
structure LP (B : ByteArray) (R : Option Hd × Int × Int) (st mi : Int) (rs : List UInt8) (RS : ByteArray) (w : World) (g0 a : Nat) (fs : List Fl) (vf : Value) (wr : World) : Prop where
  res : Blk 39 wr g0 zeroC
  own : Blk 39 wr (g0 + 1) [.int .i64 st, .string RS, vf, .string ⟨#[]⟩, .int .i64 mi, .slice none 0 0, .int .i64 0, .int .i64 0, .bool false]
  rowf : OwnF 64 (g0 + 2) vf fs wr
  bel : Below g0 w wr
  siz : g0 + 2 ≤ wr.heap.size
  a1 : a ≤ B.size
  a2 : a ≤ 65536
  sum : sumF fs ≤ a
  cnt : fs.length ≤ 100
  eq : ∃ f, B.size < a + f ∧ R = docL B st rs mi f a fs
theorem parse_sum (fs : List Fl) (a e : Nat) (l : List UInt8) (hl : l.length + 2 + a ≤ e) (h : sumF fs ≤ a) (hp : (parseL l).2.2 = 0) : sumF (fs ++ [(parseL l).1]) ≤ e := by
  have h1 := parseL_sz l hp
  have : sumF (fs ++ [(parseL l).1]) = sumF fs + szF (parseL l).1 := by
    unfold sumF
    rw [List.map_append, List.sum_append]
    simp
  omega
theorem lnT_len (B : ByteArray) (a e : Nat) (he : (lineR B a).1 = (e : Int)) : lnT B a = (B.extract a (e - 2)).data.toList := by
  unfold lnT
  rw [he, Lib.extract_data]
  rfl
set_option maxHeartbeats 8000000 in
theorem rParseHead_any (B : ByteArray) (hB : B.size ≤ 2000000) (w : World) :
    Calls Tryz.prog 7 #[.string B] w fun e w' => ∃ vf, e = .returned (.tuple #[.agg (ansH (docH B) vf).toArray, .int .i64 (docH B).2.1, .int .i64 (docH B).2.2]) ∧ HdO 64 (docH B) vf w.heap.size w' ∧ Below w.heap.size w w' := by
  have HSt : Hid (∀ W, Calls _ _ _ W _) := fun W => rstatus_any B (by omega) W
  have hyes := stA_yes B 13 0 rfl (by omega) (Nat.zero_le _)
  have es : stA B 13 0 = statusR B := rfl
  rw [es] at hyes
  have HD : Hid (docH B = if (statusR B).2.2 = false then (none, (statusR B).1, (statusR B).2.1) else docL B (stD B) ((B.data.toList.drop 13).take ((statusR B).1.toNat - 15)) (miD B) (B.size + 1) (statusR B).1.toNat []) := rfl
  have hstD : stD B = 100 * (byt B 9 - 48) + 10 * (byt B 10 - 48) + (byt B 11 - 48) := rfl
  have hmiD : miD B = byt B 7 - 48 := rfl
  have HLn : Hid (∀ a W, a ≤ B.size → Calls Tryz.prog 14 #[.string B, .int .i64 (a : Int)] W fun e w' => e = .returned (.tuple #[.int .i64 (lineR B a).1, .int .i64 (lineR B a).2.1, .bool (lineR B a).2.2]) ∧ w' = W) := fun a W h => rline_any B (by omega) a h W
  generalize stD B = st at *
  generalize miD B = mi at *
  generalize hDH : docH B = R at *
  clear hDH
  generalize statusR B = Y at *
  obtain ⟨e0, z0, b0⟩ := Y
  dsimp only at HSt hyes HD
  obtain ⟨wR, hwR⟩ : ∃ wR, wR = w.alloc (.cells #[.int .i64 0, .string ⟨#[]⟩, .slice none 0 0, .string ⟨#[]⟩, .int .i64 0, .slice none 0 0, .int .i64 0, .int .i64 0, .bool false] 39) := ⟨_, rfl⟩
  have HB0 : Hid (Below w.heap.size w wR) := (by rw [hwR]; exact (Below.refl _ w).alloc (Nat.le_refl _) _ : Below _ _ _)
  have HR0 : Hid (Blk 39 wR w.heap.size zeroC) := (by rw [hwR]; exact heap_alloc_new w _ : Blk _ _ _ _)
  have hsR : wR.heap.size = w.heap.size + 1 := by rw [hwR]; simp
  go_enter Tryz.func7, Tryz.ntmps7
  go_wp2_with fail
  rw [← hwR]
  refine (HSt.out wR).mono ?_
  rintro e w1 ⟨rfl, hw1⟩
  rw [hw1]
  clear hw1 hwR HSt es
  generalize hg0 : w.heap.size = g0 at *
  have HG0 : Hid (w.heap.size = g0) := hg0
  clear hg0
  cases b0 with
  | false =>
    have HQ : Hid (R = (none, e0, z0)) := (by rw [HD.out]; rfl : _ = _)
    clear HD hyes
    have r0 := HR0.out.cell 0 rfl
    have r1 := HR0.out.cell 1 rfl
    have r2 := HR0.out.cell 2 rfl
    have r3 := HR0.out.cell 3 rfl
    have r4 := HR0.out.cell 4 rfl
    have r5 := HR0.out.cell 5 rfl
    have r6 := HR0.out.cell 6 rfl
    have r7 := HR0.out.cell 7 rfl
    have r8 := HR0.out.cell 8 rfl
    have rf := HR0.out.free
    go_wp2
    have hB9 := set9_blk HR0.out (.int .i64 0) (.string ⟨#[]⟩) (.slice none 0 0) (.string ⟨#[]⟩) (.int .i64 0) (.slice none 0 0) (.int .i64 0) (.int .i64 0) (.bool false)
    have hb9 := set9_but wR g0 (.int .i64 0) (.string ⟨#[]⟩) (.slice none 0 0) (.string ⟨#[]⟩) (.int .i64 0) (.slice none 0 0) (.int .i64 0) (.int .i64 0) (.bool false)
    have hl9 : Below g0 wR (set9 wR g0 (.int .i64 0) (.string ⟨#[]⟩) (.slice none 0 0) (.string ⟨#[]⟩) (.int .i64 0) (.slice none 0 0) (.int .i64 0) (.int .i64 0) (.bool false)) := hb9.below (by have := HR0.out.lt; omega) (fun x hx => by simp at hx; omega)
    obtain ⟨W9, hW9⟩ : ∃ W9, W9 = (set9 wR g0 (.int .i64 0) (.string ⟨#[]⟩) (.slice none 0 0) (.string ⟨#[]⟩) (.int .i64 0) (.slice none 0 0) (.int .i64 0) (.int .i64 0) (.bool false)) := ⟨_, rfl⟩
    have HL9 : Hid (Below g0 w W9) := (by rw [hW9]; exact HB0.out.trans hl9 : Below _ _ _)
    have hB9' : Blk 39 W9 g0 [.int .i64 0, .string ⟨#[]⟩, .slice none 0 0, .string ⟨#[]⟩, .int .i64 0, .slice none 0 0, .int .i64 0, .int .i64 0, .bool false] := by rw [hW9]; exact hB9
    have hW9' : (((((((((wR.setCell ⟨g0, 0, none⟩ (.int .i64 0)).setCell ⟨g0, 1, none⟩ (.string ⟨#[]⟩)).setCell ⟨g0, 2, none⟩ (.slice none 0 0)).setCell ⟨g0, 3, none⟩ (.string ⟨#[]⟩)).setCell ⟨g0, 4, none⟩ (.int .i64 0)).setCell ⟨g0, 5, none⟩ (.slice none 0 0)).setCell ⟨g0, 6, none⟩ (.int .i64 0)).setCell ⟨g0, 7, none⟩ (.int .i64 0)).setCell ⟨g0, 8, none⟩ (.bool false)) = W9 := hW9.symm
    rw [hW9']
    have q0 := hB9'.cell 0 rfl
    have q1 := hB9'.cell 1 rfl
    have q2 := hB9'.cell 2 rfl
    have q3 := hB9'.cell 3 rfl
    have q4 := hB9'.cell 4 rfl
    have q5 := hB9'.cell 5 rfl
    have q6 := hB9'.cell 6 rfl
    have q7 := hB9'.cell 7 rfl
    have q8 := hB9'.cell 8 rfl
    clear hB9 hb9 hl9 hW9 hW9' hB9'
    refine bodyPost_ret (v := .tuple #[.agg #[.int .i64 0, .string ⟨#[]⟩, .slice none 0 0, .string ⟨#[]⟩, .int .i64 0, .slice none 0 0, .int .i64 0, .int .i64 0, .bool false], .int .i64 e0, .int .i64 z0]) (by simp [results, Tryz.results7, go_sem, q0, q1, q2, q3, q4, q5, q6, q7, q8]) rfl ?_
    rw [HG0.out, HQ.out]
    exact ⟨.slice none 0 0, rfl, (fun h hh => by cases hh), HL9.out⟩
  | true =>
  obtain ⟨⟨b1, b2, b3⟩, hgon⟩ := hyes rfl
  obtain ⟨n0, rfl⟩ : ∃ n0 : Nat, e0 = (n0 : Int) := ⟨e0.toNat, by omega⟩
  have HD2 : Hid (R = docL B st ((B.data.toList.drop 13).take (n0 - 15)) mi (B.size + 1) n0 []) := (by rw [HD.out]; rfl : _ = _)
  have hex : (B.extract 13 (n0 - 2)).data.toList = (B.data.toList.drop 13).take (n0 - 15) := by
    rw [Lib.extract_data, show n0 - 2 - 13 = n0 - 15 by omega]
  have hexs : B.extract 13 (n0 - 2) = str ((B.data.toList.drop 13).take (n0 - 15)) := by rw [← hex, str_self]
  generalize (B.data.toList.drop 13).take (n0 - 15) = rs at *
  have hby7 : ((B[7].toNat : Nat) : Int) = byt B 7 := byt_at B 7 (by omega)
  have hby9 : ((B[9].toNat : Nat) : Int) = byt B 9 := byt_at B 9 (by omega)
  have hby10 : ((B[10].toNat : Nat) : Int) = byt B 10 := byt_at B 10 (by omega)
  have hby11 : ((B[11].toNat : Nat) : Int) = byt B 11 := byt_at B 11 (by omega)
  have d7 := dig_7 _ (hgon 7 (by omega) (by omega))
  have d9 := dig_9 _ (hgon 9 (by omega) (by omega))
  have d10 := dig_bd 10 (.inl rfl) _ (hgon 10 (by omega) (by omega))
  have d11 := dig_bd 11 (.inr rfl) _ (hgon 11 (by omega) (by omega))
  clear hgon hyes HD
  generalize byt B 7 = u7 at *
  generalize byt B 9 = u9 at *
  generalize byt B 10 = u10 at *
  generalize byt B 11 = u11 at *
  have k7 : IntKind.u8.wrap (u7 - 48) = mi := by rw [hmiD]; rcases d7 with h | h <;> rw [h] <;> rfl
  have vm : IntKind.i64.wrap mi = mi := by simp [IntKind.wrap, IntKind.signed, IntKind.bits]; omega
  have h15 : 15 ≤ B.size := by omega
  have hmi0 : 0 ≤ mi ∧ mi ≤ 1 := by omega
  have i9 : (9 : Int) < (B.size : Int) := by omega
  have i10 : (10 : Int) < (B.size : Int) := by omega
  have i11 : (11 : Int) < (B.size : Int) := by omega
  obtain ⟨m0, hm0⟩ : ∃ m0 : Nat, (n0 : Int) - 2 = (m0 : Int) := ⟨n0 - 2, by omega⟩
  have hm1 : (13 : Int) ≤ (m0 : Int) := by omega
  have hm2 : (m0 : Int) ≤ (B.size : Int) := by omega
  obtain ⟨RS, hRS⟩ : ∃ RS, RS = str rs := ⟨_, rfl⟩
  have HRS : Hid (RS = str rs) := hRS
  have hexs2 : B.extract 13 m0 = RS := by rw [hRS, ← hexs]; congr 1; omega
  have HST : Hid (st = 100 * (u9 - 48) + 10 * (u10 - 48) + (u11 - 48) ∧ (49 ≤ u9 ∧ u9 ≤ 53) ∧ (48 ≤ u10 ∧ u10 ≤ 57) ∧ 48 ≤ u11 ∧ u11 ≤ 57) := (⟨hstD, d9, d10, d11⟩ : _ ∧ _)
  clear hex hexs hRS d7 hmiD hstD d9 d10 d11
  obtain ⟨w2, hw2⟩ : ∃ w2, w2 = wR.alloc (.cells #[.int .i64 0, .string ⟨#[]⟩, .slice none 0 0, .string ⟨#[]⟩, .int .i64 mi, .slice none 0 0, .int .i64 0, .int .i64 0, .bool false] 39) := ⟨_, rfl⟩
  have HW2 : Hid (w2 = _) := hw2
  have HB2 : Hid (Below g0 w w2) := (by rw [hw2]; exact HB0.out.alloc (by omega) _ : Below _ _ _)
  have HR2 : Hid (Blk 39 w2 g0 zeroC) := (by rw [hw2]; exact HR0.out.below ((Below.refl _ _).alloc (Nat.le_refl _) _) : Blk _ _ _ _)
  have HQ2 : Hid (Blk 39 w2 (g0 + 1) [.int .i64 0, .string ⟨#[]⟩, .slice none 0 0, .string ⟨#[]⟩, .int .i64 mi, .slice none 0 0, .int .i64 0, .int .i64 0, .bool false]) := (by rw [hw2, ← hsR]; exact heap_alloc_new wR _ : Blk _ _ _ _)
  have HS2 : Hid (w2.heap.size = g0 + 2) := (by rw [hw2]; simp; omega : w2.heap.size = g0 + 2)
  have HM : Hid (∀ x, x = st → PQ w g0 st mi ((w2.setCell ⟨g0 + 1, 0, none⟩ (.int .i64 x)).drew)) := fun x hx => by
    subst hx
    have hb := setD (But.refl [g0 + 1] w2) 0 (.int .i64 x)
    exact ⟨(HR2.out.but hb (by simp)).but (But.refl [] _).drew (fun e => by cases e), (HQ2.out.set 0 _).but (But.refl [] _).drew (fun e => by cases e), HB2.out.trans ((hb.below (by have := HS2.out; omega) (fun x hx => by simp at hx; omega)).drew), by show (w2.setCell _ _).heap.size = _; rw [World.size_setCell]; exact HS2.out⟩
  clear hw2
  go_wp2_with fail
  rw [← HW2.out]
  clear HW2 HB0 HR0 hsR
  have c0 := HQ2.out.cell 0 rfl
  have d0 : w2.drew.cell? ⟨g0 + 1, 0, none⟩ = _ := c0
  have cf := HQ2.out.free
  have df : ∀ i, w2.drew.frozen? ⟨g0 + 1, i, none⟩ = false := cf
  go_cut [] from 34 to 51 (fun wx => Hid (PQ w g0 st mi wx))
  case first =>
    go_region_law (fail)
    all_goals
      go_wp2_with fail
      go_meet
      refine (HM.out _ ?_ : PQ _ _ _ _ _)
      obtain ⟨e1, e2, e3, e4⟩ := HST.out
      have a9 : (u9 - 48) % 256 = u9 - 48 := by omega
      have a10 : (u10 - 48) % 256 = u10 - 48 := by omega
      have a11 : (u11 - 48) % 256 = u11 - 48 := by omega
      have b9 : IntKind.u8.wrap (u9 - 48) = u9 - 48 := u8w _ (by omega)
      have b10 : IntKind.u8.wrap (u10 - 48) = u10 - 48 := u8w _ (by omega)
      have b11 : IntKind.u8.wrap (u11 - 48) = u11 - 48 := u8w _ (by omega)
      simp only [a9, a10, a11, b9, b10, b11]
      first
        | (rw [w64 (u9 - 48) (by omega), w64 (100 * (u9 - 48)) (by omega), w64 (u10 - 48) (by omega), w64 (10 * (u10 - 48)) (by omega), w64 (100 * (u9 - 48) + 10 * (u10 - 48)) (by omega), w64 (u11 - 48) (by omega), w64 (100 * (u9 - 48) + 10 * (u10 - 48) + (u11 - 48)) (by omega)]; exact e1.symm)
        | (rw [i64wr (u9 - 48) (by omega), i64wr (100 * (u9 - 48)) (by omega), i64wr (u10 - 48) (by omega), i64wr (10 * (u10 - 48)) (by omega), i64wr (100 * (u9 - 48) + 10 * (u10 - 48)) (by omega), i64wr (u11 - 48) (by omega), i64wr (100 * (u9 - 48) + 10 * (u10 - 48) + (u11 - 48)) (by omega)]; exact e1.symm)
  case rest =>
  obtain ⟨hR3, hQ3, hB3, hs3⟩ := hcut.out
  have HR3 : Hid (Blk 39 wc g0 zeroC) := hR3
  have HQ3 : Hid (Blk 39 wc (g0 + 1) [.int .i64 st, .string ⟨#[]⟩, .slice none 0 0, .string ⟨#[]⟩, .int .i64 mi, .slice none 0 0, .int .i64 0, .int .i64 0, .bool false]) := hQ3
  have HB3 : Hid (Below g0 w wc) := hB3
  have HS3 : Hid (wc.heap.size = g0 + 2) := hs3
  have c1 := HQ3.out.cell 1 rfl
  have f1 := HQ3.out.free 1
  clear hR3 hQ3 hB3 hs3 hcut HM HR2 HQ2 HS2 HB2 c0 d0 cf df HST k7 hby9 hby10 hby11 i9 i10 i11
  have HL4 : Hid (LP B R st mi rs RS w g0 n0 [] (.slice none 0 0) (wc.setCell ⟨g0 + 1, 1, none⟩ (.string RS))) := (by
    have hb := setD (But.refl [g0 + 1] wc) 1 (.string RS)
    exact ⟨HR3.out.but hb (by simp), HQ3.out.set 1 _, ownF_nil _ _ _, HB3.out.trans (hb.below (by have := HS3.out; omega) (fun x hx => by simp at hx; omega)), by rw [World.size_setCell]; have := HS3.out; omega, by omega, by omega, Nat.zero_le _, Nat.zero_le _, _, (by omega : B.size < n0 + (B.size + 1)), HD2.out⟩ : LP _ _ _ _ _ _ _ _ _ _ _ _)
  clear HR3 HQ3 HB3 HS3 HD2
  go_wp2
  generalize wc.setCell ⟨g0 + 1, 1, none⟩ (.string RS) = w4 at *
  clear c1 f1 hexs2 hm1 hm2 hm0 hby7 vm
  go_loopw [5] (fun v wr => ∃ (a : Nat) (fs : List Fl) (vf : Value), v = .int .i64 (a : Int) ∧ Hid (LP B R st mi rs RS w g0 a fs vf wr)) (fun v _ => B.size - (intOf v).toNat)
  case atStart => exact ⟨n0, [], _, rfl, HL4.out⟩
  case round =>
    obtain ⟨a, fs, vf, rfl, hL⟩ := hrel
    obtain ⟨hres, hown, hfs, hbel, hsiz, ha1, ha2, hsum, hcnt, f, hf, hR⟩ := hL.out
    obtain ⟨va, vc, rfl⟩ := ownF_form hfs
    have HR4 : Hid (Blk 39 wr g0 zeroC) := hres
    have HQ4 : Hid (Blk 39 wr (g0 + 1) [.int .i64 st, .string RS, .slice va fs.length vc, .string ⟨#[]⟩, .int .i64 mi, .slice none 0 0, .int .i64 0, .int .i64 0, .bool false]) := hown
    have HF4 : Hid (OwnF 64 (g0 + 2) (.slice va fs.length vc) fs wr) := hfs
    have HB4 : Hid (Below g0 w wr) := hbel
    obtain ⟨f, rfl⟩ : ∃ k, f = k + 1 := ⟨f - 1, by omega⟩
    rw [docL_on] at hR
    have HLc : Hid (Calls _ _ _ _ _) := HLn.out a wr ha1
    have hbd := line_bd B a ha2
    have hlt := lnT_len B a
    have HTx : Hid (∀ e : Nat, (lineR B a).1 = (e : Int) → lnT B a = (B.extract a (e - 2)).data.toList) := hlt
    generalize lnT B a = TL at *
    generalize lineR B a = Y at *
    obtain ⟨e1, z1, b1⟩ := Y
    dsimp only at HLc hbd HTx hR
    have HRe : Hid (R = _) := hR
    clear hL hres hown hfs hbel hR hlt
    cases b1 with
    | false =>
      have HQ : Hid (R = (none, e1, z1)) := (by rw [HRe.out]; rfl : _ = _)
      clear HRe hbd
      have r0 := HR4.out.cell 0 rfl
      have r1 := HR4.out.cell 1 rfl
      have r2 := HR4.out.cell 2 rfl
      have r3 := HR4.out.cell 3 rfl
      have r4 := HR4.out.cell 4 rfl
      have r5 := HR4.out.cell 5 rfl
      have r6 := HR4.out.cell 6 rfl
      have r7 := HR4.out.cell 7 rfl
      have r8 := HR4.out.cell 8 rfl
      have rf := HR4.out.free
      go_wp2_with fail
      refine HLc.out.mono ?_
      rintro e w9 ⟨rfl, hw9⟩
      rw [hw9]
      clear hw9
      go_wp2
      have hB9 := set9_blk HR4.out (.int .i64 0) (.string ⟨#[]⟩) (.slice none 0 0) (.string ⟨#[]⟩) (.int .i64 0) (.slice none 0 0) (.int .i64 0) (.int .i64 0) (.bool false)
      have hb9 := set9_but wr g0 (.int .i64 0) (.string ⟨#[]⟩) (.slice none 0 0) (.string ⟨#[]⟩) (.int .i64 0) (.slice none 0 0) (.int .i64 0) (.int .i64 0) (.bool false)
      have hl9 : Below g0 wr (set9 wr g0 (.int .i64 0) (.string ⟨#[]⟩) (.slice none 0 0) (.string ⟨#[]⟩) (.int .i64 0) (.slice none 0 0) (.int .i64 0) (.int .i64 0) (.bool false)) := hb9.below (by have := HR4.out.lt; omega) (fun x hx => by simp at hx; omega)
      obtain ⟨W9, hW9⟩ : ∃ W9, W9 = (set9 wr g0 (.int .i64 0) (.string ⟨#[]⟩) (.slice none 0 0) (.string ⟨#[]⟩) (.int .i64 0) (.slice none 0 0) (.int .i64 0) (.int .i64 0) (.bool false)) := ⟨_, rfl⟩
      have HL9 : Hid (Below g0 w W9) := (by rw [hW9]; exact HB4.out.trans hl9 : Below _ _ _)
      have hB9' : Blk 39 W9 g0 [.int .i64 0, .string ⟨#[]⟩, .slice none 0 0, .string ⟨#[]⟩, .int .i64 0, .slice none 0 0, .int .i64 0, .int .i64 0, .bool false] := by rw [hW9]; exact hB9
      have hW9' : (((((((((wr.setCell ⟨g0, 0, none⟩ (.int .i64 0)).setCell ⟨g0, 1, none⟩ (.string ⟨#[]⟩)).setCell ⟨g0, 2, none⟩ (.slice none 0 0)).setCell ⟨g0, 3, none⟩ (.string ⟨#[]⟩)).setCell ⟨g0, 4, none⟩ (.int .i64 0)).setCell ⟨g0, 5, none⟩ (.slice none 0 0)).setCell ⟨g0, 6, none⟩ (.int .i64 0)).setCell ⟨g0, 7, none⟩ (.int .i64 0)).setCell ⟨g0, 8, none⟩ (.bool false)) = W9 := hW9.symm
      rw [hW9']
      have q0 := hB9'.cell 0 rfl
      have q1 := hB9'.cell 1 rfl
      have q2 := hB9'.cell 2 rfl
      have q3 := hB9'.cell 3 rfl
      have q4 := hB9'.cell 4 rfl
      have q5 := hB9'.cell 5 rfl
      have q6 := hB9'.cell 6 rfl
      have q7 := hB9'.cell 7 rfl
      have q8 := hB9'.cell 8 rfl
      clear hB9 hb9 hl9 hW9 hW9' hB9'
      refine bodyPost_ret (v := .tuple #[.agg #[.int .i64 0, .string ⟨#[]⟩, .slice none 0 0, .string ⟨#[]⟩, .int .i64 0, .slice none 0 0, .int .i64 0, .int .i64 0, .bool false], .int .i64 e1, .int .i64 z1]) (by simp [results, Tryz.results7, go_sem, q0, q1, q2, q3, q4, q5, q6, q7, q8]) rfl ?_
      rw [HG0.out, HQ.out]
      exact ⟨.slice none 0 0, rfl, (fun h hh => by cases hh), HL9.out⟩
    | true =>
    obtain ⟨h1, h2, h3⟩ := hbd rfl
    obtain ⟨E, rfl⟩ : ∃ E : Nat, e1 = (E : Int) := ⟨e1.toNat, by omega⟩
    obtain ⟨m, hm⟩ : ∃ m : Nat, (E : Int) - 2 = (m : Int) := ⟨E - 2, by omega⟩
    have hTL : TL = (B.extract a m).data.toList := by rw [HTx.out E rfl, show E - 2 = m by omega]
    have hm1 : (a : Int) ≤ (m : Int) := by omega
    have hm2 : (m : Int) ≤ (B.size : Int) := by omega
    have hTz : (B.extract a m).size = m - a := by simp; omega
    have HTz : Hid ((B.extract a m).size = m - a) := hTz
    have HE0 : Hid (((E : Int)).toNat = E) := (rfl : _ = _)
    have HRe2 : Hid (R = if TL = [] then if (framingF fs (mi == 0)).2.2 ≠ 0 then (none, (a : Int), (framingF fs (mi == 0)).2.2) else (some ⟨st, rs, fs, mi, (framingF fs (mi == 0)).1, (framingF fs (mi == 0)).2.1, persistF fs (mi == 0)⟩, (E : Int), 0) else if fs.length = 100 then (none, (a : Int), 65) else if (parseL TL).2.2 ≠ 0 then (none, (a : Int) + ((parseL TL).2.1 : Int), (parseL TL).2.2) else docL B st rs mi f E (fs ++ [(parseL TL).1])) := (by rw [HRe.out, if_neg (by simp)]; rfl : _ = _)
    clear HRe HTx hbd
    generalize hTX : B.extract a m = TX at *
    by_cases ht : TX.size = 0
    · have hem : TX.toList.isEmpty = true := empty_of ht
      have hnil : TL = [] := by rw [hTL]; exact List.length_eq_zero_iff.1 (by rw [size_list]; exact ht)
      have HR5 : Hid (R = if (framingF fs (mi == 0)).2.2 ≠ 0 then (none, (a : Int), (framingF fs (mi == 0)).2.2) else (some ⟨st, rs, fs, mi, (framingF fs (mi == 0)).1, (framingF fs (mi == 0)).2.1, persistF fs (mi == 0)⟩, (E : Int), 0)) := (by rw [HRe2.out, if_pos hnil] : _ = _)
      have HFr : Hid (∀ W, RdF (.slice va fs.length vc) fs W → Calls Tryz.prog 15 #[.slice va fs.length vc, .bool (mi == 0)] W fun e w' => e = .returned (frV3 (framingF fs (mi == 0))) ∧ Below (World.heap W).size W w') := fun W h => rFraming_any _ fs _ (by omega) W h
      have HPe : Hid (∀ W, RdF (.slice va fs.length vc) fs W → Calls Tryz.prog 16 #[.slice va fs.length vc, .bool (mi == 0)] W fun e w' => e = .returned (.bool (persistF fs (mi == 0))) ∧ Below (World.heap W).size W w') := fun W h => rPersist_any _ fs _ (by omega) W h
      unfold frV3 at HFr
      generalize framingF fs (mi == 0) = FF at *
      obtain ⟨K, NN, ZZ⟩ := FF
      generalize persistF fs (mi == 0) = P at *
      generalize hold : (mi == 0) = old at *
      dsimp only at HFr HR5
      have c2 := HQ4.out.cell 2 rfl
      have c4 := HQ4.out.cell 4 rfl
      clear HRe2 hnil ht hTL HTz hTz
      go_wp2_with fail
      refine HLc.out.mono ?_
      rintro e w9 ⟨rfl, hw9⟩
      rw [hw9]
      clear hw9
      go_wp2_with fail
      refine (HFr.out wr HF4.out.rd).mono ?_
      rintro e wq ⟨rfl, hbq⟩
      have HB5 : Hid (Below g0 w wq) := HB4.out.trans (hbq.mono (by omega))
      have HR6 : Hid (Blk 39 wq g0 zeroC) := HR4.out.below hbq
      have HQ6 : Hid (Blk 39 wq (g0 + 1) [.int .i64 st, .string RS, .slice va fs.length vc, .string ⟨#[]⟩, .int .i64 mi, .slice none 0 0, .int .i64 0, .int .i64 0, .bool false]) := HQ4.out.below hbq
      have HF6 : Hid (OwnF 64 (g0 + 2) (.slice va fs.length vc) fs wq) := HF4.out.below hbq
      have hsq := hbq.size
      clear hbq c2 c4
      by_cases hz : ZZ = 0
      case neg =>
        have hz1 : (ZZ != 0) = true := by simp [hz]
        have HQ : Hid (R = (none, (a : Int), ZZ)) := (by rw [HR5.out, if_pos hz] : _ = _)
        clear HR5 hz
        have r0 := HR6.out.cell 0 rfl
        have r1 := HR6.out.cell 1 rfl
        have r2 := HR6.out.cell 2 rfl
        have r3 := HR6.out.cell 3 rfl
        have r4 := HR6.out.cell 4 rfl
        have r5 := HR6.out.cell 5 rfl
        have r6 := HR6.out.cell 6 rfl
        have r7 := HR6.out.cell 7 rfl
        have r8 := HR6.out.cell 8 rfl
        have rf := HR6.out.free
        go_wp2
        have hB9 := set9_blk HR6.out (.int .i64 0) (.string ⟨#[]⟩) (.slice none 0 0) (.string ⟨#[]⟩) (.int .i64 0) (.slice none 0 0) (.int .i64 0) (.int .i64 0) (.bool false)
        have hb9 := set9_but wq g0 (.int .i64 0) (.string ⟨#[]⟩) (.slice none 0 0) (.string ⟨#[]⟩) (.int .i64 0) (.slice none 0 0) (.int .i64 0) (.int .i64 0) (.bool false)
        have hl9 : Below g0 wq (set9 wq g0 (.int .i64 0) (.string ⟨#[]⟩) (.slice none 0 0) (.string ⟨#[]⟩) (.int .i64 0) (.slice none 0 0) (.int .i64 0) (.int .i64 0) (.bool false)) := hb9.below (by have := HR6.out.lt; omega) (fun x hx => by simp at hx; omega)
        obtain ⟨W9, hW9⟩ : ∃ W9, W9 = (set9 wq g0 (.int .i64 0) (.string ⟨#[]⟩) (.slice none 0 0) (.string ⟨#[]⟩) (.int .i64 0) (.slice none 0 0) (.int .i64 0) (.int .i64 0) (.bool false)) := ⟨_, rfl⟩
        have HL9 : Hid (Below g0 w W9) := (by rw [hW9]; exact HB5.out.trans hl9 : Below _ _ _)
        have hB9' : Blk 39 W9 g0 [.int .i64 0, .string ⟨#[]⟩, .slice none 0 0, .string ⟨#[]⟩, .int .i64 0, .slice none 0 0, .int .i64 0, .int .i64 0, .bool false] := by rw [hW9]; exact hB9
        have hW9' : (((((((((wq.setCell ⟨g0, 0, none⟩ (.int .i64 0)).setCell ⟨g0, 1, none⟩ (.string ⟨#[]⟩)).setCell ⟨g0, 2, none⟩ (.slice none 0 0)).setCell ⟨g0, 3, none⟩ (.string ⟨#[]⟩)).setCell ⟨g0, 4, none⟩ (.int .i64 0)).setCell ⟨g0, 5, none⟩ (.slice none 0 0)).setCell ⟨g0, 6, none⟩ (.int .i64 0)).setCell ⟨g0, 7, none⟩ (.int .i64 0)).setCell ⟨g0, 8, none⟩ (.bool false)) = W9 := hW9.symm
        rw [hW9']
        have q0 := hB9'.cell 0 rfl
        have q1 := hB9'.cell 1 rfl
        have q2 := hB9'.cell 2 rfl
        have q3 := hB9'.cell 3 rfl
        have q4 := hB9'.cell 4 rfl
        have q5 := hB9'.cell 5 rfl
        have q6 := hB9'.cell 6 rfl
        have q7 := hB9'.cell 7 rfl
        have q8 := hB9'.cell 8 rfl
        clear hB9 hb9 hl9 hW9 hW9' hB9'
        refine bodyPost_ret (v := .tuple #[.agg #[.int .i64 0, .string ⟨#[]⟩, .slice none 0 0, .string ⟨#[]⟩, .int .i64 0, .slice none 0 0, .int .i64 0, .int .i64 0, .bool false], .int .i64 (a : Int), .int .i64 ZZ]) (by simp [results, Tryz.results7, go_sem, q0, q1, q2, q3, q4, q5, q6, q7, q8]) rfl ?_
        rw [HG0.out, HQ.out]
        exact ⟨.slice none 0 0, rfl, (fun h hh => by cases hh), HL9.out⟩
      subst hz
      have HQ : Hid (R = (some ⟨st, rs, fs, mi, K, NN, P⟩, (E : Int), 0)) := (by rw [HR5.out, if_neg (by simp)] : _ = _)
      clear HR5
      obtain ⟨w6, hw6⟩ : ∃ w6, w6 = (wq.setCell ⟨g0 + 1, 6, none⟩ (.int .i64 K)).setCell ⟨g0 + 1, 7, none⟩ (.int .i64 NN) := ⟨_, rfl⟩
      have hb6 := setD (setD (But.refl [g0 + 1] wq) 6 (.int .i64 K)) 7 (.int .i64 NN)
      have HQ7 : Hid (Blk 39 w6 (g0 + 1) [.int .i64 st, .string RS, .slice va fs.length vc, .string ⟨#[]⟩, .int .i64 mi, .slice none 0 0, .int .i64 K, .int .i64 NN, .bool false]) := (by rw [hw6]; exact (HQ6.out.set 6 _).set 7 _ : Blk _ _ _ _)
      have HR7 : Hid (Blk 39 w6 g0 zeroC) := (by rw [hw6]; exact HR6.out.but hb6 (by simp) : Blk _ _ _ _)
      have HF7 : Hid (OwnF 64 (g0 + 2) (.slice va fs.length vc) fs w6) := (by rw [hw6]; exact HQ6.out.keep HF6.out (by decide) hb6 : OwnF _ _ _ _ _)
      have HB7 : Hid (Below g0 w w6) := (by rw [hw6]; exact HB5.out.trans (hb6.below (by omega) (fun x hx => by simp at hx; omega)) : Below _ _ _)
      have hs6 : w6.heap.size = wq.heap.size := by rw [hw6]; simp
      have c2 := HQ7.out.cell 2 rfl
      have c4 := HQ7.out.cell 4 rfl
      have HW6 : Hid (w6 = _) := hw6
      have k2 := HQ6.out.cell 2 rfl
      have k4 := HQ6.out.cell 4 rfl
      have k6 := HQ6.out.cell 6 rfl
      have k7 := HQ6.out.cell 7 rfl
      have kf := HQ6.out.free
      clear hw6 hb6
      go_wp2_with fail
      rw [← HW6.out]
      clear HW6 k2 k4 k6 k7 kf c2 c4
      refine (HPe.out w6 HF7.out.rd).mono ?_
      rintro e w7 ⟨rfl, hb7⟩
      have HB8 : Hid (Below g0 w (w7.setCell ⟨g0 + 1, 8, none⟩ (.bool P))) := HB7.out.trans ((hb7.mono (by omega)).setCell (by show g0 ≤ g0 + 1; omega) _)
      have HQ7b : Hid (Blk 39 w7 (g0 + 1) [.int .i64 st, .string RS, .slice va fs.length vc, .string ⟨#[]⟩, .int .i64 mi, .slice none 0 0, .int .i64 K, .int .i64 NN, .bool false]) := HQ7.out.below hb7
      have HR8 : Hid (Blk 39 (w7.setCell ⟨g0 + 1, 8, none⟩ (.bool P)) g0 zeroC) := (HR7.out.below hb7).but (setD (But.refl [g0 + 1] w7) 8 (.bool P)) (by simp)
      have HF8 : Hid (OwnF 64 (g0 + 2) (.slice va fs.length vc) fs (w7.setCell ⟨g0 + 1, 8, none⟩ (.bool P))) := HQ7b.out.keep (HF7.out.below hb7) (by decide) (setD (But.refl [g0 + 1] w7) 8 (.bool P))
      have HR7b : Hid (Blk 39 w7 g0 zeroC) := HR7.out.below hb7
      clear hb7
      have r0 := HR7b.out.cell 0 rfl
      have r1 := HR7b.out.cell 1 rfl
      have r2 := HR7b.out.cell 2 rfl
      have r3 := HR7b.out.cell 3 rfl
      have r4 := HR7b.out.cell 4 rfl
      have r5 := HR7b.out.cell 5 rfl
      have r6 := HR7b.out.cell 6 rfl
      have r7 := HR7b.out.cell 7 rfl
      have r8 := HR7b.out.cell 8 rfl
      have rf := HR7b.out.free
      have k0 := HQ7b.out.cell 0 rfl
      have k1 := HQ7b.out.cell 1 rfl
      have k2 := HQ7b.out.cell 2 rfl
      have k3 := HQ7b.out.cell 3 rfl
      have k4 := HQ7b.out.cell 4 rfl
      have k5 := HQ7b.out.cell 5 rfl
      have k6 := HQ7b.out.cell 6 rfl
      have k7 := HQ7b.out.cell 7 rfl
      have k8 := HQ7b.out.cell 8 rfl
      have kf := HQ7b.out.free
      go_wp2
      clear r0 k0 r1 k1 r2 k2 r3 k3 r4 k4 r5 k5 r6 k6 r7 k7 r8 k8 rf kf
      have hB9 := set9_blk HR8.out (.int .i64 st) (.string RS) (.slice va fs.length vc) (.string ⟨#[]⟩) (.int .i64 mi) (.slice none 0 0) (.int .i64 K) (.int .i64 NN) (.bool P)
      have hb9 := set9_but (w7.setCell ⟨g0 + 1, 8, none⟩ (.bool P)) g0 (.int .i64 st) (.string RS) (.slice va fs.length vc) (.string ⟨#[]⟩) (.int .i64 mi) (.slice none 0 0) (.int .i64 K) (.int .i64 NN) (.bool P)
      have hl9 : Below g0 (w7.setCell ⟨g0 + 1, 8, none⟩ (.bool P)) (set9 (w7.setCell ⟨g0 + 1, 8, none⟩ (.bool P)) g0 (.int .i64 st) (.string RS) (.slice va fs.length vc) (.string ⟨#[]⟩) (.int .i64 mi) (.slice none 0 0) (.int .i64 K) (.int .i64 NN) (.bool P)) := hb9.below (by have := HR8.out.lt; omega) (fun x hx => by simp at hx; omega)
      have ho9 : OwnF 64 g0 (.slice va fs.length vc) fs (set9 (w7.setCell ⟨g0 + 1, 8, none⟩ (.bool P)) g0 (.int .i64 st) (.string RS) (.slice va fs.length vc) (.string ⟨#[]⟩) (.int .i64 mi) (.slice none 0 0) (.int .i64 K) (.int .i64 NN) (.bool P)) := HR8.out.keep (own_up HF8.out (by omega)) (by decide) hb9
      obtain ⟨W9, hW9⟩ : ∃ W9, W9 = (set9 (w7.setCell ⟨g0 + 1, 8, none⟩ (.bool P)) g0 (.int .i64 st) (.string RS) (.slice va fs.length vc) (.string ⟨#[]⟩) (.int .i64 mi) (.slice none 0 0) (.int .i64 K) (.int .i64 NN) (.bool P)) := ⟨_, rfl⟩
      have HL9 : Hid (Below g0 w W9) := (by rw [hW9]; exact HB8.out.trans hl9 : Below _ _ _)
      have HO9 : Hid (OwnF 64 g0 (.slice va fs.length vc) fs W9) := (by rw [hW9]; exact ho9 : OwnF _ _ _ _ _)
      have hB9' : Blk 39 W9 g0 [.int .i64 st, .string RS, .slice va fs.length vc, .string ⟨#[]⟩, .int .i64 mi, .slice none 0 0, .int .i64 K, .int .i64 NN, .bool P] := by rw [hW9]; exact hB9
      have hW9' : ((((((((((w7.setCell ⟨g0 + 1, 8, none⟩ (.bool P)).setCell ⟨g0, 0, none⟩ (.int .i64 st)).setCell ⟨g0, 1, none⟩ (.string RS)).setCell ⟨g0, 2, none⟩ (.slice va fs.length vc)).setCell ⟨g0, 3, none⟩ (.string ⟨#[]⟩)).setCell ⟨g0, 4, none⟩ (.int .i64 mi)).setCell ⟨g0, 5, none⟩ (.slice none 0 0)).setCell ⟨g0, 6, none⟩ (.int .i64 K)).setCell ⟨g0, 7, none⟩ (.int .i64 NN)).setCell ⟨g0, 8, none⟩ (.bool P)) = W9 := hW9.symm
      rw [hW9']
      have q0 := hB9'.cell 0 rfl
      have q1 := hB9'.cell 1 rfl
      have q2 := hB9'.cell 2 rfl
      have q3 := hB9'.cell 3 rfl
      have q4 := hB9'.cell 4 rfl
      have q5 := hB9'.cell 5 rfl
      have q6 := hB9'.cell 6 rfl
      have q7 := hB9'.cell 7 rfl
      have q8 := hB9'.cell 8 rfl
      clear hB9 hb9 hl9 hW9 hW9' hB9' ho9
      refine bodyPost_ret (v := .tuple #[.agg #[.int .i64 st, .string RS, .slice va fs.length vc, .string ⟨#[]⟩, .int .i64 mi, .slice none 0 0, .int .i64 K, .int .i64 NN, .bool P], .int .i64 (E : Int), .int .i64 0]) (by simp [results, Tryz.results7, go_sem, q0, q1, q2, q3, q4, q5, q6, q7, q8]) rfl ?_
      rw [HG0.out, HQ.out]
      refine ⟨.slice va fs.length vc, ?_, (fun h hh => by injection hh with hh; rw [← hh]; exact HO9.out), HL9.out⟩
      rw [HRS.out]
      rfl
    · have hem : TX.toList.isEmpty = false := nonempty_of ht
      have hnn : ¬ TL = [] := fun e => ht (by rw [← size_list, ← hTL, e]; rfl)
      have HR5 : Hid (R = if fs.length = 100 then (none, (a : Int), 65) else if (parseL TL).2.2 ≠ 0 then (none, (a : Int) + ((parseL TL).2.1 : Int), (parseL TL).2.2) else docL B st rs mi f E (fs ++ [(parseL TL).1])) := (by rw [HRe2.out, if_neg hnn] : _ = _)
      clear HRe2 hnn
      have c2 := HQ4.out.cell 2 rfl
      by_cases h100 : fs.length = 100
      · have hq : ((fs.length : Int) == 100) = true := by rw [h100]; rfl
        have HQ : Hid (R = (none, (a : Int), 65)) := (by rw [HR5.out, if_pos h100] : _ = _)
        clear HR5 h100 hTL hTz HTz hcnt
        have r0 := HR4.out.cell 0 rfl
        have r1 := HR4.out.cell 1 rfl
        have r2 := HR4.out.cell 2 rfl
        have r3 := HR4.out.cell 3 rfl
        have r4 := HR4.out.cell 4 rfl
        have r5 := HR4.out.cell 5 rfl
        have r6 := HR4.out.cell 6 rfl
        have r7 := HR4.out.cell 7 rfl
        have r8 := HR4.out.cell 8 rfl
        have rf := HR4.out.free
        go_wp2_with fail
        refine HLc.out.mono ?_
        rintro e w9 ⟨rfl, hw9⟩
        rw [hw9]
        clear hw9
        go_wp2
        have hB9 := set9_blk HR4.out (.int .i64 0) (.string ⟨#[]⟩) (.slice none 0 0) (.string ⟨#[]⟩) (.int .i64 0) (.slice none 0 0) (.int .i64 0) (.int .i64 0) (.bool false)
        have hb9 := set9_but wr g0 (.int .i64 0) (.string ⟨#[]⟩) (.slice none 0 0) (.string ⟨#[]⟩) (.int .i64 0) (.slice none 0 0) (.int .i64 0) (.int .i64 0) (.bool false)
        have hl9 : Below g0 wr (set9 wr g0 (.int .i64 0) (.string ⟨#[]⟩) (.slice none 0 0) (.string ⟨#[]⟩) (.int .i64 0) (.slice none 0 0) (.int .i64 0) (.int .i64 0) (.bool false)) := hb9.below (by have := HR4.out.lt; omega) (fun x hx => by simp at hx; omega)
        obtain ⟨W9, hW9⟩ : ∃ W9, W9 = (set9 wr g0 (.int .i64 0) (.string ⟨#[]⟩) (.slice none 0 0) (.string ⟨#[]⟩) (.int .i64 0) (.slice none 0 0) (.int .i64 0) (.int .i64 0) (.bool false)) := ⟨_, rfl⟩
        have HL9 : Hid (Below g0 w W9) := (by rw [hW9]; exact HB4.out.trans hl9 : Below _ _ _)
        have hB9' : Blk 39 W9 g0 [.int .i64 0, .string ⟨#[]⟩, .slice none 0 0, .string ⟨#[]⟩, .int .i64 0, .slice none 0 0, .int .i64 0, .int .i64 0, .bool false] := by rw [hW9]; exact hB9
        have hW9' : (((((((((wr.setCell ⟨g0, 0, none⟩ (.int .i64 0)).setCell ⟨g0, 1, none⟩ (.string ⟨#[]⟩)).setCell ⟨g0, 2, none⟩ (.slice none 0 0)).setCell ⟨g0, 3, none⟩ (.string ⟨#[]⟩)).setCell ⟨g0, 4, none⟩ (.int .i64 0)).setCell ⟨g0, 5, none⟩ (.slice none 0 0)).setCell ⟨g0, 6, none⟩ (.int .i64 0)).setCell ⟨g0, 7, none⟩ (.int .i64 0)).setCell ⟨g0, 8, none⟩ (.bool false)) = W9 := hW9.symm
        rw [hW9']
        have q0 := hB9'.cell 0 rfl
        have q1 := hB9'.cell 1 rfl
        have q2 := hB9'.cell 2 rfl
        have q3 := hB9'.cell 3 rfl
        have q4 := hB9'.cell 4 rfl
        have q5 := hB9'.cell 5 rfl
        have q6 := hB9'.cell 6 rfl
        have q7 := hB9'.cell 7 rfl
        have q8 := hB9'.cell 8 rfl
        clear hB9 hb9 hl9 hW9 hW9' hB9'
        refine bodyPost_ret (v := .tuple #[.agg #[.int .i64 0, .string ⟨#[]⟩, .slice none 0 0, .string ⟨#[]⟩, .int .i64 0, .slice none 0 0, .int .i64 0, .int .i64 0, .bool false], .int .i64 (a : Int), .int .i64 65]) (by simp [results, Tryz.results7, go_sem, q0, q1, q2, q3, q4, q5, q6, q7, q8]) rfl ?_
        rw [HG0.out, HQ.out]
        exact ⟨.slice none 0 0, rfl, (fun h hh => by cases hh), HL9.out⟩
      · have hq : ((fs.length : Int) == 100) = false := by simp; omega
        have HR6 : Hid (R = if (parseL TL).2.2 ≠ 0 then (none, (a : Int) + ((parseL TL).2.1 : Int), (parseL TL).2.2) else docL B st rs mi f E (fs ++ [(parseL TL).1])) := (by rw [HR5.out, if_neg h100] : _ = _)
        have HPL : Hid (∀ w, Calls Tryz.prog 17 #[.string TX] w fun e w' => e = .returned (lineV (parseL TL)) ∧ Below w.heap.size w w') := fun w => by
          rw [hTL]
          exact rParseLine_any TX (by omega) w
        have hple := parseL_le TL
        have hTLl : TL.length = m - a := by rw [hTL, size_list]; exact hTz
        have HSm : Hid ((parseL TL).2.2 = 0 → sumF (fs ++ [(parseL TL).1]) ≤ E) := fun h => parse_sum fs a E TL (by omega) hsum h
        rw [hTLl] at hple
        clear hTLl hTL hTz HTz HR5
        generalize parseL TL = X at *
        obtain ⟨⟨xn, xv⟩, k, z⟩ := X
        unfold lineV at HPL
        dsimp only at HPL hple HSm HR6
        generalize hXN : str xn = XN at *
        generalize hXV : str xv = XV at *
        have HXN : Hid (XN = str xn) := hXN.symm
        have HXV : Hid (XV = str xv) := hXV.symm
        clear hXN hXV
        go_wp2_with fail
        refine HLc.out.mono ?_
        rintro e w9 ⟨rfl, hw9⟩
        rw [hw9]
        clear hw9
        go_wp2_with fail
        refine (HPL.out _).mono ?_
        rintro e wq ⟨rfl, hbq⟩
        have hba := hbq.alloc hbq.size (.cells #[.string XN, .string XV] 64)
        have HB5 : Hid (Below g0 w (wq.alloc (.cells #[.string XN, .string XV] 64))) := HB4.out.trans (hba.mono (by omega))
        have HR7 : Hid (Blk 39 (wq.alloc (.cells #[.string XN, .string XV] 64)) g0 zeroC) := HR4.out.below hba
        have HQ7 : Hid (Blk 39 (wq.alloc (.cells #[.string XN, .string XV] 64)) (g0 + 1) [.int .i64 st, .string RS, .slice va fs.length vc, .string ⟨#[]⟩, .int .i64 mi, .slice none 0 0, .int .i64 0, .int .i64 0, .bool false]) := HQ4.out.below hba
        have HF7 : Hid (OwnF 64 (g0 + 2) (.slice va fs.length vc) fs (wq.alloc (.cells #[.string XN, .string XV] 64))) := HF4.out.below hba
        have hs5 : g0 + 2 ≤ (wq.alloc (.cells #[.string XN, .string XV] 64)).heap.size := by have := hba.size; omega
        have hg1 : g0 + 1 < wq.heap.size := by have := hbq.size; omega
        clear hbq hba c2
        by_cases hz : z = 0
        case neg =>
          have hz1 : (z != 0) = true := by simp [hz]
          have HQ : Hid (R = (none, (a : Int) + (k : Int), z)) := (by rw [HR6.out, if_pos hz] : _ = _)
          clear HR6 hz HSm
          have r0 := HR7.out.cell 0 rfl
          have r1 := HR7.out.cell 1 rfl
          have r2 := HR7.out.cell 2 rfl
          have r3 := HR7.out.cell 3 rfl
          have r4 := HR7.out.cell 4 rfl
          have r5 := HR7.out.cell 5 rfl
          have r6 := HR7.out.cell 6 rfl
          have r7 := HR7.out.cell 7 rfl
          have r8 := HR7.out.cell 8 rfl
          have rf := HR7.out.free
          go_wp2
          clear r0 r1 r2 r3 r4 r5 r6 r7 r8 rf
          have hB9 := set9_blk HR7.out (.int .i64 0) (.string ⟨#[]⟩) (.slice none 0 0) (.string ⟨#[]⟩) (.int .i64 0) (.slice none 0 0) (.int .i64 0) (.int .i64 0) (.bool false)
          have hb9 := set9_but (wq.alloc (.cells #[.string XN, .string XV] 64)) g0 (.int .i64 0) (.string ⟨#[]⟩) (.slice none 0 0) (.string ⟨#[]⟩) (.int .i64 0) (.slice none 0 0) (.int .i64 0) (.int .i64 0) (.bool false)
          have hl9 : Below g0 (wq.alloc (.cells #[.string XN, .string XV] 64)) (set9 (wq.alloc (.cells #[.string XN, .string XV] 64)) g0 (.int .i64 0) (.string ⟨#[]⟩) (.slice none 0 0) (.string ⟨#[]⟩) (.int .i64 0) (.slice none 0 0) (.int .i64 0) (.int .i64 0) (.bool false)) := hb9.below (by have := HR7.out.lt; omega) (fun x hx => by simp at hx; omega)
          obtain ⟨W9, hW9⟩ : ∃ W9, W9 = (set9 (wq.alloc (.cells #[.string XN, .string XV] 64)) g0 (.int .i64 0) (.string ⟨#[]⟩) (.slice none 0 0) (.string ⟨#[]⟩) (.int .i64 0) (.slice none 0 0) (.int .i64 0) (.int .i64 0) (.bool false)) := ⟨_, rfl⟩
          have HL9 : Hid (Below g0 w W9) := (by rw [hW9]; exact HB5.out.trans hl9 : Below _ _ _)
          have hB9' : Blk 39 W9 g0 [.int .i64 0, .string ⟨#[]⟩, .slice none 0 0, .string ⟨#[]⟩, .int .i64 0, .slice none 0 0, .int .i64 0, .int .i64 0, .bool false] := by rw [hW9]; exact hB9
          have hW9' : ((((((((((wq.alloc (.cells #[.string XN, .string XV] 64)).setCell ⟨g0, 0, none⟩ (.int .i64 0)).setCell ⟨g0, 1, none⟩ (.string ⟨#[]⟩)).setCell ⟨g0, 2, none⟩ (.slice none 0 0)).setCell ⟨g0, 3, none⟩ (.string ⟨#[]⟩)).setCell ⟨g0, 4, none⟩ (.int .i64 0)).setCell ⟨g0, 5, none⟩ (.slice none 0 0)).setCell ⟨g0, 6, none⟩ (.int .i64 0)).setCell ⟨g0, 7, none⟩ (.int .i64 0)).setCell ⟨g0, 8, none⟩ (.bool false)) = W9 := hW9.symm
          rw [hW9']
          have q0 := hB9'.cell 0 rfl
          have q1 := hB9'.cell 1 rfl
          have q2 := hB9'.cell 2 rfl
          have q3 := hB9'.cell 3 rfl
          have q4 := hB9'.cell 4 rfl
          have q5 := hB9'.cell 5 rfl
          have q6 := hB9'.cell 6 rfl
          have q7 := hB9'.cell 7 rfl
          have q8 := hB9'.cell 8 rfl
          clear hB9 hb9 hl9 hW9 hW9' hB9'
          refine bodyPost_ret (v := .tuple #[.agg #[.int .i64 0, .string ⟨#[]⟩, .slice none 0 0, .string ⟨#[]⟩, .int .i64 0, .slice none 0 0, .int .i64 0, .int .i64 0, .bool false], .int .i64 ((a : Int) + (k : Int)), .int .i64 z]) (by simp [results, Tryz.results7, go_sem, q0, q1, q2, q3, q4, q5, q6, q7, q8]) rfl ?_
          rw [HG0.out, HQ.out]
          exact ⟨.slice none 0 0, rfl, (fun h hh => by cases hh), HL9.out⟩
        subst hz
        have HQ : Hid (R = docL B st rs mi f E (fs ++ [(xn, xv)])) := (by rw [HR6.out, if_neg (by simp)] : _ = _)
        have hcnt2 : fs.length + 1 ≤ 100 := by omega
        clear HR6 h100
        have c2 := HQ7.out.cell 2 rfl
        go_wp2_with (at_builtin; go_must (refine wp_appF 64 35 infoF2 Tryz.underlying35 rfl (.tmp 129) (.tmp 131) rfl (g0 + 2) _ fs _ (xn, xv) _ _ HXN.out HXV.out rfl HF7.out _ rfl (by simp) (by omega) hs5 ?_); intro v5 w5 o5 b5; obtain ⟨a5, c5, e5⟩ := ownF_form o5; rw [show (fs ++ [(xn, xv)]).length = fs.length + 1 by simp] at e5; subst e5; have HO5 : Hid (OwnF 64 (g0 + 2) (.slice a5 (fs.length + 1) c5) (fs ++ [(xn, xv)]) w5) := o5; have HB6 : Hid (Below (g0 + 2) (wq.alloc (.cells #[.string XN, .string XV] 64)) w5) := b5; have HQ8 : Hid (Blk 39 w5 (g0 + 1) [.int .i64 st, .string RS, .slice va fs.length vc, .string ⟨#[]⟩, .int .i64 mi, .slice none 0 0, .int .i64 0, .int .i64 0, .bool false]) := HQ7.out.low b5 (by omega); have q2 := HQ8.out.cell 2 rfl; have qf := HQ8.out.free 2; clear o5 b5)
        have HLf : Hid (LP B R st mi rs RS w g0 E (fs ++ [(xn, xv)]) (.slice a5 (fs.length + 1) c5) (w5.setCell ⟨g0 + 1, 2, none⟩ (.slice a5 (fs.length + 1) c5))) := (by
          have hb := setD (But.refl [g0 + 1] w5) 2 (.slice a5 (fs.length + 1) c5)
          have hs9 := HB6.out.size
          exact ⟨(HR7.out.low HB6.out (by omega)).but hb (by simp), HQ8.out.set 2 (.slice a5 (fs.length + 1) c5), HQ8.out.keep HO5.out (by decide) hb, (HB5.out.trans (HB6.out.mono (by omega))).setCell (by show g0 ≤ g0 + 1; omega) _, by rw [World.size_setCell]; omega, by omega, by omega, HSm.out trivial, by rw [List.length_append, List.length_singleton]; omega, f, by omega, HQ.out⟩ : LP _ _ _ _ _ _ _ _ _ _ _ _)
        go_roundw
        case rel => exact ⟨E, fs ++ [(xn, xv)], (.slice a5 (fs.length + 1) c5), rfl, HLf.out⟩
        case measure => simp [intOf]; omega
end Ms
end Go.Proofs.YtdcfhnbagldilaaGreatDoor
