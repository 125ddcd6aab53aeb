import Derived.Test.YtcelekfokbdmfaaGreatDoorMgG1
import Derived.Test.YtcelekfokbdmfaaGreatDoorMtN
import Derived.Test.YtcelekfokbdmfaaGreatDoorMgH1
import Derived.Test.YtcelekfokbdmfaaGreatDoorMuI
import Derived.Deep.Cut
import Derived.Deep.CutRange
set_option linter.unusedVariables false
set_option linter.unusedSimpArgs false
set_option maxRecDepth 100000
namespace Go.Proofs.YtcelekfokbdmfaaGreatDoor
open Go.RowKit Go.Shelf
namespace Ms
open Oc Tg _root_.Go.Proofs.YtcelekfokbdmfaaGreatDoor.Fd _root_.Go.Proofs.YtcelekfokbdmfaaGreatDoor.Ck
theorem Parse_back2 (r : Rs) (m : Mn) (h : (prnR r m).2 = 0) (hbl : r.bd.length ≤ 1048576) (hsl : m.sz.length ≤ 1048576) (hts : sumF m.tr ≤ 1048576) (ht : m.tr.length ≤ 100) (hz : 2 + szT m.tr ≤ 65536) (behind : ByteArray) (hbh : behind.size ≤ 1048576) (w : World) (hw : Env w) :
    Calls Tryz.prog 21 #[.string (str m.me), .string (str (prnR r m).1 ++ behind), .int .i64 ((str r.bd).size : Int), .bool false] w fun e w' => ∃ (fa : Option Addr) (fc : Nat) (ta : Option Addr) (tc : Nat) (RZ BZ : ByteArray) (kd ln : Int) (per : Bool) (tr : List Fl), e = .returned (.tuple #[.agg #[.int .i64 r.st, .string RZ, .slice fa (r.fs ++ behF r m).length fc, .string BZ, .int .i64 1, .slice ta tr.length tc, .int .i64 kd, .int .i64 ln, .bool per], .int .i64 ((str (prnR r m).1).size : Int), .int .i64 0]) ∧ OwnF 63 w.heap.size (.slice fa (r.fs ++ behF r m).length fc) (r.fs ++ behF r m) w' ∧ OwnF 63 w.heap.size (.slice ta tr.length tc) tr w' ∧ Below w.heap.size w w' ∧ (bdl m.me r.st = true → BZ = ⟨#[]⟩) ∧ (bdl m.me r.st = false → BZ = str r.bd ∧ tr = m.tr ∧ (kd == 2) = m.ch ∧ per = !m.cl) := by
  rw [str_size, str_size]
  exact Parse_back r m h hbl hsl hts ht hz behind hbh w hw
theorem RdF_take {fa : Option Addr} {fc : Nat} {a b : List Fl} {w : World} (h : RdF (.slice fa (a ++ b).length fc) (a ++ b) w) : RdF (.slice fa a.length fc) a w := by
  obtain ⟨a', c', e, h⟩ := h
  injection e with e1 _ e2
  subst e1 e2
  refine ⟨_, _, rfl, ?_⟩
  rcases h with h | ⟨g, o, e, hc, hcell⟩
  · exact .inl (List.append_eq_nil_iff.1 h).1
  · rw [List.length_append] at hc hcell
    refine .inr ⟨g, o, e, by omega, fun j hj => ?_⟩
    have := hcell j (by omega)
    have en : Fd.nth (a ++ b) j = Fd.nth a j := by
      unfold Fd.nth
      rw [List.getD_eq_getElem?_getD, List.getD_eq_getElem?_getD, List.getElem?_append_left hj]
    rw [en] at this
    exact this
set_option maxHeartbeats 8000000 in
theorem walk_MessageBack (r : Rs) (m : Mn) (hn : i64 r.st) (hrl : r.rs.length ≤ 1048576) (hbl : r.bd.length ≤ 1048576) (hS : sumF r.fs ≤ 1048576) (vf vs vt : Value) (w : World) (hf : InF vf r.fs w) (hsi : RdI w vs m.sz) (hsn : NilI vs m.sz) (ht : InF vt m.tr w) (hsl : m.sz.length ≤ 1048576) (hts : sumF m.tr ≤ 1048576) (he : Env w) (hp : Pow w) (td : Deb w) (BH : ByteArray) (hbh : BH.size ≤ 1048576) :
    Calls Tryz.prog 5 #[.agg #[.int .i64 r.st, .string (str r.rs), vf, .string (str r.bd)], .agg #[.string (str m.me), .bool m.cl, .bool m.old, .bool m.ch, vs, vt], .string BH] w fun e w' => e = .returned (.bool true) ∧ Below w.heap.size w w' := by
  have hl1 := len_sumF r.fs
  have hl2 := len_sumF m.tr
  have HA : Hid (∀ W, Below w.heap.size w W → Calls _ _ _ W _) := fun W h => awake_any W (he.below h) (hp.below h (Nat.le_refl _))
  have HF : Hid (InF vf r.fs w) := hf
  have HT : Hid (InF vt m.tr w) := ht
  have HI : Hid (RdI w vs m.sz) := hsi
  have HRt : Hid (∀ W, Below w.heap.size w W → Calls _ _ _ W _) := fun W h => right12_any r m hn hrl hbl hS vf vs vt W (hf.below h).1 (hsi.below h) hsn (ht.below h).1 hsl hts
  have HBd : Hid (∀ x ∈ m.sz, -9223372036854775808 ≤ x ∧ x ≤ 9223372036854775807) := (by obtain ⟨_, _, _, _, h, _⟩ := hsi; exact h : ∀ x ∈ m.sz, _)
  have HCp : Hid (∀ W, Below w.heap.size w W → Calls _ _ _ W _) := fun W h => copied12_any r m vf vs vt W (hf.below h) (hsi.below h) hsn (ht.below h) (by omega) (by omega) (by omega)
  have HPr : Hid (∀ (uf us ut : Value) (W : World), Below w.heap.size w W → InF uf r.fs W → RdI W us m.sz → RdF ut m.tr W → Calls Tryz.prog 14 #[.agg #[.int .i64 r.st, .string (str r.rs), uf, .string (str r.bd)], .agg #[.string (str m.me), .bool m.cl, .bool m.old, .bool m.ch, us, ut]] W fun e w' => e = .returned (.tuple #[.string (str (prnR r m).1), .int .i64 (prnR r m).2]) ∧ Below (World.heap W).size W w') := fun uf us ut W h h1 h2 h3 => Print12_any r m hn hrl hbl hS uf us ut W h1 h3 (hp.below h (Nat.le_refl _)) (he.below h).1 h2 hsl hts (td.below h)
  have HPs : Hid ((prnR r m).2 = 0 → m.tr.length ≤ 100 → 2 + szT m.tr ≤ 65536 → ∀ W, Below w.heap.size w W → Calls _ _ _ W _) := fun h1 h2 h3 W h => Parse_back2 r m h1 hbl hsl hts h2 h3 BH hbh W (he.below h)
  have HLn : Hid ((prnR r m).2 = 0 → (str (prnR r m).1).size ≤ 42000000 ∧ 17 ≤ (str (prnR r m).1).size) := fun h => by rw [str_size]; exact prn_len r m h hbl hsl hts
  have HBl : Hid (∀ W, Calls Tryz.prog 24 #[.string (str m.me), .int .i64 r.st] W fun e w' => e = .returned (.bool (bdl m.me r.st)) ∧ w' = W) := fun W => by
    have h := Bodyless_any (str m.me) r.st hn W
    rw [str_list] at h
    exact h
  have HPl : Hid (∀ (v : Value) (t : List Fl) (W : World), RdF v t W → sumF t ≤ 1048576 → Calls Tryz.prog 17 #[v] W fun e w' => ∃ u, e = .returned u ∧ OwnF 80 (World.heap W).size u t w' ∧ Below (World.heap W).size W w') := fun v t W h hl => plain12_any v t W h (by have := len_sumF t; omega)
  have HSm : Hid (∀ (v u : Value) (t : List Fl) (W : World), RdF v t W → RdF u t W → sumF t ≤ 1048576 → Calls Tryz.prog 16 #[v, u] W fun e w' => e = .returned (.bool true) ∧ Below (World.heap W).size W w') := fun v u t W h1 h2 hl => same12_any v u t W h1 h2 (by have := len_sumF t; omega)
  have HSz : Hid (szT m.tr ≤ 2 * sumF m.tr) := szT_bd m.tr
  obtain ⟨af, cf, rfl, _⟩ := hf.1
  obtain ⟨ta, ct, rfl, _⟩ := ht.1
  obtain ⟨sa, cs, rfl, _⟩ := id hsi
  clear hf ht hsi he hp td hsn
  generalize prnR r m = R at *
  generalize bdl m.me r.st = bg at *
  generalize behF r m = BF at *
  obtain ⟨R1, R2⟩ := R
  dsimp only at HRt HPr HPs HLn
  generalize str R1 = XP at *
  generalize str r.rs = RS at *
  generalize str r.bd = BD at *
  generalize str m.me = ME at *
  obtain ⟨W0, hW0⟩ : ∃ W0, W0 = (w.alloc (.cells #[.int .i64 r.st, .string RS, .slice af r.fs.length cf, .string BD] 24)).alloc (.cells #[.string ME, .bool m.cl, .bool m.old, .bool m.ch, .slice sa m.sz.length cs, .slice ta m.tr.length ct] 27) := ⟨_, rfl⟩
  have hB : Box2 24 27 w W0 [.int .i64 r.st, .string RS, .slice af r.fs.length cf, .string BD] [.string ME, .bool m.cl, .bool m.old, .bool m.ch, .slice sa m.sz.length cs, .slice ta m.tr.length ct] := by rw [hW0]; exact box2 _ _ _ _ _
  have HB0 : Hid (Below w.heap.size w W0) := hB.bel
  have HR0 : Hid (Blk 24 W0 w.heap.size [.int .i64 r.st, .string RS, .slice af r.fs.length cf, .string BD]) := hB.resp
  have HM0 : Hid (Blk 27 W0 (w.heap.size + 1) [.string ME, .bool m.cl, .bool m.old, .bool m.ch, .slice sa m.sz.length cs, .slice ta m.tr.length ct]) := hB.man
  have HW0 : Hid (W0 = _) := hW0
  clear hB hW0
  go_enter Tryz.func5, Tryz.ntmps5
  go_wp2_with fail
  rw [← HW0.out]
  refine (HA.out _ HB0.out).mono ?_
  rintro e w1 ⟨rfl, hb1⟩
  have HB1 : Hid (Below w.heap.size w w1) := HB0.out.trans (hb1.mono HB0.out.size)
  have HR1 : Hid (Blk 24 w1 w.heap.size [.int .i64 r.st, .string RS, .slice af r.fs.length cf, .string BD]) := HR0.out.below hb1
  have HM1 : Hid (Blk 27 w1 (w.heap.size + 1) [.string ME, .bool m.cl, .bool m.old, .bool m.ch, .slice sa m.sz.length cs, .slice ta m.tr.length ct]) := HM0.out.below hb1
  clear hb1 HR0 HM0 HW0 HA
  have r0 := HR1.out.cell 0 rfl
  have r1 := HR1.out.cell 1 rfl
  have r2 := HR1.out.cell 2 rfl
  have r3 := HR1.out.cell 3 rfl
  have m0 := HM1.out.cell 0 rfl
  have m1 := HM1.out.cell 1 rfl
  have m2 := HM1.out.cell 2 rfl
  have m3 := HM1.out.cell 3 rfl
  have m4 := HM1.out.cell 4 rfl
  have m5 := HM1.out.cell 5 rfl
  go_wp2_with fail
  refine (HRt.out _ HB1.out).mono ?_
  rintro e w2 ⟨rfl, hb2⟩
  have HB2 : Hid (Below w.heap.size w w2) := HB1.out.trans (hb2.mono HB1.out.size)
  have HR2 : Hid (Blk 24 w2 w.heap.size [.int .i64 r.st, .string RS, .slice af r.fs.length cf, .string BD]) := HR1.out.below hb2
  have HM2 : Hid (Blk 27 w2 (w.heap.size + 1) [.string ME, .bool m.cl, .bool m.old, .bool m.ch, .slice sa m.sz.length cs, .slice ta m.tr.length ct]) := HM1.out.below hb2
  clear hb2 r0 r1 r2 r3 m0 m1 m2 m3 m4 m5 HR1 HM1 HRt HB1
  have r0 := HR2.out.cell 0 rfl
  have r1 := HR2.out.cell 1 rfl
  have r2 := HR2.out.cell 2 rfl
  have r3 := HR2.out.cell 3 rfl
  have m0 := HM2.out.cell 0 rfl
  have m1 := HM2.out.cell 1 rfl
  have m2 := HM2.out.cell 2 rfl
  have m3 := HM2.out.cell 3 rfl
  have m4 := HM2.out.cell 4 rfl
  have m5 := HM2.out.cell 5 rfl
  cases hz : (R2 == 0) with
  | false =>
    go_wp2
    go_ret
    exact ⟨rfl, HB2.out⟩
  | true =>
  obtain rfl : R2 = 0 := by simpa using hz
  clear hz
  by_cases h100 : m.tr.length ≤ 100
  rotate_left
  · have h100' : (100 : Int) < (m.tr.length : Int) := by omega
    go_wp2
    go_ret
    exact ⟨rfl, HB2.out⟩
  have h100' : ¬ (100 : Int) < (m.tr.length : Int) := by omega
  have HT2 : Hid (RdF (.slice ta m.tr.length ct) m.tr w2) := (HT.out.below HB2.out).1
  go_wp2
  clear r0 r1 r2 r3 m0 m1 m2 m3 m4 m5
  go_loopw [7, 29] (fun sv i wr => ∃ k : Nat, k ≤ m.tr.length ∧ i = .int .i64 (k : Int) ∧ Hid (sv = .int .i64 ((2 + szT (m.tr.take k) : Nat) : Int)) ∧ Hid (SB w2 wr)) (fun _ i _ => m.tr.length - (intOf i).toNat)
  case atStart => exact ⟨0, Nat.zero_le _, rfl, rfl, SB.refl w2⟩
  case round =>
    obtain ⟨k, hk, rfl, hsv, hbn⟩ := hrel
    by_cases hlt : k < m.tr.length
    · obtain ⟨a', c', e', hcs⟩ := HT2.out.below hbn.out
      injection e' with e1 _ e2
      subst e1 e2
      rcases hcs with h | ⟨g, o, rfl, hlc, hcell⟩
      · rw [h] at hlt; simp at hlt
      obtain ⟨p0, p1⟩ := hcell k hlt
      have hs1 := szT_take m.tr k hlt
      have hs2 := szT_pre m.tr (k + 1)
      have hs3 := HSz.out
      obtain rfl := hsv.out
      have hN : (str (nth m.tr k).1).size = (nth m.tr k).1.length := str_size _
      have hV : (str (nth m.tr k).2).size = (nth m.tr k).2.length := str_size _
      obtain ⟨s2, es2⟩ : ∃ s2, szT (m.tr.take (k + 1)) = s2 := ⟨_, rfl⟩
      have ES2 : Hid (szT (m.tr.take (k + 1)) = s2) := es2
      rw [es2] at hs1 hs2
      generalize szT (m.tr.take k) = s1 at *
      generalize nth m.tr k = p at *
      obtain ⟨pn, pv⟩ := p
      dsimp only at p0 p1 hN hV hs1
      generalize str pn = N at *
      generalize str pv = V at *
      have HBa : Hid (SB w2 (wr.alloc (.cells #[.string N, .string V] 63))) := SB.on hbn.out ((Below.refl _ wr).alloc (Nat.le_refl _) _)
      have hq : (2 + s2 : Nat) = (2 + s1) + (N.size + V.size + 4) := by omega
      have hq2 : 2 + s2 ≤ 9000000 := by omega
      clear hcell hs1 hs2 hs3 hN hV es2
      go_wp2
      go_roundw
      case rel => exact ⟨k + 1, by omega, by go_num, (by rw [ES2.out, hq]; go_num : _ = _), HBa⟩
      case measure => simp [intOf]; omega
    · obtain rfl : k = m.tr.length := by omega
      rw [List.take_length] at hsv
      obtain rfl := hsv.out
      clear hsv
      have HB3 : Hid (Below w.heap.size w wr) := HB2.out.trans (hbn.out.mono HB2.out.size)
      have HR3 : Hid (Blk 24 wr w.heap.size [.int .i64 r.st, .string RS, .slice af r.fs.length cf, .string BD]) := HR2.out.below hbn.out
      have HM3 : Hid (Blk 27 wr (w.heap.size + 1) [.string ME, .bool m.cl, .bool m.old, .bool m.ch, .slice sa m.sz.length cs, .slice ta m.tr.length ct]) := HM2.out.below hbn.out
      clear hbn HR2 HM2 HT2 hlt hk
      by_cases h64 : 2 + szT m.tr ≤ 65536
      rotate_left
      · have h64' : (65536 : Int) < ((2 + szT m.tr : Nat) : Int) := by omega
        go_wp2
        go_ret
        exact ⟨rfl, HB3.out⟩
      have h64' : ¬ (65536 : Int) < ((2 + szT m.tr : Nat) : Int) := by omega
      have HPs2 : Hid (∀ W, Below w.heap.size w W → Calls _ _ _ W _) := HPs.out (by trivial) h100 h64
      have h17 : XP.size ≤ 42000000 ∧ 17 ≤ XP.size := HLn.out (by trivial)
      have hcat : XP.size + BH.size ≤ 9223372036854775807 := by omega
      have h17' : ¬ (XP.size : Int) < 17 := by omega
      clear HPs HLn HSz h64 h17
      have r0 := HR3.out.cell 0 rfl
      have r1 := HR3.out.cell 1 rfl
      have r2 := HR3.out.cell 2 rfl
      have r3 := HR3.out.cell 3 rfl
      have m0 := HM3.out.cell 0 rfl
      have m1 := HM3.out.cell 1 rfl
      have m2 := HM3.out.cell 2 rfl
      have m3 := HM3.out.cell 3 rfl
      have m4 := HM3.out.cell 4 rfl
      have m5 := HM3.out.cell 5 rfl
      go_wp2_with fail
      clear h64'
      refine (HCp.out _ HB3.out).mono ?_
      rintro e w4 ⟨uf, us, ut, rfl, hof, hoi, hot, hb4⟩
      have HB4 : Hid (Below w.heap.size w w4) := HB3.out.trans (hb4.mono HB3.out.size)
      have HR4 : Hid (Blk 24 w4 w.heap.size [.int .i64 r.st, .string RS, .slice af r.fs.length cf, .string BD]) := HR3.out.below hb4
      have HM4 : Hid (Blk 27 w4 (w.heap.size + 1) [.string ME, .bool m.cl, .bool m.old, .bool m.ch, .slice sa m.sz.length cs, .slice ta m.tr.length ct]) := HM3.out.below hb4
      have HP4 : Hid (Calls _ _ _ _ _) := HPr.out uf us ut w4 HB4.out (OwnF.inF hof) (OwnI.rd hoi HBd.out) (OwnF.rd hot)
      clear hof hoi hot hb4 HCp HPr HR3 HM3 HB3 r0 r1 r2 r3 m0 m1 m2 m3 m4 m5
      go_wp2_with fail
      refine HP4.out.mono ?_
      rintro e w5 ⟨rfl, hb5⟩
      have HB5 : Hid (Below w.heap.size w w5) := HB4.out.trans (hb5.mono HB4.out.size)
      have HR5 : Hid (Blk 24 w5 w.heap.size [.int .i64 r.st, .string RS, .slice af r.fs.length cf, .string BD]) := HR4.out.below hb5
      have HM5 : Hid (Blk 27 w5 (w.heap.size + 1) [.string ME, .bool m.cl, .bool m.old, .bool m.ch, .slice sa m.sz.length cs, .slice ta m.tr.length ct]) := HM4.out.below hb5
      clear hb5 HP4 HB4 HR4 HM4
      have r0 := HR5.out.cell 0 rfl
      have r1 := HR5.out.cell 1 rfl
      have r2 := HR5.out.cell 2 rfl
      have r3 := HR5.out.cell 3 rfl
      have m0 := HM5.out.cell 0 rfl
      have m1 := HM5.out.cell 1 rfl
      have m2 := HM5.out.cell 2 rfl
      have m3 := HM5.out.cell 3 rfl
      have m4 := HM5.out.cell 4 rfl
      have m5 := HM5.out.cell 5 rfl
      go_wp2_with fail
      clear r0 r1 r2 r3 m0 m1 m2 m3 m4 m5 h17'
      refine (HPs2.out _ HB5.out).mono ?_
      rintro e w6 ⟨fa, fc, ta2, tc2, RZ, BZ, kd, ln, per, tr, rfl, hof, hot, hb6, hno, hyes⟩
      have HB6 : Hid (Below w.heap.size w w6) := HB5.out.trans (hb6.mono HB5.out.size)
      have HR6 : Hid (Blk 24 w6 w.heap.size [.int .i64 r.st, .string RS, .slice af r.fs.length cf, .string BD]) := HR5.out.below hb6
      have HM6 : Hid (Blk 27 w6 (w.heap.size + 1) [.string ME, .bool m.cl, .bool m.old, .bool m.ch, .slice sa m.sz.length cs, .slice ta m.tr.length ct]) := HM5.out.below hb6
      obtain ⟨w7, hw7⟩ : ∃ w7, w7 = w6.alloc (.cells #[.int .i64 r.st, .string RZ, .slice fa (r.fs ++ BF).length fc, .string BZ, .int .i64 1, .slice ta2 tr.length tc2, .int .i64 kd, .int .i64 ln, .bool per] 51) := ⟨_, rfl⟩
      have hb7 : Below w6.heap.size w6 w7 := by rw [hw7]; exact (Below.refl _ w6).alloc (Nat.le_refl _) _
      have HX7 : Hid (Blk 51 w7 w6.heap.size [.int .i64 r.st, .string RZ, .slice fa (r.fs ++ BF).length fc, .string BZ, .int .i64 1, .slice ta2 tr.length tc2, .int .i64 kd, .int .i64 ln, .bool per]) := by show _ = _; rw [hw7]; exact heap_alloc_new w6 _
      have HB7 : Hid (Below w.heap.size w w7) := HB6.out.trans (hb7.mono HB6.out.size)
      have HR7 : Hid (Blk 24 w7 w.heap.size [.int .i64 r.st, .string RS, .slice af r.fs.length cf, .string BD]) := HR6.out.below hb7
      have HM7 : Hid (Blk 27 w7 (w.heap.size + 1) [.string ME, .bool m.cl, .bool m.old, .bool m.ch, .slice sa m.sz.length cs, .slice ta m.tr.length ct]) := HM6.out.below hb7
      have HW7 : Hid (w7 = _) := hw7
      have HF7 : Hid (RdF (.slice fa r.fs.length fc) r.fs w7) := RdF_take ((OwnF.rd hof).below hb7)
      have HT7 : Hid (RdF (.slice ta2 tr.length tc2) tr w7) := (OwnF.rd hot).below hb7
      have HV7 : Hid (RdF (.slice af r.fs.length cf) r.fs w7 ∧ RdF (.slice ta m.tr.length ct) m.tr w7) := ⟨(HF.out.below HB7.out).1, (HT.out.below HB7.out).1⟩
      have hfc : (r.fs ++ BF).length ≤ fc ∧ (fa = none → (r.fs ++ BF).length = 0 ∧ fc = 0) ∧ (∀ q, fa = some q → ∃ g, q = ⟨g, 0, none⟩) := by
        rcases hof.2 with ⟨e1, e0⟩ | ⟨g, cap, cur, e1, _, _, hn2, _⟩
        · injection e1 with q1 q2 q3
          subst q1
          exact ⟨by omega, fun _ => ⟨q2, q3⟩, fun q hq => by cases hq⟩
        · injection e1 with q1 q2 q3
          subst q1 q3
          exact ⟨by omega, fun h => (by cases h), fun q hq => ⟨g, by injection hq with hq; exact hq.symm⟩⟩
      have HNo : Hid (bg = true → BZ = ⟨#[]⟩) := hno
      have HYes : Hid (bg = false → BZ = BD ∧ tr = m.tr ∧ (kd == 2) = m.ch ∧ per = !m.cl) := hyes
      have hnl : r.fs.length ≤ (r.fs ++ BF).length := by rw [List.length_append]; omega
      have r0 := HR7.out.cell 0 rfl
      have r2 := HR7.out.cell 2 rfl
      rw [hw7] at r0 r2
      clear hno hyes hof hot hb6 hb7 hw7 HPs2 HB5 HR5 HM5 HB6 HR6 HM6
      generalize (r.fs ++ BF).length = nf at *
      have hnl' : ¬ (nf : Int) < (r.fs.length : Int) := by omega
      go_wp2_with fail
      rw [← HW7.out]
      clear r0 r2 HW7
      obtain ⟨hq1, hq2, hq3⟩ := hfc
      rcases fa with _ | q
      · obtain ⟨rfl, rfl⟩ := hq2 rfl
        generalize r.fs = F at *
        obtain rfl : F = [] := List.length_eq_zero_iff.1 (by omega)
        simp only [List.length_nil] at *
        clear hq1 hq2 hq3 hnl hnl'
        have HK : Hid (∀ W, SB w7 W → ((World.cell? W ⟨w.heap.size, 0, none⟩ = some (.int .i64 r.st) ∧ World.cell? W ⟨w.heap.size, 1, none⟩ = some (.string RS) ∧ World.cell? W ⟨w.heap.size, 2, none⟩ = some (.slice af 0 cf) ∧ World.cell? W ⟨w.heap.size, 3, none⟩ = some (.string BD)) ∧ (World.cell? W ⟨w.heap.size + 1, 0, none⟩ = some (.string ME) ∧ World.cell? W ⟨w.heap.size + 1, 1, none⟩ = some (.bool m.cl) ∧ World.cell? W ⟨w.heap.size + 1, 2, none⟩ = some (.bool m.old) ∧ World.cell? W ⟨w.heap.size + 1, 3, none⟩ = some (.bool m.ch) ∧ World.cell? W ⟨w.heap.size + 1, 4, none⟩ = some (.slice sa m.sz.length cs) ∧ World.cell? W ⟨w.heap.size + 1, 5, none⟩ = some (.slice ta m.tr.length ct)) ∧ (World.cell? W ⟨w6.heap.size, 0, none⟩ = some (.int .i64 r.st) ∧ World.cell? W ⟨w6.heap.size, 1, none⟩ = some (.string RZ) ∧ World.cell? W ⟨w6.heap.size, 2, none⟩ = some (.slice none 0 0) ∧ World.cell? W ⟨w6.heap.size, 3, none⟩ = some (.string BZ) ∧ World.cell? W ⟨w6.heap.size, 4, none⟩ = some (.int .i64 1) ∧ World.cell? W ⟨w6.heap.size, 5, none⟩ = some (.slice ta2 tr.length tc2) ∧ World.cell? W ⟨w6.heap.size, 6, none⟩ = some (.int .i64 kd) ∧ World.cell? W ⟨w6.heap.size, 7, none⟩ = some (.int .i64 ln) ∧ World.cell? W ⟨w6.heap.size, 8, none⟩ = some (.bool per))) ∧ SB w7 W) := fun W hW => by
          have h1 := HR7.out.below hW
          have h2 := HM7.out.below hW
          have h3 := HX7.out.below hW
          exact ⟨⟨⟨h1.cell 0 rfl, h1.cell 1 rfl, h1.cell 2 rfl, h1.cell 3 rfl⟩, ⟨h2.cell 0 rfl, h2.cell 1 rfl, h2.cell 2 rfl, h2.cell 3 rfl, h2.cell 4 rfl, h2.cell 5 rfl⟩, ⟨h3.cell 0 rfl, h3.cell 1 rfl, h3.cell 2 rfl, h3.cell 3 rfl, h3.cell 4 rfl, h3.cell 5 rfl, h3.cell 6 rfl, h3.cell 7 rfl, h3.cell 8 rfl⟩⟩, hW⟩
        have HBn : Hid (SB w7 w7) := SB.refl w7
        clear HR7 HM7 HX7
        go_region_held3 (fun W => ((World.cell? W ⟨w.heap.size, 0, none⟩ = some (.int .i64 r.st) ∧ World.cell? W ⟨w.heap.size, 1, none⟩ = some (.string RS) ∧ World.cell? W ⟨w.heap.size, 2, none⟩ = some (.slice af 0 cf) ∧ World.cell? W ⟨w.heap.size, 3, none⟩ = some (.string BD)) ∧ (World.cell? W ⟨w.heap.size + 1, 0, none⟩ = some (.string ME) ∧ World.cell? W ⟨w.heap.size + 1, 1, none⟩ = some (.bool m.cl) ∧ World.cell? W ⟨w.heap.size + 1, 2, none⟩ = some (.bool m.old) ∧ World.cell? W ⟨w.heap.size + 1, 3, none⟩ = some (.bool m.ch) ∧ World.cell? W ⟨w.heap.size + 1, 4, none⟩ = some (.slice sa m.sz.length cs) ∧ World.cell? W ⟨w.heap.size + 1, 5, none⟩ = some (.slice ta m.tr.length ct)) ∧ (World.cell? W ⟨w6.heap.size, 0, none⟩ = some (.int .i64 r.st) ∧ World.cell? W ⟨w6.heap.size, 1, none⟩ = some (.string RZ) ∧ World.cell? W ⟨w6.heap.size, 2, none⟩ = some (.slice none 0 0) ∧ World.cell? W ⟨w6.heap.size, 3, none⟩ = some (.string BZ) ∧ World.cell? W ⟨w6.heap.size, 4, none⟩ = some (.int .i64 1) ∧ World.cell? W ⟨w6.heap.size, 5, none⟩ = some (.slice ta2 tr.length tc2) ∧ World.cell? W ⟨w6.heap.size, 6, none⟩ = some (.int .i64 kd) ∧ World.cell? W ⟨w6.heap.size, 7, none⟩ = some (.int .i64 ln) ∧ World.cell? W ⟨w6.heap.size, 8, none⟩ = some (.bool per))) ∧ SB w7 W)
          ((refine HK.out _ ?_; first | with_reducible exact HBn.out | with_reducible exact SB.drew HBn.out))
          (first
            | (go_at_call 17; (with_reducible refine (HPl.out (.slice af 0 cf) ([] : List Fl) _ ?_ hS).mono ?_); exact HV7.out.1.below (And.right (by assumption : _ ∧ SB w7 _)); rintro e wa ⟨va, rfl, hoa, hba⟩; have HBn : Hid (SB w7 wa) := SB.on (And.right (by assumption : _ ∧ SB w7 _)) hba; have HOa : Hid (RdF va ([] : List Fl) wa) := (OwnF.rd hoa : RdF _ _ _); clear hoa hba)
            | (go_at_call 16; (with_reducible refine (HSm.out (.slice none 0 0) va ([] : List Fl) _ ?_ ?_ hS).mono ?_); exact HF7.out.below (And.right (by assumption : _ ∧ SB w7 _)); exact HOa.out; rintro e wb ⟨rfl, hbb⟩; have HBn : Hid (SB w7 wb) := SB.on (And.right (by assumption : _ ∧ SB w7 _)) hbb; clear hbb))
        obtain ⟨⟨⟨r0, r1, r2, r3⟩, ⟨m0, m1, m2, m3, m4, m5⟩, ⟨x0, x1, x2, x3, x4, x5, x6, x7, x8⟩⟩, _⟩ := HK.out _ HBn.out
        go_wp2_with fail
        refine (HBl.out _).mono ?_
        rintro e w9 ⟨rfl, hw9⟩
        rw [hw9]
        clear hw9 w9
        cases bg with
        | true =>
          have hz : BZ = ⟨#[]⟩ := HNo.out rfl
          subst hz
          go_wp2
          go_ret
          exact ⟨rfl, HB7.out.trans (Below.mono HBn.out HB7.out.size)⟩
        | false =>
          obtain ⟨rfl, rfl, hkd, rfl⟩ := HYes.out rfl
          have hbb : (BZ.toList == BZ.toList) = true := by simp
          have hkk : ((kd == 2) == m.ch) = true := by rw [hkd]; simp
          go_wp2_with fail
          clear r0 r1 r2 r3 m0 m1 m2 m3 m4 m5 x0 x1 x2 x3 x4 x5 x6 x7 x8
          clear HNo HYes HBl hkd
          go_region_held3 (fun W => ((World.cell? W ⟨w.heap.size, 0, none⟩ = some (.int .i64 r.st) ∧ World.cell? W ⟨w.heap.size, 1, none⟩ = some (.string RS) ∧ World.cell? W ⟨w.heap.size, 2, none⟩ = some (.slice af 0 cf) ∧ World.cell? W ⟨w.heap.size, 3, none⟩ = some (.string BZ)) ∧ (World.cell? W ⟨w.heap.size + 1, 0, none⟩ = some (.string ME) ∧ World.cell? W ⟨w.heap.size + 1, 1, none⟩ = some (.bool m.cl) ∧ World.cell? W ⟨w.heap.size + 1, 2, none⟩ = some (.bool m.old) ∧ World.cell? W ⟨w.heap.size + 1, 3, none⟩ = some (.bool m.ch) ∧ World.cell? W ⟨w.heap.size + 1, 4, none⟩ = some (.slice sa m.sz.length cs) ∧ World.cell? W ⟨w.heap.size + 1, 5, none⟩ = some (.slice ta m.tr.length ct)) ∧ (World.cell? W ⟨w6.heap.size, 0, none⟩ = some (.int .i64 r.st) ∧ World.cell? W ⟨w6.heap.size, 1, none⟩ = some (.string RZ) ∧ World.cell? W ⟨w6.heap.size, 2, none⟩ = some (.slice none 0 0) ∧ World.cell? W ⟨w6.heap.size, 3, none⟩ = some (.string BZ) ∧ World.cell? W ⟨w6.heap.size, 4, none⟩ = some (.int .i64 1) ∧ World.cell? W ⟨w6.heap.size, 5, none⟩ = some (.slice ta2 m.tr.length tc2) ∧ World.cell? W ⟨w6.heap.size, 6, none⟩ = some (.int .i64 kd) ∧ World.cell? W ⟨w6.heap.size, 7, none⟩ = some (.int .i64 ln) ∧ World.cell? W ⟨w6.heap.size, 8, none⟩ = some (.bool (!m.cl)))) ∧ SB w7 W)
            ((refine HK.out _ ?_; first | with_reducible exact HBn.out | with_reducible exact SB.drew HBn.out))
            (first
              | (go_at_call 17; (with_reducible refine (HPl.out (.slice ta m.tr.length ct) m.tr _ ?_ hts).mono ?_); exact HV7.out.2.below (And.right (by assumption : _ ∧ SB w7 _)); rintro e wa ⟨va, rfl, hoa, hba⟩; have HBn : Hid (SB w7 wa) := SB.on (And.right (by assumption : _ ∧ SB w7 _)) hba; have HOa : Hid (RdF va m.tr wa) := (OwnF.rd hoa : RdF _ _ _); clear hoa hba)
              | (go_at_call 16; (with_reducible refine (HSm.out (.slice ta2 m.tr.length tc2) va m.tr _ ?_ ?_ hts).mono ?_); exact HT7.out.below (And.right (by assumption : _ ∧ SB w7 _)); exact HOa.out; rintro e wb ⟨rfl, hbb2⟩; have HBn : Hid (SB w7 wb) := SB.on (And.right (by assumption : _ ∧ SB w7 _)) hbb2; clear hbb2))
          go_wp2
          go_ret
          exact ⟨rfl, HB7.out.trans (Below.mono HBn.out HB7.out.size)⟩
      · obtain ⟨g, rfl⟩ := hq3 q rfl
        have hlo : (r.fs.length : Int) ≤ (fc : Int) := by omega
        have hlo2 : r.fs.length ≤ fc := by omega
        have hl0 : (0 : Int) ≤ (r.fs.length : Int) := by omega
        clear hq1 hq2 hq3 hnl hnl'
        have HK : Hid (∀ W, SB w7 W → ((World.cell? W ⟨w.heap.size, 0, none⟩ = some (.int .i64 r.st) ∧ World.cell? W ⟨w.heap.size, 1, none⟩ = some (.string RS) ∧ World.cell? W ⟨w.heap.size, 2, none⟩ = some (.slice af r.fs.length cf) ∧ World.cell? W ⟨w.heap.size, 3, none⟩ = some (.string BD)) ∧ (World.cell? W ⟨w.heap.size + 1, 0, none⟩ = some (.string ME) ∧ World.cell? W ⟨w.heap.size + 1, 1, none⟩ = some (.bool m.cl) ∧ World.cell? W ⟨w.heap.size + 1, 2, none⟩ = some (.bool m.old) ∧ World.cell? W ⟨w.heap.size + 1, 3, none⟩ = some (.bool m.ch) ∧ World.cell? W ⟨w.heap.size + 1, 4, none⟩ = some (.slice sa m.sz.length cs) ∧ World.cell? W ⟨w.heap.size + 1, 5, none⟩ = some (.slice ta m.tr.length ct)) ∧ (World.cell? W ⟨w6.heap.size, 0, none⟩ = some (.int .i64 r.st) ∧ World.cell? W ⟨w6.heap.size, 1, none⟩ = some (.string RZ) ∧ World.cell? W ⟨w6.heap.size, 2, none⟩ = some (.slice (some ⟨g, 0, none⟩) nf fc) ∧ World.cell? W ⟨w6.heap.size, 3, none⟩ = some (.string BZ) ∧ World.cell? W ⟨w6.heap.size, 4, none⟩ = some (.int .i64 1) ∧ World.cell? W ⟨w6.heap.size, 5, none⟩ = some (.slice ta2 tr.length tc2) ∧ World.cell? W ⟨w6.heap.size, 6, none⟩ = some (.int .i64 kd) ∧ World.cell? W ⟨w6.heap.size, 7, none⟩ = some (.int .i64 ln) ∧ World.cell? W ⟨w6.heap.size, 8, none⟩ = some (.bool per))) ∧ SB w7 W) := fun W hW => by
          have h1 := HR7.out.below hW
          have h2 := HM7.out.below hW
          have h3 := HX7.out.below hW
          exact ⟨⟨⟨h1.cell 0 rfl, h1.cell 1 rfl, h1.cell 2 rfl, h1.cell 3 rfl⟩, ⟨h2.cell 0 rfl, h2.cell 1 rfl, h2.cell 2 rfl, h2.cell 3 rfl, h2.cell 4 rfl, h2.cell 5 rfl⟩, ⟨h3.cell 0 rfl, h3.cell 1 rfl, h3.cell 2 rfl, h3.cell 3 rfl, h3.cell 4 rfl, h3.cell 5 rfl, h3.cell 6 rfl, h3.cell 7 rfl, h3.cell 8 rfl⟩⟩, hW⟩
        have HBn : Hid (SB w7 w7) := SB.refl w7
        clear HR7 HM7 HX7
        go_region_held3 (fun W => ((World.cell? W ⟨w.heap.size, 0, none⟩ = some (.int .i64 r.st) ∧ World.cell? W ⟨w.heap.size, 1, none⟩ = some (.string RS) ∧ World.cell? W ⟨w.heap.size, 2, none⟩ = some (.slice af r.fs.length cf) ∧ World.cell? W ⟨w.heap.size, 3, none⟩ = some (.string BD)) ∧ (World.cell? W ⟨w.heap.size + 1, 0, none⟩ = some (.string ME) ∧ World.cell? W ⟨w.heap.size + 1, 1, none⟩ = some (.bool m.cl) ∧ World.cell? W ⟨w.heap.size + 1, 2, none⟩ = some (.bool m.old) ∧ World.cell? W ⟨w.heap.size + 1, 3, none⟩ = some (.bool m.ch) ∧ World.cell? W ⟨w.heap.size + 1, 4, none⟩ = some (.slice sa m.sz.length cs) ∧ World.cell? W ⟨w.heap.size + 1, 5, none⟩ = some (.slice ta m.tr.length ct)) ∧ (World.cell? W ⟨w6.heap.size, 0, none⟩ = some (.int .i64 r.st) ∧ World.cell? W ⟨w6.heap.size, 1, none⟩ = some (.string RZ) ∧ World.cell? W ⟨w6.heap.size, 2, none⟩ = some (.slice (some ⟨g, 0, none⟩) nf fc) ∧ World.cell? W ⟨w6.heap.size, 3, none⟩ = some (.string BZ) ∧ World.cell? W ⟨w6.heap.size, 4, none⟩ = some (.int .i64 1) ∧ World.cell? W ⟨w6.heap.size, 5, none⟩ = some (.slice ta2 tr.length tc2) ∧ World.cell? W ⟨w6.heap.size, 6, none⟩ = some (.int .i64 kd) ∧ World.cell? W ⟨w6.heap.size, 7, none⟩ = some (.int .i64 ln) ∧ World.cell? W ⟨w6.heap.size, 8, none⟩ = some (.bool per))) ∧ SB w7 W)
          ((refine HK.out _ ?_; first | with_reducible exact HBn.out | with_reducible exact SB.drew HBn.out))
          (first
            | (go_at_call 17; (with_reducible refine (HPl.out (.slice af r.fs.length cf) r.fs _ ?_ hS).mono ?_); exact HV7.out.1.below (And.right (by assumption : _ ∧ SB w7 _)); rintro e wa ⟨va, rfl, hoa, hba⟩; have HBn : Hid (SB w7 wa) := SB.on (And.right (by assumption : _ ∧ SB w7 _)) hba; have HOa : Hid (RdF va r.fs wa) := (OwnF.rd hoa : RdF _ _ _); clear hoa hba)
            | (go_at_call 16; (with_reducible refine (HSm.out (.slice (some ⟨g, 0, none⟩) r.fs.length fc) va r.fs _ ?_ ?_ hS).mono ?_); exact HF7.out.below (And.right (by assumption : _ ∧ SB w7 _)); exact HOa.out; rintro e wb ⟨rfl, hbb⟩; have HBn : Hid (SB w7 wb) := SB.on (And.right (by assumption : _ ∧ SB w7 _)) hbb; clear hbb))
        obtain ⟨⟨⟨r0, r1, r2, r3⟩, ⟨m0, m1, m2, m3, m4, m5⟩, ⟨x0, x1, x2, x3, x4, x5, x6, x7, x8⟩⟩, _⟩ := HK.out _ HBn.out
        go_wp2_with fail
        refine (HBl.out _).mono ?_
        rintro e w9 ⟨rfl, hw9⟩
        rw [hw9]
        clear hw9 w9
        cases bg with
        | true =>
          have hz : BZ = ⟨#[]⟩ := HNo.out rfl
          subst hz
          go_wp2
          go_ret
          exact ⟨rfl, HB7.out.trans (Below.mono HBn.out HB7.out.size)⟩
        | false =>
          obtain ⟨rfl, rfl, hkd, rfl⟩ := HYes.out rfl
          have hbb : (BZ.toList == BZ.toList) = true := by simp
          have hkk : ((kd == 2) == m.ch) = true := by rw [hkd]; simp
          go_wp2_with fail
          clear r0 r1 r2 r3 m0 m1 m2 m3 m4 m5 x0 x1 x2 x3 x4 x5 x6 x7 x8
          clear HNo HYes HBl hkd
          go_region_held3 (fun W => ((World.cell? W ⟨w.heap.size, 0, none⟩ = some (.int .i64 r.st) ∧ World.cell? W ⟨w.heap.size, 1, none⟩ = some (.string RS) ∧ World.cell? W ⟨w.heap.size, 2, none⟩ = some (.slice af r.fs.length cf) ∧ World.cell? W ⟨w.heap.size, 3, none⟩ = some (.string BZ)) ∧ (World.cell? W ⟨w.heap.size + 1, 0, none⟩ = some (.string ME) ∧ World.cell? W ⟨w.heap.size + 1, 1, none⟩ = some (.bool m.cl) ∧ World.cell? W ⟨w.heap.size + 1, 2, none⟩ = some (.bool m.old) ∧ World.cell? W ⟨w.heap.size + 1, 3, none⟩ = some (.bool m.ch) ∧ World.cell? W ⟨w.heap.size + 1, 4, none⟩ = some (.slice sa m.sz.length cs) ∧ World.cell? W ⟨w.heap.size + 1, 5, none⟩ = some (.slice ta m.tr.length ct)) ∧ (World.cell? W ⟨w6.heap.size, 0, none⟩ = some (.int .i64 r.st) ∧ World.cell? W ⟨w6.heap.size, 1, none⟩ = some (.string RZ) ∧ World.cell? W ⟨w6.heap.size, 2, none⟩ = some (.slice (some ⟨g, 0, none⟩) nf fc) ∧ World.cell? W ⟨w6.heap.size, 3, none⟩ = some (.string BZ) ∧ World.cell? W ⟨w6.heap.size, 4, none⟩ = some (.int .i64 1) ∧ World.cell? W ⟨w6.heap.size, 5, none⟩ = some (.slice ta2 m.tr.length tc2) ∧ World.cell? W ⟨w6.heap.size, 6, none⟩ = some (.int .i64 kd) ∧ World.cell? W ⟨w6.heap.size, 7, none⟩ = some (.int .i64 ln) ∧ World.cell? W ⟨w6.heap.size, 8, none⟩ = some (.bool (!m.cl)))) ∧ SB w7 W)
            ((refine HK.out _ ?_; first | with_reducible exact HBn.out | with_reducible exact SB.drew HBn.out))
            (first
              | (go_at_call 17; (with_reducible refine (HPl.out (.slice ta m.tr.length ct) m.tr _ ?_ hts).mono ?_); exact HV7.out.2.below (And.right (by assumption : _ ∧ SB w7 _)); rintro e wa ⟨va, rfl, hoa, hba⟩; have HBn : Hid (SB w7 wa) := SB.on (And.right (by assumption : _ ∧ SB w7 _)) hba; have HOa : Hid (RdF va m.tr wa) := (OwnF.rd hoa : RdF _ _ _); clear hoa hba)
              | (go_at_call 16; (with_reducible refine (HSm.out (.slice ta2 m.tr.length tc2) va m.tr _ ?_ ?_ hts).mono ?_); exact HT7.out.below (And.right (by assumption : _ ∧ SB w7 _)); exact HOa.out; rintro e wb ⟨rfl, hbb2⟩; have HBn : Hid (SB w7 wb) := SB.on (And.right (by assumption : _ ∧ SB w7 _)) hbb2; clear hbb2))
          go_wp2
          go_ret
          exact ⟨rfl, HB7.out.trans (Below.mono HBn.out HB7.out.size)⟩
theorem walkb_MessageBack (st : Int) (A B : ByteArray) (u : Value) (t : List Fl) (hb : A.size + B.size + bulkfields t ≤ 1048576) (hn : i64 st) (M : ByteArray) (b1 b2 b3 : Bool) (u1 u2 : Value) (l : List Int) (t2 : List Fl) (hb2 : M.size + l.length + bulkfields t2 ≤ 1048576) (Z : ByteArray) (hz : Z.size ≤ 1048576) (w : World) (hf : InF u t w) (h2 : (RdI w u1 l ∧ NilI u1 l) ∧ InF u2 t2 w) (he : Env w) (hp : Pow w) (td : Deb w) :
    Calls Tryz.prog 5 #[.agg #[.int .i64 st, .string A, u, .string B], .agg #[.string M, .bool b1, .bool b2, .bool b3, u1, u2], .string Z] w fun e w' => e = .returned (.bool true) ∧ Below w.heap.size w w' := by
  have h := walk_MessageBack ⟨st, A.data.toList, t, B.data.toList⟩ ⟨M.data.toList, b1, b2, b3, l, t2⟩ hn (by show A.data.toList.length ≤ _; rw [size_list]; omega) (by show B.data.toList.length ≤ _; rw [size_list]; omega) (by show sumF t ≤ _; unfold bulkfields at hb; omega) u u1 u2 w hf h2.1.1 h2.1.2 h2.2 (by show l.length ≤ _; omega) (by show sumF t2 ≤ _; unfold bulkfields at hb2; omega) he hp td Z hz
  dsimp only at h
  rw [str_self, str_self, str_self] at h
  exact h
end Ms
end Go.Proofs.YtcelekfokbdmfaaGreatDoor
