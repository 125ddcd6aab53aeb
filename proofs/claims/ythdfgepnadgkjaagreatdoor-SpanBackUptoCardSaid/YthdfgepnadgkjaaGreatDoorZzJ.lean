/- Several texts as one. -/
import Derived.Test.YthdfgepnadgkjaaGreatDoorSnB
import Derived.Test.YthdfgepnadgkjaaGreatDoorZzD
import Derived.Lib.ItoaMem
import Derived.Lib.ItoaLen
import Derived.Lib.AppendIntMem
import Derived.Test.YthdfgepnadgkjaaGreatDoorZzI
/-
  span.Parse, Cut; awake.
-/
set_option linter.unusedVariables false
set_option linter.unusedSimpArgs false
namespace Go.Proofs.YthdfgepnadgkjaaGreatDoor
open Go.RowKit Go.Shelf
namespace Sn
open Oc Tg Ac

set_option maxRecDepth 100000 in
set_option maxHeartbeats 4000000 in
theorem Parse_any (s : ByteArray) (hs : s.size ≤ 1048576) (size : Int) (z0 : -9223372036854775808 ≤ size) (z1 : size ≤ 9223372036854775807) (w : World) (hw : ML w) :
    Calls Tryz.prog 4 #[.string s, .int .i64 size] w fun e w' => ∃ v, e = .returned (.tuple #[v, .int .i64 (parR s.data.toList size).2]) ∧ OwnN 38 w.heap.size v (parR s.data.toList size).1 w' ∧ Below w.heap.size w w' := by
  by_cases hneg : size < 0
  · have HP : Hid (parR s.data.toList size = ([], 1)) := (by unfold parR; rw [if_pos hneg] : parR s.data.toList size = ([], 1))
    clear hw
    go_enter Tryz.func4, Tryz.ntmps4
    go_wp2
    go_ret2
    rw [HP.out]
    exact ⟨_, rfl, ownN_nil _ _ _, Below.refl _ _⟩
  · have hpos : 0 ≤ size := by omega
    have HP1 : Hid ((elR s.data.toList).2 = false → parR s.data.toList size = ([], 90)) := (fun h => by unfold parR; rw [if_neg hneg, if_pos h] : _ → parR s.data.toList size = _)
    have HP2 : Hid ((elR s.data.toList).2 = true → parR s.data.toList size = ansR size (elR s.data.toList).1) := (fun h => by unfold parR; rw [if_neg hneg, if_neg (by rw [h]; simp)] : _ → parR s.data.toList size = _)
    have HR : Hid (Calls _ _ _ _ _) := rangeElements_any s hs w hw
    have hel : (elR s.data.toList).1.length ≤ 1048577 ∧ ∀ x ∈ (elR s.data.toList).1, x.length ≤ 1048576 := by
      unfold elR
      have l := listR_short (cutB 61 s.data.toList)
      have lB := cutB_len 61 s.data.toList
      rw [size_list] at lB
      split
      · exact ⟨by have := l.1; dsimp only; omega, fun x hx => by have := l.2 x hx; omega⟩
      · simp
    have HE : Hid (ML w) := hw
    clear hw hneg
    generalize parR s.data.toList size = PR at *
    generalize elR s.data.toList = ER at *
    obtain ⟨t, ok⟩ := ER
    dsimp only at *
    obtain ⟨htl, hsh⟩ := hel
    have HSh : Hid (∀ x ∈ t, x.length ≤ 1048576) := hsh
    clear hsh
    cases ok with
    | false =>
      have HPR := HP1.out rfl
      clear HP1 HP2
      have HPR' : Hid (PR = ([], 90)) := HPR
      clear HPR
      go_enter Tryz.func4, Tryz.ntmps4
      go_wp2_with fail
      refine HR.out.mono ?_
      rintro e w2 ⟨v, rfl, ho, hb2⟩
      have HB2 : Hid (Below w.heap.size w w2) := hb2
      clear ho hb2
      go_wp2
      go_ret2
      rw [HPR'.out]
      exact ⟨_, rfl, ownN_nil _ _ _, HB2.out⟩
    | true =>
      have HW : Hid (PR = ansR size t) := HP2.out rfl
      clear HP1 HP2
      go_enter Tryz.func4, Tryz.ntmps4
      go_wp2_with fail
      refine HR.out.mono ?_
      rintro e w2 ⟨v, rfl, ho, hb2⟩
      replace ho := ho trivial
      have HB2 : Hid (Below w.heap.size w w2) := hb2
      have HE2 : Hid (ML w2) := HE.out.below hb2
      have HR2 : Hid (RdS v t w2) := OwnS.rd ho
      have hz2 := hb2.size
      obtain ⟨va, vc, rfl⟩ := OwnS.form ho
      clear ho hb2 HR
      go_wp2
      go_loopw [8, 24] (fun lv iv wr => ∃ k : Nat, k ≤ t.length ∧ iv = .int .i64 k ∧ Hid (∀ j, j < k → (askP (t.getD j []) size).2 = true) ∧ Hid (OwnN 38 w2.heap.size lv ((t.take k).filterMap (keepN size)) wr) ∧ Hid (Below w2.heap.size w2 wr)) (fun _ iv _ => t.length - (intOf iv).toNat)
      case atStart => exact ⟨0, Nat.zero_le _, rfl, (fun j hj => by omega : ∀ j, j < 0 → _), ownN_nil _ _ _, Below.refl _ _⟩
      case round =>
        obtain ⟨k, hk, rfl, hall, hown, hbl⟩ := hrel
        by_cases hlt : k < t.length
        · have hsz := hbl.out.size
          obtain ⟨a', c', e', hcs⟩ := HR2.out.below hbl.out
          injection e' with e1 _ e2
          subst e1 e2
          rcases hcs with h | ⟨g, o, rfl, hlc, hcell⟩
          · rw [h] at hlt; simp at hlt
          have p0 := hcell k hlt
          clear hcell
          have hxl := getD_short HSh.out k hlt
          have HRW : Hid (∀ w, ML w → Calls Tryz.prog 13 #[.string (str (t.getD k [])), .int .i64 size] w fun e w' => e = .returned (.tuple #[.agg #[.int .i64 (askP (t.getD k []) size).1.1, .int .i64 (askP (t.getD k []) size).1.2], .bool (askP (t.getD k []) size).2]) ∧ Below w.heap.size w w') := fun w h => by
            have := asked_any (str (t.getD k [])) (by rw [str_size]; omega) size hpos z1 w h
            rw [str_list] at this
            exact this
          have HErr : Hid ((askP (t.getD k []) size).2 = false → PR = ([], 90)) := (fun h => by rw [HW.out]; exact ansR_bad k hlt h : _ → PR = _)
          have HNext : Hid ((askP (t.getD k []) size).2 = true → ∀ j, j < k + 1 → (askP (t.getD j []) size).2 = true) := (fun h j hj => by
            by_cases hjk : j = k
            · subst hjk; exact h
            · exact hall.out j (by omega) : _ → ∀ j, _)
          have HTk : Hid ((t.take (k + 1)).filterMap (keepN size) = (t.take k).filterMap (keepN size) ++ (keepN size (t.getD k [])).toList) := take_keep size t k hlt
          have hlk : ((t.take k).filterMap (keepN size)).length + 1 ≤ 2147483648 := by have := keep_len size t k; omega
          have HKN : Hid (keepN size (t.getD k []) = if emp (wth (askP (t.getD k []) size).1 size) then none else some (wth (askP (t.getD k []) size).1 size)) := (rfl : keepN size (t.getD k []) = _)
          generalize keepN size (t.getD k []) = KN at *
          generalize (t.take k).filterMap (keepN size) = acc at *
          generalize hK1 : askP (t.getD k []) size = W1 at *
          obtain ⟨⟨x1, x2⟩, xo⟩ := W1
          dsimp only at *
          clear hK1
          generalize str (t.getD k []) = X at *
          have HWI : Hid (∀ W, Calls _ _ _ W _) := fun W => within_any x1 x2 size W
          generalize wth (x1, x2) size = Y at *
          obtain ⟨y1, y2⟩ := Y
          dsimp only at *
          have HEM : Hid (∀ W, Calls _ _ _ W _) := fun W => isEmpty_any y1 y2 W
          generalize emp (y1, y2) = em at *
          go_wp2_with fail
          refine (HRW.out _ (HE2.out.below hbl.out)).mono ?_
          rintro e w5 ⟨rfl, hb5⟩
          have HB5 : Hid (Below w2.heap.size w2 w5) := bel_trans hbl.out hb5
          have HO5 : Hid (OwnN 38 w2.heap.size _ acc w5) := hown.out.below hb5
          clear hb5
          obtain ⟨w6, hw6⟩ : ∃ w6, w6 = w5.alloc (.cells #[.int .i64 x1, .int .i64 x2] 38) := ⟨_, rfl⟩
          have HPB : Hid (PB 38 w6 w5.heap.size (x1, x2)) := (by rw [hw6]; exact PB.new _ w5 (x1, x2) : PB _ _ _ _)
          have HB56 : Hid (Below w5.heap.size w5 w6) := (by rw [hw6]; exact (Below.refl _ w5).alloc (Nat.le_refl _) _ : Below _ _ _)
          have hz5 := HB5.out.size
          cases xo with
          | false =>
            have HWr : Hid (PR = ([], 90)) := HErr.out rfl
            go_wp2
            rw [← hw6]
            go_ret2
            rw [HWr.out]
            exact ⟨_, rfl, ownN_nil _ _ _, HB2.out.trans ((bel_trans HB5.out HB56.out).mono hz2)⟩
          | true =>
            have HN2 := HNext.out rfl
            have HN2' : Hid (∀ j, j < k + 1 → (askP (t.getD j []) size).2 = true) := HN2
            clear HN2 HErr HNext
            have q0 := HPB.out.c0
            have q1 := HPB.out.c1
            generalize hg : w5.heap.size = g5 at *
            go_wp2_with fail
            rw [← hw6]
            clear hw6
            refine (HWI.out _).mono ?_
            rintro e w7 ⟨rfl, hb7⟩
            have hp7 := HPB.out.below hb7
            have r0 := hp7.c0
            have r1 := hp7.c1
            have f0 := hp7.f 0
            have f1 := hp7.f 1
            have hl7 := hp7.lt
            obtain ⟨w8, hw8⟩ : ∃ w8, w8 = (w7.setCell ⟨g5, 0, none⟩ (.int .i64 y1)).setCell ⟨g5, 1, none⟩ (.int .i64 y2) := ⟨_, rfl⟩
            have HP8 : Hid (PB 38 w8 g5 (y1, y2)) := (by rw [hw8]; exact hp7.set y1 y2 : PB _ _ _ _)
            have HB58 : Hid (Below w5.heap.size w5 w8) := (by
              rw [hw8, hg]
              have h := HB56.out.trans (hb7.mono (by have := HPB.out.lt; omega))
              exact (h.setCell (Nat.le_refl _) _).setCell (Nat.le_refl _) _ : Below _ _ _)
            have s0 := HP8.out.c0
            have s1 := HP8.out.c1
            clear hp7 hb7
            go_wp2_with fail
            rw [← hw8]
            clear hw8
            refine (HEM.out _).mono ?_
            rintro e w9 ⟨rfl, hb9⟩
            have hp9 := HP8.out.below hb9
            have t0 := hp9.c0
            have t1 := hp9.c1
            have HB59 : Hid (Below w5.heap.size w5 w9) := bel_trans HB58.out hb9
            have HB9 : Hid (Below w2.heap.size w2 w9) := bel_trans HB5.out HB59.out
            have HO9 : Hid (OwnN 38 w2.heap.size _ acc w9) := HO5.out.below HB59.out
            have hz9 := HB9.out.size
            clear hp9 hb9
            cases em with
            | true =>
              have HT2 : Hid ((t.take (k + 1)).filterMap (keepN size) = acc) := (by rw [HTk.out, HKN.out]; simp : (t.take (k + 1)).filterMap (keepN size) = acc)
              clear HTk HKN
              go_wp2
              go_roundw
              case rel => exact ⟨k + 1, by omega, by go_num, HN2', (by rw [HT2.out]; exact HO9.out : OwnN _ _ _ _ _), HB9⟩
              case measure => simp [intOf]; omega
            | false =>
              have HT2 : Hid ((t.take (k + 1)).filterMap (keepN size) = acc ++ [(y1, y2)]) := (by rw [HTk.out, HKN.out]; simp : (t.take (k + 1)).filterMap (keepN size) = acc ++ [(y1, y2)])
              clear HTk HKN
              go_wp2_with (at_builtin; go_must (refine wp_appN 38 22 infoN Tryz.underlying22 rfl (.tmp 42) (.tmp 44) rfl w2.heap.size _ acc _ (y1, y2) _ _ rfl rfl (by simp [Act.eval, Act.put]) HO9.out _ (by simp [Act.eval, Act.put]) rfl hlk hz9 ?_; intro va7 wa7 hown7 hb7))
              have HO7 : Hid (OwnN 38 w2.heap.size va7 ((t.take (k + 1)).filterMap (keepN size)) wa7) := (by rw [HT2.out]; exact hown7 : OwnN _ _ _ _ _)
              have HB7 : Hid (Below w2.heap.size w2 wa7) := HB9.out.trans hb7
              clear hown7 hb7
              go_wp2
              go_roundw
              case rel => exact ⟨k + 1, by omega, by go_num, HN2', HO7, HB7⟩
              case measure => simp [intOf]; omega
        · obtain rfl : k = t.length := by omega
          have HWr : Hid (PR = (if (t.filterMap (keepN size)).length = 0 then ([], 91) else (t.filterMap (keepN size), 0))) := (by rw [HW.out]; exact ansR_ok hall.out : PR = _)
          rw [List.take_length] at hown
          generalize t.filterMap (keepN size) = acc at *
          obtain ⟨la, lc, rfl⟩ := hown.out.form
          by_cases hz : acc.length = 0
          · have hz' : ((acc.length : Int) == 0) = true := by rw [beq_iff_eq]; omega
            have HWs : Hid (PR = ([], 91)) := (by rw [HWr.out, if_pos hz] : PR = _)
            clear HWr hz
            go_wp2
            go_ret2
            rw [HWs.out]
            exact ⟨_, rfl, ownN_nil _ _ _, HB2.out.trans (hbl.out.mono hz2)⟩
          · have hz' : ((acc.length : Int) == 0) = false := by rw [beq_eq_false_iff_ne]; omega
            have HWs : Hid (PR = (acc, 0)) := (by rw [HWr.out, if_neg hz] : PR = _)
            clear HWr
            go_wp2
            go_ret2
            rw [HWs.out]
            exact ⟨_, rfl, hown.out.mono hz2, HB2.out.trans (hbl.out.mono hz2)⟩

end Sn
end Go.Proofs.YthdfgepnadgkjaaGreatDoor

/-
  Numbers in digits.
-/
set_option linter.unusedVariables false
set_option linter.unusedSimpArgs false
namespace Go.Proofs.YthdfgepnadgkjaaGreatDoor
open Go.RowKit Go.Shelf
open Go.Sort (grow)
namespace Oc

/-- Go's table of tens lies where it was laid. -/
def Pow (w : World) : Prop := Lib.TabIs Tryz.prog w "internal/strconv.uint64pow10" .u64 Lib.pow10Tab
theorem gPow : Tryz.prog.globalNamed "internal/strconv.uint64pow10" = some 1 := by kernel_rfl
theorem Pow.lt {w : World} (h : Pow w) : 1 < w.heap.size := by
  have c := Lib.TabIs.cell h gPow 0 (by rw [Lib.pow10Tab_length]; omega)
  rcases Nat.lt_or_ge 1 w.heap.size with h | h
  · exact h
  · simp [World.cell?, Array.getElem?_eq_none h] at c
theorem Pow.below {B : Nat} {w w' : World} (h : Pow w) (b : Below B w w') (hB : w.heap.size ≤ B) : Pow w' := by
  have := h.lt
  exact var?_below b gPow (by omega) h

set_option maxHeartbeats 400000 in
theorem Digits_any (n : Int) (h0 : -9223372036854775808 ≤ n) (h1 : n ≤ 9223372036854775807) (w : World) (t : Pow w) :
    Calls Tryz.prog 25 #[.int .i64 n] w fun e w' => e = .returned (.string (str (Lib.itoa n))) ∧ Below w.heap.size w w' := by
  have HT : Hid (Pow w) := t
  clear t
  have hcon := Tryz.strconv_Itoa n h0 h1 w HT.out
  change Calls Tryz.prog 50 _ _ (fun e w' => e = .returned (.string (str (Lib.itoa n))) ∧ ∃ k os, w' = grow (w.drewN k) os) at hcon
  have HC : Hid (Calls Tryz.prog 50 #[.int .i64 n] w (fun e w' => e = .returned (.string (str (Lib.itoa n))) ∧ ∃ k os, w' = grow (w.drewN k) os)) := hcon
  clear hcon
  go_enter Tryz.func25, Tryz.ntmps25
  go_wp2_with fail
  refine HC.out.mono ?_
  rintro e w' ⟨rfl, k, os, rfl⟩
  go_wp2
  go_ret
  exact ⟨rfl, Lib.below_grow _ w (Nat.le_refl _) k os⟩

/-- Digits without any for 0. -/
def decD (u : Nat) : List UInt8 := if u = 0 then [] else Lib.decDigits u
theorem decD_step (u : Nat) (h : u ≠ 0) : decD u = decD (u / 10) ++ [UInt8.ofNat (48 + u % 10)] := by
  unfold decD
  rw [if_neg h]
  by_cases h1 : u < 10
  · rw [if_pos (by omega), Lib.decDigits_one h1, Nat.mod_eq_of_lt h1]; rfl
  · rw [if_neg (by omega), Lib.decDigits, dif_neg h1]
theorem decD_len (n : Int) (h0 : -9223372036854775808 ≤ n) (h1 : n ≤ 9223372036854775807) : (decD n.natAbs).length ≤ 21 := by
  have h := Lib.itoa_length_le n h0 h1
  unfold decD Lib.itoa at *
  split
  · simp
  · split at h
    · simp at h; omega
    · rw [show n.natAbs = n.toNat by omega]; exact h
theorem itoa_decD (n : Int) (h : n ≠ 0) : Lib.itoa n = (if n < 0 then [45] else []) ++ decD n.natAbs := by
  unfold Lib.itoa decD
  by_cases hn : n < 0
  · rw [if_pos hn, if_pos hn, if_neg (by omega)]; rfl
  · rw [if_neg hn, if_neg hn, if_neg (by omega), show n.natAbs = n.toNat by omega]; rfl
theorem itoa_zero : Lib.itoa 0 = [48] := by
  unfold Lib.itoa
  rw [if_neg (by omega), show (0 : Int).toNat = 0 from rfl, Lib.decDigits_one (by omega)]; rfl

theorem one_byte (W : World) (x : Int) (h0 : 0 ≤ x) (h1 : x ≤ 255) :
    (convert 68 9 (.slice (some ⟨W.heap.size, 0, none⟩) 1 1)).run Tryz.prog (W.alloc (.cells #[.int .u8 x] 5)) = .ok (.string (str [UInt8.ofNat x.toNat])) (W.alloc (.cells #[.int .u8 x] 5)) := by
  have h := run_convert_bytes_back (P := Tryz.prog) (W.alloc (.cells #[.int .u8 x] 5)) 68 9 5 ⟨W.heap.size, 0, none⟩ 1 [UInt8.ofNat x.toNat] Tryz.underlying68 Tryz.underlying5 Tryz.underlying9 (fun j hj => by
    have hj0 : j = 0 := by simpa using hj
    subst hj0
    have e : ((UInt8.ofNat x.toNat).toNat : Int) = x := by
      rw [UInt8.toNat_ofNat']
      omega
    have hc : (W.alloc (.cells #[.int .u8 x] 5)).cell? ⟨W.heap.size, 0, none⟩ = some (.int .u8 x) := by simp [World.cell?, World.alloc, -World.alloc_eq]
    rw [show (Addr.add ⟨W.heap.size, 0, none⟩ 0) = ⟨W.heap.size, 0, none⟩ from rfl, hc]
    show _ = some (Value.int .u8 ((UInt8.ofNat x.toNat).toNat : Int))
    rw [e])
  exact h
theorem cat_str (a : List UInt8) (s : ByteArray) : str a ++ s = str (a ++ s.data.toList) := by
  apply eq_list
  rw [str_list]
  simp [str]

end Oc
end Go.Proofs.YthdfgepnadgkjaaGreatDoor

/-
  span: the law's same; Cut, Tell, TellNone of both; awake.
-/
set_option linter.unusedVariables false
set_option linter.unusedSimpArgs false
namespace Go.Proofs.YthdfgepnadgkjaaGreatDoor
open Go.RowKit Go.Shelf
namespace Sn
open Oc Tg Ac

theorem bel_drewN {n : Nat} {w w' : World} (h : Below n w w') (k : Nat) : Below n w (w'.drewN k) := h.trans ⟨rfl, rfl, rfl, Nat.le_refl _, fun _ _ => rfl⟩

/-- A span of a body of a size. -/
def isSp (x : Sp) (size : Int) : Bool := decide (0 ≤ x.1 ∧ x.1 < x.2 ∧ x.2 ≤ size)
theorem isSp_emp {x : Sp} (h : emp x = true) (size : Int) : isSp x size = false := by
  unfold emp at h; unfold isSp; simp at *; omega
theorem isSp_wth {x : Sp} (h : emp x = false) (size : Int) : isSp x size = decide (x = wth x size) := by
  unfold emp at h; unfold isSp wth
  rw [decide_eq_decide, Prod.ext_iff]
  simp at *
  omega

end Sn
end Go.Proofs.YthdfgepnadgkjaaGreatDoor
