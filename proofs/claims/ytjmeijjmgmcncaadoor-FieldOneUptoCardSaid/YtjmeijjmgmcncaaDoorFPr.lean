/-
  The law's own same; Parse.
-/
import Derived.Test.YtjmeijjmgmcncaaDoorFTx
set_option linter.unusedVariables false
set_option linter.unusedSimpArgs false
namespace Go.Proofs.YtjmeijjmgmcncaaDoor
open Go.RowKit Go.Shelf
namespace Fd
open Oc Tg

set_option maxRecDepth 100000 in
set_option maxHeartbeats 1000000 in
theorem same_any (v1 v2 : Value) (t : List Fl) (w : World) (h1 : RdF v1 t w) (h2 : RdF v2 t w) (hl : t.length ≤ 4294967296) :
    Calls Tryd.prog 13 #[v1, v2] w fun e w' => e = .returned (.bool true) ∧ Below w.heap.size w w' := by
  obtain ⟨a1, c1, rfl, h1⟩ := h1
  obtain ⟨a2, c2, rfl, h2⟩ := h2
  have hne : ((t.length : Int) != (t.length : Int)) = false := by simp
  go_enter Tryd.func13, Tryd.ntmps13
  go_wp2
  go_loopw [13] (fun i wr => ∃ k : Nat, k ≤ t.length ∧ i = .int .i64 k ∧ Hid (∃ n, wr = w.drewN n)) (fun i _ => t.length - (intOf i).toNat)
  case atStart => exact ⟨0, Nat.zero_le _, rfl, (⟨0, rfl⟩ : ∃ n, w = w.drewN n)⟩
  case round =>
    obtain ⟨k, hk, rfl, hw⟩ := hrel
    obtain ⟨n, rfl⟩ := hw.out
    clear hw
    by_cases hlt : k < t.length
    · rcases h1 with h | ⟨g1, o1, rfl, hc1, hcell1⟩
      · rw [h] at hlt; simp at hlt
      rcases h2 with h | ⟨g2, o2, rfl, hc2, hcell2⟩
      · rw [h] at hlt; simp at hlt
      obtain ⟨p0, p1⟩ := hcell1 k hlt
      obtain ⟨q0, q1⟩ := hcell2 k hlt
      clear hcell1 hcell2
      generalize str (nth t k).1 = x at p0 q0
      generalize str (nth t k).2 = y at p1 q1
      go_wp2_with fail
      go_quiet (fail)
      go_wp2
      go_roundw
      case rel => exact ⟨k + 1, by omega, by go_num, drawn_again w _ _⟩
      case measure => simp [intOf]; omega
    · go_wp2
      go_ret
      exact ⟨rfl, below_drew w n⟩

theorem OwnF.form {T B : Nat} {v : Value} {t : List Fl} {w : World} (h : OwnF T B v t w) : ∃ a c, v = .slice a t.length c := by
  rcases h.2 with ⟨rfl, h0⟩ | ⟨g, cap, cur, rfl, _⟩
  · exact ⟨none, 0, by rw [h0]⟩
  · exact ⟨_, _, rfl⟩
theorem take_cut {l : List UInt8} {a : Nat} (hi : ¬ Lib.index (l.drop a) [13, 10] < 0) : Lib.cut (l.drop a) [13, 10] = ((l.drop a).take (Lib.index (l.drop a) [13, 10]).toNat, (l.drop a).drop ((Lib.index (l.drop a) [13, 10]).toNat + 2), true) := by
  unfold Lib.cut
  rw [if_pos (by omega)]
  rfl
theorem no_cut {l : List UInt8} {a : Nat} (hi : Lib.index (l.drop a) [13, 10] < 0) : (Lib.cut (l.drop a) [13, 10]).2.2 = false := by
  unfold Lib.cut
  rw [if_neg (by omega)]

theorem bad_ret {l : List UInt8} {B : Nat} {W : World} {k : Int} {z : Int} (m : Nat) (hm : k = (m : Int)) (h : parseText l = ([], m, z)) {w : World} {B0 : Nat} (hb : Below B0 w W) : ∃ v, Ending.returned (.tuple #[.slice none 0 0, .int .i64 k, .int .i64 z]) = .returned (.tuple #[v, .int .i64 ((parseText l).2.1 : Nat), .int .i64 (parseText l).2.2]) ∧ OwnF 52 B v (parseText l).1 W ∧ Below B0 w W := by
  rw [h, hm]
  exact ⟨_, rfl, ownF_nil _ _ _, hb⟩

set_option maxRecDepth 100000 in
set_option maxHeartbeats 4000000 in
theorem Parse_any (s : ByteArray) (hs : s.size ≤ 4000000) (w : World) (hw : Env w) :
    Calls Tryd.prog 34 #[.string s] w fun e w' => ∃ v, e = .returned (.tuple #[v, .int .i64 ((parseText s.data.toList).2.1 : Nat), .int .i64 (parseText s.data.toList).2.2]) ∧ OwnF 52 w.heap.size v (parseText s.data.toList).1 w' ∧ Below w.heap.size w w' := by
  have HE : Hid (Env w) := hw
  clear hw
  go_enter Tryd.func34, Tryd.ntmps34
  go_wp2
  go_loopw [5, 6] (fun ov i wr => ∃ (a : Nat) (acc : List Fl), i = .int .i64 a ∧ a ≤ s.size ∧ Hid (Mid s.data.toList a acc) ∧ Hid (OwnF 52 w.heap.size ov acc wr) ∧ Hid (Below w.heap.size w wr)) (fun _ i _ => s.size - (intOf i).toNat)
  case atStart => exact ⟨0, [], rfl, Nat.zero_le _, Mid.start _, ownF_nil _ _ _, Below.refl _ _⟩
  case round =>
    obtain ⟨a, acc, rfl, hle, hmid, hown, hbl⟩ := hrel
    obtain ⟨la, lc, rfl⟩ := hown.out.form
    have hsz := hbl.out.size
    have hsl := size_list s
    by_cases hlt : a < s.size
    · have hltl : a < s.data.toList.length := by omega
      have hdl : (s.data.toList.drop a).length = s.size - a := by rw [List.length_drop, size_list]
      have hxl : (s.extract a s.size).data.toList = s.data.toList.drop a := Lib.extract_to_end s a
      by_cases hi : Lib.index (s.data.toList.drop a) [13, 10] < 0
      · have HP : Hid (parseText s.data.toList = ([], s.size, 64)) := by
          have h := hmid.out.brk hltl hi
          rw [size_list] at h
          exact h
        have HN : Hid (∃ x y, Calls Tryd.prog 63 #[.string (s.extract a s.size), .string ⟨#[13, 10]⟩] wr fun e w' => e = .returned (.tuple #[.string x, .string y, .bool false]) ∧ Below wr.heap.size wr w') := by
          have h := Cut_any (s.extract a s.size) ⟨#[13, 10]⟩ (by simp; omega) wr (HE.out.below hbl.out).2
          rw [hxl, show (⟨#[13, 10]⟩ : ByteArray).data.toList = [13, 10] from rfl, no_cut hi] at h
          exact ⟨_, _, h⟩
        obtain ⟨x, y, hn⟩ := HN.out
        have HN2 : Hid (Calls _ _ _ _ _) := hn
        clear hi hxl hdl hltl hsl hn HN
        go_wp2_with fail
        refine HN2.out.mono ?_
        rintro e w1 ⟨rfl, hb1⟩
        have HB1 : Hid (Below w.heap.size w w1) := bel_trans hbl.out hb1
        clear hb1
        go_wp2
        refine bodyPost_ret (v := .tuple #[.slice none 0 0, .int .i64 (s.size : Int), .int .i64 64]) (by simp [results, Tryd.results34, go_sem]) rfl ?_
        exact bad_ret _ rfl HP.out HB1.out
      · have hroom := index2_room (s.data.toList.drop a) (by omega)
        rw [hdl] at hroom
        generalize hj : (Lib.index (s.data.toList.drop a) [13, 10]).toNat = j at *
        have HJ : Hid (Lib.index (s.data.toList.drop a) [13, 10] = (j : Int)) := by show _ = _; omega
        have HLn : Hid ((s.data.toList.drop a).take j = (s.extract a (a + j)).data.toList) := by show _ = _; rw [Lib.extract_data, show a + j - a = j by omega]
        have HSz : Hid ((s.extract a (a + j)).size = j) := by show _ = _; simp; omega
        have hj1 : a + j + 2 ≤ s.size := by omega
        have HN : Hid (∃ y, Calls Tryd.prog 63 #[.string (s.extract a s.size), .string ⟨#[13, 10]⟩] wr fun e w' => e = .returned (.tuple #[.string (s.extract a (a + j)), .string y, .bool true]) ∧ Below wr.heap.size wr w') := by
          have h := Cut_any (s.extract a s.size) ⟨#[13, 10]⟩ (by simp; omega) wr (HE.out.below hbl.out).2
          rw [hxl, show (⟨#[13, 10]⟩ : ByteArray).data.toList = [13, 10] from rfl, take_cut hi, hj] at h
          dsimp only at h
          rw [HLn.out, str_self] at h
          exact ⟨_, h⟩
        obtain ⟨y, hn⟩ := HN.out
        have HN2 : Hid (Calls _ _ _ _ _) := hn
        clear hn HN
        by_cases ha : acc.length = 100
        · have HP : Hid (parseText s.data.toList = ([], a, 65)) := hmid.out.many hltl hi ha
          have hq : ((acc.length : Int) == 100) = true := by rw [ha]; rfl
          have HA : Hid (acc.length = 100) := ha
          clear hi hj hxl hdl hltl hsl hroom ha
          go_wp2_with fail
          refine HN2.out.mono ?_
          rintro e w1 ⟨rfl, hb1⟩
          have HB1 : Hid (Below w.heap.size w w1) := bel_trans hbl.out hb1
          have HO1 : Hid (OwnF 52 w.heap.size (.slice la acc.length lc) acc w1) := hown.out.below hb1
          clear hb1
          go_wp2
          refine bodyPost_ret (v := .tuple #[.slice none 0 0, .int .i64 (a : Int), .int .i64 65]) (by simp [results, Tryd.results34, go_sem]) rfl ?_
          exact bad_ret _ rfl HP.out HB1.out
        · have hq : ((acc.length : Int) == 100) = false := by simp; omega
          have hfew := hmid.out.few
          have HPL : Hid (∀ w, Env w → Calls Tryd.prog 36 #[.string (s.extract a (a + j))] w fun e w' => e = .returned (lineV (parseL (s.extract a (a + j)).data.toList)) ∧ Below w.heap.size w w') := fun w h => ParseLine_any (s.extract a (a + j)) (by simp; omega) w h
          have hple := parseL_le (s.extract a (a + j)).data.toList
          rw [size_list, HSz.out] at hple
          have BAD : (parseL (s.extract a (a + j)).data.toList).2.2 ≠ 0 → Hid (parseText s.data.toList = ([], a + (parseL (s.extract a (a + j)).data.toList).2.1, (parseL (s.extract a (a + j)).data.toList).2.2)) := fun h => hmid.out.bad hltl hi ha (by rw [hj, HLn.out]) h
          have NXT : (parseL (s.extract a (a + j)).data.toList).2.2 = 0 → Hid (Mid s.data.toList (a + (j + 2)) (acc ++ [(parseL (s.extract a (a + j)).data.toList).1])) := fun h => by
            have h := hmid.out.next hltl hi ha (x := parseL (s.extract a (a + j)).data.toList) (by rw [hj, HLn.out]) h
            rw [hj] at h
            exact h
          generalize parseL (s.extract a (a + j)).data.toList = X at *
          obtain ⟨⟨xn, xv⟩, k, z⟩ := X
          unfold lineV at HPL
          dsimp only at HPL hple BAD NXT
          have hjs : (s.extract a (a + j)).size = j := HSz.out
          clear hi hj hxl hdl hltl hsl hroom hmid HLn HJ
          generalize hXN : str xn = XN at *
          generalize hXV : str xv = XV at *
          have HXN : Hid (XN = str xn) := hXN.symm
          have HXV : Hid (XV = str xv) := hXV.symm
          clear hXN hXV
          by_cases hz : z = 0
          · have NX := NXT hz
            subst hz
            clear BAD NXT
            go_wp2_with fail
            refine HN2.out.mono ?_
            rintro e w1 ⟨rfl, hb1⟩
            have HB1 : Hid (Below w.heap.size w w1) := bel_trans hbl.out hb1
            have HO1 : Hid (OwnF 52 w.heap.size (.slice la acc.length lc) acc w1) := hown.out.below hb1
            clear hb1
            go_wp2_with fail
            refine (HPL.out _ (HE.out.below HB1.out)).mono ?_
            rintro e w2 ⟨rfl, hb2⟩
            have HO2 : Hid (OwnF 52 w.heap.size (.slice la acc.length lc) acc (w2.alloc (.cells #[.string XN, .string XV] 52))) := (HO1.out.below hb2).below ((Below.refl _ w2).alloc (Nat.le_refl _) _)
            have HB2 : Hid (Below w.heap.size w (w2.alloc (.cells #[.string XN, .string XV] 52))) := by
              have hb3 := bel_trans HB1.out hb2
              exact hb3.alloc hb3.size _
            have hs5 : w.heap.size ≤ (w2.alloc (.cells #[.string XN, .string XV] 52)).heap.size := HB2.out.size
            clear hb2
            go_wp2_with (at_builtin; go_must (refine wp_appF 52 22 infoF Tryd.underlying22 rfl (.tmp 45) (.tmp 47) rfl w.heap.size _ acc _ (xn, xv) _ _ HXN.out HXV.out rfl HO2.out _ rfl (by simp) (by omega) hs5 ?_); intro v5 w5 o5 b5)
            have O5 : Hid (OwnF 52 w.heap.size v5 (acc ++ [(xn, xv)]) w5) := o5
            have B5 : Hid (Below w.heap.size w w5) := HB2.out.trans b5
            clear o5 b5
            go_roundw
            case rel => exact ⟨a + (j + 2), acc ++ [(xn, xv)], by go_num, by omega, NX, O5, B5⟩
            case measure => simp [intOf]; omega
          · have BD := BAD hz
            have hzq : (z != 0) = true := by simp [hz]
            clear BAD NXT
            go_wp2_with fail
            refine HN2.out.mono ?_
            rintro e w1 ⟨rfl, hb1⟩
            have HB1 : Hid (Below w.heap.size w w1) := bel_trans hbl.out hb1
            have HO1 : Hid (OwnF 52 w.heap.size (.slice la acc.length lc) acc w1) := hown.out.below hb1
            clear hb1
            go_wp2_with fail
            refine (HPL.out _ (HE.out.below HB1.out)).mono ?_
            rintro e w2 ⟨rfl, hb2⟩
            have HB2 : Hid (Below w.heap.size w (w2.alloc (.cells #[.string XN, .string XV] 52))) := by
              have hb3 := bel_trans HB1.out hb2
              exact hb3.alloc hb3.size _
            clear hb2
            go_wp2
            refine bodyPost_ret (v := .tuple #[.slice none 0 0, .int .i64 ((a : Int) + (k : Int)), .int .i64 z]) (by simp [results, Tryd.results34, go_sem]) rfl ?_
            exact bad_ret _ (by omega) BD.out HB2.out
    · have HP : Hid (parseText s.data.toList = (acc, 0, 0)) := hmid.out.last (by omega)
      clear hsl
      go_wp2
      refine bodyPost_ret (v := .tuple #[.slice la acc.length lc, .int .i64 0, .int .i64 0]) (by simp [results, Tryd.results34, go_sem]) rfl ?_
      rw [HP.out]
      exact ⟨_, rfl, hown.out, hbl.out⟩

end Fd
end Go.Proofs.YtjmeijjmgmcncaaDoor
