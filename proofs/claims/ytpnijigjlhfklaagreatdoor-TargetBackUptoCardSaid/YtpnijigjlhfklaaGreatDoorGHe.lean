/-
  Of the document: decimal, quad, groups, IsAddress, isName.
-/
import Derived.Test.YtpnijigjlhfklaaGreatDoorGHd
import Derived.Test.YtpnijigjlhfklaaGreatDoorGRp
import Derived.Deep.RegionHeld3
set_option linter.unusedVariables false
set_option linter.unusedSimpArgs false
set_option maxRecDepth 100000
namespace Go.Proofs.YtpnijigjlhfklaaGreatDoor
open Go.RowKit Go.Shelf
namespace Tg
open Oc

set_option maxHeartbeats 1000000 in
theorem rdecimal_any (l : List UInt8) (hs : l.length ≤ 4000000) (w : World) :
    Calls Tryz.prog 110 #[.string (str l)] w fun e w' => e = .returned (.bool (dec1 l)) ∧ Below w.heap.size w w' := by
  have HD1 : Hid (∀ w, Calls Tryz.prog 51 #[.string (str l), .int .i64 255] w fun e w' => e = .returned (.tuple #[.int .i64 (numR 10 l 255).1, .int .i64 (numR 10 l 255).2]) ∧ w' = w) := fun w => by
    have := rDecimal_any (str l) (by rw [str_size]; unfold maxLen; omega) 255 (by decide) (by decide) w
    rw [str_list] at this
    exact this
  have hnb := numR_bd10 l
  have HDg : Hid (∀ w, Calls Tryz.prog 19 #[.int .i64 (numR 10 l 255).1] w fun e w' => e = .returned (.string (str (Lib.itoa (numR 10 l 255).1))) ∧ Below w.heap.size w w') := fun w => rDigits_any _ (by omega) (by omega) w
  have HDe : Hid (dec1 l = (decide ((numR 10 l 255).2 = 0) && decide (str (Lib.itoa (numR 10 l 255).1) = str l))) := (by
    unfold dec1
    congr 1
    rw [decide_eq_decide]
    exact ⟨fun h => (congrArg str h).symm, fun h => (str_inj h).symm⟩ : _ = _)
  rw [HDe.out]
  clear HDe hnb
  generalize str (Lib.itoa (numR 10 l 255).1) = D at *
  generalize (numR 10 l 255).1 = X at *
  generalize (numR 10 l 255).2 = E at *
  generalize str l = S at *
  go_enter Tryz.func110, Tryz.ntmps110
  go_wp2_with fail
  refine (HD1.out _).mono ?_
  rintro e w1 ⟨rfl, hw1⟩
  rw [hw1]
  clear hw1
  by_cases hE : E = 0
  · subst hE
    by_cases hSD : D = S
    · have hq : (D.toList == S.toList) = true := by rw [eq_toList]; simp [hSD]
      go_wp2_with fail
      refine (HDg.out _).mono ?_
      rintro e w3 ⟨rfl, hb3⟩
      have HB3 : Hid (Below w.heap.size w w3) := hb3
      clear hb3
      go_wp2
      go_ret
      exact ⟨by simp [hSD], HB3.out⟩
    · have hq : (D.toList == S.toList) = false := by rw [eq_toList]; simp [hSD]
      go_wp2_with fail
      refine (HDg.out _).mono ?_
      rintro e w3 ⟨rfl, hb3⟩
      have HB3 : Hid (Below w.heap.size w w3) := hb3
      clear hb3
      go_wp2
      go_ret
      exact ⟨by simp [hSD], HB3.out⟩
  · have hq : (E == 0) = false := by simp [hE]
    go_wp2
    go_ret
    exact ⟨by simp [hE], Below.refl _ _⟩

set_option maxHeartbeats 2000000 in
theorem rquad_any (l : List UInt8) (hs : l.length ≤ 4000000) (w : World) :
    Calls Tryz.prog 100 #[.string (str l)] w fun e w' => e = .returned (.bool (quadR l)) ∧ Below w.heap.size w w' := by
  have HS : Hid (Calls Tryz.prog 37 #[.string (str l), .int .u8 46] w fun e w' => ∃ v, e = .returned v ∧ OwnS w.heap.size v (splitB 46 l) w' ∧ Below w.heap.size w w') := by
    have := rsplit_any (str l) (by rw [str_size]; omega) 46 w
    rw [str_list] at this
    exact this
  have hLl := split_len 46 l
  have HEa : Hid (∀ z ∈ splitB 46 l, z.length ≤ 4000000) := (fun z hz => by have := split_each 46 l z hz; omega : ∀ z ∈ splitB 46 l, z.length ≤ 4000000)
  have HQ : Hid (quadR l = ((splitB 46 l).all dec1 && decide ((splitB 46 l).length = 4))) := (rfl : _ = _)
  rw [HQ.out]
  have hL1 : (splitB 46 l).length ≤ 4000001 := by omega
  clear hLl HQ
  generalize splitB 46 l = L at *
  go_enter Tryz.func100, Tryz.ntmps100
  go_wp2_with fail
  refine HS.out.mono ?_
  rintro e w1 ⟨v, rfl, ho1, hb1⟩
  obtain ⟨a, c, rfl⟩ := ho1.form
  have HR : Hid (RdS (.slice a L.length c) L w1) := ho1.rd
  have HB1 : Hid (Below w.heap.size w w1) := hb1
  clear ho1 hb1
  go_wp2
  go_loopw [4] (fun i wr => ∃ k : Nat, k ≤ L.length ∧ i = .int .i64 k ∧ Hid (∀ j, j < k → dec1 (L.getD j []) = true) ∧ Hid (Below w1.heap.size w1 wr)) (fun i _ => L.length - (intOf i).toNat)
  case atStart => exact ⟨0, Nat.zero_le _, rfl, (fun j hj => by omega : ∀ j, j < 0 → _), Below.refl _ _⟩
  case round =>
    obtain ⟨k, hk, rfl, hall, hbl⟩ := hrel
    by_cases hlt : k < L.length
    · obtain ⟨g, o, rfl, hgc, p0⟩ := rdS_get (HR.out.below hbl.out) hlt
      have hz := HEa.out _ (getD_mem L k [] hlt)
      have NX : dec1 (L.getD k []) = true → Hid (∀ j, j < k + 1 → dec1 (L.getD j []) = true) := fun h j hj => by
        by_cases hjk : j = k
        · subst hjk; exact h
        · exact hall.out j (by omega)
      have BD : dec1 (L.getD k []) = false → Hid ((L.all dec1 && decide (L.length = 4)) = false) := fun h => (by
        have : L.all dec1 = false := by
          rw [List.all_eq_false]
          exact ⟨_, getD_mem L k [] hlt, by rw [h]; simp⟩
        rw [this]; rfl : _ = _)
      have HD : Hid (∀ w, Calls Tryz.prog 110 #[.string (str (L.getD k []))] w fun e w' => e = .returned (.bool (dec1 (L.getD k []))) ∧ Below w.heap.size w w') := fun w => rdecimal_any _ hz w
      clear hz
      generalize dec1 (L.getD k []) = db at NX BD HD
      generalize str (L.getD k []) = S at *
      cases db with
      | true =>
        have nx := NX rfl
        clear NX BD
        go_wp2_with fail
        refine (HD.out _).mono ?_
        rintro e w3 ⟨rfl, hb3⟩
        have HB3 : Hid (Below w1.heap.size w1 w3) := bel_trans hbl.out hb3
        clear hb3
        go_wp2
        go_roundw
        case rel => exact ⟨k + 1, by omega, by go_num, nx, HB3⟩
        case measure => simp [intOf]; omega
      | false =>
        have bd := BD rfl
        clear NX BD
        go_wp2_with fail
        refine (HD.out _).mono ?_
        rintro e w3 ⟨rfl, hb3⟩
        have HB3 : Hid (Below w1.heap.size w1 w3) := bel_trans hbl.out hb3
        clear hb3
        go_wp2
        go_ret
        exact ⟨by rw [bd.out]; rfl, bel_trans HB1.out HB3.out⟩
    · have HAl : Hid (L.all dec1 = true) := (by
        rw [List.all_eq_true]
        intro x hx
        obtain ⟨j, hj, rfl⟩ := List.mem_iff_getElem.1 hx
        have := hall.out j (by omega)
        rw [List.getD_eq_getElem?_getD, List.getElem?_eq_getElem hj] at this
        exact this : _ = _)
      by_cases h4 : L.length = 4
      · have h4' : (((L.length : Nat) : Int) == 4) = true := by simp [h4]
        go_wp2
        go_ret
        exact ⟨by rw [HAl.out]; simp [h4], bel_trans HB1.out hbl.out⟩
      · have h4' : (((L.length : Nat) : Int) == 4) = false := by simp; omega
        go_wp2
        go_ret
        exact ⟨by rw [HAl.out]; simp [h4], bel_trans HB1.out hbl.out⟩

/-- What the document's groups answers. -/
def gI (o : Option Nat) : Int := match o with | some n => (n : Int) | none => -1

set_option maxHeartbeats 4000000 in
theorem rgroups_any (s : ByteArray) (hs : s.size ≤ 4000000) (last : Bool) (w : World) :
    Calls Tryz.prog 79 #[.string s, .bool last] w fun e w' => e = .returned (.int .i64 (gI (grpR s.data.toList last))) ∧ Below w.heap.size w w' := by
  by_cases h0 : s.size = 0
  · have hl : s.data.toList = [] := List.length_eq_zero_iff.1 (by rw [size_list]; exact h0)
    have hE : s.toList.isEmpty = true := empty_of h0
    have HG : Hid (grpR s.data.toList last = some 0) := (by unfold grpR; rw [if_pos hl] : _ = _)
    go_enter Tryz.func79, Tryz.ntmps79
    go_wp2
    go_ret
    rw [HG.out]
    exact ⟨rfl, Below.refl _ _⟩
  have hE : s.toList.isEmpty = false := nonempty_of h0
  have HG : Hid (grpR s.data.toList last = grpG last (splitB 58 s.data.toList)) := (by
    unfold grpR
    rw [if_neg (fun e => h0 (by rw [← size_list, e]; rfl))] : _ = _)
  have HS : Hid (Calls Tryz.prog 37 #[.string s, .int .u8 58] w fun e w' => ∃ v, e = .returned v ∧ OwnS w.heap.size v (splitB 58 s.data.toList) w' ∧ Below w.heap.size w w') := rsplit_any s (by omega) 58 w
  have hLl := split_len 58 s.data.toList
  have HEa : Hid (∀ z ∈ splitB 58 s.data.toList, z.length ≤ 4000000) := (fun z hz => by have := split_each 58 s.data.toList z hz; rw [size_list] at this; omega : ∀ z ∈ splitB 58 s.data.toList, z.length ≤ 4000000)
  rw [HG.out]
  rw [size_list] at hLl
  have hL1 : (splitB 58 s.data.toList).length ≤ 4000001 := by omega
  clear hLl HG
  generalize splitB 58 s.data.toList = L at *
  go_enter Tryz.func79, Tryz.ntmps79
  go_wp2_with fail
  refine HS.out.mono ?_
  rintro e w1 ⟨v, rfl, ho1, hb1⟩
  obtain ⟨a, c, rfl⟩ := ho1.form
  have HR : Hid (RdS (.slice a L.length c) L w1) := ho1.rd
  have HB1 : Hid (Below w.heap.size w w1) := hb1
  clear ho1 hb1
  go_wp2
  go_loopw [6, 7] (fun cv i wr => ∃ (k n : Nat), k ≤ L.length ∧ i = .int .i64 k ∧ cv = .int .i64 n ∧ n ≤ 2 * k ∧ Hid (grpG last L = (grpG last (L.drop k)).map (n + ·)) ∧ Hid (Below w1.heap.size w1 wr)) (fun _ i _ => L.length - (intOf i).toNat)
  case atStart => exact ⟨0, 0, Nat.zero_le _, rfl, rfl, by omega, (by simp : grpG last L = (grpG last (L.drop 0)).map (0 + ·)), Below.refl _ _⟩
  case round =>
    obtain ⟨k, n, hk, rfl, rfl, hnk, hst, hbl⟩ := hrel
    by_cases hlt : k < L.length
    · obtain ⟨g, o, rfl, hgc, p0⟩ := rdS_get (HR.out.below hbl.out) hlt
      have hz := HEa.out _ (getD_mem L k [] hlt)
      have HX : Hid (∀ w, Calls Tryz.prog 89 #[.string (str (L.getD k [])), .int .i64 65535] w fun e w' => e = .returned (.tuple #[.int .i64 (numR 16 (L.getD k []) 65535).1, .int .i64 (numR 16 (L.getD k []) 65535).2]) ∧ w' = w) := fun w => by
        have := rHex_any (str (L.getD k [])) (by rw [str_size]; unfold maxLen; omega) 65535 (by decide) (by decide) w
        rw [str_list] at this
        exact this
      have HDe : Hid (∀ w, Calls Tryz.prog 100 #[.string (str (L.getD k []))] w fun e w' => e = .returned (.bool (quadR (L.getD k []))) ∧ Below w.heap.size w w') := fun w => rquad_any _ hz w
      have HDr : Hid (grpG last (L.drop k) = if grp1 (L.getD k []) then (grpG last (L.drop (k + 1))).map (1 + ·) else if last && (L.drop (k + 1)).isEmpty && quadR (L.getD k []) then some 2 else none) := grpG_drop last L k hlt
      have hdl := drop_last L k hlt
      have HEnd : Hid ((L.drop (k + 1)).isEmpty = true → grpG last (L.drop (k + 1)) = some 0) := (fun h => by rw [List.isEmpty_iff.1 h]; rfl : _ → _)
      have hg1 : grp1 (L.getD k []) = (decide ((numR 16 (L.getD k []) 65535).2 = 0) && decide ((str (L.getD k [])).size ≤ 4)) := by unfold grp1; rw [str_size]
      generalize grp1 (L.getD k []) = gb at *
      generalize quadR (L.getD k []) = qb at *
      generalize (numR 16 (L.getD k []) 65535).1 = X at *
      generalize (numR 16 (L.getD k []) 65535).2 = E at *
      generalize str (L.getD k []) = S at *
      clear hz
      cases gb with
      | true =>
        have hst2 : Hid (grpG last L = (grpG last (L.drop (k + 1))).map ((n + 1) + ·)) := (by
          rw [hst.out, HDr.out, if_pos rfl, Option.map_map]
          congr 1
          funext x
          simp only [Function.comp]
          omega : _ = _)
        have hg2 := hg1.symm
        rw [Bool.and_eq_true, decide_eq_true_iff, decide_eq_true_iff] at hg2
        obtain ⟨rfl, h4⟩ := hg2
        have h4' : ((S.size : Nat) : Int) ≤ 4 := by omega
        clear hst HDr HEnd hg1
        go_wp2_with fail
        refine (HX.out _).mono ?_
        rintro e w2 ⟨rfl, hw2⟩
        rw [hw2]
        clear hw2
        go_wp2
        go_roundw
        case rel => exact ⟨k + 1, n + 1, by omega, by go_num, by go_num, by omega, hst2, hbl⟩
        case measure => simp [intOf]; omega
      | false =>
        rw [if_neg (by simp)] at HDr
        have hg2 : E ≠ 0 ∨ ¬ S.size ≤ 4 := by
          by_cases hE0 : E = 0
          · right
            intro h
            rw [hE0] at hg1
            simp [h] at hg1
          · exact .inl hE0
        have NOG : Hid (∀ (P : Prop), (E = 0 → ¬ ((S.size : Nat) : Int) ≤ 4 → P) → ((E == 0) = false → P) → P) := fun P h1 h2 => by
          by_cases hE0 : E = 0
          · exact h1 hE0 (hg2.elim (fun h => absurd hE0 h) (fun h => by omega))
          · exact h2 (by simp [hE0])
        clear hg1 hg2
        cases last with
        | false =>
          have HNo : Hid (grpG false L = none) := (by rw [hst.out, HDr.out]; rfl : _ = _)
          clear hst HDr HEnd
          refine NOG.out _ (fun hE0 h4 => ?_) (fun hE0 => ?_)
          · subst hE0
            go_wp2_with fail
            refine (HX.out _).mono ?_
            rintro e w2 ⟨rfl, hw2⟩
            rw [hw2]
            clear hw2
            go_wp2
            go_ret
            rw [HNo.out]
            exact ⟨rfl, bel_trans HB1.out hbl.out⟩
          · go_wp2_with fail
            refine (HX.out _).mono ?_
            rintro e w2 ⟨rfl, hw2⟩
            rw [hw2]
            clear hw2
            go_wp2
            go_ret
            rw [HNo.out]
            exact ⟨rfl, bel_trans HB1.out hbl.out⟩
        | true =>
          by_cases hend : (k : Int) = (L.length : Int) - 1
          · have hem : (L.drop (k + 1)).isEmpty = true := by rw [hdl]; simp [hend]
            rw [hem] at HDr
            have HZ : Hid (grpG true (L.drop (k + 1)) = some 0) := HEnd.out hem
            have hkq : ((k : Int) == (L.length : Int) - 1) = true := by simp [hend]
            clear hdl
            cases qb with
            | true =>
              have hst2 : Hid (grpG true L = (grpG true (L.drop (k + 1))).map ((n + 2) + ·)) := (by
                rw [hst.out, HDr.out, HZ.out]
                simp : _ = _)
              clear hst HDr HEnd HZ hem hend
              refine NOG.out _ (fun hE0 h4 => ?_) (fun hE0 => ?_)
              · subst hE0
                go_wp2_with fail
                refine (HX.out _).mono ?_
                rintro e w2 ⟨rfl, hw2⟩
                rw [hw2]
                clear hw2
                go_wp2_with fail
                refine (HDe.out _).mono ?_
                rintro e w3 ⟨rfl, hb3⟩
                have HB3 : Hid (Below w1.heap.size w1 w3) := bel_trans hbl.out hb3
                clear hb3
                go_wp2
                go_roundw
                case rel => exact ⟨k + 1, n + 2, by omega, by go_num, by go_num, by omega, hst2, HB3⟩
                case measure => simp [intOf]; omega
              · go_wp2_with fail
                refine (HX.out _).mono ?_
                rintro e w2 ⟨rfl, hw2⟩
                rw [hw2]
                clear hw2
                go_wp2_with fail
                refine (HDe.out _).mono ?_
                rintro e w3 ⟨rfl, hb3⟩
                have HB3 : Hid (Below w1.heap.size w1 w3) := bel_trans hbl.out hb3
                clear hb3
                go_wp2
                go_roundw
                case rel => exact ⟨k + 1, n + 2, by omega, by go_num, by go_num, by omega, hst2, HB3⟩
                case measure => simp [intOf]; omega
            | false =>
              have HNo : Hid (grpG true L = none) := (by rw [hst.out, HDr.out]; rfl : _ = _)
              clear hst HDr HEnd HZ hem hend
              refine NOG.out _ (fun hE0 h4 => ?_) (fun hE0 => ?_)
              · subst hE0
                go_wp2_with fail
                refine (HX.out _).mono ?_
                rintro e w2 ⟨rfl, hw2⟩
                rw [hw2]
                clear hw2
                go_wp2_with fail
                refine (HDe.out _).mono ?_
                rintro e w3 ⟨rfl, hb3⟩
                have HB3 : Hid (Below w1.heap.size w1 w3) := bel_trans hbl.out hb3
                clear hb3
                go_wp2
                go_ret
                rw [HNo.out]
                exact ⟨rfl, bel_trans HB1.out HB3.out⟩
              · go_wp2_with fail
                refine (HX.out _).mono ?_
                rintro e w2 ⟨rfl, hw2⟩
                rw [hw2]
                clear hw2
                go_wp2_with fail
                refine (HDe.out _).mono ?_
                rintro e w3 ⟨rfl, hb3⟩
                have HB3 : Hid (Below w1.heap.size w1 w3) := bel_trans hbl.out hb3
                clear hb3
                go_wp2
                go_ret
                rw [HNo.out]
                exact ⟨rfl, bel_trans HB1.out HB3.out⟩
          · have hem : (L.drop (k + 1)).isEmpty = false := by rw [hdl]; simp [hend]
            rw [hem] at HDr
            have HNo : Hid (grpG true L = none) := (by rw [hst.out, HDr.out]; simp : _ = _)
            have hkq : ((k : Int) == (L.length : Int) - 1) = false := by simp [hend]
            clear hst HDr HEnd hem hend hdl
            refine NOG.out _ (fun hE0 h4 => ?_) (fun hE0 => ?_)
            · subst hE0
              go_wp2_with fail
              refine (HX.out _).mono ?_
              rintro e w2 ⟨rfl, hw2⟩
              rw [hw2]
              clear hw2
              go_wp2
              go_ret
              rw [HNo.out]
              exact ⟨rfl, bel_trans HB1.out hbl.out⟩
            · go_wp2_with fail
              refine (HX.out _).mono ?_
              rintro e w2 ⟨rfl, hw2⟩
              rw [hw2]
              clear hw2
              go_wp2
              go_ret
              rw [HNo.out]
              exact ⟨rfl, bel_trans HB1.out hbl.out⟩
    · have HEq : Hid (grpG last L = some n) := (by rw [hst.out, List.drop_eq_nil_of_le (by omega)]; simp [grpG] : _ = _)
      go_wp2
      go_ret
      rw [HEq.out]
      exact ⟨rfl, bel_trans HB1.out hbl.out⟩

end Tg
end Go.Proofs.YtpnijigjlhfklaaGreatDoor
