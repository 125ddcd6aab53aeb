/-
  target: countGroups, isAddress.
-/
import Derived.Test.YtpnijigjlhfklaaGreatDoorGHb
set_option linter.unusedVariables false
set_option linter.unusedSimpArgs false
set_option maxRecDepth 100000
namespace Go.Proofs.YtpnijigjlhfklaaGreatDoor
open Go.RowKit Go.Shelf
namespace Tg
open Oc

/-- What countGroups answers. -/
def cgR (o : Option Nat) : Int × Bool := match o with | some n => ((n : Int), true) | none => (0, false)
theorem grpG_drop (last : Bool) (L : List (List UInt8)) (k : Nat) (h : k < L.length) : grpG last (L.drop k) = if grp1 (L.getD k []) then (grpG last (L.drop (k + 1))).map (1 + ·) else if last && (L.drop (k + 1)).isEmpty && quadR (L.getD k []) then some 2 else none := by
  have : L.drop k = L.getD k [] :: L.drop (k + 1) := by
    rw [List.drop_eq_getElem_cons h, List.getD_eq_getElem?_getD, List.getElem?_eq_getElem h]
    rfl
  rw [this]
  rfl
theorem drop_last {α : Type} (L : List α) (k : Nat) (h : k < L.length) : (L.drop (k + 1)).isEmpty = decide ((k : Int) = (L.length : Int) - 1) := by
  rw [Bool.eq_iff_iff, List.isEmpty_iff, decide_eq_true_iff, List.drop_eq_nil_iff]
  omega

set_option maxHeartbeats 4000000 in
theorem countGroups_any (s : ByteArray) (hs : s.size ≤ 4000000) (last : Bool) (w : World) (he : HE w) :
    Calls Tryz.prog 108 #[.string s, .bool last] w fun e w' => e = .returned (.tuple #[.int .i64 (cgR (grpR s.data.toList last)).1, .bool (cgR (grpR s.data.toList last)).2]) ∧ Below w.heap.size w w' := by
  by_cases h0 : s.size = 0
  · have hl : s.data.toList = [] := List.length_eq_zero_iff.1 (by rw [size_list]; exact h0)
    have hE : s.toList.isEmpty = true := empty_of h0
    have HG : Hid (grpR s.data.toList last = some 0) := (by unfold grpR; rw [if_pos hl] : _ = _)
    go_enter Tryz.func108, Tryz.ntmps108
    go_wp2
    go_ret2
    rw [HG.out]
    exact ⟨rfl, Below.refl _ _⟩
  have hE : s.toList.isEmpty = false := nonempty_of h0
  have HG : Hid (grpR s.data.toList last = grpG last (splitB 58 s.data.toList)) := (by
    unfold grpR
    rw [if_neg (fun e => h0 (by rw [← size_list, e]; rfl))] : _ = _)
  have HS := Split_any s 58 (by omega) w he.1
  have HSp : Hid (_) := HS
  have HEn : Hid (HE w) := he
  have hLl := split_len 58 s.data.toList
  have HEa : Hid (∀ z ∈ splitB 58 s.data.toList, z.length ≤ 4000000) := (fun z hz => by have := split_each 58 s.data.toList z hz; rw [size_list] at this; omega : ∀ z ∈ splitB 58 s.data.toList, z.length ≤ 4000000)
  rw [HG.out]
  rw [size_list] at hLl
  have hL1 : (splitB 58 s.data.toList).length ≤ 4000001 := by omega
  clear HS he hLl HG
  generalize splitB 58 s.data.toList = L at *
  go_enter Tryz.func108, Tryz.ntmps108
  go_wp2_with fail
  refine Calls.mono HSp.out ?_
  rintro e w1 ⟨a, c, rfl, hr1, hb1⟩
  have HR : Hid (RdS (.slice a L.length c) L w1) := hr1
  have HB1 : Hid (Below w.heap.size w w1) := hb1
  have HE1 : Hid (HE w1) := HEn.out.below hb1
  clear hr1 hb1
  go_wp2
  go_loopw [6, 16] (fun cv i wr => ∃ (k n : Nat), k ≤ L.length ∧ i = .int .i64 k ∧ cv = .int .i64 n ∧ n ≤ 2 * k ∧ Hid (grpG last L = (grpG last (L.drop k)).map (n + ·)) ∧ Hid (Below w1.heap.size w1 wr)) (fun _ i _ => L.length - (intOf i).toNat)
  case atStart => exact ⟨0, 0, Nat.zero_le _, rfl, rfl, by omega, (by simp : grpG last L = (grpG last (L.drop 0)).map (0 + ·)), Below.refl _ _⟩
  case round =>
    obtain ⟨k, n, hk, rfl, rfl, hnk, hst, hbl⟩ := hrel
    by_cases hlt : k < L.length
    · obtain ⟨g, o, rfl, hgc, p0⟩ := rdS_get (HR.out.below hbl.out) hlt
      have hz := HEa.out _ (getD_mem L k [] hlt)
      have HGr : Hid (∀ w, Calls Tryz.prog 119 #[.string (str (L.getD k []))] w fun e w' => e = .returned (.bool (grp1 (L.getD k []))) ∧ Below w.heap.size w w') := fun w => by
        have := isGroup_any (str (L.getD k [])) (by rw [str_size]; omega) w
        rw [str_list] at this
        exact this
      have HDe : Hid (∀ w, HE w → Calls Tryz.prog 120 #[.string (str (L.getD k []))] w fun e w' => e = .returned (.bool (quadR (L.getD k []))) ∧ Below w.heap.size w w') := fun w hw => by
        have := isDecimalEnd_any (str (L.getD k [])) (by rw [str_size]; omega) w hw
        rw [str_list] at this
        exact this
      have HDr : Hid (grpG last (L.drop k) = if grp1 (L.getD k []) then (grpG last (L.drop (k + 1))).map (1 + ·) else if last && (L.drop (k + 1)).isEmpty && quadR (L.getD k []) then some 2 else none) := grpG_drop last L k hlt
      have hdl := drop_last L k hlt
      have HEnd : Hid ((L.drop (k + 1)).isEmpty = true → grpG last (L.drop (k + 1)) = some 0) := (fun h => by rw [List.isEmpty_iff.1 h]; rfl : _ → _)
      generalize grp1 (L.getD k []) = gb at *
      generalize quadR (L.getD k []) = qb at *
      generalize str (L.getD k []) = S at *
      clear hz
      cases gb with
      | true =>
        have hst2 : Hid (grpG last L = (grpG last (L.drop (k + 1))).map ((n + 1) + ·)) := (by
          rw [hst.out, HDr.out, if_pos rfl, Option.map_map]
          congr 1
          funext x
          simp only [Function.comp]
          omega : _ = _)
        clear hst HDr HEnd
        go_wp2_with fail
        refine (HGr.out _).mono ?_
        rintro e w2 ⟨rfl, hb2⟩
        have HB2 : Hid (Below w1.heap.size w1 w2) := bel_trans hbl.out hb2
        clear hb2
        go_wp2
        go_roundw
        case rel => exact ⟨k + 1, n + 1, by omega, by go_num, by go_num, by omega, hst2, HB2⟩
        case measure => simp [intOf]; omega
      | false =>
        rw [if_neg (by simp)] at HDr
        cases last with
        | false =>
          have HNo : Hid (grpG false L = none) := (by rw [hst.out, HDr.out]; rfl : _ = _)
          clear hst HDr HEnd
          go_wp2_with fail
          refine (HGr.out _).mono ?_
          rintro e w2 ⟨rfl, hb2⟩
          have HB2 : Hid (Below w1.heap.size w1 w2) := bel_trans hbl.out hb2
          clear hb2
          go_wp2
          go_ret2
          rw [HNo.out]
          exact ⟨rfl, bel_trans HB1.out HB2.out⟩
        | true =>
          by_cases hend : (k : Int) = (L.length : Int) - 1
          · have hem : (L.drop (k + 1)).isEmpty = true := by rw [hdl]; simp [hend]
            rw [hem] at HDr
            have HZ : Hid (grpG true (L.drop (k + 1)) = some 0) := HEnd.out hem
            have hkq : ((k : Int) == (L.length : Int) - 1) = true := by simp [hend]
            clear hdl
            cases qb with
            | true =>
              have hst2 : Hid (grpG true L = (grpG true (L.drop (k + 1))).map ((n + 2) + ·)) := (by
                rw [hst.out, HDr.out, HZ.out]
                simp : _ = _)
              clear hst HDr HEnd HZ hem hend
              go_wp2_with fail
              refine (HGr.out _).mono ?_
              rintro e w2 ⟨rfl, hb2⟩
              have HB2 : Hid (Below w1.heap.size w1 w2) := bel_trans hbl.out hb2
              clear hb2
              go_wp2_with fail
              refine (HDe.out _ (HE1.out.below HB2.out)).mono ?_
              rintro e w3 ⟨rfl, hb3⟩
              have HB3 : Hid (Below w1.heap.size w1 w3) := bel_trans HB2.out hb3
              clear hb3
              go_wp2
              go_roundw
              case rel => exact ⟨k + 1, n + 2, by omega, by go_num, by go_num, by omega, hst2, HB3⟩
              case measure => simp [intOf]; omega
            | false =>
              have HNo : Hid (grpG true L = none) := (by rw [hst.out, HDr.out]; rfl : _ = _)
              clear hst HDr HEnd HZ hem hend
              go_wp2_with fail
              refine (HGr.out _).mono ?_
              rintro e w2 ⟨rfl, hb2⟩
              have HB2 : Hid (Below w1.heap.size w1 w2) := bel_trans hbl.out hb2
              clear hb2
              go_wp2_with fail
              refine (HDe.out _ (HE1.out.below HB2.out)).mono ?_
              rintro e w3 ⟨rfl, hb3⟩
              have HB3 : Hid (Below w1.heap.size w1 w3) := bel_trans HB2.out hb3
              clear hb3
              go_wp2
              go_ret2
              rw [HNo.out]
              exact ⟨rfl, bel_trans HB1.out HB3.out⟩
          · have hem : (L.drop (k + 1)).isEmpty = false := by rw [hdl]; simp [hend]
            rw [hem] at HDr
            have HNo : Hid (grpG true L = none) := (by rw [hst.out, HDr.out]; simp : _ = _)
            have hkq : ((k : Int) == (L.length : Int) - 1) = false := by simp [hend]
            clear hst HDr HEnd hem hend hdl
            go_wp2_with fail
            refine (HGr.out _).mono ?_
            rintro e w2 ⟨rfl, hb2⟩
            have HB2 : Hid (Below w1.heap.size w1 w2) := bel_trans hbl.out hb2
            clear hb2
            go_wp2
            go_ret2
            rw [HNo.out]
            exact ⟨rfl, bel_trans HB1.out HB2.out⟩
    · have HEq : Hid (grpG last L = some n) := (by rw [hst.out, List.drop_eq_nil_of_le (by omega)]; simp [grpG] : _ = _)
      go_wp2
      go_ret2
      rw [HEq.out]
      exact ⟨rfl, bel_trans HB1.out hbl.out⟩

theorem Cut_two (s : ByteArray) (hs : s.size ≤ 4000000000) (w : World) (h : ML w) :
    Calls Tryz.prog 45 #[.string s, .string ⟨#[58, 58]⟩] w fun e w' => e = .returned (.tuple #[.string (str (Lib.cut s.data.toList [58, 58]).1), .string (str (Lib.cut s.data.toList [58, 58]).2.1), .bool (Lib.cut s.data.toList [58, 58]).2.2]) ∧ Below w.heap.size w w' := by
  obtain ⟨m, hm⟩ := h
  refine (Tryz.strings_Cut s ⟨#[58, 58]⟩ m w (by omega) hm).mono ?_
  rintro e w' ⟨rfl, n, rfl⟩
  exact ⟨rfl, ⟨rfl, rfl, rfl, Nat.le_refl _, fun _ _ => rfl⟩⟩
theorem cut_lens (l sep : List UInt8) : (Lib.cut l sep).1.length ≤ l.length ∧ (Lib.cut l sep).2.1.length ≤ l.length := by
  unfold Lib.cut
  split
  · exact ⟨by rw [List.length_take]; omega, by rw [List.length_drop]; omega⟩
  · simp
theorem cgR_bd {l : List UInt8} {last : Bool} : 0 ≤ (cgR (grpR l last)).1 ∧ (cgR (grpR l last)).1 ≤ 2 * ((l.length : Int) + 1) := by
  cases h : grpR l last with
  | none => exact ⟨by decide, by show (0 : Int) ≤ _; omega⟩
  | some n =>
    have hn : n ≤ 2 * (l.length + 1) := by
      unfold grpR at h
      split at h
      · cases h; omega
      · have := grpG_le last _ _ h
        have := split_len 58 l
        omega
    exact ⟨by show (0 : Int) ≤ (n : Int); omega, by show (n : Int) ≤ _; omega⟩

set_option maxHeartbeats 4000000 in
theorem isAddress_any (s : ByteArray) (hs : s.size ≤ 4000000) (w : World) (he : HE w) :
    Calls Tryz.prog 95 #[.string s] w fun e w' => e = .returned (.bool (addrR s.data.toList)) ∧ Below w.heap.size w w' := by
  have HC : Hid (Calls Tryz.prog 45 #[.string s, .string ⟨#[58, 58]⟩] w fun e w' => e = .returned (.tuple #[.string (str (Lib.cut s.data.toList [58, 58]).1), .string (str (Lib.cut s.data.toList [58, 58]).2.1), .bool (Lib.cut s.data.toList [58, 58]).2.2]) ∧ Below w.heap.size w w') := Cut_two s (by omega) w he.1
  have HEn : Hid (HE w) := he
  have hcl := cut_lens s.data.toList [58, 58]
  rw [size_list] at hcl
  have HG1 : Hid (∀ w, HE w → Calls Tryz.prog 108 #[.string (str (Lib.cut s.data.toList [58, 58]).1), .bool false] w fun e w' => e = .returned (.tuple #[.int .i64 (cgR (grpR (Lib.cut s.data.toList [58, 58]).1 false)).1, .bool (cgR (grpR (Lib.cut s.data.toList [58, 58]).1 false)).2]) ∧ Below w.heap.size w w') := fun w hw => by
    have := countGroups_any (str (Lib.cut s.data.toList [58, 58]).1) (by rw [str_size]; omega) false w hw
    rw [str_list] at this
    exact this
  have HG2 : Hid (∀ w, HE w → Calls Tryz.prog 108 #[.string (str (Lib.cut s.data.toList [58, 58]).2.1), .bool true] w fun e w' => e = .returned (.tuple #[.int .i64 (cgR (grpR (Lib.cut s.data.toList [58, 58]).2.1 true)).1, .bool (cgR (grpR (Lib.cut s.data.toList [58, 58]).2.1 true)).2]) ∧ Below w.heap.size w w') := fun w hw => by
    have := countGroups_any (str (Lib.cut s.data.toList [58, 58]).2.1) (by rw [str_size]; omega) true w hw
    rw [str_list] at this
    exact this
  have HG3 : Hid (∀ w, HE w → Calls Tryz.prog 108 #[.string s, .bool true] w fun e w' => e = .returned (.tuple #[.int .i64 (cgR (grpR s.data.toList true)).1, .bool (cgR (grpR s.data.toList true)).2]) ∧ Below w.heap.size w w') := fun w hw => countGroups_any s hs true w hw
  have b1 := @cgR_bd (Lib.cut s.data.toList [58, 58]).1 false
  have b2 := @cgR_bd (Lib.cut s.data.toList [58, 58]).2.1 true
  have HA : Hid (addrR s.data.toList = if (Lib.cut s.data.toList [58, 58]).2.2 then ((cgR (grpR (Lib.cut s.data.toList [58, 58]).1 false)).2 && (cgR (grpR (Lib.cut s.data.toList [58, 58]).2.1 true)).2 && decide ((cgR (grpR (Lib.cut s.data.toList [58, 58]).1 false)).1 + (cgR (grpR (Lib.cut s.data.toList [58, 58]).2.1 true)).1 < 8)) else ((cgR (grpR s.data.toList true)).2 && decide ((cgR (grpR s.data.toList true)).1 = 8))) := (by
    unfold addrR
    split
    · cases h1 : grpR (Lib.cut s.data.toList [58, 58]).1 false with
      | none => rfl
      | some x =>
        cases h2 : grpR (Lib.cut s.data.toList [58, 58]).2.1 true with
        | none => rfl
        | some y =>
          show decide (x + y < 8) = decide ((x : Int) + (y : Int) < 8)
          rw [decide_eq_decide]
          omega
    · cases h1 : grpR s.data.toList true with
      | none => rfl
      | some x =>
        show (some x == some 8) = decide ((x : Int) = 8)
        rw [Bool.eq_iff_iff]
        simp
        omega : _ = _)
  rw [HA.out]
  clear he HA
  generalize str (Lib.cut s.data.toList [58, 58]).1 = F at *
  generalize str (Lib.cut s.data.toList [58, 58]).2.1 = K at *
  generalize (Lib.cut s.data.toList [58, 58]).1.length = n1 at *
  generalize (Lib.cut s.data.toList [58, 58]).2.1.length = n2 at *
  generalize (cgR (grpR (Lib.cut s.data.toList [58, 58]).1 false)).1 = x1 at *
  generalize (cgR (grpR (Lib.cut s.data.toList [58, 58]).1 false)).2 = y1 at *
  generalize (cgR (grpR (Lib.cut s.data.toList [58, 58]).2.1 true)).1 = x2 at *
  generalize (cgR (grpR (Lib.cut s.data.toList [58, 58]).2.1 true)).2 = y2 at *
  generalize (cgR (grpR s.data.toList true)).1 = x3 at *
  generalize (cgR (grpR s.data.toList true)).2 = y3 at *
  generalize (Lib.cut s.data.toList [58, 58]).2.2 = fb at *
  cases fb with
  | false =>
    rw [if_neg (show ¬ (false = true) by simp)]
    go_enter Tryz.func95, Tryz.ntmps95
    go_wp2_with fail
    refine HC.out.mono ?_
    rintro e w1 ⟨rfl, hb1⟩
    have HB1 : Hid (Below w.heap.size w w1) := hb1
    have HE1 : Hid (HE w1) := HEn.out.below hb1
    clear hb1
    go_wp2_with fail
    refine (HG3.out _ HE1.out).mono ?_
    rintro e w2 ⟨rfl, hb2⟩
    have HB2 : Hid (Below w.heap.size w w2) := bel_trans HB1.out hb2
    clear hb2
    cases y3 with
    | false =>
      go_wp2
      go_ret
      exact ⟨rfl, HB2.out⟩
    | true =>
      by_cases h8 : x3 = 8
      · have hq : (x3 == 8) = true := by simp [h8]
        go_wp2
        go_ret
        exact ⟨by simp [h8], HB2.out⟩
      · have hq : (x3 == 8) = false := by simp [h8]
        go_wp2
        go_ret
        exact ⟨by simp [h8], HB2.out⟩
  | true =>
    rw [if_pos rfl]
    go_enter Tryz.func95, Tryz.ntmps95
    go_wp2_with fail
    refine HC.out.mono ?_
    rintro e w1 ⟨rfl, hb1⟩
    have HB1 : Hid (Below w.heap.size w w1) := hb1
    have HE1 : Hid (HE w1) := HEn.out.below hb1
    clear hb1
    go_wp2_with fail
    refine (HG1.out _ HE1.out).mono ?_
    rintro e w2 ⟨rfl, hb2⟩
    have HB2 : Hid (Below w.heap.size w w2) := bel_trans HB1.out hb2
    have HE2 : Hid (HE w2) := HE1.out.below hb2
    clear hb2
    go_wp2_with fail
    refine (HG2.out _ HE2.out).mono ?_
    rintro e w3 ⟨rfl, hb3⟩
    have HB3 : Hid (Below w.heap.size w w3) := bel_trans HB2.out hb3
    clear hb3
    have hsum : IntKind.i64.wrap (x1 + x2) = x1 + x2 := by rw [IntKind.wrap_i64]; omega
    cases y1 with
    | false =>
      go_wp2
      go_ret
      exact ⟨rfl, HB3.out⟩
    | true =>
      cases y2 with
      | false =>
        go_wp2
        go_ret
        exact ⟨rfl, HB3.out⟩
      | true =>
        by_cases h8 : x1 + x2 < 8
        · go_wp2
          go_ret
          exact ⟨by simp [h8], HB3.out⟩
        · go_wp2
          go_ret
          exact ⟨by simp [h8], HB3.out⟩

end Tg
end Go.Proofs.YtpnijigjlhfklaaGreatDoor
