/-
  ChunkMost.
-/
import Derived.Test.YtifhbjkgdnemjaaGreatDoorMgF
set_option linter.unusedVariables false
set_option linter.unusedSimpArgs false
set_option maxRecDepth 100000
namespace Go.Proofs.YtifhbjkgdnemjaaGreatDoor
open Go.RowKit Go.Shelf
namespace Ck
open Oc Tg _root_.Go.Proofs.YtifhbjkgdnemjaaGreatDoor.Fd

set_option maxHeartbeats 4000000 in
theorem walk_ChunkMost (s : ByteArray) (hs : s.size ≤ 1048576) (v : Value) (l : List Int) (hl : l.length ≤ 1048576) (w : World) (hr : RdI w v l) (he : Env w) (td : Deb w) :
    Calls Tryz.prog 7 #[.string s, v] w fun e w' => e = .returned (.bool true) ∧ Below w.heap.size w w' := by
  have HA : Hid (Calls Tryz.prog 9 #[] w fun e w' => e = .returned (.bool true) ∧ Below w.heap.size w w') := awake_any w he
  have HEn : Hid (Env w) := he
  have HD : Hid (Deb w) := td
  have HR : Hid (RdI w v l) := hr
  obtain ⟨a, c, rfl, _⟩ := hr
  clear he td
  by_cases h0 : s.size = 0
  · have he : s.toList.isEmpty = true := empty_of h0
    go_enter Tryz.func7, Tryz.ntmps7
    go_wp2_with fail
    refine HA.out.mono ?_
    rintro e w1 ⟨rfl, hb1⟩
    have HB1 : Hid (Below w.heap.size w w1) := hb1
    clear hb1
    go_wp2
    go_ret
    exact ⟨rfl, HB1.out⟩
  have hne : s.toList.isEmpty = false := by
    cases hb : s.toList.isEmpty with
    | false => rfl
    | true =>
      rw [List.isEmpty_iff, ByteArray.toList_eq] at hb
      exact absurd (by rw [← size_list, hb]; rfl) h0
  have hpos : 0 < s.size := by omega
  have hll : s.data.toList.length = s.size := size_list s
  have hln : s.data.toList ≠ [] := fun e => h0 (by rw [← hll, e]; rfl)
  go_enter Tryz.func7, Tryz.ntmps7
  go_wp2_with fail
  refine HA.out.mono ?_
  rintro e w1 ⟨rfl, hb1⟩
  have HB1 : Hid (Below w.heap.size w w1) := hb1
  have HR1 : Hid (RdI w1 (.slice a l.length c) l) := HR.out.below hb1
  clear hb1
  go_wp2_with fail
  refine (sized_any _ l (by omega) w1 HR1.out).mono ?_
  rintro e w2 ⟨u, m, rfl, hml, hmx, hown, hb2⟩
  have HB2 : Hid (Below w.heap.size w w2) := bel_trans HB1.out hb2
  have HI2 : Hid (RdI w2 u m) := hown.rd (fun x hx => by have := hmx x hx; omega)
  have HE2 : Hid (Env w2) := HEn.out.below HB2.out
  have HD2 : Hid (Deb w2) := HD.out.below HB2.out
  have hEq : encR s.data.toList m [] = (encL s.data.toList m [], 0) := encR_yes (fun x hx => (hmx x hx).1) rfl
  have hcl := cutC_len m s.data.toList (by omega)
  have hel := encL_len s.data.toList m []
  have htg : (trailG []).length = 0 := rfl
  have HEnc : Hid (Calls Tryz.prog 14 #[.string s, u, .slice none 0 0] w2 fun e w' => e = .returned (.tuple #[.string (str (encL s.data.toList m [])), .int .i64 0]) ∧ Below w2.heap.size w2 w') := by
    have := Encode_any s hs u m (by omega) (.slice none 0 0) [] (by simp [sumF]) w2 HI2.out ⟨none, 0, rfl, .inl rfl⟩ HE2.out.1 HD2.out
    rw [hEq] at this
    exact this
  obtain ⟨p, p1, p2, p3, p4⟩ := dec_much s.data.toList m (by omega) hln
  have hde := dec_enc (most := (s.data.toList.length : Int)) (room := 2) (fields := 0) s.data.toList m [] [] (by omega) (Int.le_refl _) rfl (by simp [trailG]) (by simp)
  rw [List.append_nil] at hde
  rw [hll] at p4 hde
  have hsz := str_size (encL s.data.toList m [])
  have hbig : (encL s.data.toList m []).length ≤ 20000000 := by omega
  have hix : ∀ h : p < (str (encL s.data.toList m [])).size, (str (encL s.data.toList m []))[p] = 10 := fun h => by
    rw [← at_lt _ p h, str_list]
    exact p3
  have hSL := str_list (encL s.data.toList m [])
  have HDec1 : Hid (∀ w, Env w → Calls Tryz.prog 20 #[.string (str (encL s.data.toList m [])), .int .i64 ((s.size : Int) - 1), .int .i64 2, .int .i64 0] w fun e w' => ∃ v, e = .returned (.tuple #[.string ⟨#[]⟩, v, .int .i64 (p : Int), .int .i64 102]) ∧ OwnF 39 w.heap.size v [] w' ∧ Below w.heap.size w w') := fun w hw => by
    have := Decode_any (str (encL s.data.toList m [])) ((s.size : Int) - 1) 2 0 (by omega) (by omega) (by omega) (by omega) w hw
    rw [hSL, p4] at this
    exact this
  have HDec2 : Hid (∀ w, Env w → Calls Tryz.prog 20 #[.string (str (encL s.data.toList m [])), .int .i64 (s.size : Int), .int .i64 2, .int .i64 0] w fun e w' => ∃ v, e = .returned (.tuple #[.string s, v, .int .i64 ((str (encL s.data.toList m [])).size : Int), .int .i64 0]) ∧ OwnF 39 w.heap.size v [] w' ∧ Below w.heap.size w w') := fun w hw => by
    have := Decode_any (str (encL s.data.toList m [])) (s.size : Int) 2 0 (by omega) (by omega) (by omega) (by omega) w hw
    rw [hSL, hde] at this
    rw [hsz]
    rw [show str s.data.toList = s from str_self s] at this
    exact this
  have hps : p < (str (encL s.data.toList m [])).size := by omega
  have hpi : ¬ (((str (encL s.data.toList m [])).size : Int) ≤ (p : Int)) := by omega
  have hp2 : ¬ ((p : Int) < 2) := by omega
  clear hb2 hown hmx hEq hcl hel htg p3 p4 hde hSL hsz hbig p2 hml
  generalize str (encL s.data.toList m []) = X at *
  have hix2 := hix hps
  go_wp2_with fail
  refine HEnc.out.mono ?_
  rintro e w3 ⟨rfl, hb3⟩
  have HB3 : Hid (Below w.heap.size w w3) := bel_trans HB2.out hb3
  have HE3 : Hid (Env w3) := HEn.out.below HB3.out
  clear hb3
  go_wp2_with fail
  refine (HDec1.out _ HE3.out).mono ?_
  rintro e w4 ⟨v4, rfl, ho4, hb4⟩
  have HB4 : Hid (Below w.heap.size w w4) := bel_trans HB3.out hb4
  have HE4 : Hid (Env w4) := HEn.out.below HB4.out
  clear hb4 ho4
  go_wp2_with fail
  refine (HDec2.out _ HE4.out).mono ?_
  rintro e w5 ⟨v5, rfl, ho5, hb5⟩
  have HB5 : Hid (Below w.heap.size w w5) := bel_trans HB4.out hb5
  clear hb5 ho5
  have hself : (s.toList == s.toList) = true := by simp
  go_wp2
  go_ret
  exact ⟨rfl, HB5.out⟩

end Ck
end Go.Proofs.YtifhbjkgdnemjaaGreatDoor
