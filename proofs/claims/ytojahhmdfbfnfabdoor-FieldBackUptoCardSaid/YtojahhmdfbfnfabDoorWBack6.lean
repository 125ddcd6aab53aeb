/-
  FieldBack.
-/
import Derived.Test.YtojahhmdfbfnfabDoorFBk
set_option linter.unusedVariables false
set_option linter.unusedSimpArgs false
namespace Go.Proofs.YtojahhmdfbfnfabDoor
open Go.RowKit Go.Shelf
namespace Fd
open Oc Tg

set_option maxRecDepth 100000 in
set_option maxHeartbeats 4000000 in
theorem walk_FieldBack (v : Value) (t : List Fl) (hs : bulkfields t ≤ 1048576) (w : World) (hin : InF v t w) (hw : Env w) :
    Calls Tryd.prog 5 #[v] w fun e w' => e = .returned (.bool true) ∧ Below w.heap.size w w' := by
  unfold bulkfields at hs
  have hlen := len_sumF t
  have HA : Hid (Calls _ _ _ _ _) := awake_any w hw
  have HE : Hid (Env w) := hw
  have HI : Hid (InF v t w) := hin
  have HR : Hid (RdF v t w) := hin.1
  have HH : Hid (∀ w, InF v t w → Calls Tryd.prog 30 #[v] w fun e w' => ∃ u, e = .returned u ∧ OwnF 56 w.heap.size u t w' ∧ Below w.heap.size w w') := fun w h => wide_any v t w h (by omega)
  have HP : Hid (∀ u w, RdF u t w → Tab w → Calls Tryd.prog 29 #[u] w fun e w' => e = .returned (.tuple #[.string (str (printT t).1), .int .i64 (printT t).2]) ∧ Below w.heap.size w w') := fun u w h tb => Print_any u t hs w h tb
  have HL : Hid (∀ w, RdF v t w → Calls Tryd.prog 11 #[v] w fun e w' => ∃ u, e = .returned u ∧ OwnF 76 w.heap.size u t w' ∧ Below w.heap.size w w') := fun w h => plain_any v t w h (by omega)
  obtain ⟨⟨a, c, rfl, _⟩, _⟩ := hin
  clear hw
  by_cases h100 : 100 < t.length
  · go_enter Tryd.func5, Tryd.ntmps5
    go_wp2_with fail
    refine HA.out.mono ?_
    rintro e w1 ⟨rfl, hb⟩
    go_wp2
    go_ret
    exact ⟨rfl, hb⟩
  · go_enter Tryd.func5, Tryd.ntmps5
    go_wp2_with fail
    refine HA.out.mono ?_
    rintro e w1 ⟨rfl, hb⟩
    have HB1 : Hid (Below w.heap.size w w1) := hb
    clear hb
    go_wp2
    go_loopw [16] (fun i wr => ∃ k : Nat, k ≤ t.length ∧ i = .int .i64 k ∧ Hid (∀ j, j < k → isName (nth t j).1 = true ∧ isValue (nth t j).2 = true) ∧ Hid (Below w.heap.size w wr)) (fun i _ => t.length - (intOf i).toNat)
    case atStart => exact ⟨0, Nat.zero_le _, rfl, (fun j hj => by omega : ∀ j, j < 0 → _), HB1⟩
    case round =>
      obtain ⟨k, hk, rfl, hall, hbl⟩ := hrel
      by_cases hlt : k < t.length
      · obtain ⟨a', c', e', hcs⟩ := HR.out.below hbl.out
        injection e' with e1 _ e2
        subst e1 e2
        rcases hcs with h | ⟨g, o, rfl, hlc, hcell⟩
        · rw [h] at hlt; simp at hlt
        obtain ⟨p0, p1⟩ := hcell k hlt
        have hz := (each_sumF t).at k hlt
        have H1 : Hid (∀ w, Calls Tryd.prog 27 #[.string (str (nth t k).1)] w fun e w' => e = .returned (.bool (isName (nth t k).1)) ∧ w' = w) := fun w => by
          have h := rIsName_any (str (nth t k).1) (by rw [str_size]; unfold maxLen; omega) w
          rw [str_list] at h
          exact h
        have H2 : Hid (∀ w, Calls Tryd.prog 28 #[.string (str (nth t k).2)] w fun e w' => e = .returned (.bool (isValue (nth t k).2)) ∧ w' = w) := fun w => by
          have h := rIsValue_any (str (nth t k).2) (by rw [str_size]; unfold maxLen; omega) w
          rw [str_list] at h
          exact h
        have NX : isName (nth t k).1 = true → isValue (nth t k).2 = true → Hid (∀ j, j < k + 1 → isName (nth t j).1 = true ∧ isValue (nth t j).2 = true) := fun h1 h2 j hj => by
          by_cases hjk : j = k
          · subst hjk; exact ⟨h1, h2⟩
          · exact hall.out j (by omega)
        clear hcell hz
        generalize isName (nth t k).1 = b1 at H1 NX
        generalize isValue (nth t k).2 = b2 at H2 NX
        generalize str (nth t k).1 = N at *
        generalize str (nth t k).2 = V at *
        have hb1 : Below wr.heap.size wr (wr.alloc (.cells #[.string N, .string V] 56)) := (Below.refl _ wr).alloc (Nat.le_refl _) _
        have HBW : Hid (Below w.heap.size w (wr.alloc (.cells #[.string N, .string V] 56))) := bel_trans hbl.out hb1
        clear hb1
        cases b1 with
        | false =>
          clear NX
          go_wp2_with fail
          refine (H1.out _).mono ?_
          rintro e x1 ⟨rfl, rfl⟩
          go_wp2
          go_ret
          exact ⟨rfl, HBW.out⟩
        | true =>
          cases b2 with
          | false =>
            clear NX
            go_wp2_with fail
            refine (H1.out _).mono ?_
            rintro e x1 ⟨rfl, rfl⟩
            go_wp2_with fail
            refine (H2.out _).mono ?_
            rintro e x2 ⟨rfl, rfl⟩
            go_wp2
            go_ret
            exact ⟨rfl, HBW.out⟩
          | true =>
            have nx := NX rfl rfl
            clear NX
            go_wp2_with fail
            refine (H1.out _).mono ?_
            rintro e x1 ⟨rfl, rfl⟩
            go_wp2_with fail
            refine (H2.out _).mono ?_
            rintro e x2 ⟨rfl, rfl⟩
            go_wp2
            go_roundw
            case rel => exact ⟨k + 1, by omega, by go_num, nx, HBW⟩
            case measure => simp [intOf]; omega
      · have hr : ∀ p ∈ t, isName p.1 = true ∧ isValue p.2 = true := fun p hp => by
          obtain ⟨j, hj, e⟩ := List.mem_iff_getElem.1 hp
          have h := hall.out j (by omega)
          rw [show nth t j = p by unfold nth; rw [List.getD_eq_getElem?_getD, List.getElem?_eq_getElem hj, ← e]; rfl] at h
          exact h
        obtain ⟨q1, q2⟩ := back_all hr (by omega)
        have tl := text_len t
        have HPa : Hid (∀ w, Env w → Calls Tryd.prog 31 #[.string (str (textOf t))] w fun e w' => ∃ v, e = .returned (.tuple #[v, .int .i64 0, .int .i64 0]) ∧ OwnF 56 w.heap.size v t w' ∧ Below w.heap.size w w') := fun w h => by
          have h := Parse_any (str (textOf t)) (by rw [str_size]; omega) w h
          rw [str_list, q2] at h
          exact h
        rw [q1] at HP
        dsimp only at HP
        clear q1 q2 tl hr
        generalize str (textOf t) = TX at *
        go_wp2_with fail
        refine (HH.out _ (HI.out.below hbl.out)).mono ?_
        rintro e w2 ⟨u, rfl, hu, hb⟩
        have HB2 : Hid (Below w.heap.size w w2) := bel_trans hbl.out hb
        have HU : Hid (RdF u t w2) := hu.rd
        clear hb hu
        go_wp2_with fail
        refine (HP.out _ _ HU.out (HE.out.below HB2.out).1).mono ?_
        rintro e w3 ⟨rfl, hb⟩
        have HB3 : Hid (Below w.heap.size w w3) := bel_trans HB2.out hb
        clear hb
        go_wp2_with fail
        refine (HPa.out _ (HE.out.below HB3.out)).mono ?_
        rintro e w4 ⟨m, rfl, hm, hb⟩
        have HB4 : Hid (Below w.heap.size w w4) := bel_trans HB3.out hb
        have HM : Hid (RdF m t w4) := hm.rd
        clear hb hm
        go_wp2_with fail
        refine (HL.out _ (HR.out.below HB4.out)).mono ?_
        rintro e w5 ⟨q, rfl, hq, hb⟩
        have HB5 : Hid (Below w.heap.size w w5) := bel_trans HB4.out hb
        have HS : Hid (Calls _ _ _ _ _) := same_any m q t w5 (HM.out.below hb) hq.rd (by omega)
        clear hb hq
        go_wp2_with fail
        refine HS.out.mono ?_
        rintro e w6 ⟨rfl, hb⟩
        have HB6 : Hid (Below w.heap.size w w6) := bel_trans HB5.out hb
        clear hb
        go_wp2
        go_ret
        exact ⟨rfl, HB6.out⟩

end Fd
end Go.Proofs.YtojahhmdfbfnfabDoor
