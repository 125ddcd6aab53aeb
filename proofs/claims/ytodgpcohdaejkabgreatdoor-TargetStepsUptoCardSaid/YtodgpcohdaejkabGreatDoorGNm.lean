/-
  target: Normal, Resolve.
-/
import Derived.Test.YtodgpcohdaejkabGreatDoorGWd
import Derived.Test.YtodgpcohdaejkabGreatDoorGNt
set_option linter.unusedVariables false
set_option linter.unusedSimpArgs false
namespace Go.Proofs.YtodgpcohdaejkabGreatDoor
open Go.RowKit Go.Shelf
namespace Tg
open Oc

theorem ntr_len (l : List UInt8) : (ntr l).length ≤ 3 * l.length := by
  have h1 := nts_len (sg 0 l)
  have h2 := sg_len 0 l
  unfold ntr
  omega
theorem ntr_pos {l : List UInt8} (h : isPath l = true) : 1 ≤ (ntr l).length := by
  have := path_head h
  cases l with
  | nil => cases this
  | cons c t =>
    simp at this
    subst this
    rw [ntr_cons (by decide)]
    simp

set_option maxRecDepth 100000 in
set_option maxHeartbeats 1000000 in
theorem Normal_any (s : ByteArray) (hs : s.size ≤ 1300000) (w : World) (hm : ML w) :
    Calls Tryz.prog 8 #[.string s] w fun e w' => e = .returned (.tuple #[.string (str (normR s.data.toList).1), .int .i64 (normR s.data.toList).2]) ∧ Below w.heap.size w w' := by
  have HI : Hid (∀ w, _) := fun w => isPath_any s (by omega) w
  have HM : Hid (ML w) := hm
  cases hp : isPath s.data.toList with
  | false =>
    have hR : normR s.data.toList = ([], 53) := by unfold normR; rw [hp]; rfl
    rw [hR]
    rw [hp] at HI
    clear hR hp hm
    go_enter Tryz.func8, Tryz.ntmps8
    go_wp2_with fail
    refine (HI.out _).mono ?_
    rintro e w1 ⟨rfl, hb⟩
    go_wp2
    go_ret2
    exact ⟨rfl, hb⟩
  | true =>
    have hR : normR s.data.toList = (undot (ntr s.data.toList), 0) := by unfold normR; rw [hp]; rfl
    rw [hR]
    rw [hp] at HI
    have hl := ntr_len s.data.toList
    have hl1 := ntr_pos hp
    rw [size_list] at hl
    have HN : Hid (∀ w, _) := fun w => normalTriples_any s (by omega) w
    have HW : Hid (∀ w, ML w → Calls Tryz.prog 22 #[.string (str (ntr s.data.toList))] w fun e w' => e = .returned (.string (str (undot (ntr s.data.toList)))) ∧ Below w.heap.size w w') := fun w h => by
      have := withoutDots_any (str (ntr s.data.toList)) (by rw [str_size]; omega) (by rw [str_size]; exact hl1) w h
      rw [str_list] at this
      exact this
    dsimp only
    generalize str (undot (ntr s.data.toList)) = R at *
    generalize str (ntr s.data.toList) = N at *
    clear hR hp hm hl hl1
    go_enter Tryz.func8, Tryz.ntmps8
    go_wp2_with fail
    refine (HI.out _).mono ?_
    rintro e w1 ⟨rfl, hb1⟩
    have H1 : Hid (Below w.heap.size w w1) := hb1
    clear hb1
    go_wp2_with fail
    refine (HN.out _).mono ?_
    rintro e w2 ⟨rfl, hb2⟩
    have H2 : Hid (Below w.heap.size w w2) := H1.out.trans (hb2.mono H1.out.size)
    clear hb2
    go_wp2_with fail
    refine (HW.out _ (HM.out.below H2.out)).mono ?_
    rintro e w3 ⟨rfl, hb3⟩
    have H3 : Hid (Below w.heap.size w w3) := H2.out.trans (hb3.mono H2.out.size)
    clear hb3
    go_wp2
    go_ret2
    exact ⟨rfl, H3.out⟩

end Tg
end Go.Proofs.YtodgpcohdaejkabGreatDoor
