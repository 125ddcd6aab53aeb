/-
  Quality, and the document's.
-/
import Derived.Test.YtmgadjnllahbiaaDoorAPl
import Derived.Test.YtmgadjnllahbiaaDoorALib
import Derived.Test.YtmgadjnllahbiaaDoorRNum
set_option linter.unusedVariables false
set_option linter.unusedSimpArgs false
namespace Go.Proofs.YtmgadjnllahbiaaDoor
open Go.RowKit Go.Shelf
namespace Ac
open Oc Tg

theorem zeros_list (k : Nat) (h : k ≤ 3) : ((⟨#[48, 48, 48]⟩ : ByteArray).extract k 3).data.toList = List.replicate (3 - k) 48 := by
  match k, h with
  | 0, _ => rfl
  | 1, _ => rfl
  | 2, _ => rfl
  | 3, _ => rfl

set_option maxRecDepth 100000 in
set_option maxHeartbeats 1000000 in
theorem Quality_any (s : ByteArray) (hs : s.size ≤ 4000000000) (w : World) (hw : ML w) :
    Calls Tryd.prog 18 #[.string s] w fun e w' => e = .returned (.tuple #[.int .i64 (qual s.data.toList).1, .int .i64 (qual s.data.toList).2]) ∧ Below w.heap.size w w' := by
  have HC := Cut_one s 46 hs w hw
  clear hw
  have hq : (if (cutA 46 s.data.toList).length ≠ 1 ∨ 3 < (cutB 46 s.data.toList).length then (0, 71) else if (numR 10 (qd s.data.toList) 1000).2 = 0 then ((numR 10 (qd s.data.toList) 1000).1, 0) else (0, 71)) = qual s.data.toList := rfl
  have hqd : qd s.data.toList = cutA 46 s.data.toList ++ cutB 46 s.data.toList ++ List.replicate (3 - (cutB 46 s.data.toList).length) 48 := rfl
  have la := cutA_len 46 s.data.toList
  have lb := cutB_len 46 s.data.toList
  rw [size_list] at la lb
  generalize qual s.data.toList = Q at *
  obtain ⟨Q1, Q2⟩ := Q
  generalize cutA 46 s.data.toList = A at *
  generalize cutB 46 s.data.toList = D at *
  generalize has 46 s.data.toList = H at *
  generalize qd s.data.toList = QD at *
  have sa : (str A).size = A.length := str_size A
  have sd : (str D).size = D.length := str_size D
  by_cases h1 : A.length = 1
  · by_cases h3 : 3 < D.length
    · have HQ : Hid ((Q1, Q2) = ((0 : Int), (71 : Int))) := by rw [if_pos (.inr h3)] at hq; exact hq.symm
      clear hq hqd
      have q1 : ((A.length : Int) != 1) = false := by simp; omega
      have q2 : decide (3 < (D.length : Int)) = true := decide_eq_true (by omega)
      go_enter Tryd.func18, Tryd.ntmps18
      go_wp2_with fail
      refine HC.mono ?_
      rintro e w2 ⟨rfl, hb2⟩
      go_wp2
      go_ret2
      obtain ⟨rfl, rfl⟩ := Prod.mk.injEq _ _ _ _ ▸ HQ.out
      exact ⟨rfl, hb2⟩
    · rw [if_neg (by omega)] at hq
      have q1 : ((A.length : Int) != 1) = false := by simp; omega
      have q2 : decide (3 < (D.length : Int)) = false := decide_eq_false (by omega)
      have HZ : Hid ((str A ++ str D ++ ((⟨#[48, 48, 48]⟩ : ByteArray).extract D.length 3)).data.toList = QD) := by
        show _ = _
        rw [hqd, ← zeros_list D.length (by omega)]
        simp [str_list]
      have hz : (str A ++ str D ++ ((⟨#[48, 48, 48]⟩ : ByteArray).extract D.length 3)).size = 4 := by
        rw [← size_list, HZ.out, hqd]; simp; omega
      have HD : Hid (∀ w, Calls Tryd.prog 34 #[.string (str A ++ str D ++ ((⟨#[48, 48, 48]⟩ : ByteArray).extract D.length 3)), .int .i64 1000] w fun e w' => e = .returned (.tuple #[.int .i64 (numR 10 QD 1000).1, .int .i64 (numR 10 QD 1000).2]) ∧ Below w.heap.size w w') := fun w => by
        have := Decimal_any (str A ++ str D ++ ((⟨#[48, 48, 48]⟩ : ByteArray).extract D.length 3)) (by rw [hz]; unfold maxLen; omega) 1000 (by omega) (by omega) w
        rw [HZ.out] at this
        exact this
      clear hqd hz HZ
      have HQ : Hid ((if (numR 10 QD 1000).2 = 0 then ((numR 10 QD 1000).1, 0) else (0, 71)) = (Q1, Q2)) := hq
      clear hq
      have hn : (numR 10 QD 1000).2 = 0 ∨ (numR 10 QD 1000).2 ≠ 0 := by omega
      generalize (numR 10 QD 1000).1 = n1 at *
      generalize (numR 10 QD 1000).2 = n2 at *
      go_enter Tryd.func18, Tryd.ntmps18
      go_wp2_with fail
      refine HC.mono ?_
      rintro e w2 ⟨rfl, hb2⟩
      have HB2 : Hid (Below w.heap.size w w2) := hb2
      clear hb2 HC
      go_wp2_with (go_at_call 34; refine (HD.out _).mono ?_; rintro e w3 ⟨rfl, hb3⟩)
      all_goals have HB3 : Hid (Below w.heap.size w w3) := bel_trans HB2.out hb3
      all_goals go_ret2
      · rename_i hne
        have := HQ.out
        rw [if_neg (by simpa using hne)] at this
        cases this
        exact ⟨rfl, HB3.out⟩
      · rename_i hne
        have := HQ.out
        rw [if_pos (by simpa using hne)] at this
        cases this
        exact ⟨rfl, HB3.out⟩
  · have HQ : Hid ((Q1, Q2) = ((0 : Int), (71 : Int))) := by rw [if_pos (.inl h1)] at hq; exact hq.symm
    clear hq hqd
    have q1 : ((A.length : Int) != 1) = true := by simp; omega
    go_enter Tryd.func18, Tryd.ntmps18
    go_wp2_with fail
    refine HC.mono ?_
    rintro e w2 ⟨rfl, hb2⟩
    go_wp2
    go_ret2
    obtain ⟨rfl, rfl⟩ := Prod.mk.injEq _ _ _ _ ▸ HQ.out
    exact ⟨rfl, hb2⟩

end Ac
end Go.Proofs.YtmgadjnllahbiaaDoor
