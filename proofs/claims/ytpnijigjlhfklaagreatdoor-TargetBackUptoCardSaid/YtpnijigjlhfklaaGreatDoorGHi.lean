/-
  HostPort is hpR; the law TargetHosts.
-/
import Derived.Test.YtpnijigjlhfklaaGreatDoorGHh
set_option linter.unusedVariables false
set_option linter.unusedSimpArgs false
set_option maxRecDepth 100000
namespace Go.Proofs.YtpnijigjlhfklaaGreatDoor
open Go.RowKit Go.Shelf
namespace Tg
open Oc

theorem head_byt (s : ByteArray) (h : s.size ≠ 0) (c : UInt8) : s.data.toList.head? = some c ↔ byt s 0 = (c.toNat : Int) := by
  have hlt : 0 < s.size := by omega
  have e : byt s 0 = ((s.data.toList.getD 0 0).toNat : Int) := by rw [← byt_at s 0 hlt, getD_of s 0 hlt]
  rw [e]
  have hl : s.data.toList ≠ [] := fun e => h (by rw [← size_list, e]; rfl)
  cases hc : s.data.toList with
  | nil => exact absurd hc hl
  | cons x t =>
    show some x = some c ↔ (x.toNat : Int) = (c.toNat : Int)
    constructor
    · intro h; injection h with h; rw [h]
    · intro h
      have : x.toNat = c.toNat := by omega
      rw [UInt8.toNat_inj.1 this]
theorem cutA_le (b : UInt8) (l : List UInt8) : (cutA b l).length ≤ l.length := by
  cases hs : Tg.has b l with
  | false => rw [(cut_no b l hs).1]; exact Nat.le_refl _
  | true => have := congrArg List.length (cut_app b l hs); simp only [List.length_append, List.length_cons] at this; omega
theorem cutB_le (b : UInt8) (l : List UInt8) : (cutB b l).length ≤ l.length := by
  cases hs : Tg.has b l with
  | false => rw [(cut_no b l hs).2]; exact Nat.zero_le _
  | true => have := congrArg List.length (cut_app b l hs); simp only [List.length_append, List.length_cons] at this; omega

theorem rHostPort_any (s : ByteArray) (hs : s.size ≤ 4000000) (w : World) :
    Calls Tryz.prog 24 #[.string s] w fun e w' => e = .returned (.tuple #[.string (str (hpR s.data.toList).1), .int .i64 (hpR s.data.toList).2.1, .int .i64 (hpR s.data.toList).2.2]) ∧ Below w.heap.size w w' := by
  by_cases hb : s.data.toList.head? = some 91
  · have h0 : s.size ≠ 0 := fun e => by
      rw [List.length_eq_zero_iff.1 (by rw [size_list]; exact e : s.data.toList.length = 0)] at hb
      cases hb
    have hx : (s.extract 1 s.size).data.toList = s.data.toList.drop 1 := Lib.extract_to_end s 1
    have hzx : (s.extract 1 s.size).size ≤ 4000000 := by rw [ByteArray.size_extract]; omega
    have hdl : (s.data.toList.drop 1).length = s.size - 1 := by rw [List.length_drop, size_list]
    have zA := cutA_le 93 (s.data.toList.drop 1)
    have zB := cutB_le 93 (s.data.toList.drop 1)
    rw [hdl] at zA zB
    refine hp_br s (str (cutA 93 (s.data.toList.drop 1))) (str (cutB 93 (s.data.toList.drop 1))) (str ((cutB 93 (s.data.toList.drop 1)).drop 1)) hs (by rw [str_size]; omega) (Tg.has 93 (s.data.toList.drop 1)) (addrR (cutA 93 (s.data.toList.drop 1))) (lower (s.data.toList.take ((cutA 93 (s.data.toList.drop 1)).length + 2))) (numR 10 ((cutB 93 (s.data.toList.drop 1)).drop 1) 65535).1 (numR 10 ((cutB 93 (s.data.toList.drop 1)).drop 1) 65535).2 w (by omega) ((head_byt s h0 91).1 hb) ?_ ?_ ?_ ?_ ?_ ?_ _ ?_
    · intro hh
      have := congrArg List.length (cut_app 93 _ hh)
      simp only [List.length_append, List.length_cons] at this
      rw [str_size]
      omega
    · intro _
      refine eq_list ?_
      rw [Lib.extract_to_end, str_list, str_list]
    · intro w
      have := rcut_any (s.extract 1 s.size) (by omega) 93 w
      rw [hx] at this
      exact this
    · intro w
      have := rIsAddress_any (str (cutA 93 (s.data.toList.drop 1))) (by rw [str_size]; omega) w
      rw [str_list] at this
      exact this
    · intro w
      have := rLower_any (s.extract 0 ((str (cutA 93 (s.data.toList.drop 1))).size + 2)) (by unfold maxLen; rw [ByteArray.size_extract]; omega) w
      unfold lowS at this
      rw [Lib.extract_from_zero] at this
      rw [str_size] at this ⊢
      exact this
    · intro w
      have := rDecimal_any (str ((cutB 93 (s.data.toList.drop 1)).drop 1)) (by unfold maxLen; rw [str_size, List.length_drop]; omega) 65535 (by decide) (by decide) w
      rw [str_list] at this
      exact this
    · unfold hpR
      rw [if_pos hb, tail_is, str_size, str_size]
      have hz : ((cutB 93 (s.data.toList.drop 1)).length ≠ 0) = (cutB 93 (s.data.toList.drop 1) ≠ []) := by rw [Ne, List.length_eq_zero_iff]
      have hc : ((cutB 93 (s.data.toList.drop 1)).length ≠ 0 ∧ byt (str (cutB 93 (s.data.toList.drop 1))) 0 ≠ 58) = (cutB 93 (s.data.toList.drop 1) ≠ [] ∧ (cutB 93 (s.data.toList.drop 1)).head? ≠ some 58) := by
        refine propext ⟨fun h => ?_, fun h => ?_⟩
        · refine ⟨by rw [← hz]; exact h.1, fun e => h.2 ?_⟩
          have := (head_byt (str (cutB 93 (s.data.toList.drop 1))) (by rw [str_size]; exact h.1) 58).1 (by rw [str_list]; exact e)
          exact this
        · have h1 : (cutB 93 (s.data.toList.drop 1)).length ≠ 0 := by rw [hz]; exact h.1
          refine ⟨h1, fun e => h.2 ?_⟩
          have := (head_byt (str (cutB 93 (s.data.toList.drop 1))) (by rw [str_size]; exact h1) 58).2 e
          rw [str_list] at this
          exact this
      simp only [hc]
      simp only [hz]
  · have zA := cutA_le 58 s.data.toList
    have zB := cutB_le 58 s.data.toList
    rw [size_list] at zA zB
    refine hp_name s (str (cutA 58 s.data.toList)) (str (cutB 58 s.data.toList)) hs (by rw [str_size]; omega) (Tg.has 58 s.data.toList) (decide (cutA 58 s.data.toList ≠ []) && allOk nameOk (cutA 58 s.data.toList)) (lower (cutA 58 s.data.toList)) (numR 10 (cutB 58 s.data.toList) 65535).1 (numR 10 (cutB 58 s.data.toList) 65535).2 w ?_ ?_ ?_ ?_ ?_ _ ?_
    · by_cases h0 : s.size = 0
      · exact .inl h0
      · exact .inr (fun e => hb ((head_byt s h0 91).2 e))
    · intro w
      exact rcut_any s (by omega) 58 w
    · intro w
      have := risName_any (str (cutA 58 s.data.toList)) (by rw [str_size]; omega) w
      rw [str_list] at this
      exact this
    · intro w
      have := rLower_any (str (cutA 58 s.data.toList)) (by unfold maxLen; rw [str_size]; omega) w
      unfold lowS at this
      rw [str_list] at this
      exact this
    · intro w
      have := rDecimal_any (str (cutB 58 s.data.toList)) (by unfold maxLen; rw [str_size]; omega) 65535 (by decide) (by decide) w
      rw [str_list] at this
      exact this
    · unfold hpR
      rw [if_neg hb, tail_is, str_size]

end Tg
end Go.Proofs.YtpnijigjlhfklaaGreatDoor
