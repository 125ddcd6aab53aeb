/-
  span: Total of both; the law's small.
-/
import Derived.Test.YthdfgepnadgkjaaGreatDoorZzJ
set_option linter.unusedVariables false
set_option linter.unusedSimpArgs false
namespace Go.Proofs.YthdfgepnadgkjaaGreatDoor
open Go.RowKit Go.Shelf
namespace Sn
open Oc Tg Ac

/-- The bytes of spans, one more. -/
def totS (n : Int) (x : Sp) : Int := if emp x = true then n else wrap64 (n + wrap64 (x.2 - x.1))
def totL (l : List Sp) : Int := l.foldl totS 0
theorem take_nthN (t : List Sp) (k : Nat) (h : k < t.length) : t.take (k + 1) = t.take k ++ [nthN t k] := by
  unfold nthN
  rw [List.take_add_one, List.getElem?_eq_getElem h, List.getD_eq_getElem?_getD, List.getElem?_eq_getElem h]; rfl
theorem totL_snoc (l : List Sp) (x : Sp) : totL (l ++ [x]) = totS (totL l) x := by unfold totL; rw [List.foldl_append]; rfl

set_option maxRecDepth 100000 in
set_option maxHeartbeats 2000000 in
theorem Total_any (v : Value) (t : List Sp) (w : World) (h1 : RdN v t w) (hl : t.length ≤ 4294967296) :
    Calls Tryz.prog 11 #[v] w fun e w' => e = .returned (.int .i64 (totL t)) ∧ Below w.heap.size w w' := by
  have H1 : Hid (RdN v t w) := h1
  obtain ⟨a1, c1, rfl, _⟩ := h1
  go_enter Tryz.func11, Tryz.ntmps11
  go_wp2
  go_loopw [3, 8] (fun nv i wr => ∃ (k : Nat) (n : Int), k ≤ t.length ∧ nv = .int .i64 n ∧ Hid (n = totL (t.take k)) ∧ i = .int .i64 k ∧ Hid (Below w.heap.size w wr)) (fun _ i _ => t.length - (intOf i).toNat)
  case atStart => exact ⟨0, 0, Nat.zero_le _, rfl, (rfl : (0 : Int) = totL []), rfl, Below.refl _ _⟩
  case round =>
    obtain ⟨k, n, hk, rfl, hn, rfl, hb⟩ := hrel
    have hsz := hb.out.size
    by_cases hlt : k < t.length
    · obtain ⟨a1', c1', e1', hcs1⟩ := H1.out.below hb.out
      injection e1' with e11 _ e12
      subst e11 e12
      rcases hcs1 with h | ⟨g1, o1, rfl, hlc1, hcell1⟩
      · rw [h] at hlt; simp at hlt
      obtain ⟨p0, p1⟩ := hcell1 k hlt
      have HT : Hid (totL (t.take (k + 1)) = totS n (nthN t k)) := (by rw [take_nthN t k hlt, totL_snoc, hn.out] : totL (t.take (k + 1)) = totS n (nthN t k))
      clear hcell1 hn
      obtain ⟨X, hX⟩ : ∃ X, X = nthN t k := ⟨_, rfl⟩
      rw [← hX] at p0 p1 HT
      clear hX
      obtain ⟨x1, x2⟩ := X
      dsimp only at *
      obtain ⟨w5, hw5⟩ : ∃ w5, w5 = wr.alloc (.cells #[.int .i64 x1, .int .i64 x2] 38) := ⟨_, rfl⟩
      have HP5 : Hid (PB 38 w5 wr.heap.size (x1, x2)) := (by rw [hw5]; exact PB.new _ wr (x1, x2) : PB _ _ _ _)
      have HB5 : Hid (Below wr.heap.size wr w5) := (by rw [hw5]; exact (Below.refl _ wr).alloc (Nat.le_refl _) _ : Below _ _ _)
      have HBg : Hid (Below w.heap.size w w5) := hb.out.trans (HB5.out.mono hsz)
      have q0 := HP5.out.c0
      have q1 := HP5.out.c1
      have HE : Hid (Calls _ _ _ w5 _) := isEmpty_any x1 x2 w5
      go_wp2_with fail
      rw [← hw5]
      go_wp2_with fail
      refine HE.out.mono ?_
      rintro e w6 ⟨rfl, hb6⟩
      have HP6 : Hid (PB 38 w6 wr.heap.size (x1, x2)) := HP5.out.below hb6
      have r0 := HP6.out.c0
      have r1 := HP6.out.c1
      have HB6 : Hid (Below w.heap.size w w6) := bel_trans HBg.out hb6
      clear hb6
      by_cases he : emp (x1, x2) = true
      · have HT2 : Hid (n = totL (t.take (k + 1))) := (by rw [HT.out]; unfold totS; rw [if_pos he] : n = totL (t.take (k + 1)))
        go_wp2
        go_roundw
        case rel => exact ⟨k + 1, n, by omega, rfl, HT2, by go_num, HB6⟩
        case measure => simp [intOf]; omega
      · have HT2 : Hid (wrap64 (n + wrap64 (x2 - x1)) = totL (t.take (k + 1))) := (by rw [HT.out]; unfold totS; rw [if_neg he] : _ = totL (t.take (k + 1)))
        have he' : emp (x1, x2) = false := by simpa using he
        clear he
        go_wp2
        go_roundw
        case rel => exact ⟨k + 1, _, by omega, rfl, HT2, by go_num, HB6⟩
        case measure => simp [intOf]; omega
    · obtain rfl : k = t.length := by omega
      rw [List.take_length] at hn
      go_wp2
      go_ret
      rw [hn.out]
      exact ⟨rfl, hb.out⟩

end Sn
end Go.Proofs.YthdfgepnadgkjaaGreatDoor
