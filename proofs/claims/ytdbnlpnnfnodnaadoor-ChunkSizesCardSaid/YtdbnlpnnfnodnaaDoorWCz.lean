/-
  The law ChunkSizes: the walk.
-/
import Derived.Test.YtdbnlpnnfnodnaaDoorCkM
import Derived.Test.YtdbnlpnnfnodnaaDoorMgA
set_option linter.unusedVariables false
set_option linter.unusedSimpArgs false
set_option maxRecDepth 100000
namespace Go.Proofs.YtdbnlpnnfnodnaaDoor
open Go.RowKit Go.Shelf
namespace Ck
open Oc Tg _root_.Go.Proofs.YtdbnlpnnfnodnaaDoor.Fd

theorem prm_len : ∀ (n : Nat) (r : List UInt8) (x : List Prm × Nat), r.length ≤ n → prm r = some x → x.1.length ≤ r.length := by
  intro n
  induction n with
  | zero =>
    intro r x hr h
    cases hp : pstep r with
    | none => rw [prm_none hp] at h; cases h
    | some y =>
      cases y with
      | none => rw [prm_end hp] at h; injection h with h; subst h; exact Nat.zero_le _
      | some y => have := pstep_le r y hp; omega
  | succ n ih =>
    intro r x hr h
    cases hp : pstep r with
    | none => rw [prm_none hp] at h; cases h
    | some y =>
      cases y with
      | none => rw [prm_end hp] at h; injection h with h; subst h; exact Nat.zero_le _
      | some y =>
        have hy := pstep_le r y hp
        rw [prm_on hp] at h
        cases hq : prm (r.drop y.1) with
        | none => rw [hq] at h; cases h
        | some z =>
          rw [hq] at h
          injection h with h
          have := ih _ _ (by simp; omega) hq
          subst h
          simp at this ⊢
          omega
theorem sizeR_len (l : List UInt8) : (sizeR l).2.1.length ≤ 254 := by
  unfold sizeR
  split
  · exact Nat.zero_le _
  · split
    · exact Nat.zero_le _
    · split
      · exact Nat.zero_le _
      · rename_i h1 h2 h3
        show (paramsR (l.dropWhile hexB)).1.length ≤ 254
        unfold paramsR
        split
        · rename_i x hx
          have h4 := prm_len (l.dropWhile hexB).length _ x (Nat.le_refl _) hx
          have h5 := take_drop_hex l
          show x.1.length ≤ 254
          omega
        · exact Nat.zero_le _

set_option maxHeartbeats 1000000 in
theorem ParseSize_all (s : ByteArray) (hs : s.size ≤ maxLen) (w : World) (t : Tab w) :
    Calls Tryd.prog 6 #[.string s] w fun e w' => ∃ v, e = .returned (.tuple #[.int .i64 (sizeR s.data.toList).1, v, .int .i64 (sizeR s.data.toList).2.2]) ∧ OwnP 45 w.heap.size v (sizeR s.data.toList).2.1 w' ∧ Below w.heap.size w w' := by
  by_cases hbig : 254 < s.size
  · unfold maxLen at hs
    have e : sizeR s.data.toList = (0, [], 100) := by unfold sizeR; rw [if_pos (by rw [size_list]; exact hbig)]
    rw [e]
    go_enter Tryd.func6, Tryd.ntmps6
    go_wp2
    go_ret3
    exact ⟨.slice none 0 0, rfl, ownP_nil _ _ _, Below.refl _ _⟩
  · exact ParseSize_any s (by omega) w t
set_option maxHeartbeats 1000000 in
theorem rParseSize_all (s : ByteArray) (hs : s.size ≤ maxLen) (w : World) :
    Calls Tryd.prog 7 #[.string s] w fun e w' => ∃ v, e = .returned (.tuple #[.int .i64 (sizeR s.data.toList).1, v, .int .i64 (sizeR s.data.toList).2.2]) ∧ OwnP 46 w.heap.size v (sizeR s.data.toList).2.1 w' ∧ Below w.heap.size w w' := by
  by_cases hbig : 254 < s.size
  · unfold maxLen at hs
    have e : sizeR s.data.toList = (0, [], 100) := by unfold sizeR; rw [if_pos (by rw [size_list]; exact hbig)]
    rw [e]
    go_enter Tryd.func7, Tryd.ntmps7
    go_wp2
    go_ret3
    exact ⟨.slice none 0 0, rfl, ownP_nil _ _ _, Below.refl _ _⟩
  · exact rParseSize_any s (by omega) w

set_option maxHeartbeats 1000000 in
theorem walk_ChunkSizes (a : ByteArray) (ha : a.size ≤ maxLen) (w : World) (t : Env w) :
    Calls Tryd.prog 3 #[.string a] w fun e w' => e = .returned (.bool true) ∧ Below w.heap.size w w' := by
  have HT : Hid (Env w) := t
  have HA : Hid (Calls Tryd.prog 5 #[] w fun e w' => e = .returned (.bool true) ∧ Below w.heap.size w w') := awake_any w t
  have HP : Hid (∀ w, Tab w → Calls Tryd.prog 6 #[.string a] w fun e w' => ∃ v, e = .returned (.tuple #[.int .i64 (sizeR a.data.toList).1, v, .int .i64 (sizeR a.data.toList).2.2]) ∧ OwnP 45 w.heap.size v (sizeR a.data.toList).2.1 w' ∧ Below w.heap.size w w') := fun w t => ParseSize_all a ha w t
  have HR : Hid (∀ w, Calls Tryd.prog 7 #[.string a] w fun e w' => ∃ v, e = .returned (.tuple #[.int .i64 (sizeR a.data.toList).1, v, .int .i64 (sizeR a.data.toList).2.2]) ∧ OwnP 46 w.heap.size v (sizeR a.data.toList).2.1 w' ∧ Below w.heap.size w w') := fun w => rParseSize_all a ha w
  have hl := sizeR_len a.data.toList
  generalize sizeR a.data.toList = q at *
  obtain ⟨n, ps, e⟩ := q
  simp only at hl HP HR
  clear t ha
  go_enter Tryd.func3, Tryd.ntmps3
  go_wp2_with fail
  refine HA.out.mono ?_
  rintro x w1 ⟨rfl, hb1⟩
  have HB1 : Hid (Below w.heap.size w w1) := hb1
  clear hb1
  go_wp2_with fail
  refine (HP.out _ (HT.out.below HB1.out).1).mono ?_
  rintro x w2 ⟨v1, rfl, ho2, hb2⟩
  have HB2 : Hid (Below w.heap.size w w2) := bel_trans HB1.out hb2
  have HO2 : Hid (OwnP 45 w1.heap.size v1 ps w2) := ho2
  clear hb2 ho2
  go_wp2_with fail
  refine (HR.out _).mono ?_
  rintro x w3 ⟨v2, rfl, ho3, hb3⟩
  have HB3 : Hid (Below w.heap.size w w3) := bel_trans HB2.out hb3
  have HO3 : Hid (OwnP 46 w2.heap.size v2 ps w3) := ho3
  have HO23 : Hid (OwnP 45 w1.heap.size v1 ps w3) := HO2.out.below hb3
  clear hb3 ho3
  have hq : (n == n) = true := by simp
  have hq2 : (e == e) = true := by simp
  go_wp2_with fail
  refine (sameParams_any v1 v2 ps w3 HO23.out.rd HO3.out.rd (by omega)).mono ?_
  rintro x w4 ⟨rfl, k, hw⟩
  have HB4 : Hid (Below w.heap.size w w4) := by rw [hw]; exact bel_drewN HB3.out k
  clear hw
  go_wp2
  go_ret
  exact ⟨rfl, HB4.out⟩

end Ck
end Go.Proofs.YtdbnlpnnfnodnaaDoor
