/-
  The document's All, Joined, List, Tokens, In, Has.
-/
import Derived.Test.YtjngpafokkjkdaaGreatDoorFRe
import Derived.Test.YtjngpafokkjkdaaGreatDoorFTk
import Derived.Test.YtjngpafokkjkdaaGreatDoorFPt
set_option linter.unusedVariables false
set_option linter.unusedSimpArgs false
namespace Go.Proofs.YtjngpafokkjkdaaGreatDoor
open Go.RowKit Go.Shelf
namespace Fd
open Oc Tg

theorem vals_take (s : List UInt8) (t : List Fl) (k : Nat) (h : k < t.length) : vals s (t.take (k + 1)) = if alike s (nth t k) then vals s (t.take k) ++ [(nth t k).2] else vals s (t.take k) := by
  unfold vals
  rw [filter_take (alike s) t k h]
  split
  · rw [List.map_append]; rfl
  · rfl
theorem vals_len (s : List UInt8) (t : List Fl) : (vals s t).length ≤ t.length := by unfold vals; rw [List.length_map]; exact List.length_filter_le _ _

set_option maxRecDepth 100000 in
set_option maxHeartbeats 2000000 in
theorem rAll_any (v : Value) (t : List Fl) (s : List UInt8) (hs : s.length ≤ 1048576) (hM : Each 1048576 t) (hl : t.length ≤ 16777216) (w : World) (hrd : RdF v t w) :
    Calls Tryz.prog 22 #[v, .string (str s)] w fun e w' => ∃ u, e = .returned u ∧ OwnS w.heap.size u (vals s t) w' ∧ Below w.heap.size w w' := by
  have HR : Hid (RdF v t w) := hrd
  have HM : Hid (Each 1048576 t) := hM
  have HAk : Hid (∀ (p : Fl) w, p.1.length ≤ 1048576 → Calls Tryz.prog 39 #[.string (str p.1), .string (str s)] w fun e w' => e = .returned (.bool (alike s p)) ∧ Below w.heap.size w w') := fun p w h => by
    have h := rAlike_any (str p.1) (str s) (by rw [str_size]; unfold maxLen; omega) (by rw [str_size]; unfold maxLen; omega) w
    rw [low_alike] at h
    exact h
  obtain ⟨a, c, rfl, _⟩ := hrd
  clear hM hs
  generalize hS : str s = S at *
  clear hS
  go_enter Tryz.func22, Tryz.ntmps22
  go_wp2
  go_loopw [5, 10] (fun ov i wr => ∃ k : Nat, k ≤ t.length ∧ i = .int .i64 k ∧ Hid (OwnS w.heap.size ov (vals s (t.take k)) wr) ∧ Hid (Below w.heap.size w wr)) (fun _ i _ => t.length - (intOf i).toNat)
  case atStart => exact ⟨0, Nat.zero_le _, rfl, ownS_nil _ _, Below.refl _ _⟩
  case round =>
    obtain ⟨k, hk, rfl, hown, hbl⟩ := hrel
    by_cases hlt : k < t.length
    · obtain ⟨a', c', e', hcs⟩ := HR.out.below hbl.out
      injection e' with e1 _ e2
      subst e1 e2
      rcases hcs with h | ⟨g, o, rfl, hlc, hcell⟩
      · rw [h] at hlt; simp at hlt
      obtain ⟨p0, p1⟩ := hcell k hlt
      have hEk := HM.out.at k hlt
      have hvt := vals_take s t k hlt
      have TT : alike s (nth t k) = true → Hid (vals s (t.take (k + 1)) = vals s (t.take k) ++ [(nth t k).2]) := fun h => by
        have := hvt
        rw [if_pos h] at this
        exact this
      have FF : alike s (nth t k) = false → Hid (vals s (t.take (k + 1)) = vals s (t.take k)) := fun h => by
        have := hvt
        rw [if_neg (by rw [h]; simp)] at this
        exact this
      have HC : Hid (∀ w, Calls Tryz.prog 39 #[.string (str (nth t k).1), .string S] w fun e w' => e = .returned (.bool (alike s (nth t k))) ∧ Below w.heap.size w w') := fun w => HAk.out _ w hEk.1
      have hlk : (vals s (t.take k)).length + 1 ≤ 4294967296 := by
        have := vals_len s (t.take k)
        rw [List.length_take] at this
        omega
      clear hcell hEk hvt
      generalize alike s (nth t k) = b at HC TT FF
      generalize nth t k = p at *
      obtain ⟨pn, pv⟩ := p
      dsimp only at p0 p1 HC TT
      generalize hn : str pn = N at *
      clear hn
      have hb1 : Below wr.heap.size wr (wr.alloc (.cells #[.string N, .string (str pv)] 56)) := (Below.refl _ wr).alloc (Nat.le_refl _) _
      have HB1 : Hid (Below w.heap.size w (wr.alloc (.cells #[.string N, .string (str pv)] 56))) := bel_trans hbl.out hb1
      have HO1 : Hid (OwnS w.heap.size _ (vals s (t.take k)) (wr.alloc (.cells #[.string N, .string (str pv)] 56))) := hown.out.below hb1
      clear hb1
      cases b with
      | true =>
        have tt := TT rfl
        clear TT FF
        go_wp2_with fail
        refine (HC.out _).mono ?_
        rintro e w2 ⟨rfl, hb2⟩
        have c1 : w2.cell? ⟨wr.heap.size, 1, none⟩ = some (.string (str pv)) := by rw [hb2.cell (by simp)]; simp
        have HB2 : Hid (Below w.heap.size w w2) := bel_trans HB1.out hb2
        have HO2 : Hid (OwnS w.heap.size _ (vals s (t.take k)) w2) := HO1.out.below hb2
        have hs2 : w.heap.size ≤ w2.heap.size := HB2.out.size
        clear hb2
        go_wp2_with (at_builtin; go_must (refine wp_appS rfl (.tmp 18) (.tmp 21) rfl w.heap.size _ (vals s (t.take k)) _ pv rfl HO2.out rfl hlk hs2 ?_); intro v6 w6 hown6 hb6)
        have HO6 : Hid (OwnS w.heap.size v6 (vals s (t.take (k + 1))) w6) := (by rw [tt.out]; exact hown6 : OwnS _ v6 _ w6)
        have HB6 : Hid (Below w.heap.size w w6) := HB2.out.trans hb6
        clear hown6 hb6
        go_roundw
        case rel => exact ⟨k + 1, by omega, by go_num, HO6, HB6⟩
        case measure => simp [intOf]; omega
      | false =>
        have ff := FF rfl
        clear TT FF
        go_wp2_with fail
        refine (HC.out _).mono ?_
        rintro e w2 ⟨rfl, hb2⟩
        have HB2 : Hid (Below w.heap.size w w2) := bel_trans HB1.out hb2
        have HO2 : Hid (OwnS w.heap.size _ (vals s (t.take (k + 1))) w2) := (by rw [ff.out]; exact HO1.out.below hb2 : OwnS _ _ _ w2)
        clear hb2
        go_wp2
        go_roundw
        case rel => exact ⟨k + 1, by omega, by go_num, HO2, HB2⟩
        case measure => simp [intOf]; omega
    · obtain rfl : k = t.length := by omega
      rw [List.take_length] at hown
      go_wp2
      go_ret
      exact ⟨_, rfl, hown.out, hbl.out⟩

set_option maxRecDepth 100000 in
set_option maxHeartbeats 2000000 in
theorem rJoined_any (v : Value) (t : List Fl) (s : List UInt8) (hs : s.length ≤ 1048576) (hS : sumF t ≤ 1048576) (w : World) (hrd : RdF v t w) :
    Calls Tryz.prog 14 #[v, .string (str s)] w fun e w' => e = .returned (.tuple #[.string (str (joinF (vals s t))), .bool (decide (0 < (vals s t).length))]) ∧ Below w.heap.size w w' := by
  have hlen := len_sumF t
  have HA : Hid (Calls _ _ _ _ _) := rAll_any v t s hs ((each_sumF t).mono hS) (by omega) w hrd
  have hv := sumV_filter s t
  have hv2 := sumL_V (vals s t)
  have HLe : Hid (∀ k, (jp (vals s t) k).length ≤ 4000000) := fun k => by have := jp_len (vals s t) k; omega
  have HSh : Hid (∀ x ∈ vals s t, x.length ≤ 1048576) := vals_short ((each_sumF t).mono hS) s
  have hvl : (vals s t).length ≤ 1048576 := by omega
  obtain ⟨a, c, rfl, _⟩ := hrd
  clear hv hv2 hs
  generalize vals s t = T at *
  generalize str s = S at *
  go_enter Tryz.func14, Tryz.ntmps14
  go_wp2_with fail
  refine HA.out.mono ?_
  rintro e w1 ⟨u, rfl, ho, hb1⟩
  have HR : Hid (RdS u T w1) := ho.rd
  have HB1 : Hid (Below w.heap.size w w1) := hb1
  obtain ⟨a1, c1, rfl⟩ := ho.form
  clear ho hb1
  go_wp2
  go_loop [7, 15] (fun ov i => ∃ k : Nat, k ≤ T.length ∧ i = .int .i64 k ∧ ov = .string (str (jp T k))) (fun _ i => T.length - (intOf i).toNat)
  case atStart => exact ⟨0, Nat.zero_le _, rfl, rfl⟩
  case round =>
    obtain ⟨k, hk, rfl, rfl⟩ := hrel
    by_cases hlt : k < T.length
    · obtain ⟨a', c', e', hcs⟩ := HR.out
      injection e' with e1 _ e2
      subst e1 e2
      rcases hcs with h | ⟨g, o, rfl, hlc, hcell⟩
      · rw [h] at hlt; simp at hlt
      have p0 := hcell k hlt
      have hx := getD_short HSh.out k hlt
      have hj := HLe.out k
      have hjs : (str (jp T k)).size ≤ 4000000 := by rw [str_size]; exact hj
      have hxs : (str (T.getD k [])).size ≤ 1048576 := by rw [str_size]; exact hx
      by_cases h0 : 0 < k
      · have HEQ : Hid (str (jp T k) ++ ⟨#[44, 32]⟩ ++ str (T.getD k []) = str (jp T (k + 1))) := by
          show _ = _
          rw [jp_succ T k hlt h0, ← str_app, ← str_app]
          rfl
        clear hcell hx hj
        generalize hJ : str (jp T k) = J at *
        generalize hX : str (T.getD k []) = X at *
        clear hJ hX
        go_wp2
        go_round
        case rel => exact ⟨k + 1, by omega, by go_num, by rw [HEQ.out]⟩
        case measure => simp [intOf]; omega
      · obtain rfl : k = 0 := by omega
        rw [Nat.add_zero] at p0
        have HEQ : Hid (str (jp T 0) ++ str (T.getD 0 []) = str (jp T 1)) := by
          show _ = _
          rw [jp_one T hlt, str_app]
          rfl
        clear hcell hx hj
        generalize hJ : str (jp T 0) = J at *
        generalize hX : str (T.getD 0 []) = X at *
        clear hJ hX
        go_wp2
        go_round
        case rel => exact ⟨1, by omega, by go_num, by rw [HEQ.out]⟩
        case measure => simp [intOf]; omega
    · obtain rfl : k = T.length := by omega
      rw [jp_all]
      go_wp2
      go_ret2
      exact ⟨by simp, HB1.out⟩

/-- Is one of them that text? -/
def inL (L : List (List UInt8)) (x : List UInt8) : Bool := L.contains x

end Fd
end Go.Proofs.YtjngpafokkjkdaaGreatDoor
