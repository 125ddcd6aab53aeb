/-
  The document's small answers of layer 6: signs, blanks, bytes of fields, tokens, small letters, texts without blanks around.
-/
import Derived.Test.YtjngpafokkjkdaaGreatDoorTrim
set_option linter.unusedVariables false
set_option linter.unusedSimpArgs false
namespace Go.Proofs.YtjngpafokkjkdaaGreatDoor
open Go.RowKit
namespace Fd
open Oc

set_option maxHeartbeats 400000 in
theorem rBlank_any (c : Int) (h0 : 0 ≤ c) (h1 : c ≤ 255) (w : World) :
    Calls Tryz.prog 41 #[.int .u8 c] w fun e w' => e = .returned (.bool (blankI c)) ∧ w' = w := by
  rcases (show c = 32 ∨ c = 9 ∨ (c ≠ 32 ∧ c ≠ 9) by omega) with rfl | rfl | ⟨h, h'⟩
  · go_enter Tryz.func41, Tryz.ntmps41
    go_wp2
    go_ret
    exact ⟨ret_bool (by decide), rfl⟩
  · go_enter Tryz.func41, Tryz.ntmps41
    go_wp2
    go_ret
    exact ⟨ret_bool (by decide), rfl⟩
  · have g1 : (c == 32) = false := by simp; omega
    have g2 : (c == 9) = false := by simp; omega
    go_enter Tryz.func41, Tryz.ntmps41
    go_wp2
    go_ret
    exact ⟨ret_bool (blankI_f (by omega)).symm, rfl⟩

set_option maxHeartbeats 400000 in
theorem rLower_any (s : ByteArray) (hs : s.size ≤ maxLen) (w : World) :
    Calls Tryz.prog 65 #[.string s] w fun e w' => e = .returned (.string (lowS s)) ∧ Below w.heap.size w w' := by
  unfold maxLen at hs
  have hcv := fun w => Lib.run_convert_string_bytes (P := Tryz.prog) w 9 128 5 s Tryz.underlying9 Tryz.underlying128 Tryz.underlying5
  have hb := below_bytes w 5 s
  have hr := bytes_row w 5 s
  go_enter Tryz.func65, Tryz.ntmps65
  go_wp2
  go_loopw [4] (fun i wr => ∃ k : Nat, k ≤ s.size ∧ i = .int .i64 k ∧ Hid (Row wr w.heap.size s.size (fun j => if j < k then lowI (byt s j) else byt s j)) ∧ Hid (Below w.heap.size w wr)) (fun i _ => s.size - (intOf i).toNat)
  case atStart => exact ⟨0, Nat.zero_le _, rfl, (by simpa using hr : Row _ _ _ _), hb⟩
  case round =>
    obtain ⟨k, hk, rfl, hrow, hbel⟩ := hrel
    clear hr hb hcv
    by_cases hlt : k < s.size
    · have hck : wr.cell? ⟨w.heap.size, k, none⟩ = some (.int .u8 (byt s k)) := by
        have := hrow.out.cell k hlt
        rwa [if_neg (by omega)] at this
      have hfk := hrow.out.free k hlt
      obtain ⟨b0, b1⟩ := byt_bd s k
      have hnext : ∀ j, j < s.size → (if j < k + 1 then lowI (byt s j) else byt s j) = if j = k then lowI (byt s k) else if j < k then lowI (byt s j) else byt s j := by
        intro j hj
        by_cases hjk : j = k
        · subst hjk; rw [if_pos (by omega), if_pos rfl]
        · rw [if_neg hjk]
          by_cases h2 : j < k
          · rw [if_pos (by omega), if_pos h2]
          · rw [if_neg (by omega), if_neg h2]
      have HN : Hid (∀ j, j < s.size → (if j < k + 1 then lowI (byt s j) else byt s j) = if j = k then lowI (byt s k) else if j < k then lowI (byt s j) else byt s j) := hnext
      clear hnext
      by_cases hup : 65 ≤ byt s k ∧ byt s k ≤ 90
      · obtain ⟨u0, u1⟩ := hup
        have e1 := lowI_up u0 u1
        have E1 : Hid (lowI (byt s k) = byt s k + 32) := e1
        clear e1
        go_wp2
        go_roundw
        case rel => exact ⟨k + 1, by omega, by go_num, hrow.out.set k hlt _ _ (by rw [← E1.out]; exact HN.out), hbel.out.setCell (Nat.le_refl _) _⟩
        case measure => simp [intOf]; omega
      · have E1 : Hid (lowI (byt s k) = byt s k) := lowI_not hup
        have hsame : Hid (Row wr w.heap.size s.size (fun j => if j < k + 1 then lowI (byt s j) else byt s j)) := by
          refine ⟨fun j hj => ?_, hrow.out.free⟩
          rw [hrow.out.cell j hj, HN.out j hj]
          by_cases hjk : j = k
          · subst hjk; rw [if_neg (by omega), if_pos rfl, E1.out]
          · rw [if_neg hjk]
        by_cases u0 : 65 ≤ byt s k
        all_goals
          have u1 : Hid (¬ (65 ≤ byt s k ∧ byt s k ≤ 90)) := hup
          go_wp2
          go_roundw
          case rel => exact ⟨k + 1, by omega, by go_num, hsame.out, hbel.out⟩
          case measure => simp [intOf]; omega
    · have hbk := back wr w.heap.size s.size (grownCap w s.size 0 5) _ (lower s.data.toList) hrow.out (by simp [lower]) (fun j hj => by rw [if_pos (by omega), lower_getD _ _ (by rw [size_list]; exact hj)]; rfl)
      go_wp2
      go_ret
      exact ⟨rfl, hbel.out⟩

set_option maxHeartbeats 400000 in
theorem rAlike_any (a b : ByteArray) (ha : a.size ≤ maxLen) (hb : b.size ≤ maxLen) (w : World) :
    Calls Tryz.prog 39 #[.string a, .string b] w fun e w' => e = .returned (.bool (decide (lowS a = lowS b))) ∧ Below w.heap.size w w' := by
  go_enter Tryz.func39, Tryz.ntmps39
  go_wp2_with fail
  refine (rLower_any a ha _).mono ?_
  rintro e w1 ⟨rfl, hb1⟩
  go_wp2_with fail
  refine (rLower_any b hb _).mono ?_
  rintro e w2 ⟨rfl, hb2⟩
  go_wp2
  go_ret
  exact ⟨ret_bool (eq_toList _ _), hb1.trans (hb2.mono hb1.size)⟩

set_option maxRecDepth 100000 in
set_option maxHeartbeats 400000 in
theorem rTrim_any (s : ByteArray) (hs : s.size ≤ maxLen) (w : World) :
    Calls Tryz.prog 24 #[.string s] w fun e w' => e = .returned (.string (str (trim s.data.toList))) ∧ w' = w := by
  unfold maxLen at hs
  go_enter Tryz.func24, Tryz.ntmps24
  go_wp2
  go_loop [0] (fun v => ∃ t : ByteArray, v = .string t ∧ t.size ≤ s.size ∧ Hid (trimL t.data.toList = trimL s.data.toList)) (fun v => strLenV v)
  case atStart => exact ⟨s, rfl, Nat.le_refl _, rfl⟩
  case round =>
    obtain ⟨t, rfl, hle, hst⟩ := hrel
    have out : ∀ t : ByteArray, trimL t.data.toList = t.data.toList → trimL t.data.toList = trimL s.data.toList → trim s.data.toList = trimR t.data.toList := by
      intro t h1 h2
      unfold trim
      rw [← h2, h1]
    by_cases hz : t.size = 0
    · have he := hz
      have HE : Hid (trim s.data.toList = trimR t.data.toList) := out t (by rw [List.length_eq_zero_iff.1 ((size_list t).trans hz)]; rfl) hst.out
      clear out
      go_wp2
      go_loop [0] (fun v => ∃ u : ByteArray, v = .string u ∧ u.size ≤ s.size ∧ Hid (trimR u.data.toList = trim s.data.toList)) (fun v => strLenV v)
      case atStart => exact ⟨t, rfl, hle, HE.out.symm⟩
      case round =>
        clear hst hle HE
        obtain ⟨u, rfl, hle, hst⟩ := hrel
        by_cases hz : u.size = 0
        · have he := hz
          have HE : Hid (u = str (trim s.data.toList)) := by
            have e := List.length_eq_zero_iff.1 ((size_list u).trans hz)
            have h := hst.out
            rw [e] at h
            show u = _
            rw [← h, ← str_self u, e]
            rfl
          go_wp2
          go_ret
          exact ⟨ret_string HE.out, rfl⟩
        · have he := hz
          have hby : ((u[u.size - 1].toNat : Nat) : Int) = byt u (u.size - 1) := byt_at u (u.size - 1) (by omega)
          have hpos : 0 < u.size := by omega
          have hcast : ((u.size : Int) - 1) = ((u.size - 1 : Nat) : Int) := by omega
          obtain ⟨b0, b1⟩ := byt_bd u (u.size - 1)
          have HS := snoc_of hz
          have HR : Hid (trimR u.data.toList = if blankB (u.data.toList.getD (u.size - 1) 0) then trimR (u.data.toList.take (u.size - 1)) else u.data.toList) := by
            show trimR u.data.toList = _
            conv => lhs; rw [HS]
            rw [trimR_snoc, ← HS]
          clear HS
          cases hb : blankI (byt u (u.size - 1)) with
          | true =>
            have HI : Hid (trimR (u.extract 0 (u.size - 1)).data.toList = trim s.data.toList) := by
              show trimR _ = _
              have h := HR.out
              rw [show blankB (u.data.toList.getD (u.size - 1) 0) = true from hb, if_pos rfl, hst.out] at h
              rw [init_list]
              exact h.symm
            go_wp2_with (go_at_call 41; refine (rBlank_any _ (by omega) (by omega) _).mono ?_; rintro e w' ⟨rfl, rfl⟩)
            go_round
            case rel => exact ⟨u.extract 0 (u.size - 1), rfl, by simp; omega, HI⟩
            case measure => simp [strLenV]; omega
          | false =>
            have HE : Hid (u = str (trim s.data.toList)) := by
              have h := HR.out
              rw [show blankB (u.data.toList.getD (u.size - 1) 0) = false from hb, if_neg (by simp), hst.out] at h
              show u = _
              rw [h, str_self]
            go_wp2_with (go_at_call 41; refine (rBlank_any _ (by omega) (by omega) _).mono ?_; rintro e w' ⟨rfl, rfl⟩)
            go_ret
            exact ⟨ret_string HE.out, rfl⟩
    · have he := hz
      have hby : ((t[0].toNat : Nat) : Int) = byt t 0 := byt_at t 0 (by omega)
      have hpos : 0 < t.size := by omega
      obtain ⟨b0, b1⟩ := byt_bd t 0
      have HS := cons_of hz
      have HL : Hid (trimL t.data.toList = if blankB (t.data.toList.getD 0 0) then trimL (t.data.toList.drop 1) else t.data.toList) := by
        show trimL t.data.toList = _
        conv => lhs; rw [HS]
        rw [trimL_cons, ← HS]
      clear HS
      cases hb : blankI (byt t 0) with
      | true =>
        have HI : Hid (trimL (t.extract 1 t.size).data.toList = trimL s.data.toList) := by
          show trimL _ = _
          have h := HL.out
          rw [show blankB (t.data.toList.getD 0 0) = true from hb, if_pos rfl, hst.out] at h
          rw [tail_list]
          exact h.symm
        clear out
        go_wp2_with (go_at_call 41; refine (rBlank_any _ (by omega) (by omega) _).mono ?_; rintro e w' ⟨rfl, rfl⟩)
        go_round
        case rel => exact ⟨t.extract 1 t.size, rfl, by simp; omega, HI⟩
        case measure => simp [strLenV]; omega
      | false =>
        have HE : Hid (trim s.data.toList = trimR t.data.toList) := out t (by
          have h := HL.out
          rwa [show blankB (t.data.toList.getD 0 0) = false from hb, if_neg (by simp)] at h) hst.out
        clear out
        go_wp2_with (go_at_call 41; refine (rBlank_any _ (by omega) (by omega) _).mono ?_; rintro e w' ⟨rfl, rfl⟩)
        clear hby hpos HL hb he hz
        go_loop [0] (fun v => ∃ u : ByteArray, v = .string u ∧ u.size ≤ s.size ∧ Hid (trimR u.data.toList = trim s.data.toList)) (fun v => strLenV v)
        case atStart => exact ⟨t, rfl, hle, HE.out.symm⟩
        case round =>
          clear hst hle HE
          obtain ⟨u, rfl, hle, hst⟩ := hrel
          by_cases hz : u.size = 0
          · have he := hz
            have HE : Hid (u = str (trim s.data.toList)) := by
              have e := List.length_eq_zero_iff.1 ((size_list u).trans hz)
              have h := hst.out
              rw [e] at h
              show u = _
              rw [← h, ← str_self u, e]
              rfl
            go_wp2
            go_ret
            exact ⟨ret_string HE.out, rfl⟩
          · have he := hz
            have hby : ((u[u.size - 1].toNat : Nat) : Int) = byt u (u.size - 1) := byt_at u (u.size - 1) (by omega)
            have hpos : 0 < u.size := by omega
            have hcast : ((u.size : Int) - 1) = ((u.size - 1 : Nat) : Int) := by omega
            obtain ⟨b0, b1⟩ := byt_bd u (u.size - 1)
            have HS := snoc_of hz
            have HR : Hid (trimR u.data.toList = if blankB (u.data.toList.getD (u.size - 1) 0) then trimR (u.data.toList.take (u.size - 1)) else u.data.toList) := by
              show trimR u.data.toList = _
              conv => lhs; rw [HS]
              rw [trimR_snoc, ← HS]
            clear HS
            cases hb : blankI (byt u (u.size - 1)) with
            | true =>
              have HI : Hid (trimR (u.extract 0 (u.size - 1)).data.toList = trim s.data.toList) := by
                show trimR _ = _
                have h := HR.out
                rw [show blankB (u.data.toList.getD (u.size - 1) 0) = true from hb, if_pos rfl, hst.out] at h
                rw [init_list]
                exact h.symm
              go_wp2_with (go_at_call 41; refine (rBlank_any _ (by omega) (by omega) _).mono ?_; rintro e w' ⟨rfl, rfl⟩)
              go_round
              case rel => exact ⟨u.extract 0 (u.size - 1), rfl, by simp; omega, HI⟩
              case measure => simp [strLenV]; omega
            | false =>
              have HE : Hid (u = str (trim s.data.toList)) := by
                have h := HR.out
                rw [show blankB (u.data.toList.getD (u.size - 1) 0) = false from hb, if_neg (by simp), hst.out] at h
                show u = _
                rw [h, str_self]
              go_wp2_with (go_at_call 41; refine (rBlank_any _ (by omega) (by omega) _).mono ?_; rintro e w' ⟨rfl, rfl⟩)
              go_ret
              exact ⟨ret_string HE.out, rfl⟩

end Fd
end Go.Proofs.YtjngpafokkjkdaaGreatDoor
