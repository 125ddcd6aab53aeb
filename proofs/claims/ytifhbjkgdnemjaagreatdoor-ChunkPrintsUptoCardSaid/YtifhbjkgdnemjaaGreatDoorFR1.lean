/-
  The document's small answers of layer 6: signs, blanks, bytes of fields, tokens, small letters, texts without blanks around.
-/
import Derived.Test.YtifhbjkgdnemjaaGreatDoorTrim
set_option linter.unusedVariables false
set_option linter.unusedSimpArgs false
namespace Go.Proofs.YtifhbjkgdnemjaaGreatDoor
open Go.RowKit
namespace Fd
open Oc

set_option maxHeartbeats 400000 in
theorem rBlank_any (c : Int) (h0 : 0 ≤ c) (h1 : c ≤ 255) (w : World) :
    Calls Tryz.prog 84 #[.int .u8 c] w fun e w' => e = .returned (.bool (blankI c)) ∧ w' = w := by
  rcases (show c = 32 ∨ c = 9 ∨ (c ≠ 32 ∧ c ≠ 9) by omega) with rfl | rfl | ⟨h, h'⟩
  · go_enter Tryz.func84, Tryz.ntmps84
    go_wp2
    go_ret
    exact ⟨ret_bool (by decide), rfl⟩
  · go_enter Tryz.func84, Tryz.ntmps84
    go_wp2
    go_ret
    exact ⟨ret_bool (by decide), rfl⟩
  · have g1 : (c == 32) = false := by simp; omega
    have g2 : (c == 9) = false := by simp; omega
    go_enter Tryz.func84, Tryz.ntmps84
    go_wp2
    go_ret
    exact ⟨ret_bool (blankI_f (by omega)).symm, rfl⟩

set_option maxHeartbeats 400000 in
theorem rInside_any (c : Int) (h0 : 0 ≤ c) (h1 : c ≤ 255) (w : World) :
    Calls Tryz.prog 61 #[.int .u8 c] w fun e w' => e = .returned (.bool (fieldI c)) ∧ w' = w := by
  rcases (show c = 9 ∨ c = 127 ∨ (c ≠ 9 ∧ c < 32) ∨ (32 ≤ c ∧ c ≠ 127) by omega) with rfl | rfl | ⟨h, h'⟩ | ⟨h, h'⟩
  · go_enter Tryz.func61, Tryz.ntmps61
    go_wp2
    go_ret
    exact ⟨ret_bool (by decide), rfl⟩
  · go_enter Tryz.func61, Tryz.ntmps61
    go_wp2
    go_ret
    exact ⟨ret_bool (by decide), rfl⟩
  · have g1 : (c == 9) = false := by simp; omega
    go_enter Tryz.func61, Tryz.ntmps61
    go_wp2
    go_ret
    exact ⟨ret_bool (fieldI_f (by omega)).symm, rfl⟩
  · have g1 : (c == 9) = false := by simp; omega
    have g2 : (c != 127) = true := by simp; omega
    go_enter Tryz.func61, Tryz.ntmps61
    go_wp2
    go_ret
    exact ⟨ret_bool (fieldI_t (by omega)).symm, rfl⟩

set_option maxHeartbeats 1000000 in
theorem rSign_any (c : Int) (h0 : 0 ≤ c) (h1 : c ≤ 255) (w : World) :
    Calls Tryz.prog 60 #[.int .u8 c] w fun e w' => e = .returned (.bool (tokI c)) ∧ w' = w := by
  rcases (show c < 48 ∨ (48 ≤ c ∧ c ≤ 57) ∨ (57 < c ∧ c < 65) ∨ (65 ≤ c ∧ c ≤ 90) ∨ (90 < c ∧ c < 97) ∨ (97 ≤ c ∧ c ≤ 122) ∨ 122 < c by omega) with h | ⟨h, h'⟩ | ⟨h, h'⟩ | ⟨h, h'⟩ | ⟨h, h'⟩ | ⟨h, h'⟩ | h
  · have HD : Hid (digI c = false) := digI_f (by omega)
    have HL : Hid (lettI c = false) := lettI_f (by omega)
    go_enter Tryz.func60, Tryz.ntmps60
    go_wp2
    go_loop [4] (fun i => ∃ k : Nat, k ≤ 15 ∧ i = .int .i64 k ∧ Hid (∀ j, j < k → ((signs.getD j 0).toNat : Int) ≠ c)) (fun i => 15 - (intOf i).toNat)
    case atStart => exact ⟨0, by omega, rfl, (fun j hj => by omega : ∀ j, j < 0 → _)⟩
    case round =>
      obtain ⟨k, hk, rfl, hno⟩ := hrel
      by_cases hlt : k < 15
      · go_wp2
        · have hit : ((⟨#[33, 35, 36, 37, 38, 39, 42, 43, 45, 46, 94, 95, 96, 124, 126]⟩ : ByteArray)[k].toNat == c) = true := by assumption
          go_ret
          exact ⟨ret_bool (tokI_of_sign k hlt (by rw [signs_at k hlt]; exact eq_of_beq hit)).symm, rfl⟩
        · have miss : ((⟨#[33, 35, 36, 37, 38, 39, 42, 43, 45, 46, 94, 95, 96, 124, 126]⟩ : ByteArray)[k].toNat == c) = false := by assumption
          have HA : Hid (∀ j, j < k + 1 → ((signs.getD j 0).toNat : Int) ≠ c) := by
            intro j hj
            by_cases hjk : j = k
            · subst hjk
              rw [signs_at j hlt]
              exact beq_eq_false_iff_ne.1 miss
            · exact hno.out j (by omega)
          go_round
          case rel => exact ⟨k + 1, by omega, by go_num, HA⟩
          case measure => simp [intOf]; omega
      · go_wp2
        go_ret
        exact ⟨ret_bool (tokI_none HD.out HL.out (fun j hj => hno.out j (by omega))).symm, rfl⟩
  · go_enter Tryz.func60, Tryz.ntmps60
    go_wp2
    go_ret
    exact ⟨ret_bool (tokI_of_dig (digI_t (by omega))).symm, rfl⟩
  · have g57 : decide (c ≤ 57) = false := by simp; omega
    have HD : Hid (digI c = false) := digI_f (by omega)
    have HL : Hid (lettI c = false) := lettI_f (by omega)
    go_enter Tryz.func60, Tryz.ntmps60
    go_wp2
    go_loop [4] (fun i => ∃ k : Nat, k ≤ 15 ∧ i = .int .i64 k ∧ Hid (∀ j, j < k → ((signs.getD j 0).toNat : Int) ≠ c)) (fun i => 15 - (intOf i).toNat)
    case atStart => exact ⟨0, by omega, rfl, (fun j hj => by omega : ∀ j, j < 0 → _)⟩
    case round =>
      obtain ⟨k, hk, rfl, hno⟩ := hrel
      by_cases hlt : k < 15
      · go_wp2
        · have hit : ((⟨#[33, 35, 36, 37, 38, 39, 42, 43, 45, 46, 94, 95, 96, 124, 126]⟩ : ByteArray)[k].toNat == c) = true := by assumption
          go_ret
          exact ⟨ret_bool (tokI_of_sign k hlt (by rw [signs_at k hlt]; exact eq_of_beq hit)).symm, rfl⟩
        · have miss : ((⟨#[33, 35, 36, 37, 38, 39, 42, 43, 45, 46, 94, 95, 96, 124, 126]⟩ : ByteArray)[k].toNat == c) = false := by assumption
          have HA : Hid (∀ j, j < k + 1 → ((signs.getD j 0).toNat : Int) ≠ c) := by
            intro j hj
            by_cases hjk : j = k
            · subst hjk
              rw [signs_at j hlt]
              exact beq_eq_false_iff_ne.1 miss
            · exact hno.out j (by omega)
          go_round
          case rel => exact ⟨k + 1, by omega, by go_num, HA⟩
          case measure => simp [intOf]; omega
      · go_wp2
        go_ret
        exact ⟨ret_bool (tokI_none HD.out HL.out (fun j hj => hno.out j (by omega))).symm, rfl⟩
  · have g57 : decide (c ≤ 57) = false := by simp; omega
    go_enter Tryz.func60, Tryz.ntmps60
    go_wp2
    go_ret
    exact ⟨ret_bool (tokI_of_lett (lettI_t (by omega))).symm, rfl⟩
  · have g57 : decide (c ≤ 57) = false := by simp; omega
    have g90 : decide (c ≤ 90) = false := by simp; omega
    have HD : Hid (digI c = false) := digI_f (by omega)
    have HL : Hid (lettI c = false) := lettI_f (by omega)
    go_enter Tryz.func60, Tryz.ntmps60
    go_wp2
    go_loop [4] (fun i => ∃ k : Nat, k ≤ 15 ∧ i = .int .i64 k ∧ Hid (∀ j, j < k → ((signs.getD j 0).toNat : Int) ≠ c)) (fun i => 15 - (intOf i).toNat)
    case atStart => exact ⟨0, by omega, rfl, (fun j hj => by omega : ∀ j, j < 0 → _)⟩
    case round =>
      obtain ⟨k, hk, rfl, hno⟩ := hrel
      by_cases hlt : k < 15
      · go_wp2
        · have hit : ((⟨#[33, 35, 36, 37, 38, 39, 42, 43, 45, 46, 94, 95, 96, 124, 126]⟩ : ByteArray)[k].toNat == c) = true := by assumption
          go_ret
          exact ⟨ret_bool (tokI_of_sign k hlt (by rw [signs_at k hlt]; exact eq_of_beq hit)).symm, rfl⟩
        · have miss : ((⟨#[33, 35, 36, 37, 38, 39, 42, 43, 45, 46, 94, 95, 96, 124, 126]⟩ : ByteArray)[k].toNat == c) = false := by assumption
          have HA : Hid (∀ j, j < k + 1 → ((signs.getD j 0).toNat : Int) ≠ c) := by
            intro j hj
            by_cases hjk : j = k
            · subst hjk
              rw [signs_at j hlt]
              exact beq_eq_false_iff_ne.1 miss
            · exact hno.out j (by omega)
          go_round
          case rel => exact ⟨k + 1, by omega, by go_num, HA⟩
          case measure => simp [intOf]; omega
      · go_wp2
        go_ret
        exact ⟨ret_bool (tokI_none HD.out HL.out (fun j hj => hno.out j (by omega))).symm, rfl⟩
  · have g57 : decide (c ≤ 57) = false := by simp; omega
    have g90 : decide (c ≤ 90) = false := by simp; omega
    go_enter Tryz.func60, Tryz.ntmps60
    go_wp2
    go_ret
    exact ⟨ret_bool (tokI_of_lett (lettI_t (by omega))).symm, rfl⟩
  · have g57 : decide (c ≤ 57) = false := by simp; omega
    have g90 : decide (c ≤ 90) = false := by simp; omega
    have g122 : decide (c ≤ 122) = false := by simp; omega
    have HD : Hid (digI c = false) := digI_f (by omega)
    have HL : Hid (lettI c = false) := lettI_f (by omega)
    go_enter Tryz.func60, Tryz.ntmps60
    go_wp2
    go_loop [4] (fun i => ∃ k : Nat, k ≤ 15 ∧ i = .int .i64 k ∧ Hid (∀ j, j < k → ((signs.getD j 0).toNat : Int) ≠ c)) (fun i => 15 - (intOf i).toNat)
    case atStart => exact ⟨0, by omega, rfl, (fun j hj => by omega : ∀ j, j < 0 → _)⟩
    case round =>
      obtain ⟨k, hk, rfl, hno⟩ := hrel
      by_cases hlt : k < 15
      · go_wp2
        · have hit : ((⟨#[33, 35, 36, 37, 38, 39, 42, 43, 45, 46, 94, 95, 96, 124, 126]⟩ : ByteArray)[k].toNat == c) = true := by assumption
          go_ret
          exact ⟨ret_bool (tokI_of_sign k hlt (by rw [signs_at k hlt]; exact eq_of_beq hit)).symm, rfl⟩
        · have miss : ((⟨#[33, 35, 36, 37, 38, 39, 42, 43, 45, 46, 94, 95, 96, 124, 126]⟩ : ByteArray)[k].toNat == c) = false := by assumption
          have HA : Hid (∀ j, j < k + 1 → ((signs.getD j 0).toNat : Int) ≠ c) := by
            intro j hj
            by_cases hjk : j = k
            · subst hjk
              rw [signs_at j hlt]
              exact beq_eq_false_iff_ne.1 miss
            · exact hno.out j (by omega)
          go_round
          case rel => exact ⟨k + 1, by omega, by go_num, HA⟩
          case measure => simp [intOf]; omega
      · go_wp2
        go_ret
        exact ⟨ret_bool (tokI_none HD.out HL.out (fun j hj => hno.out j (by omega))).symm, rfl⟩

set_option maxHeartbeats 400000 in
theorem rToken_any (s : ByteArray) (hs : s.size ≤ maxLen) (w : World) :
    Calls Tryz.prog 42 #[.string s] w fun e w' => e = .returned (.bool (isTok s.data.toList)) ∧ w' = w := by
  unfold maxLen at hs
  go_enter Tryz.func42, Tryz.ntmps42
  go_wp2
  go_loop [3] (fun i => ∃ k : Nat, k ≤ s.size ∧ i = .int .i64 k ∧ Hid (∀ j, j < k → tokI (byt s j) = true)) (fun i => s.size - (intOf i).toNat)
  case atStart => exact ⟨0, Nat.zero_le _, rfl, (fun j hj => by omega : ∀ j, j < 0 → _)⟩
  case round =>
    obtain ⟨k, hk, rfl, hall⟩ := hrel
    by_cases hlt : k < s.size
    · have hby : ((s[k].toNat : Nat) : Int) = byt s k := byt_at s k hlt
      obtain ⟨b0, b1⟩ := byt_bd s k
      cases ht : tokI (byt s k) with
      | true =>
        have HA : Hid (∀ j, j < k + 1 → tokI (byt s j) = true) := by
          intro j hj
          by_cases hjk : j = k
          · subst hjk; exact ht
          · exact hall.out j (by omega)
        go_wp2_with (go_at_call 60; refine (rSign_any _ (by omega) (by omega) _).mono ?_; rintro e w' ⟨rfl, rfl⟩)
        go_round
        case rel => exact ⟨k + 1, by omega, by go_num, HA⟩
        case measure => simp [intOf]; omega
      | false =>
        have HE : Hid (isTok s.data.toList = false) := by
          show isTok _ = false
          unfold isTok
          rw [all_not tokB 0 _ k (by rw [size_list]; exact hlt) ht]
          simp
        go_wp2_with (go_at_call 60; refine (rSign_any _ (by omega) (by omega) _).mono ?_; rintro e w' ⟨rfl, rfl⟩)
        go_ret
        exact ⟨ret_bool HE.out.symm, rfl⟩
    · have HA : Hid (s.data.toList.all tokB = true) := all_of tokB 0 _ (fun j hj => hall.out j (by rw [size_list] at hj; omega))
      by_cases hz : s.size = 0
      · have HE : Hid (isTok s.data.toList = false) := isTok_empty hz
        go_wp2
        go_ret
        exact ⟨ret_bool HE.out.symm, rfl⟩
      · have HE : Hid (isTok s.data.toList = true) := by
          have he := nonempty_of hz
          show isTok _ = true
          unfold isTok
          rw [HA.out]
          rw [ByteArray.toList_eq] at he
          rw [he]; rfl
        go_wp2
        go_ret
        exact ⟨ret_bool (by rw [HE.out]; simp; omega), rfl⟩

set_option maxHeartbeats 400000 in
theorem rLower_any (s : ByteArray) (hs : s.size ≤ maxLen) (w : World) :
    Calls Tryz.prog 68 #[.string s] w fun e w' => e = .returned (.string (lowS s)) ∧ Below w.heap.size w w' := by
  unfold maxLen at hs
  have hcv := fun w => Lib.run_convert_string_bytes (P := Tryz.prog) w 9 72 5 s Tryz.underlying9 Tryz.underlying72 Tryz.underlying5
  have hb := below_bytes w 5 s
  have hr := bytes_row w 5 s
  go_enter Tryz.func68, Tryz.ntmps68
  go_wp2
  go_loopw [4] (fun i wr => ∃ k : Nat, k ≤ s.size ∧ i = .int .i64 k ∧ Hid (Row wr w.heap.size s.size (fun j => if j < k then lowI (byt s j) else byt s j)) ∧ Hid (Below w.heap.size w wr)) (fun i _ => s.size - (intOf i).toNat)
  case atStart => exact ⟨0, Nat.zero_le _, rfl, (by simpa using hr : Row _ _ _ _), hb⟩
  case round =>
    obtain ⟨k, hk, rfl, hrow, hbel⟩ := hrel
    clear hr hb hcv
    by_cases hlt : k < s.size
    · have hck : wr.cell? ⟨w.heap.size, k, none⟩ = some (.int .u8 (byt s k)) := by
        have := hrow.out.cell k hlt
        rwa [if_neg (by omega)] at this
      have hfk := hrow.out.free k hlt
      obtain ⟨b0, b1⟩ := byt_bd s k
      have hnext : ∀ j, j < s.size → (if j < k + 1 then lowI (byt s j) else byt s j) = if j = k then lowI (byt s k) else if j < k then lowI (byt s j) else byt s j := by
        intro j hj
        by_cases hjk : j = k
        · subst hjk; rw [if_pos (by omega), if_pos rfl]
        · rw [if_neg hjk]
          by_cases h2 : j < k
          · rw [if_pos (by omega), if_pos h2]
          · rw [if_neg (by omega), if_neg h2]
      have HN : Hid (∀ j, j < s.size → (if j < k + 1 then lowI (byt s j) else byt s j) = if j = k then lowI (byt s k) else if j < k then lowI (byt s j) else byt s j) := hnext
      clear hnext
      by_cases hup : 65 ≤ byt s k ∧ byt s k ≤ 90
      · obtain ⟨u0, u1⟩ := hup
        have e1 := lowI_up u0 u1
        have E1 : Hid (lowI (byt s k) = byt s k + 32) := e1
        clear e1
        go_wp2
        go_roundw
        case rel => exact ⟨k + 1, by omega, by go_num, hrow.out.set k hlt _ _ (by rw [← E1.out]; exact HN.out), hbel.out.setCell (Nat.le_refl _) _⟩
        case measure => simp [intOf]; omega
      · have E1 : Hid (lowI (byt s k) = byt s k) := lowI_not hup
        have hsame : Hid (Row wr w.heap.size s.size (fun j => if j < k + 1 then lowI (byt s j) else byt s j)) := by
          refine ⟨fun j hj => ?_, hrow.out.free⟩
          rw [hrow.out.cell j hj, HN.out j hj]
          by_cases hjk : j = k
          · subst hjk; rw [if_neg (by omega), if_pos rfl, E1.out]
          · rw [if_neg hjk]
        by_cases u0 : 65 ≤ byt s k
        all_goals
          have u1 : Hid (¬ (65 ≤ byt s k ∧ byt s k ≤ 90)) := hup
          go_wp2
          go_roundw
          case rel => exact ⟨k + 1, by omega, by go_num, hsame.out, hbel.out⟩
          case measure => simp [intOf]; omega
    · have hbk := back wr w.heap.size s.size (grownCap w s.size 0 5) _ (lower s.data.toList) hrow.out (by simp [lower]) (fun j hj => by rw [if_pos (by omega), lower_getD _ _ (by rw [size_list]; exact hj)]; rfl)
      go_wp2
      go_ret
      exact ⟨rfl, hbel.out⟩

set_option maxRecDepth 100000 in
set_option maxHeartbeats 400000 in
theorem rTrim_any (s : ByteArray) (hs : s.size ≤ maxLen) (w : World) :
    Calls Tryz.prog 69 #[.string s] w fun e w' => e = .returned (.string (str (trim s.data.toList))) ∧ w' = w := by
  unfold maxLen at hs
  go_enter Tryz.func69, Tryz.ntmps69
  go_wp2
  go_loop [0] (fun v => ∃ t : ByteArray, v = .string t ∧ t.size ≤ s.size ∧ Hid (trimL t.data.toList = trimL s.data.toList)) (fun v => strLenV v)
  case atStart => exact ⟨s, rfl, Nat.le_refl _, rfl⟩
  case round =>
    obtain ⟨t, rfl, hle, hst⟩ := hrel
    have out : ∀ t : ByteArray, trimL t.data.toList = t.data.toList → trimL t.data.toList = trimL s.data.toList → trim s.data.toList = trimR t.data.toList := by
      intro t h1 h2
      unfold trim
      rw [← h2, h1]
    by_cases hz : t.size = 0
    · have he := hz
      have HE : Hid (trim s.data.toList = trimR t.data.toList) := out t (by rw [List.length_eq_zero_iff.1 ((size_list t).trans hz)]; rfl) hst.out
      clear out
      go_wp2
      go_loop [0] (fun v => ∃ u : ByteArray, v = .string u ∧ u.size ≤ s.size ∧ Hid (trimR u.data.toList = trim s.data.toList)) (fun v => strLenV v)
      case atStart => exact ⟨t, rfl, hle, HE.out.symm⟩
      case round =>
        clear hst hle HE
        obtain ⟨u, rfl, hle, hst⟩ := hrel
        by_cases hz : u.size = 0
        · have he := hz
          have HE : Hid (u = str (trim s.data.toList)) := by
            have e := List.length_eq_zero_iff.1 ((size_list u).trans hz)
            have h := hst.out
            rw [e] at h
            show u = _
            rw [← h, ← str_self u, e]
            rfl
          go_wp2
          go_ret
          exact ⟨ret_string HE.out, rfl⟩
        · have he := hz
          have hby : ((u[u.size - 1].toNat : Nat) : Int) = byt u (u.size - 1) := byt_at u (u.size - 1) (by omega)
          have hpos : 0 < u.size := by omega
          have hcast : ((u.size : Int) - 1) = ((u.size - 1 : Nat) : Int) := by omega
          obtain ⟨b0, b1⟩ := byt_bd u (u.size - 1)
          have HS := snoc_of hz
          have HR : Hid (trimR u.data.toList = if blankB (u.data.toList.getD (u.size - 1) 0) then trimR (u.data.toList.take (u.size - 1)) else u.data.toList) := by
            show trimR u.data.toList = _
            conv => lhs; rw [HS]
            rw [trimR_snoc, ← HS]
          clear HS
          cases hb : blankI (byt u (u.size - 1)) with
          | true =>
            have HI : Hid (trimR (u.extract 0 (u.size - 1)).data.toList = trim s.data.toList) := by
              show trimR _ = _
              have h := HR.out
              rw [show blankB (u.data.toList.getD (u.size - 1) 0) = true from hb, if_pos rfl, hst.out] at h
              rw [init_list]
              exact h.symm
            go_wp2_with (go_at_call 84; refine (rBlank_any _ (by omega) (by omega) _).mono ?_; rintro e w' ⟨rfl, rfl⟩)
            go_round
            case rel => exact ⟨u.extract 0 (u.size - 1), rfl, by simp; omega, HI⟩
            case measure => simp [strLenV]; omega
          | false =>
            have HE : Hid (u = str (trim s.data.toList)) := by
              have h := HR.out
              rw [show blankB (u.data.toList.getD (u.size - 1) 0) = false from hb, if_neg (by simp), hst.out] at h
              show u = _
              rw [h, str_self]
            go_wp2_with (go_at_call 84; refine (rBlank_any _ (by omega) (by omega) _).mono ?_; rintro e w' ⟨rfl, rfl⟩)
            go_ret
            exact ⟨ret_string HE.out, rfl⟩
    · have he := hz
      have hby : ((t[0].toNat : Nat) : Int) = byt t 0 := byt_at t 0 (by omega)
      have hpos : 0 < t.size := by omega
      obtain ⟨b0, b1⟩ := byt_bd t 0
      have HS := cons_of hz
      have HL : Hid (trimL t.data.toList = if blankB (t.data.toList.getD 0 0) then trimL (t.data.toList.drop 1) else t.data.toList) := by
        show trimL t.data.toList = _
        conv => lhs; rw [HS]
        rw [trimL_cons, ← HS]
      clear HS
      cases hb : blankI (byt t 0) with
      | true =>
        have HI : Hid (trimL (t.extract 1 t.size).data.toList = trimL s.data.toList) := by
          show trimL _ = _
          have h := HL.out
          rw [show blankB (t.data.toList.getD 0 0) = true from hb, if_pos rfl, hst.out] at h
          rw [tail_list]
          exact h.symm
        clear out
        go_wp2_with (go_at_call 84; refine (rBlank_any _ (by omega) (by omega) _).mono ?_; rintro e w' ⟨rfl, rfl⟩)
        go_round
        case rel => exact ⟨t.extract 1 t.size, rfl, by simp; omega, HI⟩
        case measure => simp [strLenV]; omega
      | false =>
        have HE : Hid (trim s.data.toList = trimR t.data.toList) := out t (by
          have h := HL.out
          rwa [show blankB (t.data.toList.getD 0 0) = false from hb, if_neg (by simp)] at h) hst.out
        clear out
        go_wp2_with (go_at_call 84; refine (rBlank_any _ (by omega) (by omega) _).mono ?_; rintro e w' ⟨rfl, rfl⟩)
        clear hby hpos HL hb he hz
        go_loop [0] (fun v => ∃ u : ByteArray, v = .string u ∧ u.size ≤ s.size ∧ Hid (trimR u.data.toList = trim s.data.toList)) (fun v => strLenV v)
        case atStart => exact ⟨t, rfl, hle, HE.out.symm⟩
        case round =>
          clear hst hle HE
          obtain ⟨u, rfl, hle, hst⟩ := hrel
          by_cases hz : u.size = 0
          · have he := hz
            have HE : Hid (u = str (trim s.data.toList)) := by
              have e := List.length_eq_zero_iff.1 ((size_list u).trans hz)
              have h := hst.out
              rw [e] at h
              show u = _
              rw [← h, ← str_self u, e]
              rfl
            go_wp2
            go_ret
            exact ⟨ret_string HE.out, rfl⟩
          · have he := hz
            have hby : ((u[u.size - 1].toNat : Nat) : Int) = byt u (u.size - 1) := byt_at u (u.size - 1) (by omega)
            have hpos : 0 < u.size := by omega
            have hcast : ((u.size : Int) - 1) = ((u.size - 1 : Nat) : Int) := by omega
            obtain ⟨b0, b1⟩ := byt_bd u (u.size - 1)
            have HS := snoc_of hz
            have HR : Hid (trimR u.data.toList = if blankB (u.data.toList.getD (u.size - 1) 0) then trimR (u.data.toList.take (u.size - 1)) else u.data.toList) := by
              show trimR u.data.toList = _
              conv => lhs; rw [HS]
              rw [trimR_snoc, ← HS]
            clear HS
            cases hb : blankI (byt u (u.size - 1)) with
            | true =>
              have HI : Hid (trimR (u.extract 0 (u.size - 1)).data.toList = trim s.data.toList) := by
                show trimR _ = _
                have h := HR.out
                rw [show blankB (u.data.toList.getD (u.size - 1) 0) = true from hb, if_pos rfl, hst.out] at h
                rw [init_list]
                exact h.symm
              go_wp2_with (go_at_call 84; refine (rBlank_any _ (by omega) (by omega) _).mono ?_; rintro e w' ⟨rfl, rfl⟩)
              go_round
              case rel => exact ⟨u.extract 0 (u.size - 1), rfl, by simp; omega, HI⟩
              case measure => simp [strLenV]; omega
            | false =>
              have HE : Hid (u = str (trim s.data.toList)) := by
                have h := HR.out
                rw [show blankB (u.data.toList.getD (u.size - 1) 0) = false from hb, if_neg (by simp), hst.out] at h
                show u = _
                rw [h, str_self]
              go_wp2_with (go_at_call 84; refine (rBlank_any _ (by omega) (by omega) _).mono ?_; rintro e w' ⟨rfl, rfl⟩)
              go_ret
              exact ⟨ret_string HE.out, rfl⟩

end Fd
end Go.Proofs.YtifhbjkgdnemjaaGreatDoor
