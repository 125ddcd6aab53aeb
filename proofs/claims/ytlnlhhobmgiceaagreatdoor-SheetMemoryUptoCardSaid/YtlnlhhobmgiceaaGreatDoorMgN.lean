/- Several texts as one. -/
import Derived.Test.YtlnlhhobmgiceaaGreatDoorMgG
import Derived.Test.YtlnlhhobmgiceaaGreatDoorMgF
/-
  The document's small answers of layer 6: signs, blanks, bytes of fields, tokens, small letters, texts without blanks around.
-/
set_option linter.unusedVariables false
set_option linter.unusedSimpArgs false
namespace Go.Proofs.YtlnlhhobmgiceaaGreatDoor
open Go.RowKit
namespace Fd
open Oc

set_option maxHeartbeats 400000 in
theorem rBlank_any (c : Int) (h0 : 0 ≤ c) (h1 : c ≤ 255) (w : World) :
    Calls Tryz.prog 74 #[.int .u8 c] w fun e w' => e = .returned (.bool (blankI c)) ∧ w' = w := by
  rcases (show c = 32 ∨ c = 9 ∨ (c ≠ 32 ∧ c ≠ 9) by omega) with rfl | rfl | ⟨h, h'⟩
  · go_enter Tryz.func74, Tryz.ntmps74
    go_wp2
    go_ret
    exact ⟨ret_bool (by decide), rfl⟩
  · go_enter Tryz.func74, Tryz.ntmps74
    go_wp2
    go_ret
    exact ⟨ret_bool (by decide), rfl⟩
  · have g1 : (c == 32) = false := by simp; omega
    have g2 : (c == 9) = false := by simp; omega
    go_enter Tryz.func74, Tryz.ntmps74
    go_wp2
    go_ret
    exact ⟨ret_bool (blankI_f (by omega)).symm, rfl⟩

set_option maxHeartbeats 400000 in
theorem rInside_any (c : Int) (h0 : 0 ≤ c) (h1 : c ≤ 255) (w : World) :
    Calls Tryz.prog 77 #[.int .u8 c] w fun e w' => e = .returned (.bool (fieldI c)) ∧ w' = w := by
  rcases (show c = 9 ∨ c = 127 ∨ (c ≠ 9 ∧ c < 32) ∨ (32 ≤ c ∧ c ≠ 127) by omega) with rfl | rfl | ⟨h, h'⟩ | ⟨h, h'⟩
  · go_enter Tryz.func77, Tryz.ntmps77
    go_wp2
    go_ret
    exact ⟨ret_bool (by decide), rfl⟩
  · go_enter Tryz.func77, Tryz.ntmps77
    go_wp2
    go_ret
    exact ⟨ret_bool (by decide), rfl⟩
  · have g1 : (c == 9) = false := by simp; omega
    go_enter Tryz.func77, Tryz.ntmps77
    go_wp2
    go_ret
    exact ⟨ret_bool (fieldI_f (by omega)).symm, rfl⟩
  · have g1 : (c == 9) = false := by simp; omega
    have g2 : (c != 127) = true := by simp; omega
    go_enter Tryz.func77, Tryz.ntmps77
    go_wp2
    go_ret
    exact ⟨ret_bool (fieldI_t (by omega)).symm, rfl⟩

set_option maxHeartbeats 1000000 in
theorem rSign_any (c : Int) (h0 : 0 ≤ c) (h1 : c ≤ 255) (w : World) :
    Calls Tryz.prog 76 #[.int .u8 c] w fun e w' => e = .returned (.bool (tokI c)) ∧ w' = w := by
  rcases (show c < 48 ∨ (48 ≤ c ∧ c ≤ 57) ∨ (57 < c ∧ c < 65) ∨ (65 ≤ c ∧ c ≤ 90) ∨ (90 < c ∧ c < 97) ∨ (97 ≤ c ∧ c ≤ 122) ∨ 122 < c by omega) with h | ⟨h, h'⟩ | ⟨h, h'⟩ | ⟨h, h'⟩ | ⟨h, h'⟩ | ⟨h, h'⟩ | h
  · have HD : Hid (digI c = false) := digI_f (by omega)
    have HL : Hid (lettI c = false) := lettI_f (by omega)
    go_enter Tryz.func76, Tryz.ntmps76
    go_wp2
    go_loop [4] (fun i => ∃ k : Nat, k ≤ 15 ∧ i = .int .i64 k ∧ Hid (∀ j, j < k → ((signs.getD j 0).toNat : Int) ≠ c)) (fun i => 15 - (intOf i).toNat)
    case atStart => exact ⟨0, by omega, rfl, (fun j hj => by omega : ∀ j, j < 0 → _)⟩
    case round =>
      obtain ⟨k, hk, rfl, hno⟩ := hrel
      by_cases hlt : k < 15
      · go_wp2
        · have hit : ((⟨#[33, 35, 36, 37, 38, 39, 42, 43, 45, 46, 94, 95, 96, 124, 126]⟩ : ByteArray)[k].toNat == c) = true := by assumption
          go_ret
          exact ⟨ret_bool (tokI_of_sign k hlt (by rw [signs_at k hlt]; exact eq_of_beq hit)).symm, rfl⟩
        · have miss : ((⟨#[33, 35, 36, 37, 38, 39, 42, 43, 45, 46, 94, 95, 96, 124, 126]⟩ : ByteArray)[k].toNat == c) = false := by assumption
          have HA : Hid (∀ j, j < k + 1 → ((signs.getD j 0).toNat : Int) ≠ c) := by
            intro j hj
            by_cases hjk : j = k
            · subst hjk
              rw [signs_at j hlt]
              exact beq_eq_false_iff_ne.1 miss
            · exact hno.out j (by omega)
          go_round
          case rel => exact ⟨k + 1, by omega, by go_num, HA⟩
          case measure => simp [intOf]; omega
      · go_wp2
        go_ret
        exact ⟨ret_bool (tokI_none HD.out HL.out (fun j hj => hno.out j (by omega))).symm, rfl⟩
  · go_enter Tryz.func76, Tryz.ntmps76
    go_wp2
    go_ret
    exact ⟨ret_bool (tokI_of_dig (digI_t (by omega))).symm, rfl⟩
  · have g57 : decide (c ≤ 57) = false := by simp; omega
    have HD : Hid (digI c = false) := digI_f (by omega)
    have HL : Hid (lettI c = false) := lettI_f (by omega)
    go_enter Tryz.func76, Tryz.ntmps76
    go_wp2
    go_loop [4] (fun i => ∃ k : Nat, k ≤ 15 ∧ i = .int .i64 k ∧ Hid (∀ j, j < k → ((signs.getD j 0).toNat : Int) ≠ c)) (fun i => 15 - (intOf i).toNat)
    case atStart => exact ⟨0, by omega, rfl, (fun j hj => by omega : ∀ j, j < 0 → _)⟩
    case round =>
      obtain ⟨k, hk, rfl, hno⟩ := hrel
      by_cases hlt : k < 15
      · go_wp2
        · have hit : ((⟨#[33, 35, 36, 37, 38, 39, 42, 43, 45, 46, 94, 95, 96, 124, 126]⟩ : ByteArray)[k].toNat == c) = true := by assumption
          go_ret
          exact ⟨ret_bool (tokI_of_sign k hlt (by rw [signs_at k hlt]; exact eq_of_beq hit)).symm, rfl⟩
        · have miss : ((⟨#[33, 35, 36, 37, 38, 39, 42, 43, 45, 46, 94, 95, 96, 124, 126]⟩ : ByteArray)[k].toNat == c) = false := by assumption
          have HA : Hid (∀ j, j < k + 1 → ((signs.getD j 0).toNat : Int) ≠ c) := by
            intro j hj
            by_cases hjk : j = k
            · subst hjk
              rw [signs_at j hlt]
              exact beq_eq_false_iff_ne.1 miss
            · exact hno.out j (by omega)
          go_round
          case rel => exact ⟨k + 1, by omega, by go_num, HA⟩
          case measure => simp [intOf]; omega
      · go_wp2
        go_ret
        exact ⟨ret_bool (tokI_none HD.out HL.out (fun j hj => hno.out j (by omega))).symm, rfl⟩
  · have g57 : decide (c ≤ 57) = false := by simp; omega
    go_enter Tryz.func76, Tryz.ntmps76
    go_wp2
    go_ret
    exact ⟨ret_bool (tokI_of_lett (lettI_t (by omega))).symm, rfl⟩
  · have g57 : decide (c ≤ 57) = false := by simp; omega
    have g90 : decide (c ≤ 90) = false := by simp; omega
    have HD : Hid (digI c = false) := digI_f (by omega)
    have HL : Hid (lettI c = false) := lettI_f (by omega)
    go_enter Tryz.func76, Tryz.ntmps76
    go_wp2
    go_loop [4] (fun i => ∃ k : Nat, k ≤ 15 ∧ i = .int .i64 k ∧ Hid (∀ j, j < k → ((signs.getD j 0).toNat : Int) ≠ c)) (fun i => 15 - (intOf i).toNat)
    case atStart => exact ⟨0, by omega, rfl, (fun j hj => by omega : ∀ j, j < 0 → _)⟩
    case round =>
      obtain ⟨k, hk, rfl, hno⟩ := hrel
      by_cases hlt : k < 15
      · go_wp2
        · have hit : ((⟨#[33, 35, 36, 37, 38, 39, 42, 43, 45, 46, 94, 95, 96, 124, 126]⟩ : ByteArray)[k].toNat == c) = true := by assumption
          go_ret
          exact ⟨ret_bool (tokI_of_sign k hlt (by rw [signs_at k hlt]; exact eq_of_beq hit)).symm, rfl⟩
        · have miss : ((⟨#[33, 35, 36, 37, 38, 39, 42, 43, 45, 46, 94, 95, 96, 124, 126]⟩ : ByteArray)[k].toNat == c) = false := by assumption
          have HA : Hid (∀ j, j < k + 1 → ((signs.getD j 0).toNat : Int) ≠ c) := by
            intro j hj
            by_cases hjk : j = k
            · subst hjk
              rw [signs_at j hlt]
              exact beq_eq_false_iff_ne.1 miss
            · exact hno.out j (by omega)
          go_round
          case rel => exact ⟨k + 1, by omega, by go_num, HA⟩
          case measure => simp [intOf]; omega
      · go_wp2
        go_ret
        exact ⟨ret_bool (tokI_none HD.out HL.out (fun j hj => hno.out j (by omega))).symm, rfl⟩
  · have g57 : decide (c ≤ 57) = false := by simp; omega
    have g90 : decide (c ≤ 90) = false := by simp; omega
    go_enter Tryz.func76, Tryz.ntmps76
    go_wp2
    go_ret
    exact ⟨ret_bool (tokI_of_lett (lettI_t (by omega))).symm, rfl⟩
  · have g57 : decide (c ≤ 57) = false := by simp; omega
    have g90 : decide (c ≤ 90) = false := by simp; omega
    have g122 : decide (c ≤ 122) = false := by simp; omega
    have HD : Hid (digI c = false) := digI_f (by omega)
    have HL : Hid (lettI c = false) := lettI_f (by omega)
    go_enter Tryz.func76, Tryz.ntmps76
    go_wp2
    go_loop [4] (fun i => ∃ k : Nat, k ≤ 15 ∧ i = .int .i64 k ∧ Hid (∀ j, j < k → ((signs.getD j 0).toNat : Int) ≠ c)) (fun i => 15 - (intOf i).toNat)
    case atStart => exact ⟨0, by omega, rfl, (fun j hj => by omega : ∀ j, j < 0 → _)⟩
    case round =>
      obtain ⟨k, hk, rfl, hno⟩ := hrel
      by_cases hlt : k < 15
      · go_wp2
        · have hit : ((⟨#[33, 35, 36, 37, 38, 39, 42, 43, 45, 46, 94, 95, 96, 124, 126]⟩ : ByteArray)[k].toNat == c) = true := by assumption
          go_ret
          exact ⟨ret_bool (tokI_of_sign k hlt (by rw [signs_at k hlt]; exact eq_of_beq hit)).symm, rfl⟩
        · have miss : ((⟨#[33, 35, 36, 37, 38, 39, 42, 43, 45, 46, 94, 95, 96, 124, 126]⟩ : ByteArray)[k].toNat == c) = false := by assumption
          have HA : Hid (∀ j, j < k + 1 → ((signs.getD j 0).toNat : Int) ≠ c) := by
            intro j hj
            by_cases hjk : j = k
            · subst hjk
              rw [signs_at j hlt]
              exact beq_eq_false_iff_ne.1 miss
            · exact hno.out j (by omega)
          go_round
          case rel => exact ⟨k + 1, by omega, by go_num, HA⟩
          case measure => simp [intOf]; omega
      · go_wp2
        go_ret
        exact ⟨ret_bool (tokI_none HD.out HL.out (fun j hj => hno.out j (by omega))).symm, rfl⟩

set_option maxRecDepth 100000 in
set_option maxHeartbeats 400000 in
theorem rTrim_any (s : ByteArray) (hs : s.size ≤ maxLen) (w : World) :
    Calls Tryz.prog 78 #[.string s] w fun e w' => e = .returned (.string (str (trim s.data.toList))) ∧ w' = w := by
  unfold maxLen at hs
  go_enter Tryz.func78, Tryz.ntmps78
  go_wp2
  go_loop [0] (fun v => ∃ t : ByteArray, v = .string t ∧ t.size ≤ s.size ∧ Hid (trimL t.data.toList = trimL s.data.toList)) (fun v => strLenV v)
  case atStart => exact ⟨s, rfl, Nat.le_refl _, rfl⟩
  case round =>
    obtain ⟨t, rfl, hle, hst⟩ := hrel
    have out : ∀ t : ByteArray, trimL t.data.toList = t.data.toList → trimL t.data.toList = trimL s.data.toList → trim s.data.toList = trimR t.data.toList := by
      intro t h1 h2
      unfold trim
      rw [← h2, h1]
    by_cases hz : t.size = 0
    · have he := hz
      have HE : Hid (trim s.data.toList = trimR t.data.toList) := out t (by rw [List.length_eq_zero_iff.1 ((size_list t).trans hz)]; rfl) hst.out
      clear out
      go_wp2
      go_loop [0] (fun v => ∃ u : ByteArray, v = .string u ∧ u.size ≤ s.size ∧ Hid (trimR u.data.toList = trim s.data.toList)) (fun v => strLenV v)
      case atStart => exact ⟨t, rfl, hle, HE.out.symm⟩
      case round =>
        clear hst hle HE
        obtain ⟨u, rfl, hle, hst⟩ := hrel
        by_cases hz : u.size = 0
        · have he := hz
          have HE : Hid (u = str (trim s.data.toList)) := by
            have e := List.length_eq_zero_iff.1 ((size_list u).trans hz)
            have h := hst.out
            rw [e] at h
            show u = _
            rw [← h, ← str_self u, e]
            rfl
          go_wp2
          go_ret
          exact ⟨ret_string HE.out, rfl⟩
        · have he := hz
          have hby : ((u[u.size - 1].toNat : Nat) : Int) = byt u (u.size - 1) := byt_at u (u.size - 1) (by omega)
          have hpos : 0 < u.size := by omega
          have hcast : ((u.size : Int) - 1) = ((u.size - 1 : Nat) : Int) := by omega
          obtain ⟨b0, b1⟩ := byt_bd u (u.size - 1)
          have HS := snoc_of hz
          have HR : Hid (trimR u.data.toList = if blankB (u.data.toList.getD (u.size - 1) 0) then trimR (u.data.toList.take (u.size - 1)) else u.data.toList) := by
            show trimR u.data.toList = _
            conv => lhs; rw [HS]
            rw [trimR_snoc, ← HS]
          clear HS
          cases hb : blankI (byt u (u.size - 1)) with
          | true =>
            have HI : Hid (trimR (u.extract 0 (u.size - 1)).data.toList = trim s.data.toList) := by
              show trimR _ = _
              have h := HR.out
              rw [show blankB (u.data.toList.getD (u.size - 1) 0) = true from hb, if_pos rfl, hst.out] at h
              rw [init_list]
              exact h.symm
            go_wp2_with (go_at_call 74; refine (rBlank_any _ (by omega) (by omega) _).mono ?_; rintro e w' ⟨rfl, rfl⟩)
            go_round
            case rel => exact ⟨u.extract 0 (u.size - 1), rfl, by simp; omega, HI⟩
            case measure => simp [strLenV]; omega
          | false =>
            have HE : Hid (u = str (trim s.data.toList)) := by
              have h := HR.out
              rw [show blankB (u.data.toList.getD (u.size - 1) 0) = false from hb, if_neg (by simp), hst.out] at h
              show u = _
              rw [h, str_self]
            go_wp2_with (go_at_call 74; refine (rBlank_any _ (by omega) (by omega) _).mono ?_; rintro e w' ⟨rfl, rfl⟩)
            go_ret
            exact ⟨ret_string HE.out, rfl⟩
    · have he := hz
      have hby : ((t[0].toNat : Nat) : Int) = byt t 0 := byt_at t 0 (by omega)
      have hpos : 0 < t.size := by omega
      obtain ⟨b0, b1⟩ := byt_bd t 0
      have HS := cons_of hz
      have HL : Hid (trimL t.data.toList = if blankB (t.data.toList.getD 0 0) then trimL (t.data.toList.drop 1) else t.data.toList) := by
        show trimL t.data.toList = _
        conv => lhs; rw [HS]
        rw [trimL_cons, ← HS]
      clear HS
      cases hb : blankI (byt t 0) with
      | true =>
        have HI : Hid (trimL (t.extract 1 t.size).data.toList = trimL s.data.toList) := by
          show trimL _ = _
          have h := HL.out
          rw [show blankB (t.data.toList.getD 0 0) = true from hb, if_pos rfl, hst.out] at h
          rw [tail_list]
          exact h.symm
        clear out
        go_wp2_with (go_at_call 74; refine (rBlank_any _ (by omega) (by omega) _).mono ?_; rintro e w' ⟨rfl, rfl⟩)
        go_round
        case rel => exact ⟨t.extract 1 t.size, rfl, by simp; omega, HI⟩
        case measure => simp [strLenV]; omega
      | false =>
        have HE : Hid (trim s.data.toList = trimR t.data.toList) := out t (by
          have h := HL.out
          rwa [show blankB (t.data.toList.getD 0 0) = false from hb, if_neg (by simp)] at h) hst.out
        clear out
        go_wp2_with (go_at_call 74; refine (rBlank_any _ (by omega) (by omega) _).mono ?_; rintro e w' ⟨rfl, rfl⟩)
        clear hby hpos HL hb he hz
        go_loop [0] (fun v => ∃ u : ByteArray, v = .string u ∧ u.size ≤ s.size ∧ Hid (trimR u.data.toList = trim s.data.toList)) (fun v => strLenV v)
        case atStart => exact ⟨t, rfl, hle, HE.out.symm⟩
        case round =>
          clear hst hle HE
          obtain ⟨u, rfl, hle, hst⟩ := hrel
          by_cases hz : u.size = 0
          · have he := hz
            have HE : Hid (u = str (trim s.data.toList)) := by
              have e := List.length_eq_zero_iff.1 ((size_list u).trans hz)
              have h := hst.out
              rw [e] at h
              show u = _
              rw [← h, ← str_self u, e]
              rfl
            go_wp2
            go_ret
            exact ⟨ret_string HE.out, rfl⟩
          · have he := hz
            have hby : ((u[u.size - 1].toNat : Nat) : Int) = byt u (u.size - 1) := byt_at u (u.size - 1) (by omega)
            have hpos : 0 < u.size := by omega
            have hcast : ((u.size : Int) - 1) = ((u.size - 1 : Nat) : Int) := by omega
            obtain ⟨b0, b1⟩ := byt_bd u (u.size - 1)
            have HS := snoc_of hz
            have HR : Hid (trimR u.data.toList = if blankB (u.data.toList.getD (u.size - 1) 0) then trimR (u.data.toList.take (u.size - 1)) else u.data.toList) := by
              show trimR u.data.toList = _
              conv => lhs; rw [HS]
              rw [trimR_snoc, ← HS]
            clear HS
            cases hb : blankI (byt u (u.size - 1)) with
            | true =>
              have HI : Hid (trimR (u.extract 0 (u.size - 1)).data.toList = trim s.data.toList) := by
                show trimR _ = _
                have h := HR.out
                rw [show blankB (u.data.toList.getD (u.size - 1) 0) = true from hb, if_pos rfl, hst.out] at h
                rw [init_list]
                exact h.symm
              go_wp2_with (go_at_call 74; refine (rBlank_any _ (by omega) (by omega) _).mono ?_; rintro e w' ⟨rfl, rfl⟩)
              go_round
              case rel => exact ⟨u.extract 0 (u.size - 1), rfl, by simp; omega, HI⟩
              case measure => simp [strLenV]; omega
            | false =>
              have HE : Hid (u = str (trim s.data.toList)) := by
                have h := HR.out
                rw [show blankB (u.data.toList.getD (u.size - 1) 0) = false from hb, if_neg (by simp), hst.out] at h
                show u = _
                rw [h, str_self]
              go_wp2_with (go_at_call 74; refine (rBlank_any _ (by omega) (by omega) _).mono ?_; rintro e w' ⟨rfl, rfl⟩)
              go_ret
              exact ⟨ret_string HE.out, rfl⟩

end Fd
end Go.Proofs.YtlnlhhobmgiceaaGreatDoor

/-
  Lines of fields, plain: what a line says, or what is wrong with it, and where.
-/
set_option linter.unusedVariables false
set_option linter.unusedSimpArgs false
namespace Go.Proofs.YtlnlhhobmgiceaaGreatDoor
open Go.RowKit
namespace Fd
open Oc Tg

def isName (l : List UInt8) : Bool := isTok l && decide (l.length ≤ 128)
def isValue (l : List UInt8) : Bool := isFld l && decide (l.length ≤ 8192) && decide (trim l = l)
def lead (l : List UInt8) : Nat := (l.takeWhile blankB).length
def fnot (p : UInt8 → Bool) (l : List UInt8) : Nat := (l.takeWhile p).length
def blank0 : List UInt8 → Bool
  | [] => false
  | c :: _ => blankB c
def parseL (l : List UInt8) : (List UInt8 × List UInt8) × Nat × Int :=
  if blank0 l then (([], []), 0, 63)
  else if has 58 l then
    if isName (cutA 58 l) then
      if isFld (cutB 58 l) then
        if (trim (cutB 58 l)).length ≤ 8192 then ((cutA 58 l, trim (cutB 58 l)), 0, 0)
        else (([], []), (cutA 58 l).length + 1 + (lead (cutB 58 l) + 8192), 61)
      else (([], []), (cutA 58 l).length + 1 + fnot fieldB (cutB 58 l), 61)
    else (([], []), min (fnot tokB (cutA 58 l)) 128, 60)
  else (([], []), l.length, 62)

theorem blank_field {c : UInt8} (h : blankB c = true) : fieldB c = true := by
  unfold blankB blankI at h
  have h := of_decide_eq_true h
  unfold fieldB fieldI
  exact decide_eq_true (by omega)
theorem trimL_split (l : List UInt8) : l = l.takeWhile blankB ++ trimL l := by unfold trimL; exact (List.takeWhile_append_dropWhile).symm
theorem trimL_head (l : List UInt8) (c : UInt8) (t : List UInt8) (h : trimL l = c :: t) : blankB c = false := by
  unfold trimL at h
  induction l with
  | nil => simp at h
  | cons a l ih =>
    rw [List.dropWhile_cons] at h
    by_cases e : blankB a = true
    · rw [if_pos e] at h; exact ih h
    · rw [if_neg e] at h
      obtain ⟨rfl, _⟩ := List.cons.inj h
      simpa using e
theorem trimR_split (l : List UInt8) : ∃ b : List UInt8, l = trimR l ++ b ∧ b.all blankB = true := by
  refine ⟨(l.reverse.takeWhile blankB).reverse, ?_, ?_⟩
  · unfold trimR
    rw [← List.reverse_append, List.takeWhile_append_dropWhile, List.reverse_reverse]
  · rw [List.all_reverse]
    exact List.all_takeWhile
theorem trim_split (l : List UInt8) : ∃ b : List UInt8, l = l.takeWhile blankB ++ (trim l ++ b) ∧ b.all blankB = true := by
  obtain ⟨b, hb, hb2⟩ := trimR_split (trimL l)
  exact ⟨b, by unfold trim; rw [← hb]; exact trimL_split l, hb2⟩
theorem all_mono {p q : UInt8 → Bool} (h : ∀ c, p c = true → q c = true) {l : List UInt8} (hl : l.all p = true) : l.all q = true := by
  rw [List.all_eq_true] at *
  exact fun x hx => h x (hl x hx)
theorem fld_trim (l : List UInt8) : isFld (trim l) = isFld l := by
  obtain ⟨b, hb, hb2⟩ := trim_split l
  unfold isFld
  conv => rhs; rw [hb]
  rw [List.all_append, List.all_append, all_mono (fun c h => blank_field h) hb2, all_mono (fun c h => blank_field h) (List.all_takeWhile (p := blankB) (l := l))]
  simp
theorem trimL_stay {l : List UInt8} (h : ∀ c t, l = c :: t → blankB c = false) : trimL l = l := by
  cases l with
  | nil => rfl
  | cons c t => rw [trimL_cons, h c t rfl]; rfl
theorem trimL_idem (l : List UInt8) : trimL (trimL l) = trimL l := trimL_stay (fun c t h => trimL_head l c t h)
theorem trimR_idem (l : List UInt8) : trimR (trimR l) = trimR l := by
  unfold trimR
  rw [List.reverse_reverse]
  have := trimL_idem l.reverse
  unfold trimL at this
  rw [this]
theorem trim_idem (l : List UInt8) : trim (trim l) = trim l := by
  unfold trim
  rw [trim_comm, trimR_idem, trimL_idem]
theorem isValue_trim (l : List UInt8) : isValue (trim l) = (isFld l && decide ((trim l).length ≤ 8192)) := by
  unfold isValue
  rw [fld_trim, trim_idem]
  simp
theorem trim_one (c : UInt8) : trim [c] = if blankB c then [] else [c] := by
  unfold trim
  rw [trimL_cons]
  by_cases h : blankB c = true
  · rw [if_pos h, if_pos h]; rfl
  · rw [if_neg h, if_neg h, trimR_cons, if_neg h]; rfl
theorem trim_nil_blank {l : List UInt8} (h : l.all blankB = true) : trim l = [] := by
  unfold trim
  have : trimL l = [] := by
    unfold trimL
    have e : List.dropWhile blankB (l ++ []) = List.dropWhile blankB [] := List.dropWhile_append_of_pos (fun y hy => List.all_eq_true.1 h y hy)
    simpa using e
  rw [this]; rfl
theorem trim_head (l : List UInt8) (c : UInt8) (t : List UInt8) (h : trim l = c :: t) : blankB c = false := by
  have h2 : trimL (trim l) = trim l := by unfold trim; rw [trim_comm, trimL_idem]
  rw [h] at h2
  exact trimL_head _ c t h2
theorem lead_le (l : List UInt8) : lead l + (trim l).length ≤ l.length := by
  obtain ⟨b, hb, _⟩ := trim_split l
  have := congrArg List.length hb
  simp at this
  unfold lead
  omega
theorem index_trim (l : List UInt8) (h : trim l ≠ []) : Lib.index l (trim l) = (lead l : Int) := by
  obtain ⟨b, hb, _⟩ := trim_split l
  have hle := lead_le l
  cases hx : trim l with
  | nil => exact absurd hx h
  | cons c t =>
    have hc := trim_head l c t hx
    refine Lib.index_first (by omega) ?_ (fun j hj => ?_)
    · rw [Lib.occAt_iff_take _ _ _ (by rw [← hx]; exact hle)]
      have hd : l.drop (lead l) = trim l ++ b := by
        unfold lead
        generalize trim l = T at hb ⊢
        generalize List.takeWhile blankB l = A at hb ⊢
        rw [hb, List.drop_left]
      rw [hd, hx, List.take_left]
      simp
    · cases ho : Lib.occAt l (c :: t) j with
      | false => rfl
      | true =>
        have := Lib.occAt_head rfl ho
        have hj2 : l[j]? = (l.takeWhile blankB)[j]? := by
          conv => lhs; rw [hb]
          exact List.getElem?_append_left hj
        rw [hj2] at this
        have hm := List.mem_of_getElem? this
        have := List.all_eq_true.1 (List.all_takeWhile (p := blankB) (l := l)) c hm
        rw [hc] at this
        cases this
theorem fnot_le (p : UInt8 → Bool) (l : List UInt8) : fnot p l ≤ l.length := (List.takeWhile_sublist _).length_le
theorem fnot_lt (p : UInt8 → Bool) (l : List UInt8) (h : l.all p = false) : fnot p l < l.length := by
  unfold fnot
  induction l with
  | nil => simp at h
  | cons a l ih =>
    rw [List.takeWhile_cons]
    by_cases e : p a = true
    · rw [if_pos e]
      have := ih (by simpa [e] using h)
      simp; omega
    · rw [if_neg e]; simp
theorem fnot_all (p : UInt8 → Bool) (l : List UInt8) (h : l.all p = true) : fnot p l = l.length := by
  unfold fnot
  induction l with
  | nil => rfl
  | cons a l ih =>
    have h1 : p a = true := by simp at h; exact h.1
    rw [List.takeWhile_cons, if_pos h1, List.length_cons, List.length_cons, ih (by simpa [h1] using h)]

end Fd
end Go.Proofs.YtlnlhhobmgiceaaGreatDoor

/-
  Names and values of fields; the document's.
-/
set_option linter.unusedVariables false
set_option linter.unusedSimpArgs false
namespace Go.Proofs.YtlnlhhobmgiceaaGreatDoor
open Go.RowKit
namespace Fd
open Oc


theorem trim_eq_str (s : ByteArray) : (decide (str (trim s.data.toList) = s)) = decide (trim s.data.toList = s.data.toList) := by
  rw [Bool.eq_iff_iff, decide_eq_true_iff, decide_eq_true_iff]
  constructor
  · intro h
    have := congrArg (fun x : ByteArray => x.data.toList) h
    simpa [str_list] using this
  · intro h
    rw [h, str_self]

set_option maxHeartbeats 400000 in
theorem IsName_any (s : ByteArray) (hs : s.size ≤ maxLen) (w : World) (t : Tab w) :
    Calls Tryz.prog 143 #[.string s] w fun e w' => e = .returned (.bool (isName s.data.toList)) ∧ Below w.heap.size w w' := by
  have HT : Hid (Calls Tryz.prog 30 #[.string s] w fun e w' => e = .returned (.bool (isTok s.data.toList)) ∧ Below w.heap.size w w') := IsToken_any s hs w t
  clear t
  unfold isName maxLen at *
  rw [size_list]
  generalize isTok s.data.toList = b at *
  by_cases hn : s.size ≤ 128
  · have HE : Hid (decide (s.size ≤ 128) = true) := decide_eq_true hn
    go_enter Tryz.func143, Tryz.ntmps143
    go_wp2_with fail
    refine HT.out.mono ?_
    rintro e w' ⟨rfl, hb⟩
    go_wp2
    go_ret
    exact ⟨ret_bool (by rw [HE.out]; simp), hb⟩
  · have HE : Hid (decide (s.size ≤ 128) = false) := decide_eq_false hn
    go_enter Tryz.func143, Tryz.ntmps143
    go_wp2
    go_ret
    exact ⟨ret_bool (by first | rfl | (rw [HE.out]; simp)), Below.refl _ _⟩

set_option maxHeartbeats 400000 in
theorem IsValue_any (s : ByteArray) (hs : s.size ≤ maxLen) (w : World) :
    Calls Tryz.prog 145 #[.string s] w fun e w' => e = .returned (.bool (isValue s.data.toList)) ∧ Below w.heap.size w w' := by
  have HF : Hid (∀ w, Calls Tryz.prog 151 #[.string s] w fun e w' => e = .returned (.bool (isFld s.data.toList)) ∧ Below w.heap.size w w') := fun w => IsField_any s hs w
  have HT : Hid (∀ w, Calls Tryz.prog 27 #[.string s] w fun e w' => e = .returned (.string (str (trim s.data.toList))) ∧ Below w.heap.size w w') := fun w => Trim_any s hs w
  have HQ := trim_eq_str s
  unfold isValue maxLen at *
  rw [size_list, ← HQ]
  clear HQ
  generalize isFld s.data.toList = b at *
  generalize str (trim s.data.toList) = u at *
  by_cases hn : s.size ≤ 8192
  · have HE : Hid (decide (s.size ≤ 8192) = true) := decide_eq_true hn
    cases b with
    | true =>
      go_enter Tryz.func145, Tryz.ntmps145
      go_wp2_with fail
      refine (HF.out _).mono ?_
      rintro e w1 ⟨rfl, hb1⟩
      have HB1 : Hid (Below w.heap.size w w1) := hb1
      clear hb1
      go_wp2_with fail
      refine (HT.out _).mono ?_
      rintro e w2 ⟨rfl, hb2⟩
      have HB2 : Hid (Below w.heap.size w w2) := bel_trans HB1.out hb2
      clear hb2
      go_wp2
      go_ret
      exact ⟨ret_bool (by rw [HE.out, eq_toList]; simp), HB2.out⟩
    | false =>
      go_enter Tryz.func145, Tryz.ntmps145
      go_wp2_with fail
      refine (HF.out _).mono ?_
      rintro e w1 ⟨rfl, hb1⟩
      have HB1 : Hid (Below w.heap.size w w1) := hb1
      clear hb1
      go_wp2
      go_ret
      exact ⟨ret_bool (by simp), HB1.out⟩
  · have HE : Hid (decide (s.size ≤ 8192) = false) := decide_eq_false hn
    go_enter Tryz.func145, Tryz.ntmps145
    go_wp2
    go_ret
    exact ⟨ret_bool (by first | rfl | (rw [HE.out]; simp)), Below.refl _ _⟩

end Fd
end Go.Proofs.YtlnlhhobmgiceaaGreatDoor

/-
  firstNot: the place of the first byte that is not of a kind; where a name or a value goes wrong.
-/
set_option linter.unusedVariables false
set_option linter.unusedSimpArgs false
namespace Go.Proofs.YtlnlhhobmgiceaaGreatDoor
open Go.RowKit Go.Shelf
namespace Fd
open Oc Tg

theorem isTok_one (c : UInt8) : isTok [c] = tokB c := by simp [isTok]
theorem isFld_one (c : UInt8) : isFld [c] = fieldB c := by simp [isFld]
theorem one_at (s : ByteArray) (k : Nat) (h : k < s.size) : (s.extract k (k + 1)).data.toList = [s.data.toList.getD k 0] := by
  rw [Lib.extract_data]
  have hk : k < s.data.toList.length := by rw [size_list]; exact h
  rw [List.getD_eq_getElem?_getD, List.getElem?_eq_getElem hk, show k + 1 - k = 1 by omega, List.drop_eq_getElem_cons hk]
  rfl

set_option maxRecDepth 100000 in
set_option maxHeartbeats 1000000 in
theorem firstNot_tok (s : ByteArray) (hs : s.size ≤ maxLen) (w : World) (t : Tab w) :
    Calls Tryz.prog 150 #[.string s, .func (.func 30) #[] #[]] w fun e w' => e = .returned (.int .i64 (fnot tokB s.data.toList : Nat)) ∧ Below w.heap.size w w' := by
  have HT : Hid (Tab w) := t
  have hs' := hs
  unfold maxLen at hs
  have HS : Hid (s.size ≤ maxLen) := hs'
  clear t hs'
  go_enter Tryz.func150, Tryz.ntmps150
  go_wp2
  go_loopw [8] (fun i wr => ∃ k : Nat, k ≤ s.size ∧ i = .int .i64 k ∧ Hid (∀ j, j < k → tokB (s.data.toList.getD j 0) = true) ∧ Hid (Below w.heap.size w wr)) (fun i _ => s.size - (intOf i).toNat)
  case atStart => exact ⟨0, Nat.zero_le _, rfl, (fun j hj => by omega : ∀ j, j < 0 → _), Below.refl _ _⟩
  case round =>
    obtain ⟨k, hk, rfl, hall, hbel⟩ := hrel
    by_cases hlt : k < s.size
    · have HC : Hid (Calls Tryz.prog 30 #[.string (s.extract k (k + 1))] wr fun e w' => e = .returned (.bool (tokB (s.data.toList.getD k 0))) ∧ Below wr.heap.size wr w') := by
        have h := IsToken_any (s.extract k (k + 1)) (by simp; have := HS.out; unfold maxLen at *; omega) wr (HT.out.below hbel.out (Nat.le_refl _))
        rw [one_at s k hlt, isTok_one] at h
        exact h
      have HN : tokB (s.data.toList.getD k 0) = true → Hid (∀ j, j < k + 1 → tokB (s.data.toList.getD j 0) = true) := fun h j hj => by
        by_cases hjk : j = k
        · subst hjk; exact h
        · exact hall.out j (by omega)
      have HF : tokB (s.data.toList.getD k 0) = false → Hid (fnot tokB s.data.toList = k) := fun h => tw_stop tokB 0 _ k (by rw [size_list]; exact hlt) hall.out h
      generalize tokB (s.data.toList.getD k 0) = b at HC HN HF
      cases b with
      | true =>
        have HN2 := HN rfl
        clear HF HN
        go_wp2_with fail
        refine HC.out.mono ?_
        rintro e w2 ⟨rfl, hb2⟩
        have HB2 : Hid (Below w.heap.size w w2) := bel_trans hbel.out hb2
        clear hb2
        go_wp2
        go_roundw
        case rel => exact ⟨k + 1, by omega, by go_num, HN2, HB2⟩
        case measure => simp [intOf]; omega
      | false =>
        have HF2 := HF rfl
        clear HN HF
        go_wp2_with fail
        refine HC.out.mono ?_
        rintro e w2 ⟨rfl, hb2⟩
        have HB2 : Hid (Below w.heap.size w w2) := bel_trans hbel.out hb2
        clear hb2
        go_wp2
        go_ret
        exact ⟨ret_int (by rw [HF2.out]), HB2.out⟩
    · have HE : Hid (fnot tokB s.data.toList = s.size) := (tw_all tokB 0 _ (fun j hj => hall.out j (by rw [size_list] at hj; omega))).trans (size_list s)
      go_wp2
      go_ret
      exact ⟨ret_int (by rw [HE.out]), hbel.out⟩

set_option maxRecDepth 100000 in
set_option maxHeartbeats 1000000 in
theorem firstNot_fld (s : ByteArray) (hs : s.size ≤ maxLen) (w : World) :
    Calls Tryz.prog 150 #[.string s, .func (.func 151) #[] #[]] w fun e w' => e = .returned (.int .i64 (fnot fieldB s.data.toList : Nat)) ∧ Below w.heap.size w w' := by
  have hs' := hs
  unfold maxLen at hs
  have HS : Hid (s.size ≤ maxLen) := hs'
  clear hs'
  go_enter Tryz.func150, Tryz.ntmps150
  go_wp2
  go_loopw [8] (fun i wr => ∃ k : Nat, k ≤ s.size ∧ i = .int .i64 k ∧ Hid (∀ j, j < k → fieldB (s.data.toList.getD j 0) = true) ∧ Hid (Below w.heap.size w wr)) (fun i _ => s.size - (intOf i).toNat)
  case atStart => exact ⟨0, Nat.zero_le _, rfl, (fun j hj => by omega : ∀ j, j < 0 → _), Below.refl _ _⟩
  case round =>
    obtain ⟨k, hk, rfl, hall, hbel⟩ := hrel
    by_cases hlt : k < s.size
    · have HC : Hid (Calls Tryz.prog 151 #[.string (s.extract k (k + 1))] wr fun e w' => e = .returned (.bool (fieldB (s.data.toList.getD k 0))) ∧ Below wr.heap.size wr w') := by
        have h := IsField_any (s.extract k (k + 1)) (by simp; have := HS.out; unfold maxLen at *; omega) wr
        rw [one_at s k hlt, isFld_one] at h
        exact h
      have HN : fieldB (s.data.toList.getD k 0) = true → Hid (∀ j, j < k + 1 → fieldB (s.data.toList.getD j 0) = true) := fun h j hj => by
        by_cases hjk : j = k
        · subst hjk; exact h
        · exact hall.out j (by omega)
      have HF : fieldB (s.data.toList.getD k 0) = false → Hid (fnot fieldB s.data.toList = k) := fun h => tw_stop fieldB 0 _ k (by rw [size_list]; exact hlt) hall.out h
      generalize fieldB (s.data.toList.getD k 0) = b at HC HN HF
      cases b with
      | true =>
        have HN2 := HN rfl
        clear HF HN
        go_wp2_with fail
        refine HC.out.mono ?_
        rintro e w2 ⟨rfl, hb2⟩
        have HB2 : Hid (Below w.heap.size w w2) := bel_trans hbel.out hb2
        clear hb2
        go_wp2
        go_roundw
        case rel => exact ⟨k + 1, by omega, by go_num, HN2, HB2⟩
        case measure => simp [intOf]; omega
      | false =>
        have HF2 := HF rfl
        clear HN HF
        go_wp2_with fail
        refine HC.out.mono ?_
        rintro e w2 ⟨rfl, hb2⟩
        have HB2 : Hid (Below w.heap.size w w2) := bel_trans hbel.out hb2
        clear hb2
        go_wp2
        go_ret
        exact ⟨ret_int (by rw [HF2.out]), HB2.out⟩
    · have HE : Hid (fnot fieldB s.data.toList = s.size) := (tw_all fieldB 0 _ (fun j hj => hall.out j (by rw [size_list] at hj; omega))).trans (size_list s)
      go_wp2
      go_ret
      exact ⟨ret_int (by rw [HE.out]), hbel.out⟩

set_option maxHeartbeats 1000000 in
theorem nameFault_any (s : ByteArray) (hs : s.size ≤ maxLen) (w : World) (t : Tab w) :
    Calls Tryz.prog 144 #[.string s] w fun e w' => e = .returned (.int .i64 (min (fnot tokB s.data.toList) 128 : Nat)) ∧ Below w.heap.size w w' := by
  have HC : Hid (Calls Tryz.prog 150 #[.string s, .func (.func 30) #[] #[]] w fun e w' => e = .returned (.int .i64 (fnot tokB s.data.toList : Nat)) ∧ Below w.heap.size w w') := firstNot_tok s hs w t
  have hle := fnot_le tokB s.data.toList
  rw [size_list] at hle
  generalize fnot tokB s.data.toList = n at *
  unfold maxLen at hs
  clear t
  go_enter Tryz.func144, Tryz.ntmps144
  go_wp2_with fail
  refine HC.out.mono ?_
  rintro e w2 ⟨rfl, hb2⟩
  go_wp2
  go_ret
  exact ⟨ret_int (by omega), hb2⟩

end Fd
end Go.Proofs.YtlnlhhobmgiceaaGreatDoor
