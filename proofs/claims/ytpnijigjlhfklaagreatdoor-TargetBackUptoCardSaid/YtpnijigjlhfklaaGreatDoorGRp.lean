/-
  The document's scan, IsPath, plain.
-/
import Derived.Test.YtpnijigjlhfklaaGreatDoorGRs
set_option linter.unusedVariables false
set_option linter.unusedSimpArgs false
namespace Go.Proofs.YtpnijigjlhfklaaGreatDoor
open Go.RowKit Go.Shelf
namespace Tg
open Oc

def incol (c : UInt8) : Bool := (⟨#[58, 64]⟩ : ByteArray).data.toList.contains c
def inmore (more : ByteArray) (c : UInt8) : Bool := more.data.toList.contains c

set_option maxRecDepth 100000 in
set_option maxHeartbeats 4000000 in
theorem scan_any (s : ByteArray) (hs : s.size ≤ 40000000000) (more : ByteArray) (hmo : more.size ≤ 10) (other : Int) (ok : UInt8 → Bool) (hok : ∀ c, ok c = (unr c || (sub c || (incol c || inmore more c)))) (h37 : ok 37 = false) (w : World) :
    Calls Tryz.prog 39 #[.string s, .int .i64 0, .string more, .int .i64 other] w fun e w' => e = .returned (.tuple #[.int .i64 ((chk ok other s.data.toList).1 : Int), .int .i64 (chk ok other s.data.toList).2]) ∧ w' = w := by
  have HOK : Hid (∀ c, ok c = (unr c || (sub c || (incol c || inmore more c)))) := hok
  have HT : Hid (∀ k, k ≤ s.size → ∀ w, _) := fun k hk w => triple_any s (by omega) k hk w
  clear hok
  go_enter Tryz.func39, Tryz.ntmps39
  go_wp2
  go_loopw [10] (fun i wr => ∃ k : Nat, k ≤ s.size ∧ i = .int .i64 k ∧ ∃ pre, Hid (pre ++ sg k (s.data.toList.drop k) = sg 0 s.data.toList) ∧ Hid (pre.length ≤ k) ∧ Hid (∀ y ∈ pre, wrong ok y = false) ∧ wr = w) (fun i _ => s.size - (intOf i).toNat)
  case atStart => exact ⟨0, Nat.zero_le _, rfl, [], (rfl : [] ++ sg 0 (s.data.toList.drop 0) = _), (Nat.le_refl 0 : _ ≤ 0), (show ∀ y ∈ ([] : List Sg), wrong ok y = false from fun y hy => nomatch hy), rfl⟩
  case round =>
    obtain ⟨k, hk, rfl, pre, hpre, hpl, hgood, rfl⟩ := hrel
    by_cases hlt : k < s.size
    · have h0 : ((s[k].toNat : Nat) : Int) = ((s.data.toList.getD k 0).toNat : Int) := by rw [getD_of s k hlt]
      by_cases hp : s.data.toList.getD k 0 = 37
      · rw [hp] at h0
        cases ht : trip (s.data.toList.drop k) with
        | true =>
          obtain ⟨x, hx, hxa, hxz, hk3⟩ := nxt3 s k ht
          have HT' : Hid (∀ w, _) := HT.out k hk
          rw [ht] at HT'
          have HWX : Hid (wrong ok x = false) := by show _ = _; unfold wrong; rw [hxz]; rfl
          have HX : Hid (_) := hx
          clear hx hxz ht hp
          go_wp2_with (go_at_call 62; refine (HT'.out _).mono ?_; rintro e w1 ⟨rfl, rfl⟩)
          go_roundw
          case rel => exact ⟨k + 3, by omega, by go_num, pre ++ [x], (by rw [List.append_assoc]; exact (congrArg (pre ++ ·) HX.out).symm.trans hpre.out : (pre ++ [x]) ++ sg (k + 3) (s.data.toList.drop (k + 3)) = _), (by have := hpl.out; rw [List.length_append, List.length_singleton]; omega : (pre ++ [x]).length ≤ k + 3), (by intro y hy; rcases List.mem_append.1 hy with h | h; exact hgood.out y h; simp at h; subst h; exact HWX.out : ∀ y ∈ pre ++ [x], _), (by first | trivial | rfl)⟩
          case measure => simp [intOf]; omega
        | false =>
          obtain ⟨x, hx, hxa, hxz⟩ := nxt1 s k hlt ht
          have HT' : Hid (∀ w, _) := HT.out k hk
          rw [ht] at HT'
          rw [hp] at hxz
          have hwx : wrong ok x = true := by unfold wrong; rw [hxz]; show (!false && !ok 37) = true; rw [h37]; rfl
          have HR : Hid (chk ok other s.data.toList = (k, 51)) := by
            have := chk_at ok other s.data.toList pre x (sg (k + 1) (s.data.toList.drop (k + 1))) (by rw [List.append_assoc]; exact (congrArg (pre ++ ·) hx).symm.trans hpre.out) hgood.out hwx
            rw [hxa, hxz, if_pos rfl] at this
            exact this
          clear hx hxz ht hp hwx
          go_wp2_with (go_at_call 62; refine (HT'.out _).mono ?_; rintro e w1 ⟨rfl, rfl⟩)
          go_ret2
          exact ⟨by rw [HR.out]; rfl, rfl⟩
      · have hp2 : (((s.data.toList.getD k 0).toNat : Int) == 37) = false := by
          rw [beq_eq_false_iff_ne]
          intro e
          exact hp (UInt8.toNat_inj.1 (by show _ = 37; omega))
        have ht : trip (s.data.toList.drop k) = false := by rw [drop_cons s k hlt]; exact trip_ne hp _
        obtain ⟨x, hx, hxa, hxz⟩ := nxt1 s k hlt ht
        generalize s.data.toList.getD k 0 = c at *
        have hwx : wrong ok x = !ok c := by unfold wrong; rw [hxz]; rfl
        have hoc := HOK.out c
        have HX : Hid (_) := hx
        have HRf : Hid (wrong ok x = true → chk ok other s.data.toList = (k, other)) := fun h => by
          have := chk_at ok other s.data.toList pre x (sg (k + 1) (s.data.toList.drop (k + 1))) (by rw [List.append_assoc]; exact (congrArg (pre ++ ·) hx).symm.trans hpre.out) hgood.out h
          rw [hxa, hxz, if_neg (by intro e; injection e with e; exact hp e)] at this
          exact this
        have HU : Hid (∀ w, _) := fun w => rUnr_any c w
        have HS : Hid (∀ w, _) := fun w => rSub_any c w
        have H1 : Hid (∀ w, Calls Tryz.prog 65 #[.int .u8 (c.toNat : Int), .string ⟨#[58, 64]⟩] w fun e w' => e = .returned (.bool (incol c)) ∧ w' = w) := fun w => in_any c ⟨#[58, 64]⟩ (by decide) w
        have H2 : Hid (∀ w, Calls Tryz.prog 65 #[.int .u8 (c.toNat : Int), .string more] w fun e w' => e = .returned (.bool (inmore more c)) ∧ w' = w) := fun w => in_any c more (by omega) w
        generalize unr c = b1 at *
        generalize sub c = b2 at *
        generalize incol c = b3 at *
        generalize inmore more c = b4 at *
        clear hx hxz ht hp
        cases b1 with
        | true =>
          have HWX : Hid (wrong ok x = false) := by show _ = _; rw [hwx, hoc]; rfl
          clear hwx hoc HRf
          go_wp2_with fail
          refine (HU.out _).mono ?_
          rintro e w1 ⟨rfl, rfl⟩
          go_wp2
          go_roundw
          case rel => exact ⟨k + 1, by omega, by go_num, pre ++ [x], (by rw [List.append_assoc]; exact (congrArg (pre ++ ·) HX.out).symm.trans hpre.out : (pre ++ [x]) ++ sg (k + 1) (s.data.toList.drop (k + 1)) = _), (by have := hpl.out; rw [List.length_append, List.length_singleton]; omega : (pre ++ [x]).length ≤ k + 1), (by intro y hy; rcases List.mem_append.1 hy with h | h; exact hgood.out y h; simp at h; subst h; exact HWX.out : ∀ y ∈ pre ++ [x], _), (by first | trivial | rfl)⟩
          case measure => simp [intOf]; omega
        | false =>
          cases b2 with
          | true =>
            have HWX : Hid (wrong ok x = false) := by show _ = _; rw [hwx, hoc]; rfl
            clear hwx hoc HRf
            go_wp2_with fail
            refine (HU.out _).mono ?_
            rintro e w1 ⟨rfl, rfl⟩
            go_wp2_with fail
            refine (HS.out _).mono ?_
            rintro e w1 ⟨rfl, rfl⟩
            go_wp2
            go_roundw
            case rel => exact ⟨k + 1, by omega, by go_num, pre ++ [x], (by rw [List.append_assoc]; exact (congrArg (pre ++ ·) HX.out).symm.trans hpre.out : (pre ++ [x]) ++ sg (k + 1) (s.data.toList.drop (k + 1)) = _), (by have := hpl.out; rw [List.length_append, List.length_singleton]; omega : (pre ++ [x]).length ≤ k + 1), (by intro y hy; rcases List.mem_append.1 hy with h | h; exact hgood.out y h; simp at h; subst h; exact HWX.out : ∀ y ∈ pre ++ [x], _), (by first | trivial | rfl)⟩
            case measure => simp [intOf]; omega
          | false =>
            cases b3 with
            | true =>
              have HWX : Hid (wrong ok x = false) := by show _ = _; rw [hwx, hoc]; rfl
              clear hwx hoc HRf
              go_wp2_with fail
              refine (HU.out _).mono ?_
              rintro e w1 ⟨rfl, rfl⟩
              go_wp2_with fail
              refine (HS.out _).mono ?_
              rintro e w1 ⟨rfl, rfl⟩
              go_wp2_with fail
              refine (H1.out _).mono ?_
              rintro e w1 ⟨rfl, rfl⟩
              go_wp2
              go_roundw
              case rel => exact ⟨k + 1, by omega, by go_num, pre ++ [x], (by rw [List.append_assoc]; exact (congrArg (pre ++ ·) HX.out).symm.trans hpre.out : (pre ++ [x]) ++ sg (k + 1) (s.data.toList.drop (k + 1)) = _), (by have := hpl.out; rw [List.length_append, List.length_singleton]; omega : (pre ++ [x]).length ≤ k + 1), (by intro y hy; rcases List.mem_append.1 hy with h | h; exact hgood.out y h; simp at h; subst h; exact HWX.out : ∀ y ∈ pre ++ [x], _), (by first | trivial | rfl)⟩
              case measure => simp [intOf]; omega
            | false =>
              cases b4 with
              | true =>
                have HWX : Hid (wrong ok x = false) := by show _ = _; rw [hwx, hoc]; rfl
                clear hwx hoc HRf
                go_wp2_with fail
                refine (HU.out _).mono ?_
                rintro e w1 ⟨rfl, rfl⟩
                go_wp2_with fail
                refine (HS.out _).mono ?_
                rintro e w1 ⟨rfl, rfl⟩
                go_wp2_with fail
                refine (H1.out _).mono ?_
                rintro e w1 ⟨rfl, rfl⟩
                go_wp2_with fail
                refine (H2.out _).mono ?_
                rintro e w1 ⟨rfl, rfl⟩
                go_wp2
                go_roundw
                case rel => exact ⟨k + 1, by omega, by go_num, pre ++ [x], (by rw [List.append_assoc]; exact (congrArg (pre ++ ·) HX.out).symm.trans hpre.out : (pre ++ [x]) ++ sg (k + 1) (s.data.toList.drop (k + 1)) = _), (by have := hpl.out; rw [List.length_append, List.length_singleton]; omega : (pre ++ [x]).length ≤ k + 1), (by intro y hy; rcases List.mem_append.1 hy with h | h; exact hgood.out y h; simp at h; subst h; exact HWX.out : ∀ y ∈ pre ++ [x], _), (by first | trivial | rfl)⟩
                case measure => simp [intOf]; omega
              | false =>
                have HR : Hid (_) := HRf.out (by rw [hwx, hoc]; rfl)
                clear hwx hoc HRf
                go_wp2_with fail
                refine (HU.out _).mono ?_
                rintro e w1 ⟨rfl, rfl⟩
                go_wp2_with fail
                refine (HS.out _).mono ?_
                rintro e w1 ⟨rfl, rfl⟩
                go_wp2_with fail
                refine (H1.out _).mono ?_
                rintro e w1 ⟨rfl, rfl⟩
                go_wp2_with fail
                refine (H2.out _).mono ?_
                rintro e w1 ⟨rfl, rfl⟩
                go_wp2
                go_ret2
                exact ⟨by rw [HR.out]; rfl, rfl⟩
    · obtain rfl : k = s.size := by omega
      have HR : Hid (chk ok other s.data.toList = (0, 0)) := by
        have hfin : pre = sg 0 s.data.toList := by
          have := hpre.out
          rw [List.drop_of_length_le (by rw [size_list]; exact Nat.le_refl _), sg_nil, List.append_nil] at this
          exact this
        exact chk_all ok other s.data.toList (by rw [← hfin]; exact hgood.out)
      go_wp2
      go_ret2
      exact ⟨by rw [HR.out]; rfl, rfl⟩

theorem path_more : ∀ c, pathOk c = (unr c || (sub c || (incol c || inmore ⟨#[47]⟩ c))) := by
  have h : ∀ n : Nat, n < 256 → pathOk (UInt8.ofNat n) = (unr (UInt8.ofNat n) || (sub (UInt8.ofNat n) || (incol (UInt8.ofNat n) || inmore ⟨#[47]⟩ (UInt8.ofNat n)))) := by decide +kernel
  intro c
  have := h c.toNat c.toNat_lt
  simpa using this
theorem query_more : ∀ c, queryOk c = (unr c || (sub c || (incol c || inmore ⟨#[47, 63]⟩ c))) := by
  have h : ∀ n : Nat, n < 256 → queryOk (UInt8.ofNat n) = (unr (UInt8.ofNat n) || (sub (UInt8.ofNat n) || (incol (UInt8.ofNat n) || inmore ⟨#[47, 63]⟩ (UInt8.ofNat n)))) := by decide +kernel
  intro c
  have := h c.toNat c.toNat_lt
  simpa using this

set_option maxRecDepth 100000 in
set_option maxHeartbeats 1000000 in
theorem rIsPath_any (s : ByteArray) (hs : s.size ≤ 40000000000) (w : World) :
    Calls Tryz.prog 36 #[.string s] w fun e w' => e = .returned (.bool (isPath s.data.toList)) ∧ w' = w := by
  have HC : Hid (∀ w, _) := fun w => scan_any s hs ⟨#[47]⟩ (by decide) 53 pathOk path_more path37 w
  have HE := chk_err pathOk 53 (by decide) s.data.toList
  generalize chk pathOk 53 s.data.toList = r at *
  obtain ⟨r1, r2⟩ := r
  dsimp only at HC HE
  by_cases h1 : s.size = 0
  · have hl : s.data.toList = [] := List.length_eq_zero_iff.1 (by rw [size_list]; exact h1)
    have he : s.toList.isEmpty = true := by rw [ByteArray.toList_eq, hl]; rfl
    have hi : isPath s.data.toList = false := by rw [hl]; rfl
    rw [hi]
    clear HE hl hi
    go_enter Tryz.func36, Tryz.ntmps36
    go_wp2_with (go_at_call 39; refine (HC.out _).mono ?_; rintro e w1 ⟨rfl, rfl⟩)
    go_ret
    exact ⟨rfl, rfl⟩
  · have hlt : 0 < s.size := by omega
    have he : s.toList.isEmpty = false := by
      rw [ByteArray.toList_eq]
      cases h : s.data.toList with
      | nil => exfalso; have := size_list s; rw [h] at this; simp at this; omega
      | cons _ _ => rfl
    have hc := drop_cons s 0 hlt
    rw [List.drop_zero] at hc
    have h0 : ((s[0].toNat : Nat) : Int) = ((s.data.toList.getD 0 0).toNat : Int) := by rw [getD_of s 0 hlt]
    have hi : isPath s.data.toList = ((s.data.toList.getD 0 0 == 47) && (r2 == 0)) := by
      rw [HE]
      unfold isPath
      congr 1
      conv => lhs; rw [hc]
      rfl
    rw [hi]
    generalize s.data.toList.getD 0 0 = c at *
    clear HE hi hc
    by_cases hcc : c = 47
    · have hb : ((c.toNat : Int) == 47) = true := by rw [hcc]; rfl
      have hb2 : (c == 47) = true := by rw [hcc]; rfl
      rw [hb2, Bool.true_and]
      clear hcc hb2
      go_enter Tryz.func36, Tryz.ntmps36
      go_wp2_with (go_at_call 39; refine (HC.out _).mono ?_; rintro e w1 ⟨rfl, rfl⟩)
      go_ret
      exact ⟨rfl, rfl⟩
    · have hb : ((c.toNat : Int) == 47) = false := by
        rw [beq_eq_false_iff_ne]
        intro e
        exact hcc (UInt8.toNat_inj.1 (by show _ = 47; omega))
      have hb2 : (c == 47) = false := by rw [beq_eq_false_iff_ne]; exact hcc
      rw [hb2, Bool.false_and]
      clear hcc hb2
      go_enter Tryz.func36, Tryz.ntmps36
      go_wp2_with (go_at_call 39; refine (HC.out _).mono ?_; rintro e w1 ⟨rfl, rfl⟩)
      go_ret
      exact ⟨rfl, rfl⟩

end Tg
end Go.Proofs.YtpnijigjlhfklaaGreatDoor
