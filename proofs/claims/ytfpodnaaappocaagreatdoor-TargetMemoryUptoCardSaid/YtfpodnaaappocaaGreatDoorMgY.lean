/- Several texts as one. -/
import Derived.Test.YtfpodnaaappocaaGreatDoorMgX
/-
  The document's scan, IsPath, plain.
-/
set_option linter.unusedVariables false
set_option linter.unusedSimpArgs false
namespace Go.Proofs.YtfpodnaaappocaaGreatDoor
open Go.RowKit Go.Shelf
namespace Tg
open Oc

def incol (c : UInt8) : Bool := (⟨#[58, 64]⟩ : ByteArray).data.toList.contains c
def inmore (more : ByteArray) (c : UInt8) : Bool := more.data.toList.contains c

set_option maxRecDepth 100000 in
set_option maxHeartbeats 4000000 in
theorem scan_any (s : ByteArray) (hs : s.size ≤ 40000000000) (more : ByteArray) (hmo : more.size ≤ 10) (other : Int) (ok : UInt8 → Bool) (hok : ∀ c, ok c = (unr c || (sub c || (incol c || inmore more c)))) (h37 : ok 37 = false) (w : World) :
    Calls Tryz.prog 15 #[.string s, .int .i64 0, .string more, .int .i64 other] w fun e w' => e = .returned (.tuple #[.int .i64 ((chk ok other s.data.toList).1 : Int), .int .i64 (chk ok other s.data.toList).2]) ∧ w' = w := by
  have HOK : Hid (∀ c, ok c = (unr c || (sub c || (incol c || inmore more c)))) := hok
  have HT : Hid (∀ k, k ≤ s.size → ∀ w, _) := fun k hk w => triple_any s (by omega) k hk w
  clear hok
  go_enter Tryz.func15, Tryz.ntmps15
  go_wp2
  go_loopw [10] (fun i wr => ∃ k : Nat, k ≤ s.size ∧ i = .int .i64 k ∧ ∃ pre, Hid (pre ++ sg k (s.data.toList.drop k) = sg 0 s.data.toList) ∧ Hid (pre.length ≤ k) ∧ Hid (∀ y ∈ pre, wrong ok y = false) ∧ wr = w) (fun i _ => s.size - (intOf i).toNat)
  case atStart => exact ⟨0, Nat.zero_le _, rfl, [], (rfl : [] ++ sg 0 (s.data.toList.drop 0) = _), (Nat.le_refl 0 : _ ≤ 0), (show ∀ y ∈ ([] : List Sg), wrong ok y = false from fun y hy => nomatch hy), rfl⟩
  case round =>
    obtain ⟨k, hk, rfl, pre, hpre, hpl, hgood, rfl⟩ := hrel
    by_cases hlt : k < s.size
    · have h0 : ((s[k].toNat : Nat) : Int) = ((s.data.toList.getD k 0).toNat : Int) := by rw [getD_of s k hlt]
      by_cases hp : s.data.toList.getD k 0 = 37
      · rw [hp] at h0
        cases ht : trip (s.data.toList.drop k) with
        | true =>
          obtain ⟨x, hx, hxa, hxz, hk3⟩ := nxt3 s k ht
          have HT' : Hid (∀ w, _) := HT.out k hk
          rw [ht] at HT'
          have HWX : Hid (wrong ok x = false) := by show _ = _; unfold wrong; rw [hxz]; rfl
          have HX : Hid (_) := hx
          clear hx hxz ht hp
          go_wp2_with (go_at_call 26; refine (HT'.out _).mono ?_; rintro e w1 ⟨rfl, rfl⟩)
          go_roundw
          case rel => exact ⟨k + 3, by omega, by go_num, pre ++ [x], (by rw [List.append_assoc]; exact (congrArg (pre ++ ·) HX.out).symm.trans hpre.out : (pre ++ [x]) ++ sg (k + 3) (s.data.toList.drop (k + 3)) = _), (by have := hpl.out; rw [List.length_append, List.length_singleton]; omega : (pre ++ [x]).length ≤ k + 3), (by intro y hy; rcases List.mem_append.1 hy with h | h; exact hgood.out y h; simp at h; subst h; exact HWX.out : ∀ y ∈ pre ++ [x], _), (by first | trivial | rfl)⟩
          case measure => simp [intOf]; omega
        | false =>
          obtain ⟨x, hx, hxa, hxz⟩ := nxt1 s k hlt ht
          have HT' : Hid (∀ w, _) := HT.out k hk
          rw [ht] at HT'
          rw [hp] at hxz
          have hwx : wrong ok x = true := by unfold wrong; rw [hxz]; show (!false && !ok 37) = true; rw [h37]; rfl
          have HR : Hid (chk ok other s.data.toList = (k, 51)) := by
            have := chk_at ok other s.data.toList pre x (sg (k + 1) (s.data.toList.drop (k + 1))) (by rw [List.append_assoc]; exact (congrArg (pre ++ ·) hx).symm.trans hpre.out) hgood.out hwx
            rw [hxa, hxz, if_pos rfl] at this
            exact this
          clear hx hxz ht hp hwx
          go_wp2_with (go_at_call 26; refine (HT'.out _).mono ?_; rintro e w1 ⟨rfl, rfl⟩)
          go_ret2
          exact ⟨by rw [HR.out]; rfl, rfl⟩
      · have hp2 : (((s.data.toList.getD k 0).toNat : Int) == 37) = false := by
          rw [beq_eq_false_iff_ne]
          intro e
          exact hp (UInt8.toNat_inj.1 (by show _ = 37; omega))
        have ht : trip (s.data.toList.drop k) = false := by rw [drop_cons s k hlt]; exact trip_ne hp _
        obtain ⟨x, hx, hxa, hxz⟩ := nxt1 s k hlt ht
        generalize s.data.toList.getD k 0 = c at *
        have hwx : wrong ok x = !ok c := by unfold wrong; rw [hxz]; rfl
        have hoc := HOK.out c
        have HX : Hid (_) := hx
        have HRf : Hid (wrong ok x = true → chk ok other s.data.toList = (k, other)) := fun h => by
          have := chk_at ok other s.data.toList pre x (sg (k + 1) (s.data.toList.drop (k + 1))) (by rw [List.append_assoc]; exact (congrArg (pre ++ ·) hx).symm.trans hpre.out) hgood.out h
          rw [hxa, hxz, if_neg (by intro e; injection e with e; exact hp e)] at this
          exact this
        have HU : Hid (∀ w, _) := fun w => rUnr_any c w
        have HS : Hid (∀ w, _) := fun w => rSub_any c w
        have H1 : Hid (∀ w, Calls Tryz.prog 30 #[.int .u8 (c.toNat : Int), .string ⟨#[58, 64]⟩] w fun e w' => e = .returned (.bool (incol c)) ∧ w' = w) := fun w => in_any c ⟨#[58, 64]⟩ (by decide) w
        have H2 : Hid (∀ w, Calls Tryz.prog 30 #[.int .u8 (c.toNat : Int), .string more] w fun e w' => e = .returned (.bool (inmore more c)) ∧ w' = w) := fun w => in_any c more (by omega) w
        generalize unr c = b1 at *
        generalize sub c = b2 at *
        generalize incol c = b3 at *
        generalize inmore more c = b4 at *
        clear hx hxz ht hp
        cases b1 with
        | true =>
          have HWX : Hid (wrong ok x = false) := by show _ = _; rw [hwx, hoc]; rfl
          clear hwx hoc HRf
          go_wp2_with fail
          refine (HU.out _).mono ?_
          rintro e w1 ⟨rfl, rfl⟩
          go_wp2
          go_roundw
          case rel => exact ⟨k + 1, by omega, by go_num, pre ++ [x], (by rw [List.append_assoc]; exact (congrArg (pre ++ ·) HX.out).symm.trans hpre.out : (pre ++ [x]) ++ sg (k + 1) (s.data.toList.drop (k + 1)) = _), (by have := hpl.out; rw [List.length_append, List.length_singleton]; omega : (pre ++ [x]).length ≤ k + 1), (by intro y hy; rcases List.mem_append.1 hy with h | h; exact hgood.out y h; simp at h; subst h; exact HWX.out : ∀ y ∈ pre ++ [x], _), (by first | trivial | rfl)⟩
          case measure => simp [intOf]; omega
        | false =>
          cases b2 with
          | true =>
            have HWX : Hid (wrong ok x = false) := by show _ = _; rw [hwx, hoc]; rfl
            clear hwx hoc HRf
            go_wp2_with fail
            refine (HU.out _).mono ?_
            rintro e w1 ⟨rfl, rfl⟩
            go_wp2_with fail
            refine (HS.out _).mono ?_
            rintro e w1 ⟨rfl, rfl⟩
            go_wp2
            go_roundw
            case rel => exact ⟨k + 1, by omega, by go_num, pre ++ [x], (by rw [List.append_assoc]; exact (congrArg (pre ++ ·) HX.out).symm.trans hpre.out : (pre ++ [x]) ++ sg (k + 1) (s.data.toList.drop (k + 1)) = _), (by have := hpl.out; rw [List.length_append, List.length_singleton]; omega : (pre ++ [x]).length ≤ k + 1), (by intro y hy; rcases List.mem_append.1 hy with h | h; exact hgood.out y h; simp at h; subst h; exact HWX.out : ∀ y ∈ pre ++ [x], _), (by first | trivial | rfl)⟩
            case measure => simp [intOf]; omega
          | false =>
            cases b3 with
            | true =>
              have HWX : Hid (wrong ok x = false) := by show _ = _; rw [hwx, hoc]; rfl
              clear hwx hoc HRf
              go_wp2_with fail
              refine (HU.out _).mono ?_
              rintro e w1 ⟨rfl, rfl⟩
              go_wp2_with fail
              refine (HS.out _).mono ?_
              rintro e w1 ⟨rfl, rfl⟩
              go_wp2_with fail
              refine (H1.out _).mono ?_
              rintro e w1 ⟨rfl, rfl⟩
              go_wp2
              go_roundw
              case rel => exact ⟨k + 1, by omega, by go_num, pre ++ [x], (by rw [List.append_assoc]; exact (congrArg (pre ++ ·) HX.out).symm.trans hpre.out : (pre ++ [x]) ++ sg (k + 1) (s.data.toList.drop (k + 1)) = _), (by have := hpl.out; rw [List.length_append, List.length_singleton]; omega : (pre ++ [x]).length ≤ k + 1), (by intro y hy; rcases List.mem_append.1 hy with h | h; exact hgood.out y h; simp at h; subst h; exact HWX.out : ∀ y ∈ pre ++ [x], _), (by first | trivial | rfl)⟩
              case measure => simp [intOf]; omega
            | false =>
              cases b4 with
              | true =>
                have HWX : Hid (wrong ok x = false) := by show _ = _; rw [hwx, hoc]; rfl
                clear hwx hoc HRf
                go_wp2_with fail
                refine (HU.out _).mono ?_
                rintro e w1 ⟨rfl, rfl⟩
                go_wp2_with fail
                refine (HS.out _).mono ?_
                rintro e w1 ⟨rfl, rfl⟩
                go_wp2_with fail
                refine (H1.out _).mono ?_
                rintro e w1 ⟨rfl, rfl⟩
                go_wp2_with fail
                refine (H2.out _).mono ?_
                rintro e w1 ⟨rfl, rfl⟩
                go_wp2
                go_roundw
                case rel => exact ⟨k + 1, by omega, by go_num, pre ++ [x], (by rw [List.append_assoc]; exact (congrArg (pre ++ ·) HX.out).symm.trans hpre.out : (pre ++ [x]) ++ sg (k + 1) (s.data.toList.drop (k + 1)) = _), (by have := hpl.out; rw [List.length_append, List.length_singleton]; omega : (pre ++ [x]).length ≤ k + 1), (by intro y hy; rcases List.mem_append.1 hy with h | h; exact hgood.out y h; simp at h; subst h; exact HWX.out : ∀ y ∈ pre ++ [x], _), (by first | trivial | rfl)⟩
                case measure => simp [intOf]; omega
              | false =>
                have HR : Hid (_) := HRf.out (by rw [hwx, hoc]; rfl)
                clear hwx hoc HRf
                go_wp2_with fail
                refine (HU.out _).mono ?_
                rintro e w1 ⟨rfl, rfl⟩
                go_wp2_with fail
                refine (HS.out _).mono ?_
                rintro e w1 ⟨rfl, rfl⟩
                go_wp2_with fail
                refine (H1.out _).mono ?_
                rintro e w1 ⟨rfl, rfl⟩
                go_wp2_with fail
                refine (H2.out _).mono ?_
                rintro e w1 ⟨rfl, rfl⟩
                go_wp2
                go_ret2
                exact ⟨by rw [HR.out]; rfl, rfl⟩
    · obtain rfl : k = s.size := by omega
      have HR : Hid (chk ok other s.data.toList = (0, 0)) := by
        have hfin : pre = sg 0 s.data.toList := by
          have := hpre.out
          rw [List.drop_of_length_le (by rw [size_list]; exact Nat.le_refl _), sg_nil, List.append_nil] at this
          exact this
        exact chk_all ok other s.data.toList (by rw [← hfin]; exact hgood.out)
      go_wp2
      go_ret2
      exact ⟨by rw [HR.out]; rfl, rfl⟩

theorem path_more : ∀ c, pathOk c = (unr c || (sub c || (incol c || inmore ⟨#[47]⟩ c))) := by
  have h : ∀ n : Nat, n < 256 → pathOk (UInt8.ofNat n) = (unr (UInt8.ofNat n) || (sub (UInt8.ofNat n) || (incol (UInt8.ofNat n) || inmore ⟨#[47]⟩ (UInt8.ofNat n)))) := by decide +kernel
  intro c
  have := h c.toNat c.toNat_lt
  simpa using this
theorem query_more : ∀ c, queryOk c = (unr c || (sub c || (incol c || inmore ⟨#[47, 63]⟩ c))) := by
  have h : ∀ n : Nat, n < 256 → queryOk (UInt8.ofNat n) = (unr (UInt8.ofNat n) || (sub (UInt8.ofNat n) || (incol (UInt8.ofNat n) || inmore ⟨#[47, 63]⟩ (UInt8.ofNat n)))) := by decide +kernel
  intro c
  have := h c.toNat c.toNat_lt
  simpa using this

set_option maxRecDepth 100000 in
set_option maxHeartbeats 1000000 in
theorem rIsPath_any (s : ByteArray) (hs : s.size ≤ 40000000000) (w : World) :
    Calls Tryz.prog 12 #[.string s] w fun e w' => e = .returned (.bool (isPath s.data.toList)) ∧ w' = w := by
  have HC : Hid (∀ w, _) := fun w => scan_any s hs ⟨#[47]⟩ (by decide) 53 pathOk path_more path37 w
  have HE := chk_err pathOk 53 (by decide) s.data.toList
  generalize chk pathOk 53 s.data.toList = r at *
  obtain ⟨r1, r2⟩ := r
  dsimp only at HC HE
  by_cases h1 : s.size = 0
  · have hl : s.data.toList = [] := List.length_eq_zero_iff.1 (by rw [size_list]; exact h1)
    have he : s.toList.isEmpty = true := by rw [ByteArray.toList_eq, hl]; rfl
    have hi : isPath s.data.toList = false := by rw [hl]; rfl
    rw [hi]
    clear HE hl hi
    go_enter Tryz.func12, Tryz.ntmps12
    go_wp2_with (go_at_call 15; refine (HC.out _).mono ?_; rintro e w1 ⟨rfl, rfl⟩)
    go_ret
    exact ⟨rfl, rfl⟩
  · have hlt : 0 < s.size := by omega
    have he : s.toList.isEmpty = false := by
      rw [ByteArray.toList_eq]
      cases h : s.data.toList with
      | nil => exfalso; have := size_list s; rw [h] at this; simp at this; omega
      | cons _ _ => rfl
    have hc := drop_cons s 0 hlt
    rw [List.drop_zero] at hc
    have h0 : ((s[0].toNat : Nat) : Int) = ((s.data.toList.getD 0 0).toNat : Int) := by rw [getD_of s 0 hlt]
    have hi : isPath s.data.toList = ((s.data.toList.getD 0 0 == 47) && (r2 == 0)) := by
      rw [HE]
      unfold isPath
      congr 1
      conv => lhs; rw [hc]
      rfl
    rw [hi]
    generalize s.data.toList.getD 0 0 = c at *
    clear HE hi hc
    by_cases hcc : c = 47
    · have hb : ((c.toNat : Int) == 47) = true := by rw [hcc]; rfl
      have hb2 : (c == 47) = true := by rw [hcc]; rfl
      rw [hb2, Bool.true_and]
      clear hcc hb2
      go_enter Tryz.func12, Tryz.ntmps12
      go_wp2_with (go_at_call 15; refine (HC.out _).mono ?_; rintro e w1 ⟨rfl, rfl⟩)
      go_ret
      exact ⟨rfl, rfl⟩
    · have hb : ((c.toNat : Int) == 47) = false := by
        rw [beq_eq_false_iff_ne]
        intro e
        exact hcc (UInt8.toNat_inj.1 (by show _ = 47; omega))
      have hb2 : (c == 47) = false := by rw [beq_eq_false_iff_ne]; exact hcc
      rw [hb2, Bool.false_and]
      clear hcc hb2
      go_enter Tryz.func12, Tryz.ntmps12
      go_wp2_with (go_at_call 15; refine (HC.out _).mono ?_; rintro e w1 ⟨rfl, rfl⟩)
      go_ret
      exact ⟨rfl, rfl⟩

end Tg
end Go.Proofs.YtfpodnaaappocaaGreatDoor

/-
  The document's Decode and Encode: the loops.
-/
set_option linter.unusedVariables false
set_option linter.unusedSimpArgs false
namespace Go.Proofs.YtfpodnaaappocaaGreatDoor
open Go.RowKit Go.Shelf
namespace Tg
open Oc

theorem vals_le {a b : UInt8} (pre : List Sg) (x : Sg) (hz : x.z = [37, a, b]) : valS x = [byteOf a b] := by unfold valS; rw [hz]

set_option maxRecDepth 100000 in
set_option maxHeartbeats 4000000 in
theorem rDecode_any (s : ByteArray) (hs : s.size ≤ 40000000000) (w : World) :
    Calls Tryz.prog 14 #[.string s] w fun e w' => e = .returned (.tuple #[.string (str (decR s.data.toList).1), .int .i64 ((decR s.data.toList).2.1 : Int), .int .i64 (decR s.data.toList).2.2]) ∧ Below w.heap.size w w' := by
  have HN : Hid (_) := Ow.none w
  have HT : Hid (∀ k, k ≤ s.size → ∀ w, _) := fun k hk w => triple_any s (by omega) k hk w
  have HS : Hid (∀ k, k + 2 < s.size → trip (s.data.toList.drop k) = true → ∀ w, _) := fun k h1 h2 w => says_any s (by omega) k h1 h2 w
  go_enter Tryz.func14, Tryz.ntmps14
  go_wp2
  go_loopw [5, 6] (fun ov i wr => ∃ k : Nat, k ≤ s.size ∧ i = .int .i64 k ∧ ∃ pre, Hid (pre ++ sg k (s.data.toList.drop k) = sg 0 s.data.toList) ∧ Hid (pre.length ≤ k) ∧ Hid (∀ y ∈ pre, bad y = false) ∧ Hid (Ow w.heap.size ov (pre.flatMap valS) wr) ∧ Hid (Below w.heap.size w wr)) (fun _ i _ => s.size - (intOf i).toNat)
  case atStart => exact ⟨0, Nat.zero_le _, rfl, [], (rfl : [] ++ sg 0 (s.data.toList.drop 0) = _), (Nat.le_refl 0 : _ ≤ 0), (show ∀ y ∈ ([] : List Sg), bad y = false from fun y hy => nomatch hy), HN.out, (Below.refl _ w).alloc (Nat.le_refl _) _⟩
  case round =>
    rename_i ov
    obtain ⟨k, hk, rfl, pre, hpre, hpl, hgood, hown, hbl⟩ := hrel
    have hsz := hbl.out.size
    by_cases hlt : k < s.size
    · have h0 : ((s[k].toNat : Nat) : Int) = ((s.data.toList.getD k 0).toNat : Int) := by rw [getD_of s k hlt]
      have hvl : (pre.flatMap valS).length + 1 ≤ 140737488355328 := by rw [vals_len]; have := hpl.out; omega
      by_cases hp : s.data.toList.getD k 0 = 37
      · have hp2 : (((s.data.toList.getD k 0).toNat : Int) == 37) = true := by rw [hp]; rfl
        rw [hp] at h0
        cases ht : trip (s.data.toList.drop k) with
        | true =>
          obtain ⟨x, hx, hxa, hxz, hk3⟩ := nxt3 s k ht
          have HS' : Hid (∀ w, _) := HS.out k hk3 ht
          have HT' : Hid (∀ w, _) := HT.out k hk
          rw [ht] at HT'
          have hv := vals_le pre x hxz
          have hbx : bad x = false := by unfold bad; rw [hxz]; rfl
          generalize byteOf (s.data.toList.getD (k + 1) 0) (s.data.toList.getD (k + 2) 0) = u at *
          have HV : Hid (_) := hv
          have HX : Hid (_) := hx
          have HVL : Hid (_) := hvl
          clear hv hx hxz ht hp hp2 hvl
          go_wp2_with (first | (go_at_call 26; refine (HT'.out _).mono ?_; rintro e w1 ⟨rfl, rfl⟩) | (go_at_call 27; refine (HS'.out _).mono ?_; rintro e w1 ⟨rfl, rfl⟩) | (at_builtin; go_must (refine wp_ap rfl (.tmp 21) (.tmp 25) rfl w.heap.size _ (pre.flatMap valS) [u] _ _ rfl rfl hown.out rfl HVL.out hsz ?_); intro v' w' o1 o2))
          go_roundw
          case rel => exact ⟨k + 3, by omega, by go_num, pre ++ [x], (by rw [List.append_assoc]; exact (congrArg (pre ++ ·) HX.out).symm.trans hpre.out : (pre ++ [x]) ++ sg (k + 3) (s.data.toList.drop (k + 3)) = _), (by have := hpl.out; rw [List.length_append, List.length_singleton]; omega : (pre ++ [x]).length ≤ k + 3), (by intro y hy; rcases List.mem_append.1 hy with h | h; exact hgood.out y h; simp at h; subst h; exact hbx : ∀ y ∈ pre ++ [x], _), (by rw [List.flatMap_append, List.flatMap_cons, HV.out]; exact o1 : Ow _ _ _ _), hbl.out.trans o2⟩
          case measure => simp [intOf]; omega
        | false =>
          obtain ⟨x, hx, hxa, hxz⟩ := nxt1 s k hlt ht
          have HT' : Hid (∀ w, _) := HT.out k hk
          rw [ht] at HT'
          rw [hp] at hxz
          have hbx : bad x = true := by unfold bad; rw [hxz]; rfl
          have HR : Hid (_) := decR_at s.data.toList pre x (sg (k + 1) (s.data.toList.drop (k + 1))) (by rw [List.append_assoc]; exact (congrArg (pre ++ ·) hx).symm.trans hpre.out) hgood.out hbx
          rw [hxa] at HR
          clear hx hxz ht hp hp2 hvl
          go_wp2_with (go_at_call 26; refine (HT'.out _).mono ?_; rintro e w1 ⟨rfl, rfl⟩)
          go_ret3
          exact ⟨by rw [HR.out]; rfl, hbl.out⟩
      · have hp2 : (((s.data.toList.getD k 0).toNat : Int) == 37) = false := by
          rw [beq_eq_false_iff_ne]
          intro e
          exact hp (UInt8.toNat_inj.1 (by show _ = 37; omega))
        have ht : trip (s.data.toList.drop k) = false := by rw [drop_cons s k hlt]; exact trip_ne hp _
        obtain ⟨x, hx, hxa, hxz⟩ := nxt1 s k hlt ht
        have hv := valS_one hxz
        have hbx : bad x = false := by unfold bad; rw [hxz, beq_eq_false_iff_ne]; intro e; injection e with e; exact hp e
        generalize s.data.toList.getD k 0 = u at *
        have HV : Hid (_) := hv
        have HX : Hid (_) := hx
        have HVL : Hid (_) := hvl
        clear hv hx hxz ht hp hvl
        go_wp2_with (at_builtin; go_must (refine wp_ap rfl (.tmp 29) (.tmp 33) rfl w.heap.size _ (pre.flatMap valS) [u] _ _ rfl rfl hown.out rfl HVL.out hsz ?_); intro v' w' o1 o2)
        go_roundw
        case rel => exact ⟨k + 1, by omega, by go_num, pre ++ [x], (by rw [List.append_assoc]; exact (congrArg (pre ++ ·) HX.out).symm.trans hpre.out : (pre ++ [x]) ++ sg (k + 1) (s.data.toList.drop (k + 1)) = _), (by have := hpl.out; rw [List.length_append, List.length_singleton]; omega : (pre ++ [x]).length ≤ k + 1), (by intro y hy; rcases List.mem_append.1 hy with h | h; exact hgood.out y h; simp at h; subst h; exact hbx : ∀ y ∈ pre ++ [x], _), (by rw [List.flatMap_append, List.flatMap_cons, HV.out]; exact o1 : Ow _ _ _ _), hbl.out.trans o2⟩
        case measure => simp [intOf]; omega
    · obtain rfl : k = s.size := by omega
      have hfin : pre = sg 0 s.data.toList := by
        have := hpre.out
        rw [List.drop_of_length_le (by rw [size_list]; exact Nat.le_refl _), sg_nil, List.append_nil] at this
        exact this
      have hback := hown.out.back
      have HR : Hid (_) := decR_all s.data.toList (by rw [← hfin]; exact hgood.out)
      rw [← hfin] at HR
      generalize pre.flatMap valS = out at *
      clear hfin
      go_wp2
      go_ret3
      exact ⟨by rw [HR.out]; rfl, hbl.out⟩

end Tg
end Go.Proofs.YtfpodnaaappocaaGreatDoor
