/- Several texts as one. -/
import Derived.Test.YtkpdaialfcegfaaDoorMgP
/-
  The document's Decode and Encode: the loops.
-/
set_option linter.unusedVariables false
set_option linter.unusedSimpArgs false
namespace Go.Proofs.YtkpdaialfcegfaaDoor
open Go.RowKit Go.Shelf
namespace Tg
open Oc

theorem vals_le {a b : UInt8} (pre : List Sg) (x : Sg) (hz : x.z = [37, a, b]) : valS x = [byteOf a b] := by unfold valS; rw [hz]

set_option maxRecDepth 100000 in
set_option maxHeartbeats 4000000 in
theorem rDecode_any (s : ByteArray) (hs : s.size ≤ 40000000000) (w : World) :
    Calls Tryd.prog 28 #[.string s] w fun e w' => e = .returned (.tuple #[.string (str (decR s.data.toList).1), .int .i64 ((decR s.data.toList).2.1 : Int), .int .i64 (decR s.data.toList).2.2]) ∧ Below w.heap.size w w' := by
  have HN : Hid (_) := Ow.none w
  have HT : Hid (∀ k, k ≤ s.size → ∀ w, _) := fun k hk w => triple_any s (by omega) k hk w
  have HS : Hid (∀ k, k + 2 < s.size → trip (s.data.toList.drop k) = true → ∀ w, _) := fun k h1 h2 w => says_any s (by omega) k h1 h2 w
  go_enter Tryd.func28, Tryd.ntmps28
  go_wp2
  go_loopw [5, 6] (fun ov i wr => ∃ k : Nat, k ≤ s.size ∧ i = .int .i64 k ∧ ∃ pre, Hid (pre ++ sg k (s.data.toList.drop k) = sg 0 s.data.toList) ∧ Hid (pre.length ≤ k) ∧ Hid (∀ y ∈ pre, bad y = false) ∧ Hid (Ow w.heap.size ov (pre.flatMap valS) wr) ∧ Hid (Below w.heap.size w wr)) (fun _ i _ => s.size - (intOf i).toNat)
  case atStart => exact ⟨0, Nat.zero_le _, rfl, [], (rfl : [] ++ sg 0 (s.data.toList.drop 0) = _), (Nat.le_refl 0 : _ ≤ 0), (show ∀ y ∈ ([] : List Sg), bad y = false from fun y hy => nomatch hy), HN.out, (Below.refl _ w).alloc (Nat.le_refl _) _⟩
  case round =>
    rename_i ov
    obtain ⟨k, hk, rfl, pre, hpre, hpl, hgood, hown, hbl⟩ := hrel
    have hsz := hbl.out.size
    by_cases hlt : k < s.size
    · have h0 : ((s[k].toNat : Nat) : Int) = ((s.data.toList.getD k 0).toNat : Int) := by rw [getD_of s k hlt]
      have hvl : (pre.flatMap valS).length + 1 ≤ 140737488355328 := by rw [vals_len]; have := hpl.out; omega
      by_cases hp : s.data.toList.getD k 0 = 37
      · have hp2 : (((s.data.toList.getD k 0).toNat : Int) == 37) = true := by rw [hp]; rfl
        rw [hp] at h0
        cases ht : trip (s.data.toList.drop k) with
        | true =>
          obtain ⟨x, hx, hxa, hxz, hk3⟩ := nxt3 s k ht
          have HS' : Hid (∀ w, _) := HS.out k hk3 ht
          have HT' : Hid (∀ w, _) := HT.out k hk
          rw [ht] at HT'
          have hv := vals_le pre x hxz
          have hbx : bad x = false := by unfold bad; rw [hxz]; rfl
          generalize byteOf (s.data.toList.getD (k + 1) 0) (s.data.toList.getD (k + 2) 0) = u at *
          have HV : Hid (_) := hv
          have HX : Hid (_) := hx
          have HVL : Hid (_) := hvl
          clear hv hx hxz ht hp hp2 hvl
          go_wp2_with (first | (go_at_call 67; refine (HT'.out _).mono ?_; rintro e w1 ⟨rfl, rfl⟩) | (go_at_call 68; refine (HS'.out _).mono ?_; rintro e w1 ⟨rfl, rfl⟩) | (at_builtin; go_must (refine wp_ap rfl (.tmp 21) (.tmp 25) rfl w.heap.size _ (pre.flatMap valS) [u] _ _ rfl rfl hown.out rfl HVL.out hsz ?_); intro v' w' o1 o2))
          go_roundw
          case rel => exact ⟨k + 3, by omega, by go_num, pre ++ [x], (by rw [List.append_assoc]; exact (congrArg (pre ++ ·) HX.out).symm.trans hpre.out : (pre ++ [x]) ++ sg (k + 3) (s.data.toList.drop (k + 3)) = _), (by have := hpl.out; rw [List.length_append, List.length_singleton]; omega : (pre ++ [x]).length ≤ k + 3), (by intro y hy; rcases List.mem_append.1 hy with h | h; exact hgood.out y h; simp at h; subst h; exact hbx : ∀ y ∈ pre ++ [x], _), (by rw [List.flatMap_append, List.flatMap_cons, HV.out]; exact o1 : Ow _ _ _ _), hbl.out.trans o2⟩
          case measure => simp [intOf]; omega
        | false =>
          obtain ⟨x, hx, hxa, hxz⟩ := nxt1 s k hlt ht
          have HT' : Hid (∀ w, _) := HT.out k hk
          rw [ht] at HT'
          rw [hp] at hxz
          have hbx : bad x = true := by unfold bad; rw [hxz]; rfl
          have HR : Hid (_) := decR_at s.data.toList pre x (sg (k + 1) (s.data.toList.drop (k + 1))) (by rw [List.append_assoc]; exact (congrArg (pre ++ ·) hx).symm.trans hpre.out) hgood.out hbx
          rw [hxa] at HR
          clear hx hxz ht hp hp2 hvl
          go_wp2_with (go_at_call 67; refine (HT'.out _).mono ?_; rintro e w1 ⟨rfl, rfl⟩)
          go_ret3
          exact ⟨by rw [HR.out]; rfl, hbl.out⟩
      · have hp2 : (((s.data.toList.getD k 0).toNat : Int) == 37) = false := by
          rw [beq_eq_false_iff_ne]
          intro e
          exact hp (UInt8.toNat_inj.1 (by show _ = 37; omega))
        have ht : trip (s.data.toList.drop k) = false := by rw [drop_cons s k hlt]; exact trip_ne hp _
        obtain ⟨x, hx, hxa, hxz⟩ := nxt1 s k hlt ht
        have hv := valS_one hxz
        have hbx : bad x = false := by unfold bad; rw [hxz, beq_eq_false_iff_ne]; intro e; injection e with e; exact hp e
        generalize s.data.toList.getD k 0 = u at *
        have HV : Hid (_) := hv
        have HX : Hid (_) := hx
        have HVL : Hid (_) := hvl
        clear hv hx hxz ht hp hvl
        go_wp2_with (at_builtin; go_must (refine wp_ap rfl (.tmp 29) (.tmp 33) rfl w.heap.size _ (pre.flatMap valS) [u] _ _ rfl rfl hown.out rfl HVL.out hsz ?_); intro v' w' o1 o2)
        go_roundw
        case rel => exact ⟨k + 1, by omega, by go_num, pre ++ [x], (by rw [List.append_assoc]; exact (congrArg (pre ++ ·) HX.out).symm.trans hpre.out : (pre ++ [x]) ++ sg (k + 1) (s.data.toList.drop (k + 1)) = _), (by have := hpl.out; rw [List.length_append, List.length_singleton]; omega : (pre ++ [x]).length ≤ k + 1), (by intro y hy; rcases List.mem_append.1 hy with h | h; exact hgood.out y h; simp at h; subst h; exact hbx : ∀ y ∈ pre ++ [x], _), (by rw [List.flatMap_append, List.flatMap_cons, HV.out]; exact o1 : Ow _ _ _ _), hbl.out.trans o2⟩
        case measure => simp [intOf]; omega
    · obtain rfl : k = s.size := by omega
      have hfin : pre = sg 0 s.data.toList := by
        have := hpre.out
        rw [List.drop_of_length_le (by rw [size_list]; exact Nat.le_refl _), sg_nil, List.append_nil] at this
        exact this
      have hback := hown.out.back
      have HR : Hid (_) := decR_all s.data.toList (by rw [← hfin]; exact hgood.out)
      rw [← hfin] at HR
      generalize pre.flatMap valS = out at *
      clear hfin
      go_wp2
      go_ret3
      exact ⟨by rw [HR.out]; rfl, hbl.out⟩

end Tg
end Go.Proofs.YtkpdaialfcegfaaDoor

/-
  The document's scan, IsPath, plain.
-/
set_option linter.unusedVariables false
set_option linter.unusedSimpArgs false
namespace Go.Proofs.YtkpdaialfcegfaaDoor
open Go.RowKit Go.Shelf
namespace Tg
open Oc

def incol (c : UInt8) : Bool := (⟨#[58, 64]⟩ : ByteArray).data.toList.contains c
def inmore (more : ByteArray) (c : UInt8) : Bool := more.data.toList.contains c

theorem path_more : ∀ c, pathOk c = (unr c || (sub c || (incol c || inmore ⟨#[47]⟩ c))) := by
  have h : ∀ n : Nat, n < 256 → pathOk (UInt8.ofNat n) = (unr (UInt8.ofNat n) || (sub (UInt8.ofNat n) || (incol (UInt8.ofNat n) || inmore ⟨#[47]⟩ (UInt8.ofNat n)))) := by decide +kernel
  intro c
  have := h c.toNat c.toNat_lt
  simpa using this
theorem query_more : ∀ c, queryOk c = (unr c || (sub c || (incol c || inmore ⟨#[47, 63]⟩ c))) := by
  have h : ∀ n : Nat, n < 256 → queryOk (UInt8.ofNat n) = (unr (UInt8.ofNat n) || (sub (UInt8.ofNat n) || (incol (UInt8.ofNat n) || inmore ⟨#[47, 63]⟩ (UInt8.ofNat n)))) := by decide +kernel
  intro c
  have := h c.toNat c.toNat_lt
  simpa using this

end Tg
end Go.Proofs.YtkpdaialfcegfaaDoor
