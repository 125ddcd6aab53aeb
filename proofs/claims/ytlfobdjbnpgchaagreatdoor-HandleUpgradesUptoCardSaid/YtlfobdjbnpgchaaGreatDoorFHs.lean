/-
  Has, and the document's.
-/
import Derived.Test.YtlfobdjbnpgchaaGreatDoorMgP
import Derived.Lib.SlicesS
set_option linter.unusedVariables false
set_option linter.unusedSimpArgs false
namespace Go.Proofs.YtlfobdjbnpgchaaGreatDoor
open Go.RowKit Go.Shelf
namespace Fd
open Oc Tg

theorem contains_eq (L : List (List UInt8)) (x : List UInt8) : Lib.containsS (L.map str) (str x) = inL L x := by
  rw [Bool.eq_iff_iff, Lib.containsS_iff]
  unfold inL
  rw [List.contains_iff_mem]
  constructor
  · intro h
    obtain ⟨y, hy, e⟩ := List.mem_map.1 h
    rw [← str_inj e]
    exact hy
  · intro h
    exact List.mem_map.2 ⟨x, h, rfl⟩

set_option maxRecDepth 100000 in
set_option maxHeartbeats 1000000 in
theorem contains_nil (a : Option Addr) (c : Nat) (x : ByteArray) (w : World) :
    Calls Tryz.prog 160 #[.slice a 0 c, .string x] w fun e w' => e = .returned (.bool false) ∧ w' = w := by
  have HI : Hid (∀ w, Calls Tryz.prog 216 #[.slice a 0 c, .string x] w fun e w' => e = .returned (.int .i64 (-1)) ∧ w' = w) := fun w => by
    go_enter Tryz.func216, Tryz.ntmps216
    go_wp2
    refine wp_loop_rounds 1 ?_
    rw [rounds_succ]
    go_wp2
    go_ret
    exact ⟨rfl, rfl⟩
  go_enter Tryz.func160, Tryz.ntmps160
  go_wp2_with fail
  refine (HI.out _).mono ?_
  rintro e w2 ⟨rfl, rfl⟩
  go_wp2
  go_ret
  exact ⟨rfl, rfl⟩

theorem Contains_any (v : Value) (L : List (List UInt8)) (x : List UInt8) (hl : L.length ≤ 1048576) (w : World) (h : RdS v L w) :
    Calls Tryz.prog 160 #[v, .string (str x)] w fun e w' => e = .returned (.bool (inL L x)) ∧ w' = w := by
  obtain ⟨a, c, rfl, h⟩ := h
  by_cases h0 : L = []
  · subst h0
    exact contains_nil a c _ w
  · rcases h with h | ⟨g, o, rfl, hc, hcell⟩
    · exact absurd h h0
    · have h := Tryz.slices_Contains_string g o L.length c (L.map str) (str x) w (by simp) (by omega) (fun j hj => by
        rw [List.length_map] at hj
        rw [hcell j hj, List.getD_eq_getElem?_getD, List.getD_eq_getElem?_getD, List.getElem?_map, List.getElem?_eq_getElem hj]
        rfl)
      rw [List.take_of_length_le (by simp), contains_eq] at h
      exact h

def hasF (s : List UInt8) (t : List Fl) (k : List UInt8) : Bool := decide ((tokensF s t).2 = 0) && inL (tokensF s t).1 (lower k)
theorem tokens_len {t : List Fl} (hS : sumF t ≤ 1048576) (s : List UInt8) : (tokensF s t).1.length ≤ 1048576 := by
  have hv := sumV_filter s t
  have hll := listV_len (vals s t) []
  unfold tokensF tokV
  split
  · split
    · rw [List.length_map]
      unfold listF
      simp at hll
      omega
    · simp
  · simp

set_option maxRecDepth 100000 in
set_option maxHeartbeats 1000000 in
theorem Has_any (v : Value) (t : List Fl) (s k : List UInt8) (hs : s.length ≤ 1048576) (hk : k.length ≤ 1048576) (hS : sumF t ≤ 1048576) (w : World) (hrd : RdF v t w) (tab : Tab w) :
    Calls Tryz.prog 116 #[v, .string (str s), .string (str k)] w fun e w' => e = .returned (.bool (hasF s t k)) ∧ Below w.heap.size w w' := by
  have HT : Hid (Calls _ _ _ _ _) := Tokens6_any v t s hs hS w hrd tab
  have HLo : Hid (∀ w, Calls Tryz.prog 161 #[.string (str k)] w fun e w' => e = .returned (.string (str (lower k))) ∧ Below w.heap.size w w') := fun w => by
    have h := Lower_any (str k) (by rw [str_size]; unfold maxLen; omega) w
    rw [lowS_str] at h
    exact h
  have hl := tokens_len hS s
  have HC : Hid (∀ u w, RdS u (tokensF s t).1 w → Calls Tryz.prog 160 #[u, .string (str (lower k))] w fun e w' => e = .returned (.bool (inL (tokensF s t).1 (lower k))) ∧ w' = w) := fun u w h => Contains_any u _ _ hl w h
  unfold hasF
  obtain ⟨a, c, rfl, _⟩ := hrd
  clear hs hk tab
  generalize (tokensF s t).1 = L at *
  generalize (tokensF s t).2 = z at *
  generalize inL L (lower k) = b at *
  generalize str (lower k) = K at *
  generalize str s = S at *
  generalize str k = K0 at *
  by_cases hz : z = 0
  · subst hz
    go_enter Tryz.func116, Tryz.ntmps116
    go_wp2_with fail
    refine HT.out.mono ?_
    rintro e w1 ⟨u, rfl, ho, hb1⟩
    have HB1 : Hid (Below w.heap.size w w1) := hb1
    have HR : Hid (RdS u L w1) := ho.rd
    clear ho hb1
    go_wp2_with fail
    refine (HLo.out _).mono ?_
    rintro e w2 ⟨rfl, hb2⟩
    have HB2 : Hid (Below w.heap.size w w2) := bel_trans HB1.out hb2
    have HR2 : Hid (RdS u L w2) := HR.out.below hb2
    clear hb2
    go_wp2_with fail
    refine (HC.out _ _ HR2.out).mono ?_
    rintro e w3 ⟨rfl, rfl⟩
    go_wp2
    go_ret
    exact ⟨ret_bool (by simp), HB2.out⟩
  · have hzq : (z == 0) = false := by simp [hz]
    have HZ : Hid (decide (z = 0) = false) := decide_eq_false hz
    go_enter Tryz.func116, Tryz.ntmps116
    go_wp2_with fail
    refine HT.out.mono ?_
    rintro e w1 ⟨u, rfl, ho, hb1⟩
    go_wp2
    go_ret
    exact ⟨ret_bool (by first | rfl | (rw [HZ.out]; rfl)), hb1⟩

end Fd
end Go.Proofs.YtlfobdjbnpgchaaGreatDoor
