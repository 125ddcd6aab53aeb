/-
  base.Unhex.
-/
import Derived.Test.YtcnjnlmjgbmjnaaBEnc2
set_option linter.unusedVariables false
set_option linter.unusedSimpArgs false
namespace Go.Proofs.Ytcnjnlmjgbmjnaa
open Go.RowKit
namespace Bs

/-- A row of bytes in a block: its first n cells hold f, and may be written. -/
structure Row (w : World) (b n : Nat) (f : Nat → Int) : Prop where
  cell : ∀ j, j < n → w.cell? ⟨b, j, none⟩ = some (.int .u8 (f j))
  free : ∀ j, j < n → w.frozen? ⟨b, j, none⟩ = false
theorem Row.set {w : World} {b n : Nat} {f : Nat → Int} (r : Row w b n f) (k : Nat) (hk : k < n) (v : Int) (g : Nat → Int) (hg : ∀ j, j < n → g j = if j = k then v else f j) : Row (w.setCell ⟨b, k, none⟩ (.int .u8 v)) b n g := by
  refine ⟨fun j hj => ?_, fun j hj => by rw [World.frozen?_setCell]; exact r.free j hj⟩
  rw [hg j hj]
  by_cases h : j = k
  · subst h
    rw [if_pos rfl]
    exact World.cell?_setCell_same w _ _ (r.cell j hj)
  · rw [if_neg h, World.cell?_setCell_other w _ _ _ (by intro e; injection e with _ e2; omega)]
    exact r.cell j hj
theorem Row.rd {w : World} {b n : Nat} {f : Nat → Int} (r : Row w b n f) (cap : Nat) (hc : n ≤ cap) (l : List UInt8) (hn : l.length = n) (hl : ∀ j, j < n → f j = ((l.getD j 0).toNat : Int)) : RdB w (.slice (some ⟨b, 0, none⟩) n cap) l := by
  subst hn
  refine ⟨_, cap, rfl, hc, (fun e => by cases e), .inr ⟨b, 0, rfl, fun j x hj => ?_⟩⟩
  have hj' := (List.getElem?_eq_some_iff.1 hj).1
  rw [Nat.zero_add, r.cell j hj', hl j hj', List.getD_eq_getElem?_getD, hj]
  rfl
theorem made_row (w : World) (n : Nat) : Row (w.alloc (.cells (bv (List.replicate n 0)).toArray 5 (0, 0))) w.heap.size n (fun _ => 0) := by
  have h2 := heap_alloc_new w (.cells (bv (List.replicate n 0)).toArray 5 (0, 0))
  refine ⟨fun j hj => ?_, fun j hj => frozen_of_row _ _ j _ _ h2⟩
  rw [cell_of_row _ _ _ _ _ _ h2]
  rw [List.getElem?_toArray, bv_get, List.getElem?_replicate, if_pos hj]
  rfl

def hd (l : List UInt8) (j : Nat) : Nat := (hv (l.getD j 0)).toNat
/-- What stands at j behind k digits. -/
def pv (l : List UInt8) (k j : Nat) : Int := if 2 * j + 1 < k then ((hd l (2 * j) * 16 + hd l (2 * j + 1) : Nat) : Int) else if 2 * j < k then (hd l (2 * j) : Int) else 0
theorem hd_lt (l : List UInt8) (j : Nat) : hd l j < 16 := by have := hv_bd (l.getD j 0); unfold hd; omega
theorem prs_length : ∀ l : List UInt8, (prs l).length = l.length / 2
  | [] => by simp [prs]
  | [a] => by simp [prs]
  | a :: b :: r => by
    unfold prs
    simp only [List.length_cons]
    rw [prs_length r]
    omega
theorem prs_get : ∀ (l : List UInt8) (j : Nat), 2 * j + 1 < l.length → (prs l).getD j 0 = UInt8.ofNat (hd l (2 * j) * 16 + hd l (2 * j + 1))
  | [], j, h => by simp at h
  | [a], j, h => by simp at h
  | a :: b :: r, 0, h => rfl
  | a :: b :: r, j + 1, h => by
    have := prs_get r j (by simp at h; omega)
    unfold prs
    rw [List.getD_cons_succ, this]
    unfold hd
    rw [show 2 * (j + 1) = 2 * j + 1 + 1 by omega, List.getD_cons_succ, List.getD_cons_succ, List.getD_cons_succ, List.getD_cons_succ]
theorem pv_end (l : List UInt8) (he : l.length % 2 = 0) (j : Nat) (hj : j < l.length / 2) : pv l l.length j = (((prs l).getD j 0).toNat : Int) := by
  have h1 := hd_lt l (2 * j)
  have h2 := hd_lt l (2 * j + 1)
  unfold pv
  rw [if_pos (by omega), prs_get l j (by omega), ofNat_lt (by omega)]
theorem pv_step (l : List UInt8) (k : Nat) (hk : k < l.length) (h : 0 ≤ hv (l.getD k 0)) : bits .or .u8 (pv l k (k / 2) * 16 % 256) (hv (l.getD k 0)) = pv l (k + 1) (k / 2) := by
  have hb := hv_bd (l.getD k 0)
  have he : hv (l.getD k 0) = (hd l k : Int) := by unfold hd; omega
  rw [he]
  have h2 := hd_lt l k
  rcases Nat.mod_two_eq_zero_or_one k with hm | hm
  · unfold pv
    rw [if_neg (by omega), if_neg (by omega), if_neg (by omega), if_pos (by omega), show 2 * (k / 2) = k by omega]
    rw [show (0 : Int) * 16 % 256 = 0 by decide]
    have := bits_join .u8 8 (by decide) wraps_u8 8 0 (hd l k : Int) (by decide) (by decide) (by decide) (by omega) (by omega) (by omega)
    rw [this]
    omega
  · have h1 := hd_lt l (k - 1)
    unfold pv
    rw [if_neg (by omega), if_pos (by omega), if_pos (by omega), show 2 * (k / 2) = k - 1 by omega, show k - 1 + 1 = k by omega]
    rw [show ((hd l (k - 1) : Int) * 16 % 256) = (hd l (k - 1) : Int) * 16 by omega]
    have := bits_join .u8 8 (by decide) wraps_u8 4 ((hd l (k - 1) : Int) * 16) (hd l k : Int) (by omega) (by omega) (by omega) (by omega) (by omega) (by omega)
    rw [this]
    omega
theorem pv_else (l : List UInt8) (k j : Nat) (hj : j ≠ k / 2) : pv l (k + 1) j = pv l k j := by
  unfold pv
  by_cases h1 : 2 * j + 1 < k
  · rw [if_pos h1, if_pos (by omega)]
  · rw [if_neg h1, if_neg (by omega)]
    by_cases h2 : 2 * j < k
    · omega
    · rw [if_neg h2, if_neg (by omega)]
theorem pv_bd (l : List UInt8) (k j : Nat) : 0 ≤ pv l k j ∧ pv l k j ≤ 255 := by
  have h1 := hd_lt l (2 * j)
  have h2 := hd_lt l (2 * j + 1)
  unfold pv
  (repeat' split) <;> omega

set_option maxRecDepth 100000 in
set_option maxHeartbeats 1000000 in
theorem Unhex_any (l : List UInt8) (hl : l.length ≤ 140737488355328) (w : World) :
    Calls Try.prog 10 #[.string (str l)] w fun e w' => e = .returned (.tuple #[.string (str (unhexR l).1), .int .i64 (unhexR l).2.1, .int .i64 (unhexR l).2.2]) ∧ Below w.heap.size w w' := by
  have hs : (str l).size = l.length := str_size l
  have hby : ∀ (k : Nat) (h : k < (str l).size), ((str l)[k]'h) = l.getD k 0 := fun k h => by rw [← at_lt _ k h, str_list]
  have hmk := run_mkB w ((l.length + 1) / 2) (by omega)
  rw [show (((l.length + 1) / 2 : Nat) : Int) = (((l.length : Nat) : Int) + 1) / 2 by omega] at hmk
  have HR0 : Hid (Row (w.alloc (.cells (bv (List.replicate ((l.length + 1) / 2) 0)).toArray 5 (0, 0))) w.heap.size ((l.length + 1) / 2) (fun _ => 0)) := made_row w _
  generalize hn : (l.length + 1) / 2 = n at *
  go_enter Try.func10, Try.ntmps10
  go_wp2
  go_loopw [15] (fun i wr => ∃ k : Nat, k ≤ l.length ∧ i = .int .i64 k ∧ Hid (∀ j, j < k → 0 ≤ hv (l.getD j 0)) ∧ Hid (Row wr w.heap.size n (pv l k)) ∧ Hid (Below w.heap.size w wr)) (fun i _ => l.length - (intOf i).toNat)
  case atStart => exact ⟨0, by omega, rfl, (fun j hj => by omega), (by have := HR0.out; refine ⟨fun j hj => ?_, this.free⟩; rw [this.cell j hj]; unfold pv; rw [if_neg (by omega), if_neg (by omega)] : Row _ w.heap.size n (pv l 0)), (Below.refl _ w).alloc (Nat.le_refl _) _⟩
  case round =>
    obtain ⟨k, hk, rfl, HK, HR, HB⟩ := hrel
    by_cases hlt : k < l.length
    · have hbk := hby k
      clear hby
      by_cases hneg : hv (l.getD k 0) < 0
      · have HU : Hid (unhexR l = ([], (k : Int), 31)) := unhexR_bad l k hlt HK.out hneg
        generalize l.getD k 0 = u at *
        go_wp2_with fail
        refine (IndexByte_any _ _ _).mono ?_
        rintro e w2 ⟨rfl, hw2⟩
        rw [hw2, u8_back, idx_digits]
        clear hw2 w2
        go_wp2
        go_ret3
        rw [HU.out]
        exact ⟨rfl, HB.out⟩
      · have HS : Hid (bits .or .u8 (pv l k (k / 2) * 16 % 256) (hv (l.getD k 0)) = pv l (k + 1) (k / 2)) := pv_step l k hlt (by omega)
        have HP : Hid (0 ≤ hv (l.getD k 0)) := (by omega : 0 ≤ hv (l.getD k 0))
        have HK2 : Hid (∀ j, j < k + 1 → 0 ≤ hv (l.getD j 0)) := fun j hj => by
          by_cases e : j = k
          · subst e; omega
          · exact HK.out j (by omega)
        have hbd := hv_bd (l.getD k 0)
        have hpb := pv_bd l k (k / 2)
        have hq : k / 2 < n := by omega
        have hck := HR.out.cell (k / 2) hq
        have hfk := HR.out.free (k / 2) hq
        have hki : ((k : Nat) : Int) / 2 = ((k / 2 : Nat) : Int) := by omega
        have HN : Hid (Row (wr.setCell ⟨w.heap.size, k / 2, none⟩ (.int .u8 (pv l (k + 1) (k / 2)))) w.heap.size n (pv l (k + 1))) := HR.out.set (k / 2) hq _ _ (fun j hj => by
          by_cases e : j = k / 2
          · rw [if_pos e, e]
          · rw [if_neg e]; exact pv_else l k j e)
        generalize pv l (k + 1) (k / 2) = P1 at *
        generalize pv l k (k / 2) = P0 at *
        generalize hqq : k / 2 = q at *
        have HQ : Hid (k / 2 = q) := hqq
        clear hqq
        generalize l.getD k 0 = u at *
        have hn0 : 0 < n := by omega
        go_wp2_with fail
        refine (IndexByte_any _ _ _).mono ?_
        rintro e w2 ⟨rfl, hw2⟩
        rw [hw2, u8_back, idx_digits]
        clear hw2 w2
        generalize hv u = V at *
        go_wp2
        rw [HS.out]
        exact ⟨⟨k + 1, by omega, by go_num, HK2.out, HN.out, HB.out.setCell (Nat.le_refl _) _⟩, by simp [intOf]; omega⟩
    · obtain rfl : k = l.length := by omega
      clear hby
      have hmi : ((l.length : Nat) : Int) % 2 = ((l.length % 2 : Nat) : Int) := by omega
      rcases Nat.mod_two_eq_zero_or_one l.length with hm | hm
      · have HU : Hid (unhexR l = (prs l, 0, 0)) := unhexR_ok l HK.out hm
        have hbk := back wr _ _ (HR.out.rd n (Nat.le_refl _) (prs l) (by rw [prs_length]; omega) (fun j hj => pv_end l hm j (by omega)))
        rw [hm] at hmi
        go_wp2
        go_ret3
        rw [HU.out]
        exact ⟨rfl, HB.out⟩
      · have HU : Hid (unhexR l = ([], (l.length : Int), 31)) := unhexR_odd l HK.out hm
        rw [hm] at hmi
        go_wp2
        go_ret3
        rw [HU.out]
        exact ⟨rfl, HB.out⟩

end Bs
end Go.Proofs.Ytcnjnlmjgbmjnaa
