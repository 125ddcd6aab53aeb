/-
  target: Path; the document's Path.
-/
import Derived.Test.YtodgpcohdaejkabDoorGSg
import Derived.Test.YtodgpcohdaejkabDoorGEnc
set_option linter.unusedVariables false
set_option linter.unusedSimpArgs false
namespace Go.Proofs.YtodgpcohdaejkabDoor
open Go.RowKit Go.Shelf
namespace Tg
open Oc

theorem encs_take (t : List (List UInt8)) (k : Nat) (h : k < t.length) : joinS ((t.take (k + 1)).map enc) = joinS ((t.take k).map enc) ++ [47] ++ enc (t.getD k []) := by
  rw [List.take_succ_eq_append_getElem h, List.map_append, join_app, List.getD_eq_getElem?_getD, List.getElem?_eq_getElem h]
  simp [joinS]
def sumT (t : List (List UInt8)) : Nat := (t.map List.length).sum
theorem sumT_take (t : List (List UInt8)) (k : Nat) : sumT (t.take k) ≤ sumT t := by
  unfold sumT
  conv => rhs; rw [← List.take_append_drop k t]
  rw [List.map_append, List.sum_append]
  omega
theorem joinE_len (t : List (List UInt8)) : (joinS (t.map enc)).length ≤ t.length + 3 * sumT t := by
  induction t with
  | nil => simp [joinS, sumT]
  | cons z r ih =>
    have e : joinS ((z :: r).map enc) = 47 :: (enc z ++ joinS (r.map enc)) := by simp [joinS]
    rw [e, List.length_cons, List.length_append, List.length_cons]
    have h1 := enc_len z
    have h2 : sumT (z :: r) = z.length + sumT r := by simp [sumT]
    omega
theorem get_le (t : List (List UInt8)) (k : Nat) (h : k < t.length) : (t.getD k []).length ≤ sumT t := by
  have h1 : sumT (t.take (k + 1)) = sumT (t.take k) + (t.getD k []).length := by
    unfold sumT
    rw [List.take_succ_eq_append_getElem h, List.map_append, List.sum_append, List.getD_eq_getElem?_getD, List.getElem?_eq_getElem h]
    simp
  have h2 := sumT_take t (k + 1)
  omega
theorem RdS.lt {v : Value} {t : List (List UInt8)} {w : World} {g o c : Nat} (hv : v = .slice (some ⟨g, o, none⟩) t.length c) (h : RdS v t w) (h0 : 0 < t.length) : g < w.heap.size := by
  obtain ⟨a, c', e, h⟩ := h
  rw [hv] at e
  rcases h with h | ⟨g', o', e', _, hc⟩
  · rw [h] at h0; simp at h0
  · injection e with e1
    subst e1
    injection e' with e'
    injection e' with e1 e2
    subst e1
    exact cell_lt (hc 0 h0)

set_option maxRecDepth 100000 in
set_option maxHeartbeats 4000000 in
theorem Path_any (v : Value) (t : List (List UInt8)) (hb : t.length + sumT t ≤ 1048576) (w : World) (hr : RdS v t w) :
    Calls Tryd.prog 4 #[v] w fun e w' => e = .returned (.string (str (pathR t))) ∧ Below w.heap.size w w' := by
  obtain ⟨a, c, rfl, hcs⟩ := hr
  by_cases h0 : t = []
  · subst h0
    go_enter Tryd.func4, Tryd.ntmps4
    go_wp2
    go_ret
    exact ⟨rfl, Below.refl _ _⟩
  · have hl : 0 < t.length := List.length_pos_iff.2 h0
    obtain ⟨g, o, rfl, hcap, hcell⟩ : ∃ g o, a = some ⟨g, o, none⟩ ∧ t.length ≤ c ∧ ∀ j, j < t.length → w.cell? ⟨g, o + j, none⟩ = some (.string (str (t.getD j []))) := by
      rcases hcs with h | h
      · exact absurd h h0
      · exact h
    have hg : g < w.heap.size := cell_lt (hcell 0 hl)
    have HP : Hid (pathR t = joinS (t.map enc)) := by show _ = _; unfold pathR; rw [if_neg h0]
    have HC : Hid (∀ j, j < t.length → w.cell? ⟨g, o + j, none⟩ = some (.string (str (t.getD j [])))) := hcell
    have HBD : Hid (Bd (w.heap.size + 1) w.heap.size [] (w.alloc (.cells #[.pointer none, .slice none 0 0] 33))) := Bd.new w (w.heap.size + 1)
    have hne : ((t.length : Int) == 0) = false := by simp; omega
    clear hcs hcell h0
    go_enter Tryd.func4, Tryd.ntmps4
    go_wp2
    go_loopw [11] (fun i wr => ∃ k : Nat, k ≤ t.length ∧ i = .int .i64 k ∧ Hid (Bd (w.heap.size + 1) w.heap.size (Lib.byteCells (joinS ((t.take k).map enc))) wr) ∧ Hid (Below w.heap.size w wr) ∧ Hid (w.heap.size + 1 ≤ wr.heap.size)) (fun i _ => t.length - (intOf i).toNat)
    case atStart => exact ⟨0, Nat.zero_le _, rfl, HBD, (Below.refl _ w).alloc (Nat.le_refl _) _, (by simp : _ ≤ _)⟩
    case round =>
      obtain ⟨k, hk, rfl, hB, hW, hS⟩ := hrel
      by_cases hlt : k < t.length
      · have hce := (hW.out.cell (p := ⟨g, o + k, none⟩) hg).trans (HC.out k hlt)
        have HT : Hid (_) := encs_take t k hlt
        have hjl := joinE_len (t.take k)
        have hst := sumT_take t k
        have hgl := get_le t k hlt
        have HJ : Hid ((joinS ((t.take k).map enc)).length ≤ 4000000) := by show _ ≤ _; rw [List.length_take] at hjl; omega
        have hxs : (str (t.getD k [])).size ≤ 1048576 := by rw [str_size]; omega
        have HE : Hid (∀ W, Calls Tryd.prog 11 #[.string (str (t.getD k []))] W fun e W' => e = .returned (.string (str (enc (t.getD k [])))) ∧ Below W.heap.size W W') := fun W => by
          have := Encode_any (str (t.getD k [])) (by omega) W
          rw [str_list] at this
          exact this
        have hel := enc_len (t.getD k [])
        have hes : (str (enc (t.getD k []))).size ≤ 3145728 := by rw [str_size]; omega
        clear hjl hst hgl hel
        generalize t.getD k [] = z at *
        generalize str z = X at *
        go_wp2_with fail
        refine (WriteByte_bd _ _ _ _ _ hB.out (by rw [cells_len]; have := HJ.out; omega) hS.out).mono ?_
        rintro e w2 ⟨rfl, hB2, hF2⟩
        have HB2 : Hid (Bd (w.heap.size + 1) w.heap.size (Lib.byteCells (joinS ((t.take k).map enc)) ++ [.int .u8 47]) w2) := hB2
        have HF2 : Hid (_) := hF2
        clear hB2 hF2
        go_wp2_with fail
        refine (HE.out _).mono ?_
        rintro e w3 ⟨rfl, k3⟩
        have hs3 := k3.size
        have hs2 := HF2.out.size
        have hsw := hS.out
        have HB3 : Hid (Bd (w.heap.size + 1) w.heap.size (Lib.byteCells (joinS ((t.take k).map enc)) ++ [.int .u8 47]) w3) := HB2.out.below k3
        have HF3 : Hid (_) := HF2.out.trans (Fr.of_below k3 (by omega))
        clear k3
        go_wp2_with fail
        refine (WriteString_bd _ _ _ _ _ HB3.out (by rw [List.length_append, cells_len, List.length_singleton]; have := HJ.out; omega) (by omega)).mono ?_
        rintro e w4 ⟨rfl, hB4, hF4⟩
        have hF := HF3.out.trans hF4
        have HB4 : Hid (Bd (w.heap.size + 1) w.heap.size (Lib.byteCells (joinS ((t.take (k + 1)).map enc))) w4) := by
          show Bd _ _ _ _
          rw [HT.out, cells_app, cells_app, ← cells_str (enc z)]
          exact hB4
        have HW4 : Hid (Below w.heap.size w w4) := hW.out.trans (hF.below (by omega) (Nat.le_refl _))
        have HS4 : Hid (w.heap.size + 1 ≤ w4.heap.size) := Nat.le_trans hS.out hF.size
        clear hB4 hF4 hF
        go_wp2
        go_roundw
        case rel => exact ⟨k + 1, by omega, by go_num, HB4, HW4, HS4⟩
        case measure => simp [intOf]; omega
      · obtain rfl : k = t.length := by omega
        rw [List.take_length] at hB
        go_wp2_with fail
        refine (String_bd _ _ _ _ hB.out hS.out).mono ?_
        rintro e w2 ⟨rfl, hb2, _⟩
        go_wp2
        go_ret
        exact ⟨by rw [HP.out]; rfl, hW.out.trans (hb2.mono (by omega))⟩

end Tg
end Go.Proofs.YtodgpcohdaejkabDoor
