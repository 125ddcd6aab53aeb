/- Several texts as one. -/
import Derived.Test.YtkpdaialfcegfaaDoorMgP
import Derived.Test.YtkpdaialfcegfaaDoorMgQ
import Derived.Test.YtkpdaialfcegfaaDoorMgR
import Derived.Test.YtkpdaialfcegfaaDoorMgC
import Derived.Test.YtkpdaialfcegfaaDoorMgN
import Derived.Test.YtkpdaialfcegfaaDoorMgI
/-
  The document's spaced, Pairs, Query.
-/
set_option linter.unusedVariables false
set_option linter.unusedSimpArgs false
namespace Go.Proofs.YtkpdaialfcegfaaDoor
open Go.RowKit Go.Shelf
namespace Tg
open Oc

def spI (x : Int) : Int := if x = 43 then 32 else x
theorem sp_getD (l : List UInt8) (j : Nat) (hj : j < l.length) : (((l.map sp).getD j 0).toNat : Int) = spI ((l.getD j 0).toNat : Int) := by
  rw [List.getD_eq_getElem?_getD, List.getElem?_map, List.getElem?_eq_getElem hj, List.getD_eq_getElem?_getD, List.getElem?_eq_getElem hj]
  show ((sp l[j]).toNat : Int) = spI (l[j].toNat : Int)
  unfold sp spI
  by_cases h : l[j] = 43
  · rw [if_pos h, if_pos (by rw [h]; rfl)]; rfl
  · rw [if_neg h, if_neg (fun e => h (UInt8.toNat_inj.1 (by show _ = 43; omega)))]

set_option maxRecDepth 100000 in
set_option maxHeartbeats 1000000 in
theorem rspaced_any (s : ByteArray) (hs : s.size ≤ 4000000000) (w : World) :
    Calls Tryd.prog 71 #[.string s] w fun e w' => e = .returned (.string (str (spd s.data.toList))) ∧ Below w.heap.size w w' := by
  have hcv := fun w => Lib.run_convert_string_bytes (P := Tryd.prog) w 9 61 5 s Tryd.underlying9 Tryd.underlying61 Tryd.underlying5
  have hb := below_bytes w 5 s
  have hr := bytes_row w 5 s
  have HD : Hid (∀ w, _) := fun w => rDecode_any (str (s.data.toList.map sp)) (by rw [str_size, List.length_map, size_list]; omega) w
  rw [str_list] at HD
  unfold spd
  generalize decR (s.data.toList.map sp) = D at *
  obtain ⟨D1, D2, D3⟩ := D
  dsimp only at HD ⊢
  go_enter Tryd.func71, Tryd.ntmps71
  go_wp2
  go_loopw [4] (fun i wr => ∃ k : Nat, k ≤ s.size ∧ i = .int .i64 k ∧ Hid (Row wr w.heap.size s.size (fun j => if j < k then spI (byt s j) else byt s j)) ∧ Hid (Below w.heap.size w wr)) (fun i _ => s.size - (intOf i).toNat)
  case atStart => exact ⟨0, Nat.zero_le _, rfl, (by simpa using hr : Row _ _ _ _), hb⟩
  case round =>
    obtain ⟨k, hk, rfl, hrow, hbel⟩ := hrel
    clear hr hb hcv
    by_cases hlt : k < s.size
    · have hck : wr.cell? ⟨w.heap.size, k, none⟩ = some (.int .u8 (byt s k)) := by
        have := hrow.out.cell k hlt
        rwa [if_neg (by omega)] at this
      have hfk := hrow.out.free k hlt
      obtain ⟨b0, b1⟩ := byt_bd s k
      have HN : Hid (∀ j, j < s.size → (if j < k + 1 then spI (byt s j) else byt s j) = if j = k then spI (byt s k) else if j < k then spI (byt s j) else byt s j) := by
        intro j hj
        by_cases hjk : j = k
        · subst hjk; rw [if_pos (by omega), if_pos rfl]
        · rw [if_neg hjk]
          by_cases h2 : j < k
          · rw [if_pos (by omega), if_pos h2]
          · rw [if_neg (by omega), if_neg h2]
      by_cases hup : byt s k = 43
      · have E1 : Hid (spI (byt s k) = 32) := (by unfold spI; rw [if_pos hup] : spI (byt s k) = 32)
        have hq : (byt s k == 43) = true := by simp [hup]
        clear hup
        go_wp2
        go_roundw
        case rel => exact ⟨k + 1, by omega, by go_num, hrow.out.set k hlt _ _ (by rw [← E1.out]; exact HN.out), hbel.out.setCell (Nat.le_refl _) _⟩
        case measure => simp [intOf]; omega
      · have E1 : Hid (spI (byt s k) = byt s k) := (by unfold spI; rw [if_neg hup] : spI (byt s k) = byt s k)
        have hq : (byt s k == 43) = false := by simp [hup]
        have hsame : Hid (Row wr w.heap.size s.size (fun j => if j < k + 1 then spI (byt s j) else byt s j)) := by
          refine ⟨fun j hj => ?_, hrow.out.free⟩
          rw [hrow.out.cell j hj, HN.out j hj]
          by_cases hjk : j = k
          · subst hjk; rw [if_neg (by omega), if_pos rfl, E1.out]
          · rw [if_neg hjk]
        clear hup
        go_wp2
        go_roundw
        case rel => exact ⟨k + 1, by omega, by go_num, hsame.out, hbel.out⟩
        case measure => simp [intOf]; omega
    · have hbk := back wr w.heap.size s.size (grownCap w s.size 0 5) _ (s.data.toList.map sp) hrow.out (by simp) (fun j hj => by rw [if_pos (by omega), sp_getD _ _ (by rw [size_list]; exact hj)]; rfl)
      generalize str (s.data.toList.map sp) = R at *
      go_wp2_with fail
      refine (HD.out _).mono ?_
      rintro e w2 ⟨rfl, hb2⟩
      go_wp2
      go_ret
      exact ⟨rfl, hbel.out.trans (hb2.mono hbel.out.size)⟩

end Tg
end Go.Proofs.YtkpdaialfcegfaaDoor

/-
  target: isPath, segmentsOf, Segments.
-/
set_option linter.unusedVariables false
set_option linter.unusedSimpArgs false
namespace Go.Proofs.YtkpdaialfcegfaaDoor
open Go.RowKit Go.Shelf
attribute [local go_sem] Oper.semAt_some
namespace Tg
open Oc

theorem pre47 (l : List UInt8) : Lib.hasPrefix l [47] = (l.head? == some 47) := by
  unfold Lib.hasPrefix
  cases l with
  | nil => rfl
  | cons c t =>
    by_cases h : c = 47
    · subst h; simp [List.isPrefixOf]
    · have h2 : ¬ 47 = c := fun e => h e.symm
      rw [List.isPrefixOf, List.head?_cons, show ((47 : UInt8) == c) = false from by simpa using h2, Bool.false_and]
      symm
      simpa using h

set_option maxRecDepth 100000 in
set_option maxHeartbeats 1000000 in
theorem pieces_any (s p : ByteArray) (w : World) : Calls Tryd.prog 63 #[.string s, .string p] w fun e w' => e = .returned (.func (.func 100) #[] #[.pointer (some ⟨w.heap.size, 0, none⟩), .pointer (some ⟨w.heap.size + 1, 0, none⟩)]) ∧ w' = (w.alloc (.cells #[.string s] 9)).alloc (.cells #[.string p] 9) := by
  go_enter Tryd.func63, Tryd.ntmps63
  go_wp2
  go_ret
  exact ⟨rfl, rfl⟩

theorem pieces_stops (n : Nat) (Bs Bp : Nat) (b : UInt8) (s : ByteArray) (hs : s.size ≤ 4000000000) (w : World) (hm : ML w) (hc : w.cell? ⟨Bs, 0, none⟩ = some (.string s)) (hp : w.cell? ⟨Bp, 0, none⟩ = some (.string ⟨#[b]⟩)) :
    SeqStopsK Fence.wide n Tryd.prog 100 #[.pointer (some ⟨Bs, 0, none⟩), .pointer (some ⟨Bp, 0, none⟩)] (encP (M := s.size)) (Keep3 Bs Bp 0) (fun ys => ys.map Pz.z = splitB b s.data.toList)
      (fun pre => ∃ rest, pre.map Pz.z ++ rest = splitB b s.data.toList) (s.size + 1) w := fun l J Jx W hW hJ _ hY h0 =>
  pieces1_in n l Bs Bp b s hs J Jx (fun pre A B h hb => hJ _ _ _ _ h (grown_of_below hb) (fun r e => by cases e)) hY W (hm.below hW) ((hW.cell (p := ⟨Bs, 0, none⟩) (cell_lt hc)).trans hc) ((hW.cell (p := ⟨Bp, 0, none⟩) (cell_lt hp)).trans hp) h0

theorem OwnRow.below {B : Nat} {e : TypeId} {v : Value} {n : Nat} {xs : List Value} {w w' : World} (h : w.ownsRow B e 1 v n xs) (hb : Below w.heap.size w w') : w'.ownsRow B e 1 v n xs :=
  ⟨h.1, h.2.imp id fun ⟨g, c, cur, e, hg, hh, r⟩ => ⟨g, c, cur, e, hg, (hb.block g (Array.getElem?_eq_some_iff.1 hh).1).trans hh, r⟩⟩
theorem cell_one_new (W : World) (v : Value) (t : TypeId) : ∀ (j : Nat) (u : Value), [v][j]? = some u → (W.alloc (.cells #[v] t)).cell? ((⟨W.heap.size, 0, none⟩ : Addr).add j) = some u := by
  intro j u hj
  match j, hj with
  | 0, hj => simp at hj; subst hj; simp [Addr.add]
def decT (z : List UInt8) : List UInt8 := (decR z).1
theorem decT_len (z : List UInt8) : (decT z).length ≤ z.length := by
  unfold decT decR
  split
  · simp
  · dsimp only
    have := sg_len 0 z
    rw [vals_len]
    exact this

end Tg
end Go.Proofs.YtkpdaialfcegfaaDoor
