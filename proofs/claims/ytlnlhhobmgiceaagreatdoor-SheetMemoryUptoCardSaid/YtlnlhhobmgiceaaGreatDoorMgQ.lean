/- Several texts as one. -/
import Derived.Test.YtlnlhhobmgiceaaGreatDoorMgO
import Derived.Test.YtlnlhhobmgiceaaGreatDoorMgP
import Derived.Test.YtlnlhhobmgiceaaGreatDoorMgB
import Derived.Test.YtlnlhhobmgiceaaGreatDoorMgL
import Derived.Test.YtlnlhhobmgiceaaGreatDoorMgN
import Derived.Lib.ReplaceLaws
/-
  The document's spaced, Pairs, Query.
-/
set_option linter.unusedVariables false
set_option linter.unusedSimpArgs false
namespace Go.Proofs.YtlnlhhobmgiceaaGreatDoor
open Go.RowKit Go.Shelf
namespace Tg
open Oc

def spI (x : Int) : Int := if x = 43 then 32 else x
theorem sp_getD (l : List UInt8) (j : Nat) (hj : j < l.length) : (((l.map sp).getD j 0).toNat : Int) = spI ((l.getD j 0).toNat : Int) := by
  rw [List.getD_eq_getElem?_getD, List.getElem?_map, List.getElem?_eq_getElem hj, List.getD_eq_getElem?_getD, List.getElem?_eq_getElem hj]
  show ((sp l[j]).toNat : Int) = spI (l[j].toNat : Int)
  unfold sp spI
  by_cases h : l[j] = 43
  · rw [if_pos h, if_pos (by rw [h]; rfl)]; rfl
  · rw [if_neg h, if_neg (fun e => h (UInt8.toNat_inj.1 (by show _ = 43; omega)))]

set_option maxRecDepth 100000 in
set_option maxHeartbeats 1000000 in
theorem rspaced_any (s : ByteArray) (hs : s.size ≤ 4000000000) (w : World) :
    Calls Tryz.prog 40 #[.string s] w fun e w' => e = .returned (.string (str (spd s.data.toList))) ∧ Below w.heap.size w w' := by
  have hcv := fun w => Lib.run_convert_string_bytes (P := Tryz.prog) w 9 78 5 s Tryz.underlying9 Tryz.underlying78 Tryz.underlying5
  have hb := below_bytes w 5 s
  have hr := bytes_row w 5 s
  have HD : Hid (∀ w, _) := fun w => rDecode_any (str (s.data.toList.map sp)) (by rw [str_size, List.length_map, size_list]; omega) w
  rw [str_list] at HD
  unfold spd
  generalize decR (s.data.toList.map sp) = D at *
  obtain ⟨D1, D2, D3⟩ := D
  dsimp only at HD ⊢
  go_enter Tryz.func40, Tryz.ntmps40
  go_wp2
  go_loopw [4] (fun i wr => ∃ k : Nat, k ≤ s.size ∧ i = .int .i64 k ∧ Hid (Row wr w.heap.size s.size (fun j => if j < k then spI (byt s j) else byt s j)) ∧ Hid (Below w.heap.size w wr)) (fun i _ => s.size - (intOf i).toNat)
  case atStart => exact ⟨0, Nat.zero_le _, rfl, (by simpa using hr : Row _ _ _ _), hb⟩
  case round =>
    obtain ⟨k, hk, rfl, hrow, hbel⟩ := hrel
    clear hr hb hcv
    by_cases hlt : k < s.size
    · have hck : wr.cell? ⟨w.heap.size, k, none⟩ = some (.int .u8 (byt s k)) := by
        have := hrow.out.cell k hlt
        rwa [if_neg (by omega)] at this
      have hfk := hrow.out.free k hlt
      obtain ⟨b0, b1⟩ := byt_bd s k
      have HN : Hid (∀ j, j < s.size → (if j < k + 1 then spI (byt s j) else byt s j) = if j = k then spI (byt s k) else if j < k then spI (byt s j) else byt s j) := by
        intro j hj
        by_cases hjk : j = k
        · subst hjk; rw [if_pos (by omega), if_pos rfl]
        · rw [if_neg hjk]
          by_cases h2 : j < k
          · rw [if_pos (by omega), if_pos h2]
          · rw [if_neg (by omega), if_neg h2]
      by_cases hup : byt s k = 43
      · have E1 : Hid (spI (byt s k) = 32) := (by unfold spI; rw [if_pos hup] : spI (byt s k) = 32)
        have hq : (byt s k == 43) = true := by simp [hup]
        clear hup
        go_wp2
        go_roundw
        case rel => exact ⟨k + 1, by omega, by go_num, hrow.out.set k hlt _ _ (by rw [← E1.out]; exact HN.out), hbel.out.setCell (Nat.le_refl _) _⟩
        case measure => simp [intOf]; omega
      · have E1 : Hid (spI (byt s k) = byt s k) := (by unfold spI; rw [if_neg hup] : spI (byt s k) = byt s k)
        have hq : (byt s k == 43) = false := by simp [hup]
        have hsame : Hid (Row wr w.heap.size s.size (fun j => if j < k + 1 then spI (byt s j) else byt s j)) := by
          refine ⟨fun j hj => ?_, hrow.out.free⟩
          rw [hrow.out.cell j hj, HN.out j hj]
          by_cases hjk : j = k
          · subst hjk; rw [if_neg (by omega), if_pos rfl, E1.out]
          · rw [if_neg hjk]
        clear hup
        go_wp2
        go_roundw
        case rel => exact ⟨k + 1, by omega, by go_num, hsame.out, hbel.out⟩
        case measure => simp [intOf]; omega
    · have hbk := back wr w.heap.size s.size (grownCap w s.size 0 5) _ (s.data.toList.map sp) hrow.out (by simp) (fun j hj => by rw [if_pos (by omega), sp_getD _ _ (by rw [size_list]; exact hj)]; rfl)
      generalize str (s.data.toList.map sp) = R at *
      go_wp2_with fail
      refine (HD.out _).mono ?_
      rintro e w2 ⟨rfl, hb2⟩
      go_wp2
      go_ret
      exact ⟨rfl, hbel.out.trans (hb2.mono hbel.out.size)⟩

end Tg
end Go.Proofs.YtlnlhhobmgiceaaGreatDoor

/-
  target: isPath, segmentsOf, Segments.
-/
set_option linter.unusedVariables false
set_option linter.unusedSimpArgs false
namespace Go.Proofs.YtlnlhhobmgiceaaGreatDoor
open Go.RowKit Go.Shelf
attribute [local go_sem] Oper.semAt_some
namespace Tg
open Oc

theorem pre47 (l : List UInt8) : Lib.hasPrefix l [47] = (l.head? == some 47) := by
  unfold Lib.hasPrefix
  cases l with
  | nil => rfl
  | cons c t =>
    by_cases h : c = 47
    · subst h; simp [List.isPrefixOf]
    · have h2 : ¬ 47 = c := fun e => h e.symm
      rw [List.isPrefixOf, List.head?_cons, show ((47 : UInt8) == c) = false from by simpa using h2, Bool.false_and]
      symm
      simpa using h

set_option maxRecDepth 100000 in
set_option maxHeartbeats 1000000 in
theorem pieces_any (s p : ByteArray) (w : World) : Calls Tryz.prog 56 #[.string s, .string p] w fun e w' => e = .returned (.func (.func 83) #[] #[.pointer (some ⟨w.heap.size, 0, none⟩), .pointer (some ⟨w.heap.size + 1, 0, none⟩)]) ∧ w' = (w.alloc (.cells #[.string s] 9)).alloc (.cells #[.string p] 9) := by
  go_enter Tryz.func56, Tryz.ntmps56
  go_wp2
  go_ret
  exact ⟨rfl, rfl⟩

theorem pieces_stops (n : Nat) (Bs Bp : Nat) (b : UInt8) (s : ByteArray) (hs : s.size ≤ 4000000000) (w : World) (hm : ML w) (hc : w.cell? ⟨Bs, 0, none⟩ = some (.string s)) (hp : w.cell? ⟨Bp, 0, none⟩ = some (.string ⟨#[b]⟩)) :
    SeqStopsK Fence.wide n Tryz.prog 83 #[.pointer (some ⟨Bs, 0, none⟩), .pointer (some ⟨Bp, 0, none⟩)] (encP (M := s.size)) (Keep3 Bs Bp 1) (fun ys => ys.map Pz.z = splitB b s.data.toList)
      (fun pre => ∃ rest, pre.map Pz.z ++ rest = splitB b s.data.toList) (s.size + 1) w := fun l J Jx W hW hJ _ hY h0 =>
  pieces1_in n l Bs Bp b s hs J Jx (fun pre A B h hb => hJ _ _ _ _ h (grown_of_below hb) (fun r e => by cases e)) hY W (hm.below hW) ((hW.cell (p := ⟨Bs, 0, none⟩) (cell_lt hc)).trans hc) ((hW.cell (p := ⟨Bp, 0, none⟩) (cell_lt hp)).trans hp) h0

theorem OwnRow.below {B : Nat} {e : TypeId} {v : Value} {n : Nat} {xs : List Value} {w w' : World} (h : w.ownsRow B e 1 v n xs) (hb : Below w.heap.size w w') : w'.ownsRow B e 1 v n xs :=
  ⟨h.1, h.2.imp id fun ⟨g, c, cur, e, hg, hh, r⟩ => ⟨g, c, cur, e, hg, (hb.block g (Array.getElem?_eq_some_iff.1 hh).1).trans hh, r⟩⟩
theorem cell_one_new (W : World) (v : Value) (t : TypeId) : ∀ (j : Nat) (u : Value), [v][j]? = some u → (W.alloc (.cells #[v] t)).cell? ((⟨W.heap.size, 0, none⟩ : Addr).add j) = some u := by
  intro j u hj
  match j, hj with
  | 0, hj => simp at hj; subst hj; simp [Addr.add]
def decT (z : List UInt8) : List UInt8 := (decR z).1
theorem decT_len (z : List UInt8) : (decT z).length ≤ z.length := by
  unfold decT decR
  split
  · simp
  · dsimp only
    have := sg_len 0 z
    rw [vals_len]
    exact this

end Tg
end Go.Proofs.YtlnlhhobmgiceaaGreatDoor

/-
  target: decodeSpaces, readPair.
-/
set_option linter.unusedVariables false
set_option linter.unusedSimpArgs false
namespace Go.Proofs.YtlnlhhobmgiceaaGreatDoor
open Go.RowKit Go.Shelf
attribute [local go_sem] Oper.semAt_some
namespace Tg
open Oc

theorem Replace_sp (s : ByteArray) (hs : s.size ≤ 4000000000) (w : World) (h : ML w) :
    Calls Tryz.prog 107 #[.string s, .string ⟨#[43]⟩, .string ⟨#[32]⟩] w fun e w' => e = .returned (.string (str (s.data.toList.map sp))) ∧ Below w.heap.size w w' := by
  obtain ⟨m, hm⟩ := h
  have hc := Lib.countB_mul_le ⟨#[43]⟩ (by decide) s.size s (Nat.le_refl _)
  rw [show (⟨#[43]⟩ : ByteArray).size = 1 from rfl] at hc
  refine (Tryz.strings_ReplaceAll s ⟨#[43]⟩ ⟨#[32]⟩ m w (by omega) hm (by decide) (by rw [show (⟨#[32]⟩ : ByteArray).size = 1 from rfl]; omega)).mono ?_
  rintro e w' ⟨rfl, hb⟩
  rw [show (⟨#[43]⟩ : ByteArray).data.toList = [43] from rfl, show (⟨#[32]⟩ : ByteArray).data.toList = [32] from rfl, replace_sp]
  exact ⟨rfl, hb⟩

set_option maxRecDepth 100000 in
set_option maxHeartbeats 1000000 in
theorem decodeSpaces_any (s : ByteArray) (hs : s.size ≤ 4000000000) (w : World) (hm : ML w) :
    Calls Tryz.prog 84 #[.string s] w fun e w' => e = .returned (.string (str (spd s.data.toList))) ∧ Below w.heap.size w w' := by
  have HR : Hid (∀ w, ML w → _) := fun w h => Replace_sp s hs w h
  have HD : Hid (∀ w, _) := fun w => Decode_any (str (s.data.toList.map sp)) (by rw [str_size, List.length_map, size_list]; omega) w
  rw [str_list] at HD
  unfold spd
  generalize str (s.data.toList.map sp) = R at *
  generalize decR (s.data.toList.map sp) = D at *
  obtain ⟨D1, D2, D3⟩ := D
  dsimp only at HD ⊢
  go_enter Tryz.func84, Tryz.ntmps84
  go_wp2_with fail
  refine (HR.out _ hm).mono ?_
  rintro e w1 ⟨rfl, hb1⟩
  go_wp2_with fail
  refine (HD.out _).mono ?_
  rintro e w2 ⟨rfl, hb2⟩
  go_wp2
  go_ret
  exact ⟨rfl, hb1.trans (hb2.mono hb1.size)⟩

set_option maxRecDepth 100000 in
set_option maxHeartbeats 1000000 in
theorem readPair_any (s : ByteArray) (hs : s.size ≤ 4000000000) (w : World) (hm : ML w) :
    Calls Tryz.prog 57 #[.string s] w fun e w' => e = .returned (.agg #[.string (str (pairR s.data.toList).1), .string (str (pairR s.data.toList).2.1), .bool (pairR s.data.toList).2.2]) ∧ Below w.heap.size w w' := by
  have hla := cutA_len 61 s.data.toList
  have hlb := cutB_len 61 s.data.toList
  rw [size_list] at hla hlb
  have HC : Hid (∀ w, ML w → _) := fun w h => Cut_one s 61 hs w h
  have HA : Hid (∀ w, ML w → _) := fun w h => decodeSpaces_any (str (cutA 61 s.data.toList)) (by rw [str_size]; omega) w h
  have HB : Hid (∀ w, ML w → _) := fun w h => decodeSpaces_any (str (cutB 61 s.data.toList)) (by rw [str_size]; omega) w h
  rw [str_list] at HA HB
  unfold pairR
  dsimp only
  generalize str (cutA 61 s.data.toList) = a at *
  generalize str (cutB 61 s.data.toList) = b at *
  generalize has 61 s.data.toList = h at *
  generalize str (spd (cutA 61 s.data.toList)) = x at *
  generalize str (spd (cutB 61 s.data.toList)) = y at *
  clear hla hlb
  go_enter Tryz.func57, Tryz.ntmps57
  go_wp2_with fail
  refine (HC.out _ ?_).mono ?_
  · exact hm.below ((Below.refl _ _).alloc (Nat.le_refl _) _)
  rintro e w1 ⟨rfl, hb1⟩
  have hm1 : ML w1 := (hm.below ((Below.refl _ _).alloc (Nat.le_refl _) _)).below hb1
  have hB1 : Below w.heap.size w w1 := ((Below.refl _ w).alloc (Nat.le_refl _) _).trans (hb1.mono (by simp))
  have k0 : w1.cell? ⟨w.heap.size, 0, none⟩ = some (.string ⟨#[]⟩) := (hb1.cell (p := ⟨w.heap.size, 0, none⟩) (by simp)).trans (by simp)
  have f0 : ∀ j : Nat, j < 3 → w1.frozen? ⟨w.heap.size, j, none⟩ = false := fun j hj => (hb1.frozen (p := ⟨w.heap.size, j, none⟩) (by simp)).trans (by simp)
  have k1 : w1.cell? ⟨w.heap.size, 1, none⟩ = some (.string ⟨#[]⟩) := (hb1.cell (p := ⟨w.heap.size, 1, none⟩) (by simp)).trans (by simp)
  have k2 : w1.cell? ⟨w.heap.size, 2, none⟩ = some (.bool false) := (hb1.cell (p := ⟨w.heap.size, 2, none⟩) (by simp)).trans (by simp)
  have hsz : w.heap.size < w1.heap.size := by have := hb1.size; simp at this; omega
  clear hb1
  go_wp2_with fail
  refine (HA.out _ hm1).mono ?_
  rintro e w2 ⟨rfl, hb2⟩
  have hm2 := hm1.below hb2
  go_wp2_with fail
  refine (HB.out _ hm2).mono ?_
  rintro e w3 ⟨rfl, hb3⟩
  have hb := hb2.trans (hb3.mono hb2.size)
  have K0 : w3.cell? ⟨w.heap.size, 0, none⟩ = some (.string ⟨#[]⟩) := (hb.cell (p := ⟨w.heap.size, 0, none⟩) hsz).trans k0
  have K1 : w3.cell? ⟨w.heap.size, 1, none⟩ = some (.string ⟨#[]⟩) := (hb.cell (p := ⟨w.heap.size, 1, none⟩) hsz).trans k1
  have K2 : w3.cell? ⟨w.heap.size, 2, none⟩ = some (.bool false) := (hb.cell (p := ⟨w.heap.size, 2, none⟩) hsz).trans k2
  have F0 : w3.frozen? ⟨w.heap.size, 0, none⟩ = false := (hb.frozen (p := ⟨w.heap.size, 0, none⟩) hsz).trans (f0 0 (by omega))
  have F1 : w3.frozen? ⟨w.heap.size, 1, none⟩ = false := (hb.frozen (p := ⟨w.heap.size, 1, none⟩) hsz).trans (f0 1 (by omega))
  have F2 : w3.frozen? ⟨w.heap.size, 2, none⟩ = false := (hb.frozen (p := ⟨w.heap.size, 2, none⟩) hsz).trans (f0 2 (by omega))
  have hB3 : Below w.heap.size w w3 := hB1.trans (hb.mono hB1.size)
  have hsz3 : w.heap.size < w3.heap.size := Nat.lt_of_lt_of_le hsz hb.size
  clear f0 k0 k1 k2
  go_wp2
  refine bodyPost_ret (v := .agg #[.string x, .string y, .bool h]) (by simp [results, Tryz.results57, go_sem, K0, K1, K2, hsz3]) rfl ⟨rfl, ?_⟩
  exact ((hB3.setCell (Nat.le_refl _) _).setCell (Nat.le_refl _) _).setCell (Nat.le_refl _) _

end Tg
end Go.Proofs.YtlnlhhobmgiceaaGreatDoor
