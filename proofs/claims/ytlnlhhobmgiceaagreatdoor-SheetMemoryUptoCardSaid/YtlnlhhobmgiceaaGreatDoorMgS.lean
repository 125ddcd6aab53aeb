/- Several texts as one. -/
import Derived.Test.YtlnlhhobmgiceaaGreatDoorMgQ
import Derived.Test.YtlnlhhobmgiceaaGreatDoorMgR
import Derived.Test.YtlnlhhobmgiceaaGreatDoorMgB
import Derived.Test.YtlnlhhobmgiceaaGreatDoorMgM
import Derived.Test.YtlnlhhobmgiceaaGreatDoorMgE
import Derived.Test.YtlnlhhobmgiceaaGreatDoorMgF
import Derived.Lib.ReplaceLaws
import Derived.RangeFuncCalls
/-
  The document's spaced, Pairs, Query.
-/
set_option linter.unusedVariables false
set_option linter.unusedSimpArgs false
namespace Go.Proofs.YtlnlhhobmgiceaaGreatDoor
open Go.RowKit Go.Shelf
namespace Tg
open Oc

def spI (x : Int) : Int := if x = 43 then 32 else x
theorem sp_getD (l : List UInt8) (j : Nat) (hj : j < l.length) : (((l.map sp).getD j 0).toNat : Int) = spI ((l.getD j 0).toNat : Int) := by
  rw [List.getD_eq_getElem?_getD, List.getElem?_map, List.getElem?_eq_getElem hj, List.getD_eq_getElem?_getD, List.getElem?_eq_getElem hj]
  show ((sp l[j]).toNat : Int) = spI (l[j].toNat : Int)
  unfold sp spI
  by_cases h : l[j] = 43
  · rw [if_pos h, if_pos (by rw [h]; rfl)]; rfl
  · rw [if_neg h, if_neg (fun e => h (UInt8.toNat_inj.1 (by show _ = 43; omega)))]

set_option maxRecDepth 100000 in
set_option maxHeartbeats 1000000 in
theorem rspaced_any (s : ByteArray) (hs : s.size ≤ 4000000000) (w : World) :
    Calls Tryz.prog 40 #[.string s] w fun e w' => e = .returned (.string (str (spd s.data.toList))) ∧ Below w.heap.size w w' := by
  have hcv := fun w => Lib.run_convert_string_bytes (P := Tryz.prog) w 9 78 5 s Tryz.underlying9 Tryz.underlying78 Tryz.underlying5
  have hb := below_bytes w 5 s
  have hr := bytes_row w 5 s
  have HD : Hid (∀ w, _) := fun w => rDecode_any (str (s.data.toList.map sp)) (by rw [str_size, List.length_map, size_list]; omega) w
  rw [str_list] at HD
  unfold spd
  generalize decR (s.data.toList.map sp) = D at *
  obtain ⟨D1, D2, D3⟩ := D
  dsimp only at HD ⊢
  go_enter Tryz.func40, Tryz.ntmps40
  go_wp2
  go_loopw [4] (fun i wr => ∃ k : Nat, k ≤ s.size ∧ i = .int .i64 k ∧ Hid (Row wr w.heap.size s.size (fun j => if j < k then spI (byt s j) else byt s j)) ∧ Hid (Below w.heap.size w wr)) (fun i _ => s.size - (intOf i).toNat)
  case atStart => exact ⟨0, Nat.zero_le _, rfl, (by simpa using hr : Row _ _ _ _), hb⟩
  case round =>
    obtain ⟨k, hk, rfl, hrow, hbel⟩ := hrel
    clear hr hb hcv
    by_cases hlt : k < s.size
    · have hck : wr.cell? ⟨w.heap.size, k, none⟩ = some (.int .u8 (byt s k)) := by
        have := hrow.out.cell k hlt
        rwa [if_neg (by omega)] at this
      have hfk := hrow.out.free k hlt
      obtain ⟨b0, b1⟩ := byt_bd s k
      have HN : Hid (∀ j, j < s.size → (if j < k + 1 then spI (byt s j) else byt s j) = if j = k then spI (byt s k) else if j < k then spI (byt s j) else byt s j) := by
        intro j hj
        by_cases hjk : j = k
        · subst hjk; rw [if_pos (by omega), if_pos rfl]
        · rw [if_neg hjk]
          by_cases h2 : j < k
          · rw [if_pos (by omega), if_pos h2]
          · rw [if_neg (by omega), if_neg h2]
      by_cases hup : byt s k = 43
      · have E1 : Hid (spI (byt s k) = 32) := (by unfold spI; rw [if_pos hup] : spI (byt s k) = 32)
        have hq : (byt s k == 43) = true := by simp [hup]
        clear hup
        go_wp2
        go_roundw
        case rel => exact ⟨k + 1, by omega, by go_num, hrow.out.set k hlt _ _ (by rw [← E1.out]; exact HN.out), hbel.out.setCell (Nat.le_refl _) _⟩
        case measure => simp [intOf]; omega
      · have E1 : Hid (spI (byt s k) = byt s k) := (by unfold spI; rw [if_neg hup] : spI (byt s k) = byt s k)
        have hq : (byt s k == 43) = false := by simp [hup]
        have hsame : Hid (Row wr w.heap.size s.size (fun j => if j < k + 1 then spI (byt s j) else byt s j)) := by
          refine ⟨fun j hj => ?_, hrow.out.free⟩
          rw [hrow.out.cell j hj, HN.out j hj]
          by_cases hjk : j = k
          · subst hjk; rw [if_neg (by omega), if_pos rfl, E1.out]
          · rw [if_neg hjk]
        clear hup
        go_wp2
        go_roundw
        case rel => exact ⟨k + 1, by omega, by go_num, hsame.out, hbel.out⟩
        case measure => simp [intOf]; omega
    · have hbk := back wr w.heap.size s.size (grownCap w s.size 0 5) _ (s.data.toList.map sp) hrow.out (by simp) (fun j hj => by rw [if_pos (by omega), sp_getD _ _ (by rw [size_list]; exact hj)]; rfl)
      generalize str (s.data.toList.map sp) = R at *
      go_wp2_with fail
      refine (HD.out _).mono ?_
      rintro e w2 ⟨rfl, hb2⟩
      go_wp2
      go_ret
      exact ⟨rfl, hbel.out.trans (hb2.mono hbel.out.size)⟩

end Tg
end Go.Proofs.YtlnlhhobmgiceaaGreatDoor

/-
  target: isPath, segmentsOf, Segments.
-/
set_option linter.unusedVariables false
set_option linter.unusedSimpArgs false
namespace Go.Proofs.YtlnlhhobmgiceaaGreatDoor
open Go.RowKit Go.Shelf
attribute [local go_sem] Oper.semAt_some
namespace Tg
open Oc

theorem pre47 (l : List UInt8) : Lib.hasPrefix l [47] = (l.head? == some 47) := by
  unfold Lib.hasPrefix
  cases l with
  | nil => rfl
  | cons c t =>
    by_cases h : c = 47
    · subst h; simp [List.isPrefixOf]
    · have h2 : ¬ 47 = c := fun e => h e.symm
      rw [List.isPrefixOf, List.head?_cons, show ((47 : UInt8) == c) = false from by simpa using h2, Bool.false_and]
      symm
      simpa using h

set_option maxRecDepth 100000 in
set_option maxHeartbeats 1000000 in
theorem pieces_any (s p : ByteArray) (w : World) : Calls Tryz.prog 56 #[.string s, .string p] w fun e w' => e = .returned (.func (.func 83) #[] #[.pointer (some ⟨w.heap.size, 0, none⟩), .pointer (some ⟨w.heap.size + 1, 0, none⟩)]) ∧ w' = (w.alloc (.cells #[.string s] 9)).alloc (.cells #[.string p] 9) := by
  go_enter Tryz.func56, Tryz.ntmps56
  go_wp2
  go_ret
  exact ⟨rfl, rfl⟩

theorem pieces_stops (n : Nat) (Bs Bp : Nat) (b : UInt8) (s : ByteArray) (hs : s.size ≤ 4000000000) (w : World) (hm : ML w) (hc : w.cell? ⟨Bs, 0, none⟩ = some (.string s)) (hp : w.cell? ⟨Bp, 0, none⟩ = some (.string ⟨#[b]⟩)) :
    SeqStopsK Fence.wide n Tryz.prog 83 #[.pointer (some ⟨Bs, 0, none⟩), .pointer (some ⟨Bp, 0, none⟩)] (encP (M := s.size)) (Keep3 Bs Bp 1) (fun ys => ys.map Pz.z = splitB b s.data.toList)
      (fun pre => ∃ rest, pre.map Pz.z ++ rest = splitB b s.data.toList) (s.size + 1) w := fun l J Jx W hW hJ _ hY h0 =>
  pieces1_in n l Bs Bp b s hs J Jx (fun pre A B h hb => hJ _ _ _ _ h (grown_of_below hb) (fun r e => by cases e)) hY W (hm.below hW) ((hW.cell (p := ⟨Bs, 0, none⟩) (cell_lt hc)).trans hc) ((hW.cell (p := ⟨Bp, 0, none⟩) (cell_lt hp)).trans hp) h0

theorem OwnRow.below {B : Nat} {e : TypeId} {v : Value} {n : Nat} {xs : List Value} {w w' : World} (h : w.ownsRow B e 1 v n xs) (hb : Below w.heap.size w w') : w'.ownsRow B e 1 v n xs :=
  ⟨h.1, h.2.imp id fun ⟨g, c, cur, e, hg, hh, r⟩ => ⟨g, c, cur, e, hg, (hb.block g (Array.getElem?_eq_some_iff.1 hh).1).trans hh, r⟩⟩
theorem cell_one_new (W : World) (v : Value) (t : TypeId) : ∀ (j : Nat) (u : Value), [v][j]? = some u → (W.alloc (.cells #[v] t)).cell? ((⟨W.heap.size, 0, none⟩ : Addr).add j) = some u := by
  intro j u hj
  match j, hj with
  | 0, hj => simp at hj; subst hj; simp [Addr.add]
def decT (z : List UInt8) : List UInt8 := (decR z).1
theorem decT_len (z : List UInt8) : (decT z).length ≤ z.length := by
  unfold decT decR
  split
  · simp
  · dsimp only
    have := sg_len 0 z
    rw [vals_len]
    exact this

end Tg
end Go.Proofs.YtlnlhhobmgiceaaGreatDoor

/-
  target: decodeSpaces, readPair.
-/
set_option linter.unusedVariables false
set_option linter.unusedSimpArgs false
namespace Go.Proofs.YtlnlhhobmgiceaaGreatDoor
open Go.RowKit Go.Shelf
attribute [local go_sem] Oper.semAt_some
namespace Tg
open Oc

theorem Replace_sp (s : ByteArray) (hs : s.size ≤ 4000000000) (w : World) (h : ML w) :
    Calls Tryz.prog 107 #[.string s, .string ⟨#[43]⟩, .string ⟨#[32]⟩] w fun e w' => e = .returned (.string (str (s.data.toList.map sp))) ∧ Below w.heap.size w w' := by
  obtain ⟨m, hm⟩ := h
  have hc := Lib.countB_mul_le ⟨#[43]⟩ (by decide) s.size s (Nat.le_refl _)
  rw [show (⟨#[43]⟩ : ByteArray).size = 1 from rfl] at hc
  refine (Tryz.strings_ReplaceAll s ⟨#[43]⟩ ⟨#[32]⟩ m w (by omega) hm (by decide) (by rw [show (⟨#[32]⟩ : ByteArray).size = 1 from rfl]; omega)).mono ?_
  rintro e w' ⟨rfl, hb⟩
  rw [show (⟨#[43]⟩ : ByteArray).data.toList = [43] from rfl, show (⟨#[32]⟩ : ByteArray).data.toList = [32] from rfl, replace_sp]
  exact ⟨rfl, hb⟩

set_option maxRecDepth 100000 in
set_option maxHeartbeats 1000000 in
theorem decodeSpaces_any (s : ByteArray) (hs : s.size ≤ 4000000000) (w : World) (hm : ML w) :
    Calls Tryz.prog 84 #[.string s] w fun e w' => e = .returned (.string (str (spd s.data.toList))) ∧ Below w.heap.size w w' := by
  have HR : Hid (∀ w, ML w → _) := fun w h => Replace_sp s hs w h
  have HD : Hid (∀ w, _) := fun w => Decode_any (str (s.data.toList.map sp)) (by rw [str_size, List.length_map, size_list]; omega) w
  rw [str_list] at HD
  unfold spd
  generalize str (s.data.toList.map sp) = R at *
  generalize decR (s.data.toList.map sp) = D at *
  obtain ⟨D1, D2, D3⟩ := D
  dsimp only at HD ⊢
  go_enter Tryz.func84, Tryz.ntmps84
  go_wp2_with fail
  refine (HR.out _ hm).mono ?_
  rintro e w1 ⟨rfl, hb1⟩
  go_wp2_with fail
  refine (HD.out _).mono ?_
  rintro e w2 ⟨rfl, hb2⟩
  go_wp2
  go_ret
  exact ⟨rfl, hb1.trans (hb2.mono hb1.size)⟩

set_option maxRecDepth 100000 in
set_option maxHeartbeats 1000000 in
theorem readPair_any (s : ByteArray) (hs : s.size ≤ 4000000000) (w : World) (hm : ML w) :
    Calls Tryz.prog 57 #[.string s] w fun e w' => e = .returned (.agg #[.string (str (pairR s.data.toList).1), .string (str (pairR s.data.toList).2.1), .bool (pairR s.data.toList).2.2]) ∧ Below w.heap.size w w' := by
  have hla := cutA_len 61 s.data.toList
  have hlb := cutB_len 61 s.data.toList
  rw [size_list] at hla hlb
  have HC : Hid (∀ w, ML w → _) := fun w h => Cut_one s 61 hs w h
  have HA : Hid (∀ w, ML w → _) := fun w h => decodeSpaces_any (str (cutA 61 s.data.toList)) (by rw [str_size]; omega) w h
  have HB : Hid (∀ w, ML w → _) := fun w h => decodeSpaces_any (str (cutB 61 s.data.toList)) (by rw [str_size]; omega) w h
  rw [str_list] at HA HB
  unfold pairR
  dsimp only
  generalize str (cutA 61 s.data.toList) = a at *
  generalize str (cutB 61 s.data.toList) = b at *
  generalize has 61 s.data.toList = h at *
  generalize str (spd (cutA 61 s.data.toList)) = x at *
  generalize str (spd (cutB 61 s.data.toList)) = y at *
  clear hla hlb
  go_enter Tryz.func57, Tryz.ntmps57
  go_wp2_with fail
  refine (HC.out _ ?_).mono ?_
  · exact hm.below ((Below.refl _ _).alloc (Nat.le_refl _) _)
  rintro e w1 ⟨rfl, hb1⟩
  have hm1 : ML w1 := (hm.below ((Below.refl _ _).alloc (Nat.le_refl _) _)).below hb1
  have hB1 : Below w.heap.size w w1 := ((Below.refl _ w).alloc (Nat.le_refl _) _).trans (hb1.mono (by simp))
  have k0 : w1.cell? ⟨w.heap.size, 0, none⟩ = some (.string ⟨#[]⟩) := (hb1.cell (p := ⟨w.heap.size, 0, none⟩) (by simp)).trans (by simp)
  have f0 : ∀ j : Nat, j < 3 → w1.frozen? ⟨w.heap.size, j, none⟩ = false := fun j hj => (hb1.frozen (p := ⟨w.heap.size, j, none⟩) (by simp)).trans (by simp)
  have k1 : w1.cell? ⟨w.heap.size, 1, none⟩ = some (.string ⟨#[]⟩) := (hb1.cell (p := ⟨w.heap.size, 1, none⟩) (by simp)).trans (by simp)
  have k2 : w1.cell? ⟨w.heap.size, 2, none⟩ = some (.bool false) := (hb1.cell (p := ⟨w.heap.size, 2, none⟩) (by simp)).trans (by simp)
  have hsz : w.heap.size < w1.heap.size := by have := hb1.size; simp at this; omega
  clear hb1
  go_wp2_with fail
  refine (HA.out _ hm1).mono ?_
  rintro e w2 ⟨rfl, hb2⟩
  have hm2 := hm1.below hb2
  go_wp2_with fail
  refine (HB.out _ hm2).mono ?_
  rintro e w3 ⟨rfl, hb3⟩
  have hb := hb2.trans (hb3.mono hb2.size)
  have K0 : w3.cell? ⟨w.heap.size, 0, none⟩ = some (.string ⟨#[]⟩) := (hb.cell (p := ⟨w.heap.size, 0, none⟩) hsz).trans k0
  have K1 : w3.cell? ⟨w.heap.size, 1, none⟩ = some (.string ⟨#[]⟩) := (hb.cell (p := ⟨w.heap.size, 1, none⟩) hsz).trans k1
  have K2 : w3.cell? ⟨w.heap.size, 2, none⟩ = some (.bool false) := (hb.cell (p := ⟨w.heap.size, 2, none⟩) hsz).trans k2
  have F0 : w3.frozen? ⟨w.heap.size, 0, none⟩ = false := (hb.frozen (p := ⟨w.heap.size, 0, none⟩) hsz).trans (f0 0 (by omega))
  have F1 : w3.frozen? ⟨w.heap.size, 1, none⟩ = false := (hb.frozen (p := ⟨w.heap.size, 1, none⟩) hsz).trans (f0 1 (by omega))
  have F2 : w3.frozen? ⟨w.heap.size, 2, none⟩ = false := (hb.frozen (p := ⟨w.heap.size, 2, none⟩) hsz).trans (f0 2 (by omega))
  have hB3 : Below w.heap.size w w3 := hB1.trans (hb.mono hB1.size)
  have hsz3 : w.heap.size < w3.heap.size := Nat.lt_of_lt_of_le hsz hb.size
  clear f0 k0 k1 k2
  go_wp2
  refine bodyPost_ret (v := .agg #[.string x, .string y, .bool h]) (by simp [results, Tryz.results57, go_sem, K0, K1, K2, hsz3]) rfl ⟨rfl, ?_⟩
  exact ((hB3.setCell (Nat.le_refl _) _).setCell (Nat.le_refl _) _).setCell (Nat.le_refl _) _

end Tg
end Go.Proofs.YtlnlhhobmgiceaaGreatDoor

/-
  target: Query.
-/
set_option linter.unusedVariables false
set_option linter.unusedSimpArgs false
namespace Go.Proofs.YtlnlhhobmgiceaaGreatDoor
open Go.RowKit Go.Shelf
attribute [local go_sem] Oper.semAt_some
namespace Tg
open Oc

def qs (k : List (List UInt8)) : List Prm := (k.filter fun z => decide (z ≠ [])).map pairR
def queryR (l : List UInt8) : List Prm × Nat × Int := if (chk queryOk 54 l).2 = 0 then (qs (splitB 38 l), 0, 0) else ([], (chk queryOk 54 l).1, (chk queryOk 54 l).2)
theorem qs_none (k : List (List UInt8)) (z : List UInt8) (h : z = []) : qs (k ++ [z]) = qs k := by
  unfold qs; rw [List.filter_append]; simp [h]
theorem qs_one (k : List (List UInt8)) (z : List UInt8) (h : z ≠ []) : qs (k ++ [z]) = qs k ++ [pairR z] := by
  unfold qs; rw [List.filter_append, List.map_append]; simp [h]
theorem qs_len (k : List (List UInt8)) : (qs k).length ≤ k.length := by
  unfold qs; rw [List.length_map]; exact List.length_filter_le _ _
theorem chk_zero (ok : UInt8 → Bool) (e : Int) (l : List UInt8) (he : e ≠ 0) (h : (chk ok e l).2 = 0) : (chk ok e l).1 = 0 := by
  unfold chk at *
  split at h
  · dsimp only at h; split at h <;> omega
  · rfl

theorem own_mono3 {w : World} {b b' : Nat} {e : TypeId} {v : Value} {n : Nat} {xs : List Value} (h : w.ownsRow b e 3 v n xs) (hb : b' ≤ b) : w.ownsRow b' e 3 v n xs :=
  ⟨h.1, h.2.imp id fun ⟨g, c, cur, e, hg, r⟩ => ⟨g, c, cur, e, Nat.le_trans hb hg, r⟩⟩
theorem coll3 {W w1 : World} {n₀ N B : Nat} {t e : TypeId} {v v' : Value} {k m : Nat} {xs ys : List Value} {tmp : Obj}
    (hv : Boxed W B t v) (hte : t ≠ e) (hrow : W.ownsRow N e 3 v k xs) (hn : n₀ ≤ N) (hN : N ≤ W.heap.size) (hB : n₀ ≤ B)
    (hown' : w1.ownsRow N e 3 v' m ys) (hgrow : (W.alloc tmp).grownBy w1 v.ownBlock) :
    Boxed w1 B t v ∧ Boxed (w1.setCell ⟨B, 0, none⟩ v') B t v' ∧ (w1.setCell ⟨B, 0, none⟩ v').ownsRow N e 3 v' m ys ∧ KeepsOthers W (w1.setCell ⟨B, 0, none⟩ v') ∧ Below n₀ W (w1.setCell ⟨B, 0, none⟩ v') ∧
    (∀ b, b < N → b ≠ B → Keep b W (w1.setCell ⟨B, 0, none⟩ v')) := by
  obtain ⟨hv1, hv2, _, hk2, hb2⟩ := hv.appended hte (own_mono3 hrow hn) (Nat.le_trans hn hN) hB (own_mono3 hown' hn) hgrow
  refine ⟨hv1, hv2, hown'.kept (grownBy_setCell' w1 B v') (.inr (hv1.not_row hte hown').symm), hk2, hb2, ?_⟩
  intro b hb hne
  have hbW : b < W.heap.size := Nat.lt_of_lt_of_le hb hN
  have h1 : some b ≠ v.ownBlock := by
    intro e'
    have := (hrow.lt b e'.symm).1
    omega
  exact ((grownBy_setCell' w1 B v').block b (Nat.lt_of_lt_of_le (by simpa using Nat.lt_succ_of_lt hbW) hgrow.size) (fun e => hne (Option.some.inj e))).trans ((hgrow.block b (by simpa using Nat.lt_succ_of_lt hbW) h1).trans (Below.heap_alloc _ _ _ hbW))
theorem OwnRow.below3 {B : Nat} {e : TypeId} {v : Value} {n : Nat} {xs : List Value} {w w' : World} (h : w.ownsRow B e 3 v n xs) (hb : Below w.heap.size w w') : w'.ownsRow B e 3 v n xs :=
  ⟨h.1, h.2.imp id fun ⟨g, c, cur, e, hg, hh, r⟩ => ⟨g, c, cur, e, hg, (hb.block g (Array.getElem?_eq_some_iff.1 hh).1).trans hh, r⟩⟩
theorem cell_three_new (W : World) (p : Prm) (n1 n2 : ByteArray) (b : Bool) (h1 : n1 = str p.1) (h2 : n2 = str p.2.1) (h3 : b = p.2.2) (t : TypeId) : ∀ (j : Nat) (u : Value), (encQ1 p)[j]? = some u → (W.alloc (.cells #[.string n1, .string n2, .bool b] t)).cell? ((⟨W.heap.size, 0, none⟩ : Addr).add j) = some u := by
  subst h1 h2 h3
  intro j u hj
  unfold encQ1 at hj
  match j, hj with
  | 0, hj => simp at hj; subst hj; simp [Addr.add]
  | 1, hj => simp at hj; subst hj; simp [Addr.add]
  | 2, hj => simp at hj; subst hj; simp [Addr.add]
theorem one_cells (p : Prm) : ∀ u ∈ encQ1 p, u.oneCell' = true := by
  intro u hu
  unfold encQ1 at hu
  simp at hu
  rcases hu with rfl | rfl | rfl <;> rfl

theorem stepIn_append {F : Fence} {nF : Nat} {P : Program} (w : World) {ops : Array Oper} {o : Oper} {a : Act} {K : Act → World → Prop} {Q : Exit → Act → World → Prop} {E : Prop} (hgd : o.guard = none) (s x : Operand) (t : TypeId)
    (ho : o.op = .call { callee := .builtin .append, args := #[s, x], argTypes := #[t, t] }) (v v' y : Value) (w' : World)
    (hrun : ∀ ty, ty = o.type → (Builtin.append_ #[t, t] ty #[v, y]).run P w = .ok v' w') (hs : a.eval s = v) (hx : a.eval x = y) (h : K (a.put o.dst v') w') :
    if Region.wanted o (yielded ops a.tmps) = true then Oper.wpIn F nF P o a w K Q else E := by
  have hw : Region.wanted o (yielded ops a.tmps) = true := by simp [Region.wanted, hgd]
  rw [if_pos hw]
  unfold Oper.wpIn
  refine ⟨by simp [Oper.about, ho, resolve, Target.leads, Sem.run_pure], ?_⟩
  rw [Oper.semAt_plain F _ _ (by rw [ho]; intro c hc'; cases hc')]
  simp [execOp, ho, resolve, invoke, builtin, hs, hx, hrun, Result.andThen]
  exact h

set_option maxRecDepth 100000 in
set_option maxHeartbeats 8000000 in
theorem Query_any (s : ByteArray) (hs : s.size ≤ 16777216) (w : World) (hm : ML w) :
    Calls Tryz.prog 25 #[.string s] w fun e w' => ∃ v, e = .returned (.tuple #[v, .int .i64 ((queryR s.data.toList).2.1 : Int), .int .i64 (queryR s.data.toList).2.2]) ∧ OwnQ 47 w.heap.size v (queryR s.data.toList).1 w' ∧ Below w.heap.size w w' := by
  obtain ⟨i1, hj, hy0, hy1, hy2⟩ := info_parts infoQ
  have HI : Hid (∀ w, _) := fun w => check_any s (by omega) 31 queryOk ok_query query37 54 w
  by_cases hp : (chk queryOk 54 s.data.toList).2 = 0
  · have hR : queryR s.data.toList = (qs (splitB 38 s.data.toList), 0, 0) := by unfold queryR; rw [if_pos hp]
    rw [hR]
    have hp1 := chk_zero queryOk 54 _ (by decide) hp
    rw [hp, hp1] at HI
    clear hR hp hp1
    dsimp only
    have HS : Hid (∀ w, _) := fun w => pieces_any s ⟨#[38]⟩ w
    refine (callsIn_wide (n := 9)).1 ?_
    refine callsIn_of_wp_marks Tryz.func25 rfl trivial ?_ rfl
    simp only [Tryz.ntmps25, List.size_toArray, List.length_cons, List.length_nil, Nat.reduceAdd, Nat.reduceSub, Array.replicate_succ, Array.replicate_zero, List.push_toArray, List.append_toArray, List.nil_append, List.cons_append]
    have hq : ∀ (k : Nat) (cs : Array Value) (W : World), (binOp .eql 104 (.func (.func k) #[] cs) .nilFunc).run Tryz.prog W = .ok (.bool false) W := fun k cs W => by kernel_rfl
    gi_wp2_with (refine ⟨trivial, ?_⟩; gi_at_call 55; refine (callsIn_wide.2 (HI.out _)).mono ?_; rintro e w1 ⟨rfl, hb1⟩)
    obtain ⟨w4, hw4⟩ : ∃ w4, w4 = ((w1.alloc (.cells #[.slice none 0 0] 34)).alloc (.cells #[.string s] 9)).alloc (.cells #[.string ⟨#[38]⟩] 9) := ⟨_, rfl⟩
    have hsz4 : w4.heap.size = w1.heap.size + 3 := by rw [hw4]; simp
    have b0 : Boxed w4 w1.heap.size 34 (.slice none 0 0) := by rw [hw4]; exact ((Boxed.new w1 _ _).alloc _).alloc _
    have b1 : w4.cell? ⟨w1.heap.size + 1, 0, none⟩ = some (.string s) := by rw [hw4]; have := ((Boxed.new (w1.alloc (.cells #[.slice none 0 0] 34)) 9 (.string s)).alloc (.cells #[.string ⟨#[38]⟩] 9)).cell; rwa [World.size_alloc] at this
    have b2 : w4.cell? ⟨w1.heap.size + 2, 0, none⟩ = some (.string ⟨#[38]⟩) := by rw [hw4]; have := (Boxed.new ((w1.alloc (.cells #[.slice none 0 0] 34)).alloc (.cells #[.string s] 9)) 9 (.string ⟨#[38]⟩)).cell; rwa [World.size_alloc, World.size_alloc] at this
    have hB4 : Below w1.heap.size w1 w4 := by
      rw [hw4]
      exact (((Below.refl _ w1).alloc (Nat.le_refl _) _).alloc (by simp) _).alloc (by simp; omega) _
    have hM4 : ML w4 := (hm.below hb1).below hB4
    have HW4 : Hid (_ = _) := hw4
    have hG := (hm.below hb1).lt
    clear hw4
    gi_wp2_with (refine ⟨trivial, ?_⟩; gi_at_call 56; refine (callsIn_wide.2 (HS.out _)).mono ?_; rintro e w3 ⟨rfl, e3⟩; have e4 := e3.trans HW4.out.symm; subst e4; clear e3)
    simp only [Nat.add_assoc, Nat.reduceAdd]
    clear HW4 HI HS
    have hb0 : Below w.heap.size w w3 := hb1.trans (hB4.mono hb1.size)
    have hn1 := hb1.size
    generalize hN : w1.heap.size = n1 at *
    refine wpIn_rangeFunc_ownG rfl (by omega) (gf := 83) (lb := #[.pointer (some ⟨n1 + 1, 0, none⟩), .pointer (some ⟨n1 + 2, 0, none⟩)]) rfl trivial (enters_of Tryz.func83 (by kernel_rfl) rfl)
      (pieces_stops 8 (n1 + 1) (n1 + 2) 38 s (by omega) _ hM4 b1 b2) keep3_t (keep3_b (by omega) (by omega) (by omega)) (Below.refl _ _) (fun _ => rfl)
      (fun (pre : List (Pz s.size)) W => (∃ v, Boxed W n1 34 v ∧ W.ownsRow (n1 + 3) 47 3 v (qs (pre.map Pz.z)).length (encQ (qs (pre.map Pz.z))) ∧ True) ∧ (Below w.heap.size w W ∧ n1 + 3 ≤ W.heap.size))
      (fun _ _ _ => False)
      (OwnFrom.and (Own.from (holdsRow_own (n1 + 3) n1 34 47 3 (fun pre : List (Pz s.size) => (qs (pre.map Pz.z)).length) (fun pre => encQ (qs (pre.map Pz.z))) (fun _ _ => True)) _) (OwnFrom.and (ownFrom_below (Nat.le_refl _) (by omega)) (fun _ _ _ _ h hg _ => Nat.le_trans h hg.size)))
      (fun _ _ _ _ _ hs _ _ => hs)
      ⟨⟨_, b0, World.ownsRow_nil _ _ _ _, trivial⟩, hb0, by omega⟩
      (fun x : Pz s.size => { tmps := #[.string s, undef, .slice none 0 0, .int .i64 0, .int .i64 0, .int .i64 0, .int .i64 0, .pointer (some ⟨n1, 0, none⟩), .string (str x.z), .tuple #[.int .i64 0, .int .i64 0], .string s, .tuple #[.int .i64 0, .int .i64 0], .int .i64 0, .int .i64 0, .int .i64 0, .bool false, undef, undef, .string s, .func (.func 83) #[] #[.pointer (some ⟨n1 + 1, 0, none⟩), .pointer (some ⟨n1 + 2, 0, none⟩)], .string (str x.z), undef, undef, undef, undef, undef, undef, undef, undef], defers := [] }) ?assign ?body ?done ?stop
    case assign =>
      intro l x W K hK
      unfold encP
      gi_wp2
      exact hK
    case body =>
      rintro l pre x W ⟨⟨v, hv, hrow, _⟩, hB, hS⟩ hlt
      have hxl := x.le
      by_cases hz : x.z = []
      · have hX : str x.z = ⟨#[]⟩ := by rw [hz]; rfl
        have hQ : qs ((pre ++ [x]).map Pz.z) = qs (pre.map Pz.z) := by rw [List.map_append]; exact qs_none _ _ hz
        rw [hX]
        gi_wp2
        refine ⟨(KeepsOthers.refl _).from _, ⟨Keep.refl _ _, Keep.refl _ _, Keep.refl _ _⟩, ⟨_, hv, ?_, trivial⟩, hB, hS⟩
        rw [hQ]
        exact hrow
      · have hQ : qs ((pre ++ [x]).map Pz.z) = qs (pre.map Pz.z) ++ [pairR x.z] := by rw [List.map_append]; exact qs_one _ _ hz
        have hXn : (str x.z).toList.isEmpty = false := by
          rw [ByteArray.toList_eq, str_list]
          cases h : x.z with
          | nil => exact absurd h hz
          | cons => rfl
        have hXt : (!(str x.z).toList.isEmpty) = true := by rw [hXn]; rfl
        have hM : ML W := hm.below hB
        have HD : Hid (∀ W, ML W → Calls Tryz.prog 57 #[.string (str x.z)] W fun e W' => e = .returned (.agg #[.string (str (pairR x.z).1), .string (str (pairR x.z).2.1), .bool (pairR x.z).2.2]) ∧ Below W.heap.size W W') := fun W h => by
          have := readPair_any (str x.z) (by rw [str_size]; omega) W h
          rw [str_list] at this
          exact this
        have hql := qs_len (pre.map Pz.z)
        rw [List.length_map] at hql
        have hlv : ∃ a c, v = .slice a (qs (pre.map Pz.z)).length c := by
          rcases hrow.2 with ⟨rfl, e⟩ | ⟨g, c, _, rfl, _⟩
          · exact ⟨none, 0, by rw [e]⟩
          · exact ⟨_, c, rfl⟩
        obtain ⟨av, cv, rfl⟩ := hlv
        generalize str x.z = X at *
        generalize hP : pairR x.z = P at *
        generalize hY1 : str P.1 = Y1 at *
        generalize hY2 : str P.2.1 = Y2 at *
        generalize hY3 : P.2.2 = Y3 at *
        generalize qs (pre.map Pz.z) = qq at *
        have hvd : Boxed W.drew n1 34 (.slice av qq.length cv) := hv
        have hrd : W.drew.ownsRow (n1 + 3) 47 3 (.slice av qq.length cv) qq.length (encQ qq) := hrow
        have hMd : ML W.drew := hM
        have hkd : KeepsOthers W W.drew := KeepsOthers.drew W
        have hBd : Below w.heap.size w W.drew := hB.drew
        have hSd : n1 + 3 ≤ W.drew.heap.size := hS
        have hKd : ∀ b, Keep b W W.drew := fun b => rfl
        have hcd := hvd.cell
        gi_wp2
        refine wpIn_region_any (by kernel_rfl) ?_
        try (change wpAnyIn _ _ _ _ _ _ _ _ _ (World.drew _))
        refine wpAnyIn_ready (rs := [0, 1]) (by kernel_rfl) (by simp) ?_
        refine AllReadyIn.cons rfl (fun K hK => ?_) ?_
        · skip
          go_simp
          refine hK _ _ ?_
          clear hK K
          refine wpAnyIn_ready (rs := [1]) (by kernel_rfl) (by simp) ?_
          refine AllReadyIn.cons rfl (fun K hK => ?_) ?_
          · skip
            go_simp
            refine hK _ _ ?_
            clear hK K
            refine wpAnyIn_ready (rs := [2]) (by kernel_rfl) (by simp) ?_
            refine AllReadyIn.cons rfl (fun K hK => ?_) ?_
            · skip
              go_simp
              gi_wp2_with (refine ⟨trivial, ?_⟩; gi_at_call 57; refine ((callsIn_wide.2 (HD.out _ hMd)).inRound l).mono ?_; rintro e W1 ⟨rfl, k1⟩; have hv1 := box_below hvd k1 hvd.lt; have hr1 := OwnRow.below3 hrd k1; have hs1 := k1.size; have hc := hv1.cell; have hca := (hv1.alloc (.cells #[.string Y1, .string Y2, .bool Y3] 47)).cell; have hk1 : KeepsOthers W W1 := hkd.trans (Fr.of_below (b := 0) k1 (Nat.le_refl _)).others)
              try (refine hK _ _ ?_; clear hK K)
              refine wpAnyIn_ready (rs := [3]) (by kernel_rfl) (by simp) ?_
              refine AllReadyIn.cons rfl (fun K hK => ?_) ?_
              · skip
                go_simp
                refine hK _ _ ?_
                clear hK K
                refine wpAnyIn_ready (rs := [4]) (by kernel_rfl) (by simp) ?_
                refine AllReadyIn.cons rfl (fun K hK => ?_) ?_
                · skip
                  obtain ⟨v', w5, hrun, hown', hgrow, _⟩ := run_append_own (P := Tryz.prog) (W1.alloc (.cells #[.string Y1, .string Y2, .bool Y3] 47)) (n1 + 3) 34 34 47 i1 (.agg #[.string ⟨#[]⟩, .string ⟨#[]⟩, .bool false]) 3 40 Tryz.underlying34 hj hy0 hy1 hy2 rfl (by decide) _ _ _ (hr1.alloc _) ⟨W1.heap.size, 0, none⟩ 1 1 (encQ1 P) rfl (cell_three_new _ P _ _ _ hY1.symm hY2.symm hY3.symm _) (one_cells P) (by unfold maxLen; omega) (by omega) (by simp; omega)
                  obtain ⟨g', cap', rfl⟩ := ownsRow_succ hown'
                  obtain ⟨hv2, hv3, hr3, hk3, hb3, hkp⟩ := coll3 (n₀ := n1) hv1 (by decide) hr1 (by omega) (by omega) (Nat.le_refl _) hown' hgrow
                  have hc2 := hv2.cell
                  have hf2 := hv2.frozen
                  refine stepIn_append _ rfl (.tmp 23) (.tmp 26) 34 rfl _ _ _ _ (fun ty e => by subst e; exact hrun) rfl rfl ?_
                  refine hK _ _ ?_
                  clear hK K
                  refine wpAnyIn_ready (rs := [5]) (by kernel_rfl) (by simp) ?_
                  refine AllReadyIn.cons rfl (fun K hK => ?_) ?_
                  · skip
                    go_simp
                    refine hK _ _ ?_
                    clear hK K
                    refine wpAnyIn_done (by kernel_rfl) ?_ _
                    gi_wp2
                    have hG1 : 1 < n1 := hG
                    refine ⟨(hk1.trans hk3).from _, ⟨(Keep.below k1 (by omega)).trans (hkp _ (by omega) (by omega)), (Keep.below k1 (by omega)).trans (hkp _ (by omega) (by omega)), (Keep.below k1 (by omega)).trans (hkp _ (by omega) (by omega))⟩, ⟨_, hv3, ?_, trivial⟩, hBd.trans ((k1.mono (by omega)).trans (hb3.mono (by omega))), Nat.le_trans hSd (Nat.le_trans hs1 hk3.size)⟩
                    rw [hQ, encQ_snoc, List.length_append]
                    exact hr3
                  exact AllReadyIn.nil
                exact AllReadyIn.nil
              exact AllReadyIn.nil
            exact AllReadyIn.nil
          exact AllReadyIn.nil
        refine AllReadyIn.cons rfl (fun K hK => ?_) ?_
        · skip
          go_simp
          refine hK _ _ ?_
          clear hK K
          refine wpAnyIn_ready (rs := [0, 2]) (by kernel_rfl) (by simp) ?_
          refine AllReadyIn.cons rfl (fun K hK => ?_) ?_
          · skip
            go_simp
            refine hK _ _ ?_
            clear hK K
            refine wpAnyIn_ready (rs := [2]) (by kernel_rfl) (by simp) ?_
            refine AllReadyIn.cons rfl (fun K hK => ?_) ?_
            · skip
              go_simp
              gi_wp2_with (refine ⟨trivial, ?_⟩; gi_at_call 57; refine ((callsIn_wide.2 (HD.out _ hMd)).inRound l).mono ?_; rintro e W1 ⟨rfl, k1⟩; have hv1 := box_below hvd k1 hvd.lt; have hr1 := OwnRow.below3 hrd k1; have hs1 := k1.size; have hc := hv1.cell; have hca := (hv1.alloc (.cells #[.string Y1, .string Y2, .bool Y3] 47)).cell; have hk1 : KeepsOthers W W1 := hkd.trans (Fr.of_below (b := 0) k1 (Nat.le_refl _)).others)
              try (refine hK _ _ ?_; clear hK K)
              refine wpAnyIn_ready (rs := [3]) (by kernel_rfl) (by simp) ?_
              refine AllReadyIn.cons rfl (fun K hK => ?_) ?_
              · skip
                go_simp
                refine hK _ _ ?_
                clear hK K
                refine wpAnyIn_ready (rs := [4]) (by kernel_rfl) (by simp) ?_
                refine AllReadyIn.cons rfl (fun K hK => ?_) ?_
                · skip
                  obtain ⟨v', w5, hrun, hown', hgrow, _⟩ := run_append_own (P := Tryz.prog) (W1.alloc (.cells #[.string Y1, .string Y2, .bool Y3] 47)) (n1 + 3) 34 34 47 i1 (.agg #[.string ⟨#[]⟩, .string ⟨#[]⟩, .bool false]) 3 40 Tryz.underlying34 hj hy0 hy1 hy2 rfl (by decide) _ _ _ (hr1.alloc _) ⟨W1.heap.size, 0, none⟩ 1 1 (encQ1 P) rfl (cell_three_new _ P _ _ _ hY1.symm hY2.symm hY3.symm _) (one_cells P) (by unfold maxLen; omega) (by omega) (by simp; omega)
                  obtain ⟨g', cap', rfl⟩ := ownsRow_succ hown'
                  obtain ⟨hv2, hv3, hr3, hk3, hb3, hkp⟩ := coll3 (n₀ := n1) hv1 (by decide) hr1 (by omega) (by omega) (Nat.le_refl _) hown' hgrow
                  have hc2 := hv2.cell
                  have hf2 := hv2.frozen
                  refine stepIn_append _ rfl (.tmp 23) (.tmp 26) 34 rfl _ _ _ _ (fun ty e => by subst e; exact hrun) rfl rfl ?_
                  refine hK _ _ ?_
                  clear hK K
                  refine wpAnyIn_ready (rs := [5]) (by kernel_rfl) (by simp) ?_
                  refine AllReadyIn.cons rfl (fun K hK => ?_) ?_
                  · skip
                    go_simp
                    refine hK _ _ ?_
                    clear hK K
                    refine wpAnyIn_done (by kernel_rfl) ?_ _
                    gi_wp2
                    have hG1 : 1 < n1 := hG
                    refine ⟨(hk1.trans hk3).from _, ⟨(Keep.below k1 (by omega)).trans (hkp _ (by omega) (by omega)), (Keep.below k1 (by omega)).trans (hkp _ (by omega) (by omega)), (Keep.below k1 (by omega)).trans (hkp _ (by omega) (by omega))⟩, ⟨_, hv3, ?_, trivial⟩, hBd.trans ((k1.mono (by omega)).trans (hb3.mono (by omega))), Nat.le_trans hSd (Nat.le_trans hs1 hk3.size)⟩
                    rw [hQ, encQ_snoc, List.length_append]
                    exact hr3
                  exact AllReadyIn.nil
                exact AllReadyIn.nil
              exact AllReadyIn.nil
            exact AllReadyIn.nil
          refine AllReadyIn.cons rfl (fun K hK => ?_) ?_
          · skip
            go_simp
            gi_wp2_with (refine ⟨trivial, ?_⟩; gi_at_call 57; refine ((callsIn_wide.2 (HD.out _ hMd)).inRound l).mono ?_; rintro e W1 ⟨rfl, k1⟩; have hv1 := box_below hvd k1 hvd.lt; have hr1 := OwnRow.below3 hrd k1; have hs1 := k1.size; have hc := hv1.cell; have hca := (hv1.alloc (.cells #[.string Y1, .string Y2, .bool Y3] 47)).cell; have hk1 : KeepsOthers W W1 := hkd.trans (Fr.of_below (b := 0) k1 (Nat.le_refl _)).others)
            try (refine hK _ _ ?_; clear hK K)
            refine wpAnyIn_ready (rs := [0, 3]) (by kernel_rfl) (by simp) ?_
            refine AllReadyIn.cons rfl (fun K hK => ?_) ?_
            · skip
              go_simp
              refine hK _ _ ?_
              clear hK K
              refine wpAnyIn_ready (rs := [3]) (by kernel_rfl) (by simp) ?_
              refine AllReadyIn.cons rfl (fun K hK => ?_) ?_
              · skip
                go_simp
                refine hK _ _ ?_
                clear hK K
                refine wpAnyIn_ready (rs := [4]) (by kernel_rfl) (by simp) ?_
                refine AllReadyIn.cons rfl (fun K hK => ?_) ?_
                · skip
                  obtain ⟨v', w5, hrun, hown', hgrow, _⟩ := run_append_own (P := Tryz.prog) (W1.alloc (.cells #[.string Y1, .string Y2, .bool Y3] 47)) (n1 + 3) 34 34 47 i1 (.agg #[.string ⟨#[]⟩, .string ⟨#[]⟩, .bool false]) 3 40 Tryz.underlying34 hj hy0 hy1 hy2 rfl (by decide) _ _ _ (hr1.alloc _) ⟨W1.heap.size, 0, none⟩ 1 1 (encQ1 P) rfl (cell_three_new _ P _ _ _ hY1.symm hY2.symm hY3.symm _) (one_cells P) (by unfold maxLen; omega) (by omega) (by simp; omega)
                  obtain ⟨g', cap', rfl⟩ := ownsRow_succ hown'
                  obtain ⟨hv2, hv3, hr3, hk3, hb3, hkp⟩ := coll3 (n₀ := n1) hv1 (by decide) hr1 (by omega) (by omega) (Nat.le_refl _) hown' hgrow
                  have hc2 := hv2.cell
                  have hf2 := hv2.frozen
                  refine stepIn_append _ rfl (.tmp 23) (.tmp 26) 34 rfl _ _ _ _ (fun ty e => by subst e; exact hrun) rfl rfl ?_
                  refine hK _ _ ?_
                  clear hK K
                  refine wpAnyIn_ready (rs := [5]) (by kernel_rfl) (by simp) ?_
                  refine AllReadyIn.cons rfl (fun K hK => ?_) ?_
                  · skip
                    go_simp
                    refine hK _ _ ?_
                    clear hK K
                    refine wpAnyIn_done (by kernel_rfl) ?_ _
                    gi_wp2
                    have hG1 : 1 < n1 := hG
                    refine ⟨(hk1.trans hk3).from _, ⟨(Keep.below k1 (by omega)).trans (hkp _ (by omega) (by omega)), (Keep.below k1 (by omega)).trans (hkp _ (by omega) (by omega)), (Keep.below k1 (by omega)).trans (hkp _ (by omega) (by omega))⟩, ⟨_, hv3, ?_, trivial⟩, hBd.trans ((k1.mono (by omega)).trans (hb3.mono (by omega))), Nat.le_trans hSd (Nat.le_trans hs1 hk3.size)⟩
                    rw [hQ, encQ_snoc, List.length_append]
                    exact hr3
                  exact AllReadyIn.nil
                exact AllReadyIn.nil
              exact AllReadyIn.nil
            refine AllReadyIn.cons rfl (fun K hK => ?_) ?_
            · skip
              go_simp
              refine hK _ _ ?_
              clear hK K
              refine wpAnyIn_ready (rs := [0]) (by kernel_rfl) (by simp) ?_
              refine AllReadyIn.cons rfl (fun K hK => ?_) ?_
              · skip
                go_simp
                refine hK _ _ ?_
                clear hK K
                refine wpAnyIn_ready (rs := [4]) (by kernel_rfl) (by simp) ?_
                refine AllReadyIn.cons rfl (fun K hK => ?_) ?_
                · skip
                  obtain ⟨v', w5, hrun, hown', hgrow, _⟩ := run_append_own (P := Tryz.prog) (W1.alloc (.cells #[.string Y1, .string Y2, .bool Y3] 47)) (n1 + 3) 34 34 47 i1 (.agg #[.string ⟨#[]⟩, .string ⟨#[]⟩, .bool false]) 3 40 Tryz.underlying34 hj hy0 hy1 hy2 rfl (by decide) _ _ _ (hr1.alloc _) ⟨W1.heap.size, 0, none⟩ 1 1 (encQ1 P) rfl (cell_three_new _ P _ _ _ hY1.symm hY2.symm hY3.symm _) (one_cells P) (by unfold maxLen; omega) (by omega) (by simp; omega)
                  obtain ⟨g', cap', rfl⟩ := ownsRow_succ hown'
                  obtain ⟨hv2, hv3, hr3, hk3, hb3, hkp⟩ := coll3 (n₀ := n1) hv1 (by decide) hr1 (by omega) (by omega) (Nat.le_refl _) hown' hgrow
                  have hc2 := hv2.cell
                  have hf2 := hv2.frozen
                  refine stepIn_append _ rfl (.tmp 23) (.tmp 26) 34 rfl _ _ _ _ (fun ty e => by subst e; exact hrun) rfl rfl ?_
                  refine hK _ _ ?_
                  clear hK K
                  refine wpAnyIn_ready (rs := [5]) (by kernel_rfl) (by simp) ?_
                  refine AllReadyIn.cons rfl (fun K hK => ?_) ?_
                  · skip
                    go_simp
                    refine hK _ _ ?_
                    clear hK K
                    refine wpAnyIn_done (by kernel_rfl) ?_ _
                    gi_wp2
                    have hG1 : 1 < n1 := hG
                    refine ⟨(hk1.trans hk3).from _, ⟨(Keep.below k1 (by omega)).trans (hkp _ (by omega) (by omega)), (Keep.below k1 (by omega)).trans (hkp _ (by omega) (by omega)), (Keep.below k1 (by omega)).trans (hkp _ (by omega) (by omega))⟩, ⟨_, hv3, ?_, trivial⟩, hBd.trans ((k1.mono (by omega)).trans (hb3.mono (by omega))), Nat.le_trans hSd (Nat.le_trans hs1 hk3.size)⟩
                    rw [hQ, encQ_snoc, List.length_append]
                    exact hr3
                  exact AllReadyIn.nil
                exact AllReadyIn.nil
              exact AllReadyIn.nil
            exact AllReadyIn.nil
          exact AllReadyIn.nil
        exact AllReadyIn.nil
    case done =>
      rintro D ys W hD hys ⟨⟨v, hv, hrow, _⟩, hB, hS⟩ hK
      have hc := hv.cell
      gi_wp2
      refine ⟨by simp, .inl ⟨_, _, rfl, run_takeDeferred hK, ?_⟩⟩
      refine ⟨.tuple #[v, .int .i64 0, .int .i64 0], by simp [results, Tryz.results25, go_sem], v, rfl, ?_, below_put hB (by omega) _⟩
      rw [← hys]
      unfold OwnQ
      exact own_mono3 (ownsRow_putObj hrow _ hK rfl) (by omega)
    case stop =>
      rintro D c pre W _ _ h _
      exact h.elim
  · have hR : queryR s.data.toList = ([], (chk queryOk 54 s.data.toList).1, (chk queryOk 54 s.data.toList).2) := by unfold queryR; rw [if_neg hp]
    rw [hR]
    dsimp only
    generalize chk queryOk 54 s.data.toList = c at *
    obtain ⟨c1, c2⟩ := c
    dsimp only at *
    have hne : (c2 != 0) = true := by simpa using hp
    clear hR
    go_enter Tryz.func25, Tryz.ntmps25
    go_wp2_with fail
    refine (HI.out _).mono ?_
    rintro e w1 ⟨rfl, hb⟩
    go_wp2
    exact bodyPost_ret (v := .tuple #[.slice none 0 0, .int .i64 (c1 : Int), .int .i64 c2]) (by simp [results, Tryz.results25, go_sem]) rfl ⟨_, rfl, ownQ_nil _ _ _, hb⟩

end Tg
end Go.Proofs.YtlnlhhobmgiceaaGreatDoor
