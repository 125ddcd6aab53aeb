/- Several texts as one. -/
import Derived.Test.YtdbnlpnnfnodnaaGreatDoorCkM
import Derived.Deep.RegionWith
import Derived.Test.YtdbnlpnnfnodnaaGreatDoorAlike
import Derived.Test.YtdbnlpnnfnodnaaGreatDoorFR1
import Derived.Test.YtdbnlpnnfnodnaaGreatDoorQLen
import Derived.Test.YtdbnlpnnfnodnaaGreatDoorLPlain
import Derived.Test.YtdbnlpnnfnodnaaGreatDoorMgA
import Derived.Test.YtdbnlpnnfnodnaaGreatDoorCkK
import Derived.Test.YtdbnlpnnfnodnaaGreatDoorCkL
import Derived.Test.YtdbnlpnnfnodnaaGreatDoorRows
import Derived.Test.YtdbnlpnnfnodnaaGreatDoorCkA
import Derived.OpenShut
import Derived.SliceStrings
import Derived.Carry
import Derived.ChangeSlices
import Derived.ChangeOld
import Derived.Deep.Strs
import Derived.Deep.DeepHandedRow
import Derived.Lay
import Derived.Stop.Joined
/-
  Of the document: hex.
-/
set_option linter.unusedVariables false
set_option linter.unusedSimpArgs false
set_option maxRecDepth 100000
namespace Go.Proofs.YtdbnlpnnfnodnaaGreatDoor
open Go.RowKit Go.Shelf
namespace Ck
open Oc Tg _root_.Go.Proofs.YtdbnlpnnfnodnaaGreatDoor.Fd

def digs : List UInt8 := [48, 49, 50, 51, 52, 53, 54, 55, 56, 57, 97, 98, 99, 100, 101, 102]
/-- What a hexadecimal digit says; -1: it is none. -/
def hexV (c : UInt8) : Int := if hexB c then valI (c.toNat : Int) else -1
theorem hexV_all : ∀ n : Fin 256, hexV (UInt8.ofNat n.val) = match digs.findIdx? (· == lowB (UInt8.ofNat n.val)) with | some k => (k : Int) | none => -1 := by decide +kernel
theorem hexV_eq (c : UInt8) : hexV c = match digs.findIdx? (· == lowB c) with | some k => (k : Int) | none => -1 := by
  have h := hexV_all ⟨c.toNat, c.toNat_lt⟩
  simpa using h
theorem hexV_hit (c : UInt8) (k : Nat) (hk : k < 16) (h1 : digs.getD k 0 = lowB c) (h2 : ∀ j, j < k → digs.getD j 0 ≠ lowB c) : hexV c = k := by
  rw [hexV_eq]
  have : digs.findIdx? (· == lowB c) = some k := by
    rw [List.findIdx?_eq_some_iff_getElem]
    refine ⟨hk, ?_, fun j hj => ?_⟩
    · have : digs[k]'hk = digs.getD k 0 := by rw [List.getD_eq_getElem?_getD, List.getElem?_eq_getElem hk]; rfl
      rw [this, h1]
      simp
    · have hj16 : j < digs.length := Nat.lt_trans hj hk
      have : digs[j]'hj16 = digs.getD j 0 := by rw [List.getD_eq_getElem?_getD, List.getElem?_eq_getElem hj16]; rfl
      rw [this]
      simpa using h2 j hj
  rw [this]
theorem hexV_miss (c : UInt8) (h : ∀ j, j < 16 → digs.getD j 0 ≠ lowB c) : hexV c = -1 := by
  rw [hexV_eq]
  have : digs.findIdx? (· == lowB c) = none := by
    rw [List.findIdx?_eq_none_iff]
    intro x hx
    obtain ⟨j, hj, rfl⟩ := List.mem_iff_getElem.1 hx
    have := h j hj
    rw [List.getD_eq_getElem?_getD, List.getElem?_eq_getElem hj] at this
    simpa using this
  rw [this]

theorem dig_slice : ∀ k, k < 16 → (⟨#[48, 49, 50, 51, 52, 53, 54, 55, 56, 57, 97, 98, 99, 100, 101, 102]⟩ : ByteArray).extract k (k + 1) = str [digs.getD k 0] := fun k hk => match k, hk with
  | 0, _ => rfl
  | 1, _ => rfl
  | 2, _ => rfl
  | 3, _ => rfl
  | 4, _ => rfl
  | 5, _ => rfl
  | 6, _ => rfl
  | 7, _ => rfl
  | 8, _ => rfl
  | 9, _ => rfl
  | 10, _ => rfl
  | 11, _ => rfl
  | 12, _ => rfl
  | 13, _ => rfl
  | 14, _ => rfl
  | 15, _ => rfl
  | n + 16, h => absurd h (by omega)

set_option maxHeartbeats 2000000 in
theorem rhex_any (c : UInt8) (w : World) :
    Calls Tryz.prog 56 #[.int .u8 (c.toNat : Int)] w fun e w' => e = .returned (.int .i64 (hexV c)) ∧ Below w.heap.size w w' := by
  obtain ⟨x, hx⟩ : ∃ x, x = (c.toNat : Int) := ⟨_, rfl⟩
  have HX : Hid (x = (c.toNat : Int)) := hx
  rw [← hx]
  clear hx
  have HL : Hid (∀ w, Calls Tryz.prog 74 #[.string (str [c])] w fun e w' => e = .returned (.string (str [lowB c])) ∧ Below w.heap.size w w') := fun w => by
    have h := Fd.rLower_any (str [c]) (by rw [str_size]; simp [maxLen]) w
    unfold lowS at h
    rw [str_list] at h
    exact h
  go_enter Tryz.func56, Tryz.ntmps56
  go_wp2
  go_loopw [4] (fun i wr => ∃ k : Nat, k ≤ 16 ∧ i = .int .i64 k ∧ Hid (∀ j, j < k → digs.getD j 0 ≠ lowB c) ∧ Hid (Below w.heap.size w wr)) (fun i _ => 16 - (intOf i).toNat)
  case atStart => exact ⟨0, by omega, rfl, (fun j hj => by omega : ∀ j, j < 0 → _), Below.refl _ _⟩
  case round =>
    obtain ⟨k, hk, rfl, hno, hbl⟩ := hrel
    by_cases hlt : k < 16
    · have hcv : ∀ W : World, (convert 67 9 (.slice (some ⟨W.heap.size, 0, none⟩) 1 1)).run Tryz.prog (W.alloc (.cells #[.int .u8 x] 5)) = .ok (.string (str [c])) (W.alloc (.cells #[.int .u8 x] 5)) := fun W => own_back (own_one W x c HX.out)
      have hcv2 : (convert 67 9 (.slice (some ⟨wr.heap.size, 0, none⟩) 1 1)).run Tryz.prog (wr.alloc (.cells #[.int .u8 x] 5)).drew = .ok (.string (str [c])) (wr.alloc (.cells #[.int .u8 x] 5)).drew := own_back (B := wr.heap.size) ((But.refl [] _).drew.owns (own_one wr x c HX.out) (fun _ _ e => by cases e))
      have hwk : IntKind.i64.wrap ((k : Int) + 1) = (k : Int) + 1 := by rw [IntKind.wrap_i64]; omega
      by_cases hit : digs.getD k 0 = lowB c
      · have q : ((str [lowB c]).toList == ((⟨#[48, 49, 50, 51, 52, 53, 54, 55, 56, 57, 97, 98, 99, 100, 101, 102]⟩ : ByteArray).extract k (k + 1)).toList) = true := by
          rw [dig_slice k hlt, hit]; simp
        have HH : Hid (hexV c = k) := hexV_hit c k hlt hit hno.out
        go_wp2_with fail
        go_region_with (go_at_call 74; refine (HL.out _).mono ?_; rintro e w2 ⟨rfl, hb2⟩; have HB2 : Hid (Below w.heap.size w w2) := bel_trans hbl.out (bel_trans ((Below.refl _ wr).alloc (Nat.le_refl _) _).drew hb2); clear hb2)
        all_goals
          go_simp
          go_wp2
          go_ret
          exact ⟨ret_int (by rw [HH.out]), HB2.out⟩
      · have q : ((str [lowB c]).toList == ((⟨#[48, 49, 50, 51, 52, 53, 54, 55, 56, 57, 97, 98, 99, 100, 101, 102]⟩ : ByteArray).extract k (k + 1)).toList) = false := by
          rw [dig_slice k hlt, eq_toList, decide_eq_false_iff_not]
          intro e
          have e2 := str_inj e
          injection e2 with e2 _
          exact hit e2.symm
        have HN : Hid (∀ j, j < k + 1 → digs.getD j 0 ≠ lowB c) := (fun j hj => by
          by_cases hjk : j = k
          · subst hjk; exact hit
          · exact hno.out j (by omega) : ∀ j, j < k + 1 → digs.getD j 0 ≠ lowB c)
        go_wp2_with fail
        go_region_with (go_at_call 74; refine (HL.out _).mono ?_; rintro e w2 ⟨rfl, hb2⟩; have HB2 : Hid (Below w.heap.size w w2) := bel_trans hbl.out (bel_trans ((Below.refl _ wr).alloc (Nat.le_refl _) _).drew hb2); clear hb2)
        all_goals
          go_simp
          go_wp2
          go_roundw
          case rel => exact ⟨k + 1, by omega, by go_num, HN, HB2.out⟩
          case measure => simp [intOf]; omega
    · have HH : Hid (hexV c = -1) := hexV_miss c (fun j hj => hno.out j (by omega))
      go_wp2
      go_ret
      exact ⟨ret_int (by rw [HH.out]), hbl.out⟩

end Ck
end Go.Proofs.YtdbnlpnnfnodnaaGreatDoor

/-
  Of the document: past, sign, said.
-/
set_option linter.unusedVariables false
set_option linter.unusedSimpArgs false
set_option maxRecDepth 100000
namespace Go.Proofs.YtdbnlpnnfnodnaaGreatDoor
open Go.RowKit Go.Shelf
namespace Ck
open Oc Tg _root_.Go.Proofs.YtdbnlpnnfnodnaaGreatDoor.Fd

theorem bl_cons (c : UInt8) (l : List UInt8) : bl (c :: l) = if blankB c then bl l + 1 else 0 := by
  unfold bl
  rw [List.takeWhile_cons]
  split <;> simp
theorem tok_cons (c : UInt8) (l : List UInt8) : tokLen (c :: l) = if tokB c then tokLen l + 1 else 0 := by
  unfold tokLen
  rw [List.takeWhile_cons]
  split <;> simp

set_option maxHeartbeats 1000000 in
theorem rpast_any (s : ByteArray) (hs : s.size ≤ 4000000) (a : Nat) (ha : a ≤ s.size) (w : World) :
    Calls Tryz.prog 75 #[.string s, .int .i64 a] w fun e w' => e = .returned (.int .i64 ((a + bl (s.data.toList.drop a) : Nat) : Int)) ∧ w' = w := by
  go_enter Tryz.func75, Tryz.ntmps75
  go_wp2
  go_loop [1] (fun v => ∃ k : Nat, k ≤ s.size ∧ v = .int .i64 k ∧ Hid (a + bl (s.data.toList.drop a) = k + bl (s.data.toList.drop k))) (fun v => s.size - (intOf v).toNat)
  case atStart => exact ⟨a, ha, rfl, rfl⟩
  case round =>
    obtain ⟨k, hk, rfl, he⟩ := hrel
    by_cases hlt : k < s.size
    · have hby : ((s[k].toNat : Nat) : Int) = byt s k := byt_at s k hlt
      obtain ⟨b0, b1⟩ := byt_bd s k
      have HD : Hid (s.data.toList.drop k = s.data.toList.getD k 0 :: s.data.toList.drop (k + 1)) := drop_cons _ k (by rw [size_list]; exact hlt)
      have HB : Hid (blankB (s.data.toList.getD k 0) = blankI (byt s k)) := rfl
      cases hbk : blankI (byt s k) with
      | true =>
        have HN : Hid (a + bl (s.data.toList.drop a) = (k + 1) + bl (s.data.toList.drop (k + 1))) := by
          show _ = _
          rw [he.out, HD.out, bl_cons, HB.out, hbk]
          simp; omega
        go_wp2_with fail
        refine (rBlank_any (byt s k) b0 (by omega) _).mono ?_
        rintro e w2 ⟨rfl, hw⟩
        rw [hw, hbk]
        go_wp2
        go_round
        case rel => exact ⟨k + 1, by omega, by go_num, HN⟩
        case measure => simp [intOf]; omega
      | false =>
        have HN : Hid (a + bl (s.data.toList.drop a) = k) := by
          show _ = _
          rw [he.out, HD.out, bl_cons, HB.out, hbk]
          simp
        go_wp2_with fail
        refine (rBlank_any (byt s k) b0 (by omega) _).mono ?_
        rintro e w2 ⟨rfl, hw⟩
        rw [hw, hbk]
        go_wp2
        go_ret
        exact ⟨ret_int (by have := HN.out; omega), rfl⟩
    · have HN : Hid (a + bl (s.data.toList.drop a) = k) := by
        show _ = _
        rw [he.out, List.drop_eq_nil_of_le (by rw [size_list]; omega)]
        rfl
      go_wp2
      go_ret
      exact ⟨ret_int (by have := HN.out; omega), rfl⟩

set_option maxHeartbeats 1000000 in
theorem rsign_any (s : ByteArray) (hs : s.size ≤ 4000000) (a : Nat) (ha : a ≤ s.size) (w : World) :
    Calls Tryz.prog 76 #[.string s, .int .i64 a] w fun e w' => e = .returned (.int .i64 ((tokLen (s.data.toList.drop a) : Nat) : Int)) ∧ w' = w := by
  go_enter Tryz.func76, Tryz.ntmps76
  go_wp2
  go_loop [5] (fun v => ∃ k : Nat, a + k ≤ s.size ∧ v = .int .i64 k ∧ Hid (tokLen (s.data.toList.drop a) = k + tokLen (s.data.toList.drop (a + k)))) (fun v => s.size - (intOf v).toNat)
  case atStart => exact ⟨0, ha, rfl, (by simp : tokLen (s.data.toList.drop a) = 0 + tokLen (s.data.toList.drop (a + 0)))⟩
  case round =>
    obtain ⟨k, hk, rfl, he⟩ := hrel
    by_cases hlt : a + k < s.size
    · have hlt' : (a : Int) + (k : Int) < (s.size : Int) := by omega
      have hnn : (0 : Int) ≤ (a : Int) + (k : Int) := by omega
      have htn : ((a : Int) + (k : Int)).toNat = a + k := by omega
      have hby : ((s[a + k].toNat : Nat) : Int) = byt s (a + k) := byt_at s (a + k) hlt
      obtain ⟨b0, b1⟩ := byt_bd s (a + k)
      have HD : Hid (s.data.toList.drop (a + k) = s.data.toList.getD (a + k) 0 :: s.data.toList.drop (a + k + 1)) := drop_cons _ (a + k) (by rw [size_list]; exact hlt)
      have HB : Hid (tokB (s.data.toList.getD (a + k) 0) = tokI (byt s (a + k))) := rfl
      cases hbk : tokI (byt s (a + k)) with
      | true =>
        have HN : Hid (tokLen (s.data.toList.drop a) = (k + 1) + tokLen (s.data.toList.drop (a + (k + 1)))) := by
          show _ = _
          rw [he.out, HD.out, tok_cons, HB.out, hbk, show a + (k + 1) = a + k + 1 by omega]
          simp; omega
        go_wp2_with fail
        refine (rSign_any (byt s (a + k)) b0 (by omega) _).mono ?_
        rintro e w2 ⟨rfl, hw⟩
        rw [hw, hbk]
        go_wp2
        go_round
        case rel => exact ⟨k + 1, by omega, by go_num, HN⟩
        case measure => simp [intOf]; omega
      | false =>
        have HN : Hid (tokLen (s.data.toList.drop a) = k) := by
          show _ = _
          rw [he.out, HD.out, tok_cons, HB.out, hbk]
          simp
        go_wp2_with fail
        refine (rSign_any (byt s (a + k)) b0 (by omega) _).mono ?_
        rintro e w2 ⟨rfl, hw⟩
        rw [hw, hbk]
        go_wp2
        go_ret
        exact ⟨ret_int (by have := HN.out; omega), rfl⟩
    · have HN : Hid (tokLen (s.data.toList.drop a) = k) := by
        show _ = _
        rw [he.out, List.drop_eq_nil_of_le (by rw [size_list]; omega)]
        rfl
      have hlt' : ¬ ((a : Int) + (k : Int) < (s.size : Int)) := by omega
      go_wp2
      go_ret
      exact ⟨ret_int (by have := HN.out; omega), rfl⟩

end Ck
end Go.Proofs.YtdbnlpnnfnodnaaGreatDoor

/-
  Of the document: said; the law's sameParams.
-/
set_option linter.unusedVariables false
set_option linter.unusedSimpArgs false
set_option maxRecDepth 100000
namespace Go.Proofs.YtdbnlpnnfnodnaaGreatDoor
open Go.RowKit Go.Shelf
namespace Ck
open Oc Tg _root_.Go.Proofs.YtdbnlpnnfnodnaaGreatDoor.Fd

theorem ru_bd {l : List UInt8} {e : Bool} {x : List UInt8 × Nat} (h : ru e l = some x) : 1 ≤ x.2 ∧ x.2 ≤ l.length := by
  rw [ru_eq] at h
  obtain ⟨k, hk, rfl⟩ := Option.map_eq_some_iff.1 h
  exact qscan_pos l e k hk
theorem ru_last {l : List UInt8} {Y : List UInt8} (h : ru false l = some (Y, 1)) : Y = [] := by
  rw [ru_eq] at h
  obtain ⟨k, hk, e⟩ := Option.map_eq_some_iff.1 h
  injection e with e1 e2
  subst e2
  rw [← e1]
  rfl
theorem ru_next {c : UInt8} {l : List UInt8} {Y : List UInt8} {m : Nat} (h : ru false (c :: l) = some (Y, m)) (hm : 2 ≤ m) :
    (c = 92 ∧ 3 ≤ m ∧ ∃ d l' Y', l = d :: l' ∧ Y = d :: Y' ∧ ru false l' = some (Y', m - 2)) ∨ (c ≠ 92 ∧ ∃ Y', Y = c :: Y' ∧ ru false l = some (Y', m - 1)) := by
  by_cases h34 : c = 34
  · rw [ru_end c l h34] at h
    injection h with h
    injection h with _ h
    omega
  by_cases h92 : c = 92
  · left
    rw [ru_back c l h92] at h
    obtain ⟨x, hx, e⟩ := Option.map_eq_some_iff.1 h
    injection e with e1 e2
    cases l with
    | nil => rw [ru] at hx; cases hx
    | cons d l' =>
      cases hf : fieldB d with
      | false => rw [rut_bad d l' hf] at hx; cases hx
      | true =>
        rw [rut_on d l' hf] at hx
        obtain ⟨z, hz, e'⟩ := Option.map_eq_some_iff.1 hx
        subst e'
        have hb := ru_bd hz
        simp only at e1 e2
        refine ⟨h92, by omega, d, l', z.1, rfl, e1.symm, ?_⟩
        rw [hz, ← e2]
        simp
  · right
    cases hf : fieldB c with
    | false => rw [ru_bad c l hf] at h; cases h
    | true =>
      rw [ru_on c l hf h34 h92] at h
      obtain ⟨z, hz, e⟩ := Option.map_eq_some_iff.1 h
      injection e with e1 e2
      refine ⟨h92, z.1, e1.symm, ?_⟩
      rw [hz, ← e2]
      simp
theorem ru_quoted {l : List UInt8} (h : qlen l ≠ 0) : ru false (l.drop 1) = some (psay false ((l.drop 1).take (qlen l - 2)), qlen l - 1) := by
  cases l with
  | nil => exact absurd rfl h
  | cons c l =>
    rw [qlen_cons] at h ⊢
    by_cases hc : c = 34
    · rw [if_pos hc] at h ⊢
      rw [List.drop_one, List.tail_cons, ru_eq]
      cases hq : qscan false l with
      | none => rw [hq] at h; exact absurd rfl h
      | some k => simp [plusOne]
    · rw [if_neg hc] at h
      exact absurd rfl h

set_option maxHeartbeats 2000000 in
theorem rsaid_any (s : ByteArray) (hs : s.size ≤ 4000000) (n : Nat) (hn : n = qlen s.data.toList) (h0 : n ≠ 0) (w : World) :
    Calls Tryz.prog 78 #[.string s, .int .i64 n] w fun e w' => e = .returned (.string (str (psay false ((s.data.toList.drop 1).take (n - 2))))) ∧ Below w.heap.size w w' := by
  have hru := ru_quoted (l := s.data.toList) (by rw [← hn]; exact h0)
  rw [← hn] at hru
  obtain ⟨hb1, hb2⟩ := qlen_bd s.data.toList
  rw [← hn, size_list] at hb1
  have hb3 := hb2 (by rw [← hn]; exact h0)
  rw [← hn] at hb3
  clear hb2 hn h0
  obtain ⟨X, hX⟩ : ∃ X, X = psay false ((s.data.toList.drop 1).take (n - 2)) := ⟨_, rfl⟩
  rw [← hX] at hru ⊢
  have HRU : Hid (ru false (s.data.toList.drop 1) = some (X, n - 1)) := hru
  clear hru hX
  go_enter Tryz.func78, Tryz.ntmps78
  go_wp2
  go_loopw [5, 6] (fun ov iv wr => ∃ (i : Nat) (o Y : List UInt8), 1 ≤ i ∧ i ≤ n - 1 ∧ iv = .int .i64 i ∧ o.length ≤ i ∧ Hid (X = o ++ Y ∧ ru false (s.data.toList.drop i) = some (Y, n - i)) ∧ Hid (Own w.heap.size ov o wr) ∧ Hid (Below w.heap.size w wr)) (fun _ iv _ => n - (intOf iv).toNat)
  case atStart => exact ⟨1, [], X, Nat.le_refl _, by omega, rfl, by simp, (⟨rfl, HRU.out⟩ : X = [] ++ X ∧ ru false (s.data.toList.drop 1) = some (X, n - 1)), World.ownsRow_nil _ _ _ _, Below.refl _ _⟩
  case round =>
    obtain ⟨i, o, Y, hi1, hi2, rfl, hol, hst, hown, hbl⟩ := hrel
    have hsz := hbl.out.size
    by_cases hlt : i < n - 1
    · have hlt' : (i : Int) < (n : Int) - 1 := by omega
      have his : i < s.size := by omega
      have hby : ((s[i].toNat : Nat) : Int) = byt s i := byt_at s i his
      have HD : Hid (s.data.toList.drop i = s.data.toList.getD i 0 :: s.data.toList.drop (i + 1)) := drop_cons _ i (by rw [size_list]; exact his)
      have hcb : byt s i = ((s.data.toList.getD i 0).toNat : Int) := rfl
      have HCB : Hid (byt s i = ((s.data.toList.getD i 0).toNat : Int)) := hcb
      clear hcb
      obtain ⟨hX, hr⟩ := hst.out
      rw [HD.out] at hr
      rcases ru_next hr (by omega) with ⟨hc, h3, d, l', Y', hl', hY, hr'⟩ | ⟨hc, Y', hY, hr'⟩
      · have h92 : (byt s i == 92) = true := by rw [HCB.out, hc]; rfl
        have his2 : i + 1 < s.size := by omega
        have hby2 : ((s[i + 1].toNat : Nat) : Int) = byt s (i + 1) := byt_at s (i + 1) his2
        have hd2 := drop_cons s.data.toList (i + 1) (by rw [size_list]; exact his2)
        rw [hl'] at hd2
        injection hd2 with hd2 hd3
        have HC2 : Hid (byt s (i + 1) = (d.toNat : Int)) := by rw [hd2]; rfl
        have HN : Hid (X = (o ++ [d]) ++ Y' ∧ ru false (s.data.toList.drop (i + 2)) = some (Y', n - (i + 2))) := by
          refine ⟨by rw [hX, hY]; simp, ?_⟩
          rw [← hd3, hr']
          congr 2
        clear hX hr hl' hY hr' hd2 hd3 hc
        go_wp2_with (at_builtin; go_must (refine wp_app rfl (.tmp 19) (.tmp 23) rfl w.heap.size _ o wr (byt s (i + 1)) d HC2.out (by simp [Act.eval, Act.put]) hown.out (by simp [Act.eval, Act.put]) (by omega) hsz ?_); intro v6 w6 ho6 hb6 _; have HO6 : Hid (Own w.heap.size v6 (o ++ [d]) w6) := ho6; have HB6 : Hid (Below w.heap.size w w6) := hbl.out.trans hb6; clear ho6 hb6)
        go_roundw
        case rel => exact ⟨i + 2, o ++ [d], Y', by omega, by omega, by go_num, by simp; omega, HN, HO6, HB6⟩
        case measure => simp [intOf]; omega
      · have h92 : (byt s i == 92) = false := by
          rw [beq_eq_false_iff_ne, HCB.out]
          intro e
          exact hc (UInt8.toNat_inj.1 (by show (s.data.toList.getD i 0).toNat = 92; omega))
        have HN : Hid (X = (o ++ [s.data.toList.getD i 0]) ++ Y' ∧ ru false (s.data.toList.drop (i + 1)) = some (Y', n - (i + 1))) := by
          refine ⟨by rw [hX, hY]; simp, ?_⟩
          rw [hr']
          congr 2
        clear hX hr hY hr' hc
        generalize s.data.toList.getD i 0 = d at *
        go_wp2_with (at_builtin; go_must (refine wp_app rfl (.tmp 19) (.tmp 23) rfl w.heap.size _ o wr (byt s i) d HCB.out (by simp [Act.eval, Act.put]) hown.out (by simp [Act.eval, Act.put]) (by omega) hsz ?_); intro v6 w6 ho6 hb6 _; have HO6 : Hid (Own w.heap.size v6 (o ++ [d]) w6) := ho6; have HB6 : Hid (Below w.heap.size w w6) := hbl.out.trans hb6; clear ho6 hb6)
        go_roundw
        case rel => exact ⟨i + 1, o ++ [d], Y', by omega, by omega, by go_num, by simp; omega, HN, HO6, HB6⟩
        case measure => simp [intOf]; omega
    · have hlt' : ¬ ((i : Int) < (n : Int) - 1) := by omega
      have HE : Hid (X = o) := by
        obtain ⟨hX, hr⟩ := hst.out
        have : n - i = 1 := by omega
        rw [this] at hr
        show X = o
        rw [hX, ru_last hr, List.append_nil]
      have hcv := own_back hown.out
      go_wp2
      go_ret
      rw [HE.out]
      exact ⟨rfl, hbl.out⟩

set_option maxRecDepth 100000 in
set_option maxHeartbeats 1000000 in
theorem sameParams_any (v1 v2 : Value) (t : List Prm) (w : World) (h1 : RdP v1 t w) (h2 : RdP v2 t w) (hl : t.length ≤ 4294967296) :
    Calls Tryz.prog 11 #[v1, v2] w fun e w' => e = .returned (.bool true) ∧ ∃ n, w' = w.drewN n := by
  obtain ⟨a1, c1, rfl, h1⟩ := h1
  obtain ⟨a2, c2, rfl, h2⟩ := h2
  have hne : ((t.length : Int) != (t.length : Int)) = false := by simp
  go_enter Tryz.func11, Tryz.ntmps11
  go_wp2
  go_loopw [13] (fun i wr => ∃ k : Nat, k ≤ t.length ∧ i = .int .i64 k ∧ Hid (∃ n, wr = w.drewN n)) (fun i _ => t.length - (intOf i).toNat)
  case atStart => exact ⟨0, Nat.zero_le _, rfl, (⟨0, rfl⟩ : ∃ n, w = w.drewN n)⟩
  case round =>
    obtain ⟨k, hk, rfl, hw⟩ := hrel
    obtain ⟨n, rfl⟩ := hw.out
    clear hw
    by_cases hlt : k < t.length
    · rcases h1 with h | ⟨g1, o1, rfl, hc1, hcell1⟩
      · rw [h] at hlt; simp at hlt
      rcases h2 with h | ⟨g2, o2, rfl, hc2, hcell2⟩
      · rw [h] at hlt; simp at hlt
      obtain ⟨p0, p1, p2⟩ := hcell1 k hlt
      obtain ⟨q0, q1, q2⟩ := hcell2 k hlt
      clear hcell1 hcell2
      generalize str (Oc.nth t k).1 = x at p0 q0
      generalize str (Oc.nth t k).2.1 = y at p1 q1
      generalize (Oc.nth t k).2.2 = z at p2 q2
      have hz : (z != z) = false := by simp
      go_wp2_with fail
      go_quiet (fail)
      go_wp2
      go_roundw
      case rel => exact ⟨k + 1, by omega, by go_num, Oc.drawn_again w _ _⟩
      case measure => simp [intOf]; omega
    · go_wp2
      go_ret
      exact ⟨rfl, _, rfl⟩

end Ck
end Go.Proofs.YtdbnlpnnfnodnaaGreatDoor

/-
  The document's Quoted.
-/
set_option linter.unusedVariables false
set_option linter.unusedSimpArgs false
namespace Go.Proofs.YtdbnlpnnfnodnaaGreatDoor
open Go.RowKit Go.Shelf
namespace Fd
open Oc

theorem byt_list (s : ByteArray) (k : Nat) (c : UInt8) (h : s.data.toList.getD k 0 = c) : byt s k = (c.toNat : Int) := by unfold byt; rw [h]
theorem list_byt (s : ByteArray) (k : Nat) (c : UInt8) (h : byt s k = (c.toNat : Int)) : s.data.toList.getD k 0 = c := by unfold byt at h; exact UInt8.toNat_inj.1 (by omega)
theorem mapk (o : Option Nat) (a b : Nat) : (o.map (· + a)).map (· + b) = o.map (· + (a + b)) := by cases o <;> simp [Nat.add_assoc]

set_option maxRecDepth 100000 in
set_option maxHeartbeats 2000000 in
theorem rQuoted_any (s : ByteArray) (hs : s.size ≤ 134217728) (h0 : 0 < s.size) (hq : byt s 0 = 34) (w : World) :
    Calls Tryz.prog 77 #[.string s] w fun e w' => e = .returned (.int .i64 (qlen s.data.toList : Nat)) ∧ w' = w := by
  have HQ : Hid (qlen s.data.toList = plusOne (qscan false (s.data.toList.drop 1))) := qlen_some s h0 hq
  clear hq
  go_enter Tryz.func77, Tryz.ntmps77
  go_wp2
  go_loop [3] (fun i => ∃ k : Nat, 1 ≤ k ∧ k ≤ s.size ∧ i = .int .i64 k ∧ Hid (qscan false (s.data.toList.drop 1) = (qscan false (s.data.toList.drop k)).map (· + (k - 1)))) (fun i => s.size - (intOf i).toNat)
  case atStart => exact ⟨1, Nat.le_refl _, h0, rfl, (by simp : qscan false (s.data.toList.drop 1) = (qscan false (s.data.toList.drop 1)).map (· + (1 - 1)))⟩
  case round =>
    obtain ⟨k, hk1, hk, rfl, hst⟩ := hrel
    by_cases hlt : k < s.size
    · have hby : ((s[k].toNat : Nat) : Int) = byt s k := byt_at s k hlt
      obtain ⟨b0, b1⟩ := byt_bd s k
      have HD : Hid (s.data.toList.drop k = s.data.toList.getD k 0 :: s.data.toList.drop (k + 1)) := drop_cons _ k (by rw [size_list]; exact hlt)
      by_cases h34 : byt s k = 34
      · have HE : Hid (qlen s.data.toList = k + 1) := by
          show _ = _
          rw [HQ.out, hst.out, HD.out, scan_end _ _ (list_byt s k 34 h34)]
          show 1 + (k - 1) + 1 = k + 1
          omega
        have q34 : ((s[k].toNat : Int) == 34) = true := by rw [hby, h34]; rfl
        go_wp2
        go_ret
        exact ⟨ret_int (by rw [HE.out]; omega), rfl⟩
      · have q34 : ((s[k].toNat : Int) == 34) = false := by rw [hby]; simpa using h34
        by_cases h92 : byt s k = 92
        · have q92 : ((s[k].toNat : Int) == 92) = true := by rw [hby, h92]; rfl
          have HB : Hid (qscan false (s.data.toList.drop 1) = (qscan true (s.data.toList.drop (k + 1))).map (· + (1 + (k - 1)))) := by
            show _ = _
            rw [hst.out, HD.out, scan_back _ _ (list_byt s k 92 h92), mapk]
          by_cases hl1 : k + 1 < s.size
          · have hby1 : ((s[k + 1].toNat : Nat) : Int) = byt s (k + 1) := byt_at s (k + 1) hl1
            have qn : (((k : Int) + 1) == (s.size : Int)) = false := by simp; omega
            obtain ⟨d0, d1⟩ := byt_bd s (k + 1)
            have HD1 : Hid (s.data.toList.drop (k + 1) = s.data.toList.getD (k + 1) 0 :: s.data.toList.drop (k + 2)) := drop_cons _ (k + 1) (by rw [size_list]; exact hl1)
            cases hf : fieldI (byt s (k + 1)) with
            | true =>
              have HN : Hid (qscan false (s.data.toList.drop 1) = (qscan false (s.data.toList.drop (k + 2))).map (· + (k + 2 - 1))) := by
                show _ = _
                rw [HB.out, HD1.out, scan_esc _ _ hf, mapk, show 1 + (1 + (k - 1)) = k + 2 - 1 by omega]
              go_wp2_with (go_at_call 53; refine (rInside_any _ (by omega) (by omega) _).mono ?_; rintro e w' ⟨rfl, rfl⟩)
              go_round
              case rel => exact ⟨k + 2, by omega, by omega, by go_num, HN⟩
              case measure => simp [intOf]; omega
            | false =>
              have HE : Hid (qlen s.data.toList = 0) := by
                show _ = _
                rw [HQ.out, HB.out, HD1.out, scan_field _ _ _ hf]
                rfl
              go_wp2_with (go_at_call 53; refine (rInside_any _ (by omega) (by omega) _).mono ?_; rintro e w' ⟨rfl, rfl⟩)
              go_ret
              exact ⟨ret_int (by rw [HE.out]; rfl), rfl⟩
          · have HE : Hid (qlen s.data.toList = 0) := by
              show _ = _
              rw [HQ.out, HB.out, List.drop_eq_nil_of_le (by rw [size_list]; omega)]
              rfl
            have qn : (((k : Int) + 1) == (s.size : Int)) = true := by simp; omega
            go_wp2
            go_ret
            exact ⟨ret_int (by rw [HE.out]; rfl), rfl⟩
        · have q92 : ((s[k].toNat : Int) == 92) = false := by rw [hby]; simpa using h92
          cases hf : fieldI (byt s k) with
          | true =>
            have HN : Hid (qscan false (s.data.toList.drop 1) = (qscan false (s.data.toList.drop (k + 1))).map (· + (k + 1 - 1))) := by
              show _ = _
              rw [hst.out, HD.out, scan_on _ _ hf (fun e => h92 (byt_list s k _ e)) (fun e => h34 (byt_list s k _ e)), mapk, show 1 + (k - 1) = k + 1 - 1 by omega]
            go_wp2_with (go_at_call 53; refine (rInside_any _ (by omega) (by omega) _).mono ?_; rintro e w' ⟨rfl, rfl⟩)
            go_round
            case rel => exact ⟨k + 1, by omega, by omega, by go_num, HN⟩
            case measure => simp [intOf]; omega
          | false =>
            have HE : Hid (qlen s.data.toList = 0) := by
              show _ = _
              rw [HQ.out, hst.out, HD.out, scan_field _ _ _ hf]
              rfl
            go_wp2_with (go_at_call 53; refine (rInside_any _ (by omega) (by omega) _).mono ?_; rintro e w' ⟨rfl, rfl⟩)
            go_ret
            exact ⟨ret_int (by rw [HE.out]; rfl), rfl⟩
    · have HE : Hid (qlen s.data.toList = 0) := by
        show _ = _
        rw [HQ.out, hst.out, List.drop_eq_nil_of_le (by rw [size_list]; omega)]
        rfl
      go_wp2
      go_ret
      exact ⟨ret_int (by rw [HE.out]; rfl), rfl⟩

end Fd
end Go.Proofs.YtdbnlpnnfnodnaaGreatDoor

/-
  Of the document: Params.
-/
set_option linter.unusedVariables false
set_option linter.unusedSimpArgs false
set_option maxRecDepth 100000
namespace Go.Proofs.YtdbnlpnnfnodnaaGreatDoor
open Go.RowKit Go.Shelf
namespace Ck
open Oc Tg _root_.Go.Proofs.YtdbnlpnnfnodnaaGreatDoor.Fd

theorem dropGet (l : List UInt8) (a j : Nat) : (l.drop a).getD j 0 = l.getD (a + j) 0 := by
  rw [List.getD_eq_getElem?_getD, List.getD_eq_getElem?_getD, List.getElem?_drop]
theorem extTake (s : ByteArray) (i n : Nat) : s.extract i (i + n) = str ((s.data.toList.drop i).take n) := by
  apply eq_list
  rw [str_list, Lib.extract_data, show i + n - i = n by omega]
theorem extTake0 (s : ByteArray) (n : Nat) : s.extract 0 n = str (s.data.toList.take n) := by
  have h := extTake s 0 n
  rw [Nat.zero_add, List.drop_zero] at h
  exact h
theorem rpast_eq (s : ByteArray) (hs : s.size ≤ 4000000) (x : Int) (a P : Nat) (hx : x = (a : Int)) (ha : a ≤ s.size) (hP : a + bl (s.data.toList.drop a) = P) (w : World) :
    Calls Tryz.prog 75 #[.string s, .int .i64 x] w fun e w' => e = .returned (.int .i64 (P : Int)) ∧ w' = w := by
  subst hx
  rw [← hP]
  exact rpast_any s hs a ha w
theorem rsign_eq (s : ByteArray) (hs : s.size ≤ 4000000) (x : Int) (a n : Nat) (hx : x = (a : Int)) (ha : a ≤ s.size) (hn : tokLen (s.data.toList.drop a) = n) (w : World) :
    Calls Tryz.prog 76 #[.string s, .int .i64 x] w fun e w' => e = .returned (.int .i64 (n : Int)) ∧ w' = w := by
  subst hx
  rw [← hn]
  exact rsign_any s hs a ha w
theorem infoPr : (Tryz.prog.info? 34).map (fun i => (i.zero, i.size, i.bytes)) = some (some (.agg #[.string ⟨#[]⟩, .string ⟨#[]⟩, .bool false]), 3, 40) := by kernel_rfl

theorem rq_zero {r : List UInt8} (h : tokLen r = 0) : rp r = some ((r.take 0, [], false), 0) := by
  unfold rp
  rw [h, if_neg]
  simp [told]
theorem rq_bare {r : List UInt8} {n : Nat} (h : tokLen r = n) (h2 : told r n = false) : rp r = some ((r.take n, [], false), n) := by
  unfold rp
  rw [h, h2]
  rfl
theorem rq_tok {r : List UInt8} {n m : Nat} (h : tokLen r = n) (h2 : told r n = true) (h3 : tokLen (r.drop (n + 1)) = m) (h4 : 0 < m) : rp r = some ((r.take n, (r.drop (n + 1)).take m, true), n + 1 + m) := by
  unfold rp
  rw [h, h2, if_pos rfl]
  unfold rv
  rw [h3, if_pos h4]
  rfl
theorem rq_quo {r : List UInt8} {n m : Nat} (h : tokLen r = n) (h2 : told r n = true) (h3 : tokLen (r.drop (n + 1)) = 0) (h4 : qlen (r.drop (n + 1)) = m) (h5 : m ≠ 0) :
    rp r = some ((r.take n, psay false (((r.drop (n + 1)).drop 1).take (m - 2)), true), n + 1 + m) := by
  unfold rp
  rw [h, h2, if_pos rfl]
  unfold rv
  rw [h3, h4, if_neg (by omega), if_neg h5]
  rfl
theorem rq_err {r : List UInt8} {n : Nat} (h : tokLen r = n) (h2 : told r n = true) (h3 : tokLen (r.drop (n + 1)) = 0) (h4 : qlen (r.drop (n + 1)) = 0) : rp r = none := by
  unfold rp
  rw [h, h2, if_pos rfl]
  unfold rv
  rw [h3, h4, if_neg (by omega), if_pos rfl]
  rfl
theorem qlen_not {s : ByteArray} (h : s.size = 0 ∨ byt s 0 ≠ 34) : qlen s.data.toList = 0 := by
  cases hl : s.data.toList with
  | nil => rfl
  | cons c l =>
    rw [qlen_cons, if_neg]
    rintro rfl
    rcases h with h | h
    · rw [← size_list, hl] at h; simp at h
    · apply h; unfold byt; rw [hl]; rfl

set_option maxHeartbeats 1000000 in
theorem rParams_any (s : ByteArray) (hs : s.size ≤ 4000000) (w : World) :
    Calls Tryz.prog 57 #[.string s] w fun e w' => ∃ v, e = .returned (.tuple #[v, .int .i64 (paramsR s.data.toList).2.1, .bool ((paramsR s.data.toList).2.2 == 0)]) ∧ OwnP 34 w.heap.size v (paramsR s.data.toList).1 w' ∧ Below w.heap.size w w' := by
  go_enter Tryz.func57, Tryz.ntmps57
  go_wp2
  go_loopw [5, 6] (fun lv ev wr => ∃ (e0 : Nat) (acc : List Prm), e0 ≤ s.size ∧ ev = .int .i64 e0 ∧ acc.length ≤ e0 ∧ Hid (prm s.data.toList = (prm (s.data.toList.drop e0)).map (fun y => (acc ++ y.1, e0 + y.2))) ∧ Hid (OwnP 34 w.heap.size lv acc wr) ∧ Hid (Below w.heap.size w wr)) (fun _ ev _ => s.size - (intOf ev).toNat)
  case atStart => exact ⟨0, [], Nat.zero_le _, rfl, Nat.le_refl _, (by simp : prm s.data.toList = (prm (s.data.toList.drop 0)).map (fun y => ([] ++ y.1, 0 + y.2))), ownP_nil _ _ _, Below.refl _ w⟩
  case round =>
    obtain ⟨e0, acc, he0, rfl, hacc, hst, hown, hbl⟩ := hrel
    have hsz := hbl.out.size
    have hb1 := bl_le (s.data.toList.drop e0)
    rw [List.length_drop, size_list] at hb1
    obtain ⟨c1, hc1⟩ : ∃ c1, c1 = bl (s.data.toList.drop e0) := ⟨_, rfl⟩
    obtain ⟨P, hP⟩ : ∃ P, e0 + c1 = P := ⟨_, rfl⟩
    have HP : Hid (e0 + bl (s.data.toList.drop e0) = P) := (by rw [← hc1]; exact hP : e0 + bl (s.data.toList.drop e0) = P)
    rw [← hc1] at hb1
    have hPs : P ≤ s.size := by omega
    have HSemi : Hid (semi (s.data.toList.drop e0) c1 = decide (P < s.size ∧ byt s P = 59)) := by
      show semi _ _ = _
      unfold semi byt
      rw [List.length_drop, size_list, Bool.eq_iff_iff, decide_eq_true_iff, decide_eq_true_iff, dropGet, hP]
      constructor
      · rintro ⟨h1, h2⟩; exact ⟨by omega, by rw [h2]; rfl⟩
      · rintro ⟨h1, h2⟩; exact ⟨by omega, UInt8.toNat_inj.1 (by show _ = 59; omega)⟩
    have HStop : Hid (semi (s.data.toList.drop e0) c1 = false → paramsR s.data.toList = (acc, (e0 : Int), 0)) := fun h => paramsR_some (x := (acc, e0)) (by rw [hst.out, prm_end (pstep_stop (by rw [← hc1]; exact h))]; simp)
    by_cases hgo : P < s.size ∧ byt s P = 59
    · have HGo : Hid (semi (s.data.toList.drop e0) (bl (s.data.toList.drop e0)) = true) := (by rw [← hc1, HSemi.out]; exact decide_eq_true hgo : semi _ _ = true)
      obtain ⟨hg1, hg2⟩ := hgo
      have hby : ((s[P].toNat : Nat) : Int) = byt s P := byt_at s _ hg1
      have hge : ¬ ((s.size : Int) ≤ (P : Int)) := by omega
      have h59 : (byt s P != 59) = false := by simp [hg2]
      have HD1 : Hid (s.data.toList.drop (P + 1) = (s.data.toList.drop e0).drop (c1 + 1)) := (by rw [List.drop_drop, ← hP, Nat.add_assoc] : s.data.toList.drop (P + 1) = _)
      have hb2 := bl_le (s.data.toList.drop (P + 1))
      rw [List.length_drop, size_list] at hb2
      obtain ⟨c2, hc2⟩ : ∃ c2, c2 = bl (s.data.toList.drop (P + 1)) := ⟨_, rfl⟩
      obtain ⟨Q, hQ⟩ : ∃ Q, P + 1 + c2 = Q := ⟨_, rfl⟩
      have HQ : Hid (P + 1 + bl (s.data.toList.drop (P + 1)) = Q) := (by rw [← hc2]; exact hQ : P + 1 + bl (s.data.toList.drop (P + 1)) = Q)
      rw [← hc2] at hb2
      obtain ⟨r3, hr3⟩ : ∃ r3, r3 = s.data.toList.drop Q := ⟨_, rfl⟩
      have h3 : ((s.data.toList.drop e0).drop (c1 + 1)).drop c2 = r3 := by rw [hr3, ← HD1.out, List.drop_drop, hQ]
      have hc2' : bl ((s.data.toList.drop e0).drop (c1 + 1)) = c2 := by rw [← HD1.out]; exact hc2.symm
      have HBad : Hid (rp r3 = none → paramsR s.data.toList = ([], 0, 15)) := fun h => paramsR_none (by rw [hst.out, prm_none (pstep_bad HGo.out (by rw [← hc1, hc2', h3]; exact h))]; rfl)
      have HEmpty : Hid (∀ x, rp r3 = some x → x.2 = 0 → prm s.data.toList = (prm (s.data.toList.drop (P + 1))).map (fun y => (acc ++ y.1, (P + 1) + y.2))) := fun x h h0 => by
        have h := prm_step hst.out (pstep_empty HGo.out (x := x) (by rw [← hc1, hc2', h3]; exact h) h0)
        simp only [← hc1, List.append_nil, show e0 + (c1 + 1) = P + 1 by omega] at h
        exact h
      have HOne : Hid (∀ x, rp r3 = some x → x.2 ≠ 0 → prm s.data.toList = (prm (s.data.toList.drop (Q + x.2))).map (fun y => ((acc ++ [x.1]) ++ y.1, (Q + x.2) + y.2))) := fun x h h0 => by
        have h := prm_step hst.out (pstep_one HGo.out (x := x) (by rw [← hc1, hc2', h3]; exact h) h0)
        simp only [← hc1, hc2', show e0 + (c1 + 1 + c2 + x.2) = Q + x.2 by omega] at h
        exact h
      have hQs : Q ≤ s.size := by omega
      have hQe : e0 + 1 ≤ Q := by omega
      have hPe : e0 ≤ P := by omega
      have hPQ : P + 1 ≤ Q := by omega
      have hn3 := tokLen_le r3
      rw [hr3, List.length_drop, size_list, ← hr3] at hn3
      have HTD : Hid (∀ n, told r3 n = decide (0 < n ∧ Q + n < s.size ∧ byt s (Q + n) = 61)) := by
        intro n
        unfold told byt
        rw [hr3, List.length_drop, size_list, Bool.eq_iff_iff, decide_eq_true_iff, decide_eq_true_iff, dropGet]
        constructor
        · rintro ⟨h0, h1, h2⟩; exact ⟨h0, by omega, by rw [h2]; rfl⟩
        · rintro ⟨h0, h1, h2⟩; exact ⟨h0, by omega, UInt8.toNat_inj.1 (by show _ = 61; omega)⟩
      have HNx : Hid (∀ n, r3.drop n = s.data.toList.drop (Q + n)) := fun n => by rw [hr3, List.drop_drop]
      have HR3 : Hid (r3 = s.data.toList.drop Q) := hr3
      clear hg2 HSemi HStop h3 hc2 hc2' hr3 hQ hP hc1 HGo HD1 hb1 hb2
      go_wp2_with fail
      refine (rpast_eq s hs _ e0 P rfl he0 HP.out _).mono ?_
      rintro e w2 ⟨rfl, rfl⟩
      go_wp2_with fail
      refine (rpast_eq s hs _ (P + 1) Q (by omega) (by omega) HQ.out _).mono ?_
      rintro e w3 ⟨rfl, rfl⟩
      obtain ⟨n, hn⟩ : ∃ n, tokLen r3 = n := ⟨_, rfl⟩
      rw [hn] at hn3
      have HTok : Hid (tokLen r3 = n) := hn
      go_wp2_with fail
      refine (rsign_eq s hs _ Q n rfl hQs (by rw [← HR3.out]; exact HTok.out) _).mono ?_
      rintro e w4 ⟨rfl, rfl⟩
      by_cases hz : n = 0
      · have HN' : Hid (prm s.data.toList = (prm (s.data.toList.drop (P + 1))).map (fun y => (acc ++ y.1, (P + 1) + y.2))) := HEmpty.out _ (rq_zero (by rw [HTok.out, hz])) rfl
        subst hz
        clear hn
        go_wp2
        go_roundw
        case rel => exact ⟨P + 1, acc, by omega, by go_num, by omega, HN', hown, hbl⟩
        case measure => simp [intOf]; omega
      · clear hn
        have HNm : Hid (s.extract Q (Q + n) = str (r3.take n)) := (by rw [extTake, HR3.out] : s.extract Q (Q + n) = _)
        have hn0 : ((n : Int) == 0) = false := by simp; omega
        by_cases htd : Q + n < s.size ∧ byt s (Q + n) = 61
        · have HTold : Hid (told r3 n = true) := (by rw [HTD.out n]; exact decide_eq_true ⟨by omega, htd⟩ : told r3 n = true)
          obtain ⟨ht1, ht2⟩ := htd
          have hby3 : ((s[Q + n].toNat : Nat) : Int) = byt s (Q + n) := byt_at s _ ht1
          have h61 : (byt s (Q + n) == 61) = true := by simp [ht2]
          have HRl : Hid ((s.extract (Q + n + 1) s.size).data.toList = r3.drop (n + 1)) := (by rw [Lib.extract_to_end, HNx.out]; rfl : (s.extract (Q + n + 1) s.size).data.toList = _)
          have hRz : (s.extract (Q + n + 1) s.size).size = s.size - (Q + n + 1) := size_ext s (Q + n + 1) (by omega)
          obtain ⟨R, hR⟩ : ∃ R, R = s.extract (Q + n + 1) s.size := ⟨_, rfl⟩
          have HRE : Hid (R = s.extract (Q + n + 1) s.size) := hR
          rw [← hR] at HRl hRz
          clear hR
          have hRs : R.size ≤ 4000000 := by omega
          obtain ⟨m, hm⟩ : ∃ m, tokLen (r3.drop (n + 1)) = m := ⟨_, rfl⟩
          have HM : Hid (tokLen (r3.drop (n + 1)) = m) := hm
          have hml := tokLen_le (r3.drop (n + 1))
          rw [hm, ← HRl.out, size_list] at hml
          clear ht2 hm
          go_wp2_with fail
          rw [← HRE.out]
          refine (rsign_eq R hRs _ 0 m rfl (by omega) (by rw [List.drop_zero, HRl.out]; exact HM.out) _).mono ?_
          rintro e w5 ⟨rfl, hw⟩
          rw [hw]
          clear hw
          by_cases hm0 : 0 < m
          · have HN' : Hid (prm s.data.toList = (prm (s.data.toList.drop (Q + (n + 1 + m)))).map (fun y => ((acc ++ [(r3.take n, (r3.drop (n + 1)).take m, true)]) ++ y.1, (Q + (n + 1 + m)) + y.2))) := HOne.out _ (rq_tok HTok.out HTold.out HM.out hm0) (by show n + 1 + m ≠ 0; omega)
            have HVal : Hid (R.extract 0 m = str ((r3.drop (n + 1)).take m)) := (by rw [extTake0, HRl.out] : R.extract 0 m = _)
            have HO5 : Hid (∀ o, OwnP 34 w.heap.size _ acc (w4.alloc o)) := fun o => hown.out.below ((Below.refl _ _).alloc (Nat.le_refl _) o)
            have HB5 : Hid (∀ o, Below w.heap.size w (w4.alloc o)) := fun o => hbl.out.alloc hsz o
            have hmz : (0 : Int) < (m : Int) := by omega
            go_wp2_with (at_builtin; go_must (refine wp_appP 34 31 infoPr Tryz.underlying31 rfl (.tmp 89) (.tmp 91) rfl w.heap.size _ acc _ (r3.take n, (r3.drop (n + 1)).take m, true) _ _ HNm.out HVal.out _ rfl rfl (HO5.out _) _ rfl (by simp) ?h1 ?h2 ?_))
            case h1 => omega
            case h2 => first | omega | (simp; omega)
            intro v6 w6 hown6 hb6
            have HO6 : Hid (OwnP 34 w.heap.size v6 (acc ++ [(r3.take n, (r3.drop (n + 1)).take m, true)]) w6) := hown6
            have HB6 : Hid (Below w.heap.size w w6) := (HB5.out _).trans hb6
            clear hown6 hb6
            go_wp2
            go_roundw
            case rel => exact ⟨Q + (n + 1 + m), _, by omega, by go_num, by simp; omega, HN', HO6, HB6⟩
            case measure => simp [intOf]; omega
          · obtain rfl : m = 0 := by omega
            have hRq : R.size = 0 ∨ 0 < R.size := by omega
            by_cases hq34 : R.size = 0 ∨ byt R 0 ≠ 34
            · have HN : Hid (paramsR s.data.toList = ([], 0, 15)) := HBad.out (rq_err HTok.out HTold.out HM.out (by rw [← HRl.out]; exact qlen_not hq34))
              have HB5 : Hid (∀ o, Below w.heap.size w (w4.alloc o)) := fun o => hbl.out.alloc hsz o
              by_cases hR0 : R.size = 0
              · have hRe : R.toList.isEmpty = true := empty_of hR0
                go_wp2
                go_ret3
                rw [HN.out]
                exact ⟨_, rfl, ownP_nil _ _ _, HB5.out _⟩
              · have hR1 : 0 < R.size := by omega
                have hRe : R.toList.isEmpty = false := nonempty_of hR0
                have hby5 : ((R[0].toNat : Nat) : Int) = byt R 0 := byt_at R 0 hR1
                have hne : (byt R 0 != 34) = true := by
                  rcases hq34 with h | h
                  · omega
                  · simp [h]
                clear hq34
                go_wp2
                go_ret3
                rw [HN.out]
                exact ⟨_, rfl, ownP_nil _ _ _, HB5.out _⟩
            · have hR1 : 0 < R.size := by omega
              have hq34' : byt R 0 = 34 := by
                by_cases h : byt R 0 = 34
                · exact h
                · exact absurd (.inr h) hq34
              clear hq34
              have hR0 : R.size ≠ 0 := by omega
              have hRe : R.toList.isEmpty = false := nonempty_of hR0
              have hby5 : ((R[0].toNat : Nat) : Int) = byt R 0 := byt_at R 0 hR1
              have hne : (byt R 0 != 34) = false := by simp [hq34']
              have HQd : Hid (∀ w, Calls Tryz.prog 77 #[.string R] w fun e w' => e = .returned (.int .i64 (qlen R.data.toList : Nat)) ∧ w' = w) := fun w => rQuoted_any R (by omega) hR1 hq34' w
              obtain ⟨k, hk⟩ : ∃ k, qlen R.data.toList = k := ⟨_, rfl⟩
              rw [hk] at HQd
              have HK : Hid (qlen R.data.toList = k) := hk
              have hkl := (qlen_bd R.data.toList).1
              rw [hk, size_list] at hkl
              clear hk hq34'
              have HB5 : Hid (∀ o, Below w.heap.size w (w4.alloc o)) := fun o => hbl.out.alloc hsz o
              have HO5 : Hid (∀ o, OwnP 34 w.heap.size _ acc (w4.alloc o)) := fun o => hown.out.below ((Below.refl _ _).alloc (Nat.le_refl _) o)
              by_cases hk0 : k = 0
              · have HN : Hid (paramsR s.data.toList = ([], 0, 15)) := HBad.out (rq_err HTok.out HTold.out HM.out (by rw [← HRl.out, HK.out]; exact hk0))
                subst hk0
                go_wp2_with fail
                refine (HQd.out _).mono ?_
                rintro e w6 ⟨rfl, hw⟩
                rw [hw]
                clear hw
                go_wp2
                go_ret3
                rw [HN.out]
                exact ⟨_, rfl, ownP_nil _ _ _, HB5.out _⟩
              · have hkz : ((k : Int) == 0) = false := by simp; omega
                obtain ⟨X, hX⟩ : ∃ X, X = psay false ((R.data.toList.drop 1).take (k - 2)) := ⟨_, rfl⟩
                have HN' : Hid (prm s.data.toList = (prm (s.data.toList.drop (Q + (n + 1 + k)))).map (fun y => ((acc ++ [(r3.take n, X, true)]) ++ y.1, (Q + (n + 1 + k)) + y.2))) := by
                  have h := HOne.out _ (rq_quo HTok.out HTold.out HM.out (by rw [← HRl.out]; exact HK.out) hk0) (by show n + 1 + k ≠ 0; omega)
                  rw [← HRl.out, ← hX] at h
                  exact h
                have HSd : Hid (∀ w, Calls Tryz.prog 78 #[.string R, .int .i64 k] w fun e w' => e = .returned (.string (str X)) ∧ Below w.heap.size w w') := fun w => by
                  have h := rsaid_any R hRs k HK.out.symm hk0 w
                  rw [← hX] at h
                  exact h
                clear hX
                go_wp2_with fail
                refine (HQd.out _).mono ?_
                rintro e w6 ⟨rfl, hw⟩
                rw [hw]
                clear hw
                generalize hy : str X = y at *
                have HY : Hid (y = str X) := hy.symm
                clear hy
                go_wp2_with fail
                refine (HSd.out _).mono ?_
                rintro e w6 ⟨rfl, hb6⟩
                have k0 : w6.cell? ⟨w4.heap.size, 0, none⟩ = some (.string (s.extract Q (Q + n))) := (hb6.cell (p := ⟨w4.heap.size, 0, none⟩) (by simp)).trans (by simp)
                have k1 : w6.cell? ⟨w4.heap.size, 1, none⟩ = some (.string ⟨#[]⟩) := (hb6.cell (p := ⟨w4.heap.size, 1, none⟩) (by simp)).trans (by simp)
                have k2 : w6.cell? ⟨w4.heap.size, 2, none⟩ = some (.bool true) := (hb6.cell (p := ⟨w4.heap.size, 2, none⟩) (by simp)).trans (by simp)
                have kf : w6.frozen? ⟨w4.heap.size, 1, none⟩ = false := (hb6.frozen (p := ⟨w4.heap.size, 1, none⟩) (by simp)).trans (by simp)
                have hs6 : w4.heap.size < w6.heap.size := by have := hb6.size; simp at this; omega
                have bx : ∀ u, Below w4.heap.size w4 (w6.setCell ⟨w4.heap.size, 1, none⟩ u) := fun u => (((Below.refl _ _).alloc (Nat.le_refl _) _).trans (hb6.mono (by simp))).setCell (Nat.le_refl _) u
                have HO7 : Hid (∀ u, OwnP 34 w.heap.size _ acc (w6.setCell ⟨w4.heap.size, 1, none⟩ u)) := fun u => hown.out.below (bx u)
                have HB7 : Hid (∀ u, Below w.heap.size w (w6.setCell ⟨w4.heap.size, 1, none⟩ u)) := fun u => hbl.out.trans ((bx u).mono hsz)
                clear bx hb6
                go_wp2_with (at_builtin; go_must (refine wp_appP 34 31 infoPr Tryz.underlying31 rfl (.tmp 89) (.tmp 91) rfl w.heap.size _ acc _ (r3.take n, X, true) _ _ HNm.out HY.out _ rfl rfl (HO7.out _) _ rfl (by simp) ?h1 ?h2 ?_))
                case h1 => omega
                case h2 => first | omega | (simp; omega)
                intro v7 w7 hown7 hb7
                have HO8 : Hid (OwnP 34 w.heap.size v7 (acc ++ [(r3.take n, X, true)]) w7) := hown7
                have HB8 : Hid (Below w.heap.size w w7) := (HB7.out _).trans hb7
                clear hown7 hb7
                go_wp2
                go_roundw
                case rel => exact ⟨Q + (n + 1 + k), _, by omega, by go_num, by simp; omega, HN', HO8, HB8⟩
                case measure => simp [intOf]; omega
        · have HTold : Hid (told r3 n = false) := (by rw [HTD.out n]; exact decide_eq_false (fun h => htd h.2) : told r3 n = false)
          have HN' : Hid (prm s.data.toList = (prm (s.data.toList.drop (Q + n))).map (fun y => ((acc ++ [(r3.take n, [], false)]) ++ y.1, (Q + n) + y.2))) := HOne.out _ (rq_bare HTok.out HTold.out) hz
          have HO5 : Hid (∀ o, OwnP 34 w.heap.size _ acc (w4.alloc o)) := fun o => hown.out.below ((Below.refl _ _).alloc (Nat.le_refl _) o)
          have HB5 : Hid (∀ o, Below w.heap.size w (w4.alloc o)) := fun o => hbl.out.alloc hsz o
          have hts : ¬ ((Q : Int) + (n : Int) < (s.size : Int)) ∨ ∃ h : Q + n < s.size, ((s[Q + n].toNat : Nat) : Int) = byt s (Q + n) ∧ (byt s (Q + n) == 61) = false := by
            by_cases h1 : Q + n < s.size
            · right; exact ⟨h1, byt_at s _ h1, by simp; exact fun e => htd ⟨h1, e⟩⟩
            · left; omega
          clear htd
          rcases hts with t1 | ⟨hlt, t2, t3⟩
          all_goals
            go_wp2_with (at_builtin; go_must (refine wp_appP 34 31 infoPr Tryz.underlying31 rfl (.tmp 89) (.tmp 91) rfl w.heap.size _ acc _ (r3.take n, [], false) _ _ HNm.out rfl _ rfl rfl (HO5.out _) _ rfl (by simp) ?h1 ?h2 ?_))
            case h1 => omega
            case h2 => first | omega | (simp; omega)
            intro v6 w6 hown6 hb6
            have HO6 : Hid (OwnP 34 w.heap.size v6 (acc ++ [(r3.take n, [], false)]) w6) := hown6
            have HB6 : Hid (Below w.heap.size w w6) := (HB5.out _).trans hb6
            clear hown6 hb6
            go_wp2
            go_roundw
            case rel => exact ⟨Q + n, _, by omega, by go_num, by simp; omega, HN', HO6, HB6⟩
            case measure => simp [intOf]; omega
    · have HN : Hid (paramsR s.data.toList = (acc, (e0 : Int), 0)) := HStop.out (by rw [HSemi.out]; exact decide_eq_false hgo)
      have hts : ((s.size : Int) ≤ (P : Int)) ∨ ¬ ((s.size : Int) ≤ (P : Int)) ∧ ∃ h : P < s.size, ((s[P].toNat : Nat) : Int) = byt s P ∧ (byt s P != 59) = true := by
        by_cases h1 : P < s.size
        · right
          exact ⟨by omega, h1, byt_at s _ h1, by simp; exact fun e => hgo ⟨h1, e⟩⟩
        · left; omega
      clear hgo HSemi HStop hP hc1 hb1
      rcases hts with t1 | ⟨t1, hlt, t2, t3⟩
      all_goals
        go_wp2_with fail
        refine (rpast_eq s hs _ e0 P rfl he0 HP.out _).mono ?_
        rintro e w2 ⟨rfl, rfl⟩
        go_wp2
        go_ret3
        rw [HN.out]
        exact ⟨_, rfl, hown.out, hbl.out⟩

end Ck
end Go.Proofs.YtdbnlpnnfnodnaaGreatDoor

/-
  Of the document: ParseSize.
-/
set_option linter.unusedVariables false
set_option linter.unusedSimpArgs false
set_option maxRecDepth 100000
namespace Go.Proofs.YtdbnlpnnfnodnaaGreatDoor
open Go.RowKit Go.Shelf
namespace Ck
open Oc Tg _root_.Go.Proofs.YtdbnlpnnfnodnaaGreatDoor.Fd

theorem hexV_bd_all : ∀ n : Fin 256, (hexB (UInt8.ofNat n.val) = true → 0 ≤ hexV (UInt8.ofNat n.val) ∧ hexV (UInt8.ofNat n.val) ≤ 15 ∧ hexV (UInt8.ofNat n.val) = valI ((UInt8.ofNat n.val).toNat : Int)) ∧ (hexB (UInt8.ofNat n.val) = false → hexV (UInt8.ofNat n.val) = -1) := by decide +kernel
theorem hexV_bd (c : UInt8) : (hexB c = true → 0 ≤ hexV c ∧ hexV c ≤ 15 ∧ hexV c = valI (c.toNat : Int)) ∧ (hexB c = false → hexV c = -1) := by
  have h := hexV_bd_all ⟨c.toNat, c.toNat_lt⟩
  simpa using h
def accH (n : Int) (c : UInt8) : Int := if n ≤ 1099511627776 then 16 * n + hexV c else n
def hexAcc (l : List UInt8) : Int := l.foldl accH 0
theorem hexAcc_snoc (l : List UInt8) (c : UInt8) : hexAcc (l ++ [c]) = accH (hexAcc l) c := by unfold hexAcc; rw [List.foldl_append]; rfl
theorem hexAcc_is : ∀ (n : Nat) (l : List UInt8), l.length = n → (∀ c ∈ l, hexB c = true) → 0 ≤ numOf 16 l ∧ 0 ≤ hexAcc l ∧ hexAcc l ≤ 17592186044431 ∧ (numOf 16 l ≤ 1099511627776 → hexAcc l = numOf 16 l) ∧ (1099511627776 < numOf 16 l → 1099511627776 < hexAcc l) := by
  intro n
  induction n with
  | zero =>
    intro l hl _
    obtain rfl := List.eq_nil_of_length_eq_zero hl
    exact ⟨by decide, by decide, by decide, fun _ => rfl, fun h => absurd h (by decide)⟩
  | succ n ih =>
    intro l hl hall
    rcases List.eq_nil_or_concat l with h | ⟨a, c, h⟩
    · subst h; simp at hl
    · have h' : l = a ++ [c] := by simpa using h
      subst h'
      simp at hl
      obtain ⟨i0, i1, i2, i3, i4⟩ := ih a hl (fun d hd => hall d (by simp [hd]))
      obtain ⟨v0, v1, v2⟩ := (hexV_bd c).1 (hall c (by simp))
      rw [hexAcc_snoc, numOf_snoc, ← v2]
      unfold accH
      by_cases hb : numOf 16 a ≤ 1099511627776
      · rw [i3 hb, if_pos hb]
        refine ⟨by omega, by omega, by omega, fun _ => by omega, fun _ => by omega⟩
      · have := i4 (by omega)
        rw [if_neg (by omega)]
        exact ⟨by omega, i1, i2, fun _ => by omega, fun _ => this⟩
theorem numR_hex (l : List UInt8) (h0 : l ≠ []) (hall : ∀ c ∈ l, hexB c = true) : numR 16 l 1099511627776 = if 1099511627776 < hexAcc l then (0, 12) else (hexAcc l, 0) := by
  obtain ⟨_, _, _, i3, i4⟩ := hexAcc_is _ l rfl hall
  unfold numR
  have h1 : (l.isEmpty || l.any (fun c => decide (16 ≤ valI (c.toNat : Int)))) = false := by
    rw [Bool.or_eq_false_iff]
    refine ⟨by simpa using h0, ?_⟩
    rw [List.any_eq_false]
    intro c hc
    obtain ⟨_, v1, v2⟩ := (hexV_bd c).1 (hall c hc)
    simp
    omega
  rw [h1]
  by_cases hb : 1099511627776 < numOf 16 l
  · rw [if_neg (by decide), if_pos hb, if_pos (i4 hb)]
  · rw [if_neg (by decide), if_neg hb, if_neg (by rw [i3 (by omega)]; exact hb), i3 (by omega)]
theorem tw_all_hex : ∀ (l : List UInt8), ∀ c ∈ l.takeWhile hexB, hexB c = true
  | [], _, h => by simp at h
  | x :: l, c, h => by
    rw [List.takeWhile_cons] at h
    split at h
    · rcases List.mem_cons.1 h with rfl | h
      · assumption
      · exact tw_all_hex l c h
    · simp at h

set_option maxHeartbeats 4000000 in
theorem rParseSize_any (s : ByteArray) (hs : s.size ≤ 4000000) (w : World) :
    Calls Tryz.prog 43 #[.string s] w fun e w' => ∃ v, e = .returned (.tuple #[.int .i64 (sizeR s.data.toList).1, v, .int .i64 (sizeR s.data.toList).2.2]) ∧ OwnP 34 w.heap.size v (sizeR s.data.toList).2.1 w' ∧ Below w.heap.size w w' := by
  by_cases hbig : 254 < s.size
  · have e : sizeR s.data.toList = (0, [], 100) := by unfold sizeR; rw [if_pos (by rw [size_list]; exact hbig)]
    rw [e]
    go_enter Tryz.func43, Tryz.ntmps43
    go_wp2
    go_ret3
    exact ⟨.slice none 0 0, rfl, ownP_nil _ _ _, Below.refl _ _⟩
  have HZ : Hid (sizeR s.data.toList = if s.data.toList.takeWhile hexB = [] ∨ (paramsR (s.data.toList.dropWhile hexB)).2.2 ≠ 0 ∨ trim ((s.data.toList.dropWhile hexB).drop (paramsR (s.data.toList.dropWhile hexB)).2.1.toNat) ≠ [] then (0, [], 100)
    else if (numR 16 (s.data.toList.takeWhile hexB) 1099511627776).2 ≠ 0 then (0, [], 102) else ((numR 16 (s.data.toList.takeWhile hexB) 1099511627776).1, (paramsR (s.data.toList.dropWhile hexB)).1, 0)) := by
    show sizeR _ = _
    unfold sizeR
    rw [if_neg (by rw [size_list]; exact hbig)]
  have hsm : s.size ≤ 254 := by omega
  clear hbig hs
  go_enter Tryz.func43, Tryz.ntmps43
  go_wp2
  go_loopw [5, 6] (fun nv iv wr => ∃ (k : Nat) (n : Int), k ≤ s.size ∧ iv = .int .i64 k ∧ nv = .int .i64 n ∧ 0 ≤ n ∧ n ≤ 17592186044431 ∧ Hid (n = hexAcc (s.data.toList.take k) ∧ (∀ c ∈ s.data.toList.take k, hexB c = true) ∧ s.data.toList.takeWhile hexB = s.data.toList.take k ++ (s.data.toList.drop k).takeWhile hexB ∧ s.data.toList.dropWhile hexB = (s.data.toList.drop k).dropWhile hexB) ∧ Hid (Below w.heap.size w wr)) (fun _ iv _ => s.size - (intOf iv).toNat)
  case atStart => exact ⟨0, 0, Nat.zero_le _, rfl, rfl, by decide, by decide, (⟨rfl, fun c h => by simp at h, by simp, by simp⟩ : (0 : Int) = hexAcc (s.data.toList.take 0) ∧ (∀ c ∈ s.data.toList.take 0, hexB c = true) ∧ s.data.toList.takeWhile hexB = s.data.toList.take 0 ++ (s.data.toList.drop 0).takeWhile hexB ∧ s.data.toList.dropWhile hexB = (s.data.toList.drop 0).dropWhile hexB), Below.refl _ _⟩
  case round =>
    obtain ⟨k, n, hk, rfl, rfl, n0, n1, hst, hbl⟩ := hrel
    have hcase : (∃ h : k < s.size, hexB (s.data.toList.getD k 0) = true) ∨ ((k < s.size → hexB (s.data.toList.getD k 0) = false)) := by
      by_cases h : k < s.size
      · cases hx : hexB (s.data.toList.getD k 0) with
        | true => exact .inl ⟨h, rfl⟩
        | false => exact .inr (fun _ => rfl)
      · exact .inr (fun e => absurd e h)
    rcases hcase with ⟨hlt, hx⟩ | hno
    · obtain ⟨v0, v1, hv2⟩ := (hexV_bd _).1 hx
      clear hv2
      have hby : ((s[k].toNat : Nat) : Int) = byt s k := byt_at s k hlt
      have HX : Hid (∀ w, Calls Tryz.prog 56 #[.int .u8 (byt s k)] w fun e w' => e = .returned (.int .i64 (hexV (s.data.toList.getD k 0))) ∧ Below w.heap.size w w') := fun w => rhex_any (s.data.toList.getD k 0) w
      have HNn : Hid (accH n (s.data.toList.getD k 0) = hexAcc (s.data.toList.take (k + 1)) ∧ (∀ c ∈ s.data.toList.take (k + 1), hexB c = true) ∧ s.data.toList.takeWhile hexB = s.data.toList.take (k + 1) ++ (s.data.toList.drop (k + 1)).takeWhile hexB ∧ s.data.toList.dropWhile hexB = (s.data.toList.drop (k + 1)).dropWhile hexB) := by
        obtain ⟨e1, e2, e3, e4⟩ := hst.out
        rw [drop_cons s.data.toList k (by rw [size_list]; exact hlt)] at e3 e4
        rw [List.takeWhile_cons, if_pos hx] at e3
        rw [List.dropWhile_cons, if_pos hx] at e4
        refine ⟨?_, ?_, ?_, e4⟩
        · rw [take_snoc s k hlt, hexAcc_snoc, ← e1]
        · intro c hc
          rw [take_snoc s k hlt, List.mem_append] at hc
          rcases hc with hc | hc
          · exact e2 c hc
          · simp only [List.mem_singleton] at hc; subst hc; exact hx
        · rw [e3, take_snoc s k hlt]; simp
      clear hx
      have HAc : Hid (accH n (s.data.toList.getD k 0) = if n ≤ 1099511627776 then 16 * n + hexV (s.data.toList.getD k 0) else n) := (rfl : accH n _ = _)
      generalize hv : hexV (s.data.toList.getD k 0) = v at *
      generalize hacn : accH n (s.data.toList.getD k 0) = n' at *
      clear hv hacn
      by_cases hb : n ≤ 1099511627776
      · have HA2 : Hid (n' = 16 * n + v) := (by rw [HAc.out, if_pos hb] : n' = _)
        go_wp2_with fail
        refine (HX.out _).mono ?_
        rintro e w2 ⟨rfl, hb2⟩
        have HB2 : Hid (Below w.heap.size w w2) := bel_trans hbl.out hb2
        clear hb2
        go_wp2_with fail
        refine (HX.out _).mono ?_
        rintro e w3 ⟨rfl, hb3⟩
        have HB3 : Hid (Below w.heap.size w w3) := bel_trans HB2.out hb3
        clear hb3
        go_wp2
        go_roundw
        case rel => exact ⟨k + 1, 16 * n + v, by omega, by go_num, rfl, by omega, by omega, (by rw [← HA2.out]; exact HNn.out : _ ∧ _), HB3⟩
        case measure => simp [intOf]; omega
      · have HA2 : Hid (n' = n) := (by rw [HAc.out, if_neg hb] : n' = _)
        go_wp2_with fail
        refine (HX.out _).mono ?_
        rintro e w2 ⟨rfl, hb2⟩
        have HB2 : Hid (Below w.heap.size w w2) := bel_trans hbl.out hb2
        clear hb2
        go_wp2
        go_roundw
        case rel => exact ⟨k + 1, n, by omega, by go_num, rfl, by omega, by omega, (by rw [← HA2.out]; exact HNn.out : _ ∧ _), HB2⟩
        case measure => simp [intOf]; omega
    · have HE : Hid (n = hexAcc (s.data.toList.takeWhile hexB) ∧ s.data.toList.takeWhile hexB = s.data.toList.take k ∧ s.data.toList.dropWhile hexB = s.data.toList.drop k) := by
        obtain ⟨e1, e2, e3, e4⟩ := hst.out
        by_cases hlt : k < s.size
        · rw [drop_cons s.data.toList k (by rw [size_list]; exact hlt)] at e3 e4
          rw [List.takeWhile_cons, if_neg (by rw [hno hlt]; decide), List.append_nil] at e3
          rw [List.dropWhile_cons, if_neg (by rw [hno hlt]; decide), ← drop_cons s.data.toList k (by rw [size_list]; exact hlt)] at e4
          exact ⟨by rw [e3]; exact e1, e3, e4⟩
        · have hd : s.data.toList.drop k = [] := List.drop_eq_nil_of_le (by rw [size_list]; omega)
          rw [hd] at e3 e4
          rw [List.takeWhile_nil, List.append_nil] at e3
          rw [hd]
          exact ⟨by rw [e3]; exact e1, e3, e4⟩
      obtain ⟨R, hR⟩ : ∃ R, R = s.extract k s.size := ⟨_, rfl⟩
      have hRz : R.size = s.size - k := by rw [hR]; exact size_ext s k hk
      have HRl : Hid (s.data.toList.dropWhile hexB = R.data.toList) := (by rw [hR, Lib.extract_to_end]; exact HE.out.2.2 : s.data.toList.dropWhile hexB = _)
      have HNum : Hid (k ≠ 0 → numR 16 (s.data.toList.takeWhile hexB) 1099511627776 = if 1099511627776 < n then (0, 12) else (n, 0)) := fun h => by
        have h1 := numR_hex (s.data.toList.takeWhile hexB) (fun e => by
          have h2 := HE.out.2.1
          rw [e] at h2
          have h3 := congrArg List.length h2
          rw [List.length_take, size_list, Nat.min_eq_left hk] at h3
          exact h h3.symm) (tw_all_hex _)
        rw [← HE.out.1] at h1
        exact h1
      have HTk : Hid (s.data.toList.takeWhile hexB = [] ↔ k = 0) := by
        show _ ↔ _
        rw [HE.out.2.1]
        constructor
        · intro e
          have h3 := congrArg List.length e
          rw [List.length_take, size_list, Nat.min_eq_left hk] at h3
          exact h3
        · intro e; subst e; simp
      have HDr : Hid (∀ m : Nat, R.data.toList.drop m = (s.extract (k + m) s.size).data.toList) := fun m => by rw [hR, Lib.extract_to_end, Lib.extract_to_end, List.drop_drop]
      have HP : Hid (∀ w, Calls Tryz.prog 57 #[.string R] w fun e w' => ∃ v, e = .returned (.tuple #[v, .int .i64 (paramsR R.data.toList).2.1, .bool ((paramsR R.data.toList).2.2 == 0)]) ∧ OwnP 34 w.heap.size v (paramsR R.data.toList).1 w' ∧ Below w.heap.size w w') := fun w => rParams_any R (by omega) w
      rw [HRl.out] at HZ
      have hxlt : k < s.size → ((s[k]!.toNat : Nat) : Int) = ((s[k]!.toNat : Nat) : Int) := fun _ => rfl
      clear hxlt
      have hts : ¬ ((k : Int) < (s.size : Int)) ∨ ∃ h : k < s.size, ((s[k].toNat : Nat) : Int) = byt s k ∧ (∀ w, Calls Tryz.prog 56 #[.int .u8 (byt s k)] w fun e w' => e = .returned (.int .i64 (-1)) ∧ Below w.heap.size w w') := by
        by_cases h1 : k < s.size
        · right
          refine ⟨h1, byt_at s _ h1, fun w => ?_⟩
          have h2 := rhex_any (s.data.toList.getD k 0) w
          rw [(hexV_bd _).2 (hno h1)] at h2
          exact h2
        · left; omega
      have HRE : Hid (R = s.extract k s.size) := hR
      clear hno hst HE HRl hR
      -- the way out of the loop, and then the parameters
      have HPs : Hid (∀ w1 : World, Below w.heap.size w w1 → Calls Tryz.prog 57 #[.string R] w1 fun e w' => ∃ v, e = .returned (.tuple #[v, .int .i64 (paramsR R.data.toList).2.1, .bool ((paramsR R.data.toList).2.2 == 0)]) ∧ OwnP 34 w.heap.size v (paramsR R.data.toList).1 w' ∧ Below w.heap.size w w') := fun w1 hb => (HP.out w1).mono (fun e w' ⟨v, h1, ho, h3⟩ => ⟨v, h1, ⟨ho.1, by
        rcases ho.2 with h | ⟨g, cap, cur, e, hg, r⟩
        · exact .inl h
        · exact .inr ⟨g, cap, cur, e, Nat.le_trans hb.size hg, r⟩⟩, bel_trans hb h3⟩)
      clear HP
      by_cases hk0 : k = 0
      · have HZ2 : Hid (sizeR s.data.toList = (0, [], 100)) := (by rw [HZ.out, if_pos (.inl (HTk.out.2 hk0))] : sizeR _ = _)
        have hk0' : ((k : Int) == 0) = true := by simp [hk0]
        clear HZ HNum HDr HTk hk0
        rcases hts with t1 | ⟨h1, t2, t3⟩
        · go_wp2_with fail
          rw [← HRE.out]
          refine (HPs.out _ hbl.out).mono ?_
          rintro e w2 ⟨v, rfl, ho, hb2⟩
          have HB2 : Hid (Below w.heap.size w w2) := hb2
          clear hb2 ho
          go_wp2
          go_ret3
          rw [HZ2.out]
          exact ⟨.slice none 0 0, rfl, ownP_nil _ _ _, HB2.out⟩
        · have T3 : Hid (∀ w, Calls Tryz.prog 56 #[.int .u8 (byt s k)] w fun e w' => e = .returned (.int .i64 (-1)) ∧ Below w.heap.size w w') := t3
          clear t3
          go_wp2_with fail
          refine (T3.out _).mono ?_
          rintro e w1 ⟨rfl, hb1⟩
          have HB1 : Hid (Below w.heap.size w w1) := bel_trans hbl.out hb1
          clear hb1
          go_wp2_with fail
          rw [← HRE.out]
          refine (HPs.out _ HB1.out).mono ?_
          rintro e w2 ⟨v, rfl, ho, hb2⟩
          have HB2 : Hid (Below w.heap.size w w2) := hb2
          clear hb2 ho
          go_wp2
          go_ret3
          rw [HZ2.out]
          exact ⟨.slice none 0 0, rfl, ownP_nil _ _ _, HB2.out⟩
      · have hk0' : ((k : Int) == 0) = false := by simp; omega
        have hnum := HNum.out hk0
        have hnot : ¬ (s.data.toList.takeWhile hexB = []) := fun e => hk0 (HTk.out.1 e)
        cases hp : prm R.data.toList with
        | none =>
          have hpr := paramsR_none hp
          have HZ2 : Hid (sizeR s.data.toList = (0, [], 100)) := (by rw [HZ.out, hpr, if_pos (.inr (.inl (by decide)))] : sizeR _ = _)
          rw [hpr] at HPs
          clear HZ HNum HDr HTk hp hpr hnot hnum
          rcases hts with t1 | ⟨h1, t2, t3⟩
          · go_wp2_with fail
            rw [← HRE.out]
            refine (HPs.out _ hbl.out).mono ?_
            rintro e w2 ⟨v, rfl, ho, hb2⟩
            have HB2 : Hid (Below w.heap.size w w2) := hb2
            clear hb2 ho
            go_wp2
            go_ret3
            rw [HZ2.out]
            exact ⟨.slice none 0 0, rfl, ownP_nil _ _ _, HB2.out⟩
          · have T3 : Hid (∀ w, Calls Tryz.prog 56 #[.int .u8 (byt s k)] w fun e w' => e = .returned (.int .i64 (-1)) ∧ Below w.heap.size w w') := t3
            clear t3
            go_wp2_with fail
            refine (T3.out _).mono ?_
            rintro e w1 ⟨rfl, hb1⟩
            have HB1 : Hid (Below w.heap.size w w1) := bel_trans hbl.out hb1
            clear hb1
            go_wp2_with fail
            rw [← HRE.out]
            refine (HPs.out _ HB1.out).mono ?_
            rintro e w2 ⟨v, rfl, ho, hb2⟩
            have HB2 : Hid (Below w.heap.size w w2) := hb2
            clear hb2 ho
            go_wp2
            go_ret3
            rw [HZ2.out]
            exact ⟨.slice none 0 0, rfl, ownP_nil _ _ _, HB2.out⟩
        | some x =>
          have hpr := paramsR_some hp
          have hxle := prm_bound hp
          rw [size_list] at hxle
          rw [hpr] at HPs HZ
          obtain ⟨ps, m⟩ := x
          simp only at hxle HPs HZ
          rw [show ((m : Nat) : Int).toNat = m by simp, HDr.out m, hnum] at HZ
          have HTr : Hid (∀ w, Calls Tryz.prog 58 #[.string (s.extract (k + m) s.size)] w fun e w' => e = .returned (.string (str (trim (s.extract (k + m) s.size).data.toList))) ∧ w' = w) := fun w => Fd.rTrim_any _ (by simp [maxLen]; omega) w
          generalize trim (s.extract (k + m) s.size).data.toList = Y at *
          have hkm : k + m ≤ s.size := by omega
          have HZ2 : Hid (sizeR s.data.toList = if Y ≠ [] then (0, [], 100) else if 1099511627776 < n then (0, [], 102) else (n, ps, 0)) := by
            show sizeR _ = _
            rw [HZ.out]
            by_cases hY : Y = []
            · rw [if_neg (by rintro (h | h | h); exact hnot h; exact h rfl; exact h hY), if_neg (show ¬ (Y ≠ []) from fun h => h hY)]
              by_cases hb : 1099511627776 < n
              · simp [hb]
              · simp [hb]
            · rw [if_pos (.inr (.inr hY)), if_pos hY]
          clear HZ HNum HDr HTk hp hpr hnot hnum
          have hY0 : ((str Y).toList.isEmpty = true ∧ Y = []) ∨ ((str Y).toList.isEmpty = false ∧ Y ≠ []) := by
            by_cases hY : Y = []
            · exact .inl ⟨empty_of (by rw [hY]; rfl), hY⟩
            · exact .inr ⟨nonempty_of (by rw [str_size]; exact fun h => hY (List.length_eq_zero_iff.1 h)), hY⟩
          rcases hts with t1 | ⟨h1, t2, t3⟩
          · go_wp2_with fail
            rw [← HRE.out]
            refine (HPs.out _ hbl.out).mono ?_
            rintro e w2 ⟨v, rfl, ho, hb2⟩
            have HB2 : Hid (Below w.heap.size w w2) := hb2
            have HO2 : Hid (OwnP 34 w.heap.size v ps w2) := ho
            clear hb2 ho
            go_wp2_with fail
            refine (HTr.out _).mono ?_
            rintro e w3 ⟨rfl, hw⟩
            rw [hw]
            clear hw
            rcases hY0 with ⟨hY0, hY⟩ | ⟨hY0, hY⟩
            · have HZ3 : Hid (sizeR s.data.toList = if 1099511627776 < n then (0, [], 102) else (n, ps, 0)) := (by rw [HZ2.out, if_neg (show ¬ (Y ≠ []) from fun h => h hY)] : sizeR _ = _)
              clear hY
              generalize str Y = Z at *
              by_cases hb : 1099511627776 < n
              · have HZ4 : Hid (sizeR s.data.toList = (0, [], 102)) := (by rw [HZ3.out, if_pos hb] : sizeR _ = _)
                go_wp2
                go_ret3
                rw [HZ4.out]
                exact ⟨.slice none 0 0, rfl, ownP_nil _ _ _, HB2.out⟩
              · have HZ4 : Hid (sizeR s.data.toList = (n, ps, 0)) := (by rw [HZ3.out, if_neg hb] : sizeR _ = _)
                go_wp2
                go_ret3
                rw [HZ4.out]
                exact ⟨v, rfl, HO2.out, HB2.out⟩
            · have HZ3 : Hid (sizeR s.data.toList = (0, [], 100)) := (by rw [HZ2.out, if_pos hY] : sizeR _ = _)
              clear hY
              generalize str Y = Z at *
              go_wp2
              go_ret3
              rw [HZ3.out]
              exact ⟨.slice none 0 0, rfl, ownP_nil _ _ _, HB2.out⟩
          · have T3 : Hid (∀ w, Calls Tryz.prog 56 #[.int .u8 (byt s k)] w fun e w' => e = .returned (.int .i64 (-1)) ∧ Below w.heap.size w w') := t3
            clear t3
            go_wp2_with fail
            refine (T3.out _).mono ?_
            rintro e w1 ⟨rfl, hb1⟩
            have HB1 : Hid (Below w.heap.size w w1) := bel_trans hbl.out hb1
            clear hb1
            go_wp2_with fail
            rw [← HRE.out]
            refine (HPs.out _ HB1.out).mono ?_
            rintro e w2 ⟨v, rfl, ho, hb2⟩
            have HB2 : Hid (Below w.heap.size w w2) := hb2
            have HO2 : Hid (OwnP 34 w.heap.size v ps w2) := ho
            clear hb2 ho
            go_wp2_with fail
            refine (HTr.out _).mono ?_
            rintro e w3 ⟨rfl, hw⟩
            rw [hw]
            clear hw
            rcases hY0 with ⟨hY0, hY⟩ | ⟨hY0, hY⟩
            · have HZ3 : Hid (sizeR s.data.toList = if 1099511627776 < n then (0, [], 102) else (n, ps, 0)) := (by rw [HZ2.out, if_neg (show ¬ (Y ≠ []) from fun h => h hY)] : sizeR _ = _)
              clear hY
              generalize str Y = Z at *
              by_cases hb : 1099511627776 < n
              · have HZ4 : Hid (sizeR s.data.toList = (0, [], 102)) := (by rw [HZ3.out, if_pos hb] : sizeR _ = _)
                go_wp2
                go_ret3
                rw [HZ4.out]
                exact ⟨.slice none 0 0, rfl, ownP_nil _ _ _, HB2.out⟩
              · have HZ4 : Hid (sizeR s.data.toList = (n, ps, 0)) := (by rw [HZ3.out, if_neg hb] : sizeR _ = _)
                go_wp2
                go_ret3
                rw [HZ4.out]
                exact ⟨v, rfl, HO2.out, HB2.out⟩
            · have HZ3 : Hid (sizeR s.data.toList = (0, [], 100)) := (by rw [HZ2.out, if_pos hY] : sizeR _ = _)
              clear hY
              generalize str Y = Z at *
              go_wp2
              go_ret3
              rw [HZ3.out]
              exact ⟨.slice none 0 0, rfl, ownP_nil _ _ _, HB2.out⟩

end Ck
end Go.Proofs.YtdbnlpnnfnodnaaGreatDoor

/-
  Of the document: Walk.
-/
set_option linter.unusedVariables false
set_option linter.unusedSimpArgs false
set_option maxRecDepth 100000
namespace Go.Proofs.YtdbnlpnnfnodnaaGreatDoor
open Go.RowKit Go.Shelf
namespace Ck
open Oc Tg _root_.Go.Proofs.YtdbnlpnnfnodnaaGreatDoor.Fd

theorem stS_fresh (m rm f : Int) (b : List UInt8) : Fresh (stS m rm f b) := ⟨rfl, rfl, rfl⟩
theorem app_list (a b : ByteArray) : (a ++ b).data.toList = a.data.toList ++ b.data.toList := by simp

set_option maxHeartbeats 2000000 in
theorem rWalk_any (s : ByteArray) (hs : s.size ≤ 2000000) (m rm f : Int) (hm0 : 0 ≤ m) (hm1 : m ≤ 9223372036854775807) (hr0 : 0 ≤ rm) (hr1 : rm ≤ 9223372036854775807) (hf0 : 0 ≤ f) (hf1 : f ≤ 9223372036854775807) (w : World) :
    Calls Tryz.prog 26 #[.string s, .int .i64 m, .int .i64 rm, .int .i64 f] w fun x w' => ∃ (n : Nat) (e : Int) (d : Bool) (b : ByteArray) (t : List Fl) (v : Value), x = .returned (wkV (n : Int) e d b v) ∧ Sees (eat (new m rm f) s.data.toList) n e d b.data.toList t ∧ OwnF 78 w.heap.size v t w' ∧ Below w.heap.size w w' := by
  obtain ⟨W1, W2, hB, hsz⟩ := two_blocks w 0 0 false ⟨#[]⟩ (.slice none 0 0)
  obtain ⟨w2, hw2⟩ : ∃ w2, w2 = (w.alloc (.cells #[.int .i64 0, .int .i64 0, .bool false, .string ⟨#[]⟩, .slice none 0 0] 74)).alloc (.cells #[.int .i64 0, .int .i64 0, .bool false, .string ⟨#[]⟩, .slice none 0 0] 74) := ⟨_, rfl⟩
  rw [← hw2] at W1 W2 hB hsz
  have HW2 : Hid (w2 = (w.alloc (.cells #[.int .i64 0, .int .i64 0, .bool false, .string ⟨#[]⟩, .slice none 0 0] 74)).alloc (.cells #[.int .i64 0, .int .i64 0, .bool false, .string ⟨#[]⟩, .slice none 0 0] 74)) := hw2
  have HB : Hid (Below w.heap.size w w2) := hB
  have HWR : Hid (WB w2 w.heap.size 0 0 false ⟨#[]⟩ (.slice none 0 0)) := W1
  have HWA : Hid (WB w2 (w.heap.size + 1) 0 0 false ⟨#[]⟩ (.slice none 0 0)) := W2
  clear hw2 hB W2 W1 hsz
  go_enter Tryz.func26, Tryz.ntmps26
  go_wp2
  rw [← HW2.out]
  go_loopw [10] (fun av wr => ∃ (a : Nat) (b : ByteArray), a ≤ s.size ∧ av = .int .i64 a ∧ b.size ≤ a ∧ (b.size : Int) ≤ m ∧ Hid (eat (new m rm f) s.data.toList = (a + (eat (stS m rm f b.data.toList) (s.data.toList.drop a)).1, (eat (stS m rm f b.data.toList) (s.data.toList.drop a)).2)) ∧ Hid (WB wr (w.heap.size + 1) 0 0 false b (.slice none 0 0)) ∧ Hid (WB wr w.heap.size 0 0 false ⟨#[]⟩ (.slice none 0 0)) ∧ Hid (Below w.heap.size w wr)) (fun av _ => s.size - (intOf av).toNat)
  case atStart => exact ⟨0, ⟨#[]⟩, Nat.zero_le _, rfl, Nat.le_refl _, hm0, (by rw [List.drop_zero, Nat.zero_add, ← stS_new] : eat (new m rm f) s.data.toList = (0 + (eat (stS m rm f []) (s.data.toList.drop 0)).1, (eat (stS m rm f []) (s.data.toList.drop 0)).2)), HWA, HWR, HB⟩
  case round =>
    obtain ⟨a, b, ha, rfl, hba, hbm, hst, hwa, hwr, hbl⟩ := hrel
    obtain ⟨c0, c1, c2, c3, c4⟩ := hwa.out.c
    have HML : Hid ((s.data.toList.drop a).length = s.size - a) := (by rw [List.length_drop, size_list] : (s.data.toList.drop a).length = s.size - a)
    have hsza := hwa.out.lt
    have hszr := hwr.out.lt
    obtain ⟨wo, rfl⟩ : ∃ wo, wo = wr := ⟨_, rfl⟩
    have HFar : Hid ((∀ i, i < 256 → a + i < s.size → s.data.toList.getD (a + i) 0 ≠ 10) → 255 < s.size - a → Sees (eat (new m rm f) s.data.toList) (a + 256) 100 false b.data.toList []) := fun hn hl => Sees.on hst.out (open0_long (s := stS m rm f b.data.toList) rfl (stS_fresh _ _ _ _) (fun i h1 h2 => by rw [dropG]; exact hn i h1 (by rw [HML.out] at h2; omega)) (by rw [HML.out]; omega))
    have HNear : Hid ((∀ i, i < 256 → a + i < s.size → s.data.toList.getD (a + i) 0 ≠ 10) → ¬ 255 < s.size - a → Sees (eat (new m rm f) s.data.toList) (a + (s.size - a)) 0 false b.data.toList []) := fun hn hl => by
      have h := Sees.on hst.out (open0_short (s := stS m rm f b.data.toList) rfl (stS_fresh _ _ _ _) (fun i h1 h2 => by rw [dropG]; exact hn i h1 (by rw [HML.out] at h2; omega)) (by rw [HML.out]; omega))
      rw [HML.out] at h
      exact h
    go_wp2_with fail
    refine (rending_any s (by omega) a ha 256 (by omega) _).mono ?_
    rintro e w3 ⟨hd, hw⟩
    rw [hw]
    clear hw
    rcases hd with ⟨i, rfl, hY⟩ | ⟨rfl, hN⟩
    · obtain ⟨P, hP⟩ : ∃ P, P = a + i := ⟨_, rfl⟩
      have HP : Hid (P = a + i) := hP
      rw [← hP]
      have hPs : P < s.size := by rw [hP]; exact hY.ins
      have hPa : a ≤ P := by omega
      clear hP
      have hl0 : noLf ((s.data.toList.drop a).take i) := noLf_of (fun j h1 h2 => by rw [dropG]; exact hY.no j h1)
      have hlen : ((s.data.toList.drop a).take i).length = i := by rw [List.length_take, HML.out]; have := HP.out; omega
      have hcut : s.data.toList.drop a = (s.data.toList.drop a).take i ++ 10 :: (s.data.toList.drop a).drop (i + 1) := cut_lf (by rw [HML.out]; have := HP.out; omega) (by rw [dropG]; exact hY.lf)
      have hrest : (s.data.toList.drop a).drop (i + 1) = s.data.toList.drop (P + 1) := by rw [List.drop_drop, HP.out, Nat.add_assoc]
      rw [hrest] at hcut
      have hll : ((s.data.toList.drop a).take i).length < 256 := by rw [hlen]; exact hY.lt
      have HBad : Hid ((∀ k, (s.data.toList.drop a).take i ≠ k ++ [13]) → Sees (eat (new m rm f) s.data.toList) (a + (i + 1)) 100 false b.data.toList []) := fun h => by
        have h := line0_bad (s := stS m rm f b.data.toList) (r := s.data.toList.drop (P + 1)) rfl (stS_fresh _ _ _ _) hl0 hll h
        rw [← hcut, hlen] at h
        exact Sees.on hst.out h
      have HErr : Hid (∀ k, (s.data.toList.drop a).take i = k ++ [13] → (sizeR k).2.2 ≠ 0 → Sees (eat (new m rm f) s.data.toList) (a + (i + 1)) (sizeR k).2.2 false b.data.toList []) := fun k hk he => by
        have h := line0_err (s := stS m rm f b.data.toList) (r := s.data.toList.drop (P + 1)) rfl (stS_fresh _ _ _ _) hl0 hll hk he
        rw [← hcut, hlen] at h
        exact Sees.on hst.out h
      have HMuch : Hid (∀ k, (s.data.toList.drop a).take i = k ++ [13] → (sizeR k).2.2 = 0 → m - (b.size : Int) < (sizeR k).1 → Sees (eat (new m rm f) s.data.toList) (a + (i + 1)) 102 false b.data.toList []) := fun k hk he hb => by
        have h := line0_much (s := stS m rm f b.data.toList) (r := s.data.toList.drop (P + 1)) rfl (stS_fresh _ _ _ _) hl0 hll hk he (by show m - (b.data.toList.length : Int) < _; rw [size_list]; exact hb)
        rw [← hcut, hlen] at h
        exact Sees.on hst.out h
      have HLst : Hid (∀ k, (s.data.toList.drop a).take i = k ++ [13] → (sizeR k).2.2 = 0 → ¬ (m - (b.size : Int) < (sizeR k).1) → (sizeR k).1 = 0 → eat (new m rm f) s.data.toList = (a + (i + 1) + (eat (stT m rm f b.data.toList [] 0) (s.data.toList.drop (P + 1))).1, (eat (stT m rm f b.data.toList [] 0) (s.data.toList.drop (P + 1))).2)) := fun k hk he hb hz => by
        have h := line0_last (s := stS m rm f b.data.toList) (r := s.data.toList.drop (P + 1)) rfl (stS_fresh _ _ _ _) hl0 hll hk he (by show ¬ (m - (b.data.toList.length : Int) < _); rw [size_list]; exact hb) hz
        rw [← hcut, hlen, stT_of] at h
        exact eat_on hst.out h
      have HChk : Hid (∀ k, (s.data.toList.drop a).take i = k ++ [13] → (sizeR k).2.2 = 0 → ¬ (m - (b.size : Int) < (sizeR k).1) → (sizeR k).1 ≠ 0 → eat (new m rm f) s.data.toList = (a + (i + 1) + (eat { (stS m rm f b.data.toList) with most := (stS m rm f b.data.toList).most - (sizeR k).1, left := (sizeR k).1, mode := 1 } (s.data.toList.drop (P + 1))).1, (eat { (stS m rm f b.data.toList) with most := (stS m rm f b.data.toList).most - (sizeR k).1, left := (sizeR k).1, mode := 1 } (s.data.toList.drop (P + 1))).2)) := fun k hk he hb hz => by
        have h := line0_chunk (s := stS m rm f b.data.toList) (r := s.data.toList.drop (P + 1)) rfl (stS_fresh _ _ _ _) hl0 hll hk he (by show ¬ (m - (b.data.toList.length : Int) < _); rw [size_list]; exact hb) hz
        rw [← hcut, hlen] at h
        exact eat_on hst.out h
      have HLast : Hid (∀ i1, i = i1 + 1 → (s.data.toList.drop a).take i = (s.data.toList.drop a).take i1 ++ [s.data.toList.getD (a + i1) 0]) := fun i1 h => by
        subst h
        have hlt : i1 < (s.data.toList.drop a).length := by rw [HML.out]; have := HP.out; omega
        rw [List.take_succ_eq_append_getElem hlt, ← dropG, List.getD_eq_getElem?_getD, List.getElem?_eq_getElem hlt]; rfl
      have hi256 := hY.lt
      clear hl0 hlen hcut hrest hll hY HFar HNear
      by_cases hi0 : i = 0
      · have hPa0 : P = a := by have := HP.out; omega
        have HS : Hid (Sees (eat (new m rm f) s.data.toList) (a + (i + 1)) 100 false b.data.toList []) := HBad.out (fun k e => by subst hi0; simp at e)
        have HI0 : Hid (i = 0) := hi0
        subst hPa0
        have hq : ((P : Int) == (P : Int)) = true := by simp
        clear hi0 HBad HErr HMuch HLst HChk HLast
        go_wp2_with fail
        refine (rfailed_any 0 0 false b none 0 0 _ 100 (by omega) (by omega) _).mono ?_
        rintro x w6 ⟨rfl, hb6⟩
        have HRr : Hid (WB w6 w.heap.size 0 0 false ⟨#[]⟩ (.slice none 0 0)) := hwr.out.bel hb6
        have HB6 : Hid (Below w.heap.size w w6) := bel_up hbl.out hb6 (by omega)
        clear hb6
        obtain ⟨r0, r1, r2, r3, r4⟩ := HRr.out.c
        have f0 := HRr.out.f 0
        have f1 := HRr.out.f 1
        have f2 := HRr.out.f 2
        have f3 := HRr.out.f 3
        have f4 := HRr.out.f 4
        go_wp2
        refine bodyPost_ret (v := .agg #[.int .i64 ((P : Int) + 1), .int .i64 100, .bool false, .string b, .slice none 0 0]) (by simp [results, Tryz.results26, go_sem, r0, r1, r2, r3, r4]) rfl ?_
        first | refine ⟨P + (i + 1), _, _, b, [], _, wkV_mk (by have := HI0.out; omega), HS.out, ownF_nil _ _ _, ?_⟩ | refine ⟨P + (i + 1), _, .inl ⟨b, [], _, wkV_mk (by have := HI0.out; omega), HS.out, ownF_nil _ _ _, ?_⟩⟩
        have h := HB6.out
        repeat (refine Below.setCell ?_ (by simp) _)
        exact h
      · obtain ⟨i1, rfl⟩ : ∃ i1, i = i1 + 1 := ⟨i - 1, by omega⟩
        obtain ⟨Q, hQ⟩ : ∃ Q, P = Q + 1 := ⟨P - 1, by have := HP.out; omega⟩
        subst hQ
        have HQ : Hid (Q = a + i1) := (by have := HP.out; omega : Q = a + i1)
        have hQs : Q < s.size := by omega
        have hby : ((s[Q].toNat : Nat) : Int) = byt s Q := byt_at s Q hQs
        have hne : (((Q : Int) + 1) == (a : Int)) = false := by have := HQ.out; simp; omega
        have HL2 : Hid ((s.data.toList.drop a).take (i1 + 1) = (s.data.toList.drop a).take i1 ++ [s.data.toList.getD Q 0]) := (by rw [HQ.out]; exact HLast.out i1 rfl : (s.data.toList.drop a).take (i1 + 1) = _)
        have hQa : a ≤ Q := by have := HQ.out; omega
        have HAi : Hid (a + (i1 + 1 + 1) = Q + 1 + 1) := (by have := HQ.out; omega : a + (i1 + 1 + 1) = Q + 1 + 1)
        rw [HAi.out] at HBad HErr HMuch HLst HChk
        by_cases h13 : s.data.toList.getD Q 0 = 13
        · have q13 : (byt s Q != 13) = false := by unfold byt; rw [h13]; rfl
          obtain ⟨X, hX⟩ : ∃ X, X = s.extract a Q := ⟨_, rfl⟩
          have HX : Hid (X = s.extract a Q) := hX
          have HXl : Hid (X.data.toList = (s.data.toList.drop a).take i1) := (by rw [hX, Lib.extract_data, HQ.out, show a + i1 - a = i1 by omega] : X.data.toList = _)
          have hXs : X.size = i1 := by
            have h := congrArg List.length HXl.out
            rw [size_list, List.length_take, HML.out] at h
            have := HQ.out
            omega
          have HL3 : Hid ((s.data.toList.drop a).take (i1 + 1) = X.data.toList ++ [13]) := (by rw [HL2.out, h13, HXl.out] : (s.data.toList.drop a).take (i1 + 1) = _)
          clear h13 hX
          have HPS : Hid (∀ w, Calls Tryz.prog 43 #[.string X] w fun e w' => ∃ v, e = .returned (.tuple #[.int .i64 (sizeR X.data.toList).1, v, .int .i64 (sizeR X.data.toList).2.2]) ∧ OwnP 34 w.heap.size v (sizeR X.data.toList).2.1 w' ∧ Below w.heap.size w w') := fun w => rParseSize_any X (by omega) w
          have HErr2 := HErr.out X.data.toList HL3.out
          have HMuch2 := HMuch.out X.data.toList HL3.out
          have HLst2 := HLst.out X.data.toList HL3.out
          have HChk2 := HChk.out X.data.toList HL3.out
          obtain ⟨n0, n1⟩ := sizeR_bd X.data.toList
          clear HErr HMuch HLst HChk HBad HLast HL2 HL3
          generalize sizeR X.data.toList = q at *
          obtain ⟨n, ps, e⟩ := q
          simp only at n0 n1 HPS HErr2 HMuch2 HLst2 HChk2
          have HE2 : Hid (e ≠ 0 → Sees (eat (new m rm f) s.data.toList) (Q + 1 + 1) e false b.data.toList []) := HErr2
          have HM2 : Hid (e = 0 → m - (b.size : Int) < n → Sees (eat (new m rm f) s.data.toList) (Q + 1 + 1) 102 false b.data.toList []) := HMuch2
          have HL2 : Hid (e = 0 → ¬ (m - (b.size : Int) < n) → n = 0 → eat (new m rm f) s.data.toList = (Q + 1 + 1 + (eat (stT m rm f b.data.toList [] 0) (s.data.toList.drop (Q + 1 + 1))).1, (eat (stT m rm f b.data.toList [] 0) (s.data.toList.drop (Q + 1 + 1))).2)) := HLst2
          have HC2 : Hid (e = 0 → ¬ (m - (b.size : Int) < n) → n ≠ 0 → eat (new m rm f) s.data.toList = (Q + 1 + 1 + (eat { (stS m rm f b.data.toList) with most := (stS m rm f b.data.toList).most - n, left := n, mode := 1 } (s.data.toList.drop (Q + 1 + 1))).1, (eat { (stS m rm f b.data.toList) with most := (stS m rm f b.data.toList).most - n, left := n, mode := 1 } (s.data.toList.drop (Q + 1 + 1))).2)) := HChk2
          clear HErr2 HMuch2 HLst2 HChk2
          go_wp2_with fail
          rw [← HX.out]
          refine (HPS.out _).mono ?_
          rintro x w4 ⟨vp, rfl, hop, hb4⟩
          have HW4 : Hid (WB w4 (w.heap.size + 1) 0 0 false b (.slice none 0 0)) := hwa.out.bel hb4
          have HR4 : Hid (WB w4 w.heap.size 0 0 false ⟨#[]⟩ (.slice none 0 0)) := hwr.out.bel hb4
          have HB4 : Hid (Below w.heap.size w w4) := bel_up hbl.out hb4 (by omega)
          obtain ⟨d0, d1, d2, d3, d4⟩ := HW4.out.c
          have hsz4 := HW4.out.lt
          clear hb4 hop c0 c1 c2 c3 c4
          have hwm : IntKind.i64.wrap (m - (b.size : Int)) = m - (b.size : Int) := by rw [IntKind.wrap_i64]; omega
          by_cases he : e = 0
          · subst he
            by_cases hmu : m - (b.size : Int) < n
            · have HS : Hid (Sees (eat (new m rm f) s.data.toList) (Q + 1 + 1) 102 false b.data.toList []) := HM2.out rfl hmu
              clear HE2 HM2 HL2 HC2
              go_wp2_with fail
              refine (rfailed_any 0 0 false b none 0 0 _ 102 (by omega) (by omega) _).mono ?_
              rintro x w6 ⟨rfl, hb6⟩
              have HRr : Hid (WB w6 w.heap.size 0 0 false ⟨#[]⟩ (.slice none 0 0)) := HR4.out.bel hb6
              have HB6 : Hid (Below w.heap.size w w6) := bel_up HB4.out hb6 (by omega)
              clear hb6
              obtain ⟨r0, r1, r2, r3, r4⟩ := HRr.out.c
              have f0 := HRr.out.f 0
              have f1 := HRr.out.f 1
              have f2 := HRr.out.f 2
              have f3 := HRr.out.f 3
              have f4 := HRr.out.f 4
              go_wp2
              refine bodyPost_ret (v := .agg #[.int .i64 ((Q : Int) + 1 + 1), .int .i64 102, .bool false, .string b, .slice none 0 0]) (by simp [results, Tryz.results26, go_sem, r0, r1, r2, r3, r4]) rfl ?_
              first | refine ⟨Q + 1 + 1, _, _, b, [], _, wkV_mk (by omega), HS.out, ownF_nil _ _ _, ?_⟩ | refine ⟨Q + 1 + 1, _, .inl ⟨b, [], _, wkV_mk (by omega), HS.out, ownF_nil _ _ _, ?_⟩⟩
              have h := HB6.out
              repeat (refine Below.setCell ?_ (by simp) _)
              exact h
            · by_cases hn0 : n = 0
              · have HST := HL2.out rfl (by omega) hn0
                have HS : Hid (eat (new m rm f) s.data.toList = (Q + 1 + 1 + (eat (stT m rm f b.data.toList [] 0) (s.data.toList.drop (Q + 1 + 1))).1, (eat (stT m rm f b.data.toList [] 0) (s.data.toList.drop (Q + 1 + 1))).2)) := HST
                clear HE2 HM2 HL2 HC2 HST
                subst hn0
                go_wp2_with fail
                refine (rtrail_any m rm f hr0 hr1 hf0 hf1 b s hs (Q + 1 + 1) (by omega) _).mono ?_
                rintro x w6 ⟨n6, e6, d6, t6, v6, rfl, hs6, ho6, hb6⟩
                have HS6 : Hid (Sees (eat (new m rm f) s.data.toList) (Q + 1 + 1 + n6) e6 d6 b.data.toList t6) := Sees.on HS.out hs6
                have HRr : Hid (WB w6 w.heap.size 0 0 false ⟨#[]⟩ (.slice none 0 0)) := HR4.out.bel hb6
                have HB6 : Hid (Below w.heap.size w w6) := bel_up HB4.out hb6 (by omega)
                have HO6 : Hid (OwnF 78 (w.heap.size + 1) v6 t6 w6) := OwnF.base ho6 (by omega)
                obtain ⟨va6, vc6, hv6⟩ := OwnF.form ho6
                subst hv6
                clear hb6 hs6 ho6
                unfold wkV
                obtain ⟨r0, r1, r2, r3, r4⟩ := HRr.out.c
                have f0 := HRr.out.f 0
                have f1 := HRr.out.f 1
                have f2 := HRr.out.f 2
                have f3 := HRr.out.f 3
                have f4 := HRr.out.f 4
                go_wp2
                refine bodyPost_ret (v := .agg #[.int .i64 (((Q + 1 + 1 : Nat) : Int) + (n6 : Int)), .int .i64 e6, .bool d6, .string b, .slice va6 t6.length vc6]) (by simp [results, Tryz.results26, go_sem, r0, r1, r2, r3, r4]) rfl ?_
                first | refine ⟨Q + 1 + 1 + n6, _, _, b, t6, _, wkV_mk (by omega), HS6.out, OwnF.base (B := w.heap.size + 1) ?_ (by omega), ?_⟩ | refine ⟨Q + 1 + 1 + n6, _, .inl ⟨b, t6, _, wkV_mk (by omega), HS6.out, OwnF.base (B := w.heap.size + 1) ?_ (by omega), ?_⟩⟩
                · have h := HO6.out
                  repeat (refine OwnF.low ?_ (by simp) _)
                  exact h
                have h := HB6.out
                repeat (refine Below.setCell ?_ (by simp) _)
                exact h
              · have HST := HC2.out rfl (by omega) hn0
                obtain ⟨N, hN⟩ : ∃ N : Nat, n = (N : Int) := ⟨n.toNat, by omega⟩
                subst hN
                have HS : Hid (eat (new m rm f) s.data.toList = (Q + 1 + 1 + (eat { (stS m rm f b.data.toList) with most := (stS m rm f b.data.toList).most - (N : Int), left := (N : Int), mode := 1 } (s.data.toList.drop (Q + 1 + 1))).1, (eat { (stS m rm f b.data.toList) with most := (stS m rm f b.data.toList).most - (N : Int), left := (N : Int), mode := 1 } (s.data.toList.drop (Q + 1 + 1))).2)) := HST
                have hN0 : ((N : Int) == 0) = false := by simp; omega
                have hNp : 0 < N := by omega
                have hNm : b.size + N ≤ m := by omega
                clear HE2 HM2 HL2 HC2 HST hn0
                have HDl : Hid ((s.data.toList.drop (Q + 1 + 1)).length = s.size - (Q + 1 + 1)) := (by rw [List.length_drop, size_list] : (s.data.toList.drop (Q + 1 + 1)).length = s.size - (Q + 1 + 1))
                have hsb := HW4.out.f 3
                have hs0 := HW4.out.f 0
                obtain ⟨A, hA⟩ : ∃ A, A = Q + 1 + 1 := ⟨_, rfl⟩
                have HA : Hid (A = Q + 1 + 1) := hA
                have hAs : A ≤ s.size := by omega
                have HAi2 : Hid ((Q : Int) + 1 + 1 = (A : Int)) := (by omega : (Q : Int) + 1 + 1 = (A : Int))
                rw [← hA] at HS HDl
                clear hA
                by_cases hsh : (s.size : Int) - ((Q : Int) + 1 + 1) < (N : Int)
                · obtain ⟨Z, hZ⟩ : ∃ Z, Z = s.extract A s.size := ⟨_, rfl⟩
                  have HZ : Hid (Z = s.extract A s.size) := hZ
                  have HZl : Hid (Z.data.toList = s.data.toList.drop A) := (by rw [hZ, Lib.extract_to_end] : Z.data.toList = _)
                  have hZs : Z.size = s.size - A := by rw [hZ]; exact size_ext s A hAs
                  have HS6 : Hid (Sees (eat (new m rm f) s.data.toList) (A + (s.size - A)) 0 false (b ++ Z).data.toList []) := by
                    have h := Sees.on HS.out (chunk_part (most := m) (room := rm) (fields := f) (b := b.data.toList) (t := s.data.toList.drop A) (n := (N : Int)) (by rw [HDl.out]; have := HA.out; omega))
                    rw [HDl.out, ← HZl.out, ← app_list] at h
                    exact h
                  have hcat : ¬ (9223372036854775807 < b.size + Z.size) := by omega
                  clear hZ
                  go_wp2_with fail
                  rw [HAi2.out]
                  go_region
                  rw [← HZ.out]
                  obtain ⟨w5, hw5⟩ : ∃ w5, w5 = (w4.setCell ⟨w.heap.size + 1, 3, none⟩ (.string (b ++ Z))).drew := ⟨_, rfl⟩
                  have HW5 : Hid (WB w5 (w.heap.size + 1) 0 0 false (b ++ Z) (.slice none 0 0)) := (by rw [hw5]; exact HW4.out.set3 _ : WB w5 (w.heap.size + 1) 0 0 false (b ++ Z) (.slice none 0 0))
                  have HRr : Hid (WB w5 w.heap.size 0 0 false ⟨#[]⟩ (.slice none 0 0)) := (by rw [hw5]; exact HR4.out.other (by simp) _ : WB w5 w.heap.size 0 0 false ⟨#[]⟩ (.slice none 0 0))
                  have HB5 : Hid (Below w.heap.size w w5) := (by rw [hw5]; exact (HB4.out.setCell (by simp) _).drew : Below w.heap.size w w5)
                  rw [← hw5]
                  clear hw5
                  have hbz : (b ++ Z).size = b.size + Z.size := by simp
                  generalize b ++ Z = bz at *
                  obtain ⟨e0, e1, e2, e3, e4⟩ := HW5.out.c
                  have ef0 := HW5.out.f 0
                  have hsz5 := HW5.out.lt
                  obtain ⟨r0, r1, r2, r3, r4⟩ := HRr.out.c
                  have f0 := HRr.out.f 0
                  have f1 := HRr.out.f 1
                  have f2 := HRr.out.f 2
                  have f3 := HRr.out.f 3
                  have f4 := HRr.out.f 4
                  go_wp2
                  refine bodyPost_ret (v := .agg #[.int .i64 ((s.size : Int)), .int .i64 0, .bool false, .string bz, .slice none 0 0]) (by simp [results, Tryz.results26, go_sem, r0, r1, r2, r3, r4, e0, e1, e2, e3, e4]) rfl ?_
                  first | refine ⟨A + (s.size - A), _, _, bz, [], _, wkV_mk (by omega), HS6.out, ownF_nil _ _ _, ?_⟩ | refine ⟨A + (s.size - A), _, .inl ⟨bz, [], _, wkV_mk (by omega), HS6.out, ownF_nil _ _ _, ?_⟩⟩
                  have h := HB5.out
                  repeat (refine Below.setCell ?_ (by simp) _)
                  exact h
                · have hfit : A + N ≤ s.size := by have := HA.out; omega
                  obtain ⟨Z, hZ⟩ : ∃ Z, Z = s.extract A (A + N) := ⟨_, rfl⟩
                  have HZ : Hid (Z = s.extract A (A + N)) := hZ
                  have HZl : Hid (Z.data.toList = (s.data.toList.drop A).take N) := (by rw [hZ, Lib.extract_data, show A + N - A = N by omega] : Z.data.toList = _)
                  have hZs : Z.size = N := by
                    have h := congrArg List.length HZl.out
                    rw [size_list, List.length_take, HDl.out] at h
                    omega
                  have HS6 : Hid (eat (new m rm f) s.data.toList = (A + N + (eat (stK m rm f (b ++ Z).data.toList 0) (s.data.toList.drop (A + N))).1, (eat (stK m rm f (b ++ Z).data.toList 0) (s.data.toList.drop (A + N))).2)) := by
                    have h := chunk_all (most := m) (room := rm) (fields := f) (b := b.data.toList) (t := Z.data.toList) (r := s.data.toList.drop (A + N)) (n := (N : Int)) (by rw [size_list, hZs]) (fun e => by have h := size_list Z; rw [e] at h; simp at h; omega)
                    have e : Z.data.toList ++ s.data.toList.drop (A + N) = s.data.toList.drop A := by rw [HZl.out, ← List.drop_drop, List.take_append_drop]
                    rw [e, size_list, hZs, ← app_list] at h
                    exact eat_on HS.out h
                  have hcat : ¬ (9223372036854775807 < b.size + Z.size) := by omega
                  have hcatz : Z.size = N := hZs
                  rw [hZ] at hcatz hcat
                  clear hZ
                  go_wp2_with fail
                  rw [HAi2.out]
                  go_region
                  rw [← HZ.out]
                  obtain ⟨w5, hw5⟩ : ∃ w5, w5 = (w4.setCell ⟨w.heap.size + 1, 3, none⟩ (.string (b ++ Z))).drew := ⟨_, rfl⟩
                  have HW5 : Hid (WB w5 (w.heap.size + 1) 0 0 false (b ++ Z) (.slice none 0 0)) := (by rw [hw5]; exact HW4.out.set3 _ : WB w5 (w.heap.size + 1) 0 0 false (b ++ Z) (.slice none 0 0))
                  have HRr : Hid (WB w5 w.heap.size 0 0 false ⟨#[]⟩ (.slice none 0 0)) := (by rw [hw5]; exact HR4.out.other (by simp) _ : WB w5 w.heap.size 0 0 false ⟨#[]⟩ (.slice none 0 0))
                  have HB5 : Hid (Below w.heap.size w w5) := (by rw [hw5]; exact (HB4.out.setCell (by simp) _).drew : Below w.heap.size w w5)
                  rw [← hw5]
                  clear hw5
                  have hbz : (b ++ Z).size = b.size + Z.size := by simp
                  generalize b ++ Z = bz at *
                  obtain ⟨e0, e1, e2, e3, e4⟩ := HW5.out.c
                  have ef0 := HW5.out.f 0
                  have hsz5 := HW5.out.lt
                  obtain ⟨A2, hA2⟩ : ∃ A2, A2 = A + N := ⟨_, rfl⟩
                  have HA2 : Hid (A2 = A + N) := hA2
                  rw [← hA2] at HS6 hfit
                  clear hA2
                  obtain ⟨w6, hw6⟩ : ∃ w6, w6 = w5.alloc (.cells #[.int .u8 13, .int .u8 10] 5) := ⟨_, rfl⟩
                  have hb6 : Below w5.heap.size w5 w6 := by rw [hw6]; exact (Below.refl _ _).alloc (Nat.le_refl _) _
                  have HF6 : Hid (w6.heap[w5.heap.size]? = some (.cells #[.int .u8 13, .int .u8 10] 5 (0, 0))) := (by rw [hw6]; exact heap_alloc_new _ _ : w6.heap[w5.heap.size]? = some (.cells #[.int .u8 13, .int .u8 10] 5 (0, 0)))
                  have HW6 : Hid (WB w6 (w.heap.size + 1) 0 0 false bz (.slice none 0 0)) := HW5.out.bel hb6
                  have HR6 : Hid (WB w6 w.heap.size 0 0 false ⟨#[]⟩ (.slice none 0 0)) := HRr.out.bel hb6
                  have HB6 : Hid (Below w.heap.size w w6) := bel_up HB5.out hb6 (by omega)
                  have HW6e : Hid (w6 = w5.alloc (.cells #[.int .u8 13, .int .u8 10] 5)) := hw6
                  obtain ⟨g0, g1, g2, g3, g4⟩ := HW6.out.c
                  have gf0 := HW6.out.f 0
                  have hsz6 := HW6.out.lt
                  clear hb6 hw6 HRr
                  go_wp2
                  rw [← HW6e.out]
                  have HAN : Hid ((A : Int) + (N : Int) = (A2 : Int)) := (by have := HA2.out; omega : (A : Int) + (N : Int) = (A2 : Int))
                  rw [HAN.out]
                  go_loop [10, 108] (fun av iv => ∃ k : Nat, k ≤ 2 ∧ iv = .int .i64 k ∧ av = .int .i64 ((A2 + k : Nat) : Int) ∧ A2 + k ≤ s.size ∧ Hid (eat (new m rm f) s.data.toList = (A2 + k + (eat (stK m rm f bz.data.toList k) (s.data.toList.drop (A2 + k))).1, (eat (stK m rm f bz.data.toList k) (s.data.toList.drop (A2 + k))).2))) (fun _ iv => 2 - (intOf iv).toNat)
                  case atStart => exact ⟨0, by omega, rfl, rfl, by omega, HS6⟩
                  case round =>
                    obtain ⟨k, hk2, rfl, rfl, hks, hsk⟩ := hrel
                    by_cases hk : k < 2
                    · have kc : w6.cell? ⟨w5.heap.size, k, none⟩ = some (.int .u8 ((retAt k).toNat : Int)) := by
                        rw [cell_of_row w6 _ _ _ _ _ HF6.out]
                        match k, hk with
                        | 0, _ => rfl
                        | 1, _ => rfl
                      obtain ⟨P2, hP2⟩ : ∃ P2, P2 = A2 + k := ⟨_, rfl⟩
                      have HP2 : Hid (P2 = A2 + k) := hP2
                      rw [← hP2] at hsk hks ⊢
                      clear hP2
                      have hrb : (retAt k).toNat < 256 := (retAt k).toNat_lt
                      by_cases hend : P2 = s.size
                      · have qe : ((P2 : Int) == (s.size : Int)) = true := by simp [hend]
                        have HS7 : Hid (Sees (eat (new m rm f) s.data.toList) (P2 + 0) 0 false bz.data.toList []) := Sees.on hsk.out (by
                          rw [List.drop_eq_nil_of_le (by rw [size_list]; omega)]
                          exact stK_nil _ _ _ _ _)
                        have HRr : Hid (WB w6 w.heap.size 0 0 false ⟨#[]⟩ (.slice none 0 0)) := HR6
                        clear hend
                        generalize (retAt k).toNat = rk at *
                        obtain ⟨r0, r1, r2, r3, r4⟩ := HRr.out.c
                        have f0 := HRr.out.f 0
                        have f1 := HRr.out.f 1
                        have f2 := HRr.out.f 2
                        have f3 := HRr.out.f 3
                        have f4 := HRr.out.f 4
                        go_wp2
                        refine bodyPost_ret (v := .agg #[.int .i64 ((P2 : Int)), .int .i64 0, .bool false, .string bz, .slice none 0 0]) (by simp [results, Tryz.results26, go_sem, r0, r1, r2, r3, r4, g0, g1, g2, g3, g4]) rfl ?_
                        first | refine ⟨P2 + 0, _, _, bz, [], _, wkV_mk (by omega), HS7.out, ownF_nil _ _ _, ?_⟩ | refine ⟨P2 + 0, _, .inl ⟨bz, [], _, wkV_mk (by omega), HS7.out, ownF_nil _ _ _, ?_⟩⟩
                        have h := HB6.out
                        repeat (refine Below.setCell ?_ (by simp) _)
                        exact h
                      · have qe : ((P2 : Int) == (s.size : Int)) = false := by simp; omega
                        have hPl : P2 < s.size := by omega
                        have hby2 : ((s[P2].toNat : Nat) : Int) = byt s P2 := byt_at s P2 hPl
                        have hdc := drop_cons s.data.toList P2 (by rw [size_list]; exact hPl)
                        have HDC : Hid (s.data.toList.drop P2 = s.data.toList.getD P2 0 :: s.data.toList.drop (P2 + 1)) := hdc
                        clear hdc hend
                        by_cases hcr : s.data.toList.getD P2 0 = retAt k
                        · have qn : (byt s P2 != ((retAt k).toNat : Int)) = false := by unfold byt; rw [hcr]; simp
                          have HS7 : Hid (eat (new m rm f) s.data.toList = (A2 + (k + 1) + (eat (stK m rm f bz.data.toList (k + 1)) (s.data.toList.drop (A2 + (k + 1)))).1, (eat (stK m rm f bz.data.toList (k + 1)) (s.data.toList.drop (A2 + (k + 1)))).2)) := by
                            have h := stK_on m rm f bz.data.toList k hk (s.data.toList.drop (P2 + 1))
                            rw [← hcr, ← HDC.out] at h
                            have h2 := eat_on hsk.out h
                            rw [HP2.out] at h2
                            exact h2
                          clear hcr
                          generalize (retAt k).toNat = rk at *
                          go_wp2
                          go_round
                          case rel => exact ⟨k + 1, by omega, by go_num, by have := HP2.out; go_num, by have := HP2.out; omega, HS7⟩
                          case measure => simp [intOf]; omega
                        · have qn : (byt s P2 != ((retAt k).toNat : Int)) = true := by
                            simp only [bne_iff_ne, ne_eq]
                            intro e
                            exact hcr (UInt8.toNat_inj.1 (by unfold byt at e; omega))
                          have HS7 : Hid (Sees (eat (new m rm f) s.data.toList) (P2 + 1) 100 false bz.data.toList []) := Sees.on hsk.out (by
                            rw [HDC.out]
                            exact stK_bad _ _ _ _ k hk _ hcr _)
                          clear hcr
                          generalize (retAt k).toNat = rk at *
                          go_wp2_with fail
                          refine (rfailed_any 0 0 false bz none 0 0 _ 100 (by omega) (by omega) _).mono ?_
                          rintro x w7 ⟨rfl, hb6⟩
                          have HRr : Hid (WB w7 w.heap.size 0 0 false ⟨#[]⟩ (.slice none 0 0)) := HR6.out.bel hb6
                          have HB7 : Hid (Below w.heap.size w w7) := bel_up HB6.out hb6 (by omega)
                          clear hb6
                          obtain ⟨r0, r1, r2, r3, r4⟩ := HRr.out.c
                          have f0 := HRr.out.f 0
                          have f1 := HRr.out.f 1
                          have f2 := HRr.out.f 2
                          have f3 := HRr.out.f 3
                          have f4 := HRr.out.f 4
                          go_wp2
                          refine bodyPost_ret (v := .agg #[.int .i64 ((P2 : Int) + 1), .int .i64 100, .bool false, .string bz, .slice none 0 0]) (by simp [results, Tryz.results26, go_sem, r0, r1, r2, r3, r4]) rfl ?_
                          first | refine ⟨P2 + 1, _, _, bz, [], _, wkV_mk (by omega), HS7.out, ownF_nil _ _ _, ?_⟩ | refine ⟨P2 + 1, _, .inl ⟨bz, [], _, wkV_mk (by omega), HS7.out, ownF_nil _ _ _, ?_⟩⟩
                          have h := HB7.out
                          repeat (refine Below.setCell ?_ (by simp) _)
                          exact h
                    · obtain rfl : k = 2 := by omega
                      have HS7 : Hid (eat (new m rm f) s.data.toList = (A2 + 2 + (eat (stS m rm f bz.data.toList) (s.data.toList.drop (A2 + 2))).1, (eat (stS m rm f bz.data.toList) (s.data.toList.drop (A2 + 2))).2)) := by
                        have h := hsk.out
                        rw [stK_two] at h
                        exact h
                      go_wp2
                      go_roundw
                      case rel => exact ⟨A2 + 2, bz, by omega, by go_num, by have := HA2.out; have := HA.out; omega, by have := HA2.out; omega, HS7, HW6, HR6, HB6⟩
                      case measure => have := HA2.out; have := HA.out; simp [intOf]; omega
          · have he' : (e != 0) = true := by simp [he]
            have HS : Hid (Sees (eat (new m rm f) s.data.toList) (Q + 1 + 1) e false b.data.toList []) := HE2.out he
            clear he HE2 HM2 HL2 HC2
            go_wp2_with fail
            refine (rfailed_any 0 0 false b none 0 0 _ e (by omega) (by omega) _).mono ?_
            rintro x w6 ⟨rfl, hb6⟩
            have HRr : Hid (WB w6 w.heap.size 0 0 false ⟨#[]⟩ (.slice none 0 0)) := HR4.out.bel hb6
            have HB6 : Hid (Below w.heap.size w w6) := bel_up HB4.out hb6 (by omega)
            clear hb6
            obtain ⟨r0, r1, r2, r3, r4⟩ := HRr.out.c
            have f0 := HRr.out.f 0
            have f1 := HRr.out.f 1
            have f2 := HRr.out.f 2
            have f3 := HRr.out.f 3
            have f4 := HRr.out.f 4
            go_wp2
            refine bodyPost_ret (v := .agg #[.int .i64 ((Q : Int) + 1 + 1), .int .i64 e, .bool false, .string b, .slice none 0 0]) (by simp [results, Tryz.results26, go_sem, r0, r1, r2, r3, r4]) rfl ?_
            first | refine ⟨Q + 1 + 1, _, _, b, [], _, wkV_mk (by omega), HS.out, ownF_nil _ _ _, ?_⟩ | refine ⟨Q + 1 + 1, _, .inl ⟨b, [], _, wkV_mk (by omega), HS.out, ownF_nil _ _ _, ?_⟩⟩
            have h := HB6.out
            repeat (refine Below.setCell ?_ (by simp) _)
            exact h
        · have q13 : (byt s Q != 13) = true := by
            simp only [bne_iff_ne, ne_eq]
            intro e
            exact h13 (UInt8.toNat_inj.1 (by unfold byt at e; show _ = 13; omega))
          have HS : Hid (Sees (eat (new m rm f) s.data.toList) (Q + 1 + 1) 100 false b.data.toList []) := HBad.out (fun k e => by
            rw [HL2.out] at e
            have e2 := (List.append_inj' e rfl).2
            injection e2 with e2 _
            exact h13 e2)
          clear h13 HBad HErr HMuch HLst HChk HLast HL2
          go_wp2_with fail
          refine (rfailed_any 0 0 false b none 0 0 _ 100 (by omega) (by omega) _).mono ?_
          rintro x w6 ⟨rfl, hb6⟩
          have HRr : Hid (WB w6 w.heap.size 0 0 false ⟨#[]⟩ (.slice none 0 0)) := hwr.out.bel hb6
          have HB6 : Hid (Below w.heap.size w w6) := bel_up hbl.out hb6 (by omega)
          clear hb6
          obtain ⟨r0, r1, r2, r3, r4⟩ := HRr.out.c
          have f0 := HRr.out.f 0
          have f1 := HRr.out.f 1
          have f2 := HRr.out.f 2
          have f3 := HRr.out.f 3
          have f4 := HRr.out.f 4
          go_wp2
          refine bodyPost_ret (v := .agg #[.int .i64 ((Q : Int) + 1 + 1), .int .i64 100, .bool false, .string b, .slice none 0 0]) (by simp [results, Tryz.results26, go_sem, r0, r1, r2, r3, r4]) rfl ?_
          first | refine ⟨Q + 1 + 1, _, _, b, [], _, wkV_mk (by omega), HS.out, ownF_nil _ _ _, ?_⟩ | refine ⟨Q + 1 + 1, _, .inl ⟨b, [], _, wkV_mk (by omega), HS.out, ownF_nil _ _ _, ?_⟩⟩
          have h := HB6.out
          repeat (refine Below.setCell ?_ (by simp) _)
          exact h
    · by_cases hfar : 255 < s.size - a
      · have HS : Hid (Sees (eat (new m rm f) s.data.toList) (a + 256) 100 false b.data.toList []) := HFar.out hN.no hfar
        go_wp2_with fail
        refine (ropen_far 0 0 false b none 0 0 s (by omega) a ha 255 100 (by omega) (by omega) _).mono ?_
        rintro x w6 ⟨rfl, hb6⟩
        have HRr : Hid (WB w6 w.heap.size 0 0 false ⟨#[]⟩ (.slice none 0 0)) := hwr.out.bel hb6
        have HB6 : Hid (Below w.heap.size w w6) := bel_up hbl.out hb6 (by omega)
        clear hb6
        obtain ⟨r0, r1, r2, r3, r4⟩ := HRr.out.c
        have f0 := HRr.out.f 0
        have f1 := HRr.out.f 1
        have f2 := HRr.out.f 2
        have f3 := HRr.out.f 3
        have f4 := HRr.out.f 4
        go_wp2
        refine bodyPost_ret (v := .agg #[.int .i64 ((a : Int) + 255 + 1), .int .i64 100, .bool false, .string b, .slice none 0 0]) (by simp [results, Tryz.results26, go_sem, r0, r1, r2, r3, r4]) rfl ?_
        first | refine ⟨a + 256, _, _, b, [], _, wkV_mk (by omega), HS.out, ownF_nil _ _ _, ?_⟩ | refine ⟨a + 256, _, .inl ⟨b, [], _, wkV_mk (by omega), HS.out, ownF_nil _ _ _, ?_⟩⟩
        have h := HB6.out
        repeat (refine Below.setCell ?_ (by simp) _)
        exact h
      · have HS : Hid (Sees (eat (new m rm f) s.data.toList) (a + (s.size - a)) 0 false b.data.toList []) := HNear.out hN.no (by omega)
        go_wp2_with fail
        refine (ropen_near 0 0 false b none 0 0 s (by omega) a ha 255 100 (by omega) _).mono ?_
        rintro x w6 ⟨rfl, hb6⟩
        have HRr : Hid (WB w6 w.heap.size 0 0 false ⟨#[]⟩ (.slice none 0 0)) := hwr.out.bel hb6
        have HB6 : Hid (Below w.heap.size w w6) := bel_up hbl.out hb6 (by omega)
        clear hb6
        obtain ⟨r0, r1, r2, r3, r4⟩ := HRr.out.c
        have f0 := HRr.out.f 0
        have f1 := HRr.out.f 1
        have f2 := HRr.out.f 2
        have f3 := HRr.out.f 3
        have f4 := HRr.out.f 4
        go_wp2
        refine bodyPost_ret (v := .agg #[.int .i64 ((s.size : Int)), .int .i64 0, .bool false, .string b, .slice none 0 0]) (by simp [results, Tryz.results26, go_sem, r0, r1, r2, r3, r4]) rfl ?_
        first | refine ⟨a + (s.size - a), _, _, b, [], _, wkV_mk (by omega), HS.out, ownF_nil _ _ _, ?_⟩ | refine ⟨a + (s.size - a), _, .inl ⟨b, [], _, wkV_mk (by omega), HS.out, ownF_nil _ _ _, ?_⟩⟩
        have h := HB6.out
        repeat (refine Below.setCell ?_ (by simp) _)
        exact h

end Ck
end Go.Proofs.YtdbnlpnnfnodnaaGreatDoor

/-
  chunk: how a text is cut has no part, plain; the law's kind; slices of numbers.
-/
set_option linter.unusedVariables false
set_option linter.unusedSimpArgs false
set_option maxRecDepth 100000
namespace Go.Proofs.YtdbnlpnnfnodnaaGreatDoor
open Go.RowKit Go.Shelf
namespace Ck
open Oc Tg _root_.Go.Proofs.YtdbnlpnnfnodnaaGreatDoor.Fd

def tot (s : DS) (x : Int) : DS := { s with total := x }
theorem tot_self (s : DS) : tot s s.total = s := rfl
theorem tot_tot (s : DS) (x y : Int) : tot (tot s x) y = tot s y := rfl
theorem fin_tot (s : DS) (x e : Int) : fin (tot s x) e = tot (fin s e) x := rfl
theorem tot_ite (c : Prop) [Decidable c] (a b : DS) (x : Int) : tot (if c then a else b) x = if c then tot a x else tot b x := by split <;> rfl
theorem endSize_tot (s : DS) (x : Int) : endSize (tot s x) = tot (endSize s) x := by
  unfold endSize
  rw [tot_ite, tot_ite, tot_ite, tot_ite]
  rfl
theorem inSize_tot (s : DS) (x : Int) (c : UInt8) : inSize (tot s x) c = tot (inSize s c) x := by
  unfold inSize
  rw [tot_ite, tot_ite, ← endSize_tot]
  rfl
theorem behindChunk_tot (s : DS) (x : Int) (c : UInt8) : behindChunk (tot s x) c = tot (behindChunk s c) x := by
  unfold behindChunk
  rw [tot_ite]
  rfl
theorem behindReturn_tot (s : DS) (x : Int) (c : UInt8) : behindReturn (tot s x) c = tot (behindReturn s c) x := by
  unfold behindReturn
  rw [tot_ite]
  rfl
theorem keep_tot (s : DS) (x : Int) (l : List UInt8) : keep (tot s x) l = tot (keep s l) x := by
  unfold keep
  rw [tot_ite]
  rfl
theorem endTrailer_tot (s : DS) (x : Int) : endTrailer (tot s x) = tot (endTrailer s) x := by
  unfold endTrailer
  rw [tot_ite, tot_ite, tot_ite, ← keep_tot]
  rfl
theorem inTrailers_tot (s : DS) (x : Int) (c : UInt8) : inTrailers (tot s x) c = tot (inTrailers s c) x := by
  unfold inTrailers
  rw [tot_ite, tot_ite, ← endTrailer_tot]
  rfl
theorem bstep_tot (s : DS) (x : Int) (c : UInt8) : bstep (tot s x) c = tot (bstep s c) x := by
  unfold bstep
  have hm : (tot s x).mode = s.mode := rfl
  rw [hm]
  generalize s.mode = m
  match m with
  | 0 => exact inSize_tot s x c
  | 1 => rfl
  | 2 => exact behindChunk_tot s x c
  | 3 => exact behindReturn_tot s x c
  | 4 => exact inTrailers_tot s x c
  | _ + 5 => rfl
theorem eat_tot : ∀ (l : List UInt8) (s : DS) (x : Int), eat (tot s x) l = ((eat s l).1, tot (eat s l).2 x)
  | [], s, x => by rw [eat_nil, eat_nil]
  | c :: l, s, x => by
    by_cases h : s.mode = 5
    · rw [eat_over h, eat_over (s := tot s x) h]
    · rw [eat_cons h, eat_cons (s := tot s x) h, bstep_tot, eat_tot l]

/-- What is left of a text for one that took the first of it, in pieces. -/
structure Part (s0 : DS) (L : List UInt8) (p : Nat) (s : DS) : Prop where
  le : p ≤ L.length
  ok : Ok s p
  total : s.total = p
  eq : eat s0 L = (p + (eat s (L.drop p)).1, tot (eat s (L.drop p)).2 s0.total)
theorem Part.start {s0 : DS} (h : Ok s0 0) (L : List UInt8) (ht : s0.total = 0) : Part s0 L 0 s0 := by
  refine ⟨Nat.zero_le _, h, ht, ?_⟩
  have e := eat_tot (L.drop 0) s0 s0.total
  rw [tot_self] at e
  have e2 := congrArg Prod.snd e
  simp only at e2
  rw [← e2, List.drop_zero, Nat.zero_add]
theorem Part.feed {s0 s : DS} {L : List UInt8} {p : Nat} (h : Part s0 L p s) (hm : s.mode ≠ 5) (k : Nat) (hk : k ≤ (L.drop p).length) :
    Part s0 L (p + (eat s ((L.drop p).take k)).1) (feedS s ((L.drop p).take k)) := by
  have hle := eat_le ((L.drop p).take k) s
  rw [List.length_take] at hle
  have hl := h.le
  rw [List.length_drop] at hk hle
  have ho := eat_ok ((L.drop p).take k) s p h.ok
  have hf : feedS s ((L.drop p).take k) = tot (eat s ((L.drop p).take k)).2 ((eat s ((L.drop p).take k)).2.total + (eat s ((L.drop p).take k)).1) := by unfold feedS; rw [if_neg hm]; rfl
  have htt : (eat s ((L.drop p).take k)).2.total = p := by
    have e := congrArg Prod.snd (eat_tot ((L.drop p).take k) s s.total)
    rw [tot_self] at e
    rw [e]
    exact h.total
  rw [hf, htt]
  refine ⟨by omega, ?_, ?_, ?_⟩
  · exact ⟨ho.mode, ho.most, ho.room, ho.fields, ho.left, ho.pos, ⟨by show (0 : Int) ≤ p + _; omega, by show (p : Int) + _ ≤ ((p + _ : Nat) : Int); omega⟩, ho.len, ho.size, ho.bare, ho.over⟩
  · show (p : Int) + _ = ((p + _ : Nat) : Int); omega
  · rw [h.eq, eat_tot]
    have e1 : eat s (L.drop p) = ((eat s ((L.drop p).take k)).1 + (eat (eat s ((L.drop p).take k)).2 ((L.drop p).drop k)).1, (eat (eat s ((L.drop p).take k)).2 ((L.drop p).drop k)).2) := by
      conv => lhs; rw [← List.take_append_drop k (L.drop p)]
      exact eat_app _ _ _
    rw [e1]
    by_cases h5 : (eat s ((L.drop p).take k)).2.mode = 5
    · rw [eat_over h5, eat_over h5]
      simp only [tot_tot]
      simp
    · have ha := eat_all _ _ h5
      rw [List.length_take, List.length_drop, Nat.min_eq_left hk] at ha
      rw [ha, List.drop_drop]
      simp only [tot_tot]
      rw [Nat.add_assoc]
/-- One that is over, or has taken the rest, is as it would be at once. -/
theorem Part.over {s0 s : DS} {L : List UInt8} {p : Nat} (h : Part s0 L p s) (h0 : s0.mode ≠ 5) (ht : s0.total = 0) (he : eat s (L.drop p) = (0, s)) : feedS s0 L = s ∧ feedN s0 L = p ∧ feedE s0 L = s.err := by
  have e := h.eq
  rw [he] at e
  simp only [Nat.add_zero] at e
  unfold feedS feedN feedE
  rw [if_neg h0, if_neg h0, if_neg h0, e]
  refine ⟨?_, rfl, rfl⟩
  show tot (tot s s0.total) (s0.total + (p : Int)) = s
  rw [ht, tot_tot, Int.zero_add, ← h.total, tot_self]

/-- The value is a slice of these numbers. -/
def RdI (w : World) (v : Value) (l : List Int) : Prop :=
  ∃ a cap, v = .slice a l.length cap ∧ l.length ≤ cap ∧ (∀ x ∈ l, -9223372036854775808 ≤ x ∧ x ≤ 9223372036854775807) ∧ (l = [] ∨ ∃ g o, a = some ⟨g, o, none⟩ ∧ ∀ j x, l[j]? = some x → w.cell? ⟨g, o + j, none⟩ = some (.int .i64 x))
theorem RdI.below {w w' : World} {v : Value} {l : List Int} (h : RdI w v l) (b : Below w.heap.size w w') : RdI w' v l := by
  obtain ⟨a, c, e, h1, h2, h3⟩ := h
  refine ⟨a, c, e, h1, h2, ?_⟩
  rcases h3 with h | ⟨g, o, e, h⟩
  · exact .inl h
  · exact .inr ⟨g, o, e, fun j x hj => (But.of_below b).cell (h j x hj) (fun e => by cases e)⟩

set_option maxHeartbeats 1000000 in
theorem kind_any (w : World) (k n : Int) (hk0 : -9223372036854775808 ≤ k) (hk1 : k ≤ 9223372036854775807) (hn0 : 1 ≤ n) (hn1 : n ≤ 4611686018427387903) : Calls Tryz.prog 28 #[.int .i64 k, .int .i64 n] w fun e w' => ∃ j : Nat, e = .returned (.int .i64 j) ∧ (j : Int) < n ∧ Below w.heap.size w w' := by
  have h1 : -n < k.tmod n := by
    have := Int.lt_tmod_of_pos k (show 0 < n by omega)
    omega
  have h2 : k.tmod n < n := Int.tmod_lt_of_pos k (by omega)
  have h3 : 0 ≤ (k.tmod n + n) % n := Int.emod_nonneg _ (by omega)
  have h4 : (k.tmod n + n) % n < n := Int.emod_lt_of_pos _ (by omega)
  have hz : (n == 0) = false := by simp; omega
  go_enter Tryz.func28, Tryz.ntmps28
  go_wp2
  go_ret
  refine ⟨((k.tmod n + n) % n).toNat, ?_, ?_, Below.refl _ _⟩
  · rw [Int.toNat_of_nonneg h3]; rfl
  · rw [Int.toNat_of_nonneg h3]; exact h4

end Ck
end Go.Proofs.YtdbnlpnnfnodnaaGreatDoor

/-
  The law's plain and same.
-/
set_option linter.unusedVariables false
set_option linter.unusedSimpArgs false
set_option maxRecDepth 100000
namespace Go.Proofs.YtdbnlpnnfnodnaaGreatDoor
open Go.RowKit Go.Shelf
namespace Ck
open Oc Tg _root_.Go.Proofs.YtdbnlpnnfnodnaaGreatDoor.Fd

theorem again_drew (w : World) (n q : Nat) : Hid (∃ k, w.drewN (n + q) = w.drewN k) := (⟨_, rfl⟩ : ∃ k, w.drewN (n + q) = w.drewN k)
set_option maxRecDepth 100000 in
set_option maxHeartbeats 1000000 in
theorem same_any (v1 v2 : Value) (t : List Fl) (w : World) (h1 : RdF v1 t w) (h2 : RdF v2 t w) (hl : t.length ≤ 4294967296) :
    Calls Tryz.prog 14 #[v1, v2] w fun e w' => e = .returned (.bool true) ∧ Below w.heap.size w w' := by
  obtain ⟨a1, c1, rfl, h1⟩ := h1
  obtain ⟨a2, c2, rfl, h2⟩ := h2
  have hne : ((t.length : Int) != (t.length : Int)) = false := by simp
  go_enter Tryz.func14, Tryz.ntmps14
  go_wp2
  go_loopw [13] (fun i wr => ∃ k : Nat, k ≤ t.length ∧ i = .int .i64 k ∧ Hid (∃ n, wr = w.drewN n)) (fun i _ => t.length - (intOf i).toNat)
  case atStart => exact ⟨0, Nat.zero_le _, rfl, (⟨0, rfl⟩ : ∃ n, w = w.drewN n)⟩
  case round =>
    obtain ⟨k, hk, rfl, hw⟩ := hrel
    obtain ⟨n, rfl⟩ := hw.out
    clear hw
    by_cases hlt : k < t.length
    · rcases h1 with h | ⟨g1, o1, rfl, hc1, hcell1⟩
      · rw [h] at hlt; simp at hlt
      rcases h2 with h | ⟨g2, o2, rfl, hc2, hcell2⟩
      · rw [h] at hlt; simp at hlt
      obtain ⟨p0, p1⟩ := hcell1 k hlt
      obtain ⟨q0, q1⟩ := hcell2 k hlt
      clear hcell1 hcell2
      generalize str (nth t k).1 = x at p0 q0
      generalize str (nth t k).2 = y at p1 q1
      go_wp2_with fail
      go_quiet (fail)
      go_wp2
      go_roundw
      case rel => exact ⟨k + 1, by omega, by go_num, again_drew w _ _⟩
      case measure => simp [intOf]; omega
    · go_wp2
      go_ret
      exact ⟨rfl, below_drew w n⟩

end Ck
end Go.Proofs.YtdbnlpnnfnodnaaGreatDoor

/-
  Limits that came in.
-/
set_option linter.unusedVariables false
set_option linter.unusedSimpArgs false
namespace Go.Proofs.YtdbnlpnnfnodnaaGreatDoor
open Go.ChangeShapes Go.WideShapes Go.RowKit
namespace Ck

theorem laidOutT : laidOutB Tryz.prog = true := by kernel_rfl
theorem cellsI : Tryz.prog.cellsOf 3 = 1 := by kernel_rfl
theorem cellsLm : Tryz.prog.cellsOf 37 = 3 := by kernel_rfl
theorem array3 {α : Type} {cs : Array α} (h : cs.size = 3) : ∃ c0 c1 c2, cs = #[c0, c1, c2] := by
  obtain ⟨l⟩ := cs
  match l, h with
  | [c0, c1, c2], _ => exact ⟨c0, c1, c2, rfl⟩
theorem list3 {α : Type} {cs : List α} (h : cs.length = 3) : ∃ c0 c1 c2, cs = [c0, c1, c2] := by
  match cs, h with
  | [c0, c1, c2], _ => exact ⟨c0, c1, c2, rfl⟩

set_option maxRecDepth 100000 in
theorem open_lim {H : Type} {enc : TypeId × Value → H} {W : World} {base : Nat} {v : Value} {d : DataW H} {ps : List MemPlace} (hval : Value.okWide Tryz.prog W .any base 37 v)
    (h : DataW.Trod enc Tryz.prog W 0 (fun _ => true) true 37 v d ps) :
    ∃ (a b c : Int), v = .agg #[.int .i64 a, .int .i64 b, .int .i64 c] ∧ d = .agg [.lit (.int .i64 a), .lit (.int .i64 b), .lit (.int .i64 c)] ∧ ps = [] ∧ (Lit.int .i64 a).wf = true ∧ (Lit.int .i64 b).wf = true ∧ (Lit.int .i64 c).wf = true := by
  obtain ⟨cs, rfl, hsz⟩ := okWide_struct Tryz.underlying37 hval
  obtain ⟨c0, c1, c2, rfl⟩ := array3 (hsz.trans cellsLm)
  obtain ⟨fuel, hf⟩ := h
  obtain ⟨xs, n, _, hx, hl, hlen, hff⟩ := DataW.trod_struct Tryz.underlying37 hf
  obtain ⟨z0, z1, z2, rfl⟩ := list3 (hlen.trans rfl)
  have f0 := hff 0 _ rfl
  have f1 := hff 1 _ rfl
  have f2 := hff 2 _ rfl
  simp [Value.cells, cellsI] at f0 f1 f2
  obtain ⟨a, e0, r0, w0⟩ := DataW.trod_int Tryz.underlying3 f0
  obtain ⟨b, e1, r1, w1⟩ := DataW.trod_int Tryz.underlying3 f1
  obtain ⟨c, e2, r2, w2⟩ := DataW.trod_int Tryz.underlying3 f2
  subst r0 r1 r2
  simp at e0 e1 e2 hx
  subst e0 e1 e2
  exact ⟨a, b, c, rfl, hx.1, hx.2, w0, w1, w2⟩
theorem shut_lim {H : Type} {enc : TypeId × Value → H} {W : World} {base : Nat} {spare : Nat → Bool} {held : Bool} {a b c : Int} (w0 : (Lit.int .i64 a).wf = true) (w1 : (Lit.int .i64 b).wf = true) (w2 : (Lit.int .i64 c).wf = true) :
    DataW.Trod enc Tryz.prog W base spare held 37 (.agg #[.int .i64 a, .int .i64 b, .int .i64 c]) (.agg [.lit (.int .i64 a), .lit (.int .i64 b), .lit (.int .i64 c)]) [] := by
  refine ⟨2, ?_⟩
  simp [DataW.trod, Value.cells, Tryz.underlying37, Tryz.underlying3, cellsI, cellsLm, w0, w1, w2]

theorem bulk_pos {H : Type} (d : DataW H) : 1 ≤ Rows.uptoBulk d := by
  unfold Rows.uptoBulk
  split <;> omega
theorem bulk_len {H : Type} : ∀ es : List (DataW H), es.length ≤ Rows.uptoBulkAll es
  | [] => by simp
  | d :: es => by
    have ih := bulk_len es
    have h := bulk_pos d
    simp only [List.length_cons, Rows.uptoBulkAll]
    omega
end Ck
end Go.Proofs.YtdbnlpnnfnodnaaGreatDoor

/-
  Of the document: Limits, Decode; the law ChunkDecodes.
-/
set_option linter.unusedVariables false
set_option linter.unusedSimpArgs false
set_option maxRecDepth 100000
namespace Go.Proofs.YtdbnlpnnfnodnaaGreatDoor
open Go.RowKit Go.Shelf
namespace Ck
open Oc Tg _root_.Go.Proofs.YtdbnlpnnfnodnaaGreatDoor.Fd

/-- One that is done has no error. -/
def Fine (s : DS) : Prop := s.done = true → s.err = 0
theorem fine_fin (s : DS) (e : Int) : Fine (fin s e) := fun h => by simpa [fin] using h
theorem fine_step {s : DS} (h : Fine s) (c : UInt8) : Fine (bstep s c) := by
  unfold bstep
  split
  · unfold inSize endSize
    repeat' split
    all_goals first | exact fine_fin _ _ | exact h
  · exact h
  · unfold behindChunk
    split
    · exact h
    · exact fine_fin _ _
  · unfold behindReturn
    split
    · exact h
    · exact fine_fin _ _
  · unfold inTrailers endTrailer keep
    repeat' split
    all_goals first | exact fine_fin _ _ | exact h
  · exact h
theorem fine_eat : ∀ (l : List UInt8) (s : DS), Fine s → Fine (eat s l).2
  | [], s, h => by rw [eat_nil]; exact h
  | c :: l, s, h => by
    by_cases hm : s.mode = 5
    · rw [eat_over hm]; exact h
    · rw [eat_cons hm]; exact fine_eat l (bstep s c) (fine_step h c)
theorem fine_new (m r f : Int) : Fine (new m r f) := fun h => by cases h

set_option maxHeartbeats 1000000 in
theorem rLimits_ok (m r f : Int) (h1 : 0 ≤ m) (h2 : 0 ≤ r) (h3 : 0 ≤ f) (w : World) :
    Calls Tryz.prog 25 #[.int .i64 m, .int .i64 r, .int .i64 f] w fun e w' => e = .returned (.int .i64 0) ∧ w' = w := by
  have g1 : ¬ m < 0 := by omega
  have g2 : ¬ r < 0 := by omega
  have g3 : ¬ f < 0 := by omega
  go_enter Tryz.func25, Tryz.ntmps25
  go_wp2
  go_ret
  exact ⟨rfl, rfl⟩
set_option maxHeartbeats 1000000 in
theorem rLimits_no (m r f : Int) (h : m < 0 ∨ r < 0 ∨ f < 0) (w : World) :
    Calls Tryz.prog 25 #[.int .i64 m, .int .i64 r, .int .i64 f] w fun e w' => e = .returned (.int .i64 1) ∧ w' = w := by
  by_cases g1 : m < 0
  · clear h
    go_enter Tryz.func25, Tryz.ntmps25
    go_wp2
    go_ret
    exact ⟨rfl, rfl⟩
  by_cases g2 : r < 0
  · clear h
    go_enter Tryz.func25, Tryz.ntmps25
    go_wp2
    go_ret
    exact ⟨rfl, rfl⟩
  · have g3 : f < 0 := by omega
    clear h
    go_enter Tryz.func25, Tryz.ntmps25
    go_wp2
    go_ret
    exact ⟨rfl, rfl⟩

set_option maxHeartbeats 2000000 in
theorem rDecode_any (s : ByteArray) (hs : s.size ≤ 2000000) (m r f : Int) (h1 : m ≤ 9223372036854775807) (h2 : r ≤ 9223372036854775807) (h3 : f ≤ 9223372036854775807) (w : World) :
    Calls Tryz.prog 13 #[.string s, .int .i64 m, .int .i64 r, .int .i64 f] w fun e w' => ∃ v, e = .returned (.tuple #[.string (str (decR m r f s.data.toList).1), v, .int .i64 (decR m r f s.data.toList).2.2.1, .int .i64 (decR m r f s.data.toList).2.2.2]) ∧ OwnF 78 w.heap.size v (decR m r f s.data.toList).2.1 w' ∧ Below w.heap.size w w' := by
  by_cases hneg : m < 0 ∨ r < 0 ∨ f < 0
  · have HL : Hid (Calls Tryz.prog 25 #[.int .i64 m, .int .i64 r, .int .i64 f] w fun e w' => e = .returned (.int .i64 1) ∧ w' = w) := rLimits_no m r f hneg w
    have e : decR m r f s.data.toList = ([], [], 0, 1) := by unfold decR; rw [if_pos hneg]
    rw [e]
    clear hneg e
    go_enter Tryz.func13, Tryz.ntmps13
    go_wp2_with fail
    refine HL.out.mono ?_
    rintro e w1 ⟨rfl, hw⟩
    rw [hw]
    go_wp2
    refine bodyPost_ret (v := .tuple #[.string ⟨#[]⟩, .slice none 0 0, .int .i64 0, .int .i64 1]) (by simp [results, Tryz.results13, go_sem]) rfl ?_
    exact ⟨.slice none 0 0, rfl, ownF_nil _ _ _, Below.refl _ _⟩
  · have HL : Hid (Calls Tryz.prog 25 #[.int .i64 m, .int .i64 r, .int .i64 f] w fun e w' => e = .returned (.int .i64 0) ∧ w' = w) := rLimits_ok m r f (by omega) (by omega) (by omega) w
    have HW : Hid (∀ w, Calls Tryz.prog 26 #[.string s, .int .i64 m, .int .i64 r, .int .i64 f] w fun x w' => ∃ (n : Nat) (e : Int) (d : Bool) (b : ByteArray) (t : List Fl) (v : Value), x = .returned (wkV (n : Int) e d b v) ∧ Sees (eat (new m r f) s.data.toList) n e d b.data.toList t ∧ OwnF 78 w.heap.size v t w' ∧ Below w.heap.size w w') := fun w => rWalk_any s hs m r f (by omega) h1 (by omega) h2 (by omega) h3 w
    have hok := eat_ok s.data.toList _ 0 (Ok.new m r f ⟨by omega, h1⟩ ⟨by omega, h2⟩ ⟨by omega, h3⟩)
    have hfi := fine_eat s.data.toList _ (fine_new m r f)
    have hall := eat_all s.data.toList (new m r f)
    have hle := eat_le s.data.toList (new m r f)
    have HD : Hid (decR m r f s.data.toList = if (eat (new m r f) s.data.toList).2.err ≠ 0 then ([], [], ((eat (new m r f) s.data.toList).1 : Int) - 1, (eat (new m r f) s.data.toList).2.err) else if (eat (new m r f) s.data.toList).2.done = false then ([], [], ((eat (new m r f) s.data.toList).1 : Int), 105) else ((eat (new m r f) s.data.toList).2.body, (eat (new m r f) s.data.toList).2.tr, ((eat (new m r f) s.data.toList).1 : Int), 0)) := (by unfold decR; rw [if_neg hneg] : decR m r f s.data.toList = _)
    generalize eat (new m r f) s.data.toList = E at *
    clear hneg
    go_enter Tryz.func13, Tryz.ntmps13
    go_wp2_with fail
    refine HL.out.mono ?_
    rintro e w1 ⟨rfl, hw⟩
    rw [hw]
    clear hw
    go_wp2_with fail
    refine (HW.out _).mono ?_
    rintro x w2 ⟨n, e, d, b, t, v, rfl, hsee, hown, hb2⟩
    obtain ⟨z1, z2, z3, z4, z5⟩ := hsee
    rw [z1, z2, z3, z4, z5] at HD
    have HN1 : Hid (e = 0 → d = false → (n : Int) = (s.size : Int)) := fun he hd => by
      have : E.2.mode ≠ 5 := fun h5 => by
        rcases hok.over.1 h5 with h | h
        · rw [z3, hd] at h; cases h
        · rw [z2] at h; exact h he
      have h := hall this
      rw [z1, size_list] at h
      omega
    have HN2 : Hid (d = true → e = 0) := fun hd => by
      have h := hfi (by rw [z3]; exact hd)
      rw [z2] at h
      exact h
    have hn : n ≤ s.size := by rw [← z1, ← size_list]; exact hle
    clear z1 z2 z3 z4 z5 hok hfi hall hle
    obtain ⟨va, vc, hv⟩ := OwnF.form hown
    subst hv
    have HO2 : Hid (OwnF 78 w.heap.size (.slice va t.length vc) t w2) := hown
    have HB2 : Hid (Below w.heap.size w w2) := hb2
    have hs2 := hb2.size
    clear hown hb2
    unfold wkV
    cases d with
    | true =>
      have he := HN2.out rfl
      subst he
      have HD2 : Hid (decR m r f s.data.toList = (b.data.toList, t, (n : Int), 0)) := (by rw [HD.out]; simp : decR m r f s.data.toList = _)
      have hA : Below w2.heap.size w2 (w2.alloc (.cells #[.int .i64 (n : Int), .int .i64 0, .bool true, .string b, .slice va t.length vc] 74)) := (Below.refl _ _).alloc (Nat.le_refl _) _
      have HO3 : Hid (OwnF 78 w.heap.size (.slice va t.length vc) t (w2.alloc (.cells #[.int .i64 (n : Int), .int .i64 0, .bool true, .string b, .slice va t.length vc] 74)).drew) := (HO2.out.below hA).below ((Below.refl _ _).drew)
      have HB3 : Hid (Below w.heap.size w (w2.alloc (.cells #[.int .i64 (n : Int), .int .i64 0, .bool true, .string b, .slice va t.length vc] 74)).drew) := (bel_trans HB2.out hA).drew
      clear hA
      go_wp2_with fail
      go_region
      go_wp2
      refine bodyPost_ret (v := .tuple #[.string b, .slice va t.length vc, .int .i64 (n : Int), .int .i64 0]) (by simp [results, Tryz.results13, go_sem]) rfl ?_
      rw [HD2.out]
      exact ⟨.slice va t.length vc, (by rw [str_self]), HO3.out, HB3.out⟩
    | false =>
      by_cases he : e = 0
      · have hn2 := HN1.out he rfl
        have HD2 : Hid (decR m r f s.data.toList = ([], [], (s.size : Int), 105)) := (by rw [HD.out, he, ← hn2]; simp : decR m r f s.data.toList = _)
        subst he
        clear hn2
        go_wp2
        refine bodyPost_ret (v := .tuple #[.string ⟨#[]⟩, .slice none 0 0, .int .i64 (s.size : Int), .int .i64 105]) (by simp [results, Tryz.results13, go_sem]) rfl ?_
        rw [HD2.out]
        exact ⟨.slice none 0 0, rfl, ownF_nil _ _ _, HB2.out.alloc hs2 _⟩
      · have he' : (e != 0) = true := by simp [he]
        have HD2 : Hid (decR m r f s.data.toList = ([], [], (n : Int) - 1, e)) := (by rw [HD.out, if_pos he] : decR m r f s.data.toList = _)
        have hwn : IntKind.i64.wrap ((n : Int) - 1) = (n : Int) - 1 := by rw [IntKind.wrap_i64]; omega
        have HB3 : Hid (Below w.heap.size w (w2.alloc (.cells #[.int .i64 (n : Int), .int .i64 e, .bool false, .string b, .slice va t.length vc] 74)).drew) := (HB2.out.alloc hs2 _).drew
        clear he
        go_wp2_with fail
        go_region
        go_wp2
        refine bodyPost_ret (v := .tuple #[.string ⟨#[]⟩, .slice none 0 0, .int .i64 ((n : Int) - 1), .int .i64 e]) (by simp [results, Tryz.results13, go_sem]) rfl ?_
        rw [HD2.out]
        exact ⟨.slice none 0 0, rfl, ownF_nil _ _ _, HB3.out⟩

theorem decR_len (m r f : Int) (l : List UInt8) (h1 : m ≤ 9223372036854775807) (h2 : r ≤ 9223372036854775807) (h3 : f ≤ 9223372036854775807) : (decR m r f l).2.1.length ≤ l.length := by
  unfold decR
  split
  · exact Nat.zero_le _
  · rename_i h
    have hok := eat_ok l _ 0 (Ok.new m r f ⟨by omega, h1⟩ ⟨by omega, h2⟩ ⟨by omega, h3⟩)
    have hle := eat_le l (new m r f)
    have := hok.len
    split
    · exact Nat.zero_le _
    · split
      · exact Nat.zero_le _
      · show (eat (new m r f) l).2.tr.length ≤ l.length
        omega

theorem i64_wf {x : Int} (h : (Lit.int .i64 x).wf = true) : -9223372036854775808 ≤ x ∧ x ≤ 9223372036854775807 := by
  simpa [Lit.wf, IntKind.min, IntKind.max, IntKind.signed, IntKind.bits] using h

set_option maxHeartbeats 2000000 in
theorem walk_ChunkDecodes (a : ByteArray) (ha : a.size ≤ 1048576) (m r f : Int) (hm : (Lit.int .i64 m).wf = true) (hr : (Lit.int .i64 r).wf = true) (hf : (Lit.int .i64 f).wf = true) (w : World) (env : Env w) :
    Calls Tryz.prog 4 #[.string a, .agg #[.int .i64 m, .int .i64 r, .int .i64 f]] w fun e w' => e = .returned (.bool true) ∧ Below w.heap.size w w' := by
  obtain ⟨m0, m1⟩ := i64_wf hm
  obtain ⟨r0, r1⟩ := i64_wf hr
  obtain ⟨f0, f1⟩ := i64_wf hf
  have HEn : Hid (Env w) := env
  have hBA : Below w.heap.size w (w.alloc (.cells #[.int .i64 m, .int .i64 r, .int .i64 f] 37)) := (Below.refl _ w).alloc (Nat.le_refl _) _
  have HBA : Hid (Below w.heap.size w (w.alloc (.cells #[.int .i64 m, .int .i64 r, .int .i64 f] 37))) := hBA
  have HRA : Hid ((w.alloc (.cells #[.int .i64 m, .int .i64 r, .int .i64 f] 37)).heap[w.heap.size]? = some (.cells #[.int .i64 m, .int .i64 r, .int .i64 f] 37 (0, 0))) := heap_alloc_new _ _
  have HAw : Hid (Calls Tryz.prog 7 #[] (w.alloc (.cells #[.int .i64 m, .int .i64 r, .int .i64 f] 37)) fun e w' => e = .returned (.bool true) ∧ Below (w.alloc (.cells #[.int .i64 m, .int .i64 r, .int .i64 f] 37)).heap.size (w.alloc (.cells #[.int .i64 m, .int .i64 r, .int .i64 f] 37)) w') := awake_any _ (env.below hBA)
  have HDe : Hid (∀ w, Env w → Calls Tryz.prog 12 #[.string a, .int .i64 m, .int .i64 r, .int .i64 f] w fun e w' => ∃ v, e = .returned (.tuple #[.string (str (decR m r f a.data.toList).1), v, .int .i64 (decR m r f a.data.toList).2.2.1, .int .i64 (decR m r f a.data.toList).2.2.2]) ∧ OwnF 77 w.heap.size v (decR m r f a.data.toList).2.1 w' ∧ Below w.heap.size w w') := fun w e => Decode_any a m r f m1 r1 f1 (by omega) w e
  have HRe : Hid (∀ w, Calls Tryz.prog 13 #[.string a, .int .i64 m, .int .i64 r, .int .i64 f] w fun e w' => ∃ v, e = .returned (.tuple #[.string (str (decR m r f a.data.toList).1), v, .int .i64 (decR m r f a.data.toList).2.2.1, .int .i64 (decR m r f a.data.toList).2.2.2]) ∧ OwnF 78 w.heap.size v (decR m r f a.data.toList).2.1 w' ∧ Below w.heap.size w w') := fun w => rDecode_any a (by omega) m r f m1 r1 f1 w
  have hdl := decR_len m r f a.data.toList m1 r1 f1
  rw [size_list] at hdl
  generalize decR m r f a.data.toList = q at *
  obtain ⟨qb, qt, qn, qe⟩ := q
  simp only at HDe HRe hdl
  generalize str qb = B at *
  clear hBA env
  go_enter Tryz.func4, Tryz.ntmps4
  go_wp2_with fail
  refine HAw.out.mono ?_
  rintro e w1 ⟨rfl, hb1⟩
  have HB1 : Hid (Below w.heap.size w w1) := bel_trans HBA.out hb1
  have HR1 : Hid (w1.heap[w.heap.size]? = some (.cells #[.int .i64 m, .int .i64 r, .int .i64 f] 37 (0, 0))) := (But.of_below hb1).heap HRA.out (fun e => by cases e)
  clear hb1 HAw HBA HRA
  have k0 : w1.cell? ⟨w.heap.size, 0, none⟩ = some (.int .i64 m) := by rw [cell_of_row w1 w.heap.size _ _ _ _ HR1.out]; rfl
  have k1 : w1.cell? ⟨w.heap.size, 1, none⟩ = some (.int .i64 r) := by rw [cell_of_row w1 w.heap.size _ _ _ _ HR1.out]; rfl
  have k2 : w1.cell? ⟨w.heap.size, 2, none⟩ = some (.int .i64 f) := by rw [cell_of_row w1 w.heap.size _ _ _ _ HR1.out]; rfl
  go_wp2_with fail
  refine (HDe.out _ (HEn.out.below HB1.out)).mono ?_
  rintro e w2 ⟨v1, rfl, ho2, hb2⟩
  have HB2 : Hid (Below w.heap.size w w2) := bel_trans HB1.out hb2
  have HO2 : Hid (OwnF 77 w1.heap.size v1 qt w2) := ho2
  have HR2 : Hid (w2.heap[w.heap.size]? = some (.cells #[.int .i64 m, .int .i64 r, .int .i64 f] 37 (0, 0))) := (But.of_below hb2).heap HR1.out (fun e => by cases e)
  have l0 : w2.cell? ⟨w.heap.size, 0, none⟩ = some (.int .i64 m) := by rw [cell_of_row w2 w.heap.size _ _ _ _ HR2.out]; rfl
  have l1 : w2.cell? ⟨w.heap.size, 1, none⟩ = some (.int .i64 r) := by rw [cell_of_row w2 w.heap.size _ _ _ _ HR2.out]; rfl
  have l2 : w2.cell? ⟨w.heap.size, 2, none⟩ = some (.int .i64 f) := by rw [cell_of_row w2 w.heap.size _ _ _ _ HR2.out]; rfl
  clear hb2 ho2
  go_wp2_with fail
  refine (HRe.out _).mono ?_
  rintro e w3 ⟨v2, rfl, ho3, hb3⟩
  have HB3 : Hid (Below w.heap.size w w3) := bel_trans HB2.out hb3
  have HO3 : Hid (OwnF 78 w2.heap.size v2 qt w3) := ho3
  have HO23 : Hid (OwnF 77 w1.heap.size v1 qt w3) := HO2.out.below hb3
  clear hb3 ho3
  have q1 : (qn == qn) = true := by simp
  have q2 : (qe == qe) = true := by simp
  have q3 : (B.toList == B.toList) = true := by simp
  go_wp2_with fail
  refine (same_any v1 v2 qt w3 HO23.out.rd HO3.out.rd (by omega)).mono ?_
  rintro x w4 ⟨rfl, hb4⟩
  have HB4 : Hid (Below w.heap.size w w4) := bel_trans HB3.out hb4
  clear hb4
  go_wp2
  go_ret
  exact ⟨rfl, HB4.out⟩

end Ck
end Go.Proofs.YtdbnlpnnfnodnaaGreatDoor

/-
  A witness for a row with a condition of its own, at a world whose listed tables are laid.
-/
set_option linter.unusedVariables false
namespace Go.Proofs.YtdbnlpnnfnodnaaGreatDoor
namespace Oc

theorem witness_zip {H : Type} {enc : TypeId × Value → H} {C : Checked} {os : Os} {f : FuncId} {fn : Func} {s : OpenSpec} {conds : List PathCond} {apart : Bool} {laid : List (String × DataW Unit)} (modest : Bool) (w0 : World) (args : Array Value) (hos : w0.os = os)
    (hsh : (w0.forCall (fun _ _ => 0) ⟨#[], args, []⟩).Shaped C.prog)
    (hok : Input.okWideB C.prog (w0.forCall (fun _ _ => 0) ⟨#[], args, []⟩) f ⟨#[], args, []⟩ = true)
    (hrow : s.preRow enc C.prog fn conds apart laid (w0.forCall (fun _ _ => 0) ⟨#[], args, []⟩).memory args) :
    ∃ (w : World) (tape : Tape) (i : Input), w.os = os ∧ (w.forCall tape i).Shaped C.prog ∧ i.vars = [] ∧ Input.okWide C.prog (w.forCall tape i) .any w.heap.size f i ∧
      s.preRow enc C.prog fn conds apart laid (w.forCall tape i).memory i.args ∧ ({ modest := modest } : Assume).holds C.prog (lone (Frame.enter C.prog f i.args .normal) [] (w.forCall tape i)) :=
  ⟨w0, fun _ _ => 0, ⟨#[], args, []⟩, hos, hsh, (Input.okWide_of_okWideB (base := 0) hok).1, (Input.okWide_of_okWideB hok).2, hrow, by
    simp only [Assume.holds]
    exact ⟨by simp, by simp, fun _ => Modest.zero, by simp, by simp⟩⟩

end Oc
end Go.Proofs.YtdbnlpnnfnodnaaGreatDoor
