/-
  Of the document: hex.
-/
import Derived.Test.YtdbnlpnnfnodnaaDoorCkM
import Derived.Deep.RegionWith
set_option linter.unusedVariables false
set_option linter.unusedSimpArgs false
set_option maxRecDepth 100000
namespace Go.Proofs.YtdbnlpnnfnodnaaDoor
open Go.RowKit Go.Shelf
namespace Ck
open Oc Tg _root_.Go.Proofs.YtdbnlpnnfnodnaaDoor.Fd

def digs : List UInt8 := [48, 49, 50, 51, 52, 53, 54, 55, 56, 57, 97, 98, 99, 100, 101, 102]
/-- What a hexadecimal digit says; -1: it is none. -/
def hexV (c : UInt8) : Int := if hexB c then valI (c.toNat : Int) else -1
theorem hexV_all : ∀ n : Fin 256, hexV (UInt8.ofNat n.val) = match digs.findIdx? (· == lowB (UInt8.ofNat n.val)) with | some k => (k : Int) | none => -1 := by decide +kernel
theorem hexV_eq (c : UInt8) : hexV c = match digs.findIdx? (· == lowB c) with | some k => (k : Int) | none => -1 := by
  have h := hexV_all ⟨c.toNat, c.toNat_lt⟩
  simpa using h
theorem hexV_hit (c : UInt8) (k : Nat) (hk : k < 16) (h1 : digs.getD k 0 = lowB c) (h2 : ∀ j, j < k → digs.getD j 0 ≠ lowB c) : hexV c = k := by
  rw [hexV_eq]
  have : digs.findIdx? (· == lowB c) = some k := by
    rw [List.findIdx?_eq_some_iff_getElem]
    refine ⟨hk, ?_, fun j hj => ?_⟩
    · have : digs[k]'hk = digs.getD k 0 := by rw [List.getD_eq_getElem?_getD, List.getElem?_eq_getElem hk]; rfl
      rw [this, h1]
      simp
    · have hj16 : j < digs.length := Nat.lt_trans hj hk
      have : digs[j]'hj16 = digs.getD j 0 := by rw [List.getD_eq_getElem?_getD, List.getElem?_eq_getElem hj16]; rfl
      rw [this]
      simpa using h2 j hj
  rw [this]
theorem hexV_miss (c : UInt8) (h : ∀ j, j < 16 → digs.getD j 0 ≠ lowB c) : hexV c = -1 := by
  rw [hexV_eq]
  have : digs.findIdx? (· == lowB c) = none := by
    rw [List.findIdx?_eq_none_iff]
    intro x hx
    obtain ⟨j, hj, rfl⟩ := List.mem_iff_getElem.1 hx
    have := h j hj
    rw [List.getD_eq_getElem?_getD, List.getElem?_eq_getElem hj] at this
    simpa using this
  rw [this]

theorem dig_slice : ∀ k, k < 16 → (⟨#[48, 49, 50, 51, 52, 53, 54, 55, 56, 57, 97, 98, 99, 100, 101, 102]⟩ : ByteArray).extract k (k + 1) = str [digs.getD k 0] := fun k hk => match k, hk with
  | 0, _ => rfl
  | 1, _ => rfl
  | 2, _ => rfl
  | 3, _ => rfl
  | 4, _ => rfl
  | 5, _ => rfl
  | 6, _ => rfl
  | 7, _ => rfl
  | 8, _ => rfl
  | 9, _ => rfl
  | 10, _ => rfl
  | 11, _ => rfl
  | 12, _ => rfl
  | 13, _ => rfl
  | 14, _ => rfl
  | 15, _ => rfl
  | n + 16, h => absurd h (by omega)

set_option maxHeartbeats 2000000 in
theorem rhex_any (c : UInt8) (w : World) :
    Calls Tryd.prog 16 #[.int .u8 (c.toNat : Int)] w fun e w' => e = .returned (.int .i64 (hexV c)) ∧ Below w.heap.size w w' := by
  obtain ⟨x, hx⟩ : ∃ x, x = (c.toNat : Int) := ⟨_, rfl⟩
  have HX : Hid (x = (c.toNat : Int)) := hx
  rw [← hx]
  clear hx
  have HL : Hid (∀ w, Calls Tryd.prog 24 #[.string (str [c])] w fun e w' => e = .returned (.string (str [lowB c])) ∧ Below w.heap.size w w') := fun w => by
    have h := Fd.rLower_any (str [c]) (by rw [str_size]; simp [maxLen]) w
    unfold lowS at h
    rw [str_list] at h
    exact h
  go_enter Tryd.func16, Tryd.ntmps16
  go_wp2
  go_loopw [4] (fun i wr => ∃ k : Nat, k ≤ 16 ∧ i = .int .i64 k ∧ Hid (∀ j, j < k → digs.getD j 0 ≠ lowB c) ∧ Hid (Below w.heap.size w wr)) (fun i _ => 16 - (intOf i).toNat)
  case atStart => exact ⟨0, by omega, rfl, (fun j hj => by omega : ∀ j, j < 0 → _), Below.refl _ _⟩
  case round =>
    obtain ⟨k, hk, rfl, hno, hbl⟩ := hrel
    by_cases hlt : k < 16
    · have hcv : ∀ W : World, (convert 54 9 (.slice (some ⟨W.heap.size, 0, none⟩) 1 1)).run Tryd.prog (W.alloc (.cells #[.int .u8 x] 5)) = .ok (.string (str [c])) (W.alloc (.cells #[.int .u8 x] 5)) := fun W => own_back (own_one W x c HX.out)
      have hcv2 : (convert 54 9 (.slice (some ⟨wr.heap.size, 0, none⟩) 1 1)).run Tryd.prog (wr.alloc (.cells #[.int .u8 x] 5)).drew = .ok (.string (str [c])) (wr.alloc (.cells #[.int .u8 x] 5)).drew := own_back (B := wr.heap.size) ((But.refl [] _).drew.owns (own_one wr x c HX.out) (fun _ _ e => by cases e))
      have hwk : IntKind.i64.wrap ((k : Int) + 1) = (k : Int) + 1 := by rw [IntKind.wrap_i64]; omega
      by_cases hit : digs.getD k 0 = lowB c
      · have q : ((str [lowB c]).toList == ((⟨#[48, 49, 50, 51, 52, 53, 54, 55, 56, 57, 97, 98, 99, 100, 101, 102]⟩ : ByteArray).extract k (k + 1)).toList) = true := by
          rw [dig_slice k hlt, hit]; simp
        have HH : Hid (hexV c = k) := hexV_hit c k hlt hit hno.out
        go_wp2_with fail
        go_region_with (go_at_call 24; refine (HL.out _).mono ?_; rintro e w2 ⟨rfl, hb2⟩; have HB2 : Hid (Below w.heap.size w w2) := bel_trans hbl.out (bel_trans ((Below.refl _ wr).alloc (Nat.le_refl _) _).drew hb2); clear hb2)
        all_goals
          go_simp
          go_wp2
          go_ret
          exact ⟨ret_int (by rw [HH.out]), HB2.out⟩
      · have q : ((str [lowB c]).toList == ((⟨#[48, 49, 50, 51, 52, 53, 54, 55, 56, 57, 97, 98, 99, 100, 101, 102]⟩ : ByteArray).extract k (k + 1)).toList) = false := by
          rw [dig_slice k hlt, eq_toList, decide_eq_false_iff_not]
          intro e
          have e2 := str_inj e
          injection e2 with e2 _
          exact hit e2.symm
        have HN : Hid (∀ j, j < k + 1 → digs.getD j 0 ≠ lowB c) := (fun j hj => by
          by_cases hjk : j = k
          · subst hjk; exact hit
          · exact hno.out j (by omega) : ∀ j, j < k + 1 → digs.getD j 0 ≠ lowB c)
        go_wp2_with fail
        go_region_with (go_at_call 24; refine (HL.out _).mono ?_; rintro e w2 ⟨rfl, hb2⟩; have HB2 : Hid (Below w.heap.size w w2) := bel_trans hbl.out (bel_trans ((Below.refl _ wr).alloc (Nat.le_refl _) _).drew hb2); clear hb2)
        all_goals
          go_simp
          go_wp2
          go_roundw
          case rel => exact ⟨k + 1, by omega, by go_num, HN, HB2.out⟩
          case measure => simp [intOf]; omega
    · have HH : Hid (hexV c = -1) := hexV_miss c (fun j hj => hno.out j (by omega))
      go_wp2
      go_ret
      exact ⟨ret_int (by rw [HH.out]), hbl.out⟩

end Ck
end Go.Proofs.YtdbnlpnnfnodnaaDoor
