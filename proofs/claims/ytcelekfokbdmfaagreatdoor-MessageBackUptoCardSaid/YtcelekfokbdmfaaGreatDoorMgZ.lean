import Derived.Test.YtcelekfokbdmfaaGreatDoorMgY
import Derived.Laws.BitsAllLaws
import Derived.Test.YtcelekfokbdmfaaGreatDoorMgH
import Derived.Test.YtcelekfokbdmfaaGreatDoorMgG
set_option linter.unusedVariables false
set_option linter.unusedSimpArgs false
set_option maxRecDepth 100000
namespace Go.Proofs.YtcelekfokbdmfaaGreatDoor
open Go.RowKit Go.Shelf
namespace Ck
open Oc Tg _root_.Go.Proofs.YtcelekfokbdmfaaGreatDoor.Fd
def K36 : ByteArray := ⟨#[48, 49, 50, 51, 52, 53, 54, 55, 56, 57, 97, 98, 99, 100, 101, 102, 103, 104, 105, 106, 107, 108, 109, 110, 111, 112, 113, 114, 115, 116, 117, 118, 119, 120, 121, 122]⟩
theorem dig36_all : ∀ d : Fin 16, K36.data.toList.getD d.val 0 = hexc d.val := by decide +kernel
theorem dig36_at (d : Nat) (h : d < 16) (h' : d < (⟨#[48, 49, 50, 51, 52, 53, 54, 55, 56, 57, 97, 98, 99, 100, 101, 102, 103, 104, 105, 106, 107, 108, 109, 110, 111, 112, 113, 114, 115, 116, 117, 118, 119, 120, 121, 122]⟩ : ByteArray).size) : (⟨#[48, 49, 50, 51, 52, 53, 54, 55, 56, 57, 97, 98, 99, 100, 101, 102, 103, 104, 105, 106, 107, 108, 109, 110, 111, 112, 113, 114, 115, 116, 117, 118, 119, 120, 121, 122]⟩ : ByteArray)[d] = hexc d := by
  rw [← at_lt _ d h']
  exact dig36_all ⟨d, h⟩
theorem u64_and15 (k : Nat) (h : k < 18446744073709551616) : bits .and .u64 (k : Int) 15 = ((k % 16 : Nat) : Int) := by
  have := u64_and_nat k 15 h (by decide)
  rw [show ((15 : Nat) : Int) = 15 from rfl] at this
  rw [this, show (15 : Nat) = 2 ^ 4 - 1 from rfl, Nat.and_two_pow_sub_one_eq_mod]
def Tail (f : Nat → Int) (ds : List UInt8) : Prop := ∀ j, j < ds.length → f (65 - ds.length + j) = ((ds.getD j 0).toNat : Int)
theorem Tail.nil (f : Nat → Int) : Tail f [] := fun j hj => by cases hj
theorem Tail.cons {f : Nat → Int} {ds : List UInt8} (h : Tail f ds) (hl : ds.length < 65) (c : UInt8) : Tail (fun j => if j = 64 - ds.length then (c.toNat : Int) else f j) (c :: ds) := by
  intro j hj
  simp only [List.length_cons] at hj ⊢
  cases j with
  | zero =>
    rw [if_pos (by omega)]
    rfl
  | succ j =>
    rw [if_neg (by omega)]
    have := h j (by omega)
    rw [show 65 - (ds.length + 1) + (j + 1) = 65 - ds.length + j from by omega, this]
    rfl
theorem tail_back (w : World) (b : Nat) (f : Nat → Int) (ds : List UInt8) (i n cap : Nat) (r : Row w b 65 f) (ht : Tail f ds) (hl : ds.length ≤ 65) (hi : i = 65 - ds.length) (hn : n = ds.length) :
    (convert 81 9 (.slice (some ⟨b, i, none⟩) n cap)).run Tryz.prog w = .ok (.string (str ds)) w := by
  subst hn
  refine run_convert_bytes_back w 81 9 5 ⟨b, i, none⟩ cap ds Tryz.underlying81 Tryz.underlying5 Tryz.underlying9 (fun j hj => ?_)
  have h1 := r.cell (i + j) (by omega)
  rw [hi, ht j hj, List.getD_eq_getElem?_getD, List.getElem?_eq_getElem hj, ← hi] at h1
  have ea : Addr.add ⟨b, i, none⟩ j = ⟨b, i + j, none⟩ := by unfold Addr.add; split <;> simp_all
  rw [ea]
  exact h1
theorem zero65 : Tryz.zeroCells199 = Array.replicate 65 (Value.int .u8 0) := by kernel_rfl
theorem row65 (w : World) : Row (w.alloc (.cells Tryz.zeroCells199 199)) w.heap.size 65 (fun _ => 0) := by
  have hb := heap_alloc_new w (.cells Tryz.zeroCells199 199)
  refine ⟨fun j hj => ?_, fun j hj => frozen_of_row _ _ _ _ _ hb⟩
  rw [cell_of_row _ _ _ _ _ _ hb, zero65]
  simp [hj]
set_option maxHeartbeats 2000000 in
theorem formatBits_any (n : Nat) (hn : n ≤ 1099511627776) (w : World) (h : w.cell? ⟨3, 15, none⟩ = some (.int .u8 4)) :
    Calls Tryz.prog 148 #[.slice none 0 0, .int .u64 (n : Int), .int .i64 16, .bool false, .bool false] w fun e w' => e = .returned (.tuple #[.slice none 0 0, .string (str (hexd n))]) ∧ Below w.heap.size w w' := by
  have hlen := hexd_len 10 n (Nat.lt_of_le_of_lt hn (by decide))
  have HLn : Hid ((hexd n).length ≤ 11) := hlen
  clear hlen
  have HR : Hid (Row (w.alloc (.cells Tryz.zeroCells199 199)) w.heap.size 65 (fun _ => 0)) := row65 w
  have HB : Hid (Below w.heap.size w (w.alloc (.cells Tryz.zeroCells199 199))) := (Below.refl _ w).alloc (Nat.le_refl _) _
  have HC : Hid ((w.alloc (.cells Tryz.zeroCells199 199)).cell? ⟨3, 15, none⟩ = some (.int .u8 4)) := ((HB.out.cell (World.block_lt_of_cell? w _ h)).trans h : _ = _)
  clear h
  go_enter Tryz.func148, Tryz.ntmps148
  go_wp2_with fail
  refine (isPow16 _).mono ?_
  rintro e w1 ⟨rfl, hw⟩
  rw [hw]
  clear hw
  go_wp2_with fail
  refine (tz _ HC.out).mono ?_
  rintro e w2 ⟨rfl, hw⟩
  rw [hw]
  clear hw
  go_wp2
  go_loopw [1, 13] (fun u i wr => ∃ (k : Nat) (ds : List UInt8) (f : Nat → Int) (q : Nat), k ≤ 1099511627776 ∧ u = .int .u64 k ∧ i = .int .i64 q ∧ q ≤ 65 ∧ 54 ≤ q ∧ Hid (q = 65 - ds.length) ∧ Hid (ds.length ≤ 11) ∧ Hid (hexd n = hexd k ++ ds) ∧ Hid (Row wr w.heap.size 65 f) ∧ Hid (Tail f ds) ∧ Hid (Below w.heap.size w wr)) (fun u _ _ => (intOf u).toNat)
  case atStart => exact ⟨n, [], fun _ => 0, 65, hn, rfl, rfl, by omega, by omega, (rfl : 65 = 65 - _), (by simp : ([] : List UInt8).length ≤ 11), (by simp : hexd n = hexd n ++ []), HR, Tail.nil _, HB⟩
  case round =>
    obtain ⟨k, ds, f, q, hk, rfl, rfl, hq, hq2, HQ, HD, HH, HRw, HTl, HBl⟩ := hrel
    have hand := u64_and15 k (by omega)
    obtain ⟨d, hd⟩ : ∃ d, d = k % 16 := ⟨_, rfl⟩
    obtain ⟨g, hg⟩ : ∃ g, g = k / 16 := ⟨_, rfl⟩
    rw [← hd] at hand
    have hd16 : d < 16 := by omega
    have hquo : (k : Int) / 16 = (g : Int) := by rw [hg]; omega
    have hdl : ds.length + 1 ≤ 11 := by
      have h := congrArg List.length HH.out
      rw [List.length_append] at h
      have := HLn.out
      have := List.length_pos_iff.2 (hexd_ne k)
      omega
    have HDl : Hid (ds.length + 1 ≤ 11) := hdl
    have hq3 : 55 ≤ q := by have := HQ.out; omega
    have hq4 : 0 < q := by omega
    clear hdl
    obtain ⟨p, hp⟩ : ∃ p, q = p + 1 := ⟨q - 1, by omega⟩
    subst hp
    have hp65 : p < 65 := by omega
    have hcell := HRw.out.cell p hp65
    have hfree := HRw.out.free p hp65
    have HP : Hid (p = 64 - ds.length) := (by have := HQ.out; omega : p = 64 - ds.length)
    by_cases hge : 16 ≤ k
    · have hix := dig36_at d hd16
      have HN : Hid (hexd n = hexd g ++ (hexc d :: ds)) := by
        have h := HH.out
        rw [hexd_high (n := k) (by omega), ← hg, ← hd] at h
        show hexd n = hexd g ++ (hexc d :: ds)
        rw [h]
        simp
      have hgk : g < k := by omega
      have hge' : (16 : Int) ≤ (k : Int) := by omega
      have HR2 : Hid (Row (wr.setCell ⟨w.heap.size, p, none⟩ (.int .u8 ((hexc d).toNat : Int))) w.heap.size 65 (fun j => if j = 64 - ds.length then ((hexc d).toNat : Int) else f j)) := HRw.out.set p hp65 _ _ (fun j hj => by rw [HP.out])
      have HT2 : Hid (Tail (fun j => if j = 64 - ds.length then ((hexc d).toNat : Int) else f j) (hexc d :: ds)) := HTl.out.cons (by have := HDl.out; omega) _
      have HB2 : Hid (Below w.heap.size w (wr.setCell ⟨w.heap.size, p, none⟩ (.int .u8 ((hexc d).toNat : Int)))) := HBl.out.setCell (Nat.le_refl _) _
      clear hd hg
      go_wp2
      go_roundw
      case rel => exact ⟨g, hexc d :: ds, _, p, by omega, rfl, by go_num, by omega, by omega, (by simp only [List.length_cons]; have := HP.out; omega : p = 65 - _), HDl, HN, HR2, HT2, HB2⟩
      case measure => simp [intOf]; omega
    · have hkd : d = k := by omega
      have hix := dig36_at d hd16
      have HN : Hid (hexd n = hexc d :: ds) := by
        have h := HH.out
        rw [hexd_low (n := k) (by omega), ← hkd] at h
        exact h
      have hge' : ¬ (16 : Int) ≤ (k : Int) := by omega
      have HR2 : Row (wr.setCell ⟨w.heap.size, p, none⟩ (.int .u8 ((hexc d).toNat : Int))) w.heap.size 65 (fun j => if j = 64 - ds.length then ((hexc d).toNat : Int) else f j) := HRw.out.set p hp65 _ _ (fun j hj => by rw [HP.out])
      have HT2 : Tail (fun j => if j = 64 - ds.length then ((hexc d).toNat : Int) else f j) (hexc d :: ds) := HTl.out.cons (by have := HDl.out; omega) _
      have HB2 : Hid (Below w.heap.size w (wr.setCell ⟨w.heap.size, p, none⟩ (.int .u8 ((hexc d).toNat : Int)))) := HBl.out.setCell (Nat.le_refl _) _
      have hcv : ∀ cap, (convert 81 9 (.slice (some ⟨w.heap.size, p, none⟩) (65 - p) cap)).run Tryz.prog (wr.setCell ⟨w.heap.size, p, none⟩ (.int .u8 ((hexc d).toNat : Int))) = .ok (.string (str (hexc d :: ds))) (wr.setCell ⟨w.heap.size, p, none⟩ (.int .u8 ((hexc d).toNat : Int))) := fun cap => tail_back _ _ _ _ p (65 - p) cap HR2 HT2 (by have := HDl.out; simp only [List.length_cons]; omega) (by simp only [List.length_cons]; have := HP.out; omega) (by simp only [List.length_cons]; have := HP.out; have := HDl.out; omega)
      clear hd hg HR2 HT2
      rw [← hkd]
      clear hand hquo
      rw [← hkd] at hge'
      clear hge hk HH hkd
      have hp65' : (p : Int) ≤ 65 := by omega
      have hal : Tryz.prog.arrayLen 199 = 65 := by kernel_rfl
      have hsl : ∀ W : World, (Instr.sliceAt 199 (.pointer (some ⟨w.heap.size, 0, none⟩)) (some (.int .i64 (p : Int))) none none).run Tryz.prog W = .ok (.slice (some ⟨w.heap.size, p, none⟩) (65 - p) (65 - p)) W := fun W => by
        have hu : Tryz.prog.underlying 199 = some (.array (Tryz.prog.arrayLen 199) (Tryz.prog.elem 199)) := by kernel_rfl
        have hsz : (sizeOf (Tryz.prog.elem 199)).run Tryz.prog W = .ok 1 W := by kernel_rfl
        rw [run_sliceAt_array_l (P := Tryz.prog) W _ _ hu .i64 (p : Int) (by omega) (by rw [hal]; omega), hsz]
        simp only [Result.andThen, slicedAt, hal, Int.toNat_natCast]
        rw [if_neg (by omega)]
        unfold Addr.add
        simp
        omega
      go_wp2
      go_ret2
      rw [HN.out]
      exact ⟨rfl, HB2.out⟩
set_option maxHeartbeats 2000000 in
theorem FormatIntI_any (n : Nat) (hn : n ≤ 1099511627776) (w : World) (h : w.cell? ⟨3, 15, none⟩ = some (.int .u8 4)) :
    Calls Tryz.prog 130 #[.int .i64 (n : Int), .int .i64 16] w fun e w' => e = .returned (.string (str (hexd n))) ∧ Below w.heap.size w w' := by
  have H := formatBits_any n hn w h
  have HF : Hid (Calls Tryz.prog 148 #[.slice none 0 0, .int .u64 (n : Int), .int .i64 16, .bool false, .bool false] w fun e w' => e = .returned (.tuple #[.slice none 0 0, .string (str (hexd n))]) ∧ Below w.heap.size w w') := H
  clear H h
  have hlt : ¬ ((n : Int) < 0) := by omega
  have hwr : IntKind.u64.wrap (n : Int) = (n : Int) := by rw [IntKind.wrap_u64]; omega
  go_enter Tryz.func130, Tryz.ntmps130
  go_wp2_with fail
  refine HF.out.mono ?_
  rintro e w1 ⟨rfl, hb⟩
  have HB : Hid (Below w.heap.size w w1) := hb
  clear hb
  go_wp2
  go_ret
  exact ⟨rfl, HB.out⟩
set_option maxHeartbeats 2000000 in
theorem FormatInt_any (n : Nat) (hn : n ≤ 1099511627776) (w : World) (h : w.cell? ⟨3, 15, none⟩ = some (.int .u8 4)) :
    Calls Tryz.prog 134 #[.int .i64 (n : Int), .int .i64 16] w fun e w' => e = .returned (.string (str (hexd n))) ∧ Below w.heap.size w w' := by
  have H := FormatIntI_any n hn w h
  have HF : Hid (Calls Tryz.prog 130 #[.int .i64 (n : Int), .int .i64 16] w fun e w' => e = .returned (.string (str (hexd n))) ∧ Below w.heap.size w w') := H
  clear H h
  go_enter Tryz.func134, Tryz.ntmps134
  go_wp2_with fail
  refine HF.out.mono ?_
  rintro e w1 ⟨rfl, hb⟩
  have HB : Hid (Below w.heap.size w w1) := hb
  clear hb
  go_wp2
  go_ret
  exact ⟨rfl, HB.out⟩
end Ck
end Go.Proofs.YtcelekfokbdmfaaGreatDoor
set_option linter.unusedVariables false
set_option linter.unusedSimpArgs false
namespace Go.Proofs.YtcelekfokbdmfaaGreatDoor
open Go.RowKit Go.Shelf
namespace Oc
end Oc
end Go.Proofs.YtcelekfokbdmfaaGreatDoor
set_option linter.unusedVariables false
set_option linter.unusedSimpArgs false
namespace Go.Proofs.YtcelekfokbdmfaaGreatDoor
open Go.RowKit Go.Shelf
namespace Oc
end Oc
end Go.Proofs.YtcelekfokbdmfaaGreatDoor
set_option linter.unusedVariables false
set_option linter.unusedSimpArgs false
namespace Go.Proofs.YtcelekfokbdmfaaGreatDoor
open Go.RowKit Go.Shelf
namespace Oc
end Oc
end Go.Proofs.YtcelekfokbdmfaaGreatDoor
