/-
  base.filling, (*base.Sum).Done, base.Sha1.
-/
import Derived.Test.YtcnjnlmjgbmjnabDoorSWrite
set_option linter.unusedVariables false
set_option linter.unusedSimpArgs false
namespace Go.Proofs.YtcnjnlmjgbmjnabDoor
open Go.RowKit
namespace Bs

def be8 (x : Nat) : List UInt8 := (List.range 8).map fun i => UInt8.ofNat (x / 2 ^ (56 - 8 * i) % 256)
def pad (n : Nat) : List UInt8 := (128 :: List.replicate ((119 - n % 64) % 64) 0) ++ be8 (8 * n)
theorem be8_take (x k : Nat) (h : k < 8) : (be8 x).take (k + 1) = (be8 x).take k ++ [UInt8.ofNat (x / 2 ^ (56 - 8 * k) % 256)] := by
  unfold be8
  rw [← List.map_take, ← List.map_take, List.take_range, List.take_range, Nat.min_eq_left (by omega), Nat.min_eq_left (by omega), List.range_succ, List.map_append]
  rfl
theorem be8_length (x : Nat) : (be8 x).length = 8 := by simp [be8]
theorem pad_length (n : Nat) : (pad n).length = 9 + (119 - n % 64) % 64 := by simp [pad, be8_length]; omega
theorem run_mk2 (W : World) (l c : Int) (h0 : 0 ≤ l) (hlc : l ≤ c) (hc : c ≤ 281474976710656) : (Instr.makeSlice 34 (.int .i64 l) (.int .i64 c)).run Tryd.prog W = .ok (.slice (some ⟨W.heap.size, 0, none⟩) l.toNat c.toNat) (W.alloc (.cells (madeCells #[.int .u8 0] c.toNat) 5)) := by
  obtain ⟨i0, hi, hz0, hz1, hz2⟩ := info_parts infoB
  have hr := run_make (P := Tryd.prog) W 34 5 i0 (.int .u8 0) Tryd.underlying34 hi hz0 .i64 .i64 l c h0 hlc (by rw [hz2]; omega) (by omega)
  simp only [hz1, Nat.mul_one] at hr
  exact hr
theorem own_zeros (w : World) (l c : Nat) (hl : l ≤ c) (hc : c ≤ 9223372036854775807) : Own w.heap.size (.slice (some ⟨w.heap.size, 0, none⟩) l c) (List.replicate l 0) (w.alloc (.cells (madeCells #[.int .u8 0] c) 5)) := by
  unfold Own
  rw [List.length_replicate]
  refine ⟨by rw [bv_length, List.length_replicate]; omega, .inr ⟨w.heap.size, c, madeCells #[.int .u8 0] c, rfl, Nat.le_refl _, heap_alloc_new _ _, hl, by unfold maxLen; omega, by rw [size_madeCells]; omega, ?_⟩⟩
  rw [toList_madeCells_one]
  unfold bv
  simp
  omega

set_option maxRecDepth 100000 in
set_option maxHeartbeats 1000000 in
theorem filling_any (n : Nat) (hn : n ≤ 1125899906842624) (w : World) : Calls Tryd.prog 28 #[.int .i64 (n : Int)] w fun e w' => e = .returned (.string (str (pad n))) ∧ Below w.heap.size w w' := by
  obtain ⟨z, hz⟩ : ∃ z, z = (119 - n % 64) % 64 := ⟨_, rfl⟩
  have hz64 : z < 64 := by omega
  have hzi : (119 - ((n : Nat) : Int) % 64) % 64 = (z : Int) := by omega
  have HP : Hid (pad n = (128 :: List.replicate z 0) ++ be8 (8 * n)) := (by rw [hz]; rfl : pad n = (128 :: List.replicate z 0) ++ be8 (8 * n))
  clear hz
  have hmk := run_mk2 w (1 + (z : Int)) (1 + (z : Int) + 8) (by omega) (by omega) (by omega)
  have HO : Hid (Own w.heap.size (.slice (some ⟨w.heap.size, 0, none⟩) (1 + z) (1 + z + 8)) (List.replicate (1 + z) 0) (w.alloc (.cells (madeCells #[.int .u8 0] (1 + z + 8)) 5))) := own_zeros w (1 + z) (1 + z + 8) (by omega) (by omega)
  have t1 : (1 + (z : Int)).toNat = 1 + z := by omega
  have t2 : (1 + (z : Int) + 8).toNat = 1 + z + 8 := by omega
  rw [t1, t2] at hmk
  generalize hW1 : w.alloc (.cells (madeCells #[.int .u8 0] (1 + z + 8)) 5) = W1 at *
  have HB1 : Hid (Below w.heap.size w W1) := (by rw [← hW1]; exact (Below.refl _ w).alloc (Nat.le_refl _) _ : Below w.heap.size w W1)
  have HS1 : Hid (W1.heap.size = w.heap.size + 1) := (by rw [← hW1]; simp : W1.heap.size = w.heap.size + 1)
  clear hW1
  have c0 : W1.cell? ⟨w.heap.size, 0, none⟩ = some (.int .u8 0) := by
    have := World.ownsRow.cells HO.out (g := w.heap.size) rfl 0 (.int .u8 0) (by rw [bv_get]; simp [Nat.add_comm])
    simpa [Addr.add] using this
  have f0 : W1.frozen? ⟨w.heap.size, 0, none⟩ = false := World.ownsRow.frozenAt (by have := HO.out; unfold Own at this; rwa [List.length_replicate] at this) 0
  go_enter Tryd.func28, Tryd.ntmps28
  have HO2 : Hid (Own w.heap.size (.slice (some ⟨w.heap.size, 0, none⟩) (1 + z) (1 + z + 8)) (128 :: List.replicate z 0) (W1.setCell ⟨w.heap.size, 0, none⟩ (.int .u8 128))) := by
    have h1 := HO.out
    unfold Own at h1
    rw [List.length_replicate] at h1
    have h2 := (World.ownsRow.stored h1 0 (.int .u8 128)).1
    show World.ownsRow _ _ _ _ _ _ _
    rw [show (128 :: List.replicate z (0 : UInt8)).length = 1 + z by simp [Nat.add_comm], show bv (128 :: List.replicate z (0 : UInt8)) = (bv (List.replicate (1 + z) 0)).set 0 (.int .u8 128) by rw [Nat.add_comm 1 z, List.replicate_succ]; rfl]
    exact h2
  have HB2 : Hid (Below w.heap.size w (W1.setCell ⟨w.heap.size, 0, none⟩ (.int .u8 128))) := HB1.out.setCell (Nat.le_refl _) _
  have hmu : 8 * ((n : Nat) : Int) ≤ 18446744073709551615 := by omega
  go_wp2
  rw [hzi]
  clear hmk HO
  go_loopw [4, 22] (fun v i wr => ∃ k : Nat, k ≤ 8 ∧ i = .int .i64 k ∧ Hid (Own w.heap.size v ((128 :: List.replicate z 0) ++ (be8 (8 * n)).take k) wr) ∧ Hid (Below w.heap.size w wr)) (fun _ i _ => 8 - (intOf i).toNat)
  case atStart => exact ⟨0, by omega, rfl, (by rw [List.take_zero, List.append_nil]; exact HO2.out : Own _ _ _ _), HB2.out⟩
  case round =>
    obtain ⟨k, hk8, rfl, HV, HB⟩ := hrel
    clear HO2 HB2 c0 f0 HB1 HS1
    have hsz := HB.out.size
    by_cases hk9 : k < 8
    · have HN2 : Hid ((be8 (8 * n)).take (k + 1) = (be8 (8 * n)).take k ++ [UInt8.ofNat (8 * n / 2 ^ (56 - 8 * k) % 256)]) := be8_take (8 * n) k hk9
      have HL2 : Hid (((128 :: List.replicate z 0) ++ (be8 (8 * n)).take k).length + 1 ≤ 140737488355328) := (by simp; omega : ((128 :: List.replicate z 0) ++ (be8 (8 * n)).take k).length + 1 ≤ 140737488355328)
      rcases (show k = 0 ∨ k = 1 ∨ k = 2 ∨ k = 3 ∨ k = 4 ∨ k = 5 ∨ k = 6 ∨ k = 7 by omega) with rfl | rfl | rfl | rfl | rfl | rfl | rfl | rfl
      · have hq : 8 * ((n : Nat) : Int) / 72057594037927936 = ((UInt8.ofNat (8 * n / 2 ^ (56 - 8 * 0) % 256)).toNat : Int) := by rw [ofNat_lt (by omega)]; omega
        generalize UInt8.ofNat (8 * n / 2 ^ (56 - 8 * 0) % 256) = u at *
        go_wp2_with (at_builtin; go_must (refine wp_app rfl (.tmp 25) (.tmp 32) rfl w.heap.size _ ((128 :: List.replicate z 0) ++ (be8 (8 * n)).take 0) [u] _ _ (by simp [bv, hq]) rfl HV.out rfl HL2.out ?h2 ?_))
        case h2 => omega
        intro v' w' ho hb
        go_wp2
        go_roundw
        case rel => exact ⟨0 + 1, by omega, by go_num, (by rw [HN2.out, ← List.append_assoc]; simpa using ho.out : Own w.heap.size v' ((128 :: List.replicate z 0) ++ (be8 (8 * n)).take (0 + 1)) w'), (HB.out.trans hb.out)⟩
        case measure => simp [intOf]
      · have hq : 8 * ((n : Nat) : Int) / 281474976710656 = ((UInt8.ofNat (8 * n / 2 ^ (56 - 8 * 1) % 256)).toNat : Int) := by rw [ofNat_lt (by omega)]; omega
        generalize UInt8.ofNat (8 * n / 2 ^ (56 - 8 * 1) % 256) = u at *
        go_wp2_with (at_builtin; go_must (refine wp_app rfl (.tmp 25) (.tmp 32) rfl w.heap.size _ ((128 :: List.replicate z 0) ++ (be8 (8 * n)).take 1) [u] _ _ (by simp [bv, hq]) rfl HV.out rfl HL2.out ?h2 ?_))
        case h2 => omega
        intro v' w' ho hb
        go_wp2
        go_roundw
        case rel => exact ⟨1 + 1, by omega, by go_num, (by rw [HN2.out, ← List.append_assoc]; simpa using ho.out : Own w.heap.size v' ((128 :: List.replicate z 0) ++ (be8 (8 * n)).take (1 + 1)) w'), (HB.out.trans hb.out)⟩
        case measure => simp [intOf]
      · have hq : (8 * ((n : Nat) : Int) / 1099511627776) % 256 = ((UInt8.ofNat (8 * n / 2 ^ (56 - 8 * 2) % 256)).toNat : Int) := by rw [ofNat_lt (by omega)]; omega
        generalize UInt8.ofNat (8 * n / 2 ^ (56 - 8 * 2) % 256) = u at *
        go_wp2_with (at_builtin; go_must (refine wp_app rfl (.tmp 25) (.tmp 32) rfl w.heap.size _ ((128 :: List.replicate z 0) ++ (be8 (8 * n)).take 2) [u] _ _ (by simp [bv, hq]) rfl HV.out rfl HL2.out ?h2 ?_))
        case h2 => omega
        intro v' w' ho hb
        go_wp2
        go_roundw
        case rel => exact ⟨2 + 1, by omega, by go_num, (by rw [HN2.out, ← List.append_assoc]; simpa using ho.out : Own w.heap.size v' ((128 :: List.replicate z 0) ++ (be8 (8 * n)).take (2 + 1)) w'), (HB.out.trans hb.out)⟩
        case measure => simp [intOf]
      · have hq : (8 * ((n : Nat) : Int) / 4294967296) % 256 = ((UInt8.ofNat (8 * n / 2 ^ (56 - 8 * 3) % 256)).toNat : Int) := by rw [ofNat_lt (by omega)]; omega
        generalize UInt8.ofNat (8 * n / 2 ^ (56 - 8 * 3) % 256) = u at *
        go_wp2_with (at_builtin; go_must (refine wp_app rfl (.tmp 25) (.tmp 32) rfl w.heap.size _ ((128 :: List.replicate z 0) ++ (be8 (8 * n)).take 3) [u] _ _ (by simp [bv, hq]) rfl HV.out rfl HL2.out ?h2 ?_))
        case h2 => omega
        intro v' w' ho hb
        go_wp2
        go_roundw
        case rel => exact ⟨3 + 1, by omega, by go_num, (by rw [HN2.out, ← List.append_assoc]; simpa using ho.out : Own w.heap.size v' ((128 :: List.replicate z 0) ++ (be8 (8 * n)).take (3 + 1)) w'), (HB.out.trans hb.out)⟩
        case measure => simp [intOf]
      · have hq : (8 * ((n : Nat) : Int) / 16777216) % 256 = ((UInt8.ofNat (8 * n / 2 ^ (56 - 8 * 4) % 256)).toNat : Int) := by rw [ofNat_lt (by omega)]; omega
        generalize UInt8.ofNat (8 * n / 2 ^ (56 - 8 * 4) % 256) = u at *
        go_wp2_with (at_builtin; go_must (refine wp_app rfl (.tmp 25) (.tmp 32) rfl w.heap.size _ ((128 :: List.replicate z 0) ++ (be8 (8 * n)).take 4) [u] _ _ (by simp [bv, hq]) rfl HV.out rfl HL2.out ?h2 ?_))
        case h2 => omega
        intro v' w' ho hb
        go_wp2
        go_roundw
        case rel => exact ⟨4 + 1, by omega, by go_num, (by rw [HN2.out, ← List.append_assoc]; simpa using ho.out : Own w.heap.size v' ((128 :: List.replicate z 0) ++ (be8 (8 * n)).take (4 + 1)) w'), (HB.out.trans hb.out)⟩
        case measure => simp [intOf]
      · have hq : (8 * ((n : Nat) : Int) / 65536) % 256 = ((UInt8.ofNat (8 * n / 2 ^ (56 - 8 * 5) % 256)).toNat : Int) := by rw [ofNat_lt (by omega)]; omega
        generalize UInt8.ofNat (8 * n / 2 ^ (56 - 8 * 5) % 256) = u at *
        go_wp2_with (at_builtin; go_must (refine wp_app rfl (.tmp 25) (.tmp 32) rfl w.heap.size _ ((128 :: List.replicate z 0) ++ (be8 (8 * n)).take 5) [u] _ _ (by simp [bv, hq]) rfl HV.out rfl HL2.out ?h2 ?_))
        case h2 => omega
        intro v' w' ho hb
        go_wp2
        go_roundw
        case rel => exact ⟨5 + 1, by omega, by go_num, (by rw [HN2.out, ← List.append_assoc]; simpa using ho.out : Own w.heap.size v' ((128 :: List.replicate z 0) ++ (be8 (8 * n)).take (5 + 1)) w'), (HB.out.trans hb.out)⟩
        case measure => simp [intOf]
      · have hq : (8 * ((n : Nat) : Int) / 256) % 256 = ((UInt8.ofNat (8 * n / 2 ^ (56 - 8 * 6) % 256)).toNat : Int) := by rw [ofNat_lt (by omega)]; omega
        generalize UInt8.ofNat (8 * n / 2 ^ (56 - 8 * 6) % 256) = u at *
        go_wp2_with (at_builtin; go_must (refine wp_app rfl (.tmp 25) (.tmp 32) rfl w.heap.size _ ((128 :: List.replicate z 0) ++ (be8 (8 * n)).take 6) [u] _ _ (by simp [bv, hq]) rfl HV.out rfl HL2.out ?h2 ?_))
        case h2 => omega
        intro v' w' ho hb
        go_wp2
        go_roundw
        case rel => exact ⟨6 + 1, by omega, by go_num, (by rw [HN2.out, ← List.append_assoc]; simpa using ho.out : Own w.heap.size v' ((128 :: List.replicate z 0) ++ (be8 (8 * n)).take (6 + 1)) w'), (HB.out.trans hb.out)⟩
        case measure => simp [intOf]
      · have hq : (8 * ((n : Nat) : Int)) % 256 = ((UInt8.ofNat (8 * n / 2 ^ (56 - 8 * 7) % 256)).toNat : Int) := by rw [ofNat_lt (by omega)]; omega
        generalize UInt8.ofNat (8 * n / 2 ^ (56 - 8 * 7) % 256) = u at *
        go_wp2_with (at_builtin; go_must (refine wp_app rfl (.tmp 25) (.tmp 32) rfl w.heap.size _ ((128 :: List.replicate z 0) ++ (be8 (8 * n)).take 7) [u] _ _ (by simp [bv, hq]) rfl HV.out rfl HL2.out ?h2 ?_))
        case h2 => omega
        intro v' w' ho hb
        go_wp2
        go_roundw
        case rel => exact ⟨7 + 1, by omega, by go_num, (by rw [HN2.out, ← List.append_assoc]; simpa using ho.out : Own w.heap.size v' ((128 :: List.replicate z 0) ++ (be8 (8 * n)).take (7 + 1)) w'), (HB.out.trans hb.out)⟩
        case measure => simp [intOf]
    · obtain rfl : k = 8 := by omega
      have hbk := back wr _ _ HV.out.rd
      rw [List.take_of_length_le (by rw [be8_length]; omega), ← HP.out] at hbk
      go_wp2
      go_ret
      exact ⟨rfl, HB.out⟩

/-- A word as four bytes. -/
def wb (x : Int) : List UInt8 := [UInt8.ofNat (x.toNat / 16777216 % 256), UInt8.ofNat (x.toNat / 65536 % 256), UInt8.ofNat (x.toNat / 256 % 256), UInt8.ofNat (x.toNat % 256)]
def sumB (s : St) : List UInt8 := wb s.a ++ (wb s.b ++ (wb s.c ++ (wb s.d ++ wb s.e)))
/-- SHA-1. -/
def shaR (l : List UInt8) : List UInt8 := sumB (runS h0 (l ++ pad l.length))
theorem wb_eq (x : Int) (hx : U32 x) (u0 u1 u2 u3 : UInt8) (h0 : x / 16777216 = (u0.toNat : Int)) (h1 : x / 65536 % 256 = (u1.toNat : Int)) (h2 : x / 256 % 256 = (u2.toNat : Int)) (h3 : x % 256 = (u3.toNat : Int)) : wb x = [u0, u1, u2, u3] := by
  obtain ⟨a, b⟩ := hx
  have e0 : UInt8.ofNat (x.toNat / 16777216 % 256) = u0 := u8_eq (by rw [ofNat_lt (by omega)]; omega)
  have e1 : UInt8.ofNat (x.toNat / 65536 % 256) = u1 := u8_eq (by rw [ofNat_lt (by omega)]; omega)
  have e2 : UInt8.ofNat (x.toNat / 256 % 256) = u2 := u8_eq (by rw [ofNat_lt (by omega)]; omega)
  have e3 : UInt8.ofNat (x.toNat % 256) = u3 := u8_eq (by rw [ofNat_lt (by omega)]; omega)
  unfold wb
  rw [e0, e1, e2, e3]
theorem shaR_length (l : List UInt8) : (shaR l).length = 20 := by simp [shaR, sumB, wb]

/-- The load of a Sum, under a name of its own. -/
def veilS (p : Value) : Sem Value := Instr.loadAt 52 p
theorem veilS_eq (p : Value) : Instr.loadAt 52 p = veilS p := rfl
theorem sc_one (s : St) (pc : List UInt8) (n : Nat) : ∀ v ∈ sc s pc n, v.oneCell' = true := by
  intro v hv
  unfold sc at hv
  rcases List.mem_append.1 hv with h | h
  · exact wv_one _ v h
  · rcases List.mem_append.1 h with h | h
    · exact bv_one _ v h
    · simp at h; subst h; rfl

attribute [local go_sem ↓] veilS_eq
set_option maxRecDepth 100000 in
set_option maxHeartbeats 2000000 in
theorem Done_any (b : Nat) (l : List UInt8) (hl : l.length ≤ 562949953421312) (w : World) (h : SumOf w b l) :
    Calls Tryd.prog 20 #[.pointer (some ⟨b, 0, none⟩)] w fun e w' => e = .returned (.string (str (shaR l))) ∧ Below w.heap.size w w' := by
  have HSm : Hid (SumOf w b l) := h
  obtain ⟨pc, hp, ht, hb⟩ := h
  have HBk : Hid (Blk w b (sc (runS h0 l) pc l.length)) := hb
  have hz := zeroS
  have hzl : zsum.length = 70 := rfl
  have HL : Hid ((sc (runS h0 l) pc l.length).length = 70) := sc_length _ _ _ hp
  have HO : Hid ((sc (runS h0 l) pc l.length).toArray.all (·.oneCell') = true) := all_oneCell_toArray (sc_one _ _ _)
  have cN : w.cell? ⟨b, 69, none⟩ = some (.int .i64 (l.length : Int)) := HBk.out.cell 69 _ (sc_get69 _ _ _ hp)
  have HCp : Hid (∀ t, SumOf ((w.alloc (.cells zsum.toArray t)).setCells w.heap.size 0 (sc (runS h0 l) pc l.length)) w.heap.size l ∧ Below w.heap.size w ((w.alloc (.cells zsum.toArray t)).setCells w.heap.size 0 (sc (runS h0 l) pc l.length)) ∧ ((w.alloc (.cells zsum.toArray t)).setCells w.heap.size 0 (sc (runS h0 l) pc l.length)).cell? ⟨b, 69, none⟩ = some (.int .i64 (l.length : Int)) ∧ w.heap.size < ((w.alloc (.cells zsum.toArray t)).setCells w.heap.size 0 (sc (runS h0 l) pc l.length)).heap.size) := fun t => by
    have hbl := HBk.out.lt
    have k1 : Blk ((w.alloc (.cells zsum.toArray t)).setCells w.heap.size 0 (sc (runS h0 l) pc l.length)) w.heap.size (sc (runS h0 l) pc l.length) := (Blk.new w zsum t).whole (by rw [HL.out]; rfl)
    have k2 : Blk ((w.alloc (.cells zsum.toArray t)).setCells w.heap.size 0 (sc (runS h0 l) pc l.length)) b (sc (runS h0 l) pc l.length) := (HBk.out.alloc _).setCellsOther (by omega)
    exact ⟨⟨pc, hp, ht, k1⟩, bel_setCells ((Below.refl _ w).alloc (Nat.le_refl _) _) (Nat.le_refl _) _ _, k2.cell 69 _ (sc_get69 _ _ _ hp), k1.lt⟩
  have HTh : Hid (∀ t, (w.alloc (.cells zsum.toArray t)).there w.heap.size 0 (sc (runS h0 l) pc l.length).toArray.size) := fun t => (Blk.new w zsum t).there _ (by rw [List.size_toArray, HL.out]; exact Nat.le_of_eq rfl)
  have HI : Hid ((Tryd.prog.info? 52).map (·.size) = some (sc (runS h0 l) pc l.length).toArray.size) := (by rw [List.size_toArray, HL.out]; exact sizeS : (Tryd.prog.info? 52).map (·.size) = some (sc (runS h0 l) pc l.length).toArray.size)
  have hld : (veilS (.pointer (some ⟨b, 0, none⟩))).run Tryd.prog w = .ok (.agg (sc (runS h0 l) pc l.length).toArray) w := run_loadAt_mid _ b 0 52 _ _ HBk.out.range Tryd.underlying52 rfl (by rw [HL.out]; exact sizeS)
  clear hb ht hp HBk
  generalize sc (runS h0 l) pc l.length = cs at *
  generalize zsum = zv at *
  obtain ⟨hSc, hBc, cNc, hltc⟩ := HCp.out 52
  generalize hWc : (w.alloc (.cells zv.toArray 52)).setCells w.heap.size 0 cs = Wc at *
  have HWc : Hid ((w.alloc (.cells zv.toArray 52)).setCells w.heap.size 0 cs.toArray.toList = Wc) := hWc
  have HSc : Hid (SumOf Wc w.heap.size l) := hSc
  have HBc : Hid (Below w.heap.size w Wc) := hBc
  clear hWc hSc hBc HCp
  go_enter Tryd.func20, Tryd.ntmps20
  go_wp2_with (first | (refine wpList_store_mid rfl 52 (.tmp 3) (.tmp 9) rfl w.heap.size 0 cs.toArray rfl rfl (HTh.out _) HI.out HO.out ?_; rw [HWc.out]) | fail)
  refine (filling_any l.length (by omega) Wc).mono ?_
  rintro e w2 ⟨rfl, hb2⟩
  have HS2 : Hid (SumOf w2 w.heap.size l) := HSc.out.below hb2
  have HB2 : Hid (Below w.heap.size w w2) := HBc.out.trans (hb2.mono HBc.out.size)
  have HPl : Hid (l.length + (pad l.length).length ≤ 1125899906842624) := (by rw [pad_length]; omega : l.length + (pad l.length).length ≤ 1125899906842624)
  clear hb2
  have HR : Hid (shaR l = sumB (runS h0 (l ++ pad l.length))) := rfl
  generalize pad l.length = pd at *
  go_wp2_with fail
  refine (Write_any w.heap.size l pd HPl.out w2 HS2.out).mono ?_
  rintro e w3 ⟨rfl, hS3, hb3⟩
  have HB3 : Hid (Below w.heap.size w w3) := HB2.out.trans (hb3.below HB2.out.size (by simp))
  obtain ⟨pc3, hp3, _, hk3⟩ := hS3
  obtain ⟨oka, okb, okc, okd, oke⟩ := runS_ok h0 h0_ok (l ++ pd)
  generalize runS h0 (l ++ pd) = s1 at *
  have HK3 : Hid (Blk w3 w.heap.size (sc s1 pc3 (l ++ pd).length)) := hk3
  clear hk3 hb3 HS2 HB2
  have hlt3 := HK3.out.lt
  have ca : (w3.alloc (.cells (madeCells #[.int .u8 0] 20) 5)).cell? ⟨w.heap.size, 0, none⟩ = some (.int .u32 s1.a) := (HK3.out.alloc _).cell 0 _ rfl
  have cb : (w3.alloc (.cells (madeCells #[.int .u8 0] 20) 5)).cell? ⟨w.heap.size, 1, none⟩ = some (.int .u32 s1.b) := (HK3.out.alloc _).cell 1 _ rfl
  have cc : (w3.alloc (.cells (madeCells #[.int .u8 0] 20) 5)).cell? ⟨w.heap.size, 2, none⟩ = some (.int .u32 s1.c) := (HK3.out.alloc _).cell 2 _ rfl
  have cd : (w3.alloc (.cells (madeCells #[.int .u8 0] 20) 5)).cell? ⟨w.heap.size, 3, none⟩ = some (.int .u32 s1.d) := (HK3.out.alloc _).cell 3 _ rfl
  have ce : (w3.alloc (.cells (madeCells #[.int .u8 0] 20) 5)).cell? ⟨w.heap.size, 4, none⟩ = some (.int .u32 s1.e) := (HK3.out.alloc _).cell 4 _ rfl
  have hmk := run_mk0 w3 20 (by omega) (by omega)
  have HOw : Hid (Own w.heap.size (.slice (some ⟨w3.heap.size, 0, none⟩) 0 20) [] (w3.alloc (.cells (madeCells #[.int .u8 0] 20) 5))) := by
    have := own_made w3 20 (by omega) (madeCells #[.int .u8 0] 20) (size_madeCells _ _)
    exact ⟨this.1, by
      rcases this.2 with h | ⟨g, cap, cur, e, hb, r⟩
      · exact .inl h
      · exact .inr ⟨g, cap, cur, e, by omega, r⟩⟩
  have HB4 : Hid (Below w.heap.size w (w3.alloc (.cells (madeCells #[.int .u8 0] 20) 5))) := HB3.out.alloc HB3.out.size _
  simp only [show (20 : Int).toNat = 20 from rfl] at hmk
  generalize w3.alloc (.cells (madeCells #[.int .u8 0] 20) 5) = W4 at *
  go_wp2
  go_loopw [4, 19] (fun v i wr => ∃ k : Nat, k ≤ 5 ∧ i = .int .i64 k ∧ Hid (Own w.heap.size v ((sumB s1).take (4 * k)) wr) ∧ Hid (Below w.heap.size w wr)) (fun _ i _ => 5 - (intOf i).toNat)
  case atStart => exact ⟨0, by omega, rfl, HOw.out, HB4.out⟩
  case round =>
    obtain ⟨k, hk5, rfl, HV, HB⟩ := hrel
    clear HOw HB4 ca cb cc cd ce hmk
    have hsz := HB.out.size
    by_cases hk9 : k < 5
    · rcases (show k = 0 ∨ k = 1 ∨ k = 2 ∨ k = 3 ∨ k = 4 by omega) with rfl | rfl | rfl | rfl | rfl
      · have hix : ∀ X : World, (Instr.index 46 (.agg #[.int .u32 s1.a, .int .u32 s1.b, .int .u32 s1.c, .int .u32 s1.d, .int .u32 s1.e]) (.int .i64 0)).run Tryd.prog X = .ok (.int .u32 s1.a) X := run_index_arr 46 45 5 .u32 Tryd.underlying46 Tryd.underlying45 sizeW [.int .u32 s1.a, .int .u32 s1.b, .int .u32 s1.c, .int .u32 s1.d, .int .u32 s1.e] 0 (by omega) (.int .u32 s1.a) rfl
        have HWk : Hid (∀ u0 u1 u2 u3 : UInt8, s1.a / 16777216 = (u0.toNat : Int) → s1.a / 65536 % 256 = (u1.toNat : Int) → s1.a / 256 % 256 = (u2.toNat : Int) → s1.a % 256 = (u3.toNat : Int) → wb s1.a = [u0, u1, u2, u3]) := fun u0 u1 u2 u3 h0 h1 h2 h3 => wb_eq _ oka u0 u1 u2 u3 h0 h1 h2 h3
        obtain ⟨e0, e1⟩ := oka
        obtain ⟨u0, hu0⟩ : ∃ u : UInt8, s1.a / 16777216 = (u.toNat : Int) := ⟨UInt8.ofNat (s1.a / 16777216).toNat, by rw [ofNat_lt (by omega)]; omega⟩
        obtain ⟨u1, hu1⟩ : ∃ u : UInt8, s1.a / 65536 % 256 = (u.toNat : Int) := ⟨UInt8.ofNat (s1.a / 65536 % 256).toNat, by rw [ofNat_lt (by omega)]; omega⟩
        obtain ⟨u2, hu2⟩ : ∃ u : UInt8, s1.a / 256 % 256 = (u.toNat : Int) := ⟨UInt8.ofNat (s1.a / 256 % 256).toNat, by rw [ofNat_lt (by omega)]; omega⟩
        obtain ⟨u3, hu3⟩ : ∃ u : UInt8, s1.a % 256 = (u.toNat : Int) := ⟨UInt8.ofNat (s1.a % 256).toNat, by rw [ofNat_lt (by omega)]; omega⟩
        have HWw : Hid (wb s1.a = [u0, u1, u2, u3]) := HWk.out u0 u1 u2 u3 hu0 hu1 hu2 hu3
        clear HWk
        go_wp2_with (at_builtin; go_must (refine wp_app rfl (.tmp 22) (.tmp 34) rfl w.heap.size _ ((sumB s1).take (4 * 0)) [u0, u1, u2, u3] _ _ (by simp [bv, hu0, hu1, hu2, hu3]) rfl HV.out rfl (by rw [List.length_take]; simp only [List.length_cons, List.length_nil]; omega) hsz ?_))
        intro v' w' ho hb
        go_wp2
        go_roundw
        case rel => exact ⟨0 + 1, by omega, by go_num, (by rw [show (sumB s1).take (4 * (0 + 1)) = (sumB s1).take (4 * 0) ++ wb s1.a from rfl, HWw.out]; exact ho.out : Own w.heap.size v' ((sumB s1).take (4 * (0 + 1))) w'), (HB.out.trans hb.out)⟩
        case measure => simp [intOf]
      · have hix : ∀ X : World, (Instr.index 46 (.agg #[.int .u32 s1.a, .int .u32 s1.b, .int .u32 s1.c, .int .u32 s1.d, .int .u32 s1.e]) (.int .i64 1)).run Tryd.prog X = .ok (.int .u32 s1.b) X := run_index_arr 46 45 5 .u32 Tryd.underlying46 Tryd.underlying45 sizeW [.int .u32 s1.a, .int .u32 s1.b, .int .u32 s1.c, .int .u32 s1.d, .int .u32 s1.e] 1 (by omega) (.int .u32 s1.b) rfl
        have HWk : Hid (∀ u0 u1 u2 u3 : UInt8, s1.b / 16777216 = (u0.toNat : Int) → s1.b / 65536 % 256 = (u1.toNat : Int) → s1.b / 256 % 256 = (u2.toNat : Int) → s1.b % 256 = (u3.toNat : Int) → wb s1.b = [u0, u1, u2, u3]) := fun u0 u1 u2 u3 h0 h1 h2 h3 => wb_eq _ okb u0 u1 u2 u3 h0 h1 h2 h3
        obtain ⟨e0, e1⟩ := okb
        obtain ⟨u0, hu0⟩ : ∃ u : UInt8, s1.b / 16777216 = (u.toNat : Int) := ⟨UInt8.ofNat (s1.b / 16777216).toNat, by rw [ofNat_lt (by omega)]; omega⟩
        obtain ⟨u1, hu1⟩ : ∃ u : UInt8, s1.b / 65536 % 256 = (u.toNat : Int) := ⟨UInt8.ofNat (s1.b / 65536 % 256).toNat, by rw [ofNat_lt (by omega)]; omega⟩
        obtain ⟨u2, hu2⟩ : ∃ u : UInt8, s1.b / 256 % 256 = (u.toNat : Int) := ⟨UInt8.ofNat (s1.b / 256 % 256).toNat, by rw [ofNat_lt (by omega)]; omega⟩
        obtain ⟨u3, hu3⟩ : ∃ u : UInt8, s1.b % 256 = (u.toNat : Int) := ⟨UInt8.ofNat (s1.b % 256).toNat, by rw [ofNat_lt (by omega)]; omega⟩
        have HWw : Hid (wb s1.b = [u0, u1, u2, u3]) := HWk.out u0 u1 u2 u3 hu0 hu1 hu2 hu3
        clear HWk
        go_wp2_with (at_builtin; go_must (refine wp_app rfl (.tmp 22) (.tmp 34) rfl w.heap.size _ ((sumB s1).take (4 * 1)) [u0, u1, u2, u3] _ _ (by simp [bv, hu0, hu1, hu2, hu3]) rfl HV.out rfl (by rw [List.length_take]; simp only [List.length_cons, List.length_nil]; omega) hsz ?_))
        intro v' w' ho hb
        go_wp2
        go_roundw
        case rel => exact ⟨1 + 1, by omega, by go_num, (by rw [show (sumB s1).take (4 * (1 + 1)) = (sumB s1).take (4 * 1) ++ wb s1.b from rfl, HWw.out]; exact ho.out : Own w.heap.size v' ((sumB s1).take (4 * (1 + 1))) w'), (HB.out.trans hb.out)⟩
        case measure => simp [intOf]
      · have hix : ∀ X : World, (Instr.index 46 (.agg #[.int .u32 s1.a, .int .u32 s1.b, .int .u32 s1.c, .int .u32 s1.d, .int .u32 s1.e]) (.int .i64 2)).run Tryd.prog X = .ok (.int .u32 s1.c) X := run_index_arr 46 45 5 .u32 Tryd.underlying46 Tryd.underlying45 sizeW [.int .u32 s1.a, .int .u32 s1.b, .int .u32 s1.c, .int .u32 s1.d, .int .u32 s1.e] 2 (by omega) (.int .u32 s1.c) rfl
        have HWk : Hid (∀ u0 u1 u2 u3 : UInt8, s1.c / 16777216 = (u0.toNat : Int) → s1.c / 65536 % 256 = (u1.toNat : Int) → s1.c / 256 % 256 = (u2.toNat : Int) → s1.c % 256 = (u3.toNat : Int) → wb s1.c = [u0, u1, u2, u3]) := fun u0 u1 u2 u3 h0 h1 h2 h3 => wb_eq _ okc u0 u1 u2 u3 h0 h1 h2 h3
        obtain ⟨e0, e1⟩ := okc
        obtain ⟨u0, hu0⟩ : ∃ u : UInt8, s1.c / 16777216 = (u.toNat : Int) := ⟨UInt8.ofNat (s1.c / 16777216).toNat, by rw [ofNat_lt (by omega)]; omega⟩
        obtain ⟨u1, hu1⟩ : ∃ u : UInt8, s1.c / 65536 % 256 = (u.toNat : Int) := ⟨UInt8.ofNat (s1.c / 65536 % 256).toNat, by rw [ofNat_lt (by omega)]; omega⟩
        obtain ⟨u2, hu2⟩ : ∃ u : UInt8, s1.c / 256 % 256 = (u.toNat : Int) := ⟨UInt8.ofNat (s1.c / 256 % 256).toNat, by rw [ofNat_lt (by omega)]; omega⟩
        obtain ⟨u3, hu3⟩ : ∃ u : UInt8, s1.c % 256 = (u.toNat : Int) := ⟨UInt8.ofNat (s1.c % 256).toNat, by rw [ofNat_lt (by omega)]; omega⟩
        have HWw : Hid (wb s1.c = [u0, u1, u2, u3]) := HWk.out u0 u1 u2 u3 hu0 hu1 hu2 hu3
        clear HWk
        go_wp2_with (at_builtin; go_must (refine wp_app rfl (.tmp 22) (.tmp 34) rfl w.heap.size _ ((sumB s1).take (4 * 2)) [u0, u1, u2, u3] _ _ (by simp [bv, hu0, hu1, hu2, hu3]) rfl HV.out rfl (by rw [List.length_take]; simp only [List.length_cons, List.length_nil]; omega) hsz ?_))
        intro v' w' ho hb
        go_wp2
        go_roundw
        case rel => exact ⟨2 + 1, by omega, by go_num, (by rw [show (sumB s1).take (4 * (2 + 1)) = (sumB s1).take (4 * 2) ++ wb s1.c from rfl, HWw.out]; exact ho.out : Own w.heap.size v' ((sumB s1).take (4 * (2 + 1))) w'), (HB.out.trans hb.out)⟩
        case measure => simp [intOf]
      · have hix : ∀ X : World, (Instr.index 46 (.agg #[.int .u32 s1.a, .int .u32 s1.b, .int .u32 s1.c, .int .u32 s1.d, .int .u32 s1.e]) (.int .i64 3)).run Tryd.prog X = .ok (.int .u32 s1.d) X := run_index_arr 46 45 5 .u32 Tryd.underlying46 Tryd.underlying45 sizeW [.int .u32 s1.a, .int .u32 s1.b, .int .u32 s1.c, .int .u32 s1.d, .int .u32 s1.e] 3 (by omega) (.int .u32 s1.d) rfl
        have HWk : Hid (∀ u0 u1 u2 u3 : UInt8, s1.d / 16777216 = (u0.toNat : Int) → s1.d / 65536 % 256 = (u1.toNat : Int) → s1.d / 256 % 256 = (u2.toNat : Int) → s1.d % 256 = (u3.toNat : Int) → wb s1.d = [u0, u1, u2, u3]) := fun u0 u1 u2 u3 h0 h1 h2 h3 => wb_eq _ okd u0 u1 u2 u3 h0 h1 h2 h3
        obtain ⟨e0, e1⟩ := okd
        obtain ⟨u0, hu0⟩ : ∃ u : UInt8, s1.d / 16777216 = (u.toNat : Int) := ⟨UInt8.ofNat (s1.d / 16777216).toNat, by rw [ofNat_lt (by omega)]; omega⟩
        obtain ⟨u1, hu1⟩ : ∃ u : UInt8, s1.d / 65536 % 256 = (u.toNat : Int) := ⟨UInt8.ofNat (s1.d / 65536 % 256).toNat, by rw [ofNat_lt (by omega)]; omega⟩
        obtain ⟨u2, hu2⟩ : ∃ u : UInt8, s1.d / 256 % 256 = (u.toNat : Int) := ⟨UInt8.ofNat (s1.d / 256 % 256).toNat, by rw [ofNat_lt (by omega)]; omega⟩
        obtain ⟨u3, hu3⟩ : ∃ u : UInt8, s1.d % 256 = (u.toNat : Int) := ⟨UInt8.ofNat (s1.d % 256).toNat, by rw [ofNat_lt (by omega)]; omega⟩
        have HWw : Hid (wb s1.d = [u0, u1, u2, u3]) := HWk.out u0 u1 u2 u3 hu0 hu1 hu2 hu3
        clear HWk
        go_wp2_with (at_builtin; go_must (refine wp_app rfl (.tmp 22) (.tmp 34) rfl w.heap.size _ ((sumB s1).take (4 * 3)) [u0, u1, u2, u3] _ _ (by simp [bv, hu0, hu1, hu2, hu3]) rfl HV.out rfl (by rw [List.length_take]; simp only [List.length_cons, List.length_nil]; omega) hsz ?_))
        intro v' w' ho hb
        go_wp2
        go_roundw
        case rel => exact ⟨3 + 1, by omega, by go_num, (by rw [show (sumB s1).take (4 * (3 + 1)) = (sumB s1).take (4 * 3) ++ wb s1.d from rfl, HWw.out]; exact ho.out : Own w.heap.size v' ((sumB s1).take (4 * (3 + 1))) w'), (HB.out.trans hb.out)⟩
        case measure => simp [intOf]
      · have hix : ∀ X : World, (Instr.index 46 (.agg #[.int .u32 s1.a, .int .u32 s1.b, .int .u32 s1.c, .int .u32 s1.d, .int .u32 s1.e]) (.int .i64 4)).run Tryd.prog X = .ok (.int .u32 s1.e) X := run_index_arr 46 45 5 .u32 Tryd.underlying46 Tryd.underlying45 sizeW [.int .u32 s1.a, .int .u32 s1.b, .int .u32 s1.c, .int .u32 s1.d, .int .u32 s1.e] 4 (by omega) (.int .u32 s1.e) rfl
        have HWk : Hid (∀ u0 u1 u2 u3 : UInt8, s1.e / 16777216 = (u0.toNat : Int) → s1.e / 65536 % 256 = (u1.toNat : Int) → s1.e / 256 % 256 = (u2.toNat : Int) → s1.e % 256 = (u3.toNat : Int) → wb s1.e = [u0, u1, u2, u3]) := fun u0 u1 u2 u3 h0 h1 h2 h3 => wb_eq _ oke u0 u1 u2 u3 h0 h1 h2 h3
        obtain ⟨e0, e1⟩ := oke
        obtain ⟨u0, hu0⟩ : ∃ u : UInt8, s1.e / 16777216 = (u.toNat : Int) := ⟨UInt8.ofNat (s1.e / 16777216).toNat, by rw [ofNat_lt (by omega)]; omega⟩
        obtain ⟨u1, hu1⟩ : ∃ u : UInt8, s1.e / 65536 % 256 = (u.toNat : Int) := ⟨UInt8.ofNat (s1.e / 65536 % 256).toNat, by rw [ofNat_lt (by omega)]; omega⟩
        obtain ⟨u2, hu2⟩ : ∃ u : UInt8, s1.e / 256 % 256 = (u.toNat : Int) := ⟨UInt8.ofNat (s1.e / 256 % 256).toNat, by rw [ofNat_lt (by omega)]; omega⟩
        obtain ⟨u3, hu3⟩ : ∃ u : UInt8, s1.e % 256 = (u.toNat : Int) := ⟨UInt8.ofNat (s1.e % 256).toNat, by rw [ofNat_lt (by omega)]; omega⟩
        have HWw : Hid (wb s1.e = [u0, u1, u2, u3]) := HWk.out u0 u1 u2 u3 hu0 hu1 hu2 hu3
        clear HWk
        go_wp2_with (at_builtin; go_must (refine wp_app rfl (.tmp 22) (.tmp 34) rfl w.heap.size _ ((sumB s1).take (4 * 4)) [u0, u1, u2, u3] _ _ (by simp [bv, hu0, hu1, hu2, hu3]) rfl HV.out rfl (by rw [List.length_take]; simp only [List.length_cons, List.length_nil]; omega) hsz ?_))
        intro v' w' ho hb
        go_wp2
        go_roundw
        case rel => exact ⟨4 + 1, by omega, by go_num, (by rw [show (sumB s1).take (4 * (4 + 1)) = (sumB s1).take (4 * 4) ++ wb s1.e from rfl, HWw.out]; exact ho.out : Own w.heap.size v' ((sumB s1).take (4 * (4 + 1))) w'), (HB.out.trans hb.out)⟩
        case measure => simp [intOf]
    · obtain rfl : k = 5 := by omega
      have hbk := back wr _ _ HV.out.rd
      rw [show (sumB s1).take (4 * 5) = sumB s1 from rfl, ← HR.out] at hbk
      go_wp2
      go_ret
      exact ⟨rfl, HB.out⟩

set_option maxRecDepth 100000 in
set_option maxHeartbeats 1000000 in
theorem Sha1_any (l : List UInt8) (hl : l.length ≤ 562949953421312) (w : World) : Calls Tryd.prog 10 #[.string (str l)] w fun e w' => e = .returned (.string (str (shaR l))) ∧ Below w.heap.size w w' := by
  go_enter Tryd.func10, Tryd.ntmps10
  go_wp2_with fail
  refine (New_any w).mono ?_
  rintro e w2 ⟨rfl, hS2, hb2⟩
  go_wp2_with fail
  refine (Write_any w.heap.size [] l (by simp; omega) w2 hS2).mono ?_
  rintro e w3 ⟨rfl, hS3, hb3⟩
  rw [List.nil_append] at hS3
  have HB3 : Hid (Below w.heap.size w w3) := hb2.trans (hb3.below hb2.size (by simp))
  clear hb2 hb3 hS2
  go_wp2_with fail
  refine (Done_any w.heap.size l hl w3 hS3).mono ?_
  rintro e w4 ⟨rfl, hb4⟩
  go_wp2
  go_ret
  exact ⟨rfl, bel_trans' HB3.out hb4⟩

end Bs
end Go.Proofs.YtcnjnlmjgbmjnabDoor
