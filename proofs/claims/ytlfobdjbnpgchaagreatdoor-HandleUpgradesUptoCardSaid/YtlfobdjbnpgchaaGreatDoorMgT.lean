/- Several texts as one. -/
import Derived.Test.YtlfobdjbnpgchaaGreatDoorMgS
import Derived.Test.YtlfobdjbnpgchaaGreatDoorMgR
/-
  base.filling, (*base.Sum).Done, base.Sha1.
-/
set_option linter.unusedVariables false
set_option linter.unusedSimpArgs false
namespace Go.Proofs.YtlfobdjbnpgchaaGreatDoor
open Go.RowKit
namespace Bs

def be8 (x : Nat) : List UInt8 := (List.range 8).map fun i => UInt8.ofNat (x / 2 ^ (56 - 8 * i) % 256)
def pad (n : Nat) : List UInt8 := (128 :: List.replicate ((119 - n % 64) % 64) 0) ++ be8 (8 * n)
theorem be8_take (x k : Nat) (h : k < 8) : (be8 x).take (k + 1) = (be8 x).take k ++ [UInt8.ofNat (x / 2 ^ (56 - 8 * k) % 256)] := by
  unfold be8
  rw [← List.map_take, ← List.map_take, List.take_range, List.take_range, Nat.min_eq_left (by omega), Nat.min_eq_left (by omega), List.range_succ, List.map_append]
  rfl
theorem be8_length (x : Nat) : (be8 x).length = 8 := by simp [be8]
theorem pad_length (n : Nat) : (pad n).length = 9 + (119 - n % 64) % 64 := by simp [pad, be8_length]; omega
theorem run_mk2 (W : World) (l c : Int) (h0 : 0 ≤ l) (hlc : l ≤ c) (hc : c ≤ 281474976710656) : (Instr.makeSlice 67 (.int .i64 l) (.int .i64 c)).run Tryz.prog W = .ok (.slice (some ⟨W.heap.size, 0, none⟩) l.toNat c.toNat) (W.alloc (.cells (madeCells #[.int .u8 0] c.toNat) 5)) := by
  obtain ⟨i0, hi, hz0, hz1, hz2⟩ := info_parts infoB
  have hr := run_make (P := Tryz.prog) W 67 5 i0 (.int .u8 0) Tryz.underlying67 hi hz0 .i64 .i64 l c h0 hlc (by rw [hz2]; omega) (by omega)
  simp only [hz1, Nat.mul_one] at hr
  exact hr
theorem own_zeros (w : World) (l c : Nat) (hl : l ≤ c) (hc : c ≤ 9223372036854775807) : Own w.heap.size (.slice (some ⟨w.heap.size, 0, none⟩) l c) (List.replicate l 0) (w.alloc (.cells (madeCells #[.int .u8 0] c) 5)) := by
  unfold Own
  rw [List.length_replicate]
  refine ⟨by rw [bv_length, List.length_replicate]; omega, .inr ⟨w.heap.size, c, madeCells #[.int .u8 0] c, rfl, Nat.le_refl _, heap_alloc_new _ _, hl, by unfold maxLen; omega, by rw [size_madeCells]; omega, ?_⟩⟩
  rw [toList_madeCells_one]
  unfold bv
  simp
  omega

set_option maxRecDepth 100000 in
set_option maxHeartbeats 1000000 in
theorem filling_any (n : Nat) (hn : n ≤ 1125899906842624) (w : World) : Calls Tryz.prog 278 #[.int .i64 (n : Int)] w fun e w' => e = .returned (.string (str (pad n))) ∧ Below w.heap.size w w' := by
  obtain ⟨z, hz⟩ : ∃ z, z = (119 - n % 64) % 64 := ⟨_, rfl⟩
  have hz64 : z < 64 := by omega
  have hzi : (119 - ((n : Nat) : Int) % 64) % 64 = (z : Int) := by omega
  have HP : Hid (pad n = (128 :: List.replicate z 0) ++ be8 (8 * n)) := (by rw [hz]; rfl : pad n = (128 :: List.replicate z 0) ++ be8 (8 * n))
  clear hz
  have hmk := run_mk2 w (1 + (z : Int)) (1 + (z : Int) + 8) (by omega) (by omega) (by omega)
  have HO : Hid (Own w.heap.size (.slice (some ⟨w.heap.size, 0, none⟩) (1 + z) (1 + z + 8)) (List.replicate (1 + z) 0) (w.alloc (.cells (madeCells #[.int .u8 0] (1 + z + 8)) 5))) := own_zeros w (1 + z) (1 + z + 8) (by omega) (by omega)
  have t1 : (1 + (z : Int)).toNat = 1 + z := by omega
  have t2 : (1 + (z : Int) + 8).toNat = 1 + z + 8 := by omega
  rw [t1, t2] at hmk
  generalize hW1 : w.alloc (.cells (madeCells #[.int .u8 0] (1 + z + 8)) 5) = W1 at *
  have HB1 : Hid (Below w.heap.size w W1) := (by rw [← hW1]; exact (Below.refl _ w).alloc (Nat.le_refl _) _ : Below w.heap.size w W1)
  have HS1 : Hid (W1.heap.size = w.heap.size + 1) := (by rw [← hW1]; simp : W1.heap.size = w.heap.size + 1)
  clear hW1
  have c0 : W1.cell? ⟨w.heap.size, 0, none⟩ = some (.int .u8 0) := by
    have := World.ownsRow.cells HO.out (g := w.heap.size) rfl 0 (.int .u8 0) (by rw [bv_get]; simp [Nat.add_comm])
    simpa [Addr.add] using this
  have f0 : W1.frozen? ⟨w.heap.size, 0, none⟩ = false := World.ownsRow.frozenAt (by have := HO.out; unfold Own at this; rwa [List.length_replicate] at this) 0
  go_enter Tryz.func278, Tryz.ntmps278
  have HO2 : Hid (Own w.heap.size (.slice (some ⟨w.heap.size, 0, none⟩) (1 + z) (1 + z + 8)) (128 :: List.replicate z 0) (W1.setCell ⟨w.heap.size, 0, none⟩ (.int .u8 128))) := by
    have h1 := HO.out
    unfold Own at h1
    rw [List.length_replicate] at h1
    have h2 := (World.ownsRow.stored h1 0 (.int .u8 128)).1
    show World.ownsRow _ _ _ _ _ _ _
    rw [show (128 :: List.replicate z (0 : UInt8)).length = 1 + z by simp [Nat.add_comm], show bv (128 :: List.replicate z (0 : UInt8)) = (bv (List.replicate (1 + z) 0)).set 0 (.int .u8 128) by rw [Nat.add_comm 1 z, List.replicate_succ]; rfl]
    exact h2
  have HB2 : Hid (Below w.heap.size w (W1.setCell ⟨w.heap.size, 0, none⟩ (.int .u8 128))) := HB1.out.setCell (Nat.le_refl _) _
  have hmu : 8 * ((n : Nat) : Int) ≤ 18446744073709551615 := by omega
  go_wp2
  rw [hzi]
  clear hmk HO
  go_loopw [4, 22] (fun v i wr => ∃ k : Nat, k ≤ 8 ∧ i = .int .i64 k ∧ Hid (Own w.heap.size v ((128 :: List.replicate z 0) ++ (be8 (8 * n)).take k) wr) ∧ Hid (Below w.heap.size w wr)) (fun _ i _ => 8 - (intOf i).toNat)
  case atStart => exact ⟨0, by omega, rfl, (by rw [List.take_zero, List.append_nil]; exact HO2.out : Own _ _ _ _), HB2.out⟩
  case round =>
    obtain ⟨k, hk8, rfl, HV, HB⟩ := hrel
    clear HO2 HB2 c0 f0 HB1 HS1
    have hsz := HB.out.size
    by_cases hk9 : k < 8
    · have HN2 : Hid ((be8 (8 * n)).take (k + 1) = (be8 (8 * n)).take k ++ [UInt8.ofNat (8 * n / 2 ^ (56 - 8 * k) % 256)]) := be8_take (8 * n) k hk9
      have HL2 : Hid (((128 :: List.replicate z 0) ++ (be8 (8 * n)).take k).length + 1 ≤ 140737488355328) := (by simp; omega : ((128 :: List.replicate z 0) ++ (be8 (8 * n)).take k).length + 1 ≤ 140737488355328)
      rcases (show k = 0 ∨ k = 1 ∨ k = 2 ∨ k = 3 ∨ k = 4 ∨ k = 5 ∨ k = 6 ∨ k = 7 by omega) with rfl | rfl | rfl | rfl | rfl | rfl | rfl | rfl
      · have hq : 8 * ((n : Nat) : Int) / 72057594037927936 = ((UInt8.ofNat (8 * n / 2 ^ (56 - 8 * 0) % 256)).toNat : Int) := by rw [ofNat_lt (by omega)]; omega
        generalize UInt8.ofNat (8 * n / 2 ^ (56 - 8 * 0) % 256) = u at *
        go_wp2_with (at_builtin; go_must (refine wp_app rfl (.tmp 25) (.tmp 32) rfl w.heap.size _ ((128 :: List.replicate z 0) ++ (be8 (8 * n)).take 0) [u] _ _ (by simp [bv, hq]) rfl HV.out rfl HL2.out ?h2 ?_))
        case h2 => omega
        intro v' w' ho hb
        go_wp2
        go_roundw
        case rel => exact ⟨0 + 1, by omega, by go_num, (by rw [HN2.out, ← List.append_assoc]; simpa using ho.out : Own w.heap.size v' ((128 :: List.replicate z 0) ++ (be8 (8 * n)).take (0 + 1)) w'), (HB.out.trans hb.out)⟩
        case measure => simp [intOf]
      · have hq : 8 * ((n : Nat) : Int) / 281474976710656 = ((UInt8.ofNat (8 * n / 2 ^ (56 - 8 * 1) % 256)).toNat : Int) := by rw [ofNat_lt (by omega)]; omega
        generalize UInt8.ofNat (8 * n / 2 ^ (56 - 8 * 1) % 256) = u at *
        go_wp2_with (at_builtin; go_must (refine wp_app rfl (.tmp 25) (.tmp 32) rfl w.heap.size _ ((128 :: List.replicate z 0) ++ (be8 (8 * n)).take 1) [u] _ _ (by simp [bv, hq]) rfl HV.out rfl HL2.out ?h2 ?_))
        case h2 => omega
        intro v' w' ho hb
        go_wp2
        go_roundw
        case rel => exact ⟨1 + 1, by omega, by go_num, (by rw [HN2.out, ← List.append_assoc]; simpa using ho.out : Own w.heap.size v' ((128 :: List.replicate z 0) ++ (be8 (8 * n)).take (1 + 1)) w'), (HB.out.trans hb.out)⟩
        case measure => simp [intOf]
      · have hq : (8 * ((n : Nat) : Int) / 1099511627776) % 256 = ((UInt8.ofNat (8 * n / 2 ^ (56 - 8 * 2) % 256)).toNat : Int) := by rw [ofNat_lt (by omega)]; omega
        generalize UInt8.ofNat (8 * n / 2 ^ (56 - 8 * 2) % 256) = u at *
        go_wp2_with (at_builtin; go_must (refine wp_app rfl (.tmp 25) (.tmp 32) rfl w.heap.size _ ((128 :: List.replicate z 0) ++ (be8 (8 * n)).take 2) [u] _ _ (by simp [bv, hq]) rfl HV.out rfl HL2.out ?h2 ?_))
        case h2 => omega
        intro v' w' ho hb
        go_wp2
        go_roundw
        case rel => exact ⟨2 + 1, by omega, by go_num, (by rw [HN2.out, ← List.append_assoc]; simpa using ho.out : Own w.heap.size v' ((128 :: List.replicate z 0) ++ (be8 (8 * n)).take (2 + 1)) w'), (HB.out.trans hb.out)⟩
        case measure => simp [intOf]
      · have hq : (8 * ((n : Nat) : Int) / 4294967296) % 256 = ((UInt8.ofNat (8 * n / 2 ^ (56 - 8 * 3) % 256)).toNat : Int) := by rw [ofNat_lt (by omega)]; omega
        generalize UInt8.ofNat (8 * n / 2 ^ (56 - 8 * 3) % 256) = u at *
        go_wp2_with (at_builtin; go_must (refine wp_app rfl (.tmp 25) (.tmp 32) rfl w.heap.size _ ((128 :: List.replicate z 0) ++ (be8 (8 * n)).take 3) [u] _ _ (by simp [bv, hq]) rfl HV.out rfl HL2.out ?h2 ?_))
        case h2 => omega
        intro v' w' ho hb
        go_wp2
        go_roundw
        case rel => exact ⟨3 + 1, by omega, by go_num, (by rw [HN2.out, ← List.append_assoc]; simpa using ho.out : Own w.heap.size v' ((128 :: List.replicate z 0) ++ (be8 (8 * n)).take (3 + 1)) w'), (HB.out.trans hb.out)⟩
        case measure => simp [intOf]
      · have hq : (8 * ((n : Nat) : Int) / 16777216) % 256 = ((UInt8.ofNat (8 * n / 2 ^ (56 - 8 * 4) % 256)).toNat : Int) := by rw [ofNat_lt (by omega)]; omega
        generalize UInt8.ofNat (8 * n / 2 ^ (56 - 8 * 4) % 256) = u at *
        go_wp2_with (at_builtin; go_must (refine wp_app rfl (.tmp 25) (.tmp 32) rfl w.heap.size _ ((128 :: List.replicate z 0) ++ (be8 (8 * n)).take 4) [u] _ _ (by simp [bv, hq]) rfl HV.out rfl HL2.out ?h2 ?_))
        case h2 => omega
        intro v' w' ho hb
        go_wp2
        go_roundw
        case rel => exact ⟨4 + 1, by omega, by go_num, (by rw [HN2.out, ← List.append_assoc]; simpa using ho.out : Own w.heap.size v' ((128 :: List.replicate z 0) ++ (be8 (8 * n)).take (4 + 1)) w'), (HB.out.trans hb.out)⟩
        case measure => simp [intOf]
      · have hq : (8 * ((n : Nat) : Int) / 65536) % 256 = ((UInt8.ofNat (8 * n / 2 ^ (56 - 8 * 5) % 256)).toNat : Int) := by rw [ofNat_lt (by omega)]; omega
        generalize UInt8.ofNat (8 * n / 2 ^ (56 - 8 * 5) % 256) = u at *
        go_wp2_with (at_builtin; go_must (refine wp_app rfl (.tmp 25) (.tmp 32) rfl w.heap.size _ ((128 :: List.replicate z 0) ++ (be8 (8 * n)).take 5) [u] _ _ (by simp [bv, hq]) rfl HV.out rfl HL2.out ?h2 ?_))
        case h2 => omega
        intro v' w' ho hb
        go_wp2
        go_roundw
        case rel => exact ⟨5 + 1, by omega, by go_num, (by rw [HN2.out, ← List.append_assoc]; simpa using ho.out : Own w.heap.size v' ((128 :: List.replicate z 0) ++ (be8 (8 * n)).take (5 + 1)) w'), (HB.out.trans hb.out)⟩
        case measure => simp [intOf]
      · have hq : (8 * ((n : Nat) : Int) / 256) % 256 = ((UInt8.ofNat (8 * n / 2 ^ (56 - 8 * 6) % 256)).toNat : Int) := by rw [ofNat_lt (by omega)]; omega
        generalize UInt8.ofNat (8 * n / 2 ^ (56 - 8 * 6) % 256) = u at *
        go_wp2_with (at_builtin; go_must (refine wp_app rfl (.tmp 25) (.tmp 32) rfl w.heap.size _ ((128 :: List.replicate z 0) ++ (be8 (8 * n)).take 6) [u] _ _ (by simp [bv, hq]) rfl HV.out rfl HL2.out ?h2 ?_))
        case h2 => omega
        intro v' w' ho hb
        go_wp2
        go_roundw
        case rel => exact ⟨6 + 1, by omega, by go_num, (by rw [HN2.out, ← List.append_assoc]; simpa using ho.out : Own w.heap.size v' ((128 :: List.replicate z 0) ++ (be8 (8 * n)).take (6 + 1)) w'), (HB.out.trans hb.out)⟩
        case measure => simp [intOf]
      · have hq : (8 * ((n : Nat) : Int)) % 256 = ((UInt8.ofNat (8 * n / 2 ^ (56 - 8 * 7) % 256)).toNat : Int) := by rw [ofNat_lt (by omega)]; omega
        generalize UInt8.ofNat (8 * n / 2 ^ (56 - 8 * 7) % 256) = u at *
        go_wp2_with (at_builtin; go_must (refine wp_app rfl (.tmp 25) (.tmp 32) rfl w.heap.size _ ((128 :: List.replicate z 0) ++ (be8 (8 * n)).take 7) [u] _ _ (by simp [bv, hq]) rfl HV.out rfl HL2.out ?h2 ?_))
        case h2 => omega
        intro v' w' ho hb
        go_wp2
        go_roundw
        case rel => exact ⟨7 + 1, by omega, by go_num, (by rw [HN2.out, ← List.append_assoc]; simpa using ho.out : Own w.heap.size v' ((128 :: List.replicate z 0) ++ (be8 (8 * n)).take (7 + 1)) w'), (HB.out.trans hb.out)⟩
        case measure => simp [intOf]
    · obtain rfl : k = 8 := by omega
      have hbk := back wr _ _ HV.out.rd
      rw [List.take_of_length_le (by rw [be8_length]; omega), ← HP.out] at hbk
      go_wp2
      go_ret
      exact ⟨rfl, HB.out⟩

/-- A word as four bytes. -/
def wb (x : Int) : List UInt8 := [UInt8.ofNat (x.toNat / 16777216 % 256), UInt8.ofNat (x.toNat / 65536 % 256), UInt8.ofNat (x.toNat / 256 % 256), UInt8.ofNat (x.toNat % 256)]
def sumB (s : St) : List UInt8 := wb s.a ++ (wb s.b ++ (wb s.c ++ (wb s.d ++ wb s.e)))
/-- SHA-1. -/
def shaR (l : List UInt8) : List UInt8 := sumB (runS h0 (l ++ pad l.length))
theorem wb_eq (x : Int) (hx : U32 x) (u0 u1 u2 u3 : UInt8) (h0 : x / 16777216 = (u0.toNat : Int)) (h1 : x / 65536 % 256 = (u1.toNat : Int)) (h2 : x / 256 % 256 = (u2.toNat : Int)) (h3 : x % 256 = (u3.toNat : Int)) : wb x = [u0, u1, u2, u3] := by
  obtain ⟨a, b⟩ := hx
  have e0 : UInt8.ofNat (x.toNat / 16777216 % 256) = u0 := u8_eq (by rw [ofNat_lt (by omega)]; omega)
  have e1 : UInt8.ofNat (x.toNat / 65536 % 256) = u1 := u8_eq (by rw [ofNat_lt (by omega)]; omega)
  have e2 : UInt8.ofNat (x.toNat / 256 % 256) = u2 := u8_eq (by rw [ofNat_lt (by omega)]; omega)
  have e3 : UInt8.ofNat (x.toNat % 256) = u3 := u8_eq (by rw [ofNat_lt (by omega)]; omega)
  unfold wb
  rw [e0, e1, e2, e3]
theorem shaR_length (l : List UInt8) : (shaR l).length = 20 := by simp [shaR, sumB, wb]

/-- The load of a Sum, under a name of its own. -/
def veilS (p : Value) : Sem Value := Instr.loadAt 314 p
theorem veilS_eq (p : Value) : Instr.loadAt 314 p = veilS p := rfl
theorem sc_one (s : St) (pc : List UInt8) (n : Nat) : ∀ v ∈ sc s pc n, v.oneCell' = true := by
  intro v hv
  unfold sc at hv
  rcases List.mem_append.1 hv with h | h
  · exact wv_one _ v h
  · rcases List.mem_append.1 h with h | h
    · exact bv_one _ v h
    · simp at h; subst h; rfl

attribute [local go_sem ↓] veilS_eq
set_option maxRecDepth 100000 in
set_option maxHeartbeats 2000000 in
theorem Done_any (b : Nat) (l : List UInt8) (hl : l.length ≤ 562949953421312) (w : World) (h : SumOf w b l) :
    Calls Tryz.prog 222 #[.pointer (some ⟨b, 0, none⟩)] w fun e w' => e = .returned (.string (str (shaR l))) ∧ Below w.heap.size w w' := by
  have HSm : Hid (SumOf w b l) := h
  obtain ⟨pc, hp, ht, hb⟩ := h
  have HBk : Hid (Blk w b (sc (runS h0 l) pc l.length)) := hb
  have hz := zeroS
  have hzl : zsum.length = 70 := rfl
  have HL : Hid ((sc (runS h0 l) pc l.length).length = 70) := sc_length _ _ _ hp
  have HO : Hid ((sc (runS h0 l) pc l.length).toArray.all (·.oneCell') = true) := all_oneCell_toArray (sc_one _ _ _)
  have cN : w.cell? ⟨b, 69, none⟩ = some (.int .i64 (l.length : Int)) := HBk.out.cell 69 _ (sc_get69 _ _ _ hp)
  have HCp : Hid (∀ t, SumOf ((w.alloc (.cells zsum.toArray t)).setCells w.heap.size 0 (sc (runS h0 l) pc l.length)) w.heap.size l ∧ Below w.heap.size w ((w.alloc (.cells zsum.toArray t)).setCells w.heap.size 0 (sc (runS h0 l) pc l.length)) ∧ ((w.alloc (.cells zsum.toArray t)).setCells w.heap.size 0 (sc (runS h0 l) pc l.length)).cell? ⟨b, 69, none⟩ = some (.int .i64 (l.length : Int)) ∧ w.heap.size < ((w.alloc (.cells zsum.toArray t)).setCells w.heap.size 0 (sc (runS h0 l) pc l.length)).heap.size) := fun t => by
    have hbl := HBk.out.lt
    have k1 : Blk ((w.alloc (.cells zsum.toArray t)).setCells w.heap.size 0 (sc (runS h0 l) pc l.length)) w.heap.size (sc (runS h0 l) pc l.length) := (Blk.new w zsum t).whole (by rw [HL.out]; rfl)
    have k2 : Blk ((w.alloc (.cells zsum.toArray t)).setCells w.heap.size 0 (sc (runS h0 l) pc l.length)) b (sc (runS h0 l) pc l.length) := (HBk.out.alloc _).setCellsOther (by omega)
    exact ⟨⟨pc, hp, ht, k1⟩, bel_setCells ((Below.refl _ w).alloc (Nat.le_refl _) _) (Nat.le_refl _) _ _, k2.cell 69 _ (sc_get69 _ _ _ hp), k1.lt⟩
  have HTh : Hid (∀ t, (w.alloc (.cells zsum.toArray t)).there w.heap.size 0 (sc (runS h0 l) pc l.length).toArray.size) := fun t => (Blk.new w zsum t).there _ (by rw [List.size_toArray, HL.out]; exact Nat.le_of_eq rfl)
  have HI : Hid ((Tryz.prog.info? 314).map (·.size) = some (sc (runS h0 l) pc l.length).toArray.size) := (by rw [List.size_toArray, HL.out]; exact sizeS : (Tryz.prog.info? 314).map (·.size) = some (sc (runS h0 l) pc l.length).toArray.size)
  have hld : (veilS (.pointer (some ⟨b, 0, none⟩))).run Tryz.prog w = .ok (.agg (sc (runS h0 l) pc l.length).toArray) w := run_loadAt_mid _ b 0 314 _ _ HBk.out.range Tryz.underlying314 rfl (by rw [HL.out]; exact sizeS)
  clear hb ht hp HBk
  generalize sc (runS h0 l) pc l.length = cs at *
  generalize zsum = zv at *
  obtain ⟨hSc, hBc, cNc, hltc⟩ := HCp.out 314
  generalize hWc : (w.alloc (.cells zv.toArray 314)).setCells w.heap.size 0 cs = Wc at *
  have HWc : Hid ((w.alloc (.cells zv.toArray 314)).setCells w.heap.size 0 cs.toArray.toList = Wc) := hWc
  have HSc : Hid (SumOf Wc w.heap.size l) := hSc
  have HBc : Hid (Below w.heap.size w Wc) := hBc
  clear hWc hSc hBc HCp
  go_enter Tryz.func222, Tryz.ntmps222
  go_wp2_with (first | (refine wpList_store_mid rfl 314 (.tmp 3) (.tmp 9) rfl w.heap.size 0 cs.toArray rfl rfl (HTh.out _) HI.out HO.out ?_; rw [HWc.out]) | fail)
  refine (filling_any l.length (by omega) Wc).mono ?_
  rintro e w2 ⟨rfl, hb2⟩
  have HS2 : Hid (SumOf w2 w.heap.size l) := HSc.out.below hb2
  have HB2 : Hid (Below w.heap.size w w2) := HBc.out.trans (hb2.mono HBc.out.size)
  have HPl : Hid (l.length + (pad l.length).length ≤ 1125899906842624) := (by rw [pad_length]; omega : l.length + (pad l.length).length ≤ 1125899906842624)
  clear hb2
  have HR : Hid (shaR l = sumB (runS h0 (l ++ pad l.length))) := rfl
  generalize pad l.length = pd at *
  go_wp2_with fail
  refine (Write_any w.heap.size l pd HPl.out w2 HS2.out).mono ?_
  rintro e w3 ⟨rfl, hS3, hb3⟩
  have HB3 : Hid (Below w.heap.size w w3) := HB2.out.trans (hb3.below HB2.out.size (by simp))
  obtain ⟨pc3, hp3, _, hk3⟩ := hS3
  obtain ⟨oka, okb, okc, okd, oke⟩ := runS_ok h0 h0_ok (l ++ pd)
  generalize runS h0 (l ++ pd) = s1 at *
  have HK3 : Hid (Blk w3 w.heap.size (sc s1 pc3 (l ++ pd).length)) := hk3
  clear hk3 hb3 HS2 HB2
  have hlt3 := HK3.out.lt
  have ca : (w3.alloc (.cells (madeCells #[.int .u8 0] 20) 5)).cell? ⟨w.heap.size, 0, none⟩ = some (.int .u32 s1.a) := (HK3.out.alloc _).cell 0 _ rfl
  have cb : (w3.alloc (.cells (madeCells #[.int .u8 0] 20) 5)).cell? ⟨w.heap.size, 1, none⟩ = some (.int .u32 s1.b) := (HK3.out.alloc _).cell 1 _ rfl
  have cc : (w3.alloc (.cells (madeCells #[.int .u8 0] 20) 5)).cell? ⟨w.heap.size, 2, none⟩ = some (.int .u32 s1.c) := (HK3.out.alloc _).cell 2 _ rfl
  have cd : (w3.alloc (.cells (madeCells #[.int .u8 0] 20) 5)).cell? ⟨w.heap.size, 3, none⟩ = some (.int .u32 s1.d) := (HK3.out.alloc _).cell 3 _ rfl
  have ce : (w3.alloc (.cells (madeCells #[.int .u8 0] 20) 5)).cell? ⟨w.heap.size, 4, none⟩ = some (.int .u32 s1.e) := (HK3.out.alloc _).cell 4 _ rfl
  have hmk := run_mk0 w3 20 (by omega) (by omega)
  have HOw : Hid (Own w.heap.size (.slice (some ⟨w3.heap.size, 0, none⟩) 0 20) [] (w3.alloc (.cells (madeCells #[.int .u8 0] 20) 5))) := by
    have := own_made w3 20 (by omega) (madeCells #[.int .u8 0] 20) (size_madeCells _ _)
    exact ⟨this.1, by
      rcases this.2 with h | ⟨g, cap, cur, e, hb, r⟩
      · exact .inl h
      · exact .inr ⟨g, cap, cur, e, by omega, r⟩⟩
  have HB4 : Hid (Below w.heap.size w (w3.alloc (.cells (madeCells #[.int .u8 0] 20) 5))) := HB3.out.alloc HB3.out.size _
  simp only [show (20 : Int).toNat = 20 from rfl] at hmk
  generalize w3.alloc (.cells (madeCells #[.int .u8 0] 20) 5) = W4 at *
  go_wp2
  go_loopw [4, 19] (fun v i wr => ∃ k : Nat, k ≤ 5 ∧ i = .int .i64 k ∧ Hid (Own w.heap.size v ((sumB s1).take (4 * k)) wr) ∧ Hid (Below w.heap.size w wr)) (fun _ i _ => 5 - (intOf i).toNat)
  case atStart => exact ⟨0, by omega, rfl, HOw.out, HB4.out⟩
  case round =>
    obtain ⟨k, hk5, rfl, HV, HB⟩ := hrel
    clear HOw HB4 ca cb cc cd ce hmk
    have hsz := HB.out.size
    by_cases hk9 : k < 5
    · rcases (show k = 0 ∨ k = 1 ∨ k = 2 ∨ k = 3 ∨ k = 4 by omega) with rfl | rfl | rfl | rfl | rfl
      · have hix : ∀ X : World, (Instr.index 311 (.agg #[.int .u32 s1.a, .int .u32 s1.b, .int .u32 s1.c, .int .u32 s1.d, .int .u32 s1.e]) (.int .i64 0)).run Tryz.prog X = .ok (.int .u32 s1.a) X := run_index_arr 311 262 5 .u32 Tryz.underlying311 Tryz.underlying262 sizeW [.int .u32 s1.a, .int .u32 s1.b, .int .u32 s1.c, .int .u32 s1.d, .int .u32 s1.e] 0 (by omega) (.int .u32 s1.a) rfl
        have HWk : Hid (∀ u0 u1 u2 u3 : UInt8, s1.a / 16777216 = (u0.toNat : Int) → s1.a / 65536 % 256 = (u1.toNat : Int) → s1.a / 256 % 256 = (u2.toNat : Int) → s1.a % 256 = (u3.toNat : Int) → wb s1.a = [u0, u1, u2, u3]) := fun u0 u1 u2 u3 h0 h1 h2 h3 => wb_eq _ oka u0 u1 u2 u3 h0 h1 h2 h3
        obtain ⟨e0, e1⟩ := oka
        obtain ⟨u0, hu0⟩ : ∃ u : UInt8, s1.a / 16777216 = (u.toNat : Int) := ⟨UInt8.ofNat (s1.a / 16777216).toNat, by rw [ofNat_lt (by omega)]; omega⟩
        obtain ⟨u1, hu1⟩ : ∃ u : UInt8, s1.a / 65536 % 256 = (u.toNat : Int) := ⟨UInt8.ofNat (s1.a / 65536 % 256).toNat, by rw [ofNat_lt (by omega)]; omega⟩
        obtain ⟨u2, hu2⟩ : ∃ u : UInt8, s1.a / 256 % 256 = (u.toNat : Int) := ⟨UInt8.ofNat (s1.a / 256 % 256).toNat, by rw [ofNat_lt (by omega)]; omega⟩
        obtain ⟨u3, hu3⟩ : ∃ u : UInt8, s1.a % 256 = (u.toNat : Int) := ⟨UInt8.ofNat (s1.a % 256).toNat, by rw [ofNat_lt (by omega)]; omega⟩
        have HWw : Hid (wb s1.a = [u0, u1, u2, u3]) := HWk.out u0 u1 u2 u3 hu0 hu1 hu2 hu3
        clear HWk
        go_wp2_with (at_builtin; go_must (refine wp_app rfl (.tmp 22) (.tmp 34) rfl w.heap.size _ ((sumB s1).take (4 * 0)) [u0, u1, u2, u3] _ _ (by simp [bv, hu0, hu1, hu2, hu3]) rfl HV.out rfl (by rw [List.length_take]; simp only [List.length_cons, List.length_nil]; omega) hsz ?_))
        intro v' w' ho hb
        go_wp2
        go_roundw
        case rel => exact ⟨0 + 1, by omega, by go_num, (by rw [show (sumB s1).take (4 * (0 + 1)) = (sumB s1).take (4 * 0) ++ wb s1.a from rfl, HWw.out]; exact ho.out : Own w.heap.size v' ((sumB s1).take (4 * (0 + 1))) w'), (HB.out.trans hb.out)⟩
        case measure => simp [intOf]
      · have hix : ∀ X : World, (Instr.index 311 (.agg #[.int .u32 s1.a, .int .u32 s1.b, .int .u32 s1.c, .int .u32 s1.d, .int .u32 s1.e]) (.int .i64 1)).run Tryz.prog X = .ok (.int .u32 s1.b) X := run_index_arr 311 262 5 .u32 Tryz.underlying311 Tryz.underlying262 sizeW [.int .u32 s1.a, .int .u32 s1.b, .int .u32 s1.c, .int .u32 s1.d, .int .u32 s1.e] 1 (by omega) (.int .u32 s1.b) rfl
        have HWk : Hid (∀ u0 u1 u2 u3 : UInt8, s1.b / 16777216 = (u0.toNat : Int) → s1.b / 65536 % 256 = (u1.toNat : Int) → s1.b / 256 % 256 = (u2.toNat : Int) → s1.b % 256 = (u3.toNat : Int) → wb s1.b = [u0, u1, u2, u3]) := fun u0 u1 u2 u3 h0 h1 h2 h3 => wb_eq _ okb u0 u1 u2 u3 h0 h1 h2 h3
        obtain ⟨e0, e1⟩ := okb
        obtain ⟨u0, hu0⟩ : ∃ u : UInt8, s1.b / 16777216 = (u.toNat : Int) := ⟨UInt8.ofNat (s1.b / 16777216).toNat, by rw [ofNat_lt (by omega)]; omega⟩
        obtain ⟨u1, hu1⟩ : ∃ u : UInt8, s1.b / 65536 % 256 = (u.toNat : Int) := ⟨UInt8.ofNat (s1.b / 65536 % 256).toNat, by rw [ofNat_lt (by omega)]; omega⟩
        obtain ⟨u2, hu2⟩ : ∃ u : UInt8, s1.b / 256 % 256 = (u.toNat : Int) := ⟨UInt8.ofNat (s1.b / 256 % 256).toNat, by rw [ofNat_lt (by omega)]; omega⟩
        obtain ⟨u3, hu3⟩ : ∃ u : UInt8, s1.b % 256 = (u.toNat : Int) := ⟨UInt8.ofNat (s1.b % 256).toNat, by rw [ofNat_lt (by omega)]; omega⟩
        have HWw : Hid (wb s1.b = [u0, u1, u2, u3]) := HWk.out u0 u1 u2 u3 hu0 hu1 hu2 hu3
        clear HWk
        go_wp2_with (at_builtin; go_must (refine wp_app rfl (.tmp 22) (.tmp 34) rfl w.heap.size _ ((sumB s1).take (4 * 1)) [u0, u1, u2, u3] _ _ (by simp [bv, hu0, hu1, hu2, hu3]) rfl HV.out rfl (by rw [List.length_take]; simp only [List.length_cons, List.length_nil]; omega) hsz ?_))
        intro v' w' ho hb
        go_wp2
        go_roundw
        case rel => exact ⟨1 + 1, by omega, by go_num, (by rw [show (sumB s1).take (4 * (1 + 1)) = (sumB s1).take (4 * 1) ++ wb s1.b from rfl, HWw.out]; exact ho.out : Own w.heap.size v' ((sumB s1).take (4 * (1 + 1))) w'), (HB.out.trans hb.out)⟩
        case measure => simp [intOf]
      · have hix : ∀ X : World, (Instr.index 311 (.agg #[.int .u32 s1.a, .int .u32 s1.b, .int .u32 s1.c, .int .u32 s1.d, .int .u32 s1.e]) (.int .i64 2)).run Tryz.prog X = .ok (.int .u32 s1.c) X := run_index_arr 311 262 5 .u32 Tryz.underlying311 Tryz.underlying262 sizeW [.int .u32 s1.a, .int .u32 s1.b, .int .u32 s1.c, .int .u32 s1.d, .int .u32 s1.e] 2 (by omega) (.int .u32 s1.c) rfl
        have HWk : Hid (∀ u0 u1 u2 u3 : UInt8, s1.c / 16777216 = (u0.toNat : Int) → s1.c / 65536 % 256 = (u1.toNat : Int) → s1.c / 256 % 256 = (u2.toNat : Int) → s1.c % 256 = (u3.toNat : Int) → wb s1.c = [u0, u1, u2, u3]) := fun u0 u1 u2 u3 h0 h1 h2 h3 => wb_eq _ okc u0 u1 u2 u3 h0 h1 h2 h3
        obtain ⟨e0, e1⟩ := okc
        obtain ⟨u0, hu0⟩ : ∃ u : UInt8, s1.c / 16777216 = (u.toNat : Int) := ⟨UInt8.ofNat (s1.c / 16777216).toNat, by rw [ofNat_lt (by omega)]; omega⟩
        obtain ⟨u1, hu1⟩ : ∃ u : UInt8, s1.c / 65536 % 256 = (u.toNat : Int) := ⟨UInt8.ofNat (s1.c / 65536 % 256).toNat, by rw [ofNat_lt (by omega)]; omega⟩
        obtain ⟨u2, hu2⟩ : ∃ u : UInt8, s1.c / 256 % 256 = (u.toNat : Int) := ⟨UInt8.ofNat (s1.c / 256 % 256).toNat, by rw [ofNat_lt (by omega)]; omega⟩
        obtain ⟨u3, hu3⟩ : ∃ u : UInt8, s1.c % 256 = (u.toNat : Int) := ⟨UInt8.ofNat (s1.c % 256).toNat, by rw [ofNat_lt (by omega)]; omega⟩
        have HWw : Hid (wb s1.c = [u0, u1, u2, u3]) := HWk.out u0 u1 u2 u3 hu0 hu1 hu2 hu3
        clear HWk
        go_wp2_with (at_builtin; go_must (refine wp_app rfl (.tmp 22) (.tmp 34) rfl w.heap.size _ ((sumB s1).take (4 * 2)) [u0, u1, u2, u3] _ _ (by simp [bv, hu0, hu1, hu2, hu3]) rfl HV.out rfl (by rw [List.length_take]; simp only [List.length_cons, List.length_nil]; omega) hsz ?_))
        intro v' w' ho hb
        go_wp2
        go_roundw
        case rel => exact ⟨2 + 1, by omega, by go_num, (by rw [show (sumB s1).take (4 * (2 + 1)) = (sumB s1).take (4 * 2) ++ wb s1.c from rfl, HWw.out]; exact ho.out : Own w.heap.size v' ((sumB s1).take (4 * (2 + 1))) w'), (HB.out.trans hb.out)⟩
        case measure => simp [intOf]
      · have hix : ∀ X : World, (Instr.index 311 (.agg #[.int .u32 s1.a, .int .u32 s1.b, .int .u32 s1.c, .int .u32 s1.d, .int .u32 s1.e]) (.int .i64 3)).run Tryz.prog X = .ok (.int .u32 s1.d) X := run_index_arr 311 262 5 .u32 Tryz.underlying311 Tryz.underlying262 sizeW [.int .u32 s1.a, .int .u32 s1.b, .int .u32 s1.c, .int .u32 s1.d, .int .u32 s1.e] 3 (by omega) (.int .u32 s1.d) rfl
        have HWk : Hid (∀ u0 u1 u2 u3 : UInt8, s1.d / 16777216 = (u0.toNat : Int) → s1.d / 65536 % 256 = (u1.toNat : Int) → s1.d / 256 % 256 = (u2.toNat : Int) → s1.d % 256 = (u3.toNat : Int) → wb s1.d = [u0, u1, u2, u3]) := fun u0 u1 u2 u3 h0 h1 h2 h3 => wb_eq _ okd u0 u1 u2 u3 h0 h1 h2 h3
        obtain ⟨e0, e1⟩ := okd
        obtain ⟨u0, hu0⟩ : ∃ u : UInt8, s1.d / 16777216 = (u.toNat : Int) := ⟨UInt8.ofNat (s1.d / 16777216).toNat, by rw [ofNat_lt (by omega)]; omega⟩
        obtain ⟨u1, hu1⟩ : ∃ u : UInt8, s1.d / 65536 % 256 = (u.toNat : Int) := ⟨UInt8.ofNat (s1.d / 65536 % 256).toNat, by rw [ofNat_lt (by omega)]; omega⟩
        obtain ⟨u2, hu2⟩ : ∃ u : UInt8, s1.d / 256 % 256 = (u.toNat : Int) := ⟨UInt8.ofNat (s1.d / 256 % 256).toNat, by rw [ofNat_lt (by omega)]; omega⟩
        obtain ⟨u3, hu3⟩ : ∃ u : UInt8, s1.d % 256 = (u.toNat : Int) := ⟨UInt8.ofNat (s1.d % 256).toNat, by rw [ofNat_lt (by omega)]; omega⟩
        have HWw : Hid (wb s1.d = [u0, u1, u2, u3]) := HWk.out u0 u1 u2 u3 hu0 hu1 hu2 hu3
        clear HWk
        go_wp2_with (at_builtin; go_must (refine wp_app rfl (.tmp 22) (.tmp 34) rfl w.heap.size _ ((sumB s1).take (4 * 3)) [u0, u1, u2, u3] _ _ (by simp [bv, hu0, hu1, hu2, hu3]) rfl HV.out rfl (by rw [List.length_take]; simp only [List.length_cons, List.length_nil]; omega) hsz ?_))
        intro v' w' ho hb
        go_wp2
        go_roundw
        case rel => exact ⟨3 + 1, by omega, by go_num, (by rw [show (sumB s1).take (4 * (3 + 1)) = (sumB s1).take (4 * 3) ++ wb s1.d from rfl, HWw.out]; exact ho.out : Own w.heap.size v' ((sumB s1).take (4 * (3 + 1))) w'), (HB.out.trans hb.out)⟩
        case measure => simp [intOf]
      · have hix : ∀ X : World, (Instr.index 311 (.agg #[.int .u32 s1.a, .int .u32 s1.b, .int .u32 s1.c, .int .u32 s1.d, .int .u32 s1.e]) (.int .i64 4)).run Tryz.prog X = .ok (.int .u32 s1.e) X := run_index_arr 311 262 5 .u32 Tryz.underlying311 Tryz.underlying262 sizeW [.int .u32 s1.a, .int .u32 s1.b, .int .u32 s1.c, .int .u32 s1.d, .int .u32 s1.e] 4 (by omega) (.int .u32 s1.e) rfl
        have HWk : Hid (∀ u0 u1 u2 u3 : UInt8, s1.e / 16777216 = (u0.toNat : Int) → s1.e / 65536 % 256 = (u1.toNat : Int) → s1.e / 256 % 256 = (u2.toNat : Int) → s1.e % 256 = (u3.toNat : Int) → wb s1.e = [u0, u1, u2, u3]) := fun u0 u1 u2 u3 h0 h1 h2 h3 => wb_eq _ oke u0 u1 u2 u3 h0 h1 h2 h3
        obtain ⟨e0, e1⟩ := oke
        obtain ⟨u0, hu0⟩ : ∃ u : UInt8, s1.e / 16777216 = (u.toNat : Int) := ⟨UInt8.ofNat (s1.e / 16777216).toNat, by rw [ofNat_lt (by omega)]; omega⟩
        obtain ⟨u1, hu1⟩ : ∃ u : UInt8, s1.e / 65536 % 256 = (u.toNat : Int) := ⟨UInt8.ofNat (s1.e / 65536 % 256).toNat, by rw [ofNat_lt (by omega)]; omega⟩
        obtain ⟨u2, hu2⟩ : ∃ u : UInt8, s1.e / 256 % 256 = (u.toNat : Int) := ⟨UInt8.ofNat (s1.e / 256 % 256).toNat, by rw [ofNat_lt (by omega)]; omega⟩
        obtain ⟨u3, hu3⟩ : ∃ u : UInt8, s1.e % 256 = (u.toNat : Int) := ⟨UInt8.ofNat (s1.e % 256).toNat, by rw [ofNat_lt (by omega)]; omega⟩
        have HWw : Hid (wb s1.e = [u0, u1, u2, u3]) := HWk.out u0 u1 u2 u3 hu0 hu1 hu2 hu3
        clear HWk
        go_wp2_with (at_builtin; go_must (refine wp_app rfl (.tmp 22) (.tmp 34) rfl w.heap.size _ ((sumB s1).take (4 * 4)) [u0, u1, u2, u3] _ _ (by simp [bv, hu0, hu1, hu2, hu3]) rfl HV.out rfl (by rw [List.length_take]; simp only [List.length_cons, List.length_nil]; omega) hsz ?_))
        intro v' w' ho hb
        go_wp2
        go_roundw
        case rel => exact ⟨4 + 1, by omega, by go_num, (by rw [show (sumB s1).take (4 * (4 + 1)) = (sumB s1).take (4 * 4) ++ wb s1.e from rfl, HWw.out]; exact ho.out : Own w.heap.size v' ((sumB s1).take (4 * (4 + 1))) w'), (HB.out.trans hb.out)⟩
        case measure => simp [intOf]
    · obtain rfl : k = 5 := by omega
      have hbk := back wr _ _ HV.out.rd
      rw [show (sumB s1).take (4 * 5) = sumB s1 from rfl, ← HR.out] at hbk
      go_wp2
      go_ret
      exact ⟨rfl, HB.out⟩

set_option maxRecDepth 100000 in
set_option maxHeartbeats 1000000 in
theorem Sha1_any (l : List UInt8) (hl : l.length ≤ 562949953421312) (w : World) : Calls Tryz.prog 164 #[.string (str l)] w fun e w' => e = .returned (.string (str (shaR l))) ∧ Below w.heap.size w w' := by
  go_enter Tryz.func164, Tryz.ntmps164
  go_wp2_with fail
  refine (New_any w).mono ?_
  rintro e w2 ⟨rfl, hS2, hb2⟩
  go_wp2_with fail
  refine (Write_any w.heap.size [] l (by simp; omega) w2 hS2).mono ?_
  rintro e w3 ⟨rfl, hS3, hb3⟩
  rw [List.nil_append] at hS3
  have HB3 : Hid (Below w.heap.size w w3) := hb2.trans (hb3.below hb2.size (by simp))
  clear hb2 hb3 hS2
  go_wp2_with fail
  refine (Done_any w.heap.size l hl w3 hS3).mono ?_
  rintro e w4 ⟨rfl, hb4⟩
  go_wp2
  go_ret
  exact ⟨rfl, bel_trans' HB3.out hb4⟩

end Bs
end Go.Proofs.YtlfobdjbnpgchaaGreatDoor

/-
  base.fits: whether a byte may stand where it stands.
-/
set_option linter.unusedVariables false
set_option linter.unusedSimpArgs false
namespace Go.Proofs.YtlfobdjbnpgchaaGreatDoor
open Go.RowKit
namespace Bs

theorem and15 (c : UInt8) : bits .and .i64 (num c) 15 = num c % 16 := by
  revert c
  apply all_bytes
  decide +kernel
theorem and3 (c : UInt8) : bits .and .i64 (num c) 3 = num c % 4 := by
  revert c
  apply all_bytes
  decide +kernel
theorem ne61 {c : UInt8} (h : c ≠ 61) : ((c.toNat : Int) == 61) = false := by
  simp only [beq_eq_false_iff_ne, ne_eq]
  intro e
  exact h (u8_eq (by show _ = 61; omega))
theorem nne61 {c : UInt8} (h : c ≠ 61) : ((c.toNat : Int) != 61) = true := by rw [bne, ne61 h]; rfl

set_option maxRecDepth 100000 in
set_option maxHeartbeats 1000000 in
theorem fits_any (l : List UInt8) (i : Nat) (hi : i < l.length) (hl : l.length ≤ 140737488355328) (w : World) :
    Calls Tryz.prog 217 #[.string (str l), .int .i64 (i : Int)] w fun e w' => e = .returned (.bool (fitB l i)) ∧ w' = w := by
  have hs : (str l).size = l.length := str_size l
  have hbi : ∀ (h : i < (str l).size), ((str l)[i]'h) = l.getD i 0 := fun h => by rw [← at_lt _ i h, str_list]
  have hbp : ∀ (h : i - 1 < (str l).size), ((str l)[i - 1]'h) = l.getD (i - 1) 0 := fun h => by rw [← at_lt _ (i - 1) h, str_list]
  have HF : Hid (fitB l i = (if 0 < i ∧ l.getD (i - 1) 0 = 61 then decide (l.getD i 0 = 61) && decide (i % 4 = 3)
  else if l.getD i 0 ≠ 61 then decide (0 ≤ num (l.getD i 0))
  else if i % 4 = 2 then decide (num (l.getD (i - 1) 0) % 16 = 0)
  else if i % 4 = 3 then decide (num (l.getD (i - 1) 0) % 4 = 0)
  else false)) := rfl
  generalize l.getD i 0 = c at *
  generalize l.getD (i - 1) 0 = p at *
  have hm : ((i : Nat) : Int) % 4 = ((i % 4 : Nat) : Int) := by omega
  have hm4 : i % 4 < 4 := by omega
  by_cases h1 : 0 < i ∧ p = 61
  · obtain ⟨h1, rfl⟩ := h1
    by_cases hc : c = 61
    · subst hc
      have HV : Hid (fitB l i = decide (i % 4 = 3)) := (by rw [HF.out, if_pos ⟨h1, rfl⟩]; simp : fitB l i = decide (i % 4 = 3))
      clear HF
      generalize i % 4 = m at *
      by_cases hm3 : m = 3
      · subst hm3
        go_enter Tryz.func217, Tryz.ntmps217
        go_wp2
        go_ret
        exact ⟨by rw [HV.out]; rfl, rfl⟩
      · have hm3' : ((m : Int) == 3) = false := by simp; omega
        go_enter Tryz.func217, Tryz.ntmps217
        go_wp2
        go_ret
        exact ⟨by rw [HV.out]; simp [hm3], rfl⟩
    · have HV : Hid (fitB l i = false) := (by rw [HF.out, if_pos ⟨h1, rfl⟩]; simp [hc] : fitB l i = false)
      clear HF
      have hce := ne61 hc
      generalize i % 4 = m at *
      go_enter Tryz.func217, Tryz.ntmps217
      go_wp2
      go_ret
      exact ⟨ret_bool HV.out.symm, rfl⟩
  · have HV1 := HF.out
    rw [if_neg h1] at HV1
    clear HF
    have hg : i = 0 ∨ (0 < i ∧ ((p.toNat : Int) == 61) = false) := by
      rcases Nat.eq_zero_or_pos i with h | h
      · exact .inl h
      · exact .inr ⟨h, ne61 (fun e => h1 ⟨h, e⟩)⟩
    by_cases hc : c = 61
    · rw [if_neg (by simp [hc])] at HV1
      subst hc
      have HV : Hid _ := HV1
      clear HV1
      have e15 := and15 p
      have e3 := and3 p
      have bd := num_bd p
      rcases (show i % 4 = 2 ∨ i % 4 = 3 ∨ i % 4 = 0 ∨ i % 4 = 1 by omega) with h | h | h | h
      · have HV' : Hid (fitB l i = decide (num p % 16 = 0)) := (by rw [HV.out, if_pos h] : fitB l i = decide (num p % 16 = 0))
        rcases hg with hg | ⟨hg, hp⟩
        · omega
        rw [h] at hm
        have dv : (num p % 16 == 0) = decide (num p % 16 = 0) := by rw [Bool.beq_eq_decide_eq]
        generalize num p % 16 = q at *
        go_enter Tryz.func217, Tryz.ntmps217
        go_wp2_with fail
        refine (number_any p w).mono ?_
        rintro e w2 ⟨rfl, rfl⟩
        go_wp2
        go_ret
        exact ⟨by rw [HV'.out]; simp [dv], rfl⟩
      · have HV' : Hid (fitB l i = decide (num p % 4 = 0)) := (by rw [HV.out, if_neg (by omega), if_pos h] : fitB l i = decide (num p % 4 = 0))
        rcases hg with hg | ⟨hg, hp⟩
        · omega
        rw [h] at hm
        have dv : (num p % 4 == 0) = decide (num p % 4 = 0) := by rw [Bool.beq_eq_decide_eq]
        generalize num p % 4 = q at *
        go_enter Tryz.func217, Tryz.ntmps217
        go_wp2_with fail
        refine (number_any p w).mono ?_
        rintro e w2 ⟨rfl, rfl⟩
        go_wp2
        go_ret
        exact ⟨by rw [HV'.out]; simp [dv], rfl⟩
      · have HV' : Hid (fitB l i = false) := (by rw [HV.out, if_neg (by omega), if_neg (by omega)] : fitB l i = false)
        rw [h] at hm
        rcases hg with hg | ⟨hg, hp⟩
        · subst hg
          clear hbp
          go_enter Tryz.func217, Tryz.ntmps217
          go_wp2
          go_ret
          exact ⟨ret_bool HV'.out.symm, rfl⟩
        · go_enter Tryz.func217, Tryz.ntmps217
          go_wp2
          go_ret
          exact ⟨ret_bool HV'.out.symm, rfl⟩
      · have HV' : Hid (fitB l i = false) := (by rw [HV.out, if_neg (by omega), if_neg (by omega)] : fitB l i = false)
        rw [h] at hm
        rcases hg with hg | ⟨hg, hp⟩
        · omega
        · go_enter Tryz.func217, Tryz.ntmps217
          go_wp2
          go_ret
          exact ⟨ret_bool HV'.out.symm, rfl⟩
    · have HV : Hid (fitB l i = decide (0 ≤ num c)) := (by rw [HV1, if_pos hc] : fitB l i = decide (0 ≤ num c))
      clear HV1
      have hce := ne61 hc
      have hcn := nne61 hc
      generalize i % 4 = m at *
      rcases hg with hg | ⟨hg, hp⟩
      · subst hg
        clear hbp
        go_enter Tryz.func217, Tryz.ntmps217
        go_wp2_with fail
        refine (number_any c w).mono ?_
        rintro e w2 ⟨rfl, rfl⟩
        generalize num c = q at *
        go_wp2
        go_ret
        exact ⟨ret_bool HV.out.symm, rfl⟩
      · go_enter Tryz.func217, Tryz.ntmps217
        go_wp2_with fail
        refine (number_any c w).mono ?_
        rintro e w2 ⟨rfl, rfl⟩
        generalize num c = q at *
        go_wp2
        go_ret
        exact ⟨ret_bool HV.out.symm, rfl⟩

end Bs
end Go.Proofs.YtlfobdjbnpgchaaGreatDoor

/-
  base.appendBytes, base.Decode.
-/
set_option linter.unusedVariables false
set_option linter.unusedSimpArgs false
namespace Go.Proofs.YtlfobdjbnpgchaaGreatDoor
open Go.RowKit
namespace Bs

def ac6 (g : List UInt8) (k : Nat) : Nat := (if 0 < k then nu (g.getD 0 0) * 262144 else 0) + (if 1 < k then nu (g.getD 1 0) * 4096 else 0) + (if 2 < k then nu (g.getD 2 0) * 64 else 0) + (if 3 < k then nu (g.getD 3 0) else 0)
theorem ac6_lt (g : List UInt8) (k : Nat) : ac6 g k < 16777216 := by
  unfold ac6
  have := nu_lt (g.getD 0 0)
  have := nu_lt (g.getD 1 0)
  have := nu_lt (g.getD 2 0)
  have := nu_lt (g.getD 3 0)
  (repeat' split) <;> omega
theorem ac6_0 (l : List UInt8) : bits .or .u32 ((ac6 l 0 : Nat) : Int) ((nu (l.getD 0 0) : Int) * 262144) = ((ac6 l 1 : Nat) : Int) := by
  have h := nu_lt (l.getD 0 0)
  have e := or_u32 (ac6 l 0) (nu (l.getD 0 0) * 262144) 24 (by unfold ac6; simp) (by omega) (by have := ac6_lt l 0; omega) (by omega)
  rw [Int.natCast_mul] at e
  refine Eq.trans e ?_
  unfold ac6
  simp
theorem ac6_1 (l : List UInt8) : bits .or .u32 ((ac6 l 1 : Nat) : Int) ((nu (l.getD 1 0) : Int) * 4096) = ((ac6 l 2 : Nat) : Int) := by
  have h := nu_lt (l.getD 1 0)
  have e := or_u32 (ac6 l 1) (nu (l.getD 1 0) * 4096) 18 (by unfold ac6; simp) (by omega) (by have := ac6_lt l 1; omega) (by omega)
  rw [Int.natCast_mul] at e
  refine Eq.trans e ?_
  unfold ac6
  simp
theorem ac6_2 (l : List UInt8) : bits .or .u32 ((ac6 l 2 : Nat) : Int) ((nu (l.getD 2 0) : Int) * 64) = ((ac6 l 3 : Nat) : Int) := by
  have h := nu_lt (l.getD 2 0)
  have e := or_u32 (ac6 l 2) (nu (l.getD 2 0) * 64) 12 (by unfold ac6; simp; omega) (by omega) (by have := ac6_lt l 2; omega) (by omega)
  rw [Int.natCast_mul] at e
  refine Eq.trans e ?_
  unfold ac6
  simp
theorem ac6_3 (l : List UInt8) : bits .or .u32 ((ac6 l 3 : Nat) : Int) (nu (l.getD 3 0) : Int) = ((ac6 l 4 : Nat) : Int) := by
  have h := nu_lt (l.getD 3 0)
  have e := or_u32 (ac6 l 3) (nu (l.getD 3 0)) 6 (by unfold ac6; simp; omega) (by omega) (by have := ac6_lt l 3; omega) (by omega)
  refine Eq.trans e ?_
  unfold ac6
  simp
/-- The bytes of two to four signs. -/
def byo (g : List UInt8) : List UInt8 := [UInt8.ofNat (ac6 g g.length / 65536 % 256), UInt8.ofNat (ac6 g g.length / 256 % 256), UInt8.ofNat (ac6 g g.length % 256)].take (g.length - 1)
/-- How many signs stand ahead of the '='. -/
def gl (c d : UInt8) : Nat := if c = 61 then 2 else if d = 61 then 3 else 4
theorem byo_g4 (a b c d : UInt8) : byo ([a, b, c, d].take (gl c d)) = g4 a b c d := by
  have := nu_lt a
  have := nu_lt b
  have := nu_lt c
  have := nu_lt d
  unfold gl g4
  by_cases hc : c = 61
  · rw [if_pos hc, if_pos hc]
    show [UInt8.ofNat (ac6 [a, b] 2 / 65536 % 256)] = [UInt8.ofNat (nu a * 4 + nu b / 16)]
    have e : ac6 [a, b] 2 / 65536 % 256 = nu a * 4 + nu b / 16 := by simp [ac6]; omega
    rw [e]
  · rw [if_neg hc, if_neg hc]
    by_cases hd : d = 61
    · rw [if_pos hd, if_pos hd]
      show [UInt8.ofNat (ac6 [a, b, c] 3 / 65536 % 256), UInt8.ofNat (ac6 [a, b, c] 3 / 256 % 256)] = [UInt8.ofNat (nu a * 4 + nu b / 16), UInt8.ofNat (nu b % 16 * 16 + nu c / 4)]
      have e : ac6 [a, b, c] 3 / 65536 % 256 = nu a * 4 + nu b / 16 := by simp [ac6]; omega
      have e2 : ac6 [a, b, c] 3 / 256 % 256 = nu b % 16 * 16 + nu c / 4 := by simp [ac6]; omega
      rw [e, e2]
    · rw [if_neg hd, if_neg hd]
      show [UInt8.ofNat (ac6 [a, b, c, d] 4 / 65536 % 256), UInt8.ofNat (ac6 [a, b, c, d] 4 / 256 % 256), UInt8.ofNat (ac6 [a, b, c, d] 4 % 256)] = [UInt8.ofNat (nu a * 4 + nu b / 16), UInt8.ofNat (nu b % 16 * 16 + nu c / 4), UInt8.ofNat (nu c % 4 * 64 + nu d)]
      have e : ac6 [a, b, c, d] 4 / 65536 % 256 = nu a * 4 + nu b / 16 := by simp [ac6]; omega
      have e2 : ac6 [a, b, c, d] 4 / 256 % 256 = nu b % 16 * 16 + nu c / 4 := by simp [ac6]; omega
      have e3 : ac6 [a, b, c, d] 4 % 256 = nu c % 4 * 64 + nu d := by simp [ac6]; omega
      rw [e, e2, e3]
theorem byo_take (g : List UInt8) (k : Nat) (h : k < g.length - 1) (h4 : g.length ≤ 4) : (byo g).take (k + 1) = (byo g).take k ++ [UInt8.ofNat (ac6 g g.length / 2 ^ (16 - 8 * k) % 256)] := by
  unfold byo
  rcases (show k = 0 ∧ (g.length = 2 ∨ g.length = 3 ∨ g.length = 4) ∨ k = 1 ∧ (g.length = 3 ∨ g.length = 4) ∨ k = 2 ∧ g.length = 4 by omega) with ⟨rfl, e | e | e⟩ | ⟨rfl, e | e⟩ | ⟨rfl, e⟩ <;> rw [e] <;> simp
theorem byo_len (g : List UInt8) (h4 : g.length ≤ 4) : (byo g).length = g.length - 1 := by
  unfold byo
  simp
  omega

set_option maxRecDepth 100000 in
set_option maxHeartbeats 1000000 in
theorem appendBytes_any (B : Nat) (v : Value) (t : List UInt8) (a b c d : UInt8) (F4 : Four a b c d) (w : World) (hown : Own B v t w) (hlen : t.length + 3 ≤ 140737488355328) (hB : B ≤ w.heap.size) :
    Calls Tryz.prog 218 #[v, .string (str [a, b, c, d])] w fun e w' => ∃ v', e = .returned v' ∧ Own B v' (t ++ g4 a b c d) w' ∧ Below B w w' := by
  have HO : Hid (Own B v t w) := hown
  clear hown
  have HT : Hid (Calls Tryz.prog 276 #[.string (str [a, b, c, d]), .string ⟨#[61]⟩] w fun e w' => e = .returned (.string (str ([a, b, c, d].take (gl c d)))) ∧ w' = w) := by
    have hb := num_ne F4.nb
    refine TrimRight_any [a, b, c, d] (gl c d) ?_ rfl ?_ ?_ w
    · unfold gl; split <;> (try split) <;> simp
    · intro j hj hl
      simp at hl
      unfold gl at hj
      by_cases hc : c = 61
      · rw [if_pos hc] at hj
        have hd : d = 61 := by
          rcases F4.hc with h | h | h
          · exact h.2.1
          · exact h.2.1
          · exact absurd hc (num_ne h.1)
        rcases (show j = 2 ∨ j = 3 by omega) with rfl | rfl
        · exact hc
        · exact hd
      · rw [if_neg hc] at hj
        by_cases hd : d = 61
        · rw [if_pos hd] at hj
          obtain rfl : j = 3 := by omega
          exact hd
        · rw [if_neg hd] at hj
          omega
    · right
      unfold gl
      by_cases hc : c = 61
      · rw [if_pos hc]; exact hb
      · rw [if_neg hc]
        by_cases hd : d = 61
        · rw [if_pos hd]; exact hc
        · rw [if_neg hd]; exact hd
  have HG : Hid (byo ([a, b, c, d].take (gl c d)) = g4 a b c d) := byo_g4 a b c d
  have hgl : ([a, b, c, d].take (gl c d)).length = gl c d ∧ 2 ≤ gl c d ∧ gl c d ≤ 4 := by
    unfold gl
    by_cases hc : c = 61
    · rw [if_pos hc]; simp
    · rw [if_neg hc]
      by_cases hd : d = 61
      · rw [if_pos hd]; simp
      · rw [if_neg hd]; simp
  have HN : Hid (∀ j, j < ([a, b, c, d].take (gl c d)).length → num (([a, b, c, d].take (gl c d)).getD j 0) = (nu (([a, b, c, d].take (gl c d)).getD j 0) : Int)) := by
    intro j hj
    rw [hgl.1] at hj
    refine (nu_int ?_).symm
    rw [List.getD_eq_getElem?_getD, List.getElem?_take, if_pos hj, ← List.getD_eq_getElem?_getD]
    have hj4 : j < 4 := by omega
    unfold gl at hj
    rcases (show j = 0 ∨ j = 1 ∨ j = 2 ∨ j = 3 by omega) with rfl | rfl | rfl | rfl
    · exact F4.na
    · exact F4.nb
    · rcases F4.hc with h | h | h
      · rw [if_pos h.1] at hj; omega
      · exact h.1
      · exact h.1
    · rcases F4.hc with h | h | h
      · rw [if_pos h.1] at hj; omega
      · rw [if_neg (num_ne h.1), if_pos h.2.1] at hj; omega
      · exact h.2
  obtain ⟨g2, g3, g5⟩ := hgl
  rw [← g2] at g3 g5
  clear F4 g2
  go_enter Tryz.func218, Tryz.ntmps218
  go_wp2_with fail
  refine HT.out.mono ?_
  clear HT
  rintro e w' ⟨rfl, hww⟩
  rw [hww]
  clear hww w'
  generalize [a, b, c, d].take (gl c d) = g at *
  have hs : (str g).size = g.length := str_size g
  have hby : ∀ (k : Nat) (h : k < (str g).size), ((str g)[k]'h) = g.getD k 0 := fun k h => by rw [← at_lt _ k h, str_list]
  go_wp2
  go_loop [5, 12] (fun b i => ∃ k : Nat, k ≤ g.length ∧ i = .int .i64 k ∧ b = .int .u32 ((ac6 g k : Nat) : Int)) (fun _ i => g.length - (intOf i).toNat)
  case atStart => exact ⟨0, by omega, rfl, rfl⟩
  case round =>
    obtain ⟨k, hk, rfl, rfl⟩ := hrel
    by_cases hlt : k < g.length
    · have HA : Hid (bits .or .u32 ((ac6 g 0 : Nat) : Int) ((nu (g.getD 0 0) : Int) * 262144) = ((ac6 g 1 : Nat) : Int) ∧ bits .or .u32 ((ac6 g 1 : Nat) : Int) ((nu (g.getD 1 0) : Int) * 4096) = ((ac6 g 2 : Nat) : Int) ∧ bits .or .u32 ((ac6 g 2 : Nat) : Int) ((nu (g.getD 2 0) : Int) * 64) = ((ac6 g 3 : Nat) : Int) ∧ bits .or .u32 ((ac6 g 3 : Nat) : Int) (nu (g.getD 3 0) : Int) = ((ac6 g 4 : Nat) : Int)) := ⟨ac6_0 g, ac6_1 g, ac6_2 g, ac6_3 g⟩
      have HNk : Hid (num (g.getD k 0) = (nu (g.getD k 0) : Int)) := HN.out k hlt
      have hu := nu_lt (g.getD k 0)
      have hal := ac6_lt g k
      have hbk := hby k
      clear hby
      rcases (show k = 0 ∨ k = 1 ∨ k = 2 ∨ k = 3 by omega) with rfl | rfl | rfl | rfl
      · generalize g.getD 0 0 = u at *
        generalize ac6 g 0 = A0 at *
        go_wp2_with fail
        refine (number_any u _).mono ?_
        rintro e w2 ⟨rfl, rfl⟩
        rw [HNk.out]
        generalize nu u = q at *
        go_wp2
        exact ⟨⟨1, by omega, rfl, by rw [HA.out.1]⟩, by simp [intOf]; omega⟩
      · generalize g.getD 1 0 = u at *
        generalize ac6 g 1 = A0 at *
        go_wp2_with fail
        refine (number_any u _).mono ?_
        rintro e w2 ⟨rfl, rfl⟩
        rw [HNk.out]
        generalize nu u = q at *
        go_wp2
        exact ⟨⟨2, by omega, rfl, by rw [HA.out.2.1]⟩, by simp [intOf]; omega⟩
      · generalize g.getD 2 0 = u at *
        generalize ac6 g 2 = A0 at *
        go_wp2_with fail
        refine (number_any u _).mono ?_
        rintro e w2 ⟨rfl, rfl⟩
        rw [HNk.out]
        generalize nu u = q at *
        go_wp2
        exact ⟨⟨3, by omega, rfl, by rw [HA.out.2.2.1]⟩, by simp [intOf]; omega⟩
      · generalize g.getD 3 0 = u at *
        generalize ac6 g 3 = A0 at *
        go_wp2_with fail
        refine (number_any u _).mono ?_
        rintro e w2 ⟨rfl, rfl⟩
        rw [HNk.out]
        generalize nu u = q at *
        go_wp2
        exact ⟨⟨4, by omega, rfl, by rw [HA.out.2.2.2]⟩, by simp [intOf]; omega⟩
    · obtain rfl : k = g.length := by omega
      have HE : Hid (∀ k, k < g.length - 1 → (byo g).take (k + 1) = (byo g).take k ++ [UInt8.ofNat (ac6 g g.length / 2 ^ (16 - 8 * k) % 256)]) := fun k hk => byo_take g k hk g5
      have HL : Hid ((byo g).length = g.length - 1) := byo_len g g5
      have hal := ac6_lt g g.length
      generalize ac6 g g.length = A at *
      clear hby
      go_wp2
      go_loopw [0, 30] (fun v i wr => ∃ k : Nat, k ≤ g.length - 1 ∧ i = .int .i64 k ∧ Hid (Own B v (t ++ (byo g).take k) wr) ∧ Hid (Below B w wr)) (fun _ i _ => g.length - 1 - (intOf i).toNat)
      case atStart => exact ⟨0, by omega, rfl, (by simpa using HO.out : Own B v (t ++ (byo g).take 0) w), Below.refl _ _⟩
      case round =>
        obtain ⟨k, hk4, rfl, HV, HB⟩ := hrel
        have hsz := HB.out.size
        by_cases hk5 : k < g.length - 1
        · have hk6 : ((k : Nat) : Int) < ((g.length : Nat) : Int) - 1 := by omega
          have HN2 : Hid ((byo g).take (k + 1) = (byo g).take k ++ [UInt8.ofNat (A / 2 ^ (16 - 8 * k) % 256)]) := HE.out k hk5
          have HL2 : Hid ((t ++ (byo g).take k).length + 1 ≤ 140737488355328) := (by have := HL.out; simp; omega : (t ++ (byo g).take k).length + 1 ≤ 140737488355328)
          rcases (show k = 0 ∨ k = 1 ∨ k = 2 by omega) with rfl | rfl | rfl
          · have hq : ((A : Nat) : Int) / 65536 = ((UInt8.ofNat (A / 2 ^ (16 - 8 * 0) % 256)).toNat : Int) := by rw [ofNat_lt (by omega)]; omega
            generalize UInt8.ofNat (A / 2 ^ (16 - 8 * 0) % 256) = u at *
            go_wp2_with (at_builtin; go_must (refine wp_app rfl (.tmp 33) (.tmp 40) rfl B _ (t ++ (byo g).take 0) [u] _ _ (by simp [bv, hq]) rfl HV.out rfl HL2.out ?h2 ?_))
            case h2 => omega
            intro v' w' ho hb
            go_wp2
            go_roundw
            case rel => exact ⟨0 + 1, by omega, by go_num, (by rw [HN2.out, ← List.append_assoc]; simpa using ho.out : Own B v' (t ++ (byo g).take (0 + 1)) w'), (HB.out.trans hb.out)⟩
            case measure => simp [intOf]; omega
          · have hq : ((A : Nat) : Int) / 256 % 256 = ((UInt8.ofNat (A / 2 ^ (16 - 8 * 1) % 256)).toNat : Int) := by rw [ofNat_lt (by omega)]; omega
            generalize UInt8.ofNat (A / 2 ^ (16 - 8 * 1) % 256) = u at *
            go_wp2_with (at_builtin; go_must (refine wp_app rfl (.tmp 33) (.tmp 40) rfl B _ (t ++ (byo g).take 1) [u] _ _ (by simp [bv, hq]) rfl HV.out rfl HL2.out ?h2 ?_))
            case h2 => omega
            intro v' w' ho hb
            go_wp2
            go_roundw
            case rel => exact ⟨1 + 1, by omega, by go_num, (by rw [HN2.out, ← List.append_assoc]; simpa using ho.out : Own B v' (t ++ (byo g).take (1 + 1)) w'), (HB.out.trans hb.out)⟩
            case measure => simp [intOf]; omega
          · have hq : ((A : Nat) : Int) % 256 = ((UInt8.ofNat (A / 2 ^ (16 - 8 * 2) % 256)).toNat : Int) := by rw [ofNat_lt (by omega)]; omega
            generalize UInt8.ofNat (A / 2 ^ (16 - 8 * 2) % 256) = u at *
            go_wp2_with (at_builtin; go_must (refine wp_app rfl (.tmp 33) (.tmp 40) rfl B _ (t ++ (byo g).take 2) [u] _ _ (by simp [bv, hq]) rfl HV.out rfl HL2.out ?h2 ?_))
            case h2 => omega
            intro v' w' ho hb
            go_wp2
            go_roundw
            case rel => exact ⟨2 + 1, by omega, by go_num, (by rw [HN2.out, ← List.append_assoc]; simpa using ho.out : Own B v' (t ++ (byo g).take (2 + 1)) w'), (HB.out.trans hb.out)⟩
            case measure => simp [intOf]; omega
        · have hk6 : ¬ ((k : Nat) : Int) < ((g.length : Nat) : Int) - 1 := by omega
          go_wp2
          go_ret
          refine ⟨_, rfl, ?_, HB.out⟩
          have := HV.out
          rwa [List.take_of_length_le (by rw [HL.out]; omega), HG.out] at this

end Bs
end Go.Proofs.YtlfobdjbnpgchaaGreatDoor

/-
  base.Decode.
-/
set_option linter.unusedVariables false
set_option linter.unusedSimpArgs false
namespace Go.Proofs.YtlfobdjbnpgchaaGreatDoor
open Go.RowKit
namespace Bs

theorem dec_step {r x : List UInt8} (h : dec r = .ok x) : r = [] ∧ x = [] ∨ ∃ a b c d r' x', r = a :: b :: c :: d :: r' ∧ Four a b c d ∧ dec r' = .ok x' ∧ x = g4 a b c d ++ x' := by
  obtain ⟨hf, hm⟩ := dec_ok_fit r x h
  match r, h, hf, hm with
  | [], h, _, _ =>
    unfold dec at h
    cases h
    exact .inl ⟨rfl, rfl⟩
  | [a], h, _, hm => simp at hm
  | [a, b], h, _, hm => simp at hm
  | [a, b, c], h, _, hm => simp at hm
  | a :: b :: c :: d :: r, h, hf, hm =>
    have F := four_of (r := r) (fun k hk => hf k (by simp; omega))
    refine .inr ⟨a, b, c, d, r, ?_⟩
    by_cases hd : d = 61
    · have hr : r = [] := by
        cases r with
        | nil => rfl
        | cons e r =>
          have := hf 4 (by simp)
          rw [fit4_no a b c d _ hd] at this
          cases this
      subst hr
      rw [dec_end [] F hd, if_pos rfl] at h
      cases h
      exact ⟨[], rfl, F, by unfold dec; rfl, by simp⟩
    · rw [dec_on r F hd] at h
      cases hx : dec r with
      | ok x' =>
        rw [hx] at h
        cases h
        exact ⟨x', rfl, F, rfl, rfl⟩
      | error k => rw [hx] at h; cases h
theorem dec_ok_len : ∀ {r x : List UInt8}, dec r = .ok x → x.length ≤ r.length / 4 * 3
  | [], x, h => by unfold dec at h; cases h; simp
  | [a], x, h => by unfold dec at h; cases h
  | [a, b], x, h => by unfold dec at h; cases h
  | [a, b, c], x, h => by unfold dec at h; cases h
  | a :: b :: c :: d :: r, x, h => by
    rcases dec_step h with ⟨h1, _⟩ | ⟨a', b', c', d', r', x', e, F, hx, rfl⟩
    · cases h1
    · cases e
      have := dec_ok_len hx
      have : (g4 a b c d).length ≤ 3 := by unfold g4; split <;> (try split) <;> simp
      simp only [List.length_append, List.length_cons]
      omega

set_option maxRecDepth 100000 in
set_option maxHeartbeats 1000000 in
theorem Decode_any (l : List UInt8) (hl : l.length ≤ 140737488355328) (w : World) :
    Calls Tryz.prog 162 #[.string (str l)] w fun e w' => e = .returned (.tuple #[.string (str (decR l).1), .int .i64 (decR l).2.1, .int .i64 (decR l).2.2]) ∧ Below w.heap.size w w' := by
  have hs : (str l).size = l.length := str_size l
  go_enter Tryz.func162, Tryz.ntmps162
  go_wp2
  go_loop [9] (fun i => ∃ k : Nat, k ≤ l.length ∧ i = .int .i64 k ∧ Hid (∀ j, j < k → fitB l j = true)) (fun i => l.length - (intOf i).toNat)
  case atStart => exact ⟨0, by omega, rfl, fun j hj => by omega⟩
  case round =>
    obtain ⟨k, hk, rfl, HK⟩ := hrel
    by_cases hlt : k < l.length
    · cases hf : fitB l k with
      | true =>
        have HF : Hid (fitB l k = true) := hf
        clear hf
        go_wp2_with fail
        refine (fits_any l k hlt hl w).mono ?_
        rintro e w2 ⟨rfl, hw2⟩
        rw [hw2, HF.out]
        clear hw2 w2
        go_wp2
        go_round
        case rel =>
          refine ⟨k + 1, by omega, by go_num, fun j hj => ?_⟩
          by_cases e : j = k
          · subst e; exact HF.out
          · exact HK.out j (by omega)
        case measure => simp [intOf]; omega
      | false =>
        have HF : Hid (fitB l k = false) := hf
        clear hf
        have HR : Hid (decR l = ([], (k : Int), 30)) := decR_err (fit_bad l k hlt HK.out HF.out)
        go_wp2_with fail
        refine (fits_any l k hlt hl w).mono ?_
        rintro e w2 ⟨rfl, hw2⟩
        rw [hw2, HF.out]
        clear hw2 w2
        go_wp2
        go_ret3
        rw [HR.out]
        exact ⟨rfl, Below.refl _ _⟩
    · obtain rfl : k = l.length := by omega
      have HA : Hid (dec l = if l.length % 4 = 0 then .ok (grps l) else .error l.length) := fit_all l HK.out
      have hmi : ((l.length : Nat) : Int) % 4 = ((l.length % 4 : Nat) : Int) := by omega
      by_cases hm : l.length % 4 = 0
      · have HX : Hid (dec l = .ok (grps l)) := (by rw [HA.out, if_pos hm] : dec l = .ok (grps l))
        have HR : Hid (decR l = (grps l, 0, 0)) := decR_ok HX.out
        rw [hm] at hmi
        generalize grps l = X at *
        have hmk := run_mk0 w (((l.length : Nat) : Int) / 4 * 3) (by omega) (by omega)
        have HOw : Hid (Own w.heap.size (.slice (some ⟨w.heap.size, 0, none⟩) 0 (l.length / 4 * 3)) [] (w.alloc (.cells (madeCells #[.int .u8 0] (l.length / 4 * 3)) 5))) := own_made w _ (by omega) _ (size_madeCells _ _)
        have HXl : Hid (X.length ≤ l.length / 4 * 3) := dec_ok_len HX.out
        go_wp2
        go_loopw [0, 6] (fun s v wr => ∃ r t x : List UInt8, s = .string (str r) ∧ Hid (dec r = .ok x) ∧ Hid (t ++ x = X) ∧ r.length ≤ l.length ∧ Hid (Own w.heap.size v t wr) ∧ Hid (Below w.heap.size w wr)) (fun s _ _ => match s with | .string s => s.size | _ => 0)
        case atStart => exact ⟨l, [], X, rfl, HX.out, rfl, Nat.le_refl _, HOw.out, (Below.refl _ w).alloc (Nat.le_refl _) _⟩
        case round =>
          obtain ⟨r, t, x, rfl, HD, HE, hr, HO, HB⟩ := hrel
          have hsr : (str r).size = r.length := str_size r
          have hsz := HB.out.size
          rcases dec_step HD.out with ⟨rfl, rfl⟩ | ⟨a, b, c, d, r', x', rfl, F4, hd', rfl⟩
          · have HE' : Hid (t = X) := (by simpa using HE.out : t = X)
            have hemp : (str []).toList.isEmpty = true := by rw [ByteArray.toList_eq]; rfl
            have hbk := back wr _ t HO.out.rd
            rw [HE'.out] at hbk
            go_wp2
            go_ret3
            rw [HR.out]
            exact ⟨rfl, HB.out⟩
          · have HF4 : Hid (Four a b c d) := F4
            have HD' : Hid (dec r' = .ok x') := hd'
            clear F4 hd'
            have hne : (str (a :: b :: c :: d :: r')).toList.isEmpty = false := by rw [ByteArray.toList_eq, str_list]; rfl
            have HX1 : Hid ((str (a :: b :: c :: d :: r')).extract 0 4 = str [a, b, c, d]) := (by rw [str_extract]; rfl : (str (a :: b :: c :: d :: r')).extract 0 4 = str [a, b, c, d])
            have HY1 : Hid ((str (a :: b :: c :: d :: r')).extract 4 (r'.length + 4) = str r') := (by rw [str_extract, show r'.length + 4 = (a :: b :: c :: d :: r').length by simp, List.take_length]; rfl : (str (a :: b :: c :: d :: r')).extract 4 (r'.length + 4) = str r')
            have hsr' : (str (a :: b :: c :: d :: r')).size = r'.length + 4 := by rw [hsr]; simp
            clear hsr
            have hr' : r'.length + 4 ≤ l.length := by simpa using hr
            have HTl : Hid (t.length + 3 ≤ 140737488355328) := (by
              have h1 := congrArg List.length HE.out
              have h2 := HXl.out
              simp only [List.length_append] at h1
              have : 0 < (g4 a b c d).length := by unfold g4; split <;> (try split) <;> simp
              omega : t.length + 3 ≤ 140737488355328)
            have HE2 : Hid ((t ++ g4 a b c d) ++ x' = X) := (by rw [List.append_assoc]; exact HE.out : (t ++ g4 a b c d) ++ x' = X)
            have hms : (str r').size < (str (a :: b :: c :: d :: r')).size := by rw [hsr', str_size]; omega
            generalize hG : str (a :: b :: c :: d :: r') = G at *
            go_wp2_with fail
            rw [HX1.out]
            refine (appendBytes_any w.heap.size _ t a b c d HF4.out wr HO.out HTl.out hsz).mono ?_
            rintro e w2 ⟨v2, rfl, ho, hb⟩
            have HO2 : Hid (Own w.heap.size v2 (t ++ g4 a b c d) w2) := ho
            have HB2 : Hid (Below w.heap.size w w2) := HB.out.trans hb
            clear ho hb
            go_wp2
            rw [HY1.out]
            go_roundw
            case rel => exact ⟨r', t ++ g4 a b c d, x', rfl, HD'.out, HE2.out, by omega, HO2.out, HB2.out⟩
            case measure => exact hms
      · have HR : Hid (decR l = ([], (l.length : Int), 30)) := decR_err (by rw [HA.out, if_neg hm])
        have hmn : ((((l.length % 4 : Nat) : Int)) != 0) = true := by simp; omega
        generalize l.length % 4 = m at *
        go_wp2
        go_ret3
        rw [HR.out]
        exact ⟨rfl, Below.refl _ _⟩

end Bs
end Go.Proofs.YtlfobdjbnpgchaaGreatDoor
