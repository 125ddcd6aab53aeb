/- Several texts as one. -/
import Derived.Test.YtlnlhhobmgiceaaGreatDoorErD
import Derived.Below
import Derived.Laws.Rows
import Derived.BigQuiet
import Derived.Test.YtlnlhhobmgiceaaGreatDoorMgT
import Derived.Test.YtlnlhhobmgiceaaGreatDoorSrQ
/-
  sheet.told: the place and the number of what is wrong.
-/
set_option linter.unusedVariables false
set_option linter.unusedSimpArgs false
namespace Go.Proofs.YtlnlhhobmgiceaaGreatDoor
open Go.RowKit Go.Extern.Stop Go.Stop Go.Extern
namespace Er

/-- errors' own variable stands as it was laid. -/
def Gw (w : World) : Prop := w.cell? ⟨0, 0, none⟩ = some (.iface 170 (.agg #[.pointer (some ⟨5, 73, none⟩)]))
theorem Gw.pos {w : World} (h : Gw w) : 0 < w.heap.size := World.block_lt_of_cell? w ⟨0, 0, none⟩ h
theorem Gw.below {w w' : World} (h : Gw w) (b : Below w.heap.size w w') : Gw w' := (b.cell h.pos).trans h
theorem told_nil (w : World) : Calls Tryz.prog 35 #[.nilIface] w fun e w' => e = .returned (.tuple #[.int .i64 0, .int .i64 0]) ∧ Below w.heap.size w w' := by
  have hb : Below w.heap.size w ((w.alloc (.cells #[.int .i64 0, .nilIface] 120)).alloc (.cells #[.int .i64 0] 35)) := ((Below.refl _ w).alloc (Nat.le_refl _) _).alloc (by simp) _
  have HB : RowKit.Hid (Below w.heap.size w ((w.alloc (.cells #[.int .i64 0, .nilIface] 120)).alloc (.cells #[.int .i64 0] 35))) := hb
  clear hb
  go_enter Tryz.func35, Tryz.ntmps35
  go_wp2_with (go_at_call 70; refine (as_nil _ _).mono ?_; rintro e w' ⟨rfl, rfl⟩)
  go_ret2
  exact ⟨rfl, HB.out⟩

/-- Blocks laid behind, then two cells of a block written. -/
theorem keep4 {w : World} {a b c d : Obj} {k : Nat} (h : k < w.heap.size) : ((((w.alloc a).alloc b).alloc c).alloc d).heap[k]? = w.heap[k]? := by
  rw [Lib.alloc_old _ _ k (by simp; omega), Lib.alloc_old _ _ k (by simp; omega), Lib.alloc_old _ _ k (by simp; omega), Lib.alloc_old _ _ k h]
theorem bel4 (w : World) (a b c d : Obj) : Below w.heap.size w ((((w.alloc a).alloc b).alloc c).alloc d) :=
  ((((Below.refl _ w).alloc (Nat.le_refl _) a).alloc (by simp) b).alloc (by simp; omega) c).alloc (by simp; omega) d
theorem as_fault2 (x : Int) (y : Value) (T : Nat) (old1 old2 : Value) (w : World) (hg : Gw w) (hy : y.oneCell' = true) (h0 : 0 < T) (ht : w.heap[T]? = some (.cells #[old1, old2] 120 (0, 0))) :
    Calls Tryz.prog 70 #[.iface 120 (.agg #[.int .i64 x, y]), .iface 124 (.pointer (some ⟨T, 0, none⟩))] w fun ev w' => ev = .returned (.bool true) ∧ w'.heap[T]? = some (.cells #[.int .i64 x, y] 120 (0, 0)) ∧ (∀ k, k < w.heap.size → k ≠ T → w'.heap[k]? = w.heap[k]?) ∧ (∀ B, B ≤ T → Below B w w') := by
  refine (as_fault x y T old1 old2 w hg hy ht).mono ?_
  rintro e w' ⟨rfl, rfl⟩
  have hT : T < w.heap.size := (Array.getElem?_eq_some_iff.1 ht).1
  refine ⟨rfl, ?_, fun k hk hne => ?_, fun B hB => ?_⟩
  · exact Go.heap_setCell_same _ T 1 _ _ y (Go.heap_setCell_same _ T 0 _ _ (.int .i64 x) ((keep4 hT).trans ht))
  · rw [Below.heap_setCell _ _ _ _ hne, Below.heap_setCell _ _ _ _ hne, keep4 hk]
  · exact (((bel4 w _ _ _ _).mono (by omega)).setCell (p := ⟨T, 0, none⟩) hB _).setCell (p := ⟨T, 1, none⟩) hB _

theorem as_errno2 (x n : Int) (T : Nat) (old : Value) (w : World) (hg : Gw w) (ht : w.heap[T]? = some (.cells #[old] 35 (0, 0))) :
    Calls Tryz.prog 70 #[.iface 120 (.agg #[.int .i64 x, .iface 35 (.int .i64 n)]), .iface 125 (.pointer (some ⟨T, 0, none⟩))] w fun ev w' => ev = .returned (.bool true) ∧ w'.heap[T]? = some (.cells #[.int .i64 n] 35 (0, 0)) ∧ (∀ k, k < w.heap.size → k ≠ T → w'.heap[k]? = w.heap[k]?) ∧ (∀ B, B ≤ T → Below B w w') := by
  refine (as_errno x n T old w hg ht).mono ?_
  rintro e w' ⟨rfl, rfl⟩
  have hT : T < w.heap.size := (Array.getElem?_eq_some_iff.1 ht).1
  refine ⟨rfl, ?_, fun k hk hne => ?_, fun B hB => ?_⟩
  · exact Go.heap_setCell_same _ T 0 _ _ (.int .i64 n) ((Lib.alloc_old _ _ T (by simp; omega)).trans ((keep4 hT).trans ht))
  · rw [Below.heap_setCell _ _ _ _ hne, Lib.alloc_old _ _ k (by simp; omega), keep4 hk]
  · exact (((bel4 w _ _ _ _).alloc (by simp; omega) _).mono (by omega)).setCell (p := ⟨T, 0, none⟩) hB _

set_option maxRecDepth 100000 in
theorem told_fault (x n : Int) (w : World) (hg : Gw w) : Calls Tryz.prog 35 #[.iface 120 (.agg #[.int .i64 x, .iface 35 (.int .i64 n)])] w fun e w' => e = .returned (.tuple #[.int .i64 x, .int .i64 n]) ∧ Below w.heap.size w w' := by
  have h0 := hg.pos
  obtain ⟨w2, hw2⟩ : ∃ w2, w2 = (w.alloc (.cells #[.int .i64 0, .nilIface] 120)).alloc (.cells #[.int .i64 0] 35) := ⟨_, rfl⟩
  have hb2 : Below w.heap.size w w2 := by rw [hw2]; exact ((Below.refl _ w).alloc (Nat.le_refl _) _).alloc (by simp) _
  have r2 : w2.heap[w.heap.size]? = some (.cells #[.int .i64 0, .nilIface] 120 (0, 0)) := by
    rw [hw2, Lib.alloc_old _ _ _ (by simp)]; exact heap_alloc_new w _
  have q2 : w2.heap[w.heap.size + 1]? = some (.cells #[.int .i64 0] 35 (0, 0)) := by
    rw [hw2]; have h := heap_alloc_new (w.alloc (.cells #[.int .i64 0, .nilIface] 120)) (.cells #[.int .i64 0] 35); simpa using h
  have hz2 : w.heap.size + 1 < w2.heap.size := (Array.getElem?_eq_some_iff.1 q2).1
  have HB2 : RowKit.Hid (Below w.heap.size w w2) := hb2
  have HG2 : RowKit.Hid (Gw w2) := hg.below hb2
  have HR2 : RowKit.Hid (w2.heap[w.heap.size]? = some (.cells #[.int .i64 0, .nilIface] 120 (0, 0)) ∧ w2.heap[w.heap.size + 1]? = some (.cells #[.int .i64 0] 35 (0, 0))) := ⟨r2, q2⟩
  clear hb2 r2 q2
  go_enter Tryz.func35, Tryz.ntmps35
  go_wp2_with fail
  rw [← hw2]
  clear hw2
  refine (as_fault2 x _ w.heap.size _ _ w2 HG2.out rfl h0 HR2.out.1).mono ?_
  rintro e w3 ⟨rfl, r3, k3, b3⟩
  have HB3 : RowKit.Hid (Below w.heap.size w w3) := HB2.out.trans (b3 _ (Nat.le_refl _))
  have HG3 : RowKit.Hid (Gw w3) := hg.below HB3.out
  have q3 := (k3 _ hz2 (by omega)).trans HR2.out.2
  have HR3 : RowKit.Hid (w3.heap[w.heap.size]? = some (.cells #[.int .i64 x, .iface 35 (.int .i64 n)] 120 (0, 0)) ∧ w3.heap[w.heap.size + 1]? = some (.cells #[.int .i64 0] 35 (0, 0))) := ⟨r3, q3⟩
  have hz3 : w.heap.size + 1 < w3.heap.size := (Array.getElem?_eq_some_iff.1 q3).1
  clear r3 k3 b3 q3 HR2 HG2 HB2
  go_wp2_with fail
  refine (as_errno2 x n (w.heap.size + 1) _ w3 HG3.out HR3.out.2).mono ?_
  rintro e w4 ⟨rfl, r4, k4, b4⟩
  have HB4 : RowKit.Hid (Below w.heap.size w w4) := HB3.out.trans (b4 _ (by omega))
  have q4 := (k4 _ (by omega) (by omega)).trans HR3.out.1
  have c0 : w4.cell? ⟨w.heap.size, 0, none⟩ = some (.int .i64 x) := by rw [Lib.cell_of_heap q4]; rfl
  have c1 : w4.cell? ⟨w.heap.size + 1, 0, none⟩ = some (.int .i64 n) := by rw [Lib.cell_of_heap r4]; rfl
  clear r4 k4 b4 q4 HR3 HG3 HB3
  go_wp2_with fail
  go_quiet (fail)
  go_wp2
  go_ret2
  exact ⟨rfl, HB4.out.trans ⟨rfl, rfl, rfl, Nat.le_refl _, fun _ _ => rfl⟩⟩

end Er
end Go.Proofs.YtlnlhhobmgiceaaGreatDoor

/-
  sheet: boundaries: the document's IsMark, the program's IsBoundary.
-/
set_option linter.unusedVariables false
set_option linter.unusedSimpArgs false
namespace Go.Proofs.YtlnlhhobmgiceaaGreatDoor
open Go.RowKit Go.Shelf
namespace Mf
open Oc Tg

def noM : List UInt8 := [39, 40, 41, 43, 95, 44, 45, 46, 47, 58, 61, 63]
def markI (c : Int) (h : Bool) : Bool := (decide (48 ≤ c) && decide (c ≤ 57)) || ((decide (65 ≤ c) && decide (c ≤ 90)) || ((decide (97 ≤ c) && decide (c ≤ 122)) || h))
/-- May a byte stand in a boundary? -/
def markB (c : UInt8) : Bool := markI (c.toNat : Int) (noM.contains c)
def bndR (l : List UInt8) : Bool := l.all markB && (decide (l ≠ []) && decide (l.length ≤ 70))

theorem bnd_bad {l : List UInt8} {k : Nat} (hk : k < l.length) (h : markB (l.getD k 0) = false) : bndR l = false := by
  unfold bndR
  rw [show l.all markB = false from by
    rw [List.all_eq_false]
    refine ⟨l[k], List.getElem_mem _, ?_⟩
    rw [List.getD_eq_getElem?_getD, List.getElem?_eq_getElem hk] at h
    simp at h
    simp [h]]
  rfl
theorem bnd_ok {l : List UInt8} (h : ∀ j, j < l.length → markB (l.getD j 0) = true) : bndR l = (decide (l ≠ []) && decide (l.length ≤ 70)) := by
  unfold bndR
  rw [show l.all markB = true from by
    rw [List.all_eq_true]
    intro x hx
    obtain ⟨k, hk, rfl⟩ := List.mem_iff_getElem.1 hx
    have := h k hk
    rw [List.getD_eq_getElem?_getD, List.getElem?_eq_getElem hk] at this
    simpa using this]
  rfl
def okK (c : UInt8) (j : Nat) : Bool := (lettI (c.toNat : Int) || digI (c.toNat : Int)) || (noM.take j).contains c
theorem okK_all (c : UInt8) : okK c 12 = markB c := by
  have h : ∀ n : Nat, n < 256 → okK (UInt8.ofNat n) 12 = markB (UInt8.ofNat n) := by decide +kernel
  have := h c.toNat c.toNat_lt
  rwa [UInt8.ofNat_toNat] at this
theorem okK_next (c : UInt8) (j : Nat) (h : j < 12) : okK c (j + 1) = (okK c j || decide ((c.toNat : Int) = ((noM.getD j 0).toNat : Int))) := by
  have k : ∀ j : Nat, j < 12 → ∀ n : Nat, n < 256 → okK (UInt8.ofNat n) (j + 1) = (okK (UInt8.ofNat n) j || decide (((UInt8.ofNat n).toNat : Int) = ((noM.getD j 0).toNat : Int))) := by decide +kernel
  have := k j h c.toNat c.toNat_lt
  rwa [UInt8.ofNat_toNat] at this
theorem noM_at (j : Nat) (h : j < (⟨#[39, 40, 41, 43, 95, 44, 45, 46, 47, 58, 61, 63]⟩ : ByteArray).size) : (((⟨#[39, 40, 41, 43, 95, 44, 45, 46, 47, 58, 61, 63]⟩ : ByteArray)[j].toNat : Nat) : Int) = ((noM.getD j 0).toNat : Int) := byt_at _ j h

set_option maxRecDepth 100000 in
set_option maxHeartbeats 1000000 in
theorem rIsMark_any (s : ByteArray) (hs : s.size ≤ 16777216) (w : World) :
    Calls Tryz.prog 20 #[.string s] w fun e w' => e = .returned (.bool (bndR s.data.toList)) ∧ Below w.heap.size w w' := by
  have HY : Hid (∀ k, k < s.size → markB (s.data.toList.getD k 0) = false → bndR s.data.toList = false) := fun k hk h => bnd_bad (by rw [size_list]; exact hk) h
  have HN : Hid ((∀ j, j < s.size → markB (s.data.toList.getD j 0) = true) → bndR s.data.toList = (decide (1 ≤ s.size) && decide (s.size ≤ 70))) := fun h => by
    have := bnd_ok (l := s.data.toList) (fun j hj => h j (by rw [size_list] at hj; exact hj))
    rw [size_list] at this
    rw [this]
    congr 1
    rw [decide_eq_decide, ← size_list]
    cases s.data.toList <;> simp
  generalize bndR s.data.toList = M at *
  go_enter Tryz.func20, Tryz.ntmps20
  go_wp2
  go_loopw [3] (fun i wr => ∃ k : Nat, k ≤ s.size ∧ i = .int .i64 k ∧ Hid (∀ j, j < k → markB (s.data.toList.getD j 0) = true) ∧ Hid (Below w.heap.size w wr)) (fun i _ => s.size - (intOf i).toNat)
  case atStart => exact ⟨0, Nat.zero_le _, rfl, (fun j hj => absurd hj (Nat.not_lt_zero _) : ∀ j, j < 0 → _), Below.refl _ _⟩
  case round =>
    obtain ⟨wo, rfl⟩ : ∃ wo, wo = wr := ⟨_, rfl⟩
    obtain ⟨k, hk, rfl, hA, hbl⟩ := hrel
    by_cases hlt : k < s.size
    · have hby : ((s[k].toNat : Nat) : Int) = ((s.data.toList.getD k 0).toNat : Int) := byt_at s k hlt
      have HYk : Hid (markB (s.data.toList.getD k 0) = false → M = false) := HY.out k hlt
      have HAn : Hid (markB (s.data.toList.getD k 0) = true → ∀ j, j < k + 1 → markB (s.data.toList.getD j 0) = true) := fun h j hj => by
        by_cases e : j = k
        · rw [e]; exact h
        · exact hA.out j (by omega)
      generalize s.data.toList.getD k 0 = u at HYk HAn hby
      have b0 : (0 : Int) ≤ (u.toNat : Int) := by omega
      have b1 : (u.toNat : Int) ≤ 255 := by have := u.toNat_lt; omega
      have HLe : Hid (∀ W, Calls Tryz.prog 43 #[.int .u8 ((s[k].toNat : Nat) : Int)] W fun e w' => e = .returned (.bool (lettI (u.toNat : Int))) ∧ w' = W) := fun W => by rw [hby]; exact IsLetter_any _ b0 b1 W
      have HDi : Hid (∀ W, Calls Tryz.prog 42 #[.int .u8 ((s[k].toNat : Nat) : Int)] W fun e w' => e = .returned (.bool (digI (u.toNat : Int))) ∧ w' = W) := fun W => by rw [hby]; exact IsDigit_any _ b0 b1 W
      have HK0 : Hid (okK u 0 = (lettI (u.toNat : Int) || digI (u.toNat : Int))) := (by simp [okK] : _ = _)
      have HKn : Hid (∀ j, j < 12 → okK u (j + 1) = (okK u j || (((s[k].toNat : Nat) : Int) == ((noM.getD j 0).toNat : Int)))) := fun j hj => by
        rw [okK_next u j hj, hby]
        first | rfl | (congr 1; rw [Bool.eq_iff_iff, decide_eq_true_iff, beq_iff_eq])
      have HKa : Hid (okK u 12 = markB u) := okK_all u
      clear hby b0 b1
      generalize markB u = mb at HYk HAn HKa
      cases hl : lettI (u.toNat : Int) with
      | true =>
        rw [hl] at HLe HK0
        have HK0' : Hid (okK u 0 = true) := HK0.out
        clear HK0 hl HDi
        have HK0 := HK0'
        clear HK0'
        go_wp2_with fail
        refine (HLe.out _).mono ?_
        rintro e w2 ⟨rfl, hw2⟩
        rw [hw2]
        clear hw2
        have HB2 : Hid (Below w.heap.size w wo) := hbl
        go_wp2
        go_loopw [4, 5] (fun ov jv wr => ∃ j : Nat, j ≤ 12 ∧ jv = .int .i64 j ∧ ov = .bool (okK u j) ∧ Hid (Below w.heap.size w wr)) (fun _ jv _ => 12 - (intOf jv).toNat)
        case atStart => exact ⟨0, by omega, rfl, by rw [HK0.out], HB2⟩
        case round =>
          obtain ⟨j, hj, rfl, rfl, hbj⟩ := hrel
          by_cases hjt : j < 12
          · have HKj : Hid (okK u (j + 1) = (okK u j || (((s[k].toNat : Nat) : Int) == ((noM.getD j 0).toNat : Int)))) := HKn.out j hjt
            have hj12 : j < (⟨#[39, 40, 41, 43, 95, 44, 45, 46, 47, 58, 61, 63]⟩ : ByteArray).size := hjt
            have hnm := noM_at j hj12
            have HBd : Hid (Below w.heap.size w wr.drew) := below_drewN hbj.out 1
            cases hB : okK u j with
            | true =>
              have HO : Hid (okK u (j + 1) = true) := (by rw [HKj.out, hB]; rfl : _ = _)
              clear HKj hB
              go_wp2_with fail
              go_quiet (fail)
              all_goals
                go_wp2
                go_roundw
                case rel => exact ⟨j + 1, by omega, by go_num, by rw [HO.out], below_drewN hbj.out _⟩
                case measure => simp [intOf]; omega
            | false =>
              have HO : Hid (okK u (j + 1) = (((s[k].toNat : Nat) : Int) == ((noM.getD j 0).toNat : Int))) := (by rw [HKj.out, hB]; rfl : _ = _)
              clear HKj hB
              go_wp2_with fail
              go_quiet (fail)
              all_goals
                go_wp2
                go_roundw
                case rel => exact ⟨j + 1, by omega, by go_num, by rw [HO.out, List.getD_eq_getElem?_getD], below_drewN hbj.out _⟩
                case measure => simp [intOf]; omega
          · obtain rfl : j = 12 := by omega
            rw [HKa.out]
            cases mb with
            | false =>
              have hM : Hid (M = false) := HYk.out rfl
              go_wp2
              go_ret
              rw [hM.out]
              exact ⟨rfl, hbj.out⟩
            | true =>
              have HAk : Hid (∀ j, j < k + 1 → markB (s.data.toList.getD j 0) = true) := HAn.out rfl
              go_wp2
              go_roundw
              case rel => exact ⟨k + 1, by omega, by go_num, HAk, hbj⟩
              case measure => simp [intOf]; omega
      | false =>
        rw [hl] at HLe HK0
        have HK0' : Hid (okK u 0 = digI (u.toNat : Int)) := HK0.out
        clear HK0 hl
        generalize digI (u.toNat : Int) = dg at *
        have HK0 := HK0'
        clear HK0'
        go_wp2_with fail
        refine (HLe.out _).mono ?_
        rintro e w2 ⟨rfl, hw2⟩
        rw [hw2]
        clear hw2
        go_wp2_with fail
        refine (HDi.out _).mono ?_
        rintro e w3 ⟨rfl, hw3⟩
        rw [hw3]
        clear hw3
        have HB2 : Hid (Below w.heap.size w wo) := hbl
        go_wp2
        go_loopw [4, 5] (fun ov jv wr => ∃ j : Nat, j ≤ 12 ∧ jv = .int .i64 j ∧ ov = .bool (okK u j) ∧ Hid (Below w.heap.size w wr)) (fun _ jv _ => 12 - (intOf jv).toNat)
        case atStart => exact ⟨0, by omega, rfl, by rw [HK0.out], HB2⟩
        case round =>
          obtain ⟨j, hj, rfl, rfl, hbj⟩ := hrel
          by_cases hjt : j < 12
          · have HKj : Hid (okK u (j + 1) = (okK u j || (((s[k].toNat : Nat) : Int) == ((noM.getD j 0).toNat : Int)))) := HKn.out j hjt
            have hj12 : j < (⟨#[39, 40, 41, 43, 95, 44, 45, 46, 47, 58, 61, 63]⟩ : ByteArray).size := hjt
            have hnm := noM_at j hj12
            have HBd : Hid (Below w.heap.size w wr.drew) := below_drewN hbj.out 1
            cases hB : okK u j with
            | true =>
              have HO : Hid (okK u (j + 1) = true) := (by rw [HKj.out, hB]; rfl : _ = _)
              clear HKj hB
              go_wp2_with fail
              go_quiet (fail)
              all_goals
                go_wp2
                go_roundw
                case rel => exact ⟨j + 1, by omega, by go_num, by rw [HO.out], below_drewN hbj.out _⟩
                case measure => simp [intOf]; omega
            | false =>
              have HO : Hid (okK u (j + 1) = (((s[k].toNat : Nat) : Int) == ((noM.getD j 0).toNat : Int))) := (by rw [HKj.out, hB]; rfl : _ = _)
              clear HKj hB
              go_wp2_with fail
              go_quiet (fail)
              all_goals
                go_wp2
                go_roundw
                case rel => exact ⟨j + 1, by omega, by go_num, by rw [HO.out, List.getD_eq_getElem?_getD], below_drewN hbj.out _⟩
                case measure => simp [intOf]; omega
          · obtain rfl : j = 12 := by omega
            rw [HKa.out]
            cases mb with
            | false =>
              have hM : Hid (M = false) := HYk.out rfl
              go_wp2
              go_ret
              rw [hM.out]
              exact ⟨rfl, hbj.out⟩
            | true =>
              have HAk : Hid (∀ j, j < k + 1 → markB (s.data.toList.getD j 0) = true) := HAn.out rfl
              go_wp2
              go_roundw
              case rel => exact ⟨k + 1, by omega, by go_num, HAk, hbj⟩
              case measure => simp [intOf]; omega
    · obtain rfl : k = s.size := by omega
      have hM : Hid (M = (decide (1 ≤ s.size) && decide (s.size ≤ 70))) := HN.out hA.out
      go_wp2
      all_goals
        go_ret
        refine ⟨ret_bool ?_, hbl.out⟩
        rw [hM.out]
        first
        | (simp; done)
        | (simp; omega)
        | (rw [Bool.eq_iff_iff]; simp; omega)


def inB (c : UInt8) : Bool := bndS.data.toList.contains c
theorem inB_mark (c : UInt8) : inB c = markB c := by
  have h : ∀ n : Nat, n < 256 → inB (UInt8.ofNat n) = markB (UInt8.ofNat n) := by decide +kernel
  have := h c.toNat c.toNat_lt
  rwa [UInt8.ofNat_toNat] at this
theorem drop_all (p : UInt8 → Bool) (l : List UInt8) : (l.dropWhile p = []) ↔ l.all p = true := by
  induction l with
  | nil => simp
  | cons c t ih =>
    rw [List.dropWhile_cons, List.all_cons]
    cases h : p c with
    | true => simpa using ih
    | false => simp
theorem bnd_trim (l : List UInt8) : bndR l = (decide (l.dropWhile inB = []) && (decide (l ≠ []) && decide (l.length ≤ 70))) := by
  unfold bndR
  congr 1
  rw [Bool.eq_iff_iff, decide_eq_true_iff, drop_all, show inB = markB from funext inB_mark]
theorem emp_iff (l : List UInt8) : (str l).toList.isEmpty = decide (l = []) := by
  rw [ByteArray.toList_eq, str_list, Bool.eq_iff_iff, decide_eq_true_iff]
  simp

set_option maxRecDepth 100000 in
set_option maxHeartbeats 1000000 in
theorem IsBoundary_any (s : ByteArray) (hs : s.size ≤ 16777216) (w : World) : Calls Tryz.prog 33 #[.string s] w fun e w' => e = .returned (.bool (bndR s.data.toList)) ∧ Below w.heap.size w w' := by
  have hcon := fun w => Any.strings_TrimLeft_laid Tryz.lays161 (by kernel_rfl) s bndS w (by decide) (ascii_of_all (by decide))
  have HT : Hid (∀ w, Calls Tryz.prog 66 #[.string s, .string bndS] w fun e w' => e = .returned (.string (str (s.data.toList.dropWhile inB))) ∧ Below w.heap.size w w') := hcon
  unfold bndS at HT
  clear hcon
  have HR : Hid (bndR s.data.toList = (decide (s.data.toList.dropWhile inB = []) && (decide (s.data.toList ≠ []) && decide (s.data.toList.length ≤ 70)))) := bnd_trim _
  have HE : Hid ((str (s.data.toList.dropWhile inB)).toList.isEmpty = decide (s.data.toList.dropWhile inB = [])) := emp_iff _
  have HS : Hid (s.toList.isEmpty = decide (s.data.toList = [])) := (by rw [← emp_iff, str_self] : _ = _)
  have hsl : s.data.toList.length = s.size := size_list s
  rw [hsl] at HR
  generalize bndR s.data.toList = V at *
  generalize str (s.data.toList.dropWhile inB) = X at *
  generalize decide (s.data.toList.dropWhile inB = []) = dX at *
  by_cases h0 : s.data.toList = []
  · have h0' : s.toList.isEmpty = true := by rw [HS.out, decide_eq_true h0]
    have HV : Hid (V = false) := (by rw [HR.out]; simp [h0] : V = false)
    clear HR HE HS hsl h0
    go_enter Tryz.func33, Tryz.ntmps33
    go_wp2
    go_ret
    exact ⟨by rw [HV.out]; rfl, Below.refl _ _⟩
  · have h0' : s.toList.isEmpty = false := by rw [HS.out, decide_eq_false h0]
    by_cases h70 : s.size ≤ 70
    · have h70' : (s.size : Int) ≤ 70 := by omega
      have HV : Hid (V = dX) := (by rw [HR.out]; simp [h0, h70] : V = dX)
      have HXe : Hid (X.toList.isEmpty = dX) := HE.out
      clear HR HE HS hsl h0
      cases dX with
      | true =>
        have hXe : X.toList.isEmpty = true := HXe.out
        go_enter Tryz.func33, Tryz.ntmps33
        go_wp2_with fail
        refine (HT.out _).mono ?_
        rintro e w1 ⟨rfl, hb1⟩
        go_wp2
        go_ret
        exact ⟨by rw [HV.out]; rfl, hb1⟩
      | false =>
        have hXe : X.toList.isEmpty = false := HXe.out
        go_enter Tryz.func33, Tryz.ntmps33
        go_wp2_with fail
        refine (HT.out _).mono ?_
        rintro e w1 ⟨rfl, hb1⟩
        go_wp2
        go_ret
        exact ⟨by rw [HV.out]; rfl, hb1⟩
    · have h70' : ¬ (s.size : Int) ≤ 70 := by omega
      have HV : Hid (V = false) := (by rw [HR.out]; simp [h70] : V = false)
      clear HR HE HS hsl h0
      go_enter Tryz.func33, Tryz.ntmps33
      go_wp2
      go_ret
      exact ⟨by rw [HV.out]; rfl, Below.refl _ _⟩

end Mf
end Go.Proofs.YtlnlhhobmgiceaaGreatDoor

/-
  sheet: Parse.
-/
set_option linter.unusedVariables false
set_option linter.unusedSimpArgs false
namespace Go.Proofs.YtlnlhhobmgiceaaGreatDoor
open Go.RowKit Go.Shelf
namespace Sr
open Oc Tg Mf

/-- What Parse answers. -/
def errN : Option (Int × Int) → Int × Int
  | none => (0, 0)
  | some q => q
def parR (b s : List UInt8) (most : Int) : List Pt.P5 × Int × Int :=
  if bndR b = false then ([], 0, 151)
  else if most < 1 then ([], 0, 1)
  else ((allP s ([45, 45] ++ b) most.toNat).1, errN (allP s ([45, 45] ++ b) most.toNat).2)

theorem told_any (q : Option (Int × Int)) (w : World) (hg : Er.Gw w) : Calls Tryz.prog 35 #[errV q] w fun e w' => e = .returned (.tuple #[.int .i64 (errN q).1, .int .i64 (errN q).2]) ∧ Below w.heap.size w w' := by
  cases q with
  | none => exact Er.told_nil w
  | some q => exact Er.told_fault q.1 q.2 w hg

set_option maxRecDepth 100000 in
set_option maxHeartbeats 2000000 in
theorem Parse_any (b s : ByteArray) (most : Int) (hb1 : b.size ≤ 1048576) (hs : s.size ≤ 1073741820) (hmost : most < 9223372036854775808) (w : World) (ht : Tab w) (hml : ML w) (he : Fd.Env w) (hg : Er.Gw w) :
    Calls Tryz.prog 9 #[.string b, .string s, .int .i64 most] w fun e w' => ∃ lv, e = .returned (.tuple #[lv, .int .i64 (parR b.data.toList s.data.toList most).2.1, .int .i64 (parR b.data.toList s.data.toList most).2.2]) ∧ Pt.OwnT 49 w.heap.size lv (parR b.data.toList s.data.toList most).1 w' ∧ Below w.heap.size w w' := by
  have HIb : Hid (Calls _ _ _ w _) := IsBoundary_any b (by omega) w
  obtain ⟨R, HRR⟩ : ∃ R, Hid (R = parR b.data.toList s.data.toList most) := ⟨_, rfl⟩
  have HRd : Hid (R = _) := HRR.out.trans (by unfold parR; exact rfl)
  rw [← HRR.out]
  clear HRR
  generalize bndR b.data.toList = B at *
  cases B with
  | false =>
    have HQ : Hid (R = ([], 0, 151)) := (by rw [HRd.out, if_pos rfl] : R = _)
    go_enter Tryz.func9, Tryz.ntmps9
    go_wp2_with fail
    refine HIb.out.mono ?_
    rintro e w1 ⟨rfl, hw1⟩
    go_wp2
    refine bodyPost_ret (v := .tuple #[.slice none 0 0, .int .i64 0, .int .i64 151]) (by simp [results, Tryz.results9, go_sem]; try rfl) rfl ?_
    rw [HQ.out]
    exact ⟨_, rfl, Pt.ownT_nil _ _ _, hw1⟩
  | true =>
    by_cases hm1 : most < 1
    · have HQ : Hid (R = ([], 0, 1)) := (by rw [HRd.out, if_neg (by simp), if_pos hm1] : R = _)
      go_enter Tryz.func9, Tryz.ntmps9
      go_wp2_with fail
      refine HIb.out.mono ?_
      rintro e w1 ⟨rfl, hw1⟩
      go_wp2
      refine bodyPost_ret (v := .tuple #[.slice none 0 0, .int .i64 0, .int .i64 1]) (by simp [results, Tryz.results9, go_sem]; try rfl) rfl ?_
      rw [HQ.out]
      exact ⟨_, rfl, Pt.ownT_nil _ _ _, hw1⟩
    · have HQ0 : Hid (R = ((allP s.data.toList ([45, 45] ++ b.data.toList) most.toNat).1, errN (allP s.data.toList ([45, 45] ++ b.data.toList) most.toNat).2)) := (by rw [HRd.out, if_neg (by simp), if_neg hm1] : R = _)
      obtain ⟨k, hk⟩ : ∃ k : Nat, most = (k : Int) := ⟨most.toNat, by omega⟩
      subst hk
      have hkn : (k : Int).toNat = k := by simp
      rw [hkn] at HQ0
      have hcat : (⟨#[45, 45]⟩ : ByteArray) ++ b = str ([45, 45] ++ b.data.toList) := by
        apply eq_list
        rw [str_list, ByteArray.data_append, Array.toList_append]
      have hml2 : ([45, 45] ++ b.data.toList).length ≤ 4000000 := by simp [size_list]; omega
      have HCat : Hid ((⟨#[45, 45]⟩ : ByteArray) ++ b = str ([45, 45] ++ b.data.toList)) := hcat
      clear HRd hcat hkn
      generalize [45, 45] ++ b.data.toList = mk at *
      have HPs : Hid (∀ g w1, w.heap.size ≤ g → Below w.heap.size w w1 → SR w1 g s (str mk) 0 → Calls _ _ _ w1 _) := fun g w1 h1 h2 h3 => parts_any g s mk k (by omega) (by omega) hs hml2 w h1 w1 h2 h3 ht hml he
      have HTd : Hid (∀ q W, Below w.heap.size w W → Calls _ _ _ W _) := fun q W h => told_any q W (hg.below h)
      generalize allP s.data.toList mk k = A at *
      obtain ⟨ps, er⟩ := A
      dsimp only at HQ0 HPs
      obtain ⟨zb, hzb⟩ : ∃ zb, b.size = zb := ⟨_, rfl⟩
      have hk2 : (⟨#[45, 45]⟩ : ByteArray).size = 2 := rfl
      have had1 : ¬ (9223372036854775807 < 2 + zb) := by omega
      have hm2 : decide ((k : Int) < 1) = false := by simpa using hm1
      clear hml2 hb1
      go_enter Tryz.func9, Tryz.ntmps9
      go_wp2_with fail
      refine HIb.out.mono ?_
      rintro e w1 ⟨rfl, hw1⟩
      have HB1 : Hid (Below w.heap.size w w1) := hw1
      clear hw1 HIb
      go_wp2_with fail
      rw [HCat.out]
      obtain ⟨w2, hw2⟩ : ∃ w2, w2 = w1.alloc (.cells #[.string s, .string (str mk), .int .i64 0] 71) := ⟨_, rfl⟩
      rw [← hw2]
      have hb2 : Below w1.heap.size w1 w2 := by rw [hw2]; exact (Below.refl _ w1).alloc (Nat.le_refl _) _
      have HB2 : Hid (Below w.heap.size w w2) := HB1.out.trans (hb2.mono HB1.out.size)
      have HR2 : Hid (SR w2 w1.heap.size s (str mk) 0) := (by rw [hw2]; exact heap_alloc_new w1 _ : SR _ _ _ _ _)
      have hz1 : w.heap.size ≤ w1.heap.size := HB1.out.size
      clear hb2 hw2 hm1 hm2 had1 hk2
      refine (HPs.out w1.heap.size w2 hz1 HB2.out HR2.out).mono ?_
      rintro e w3 ⟨lv, rfl, hO3, hC3⟩
      have HB3 : Hid (Below w.heap.size w w3) := HB2.out.trans (hC3.below hz1 (HB2.out.size))
      have HO3 : Hid (Pt.OwnT 49 w.heap.size lv ps w3) := ⟨hO3.1, hO3.2.imp id (fun ⟨g, c, cur, e, hg, r⟩ => ⟨g, c, cur, e, Nat.le_trans HB2.out.size hg, r⟩)⟩
      clear hO3 hC3 HPs HR2 HB2
      go_wp2_with fail
      refine (HTd.out er w3 HB3.out).mono ?_
      rintro e w4 ⟨rfl, hb4⟩
      have HB4 : Hid (Below w.heap.size w w4) := HB3.out.trans (hb4.mono HB3.out.size)
      have HO4 : Hid (Pt.OwnT 49 w.heap.size lv ps w4) := HO3.out.below hb4
      clear hb4 HB3 HO3 HTd
      generalize errN er = E at *
      obtain ⟨e1, e2⟩ := E
      dsimp only
      go_wp2
      refine bodyPost_ret (v := .tuple #[lv, .int .i64 e1, .int .i64 e2]) (by simp [results, Tryz.results9, go_sem]; try rfl) rfl ?_
      rw [HQ0.out]
      exact ⟨_, rfl, HO4.out, HB4.out⟩

end Sr
end Go.Proofs.YtlnlhhobmgiceaaGreatDoor
