/-
  chunk: New, Done, Err, Body, Total, Trailers.
-/
import Derived.Test.YtifhbjkgdnemjaaGreatDoorCkJ
import Derived.Laws.MakeOwn
import Derived.Laws.CopyRow
import Derived.Lib.SliceRun
set_option linter.unusedVariables false
set_option linter.unusedSimpArgs false
set_option maxRecDepth 100000
namespace Go.Proofs.YtifhbjkgdnemjaaGreatDoor
open Go.RowKit Go.Shelf
namespace Ck
open Oc Tg _root_.Go.Proofs.YtifhbjkgdnemjaaGreatDoor.Fd

theorem new_dec (w : World) (most room fields : Int) : Dec (w.alloc (.cells (cellsD (new most room fields) (.slice none 0 0) (.slice none 0 0) (.slice none 0 0)) 87)) w.heap.size (new most room fields) [w.heap.size] :=
  ⟨_, _, _, ⟨heap_alloc_new _ _, World.ownsRow_nil _ _ _ _, World.ownsRow_nil _ _ _ _, World.ownsRow_nil _ _ _ _, Sep.nil _⟩, rfl⟩

set_option maxHeartbeats 1000000 in
theorem New_ok (most room fields : Int) (h1 : 0 ≤ most) (h2 : 0 ≤ room) (h3 : 0 ≤ fields) (w : World) :
    Calls Tryz.prog 22 #[.int .i64 most, .int .i64 room, .int .i64 fields] w fun e w' => e = .returned (.tuple #[.pointer (some ⟨w.heap.size, 0, none⟩), .int .i64 0]) ∧ Dec w' w.heap.size (new most room fields) [w.heap.size] ∧ Below w.heap.size w w' := by
  have HN : Hid (Dec (w.alloc (.cells (cellsD (new most room fields) (.slice none 0 0) (.slice none 0 0) (.slice none 0 0)) 87)) w.heap.size (new most room fields) [w.heap.size]) := new_dec w most room fields
  have g1 : ¬ most < 0 := by omega
  have g2 : ¬ room < 0 := by omega
  have g3 : ¬ fields < 0 := by omega
  go_enter Tryz.func22, Tryz.ntmps22
  go_wp2
  go_ret2
  exact ⟨rfl, HN.out, (Below.refl _ w).alloc (Nat.le_refl _) _⟩

set_option maxHeartbeats 1000000 in
theorem New_no (most room fields : Int) (h : most < 0 ∨ room < 0 ∨ fields < 0) (w : World) :
    Calls Tryz.prog 22 #[.int .i64 most, .int .i64 room, .int .i64 fields] w fun e w' => e = .returned (.tuple #[.pointer none, .int .i64 1]) ∧ Below w.heap.size w w' := by
  by_cases g1 : most < 0
  · clear h
    go_enter Tryz.func22, Tryz.ntmps22
    go_wp2
    go_ret2
    exact ⟨rfl, Below.refl _ _⟩
  by_cases g2 : room < 0
  · clear h
    go_enter Tryz.func22, Tryz.ntmps22
    go_wp2
    go_ret2
    exact ⟨rfl, Below.refl _ _⟩
  · have g3 : fields < 0 := by omega
    clear h
    go_enter Tryz.func22, Tryz.ntmps22
    go_wp2
    go_ret2
    exact ⟨rfl, Below.refl _ _⟩

set_option maxHeartbeats 1000000 in
theorem Body_any {w : World} {D : Nat} {s : DS} {bs : List Nat} (H : Dec w D s bs) : Calls Tryz.prog 38 #[.pointer (some ⟨D, 0, none⟩)] w fun e w' => e = .returned (.string (str s.body)) ∧ w' = w := by
  obtain ⟨vl, vb, vt, H, _⟩ := H
  obtain ⟨c0, c1, c2, c3, c4, c5, c6, c7, c8, c9, c10, cf⟩ := row11 H.str
  have hcv := own_back H.body
  obtain ⟨a, c, rfl, _⟩ := own_form H.body
  generalize str s.body = L at *
  generalize s.body.length = n at *
  clear c0 c1 c2 c3 c4 c5 c6 c7 c8 c10 H
  go_enter Tryz.func38, Tryz.ntmps38
  go_wp2
  go_ret
  exact ⟨rfl, rfl⟩

theorem run_mkF (W : World) (n : Nat) (hn : n ≤ 2147483648) : ∃ cur : Array Value, cur.size = n * 2 ∧ (Instr.makeSlice 37 (.int .i64 (n : Int)) (.int .i64 (n : Int))).run Tryz.prog W = .ok (.slice (some ⟨W.heap.size, 0, none⟩) n n) (W.alloc (.cells cur 39 (0, 0))) := by
  obtain ⟨i0, hi, hz0, hz1, hz2⟩ := info_parts infoF
  have hr := run_make (P := Tryz.prog) W 37 39 i0 (.agg #[.string ⟨#[]⟩, .string ⟨#[]⟩]) Tryz.underlying37 hi hz0 .i64 .i64 (n : Int) (n : Int) (by omega) (Int.le_refl _) (by rw [hz2]; omega) (by omega)
  simp only [Int.toNat_natCast, hz1] at hr
  exact ⟨_, by rw [size_madeCells], hr⟩
theorem encF_ones (t : List Fl) : ∀ v ∈ encF t, v.oneCell' = true := fun v hv => by
  unfold encF encF1 at hv
  simp at hv
  obtain ⟨x, y, _, h⟩ := hv
  rcases h with rfl | rfl <;> rfl
/-- 'copy' of fields into a row of the call's own, as long. -/
theorem run_copyF (w : World) (ty : TypeId) (g : Nat) (n c1 c2 : Nat) (a : Addr) (cur : Array Value) (t : List Fl) (hg : w.heap[g]? = some (.cells cur 39 (0, 0))) (hd : cur.size = n * 2) (ht : t.length = n)
    (hsrc : ∀ j v, (encF t)[j]? = some v → w.cell? (a.add j) = some v) :
    (Builtin.copy_ #[37, 37] ty #[.slice (some ⟨g, 0, none⟩) n c1, .slice (some a) n c2]).run Tryz.prog w = .ok (goInt n) (w.setRow g (encF t).toArray) := by
  obtain ⟨i0, hi, hz0, hz1, hz2⟩ := info_parts infoF
  have hl := run_loadCells_list (P := Tryz.prog) w a (encF t) hsrc
  have h1 := encF_ones t
  have hlen : (encF t).length = n * 2 := by rw [encF_len, ht]
  have hst := run_storeCells_at Tryz.prog g 0 39 (encF t) 0 cur w hg (by simp [hlen, hd]) h1
  rw [hlen] at hl
  simp [Builtin.copy_, run_underlying Tryz.underlying37, Builtin.lenOf, Builtin.firstCells, sizeOf, typeInfo, hi, hz1, hl, hst, hlen]
  rw [List.drop_of_length_le (by simp [hd]), List.append_nil]
theorem run_copyF0 (w : World) (ty : TypeId) (a : Addr) (c : Nat) : (Builtin.copy_ #[37, 37] ty #[.slice (some a) 0 c, .slice none 0 0]).run Tryz.prog w = .ok (goInt 0) w := by
  obtain ⟨i0, hi, hz0, hz1, hz2⟩ := info_parts infoF
  exact run_copy_nil Tryz.prog w _ _ ty 39 a 0 c Tryz.underlying37 (by rw [hi]; rfl)

set_option maxHeartbeats 2000000 in
theorem Trailers_any {w : World} {D : Nat} {s : DS} {bs : List Nat} (H : Dec w D s bs) (hl : s.tr.length ≤ 2147483648) : Calls Tryz.prog 24 #[.pointer (some ⟨D, 0, none⟩)] w fun e w' => ∃ v, e = .returned v ∧ OwnF 39 w.heap.size v s.tr w' ∧ Below w.heap.size w w' := by
  obtain ⟨vl, vb, vt, H, _⟩ := H
  obtain ⟨c0, c1, c2, c3, c4, c5, c6, c7, c8, c9, c10, cf⟩ := row11 H.str
  obtain ⟨cur, hcs, hmk⟩ := run_mkF w s.tr.length hl
  have hDlt : D < w.heap.size := (Array.getElem?_eq_some_iff.1 H.str).1
  have hg : (w.alloc (.cells cur 39 (0, 0))).heap[w.heap.size]? = some (.cells cur 39 (0, 0)) := heap_alloc_new _ _
  have c10' : (w.alloc (.cells cur 39 (0, 0))).cell? ⟨D, 10, none⟩ = some vt := ((But.refl [] w).alloc _).cell c10 (fun e => by cases e)
  rcases H.tr.2 with ⟨rfl, h0⟩ | ⟨g, cap, cur2, rfl, _, hg2, hn2, hm2, hs2, ht2⟩
  · have hcp := fun ty => run_copyF0 (w.alloc (.cells cur 39 (0, 0))) ty ⟨w.heap.size, 0, none⟩ 0
    have HT : Hid (s.tr = []) := List.length_eq_zero_iff.1 h0
    rw [h0] at hmk hcs
    have hmk' : (Instr.makeSlice 37 (.int .i64 0) (.int .i64 0)).run Tryz.prog w = .ok (.slice (some ⟨w.heap.size, 0, none⟩) 0 0) (w.alloc (.cells cur 39 (0, 0))) := hmk
    clear hmk
    have HO : Hid (OwnF 39 w.heap.size (.slice (some ⟨w.heap.size, 0, none⟩) 0 0) [] (w.alloc (.cells cur 39 (0, 0)))) := ⟨rfl, .inr ⟨_, 0, cur, rfl, Nat.le_refl _, hg, Nat.le_refl _, by decide, by omega, by simp [encF]⟩⟩
    clear c0 c1 c2 c3 c4 c5 c6 c7 c8 c9 H hg h0 hcs hl
    go_enter Tryz.func24, Tryz.ntmps24
    go_wp2
    go_ret
    rw [HT.out]
    exact ⟨_, rfl, HO.out, (Below.refl _ w).alloc (Nat.le_refl _) _⟩
  · have hcp := fun ty => run_copyF (w.alloc (.cells cur 39 (0, 0))) ty w.heap.size s.tr.length s.tr.length cap ⟨g, 0, none⟩ cur s.tr hg hcs rfl (fun j v hj => by
      have := World.ownsRow.cells (World.ownsRow.alloc H.tr (.cells cur 39 (0, 0))) (g := g) rfl j v hj
      exact this)
    have HO : Hid (OwnF 39 w.heap.size (.slice (some ⟨w.heap.size, 0, none⟩) s.tr.length s.tr.length) s.tr ((w.alloc (.cells cur 39 (0, 0))).setRow w.heap.size (encF s.tr).toArray)) := ⟨encF_len _, .inr ⟨_, s.tr.length, (encF s.tr).toArray, rfl, Nat.le_refl _, setRow_heap _ _ cur _ _ _ hg, Nat.le_refl _, by unfold maxLen; omega, by simp [encF_len], List.take_of_length_le (by simp [encF_len])⟩⟩
    have HBl : Hid (Below w.heap.size w ((w.alloc (.cells cur 39 (0, 0))).setRow w.heap.size (encF s.tr).toArray)) := ((But.refl [w.heap.size] w).alloc _ |>.setRow (by simp) _).below (Nat.le_refl _) (fun x hx => by simp at hx; omega)
    generalize (w.alloc (.cells cur 39 (0, 0))).setRow w.heap.size (encF s.tr).toArray = w9 at *
    generalize s.tr.length = n at *
    clear c0 c1 c2 c3 c4 c5 c6 c7 c8 c9 H hg hcs
    go_enter Tryz.func24, Tryz.ntmps24
    go_wp2
    go_ret
    exact ⟨_, rfl, HO.out, HBl.out⟩

end Ck
end Go.Proofs.YtifhbjkgdnemjaaGreatDoor
