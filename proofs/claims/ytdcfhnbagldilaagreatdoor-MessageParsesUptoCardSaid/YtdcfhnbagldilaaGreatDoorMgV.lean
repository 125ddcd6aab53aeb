import Derived.Test.YtdcfhnbagldilaaGreatDoorMgU
import Derived.Laws.MakeOwn
import Derived.Laws.CopyRow
import Derived.Lib.SliceRun
set_option linter.unusedVariables false
set_option linter.unusedSimpArgs false
set_option maxRecDepth 100000
namespace Go.Proofs.YtdcfhnbagldilaaGreatDoor
open Go.RowKit Go.Shelf
namespace Ck
open Oc Tg _root_.Go.Proofs.YtdcfhnbagldilaaGreatDoor.Fd
theorem new_dec (w : World) (most room fields : Int) : Dec (w.alloc (.cells (cellsD (new most room fields) (.slice none 0 0) (.slice none 0 0) (.slice none 0 0)) 146)) w.heap.size (new most room fields) [w.heap.size] :=
  ⟨_, _, _, ⟨heap_alloc_new _ _, World.ownsRow_nil _ _ _ _, World.ownsRow_nil _ _ _ _, World.ownsRow_nil _ _ _ _, Sep.nil _⟩, rfl⟩
set_option maxHeartbeats 1000000 in
theorem New_ok (most room fields : Int) (h1 : 0 ≤ most) (h2 : 0 ≤ room) (h3 : 0 ≤ fields) (w : World) :
    Calls Tryz.prog 72 #[.int .i64 most, .int .i64 room, .int .i64 fields] w fun e w' => e = .returned (.tuple #[.pointer (some ⟨w.heap.size, 0, none⟩), .int .i64 0]) ∧ Dec w' w.heap.size (new most room fields) [w.heap.size] ∧ Below w.heap.size w w' := by
  have HN : Hid (Dec (w.alloc (.cells (cellsD (new most room fields) (.slice none 0 0) (.slice none 0 0) (.slice none 0 0)) 146)) w.heap.size (new most room fields) [w.heap.size]) := new_dec w most room fields
  have g1 : ¬ most < 0 := by omega
  have g2 : ¬ room < 0 := by omega
  have g3 : ¬ fields < 0 := by omega
  go_enter Tryz.func72, Tryz.ntmps72
  go_wp2
  go_ret2
  exact ⟨rfl, HN.out, (Below.refl _ w).alloc (Nat.le_refl _) _⟩
set_option maxHeartbeats 1000000 in
theorem Done_any {w : World} {D : Nat} {s : DS} {bs : List Nat} (H : Dec w D s bs) : Calls Tryz.prog 75 #[.pointer (some ⟨D, 0, none⟩)] w fun e w' => e = .returned (.bool s.done) ∧ w' = w := by
  obtain ⟨vl, vb, vt, c0, c1, c2, c3, c4, c5, c6, c7, c8, c9, c10, cf⟩ := H.cells
  clear c0 c2 c3 c4 c5 c6 c7 c8 c9 c10 H
  go_enter Tryz.func75, Tryz.ntmps75
  go_wp2
  go_ret
  exact ⟨rfl, rfl⟩
set_option maxHeartbeats 1000000 in
theorem Body_any {w : World} {D : Nat} {s : DS} {bs : List Nat} (H : Dec w D s bs) : Calls Tryz.prog 76 #[.pointer (some ⟨D, 0, none⟩)] w fun e w' => e = .returned (.string (str s.body)) ∧ w' = w := by
  obtain ⟨vl, vb, vt, H, _⟩ := H
  obtain ⟨c0, c1, c2, c3, c4, c5, c6, c7, c8, c9, c10, cf⟩ := row11 H.str
  have hcv := own_back H.body
  obtain ⟨a, c, rfl, _⟩ := own_form H.body
  generalize str s.body = L at *
  generalize s.body.length = n at *
  clear c0 c1 c2 c3 c4 c5 c6 c7 c8 c10 H
  go_enter Tryz.func76, Tryz.ntmps76
  go_wp2
  go_ret
  exact ⟨rfl, rfl⟩
theorem run_mkF (W : World) (n : Nat) (hn : n ≤ 2147483648) : ∃ cur : Array Value, cur.size = n * 2 ∧ (Instr.makeSlice 25 (.int .i64 (n : Int)) (.int .i64 (n : Int))).run Tryz.prog W = .ok (.slice (some ⟨W.heap.size, 0, none⟩) n n) (W.alloc (.cells cur 47 (0, 0))) := by
  obtain ⟨i0, hi, hz0, hz1, hz2⟩ := info_parts infoF
  have hr := run_make (P := Tryz.prog) W 25 47 i0 (.agg #[.string ⟨#[]⟩, .string ⟨#[]⟩]) Tryz.underlying25 hi hz0 .i64 .i64 (n : Int) (n : Int) (by omega) (Int.le_refl _) (by rw [hz2]; omega) (by omega)
  simp only [Int.toNat_natCast, hz1] at hr
  exact ⟨_, by rw [size_madeCells], hr⟩
theorem encF_ones (t : List Fl) : ∀ v ∈ encF t, v.oneCell' = true := fun v hv => by
  unfold encF encF1 at hv
  simp at hv
  obtain ⟨x, y, _, h⟩ := hv
  rcases h with rfl | rfl <;> rfl
theorem run_copyF (w : World) (ty : TypeId) (g : Nat) (n c1 c2 : Nat) (a : Addr) (cur : Array Value) (t : List Fl) (hg : w.heap[g]? = some (.cells cur 47 (0, 0))) (hd : cur.size = n * 2) (ht : t.length = n)
    (hsrc : ∀ j v, (encF t)[j]? = some v → w.cell? (a.add j) = some v) :
    (Builtin.copy_ #[25, 25] ty #[.slice (some ⟨g, 0, none⟩) n c1, .slice (some a) n c2]).run Tryz.prog w = .ok (goInt n) (w.setRow g (encF t).toArray) := by
  obtain ⟨i0, hi, hz0, hz1, hz2⟩ := info_parts infoF
  have hl := run_loadCells_list (P := Tryz.prog) w a (encF t) hsrc
  have h1 := encF_ones t
  have hlen : (encF t).length = n * 2 := by rw [encF_len, ht]
  have hst := run_storeCells_at Tryz.prog g 0 47 (encF t) 0 cur w hg (by simp [hlen, hd]) h1
  rw [hlen] at hl
  simp [Builtin.copy_, run_underlying Tryz.underlying25, Builtin.lenOf, Builtin.firstCells, sizeOf, typeInfo, hi, hz1, hl, hst, hlen]
  rw [List.drop_of_length_le (by simp [hd]), List.append_nil]
theorem run_copyF0 (w : World) (ty : TypeId) (a : Addr) (c : Nat) : (Builtin.copy_ #[25, 25] ty #[.slice (some a) 0 c, .slice none 0 0]).run Tryz.prog w = .ok (goInt 0) w := by
  obtain ⟨i0, hi, hz0, hz1, hz2⟩ := info_parts infoF
  exact run_copy_nil Tryz.prog w _ _ ty 47 a 0 c Tryz.underlying25 (by rw [hi]; rfl)
set_option maxHeartbeats 2000000 in
theorem Trailers_any {w : World} {D : Nat} {s : DS} {bs : List Nat} (H : Dec w D s bs) (hl : s.tr.length ≤ 2147483648) : Calls Tryz.prog 77 #[.pointer (some ⟨D, 0, none⟩)] w fun e w' => ∃ v, e = .returned v ∧ OwnF 47 w.heap.size v s.tr w' ∧ Below w.heap.size w w' := by
  obtain ⟨vl, vb, vt, H, _⟩ := H
  obtain ⟨c0, c1, c2, c3, c4, c5, c6, c7, c8, c9, c10, cf⟩ := row11 H.str
  obtain ⟨cur, hcs, hmk⟩ := run_mkF w s.tr.length hl
  have hDlt : D < w.heap.size := (Array.getElem?_eq_some_iff.1 H.str).1
  have hg : (w.alloc (.cells cur 47 (0, 0))).heap[w.heap.size]? = some (.cells cur 47 (0, 0)) := heap_alloc_new _ _
  have c10' : (w.alloc (.cells cur 47 (0, 0))).cell? ⟨D, 10, none⟩ = some vt := ((But.refl [] w).alloc _).cell c10 (fun e => by cases e)
  rcases H.tr.2 with ⟨rfl, h0⟩ | ⟨g, cap, cur2, rfl, _, hg2, hn2, hm2, hs2, ht2⟩
  · have hcp := fun ty => run_copyF0 (w.alloc (.cells cur 47 (0, 0))) ty ⟨w.heap.size, 0, none⟩ 0
    have HT : Hid (s.tr = []) := List.length_eq_zero_iff.1 h0
    rw [h0] at hmk hcs
    have hmk' : (Instr.makeSlice 25 (.int .i64 0) (.int .i64 0)).run Tryz.prog w = .ok (.slice (some ⟨w.heap.size, 0, none⟩) 0 0) (w.alloc (.cells cur 47 (0, 0))) := hmk
    clear hmk
    have HO : Hid (OwnF 47 w.heap.size (.slice (some ⟨w.heap.size, 0, none⟩) 0 0) [] (w.alloc (.cells cur 47 (0, 0)))) := ⟨rfl, .inr ⟨_, 0, cur, rfl, Nat.le_refl _, hg, Nat.le_refl _, by decide, by omega, by simp [encF]⟩⟩
    clear c0 c1 c2 c3 c4 c5 c6 c7 c8 c9 H hg h0 hcs hl
    go_enter Tryz.func77, Tryz.ntmps77
    go_wp2
    go_ret
    rw [HT.out]
    exact ⟨_, rfl, HO.out, (Below.refl _ w).alloc (Nat.le_refl _) _⟩
  · have hcp := fun ty => run_copyF (w.alloc (.cells cur 47 (0, 0))) ty w.heap.size s.tr.length s.tr.length cap ⟨g, 0, none⟩ cur s.tr hg hcs rfl (fun j v hj => by
      have := World.ownsRow.cells (World.ownsRow.alloc H.tr (.cells cur 47 (0, 0))) (g := g) rfl j v hj
      exact this)
    have HO : Hid (OwnF 47 w.heap.size (.slice (some ⟨w.heap.size, 0, none⟩) s.tr.length s.tr.length) s.tr ((w.alloc (.cells cur 47 (0, 0))).setRow w.heap.size (encF s.tr).toArray)) := ⟨encF_len _, .inr ⟨_, s.tr.length, (encF s.tr).toArray, rfl, Nat.le_refl _, setRow_heap _ _ cur _ _ _ hg, Nat.le_refl _, by unfold maxLen; omega, by simp [encF_len], List.take_of_length_le (by simp [encF_len])⟩⟩
    have HBl : Hid (Below w.heap.size w ((w.alloc (.cells cur 47 (0, 0))).setRow w.heap.size (encF s.tr).toArray)) := ((But.refl [w.heap.size] w).alloc _ |>.setRow (by simp) _).below (Nat.le_refl _) (fun x hx => by simp at hx; omega)
    generalize (w.alloc (.cells cur 47 (0, 0))).setRow w.heap.size (encF s.tr).toArray = w9 at *
    generalize s.tr.length = n at *
    clear c0 c1 c2 c3 c4 c5 c6 c7 c8 c9 H hg hcs
    go_enter Tryz.func77, Tryz.ntmps77
    go_wp2
    go_ret
    exact ⟨_, rfl, HO.out, HBl.out⟩
end Ck
end Go.Proofs.YtdcfhnbagldilaaGreatDoor
set_option linter.unusedVariables false
set_option linter.unusedSimpArgs false
set_option maxRecDepth 100000
namespace Go.Proofs.YtdcfhnbagldilaaGreatDoor
open Go.RowKit Go.Shelf
namespace Ck
open Oc Tg _root_.Go.Proofs.YtdcfhnbagldilaaGreatDoor.Fd
def tot (s : DS) (x : Int) : DS := { s with total := x }
theorem tot_self (s : DS) : tot s s.total = s := rfl
theorem tot_tot (s : DS) (x y : Int) : tot (tot s x) y = tot s y := rfl
structure Part (s0 : DS) (L : List UInt8) (p : Nat) (s : DS) : Prop where
  le : p ≤ L.length
  ok : Ok s p
  total : s.total = p
  eq : eat s0 L = (p + (eat s (L.drop p)).1, tot (eat s (L.drop p)).2 s0.total)
theorem Part.over {s0 s : DS} {L : List UInt8} {p : Nat} (h : Part s0 L p s) (h0 : s0.mode ≠ 5) (ht : s0.total = 0) (he : eat s (L.drop p) = (0, s)) : feedS s0 L = s ∧ feedN s0 L = p ∧ feedE s0 L = s.err := by
  have e := h.eq
  rw [he] at e
  simp only [Nat.add_zero] at e
  unfold feedS feedN feedE
  rw [if_neg h0, if_neg h0, if_neg h0, e]
  refine ⟨?_, rfl, rfl⟩
  show tot (tot s s0.total) (s0.total + (p : Int)) = s
  rw [ht, tot_tot, Int.zero_add, ← h.total, tot_self]
def RdI (w : World) (v : Value) (l : List Int) : Prop :=
  ∃ a cap, v = .slice a l.length cap ∧ l.length ≤ cap ∧ (∀ x ∈ l, -9223372036854775808 ≤ x ∧ x ≤ 9223372036854775807) ∧ (l = [] ∨ ∃ g o, a = some ⟨g, o, none⟩ ∧ ∀ j x, l[j]? = some x → w.cell? ⟨g, o + j, none⟩ = some (.int .i64 x))
theorem RdI.below {w w' : World} {v : Value} {l : List Int} (h : RdI w v l) (b : Below w.heap.size w w') : RdI w' v l := by
  obtain ⟨a, c, e, h1, h2, h3⟩ := h
  refine ⟨a, c, e, h1, h2, ?_⟩
  rcases h3 with h | ⟨g, o, e, h⟩
  · exact .inl h
  · exact .inr ⟨g, o, e, fun j x hj => (But.of_below b).cell (h j x hj) (fun e => by cases e)⟩
end Ck
end Go.Proofs.YtdcfhnbagldilaaGreatDoor
