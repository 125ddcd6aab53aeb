/-
  The makers of the functions that take pieces.
-/
import Derived.Test.YtjngpafokkjkdaaGreatDoorSTk
set_option linter.unusedVariables false
set_option linter.unusedSimpArgs false
namespace Go.Proofs.YtjngpafokkjkdaaGreatDoor
open Go.RowKit
namespace Bs

theorem one_cell (w : World) (v : Value) (T : TypeId) : (w.alloc (.cells #[v] T)).cell? ⟨w.heap.size, 0, none⟩ = some v := by simp
theorem cell_alloc {w : World} {p : Addr} {v : Value} (h : w.cell? p = some v) (o : Obj) : (w.alloc o).cell? p = some v := ((But.refl [] w).alloc o).cell h (fun e => by cases e)

set_option maxHeartbeats 400000 in
theorem exactly_any (t : List UInt8) (P : Nat) (w : World) (hP : P < w.heap.size) :
    Calls Tryz.prog 111 #[.string (str t)] w fun e w' => ∃ v, e = .returned v ∧ Tk w' P (.ex t) v ∧ Below w.heap.size w w' := by
  have hmf : ∀ (fn : Fn) (first cap : Array Value) (w : World), (Instr.makeFunc fn first cap).run Tryz.prog w = .ok (.func fn first cap) w := fun _ _ _ _ => rfl
  go_enter Tryz.func111, Tryz.ntmps111
  go_wp2
  go_ret
  exact ⟨_, rfl, ⟨w.heap.size, rfl, one_cell w _ _, by omega⟩, ((But.refl [] w).alloc _).to_below⟩

set_option maxHeartbeats 400000 in
theorem digits_any (n f P : Nat) (w : World) (hP : P < w.heap.size) :
    Calls Tryz.prog 110 #[.int .i64 (n : Int), pp P (2 * f)] w fun e w' => ∃ v, e = .returned v ∧ Tk w' P (.dg n f) v ∧ Below w.heap.size w w' := by
  have hmf : ∀ (fn : Fn) (first cap : Array Value) (w : World), (Instr.makeFunc fn first cap).run Tryz.prog w = .ok (.func fn first cap) w := fun _ _ _ _ => rfl
  unfold pp
  go_enter Tryz.func110, Tryz.ntmps110
  go_wp2
  go_ret
  refine ⟨_, rfl, ⟨w.heap.size + 1, w.heap.size, rfl, ?_, cell_alloc (one_cell w _ _) _, by omega, by omega⟩, (((But.refl [] w).alloc _).alloc _).to_below⟩
  simp [pp]

set_option maxHeartbeats 400000 in
theorem name_any (k f P : Nat) (w : World) (hP : P < w.heap.size) :
    Calls Tryz.prog 106 #[.int .i64 ((nms k).length : Int), .func (.func (fnm k)) #[] #[], pp P (2 * f)] w fun e w' => ∃ v, e = .returned v ∧ Tk w' P (.nm k f) v ∧ Below w.heap.size w w' := by
  have hmf : ∀ (fn : Fn) (first cap : Array Value) (w : World), (Instr.makeFunc fn first cap).run Tryz.prog w = .ok (.func fn first cap) w := fun _ _ _ _ => rfl
  unfold pp
  generalize hA : Value.int .i64 ((nms k).length : Int) = A
  generalize hB : Value.func (.func (fnm k)) #[] #[] = B
  go_enter Tryz.func106, Tryz.ntmps106
  go_wp2
  go_ret
  refine ⟨_, rfl, ⟨w.heap.size, w.heap.size + 1, w.heap.size + 1 + 1, rfl, ?_, ?_, ?_, by omega, by omega, by omega⟩, ((((But.refl [] w).alloc _).alloc _).alloc _).to_below⟩
  · rw [hA]
    exact cell_alloc (cell_alloc (one_cell w _ _) _) _
  · rw [hB]
    have := cell_alloc (one_cell (w.alloc (.cells #[A] 3)) B 122) (.cells #[.pointer (some ⟨P, 2 * f, none⟩)] 152)
    simpa using this
  · have := one_cell ((w.alloc (.cells #[A] 3)).alloc (.cells #[B] 122)) (.pointer (some ⟨P, 2 * f, none⟩)) 152
    simpa [pp] using this

set_option maxHeartbeats 400000 in
theorem loose_any (f P : Nat) (v : Value) (w : World) (hP : P < w.heap.size) (hv : Tk w P (.dg 2 f) v) :
    Calls Tryz.prog 112 #[v, pp P (2 * f)] w fun e w' => ∃ v', e = .returned v' ∧ Tk w' P (.lo f) v' ∧ Below w.heap.size w w' := by
  have hmf : ∀ (fn : Fn) (first cap : Array Value) (w : World), (Instr.makeFunc fn first cap).run Tryz.prog w = .ok (.func fn first cap) w := fun _ _ _ _ => rfl
  obtain ⟨c, d, hv, h1, h2, n1, n2⟩ := hv
  have HV : Hid (_ = _) := hv
  have H1 : Hid (_ = _) := h1
  have H2 : Hid (_ = _) := h2
  clear hv h1 h2
  unfold pp
  go_enter Tryz.func112, Tryz.ntmps112
  go_wp2
  go_ret
  refine ⟨_, rfl, ⟨w.heap.size, w.heap.size + 1, c, d, rfl, ?_, ?_, cell_alloc (cell_alloc H1.out _) _, cell_alloc (cell_alloc H2.out _) _, by omega, by omega, n1, n2⟩, (((But.refl [] w).alloc _).alloc _).to_below⟩
  · rw [← HV.out]
    exact cell_alloc (one_cell w _ _) _
  · simp [pp]

def fnOf : TK → Nat
  | .ex _ => 121
  | .dg _ _ => 120
  | .nm _ _ => 119
  | .lo _ => 122
theorem Tk.fn {w : World} {P : Nat} {t : TK} {v : Value} (h : Tk w P t v) : ∃ c, v = .func (.func (fnOf t)) #[] c := by
  cases t with
  | ex t => obtain ⟨a, rfl, _⟩ := h; exact ⟨_, rfl⟩
  | dg n f => obtain ⟨a, c, rfl, _⟩ := h; exact ⟨_, rfl⟩
  | nm k f => obtain ⟨a, c, d, rfl, _⟩ := h; exact ⟨_, rfl⟩
  | lo f => obtain ⟨a, c, d, x, rfl, _⟩ := h; exact ⟨_, rfl⟩

end Bs
end Go.Proofs.YtjngpafokkjkdaaGreatDoor
