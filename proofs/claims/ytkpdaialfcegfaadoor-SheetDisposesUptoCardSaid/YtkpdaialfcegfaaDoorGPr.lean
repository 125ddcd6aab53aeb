/-
  target: Cut at one byte; parsePlace.
-/
import Derived.Test.YtkpdaialfcegfaaDoorGChk
import Derived.Test.YtkpdaialfcegfaaDoorMgL
set_option linter.unusedVariables false
set_option linter.unusedSimpArgs false
namespace Go.Proofs.YtkpdaialfcegfaaDoor
open Go.RowKit Go.Shelf
namespace Tg
open Oc

/-- The library's MaxLen lies. -/
def ML (w : World) : Prop := ∃ m : Int, w.cell? ⟨0, 0, none⟩ = some (.int .i64 m)
theorem ML.below {w w' : World} (h : ML w) (hb : Below w.heap.size w w') : ML w' := by
  obtain ⟨m, hm⟩ := h
  exact ⟨m, (hb.cell (p := ⟨0, 0, none⟩) (cell_lt hm)).trans hm⟩
theorem ML.drew {w : World} (h : ML w) : ML w.drew := h
theorem Cut_one (s : ByteArray) (b : UInt8) (hs : s.size ≤ 4000000000) (w : World) (h : ML w) :
    Calls Tryd.prog 41 #[.string s, .string ⟨#[b]⟩] w fun e w' => e = .returned (.tuple #[.string (str (cutA b s.data.toList)), .string (str (cutB b s.data.toList)), .bool (has b s.data.toList)]) ∧ Below w.heap.size w w' := by
  obtain ⟨m, hm⟩ := h
  refine (Tryd.strings_Cut s ⟨#[b]⟩ m w (by omega) hm).mono ?_
  rintro e w' ⟨rfl, n, rfl⟩
  rw [show (⟨#[b]⟩ : ByteArray).data.toList = [b] from rfl, cut_one]
  exact ⟨rfl, ⟨rfl, rfl, rfl, Nat.le_refl _, fun _ _ => rfl⟩⟩

theorem sg_at (p : Nat) (l : List UInt8) : ∀ x ∈ sg p l, x.at_ < p + l.length := by
  match l with
  | [] => rw [sg_nil]; simp
  | c :: t =>
    intro x hx
    by_cases h : trip (c :: t) = true
    · rw [sg_trip p _ h] at hx
      have h3 := trip_len h
      rcases List.mem_cons.1 hx with rfl | hx
      · simp
      · have := sg_at (p + 3) ((c :: t).drop 3) x hx
        rw [List.length_drop] at this
        omega
    · rw [sg_one p c t (by simpa using h)] at hx
      rcases List.mem_cons.1 hx with rfl | hx
      · simp
      · have := sg_at (p + 1) t x hx
        simp; omega
termination_by l.length
decreasing_by
  · simp; omega
  · simp
theorem chk_le (ok : UInt8 → Bool) (other : Int) (l : List UInt8) : (chk ok other l).1 ≤ l.length := by
  unfold chk
  split
  · rename_i x hx
    have := sg_at 0 l x (List.mem_of_find?_eq_some hx)
    dsimp only
    omega
  · exact Nat.zero_le _
/-- A target, as a value. -/
def tgt (form : Int) (host : List UInt8) (port : Int) (path query : List UInt8) (h : Bool) : Value := .agg #[.int .i64 form, .string (str host), .int .i64 port, .string (str path), .string (str query), .bool h]
def tgt0 : Value := tgt 0 [] 0 [] [] false
/-- Path and query of a target. -/
def placeR (r : List UInt8) : (Nat × Int) := if (chk pathOk 53 (cutA 63 r)).2 ≠ 0 then chk pathOk 53 (cutA 63 r) else if (chk queryOk 54 (cutB 63 r)).2 ≠ 0 then ((cutA 63 r).length + 1 + (chk queryOk 54 (cutB 63 r)).1, (chk queryOk 54 (cutB 63 r)).2) else (0, 0)
def slashed (p : List UInt8) : List UInt8 := if p = [] then [47] else p

end Tg
end Go.Proofs.YtkpdaialfcegfaaDoor
