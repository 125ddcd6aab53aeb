/-
  The law's own plain, handed, whole.
-/
import Derived.Test.YticncpjpkgdnlaaGreatDoorMgD
set_option linter.unusedVariables false
set_option linter.unusedSimpArgs false
namespace Go.Proofs.YticncpjpkgdnlaaGreatDoor
open Go.RowKit Go.Shelf
namespace Fd
open Oc Tg

/-- The two fields of spare room. -/
def spareF : List Fl := [([115, 112, 97, 114, 101], []), ([114, 111, 111, 109], [])]
theorem rd_two (w : World) (T : Nat) : InF (.slice (some ⟨w.heap.size, 0, none⟩) 2 2) spareF (w.alloc (.cells #[.string ⟨#[115, 112, 97, 114, 101]⟩, .string ⟨#[]⟩, .string ⟨#[114, 111, 111, 109]⟩, .string ⟨#[]⟩] T)) := by
  refine ⟨⟨_, _, rfl, .inr ⟨w.heap.size, 0, rfl, by simp [spareF], fun j hj => ?_⟩⟩, fun e => by cases e⟩
  have hj2 : j < 2 := by simpa [spareF] using hj
  match j, hj2 with
  | 0, _ => exact ⟨by simp [nth, spareF, str], by simp [nth, spareF, str]⟩
  | 1, _ => exact ⟨by simp [nth, spareF, str], by simp [nth, spareF, str]⟩
theorem RdF.front {a : Option Addr} {n c : Nat} {t u : List Fl} {w : World} (h : RdF (.slice a n c) (t ++ u) w) : RdF (.slice a t.length c) t w := by
  obtain ⟨a', c', e, h⟩ := h
  injection e with e1 e2 e3
  subst e1 e3
  refine ⟨a, c, rfl, ?_⟩
  rcases h with h | ⟨g, o, rfl, hc, hcell⟩
  · exact .inl (List.append_eq_nil_iff.1 h).1
  · refine .inr ⟨g, o, rfl, by rw [List.length_append] at hc; omega, fun j hj => ?_⟩
    have := hcell j (by rw [List.length_append]; omega)
    rw [show nth (t ++ u) j = nth t j by unfold nth; rw [List.getD_eq_getElem?_getD, List.getD_eq_getElem?_getD, List.getElem?_append_left hj]] at this
    exact this

theorem RdF.cap {a : Option Addr} {n c : Nat} {t : List Fl} {w : World} (h : RdF (.slice a n c) t w) : t.length ≤ c := by
  obtain ⟨a', c', e, h⟩ := h
  injection e with e1 e2 e3
  subst e3
  rcases h with h | ⟨g, o, _, hc, _⟩
  · rw [h]; exact Nat.zero_le _
  · exact hc
theorem RdF.some {a : Option Addr} {n c : Nat} {t : List Fl} {w : World} (h : RdF (.slice a n c) t w) (ht : t ≠ []) : ∃ g, a = .some g := by
  obtain ⟨a', c', e, h⟩ := h
  injection e with e1 e2 e3
  subst e1
  rcases h with h | ⟨g, o, e, _, _⟩
  · exact absurd h ht
  · exact ⟨_, e⟩

end Fd
end Go.Proofs.YticncpjpkgdnlaaGreatDoor
