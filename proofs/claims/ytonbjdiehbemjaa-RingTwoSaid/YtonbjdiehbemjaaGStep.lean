/-
  One call and what the document says of it: the beginning that all kinds share.
-/
import Derived.Test.YtonbjdiehbemjaaGRef5
import Derived.Test.YtonbjdiehbemjaaGRef6
import Derived.Deep.Cut
import Derived.Deep.CutRange
set_option linter.unusedVariables false
set_option linter.unusedSimpArgs false
namespace Go.Proofs.Ytonbjdiehbemjaa
open Go.RowKit
namespace Rg

/-- The kind of calls of a number. -/
def kd (k : Int) : Nat := ((k.tmod 13 + 13) % 13).toNat
theorem kd_lt (k : Int) : kd k < 13 := by
  unfold kd
  have h1 : 0 ≤ (k.tmod 13 + 13) % 13 := Int.emod_nonneg _ (by omega)
  have h2 : (k.tmod 13 + 13) % 13 < 13 := Int.emod_lt_of_pos _ (by omega)
  omega
set_option maxRecDepth 100000 in
theorem kind13 (w : World) (k : Int) (hk0 : -9223372036854775808 ≤ k) (hk1 : k ≤ 9223372036854775807) (n : Nat) (hn : kd k = n) : Calls Try.prog 13 #[.int .i64 k, .int .i64 13] w fun e w' => e = .returned (.int .i64 (n : Int)) ∧ Below w.heap.size w w' := by
  have h1 : -13 < k.tmod 13 := by have := Int.lt_tmod_of_pos k (show (0 : Int) < 13 by omega); omega
  have h2 : k.tmod 13 < 13 := Int.tmod_lt_of_pos k (by omega)
  have h3 : 0 ≤ (k.tmod 13 + 13) % 13 := Int.emod_nonneg _ (by omega)
  have HN : Hid ((k.tmod 13 + 13) % 13 = (n : Int)) := (by rw [← hn]; unfold kd; rw [Int.toNat_of_nonneg h3] : (k.tmod 13 + 13) % 13 = (n : Int))
  clear hn
  go_enter Try.func13, Try.ntmps13
  go_wp2
  go_ret
  exact ⟨by rw [← HN.out]; rfl, Below.refl _ _⟩

theorem But.trans0 {bs : List Nat} {b0 : Nat} {a b c : World} (h : But bs a b) (k : But (b0 :: bs) b c) (hb : b0 = a.heap.size) : But bs a c :=
  ⟨k.os.trans h.os, k.tape.trans h.tape, k.output.trans h.output, Nat.le_trans h.size k.size, fun i hi hn => (k.block i (Nat.lt_of_lt_of_le hi h.size) (by simp; exact ⟨by omega, hn⟩)).trans (h.block i hi hn)⟩

theorem But.trans1 {bs : List Nat} {b : Nat} {x y z : World} (h : But bs x y) (k : But [b] y z) (hb : x.heap.size ≤ b) : But bs x z :=
  ⟨k.os.trans h.os, k.tape.trans h.tape, k.output.trans h.output, Nat.le_trans h.size k.size, fun i hi hn => (k.block i (Nat.lt_of_lt_of_le hi h.size) (by simp; omega)).trans (h.block i hi hn)⟩

theorem RdB.but' {bs : List Nat} {w w' : World} {v : Value} {l : List UInt8} (h : RdB w v l) (b : But bs w w') (hn : l ≠ [] → ∀ g, v.ownBlock = some g → g ∉ bs) : RdB w' v l := by
  obtain ⟨a, cap, rfl, hc, hz, h⟩ := h
  refine ⟨a, cap, rfl, hc, hz, ?_⟩
  rcases h with h | ⟨g, o, rfl, h⟩
  · exact .inl h
  · by_cases e : l = []
    · exact .inl e
    · exact .inr ⟨g, o, rfl, fun j x hj => b.cell (h j x hj) (hn e g rfl)⟩

/-- A slice that is not empty lies in memory. -/
theorem RdB.in {w : World} {v : Value} {l : List UInt8} (h : RdB w v l) (hl : l ≠ []) : ∀ g, v.ownBlock = some g → g < w.heap.size := by
  obtain ⟨a, cap, rfl, hc, hz, h⟩ := h
  rcases h with h | ⟨g, o, rfl, h⟩
  · exact absurd h hl
  · intro g' hg
    have e : g = g' := by simpa [Value.ownBlock] using hg
    subst e
    obtain ⟨x, hx⟩ : ∃ x, l[0]? = some x := ⟨_, List.getElem?_eq_getElem (by cases l with | nil => exact absurd rfl hl | cons _ _ => simp)⟩
    exact World.block_lt_of_cell? w _ (h 0 x hx)

/-- What a step leaves. -/
def StepPost (w : World) (p : Option Addr) (bs : List Nat) (cap : Nat) (mv : Value) (e : Ending) (w' : World) : Prop :=
  ∃ mv' h' xs', e = .returned (.tuple #[.agg #[.int .i64 ((cap : Nat) : Int), mv', .int .i64 ((h' : Nat) : Int)], .bool true]) ∧ (h' < cap ∨ (cap = 0 ∧ h' = 0)) ∧ RdB w' mv' xs' ∧ (mv' = mv ∨ ∀ g, mv'.ownBlock = some g → w.heap.size ≤ g) ∧ RingP w' p bs cap h' xs' ∧ But bs w w'

/-- What a step stands on. -/
structure StepPre (w : World) (p : Option Addr) (bs : List Nat) (cap h : Nat) (xs : List UInt8) (mv : Value) (K I N : Int) (pv : Value) (q : List UInt8) : Prop where
  ring : RingP w p bs cap h xs
  mod : RdB w mv xs
  modb : ∀ g, mv.ownBlock = some g → g ∉ bs
  head : h < cap ∨ (cap = 0 ∧ h = 0)
  k0 : -9223372036854775808 ≤ K
  k1 : K ≤ 9223372036854775807
  i0 : -9223372036854775808 ≤ I
  i1 : I ≤ 9223372036854775807
  n0 : -9223372036854775808 ≤ N
  n1 : N ≤ 9223372036854775807
  arg : RdB w pv q
  argb : q ≠ [] → ∀ g, pv.ownBlock = some g → g ∉ bs
  len : q.length ≤ 140737488351232
  ml : ML w
  mlb : 0 ∉ bs

/-- Every call. -/
def StepAll : Prop := ∀ {w : World} {p : Option Addr} {bs : List Nat} {cap h : Nat} {xs : List UInt8} {mv : Value} {K I N : Int} {pv : Value} {q : List UInt8}, StepPre w p bs cap h xs mv K I N pv q →
    Calls Try.prog 11 #[.pointer p, .agg #[.int .i64 (cap : Int), mv, .int .i64 (h : Int)], .agg #[.int .i64 K, .int .i64 I, .int .i64 N, pv]] w (StepPost w p bs cap mv)

end Rg
end Go.Proofs.Ytonbjdiehbemjaa
