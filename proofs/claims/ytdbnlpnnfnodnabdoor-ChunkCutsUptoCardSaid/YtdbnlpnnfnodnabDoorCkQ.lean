/-
  chunk: how a text is cut has no part, plain; the law's kind; slices of numbers.
-/
import Derived.Test.YtdbnlpnnfnodnabDoorCkK
import Derived.Test.YtdbnlpnnfnodnabDoorCkL
set_option linter.unusedVariables false
set_option linter.unusedSimpArgs false
set_option maxRecDepth 100000
namespace Go.Proofs.YtdbnlpnnfnodnabDoor
open Go.RowKit Go.Shelf
namespace Ck
open Oc Tg _root_.Go.Proofs.YtdbnlpnnfnodnabDoor.Fd

def tot (s : DS) (x : Int) : DS := { s with total := x }
theorem tot_self (s : DS) : tot s s.total = s := rfl
theorem tot_tot (s : DS) (x y : Int) : tot (tot s x) y = tot s y := rfl
theorem fin_tot (s : DS) (x e : Int) : fin (tot s x) e = tot (fin s e) x := rfl
theorem tot_ite (c : Prop) [Decidable c] (a b : DS) (x : Int) : tot (if c then a else b) x = if c then tot a x else tot b x := by split <;> rfl
theorem endSize_tot (s : DS) (x : Int) : endSize (tot s x) = tot (endSize s) x := by
  unfold endSize
  rw [tot_ite, tot_ite, tot_ite, tot_ite]
  rfl
theorem inSize_tot (s : DS) (x : Int) (c : UInt8) : inSize (tot s x) c = tot (inSize s c) x := by
  unfold inSize
  rw [tot_ite, tot_ite, ← endSize_tot]
  rfl
theorem behindChunk_tot (s : DS) (x : Int) (c : UInt8) : behindChunk (tot s x) c = tot (behindChunk s c) x := by
  unfold behindChunk
  rw [tot_ite]
  rfl
theorem behindReturn_tot (s : DS) (x : Int) (c : UInt8) : behindReturn (tot s x) c = tot (behindReturn s c) x := by
  unfold behindReturn
  rw [tot_ite]
  rfl
theorem keep_tot (s : DS) (x : Int) (l : List UInt8) : keep (tot s x) l = tot (keep s l) x := by
  unfold keep
  rw [tot_ite]
  rfl
theorem endTrailer_tot (s : DS) (x : Int) : endTrailer (tot s x) = tot (endTrailer s) x := by
  unfold endTrailer
  rw [tot_ite, tot_ite, tot_ite, ← keep_tot]
  rfl
theorem inTrailers_tot (s : DS) (x : Int) (c : UInt8) : inTrailers (tot s x) c = tot (inTrailers s c) x := by
  unfold inTrailers
  rw [tot_ite, tot_ite, ← endTrailer_tot]
  rfl
theorem bstep_tot (s : DS) (x : Int) (c : UInt8) : bstep (tot s x) c = tot (bstep s c) x := by
  unfold bstep
  have hm : (tot s x).mode = s.mode := rfl
  rw [hm]
  generalize s.mode = m
  match m with
  | 0 => exact inSize_tot s x c
  | 1 => rfl
  | 2 => exact behindChunk_tot s x c
  | 3 => exact behindReturn_tot s x c
  | 4 => exact inTrailers_tot s x c
  | _ + 5 => rfl
theorem eat_tot : ∀ (l : List UInt8) (s : DS) (x : Int), eat (tot s x) l = ((eat s l).1, tot (eat s l).2 x)
  | [], s, x => by rw [eat_nil, eat_nil]
  | c :: l, s, x => by
    by_cases h : s.mode = 5
    · rw [eat_over h, eat_over (s := tot s x) h]
    · rw [eat_cons h, eat_cons (s := tot s x) h, bstep_tot, eat_tot l]

/-- What is left of a text for one that took the first of it, in pieces. -/
structure Part (s0 : DS) (L : List UInt8) (p : Nat) (s : DS) : Prop where
  le : p ≤ L.length
  ok : Ok s p
  total : s.total = p
  eq : eat s0 L = (p + (eat s (L.drop p)).1, tot (eat s (L.drop p)).2 s0.total)
theorem Part.start {s0 : DS} (h : Ok s0 0) (L : List UInt8) (ht : s0.total = 0) : Part s0 L 0 s0 := by
  refine ⟨Nat.zero_le _, h, ht, ?_⟩
  have e := eat_tot (L.drop 0) s0 s0.total
  rw [tot_self] at e
  have e2 := congrArg Prod.snd e
  simp only at e2
  rw [← e2, List.drop_zero, Nat.zero_add]
theorem Part.feed {s0 s : DS} {L : List UInt8} {p : Nat} (h : Part s0 L p s) (hm : s.mode ≠ 5) (k : Nat) (hk : k ≤ (L.drop p).length) :
    Part s0 L (p + (eat s ((L.drop p).take k)).1) (feedS s ((L.drop p).take k)) := by
  have hle := eat_le ((L.drop p).take k) s
  rw [List.length_take] at hle
  have hl := h.le
  rw [List.length_drop] at hk hle
  have ho := eat_ok ((L.drop p).take k) s p h.ok
  have hf : feedS s ((L.drop p).take k) = tot (eat s ((L.drop p).take k)).2 ((eat s ((L.drop p).take k)).2.total + (eat s ((L.drop p).take k)).1) := by unfold feedS; rw [if_neg hm]; rfl
  have htt : (eat s ((L.drop p).take k)).2.total = p := by
    have e := congrArg Prod.snd (eat_tot ((L.drop p).take k) s s.total)
    rw [tot_self] at e
    rw [e]
    exact h.total
  rw [hf, htt]
  refine ⟨by omega, ?_, ?_, ?_⟩
  · exact ⟨ho.mode, ho.most, ho.room, ho.fields, ho.left, ho.pos, ⟨by show (0 : Int) ≤ p + _; omega, by show (p : Int) + _ ≤ ((p + _ : Nat) : Int); omega⟩, ho.len, ho.size, ho.bare, ho.over⟩
  · show (p : Int) + _ = ((p + _ : Nat) : Int); omega
  · rw [h.eq, eat_tot]
    have e1 : eat s (L.drop p) = ((eat s ((L.drop p).take k)).1 + (eat (eat s ((L.drop p).take k)).2 ((L.drop p).drop k)).1, (eat (eat s ((L.drop p).take k)).2 ((L.drop p).drop k)).2) := by
      conv => lhs; rw [← List.take_append_drop k (L.drop p)]
      exact eat_app _ _ _
    rw [e1]
    by_cases h5 : (eat s ((L.drop p).take k)).2.mode = 5
    · rw [eat_over h5, eat_over h5]
      simp only [tot_tot]
      simp
    · have ha := eat_all _ _ h5
      rw [List.length_take, List.length_drop, Nat.min_eq_left hk] at ha
      rw [ha, List.drop_drop]
      simp only [tot_tot]
      rw [Nat.add_assoc]
/-- One that is over, or has taken the rest, is as it would be at once. -/
theorem Part.over {s0 s : DS} {L : List UInt8} {p : Nat} (h : Part s0 L p s) (h0 : s0.mode ≠ 5) (ht : s0.total = 0) (he : eat s (L.drop p) = (0, s)) : feedS s0 L = s ∧ feedN s0 L = p ∧ feedE s0 L = s.err := by
  have e := h.eq
  rw [he] at e
  simp only [Nat.add_zero] at e
  unfold feedS feedN feedE
  rw [if_neg h0, if_neg h0, if_neg h0, e]
  refine ⟨?_, rfl, rfl⟩
  show tot (tot s s0.total) (s0.total + (p : Int)) = s
  rw [ht, tot_tot, Int.zero_add, ← h.total, tot_self]

/-- The value is a slice of these numbers. -/
def RdI (w : World) (v : Value) (l : List Int) : Prop :=
  ∃ a cap, v = .slice a l.length cap ∧ l.length ≤ cap ∧ (∀ x ∈ l, -9223372036854775808 ≤ x ∧ x ≤ 9223372036854775807) ∧ (l = [] ∨ ∃ g o, a = some ⟨g, o, none⟩ ∧ ∀ j x, l[j]? = some x → w.cell? ⟨g, o + j, none⟩ = some (.int .i64 x))
theorem RdI.below {w w' : World} {v : Value} {l : List Int} (h : RdI w v l) (b : Below w.heap.size w w') : RdI w' v l := by
  obtain ⟨a, c, e, h1, h2, h3⟩ := h
  refine ⟨a, c, e, h1, h2, ?_⟩
  rcases h3 with h | ⟨g, o, e, h⟩
  · exact .inl h
  · exact .inr ⟨g, o, e, fun j x hj => (But.of_below b).cell (h j x hj) (fun e => by cases e)⟩

set_option maxHeartbeats 1000000 in
theorem kind_any (w : World) (k n : Int) (hk0 : -9223372036854775808 ≤ k) (hk1 : k ≤ 9223372036854775807) (hn0 : 1 ≤ n) (hn1 : n ≤ 4611686018427387903) : Calls Tryd.prog 9 #[.int .i64 k, .int .i64 n] w fun e w' => ∃ j : Nat, e = .returned (.int .i64 j) ∧ (j : Int) < n ∧ Below w.heap.size w w' := by
  have h1 : -n < k.tmod n := by
    have := Int.lt_tmod_of_pos k (show 0 < n by omega)
    omega
  have h2 : k.tmod n < n := Int.tmod_lt_of_pos k (by omega)
  have h3 : 0 ≤ (k.tmod n + n) % n := Int.emod_nonneg _ (by omega)
  have h4 : (k.tmod n + n) % n < n := Int.emod_lt_of_pos _ (by omega)
  have hz : (n == 0) = false := by simp; omega
  go_enter Tryd.func9, Tryd.ntmps9
  go_wp2
  go_ret
  refine ⟨((k.tmod n + n) % n).toNat, ?_, ?_, Below.refl _ _⟩
  · rw [Int.toNat_of_nonneg h3]; rfl
  · rw [Int.toNat_of_nonneg h3]; exact h4

end Ck
end Go.Proofs.YtdbnlpnnfnodnabDoor
