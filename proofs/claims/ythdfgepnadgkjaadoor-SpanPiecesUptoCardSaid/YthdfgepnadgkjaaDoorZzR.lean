/- Several texts as one. -/
import Derived.Test.YthdfgepnadgkjaaDoorZzQ
import Derived.Test.YthdfgepnadgkjaaDoorZzF
import Derived.Test.YthdfgepnadgkjaaDoorZzD
import Derived.Test.YthdfgepnadgkjaaDoorQkC
/-
  A strings.Builder: its buffer lies at or beyond B, what is written turns the builder's own block and the buffer alone.
-/
set_option linter.unusedVariables false
set_option linter.unusedSimpArgs false
namespace Go.Proofs.YthdfgepnadgkjaaDoor
open Go.RowKit Go.Shelf
namespace Tg
open Oc

/-- What a write turns: block b, and blocks at or beyond B that are cells. -/
structure Fr (B b : Nat) (w w' : World) : Prop where
  os : w'.os = w.os
  tape : w'.tape = w.tape
  output : w'.output = w.output
  block : ∀ k, k < B → k ≠ b → w'.heap[k]? = w.heap[k]?
  others : KeepsOthers w w'
theorem Fr.size {B b : Nat} {w w' : World} (h : Fr B b w w') : w.heap.size ≤ w'.heap.size := h.others.size
theorem Fr.refl (B b : Nat) (w : World) : Fr B b w w := ⟨rfl, rfl, rfl, fun _ _ _ => rfl, KeepsOthers.refl w⟩
theorem Fr.trans {B b : Nat} {x y z : World} (h : Fr B b x y) (k : Fr B b y z) : Fr B b x z :=
  ⟨k.os.trans h.os, k.tape.trans h.tape, k.output.trans h.output, fun i hi hb => (k.block i hi hb).trans (h.block i hi hb), h.others.trans k.others⟩
theorem Fr.keep {B b c : Nat} {w w' : World} (h : Fr B b w w') (hc : c < B) (hb : c ≠ b) : Keep c w w' := h.block c hc hb
theorem Fr.below {B b n : Nat} {w w' : World} (h : Fr B b w w') (hn : n ≤ B) (hb : n ≤ b) : Below n w w' := ⟨h.os, h.tape, h.output, h.size, fun k hk => h.block k (by omega) (by omega)⟩
theorem Fr.of_below {B b : Nat} {w w' : World} (h : Below w.heap.size w w') (hB : B ≤ w.heap.size) : Fr B b w w' :=
  ⟨h.os, h.tape, h.output, fun k hk _ => h.block k (by omega), ⟨h.size, fun k o hk _ => (h.block k (Array.getElem?_eq_some_iff.1 hk).1).trans hk⟩⟩
theorem Fr.set {B b j : Nat} (w : World) (v : Value) : Fr B b w (w.setCell ⟨b, j, none⟩ v) :=
  ⟨rfl, rfl, rfl, fun k _ hb => Below.heap_setCell _ _ _ _ hb, KeepsOthers.setCell w _ v⟩
theorem Fr.alloc {B b : Nat} (w : World) (o : Obj) (hB : B ≤ w.heap.size) : Fr B b w (w.alloc o) :=
  ⟨rfl, rfl, rfl, fun k hk _ => Lib.alloc_old w o k (by omega), KeepsOthers.alloc w o⟩
theorem Fr.grown {B b : Nat} {w w' : World} {v : Value} {n : Nat} {xs : List Value} (hg : w.grownBy w' v.ownBlock) (ho : w.ownsRow B 5 1 v n xs) (hB : B ≤ w.heap.size) : Fr B b w w' :=
  ⟨hg.os, hg.tape, hg.output, fun k hk _ => hg.block k (by omega) (fun e => by have := (ho.lt k e.symm).1; omega), KeepsOthers.of_grownBy hg (fun j o hj ho' => by
    rcases ho.2 with ⟨rfl, _⟩ | ⟨g, cap, cur, rfl, _, hgg, _⟩
    · cases hj
    · simp only [Value.ownBlock, Option.some.injEq] at hj
      subst hj
      rw [hgg] at ho'
      cases ho'
      rfl)⟩

end Tg
end Go.Proofs.YthdfgepnadgkjaaDoor

/-
  The Builder's writes, which leave every block of another type than bytes as it was (written by mkgbe.py).
-/
set_option linter.unusedVariables false
set_option linter.unusedSimpArgs false
namespace Go.Proofs.YthdfgepnadgkjaaDoor
open Go.RowKit Go.Shelf
namespace Tg
open Oc

/-- Blocks of cells of another type than bytes stay, but for block b. -/
def Kt (b : Nat) (w w' : World) : Prop := ∀ k c T z, k ≠ b → T ≠ 5 → w.heap[k]? = some (.cells c T z) → w'.heap[k]? = some (.cells c T z)
theorem Kt.refl (b : Nat) (w : World) : Kt b w w := fun _ _ _ _ _ _ h => h
theorem Kt.trans {b : Nat} {x y z : World} (h : Kt b x y) (k : Kt b y z) : Kt b x z := fun i c T f hi hT hx => k i c T f hi hT (h i c T f hi hT hx)
theorem Kt.set {b : Nat} (w : World) (j : Nat) (v : Value) : Kt b w (w.setCell ⟨b, j, none⟩ v) := fun k c T z hk hT h => by rw [Below.heap_setCell _ _ _ _ hk]; exact h
theorem Kt.alloc {b : Nat} (w : World) (o : Obj) : Kt b w (w.alloc o) := fun k c T z hk hT h => by rw [Lib.alloc_old w o k (Array.getElem?_eq_some_iff.1 h).1]; exact h
theorem Kt.grown {B b : Nat} {w w' : World} {v : Value} {n : Nat} {xs : List Value} (hg : w.grownBy w' v.ownBlock) (ho : w.ownsRow B 5 1 v n xs) : Kt b w w' := fun k c T z hk hT h => by
  rw [hg.block k (Array.getElem?_eq_some_iff.1 h).1 (fun e => by
    rcases ho.2 with ⟨rfl, _⟩ | ⟨g, cap, cur, rfl, _, hgg, _⟩
    · cases e
    · simp only [Value.ownBlock, Option.some.injEq] at e
      subst e
      rw [hgg] at h
      injection h with h
      injection h with _ h
      exact hT h.symm)]
  exact h
theorem Kt.below {b : Nat} {w w' : World} (h : Below w.heap.size w w') : Kt b w w' := fun k c T z hk hT hh => by rw [h.block k (Array.getElem?_eq_some_iff.1 hh).1]; exact hh

end Tg
end Go.Proofs.YthdfgepnadgkjaaDoor

/-
  span.Parts: what it says; opening, closing; the writes of one part.
-/
set_option linter.unusedVariables false
set_option linter.unusedSimpArgs false
namespace Go.Proofs.YthdfgepnadgkjaaDoor
open Go.RowKit Go.Shelf
namespace Sn
open Oc Tg Ac

def opB (bd : List UInt8) : List UInt8 := [13, 10, 45, 45] ++ bd ++ [13, 10]
def clB (bd : List UInt8) : List UInt8 := [13, 10, 45, 45] ++ bd ++ [45, 45] ++ [13, 10]
def mdB (md : List UInt8) : List UInt8 := [67, 111, 110, 116, 101, 110, 116, 45, 84, 121, 112, 101, 58, 32] ++ md ++ [13, 10]
def rgB (tl : List UInt8) : List UInt8 := [67, 111, 110, 116, 101, 110, 116, 45, 82, 97, 110, 103, 101, 58, 32] ++ tl ++ [13, 10]
/-- One part. -/
def partB (bd md body : List UInt8) (x : Sp) : List UInt8 := opB bd ++ mdB md ++ rgB (telR x body.length).1 ++ [13, 10] ++ (body.drop x.1.toNat).take (x.2.toNat - x.1.toNat)
def prtsB (bd md body : List UInt8) (t : List Sp) : List UInt8 := t.flatMap (partB bd md body)
/-- What Parts says. -/
def partsR (bd md body : List UInt8) (t : List Sp) : List UInt8 × Int :=
  if bndR bd = false then ([], 92) else if Lib.contains body ([45, 45] ++ bd) = true then ([], 92) else if isFld md = false then ([], 1)
  else if t.length = 0 then ([], 91) else if allSp t body.length = true then (prtsB bd md body t ++ clB bd, 0) else ([], 91)

theorem part_len {bd md body : List UInt8} (h1 : bd.length ≤ 1048576) (h2 : md.length ≤ 1048576) (h3 : body.length ≤ 1048576) {x : Sp} (hx : isSp x body.length = true) : (partB bd md body x).length ≤ 4194304 := by
  have hh : 0 ≤ x.1 ∧ x.1 < x.2 ∧ x.2 ≤ (body.length : Int) := of_decide_eq_true hx
  have ht : (telR x body.length).1.length ≤ 80 := by
    unfold telR
    rw [if_pos hx]
    have e1 := extR_len x (by omega) (by omega) (by omega) (by omega)
    have e2 := Lib.itoa_length_le (body.length : Int) (by omega) (by omega)
    simp only [List.length_append, List.length_cons, List.length_nil]
    omega
  unfold partB opB mdB rgB
  simp only [List.length_append, List.length_cons, List.length_nil, List.length_take, List.length_drop]
  omega
theorem prts_take (bd md body : List UInt8) (t : List Sp) (k : Nat) (h : k < t.length) : prtsB bd md body (t.take (k + 1)) = prtsB bd md body (t.take k) ++ partB bd md body (nthN t k) := by
  unfold prtsB
  rw [List.take_succ_eq_append_getElem h, List.flatMap_append, nthN_mem' h]
  simp
theorem prts_len {bd md body : List UInt8} (h1 : bd.length ≤ 1048576) (h2 : md.length ≤ 1048576) (h3 : body.length ≤ 1048576) : ∀ t : List Sp, (∀ x ∈ t, isSp x body.length = true) → (prtsB bd md body t).length ≤ t.length * 4194304
  | [], _ => by simp [prtsB]
  | x :: t, h => by
    have ih := prts_len h1 h2 h3 t (fun y hy => h y (List.mem_cons_of_mem _ hy))
    have hp := part_len h1 h2 h3 (h x (by simp))
    show (partB bd md body x ++ prtsB bd md body t).length ≤ _
    rw [List.length_append, List.length_cons, Nat.succ_mul]
    omega

theorem add_str (a b : List UInt8) : str a ++ str b = str (a ++ b) := str_app a b

set_option maxRecDepth 100000 in
set_option maxHeartbeats 1000000 in
theorem opening_any (bd : List UInt8) (h : bd.length ≤ 1048576) (w : World) : Calls Tryd.prog 10 #[.string (str bd)] w fun e w' => e = .returned (.string (str (opB bd))) ∧ w' = w := by
  have HE : Hid (⟨#[13, 10, 45, 45]⟩ ++ str bd ++ ⟨#[13, 10]⟩ = str (opB bd)) := (by unfold opB; rw [← add_str, ← add_str]; rfl : _ = _)
  have hz : (str bd).size ≤ 1048576 := by rw [str_size]; exact h
  generalize str (opB bd) = R at *
  generalize str bd = S at *
  have k1 : (⟨#[13, 10, 45, 45]⟩ : ByteArray).size = 4 := rfl
  have k2 : (⟨#[13, 10]⟩ : ByteArray).size = 2 := rfl
  go_enter Tryd.func10, Tryd.ntmps10
  generalize (⟨#[13, 10, 45, 45]⟩ : ByteArray) = A at *
  generalize (⟨#[13, 10]⟩ : ByteArray) = C at *
  have hs1 : ¬ (9223372036854775807 < A.size + S.size) := by omega
  have hs2 : ¬ (9223372036854775807 < A.size + S.size + C.size) := by omega
  go_wp2
  go_ret
  exact ⟨ret_string HE.out, rfl⟩

set_option maxRecDepth 100000 in
set_option maxHeartbeats 1000000 in
theorem closing_any (bd : List UInt8) (h : bd.length ≤ 1048576) (w : World) : Calls Tryd.prog 11 #[.string (str bd)] w fun e w' => e = .returned (.string (str (clB bd))) ∧ w' = w := by
  have HE : Hid (⟨#[13, 10, 45, 45]⟩ ++ str bd ++ ⟨#[45, 45]⟩ ++ ⟨#[13, 10]⟩ = str (clB bd)) := (by unfold clB; rw [← add_str, ← add_str, ← add_str]; rfl : _ = _)
  have hz : (str bd).size ≤ 1048576 := by rw [str_size]; exact h
  generalize str (clB bd) = R at *
  generalize str bd = S at *
  have k1 : (⟨#[13, 10, 45, 45]⟩ : ByteArray).size = 4 := rfl
  have k2 : (⟨#[13, 10]⟩ : ByteArray).size = 2 := rfl
  have k3 : (⟨#[45, 45]⟩ : ByteArray).size = 2 := rfl
  go_enter Tryd.func11, Tryd.ntmps11
  generalize (⟨#[13, 10, 45, 45]⟩ : ByteArray) = A at *
  generalize (⟨#[13, 10]⟩ : ByteArray) = C at *
  generalize (⟨#[45, 45]⟩ : ByteArray) = D at *
  have hs1 : ¬ (9223372036854775807 < A.size + S.size) := by omega
  have hs2 : ¬ (9223372036854775807 < A.size + S.size + D.size) := by omega
  have hs3 : ¬ (9223372036854775807 < A.size + S.size + D.size + C.size) := by omega
  go_wp2
  go_ret
  exact ⟨ret_string HE.out, rfl⟩

end Sn
end Go.Proofs.YthdfgepnadgkjaaDoor
