/- Several texts as one. -/
import Derived.WalkKit
import Derived.Test.YtgdecgagdacipaaGreatDoorRows
import Derived.WalkSpells
import Derived.WalkLawsBesides
import Derived.Lib.ConvBytes
import Derived.Laws.IdiomStrings
import Derived.Deep.QuietTactic
import Derived.BigQuiet
import Derived.Lib.Strings
import Derived.Lib.Builder
import Derived.WalkMore
/-
  Plain mathematics for package octet: bytes as integers and as UInt8, lists of bytes. Nothing of the program.
-/
set_option linter.unusedVariables false
set_option linter.unusedSimpArgs false
namespace Go.Proofs.YtgdecgagdacipaaGreatDoor
namespace Oc

theorem at_lt (s : ByteArray) (k : Nat) (h : k < s.size) : s.data.toList.getD k 0 = s[k] := by
  rw [List.getD_eq_getElem?_getD, List.getElem?_eq_getElem (by simpa using h)]
  rfl

/-- Small letters, of a byte. -/
def lowI (c : Int) : Int := if 65 ≤ c ∧ c ≤ 90 then c + 32 else c
def digI (c : Int) : Bool := decide (48 ≤ c ∧ c ≤ 57)
def lettI (c : Int) : Bool := decide (65 ≤ c ∧ c ≤ 90 ∨ 97 ≤ c ∧ c ≤ 122)
def hexI (c : Int) : Bool := decide (48 ≤ c ∧ c ≤ 57 ∨ 65 ≤ c ∧ c ≤ 70 ∨ 97 ≤ c ∧ c ≤ 102)
def blankI (c : Int) : Bool := decide (c = 32 ∨ c = 9)
def fieldI (c : Int) : Bool := decide (c = 9 ∨ 32 ≤ c ∧ c ≠ 127)
/-- What a hexadecimal digit says; 16 of another byte. -/
def valI (c : Int) : Int := if 48 ≤ c ∧ c ≤ 57 then c - 48 else if 97 ≤ c ∧ c ≤ 102 then c - 87 else if 65 ≤ c ∧ c ≤ 70 then c - 55 else 16
def signs : List UInt8 := [33, 35, 36, 37, 38, 39, 42, 43, 45, 46, 94, 95, 96, 124, 126]
def tokI (c : Int) : Bool := digI c || lettI c || signs.any fun x => (x.toNat : Int) == c

theorem signs_at (k : Nat) (h : k < (⟨#[33, 35, 36, 37, 38, 39, 42, 43, 45, 46, 94, 95, 96, 124, 126]⟩ : ByteArray).size) : signs.getD k 0 = (⟨#[33, 35, 36, 37, 38, 39, 42, 43, 45, 46, 94, 95, 96, 124, 126]⟩ : ByteArray)[k] := at_lt _ k h

theorem lowI_up {c : Int} (a : 65 ≤ c) (b : c ≤ 90) : lowI c = c + 32 := by unfold lowI; rw [if_pos ⟨a, b⟩]
theorem lowI_not {c : Int} (a : ¬ (65 ≤ c ∧ c ≤ 90)) : lowI c = c := by unfold lowI; rw [if_neg a]
theorem lowI_bd {c : Int} (h0 : 0 ≤ c) (h1 : c ≤ 255) : 0 ≤ lowI c ∧ lowI c ≤ 255 := by unfold lowI; split <;> omega
theorem valI_bd {c : Int} (h0 : 0 ≤ c) : 0 ≤ valI c ∧ valI c ≤ 16 := by unfold valI; (repeat' split) <;> omega

/-- The table's bits, by its words. -/
theorem tok_word0 : ∀ c : Nat, c < 64 → tokI (c : Int) = (bits BinOp.and IntKind.u64 (288068722172624896 / 2 ^ (c : Int).toNat) 1 == 1) := by decide +kernel
theorem tok_word1 : ∀ c : Nat, c < 64 → tokI ((c + 64 : Nat) : Int) = (bits BinOp.and IntKind.u64 (6341068274398134270 / 2 ^ (c : Int).toNat) 1 == 1) := by decide +kernel
theorem tok_beyond {c : Int} (h : 128 ≤ c) : tokI c = false := by
  unfold tokI digI lettI
  simp only [Bool.or_eq_false_iff, decide_eq_false_iff_not]
  refine ⟨⟨by omega, by omega⟩, ?_⟩
  rw [List.any_eq_false]
  intro x hx
  have hall : ∀ y ∈ signs, y.toNat < 128 := by decide
  have := hall x hx
  simp
  omega

theorem digI_t {c : Int} (h : 48 ≤ c ∧ c ≤ 57) : digI c = true := decide_eq_true h
theorem digI_f {c : Int} (h : ¬ (48 ≤ c ∧ c ≤ 57)) : digI c = false := decide_eq_false h
theorem lettI_t {c : Int} (h : 65 ≤ c ∧ c ≤ 90 ∨ 97 ≤ c ∧ c ≤ 122) : lettI c = true := decide_eq_true h
theorem lettI_f {c : Int} (h : ¬ (65 ≤ c ∧ c ≤ 90 ∨ 97 ≤ c ∧ c ≤ 122)) : lettI c = false := decide_eq_false h
theorem hexI_t {c : Int} (h : 48 ≤ c ∧ c ≤ 57 ∨ 65 ≤ c ∧ c ≤ 70 ∨ 97 ≤ c ∧ c ≤ 102) : hexI c = true := decide_eq_true h
theorem hexI_f {c : Int} (h : ¬ (48 ≤ c ∧ c ≤ 57 ∨ 65 ≤ c ∧ c ≤ 70 ∨ 97 ≤ c ∧ c ≤ 102)) : hexI c = false := decide_eq_false h
theorem blankI_t {c : Int} (h : c = 32 ∨ c = 9) : blankI c = true := decide_eq_true h
theorem blankI_f {c : Int} (h : ¬ (c = 32 ∨ c = 9)) : blankI c = false := decide_eq_false h
theorem fieldI_t {c : Int} (h : c = 9 ∨ 32 ≤ c ∧ c ≠ 127) : fieldI c = true := decide_eq_true h
theorem fieldI_f {c : Int} (h : ¬ (c = 9 ∨ 32 ≤ c ∧ c ≠ 127)) : fieldI c = false := decide_eq_false h
theorem valI_d {c : Int} (h : 48 ≤ c ∧ c ≤ 57) : valI c = c - 48 := by unfold valI; rw [if_pos h]
theorem valI_s {c : Int} (h : 97 ≤ c ∧ c ≤ 102) : valI c = c - 87 := by unfold valI; rw [if_neg (by omega), if_pos h]
theorem valI_b {c : Int} (h : 65 ≤ c ∧ c ≤ 70) : valI c = c - 55 := by unfold valI; rw [if_neg (by omega), if_neg (by omega), if_pos h]
theorem valI_n {c : Int} (h : hexI c = false) : valI c = 16 := by
  have := of_decide_eq_false h
  unfold valI; rw [if_neg (by omega), if_neg (by omega), if_neg (by omega)]
theorem bits_zero : (bits BinOp.and IntKind.u64 0 1 == 1) = false := by decide
theorem tokI_of_dig {c : Int} (h : digI c = true) : tokI c = true := by simp [tokI, h]
theorem tokI_of_lett {c : Int} (h : lettI c = true) : tokI c = true := by simp [tokI, h]
theorem tokI_of_sign {c : Int} (k : Nat) (hk : k < 15) (h : ((signs.getD k 0).toNat : Int) = c) : tokI c = true := by
  unfold tokI
  simp only [Bool.or_eq_true, List.any_eq_true]
  refine .inr ⟨signs.getD k 0, ?_, beq_iff_eq.2 h⟩
  have e : signs.length = 15 := rfl
  rw [List.getD_eq_getElem?_getD, List.getElem?_eq_getElem (by omega)]
  exact List.getElem_mem _
theorem tokI_none {c : Int} (h1 : digI c = false) (h2 : lettI c = false) (h3 : ∀ k, k < 15 → ((signs.getD k 0).toNat : Int) ≠ c) : tokI c = false := by
  unfold tokI
  rw [h1, h2]
  simp only [Bool.or_self, Bool.false_or]
  rw [List.any_eq_false]
  intro x hx
  obtain ⟨k, hk, rfl⟩ := List.mem_iff_getElem.1 hx
  have e : signs.length = 15 := rfl
  have := h3 k (by omega)
  rw [List.getD_eq_getElem?_getD, List.getElem?_eq_getElem hk] at this
  simpa using this

end Oc
end Go.Proofs.YtgdecgagdacipaaGreatDoor

/-
  Entity tags, plain: a walk through a tag, as the program goes, and as the document reads.
-/
set_option linter.unusedVariables false
set_option linter.unusedSimpArgs false
namespace Go.Proofs.YtgdecgagdacipaaGreatDoor
namespace Tt

abbrev Tg1 := Bool × List UInt8
def inT (c : UInt8) : Bool := decide (32 < c.toNat ∧ c.toNat ≠ 34 ∧ c.toNat ≠ 127)
/-- The walk: of the rest, the place, what is looked for, where the text begins, the tag so far. -/
def walkM (s : List UInt8) : List UInt8 → Nat → Nat → Nat → Tg1 → Tg1 × Nat × Bool
  | [], k, next, b, t => (t, k, next == 4)
  | c :: r, k, next, b, t =>
    if next = 4 then (t, k, true)
    else if next = 0 ∧ c = 87 then walkM s r (k + 1) 1 b (true, t.2)
    else if next = 1 ∧ c = 47 then walkM s r (k + 1) 2 b t
    else if (next = 0 ∨ next = 2) ∧ c = 34 then walkM s r (k + 1) 3 (k + 1) t
    else if next = 3 ∧ c = 34 then walkM s r (k + 1) 4 b (t.1, (s.drop b).take (k - b))
    else if next = 3 ∧ inT c = true ∧ k - b < 256 then walkM s r (k + 1) 3 b t
    else (t, k, false)
def frontM (s : List UInt8) : Tg1 × Nat × Bool := walkM s s 0 0 0 (false, [])

/-- The bytes of a tag's text: how many go well, and whether the last quote stands behind. -/
def bodyR : List UInt8 → Nat → Nat × Bool
  | [], k => (k, false)
  | c :: r, k => if c = 34 then (k, true) else if inT c = true ∧ k < 256 then bodyR r (k + 1) else (k, false)
/-- What stands behind the first quote. -/
def restR (w : Bool) (off : Nat) (l : List UInt8) : Tg1 × Nat × Bool :=
  if (bodyR l 0).2 = true then ((w, l.take (bodyR l 0).1), off + (bodyR l 0).1 + 1, true) else ((false, []), off + (bodyR l 0).1, false)
/-- The tag at the front of a text, how many bytes of it go well, and whether it is one. -/
def frontR : List UInt8 → Tg1 × Nat × Bool
  | [] => ((false, []), 0, false)
  | c :: r =>
    if c = 87 then
      match r with
      | [] => ((false, []), 1, false)
      | d :: r2 =>
        if d = 47 then
          match r2 with
          | [] => ((false, []), 2, false)
          | e :: r3 => if e = 34 then restR true 3 r3 else ((false, []), 2, false)
        else ((false, []), 1, false)
    else if c = 34 then restR false 1 r
    else ((false, []), 0, false)

theorem bodyR_ge : ∀ (l : List UInt8) (k : Nat), k ≤ (bodyR l k).1 ∧ (bodyR l k).1 ≤ k + l.length
  | [], k => by simp [bodyR]
  | c :: r, k => by
    unfold bodyR
    split
    · simp
    · split
      · have := bodyR_ge r (k + 1)
        simp; omega
      · simp
theorem bodyR_lt : ∀ (l : List UInt8) (k : Nat), (bodyR l k).2 = true → (bodyR l k).1 < k + l.length
  | [], k, h => by simp [bodyR] at h
  | c :: r, k, h => by
    unfold bodyR at h ⊢
    split
    · simp
    · rename_i h1
      rw [if_neg h1] at h
      split
      · rename_i h2
        rw [if_pos h2] at h
        have := bodyR_lt r (k + 1) h
        simp; omega
      · rename_i h2
        rw [if_neg h2] at h
        cases h
theorem walk_end (s r : List UInt8) (k b : Nat) (t : Tg1) : walkM s r k 4 b t = (t, k, true) := by
  cases r <;> simp [walkM]
theorem walk_body (s : List UInt8) (b : Nat) (t : Tg1) : ∀ (r : List UInt8) (k n : Nat), k = b + n →
    walkM s r k 3 b t = if (bodyR r n).2 = true then ((t.1, (s.drop b).take (bodyR r n).1), b + (bodyR r n).1 + 1, true) else (t, b + (bodyR r n).1, false)
  | [], k, n, h => by simp [walkM, bodyR, h]
  | c :: r, k, n, h => by
    subst h
    have e : b + n - b = n := by omega
    by_cases h1 : c = 34
    · subst h1
      simp [walkM, bodyR, walk_end, e]
    · by_cases h2 : inT c = true ∧ n < 256
      · have ih := walk_body s b t r (b + n + 1) (n + 1) (by omega)
        simp only [walkM, bodyR, h1, h2, e, and_false, and_self, if_false, if_true, ih, reduceIte, or_self, Nat.reduceEqDiff]
        simp [h1, h2, ih]
      · simp only [walkM, bodyR, h1, e, and_false, if_false, reduceIte, Nat.reduceEqDiff]
        simp [h1, h2]
theorem front_eq (s : List UInt8) : (frontM s).2 = (frontR s).2 ∧ ((frontM s).2.2 = true → (frontM s).1 = (frontR s).1) := by
  unfold frontM
  match s with
  | [] => simp [walkM, frontR]
  | c :: r =>
    by_cases h1 : c = 87
    · subst h1
      match r with
      | [] => simp [walkM, frontR]
      | d :: r2 =>
        by_cases h2 : d = 47
        · subst h2
          match r2 with
          | [] => simp [walkM, frontR]
          | e :: r3 =>
            by_cases h3 : e = 34
            · subst h3
              have hb := walk_body (87 :: 47 :: 34 :: r3) 3 (true, []) r3 3 0 rfl
              have h1 : walkM (87 :: 47 :: 34 :: r3) (87 :: 47 :: 34 :: r3) 0 0 0 (false, []) = walkM (87 :: 47 :: 34 :: r3) r3 3 3 3 (true, []) := by simp [walkM]
              rw [h1, hb]
              simp only [frontR, restR, if_true, reduceIte]
              by_cases h4 : (bodyR r3 0).2 = true
              · simp [h4]
              · simp [h4]
            · simp [walkM, frontR, h3]
        · simp [walkM, frontR, h2]
    · by_cases h3 : c = 34
      · subst h3
        have hb := walk_body (34 :: r) 1 (false, []) r 1 0 rfl
        have h1 : walkM (34 :: r) (34 :: r) 0 0 0 (false, []) = walkM (34 :: r) r 1 3 1 (false, []) := by simp [walkM]
        rw [h1, hb]
        simp only [frontR, restR, if_true, reduceIte]
        by_cases h4 : (bodyR r 0).2 = true
        · simp [h4]
        · simp [h4]
      · simp [walkM, frontR, h1, h3]
theorem restR_le (w : Bool) (off : Nat) (l : List UInt8) : (restR w off l).2.1 ≤ off + l.length := by
  unfold restR
  split
  · rename_i h
    have := bodyR_lt l 0 h
    simp; omega
  · have := bodyR_ge l 0
    simp; omega
theorem frontR_le (s : List UInt8) : (frontR s).2.1 ≤ s.length := by
  unfold frontR
  match s with
  | [] => simp
  | c :: r =>
    dsimp only
    split
    · match r with
      | [] => simp
      | d :: r2 =>
        dsimp only
        split
        · match r2 with
          | [] => simp
          | e :: r3 =>
            dsimp only
            split
            · have := restR_le true 3 r3; simp; omega
            · simp
        · simp
    · split
      · have := restR_le false 1 r; simp; omega
      · simp
/-- Of a tag at least two bytes go. -/
theorem frontR_pos (s : List UInt8) (h : (frontR s).2.2 = true) : 2 ≤ (frontR s).2.1 ∧ (frontR s).1.2.length ≤ (frontR s).2.1 := by
  have hr : ∀ (w : Bool) (off : Nat) (l : List UInt8), 1 ≤ off → (restR w off l).2.2 = true → 2 ≤ (restR w off l).2.1 ∧ (restR w off l).1.2.length ≤ (restR w off l).2.1 := by
    intro w off l ho h
    unfold restR at h ⊢
    split
    · simp; omega
    · rename_i h2; rw [if_neg h2] at h; cases h
  unfold frontR at h ⊢
  match s with
  | [] => simp at h
  | c :: r =>
    dsimp only at h ⊢
    split
    · rename_i h1
      rw [if_pos h1] at h
      match r with
      | [] => simp at h
      | d :: r2 =>
        dsimp only at h ⊢
        split
        · rename_i h2
          rw [if_pos h2] at h
          match r2 with
          | [] => simp at h
          | e :: r3 =>
            dsimp only at h ⊢
            split
            · rename_i h3
              rw [if_pos h3] at h
              exact hr _ _ _ (by omega) h
            · rename_i h3
              rw [if_neg h3] at h
              cases h
        · rename_i h2
          rw [if_neg h2] at h
          cases h
    · rename_i h1
      rw [if_neg h1] at h
      split
      · rename_i h2
        rw [if_pos h2] at h
        exact hr _ _ _ (by omega) h
      · rename_i h2
        rw [if_neg h2] at h
        cases h

/-- What a text says as a tag: the tag, the place, the error. -/
def parseT (s : List UInt8) : Tg1 × Nat × Int :=
  if (frontR s).2.2 = true ∧ (frontR s).2.1 = s.length then ((frontR s).1, 0, 0) else ((false, []), (frontR s).2.1, 80)

end Tt
end Go.Proofs.YtgdecgagdacipaaGreatDoor

/-
  Contracts of octet's small functions on bytes, and of the document's.
-/
set_option linter.unusedVariables false
set_option linter.unusedSimpArgs false
namespace Go.Proofs.YtgdecgagdacipaaGreatDoor
open Go.RowKit
namespace Oc

theorem ret_int {k : IntKind} {a b : Int} (h : a = b) : Ending.returned (.int k a) = .returned (.int k b) := by rw [h]
theorem ret_bool {a b : Bool} (h : a = b) : Ending.returned (.bool a) = .returned (.bool b) := by rw [h]

set_option maxHeartbeats 400000 in
theorem lowerByte_any (c : Int) (h0 : 0 ≤ c) (h1 : c ≤ 255) (w : World) :
    Calls Tryz.prog 111 #[.int .u8 c] w fun e w' => e = .returned (.int .u8 (lowI c)) ∧ w' = w := by
  by_cases a : 65 ≤ c
  · by_cases b : c ≤ 90
    · go_enter Tryz.func111, Tryz.ntmps111
      go_wp2
      go_ret
      exact ⟨ret_int (by rw [lowI_up a b]; omega), rfl⟩
    · go_enter Tryz.func111, Tryz.ntmps111
      go_wp2
      go_ret
      exact ⟨ret_int (by rw [lowI_not (by omega)]), rfl⟩
  · go_enter Tryz.func111, Tryz.ntmps111
    go_wp2
    go_ret
    exact ⟨ret_int (by rw [lowI_not (by omega)]), rfl⟩

end Oc
end Go.Proofs.YtgdecgagdacipaaGreatDoor

/-
  Lists of bytes, and the world behind a conversion of a string.
-/
set_option linter.unusedVariables false
set_option linter.unusedSimpArgs false
namespace Go.Proofs.YtgdecgagdacipaaGreatDoor
open Go.RowKit
namespace Oc

/-- The byte at a place, as a number. -/
def byt (s : ByteArray) (j : Nat) : Int := ((s.data.toList.getD j 0).toNat : Int)
theorem byt_bd (s : ByteArray) (j : Nat) : 0 ≤ byt s j ∧ byt s j ≤ 255 := by
  unfold byt
  have := (s.data.toList.getD j 0).toNat_lt
  omega
theorem byt_at (s : ByteArray) (j : Nat) (h : j < s.size) : (s[j].toNat : Int) = byt s j := by unfold byt; rw [at_lt s j h]

theorem tw_stop {α : Type} (p : α → Bool) (d : α) : ∀ (l : List α) (k : Nat), k < l.length → (∀ j, j < k → p (l.getD j d) = true) → p (l.getD k d) = false → (l.takeWhile p).length = k
  | [], k, h, _, _ => by simp at h
  | a :: l, 0, _, _, hs => by simp at hs; simp [List.takeWhile_cons, hs]
  | a :: l, k + 1, h, ha, hs => by
    have h0 := ha 0 (by omega)
    simp at h0
    rw [List.takeWhile_cons, h0]
    simp only [if_true, List.length_cons, Nat.add_right_cancel_iff]
    exact tw_stop p d l k (by simpa using h) (fun j hj => by simpa using ha (j + 1) (by omega)) (by simpa using hs)

theorem tw_all {α : Type} (p : α → Bool) (d : α) : ∀ (l : List α), (∀ j, j < l.length → p (l.getD j d) = true) → (l.takeWhile p).length = l.length
  | [], _ => rfl
  | a :: l, ha => by
    have h0 := ha 0 (by simp)
    simp at h0
    rw [List.takeWhile_cons, h0]
    simp only [if_true, List.length_cons, Nat.add_right_cancel_iff]
    exact tw_all p d l (fun j hj => by simpa using ha (j + 1) (by simpa using hj))

theorem all_of {α : Type} (p : α → Bool) (d : α) (l : List α) (h : ∀ j, j < l.length → p (l.getD j d) = true) : l.all p = true := by
  rw [List.all_eq_true]
  intro x hx
  obtain ⟨k, hk, rfl⟩ := List.mem_iff_getElem.1 hx
  have := h k hk
  rwa [List.getD_eq_getElem?_getD, List.getElem?_eq_getElem hk] at this

theorem all_not {α : Type} (p : α → Bool) (d : α) (l : List α) (k : Nat) (hk : k < l.length) (h : p (l.getD k d) = false) : l.all p = false := by
  rw [List.all_eq_false]
  refine ⟨l.getD k d, ?_, fun e => by rw [h] at e; cases e⟩
  rw [List.getD_eq_getElem?_getD, List.getElem?_eq_getElem hk]
  exact List.getElem_mem _

def tokB (c : UInt8) : Bool := tokI (c.toNat : Int)
def fieldB (c : UInt8) : Bool := fieldI (c.toNat : Int)
def blankB (c : UInt8) : Bool := blankI (c.toNat : Int)
def lowB (c : UInt8) : UInt8 := UInt8.ofNat (lowI (c.toNat : Int)).toNat
theorem lowB_int (c : UInt8) : ((lowB c).toNat : Int) = lowI (c.toNat : Int) := by
  have := c.toNat_lt
  have b := lowI_bd (c := (c.toNat : Int)) (by omega) (by omega)
  unfold lowB
  rw [UInt8.toNat_ofNat']
  omega

def tokLen (l : List UInt8) : Nat := (l.takeWhile tokB).length
def isTok (l : List UInt8) : Bool := !l.isEmpty && l.all tokB
def isFld (l : List UInt8) : Bool := l.all fieldB
def lower (l : List UInt8) : List UInt8 := l.map lowB

theorem isTok_len (l : List UInt8) (h : l ≠ []) : isTok l = decide ((tokLen l : Int) = (l.length : Int)) := by
  unfold isTok tokLen
  have h1 : l.isEmpty = false := by simp [h]
  rw [h1]
  cases hb : l.all tokB with
  | true =>
    have := tw_all tokB 0 l (fun j hj => List.all_eq_true.1 hb _ (by rw [List.getD_eq_getElem?_getD, List.getElem?_eq_getElem hj]; exact List.getElem_mem _))
    simp [this]
  | false =>
    simp only [Bool.not_false, Bool.and_false]
    symm
    rw [decide_eq_false_iff_not]
    intro e
    have e' : (l.takeWhile tokB).length = l.length := by omega
    have e2 : l.takeWhile tokB = l := (List.takeWhile_prefix (l := l) tokB).eq_of_length e'
    have e3 : (l.takeWhile tokB).all tokB = true := List.all_takeWhile
    rw [e2, hb] at e3
    cases e3

/-- What was there stays behind a conversion. -/
theorem below_bytes (w : World) (e : TypeId) (s : ByteArray) : Below w.heap.size w (Lib.bytesWorld w e s) :=
  ⟨by simp [Lib.bytesWorld, World.freeze, World.alloc, World.drew, -World.alloc_eq, -World.drew_eq], by simp [Lib.bytesWorld, World.freeze, World.alloc, World.drew, -World.alloc_eq, -World.drew_eq], by simp [Lib.bytesWorld, World.freeze, World.alloc, World.drew, -World.alloc_eq, -World.drew_eq], by rw [Lib.bytesWorld_size]; omega, fun k hk => Lib.bytesWorld_at_old w e s k hk⟩

theorem bytes_cell (w : World) (e : TypeId) (s : ByteArray) (j : Nat) (hj : j < s.size) : (Lib.bytesWorld w e s).cell? ⟨w.heap.size, j, none⟩ = some (.int .u8 (byt s j)) := Lib.bytesWorld_cell w e s j hj

end Oc
end Go.Proofs.YtgdecgagdacipaaGreatDoor

/-
  Small letters; tokens and fields; texts that are the same.
-/
set_option linter.unusedVariables false
set_option linter.unusedSimpArgs false
namespace Go.Proofs.YtgdecgagdacipaaGreatDoor
open Go.RowKit
namespace Oc

theorem ret_string {a b : ByteArray} (h : a = b) : Ending.returned (.string a) = .returned (.string b) := by rw [h]

/-- A row of bytes in a block: its first n cells hold f, and may be written. -/
structure Row (w : World) (b n : Nat) (f : Nat → Int) : Prop where
  cell : ∀ j, j < n → w.cell? ⟨b, j, none⟩ = some (.int .u8 (f j))
  free : ∀ j, j < n → w.frozen? ⟨b, j, none⟩ = false

theorem Row.set {w : World} {b n : Nat} {f : Nat → Int} (r : Row w b n f) (k : Nat) (hk : k < n) (v : Int) (g : Nat → Int) (hg : ∀ j, j < n → g j = if j = k then v else f j) : Row (w.setCell ⟨b, k, none⟩ (.int .u8 v)) b n g := by
  refine ⟨fun j hj => ?_, fun j hj => by rw [World.frozen?_setCell]; exact r.free j hj⟩
  rw [hg j hj]
  by_cases h : j = k
  · subst h
    rw [if_pos rfl]
    exact World.cell?_setCell_same w _ _ (r.cell j hj)
  · rw [if_neg h, World.cell?_setCell_other w _ _ _ (by intro e; injection e with _ e2; omega)]
    exact r.cell j hj

theorem Row.drewN {w : World} {b n : Nat} {f : Nat → Int} (r : Row w b n f) (q : Nat) : Row (w.drewN q) b n f :=
  ⟨fun j hj => by rw [World.cell?_drewN]; exact r.cell j hj, fun j hj => by rw [World.frozen?_drewN]; exact r.free j hj⟩

theorem bytes_row (w : World) (e : TypeId) (s : ByteArray) : Row (Lib.bytesWorld w e s) w.heap.size s.size (byt s) := by
  refine ⟨fun j hj => bytes_cell w e s j hj, fun j hj => ?_⟩
  unfold World.frozen?
  rw [show (Lib.bytesWorld w e s).heap[w.heap.size]? = _ from Lib.bytesWorld_at_new w e s]
  have hl : s.size ≤ (Lib.bytesCells w e s).size := by simp [Lib.bytesCells]
  simp
  omega

/-- The text whose bytes are these. -/
def str (l : List UInt8) : ByteArray := ⟨l.toArray⟩
theorem str_list (l : List UInt8) : (str l).data.toList = l := by simp [str]
theorem str_size (l : List UInt8) : (str l).size = l.length := by simp [str, ByteArray.size]
theorem str_self (s : ByteArray) : str s.data.toList = s := by simp [str]
theorem str_inj {a b : List UInt8} (h : str a = str b) : a = b := by rw [← str_list a, h, str_list]
theorem size_list (s : ByteArray) : s.data.toList.length = s.size := by simp
theorem eq_list {a b : ByteArray} (h : a.data.toList = b.data.toList) : a = b := by rw [← str_self a, h, str_self]

theorem eq_toList (a b : ByteArray) : (a.toList == b.toList) = decide (a = b) := by
  rw [ByteArray.toList_eq, ByteArray.toList_eq, Bool.eq_iff_iff, beq_iff_eq, decide_eq_true_iff]
  exact ⟨eq_list, fun h => by rw [h]⟩
theorem ne_toList (a b : ByteArray) : (a.toList != b.toList) = !decide (a = b) := by
  rw [bne, eq_toList]

/-- 'string(b)' where b's cells are known. -/
theorem back (w : World) (b n cap : Nat) (f : Nat → Int) (l : List UInt8) (r : Row w b n f) (hn : l.length = n) (hl : ∀ j, j < n → f j = ((l.getD j 0).toNat : Int)) :
    (convert 74 9 (.slice (some ⟨b, 0, none⟩) n cap)).run Tryz.prog w = .ok (.string (str l)) w := by
  subst hn
  refine run_convert_bytes_back w 74 9 5 ⟨b, 0, none⟩ cap l Tryz.underlying74 Tryz.underlying5 Tryz.underlying9 (fun j hj => ?_)
  have h1 := r.cell j hj
  rw [hl j hj, List.getD_eq_getElem?_getD, List.getElem?_eq_getElem hj] at h1
  have ea : Addr.add ⟨b, 0, none⟩ j = ⟨b, j, none⟩ := by unfold Addr.add; split <;> simp_all
  rw [ea]
  exact h1

def lowS (s : ByteArray) : ByteArray := str (lower s.data.toList)
theorem lowS_size (s : ByteArray) : (lowS s).size = s.size := by unfold lowS; rw [str_size]; simp [lower]
theorem lower_getD (l : List UInt8) (j : Nat) (h : j < l.length) : (((lower l).getD j 0).toNat : Int) = lowI ((l.getD j 0).toNat : Int) := by
  unfold lower
  rw [List.getD_eq_getElem?_getD, List.getElem?_map, List.getElem?_eq_getElem h, List.getD_eq_getElem?_getD, List.getElem?_eq_getElem h]
  exact lowB_int _

end Oc
end Go.Proofs.YtgdecgagdacipaaGreatDoor

/-
  octet.Same.
-/
set_option linter.unusedVariables false
set_option linter.unusedSimpArgs false
namespace Go.Proofs.YtgdecgagdacipaaGreatDoor
open Go.RowKit
namespace Oc

theorem lowS_eq {a b : ByteArray} (hn : a.size = b.size) (h : ∀ j, j < a.size → lowI (byt a j) = lowI (byt b j)) : lowS a = lowS b := by
  unfold lowS
  congr 1
  apply List.ext_getElem
  · simp [lower, hn]
  · intro j h1 h2
    have ha : j < a.data.toList.length := by simpa [lower] using h1
    have hb : j < b.data.toList.length := by simpa [lower] using h2
    have e1 := lower_getD _ j ha
    have e2 := lower_getD _ j hb
    have := h j (by rw [← size_list]; exact ha)
    unfold byt at this
    rw [← e1, ← e2] at this
    rw [List.getD_eq_getElem?_getD, List.getElem?_eq_getElem h1, List.getD_eq_getElem?_getD, List.getElem?_eq_getElem h2] at this
    exact UInt8.toNat_inj.1 (Int.ofNat.inj this)

theorem lowS_ne {a b : ByteArray} (k : Nat) (ha : k < a.size) (hb : k < b.size) (h : lowI (byt a k) ≠ lowI (byt b k)) : lowS a ≠ lowS b := by
  intro e
  have e := str_inj e
  apply h
  have e1 := lower_getD a.data.toList k (by rw [size_list]; exact ha)
  have e2 := lower_getD b.data.toList k (by rw [size_list]; exact hb)
  rw [e] at e1
  exact e1.symm.trans e2

theorem lowS_sizes {a b : ByteArray} (h : a.size ≠ b.size) : lowS a ≠ lowS b := by
  intro e
  have := congrArg ByteArray.size e
  rw [lowS_size, lowS_size] at this
  exact h this

theorem lowI_idem (c : Int) : lowI (lowI c) = lowI c := by unfold lowI; (repeat' split) <;> omega
theorem lowS_byt (s : ByteArray) (j : Nat) (h : j < s.size) : byt (lowS s) j = lowI (byt s j) := by
  unfold byt lowS
  rw [str_list, lower_getD _ _ (by rw [size_list]; exact h)]
theorem lowS_idem (a : ByteArray) : lowS (lowS a) = lowS a := by
  refine lowS_eq (lowS_size a) (fun j hj => ?_)
  rw [lowS_size] at hj
  rw [lowS_byt a j hj, lowI_idem]
theorem bel_trans {w w1 w2 : World} (a : Below w.heap.size w w1) (b : Below w1.heap.size w1 w2) : Below w.heap.size w w2 := a.trans (b.mono a.size)

set_option maxRecDepth 100000 in
set_option maxHeartbeats 400000 in
theorem Same_any (a b : ByteArray) (ha : a.size ≤ maxLen) (hb : b.size ≤ maxLen) (w : World) :
    Calls Tryz.prog 84 #[.string a, .string b] w fun e w' => e = .returned (.bool (decide (lowS a = lowS b))) ∧ Below w.heap.size w w' := by
  unfold maxLen at ha hb
  by_cases hn : a.size = b.size
  · have hcv := fun w => Lib.run_convert_string_bytes (P := Tryz.prog) w 9 74 5 a Tryz.underlying9 Tryz.underlying74 Tryz.underlying5
    have hbel := below_bytes w 5 a
    have hr := bytes_row w 5 a
    have hne : ((a.size : Int) != (b.size : Int)) = false := by simp [hn]
    have HN : Hid (a.size = b.size) := hn
    have hle : a.size ≤ b.size := by omega
    clear hn
    go_enter Tryz.func84, Tryz.ntmps84
    go_wp2
    go_loopw [15] (fun i wr => ∃ k : Nat, k ≤ a.size ∧ i = .int .i64 k ∧ Hid (∀ j, j < k → lowI (byt a j) = lowI (byt b j)) ∧ Hid (Row wr w.heap.size a.size (byt a)) ∧ Hid (Below w.heap.size w wr)) (fun i _ => a.size - (intOf i).toNat)
    case atStart => exact ⟨0, Nat.zero_le _, rfl, (fun j hj => by omega : ∀ j, j < 0 → _), hr, hbel⟩
    case round =>
      obtain ⟨k, hk, rfl, hall, hrow, hbl⟩ := hrel
      clear hr hbel hcv
      by_cases hlt : k < a.size
      · have hck := hrow.out.cell k hlt
        obtain ⟨b0, b1⟩ := byt_bd a k
        have hkb : k < b.size := by omega
        have hby : ((b[k].toNat : Nat) : Int) = byt b k := byt_at b k hkb
        obtain ⟨d0, d1⟩ := byt_bd b k
        cases hc : (lowI (byt a k) != lowI (byt b k)) with
        | false =>
          go_wp2_with fail
          go_quiet ((go_at_call 111; exact Calls.quiet_of_same (lowerByte_any _ (by omega) (by omega) _)))
          go_wp2
          go_roundw
          case rel =>
            refine ⟨k + 1, by omega, by go_num, (fun j hj => ?_ : ∀ j, j < k + 1 → lowI (byt a j) = lowI (byt b j)), hrow.out.drewN _, below_drewN hbl.out _⟩
            by_cases hjk : j = k
            · subst hjk; simpa using hc
            · exact hall.out j (by omega)
          case measure => simp [intOf]; omega
        | true =>
          go_wp2_with fail
          go_quiet ((go_at_call 111; exact Calls.quiet_of_same (lowerByte_any _ (by omega) (by omega) _)))
          go_wp2
          go_ret
          exact ⟨ret_bool (decide_eq_false (lowS_ne k hlt hkb (by simpa using hc))).symm, below_drewN hbl.out _⟩
      · have hfin := lowS_eq HN.out (fun j hj => hall.out j (by omega))
        have HF : Hid (lowS a = lowS b) := hfin
        clear hfin
        go_wp2
        go_ret
        exact ⟨ret_bool (decide_eq_true HF.out).symm, hbl.out⟩
  · have hne : ((a.size : Int) != (b.size : Int)) = true := by simp; omega
    have HN : Hid (lowS a ≠ lowS b) := lowS_sizes hn
    clear hn
    go_enter Tryz.func84, Tryz.ntmps84
    go_wp2
    go_ret
    exact ⟨ret_bool (decide_eq_false HN.out).symm, Below.refl _ _⟩

end Oc
end Go.Proofs.YtgdecgagdacipaaGreatDoor

/-
  Numbers: what digits say.
-/
set_option linter.unusedVariables false
set_option linter.unusedSimpArgs false
namespace Go.Proofs.YtgdecgagdacipaaGreatDoor
open Go.RowKit
namespace Oc

/-- The value of a byte as a digit, and what digits say. -/
def numOf (base : Int) (l : List UInt8) : Int := l.foldl (fun n c => n * base + valI (c.toNat : Int)) 0
def numR (base : Int) (l : List UInt8) (most : Int) : Int × Int :=
  if l.isEmpty || l.any (fun c => decide (base ≤ valI (c.toNat : Int))) then (0, 11) else if most < numOf base l then (0, 12) else (numOf base l, 0)

theorem numOf_snoc (base : Int) (l : List UInt8) (c : UInt8) : numOf base (l ++ [c]) = numOf base l * base + valI (c.toNat : Int) := by
  unfold numOf; rw [List.foldl_append]; rfl
theorem take_snoc (s : ByteArray) (k : Nat) (h : k < s.size) : s.data.toList.take (k + 1) = s.data.toList.take k ++ [s.data.toList.getD k 0] := by
  rw [List.take_succ_eq_append_getElem (by simpa using h), List.getD_eq_getElem?_getD, List.getElem?_eq_getElem (by simpa using h)]; rfl
/-- What the first k digits say. -/
def pre (base : Int) (s : ByteArray) (k : Nat) : Int := numOf base (s.data.toList.take k)
theorem pre_zero (base : Int) (s : ByteArray) : pre base s 0 = 0 := by simp [pre, numOf]
theorem pre_succ (base : Int) (s : ByteArray) (k : Nat) (h : k < s.size) : pre base s (k + 1) = pre base s k * base + valI (byt s k) := by
  unfold pre byt; rw [take_snoc s k h, numOf_snoc]
theorem pre_all (base : Int) (s : ByteArray) : pre base s s.size = numOf base s.data.toList := by
  unfold pre; rw [List.take_of_length_le (by simp)]
theorem pre_nonneg (base : Int) (hb : 0 ≤ base) (s : ByteArray) : ∀ k, k ≤ s.size → 0 ≤ pre base s k
  | 0, _ => by rw [pre_zero]; omega
  | k + 1, h => by
    rw [pre_succ base s k (by omega)]
    have h1 := pre_nonneg base hb s k (by omega)
    have h2 := valI_bd (byt_bd s k).1
    have := Int.mul_nonneg h1 hb
    omega

theorem numR_empty (base most : Int) (s : ByteArray) (h : s.size = 0) : numR base s.data.toList most = (0, 11) := by
  have : s.data.toList = [] := List.length_eq_zero_iff.1 (by rw [size_list]; exact h)
  simp [numR, this]
theorem numR_bad (base most : Int) (s : ByteArray) (k : Nat) (h : k < s.size) (hv : base ≤ valI (byt s k)) : numR base s.data.toList most = (0, 11) := by
  unfold numR
  rw [if_pos]
  simp only [Bool.or_eq_true, List.any_eq_true]
  refine .inr ⟨s.data.toList.getD k 0, ?_, decide_eq_true hv⟩
  rw [List.getD_eq_getElem?_getD, List.getElem?_eq_getElem (by simpa using h)]
  exact List.getElem_mem _
theorem num_ok (base : Int) (s : ByteArray) (h0 : 0 < s.size) (hall : ∀ j, j < s.size → valI (byt s j) < base) : (s.data.toList.isEmpty || s.data.toList.any (fun c => decide (base ≤ valI (c.toNat : Int)))) = false := by
  rw [Bool.or_eq_false_iff]
  constructor
  · cases h : s.data.toList with
    | nil => have := size_list s; rw [h] at this; simp at this; omega
    | cons _ _ => rfl
  · rw [List.any_eq_false]
    intro x hx
    obtain ⟨k, hk, rfl⟩ := List.mem_iff_getElem.1 hx
    have := hall k (by rw [← size_list]; exact hk)
    unfold byt at this
    rw [List.getD_eq_getElem?_getD, List.getElem?_eq_getElem hk] at this
    simpa using this
theorem numR_big (base most : Int) (s : ByteArray) (h0 : 0 < s.size) (hall : ∀ j, j < s.size → valI (byt s j) < base) (h : most < pre base s s.size) : numR base s.data.toList most = (0, 12) := by
  unfold numR
  rw [num_ok base s h0 hall, if_neg (by simp), ← pre_all, if_pos h]
theorem numR_fits (base most : Int) (s : ByteArray) (h0 : 0 < s.size) (hall : ∀ j, j < s.size → valI (byt s j) < base) (h : pre base s s.size ≤ most) : numR base s.data.toList most = (pre base s s.size, 0) := by
  unfold numR
  rw [num_ok base s h0 hall, if_neg (by simp), ← pre_all, if_neg (by omega)]

theorem ret_two {j k : IntKind} {a b : Int} {r : Int × Int} (h : r = (a, b)) : Ending.returned (.tuple #[.int j a, .int k b]) = .returned (.tuple #[.int j r.1, .int k r.2]) := by rw [h]

theorem div_facts (m : Int) (B : Int) (hB : 0 < B) : B * m.tdiv B + m.tmod B = m ∧ m.tmod B < B ∧ -B < m.tmod B ∧ (0 ≤ m → 0 ≤ m.tmod B) := by
  refine ⟨Int.mul_tdiv_add_tmod m B, Int.tmod_lt_of_pos m hB, ?_, fun h => Int.tmod_nonneg B h⟩
  have := Int.lt_tmod_of_pos m hB
  omega

theorem next_big10 {most n v : Int} (n0 : 0 ≤ n) (v0 : 0 ≤ v) (v1 : v < 10) (h : most.tdiv 10 < n ∨ n = most.tdiv 10 ∧ most.tmod 10 < v) : most < n * 10 + v := by
  obtain ⟨e, r1, r2, r3⟩ := div_facts most 10 (by omega)
  omega
theorem next_fit10 {most n v : Int} (n0 : 0 ≤ n) (v0 : 0 ≤ v) (v1 : v < 10) (h : n < most.tdiv 10 ∨ n = most.tdiv 10 ∧ v ≤ most.tmod 10) : n * 10 + v ≤ most := by
  obtain ⟨e, r1, r2, r3⟩ := div_facts most 10 (by omega)
  omega

theorem next_big16 {most n v : Int} (n0 : 0 ≤ n) (v0 : 0 ≤ v) (v1 : v < 16) (h : most.tdiv 16 < n ∨ n = most.tdiv 16 ∧ most.tmod 16 < v) : most < n * 16 + v := by
  obtain ⟨e, r1, r2, r3⟩ := div_facts most 16 (by omega)
  omega
theorem next_fit16 {most n v : Int} (n0 : 0 ≤ n) (v0 : 0 ≤ v) (v1 : v < 16) (h : n < most.tdiv 16 ∨ n = most.tdiv 16 ∧ v ≤ most.tmod 16) : n * 16 + v ≤ most := by
  obtain ⟨e, r1, r2, r3⟩ := div_facts most 16 (by omega)
  omega

theorem pre_mono (base : Int) (hb : 1 ≤ base) (s : ByteArray) (j : Nat) : ∀ d, j + d ≤ s.size → pre base s j ≤ pre base s (j + d)
  | 0, _ => Int.le_refl _
  | d + 1, h => by
    have h1 := pre_mono base hb s j d (by omega)
    have h2 := pre_succ base s (j + d) (by omega)
    have h3 := valI_bd (byt_bd s (j + d)).1
    have h4 := pre_nonneg base (by omega) s (j + d) (by omega)
    have h5 : pre base s (j + d) ≤ pre base s (j + d) * base := by
      have := Int.mul_le_mul_of_nonneg_left hb h4
      omega
    show _ ≤ pre base s (j + d + 1)
    omega
theorem pre_le (base : Int) (hb : 1 ≤ base) (s : ByteArray) (j k : Nat) (h : j ≤ k) (hk : k ≤ s.size) : pre base s j ≤ pre base s k := by
  obtain ⟨d, rfl⟩ := Nat.le.dest h
  exact pre_mono base hb s j d hk
theorem digI_val {c : Int} : digI c = decide (valI c < 10) := by
  unfold digI valI
  rw [Bool.eq_iff_iff, decide_eq_true_iff, decide_eq_true_iff]
  (repeat' split) <;> omega
theorem hexI_val {c : Int} : hexI c = decide (valI c < 16) := by
  unfold hexI valI
  rw [Bool.eq_iff_iff, decide_eq_true_iff, decide_eq_true_iff]
  (repeat' split) <;> omega
theorem hex_of_val {c : Int} {b : Int} (hb : b ≤ 16) (h : valI c < b) : hexI c = true := by
  rw [hexI_val, decide_eq_true_iff]; omega

end Oc
end Go.Proofs.YtgdecgagdacipaaGreatDoor

/-
  Numbers: the document's.
-/
set_option linter.unusedVariables false
set_option linter.unusedSimpArgs false
namespace Go.Proofs.YtgdecgagdacipaaGreatDoor
open Go.RowKit
namespace Oc

theorem over_big10 {most n v : Int} (n0 : 0 ≤ n) (v0 : 0 ≤ v) (hm : v ≤ most) (h : (most - v) / 10 < n) : most < n * 10 + v := by omega
theorem over_fit10 {most n v : Int} (n0 : 0 ≤ n) (v0 : 0 ≤ v) (hm : v ≤ most) (h : ¬ (most - v) / 10 < n) : n * 10 + v ≤ most := by omega

theorem over_big16 {most n v : Int} (n0 : 0 ≤ n) (v0 : 0 ≤ v) (hm : v ≤ most) (h : (most - v) / 16 < n) : most < n * 16 + v := by omega
theorem over_fit16 {most n v : Int} (n0 : 0 ≤ n) (v0 : 0 ≤ v) (hm : v ≤ most) (h : ¬ (most - v) / 16 < n) : n * 16 + v ≤ most := by omega

end Oc
end Go.Proofs.YtgdecgagdacipaaGreatDoor

/-
  Tokens, bytes of fields; the answers that keep the laws awake.
-/
set_option linter.unusedVariables false
set_option linter.unusedSimpArgs false
namespace Go.Proofs.YtgdecgagdacipaaGreatDoor
open Go.RowKit
namespace Oc

theorem empty_of {s : ByteArray} (h : s.size = 0) : s.toList.isEmpty = true := by rw [ByteArray.toList_eq]; simp [List.length_eq_zero_iff.1 ((size_list s).trans h)]
theorem nonempty_of {s : ByteArray} (h : ¬ s.size = 0) : s.toList.isEmpty = false := by
  rw [ByteArray.toList_eq]
  cases e : s.data.toList with
  | nil => have := size_list s; rw [e] at this; simp at this; omega
  | cons _ _ => rfl
theorem list_ne {s : ByteArray} (h : ¬ s.size = 0) : s.data.toList ≠ [] := by
  intro e
  have := size_list s
  rw [e] at this
  simp at this
  omega
theorem isTok_empty {s : ByteArray} (h : s.size = 0) : isTok s.data.toList = false := by
  have := List.length_eq_zero_iff.1 ((size_list s).trans h)
  rw [this]; rfl

theorem low_ab : lowS ⟨#[97, 66]⟩ = ⟨#[97, 98]⟩ := by decide +kernel
theorem num_12 : numR 10 (⟨#[49, 50]⟩ : ByteArray).data.toList 12 = (12, 0) := by decide +kernel
theorem tok_x : isTok (⟨#[120]⟩ : ByteArray).data.toList = true := by decide +kernel

end Oc
end Go.Proofs.YtgdecgagdacipaaGreatDoor

/-
  tag: isTagByte, front.
-/
set_option linter.unusedVariables false
set_option linter.unusedSimpArgs false
namespace Go.Proofs.YtgdecgagdacipaaGreatDoor
open Go.RowKit
namespace Tt
open Oc

def inI (c : Int) : Bool := decide (32 < c ∧ c ≠ 34 ∧ c ≠ 127)
theorem inT_int (c : UInt8) : inT c = inI (c.toNat : Int) := by
  unfold inT inI
  rw [decide_eq_decide]
  omega
theorem inI_t {c : Int} (h : 32 < c ∧ c ≠ 34 ∧ c ≠ 127) : inI c = true := decide_eq_true h
theorem inI_f {c : Int} (h : ¬ (32 < c ∧ c ≠ 34 ∧ c ≠ 127)) : inI c = false := decide_eq_false h

set_option maxHeartbeats 400000 in
theorem isTagByte_any (c : Int) (h0 : 0 ≤ c) (h1 : c ≤ 255) (w : World) :
    Calls Tryz.prog 62 #[.int .u8 c] w fun e w' => e = .returned (.bool (inI c)) ∧ w' = w := by
  rcases (show c = 34 ∨ c = 127 ∨ c ≤ 32 ∨ (32 < c ∧ c ≠ 34 ∧ c ≠ 127) by omega) with rfl | rfl | h | ⟨h, h', h''⟩
  · go_enter Tryz.func62, Tryz.ntmps62
    go_wp2
    go_ret
    exact ⟨ret_bool (by decide), rfl⟩
  · go_enter Tryz.func62, Tryz.ntmps62
    go_wp2
    go_ret
    exact ⟨ret_bool (by decide), rfl⟩
  · go_enter Tryz.func62, Tryz.ntmps62
    go_wp2
    go_ret
    exact ⟨ret_bool (inI_f (by omega)).symm, rfl⟩
  · have g1 : (c != 34) = true := by simp; omega
    have g2 : (c != 127) = true := by simp; omega
    go_enter Tryz.func62, Tryz.ntmps62
    go_wp2
    go_ret
    exact ⟨ret_bool (inI_t (by omega)).symm, rfl⟩

set_option maxHeartbeats 400000 in
theorem rinside_any (c : Int) (h0 : 0 ≤ c) (h1 : c ≤ 255) (w : World) :
    Calls Tryz.prog 28 #[.int .u8 c] w fun e w' => e = .returned (.bool (inI c)) ∧ w' = w := by
  rcases (show c = 33 ∨ c = 34 ∨ c = 127 ∨ c ≤ 32 ∨ (35 ≤ c ∧ c ≤ 126) ∨ 128 ≤ c by omega) with rfl | rfl | rfl | h | ⟨h, h'⟩ | h
  · go_enter Tryz.func28, Tryz.ntmps28
    go_wp2
    go_ret
    exact ⟨ret_bool (by decide), rfl⟩
  · go_enter Tryz.func28, Tryz.ntmps28
    go_wp2
    go_ret
    exact ⟨ret_bool (by decide), rfl⟩
  · go_enter Tryz.func28, Tryz.ntmps28
    go_wp2
    go_ret
    exact ⟨ret_bool (by decide), rfl⟩
  · have g1 : (c == 33) = false := by simp; omega
    go_enter Tryz.func28, Tryz.ntmps28
    go_wp2
    go_ret
    exact ⟨ret_bool (by rw [inI_f (by omega)]; simp; omega), rfl⟩
  · have g1 : (c == 33) = false := by simp; omega
    go_enter Tryz.func28, Tryz.ntmps28
    go_wp2
    go_ret
    exact ⟨ret_bool (inI_t (by omega)).symm, rfl⟩
  · have g1 : (c == 33) = false := by simp; omega
    have g2 : decide (c ≤ 126) = false := by simp; omega
    go_enter Tryz.func28, Tryz.ntmps28
    go_wp2
    go_ret
    exact ⟨ret_bool (inI_t (by omega)).symm, rfl⟩

/-- A tag lies in a block. -/
def TB (T : Nat) (w : World) (g : Nat) (t : Tg1) : Prop := w.heap[g]? = some (.cells #[.bool t.1, .string (str t.2)] T (0, 0))
theorem TB.c0 {T : Nat} {w : World} {g : Nat} {t : Tg1} (h : TB T w g t) : w.cell? ⟨g, 0, none⟩ = some (.bool t.1) := by
  have := Lib.cell_of_heap h 0
  simpa using this
theorem TB.c1 {T : Nat} {w : World} {g : Nat} {t : Tg1} (h : TB T w g t) : w.cell? ⟨g, 1, none⟩ = some (.string (str t.2)) := by
  have := Lib.cell_of_heap h 1
  simpa using this
theorem TB.f {T : Nat} {w : World} {g : Nat} {t : Tg1} (h : TB T w g t) (j : Nat) : w.frozen? ⟨g, j, none⟩ = false := Lib.frozen_of_heap h j
theorem TB.lt {T : Nat} {w : World} {g : Nat} {t : Tg1} (h : TB T w g t) : g < w.heap.size := by
  rcases Nat.lt_or_ge g w.heap.size with h' | h'
  · exact h'
  · unfold TB at h; simp [Array.getElem?_eq_none h'] at h
theorem TB.set0 {T : Nat} {w : World} {g : Nat} {t : Tg1} (h : TB T w g t) (b : Bool) : TB T (w.setCell ⟨g, 0, none⟩ (.bool b)) g (b, t.2) := by
  unfold TB at h ⊢
  simp [World.setCell, Array.getElem?_modify, h]
theorem TB.set1 {T : Nat} {w : World} {g : Nat} {t : Tg1} (h : TB T w g t) (l : List UInt8) : TB T (w.setCell ⟨g, 1, none⟩ (.string (str l))) g (t.1, l) := by
  unfold TB at h ⊢
  simp [World.setCell, Array.getElem?_modify, h]
theorem TB.other {T : Nat} {w : World} {g : Nat} {t : Tg1} (h : TB T w g t) {p : Addr} (hp : p.block ≠ g) (v : Value) : TB T (w.setCell p v) g t := by
  unfold TB at h ⊢
  simp [World.setCell, Array.getElem?_modify, h, hp]
theorem TB.below {T : Nat} {w w' : World} {g : Nat} {t : Tg1} (h : TB T w g t) (b : Below w.heap.size w w') : TB T w' g t := by
  unfold TB at *
  rw [b.block g (TB.lt h)]
  exact h
theorem TB.alloc {T : Nat} {w : World} {g : Nat} {t : Tg1} (h : TB T w g t) (o : Obj) : TB T (w.alloc o) g t := h.below ((Below.refl _ w).alloc (Nat.le_refl _) _)

theorem str_ext (s : ByteArray) (b k : Nat) : s.extract b k = str ((s.data.toList.drop b).take (k - b)) := by
  rw [← Lib.extract_data, str_self]
theorem drop_byte (s : ByteArray) (k : Nat) (h : k < s.size) : s.data.toList.drop k = s.data.toList.getD k 0 :: s.data.toList.drop (k + 1) := by
  have hk : k < s.data.toList.length := by rw [size_list]; exact h
  rw [List.drop_eq_getElem_cons hk, List.getD_eq_getElem?_getD, List.getElem?_eq_getElem hk]
  rfl
theorem byte_eq {c : UInt8} {n : Nat} (hn : n < 256) (h : (c.toNat : Int) = n) : c = UInt8.ofNat n := by
  apply UInt8.toNat.inj
  rw [UInt8.toNat_ofNat']
  omega
theorem byte_ne {c : UInt8} {n : Nat} (hn : n < 256) (h : (c.toNat : Int) ≠ n) : c ≠ UInt8.ofNat n := by
  intro e
  apply h
  rw [e, UInt8.toNat_ofNat']
  omega

set_option maxRecDepth 100000 in
set_option maxHeartbeats 4000000 in
theorem front_any (s : ByteArray) (hs : s.size ≤ 4000000000) (w : World) :
    Calls Tryz.prog 49 #[.string s] w fun e w' => e = .returned (.tuple #[.agg #[.bool (frontM s.data.toList).1.1, .string (str (frontM s.data.toList).1.2)], .int .i64 ((frontM s.data.toList).2.1 : Nat), .bool (frontM s.data.toList).2.2]) ∧ Below w.heap.size w w' := by
  obtain ⟨w1, hw1⟩ : ∃ w1, w1 = w.alloc (.cells #[.bool false, .string ⟨#[]⟩] 23) := ⟨_, rfl⟩
  obtain ⟨w2, hw2⟩ : ∃ w2, w2 = w1.alloc (.cells #[.bool false, .string ⟨#[]⟩] 23) := ⟨_, rfl⟩
  have z1 : w1.heap.size = w.heap.size + 1 := by rw [hw1]; simp
  have z2 : w2.heap.size = w.heap.size + 2 := by rw [hw2]; simp; omega
  have HA : Hid (TB 23 w2 w.heap.size (false, [])) := (by
    have h1 : TB 23 w1 w.heap.size (false, []) := by rw [hw1]; exact heap_alloc_new w _
    rw [hw2]; exact h1.alloc _ : TB _ _ _ _)
  have HC : Hid (TB 23 w2 (w.heap.size + 1) (false, [])) := (by
    rw [hw2, ← z1]; exact heap_alloc_new w1 _ : TB _ _ _ _)
  have HB : Hid (Below w.heap.size w w2) := (by
    rw [hw2, hw1]; exact ((Below.refl _ w).alloc (Nat.le_refl _) _).alloc (by simp) _ : Below _ _ _)
  have hE : w.heap.size + 1 ≠ w.heap.size := by omega
  generalize hL : s.data.toList = L at *
  have HL : Hid (s.data.toList = L) := hL
  clear hL
  go_enter Tryz.func49, Tryz.ntmps49
  go_wp2
  go_step3
  go_wp2
  go_step3
  go_wp2
  rw [← hw1, ← hw2]
  go_loopw [6, 7, 8] (fun nx bg i wr => ∃ (n b k : Nat) (t : Tg1), n ≤ 4 ∧ b ≤ k ∧ k ≤ s.size ∧ nx = .int .i64 n ∧ bg = .int .i64 b ∧ i = .int .i64 k ∧ Hid (frontM L = walkM L (L.drop k) k n b t) ∧ Hid (TB 23 wr w.heap.size (false, [])) ∧ Hid (TB 23 wr (w.heap.size + 1) t) ∧ Hid (Below w.heap.size w wr)) (fun _ _ i _ => s.size - (intOf i).toNat)
  case atStart => exact ⟨0, 0, 0, (false, []), by omega, by omega, by omega, rfl, rfl, rfl, (rfl : frontM L = walkM L (L.drop 0) 0 0 0 (false, [])), HA, HC, HB⟩
  case round =>
    obtain ⟨n, b, k, t, hn, hbk, hk, rfl, rfl, rfl, hst, ha, hc, hb⟩ := hrel
    clear hw1 hw2 z1 z2 HA HC HB
    have c0 := hc.out.c0
    have c1 := hc.out.c1
    have f0 := hc.out.f 0
    have f1 := hc.out.f 1
    have a0 := ha.out.c0
    have a1 := ha.out.c1
    have g0 := ha.out.f 0
    have g1 := ha.out.f 1
    obtain ⟨tw, tl⟩ := t
    dsimp only at c0 c1 a0 a1
    by_cases hlt : k < s.size
    · have hdr : L.drop k = L.getD k 0 :: L.drop (k + 1) := by rw [← HL.out]; exact drop_byte s k hlt
      have hby0 : ((s[k].toNat : Nat) : Int) = ((L.getD k 0).toNat : Int) := by rw [← HL.out]; exact byt_at s k hlt
      rw [hdr] at hst
      have hex : Hid (s.extract b k = str ((L.drop b).take (k - b))) := by rw [← HL.out]; exact str_ext s b k
      have hcb := (L.getD k 0).toNat_lt
      clear hdr
      generalize L.getD k 0 = c at hst hby0 hcb
      generalize hR : L.drop (k + 1) = R at hst
      have HRR : Hid (L.drop (k + 1) = R) := hR
      clear hR
      generalize hci : (c.toNat : Int) = ci at hby0
      have HCI : Hid ((c.toNat : Int) = ci) := hci
      have hci0 : 0 ≤ ci := by omega
      have hci1 : ci ≤ 255 := by omega
      clear hci hcb
      rcases (show n = 0 ∨ n = 1 ∨ n = 2 ∨ n = 3 ∨ n = 4 by omega) with rfl | rfl | rfl | rfl | rfl
      · by_cases h87 : ci = 87
        · subst h87
          have hcv : c = 87 := byte_eq (n := 87) (by omega) HCI.out
          have HS : Hid (frontM L = walkM L (L.drop (k + 1)) (k + 1) 1 b (true, tl)) := by
            show _ = _
            rw [hst.out, HRR.out]
            simp [walkM, hcv]
          go_wp2
          go_roundw
          case rel => exact ⟨1, b, k + 1, (true, tl), by omega, by omega, by omega, rfl, by go_num, by go_num, HS, ha.out.other (p := ⟨w.heap.size + 1, 0, none⟩) hE _, hc.out.set0 true, hb.out.setCell (p := ⟨w.heap.size + 1, 0, none⟩) (by simp) _⟩
          case measure => simp [intOf]; omega
        · by_cases h34 : ci = 34
          · subst h34
            have hcv : c = 34 := byte_eq (n := 34) (by omega) HCI.out
            have HS : Hid (frontM L = walkM L (L.drop (k + 1)) (k + 1) 3 (k + 1) (tw, tl)) := by
              show _ = _
              rw [hst.out, HRR.out]
              simp [walkM, hcv]
            go_wp2
            go_roundw
            case rel => exact ⟨3, k + 1, k + 1, (tw, tl), by omega, by omega, by omega, rfl, by go_num, by go_num, HS, ha, hc, hb⟩
            case measure => simp [intOf]; omega
          · have n87 : ¬ c = 87 := byte_ne (n := 87) (by omega) (by rw [HCI.out]; omega)
            have q87 : (ci == 87) = false := by simp; omega
            have n34 : ¬ c = 34 := byte_ne (n := 34) (by omega) (by rw [HCI.out]; omega)
            have q34 : (ci == 34) = false := by simp; omega
            have HE : Hid (frontM L = ((tw, tl), k, false)) := by
              show _ = _
              rw [hst.out]
              simp [walkM, n87, n34]
            go_wp2
            try simp (config := { zetaDelta := true }) only [Exit.inBlock, Exit.then, Exit.noGoto_ret]
            refine bodyPost_ret (v := .tuple #[.agg #[.bool tw, .string (str tl)], .int .i64 (k : Nat), .bool false]) (by simp [results, Tryz.results49, go_sem, c0, c1, a0, a1]) rfl ?_
            rw [HE.out]
            exact ⟨rfl, (Below.setCell (p := ⟨w.heap.size, 1, none⟩) (Below.setCell (p := ⟨w.heap.size, 0, none⟩) hb.out (by simp) _) (by simp) _)⟩
      · by_cases h47 : ci = 47
        · subst h47
          have hcv : c = 47 := byte_eq (n := 47) (by omega) HCI.out
          have HS : Hid (frontM L = walkM L (L.drop (k + 1)) (k + 1) 2 b (tw, tl)) := by
            show _ = _
            rw [hst.out, HRR.out]
            simp [walkM, hcv]
          go_wp2
          go_roundw
          case rel => exact ⟨2, b, k + 1, (tw, tl), by omega, by omega, by omega, rfl, by go_num, by go_num, HS, ha, hc, hb⟩
          case measure => simp [intOf]; omega
        · have n47 : ¬ c = 47 := byte_ne (n := 47) (by omega) (by rw [HCI.out]; omega)
          have q47 : (ci == 47) = false := by simp; omega
          have HE : Hid (frontM L = ((tw, tl), k, false)) := by
            show _ = _
            rw [hst.out]
            simp [walkM, n47]
          go_wp2
          try simp (config := { zetaDelta := true }) only [Exit.inBlock, Exit.then, Exit.noGoto_ret]
          refine bodyPost_ret (v := .tuple #[.agg #[.bool tw, .string (str tl)], .int .i64 (k : Nat), .bool false]) (by simp [results, Tryz.results49, go_sem, c0, c1, a0, a1]) rfl ?_
          rw [HE.out]
          exact ⟨rfl, (Below.setCell (p := ⟨w.heap.size, 1, none⟩) (Below.setCell (p := ⟨w.heap.size, 0, none⟩) hb.out (by simp) _) (by simp) _)⟩
      · by_cases h34 : ci = 34
        · subst h34
          have hcv : c = 34 := byte_eq (n := 34) (by omega) HCI.out
          have HS : Hid (frontM L = walkM L (L.drop (k + 1)) (k + 1) 3 (k + 1) (tw, tl)) := by
            show _ = _
            rw [hst.out, HRR.out]
            simp [walkM, hcv]
          go_wp2
          go_roundw
          case rel => exact ⟨3, k + 1, k + 1, (tw, tl), by omega, by omega, by omega, rfl, by go_num, by go_num, HS, ha, hc, hb⟩
          case measure => simp [intOf]; omega
        · have n34 : ¬ c = 34 := byte_ne (n := 34) (by omega) (by rw [HCI.out]; omega)
          have q34 : (ci == 34) = false := by simp; omega
          have HE : Hid (frontM L = ((tw, tl), k, false)) := by
            show _ = _
            rw [hst.out]
            simp [walkM, n34]
          go_wp2
          try simp (config := { zetaDelta := true }) only [Exit.inBlock, Exit.then, Exit.noGoto_ret]
          refine bodyPost_ret (v := .tuple #[.agg #[.bool tw, .string (str tl)], .int .i64 (k : Nat), .bool false]) (by simp [results, Tryz.results49, go_sem, c0, c1, a0, a1]) rfl ?_
          rw [HE.out]
          exact ⟨rfl, (Below.setCell (p := ⟨w.heap.size, 1, none⟩) (Below.setCell (p := ⟨w.heap.size, 0, none⟩) hb.out (by simp) _) (by simp) _)⟩
      · by_cases h34 : ci = 34
        · subst h34
          have hcv : c = 34 := byte_eq (n := 34) (by omega) HCI.out
          have HS : Hid (frontM L = walkM L (L.drop (k + 1)) (k + 1) 4 b (tw, (L.drop b).take (k - b))) := by
            show _ = _
            rw [hst.out, HRR.out]
            simp [walkM, hcv]
          have hcut : Hid (TB 23 (wr.setCell ⟨w.heap.size + 1, 1, none⟩ (.string (s.extract b k))) (w.heap.size + 1) (tw, (L.drop b).take (k - b))) := (by rw [hex.out]; exact hc.out.set1 _ : TB _ _ _ _)
          go_wp2
          go_roundw
          case rel => exact ⟨4, b, k + 1, (tw, (L.drop b).take (k - b)), by omega, by omega, by omega, rfl, by go_num, by go_num, HS, ha.out.other (p := ⟨w.heap.size + 1, 1, none⟩) hE _, hcut, hb.out.setCell (p := ⟨w.heap.size + 1, 1, none⟩) (by simp) _⟩
          case measure => simp [intOf]; omega
        · have n34 : ¬ c = 34 := byte_ne (n := 34) (by omega) (by rw [HCI.out]; omega)
          have q34 : (ci == 34) = false := by simp; omega
          have HIT : Hid (inT c = inI ci) := (by rw [inT_int, HCI.out] : inT c = inI ci)
          cases hin : inI ci with
          | true =>
            have hin2 : inT c = true := HIT.out.trans hin
            by_cases hm : k - b < 256
            · have HS : Hid (frontM L = walkM L (L.drop (k + 1)) (k + 1) 3 b (tw, tl)) := by
                show _ = _
                rw [hst.out, HRR.out]
                simp [walkM, n34, hin2, hm]
              have hm2 : ((k : Int) - (b : Int) < 256) := by omega
              go_wp2_with (go_at_call 62; refine (isTagByte_any _ (by omega) (by omega) _).mono ?_; rintro e w' ⟨rfl, rfl⟩)
              go_roundw
              case rel => exact ⟨3, b, k + 1, (tw, tl), by omega, by omega, by omega, rfl, by go_num, by go_num, HS, ha, hc, hb⟩
              case measure => simp [intOf]; omega
            · have HE : Hid (frontM L = ((tw, tl), k, false)) := by
                show _ = _
                rw [hst.out]
                simp [walkM, n34, hin2, hm]
              have hm2 : ¬ ((k : Int) - (b : Int) < 256) := by omega
              go_wp2_with (go_at_call 62; refine (isTagByte_any _ (by omega) (by omega) _).mono ?_; rintro e w' ⟨rfl, rfl⟩)
              try simp (config := { zetaDelta := true }) only [Exit.inBlock, Exit.then, Exit.noGoto_ret]
              refine bodyPost_ret (v := .tuple #[.agg #[.bool tw, .string (str tl)], .int .i64 (k : Nat), .bool false]) (by simp [results, Tryz.results49, go_sem, c0, c1, a0, a1]) rfl ?_
              rw [HE.out]
              exact ⟨rfl, (Below.setCell (p := ⟨w.heap.size, 1, none⟩) (Below.setCell (p := ⟨w.heap.size, 0, none⟩) hb.out (by simp) _) (by simp) _)⟩
          | false =>
            have hin2 : inT c = false := HIT.out.trans hin
            have HE : Hid (frontM L = ((tw, tl), k, false)) := by
              show _ = _
              rw [hst.out]
              simp [walkM, n34, hin2]
            go_wp2_with (go_at_call 62; refine (isTagByte_any _ (by omega) (by omega) _).mono ?_; rintro e w' ⟨rfl, rfl⟩)
            try simp (config := { zetaDelta := true }) only [Exit.inBlock, Exit.then, Exit.noGoto_ret]
            refine bodyPost_ret (v := .tuple #[.agg #[.bool tw, .string (str tl)], .int .i64 (k : Nat), .bool false]) (by simp [results, Tryz.results49, go_sem, c0, c1, a0, a1]) rfl ?_
            rw [HE.out]
            exact ⟨rfl, (Below.setCell (p := ⟨w.heap.size, 1, none⟩) (Below.setCell (p := ⟨w.heap.size, 0, none⟩) hb.out (by simp) _) (by simp) _)⟩
      · have HE : Hid (frontM L = ((tw, tl), k, true)) := by
          show _ = _
          rw [hst.out]
          simp [walkM]
        go_wp2
        try simp (config := { zetaDelta := true }) only [Exit.inBlock, Exit.then, Exit.noGoto_ret]
        refine bodyPost_ret (v := .tuple #[.agg #[.bool tw, .string (str tl)], .int .i64 (k : Nat), .bool true]) (by simp [results, Tryz.results49, go_sem, c0, c1, a0, a1]) rfl ?_
        rw [HE.out]
        exact ⟨rfl, (Below.setCell (p := ⟨w.heap.size, 1, none⟩) (Below.setCell (p := ⟨w.heap.size, 0, none⟩) hb.out (by simp) _) (by simp) _)⟩
    · have hkk : k = s.size := by omega
      have HE : Hid (frontM L = ((tw, tl), k, n == 4)) := by
        show _ = _
        rw [hst.out, List.drop_eq_nil_of_le (by rw [← HL.out, size_list]; omega)]
        rfl
      have hnn : ((n : Int) == 4) = (n == 4) := by rw [Bool.eq_iff_iff, beq_iff_eq, beq_iff_eq]; omega
      clear hst
      go_wp2
      try simp (config := { zetaDelta := true }) only [Exit.inBlock, Exit.then, Exit.noGoto_ret]
      refine bodyPost_ret (v := .tuple #[.agg #[.bool tw, .string (str tl)], .int .i64 (k : Nat), .bool (n == 4)]) (by simp [results, Tryz.results49, go_sem, c0, c1, a0, a1]) rfl ?_
      rw [HE.out]
      exact ⟨rfl, (Below.setCell (p := ⟨w.heap.size, 1, none⟩) (Below.setCell (p := ⟨w.heap.size, 0, none⟩) hb.out (by simp) _) (by simp) _)⟩

end Tt
end Go.Proofs.YtgdecgagdacipaaGreatDoor

/-
  The document's read.
-/
set_option linter.unusedVariables false
set_option linter.unusedSimpArgs false
namespace Go.Proofs.YtgdecgagdacipaaGreatDoor
open Go.RowKit
namespace Tt
open Oc

theorem front_nil (l : List UInt8) (a : Nat) (h : l.length ≤ a) : frontR (l.drop a) = ((false, []), 0, false) := by rw [List.drop_eq_nil_of_le h]; rfl
theorem drop_at (l : List UInt8) (a : Nat) (h : a < l.length) : l.drop a = l.getD a 0 :: l.drop (a + 1) := by
  rw [List.drop_eq_getElem_cons h, List.getD_eq_getElem?_getD, List.getElem?_eq_getElem h]
  rfl
theorem two_tags (w : World) (T : Nat) (x : Bool) : TB T ((w.alloc (.cells #[.bool false, .string ⟨#[]⟩] T)).alloc (.cells #[.bool x, .string ⟨#[]⟩] T)) w.heap.size (false, []) ∧ TB T ((w.alloc (.cells #[.bool false, .string ⟨#[]⟩] T)).alloc (.cells #[.bool x, .string ⟨#[]⟩] T)) (w.heap.size + 1) (x, []) ∧ Below w.heap.size w ((w.alloc (.cells #[.bool false, .string ⟨#[]⟩] T)).alloc (.cells #[.bool x, .string ⟨#[]⟩] T)) := by
  refine ⟨?_, ?_, ((Below.refl _ w).alloc (Nat.le_refl _) _).alloc (by simp) _⟩
  · have h1 : TB T (w.alloc (.cells #[.bool false, .string ⟨#[]⟩] T)) w.heap.size (false, []) := heap_alloc_new w _
    exact h1.alloc _
  · have z1 : (w.alloc (.cells #[.bool false, .string ⟨#[]⟩] T)).heap.size = w.heap.size + 1 := by simp
    rw [← z1]
    exact heap_alloc_new _ _

set_option maxRecDepth 100000 in
set_option maxHeartbeats 4000000 in
theorem rread_any (s : ByteArray) (hs : s.size ≤ 4000000000) (a : Nat) (haS : a ≤ s.size) (w : World) :
    Calls Tryz.prog 34 #[.string s, .int .i64 a] w fun e w' => e = .returned (.tuple #[.agg #[.bool (frontR (s.data.toList.drop a)).1.1, .string (str (frontR (s.data.toList.drop a)).1.2)], .int .i64 (a + (frontR (s.data.toList.drop a)).2.1 : Nat), .bool (frontR (s.data.toList.drop a)).2.2]) ∧ Below w.heap.size w w' := by
  have hE : w.heap.size + 1 ≠ w.heap.size := by omega
  have hE2 : w.heap.size ≠ w.heap.size + 1 := by omega
  have hlen : s.data.toList.length = s.size := size_list s
  have HTT : Hid (∀ x, _) := fun x => two_tags w 30 x
  have HX : Hid (∀ b k, s.extract b k = str ((s.data.toList.drop b).take (k - b))) := fun b k => str_ext s b k
  have HAT : Hid (∀ k (h : k < s.size), ((s[k].toNat : Nat) : Int) = ((s.data.toList.getD k 0).toNat : Int)) := fun k h => byt_at s k h
  generalize s.data.toList = L at *
  by_cases h0 : a < s.size
  · have hdr0 := drop_at L a (by rw [hlen]; exact h0)
    have e0 : ((a : Int) == (s.size : Int)) = false := by rw [beq_eq_false_iff_ne]; omega
    have hby0 := HAT.out (a) h0
    have hcb0 := (L.getD (a) 0).toNat_lt
    generalize hc0 : L.getD a 0 = b0 at *
    generalize hci0 : (b0.toNat : Int) = d0 at hby0
    have HCI0 : Hid ((b0.toNat : Int) = d0) := hci0
    clear hci0 hcb0 hc0
    by_cases h87 : d0 = 87
    · subst h87
      have v0 : b0 = 87 := byte_eq (n := 87) (by omega) HCI0.out
      subst v0
      by_cases h1 : a + 1 < s.size
      · have hdr1 := drop_at L (a + 1) (by rw [hlen]; exact h1)
        have e1 : ((a : Int) + 1 == (s.size : Int)) = false := by rw [beq_eq_false_iff_ne]; omega
        have hby1 := HAT.out (a + 1) h1
        have hcb1 := (L.getD (a + 1) 0).toNat_lt
        generalize hc1 : L.getD (a + 1) 0 = b1 at *
        generalize hci1 : (b1.toNat : Int) = d1 at hby1
        have HCI1 : Hid ((b1.toNat : Int) = d1) := hci1
        clear hci1 hcb1 hc1
        by_cases h47 : d1 = 47
        · subst h47
          have v1 : b1 = 47 := byte_eq (n := 47) (by omega) HCI1.out
          subst v1
          by_cases h2 : a + 1 + 1 < s.size
          · have hdr2 := drop_at L (a + 1 + 1) (by rw [hlen]; exact h2)
            have e2 : ((a : Int) + 1 + 1 == (s.size : Int)) = false := by rw [beq_eq_false_iff_ne]; omega
            have hby2 := HAT.out (a + 1 + 1) h2
            have hcb2 := (L.getD (a + 1 + 1) 0).toNat_lt
            generalize hc2 : L.getD (a + 1 + 1) 0 = b2 at *
            generalize hci2 : (b2.toNat : Int) = d2 at hby2
            have HCI2 : Hid ((b2.toNat : Int) = d2) := hci2
            clear hci2 hcb2 hc2
            by_cases h34 : d2 = 34
            · subst h34
              have v2 : b2 = 34 := byte_eq (n := 34) (by omega) HCI2.out
              subst v2
              have HFR : Hid (frontR (L.drop a) = restR true 3 (L.drop (a + 3))) := by
                show _ = _
                rw [hdr0, hdr1, hdr2]
                simp [frontR]
              clear hdr0 hdr1 hdr2
              go_enter Tryz.func34, Tryz.ntmps34
              go_wp2
              go_loopw [1] (fun i wr => ∃ k : Nat, a + 3 + k ≤ s.size ∧ i = .int .i64 (a + 3 + k : Nat) ∧ Hid (bodyR (L.drop (a + 3)) 0 = bodyR (L.drop (a + 3 + k)) k) ∧ Hid (k ≤ 256) ∧ Hid (TB 30 wr w.heap.size (false, [])) ∧ Hid (TB 30 wr (w.heap.size + 1) (true, [])) ∧ Hid (Below w.heap.size w wr)) (fun i _ => s.size - (intOf i).toNat)
              case atStart => exact ⟨0, by omega, rfl, (rfl : _ = _), (by omega : 0 ≤ 256), (HTT.out true).1, (HTT.out true).2.1, (HTT.out true).2.2⟩
              case round =>
                obtain ⟨k, hk, rfl, hst, h256, ha, hc, hb⟩ := hrel
                clear HTT
                have c0 := hc.out.c0
                have c1 := hc.out.c1
                have f0 := hc.out.f 0
                have f1 := hc.out.f 1
                have a0 := ha.out.c0
                have a1 := ha.out.c1
                have g0 := ha.out.f 0
                have g1 := ha.out.f 1
                dsimp only at c0 c1 a0 a1
                have h256' := h256.out
                by_cases hlt : a + 3 + k < s.size
                · have hdr := drop_at L (a + 3 + k) (by rw [hlen]; exact hlt)
                  have hby0 := HAT.out (a + 3 + k) hlt
                  rw [hdr] at hst
                  have hcb := (L.getD (a + 3 + k) 0).toNat_lt
                  have hex : Hid (s.extract (a + 3) (a + 3 + k) = str ((L.drop (a + 3)).take k)) := (by rw [HX.out (a + 3) (a + 3 + k), show a + 3 + k - (a + 3) = k by omega] : _ = _)
                  clear hdr HAT HX
                  generalize L.getD (a + 3 + k) 0 = c at hst hby0 hcb
                  generalize hci : (c.toNat : Int) = ci at hby0
                  have HCI : Hid ((c.toNat : Int) = ci) := hci
                  have hci0 : 0 ≤ ci := by omega
                  have hci1 : ci ≤ 255 := by omega
                  clear hci hcb
                  by_cases h34 : ci = 34
                  · subst h34
                    have hcv : c = 34 := byte_eq (n := 34) (by omega) HCI.out
                    have HE : Hid (frontR (L.drop a) = ((true, (L.drop (a + 3)).take k), 3 + k + 1, true)) := by
                      show _ = _
                      have hb2 : bodyR (L.drop (a + 3)) 0 = (k, true) := by rw [hst.out]; simp [bodyR, hcv]
                      rw [HFR.out]
                      unfold restR
                      rw [hb2]
                      rfl
                    clear hst
                    go_wp2
                    rw [hex.out]
                    refine bodyPost_ret (v := .tuple #[.agg #[.bool true, .string (str ((L.drop (a + 3)).take k))], .int .i64 (a + (3 + k + 1) : Nat), .bool true]) (by rw [show ((a + (3 + k + 1) : Nat) : Int) = ((a + 3 : Nat) : Int) + (k : Int) + 1 by omega]; simp [results, Tryz.results34, go_sem, c0, c1, a0, a1] <;> omega) rfl ?_
                    rw [HE.out]
                    refine ⟨rfl, ?_⟩
                    repeat (first | exact hb.out | refine Below.setCell ?_ (by simp) _)
                  · have n34 : ¬ c = 34 := byte_ne (n := 34) (by omega) (by rw [HCI.out]; omega)
                    have q34 : (ci != 34) = true := by simp; omega
                    have HIT : Hid (inT c = inI ci) := (by rw [inT_int, HCI.out] : inT c = inI ci)
                    cases hin : inI ci with
                    | true =>
                      have hin2 : inT c = true := HIT.out.trans hin
                      by_cases hm : k = 256
                      · subst hm
                        have HE : Hid (frontR (L.drop a) = ((false, []), 3 + 256, false)) := by
                          show _ = _
                          have hb2 : bodyR (L.drop (a + 3)) 0 = (256, false) := by rw [hst.out]; simp [bodyR, n34, hin2]
                          rw [HFR.out]
                          unfold restR
                          rw [hb2]
                          rfl
                        have hq : (((a : Int) + 3 + 256 - ((a : Int) + 1 + 1 + 1)) == 256) = true := by rw [beq_iff_eq]; omega
                        clear hst
                        go_wp2_with (go_at_call 28; refine (rinside_any _ (by omega) (by omega) _).mono ?_; rintro e w' ⟨rfl, rfl⟩)
                        refine bodyPost_ret (v := .tuple #[.agg #[.bool false, .string ⟨#[]⟩], .int .i64 (a + (3 + 256) : Nat), .bool false]) (by simp [results, Tryz.results34, go_sem, c0, c1, a0, a1] <;> omega) rfl ?_
                        rw [HE.out]
                        refine ⟨rfl, ?_⟩
                        repeat (first | exact hb.out | refine Below.setCell ?_ (by simp) _)
                      · have hstn : Hid (bodyR (L.drop (a + 3)) 0 = bodyR (L.drop (a + 3 + (k + 1))) (k + 1)) := by
                          show _ = _
                          rw [hst.out, ← Nat.add_assoc]
                          have hk2 : k < 256 := by omega
                          simp [bodyR, n34, hin2, hk2]
                        have hq : (((a : Int) + 3 + (k : Int) - ((a : Int) + 1 + 1 + 1)) == 256) = false := by rw [beq_eq_false_iff_ne]; omega
                        clear hst
                        go_wp2_with (go_at_call 28; refine (rinside_any _ (by omega) (by omega) _).mono ?_; rintro e w' ⟨rfl, rfl⟩)
                        go_roundw
                        case rel => exact ⟨k + 1, by omega, by go_num, hstn, (by omega : k + 1 ≤ 256), ha, hc, hb⟩
                        case measure => simp [intOf]; omega
                    | false =>
                      have hin2 : inT c = false := HIT.out.trans hin
                      have HE : Hid (frontR (L.drop a) = ((false, []), 3 + k, false)) := by
                        show _ = _
                        have hb2 : bodyR (L.drop (a + 3)) 0 = (k, false) := by rw [hst.out]; simp [bodyR, n34, hin2]
                        rw [HFR.out]
                        unfold restR
                        rw [hb2]
                        rfl
                      clear hst
                      go_wp2_with (go_at_call 28; refine (rinside_any _ (by omega) (by omega) _).mono ?_; rintro e w' ⟨rfl, rfl⟩)
                      refine bodyPost_ret (v := .tuple #[.agg #[.bool false, .string ⟨#[]⟩], .int .i64 (a + (3 + k) : Nat), .bool false]) (by simp [results, Tryz.results34, go_sem, c0, c1, a0, a1] <;> omega) rfl ?_
                      rw [HE.out]
                      refine ⟨rfl, ?_⟩
                      repeat (first | exact hb.out | refine Below.setCell ?_ (by simp) _)
                · have hkk : a + 3 + k = s.size := by omega
                  have HE : Hid (frontR (L.drop a) = ((false, []), 3 + k, false)) := by
                    show _ = _
                    have hb2 : bodyR (L.drop (a + 3)) 0 = (k, false) := by rw [hst.out, List.drop_eq_nil_of_le (by omega)]; rfl
                    rw [HFR.out]
                    unfold restR
                    rw [hb2]
                    rfl
                  clear hst HAT HX
                  go_wp2
                  refine bodyPost_ret (v := .tuple #[.agg #[.bool false, .string ⟨#[]⟩], .int .i64 (a + (3 + k) : Nat), .bool false]) (by simp [results, Tryz.results34, go_sem, c0, c1, a0, a1] <;> omega) rfl ?_
                  rw [HE.out]
                  refine ⟨rfl, ?_⟩
                  repeat (first | exact hb.out | refine Below.setCell ?_ (by simp) _)
            · have m2 : ¬ b2 = 34 := byte_ne (n := 34) (by omega) (by rw [HCI2.out]; omega)
              have q2 : (d2 != 34) = true := by simp; omega
              have HE : Hid (frontR (L.drop a) = ((false, []), 2, false)) := by
                show _ = _
                rw [hdr0, hdr1, hdr2]; simp [frontR, m2]
              clear HTT HX HAT
              go_enter Tryz.func34, Tryz.ntmps34
              go_wp2
              refine bodyPost_ret (v := .tuple #[.agg #[.bool false, .string ⟨#[]⟩], .int .i64 (a + 2 : Nat), .bool false]) (by simp [results, Tryz.results34, go_sem] <;> omega) rfl ?_
              rw [HE.out]
              refine ⟨rfl, ?_⟩
              repeat (first | exact Below.refl _ _ | refine Below.setCell ?_ (by simp) _ | refine Below.alloc ?_ (by simp) _)
          · have hz : a + 2 = s.size := by omega
            have hn2 : L.drop (a + 1 + 1) = [] := List.drop_eq_nil_of_le (by omega)
            have HE : Hid (frontR (L.drop a) = ((false, []), 2, false)) := by
              show _ = _
              rw [hdr0, hdr1, hn2]; simp [frontR]
            clear HTT HX HAT
            go_enter Tryz.func34, Tryz.ntmps34
            go_wp2
            refine bodyPost_ret (v := .tuple #[.agg #[.bool false, .string ⟨#[]⟩], .int .i64 (a + 2 : Nat), .bool false]) (by simp [results, Tryz.results34, go_sem] <;> omega) rfl ?_
            rw [HE.out]
            refine ⟨rfl, ?_⟩
            repeat (first | exact Below.refl _ _ | refine Below.setCell ?_ (by simp) _ | refine Below.alloc ?_ (by simp) _)
        · have m1 : ¬ b1 = 47 := byte_ne (n := 47) (by omega) (by rw [HCI1.out]; omega)
          have q1 : (d1 != 47) = true := by simp; omega
          have HE : Hid (frontR (L.drop a) = ((false, []), 1, false)) := by
            show _ = _
            rw [hdr0, hdr1]; simp [frontR, m1]
          clear HTT HX HAT
          go_enter Tryz.func34, Tryz.ntmps34
          go_wp2
          refine bodyPost_ret (v := .tuple #[.agg #[.bool false, .string ⟨#[]⟩], .int .i64 (a + 1 : Nat), .bool false]) (by simp [results, Tryz.results34, go_sem] <;> omega) rfl ?_
          rw [HE.out]
          refine ⟨rfl, ?_⟩
          repeat (first | exact Below.refl _ _ | refine Below.setCell ?_ (by simp) _ | refine Below.alloc ?_ (by simp) _)
      · have hz : a + 1 = s.size := by omega
        have hn1 : L.drop (a + 1) = [] := List.drop_eq_nil_of_le (by omega)
        have HE : Hid (frontR (L.drop a) = ((false, []), 1, false)) := by
          show _ = _
          rw [hdr0, hn1]; simp [frontR]
        clear HTT HX HAT
        go_enter Tryz.func34, Tryz.ntmps34
        go_wp2
        refine bodyPost_ret (v := .tuple #[.agg #[.bool false, .string ⟨#[]⟩], .int .i64 (a + 1 : Nat), .bool false]) (by simp [results, Tryz.results34, go_sem] <;> omega) rfl ?_
        rw [HE.out]
        refine ⟨rfl, ?_⟩
        repeat (first | exact Below.refl _ _ | refine Below.setCell ?_ (by simp) _ | refine Below.alloc ?_ (by simp) _)
    · have m0 : ¬ b0 = 87 := byte_ne (n := 87) (by omega) (by rw [HCI0.out]; omega)
      have p0 : (d0 == 87) = false := by simp; omega
      by_cases h34 : d0 = 34
      · subst h34
        have v0 : b0 = 34 := byte_eq (n := 34) (by omega) HCI0.out
        subst v0
        have HFR : Hid (frontR (L.drop a) = restR false 1 (L.drop (a + 1))) := by
          show _ = _
          rw [hdr0]
          simp [frontR]
        clear hdr0
        go_enter Tryz.func34, Tryz.ntmps34
        go_wp2
        go_loopw [1] (fun i wr => ∃ k : Nat, a + 1 + k ≤ s.size ∧ i = .int .i64 (a + 1 + k : Nat) ∧ Hid (bodyR (L.drop (a + 1)) 0 = bodyR (L.drop (a + 1 + k)) k) ∧ Hid (k ≤ 256) ∧ Hid (TB 30 wr w.heap.size (false, [])) ∧ Hid (TB 30 wr (w.heap.size + 1) (false, [])) ∧ Hid (Below w.heap.size w wr)) (fun i _ => s.size - (intOf i).toNat)
        case atStart => exact ⟨0, by omega, rfl, (rfl : _ = _), (by omega : 0 ≤ 256), (HTT.out false).1, (HTT.out false).2.1, (HTT.out false).2.2⟩
        case round =>
          obtain ⟨k, hk, rfl, hst, h256, ha, hc, hb⟩ := hrel
          clear HTT
          have c0 := hc.out.c0
          have c1 := hc.out.c1
          have f0 := hc.out.f 0
          have f1 := hc.out.f 1
          have a0 := ha.out.c0
          have a1 := ha.out.c1
          have g0 := ha.out.f 0
          have g1 := ha.out.f 1
          dsimp only at c0 c1 a0 a1
          have h256' := h256.out
          by_cases hlt : a + 1 + k < s.size
          · have hdr := drop_at L (a + 1 + k) (by rw [hlen]; exact hlt)
            have hby0 := HAT.out (a + 1 + k) hlt
            rw [hdr] at hst
            have hcb := (L.getD (a + 1 + k) 0).toNat_lt
            have hex : Hid (s.extract (a + 1) (a + 1 + k) = str ((L.drop (a + 1)).take k)) := (by rw [HX.out (a + 1) (a + 1 + k), show a + 1 + k - (a + 1) = k by omega] : _ = _)
            clear hdr HAT HX
            generalize L.getD (a + 1 + k) 0 = c at hst hby0 hcb
            generalize hci : (c.toNat : Int) = ci at hby0
            have HCI : Hid ((c.toNat : Int) = ci) := hci
            have hci0 : 0 ≤ ci := by omega
            have hci1 : ci ≤ 255 := by omega
            clear hci hcb
            by_cases h34 : ci = 34
            · subst h34
              have hcv : c = 34 := byte_eq (n := 34) (by omega) HCI.out
              have HE : Hid (frontR (L.drop a) = ((false, (L.drop (a + 1)).take k), 1 + k + 1, true)) := by
                show _ = _
                have hb2 : bodyR (L.drop (a + 1)) 0 = (k, true) := by rw [hst.out]; simp [bodyR, hcv]
                rw [HFR.out]
                unfold restR
                rw [hb2]
                rfl
              clear hst
              go_wp2
              rw [hex.out]
              refine bodyPost_ret (v := .tuple #[.agg #[.bool false, .string (str ((L.drop (a + 1)).take k))], .int .i64 (a + (1 + k + 1) : Nat), .bool true]) (by rw [show ((a + (1 + k + 1) : Nat) : Int) = ((a + 1 : Nat) : Int) + (k : Int) + 1 by omega]; simp [results, Tryz.results34, go_sem, c0, c1, a0, a1] <;> omega) rfl ?_
              rw [HE.out]
              refine ⟨rfl, ?_⟩
              repeat (first | exact hb.out | refine Below.setCell ?_ (by simp) _)
            · have n34 : ¬ c = 34 := byte_ne (n := 34) (by omega) (by rw [HCI.out]; omega)
              have q34 : (ci != 34) = true := by simp; omega
              have HIT : Hid (inT c = inI ci) := (by rw [inT_int, HCI.out] : inT c = inI ci)
              cases hin : inI ci with
              | true =>
                have hin2 : inT c = true := HIT.out.trans hin
                by_cases hm : k = 256
                · subst hm
                  have HE : Hid (frontR (L.drop a) = ((false, []), 1 + 256, false)) := by
                    show _ = _
                    have hb2 : bodyR (L.drop (a + 1)) 0 = (256, false) := by rw [hst.out]; simp [bodyR, n34, hin2]
                    rw [HFR.out]
                    unfold restR
                    rw [hb2]
                    rfl
                  have hq : (((a : Int) + 1 + 256 - ((a : Int) + 1)) == 256) = true := by rw [beq_iff_eq]; omega
                  clear hst
                  go_wp2_with (go_at_call 28; refine (rinside_any _ (by omega) (by omega) _).mono ?_; rintro e w' ⟨rfl, rfl⟩)
                  refine bodyPost_ret (v := .tuple #[.agg #[.bool false, .string ⟨#[]⟩], .int .i64 (a + (1 + 256) : Nat), .bool false]) (by simp [results, Tryz.results34, go_sem, c0, c1, a0, a1] <;> omega) rfl ?_
                  rw [HE.out]
                  refine ⟨rfl, ?_⟩
                  repeat (first | exact hb.out | refine Below.setCell ?_ (by simp) _)
                · have hstn : Hid (bodyR (L.drop (a + 1)) 0 = bodyR (L.drop (a + 1 + (k + 1))) (k + 1)) := by
                    show _ = _
                    rw [hst.out, ← Nat.add_assoc]
                    have hk2 : k < 256 := by omega
                    simp [bodyR, n34, hin2, hk2]
                  have hq : (((a : Int) + 1 + (k : Int) - ((a : Int) + 1)) == 256) = false := by rw [beq_eq_false_iff_ne]; omega
                  clear hst
                  go_wp2_with (go_at_call 28; refine (rinside_any _ (by omega) (by omega) _).mono ?_; rintro e w' ⟨rfl, rfl⟩)
                  go_roundw
                  case rel => exact ⟨k + 1, by omega, by go_num, hstn, (by omega : k + 1 ≤ 256), ha, hc, hb⟩
                  case measure => simp [intOf]; omega
              | false =>
                have hin2 : inT c = false := HIT.out.trans hin
                have HE : Hid (frontR (L.drop a) = ((false, []), 1 + k, false)) := by
                  show _ = _
                  have hb2 : bodyR (L.drop (a + 1)) 0 = (k, false) := by rw [hst.out]; simp [bodyR, n34, hin2]
                  rw [HFR.out]
                  unfold restR
                  rw [hb2]
                  rfl
                clear hst
                go_wp2_with (go_at_call 28; refine (rinside_any _ (by omega) (by omega) _).mono ?_; rintro e w' ⟨rfl, rfl⟩)
                refine bodyPost_ret (v := .tuple #[.agg #[.bool false, .string ⟨#[]⟩], .int .i64 (a + (1 + k) : Nat), .bool false]) (by simp [results, Tryz.results34, go_sem, c0, c1, a0, a1] <;> omega) rfl ?_
                rw [HE.out]
                refine ⟨rfl, ?_⟩
                repeat (first | exact hb.out | refine Below.setCell ?_ (by simp) _)
          · have hkk : a + 1 + k = s.size := by omega
            have HE : Hid (frontR (L.drop a) = ((false, []), 1 + k, false)) := by
              show _ = _
              have hb2 : bodyR (L.drop (a + 1)) 0 = (k, false) := by rw [hst.out, List.drop_eq_nil_of_le (by omega)]; rfl
              rw [HFR.out]
              unfold restR
              rw [hb2]
              rfl
            clear hst HAT HX
            go_wp2
            refine bodyPost_ret (v := .tuple #[.agg #[.bool false, .string ⟨#[]⟩], .int .i64 (a + (1 + k) : Nat), .bool false]) (by simp [results, Tryz.results34, go_sem, c0, c1, a0, a1] <;> omega) rfl ?_
            rw [HE.out]
            refine ⟨rfl, ?_⟩
            repeat (first | exact hb.out | refine Below.setCell ?_ (by simp) _)
      · have m1 : ¬ b0 = 34 := byte_ne (n := 34) (by omega) (by rw [HCI0.out]; omega)
        have q1 : (d0 != 34) = true := by simp; omega
        have HE : Hid (frontR (L.drop a) = ((false, []), 0, false)) := by
          show _ = _
          rw [hdr0]; simp [frontR, m0, m1]
        clear HTT HX HAT
        go_enter Tryz.func34, Tryz.ntmps34
        go_wp2
        refine bodyPost_ret (v := .tuple #[.agg #[.bool false, .string ⟨#[]⟩], .int .i64 (a : Nat), .bool false]) (by simp [results, Tryz.results34, go_sem] <;> omega) rfl ?_
        rw [HE.out]
        refine ⟨rfl, ?_⟩
        repeat (first | exact Below.refl _ _ | refine Below.setCell ?_ (by simp) _ | refine Below.alloc ?_ (by simp) _)
  · have hz : a = s.size := by omega
    have HE : Hid (frontR (L.drop a) = ((false, []), 0, false)) := by
      show _ = _
      exact front_nil L a (by omega)
    clear HTT HX HAT
    go_enter Tryz.func34, Tryz.ntmps34
    go_wp2
    refine bodyPost_ret (v := .tuple #[.agg #[.bool false, .string ⟨#[]⟩], .int .i64 (a : Nat), .bool false]) (by simp [results, Tryz.results34, go_sem] <;> omega) rfl ?_
    rw [HE.out]
    refine ⟨rfl, ?_⟩
    repeat (first | exact Below.refl _ _ | refine Below.setCell ?_ (by simp) _ | refine Below.alloc ?_ (by simp) _)

end Tt
end Go.Proofs.YtgdecgagdacipaaGreatDoor

/-
  tag: Parse, Print; the document's.
-/
set_option linter.unusedVariables false
set_option linter.unusedSimpArgs false
namespace Go.Proofs.YtgdecgagdacipaaGreatDoor
open Go.RowKit
namespace Tt
open Oc

theorem TB.new (T : Nat) (w : World) (b : Bool) (s : ByteArray) : TB T (w.alloc (.cells #[.bool b, .string s] T)) w.heap.size (b, s.data.toList) := by
  unfold TB
  rw [str_self]
  exact heap_alloc_new w _

theorem TB.read {T : Nat} {w : World} {g : Nat} {t : Tg1} (h : TB T w g t) (b : Bool) (S : ByteArray) (o : Obj) :
    (((w.setCell ⟨g, 0, none⟩ (.bool b)).setCell ⟨g, 1, none⟩ (.string S)).alloc o).cell? ⟨g, 0, none⟩ = some (.bool b) ∧ (((w.setCell ⟨g, 0, none⟩ (.bool b)).setCell ⟨g, 1, none⟩ (.string S)).alloc o).cell? ⟨g, 1, none⟩ = some (.string S) := by
  have h2 := ((h.set0 b).set1 S.data.toList)
  rw [str_self] at h2
  have h3 := h2.alloc o
  have e := h3.c1
  rw [str_self] at e
  exact ⟨h3.c0, e⟩

set_option maxRecDepth 100000 in
set_option maxHeartbeats 1000000 in
theorem Parse_any (s : ByteArray) (hs : s.size ≤ 4000000000) (w : World) :
    Calls Tryz.prog 27 #[.string s] w fun e w' => e = .returned (.tuple #[.agg #[.bool (parseT s.data.toList).1.1, .string (str (parseT s.data.toList).1.2)], .int .i64 ((parseT s.data.toList).2.1 : Nat), .int .i64 (parseT s.data.toList).2.2]) ∧ Below w.heap.size w w' := by
  obtain ⟨w1, hw1⟩ : ∃ w1, w1 = w.alloc (.cells #[.bool false, .string ⟨#[]⟩] 23) := ⟨_, rfl⟩
  have z1 : w1.heap.size = w.heap.size + 1 := by rw [hw1]; simp
  have HA : Hid (TB 23 w1 w.heap.size (false, [])) := (by rw [hw1]; exact heap_alloc_new w _ : TB _ _ _ _)
  have HB : Hid (Below w.heap.size w w1) := (by rw [hw1]; exact (Below.refl _ w).alloc (Nat.le_refl _) _ : Below _ _ _)
  have HF : Hid (Calls _ _ _ _ _) := front_any s hs w1
  obtain ⟨e1, e2⟩ := front_eq s.data.toList
  have hle := frontR_le s.data.toList
  rw [size_list] at hle
  unfold parseT
  rw [size_list]
  rw [← e1] at hle ⊢
  generalize hF : frontM s.data.toList = F at *
  generalize hG : frontR s.data.toList = G at *
  obtain ⟨⟨tw, tl⟩, n, ok⟩ := F
  obtain ⟨Gt, Gn⟩ := G
  dsimp only at *
  clear hF hG e1
  cases ok with
  | true =>
    have e3 := e2 rfl
    subst e3
    clear e2
    by_cases hn : n = s.size
    · rw [if_pos ⟨rfl, hn⟩]
      subst hn
      dsimp only
      generalize str tl = S at *
      go_enter Tryz.func27, Tryz.ntmps27
      go_wp2_with fail
      rw [← hw1]
      refine HF.out.mono ?_
      rintro e w3 ⟨rfl, hb3⟩
      have ha := HA.out.below hb3
      have a0 := ha.c0
      have a1 := ha.c1
      have g0 := ha.f 0
      have g1 := ha.f 1
      have hlt := ha.lt
      have hne1 : w3.heap.size ≠ w.heap.size := by omega
      have hne2 : w.heap.size ≠ w3.heap.size := by omega
      have HB3 : Hid (Below w.heap.size w w3) := HB.out.trans (hb3.mono (by omega))
      have hrd : Hid (∀ b S o, _ ∧ _) := fun b S o => ha.read b S o
      clear ha hb3
      go_wp2
      refine bodyPost_ret (v := .tuple #[.agg #[.bool tw, .string S], .int .i64 0, .int .i64 0]) (by simp [results, Tryz.results27, go_sem, hrd.out]) rfl ?_
      refine ⟨rfl, ?_⟩
      repeat (first | exact HB3.out | refine Below.setCell ?_ (by simp) _ | refine Below.alloc ?_ (by simp; have := HB3.out.size; omega) _)
    · rw [if_neg (fun h => hn h.2)]
      dsimp only
      have hlt2 : n < s.size := by omega
      generalize str tl = S at *
      go_enter Tryz.func27, Tryz.ntmps27
      go_wp2_with fail
      rw [← hw1]
      refine HF.out.mono ?_
      rintro e w3 ⟨rfl, hb3⟩
      have ha := HA.out.below hb3
      have a0 := ha.c0
      have a1 := ha.c1
      have g0 := ha.f 0
      have g1 := ha.f 1
      have hlt := ha.lt
      have hne1 : w3.heap.size ≠ w.heap.size := by omega
      have hne2 : w.heap.size ≠ w3.heap.size := by omega
      have HB3 : Hid (Below w.heap.size w w3) := HB.out.trans (hb3.mono (by omega))
      have hrd : Hid (∀ b S o, _ ∧ _) := fun b S o => ha.read b S o
      clear ha hb3
      go_wp2
      refine bodyPost_ret (v := .tuple #[.agg #[.bool false, .string ⟨#[]⟩], .int .i64 n, .int .i64 80]) (by simp [results, Tryz.results27, go_sem, hrd.out]) rfl ?_
      refine ⟨rfl, ?_⟩
      repeat (first | exact HB3.out | refine Below.setCell ?_ (by simp) _ | refine Below.alloc ?_ (by simp; have := HB3.out.size; omega) _)
  | false =>
    rw [if_neg (fun h => by simp at h)]
    dsimp only
    clear e2
    generalize str tl = S at *
    go_enter Tryz.func27, Tryz.ntmps27
    go_wp2_with fail
    rw [← hw1]
    refine HF.out.mono ?_
    rintro e w3 ⟨rfl, hb3⟩
    have ha := HA.out.below hb3
    have a0 := ha.c0
    have a1 := ha.c1
    have g0 := ha.f 0
    have g1 := ha.f 1
    have hlt := ha.lt
    have hne1 : w3.heap.size ≠ w.heap.size := by omega
    have hne2 : w.heap.size ≠ w3.heap.size := by omega
    have HB3 : Hid (Below w.heap.size w w3) := HB.out.trans (hb3.mono (by omega))
    have hrd : Hid (∀ b S o, _ ∧ _) := fun b S o => ha.read b S o
    clear ha hb3
    go_wp2
    refine bodyPost_ret (v := .tuple #[.agg #[.bool false, .string ⟨#[]⟩], .int .i64 n, .int .i64 80]) (by simp [results, Tryz.results27, go_sem, hrd.out]) rfl ?_
    refine ⟨rfl, ?_⟩
    repeat (first | exact HB3.out | refine Below.setCell ?_ (by simp) _ | refine Below.alloc ?_ (by simp; have := HB3.out.size; omega) _)

end Tt
end Go.Proofs.YtgdecgagdacipaaGreatDoor

/-
  tag: the document's Parse; Print, and the document's.
-/
set_option linter.unusedVariables false
set_option linter.unusedSimpArgs false
namespace Go.Proofs.YtgdecgagdacipaaGreatDoor
open Go.RowKit
namespace Tt
open Oc

/-- May it be a tag's text? -/
def okT (l : List UInt8) : Bool := l.all inT && decide (l.length ≤ 256)
def printT (t : Tg1) : List UInt8 × Int := if okT t.2 = true then ((if t.1 = true then [87, 47] else []) ++ 34 :: (t.2 ++ [34]), 0) else ([], 80)
theorem body_print : ∀ (l : List UInt8) (k : Nat), bodyR (l ++ [34]) k = (k + l.length, true) ↔ l.all inT = true ∧ (l = [] ∨ k + l.length ≤ 256)
  | [], k => by simp [bodyR]
  | c :: r, k => by
    have ih := body_print r (k + 1)
    rw [List.cons_append]
    unfold bodyR
    by_cases h1 : c = 34
    · subst h1
      rw [if_pos rfl]
      have : inT 34 = false := by decide
      simp [this]
    · rw [if_neg h1]
      by_cases h2 : inT c = true ∧ k < 256
      · rw [if_pos h2, show k + (c :: r).length = k + 1 + r.length by simp; omega, ih]
        simp only [List.all_cons, h2.1, Bool.true_and, List.length_cons, reduceCtorEq, false_or]
        constructor
        · rintro ⟨a, b⟩
          refine ⟨a, ?_⟩
          rcases b with rfl | b
          · simp; omega
          · omega
        · rintro ⟨a, b⟩
          exact ⟨a, .inr (by omega)⟩
      · rw [if_neg h2]
        simp only [Prod.mk.injEq, reduceCtorEq, and_false, List.all_cons, List.length_cons, false_or, false_iff, not_and, Bool.and_eq_true, Nat.not_le]
        rintro ⟨a, b⟩
        have : ¬ k < 256 := fun h => h2 ⟨a, h⟩
        omega
theorem rest_print (w : Bool) (off : Nat) (l : List UInt8) : ((restR w off (l ++ [34])).2.2 = true ∧ (restR w off (l ++ [34])).2.1 = off + l.length + 1) ↔ okT l = true := by
  have h := body_print l 0
  unfold okT
  rw [Nat.zero_add] at h
  have h2 : bodyR (l ++ [34]) 0 = (l.length, true) ↔ (l.all inT && decide (l.length ≤ 256)) = true := by
    rw [h, Bool.and_eq_true, decide_eq_true_iff]
    constructor
    · rintro ⟨a, b⟩
      refine ⟨a, ?_⟩
      rcases b with rfl | b
      · simp
      · omega
    · rintro ⟨a, b⟩
      exact ⟨a, .inr (by omega)⟩
  rw [← h2]
  unfold restR
  by_cases hb : (bodyR (l ++ [34]) 0).2 = true
  · rw [if_pos hb]
    constructor
    · rintro ⟨_, a⟩
      refine Prod.ext ?_ hb
      show _ = l.length
      simp at a
      omega
    · intro e
      rw [e]
      exact ⟨rfl, rfl⟩
  · rw [if_neg hb]
    constructor
    · rintro ⟨a, _⟩
      simp at a
    · intro e
      rw [e] at hb
      simp at hb
theorem rest_text (w : Bool) (off : Nat) (l : List UInt8) (h : okT l = true) : restR w off (l ++ [34]) = ((w, l), off + l.length + 1, true) := by
  have h' := (rest_print w off l).2 h
  unfold restR at h' ⊢
  by_cases hb : (bodyR (l ++ [34]) 0).2 = true
  · rw [if_pos hb] at h' ⊢
    have e : (bodyR (l ++ [34]) 0).1 = l.length := by have := h'.2; simp at this; omega
    rw [e]
    simp
  · rw [if_neg hb] at h'
    simp at h'
theorem parse_quoted (l : List UInt8) : (parseT (34 :: (l ++ [34]))).2.2 = if okT l = true then 0 else 80 := by
  unfold parseT
  have e : frontR (34 :: (l ++ [34])) = restR false 1 (l ++ [34]) := by simp [frontR]
  rw [e]
  have h := rest_print false 1 l
  rw [show (34 :: (l ++ [34])).length = 1 + l.length + 1 by simp; omega]
  by_cases ho : okT l = true
  · rw [if_pos (h.2 ho), if_pos ho]
  · rw [if_neg (fun x => ho (h.1 x)), if_neg ho]
theorem parse_printed (t : Tg1) (h : okT t.2 = true) : parseT (printT t).1 = (t, 0, 0) := by
  obtain ⟨w, l⟩ := t
  unfold printT
  rw [if_pos h]
  dsimp only at h ⊢
  cases w with
  | true =>
    rw [show (if true = true then [87, 47] else ([] : List UInt8)) = [87, 47] from rfl]
    unfold parseT
    have e : frontR ([87, 47] ++ 34 :: (l ++ [34])) = restR true 3 (l ++ [34]) := by simp [frontR]
    rw [e, rest_text true 3 l h]
    rw [if_pos ⟨rfl, by simp; omega⟩]
  | false =>
    rw [show (if false = true then [87, 47] else ([] : List UInt8)) = [] from rfl]
    unfold parseT
    have e : frontR ([] ++ 34 :: (l ++ [34])) = restR false 1 (l ++ [34]) := by simp [frontR]
    rw [e, rest_text false 1 l h]
    rw [if_pos ⟨rfl, by simp; omega⟩]

set_option maxRecDepth 100000 in
set_option maxHeartbeats 1000000 in
theorem rParse_any (s : ByteArray) (hs : s.size ≤ 4000000000) (w : World) :
    Calls Tryz.prog 48 #[.string s] w fun e w' => e = .returned (.tuple #[.agg #[.bool (parseT s.data.toList).1.1, .string (str (parseT s.data.toList).1.2)], .int .i64 ((parseT s.data.toList).2.1 : Nat), .int .i64 (parseT s.data.toList).2.2]) ∧ Below w.heap.size w w' := by
  obtain ⟨w1, hw1⟩ : ∃ w1, w1 = w.alloc (.cells #[.bool false, .string ⟨#[]⟩] 30) := ⟨_, rfl⟩
  have z1 : w1.heap.size = w.heap.size + 1 := by rw [hw1]; simp
  have HA : Hid (TB 30 w1 w.heap.size (false, [])) := (by rw [hw1]; exact heap_alloc_new w _ : TB _ _ _ _)
  have HB : Hid (Below w.heap.size w w1) := (by rw [hw1]; exact (Below.refl _ w).alloc (Nat.le_refl _) _ : Below _ _ _)
  have HF : Hid (Calls Tryz.prog 34 #[.string s, .int .i64 0] w1 fun e w' => e = .returned (.tuple #[.agg #[.bool (frontR s.data.toList).1.1, .string (str (frontR s.data.toList).1.2)], .int .i64 ((frontR s.data.toList).2.1 : Nat), .bool (frontR s.data.toList).2.2]) ∧ Below w1.heap.size w1 w') := by
    have h := rread_any s hs 0 (by omega) w1
    rw [List.drop_zero, Nat.zero_add] at h
    exact h
  have hle := frontR_le s.data.toList
  rw [size_list] at hle
  unfold parseT
  rw [size_list]
  generalize frontR s.data.toList = F at *
  obtain ⟨⟨tw, tl⟩, n, ok⟩ := F
  dsimp only at *
  cases ok with
  | true =>
    by_cases hn : n = s.size
    · rw [if_pos ⟨rfl, hn⟩]
      subst hn
      dsimp only
      generalize str tl = S at *
      go_enter Tryz.func48, Tryz.ntmps48
      go_wp2_with fail
      rw [← hw1]
      refine HF.out.mono ?_
      rintro e w3 ⟨rfl, hb3⟩
      have ha := HA.out.below hb3
      have a0 := ha.c0
      have a1 := ha.c1
      have g0 := ha.f 0
      have g1 := ha.f 1
      have hlt := ha.lt
      have hne1 : w3.heap.size ≠ w.heap.size := by omega
      have hne2 : w.heap.size ≠ w3.heap.size := by omega
      have HB3 : Hid (Below w.heap.size w w3) := HB.out.trans (hb3.mono (by omega))
      have hrd : Hid (∀ b S o, _ ∧ _) := fun b S o => ha.read b S o
      clear ha hb3
      go_wp2
      refine bodyPost_ret (v := .tuple #[.agg #[.bool tw, .string S], .int .i64 0, .int .i64 0]) (by simp [results, Tryz.results48, go_sem, hrd.out]) rfl ?_
      refine ⟨rfl, ?_⟩
      repeat (first | exact HB3.out | refine Below.setCell ?_ (by simp) _ | refine Below.alloc ?_ (by simp; have := HB3.out.size; omega) _)
    · rw [if_neg (fun h => hn h.2)]
      dsimp only
      have hlt2 : n < s.size := by omega
      generalize str tl = S at *
      go_enter Tryz.func48, Tryz.ntmps48
      go_wp2_with fail
      rw [← hw1]
      refine HF.out.mono ?_
      rintro e w3 ⟨rfl, hb3⟩
      have ha := HA.out.below hb3
      have a0 := ha.c0
      have a1 := ha.c1
      have g0 := ha.f 0
      have g1 := ha.f 1
      have hlt := ha.lt
      have hne1 : w3.heap.size ≠ w.heap.size := by omega
      have hne2 : w.heap.size ≠ w3.heap.size := by omega
      have HB3 : Hid (Below w.heap.size w w3) := HB.out.trans (hb3.mono (by omega))
      have hrd : Hid (∀ b S o, _ ∧ _) := fun b S o => ha.read b S o
      clear ha hb3
      go_wp2
      refine bodyPost_ret (v := .tuple #[.agg #[.bool false, .string ⟨#[]⟩], .int .i64 n, .int .i64 80]) (by simp [results, Tryz.results48, go_sem, hrd.out]) rfl ?_
      refine ⟨rfl, ?_⟩
      repeat (first | exact HB3.out | refine Below.setCell ?_ (by simp) _ | refine Below.alloc ?_ (by simp; have := HB3.out.size; omega) _)
  | false =>
    rw [if_neg (fun h => by simp at h)]
    dsimp only
    generalize str tl = S at *
    go_enter Tryz.func48, Tryz.ntmps48
    go_wp2_with fail
    rw [← hw1]
    refine HF.out.mono ?_
    rintro e w3 ⟨rfl, hb3⟩
    have ha := HA.out.below hb3
    have a0 := ha.c0
    have a1 := ha.c1
    have g0 := ha.f 0
    have g1 := ha.f 1
    have hlt := ha.lt
    have hne1 : w3.heap.size ≠ w.heap.size := by omega
    have hne2 : w.heap.size ≠ w3.heap.size := by omega
    have HB3 : Hid (Below w.heap.size w w3) := HB.out.trans (hb3.mono (by omega))
    have hrd : Hid (∀ b S o, _ ∧ _) := fun b S o => ha.read b S o
    clear ha hb3
    go_wp2
    refine bodyPost_ret (v := .tuple #[.agg #[.bool false, .string ⟨#[]⟩], .int .i64 n, .int .i64 80]) (by simp [results, Tryz.results48, go_sem, hrd.out]) rfl ?_
    refine ⟨rfl, ?_⟩
    repeat (first | exact HB3.out | refine Below.setCell ?_ (by simp) _ | refine Below.alloc ?_ (by simp; have := HB3.out.size; omega) _)

theorem quoted_list (x : ByteArray) : (⟨#[34]⟩ ++ x ++ ⟨#[34]⟩ : ByteArray).data.toList = 34 :: (x.data.toList ++ [34]) := by
  simp [ByteArray.data_append]
theorem str_of {a : ByteArray} {l : List UInt8} (h : a.data.toList = l) : str l = a := by rw [← h, str_self]

set_option maxRecDepth 100000 in
set_option maxHeartbeats 1000000 in
theorem Print_any (tw : Bool) (x : ByteArray) (hs : x.size ≤ 3000000000) (w : World) :
    Calls Tryz.prog 9 #[.agg #[.bool tw, .string x]] w fun e w' => e = .returned (.tuple #[.string (str (printT (tw, x.data.toList)).1), .int .i64 (printT (tw, x.data.toList)).2]) ∧ Below w.heap.size w w' := by
  obtain ⟨w1, hw1⟩ : ∃ w1, w1 = w.alloc (.cells #[.bool tw, .string x] 23) := ⟨_, rfl⟩
  have z1 : w1.heap.size = w.heap.size + 1 := by rw [hw1]; simp
  have HA : Hid (TB 23 w1 w.heap.size (tw, x.data.toList)) := (by rw [hw1]; exact TB.new _ w tw x : TB _ _ _ _)
  have HB : Hid (Below w.heap.size w w1) := (by rw [hw1]; exact (Below.refl _ w).alloc (Nat.le_refl _) _ : Below _ _ _)
  have HP : Hid (∃ (a : Value) (n : Nat), Calls Tryz.prog 27 #[.string (⟨#[34]⟩ ++ x ++ ⟨#[34]⟩)] w1 fun e w' => e = .returned (.tuple #[.agg #[.bool (parseT (34 :: (x.data.toList ++ [34]))).1.1, .string (str (parseT (34 :: (x.data.toList ++ [34]))).1.2)], .int .i64 ((parseT (34 :: (x.data.toList ++ [34]))).2.1 : Nat), .int .i64 (if okT x.data.toList = true then 0 else 80)]) ∧ Below w1.heap.size w1 w') := ⟨.bool true, 0, by
    have h := Parse_any (⟨#[34]⟩ ++ x ++ ⟨#[34]⟩) (by rw [ByteArray.size_append, ByteArray.size_append]; have h1 : (⟨#[34]⟩ : ByteArray).size = 1 := rfl; omega) w1
    rw [quoted_list, parse_quoted] at h
    exact h⟩
  obtain ⟨_, _, HP⟩ := HP.out
  generalize str (parseT (34 :: (x.data.toList ++ [34]))).1.2 = q1 at HP
  generalize (parseT (34 :: (x.data.toList ++ [34]))).1.1 = q2 at HP
  generalize (parseT (34 :: (x.data.toList ++ [34]))).2.1 = q3 at HP
  unfold printT
  have HE : Hid (str ([87, 47] ++ 34 :: (x.data.toList ++ [34])) = ⟨#[87, 47]⟩ ++ (⟨#[34]⟩ ++ x ++ ⟨#[34]⟩)) := str_of (by rw [ByteArray.data_append, Array.toList_append, quoted_list])
  have HE2 : Hid (str ([] ++ 34 :: (x.data.toList ++ [34])) = (⟨#[34]⟩ ++ x ++ ⟨#[34]⟩)) := str_of (by rw [quoted_list]; rfl)
  by_cases ho : okT x.data.toList = true
  · rw [if_pos ho]
    rw [if_pos ho] at HP
    have HPP : Hid (Calls _ _ _ _ _) := HP
    clear HP
    cases tw with
    | true =>
      rw [if_pos rfl]
      dsimp only
      rw [HE.out]
      go_enter Tryz.func9, Tryz.ntmps9
      go_wp2_with fail
      rw [← hw1]
      refine HPP.out.mono ?_
      rintro e w3 ⟨rfl, hb3⟩
      have ha := HA.out.below hb3
      have a0 := ha.c0
      have hlt := ha.lt
      have HB3 : Hid (Below w.heap.size w w3) := HB.out.trans (hb3.mono (by omega))
      clear ha hb3
      go_wp2
      go_ret2
      exact ⟨rfl, HB3.out.alloc HB3.out.size _⟩
    | false =>
      rw [if_neg (by simp)]
      dsimp only
      rw [HE2.out]
      go_enter Tryz.func9, Tryz.ntmps9
      go_wp2_with fail
      rw [← hw1]
      refine HPP.out.mono ?_
      rintro e w3 ⟨rfl, hb3⟩
      have ha := HA.out.below hb3
      have a0 := ha.c0
      have hlt := ha.lt
      have HB3 : Hid (Below w.heap.size w w3) := HB.out.trans (hb3.mono (by omega))
      clear ha hb3
      go_wp2
      go_ret2
      exact ⟨rfl, HB3.out.alloc HB3.out.size _⟩
  · rw [if_neg ho]
    rw [if_neg ho] at HP
    have HPP : Hid (Calls _ _ _ _ _) := HP
    clear HP
    go_enter Tryz.func9, Tryz.ntmps9
    go_wp2_with fail
    rw [← hw1]
    refine HPP.out.mono ?_
    rintro e w3 ⟨rfl, hb3⟩
    have HB3 : Hid (Below w.heap.size w w3) := HB.out.trans (hb3.mono (by omega))
    clear hb3
    go_wp2
    go_ret2
    exact ⟨rfl, HB3.out.alloc HB3.out.size _⟩

set_option maxRecDepth 100000 in
set_option maxHeartbeats 1000000 in
theorem rPrint_any (tw : Bool) (x : ByteArray) (hs : x.size ≤ 3000000000) (w : World) :
    Calls Tryz.prog 10 #[.agg #[.bool tw, .string x]] w fun e w' => e = .returned (.tuple #[.string (str (printT (tw, x.data.toList)).1), .int .i64 (printT (tw, x.data.toList)).2]) ∧ Below w.heap.size w w' := by
  obtain ⟨w1, hw1⟩ : ∃ w1, w1 = w.alloc (.cells #[.bool tw, .string x] 30) := ⟨_, rfl⟩
  have HA : Hid (TB 30 w1 w.heap.size (tw, x.data.toList)) := (by rw [hw1]; exact TB.new _ w tw x : TB _ _ _ _)
  have HB : Hid (Below w.heap.size w w1) := (by rw [hw1]; exact (Below.refl _ w).alloc (Nat.le_refl _) _ : Below _ _ _)
  have hlen : x.data.toList.length = x.size := size_list x
  have HE : Hid (str ([87, 47] ++ 34 :: (x.data.toList ++ [34])) = ⟨#[87, 47, 34]⟩ ++ x ++ ⟨#[34]⟩) := str_of (by simp [ByteArray.data_append])
  have HE2 : Hid (str ([] ++ 34 :: (x.data.toList ++ [34])) = (⟨#[34]⟩ ++ x ++ ⟨#[34]⟩)) := str_of (by rw [quoted_list]; rfl)
  have a0 := HA.out.c0
  have a1 := HA.out.c1
  dsimp only at a0 a1
  rw [str_self] at a1
  go_enter Tryz.func10, Tryz.ntmps10
  go_wp2
  rw [← hw1]
  go_loop [4] (fun i => ∃ k : Nat, k ≤ x.size ∧ i = .int .i64 k ∧ Hid (∀ j, j < k → inT (x.data.toList.getD j 0) = true)) (fun i => x.size - (intOf i).toNat)
  case atStart => exact ⟨0, Nat.zero_le _, rfl, (fun j hj => by omega : ∀ j, j < 0 → _)⟩
  case round =>
    obtain ⟨k, hk, rfl, hall⟩ := hrel
    clear hw1
    by_cases hlt : k < x.size
    · have hby : ((x[k].toNat : Nat) : Int) = ((x.data.toList.getD k 0).toNat : Int) := byt_at x k hlt
      have hcb := (x.data.toList.getD k 0).toNat_lt
      have HIT : Hid (inT (x.data.toList.getD k 0) = inI ((x.data.toList.getD k 0).toNat : Int)) := inT_int _
      generalize hci : ((x.data.toList.getD k 0).toNat : Int) = ci at hby HIT
      have h0 : 0 ≤ ci := by omega
      have h1 : ci ≤ 255 := by omega
      clear hci hcb
      cases hin : inI ci with
      | true =>
        have HN : Hid (∀ j, j < k + 1 → inT (x.data.toList.getD j 0) = true) := by
          intro j hj
          by_cases hjk : j = k
          · subst hjk; exact HIT.out.trans hin
          · exact hall.out j (by omega)
        clear HIT
        go_wp2_with (go_at_call 28; refine (rinside_any _ (by omega) (by omega) _).mono ?_; rintro e w' ⟨rfl, rfl⟩)
        go_round
        case rel => exact ⟨k + 1, by omega, by go_num, HN⟩
        case measure => simp [intOf]; omega
      | false =>
        have HF : Hid (printT (tw, x.data.toList) = ([], 80)) := by
          show _ = _
          unfold printT
          rw [if_neg]
          show ¬ okT x.data.toList = true
          unfold okT
          rw [all_not inT 0 _ k (by rw [size_list]; exact hlt) (HIT.out.trans hin)]
          simp
        clear HIT
        go_wp2_with (go_at_call 28; refine (rinside_any _ (by omega) (by omega) _).mono ?_; rintro e w' ⟨rfl, rfl⟩)
        go_ret2
        rw [HF.out]
        exact ⟨rfl, HB.out⟩
    · have hall2 : x.data.toList.all inT = true := all_of inT 0 _ (fun j hj => hall.out j (by rw [size_list] at hj; omega))
      have HO : Hid (okT x.data.toList = decide (x.size ≤ 256)) := by
        show _ = _
        unfold okT
        rw [hall2, hlen]
        simp
      clear hall2 hall
      by_cases h256 : x.size ≤ 256
      · have ho : okT x.data.toList = true := by rw [HO.out]; simpa using h256
        cases tw with
        | true =>
          have HF : Hid (printT (true, x.data.toList) = ([87, 47] ++ 34 :: (x.data.toList ++ [34]), 0)) := by
            show _ = _
            unfold printT
            rw [if_pos ho]
            rfl
          clear ho HO
          go_wp2
          go_ret2
          rw [HF.out]
          dsimp only
          rw [HE.out]
          exact ⟨rfl, HB.out⟩
        | false =>
          have HF : Hid (printT (false, x.data.toList) = ([] ++ 34 :: (x.data.toList ++ [34]), 0)) := by
            show _ = _
            unfold printT
            rw [if_pos ho]
            rfl
          clear ho HO
          go_wp2
          go_ret2
          rw [HF.out]
          dsimp only
          rw [HE2.out]
          exact ⟨rfl, HB.out⟩
      · have HF : Hid (printT (tw, x.data.toList) = ([], 80)) := by
          show _ = _
          unfold printT
          rw [if_neg]
          show ¬ okT x.data.toList = true
          rw [HO.out]
          simpa using h256
        clear HO
        go_wp2
        go_ret2
        rw [HF.out]
        exact ⟨rfl, HB.out⟩

end Tt
end Go.Proofs.YtgdecgagdacipaaGreatDoor

/-
  Plain mathematics for package base: base 64 and hexadecimal digits over lists of bytes. Nothing of the program.
-/
set_option linter.unusedVariables false
set_option linter.unusedSimpArgs false
namespace Go.Proofs.YtgdecgagdacipaaGreatDoor
namespace Bs

def sgs : List UInt8 := [65, 66, 67, 68, 69, 70, 71, 72, 73, 74, 75, 76, 77, 78, 79, 80, 81, 82, 83, 84, 85, 86, 87, 88, 89, 90, 97, 98, 99, 100, 101, 102, 103, 104, 105, 106, 107, 108, 109, 110, 111, 112, 113, 114, 115, 116, 117, 118, 119, 120, 121, 122, 48, 49, 50, 51, 52, 53, 54, 55, 56, 57, 43, 47]
def sgn (n : Nat) : UInt8 := sgs.getD n 0
/-- A sign's number; -1 of a byte that is none. -/
def num (c : UInt8) : Int :=
  if 65 ≤ c.toNat ∧ c.toNat ≤ 90 then (c.toNat : Int) - 65 else if 97 ≤ c.toNat ∧ c.toNat ≤ 122 then (c.toNat : Int) - 71
  else if 48 ≤ c.toNat ∧ c.toNat ≤ 57 then (c.toNat : Int) + 4 else if c.toNat = 43 then 62 else if c.toNat = 47 then 63 else -1

theorem all_bytes {p : UInt8 → Prop} (h : ∀ n : Fin 256, p (UInt8.ofNat n.val)) (c : UInt8) : p c := by
  have := h ⟨c.toNat, c.toNat_lt⟩
  simpa using this
theorem num_sgn (n : Nat) (h : n < 64) : num (sgn n) = n := by
  have : ∀ k : Fin 64, num (sgn k.val) = (k.val : Int) := by decide +kernel
  exact this ⟨n, h⟩
theorem sgn_ne (n : Nat) (h : n < 64) : sgn n ≠ 61 := by
  have : ∀ k : Fin 64, sgn k.val ≠ 61 := by decide +kernel
  exact this ⟨n, h⟩
theorem sgn_num (c : UInt8) : 0 ≤ num c → sgn (num c).toNat = c := by
  revert c
  apply all_bytes
  decide +kernel
theorem num_bd (c : UInt8) : -1 ≤ num c ∧ num c ≤ 63 := by
  revert c
  apply all_bytes
  decide +kernel
theorem num_eq : num 61 = -1 := by decide
theorem num_ne {c : UInt8} (h : 0 ≤ num c) : c ≠ 61 := by
  intro e
  subst e
  rw [num_eq] at h
  omega
/-- The number as a natural one. -/
def nu (c : UInt8) : Nat := (num c).toNat
theorem nu_int {c : UInt8} (h : 0 ≤ num c) : (nu c : Int) = num c := by unfold nu; omega
theorem nu_lt (c : UInt8) : nu c < 64 := by have := num_bd c; unfold nu; omega
theorem sgn_nu {c : UInt8} (h : 0 ≤ num c) : sgn (nu c) = c := sgn_num c h
theorem nu_sgn (n : Nat) (h : n < 64) : nu (sgn n) = n := by unfold nu; rw [num_sgn n h]; omega
theorem num_sgn_nn (n : Nat) (h : n < 64) : ¬ num (sgn n) < 0 := by rw [num_sgn n h]; omega

theorem u8_eq {a b : UInt8} (h : a.toNat = b.toNat) : a = b := UInt8.toNat_inj.1 h
theorem ofNat_lt {n : Nat} (h : n < 256) : (UInt8.ofNat n).toNat = n := by rw [UInt8.toNat_ofNat']; omega

def enc : List UInt8 → List UInt8
  | [] => []
  | [a] => [sgn (a.toNat / 4), sgn (a.toNat % 4 * 16), 61, 61]
  | [a, b] => [sgn (a.toNat / 4), sgn (a.toNat % 4 * 16 + b.toNat / 16), sgn (b.toNat % 16 * 4), 61]
  | a :: b :: c :: r => sgn (a.toNat / 4) :: sgn (a.toNat % 4 * 16 + b.toNat / 16) :: sgn (b.toNat % 16 * 4 + c.toNat / 64) :: sgn (c.toNat % 64) :: enc r

def y0 (a b : UInt8) : UInt8 := UInt8.ofNat (nu a * 4 + nu b / 16)
def y1 (b c : UInt8) : UInt8 := UInt8.ofNat (nu b % 16 * 16 + nu c / 4)
def y2 (c d : UInt8) : UInt8 := UInt8.ofNat (nu c % 4 * 64 + nu d)

/-- The bytes of a text of base 64, or the place with which it goes wrong. -/
def dec : List UInt8 → Except Nat (List UInt8)
  | [] => .ok []
  | [a] => .error (if num a < 0 then 0 else 1)
  | [a, b] => .error (if num a < 0 then 0 else if num b < 0 then 1 else 2)
  | [a, b, c] => .error (if num a < 0 then 0 else if num b < 0 then 1 else if c = 61 then (if num b % 16 = 0 then 3 else 2) else if num c < 0 then 2 else 3)
  | a :: b :: c :: d :: r =>
    if num a < 0 then .error 0 else if num b < 0 then .error 1
    else if c = 61 then (if num b % 16 = 0 then (if d = 61 then (if r = [] then .ok [y0 a b] else .error 4) else .error 3) else .error 2)
    else if num c < 0 then .error 2
    else if d = 61 then (if num c % 4 = 0 then (if r = [] then .ok [y0 a b, y1 b c] else .error 4) else .error 3)
    else if num d < 0 then .error 3
    else match dec r with
      | .ok x => .ok (y0 a b :: y1 b c :: y2 c d :: x)
      | .error k => .error (k + 4)

theorem dec_enc : ∀ l : List UInt8, dec (enc l) = .ok l
  | [] => rfl
  | [a] => by
    have ha := a.toNat_lt
    have h1 := nu_sgn (a.toNat / 4) (by omega)
    have h2 := nu_sgn (a.toNat % 4 * 16) (by omega)
    have e : y0 (sgn (a.toNat / 4)) (sgn (a.toNat % 4 * 16)) = a := u8_eq (by unfold y0; rw [h1, h2, ofNat_lt (by omega)]; omega)
    unfold enc dec
    rw [if_neg (num_sgn_nn _ (by omega)), if_neg (num_sgn_nn _ (by omega)), if_pos rfl, if_pos (by rw [num_sgn _ (by omega)]; omega), if_pos rfl, if_pos rfl, e]
  | [a, b] => by
    have ha := a.toNat_lt
    have hb := b.toNat_lt
    have h1 := nu_sgn (a.toNat / 4) (by omega)
    have h2 := nu_sgn (a.toNat % 4 * 16 + b.toNat / 16) (by omega)
    have h3 := nu_sgn (b.toNat % 16 * 4) (by omega)
    have e : y0 (sgn (a.toNat / 4)) (sgn (a.toNat % 4 * 16 + b.toNat / 16)) = a := u8_eq (by unfold y0; rw [h1, h2, ofNat_lt (by omega)]; omega)
    have e' : y1 (sgn (a.toNat % 4 * 16 + b.toNat / 16)) (sgn (b.toNat % 16 * 4)) = b := u8_eq (by unfold y1; rw [h2, h3, ofNat_lt (by omega)]; omega)
    unfold enc dec
    rw [if_neg (num_sgn_nn _ (by omega)), if_neg (num_sgn_nn _ (by omega)), if_neg (sgn_ne _ (by omega)), if_neg (num_sgn_nn _ (by omega)), if_pos rfl, if_pos (by rw [num_sgn _ (by omega)]; omega), if_pos rfl, e, e']
  | a :: b :: c :: r => by
    have ha := a.toNat_lt
    have hb := b.toNat_lt
    have hc := c.toNat_lt
    have h1 := nu_sgn (a.toNat / 4) (by omega)
    have h2 := nu_sgn (a.toNat % 4 * 16 + b.toNat / 16) (by omega)
    have h3 := nu_sgn (b.toNat % 16 * 4 + c.toNat / 64) (by omega)
    have h4 := nu_sgn (c.toNat % 64) (by omega)
    have e : y0 (sgn (a.toNat / 4)) (sgn (a.toNat % 4 * 16 + b.toNat / 16)) = a := u8_eq (by unfold y0; rw [h1, h2, ofNat_lt (by omega)]; omega)
    have e' : y1 (sgn (a.toNat % 4 * 16 + b.toNat / 16)) (sgn (b.toNat % 16 * 4 + c.toNat / 64)) = b := u8_eq (by unfold y1; rw [h2, h3, ofNat_lt (by omega)]; omega)
    have e'' : y2 (sgn (b.toNat % 16 * 4 + c.toNat / 64)) (sgn (c.toNat % 64)) = c := u8_eq (by unfold y2; rw [h3, h4, ofNat_lt (by omega)]; omega)
    unfold enc dec
    rw [if_neg (num_sgn_nn _ (by omega)), if_neg (num_sgn_nn _ (by omega)), if_neg (sgn_ne _ (by omega)), if_neg (num_sgn_nn _ (by omega)), if_neg (sgn_ne _ (by omega)), if_neg (num_sgn_nn _ (by omega)), dec_enc r, e, e', e'']

theorem enc_dec : ∀ (l x : List UInt8), dec l = .ok x → enc x = l
  | [], x, h => by unfold dec at h; cases h; rfl
  | [a], x, h => by unfold dec at h; cases h
  | [a, b], x, h => by unfold dec at h; cases h
  | [a, b, c], x, h => by unfold dec at h; cases h
  | a :: b :: c :: d :: r, x, h => by
    unfold dec at h
    have la := nu_lt a
    have lb := nu_lt b
    have lc := nu_lt c
    have ld := nu_lt d
    split at h
    · cases h
    rename_i na
    split at h
    · cases h
    rename_i nb
    have ea := sgn_nu (show 0 ≤ num a by omega)
    have eb := sgn_nu (show 0 ≤ num b by omega)
    have ib := nu_int (show 0 ≤ num b by omega)
    split at h
    · rename_i hc
      split at h
      · rename_i hm
        split at h
        · rename_i hd
          split at h
          · rename_i hr
            cases h
            subst hc hd hr
            unfold enc y0
            rw [ofNat_lt (by omega), show (nu a * 4 + nu b / 16) / 4 = nu a by omega, show (nu a * 4 + nu b / 16) % 4 * 16 = nu b by omega, ea, eb]
          · cases h
        · cases h
      · cases h
    · split at h
      · cases h
      rename_i hc nc
      have ec := sgn_nu (show 0 ≤ num c by omega)
      have ic := nu_int (show 0 ≤ num c by omega)
      split at h
      · rename_i hd
        split at h
        · rename_i hm
          split at h
          · rename_i hr
            cases h
            subst hd hr
            unfold enc y0 y1
            rw [ofNat_lt (by omega), ofNat_lt (by omega), show (nu a * 4 + nu b / 16) / 4 = nu a by omega, show (nu a * 4 + nu b / 16) % 4 * 16 + (nu b % 16 * 16 + nu c / 4) / 16 = nu b by omega, show (nu b % 16 * 16 + nu c / 4) % 16 * 4 = nu c by omega, ea, eb, ec]
          · cases h
        · cases h
      · split at h
        · cases h
        rename_i hd nd
        have ed := sgn_nu (show 0 ≤ num d by omega)
        split at h
        · rename_i x' hx
          cases h
          have ih := enc_dec r x' hx
          unfold enc y0 y1 y2
          rw [ofNat_lt (by omega), ofNat_lt (by omega), ofNat_lt (by omega), show (nu a * 4 + nu b / 16) / 4 = nu a by omega, show (nu a * 4 + nu b / 16) % 4 * 16 + (nu b % 16 * 16 + nu c / 4) / 16 = nu b by omega,
            show (nu b % 16 * 16 + nu c / 4) % 16 * 4 + (nu c % 4 * 64 + nu d) / 64 = nu c by omega, show (nu c % 4 * 64 + nu d) % 64 = nu d by omega, ea, eb, ec, ed, ih]
        · cases h

/- Hexadecimal digits. -/
def hxs : List UInt8 := [48, 49, 50, 51, 52, 53, 54, 55, 56, 57, 97, 98, 99, 100, 101, 102]
def hx (n : Nat) : UInt8 := hxs.getD n 0
def hv (c : UInt8) : Int := if 48 ≤ c.toNat ∧ c.toNat ≤ 57 then (c.toNat : Int) - 48 else if 97 ≤ c.toNat ∧ c.toNat ≤ 102 then (c.toNat : Int) - 87 else -1
theorem hv_hx (n : Nat) (h : n < 16) : hv (hx n) = n := by
  have : ∀ k : Fin 16, hv (hx k.val) = (k.val : Int) := by decide +kernel
  exact this ⟨n, h⟩
theorem hx_hv (c : UInt8) : 0 ≤ hv c → hx (hv c).toNat = c := by
  revert c
  apply all_bytes
  decide +kernel
theorem hv_bd (c : UInt8) : -1 ≤ hv c ∧ hv c ≤ 15 := by
  revert c
  apply all_bytes
  decide +kernel
def hexL : List UInt8 → List UInt8
  | [] => []
  | a :: r => hx (a.toNat / 16) :: hx (a.toNat % 16) :: hexL r
theorem hexL_length : ∀ l : List UInt8, (hexL l).length = 2 * l.length
  | [] => rfl
  | a :: r => by unfold hexL; simp only [List.length_cons]; rw [hexL_length r]; omega
def prs : List UInt8 → List UInt8
  | a :: b :: r => UInt8.ofNat ((hv a).toNat * 16 + (hv b).toNat) :: prs r
  | _ => []
theorem prs_hexL : ∀ l : List UInt8, prs (hexL l) = l
  | [] => rfl
  | a :: r => by
    have ha := a.toNat_lt
    unfold hexL prs
    rw [hv_hx _ (by omega), hv_hx _ (by omega), prs_hexL r]
    congr 1
    apply u8_eq
    rw [ofNat_lt (by omega)]
    omega
theorem hexL_dig : ∀ l : List UInt8, ∀ c ∈ hexL l, 0 ≤ hv c
  | [], c, h => by cases h
  | a :: r, c, h => by
    have ha := a.toNat_lt
    unfold hexL at h
    rcases List.mem_cons.1 h with rfl | h
    · rw [hv_hx _ (by omega)]; omega
    rcases List.mem_cons.1 h with rfl | h
    · rw [hv_hx _ (by omega)]; omega
    exact hexL_dig r c h
theorem hexL_prs : ∀ l : List UInt8, (∀ c ∈ l, 0 ≤ hv c) → l.length % 2 = 0 → hexL (prs l) = l
  | [], _, _ => rfl
  | [a], _, h => by simp at h
  | a :: b :: r, hd, hl => by
    have ba := hv_bd a
    have bb := hv_bd b
    have da := hd a (by simp)
    have db := hd b (by simp)
    have ea := hx_hv a da
    have eb := hx_hv b db
    unfold prs hexL
    rw [ofNat_lt (by omega), show ((hv a).toNat * 16 + (hv b).toNat) / 16 = (hv a).toNat by omega, show ((hv a).toNat * 16 + (hv b).toNat) % 16 = (hv b).toNat by omega, ea, eb,
      hexL_prs r (fun c hc => hd c (by simp [hc])) (by simp only [List.length_cons] at hl; omega)]
def hbad (l : List UInt8) : Nat := (l.takeWhile fun c => decide (0 ≤ hv c)).length
/-- What Unhex answers. -/
def unhexR (l : List UInt8) : List UInt8 × Int × Int :=
  if hbad l < l.length then ([], hbad l, 31) else if l.length % 2 = 0 then (prs l, 0, 0) else ([], l.length, 31)
theorem tw_stop {α : Type} (p : α → Bool) (d : α) : ∀ (l : List α) (k : Nat), k < l.length → (∀ j, j < k → p (l.getD j d) = true) → p (l.getD k d) = false → (l.takeWhile p).length = k
  | [], k, h, _, _ => by simp at h
  | a :: l, 0, _, _, hs => by simp at hs; simp [List.takeWhile_cons, hs]
  | a :: l, k + 1, h, ha, hs => by
    have h0 := ha 0 (by omega)
    simp at h0
    rw [List.takeWhile_cons, h0]
    simp only [if_true, List.length_cons, Nat.add_right_cancel_iff]
    exact tw_stop p d l k (by simpa using h) (fun j hj => by simpa using ha (j + 1) (by omega)) (by simpa using hs)
theorem tw_all {α : Type} (p : α → Bool) (d : α) : ∀ (l : List α), (∀ j, j < l.length → p (l.getD j d) = true) → (l.takeWhile p).length = l.length
  | [], _ => rfl
  | a :: l, ha => by
    have h0 := ha 0 (by simp)
    simp at h0
    rw [List.takeWhile_cons, h0]
    simp only [if_true, List.length_cons, Nat.add_right_cancel_iff]
    exact tw_all p d l (fun j hj => by simpa using ha (j + 1) (by simpa using hj))
theorem unhexR_bad (l : List UInt8) (k : Nat) (hk : k < l.length) (h : ∀ j, j < k → 0 ≤ hv (l.getD j 0)) (hs : hv (l.getD k 0) < 0) : unhexR l = ([], (k : Int), 31) := by
  have : hbad l = k := tw_stop _ 0 l k hk (fun j hj => decide_eq_true (h j hj)) (decide_eq_false (by omega))
  unfold unhexR
  rw [this, if_pos hk]
theorem hbad_all (l : List UInt8) (h : ∀ j, j < l.length → 0 ≤ hv (l.getD j 0)) : hbad l = l.length := tw_all _ 0 l (fun j hj => decide_eq_true (h j hj))
theorem unhexR_odd (l : List UInt8) (h : ∀ j, j < l.length → 0 ≤ hv (l.getD j 0)) (ho : l.length % 2 = 1) : unhexR l = ([], (l.length : Int), 31) := by
  unfold unhexR
  rw [hbad_all l h, if_neg (by omega), if_neg (by omega)]
theorem unhexR_ok (l : List UInt8) (h : ∀ j, j < l.length → 0 ≤ hv (l.getD j 0)) (ho : l.length % 2 = 0) : unhexR l = (prs l, 0, 0) := by
  unfold unhexR
  rw [hbad_all l h, if_neg (by omega), if_pos ho]
theorem mem_getD {l : List UInt8} {P : UInt8 → Prop} (h : ∀ c ∈ l, P c) (j : Nat) (hj : j < l.length) : P (l.getD j 0) := by
  rw [List.getD_eq_getElem?_getD, List.getElem?_eq_getElem hj]
  exact h _ (List.getElem_mem _)
theorem unhexR_back (l : List UInt8) : unhexR (hexL l) = (l, 0, 0) := by
  rw [unhexR_ok _ (fun j hj => mem_getD (P := fun c => 0 ≤ hv c) (hexL_dig l) j hj) (by rw [hexL_length]; omega), prs_hexL]
theorem tw_full {α : Type} (p : α → Bool) (l : List α) (h : ¬ (l.takeWhile p).length < l.length) : ∀ c ∈ l, p c = true := by
  have e : l.takeWhile p = l := (List.takeWhile_prefix (l := l) p).eq_of_length (by have := (List.takeWhile_prefix (l := l) p).length_le; omega)
  have e3 : (l.takeWhile p).all p = true := List.all_takeWhile
  rw [e] at e3
  exact List.all_eq_true.1 e3
theorem unhexR_once (l x : List UInt8) (i : Int) (h : unhexR l = (x, i, 0)) : hexL x = l := by
  unfold unhexR at h
  split at h
  · simp at h
  · rename_i h1
    split at h
    · rename_i h2
      obtain ⟨rfl, _⟩ := Prod.mk.inj h
      exact hexL_prs l (fun c hc => of_decide_eq_true (tw_full _ l h1 c hc)) h2
    · simp at h

end Bs
end Go.Proofs.YtgdecgagdacipaaGreatDoor
