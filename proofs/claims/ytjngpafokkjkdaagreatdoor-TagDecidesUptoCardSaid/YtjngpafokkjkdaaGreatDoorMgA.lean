/- Several texts as one. -/
import Derived.WalkKit
import Derived.Test.YtjngpafokkjkdaaGreatDoorRows
import Derived.WalkSpells
import Derived.WalkLawsBesides
/-
  Plain mathematics for package octet: bytes as integers and as UInt8, lists of bytes. Nothing of the program.
-/
set_option linter.unusedVariables false
set_option linter.unusedSimpArgs false
namespace Go.Proofs.YtjngpafokkjkdaaGreatDoor
namespace Oc

theorem at_lt (s : ByteArray) (k : Nat) (h : k < s.size) : s.data.toList.getD k 0 = s[k] := by
  rw [List.getD_eq_getElem?_getD, List.getElem?_eq_getElem (by simpa using h)]
  rfl

/-- Small letters, of a byte. -/
def lowI (c : Int) : Int := if 65 ≤ c ∧ c ≤ 90 then c + 32 else c
def digI (c : Int) : Bool := decide (48 ≤ c ∧ c ≤ 57)
def lettI (c : Int) : Bool := decide (65 ≤ c ∧ c ≤ 90 ∨ 97 ≤ c ∧ c ≤ 122)
def hexI (c : Int) : Bool := decide (48 ≤ c ∧ c ≤ 57 ∨ 65 ≤ c ∧ c ≤ 70 ∨ 97 ≤ c ∧ c ≤ 102)
def blankI (c : Int) : Bool := decide (c = 32 ∨ c = 9)
def fieldI (c : Int) : Bool := decide (c = 9 ∨ 32 ≤ c ∧ c ≠ 127)
/-- What a hexadecimal digit says; 16 of another byte. -/
def valI (c : Int) : Int := if 48 ≤ c ∧ c ≤ 57 then c - 48 else if 97 ≤ c ∧ c ≤ 102 then c - 87 else if 65 ≤ c ∧ c ≤ 70 then c - 55 else 16
def signs : List UInt8 := [33, 35, 36, 37, 38, 39, 42, 43, 45, 46, 94, 95, 96, 124, 126]
def tokI (c : Int) : Bool := digI c || lettI c || signs.any fun x => (x.toNat : Int) == c

theorem signs_at (k : Nat) (h : k < (⟨#[33, 35, 36, 37, 38, 39, 42, 43, 45, 46, 94, 95, 96, 124, 126]⟩ : ByteArray).size) : signs.getD k 0 = (⟨#[33, 35, 36, 37, 38, 39, 42, 43, 45, 46, 94, 95, 96, 124, 126]⟩ : ByteArray)[k] := at_lt _ k h

theorem lowI_up {c : Int} (a : 65 ≤ c) (b : c ≤ 90) : lowI c = c + 32 := by unfold lowI; rw [if_pos ⟨a, b⟩]
theorem lowI_not {c : Int} (a : ¬ (65 ≤ c ∧ c ≤ 90)) : lowI c = c := by unfold lowI; rw [if_neg a]
theorem lowI_bd {c : Int} (h0 : 0 ≤ c) (h1 : c ≤ 255) : 0 ≤ lowI c ∧ lowI c ≤ 255 := by unfold lowI; split <;> omega
theorem valI_bd {c : Int} (h0 : 0 ≤ c) : 0 ≤ valI c ∧ valI c ≤ 16 := by unfold valI; (repeat' split) <;> omega

/-- The table's bits, by its words. -/
theorem tok_word0 : ∀ c : Nat, c < 64 → tokI (c : Int) = (bits BinOp.and IntKind.u64 (288068722172624896 / 2 ^ (c : Int).toNat) 1 == 1) := by decide +kernel
theorem tok_word1 : ∀ c : Nat, c < 64 → tokI ((c + 64 : Nat) : Int) = (bits BinOp.and IntKind.u64 (6341068274398134270 / 2 ^ (c : Int).toNat) 1 == 1) := by decide +kernel
theorem tok_beyond {c : Int} (h : 128 ≤ c) : tokI c = false := by
  unfold tokI digI lettI
  simp only [Bool.or_eq_false_iff, decide_eq_false_iff_not]
  refine ⟨⟨by omega, by omega⟩, ?_⟩
  rw [List.any_eq_false]
  intro x hx
  have hall : ∀ y ∈ signs, y.toNat < 128 := by decide
  have := hall x hx
  simp
  omega

theorem digI_t {c : Int} (h : 48 ≤ c ∧ c ≤ 57) : digI c = true := decide_eq_true h
theorem digI_f {c : Int} (h : ¬ (48 ≤ c ∧ c ≤ 57)) : digI c = false := decide_eq_false h
theorem lettI_t {c : Int} (h : 65 ≤ c ∧ c ≤ 90 ∨ 97 ≤ c ∧ c ≤ 122) : lettI c = true := decide_eq_true h
theorem lettI_f {c : Int} (h : ¬ (65 ≤ c ∧ c ≤ 90 ∨ 97 ≤ c ∧ c ≤ 122)) : lettI c = false := decide_eq_false h
theorem hexI_t {c : Int} (h : 48 ≤ c ∧ c ≤ 57 ∨ 65 ≤ c ∧ c ≤ 70 ∨ 97 ≤ c ∧ c ≤ 102) : hexI c = true := decide_eq_true h
theorem hexI_f {c : Int} (h : ¬ (48 ≤ c ∧ c ≤ 57 ∨ 65 ≤ c ∧ c ≤ 70 ∨ 97 ≤ c ∧ c ≤ 102)) : hexI c = false := decide_eq_false h
theorem blankI_t {c : Int} (h : c = 32 ∨ c = 9) : blankI c = true := decide_eq_true h
theorem blankI_f {c : Int} (h : ¬ (c = 32 ∨ c = 9)) : blankI c = false := decide_eq_false h
theorem fieldI_t {c : Int} (h : c = 9 ∨ 32 ≤ c ∧ c ≠ 127) : fieldI c = true := decide_eq_true h
theorem fieldI_f {c : Int} (h : ¬ (c = 9 ∨ 32 ≤ c ∧ c ≠ 127)) : fieldI c = false := decide_eq_false h
theorem valI_d {c : Int} (h : 48 ≤ c ∧ c ≤ 57) : valI c = c - 48 := by unfold valI; rw [if_pos h]
theorem valI_s {c : Int} (h : 97 ≤ c ∧ c ≤ 102) : valI c = c - 87 := by unfold valI; rw [if_neg (by omega), if_pos h]
theorem valI_b {c : Int} (h : 65 ≤ c ∧ c ≤ 70) : valI c = c - 55 := by unfold valI; rw [if_neg (by omega), if_neg (by omega), if_pos h]
theorem valI_n {c : Int} (h : hexI c = false) : valI c = 16 := by
  have := of_decide_eq_false h
  unfold valI; rw [if_neg (by omega), if_neg (by omega), if_neg (by omega)]
theorem bits_zero : (bits BinOp.and IntKind.u64 0 1 == 1) = false := by decide
theorem tokI_of_dig {c : Int} (h : digI c = true) : tokI c = true := by simp [tokI, h]
theorem tokI_of_lett {c : Int} (h : lettI c = true) : tokI c = true := by simp [tokI, h]
theorem tokI_of_sign {c : Int} (k : Nat) (hk : k < 15) (h : ((signs.getD k 0).toNat : Int) = c) : tokI c = true := by
  unfold tokI
  simp only [Bool.or_eq_true, List.any_eq_true]
  refine .inr ⟨signs.getD k 0, ?_, beq_iff_eq.2 h⟩
  have e : signs.length = 15 := rfl
  rw [List.getD_eq_getElem?_getD, List.getElem?_eq_getElem (by omega)]
  exact List.getElem_mem _
theorem tokI_none {c : Int} (h1 : digI c = false) (h2 : lettI c = false) (h3 : ∀ k, k < 15 → ((signs.getD k 0).toNat : Int) ≠ c) : tokI c = false := by
  unfold tokI
  rw [h1, h2]
  simp only [Bool.or_self, Bool.false_or]
  rw [List.any_eq_false]
  intro x hx
  obtain ⟨k, hk, rfl⟩ := List.mem_iff_getElem.1 hx
  have e : signs.length = 15 := rfl
  have := h3 k (by omega)
  rw [List.getD_eq_getElem?_getD, List.getElem?_eq_getElem hk] at this
  simpa using this

end Oc
end Go.Proofs.YtjngpafokkjkdaaGreatDoor

/-
  Entity tags, plain: a walk through a tag, as the program goes, and as the document reads.
-/
set_option linter.unusedVariables false
set_option linter.unusedSimpArgs false
namespace Go.Proofs.YtjngpafokkjkdaaGreatDoor
namespace Tt

abbrev Tg1 := Bool × List UInt8
def inT (c : UInt8) : Bool := decide (32 < c.toNat ∧ c.toNat ≠ 34 ∧ c.toNat ≠ 127)
/-- The walk: of the rest, the place, what is looked for, where the text begins, the tag so far. -/
def walkM (s : List UInt8) : List UInt8 → Nat → Nat → Nat → Tg1 → Tg1 × Nat × Bool
  | [], k, next, b, t => (t, k, next == 4)
  | c :: r, k, next, b, t =>
    if next = 4 then (t, k, true)
    else if next = 0 ∧ c = 87 then walkM s r (k + 1) 1 b (true, t.2)
    else if next = 1 ∧ c = 47 then walkM s r (k + 1) 2 b t
    else if (next = 0 ∨ next = 2) ∧ c = 34 then walkM s r (k + 1) 3 (k + 1) t
    else if next = 3 ∧ c = 34 then walkM s r (k + 1) 4 b (t.1, (s.drop b).take (k - b))
    else if next = 3 ∧ inT c = true ∧ k - b < 256 then walkM s r (k + 1) 3 b t
    else (t, k, false)
def frontM (s : List UInt8) : Tg1 × Nat × Bool := walkM s s 0 0 0 (false, [])

/-- The bytes of a tag's text: how many go well, and whether the last quote stands behind. -/
def bodyR : List UInt8 → Nat → Nat × Bool
  | [], k => (k, false)
  | c :: r, k => if c = 34 then (k, true) else if inT c = true ∧ k < 256 then bodyR r (k + 1) else (k, false)
/-- What stands behind the first quote. -/
def restR (w : Bool) (off : Nat) (l : List UInt8) : Tg1 × Nat × Bool :=
  if (bodyR l 0).2 = true then ((w, l.take (bodyR l 0).1), off + (bodyR l 0).1 + 1, true) else ((false, []), off + (bodyR l 0).1, false)
/-- The tag at the front of a text, how many bytes of it go well, and whether it is one. -/
def frontR : List UInt8 → Tg1 × Nat × Bool
  | [] => ((false, []), 0, false)
  | c :: r =>
    if c = 87 then
      match r with
      | [] => ((false, []), 1, false)
      | d :: r2 =>
        if d = 47 then
          match r2 with
          | [] => ((false, []), 2, false)
          | e :: r3 => if e = 34 then restR true 3 r3 else ((false, []), 2, false)
        else ((false, []), 1, false)
    else if c = 34 then restR false 1 r
    else ((false, []), 0, false)

theorem bodyR_ge : ∀ (l : List UInt8) (k : Nat), k ≤ (bodyR l k).1 ∧ (bodyR l k).1 ≤ k + l.length
  | [], k => by simp [bodyR]
  | c :: r, k => by
    unfold bodyR
    split
    · simp
    · split
      · have := bodyR_ge r (k + 1)
        simp; omega
      · simp
theorem bodyR_lt : ∀ (l : List UInt8) (k : Nat), (bodyR l k).2 = true → (bodyR l k).1 < k + l.length
  | [], k, h => by simp [bodyR] at h
  | c :: r, k, h => by
    unfold bodyR at h ⊢
    split
    · simp
    · rename_i h1
      rw [if_neg h1] at h
      split
      · rename_i h2
        rw [if_pos h2] at h
        have := bodyR_lt r (k + 1) h
        simp; omega
      · rename_i h2
        rw [if_neg h2] at h
        cases h
theorem walk_end (s r : List UInt8) (k b : Nat) (t : Tg1) : walkM s r k 4 b t = (t, k, true) := by
  cases r <;> simp [walkM]
theorem walk_body (s : List UInt8) (b : Nat) (t : Tg1) : ∀ (r : List UInt8) (k n : Nat), k = b + n →
    walkM s r k 3 b t = if (bodyR r n).2 = true then ((t.1, (s.drop b).take (bodyR r n).1), b + (bodyR r n).1 + 1, true) else (t, b + (bodyR r n).1, false)
  | [], k, n, h => by simp [walkM, bodyR, h]
  | c :: r, k, n, h => by
    subst h
    have e : b + n - b = n := by omega
    by_cases h1 : c = 34
    · subst h1
      simp [walkM, bodyR, walk_end, e]
    · by_cases h2 : inT c = true ∧ n < 256
      · have ih := walk_body s b t r (b + n + 1) (n + 1) (by omega)
        simp only [walkM, bodyR, h1, h2, e, and_false, and_self, if_false, if_true, ih, reduceIte, or_self, Nat.reduceEqDiff]
        simp [h1, h2, ih]
      · simp only [walkM, bodyR, h1, e, and_false, if_false, reduceIte, Nat.reduceEqDiff]
        simp [h1, h2]
theorem front_eq (s : List UInt8) : (frontM s).2 = (frontR s).2 ∧ ((frontM s).2.2 = true → (frontM s).1 = (frontR s).1) := by
  unfold frontM
  match s with
  | [] => simp [walkM, frontR]
  | c :: r =>
    by_cases h1 : c = 87
    · subst h1
      match r with
      | [] => simp [walkM, frontR]
      | d :: r2 =>
        by_cases h2 : d = 47
        · subst h2
          match r2 with
          | [] => simp [walkM, frontR]
          | e :: r3 =>
            by_cases h3 : e = 34
            · subst h3
              have hb := walk_body (87 :: 47 :: 34 :: r3) 3 (true, []) r3 3 0 rfl
              have h1 : walkM (87 :: 47 :: 34 :: r3) (87 :: 47 :: 34 :: r3) 0 0 0 (false, []) = walkM (87 :: 47 :: 34 :: r3) r3 3 3 3 (true, []) := by simp [walkM]
              rw [h1, hb]
              simp only [frontR, restR, if_true, reduceIte]
              by_cases h4 : (bodyR r3 0).2 = true
              · simp [h4]
              · simp [h4]
            · simp [walkM, frontR, h3]
        · simp [walkM, frontR, h2]
    · by_cases h3 : c = 34
      · subst h3
        have hb := walk_body (34 :: r) 1 (false, []) r 1 0 rfl
        have h1 : walkM (34 :: r) (34 :: r) 0 0 0 (false, []) = walkM (34 :: r) r 1 3 1 (false, []) := by simp [walkM]
        rw [h1, hb]
        simp only [frontR, restR, if_true, reduceIte]
        by_cases h4 : (bodyR r 0).2 = true
        · simp [h4]
        · simp [h4]
      · simp [walkM, frontR, h1, h3]
theorem restR_le (w : Bool) (off : Nat) (l : List UInt8) : (restR w off l).2.1 ≤ off + l.length := by
  unfold restR
  split
  · rename_i h
    have := bodyR_lt l 0 h
    simp; omega
  · have := bodyR_ge l 0
    simp; omega
theorem frontR_le (s : List UInt8) : (frontR s).2.1 ≤ s.length := by
  unfold frontR
  match s with
  | [] => simp
  | c :: r =>
    dsimp only
    split
    · match r with
      | [] => simp
      | d :: r2 =>
        dsimp only
        split
        · match r2 with
          | [] => simp
          | e :: r3 =>
            dsimp only
            split
            · have := restR_le true 3 r3; simp; omega
            · simp
        · simp
    · split
      · have := restR_le false 1 r; simp; omega
      · simp
/-- Of a tag at least two bytes go. -/
theorem frontR_pos (s : List UInt8) (h : (frontR s).2.2 = true) : 2 ≤ (frontR s).2.1 ∧ (frontR s).1.2.length ≤ (frontR s).2.1 := by
  have hr : ∀ (w : Bool) (off : Nat) (l : List UInt8), 1 ≤ off → (restR w off l).2.2 = true → 2 ≤ (restR w off l).2.1 ∧ (restR w off l).1.2.length ≤ (restR w off l).2.1 := by
    intro w off l ho h
    unfold restR at h ⊢
    split
    · simp; omega
    · rename_i h2; rw [if_neg h2] at h; cases h
  unfold frontR at h ⊢
  match s with
  | [] => simp at h
  | c :: r =>
    dsimp only at h ⊢
    split
    · rename_i h1
      rw [if_pos h1] at h
      match r with
      | [] => simp at h
      | d :: r2 =>
        dsimp only at h ⊢
        split
        · rename_i h2
          rw [if_pos h2] at h
          match r2 with
          | [] => simp at h
          | e :: r3 =>
            dsimp only at h ⊢
            split
            · rename_i h3
              rw [if_pos h3] at h
              exact hr _ _ _ (by omega) h
            · rename_i h3
              rw [if_neg h3] at h
              cases h
        · rename_i h2
          rw [if_neg h2] at h
          cases h
    · rename_i h1
      rw [if_neg h1] at h
      split
      · rename_i h2
        rw [if_pos h2] at h
        exact hr _ _ _ (by omega) h
      · rename_i h2
        rw [if_neg h2] at h
        cases h

/-- What a text says as a tag: the tag, the place, the error. -/
def parseT (s : List UInt8) : Tg1 × Nat × Int :=
  if (frontR s).2.2 = true ∧ (frontR s).2.1 = s.length then ((frontR s).1, 0, 0) else ((false, []), (frontR s).2.1, 80)

end Tt
end Go.Proofs.YtjngpafokkjkdaaGreatDoor

/-
  Contracts of octet's small functions on bytes, and of the document's.
-/
set_option linter.unusedVariables false
set_option linter.unusedSimpArgs false
namespace Go.Proofs.YtjngpafokkjkdaaGreatDoor
open Go.RowKit
namespace Oc

theorem ret_int {k : IntKind} {a b : Int} (h : a = b) : Ending.returned (.int k a) = .returned (.int k b) := by rw [h]
theorem ret_bool {a b : Bool} (h : a = b) : Ending.returned (.bool a) = .returned (.bool b) := by rw [h]

set_option maxHeartbeats 400000 in
theorem lowerByte_any (c : Int) (h0 : 0 ≤ c) (h1 : c ≤ 255) (w : World) :
    Calls Tryz.prog 81 #[.int .u8 c] w fun e w' => e = .returned (.int .u8 (lowI c)) ∧ w' = w := by
  by_cases a : 65 ≤ c
  · by_cases b : c ≤ 90
    · go_enter Tryz.func81, Tryz.ntmps81
      go_wp2
      go_ret
      exact ⟨ret_int (by rw [lowI_up a b]; omega), rfl⟩
    · go_enter Tryz.func81, Tryz.ntmps81
      go_wp2
      go_ret
      exact ⟨ret_int (by rw [lowI_not (by omega)]), rfl⟩
  · go_enter Tryz.func81, Tryz.ntmps81
    go_wp2
    go_ret
    exact ⟨ret_int (by rw [lowI_not (by omega)]), rfl⟩

end Oc
end Go.Proofs.YtjngpafokkjkdaaGreatDoor
