/- Several texts as one. -/
import Derived.Test.YthdfgepnadgkjaaGreatDoorZzA
import Derived.Test.YthdfgepnadgkjaaGreatDoorZzC
import Derived.Test.YthdfgepnadgkjaaGreatDoorZzD
import Derived.RangeFuncNested
import Derived.RangeFuncBound
import Derived.RangeFuncCalls
import Derived.RangeFuncLeaves
import Derived.Shelf.Abstract
import Derived.Shelf.RegionOpen
import Derived.WalkKit
import Derived.OwnWalkIn
import Derived.TacticsInMore
import Derived.LoopNIn
import Derived.LoopIn
/-
  Plain mathematics for package target: signs of texts put together, triples written and read back.
-/
set_option linter.unusedVariables false
set_option linter.unusedSimpArgs false
namespace Go.Proofs.YthdfgepnadgkjaaGreatDoor
namespace Tg

theorem sg_z (p q : Nat) (l : List UInt8) : (sg p l).map Sg.z = (sg q l).map Sg.z := by
  match l with
  | [] => rw [sg_nil, sg_nil]
  | c :: t =>
    by_cases h : trip (c :: t) = true
    · rw [sg_trip p _ h, sg_trip q _ h]
      simp only [List.map_cons]
      rw [sg_z (p + 3) (q + 3) ((c :: t).drop 3)]
    · rw [sg_one p c t (by simpa using h), sg_one q c t (by simpa using h)]
      simp only [List.map_cons]
      rw [sg_z (p + 1) (q + 1) t]
termination_by l.length
decreasing_by
  · simp; omega
  · simp
/-- The signs of a text, without their places. -/
def zs (l : List UInt8) : List (List UInt8) := (sg 0 l).map Sg.z
theorem zs_nil : zs [] = [] := by unfold zs; rw [sg_nil]; rfl
theorem zs_trip (l : List UInt8) (h : trip l = true) : zs l = l.take 3 :: zs (l.drop 3) := by
  unfold zs; rw [sg_trip 0 l h, List.map_cons, sg_z _ 0]
theorem zs_one (c : UInt8) (t : List UInt8) (h : trip (c :: t) = false) : zs (c :: t) = [c] :: zs t := by
  unfold zs; rw [sg_one 0 c t h, List.map_cons, sg_z _ 0]
theorem trip_ne {c : UInt8} (h : c ≠ 37) (t : List UInt8) : trip (c :: t) = false := by
  cases hh : trip (c :: t) with
  | false => rfl
  | true => exact absurd (trip_head hh) h
theorem zs_flat (l : List UInt8) : (zs l).flatten = l := by
  match l with
  | [] => rw [zs_nil]; rfl
  | c :: t =>
    by_cases h : trip (c :: t) = true
    · rw [zs_trip _ h, List.flatten_cons, zs_flat ((c :: t).drop 3), List.take_append_drop]
    · rw [zs_one c t (by simpa using h), List.flatten_cons, zs_flat t]; rfl
termination_by l.length
decreasing_by
  · simp; omega
  · simp
def valZ (z : List UInt8) : List UInt8 := match z with | [_, a, b] => [byteOf a b] | z => z
theorem valS_z (x : Sg) : valS x = valZ x.z := rfl
def goodZ (ok : UInt8 → Bool) (z : List UInt8) : Bool := z.length == 3 || ok (z.headD 0)
/-- A text in which each % begins a triple. -/
def whole (l : List UInt8) : Bool := (zs l).all fun z => z != [37]
def allOk (ok : UInt8 → Bool) (l : List UInt8) : Bool := (zs l).all (goodZ ok)
theorem zs_append (a b : List UInt8) (h : whole a = true) : zs (a ++ b) = zs a ++ zs b := by
  match a with
  | [] => rw [zs_nil]; rfl
  | c :: t =>
    by_cases ht : trip (c :: t) = true
    · have h3 := trip_len ht
      have e : trip (c :: t ++ b) = true := by
        rw [← trip_take, List.take_append_of_le_length h3, trip_take]; exact ht
      have hw : whole ((c :: t).drop 3) = true := by
        unfold whole at h ⊢
        rw [zs_trip _ ht, List.all_cons, Bool.and_eq_true] at h
        exact h.2
      rw [zs_trip _ e, zs_trip _ ht, List.take_append_of_le_length h3, List.drop_append_of_le_length h3, zs_append _ b hw]
      rfl
    · have ht' : trip (c :: t) = false := by simpa using ht
      have hw : whole t = true ∧ c ≠ 37 := by
        unfold whole at h ⊢
        rw [zs_one _ _ ht', List.all_cons, Bool.and_eq_true] at h
        exact ⟨h.2, by simpa using h.1⟩
      rw [List.cons_append, zs_one c _ (trip_ne hw.2 _), zs_one c t ht', zs_append t b hw.1]
      rfl
termination_by a.length
decreasing_by
  · simp; omega
  · simp
theorem whole_append (a b : List UInt8) (h : whole a = true) : whole (a ++ b) = whole b := by
  unfold whole at h ⊢; rw [zs_append a b h, List.all_append, h, Bool.true_and]
theorem allOk_append (ok : UInt8 → Bool) (a b : List UInt8) (h : whole a = true) : allOk ok (a ++ b) = (allOk ok a && allOk ok b) := by
  unfold allOk; rw [zs_append a b h, List.all_append]
theorem whole_of (ok : UInt8 → Bool) (h37 : ok 37 = false) (l : List UInt8) (h : allOk ok l = true) : whole l = true := by
  unfold allOk at h; unfold whole
  rw [List.all_eq_true] at h ⊢
  intro z hz
  have := h z hz
  by_cases e : z = [37]
  · subst e; simp [goodZ, h37] at this
  · simpa using e

/-- The results, by the signs alone. -/
theorem chk_ok (ok : UInt8 → Bool) (other : Int) (l : List UInt8) (h : allOk ok l = true) : chk ok other l = (0, 0) := by
  unfold chk
  have : (sg 0 l).find? (wrong ok) = none := by
    rw [List.find?_eq_none]
    intro x hx
    unfold allOk zs at h
    rw [List.all_map, List.all_eq_true] at h
    have := h x hx
    simp [goodZ] at this
    simp [wrong]
    intro h3
    rcases this with h | h
    · exact absurd h h3
    · exact h
  rw [this]
theorem chk_bad (ok : UInt8 → Bool) (other : Int) (ho : other ≠ 0) (l : List UInt8) (h : allOk ok l = false) : (chk ok other l).2 ≠ 0 := by
  unfold chk
  split
  · dsimp only; split <;> first | decide | exact ho
  · rename_i e
    rw [List.find?_eq_none] at e
    exfalso
    rw [Bool.eq_false_iff] at h
    apply h
    unfold allOk zs
    rw [List.all_map, List.all_eq_true]
    intro x hx
    have := e x hx
    simp [wrong] at this
    simp [goodZ]
    by_cases h3 : x.z.length = 3
    · exact .inl h3
    · exact .inr (this h3)
theorem decR_whole (l : List UInt8) (h : whole l = true) : decR l = ((zs l).flatMap valZ, 0, 0) := by
  unfold decR
  have : (sg 0 l).find? bad = none := by
    rw [List.find?_eq_none]
    intro x hx
    unfold whole zs at h
    rw [List.all_map, List.all_eq_true] at h
    have := h x hx
    simpa [bad] using this
  rw [this]
  unfold zs
  rw [List.flatMap_map]
  rfl
theorem decR_not (l : List UInt8) (h : whole l = false) : (decR l).1 = [] ∧ (decR l).2.2 = 51 := by
  unfold decR
  split
  · exact ⟨rfl, rfl⟩
  · rename_i e
    rw [List.find?_eq_none] at e
    exfalso
    rw [Bool.eq_false_iff] at h
    apply h
    unfold whole zs
    rw [List.all_map, List.all_eq_true]
    intro x hx
    simpa [bad] using e x hx

theorem hd_facts : ∀ n : Nat, n < 256 → (hx (hd (n / 16)) && hx (hd (n % 16))) = true ∧ byteOf (hd (n / 16)) (hd (n % 16)) = UInt8.ofNat n := by decide +kernel
theorem unr37 : unr 37 = false := by decide +kernel
theorem hd_trip (c : UInt8) (t : List UInt8) : trip (37 :: hd (c.toNat / 16) :: hd (c.toNat % 16) :: t) = true := by
  have := (hd_facts c.toNat c.toNat_lt).1
  simp [trip]
  simpa using this
theorem hd_byte (c : UInt8) : byteOf (hd (c.toNat / 16)) (hd (c.toNat % 16)) = c := by
  rw [(hd_facts c.toNat c.toNat_lt).2]; simp
theorem zs_encB (c : UInt8) : zs (encB c) = [encB c] := by
  unfold encB
  split
  · rename_i h
    rw [zs_one c [] rfl, zs_nil]
  · rw [zs_trip _ (hd_trip c [])]; simp [zs_nil]
theorem encB_val (c : UInt8) : valZ (encB c) = [c] := by
  unfold encB
  split
  · rfl
  · simp only [valZ, hd_byte]
theorem encB_whole (c : UInt8) : whole (encB c) = true := by
  unfold whole
  rw [zs_encB]
  unfold encB
  split
  · rename_i h
    simp
    intro e
    rw [e, unr37] at h
    cases h
  · simp
theorem zs_enc (l : List UInt8) : zs (enc l) = l.map encB := by
  induction l with
  | nil => exact zs_nil
  | cons c t ih =>
    show zs (encB c ++ enc t) = _
    rw [zs_append _ _ (encB_whole c), ih, zs_encB]
    rfl
theorem enc_whole (l : List UInt8) : whole (enc l) = true := by
  unfold whole
  rw [zs_enc, List.all_map, List.all_eq_true]
  intro c _
  have := encB_whole c
  unfold whole at this
  rw [zs_encB] at this
  simpa using this
theorem dec_enc (l : List UInt8) : decR (enc l) = (l, 0, 0) := by
  rw [decR_whole _ (enc_whole l), zs_enc, List.flatMap_map]
  congr 1
  induction l with
  | nil => rfl
  | cons c t ih => rw [List.flatMap_cons, ih, encB_val]; rfl
theorem enc_append (a b : List UInt8) : enc (a ++ b) = enc a ++ enc b := by unfold enc; rw [List.flatMap_append]
theorem hd_unr : ∀ n : Nat, n < 16 → unr (hd n) = true := by decide +kernel
theorem enc_mem (l : List UInt8) (c : UInt8) (h : c ∈ enc l) : c = 37 ∨ unr c = true := by
  unfold enc at h
  rw [List.mem_flatMap] at h
  obtain ⟨a, _, ha⟩ := h
  unfold encB at ha
  split at ha
  · simp at ha; subst ha; right; assumption
  · have h1 := hd_unr (a.toNat / 16) (by have := a.toNat_lt; omega)
    have h2 := hd_unr (a.toNat % 16) (by omega)
    simp at ha
    rcases ha with rfl | rfl | rfl
    · exact .inl rfl
    · exact .inr h1
    · exact .inr h2
theorem enc_len (l : List UInt8) : (enc l).length ≤ 3 * l.length := by
  induction l with
  | nil => exact Nat.le_refl _
  | cons c t ih =>
    show (encB c ++ enc t).length ≤ _
    rw [List.length_append, List.length_cons]
    have : (encB c).length ≤ 3 := by unfold encB; split <;> simp
    omega
theorem enc_ok (ok : UInt8 → Bool) (h : ∀ c, unr c = true → ok c = true) (l : List UInt8) : allOk ok (enc l) = true := by
  unfold allOk
  rw [zs_enc, List.all_map, List.all_eq_true]
  intro c _
  unfold Function.comp goodZ encB
  split
  · rename_i hu; simp [h c hu]
  · simp
theorem val_len (z : List UInt8) (h : 1 ≤ z.length) : (valZ z).length ≤ z.length := by
  unfold valZ
  split
  · simp
  · exact Nat.le_refl _
theorem nt_len (x : Sg) : (nt x).length ≤ 3 := by
  unfold nt
  split
  · have : (valS x).length ≤ 1 := by
      rw [valS_z]
      rcases x.ok with ⟨h, _⟩ | ⟨h, _⟩
      · match x.z, h with
        | [a, b, c], _ => simp [valZ]
      · omega
    exact Nat.le_trans (enc_len _) (by omega)
  · rcases x.ok with ⟨h, _⟩ | ⟨h, _⟩ <;> omega
theorem valS_len (x : Sg) : (valS x).length = 1 := by
  rw [valS_z]
  rcases x.ok with ⟨h, _⟩ | ⟨h, _⟩
  · match x.z, h with
    | [a, b, c], _ => simp [valZ]
  · match x.z, h with
    | [a], _ => simp [valZ]

end Tg
end Go.Proofs.YthdfgepnadgkjaaGreatDoor

/-
  target: isTriple, tripleByte, classOf, signs.
-/
set_option linter.unusedVariables false
set_option linter.unusedSimpArgs false
namespace Go.Proofs.YthdfgepnadgkjaaGreatDoor
open Go.RowKit
namespace Tg
open Oc

theorem hx_val (c : UInt8) : hx c = decide (valI (c.toNat : Int) < 16) := hexI_val
theorem vl_int (c : UInt8) : ((vl c : Nat) : Int) = valI (c.toNat : Int) := by
  unfold vl
  have := valI_bd (show (0 : Int) ≤ (c.toNat : Int) by omega)
  omega
theorem num_two (a b : UInt8) : numR 16 [a, b] 255 = if hx a && hx b then (((byteOf a b).toNat : Int), 0) else (0, 11) := by
  unfold numR
  rw [hx_val, hx_val]
  have ha := valI_bd (show (0 : Int) ≤ (a.toNat : Int) by omega)
  have hb := valI_bd (show (0 : Int) ≤ (b.toNat : Int) by omega)
  by_cases h1 : valI (a.toNat : Int) < 16
  · by_cases h2 : valI (b.toNat : Int) < 16
    · have e : ((byteOf a b).toNat : Int) = valI (a.toNat : Int) * 16 + valI (b.toNat : Int) := by
        unfold byteOf
        have v1 := vl_int a
        have v2 := vl_int b
        rw [show (UInt8.ofNat (vl a * 16 + vl b)).toNat = (vl a * 16 + vl b) % 256 from rfl, Nat.mod_eq_of_lt (by omega)]
        omega
      have n : numOf 16 [a, b] = valI (a.toNat : Int) * 16 + valI (b.toNat : Int) := by simp [numOf]
      have c1 : ([a, b].isEmpty || [a, b].any fun c => decide (16 ≤ valI (c.toNat : Int))) = false := by
        simp; omega
      rw [c1, if_neg (by simp), n, if_neg (by omega), if_pos (by simp [h1, h2]), e]
    · have c1 : ([a, b].isEmpty || [a, b].any fun c => decide (16 ≤ valI (c.toNat : Int))) = true := by
        simp; omega
      rw [c1, if_pos rfl, if_neg (by simp [h2])]
  · have c1 : ([a, b].isEmpty || [a, b].any fun c => decide (16 ≤ valI (c.toNat : Int))) = true := by
      simp; omega
    rw [c1, if_pos rfl, if_neg (by simp [h1])]

theorem list3 {s : ByteArray} (h : s.size = 3) : ∃ a b c, s = ⟨#[a, b, c]⟩ := by
  have hl : s.data.toList.length = 3 := (size_list s).trans h
  match hh : s.data.toList, hl with
  | [a, b, c], _ => exact ⟨a, b, c, eq_list (by rw [hh])⟩
theorem list1 {s : ByteArray} (h : s.size = 1) : ∃ a, s = ⟨#[a]⟩ := by
  have hl : s.data.toList.length = 1 := (size_list s).trans h
  match hh : s.data.toList, hl with
  | [a], _ => exact ⟨a, eq_list (by rw [hh])⟩
theorem ext3 (a b c : UInt8) : (⟨#[a, b, c]⟩ : ByteArray).extract 1 3 = ⟨#[b, c]⟩ := rfl

/-- Classes, by the byte's number. -/
def clsN (n : Nat) : Int := if n = 45 then 1 else if n = 46 then 1 else if n = 95 then 1 else if n = 126 then 1 else if n = 33 then 2 else if n = 36 then 2 else if n = 38 then 2 else if n = 39 then 2 else if n = 40 then 2 else if n = 41 then 2 else if n = 42 then 2 else if n = 43 then 2 else if n = 44 then 2 else if n = 59 then 2 else if n = 61 then 2 else if n = 58 then 4 else if n = 64 then 4 else if n = 47 then 8 else if n = 63 then 16 else if 97 ≤ n ∧ n ≤ 122 ∨ 65 ≤ n ∧ n ≤ 90 ∨ 48 ≤ n ∧ n ≤ 57 then 1 else 0
theorem cls_clsN : ∀ n : Nat, n < 256 → cls (UInt8.ofNat n) = clsN n := by decide +kernel
theorem cls_N (c : UInt8) : cls c = clsN c.toNat := by rw [← cls_clsN c.toNat c.toNat_lt]; simp

end Tg
end Go.Proofs.YthdfgepnadgkjaaGreatDoor

/-
  target: the iterator over the signs of a text.
-/
set_option linter.unusedVariables false
set_option linter.unusedSimpArgs false
namespace Go.Proofs.YthdfgepnadgkjaaGreatDoor
open Go.RowKit Go.Shelf
attribute [local go_sem] Oper.semAt_some
namespace Tg
open Oc

/-- A block lies as it lay. -/
def Keep (b : Nat) (A B : World) : Prop := B.heap[b]? = A.heap[b]?
theorem Keep.refl (b : Nat) (A : World) : Keep b A A := rfl
theorem Keep.trans {b : Nat} {A B C : World} (h : Keep b A B) (k : Keep b B C) : Keep b A C := Eq.trans k h
theorem Keep.cell {b : Nat} {A B : World} (h : Keep b A B) (i : Nat) : B.cell? ⟨b, i, none⟩ = A.cell? ⟨b, i, none⟩ := World.cell?_of_block (w := A) (w' := B) (a := ⟨b, i, none⟩) h
theorem Keep.below {b n : Nat} {A B : World} (h : Below n A B) (hb : b < n) : Keep b A B := h.block b hb
theorem keepK_t {b : Nat} {A B C : World} (h : Keep b A B) (k : Keep b B C) : Keep b A C := h.trans k
theorem keepK_b {b : Nat} {w : World} (hb : b < w.heap.size) (W : World) (l : Nat) (o o' : Obj) (hl : w.heap.size ≤ l) (h : W.heap[l]? = some o) (hc : o.isCells = false) (hw : o.isWalk = false) : Keep b W (W.putObj l o') :=
  (belowK_b (w := w) (Nat.le_refl _) W l o o' hl h hc hw).block b hb

def encS (x : Sg) : Array Value := #[.int .i64 (x.at_ : Int), .string (str x.z)]

theorem grown_of_below {w w' : World} (h : Below w.heap.size w w') : w.grownBy w' none := ⟨h.os, h.tape, h.output, h.size, fun k hk _ => h.block k hk⟩

theorem ext_list (s : ByteArray) (a b : Nat) : (s.extract a b).data.toList = (s.data.toList.drop a).take (b - a) := by
  rw [ByteArray.data_extract, Array.toList_extract, List.extract_eq_take_drop]
theorem ext_rest (s : ByteArray) (k : Nat) : ((s.extract k s.size).extract 0 3).data.toList = (s.data.toList.drop k).take 3 := by
  rw [ext_list, ext_list, List.drop_zero, Nat.sub_zero, List.take_of_length_le (l := s.data.toList.drop k) (by rw [List.length_drop, size_list]; omega)]
theorem drop_cons (s : ByteArray) (k : Nat) (h : k < s.size) : s.data.toList.drop k = s.data.toList.getD k 0 :: s.data.toList.drop (k + 1) := by
  have hl : k < s.data.toList.length := by rw [size_list]; exact h
  rw [List.drop_eq_getElem_cons hl, List.getD_eq_getElem?_getD, List.getElem?_eq_getElem hl]; rfl
theorem cell_lt {w : World} {b i : Nat} {v : Value} (h : w.cell? ⟨b, i, none⟩ = some v) : b < w.heap.size := by
  rcases Nat.lt_or_ge b w.heap.size with h' | h'
  · exact h'
  · simp [World.cell?, Array.getElem?_eq_none h'] at h
/-- One sign more. -/
theorem sg_next3 (s : ByteArray) (k : Nat) (h : trip (s.data.toList.drop k) = true) : ∃ x : Sg, sg k (s.data.toList.drop k) = x :: sg (k + 3) (s.data.toList.drop (k + 3)) ∧ encS x = #[.int .i64 (k : Int), .string (s.extract k (k + 3))] := by
  refine ⟨_, by rw [sg_trip k _ h, List.drop_drop], ?_⟩
  unfold encS
  dsimp only
  rw [show str (List.take 3 (s.data.toList.drop k)) = s.extract k (k + 3) from eq_list (by rw [str_list, ext_list]; congr 1; omega)]
theorem sg_next1 (s : ByteArray) (k : Nat) (hk : k < s.size) (h : trip (s.data.toList.drop k) = false) : ∃ x : Sg, sg k (s.data.toList.drop k) = x :: sg (k + 1) (s.data.toList.drop (k + 1)) ∧ encS x = #[.int .i64 (k : Int), .string (s.extract k (k + 1))] := by
  rw [drop_cons s k hk] at h ⊢
  refine ⟨_, sg_one k _ _ h, ?_⟩
  unfold encS
  dsimp only
  rw [show str [s.data.toList.getD k 0] = s.extract k (k + 1) from eq_list (by rw [str_list, ext_list, drop_cons s k hk, Nat.add_sub_cancel_left]; rfl)]

end Tg
end Go.Proofs.YthdfgepnadgkjaaGreatDoor
