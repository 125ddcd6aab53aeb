/- Several texts as one. -/
import Derived.Test.YtmlpohbghobelaaGreatDoorMgM
import Derived.Test.YtmlpohbghobelaaGreatDoorMgD
import Derived.Laws.RangeAny
import Derived.Test.YtmlpohbghobelaaGreatDoorMgL
/-
  handle: the law's awake (written by mkhni.py)
-/
set_option linter.unusedVariables false
set_option linter.unusedSimpArgs false
set_option maxRecDepth 100000
namespace Go.Proofs.YtmlpohbghobelaaGreatDoor
open Go.RowKit Go.Shelf
namespace Hn
open Oc Tg _root_.Go.Proofs.YtmlpohbghobelaaGreatDoor.Fd _root_.Go.Proofs.YtmlpohbghobelaaGreatDoor.Ck _root_.Go.Proofs.YtmlpohbghobelaaGreatDoor.Ms

set_option maxHeartbeats 4000000 in
theorem awake_any (w : World) : Calls Tryz.prog 5 #[] w fun e w' => e = .returned (.bool true) ∧ Below w.heap.size w w' := by
  have HA : Hid (Calls _ _ _ _ _) := Answer_text w
  have HE : Hid (∀ W, Calls Tryz.prog 11 #[.agg #[.int .i64 4, .string ⟨#[]⟩, .string ⟨#[]⟩, .string ⟨#[]⟩, .int .i64 0, .int .i64 0], .agg #[.string ⟨#[71, 69, 84]⟩, .string ⟨#[47, 120]⟩, .int .i64 0, .int .i64 0, .slice none 0 0, .string ⟨#[]⟩, .slice none 0 0, .int .i64 0, .string ⟨#[]⟩, .int .i64 0, .string ⟨#[]⟩, .string ⟨#[]⟩, .bool false, .slice none 0 0, .int .i64 0], .pointer none] W _) := fun W => Answer_echo W
  go_enter Tryz.func5, Tryz.ntmps5
  go_wp2_with fail
  refine HA.out.mono ?_
  rintro e w2 ⟨a, c, rfl, ho, hb2⟩
  have HB2 : Hid (Below w.heap.size w w2) := hb2
  have HO2 : Hid (OwnF 34 w.heap.size (.slice a 1 c) [(nCT, [97, 47, 98])] w2) := ho
  have hb3 : Below w2.heap.size w2 (w2.alloc (.cells #[.int .i64 200, .string ⟨#[]⟩, .slice a 1 c, .string ⟨#[104, 105]⟩] 44)) := (Below.refl _ w2).alloc (Nat.le_refl _) _
  have HB3 : Hid (Below w.heap.size w (w2.alloc (.cells #[.int .i64 200, .string ⟨#[]⟩, .slice a 1 c, .string ⟨#[104, 105]⟩] 44))) := bel_tr hb2 hb3 hb2.size
  have HM3 : Hid (Blk 44 (w2.alloc (.cells #[.int .i64 200, .string ⟨#[]⟩, .slice a 1 c, .string ⟨#[104, 105]⟩] 44)) w2.heap.size [.int .i64 200, .string ⟨#[]⟩, .slice a 1 c, .string ⟨#[104, 105]⟩]) := (heap_alloc_new w2 _ : Blk _ _ _ _)
  obtain ⟨a', c', e', hcs⟩ := (OwnF.rd (ho.below hb3) : RdF _ _ _)
  injection e' with e1 e0 e2
  clear e0
  subst e1 e2
  rcases hcs with h | ⟨g, o, rfl, hlc, hcell⟩
  · cases h
  obtain ⟨p0, p1⟩ := hcell 0 (by simp)
  have q1 : (w2.alloc (.cells #[.int .i64 200, .string ⟨#[]⟩, .slice (some ⟨g, o, none⟩) 1 c, .string ⟨#[104, 105]⟩] 44)).cell? ⟨g, o + 1, none⟩ = some (.string ⟨#[97, 47, 98]⟩) := p1
  have m0 := HM3.out.cell 0 rfl
  have m2 := HM3.out.cell 2 rfl
  have m3 := HM3.out.cell 3 rfl
  have HZ : Hid (Calls _ _ _ _ _) := HE.out (w2.alloc (.cells #[.int .i64 200, .string ⟨#[]⟩, .slice (some ⟨g, o, none⟩) 1 c, .string ⟨#[104, 105]⟩] 44))
  clear p0 p1 ho hlc hb2 HA HE HO2 hcell hb3
  go_wp2_with fail
  refine HZ.out.mono ?_
  rintro e w4 ⟨a4, c4, rfl, ho4, hb4⟩
  have HB4 : Hid (Below w.heap.size w w4) := bel_tr HB3.out hb4 HB3.out.size
  have HM4 : Hid (Blk 44 w4 w2.heap.size [.int .i64 200, .string ⟨#[]⟩, .slice (some ⟨g, o, none⟩) 1 c, .string ⟨#[104, 105]⟩]) := HM3.out.below hb4
  have hs4 : w.heap.size ≤ w2.heap.size := HB2.out.size
  clear hb4 ho4 HZ m0 m2 m3 q1 HM3 HB3
  generalize hg0 : w2.heap.size = g0 at *
  have r0 := HM4.out.cell 0 rfl
  have r1 := HM4.out.cell 1 rfl
  have r2 := HM4.out.cell 2 rfl
  have r3 := HM4.out.cell 3 rfl
  have rf := HM4.out.free
  have hD4 := HM4.out.lt
  go_wp2
  have h9 := set4_but w4 g0 (.int .i64 200) (.string ⟨#[]⟩) (.slice a4 1 c4) (.string ⟨#[71, 69, 84, 32, 47, 120, 10, 10]⟩)
  refine bodyPost_ret (v := .bool true) (by simp [results, Tryz.results5, go_sem]) rfl ⟨rfl, HB4.out.trans (h9.below (by omega) (fun x hx => by simp at hx; omega))⟩

end Hn
end Go.Proofs.YtmlpohbghobelaaGreatDoor

/-
  handle: a reference, plainly.
-/
set_option linter.unusedVariables false
set_option linter.unusedSimpArgs false
namespace Go.Proofs.YtmlpohbghobelaaGreatDoor
namespace Hn
open Oc

abbrev PrA := List UInt8 × List UInt8 × Bool
def nmB (u : UInt8) : Bool := lettI (u.toNat : Int) || (digI (u.toNat : Int) || decide ((u.toNat : Int) = 95))
def isNm : List UInt8 → Bool
  | [] => false
  | u :: t => lettI (u.toNat : Int) && t.all nmB
/-- A name, from a place on. -/
def nmF (k : Nat) (l : List UInt8) : Bool := if k = 0 then isNm l else (l.drop k).all nmB
theorem nmF_end {l : List UInt8} (h : l ≠ []) : nmF l.length l = true := by
  unfold nmF
  rw [if_neg (fun e => h (List.length_eq_zero_iff.1 e)), List.drop_length]
  rfl
theorem nmF_step (l : List UInt8) (k : Nat) (hk : k < l.length) : nmF k l = ((lettI ((l.getD k 0).toNat : Int) || (decide (k ≠ 0) && (decide (((l.getD k 0).toNat : Int) = 95) || digI ((l.getD k 0).toNat : Int)))) && nmF (k + 1) l) := by
  have hd : l.drop k = l.getD k 0 :: l.drop (k + 1) := by
    rw [List.drop_eq_getElem_cons hk, List.getD_eq_getElem?_getD, List.getElem?_eq_getElem hk]
    rfl
  by_cases h0 : k = 0
  · subst h0
    cases l with
    | nil => cases hk
    | cons u t =>
      show (lettI (u.toNat : Int) && t.all nmB) = ((lettI (u.toNat : Int) || _) && nmF 1 (u :: t))
      have : nmF 1 (u :: t) = t.all nmB := rfl
      rw [this]
      simp
  · have e1 : nmF k l = (l.drop k).all nmB := if_neg h0
    have e2 : nmF (k + 1) l = (l.drop (k + 1)).all nmB := if_neg (by omega)
    rw [e1, e2, hd, List.all_cons]
    generalize l.getD k 0 = u
    have e3 : nmB u = (lettI (u.toNat : Int) || (decide (k ≠ 0) && (decide ((u.toNat : Int) = 95) || digI (u.toNat : Int)))) := by
      unfold nmB
      rw [decide_eq_true h0, Bool.true_and, Bool.or_comm (digI _)]
    rw [e3]

/-- The raw value of the first of that name. -/
def valA (ps : List PrA) (n : List UInt8) : List UInt8 := match ps.find? (fun p => decide (p.1 = n)) with | some p => p.2.1 | none => []
/-- A reference gone through: outside of a name, or in one that is there so far. -/
def refG (ps : List PrA) : Option (List UInt8) → List UInt8 → Option (List UInt8)
  | none, [] => some []
  | some _, [] => none
  | none, u :: t => if u = 125 then none else if u = 123 then refG ps (some []) t else (refG ps none t).map (u :: ·)
  | some n, u :: t => if u = 125 then (if isNm n = true then (refG ps none t).map (valA ps n ++ ·) else none) else refG ps (some (n ++ [u])) t
def refR (ps : List PrA) (l : List UInt8) : List UInt8 × Int := if l = [] ∨ isFld l = false ∨ trim l ≠ l then ([], 180) else match refG ps none l with | some x => (x, 0) | none => ([], 180)

theorem refG_high (ps : List PrA) : ∀ (a t : List UInt8), (∀ u ∈ a, 128 ≤ u.toNat) → refG ps none (a ++ t) = (refG ps none t).map (a ++ ·)
  | [], t, _ => by simp
  | u :: a, t, h => by
    have h1 := h u (by simp)
    have n1 : u ≠ 125 := fun e => by rw [e] at h1; revert h1; decide
    have n2 : u ≠ 123 := fun e => by rw [e] at h1; revert h1; decide
    show (if u = 125 then none else if u = 123 then refG ps (some []) (a ++ t) else (refG ps none (a ++ t)).map (u :: ·)) = _
    rw [if_neg n1, if_neg n2, refG_high ps a t (fun x hx => h x (List.mem_cons_of_mem _ hx)), Option.map_map]
    rfl
theorem refG_highN (ps : List PrA) : ∀ (a n t : List UInt8), (∀ u ∈ a, 128 ≤ u.toNat) → refG ps (some n) (a ++ t) = refG ps (some (n ++ a)) t
  | [], n, t, _ => by simp
  | u :: a, n, t, h => by
    have h1 := h u (by simp)
    have n1 : u ≠ 125 := fun e => by rw [e] at h1; revert h1; decide
    show (if u = 125 then _ else refG ps (some (n ++ [u])) (a ++ t)) = _
    rw [if_neg n1, refG_highN ps a (n ++ [u]) t (fun x hx => h x (List.mem_cons_of_mem _ hx)), List.append_assoc]
    rfl
/-- How the program stands: in a name or not; what is written; the piece that is open; what is left. -/
def stR (ps : List PrA) (named : Bool) (acc piece rest : List UInt8) : Option (List UInt8) := if named = true then (refG ps (some piece) rest).map (acc ++ ·) else (refG ps none rest).map (fun x => acc ++ (piece ++ x))
theorem stR_high (ps : List PrA) (named : Bool) (acc piece a t : List UInt8) (h : ∀ u ∈ a, 128 ≤ u.toNat) : stR ps named acc piece (a ++ t) = stR ps named acc (piece ++ a) t := by
  unfold stR
  cases named with
  | true => rw [if_pos rfl, if_pos rfl, refG_highN ps a piece t h]
  | false =>
    rw [if_neg (by simp), if_neg (by simp), refG_high ps a t h, Option.map_map]
    congr 1
    funext x
    simp
theorem stR_open (ps : List PrA) (acc piece t : List UInt8) : stR ps false acc piece (123 :: t) = stR ps true (acc ++ piece) [] t := by
  show (refG ps none (123 :: t)).map _ = (refG ps (some []) t).map _
  have : refG ps none (123 :: t) = refG ps (some []) t := rfl
  rw [this]
  have e : ∀ z : Option (List UInt8), z = refG ps (some []) t → z.map (fun x => acc ++ (piece ++ x)) = z.map ((acc ++ piece) ++ ·) := fun z _ => by congr 1; funext x; simp
  -- what a name gives is not behind a piece: both write the same ahead of it
  exact e _ rfl
theorem stR_shut (ps : List PrA) (acc piece t : List UInt8) (h : isNm piece = true) : stR ps true acc piece (125 :: t) = stR ps false (acc ++ valA ps piece) [] t := by
  show (refG ps (some piece) (125 :: t)).map _ = (refG ps none t).map _
  have : refG ps (some piece) (125 :: t) = (refG ps none t).map (valA ps piece ++ ·) := by
    show (if (125 : UInt8) = 125 then (if isNm piece = true then _ else none) else _) = _
    rw [if_pos rfl, if_pos h]
  rw [this, Option.map_map]
  congr 1
  funext x
  simp
theorem stR_bad (ps : List PrA) (acc piece t : List UInt8) (h : isNm piece = false) : stR ps true acc piece (125 :: t) = none := by
  show (refG ps (some piece) (125 :: t)).map _ = none
  have : refG ps (some piece) (125 :: t) = none := by
    show (if (125 : UInt8) = 125 then (if isNm piece = true then _ else none) else _) = _
    rw [if_pos rfl, if_neg (by rw [h]; simp)]
  rw [this]
  rfl
theorem stR_bad2 (ps : List PrA) (acc piece t : List UInt8) : stR ps false acc piece (125 :: t) = none := rfl
theorem stR_on (ps : List PrA) (named : Bool) (acc piece t : List UInt8) (u : UInt8) (h1 : u ≠ 125) (h2 : named = false → u ≠ 123) : stR ps named acc piece (u :: t) = stR ps named acc (piece ++ [u]) t := by
  cases named with
  | true =>
    show (refG ps (some piece) (u :: t)).map _ = (refG ps (some (piece ++ [u])) t).map _
    have : refG ps (some piece) (u :: t) = refG ps (some (piece ++ [u])) t := by
      show (if u = 125 then _ else _) = _
      rw [if_neg h1]
    rw [this]
  | false =>
    show (refG ps none (u :: t)).map _ = (refG ps none t).map _
    have : refG ps none (u :: t) = (refG ps none t).map (u :: ·) := by
      show (if u = 125 then none else if u = 123 then refG ps (some []) t else (refG ps none t).map (u :: ·)) = _
      rw [if_neg h1, if_neg (h2 rfl)]
    rw [this, Option.map_map]
    congr 1
    funext x
    simp
theorem stR_endN (ps : List PrA) (acc piece : List UInt8) : stR ps true acc piece [] = none := rfl
theorem stR_end (ps : List PrA) (acc piece : List UInt8) : stR ps false acc piece [] = some (acc ++ piece) := by
  show some (acc ++ (piece ++ [])) = _
  rw [List.append_nil]
/-- The document: outside of a name. -/
theorem refG_one (ps : List PrA) (out t : List UInt8) (u : UInt8) (h1 : u ≠ 125) (h2 : u ≠ 123) : (refG ps none (u :: t)).map (out ++ ·) = (refG ps none t).map ((out ++ [u]) ++ ·) := by
  have : refG ps none (u :: t) = (refG ps none t).map (u :: ·) := by
    show (if u = 125 then none else if u = 123 then refG ps (some []) t else (refG ps none t).map (u :: ·)) = _
    rw [if_neg h1, if_neg h2]
  rw [this, Option.map_map]
  congr 1
  funext x
  simp
theorem refG_in (ps : List PrA) (n t : List UInt8) (u : UInt8) (h1 : u ≠ 125) : refG ps (some n) (u :: t) = refG ps (some (n ++ [u])) t := by
  show (if u = 125 then _ else _) = _
  rw [if_neg h1]
theorem refG_out (ps : List PrA) (n t : List UInt8) (h : isNm n = true) : refG ps (some n) (125 :: t) = (refG ps none t).map (valA ps n ++ ·) := by
  show (if (125 : UInt8) = 125 then (if isNm n = true then _ else none) else _) = _
  rw [if_pos rfl, if_pos h]
theorem refG_no (ps : List PrA) (n t : List UInt8) (h : isNm n = false) : refG ps (some n) (125 :: t) = none := by
  show (if (125 : UInt8) = 125 then (if isNm n = true then _ else none) else _) = _
  rw [if_pos rfl, if_neg (by rw [h]; simp)]

/-- A text's bytes from a place to another. -/
def sub (l : List UInt8) (a b : Nat) : List UInt8 := (l.take b).drop a
theorem sub_self (l : List UInt8) (a : Nat) : sub l a a = [] := by
  unfold sub
  rw [List.drop_eq_nil_iff, List.length_take]
  omega
theorem sub_len (l : List UInt8) (a b : Nat) (hb : b ≤ l.length) : (sub l a b).length = b - a := by
  unfold sub
  rw [List.length_drop, List.length_take]
  omega
theorem sub_on (l : List UInt8) (a b w : Nat) (hab : a ≤ b) (hb : b ≤ l.length) : sub l a (b + w) = sub l a b ++ (l.drop b).take w := by
  unfold sub
  rw [List.take_add, List.drop_append_of_le_length (by rw [List.length_take]; omega)]
theorem sub_one (l : List UInt8) (a b : Nat) (hab : a ≤ b) (hb : b < l.length) : sub l a (b + 1) = sub l a b ++ [l.getD b 0] := by
  rw [sub_on l a b 1 hab (by omega), List.drop_eq_getElem_cons hb, List.getD_eq_getElem?_getD, List.getElem?_eq_getElem hb]
  rfl
theorem drop_one (l : List UInt8) (b : Nat) (hb : b < l.length) : l.drop b = l.getD b 0 :: l.drop (b + 1) := by
  rw [List.drop_eq_getElem_cons hb, List.getD_eq_getElem?_getD, List.getElem?_eq_getElem hb]
  rfl
theorem drop_w (l : List UInt8) (b w : Nat) : l.drop b = (l.drop b).take w ++ l.drop (b + w) := by
  rw [← List.drop_drop, List.take_append_drop]
theorem ext_sub (s : ByteArray) (a b : Nat) : (s.extract a b).data.toList = sub s.data.toList a b := by
  rw [Lib.extract_data]
  unfold sub
  rw [List.drop_take]

/-! A rune's bytes. -/
theorem get_list (s : ByteArray) (k : Nat) : s.get! k = s.data.toList.getD k 0 := by
  show s.data[k]! = _
  rw [List.getD_eq_getElem?_getD, Array.getElem?_toList, getElem!_def]
  cases s.data[k]? <;> rfl
theorem dec_wide (s : ByteArray) (pos : Nat) (h : pos < s.size) (ha : 128 ≤ (s.data.toList.getD pos 0).toNat) : pos + (Utf8.decode s pos).2 ≤ s.size ∧ ∀ k, k < (Utf8.decode s pos).2 → 128 ≤ (s.data.toList.getD (pos + k) 0).toNat := by
  have one : ∀ x : Nat × Nat, x.2 = 1 → pos + x.2 ≤ s.size ∧ ∀ k, k < x.2 → 128 ≤ (s.data.toList.getD (pos + k) 0).toNat := by
    intro x hx
    refine ⟨by omega, fun k hk => ?_⟩
    obtain rfl : k = 0 := by omega
    exact ha
  have cont : ∀ j, (decide (pos + j < s.size) && (s.get! (pos + j)).toNat / 64 == 2) = true → pos + j < s.size ∧ 128 ≤ (s.data.toList.getD (pos + j) 0).toNat := by
    intro j hj
    simp only [Bool.and_eq_true, decide_eq_true_eq, beq_iff_eq] at hj
    rw [get_list] at hj
    exact ⟨hj.1, by omega⟩
  unfold Utf8.decode
  dsimp only
  split
  · rename_i h1
    rw [get_list, Nat.add_zero] at h1
    omega
  split
  · rename_i h2
    simp only [Bool.and_eq_true] at h2
    obtain ⟨c1, d1⟩ := cont 1 (by simpa [Bool.and_eq_true] using h2.2)
    split
    · refine ⟨by dsimp only; omega, fun k hk => ?_⟩
      dsimp only at hk
      rcases (show k = 0 ∨ k = 1 by omega) with rfl | rfl
      · exact ha
      · exact d1
    · exact one _ rfl
  split
  · rename_i h2
    simp only [Bool.and_eq_true] at h2
    obtain ⟨c1, d1⟩ := cont 1 (by simpa [Bool.and_eq_true] using h2.1.2)
    obtain ⟨c2, d2⟩ := cont 2 (by simpa [Bool.and_eq_true] using h2.2)
    split
    · refine ⟨by dsimp only; omega, fun k hk => ?_⟩
      dsimp only at hk
      rcases (show k = 0 ∨ k = 1 ∨ k = 2 by omega) with rfl | rfl | rfl
      · exact ha
      · exact d1
      · exact d2
    · exact one _ rfl
  split
  · rename_i h2
    simp only [Bool.and_eq_true] at h2
    obtain ⟨c1, d1⟩ := cont 1 (by simpa [Bool.and_eq_true] using h2.1.1.2)
    obtain ⟨c2, d2⟩ := cont 2 (by simpa [Bool.and_eq_true] using h2.1.2)
    obtain ⟨c3, d3⟩ := cont 3 (by simpa [Bool.and_eq_true] using h2.2)
    split
    · refine ⟨by dsimp only; omega, fun k hk => ?_⟩
      dsimp only at hk
      rcases (show k = 0 ∨ k = 1 ∨ k = 2 ∨ k = 3 by omega) with rfl | rfl | rfl | rfl
      · exact ha
      · exact d1
      · exact d2
      · exact d3
    · exact one _ rfl
  · exact one _ rfl
theorem dec_take (s : ByteArray) (pos : Nat) (h : pos < s.size) (ha : 128 ≤ (s.data.toList.getD pos 0).toNat) : ∀ u ∈ (s.data.toList.drop pos).take (Utf8.decode s pos).2, 128 ≤ u.toNat := by
  obtain ⟨h1, h2⟩ := dec_wide s pos h ha
  intro u hu
  obtain ⟨j, hj, rfl⟩ := List.getElem_of_mem hu
  rw [List.length_take, List.length_drop] at hj
  have := h2 j (by omega)
  rw [List.getElem_take, List.getElem_drop]
  rw [List.getD_eq_getElem?_getD, List.getElem?_eq_getElem (by omega)] at this
  exact this

end Hn
end Go.Proofs.YtmlpohbghobelaaGreatDoor

/-
  handle: which handlers are right, plainly (written by mkhk.py).
-/
set_option linter.unusedVariables false
set_option linter.unusedSimpArgs false
set_option maxRecDepth 100000
namespace Go.Proofs.YtmlpohbghobelaaGreatDoor
open Go.RowKit Go.Shelf
namespace Hn
open Oc Tg _root_.Go.Proofs.YtmlpohbghobelaaGreatDoor.Fd _root_.Go.Proofs.YtmlpohbghobelaaGreatDoor.Ck _root_.Go.Proofs.YtmlpohbghobelaaGreatDoor.Ms

def E0 (s : ByteArray) : Bool := s.toList.isEmpty
def statB (s : Int) : Bool := decide (200 ≤ s) && decide (s ≤ 599)
def bareB (s : Int) : Bool := (s == 204) || (s == 304)
def movB (s : Int) : Bool := (s == 301) || ((s == 302) || ((s == 303) || ((s == 307) || (s == 308))))
def medB (s : ByteArray) : Bool := !E0 s && isValue s.data.toList
def qB (k st n : Int) (nm tx md : ByteArray) : Bool :=
  if k = 1 then E0 nm && (n == 0)
  else if k = 2 then E0 nm && (E0 tx && (E0 md && (n == 0)))
  else if k = 3 then E0 nm && (E0 md && (n == 0))
  else if k = 6 then E0 tx && (E0 md && (st == 0))
  else if k = 7 then E0 nm && (E0 tx && (E0 md && (st == 0)))
  else if k = 8 then E0 tx && (E0 md && ((st == 0) && (n == 0)))
  else E0 nm && (E0 tx && (E0 md && ((st == 0) && (n == 0))))
def rB (k st n : Int) (nm tx md : ByteArray) : Bool :=
  if k = 1 then statB st && (!bareB st && medB md)
  else if k = 2 then statB st
  else if k = 3 then movB st && ((refR [] tx.data.toList).2 == 0)
  else if k = 6 then (E0 nm || isNm nm.data.toList) && ((n == 0) || (n == 1))
  else if k = 7 then decide (1 ≤ n) && decide (n ≤ 1000)
  else if k = 8 then isTok nm.data.toList
  else if k = 4 then true
  else if k = 5 then true
  else if k = 9 then true
  else false
def chkB (k st n : Int) (nm tx md : ByteArray) : Bool := qB k st n nm tx md && rB k st n nm tx md
def chkI (k st n : Int) (nm tx md : ByteArray) : Int := if chkB k st n nm tx md = true then 0 else 180
theorem emp_l (s : ByteArray) : ((⟨#[]⟩ : ByteArray).toList == s.toList) = E0 s := by
  unfold E0
  have : (⟨#[]⟩ : ByteArray).toList = [] := by rw [ByteArray.toList_eq]
  rw [this]
  cases s.toList <;> rfl
theorem chk_out {k : Int} (h : k < 1 ∨ 9 < k) (st n : Int) (nm tx md : ByteArray) : chkB k st n nm tx md = false := by
  unfold chkB rB
  rw [if_neg (by omega), if_neg (by omega), if_neg (by omega), if_neg (by omega), if_neg (by omega), if_neg (by omega), if_neg (by omega), if_neg (by omega), if_neg (by omega), Bool.and_false]

end Hn
end Go.Proofs.YtmlpohbghobelaaGreatDoor

/-
  handle: isName, the document's IsName.
-/
set_option linter.unusedVariables false
set_option linter.unusedSimpArgs false
set_option maxRecDepth 100000
namespace Go.Proofs.YtmlpohbghobelaaGreatDoor
open Go.RowKit Go.Shelf
namespace Hn
open Oc

set_option maxHeartbeats 400000 in
theorem isDigit_any (c : Int) (w : World) :
    Calls Tryz.prog 105 #[.int .i32 c] w fun e w' => e = .returned (.bool (digI c)) ∧ w' = w := by
  by_cases a : 48 ≤ c
  · by_cases b : c ≤ 57
    · go_enter Tryz.func105, Tryz.ntmps105
      go_wp2
      go_ret
      exact ⟨ret_bool (digI_t ⟨a, b⟩).symm, rfl⟩
    · go_enter Tryz.func105, Tryz.ntmps105
      go_wp2
      go_ret
      exact ⟨ret_bool (digI_f (by omega)).symm, rfl⟩
  · go_enter Tryz.func105, Tryz.ntmps105
    go_wp2
    go_ret
    exact ⟨ret_bool (digI_f (by omega)).symm, rfl⟩

set_option maxHeartbeats 400000 in
theorem isLetter_any (c : Int) (w : World) :
    Calls Tryz.prog 104 #[.int .i32 c] w fun e w' => e = .returned (.bool (lettI c)) ∧ w' = w := by
  by_cases a : 97 ≤ c
  · by_cases b : c ≤ 122
    · go_enter Tryz.func104, Tryz.ntmps104
      go_wp2
      go_ret
      exact ⟨ret_bool (lettI_t (by omega)).symm, rfl⟩
    · have a2 : 65 ≤ c := by omega
      have b2 : ¬ c ≤ 90 := by omega
      go_enter Tryz.func104, Tryz.ntmps104
      go_wp2
      go_ret
      exact ⟨ret_bool (lettI_f (by omega)).symm, rfl⟩
  · by_cases a2 : 65 ≤ c
    · by_cases b2 : c ≤ 90
      · go_enter Tryz.func104, Tryz.ntmps104
        go_wp2
        go_ret
        exact ⟨ret_bool (lettI_t (by omega)).symm, rfl⟩
      · go_enter Tryz.func104, Tryz.ntmps104
        go_wp2
        go_ret
        exact ⟨ret_bool (lettI_f (by omega)).symm, rfl⟩
    · go_enter Tryz.func104, Tryz.ntmps104
      go_wp2
      go_ret
      exact ⟨ret_bool (lettI_f (by omega)).symm, rfl⟩

/-- What next gives of a text: its place's rune, as far as names go. -/
theorem rune_at (s : ByteArray) (pos : Nat) (hp : pos < s.size) : ∃ (c w : Nat), Utf8.decode s pos = (c, w) ∧ 1 ≤ w ∧ c ≤ 2147483647 ∧ (((s.data.toList.getD pos 0).toNat < 128 ∧ c = (s.data.toList.getD pos 0).toNat ∧ w = 1) ∨ (128 ≤ (s.data.toList.getD pos 0).toNat ∧ 128 ≤ c)) := by
  have hg : (s[pos]'hp) = s.data.toList.getD pos 0 := (at_lt s pos hp).symm
  by_cases ha : (s.data.toList.getD pos 0).toNat < 128
  · have h := decode_ascii s pos hp (by rw [hg]; exact ha)
    rw [hg] at h
    exact ⟨_, _, h, Nat.le_refl _, by omega, .inl ⟨ha, rfl, rfl⟩⟩
  · have h := decode_high s pos hp (by rw [hg]; omega)
    exact ⟨_, _, rfl, h.2, decode_le s pos, .inr ⟨by omega, h.1⟩⟩

theorem lett_high {c : Int} (h : 128 ≤ c) : lettI c = false := lettI_f (by omega)
theorem dig_high {c : Int} (h : 128 ≤ c) : digI c = false := digI_f (by omega)

set_option maxHeartbeats 1000000 in
theorem isName_any (s : ByteArray) (hs : s.size ≤ maxLen) (w : World) :
    Calls Tryz.prog 64 #[.string s] w fun e w' => e = .returned (.bool (isNm s.data.toList)) ∧ Below w.heap.size w w' := by
  unfold maxLen at hs
  have HR0 : Hid (isNm s.data.toList = nmF 0 s.data.toList) := rfl
  have HBw : Hid (∀ p, Below w.heap.size w (w.iter s p)) := fun p => (Below.refl _ w).alloc (Nat.le_refl _) _
  have HE : Hid (s.data.toList ≠ [] → nmF s.size s.data.toList = true) := fun h => by rw [← size_list]; exact nmF_end h
  have HS : Hid (∀ k, k < s.size → nmF k s.data.toList = ((lettI ((s.data.toList.getD k 0).toNat : Int) || (decide (k ≠ 0) && (decide (((s.data.toList.getD k 0).toNat : Int) = 95) || digI ((s.data.toList.getD k 0).toNat : Int)))) && nmF (k + 1) s.data.toList)) := fun k hk => nmF_step _ k (by rw [size_list]; exact hk)
  have HL : Hid (∀ c W, Calls Tryz.prog 104 #[.int .i32 c] W fun e w' => e = .returned (.bool (lettI c)) ∧ w' = W) := fun c W => isLetter_any c W
  have HD : Hid (∀ c W, Calls Tryz.prog 105 #[.int .i32 c] W fun e w' => e = .returned (.bool (digI c)) ∧ w' = W) := fun c W => isDigit_any c W
  have HN : Hid (s.size = 0 → s.data.toList = []) := fun h => List.length_eq_zero_iff.1 ((size_list s).trans h)
  generalize isNm s.data.toList = R at *
  go_enter Tryz.func64, Tryz.ntmps64
  go_wp2
  go_loopw [] (fun wr => ∃ pos : Nat, wr = w.iter s pos ∧ pos ≤ s.size ∧ Hid (R = nmF pos s.data.toList)) (fun wr => s.size - wr.iterPos w.heap.size)
  case atStart => exact ⟨0, rfl, Nat.zero_le _, HR0⟩
  case round =>
    obtain ⟨pos, rfl, hle, hR⟩ := hrel
    by_cases hp : pos < s.size
    · obtain ⟨c, wd, hdec, hw1, hc1, hcc⟩ := rune_at s pos hp
      have hnx : ∀ ty, (Instr.next (.pointer (some ⟨w.heap.size, 0, none⟩)) true ty).run Tryz.prog (w.iter s pos) = .ok (.tuple #[.bool true, .int .i64 pos, .int .i32 (c : Nat)]) (w.iter s (pos + wd)) := fun ty => by
        have h := run_next_any (P := Tryz.prog) w s pos ty hp
        rw [hdec] at h
        exact h
      have HSt : Hid (_ = _) := HS.out pos hp
      have HCc : Hid (((s.data.toList.getD pos 0).toNat < 128 ∧ c = (s.data.toList.getD pos 0).toNat ∧ wd = 1) ∨ (128 ≤ (s.data.toList.getD pos 0).toNat ∧ 128 ≤ c)) := hcc
      clear hdec hcc
      generalize (s.data.toList.getD pos 0).toNat = b at *
      by_cases hl : lettI (c : Int) = true
      · have HF : Hid (wd = 1 ∧ R = nmF (pos + 1) s.data.toList) := by
          rcases HCc.out with ⟨h1, rfl, h3⟩ | ⟨h1, h2⟩
          · refine ⟨h3, ?_⟩
            rw [hR.out, HSt.out, hl]
            simp
          · rw [lett_high (by omega)] at hl
            cases hl
        have hw : wd = 1 := HF.out.1
        subst hw
        go_wp2_with fail
        refine (HL.out _ _).mono ?_
        rintro e w1 ⟨rfl, hw1⟩
        rw [hw1, hl]
        clear hw1 hl
        go_wp2
        go_roundw
        case rel => exact ⟨pos + 1, rfl, by omega, HF.out.2⟩
        case measure => simp; omega
      · have hl : lettI (c : Int) = false := by simpa using hl
        by_cases h0 : pos = 0
        · have hz : ((pos : Int) == 0) = true := by simp [h0]
          have HF : Hid (R = false) := by
            show R = false
            rw [hR.out, HSt.out]
            rcases HCc.out with ⟨h1, rfl, h3⟩ | ⟨h1, h2⟩
            · rw [hl, h0]
              simp
            · rw [lett_high (by omega), h0]
              simp
          clear h0
          go_wp2_with fail
          refine (HL.out _ _).mono ?_
          rintro e w1 ⟨rfl, hw1⟩
          rw [hw1, hl]
          clear hw1 hl
          go_wp2
          go_ret
          exact ⟨ret_bool HF.out.symm, HBw.out _⟩
        · have hz : ((pos : Int) == 0) = false := by simp [h0]
          by_cases h5 : c = 95
          · have h5' : ((c : Int) == 95) = true := by simp [h5]
            have h5'' : ((c : Int) != 95) = false := by simp [h5]
            have HF : Hid (wd = 1 ∧ R = nmF (pos + 1) s.data.toList) := by
              rcases HCc.out with ⟨h1, rfl, h3⟩ | ⟨h1, h2⟩
              · refine ⟨h3, ?_⟩
                rw [hR.out, HSt.out, h5, decide_eq_true h0]
                simp
              · omega
            have hw : wd = 1 := HF.out.1
            subst hw
            clear h5
            go_wp2_with fail
            refine (HL.out _ _).mono ?_
            rintro e w1 ⟨rfl, hw1⟩
            rw [hw1, hl]
            clear hw1 hl
            go_wp2
            go_roundw
            case rel => exact ⟨pos + 1, rfl, by omega, HF.out.2⟩
            case measure => simp; omega
          · have h5' : ((c : Int) == 95) = false := by simp; omega
            have h5'' : ((c : Int) != 95) = true := by simp; omega
            by_cases hd : digI (c : Int) = true
            · have HF : Hid (wd = 1 ∧ R = nmF (pos + 1) s.data.toList) := by
                rcases HCc.out with ⟨h1, rfl, h3⟩ | ⟨h1, h2⟩
                · refine ⟨h3, ?_⟩
                  rw [hR.out, HSt.out, hd, decide_eq_true h0]
                  simp
                · rw [dig_high (by omega)] at hd
                  cases hd
              have hw : wd = 1 := HF.out.1
              subst hw
              go_wp2_with fail
              refine (HL.out _ _).mono ?_
              rintro e w1 ⟨rfl, hw1⟩
              rw [hw1, hl]
              clear hw1 hl
              go_wp2_with fail
              refine (HD.out _ _).mono ?_
              rintro e w1 ⟨rfl, hw1⟩
              rw [hw1, hd]
              clear hw1 hd
              go_wp2
              go_roundw
              case rel => exact ⟨pos + 1, rfl, by omega, HF.out.2⟩
              case measure => simp; omega
            · have hd : digI (c : Int) = false := by simpa using hd
              have HF : Hid (R = false) := by
                show R = false
                rw [hR.out, HSt.out]
                rcases HCc.out with ⟨h1, rfl, h3⟩ | ⟨h1, h2⟩
                · have h5b : ((c : Nat) : Int) ≠ 95 := by omega
                  rw [hl, hd, decide_eq_false h5b]
                  simp
                · have h5b : ((b : Nat) : Int) ≠ 95 := by omega
                  rw [lett_high (by omega), dig_high (by omega), decide_eq_false h5b]
                  simp
              go_wp2_with fail
              refine (HL.out _ _).mono ?_
              rintro e w1 ⟨rfl, hw1⟩
              rw [hw1, hl]
              clear hw1 hl
              go_wp2_with fail
              refine (HD.out _ _).mono ?_
              rintro e w1 ⟨rfl, hw1⟩
              rw [hw1, hd]
              clear hw1 hd
              go_wp2
              go_ret
              exact ⟨ret_bool HF.out.symm, HBw.out _⟩
    · have hnx : ∀ ty, (Instr.next (.pointer (some ⟨w.heap.size, 0, none⟩)) true ty).run Tryz.prog (w.iter s pos) = _ := fun ty => run_next_end w s pos ty hp
      obtain rfl : pos = s.size := by omega
      by_cases hz : s.size = 0
      · have he := empty_of hz
        have HF : Hid (R = false) := by
          show R = false
          rw [hR.out, HN.out hz]
          unfold nmF
          split
          · rfl
          · rename_i h
            exact absurd hz h
        clear hz
        go_wp2
        go_ret
        exact ⟨ret_bool HF.out.symm, HBw.out _⟩
      · have he := nonempty_of hz
        have HF : Hid (R = true) := by
          show R = true
          rw [hR.out]
          exact HE.out (list_ne hz)
        go_wp2
        go_ret
        exact ⟨ret_bool HF.out.symm, HBw.out _⟩

set_option maxHeartbeats 1000000 in
theorem rIsName_any (s : ByteArray) (hs : s.size ≤ maxLen) (w : World) :
    Calls Tryz.prog 17 #[.string s] w fun e w' => e = .returned (.bool (isNm s.data.toList)) ∧ w' = w := by
  unfold maxLen at hs
  have HR0 : Hid (isNm s.data.toList = nmF 0 s.data.toList) := rfl
  have HE : Hid (s.data.toList ≠ [] → nmF s.size s.data.toList = true) := fun h => by rw [← size_list]; exact nmF_end h
  have HS : Hid (∀ k, k < s.size → nmF k s.data.toList = ((lettI (byt s k) || (decide (k ≠ 0) && (decide (byt s k = 95) || digI (byt s k)))) && nmF (k + 1) s.data.toList)) := fun k hk => nmF_step _ k (by rw [size_list]; exact hk)
  have HN : Hid (s.size = 0 → s.data.toList = []) := fun h => List.length_eq_zero_iff.1 ((size_list s).trans h)
  generalize isNm s.data.toList = R at *
  go_enter Tryz.func17, Tryz.ntmps17
  go_wp2
  go_loop [3] (fun i => ∃ k : Nat, k ≤ s.size ∧ i = .int .i64 k ∧ Hid (R = nmF k s.data.toList)) (fun i => s.size - (intOf i).toNat)
  case atStart => exact ⟨0, Nat.zero_le _, rfl, HR0⟩
  case round =>
    obtain ⟨k, hk, rfl, hR⟩ := hrel
    by_cases hlt : k < s.size
    · have hby : ((s[k].toNat : Nat) : Int) = byt s k := byt_at s k hlt
      obtain ⟨b0, b1⟩ := byt_bd s k
      have HSt : Hid (_ = _) := HS.out k hlt
      have HL : Hid (∀ W, Calls Tryz.prog 48 #[.int .u8 (byt s k)] W fun e w' => e = .returned (.bool (lettI (byt s k))) ∧ w' = W) := fun W => IsLetter_any _ b0 b1 W
      have HD : Hid (∀ W, Calls Tryz.prog 49 #[.int .u8 (byt s k)] W fun e w' => e = .returned (.bool (digI (byt s k))) ∧ w' = W) := fun W => IsDigit_any _ b0 b1 W
      generalize byt s k = c at *
      by_cases hl : lettI c = true
      · have HF : Hid (R = nmF (k + 1) s.data.toList) := (by rw [hR.out, HSt.out, hl]; simp : R = _)
        go_wp2_with fail
        refine (HL.out _).mono ?_
        rintro e w1 ⟨rfl, hw1⟩
        rw [hw1, hl]
        clear hw1 hl
        go_wp2
        go_round
        case rel => exact ⟨k + 1, by omega, by go_num, HF⟩
        case measure => simp [intOf]; omega
      · have hl : lettI c = false := by simpa using hl
        by_cases h0 : k = 0
        · have hz : ((k : Int) == 0) = true := by simp [h0]
          have HF : Hid (R = false) := (by rw [hR.out, HSt.out, hl, h0]; simp : R = _)
          clear h0
          go_wp2_with fail
          refine (HL.out _).mono ?_
          rintro e w1 ⟨rfl, hw1⟩
          rw [hw1, hl]
          clear hw1 hl
          go_wp2
          go_ret
          exact ⟨ret_bool HF.out.symm, rfl⟩
        · have hz : ((k : Int) == 0) = false := by simp [h0]
          by_cases hd : digI c = true
          · have HF : Hid (R = nmF (k + 1) s.data.toList) := (by rw [hR.out, HSt.out, hd, decide_eq_true h0]; simp : R = _)
            go_wp2_with fail
            refine (HL.out _).mono ?_
            rintro e w1 ⟨rfl, hw1⟩
            rw [hw1, hl]
            clear hw1 hl
            go_wp2_with fail
            refine (HD.out _).mono ?_
            rintro e w1 ⟨rfl, hw1⟩
            rw [hw1, hd]
            clear hw1 hd
            go_wp2
            go_round
            case rel => exact ⟨k + 1, by omega, by go_num, HF⟩
            case measure => simp [intOf]; omega
          · have hd : digI c = false := by simpa using hd
            by_cases h5 : c = 95
            · have h5' : (c == 95) = true := by simp [h5]
              have h5'' : (c != 95) = false := by simp [h5]
              have HF : Hid (R = nmF (k + 1) s.data.toList) := (by rw [hR.out, HSt.out, decide_eq_true h5, decide_eq_true h0]; simp : R = _)
              clear h5
              go_wp2_with fail
              refine (HL.out _).mono ?_
              rintro e w1 ⟨rfl, hw1⟩
              rw [hw1, hl]
              clear hw1 hl
              go_wp2_with fail
              refine (HD.out _).mono ?_
              rintro e w1 ⟨rfl, hw1⟩
              rw [hw1, hd]
              clear hw1 hd
              go_wp2
              go_round
              case rel => exact ⟨k + 1, by omega, by go_num, HF⟩
              case measure => simp [intOf]; omega
            · have h5' : (c == 95) = false := by simp [h5]
              have h5'' : (c != 95) = true := by simp [h5]
              have HF : Hid (R = false) := (by rw [hR.out, HSt.out, hl, hd, decide_eq_false h5]; simp : R = _)
              go_wp2_with fail
              refine (HL.out _).mono ?_
              rintro e w1 ⟨rfl, hw1⟩
              rw [hw1, hl]
              clear hw1 hl
              go_wp2_with fail
              refine (HD.out _).mono ?_
              rintro e w1 ⟨rfl, hw1⟩
              rw [hw1, hd]
              clear hw1 hd
              go_wp2
              go_ret
              exact ⟨ret_bool HF.out.symm, rfl⟩
    · obtain rfl : k = s.size := by omega
      by_cases hz : s.size = 0
      · have he := empty_of hz
        have HF : Hid (R = false) := by
          show R = false
          rw [hR.out, HN.out hz]
          unfold nmF
          split
          · rfl
          · rename_i h
            exact absurd hz h
        clear hz
        go_wp2
        go_ret
        exact ⟨ret_bool HF.out.symm, rfl⟩
      · have he := nonempty_of hz
        have HF : Hid (R = true) := by
          show R = true
          rw [hR.out]
          exact HE.out (list_ne hz)
        go_wp2
        go_ret
        exact ⟨ret_bool HF.out.symm, rfl⟩

end Hn
end Go.Proofs.YtmlpohbghobelaaGreatDoor
