/- Several texts as one. -/
import Derived.Test.YtiabbppbmcnddaaGreatDoorMgF
import Derived.Deep.QuietTactic
import Derived.Maps.AppendAt
import Derived.Test.YtiabbppbmcnddaaGreatDoorMgC
/-
  Slices of fields: of the call's own, read.
-/
set_option linter.unusedVariables false
set_option linter.unusedSimpArgs false
namespace Go.Proofs.YtiabbppbmcnddaaGreatDoor
open Go.RowKit Go.Shelf
namespace Fd
open Oc Tg

abbrev Fl := List UInt8 × List UInt8
def encF1 (p : Fl) : List Value := [.string (str p.1), .string (str p.2)]
def encF (ps : List Fl) : List Value := ps.flatMap encF1
theorem encF_snoc (ps : List Fl) (p : Fl) : encF (ps ++ [p]) = encF ps ++ encF1 p := by unfold encF; rw [List.flatMap_append]; simp
theorem encF_len : ∀ ps : List Fl, (encF ps).length = ps.length * 2
  | [] => rfl
  | p :: ps => by
    have := encF_len ps
    unfold encF at *
    rw [List.flatMap_cons, List.length_append, this, List.length_cons]
    show 2 + _ = _
    omega
/-- A slice of parameters (of the type T) of the call's own. -/
def OwnF (T B : Nat) (v : Value) (ps : List Fl) (w : World) : Prop := w.ownsRow B T 2 v ps.length (encF ps)
theorem ownF_nil (T B : Nat) (w : World) : OwnF T B (.slice none 0 0) [] w := World.ownsRow_nil w B T 2
theorem ownF_empty {B : Nat} (T : Nat) (w : World) (hB : B ≤ w.heap.size) : OwnF T B (.slice (some ⟨w.heap.size, 0, none⟩) 0 0) [] (w.alloc (.cells #[] T)) :=
  ⟨by simp [encF], .inr ⟨w.heap.size, 0, #[], rfl, hB, heap_alloc_new w _, by simp, by decide, by simp, by simp [encF]⟩⟩
theorem OwnF.below {T B : Nat} {v : Value} {t : List Fl} {w w' : World} (h : OwnF T B v t w) (b : Below w.heap.size w w') : OwnF T B v t w' := by
  refine ⟨h.1, ?_⟩
  rcases h.2 with hn | ⟨g, cap, cur, rfl, hb, hg, rest⟩
  · exact .inl hn
  · refine .inr ⟨g, cap, cur, rfl, hb, ?_, rest⟩
    have hlt : g < w.heap.size := by
      rcases Nat.lt_or_ge g w.heap.size with h | h
      · exact h
      · simp [Array.getElem?_eq_none h] at hg
    rw [b.block g hlt]
    exact hg

/-- A parameter appended to a slice of the call's own. -/
theorem wp_appF {ops : Array Oper} {rest : List Oper} {o : Oper} {a : Act} {Q : Exit → Act → World → Prop} (T S : Nat) (hinfo : (Tryz.prog.info? T).map (fun i => (i.zero, i.size, i.bytes)) = some (some (.agg #[.string ⟨#[]⟩, .string ⟨#[]⟩]), 2, 32))
    (hund : Tryz.prog.underlying S = some (.slice T)) (hgd : o.guard = none) (s x : Operand)
    (ho : o.op = .call { callee := .builtin .append, args := #[s, x], argTypes := #[S, S] }) (B : Nat) (v : Value) (t : List Fl) (W : World) (p : Fl) (n1 n2 : ByteArray) (h1 : n1 = str p.1) (h2 : n2 = str p.2)
    (hs : a.eval s = v) (hown : OwnF T B v t W) (g : Nat) (hx : a.eval x = .slice (some ⟨g, 0, none⟩) 1 1) (hg : g = W.heap.size) (hlen : t.length + 1 ≤ 2147483648) (hB : B ≤ W.heap.size)
    (h : ∀ v' w', OwnF T B v' (t ++ [p]) w' → Below B W w' → wpList Tryz.prog ops Q rest (a.put o.dst v') w') : wpList Tryz.prog ops Q (o :: rest) a (W.alloc (.cells #[.string n1, .string n2] T)) := by
  subst h1 h2 hg
  obtain ⟨i0, hi, hz0, hz1, hz2⟩ := info_parts hinfo
  refine wpList_append_own _ hgd s x S ho B T i0 (.agg #[.string ⟨#[]⟩, .string ⟨#[]⟩]) 2 32 hund hi hz0 hz1 hz2 rfl (by decide) v t.length _ hs (World.ownsRow.alloc hown _) ⟨W.heap.size, 0, none⟩ 1 1 (encF1 p) hx rfl ?_ ?_ ?_ ?_ ?_ ?_
  · intro j u hj
    unfold encF1 at hj
    match j, hj with
    | 0, hj => simp at hj; subst hj; simp [Addr.add]
    | 1, hj => simp at hj; subst hj; simp [Addr.add]
  · intro u hu
    unfold encF1 at hu
    simp at hu
    rcases hu with rfl | rfl <;> rfl
  · unfold maxLen; omega
  · omega
  · simp; omega
  · intro v' w' h1 h2 _
    refine h v' w' ?_ (((Below.refl B W).alloc hB _).grown h2 (by simp; omega) (fun k hk => (World.ownsRow.lt hown k hk).1))
    unfold OwnF
    rw [encF_snoc, List.length_append]
    exact h1

theorem infoF : (Tryz.prog.info? 66).map (fun i => (i.zero, i.size, i.bytes)) = some (some (.agg #[.string ⟨#[]⟩, .string ⟨#[]⟩]), 2, 32) := by kernel_rfl

def nth (t : List Fl) (j : Nat) : Fl := t.getD j ([], [])
/-- A slice that reads as these parameters. -/
def RdF (v : Value) (t : List Fl) (w : World) : Prop :=
  ∃ a c, v = .slice a t.length c ∧ (t = [] ∨ ∃ g o, a = some ⟨g, o, none⟩ ∧ t.length ≤ c ∧ ∀ j, j < t.length → w.cell? ⟨g, o + j * 2, none⟩ = some (.string (str (nth t j).1)) ∧ w.cell? ⟨g, o + j * 2 + 1, none⟩ = some (.string (str (nth t j).2)))
theorem encF_at : ∀ (t : List Fl) (j : Nat), j < t.length → (encF t)[j * 2]? = some (.string (str (nth t j).1)) ∧ (encF t)[j * 2 + 1]? = some (.string (str (nth t j).2))
  | [], j, h => by simp at h
  | p :: t, 0, _ => ⟨rfl, rfl⟩
  | p :: t, j + 1, h => by
    have ih := encF_at t j (by simpa using h)
    have e : encF (p :: t) = [.string (str p.1), .string (str p.2)] ++ encF t := rfl
    rw [e]
    have n : nth (p :: t) (j + 1) = nth t j := by unfold nth; simp
    rw [n, show (j + 1) * 2 = j * 2 + 2 by omega, show j * 2 + 2 + 1 = (j * 2 + 1) + 2 by omega]
    exact ih
theorem OwnF.rd {T B : Nat} {v : Value} {t : List Fl} {w : World} (h : OwnF T B v t w) : RdF v t w := by
  have hall := h
  rcases h.2 with ⟨rfl, h0⟩ | ⟨g, cap, cur, rfl, _, hg, hn, _⟩
  · exact ⟨none, 0, by rw [h0], .inl (List.length_eq_zero_iff.1 h0)⟩
  · refine ⟨_, _, rfl, .inr ⟨g, 0, rfl, by omega, fun j hj => ?_⟩⟩
    obtain ⟨e0, e1⟩ := encF_at t j hj
    have ea : ∀ k, Addr.add ⟨g, 0, none⟩ k = ⟨g, 0 + k, none⟩ := fun k => by unfold Addr.add; split <;> simp_all
    have c0 := World.ownsRow.cells hall (g := g) rfl _ _ e0
    have c1 := World.ownsRow.cells hall (g := g) rfl _ _ e1
    rw [ea] at c0 c1
    exact ⟨c0, c1⟩
theorem RdF.below {v : Value} {t : List Fl} {w w' : World} (h : RdF v t w) (b : Below w.heap.size w w') : RdF v t w' := by
  obtain ⟨a, c, rfl, h⟩ := h
  refine ⟨a, c, rfl, ?_⟩
  rcases h with h | ⟨g, o, e, hc, hcell⟩
  · exact .inl h
  · refine .inr ⟨g, o, e, hc, fun j hj => ?_⟩
    obtain ⟨h1, h2⟩ := hcell j hj
    rw [b.cell (p := ⟨g, o + j * 2, none⟩) (World.block_lt_of_cell? w _ h1), b.cell (p := ⟨g, o + j * 2 + 1, none⟩) (World.block_lt_of_cell? w _ h2)]
    exact ⟨h1, h2⟩
theorem infoF2 : (Tryz.prog.info? 80).map (fun i => (i.zero, i.size, i.bytes)) = some (some (.agg #[.string ⟨#[]⟩, .string ⟨#[]⟩]), 2, 32) := by kernel_rfl
theorem drawn_again (w : World) (n m : Nat) : Hid (∃ k, w.drewN (n + m) = w.drewN k) := ⟨_, rfl⟩
theorem below_drew (w : World) (n : Nat) : Below w.heap.size w (w.drewN n) := below_drewN (Below.refl _ w) n
theorem RdF.drew {v : Value} {t : List Fl} {w : World} (h : RdF v t w) (n : Nat) : RdF v t (w.drewN n) := h.below (below_drew w n)
theorem take_nth (t : List Fl) (k : Nat) (h : k < t.length) : t.take (k + 1) = t.take k ++ [nth t k] := by
  unfold nth
  rw [List.take_add_one, List.getElem?_eq_getElem h, List.getD_eq_getElem?_getD, List.getElem?_eq_getElem h]; rfl
theorem rd_oneF (w : World) (T : Nat) (p : Fl) : RdF (.slice (some ⟨w.heap.size, 0, none⟩) 1 1) [p] (w.alloc (.cells #[.string (str p.1), .string (str p.2)] T)) := by
  refine ⟨_, _, rfl, .inr ⟨w.heap.size, 0, rfl, by simp, fun j hj => ?_⟩⟩
  obtain rfl : j = 0 := by simp at hj; omega
  exact ⟨by simp [nth], by simp [nth]⟩

end Fd
end Go.Proofs.YtiabbppbmcnddaaGreatDoor

/-
  Quoted texts, plainly: over lists of bytes.
-/
set_option linter.unusedVariables false
set_option linter.unusedSimpArgs false
namespace Go.Proofs.YtiabbppbmcnddaaGreatDoor
namespace Oc

def qByte (c : UInt8) : List UInt8 := if c = 34 ∨ c = 92 then [92, c] else [c]
def qBody (l : List UInt8) : List UInt8 := l.flatMap qByte
def qText (l : List UInt8) : List UInt8 := 34 :: (qBody l ++ [34])
def quoteR (l : List UInt8) : List UInt8 × Int := if isFld l then (qText l, 0) else ([], 13)

theorem qBody_snoc (l : List UInt8) (c : UInt8) : qBody (l ++ [c]) = qBody l ++ qByte c := by unfold qBody; rw [List.flatMap_append]; simp
theorem qByte_le (c : UInt8) : (qByte c).length ≤ 2 := by unfold qByte; split <;> simp
theorem qBody_le : ∀ l : List UInt8, (qBody l).length ≤ 2 * l.length
  | [] => by simp [qBody]
  | c :: l => by
    have := qBody_le l
    have h := qByte_le c
    unfold qBody at *
    rw [List.flatMap_cons, List.length_append, List.length_cons]
    omega

/-- The rest of a quoted text behind its first sign: how many bytes up to its end. -/
def qscan : Bool → List UInt8 → Option Nat
  | _, [] => none
  | e, c :: l => if fieldB c = false then none else if e then (qscan false l).map (· + 1) else if c = 92 then (qscan true l).map (· + 1) else if c = 34 then some 1 else (qscan false l).map (· + 1)
def plusOne : Option Nat → Nat
  | some k => k + 1
  | none => 0
def qlen : List UInt8 → Nat
  | [] => 0
  | c :: l => if c = 34 then plusOne (qscan false l) else 0
theorem qlen_cons (c : UInt8) (l : List UInt8) : qlen (c :: l) = if c = 34 then plusOne (qscan false l) else 0 := rfl
/-- What parts say. -/
def psay : Bool → List UInt8 → List UInt8
  | _, [] => []
  | e, c :: l => if c = 92 ∧ e = false then psay true l else c :: psay false l
/-- The document's way: what it says, and how many bytes. -/
def ru : Bool → List UInt8 → Option (List UInt8 × Nat)
  | _, [] => none
  | true, c :: l => if fieldB c then (ru false l).map (fun x => (c :: x.1, x.2 + 1)) else none
  | false, c :: l => if c = 34 then some ([], 1) else if c = 92 then (ru true l).map (fun x => (x.1, x.2 + 1)) else if fieldB c then (ru false l).map (fun x => (c :: x.1, x.2 + 1)) else none

theorem field34 : fieldB 34 = true := by decide
theorem field92 : fieldB 92 = true := by decide

theorem qscan_pos : ∀ (l : List UInt8) (e : Bool) (k : Nat), qscan e l = some k → 1 ≤ k ∧ k ≤ l.length
  | [], e, k, h => by simp [qscan] at h
  | c :: l, e, k, h => by
    unfold qscan at h
    split at h
    · cases h
    · split at h
      · obtain ⟨j, hj, rfl⟩ := Option.map_eq_some_iff.1 h
        have := qscan_pos l _ j hj
        simp; omega
      · split at h
        · obtain ⟨j, hj, rfl⟩ := Option.map_eq_some_iff.1 h
          have := qscan_pos l _ j hj
          simp; omega
        · split at h
          · cases h; simp
          · obtain ⟨j, hj, rfl⟩ := Option.map_eq_some_iff.1 h
            have := qscan_pos l _ j hj
            simp; omega

theorem ru_eq : ∀ (l : List UInt8) (e : Bool), ru e l = (qscan e l).map (fun k => (psay e (l.take (k - 1)), k))
  | [], e => by cases e <;> rfl
  | c :: l, true => by
    unfold ru qscan
    cases hf : fieldB c with
    | false => simp
    | true =>
      simp only [if_true, Bool.true_eq_false, if_false]
      rw [ru_eq l false]
      cases hq : qscan false l with
      | none => rfl
      | some k =>
        have hk := qscan_pos l false k hq
        simp only [Option.map_some, Option.some.injEq, Prod.mk.injEq, and_true]
        rw [show k + 1 - 1 = (k - 1) + 1 by omega, List.take_succ_cons, psay]
        simp
  | c :: l, false => by
    unfold ru qscan
    by_cases h34 : c = 34
    · subst h34
      simp [field34, psay]
    · rw [if_neg h34]
      by_cases h92 : c = 92
      · subst h92
        simp only [field92, if_true, Bool.true_eq_false, if_false, Bool.false_eq_true]
        rw [ru_eq l true]
        cases hq : qscan true l with
        | none => rfl
        | some k =>
          have hk := qscan_pos l true k hq
          simp only [Option.map_some, Option.some.injEq, Prod.mk.injEq, and_true]
          rw [show k + 1 - 1 = (k - 1) + 1 by omega, List.take_succ_cons, psay]
          simp
      · rw [if_neg h92]
        cases hf : fieldB c with
        | false => simp
        | true =>
          simp only [if_true, Bool.true_eq_false, if_false, Bool.false_eq_true, if_neg h92, if_neg h34]
          rw [ru_eq l false]
          cases hq : qscan false l with
          | none => rfl
          | some k =>
            have hk := qscan_pos l false k hq
            simp only [Option.map_some, Option.some.injEq, Prod.mk.injEq, and_true]
            rw [show k + 1 - 1 = (k - 1) + 1 by omega, List.take_succ_cons, psay]
            simp [h92]

/-- What Unquote answers. -/
def unqR (l : List UInt8) : List UInt8 × Int × Int :=
  if qlen l = 0 then ([], 0, 13) else (psay false ((l.drop 1).take (qlen l - 2)), (qlen l : Int), 0)

theorem qlen_bd (l : List UInt8) : qlen l ≤ l.length ∧ (qlen l ≠ 0 → 2 ≤ qlen l) := by
  cases l with
  | nil => simp [qlen]
  | cons c l =>
    by_cases hc : c = 34
    · cases hq : qscan false l with
      | none => simp [qlen, plusOne, hc, hq]
      | some k =>
        have := qscan_pos l false k hq
        have e : qlen (c :: l) = k + 1 := by simp [qlen, plusOne, hc, hq]
        rw [e]
        simp
        omega
    · simp [qlen, hc]
theorem psay_le : ∀ (l : List UInt8) (e : Bool), (psay e l).length ≤ l.length
  | [], e => by simp [psay]
  | c :: l, e => by
    unfold psay
    split
    · have := psay_le l true
      simp; omega
    · have := psay_le l false
      simp; omega

/-- By the document's way. -/
theorem unqR_none (l : List UInt8) (h : ru false l = none) : unqR (34 :: l) = ([], 0, 13) := by
  rw [ru_eq] at h
  cases hq : qscan false l with
  | none => simp [unqR, qlen, plusOne, hq]
  | some k => rw [hq] at h; cases h
theorem unqR_some (l : List UInt8) (x : List UInt8 × Nat) (h : ru false l = some x) : unqR (34 :: l) = (x.1, (x.2 : Int) + 1, 0) := by
  rw [ru_eq] at h
  cases hq : qscan false l with
  | none => rw [hq] at h; cases h
  | some k =>
    rw [hq] at h
    simp only [Option.map_some, Option.some.injEq] at h
    have e : qlen (34 :: l) = k + 1 := by simp [qlen, plusOne, hq]
    unfold unqR
    rw [e, if_neg (by omega), ← h]
    simp

/-- What was quoted is read back, whatever stands behind. -/
theorem ru_body : ∀ (l : List UInt8) (r : List UInt8), isFld l = true → ru false (qBody l ++ 34 :: r) = some (l, (qBody l).length + 1)
  | [], r, _ => by simp [qBody, ru]
  | c :: l, r, h => by
    have hc : fieldB c = true ∧ isFld l = true := by simpa [isFld] using h
    have ih := ru_body l r hc.2
    have e : qBody (c :: l) = qByte c ++ qBody l := by unfold qBody; rw [List.flatMap_cons]
    rw [e, List.append_assoc]
    unfold qByte
    by_cases hq : c = 34 ∨ c = 92
    · rw [if_pos hq]
      show ru false (92 :: c :: (qBody l ++ 34 :: r)) = _
      rw [ru, if_neg (by decide), if_pos rfl, ru, if_pos hc.1, ih]
      simp
    · rw [if_neg hq]
      show ru false (c :: (qBody l ++ 34 :: r)) = _
      rw [ru, if_neg (fun h => hq (.inl h)), if_neg (fun h => hq (.inr h)), if_pos hc.1, ih]
      simp
theorem unqR_back (l r : List UInt8) (h : isFld l = true) : unqR (qText l ++ r) = (l, ((qText l).length : Int), 0) := by
  have e : qText l ++ r = 34 :: (qBody l ++ 34 :: r) := by unfold qText; simp
  rw [e, unqR_some _ _ (ru_body l r h)]
  unfold qText
  simp

end Oc
end Go.Proofs.YtiabbppbmcnddaaGreatDoor

/-
  Lists, plainly: over lists of bytes.
-/
set_option linter.unusedVariables false
set_option linter.unusedSimpArgs false
namespace Go.Proofs.YtiabbppbmcnddaaGreatDoor
namespace Oc

/-- An element that is not empty comes ahead. -/
def addEl (x : List UInt8) (t : List (List UInt8)) : List (List UInt8) := if x = [] then t else x :: t
/-- The elements: what stands since the last comma, and what is left; by fuel. -/
def lgo : Nat → List UInt8 → List UInt8 → Option (List (List UInt8))
  | 0, _, _ => none
  | f + 1, cur, [] => some (addEl (trim cur) [])
  | f + 1, cur, c :: r =>
    if c = 44 then (lgo f [] r).map (addEl (trim cur))
    else if c = 34 then (if qlen (c :: r) = 0 then none else lgo f (cur ++ (c :: r).take (qlen (c :: r))) ((c :: r).drop (qlen (c :: r))))
    else lgo f (cur ++ [c]) r
def lst (cur r : List UInt8) : Option (List (List UInt8)) := lgo (r.length + 1) cur r

theorem lgo_fuel : ∀ (n : Nat) (r : List UInt8) (f : Nat) (cur : List UInt8), r.length ≤ n → r.length < f → lgo f cur r = lst cur r
  | n, [], 0, cur, _, h => by simp at h
  | n, [], f + 1, cur, _, _ => rfl
  | 0, c :: r, f, cur, h, _ => by simp at h
  | n + 1, c :: r, 0, cur, _, h => by simp at h
  | n + 1, c :: r, f + 1, cur, hn, hf => by
    have hl : r.length ≤ n := by simpa using hn
    have hf' : r.length < f := by simpa using hf
    unfold lst
    show lgo (f + 1) cur (c :: r) = lgo (r.length + 1 + 1) cur (c :: r)
    rw [lgo, lgo]
    by_cases h44 : c = 44
    · rw [if_pos h44, if_pos h44, lgo_fuel n r f [] hl hf', lgo_fuel n r (r.length + 1) [] hl (by omega)]
    · rw [if_neg h44, if_neg h44]
      by_cases h34 : c = 34
      · rw [if_pos h34, if_pos h34]
        by_cases hq : qlen (c :: r) = 0
        · rw [if_pos hq, if_pos hq]
        · rw [if_neg hq, if_neg hq]
          have hd : ((c :: r).drop (qlen (c :: r))).length ≤ r.length := by
            rw [List.length_drop]
            simp
            omega
          rw [lgo_fuel n _ f _ (by omega) (by omega), lgo_fuel n _ (r.length + 1) _ (by omega) (by omega)]
      · rw [if_neg h34, if_neg h34, lgo_fuel n r f _ hl hf', lgo_fuel n r (r.length + 1) _ hl (by omega)]

theorem lst_nil (cur : List UInt8) : lst cur [] = some (addEl (trim cur) []) := rfl
theorem lst_comma (cur r : List UInt8) (c : UInt8) (h : c = 44) : lst cur (c :: r) = (lst [] r).map (addEl (trim cur)) := by
  unfold lst
  show lgo (r.length + 1 + 1) cur (c :: r) = _
  rw [lgo, if_pos h]
theorem lst_bad (cur r : List UInt8) (c : UInt8) (h : c = 34) (hq : qlen (c :: r) = 0) : lst cur (c :: r) = none := by
  unfold lst
  show lgo (r.length + 1 + 1) cur (c :: r) = _
  rw [lgo, if_neg (by rw [h]; decide), if_pos h, if_pos hq]
theorem lst_quote (cur r : List UInt8) (c : UInt8) (h : c = 34) (hq : ¬ qlen (c :: r) = 0) : lst cur (c :: r) = lst (cur ++ (c :: r).take (qlen (c :: r))) ((c :: r).drop (qlen (c :: r))) := by
  have hd : ((c :: r).drop (qlen (c :: r))).length ≤ r.length := by
    rw [List.length_drop]
    simp
    omega
  rw [← lgo_fuel ((c :: r).drop (qlen (c :: r))).length _ (r.length + 1) _ (Nat.le_refl _) (by omega)]
  unfold lst
  show lgo (r.length + 1 + 1) cur (c :: r) = _
  rw [lgo, if_neg (by rw [h]; decide), if_pos h, if_neg hq]
theorem lst_on (cur r : List UInt8) (c : UInt8) (h : c ≠ 44) (h2 : c ≠ 34) : lst cur (c :: r) = lst (cur ++ [c]) r := by
  unfold lst
  show lgo (r.length + 1 + 1) cur (c :: r) = _
  rw [lgo, if_neg h, if_neg h2]

/-- What List answers. -/
def listR (l : List UInt8) : List (List UInt8) × Int := match lst [] l with | some t => (t, 0) | none => ([], 14)
theorem listR_some {l : List UInt8} {t : List (List UInt8)} (h : lst [] l = some t) : listR l = (t, 0) := by unfold listR; rw [h]
theorem listR_none {l : List UInt8} (h : lst [] l = none) : listR l = ([], 14) := by unfold listR; rw [h]
theorem addEl_none {x : List UInt8} (h : x = []) (t : List (List UInt8)) : addEl x t = t := by unfold addEl; rw [if_pos h]
theorem addEl_some {x : List UInt8} (h : x ≠ []) (t : List (List UInt8)) : addEl x t = x :: t := by unfold addEl; rw [if_neg h]
theorem addEl_app (x : List UInt8) (t : List (List UInt8)) : addEl x t = addEl x [] ++ t := by unfold addEl; split <;> simp

/-! What follows -/
theorem scan_append : ∀ (l x : List UInt8) (e : Bool) (k : Nat), qscan e l = some k → qscan e (l ++ x) = some k
  | [], x, e, k, h => by simp [qscan] at h
  | c :: l, x, e, k, h => by
    rw [List.cons_append]
    rw [qscan] at h ⊢
    split at h
    · cases h
    · rename_i hf
      rw [if_neg hf]
      split at h
      · rename_i he
        rw [if_pos he]
        obtain ⟨j, hj, rfl⟩ := Option.map_eq_some_iff.1 h
        rw [scan_append l x _ j hj]
        rfl
      · rename_i he
        rw [if_neg he]
        split at h
        · rename_i h92
          rw [if_pos h92]
          obtain ⟨j, hj, rfl⟩ := Option.map_eq_some_iff.1 h
          rw [scan_append l x _ j hj]
          rfl
        · rename_i h92
          rw [if_neg h92]
          split at h
          · rename_i h34
            rw [if_pos h34]
            exact h
          · rename_i h34
            rw [if_neg h34]
            obtain ⟨j, hj, rfl⟩ := Option.map_eq_some_iff.1 h
            rw [scan_append l x _ j hj]
            rfl
theorem qlen_append (l x : List UInt8) (h : ¬ qlen l = 0) : qlen (l ++ x) = qlen l := by
  cases l with
  | nil => exact absurd rfl h
  | cons c l =>
    rw [List.cons_append, qlen_cons, qlen_cons]
    rw [qlen_cons] at h
    by_cases hc : c = 34
    · rw [if_pos hc] at h ⊢
      rw [if_pos hc]
      cases hq : qscan false l with
      | none => rw [hq] at h; exact absurd rfl h
      | some k => rw [scan_append l x false k hq]
    · rw [if_neg hc] at h; exact absurd rfl h

theorem lst_split : ∀ (n : Nat) (a : List UInt8) (cur b : List UInt8) (t : List (List UInt8)), a.length ≤ n → lst cur a = some t → lst cur (a ++ 44 :: b) = (lst [] b).map (t ++ ·)
  | n, [], cur, b, t, _, h => by
    rw [lst_nil] at h
    cases h
    rw [List.nil_append, lst_comma _ _ _ rfl]
    congr 1
    funext x
    exact addEl_app _ x
  | 0, c :: a, cur, b, t, hn, _ => by simp at hn
  | n + 1, c :: a, cur, b, t, hn, h => by
    have hl : a.length ≤ n := by simpa using hn
    rw [List.cons_append]
    by_cases h44 : c = 44
    · rw [lst_comma _ _ _ h44] at h ⊢
      obtain ⟨u, hu, rfl⟩ := Option.map_eq_some_iff.1 h
      rw [lst_split n a [] b u hl hu, Option.map_map]
      congr 1
      funext x
      show addEl _ (u ++ x) = addEl _ u ++ x
      unfold addEl
      split <;> rfl
    · by_cases h34 : c = 34
      · by_cases hq : qlen (c :: a) = 0
        · rw [lst_bad _ _ _ h34 hq] at h; cases h
        · rw [lst_quote _ _ _ h34 hq] at h
          have e := qlen_append (c :: a) (44 :: b) hq
          rw [List.cons_append] at e
          rw [lst_quote _ _ _ h34 (by rw [e]; exact hq), e]
          have hb := qlen_bd (c :: a)
          have e1 : (c :: (a ++ 44 :: b)).take (qlen (c :: a)) = (c :: a).take (qlen (c :: a)) := by
            rw [← List.cons_append, List.take_append_of_le_length hb.1]
          have e2 : (c :: (a ++ 44 :: b)).drop (qlen (c :: a)) = (c :: a).drop (qlen (c :: a)) ++ 44 :: b := by
            rw [← List.cons_append, List.drop_append_of_le_length hb.1]
          rw [e1, e2]
          exact lst_split n _ _ b t (by rw [List.length_drop]; simp; omega) h
      · rw [lst_on _ _ _ h44 h34] at h ⊢
        exact lst_split n a _ b t hl h

theorem trim_blank (l : List UInt8) : trim (32 :: l) = trim l := by
  unfold trim
  rw [trimL_cons, if_pos (by decide)]
theorem lst_blank : ∀ (n : Nat) (r cur : List UInt8), r.length ≤ n → lst (32 :: cur) r = lst cur r
  | n, [], cur, _ => by rw [lst_nil, lst_nil, trim_blank]
  | 0, c :: r, cur, h => by simp at h
  | n + 1, c :: r, cur, h => by
    have hl : r.length ≤ n := by simpa using h
    by_cases h44 : c = 44
    · rw [lst_comma _ _ _ h44, lst_comma _ _ _ h44, trim_blank]
    · by_cases h34 : c = 34
      · by_cases hq : qlen (c :: r) = 0
        · rw [lst_bad _ _ _ h34 hq, lst_bad _ _ _ h34 hq]
        · rw [lst_quote _ _ _ h34 hq, lst_quote _ _ _ h34 hq, List.cons_append]
          exact lst_blank n _ _ (by rw [List.length_drop]; simp; omega)
      · rw [lst_on _ _ _ h44 h34, lst_on _ _ _ h44 h34, List.cons_append]
        exact lst_blank n r _ hl

end Oc
end Go.Proofs.YtiabbppbmcnddaaGreatDoor
