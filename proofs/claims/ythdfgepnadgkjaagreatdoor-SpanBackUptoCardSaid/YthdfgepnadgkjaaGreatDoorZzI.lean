/- Several texts as one. -/
import Derived.Test.YthdfgepnadgkjaaGreatDoorZzE
import Derived.Test.YthdfgepnadgkjaaGreatDoorZzH
import Derived.Lib.Strings
import Derived.Lib.Builder
import Derived.WalkMore
import Derived.Deep.QuietTactic
import Derived.Maps.AppendAt
/-
  span: pairs of numbers in blocks; slices of spans.
-/
set_option linter.unusedVariables false
set_option linter.unusedSimpArgs false
namespace Go.Proofs.YthdfgepnadgkjaaGreatDoor
open Go.RowKit Go.Shelf
namespace Sn
open Oc Tg Ac

/-- A span: its ends. -/
abbrev Sp := Int × Int
def encN1 (p : Sp) : List Value := [.int .i64 p.1, .int .i64 p.2]
def encN (ps : List Sp) : List Value := ps.flatMap encN1
theorem encN_snoc (ps : List Sp) (p : Sp) : encN (ps ++ [p]) = encN ps ++ encN1 p := by unfold encN; rw [List.flatMap_append]; simp
theorem encN_len : ∀ ps : List Sp, (encN ps).length = ps.length * 2
  | [] => rfl
  | p :: ps => by
    have := encN_len ps
    unfold encN at *
    rw [List.flatMap_cons, List.length_append, this, List.length_cons]
    show 2 + _ = _
    omega
/-- A slice of spans (of the type T) of the call's own. -/
def OwnN (T B : Nat) (v : Value) (ps : List Sp) (w : World) : Prop := w.ownsRow B T 2 v ps.length (encN ps)
theorem ownN_nil (T B : Nat) (w : World) : OwnN T B (.slice none 0 0) [] w := World.ownsRow_nil w B T 2
theorem ownN_empty {B : Nat} (T : Nat) (w : World) (hB : B ≤ w.heap.size) : OwnN T B (.slice (some ⟨w.heap.size, 0, none⟩) 0 0) [] (w.alloc (.cells #[] T)) :=
  ⟨by simp [encN], .inr ⟨w.heap.size, 0, #[], rfl, hB, heap_alloc_new w _, by simp, by decide, by simp, by simp [encN]⟩⟩
theorem OwnN.below {T B : Nat} {v : Value} {t : List Sp} {w w' : World} (h : OwnN T B v t w) (b : Below w.heap.size w w') : OwnN T B v t w' := by
  refine ⟨h.1, ?_⟩
  rcases h.2 with hn | ⟨g, cap, cur, rfl, hb, hg, rest⟩
  · exact .inl hn
  · refine .inr ⟨g, cap, cur, rfl, hb, ?_, rest⟩
    have hlt : g < w.heap.size := by
      rcases Nat.lt_or_ge g w.heap.size with h | h
      · exact h
      · simp [Array.getElem?_eq_none h] at hg
    rw [b.block g hlt]
    exact hg
theorem OwnN.mono {T B B' : Nat} {v : Value} {t : List Sp} {w : World} (h : OwnN T B v t w) (hB : B' ≤ B) : OwnN T B' v t w := by
  refine ⟨h.1, ?_⟩
  rcases h.2 with hn | ⟨g, cap, cur, rfl, hb, rest⟩
  · exact .inl hn
  · exact .inr ⟨g, cap, cur, rfl, by omega, rest⟩
theorem OwnN.form {T B : Nat} {v : Value} {t : List Sp} {w : World} (h : OwnN T B v t w) : ∃ a c, v = .slice a t.length c := by
  rcases h.2 with ⟨rfl, h0⟩ | ⟨g, cap, cur, rfl, _⟩
  · exact ⟨none, 0, by rw [h0]⟩
  · exact ⟨_, _, rfl⟩

/-- A span appended to a slice of the call's own. -/
theorem wp_appN {ops : Array Oper} {rest : List Oper} {o : Oper} {a : Act} {Q : Exit → Act → World → Prop} (T S : Nat) (hinfo : (Tryz.prog.info? T).map (fun i => (i.zero, i.size, i.bytes)) = some (some (.agg #[.int .i64 0, .int .i64 0]), 2, 16))
    (hund : Tryz.prog.underlying S = some (.slice T)) (hgd : o.guard = none) (s x : Operand)
    (ho : o.op = .call { callee := .builtin .append, args := #[s, x], argTypes := #[S, S] }) (B : Nat) (v : Value) (t : List Sp) (W : World) (p : Sp) (n1 n2 : Int) (h1 : n1 = p.1) (h2 : n2 = p.2)
    (hs : a.eval s = v) (hown : OwnN T B v t W) (g : Nat) (hx : a.eval x = .slice (some ⟨g, 0, none⟩) 1 1) (hg : g = W.heap.size) (hlen : t.length + 1 ≤ 2147483648) (hB : B ≤ W.heap.size)
    (h : ∀ v' w', OwnN T B v' (t ++ [p]) w' → Below B W w' → wpList Tryz.prog ops Q rest (a.put o.dst v') w') : wpList Tryz.prog ops Q (o :: rest) a (W.alloc (.cells #[.int .i64 n1, .int .i64 n2] T)) := by
  subst h1 h2 hg
  obtain ⟨i0, hi, hz0, hz1, hz2⟩ := info_parts hinfo
  refine wpList_append_own _ hgd s x S ho B T i0 (.agg #[.int .i64 0, .int .i64 0]) 2 16 hund hi hz0 hz1 hz2 rfl (by decide) v t.length _ hs (World.ownsRow.alloc hown _) ⟨W.heap.size, 0, none⟩ 1 1 (encN1 p) hx rfl ?_ ?_ ?_ ?_ ?_ ?_
  · intro j u hj
    unfold encN1 at hj
    match j, hj with
    | 0, hj => simp at hj; subst hj; simp [Addr.add]
    | 1, hj => simp at hj; subst hj; simp [Addr.add]
  · intro u hu
    unfold encN1 at hu
    simp at hu
    rcases hu with rfl | rfl <;> rfl
  · unfold maxLen; omega
  · omega
  · simp; omega
  · intro v' w' h1 h2 _
    refine h v' w' ?_ (((Below.refl B W).alloc hB _).grown h2 (by simp; omega) (fun k hk => (World.ownsRow.lt hown k hk).1))
    unfold OwnN
    rw [encN_snoc, List.length_append]
    exact h1

theorem infoN : (Tryz.prog.info? 38).map (fun i => (i.zero, i.size, i.bytes)) = some (some (.agg #[.int .i64 0, .int .i64 0]), 2, 16) := by kernel_rfl

theorem infoN2 : (Tryz.prog.info? 52).map (fun i => (i.zero, i.size, i.bytes)) = some (some (.agg #[.int .i64 0, .int .i64 0]), 2, 16) := by kernel_rfl

def nthN (t : List Sp) (j : Nat) : Sp := t.getD j (0, 0)
/-- A slice that reads as these spans. -/
def RdN (v : Value) (t : List Sp) (w : World) : Prop :=
  ∃ a c, v = .slice a t.length c ∧ (t = [] ∨ ∃ g o, a = some ⟨g, o, none⟩ ∧ t.length ≤ c ∧ ∀ j, j < t.length → w.cell? ⟨g, o + j * 2, none⟩ = some (.int .i64 (nthN t j).1) ∧ w.cell? ⟨g, o + j * 2 + 1, none⟩ = some (.int .i64 (nthN t j).2))
theorem encN_at : ∀ (t : List Sp) (j : Nat), j < t.length → (encN t)[j * 2]? = some (.int .i64 (nthN t j).1) ∧ (encN t)[j * 2 + 1]? = some (.int .i64 (nthN t j).2)
  | [], j, h => by simp at h
  | p :: t, 0, _ => ⟨rfl, rfl⟩
  | p :: t, j + 1, h => by
    have ih := encN_at t j (by simpa using h)
    have e : encN (p :: t) = [.int .i64 p.1, .int .i64 p.2] ++ encN t := rfl
    rw [e]
    have n : nthN (p :: t) (j + 1) = nthN t j := by unfold nthN; simp
    rw [n, show (j + 1) * 2 = j * 2 + 2 by omega, show j * 2 + 2 + 1 = (j * 2 + 1) + 2 by omega]
    exact ih
theorem OwnN.rd {T B : Nat} {v : Value} {t : List Sp} {w : World} (h : OwnN T B v t w) : RdN v t w := by
  have hall := h
  rcases h.2 with ⟨rfl, h0⟩ | ⟨g, cap, cur, rfl, _, hg, hn, _⟩
  · exact ⟨none, 0, by rw [h0], .inl (List.length_eq_zero_iff.1 h0)⟩
  · refine ⟨_, _, rfl, .inr ⟨g, 0, rfl, by omega, fun j hj => ?_⟩⟩
    obtain ⟨e0, e1⟩ := encN_at t j hj
    have ea : ∀ k, Addr.add ⟨g, 0, none⟩ k = ⟨g, 0 + k, none⟩ := fun k => by unfold Addr.add; split <;> simp_all
    have c0 := World.ownsRow.cells hall (g := g) rfl _ _ e0
    have c1 := World.ownsRow.cells hall (g := g) rfl _ _ e1
    rw [ea] at c0 c1
    exact ⟨c0, c1⟩
theorem RdN.below {v : Value} {t : List Sp} {w w' : World} (h : RdN v t w) (b : Below w.heap.size w w') : RdN v t w' := by
  obtain ⟨a, c, rfl, h⟩ := h
  refine ⟨a, c, rfl, ?_⟩
  rcases h with h | ⟨g, o, e, hc, hcell⟩
  · exact .inl h
  · refine .inr ⟨g, o, e, hc, fun j hj => ?_⟩
    obtain ⟨h1, h2⟩ := hcell j hj
    rw [b.cell (p := ⟨g, o + j * 2, none⟩) (World.block_lt_of_cell? w _ h1), b.cell (p := ⟨g, o + j * 2 + 1, none⟩) (World.block_lt_of_cell? w _ h2)]
    exact ⟨h1, h2⟩

/-- A span lies in a block. -/
def PB (T : Nat) (w : World) (g : Nat) (t : Sp) : Prop := w.heap[g]? = some (.cells #[.int .i64 t.1, .int .i64 t.2] T (0, 0))
theorem PB.c0 {T : Nat} {w : World} {g : Nat} {t : Sp} (h : PB T w g t) : w.cell? ⟨g, 0, none⟩ = some (.int .i64 t.1) := by
  have := Lib.cell_of_heap h 0
  simpa using this
theorem PB.c1 {T : Nat} {w : World} {g : Nat} {t : Sp} (h : PB T w g t) : w.cell? ⟨g, 1, none⟩ = some (.int .i64 t.2) := by
  have := Lib.cell_of_heap h 1
  simpa using this
theorem PB.f {T : Nat} {w : World} {g : Nat} {t : Sp} (h : PB T w g t) (j : Nat) : w.frozen? ⟨g, j, none⟩ = false := Lib.frozen_of_heap h j
theorem PB.lt {T : Nat} {w : World} {g : Nat} {t : Sp} (h : PB T w g t) : g < w.heap.size := by
  rcases Nat.lt_or_ge g w.heap.size with h' | h'
  · exact h'
  · unfold PB at h; simp [Array.getElem?_eq_none h'] at h
theorem PB.set {T : Nat} {w : World} {g : Nat} {t : Sp} (h : PB T w g t) (a b : Int) : PB T ((w.setCell ⟨g, 0, none⟩ (.int .i64 a)).setCell ⟨g, 1, none⟩ (.int .i64 b)) g (a, b) := by
  unfold PB at h ⊢
  simp [World.setCell, Array.getElem?_modify, h]
theorem PB.other {T : Nat} {w : World} {g : Nat} {t : Sp} (h : PB T w g t) {p : Addr} (hp : p.block ≠ g) (v : Value) : PB T (w.setCell p v) g t := by
  unfold PB at h ⊢
  simp [World.setCell, Array.getElem?_modify, h, hp]
theorem PB.below {T : Nat} {w w' : World} {g : Nat} {t : Sp} (h : PB T w g t) (b : Below w.heap.size w w') : PB T w' g t := by
  unfold PB at *
  rw [b.block g (PB.lt h)]
  exact h
theorem PB.new (T : Nat) (w : World) (x : Sp) : PB T (w.alloc (.cells #[.int .i64 x.1, .int .i64 x.2] T)) w.heap.size x := heap_alloc_new w _
theorem PB.alloc {T : Nat} {w : World} {g : Nat} {t : Sp} (h : PB T w g t) (o : Obj) : PB T (w.alloc o) g t := h.below ((Below.refl _ w).alloc (Nat.le_refl _) _)

end Sn
end Go.Proofs.YthdfgepnadgkjaaGreatDoor

/-
  span, plainly: what a range header asks for.
-/
set_option linter.unusedVariables false
set_option linter.unusedSimpArgs false
namespace Go.Proofs.YthdfgepnadgkjaaGreatDoor
open Go.RowKit Go.Shelf
namespace Sn
open Oc Tg Ac

theorem numOf_nonneg : ∀ (l : List UInt8) (n : Int), 0 ≤ n → 0 ≤ l.foldl (fun n c => n * 10 + valI (c.toNat : Int)) n
  | [], n, h => h
  | c :: l, n, h => by
    rw [List.foldl_cons]
    refine numOf_nonneg l _ ?_
    have := (valI_bd (c := (c.toNat : Int)) (by omega)).1
    omega
theorem numR_bd (l : List UInt8) (m : Int) (hm : 0 ≤ m) : 0 ≤ (numR 10 l m).1 ∧ (numR 10 l m).1 ≤ m ∧ ((numR 10 l m).2 = 0 ∨ (numR 10 l m).2 = 11 ∨ (numR 10 l m).2 = 12) := by
  unfold numR
  split
  · exact ⟨Int.le_refl _, hm, .inr (.inl rfl)⟩
  · split
    · exact ⟨Int.le_refl _, hm, .inr (.inr rfl)⟩
    · rename_i h
      exact ⟨numOf_nonneg l 0 (Int.le_refl _), by show numOf 10 l ≤ m; omega, .inl rfl⟩

/-- The number that digits say, as far as it counts. -/
def cnt (l : List UInt8) : Int × Bool := if (numR 10 l 4611686018427387904).2 = 12 then (4611686018427387904, true) else ((numR 10 l 4611686018427387904).1, decide ((numR 10 l 4611686018427387904).2 = 0))
theorem cnt_bd (l : List UInt8) : 0 ≤ (cnt l).1 ∧ (cnt l).1 ≤ 4611686018427387904 := by
  unfold cnt
  have := numR_bd l 4611686018427387904 (by omega)
  split <;> dsimp only <;> omega
/-- What an element asks for; whether it is one. -/
def askP (l : List UInt8) (size : Int) : Sp × Bool :=
  if has 45 l = false then ((0, 0), false)
  else if cutA 45 l = [] then ((size - (cnt (cutB 45 l)).1, size), (cnt (cutB 45 l)).2)
  else if cutB 45 l = [] then (((cnt (cutA 45 l)).1, size), (cnt (cutA 45 l)).2)
  else (((cnt (cutA 45 l)).1, (cnt (cutB 45 l)).1 + 1), ((cnt (cutA 45 l)).2 && (cnt (cutB 45 l)).2) && decide ((cnt (cutA 45 l)).1 ≤ (cnt (cutB 45 l)).1))
/-- What of a span lies in a body. -/
def wth (x : Sp) (size : Int) : Sp := (max x.1 0, min x.2 size)
def emp (x : Sp) : Bool := decide (x.2 ≤ x.1)
/-- The elements behind the unit; whether there are any. -/
def elR (l : List UInt8) : List (List UInt8) × Bool := if lower (cutA 61 l) = [98, 121, 116, 101, 115] then ((listR (cutB 61 l)).1, decide ((listR (cutB 61 l)).2 = 0) && decide (0 < (listR (cutB 61 l)).1.length)) else ([], false)
def keepN (size : Int) (x : List UInt8) : Option Sp := if emp (wth (askP x size).1 size) then none else some (wth (askP x size).1 size)
def ansR (size : Int) (t : List (List UInt8)) : List Sp × Int := if t.all (fun x => (askP x size).2) then (if (t.filterMap (keepN size)).length = 0 then ([], 91) else (t.filterMap (keepN size), 0)) else ([], 90)
/-- What a range header says. -/
def parR (l : List UInt8) (size : Int) : List Sp × Int := if size < 0 then ([], 1) else if (elR l).2 = false then ([], 90) else ansR size (elR l).1

theorem ansR_bad {size : Int} {t : List (List UInt8)} (k : Nat) (hk : k < t.length) (h : (askP (t.getD k []) size).2 = false) : ansR size t = ([], 90) := by
  unfold ansR
  rw [if_neg]
  intro hall
  rw [List.all_eq_true] at hall
  have := hall (t.getD k []) (by rw [List.getD_eq_getElem?_getD, List.getElem?_eq_getElem hk]; exact List.getElem_mem _)
  rw [h] at this
  cases this
theorem all_getD {t : List (List UInt8)} {p : List UInt8 → Bool} (h : ∀ j, j < t.length → p (t.getD j []) = true) : t.all p = true := by
  rw [List.all_eq_true]
  intro x hx
  obtain ⟨k, hk, rfl⟩ := List.mem_iff_getElem.1 hx
  have := h k hk
  rw [List.getD_eq_getElem?_getD, List.getElem?_eq_getElem hk] at this
  exact this
theorem ansR_ok {size : Int} {t : List (List UInt8)} (h : ∀ j, j < t.length → (askP (t.getD j []) size).2 = true) : ansR size t = (if (t.filterMap (keepN size)).length = 0 then ([], 91) else (t.filterMap (keepN size), 0)) := by
  unfold ansR
  rw [if_pos (all_getD (p := fun x => (askP x size).2) h)]
theorem take_keep (size : Int) (t : List (List UInt8)) (k : Nat) (hk : k < t.length) : (t.take (k + 1)).filterMap (keepN size) = (t.take k).filterMap (keepN size) ++ (keepN size (t.getD k [])).toList := by
  rw [List.take_succ_eq_append_getElem hk, List.filterMap_append, List.getD_eq_getElem?_getD, List.getElem?_eq_getElem hk]
  simp [List.filterMap_cons]
  cases keepN size t[k] <;> rfl
theorem keep_len (size : Int) (t : List (List UInt8)) (k : Nat) : ((t.take k).filterMap (keepN size)).length ≤ k := by
  have h := List.length_filterMap_le (keepN size) (t.take k)
  rw [List.length_take] at h
  omega

/-- What the document has of an element: a span, whether it can be met, whether it is one. -/
def oneR (l : List UInt8) (size : Int) : Sp × Bool × Bool :=
  if has 45 l = false then ((0, 0), false, false)
  else if cutA 45 l = [] then (if (cnt (cutB 45 l)).2 = false then ((0, 0), false, false) else ((if size - (cnt (cutB 45 l)).1 < 0 then 0 else size - (cnt (cutB 45 l)).1, size), decide (0 < size) && decide (0 < (cnt (cutB 45 l)).1), true))
  else if (cnt (cutA 45 l)).2 = false ∨ (cutB 45 l ≠ [] ∧ ((cnt (cutB 45 l)).2 = false ∨ (cnt (cutB 45 l)).1 < (cnt (cutA 45 l)).1)) then ((0, 0), false, false)
  else (((cnt (cutA 45 l)).1, if cutB 45 l ≠ [] ∧ (cnt (cutB 45 l)).1 < size then (cnt (cutB 45 l)).1 + 1 else size), decide ((cnt (cutA 45 l)).1 < size), true)
theorem oneR_ok (l : List UInt8) (size : Int) : (oneR l size).2.2 = (askP l size).2 := by
  unfold oneR askP
  by_cases h1 : has 45 l = false
  · rw [if_pos h1, if_pos h1]
  rw [if_neg h1, if_neg h1]
  by_cases h2 : cutA 45 l = []
  · rw [if_pos h2, if_pos h2]
    by_cases h3 : (cnt (cutB 45 l)).2 = false
    · rw [if_pos h3, h3]
    · rw [if_neg h3]
      simp at h3
      rw [h3]
  rw [if_neg h2, if_neg h2]
  by_cases h4 : cutB 45 l = []
  · rw [if_pos h4]
    cases h5 : (cnt (cutA 45 l)).2 with
    | false => rw [if_pos (.inl rfl)]
    | true => rw [if_neg]; rintro (h | ⟨h, _⟩); cases h; exact h h4
  · rw [if_neg h4]
    cases h5 : (cnt (cutA 45 l)).2 with
    | false => rw [if_pos (.inl rfl)]; rfl
    | true =>
      cases h6 : (cnt (cutB 45 l)).2 with
      | false => rw [if_pos (.inr ⟨h4, .inl rfl⟩)]; rfl
      | true =>
        by_cases h7 : (cnt (cutB 45 l)).1 < (cnt (cutA 45 l)).1
        · rw [if_pos (.inr ⟨h4, .inr h7⟩)]
          simp; omega
        · rw [if_neg]
          · simp; omega
          · rintro (h | ⟨_, h | h⟩)
            · cases h
            · cases h
            · exact h7 h
theorem oneR_keep (l : List UInt8) (size : Int) (h0 : 0 ≤ size) (h : (askP l size).2 = true) : (if (oneR l size).2.1 then some (oneR l size).1 else none) = keepN size l := by
  obtain ⟨a0, a1⟩ := cnt_bd (cutA 45 l)
  obtain ⟨b0, b1⟩ := cnt_bd (cutB 45 l)
  unfold keepN emp wth
  by_cases h1 : has 45 l = false
  · unfold askP at h; rw [if_pos h1] at h; cases h
  by_cases h2 : cutA 45 l = []
  · have e2 : askP l size = ((size - (cnt (cutB 45 l)).1, size), (cnt (cutB 45 l)).2) := by unfold askP; rw [if_neg h1, if_pos h2]
    rw [e2] at h ⊢
    have e1 : oneR l size = ((if size - (cnt (cutB 45 l)).1 < 0 then 0 else size - (cnt (cutB 45 l)).1, size), decide (0 < size) && decide (0 < (cnt (cutB 45 l)).1), true) := by
      unfold oneR; rw [if_neg h1, if_pos h2, if_neg (by rw [h]; simp)]
    rw [e1]
    dsimp only at h ⊢
    generalize (cnt (cutB 45 l)).1 = c at *
    by_cases h3 : 0 < size
    · by_cases h4 : 0 < c
      · rw [if_pos (by simp [h3, h4]), if_neg (show ¬ decide (min size size ≤ max (size - c) 0) = true by simp; omega)]
        congr 2
        · rw [Int.max_def]; split <;> split <;> omega
        · simp
      · rw [if_neg (by simp [h4]), if_pos (by simp; omega)]
    · rw [if_neg (by simp [h3]), if_pos (by simp; omega)]
  by_cases h4 : cutB 45 l = []
  · have e2 : askP l size = (((cnt (cutA 45 l)).1, size), (cnt (cutA 45 l)).2) := by unfold askP; rw [if_neg h1, if_neg h2, if_pos h4]
    rw [e2] at h ⊢
    have e1 : oneR l size = (((cnt (cutA 45 l)).1, size), decide ((cnt (cutA 45 l)).1 < size), true) := by
      unfold oneR
      rw [if_neg h1, if_neg h2, if_neg (by rintro (h' | h'); (rw [h] at h'; cases h'); exact h'.1 h4), if_neg (fun h' => h'.1 h4)]
    rw [e1]
    dsimp only at h ⊢
    generalize (cnt (cutA 45 l)).1 = c at *
    by_cases h5 : c < size
    · rw [if_pos (by simp [h5]), if_neg (by simp; omega)]
      congr 2
      · rw [Int.max_eq_left a0]
      · simp
    · rw [if_neg (by simp [h5]), if_pos (by simp; omega)]
  · have e2 : askP l size = (((cnt (cutA 45 l)).1, (cnt (cutB 45 l)).1 + 1), ((cnt (cutA 45 l)).2 && (cnt (cutB 45 l)).2) && decide ((cnt (cutA 45 l)).1 ≤ (cnt (cutB 45 l)).1)) := by unfold askP; rw [if_neg h1, if_neg h2, if_neg h4]
    rw [e2] at h ⊢
    simp only [Bool.and_eq_true, decide_eq_true_eq] at h
    obtain ⟨⟨k1, k2⟩, k3⟩ := h
    have e1 : oneR l size = (((cnt (cutA 45 l)).1, if cutB 45 l ≠ [] ∧ (cnt (cutB 45 l)).1 < size then (cnt (cutB 45 l)).1 + 1 else size), decide ((cnt (cutA 45 l)).1 < size), true) := by
      unfold oneR
      rw [if_neg h1, if_neg h2, if_neg (by rintro (h' | ⟨_, h' | h'⟩); (rw [k1] at h'; cases h'); (rw [k2] at h'; cases h'); omega)]
    rw [e1]
    dsimp only
    generalize (cnt (cutA 45 l)).1 = c at *
    generalize (cnt (cutB 45 l)).1 = d at *
    by_cases h5 : c < size
    · rw [if_pos (by simp [h5]), if_neg (show ¬ decide (min (d + 1) size ≤ max c 0) = true by simp; omega)]
      congr 2
      · rw [Int.max_eq_left a0]
      · by_cases h6 : d < size
        · rw [if_pos ⟨h4, h6⟩, Int.min_eq_left (by omega)]
        · rw [if_neg (fun h => h6 h.2), Int.min_eq_right (by omega)]
    · rw [if_neg (by simp [h5]), if_pos (by simp; omega)]

end Sn
end Go.Proofs.YthdfgepnadgkjaaGreatDoor

/-
  span, plainly: where a sign stands first; the unit.
-/
set_option linter.unusedVariables false
set_option linter.unusedSimpArgs false
namespace Go.Proofs.YthdfgepnadgkjaaGreatDoor
open Go.RowKit Go.Shelf
namespace Sn
open Oc Tg Ac

theorem byte_eq {c : UInt8} {n : Nat} (hn : n < 256) (h : (c.toNat : Int) = n) : c = UInt8.ofNat n := by
  apply UInt8.toNat.inj
  rw [UInt8.toNat_ofNat']
  omega
theorem byte_ne {c : UInt8} {n : Nat} (hn : n < 256) (h : (c.toNat : Int) ≠ n) : c ≠ UInt8.ofNat n := by
  intro e
  apply h
  rw [e, UInt8.toNat_ofNat']
  omega
theorem first_at (b : UInt8) : ∀ (l : List UInt8) (j : Nat), j < l.length → l.getD j 0 = b → (∀ i, i < j → l.getD i 0 ≠ b) → has b l = true ∧ cutA b l = l.take j ∧ cutB b l = l.drop (j + 1)
  | [], j, h, _, _ => by simp at h
  | c :: t, 0, _, h, _ => by
    have h' : c = b := h
    subst h'
    simp [has, cutA, cutB]
  | c :: t, j + 1, hj, h, hn => by
    have hc : c ≠ b := hn 0 (by omega)
    have ih := first_at b t j (by simpa using hj) (by simpa using h) (fun i hi => by have := hn (i + 1) (by omega); simpa using this)
    obtain ⟨i1, i2, i3⟩ := ih
    have e1 : cutA b (c :: t) = c :: cutA b t := by simp [cutA, hc]
    have e2 : cutB b (c :: t) = cutB b t := by simp [cutB, hc]
    refine ⟨?_, by rw [e1, i2]; simp, by rw [e2, i3]; simp⟩
    unfold has at *
    simp at i1 ⊢
    exact .inr i1
theorem none_at (b : UInt8) (l : List UInt8) (h : ∀ i, i < l.length → l.getD i 0 ≠ b) : has b l = false := by
  unfold has
  rw [Bool.eq_false_iff]
  intro hc
  rw [List.contains_iff_mem] at hc
  obtain ⟨k, hk, rfl⟩ := List.mem_iff_getElem.1 hc
  have := h k hk
  rw [List.getD_eq_getElem?_getD, List.getElem?_eq_getElem hk] at this
  exact this rfl

theorem low61n : ∀ n : Nat, n < 256 → lowB (UInt8.ofNat n) = 61 → n = 61 := by decide +kernel
theorem low61 (c : UInt8) (h : lowB c = 61) : c = 61 := by
  have h1 := c.toNat_lt
  have h2 : UInt8.ofNat c.toNat = c := by simp
  have := low61n c.toNat h1 (by rw [h2]; exact h)
  rw [← h2, this]
  rfl
theorem listR_nil : listR [] = ([], 0) := by decide +kernel
theorem lower_len (l : List UInt8) : (lower l).length = l.length := by simp [lower]
theorem elR_of_no {l : List UInt8} (h : has 61 l = false) : (elR l).2 = false := by
  unfold elR
  split
  · rw [cutB_none 61 l h, listR_nil]; rfl
  · rfl
theorem elR_short {l : List UInt8} (h : l.length < 6) : (elR l).2 = false := by
  cases hh : has 61 l with
  | false => exact elR_of_no hh
  | true =>
    unfold elR
    rw [if_neg]
    intro e
    have h1 := congrArg List.length e
    rw [lower_len] at h1
    have h2 := congrArg List.length (cut_app 61 l hh)
    simp at h1 h2
    omega
theorem elR_not {l : List UInt8} (h : lower (l.take 6) ≠ [98, 121, 116, 101, 115, 61]) : (elR l).2 = false := by
  cases hh : has 61 l with
  | false => exact elR_of_no hh
  | true =>
    unfold elR
    rw [if_neg]
    intro e
    apply h
    have h2 := cut_app 61 l hh
    have h1 := congrArg List.length e
    rw [lower_len] at h1
    have h3 : l.take 6 = cutA 61 l ++ [61] := by
      conv => lhs; rw [← h2]
      rw [List.take_append]
      rw [List.take_of_length_le (by rw [h1]; decide), h1]
      rfl
    rw [h3]
    unfold lower at e ⊢
    rw [List.map_append, e]
    decide +kernel
theorem elR_yes {l : List UInt8} (hl : 6 ≤ l.length) (h : lower (l.take 6) = [98, 121, 116, 101, 115, 61]) : elR l = ((listR (l.drop 6)).1, decide ((listR (l.drop 6)).2 = 0) && decide (0 < (listR (l.drop 6)).1.length)) := by
  obtain ⟨c0, l, rfl⟩ : ∃ c t, l = c :: t := by cases l with | nil => simp at hl | cons c t => exact ⟨c, t, rfl⟩
  obtain ⟨c1, l, rfl⟩ : ∃ c t, l = c :: t := by cases l with | nil => simp at hl | cons c t => exact ⟨c, t, rfl⟩
  obtain ⟨c2, l, rfl⟩ : ∃ c t, l = c :: t := by cases l with | nil => simp at hl | cons c t => exact ⟨c, t, rfl⟩
  obtain ⟨c3, l, rfl⟩ : ∃ c t, l = c :: t := by cases l with | nil => simp at hl | cons c t => exact ⟨c, t, rfl⟩
  obtain ⟨c4, l, rfl⟩ : ∃ c t, l = c :: t := by cases l with | nil => simp at hl | cons c t => exact ⟨c, t, rfl⟩
  obtain ⟨c5, l, rfl⟩ : ∃ c t, l = c :: t := by cases l with | nil => simp at hl | cons c t => exact ⟨c, t, rfl⟩
  simp [lower] at h
  obtain ⟨h0, h1, h2, h3, h4, h5⟩ := h
  have n : ∀ (c d : UInt8), lowB c = d → d ≠ 61 → c ≠ 61 := fun c d e1 e2 e3 => by subst e3; exact e2 (e1.symm.trans (by decide +kernel))
  have m0 := n c0 _ h0 (by decide)
  have m1 := n c1 _ h1 (by decide)
  have m2 := n c2 _ h2 (by decide)
  have m3 := n c3 _ h3 (by decide)
  have m4 := n c4 _ h4 (by decide)
  have m5 := low61 c5 h5
  subst m5
  have eA : cutA 61 (c0 :: c1 :: c2 :: c3 :: c4 :: 61 :: l) = [c0, c1, c2, c3, c4] := by simp [cutA, m0, m1, m2, m3, m4]
  have eB : cutB 61 (c0 :: c1 :: c2 :: c3 :: c4 :: 61 :: l) = l := by simp [cutB, m0, m1, m2, m3, m4]
  unfold elR
  rw [eA, eB, if_pos (by simp [lower, h0, h1, h2, h3, h4])]
  rfl
theorem parR_ref {l : List UInt8} {size : Int} (h : 0 ≤ size) : (elR l).2 = false → parR l size = ([], 90) := fun hh => by unfold parR; rw [if_neg (by omega), if_pos hh]

end Sn
end Go.Proofs.YthdfgepnadgkjaaGreatDoor
