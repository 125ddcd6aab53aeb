/- Several texts as one. -/
import Derived.Test.YtenipnlpambehaaDoorZzI
import Derived.Test.YtenipnlpambehaaDoorZzG
import Derived.Lib.Strings
import Derived.Lib.Builder
import Derived.WalkMore
import Derived.Deep.QuietTactic
import Derived.Maps.AppendAt
import Derived.Laws.MakeOwn
import Derived.Laws.CopyRow
import Derived.Lib.SliceRun
/-
  span: pairs of numbers in blocks; slices of spans.
-/
set_option linter.unusedVariables false
set_option linter.unusedSimpArgs false
namespace Go.Proofs.YtenipnlpambehaaDoor
open Go.RowKit Go.Shelf
namespace Sn
open Oc Tg Ac

/-- A span: its ends. -/
abbrev Sp := Int × Int
def encN1 (p : Sp) : List Value := [.int .i64 p.1, .int .i64 p.2]
def encN (ps : List Sp) : List Value := ps.flatMap encN1
theorem encN_snoc (ps : List Sp) (p : Sp) : encN (ps ++ [p]) = encN ps ++ encN1 p := by unfold encN; rw [List.flatMap_append]; simp
theorem encN_len : ∀ ps : List Sp, (encN ps).length = ps.length * 2
  | [] => rfl
  | p :: ps => by
    have := encN_len ps
    unfold encN at *
    rw [List.flatMap_cons, List.length_append, this, List.length_cons]
    show 2 + _ = _
    omega
/-- A slice of spans (of the type T) of the call's own. -/
def OwnN (T B : Nat) (v : Value) (ps : List Sp) (w : World) : Prop := w.ownsRow B T 2 v ps.length (encN ps)
theorem ownN_nil (T B : Nat) (w : World) : OwnN T B (.slice none 0 0) [] w := World.ownsRow_nil w B T 2
theorem ownN_empty {B : Nat} (T : Nat) (w : World) (hB : B ≤ w.heap.size) : OwnN T B (.slice (some ⟨w.heap.size, 0, none⟩) 0 0) [] (w.alloc (.cells #[] T)) :=
  ⟨by simp [encN], .inr ⟨w.heap.size, 0, #[], rfl, hB, heap_alloc_new w _, by simp, by decide, by simp, by simp [encN]⟩⟩
theorem OwnN.below {T B : Nat} {v : Value} {t : List Sp} {w w' : World} (h : OwnN T B v t w) (b : Below w.heap.size w w') : OwnN T B v t w' := by
  refine ⟨h.1, ?_⟩
  rcases h.2 with hn | ⟨g, cap, cur, rfl, hb, hg, rest⟩
  · exact .inl hn
  · refine .inr ⟨g, cap, cur, rfl, hb, ?_, rest⟩
    have hlt : g < w.heap.size := by
      rcases Nat.lt_or_ge g w.heap.size with h | h
      · exact h
      · simp [Array.getElem?_eq_none h] at hg
    rw [b.block g hlt]
    exact hg
theorem OwnN.mono {T B B' : Nat} {v : Value} {t : List Sp} {w : World} (h : OwnN T B v t w) (hB : B' ≤ B) : OwnN T B' v t w := by
  refine ⟨h.1, ?_⟩
  rcases h.2 with hn | ⟨g, cap, cur, rfl, hb, rest⟩
  · exact .inl hn
  · exact .inr ⟨g, cap, cur, rfl, by omega, rest⟩
theorem OwnN.form {T B : Nat} {v : Value} {t : List Sp} {w : World} (h : OwnN T B v t w) : ∃ a c, v = .slice a t.length c := by
  rcases h.2 with ⟨rfl, h0⟩ | ⟨g, cap, cur, rfl, _⟩
  · exact ⟨none, 0, by rw [h0]⟩
  · exact ⟨_, _, rfl⟩

/-- A span appended to a slice of the call's own. -/
theorem wp_appN {ops : Array Oper} {rest : List Oper} {o : Oper} {a : Act} {Q : Exit → Act → World → Prop} (T S : Nat) (hinfo : (Tryd.prog.info? T).map (fun i => (i.zero, i.size, i.bytes)) = some (some (.agg #[.int .i64 0, .int .i64 0]), 2, 16))
    (hund : Tryd.prog.underlying S = some (.slice T)) (hgd : o.guard = none) (s x : Operand)
    (ho : o.op = .call { callee := .builtin .append, args := #[s, x], argTypes := #[S, S] }) (B : Nat) (v : Value) (t : List Sp) (W : World) (p : Sp) (n1 n2 : Int) (h1 : n1 = p.1) (h2 : n2 = p.2)
    (hs : a.eval s = v) (hown : OwnN T B v t W) (g : Nat) (hx : a.eval x = .slice (some ⟨g, 0, none⟩) 1 1) (hg : g = W.heap.size) (hlen : t.length + 1 ≤ 2147483648) (hB : B ≤ W.heap.size)
    (h : ∀ v' w', OwnN T B v' (t ++ [p]) w' → Below B W w' → wpList Tryd.prog ops Q rest (a.put o.dst v') w') : wpList Tryd.prog ops Q (o :: rest) a (W.alloc (.cells #[.int .i64 n1, .int .i64 n2] T)) := by
  subst h1 h2 hg
  obtain ⟨i0, hi, hz0, hz1, hz2⟩ := info_parts hinfo
  refine wpList_append_own _ hgd s x S ho B T i0 (.agg #[.int .i64 0, .int .i64 0]) 2 16 hund hi hz0 hz1 hz2 rfl (by decide) v t.length _ hs (World.ownsRow.alloc hown _) ⟨W.heap.size, 0, none⟩ 1 1 (encN1 p) hx rfl ?_ ?_ ?_ ?_ ?_ ?_
  · intro j u hj
    unfold encN1 at hj
    match j, hj with
    | 0, hj => simp at hj; subst hj; simp [Addr.add]
    | 1, hj => simp at hj; subst hj; simp [Addr.add]
  · intro u hu
    unfold encN1 at hu
    simp at hu
    rcases hu with rfl | rfl <;> rfl
  · unfold maxLen; omega
  · omega
  · simp; omega
  · intro v' w' h1 h2 _
    refine h v' w' ?_ (((Below.refl B W).alloc hB _).grown h2 (by simp; omega) (fun k hk => (World.ownsRow.lt hown k hk).1))
    unfold OwnN
    rw [encN_snoc, List.length_append]
    exact h1

theorem infoN : (Tryd.prog.info? 44).map (fun i => (i.zero, i.size, i.bytes)) = some (some (.agg #[.int .i64 0, .int .i64 0]), 2, 16) := by kernel_rfl

theorem infoN2 : (Tryd.prog.info? 55).map (fun i => (i.zero, i.size, i.bytes)) = some (some (.agg #[.int .i64 0, .int .i64 0]), 2, 16) := by kernel_rfl

def nthN (t : List Sp) (j : Nat) : Sp := t.getD j (0, 0)
/-- A slice that reads as these spans. -/
def RdN (v : Value) (t : List Sp) (w : World) : Prop :=
  ∃ a c, v = .slice a t.length c ∧ (t = [] ∨ ∃ g o, a = some ⟨g, o, none⟩ ∧ t.length ≤ c ∧ ∀ j, j < t.length → w.cell? ⟨g, o + j * 2, none⟩ = some (.int .i64 (nthN t j).1) ∧ w.cell? ⟨g, o + j * 2 + 1, none⟩ = some (.int .i64 (nthN t j).2))
theorem encN_at : ∀ (t : List Sp) (j : Nat), j < t.length → (encN t)[j * 2]? = some (.int .i64 (nthN t j).1) ∧ (encN t)[j * 2 + 1]? = some (.int .i64 (nthN t j).2)
  | [], j, h => by simp at h
  | p :: t, 0, _ => ⟨rfl, rfl⟩
  | p :: t, j + 1, h => by
    have ih := encN_at t j (by simpa using h)
    have e : encN (p :: t) = [.int .i64 p.1, .int .i64 p.2] ++ encN t := rfl
    rw [e]
    have n : nthN (p :: t) (j + 1) = nthN t j := by unfold nthN; simp
    rw [n, show (j + 1) * 2 = j * 2 + 2 by omega, show j * 2 + 2 + 1 = (j * 2 + 1) + 2 by omega]
    exact ih
theorem OwnN.rd {T B : Nat} {v : Value} {t : List Sp} {w : World} (h : OwnN T B v t w) : RdN v t w := by
  have hall := h
  rcases h.2 with ⟨rfl, h0⟩ | ⟨g, cap, cur, rfl, _, hg, hn, _⟩
  · exact ⟨none, 0, by rw [h0], .inl (List.length_eq_zero_iff.1 h0)⟩
  · refine ⟨_, _, rfl, .inr ⟨g, 0, rfl, by omega, fun j hj => ?_⟩⟩
    obtain ⟨e0, e1⟩ := encN_at t j hj
    have ea : ∀ k, Addr.add ⟨g, 0, none⟩ k = ⟨g, 0 + k, none⟩ := fun k => by unfold Addr.add; split <;> simp_all
    have c0 := World.ownsRow.cells hall (g := g) rfl _ _ e0
    have c1 := World.ownsRow.cells hall (g := g) rfl _ _ e1
    rw [ea] at c0 c1
    exact ⟨c0, c1⟩
theorem RdN.below {v : Value} {t : List Sp} {w w' : World} (h : RdN v t w) (b : Below w.heap.size w w') : RdN v t w' := by
  obtain ⟨a, c, rfl, h⟩ := h
  refine ⟨a, c, rfl, ?_⟩
  rcases h with h | ⟨g, o, e, hc, hcell⟩
  · exact .inl h
  · refine .inr ⟨g, o, e, hc, fun j hj => ?_⟩
    obtain ⟨h1, h2⟩ := hcell j hj
    rw [b.cell (p := ⟨g, o + j * 2, none⟩) (World.block_lt_of_cell? w _ h1), b.cell (p := ⟨g, o + j * 2 + 1, none⟩) (World.block_lt_of_cell? w _ h2)]
    exact ⟨h1, h2⟩

/-- A span lies in a block. -/
def PB (T : Nat) (w : World) (g : Nat) (t : Sp) : Prop := w.heap[g]? = some (.cells #[.int .i64 t.1, .int .i64 t.2] T (0, 0))
theorem PB.c0 {T : Nat} {w : World} {g : Nat} {t : Sp} (h : PB T w g t) : w.cell? ⟨g, 0, none⟩ = some (.int .i64 t.1) := by
  have := Lib.cell_of_heap h 0
  simpa using this
theorem PB.c1 {T : Nat} {w : World} {g : Nat} {t : Sp} (h : PB T w g t) : w.cell? ⟨g, 1, none⟩ = some (.int .i64 t.2) := by
  have := Lib.cell_of_heap h 1
  simpa using this
theorem PB.f {T : Nat} {w : World} {g : Nat} {t : Sp} (h : PB T w g t) (j : Nat) : w.frozen? ⟨g, j, none⟩ = false := Lib.frozen_of_heap h j
theorem PB.lt {T : Nat} {w : World} {g : Nat} {t : Sp} (h : PB T w g t) : g < w.heap.size := by
  rcases Nat.lt_or_ge g w.heap.size with h' | h'
  · exact h'
  · unfold PB at h; simp [Array.getElem?_eq_none h'] at h
theorem PB.set {T : Nat} {w : World} {g : Nat} {t : Sp} (h : PB T w g t) (a b : Int) : PB T ((w.setCell ⟨g, 0, none⟩ (.int .i64 a)).setCell ⟨g, 1, none⟩ (.int .i64 b)) g (a, b) := by
  unfold PB at h ⊢
  simp [World.setCell, Array.getElem?_modify, h]
theorem PB.other {T : Nat} {w : World} {g : Nat} {t : Sp} (h : PB T w g t) {p : Addr} (hp : p.block ≠ g) (v : Value) : PB T (w.setCell p v) g t := by
  unfold PB at h ⊢
  simp [World.setCell, Array.getElem?_modify, h, hp]
theorem PB.below {T : Nat} {w w' : World} {g : Nat} {t : Sp} (h : PB T w g t) (b : Below w.heap.size w w') : PB T w' g t := by
  unfold PB at *
  rw [b.block g (PB.lt h)]
  exact h
theorem PB.new (T : Nat) (w : World) (x : Sp) : PB T (w.alloc (.cells #[.int .i64 x.1, .int .i64 x.2] T)) w.heap.size x := heap_alloc_new w _
theorem PB.alloc {T : Nat} {w : World} {g : Nat} {t : Sp} (h : PB T w g t) (o : Obj) : PB T (w.alloc o) g t := h.below ((Below.refl _ w).alloc (Nat.le_refl _) _)

end Sn
end Go.Proofs.YtenipnlpambehaaDoor

/-
  Merged spans, plainly.
-/
set_option linter.unusedVariables false
set_option linter.unusedSimpArgs false
namespace Go.Proofs.YtenipnlpambehaaDoor
open Go.RowKit
namespace Sn

/-- Whether a byte is in one of the spans. -/
def inN (t : List Sp) (p : Int) : Bool := t.any fun x => decide (x.1 ≤ p ∧ p < x.2)
/-- Spans that rise and don't touch. -/
def Norm : List Sp → Prop
  | [] => True
  | x :: t => x.1 < x.2 ∧ (∀ y ∈ t, x.2 < y.1) ∧ Norm t
theorem inN_cons (x : Sp) (t : List Sp) (p : Int) : inN (x :: t) p = (decide (x.1 ≤ p ∧ p < x.2) || inN t p) := rfl
theorem inN_app (s t : List Sp) (p : Int) : inN (s ++ t) p = (inN s p || inN t p) := by unfold inN; rw [List.any_append]
theorem inN_t {t : List Sp} {p : Int} : inN t p = true ↔ ∃ x ∈ t, x.1 ≤ p ∧ p < x.2 := by unfold inN; rw [List.any_eq_true]; simp
theorem Norm.pos : ∀ {t : List Sp}, Norm t → ∀ x ∈ t, x.1 < x.2
  | [], _, x, h => by simp at h
  | y :: t, h, x, hx => by
    rcases List.mem_cons.1 hx with rfl | hx
    · exact h.1
    · exact Norm.pos h.2.2 x hx
theorem Norm.app : ∀ {s t : List Sp}, Norm s → Norm t → (∀ x ∈ s, ∀ y ∈ t, x.2 < y.1) → Norm (s ++ t)
  | [], t, _, h, _ => h
  | x :: s, t, h1, h2, h => by
    refine ⟨h1.1, fun y hy => ?_, Norm.app h1.2.2 h2 (fun a ha => h a (List.mem_cons_of_mem _ ha))⟩
    rcases List.mem_append.1 hy with hy | hy
    · exact h1.2.1 y hy
    · exact h x List.mem_cons_self y hy
theorem Norm.left : ∀ {s t : List Sp}, Norm (s ++ t) → Norm s
  | [], _, _ => trivial
  | x :: s, t, h => ⟨h.1, fun y hy => h.2.1 y (List.mem_append_left _ hy), Norm.left h.2.2⟩
theorem Norm.cross : ∀ {s t : List Sp}, Norm (s ++ t) → ∀ x ∈ s, ∀ y ∈ t, x.2 < y.1
  | [], _, _, x, hx, _, _ => by simp at hx
  | x :: s, t, h, a, ha, y, hy => by
    rcases List.mem_cons.1 ha with rfl | ha
    · exact h.2.1 y (List.mem_append_right _ hy)
    · exact Norm.cross h.2.2 a ha y hy

/-- One more span, by rising beginnings: put to the last one, or behind it. -/
def stepM (acc : List Sp) (x : Sp) : List Sp := match acc.getLast? with
  | none => acc ++ [x]
  | some y => if x.1 ≤ y.2 then acc.dropLast ++ [(y.1, max y.2 x.2)] else acc ++ [x]
theorem stepM_push {acc : List Sp} {x : Sp} (h : ∀ y, acc.getLast? = some y → y.2 < x.1) : stepM acc x = acc ++ [x] := by
  unfold stepM
  split
  · rfl
  · rename_i y hy
    rw [if_neg (by have := h y hy; omega)]
theorem stepM_join {acc : List Sp} {x y : Sp} (hy : acc.getLast? = some y) (h : x.1 ≤ y.2) : stepM acc x = acc.dropLast ++ [(y.1, max y.2 x.2)] := by
  unfold stepM
  rw [hy]
  dsimp only
  rw [if_pos h]
/-- What the spans merged so far are, against those that were taken. -/
structure MInv (p acc : List Sp) (m : Int) : Prop where
  norm : Norm acc
  same : ∀ q, inN acc q = inN p q
  low : ∀ y ∈ acc, y.1 ≤ m
theorem MInv.mono {p acc : List Sp} {m m' : Int} (h : MInv p acc m) (hm : m ≤ m') : MInv p acc m' := ⟨h.norm, h.same, fun y hy => Int.le_trans (h.low y hy) hm⟩
theorem MInv.start (m : Int) : MInv [] [] m := ⟨trivial, fun _ => rfl, fun y hy => by simp at hy⟩
theorem last_split {acc : List Sp} {y : Sp} (h : acc.getLast? = some y) : acc = acc.dropLast ++ [y] := by
  rw [List.getLast?_eq_some_iff] at h
  obtain ⟨ys, rfl⟩ := h
  simp
theorem MInv.step {p acc : List Sp} {x : Sp} (h : MInv p acc x.1) (hx : x.1 < x.2) : MInv (p ++ [x]) (stepM acc x) x.1 := by
  cases hl : acc.getLast? with
  | none =>
    have e : acc = [] := List.getLast?_eq_none_iff.1 hl
    subst e
    have hs : stepM [] x = [x] := rfl
    rw [hs]
    refine ⟨⟨hx, fun y hy => by simp at hy, trivial⟩, fun q => ?_, fun y hy => ?_⟩
    · rw [inN_app, ← h.same q]; rfl
    · simp at hy; subst hy; exact Int.le_refl _
  | some y =>
    have e := last_split hl
    generalize acc.dropLast = r at *
    subst e
    have hn := h.norm
    have hy1 : y.1 ≤ x.1 := h.low y (by simp)
    have hyp : y.1 < y.2 := hn.pos y (by simp)
    by_cases hc : x.1 ≤ y.2
    · have hs : stepM (r ++ [y]) x = r ++ [(y.1, max y.2 x.2)] := by
        rw [stepM_join hl hc]
        simp
      rw [hs]
      refine ⟨hn.left.app ⟨by show y.1 < max y.2 x.2; omega, fun z hz => by simp at hz, trivial⟩ (fun a ha b hb => ?_), fun q => ?_, fun z hz => ?_⟩
      · simp at hb
        subst hb
        exact hn.cross a ha y (by simp)
      · rw [inN_app, inN_app, ← h.same q, inN_app, Bool.or_assoc]
        congr 1
        simp only [inN, List.any_cons, List.any_nil, Bool.or_false]
        rw [← Bool.decide_or, decide_eq_decide]
        omega
      · rcases List.mem_append.1 hz with hz | hz
        · exact h.low z (List.mem_append_left _ hz)
        · simp at hz; subst hz; exact hy1
    · have hs : stepM (r ++ [y]) x = (r ++ [y]) ++ [x] := by
        refine stepM_push (fun z hz => ?_)
        rw [hl] at hz
        cases hz
        omega
      rw [hs]
      refine ⟨hn.app ⟨hx, fun z hz => by simp at hz, trivial⟩ (fun a ha b hb => ?_), fun q => ?_, fun z hz => ?_⟩
      · simp at hb
        subst hb
        rcases List.mem_append.1 ha with ha | ha
        · have := hn.cross a ha y (by simp)
          omega
        · simp at ha; subst ha; omega
      · rw [inN_app, h.same q, inN_app]
      · rcases List.mem_append.1 hz with hz | hz
        · exact h.low z hz
        · simp at hz; subst hz; exact Int.le_refl _
/-- Spans that rise and don't touch are told by their bytes. -/
theorem Norm.one : ∀ {s t : List Sp}, Norm s → Norm t → (∀ p, inN s p = inN t p) → s = t
  | [], [], _, _, _ => rfl
  | [], y :: t, _, h, he => by
    have := he y.1
    have h2 : inN (y :: t) y.1 = true := inN_t.2 ⟨y, by simp, Int.le_refl _, h.1⟩
    rw [h2] at this
    cases this
  | x :: s, [], h, _, he => by
    have := he x.1
    have h2 : inN (x :: s) x.1 = true := inN_t.2 ⟨x, by simp, Int.le_refl _, h.1⟩
    rw [h2] at this
    cases this
  | x :: s, y :: t, h1, h2, he => by
    have a1 : inN (x :: s) x.1 = true := inN_t.2 ⟨x, by simp, Int.le_refl _, h1.1⟩
    have a2 : inN (y :: t) y.1 = true := inN_t.2 ⟨y, by simp, Int.le_refl _, h2.1⟩
    have low : ∀ {z : Sp} {r : List Sp}, Norm (z :: r) → ∀ p, inN (z :: r) p = true → z.1 ≤ p := fun {z r} hz p hp => by
      obtain ⟨v, hv, v1, v2⟩ := inN_t.1 hp
      rcases List.mem_cons.1 hv with rfl | hv
      · exact v1
      · have := hz.2.1 v hv
        have := hz.1
        omega
    have e1 : x.1 = y.1 := by
      have := low h2 x.1 ((he x.1).symm.trans a1)
      have := low h1 y.1 ((he y.1).trans a2)
      omega
    have gap : ∀ {z : Sp} {r : List Sp}, Norm (z :: r) → inN (z :: r) z.2 = false := fun {z r} hz => by
      rw [Bool.eq_false_iff]
      intro hp
      obtain ⟨v, hv, v1, v2⟩ := inN_t.1 hp
      rcases List.mem_cons.1 hv with rfl | hv
      · omega
      · have := hz.2.1 v hv
        omega
    have e2 : x.2 = y.2 := by
      rcases (show x.2 < y.2 ∨ x.2 = y.2 ∨ y.2 < x.2 by omega) with h | h | h
      · have g := gap h1
        rw [he] at g
        have : inN (y :: t) x.2 = true := inN_t.2 ⟨y, by simp, by have := h1.1; omega, h⟩
        rw [this] at g
        cases g
      · exact h
      · have g := gap h2
        rw [← he] at g
        have : inN (x :: s) y.2 = true := inN_t.2 ⟨x, by simp, by have := h2.1; omega, h⟩
        rw [this] at g
        cases g
    have e : x = y := Prod.ext e1 e2
    subst e
    congr 1
    refine Norm.one h1.2.2 h2.2.2 (fun p => ?_)
    have hp := he p
    rw [inN_cons, inN_cons] at hp
    by_cases hin : x.1 ≤ p ∧ p < x.2
    · have n : ∀ {r : List Sp}, (∀ y ∈ r, x.2 < y.1) → inN r p = false := fun {r} hr => by
        rw [Bool.eq_false_iff]
        intro h
        obtain ⟨v, hv, v1, v2⟩ := inN_t.1 h
        have := hr v hv
        omega
      rw [n h1.2.1, n h2.2.1]
    · rw [decide_eq_false hin] at hp
      simpa using hp

end Sn
end Go.Proofs.YtenipnlpambehaaDoor

/-
  A row of spans that is the call's own: cells read and written; made, copied, cleared.
-/
set_option linter.unusedVariables false
set_option linter.unusedSimpArgs false
namespace Go.Proofs.YtenipnlpambehaaDoor
open Go.RowKit
namespace Sn

/-- The block g holds these spans. -/
def RW (T : Nat) (w : World) (g : Nat) (d : List Sp) : Prop := w.heap[g]? = some (.cells (encN d).toArray T (0, 0))
theorem RW.c0 {T : Nat} {w : World} {g : Nat} {d : List Sp} (h : RW T w g d) (j : Nat) (hj : j < d.length) : w.cell? ⟨g, j * 2, none⟩ = some (.int .i64 (nthN d j).1) := by
  have := Lib.cell_of_heap h (j * 2)
  rw [this]
  simpa using (encN_at d j hj).1
theorem RW.c1 {T : Nat} {w : World} {g : Nat} {d : List Sp} (h : RW T w g d) (j : Nat) (hj : j < d.length) : w.cell? ⟨g, j * 2 + 1, none⟩ = some (.int .i64 (nthN d j).2) := by
  have := Lib.cell_of_heap h (j * 2 + 1)
  rw [this]
  simpa using (encN_at d j hj).2
theorem RW.f {T : Nat} {w : World} {g : Nat} {d : List Sp} (h : RW T w g d) (j : Nat) : w.frozen? ⟨g, j, none⟩ = false := Lib.frozen_of_heap h j
theorem RW.lt {T : Nat} {w : World} {g : Nat} {d : List Sp} (h : RW T w g d) : g < w.heap.size := by
  rcases Nat.lt_or_ge g w.heap.size with h' | h'
  · exact h'
  · unfold RW at h; simp [Array.getElem?_eq_none h'] at h
theorem RW.below {T : Nat} {w w' : World} {g : Nat} {d : List Sp} (h : RW T w g d) (b : Below w.heap.size w w') : RW T w' g d := by
  unfold RW at *
  rw [b.block g (RW.lt h)]
  exact h
theorem encN_set : ∀ (d : List Sp) (j : Nat) (a b : Int), encN (d.set j (a, b)) = ((encN d).set (j * 2) (.int .i64 a)).set (j * 2 + 1) (.int .i64 b)
  | [], j, a, b => by simp [encN]
  | x :: d, 0, a, b => rfl
  | x :: d, j + 1, a, b => by
    have ih := encN_set d j a b
    have e : ∀ (y : Sp) (t : List Sp), encN (y :: t) = .int .i64 y.1 :: .int .i64 y.2 :: encN t := fun _ _ => rfl
    rw [List.set_cons_succ, e, e, ih, show (j + 1) * 2 = j * 2 + 1 + 1 by omega]
    simp
theorem RW.set {T : Nat} {w : World} {g : Nat} {d : List Sp} (h : RW T w g d) (j : Nat) (a b : Int) : RW T ((w.setCell ⟨g, j * 2, none⟩ (.int .i64 a)).setCell ⟨g, j * 2 + 1, none⟩ (.int .i64 b)) g (d.set j (a, b)) := by
  unfold RW at h ⊢
  rw [encN_set]
  simp [World.setCell, Array.getElem?_modify, h]
theorem encN_set1 : ∀ (d : List Sp) (j : Nat) (b : Int), encN (d.set j ((nthN d j).1, b)) = (encN d).set (j * 2 + 1) (.int .i64 b)
  | [], j, b => by simp [encN]
  | x :: d, 0, b => rfl
  | x :: d, j + 1, b => by
    have ih := encN_set1 d j b
    have e : ∀ (y : Sp) (t : List Sp), encN (y :: t) = .int .i64 y.1 :: .int .i64 y.2 :: encN t := fun _ _ => rfl
    have n : nthN (x :: d) (j + 1) = nthN d j := by unfold nthN; simp
    rw [n, List.set_cons_succ, e, e, ih, show (j + 1) * 2 + 1 = j * 2 + 1 + 1 + 1 by omega]
    simp
theorem RW.set1 {T : Nat} {w : World} {g : Nat} {d : List Sp} (h : RW T w g d) (j : Nat) (b : Int) : RW T (w.setCell ⟨g, j * 2 + 1, none⟩ (.int .i64 b)) g (d.set j ((nthN d j).1, b)) := by
  unfold RW at h ⊢
  rw [encN_set1]
  simp [World.setCell, Array.getElem?_modify, h]
theorem made2 (n : Nat) : madeCells #[(.int .i64 0 : Value), .int .i64 0] (n * 2) = (encN (List.replicate n (0, 0))).toArray := by
  apply Array.toList_inj.1
  apply List.ext_getElem?
  intro i
  have hl : (encN (List.replicate n ((0, 0) : Sp))).length = n * 2 := by rw [encN_len]; simp
  by_cases hi : i < n * 2
  · have e1 : (madeCells #[(.int .i64 0 : Value), .int .i64 0] (n * 2)).toList[i]? = some (.int .i64 0) := by
      unfold madeCells
      have : i % 2 = 0 ∨ i % 2 = 1 := by omega
      rcases this with h | h <;> simp [hi, h]
    rw [e1]
    have hj : i / 2 < (List.replicate n ((0, 0) : Sp)).length := by simp; omega
    have hn : nthN (List.replicate n ((0, 0) : Sp)) (i / 2) = (0, 0) := by
      unfold nthN
      rw [List.getD_eq_getElem?_getD, List.getElem?_replicate]
      split <;> rfl
    obtain ⟨c0, c1⟩ := encN_at (List.replicate n ((0, 0) : Sp)) (i / 2) hj
    rw [hn] at c0 c1
    rcases (show i = i / 2 * 2 ∨ i = i / 2 * 2 + 1 by omega) with h | h
    · rw [h]; exact c0.symm
    · rw [h]; exact c1.symm
  · rw [List.getElem?_eq_none (by simp [size_madeCells]; omega), List.getElem?_eq_none (by simp [hl]; omega)]
theorem run_mkN (W : World) (n : Nat) (hn : n ≤ 4294967296) : (Instr.makeSlice 32 (.int .i64 (n : Int)) (.int .i64 (n : Int))).run Tryd.prog W = .ok (.slice (some ⟨W.heap.size, 0, none⟩) n n) (W.alloc (.cells (encN (List.replicate n (0, 0))).toArray 44 (0, 0))) := by
  obtain ⟨i0, hi, hz0, hz1, hz2⟩ := info_parts infoN
  have hr := run_make (P := Tryd.prog) W 32 44 i0 (.agg #[.int .i64 0, .int .i64 0]) Tryd.underlying32 hi hz0 .i64 .i64 (n : Int) (n : Int) (by omega) (Int.le_refl _) (by rw [hz2]; omega) (by omega)
  simp only [Int.toNat_natCast, hz1] at hr
  rw [hr, ← made2]
  rfl
theorem encN_one (t : List Sp) : ∀ v ∈ encN t, v.oneCell' = true := fun v hv => by
  unfold encN encN1 at hv
  simp at hv
  obtain ⟨x, y, _, h⟩ := hv
  rcases h with rfl | rfl <;> rfl
/-- 'copy' of spans into a row of the call's own, as long. -/
theorem run_copyN (w : World) (ty : TypeId) (g : Nat) (n c1 c2 : Nat) (a : Addr) (d t : List Sp) (hg : RW 44 w g d) (hd : d.length = n) (ht : t.length = n)
    (hsrc : ∀ j v, (encN t)[j]? = some v → w.cell? (a.add j) = some v) :
    (Builtin.copy_ #[32, 32] ty #[.slice (some ⟨g, 0, none⟩) n c1, .slice (some a) n c2]).run Tryd.prog w = .ok (goInt n) (w.setRow g (encN t).toArray) := by
  obtain ⟨i0, hi, hz0, hz1, hz2⟩ := info_parts infoN
  have hl := run_loadCells_list (P := Tryd.prog) w a (encN t) hsrc
  have h1 := encN_one t
  have hst := run_storeCells_at Tryd.prog g 0 44 (encN t) 0 (encN d).toArray w hg (by simp [encN_len, hd, ht]) h1
  have hlen : (encN t).length = n * 2 := by rw [encN_len, ht]
  have hlen2 : (encN d).length = n * 2 := by rw [encN_len, hd]
  rw [hlen] at hl
  simp [Builtin.copy_, run_underlying Tryd.underlying32, Builtin.lenOf, Builtin.firstCells, sizeOf, typeInfo, hi, hz1, hl, hst, hlen, hlen2]
  rw [List.drop_of_length_le (by omega), List.append_nil]

end Sn
end Go.Proofs.YtenipnlpambehaaDoor
