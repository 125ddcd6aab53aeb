/- Several texts as one. -/
import Derived.Test.YthdfgepnadgkjaaGreatDoorZzI
import Derived.Laws.MakeOwn
import Derived.Laws.CopyRow
import Derived.Lib.SliceRun
import Derived.Test.YthdfgepnadgkjaaGreatDoorSnB
/-
  Merged spans, plainly.
-/
set_option linter.unusedVariables false
set_option linter.unusedSimpArgs false
namespace Go.Proofs.YthdfgepnadgkjaaGreatDoor
open Go.RowKit
namespace Sn

/-- Whether a byte is in one of the spans. -/
def inN (t : List Sp) (p : Int) : Bool := t.any fun x => decide (x.1 ≤ p ∧ p < x.2)
/-- Spans that rise and don't touch. -/
def Norm : List Sp → Prop
  | [] => True
  | x :: t => x.1 < x.2 ∧ (∀ y ∈ t, x.2 < y.1) ∧ Norm t
theorem inN_cons (x : Sp) (t : List Sp) (p : Int) : inN (x :: t) p = (decide (x.1 ≤ p ∧ p < x.2) || inN t p) := rfl
theorem inN_app (s t : List Sp) (p : Int) : inN (s ++ t) p = (inN s p || inN t p) := by unfold inN; rw [List.any_append]
theorem inN_t {t : List Sp} {p : Int} : inN t p = true ↔ ∃ x ∈ t, x.1 ≤ p ∧ p < x.2 := by unfold inN; rw [List.any_eq_true]; simp
theorem Norm.pos : ∀ {t : List Sp}, Norm t → ∀ x ∈ t, x.1 < x.2
  | [], _, x, h => by simp at h
  | y :: t, h, x, hx => by
    rcases List.mem_cons.1 hx with rfl | hx
    · exact h.1
    · exact Norm.pos h.2.2 x hx
theorem Norm.app : ∀ {s t : List Sp}, Norm s → Norm t → (∀ x ∈ s, ∀ y ∈ t, x.2 < y.1) → Norm (s ++ t)
  | [], t, _, h, _ => h
  | x :: s, t, h1, h2, h => by
    refine ⟨h1.1, fun y hy => ?_, Norm.app h1.2.2 h2 (fun a ha => h a (List.mem_cons_of_mem _ ha))⟩
    rcases List.mem_append.1 hy with hy | hy
    · exact h1.2.1 y hy
    · exact h x List.mem_cons_self y hy
theorem Norm.left : ∀ {s t : List Sp}, Norm (s ++ t) → Norm s
  | [], _, _ => trivial
  | x :: s, t, h => ⟨h.1, fun y hy => h.2.1 y (List.mem_append_left _ hy), Norm.left h.2.2⟩
theorem Norm.cross : ∀ {s t : List Sp}, Norm (s ++ t) → ∀ x ∈ s, ∀ y ∈ t, x.2 < y.1
  | [], _, _, x, hx, _, _ => by simp at hx
  | x :: s, t, h, a, ha, y, hy => by
    rcases List.mem_cons.1 ha with rfl | ha
    · exact h.2.1 y (List.mem_append_right _ hy)
    · exact Norm.cross h.2.2 a ha y hy

/-- One more span, by rising beginnings: put to the last one, or behind it. -/
def stepM (acc : List Sp) (x : Sp) : List Sp := match acc.getLast? with
  | none => acc ++ [x]
  | some y => if x.1 ≤ y.2 then acc.dropLast ++ [(y.1, max y.2 x.2)] else acc ++ [x]
theorem stepM_push {acc : List Sp} {x : Sp} (h : ∀ y, acc.getLast? = some y → y.2 < x.1) : stepM acc x = acc ++ [x] := by
  unfold stepM
  split
  · rfl
  · rename_i y hy
    rw [if_neg (by have := h y hy; omega)]
theorem stepM_join {acc : List Sp} {x y : Sp} (hy : acc.getLast? = some y) (h : x.1 ≤ y.2) : stepM acc x = acc.dropLast ++ [(y.1, max y.2 x.2)] := by
  unfold stepM
  rw [hy]
  dsimp only
  rw [if_pos h]
/-- What the spans merged so far are, against those that were taken. -/
structure MInv (p acc : List Sp) (m : Int) : Prop where
  norm : Norm acc
  same : ∀ q, inN acc q = inN p q
  low : ∀ y ∈ acc, y.1 ≤ m
theorem MInv.mono {p acc : List Sp} {m m' : Int} (h : MInv p acc m) (hm : m ≤ m') : MInv p acc m' := ⟨h.norm, h.same, fun y hy => Int.le_trans (h.low y hy) hm⟩
theorem MInv.start (m : Int) : MInv [] [] m := ⟨trivial, fun _ => rfl, fun y hy => by simp at hy⟩
theorem last_split {acc : List Sp} {y : Sp} (h : acc.getLast? = some y) : acc = acc.dropLast ++ [y] := by
  rw [List.getLast?_eq_some_iff] at h
  obtain ⟨ys, rfl⟩ := h
  simp
theorem MInv.step {p acc : List Sp} {x : Sp} (h : MInv p acc x.1) (hx : x.1 < x.2) : MInv (p ++ [x]) (stepM acc x) x.1 := by
  cases hl : acc.getLast? with
  | none =>
    have e : acc = [] := List.getLast?_eq_none_iff.1 hl
    subst e
    have hs : stepM [] x = [x] := rfl
    rw [hs]
    refine ⟨⟨hx, fun y hy => by simp at hy, trivial⟩, fun q => ?_, fun y hy => ?_⟩
    · rw [inN_app, ← h.same q]; rfl
    · simp at hy; subst hy; exact Int.le_refl _
  | some y =>
    have e := last_split hl
    generalize acc.dropLast = r at *
    subst e
    have hn := h.norm
    have hy1 : y.1 ≤ x.1 := h.low y (by simp)
    have hyp : y.1 < y.2 := hn.pos y (by simp)
    by_cases hc : x.1 ≤ y.2
    · have hs : stepM (r ++ [y]) x = r ++ [(y.1, max y.2 x.2)] := by
        rw [stepM_join hl hc]
        simp
      rw [hs]
      refine ⟨hn.left.app ⟨by show y.1 < max y.2 x.2; omega, fun z hz => by simp at hz, trivial⟩ (fun a ha b hb => ?_), fun q => ?_, fun z hz => ?_⟩
      · simp at hb
        subst hb
        exact hn.cross a ha y (by simp)
      · rw [inN_app, inN_app, ← h.same q, inN_app, Bool.or_assoc]
        congr 1
        simp only [inN, List.any_cons, List.any_nil, Bool.or_false]
        rw [← Bool.decide_or, decide_eq_decide]
        omega
      · rcases List.mem_append.1 hz with hz | hz
        · exact h.low z (List.mem_append_left _ hz)
        · simp at hz; subst hz; exact hy1
    · have hs : stepM (r ++ [y]) x = (r ++ [y]) ++ [x] := by
        refine stepM_push (fun z hz => ?_)
        rw [hl] at hz
        cases hz
        omega
      rw [hs]
      refine ⟨hn.app ⟨hx, fun z hz => by simp at hz, trivial⟩ (fun a ha b hb => ?_), fun q => ?_, fun z hz => ?_⟩
      · simp at hb
        subst hb
        rcases List.mem_append.1 ha with ha | ha
        · have := hn.cross a ha y (by simp)
          omega
        · simp at ha; subst ha; omega
      · rw [inN_app, h.same q, inN_app]
      · rcases List.mem_append.1 hz with hz | hz
        · exact h.low z hz
        · simp at hz; subst hz; exact Int.le_refl _
/-- Spans that rise and don't touch are told by their bytes. -/
theorem Norm.one : ∀ {s t : List Sp}, Norm s → Norm t → (∀ p, inN s p = inN t p) → s = t
  | [], [], _, _, _ => rfl
  | [], y :: t, _, h, he => by
    have := he y.1
    have h2 : inN (y :: t) y.1 = true := inN_t.2 ⟨y, by simp, Int.le_refl _, h.1⟩
    rw [h2] at this
    cases this
  | x :: s, [], h, _, he => by
    have := he x.1
    have h2 : inN (x :: s) x.1 = true := inN_t.2 ⟨x, by simp, Int.le_refl _, h.1⟩
    rw [h2] at this
    cases this
  | x :: s, y :: t, h1, h2, he => by
    have a1 : inN (x :: s) x.1 = true := inN_t.2 ⟨x, by simp, Int.le_refl _, h1.1⟩
    have a2 : inN (y :: t) y.1 = true := inN_t.2 ⟨y, by simp, Int.le_refl _, h2.1⟩
    have low : ∀ {z : Sp} {r : List Sp}, Norm (z :: r) → ∀ p, inN (z :: r) p = true → z.1 ≤ p := fun {z r} hz p hp => by
      obtain ⟨v, hv, v1, v2⟩ := inN_t.1 hp
      rcases List.mem_cons.1 hv with rfl | hv
      · exact v1
      · have := hz.2.1 v hv
        have := hz.1
        omega
    have e1 : x.1 = y.1 := by
      have := low h2 x.1 ((he x.1).symm.trans a1)
      have := low h1 y.1 ((he y.1).trans a2)
      omega
    have gap : ∀ {z : Sp} {r : List Sp}, Norm (z :: r) → inN (z :: r) z.2 = false := fun {z r} hz => by
      rw [Bool.eq_false_iff]
      intro hp
      obtain ⟨v, hv, v1, v2⟩ := inN_t.1 hp
      rcases List.mem_cons.1 hv with rfl | hv
      · omega
      · have := hz.2.1 v hv
        omega
    have e2 : x.2 = y.2 := by
      rcases (show x.2 < y.2 ∨ x.2 = y.2 ∨ y.2 < x.2 by omega) with h | h | h
      · have g := gap h1
        rw [he] at g
        have : inN (y :: t) x.2 = true := inN_t.2 ⟨y, by simp, by have := h1.1; omega, h⟩
        rw [this] at g
        cases g
      · exact h
      · have g := gap h2
        rw [← he] at g
        have : inN (x :: s) y.2 = true := inN_t.2 ⟨x, by simp, by have := h2.1; omega, h⟩
        rw [this] at g
        cases g
    have e : x = y := Prod.ext e1 e2
    subst e
    congr 1
    refine Norm.one h1.2.2 h2.2.2 (fun p => ?_)
    have hp := he p
    rw [inN_cons, inN_cons] at hp
    by_cases hin : x.1 ≤ p ∧ p < x.2
    · have n : ∀ {r : List Sp}, (∀ y ∈ r, x.2 < y.1) → inN r p = false := fun {r} hr => by
        rw [Bool.eq_false_iff]
        intro h
        obtain ⟨v, hv, v1, v2⟩ := inN_t.1 h
        have := hr v hv
        omega
      rw [n h1.2.1, n h2.2.1]
    · rw [decide_eq_false hin] at hp
      simpa using hp

end Sn
end Go.Proofs.YthdfgepnadgkjaaGreatDoor

/-
  A row of spans that is the call's own: cells read and written; made, copied, cleared.
-/
set_option linter.unusedVariables false
set_option linter.unusedSimpArgs false
namespace Go.Proofs.YthdfgepnadgkjaaGreatDoor
open Go.RowKit
namespace Sn

/-- The block g holds these spans. -/
def RW (T : Nat) (w : World) (g : Nat) (d : List Sp) : Prop := w.heap[g]? = some (.cells (encN d).toArray T (0, 0))
theorem RW.c0 {T : Nat} {w : World} {g : Nat} {d : List Sp} (h : RW T w g d) (j : Nat) (hj : j < d.length) : w.cell? ⟨g, j * 2, none⟩ = some (.int .i64 (nthN d j).1) := by
  have := Lib.cell_of_heap h (j * 2)
  rw [this]
  simpa using (encN_at d j hj).1
theorem RW.c1 {T : Nat} {w : World} {g : Nat} {d : List Sp} (h : RW T w g d) (j : Nat) (hj : j < d.length) : w.cell? ⟨g, j * 2 + 1, none⟩ = some (.int .i64 (nthN d j).2) := by
  have := Lib.cell_of_heap h (j * 2 + 1)
  rw [this]
  simpa using (encN_at d j hj).2
theorem RW.f {T : Nat} {w : World} {g : Nat} {d : List Sp} (h : RW T w g d) (j : Nat) : w.frozen? ⟨g, j, none⟩ = false := Lib.frozen_of_heap h j
theorem RW.lt {T : Nat} {w : World} {g : Nat} {d : List Sp} (h : RW T w g d) : g < w.heap.size := by
  rcases Nat.lt_or_ge g w.heap.size with h' | h'
  · exact h'
  · unfold RW at h; simp [Array.getElem?_eq_none h'] at h
theorem RW.below {T : Nat} {w w' : World} {g : Nat} {d : List Sp} (h : RW T w g d) (b : Below w.heap.size w w') : RW T w' g d := by
  unfold RW at *
  rw [b.block g (RW.lt h)]
  exact h
theorem encN_set : ∀ (d : List Sp) (j : Nat) (a b : Int), encN (d.set j (a, b)) = ((encN d).set (j * 2) (.int .i64 a)).set (j * 2 + 1) (.int .i64 b)
  | [], j, a, b => by simp [encN]
  | x :: d, 0, a, b => rfl
  | x :: d, j + 1, a, b => by
    have ih := encN_set d j a b
    have e : ∀ (y : Sp) (t : List Sp), encN (y :: t) = .int .i64 y.1 :: .int .i64 y.2 :: encN t := fun _ _ => rfl
    rw [List.set_cons_succ, e, e, ih, show (j + 1) * 2 = j * 2 + 1 + 1 by omega]
    simp
theorem RW.set {T : Nat} {w : World} {g : Nat} {d : List Sp} (h : RW T w g d) (j : Nat) (a b : Int) : RW T ((w.setCell ⟨g, j * 2, none⟩ (.int .i64 a)).setCell ⟨g, j * 2 + 1, none⟩ (.int .i64 b)) g (d.set j (a, b)) := by
  unfold RW at h ⊢
  rw [encN_set]
  simp [World.setCell, Array.getElem?_modify, h]
theorem encN_set1 : ∀ (d : List Sp) (j : Nat) (b : Int), encN (d.set j ((nthN d j).1, b)) = (encN d).set (j * 2 + 1) (.int .i64 b)
  | [], j, b => by simp [encN]
  | x :: d, 0, b => rfl
  | x :: d, j + 1, b => by
    have ih := encN_set1 d j b
    have e : ∀ (y : Sp) (t : List Sp), encN (y :: t) = .int .i64 y.1 :: .int .i64 y.2 :: encN t := fun _ _ => rfl
    have n : nthN (x :: d) (j + 1) = nthN d j := by unfold nthN; simp
    rw [n, List.set_cons_succ, e, e, ih, show (j + 1) * 2 + 1 = j * 2 + 1 + 1 + 1 by omega]
    simp
theorem RW.set1 {T : Nat} {w : World} {g : Nat} {d : List Sp} (h : RW T w g d) (j : Nat) (b : Int) : RW T (w.setCell ⟨g, j * 2 + 1, none⟩ (.int .i64 b)) g (d.set j ((nthN d j).1, b)) := by
  unfold RW at h ⊢
  rw [encN_set1]
  simp [World.setCell, Array.getElem?_modify, h]
theorem made2 (n : Nat) : madeCells #[(.int .i64 0 : Value), .int .i64 0] (n * 2) = (encN (List.replicate n (0, 0))).toArray := by
  apply Array.toList_inj.1
  apply List.ext_getElem?
  intro i
  have hl : (encN (List.replicate n ((0, 0) : Sp))).length = n * 2 := by rw [encN_len]; simp
  by_cases hi : i < n * 2
  · have e1 : (madeCells #[(.int .i64 0 : Value), .int .i64 0] (n * 2)).toList[i]? = some (.int .i64 0) := by
      unfold madeCells
      have : i % 2 = 0 ∨ i % 2 = 1 := by omega
      rcases this with h | h <;> simp [hi, h]
    rw [e1]
    have hj : i / 2 < (List.replicate n ((0, 0) : Sp)).length := by simp; omega
    have hn : nthN (List.replicate n ((0, 0) : Sp)) (i / 2) = (0, 0) := by
      unfold nthN
      rw [List.getD_eq_getElem?_getD, List.getElem?_replicate]
      split <;> rfl
    obtain ⟨c0, c1⟩ := encN_at (List.replicate n ((0, 0) : Sp)) (i / 2) hj
    rw [hn] at c0 c1
    rcases (show i = i / 2 * 2 ∨ i = i / 2 * 2 + 1 by omega) with h | h
    · rw [h]; exact c0.symm
    · rw [h]; exact c1.symm
  · rw [List.getElem?_eq_none (by simp [size_madeCells]; omega), List.getElem?_eq_none (by simp [hl]; omega)]
theorem run_mkN (W : World) (n : Nat) (hn : n ≤ 4294967296) : (Instr.makeSlice 22 (.int .i64 (n : Int)) (.int .i64 (n : Int))).run Tryz.prog W = .ok (.slice (some ⟨W.heap.size, 0, none⟩) n n) (W.alloc (.cells (encN (List.replicate n (0, 0))).toArray 38 (0, 0))) := by
  obtain ⟨i0, hi, hz0, hz1, hz2⟩ := info_parts infoN
  have hr := run_make (P := Tryz.prog) W 22 38 i0 (.agg #[.int .i64 0, .int .i64 0]) Tryz.underlying22 hi hz0 .i64 .i64 (n : Int) (n : Int) (by omega) (Int.le_refl _) (by rw [hz2]; omega) (by omega)
  simp only [Int.toNat_natCast, hz1] at hr
  rw [hr, ← made2]
  rfl
theorem encN_one (t : List Sp) : ∀ v ∈ encN t, v.oneCell' = true := fun v hv => by
  unfold encN encN1 at hv
  simp at hv
  obtain ⟨x, y, _, h⟩ := hv
  rcases h with rfl | rfl <;> rfl
/-- 'copy' of spans into a row of the call's own, as long. -/
theorem run_copyN (w : World) (ty : TypeId) (g : Nat) (n c1 c2 : Nat) (a : Addr) (d t : List Sp) (hg : RW 38 w g d) (hd : d.length = n) (ht : t.length = n)
    (hsrc : ∀ j v, (encN t)[j]? = some v → w.cell? (a.add j) = some v) :
    (Builtin.copy_ #[22, 22] ty #[.slice (some ⟨g, 0, none⟩) n c1, .slice (some a) n c2]).run Tryz.prog w = .ok (goInt n) (w.setRow g (encN t).toArray) := by
  obtain ⟨i0, hi, hz0, hz1, hz2⟩ := info_parts infoN
  have hl := run_loadCells_list (P := Tryz.prog) w a (encN t) hsrc
  have h1 := encN_one t
  have hst := run_storeCells_at Tryz.prog g 0 38 (encN t) 0 (encN d).toArray w hg (by simp [encN_len, hd, ht]) h1
  have hlen : (encN t).length = n * 2 := by rw [encN_len, ht]
  have hlen2 : (encN d).length = n * 2 := by rw [encN_len, hd]
  rw [hlen] at hl
  simp [Builtin.copy_, run_underlying Tryz.underlying22, Builtin.lenOf, Builtin.firstCells, sizeOf, typeInfo, hi, hz1, hl, hst, hlen, hlen2]
  rw [List.drop_of_length_le (by omega), List.append_nil]

end Sn
end Go.Proofs.YthdfgepnadgkjaaGreatDoor

/-
  slices.IndexFunc and slices.DeleteFunc at spans, with isEmpty.
-/
set_option linter.unusedVariables false
set_option linter.unusedSimpArgs false
namespace Go.Proofs.YthdfgepnadgkjaaGreatDoor
open Go.RowKit
namespace Sn
open Oc

def idxE (d : List Sp) : Int := match d.findIdx? emp with | some k => (k : Int) | none => -1
theorem nthN_mem {d : List Sp} {k : Nat} (h : k < d.length) : nthN d k = d[k] := by
  unfold nthN
  rw [List.getD_eq_getElem?_getD, List.getElem?_eq_getElem h]
  rfl
theorem idxE_at {d : List Sp} {k : Nat} (hk : k < d.length) (h : emp (nthN d k) = true) (hall : ∀ j, j < k → emp (nthN d j) = false) : idxE d = k := by
  unfold idxE
  have : d.findIdx? emp = some k := by
    rw [List.findIdx?_eq_some_iff_getElem]
    exact ⟨hk, by rw [← nthN_mem hk]; exact h, fun j hj => by rw [← nthN_mem (by omega), hall j hj]; simp⟩
  rw [this]
theorem idxE_none {d : List Sp} (hall : ∀ j, j < d.length → emp (nthN d j) = false) : idxE d = -1 ∧ d.filter (fun x => !emp x) = d := by
  have h : ∀ x ∈ d, emp x = false := fun x hx => by
    obtain ⟨k, hk, rfl⟩ := List.mem_iff_getElem.1 hx
    rw [← nthN_mem hk]
    exact hall k hk
  constructor
  · unfold idxE
    have : d.findIdx? emp = none := by
      rw [List.findIdx?_eq_none_iff]
      exact h
    rw [this]
  · rw [List.filter_eq_self]
    intro x hx
    rw [h x hx]
    rfl
theorem idxE_cases (d : List Sp) : (idxE d = -1 ∧ d.filter (fun x => !emp x) = d) ∨ (∃ k : Nat, k < d.length ∧ idxE d = k ∧ (d.take (k + 1)).filter (fun x => !emp x) = d.take k) := by
  cases h : d.findIdx? emp with
  | none =>
    left
    rw [List.findIdx?_eq_none_iff] at h
    exact idxE_none (fun j hj => h _ (by rw [nthN_mem hj]; exact List.getElem_mem _))
  | some k =>
    right
    rw [List.findIdx?_eq_some_iff_getElem] at h
    obtain ⟨hk, h1, h2⟩ := h
    refine ⟨k, hk, idxE_at hk (by rw [nthN_mem hk]; exact h1) (fun j hj => by rw [nthN_mem (by omega)]; simpa using h2 j hj), ?_⟩
    rw [List.take_succ_eq_append_getElem hk, List.filter_append]
    have e1 : (d.take k).filter (fun x => !emp x) = d.take k := by
      rw [List.filter_eq_self]
      intro x hx
      obtain ⟨j, hj, rfl⟩ := List.mem_iff_getElem.1 hx
      rw [List.length_take] at hj
      rw [List.getElem_take]
      simpa using h2 j (by omega)
    rw [e1]
    simp [h1]

set_option maxRecDepth 100000 in
set_option maxHeartbeats 1000000 in
theorem IndexFunc_e (g n c : Nat) (d : List Sp) (hd : d.length = n) (hn : n ≤ 4294967296) (w : World) (hrw : RW 38 w g d) :
    Calls Tryz.prog 45 #[.slice (some ⟨g, 0, none⟩) n c, .func (.func 15) #[] #[]] w fun e w' => e = .returned (.int .i64 (idxE d)) ∧ Below w.heap.size w w' := by
  have HR : Hid (RW 38 w g d) := hrw
  clear hrw
  go_enter Tryz.func45, Tryz.ntmps45
  go_wp2
  go_loopw [8] (fun i wr => ∃ k : Nat, k ≤ n ∧ i = .int .i64 k ∧ Hid (∀ j, j < k → emp (nthN d j) = false) ∧ Hid (Below w.heap.size w wr)) (fun i _ => n - (intOf i).toNat)
  case atStart => exact ⟨0, Nat.zero_le _, rfl, (fun j hj => by omega : ∀ j, j < 0 → _), Below.refl _ _⟩
  case round =>
    obtain ⟨k, hk, rfl, hall, hbl⟩ := hrel
    by_cases hlt : k < n
    · have hr := HR.out.below hbl.out
      have p0 := hr.c0 k (by omega)
      have p1 := hr.c1 k (by omega)
      clear hr
      have HN : Hid (∀ W, Calls _ _ _ W _) := fun W => isEmpty_any (nthN d k).1 (nthN d k).2 W
      have HT : emp (nthN d k) = true → Hid (idxE d = k) := fun h => idxE_at (by omega) h hall.out
      have HF : emp (nthN d k) = false → Hid (∀ j, j < k + 1 → emp (nthN d j) = false) := fun h j hj => by
        by_cases hjk : j = k
        · subst hjk; exact h
        · exact hall.out j (by omega)
      rw [show ((nthN d k).1, (nthN d k).2) = nthN d k from rfl] at HN
      generalize emp (nthN d k) = b at HN HT HF
      generalize (nthN d k).1 = X at *
      generalize (nthN d k).2 = Y at *
      cases b with
      | true =>
        have HT2 := HT rfl
        clear HT HF
        go_wp2_with fail
        refine (HN.out _).mono ?_
        rintro e w2 ⟨rfl, hb2⟩
        have HB2 : Hid (Below w.heap.size w w2) := bel_trans hbl.out hb2
        clear hb2
        go_wp2
        go_ret
        exact ⟨ret_int HT2.out.symm, HB2.out⟩
      | false =>
        have HF2 := HF rfl
        clear HT HF
        go_wp2_with fail
        refine (HN.out _).mono ?_
        rintro e w2 ⟨rfl, hb2⟩
        have HB2 : Hid (Below w.heap.size w w2) := bel_trans hbl.out hb2
        clear hb2
        go_wp2
        go_roundw
        case rel => exact ⟨k + 1, by omega, by go_num, HF2, HB2⟩
        case measure => simp [intOf]; omega
    · have HE : Hid (idxE d = -1) := (idxE_none (fun j hj => hall.out j (by omega))).1
      go_wp2
      go_ret
      exact ⟨ret_int HE.out.symm, hbl.out⟩

theorem encN_app (a b : List Sp) : encN (a ++ b) = encN a ++ encN b := by unfold encN; rw [List.flatMap_append]
theorem encN_take : ∀ (d : List Sp) (i : Nat), encN (d.take i) = (encN d).take (i * 2)
  | [], i => by simp [encN]
  | x :: d, 0 => by simp [encN]
  | x :: d, i + 1 => by
    have e : ∀ (y : Sp) (t : List Sp), encN (y :: t) = .int .i64 y.1 :: .int .i64 y.2 :: encN t := fun _ _ => rfl
    rw [List.take_succ_cons, e, e, encN_take d i, show (i + 1) * 2 = i * 2 + 1 + 1 by omega]
    simp
theorem run_clearN (w : World) (ty : TypeId) (g i m c : Nat) (d : List Sp) (hg : RW 38 w g d) (hm : 0 < m) (hd : i + m = d.length) :
    (Builtin.clear_ #[22] ty #[.slice (some ⟨g, i * 2, none⟩) m c]).run Tryz.prog w = .ok (.tuple #[]) (w.setRow g (encN (d.take i ++ List.replicate m (0, 0))).toArray) := by
  obtain ⟨i0, hi, hz0, hz1, hz2⟩ := info_parts infoN
  have h1 := encN_one (List.replicate m ((0, 0) : Sp))
  have hst := run_storeCells_at Tryz.prog g (i * 2) 38 (encN (List.replicate m ((0, 0) : Sp))) 0 (encN d).toArray w hg (by simp [encN_len]; omega) h1
  have hz : (Builtin.zeroCells (Value.agg #[.int .i64 0, .int .i64 0]).cells m).toList = encN (List.replicate m ((0, 0) : Sp)) := by
    show (madeCells #[(.int .i64 0 : Value), .int .i64 0] (m * 2)).toList = _
    rw [made2]
  obtain ⟨m', rfl⟩ : ∃ m', m = m' + 1 := ⟨m - 1, by omega⟩
  simp [Builtin.clear_, run_underlying Tryz.underlying22, zeroValue, typeInfo, hi, hz0, hz, hst]
  rw [encN_app, encN_take, List.drop_of_length_le (by rw [encN_len, encN_len]; simp; omega), List.append_nil]

theorem below_setRow {B : Nat} {w w' : World} {g : Nat} (h : Below B w w') (hg : B ≤ g) (cs : Array Value) : Below B w (w'.setRow g cs) := by
  refine ⟨h.os, h.tape, h.output, ?_, fun k hk => ?_⟩
  · have := h.size
    simp [World.setRow]
    omega
  · rw [← h.block k hk]
    simp [World.setRow, Array.getElem?_modify]
    omega
theorem RW.setRow {T : Nat} {w : World} {g : Nat} {d : List Sp} (h : RW T w g d) (t : List Sp) : RW T (w.setRow g (encN t).toArray) g t := by
  unfold RW at h ⊢
  simp [World.setRow, Array.getElem?_modify, h]

set_option maxRecDepth 100000 in
set_option maxHeartbeats 2000000 in
theorem DeleteFunc_e (g n c : Nat) (d : List Sp) (hd : d.length = n) (hn : n ≤ 4294967296) (hc : n ≤ c) (w : World) (hrw : RW 38 w g d) :
    Calls Tryz.prog 20 #[.slice (some ⟨g, 0, none⟩) n c, .func (.func 15) #[] #[]] w fun e w' => ∃ d' : List Sp, e = .returned (.slice (some ⟨g, 0, none⟩) (d.filter (fun x => !emp x)).length c) ∧ RW 38 w' g d' ∧ d'.length = n ∧ d'.take (d.filter (fun x => !emp x)).length = d.filter (fun x => !emp x) ∧ Below g w w' := by
  have HR : Hid (RW 38 w g d) := hrw
  have HI : Hid (Calls _ _ _ w _) := IndexFunc_e g n c d hd hn w hrw
  have hgw := hrw.lt
  clear hrw
  rcases idxE_cases d with ⟨hi, hf⟩ | ⟨k0, hk0, hi, hf⟩
  · rw [hi] at HI
    rw [hf]
    have HD : Hid (d.length = n) := hd
    clear hf hi
    go_enter Tryz.func20, Tryz.ntmps20
    go_wp2_with fail
    refine HI.out.mono ?_
    rintro e w2 ⟨rfl, hb2⟩
    have HB2 : Hid (Below w.heap.size w w2) := hb2
    clear hb2
    go_wp2
    go_ret
    exact ⟨d, by rw [HD.out]; rfl, HR.out.below HB2.out, HD.out, by rw [List.take_length], HB2.out.mono (by omega)⟩
  · rw [hi] at HI
    have HF0 : Hid ((d.take (k0 + 1)).filter (fun x => !emp x) = d.take k0) := hf
    clear hf hi
    have hneg : ((k0 : Int) == -1) = false := by rw [beq_eq_false_iff_ne]; omega
    go_enter Tryz.func20, Tryz.ntmps20
    go_wp2_with fail
    refine HI.out.mono ?_
    rintro e w2 ⟨rfl, hb2⟩
    have HB2 : Hid (Below g w w2) := hb2.mono (by omega)
    have HR2 : Hid (RW 38 w2 g d) := HR.out.below hb2
    clear hb2
    go_wp2
    go_loopw [5, 6] (fun iv jv wr => ∃ (i j : Nat) (d' : List Sp), i < j ∧ j ≤ n ∧ iv = .int .i64 i ∧ jv = .int .i64 j ∧ Hid (RW 38 wr g d') ∧ d'.length = n ∧ Hid (d'.take i = (d.take j).filter (fun x => !emp x)) ∧ Hid (∀ k, j ≤ k → nthN d' k = nthN d k) ∧ Hid (i = ((d.take j).filter (fun x => !emp x)).length) ∧ Hid (Below g w wr)) (fun _ jv _ => n - (intOf jv).toNat)
    case atStart =>
      refine ⟨k0, k0 + 1, d, by omega, by omega, rfl, by go_num, HR2, hd, ?_, (fun k _ => rfl : ∀ k, _), ?_, HB2⟩
      · exact (HF0.out.symm : d.take k0 = _)
      · exact (by rw [HF0.out, List.length_take]; omega : k0 = ((d.take (k0 + 1)).filter (fun x => !emp x)).length)
    case round =>
      obtain ⟨i, j, d', hij, hj, rfl, rfl, hrw, hl', htk, hrest, hlen, hbl⟩ := hrel
      by_cases hlt : j < n
      · have p0 := hrw.out.c0 j (by omega)
        have p1 := hrw.out.c1 j (by omega)
        have hnj := hrest.out j (Nat.le_refl _)
        rw [hnj] at p0 p1
        have HN : Hid (∀ W, Calls _ _ _ W _) := fun W => isEmpty_any (nthN d j).1 (nthN d j).2 W
        rw [show ((nthN d j).1, (nthN d j).2) = nthN d j from rfl] at HN
        have htj : d.take (j + 1) = d.take j ++ [nthN d j] := by rw [List.take_succ_eq_append_getElem (by omega), nthN_mem]
        have HE : Hid (emp (nthN d j) = true → (d.take (j + 1)).filter (fun x => !emp x) = (d.take j).filter (fun x => !emp x)) := (fun h => by rw [htj, List.filter_append]; simp [h] : _ → _ = _)
        have HK : Hid (emp (nthN d j) = false → (d.take (j + 1)).filter (fun x => !emp x) = (d.take j).filter (fun x => !emp x) ++ [nthN d j]) := (fun h => by rw [htj, List.filter_append]; simp [h] : _ → _ = _)
        clear htj hnj
        obtain ⟨X, hX⟩ : ∃ X, X = nthN d j := ⟨_, rfl⟩
        rw [← hX] at p0 p1 HN HE HK
        obtain ⟨x1, x2⟩ := X
        dsimp only at *
        have hgr : g < wr.heap.size := hrw.out.lt
        obtain ⟨w5, hw5⟩ : ∃ w5, w5 = wr.alloc (.cells #[.int .i64 x1, .int .i64 x2] 38) := ⟨_, rfl⟩
        have HP5 : Hid (PB 38 w5 wr.heap.size (x1, x2)) := (by rw [hw5]; exact PB.new _ wr (x1, x2) : PB _ _ _ _)
        have HB5 : Hid (Below wr.heap.size wr w5) := (by rw [hw5]; exact (Below.refl _ wr).alloc (Nat.le_refl _) _ : Below _ _ _)
        have q0 := HP5.out.c0
        have q1 := HP5.out.c1
        generalize hgx : wr.heap.size = gx at *
        go_wp2_with fail
        rw [← hw5]
        clear hw5
        refine (HN.out _).mono ?_
        rintro e w6 ⟨rfl, hb6⟩
        have HP6 : Hid (PB _ _ _ _) := HP5.out.below hb6
        have HB6 : Hid (Below wr.heap.size wr w6) := (by rw [hgx]; exact HB5.out.trans (hb6.mono (by have := HB5.out.size; omega)) : Below _ _ _)
        have HR6 : Hid (RW 38 w6 g d') := hrw.out.below HB6.out
        have HBg : Hid (Below g w w6) := hbl.out.trans (HB6.out.mono (by omega))
        clear hb6
        cases hem : emp (x1, x2) with
        | true =>
          have HE2 := HE.out hem
          have HT2 : Hid (d'.take i = (d.take (j + 1)).filter (fun x => !emp x)) := (by rw [HE2]; exact htk.out : _ = _)
          have HL2 : Hid (i = ((d.take (j + 1)).filter (fun x => !emp x)).length) := (by rw [HE2]; exact hlen.out : _ = _)
          clear HE2 HE HK hem hX
          go_wp2
          go_roundw
          case rel => exact ⟨i, j + 1, d', by omega, by omega, rfl, by go_num, HR6, hl', HT2, (fun k hk => hrest.out k (by omega) : ∀ k, _), HL2, HBg⟩
          case measure => simp [intOf]; omega
        | false =>
          have HK2 := HK.out hem
          have r0 := HP6.out.c0
          have r1 := HP6.out.c1
          have s0 := HR6.out.c0 i (by omega)
          have s1 := HR6.out.c1 i (by omega)
          have f0 := HR6.out.f (i * 2)
          have f1 := HR6.out.f (i * 2 + 1)
          obtain ⟨w7, hw7⟩ : ∃ w7, w7 = (w6.setCell ⟨g, i * 2, none⟩ (.int .i64 x1)).setCell ⟨g, i * 2 + 1, none⟩ (.int .i64 x2) := ⟨_, rfl⟩
          have HR7 : Hid (RW 38 w7 g (d'.set i (x1, x2))) := (by rw [hw7]; exact HR6.out.set i x1 x2 : RW _ _ _ _)
          have HB7 : Hid (Below g w w7) := (by rw [hw7]; exact (HBg.out.setCell (Nat.le_refl _) _).setCell (Nat.le_refl _) _ : Below _ _ _)
          have HT2 : Hid ((d'.set i (x1, x2)).take (i + 1) = (d.take (j + 1)).filter (fun x => !emp x)) := (by
            rw [HK2, ← htk.out, List.take_succ_eq_append_getElem (by simp; omega), List.take_set_of_le (Nat.le_refl _)]
            simp : _ = _)
          have HL2 : Hid (i + 1 = ((d.take (j + 1)).filter (fun x => !emp x)).length) := (by rw [HK2, List.length_append, ← hlen.out]; rfl : _ = _)
          have HS2 : Hid (∀ k, j + 1 ≤ k → nthN (d'.set i (x1, x2)) k = nthN d k) := (fun k hk => by
            rw [← hrest.out k (by omega)]
            unfold nthN
            rw [List.getD_eq_getElem?_getD, List.getD_eq_getElem?_getD, List.getElem?_set_ne (by omega)] : ∀ k, _)
          clear HK2 HE HK hem hX
          go_wp2_with fail
          rw [← hw7]
          clear hw7
          go_wp2
          go_roundw
          case rel => exact ⟨i + 1, j + 1, d'.set i (x1, x2), by omega, by omega, by go_num, by go_num, HR7, by simp [hl'], HT2, HS2, HL2, HB7⟩
          case measure => simp [intOf]; omega
      · obtain rfl : j = n := by omega
        have htl : d.take j = d := List.take_of_length_le (by omega)
        rw [htl] at htk hlen
        have hcl := run_clearN wr 0 g i (j - i) (c - i) d' hrw.out (by omega) (by omega)
        have HR8 : Hid (RW 38 (wr.setRow g (encN (d'.take i ++ List.replicate (j - i) (0, 0))).toArray) g (d'.take i ++ List.replicate (j - i) (0, 0))) := hrw.out.setRow _
        have HB8 : Hid (Below g w (wr.setRow g (encN (d'.take i ++ List.replicate (j - i) (0, 0))).toArray)) := below_setRow hbl.out (Nat.le_refl _) _
        go_wp2
        go_ret
        refine ⟨_, ?_, HR8.out, ?_, ?_, HB8.out⟩
        · rw [← hlen.out]; rfl
        · simp; omega
        · rw [← hlen.out, ← htk.out, List.take_append_of_le_length (by simp; omega), List.take_take, Nat.min_self]

end Sn
end Go.Proofs.YthdfgepnadgkjaaGreatDoor
