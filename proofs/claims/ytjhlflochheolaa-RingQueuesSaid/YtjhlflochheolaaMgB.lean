/- Several texts as one. -/
import Derived.Test.YtjhlflochheolaaMgA
import Derived.OpenShut
import Derived.SliceStrings
import Derived.Test.YtjhlflochheolaaProg
import Derived.WalkKit
import Derived.Laws.AppendOwnNone
import Derived.Deep.RegionLaw
import Derived.Laws.CopyOwn
import Derived.Deep.DeepMust
/-
  A script of calls of a queue that came in.
-/
set_option linter.unusedVariables false
set_option linter.unusedSimpArgs false
namespace Go.Proofs.Ytjhlflochheolaa
open Go.RowKit Go.ChangeShapes Go.WideShapes Go.ChangeAt
namespace Rg

/-- A call: its kind, its number, its text. -/
structure Qo where
  k : Int
  i : Int
  v : ByteArray
def nthq (ps : List Qo) (j : Nat) : Qo := ps.getD j ⟨0, 0, ⟨#[]⟩⟩
def RdQ (w : World) (v : Value) (ps : List Qo) : Prop :=
  ∃ a cap, v = .slice a ps.length cap ∧ ps.length ≤ cap ∧ (ps = [] ∨ ∃ g o, a = some ⟨g, o, none⟩ ∧ ∀ j, j < ps.length → (w.cell? ⟨g, o + j * 3, none⟩ = some (.int .i64 (nthq ps j).k) ∧ w.cell? ⟨g, o + j * 3 + 1, none⟩ = some (.int .i64 (nthq ps j).i) ∧ w.cell? ⟨g, o + j * 3 + 2, none⟩ = some (.string (nthq ps j).v)) ∧ (-9223372036854775808 ≤ (nthq ps j).k ∧ (nthq ps j).k ≤ 9223372036854775807) ∧ (-9223372036854775808 ≤ (nthq ps j).i ∧ (nthq ps j).i ≤ 9223372036854775807))

theorem cellsQo : Try.prog.cellsOf 52 = 3 := by kernel_rfl
set_option maxRecDepth 100000 in
theorem opened_q {H : Type} {enc : TypeId × Value → H} {W : World} {v : Value} {d : DataW H} {p : List MemPlace} {base : Nat} (hok : Value.okWide Try.prog W .any base 44 v)
    (h0 : DataW.Trod enc Try.prog W 0 (fun _ => true) true 44 v d p) : ∃ ps : List Qo, RdQ W v ps ∧ ps.length ≤ 9223372036854775807 := by
  obtain ⟨a0, len, cap, rfl⟩ := okWide_slice Try.underlying44 hok
  obtain ⟨fuel, hf⟩ := h0
  have cs1 : Try.prog.cellsOf 9 = 1 := by kernel_rfl
  have ci : Try.prog.cellsOf 3 = 1 := by kernel_rfl
  rcases DataW.trod_slice Try.underlying44 hf with ⟨hcs, hx⟩ | ⟨a, len', cap', elems, rest, n, _, hcs, hx, hb, hl, hm, hlen, hel, _, _⟩
  · simp [Value.cells] at hcs
    obtain ⟨rfl, rfl, rfl⟩ := hcs
    exact ⟨[], ⟨none, 0, rfl, Nat.le_refl _, .inl rfl⟩, by simp⟩
  · simp [Value.cells] at hcs
    obtain ⟨rfl, rfl, rfl⟩ := hcs
    simp only [Prod.mk.injEq] at hx
    obtain ⟨rfl, rfl⟩ := hx
    by_cases c : len = 0
    · exact ⟨[], ⟨some a, cap, by rw [c]; rfl, by simp, .inl rfl⟩, by simp⟩
    obtain ⟨b, off, spot⟩ := a
    have hspot : spot = none := by
      have h1 := hel 0 (by omega)
      have hy : elems[0]? = some elems[0] := List.getElem?_eq_getElem (by omega)
      rw [hy, cellsQo, Option.bind_eq_some_iff] at h1
      obtain ⟨cs, hcs, ht⟩ := h1
      obtain ⟨_, hl4, hcell⟩ := World.cells?_some hcs
      have k0 := hcell 0 (by omega)
      rw [List.getElem?_eq_getElem (by omega)] at k0
      simpa [Addr.add] using World.cell?_spot k0
    subst hspot
    have each : ∀ i, ∃ x : Qo, i < len → (W.cell? ⟨b, off + i * 3, none⟩ = some (.int .i64 x.k) ∧ W.cell? ⟨b, off + i * 3 + 1, none⟩ = some (.int .i64 x.i) ∧ W.cell? ⟨b, off + i * 3 + 2, none⟩ = some (.string x.v)) ∧ (-9223372036854775808 ≤ x.k ∧ x.k ≤ 9223372036854775807) ∧ (-9223372036854775808 ≤ x.i ∧ x.i ≤ 9223372036854775807) := by
      intro i
      by_cases hi : i < len
      · have h1 := hel i hi
        have hy : elems[i]? = some elems[i] := List.getElem?_eq_getElem (by omega)
        rw [hy, cellsQo, Option.bind_eq_some_iff] at h1
        obtain ⟨cs, hcs, ht⟩ := h1
        obtain ⟨ys, m, _, hx, hl4, hy4, hfs⟩ := DataW.trod_struct Try.underlying52 ht
        rw [cellsQo] at hl4
        have hcell := (World.cells?_some hcs).2.2
        have t0 := hfs 0 _ rfl
        have t1 := hfs 1 _ rfl
        have t2 := hfs 2 _ rfl
        match cs, hl4 with
        | [x0, x1, x2], _ =>
          match ys, hy4 with
          | [y0, y1, y2], _ =>
            simp [ci, cs1] at t0 t1 t2
            obtain ⟨m0, e0, q0, w0⟩ := DataW.trod_int Try.underlying3 t0
            obtain ⟨m1, e1, q1, w1⟩ := DataW.trod_int Try.underlying3 t1
            obtain ⟨m2, e2, q2, w2⟩ := DataW.trod_string Try.underlying9 t2
            simp at e0 e1 e2
            subst e0 e1 e2
            have k0 := hcell 0 (by omega)
            have k1 := hcell 1 (by omega)
            have k2 := hcell 2 (by omega)
            rw [Go.WideShapes.add_plain, Go.WideShapes.add_plain] at k0 k1 k2
            exact ⟨⟨m0, m1, m2⟩, fun _ => ⟨⟨k0, k1, k2⟩, Rg.int_wf w0, Rg.int_wf w1⟩⟩
      · exact ⟨⟨0, 0, ⟨#[]⟩⟩, fun h => absurd h hi⟩
    obtain ⟨f, hf⟩ := Classical.axiomOfChoice each
    have hl2 : ((List.range len).map f).length = len := by simp
    refine ⟨(List.range len).map f, ⟨some ⟨b, off, none⟩, cap, by rw [hl2], by omega, ?_⟩, by rw [hl2]; unfold maxLen at hm; omega⟩
    right
    refine ⟨b, off, rfl, fun j hj => ?_⟩
    have hjl : j < len := by omega
    have e : nthq ((List.range len).map f) j = f j := by
      unfold nthq
      rw [List.getD_eq_getElem?_getD, List.getElem?_map, List.getElem?_range hjl]
      rfl
    rw [e]
    exact hf j hjl

end Rg
end Go.Proofs.Ytjhlflochheolaa

/-
  A queue in memory: its block, its store, the elements that wait. E: the element's type, S: its cells, QT: the queue's type.
-/
set_option linter.unusedVariables false
set_option linter.unusedSimpArgs false
namespace Go.Proofs.Ytjhlflochheolaa
open Go.RowKit
namespace Rg

structure IsQ (w : World) (E S QT qp : Nat) (sv : Value) (cap head count n : Nat) (cs : List Value) : Prop where
  str : w.heap[qp]? = some (.cells #[sv, .int .i64 (cap : Int), .int .i64 (head : Int), .int .i64 (count : Int)] QT (0, 0))
  own : w.ownsRow 0 E S sv n cs
  sep : ∀ g, sv.ownBlock = some g → g ≠ qp
  cap1 : 1 ≤ cap
  cap2 : cap ≤ 65536
  hn : n ≤ cap
  hc : count ≤ n
  hh : head < cap
  grow : n < cap → head + count = n

theorem row4q {W : World} {b T : Nat} {x y z u : Value} (h : W.heap[b]? = some (.cells #[x, y, z, u] T (0, 0))) : W.cell? ⟨b, 0, none⟩ = some x ∧ W.cell? ⟨b, 1, none⟩ = some y ∧ W.cell? ⟨b, 2, none⟩ = some z ∧ W.cell? ⟨b, 3, none⟩ = some u ∧ ∀ i, W.frozen? ⟨b, i, none⟩ = false := by
  refine ⟨?_, ?_, ?_, ?_, fun i => frozen_of_row W b i _ _ h⟩ <;> rw [cell_of_row W b _ _ _ _ h] <;> rfl

/-- The elements that wait, each as its cells. -/
def wait (cap head count S : Nat) (cs : List Value) : List (List Value) := (List.range count).map fun i => (cs.drop (pl cap head i * S)).take S

theorem wait_length (cap head count S : Nat) (cs : List Value) : (wait cap head count S cs).length = count := by simp [wait]

/-- Where an element that waits stands. -/
theorem IsQ.pl_lt {w : World} {E S QT qp : Nat} {sv : Value} {cap head count n : Nat} {cs : List Value} (H : IsQ w E S QT qp sv cap head count n cs) {i : Nat} (hi : i < count) : pl cap head i < n := by
  have h1 := H.hn
  have h2 := H.hc
  have h3 := H.hh
  by_cases h : n < cap
  · have h4 := H.grow h
    unfold pl
    split <;> omega
  · unfold pl
    split <;> omega
/-- Where the next one goes. -/
theorem IsQ.pl_next {w : World} {E S QT qp : Nat} {sv : Value} {cap head count n : Nat} {cs : List Value} (H : IsQ w E S QT qp sv cap head count n cs) (hi : count < cap) : (n < cap → pl cap head count = n) ∧ (n = cap → pl cap head count < n) := by
  have h1 := H.hn
  have h2 := H.hc
  have h3 := H.hh
  constructor
  · intro h
    have h4 := H.grow h
    unfold pl
    split <;> omega
  · intro h
    unfold pl
    split <;> omega

/-- What a new queue is. -/
def NewQ (w : World) (c : Int) (p : Option Addr) (bs : List Nat) (cap : Nat) (E : Int) : Prop :=
  (1 ≤ c ∧ c ≤ 65536 ∧ E = 0 ∧ (cap : Int) = c ∧ p = some ⟨w.heap.size, 0, none⟩ ∧ bs = [w.heap.size]) ∨ (¬ (1 ≤ c ∧ c ≤ 65536) ∧ E = 20 ∧ p = none ∧ bs = [])

/-- The queue or none. -/
def QP (w : World) (E S QT : Nat) (p : Option Addr) (bs : List Nat) (cap : Nat) (xs : List (List Value)) : Prop :=
  (p = none ∧ bs = [] ∧ cap = 0 ∧ xs = []) ∨ ∃ qp sv head n cs, p = some ⟨qp, 0, none⟩ ∧ bs = qp :: sv.ownBlock.toList ∧ IsQ w E S QT qp sv cap head xs.length n cs ∧ xs = wait cap head xs.length S cs

end Rg
end Go.Proofs.Ytjhlflochheolaa

/-
  append of bytes to a row of the call's own; copy between rows; cuts of slices of bytes.
-/
set_option linter.unusedVariables false
set_option linter.unusedSimpArgs false
namespace Go.Proofs.Ytjhlflochheolaa
open Go.RowKit
namespace Rg

theorem infoB : (Try.prog.info? 5).map (fun i => (i.zero, i.size, i.bytes)) = some (some (.int .u8 0), 1, 1) := by kernel_rfl
theorem sizeB : (Try.prog.info? 5).map (·.size) = some 1 := by kernel_rfl

theorem wpList_wanted {P : Program} {ops : Array Oper} {rest : List Oper} {o : Oper} {a : Act} {w : World} {Q : Exit → Act → World → Prop} (hw : Region.wanted o (yielded ops a.tmps) = true)
    (h : o.wp P a w (wpList P ops Q rest) Q) : wpList P ops Q (o :: rest) a w := by
  rw [wpList, if_pos hw]
  exact .inl h

/- append of bytes: the run. -/
set_option maxRecDepth 100000 in
theorem run_appB (o : TypeId) (B : Nat) (v y : Value) (t u : List UInt8) (W : World) (hown : W.ownsRow B 5 1 v t.length (bv t)) (hy : RdB W y u) (hlen : t.length + u.length ≤ 140737488355328) (hB : B ≤ W.heap.size) :
    ∃ v' w', (Builtin.append_ #[25, 25] o #[v, y]).run Try.prog W = .ok v' w' ∧ w'.ownsRow B 5 1 v' (t ++ u).length (bv (t ++ u)) ∧ W.grownBy w' v.ownBlock := by
  obtain ⟨i0, hi, hz0, hz1, hz2⟩ := info_parts infoB
  have own' : ∀ (ad : Addr) (c : Nat), y = .slice (some ad) u.length c → (∀ j x, u[j]? = some x → W.cell? (ad.add j) = some (.int .u8 (x.toNat : Int))) → ∃ v' w', (Builtin.append_ #[25, 25] o #[v, y]).run Try.prog W = .ok v' w' ∧ w'.ownsRow B 5 1 v' (t ++ u).length (bv (t ++ u)) ∧ W.grownBy w' v.ownBlock := by
    intro ad c ey hcell
    obtain ⟨v', w', h1, h2, h3, _⟩ := run_append_own (P := Try.prog) (w := W) B 25 o 5 i0 (.int .u8 0) 1 1 Try.underlying25 hi hz0 hz1 hz2 rfl (by decide) v t.length (bv t) hown ad u.length c (bv u) (by rw [bv_length]; omega)
      (fun j z hj => by
        rw [bv_get] at hj
        cases hu : u[j]? with
        | none => rw [hu] at hj; cases hj
        | some x => rw [hu] at hj; cases hj; exact hcell j x hu)
      (bv_one u) (by unfold maxLen; omega) (by omega) hB
    rw [ey]
    refine ⟨v', w', h1, ?_, h3⟩
    rw [bv_append, List.length_append]
    exact h2
  obtain ⟨a, cap, ey, hc, hz, hr⟩ := hy
  cases a with
  | none =>
    have hcap := hz rfl
    have hu : u = [] := by
      apply List.eq_nil_of_length_eq_zero
      omega
    subst hu
    subst ey
    subst hcap
    refine ⟨v, W, run_append_owned_none (P := Try.prog) (w := W) B 25 o 5 i0 1 Try.underlying25 hi v t.length _ hown, by simpa using hown, ⟨rfl, rfl, rfl, Nat.le_refl _, fun _ _ _ => rfl⟩⟩
  | some ad =>
    rcases hr with hr | ⟨g, o', e, hr⟩
    · subst hr
      exact own' ad cap ey (fun j x hj => by simp at hj)
    · injection e with e
      subst e
      exact own' _ cap ey (fun j x hj => by rw [Addr.add_lit]; exact hr j x hj)

theorem wp_appB {ops : Array Oper} {rest : List Oper} {o : Oper} {a : Act} {W : World} {Q : Exit → Act → World → Prop} (hw : Region.wanted o (yielded ops a.tmps) = true) (s x : Operand)
    (ho : o.op = .call { callee := .builtin .append, args := #[s, x], argTypes := #[25, 25] }) (B : Nat) (v y : Value) (t u : List UInt8)
    (hs : a.eval s = v) (hown : W.ownsRow B 5 1 v t.length (bv t)) (hx : a.eval x = y) (hy : RdB W y u) (hlen : t.length + u.length ≤ 140737488355328) (hB : B ≤ W.heap.size)
    (h : ∀ v' w', Hid (w'.ownsRow B 5 1 v' (t ++ u).length (bv (t ++ u))) → Hid (W.grownBy w' v.ownBlock) → wpList Try.prog ops Q rest (a.put o.dst v') w') : wpList Try.prog ops Q (o :: rest) a W := by
  refine wpList_wanted hw ?_
  obtain ⟨v', w', hrun, h1, h2⟩ := run_appB o.type B v y t u W hown hy hlen hB
  have := h v' w' h1 h2
  unfold Oper.wp
  simp [execOp, ho, resolve, invoke, builtin, hs, hx, hrun, Result.andThen]
  exact this

/-- One step of a region that draws. -/
theorem step_appB {ops : Array Oper} {o : Oper} {a : Act} {W : World} {K : Act → World → Prop} {Q : Exit → Act → World → Prop} {E : Prop} (hgd : o.guard = none) (s x : Operand)
    (ho : o.op = .call { callee := .builtin .append, args := #[s, x], argTypes := #[25, 25] }) (B : Nat) (v y : Value) (t u : List UInt8)
    (hs : a.eval s = v) (hown : W.ownsRow B 5 1 v t.length (bv t)) (hx : a.eval x = y) (hy : RdB W y u) (hlen : t.length + u.length ≤ 140737488355328) (hB : B ≤ W.heap.size)
    (h : ∀ v' w', Hid (w'.ownsRow B 5 1 v' (t ++ u).length (bv (t ++ u))) → Hid (W.grownBy w' v.ownBlock) → K (a.put o.dst v') w') : if Region.wanted o (yielded ops a.tmps) = true then Oper.wp Try.prog o a W K Q else E := by
  have hw : Region.wanted o (yielded ops a.tmps) = true := by simp [Region.wanted, hgd]
  rw [if_pos hw]
  obtain ⟨v', w', hrun, h1, h2⟩ := run_appB o.type B v y t u W hown hy hlen hB
  have := h v' w' h1 h2
  unfold Oper.wp
  simp [execOp, ho, resolve, invoke, builtin, hs, hx, hrun, Result.andThen]
  exact this

/- copy: as many bytes as the shorter has go over. -/
set_option maxRecDepth 100000 in
theorem run_cpB (o : TypeId) (W : World) (dp : Option Addr) (dLen dCap : Nat) (y : Value) (u : List UInt8) (hy : RdB W y u) (g off : Nat) (cur : List UInt8) (t : TypeId) (hg : W.heap[g]? = some (.cells (bv cur).toArray t (0, 0)))
    (hpos : 0 < min u.length dLen → dp = some ⟨g, off, none⟩) (hfit : off + min u.length dLen ≤ cur.length) :
    ∃ w', (Builtin.copy_ #[25, 25] o #[.slice dp dLen dCap, y]).run Try.prog W = .ok (goInt (min u.length dLen : Nat)) w' ∧ w'.heap[g]? = some (.cells (bv (splice cur off (u.take (min u.length dLen)))).toArray t (0, 0)) ∧ W.grownBy w' (some g) := by
  obtain ⟨a, cap, rfl, hc, hz, hr⟩ := hy
  by_cases h0 : min u.length dLen = 0
  · have hrun := run_copy_none (P := Try.prog) W 25 25 o 5 dp a dLen dCap u.length cap Try.underlying25 sizeB h0
    refine ⟨W, by rw [h0]; exact hrun, ?_, ⟨rfl, rfl, rfl, Nat.le_refl _, fun _ _ _ => rfl⟩⟩
    rw [h0]
    simpa [splice] using hg
  · rcases hr with hr | ⟨g', o', rfl, hr⟩
    · subst hr; simp at h0
    · obtain rfl := hpos (by omega)
      have hlt : (u.take (min u.length dLen)).length = min u.length dLen := by rw [List.length_take]; omega
      have hrun := run_copy_row (P := Try.prog) W 25 25 o 5 g off dLen dCap ⟨g', o', none⟩ u.length cap (bv cur).toArray t (bv (u.take (min u.length dLen))) Try.underlying25 sizeB hg (by rw [bv_length, hlt])
        (fun j v hj => by
          rw [bv_get] at hj
          cases hu : (u.take (min u.length dLen))[j]? with
          | none => rw [hu] at hj; cases hj
          | some x =>
            rw [hu] at hj; cases hj; rw [Addr.add_lit]
            have hj' : j < min u.length dLen := by
              have := (List.getElem?_eq_some_iff.1 hu).1
              omega
            exact hr j x (by rw [List.getElem?_take_of_lt hj'] at hu; exact hu))
        (by rw [bv_length, hlt]; simp [bv_length]; omega) (bv_one _)
      rw [bv_length, hlt] at hrun
      refine ⟨_, hrun, ?_, ⟨rfl, rfl, rfl, by simp, fun k _ hk => setRow_other W g k _ (fun e => hk (congrArg some e))⟩⟩
      rw [setRow_heap W g _ _ t _ hg, ← bv_splice]
      congr 2
      unfold splice
      rw [bv_length, hlt]
      simp

set_option maxRecDepth 100000 in
theorem run_cp (o : TypeId) (W : World) (dp : Option Addr) (dLen dCap : Nat) (y : Value) (u : List UInt8) (hy : RdB W y u) (g off : Nat) (cur : List UInt8) (t : TypeId) (hg : W.heap[g]? = some (.cells (bv cur).toArray t (0, 0)))
    (m : Nat) (hm : m = min u.length dLen) (hpos : 0 < m → dp = some ⟨g, off, none⟩) (hfit : off + m ≤ cur.length) :
    ∃ w', (Builtin.copy_ #[25, 25] o #[.slice dp dLen dCap, y]).run Try.prog W = .ok (.int .i64 (m : Int)) w' ∧ Hid (w'.heap[g]? = some (.cells (bv (splice cur off (u.take m))).toArray t (0, 0))) ∧ Hid (W.grownBy w' (some g)) := by
  subst hm
  exact run_cpB o W dp dLen dCap y u hy g off cur t hg hpos hfit

/-- A cut of a slice of bytes. -/
theorem RdB.cut {W : World} {a : Option Addr} {n cap : Nat} {l : List UInt8} (h : RdB W (.slice a n cap) l) (i j m : Nat) (hij : i ≤ j) (hj : j ≤ l.length) (hjm : j ≤ m) (hm : m ≤ cap) :
    ∃ a', sliced a i j m 1 = .slice a' (j - i) (m - i) ∧ RdB W (.slice a' (j - i) (m - i)) ((l.drop i).take (j - i)) ∧ (∀ g o, a = some ⟨g, o, none⟩ → i < m → a' = some ⟨g, o + i, none⟩) ∧
      (∀ g, (Value.slice a' (j - i) (m - i)).ownBlock = some g → (Value.slice a n cap).ownBlock = some g) := by
  obtain ⟨a0, c0, e, hc, hz, hr⟩ := h
  injection e with e1 e2 e3
  subst e1 e2 e3
  have hl : ((l.drop i).take (j - i)).length = j - i := by simp; omega
  unfold sliced
  by_cases c : m = i
  · rw [if_pos c]
    refine ⟨a, rfl, ⟨a, m - i, by rw [hl], by rw [hl]; omega, fun e => by have := hz e; omega, .inl (List.eq_nil_of_length_eq_zero (by rw [hl]; omega))⟩, fun g o _ hlt => by omega, fun g hg => by cases a <;> exact hg⟩
  · rw [if_neg c]
    cases a with
    | none => have := hz rfl; omega
    | some ad =>
      refine ⟨some (ad.add (i * 1)), rfl, ⟨_, m - i, by rw [hl], by rw [hl]; omega, (fun e => by cases e), ?_⟩, ?_, ?_⟩
      · rcases hr with hr | ⟨g, o, e, hr⟩
        · left; subst hr; simp
        · right
          injection e with e
          subst e
          refine ⟨g, o + i, by rw [Addr.add_lit, Nat.mul_one], fun k x hk => ?_⟩
          have hk' : k < j - i := by
            have := (List.getElem?_eq_some_iff.1 hk).1
            omega
          rw [List.getElem?_take_of_lt hk', List.getElem?_drop] at hk
          rw [Nat.add_assoc]
          exact hr (i + k) x hk
      · intro g o e _
        injection e with e
        subst e
        rw [Addr.add_lit, Nat.mul_one]
      · intro g hg
        have : (ad.add (i * 1)).block = ad.block := by unfold Addr.add; split <;> rfl
        simp only [Value.ownBlock, this] at hg ⊢
        exact hg

set_option maxRecDepth 100000 in
theorem htB : Try.prog.underlying 25 = some (.slice (Try.prog.elem 25)) := by simp [Program.elem, Try.underlying25]
set_option maxRecDepth 100000 in
theorem szB (w : World) : (sizeOf (Try.prog.elem 25)).run Try.prog w = .ok 1 w := by
  obtain ⟨i0, hi, hz0, hz1, hz2⟩ := info_parts infoB
  have he : Try.prog.elem 25 = 5 := by simp [Program.elem, Try.underlying25]
  rw [he]
  simp [sizeOf, typeInfo, hi, hz1]

/- 's[i:]', 's[:j]', 's[i:j]', 's[i:j:m]': for the walk to take as equations. -/
set_option maxRecDepth 100000 in
theorem cut_from {W : World} {a : Option Addr} {n cap : Nat} {l : List UInt8} (h : RdB W (.slice a n cap) l) (i : Nat) (hi : i ≤ l.length) :
    ∃ a', RdB W (.slice a' (n - i) (cap - i)) (l.drop i) ∧ (∀ g o, a = some ⟨g, o, none⟩ → i < cap → a' = some ⟨g, o + i, none⟩) ∧ (∀ g, (Value.slice a' (n - i) (cap - i)).ownBlock = some g → (Value.slice a n cap).ownBlock = some g) ∧
      ∀ w : World, (Instr.slice 25 (.slice a n cap) (some (.int .i64 (i : Int))) none none).run Try.prog w = .ok (.slice a' (n - i) (cap - i)) w := by
  have hn : n = l.length ∧ l.length ≤ cap := by
    obtain ⟨a0, c0, e, hc, _⟩ := h
    injection e with e1 e2 e3
    subst e3
    exact ⟨e2, hc⟩
  obtain ⟨a', h1, h2, h3, h4⟩ := h.cut i n cap (by omega) (by omega) (by omega) (Nat.le_refl _)
  rw [List.take_of_length_le (by rw [List.length_drop]; omega)] at h2
  refine ⟨a', h2, h3, h4, fun w => ?_⟩
  rw [run_slice_l (P := Try.prog) w 25 a n cap htB .i64 (i : Int) (by omega) (by omega), szB]
  simp only [Result.andThen, Int.toNat_natCast]
  rw [h1]
set_option maxRecDepth 100000 in
theorem cut_upto {W : World} {a : Option Addr} {n cap : Nat} {l : List UInt8} (h : RdB W (.slice a n cap) l) (j : Nat) (hj : j ≤ l.length) :
    ∃ a', RdB W (.slice a' j cap) (l.take j) ∧ (∀ g o, a = some ⟨g, o, none⟩ → 0 < cap → a' = some ⟨g, o, none⟩) ∧ (∀ g, (Value.slice a' j cap).ownBlock = some g → (Value.slice a n cap).ownBlock = some g) ∧
      ∀ w : World, (Instr.slice 25 (.slice a n cap) none (some (.int .i64 (j : Int))) none).run Try.prog w = .ok (.slice a' j cap) w := by
  have hn : n = l.length ∧ l.length ≤ cap := by
    obtain ⟨a0, c0, e, hc, _⟩ := h
    injection e with e1 e2 e3
    subst e3
    exact ⟨e2, hc⟩
  obtain ⟨a', h1, h2, h3, h4⟩ := h.cut 0 j cap (by omega) (by omega) (by omega) (Nat.le_refl _)
  rw [List.drop_zero] at h2
  refine ⟨a', h2, h3, h4, fun w => ?_⟩
  rw [run_slice_h (P := Try.prog) w 25 a n cap htB .i64 (j : Int) (by omega) (by omega), szB]
  simp only [Result.andThen, Int.toNat_natCast]
  rw [h1]
  rfl
set_option maxRecDepth 100000 in
theorem cut_mid {W : World} {a : Option Addr} {n cap : Nat} {l : List UInt8} (h : RdB W (.slice a n cap) l) (i j : Nat) (hij : i ≤ j) (hj : j ≤ l.length) :
    ∃ a', RdB W (.slice a' (j - i) (cap - i)) ((l.drop i).take (j - i)) ∧ (∀ g o, a = some ⟨g, o, none⟩ → i < cap → a' = some ⟨g, o + i, none⟩) ∧ (∀ g, (Value.slice a' (j - i) (cap - i)).ownBlock = some g → (Value.slice a n cap).ownBlock = some g) ∧
      ∀ w : World, (Instr.slice 25 (.slice a n cap) (some (.int .i64 (i : Int))) (some (.int .i64 (j : Int))) none).run Try.prog w = .ok (.slice a' (j - i) (cap - i)) w := by
  have hn : n = l.length ∧ l.length ≤ cap := by
    obtain ⟨a0, c0, e, hc, _⟩ := h
    injection e with e1 e2 e3
    subst e3
    exact ⟨e2, hc⟩
  obtain ⟨a', h1, h2, h3, h4⟩ := h.cut i j cap hij hj (by omega) (Nat.le_refl _)
  refine ⟨a', h2, h3, h4, fun w => ?_⟩
  rw [run_slice_lh (P := Try.prog) w 25 a n cap htB .i64 .i64 (i : Int) (j : Int) (by omega) (by omega) (by omega), szB]
  simp only [Result.andThen, Int.toNat_natCast]
  rw [h1]
set_option maxRecDepth 100000 in
theorem cut_three {W : World} {a : Option Addr} {n cap : Nat} {l : List UInt8} (h : RdB W (.slice a n cap) l) (i j : Nat) (hij : i ≤ j) (hj : j ≤ l.length) :
    ∃ a', RdB W (.slice a' (j - i) (j - i)) ((l.drop i).take (j - i)) ∧ (∀ g o, a = some ⟨g, o, none⟩ → i < j → a' = some ⟨g, o + i, none⟩) ∧ (∀ g, (Value.slice a' (j - i) (j - i)).ownBlock = some g → (Value.slice a n cap).ownBlock = some g) ∧
      ∀ w : World, (Instr.slice 25 (.slice a n cap) (some (.int .i64 (i : Int))) (some (.int .i64 (j : Int))) (some (.int .i64 (j : Int)))).run Try.prog w = .ok (.slice a' (j - i) (j - i)) w := by
  have hn : n = l.length ∧ l.length ≤ cap := by
    obtain ⟨a0, c0, e, hc, _⟩ := h
    injection e with e1 e2 e3
    subst e3
    exact ⟨e2, hc⟩
  obtain ⟨a', h1, h2, h3, h4⟩ := h.cut i j j hij hj (Nat.le_refl _) (by omega)
  refine ⟨a', h2, h3, h4, fun w => ?_⟩
  rw [run_slice_lhm (P := Try.prog) w 25 a n cap htB .i64 .i64 .i64 (i : Int) (j : Int) (j : Int) (by omega) (by omega) (by omega) (by omega), szB]
  simp only [Result.andThen, Int.toNat_natCast]
  rw [h1]

end Rg
end Go.Proofs.Ytjhlflochheolaa
