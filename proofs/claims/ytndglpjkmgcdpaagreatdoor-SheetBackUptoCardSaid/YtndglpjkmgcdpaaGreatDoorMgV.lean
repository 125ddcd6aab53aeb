/- Several texts as one. -/
import Derived.Test.YtndglpjkmgcdpaaGreatDoorMgU
import Derived.Laws.AppendOwnNone
import Derived.OpenShut
import Derived.SliceStrings
import Derived.Carry
import Derived.Test.YtndglpjkmgcdpaaGreatDoorMgD
import Derived.Test.YtndglpjkmgcdpaaGreatDoorMgN
/-
  Slices of fields that come in; appended whole; the law's own wide, plain, handed, whole.
-/
set_option linter.unusedVariables false
set_option linter.unusedSimpArgs false
namespace Go.Proofs.YtndglpjkmgcdpaaGreatDoor
open Go.RowKit Go.Shelf Go.ChangeShapes Go.WideShapes
namespace Fd
open Oc Tg

theorem laidOutT : laidOutB Tryz.prog = true := by kernel_rfl
theorem cells9 : Tryz.prog.cellsOf 9 = 1 := by kernel_rfl
theorem cellsF : Tryz.prog.cellsOf 92 = 2 := by kernel_rfl
def szF (p : Fl) : Nat := p.1.length + p.2.length + 3
def sumF (t : List Fl) : Nat := (t.map szF).sum
def bulkfields (t : List Fl) : Nat := sumF t
/-- The form of a slice of none. -/
def NilF (v : Value) (t : List Fl) : Prop := t = [] → v = .slice none 0 0 ∨ ∃ g c, v = .slice (some g) 0 c
/-- A slice that reads as these fields, of a form that is known. -/
def InF (v : Value) (t : List Fl) (w : World) : Prop := RdF v t w ∧ NilF v t
theorem InF.below {v : Value} {t : List Fl} {w w' : World} (h : InF v t w) (b : Below w.heap.size w w') : InF v t w' := ⟨h.1.below b, h.2⟩
theorem OwnF.inF {T B : Nat} {v : Value} {t : List Fl} {w : World} (h : OwnF T B v t w) : InF v t w := by
  refine ⟨h.rd, fun e => ?_⟩
  subst e
  rcases h.2 with ⟨rfl, _⟩ | ⟨g, cap, cur, rfl, _⟩
  · exact .inl rfl
  · exact .inr ⟨_, _, rfl⟩
theorem len_sumF : ∀ t : List Fl, t.length * 3 ≤ sumF t
  | [] => Nat.zero_le _
  | p :: t => by
    have := len_sumF t
    simp only [sumF, List.map_cons, List.sum_cons, List.length_cons, szF] at this ⊢
    omega
theorem each_sumF : ∀ t : List Fl, Each (sumF t) t
  | [] => fun p hp => by cases hp
  | q :: t => fun p hp => by
    simp only [sumF, List.map_cons, List.sum_cons, szF]
    rcases List.mem_cons.1 hp with rfl | hp
    · omega
    · have := each_sumF t p hp
      simp only [sumF, szF] at this
      omega
theorem Each.mono {M N : Nat} {t : List Fl} (h : Each M t) (hMN : M ≤ N) : Each N t := fun p hp => ⟨Nat.le_trans (h p hp).1 hMN, Nat.le_trans (h p hp).2 hMN⟩
def flOf {H : Type} (y : DataW H × List MemPlace) : Fl := match y.1 with | .agg [.lit (.string a), .lit (.string b)] => (a, b) | _ => ([], [])
theorem bulk_fls {H : Type} : ∀ es : List (DataW H × List MemPlace), (∀ y ∈ es, ∃ a b, y.1 = .agg [.lit (.string a), .lit (.string b)]) → Rows.uptoBulkAll (es.map (·.1)) = sumF (es.map flOf)
  | [], _ => by simp [sumF, Rows.uptoBulkAll]
  | y :: es, h => by
    have ih := bulk_fls es (fun z hz => h z (List.mem_cons_of_mem _ hz))
    obtain ⟨a, b, e⟩ := h y (by simp)
    simp only [sumF, List.map_cons, List.sum_cons, Rows.uptoBulkAll, ih, e, flOf, szF, Rows.uptoBulk] at ih ⊢
    omega
theorem addr_add (g o k : Nat) : Addr.add ⟨g, o, none⟩ k = ⟨g, o + k, none⟩ := by unfold Addr.add; split <;> simp_all
set_option maxRecDepth 100000 in
theorem open_fields {H : Type} {enc : TypeId × Value → H} {W : World} {base : Nat} {v : Value} {d : DataW H} {ps : List MemPlace} (hval : Value.okWide Tryz.prog W .any base 93 v)
    (h : DataW.Trod enc Tryz.prog W 0 (fun _ => true) true 93 v d ps) : ∃ t : List Fl, InF v t W ∧ bulkfields t ≤ Rows.uptoBulk d := by
  obtain ⟨a0, len, cap, rfl⟩ := okWide_slice Tryz.underlying93 hval
  obtain ⟨fuel, hf⟩ := h
  rcases DataW.trod_slice Tryz.underlying93 hf with ⟨hcs, hx⟩ | ⟨a, len', cap', elems, rest, n, _, hcs, hx, hb, hl, hm, hlen, hel, _, _⟩
  · simp [Value.cells] at hcs
    obtain ⟨rfl, rfl, rfl⟩ := hcs
    exact ⟨[], ⟨⟨none, 0, rfl, .inl rfl⟩, fun _ => .inl rfl⟩, by simp [bulkfields, sumF]⟩
  · simp [Value.cells] at hcs
    obtain ⟨rfl, rfl, rfl⟩ := hcs
    simp only [Prod.mk.injEq] at hx
    obtain ⟨rfl, rfl⟩ := hx
    have each : ∀ i y, elems[i]? = some y → ∃ (s1 s2 : ByteArray), y.1 = .agg [.lit (.string s1.data.toList), .lit (.string s2.data.toList)] ∧ W.cell? ((a.add (i * 2)).add 0) = some (.string s1) ∧ W.cell? ((a.add (i * 2)).add 1) = some (.string s2) := by
      intro i y hy
      have hi : i < len := by rw [← hlen]; exact (List.getElem?_eq_some_iff.1 hy).1
      have h1 := hel i hi
      rw [hy, cellsF, Option.bind_eq_some_iff] at h1
      obtain ⟨cs, hcs, ht⟩ := h1
      obtain ⟨ys, m, _, hx, hl4, hy4, hfs⟩ := DataW.trod_struct Tryz.underlying92 ht
      rw [cellsF] at hl4
      have hcc := (World.cells?_some hcs).2.2
      have t0 := hfs 0 _ rfl
      have t1 := hfs 1 _ rfl
      match cs, hl4 with
      | [x0, x1], _ =>
        match ys, hy4 with
        | [y0, y1], _ =>
          simp [cells9] at t0 t1
          obtain ⟨m0, e0, q0, w0⟩ := DataW.trod_string Tryz.underlying9 t0
          obtain ⟨m1, e1, q1, w1⟩ := DataW.trod_string Tryz.underlying9 t1
          simp at e0 e1
          subst e0 e1
          subst q0 q1
          refine ⟨m0, m1, ?_, hcc 0 (by omega), hcc 1 (by omega)⟩
          rw [hx]
          rfl
    refine ⟨elems.map flOf, ⟨⟨some a, cap, by rw [List.length_map, hlen], ?_⟩, fun e => .inr ⟨a, cap, by have := congrArg List.length e; rw [List.length_map, hlen] at this; rw [this]; rfl⟩⟩, ?_⟩
    · by_cases hl0 : len = 0
      · left
        have : elems = [] := List.length_eq_zero_iff.1 (by omega)
        rw [this]; rfl
      · right
        obtain ⟨g, o, spot⟩ := a
        have hspot : spot = none := by
          obtain ⟨y, hy⟩ : ∃ y, elems[0]? = some y := ⟨elems[0]'(by omega), List.getElem?_eq_getElem (by omega)⟩
          obtain ⟨s1, s2, _, c0, _⟩ := each 0 y hy
          simpa [Addr.add] using World.cell?_spot c0
        subst hspot
        refine ⟨g, o, rfl, by rw [List.length_map, hlen]; exact hl, fun j hj => ?_⟩
        rw [List.length_map] at hj
        obtain ⟨s1, s2, ey, c0, c1⟩ := each j _ (List.getElem?_eq_getElem hj)
        have en : nth (elems.map flOf) j = (s1.data.toList, s2.data.toList) := by
          unfold nth
          rw [List.getD_eq_getElem?_getD, List.getElem?_map, List.getElem?_eq_getElem hj]
          show flOf elems[j] = _
          unfold flOf
          rw [ey]
        rw [addr_add, addr_add] at c0 c1
        rw [en]
        dsimp only
        rw [str_self, str_self]
        exact ⟨c0, c1⟩
    · have hb := bulk_fls elems (fun y hy => by
        obtain ⟨i, hi⟩ := List.getElem?_of_mem hy
        obtain ⟨s1, s2, ey, _⟩ := each i y hi
        exact ⟨_, _, ey⟩)
      simp only [Rows.uptoBulk, hb, bulkfields]
      omega

theorem wantedF {P : Program} {ops : Array Oper} {rest : List Oper} {o : Oper} {a : Act} {w : World} {Q : Exit → Act → World → Prop} (hw : Region.wanted o (yielded ops a.tmps) = true)
    (h : o.wp P a w (wpList P ops Q rest) Q) : wpList P ops Q (o :: rest) a w := by
  rw [wpList, if_pos hw]
  exact .inl h
theorem encF_get (u : List Fl) (j : Nat) (z : Value) (h : (encF u)[j]? = some z) : j / 2 < u.length ∧ z = if j % 2 = 0 then .string (str (nth u (j / 2)).1) else .string (str (nth u (j / 2)).2) := by
  have hl := (List.getElem?_eq_some_iff.1 h).1
  rw [encF_len] at hl
  have hq : j / 2 < u.length := by omega
  refine ⟨hq, ?_⟩
  obtain ⟨e0, e1⟩ := encF_at u (j / 2) hq
  by_cases hm : j % 2 = 0
  · rw [if_pos hm]
    rw [show j / 2 * 2 = j by omega, h] at e0
    exact Option.some.inj e0
  · rw [if_neg hm]
    rw [show j / 2 * 2 + 1 = j by omega, h] at e1
    exact Option.some.inj e1

/-- A slice of fields appended to one of the call's own. -/
theorem wp_appFs {ops : Array Oper} {rest : List Oper} {o : Oper} {a : Act} {W : World} {Q : Exit → Act → World → Prop} (T S : Nat) (hinfo : (Tryz.prog.info? T).map (fun i => (i.zero, i.size, i.bytes)) = some (some (.agg #[.string ⟨#[]⟩, .string ⟨#[]⟩]), 2, 32))
    (hund : Tryz.prog.underlying S = some (.slice T)) (hw : Region.wanted o (yielded ops a.tmps) = true) (s x : Operand)
    (ho : o.op = .call { callee := .builtin .append, args := #[s, x], argTypes := #[S, S] }) (B : Nat) (v y : Value) (t u : List Fl)
    (hs : a.eval s = v) (hown : OwnF T B v t W) (hx : a.eval x = y) (hy : InF y u W) (hlen : t.length + u.length ≤ 2147483648) (hB : B ≤ W.heap.size)
    (h : ∀ v' w', OwnF T B v' (t ++ u) w' → Below B W w' → wpList Tryz.prog ops Q rest (a.put o.dst v') w') : wpList Tryz.prog ops Q (o :: rest) a W := by
  obtain ⟨i0, hi, hz0, hz1, hz2⟩ := info_parts hinfo
  refine wantedF hw ?_
  have own' : ∀ (ad : Addr) (c : Nat), y = .slice (some ad) u.length c → (∀ j z, (encF u)[j]? = some z → W.cell? (ad.add j) = some z) → o.wp Tryz.prog a W (wpList Tryz.prog ops Q rest) Q := by
    intro ad c ey hcell
    refine wp_append_own W s x S ho B T i0 (.agg #[.string ⟨#[]⟩, .string ⟨#[]⟩]) 2 32 hund hi hz0 hz1 hz2 rfl (by decide) v t.length _ hs hown ad u.length c (encF u) (hx.trans ey) (encF_len u) hcell ?_ ?_ ?_ hB ?_
    · intro z hz
      obtain ⟨j, hj⟩ := List.getElem?_of_mem hz
      obtain ⟨_, e⟩ := encF_get u j z hj
      rw [e]
      split <;> rfl
    · unfold maxLen; omega
    · omega
    · intro v' w' h1 h2 _
      refine h v' w' ?_ ((Below.refl B W).grown h2 hB (fun k hk => (World.ownsRow.lt hown k hk).1))
      unfold OwnF
      rw [List.length_append, show encF (t ++ u) = encF t ++ encF u by unfold encF; rw [List.flatMap_append]]
      exact h1
  obtain ⟨⟨a2, c2, rfl, hr⟩, hnil⟩ := hy
  by_cases hu : u = []
  · subst hu
    rcases hnil rfl with e | ⟨g, c, e⟩
    · have hrun := run_append_owned_none (P := Tryz.prog) (w := W) B S o.type T i0 2 hund hi v t.length _ hown
      have hx' : a.eval x = .slice none 0 0 := hx.trans e
      unfold Oper.wp
      simp [execOp, ho, resolve, invoke, builtin, hs, hx', hrun, Result.andThen]
      have := h v W (by simpa using hown) (Below.refl _ _)
      exact this
    · exact own' g c e (fun j z hj => by simp [encF] at hj)
  · rcases hr with hr | ⟨g, o', rfl, hc, hcell⟩
    · exact absurd hr hu
    · refine own' ⟨g, o', none⟩ c2 rfl (fun j z hj => ?_)
      rw [addr_add]
      obtain ⟨hq, e⟩ := encF_get u j z hj
      obtain ⟨h0, h1⟩ := hcell (j / 2) hq
      rw [e]
      by_cases hm : j % 2 = 0
      · rw [if_pos hm]
        rw [show o' + j / 2 * 2 = o' + j by omega] at h0
        exact h0
      · rw [if_neg hm]
        rw [show o' + j / 2 * 2 + 1 = o' + j by omega] at h1
        exact h1

end Fd
end Go.Proofs.YtndglpjkmgcdpaaGreatDoor

/-
  A strings.Builder: its buffer lies at or beyond B, what is written turns the builder's own block and the buffer alone.
-/
set_option linter.unusedVariables false
set_option linter.unusedSimpArgs false
namespace Go.Proofs.YtndglpjkmgcdpaaGreatDoor
open Go.RowKit Go.Shelf
namespace Fd
open Oc Tg

/-- What a write turns: block b, and blocks at or beyond B that are cells. -/
structure Fr (B b : Nat) (w w' : World) : Prop where
  os : w'.os = w.os
  tape : w'.tape = w.tape
  output : w'.output = w.output
  block : ∀ k, k < B → k ≠ b → w'.heap[k]? = w.heap[k]?
  size : w.heap.size ≤ w'.heap.size
theorem Fr.refl (B b : Nat) (w : World) : Fr B b w w := ⟨rfl, rfl, rfl, fun _ _ _ => rfl, Nat.le_refl _⟩
theorem Fr.trans {B b : Nat} {x y z : World} (h : Fr B b x y) (k : Fr B b y z) : Fr B b x z :=
  ⟨k.os.trans h.os, k.tape.trans h.tape, k.output.trans h.output, fun i hi hb => (k.block i hi hb).trans (h.block i hi hb), Nat.le_trans h.size k.size⟩
theorem Fr.below {B b n : Nat} {w w' : World} (h : Fr B b w w') (hn : n ≤ B) (hb : n ≤ b) : Below n w w' := ⟨h.os, h.tape, h.output, h.size, fun k hk => h.block k (by omega) (by omega)⟩
theorem Fr.of_below {B b : Nat} {w w' : World} (h : Below w.heap.size w w') (hB : B ≤ w.heap.size) : Fr B b w w' :=
  ⟨h.os, h.tape, h.output, fun k hk _ => h.block k (by omega), h.size⟩
theorem Fr.set {B b j : Nat} (w : World) (v : Value) : Fr B b w (w.setCell ⟨b, j, none⟩ v) :=
  ⟨rfl, rfl, rfl, fun k _ hb => Below.heap_setCell _ _ _ _ hb, by simp⟩
theorem Fr.alloc {B b : Nat} (w : World) (o : Obj) (hB : B ≤ w.heap.size) : Fr B b w (w.alloc o) :=
  ⟨rfl, rfl, rfl, fun k hk _ => Lib.alloc_old w o k (by omega), by simp⟩
theorem Fr.grown {B b : Nat} {w w' : World} {v : Value} {n : Nat} {xs : List Value} (hg : w.grownBy w' v.ownBlock) (ho : w.ownsRow B 5 1 v n xs) (hB : B ≤ w.heap.size) : Fr B b w w' :=
  ⟨hg.os, hg.tape, hg.output, fun k hk _ => hg.block k (by omega) (fun e => by have := (ho.lt k e.symm).1; omega), hg.size⟩

/-- A builder in block b that holds l; its buffer lies at or beyond B. -/
def BdAt (B b : Nat) (p : Value) (l : List Value) (w : World) : Prop :=
  ∃ v, w.heap[b]? = some (.cells #[p, v] 57 (0, 0)) ∧ w.ownsRow B 5 1 v l.length l ∧ v.ownBlock ≠ some b
def Bd (B b : Nat) (l : List Value) (w : World) : Prop := BdAt B b (.pointer none) l w ∨ BdAt B b (.pointer (some ⟨b, 0, none⟩)) l w
theorem Bd.isB {B b : Nat} {l : List Value} {w : World} (h : Bd B b l w) : ∀ C, C ≤ B → C ≤ b → Lib.IsBuilder 57 5 C b l w := by
  intro C h1 h2
  have lower : ∀ {v : Value}, w.ownsRow B 5 1 v l.length l → w.ownsRow C 5 1 v l.length l := fun h => ⟨h.1, h.2.imp id fun ⟨g, c, cur, e, hg, r⟩ => ⟨g, c, cur, e, Nat.le_trans h1 hg, r⟩⟩
  rcases h with ⟨v, a, o, n⟩ | ⟨v, a, o, n⟩
  · exact .inl ⟨h2, v, a, lower o, n⟩
  · exact .inr ⟨h2, v, a, lower o, n⟩
theorem Bd.lt {B b : Nat} {l : List Value} {w : World} (h : Bd B b l w) : b < w.heap.size := by
  rcases h with ⟨v, a, _⟩ | ⟨v, a, _⟩ <;> exact (Array.getElem?_eq_some_iff.1 a).1
theorem BdAt.below {B b : Nat} {p : Value} {l : List Value} {w w' : World} (h : BdAt B b p l w) (hb : Below w.heap.size w w') : BdAt B b p l w' := by
  obtain ⟨v, a, o, n⟩ := h
  refine ⟨v, (hb.block b (Array.getElem?_eq_some_iff.1 a).1).trans a, ⟨o.1, o.2.imp id fun ⟨g, c, cur, e, hg, hh, r⟩ => ⟨g, c, cur, e, hg, (hb.block g (Array.getElem?_eq_some_iff.1 hh).1).trans hh, r⟩⟩, n⟩
theorem Bd.below {B b : Nat} {l : List Value} {w w' : World} (h : Bd B b l w) (hb : Below w.heap.size w w') : Bd B b l w' := h.imp (fun h => h.below hb) (fun h => h.below hb)
theorem Bd.new (w : World) (B : Nat) : Bd B w.heap.size [] (w.alloc (.cells #[.pointer none, .slice none 0 0] 57)) :=
  .inl ⟨.slice none 0 0, heap_alloc_new w _, World.ownsRow_nil _ _ _ _, by simp [Value.ownBlock]⟩

set_option maxHeartbeats 400000 in
theorem copyCheck_bd (B b : Nat) (l : List Value) (w : World) (h : Bd B b l w) :
    Calls Tryz.prog 45 #[.pointer (some ⟨b, 0, none⟩)] w fun e w' => e = .returned (.tuple #[]) ∧ BdAt B b (.pointer (some ⟨b, 0, none⟩)) l w' ∧ Fr B b w w' := by
  rcases h with h | h
  · have hI : Lib.BuilderAt 57 5 0 b (.pointer none) l w := by
      obtain ⟨v, a, o, n⟩ := h
      exact ⟨Nat.zero_le _, v, a, ⟨o.1, o.2.imp id fun ⟨g, c, cur, e, hg, r⟩ => ⟨g, c, cur, e, Nat.zero_le _, r⟩⟩, n⟩
    refine (copyCheck_fresh b w hI.cell0 hI.shape hI.frozen0).mono ?_
    rintro e w' ⟨rfl, rfl⟩
    refine ⟨rfl, ?_, Fr.set w _⟩
    obtain ⟨v, a, o, n⟩ := h
    refine ⟨v, by simp [World.setCell, Array.getElem?_modify, a], o.kept (row := some b) ⟨rfl, rfl, rfl, by simp [World.setCell], fun k _ hk => Below.heap_setCell _ _ _ _ (fun e => hk (by simp [e]))⟩ ?_, n⟩
    exact .inr n
  · have hI : Lib.BuilderAt 57 5 0 b (.pointer (some ⟨b, 0, none⟩)) l w := by
      obtain ⟨v, a, o, n⟩ := h
      exact ⟨Nat.zero_le _, v, a, ⟨o.1, o.2.imp id fun ⟨g, c, cur, e, hg, r⟩ => ⟨g, c, cur, e, Nat.zero_le _, r⟩⟩, n⟩
    refine (copyCheck_used b w hI.cell0).mono ?_
    rintro e w' ⟨rfl, rfl⟩
    exact ⟨rfl, h, Fr.refl _ _ _⟩

theorem put_bd {B b : Nat} {p v v' : Value} {l : List Value} {w : World} (hb : w.heap[b]? = some (.cells #[p, v] 57 (0, 0))) (ho : w.ownsRow B 5 1 v' l.length l) : BdAt B b p l (w.setCell ⟨b, 1, none⟩ v') := by
  have hne := Lib.ownBlock_ne ho hb (by decide)
  exact ⟨v', by simp [World.setCell, Array.getElem?_modify, hb], ho.kept (row := some b) ⟨rfl, rfl, rfl, by simp [World.setCell], fun k _ hk => Below.heap_setCell _ _ _ _ (fun e => hk (by simp [e]))⟩ (Or.inr hne), hne⟩

set_option maxHeartbeats 2000000 in
set_option maxRecDepth 100000 in
theorem WriteString_bd (B b : Nat) (l : List Value) (s : ByteArray) (w : World) (h : Bd B b l w) (hlen : l.length + s.size ≤ 140737488355328) (hBw : B ≤ w.heap.size) :
    Calls Tryz.prog 23 #[.pointer (some ⟨b, 0, none⟩), .string s] w fun e w' => e = .returned (.tuple #[.int .i64 s.size, .nilIface]) ∧ Bd B b (l ++ Lib.strCells s) w' ∧ Fr B b w w' := by
  obtain ⟨i0, hi, hz0, hz1, hz2⟩ := info_parts infoByte
  go_enter Tryz.func23, Tryz.ntmps23
  go_wp2_with fail
  refine (copyCheck_bd B b l _ h).mono ?_
  rintro e w1 ⟨rfl, h1, hf1⟩
  obtain ⟨v, hbk, hown, hne⟩ := h1
  have c0 : w1.cell? ⟨b, 0, none⟩ = some (.pointer (some ⟨b, 0, none⟩)) := by rw [Lib.cell_of_heap hbk]; rfl
  have c1 : w1.cell? ⟨b, 1, none⟩ = some v := by rw [Lib.cell_of_heap hbk]; rfl
  have hs1 := hf1.size
  have HF1 : Hid (Fr B b w w1) := hf1
  clear hf1
  go_wp2_with (at_builtin; refine Lib.wpList_append_own_string _ rfl _ _ 55 9 rfl B 5 i0 Tryz.underlying55 Tryz.underlying9 hi hz0 hz1 hz2 _ _ _ rfl hown s rfl ?c3 ?c4 ?c5 ?_)
  case c3 => unfold maxLen; omega
  case c4 => omega
  case c5 => omega
  intro v' w2 hown' hgrow _
  have hlt : b < w1.heap.size := (Array.getElem?_eq_some_iff.1 hbk).1
  have hb2 : w2.heap[b]? = some (.cells #[.pointer (some ⟨b, 0, none⟩), v] 57 (0, 0)) := by
    rw [hgrow.block b hlt (fun e => hne e.symm)]
    exact hbk
  have d0 : w2.cell? ⟨b, 0, none⟩ = some (.pointer (some ⟨b, 0, none⟩)) := by rw [Lib.cell_of_heap hb2]; rfl
  have d1 : w2.cell? ⟨b, 1, none⟩ = some v := by rw [Lib.cell_of_heap hb2]; rfl
  have f1 : w2.frozen? ⟨b, 1, none⟩ = false := Lib.frozen_of_heap hb2 1
  obtain ⟨ao, n', cap, rfl⟩ : ∃ ao n' cap, v' = .slice ao n' cap := by
    rcases hown'.2 with ⟨hv, _⟩ | ⟨g, cap, cur, hv, _⟩
    · exact ⟨_, _, _, hv⟩
    · exact ⟨_, _, _, hv⟩
  have HF2 : Hid (Fr B b w w2) := HF1.out.trans (Fr.grown hgrow hown (by omega))
  go_wp2
  go_ret2
  exact ⟨rfl, .inr (put_bd hb2 (by simpa [Lib.strCells_length] using hown')), HF2.out.trans (Fr.set _ _)⟩

theorem Bd.isF {B b : Nat} {l : List Value} {w : World} (h : Bd B b l w) : Lib.IsBuilderF 57 5 (min B b) b l w :=
  (h.isB _ (Nat.min_le_left _ _) (Nat.min_le_right _ _)).imp Lib.BuilderAtF.of Lib.BuilderAtF.of
theorem String_bd (B b : Nat) (l : List UInt8) (w : World) (h : Bd B b (Lib.byteCells l) w) (hBw : B ≤ w.heap.size) :
    Calls Tryz.prog 24 #[.pointer (some ⟨b, 0, none⟩)] w fun e w' => e = .returned (.string (str l)) ∧ Below (min B b) w w' ∧ Lib.OthersKept 5 (some b) w w' :=
  (Tryz.Builder_String_any_k (min B b) b l w h.isF (Nat.le_trans (Nat.min_le_left _ _) hBw)).mono fun e w' ⟨he, _, hb, ho⟩ => ⟨he, hb, ho⟩
theorem cells_app (l r : List UInt8) : Lib.byteCells (l ++ r) = Lib.byteCells l ++ Lib.byteCells r := by simp [Lib.byteCells]
theorem cells_str (l : List UInt8) : Lib.strCells (str l) = Lib.byteCells l := by simp [Lib.strCells, Lib.byteCells, str]
theorem cells_len (l : List UInt8) : (Lib.byteCells l).length = l.length := by simp [Lib.byteCells]
theorem cells_one (c : UInt8) : Lib.byteCells [c] = [.int .u8 (c.toNat : Int)] := by simp [Lib.byteCells]

end Fd
end Go.Proofs.YtndglpjkmgcdpaaGreatDoor

/-
  The law's own plain, handed, whole.
-/
set_option linter.unusedVariables false
set_option linter.unusedSimpArgs false
namespace Go.Proofs.YtndglpjkmgcdpaaGreatDoor
open Go.RowKit Go.Shelf
namespace Fd
open Oc Tg

/-- The two fields of spare room. -/
def spareF : List Fl := [([115, 112, 97, 114, 101], []), ([114, 111, 111, 109], [])]
theorem rd_two (w : World) (T : Nat) : InF (.slice (some ⟨w.heap.size, 0, none⟩) 2 2) spareF (w.alloc (.cells #[.string ⟨#[115, 112, 97, 114, 101]⟩, .string ⟨#[]⟩, .string ⟨#[114, 111, 111, 109]⟩, .string ⟨#[]⟩] T)) := by
  refine ⟨⟨_, _, rfl, .inr ⟨w.heap.size, 0, rfl, by simp [spareF], fun j hj => ?_⟩⟩, fun e => by cases e⟩
  have hj2 : j < 2 := by simpa [spareF] using hj
  match j, hj2 with
  | 0, _ => exact ⟨by simp [nth, spareF, str], by simp [nth, spareF, str]⟩
  | 1, _ => exact ⟨by simp [nth, spareF, str], by simp [nth, spareF, str]⟩
theorem RdF.front {a : Option Addr} {n c : Nat} {t u : List Fl} {w : World} (h : RdF (.slice a n c) (t ++ u) w) : RdF (.slice a t.length c) t w := by
  obtain ⟨a', c', e, h⟩ := h
  injection e with e1 e2 e3
  subst e1 e3
  refine ⟨a, c, rfl, ?_⟩
  rcases h with h | ⟨g, o, rfl, hc, hcell⟩
  · exact .inl (List.append_eq_nil_iff.1 h).1
  · refine .inr ⟨g, o, rfl, by rw [List.length_append] at hc; omega, fun j hj => ?_⟩
    have := hcell j (by rw [List.length_append]; omega)
    rw [show nth (t ++ u) j = nth t j by unfold nth; rw [List.getD_eq_getElem?_getD, List.getD_eq_getElem?_getD, List.getElem?_append_left hj]] at this
    exact this

theorem RdF.cap {a : Option Addr} {n c : Nat} {t : List Fl} {w : World} (h : RdF (.slice a n c) t w) : t.length ≤ c := by
  obtain ⟨a', c', e, h⟩ := h
  injection e with e1 e2 e3
  subst e3
  rcases h with h | ⟨g, o, _, hc, _⟩
  · rw [h]; exact Nat.zero_le _
  · exact hc
theorem RdF.some {a : Option Addr} {n c : Nat} {t : List Fl} {w : World} (h : RdF (.slice a n c) t w) (ht : t ≠ []) : ∃ g, a = .some g := by
  obtain ⟨a', c', e, h⟩ := h
  injection e with e1 e2 e3
  subst e1
  rcases h with h | ⟨g, o, e, _, _⟩
  · exact absurd h ht
  · exact ⟨_, e⟩

end Fd
end Go.Proofs.YtndglpjkmgcdpaaGreatDoor

/-
  check, PrintLine, Print; the document's.
-/
set_option linter.unusedVariables false
set_option linter.unusedSimpArgs false
namespace Go.Proofs.YtndglpjkmgcdpaaGreatDoor
open Go.RowKit Go.Shelf
namespace Fd
open Oc Tg

def chkZ (p : Fl) : Int := if isName p.1 then if isValue p.2 then 0 else 61 else 60
def lineP (p : Fl) : List UInt8 := if p.2 = [] then p.1 ++ [58] else p.1 ++ [58] ++ [32] ++ p.2
def printL (p : Fl) : List UInt8 × Int := if chkZ p = 0 then (lineP p, 0) else ([], chkZ p)
def printG : List Fl → List UInt8 → List UInt8 × Int
  | [], acc => (acc, 0)
  | p :: t, acc => if chkZ p = 0 then printG t (acc ++ lineP p ++ [13, 10]) else ([], chkZ p)
def printT (t : List Fl) : List UInt8 × Int := if 100 < t.length then ([], 65) else printG t []
theorem chk_cases (p : Fl) : (chkZ p = 0 ∧ isName p.1 = true ∧ isValue p.2 = true) ∨ (chkZ p = 61 ∧ isName p.1 = true ∧ isValue p.2 = false) ∨ (chkZ p = 60 ∧ isName p.1 = false) := by
  unfold chkZ
  cases h1 : isName p.1 with
  | false => exact .inr (.inr ⟨rfl, rfl⟩)
  | true =>
    cases h2 : isValue p.2 with
    | false => exact .inr (.inl ⟨rfl, rfl, rfl⟩)
    | true => exact .inl ⟨rfl, rfl, rfl⟩
theorem drop_nth (t : List Fl) (k : Nat) (h : k < t.length) : t.drop k = nth t k :: t.drop (k + 1) := by
  rw [List.drop_eq_getElem_cons h]
  unfold nth
  rw [List.getD_eq_getElem?_getD, List.getElem?_eq_getElem h]
  rfl
theorem lineP_len (p : Fl) : (lineP p).length ≤ szF p := by
  unfold lineP szF
  split
  · simp; omega
  · simp; omega
theorem str_app (a b : List UInt8) : str a ++ str b = str (a ++ b) := by
  apply eq_list
  rw [ByteArray.data_append, Array.toList_append, str_list, str_list, str_list]
theorem join_str (a b : ByteArray) : (a ++ b) = str (a.data.toList ++ b.data.toList) := by
  conv => lhs; rw [← str_self a, ← str_self b]
  rw [str_app]

set_option maxRecDepth 100000 in
set_option maxHeartbeats 1000000 in
theorem check_any (p : Fl) (h1 : p.1.length ≤ maxLen) (h2 : p.2.length ≤ maxLen) (w : World) (t : Tab w) :
    Calls Tryz.prog 103 #[.agg #[.string (str p.1), .string (str p.2)]] w fun e w' => e = .returned (.int .i64 (chkZ p)) ∧ Below w.heap.size w w' := by
  obtain ⟨pn, pv⟩ := p
  dsimp only at h1 h2 ⊢
  have hb1 : Below w.heap.size w (w.alloc (.cells #[.string (str pn), .string (str pv)] 92)) := (Below.refl _ w).alloc (Nat.le_refl _) _
  have HN : Hid (Calls Tryz.prog 128 #[.string (str pn)] (w.alloc (.cells #[.string (str pn), .string (str pv)] 92)) fun e w' => e = .returned (.bool (isName pn)) ∧ Below (w.alloc (.cells #[.string (str pn), .string (str pv)] 92)).heap.size (w.alloc (.cells #[.string (str pn), .string (str pv)] 92)) w') := by
    have h := IsName_any (str pn) (by rw [str_size]; exact h1) (w.alloc (.cells #[.string (str pn), .string (str pv)] 92)) (t.below hb1 (Nat.le_refl _))
    rw [str_list] at h
    exact h
  have HV : Hid (∀ w, Calls Tryz.prog 129 #[.string (str pv)] w fun e w' => e = .returned (.bool (isValue pv)) ∧ Below w.heap.size w w') := fun w => by
    have h := IsValue_any (str pv) (by rw [str_size]; exact h2) w
    rw [str_list] at h
    exact h
  have HB1 : Hid (Below _ _ _) := hb1
  have HC : Hid (_) := chk_cases (pn, pv)
  generalize chkZ (pn, pv) = z at *
  generalize str pn = N at *
  generalize str pv = V at *
  dsimp only at HC
  generalize isName pn = b1 at *
  generalize isValue pv = b2 at *
  clear hb1 t h1 h2
  rcases HC.out with ⟨rfl, rfl, rfl⟩ | ⟨rfl, rfl, rfl⟩ | ⟨rfl, rfl⟩
  all_goals clear HC
  · go_enter Tryz.func103, Tryz.ntmps103
    go_wp2_with fail
    refine HN.out.mono ?_
    rintro e w2 ⟨rfl, hb2⟩
    have c1 : w2.cell? ⟨w.heap.size, 1, none⟩ = some (.string V) := by rw [hb2.cell (by simp)]; simp
    have HB2 : Hid (Below w.heap.size w w2) := bel_trans HB1.out hb2
    clear hb2
    go_wp2_with fail
    refine (HV.out _).mono ?_
    rintro e w3 ⟨rfl, hb3⟩
    have HB3 : Hid (Below w.heap.size w w3) := bel_trans HB2.out hb3
    clear hb3
    go_wp2
    go_ret
    exact ⟨rfl, HB3.out⟩
  · go_enter Tryz.func103, Tryz.ntmps103
    go_wp2_with fail
    refine HN.out.mono ?_
    rintro e w2 ⟨rfl, hb2⟩
    have c1 : w2.cell? ⟨w.heap.size, 1, none⟩ = some (.string V) := by rw [hb2.cell (by simp)]; simp
    have HB2 : Hid (Below w.heap.size w w2) := bel_trans HB1.out hb2
    clear hb2
    go_wp2_with fail
    refine (HV.out _).mono ?_
    rintro e w3 ⟨rfl, hb3⟩
    have HB3 : Hid (Below w.heap.size w w3) := bel_trans HB2.out hb3
    clear hb3
    go_wp2
    go_ret
    exact ⟨rfl, HB3.out⟩
  · go_enter Tryz.func103, Tryz.ntmps103
    go_wp2_with fail
    refine HN.out.mono ?_
    rintro e w2 ⟨rfl, hb2⟩
    have HB2 : Hid (Below w.heap.size w w2) := bel_trans HB1.out hb2
    clear hb2
    go_wp2
    go_ret
    exact ⟨rfl, HB2.out⟩

set_option maxRecDepth 100000 in
set_option maxHeartbeats 1000000 in
theorem PrintLine_any (p : Fl) (h1 : p.1.length ≤ 4000000) (h2 : p.2.length ≤ 4000000) (w : World) (t : Tab w) :
    Calls Tryz.prog 70 #[.agg #[.string (str p.1), .string (str p.2)]] w fun e w' => e = .returned (.tuple #[.string (str (printL p).1), .int .i64 (printL p).2]) ∧ Below w.heap.size w w' := by
  obtain ⟨pn, pv⟩ := p
  dsimp only at h1 h2 ⊢
  have hb1 : Below w.heap.size w (w.alloc (.cells #[.string (str pn), .string (str pv)] 92)) := (Below.refl _ w).alloc (Nat.le_refl _) _
  have HC : Hid (Calls Tryz.prog 103 #[.agg #[.string (str pn), .string (str pv)]] (w.alloc (.cells #[.string (str pn), .string (str pv)] 92)) fun e w' => e = .returned (.int .i64 (chkZ (pn, pv))) ∧ Below (w.alloc (.cells #[.string (str pn), .string (str pv)] 92)).heap.size (w.alloc (.cells #[.string (str pn), .string (str pv)] 92)) w') := check_any (pn, pv) (by unfold maxLen; dsimp only; omega) (by unfold maxLen; dsimp only; omega) _ (t.below hb1 (Nat.le_refl _))
  clear t
  have HB1 : Hid (Below _ _ _) := hb1
  have hn : (str pn).size ≤ 4000000 := by rw [str_size]; exact h1
  have hv : (str pv).size ≤ 4000000 := by rw [str_size]; exact h2
  have E1 : pv = [] → Hid (str (lineP (pn, pv)) = str pn ++ ⟨#[58]⟩) := fun h => by
    show _ = _
    unfold lineP
    rw [if_pos h, ← str_app]
    rfl
  have E2 : pv ≠ [] → Hid (str (lineP (pn, pv)) = str pn ++ ⟨#[58]⟩ ++ ⟨#[32]⟩ ++ str pv) := fun h => by
    show _ = _
    unfold lineP
    rw [if_neg h, ← str_app, ← str_app, ← str_app]
    rfl
  have X1 : pv = [] → (str pv).toList.isEmpty = true := fun h => empty_str h
  have X2 : pv ≠ [] → (str pv).toList.isEmpty = false := fun h => nonempty_str h
  unfold printL
  rcases chk_cases (pn, pv) with ⟨hz, hin, hiv⟩ | ⟨hz, hin, hiv⟩ | ⟨hz, hin⟩
  · dsimp only at hin hiv
    rw [hz] at HC
    rw [if_pos hz]
    dsimp only
    clear hz hin hiv
    by_cases hv0 : pv = []
    · have e1 := E1 hv0
      have x1 := X1 hv0
      clear E1 E2 X1 X2 h1 h2 hb1 hv0
      generalize hL : str (lineP (pn, pv)) = L at *
      clear hL
      generalize str pn = N at *
      generalize str pv = V at *
      go_enter Tryz.func70, Tryz.ntmps70
      go_wp2_with fail
      refine HC.out.mono ?_
      rintro e w2 ⟨rfl, hb2⟩
      have c0 : w2.cell? ⟨w.heap.size, 0, none⟩ = some (.string N) := by rw [hb2.cell (by simp)]; simp
      have c1 : w2.cell? ⟨w.heap.size, 1, none⟩ = some (.string V) := by rw [hb2.cell (by simp)]; simp
      have HB9 : Hid (Below w.heap.size w w2) := bel_trans HB1.out hb2
      clear hb2
      go_wp2
      go_ret2
      exact ⟨by rw [e1.out]; rfl, HB9.out⟩
    · have e2 := E2 hv0
      have x2 := X2 hv0
      clear E1 E2 X1 X2 h1 h2 hb1 hv0
      generalize hL : str (lineP (pn, pv)) = L at *
      clear hL
      generalize str pn = N at *
      generalize str pv = V at *
      go_enter Tryz.func70, Tryz.ntmps70
      go_wp2_with fail
      refine HC.out.mono ?_
      rintro e w2 ⟨rfl, hb2⟩
      have c0 : w2.cell? ⟨w.heap.size, 0, none⟩ = some (.string N) := by rw [hb2.cell (by simp)]; simp
      have c1 : w2.cell? ⟨w.heap.size, 1, none⟩ = some (.string V) := by rw [hb2.cell (by simp)]; simp
      have HB9 : Hid (Below w.heap.size w w2) := bel_trans HB1.out hb2
      clear hb2
      go_wp2
      go_ret2
      exact ⟨by rw [e2.out]; rfl, HB9.out⟩
  · dsimp only at hin hiv
    rw [hz] at HC
    rw [hz, if_neg (by decide)]
    dsimp only
    clear hz hin E1 E2 X1 X2 h1 h2 hb1 hiv
    generalize str pn = N at *
    generalize str pv = V at *
    go_enter Tryz.func70, Tryz.ntmps70
    go_wp2_with fail
    refine HC.out.mono ?_
    rintro e w2 ⟨rfl, hb2⟩
    have c0 : w2.cell? ⟨w.heap.size, 0, none⟩ = some (.string N) := by rw [hb2.cell (by simp)]; simp
    have c1 : w2.cell? ⟨w.heap.size, 1, none⟩ = some (.string V) := by rw [hb2.cell (by simp)]; simp
    have HB9 : Hid (Below w.heap.size w w2) := bel_trans HB1.out hb2
    clear hb2
    go_wp2
    go_ret2
    exact ⟨rfl, HB9.out⟩
  · dsimp only at hin
    rw [hz] at HC
    rw [hz, if_neg (by decide)]
    dsimp only
    clear hz hin E1 E2 X1 X2 h1 h2 hb1
    generalize str pn = N at *
    generalize str pv = V at *
    go_enter Tryz.func70, Tryz.ntmps70
    go_wp2_with fail
    refine HC.out.mono ?_
    rintro e w2 ⟨rfl, hb2⟩
    have c0 : w2.cell? ⟨w.heap.size, 0, none⟩ = some (.string N) := by rw [hb2.cell (by simp)]; simp
    have c1 : w2.cell? ⟨w.heap.size, 1, none⟩ = some (.string V) := by rw [hb2.cell (by simp)]; simp
    have HB9 : Hid (Below w.heap.size w w2) := bel_trans HB1.out hb2
    clear hb2
    go_wp2
    go_ret2
    exact ⟨rfl, HB9.out⟩

end Fd
end Go.Proofs.YtndglpjkmgcdpaaGreatDoor
