/- Several texts as one. -/
import Derived.Test.YtkpdaialfcegfaaDoorMgW
import Derived.Deep.QuietTactic
import Derived.Deep.RegionLaw
import Derived.Deep.DrawnRows
import Derived.Test.YtkpdaialfcegfaaDoorMgU
/-
  The document's Decode and Encode.
-/
set_option linter.unusedVariables false
set_option linter.unusedSimpArgs false
namespace Go.Proofs.YtkpdaialfcegfaaDoor
open Go.RowKit Go.Shelf
namespace Tg
open Oc

/-- One step of a region that draws: bytes appended. -/
theorem step_ap {ops : Array Oper} {o : Oper} {a : Act} {K : Act → World → Prop} {Q : Exit → Act → World → Prop} {E : Prop} (hgd : o.guard = none) (s x : Operand)
    (ho : o.op = .call { callee := .builtin .append, args := #[s, x], argTypes := #[61, 61] }) (B : Nat) (v : Value) (l us : List UInt8) (n : Nat) (hn : n = us.length) (W : World) (cs : Array Value) (hcs : cs.toList = Lib.byteCells us)
    (hs : a.eval s = v) (hown : Ow B v l W) (hx : a.eval x = .slice (some ⟨W.heap.size, 0, none⟩) n n) (hlen : l.length + us.length ≤ 140737488355328) (hB : B ≤ W.heap.size)
    (h : ∀ v' w', Hid (Ow B v' (l ++ us) w') → Hid (Below B W w') → K (a.put o.dst v') w') : if Region.wanted o (yielded ops a.tmps) = true then Oper.wp Tryd.prog o a (W.alloc (.cells cs 5)) K Q else E := by
  obtain ⟨i0, hi, hz0, hz1, hz2⟩ := inf5
  have hl : (Lib.byteCells us).length = us.length := cells_len us
  have hw : Region.wanted o (yielded ops a.tmps) = true := by simp [Region.wanted, hgd]
  rw [if_pos hw]
  subst hn
  obtain ⟨v', w', hrun, h1, h2, _⟩ := run_append_own (P := Tryd.prog) (w := W.alloc (.cells cs 5)) B 61 o.type 5 i0 (.int .u8 0) 1 1 Tryd.underlying61 hi hz0 hz1 hz2 rfl (by decide) v l.length (Lib.byteCells l) (World.ownsRow.alloc hown _) ⟨W.heap.size, 0, none⟩ us.length us.length (Lib.byteCells us) (by rw [hl, Nat.mul_one])
    (fun j u hj => by
      have e : (W.alloc (.cells cs 5)).heap[W.heap.size]? = some (.cells cs 5 (0, 0)) := heap_alloc_new W _
      rw [show (⟨W.heap.size, 0, none⟩ : Addr).add j = ⟨W.heap.size, j, none⟩ by simp [Addr.add]; omega, Lib.cell_of_heap e]
      rw [← Array.getElem?_toList, hcs]
      exact hj)
    (fun u hu => by
      simp [Lib.byteCells] at hu
      obtain ⟨b, _, rfl⟩ := hu
      rfl) (by unfold maxLen; omega) (by omega) (by simp; omega)
  have := h v' w' (by
    show Ow B v' (l ++ us) w'
    unfold Ow
    rw [List.length_append, cells_app]
    exact h1) (((Below.refl B W).alloc hB _).grown h2 (by simp; omega) (fun k hk => (World.ownsRow.lt hown k hk).1))
  unfold Oper.wp
  simp [execOp, ho, resolve, invoke, builtin, hs, hx, hrun, Result.andThen]
  exact this

end Tg
end Go.Proofs.YtkpdaialfcegfaaDoor

/-
  target: the iterator over the pieces of a text.
-/
set_option linter.unusedVariables false
set_option linter.unusedSimpArgs false
namespace Go.Proofs.YtkpdaialfcegfaaDoor
open Go.RowKit Go.Shelf
attribute [local go_sem] Oper.semAt_some
namespace Tg
open Oc

/-- A piece. -/
structure Pz (M : Nat) where
  z : List UInt8
  le : z.length ≤ M
def encP {M : Nat} (x : Pz M) : Array Value := #[.string (str x.z)]
/-- Three blocks lie as they lay. -/
def Keep3 (a b c : Nat) (A B : World) : Prop := Keep a A B ∧ Keep b A B ∧ Keep c A B
theorem keep3_t {a b c : Nat} {A B C : World} (h : Keep3 a b c A B) (k : Keep3 a b c B C) : Keep3 a b c A C := ⟨h.1.trans k.1, h.2.1.trans k.2.1, h.2.2.trans k.2.2⟩
theorem keep3_b {a b c : Nat} {w : World} (ha : a < w.heap.size) (hb : b < w.heap.size) (hc : c < w.heap.size) (W : World) (l : Nat) (o o' : Obj) (hl : w.heap.size ≤ l) (h : W.heap[l]? = some o) (hcc : o.isCells = false) (hw : o.isWalk = false) : Keep3 a b c W (W.putObj l o') :=
  ⟨keepK_b ha W l o o' hl h hcc hw, keepK_b hb W l o o' hl h hcc hw, keepK_b hc W l o o' hl h hcc hw⟩
theorem keep3_fr {a b c B d : Nat} {A C : World} (h : Fr B d A C) (ha : a < B) (hb : b < B) (hc : c < B) (ha' : a ≠ d) (hb' : b ≠ d) (hc' : c ≠ d) : Keep3 a b c A C := ⟨h.keep ha ha', h.keep hb hb', h.keep hc hc'⟩
theorem ML.keep {A B : World} (h : ML A) (k : Keep 0 A B) : ML B := by
  obtain ⟨m, hm⟩ := h
  exact ⟨m, (k.cell 0).trans hm⟩
theorem ML.lt {w : World} (h : ML w) : 0 < w.heap.size := by
  obtain ⟨m, hm⟩ := h
  exact cell_lt hm

set_option maxRecDepth 100000 in
set_option maxHeartbeats 2000000 in
theorem pieces1_in (n : Nat) (l Bs Bp : Nat) (b : UInt8) (s : ByteArray) (hs : s.size ≤ 4000000000) (J Jx : List (Pz s.size) → World → Prop)
    (hJb : ∀ pre W W', J pre W → Below W.heap.size W W' → J pre W')
    (hY : ∀ pre x W, J pre W → pre.length < s.size + 1 → YieldAt Fence.wide (n - 1) Tryd.prog l (encP x) W fun e W' =>
      (e = .returned (.bool true) ∧ J (pre ++ [x]) W' ∧ Keep3 Bs Bp 0 W W') ∨ (e = .returned (.bool false) ∧ Jx (pre ++ [x]) W'))
    (W : World) (hm : ML W) (hBs : W.cell? ⟨Bs, 0, none⟩ = some (.string s)) (hBp : W.cell? ⟨Bp, 0, none⟩ = some (.string ⟨#[b]⟩)) (h0 : J [] W) :
    CallsIn Fence.wide n Tryd.prog 100 #[.func (.yield l) #[] #[], .pointer (some ⟨Bs, 0, none⟩), .pointer (some ⟨Bp, 0, none⟩)] W fun e W' => (∃ v, e = .returned v) ∧
      ((∃ ys : List (Pz s.size), ys.map Pz.z = splitB b s.data.toList ∧ J ys W') ∨ (∃ pre : List (Pz s.size), (∃ rest, pre.map Pz.z ++ rest = splitB b s.data.toList) ∧ Jx pre W')) := by
  refine callsIn_of_wp Tryd.func100 rfl trivial ?_ rfl
  simp only [Tryd.ntmps100, List.size_toArray, List.length_cons, List.length_nil, Nat.reduceAdd, Nat.reduceSub, Array.replicate_succ, Array.replicate_zero, List.push_toArray, List.append_toArray, List.nil_append, List.cons_append]
  have HM : Hid (ML W) := hm
  have HC : Hid (∀ (t : ByteArray), t.size ≤ s.size → ∀ W, ML W → _) := fun t ht W h => Cut_one t b (by omega) W h
  clear hm
  have hlb := cell_lt hBs
  have hlp := cell_lt hBp
  have HG : Hid (0 < W.heap.size) := HM.out.lt
  gi_wp2_with (refine ⟨trivial, (fun h => by cases h), ?_⟩; refine (callsIn_wide.2 (HC.out s (Nat.le_refl _) _ HM.out)).mono ?_; rintro e w1 ⟨rfl, hb1⟩)
  have c1 := (hb1.cell (p := ⟨Bs, 0, none⟩) hlb).trans hBs
  have c2 := (hb1.cell (p := ⟨Bp, 0, none⟩) hlp).trans hBp
  have HM1 : Hid (ML w1) := HM.out.below hb1
  have hJ1 := hJb _ _ _ h0 hb1
  clear hb1
  gi_loopw [4, 5, 6] (fun pv rv mv wr => ∃ cur : List UInt8, pv = .string (str (cutA b cur)) ∧ rv = .string (str (cutB b cur)) ∧ mv = .bool (has b cur) ∧ ∃ pre : List (Pz s.size), Hid (pre.map Pz.z ++ splitB b cur = splitB b s.data.toList) ∧ Hid (cur.length ≤ s.size) ∧ J pre wr ∧ wr.cell? ⟨Bp, 0, none⟩ = some (.string ⟨#[b]⟩) ∧ wr.cell? ⟨Bs, 0, none⟩ = some (.string s) ∧ Hid (ML wr))
    (fun _ rv mv _ => (match mv with | .bool true => 1 | _ => 0) + match rv with | .string r => r.size | _ => 0)
  case atStart => exact ⟨s.data.toList, rfl, rfl, rfl, [], (rfl : ([] : List (Pz s.size)).map Pz.z ++ splitB b s.data.toList = _), (by rw [size_list]; exact Nat.le_refl _ : s.data.toList.length ≤ s.size), hJ1, c2, c1, HM1⟩
  case round =>
    obtain ⟨cur, rfl, rfl, rfl, pre, hpre, hcl, hJs, hcp, hcs, hml⟩ := hrel
    have hal : (cutA b cur).length ≤ s.size := Nat.le_trans (cutA_len b cur) hcl.out
    have hplen : pre.length < s.size + 1 := by
      have h1 := congrArg List.length hpre.out
      have h2 := split_len b s.data.toList
      have h3 := splitB_ne b cur
      rw [List.length_append, List.length_map] at h1
      have h4 : 0 < (splitB b cur).length := List.length_pos_iff.2 h3
      rw [size_list] at h2
      omega
    obtain ⟨fn, tmps, assign, body, hy, hR⟩ := hY pre ⟨cutA b cur, hal⟩ wr hJs hplen
    unfold encP at hy
    dsimp only at hy
    have hsp := split_cut b cur
    have hbl : (cutB b cur).length ≤ cur.length := cutB_len b cur
    have HSP : Hid (_) := hsp
    clear hsp
    have hdec : has b cur = true → (cutB b cur).length < cur.length := by
      intro h
      have := congrArg List.length (cut_app b cur h)
      rw [List.length_append, List.length_cons] at this
      omega
    cases hh : has b cur with
    | true =>
      have hdl := hdec hh
      rw [hh] at HSP
      have HSP2 : Hid (splitB b cur = cutA b cur :: splitB b (cutB b cur)) := (by have := HSP.out; rw [if_pos rfl] at this; exact this : _ = _)
      have HB : Hid (_) := hdl
      clear hdec hdl HSP
      generalize cutA b cur = A at *
      generalize hB : cutB b cur = B at *
      have hBs' : (str B).size ≤ s.size := by rw [str_size]; have := hcl.out; have := HB.out; omega
      gi_wp2
      refine ⟨(fun h => by cases h), hR.mono ?_⟩
      rintro e W3 (⟨rfl, hJ3, hk3⟩ | ⟨rfl, hJx3⟩)
      · have d1 : W3.cell? ⟨Bs, 0, none⟩ = some (.string s) := (hk3.1.cell _).trans hcs
        have d2 : W3.cell? ⟨Bp, 0, none⟩ = some (.string ⟨#[b]⟩) := (hk3.2.1.cell _).trans hcp
        have HM3 : Hid (ML W3) := hml.out.keep hk3.2.2
        have e1 := cell_lt d1
        have e2 := cell_lt d2
        gi_wp2_with (refine ⟨trivial, (fun h => by cases h), ?_⟩; refine (callsIn_wide.2 (HC.out (str B) hBs' _ HM3.out)).mono ?_; rintro e W4 ⟨rfl, hb4⟩)
        have f1 := (hb4.cell (p := ⟨Bs, 0, none⟩) e1).trans d1
        have f2 := (hb4.cell (p := ⟨Bp, 0, none⟩) e2).trans d2
        have HM4 : Hid (ML W4) := HM3.out.below hb4
        have hJ4 := hJb _ _ _ hJ3 hb4
        have HP1 : Hid ((pre ++ [(⟨A, hal⟩ : Pz s.size)]).map Pz.z ++ splitB b B = splitB b s.data.toList) := by
          show _ = _
          rw [List.map_append, List.append_assoc]
          have := hpre.out
          rw [HSP2.out] at this
          exact this
        have HP2 : Hid (B.length ≤ s.size) := by rw [str_size] at hBs'; exact hBs'
        go_roundw
        case rel => exact ⟨B, by rw [str_list], by rw [str_list], by rw [str_list], pre ++ [⟨A, hal⟩], HP1, HP2, hJ4, f2, f1, HM4⟩
        case measure =>
          rw [str_list]
          have h1 := cutB_len b B
          cases hb : has b B with
          | true =>
            have := congrArg List.length (cut_app b B hb)
            rw [List.length_append, List.length_cons] at this
            simp [str_size]
            omega
          | false => simp [str_size]; omega
      · gi_wp2
        go_end0
        exact ⟨⟨_, rfl⟩, .inr ⟨_, ⟨splitB b B, by rw [List.map_append, List.append_assoc]; have := hpre.out; rw [HSP2.out] at this; exact this⟩, hJx3⟩⟩
    | false =>
      rw [hh] at HSP
      have HSP2 : Hid (splitB b cur = [cutA b cur]) := (by have := HSP.out; rw [if_neg (by simp)] at this; exact this : _ = _)
      clear hdec HSP
      generalize cutA b cur = A at *
      generalize cutB b cur = B at *
      gi_wp2
      refine ⟨(fun h => by cases h), hR.mono ?_⟩
      rintro e W3 (⟨rfl, hJ3, hk3⟩ | ⟨rfl, hJx3⟩)
      · gi_wp2
        go_end0
        exact ⟨⟨_, rfl⟩, .inl ⟨_, by rw [List.map_append]; have := hpre.out; rw [HSP2.out] at this; exact this, hJ3⟩⟩
      · gi_wp2
        go_end0
        exact ⟨⟨_, rfl⟩, .inr ⟨_, ⟨[], by rw [List.append_nil, List.map_append]; have := hpre.out; rw [HSP2.out] at this; exact this⟩, hJx3⟩⟩

end Tg
end Go.Proofs.YtkpdaialfcegfaaDoor
