/- Several texts as one. -/
import Derived.Test.YtlnlhhobmgiceaaGreatDoorMgF
import Derived.Deep.QuietTactic
import Derived.Maps.AppendAt
import Derived.Deep.RegionLaw
import Derived.Laws.AppendOwnNone
import Derived.Test.YtlnlhhobmgiceaaGreatDoorSrB
import Derived.Test.YtlnlhhobmgiceaaGreatDoorDsB
import Derived.Test.YtlnlhhobmgiceaaGreatDoorMgL
/-
  target: the iterator over the pieces of a text.
-/
set_option linter.unusedVariables false
set_option linter.unusedSimpArgs false
namespace Go.Proofs.YtlnlhhobmgiceaaGreatDoor
open Go.RowKit Go.Shelf
attribute [local go_sem] Oper.semAt_some
namespace Tg
open Oc

/-- A piece. -/
structure Pz (M : Nat) where
  z : List UInt8
  le : z.length ≤ M
def encP {M : Nat} (x : Pz M) : Array Value := #[.string (str x.z)]
/-- Three blocks lie as they lay. -/
def Keep3 (a b c : Nat) (A B : World) : Prop := Keep a A B ∧ Keep b A B ∧ Keep c A B
theorem keep3_t {a b c : Nat} {A B C : World} (h : Keep3 a b c A B) (k : Keep3 a b c B C) : Keep3 a b c A C := ⟨h.1.trans k.1, h.2.1.trans k.2.1, h.2.2.trans k.2.2⟩
theorem keep3_b {a b c : Nat} {w : World} (ha : a < w.heap.size) (hb : b < w.heap.size) (hc : c < w.heap.size) (W : World) (l : Nat) (o o' : Obj) (hl : w.heap.size ≤ l) (h : W.heap[l]? = some o) (hcc : o.isCells = false) (hw : o.isWalk = false) : Keep3 a b c W (W.putObj l o') :=
  ⟨keepK_b ha W l o o' hl h hcc hw, keepK_b hb W l o o' hl h hcc hw, keepK_b hc W l o o' hl h hcc hw⟩
theorem keep3_fr {a b c B d : Nat} {A C : World} (h : Fr B d A C) (ha : a < B) (hb : b < B) (hc : c < B) (ha' : a ≠ d) (hb' : b ≠ d) (hc' : c ≠ d) : Keep3 a b c A C := ⟨h.keep ha ha', h.keep hb hb', h.keep hc hc'⟩
theorem ML.keep {A B : World} (h : ML A) (k : Keep 1 A B) : ML B := by
  obtain ⟨m, hm⟩ := h
  exact ⟨m, (k.cell 0).trans hm⟩
theorem ML.lt {w : World} (h : ML w) : 1 < w.heap.size := by
  obtain ⟨m, hm⟩ := h
  exact cell_lt hm

set_option maxRecDepth 100000 in
set_option maxHeartbeats 2000000 in
theorem pieces1_in (n : Nat) (l Bs Bp : Nat) (b : UInt8) (s : ByteArray) (hs : s.size ≤ 4000000000) (J Jx : List (Pz s.size) → World → Prop)
    (hJb : ∀ pre W W', J pre W → Below W.heap.size W W' → J pre W')
    (hY : ∀ pre x W, J pre W → pre.length < s.size + 1 → YieldAt Fence.wide (n - 1) Tryz.prog l (encP x) W fun e W' =>
      (e = .returned (.bool true) ∧ J (pre ++ [x]) W' ∧ Keep3 Bs Bp 1 W W') ∨ (e = .returned (.bool false) ∧ Jx (pre ++ [x]) W'))
    (W : World) (hm : ML W) (hBs : W.cell? ⟨Bs, 0, none⟩ = some (.string s)) (hBp : W.cell? ⟨Bp, 0, none⟩ = some (.string ⟨#[b]⟩)) (h0 : J [] W) :
    CallsIn Fence.wide n Tryz.prog 83 #[.func (.yield l) #[] #[], .pointer (some ⟨Bs, 0, none⟩), .pointer (some ⟨Bp, 0, none⟩)] W fun e W' => (∃ v, e = .returned v) ∧
      ((∃ ys : List (Pz s.size), ys.map Pz.z = splitB b s.data.toList ∧ J ys W') ∨ (∃ pre : List (Pz s.size), (∃ rest, pre.map Pz.z ++ rest = splitB b s.data.toList) ∧ Jx pre W')) := by
  refine callsIn_of_wp Tryz.func83 rfl trivial ?_ rfl
  simp only [Tryz.ntmps83, List.size_toArray, List.length_cons, List.length_nil, Nat.reduceAdd, Nat.reduceSub, Array.replicate_succ, Array.replicate_zero, List.push_toArray, List.append_toArray, List.nil_append, List.cons_append]
  have HM : Hid (ML W) := hm
  have HC : Hid (∀ (t : ByteArray), t.size ≤ s.size → ∀ W, ML W → _) := fun t ht W h => Cut_one t b (by omega) W h
  clear hm
  have hlb := cell_lt hBs
  have hlp := cell_lt hBp
  have HG : Hid (1 < W.heap.size) := HM.out.lt
  gi_wp2_with (refine ⟨trivial, (fun h => by cases h), ?_⟩; refine (callsIn_wide.2 (HC.out s (Nat.le_refl _) _ HM.out)).mono ?_; rintro e w1 ⟨rfl, hb1⟩)
  have c1 := (hb1.cell (p := ⟨Bs, 0, none⟩) hlb).trans hBs
  have c2 := (hb1.cell (p := ⟨Bp, 0, none⟩) hlp).trans hBp
  have HM1 : Hid (ML w1) := HM.out.below hb1
  have hJ1 := hJb _ _ _ h0 hb1
  clear hb1
  gi_loopw [4, 5, 6] (fun pv rv mv wr => ∃ cur : List UInt8, pv = .string (str (cutA b cur)) ∧ rv = .string (str (cutB b cur)) ∧ mv = .bool (has b cur) ∧ ∃ pre : List (Pz s.size), Hid (pre.map Pz.z ++ splitB b cur = splitB b s.data.toList) ∧ Hid (cur.length ≤ s.size) ∧ J pre wr ∧ wr.cell? ⟨Bp, 0, none⟩ = some (.string ⟨#[b]⟩) ∧ wr.cell? ⟨Bs, 0, none⟩ = some (.string s) ∧ Hid (ML wr))
    (fun _ rv mv _ => (match mv with | .bool true => 1 | _ => 0) + match rv with | .string r => r.size | _ => 0)
  case atStart => exact ⟨s.data.toList, rfl, rfl, rfl, [], (rfl : ([] : List (Pz s.size)).map Pz.z ++ splitB b s.data.toList = _), (by rw [size_list]; exact Nat.le_refl _ : s.data.toList.length ≤ s.size), hJ1, c2, c1, HM1⟩
  case round =>
    obtain ⟨cur, rfl, rfl, rfl, pre, hpre, hcl, hJs, hcp, hcs, hml⟩ := hrel
    have hal : (cutA b cur).length ≤ s.size := Nat.le_trans (cutA_len b cur) hcl.out
    have hplen : pre.length < s.size + 1 := by
      have h1 := congrArg List.length hpre.out
      have h2 := split_len b s.data.toList
      have h3 := splitB_ne b cur
      rw [List.length_append, List.length_map] at h1
      have h4 : 0 < (splitB b cur).length := List.length_pos_iff.2 h3
      rw [size_list] at h2
      omega
    obtain ⟨fn, tmps, assign, body, hy, hR⟩ := hY pre ⟨cutA b cur, hal⟩ wr hJs hplen
    unfold encP at hy
    dsimp only at hy
    have hsp := split_cut b cur
    have hbl : (cutB b cur).length ≤ cur.length := cutB_len b cur
    have HSP : Hid (_) := hsp
    clear hsp
    have hdec : has b cur = true → (cutB b cur).length < cur.length := by
      intro h
      have := congrArg List.length (cut_app b cur h)
      rw [List.length_append, List.length_cons] at this
      omega
    cases hh : has b cur with
    | true =>
      have hdl := hdec hh
      rw [hh] at HSP
      have HSP2 : Hid (splitB b cur = cutA b cur :: splitB b (cutB b cur)) := (by have := HSP.out; rw [if_pos rfl] at this; exact this : _ = _)
      have HB : Hid (_) := hdl
      clear hdec hdl HSP
      generalize cutA b cur = A at *
      generalize hB : cutB b cur = B at *
      have hBs' : (str B).size ≤ s.size := by rw [str_size]; have := hcl.out; have := HB.out; omega
      gi_wp2
      refine ⟨(fun h => by cases h), hR.mono ?_⟩
      rintro e W3 (⟨rfl, hJ3, hk3⟩ | ⟨rfl, hJx3⟩)
      · have d1 : W3.cell? ⟨Bs, 0, none⟩ = some (.string s) := (hk3.1.cell _).trans hcs
        have d2 : W3.cell? ⟨Bp, 0, none⟩ = some (.string ⟨#[b]⟩) := (hk3.2.1.cell _).trans hcp
        have HM3 : Hid (ML W3) := hml.out.keep hk3.2.2
        have e1 := cell_lt d1
        have e2 := cell_lt d2
        gi_wp2_with (refine ⟨trivial, (fun h => by cases h), ?_⟩; refine (callsIn_wide.2 (HC.out (str B) hBs' _ HM3.out)).mono ?_; rintro e W4 ⟨rfl, hb4⟩)
        have f1 := (hb4.cell (p := ⟨Bs, 0, none⟩) e1).trans d1
        have f2 := (hb4.cell (p := ⟨Bp, 0, none⟩) e2).trans d2
        have HM4 : Hid (ML W4) := HM3.out.below hb4
        have hJ4 := hJb _ _ _ hJ3 hb4
        have HP1 : Hid ((pre ++ [(⟨A, hal⟩ : Pz s.size)]).map Pz.z ++ splitB b B = splitB b s.data.toList) := by
          show _ = _
          rw [List.map_append, List.append_assoc]
          have := hpre.out
          rw [HSP2.out] at this
          exact this
        have HP2 : Hid (B.length ≤ s.size) := by rw [str_size] at hBs'; exact hBs'
        go_roundw
        case rel => exact ⟨B, by rw [str_list], by rw [str_list], by rw [str_list], pre ++ [⟨A, hal⟩], HP1, HP2, hJ4, f2, f1, HM4⟩
        case measure =>
          rw [str_list]
          have h1 := cutB_len b B
          cases hb : has b B with
          | true =>
            have := congrArg List.length (cut_app b B hb)
            rw [List.length_append, List.length_cons] at this
            simp [str_size]
            omega
          | false => simp [str_size]; omega
      · gi_wp2
        go_end0
        exact ⟨⟨_, rfl⟩, .inr ⟨_, ⟨splitB b B, by rw [List.map_append, List.append_assoc]; have := hpre.out; rw [HSP2.out] at this; exact this⟩, hJx3⟩⟩
    | false =>
      rw [hh] at HSP
      have HSP2 : Hid (splitB b cur = [cutA b cur]) := (by have := HSP.out; rw [if_neg (by simp)] at this; exact this : _ = _)
      clear hdec HSP
      generalize cutA b cur = A at *
      generalize cutB b cur = B at *
      gi_wp2
      refine ⟨(fun h => by cases h), hR.mono ?_⟩
      rintro e W3 (⟨rfl, hJ3, hk3⟩ | ⟨rfl, hJx3⟩)
      · gi_wp2
        go_end0
        exact ⟨⟨_, rfl⟩, .inl ⟨_, by rw [List.map_append]; have := hpre.out; rw [HSP2.out] at this; exact this, hJ3⟩⟩
      · gi_wp2
        go_end0
        exact ⟨⟨_, rfl⟩, .inr ⟨_, ⟨[], by rw [List.append_nil, List.map_append]; have := hpre.out; rw [HSP2.out] at this; exact this⟩, hJx3⟩⟩

end Tg
end Go.Proofs.YtlnlhhobmgiceaaGreatDoor

/-
  Slices of texts: of the call's own, read; the law's own 'same'; an append into a box.
-/
set_option linter.unusedVariables false
set_option linter.unusedSimpArgs false
namespace Go.Proofs.YtlnlhhobmgiceaaGreatDoor
open Go.RowKit Go.Shelf
namespace Tg
open Oc

def encL (t : List (List UInt8)) : List Value := t.map fun l => .string (str l)
/-- A slice of texts of the call's own. -/
def OwnS (B : Nat) (v : Value) (t : List (List UInt8)) (w : World) : Prop := w.ownsRow B 9 1 v t.length (encL t)
theorem ownS_nil (B : Nat) (w : World) : OwnS B (.slice none 0 0) [] w := World.ownsRow_nil w B 9 1
theorem ownS_empty (w : World) : OwnS w.heap.size (.slice (some ⟨w.heap.size, 0, none⟩) 0 0) [] (w.alloc (.cells #[] 9)) :=
  ⟨by simp [encL], .inr ⟨w.heap.size, 0, #[], rfl, Nat.le_refl _, heap_alloc_new w _, by simp, by decide, by simp, by simp [encL]⟩⟩
theorem OwnS.lower {B B' : Nat} {v : Value} {t : List (List UInt8)} {w : World} (h : OwnS B v t w) (hB : B' ≤ B) : OwnS B' v t w := by
  refine ⟨h.1, ?_⟩
  rcases h.2 with hn | ⟨g, cap, cur, rfl, hb, rest⟩
  · exact .inl hn
  · exact .inr ⟨g, cap, cur, rfl, by omega, rest⟩
theorem OwnS.below {B : Nat} {v : Value} {t : List (List UInt8)} {w w' : World} (h : OwnS B v t w) (b : Below w.heap.size w w') : OwnS B v t w' := by
  refine ⟨h.1, ?_⟩
  rcases h.2 with hn | ⟨g, cap, cur, rfl, hb, hg, rest⟩
  · exact .inl hn
  · refine .inr ⟨g, cap, cur, rfl, hb, ?_, rest⟩
    have hlt : g < w.heap.size := by
      rcases Nat.lt_or_ge g w.heap.size with h | h
      · exact h
      · simp [Array.getElem?_eq_none h] at hg
    rw [b.block g hlt]
    exact hg
theorem OwnS.form {B : Nat} {v : Value} {t : List (List UInt8)} {w : World} (h : OwnS B v t w) : ∃ a c, v = .slice a t.length c := by
  rcases h.2 with ⟨rfl, h0⟩ | ⟨g, cap, cur, rfl, _⟩
  · exact ⟨none, 0, by rw [h0]⟩
  · exact ⟨_, _, rfl⟩
theorem OwnS.cell {B : Nat} {t : List (List UInt8)} {w : World} {a : Option Addr} {c : Nat} (h : OwnS B (.slice a t.length c) t w) (j : Nat) (hj : j < t.length) :
    ∃ g, a = some ⟨g, 0, none⟩ ∧ t.length ≤ c ∧ w.cell? ⟨g, j, none⟩ = some (.string (str (t.getD j []))) := by
  rcases h.2 with ⟨hv, h0⟩ | ⟨g, cap, cur, hv, _, hg, hn, _, hsz, htake⟩
  · omega
  · injection hv with e1 e2 e3
    refine ⟨g, e1, by omega, ?_⟩
    have hc := World.ownsRow.cells h (g := g) (by rw [e1]; rfl) j (.string (str (t.getD j []))) (by
      unfold encL
      rw [List.getElem?_map, List.getElem?_eq_getElem hj, List.getD_eq_getElem?_getD, List.getElem?_eq_getElem hj]
      rfl)
    have ea : Addr.add ⟨g, 0, none⟩ j = ⟨g, j, none⟩ := by unfold Addr.add; split <;> simp_all
    rw [ea] at hc
    exact hc

theorem infoStr : (Tryz.prog.info? 9).map (fun i => (i.zero, i.size, i.bytes)) = some (some (.string ⟨#[]⟩), 1, 16) := by kernel_rfl
theorem infoS : ∃ i, Tryz.prog.info? 9 = some i ∧ i.zero = some (.string ⟨#[]⟩) ∧ i.size = 1 ∧ i.bytes = 16 := by
  obtain ⟨i0, hi, hz0, hz1, hz2⟩ := info_parts infoStr
  exact ⟨i0, hi, hz0, hz1, hz2⟩
/-- A text appended to a slice of the call's own. -/
theorem wp_appS {ops : Array Oper} {rest : List Oper} {o : Oper} {a : Act} {Q : Exit → Act → World → Prop} (hgd : o.guard = none) (s x : Operand)
    (ho : o.op = .call { callee := .builtin .append, args := #[s, x], argTypes := #[81, 81] }) (B : Nat) (v : Value) (t : List (List UInt8)) (W : World) (l : List UInt8)
    (hs : a.eval s = v) (hown : OwnS B v t W) (hx : a.eval x = .slice (some ⟨W.heap.size, 0, none⟩) 1 1) (hlen : t.length + 1 ≤ 4294967296) (hB : B ≤ W.heap.size)
    (h : ∀ v' w', OwnS B v' (t ++ [l]) w' → Below B W w' → wpList Tryz.prog ops Q rest (a.put o.dst v') w') : wpList Tryz.prog ops Q (o :: rest) a (W.alloc (.cells #[.string (str l)] 9)) := by
  obtain ⟨i0, hi, hz0, hz1, hz2⟩ := infoS
  refine wpList_append_own _ hgd s x 81 ho B 9 i0 (.string ⟨#[]⟩) 1 16 Tryz.underlying81 hi hz0 hz1 hz2 rfl (by decide) v t.length _ hs (World.ownsRow.alloc hown _) ⟨W.heap.size, 0, none⟩ 1 1 [.string (str l)] hx rfl ?_ ?_ ?_ ?_ ?_ ?_
  · intro j u hj
    match j, hj with
    | 0, hj => simp at hj; subst hj; simp [Addr.add]
  · intro u hu; simp at hu; subst hu; rfl
  · unfold maxLen; omega
  · omega
  · simp; omega
  · intro v' w' h1 h2 _
    refine h v' w' ?_ (((Below.refl B W).alloc hB _).grown h2 (by simp; omega) (fun k hk => (World.ownsRow.lt hown k hk).1))
    unfold OwnS
    rw [List.length_append]
    simpa [encL] using h1

/-- A slice that reads as these texts. -/
def RdS (v : Value) (t : List (List UInt8)) (w : World) : Prop :=
  ∃ a c, v = .slice a t.length c ∧ (t = [] ∨ ∃ g o, a = some ⟨g, o, none⟩ ∧ t.length ≤ c ∧ ∀ j, j < t.length → w.cell? ⟨g, o + j, none⟩ = some (.string (str (t.getD j []))))
theorem OwnS.rd {B : Nat} {v : Value} {t : List (List UInt8)} {w : World} (h : OwnS B v t w) : RdS v t w := by
  obtain ⟨a, c, rfl⟩ := h.form
  refine ⟨a, c, rfl, ?_⟩
  cases t with
  | nil => exact .inl rfl
  | cons x t =>
    right
    obtain ⟨g, e, hc, _⟩ := h.cell 0 (by simp)
    refine ⟨g, 0, e, hc, fun j hj => ?_⟩
    obtain ⟨g', e', _, hcell⟩ := h.cell j hj
    rw [e] at e'
    injection e' with e'
    injection e' with e1
    subst e1
    rw [Nat.zero_add]
    exact hcell
theorem RdS.below {v : Value} {t : List (List UInt8)} {w w' : World} (h : RdS v t w) (b : Below w.heap.size w w') : RdS v t w' := by
  obtain ⟨a, c, rfl, h⟩ := h
  refine ⟨a, c, rfl, ?_⟩
  rcases h with h | ⟨g, o, e, hc, hcell⟩
  · exact .inl h
  · refine .inr ⟨g, o, e, hc, fun j hj => ?_⟩
    have h1 := hcell j hj
    rw [b.cell (p := ⟨g, o + j, none⟩) (World.block_lt_of_cell? w _ h1)]
    exact h1

theorem drawn_again (w : World) (n m : Nat) : Hid (∃ k, w.drewN (n + m) = w.drewN k) := ⟨_, rfl⟩
theorem drawn_twice (w : World) (n m : Nat) : ∃ k, (w.drewN n).drewN m = w.drewN k := ⟨n + m, World.drewN_drewN ..⟩


theorem rd_one (w : World) (l : List UInt8) : RdS (.slice (some ⟨w.heap.size, 0, none⟩) 1 1) [l] (w.alloc (.cells #[.string (str l)] 9)) :=
  ⟨some ⟨w.heap.size, 0, none⟩, 1, rfl, .inr ⟨w.heap.size, 0, rfl, Nat.le_refl _, fun j hj => by
    have : j = 0 := by simpa using hj
    subst this
    simp⟩⟩

theorem own_mono {w : World} {b b' : Nat} {e : TypeId} {v : Value} {n : Nat} {xs : List Value} (h : w.ownsRow b e 1 v n xs) (hb : b' ≤ b) : w.ownsRow b' e 1 v n xs :=
  ⟨h.1, h.2.imp id fun ⟨g, c, cur, e, hg, r⟩ => ⟨g, c, cur, e, Nat.le_trans hb hg, r⟩⟩
theorem coll {W w1 : World} {n₀ N B : Nat} {t e : TypeId} {v v' : Value} {k m : Nat} {xs ys : List Value} {tmp : Obj}
    (hv : Boxed W B t v) (hte : t ≠ e) (hrow : W.ownsRow N e 1 v k xs) (hn : n₀ ≤ N) (hN : N ≤ W.heap.size) (hB : n₀ ≤ B)
    (hown' : w1.ownsRow N e 1 v' m ys) (hgrow : (W.alloc tmp).grownBy w1 v.ownBlock) :
    Boxed w1 B t v ∧ Boxed (w1.setCell ⟨B, 0, none⟩ v') B t v' ∧ (w1.setCell ⟨B, 0, none⟩ v').ownsRow N e 1 v' m ys ∧ KeepsOthers W (w1.setCell ⟨B, 0, none⟩ v') ∧ Below n₀ W (w1.setCell ⟨B, 0, none⟩ v') ∧
    (∀ B2 t2 u, B2 ≠ B → t2 ≠ e → Boxed W B2 t2 u → Boxed w1 B2 t2 u ∧ Boxed (w1.setCell ⟨B, 0, none⟩ v') B2 t2 u) ∧ (∀ e2 u k2 us, e2 ≠ e → t ≠ e2 → W.ownsRow N e2 1 u k2 us → (w1.setCell ⟨B, 0, none⟩ v').ownsRow N e2 1 u k2 us) ∧
    (∀ b, b < N → b ≠ B → Keep b W (w1.setCell ⟨B, 0, none⟩ v')) := by
  obtain ⟨hv1, hv2, _, hk2, hb2⟩ := hv.appended hte (own_mono hrow hn) (Nat.le_trans hn hN) hB (own_mono hown' hn) hgrow
  refine ⟨hv1, hv2, hown'.kept (grownBy_setCell' w1 B v') (.inr (hv1.not_row hte hown').symm), hk2, hb2, ?_, ?_, ?_⟩
  · intro B2 t2 u hne ht hu
    have h1 : Boxed w1 B2 t2 u := (hu.alloc tmp).kept hgrow (hu.not_row ht hrow)
    exact ⟨h1, h1.kept (grownBy_setCell' w1 B v') (fun e => hne (Option.some.inj e))⟩
  · intro e2 u k2 us hne ht hu
    have h0 : u.ownBlock = none ∨ u.ownBlock ≠ v.ownBlock := by
      rcases hu.2 with ⟨rfl, _⟩ | ⟨g, cap, cur, rfl, _, hg, _⟩
      · exact .inl rfl
      · refine .inr fun e' => ?_
        rcases hrow.2 with ⟨rfl, _⟩ | ⟨g', cap', cur', rfl, _, hg', _⟩
        · cases e'
        · obtain rfl : g = g' := by simpa [Value.ownBlock] using e'
          rw [hg] at hg'
          simp at hg'
          exact hne hg'.2
    have h1 := (hu.alloc tmp).kept hgrow h0
    exact h1.kept (grownBy_setCell' w1 B v') (.inr (hv1.not_row ht h1).symm)
  · intro b hb hne
    have hbW : b < W.heap.size := Nat.lt_of_lt_of_le hb hN
    have h1 : some b ≠ v.ownBlock := by
      intro e'
      have := (hrow.lt b e'.symm).1
      omega
    exact ((grownBy_setCell' w1 B v').block b (Nat.lt_of_lt_of_le (by simpa using Nat.lt_succ_of_lt hbW) hgrow.size) (fun e => hne (Option.some.inj e))).trans ((hgrow.block b (by simpa using Nat.lt_succ_of_lt hbW) h1).trans (Below.heap_alloc _ _ _ hbW))


end Tg
end Go.Proofs.YtlnlhhobmgiceaaGreatDoor

/-
  Slices of parts (five cells each): of the call's own, read; an append inside a region of free order.
-/
set_option linter.unusedVariables false
set_option linter.unusedSimpArgs false
namespace Go.Proofs.YtlnlhhobmgiceaaGreatDoor
open Go.RowKit Go.Shelf
namespace Pt
open Oc Tg

/-- A part: name, file, media, body, whether it has a file. -/
structure P5 where
  n : List UInt8
  f : List UInt8
  m : List UInt8
  b : List UInt8
  h : Bool
def p0 : P5 := ⟨[], [], [], [], false⟩
def encT1 (p : P5) : List Value := [.string (str p.n), .string (str p.f), .string (str p.m), .string (str p.b), .bool p.h]
def encT (ps : List P5) : List Value := ps.flatMap encT1
theorem encT_snoc (ps : List P5) (p : P5) : encT (ps ++ [p]) = encT ps ++ encT1 p := by unfold encT; rw [List.flatMap_append]; simp
def szT (p : P5) : Nat := p.n.length + p.f.length + p.m.length + p.b.length
def sumT (t : List P5) : Nat := (t.map szT).sum
def nthT (t : List P5) (j : Nat) : P5 := t.getD j p0
/-- A slice of parts (of the type T) of the call's own. -/
def OwnT (T B : Nat) (v : Value) (ps : List P5) (w : World) : Prop := w.ownsRow B T 5 v ps.length (encT ps)
theorem ownT_nil (T B : Nat) (w : World) : OwnT T B (.slice none 0 0) [] w := World.ownsRow_nil w B T 5
theorem ownT_empty {B : Nat} (T : Nat) (w : World) (hB : B ≤ w.heap.size) : OwnT T B (.slice (some ⟨w.heap.size, 0, none⟩) 0 0) [] (w.alloc (.cells #[] T)) :=
  ⟨by simp [encT], .inr ⟨w.heap.size, 0, #[], rfl, hB, heap_alloc_new w _, by simp, by decide, by simp, by simp [encT]⟩⟩
theorem OwnT.below {T B : Nat} {v : Value} {t : List P5} {w w' : World} (h : OwnT T B v t w) (b : Below w.heap.size w w') : OwnT T B v t w' := by
  refine ⟨h.1, ?_⟩
  rcases h.2 with hn | ⟨g, cap, cur, rfl, hb, hg, rest⟩
  · exact .inl hn
  · refine .inr ⟨g, cap, cur, rfl, hb, ?_, rest⟩
    rw [b.block g (Array.getElem?_eq_some_iff.1 hg).1]
    exact hg
def CellT (w : World) (g o : Nat) (p : P5) : Prop :=
  w.cell? ⟨g, o, none⟩ = some (.string (str p.n)) ∧ w.cell? ⟨g, o + 1, none⟩ = some (.string (str p.f)) ∧ w.cell? ⟨g, o + 2, none⟩ = some (.string (str p.m)) ∧ w.cell? ⟨g, o + 3, none⟩ = some (.string (str p.b)) ∧ w.cell? ⟨g, o + 4, none⟩ = some (.bool p.h)
theorem CellT.below {w w' : World} {g o n : Nat} {p : P5} (h : CellT w g o p) (b : Below n w w') (hg : g < n) : CellT w' g o p := by
  obtain ⟨h0, h1, h2, h3, h4⟩ := h
  exact ⟨(b.cell (p := ⟨g, o, none⟩) hg).trans h0, (b.cell (p := ⟨g, o + 1, none⟩) hg).trans h1, (b.cell (p := ⟨g, o + 2, none⟩) hg).trans h2, (b.cell (p := ⟨g, o + 3, none⟩) hg).trans h3, (b.cell (p := ⟨g, o + 4, none⟩) hg).trans h4⟩
/-- A slice that reads as these parts. -/
def RdT (v : Value) (t : List P5) (w : World) : Prop :=
  ∃ a c, v = .slice a t.length c ∧ (t = [] ∨ ∃ g o, a = some ⟨g, o, none⟩ ∧ t.length ≤ c ∧ ∀ j, j < t.length → CellT w g (o + j * 5) (nthT t j))
theorem encT_at : ∀ (t : List P5) (j : Nat), j < t.length → ∀ i, i < 5 → (encT t)[j * 5 + i]? = (encT1 (nthT t j))[i]?
  | [], j, h, _, _ => by simp at h
  | p :: t, 0, _, i, hi => by
    have e : encT (p :: t) = encT1 p ++ encT t := rfl
    rw [e, Nat.zero_mul, Nat.zero_add, List.getElem?_append_left (by show i < 5; exact hi)]
    rfl
  | p :: t, j + 1, h, i, hi => by
    have ih := encT_at t j (by simpa using h) i hi
    have e : encT (p :: t) = encT1 p ++ encT t := rfl
    have n : nthT (p :: t) (j + 1) = nthT t j := by unfold nthT; simp
    have l5 : (encT1 p).length = 5 := rfl
    rw [e, n, List.getElem?_append_right (by rw [l5]; omega), l5, show (j + 1) * 5 + i - 5 = j * 5 + i by omega]
    exact ih
theorem OwnT.rd {T B : Nat} {v : Value} {t : List P5} {w : World} (h : OwnT T B v t w) : RdT v t w := by
  have hall := h
  rcases h.2 with ⟨rfl, h0⟩ | ⟨g, cap, cur, rfl, _, hg, hn, _⟩
  · exact ⟨none, 0, by rw [h0], .inl (List.length_eq_zero_iff.1 h0)⟩
  · refine ⟨_, _, rfl, .inr ⟨g, 0, rfl, by omega, fun j hj => ?_⟩⟩
    have ea : ∀ k, Addr.add ⟨g, 0, none⟩ k = ⟨g, 0 + k, none⟩ := fun k => by unfold Addr.add; split <;> simp_all
    have c : ∀ i, i < 5 → ∀ u, (encT1 (nthT t j))[i]? = some u → w.cell? ⟨g, 0 + (j * 5 + i), none⟩ = some u := fun i hi u hu => by
      have := World.ownsRow.cells hall (g := g) rfl (j * 5 + i) u (by rw [encT_at t j hj i hi]; exact hu)
      rwa [ea] at this
    exact ⟨c 0 (by omega) _ rfl, by have := c 1 (by omega) _ rfl; rwa [← Nat.add_assoc] at this, by have := c 2 (by omega) _ rfl; rwa [← Nat.add_assoc] at this, by have := c 3 (by omega) _ rfl; rwa [← Nat.add_assoc] at this, by have := c 4 (by omega) _ rfl; rwa [← Nat.add_assoc] at this⟩
theorem RdT.below {v : Value} {t : List P5} {w w' : World} (h : RdT v t w) (b : Below w.heap.size w w') : RdT v t w' := by
  obtain ⟨a, c, rfl, h⟩ := h
  refine ⟨a, c, rfl, ?_⟩
  rcases h with h | ⟨g, o, e, hc, hcell⟩
  · exact .inl h
  · exact .inr ⟨g, o, e, hc, fun j hj => (hcell j hj).below b (World.block_lt_of_cell? w _ (hcell j hj).1)⟩
theorem sumT_take (t : List P5) (k : Nat) : sumT (t.take k) ≤ sumT t := by
  unfold sumT
  conv => rhs; rw [← List.take_append_drop k t]
  rw [List.map_append, List.sum_append]
  omega
theorem take_nthT (t : List P5) (k : Nat) (h : k < t.length) : t.take (k + 1) = t.take k ++ [nthT t k] := by
  unfold nthT
  rw [List.take_add_one, List.getElem?_eq_getElem h, List.getD_eq_getElem?_getD, List.getElem?_eq_getElem h]; rfl
theorem szT_le (t : List P5) (k : Nat) (h : k < t.length) : szT (nthT t k) ≤ sumT t := by
  have h1 : sumT (t.take (k + 1)) = sumT (t.take k) + szT (nthT t k) := by
    unfold sumT
    rw [take_nthT t k h, List.map_append, List.sum_append]
    simp
  have h2 := sumT_take t (k + 1)
  omega

/-- A part appended to a slice of the call's own. -/
theorem step_appT {ops : Array Oper} {o : Oper} {a : Act} {K : Act → World → Prop} {Q : Exit → Act → World → Prop} {E : Prop} (T S : Nat) (hinfo : (Tryz.prog.info? T).map (fun i => (i.zero, i.size, i.bytes)) = some (some (.agg #[.string ⟨#[]⟩, .string ⟨#[]⟩, .string ⟨#[]⟩, .string ⟨#[]⟩, .bool false]), 5, 72))
    (hund : Tryz.prog.underlying S = some (.slice T)) (hgd : o.guard = none) (s x : Operand)
    (ho : o.op = .call { callee := .builtin .append, args := #[s, x], argTypes := #[S, S] }) (B : Nat) (v : Value) (t : List P5) (W : World) (p : P5) (n1 n2 n3 n4 : ByteArray) (h1 : n1 = str p.n) (h2 : n2 = str p.f) (h3 : n3 = str p.m) (h4 : n4 = str p.b) (b : Bool) (h5 : b = p.h)
    (hs : a.eval s = v) (hown : OwnT T B v t W) (g : Nat) (hx : a.eval x = .slice (some ⟨g, 0, none⟩) 1 1) (hg : g = W.heap.size) (hlen : t.length + 1 ≤ 1073741824) (hB : B ≤ W.heap.size)
    (h : ∀ v' w', OwnT T B v' (t ++ [p]) w' → Below B W w' → K (a.put o.dst v') w') : if Region.wanted o (yielded ops a.tmps) = true then Oper.wp Tryz.prog o a (W.alloc (.cells #[.string n1, .string n2, .string n3, .string n4, .bool b] T)) K Q else E := by
  subst h1 h2 h3 h4 h5 hg
  have hw : Region.wanted o (yielded ops a.tmps) = true := by simp [Region.wanted, hgd]
  rw [if_pos hw]
  obtain ⟨i0, hi, hz0, hz1, hz2⟩ := info_parts hinfo
  refine wp_append_own _ s x S ho B T i0 (.agg #[.string ⟨#[]⟩, .string ⟨#[]⟩, .string ⟨#[]⟩, .string ⟨#[]⟩, .bool false]) 5 72 hund hi hz0 hz1 hz2 rfl (by decide) v t.length _ hs (World.ownsRow.alloc hown _) ⟨W.heap.size, 0, none⟩ 1 1 (encT1 p) hx rfl ?_ ?_ ?_ ?_ ?_ ?_
  · intro j u hj
    unfold encT1 at hj
    match j, hj with
    | 0, hj => simp at hj; subst hj; simp [Addr.add]
    | 1, hj => simp at hj; subst hj; simp [Addr.add]
    | 2, hj => simp at hj; subst hj; simp [Addr.add]
    | 3, hj => simp at hj; subst hj; simp [Addr.add]
    | 4, hj => simp at hj; subst hj; simp [Addr.add]
  · intro u hu
    unfold encT1 at hu
    simp at hu
    rcases hu with rfl | rfl | rfl | rfl | rfl <;> rfl
  · unfold maxLen; omega
  · omega
  · simp; omega
  · intro v' w' h1 h2 _
    refine h v' w' ?_ (((Below.refl B W).alloc hB _).grown h2 (by simp; omega) (fun k hk => (World.ownsRow.lt hown k hk).1))
    unfold OwnT
    rw [encT_snoc, List.length_append]
    exact h1
theorem infoT1 : (Tryz.prog.info? 49).map (fun i => (i.zero, i.size, i.bytes)) = some (some (.agg #[.string ⟨#[]⟩, .string ⟨#[]⟩, .string ⟨#[]⟩, .string ⟨#[]⟩, .bool false]), 5, 72) := by kernel_rfl

theorem infoT2 : (Tryz.prog.info? 62).map (fun i => (i.zero, i.size, i.bytes)) = some (some (.agg #[.string ⟨#[]⟩, .string ⟨#[]⟩, .string ⟨#[]⟩, .string ⟨#[]⟩, .bool false]), 5, 72) := by kernel_rfl

end Pt
end Go.Proofs.YtlnlhhobmgiceaaGreatDoor

/-
  sheet: what the fields of a part have said: the head in its block; media, end, dispose.
-/
set_option linter.unusedVariables false
set_option linter.unusedSimpArgs false
namespace Go.Proofs.YtlnlhhobmgiceaaGreatDoor
open Go.RowKit Go.Shelf
namespace Sr
open Oc Tg Mf

/-- The head lies in the block b. -/
def Hd (w : World) (b : Nat) (x : Pt.P5) (d t : Bool) : Prop := w.heap[b]? = some (.cells #[.string (str x.n), .string (str x.f), .string (str x.m), .string (str x.b), .bool x.h, .bool d, .bool t] 166 (0, 0))
theorem Hd.below {w w' : World} {b : Nat} {x : Pt.P5} {d t : Bool} (h : Hd w b x d t) (bl : Below w.heap.size w w') : Hd w' b x d t := by
  unfold Hd at *
  rw [bl.block b (Array.getElem?_eq_some_iff.1 h).1]
  exact h
theorem Hd.cells {w : World} {b : Nat} {x : Pt.P5} {d t : Bool} (h : Hd w b x d t) : w.cell? ⟨b, 0, none⟩ = some (.string (str x.n)) ∧ w.cell? ⟨b, 1, none⟩ = some (.string (str x.f)) ∧ w.cell? ⟨b, 2, none⟩ = some (.string (str x.m)) ∧ w.cell? ⟨b, 3, none⟩ = some (.string (str x.b)) ∧ w.cell? ⟨b, 4, none⟩ = some (.bool x.h) ∧ w.cell? ⟨b, 5, none⟩ = some (.bool d) ∧ w.cell? ⟨b, 6, none⟩ = some (.bool t) := by
  have : ∀ k : Nat, w.cell? ⟨b, k, none⟩ = #[Value.string (str x.n), .string (str x.f), .string (str x.m), .string (str x.b), .bool x.h, .bool d, .bool t][k]? := fun k => by unfold Hd at h; simp [World.cell?, h]
  exact ⟨by simpa using this 0, by simpa using this 1, by simpa using this 2, by simpa using this 3, by simpa using this 4, by simpa using this 5, by simpa using this 6⟩
theorem Hd.f {w : World} {b : Nat} {x : Pt.P5} {d t : Bool} (h : Hd w b x d t) (k : Nat) : w.frozen? ⟨b, k, none⟩ = false := Lib.frozen_of_heap h k

set_option maxRecDepth 100000 in
theorem end_any (b : Nat) (x : Pt.P5) (d t : Bool) (w : World) (hH : Hd w b x d t) :
    Calls Tryz.prog 133 #[.pointer (some ⟨b, 0, none⟩)] w fun e w' => e = .returned (.int .i64 (if d = true then 0 else 152)) ∧ w' = w := by
  obtain ⟨c0, c1, c2, c3, c4, c5, c6⟩ := hH.cells
  cases d with
  | true =>
    go_enter Tryz.func133, Tryz.ntmps133
    go_wp2
    go_ret
    exact ⟨rfl, rfl⟩
  | false =>
    go_enter Tryz.func133, Tryz.ntmps133
    go_wp2
    go_ret
    exact ⟨rfl, rfl⟩

/-- What media does: the error, the head. -/
def medP (v : List UInt8) (x : Pt.P5) (t : Bool) : Int × Pt.P5 × Bool := if t = true then (152, x, t) else (0, { x with m := v }, true)
set_option maxRecDepth 100000 in
theorem media_any (b : Nat) (x : Pt.P5) (d t : Bool) (v : List UInt8) (w : World) (hH : Hd w b x d t) :
    Calls Tryz.prog 137 #[.pointer (some ⟨b, 0, none⟩), .string (str v)] w fun e w' => e = .returned (.int .i64 (medP v x t).1) ∧ Hd w' b (medP v x t).2.1 d (medP v x t).2.2 ∧ Chg b w w' := by
  obtain ⟨c0, c1, c2, c3, c4, c5, c6⟩ := hH.cells
  have f2 := hH.f 2
  have f6 := hH.f 6
  have HH : Hid (Hd w b x d t) := hH
  have HS : Hid (t = false → Hd ((w.setCell ⟨b, 2, none⟩ (.string (str v))).setCell ⟨b, 6, none⟩ (.bool true)) b { x with m := v } d true) := (fun ht => by
    have z1 := heap_setCell_same w b 2 _ _ (.string (str v)) hH
    have z2 := heap_setCell_same _ b 6 _ _ (.bool true) z1
    unfold Hd
    rw [z2]
    rfl : _ → _)
  have HC : Hid (Chg b w ((w.setCell ⟨b, 2, none⟩ (.string (str v))).setCell ⟨b, 6, none⟩ (.bool true))) := ((Chg.refl b w).set 2 _).set 6 _
  clear hH
  cases t with
  | true =>
    have HQ : Hid (medP v x true = (152, x, true)) := rfl
    generalize medP v x true = R at *
    generalize str v = SV at *
    go_enter Tryz.func137, Tryz.ntmps137
    go_wp2
    go_ret
    rw [HQ.out]
    exact ⟨rfl, HH.out, Chg.refl _ _⟩
  | false =>
    have HQ : Hid (medP v x false = (0, { x with m := v }, true)) := rfl
    have HS2 := HS.out rfl
    have HS3 : Hid (Hd ((w.setCell ⟨b, 2, none⟩ (.string (str v))).setCell ⟨b, 6, none⟩ (.bool true)) b { x with m := v } d true) := HS2
    clear HS HS2
    generalize medP v x false = R at *
    go_enter Tryz.func137, Tryz.ntmps137
    go_wp2
    go_ret
    rw [HQ.out]
    exact ⟨rfl, HS3.out, HC.out⟩

end Sr
end Go.Proofs.YtlnlhhobmgiceaaGreatDoor
