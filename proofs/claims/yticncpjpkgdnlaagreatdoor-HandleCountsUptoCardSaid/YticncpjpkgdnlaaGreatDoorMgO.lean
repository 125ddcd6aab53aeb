/- Several texts as one. -/
import Derived.Test.YticncpjpkgdnlaaGreatDoorMgN
import Derived.Deep.QuietTactic
import Derived.Maps.AppendAt
import Derived.Test.YticncpjpkgdnlaaGreatDoorMgB
import Derived.Test.YticncpjpkgdnlaaGreatDoorMgG
import Derived.Lib.CountLaws
import Derived.Lib.SplitLaws
/-
  target: the iterator over the pieces of a text.
-/
set_option linter.unusedVariables false
set_option linter.unusedSimpArgs false
namespace Go.Proofs.YticncpjpkgdnlaaGreatDoor
open Go.RowKit Go.Shelf
attribute [local go_sem] Oper.semAt_some
namespace Tg
open Oc

/-- A piece. -/
structure Pz (M : Nat) where
  z : List UInt8
  le : z.length ≤ M
def encP {M : Nat} (x : Pz M) : Array Value := #[.string (str x.z)]
/-- Three blocks lie as they lay. -/
def Keep3 (a b c : Nat) (A B : World) : Prop := Keep a A B ∧ Keep b A B ∧ Keep c A B
theorem keep3_t {a b c : Nat} {A B C : World} (h : Keep3 a b c A B) (k : Keep3 a b c B C) : Keep3 a b c A C := ⟨h.1.trans k.1, h.2.1.trans k.2.1, h.2.2.trans k.2.2⟩
theorem keep3_b {a b c : Nat} {w : World} (ha : a < w.heap.size) (hb : b < w.heap.size) (hc : c < w.heap.size) (W : World) (l : Nat) (o o' : Obj) (hl : w.heap.size ≤ l) (h : W.heap[l]? = some o) (hcc : o.isCells = false) (hw : o.isWalk = false) : Keep3 a b c W (W.putObj l o') :=
  ⟨keepK_b ha W l o o' hl h hcc hw, keepK_b hb W l o o' hl h hcc hw, keepK_b hc W l o o' hl h hcc hw⟩
theorem keep3_fr {a b c B d : Nat} {A C : World} (h : Fr B d A C) (ha : a < B) (hb : b < B) (hc : c < B) (ha' : a ≠ d) (hb' : b ≠ d) (hc' : c ≠ d) : Keep3 a b c A C := ⟨h.keep ha ha', h.keep hb hb', h.keep hc hc'⟩
theorem ML.keep {A B : World} (h : ML A) (k : Keep 7 A B) : ML B := by
  obtain ⟨m, hm⟩ := h
  exact ⟨m, (k.cell 0).trans hm⟩
theorem ML.lt {w : World} (h : ML w) : 7 < w.heap.size := by
  obtain ⟨m, hm⟩ := h
  exact cell_lt hm

set_option maxRecDepth 100000 in
set_option maxHeartbeats 2000000 in
theorem pieces1_in (n : Nat) (l Bs Bp : Nat) (b : UInt8) (s : ByteArray) (hs : s.size ≤ 4000000000) (J Jx : List (Pz s.size) → World → Prop)
    (hJb : ∀ pre W W', J pre W → Below W.heap.size W W' → J pre W')
    (hY : ∀ pre x W, J pre W → pre.length < s.size + 1 → YieldAt Fence.wide (n - 1) Tryz.prog l (encP x) W fun e W' =>
      (e = .returned (.bool true) ∧ J (pre ++ [x]) W' ∧ Keep3 Bs Bp 7 W W') ∨ (e = .returned (.bool false) ∧ Jx (pre ++ [x]) W'))
    (W : World) (hm : ML W) (hBs : W.cell? ⟨Bs, 0, none⟩ = some (.string s)) (hBp : W.cell? ⟨Bp, 0, none⟩ = some (.string ⟨#[b]⟩)) (h0 : J [] W) :
    CallsIn Fence.wide n Tryz.prog 130 #[.func (.yield l) #[] #[], .pointer (some ⟨Bs, 0, none⟩), .pointer (some ⟨Bp, 0, none⟩)] W fun e W' => (∃ v, e = .returned v) ∧
      ((∃ ys : List (Pz s.size), ys.map Pz.z = splitB b s.data.toList ∧ J ys W') ∨ (∃ pre : List (Pz s.size), (∃ rest, pre.map Pz.z ++ rest = splitB b s.data.toList) ∧ Jx pre W')) := by
  refine callsIn_of_wp Tryz.func130 rfl trivial ?_ rfl
  simp only [Tryz.ntmps130, List.size_toArray, List.length_cons, List.length_nil, Nat.reduceAdd, Nat.reduceSub, Array.replicate_succ, Array.replicate_zero, List.push_toArray, List.append_toArray, List.nil_append, List.cons_append]
  have HM : Hid (ML W) := hm
  have HC : Hid (∀ (t : ByteArray), t.size ≤ s.size → ∀ W, ML W → _) := fun t ht W h => Cut_one t b (by omega) W h
  clear hm
  have hlb := cell_lt hBs
  have hlp := cell_lt hBp
  have HG : Hid (7 < W.heap.size) := HM.out.lt
  gi_wp2_with (refine ⟨trivial, (fun h => by cases h), ?_⟩; refine (callsIn_wide.2 (HC.out s (Nat.le_refl _) _ HM.out)).mono ?_; rintro e w1 ⟨rfl, hb1⟩)
  have c1 := (hb1.cell (p := ⟨Bs, 0, none⟩) hlb).trans hBs
  have c2 := (hb1.cell (p := ⟨Bp, 0, none⟩) hlp).trans hBp
  have HM1 : Hid (ML w1) := HM.out.below hb1
  have hJ1 := hJb _ _ _ h0 hb1
  clear hb1
  gi_loopw [4, 5, 6] (fun pv rv mv wr => ∃ cur : List UInt8, pv = .string (str (cutA b cur)) ∧ rv = .string (str (cutB b cur)) ∧ mv = .bool (has b cur) ∧ ∃ pre : List (Pz s.size), Hid (pre.map Pz.z ++ splitB b cur = splitB b s.data.toList) ∧ Hid (cur.length ≤ s.size) ∧ J pre wr ∧ wr.cell? ⟨Bp, 0, none⟩ = some (.string ⟨#[b]⟩) ∧ wr.cell? ⟨Bs, 0, none⟩ = some (.string s) ∧ Hid (ML wr))
    (fun _ rv mv _ => (match mv with | .bool true => 1 | _ => 0) + match rv with | .string r => r.size | _ => 0)
  case atStart => exact ⟨s.data.toList, rfl, rfl, rfl, [], (rfl : ([] : List (Pz s.size)).map Pz.z ++ splitB b s.data.toList = _), (by rw [size_list]; exact Nat.le_refl _ : s.data.toList.length ≤ s.size), hJ1, c2, c1, HM1⟩
  case round =>
    obtain ⟨cur, rfl, rfl, rfl, pre, hpre, hcl, hJs, hcp, hcs, hml⟩ := hrel
    have hal : (cutA b cur).length ≤ s.size := Nat.le_trans (cutA_len b cur) hcl.out
    have hplen : pre.length < s.size + 1 := by
      have h1 := congrArg List.length hpre.out
      have h2 := split_len b s.data.toList
      have h3 := splitB_ne b cur
      rw [List.length_append, List.length_map] at h1
      have h4 : 0 < (splitB b cur).length := List.length_pos_iff.2 h3
      rw [size_list] at h2
      omega
    obtain ⟨fn, tmps, assign, body, hy, hR⟩ := hY pre ⟨cutA b cur, hal⟩ wr hJs hplen
    unfold encP at hy
    dsimp only at hy
    have hsp := split_cut b cur
    have hbl : (cutB b cur).length ≤ cur.length := cutB_len b cur
    have HSP : Hid (_) := hsp
    clear hsp
    have hdec : has b cur = true → (cutB b cur).length < cur.length := by
      intro h
      have := congrArg List.length (cut_app b cur h)
      rw [List.length_append, List.length_cons] at this
      omega
    cases hh : has b cur with
    | true =>
      have hdl := hdec hh
      rw [hh] at HSP
      have HSP2 : Hid (splitB b cur = cutA b cur :: splitB b (cutB b cur)) := (by have := HSP.out; rw [if_pos rfl] at this; exact this : _ = _)
      have HB : Hid (_) := hdl
      clear hdec hdl HSP
      generalize cutA b cur = A at *
      generalize hB : cutB b cur = B at *
      have hBs' : (str B).size ≤ s.size := by rw [str_size]; have := hcl.out; have := HB.out; omega
      gi_wp2
      refine ⟨(fun h => by cases h), hR.mono ?_⟩
      rintro e W3 (⟨rfl, hJ3, hk3⟩ | ⟨rfl, hJx3⟩)
      · have d1 : W3.cell? ⟨Bs, 0, none⟩ = some (.string s) := (hk3.1.cell _).trans hcs
        have d2 : W3.cell? ⟨Bp, 0, none⟩ = some (.string ⟨#[b]⟩) := (hk3.2.1.cell _).trans hcp
        have HM3 : Hid (ML W3) := hml.out.keep hk3.2.2
        have e1 := cell_lt d1
        have e2 := cell_lt d2
        gi_wp2_with (refine ⟨trivial, (fun h => by cases h), ?_⟩; refine (callsIn_wide.2 (HC.out (str B) hBs' _ HM3.out)).mono ?_; rintro e W4 ⟨rfl, hb4⟩)
        have f1 := (hb4.cell (p := ⟨Bs, 0, none⟩) e1).trans d1
        have f2 := (hb4.cell (p := ⟨Bp, 0, none⟩) e2).trans d2
        have HM4 : Hid (ML W4) := HM3.out.below hb4
        have hJ4 := hJb _ _ _ hJ3 hb4
        have HP1 : Hid ((pre ++ [(⟨A, hal⟩ : Pz s.size)]).map Pz.z ++ splitB b B = splitB b s.data.toList) := by
          show _ = _
          rw [List.map_append, List.append_assoc]
          have := hpre.out
          rw [HSP2.out] at this
          exact this
        have HP2 : Hid (B.length ≤ s.size) := by rw [str_size] at hBs'; exact hBs'
        go_roundw
        case rel => exact ⟨B, by rw [str_list], by rw [str_list], by rw [str_list], pre ++ [⟨A, hal⟩], HP1, HP2, hJ4, f2, f1, HM4⟩
        case measure =>
          rw [str_list]
          have h1 := cutB_len b B
          cases hb : has b B with
          | true =>
            have := congrArg List.length (cut_app b B hb)
            rw [List.length_append, List.length_cons] at this
            simp [str_size]
            omega
          | false => simp [str_size]; omega
      · gi_wp2
        go_end0
        exact ⟨⟨_, rfl⟩, .inr ⟨_, ⟨splitB b B, by rw [List.map_append, List.append_assoc]; have := hpre.out; rw [HSP2.out] at this; exact this⟩, hJx3⟩⟩
    | false =>
      rw [hh] at HSP
      have HSP2 : Hid (splitB b cur = [cutA b cur]) := (by have := HSP.out; rw [if_neg (by simp)] at this; exact this : _ = _)
      clear hdec HSP
      generalize cutA b cur = A at *
      generalize cutB b cur = B at *
      gi_wp2
      refine ⟨(fun h => by cases h), hR.mono ?_⟩
      rintro e W3 (⟨rfl, hJ3, hk3⟩ | ⟨rfl, hJx3⟩)
      · gi_wp2
        go_end0
        exact ⟨⟨_, rfl⟩, .inl ⟨_, by rw [List.map_append]; have := hpre.out; rw [HSP2.out] at this; exact this, hJ3⟩⟩
      · gi_wp2
        go_end0
        exact ⟨⟨_, rfl⟩, .inr ⟨_, ⟨[], by rw [List.append_nil, List.map_append]; have := hpre.out; rw [HSP2.out] at this; exact this⟩, hJx3⟩⟩

end Tg
end Go.Proofs.YticncpjpkgdnlaaGreatDoor

/-
  Slices of texts: of the call's own, read; the law's own 'same'; an append into a box.
-/
set_option linter.unusedVariables false
set_option linter.unusedSimpArgs false
namespace Go.Proofs.YticncpjpkgdnlaaGreatDoor
open Go.RowKit Go.Shelf
namespace Tg
open Oc

def encL (t : List (List UInt8)) : List Value := t.map fun l => .string (str l)
/-- A slice of texts of the call's own. -/
def OwnS (B : Nat) (v : Value) (t : List (List UInt8)) (w : World) : Prop := w.ownsRow B 9 1 v t.length (encL t)
theorem ownS_nil (B : Nat) (w : World) : OwnS B (.slice none 0 0) [] w := World.ownsRow_nil w B 9 1
theorem ownS_empty (w : World) : OwnS w.heap.size (.slice (some ⟨w.heap.size, 0, none⟩) 0 0) [] (w.alloc (.cells #[] 9)) :=
  ⟨by simp [encL], .inr ⟨w.heap.size, 0, #[], rfl, Nat.le_refl _, heap_alloc_new w _, by simp, by decide, by simp, by simp [encL]⟩⟩
theorem OwnS.lower {B B' : Nat} {v : Value} {t : List (List UInt8)} {w : World} (h : OwnS B v t w) (hB : B' ≤ B) : OwnS B' v t w := by
  refine ⟨h.1, ?_⟩
  rcases h.2 with hn | ⟨g, cap, cur, rfl, hb, rest⟩
  · exact .inl hn
  · exact .inr ⟨g, cap, cur, rfl, by omega, rest⟩
theorem OwnS.below {B : Nat} {v : Value} {t : List (List UInt8)} {w w' : World} (h : OwnS B v t w) (b : Below w.heap.size w w') : OwnS B v t w' := by
  refine ⟨h.1, ?_⟩
  rcases h.2 with hn | ⟨g, cap, cur, rfl, hb, hg, rest⟩
  · exact .inl hn
  · refine .inr ⟨g, cap, cur, rfl, hb, ?_, rest⟩
    have hlt : g < w.heap.size := by
      rcases Nat.lt_or_ge g w.heap.size with h | h
      · exact h
      · simp [Array.getElem?_eq_none h] at hg
    rw [b.block g hlt]
    exact hg
theorem OwnS.form {B : Nat} {v : Value} {t : List (List UInt8)} {w : World} (h : OwnS B v t w) : ∃ a c, v = .slice a t.length c := by
  rcases h.2 with ⟨rfl, h0⟩ | ⟨g, cap, cur, rfl, _⟩
  · exact ⟨none, 0, by rw [h0]⟩
  · exact ⟨_, _, rfl⟩
theorem OwnS.cell {B : Nat} {t : List (List UInt8)} {w : World} {a : Option Addr} {c : Nat} (h : OwnS B (.slice a t.length c) t w) (j : Nat) (hj : j < t.length) :
    ∃ g, a = some ⟨g, 0, none⟩ ∧ t.length ≤ c ∧ w.cell? ⟨g, j, none⟩ = some (.string (str (t.getD j []))) := by
  rcases h.2 with ⟨hv, h0⟩ | ⟨g, cap, cur, hv, _, hg, hn, _, hsz, htake⟩
  · omega
  · injection hv with e1 e2 e3
    refine ⟨g, e1, by omega, ?_⟩
    have hc := World.ownsRow.cells h (g := g) (by rw [e1]; rfl) j (.string (str (t.getD j []))) (by
      unfold encL
      rw [List.getElem?_map, List.getElem?_eq_getElem hj, List.getD_eq_getElem?_getD, List.getElem?_eq_getElem hj]
      rfl)
    have ea : Addr.add ⟨g, 0, none⟩ j = ⟨g, j, none⟩ := by unfold Addr.add; split <;> simp_all
    rw [ea] at hc
    exact hc

theorem infoStr : (Tryz.prog.info? 9).map (fun i => (i.zero, i.size, i.bytes)) = some (some (.string ⟨#[]⟩), 1, 16) := by kernel_rfl
theorem infoS : ∃ i, Tryz.prog.info? 9 = some i ∧ i.zero = some (.string ⟨#[]⟩) ∧ i.size = 1 ∧ i.bytes = 16 := by
  obtain ⟨i0, hi, hz0, hz1, hz2⟩ := info_parts infoStr
  exact ⟨i0, hi, hz0, hz1, hz2⟩
/-- A text appended to a slice of the call's own. -/
theorem wp_appS {ops : Array Oper} {rest : List Oper} {o : Oper} {a : Act} {Q : Exit → Act → World → Prop} (hgd : o.guard = none) (s x : Operand)
    (ho : o.op = .call { callee := .builtin .append, args := #[s, x], argTypes := #[75, 75] }) (B : Nat) (v : Value) (t : List (List UInt8)) (W : World) (l : List UInt8)
    (hs : a.eval s = v) (hown : OwnS B v t W) (hx : a.eval x = .slice (some ⟨W.heap.size, 0, none⟩) 1 1) (hlen : t.length + 1 ≤ 4294967296) (hB : B ≤ W.heap.size)
    (h : ∀ v' w', OwnS B v' (t ++ [l]) w' → Below B W w' → wpList Tryz.prog ops Q rest (a.put o.dst v') w') : wpList Tryz.prog ops Q (o :: rest) a (W.alloc (.cells #[.string (str l)] 9)) := by
  obtain ⟨i0, hi, hz0, hz1, hz2⟩ := infoS
  refine wpList_append_own _ hgd s x 75 ho B 9 i0 (.string ⟨#[]⟩) 1 16 Tryz.underlying75 hi hz0 hz1 hz2 rfl (by decide) v t.length _ hs (World.ownsRow.alloc hown _) ⟨W.heap.size, 0, none⟩ 1 1 [.string (str l)] hx rfl ?_ ?_ ?_ ?_ ?_ ?_
  · intro j u hj
    match j, hj with
    | 0, hj => simp at hj; subst hj; simp [Addr.add]
  · intro u hu; simp at hu; subst hu; rfl
  · unfold maxLen; omega
  · omega
  · simp; omega
  · intro v' w' h1 h2 _
    refine h v' w' ?_ (((Below.refl B W).alloc hB _).grown h2 (by simp; omega) (fun k hk => (World.ownsRow.lt hown k hk).1))
    unfold OwnS
    rw [List.length_append]
    simpa [encL] using h1

/-- A slice that reads as these texts. -/
def RdS (v : Value) (t : List (List UInt8)) (w : World) : Prop :=
  ∃ a c, v = .slice a t.length c ∧ (t = [] ∨ ∃ g o, a = some ⟨g, o, none⟩ ∧ t.length ≤ c ∧ ∀ j, j < t.length → w.cell? ⟨g, o + j, none⟩ = some (.string (str (t.getD j []))))
theorem OwnS.rd {B : Nat} {v : Value} {t : List (List UInt8)} {w : World} (h : OwnS B v t w) : RdS v t w := by
  obtain ⟨a, c, rfl⟩ := h.form
  refine ⟨a, c, rfl, ?_⟩
  cases t with
  | nil => exact .inl rfl
  | cons x t =>
    right
    obtain ⟨g, e, hc, _⟩ := h.cell 0 (by simp)
    refine ⟨g, 0, e, hc, fun j hj => ?_⟩
    obtain ⟨g', e', _, hcell⟩ := h.cell j hj
    rw [e] at e'
    injection e' with e'
    injection e' with e1
    subst e1
    rw [Nat.zero_add]
    exact hcell
theorem RdS.below {v : Value} {t : List (List UInt8)} {w w' : World} (h : RdS v t w) (b : Below w.heap.size w w') : RdS v t w' := by
  obtain ⟨a, c, rfl, h⟩ := h
  refine ⟨a, c, rfl, ?_⟩
  rcases h with h | ⟨g, o, e, hc, hcell⟩
  · exact .inl h
  · refine .inr ⟨g, o, e, hc, fun j hj => ?_⟩
    have h1 := hcell j hj
    rw [b.cell (p := ⟨g, o + j, none⟩) (World.block_lt_of_cell? w _ h1)]
    exact h1

theorem drawn_again (w : World) (n m : Nat) : Hid (∃ k, w.drewN (n + m) = w.drewN k) := ⟨_, rfl⟩
theorem drawn_twice (w : World) (n m : Nat) : ∃ k, (w.drewN n).drewN m = w.drewN k := ⟨n + m, World.drewN_drewN ..⟩


theorem rd_one (w : World) (l : List UInt8) : RdS (.slice (some ⟨w.heap.size, 0, none⟩) 1 1) [l] (w.alloc (.cells #[.string (str l)] 9)) :=
  ⟨some ⟨w.heap.size, 0, none⟩, 1, rfl, .inr ⟨w.heap.size, 0, rfl, Nat.le_refl _, fun j hj => by
    have : j = 0 := by simpa using hj
    subst this
    simp⟩⟩

theorem own_mono {w : World} {b b' : Nat} {e : TypeId} {v : Value} {n : Nat} {xs : List Value} (h : w.ownsRow b e 1 v n xs) (hb : b' ≤ b) : w.ownsRow b' e 1 v n xs :=
  ⟨h.1, h.2.imp id fun ⟨g, c, cur, e, hg, r⟩ => ⟨g, c, cur, e, Nat.le_trans hb hg, r⟩⟩
theorem coll {W w1 : World} {n₀ N B : Nat} {t e : TypeId} {v v' : Value} {k m : Nat} {xs ys : List Value} {tmp : Obj}
    (hv : Boxed W B t v) (hte : t ≠ e) (hrow : W.ownsRow N e 1 v k xs) (hn : n₀ ≤ N) (hN : N ≤ W.heap.size) (hB : n₀ ≤ B)
    (hown' : w1.ownsRow N e 1 v' m ys) (hgrow : (W.alloc tmp).grownBy w1 v.ownBlock) :
    Boxed w1 B t v ∧ Boxed (w1.setCell ⟨B, 0, none⟩ v') B t v' ∧ (w1.setCell ⟨B, 0, none⟩ v').ownsRow N e 1 v' m ys ∧ KeepsOthers W (w1.setCell ⟨B, 0, none⟩ v') ∧ Below n₀ W (w1.setCell ⟨B, 0, none⟩ v') ∧
    (∀ B2 t2 u, B2 ≠ B → t2 ≠ e → Boxed W B2 t2 u → Boxed w1 B2 t2 u ∧ Boxed (w1.setCell ⟨B, 0, none⟩ v') B2 t2 u) ∧ (∀ e2 u k2 us, e2 ≠ e → t ≠ e2 → W.ownsRow N e2 1 u k2 us → (w1.setCell ⟨B, 0, none⟩ v').ownsRow N e2 1 u k2 us) ∧
    (∀ b, b < N → b ≠ B → Keep b W (w1.setCell ⟨B, 0, none⟩ v')) := by
  obtain ⟨hv1, hv2, _, hk2, hb2⟩ := hv.appended hte (own_mono hrow hn) (Nat.le_trans hn hN) hB (own_mono hown' hn) hgrow
  refine ⟨hv1, hv2, hown'.kept (grownBy_setCell' w1 B v') (.inr (hv1.not_row hte hown').symm), hk2, hb2, ?_, ?_, ?_⟩
  · intro B2 t2 u hne ht hu
    have h1 : Boxed w1 B2 t2 u := (hu.alloc tmp).kept hgrow (hu.not_row ht hrow)
    exact ⟨h1, h1.kept (grownBy_setCell' w1 B v') (fun e => hne (Option.some.inj e))⟩
  · intro e2 u k2 us hne ht hu
    have h0 : u.ownBlock = none ∨ u.ownBlock ≠ v.ownBlock := by
      rcases hu.2 with ⟨rfl, _⟩ | ⟨g, cap, cur, rfl, _, hg, _⟩
      · exact .inl rfl
      · refine .inr fun e' => ?_
        rcases hrow.2 with ⟨rfl, _⟩ | ⟨g', cap', cur', rfl, _, hg', _⟩
        · cases e'
        · obtain rfl : g = g' := by simpa [Value.ownBlock] using e'
          rw [hg] at hg'
          simp at hg'
          exact hne hg'.2
    have h1 := (hu.alloc tmp).kept hgrow h0
    exact h1.kept (grownBy_setCell' w1 B v') (.inr (hv1.not_row ht h1).symm)
  · intro b hb hne
    have hbW : b < W.heap.size := Nat.lt_of_lt_of_le hb hN
    have h1 : some b ≠ v.ownBlock := by
      intro e'
      have := (hrow.lt b e'.symm).1
      omega
    exact ((grownBy_setCell' w1 B v').block b (Nat.lt_of_lt_of_le (by simpa using Nat.lt_succ_of_lt hbW) hgrow.size) (fun e => hne (Option.some.inj e))).trans ((hgrow.block b (by simpa using Nat.lt_succ_of_lt hbW) h1).trans (Below.heap_alloc _ _ _ hbW))


end Tg
end Go.Proofs.YticncpjpkgdnlaaGreatDoor

/-
  target: hosts and ports; plain, and the program's smaller functions.
-/
set_option linter.unusedVariables false
set_option linter.unusedSimpArgs false
set_option maxRecDepth 100000
namespace Go.Proofs.YticncpjpkgdnlaaGreatDoor
open Go.RowKit Go.Shelf
namespace Tg
open Oc

/-- A group of an address. -/
def grp1 (l : List UInt8) : Bool := decide ((numR 16 l 65535).2 = 0) && decide (l.length ≤ 4)
/-- A number from 0 to 255 without a 0 ahead. -/
def dec1 (l : List UInt8) : Bool := decide ((numR 10 l 255).2 = 0) && decide (l = Lib.itoa (numR 10 l 255).1)
def quadR (l : List UInt8) : Bool := (splitB 46 l).all dec1 && decide ((splitB 46 l).length = 4)
def grpG (last : Bool) : List (List UInt8) → Option Nat
  | [] => some 0
  | x :: r => if grp1 x then (grpG last r).map (1 + ·) else if last && r.isEmpty && quadR x then some 2 else none
def grpR (l : List UInt8) (last : Bool) : Option Nat := if l = [] then some 0 else grpG last (splitB 58 l)
def addrR (l : List UInt8) : Bool :=
  if (Lib.cut l [58, 58]).2.2 then match grpR (Lib.cut l [58, 58]).1 false, grpR (Lib.cut l [58, 58]).2.1 true with
    | some a, some b => decide (a + b < 8)
    | _, _ => false
  else grpR l true == some 8
theorem grpG_le (last : Bool) : ∀ (L : List (List UInt8)) (n : Nat), grpG last L = some n → n ≤ 2 * L.length
  | [], n, h => by cases h; simp
  | x :: r, n, h => by
    unfold grpG at h
    split at h
    · obtain ⟨m, hm, rfl⟩ := Option.map_eq_some_iff.1 h
      have := grpG_le last r m hm
      simp only [List.length_cons]
      omega
    · split at h
      · cases h; simp only [List.length_cons]; omega
      · cases h

theorem split_bridge (b : UInt8) : ∀ (n : Nat) (s : ByteArray), s.size ≤ n → (Lib.splitB ⟨#[b]⟩ 0 (Lib.countB s ⟨#[b]⟩) s).map (·.data.toList) = splitB b s.data.toList := by
  intro n
  induction n with
  | zero =>
    intro s hs
    have hl : s.data.toList = [] := List.length_eq_zero_iff.1 (by rw [size_list]; omega)
    have hi : Lib.indexB s ⟨#[b]⟩ = -1 := by
      show Lib.index s.data.toList [b] = -1
      rw [hl]
      rfl
    rw [Lib.splitB_miss _ _ _ _ hi, hl]
    simp only [List.map_cons, List.map_nil]
    rw [hl]
    rfl
  | succ n ih =>
    intro s hs
    have hi := index_one b s.data.toList
    cases hh : has b s.data.toList with
    | false =>
      rw [hh] at hi
      have hi2 : Lib.indexB s ⟨#[b]⟩ = -1 := hi
      rw [Lib.splitB_miss _ _ _ _ hi2, split_cut, hh]
      have hc := cut_one b s.data.toList
      unfold Lib.cut at hc
      rw [show Lib.index s.data.toList [b] = -1 from hi, if_neg (by omega)] at hc
      have := congrArg Prod.fst hc
      simp only [List.map_cons, List.map_nil]
      simp
      exact this
    | true =>
      rw [hh, if_pos rfl] at hi
      have hi2 : Lib.indexB s ⟨#[b]⟩ = (((cutA b s.data.toList).length : Nat) : Int) := hi
      have hc := cut_one b s.data.toList
      unfold Lib.cut at hc
      rw [show Lib.index s.data.toList [b] = (((cutA b s.data.toList).length : Nat) : Int) from hi, if_pos (by omega)] at hc
      have h1 : s.data.toList.take (cutA b s.data.toList).length = cutA b s.data.toList := by
        have := congrArg Prod.fst hc
        simpa using this
      have h2 : s.data.toList.drop ((cutA b s.data.toList).length + 1) = cutB b s.data.toList := by
        have := congrArg (fun x => x.2.1) hc
        simpa using this
      have hlt : (cutA b s.data.toList).length + 1 ≤ s.size := by
        have := cut_app b s.data.toList hh
        have := congrArg List.length this
        rw [List.length_append, size_list] at this
        simp at this
        omega
      rw [Lib.countB_hit s ⟨#[b]⟩ _ (Nat.le_refl 1) hi2, Nat.add_comm 1, Lib.splitB_hit _ _ _ _ _ hi2, split_cut, hh, if_pos rfl]
      have he : (⟨#[b]⟩ : ByteArray).size = 1 := rfl
      rw [he]
      have hx : (s.extract ((cutA b s.data.toList).length + 1) s.size).data.toList = cutB b s.data.toList := by
        rw [Lib.extract_to_end, h2]
      simp only [List.map_cons, Nat.add_zero]
      rw [ih _ (by rw [ByteArray.size_extract]; omega), hx, Lib.extract_from_zero, h1]

theorem Split_any (s : ByteArray) (b : UInt8) (hs : s.size ≤ 4000000000) (w : World) (h : ML w) :
    Calls Tryz.prog 163 #[.string s, .string ⟨#[b]⟩] w fun e w' => ∃ a c, e = .returned (.slice a (splitB b s.data.toList).length c) ∧ RdS (.slice a (splitB b s.data.toList).length c) (splitB b s.data.toList) w' ∧ Below w.heap.size w w' := by
  obtain ⟨m, hm⟩ := h
  refine (Tryz.strings_Split s ⟨#[b]⟩ m w (by omega) hm (Nat.le_refl 1)).mono ?_
  rintro e w' ⟨rfl, rfl⟩
  have hb := split_bridge b s.size s (Nat.le_refl _)
  have hl : (Lib.splitB ⟨#[b]⟩ 0 (Lib.countB s ⟨#[b]⟩) s).length = (splitB b s.data.toList).length := by rw [← hb, List.length_map]
  have hn : Lib.countB s ⟨#[b]⟩ + 1 = (splitB b s.data.toList).length := by
    rw [← hl]
    exact (Lib.splitB_all ⟨#[b]⟩ (Nat.le_refl 1) 0 _ s rfl).symm
  rw [hn]
  refine ⟨_, _, rfl, ⟨_, _, rfl, .inr ⟨w.heap.size, 0, rfl, Nat.le_refl _, fun j hj => ?_⟩⟩, (Below.refl _ w).alloc (Nat.le_refl _) _⟩
  have hr := heap_alloc_new w (.cells ((Lib.splitB ⟨#[b]⟩ 0 (Lib.countB s ⟨#[b]⟩) s).map Value.string).toArray 9)
  rw [Nat.zero_add, cell_of_row _ _ _ _ _ _ hr, List.getElem?_toArray, List.getElem?_map]
  have hj2 : j < (Lib.splitB ⟨#[b]⟩ 0 (Lib.countB s ⟨#[b]⟩) s).length := by rw [hl]; exact hj
  rw [List.getElem?_eq_getElem hj2]
  have e : (splitB b s.data.toList).getD j [] = ((Lib.splitB ⟨#[b]⟩ 0 (Lib.countB s ⟨#[b]⟩) s)[j]).data.toList := by
    rw [← hb, List.getD_eq_getElem?_getD, List.getElem?_map, List.getElem?_eq_getElem hj2]
    rfl
  rw [e, str_self]
  rfl

end Tg
end Go.Proofs.YticncpjpkgdnlaaGreatDoor

/-
  The law's own plain, handed, whole.
-/
set_option linter.unusedVariables false
set_option linter.unusedSimpArgs false
namespace Go.Proofs.YticncpjpkgdnlaaGreatDoor
open Go.RowKit Go.Shelf
namespace Fd
open Oc Tg

/-- The two fields of spare room. -/
def spareF : List Fl := [([115, 112, 97, 114, 101], []), ([114, 111, 111, 109], [])]
theorem rd_two (w : World) (T : Nat) : InF (.slice (some ⟨w.heap.size, 0, none⟩) 2 2) spareF (w.alloc (.cells #[.string ⟨#[115, 112, 97, 114, 101]⟩, .string ⟨#[]⟩, .string ⟨#[114, 111, 111, 109]⟩, .string ⟨#[]⟩] T)) := by
  refine ⟨⟨_, _, rfl, .inr ⟨w.heap.size, 0, rfl, by simp [spareF], fun j hj => ?_⟩⟩, fun e => by cases e⟩
  have hj2 : j < 2 := by simpa [spareF] using hj
  match j, hj2 with
  | 0, _ => exact ⟨by simp [nth, spareF, str], by simp [nth, spareF, str]⟩
  | 1, _ => exact ⟨by simp [nth, spareF, str], by simp [nth, spareF, str]⟩
theorem RdF.front {a : Option Addr} {n c : Nat} {t u : List Fl} {w : World} (h : RdF (.slice a n c) (t ++ u) w) : RdF (.slice a t.length c) t w := by
  obtain ⟨a', c', e, h⟩ := h
  injection e with e1 e2 e3
  subst e1 e3
  refine ⟨a, c, rfl, ?_⟩
  rcases h with h | ⟨g, o, rfl, hc, hcell⟩
  · exact .inl (List.append_eq_nil_iff.1 h).1
  · refine .inr ⟨g, o, rfl, by rw [List.length_append] at hc; omega, fun j hj => ?_⟩
    have := hcell j (by rw [List.length_append]; omega)
    rw [show nth (t ++ u) j = nth t j by unfold nth; rw [List.getD_eq_getElem?_getD, List.getD_eq_getElem?_getD, List.getElem?_append_left hj]] at this
    exact this

theorem RdF.cap {a : Option Addr} {n c : Nat} {t : List Fl} {w : World} (h : RdF (.slice a n c) t w) : t.length ≤ c := by
  obtain ⟨a', c', e, h⟩ := h
  injection e with e1 e2 e3
  subst e3
  rcases h with h | ⟨g, o, _, hc, _⟩
  · rw [h]; exact Nat.zero_le _
  · exact hc
theorem RdF.some {a : Option Addr} {n c : Nat} {t : List Fl} {w : World} (h : RdF (.slice a n c) t w) (ht : t ≠ []) : ∃ g, a = .some g := by
  obtain ⟨a', c', e, h⟩ := h
  injection e with e1 e2 e3
  subst e1
  rcases h with h | ⟨g, o, e, _, _⟩
  · exact absurd h ht
  · exact ⟨_, e⟩

end Fd
end Go.Proofs.YticncpjpkgdnlaaGreatDoor
