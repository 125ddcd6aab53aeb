/-
  Codings, Framing; the document's.
-/
import Derived.Test.YtjmeijjmgmcncaaDoorFLe
set_option linter.unusedVariables false
set_option linter.unusedSimpArgs false
namespace Go.Proofs.YtjmeijjmgmcncaaDoor
open Go.RowKit Go.Shelf
namespace Fd
open Oc Tg

def chk : List UInt8 := [99, 104, 117, 110, 107, 101, 100]
def codF (t : List Fl) : List (List UInt8) × Bool × Int := if vals nTE t = [] then ([], false, 0) else if (tokensF nTE t).2 = 0 then ((tokensF nTE t).1, true, 0) else ([], false, 67)
def frame (old : Bool) (cl : List (List UInt8)) (coded : Bool) (ce : Int) (n : Int) (sized : Bool) (le : Int) : Int × Int × Int :=
  if ce ≠ 0 then (0, 0, 67)
  else if coded = true then
    if old = true then (0, 0, 67)
    else if cl = [chk] then (if le ≠ 0 then (0, 0, 66) else if sized = true then (0, 0, 68) else (2, 0, 0))
    else (0, 0, 67)
  else if le ≠ 0 then (0, 0, 66) else if sized = true then (1, n, 0) else (0, 0, 0)
def framingF (t : List Fl) (old : Bool) : Int × Int × Int := frame old (codF t).1 (codF t).2.1 (codF t).2.2 (lengthF t).1 (lengthF t).2.1 (lengthF t).2.2
theorem len_err (t : List Fl) : (lengthF t).2.2 = 0 ∨ (lengthF t).2.2 = 66 := by
  unfold lengthF lenL
  repeat' split
  all_goals simp
theorem cod_len {t : List Fl} (hS : sumF t ≤ 1048576) : (codF t).1.length ≤ 1048576 := by
  have := tokens_len hS nTE
  unfold codF
  repeat' split
  all_goals simp
  exact this

set_option maxRecDepth 100000 in
set_option maxHeartbeats 1000000 in
theorem Codings_any (v : Value) (t : List Fl) (hS : sumF t ≤ 1048576) (w : World) (hrd : RdF v t w) (tab : Tab w) :
    Calls Tryd.prog 58 #[v] w fun e w' => ∃ u, e = .returned (.tuple #[u, .bool (codF t).2.1, .int .i64 (codF t).2.2]) ∧ OwnS w.heap.size u (codF t).1 w' ∧ Below w.heap.size w w' := by
  have hlen := len_sumF t
  have hM := (each_sumF t).mono hS
  have HF : Hid (Calls Tryd.prog 37 #[v, .string ⟨#[84, 114, 97, 110, 115, 102, 101, 114, 45, 69, 110, 99, 111, 100, 105, 110, 103]⟩] w fun e w' => e = .returned (.tuple #[.string (str (findF nTE t).1), .bool (decide (0 < (vals nTE t).length))]) ∧ Below w.heap.size w w') := by
    have h := Find_any v t nTE (by decide) (hM.mono (by unfold maxLen; omega)) (by omega) w hrd
    rw [findB] at h
    exact h
  have HT : Hid (∀ w, RdF v t w → Tab w → Calls Tryd.prog 50 #[v, .string ⟨#[84, 114, 97, 110, 115, 102, 101, 114, 45, 69, 110, 99, 111, 100, 105, 110, 103]⟩] w fun e w' => ∃ x, e = .returned (.tuple #[x, .int .i64 (tokensF nTE t).2]) ∧ OwnS w.heap.size x (tokensF nTE t).1 w' ∧ Below w.heap.size w w') := fun w h tb => Tokens6_any v t nTE (by decide) hS w h tb
  have HTab : Hid (Tab w) := tab
  clear tab
  generalize str (findF nTE t).1 = FS at *
  have HR : Hid (RdF v t w) := hrd
  have hTl : (vals nTE t).length ≤ 1048576 := by have := sumV_filter nTE t; omega
  unfold codF
  obtain ⟨a, c, rfl, _⟩ := hrd
  clear hM
  generalize vals nTE t = T at *
  generalize (tokensF nTE t).1 = L at *
  generalize (tokensF nTE t).2 = z at *
  by_cases hT : T = []
  · rw [if_pos hT]
    rw [show decide (0 < T.length) = false by rw [hT]; rfl] at HF
    clear hT
    go_enter Tryd.func58, Tryd.ntmps58
    go_wp2_with fail
    refine HF.out.mono ?_
    rintro e w1 ⟨rfl, hb⟩
    have HB1 : Hid (Below w.heap.size w w1) := hb
    clear hb
    go_wp2
    refine bodyPost_ret (v := .tuple #[.slice none 0 0, .bool false, .int .i64 0]) (by simp [results, Tryd.results58, go_sem]) rfl ?_
    exact ⟨_, rfl, ownS_nil _ _, HB1.out⟩
  · rw [if_neg hT]
    rw [show decide (0 < T.length) = true from decide_eq_true (List.length_pos_iff.2 hT)] at HF
    clear hT
    by_cases hz : z = 0
    · subst hz
      rw [if_pos rfl]
      go_enter Tryd.func58, Tryd.ntmps58
      go_wp2_with fail
      refine HF.out.mono ?_
      rintro e w1 ⟨rfl, hb⟩
      have HB1 : Hid (Below w.heap.size w w1) := hb
      clear hb
      go_wp2_with fail
      refine (HT.out _ (HR.out.below HB1.out) (HTab.out.below HB1.out (Nat.le_refl _))).mono ?_
      rintro e w2 ⟨x, rfl, hx, hb⟩
      have HB2 : Hid (Below w.heap.size w w2) := bel_trans HB1.out hb
      have HX : Hid (OwnS w.heap.size x L w2) := hx.lower HB1.out.size
      obtain ⟨xa, xc, rfl⟩ := hx.form
      clear hb hx
      go_wp2
      refine bodyPost_ret (v := .tuple #[.slice xa L.length xc, .bool true, .int .i64 0]) (by simp [results, Tryd.results58, go_sem]) rfl ?_
      exact ⟨_, rfl, HX.out, HB2.out⟩
    · rw [if_neg hz]
      have hzq : (z != 0) = true := by simp [hz]
      go_enter Tryd.func58, Tryd.ntmps58
      go_wp2_with fail
      refine HF.out.mono ?_
      rintro e w1 ⟨rfl, hb⟩
      have HB1 : Hid (Below w.heap.size w w1) := hb
      clear hb
      go_wp2_with fail
      refine (HT.out _ (HR.out.below HB1.out) (HTab.out.below HB1.out (Nat.le_refl _))).mono ?_
      rintro e w2 ⟨x, rfl, hx, hb⟩
      have HB2 : Hid (Below w.heap.size w w2) := bel_trans HB1.out hb
      have HX : Hid (OwnS w.heap.size x L w2) := hx.lower HB1.out.size
      obtain ⟨xa, xc, rfl⟩ := hx.form
      clear hb hx
      go_wp2
      refine bodyPost_ret (v := .tuple #[.slice none 0 0, .bool false, .int .i64 67]) (by simp [results, Tryd.results58, go_sem]) rfl ?_
      exact ⟨_, rfl, ownS_nil _ _, HB2.out⟩

set_option maxRecDepth 100000 in
set_option maxHeartbeats 1000000 in
theorem Equal_one (v : Value) (L : List (List UInt8)) (hl : L.length ≤ 1048576) (g : Nat) (k : List UInt8) (w : World) (h : RdS v L w) (hc : w.cell? ⟨g, 0, none⟩ = some (.string (str k))) :
    Calls Tryd.prog 60 #[v, .slice (some ⟨g, 0, none⟩) 1 1] w fun e w' => e = .returned (.bool (decide (L = [k]))) ∧ Below w.heap.size w w' := by
  obtain ⟨a, c, rfl, h⟩ := h
  by_cases h1 : L.length = 1
  · obtain ⟨x, rfl⟩ : ∃ x, L = [x] := by
      match L, h1 with
      | [x], _ => exact ⟨x, rfl⟩
    rcases h with h | ⟨g1, o1, rfl, hc1, hcell⟩
    · cases h
    have p0 := hcell 0 (by simp)
    rw [Nat.add_zero] at p0
    have p1 : w.cell? ⟨g1, o1, none⟩ = some (.string (str x)) := p0
    clear hcell p0 h1 hl
    by_cases he : x = k
    · have HE : Hid (decide ([x] = [k]) = true) := decide_eq_true (by rw [he])
      subst he
      generalize str x = X at *
      have hq : (X.toList != X.toList) = false := by simp
      go_enter Tryd.func60, Tryd.ntmps60
      go_wp2
      go_loopw [13] (fun i wr => ∃ j : Nat, j ≤ 1 ∧ i = .int .i64 j ∧ Hid (Below w.heap.size w wr)) (fun i _ => 1 - (intOf i).toNat)
      case atStart => exact ⟨0, Nat.zero_le _, rfl, Below.refl _ _⟩
      case round =>
        obtain ⟨j, hj, rfl, hbl⟩ := hrel
        by_cases hlt : j < 1
        · obtain rfl : j = 0 := by omega
          have q1 : wr.cell? ⟨g1, o1, none⟩ = some (.string X) := by rw [hbl.out.cell (World.block_lt_of_cell? w _ p1)]; exact p1
          have q2 : wr.cell? ⟨g, 0, none⟩ = some (.string X) := by rw [hbl.out.cell (World.block_lt_of_cell? w _ hc)]; exact hc
          go_wp2_with fail
          go_quiet (fail)
          go_wp2
          go_roundw
          case rel => exact ⟨1, by omega, by go_num, below_drewN hbl.out _⟩
          case measure => simp [intOf]
        · go_wp2
          go_ret
          exact ⟨ret_bool HE.out.symm, hbl.out⟩
    · have HE : Hid (decide ([x] = [k]) = false) := decide_eq_false (fun e => he (List.cons.inj e).1)
      have hq : ((str x).toList == (str k).toList) = false := by
        rw [eq_toList, decide_eq_false_iff_not]
        exact fun e => he (str_inj e)
      generalize str x = X at *
      generalize str k = K at *
      go_enter Tryd.func60, Tryd.ntmps60
      go_wp2
      go_loopw [13] (fun i wr => ∃ j : Nat, j = 0 ∧ i = .int .i64 j ∧ wr = w) (fun i _ => 1 - (intOf i).toNat)
      case atStart => exact ⟨0, rfl, rfl, rfl⟩
      case round =>
        obtain ⟨j, rfl, rfl, rfl⟩ := hrel
        go_wp2_with fail
        go_quiet (fail)
        go_wp2
        go_ret
        exact ⟨ret_bool HE.out.symm, below_drew _ _⟩
  · have HE : Hid (decide (L = [k]) = false) := decide_eq_false (fun e => h1 (by rw [e]; rfl))
    have hne : ((L.length : Int) != 1) = true := by simp; omega
    clear h h1
    go_enter Tryd.func60, Tryd.ntmps60
    go_wp2
    go_ret
    exact ⟨ret_bool HE.out.symm, Below.refl _ _⟩

end Fd
end Go.Proofs.YtjmeijjmgmcncaaDoor
