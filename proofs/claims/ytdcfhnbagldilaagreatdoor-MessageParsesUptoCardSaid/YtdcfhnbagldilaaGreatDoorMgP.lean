import Derived.Test.YtdcfhnbagldilaaGreatDoorMgO
import Derived.Test.YtdcfhnbagldilaaGreatDoorMgJ
import Derived.Test.YtdcfhnbagldilaaGreatDoorMsA
import Derived.Test.YtdcfhnbagldilaaGreatDoorMgB
import Derived.Test.YtdcfhnbagldilaaGreatDoorMgD
import Derived.Lib.ItoaMem
import Derived.Lib.ItoaLen
import Derived.Lib.AppendIntMem
set_option linter.unusedVariables false
set_option linter.unusedSimpArgs false
namespace Go.Proofs.YtdcfhnbagldilaaGreatDoor
open Go.RowKit Go.Shelf
namespace Fd
open Oc Tg
def chk : List UInt8 := [99, 104, 117, 110, 107, 101, 100]
def codF (t : List Fl) : List (List UInt8) × Bool × Int := if vals nTE t = [] then ([], false, 0) else if (tokensF nTE t).2 = 0 then ((tokensF nTE t).1, true, 0) else ([], false, 67)
def frame (old : Bool) (cl : List (List UInt8)) (coded : Bool) (ce : Int) (n : Int) (sized : Bool) (le : Int) : Int × Int × Int :=
  if ce ≠ 0 then (0, 0, 67)
  else if coded = true then
    if old = true then (0, 0, 67)
    else if cl = [chk] then (if le ≠ 0 then (0, 0, 66) else if sized = true then (0, 0, 68) else (2, 0, 0))
    else (0, 0, 67)
  else if le ≠ 0 then (0, 0, 66) else if sized = true then (1, n, 0) else (0, 0, 0)
def framingF (t : List Fl) (old : Bool) : Int × Int × Int := frame old (codF t).1 (codF t).2.1 (codF t).2.2 (lengthF t).1 (lengthF t).2.1 (lengthF t).2.2
theorem len_err (t : List Fl) : (lengthF t).2.2 = 0 ∨ (lengthF t).2.2 = 66 := by
  unfold lengthF lenL
  repeat' split
  all_goals simp
theorem cod_len {t : List Fl} (hS : sumF t ≤ 1048576) : (codF t).1.length ≤ 1048576 := by
  have := tokens_len hS nTE
  unfold codF
  repeat' split
  all_goals simp
  exact this
set_option maxRecDepth 100000 in
set_option maxHeartbeats 1000000 in
theorem Codings_any (v : Value) (t : List Fl) (hS : sumF t ≤ 1048576) (w : World) (hrd : RdF v t w) (tab : Tab w) :
    Calls Tryz.prog 134 #[v] w fun e w' => ∃ u, e = .returned (.tuple #[u, .bool (codF t).2.1, .int .i64 (codF t).2.2]) ∧ OwnS w.heap.size u (codF t).1 w' ∧ Below w.heap.size w w' := by
  have hlen := len_sumF t
  have hM := (each_sumF t).mono hS
  have HF : Hid (Calls Tryz.prog 154 #[v, .string ⟨#[84, 114, 97, 110, 115, 102, 101, 114, 45, 69, 110, 99, 111, 100, 105, 110, 103]⟩] w fun e w' => e = .returned (.tuple #[.string (str (findF nTE t).1), .bool (decide (0 < (vals nTE t).length))]) ∧ Below w.heap.size w w') := by
    have h := Find_any v t nTE (by decide) (hM.mono (by unfold maxLen; omega)) (by omega) w hrd
    rw [findB] at h
    exact h
  have HT : Hid (∀ w, RdF v t w → Tab w → Calls Tryz.prog 137 #[v, .string ⟨#[84, 114, 97, 110, 115, 102, 101, 114, 45, 69, 110, 99, 111, 100, 105, 110, 103]⟩] w fun e w' => ∃ x, e = .returned (.tuple #[x, .int .i64 (tokensF nTE t).2]) ∧ OwnS w.heap.size x (tokensF nTE t).1 w' ∧ Below w.heap.size w w') := fun w h tb => Tokens6_any v t nTE (by decide) hS w h tb
  have HTab : Hid (Tab w) := tab
  clear tab
  generalize str (findF nTE t).1 = FS at *
  have HR : Hid (RdF v t w) := hrd
  have hTl : (vals nTE t).length ≤ 1048576 := by have := sumV_filter nTE t; omega
  unfold codF
  obtain ⟨a, c, rfl, _⟩ := hrd
  clear hM
  generalize vals nTE t = T at *
  generalize (tokensF nTE t).1 = L at *
  generalize (tokensF nTE t).2 = z at *
  by_cases hT : T = []
  · rw [if_pos hT]
    rw [show decide (0 < T.length) = false by rw [hT]; rfl] at HF
    clear hT
    go_enter Tryz.func134, Tryz.ntmps134
    go_wp2_with fail
    refine HF.out.mono ?_
    rintro e w1 ⟨rfl, hb⟩
    have HB1 : Hid (Below w.heap.size w w1) := hb
    clear hb
    go_wp2
    refine bodyPost_ret (v := .tuple #[.slice none 0 0, .bool false, .int .i64 0]) (by simp [results, Tryz.results134, go_sem]) rfl ?_
    exact ⟨_, rfl, ownS_nil _ _, HB1.out⟩
  · rw [if_neg hT]
    rw [show decide (0 < T.length) = true from decide_eq_true (List.length_pos_iff.2 hT)] at HF
    clear hT
    by_cases hz : z = 0
    · subst hz
      rw [if_pos rfl]
      go_enter Tryz.func134, Tryz.ntmps134
      go_wp2_with fail
      refine HF.out.mono ?_
      rintro e w1 ⟨rfl, hb⟩
      have HB1 : Hid (Below w.heap.size w w1) := hb
      clear hb
      go_wp2_with fail
      refine (HT.out _ (HR.out.below HB1.out) (HTab.out.below HB1.out (Nat.le_refl _))).mono ?_
      rintro e w2 ⟨x, rfl, hx, hb⟩
      have HB2 : Hid (Below w.heap.size w w2) := bel_trans HB1.out hb
      have HX : Hid (OwnS w.heap.size x L w2) := hx.lower HB1.out.size
      obtain ⟨xa, xc, rfl⟩ := hx.form
      clear hb hx
      go_wp2
      refine bodyPost_ret (v := .tuple #[.slice xa L.length xc, .bool true, .int .i64 0]) (by simp [results, Tryz.results134, go_sem]) rfl ?_
      exact ⟨_, rfl, HX.out, HB2.out⟩
    · rw [if_neg hz]
      have hzq : (z != 0) = true := by simp [hz]
      go_enter Tryz.func134, Tryz.ntmps134
      go_wp2_with fail
      refine HF.out.mono ?_
      rintro e w1 ⟨rfl, hb⟩
      have HB1 : Hid (Below w.heap.size w w1) := hb
      clear hb
      go_wp2_with fail
      refine (HT.out _ (HR.out.below HB1.out) (HTab.out.below HB1.out (Nat.le_refl _))).mono ?_
      rintro e w2 ⟨x, rfl, hx, hb⟩
      have HB2 : Hid (Below w.heap.size w w2) := bel_trans HB1.out hb
      have HX : Hid (OwnS w.heap.size x L w2) := hx.lower HB1.out.size
      obtain ⟨xa, xc, rfl⟩ := hx.form
      clear hb hx
      go_wp2
      refine bodyPost_ret (v := .tuple #[.slice none 0 0, .bool false, .int .i64 67]) (by simp [results, Tryz.results134, go_sem]) rfl ?_
      exact ⟨_, rfl, ownS_nil _ _, HB2.out⟩
set_option maxRecDepth 100000 in
set_option maxHeartbeats 1000000 in
theorem rCodings_any (v : Value) (t : List Fl) (hS : sumF t ≤ 1048576) (w : World) (hrd : RdF v t w) :
    Calls Tryz.prog 29 #[v] w fun e w' => ∃ u, e = .returned (.tuple #[u, .bool (codF t).2.1, .int .i64 (codF t).2.2]) ∧ OwnS w.heap.size u (codF t).1 w' ∧ Below w.heap.size w w' := by
  have hlen := len_sumF t
  have hM := (each_sumF t).mono hS
  have HF : Hid (Calls Tryz.prog 67 #[v, .string ⟨#[84, 114, 97, 110, 115, 102, 101, 114, 45, 69, 110, 99, 111, 100, 105, 110, 103]⟩] w fun e w' => ∃ x, e = .returned x ∧ OwnS w.heap.size x (vals nTE t) w' ∧ Below w.heap.size w w') := rAll_any v t nTE (by decide) hM (by omega) w hrd
  have HT : Hid (∀ w, RdF v t w → Calls Tryz.prog 31 #[v, .string ⟨#[84, 114, 97, 110, 115, 102, 101, 114, 45, 69, 110, 99, 111, 100, 105, 110, 103]⟩] w fun e w' => ∃ x, e = .returned (.tuple #[x, .int .i64 (tokensF nTE t).2]) ∧ OwnS w.heap.size x (tokensF nTE t).1 w' ∧ Below w.heap.size w w') := fun w h => rTokens6_any v t nTE (by decide) hS w h
  have HR : Hid (RdF v t w) := hrd
  have hTl : (vals nTE t).length ≤ 1048576 := by have := sumV_filter nTE t; omega
  unfold codF
  obtain ⟨a, c, rfl, _⟩ := hrd
  clear hM
  generalize vals nTE t = T at *
  generalize (tokensF nTE t).1 = L at *
  generalize (tokensF nTE t).2 = z at *
  by_cases hT : T = []
  · rw [if_pos hT]
    subst hT
    go_enter Tryz.func29, Tryz.ntmps29
    go_wp2_with fail
    refine HF.out.mono ?_
    rintro e w1 ⟨y, rfl, hy, hb⟩
    have HB1 : Hid (Below w.heap.size w w1) := hb
    obtain ⟨ya, yc, rfl⟩ := hy.form
    clear hb hy
    go_wp2
    refine bodyPost_ret (v := .tuple #[.slice none 0 0, .bool false, .int .i64 0]) (by simp [results, Tryz.results29, go_sem]) rfl ?_
    exact ⟨_, rfl, ownS_nil _ _, HB1.out⟩
  · rw [if_neg hT]
    have hTp : ((T.length : Int) == 0) = false := by
      have := List.length_pos_iff.2 hT
      simp
      omega
    clear hT
    by_cases hz : z = 0
    · subst hz
      rw [if_pos rfl]
      go_enter Tryz.func29, Tryz.ntmps29
      go_wp2_with fail
      refine HF.out.mono ?_
      rintro e w1 ⟨y, rfl, hy, hb⟩
      have HB1 : Hid (Below w.heap.size w w1) := hb
      obtain ⟨ya, yc, rfl⟩ := hy.form
      clear hb hy
      go_wp2_with fail
      refine (HT.out _ (HR.out.below HB1.out)).mono ?_
      rintro e w2 ⟨x, rfl, hx, hb⟩
      have HB2 : Hid (Below w.heap.size w w2) := bel_trans HB1.out hb
      have HX : Hid (OwnS w.heap.size x L w2) := hx.lower HB1.out.size
      obtain ⟨xa, xc, rfl⟩ := hx.form
      clear hb hx
      go_wp2
      refine bodyPost_ret (v := .tuple #[.slice xa L.length xc, .bool true, .int .i64 0]) (by simp [results, Tryz.results29, go_sem]) rfl ?_
      exact ⟨_, rfl, HX.out, HB2.out⟩
    · rw [if_neg hz]
      have hzq : (z != 0) = true := by simp [hz]
      go_enter Tryz.func29, Tryz.ntmps29
      go_wp2_with fail
      refine HF.out.mono ?_
      rintro e w1 ⟨y, rfl, hy, hb⟩
      have HB1 : Hid (Below w.heap.size w w1) := hb
      obtain ⟨ya, yc, rfl⟩ := hy.form
      clear hb hy
      go_wp2_with fail
      refine (HT.out _ (HR.out.below HB1.out)).mono ?_
      rintro e w2 ⟨x, rfl, hx, hb⟩
      have HB2 : Hid (Below w.heap.size w w2) := bel_trans HB1.out hb
      have HX : Hid (OwnS w.heap.size x L w2) := hx.lower HB1.out.size
      obtain ⟨xa, xc, rfl⟩ := hx.form
      clear hb hx
      go_wp2
      refine bodyPost_ret (v := .tuple #[.slice none 0 0, .bool false, .int .i64 67]) (by simp [results, Tryz.results29, go_sem]) rfl ?_
      exact ⟨_, rfl, ownS_nil _ _, HB2.out⟩
set_option maxRecDepth 100000 in
set_option maxHeartbeats 1000000 in
theorem Equal_one (v : Value) (L : List (List UInt8)) (hl : L.length ≤ 1048576) (g : Nat) (k : List UInt8) (w : World) (h : RdS v L w) (hc : w.cell? ⟨g, 0, none⟩ = some (.string (str k))) :
    Calls Tryz.prog 136 #[v, .slice (some ⟨g, 0, none⟩) 1 1] w fun e w' => e = .returned (.bool (decide (L = [k]))) ∧ Below w.heap.size w w' := by
  obtain ⟨a, c, rfl, h⟩ := h
  by_cases h1 : L.length = 1
  · obtain ⟨x, rfl⟩ : ∃ x, L = [x] := by
      match L, h1 with
      | [x], _ => exact ⟨x, rfl⟩
    rcases h with h | ⟨g1, o1, rfl, hc1, hcell⟩
    · cases h
    have p0 := hcell 0 (by simp)
    rw [Nat.add_zero] at p0
    have p1 : w.cell? ⟨g1, o1, none⟩ = some (.string (str x)) := p0
    clear hcell p0 h1 hl
    by_cases he : x = k
    · have HE : Hid (decide ([x] = [k]) = true) := decide_eq_true (by rw [he])
      subst he
      generalize str x = X at *
      have hq : (X.toList != X.toList) = false := by simp
      go_enter Tryz.func136, Tryz.ntmps136
      go_wp2
      go_loopw [13] (fun i wr => ∃ j : Nat, j ≤ 1 ∧ i = .int .i64 j ∧ Hid (Below w.heap.size w wr)) (fun i _ => 1 - (intOf i).toNat)
      case atStart => exact ⟨0, Nat.zero_le _, rfl, Below.refl _ _⟩
      case round =>
        obtain ⟨j, hj, rfl, hbl⟩ := hrel
        by_cases hlt : j < 1
        · obtain rfl : j = 0 := by omega
          have q1 : wr.cell? ⟨g1, o1, none⟩ = some (.string X) := by rw [hbl.out.cell (World.block_lt_of_cell? w _ p1)]; exact p1
          have q2 : wr.cell? ⟨g, 0, none⟩ = some (.string X) := by rw [hbl.out.cell (World.block_lt_of_cell? w _ hc)]; exact hc
          go_wp2_with fail
          go_quiet (fail)
          go_wp2
          go_roundw
          case rel => exact ⟨1, by omega, by go_num, below_drewN hbl.out _⟩
          case measure => simp [intOf]
        · go_wp2
          go_ret
          exact ⟨ret_bool HE.out.symm, hbl.out⟩
    · have HE : Hid (decide ([x] = [k]) = false) := decide_eq_false (fun e => he (List.cons.inj e).1)
      have hq : ((str x).toList == (str k).toList) = false := by
        rw [eq_toList, decide_eq_false_iff_not]
        exact fun e => he (str_inj e)
      generalize str x = X at *
      generalize str k = K at *
      go_enter Tryz.func136, Tryz.ntmps136
      go_wp2
      go_loopw [13] (fun i wr => ∃ j : Nat, j = 0 ∧ i = .int .i64 j ∧ wr = w) (fun i _ => 1 - (intOf i).toNat)
      case atStart => exact ⟨0, rfl, rfl, rfl⟩
      case round =>
        obtain ⟨j, rfl, rfl, rfl⟩ := hrel
        go_wp2_with fail
        go_quiet (fail)
        go_wp2
        go_ret
        exact ⟨ret_bool HE.out.symm, below_drew _ _⟩
  · have HE : Hid (decide (L = [k]) = false) := decide_eq_false (fun e => h1 (by rw [e]; rfl))
    have hne : ((L.length : Int) != 1) = true := by simp; omega
    clear h h1
    go_enter Tryz.func136, Tryz.ntmps136
    go_wp2
    go_ret
    exact ⟨ret_bool HE.out.symm, Below.refl _ _⟩
end Fd
end Go.Proofs.YtdcfhnbagldilaaGreatDoor
set_option linter.unusedVariables false
set_option linter.unusedSimpArgs false
namespace Go.Proofs.YtdcfhnbagldilaaGreatDoor
open Go.RowKit Go.Shelf
namespace Fd
open Oc Tg
def frV (r : Int × Int × Int) : Value := .tuple #[.agg #[.int .i64 r.1, .int .i64 r.2.1], .int .i64 r.2.2]
def frV3 (r : Int × Int × Int) : Value := .tuple #[.int .i64 r.1, .int .i64 r.2.1, .int .i64 r.2.2]
set_option maxRecDepth 100000 in
set_option maxHeartbeats 2000000 in
theorem Framing_any (v : Value) (t : List Fl) (old : Bool) (hS : sumF t ≤ 1048576) (w : World) (hrd : RdF v t w) (tab : Tab w) :
    Calls Tryz.prog 119 #[v, .bool old] w fun e w' => e = .returned (frV (framingF t old)) ∧ Below w.heap.size w w' := by
  obtain ⟨w2, hw2⟩ : ∃ w2, w2 = w.alloc (.cells #[.int .i64 0, .int .i64 0] 29) := ⟨_, rfl⟩
  have R1 : w2.heap[w.heap.size]? = some (.cells #[.int .i64 0, .int .i64 0] 29 (0, 0)) := by
    rw [hw2]; exact heap_alloc_new w _
  have hb2 : Below w.heap.size w w2 := by rw [hw2]; exact (Below.refl _ w).alloc (Nat.le_refl _) _
  have hz2 : Hid (w2.heap.size = w.heap.size + 1) := by show _ = _; rw [hw2]; simp
  have HR1 : Hid (_) := R1
  have HB2 : Hid (Below w.heap.size w w2) := hb2
  have HR : Hid (RdF v t w2) := hrd.below hb2
  have HC : Hid (Calls _ _ _ _ _) := Codings_any v t hS w2 (hrd.below hb2) (tab.below hb2 (Nat.le_refl _))
  have HL : Hid (∀ w, RdF v t w → Calls Tryz.prog 135 #[v] w fun e w' => e = .returned (.tuple #[.int .i64 (lengthF t).1, .bool (lengthF t).2.1, .int .i64 (lengthF t).2.2]) ∧ Below w.heap.size w w') := fun w h => Length_any v t hS w h
  have hcl := cod_len hS
  unfold framingF
  obtain ⟨a, c, rfl, _⟩ := hrd
  clear R1 hb2 tab
  generalize (codF t).1 = cl at *
  generalize (codF t).2.1 = coded at *
  generalize (codF t).2.2 = ce at *
  generalize (lengthF t).1 = n at *
  generalize (lengthF t).2.1 = sized at *
  generalize (lengthF t).2.2 = le at *
  unfold frame
  by_cases hce : ce = 0
  · subst hce
    rw [if_neg (by simp)]
    cases coded with
    | true =>
      rw [if_pos rfl]
      cases old with
      | true =>
        rw [if_pos rfl]
        go_enter Tryz.func119, Tryz.ntmps119
        go_wp2_with fail
        rw [← hw2]
        clear hw2
        refine HC.out.mono ?_
        rintro e w3 ⟨u, rfl, hu, hb⟩
        have HB3 : Hid (Below w2.heap.size w2 w3) := hb
        have HU3 : Hid (RdS u cl w3) := hu.rd
        clear hb hu
        go_wp2_with fail
        refine (HL.out _ (HR.out.below HB3.out)).mono ?_
        rintro e w4 ⟨rfl, hb⟩
        have HB4 : Hid (Below w2.heap.size w2 w4) := bel_trans HB3.out hb
        have HU4 : Hid (RdS u cl w4) := HU3.out.below hb
        clear hb
        have R1 := (HB4.out.block _ (show w.heap.size < _ by have := hz2.out; omega)).trans HR1.out
        have c0 := Lib.cell_of_heap R1 0
        have c1 := Lib.cell_of_heap R1 1
        have fc0 := Lib.frozen_of_heap R1 0
        have fc1 := Lib.frozen_of_heap R1 1
        simp at c0 c1
        clear R1
        go_wp2
        refine bodyPost_ret (v := .tuple #[.agg #[.int .i64 0, .int .i64 0], .int .i64 67]) (by simp [results, Tryz.results119, go_sem, c0, c1]) rfl ?_
        exact ⟨rfl, (Below.setCell (p := ⟨w.heap.size, 1, none⟩) (Below.setCell (p := ⟨w.heap.size, 0, none⟩) (HB2.out.trans (HB4.out.mono (by have := hz2.out; omega))) (by simp) _) (by simp) _)⟩
      | false =>
        rw [if_neg (by simp)]
        by_cases hch : cl = [chk]
        · rw [if_pos hch]
          by_cases hle : le = 0
          · subst hle
            rw [if_neg (by simp)]
            cases sized with
            | true =>
              rw [if_pos rfl]
              go_enter Tryz.func119, Tryz.ntmps119
              go_wp2_with fail
              rw [← hw2]
              clear hw2
              refine HC.out.mono ?_
              rintro e w3 ⟨u, rfl, hu, hb⟩
              have HB3 : Hid (Below w2.heap.size w2 w3) := hb
              have HU3 : Hid (RdS u cl w3) := hu.rd
              clear hb hu
              go_wp2_with fail
              refine (HL.out _ (HR.out.below HB3.out)).mono ?_
              rintro e w4 ⟨rfl, hb⟩
              have HB4 : Hid (Below w2.heap.size w2 w4) := bel_trans HB3.out hb
              have HU4 : Hid (RdS u cl w4) := HU3.out.below hb
              clear hb
              have hb5 : Below w4.heap.size w4 (w4.alloc (.cells #[.string ⟨#[99, 104, 117, 110, 107, 101, 100]⟩] 9)) := (Below.refl _ w4).alloc (Nat.le_refl _) _
              have HB5 : Hid (Below w2.heap.size w2 (w4.alloc (.cells #[.string ⟨#[99, 104, 117, 110, 107, 101, 100]⟩] 9))) := bel_trans HB4.out hb5
              have HEq : Hid (Calls _ _ _ _ _) := Equal_one u cl hcl w4.heap.size chk (w4.alloc (.cells #[.string ⟨#[99, 104, 117, 110, 107, 101, 100]⟩] 9)) (HU4.out.below hb5) (by simp; rfl)
              clear hb5
              rw [decide_eq_true hch] at HEq
              go_wp2_with fail
              refine HEq.out.mono ?_
              rintro e w6 ⟨rfl, hb⟩
              have HB6 : Hid (Below w2.heap.size w2 w6) := bel_trans HB5.out hb
              clear hb
              have R1 := (HB6.out.block _ (show w.heap.size < _ by have := hz2.out; omega)).trans HR1.out
              have c0 := Lib.cell_of_heap R1 0
              have c1 := Lib.cell_of_heap R1 1
              have fc0 := Lib.frozen_of_heap R1 0
              have fc1 := Lib.frozen_of_heap R1 1
              simp at c0 c1
              clear R1
              go_wp2
              refine bodyPost_ret (v := .tuple #[.agg #[.int .i64 0, .int .i64 0], .int .i64 68]) (by simp [results, Tryz.results119, go_sem, c0, c1]) rfl ?_
              exact ⟨rfl, (Below.setCell (p := ⟨w.heap.size, 1, none⟩) (Below.setCell (p := ⟨w.heap.size, 0, none⟩) (HB2.out.trans (HB6.out.mono (by have := hz2.out; omega))) (by simp) _) (by simp) _)⟩
            | false =>
              rw [if_neg (by simp)]
              go_enter Tryz.func119, Tryz.ntmps119
              go_wp2_with fail
              rw [← hw2]
              clear hw2
              refine HC.out.mono ?_
              rintro e w3 ⟨u, rfl, hu, hb⟩
              have HB3 : Hid (Below w2.heap.size w2 w3) := hb
              have HU3 : Hid (RdS u cl w3) := hu.rd
              clear hb hu
              go_wp2_with fail
              refine (HL.out _ (HR.out.below HB3.out)).mono ?_
              rintro e w4 ⟨rfl, hb⟩
              have HB4 : Hid (Below w2.heap.size w2 w4) := bel_trans HB3.out hb
              have HU4 : Hid (RdS u cl w4) := HU3.out.below hb
              clear hb
              have hb5 : Below w4.heap.size w4 (w4.alloc (.cells #[.string ⟨#[99, 104, 117, 110, 107, 101, 100]⟩] 9)) := (Below.refl _ w4).alloc (Nat.le_refl _) _
              have HB5 : Hid (Below w2.heap.size w2 (w4.alloc (.cells #[.string ⟨#[99, 104, 117, 110, 107, 101, 100]⟩] 9))) := bel_trans HB4.out hb5
              have HEq : Hid (Calls _ _ _ _ _) := Equal_one u cl hcl w4.heap.size chk (w4.alloc (.cells #[.string ⟨#[99, 104, 117, 110, 107, 101, 100]⟩] 9)) (HU4.out.below hb5) (by simp; rfl)
              clear hb5
              rw [decide_eq_true hch] at HEq
              go_wp2_with fail
              refine HEq.out.mono ?_
              rintro e w6 ⟨rfl, hb⟩
              have HB6 : Hid (Below w2.heap.size w2 w6) := bel_trans HB5.out hb
              clear hb
              have R1 := (HB6.out.block _ (show w.heap.size < _ by have := hz2.out; omega)).trans HR1.out
              have c0 := Lib.cell_of_heap R1 0
              have c1 := Lib.cell_of_heap R1 1
              have fc0 := Lib.frozen_of_heap R1 0
              have fc1 := Lib.frozen_of_heap R1 1
              simp at c0 c1
              clear R1
              go_wp2
              refine bodyPost_ret (v := .tuple #[.agg #[.int .i64 2, .int .i64 0], .int .i64 0]) (by simp [results, Tryz.results119, go_sem, c0, c1]) rfl ?_
              exact ⟨rfl, (Below.setCell (p := ⟨w.heap.size, 1, none⟩) (Below.setCell (p := ⟨w.heap.size, 0, none⟩) (HB2.out.trans (HB6.out.mono (by have := hz2.out; omega))) (by simp) _) (by simp) _)⟩
          · rw [if_pos hle]
            have hlq : (le != 0) = true := by simp [hle]
            go_enter Tryz.func119, Tryz.ntmps119
            go_wp2_with fail
            rw [← hw2]
            clear hw2
            refine HC.out.mono ?_
            rintro e w3 ⟨u, rfl, hu, hb⟩
            have HB3 : Hid (Below w2.heap.size w2 w3) := hb
            have HU3 : Hid (RdS u cl w3) := hu.rd
            clear hb hu
            go_wp2_with fail
            refine (HL.out _ (HR.out.below HB3.out)).mono ?_
            rintro e w4 ⟨rfl, hb⟩
            have HB4 : Hid (Below w2.heap.size w2 w4) := bel_trans HB3.out hb
            have HU4 : Hid (RdS u cl w4) := HU3.out.below hb
            clear hb
            have hb5 : Below w4.heap.size w4 (w4.alloc (.cells #[.string ⟨#[99, 104, 117, 110, 107, 101, 100]⟩] 9)) := (Below.refl _ w4).alloc (Nat.le_refl _) _
            have HB5 : Hid (Below w2.heap.size w2 (w4.alloc (.cells #[.string ⟨#[99, 104, 117, 110, 107, 101, 100]⟩] 9))) := bel_trans HB4.out hb5
            have HEq : Hid (Calls _ _ _ _ _) := Equal_one u cl hcl w4.heap.size chk (w4.alloc (.cells #[.string ⟨#[99, 104, 117, 110, 107, 101, 100]⟩] 9)) (HU4.out.below hb5) (by simp; rfl)
            clear hb5
            rw [decide_eq_true hch] at HEq
            go_wp2_with fail
            refine HEq.out.mono ?_
            rintro e w6 ⟨rfl, hb⟩
            have HB6 : Hid (Below w2.heap.size w2 w6) := bel_trans HB5.out hb
            clear hb
            have R1 := (HB6.out.block _ (show w.heap.size < _ by have := hz2.out; omega)).trans HR1.out
            have c0 := Lib.cell_of_heap R1 0
            have c1 := Lib.cell_of_heap R1 1
            have fc0 := Lib.frozen_of_heap R1 0
            have fc1 := Lib.frozen_of_heap R1 1
            simp at c0 c1
            clear R1
            go_wp2
            refine bodyPost_ret (v := .tuple #[.agg #[.int .i64 0, .int .i64 0], .int .i64 66]) (by simp [results, Tryz.results119, go_sem, c0, c1]) rfl ?_
            exact ⟨rfl, (Below.setCell (p := ⟨w.heap.size, 1, none⟩) (Below.setCell (p := ⟨w.heap.size, 0, none⟩) (HB2.out.trans (HB6.out.mono (by have := hz2.out; omega))) (by simp) _) (by simp) _)⟩
        · rw [if_neg hch]
          go_enter Tryz.func119, Tryz.ntmps119
          go_wp2_with fail
          rw [← hw2]
          clear hw2
          refine HC.out.mono ?_
          rintro e w3 ⟨u, rfl, hu, hb⟩
          have HB3 : Hid (Below w2.heap.size w2 w3) := hb
          have HU3 : Hid (RdS u cl w3) := hu.rd
          clear hb hu
          go_wp2_with fail
          refine (HL.out _ (HR.out.below HB3.out)).mono ?_
          rintro e w4 ⟨rfl, hb⟩
          have HB4 : Hid (Below w2.heap.size w2 w4) := bel_trans HB3.out hb
          have HU4 : Hid (RdS u cl w4) := HU3.out.below hb
          clear hb
          have hb5 : Below w4.heap.size w4 (w4.alloc (.cells #[.string ⟨#[99, 104, 117, 110, 107, 101, 100]⟩] 9)) := (Below.refl _ w4).alloc (Nat.le_refl _) _
          have HB5 : Hid (Below w2.heap.size w2 (w4.alloc (.cells #[.string ⟨#[99, 104, 117, 110, 107, 101, 100]⟩] 9))) := bel_trans HB4.out hb5
          have HEq : Hid (Calls _ _ _ _ _) := Equal_one u cl hcl w4.heap.size chk (w4.alloc (.cells #[.string ⟨#[99, 104, 117, 110, 107, 101, 100]⟩] 9)) (HU4.out.below hb5) (by simp; rfl)
          clear hb5
          rw [decide_eq_false hch] at HEq
          go_wp2_with fail
          refine HEq.out.mono ?_
          rintro e w6 ⟨rfl, hb⟩
          have HB6 : Hid (Below w2.heap.size w2 w6) := bel_trans HB5.out hb
          clear hb
          have R1 := (HB6.out.block _ (show w.heap.size < _ by have := hz2.out; omega)).trans HR1.out
          have c0 := Lib.cell_of_heap R1 0
          have c1 := Lib.cell_of_heap R1 1
          have fc0 := Lib.frozen_of_heap R1 0
          have fc1 := Lib.frozen_of_heap R1 1
          simp at c0 c1
          clear R1
          go_wp2
          refine bodyPost_ret (v := .tuple #[.agg #[.int .i64 0, .int .i64 0], .int .i64 67]) (by simp [results, Tryz.results119, go_sem, c0, c1]) rfl ?_
          exact ⟨rfl, (Below.setCell (p := ⟨w.heap.size, 1, none⟩) (Below.setCell (p := ⟨w.heap.size, 0, none⟩) (HB2.out.trans (HB6.out.mono (by have := hz2.out; omega))) (by simp) _) (by simp) _)⟩
    | false =>
      rw [if_neg (by simp)]
      by_cases hle : le = 0
      · subst hle
        rw [if_neg (by simp)]
        cases sized with
        | true =>
          rw [if_pos rfl]
          go_enter Tryz.func119, Tryz.ntmps119
          go_wp2_with fail
          rw [← hw2]
          clear hw2
          refine HC.out.mono ?_
          rintro e w3 ⟨u, rfl, hu, hb⟩
          have HB3 : Hid (Below w2.heap.size w2 w3) := hb
          have HU3 : Hid (RdS u cl w3) := hu.rd
          clear hb hu
          go_wp2_with fail
          refine (HL.out _ (HR.out.below HB3.out)).mono ?_
          rintro e w4 ⟨rfl, hb⟩
          have HB4 : Hid (Below w2.heap.size w2 w4) := bel_trans HB3.out hb
          have HU4 : Hid (RdS u cl w4) := HU3.out.below hb
          clear hb
          have R1 := (HB4.out.block _ (show w.heap.size < _ by have := hz2.out; omega)).trans HR1.out
          have c0 := Lib.cell_of_heap R1 0
          have c1 := Lib.cell_of_heap R1 1
          have fc0 := Lib.frozen_of_heap R1 0
          have fc1 := Lib.frozen_of_heap R1 1
          simp at c0 c1
          clear R1
          go_wp2
          refine bodyPost_ret (v := .tuple #[.agg #[.int .i64 1, .int .i64 n], .int .i64 0]) (by simp [results, Tryz.results119, go_sem, c0, c1]) rfl ?_
          exact ⟨rfl, (Below.setCell (p := ⟨w.heap.size, 1, none⟩) (Below.setCell (p := ⟨w.heap.size, 0, none⟩) (HB2.out.trans (HB4.out.mono (by have := hz2.out; omega))) (by simp) _) (by simp) _)⟩
        | false =>
          rw [if_neg (by simp)]
          go_enter Tryz.func119, Tryz.ntmps119
          go_wp2_with fail
          rw [← hw2]
          clear hw2
          refine HC.out.mono ?_
          rintro e w3 ⟨u, rfl, hu, hb⟩
          have HB3 : Hid (Below w2.heap.size w2 w3) := hb
          have HU3 : Hid (RdS u cl w3) := hu.rd
          clear hb hu
          go_wp2_with fail
          refine (HL.out _ (HR.out.below HB3.out)).mono ?_
          rintro e w4 ⟨rfl, hb⟩
          have HB4 : Hid (Below w2.heap.size w2 w4) := bel_trans HB3.out hb
          have HU4 : Hid (RdS u cl w4) := HU3.out.below hb
          clear hb
          have R1 := (HB4.out.block _ (show w.heap.size < _ by have := hz2.out; omega)).trans HR1.out
          have c0 := Lib.cell_of_heap R1 0
          have c1 := Lib.cell_of_heap R1 1
          have fc0 := Lib.frozen_of_heap R1 0
          have fc1 := Lib.frozen_of_heap R1 1
          simp at c0 c1
          clear R1
          go_wp2
          refine bodyPost_ret (v := .tuple #[.agg #[.int .i64 0, .int .i64 0], .int .i64 0]) (by simp [results, Tryz.results119, go_sem, c0, c1]) rfl ?_
          exact ⟨rfl, (Below.setCell (p := ⟨w.heap.size, 1, none⟩) (Below.setCell (p := ⟨w.heap.size, 0, none⟩) (HB2.out.trans (HB4.out.mono (by have := hz2.out; omega))) (by simp) _) (by simp) _)⟩
      · rw [if_pos hle]
        have hlq : (le != 0) = true := by simp [hle]
        go_enter Tryz.func119, Tryz.ntmps119
        go_wp2_with fail
        rw [← hw2]
        clear hw2
        refine HC.out.mono ?_
        rintro e w3 ⟨u, rfl, hu, hb⟩
        have HB3 : Hid (Below w2.heap.size w2 w3) := hb
        have HU3 : Hid (RdS u cl w3) := hu.rd
        clear hb hu
        go_wp2_with fail
        refine (HL.out _ (HR.out.below HB3.out)).mono ?_
        rintro e w4 ⟨rfl, hb⟩
        have HB4 : Hid (Below w2.heap.size w2 w4) := bel_trans HB3.out hb
        have HU4 : Hid (RdS u cl w4) := HU3.out.below hb
        clear hb
        have R1 := (HB4.out.block _ (show w.heap.size < _ by have := hz2.out; omega)).trans HR1.out
        have c0 := Lib.cell_of_heap R1 0
        have c1 := Lib.cell_of_heap R1 1
        have fc0 := Lib.frozen_of_heap R1 0
        have fc1 := Lib.frozen_of_heap R1 1
        simp at c0 c1
        clear R1
        go_wp2
        refine bodyPost_ret (v := .tuple #[.agg #[.int .i64 0, .int .i64 0], .int .i64 66]) (by simp [results, Tryz.results119, go_sem, c0, c1]) rfl ?_
        exact ⟨rfl, (Below.setCell (p := ⟨w.heap.size, 1, none⟩) (Below.setCell (p := ⟨w.heap.size, 0, none⟩) (HB2.out.trans (HB4.out.mono (by have := hz2.out; omega))) (by simp) _) (by simp) _)⟩
  · rw [if_pos hce]
    have hcq : (ce != 0) = true := by simp [hce]
    go_enter Tryz.func119, Tryz.ntmps119
    go_wp2_with fail
    rw [← hw2]
    clear hw2
    refine HC.out.mono ?_
    rintro e w3 ⟨u, rfl, hu, hb⟩
    have HB3 : Hid (Below w2.heap.size w2 w3) := hb
    have HU3 : Hid (RdS u cl w3) := hu.rd
    clear hb hu
    go_wp2_with fail
    refine (HL.out _ (HR.out.below HB3.out)).mono ?_
    rintro e w4 ⟨rfl, hb⟩
    have HB4 : Hid (Below w2.heap.size w2 w4) := bel_trans HB3.out hb
    have HU4 : Hid (RdS u cl w4) := HU3.out.below hb
    clear hb
    have R1 := (HB4.out.block _ (show w.heap.size < _ by have := hz2.out; omega)).trans HR1.out
    have c0 := Lib.cell_of_heap R1 0
    have c1 := Lib.cell_of_heap R1 1
    have fc0 := Lib.frozen_of_heap R1 0
    have fc1 := Lib.frozen_of_heap R1 1
    simp at c0 c1
    clear R1
    go_wp2
    refine bodyPost_ret (v := .tuple #[.agg #[.int .i64 0, .int .i64 0], .int .i64 67]) (by simp [results, Tryz.results119, go_sem, c0, c1]) rfl ?_
    exact ⟨rfl, (Below.setCell (p := ⟨w.heap.size, 1, none⟩) (Below.setCell (p := ⟨w.heap.size, 0, none⟩) (HB2.out.trans (HB4.out.mono (by have := hz2.out; omega))) (by simp) _) (by simp) _)⟩
set_option maxRecDepth 100000 in
set_option maxHeartbeats 2000000 in
theorem rFraming_any (v : Value) (t : List Fl) (old : Bool) (hS : sumF t ≤ 1048576) (w : World) (hrd : RdF v t w) :
    Calls Tryz.prog 15 #[v, .bool old] w fun e w' => e = .returned (frV3 (framingF t old)) ∧ Below w.heap.size w w' := by
  have HR : Hid (RdF v t w) := hrd
  have HC : Hid (Calls _ _ _ _ _) := rCodings_any v t hS w hrd
  have HL : Hid (∀ w, RdF v t w → Calls Tryz.prog 30 #[v] w fun e w' => e = .returned (.tuple #[.int .i64 (lengthF t).1, .bool (lengthF t).2.1, .int .i64 (lengthF t).2.2]) ∧ Below w.heap.size w w') := fun w h => rLength_any v t hS w h
  have HLe : Hid (_ ∨ _) := len_err t
  have hcl := cod_len hS
  unfold framingF
  obtain ⟨a, c, rfl, _⟩ := hrd
  generalize (codF t).1 = cl at *
  generalize (codF t).2.1 = coded at *
  generalize (codF t).2.2 = ce at *
  generalize (lengthF t).1 = n at *
  generalize (lengthF t).2.1 = sized at *
  generalize (lengthF t).2.2 = le at *
  unfold frame
  by_cases hce : ce = 0
  · subst hce
    rw [if_neg (by simp)]
    cases coded with
    | true =>
      rw [if_pos rfl]
      cases old with
      | true =>
        rw [if_pos rfl]
        go_enter Tryz.func15, Tryz.ntmps15
        go_wp2_with fail
        refine HC.out.mono ?_
        rintro e w3 ⟨u, rfl, hu, hb⟩
        have HB3 : Hid (Below w.heap.size w w3) := hb
        have HU3 : Hid (RdS u cl w3) := hu.rd
        obtain ⟨ua, uc, rfl⟩ := hu.form
        clear hb hu
        go_wp2
        refine bodyPost_ret (v := .tuple #[.int .i64 0, .int .i64 0, .int .i64 67]) (by simp [results, Tryz.results15, go_sem]) rfl ?_
        exact ⟨rfl, HB3.out⟩
      | false =>
        rw [if_neg (by simp)]
        by_cases hch : cl = [chk]
        · rw [if_pos hch]
          by_cases hle : le = 0
          · subst hle
            rw [if_neg (by simp)]
            cases sized with
            | true =>
              rw [if_pos rfl]
              go_enter Tryz.func15, Tryz.ntmps15
              go_wp2_with fail
              refine HC.out.mono ?_
              rintro e w3 ⟨u, rfl, hu, hb⟩
              have HB3 : Hid (Below w.heap.size w w3) := hb
              have HU3 : Hid (RdS u cl w3) := hu.rd
              obtain ⟨ua, uc, rfl⟩ := hu.form
              clear hb hu
              subst hch
              obtain ⟨a', c', e', hcs⟩ := HU3.out
              injection e' with e1 _ e2
              subst e1 e2
              rcases hcs with h | ⟨g, o, rfl, hlc, hcell⟩
              · cases h
              have p0 := hcell 0 (by simp)
              rw [Nat.add_zero] at p0
              have p1 : w3.cell? ⟨g, o, none⟩ = some (.string ⟨#[99, 104, 117, 110, 107, 101, 100]⟩) := p0
              clear hcell p0
              go_wp2_with fail
              refine (HL.out _ (HR.out.below HB3.out)).mono ?_
              rintro e w4 ⟨rfl, hb⟩
              have HB4 : Hid (Below w.heap.size w w4) := bel_trans HB3.out hb
              clear hb
              go_wp2
              refine bodyPost_ret (v := .tuple #[.int .i64 0, .int .i64 0, .int .i64 68]) (by simp [results, Tryz.results15, go_sem]) rfl ?_
              exact ⟨rfl, HB4.out⟩
            | false =>
              rw [if_neg (by simp)]
              go_enter Tryz.func15, Tryz.ntmps15
              go_wp2_with fail
              refine HC.out.mono ?_
              rintro e w3 ⟨u, rfl, hu, hb⟩
              have HB3 : Hid (Below w.heap.size w w3) := hb
              have HU3 : Hid (RdS u cl w3) := hu.rd
              obtain ⟨ua, uc, rfl⟩ := hu.form
              clear hb hu
              subst hch
              obtain ⟨a', c', e', hcs⟩ := HU3.out
              injection e' with e1 _ e2
              subst e1 e2
              rcases hcs with h | ⟨g, o, rfl, hlc, hcell⟩
              · cases h
              have p0 := hcell 0 (by simp)
              rw [Nat.add_zero] at p0
              have p1 : w3.cell? ⟨g, o, none⟩ = some (.string ⟨#[99, 104, 117, 110, 107, 101, 100]⟩) := p0
              clear hcell p0
              go_wp2_with fail
              refine (HL.out _ (HR.out.below HB3.out)).mono ?_
              rintro e w4 ⟨rfl, hb⟩
              have HB4 : Hid (Below w.heap.size w w4) := bel_trans HB3.out hb
              clear hb
              go_wp2
              refine bodyPost_ret (v := .tuple #[.int .i64 2, .int .i64 0, .int .i64 0]) (by simp [results, Tryz.results15, go_sem]) rfl ?_
              exact ⟨rfl, HB4.out⟩
          · rw [if_pos hle]
            have hlq : (le != 0) = true := by simp [hle]
            have hle6 : le = 66 := HLe.out.resolve_left hle
            subst hle6
            go_enter Tryz.func15, Tryz.ntmps15
            go_wp2_with fail
            refine HC.out.mono ?_
            rintro e w3 ⟨u, rfl, hu, hb⟩
            have HB3 : Hid (Below w.heap.size w w3) := hb
            have HU3 : Hid (RdS u cl w3) := hu.rd
            obtain ⟨ua, uc, rfl⟩ := hu.form
            clear hb hu
            subst hch
            obtain ⟨a', c', e', hcs⟩ := HU3.out
            injection e' with e1 _ e2
            subst e1 e2
            rcases hcs with h | ⟨g, o, rfl, hlc, hcell⟩
            · cases h
            have p0 := hcell 0 (by simp)
            rw [Nat.add_zero] at p0
            have p1 : w3.cell? ⟨g, o, none⟩ = some (.string ⟨#[99, 104, 117, 110, 107, 101, 100]⟩) := p0
            clear hcell p0
            go_wp2_with fail
            refine (HL.out _ (HR.out.below HB3.out)).mono ?_
            rintro e w4 ⟨rfl, hb⟩
            have HB4 : Hid (Below w.heap.size w w4) := bel_trans HB3.out hb
            clear hb
            go_wp2
            refine bodyPost_ret (v := .tuple #[.int .i64 0, .int .i64 0, .int .i64 66]) (by simp [results, Tryz.results15, go_sem]) rfl ?_
            exact ⟨rfl, HB4.out⟩
        · rw [if_neg hch]
          by_cases h1 : cl.length = 1
          · obtain ⟨x, rfl⟩ : ∃ x, cl = [x] := by
              match cl, h1 with
              | [x], _ => exact ⟨x, rfl⟩
            have hq : ((str x).toList == (⟨#[99, 104, 117, 110, 107, 101, 100]⟩ : ByteArray).toList) = false := by
              rw [eq_toList, decide_eq_false_iff_not]
              exact fun e => hch (by rw [str_inj (b := chk) e])
            rw [show (⟨#[99, 104, 117, 110, 107, 101, 100]⟩ : ByteArray).toList = [99, 104, 117, 110, 107, 101, 100] by rw [ByteArray.toList_eq]] at hq
            clear h1 hch
            go_enter Tryz.func15, Tryz.ntmps15
            go_wp2_with fail
            refine HC.out.mono ?_
            rintro e w3 ⟨u, rfl, hu, hb⟩
            have HB3 : Hid (Below w.heap.size w w3) := hb
            have HU3 : Hid (RdS u [x] w3) := hu.rd
            obtain ⟨ua, uc, rfl⟩ := hu.form
            clear hb hu
            obtain ⟨a', c', e', hcs⟩ := HU3.out
            injection e' with e1 _ e2
            subst e1 e2
            rcases hcs with h | ⟨g, o, rfl, hlc, hcell⟩
            · cases h
            have p0 := hcell 0 (by simp)
            rw [Nat.add_zero] at p0
            have p1 : w3.cell? ⟨g, o, none⟩ = some (.string (str x)) := p0
            clear hcell p0
            generalize str x = X at *
            go_wp2
            refine bodyPost_ret (v := .tuple #[.int .i64 0, .int .i64 0, .int .i64 67]) (by simp [results, Tryz.results15, go_sem]) rfl ?_
            exact ⟨rfl, HB3.out⟩
          · have hne : ((cl.length : Int) != 1) = true := by simp; omega
            clear hch h1
            go_enter Tryz.func15, Tryz.ntmps15
            go_wp2_with fail
            refine HC.out.mono ?_
            rintro e w3 ⟨u, rfl, hu, hb⟩
            have HB3 : Hid (Below w.heap.size w w3) := hb
            have HU3 : Hid (RdS u cl w3) := hu.rd
            obtain ⟨ua, uc, rfl⟩ := hu.form
            clear hb hu
            go_wp2
            refine bodyPost_ret (v := .tuple #[.int .i64 0, .int .i64 0, .int .i64 67]) (by simp [results, Tryz.results15, go_sem]) rfl ?_
            exact ⟨rfl, HB3.out⟩
    | false =>
      rw [if_neg (by simp)]
      by_cases hle : le = 0
      · subst hle
        rw [if_neg (by simp)]
        cases sized with
        | true =>
          rw [if_pos rfl]
          go_enter Tryz.func15, Tryz.ntmps15
          go_wp2_with fail
          refine HC.out.mono ?_
          rintro e w3 ⟨u, rfl, hu, hb⟩
          have HB3 : Hid (Below w.heap.size w w3) := hb
          have HU3 : Hid (RdS u cl w3) := hu.rd
          obtain ⟨ua, uc, rfl⟩ := hu.form
          clear hb hu
          go_wp2_with fail
          refine (HL.out _ (HR.out.below HB3.out)).mono ?_
          rintro e w4 ⟨rfl, hb⟩
          have HB4 : Hid (Below w.heap.size w w4) := bel_trans HB3.out hb
          clear hb
          go_wp2
          refine bodyPost_ret (v := .tuple #[.int .i64 1, .int .i64 n, .int .i64 0]) (by simp [results, Tryz.results15, go_sem]) rfl ?_
          exact ⟨rfl, HB4.out⟩
        | false =>
          rw [if_neg (by simp)]
          go_enter Tryz.func15, Tryz.ntmps15
          go_wp2_with fail
          refine HC.out.mono ?_
          rintro e w3 ⟨u, rfl, hu, hb⟩
          have HB3 : Hid (Below w.heap.size w w3) := hb
          have HU3 : Hid (RdS u cl w3) := hu.rd
          obtain ⟨ua, uc, rfl⟩ := hu.form
          clear hb hu
          go_wp2_with fail
          refine (HL.out _ (HR.out.below HB3.out)).mono ?_
          rintro e w4 ⟨rfl, hb⟩
          have HB4 : Hid (Below w.heap.size w w4) := bel_trans HB3.out hb
          clear hb
          go_wp2
          refine bodyPost_ret (v := .tuple #[.int .i64 0, .int .i64 0, .int .i64 0]) (by simp [results, Tryz.results15, go_sem]) rfl ?_
          exact ⟨rfl, HB4.out⟩
      · rw [if_pos hle]
        have hlq : (le != 0) = true := by simp [hle]
        have hle6 : le = 66 := HLe.out.resolve_left hle
        subst hle6
        go_enter Tryz.func15, Tryz.ntmps15
        go_wp2_with fail
        refine HC.out.mono ?_
        rintro e w3 ⟨u, rfl, hu, hb⟩
        have HB3 : Hid (Below w.heap.size w w3) := hb
        have HU3 : Hid (RdS u cl w3) := hu.rd
        obtain ⟨ua, uc, rfl⟩ := hu.form
        clear hb hu
        go_wp2_with fail
        refine (HL.out _ (HR.out.below HB3.out)).mono ?_
        rintro e w4 ⟨rfl, hb⟩
        have HB4 : Hid (Below w.heap.size w w4) := bel_trans HB3.out hb
        clear hb
        go_wp2
        refine bodyPost_ret (v := .tuple #[.int .i64 0, .int .i64 0, .int .i64 66]) (by simp [results, Tryz.results15, go_sem]) rfl ?_
        exact ⟨rfl, HB4.out⟩
  · rw [if_pos hce]
    have hcq : (ce != 0) = true := by simp [hce]
    go_enter Tryz.func15, Tryz.ntmps15
    go_wp2_with fail
    refine HC.out.mono ?_
    rintro e w3 ⟨u, rfl, hu, hb⟩
    have HB3 : Hid (Below w.heap.size w w3) := hb
    have HU3 : Hid (RdS u cl w3) := hu.rd
    obtain ⟨ua, uc, rfl⟩ := hu.form
    clear hb hu
    go_wp2
    refine bodyPost_ret (v := .tuple #[.int .i64 0, .int .i64 0, .int .i64 67]) (by simp [results, Tryz.results15, go_sem]) rfl ?_
    exact ⟨rfl, HB3.out⟩
end Fd
end Go.Proofs.YtdcfhnbagldilaaGreatDoor
set_option linter.unusedVariables false
set_option linter.unusedSimpArgs false
set_option maxRecDepth 100000
namespace Go.Proofs.YtdcfhnbagldilaaGreatDoor
open Go.RowKit Go.Shelf
namespace Ms
open Oc Tg _root_.Go.Proofs.YtdcfhnbagldilaaGreatDoor.Fd _root_.Go.Proofs.YtdcfhnbagldilaaGreatDoor.Ck
structure HS where
  piece : List UInt8
  ended : Bool
  used : Nat
  wrong : Int
  line : List UInt8
  lineAt : Nat
  headed : Bool
  st : Int
  rs : List UInt8
  fs : List Fl
  minor : Int
  kind : Int
  len : Int
  per : Bool
def lcH (s : HS) (vl vf : Value) (ex : List Value) : List Value :=
  .string (str s.piece) :: .bool s.ended :: .int .i64 (s.used : Int) :: .int .i64 s.wrong :: vl :: .int .i64 (s.lineAt : Int) :: .bool s.headed :: .slice none 0 0 :: .pointer none :: .int .i64 s.st :: .string (str s.rs) :: vf :: .string ⟨#[]⟩ :: .int .i64 s.minor :: .slice none 0 0 :: .int .i64 s.kind :: .int .i64 s.len :: .bool s.per :: ex
def Blk (T : Nat) (w : World) (D : Nat) (cs : List Value) : Prop := w.heap[D]? = some (.cells cs.toArray T (0, 0))
theorem Blk.lt {T : Nat} {w : World} {D : Nat} {cs : List Value} (h : Blk T w D cs) : D < w.heap.size := (Array.getElem?_eq_some_iff.1 h).1
theorem Blk.cell {T : Nat} {w : World} {D : Nat} {cs : List Value} (h : Blk T w D cs) (i : Nat) {v : Value} (hv : cs[i]? = some v) : w.cell? ⟨D, i, none⟩ = some v := by
  unfold Blk at h
  rw [cell_of_row w D _ _ _ _ h]
  simpa using hv
theorem Blk.free {T : Nat} {w : World} {D : Nat} {cs : List Value} (h : Blk T w D cs) (i : Nat) : w.frozen? ⟨D, i, none⟩ = false := frozen_of_row w D i _ _ h
theorem Blk.set {T : Nat} {w : World} {D : Nat} {cs : List Value} (h : Blk T w D cs) (i : Nat) (v : Value) : Blk T (w.setCell ⟨D, i, none⟩ v) D (cs.set i v) := by
  have := heap_setCell_same w D i cs.toArray _ v h
  unfold Blk
  rw [this, List.setIfInBounds_toArray]
theorem Blk.below {T : Nat} {w w' : World} {D : Nat} {cs : List Value} (h : Blk T w D cs) (b : Below w.heap.size w w') : Blk T w' D cs := by
  unfold Blk at *
  rw [b.block D (Array.getElem?_eq_some_iff.1 h).1]
  exact h
theorem Blk.but {T : Nat} {w w' : World} {D : Nat} {cs : List Value} {bs : List Nat} (h : Blk T w D cs) (b : But bs w w') (hn : D ∉ bs) : Blk T w' D cs := b.heap h hn
def TOk (T : Nat) : Prop := T ≠ 5 ∧ T ≠ 47
theorem Blk.ne {T T' : Nat} {w : World} {D g B S n : Nat} {v : Value} {xs cs : List Value} (h : Blk T w D cs) (ho : w.ownsRow B T' S v n xs) (hT : T ≠ T') (hg : v.ownBlock = some g) : g ≠ D := by
  intro e
  subst e
  rcases ho.2 with ⟨rfl, _⟩ | ⟨g', cap, cur, rfl, _, hg', _⟩
  · cases hg
  · have : g' = g := by simpa [Value.ownBlock] using hg
    subst this
    unfold Blk at h
    rw [h] at hg'
    injection hg' with e
    injection e with _ e2 _
    exact hT e2
theorem Blk.keep {T T' : Nat} {w w' : World} {D B S n : Nat} {v : Value} {xs cs : List Value} (h : Blk T w D cs) (ho : w.ownsRow B T' S v n xs) (hT : T ≠ T') (hb : But [D] w w') : w'.ownsRow B T' S v n xs :=
  hb.owns ho (fun g hg e => h.ne ho hT hg (by simpa using e))
structure IsH (T : Nat) (ex : List Value) (w : World) (D : Nat) (s : HS) (vl vf : Value) : Prop where
  str : Blk T w D (lcH s vl vf ex)
  line : Own 0 vl s.line w
  fs : OwnF 47 0 vf s.fs w
def ftH (D : Nat) (vl vf : Value) : List Nat := D :: (vl.ownBlock.toList ++ vf.ownBlock.toList)
def HdS (T : Nat) (ex : List Value) (w : World) (D : Nat) (s : HS) (bs : List Nat) : Prop := ∃ vl vf, IsH T ex w D s vl vf ∧ bs = ftH D vl vf
theorem IsH.below {T : Nat} {ex : List Value} {w w' : World} {D : Nat} {s : HS} {vl vf : Value} (h : IsH T ex w D s vl vf) (b : Below w.heap.size w w') : IsH T ex w' D s vl vf :=
  ⟨h.str.below b, (But.of_below b).owns h.line (fun _ _ e => by cases e), (But.of_below b).owns h.fs (fun _ _ e => by cases e)⟩
theorem HdS.below {T : Nat} {ex : List Value} {w w' : World} {D : Nat} {s : HS} {bs : List Nat} (h : HdS T ex w D s bs) (b : Below w.heap.size w w') : HdS T ex w' D s bs := by
  obtain ⟨vl, vf, H, rfl⟩ := h
  exact ⟨vl, vf, H.below b, rfl⟩
theorem IsH.build {T : Nat} {ex : List Value} {w w' : World} {D : Nat} {s s' : HS} {vl vf : Value} (hT : TOk T) (H : IsH T ex w D s vl vf) (hb : But [D] w w') {vl' : Value} (hc : Blk T w' D (lcH s' vl' vf ex)) (hl : Own 0 vl' s'.line w) (hf : s'.fs = s.fs) : IsH T ex w' D s' vl' vf :=
  ⟨hc, H.str.keep hl hT.1 hb, by rw [hf]; exact H.str.keep H.fs hT.2 hb⟩
theorem goesH {w w' : World} {D : Nat} {vl vf vl' vf' : Value} (hb : But (ftH D vl vf) w w') (h1 : ∀ g, vl'.ownBlock = some g → vl.ownBlock = some g ∨ w.heap.size ≤ g) (h2 : ∀ g, vf'.ownBlock = some g → vf.ownBlock = some g ∨ w.heap.size ≤ g) : Goes (ftH D vl vf) w (ftH D vl' vf') w' := by
  refine ⟨hb, fun x hx => ?_⟩
  unfold ftH at hx ⊢
  simp at hx ⊢
  rcases hx with rfl | hx | hx
  · exact .inl (.inl rfl)
  · rcases h1 x hx with e | e
    · exact .inl (.inr (.inl e))
    · exact .inr e
  · rcases h2 x hx with e | e
    · exact .inl (.inr (.inr e))
    · exact .inr e
theorem ftHd {w w' : World} {D : Nat} (h : But [D] w w') (vl vf : Value) : But (ftH D vl vf) w w' := h.mono (fun x hx => by simp at hx; subst hx; simp [ftH])
theorem setD {w0 w : World} {D : Nat} (h : But [D] w0 w) (i : Nat) (v : Value) : But [D] w0 (w.setCell ⟨D, i, none⟩ v) := h.setCell (by simp) _
set_option maxHeartbeats 1000000 in
theorem refuse_raw {T : Nat} {w : World} {D : Nat} {cs : List Value} (h : Blk T w D cs) (hv : ∃ v, cs[3]? = some v) (a e : Int) :
    Calls Tryz.prog 64 #[.pointer (some ⟨D, 0, none⟩), .int .i64 a, .int .i64 e] w fun x w' => x = .returned (.int .i64 e) ∧ w' = w.setCell ⟨D, 3, none⟩ (.int .i64 a) := by
  obtain ⟨v, hv⟩ := hv
  have c3 := h.cell 3 hv
  have f3 := h.free 3
  clear h hv
  go_enter Tryz.func64, Tryz.ntmps64
  go_wp2
  go_ret
  exact ⟨rfl, rfl⟩
set_option maxHeartbeats 1000000 in
theorem readOff_raw {T : Nat} {w : World} {D : Nat} {cs : List Value} (h : Blk T w D cs) (p : ByteArray) (u n : Nat) (h0 : cs[0]? = some (.string p)) (h2 : cs[2]? = some (.int .i64 (u : Int))) (hn : n ≤ p.size) (hp : p.size ≤ 4000000000) (hu : u ≤ 4000000000) :
    Calls Tryz.prog 25 #[.pointer (some ⟨D, 0, none⟩), .int .i64 (n : Int)] w fun x w' => x = .returned (.string (p.extract 0 n)) ∧ w' = (w.setCell ⟨D, 0, none⟩ (.string (p.extract n p.size))).setCell ⟨D, 2, none⟩ (.int .i64 ((u : Int) + (n : Int))) := by
  have c0 := h.cell 0 h0
  have c2 := h.cell 2 h2
  have f0 := h.free 0
  have f2 := h.free 2
  have a0 : (0 : Int) ≤ (n : Int) := by omega
  have a1 : (n : Int) ≤ (p.size : Int) := by omega
  clear h h0 h2
  go_enter Tryz.func25, Tryz.ntmps25
  go_wp2
  go_ret
  exact ⟨rfl, rfl⟩
def formB : List UInt8 := [72, 84, 84, 80, 47, 49, 46, 48, 32, 48, 48, 48, 32]
def gonI (a : Nat) (x : Int) : Bool :=
  if 13 ≤ a then x == 13 || (decide (a < 269) && fieldI x)
  else if a = 7 then x == 48 || x == 49
  else if a = 9 then decide (49 ≤ x) && decide (x ≤ 53)
  else if a = 10 ∨ a = 11 then decide (48 ≤ x) && decide (x ≤ 57)
  else x == ((formB.getD a 0).toNat : Int)
end Ms
end Go.Proofs.YtdcfhnbagldilaaGreatDoor
set_option linter.unusedVariables false
set_option linter.unusedSimpArgs false
namespace Go.Proofs.YtdcfhnbagldilaaGreatDoor
open Go.RowKit Go.Shelf
open Go.Sort (grow)
namespace Oc
def Pow (w : World) : Prop := Lib.TabIs Tryz.prog w "internal/strconv.uint64pow10" .u64 Lib.pow10Tab
theorem gPow : Tryz.prog.globalNamed "internal/strconv.uint64pow10" = some 0 := by kernel_rfl
theorem Pow.lt {w : World} (h : Pow w) : 0 < w.heap.size := by
  have c := Lib.TabIs.cell h gPow 0 (by rw [Lib.pow10Tab_length]; omega)
  rcases Nat.lt_or_ge 0 w.heap.size with h | h
  · exact h
  · simp [World.cell?, Array.getElem?_eq_none h] at c
theorem Pow.below {B : Nat} {w w' : World} (h : Pow w) (b : Below B w w') (hB : w.heap.size ≤ B) : Pow w' := by
  have := h.lt
  exact var?_below b gPow (by omega) h
set_option maxHeartbeats 400000 in
theorem Digits_any (n : Int) (h0 : -9223372036854775808 ≤ n) (h1 : n ≤ 9223372036854775807) (w : World) (t : Pow w) :
    Calls Tryz.prog 53 #[.int .i64 n] w fun e w' => e = .returned (.string (str (Lib.itoa n))) ∧ Below w.heap.size w w' := by
  have HT : Hid (Pow w) := t
  clear t
  have hcon := Tryz.strconv_Itoa n h0 h1 w HT.out
  change Calls Tryz.prog 92 _ _ (fun e w' => e = .returned (.string (str (Lib.itoa n))) ∧ ∃ k os, w' = grow (w.drewN k) os) at hcon
  have HC : Hid (Calls Tryz.prog 92 #[.int .i64 n] w (fun e w' => e = .returned (.string (str (Lib.itoa n))) ∧ ∃ k os, w' = grow (w.drewN k) os)) := hcon
  clear hcon
  go_enter Tryz.func53, Tryz.ntmps53
  go_wp2_with fail
  refine HC.out.mono ?_
  rintro e w' ⟨rfl, k, os, rfl⟩
  go_wp2
  go_ret
  exact ⟨rfl, Lib.below_grow _ w (Nat.le_refl _) k os⟩
def decD (u : Nat) : List UInt8 := if u = 0 then [] else Lib.decDigits u
theorem decD_step (u : Nat) (h : u ≠ 0) : decD u = decD (u / 10) ++ [UInt8.ofNat (48 + u % 10)] := by
  unfold decD
  rw [if_neg h]
  by_cases h1 : u < 10
  · rw [if_pos (by omega), Lib.decDigits_one h1, Nat.mod_eq_of_lt h1]; rfl
  · rw [if_neg (by omega), Lib.decDigits, dif_neg h1]
theorem itoa_decD (n : Int) (h : n ≠ 0) : Lib.itoa n = (if n < 0 then [45] else []) ++ decD n.natAbs := by
  unfold Lib.itoa decD
  by_cases hn : n < 0
  · rw [if_pos hn, if_pos hn, if_neg (by omega)]; rfl
  · rw [if_neg hn, if_neg hn, if_neg (by omega), show n.natAbs = n.toNat by omega]; rfl
theorem one_byte (W : World) (x : Int) (h0 : 0 ≤ x) (h1 : x ≤ 255) :
    (convert 53 9 (.slice (some ⟨W.heap.size, 0, none⟩) 1 1)).run Tryz.prog (W.alloc (.cells #[.int .u8 x] 5)) = .ok (.string (str [UInt8.ofNat x.toNat])) (W.alloc (.cells #[.int .u8 x] 5)) := by
  have h := run_convert_bytes_back (P := Tryz.prog) (W.alloc (.cells #[.int .u8 x] 5)) 53 9 5 ⟨W.heap.size, 0, none⟩ 1 [UInt8.ofNat x.toNat] Tryz.underlying53 Tryz.underlying5 Tryz.underlying9 (fun j hj => by
    have hj0 : j = 0 := by simpa using hj
    subst hj0
    have e : ((UInt8.ofNat x.toNat).toNat : Int) = x := by
      rw [UInt8.toNat_ofNat']
      omega
    have hc : (W.alloc (.cells #[.int .u8 x] 5)).cell? ⟨W.heap.size, 0, none⟩ = some (.int .u8 x) := by simp [World.cell?, World.alloc, -World.alloc_eq]
    rw [show (Addr.add ⟨W.heap.size, 0, none⟩ 0) = ⟨W.heap.size, 0, none⟩ from rfl, hc]
    show _ = some (Value.int .u8 ((UInt8.ofNat x.toNat).toNat : Int))
    rw [e])
  exact h
end Oc
end Go.Proofs.YtdcfhnbagldilaaGreatDoor
