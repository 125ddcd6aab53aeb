import Derived.Test.YtdcfhnbagldilaaGreatDoorMgD
import Derived.Laws.AppendOwnNone
import Derived.OpenShut
import Derived.SliceStrings
import Derived.Carry
set_option linter.unusedVariables false
set_option linter.unusedSimpArgs false
namespace Go.Proofs.YtdcfhnbagldilaaGreatDoor
open Go.RowKit Go.Shelf
namespace Fd
open Oc Tg
def alike (s : List UInt8) (p : Fl) : Bool := decide (lower p.1 = lower s)
def idxZ (s : List UInt8) (fs : List Fl) : Int := match fs.findIdx? (alike s) with | some k => (k : Int) | none => -1
theorem low_alike (n s : List UInt8) : decide (lowS (str n) = lowS (str s)) = decide (lower n = lower s) := by
  unfold lowS
  rw [str_list, str_list, Bool.eq_iff_iff, decide_eq_true_iff, decide_eq_true_iff]
  exact ⟨str_inj, fun h => by rw [h]⟩
theorem idxZ_at {s : List UInt8} {fs : List Fl} {k : Nat} (hk : k < fs.length) (h1 : alike s (nth fs k) = true) (h2 : ∀ j, j < k → alike s (nth fs j) = false) : idxZ s fs = k := by
  unfold idxZ
  have : fs.findIdx? (alike s) = some k := by
    rw [List.findIdx?_eq_some_iff_getElem]
    refine ⟨hk, ?_, fun j hj => ?_⟩
    · have := h1
      unfold nth at this
      rwa [List.getD_eq_getElem?_getD, List.getElem?_eq_getElem hk] at this
    · have := h2 j hj
      unfold nth at this
      rw [List.getD_eq_getElem?_getD, List.getElem?_eq_getElem (by omega)] at this
      simpa using this
  rw [this]
theorem idxZ_none {s : List UInt8} {fs : List Fl} (h2 : ∀ j, j < fs.length → alike s (nth fs j) = false) : idxZ s fs = -1 := by
  unfold idxZ
  have : fs.findIdx? (alike s) = none := by
    rw [List.findIdx?_eq_none_iff]
    intro x hx
    obtain ⟨j, hj, rfl⟩ := List.mem_iff_getElem.1 hx
    have := h2 j hj
    unfold nth at this
    rwa [List.getD_eq_getElem?_getD, List.getElem?_eq_getElem hj] at this
  rw [this]
def Each (M : Nat) (fs : List Fl) : Prop := ∀ p ∈ fs, p.1.length ≤ M ∧ p.2.length ≤ M
theorem Each.at {M : Nat} {fs : List Fl} (h : Each M fs) (k : Nat) (hk : k < fs.length) : (nth fs k).1.length ≤ M ∧ (nth fs k).2.length ≤ M := by
  refine h _ ?_
  unfold nth
  rw [List.getD_eq_getElem?_getD, List.getElem?_eq_getElem hk]
  exact List.getElem_mem hk
set_option maxHeartbeats 400000 in
theorem named_any (s : ByteArray) (w : World) :
    Calls Tryz.prog 175 #[.string s] w fun e w' => e = .returned (.func (.func 193) #[] #[.pointer (some ⟨w.heap.size, 0, none⟩)]) ∧ w' = w.alloc (.cells #[.string s] 9) := by
  go_enter Tryz.func175, Tryz.ntmps175
  go_wp2
  go_ret
  exact ⟨rfl, rfl⟩
set_option maxRecDepth 100000 in
set_option maxHeartbeats 1000000 in
theorem named1_any (n v s : List UInt8) (hn : n.length ≤ maxLen) (hs : s.length ≤ maxLen) (B : Nat) (w : World) (hc : w.cell? ⟨B, 0, none⟩ = some (.string (str s))) :
    Calls Tryz.prog 193 #[.agg #[.string (str n), .string (str v)], .pointer (some ⟨B, 0, none⟩)] w fun e w' => e = .returned (.bool (alike s (n, v))) ∧ Below w.heap.size w w' := by
  obtain ⟨w2, hw2⟩ : ∃ w2, w2 = w.alloc (.cells #[.string (str n), .string (str v)] 47) := ⟨_, rfl⟩
  have R1 : w2.heap[w.heap.size]? = some (.cells #[.string (str n), .string (str v)] 47 (0, 0)) := by
    rw [hw2]; exact heap_alloc_new w _
  have hb2 : Below w.heap.size w w2 := by rw [hw2]; exact (Below.refl _ w).alloc (Nat.le_refl _) _
  have c0 := Lib.cell_of_heap R1 0
  simp at c0
  have hcB : w2.cell? ⟨B, 0, none⟩ = some (.string (str s)) := by rw [hb2.cell (World.block_lt_of_cell? w _ hc)]; exact hc
  have HS : Hid (Calls Tryz.prog 86 #[.string (str n), .string (str s)] w2 fun e w' => e = .returned (.bool (alike s (n, v))) ∧ Below w2.heap.size w2 w') := by
    have h := Same_any (str n) (str s) (by rw [str_size]; exact hn) (by rw [str_size]; exact hs) w2
    rw [low_alike] at h
    exact h
  have HB2 : Hid (Below w.heap.size w w2) := hb2
  generalize str n = N at *
  generalize str s = S at *
  generalize str v = V at *
  generalize alike s (n, v) = b at *
  clear R1 hb2 hc
  subst hw2
  go_enter Tryz.func193, Tryz.ntmps193
  go_wp2_with fail
  refine HS.out.mono ?_
  rintro e w3 ⟨rfl, hb3⟩
  have HB3 : Hid (Below w.heap.size w w3) := bel_trans HB2.out hb3
  clear hb3
  go_wp2
  go_ret
  exact ⟨rfl, HB3.out⟩
set_option maxRecDepth 100000 in
set_option maxHeartbeats 2000000 in
theorem IndexFunc_any (v : Value) (fs : List Fl) (s : List UInt8) (hs : s.length ≤ maxLen) (hM : Each maxLen fs) (hl : fs.length ≤ 4294967296) (B : Nat) (w : World) (hrd : RdF v fs w) (hc : w.cell? ⟨B, 0, none⟩ = some (.string (str s))) :
    Calls Tryz.prog 85 #[v, .func (.func 193) #[] #[.pointer (some ⟨B, 0, none⟩)]] w fun e w' => e = .returned (.int .i64 (idxZ s fs)) ∧ Below w.heap.size w w' := by
  have HR : Hid (RdF v fs w) := hrd
  have HC : Hid (w.cell? ⟨B, 0, none⟩ = some (.string (str s))) := hc
  have HM : Hid (Each maxLen fs) := hM
  have HS : Hid (s.length ≤ maxLen) := hs
  obtain ⟨a, c, rfl, _⟩ := hrd
  clear hc hM hs
  go_enter Tryz.func85, Tryz.ntmps85
  go_wp2
  go_loopw [8] (fun i wr => ∃ k : Nat, k ≤ fs.length ∧ i = .int .i64 k ∧ Hid (∀ j, j < k → alike s (nth fs j) = false) ∧ Hid (Below w.heap.size w wr)) (fun i _ => fs.length - (intOf i).toNat)
  case atStart => exact ⟨0, Nat.zero_le _, rfl, (fun j hj => by omega : ∀ j, j < 0 → _), Below.refl _ _⟩
  case round =>
    obtain ⟨k, hk, rfl, hall, hbl⟩ := hrel
    by_cases hlt : k < fs.length
    · obtain ⟨a', c', e', hcs⟩ := HR.out.below hbl.out
      injection e' with e1 _ e2
      subst e1 e2
      rcases hcs with h | ⟨g, o, rfl, hlc, hcell⟩
      · rw [h] at hlt; simp at hlt
      obtain ⟨p0, p1⟩ := hcell k hlt
      clear hcell
      have HN : Hid (Calls Tryz.prog 193 #[.agg #[.string (str (nth fs k).1), .string (str (nth fs k).2)], .pointer (some ⟨B, 0, none⟩)] wr fun e w' => e = .returned (.bool (alike s (nth fs k))) ∧ Below wr.heap.size wr w') :=
        named1_any _ _ s (HM.out.at k hlt).1 HS.out B wr (by rw [hbl.out.cell (World.block_lt_of_cell? w _ HC.out)]; exact HC.out)
      have HT : alike s (nth fs k) = true → Hid (idxZ s fs = k) := fun h => idxZ_at hlt h hall.out
      have HF : alike s (nth fs k) = false → Hid (∀ j, j < k + 1 → alike s (nth fs j) = false) := fun h j hj => by
        by_cases hjk : j = k
        · subst hjk; exact h
        · exact hall.out j (by omega)
      generalize str (nth fs k).1 = X at p0 HN
      generalize str (nth fs k).2 = Y at p1 HN
      generalize alike s (nth fs k) = b at HN HT HF
      cases b with
      | true =>
        have HT2 := HT rfl
        clear HT HF
        go_wp2_with fail
        refine HN.out.mono ?_
        rintro e w2 ⟨rfl, hb2⟩
        have HB2 : Hid (Below w.heap.size w w2) := bel_trans hbl.out hb2
        clear hb2
        go_wp2
        go_ret
        exact ⟨ret_int HT2.out.symm, HB2.out⟩
      | false =>
        have HF2 := HF rfl
        clear HT HF
        go_wp2_with fail
        refine HN.out.mono ?_
        rintro e w2 ⟨rfl, hb2⟩
        have HB2 : Hid (Below w.heap.size w w2) := bel_trans hbl.out hb2
        clear hb2
        go_wp2
        go_roundw
        case rel => exact ⟨k + 1, by omega, by go_num, HF2, HB2⟩
        case measure => simp [intOf]; omega
    · have HE : Hid (idxZ s fs = -1) := idxZ_none (fun j hj => hall.out j (by omega))
      go_wp2
      go_ret
      exact ⟨ret_int HE.out.symm, hbl.out⟩
def findF (s : List UInt8) (fs : List Fl) : List UInt8 × Bool := match fs.find? (alike s) with | some p => (p.2, true) | none => ([], false)
theorem idx_find (s : List UInt8) (fs : List Fl) : (∃ k : Nat, k < fs.length ∧ idxZ s fs = k ∧ findF s fs = ((nth fs k).2, true)) ∨ (idxZ s fs = -1 ∧ findF s fs = ([], false)) := by
  unfold idxZ findF
  cases h : fs.findIdx? (alike s) with
  | none =>
    right
    rw [List.findIdx?_eq_none_iff] at h
    have : fs.find? (alike s) = none := by rw [List.find?_eq_none]; intro x hx; simpa using h x hx
    rw [this]
    exact ⟨rfl, rfl⟩
  | some k =>
    left
    rw [List.findIdx?_eq_some_iff_getElem] at h
    obtain ⟨hk, h1, h2⟩ := h
    refine ⟨k, hk, rfl, ?_⟩
    have : fs.find? (alike s) = some fs[k] := by
      rw [List.find?_eq_some_iff_getElem]
      exact ⟨h1, k, hk, rfl, fun j hj => by simpa using h2 j hj⟩
    rw [this]
    unfold nth
    rw [List.getD_eq_getElem?_getD, List.getElem?_eq_getElem hk]
    rfl
set_option maxRecDepth 100000 in
set_option maxHeartbeats 1000000 in
theorem Find_any (v : Value) (fs : List Fl) (s : List UInt8) (hs : s.length ≤ maxLen) (hM : Each maxLen fs) (hl : fs.length ≤ 4294967296) (w : World) (hrd : RdF v fs w) :
    Calls Tryz.prog 154 #[v, .string (str s)] w fun e w' => e = .returned (.tuple #[.string (str (findF s fs).1), .bool (findF s fs).2]) ∧ Below w.heap.size w w' := by
  have hb1 : Below w.heap.size w (w.alloc (.cells #[.string (str s)] 9)) := (Below.refl _ w).alloc (Nat.le_refl _) _
  have HI : Hid (Calls _ _ _ _ _) := IndexFunc_any v fs s hs hM hl w.heap.size (w.alloc (.cells #[.string (str s)] 9)) (hrd.below hb1) (by simp)
  have HR : Hid (RdF v fs w) := hrd
  have HB1 : Hid (Below _ _ _) := hb1
  have HN : Hid (Calls _ _ _ _ _) := named_any (str s) w
  obtain ⟨a, c, rfl, _⟩ := hrd
  clear hM hs hb1
  generalize str s = S at *
  rcases idx_find s fs with ⟨k, hk, e1, e2⟩ | ⟨e1, e2⟩
  · rw [e1] at HI
    rw [e2]
    dsimp only
    clear e1 e2
    generalize hY : str (nth fs k).2 = Y
    have HY : Hid (_ = Y) := hY
    clear hY
    go_enter Tryz.func154, Tryz.ntmps154
    go_wp2_with fail
    refine HN.out.mono ?_
    rintro e w1 ⟨rfl, rfl⟩
    go_wp2_with fail
    refine HI.out.mono ?_
    rintro e w2 ⟨rfl, hb2⟩
    have HB2 : Hid (Below w.heap.size w w2) := bel_trans HB1.out hb2
    clear hb2
    obtain ⟨a', c', e', hcs⟩ := HR.out.below HB2.out
    injection e' with e1 _ e2
    subst e1 e2
    rcases hcs with h | ⟨g, o, rfl, hlc, hcell⟩
    · rw [h] at hk; simp at hk
    obtain ⟨p0, p1⟩ := hcell k hk
    clear hcell p0
    rw [HY.out] at p1
    go_wp2
    go_ret2
    exact ⟨rfl, HB2.out⟩
  · rw [e1] at HI
    rw [e2]
    dsimp only
    clear e1 e2
    go_enter Tryz.func154, Tryz.ntmps154
    go_wp2_with fail
    refine HN.out.mono ?_
    rintro e w1 ⟨rfl, rfl⟩
    go_wp2_with fail
    refine HI.out.mono ?_
    rintro e w2 ⟨rfl, hb2⟩
    have HB2 : Hid (Below w.heap.size w w2) := bel_trans HB1.out hb2
    clear hb2
    go_wp2
    go_ret2
    exact ⟨rfl, HB2.out⟩
end Fd
end Go.Proofs.YtdcfhnbagldilaaGreatDoor
set_option linter.unusedVariables false
set_option linter.unusedSimpArgs false
namespace Go.Proofs.YtdcfhnbagldilaaGreatDoor
open Go.RowKit Go.Shelf
namespace Fd
open Oc Tg
theorem fnot_ge (p : UInt8 → Bool) : ∀ (l : List UInt8) (k : Nat), k ≤ l.length → (∀ j, j < k → p (l.getD j 0) = true) → k ≤ fnot p l
  | [], k, h, _ => by simp at h; omega
  | a :: l, 0, _, _ => Nat.zero_le _
  | a :: l, k + 1, h, ha => by
    have h0 := ha 0 (by omega)
    simp at h0
    unfold fnot
    rw [List.takeWhile_cons, h0]
    simp only [if_true, List.length_cons]
    have := fnot_ge p l k (by simpa using h) (fun j hj => by simpa using ha (j + 1) (by omega))
    unfold fnot at this
    omega
theorem pl_no {l : List UInt8} (hb : blank0 l = false) (hh : has 58 l = false) : parseL l = (([], []), l.length, 62) := by
  unfold parseL
  rw [hb, hh]
  rfl
theorem pl_A {l : List UInt8} (hb : blank0 l = true) : parseL l = (([], []), 0, 63) := by unfold parseL; rw [hb]; rfl
theorem pl_D {l : List UInt8} (hb : blank0 l = false) (hh : has 58 l = true) (k : Nat) (hn : isName (cutA 58 l) = false) (hk : min (fnot tokB (cutA 58 l)) 128 = k) : parseL l = (([], []), k, 60) := by
  unfold parseL
  rw [hb, hh, hn, hk]
  rfl
theorem pl_D0 {l : List UInt8} (hb : blank0 l = false) (hh : has 58 l = true) (h0 : (cutA 58 l).length = 0) : parseL l = (([], []), 0, 60) := by
  have e := List.length_eq_zero_iff.1 h0
  exact pl_D hb hh 0 (by rw [e]; rfl) (by rw [e]; rfl)
theorem pl_D1 {l : List UInt8} (hb : blank0 l = false) (hh : has 58 l = true) (k : Nat) (hk : k < (cutA 58 l).length) (hall : ∀ j, j < k → tokB ((cutA 58 l).getD j 0) = true) (hk2 : k ≤ 128) (hst : k = 128 ∨ tokB ((cutA 58 l).getD k 0) = false) : parseL l = (([], []), k, 60) := by
  rcases hst with rfl | hst
  · refine pl_D hb hh 128 ?_ ?_
    · unfold isName
      rw [decide_eq_false (by omega)]
      simp
    · have := fnot_ge tokB (cutA 58 l) 128 (by omega) hall
      omega
  · refine pl_D hb hh k ?_ ?_
    · unfold isName isTok
      rw [all_not tokB 0 _ k hk hst]
      simp
    · have : fnot tokB (cutA 58 l) = k := tw_stop tokB 0 _ k hk hall hst
      omega
theorem name_of {l : List UInt8} (h0 : l.length ≠ 0) (h1 : l.length ≤ 128) (hall : ∀ j, j < l.length → tokB (l.getD j 0) = true) : isName l = true := by
  unfold isName isTok
  rw [all_of tokB 0 _ hall, decide_eq_true h1]
  cases l with
  | nil => exact absurd rfl h0
  | cons _ _ => rfl
theorem pl_E1 {l : List UInt8} (hb : blank0 l = false) (hh : has 58 l = true) (hn : isName (cutA 58 l) = true) (k : Nat) (hk : k < (cutB 58 l).length) (hall : ∀ j, j < k → fieldB ((cutB 58 l).getD j 0) = true) (hst : fieldB ((cutB 58 l).getD k 0) = false) :
    parseL l = (([], []), (cutA 58 l).length + 1 + k, 61) := by
  unfold parseL
  rw [hb, hh, hn, show isFld (cutB 58 l) = false from all_not fieldB 0 _ k hk hst, show fnot fieldB (cutB 58 l) = k from tw_stop fieldB 0 _ k hk hall hst]
  rfl
theorem pl_F {l : List UInt8} (hb : blank0 l = false) (hh : has 58 l = true) (hn : isName (cutA 58 l) = true) (hf : isFld (cutB 58 l) = true) (h8 : (trim (cutB 58 l)).length ≤ 8192) : parseL l = ((cutA 58 l, trim (cutB 58 l)), 0, 0) := by
  unfold parseL
  rw [hb, hh, hn, hf, if_pos h8]
  rfl
theorem pl_E2 {l : List UInt8} (hb : blank0 l = false) (hh : has 58 l = true) (hn : isName (cutA 58 l) = true) (hf : isFld (cutB 58 l) = true) (h8 : ¬ (trim (cutB 58 l)).length ≤ 8192) (k : Nat) (hk : lead (cutB 58 l) = k) :
    parseL l = (([], []), (cutA 58 l).length + 1 + (k + 8192), 61) := by
  unfold parseL
  rw [hb, hh, hn, hf, if_neg h8, hk]
  rfl
theorem at_A {l : List UInt8} (hh : has 58 l = true) (j : Nat) (hj : j < (cutA 58 l).length) : l.getD j 0 = (cutA 58 l).getD j 0 := by
  conv => lhs; rw [← cut_app 58 l hh]
  rw [List.getD_eq_getElem?_getD, List.getD_eq_getElem?_getD, List.getElem?_append_left hj]
theorem at_B {l : List UInt8} (hh : has 58 l = true) (j : Nat) : l.getD ((cutA 58 l).length + 1 + j) 0 = (cutB 58 l).getD j 0 := by
  conv => lhs; arg 1; rw [← cut_app 58 l hh]
  rw [List.getD_eq_getElem?_getD, List.getD_eq_getElem?_getD, List.getElem?_append_right (by omega), show (cutA 58 l).length + 1 + j - (cutA 58 l).length = j + 1 by omega, List.getElem?_cons_succ]
theorem len_AB {l : List UInt8} (hh : has 58 l = true) : l.length = (cutA 58 l).length + 1 + (cutB 58 l).length := by
  have := congrArg List.length (cut_app 58 l hh)
  simp at this
  omega
theorem drop_A {l : List UInt8} (hh : has 58 l = true) : l.drop ((cutA 58 l).length + 1) = cutB 58 l := by
  conv => lhs; arg 2; rw [← cut_app 58 l hh]
  rw [show cutA 58 l ++ 58 :: cutB 58 l = (cutA 58 l ++ [58]) ++ cutB 58 l by simp, show (cutA 58 l).length + 1 = (cutA 58 l ++ [58]).length by simp, List.drop_left]
theorem take_A {l : List UInt8} (hh : has 58 l = true) : l.take (cutA 58 l).length = cutA 58 l := by
  conv => lhs; arg 2; rw [← cut_app 58 l hh]
  rw [List.take_left]
def findZ (c : UInt8) (l : List UInt8) : Int := if has c l then ((cutA c l).length : Int) else -1
set_option maxRecDepth 100000 in
set_option maxHeartbeats 1000000 in
theorem rfind_any (s : ByteArray) (hs : s.size ≤ maxLen) (c : UInt8) (w : World) :
    Calls Tryz.prog 34 #[.string s, .int .u8 (c.toNat : Int)] w fun e w' => e = .returned (.int .i64 (findZ c s.data.toList)) ∧ w' = w := by
  unfold maxLen at hs
  have hc0 : 0 ≤ (c.toNat : Int) := by omega
  have hc1 : (c.toNat : Int) ≤ 255 := by have := c.toNat_lt; omega
  generalize hg : (c.toNat : Int) = C at *
  have HG : Hid ((c.toNat : Int) = C) := hg
  clear hg
  go_enter Tryz.func34, Tryz.ntmps34
  go_wp2
  go_loop [5] (fun i => ∃ k : Nat, k ≤ s.size ∧ i = .int .i64 k ∧ Hid (∀ j, j < k → (s.data.toList.getD j 0 != c) = true)) (fun i => s.size - (intOf i).toNat)
  case atStart => exact ⟨0, Nat.zero_le _, rfl, (fun j hj => by omega : ∀ j, j < 0 → _)⟩
  case round =>
    obtain ⟨k, hk, rfl, hall⟩ := hrel
    by_cases hlt : k < s.size
    · have hby : ((s[k].toNat : Nat) : Int) = byt s k := byt_at s k hlt
      obtain ⟨b0, b1⟩ := byt_bd s k
      by_cases he : byt s k = C
      · have HE : Hid (findZ c s.data.toList = (k : Int)) := by
          show _ = _
          unfold findZ
          have e0 : s.data.toList.getD k 0 = c := by
            have h := HG.out
            rw [← he] at h
            unfold byt at h
            exact UInt8.toNat_inj.1 (by omega)
          have hl : k < s.data.toList.length := by rw [size_list]; exact hlt
          have hm : has c s.data.toList = true := by
            unfold has
            rw [List.contains_iff_mem, ← e0, List.getD_eq_getElem?_getD, List.getElem?_eq_getElem hl]
            exact List.getElem_mem hl
          rw [if_pos hm]
          have : (cutA c s.data.toList).length = k := tw_stop (fun x => x != c) 0 _ k hl hall.out (by rw [e0]; simp)
          rw [this]
        have hq : ((s[k].toNat : Int) == C) = true := by rw [hby, he]; simp
        go_wp2
        go_ret
        exact ⟨ret_int HE.out.symm, rfl⟩
      · have HN : Hid (∀ j, j < k + 1 → (s.data.toList.getD j 0 != c) = true) := by
          intro j hj
          by_cases hjk : j = k
          · subst hjk
            rw [bne_iff_ne]
            intro e
            apply he
            unfold byt
            rw [e]
            exact HG.out
          · exact hall.out j (by omega)
        have hq : ((s[k].toNat : Int) == C) = false := by rw [hby]; simpa using he
        go_wp2
        go_round
        case rel => exact ⟨k + 1, by omega, by go_num, HN⟩
        case measure => simp [intOf]; omega
    · have HE : Hid (findZ c s.data.toList = -1) := by
        show _ = _
        unfold findZ
        rw [if_neg]
        unfold has
        intro h
        rw [List.contains_iff_mem] at h
        obtain ⟨j, hj, e⟩ := List.mem_iff_getElem.1 h
        have := hall.out j (by rw [size_list] at hj; omega)
        rw [List.getD_eq_getElem?_getD, List.getElem?_eq_getElem hj] at this
        simp [e] at this
      go_wp2
      go_ret
      exact ⟨ret_int HE.out.symm, rfl⟩
theorem lineV_mk {P : (List UInt8 × List UInt8) × Nat × Int} {a b : List UInt8} {x y : ByteArray} (hx : x = str a) (hy : y = str b) (h : P = ((a, b), 0, 0)) : Ending.returned (.tuple #[.agg #[.string x, .string y], .int .i64 0, .int .i64 0]) = .returned (lineV P) := by rw [h, hx, hy]; rfl
theorem lineV_mk2 {P : (List UInt8 × List UInt8) × Nat × Int} {k : Int} {z : Int} (m : Nat) (hm : k = (m : Int)) (h : P = (([], []), m, z)) : Ending.returned (.tuple #[.agg #[.string ⟨#[]⟩, .string ⟨#[]⟩], .int .i64 k, .int .i64 z]) = .returned (lineV P) := by rw [h, hm]; rfl
set_option maxRecDepth 100000 in
set_option maxHeartbeats 4000000 in
theorem rParseLine_any (s : ByteArray) (hs : s.size ≤ 4000000000) (w : World) :
    Calls Tryz.prog 17 #[.string s] w fun e w' => e = .returned (lineV (parseL s.data.toList)) ∧ Below w.heap.size w w' := by
  have hml : s.size ≤ maxLen := by unfold maxLen; omega
  obtain ⟨w2, hw2⟩ : ∃ w2, w2 = w.alloc (.cells #[.string ⟨#[]⟩, .string ⟨#[]⟩] 64) := ⟨_, rfl⟩
  have R1 : w2.heap[w.heap.size]? = some (.cells #[.string ⟨#[]⟩, .string ⟨#[]⟩] 64 (0, 0)) := by
    rw [hw2]; exact heap_alloc_new w _
  have hb2 : Below w.heap.size w w2 := by rw [hw2]; exact (Below.refl _ w).alloc (Nat.le_refl _) _
  have HB2 : Hid (Below w.heap.size w w2) := hb2
  have c0 := Lib.cell_of_heap R1 0
  have c1 := Lib.cell_of_heap R1 1
  have fc0 := Lib.frozen_of_heap R1 0
  have fc1 := Lib.frozen_of_heap R1 1
  simp at c0 c1
  clear R1 hb2
  have HF : Hid (∀ w, Calls Tryz.prog 34 #[.string s, .int .u8 58] w fun e w' => e = .returned (.int .i64 (findZ 58 s.data.toList)) ∧ w' = w) := fun w => rfind_any s hml 58 w
  have HM : Hid (s.size ≤ maxLen) := hml
  clear hml
  by_cases hz : s.size = 0
  · have hl : s.data.toList = [] := List.length_eq_zero_iff.1 ((size_list s).trans hz)
    have he := empty_of hz
    have HP : Hid (parseL s.data.toList = (([], []), 0, 62)) := by rw [hl]; rfl
    have hf : findZ 58 s.data.toList = -1 := by rw [hl]; rfl
    rw [hf] at HF
    clear hf
    go_enter Tryz.func17, Tryz.ntmps17
    go_wp2_with fail
    rw [← hw2]
    clear hw2
    refine (HF.out _).mono ?_
    rintro e w' ⟨rfl, rfl⟩
    go_wp2
    refine bodyPost_ret (v := .tuple #[.agg #[.string ⟨#[]⟩, .string ⟨#[]⟩], .int .i64 0, .int .i64 62]) (by simp [results, Tryz.results17, go_sem, c0, c1]) rfl ?_
    exact ⟨lineV_mk2 0 rfl HP.out, (Below.setCell (p := ⟨w.heap.size, 1, none⟩) (Below.setCell (p := ⟨w.heap.size, 0, none⟩) HB2.out (by simp) _) (by simp) _)⟩
  · have he := nonempty_of hz
    have hby0 : ((s[0].toNat : Nat) : Int) = byt s 0 := byt_at s 0 (by omega)
    have hpos : 0 < s.size := by omega
    obtain ⟨q0, q1⟩ := byt_bd s 0
    have hb0 : blank0 s.data.toList = blankI (byt s 0) := by
      obtain ⟨c, t, hl⟩ : ∃ c t, s.data.toList = c :: t := by
        cases e : s.data.toList with
        | nil => exact absurd e (list_ne hz)
        | cons c t => exact ⟨c, t, rfl⟩
      unfold byt
      rw [hl]
      rfl
    have HB0 : Hid (blank0 s.data.toList = blankI (byt s 0)) := hb0
    clear hb0
    cases hb : blankI (byt s 0) with
    | true =>
      have HP : Hid (parseL s.data.toList = (([], []), 0, 63)) := pl_A (HB0.out.trans hb)
      go_enter Tryz.func17, Tryz.ntmps17
      go_wp2_with fail
      rw [← hw2]
      clear hw2
      refine (rBlank_any _ (by omega) (by omega) _).mono ?_
      rintro e w' ⟨rfl, rfl⟩
      go_wp2
      refine bodyPost_ret (v := .tuple #[.agg #[.string ⟨#[]⟩, .string ⟨#[]⟩], .int .i64 0, .int .i64 63]) (by simp [results, Tryz.results17, go_sem, c0, c1]) rfl ?_
      exact ⟨lineV_mk2 0 rfl HP.out, (Below.setCell (p := ⟨w.heap.size, 1, none⟩) (Below.setCell (p := ⟨w.heap.size, 0, none⟩) HB2.out (by simp) _) (by simp) _)⟩
    | false =>
      have HB1 : Hid (blank0 s.data.toList = false) := HB0.out.trans hb
      cases hh : has 58 s.data.toList with
      | false =>
        have HP : Hid (parseL s.data.toList = (([], []), s.size, 62)) := by
          have h := pl_no HB1.out hh
          rw [size_list] at h
          exact h
        rw [show findZ 58 s.data.toList = -1 by unfold findZ; rw [hh]; rfl] at HF
        clear hh
        go_enter Tryz.func17, Tryz.ntmps17
        go_wp2_with fail
        rw [← hw2]
        clear hw2
        refine (rBlank_any _ (by omega) (by omega) _).mono ?_
        rintro e w' ⟨rfl, rfl⟩
        go_wp2_with fail
        refine (HF.out _).mono ?_
        rintro e w' ⟨rfl, rfl⟩
        go_wp2
        refine bodyPost_ret (v := .tuple #[.agg #[.string ⟨#[]⟩, .string ⟨#[]⟩], .int .i64 (s.size : Int), .int .i64 62]) (by simp [results, Tryz.results17, go_sem, c0, c1]) rfl ?_
        exact ⟨lineV_mk2 _ rfl HP.out, (Below.setCell (p := ⟨w.heap.size, 1, none⟩) (Below.setCell (p := ⟨w.heap.size, 0, none⟩) HB2.out (by simp) _) (by simp) _)⟩
      | true =>
        have HH : Hid (has 58 s.data.toList = true) := hh
        have hlen := len_AB hh
        rw [size_list] at hlen
        have hlen1 := Nat.le_of_eq hlen
        have hlen2 := Nat.le_of_eq hlen.symm
        clear hlen
        have HA : Hid (∀ j, j < (cutA 58 s.data.toList).length → byt s j = (((cutA 58 s.data.toList).getD j 0).toNat : Int)) := fun j hj => by unfold byt; rw [at_A HH.out j hj]
        have HR : Hid (∀ j, byt s ((cutA 58 s.data.toList).length + 1 + j) = (((cutB 58 s.data.toList).getD j 0).toNat : Int)) := fun j => by unfold byt; rw [at_B HH.out j]
        have HT : Hid (∀ w, Calls Tryz.prog 36 #[.string (s.extract ((cutA 58 s.data.toList).length + 1) s.size)] w fun e w' => e = .returned (.string (str (trim (cutB 58 s.data.toList)))) ∧ w' = w) := fun w => by
          have h := rTrim_any (s.extract ((cutA 58 s.data.toList).length + 1) s.size) (by have := HM.out; simp; omega) w
          rw [Lib.extract_to_end, drop_A HH.out] at h
          exact h
        have HN0 : Hid (s.extract 0 (cutA 58 s.data.toList).length = str (cutA 58 s.data.toList)) := by
          show _ = _
          rw [← str_self (s.extract 0 _), Lib.extract_data]
          simp only [Nat.sub_zero, List.drop_zero]
          rw [take_A HH.out]
        rw [show findZ 58 s.data.toList = ((cutA 58 s.data.toList).length : Int) by unfold findZ; rw [hh]; rfl] at HF
        have D0 : (cutA 58 s.data.toList).length = 0 → Hid (parseL s.data.toList = (([], []), 0, 60)) := fun h => pl_D0 HB1.out HH.out h
        have D1 : Hid (∀ k, k < (cutA 58 s.data.toList).length → (∀ j, j < k → tokI (byt s j) = true) → k ≤ 128 → (k = 128 ∨ tokI (byt s k) = false) → parseL s.data.toList = (([], []), k, 60)) := fun k hk ha hk2 hst =>
          pl_D1 HB1.out HH.out k hk (fun j hj => by have := ha j hj; rw [HA.out j (by omega)] at this; exact this) hk2 (hst.imp id (fun h => by rw [HA.out k hk] at h; exact h))
        have N1 : Hid ((cutA 58 s.data.toList).length ≠ 0 → (cutA 58 s.data.toList).length ≤ 128 → (∀ j, j < (cutA 58 s.data.toList).length → tokI (byt s j) = true) → isName (cutA 58 s.data.toList) = true) := fun h0 h1 ha =>
          name_of h0 h1 (fun j hj => by have := ha j hj; rw [HA.out j hj] at this; exact this)
        have E1 : Hid (isName (cutA 58 s.data.toList) = true → ∀ k, k < (cutB 58 s.data.toList).length → (∀ j, j < k → fieldI (byt s ((cutA 58 s.data.toList).length + 1 + j)) = true) → fieldI (byt s ((cutA 58 s.data.toList).length + 1 + k)) = false → parseL s.data.toList = (([], []), (cutA 58 s.data.toList).length + 1 + k, 61)) := fun hn k hk ha hst =>
          pl_E1 HB1.out HH.out hn k hk (fun j hj => by have := ha j hj; rw [HR.out j] at this; exact this) (by rw [HR.out k] at hst; exact hst)
        have N2 : Hid ((∀ j, j < (cutB 58 s.data.toList).length → fieldI (byt s ((cutA 58 s.data.toList).length + 1 + j)) = true) → isFld (cutB 58 s.data.toList) = true) := fun ha =>
          all_of fieldB 0 _ (fun j hj => by have := ha j hj; rw [HR.out j] at this; exact this)
        have E2 : Hid (isName (cutA 58 s.data.toList) = true → isFld (cutB 58 s.data.toList) = true → ¬ (trim (cutB 58 s.data.toList)).length ≤ 8192 → ∀ k, lead (cutB 58 s.data.toList) = k → parseL s.data.toList = (([], []), (cutA 58 s.data.toList).length + 1 + (k + 8192), 61)) := fun hn hf h8 k hk =>
          pl_E2 HB1.out HH.out hn hf h8 k hk
        have F1 : Hid (isName (cutA 58 s.data.toList) = true → isFld (cutB 58 s.data.toList) = true → (trim (cutB 58 s.data.toList)).length ≤ 8192 → parseL s.data.toList = ((cutA 58 s.data.toList, trim (cutB 58 s.data.toList)), 0, 0)) := fun hn hf h8 =>
          pl_F HB1.out HH.out hn hf h8
        have LD : Hid (∀ k, k < (cutB 58 s.data.toList).length → (∀ j, j < k → blankI (byt s ((cutA 58 s.data.toList).length + 1 + j)) = true) → blankI (byt s ((cutA 58 s.data.toList).length + 1 + k)) = false → lead (cutB 58 s.data.toList) = k) := fun k hk ha hst =>
          tw_stop blankB 0 _ k hk (fun j hj => by have := ha j hj; rw [HR.out j] at this; exact this) (by rw [HR.out k] at hst; exact hst)
        have LG : Hid (∀ k, k ≤ (cutB 58 s.data.toList).length → (∀ j, j < k → blankI (byt s ((cutA 58 s.data.toList).length + 1 + j)) = true) → k ≤ lead (cutB 58 s.data.toList)) := fun k hk ha =>
          fnot_ge blankB _ k hk (fun j hj => by have := ha j hj; rw [HR.out j] at this; exact this)
        have LL := lead_le (cutB 58 s.data.toList)
        have TS : Hid ((str (trim (cutB 58 s.data.toList))).size = (trim (cutB 58 s.data.toList)).length) := str_size _
        clear hh HA HR
        generalize hP : parseL s.data.toList = P at *
        generalize hNm : cutA 58 s.data.toList = A at *
        generalize cutB 58 s.data.toList = R at *
        generalize A.length = N at *
        generalize trim R = TR at *
        generalize lead R = LR at *
        generalize hv : str TR = v at *
        have HV : Hid (v = str TR) := hv.symm
        have HPP : Hid (parseL s.data.toList = P) := hP
        generalize R.length = RL at *
        clear hv hP hNm
        by_cases hN : N = 0
        · have HP := D0 hN
          have hq : ((N : Int) == 0) = true := by simp [hN]
          clear D0 D1 E1 E2 N1 N2 F1 LD LG HT
          go_enter Tryz.func17, Tryz.ntmps17
          go_wp2_with fail
          rw [← hw2]
          clear hw2
          refine (rBlank_any _ (by omega) (by omega) _).mono ?_
          rintro e w' ⟨rfl, rfl⟩
          go_wp2_with fail
          refine (HF.out _).mono ?_
          rintro e w' ⟨rfl, rfl⟩
          go_wp2
          refine bodyPost_ret (v := .tuple #[.agg #[.string ⟨#[]⟩, .string ⟨#[]⟩], .int .i64 0, .int .i64 60]) (by simp [results, Tryz.results17, go_sem, c0, c1]) rfl ?_
          exact ⟨lineV_mk2 0 rfl HP.out, (Below.setCell (p := ⟨w.heap.size, 1, none⟩) (Below.setCell (p := ⟨w.heap.size, 0, none⟩) HB2.out (by simp) _) (by simp) _)⟩
        · have hq : ((N : Int) == 0) = false := by simp; omega
          clear D0
          go_enter Tryz.func17, Tryz.ntmps17
          go_wp2_with fail
          rw [← hw2]
          clear hw2
          refine (rBlank_any _ (by omega) (by omega) _).mono ?_
          rintro e w' ⟨rfl, rfl⟩
          go_wp2_with fail
          refine (HF.out _).mono ?_
          rintro e w' ⟨rfl, rfl⟩
          go_wp2
          go_loop [6] (fun i => ∃ k : Nat, k ≤ N ∧ k ≤ 128 ∧ i = .int .i64 k ∧ Hid (∀ j, j < k → tokI (byt s j) = true)) (fun i => N - (intOf i).toNat)
          case atStart => exact ⟨0, Nat.zero_le _, by omega, rfl, (fun j hj => by omega : ∀ j, j < 0 → _)⟩
          case round =>
            obtain ⟨k, hk, hk2, rfl, hall⟩ := hrel
            by_cases hlt : k < N
            · by_cases h128 : k = 128
              · have HP : Hid (P = (([], []), k, 60)) := D1.out k hlt hall.out hk2 (.inl h128)
                have hq8 : ((k : Int) == 128) = true := by simp; omega
                clear D1 E1 E2 N1 N2 F1 LD LG HT h128
                go_wp2
                refine bodyPost_ret (v := .tuple #[.agg #[.string ⟨#[]⟩, .string ⟨#[]⟩], .int .i64 (k : Int), .int .i64 60]) (by simp [results, Tryz.results17, go_sem, c0, c1]) rfl ?_
                exact ⟨lineV_mk2 _ rfl HP.out, (Below.setCell (p := ⟨w.heap.size, 1, none⟩) (Below.setCell (p := ⟨w.heap.size, 0, none⟩) HB2.out (by simp) _) (by simp) _)⟩
              · have hq8 : ((k : Int) == 128) = false := by simp; omega
                have hks : k < s.size := by omega
                have hby : ((s[k].toNat : Nat) : Int) = byt s k := byt_at s k hks
                obtain ⟨b0, b1⟩ := byt_bd s k
                cases ht : tokI (byt s k) with
                | true =>
                  have HN : Hid (∀ j, j < k + 1 → tokI (byt s j) = true) := by
                    intro j hj
                    by_cases hjk : j = k
                    · subst hjk; exact ht
                    · exact hall.out j (by omega)
                  go_wp2_with (go_at_call 35; refine (rSign_any _ (by omega) (by omega) _).mono ?_; rintro e w' ⟨rfl, rfl⟩)
                  go_round
                  case rel => exact ⟨k + 1, by omega, by omega, by go_num, HN⟩
                  case measure => simp [intOf]; omega
                | false =>
                  have HP : Hid (P = (([], []), k, 60)) := D1.out k hlt hall.out hk2 (.inr ht)
                  go_wp2_with (go_at_call 35; refine (rSign_any _ (by omega) (by omega) _).mono ?_; rintro e w' ⟨rfl, rfl⟩)
                  refine bodyPost_ret (v := .tuple #[.agg #[.string ⟨#[]⟩, .string ⟨#[]⟩], .int .i64 (k : Int), .int .i64 60]) (by simp [results, Tryz.results17, go_sem, c0, c1]) rfl ?_
                  exact ⟨lineV_mk2 _ rfl HP.out, (Below.setCell (p := ⟨w.heap.size, 1, none⟩) (Below.setCell (p := ⟨w.heap.size, 0, none⟩) HB2.out (by simp) _) (by simp) _)⟩
            · obtain rfl : k = N := by omega
              have HNm : Hid (isName A = true) := N1.out hN hk2 hall.out
              clear N1 D1 hall hq
              go_wp2
              go_loop [7] (fun i => ∃ m : Nat, k + 1 ≤ m ∧ m ≤ s.size ∧ i = .int .i64 m ∧ Hid (∀ j, j < m - (k + 1) → fieldI (byt s (k + 1 + j)) = true)) (fun i => s.size - (intOf i).toNat)
              case atStart => exact ⟨k + 1, Nat.le_refl _, by omega, by go_num, (fun j hj => by omega : ∀ j, j < k + 1 - (k + 1) → _)⟩
              case round =>
                obtain ⟨m, hm0, hm, rfl, hall⟩ := hrel
                by_cases hlt2 : m < s.size
                · have hby : ((s[m].toNat : Nat) : Int) = byt s m := byt_at s m hlt2
                  obtain ⟨b0, b1⟩ := byt_bd s m
                  have hmm : k + 1 + (m - (k + 1)) = m := by omega
                  cases ht : fieldI (byt s m) with
                  | true =>
                    have HN : Hid (∀ j, j < m + 1 - (k + 1) → fieldI (byt s (k + 1 + j)) = true) := by
                      intro j hj
                      by_cases hjk : j = m - (k + 1)
                      · subst hjk; rw [hmm]; exact ht
                      · exact hall.out j (by omega)
                    clear hmm
                    go_wp2_with (go_at_call 28; refine (rInside_any _ (by omega) (by omega) _).mono ?_; rintro e w' ⟨rfl, rfl⟩)
                    go_round
                    case rel => exact ⟨m + 1, by omega, by omega, by go_num, HN⟩
                    case measure => simp [intOf]; omega
                  | false =>
                    have HP : Hid (P = (([], []), m, 61)) := by
                      have h := E1.out HNm.out (m - (k + 1)) (by omega) hall.out (by rw [hmm]; exact ht)
                      rw [hmm] at h
                      exact h
                    clear hmm
                    go_wp2_with (go_at_call 28; refine (rInside_any _ (by omega) (by omega) _).mono ?_; rintro e w' ⟨rfl, rfl⟩)
                    refine bodyPost_ret (v := .tuple #[.agg #[.string ⟨#[]⟩, .string ⟨#[]⟩], .int .i64 (m : Int), .int .i64 61]) (by simp [results, Tryz.results17, go_sem, c0, c1]) rfl ?_
                    exact ⟨lineV_mk2 _ rfl HP.out, (Below.setCell (p := ⟨w.heap.size, 1, none⟩) (Below.setCell (p := ⟨w.heap.size, 0, none⟩) HB2.out (by simp) _) (by simp) _)⟩
                · have HFl : Hid (isFld R = true) := N2.out (fun j hj => hall.out j (by omega))
                  clear N2 E1 hall
                  by_cases h8 : TR.length ≤ 8192
                  · have HP : Hid (P = ((A, TR), 0, 0)) := F1.out HNm.out HFl.out h8
                    have hv8 : v.size ≤ 8192 := by have := TS.out; omega
                    go_wp2_with fail
                    refine (HT.out _).mono ?_
                    rintro e w' ⟨rfl, rfl⟩
                    go_wp2
                    refine bodyPost_ret (v := .tuple #[.agg #[.string (s.extract 0 k), .string v], .int .i64 0, .int .i64 0]) (by simp [results, Tryz.results17, go_sem, c0, c1]) rfl ?_
                    exact ⟨lineV_mk HN0.out HV.out HP.out, (Below.setCell (p := ⟨w.heap.size, 1, none⟩) (Below.setCell (p := ⟨w.heap.size, 0, none⟩) HB2.out (by simp) _) (by simp) _)⟩
                  · have hv8 : 8192 < v.size := by have := TS.out; omega
                    have hd8 : decide ((8192 : Int) < (v.size : Int)) = true := decide_eq_true (by omega)
                    have hd0 : decide ((k : Int) < 0) = false := decide_eq_false (by omega)
                    have hdm : decide ((m : Int) < (s.size : Int)) = false := decide_eq_false (by omega)
                    go_wp2_with fail
                    refine (HT.out _).mono ?_
                    rintro e w' ⟨rfl, rfl⟩
                    go_wp2
                    go_loop [9] (fun i => ∃ q : Nat, k + 1 ≤ q ∧ q ≤ k + 1 + LR ∧ i = .int .i64 q ∧ Hid (∀ j, j < q - (k + 1) → blankI (byt s (k + 1 + j)) = true)) (fun i => s.size - (intOf i).toNat)
                    case atStart => exact ⟨k + 1, Nat.le_refl _, by omega, by go_num, (fun j hj => by omega : ∀ j, j < k + 1 - (k + 1) → _)⟩
                    case round =>
                      obtain ⟨q, hq0, hq1, rfl, hall⟩ := hrel
                      have hqs : q < s.size := by omega
                      have hby : ((s[q].toNat : Nat) : Int) = byt s q := byt_at s q hqs
                      obtain ⟨b0, b1⟩ := byt_bd s q
                      have hmm : k + 1 + (q - (k + 1)) = q := by omega
                      cases ht : blankI (byt s q) with
                      | true =>
                        have HN : Hid (∀ j, j < q + 1 - (k + 1) → blankI (byt s (k + 1 + j)) = true) := by
                          intro j hj
                          by_cases hjk : j = q - (k + 1)
                          · subst hjk; rw [hmm]; exact ht
                          · exact hall.out j (by omega)
                        have hq2 := LG.out (q + 1 - (k + 1)) (by omega) HN.out
                        clear hmm
                        go_wp2_with (go_at_call 33; refine (rBlank_any _ (by omega) (by omega) _).mono ?_; rintro e w' ⟨rfl, rfl⟩)
                        go_round
                        case rel => exact ⟨q + 1, by omega, by omega, by go_num, HN⟩
                        case measure => simp [intOf]; omega
                      | false =>
                        have HP : Hid (P = (([], []), q + 8192, 61)) := by
                          have h := E2.out HNm.out HFl.out h8 (q - (k + 1)) (LD.out (q - (k + 1)) (by omega) hall.out (by rw [hmm]; exact ht))
                          rw [show k + 1 + (q - (k + 1) + 8192) = q + 8192 by omega] at h
                          exact h
                        clear hmm
                        go_wp2_with (go_at_call 33; refine (rBlank_any _ (by omega) (by omega) _).mono ?_; rintro e w' ⟨rfl, rfl⟩)
                        refine bodyPost_ret (v := .tuple #[.agg #[.string ⟨#[]⟩, .string ⟨#[]⟩], .int .i64 ((q : Int) + 8192), .int .i64 61]) (by simp [results, Tryz.results17, go_sem, c0, c1]) rfl ?_
                        exact ⟨lineV_mk2 _ (by omega) HP.out, (Below.setCell (p := ⟨w.heap.size, 1, none⟩) (Below.setCell (p := ⟨w.heap.size, 0, none⟩) HB2.out (by simp) _) (by simp) _)⟩
end Fd
end Go.Proofs.YtdcfhnbagldilaaGreatDoor
set_option linter.unusedVariables false
set_option linter.unusedSimpArgs false
namespace Go.Proofs.YtdcfhnbagldilaaGreatDoor
open Go.RowKit Go.Shelf
namespace Fd
open Oc Tg
def parseT : Nat → List UInt8 → Nat → List Fl → List Fl × Nat × Int
  | 0, _, _, _ => ([], 0, 0)
  | f + 1, l, at_, acc =>
    if l = [] then (acc, 0, 0)
    else if Lib.index l [13, 10] < 0 then ([], at_ + l.length, 64)
    else if acc.length = 100 then ([], at_, 65)
    else if (parseL (l.take (Lib.index l [13, 10]).toNat)).2.2 = 0 then parseT f (l.drop ((Lib.index l [13, 10]).toNat + 2)) (at_ + ((Lib.index l [13, 10]).toNat + 2)) (acc ++ [(parseL (l.take (Lib.index l [13, 10]).toNat)).1])
    else ([], at_ + (parseL (l.take (Lib.index l [13, 10]).toNat)).2.1, (parseL (l.take (Lib.index l [13, 10]).toNat)).2.2)
theorem parseT_succ (f : Nat) (l : List UInt8) (at_ : Nat) (acc : List Fl) : parseT (f + 1) l at_ acc =
    if l = [] then (acc, 0, 0)
    else if Lib.index l [13, 10] < 0 then ([], at_ + l.length, 64)
    else if acc.length = 100 then ([], at_, 65)
    else if (parseL (l.take (Lib.index l [13, 10]).toNat)).2.2 = 0 then parseT f (l.drop ((Lib.index l [13, 10]).toNat + 2)) (at_ + ((Lib.index l [13, 10]).toNat + 2)) (acc ++ [(parseL (l.take (Lib.index l [13, 10]).toNat)).1])
    else ([], at_ + (parseL (l.take (Lib.index l [13, 10]).toNat)).2.1, (parseL (l.take (Lib.index l [13, 10]).toNat)).2.2) := rfl
def parseText (l : List UInt8) : List Fl × Nat × Int := parseT (l.length + 1) l 0 []
theorem parseL_le (l : List UInt8) : (parseL l).2.1 ≤ l.length + 8192 := by
  unfold parseL
  split
  · simp
  · split
    · next h =>
      have hl := len_AB h
      have h1 := lead_le (cutB 58 l)
      have h2 := fnot_le fieldB (cutB 58 l)
      have h3 := fnot_le tokB (cutA 58 l)
      split
      · split
        · split
          · simp
          · dsimp only; omega
        · dsimp only; omega
      · dsimp only; omega
    · dsimp only; omega
theorem index2_room (l : List UInt8) (h : 0 ≤ Lib.index l [13, 10]) : (Lib.index l [13, 10]).toNat + 2 ≤ l.length := by
  have := Lib.index_room l [13, 10] h
  simp at this
  omega
structure Mid (l : List UInt8) (at_ : Nat) (acc : List Fl) : Prop where
  le : at_ ≤ l.length
  few : acc.length ≤ 100
  ex : ∃ f, l.length - at_ < f ∧ parseText l = parseT f (l.drop at_) at_ acc
theorem Mid.start (l : List UInt8) : Mid l 0 [] := ⟨Nat.zero_le _, by simp, l.length + 1, by omega, rfl⟩
theorem drop_ne {l : List UInt8} {k : Nat} (h : k < l.length) : l.drop k ≠ [] := by
  intro e
  have := congrArg List.length e
  simp at this
  omega
theorem Mid.many {l : List UInt8} {at_ : Nat} {acc : List Fl} (h : Mid l at_ acc) (he : at_ < l.length) (hi : ¬ Lib.index (l.drop at_) [13, 10] < 0) (ha : acc.length = 100) : parseText l = ([], at_, 65) := by
  obtain ⟨f, hf, e⟩ := h.ex
  cases f with
  | zero => omega
  | succ f =>
    rw [e, parseT_succ, if_neg (drop_ne he), if_neg hi, if_pos ha]
theorem Mid.bad {l : List UInt8} {at_ : Nat} {acc : List Fl} (h : Mid l at_ acc) (he : at_ < l.length) (hi : ¬ Lib.index (l.drop at_) [13, 10] < 0) (ha : ¬ acc.length = 100) {x : (List UInt8 × List UInt8) × Nat × Int}
    (hx : parseL ((l.drop at_).take (Lib.index (l.drop at_) [13, 10]).toNat) = x) (hz : x.2.2 ≠ 0) : parseText l = ([], at_ + x.2.1, x.2.2) := by
  obtain ⟨f, hf, e⟩ := h.ex
  cases f with
  | zero => omega
  | succ f =>
    rw [e, parseT_succ, if_neg (drop_ne he), if_neg hi, if_neg ha, hx, if_neg hz]
theorem Mid.next {l : List UInt8} {at_ : Nat} {acc : List Fl} (h : Mid l at_ acc) (he : at_ < l.length) (hi : ¬ Lib.index (l.drop at_) [13, 10] < 0) (ha : ¬ acc.length = 100) {x : (List UInt8 × List UInt8) × Nat × Int}
    (hx : parseL ((l.drop at_).take (Lib.index (l.drop at_) [13, 10]).toNat) = x) (hz : x.2.2 = 0) : Mid l (at_ + ((Lib.index (l.drop at_) [13, 10]).toNat + 2)) (acc ++ [x.1]) := by
  obtain ⟨f, hf, e⟩ := h.ex
  have hr := index2_room (l.drop at_) (by omega)
  rw [List.length_drop] at hr
  refine ⟨by omega, by have := h.few; simp; omega, ?_⟩
  cases f with
  | zero => omega
  | succ f =>
    refine ⟨f, by omega, ?_⟩
    rw [e, parseT_succ, if_neg (drop_ne he), if_neg hi, if_neg ha, hx, if_pos hz, List.drop_drop]
def endZ (l : List UInt8) (at_ : Nat) : Int := if Lib.index (l.drop at_) [13, 10] < 0 then -1 else (at_ : Int) + Lib.index (l.drop at_) [13, 10]
theorem getD_drop (l : List UInt8) (a i : Nat) : (l.drop a).getD i 0 = l.getD (a + i) 0 := by
  rw [List.getD_eq_getElem?_getD, List.getD_eq_getElem?_getD, List.getElem?_drop]
end Fd
end Go.Proofs.YtdcfhnbagldilaaGreatDoor
set_option linter.unusedVariables false
set_option linter.unusedSimpArgs false
namespace Go.Proofs.YtdcfhnbagldilaaGreatDoor
open Go.RowKit Go.Shelf
namespace Fd
open Oc Tg
theorem OwnF.form {T B : Nat} {v : Value} {t : List Fl} {w : World} (h : OwnF T B v t w) : ∃ a c, v = .slice a t.length c := by
  rcases h.2 with ⟨rfl, h0⟩ | ⟨g, cap, cur, rfl, _⟩
  · exact ⟨none, 0, by rw [h0]⟩
  · exact ⟨_, _, rfl⟩
end Fd
end Go.Proofs.YtdcfhnbagldilaaGreatDoor
set_option linter.unusedVariables false
set_option linter.unusedSimpArgs false
namespace Go.Proofs.YtdcfhnbagldilaaGreatDoor
open Go.RowKit Go.Shelf Go.ChangeShapes Go.WideShapes
namespace Fd
open Oc Tg
theorem laidOutT : laidOutB Tryz.prog = true := by kernel_rfl
def szF (p : Fl) : Nat := p.1.length + p.2.length + 3
def sumF (t : List Fl) : Nat := (t.map szF).sum
def bulkfields (t : List Fl) : Nat := sumF t
def NilF (v : Value) (t : List Fl) : Prop := t = [] → v = .slice none 0 0 ∨ ∃ g c, v = .slice (some g) 0 c
def InF (v : Value) (t : List Fl) (w : World) : Prop := RdF v t w ∧ NilF v t
theorem InF.below {v : Value} {t : List Fl} {w w' : World} (h : InF v t w) (b : Below w.heap.size w w') : InF v t w' := ⟨h.1.below b, h.2⟩
theorem OwnF.inF {T B : Nat} {v : Value} {t : List Fl} {w : World} (h : OwnF T B v t w) : InF v t w := by
  refine ⟨h.rd, fun e => ?_⟩
  subst e
  rcases h.2 with ⟨rfl, _⟩ | ⟨g, cap, cur, rfl, _⟩
  · exact .inl rfl
  · exact .inr ⟨_, _, rfl⟩
theorem len_sumF : ∀ t : List Fl, t.length * 3 ≤ sumF t
  | [] => Nat.zero_le _
  | p :: t => by
    have := len_sumF t
    simp only [sumF, List.map_cons, List.sum_cons, List.length_cons, szF] at this ⊢
    omega
theorem each_sumF : ∀ t : List Fl, Each (sumF t) t
  | [] => fun p hp => by cases hp
  | q :: t => fun p hp => by
    simp only [sumF, List.map_cons, List.sum_cons, szF]
    rcases List.mem_cons.1 hp with rfl | hp
    · omega
    · have := each_sumF t p hp
      simp only [sumF, szF] at this
      omega
theorem Each.mono {M N : Nat} {t : List Fl} (h : Each M t) (hMN : M ≤ N) : Each N t := fun p hp => ⟨Nat.le_trans (h p hp).1 hMN, Nat.le_trans (h p hp).2 hMN⟩
def flOf {H : Type} (y : DataW H × List MemPlace) : Fl := match y.1 with | .agg [.lit (.string a), .lit (.string b)] => (a, b) | _ => ([], [])
theorem addr_add (g o k : Nat) : Addr.add ⟨g, o, none⟩ k = ⟨g, o + k, none⟩ := by unfold Addr.add; split <;> simp_all
theorem wantedF {P : Program} {ops : Array Oper} {rest : List Oper} {o : Oper} {a : Act} {w : World} {Q : Exit → Act → World → Prop} (hw : Region.wanted o (yielded ops a.tmps) = true)
    (h : o.wp P a w (wpList P ops Q rest) Q) : wpList P ops Q (o :: rest) a w := by
  rw [wpList, if_pos hw]
  exact .inl h
theorem encF_get (u : List Fl) (j : Nat) (z : Value) (h : (encF u)[j]? = some z) : j / 2 < u.length ∧ z = if j % 2 = 0 then .string (str (nth u (j / 2)).1) else .string (str (nth u (j / 2)).2) := by
  have hl := (List.getElem?_eq_some_iff.1 h).1
  rw [encF_len] at hl
  have hq : j / 2 < u.length := by omega
  refine ⟨hq, ?_⟩
  obtain ⟨e0, e1⟩ := encF_at u (j / 2) hq
  by_cases hm : j % 2 = 0
  · rw [if_pos hm]
    rw [show j / 2 * 2 = j by omega, h] at e0
    exact Option.some.inj e0
  · rw [if_neg hm]
    rw [show j / 2 * 2 + 1 = j by omega, h] at e1
    exact Option.some.inj e1
theorem wp_appFs {ops : Array Oper} {rest : List Oper} {o : Oper} {a : Act} {W : World} {Q : Exit → Act → World → Prop} (T S : Nat) (hinfo : (Tryz.prog.info? T).map (fun i => (i.zero, i.size, i.bytes)) = some (some (.agg #[.string ⟨#[]⟩, .string ⟨#[]⟩]), 2, 32))
    (hund : Tryz.prog.underlying S = some (.slice T)) (hw : Region.wanted o (yielded ops a.tmps) = true) (s x : Operand)
    (ho : o.op = .call { callee := .builtin .append, args := #[s, x], argTypes := #[S, S] }) (B : Nat) (v y : Value) (t u : List Fl)
    (hs : a.eval s = v) (hown : OwnF T B v t W) (hx : a.eval x = y) (hy : InF y u W) (hlen : t.length + u.length ≤ 2147483648) (hB : B ≤ W.heap.size)
    (h : ∀ v' w', OwnF T B v' (t ++ u) w' → Below B W w' → wpList Tryz.prog ops Q rest (a.put o.dst v') w') : wpList Tryz.prog ops Q (o :: rest) a W := by
  obtain ⟨i0, hi, hz0, hz1, hz2⟩ := info_parts hinfo
  refine wantedF hw ?_
  have own' : ∀ (ad : Addr) (c : Nat), y = .slice (some ad) u.length c → (∀ j z, (encF u)[j]? = some z → W.cell? (ad.add j) = some z) → o.wp Tryz.prog a W (wpList Tryz.prog ops Q rest) Q := by
    intro ad c ey hcell
    refine wp_append_own W s x S ho B T i0 (.agg #[.string ⟨#[]⟩, .string ⟨#[]⟩]) 2 32 hund hi hz0 hz1 hz2 rfl (by decide) v t.length _ hs hown ad u.length c (encF u) (hx.trans ey) (encF_len u) hcell ?_ ?_ ?_ hB ?_
    · intro z hz
      obtain ⟨j, hj⟩ := List.getElem?_of_mem hz
      obtain ⟨_, e⟩ := encF_get u j z hj
      rw [e]
      split <;> rfl
    · unfold maxLen; omega
    · omega
    · intro v' w' h1 h2 _
      refine h v' w' ?_ ((Below.refl B W).grown h2 hB (fun k hk => (World.ownsRow.lt hown k hk).1))
      unfold OwnF
      rw [List.length_append, show encF (t ++ u) = encF t ++ encF u by unfold encF; rw [List.flatMap_append]]
      exact h1
  obtain ⟨⟨a2, c2, rfl, hr⟩, hnil⟩ := hy
  by_cases hu : u = []
  · subst hu
    rcases hnil rfl with e | ⟨g, c, e⟩
    · have hrun := run_append_owned_none (P := Tryz.prog) (w := W) B S o.type T i0 2 hund hi v t.length _ hown
      have hx' : a.eval x = .slice none 0 0 := hx.trans e
      unfold Oper.wp
      simp [execOp, ho, resolve, invoke, builtin, hs, hx', hrun, Result.andThen]
      have := h v W (by simpa using hown) (Below.refl _ _)
      exact this
    · exact own' g c e (fun j z hj => by simp [encF] at hj)
  · rcases hr with hr | ⟨g, o', rfl, hc, hcell⟩
    · exact absurd hr hu
    · refine own' ⟨g, o', none⟩ c2 rfl (fun j z hj => ?_)
      rw [addr_add]
      obtain ⟨hq, e⟩ := encF_get u j z hj
      obtain ⟨h0, h1⟩ := hcell (j / 2) hq
      rw [e]
      by_cases hm : j % 2 = 0
      · rw [if_pos hm]
        rw [show o' + j / 2 * 2 = o' + j by omega] at h0
        exact h0
      · rw [if_neg hm]
        rw [show o' + j / 2 * 2 + 1 = o' + j by omega] at h1
        exact h1
end Fd
end Go.Proofs.YtdcfhnbagldilaaGreatDoor
