/- Several texts as one. -/
import Derived.Test.YtnhkkemphjblhaaDoorMgK
import Derived.Test.YtnhkkemphjblhaaDoorMgO
import Derived.BigQuiet
import Derived.Deep.QuietTactic
import Derived.Laws.EntriesVeiled
import Derived.Deep.CutBlock
import Derived.Deep.DeepCutAuto
import Derived.Deep.Cut
import Derived.Deep.CutRange
import Derived.Test.YtnhkkemphjblhaaDoorMgM
/-
  Whether a media type is met by a range: alikeTo, paramsMeet, partMeets, Meets.
-/
set_option linter.unusedVariables false
set_option linter.unusedSimpArgs false
namespace Go.Proofs.YtnhkkemphjblhaaDoor
open Go.RowKit Go.Shelf
namespace Ac
open Oc Tg

/-- Is one parameter alike to another: the name without regard to case, the value as it is? -/
def alP (p q : Prm) : Bool := decide (lowS (str p.1) = lowS (str q.1)) && decide (p.2.1 = q.2.1)
/-- A parameter in a block. -/
def ParB (w : World) (B : Nat) (p : Prm) : Prop := w.cell? ⟨B, 0, none⟩ = some (.string (str p.1)) ∧ w.cell? ⟨B, 1, none⟩ = some (.string (str p.2.1))
theorem ParB.below {w w' : World} {B : Nat} {p : Prm} (h : ParB w B p) (b : Below w.heap.size w w') : ParB w' B p :=
  ⟨(b.cell (World.block_lt_of_cell? _ _ h.1)).trans h.1, (b.cell (World.block_lt_of_cell? _ _ h.2)).trans h.2⟩

set_option maxRecDepth 100000 in
set_option maxHeartbeats 1000000 in
theorem alP_any (p q : Prm) (B : Nat) (hp : p.1.length ≤ maxLen) (hq : q.1.length ≤ maxLen) (w : World) (hB : ParB w B p) :
    Calls Tryd.prog 77 #[.agg #[.string (str q.1), .string (str q.2.1), .bool q.2.2], .pointer (some ⟨B, 0, none⟩)] w fun e w' => e = .returned (.bool (alP p q)) ∧ Below w.heap.size w w' := by
  obtain ⟨w2, hw2⟩ : ∃ w2, w2 = w.alloc (.cells #[.string (str q.1), .string (str q.2.1), .bool q.2.2] 64) := ⟨_, rfl⟩
  have hb2 : Below w.heap.size w w2 := by rw [hw2]; exact (Below.refl _ w).alloc (Nat.le_refl _) _
  have R1 : w2.heap[w.heap.size]? = some (.cells #[.string (str q.1), .string (str q.2.1), .bool q.2.2] 64 (0, 0)) := by rw [hw2]; exact heap_alloc_new w _
  obtain ⟨d0, d1⟩ := hB.below hb2
  have b0 := hB.1
  have hBlt : B < w.heap.size := World.block_lt_of_cell? _ _ b0
  have c0 := Lib.cell_of_heap R1 0
  have c1 := Lib.cell_of_heap R1 1
  simp only [List.getElem?_toArray, List.getElem?_cons_zero, List.getElem?_cons_succ] at c0 c1
  have HC : Hid (∀ W, Calls Tryd.prog 51 #[.string (str p.1), .string (str q.1)] W fun e w' => e = .returned (.bool (decide (lowS (str p.1) = lowS (str q.1)))) ∧ Below (World.heap W).size W w') := fun W => Same_any _ _ (by rw [str_size]; exact hp) (by rw [str_size]; exact hq) W
  have HV : Hid (alP p q = (decide (lowS (str p.1) = lowS (str q.1)) && ((str p.2.1).toList == (str q.2.1).toList))) := (by rw [veq]; rfl : alP p q = _)
  have HB2 : Hid (Below w.heap.size w w2) := hb2
  have HX : Hid (∀ W, Below w2.heap.size w2 W → W.cell? ⟨B, 1, none⟩ = some (.string (str p.2.1)) ∧ W.cell? ⟨w.heap.size, 1, none⟩ = some (.string (str q.2.1))) := fun W b => ⟨(b.cell (World.block_lt_of_cell? _ _ d1)).trans d1, (b.cell (World.block_lt_of_cell? _ _ c1)).trans c1⟩
  clear R1 hb2 hB d1 c1
  generalize alP p q = V at *
  generalize decide (lowS (str p.1) = lowS (str q.1)) = A at *
  generalize str p.1 = P1 at *
  generalize str p.2.1 = P2 at *
  generalize str q.1 = Q1 at *
  generalize str q.2.1 = Q2 at *
  generalize q.2.2 = Q3 at *
  clear d0 c0
  subst hw2
  go_enter Tryd.func77, Tryd.ntmps77
  go_wp2_with fail
  refine (HC.out _).mono ?_
  rintro e w3 ⟨rfl, hb3⟩
  obtain ⟨x1, x2⟩ := HX.out _ hb3
  have HB3 : Hid (Below w.heap.size w w3) := bel_trans HB2.out hb3
  clear hb3 b0
  cases A
  all_goals
    go_wp2
    go_ret
    exact ⟨by rw [HV.out]; rfl, HB3.out⟩

set_option maxRecDepth 100000 in
theorem alikeTo_any (p : Prm) (w : World) :
    Calls Tryd.prog 52 #[.agg #[.string (str p.1), .string (str p.2.1), .bool p.2.2]] w fun e w' => e = .returned (.func (.func 77) #[] #[.pointer (some ⟨w.heap.size, 0, none⟩)]) ∧ ParB w' w.heap.size p ∧ Below w.heap.size w w' := by
  have R1 := heap_alloc_new w (.cells #[.string (str p.1), .string (str p.2.1), .bool p.2.2] 64)
  have c0 := Lib.cell_of_heap R1 0
  have c1 := Lib.cell_of_heap R1 1
  simp only [List.getElem?_toArray, List.getElem?_cons_zero, List.getElem?_cons_succ] at c0 c1
  have HP : Hid (ParB (w.alloc (.cells #[.string (str p.1), .string (str p.2.1), .bool p.2.2] 64)) w.heap.size p) := ⟨c0, c1⟩
  clear R1 c0 c1
  go_enter Tryd.func52, Tryd.ntmps52
  go_wp2
  go_ret
  exact ⟨rfl, HP.out, (Below.refl _ w).alloc (Nat.le_refl _) _⟩

set_option maxRecDepth 100000 in
set_option maxHeartbeats 2000000 in
theorem IndexFunc_alP (v : Value) (ps : List Prm) (p : Prm) (B : Nat) (hp : p.1.length ≤ maxLen) (hM : EachP maxLen ps) (hl : ps.length ≤ 4294967296) (w : World) (hB : ParB w B p) (hrd : RdP v ps w) :
    Calls Tryd.prog 70 #[v, .func (.func 77) #[] #[.pointer (some ⟨B, 0, none⟩)]] w fun e w' => e = .returned (.int .i64 (idxB (alP p) ps)) ∧ Below w.heap.size w w' := by
  have HR : Hid (RdP v ps w) := hrd
  have HM : Hid (EachP maxLen ps) := hM
  obtain ⟨a, c, rfl, _⟩ := hrd
  have HPB : Hid (ParB w B p) := hB
  clear hM hB
  go_enter Tryd.func70, Tryd.ntmps70
  go_wp2
  go_loopw [8] (fun i wr => ∃ k : Nat, k ≤ ps.length ∧ i = .int .i64 k ∧ Hid (∀ j, j < k → alP p (nth ps j) = false) ∧ Hid (Below w.heap.size w wr)) (fun i _ => ps.length - (intOf i).toNat)
  case atStart => exact ⟨0, Nat.zero_le _, rfl, (fun j hj => by omega : ∀ j, j < 0 → _), Below.refl _ _⟩
  case round =>
    obtain ⟨k, hk, rfl, hall, hbl⟩ := hrel
    by_cases hlt : k < ps.length
    · obtain ⟨a', c', e', hcs⟩ := HR.out.below hbl.out
      injection e' with e1 _ e2
      subst e1 e2
      rcases hcs with h | ⟨g, o, rfl, hlc, hcell⟩
      · rw [h] at hlt; simp at hlt
      obtain ⟨p0, p1, p2⟩ := hcell k hlt
      clear hcell
      have HN : Hid (Calls Tryd.prog 77 #[.agg #[.string (str (nth ps k).1), .string (str (nth ps k).2.1), .bool (nth ps k).2.2], .pointer (some ⟨B, 0, none⟩)] wr fun e w' => e = .returned (.bool (alP p (nth ps k))) ∧ Below wr.heap.size wr w') :=
        alP_any p _ B hp (HM.out.at k hlt).1 wr (HPB.out.below hbl.out)
      have HT : alP p (nth ps k) = true → Hid (idxB (alP p) ps = k) := fun h => idxB_at hlt h hall.out
      have HF : alP p (nth ps k) = false → Hid (∀ j, j < k + 1 → alP p (nth ps j) = false) := fun h j hj => by
        by_cases hjk : j = k
        · subst hjk; exact h
        · exact hall.out j (by omega)
      generalize str (nth ps k).1 = X at p0 HN
      generalize str (nth ps k).2.1 = Y at p1 HN
      generalize alP p (nth ps k) = b at HN HT HF
      generalize (nth ps k).2.2 = Z at p2 HN
      cases b with
      | true =>
        have HT2 := HT rfl
        clear HT HF
        go_wp2_with fail
        refine HN.out.mono ?_
        rintro e w2 ⟨rfl, hb2⟩
        have HB2 : Hid (Below w.heap.size w w2) := bel_trans hbl.out hb2
        clear hb2
        go_wp2
        go_ret
        exact ⟨ret_int HT2.out.symm, HB2.out⟩
      | false =>
        have HF2 := HF rfl
        clear HT HF
        go_wp2_with fail
        refine HN.out.mono ?_
        rintro e w2 ⟨rfl, hb2⟩
        have HB2 : Hid (Below w.heap.size w w2) := bel_trans hbl.out hb2
        clear hb2
        go_wp2
        go_roundw
        case rel => exact ⟨k + 1, by omega, by go_num, HF2, HB2⟩
        case measure => simp [intOf]; omega
    · have HE : Hid (idxB (alP p) ps = -1) := idxB_none (fun j hj => hall.out j (by omega))
      go_wp2
      go_ret
      exact ⟨ret_int HE.out.symm, hbl.out⟩

set_option maxRecDepth 100000 in
set_option maxHeartbeats 1000000 in
theorem ContainsFunc_alP (v : Value) (ps : List Prm) (p : Prm) (B : Nat) (hp : p.1.length ≤ maxLen) (hM : EachP maxLen ps) (hl : ps.length ≤ 4294967296) (w : World) (hB : ParB w B p) (hrd : RdP v ps w) :
    Calls Tryd.prog 44 #[v, .func (.func 77) #[] #[.pointer (some ⟨B, 0, none⟩)]] w fun e w' => e = .returned (.bool (ps.any (alP p))) ∧ Below w.heap.size w w' := by
  have H := IndexFunc_alP v ps p B hp hM hl w hB hrd
  have HA : Hid (decide (0 ≤ idxB (alP p) ps) = ps.any (alP p)) := idxB_any _ _
  clear hrd hM hB
  generalize idxB (alP p) ps = z at *
  generalize ps.any (alP p) = b at *
  go_enter Tryd.func44, Tryd.ntmps44
  go_wp2_with fail
  refine H.mono ?_
  rintro e w2 ⟨rfl, hb2⟩
  go_wp2
  go_ret
  exact ⟨ret_bool HA.out, hb2⟩

def parMt (rs ms : List Prm) : Bool := rs.all fun p => ms.any (alP p)
theorem parMt_no {rs ms : List Prm} {k : Nat} (hk : k < rs.length) (h : ms.any (alP (nth rs k)) = false) : parMt rs ms = false := by
  unfold parMt
  rw [List.all_eq_false]
  refine ⟨rs[k], List.getElem_mem hk, ?_⟩
  unfold nth at h
  rw [List.getD_eq_getElem?_getD, List.getElem?_eq_getElem hk] at h
  have h' : ms.any (alP rs[k]) = false := h
  rw [h']
  simp
theorem parMt_yes {rs ms : List Prm} (h : ∀ k, k < rs.length → ms.any (alP (nth rs k)) = true) : parMt rs ms = true := by
  unfold parMt
  rw [List.all_eq_true]
  intro x hx
  obtain ⟨j, hj, rfl⟩ := List.mem_iff_getElem.1 hx
  have := h j hj
  unfold nth at this
  rwa [List.getD_eq_getElem?_getD, List.getElem?_eq_getElem hj] at this

set_option maxRecDepth 100000 in
set_option maxHeartbeats 2000000 in
theorem paramsMeet_any (v u : Value) (rs ms : List Prm) (hR : EachP maxLen rs) (hM : EachP maxLen ms) (hl : rs.length ≤ 16777216) (hl2 : ms.length ≤ 16777216) (w : World) (hv : RdP v rs w) (hu : RdP u ms w) :
    Calls Tryd.prog 29 #[v, u] w fun e w' => e = .returned (.bool (parMt rs ms)) ∧ Below w.heap.size w w' := by
  have HV : Hid (RdP v rs w) := hv
  have HR : Hid (EachP maxLen rs) := hR
  have HA : Hid (∀ (p : Prm) W, Calls Tryd.prog 52 #[.agg #[.string (str p.1), .string (str p.2.1), .bool p.2.2]] W fun e w' => e = .returned (.func (.func 77) #[] #[.pointer (some ⟨(World.heap W).size, 0, none⟩)]) ∧ ParB w' (World.heap W).size p ∧ Below (World.heap W).size W w') := fun p W => alikeTo_any p W
  have HC : Hid (∀ (p : Prm) B W, p.1.length ≤ maxLen → ParB W B p → Below w.heap.size w W → Calls Tryd.prog 44 #[u, .func (.func 77) #[] #[.pointer (some ⟨B, 0, none⟩)]] W fun e w' => e = .returned (.bool (ms.any (alP p))) ∧ Below (World.heap W).size W w') := fun p B W hp hB b => ContainsFunc_alP u ms p B hp hM (by omega) W hB (hu.below b)
  have HN : Hid (∀ k, k < rs.length → ms.any (alP (nth rs k)) = false → parMt rs ms = false) := fun k hk h => parMt_no hk h
  have HY : Hid ((∀ k, k < rs.length → ms.any (alP (nth rs k)) = true) → parMt rs ms = true) := fun h => parMt_yes h
  obtain ⟨a, c, rfl, _⟩ := hv
  obtain ⟨a2, c2, rfl, _⟩ := hu
  clear hR hM
  generalize parMt rs ms = V at *
  go_enter Tryd.func29, Tryd.ntmps29
  go_wp2
  go_loopw [9] (fun i wr => ∃ k : Nat, k ≤ rs.length ∧ i = .int .i64 k ∧ Hid (∀ j, j < k → ms.any (alP (nth rs j)) = true) ∧ Hid (Below w.heap.size w wr)) (fun i _ => rs.length - (intOf i).toNat)
  case atStart => exact ⟨0, Nat.zero_le _, rfl, (fun j hj => absurd hj (Nat.not_lt_zero _) : ∀ j, j < 0 → _), Below.refl _ _⟩
  case round =>
    obtain ⟨k, hk, rfl, hall, hbl⟩ := hrel
    have hsz := hbl.out.size
    by_cases hlt : k < rs.length
    · obtain ⟨a', c', e', hcs⟩ := HV.out.below hbl.out
      injection e' with e1 _ e2
      subst e1 e2
      rcases hcs with h | ⟨g, o, rfl, hlc, hcell⟩
      · rw [h] at hlt; simp at hlt
      obtain ⟨p0, p1, p2⟩ := hcell k hlt
      have hE := (HR.out.at k hlt).1
      have HAk := HA.out (nth rs k)
      have HCk : Hid (∀ B W, ParB W B (nth rs k) → Below w.heap.size w W → Calls Tryd.prog 44 #[.slice a2 ms.length c2, .func (.func 77) #[] #[.pointer (some ⟨B, 0, none⟩)]] W fun e w' => e = .returned (.bool (ms.any (alP (nth rs k)))) ∧ Below (World.heap W).size W w') := fun B W hB b => HC.out (nth rs k) B W hE hB b
      have HAk' : Hid (∀ W, _) := fun W => HAk W
      have FF : ms.any (alP (nth rs k)) = false → Hid (V = false) := fun h => HN.out k hlt h
      have TT : ms.any (alP (nth rs k)) = true → Hid (∀ j, j < k + 1 → ms.any (alP (nth rs j)) = true) := fun h j hj => by
        rcases Nat.lt_succ_iff_lt_or_eq.1 hj with h' | rfl
        · exact hall.out j h'
        · exact h
      have hb1 : Below wr.heap.size wr (wr.alloc (.cells #[.string (str (nth rs k).1), .string (str (nth rs k).2.1), .bool (nth rs k).2.2] 64)) := (Below.refl _ wr).alloc (Nat.le_refl _) _
      have HB1 : Hid (Below w.heap.size w (wr.alloc (.cells #[.string (str (nth rs k).1), .string (str (nth rs k).2.1), .bool (nth rs k).2.2] 64))) := bel_trans hbl.out hb1
      clear hcell hall hb1 HAk hE
      generalize ms.any (alP (nth rs k)) = b at *
      generalize nth rs k = p at *
      generalize str p.1 = N1 at *
      generalize str p.2.1 = N2 at *
      generalize p.2.2 = N3 at *
      go_wp2_with fail
      refine (HAk'.out _).mono ?_
      rintro e w2 ⟨rfl, hp2, hb2⟩
      rw [World.size_alloc] at hp2
      have HP2 : Hid (ParB w2 (wr.heap.size + 1) p) := hp2
      have HB2 : Hid (Below w.heap.size w w2) := bel_trans HB1.out hb2
      clear hp2 hb2
      go_wp2_with fail
      refine (HCk.out _ _ HP2.out HB2.out).mono ?_
      rintro e w3 ⟨rfl, hb3⟩
      have HB3 : Hid (Below w.heap.size w w3) := bel_trans HB2.out hb3
      clear hb3
      cases b with
      | true =>
        have tt := TT rfl
        clear TT FF
        go_wp2
        go_roundw
        case rel => exact ⟨k + 1, by omega, by go_num, tt, HB3⟩
        case measure => simp [intOf]; omega
      | false =>
        have ff := FF rfl
        clear TT FF
        go_wp2
        go_ret
        refine ⟨?_, HB3.out⟩
        rw [ff.out]
        rfl
    · obtain rfl : k = rs.length := by omega
      have HF : Hid (V = true) := HY.out hall.out
      clear hall
      go_wp2
      go_ret
      refine ⟨?_, hbl.out⟩
      rw [HF.out]
      rfl

def prtM (x y : ByteArray) : Bool := (x.toList == [42]) || decide (lowS x = lowS y)

set_option maxRecDepth 100000 in
theorem partMeets_any (x y : ByteArray) (hx : x.size ≤ maxLen) (hy : y.size ≤ maxLen) (w : World) :
    Calls Tryd.prog 28 #[.string x, .string y] w fun e w' => e = .returned (.bool (prtM x y)) ∧ Below w.heap.size w w' := by
  have HC : Hid (∀ W, Calls Tryd.prog 51 #[.string x, .string y] W fun e w' => e = .returned (.bool (decide (lowS x = lowS y))) ∧ Below (World.heap W).size W w') := fun W => Same_any _ _ hx hy W
  have HV : Hid (prtM x y = ((x.toList == [42]) || decide (lowS x = lowS y))) := (rfl : _ = _)
  generalize prtM x y = V at *
  generalize decide (lowS x = lowS y) = A at *
  cases hs : (x.toList == [42]) with
  | true =>
    rw [hs] at HV
    go_enter Tryd.func28, Tryd.ntmps28
    go_wp2
    go_ret
    exact ⟨by rw [HV.out]; rfl, Below.refl _ _⟩
  | false =>
    rw [hs] at HV
    go_enter Tryd.func28, Tryd.ntmps28
    go_wp2_with fail
    refine (HC.out _).mono ?_
    rintro e w2 ⟨rfl, hb2⟩
    have HB2 : Hid (Below w.heap.size w w2) := hb2
    clear hb2
    go_wp2
    go_ret
    exact ⟨by rw [HV.out]; rfl, HB2.out⟩

def metM (A B C D : ByteArray) (rs ms : List Prm) : Bool := (prtM A C && prtM B D) && parMt rs ms

set_option maxRecDepth 100000 in
set_option maxHeartbeats 2000000 in
theorem Meets_any (A B C D : ByteArray) (v u : Value) (rs ms : List Prm) (hA : A.size ≤ maxLen) (hB : B.size ≤ maxLen) (hC : C.size ≤ maxLen) (hD : D.size ≤ maxLen) (hR : EachP maxLen rs) (hM : EachP maxLen ms) (hl : rs.length ≤ 16777216) (hl2 : ms.length ≤ 16777216) (w : World) (hv : RdP v rs w) (hu : RdP u ms w) :
    Calls Tryd.prog 11 #[.agg #[.string A, .string B, v], .agg #[.string C, .string D, u]] w fun e w' => e = .returned (.bool (metM A B C D rs ms)) ∧ Below w.heap.size w w' := by
  obtain ⟨w2, hw2⟩ : ∃ w2, w2 = (w.alloc (.cells #[.string A, .string B, v] 24)).alloc (.cells #[.string C, .string D, u] 24) := ⟨_, rfl⟩
  have hb2 : Below w.heap.size w w2 := by rw [hw2]; exact ((Below.refl _ w).alloc (Nat.le_refl _) _).alloc (by simp) _
  have R1 : w2.heap[w.heap.size]? = some (.cells #[.string A, .string B, v] 24 (0, 0)) := by
    rw [hw2, Below.heap_alloc _ _ _ (by simp)]
    exact heap_alloc_new w _
  have R2 : w2.heap[w.heap.size + 1]? = some (.cells #[.string C, .string D, u] 24 (0, 0)) := by
    rw [hw2]
    have := heap_alloc_new (w.alloc (.cells #[.string A, .string B, v] 24)) (.cells #[.string C, .string D, u] 24)
    rwa [World.size_alloc] at this
  have HX : Hid (∀ W, Below w2.heap.size w2 W → (W.cell? ⟨w.heap.size, 0, none⟩ = some (.string A) ∧ W.cell? ⟨w.heap.size, 1, none⟩ = some (.string B) ∧ W.cell? ⟨w.heap.size, 2, none⟩ = some v) ∧ (W.cell? ⟨w.heap.size + 1, 0, none⟩ = some (.string C) ∧ W.cell? ⟨w.heap.size + 1, 1, none⟩ = some (.string D) ∧ W.cell? ⟨w.heap.size + 1, 2, none⟩ = some u)) := fun W b => by
    have S1 := (b.block _ (Array.getElem?_eq_some_iff.1 R1).1).trans R1
    have S2 := (b.block _ (Array.getElem?_eq_some_iff.1 R2).1).trans R2
    exact ⟨⟨Lib.cell_of_heap S1 0, Lib.cell_of_heap S1 1, Lib.cell_of_heap S1 2⟩, ⟨Lib.cell_of_heap S2 0, Lib.cell_of_heap S2 1, Lib.cell_of_heap S2 2⟩⟩
  have H1 : Hid (∀ W, Calls Tryd.prog 28 #[.string A, .string C] W fun e w' => e = .returned (.bool (prtM A C)) ∧ Below (World.heap W).size W w') := fun W => partMeets_any A C hA hC W
  have H2 : Hid (∀ W, Calls Tryd.prog 28 #[.string B, .string D] W fun e w' => e = .returned (.bool (prtM B D)) ∧ Below (World.heap W).size W w') := fun W => partMeets_any B D hB hD W
  have H3 : Hid (∀ W, Below w.heap.size w W → Calls Tryd.prog 29 #[v, u] W fun e w' => e = .returned (.bool (parMt rs ms)) ∧ Below (World.heap W).size W w') := fun W b => paramsMeet_any v u rs ms hR hM hl hl2 W (hv.below b) (hu.below b)
  have HV : Hid (metM A B C D rs ms = ((prtM A C && prtM B D) && parMt rs ms)) := (rfl : _ = _)
  have HB2 : Hid (Below w.heap.size w w2) := hb2
  obtain ⟨⟨x0, x1, x2⟩, ⟨y0, y1, y2⟩⟩ := HX.out w2 (Below.refl _ _)
  obtain ⟨a, c, rfl, _⟩ := hv
  obtain ⟨a2, c2, rfl, _⟩ := hu
  clear hR hM R1 R2 hb2
  generalize metM A B C D rs ms = V at *
  generalize prtM A C = P1 at *
  generalize prtM B D = P2 at *
  generalize parMt rs ms = P3 at *
  go_enter Tryd.func11, Tryd.ntmps11
  go_wp2_with fail
  rw [← hw2]
  clear hw2
  go_wp2_with fail
  refine (H1.out _).mono ?_
  rintro e w3 ⟨rfl, hb3⟩
  have HB3 : Hid (Below w2.heap.size w2 w3) := hb3
  clear hb3 x0 x1 x2 y0 y1 y2
  cases P1 with
  | false =>
    go_wp2
    go_ret
    exact ⟨by rw [HV.out]; rfl, bel_trans HB2.out HB3.out⟩
  | true =>
    obtain ⟨⟨x0, x1, x2⟩, ⟨y0, y1, y2⟩⟩ := HX.out w3 HB3.out
    go_wp2_with fail
    refine (H2.out _).mono ?_
    rintro e w4 ⟨rfl, hb4⟩
    have HB4 : Hid (Below w2.heap.size w2 w4) := bel_trans HB3.out hb4
    clear hb4 x0 x1 x2 y0 y1 y2
    cases P2 with
    | false =>
      go_wp2
      go_ret
      exact ⟨by rw [HV.out]; rfl, bel_trans HB2.out HB4.out⟩
    | true =>
      obtain ⟨⟨x0, x1, x2⟩, ⟨y0, y1, y2⟩⟩ := HX.out w4 HB4.out
      go_wp2_with fail
      refine (H3.out _ (bel_trans HB2.out HB4.out)).mono ?_
      rintro e w5 ⟨rfl, hb5⟩
      have HB5 : Hid (Below w.heap.size w w5) := bel_trans (bel_trans HB2.out HB4.out) hb5
      clear hb5 x0 x1 x2 y0 y1 y2
      go_wp2
      go_ret
      exact ⟨by rw [HV.out]; rfl, HB5.out⟩

end Ac
end Go.Proofs.YtnhkkemphjblhaaDoor

/-
  The document's Meets.
-/
set_option linter.unusedVariables false
set_option linter.unusedSimpArgs false
namespace Go.Proofs.YtnhkkemphjblhaaDoor
open Go.RowKit Go.Shelf
namespace Ac
open Oc Tg

theorem any_take {ms : List Prm} (f : Prm → Bool) {k : Nat} (h : k < ms.length) : (ms.take (k + 1)).any f = ((ms.take k).any f || f (nth ms k)) := by
  rw [List.take_add_one, List.getElem?_eq_getElem h, List.any_append]
  unfold nth
  rw [List.getD_eq_getElem?_getD, List.getElem?_eq_getElem h]
  simp
theorem made2 (W : World) (x0 x1 x2 y0 y1 y2 : Value) (T : TypeId) :
    ((((W.alloc (.cells #[x0, x1, x2] T)).alloc (.cells #[y0, y1, y2] T)).drew.cell? ⟨W.heap.size, 0, none⟩ = some x0 ∧ ((W.alloc (.cells #[x0, x1, x2] T)).alloc (.cells #[y0, y1, y2] T)).drew.cell? ⟨W.heap.size, 1, none⟩ = some x1) ∧
    (((W.alloc (.cells #[x0, x1, x2] T)).alloc (.cells #[y0, y1, y2] T)).drew.cell? ⟨W.heap.size + 1, 0, none⟩ = some y0 ∧ ((W.alloc (.cells #[x0, x1, x2] T)).alloc (.cells #[y0, y1, y2] T)).drew.cell? ⟨W.heap.size + 1, 1, none⟩ = some y1)) := by
  have R1 : ((W.alloc (.cells #[x0, x1, x2] T)).alloc (.cells #[y0, y1, y2] T)).heap[W.heap.size]? = some (.cells #[x0, x1, x2] T (0, 0)) := by
    rw [Below.heap_alloc _ _ _ (by simp)]
    exact heap_alloc_new W _
  have R2 := heap_alloc_new (W.alloc (.cells #[x0, x1, x2] T)) (.cells #[y0, y1, y2] T)
  rw [World.size_alloc] at R2
  exact ⟨⟨Lib.cell_of_heap R1 0, Lib.cell_of_heap R1 1⟩, ⟨Lib.cell_of_heap R2 0, Lib.cell_of_heap R2 1⟩⟩
theorem bel_drew2 {w0 W : World} (h : Below w0.heap.size w0 W) (o o' : Obj) : Below w0.heap.size w0 ((W.alloc o).alloc o').drew :=
  ((h.alloc h.size o).alloc (by have := h.size; simp; omega) o').drew

set_option maxRecDepth 100000 in
set_option maxHeartbeats 4000000 in
theorem rMeets_any (A B C D : ByteArray) (v u : Value) (rs ms : List Prm) (hA : A.size ≤ maxLen) (hB : B.size ≤ maxLen) (hC : C.size ≤ maxLen) (hD : D.size ≤ maxLen) (hR : EachP maxLen rs) (hM : EachP maxLen ms) (hl : rs.length ≤ 16777216) (hl2 : ms.length ≤ 16777216) (w : World) (hv : RdP v rs w) (hu : RdP u ms w) :
    Calls Tryd.prog 12 #[.agg #[.string A, .string B, v], .agg #[.string C, .string D, u]] w fun e w' => e = .returned (.bool (metM A B C D rs ms)) ∧ Below w.heap.size w w' := by
  obtain ⟨w2, hw2⟩ : ∃ w2, w2 = (w.alloc (.cells #[.string A, .string B, v] 30)).alloc (.cells #[.string C, .string D, u] 30) := ⟨_, rfl⟩
  have hb2 : Below w.heap.size w w2 := by rw [hw2]; exact ((Below.refl _ w).alloc (Nat.le_refl _) _).alloc (by simp) _
  have R1 : w2.heap[w.heap.size]? = some (.cells #[.string A, .string B, v] 30 (0, 0)) := by
    rw [hw2, Below.heap_alloc _ _ _ (by simp)]
    exact heap_alloc_new w _
  have R2 : w2.heap[w.heap.size + 1]? = some (.cells #[.string C, .string D, u] 30 (0, 0)) := by
    rw [hw2]
    have := heap_alloc_new (w.alloc (.cells #[.string A, .string B, v] 30)) (.cells #[.string C, .string D, u] 30)
    rwa [World.size_alloc] at this
  have HX : Hid (∀ W, Below w2.heap.size w2 W → (W.cell? ⟨w.heap.size, 0, none⟩ = some (.string A) ∧ W.cell? ⟨w.heap.size, 1, none⟩ = some (.string B) ∧ W.cell? ⟨w.heap.size, 2, none⟩ = some v) ∧ (W.cell? ⟨w.heap.size + 1, 0, none⟩ = some (.string C) ∧ W.cell? ⟨w.heap.size + 1, 1, none⟩ = some (.string D) ∧ W.cell? ⟨w.heap.size + 1, 2, none⟩ = some u)) := fun W b => by
    have S1 := (b.block _ (Array.getElem?_eq_some_iff.1 R1).1).trans R1
    have S2 := (b.block _ (Array.getElem?_eq_some_iff.1 R2).1).trans R2
    exact ⟨⟨Lib.cell_of_heap S1 0, Lib.cell_of_heap S1 1, Lib.cell_of_heap S1 2⟩, ⟨Lib.cell_of_heap S2 0, Lib.cell_of_heap S2 1, Lib.cell_of_heap S2 2⟩⟩
  have H1 : Hid (∀ W, Calls Tryd.prog 30 #[.string A, .string C] W fun e w' => e = .returned (.bool (decide (lowS A = lowS C))) ∧ Below (World.heap W).size W w') := fun W => rSame_any A C hA hC W
  have H2 : Hid (∀ W, Calls Tryd.prog 30 #[.string B, .string D] W fun e w' => e = .returned (.bool (decide (lowS B = lowS D))) ∧ Below (World.heap W).size W w') := fun W => rSame_any B D hB hD W
  have HV : Hid (metM A B C D rs ms = ((((A.toList == [42]) || decide (lowS A = lowS C)) && ((B.toList == [42]) || decide (lowS B = lowS D))) && parMt rs ms)) := (rfl : _ = _)
  have HN : Hid (∀ k, k < rs.length → ms.any (alP (nth rs k)) = false → parMt rs ms = false) := fun k hk h => parMt_no hk h
  have HY : Hid ((∀ k, k < rs.length → ms.any (alP (nth rs k)) = true) → parMt rs ms = true) := fun h => parMt_yes h
  have HB2 : Hid (Below w.heap.size w w2) := hb2
  have HRv : Hid (RdP v rs w) := hv
  have HRu : Hid (RdP u ms w) := hu
  have HRe : Hid (EachP maxLen rs) := hR
  have HMe : Hid (EachP maxLen ms) := hM
  obtain ⟨a, c, rfl, _⟩ := hv
  obtain ⟨a2, c2, rfl, _⟩ := hu
  clear hR hM R1 R2 hb2
  generalize metM A B C D rs ms = V at *
  generalize parMt rs ms = P3 at *
  generalize decide (lowS A = lowS C) = E1 at *
  generalize decide (lowS B = lowS D) = E2 at *
  have hsA : (A.toList != [42]) = !(A.toList == [42]) := rfl
  have hsB : (B.toList != [42]) = !(B.toList == [42]) := rfl
  go_enter Tryd.func12, Tryd.ntmps12
  go_upto_region 1 with fail
  rw [← hw2]
  clear hw2
  go_cut [33] from 10 to 33 (fun s33 wx => s33 = .bool (!(((A.toList == [42]) || E1) && ((B.toList == [42]) || E2))) ∧ Hid (Below w2.heap.size w2 wx))
  case first =>
    obtain ⟨⟨x0, x1, x2⟩, ⟨y0, y1, y2⟩⟩ := HX.out w2 (Below.refl _ _)
    cases hA1 : (A.toList == [42]) with
    | true =>
      rw [hA1] at hsA
      cases hB1 : (B.toList == [42]) with
      | true =>
        rw [hB1] at hsB
        go_wp2_with fail
        go_meet
        exact ⟨by rw [hA1, hB1]; rfl, Below.refl _ _⟩
      | false =>
        rw [hB1] at hsB
        go_wp2_with fail
        refine (H2.out _).mono ?_
        rintro e w3 ⟨rfl, hb3⟩
        have HB3 : Hid (Below w2.heap.size w2 w3) := hb3
        clear hb3
        go_wp2_with fail
        go_meet
        exact ⟨by rw [hA1, hB1]; cases E2 <;> rfl, HB3⟩
    | false =>
      rw [hA1] at hsA
      go_wp2_with fail
      refine (H1.out _).mono ?_
      rintro e w3 ⟨rfl, hb3⟩
      have HB3 : Hid (Below w2.heap.size w2 w3) := hb3
      clear hb3 x0 x1 x2 y0 y1 y2
      obtain ⟨⟨x0, x1, x2⟩, ⟨y0, y1, y2⟩⟩ := HX.out w3 HB3.out
      cases E1 with
      | false =>
        go_wp2_with fail
        go_meet
        exact ⟨by rw [hA1]; rfl, HB3⟩
      | true =>
        cases hB1 : (B.toList == [42]) with
        | true =>
          rw [hB1] at hsB
          go_wp2_with fail
          go_meet
          exact ⟨by rw [hA1, hB1]; rfl, HB3⟩
        | false =>
          rw [hB1] at hsB
          go_wp2_with fail
          refine (H2.out _).mono ?_
          rintro e w4 ⟨rfl, hb4⟩
          have HB4 : Hid (Below w2.heap.size w2 w4) := bel_trans HB3.out hb4
          clear hb4
          go_wp2_with fail
          go_meet
          exact ⟨by rw [hA1, hB1]; cases E2 <;> rfl, HB4⟩
  case rest =>
    obtain ⟨rfl, HBc⟩ := hcut
    generalize (((A.toList == [42]) || E1) && ((B.toList == [42]) || E2)) = E at *
    clear hsA hsB
    cases E with
    | false =>
      go_wp2
      go_ret
      refine ⟨?_, bel_trans HB2.out HBc.out⟩
      rw [HV.out]
      rfl
    | true =>
      rw [Bool.true_and] at HV
      simp only [Bool.not_true]
      go_wp2
      go_loopw [5] (fun i wr => ∃ k : Nat, k ≤ rs.length ∧ i = .int .i64 k ∧ Hid (∀ j, j < k → ms.any (alP (nth rs j)) = true) ∧ Hid (Below w2.heap.size w2 wr)) (fun i _ => rs.length - (intOf i).toNat)
      case atStart => exact ⟨0, Nat.zero_le _, rfl, (fun j hj => absurd hj (Nat.not_lt_zero _) : ∀ j, j < 0 → _), HBc⟩
      case round =>
        obtain ⟨k, hk, rfl, hall, hbl⟩ := hrel
        obtain ⟨⟨x0, x1, x2⟩, ⟨y0, y1, y2⟩⟩ := HX.out wr hbl.out
        clear x0 x1 y0 y1
        by_cases hlt : k < rs.length
        · have hki : (k : Int) < (rs.length : Int) := by omega
          obtain ⟨wo, rfl⟩ : ∃ wo, wo = wr := ⟨_, rfl⟩
          have FF : ms.any (alP (nth rs k)) = false → Hid (V = false) := fun h => (by rw [HV.out]; exact HN.out k hlt h : V = false)
          have TT : ms.any (alP (nth rs k)) = true → Hid (∀ j, j < k + 1 → ms.any (alP (nth rs j)) = true) := fun h j hj => by
            rcases Nat.lt_succ_iff_lt_or_eq.1 hj with h' | rfl
            · exact hall.out j h'
            · exact h
          have HCr : Hid (∃ g o, a = some ⟨g, o, none⟩ ∧ rs.length ≤ c ∧ w.cell? ⟨g, o + k * 3, none⟩ = some (.string (str (nth rs k).1)) ∧ w.cell? ⟨g, o + k * 3 + 1, none⟩ = some (.string (str (nth rs k).2.1)) ∧ w.cell? ⟨g, o + k * 3 + 2, none⟩ = some (.bool (nth rs k).2.2)) := by
            obtain ⟨a', c', e', hcs⟩ := HRv.out
            injection e' with e1 _ e2
            subst e1 e2
            rcases hcs with h | ⟨g, o, e, hlc, hcell⟩
            · rw [h] at hlt; simp at hlt
            · exact ⟨g, o, e, hlc, hcell k hlt⟩
          have hEr := (HRe.out.at k hlt).1
          clear hall
          go_wp2
          go_loopw [6, 7] (fun f i wr => ∃ j : Nat, j ≤ ms.length ∧ f = .bool ((ms.take j).any (alP (nth rs k))) ∧ i = .int .i64 j ∧ Hid (Below w2.heap.size w2 wr)) (fun _ i _ => ms.length - (intOf i).toNat)
          case atStart => exact ⟨0, Nat.zero_le _, rfl, rfl, hbl⟩
          case round =>
            clear x2 y2
            obtain ⟨j, hj, rfl, rfl, hbj⟩ := hrel
            obtain ⟨⟨x0, x1, x2⟩, ⟨y0, y1, y2⟩⟩ := HX.out wr hbj.out
            clear x0 x1 y0 y1
            by_cases hlt2 : j < ms.length
            · have hji : (j : Int) < (ms.length : Int) := by omega
              obtain ⟨g, o, ha, hlc, p0, p1, p2⟩ := HCr.out
              subst ha
              have HBw : Hid (Below w.heap.size w wr) := bel_trans HB2.out hbj.out
              have r0 := (HBw.out.cell (World.block_lt_of_cell? _ _ p0)).trans p0
              have r1 := (HBw.out.cell (World.block_lt_of_cell? _ _ p1)).trans p1
              have r2 := (HBw.out.cell (World.block_lt_of_cell? _ _ p2)).trans p2
              obtain ⟨a', c', e', hcs⟩ := HRu.out.below HBw.out
              injection e' with e1 _ e2
              subst e1 e2
              rcases hcs with h | ⟨g2, o2, ha2, hlc2, hcell2⟩
              · rw [h] at hlt2; simp at hlt2
              subst ha2
              obtain ⟨s0, s1, s2⟩ := hcell2 j hlt2
              have hEm := (HMe.out.at j hlt2).1
              have HC : Hid (∀ W, Calls Tryd.prog 30 #[.string (str (nth rs k).1), .string (str (nth ms j).1)] W fun e w' => e = .returned (.bool (decide (lowS (str (nth rs k).1) = lowS (str (nth ms j).1)))) ∧ Below (World.heap W).size W w') := fun W => rSame_any _ _ (by rw [str_size]; exact hEr) (by rw [str_size]; exact hEm) W
              have HT : Hid ((ms.take (j + 1)).any (alP (nth rs k)) = ((ms.take j).any (alP (nth rs k)) || (decide (lowS (str (nth rs k).1) = lowS (str (nth ms j).1)) && ((str (nth rs k).2.1).toList == (str (nth ms j).2.1).toList)))) := (by rw [any_take _ hlt2, veq]; rfl : _ = _)
              clear hcell2 p0 p1 p2 hEm
              generalize (ms.take j).any (alP (nth rs k)) = F0 at *
              generalize decide (lowS (str (nth rs k).1) = lowS (str (nth ms j).1)) = S0 at *
              generalize hp : nth rs k = p at *
              generalize hq : nth ms j = q at *
              clear hq
              have HPk : Hid (nth rs k = p) := hp
              clear hp
              obtain ⟨pn, pv, pb⟩ := p
              obtain ⟨qn, qv, qb⟩ := q
              dsimp only at r0 r1 r2 s0 s1 s2 HC HT
              generalize str pn = PN at *
              generalize str pv = PV at *
              generalize str qn = QN at *
              generalize str qv = QV at *
              have t2 : wr.drew.cell? ⟨w.heap.size, 2, none⟩ = some (.slice (some ⟨g, o, none⟩) rs.length c) := x2
              have z2 : wr.drew.cell? ⟨w.heap.size + 1, 2, none⟩ = some (.slice (some ⟨g2, o2, none⟩) ms.length c2) := y2
              have u0 : wr.drew.cell? ⟨g, o + k * 3, none⟩ = some (.string PN) := r0
              have u1 : wr.drew.cell? ⟨g, o + k * 3 + 1, none⟩ = some (.string PV) := r1
              have u2 : wr.drew.cell? ⟨g, o + k * 3 + 2, none⟩ = some (.bool pb) := r2
              have v0 : wr.drew.cell? ⟨g2, o2 + j * 3, none⟩ = some (.string QN) := s0
              have v1 : wr.drew.cell? ⟨g2, o2 + j * 3 + 1, none⟩ = some (.string QV) := s1
              have v2 : wr.drew.cell? ⟨g2, o2 + j * 3 + 2, none⟩ = some (.bool qb) := s2
              have l1 : w.heap.size < wr.heap.size := World.block_lt_of_cell? _ _ x2
              have l2 : w.heap.size + 1 < wr.heap.size := World.block_lt_of_cell? _ _ y2
              have l3 : g < wr.heap.size := World.block_lt_of_cell? _ _ r0
              have l4 : g2 < wr.heap.size := World.block_lt_of_cell? _ _ s0
              go_upto_region 10 with fail
              go_cut [8, 9] from 48 to 57 (fun s8 s9 wx => ∃ b8 b9, s8 = .pointer (some ⟨b8, 0, none⟩) ∧ s9 = .pointer (some ⟨b9, 0, none⟩) ∧ Hid ((wx.cell? ⟨b8, 0, none⟩ = some (.string PN) ∧ wx.cell? ⟨b8, 1, none⟩ = some (.string PV)) ∧ (wx.cell? ⟨b9, 0, none⟩ = some (.string QN) ∧ wx.cell? ⟨b9, 1, none⟩ = some (.string QV))) ∧ Hid (Below w2.heap.size w2 wx))
              case first =>
                go_region
                · go_wp2_with fail
                  go_meet
                  exact ⟨_, _, rfl, rfl, (made2 wr _ _ _ _ _ _ _ : _ ∧ _), (bel_drew2 (hbj.out) _ _ : Below _ _ _)⟩
                · go_wp2_with fail
                  go_meet
                  exact ⟨_, _, rfl, rfl, ((made2 wr _ _ _ _ _ _ _).symm : _ ∧ _), (bel_drew2 (hbj.out) _ _ : Below _ _ _)⟩
              case rest =>
                obtain ⟨b8, b9, rfl, rfl, HCC, HBd⟩ := hcut
                obtain ⟨⟨m0, m1⟩, ⟨n0, n1⟩⟩ := HCC.out
                clear x2 y2 r0 r1 r2 s0 s1 s2 t2 z2 u0 u1 u2 v0 v1 v2 l1 l2 l3 l4 HCC
                cases F0 with
                | true =>
                  go_wp2
                  go_roundw
                  case rel => exact ⟨j + 1, by omega, by rw [HT.out]; rfl, by go_num, HBd⟩
                  case measure => simp [intOf]; omega
                | false =>
                  go_wp2_with fail
                  refine (HC.out _).mono ?_
                  rintro e w5 ⟨rfl, hb5⟩
                  have m1' := (hb5.cell (p := ⟨b8, 1, none⟩) (World.block_lt_of_cell? _ _ m1)).trans m1
                  have n1' := (hb5.cell (p := ⟨b9, 1, none⟩) (World.block_lt_of_cell? _ _ n1)).trans n1
                  have HB5 : Hid (Below w2.heap.size w2 w5) := bel_trans HBd.out hb5
                  clear hb5 m0 m1 n0 n1
                  rw [Bool.false_or] at HT
                  cases S0 with
                  | false =>
                    go_wp2
                    go_roundw
                    case rel => exact ⟨j + 1, by omega, by rw [HT.out]; rfl, by go_num, HB5⟩
                    case measure => simp [intOf]; omega
                  | true =>
                    rw [Bool.true_and] at HT
                    cases hE : (PV.toList == QV.toList) with
                    | true =>
                      rw [hE] at HT
                      go_wp2
                      go_roundw
                      case rel => exact ⟨j + 1, by omega, by rw [HT.out], by go_num, HB5⟩
                      case measure => simp [intOf]; omega
                    | false =>
                      rw [hE] at HT
                      go_wp2
                      go_roundw
                      case rel => exact ⟨j + 1, by omega, by rw [HT.out], by go_num, HB5⟩
                      case measure => simp [intOf]; omega
            · obtain rfl : j = ms.length := by omega
              rw [List.take_length]
              generalize ms.any (alP (nth rs k)) = F0 at *
              cases F0 with
              | true =>
                have tt := TT rfl
                clear TT FF
                go_wp2
                go_roundw
                case rel => exact ⟨k + 1, by omega, by go_num, tt, hbj⟩
                case measure => simp [intOf]; omega
              | false =>
                have ff := FF rfl
                clear TT FF
                go_wp2
                go_ret
                refine ⟨?_, bel_trans HB2.out hbj.out⟩
                rw [ff.out]
                rfl
        · obtain rfl : k = rs.length := by omega
          have HF : Hid (V = true) := (by rw [HV.out]; exact HY.out hall.out : V = true)
          clear hall
          go_wp2
          go_ret
          refine ⟨?_, bel_trans HB2.out hbl.out⟩
          rw [HF.out]
          rfl

end Ac
end Go.Proofs.YtnhkkemphjblhaaDoor

/-
  The law's params and alike.
-/
set_option linter.unusedVariables false
set_option linter.unusedSimpArgs false
namespace Go.Proofs.YtnhkkemphjblhaaDoor
open Go.RowKit Go.Shelf
namespace Ac
open Oc Tg

set_option maxRecDepth 100000 in
set_option maxHeartbeats 1000000 in
theorem params_any (v1 v2 : Value) (t : List Prm) (w : World) (h1 : RdP v1 t w) (h2 : RdP v2 t w) (hl : t.length ≤ 4294967296) :
    Calls Tryd.prog 27 #[v1, v2] w fun e w' => e = .returned (.bool true) ∧ ∃ n, w' = w.drewN n := by
  obtain ⟨a1, c1, rfl, h1⟩ := h1
  obtain ⟨a2, c2, rfl, h2⟩ := h2
  have hne : ((t.length : Int) != (t.length : Int)) = false := by simp
  go_enter Tryd.func27, Tryd.ntmps27
  go_wp2
  go_loopw [5] (fun i wr => ∃ k : Nat, k ≤ t.length ∧ i = .int .i64 k ∧ Hid (∃ n, wr = w.drewN n)) (fun i _ => t.length - (intOf i).toNat)
  case atStart => exact ⟨0, Nat.zero_le _, rfl, (⟨0, rfl⟩ : ∃ n, w = w.drewN n)⟩
  case round =>
    obtain ⟨k, hk, rfl, hw⟩ := hrel
    obtain ⟨n, rfl⟩ := hw.out
    clear hw
    by_cases hlt : k < t.length
    · rcases h1 with h | ⟨g1, o1, rfl, hc1, hcell1⟩
      · rw [h] at hlt; simp at hlt
      rcases h2 with h | ⟨g2, o2, rfl, hc2, hcell2⟩
      · rw [h] at hlt; simp at hlt
      obtain ⟨p0, p1, p2⟩ := hcell1 k hlt
      obtain ⟨q0, q1, q2⟩ := hcell2 k hlt
      clear hcell1 hcell2
      generalize str (nth t k).1 = x at p0 q0
      generalize str (nth t k).2.1 = y at p1 q1
      generalize (nth t k).2.2 = z at p2 q2
      have hz : (z != z) = false := by simp
      go_wp2_with fail
      go_quiet (fail)
      go_wp2
      go_roundw
      case rel => exact ⟨k + 1, by omega, by go_num, (⟨_, rfl⟩ : ∃ m, w.drewN (n + nq) = w.drewN m)⟩
      case measure => simp [intOf]; omega
    · go_wp2
      go_ret
      exact ⟨rfl, _, rfl⟩

set_option maxRecDepth 100000 in
set_option maxHeartbeats 1000000 in
theorem alike07_any (A B : ByteArray) (v1 v2 : Value) (t : List Prm) (w : World) (h1 : RdP v1 t w) (h2 : RdP v2 t w) (hl : t.length ≤ 4294967296) :
    Calls Tryd.prog 10 #[.agg #[.string A, .string B, v1], .agg #[.string A, .string B, v2]] w fun e w' => e = .returned (.bool true) ∧ Below w.heap.size w w' := by
  have hA : (A.toList == A.toList) = true := by simp
  have hB : (B.toList == B.toList) = true := by simp
  obtain ⟨w2, hw2⟩ : ∃ w2, w2 = (w.alloc (.cells #[.string A, .string B, v1] 24)).alloc (.cells #[.string A, .string B, v2] 30) := ⟨_, rfl⟩
  have hb2 : Below w.heap.size w w2 := by rw [hw2]; exact ((Below.refl _ w).alloc (Nat.le_refl _) _).alloc (by simp) _
  have HP : Hid (Calls Tryd.prog 27 #[v1, v2] w2 fun e w' => e = .returned (.bool true) ∧ ∃ n, w' = w2.drewN n) := params_any v1 v2 t w2 (h1.below hb2) (h2.below hb2) hl
  have HB2 : Hid (Below w.heap.size w w2) := hb2
  obtain ⟨a1, c1, rfl, _⟩ := h1
  obtain ⟨a2, c2, rfl, _⟩ := h2
  clear hb2
  subst hw2
  go_enter Tryd.func10, Tryd.ntmps10
  go_wp2_with fail
  refine HP.out.mono ?_
  rintro e w3 ⟨rfl, n, rfl⟩
  go_wp2
  go_ret
  exact ⟨rfl, bel_trans HB2.out ⟨rfl, rfl, rfl, Nat.le_refl _, fun _ _ => rfl⟩⟩

end Ac
end Go.Proofs.YtnhkkemphjblhaaDoor
