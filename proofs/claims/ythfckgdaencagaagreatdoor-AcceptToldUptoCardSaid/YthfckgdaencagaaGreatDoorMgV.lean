/- Several texts as one. -/
import Derived.Test.YthfckgdaencagaaGreatDoorMgS
import Derived.Test.YthfckgdaencagaaGreatDoorMgU
import Derived.Test.YthfckgdaencagaaGreatDoorMgC
import Derived.Test.YthfckgdaencagaaGreatDoorMgK
import Derived.Laws.AppendOwn
import Derived.Deep.RegionHeld3
import Derived.BigQuiet
import Derived.Deep.QuietTactic
import Derived.Laws.EntriesVeiled
/-
  slices.IndexFunc and ContainsFunc over parameters.
-/
set_option linter.unusedVariables false
set_option linter.unusedSimpArgs false
namespace Go.Proofs.YthfckgdaencagaaGreatDoor
open Go.RowKit Go.Shelf
namespace Ac
open Oc Tg

def idxB (f : Prm → Bool) (l : List Prm) : Int := match l.findIdx? f with | some k => (k : Int) | none => -1
theorem idxB_at {f : Prm → Bool} {l : List Prm} {k : Nat} (hk : k < l.length) (h1 : f (nth l k) = true) (h2 : ∀ j, j < k → f (nth l j) = false) : idxB f l = k := by
  unfold idxB
  have : l.findIdx? f = some k := by
    rw [List.findIdx?_eq_some_iff_getElem]
    refine ⟨hk, ?_, fun j hj => ?_⟩
    · have := h1
      unfold nth at this
      rwa [List.getD_eq_getElem?_getD, List.getElem?_eq_getElem hk] at this
    · have := h2 j hj
      unfold nth at this
      rw [List.getD_eq_getElem?_getD, List.getElem?_eq_getElem (by omega)] at this
      simpa using this
  rw [this]
theorem idxB_none {f : Prm → Bool} {l : List Prm} (h2 : ∀ j, j < l.length → f (nth l j) = false) : idxB f l = -1 := by
  unfold idxB
  have : l.findIdx? f = none := by
    rw [List.findIdx?_eq_none_iff]
    intro x hx
    obtain ⟨j, hj, rfl⟩ := List.mem_iff_getElem.1 hx
    have := h2 j hj
    unfold nth at this
    rwa [List.getD_eq_getElem?_getD, List.getElem?_eq_getElem hj] at this
  rw [this]
theorem idxB_any (f : Prm → Bool) (l : List Prm) : decide (0 ≤ idxB f l) = l.any f := by
  unfold idxB
  cases h : l.findIdx? f with
  | none =>
    rw [List.findIdx?_eq_none_iff] at h
    have : l.any f = false := List.any_eq_false.2 (fun x hx => by rw [h x hx]; decide)
    rw [this]
    decide
  | some k =>
    rw [List.findIdx?_eq_some_iff_getElem] at h
    obtain ⟨hk, h1, _⟩ := h
    have : l.any f = true := List.any_eq_true.2 ⟨_, List.getElem_mem hk, h1⟩
    rw [this]
    exact decide_eq_true (by simp)
/-- No text of theirs is longer. -/
def EachP (M : Nat) (l : List Prm) : Prop := ∀ p ∈ l, p.1.length ≤ M ∧ p.2.1.length ≤ M
theorem EachP.at {M : Nat} {l : List Prm} (h : EachP M l) (k : Nat) (hk : k < l.length) : (nth l k).1.length ≤ M ∧ (nth l k).2.1.length ≤ M := by
  refine h _ ?_
  unfold nth
  rw [List.getD_eq_getElem?_getD, List.getElem?_eq_getElem hk]
  exact List.getElem_mem hk
def noVal (p : Prm) : Bool := !p.2.2
def notSmall (p : Prm) : Bool := !decide (lower p.1 = p.1)
def isQ (p : Prm) : Bool := decide (p.1 = [113])
theorem veq (a b : List UInt8) : ((str a).toList == (str b).toList) = decide (a = b) := by
  rw [eq_toList, Bool.eq_iff_iff, decide_eq_true_iff, decide_eq_true_iff]
  exact ⟨str_inj, fun h => by rw [h]⟩

set_option maxRecDepth 100000 in
set_option maxHeartbeats 1000000 in
theorem noVal_any (p : Prm) (hp : p.1.length ≤ maxLen) (w : World) :
    Calls Tryz.prog 42 #[.agg #[.string (str p.1), .string (str p.2.1), .bool p.2.2]] w fun e w' => e = .returned (.bool (noVal p)) ∧ Below w.heap.size w w' := by
  obtain ⟨n, v, b⟩ := p
  dsimp only at hp ⊢
  obtain ⟨w2, hw2⟩ : ∃ w2, w2 = w.alloc (.cells #[.string (str n), .string (str v), .bool b] 95) := ⟨_, rfl⟩
  have R1 : w2.heap[w.heap.size]? = some (.cells #[.string (str n), .string (str v), .bool b] 95 (0, 0)) := by
    rw [hw2]; exact heap_alloc_new w _
  have HB2 : Hid (Below w.heap.size w w2) := by show Below _ _ _; rw [hw2]; exact (Below.refl _ w).alloc (Nat.le_refl _) _
  have c0 := Lib.cell_of_heap R1 0
  have c2 := Lib.cell_of_heap R1 2
  simp at c0 c2
  clear R1
  clear c0
  subst hw2
  go_enter Tryz.func42, Tryz.ntmps42
  go_wp2
  go_ret
  exact ⟨rfl, HB2.out⟩

set_option maxRecDepth 100000 in
set_option maxHeartbeats 2000000 in
theorem IndexFunc_noVal (v : Value) (ps : List Prm) (hM : EachP maxLen ps) (hl : ps.length ≤ 4294967296) (w : World) (hrd : RdP v ps w) :
    Calls Tryz.prog 51 #[v, .func (.func 42) #[] #[]] w fun e w' => e = .returned (.int .i64 (idxB noVal ps)) ∧ Below w.heap.size w w' := by
  have HR : Hid (RdP v ps w) := hrd
  have HM : Hid (EachP maxLen ps) := hM
  obtain ⟨a, c, rfl, _⟩ := hrd
  clear hM
  go_enter Tryz.func51, Tryz.ntmps51
  go_wp2
  go_loopw [8] (fun i wr => ∃ k : Nat, k ≤ ps.length ∧ i = .int .i64 k ∧ Hid (∀ j, j < k → noVal (nth ps j) = false) ∧ Hid (Below w.heap.size w wr)) (fun i _ => ps.length - (intOf i).toNat)
  case atStart => exact ⟨0, Nat.zero_le _, rfl, (fun j hj => by omega : ∀ j, j < 0 → _), Below.refl _ _⟩
  case round =>
    obtain ⟨k, hk, rfl, hall, hbl⟩ := hrel
    by_cases hlt : k < ps.length
    · obtain ⟨a', c', e', hcs⟩ := HR.out.below hbl.out
      injection e' with e1 _ e2
      subst e1 e2
      rcases hcs with h | ⟨g, o, rfl, hlc, hcell⟩
      · rw [h] at hlt; simp at hlt
      obtain ⟨p0, p1, p2⟩ := hcell k hlt
      clear hcell
      have HN : Hid (Calls Tryz.prog 42 #[.agg #[.string (str (nth ps k).1), .string (str (nth ps k).2.1), .bool (nth ps k).2.2]] wr fun e w' => e = .returned (.bool (noVal (nth ps k))) ∧ Below wr.heap.size wr w') :=
        noVal_any _ (HM.out.at k hlt).1 wr
      have HT : noVal (nth ps k) = true → Hid (idxB noVal ps = k) := fun h => idxB_at hlt h hall.out
      have HF : noVal (nth ps k) = false → Hid (∀ j, j < k + 1 → noVal (nth ps j) = false) := fun h j hj => by
        by_cases hjk : j = k
        · subst hjk; exact h
        · exact hall.out j (by omega)
      generalize str (nth ps k).1 = X at p0 HN
      generalize str (nth ps k).2.1 = Y at p1 HN
      generalize noVal (nth ps k) = b at HN HT HF
      generalize (nth ps k).2.2 = Z at p2 HN
      cases b with
      | true =>
        have HT2 := HT rfl
        clear HT HF
        go_wp2_with fail
        refine HN.out.mono ?_
        rintro e w2 ⟨rfl, hb2⟩
        have HB2 : Hid (Below w.heap.size w w2) := bel_trans hbl.out hb2
        clear hb2
        go_wp2
        go_ret
        exact ⟨ret_int HT2.out.symm, HB2.out⟩
      | false =>
        have HF2 := HF rfl
        clear HT HF
        go_wp2_with fail
        refine HN.out.mono ?_
        rintro e w2 ⟨rfl, hb2⟩
        have HB2 : Hid (Below w.heap.size w w2) := bel_trans hbl.out hb2
        clear hb2
        go_wp2
        go_roundw
        case rel => exact ⟨k + 1, by omega, by go_num, HF2, HB2⟩
        case measure => simp [intOf]; omega
    · have HE : Hid (idxB noVal ps = -1) := idxB_none (fun j hj => hall.out j (by omega))
      go_wp2
      go_ret
      exact ⟨ret_int HE.out.symm, hbl.out⟩

set_option maxRecDepth 100000 in
set_option maxHeartbeats 1000000 in
theorem ContainsFunc_noVal (v : Value) (ps : List Prm) (hM : EachP maxLen ps) (hl : ps.length ≤ 4294967296) (w : World) (hrd : RdP v ps w) :
    Calls Tryz.prog 41 #[v, .func (.func 42) #[] #[]] w fun e w' => e = .returned (.bool (ps.any noVal)) ∧ Below w.heap.size w w' := by
  have H := IndexFunc_noVal v ps hM hl w hrd
  have HA : Hid (decide (0 ≤ idxB noVal ps) = ps.any noVal) := idxB_any _ _
  clear hrd hM
  generalize idxB noVal ps = z at *
  generalize ps.any noVal = b at *
  go_enter Tryz.func41, Tryz.ntmps41
  go_wp2_with fail
  refine H.mono ?_
  rintro e w2 ⟨rfl, hb2⟩
  go_wp2
  go_ret
  exact ⟨ret_bool HA.out, hb2⟩

set_option maxRecDepth 100000 in
set_option maxHeartbeats 1000000 in
theorem allValued_any (v : Value) (ps : List Prm) (hM : EachP maxLen ps) (hl : ps.length ≤ 4294967296) (w : World) (hrd : RdP v ps w) :
    Calls Tryz.prog 20 #[v] w fun e w' => e = .returned (.bool (!ps.any noVal)) ∧ Below w.heap.size w w' := by
  have H := ContainsFunc_noVal v ps hM hl w hrd
  clear hrd hM
  generalize ps.any noVal = b at *
  go_enter Tryz.func20, Tryz.ntmps20
  go_wp2_with fail
  refine H.mono ?_
  rintro e w2 ⟨rfl, hb2⟩
  go_wp2
  go_ret
  exact ⟨rfl, hb2⟩

set_option maxRecDepth 100000 in
set_option maxHeartbeats 1000000 in
theorem isQ_any (p : Prm) (hp : p.1.length ≤ maxLen) (w : World) :
    Calls Tryz.prog 52 #[.agg #[.string (str p.1), .string (str p.2.1), .bool p.2.2]] w fun e w' => e = .returned (.bool (isQ p)) ∧ Below w.heap.size w w' := by
  obtain ⟨n, v, b⟩ := p
  dsimp only at hp ⊢
  obtain ⟨w2, hw2⟩ : ∃ w2, w2 = w.alloc (.cells #[.string (str n), .string (str v), .bool b] 95) := ⟨_, rfl⟩
  have R1 : w2.heap[w.heap.size]? = some (.cells #[.string (str n), .string (str v), .bool b] 95 (0, 0)) := by
    rw [hw2]; exact heap_alloc_new w _
  have HB2 : Hid (Below w.heap.size w w2) := by show Below _ _ _; rw [hw2]; exact (Below.refl _ w).alloc (Nat.le_refl _) _
  have c0 := Lib.cell_of_heap R1 0
  have c2 := Lib.cell_of_heap R1 2
  simp at c0 c2
  clear R1
  have HQ : Hid (((str n).toList == [113]) = isQ (n, v, b)) := by
    have h := veq n [113]
    have e : (str [113]).toList = [113] := by rw [Lib.toList_data]; rfl
    rw [e] at h
    exact h
  clear c2 hp
  subst hw2
  go_enter Tryz.func52, Tryz.ntmps52
  go_wp2
  go_ret
  exact ⟨ret_bool HQ.out, HB2.out⟩

set_option maxRecDepth 100000 in
set_option maxHeartbeats 2000000 in
theorem IndexFunc_isQ (v : Value) (ps : List Prm) (hM : EachP maxLen ps) (hl : ps.length ≤ 4294967296) (w : World) (hrd : RdP v ps w) :
    Calls Tryz.prog 51 #[v, .func (.func 52) #[] #[]] w fun e w' => e = .returned (.int .i64 (idxB isQ ps)) ∧ Below w.heap.size w w' := by
  have HR : Hid (RdP v ps w) := hrd
  have HM : Hid (EachP maxLen ps) := hM
  obtain ⟨a, c, rfl, _⟩ := hrd
  clear hM
  go_enter Tryz.func51, Tryz.ntmps51
  go_wp2
  go_loopw [8] (fun i wr => ∃ k : Nat, k ≤ ps.length ∧ i = .int .i64 k ∧ Hid (∀ j, j < k → isQ (nth ps j) = false) ∧ Hid (Below w.heap.size w wr)) (fun i _ => ps.length - (intOf i).toNat)
  case atStart => exact ⟨0, Nat.zero_le _, rfl, (fun j hj => by omega : ∀ j, j < 0 → _), Below.refl _ _⟩
  case round =>
    obtain ⟨k, hk, rfl, hall, hbl⟩ := hrel
    by_cases hlt : k < ps.length
    · obtain ⟨a', c', e', hcs⟩ := HR.out.below hbl.out
      injection e' with e1 _ e2
      subst e1 e2
      rcases hcs with h | ⟨g, o, rfl, hlc, hcell⟩
      · rw [h] at hlt; simp at hlt
      obtain ⟨p0, p1, p2⟩ := hcell k hlt
      clear hcell
      have HN : Hid (Calls Tryz.prog 52 #[.agg #[.string (str (nth ps k).1), .string (str (nth ps k).2.1), .bool (nth ps k).2.2]] wr fun e w' => e = .returned (.bool (isQ (nth ps k))) ∧ Below wr.heap.size wr w') :=
        isQ_any _ (HM.out.at k hlt).1 wr
      have HT : isQ (nth ps k) = true → Hid (idxB isQ ps = k) := fun h => idxB_at hlt h hall.out
      have HF : isQ (nth ps k) = false → Hid (∀ j, j < k + 1 → isQ (nth ps j) = false) := fun h j hj => by
        by_cases hjk : j = k
        · subst hjk; exact h
        · exact hall.out j (by omega)
      generalize str (nth ps k).1 = X at p0 HN
      generalize str (nth ps k).2.1 = Y at p1 HN
      generalize isQ (nth ps k) = b at HN HT HF
      generalize (nth ps k).2.2 = Z at p2 HN
      cases b with
      | true =>
        have HT2 := HT rfl
        clear HT HF
        go_wp2_with fail
        refine HN.out.mono ?_
        rintro e w2 ⟨rfl, hb2⟩
        have HB2 : Hid (Below w.heap.size w w2) := bel_trans hbl.out hb2
        clear hb2
        go_wp2
        go_ret
        exact ⟨ret_int HT2.out.symm, HB2.out⟩
      | false =>
        have HF2 := HF rfl
        clear HT HF
        go_wp2_with fail
        refine HN.out.mono ?_
        rintro e w2 ⟨rfl, hb2⟩
        have HB2 : Hid (Below w.heap.size w w2) := bel_trans hbl.out hb2
        clear hb2
        go_wp2
        go_roundw
        case rel => exact ⟨k + 1, by omega, by go_num, HF2, HB2⟩
        case measure => simp [intOf]; omega
    · have HE : Hid (idxB isQ ps = -1) := idxB_none (fun j hj => hall.out j (by omega))
      go_wp2
      go_ret
      exact ⟨ret_int HE.out.symm, hbl.out⟩

end Ac
end Go.Proofs.YthfckgdaencagaaGreatDoor

/-
  Whether a media type is met by a range: alikeTo, paramsMeet, partMeets, Meets.
-/
set_option linter.unusedVariables false
set_option linter.unusedSimpArgs false
namespace Go.Proofs.YthfckgdaencagaaGreatDoor
open Go.RowKit Go.Shelf
namespace Ac
open Oc Tg

/-- Is one parameter alike to another: the name without regard to case, the value as it is? -/
def alP (p q : Prm) : Bool := decide (lowS (str p.1) = lowS (str q.1)) && decide (p.2.1 = q.2.1)
/-- A parameter in a block. -/
def ParB (w : World) (B : Nat) (p : Prm) : Prop := w.cell? ⟨B, 0, none⟩ = some (.string (str p.1)) ∧ w.cell? ⟨B, 1, none⟩ = some (.string (str p.2.1))
theorem ParB.below {w w' : World} {B : Nat} {p : Prm} (h : ParB w B p) (b : Below w.heap.size w w') : ParB w' B p :=
  ⟨(b.cell (World.block_lt_of_cell? _ _ h.1)).trans h.1, (b.cell (World.block_lt_of_cell? _ _ h.2)).trans h.2⟩

set_option maxRecDepth 100000 in
set_option maxHeartbeats 1000000 in
theorem alP_any (p q : Prm) (B : Nat) (hp : p.1.length ≤ maxLen) (hq : q.1.length ≤ maxLen) (w : World) (hB : ParB w B p) :
    Calls Tryz.prog 103 #[.agg #[.string (str q.1), .string (str q.2.1), .bool q.2.2], .pointer (some ⟨B, 0, none⟩)] w fun e w' => e = .returned (.bool (alP p q)) ∧ Below w.heap.size w w' := by
  obtain ⟨w2, hw2⟩ : ∃ w2, w2 = w.alloc (.cells #[.string (str q.1), .string (str q.2.1), .bool q.2.2] 95) := ⟨_, rfl⟩
  have hb2 : Below w.heap.size w w2 := by rw [hw2]; exact (Below.refl _ w).alloc (Nat.le_refl _) _
  have R1 : w2.heap[w.heap.size]? = some (.cells #[.string (str q.1), .string (str q.2.1), .bool q.2.2] 95 (0, 0)) := by rw [hw2]; exact heap_alloc_new w _
  obtain ⟨d0, d1⟩ := hB.below hb2
  have b0 := hB.1
  have hBlt : B < w.heap.size := World.block_lt_of_cell? _ _ b0
  have c0 := Lib.cell_of_heap R1 0
  have c1 := Lib.cell_of_heap R1 1
  simp only [List.getElem?_toArray, List.getElem?_cons_zero, List.getElem?_cons_succ] at c0 c1
  have HC : Hid (∀ W, Calls Tryz.prog 89 #[.string (str p.1), .string (str q.1)] W fun e w' => e = .returned (.bool (decide (lowS (str p.1) = lowS (str q.1)))) ∧ Below (World.heap W).size W w') := fun W => Same_any _ _ (by rw [str_size]; exact hp) (by rw [str_size]; exact hq) W
  have HV : Hid (alP p q = (decide (lowS (str p.1) = lowS (str q.1)) && ((str p.2.1).toList == (str q.2.1).toList))) := (by rw [veq]; rfl : alP p q = _)
  have HB2 : Hid (Below w.heap.size w w2) := hb2
  have HX : Hid (∀ W, Below w2.heap.size w2 W → W.cell? ⟨B, 1, none⟩ = some (.string (str p.2.1)) ∧ W.cell? ⟨w.heap.size, 1, none⟩ = some (.string (str q.2.1))) := fun W b => ⟨(b.cell (World.block_lt_of_cell? _ _ d1)).trans d1, (b.cell (World.block_lt_of_cell? _ _ c1)).trans c1⟩
  clear R1 hb2 hB d1 c1
  generalize alP p q = V at *
  generalize decide (lowS (str p.1) = lowS (str q.1)) = A at *
  generalize str p.1 = P1 at *
  generalize str p.2.1 = P2 at *
  generalize str q.1 = Q1 at *
  generalize str q.2.1 = Q2 at *
  generalize q.2.2 = Q3 at *
  clear d0 c0
  subst hw2
  go_enter Tryz.func103, Tryz.ntmps103
  go_wp2_with fail
  refine (HC.out _).mono ?_
  rintro e w3 ⟨rfl, hb3⟩
  obtain ⟨x1, x2⟩ := HX.out _ hb3
  have HB3 : Hid (Below w.heap.size w w3) := bel_trans HB2.out hb3
  clear hb3 b0
  cases A
  all_goals
    go_wp2
    go_ret
    exact ⟨by rw [HV.out]; rfl, HB3.out⟩

set_option maxRecDepth 100000 in
theorem alikeTo_any (p : Prm) (w : World) :
    Calls Tryz.prog 90 #[.agg #[.string (str p.1), .string (str p.2.1), .bool p.2.2]] w fun e w' => e = .returned (.func (.func 103) #[] #[.pointer (some ⟨w.heap.size, 0, none⟩)]) ∧ ParB w' w.heap.size p ∧ Below w.heap.size w w' := by
  have R1 := heap_alloc_new w (.cells #[.string (str p.1), .string (str p.2.1), .bool p.2.2] 95)
  have c0 := Lib.cell_of_heap R1 0
  have c1 := Lib.cell_of_heap R1 1
  simp only [List.getElem?_toArray, List.getElem?_cons_zero, List.getElem?_cons_succ] at c0 c1
  have HP : Hid (ParB (w.alloc (.cells #[.string (str p.1), .string (str p.2.1), .bool p.2.2] 95)) w.heap.size p) := ⟨c0, c1⟩
  clear R1 c0 c1
  go_enter Tryz.func90, Tryz.ntmps90
  go_wp2
  go_ret
  exact ⟨rfl, HP.out, (Below.refl _ w).alloc (Nat.le_refl _) _⟩

set_option maxRecDepth 100000 in
set_option maxHeartbeats 2000000 in
theorem IndexFunc_alP (v : Value) (ps : List Prm) (p : Prm) (B : Nat) (hp : p.1.length ≤ maxLen) (hM : EachP maxLen ps) (hl : ps.length ≤ 4294967296) (w : World) (hB : ParB w B p) (hrd : RdP v ps w) :
    Calls Tryz.prog 51 #[v, .func (.func 103) #[] #[.pointer (some ⟨B, 0, none⟩)]] w fun e w' => e = .returned (.int .i64 (idxB (alP p) ps)) ∧ Below w.heap.size w w' := by
  have HR : Hid (RdP v ps w) := hrd
  have HM : Hid (EachP maxLen ps) := hM
  obtain ⟨a, c, rfl, _⟩ := hrd
  have HPB : Hid (ParB w B p) := hB
  clear hM hB
  go_enter Tryz.func51, Tryz.ntmps51
  go_wp2
  go_loopw [8] (fun i wr => ∃ k : Nat, k ≤ ps.length ∧ i = .int .i64 k ∧ Hid (∀ j, j < k → alP p (nth ps j) = false) ∧ Hid (Below w.heap.size w wr)) (fun i _ => ps.length - (intOf i).toNat)
  case atStart => exact ⟨0, Nat.zero_le _, rfl, (fun j hj => by omega : ∀ j, j < 0 → _), Below.refl _ _⟩
  case round =>
    obtain ⟨k, hk, rfl, hall, hbl⟩ := hrel
    by_cases hlt : k < ps.length
    · obtain ⟨a', c', e', hcs⟩ := HR.out.below hbl.out
      injection e' with e1 _ e2
      subst e1 e2
      rcases hcs with h | ⟨g, o, rfl, hlc, hcell⟩
      · rw [h] at hlt; simp at hlt
      obtain ⟨p0, p1, p2⟩ := hcell k hlt
      clear hcell
      have HN : Hid (Calls Tryz.prog 103 #[.agg #[.string (str (nth ps k).1), .string (str (nth ps k).2.1), .bool (nth ps k).2.2], .pointer (some ⟨B, 0, none⟩)] wr fun e w' => e = .returned (.bool (alP p (nth ps k))) ∧ Below wr.heap.size wr w') :=
        alP_any p _ B hp (HM.out.at k hlt).1 wr (HPB.out.below hbl.out)
      have HT : alP p (nth ps k) = true → Hid (idxB (alP p) ps = k) := fun h => idxB_at hlt h hall.out
      have HF : alP p (nth ps k) = false → Hid (∀ j, j < k + 1 → alP p (nth ps j) = false) := fun h j hj => by
        by_cases hjk : j = k
        · subst hjk; exact h
        · exact hall.out j (by omega)
      generalize str (nth ps k).1 = X at p0 HN
      generalize str (nth ps k).2.1 = Y at p1 HN
      generalize alP p (nth ps k) = b at HN HT HF
      generalize (nth ps k).2.2 = Z at p2 HN
      cases b with
      | true =>
        have HT2 := HT rfl
        clear HT HF
        go_wp2_with fail
        refine HN.out.mono ?_
        rintro e w2 ⟨rfl, hb2⟩
        have HB2 : Hid (Below w.heap.size w w2) := bel_trans hbl.out hb2
        clear hb2
        go_wp2
        go_ret
        exact ⟨ret_int HT2.out.symm, HB2.out⟩
      | false =>
        have HF2 := HF rfl
        clear HT HF
        go_wp2_with fail
        refine HN.out.mono ?_
        rintro e w2 ⟨rfl, hb2⟩
        have HB2 : Hid (Below w.heap.size w w2) := bel_trans hbl.out hb2
        clear hb2
        go_wp2
        go_roundw
        case rel => exact ⟨k + 1, by omega, by go_num, HF2, HB2⟩
        case measure => simp [intOf]; omega
    · have HE : Hid (idxB (alP p) ps = -1) := idxB_none (fun j hj => hall.out j (by omega))
      go_wp2
      go_ret
      exact ⟨ret_int HE.out.symm, hbl.out⟩

set_option maxRecDepth 100000 in
set_option maxHeartbeats 1000000 in
theorem ContainsFunc_alP (v : Value) (ps : List Prm) (p : Prm) (B : Nat) (hp : p.1.length ≤ maxLen) (hM : EachP maxLen ps) (hl : ps.length ≤ 4294967296) (w : World) (hB : ParB w B p) (hrd : RdP v ps w) :
    Calls Tryz.prog 41 #[v, .func (.func 103) #[] #[.pointer (some ⟨B, 0, none⟩)]] w fun e w' => e = .returned (.bool (ps.any (alP p))) ∧ Below w.heap.size w w' := by
  have H := IndexFunc_alP v ps p B hp hM hl w hB hrd
  have HA : Hid (decide (0 ≤ idxB (alP p) ps) = ps.any (alP p)) := idxB_any _ _
  clear hrd hM hB
  generalize idxB (alP p) ps = z at *
  generalize ps.any (alP p) = b at *
  go_enter Tryz.func41, Tryz.ntmps41
  go_wp2_with fail
  refine H.mono ?_
  rintro e w2 ⟨rfl, hb2⟩
  go_wp2
  go_ret
  exact ⟨ret_bool HA.out, hb2⟩

def parMt (rs ms : List Prm) : Bool := rs.all fun p => ms.any (alP p)
theorem parMt_no {rs ms : List Prm} {k : Nat} (hk : k < rs.length) (h : ms.any (alP (nth rs k)) = false) : parMt rs ms = false := by
  unfold parMt
  rw [List.all_eq_false]
  refine ⟨rs[k], List.getElem_mem hk, ?_⟩
  unfold nth at h
  rw [List.getD_eq_getElem?_getD, List.getElem?_eq_getElem hk] at h
  have h' : ms.any (alP rs[k]) = false := h
  rw [h']
  simp
theorem parMt_yes {rs ms : List Prm} (h : ∀ k, k < rs.length → ms.any (alP (nth rs k)) = true) : parMt rs ms = true := by
  unfold parMt
  rw [List.all_eq_true]
  intro x hx
  obtain ⟨j, hj, rfl⟩ := List.mem_iff_getElem.1 hx
  have := h j hj
  unfold nth at this
  rwa [List.getD_eq_getElem?_getD, List.getElem?_eq_getElem hj] at this

set_option maxRecDepth 100000 in
set_option maxHeartbeats 2000000 in
theorem paramsMeet_any (v u : Value) (rs ms : List Prm) (hR : EachP maxLen rs) (hM : EachP maxLen ms) (hl : rs.length ≤ 16777216) (hl2 : ms.length ≤ 16777216) (w : World) (hv : RdP v rs w) (hu : RdP u ms w) :
    Calls Tryz.prog 72 #[v, u] w fun e w' => e = .returned (.bool (parMt rs ms)) ∧ Below w.heap.size w w' := by
  have HV : Hid (RdP v rs w) := hv
  have HR : Hid (EachP maxLen rs) := hR
  have HA : Hid (∀ (p : Prm) W, Calls Tryz.prog 90 #[.agg #[.string (str p.1), .string (str p.2.1), .bool p.2.2]] W fun e w' => e = .returned (.func (.func 103) #[] #[.pointer (some ⟨(World.heap W).size, 0, none⟩)]) ∧ ParB w' (World.heap W).size p ∧ Below (World.heap W).size W w') := fun p W => alikeTo_any p W
  have HC : Hid (∀ (p : Prm) B W, p.1.length ≤ maxLen → ParB W B p → Below w.heap.size w W → Calls Tryz.prog 41 #[u, .func (.func 103) #[] #[.pointer (some ⟨B, 0, none⟩)]] W fun e w' => e = .returned (.bool (ms.any (alP p))) ∧ Below (World.heap W).size W w') := fun p B W hp hB b => ContainsFunc_alP u ms p B hp hM (by omega) W hB (hu.below b)
  have HN : Hid (∀ k, k < rs.length → ms.any (alP (nth rs k)) = false → parMt rs ms = false) := fun k hk h => parMt_no hk h
  have HY : Hid ((∀ k, k < rs.length → ms.any (alP (nth rs k)) = true) → parMt rs ms = true) := fun h => parMt_yes h
  obtain ⟨a, c, rfl, _⟩ := hv
  obtain ⟨a2, c2, rfl, _⟩ := hu
  clear hR hM
  generalize parMt rs ms = V at *
  go_enter Tryz.func72, Tryz.ntmps72
  go_wp2
  go_loopw [9] (fun i wr => ∃ k : Nat, k ≤ rs.length ∧ i = .int .i64 k ∧ Hid (∀ j, j < k → ms.any (alP (nth rs j)) = true) ∧ Hid (Below w.heap.size w wr)) (fun i _ => rs.length - (intOf i).toNat)
  case atStart => exact ⟨0, Nat.zero_le _, rfl, (fun j hj => absurd hj (Nat.not_lt_zero _) : ∀ j, j < 0 → _), Below.refl _ _⟩
  case round =>
    obtain ⟨k, hk, rfl, hall, hbl⟩ := hrel
    have hsz := hbl.out.size
    by_cases hlt : k < rs.length
    · obtain ⟨a', c', e', hcs⟩ := HV.out.below hbl.out
      injection e' with e1 _ e2
      subst e1 e2
      rcases hcs with h | ⟨g, o, rfl, hlc, hcell⟩
      · rw [h] at hlt; simp at hlt
      obtain ⟨p0, p1, p2⟩ := hcell k hlt
      have hE := (HR.out.at k hlt).1
      have HAk := HA.out (nth rs k)
      have HCk : Hid (∀ B W, ParB W B (nth rs k) → Below w.heap.size w W → Calls Tryz.prog 41 #[.slice a2 ms.length c2, .func (.func 103) #[] #[.pointer (some ⟨B, 0, none⟩)]] W fun e w' => e = .returned (.bool (ms.any (alP (nth rs k)))) ∧ Below (World.heap W).size W w') := fun B W hB b => HC.out (nth rs k) B W hE hB b
      have HAk' : Hid (∀ W, _) := fun W => HAk W
      have FF : ms.any (alP (nth rs k)) = false → Hid (V = false) := fun h => HN.out k hlt h
      have TT : ms.any (alP (nth rs k)) = true → Hid (∀ j, j < k + 1 → ms.any (alP (nth rs j)) = true) := fun h j hj => by
        rcases Nat.lt_succ_iff_lt_or_eq.1 hj with h' | rfl
        · exact hall.out j h'
        · exact h
      have hb1 : Below wr.heap.size wr (wr.alloc (.cells #[.string (str (nth rs k).1), .string (str (nth rs k).2.1), .bool (nth rs k).2.2] 95)) := (Below.refl _ wr).alloc (Nat.le_refl _) _
      have HB1 : Hid (Below w.heap.size w (wr.alloc (.cells #[.string (str (nth rs k).1), .string (str (nth rs k).2.1), .bool (nth rs k).2.2] 95))) := bel_trans hbl.out hb1
      clear hcell hall hb1 HAk hE
      generalize ms.any (alP (nth rs k)) = b at *
      generalize nth rs k = p at *
      generalize str p.1 = N1 at *
      generalize str p.2.1 = N2 at *
      generalize p.2.2 = N3 at *
      go_wp2_with fail
      refine (HAk'.out _).mono ?_
      rintro e w2 ⟨rfl, hp2, hb2⟩
      rw [World.size_alloc] at hp2
      have HP2 : Hid (ParB w2 (wr.heap.size + 1) p) := hp2
      have HB2 : Hid (Below w.heap.size w w2) := bel_trans HB1.out hb2
      clear hp2 hb2
      go_wp2_with fail
      refine (HCk.out _ _ HP2.out HB2.out).mono ?_
      rintro e w3 ⟨rfl, hb3⟩
      have HB3 : Hid (Below w.heap.size w w3) := bel_trans HB2.out hb3
      clear hb3
      cases b with
      | true =>
        have tt := TT rfl
        clear TT FF
        go_wp2
        go_roundw
        case rel => exact ⟨k + 1, by omega, by go_num, tt, HB3⟩
        case measure => simp [intOf]; omega
      | false =>
        have ff := FF rfl
        clear TT FF
        go_wp2
        go_ret
        refine ⟨?_, HB3.out⟩
        rw [ff.out]
        rfl
    · obtain rfl : k = rs.length := by omega
      have HF : Hid (V = true) := HY.out hall.out
      clear hall
      go_wp2
      go_ret
      refine ⟨?_, hbl.out⟩
      rw [HF.out]
      rfl

def prtM (x y : ByteArray) : Bool := (x.toList == [42]) || decide (lowS x = lowS y)

set_option maxRecDepth 100000 in
theorem partMeets_any (x y : ByteArray) (hx : x.size ≤ maxLen) (hy : y.size ≤ maxLen) (w : World) :
    Calls Tryz.prog 71 #[.string x, .string y] w fun e w' => e = .returned (.bool (prtM x y)) ∧ Below w.heap.size w w' := by
  have HC : Hid (∀ W, Calls Tryz.prog 89 #[.string x, .string y] W fun e w' => e = .returned (.bool (decide (lowS x = lowS y))) ∧ Below (World.heap W).size W w') := fun W => Same_any _ _ hx hy W
  have HV : Hid (prtM x y = ((x.toList == [42]) || decide (lowS x = lowS y))) := (rfl : _ = _)
  generalize prtM x y = V at *
  generalize decide (lowS x = lowS y) = A at *
  cases hs : (x.toList == [42]) with
  | true =>
    rw [hs] at HV
    go_enter Tryz.func71, Tryz.ntmps71
    go_wp2
    go_ret
    exact ⟨by rw [HV.out]; rfl, Below.refl _ _⟩
  | false =>
    rw [hs] at HV
    go_enter Tryz.func71, Tryz.ntmps71
    go_wp2_with fail
    refine (HC.out _).mono ?_
    rintro e w2 ⟨rfl, hb2⟩
    have HB2 : Hid (Below w.heap.size w w2) := hb2
    clear hb2
    go_wp2
    go_ret
    exact ⟨by rw [HV.out]; rfl, HB2.out⟩

def metM (A B C D : ByteArray) (rs ms : List Prm) : Bool := (prtM A C && prtM B D) && parMt rs ms

set_option maxRecDepth 100000 in
set_option maxHeartbeats 2000000 in
theorem Meets_any (A B C D : ByteArray) (v u : Value) (rs ms : List Prm) (hA : A.size ≤ maxLen) (hB : B.size ≤ maxLen) (hC : C.size ≤ maxLen) (hD : D.size ≤ maxLen) (hR : EachP maxLen rs) (hM : EachP maxLen ms) (hl : rs.length ≤ 16777216) (hl2 : ms.length ≤ 16777216) (w : World) (hv : RdP v rs w) (hu : RdP u ms w) :
    Calls Tryz.prog 44 #[.agg #[.string A, .string B, v], .agg #[.string C, .string D, u]] w fun e w' => e = .returned (.bool (metM A B C D rs ms)) ∧ Below w.heap.size w w' := by
  obtain ⟨w2, hw2⟩ : ∃ w2, w2 = (w.alloc (.cells #[.string A, .string B, v] 35)).alloc (.cells #[.string C, .string D, u] 35) := ⟨_, rfl⟩
  have hb2 : Below w.heap.size w w2 := by rw [hw2]; exact ((Below.refl _ w).alloc (Nat.le_refl _) _).alloc (by simp) _
  have R1 : w2.heap[w.heap.size]? = some (.cells #[.string A, .string B, v] 35 (0, 0)) := by
    rw [hw2, Below.heap_alloc _ _ _ (by simp)]
    exact heap_alloc_new w _
  have R2 : w2.heap[w.heap.size + 1]? = some (.cells #[.string C, .string D, u] 35 (0, 0)) := by
    rw [hw2]
    have := heap_alloc_new (w.alloc (.cells #[.string A, .string B, v] 35)) (.cells #[.string C, .string D, u] 35)
    rwa [World.size_alloc] at this
  have HX : Hid (∀ W, Below w2.heap.size w2 W → (W.cell? ⟨w.heap.size, 0, none⟩ = some (.string A) ∧ W.cell? ⟨w.heap.size, 1, none⟩ = some (.string B) ∧ W.cell? ⟨w.heap.size, 2, none⟩ = some v) ∧ (W.cell? ⟨w.heap.size + 1, 0, none⟩ = some (.string C) ∧ W.cell? ⟨w.heap.size + 1, 1, none⟩ = some (.string D) ∧ W.cell? ⟨w.heap.size + 1, 2, none⟩ = some u)) := fun W b => by
    have S1 := (b.block _ (Array.getElem?_eq_some_iff.1 R1).1).trans R1
    have S2 := (b.block _ (Array.getElem?_eq_some_iff.1 R2).1).trans R2
    exact ⟨⟨Lib.cell_of_heap S1 0, Lib.cell_of_heap S1 1, Lib.cell_of_heap S1 2⟩, ⟨Lib.cell_of_heap S2 0, Lib.cell_of_heap S2 1, Lib.cell_of_heap S2 2⟩⟩
  have H1 : Hid (∀ W, Calls Tryz.prog 71 #[.string A, .string C] W fun e w' => e = .returned (.bool (prtM A C)) ∧ Below (World.heap W).size W w') := fun W => partMeets_any A C hA hC W
  have H2 : Hid (∀ W, Calls Tryz.prog 71 #[.string B, .string D] W fun e w' => e = .returned (.bool (prtM B D)) ∧ Below (World.heap W).size W w') := fun W => partMeets_any B D hB hD W
  have H3 : Hid (∀ W, Below w.heap.size w W → Calls Tryz.prog 72 #[v, u] W fun e w' => e = .returned (.bool (parMt rs ms)) ∧ Below (World.heap W).size W w') := fun W b => paramsMeet_any v u rs ms hR hM hl hl2 W (hv.below b) (hu.below b)
  have HV : Hid (metM A B C D rs ms = ((prtM A C && prtM B D) && parMt rs ms)) := (rfl : _ = _)
  have HB2 : Hid (Below w.heap.size w w2) := hb2
  obtain ⟨⟨x0, x1, x2⟩, ⟨y0, y1, y2⟩⟩ := HX.out w2 (Below.refl _ _)
  obtain ⟨a, c, rfl, _⟩ := hv
  obtain ⟨a2, c2, rfl, _⟩ := hu
  clear hR hM R1 R2 hb2
  generalize metM A B C D rs ms = V at *
  generalize prtM A C = P1 at *
  generalize prtM B D = P2 at *
  generalize parMt rs ms = P3 at *
  go_enter Tryz.func44, Tryz.ntmps44
  go_wp2_with fail
  rw [← hw2]
  clear hw2
  go_wp2_with fail
  refine (H1.out _).mono ?_
  rintro e w3 ⟨rfl, hb3⟩
  have HB3 : Hid (Below w2.heap.size w2 w3) := hb3
  clear hb3 x0 x1 x2 y0 y1 y2
  cases P1 with
  | false =>
    go_wp2
    go_ret
    exact ⟨by rw [HV.out]; rfl, bel_trans HB2.out HB3.out⟩
  | true =>
    obtain ⟨⟨x0, x1, x2⟩, ⟨y0, y1, y2⟩⟩ := HX.out w3 HB3.out
    go_wp2_with fail
    refine (H2.out _).mono ?_
    rintro e w4 ⟨rfl, hb4⟩
    have HB4 : Hid (Below w2.heap.size w2 w4) := bel_trans HB3.out hb4
    clear hb4 x0 x1 x2 y0 y1 y2
    cases P2 with
    | false =>
      go_wp2
      go_ret
      exact ⟨by rw [HV.out]; rfl, bel_trans HB2.out HB4.out⟩
    | true =>
      obtain ⟨⟨x0, x1, x2⟩, ⟨y0, y1, y2⟩⟩ := HX.out w4 HB4.out
      go_wp2_with fail
      refine (H3.out _ (bel_trans HB2.out HB4.out)).mono ?_
      rintro e w5 ⟨rfl, hb5⟩
      have HB5 : Hid (Below w.heap.size w w5) := bel_trans (bel_trans HB2.out HB4.out) hb5
      clear hb5 x0 x1 x2 y0 y1 y2
      go_wp2
      go_ret
      exact ⟨by rw [HV.out]; rfl, HB5.out⟩

end Ac
end Go.Proofs.YthfckgdaencagaaGreatDoor
