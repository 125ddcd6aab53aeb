/- Several texts as one. -/
import Derived.Test.YtfpncbgedhodaaaDoorMgO
import Derived.Test.YtfpncbgedhodaaaDoorMgM
import Derived.Maps.OwnSet
/-
  Has, and the document's.
-/
set_option linter.unusedVariables false
set_option linter.unusedSimpArgs false
namespace Go.Proofs.YtfpncbgedhodaaaDoor
open Go.RowKit Go.Shelf
namespace Fd
open Oc Tg

theorem contains_eq (L : List (List UInt8)) (x : List UInt8) : Lib.containsS (L.map str) (str x) = inL L x := by
  rw [Bool.eq_iff_iff, Lib.containsS_iff]
  unfold inL
  rw [List.contains_iff_mem]
  constructor
  · intro h
    obtain ⟨y, hy, e⟩ := List.mem_map.1 h
    rw [← str_inj e]
    exact hy
  · intro h
    exact List.mem_map.2 ⟨x, h, rfl⟩

set_option maxRecDepth 100000 in
set_option maxHeartbeats 1000000 in
theorem contains_nil (a : Option Addr) (c : Nat) (x : ByteArray) (w : World) :
    Calls Tryd.prog 48 #[.slice a 0 c, .string x] w fun e w' => e = .returned (.bool false) ∧ w' = w := by
  have HI : Hid (∀ w, Calls Tryd.prog 75 #[.slice a 0 c, .string x] w fun e w' => e = .returned (.int .i64 (-1)) ∧ w' = w) := fun w => by
    go_enter Tryd.func75, Tryd.ntmps75
    go_wp2
    refine wp_loop_rounds 1 ?_
    rw [rounds_succ]
    go_wp2
    go_ret
    exact ⟨rfl, rfl⟩
  go_enter Tryd.func48, Tryd.ntmps48
  go_wp2_with fail
  refine (HI.out _).mono ?_
  rintro e w2 ⟨rfl, rfl⟩
  go_wp2
  go_ret
  exact ⟨rfl, rfl⟩

theorem Contains_any (v : Value) (L : List (List UInt8)) (x : List UInt8) (hl : L.length ≤ 1048576) (w : World) (h : RdS v L w) :
    Calls Tryd.prog 48 #[v, .string (str x)] w fun e w' => e = .returned (.bool (inL L x)) ∧ w' = w := by
  obtain ⟨a, c, rfl, h⟩ := h
  by_cases h0 : L = []
  · subst h0
    exact contains_nil a c _ w
  · rcases h with h | ⟨g, o, rfl, hc, hcell⟩
    · exact absurd h h0
    · have h := Tryd.slices_Contains_string g o L.length c (L.map str) (str x) w (by simp) (by omega) (fun j hj => by
        rw [List.length_map] at hj
        rw [hcell j hj, List.getD_eq_getElem?_getD, List.getD_eq_getElem?_getD, List.getElem?_map, List.getElem?_eq_getElem hj]
        rfl)
      rw [List.take_of_length_le (by simp), contains_eq] at h
      exact h

def hasF (s : List UInt8) (t : List Fl) (k : List UInt8) : Bool := decide ((tokensF s t).2 = 0) && inL (tokensF s t).1 (lower k)
theorem tokens_len {t : List Fl} (hS : sumF t ≤ 1048576) (s : List UInt8) : (tokensF s t).1.length ≤ 1048576 := by
  have hv := sumV_filter s t
  have hll := listV_len (vals s t) []
  unfold tokensF tokV
  split
  · split
    · rw [List.length_map]
      unfold listF
      simp at hll
      omega
    · simp
  · simp

end Fd
end Go.Proofs.YtfpncbgedhodaaaDoor

/-
  field: a set of texts that the call makes; hopNames.
-/
set_option linter.unusedVariables false
set_option linter.unusedSimpArgs false
namespace Go.Proofs.YtfpncbgedhodaaaDoor
open Go.RowKit Go.Shelf
namespace Fd
open Oc Tg

def litS (x : List UInt8) : Lit := .string x
def setS (L : List (List UInt8)) : DataW Unit := Maps.setOf (.agg []) (L.map litS)
/-- Block B is a map whose keys are L. -/
def MS (B n : Nat) (L : List (List UInt8)) (w : World) : Prop := w.ownsMap Tryd.prog 9 (unitElem (H := Unit)) B n (setS L)
theorem lawS : Maps.Keyed Tryd.prog 9 := Maps.string_keyed Tryd.underlying9
theorem keyS (x : List UInt8) (h : x.length ≤ maxLen) : keyOf Tryd.prog 9 (.string (str x)) = some (litS x) := by
  have := WideMaps.keyOf_string_mk (P := Tryd.prog) Tryd.underlying9 (s := str x) (by rw [str_size]; exact h)
  rw [str_list] at this
  exact this
theorem same_litS (x y : List UInt8) : (litS x).sameKey (litS y) = (x == y) := rfl
theorem has_setS (L : List (List UInt8)) (x : List UInt8) : Maps.has (setS L) (litS x) = inL L x := by
  unfold setS
  rw [Maps.has_setOf _ _ _ (by intro y hy; obtain ⟨z, _, rfl⟩ := List.mem_map.1 hy; trivial)]
  unfold inL
  rw [Bool.eq_iff_iff, List.any_eq_true, List.contains_iff_mem]
  constructor
  · rintro ⟨y, hy, he⟩
    obtain ⟨z, hz, rfl⟩ := List.mem_map.1 hy
    rw [same_litS] at he
    rw [← eq_of_beq he]
    exact hz
  · intro h
    exact ⟨litS x, List.mem_map.2 ⟨x, h, rfl⟩, by rw [same_litS]; simp⟩
theorem setS_snoc (L : List (List UInt8)) (x : List UInt8) : setS (L ++ [x]) = (setS L).put (litS x) (.agg []) := by
  unfold setS
  rw [List.map_append, List.map_singleton, Maps.setOf_snoc]

theorem zeroU (w : World) : (zeroValue 85).run Tryd.prog w = .ok (.agg #[]) w := by kernel_rfl

theorem MS.below {B n : Nat} {L : List (List UInt8)} {w w' : World} (h : MS B n L w) (b : Below w.heap.size w w') : MS B n L w' := by
  obtain ⟨es, clock, hb, r⟩ := h
  exact ⟨es, clock, (b.block _ (Array.getElem?_eq_some_iff.1 hb).1).trans hb, r⟩
theorem MS.lt {B n : Nat} {L : List (List UInt8)} {w : World} (h : MS B n L w) : B < w.heap.size := World.ownsMap.lt h

theorem wp_put {ops : Array Oper} {rest : List Oper} {o : Oper} {a : Act} {Q : Exit → Act → World → Prop} (w : World) (hg : o.guard = none) (m x v : Operand) (hop : o.op = Op.mapUpdate 83 m x v ∨ o.op = Op.insert 83 m x v)
    (B n : Nat) (L : List (List UInt8)) (hm : a.eval m = .map (some B)) (h : MS B n L w) (hn : n < maxLen) (k : List UInt8) (hk : k.length ≤ maxLen) (s : ByteArray) (hs : s = str k) (hx : a.eval x = .string s) (hv : a.eval v = .agg #[])
    (hK : ∀ w', Hid (MS B (n + 1) (L ++ [k]) w') → Hid (w.mapTurned w' B) → wpList Tryd.prog ops Q rest (a.put o.dst undef) w') : wpList Tryd.prog ops Q (o :: rest) a w := by
  refine wpList_plain hg fun K' hK' => ?_
  obtain ⟨w', hrun, r1, r2⟩ := World.ownsMap.store (t := 83) h lawS Tryd.underlying83 hn (keyS k hk) unitElem_mk
  rw [← setS_snoc] at r1
  subst hs
  unfold Oper.wp
  rcases hop with hop | hop
  all_goals
    simp [execOp, hop, hm, hx, hv, hrun, Result.andThen]
    exact hK' _ _ (hK w' r1 r2)
theorem turned_below {w0 w w' : World} {B : Nat} (hb : Below w0.heap.size w0 w) (hB : w0.heap.size ≤ B) (h : w.mapTurned w' B) : Below w0.heap.size w0 w' := hb.grown h.grown hb.size (fun k hk => by cases hk; exact hB)
theorem turned_cell {w w' : World} {B : Nat} (h : w.mapTurned w' B) (p : Addr) (hp : p.block ≠ B) : w'.cell? p = w.cell? p := by
  obtain ⟨es, clock, es', clock', hb, rfl⟩ := h
  have e := ChangeMaps.heap_setBlock_other hb (.map es' clock') hp
  unfold World.cell?
  simp only [e]

def hopL : List (List UInt8) := [[99, 111, 110, 110, 101, 99, 116, 105, 111, 110], [107, 101, 101, 112, 45, 97, 108, 105, 118, 101], [112, 114, 111, 120, 121, 45, 99, 111, 110, 110, 101, 99, 116, 105, 111, 110], [116, 101], [116, 114, 97, 105, 108, 101, 114], [116, 114, 97, 110, 115, 102, 101, 114, 45, 101, 110, 99, 111, 100, 105, 110, 103], [117, 112, 103, 114, 97, 100, 101]]

set_option maxRecDepth 100000 in
set_option maxHeartbeats 1000000 in
theorem hopNames_any (w : World) : Calls Tryd.prog 51 #[] w fun e w' => e = .returned (.map (some w.heap.size)) ∧ MS w.heap.size 7 hopL w' ∧ Below w.heap.size w w' := by
  have hmm := @run_makeMap Tryd.prog
  have H0 : Hid (MS w.heap.size 0 [] (w.alloc (.map #[] 0))) := World.ownsMap_made _ _ _ _
  have HB0 : Hid (Below w.heap.size w (w.alloc (.map #[] 0))) := (Below.refl _ w).alloc (Nat.le_refl _) _
  go_enter Tryd.func51, Tryd.ntmps51
  go_wp2_with (first
    | (refine wp_put _ rfl _ _ _ (Or.inr rfl) w.heap.size _ _ rfl H0.out (by unfold maxLen; omega) _ (by unfold maxLen; decide) _ rfl rfl rfl ?_; intro wn H0' HT; have HB0 : Hid (Below w.heap.size w wn) := turned_below HB0.out (Nat.le_refl _) HT.out; clear HT; have H0 := H0'; clear H0'))
  go_ret
  exact ⟨rfl, H0.out, HB0.out⟩

end Fd
end Go.Proofs.YtfpncbgedhodaaaDoor

/-
  Persist; the document's.
-/
set_option linter.unusedVariables false
set_option linter.unusedSimpArgs false
namespace Go.Proofs.YtfpncbgedhodaaaDoor
open Go.RowKit Go.Shelf
namespace Fd
open Oc Tg

def nCo : List UInt8 := [67, 111, 110, 110, 101, 99, 116, 105, 111, 110]
def wCl : List UInt8 := [99, 108, 111, 115, 101]
def wKA : List UInt8 := [107, 101, 101, 112, 45, 97, 108, 105, 118, 101]
def persistF (t : List Fl) (old : Bool) : Bool := if (tokensF nCo t).2 = 0 then (if inL (tokensF nCo t).1 wCl then false else if old then inL (tokensF nCo t).1 wKA else true) else false

set_option maxRecDepth 100000 in
set_option maxHeartbeats 1000000 in
theorem Persist_any (v : Value) (t : List Fl) (old : Bool) (hS : sumF t ≤ 1048576) (w : World) (hrd : RdF v t w) (tab : Tab w) :
    Calls Tryd.prog 20 #[v, .bool old] w fun e w' => e = .returned (.bool (persistF t old)) ∧ Below w.heap.size w w' := by
  have HT : Hid (Calls Tryd.prog 47 #[v, .string ⟨#[67, 111, 110, 110, 101, 99, 116, 105, 111, 110]⟩] w fun e w' => ∃ x, e = .returned (.tuple #[x, .int .i64 (tokensF nCo t).2]) ∧ OwnS w.heap.size x (tokensF nCo t).1 w' ∧ Below w.heap.size w w') := Tokens6_any v t nCo (by decide) hS w hrd tab
  have hl := tokens_len hS nCo
  have H1 : Hid (∀ u w, RdS u (tokensF nCo t).1 w → Calls Tryd.prog 48 #[u, .string ⟨#[99, 108, 111, 115, 101]⟩] w fun e w' => e = .returned (.bool (inL (tokensF nCo t).1 wCl)) ∧ w' = w) := fun u w h => Contains_any u _ wCl hl w h
  have H2 : Hid (∀ u w, RdS u (tokensF nCo t).1 w → Calls Tryd.prog 48 #[u, .string ⟨#[107, 101, 101, 112, 45, 97, 108, 105, 118, 101]⟩] w fun e w' => e = .returned (.bool (inL (tokensF nCo t).1 wKA)) ∧ w' = w) := fun u w h => Contains_any u _ wKA hl w h
  unfold persistF
  obtain ⟨a, c, rfl, _⟩ := hrd
  clear hl
  generalize (tokensF nCo t).1 = L at *
  generalize (tokensF nCo t).2 = z at *
  generalize inL L wCl = b1 at *
  generalize inL L wKA = b2 at *
  by_cases hz : z = 0
  · subst hz
    rw [if_pos rfl]
    cases b1 with
    | true =>
      rw [if_pos rfl]
      go_enter Tryd.func20, Tryd.ntmps20
      go_wp2_with fail
      refine HT.out.mono ?_
      rintro e w1 ⟨u, rfl, ho, hb⟩
      have HB1 : Hid (Below w.heap.size w w1) := hb
      have HU : Hid (RdS u L w1) := ho.rd
      clear hb ho
      go_wp2_with fail
      refine (H1.out _ _ HU.out).mono ?_
      rintro e w2 ⟨rfl, rfl⟩
      go_wp2
      go_ret
      exact ⟨rfl, HB1.out⟩
    | false =>
      rw [if_neg (by simp)]
      cases old with
      | true =>
        rw [if_pos rfl]
        go_enter Tryd.func20, Tryd.ntmps20
        go_wp2_with fail
        refine HT.out.mono ?_
        rintro e w1 ⟨u, rfl, ho, hb⟩
        have HB1 : Hid (Below w.heap.size w w1) := hb
        have HU : Hid (RdS u L w1) := ho.rd
        clear hb ho
        go_wp2_with fail
        refine (H1.out _ _ HU.out).mono ?_
        rintro e w2 ⟨rfl, rfl⟩
        go_wp2_with fail
        refine (H2.out _ _ HU.out).mono ?_
        rintro e w3 ⟨rfl, rfl⟩
        go_wp2
        go_ret
        exact ⟨rfl, HB1.out⟩
      | false =>
        rw [if_neg (by simp)]
        go_enter Tryd.func20, Tryd.ntmps20
        go_wp2_with fail
        refine HT.out.mono ?_
        rintro e w1 ⟨u, rfl, ho, hb⟩
        have HB1 : Hid (Below w.heap.size w w1) := hb
        have HU : Hid (RdS u L w1) := ho.rd
        clear hb ho
        go_wp2_with fail
        refine (H1.out _ _ HU.out).mono ?_
        rintro e w2 ⟨rfl, rfl⟩
        go_wp2
        go_ret
        exact ⟨rfl, HB1.out⟩
  · rw [if_neg hz]
    have hzq : (z != 0) = true := by simp [hz]
    go_enter Tryd.func20, Tryd.ntmps20
    go_wp2_with fail
    refine HT.out.mono ?_
    rintro e w1 ⟨u, rfl, ho, hb⟩
    have HB1 : Hid (Below w.heap.size w w1) := hb
    have HU : Hid (RdS u L w1) := ho.rd
    clear hb ho
    go_wp2
    go_ret
    exact ⟨rfl, HB1.out⟩

set_option maxRecDepth 100000 in
set_option maxHeartbeats 1000000 in
theorem rPersist_any (v : Value) (t : List Fl) (old : Bool) (hS : sumF t ≤ 1048576) (w : World) (hrd : RdF v t w) :
    Calls Tryd.prog 21 #[v, .bool old] w fun e w' => e = .returned (.bool (persistF t old)) ∧ Below w.heap.size w w' := by
  have HT : Hid (Calls Tryd.prog 49 #[v, .string ⟨#[67, 111, 110, 110, 101, 99, 116, 105, 111, 110]⟩] w fun e w' => ∃ x, e = .returned (.tuple #[x, .int .i64 (tokensF nCo t).2]) ∧ OwnS w.heap.size x (tokensF nCo t).1 w' ∧ Below w.heap.size w w') := rTokens6_any v t nCo (by decide) hS w hrd
  have hl := tokens_len hS nCo
  have H1 : Hid (∀ u w, RdS u (tokensF nCo t).1 w → Calls Tryd.prog 50 #[u, .string ⟨#[99, 108, 111, 115, 101]⟩] w fun e w' => e = .returned (.bool (inL (tokensF nCo t).1 wCl)) ∧ w' = w) := fun u w h => rIn_any u _ wCl hl w h
  have H2 : Hid (∀ u w, RdS u (tokensF nCo t).1 w → Calls Tryd.prog 50 #[u, .string ⟨#[107, 101, 101, 112, 45, 97, 108, 105, 118, 101]⟩] w fun e w' => e = .returned (.bool (inL (tokensF nCo t).1 wKA)) ∧ w' = w) := fun u w h => rIn_any u _ wKA hl w h
  unfold persistF
  obtain ⟨a, c, rfl, _⟩ := hrd
  clear hl
  generalize (tokensF nCo t).1 = L at *
  generalize (tokensF nCo t).2 = z at *
  generalize inL L wCl = b1 at *
  generalize inL L wKA = b2 at *
  by_cases hz : z = 0
  · subst hz
    rw [if_pos rfl]
    cases b1 with
    | true =>
      rw [if_pos rfl]
      go_enter Tryd.func21, Tryd.ntmps21
      go_wp2_with fail
      refine HT.out.mono ?_
      rintro e w1 ⟨u, rfl, ho, hb⟩
      have HB1 : Hid (Below w.heap.size w w1) := hb
      have HU : Hid (RdS u L w1) := ho.rd
      clear hb ho
      go_wp2_with fail
      refine (H1.out _ _ HU.out).mono ?_
      rintro e w2 ⟨rfl, rfl⟩
      go_wp2
      go_ret
      exact ⟨rfl, HB1.out⟩
    | false =>
      rw [if_neg (by simp)]
      cases old with
      | true =>
        rw [if_pos rfl]
        go_enter Tryd.func21, Tryd.ntmps21
        go_wp2_with fail
        refine HT.out.mono ?_
        rintro e w1 ⟨u, rfl, ho, hb⟩
        have HB1 : Hid (Below w.heap.size w w1) := hb
        have HU : Hid (RdS u L w1) := ho.rd
        clear hb ho
        go_wp2_with fail
        refine (H1.out _ _ HU.out).mono ?_
        rintro e w2 ⟨rfl, rfl⟩
        go_wp2_with fail
        refine (H2.out _ _ HU.out).mono ?_
        rintro e w3 ⟨rfl, rfl⟩
        go_wp2
        go_ret
        exact ⟨rfl, HB1.out⟩
      | false =>
        rw [if_neg (by simp)]
        go_enter Tryd.func21, Tryd.ntmps21
        go_wp2_with fail
        refine HT.out.mono ?_
        rintro e w1 ⟨u, rfl, ho, hb⟩
        have HB1 : Hid (Below w.heap.size w w1) := hb
        have HU : Hid (RdS u L w1) := ho.rd
        clear hb ho
        go_wp2_with fail
        refine (H1.out _ _ HU.out).mono ?_
        rintro e w2 ⟨rfl, rfl⟩
        go_wp2
        go_ret
        exact ⟨rfl, HB1.out⟩
  · rw [if_neg hz]
    have hzq : (z != 0) = true := by simp [hz]
    go_enter Tryd.func21, Tryd.ntmps21
    go_wp2_with fail
    refine HT.out.mono ?_
    rintro e w1 ⟨u, rfl, ho, hb⟩
    have HB1 : Hid (Below w.heap.size w w1) := hb
    have HU : Hid (RdS u L w1) := ho.rd
    clear hb ho
    go_wp2
    go_ret
    exact ⟨rfl, HB1.out⟩

end Fd
end Go.Proofs.YtfpncbgedhodaaaDoor
