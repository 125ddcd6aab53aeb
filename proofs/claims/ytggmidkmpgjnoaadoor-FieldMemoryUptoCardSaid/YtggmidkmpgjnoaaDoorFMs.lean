/-
  field: a set of texts that the call makes; hopNames.
-/
import Derived.Test.YtggmidkmpgjnoaaDoorMgN
import Derived.Test.YtggmidkmpgjnoaaDoorMgQ
import Derived.Maps.OwnSet
set_option linter.unusedVariables false
set_option linter.unusedSimpArgs false
namespace Go.Proofs.YtggmidkmpgjnoaaDoor
open Go.RowKit Go.Shelf
namespace Fd
open Oc Tg

def litS (x : List UInt8) : Lit := .string x
def setS (L : List (List UInt8)) : DataW Unit := Maps.setOf (.agg []) (L.map litS)
/-- Block B is a map whose keys are L. -/
def MS (B n : Nat) (L : List (List UInt8)) (w : World) : Prop := w.ownsMap Tryd.prog 9 (unitElem (H := Unit)) B n (setS L)
theorem lawS : Maps.Keyed Tryd.prog 9 := Maps.string_keyed Tryd.underlying9
theorem keyS (x : List UInt8) (h : x.length ≤ maxLen) : keyOf Tryd.prog 9 (.string (str x)) = some (litS x) := by
  have := WideMaps.keyOf_string_mk (P := Tryd.prog) Tryd.underlying9 (s := str x) (by rw [str_size]; exact h)
  rw [str_list] at this
  exact this
theorem same_litS (x y : List UInt8) : (litS x).sameKey (litS y) = (x == y) := rfl
theorem has_setS (L : List (List UInt8)) (x : List UInt8) : Maps.has (setS L) (litS x) = inL L x := by
  unfold setS
  rw [Maps.has_setOf _ _ _ (by intro y hy; obtain ⟨z, _, rfl⟩ := List.mem_map.1 hy; trivial)]
  unfold inL
  rw [Bool.eq_iff_iff, List.any_eq_true, List.contains_iff_mem]
  constructor
  · rintro ⟨y, hy, he⟩
    obtain ⟨z, hz, rfl⟩ := List.mem_map.1 hy
    rw [same_litS] at he
    rw [← eq_of_beq he]
    exact hz
  · intro h
    exact ⟨litS x, List.mem_map.2 ⟨x, h, rfl⟩, by rw [same_litS]; simp⟩
theorem setS_snoc (L : List (List UInt8)) (x : List UInt8) : setS (L ++ [x]) = (setS L).put (litS x) (.agg []) := by
  unfold setS
  rw [List.map_append, List.map_singleton, Maps.setOf_snoc]

theorem zeroU (w : World) : (zeroValue 68).run Tryd.prog w = .ok (.agg #[]) w := by kernel_rfl

theorem MS.below {B n : Nat} {L : List (List UInt8)} {w w' : World} (h : MS B n L w) (b : Below w.heap.size w w') : MS B n L w' := by
  obtain ⟨es, clock, hb, r⟩ := h
  exact ⟨es, clock, (b.block _ (Array.getElem?_eq_some_iff.1 hb).1).trans hb, r⟩
theorem MS.lt {B n : Nat} {L : List (List UInt8)} {w : World} (h : MS B n L w) : B < w.heap.size := World.ownsMap.lt h

theorem wp_put {ops : Array Oper} {rest : List Oper} {o : Oper} {a : Act} {Q : Exit → Act → World → Prop} (w : World) (hg : o.guard = none) (m x v : Operand) (hop : o.op = Op.mapUpdate 63 m x v ∨ o.op = Op.insert 63 m x v)
    (B n : Nat) (L : List (List UInt8)) (hm : a.eval m = .map (some B)) (h : MS B n L w) (hn : n < maxLen) (k : List UInt8) (hk : k.length ≤ maxLen) (s : ByteArray) (hs : s = str k) (hx : a.eval x = .string s) (hv : a.eval v = .agg #[])
    (hK : ∀ w', Hid (MS B (n + 1) (L ++ [k]) w') → Hid (w.mapTurned w' B) → wpList Tryd.prog ops Q rest (a.put o.dst undef) w') : wpList Tryd.prog ops Q (o :: rest) a w := by
  refine wpList_plain hg fun K' hK' => ?_
  obtain ⟨w', hrun, r1, r2⟩ := World.ownsMap.store (t := 63) h lawS Tryd.underlying63 hn (keyS k hk) unitElem_mk
  rw [← setS_snoc] at r1
  subst hs
  unfold Oper.wp
  rcases hop with hop | hop
  all_goals
    simp [execOp, hop, hm, hx, hv, hrun, Result.andThen]
    exact hK' _ _ (hK w' r1 r2)
theorem turned_below {w0 w w' : World} {B : Nat} (hb : Below w0.heap.size w0 w) (hB : w0.heap.size ≤ B) (h : w.mapTurned w' B) : Below w0.heap.size w0 w' := hb.grown h.grown hb.size (fun k hk => by cases hk; exact hB)
theorem turned_cell {w w' : World} {B : Nat} (h : w.mapTurned w' B) (p : Addr) (hp : p.block ≠ B) : w'.cell? p = w.cell? p := by
  obtain ⟨es, clock, es', clock', hb, rfl⟩ := h
  have e := ChangeMaps.heap_setBlock_other hb (.map es' clock') hp
  unfold World.cell?
  simp only [e]

def hopL : List (List UInt8) := [[99, 111, 110, 110, 101, 99, 116, 105, 111, 110], [107, 101, 101, 112, 45, 97, 108, 105, 118, 101], [112, 114, 111, 120, 121, 45, 99, 111, 110, 110, 101, 99, 116, 105, 111, 110], [116, 101], [116, 114, 97, 105, 108, 101, 114], [116, 114, 97, 110, 115, 102, 101, 114, 45, 101, 110, 99, 111, 100, 105, 110, 103], [117, 112, 103, 114, 97, 100, 101]]

set_option maxRecDepth 100000 in
set_option maxHeartbeats 1000000 in
theorem hopNames_any (w : World) : Calls Tryd.prog 35 #[] w fun e w' => e = .returned (.map (some w.heap.size)) ∧ MS w.heap.size 7 hopL w' ∧ Below w.heap.size w w' := by
  have hmm := @run_makeMap Tryd.prog
  have H0 : Hid (MS w.heap.size 0 [] (w.alloc (.map #[] 0))) := World.ownsMap_made _ _ _ _
  have HB0 : Hid (Below w.heap.size w (w.alloc (.map #[] 0))) := (Below.refl _ w).alloc (Nat.le_refl _) _
  go_enter Tryd.func35, Tryd.ntmps35
  go_wp2_with (first
    | (refine wp_put _ rfl _ _ _ (Or.inr rfl) w.heap.size _ _ rfl H0.out (by unfold maxLen; omega) _ (by unfold maxLen; decide) _ rfl rfl rfl ?_; intro wn H0' HT; have HB0 : Hid (Below w.heap.size w wn) := turned_below HB0.out (Nat.le_refl _) HT.out; clear HT; have H0 := H0'; clear H0'))
  go_ret
  exact ⟨rfl, H0.out, HB0.out⟩

end Fd
end Go.Proofs.YtggmidkmpgjnoaaDoor
