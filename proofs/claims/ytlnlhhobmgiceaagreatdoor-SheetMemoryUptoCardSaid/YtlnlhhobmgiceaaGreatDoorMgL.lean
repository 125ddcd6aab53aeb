/- Several texts as one. -/
import Derived.Test.YtlnlhhobmgiceaaGreatDoorMgK
import Derived.Test.YtlnlhhobmgiceaaGreatDoorMgJ
import Derived.Test.YtlnlhhobmgiceaaGreatDoorMgB
import Derived.Maps.OwnSet
/-
  Parameters held against parameters: the law's own 'alike'.
-/
set_option linter.unusedVariables false
set_option linter.unusedSimpArgs false
namespace Go.Proofs.YtlnlhhobmgiceaaGreatDoor
open Go.RowKit Go.Shelf
namespace Oc

def nth (t : List Prm) (j : Nat) : Prm := t.getD j ([], [], false)
/-- A slice that reads as these parameters. -/
def RdP (v : Value) (t : List Prm) (w : World) : Prop :=
  ∃ a c, v = .slice a t.length c ∧ (t = [] ∨ ∃ g o, a = some ⟨g, o, none⟩ ∧ t.length ≤ c ∧ ∀ j, j < t.length → w.cell? ⟨g, o + j * 3, none⟩ = some (.string (str (nth t j).1)) ∧ w.cell? ⟨g, o + j * 3 + 1, none⟩ = some (.string (str (nth t j).2.1)) ∧ w.cell? ⟨g, o + j * 3 + 2, none⟩ = some (.bool (nth t j).2.2))
theorem encP_at : ∀ (t : List Prm) (j : Nat), j < t.length → (encP t)[j * 3]? = some (.string (str (nth t j).1)) ∧ (encP t)[j * 3 + 1]? = some (.string (str (nth t j).2.1)) ∧ (encP t)[j * 3 + 2]? = some (.bool (nth t j).2.2)
  | [], j, h => by simp at h
  | p :: t, 0, _ => ⟨rfl, rfl, rfl⟩
  | p :: t, j + 1, h => by
    have ih := encP_at t j (by simpa using h)
    have e : encP (p :: t) = [.string (str p.1), .string (str p.2.1), .bool p.2.2] ++ encP t := rfl
    rw [e]
    have n : nth (p :: t) (j + 1) = nth t j := by unfold nth; simp
    rw [n, show (j + 1) * 3 = j * 3 + 3 by omega, show j * 3 + 3 + 1 = (j * 3 + 1) + 3 by omega, show j * 3 + 3 + 2 = (j * 3 + 2) + 3 by omega]
    exact ih
theorem OwnP.rd {T B : Nat} {v : Value} {t : List Prm} {w : World} (h : OwnP T B v t w) : RdP v t w := by
  have hall := h
  rcases h.2 with ⟨rfl, h0⟩ | ⟨g, cap, cur, rfl, _, hg, hn, _⟩
  · exact ⟨none, 0, by rw [h0], .inl (List.length_eq_zero_iff.1 h0)⟩
  · refine ⟨_, _, rfl, .inr ⟨g, 0, rfl, by omega, fun j hj => ?_⟩⟩
    obtain ⟨e0, e1, e2⟩ := encP_at t j hj
    have ea : ∀ k, Addr.add ⟨g, 0, none⟩ k = ⟨g, 0 + k, none⟩ := fun k => by unfold Addr.add; split <;> simp_all
    have c0 := World.ownsRow.cells hall (g := g) rfl _ _ e0
    have c1 := World.ownsRow.cells hall (g := g) rfl _ _ e1
    have c2 := World.ownsRow.cells hall (g := g) rfl _ _ e2
    rw [ea] at c0 c1 c2
    exact ⟨c0, c1, c2⟩
theorem RdP.below {v : Value} {t : List Prm} {w w' : World} (h : RdP v t w) (b : Below w.heap.size w w') : RdP v t w' := by
  obtain ⟨a, c, rfl, h⟩ := h
  refine ⟨a, c, rfl, ?_⟩
  rcases h with h | ⟨g, o, e, hc, hcell⟩
  · exact .inl h
  · refine .inr ⟨g, o, e, hc, fun j hj => ?_⟩
    obtain ⟨h1, h2, h3⟩ := hcell j hj
    rw [b.cell (p := ⟨g, o + j * 3, none⟩) (World.block_lt_of_cell? w _ h1), b.cell (p := ⟨g, o + j * 3 + 1, none⟩) (World.block_lt_of_cell? w _ h2), b.cell (p := ⟨g, o + j * 3 + 2, none⟩) (World.block_lt_of_cell? w _ h3)]
    exact ⟨h1, h2, h3⟩

theorem pgo_short : ∀ (f : Nat) (r : List UInt8) (y : List Prm × Nat), pgo f r = some y → y.1.length ≤ r.length
  | 0, r, y, h => by cases h
  | f + 1, r, y, h => by
    rw [pgo] at h
    cases hp : pstep r with
    | none => rw [hp] at h; cases h
    | some o =>
      rw [hp] at h
      cases o with
      | none => cases h; exact Nat.zero_le _
      | some x =>
        have hx := pstep_le r x hp
        obtain ⟨z, hz, e⟩ := Option.map_eq_some_iff.1 h
        have ih := pgo_short f _ z hz
        rw [List.length_drop] at ih
        cases e
        show (x.2 ++ z.1).length ≤ _
        rw [List.length_append]
        omega
theorem paramsR_short (l : List UInt8) : (paramsR l).1.length ≤ l.length := by
  unfold paramsR
  cases h : prm l with
  | none => exact Nat.zero_le _
  | some y => exact pgo_short _ _ _ h

end Oc
end Go.Proofs.YtlnlhhobmgiceaaGreatDoor

/-
  A set of texts that the call makes, its size; sheet.lowerNames.
-/
set_option linter.unusedVariables false
set_option linter.unusedSimpArgs false
namespace Go.Proofs.YtlnlhhobmgiceaaGreatDoor
open Go.RowKit Go.Shelf
namespace Ds
open Oc

def litS (x : List UInt8) : Lit := .string x
def setS (L : List (List UInt8)) : DataW Unit := Maps.setOf (.agg []) (L.map litS)
/-- Block B is a map whose keys are L. -/
def MS (B n : Nat) (L : List (List UInt8)) (w : World) : Prop := w.ownsMap Tryz.prog 9 (unitElem (H := Unit)) B n (setS L)
theorem lawS : Maps.Keyed Tryz.prog 9 := Maps.string_keyed Tryz.underlying9
theorem keyS (x : List UInt8) (h : x.length ≤ maxLen) : keyOf Tryz.prog 9 (.string (str x)) = some (litS x) := by
  have := WideMaps.keyOf_string_mk (P := Tryz.prog) Tryz.underlying9 (s := str x) (by rw [str_size]; exact h)
  rw [str_list] at this
  exact this
theorem same_litS (x y : List UInt8) : (litS x).sameKey (litS y) = (x == y) := rfl
theorem setS_snoc (L : List (List UInt8)) (x : List UInt8) : setS (L ++ [x]) = (setS L).put (litS x) (.agg []) := by
  unfold setS
  rw [List.map_append, List.map_singleton, Maps.setOf_snoc]
theorem MS.below {B n : Nat} {L : List (List UInt8)} {w w' : World} (h : MS B n L w) (b : Below w.heap.size w w') : MS B n L w' := by
  obtain ⟨es, clock, hb, r⟩ := h
  exact ⟨es, clock, (b.block _ (Array.getElem?_eq_some_iff.1 hb).1).trans hb, r⟩
theorem MS.keep {B n : Nat} {L : List (List UInt8)} {w w' : World} (h : MS B n L w) (hb : w'.heap[B]? = w.heap[B]?) : MS B n L w' := by
  obtain ⟨es, clock, h1, r⟩ := h
  exact ⟨es, clock, hb.trans h1, r⟩
theorem MS.lt {B n : Nat} {L : List (List UInt8)} {w : World} (h : MS B n L w) : B < w.heap.size := World.ownsMap.lt h
theorem wp_put {ops : Array Oper} {rest : List Oper} {o : Oper} {a : Act} {Q : Exit → Act → World → Prop} (w : World) (hg : o.guard = none) (m x v : Operand) (hop : o.op = Op.mapUpdate 112 m x v)
    (B n : Nat) (L : List (List UInt8)) (hm : a.eval m = .map (some B)) (h : MS B n L w) (hn : n < maxLen) (k : List UInt8) (hk : k.length ≤ maxLen) (s : ByteArray) (hs : s = str k) (hx : a.eval x = .string s) (hv : a.eval v = .agg #[])
    (hK : ∀ w', Hid (MS B (n + 1) (L ++ [k]) w') → Hid (w.mapTurned w' B) → wpList Tryz.prog ops Q rest (a.put o.dst undef) w') : wpList Tryz.prog ops Q (o :: rest) a w := by
  refine wpList_plain hg fun K' hK' => ?_
  obtain ⟨w', hrun, r1, r2⟩ := World.ownsMap.store (t := 112) h lawS Tryz.underlying112 hn (keyS k hk) unitElem_mk
  rw [← setS_snoc] at r1
  subst hs
  unfold Oper.wp
  simp [execOp, hop, hm, hx, hv, hrun, Result.andThen]
  exact hK' _ _ (hK w' r1 r2)
theorem turned_block {w w' : World} {B : Nat} (h : w.mapTurned w' B) (k : Nat) (hk : k ≠ B) : w'.heap[k]? = w.heap[k]? := by
  obtain ⟨es, clock, es', clock', hb, rfl⟩ := h
  exact ChangeMaps.heap_setBlock_other hb (.map es' clock') hk
theorem turned_below {n : Nat} {w0 w w' : World} {B : Nat} (hb : Below n w0 w) (hn : n ≤ w.heap.size) (hB : n ≤ B) (h : w.mapTurned w' B) : Below n w0 w' := hb.grown h.grown hn (fun k hk => by cases hk; exact hB)
theorem OwnP.keepB {T B : Nat} {v : Value} {t : List Prm} {w w' : World} {C : Nat} (h : OwnP T B v t w) (hv : v.ownBlock ≠ some C) (hk : ∀ k, k < w.heap.size → k ≠ C → w'.heap[k]? = w.heap[k]?) : OwnP T B v t w' := by
  refine ⟨h.1, ?_⟩
  rcases h.2 with hn | ⟨g, cap, cur, rfl, hb, hg, rest⟩
  · exact .inl hn
  · refine .inr ⟨g, cap, cur, rfl, hb, ?_, rest⟩
    rw [hk g (Array.getElem?_eq_some_iff.1 hg).1 (fun e => hv (by rw [e]; rfl))]
    exact hg

/-- How many different ones there are. -/
theorem addKey_len : ∀ (L : List (List UInt8)) (acc : List (List UInt8)), ((L.map litS).foldl Maps.addKey (acc.map litS)).length ≤ acc.length + L.length
  | [], acc => by simp
  | x :: r, acc => by
    rw [List.map_cons, List.foldl_cons]
    unfold Maps.addKey
    split
    · have := addKey_len r acc; unfold Maps.addKey at this; rw [List.length_cons]; omega
    · have := addKey_len r (acc ++ [x])
      rw [List.map_append, List.length_append] at this
      unfold Maps.addKey at this
      simp at this ⊢
      omega
theorem any_same (acc : List (List UInt8)) (x : List UInt8) : ((acc.map litS).any fun y => y.sameKey (litS x)) = acc.contains x := by
  induction acc with
  | nil => rfl
  | cons a r ih =>
    rw [List.map_cons, List.any_cons, ih, same_litS, List.contains_cons, Bool.beq_comm]
def apartFrom (acc L : List (List UInt8)) : Bool := noTwo L && L.all fun x => !acc.contains x
theorem size_noTwo : ∀ (L : List (List UInt8)) (acc : List (List UInt8)), ((L.map litS).foldl Maps.addKey (acc.map litS)).length = acc.length + L.length ↔ apartFrom acc L = true
  | [], acc => by simp [apartFrom, noTwo]
  | x :: r, acc => by
    rw [List.map_cons, List.foldl_cons]
    have e : Maps.addKey (acc.map litS) (litS x) = if acc.contains x then acc.map litS else (acc ++ [x]).map litS := by
      unfold Maps.addKey
      rw [any_same]
      split <;> simp
    rw [e]
    cases hx : acc.contains x with
    | true =>
      rw [if_pos rfl]
      have := addKey_len r acc
      constructor
      · intro h; rw [List.length_cons] at h; omega
      · intro h; unfold apartFrom at h; rw [List.all_cons, hx] at h; simp at h
    | false =>
      rw [if_neg (by simp), show acc.length + (x :: r).length = (acc ++ [x]).length + r.length by simp; omega, size_noTwo r (acc ++ [x])]
      unfold apartFrom
      rw [List.all_cons, hx, noTwo]
      rw [Bool.eq_iff_iff.symm]
      have h2 : (r.all fun y => !(acc ++ [x]).contains y) = ((r.all fun y => !acc.contains y) && !r.contains x) := by
        clear e hx
        induction r with
        | nil => rfl
        | cons y r ih =>
          rw [List.all_cons, List.all_cons, ih, List.contains_cons]
          have : (acc ++ [x]).contains y = (acc.contains y || (x == y)) := by
            rw [List.contains_eq_any_beq, List.contains_eq_any_beq, List.any_append]
            simp [Bool.beq_comm]
          rw [this]
          cases acc.contains y <;> cases (x == y) <;> simp [Bool.and_comm]
      rw [h2]
      cases noTwo r <;> cases (r.all fun y => !acc.contains y) <;> cases r.contains x <;> rfl
theorem set_len (L : List (List UInt8)) : (Maps.size (setS L) = L.length) ↔ noTwo L = true := by
  unfold setS
  rw [Maps.size_setOf _ _ (by intro y hy; obtain ⟨z, _, rfl⟩ := List.mem_map.1 hy; trivial)]
  have := size_noTwo L []
  rw [List.map_nil, List.length_nil, Nat.zero_add] at this
  rw [this]
  unfold apartFrom
  simp

end Ds
end Go.Proofs.YtlnlhhobmgiceaaGreatDoor

/-
  sheet.lowerNames.
-/
set_option linter.unusedVariables false
set_option linter.unusedSimpArgs false
namespace Go.Proofs.YtlnlhhobmgiceaaGreatDoor
open Go.RowKit Go.Shelf
namespace Ds
open Oc

/-- The first k names turned. -/
def lowK (k : Nat) (ps : List Prm) : List Prm := (ps.take k).map lowN ++ ps.drop k
theorem lowK_zero (ps : List Prm) : lowK 0 ps = ps := by simp [lowK]
theorem lowK_all (ps : List Prm) : lowK ps.length ps = ps.map lowN := by simp [lowK]
theorem lowK_len (k : Nat) (ps : List Prm) : (lowK k ps).length = ps.length := by simp [lowK]; omega
theorem lowK_at (k : Nat) (ps : List Prm) (hk : k < ps.length) : nth (lowK k ps) k = nth ps k := by
  unfold nth lowK
  rw [List.getD_eq_getElem?_getD, List.getD_eq_getElem?_getD, List.getElem?_append_right (by simp; omega), List.getElem?_drop]
  congr 2
  simp
  omega
theorem lowK_set (k : Nat) (ps : List Prm) (hk : k < ps.length) : (lowK k ps).set k (lower (nth ps k).1, (nth ps k).2.1, (nth ps k).2.2) = lowK (k + 1) ps := by
  have e : ps.drop k = nth ps k :: ps.drop (k + 1) := by
    rw [List.drop_eq_getElem_cons hk]
    unfold nth
    rw [List.getD_eq_getElem?_getD, List.getElem?_eq_getElem hk]
    rfl
  have e2 : ps.take (k + 1) = ps.take k ++ [nth ps k] := by
    rw [List.take_succ_eq_append_getElem hk]
    unfold nth
    rw [List.getD_eq_getElem?_getD, List.getElem?_eq_getElem hk]
    rfl
  unfold lowK
  rw [e2, List.map_append, e, List.set_append_right _ _ (by simp; omega)]
  have : k - (List.map lowN (List.take k ps)).length = 0 := by simp; omega
  rw [this]
  simp [lowN]
theorem encP_set : ∀ (t : List Prm) (k : Nat) (n : List UInt8), k < t.length → encP (t.set k (n, (nth t k).2.1, (nth t k).2.2)) = (encP t).set (k * 3) (.string (str n))
  | [], k, n, h => by simp at h
  | p :: t, 0, n, _ => rfl
  | p :: t, k + 1, n, h => by
    have ih := encP_set t k n (by simpa using h)
    have en : nth (p :: t) (k + 1) = nth t k := by unfold nth; simp
    have e : ∀ u, encP (p :: u) = [.string (str p.1), .string (str p.2.1), .bool p.2.2] ++ encP u := fun u => rfl
    rw [List.set_cons_succ, en, e, ih, e, List.set_append_right _ _ (by simp; omega)]
    congr 2
    simp
    omega
theorem OwnP.mono {T B B' : Nat} {v : Value} {t : List Prm} {w : World} (h : OwnP T B v t w) (hB : B' ≤ B) : OwnP T B' v t w := by
  refine ⟨h.1, ?_⟩
  rcases h.2 with hn | ⟨g, cap, cur, rfl, hb, rest⟩
  · exact .inl hn
  · exact .inr ⟨g, cap, cur, rfl, by omega, rest⟩
theorem OwnP.setName {T B g n cap : Nat} {t : List Prm} {w : World} (h : OwnP T B (.slice (some ⟨g, 0, none⟩) n cap) t w) (k : Nat) (hk : k < t.length) (m : List UInt8) :
    OwnP T B (.slice (some ⟨g, 0, none⟩) n cap) (t.set k (m, (nth t k).2.1, (nth t k).2.2)) (w.setCell ⟨g, k * 3, none⟩ (.string (str m))) := by
  have hn : n = t.length := by
    obtain ⟨a, c, e, _⟩ := OwnP.rd h
    injection e with _ e2 _
  subst hn
  unfold OwnP at *
  rw [encP_set t k m hk, List.length_set]
  exact (World.ownsRow.stored h (k * 3) _).1


theorem lowS_str (l : List UInt8) : lowS (str l) = str (lower l) := by unfold lowS; rw [str_list]
theorem lower_len (l : List UInt8) : (lower l).length = l.length := by unfold lower; simp
theorem OwnP.form {T B : Nat} {v : Value} {t : List Prm} {w : World} (h : OwnP T B v t w) (h0 : 0 < t.length) : ∃ g cap cur, v = .slice (some ⟨g, 0, none⟩) t.length cap ∧ B ≤ g ∧ w.heap[g]? = some (.cells cur T (0, 0)) ∧ t.length ≤ cap := by
  rcases h.2 with ⟨_, hn⟩ | ⟨g, cap, cur, rfl, hb, hg, hc, _⟩
  · omega
  · exact ⟨g, cap, cur, rfl, hb, hg, hc⟩
theorem OwnP.below {T B n : Nat} {v : Value} {t : List Prm} {w w' : World} (h : OwnP T B v t w) (b : Below n w w') (hn : ∀ g, v.ownBlock = some g → g < n) : OwnP T B v t w' := by
  refine ⟨h.1, ?_⟩
  rcases h.2 with hn' | ⟨g, cap, cur, rfl, hb, hg, rest⟩
  · exact .inl hn'
  · refine .inr ⟨g, cap, cur, rfl, hb, ?_, rest⟩
    rw [b.block g (hn g rfl)]
    exact hg
theorem lowOk_bad (t : List Prm) (k : Nat) (hk : k < t.length) (h : (nth t k).2.2 = false) : lowOk t = false := by
  unfold lowOk
  have : t.all (fun p => p.2.2) = false := by
    rw [List.all_eq_false]
    refine ⟨nth t k, ?_, by simp [h]⟩
    unfold nth
    rw [List.getD_eq_getElem?_getD, List.getElem?_eq_getElem hk]
    exact List.getElem_mem hk
  rw [this]; rfl
theorem take_nthP (t : List Prm) (k : Nat) (h : k < t.length) : t.take (k + 1) = t.take k ++ [nth t k] := by
  unfold nth
  rw [List.take_add_one, List.getElem?_eq_getElem h, List.getD_eq_getElem?_getD, List.getElem?_eq_getElem h]; rfl

set_option maxRecDepth 100000 in
set_option maxHeartbeats 4000000 in
theorem lowerNames_any (B : Nat) (v : Value) (t : List Prm) (w : World) (h : OwnP 47 B v t w) (hB : B ≤ w.heap.size) (hl : t.length ≤ 16777216) (hs : ∀ p ∈ t, p.1.length ≤ 16777216) :
    Calls Tryz.prog 31 #[v] w fun e w' => e = .returned (.bool (lowOk t)) ∧ (lowOk t = true → OwnP 47 B v (t.map lowN) w') ∧ Below B w w' := by
  have hmm := @run_makeMap Tryz.prog
  have H0 : Hid (MS w.heap.size 0 [] (w.alloc (.map #[] 0))) := World.ownsMap_made _ _ _ _
  have HO0 : Hid (OwnP 47 B v (lowK 0 t) (w.alloc (.map #[] 0))) := (by rw [lowK_zero]; exact OwnP.below h ((Below.refl _ w).alloc (Nat.le_refl _) _) (fun g hg => (World.ownsRow.lt h g hg).2) : OwnP _ _ _ _ _)
  have HLt : Hid (∀ g, v.ownBlock = some g → g < w.heap.size) := fun g hg => (World.ownsRow.lt h g hg).2
  have HB0 : Hid (Below B w (w.alloc (.map #[] 0))) := (Below.refl _ w).alloc hB _
  have HS : Hid (∀ p ∈ t, p.1.length ≤ 16777216) := hs
  obtain ⟨a, c, rfl, _⟩ := OwnP.rd h
  clear h hs
  generalize hLW : lowOk t = LW at *
  have HLW : Hid (lowOk t = LW) := hLW
  clear hLW
  go_enter Tryz.func31, Tryz.ntmps31
  go_wp2
  go_loopw [9] (fun i wr => ∃ k : Nat, k ≤ t.length ∧ i = .int .i64 k ∧ Hid ((t.take k).all (fun p => p.2.2) = true) ∧ Hid (MS w.heap.size k ((t.take k).map fun p => lower p.1) wr) ∧ Hid (OwnP 47 B (.slice a t.length c) (lowK k t) wr) ∧ Hid (Below B w wr) ∧ Hid (w.heap.size + 1 ≤ wr.heap.size)) (fun i _ => t.length - (intOf i).toNat)
  case atStart => exact ⟨0, Nat.zero_le _, rfl, (rfl : (t.take 0).all (fun p => p.2.2) = true), H0.out, HO0.out, HB0.out, (by simp : w.heap.size + 1 ≤ (w.alloc (.map #[] 0)).heap.size)⟩
  case round =>
    obtain ⟨k, hk, rfl, hA, hM, hO, hW, hZ⟩ := hrel
    by_cases hlt : k < t.length
    · obtain ⟨g, cap, cur, hv, hBg, hg, hc⟩ := OwnP.form hO.out (by rw [lowK_len]; omega)
      rw [lowK_len] at hv hc
      injection hv with e1 e2 e3
      subst e1 e3
      have hgw : g < w.heap.size := HLt.out g rfl
      have hgr : g < wr.heap.size := (Array.getElem?_eq_some_iff.1 hg).1
      have hrd := OwnP.rd hO.out
      obtain ⟨a', c', e, hrd⟩ := hrd
      injection e with e1 e2 e3
      subst e1 e3
      obtain ⟨g', o', eg, _, hcell⟩ : ∃ g' o', some (⟨g, 0, none⟩ : Addr) = some ⟨g', o', none⟩ ∧ (lowK k t).length ≤ c ∧ ∀ j, j < (lowK k t).length → wr.cell? ⟨g', o' + j * 3, none⟩ = some (.string (str (nth (lowK k t) j).1)) ∧ wr.cell? ⟨g', o' + j * 3 + 1, none⟩ = some (.string (str (nth (lowK k t) j).2.1)) ∧ wr.cell? ⟨g', o' + j * 3 + 2, none⟩ = some (.bool (nth (lowK k t) j).2.2) := by
        rcases hrd with h | h
        · have := congrArg List.length h; rw [lowK_len, List.length_nil] at this; omega
        · exact h
      injection eg with eg
      injection eg with e4 e5
      subst e4 e5
      obtain ⟨d0, d1, d2⟩ := hcell k (by rw [lowK_len]; exact hlt)
      rw [lowK_at k t hlt] at d0 d1 d2
      rw [Nat.zero_add] at d0 d1 d2
      clear hcell hrd e2
      have HTk := take_nthP t k hlt
      have HSet := lowK_set k t hlt
      have HBad : Hid ((nth t k).2.2 = false → LW = false) := fun h => HLW.out.symm.trans (lowOk_bad t k hlt h)
      have hpl : (nth t k).1.length ≤ 16777216 := HS.out _ (by unfold nth; rw [List.getD_eq_getElem?_getD, List.getElem?_eq_getElem hlt]; exact List.getElem_mem hlt)
      have HON : Hid (∀ w', OwnP 47 B (.slice (some ⟨g, 0, none⟩) t.length c) (lowK k t) w' → OwnP 47 B (.slice (some ⟨g, 0, none⟩) t.length c) (lowK (k + 1) t) (w'.setCell ⟨g, k * 3, none⟩ (.string (str (lower (nth t k).1))))) := fun w' h => by
        have := OwnP.setName h k (by rw [lowK_len]; exact hlt) (lower (nth t k).1)
        rw [lowK_at k t hlt, HSet] at this
        exact this
      have HA1 : Hid ((nth t k).2.2 = true → (t.take (k + 1)).all (fun p => p.2.2) = true) := fun h => by rw [HTk, List.all_append, hA.out]; simp [h]
      have HK1 : Hid ((t.take (k + 1)).map (fun p => lower p.1) = (t.take k).map (fun p => lower p.1) ++ [lower (nth t k).1]) := (by rw [HTk, List.map_append]; rfl : _ = _)
      clear HTk HSet
      generalize nth t k = p at *
      obtain ⟨pn, pv, pb⟩ := p
      dsimp only at d0 d1 d2 hpl
      have HL : Hid (∀ W, Calls Tryz.prog 32 #[.string (str pn)] W fun e w' => e = .returned (.string (str (lower pn))) ∧ Below W.heap.size W w') := fun W => by
        have := Lower_any (str pn) (by rw [str_size]; unfold maxLen; omega) W
        rw [lowS_str] at this
        exact this
      dsimp only at HON HK1 HA1 HBad
      have hll : (lower pn).length ≤ 16777216 := by rw [lower_len]; exact hpl
      generalize str pn = N1 at *
      generalize str pv = V1 at *
      generalize hL1 : str (lower pn) = L1 at *
      have HL1 : Hid (L1 = str (lower pn)) := hL1.symm
      clear hL1
      cases pb with
      | false =>
        have HB : Hid (LW = false) := HBad.out rfl
        go_wp2
        go_ret
        exact ⟨by rw [HB.out]; rfl, (fun h => by rw [HB.out] at h; cases h), hW.out.alloc (by have := hZ.out; omega) _⟩
      | true =>
        have hs0 : B ≤ wr.heap.size := by have := hZ.out; omega
        have HAk : Hid ((t.take (k + 1)).all (fun p => p.2.2) = true) := HA1.out rfl
        go_wp2_with fail
        refine (HL.out _).mono ?_
        rintro e w2 ⟨rfl, hb2⟩
        have HB2 : Hid (Below B wr w2) := ((Below.refl B wr).alloc hs0 _).trans (hb2.mono (by simp; omega))
        have hb2' : Below wr.heap.size wr w2 := ((Below.refl _ wr).alloc (Nat.le_refl _) _).trans (hb2.mono (by simp))
        have hg2 : w2.heap[g]? = some (.cells cur 47 (0, 0)) := (hb2'.block g hgr).trans hg
        have f2 : w2.frozen? ⟨g, k * 3, none⟩ = false := Lib.frozen_of_heap hg2 _
        have x0 : w2.cell? ⟨g, k * 3, none⟩ = some (.string N1) := (hb2'.cell (p := ⟨g, k * 3, none⟩) hgr).trans d0
        have HO2 : Hid (OwnP 47 B (.slice (some ⟨g, 0, none⟩) t.length c) (lowK (k + 1) t) (w2.setCell ⟨g, k * 3, none⟩ (.string L1))) := HON.out _ (OwnP.below hO.out hb2' (fun g' e => by cases e; exact hgr))
        have HM2 : Hid (MS w.heap.size k ((t.take k).map fun p => lower p.1) (w2.setCell ⟨g, k * 3, none⟩ (.string L1))) := MS.keep (MS.below hM.out hb2') (Below.heap_setCell _ _ _ _ (by simp; omega))
        have HB3 : Hid (Below B w (w2.setCell ⟨g, k * 3, none⟩ (.string L1))) := (hW.out.trans HB2.out).setCell (p := ⟨g, k * 3, none⟩) hBg _
        have hz2 : w.heap.size + 1 ≤ (w2.setCell ⟨g, k * 3, none⟩ (.string L1)).heap.size := by
          have := hb2'.size
          have := hZ.out
          simp [World.setCell]; omega
        clear hb2 hb2' hg2
        have hkm : k < maxLen := by unfold maxLen; omega
        have hkl : (lower pn).length ≤ maxLen := by unfold maxLen; omega
        go_wp2_with (refine wp_put _ rfl _ _ _ rfl w.heap.size k _ rfl HM2.out hkm (lower pn) hkl _ HL1.out rfl rfl ?_; intro w4 HM4 HT4; have HB4 : Hid (Below B w w4) := turned_below HB3.out (Nat.le_trans hB (Nat.le_trans (Nat.le_succ _) hz2)) hB HT4.out; have HO4 : Hid (OwnP 47 B (.slice (some ⟨g, 0, none⟩) t.length c) (lowK (k + 1) t) w4) := OwnP.keepB (C := w.heap.size) HO2.out (by simp [Value.ownBlock]; omega) (fun q _ hq => turned_block HT4.out q hq); have HZ4 : Hid (w.heap.size + 1 ≤ w4.heap.size) := Nat.le_trans hz2 HT4.out.grown.size; have HM5 : Hid (MS w.heap.size (k + 1) ((t.take (k + 1)).map fun p => lower p.1) w4) := (by rw [HK1.out]; exact HM4.out : MS _ _ _ _); clear HT4 HM4)
        go_roundw
        case rel => exact ⟨k + 1, by omega, by go_num, HAk, HM5, HO4, HB4, HZ4⟩
        case measure => simp [intOf]; omega
    · obtain rfl : k = t.length := by omega
      have hM' := hM.out
      have hA' := hA.out
      rw [List.take_length] at hM' hA'
      have hO' := hO.out
      rw [lowK_all] at hO'
      have hlen := World.ownsMap.len (t := 112) hM' Tryz.underlying112 3
      have HLn : Hid (Maps.size (setS (t.map fun p => lower p.1)) = t.length ↔ noTwo (t.map fun p => lower p.1) = true) := (by have := set_len (t.map fun p => lower p.1); rw [List.length_map] at this; exact this : _ ↔ _)
      have HLW2 : Hid (LW = noTwo (t.map fun p => lower p.1)) := (by rw [← HLW.out]; unfold lowOk; rw [hA']; rfl : LW = _)
      have HO' : Hid (OwnP 47 B (.slice a t.length c) (t.map lowN) wr) := hO'
      clear hM' hA' hO'
      generalize Maps.size (setS (t.map fun p => lower p.1)) = Z at *
      generalize noTwo (t.map fun p => lower p.1) = NT at *
      go_wp2
      go_ret
      exact ⟨ret_bool (by rw [HLW2.out, Bool.eq_iff_iff, ← HLn.out]; simp; omega), (fun _ => HO'.out), hW.out⟩

end Ds
end Go.Proofs.YtlnlhhobmgiceaaGreatDoor
