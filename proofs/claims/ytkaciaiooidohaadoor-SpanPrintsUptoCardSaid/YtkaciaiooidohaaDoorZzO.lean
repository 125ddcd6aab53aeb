/- Several texts as one. -/
import Derived.Test.YtkaciaiooidohaaDoorZzN
import Derived.Test.YtkaciaiooidohaaDoorZzJ
/-
  A marked row of six bytes; appends of bytes.
-/
set_option linter.unusedVariables false
set_option linter.unusedSimpArgs false
namespace Go.Proofs.YtkaciaiooidohaaDoor
open Go.RowKit Go.Shelf
namespace Sn
open Oc Tg Ac

theorem wp_appG2 {ops : Array Oper} {rest : List Oper} {o : Oper} {a : Act} {Q : Exit → Act → World → Prop} (hgd : o.guard = none) (s x : Operand)
    (ho : o.op = .call { callee := .builtin .append, args := #[s, x], argTypes := #[48, 9] }) (B : Nat) (v : Value) (l : List UInt8) (W : World) (y : ByteArray) (m : List UInt8) (hy : y = str m)
    (hs : a.eval s = v) (hown : Own B v l W) (hx : a.eval x = .string y) (hlen : l.length + m.length ≤ 140737488355328) (hB : B ≤ W.heap.size)
    (h : ∀ v' w', Own B v' (l ++ m) w' → Below B W w' → wpList Tryd.prog ops Q rest (a.put o.dst v') w') : wpList Tryd.prog ops Q (o :: rest) a W := by
  subst hy
  obtain ⟨i0, hi, hz0, hz1, hz2⟩ := info5
  refine Lib.wpList_append_own_string _ hgd s x 48 9 ho B 5 i0 Tryd.underlying48 Tryd.underlying9 hi hz0 hz1 hz2 v l.length _ hs hown (str m) hx ?_ ?_ ?_ ?_
  · rw [str_size]; unfold maxLen; omega
  · rw [str_size]; omega
  · exact hB
  · intro v' w' h1 h2 _
    rw [Lib.strCells_eq, str_list, ← Lib.byteCells_append, str_size] at h1
    refine h v' w' ?_ ((Below.refl B W).grown h2 hB (fun k hk => (World.ownsRow.lt hown k hk).1))
    unfold Own
    rw [List.length_append]
    exact h1
theorem own_below {B : Nat} {v : Value} {l : List UInt8} {w w' : World} (h : Own B v l w) (b : Below w.heap.size w w') : Own B v l w' := by
  refine ⟨h.1, ?_⟩
  rcases h.2 with hn | ⟨g, cap, cur, rfl, hb, hg, rest⟩
  · exact .inl hn
  · refine .inr ⟨g, cap, cur, rfl, hb, ?_, rest⟩
    rw [b.block g (Array.getElem?_eq_some_iff.1 hg).1]
    exact hg
theorem own_six (w : World) : Own w.heap.size (.slice (some ⟨w.heap.size, 0, none⟩) 6 6) [98, 121, 116, 101, 115, 61] (w.alloc (.cells #[.int .u8 98, .int .u8 121, .int .u8 116, .int .u8 101, .int .u8 115, .int .u8 61] 5)) :=
  ⟨by simp [Lib.byteCells], .inr ⟨w.heap.size, 6, _, rfl, Nat.le_refl _, heap_alloc_new w _, by decide, by decide, by simp, by simp [Lib.byteCells]⟩⟩
def six : List UInt8 := [98, 121, 116, 101, 115, 61]
def cSix : Array Value := #[.int .u8 98, .int .u8 121, .int .u8 116, .int .u8 101, .int .u8 115, .int .u8 61]
/-- The row that '[]byte("bytes=")' lays: marked. -/
def W6 (w : World) : World := (w.alloc (.cells cSix 5)).freeze ⟨w.heap.size, 6, none⟩ 1
theorem conv_six (w : World) : (convert 48 48 (.slice (some ⟨w.heap.size, 0, none⟩) 6 6)).run Tryd.prog (w.alloc (.cells #[.int .u8 98, .int .u8 121, .int .u8 116, .int .u8 101, .int .u8 115, .int .u8 61] 5)) = .ok (.slice (some ⟨w.heap.size, 0, none⟩) 6 6) (W6 w) := by
  have hs : (w.alloc (.cells cSix 5)).heap[w.heap.size]? = some (.cells cSix 5 (0, 0)) := heap_alloc_new w _
  show (convert 48 48 (.slice (some ⟨w.heap.size, 0, none⟩) 6 6)).run Tryd.prog (w.alloc (.cells cSix 5)) = _
  have h6 : cSix.size = 6 := rfl
  have hsh : (w.alloc (.cells cSix 5)).shape? w.heap.size = some (5, 6) := by unfold World.shape?; rw [hs]; rfl
  simp [convert, run_underlying Tryd.underlying48, run_underlying Tryd.underlying5, Result.andThen, markStringish, hsh, W6]
theorem at_six (w : World) : (W6 w).heap[w.heap.size]? = some (.cells cSix 5 (6, 7)) := by
  have hs : (w.alloc (.cells cSix 5)).heap[w.heap.size]? = some (.cells cSix 5 (0, 0)) := heap_alloc_new w _
  simp [W6, World.freeze, World.alloc, -World.alloc_eq]
  rw [Array.getElem_modify_self]
  simp
theorem cells_six (w : World) : ∀ (j : Nat) (v : Value), (Lib.byteCells six)[j]? = some v → (W6 w).cell? ⟨w.heap.size, j, none⟩ = some v := fun j v hj => by
  have h := Lib.cell_of_heap (at_six w) j
  have e : cSix = (Lib.byteCells six).toArray := by simp [cSix, six, Lib.byteCells]
  rw [h, e, ← hj]
  simp
theorem below_six (w : World) : Below w.heap.size w (W6 w) := Lib.below_freeze ((Below.refl _ w).alloc (Nat.le_refl _) _) (Nat.le_refl _) _
/-- A text appended to that row, which is full: a row of the call's own. -/
theorem wp_six {ops : Array Oper} {rest : List Oper} {o : Oper} {a : Act} {Q : Exit → Act → World → Prop} (hgd : o.guard = none) (s x : Operand)
    (ho : o.op = .call { callee := .builtin .append, args := #[s, x], argTypes := #[48, 9] }) (B g : Nat) (W : World) (y : ByteArray) (m : List UInt8) (hy : y = str m)
    (hs : a.eval s = .slice (some ⟨g, 0, none⟩) 6 6) (hc : ∀ (j : Nat) (v : Value), (Lib.byteCells six)[j]? = some v → W.cell? ⟨g, j, none⟩ = some v) (hx : a.eval x = .string y) (hm : 0 < m.length) (hlen : m.length ≤ 43) (hB : B ≤ W.heap.size)
    (h : ∀ v' w', Own B v' (six ++ m) w' → Below B W w' → wpList Tryd.prog ops Q rest (a.put o.dst v') w') : wpList Tryd.prog ops Q (o :: rest) a W := by
  subst hy
  obtain ⟨i0, hi, hz0, hz1, hz2⟩ := info5
  have hsz : (str m).size = m.length := str_size m
  have hrun := Lib.run_append_grow_string (P := Tryd.prog) (w := W) 48 9 o.type 5 i0 (.int .u8 0) Tryd.underlying48 Tryd.underlying9 hi hz0 ⟨g, 0, none⟩ 6 6 (Lib.byteCells six) (by rw [hz1]; rfl) (fun j v hj => by rw [Addr.add_lit, Nat.zero_add]; exact hc j v hj) (str m) (by omega) (by omega) (by
    rw [hz2]
    have := nextslicecap_le (show 6 < 6 + (str m).size by omega)
    omega)
  have hge := grownCap_ge W (6 + (str m).size) 6 5
  have hcm : grownCap W (6 + (str m).size) 6 5 ≤ maxLen := grownCap_le_maxLen W (6 + (str m).size) 6 5 (by unfold maxLen; omega)
  generalize hcap : grownCap W (6 + (str m).size) 6 5 = cap at *
  have hown : Own B (.slice (some ⟨W.heap.size, 0, none⟩) (6 + (str m).size) cap) (six ++ m) (W.drew.alloc (.cells ((Lib.byteCells six).toArray ++ (Lib.strCells (str m)).toArray ++ Builtin.zeroCells (Value.int .u8 0).cells (cap - (6 + (str m).size))) 5)) := by
    have e : Lib.byteCells (six ++ m) = Lib.byteCells six ++ Lib.strCells (str m) := by rw [Lib.byteCells_append, Lib.strCells_eq, str_list]
    have l6 : (Lib.byteCells six).length = 6 := rfl
    have lm : (Lib.strCells (str m)).length = m.length := by rw [Lib.strCells_length, hsz]
    have ln : (six ++ m).length = 6 + m.length := by rw [List.length_append]; rfl
    refine ⟨by rw [e, List.length_append, l6, lm, ln]; omega, .inr ⟨W.heap.size, cap, _, by rw [ln, hsz], hB, heap_alloc_new W.drew _, by rw [ln]; omega, hcm, ?_, ?_⟩⟩
    · simp only [Array.size_append, List.size_toArray, size_zeroCells, l6, lm]
      have : (Value.int IntKind.u8 0).cells.size = 1 := rfl
      rw [this]
      omega
    · rw [e, ln]
      simp only [Array.toList_append, List.append_assoc]
      rw [← List.append_assoc]
      have : (6 + m.length) * 1 = (Lib.byteCells six ++ Lib.strCells (str m)).length := by rw [List.length_append, l6, lm]; omega
      rw [this]
      exact List.take_left
  have hbel : Below B W (W.drew.alloc (.cells ((Lib.byteCells six).toArray ++ (Lib.strCells (str m)).toArray ++ Builtin.zeroCells (Value.int .u8 0).cells (cap - (6 + (str m).size))) 5)) := (below_drewN (Below.refl B W) 1).alloc hB _
  have := h _ _ hown hbel
  generalize W.drew.alloc (.cells ((Lib.byteCells six).toArray ++ (Lib.strCells (str m)).toArray ++ Builtin.zeroCells (Value.int .u8 0).cells (cap - (6 + (str m).size))) 5) = Wn at *
  refine wpList_plain hgd fun K' hK' => ?_
  unfold Oper.wp
  simp [execOp, ho, resolve, invoke, builtin, hs, hx, hrun, Result.andThen]
  exact hK' _ _ this

end Sn
end Go.Proofs.YtkaciaiooidohaaDoor

/-
  The document's Print of spans.
-/
set_option linter.unusedVariables false
set_option linter.unusedSimpArgs false
namespace Go.Proofs.YtkaciaiooidohaaDoor
open Go.RowKit Go.Shelf
namespace Sn
open Oc Tg Ac

def ptK (t : List Sp) (k : Nat) : List UInt8 := [98, 121, 116, 101, 115, 61] ++ jn ((t.take k).map extR)
theorem take_nthN2 (t : List Sp) (k : Nat) (h : k < t.length) : t.take (k + 1) = t.take k ++ [nthN t k] := by rw [List.take_succ_eq_append_getElem h, nthN_mem' h]
theorem ptK_zero (t : List Sp) : ptK t 0 = [98, 121, 116, 101, 115, 61] := by simp [ptK, jn]
theorem ptK_first (t : List Sp) (h : 0 < t.length) : ptK t 0 ++ extR (nthN t 0) = ptK t 1 := by
  rw [ptK_zero]
  unfold ptK
  rw [show (1 : Nat) = 0 + 1 from rfl, take_nthN2 t 0 h]
  simp [jn]
theorem ptK_next (t : List Sp) (k : Nat) (h0 : 0 < k) (h : k < t.length) : ptK t k ++ [44] ++ extR (nthN t k) = ptK t (k + 1) := by
  unfold ptK
  rw [take_nthN2 t k h, List.map_append, List.map_singleton, jn_snoc _ _ (by
    intro e
    have h2 : ((t.take k).map extR).length = k := by simp; omega
    rw [e] at h2
    simp at h2
    omega)]
  simp
theorem ptK_len {t : List Sp} {size : Int} (hs : size ≤ 9223372036854775807) (hn : t.length ≤ 1048576) (k : Nat) (hk : k ≤ t.length) (ha : ∀ j, j < k → isSp (nthN t j) size = true) : (ptK t k).length ≤ 50000000 := by
  have hl := jn_len 43 ((t.take k).map extR) (fun y hy => by
    obtain ⟨x, hx, rfl⟩ := List.mem_map.1 hy
    obtain ⟨j, hj, rfl⟩ := List.mem_iff_getElem.1 hx
    rw [List.length_take] at hj
    have hh : isSp (nthN t j) size = true := ha j (by omega)
    rw [nthN_mem' (show j < t.length by omega)] at hh
    rw [List.getElem_take]
    have hh : 0 ≤ t[j].1 ∧ t[j].1 < t[j].2 ∧ t[j].2 ≤ size := of_decide_eq_true hh
    exact extR_len _ (by omega) (by omega) (by omega) (by omega))
  rw [List.length_map, List.length_take] at hl
  unfold ptK
  rw [List.length_append]
  simp only [List.length_cons, List.length_nil]
  omega

def OvK (B : Nat) (t : List Sp) (k : Nat) (ov : Value) (wr : World) : Prop :=
  (k = 0 ∧ ov = .slice (some ⟨B, 0, none⟩) 6 6 ∧ ∀ (j : Nat) (v : Value), (Lib.byteCells six)[j]? = some v → wr.cell? ⟨B, j, none⟩ = some v) ∨ (0 < k ∧ Own B ov (ptK t k) wr)

set_option maxRecDepth 100000 in
set_option maxHeartbeats 2000000 in
theorem rPrint_any (v : Value) (t : List Sp) (size : Int) (hn : t.length ≤ 1048576) (s1 : size ≤ 9223372036854775807) (w : World) (hrd : RdN v t w) :
    Calls Tryd.prog 8 #[v, .int .i64 size] w fun e w' => e = .returned (.tuple #[.string (str (prtR t size).1), .int .i64 (prtR t size).2]) ∧ Below w.heap.size w w' := by
  by_cases hz : size < 0
  · have HQ : Hid (prtR t size = ([], 1)) := (by unfold prtR; rw [if_pos hz] : prtR t size = _)
    obtain ⟨a, c, rfl, _⟩ := hrd
    go_enter Tryd.func8, Tryd.ntmps8
    go_wp2
    go_ret2
    rw [HQ.out]
    exact ⟨rfl, Below.refl _ _⟩
  · by_cases h0 : t.length = 0
    · have HQ : Hid (prtR t size = ([], 91)) := (by unfold prtR; rw [if_neg hz, if_pos h0] : prtR t size = _)
      have e0 : ((t.length : Int) == 0) = true := by simp [h0]
      obtain ⟨a, c, rfl, _⟩ := hrd
      clear h0
      go_enter Tryd.func8, Tryd.ntmps8
      go_wp2
      go_ret2
      rw [HQ.out]
      exact ⟨rfl, Below.refl _ _⟩
    · have e0 : ((t.length : Int) == 0) = false := by rw [beq_eq_false_iff_ne]; omega
      have HQn : Hid (allSp t size = false → prtR t size = ([], 91)) := (fun h => by unfold prtR; rw [if_neg hz, if_neg h0, if_neg (by rw [h]; simp)] : _ → prtR t size = _)
      have HQy : Hid (allSp t size = true → prtR t size = (ptK t t.length, 0)) := (fun h => by unfold prtR ptK; rw [if_neg hz, if_neg h0, if_pos h, List.take_length] : _ → prtR t size = _)
      obtain ⟨a, c, rfl, hcs⟩ := hrd
      rcases hcs with h | ⟨g, o, rfl, hlc, hcell⟩
      · rw [h] at h0; exact absurd rfl h0
      have HC : Hid (∀ k, k < t.length → ∀ W, Below w.heap.size w W → W.cell? ⟨g, o + k * 2, none⟩ = some (.int .i64 (nthN t k).1) ∧ W.cell? ⟨g, o + k * 2 + 1, none⟩ = some (.int .i64 (nthN t k).2)) := fun k hk W hb =>
        ⟨(hb.cell (World.block_lt_of_cell? w _ (hcell k hk).1)).trans (hcell k hk).1, (hb.cell (World.block_lt_of_cell? w _ (hcell k hk).2)).trans (hcell k hk).2⟩
      have HIs : Hid (∀ k W, Calls Tryd.prog 19 #[.agg #[.int .i64 (nthN t k).1, .int .i64 (nthN t k).2], .int .i64 size] W fun e w' => e = .returned (.bool (isSp (nthN t k) size)) ∧ Below (World.heap W).size W w') := fun k W => (rIs_gr (nthN t k).1 (nthN t k).2 size W).mono (fun e w' ⟨h1, h2⟩ => ⟨h1, Grew.below h2⟩)
      have HEn : Hid (∀ k, isSp (nthN t k) size = true → ∀ W, Calls Tryd.prog 20 #[.agg #[.int .i64 (nthN t k).1, .int .i64 (nthN t k).2]] W fun e w' => e = .returned (.string (str (extR (nthN t k)))) ∧ Below (World.heap W).size W w') := fun k h W => by
        have hh : 0 ≤ (nthN t k).1 ∧ (nthN t k).1 < (nthN t k).2 ∧ (nthN t k).2 ≤ size := of_decide_eq_true h
        exact (ends_gr (nthN t k).1 (nthN t k).2 (by omega) (by omega) (by omega) (by omega) W).mono (fun e w' ⟨h1, h2⟩ => ⟨h1, Grew.below h2⟩)
      have HLen : Hid (∀ k, k ≤ t.length → (∀ j, j < k → isSp (nthN t j) size = true) → (ptK t k).length ≤ 50000000) := fun k hk ha => ptK_len s1 hn k hk ha
      clear hcell
      have hcs := conv_six w
      go_enter Tryd.func8, Tryd.ntmps8
      go_wp2
      clear hcs
      go_loopw [6, 7] (fun ov i wr => ∃ k : Nat, k ≤ t.length ∧ i = .int .i64 k ∧ Hid (OvK w.heap.size t k ov wr) ∧ Hid (∀ j, j < k → isSp (nthN t j) size = true) ∧ Hid (Below w.heap.size w wr)) (fun _ i _ => t.length - (intOf i).toNat)
      case atStart => exact ⟨0, Nat.zero_le _, rfl, (.inl ⟨rfl, rfl, cells_six w⟩ : OvK _ _ _ _ _), (fun j hj => absurd hj (Nat.not_lt_zero _) : ∀ j, j < 0 → _), below_six w⟩
      case round =>
        obtain ⟨k, hk, rfl, hO, hall, hbl⟩ := hrel
        by_cases hlt : k < t.length
        · obtain ⟨p0, p1⟩ := HC.out k hlt wr hbl.out
          have HIk : Hid (Calls _ _ _ wr _) := HIs.out k wr
          have HCk : Hid (∀ W, Below w.heap.size w W → W.cell? ⟨g, o + k * 2, none⟩ = some (.int .i64 (nthN t k).1) ∧ W.cell? ⟨g, o + k * 2 + 1, none⟩ = some (.int .i64 (nthN t k).2)) := HC.out k hlt
          have HNo : Hid (isSp (nthN t k) size = false → allSp t size = false) := fun h => allSp_no hlt h
          have HEk : Hid (isSp (nthN t k) size = true → ∀ W, Calls Tryd.prog 20 #[.agg #[.int .i64 (nthN t k).1, .int .i64 (nthN t k).2]] W fun e w' => e = .returned (.string (str (extR (nthN t k)))) ∧ Below (World.heap W).size W w') := HEn.out k
          have HFn : Hid (isSp (nthN t k) size = true → ∀ j, j < k + 1 → isSp (nthN t j) size = true) := fun h j hj => by
            by_cases e : j = k
            · rw [e]; exact h
            · exact hall.out j (by omega)
          have HL0 : Hid ((ptK t k).length ≤ 50000000) := HLen.out k hk hall.out
          have HEl : Hid (isSp (nthN t k) size = true → (extR (nthN t k)).length ≤ 43) := fun h => by
            have hh : 0 ≤ (nthN t k).1 ∧ (nthN t k).1 < (nthN t k).2 ∧ (nthN t k).2 ≤ size := of_decide_eq_true h
            exact extR_len _ (by omega) (by omega) (by omega) (by omega)
          have HE0 : Hid (0 < (extR (nthN t k)).length) := List.length_pos_iff.2 (ext_ne _)
          have HP0 : Hid (k = 0 → ptK t k ++ extR (nthN t k) = ptK t (k + 1)) := fun h => by subst h; exact ptK_first t hlt
          have HP1 : Hid (0 < k → ptK t k ++ [44] ++ extR (nthN t k) = ptK t (k + 1)) := fun h => ptK_next t k h hlt
          generalize isSp (nthN t k) size = b at *
          generalize extR (nthN t k) = E at *
          generalize (nthN t k).1 = X at *
          generalize (nthN t k).2 = Y at *
          cases b with
          | false =>
            have HPR : Hid (prtR t size = ([], 91)) := HQn.out (HNo.out rfl)
            clear HNo HFn HEk HEl
            go_wp2_with fail
            refine HIk.out.mono ?_
            rintro e w3 ⟨rfl, hb3⟩
            have HB3 : Hid (Below w.heap.size w w3) := bel_trans hbl.out hb3
            clear hb3
            go_wp2
            go_ret2
            rw [HPR.out]
            exact ⟨rfl, HB3.out⟩
          | true =>
            have HF : Hid (∀ j, j < k + 1 → isSp (nthN t j) size = true) := HFn.out rfl
            have HEx : Hid (∀ W, Calls Tryd.prog 20 #[.agg #[.int .i64 X, .int .i64 Y]] W fun e w' => e = .returned (.string (str E)) ∧ Below (World.heap W).size W w') := HEk.out rfl
            have HLE : Hid (E.length ≤ 43) := HEl.out rfl
            generalize hS : str E = SE at *
            have HS : Hid (SE = str E) := hS.symm
            clear HNo HFn HEk HEl hS
            rcases hO.out with ⟨hk0, rfl, hc6⟩ | ⟨hk0, hOw⟩
            · have hg : ¬ (0 : Int) < (k : Int) := by omega
              have HPn' : Hid (six ++ E = ptK t (k + 1)) := (by have := HP0.out hk0; rw [hk0, ptK_zero] at this; rw [hk0]; exact this : _ = _)
              have HC6 : Hid (∀ (j : Nat) (v : Value), (Lib.byteCells six)[j]? = some v → wr.cell? ⟨w.heap.size, j, none⟩ = some v) := hc6
              clear HP0 HP1 hk0 hc6
              go_wp2_with fail
              refine HIk.out.mono ?_
              rintro e w3 ⟨rfl, hb3⟩
              have HB3 : Hid (Below w.heap.size w w3) := bel_trans hbl.out hb3
              have HC3 : Hid (∀ (j : Nat) (v : Value), (Lib.byteCells six)[j]? = some v → w3.cell? ⟨w.heap.size, j, none⟩ = some v) := fun j v hj => (hb3.cell (World.block_lt_of_cell? wr _ (HC6.out j v hj))).trans (HC6.out j v hj)
              obtain ⟨q0, q1⟩ := HCk.out w3 HB3.out
              clear hb3 p0 p1
              go_wp2_with fail
              refine (HEx.out _).mono ?_
              rintro e w5 ⟨rfl, hb5⟩
              have HC5 : Hid (∀ (j : Nat) (v : Value), (Lib.byteCells six)[j]? = some v → w5.cell? ⟨w.heap.size, j, none⟩ = some v) := fun j v hj => (hb5.cell (World.block_lt_of_cell? w3 _ (HC3.out j v hj))).trans (HC3.out j v hj)
              have HB5 : Hid (Below w.heap.size w w5) := bel_trans HB3.out hb5
              have hs5 := HB5.out.size
              clear hb5 q0 q1
              go_wp2_with (at_builtin; go_must (refine wp_six rfl (.tmp 33) (.tmp 38) rfl w.heap.size w.heap.size w5 _ E HS.out rfl HC5.out rfl HE0.out HLE.out hs5 ?_); intro v6 w6 hO6 hb6)
              have HO6 : Hid (OvK w.heap.size t (k + 1) v6 w6) := (.inr ⟨by omega, by rw [← HPn'.out]; exact hO6⟩ : OvK _ _ _ _ _)
              have HB6 : Hid (Below w.heap.size w w6) := HB5.out.trans hb6
              clear hO6 hb6
              go_roundw
              case rel => exact ⟨k + 1, by omega, by go_num, HO6, HF, HB6⟩
              case measure => simp [intOf]; omega
            · have hg : (0 : Int) < (k : Int) := by omega
              have HPn' : Hid (ptK t k ++ [44] ++ E = ptK t (k + 1)) := HP1.out hk0
              have HOw : Hid (Own w.heap.size _ (ptK t k) wr) := hOw
              clear HP0 HP1 hk0 hOw
              go_wp2_with fail
              refine HIk.out.mono ?_
              rintro e w3 ⟨rfl, hb3⟩
              have HB3 : Hid (Below w.heap.size w w3) := bel_trans hbl.out hb3
              have HO3 : Hid (Own w.heap.size _ (ptK t k) w3) := own_below HOw.out hb3
              have hs3 := HB3.out.size
              clear hb3 p0 p1
              go_wp2_with (at_builtin; go_must (refine wp_app rfl (.tmp 30) (.tmp 31) rfl w.heap.size _ (ptK t k) w3 44 44 rfl rfl HO3.out rfl (by have := HL0.out; omega) hs3 ?_); intro v4 w4 hO4 hb4 hm4; have HO4 : Hid (Own w.heap.size v4 (ptK t k ++ [44]) w4) := hO4; have HB4 : Hid (Below w.heap.size w w4) := HB3.out.trans hb4; obtain ⟨q0, q1⟩ := HCk.out w4 HB4.out; clear hO4 hb4 hm4)
              refine (HEx.out _).mono ?_
              rintro e w5 ⟨rfl, hb5⟩
              have HO5 : Hid (Own w.heap.size v4 (ptK t k ++ [44]) w5) := own_below HO4.out hb5
              have HB5 : Hid (Below w.heap.size w w5) := bel_trans HB4.out hb5
              have hs5 := HB5.out.size
              clear hb5 q0 q1
              go_wp2_with (at_builtin; go_must (refine wp_appG2 rfl (.tmp 33) (.tmp 38) rfl w.heap.size _ (ptK t k ++ [44]) w5 _ E HS.out rfl HO5.out rfl (by have := HL0.out; have := HLE.out; rw [List.length_append]; simp; omega) hs5 ?_); intro v6 w6 hO6 hb6)
              have HO6 : Hid (OvK w.heap.size t (k + 1) v6 w6) := (.inr ⟨by omega, by rw [← HPn'.out]; exact hO6⟩ : OvK _ _ _ _ _)
              have HB6 : Hid (Below w.heap.size w w6) := HB5.out.trans hb6
              clear hO6 hb6
              go_roundw
              case rel => exact ⟨k + 1, by omega, by go_num, HO6, HF, HB6⟩
              case measure => simp [intOf]; omega
        · obtain rfl : k = t.length := by omega
          have HPR : Hid (prtR t size = (ptK t t.length, 0)) := HQy.out (allSp_yes hall.out)
          rcases hO.out with ⟨hk0, _⟩ | ⟨hk0, hOw⟩
          · exact absurd hk0 h0
          have hbk := own_back hOw
          clear hOw hk0
          go_wp2
          go_ret2
          rw [HPR.out]
          exact ⟨rfl, hbl.out⟩

end Sn
end Go.Proofs.YtkaciaiooidohaaDoor

/-
  span.Parse at longer texts.
-/
set_option linter.unusedVariables false
set_option linter.unusedSimpArgs false
namespace Go.Proofs.YtkaciaiooidohaaDoor
open Go.RowKit Go.Shelf
namespace Sn
open Oc Tg Ac

set_option maxRecDepth 100000 in
set_option maxHeartbeats 1000000 in
theorem rangeElements2_any (s : ByteArray) (hs : s.size ≤ 67108864) (w : World) (hw : ML w) :
    Calls Tryd.prog 22 #[.string s] w fun e w' => ∃ v, e = .returned (.tuple #[v, .bool (elR s.data.toList).2]) ∧ ((elR s.data.toList).2 = true → OwnS w.heap.size v (elR s.data.toList).1 w') ∧ Below w.heap.size w w' := by
  have HC : Hid (Calls _ _ _ _ _) := Cut_one s 61 (by omega) w hw
  have lA := cutA_len 61 s.data.toList
  have lB := cutB_len 61 s.data.toList
  rw [size_list] at lA lB
  have hu : lowS (str [98, 121, 116, 101, 115]) = str [98, 121, 116, 101, 115] := by decide +kernel
  have HS : Hid (∀ W, Calls Tryd.prog 46 #[.string (str (cutA 61 s.data.toList)), .string ⟨#[98, 121, 116, 101, 115]⟩] W fun e w' => e = .returned (.bool (decide (lower (cutA 61 s.data.toList) = [98, 121, 116, 101, 115]))) ∧ Below W.heap.size W w') := fun W => by
    have h := Same_any (str (cutA 61 s.data.toList)) (str [98, 121, 116, 101, 115]) (by rw [str_size]; unfold maxLen; omega) (by decide +kernel) W
    have e : decide (lowS (str (cutA 61 s.data.toList)) = lowS (str [98, 121, 116, 101, 115])) = decide (lower (cutA 61 s.data.toList) = [98, 121, 116, 101, 115]) := by
      rw [hu, decide_eq_decide]
      unfold lowS
      rw [str_list]
      exact ⟨fun h => str_inj h, fun h => by rw [h]⟩
    rw [e] at h
    exact h
  have HL : Hid (∀ W, Calls Tryd.prog 47 #[.string (str (cutB 61 s.data.toList))] W fun e w' => ∃ v, e = .returned (.tuple #[v, .int .i64 (listR (cutB 61 s.data.toList)).2]) ∧ OwnS W.heap.size v (listR (cutB 61 s.data.toList)).1 w' ∧ Below W.heap.size W w') := fun W => by
    have h := List_any (str (cutB 61 s.data.toList)) (by rw [str_size]; omega) W
    rw [str_list] at h
    exact h
  have hn := (listR_short (cutB 61 s.data.toList)).1
  clear hw hu
  unfold elR
  generalize listR (cutB 61 s.data.toList) = LR at *
  generalize str (cutA 61 s.data.toList) = SA at *
  generalize str (cutB 61 s.data.toList) = SB at *
  generalize lower (cutA 61 s.data.toList) = LA at *
  generalize has 61 s.data.toList = h61 at *
  obtain ⟨t, er⟩ := LR
  dsimp only at *
  by_cases hA : LA = [98, 121, 116, 101, 115]
  · rw [if_pos hA]
    rw [decide_eq_true hA] at HS
    dsimp only
    clear hA
    go_enter Tryd.func22, Tryd.ntmps22
    go_wp2_with fail
    refine HC.out.mono ?_
    rintro e w3 ⟨rfl, hb3⟩
    have HB3 : Hid (Below w.heap.size w w3) := hb3
    clear hb3
    go_wp2_with fail
    refine (HS.out _).mono ?_
    rintro e w4 ⟨rfl, hb4⟩
    have HB4 : Hid (Below w.heap.size w w4) := bel_trans HB3.out hb4
    clear hb4
    go_wp2_with fail
    refine (HL.out _).mono ?_
    rintro e w5 ⟨v, rfl, ho, hb5⟩
    have HB5 : Hid (Below w.heap.size w w5) := bel_trans HB4.out hb5
    have HO : Hid (OwnS w.heap.size v t w5) := ho.lower HB4.out.size
    obtain ⟨va, vc, rfl⟩ := ho.form
    clear hb5 ho
    by_cases hz : er = 0
    · subst hz
      go_wp2
      go_ret2
      exact ⟨_, rfl, (fun _ => HO.out), HB5.out⟩
    · have hz' : (er == 0) = false := by simp [hz]
      have HQ : Hid ((decide (er = 0) && decide (0 < t.length)) = false) := (by simp [hz] : (decide (er = 0) && decide (0 < t.length)) = false)
      go_wp2
      go_ret2
      rw [HQ.out]
      exact ⟨_, rfl, (fun _ => HO.out), HB5.out⟩
  · rw [if_neg hA]
    rw [decide_eq_false hA] at HS
    dsimp only
    clear hA
    go_enter Tryd.func22, Tryd.ntmps22
    go_wp2_with fail
    refine HC.out.mono ?_
    rintro e w3 ⟨rfl, hb3⟩
    have HB3 : Hid (Below w.heap.size w w3) := hb3
    clear hb3
    go_wp2_with fail
    refine (HS.out _).mono ?_
    rintro e w4 ⟨rfl, hb4⟩
    have HB4 : Hid (Below w.heap.size w w4) := bel_trans HB3.out hb4
    clear hb4
    go_wp2
    go_ret2
    exact ⟨_, rfl, (fun h => by cases h), HB4.out⟩

set_option maxRecDepth 100000 in
set_option maxHeartbeats 4000000 in
theorem Parse2_any (s : ByteArray) (hs : s.size ≤ 67108864) (size : Int) (z0 : -9223372036854775808 ≤ size) (z1 : size ≤ 9223372036854775807) (w : World) (hw : ML w) :
    Calls Tryd.prog 11 #[.string s, .int .i64 size] w fun e w' => ∃ v, e = .returned (.tuple #[v, .int .i64 (parR s.data.toList size).2]) ∧ OwnN 43 w.heap.size v (parR s.data.toList size).1 w' ∧ Below w.heap.size w w' := by
  by_cases hneg : size < 0
  · have HP : Hid (parR s.data.toList size = ([], 1)) := (by unfold parR; rw [if_pos hneg] : parR s.data.toList size = ([], 1))
    clear hw
    go_enter Tryd.func11, Tryd.ntmps11
    go_wp2
    go_ret2
    rw [HP.out]
    exact ⟨_, rfl, ownN_nil _ _ _, Below.refl _ _⟩
  · have hpos : 0 ≤ size := by omega
    have HP1 : Hid ((elR s.data.toList).2 = false → parR s.data.toList size = ([], 90)) := (fun h => by unfold parR; rw [if_neg hneg, if_pos h] : _ → parR s.data.toList size = _)
    have HP2 : Hid ((elR s.data.toList).2 = true → parR s.data.toList size = ansR size (elR s.data.toList).1) := (fun h => by unfold parR; rw [if_neg hneg, if_neg (by rw [h]; simp)] : _ → parR s.data.toList size = _)
    have HR : Hid (Calls _ _ _ _ _) := rangeElements2_any s hs w hw
    have hel : (elR s.data.toList).1.length ≤ 67108865 ∧ ∀ x ∈ (elR s.data.toList).1, x.length ≤ 67108864 := by
      unfold elR
      have l := listR_short (cutB 61 s.data.toList)
      have lB := cutB_len 61 s.data.toList
      rw [size_list] at lB
      split
      · exact ⟨by have := l.1; dsimp only; omega, fun x hx => by have := l.2 x hx; omega⟩
      · simp
    have HE : Hid (ML w) := hw
    clear hw hneg
    generalize parR s.data.toList size = PR at *
    generalize elR s.data.toList = ER at *
    obtain ⟨t, ok⟩ := ER
    dsimp only at *
    obtain ⟨htl, hsh⟩ := hel
    have HSh : Hid (∀ x ∈ t, x.length ≤ 67108864) := hsh
    clear hsh
    cases ok with
    | false =>
      have HPR := HP1.out rfl
      clear HP1 HP2
      have HPR' : Hid (PR = ([], 90)) := HPR
      clear HPR
      go_enter Tryd.func11, Tryd.ntmps11
      go_wp2_with fail
      refine HR.out.mono ?_
      rintro e w2 ⟨v, rfl, ho, hb2⟩
      have HB2 : Hid (Below w.heap.size w w2) := hb2
      clear ho hb2
      go_wp2
      go_ret2
      rw [HPR'.out]
      exact ⟨_, rfl, ownN_nil _ _ _, HB2.out⟩
    | true =>
      have HW : Hid (PR = ansR size t) := HP2.out rfl
      clear HP1 HP2
      go_enter Tryd.func11, Tryd.ntmps11
      go_wp2_with fail
      refine HR.out.mono ?_
      rintro e w2 ⟨v, rfl, ho, hb2⟩
      replace ho := ho trivial
      have HB2 : Hid (Below w.heap.size w w2) := hb2
      have HE2 : Hid (ML w2) := HE.out.below hb2
      have HR2 : Hid (RdS v t w2) := OwnS.rd ho
      have hz2 := hb2.size
      obtain ⟨va, vc, rfl⟩ := OwnS.form ho
      clear ho hb2 HR
      go_wp2
      go_loopw [8, 24] (fun lv iv wr => ∃ k : Nat, k ≤ t.length ∧ iv = .int .i64 k ∧ Hid (∀ j, j < k → (askP (t.getD j []) size).2 = true) ∧ Hid (OwnN 43 w2.heap.size lv ((t.take k).filterMap (keepN size)) wr) ∧ Hid (Below w2.heap.size w2 wr)) (fun _ iv _ => t.length - (intOf iv).toNat)
      case atStart => exact ⟨0, Nat.zero_le _, rfl, (fun j hj => by omega : ∀ j, j < 0 → _), ownN_nil _ _ _, Below.refl _ _⟩
      case round =>
        obtain ⟨k, hk, rfl, hall, hown, hbl⟩ := hrel
        by_cases hlt : k < t.length
        · have hsz := hbl.out.size
          obtain ⟨a', c', e', hcs⟩ := HR2.out.below hbl.out
          injection e' with e1 _ e2
          subst e1 e2
          rcases hcs with h | ⟨g, o, rfl, hlc, hcell⟩
          · rw [h] at hlt; simp at hlt
          have p0 := hcell k hlt
          clear hcell
          have hxl := getD_short HSh.out k hlt
          have HRW : Hid (∀ w, ML w → Calls Tryd.prog 23 #[.string (str (t.getD k [])), .int .i64 size] w fun e w' => e = .returned (.tuple #[.agg #[.int .i64 (askP (t.getD k []) size).1.1, .int .i64 (askP (t.getD k []) size).1.2], .bool (askP (t.getD k []) size).2]) ∧ Below w.heap.size w w') := fun w h => by
            have := asked_any (str (t.getD k [])) (by rw [str_size]; omega) size hpos z1 w h
            rw [str_list] at this
            exact this
          have HErr : Hid ((askP (t.getD k []) size).2 = false → PR = ([], 90)) := (fun h => by rw [HW.out]; exact ansR_bad k hlt h : _ → PR = _)
          have HNext : Hid ((askP (t.getD k []) size).2 = true → ∀ j, j < k + 1 → (askP (t.getD j []) size).2 = true) := (fun h j hj => by
            by_cases hjk : j = k
            · subst hjk; exact h
            · exact hall.out j (by omega) : _ → ∀ j, _)
          have HTk : Hid ((t.take (k + 1)).filterMap (keepN size) = (t.take k).filterMap (keepN size) ++ (keepN size (t.getD k [])).toList) := take_keep size t k hlt
          have hlk : ((t.take k).filterMap (keepN size)).length + 1 ≤ 2147483648 := by have := keep_len size t k; omega
          have HKN : Hid (keepN size (t.getD k []) = if emp (wth (askP (t.getD k []) size).1 size) then none else some (wth (askP (t.getD k []) size).1 size)) := (rfl : keepN size (t.getD k []) = _)
          generalize keepN size (t.getD k []) = KN at *
          generalize (t.take k).filterMap (keepN size) = acc at *
          generalize hK1 : askP (t.getD k []) size = W1 at *
          obtain ⟨⟨x1, x2⟩, xo⟩ := W1
          dsimp only at *
          clear hK1
          generalize str (t.getD k []) = X at *
          have HWI : Hid (∀ W, Calls _ _ _ W _) := fun W => within_any x1 x2 size W
          generalize wth (x1, x2) size = Y at *
          obtain ⟨y1, y2⟩ := Y
          dsimp only at *
          have HEM : Hid (∀ W, Calls _ _ _ W _) := fun W => isEmpty_any y1 y2 W
          generalize emp (y1, y2) = em at *
          go_wp2_with fail
          refine (HRW.out _ (HE2.out.below hbl.out)).mono ?_
          rintro e w5 ⟨rfl, hb5⟩
          have HB5 : Hid (Below w2.heap.size w2 w5) := bel_trans hbl.out hb5
          have HO5 : Hid (OwnN 43 w2.heap.size _ acc w5) := hown.out.below hb5
          clear hb5
          obtain ⟨w6, hw6⟩ : ∃ w6, w6 = w5.alloc (.cells #[.int .i64 x1, .int .i64 x2] 43) := ⟨_, rfl⟩
          have HPB : Hid (PB 43 w6 w5.heap.size (x1, x2)) := (by rw [hw6]; exact PB.new _ w5 (x1, x2) : PB _ _ _ _)
          have HB56 : Hid (Below w5.heap.size w5 w6) := (by rw [hw6]; exact (Below.refl _ w5).alloc (Nat.le_refl _) _ : Below _ _ _)
          have hz5 := HB5.out.size
          cases xo with
          | false =>
            have HWr : Hid (PR = ([], 90)) := HErr.out rfl
            go_wp2
            rw [← hw6]
            go_ret2
            rw [HWr.out]
            exact ⟨_, rfl, ownN_nil _ _ _, HB2.out.trans ((bel_trans HB5.out HB56.out).mono hz2)⟩
          | true =>
            have HN2 := HNext.out rfl
            have HN2' : Hid (∀ j, j < k + 1 → (askP (t.getD j []) size).2 = true) := HN2
            clear HN2 HErr HNext
            have q0 := HPB.out.c0
            have q1 := HPB.out.c1
            generalize hg : w5.heap.size = g5 at *
            go_wp2_with fail
            rw [← hw6]
            clear hw6
            refine (HWI.out _).mono ?_
            rintro e w7 ⟨rfl, hb7⟩
            have hp7 := HPB.out.below hb7
            have r0 := hp7.c0
            have r1 := hp7.c1
            have f0 := hp7.f 0
            have f1 := hp7.f 1
            have hl7 := hp7.lt
            obtain ⟨w8, hw8⟩ : ∃ w8, w8 = (w7.setCell ⟨g5, 0, none⟩ (.int .i64 y1)).setCell ⟨g5, 1, none⟩ (.int .i64 y2) := ⟨_, rfl⟩
            have HP8 : Hid (PB 43 w8 g5 (y1, y2)) := (by rw [hw8]; exact hp7.set y1 y2 : PB _ _ _ _)
            have HB58 : Hid (Below w5.heap.size w5 w8) := (by
              rw [hw8, hg]
              have h := HB56.out.trans (hb7.mono (by have := HPB.out.lt; omega))
              exact (h.setCell (Nat.le_refl _) _).setCell (Nat.le_refl _) _ : Below _ _ _)
            have s0 := HP8.out.c0
            have s1 := HP8.out.c1
            clear hp7 hb7
            go_wp2_with fail
            rw [← hw8]
            clear hw8
            refine (HEM.out _).mono ?_
            rintro e w9 ⟨rfl, hb9⟩
            have hp9 := HP8.out.below hb9
            have t0 := hp9.c0
            have t1 := hp9.c1
            have HB59 : Hid (Below w5.heap.size w5 w9) := bel_trans HB58.out hb9
            have HB9 : Hid (Below w2.heap.size w2 w9) := bel_trans HB5.out HB59.out
            have HO9 : Hid (OwnN 43 w2.heap.size _ acc w9) := HO5.out.below HB59.out
            have hz9 := HB9.out.size
            clear hp9 hb9
            cases em with
            | true =>
              have HT2 : Hid ((t.take (k + 1)).filterMap (keepN size) = acc) := (by rw [HTk.out, HKN.out]; simp : (t.take (k + 1)).filterMap (keepN size) = acc)
              clear HTk HKN
              go_wp2
              go_roundw
              case rel => exact ⟨k + 1, by omega, by go_num, HN2', (by rw [HT2.out]; exact HO9.out : OwnN _ _ _ _ _), HB9⟩
              case measure => simp [intOf]; omega
            | false =>
              have HT2 : Hid ((t.take (k + 1)).filterMap (keepN size) = acc ++ [(y1, y2)]) := (by rw [HTk.out, HKN.out]; simp : (t.take (k + 1)).filterMap (keepN size) = acc ++ [(y1, y2)])
              clear HTk HKN
              go_wp2_with (at_builtin; go_must (refine wp_appN 43 22 infoN Tryd.underlying22 rfl (.tmp 42) (.tmp 44) rfl w2.heap.size _ acc _ (y1, y2) _ _ rfl rfl (by simp [Act.eval, Act.put]) HO9.out _ (by simp [Act.eval, Act.put]) rfl hlk hz9 ?_; intro va7 wa7 hown7 hb7))
              have HO7 : Hid (OwnN 43 w2.heap.size va7 ((t.take (k + 1)).filterMap (keepN size)) wa7) := (by rw [HT2.out]; exact hown7 : OwnN _ _ _ _ _)
              have HB7 : Hid (Below w2.heap.size w2 wa7) := HB9.out.trans hb7
              clear hown7 hb7
              go_wp2
              go_roundw
              case rel => exact ⟨k + 1, by omega, by go_num, HN2', HO7, HB7⟩
              case measure => simp [intOf]; omega
        · obtain rfl : k = t.length := by omega
          have HWr : Hid (PR = (if (t.filterMap (keepN size)).length = 0 then ([], 91) else (t.filterMap (keepN size), 0))) := (by rw [HW.out]; exact ansR_ok hall.out : PR = _)
          rw [List.take_length] at hown
          generalize t.filterMap (keepN size) = acc at *
          obtain ⟨la, lc, rfl⟩ := hown.out.form
          by_cases hz : acc.length = 0
          · have hz' : ((acc.length : Int) == 0) = true := by rw [beq_iff_eq]; omega
            have HWs : Hid (PR = ([], 91)) := (by rw [HWr.out, if_pos hz] : PR = _)
            clear HWr hz
            go_wp2
            go_ret2
            rw [HWs.out]
            exact ⟨_, rfl, ownN_nil _ _ _, HB2.out.trans (hbl.out.mono hz2)⟩
          · have hz' : ((acc.length : Int) == 0) = false := by rw [beq_eq_false_iff_ne]; omega
            have HWs : Hid (PR = (acc, 0)) := (by rw [HWr.out, if_neg hz] : PR = _)
            clear HWr
            go_wp2
            go_ret2
            rw [HWs.out]
            exact ⟨_, rfl, hown.out.mono hz2, HB2.out.trans (hbl.out.mono hz2)⟩

end Sn
end Go.Proofs.YtkaciaiooidohaaDoor
