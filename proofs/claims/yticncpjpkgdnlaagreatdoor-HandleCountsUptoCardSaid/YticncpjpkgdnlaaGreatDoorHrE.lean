/-
  handle: valueOf, the document's value.
-/
import Derived.Test.YticncpjpkgdnlaaGreatDoorHrB
set_option linter.unusedVariables false
set_option linter.unusedSimpArgs false
set_option maxRecDepth 100000
namespace Go.Proofs.YticncpjpkgdnlaaGreatDoor
open Go.RowKit Go.Shelf
namespace Hn
open Oc

def isA (s : List UInt8) (p : PrA) : Bool := decide (p.1 = s)
def idxA (s : List UInt8) (l : List PrA) : Int := match l.findIdx? (isA s) with | some k => (k : Int) | none => -1
theorem idxA_at {s : List UInt8} {l : List PrA} {k : Nat} (hk : k < l.length) (h1 : isA s (nthA l k) = true) (h2 : ∀ j, j < k → isA s (nthA l j) = false) : idxA s l = k := by
  unfold idxA
  have : l.findIdx? (isA s) = some k := by
    rw [List.findIdx?_eq_some_iff_getElem]
    refine ⟨hk, ?_, fun j hj => ?_⟩
    · unfold nthA at h1
      rw [List.getD_eq_getElem?_getD, List.getElem?_eq_getElem hk] at h1
      exact h1
    · have := h2 j hj
      unfold nthA at this
      rw [List.getD_eq_getElem?_getD, List.getElem?_eq_getElem (by omega)] at this
      simpa using this
  rw [this]
theorem idxA_none {s : List UInt8} {l : List PrA} (h2 : ∀ j, j < l.length → isA s (nthA l j) = false) : idxA s l = -1 := by
  unfold idxA
  have : l.findIdx? (isA s) = none := by
    rw [List.findIdx?_eq_none_iff]
    intro x hx
    obtain ⟨j, hj, rfl⟩ := List.getElem_of_mem hx
    have := h2 j hj
    unfold nthA at this
    rw [List.getD_eq_getElem?_getD, List.getElem?_eq_getElem hj] at this
    exact this
  rw [this]
theorem valA_at {s : List UInt8} {l : List PrA} {k : Nat} (hk : k < l.length) (h1 : isA s (nthA l k) = true) (h2 : ∀ j, j < k → isA s (nthA l j) = false) : valA l s = (nthA l k).2.1 := by
  unfold valA
  have : l.find? (fun p => decide (p.1 = s)) = some (nthA l k) := by
    rw [List.find?_eq_some_iff_getElem]
    unfold nthA at h1 ⊢
    rw [List.getD_eq_getElem?_getD, List.getElem?_eq_getElem hk] at h1 ⊢
    refine ⟨h1, k, hk, rfl, fun j hj => ?_⟩
    have := h2 j hj
    unfold nthA at this
    rw [List.getD_eq_getElem?_getD, List.getElem?_eq_getElem (by omega)] at this
    simpa [isA] using this
  rw [this]
theorem valA_none {s : List UInt8} {l : List PrA} (h2 : ∀ j, j < l.length → isA s (nthA l j) = false) : valA l s = [] := by
  unfold valA
  have : l.find? (fun p => decide (p.1 = s)) = none := by
    rw [List.find?_eq_none]
    intro x hx
    obtain ⟨j, hj, rfl⟩ := List.getElem_of_mem hx
    have := h2 j hj
    unfold nthA at this
    rw [List.getD_eq_getElem?_getD, List.getElem?_eq_getElem hj] at this
    simpa [isA] using this
  rw [this]
theorem idx_valA (s : List UInt8) (l : List PrA) : (∃ k : Nat, k < l.length ∧ idxA s l = k ∧ valA l s = (nthA l k).2.1) ∨ (idxA s l = -1 ∧ valA l s = []) := by
  cases h : l.findIdx? (isA s) with
  | none =>
    right
    rw [List.findIdx?_eq_none_iff] at h
    have h2 : ∀ j, j < l.length → isA s (nthA l j) = false := fun j hj => by
      unfold nthA
      rw [List.getD_eq_getElem?_getD, List.getElem?_eq_getElem hj]
      exact h _ (List.getElem_mem hj)
    exact ⟨idxA_none h2, valA_none h2⟩
  | some k =>
    left
    rw [List.findIdx?_eq_some_iff_getElem] at h
    obtain ⟨hk, h1, h2⟩ := h
    have e1 : isA s (nthA l k) = true := by
      unfold nthA
      rw [List.getD_eq_getElem?_getD, List.getElem?_eq_getElem hk]
      exact h1
    have e2 : ∀ j, j < k → isA s (nthA l j) = false := fun j hj => by
      unfold nthA
      rw [List.getD_eq_getElem?_getD, List.getElem?_eq_getElem (by omega)]
      simpa using h2 j hj
    exact ⟨k, hk, idxA_at hk e1 e2, valA_at hk e1 e2⟩
theorem veqA (a b : List UInt8) : ((str a).toList == (str b).toList) = decide (a = b) := by
  rw [ByteArray.toList_eq, ByteArray.toList_eq, str_list, str_list]
  rw [Bool.eq_iff_iff]
  simp

set_option maxHeartbeats 1000000 in
theorem valueOf1_any (n v s : List UInt8) (b : Bool) (B : Nat) (w : World) (hc : w.cell? ⟨B, 0, none⟩ = some (.string (str s))) :
    Calls Tryz.prog 126 #[.agg #[.string (str n), .string (str v), .bool b], .pointer (some ⟨B, 0, none⟩)] w fun e w' => e = .returned (.bool (isA s (n, v, b))) ∧ Below w.heap.size w w' := by
  obtain ⟨w2, hw2⟩ : ∃ w2, w2 = w.alloc (.cells #[.string (str n), .string (str v), .bool b] 66) := ⟨_, rfl⟩
  have R1 : w2.heap[w.heap.size]? = some (.cells #[.string (str n), .string (str v), .bool b] 66 (0, 0)) := by
    rw [hw2]; exact heap_alloc_new w _
  have hb2 : Below w.heap.size w w2 := by rw [hw2]; exact (Below.refl _ w).alloc (Nat.le_refl _) _
  have c0 := Lib.cell_of_heap R1 0
  simp at c0
  have hcB : w2.cell? ⟨B, 0, none⟩ = some (.string (str s)) := by rw [hb2.cell (World.block_lt_of_cell? w _ hc)]; exact hc
  have HQ : Hid (((str n).toList == (str s).toList) = isA s (n, v, b)) := veqA n s
  have HB2 : Hid (Below w.heap.size w w2) := hb2
  generalize str n = N at *
  generalize str s = S at *
  generalize str v = V at *
  generalize isA s (n, v, b) = q at *
  clear R1 hb2 hc
  subst hw2
  go_enter Tryz.func126, Tryz.ntmps126
  go_wp2
  go_ret
  exact ⟨ret_bool HQ.out, HB2.out⟩

set_option maxHeartbeats 2000000 in
theorem IndexFunc_isA (v : Value) (fs : List PrA) (s : List UInt8) (hl : fs.length ≤ 4294967296) (B : Nat) (w : World) (hrd : RdA v fs w) (hc : w.cell? ⟨B, 0, none⟩ = some (.string (str s))) :
    Calls Tryz.prog 63 #[v, .func (.func 126) #[] #[.pointer (some ⟨B, 0, none⟩)]] w fun e w' => e = .returned (.int .i64 (idxA s fs)) ∧ Below w.heap.size w w' := by
  have HR : Hid (RdA v fs w) := hrd
  have HC : Hid (w.cell? ⟨B, 0, none⟩ = some (.string (str s))) := hc
  obtain ⟨a, c, rfl, _⟩ := hrd
  clear hc
  go_enter Tryz.func63, Tryz.ntmps63
  go_wp2
  go_loopw [8] (fun i wr => ∃ k : Nat, k ≤ fs.length ∧ i = .int .i64 k ∧ Hid (∀ j, j < k → isA s (nthA fs j) = false) ∧ Hid (Below w.heap.size w wr)) (fun i _ => fs.length - (intOf i).toNat)
  case atStart => exact ⟨0, Nat.zero_le _, rfl, (fun j hj => by omega : ∀ j, j < 0 → _), Below.refl _ _⟩
  case round =>
    obtain ⟨k, hk, rfl, hall, hbl⟩ := hrel
    by_cases hlt : k < fs.length
    · obtain ⟨a', c', e', hcs⟩ := HR.out.below hbl.out
      injection e' with e1 _ e2
      subst e1 e2
      rcases hcs with h | ⟨g, o, rfl, hlc, hcell⟩
      · rw [h] at hlt; simp at hlt
      obtain ⟨p0, p1, p2⟩ := hcell k hlt
      clear hcell
      have HN : Hid (Calls Tryz.prog 126 #[.agg #[.string (str (nthA fs k).1), .string (str (nthA fs k).2.1), .bool (nthA fs k).2.2], .pointer (some ⟨B, 0, none⟩)] wr fun e w' => e = .returned (.bool (isA s (nthA fs k))) ∧ Below wr.heap.size wr w') :=
        valueOf1_any _ _ s _ B wr (by rw [hbl.out.cell (World.block_lt_of_cell? w _ HC.out)]; exact HC.out)
      have HT : isA s (nthA fs k) = true → Hid (idxA s fs = k) := fun h => idxA_at hlt h hall.out
      have HF : isA s (nthA fs k) = false → Hid (∀ j, j < k + 1 → isA s (nthA fs j) = false) := fun h j hj => by
        by_cases hjk : j = k
        · subst hjk; exact h
        · exact hall.out j (by omega)
      generalize str (nthA fs k).1 = X at p0 HN
      generalize str (nthA fs k).2.1 = Y at p1 HN
      generalize isA s (nthA fs k) = b at HN HT HF
      generalize (nthA fs k).2.2 = Z at p2 HN
      cases b with
      | true =>
        have HT2 := HT rfl
        clear HT HF
        go_wp2_with fail
        refine HN.out.mono ?_
        rintro e w2 ⟨rfl, hb2⟩
        have HB2 : Hid (Below w.heap.size w w2) := bel_trans hbl.out hb2
        clear hb2
        go_wp2
        go_ret
        exact ⟨ret_int HT2.out.symm, HB2.out⟩
      | false =>
        have HF2 := HF rfl
        clear HT HF
        go_wp2_with fail
        refine HN.out.mono ?_
        rintro e w2 ⟨rfl, hb2⟩
        have HB2 : Hid (Below w.heap.size w w2) := bel_trans hbl.out hb2
        clear hb2
        go_wp2
        go_roundw
        case rel => exact ⟨k + 1, by omega, by go_num, HF2, HB2⟩
        case measure => simp [intOf]; omega
    · have HE : Hid (idxA s fs = -1) := idxA_none (fun j hj => hall.out j (by omega))
      go_wp2
      go_ret
      exact ⟨ret_int HE.out.symm, hbl.out⟩

set_option maxHeartbeats 1000000 in
theorem valueOf_any (v : Value) (fs : List PrA) (s : List UInt8) (hl : fs.length ≤ 4294967296) (w : World) (hrd : RdA v fs w) :
    Calls Tryz.prog 78 #[v, .string (str s)] w fun e w' => e = .returned (.string (str (valA fs s))) ∧ Below w.heap.size w w' := by
  have hb1 : Below w.heap.size w (w.alloc (.cells #[.string (str s)] 9)) := (Below.refl _ w).alloc (Nat.le_refl _) _
  have HI : Hid (Calls _ _ _ _ _) := IndexFunc_isA v fs s hl w.heap.size (w.alloc (.cells #[.string (str s)] 9)) (hrd.below hb1) (by simp)
  have HR : Hid (RdA v fs w) := hrd
  have HB1 : Hid (Below _ _ _) := hb1
  obtain ⟨a, c, rfl, _⟩ := hrd
  clear hb1
  generalize str s = S at *
  rcases idx_valA s fs with ⟨k, hk, e1, e2⟩ | ⟨e1, e2⟩
  · rw [e1] at HI
    rw [e2]
    clear e1 e2
    generalize hY : str (nthA fs k).2.1 = Y
    have HY : Hid (_ = Y) := hY
    clear hY
    go_enter Tryz.func78, Tryz.ntmps78
    go_wp2_with fail
    refine HI.out.mono ?_
    rintro e w2 ⟨rfl, hb2⟩
    have HB2 : Hid (Below w.heap.size w w2) := bel_trans HB1.out hb2
    clear hb2
    obtain ⟨a', c', e', hcs⟩ := HR.out.below HB2.out
    injection e' with e1 _ e2
    subst e1 e2
    rcases hcs with h | ⟨g, o, rfl, hlc, hcell⟩
    · rw [h] at hk; simp at hk
    obtain ⟨p0, p1, p2⟩ := hcell k hk
    clear hcell p0 p2
    rw [HY.out] at p1
    go_wp2
    go_ret
    exact ⟨rfl, HB2.out⟩
  · rw [e1] at HI
    rw [e2]
    clear e1 e2
    go_enter Tryz.func78, Tryz.ntmps78
    go_wp2_with fail
    refine HI.out.mono ?_
    rintro e w2 ⟨rfl, hb2⟩
    have HB2 : Hid (Below w.heap.size w w2) := bel_trans HB1.out hb2
    clear hb2
    go_wp2
    go_ret
    exact ⟨rfl, HB2.out⟩

end Hn
end Go.Proofs.YticncpjpkgdnlaaGreatDoor
