/-
  The Builder's writes, which leave every block of another type than bytes as it was (written by mkgbe.py).
-/
import Derived.Test.YtpoefoepmigbeaaDoorGBd
set_option linter.unusedVariables false
set_option linter.unusedSimpArgs false
namespace Go.Proofs.YtpoefoepmigbeaaDoor
open Go.RowKit Go.Shelf
namespace Tg
open Oc

/-- Blocks of cells of another type than bytes stay, but for block b. -/
def Kt (b : Nat) (w w' : World) : Prop := ∀ k c T z, k ≠ b → T ≠ 5 → w.heap[k]? = some (.cells c T z) → w'.heap[k]? = some (.cells c T z)
theorem Kt.refl (b : Nat) (w : World) : Kt b w w := fun _ _ _ _ _ _ h => h
theorem Kt.trans {b : Nat} {x y z : World} (h : Kt b x y) (k : Kt b y z) : Kt b x z := fun i c T f hi hT hx => k i c T f hi hT (h i c T f hi hT hx)
theorem Kt.set {b : Nat} (w : World) (j : Nat) (v : Value) : Kt b w (w.setCell ⟨b, j, none⟩ v) := fun k c T z hk hT h => by rw [Below.heap_setCell _ _ _ _ hk]; exact h
theorem Kt.alloc {b : Nat} (w : World) (o : Obj) : Kt b w (w.alloc o) := fun k c T z hk hT h => by rw [Lib.alloc_old w o k (Array.getElem?_eq_some_iff.1 h).1]; exact h
theorem Kt.grown {B b : Nat} {w w' : World} {v : Value} {n : Nat} {xs : List Value} (hg : w.grownBy w' v.ownBlock) (ho : w.ownsRow B 5 1 v n xs) : Kt b w w' := fun k c T z hk hT h => by
  rw [hg.block k (Array.getElem?_eq_some_iff.1 h).1 (fun e => by
    rcases ho.2 with ⟨rfl, _⟩ | ⟨g, cap, cur, rfl, _, hgg, _⟩
    · cases e
    · simp only [Value.ownBlock, Option.some.injEq] at e
      subst e
      rw [hgg] at h
      injection h with h
      injection h with _ h
      exact hT h.symm)]
  exact h
theorem Kt.below {b : Nat} {w w' : World} (h : Below w.heap.size w w') : Kt b w w' := fun k c T z hk hT hh => by rw [h.block k (Array.getElem?_eq_some_iff.1 hh).1]; exact hh

set_option maxHeartbeats 400000 in
theorem copyCheck_bk (B b : Nat) (l : List Value) (w : World) (h : Bd B b l w) :
    Calls Tryd.prog 43 #[.pointer (some ⟨b, 0, none⟩)] w fun e w' => e = .returned (.tuple #[]) ∧ BdAt B b (.pointer (some ⟨b, 0, none⟩)) l w' ∧ Fr B b w w' ∧ Kt b w w' := by
  rcases h with h | h
  · have hI : Lib.BuilderAt 51 5 0 b (.pointer none) l w := by
      obtain ⟨v, a, o, n⟩ := h
      exact ⟨Nat.zero_le _, v, a, ⟨o.1, o.2.imp id fun ⟨g, c, cur, e, hg, r⟩ => ⟨g, c, cur, e, Nat.zero_le _, r⟩⟩, n⟩
    refine (copyCheck_fresh b w hI.cell0 hI.shape hI.frozen0).mono ?_
    rintro e w' ⟨rfl, rfl⟩
    refine ⟨rfl, ?_, Fr.set w _, Kt.set w _ _⟩
    obtain ⟨v, a, o, n⟩ := h
    refine ⟨v, by simp [World.setCell, Array.getElem?_modify, a], o.kept (grownBy_setCell' w b _) ?_, n⟩
    exact .inr n
  · have hI : Lib.BuilderAt 51 5 0 b (.pointer (some ⟨b, 0, none⟩)) l w := by
      obtain ⟨v, a, o, n⟩ := h
      exact ⟨Nat.zero_le _, v, a, ⟨o.1, o.2.imp id fun ⟨g, c, cur, e, hg, r⟩ => ⟨g, c, cur, e, Nat.zero_le _, r⟩⟩, n⟩
    refine (copyCheck_used b w hI.cell0).mono ?_
    rintro e w' ⟨rfl, rfl⟩
    exact ⟨rfl, h, Fr.refl _ _ _, Kt.refl _ _⟩

set_option maxHeartbeats 2000000 in
set_option maxRecDepth 100000 in
theorem WriteByte_bk (B b : Nat) (l : List Value) (c : Int) (w : World) (h : Bd B b l w) (hlen : l.length + 1 ≤ 140737488355328) (hBw : B ≤ w.heap.size) :
    Calls Tryd.prog 23 #[.pointer (some ⟨b, 0, none⟩), .int .u8 c] w fun e w' => e = .returned .nilIface ∧ Bd B b (l ++ [.int .u8 c]) w' ∧ Fr B b w w' ∧ Kt b w w' := by
  obtain ⟨i0, hi, hz0, hz1, hz2⟩ := info_parts infoByte
  go_enter Tryd.func23, Tryd.ntmps23
  go_wp2_with fail
  refine (copyCheck_bk B b l _ h).mono ?_
  rintro e w1 ⟨rfl, h1, hf1, hk1⟩
  obtain ⟨v, hbk, hown, hne⟩ := h1
  have c0 : w1.cell? ⟨b, 0, none⟩ = some (.pointer (some ⟨b, 0, none⟩)) := by rw [Lib.cell_of_heap hbk]; rfl
  have c1 : w1.cell? ⟨b, 1, none⟩ = some v := by rw [Lib.cell_of_heap hbk]; rfl
  have hs1 := hf1.size
  have HF1 : Hid (Fr B b w w1) := hf1
  have HK1 : Hid (Kt b w w1) := hk1
  clear hk1
  clear hf1
  go_wp2_with (at_builtin; refine wpList_append_own _ rfl _ _ 48 rfl B 5 i0 (.int .u8 0) 1 1 Tryd.underlying48 hi hz0 hz1 hz2 rfl (by decide) _ _ _ rfl (hown.alloc _) ⟨w1.heap.size, 0, none⟩ 1 1 [.int .u8 c] rfl rfl ?c1 ?c2 ?c3 ?c4 ?c5 ?_)
  case c1 =>
    intro j u hj
    match j, hj with
    | 0, hj => simp at hj; subst hj; simp [Addr.add]
  case c2 => intro u hu; simp at hu; subst hu; rfl
  case c3 => unfold maxLen; omega
  case c4 => omega
  case c5 => simp; omega
  intro v' w2 hown' hgrow _
  have hlt : b < w1.heap.size := (Array.getElem?_eq_some_iff.1 hbk).1
  have hb2 : w2.heap[b]? = some (.cells #[.pointer (some ⟨b, 0, none⟩), v] 51 (0, 0)) := by
    rw [hgrow.block b (by simp; omega) (fun e => hne e.symm), Lib.alloc_old w1 _ b hlt]
    exact hbk
  have d0 : w2.cell? ⟨b, 0, none⟩ = some (.pointer (some ⟨b, 0, none⟩)) := by rw [Lib.cell_of_heap hb2]; rfl
  have d1 : w2.cell? ⟨b, 1, none⟩ = some v := by rw [Lib.cell_of_heap hb2]; rfl
  have f1 : w2.frozen? ⟨b, 1, none⟩ = false := Lib.frozen_of_heap hb2 1
  obtain ⟨g, cap, rfl⟩ : ∃ g cap, v' = .slice (some ⟨g, 0, none⟩) (l.length + 1) cap := by
    rcases hown'.2 with ⟨_, h0⟩ | ⟨g, cap, cur, hv, _⟩
    · omega
    · exact ⟨g, cap, hv⟩
  have HF2 : Hid (Fr B b w w2) := (HF1.out.trans (Fr.alloc w1 _ (by omega))).trans (Fr.grown hgrow (hown.alloc _) (by simp; omega))
  have HK2 : Hid (Kt b w w2) := (HK1.out.trans (Kt.alloc w1 _)).trans (Kt.grown hgrow (hown.alloc _))
  go_wp2
  go_ret
  exact ⟨rfl, .inr (put_bd hb2 (by simpa using hown')), HF2.out.trans (Fr.set _ _), HK2.out.trans (Kt.set _ _ _)⟩

set_option maxHeartbeats 2000000 in
set_option maxRecDepth 100000 in
theorem WriteString_bk (B b : Nat) (l : List Value) (s : ByteArray) (w : World) (h : Bd B b l w) (hlen : l.length + s.size ≤ 140737488355328) (hBw : B ≤ w.heap.size) :
    Calls Tryd.prog 25 #[.pointer (some ⟨b, 0, none⟩), .string s] w fun e w' => e = .returned (.tuple #[.int .i64 s.size, .nilIface]) ∧ Bd B b (l ++ Lib.strCells s) w' ∧ Fr B b w w' ∧ Kt b w w' := by
  obtain ⟨i0, hi, hz0, hz1, hz2⟩ := info_parts infoByte
  go_enter Tryd.func25, Tryd.ntmps25
  go_wp2_with fail
  refine (copyCheck_bk B b l _ h).mono ?_
  rintro e w1 ⟨rfl, h1, hf1, hk1⟩
  obtain ⟨v, hbk, hown, hne⟩ := h1
  have c0 : w1.cell? ⟨b, 0, none⟩ = some (.pointer (some ⟨b, 0, none⟩)) := by rw [Lib.cell_of_heap hbk]; rfl
  have c1 : w1.cell? ⟨b, 1, none⟩ = some v := by rw [Lib.cell_of_heap hbk]; rfl
  have hs1 := hf1.size
  have HF1 : Hid (Fr B b w w1) := hf1
  have HK1 : Hid (Kt b w w1) := hk1
  clear hk1
  clear hf1
  go_wp2_with (at_builtin; refine Lib.wpList_append_own_string _ rfl _ _ 48 9 rfl B 5 i0 Tryd.underlying48 Tryd.underlying9 hi hz0 hz1 hz2 _ _ _ rfl hown s rfl ?c3 ?c4 ?c5 ?_)
  case c3 => unfold maxLen; omega
  case c4 => omega
  case c5 => omega
  intro v' w2 hown' hgrow _
  have hlt : b < w1.heap.size := (Array.getElem?_eq_some_iff.1 hbk).1
  have hb2 : w2.heap[b]? = some (.cells #[.pointer (some ⟨b, 0, none⟩), v] 51 (0, 0)) := by
    rw [hgrow.block b hlt (fun e => hne e.symm)]
    exact hbk
  have d0 : w2.cell? ⟨b, 0, none⟩ = some (.pointer (some ⟨b, 0, none⟩)) := by rw [Lib.cell_of_heap hb2]; rfl
  have d1 : w2.cell? ⟨b, 1, none⟩ = some v := by rw [Lib.cell_of_heap hb2]; rfl
  have f1 : w2.frozen? ⟨b, 1, none⟩ = false := Lib.frozen_of_heap hb2 1
  obtain ⟨ao, n', cap, rfl⟩ : ∃ ao n' cap, v' = .slice ao n' cap := by
    rcases hown'.2 with ⟨hv, _⟩ | ⟨g, cap, cur, hv, _⟩
    · exact ⟨_, _, _, hv⟩
    · exact ⟨_, _, _, hv⟩
  have HF2 : Hid (Fr B b w w2) := HF1.out.trans (Fr.grown hgrow hown (by omega))
  have HK2 : Hid (Kt b w w2) := HK1.out.trans (Kt.grown hgrow hown)
  go_wp2
  go_ret2
  exact ⟨rfl, .inr (put_bd hb2 (by simpa [Lib.strCells_length] using hown')), HF2.out.trans (Fr.set _ _), HK2.out.trans (Kt.set _ _ _)⟩

end Tg
end Go.Proofs.YtpoefoepmigbeaaDoor
