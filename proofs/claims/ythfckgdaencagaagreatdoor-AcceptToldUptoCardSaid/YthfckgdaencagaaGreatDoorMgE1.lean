/- Several texts as one. -/
import Derived.Test.YthfckgdaencagaaGreatDoorAMe
import Derived.Test.YthfckgdaencagaaGreatDoorMgZ
import Derived.Test.YthfckgdaencagaaGreatDoorARu
import Derived.Test.YthfckgdaencagaaGreatDoorMgD1
import Derived.Test.YthfckgdaencagaaGreatDoorMgW
import Derived.Deep.RegionHeld3
/-
  The law's awake.
-/
set_option linter.unusedVariables false
set_option linter.unusedSimpArgs false
namespace Go.Proofs.YthfckgdaencagaaGreatDoor
open Go.RowKit Go.Shelf
namespace Ac
open Oc Tg

theorem qual_half : qual [48, 46, 53] = (500, 0) := by decide
theorem parM_html : parM [84, 101, 120, 116, 47, 72, 116, 109, 108] = some ([116, 101, 120, 116], [104, 116, 109, 108], []) := by rfl

set_option maxRecDepth 100000 in
set_option maxHeartbeats 1000000 in
theorem awake_any (w : World) (hw : Env w) :
    Calls Tryz.prog 6 #[] w fun e w' => e = .returned (.bool true) ∧ Below w.heap.size w w' := by
  have HQ : Hid (∀ w, ML w → Calls Tryz.prog 17 #[.string ⟨#[48, 46, 53]⟩] w fun e w' => e = .returned (.tuple #[.int .i64 500, .int .i64 0]) ∧ Below w.heap.size w w') := fun w h => by
    have := Quality_any ⟨#[48, 46, 53]⟩ (by show 3 ≤ 4000000000; omega) w h
    rw [show (⟨#[48, 46, 53]⟩ : ByteArray).data.toList = [48, 46, 53] from rfl, qual_half] at this
    exact this
  have HP : Hid (∀ w, Env w → Calls Tryz.prog 7 #[.string ⟨#[84, 101, 120, 116, 47, 72, 116, 109, 108]⟩] w fun e w' => ∃ v, e = .returned (.tuple #[.agg #[.string ⟨#[116, 101, 120, 116]⟩, .string ⟨#[104, 116, 109, 108]⟩, v], .int .i64 0]) ∧ OwnP 95 w.heap.size v [] w' ∧ Below w.heap.size w w') := fun w h => by
    have := Parse_any ⟨#[84, 101, 120, 116, 47, 72, 116, 109, 108]⟩ (by show 9 ≤ 134217728; omega) w h
    rw [show (⟨#[84, 101, 120, 116, 47, 72, 116, 109, 108]⟩ : ByteArray).data.toList = [84, 101, 120, 116, 47, 72, 116, 109, 108] from rfl, parM_html] at this
    exact this
  have HE : Hid (Env w) := hw
  clear hw
  go_enter Tryz.func6, Tryz.ntmps6
  go_wp2_with fail
  refine (HQ.out _ HE.out.2).mono ?_
  rintro e w2 ⟨rfl, hb2⟩
  have HB2 : Hid (Below w.heap.size w w2) := hb2
  clear hb2
  go_wp2_with fail
  refine (HP.out _ (HE.out.below HB2.out)).mono ?_
  rintro e w3 ⟨v, rfl, ho, hb3⟩
  have HB3 : Hid (Below w.heap.size w w3) := bel_trans HB2.out hb3
  have HB4 : Hid (Below w.heap.size w (w3.alloc (.cells #[.string ⟨#[116, 101, 120, 116]⟩, .string ⟨#[104, 116, 109, 108]⟩, v] 35))) := HB3.out.alloc HB3.out.size _
  obtain ⟨va, vc, rfl, _⟩ := OwnP.rd ho
  clear hb3 ho HP HQ
  go_wp2
  go_ret
  exact ⟨rfl, HB4.out⟩

end Ac
end Go.Proofs.YthfckgdaencagaaGreatDoor

/-
  The law's sameRanges, of what was read; AcceptRanges.
-/
set_option maxRecDepth 100000
set_option linter.unusedVariables false
set_option linter.unusedSimpArgs false
namespace Go.Proofs.YthfckgdaencagaaGreatDoor
open Go.RowKit Go.Shelf
namespace Ac
open Oc Tg

/-- A slice that reads as these ranges. -/
def RdR2 (v : Value) (t : List Rng) (W : World) : Prop := ∃ a c, v = .slice a t.length c ∧ (t = [] ∨ ∃ g o, a = some ⟨g, o, none⟩ ∧ t.length ≤ c ∧ ∀ j, j < t.length → W.cell? ⟨g, o + j * 4, none⟩ = some (.string (nthR t j).md.ty) ∧ W.cell? ⟨g, o + j * 4 + 1, none⟩ = some (.string (nthR t j).md.sub) ∧ ∃ u, W.cell? ⟨g, o + j * 4 + 2, none⟩ = some u ∧ RdP u (nthR t j).md.ps W ∧ W.cell? ⟨g, o + j * 4 + 3, none⟩ = some (.int .i64 (nthR t j).q))
theorem RdR2.below {W W' : World} {v : Value} {t : List Rng} (h : RdR2 v t W) (b : Below W.heap.size W W') : RdR2 v t W' := by
  obtain ⟨a, c, rfl, h⟩ := h
  refine ⟨a, c, rfl, ?_⟩
  rcases h with h | ⟨g, o, e, hc, hcell⟩
  · exact .inl h
  · refine .inr ⟨g, o, e, hc, fun j hj => ?_⟩
    obtain ⟨h1, h2, u, h3, h4, h5⟩ := hcell j hj
    exact ⟨(b.cell (World.block_lt_of_cell? W _ h1)).trans h1, (b.cell (World.block_lt_of_cell? W _ h2)).trans h2, u, (b.cell (World.block_lt_of_cell? W _ h3)).trans h3, h4.below b, (b.cell (World.block_lt_of_cell? W _ h5)).trans h5⟩
theorem lenAt {t : List Rng} (h : ∀ r ∈ t, r.md.ps.length ≤ 16777216) {k : Nat} (hk : k < t.length) : (nthR t k).md.ps.length ≤ 16777216 := by
  have e : nthR t k = t[k] := by unfold nthR; rw [List.getD_eq_getElem?_getD, List.getElem?_eq_getElem hk]; rfl
  rw [e]
  exact h _ (List.getElem_mem hk)
def rng (x : Rx) : Rng := ⟨⟨str x.1.1, str x.1.2.1, x.1.2.2⟩, x.2⟩
theorem nth_rng {xs : List Rx} {j : Nat} (h : j < xs.length) : nthR (xs.map rng) j = rng (xs.getD j rx0) := by
  unfold nthR
  rw [List.getD_eq_getElem?_getD, List.getD_eq_getElem?_getD, List.getElem?_map, List.getElem?_eq_getElem h]
  rfl
theorem RdR2.of {T T' B : Nat} {v : Value} {ms : List Rw} {xs : List Rx} {W : World} (ho : OwnO T B v ms W) (hl : LikeT T' ms xs W) : RdR2 v (xs.map rng) W := by
  obtain ⟨a, c, rfl, h⟩ := ho.rd
  have hn := hl.1
  refine ⟨a, c, by rw [List.length_map, hn], ?_⟩
  rcases h with h | ⟨g, o, e, hc, hcell⟩
  · left
    rw [h] at hn
    rw [List.length_eq_zero_iff.1 hn.symm]
    rfl
  · refine .inr ⟨g, o, e, by rw [List.length_map]; omega, fun j hj => ?_⟩
    rw [List.length_map] at hj
    rw [nth_rng hj]
    obtain ⟨c0, c1, c2, c3⟩ := hcell j (by omega)
    obtain ⟨e0, e1, e2, e3, _⟩ := hl.2 j (by omega)
    rw [e0] at c0
    rw [e1] at c1
    rw [e2] at c3
    exact ⟨c0, c1, _, c2, e3, c3⟩
theorem rgs_mem : ∀ (t : List (List UInt8)) (r : Rx), r ∈ (rgs t).1 → ∃ x ∈ t, r = (rgR x).1
  | [], r, h => by cases h
  | x :: t, r, h => by
    unfold rgs at h
    split at h
    · cases h
    · split at h
      · cases h
      · rcases List.mem_cons.1 h with rfl | h
        · exact ⟨x, by simp, rfl⟩
        · obtain ⟨y, hy, e⟩ := rgs_mem t r h
          exact ⟨y, by simp [hy], e⟩
theorem rgR_len (l : List UInt8) : (rgR l).1.1.2.2.length ≤ l.length := by
  obtain ⟨_, h2, _, _⟩ := med_bd l
  unfold rgR
  split
  · exact Nat.zero_le _
  · split
    · exact Nat.zero_le _
    · show ((mdP (med l)).take _).length ≤ _
      rw [List.length_take]
      omega
theorem ranges_short (s : ByteArray) (hs : s.size ≤ 1048576) : ∀ r ∈ (rangesR s.data.toList).1.map rng, r.md.ps.length ≤ 16777216 := by
  intro r hr
  obtain ⟨x, hx, rfl⟩ := List.mem_map.1 hr
  obtain ⟨l1, l2⟩ := listR_short s.data.toList
  rw [size_list] at l1 l2
  unfold rangesR at hx
  split at hx
  · cases hx
  · obtain ⟨y, hy, rfl⟩ := rgs_mem _ _ hx
    have h1 := rgR_len y
    have h2 := l2 y hy
    show (rgR y).1.1.2.2.length ≤ _
    omega
theorem ranges_len (s : ByteArray) (hs : s.size ≤ 1048576) : ((rangesR s.data.toList).1.map rng).length ≤ 16777216 := by
  obtain ⟨l1, l2⟩ := listR_short s.data.toList
  rw [size_list] at l1 l2
  rw [List.length_map]
  have rl : ∀ t : List (List UInt8), (rgs t).1.length ≤ t.length := by
    intro t
    induction t with
    | nil => exact Nat.le_refl _
    | cons x t ih =>
      unfold rgs
      split
      · exact Nat.zero_le _
      · split
        · exact Nat.zero_le _
        · simp only [List.length_cons]
          omega
  unfold rangesR
  split
  · exact Nat.zero_le _
  · have := rl (listR s.data.toList).1
    omega

end Ac
end Go.Proofs.YthfckgdaencagaaGreatDoor
