/-
  bytes.Index, slices.Grow, slices.Concat, seam, Find.
-/
import Derived.Test.YtonbjdiehbemjaaGNil
import Derived.Test.YtonbjdiehbemjaaFPlain
import Derived.Test.YtonbjdiehbemjaaShelfB
import Derived.Lib.AppendZeros
import Derived.Lib.SliceRun
set_option linter.unusedVariables false
set_option linter.unusedSimpArgs false
namespace Go.Proofs.Ytonbjdiehbemjaa
open Go.RowKit
namespace Rg

/-- internal/bytealg.MaxLen holds some number. -/
def ML (w : World) : Prop := ∃ m, w.cell? ⟨0, 0, none⟩ = some (.int .i64 m)
theorem ML.but {w w' : World} {bs : List Nat} (h : ML w) (b : But bs w w') (hn : 0 ∉ bs) : ML w' := by
  obtain ⟨m, hm⟩ := h
  exact ⟨m, b.cell hm hn⟩
theorem ML.below {w w' : World} (h : ML w) (b : Below w.heap.size w w') : ML w' := h.but (But.of_below b) (fun e => by cases e)
theorem ML.lt {w : World} (h : ML w) : 0 < w.heap.size := by
  obtain ⟨m, hm⟩ := h
  exact World.block_lt_of_cell? w _ hm

theorem nums_of (l : List UInt8) : Lib.bytesOf (l.map fun x => (x.toNat : Int)) = l := by
  unfold Lib.bytesOf
  rw [List.map_map]
  conv => rhs; rw [← List.map_id l]
  apply List.map_congr_left
  intro x _
  simp

set_option maxRecDepth 100000 in
theorem Index_any {w : World} {v u : Value} {l p : List UInt8} (hv : RdB w v l) (hu : RdB w u p) (hl : l.length < 4294967281) (hp : p.length ≤ 9223372036854775807) (hm : ML w) :
    Calls Try.prog 48 #[v, u] w fun e w' => e = .returned (.int .i64 (Lib.index l p)) ∧ Below w.heap.size w w' := by
  obtain ⟨m, hm⟩ := hm
  obtain ⟨a, c, rfl, hc, hz, hr⟩ := hv
  obtain ⟨a2, c2, rfl, hc2, hz2, hr2⟩ := hu
  by_cases hp0 : p = []
  · subst hp0
    have h := Any.bytes_Index_none (L := { Try.laysM185 with }) a a2 l.length c c2 w
    change Calls Try.prog 48 #[.slice a l.length c, .slice a2 0 c2] w _ at h
    refine h.mono ?_
    rintro e w' ⟨rfl, hw⟩
    subst hw
    exact ⟨by rw [Lib.index_empty], Below.refl _ _⟩
  rcases hr2 with hr2 | ⟨g2, o2, rfl, hr2⟩
  · exact absurd hr2 hp0
  have hpl : 0 < p.length := by
    rcases Nat.eq_zero_or_pos p.length with h | h
    · exact absurd (List.eq_nil_of_length_eq_zero h) hp0
    · exact h
  have byte : ∀ (q : List UInt8), ∀ x ∈ (q.map fun x => (x.toNat : Int)), 0 ≤ x ∧ x < 256 := by
    intro q x hx
    obtain ⟨b, _, rfl⟩ := List.mem_map.1 hx
    have := b.toNat_lt
    omega
  have getd : ∀ (q : List UInt8) (i : Nat) (hi : i < q.length), (q.map fun x => (x.toNat : Int)).getD i 0 = ((q[i]).toNat : Int) := by
    intro q i hi
    simp [List.getD, List.getElem?_eq_getElem hi]
  cases a with
  | none =>
    have hcz := hz rfl
    have hl0 : l = [] := List.eq_nil_of_length_eq_zero (by omega)
    subst hl0 hcz
    have h := Any.bytes_Index_nil (L := { Try.laysM185 with }) (some ⟨g2, o2, none⟩) p.length c2 w hp (fun h1 => ⟨g2, o2, _, rfl, by have := hr2 0 _ (List.getElem?_eq_getElem hpl); simpa using this⟩)
    change Calls Try.prog 48 #[.slice none 0 0, .slice (some ⟨g2, o2, none⟩) p.length c2] w _ at h
    refine h.mono ?_
    rintro e w' ⟨rfl, hw⟩
    subst hw
    refine ⟨?_, Below.refl _ _⟩
    rw [if_neg (by omega)]
    cases p with
    | nil => simp at hpl
    | cons b t => rfl
  | some ad =>
    have hc1 : ∀ i, i < l.length → w.cell? (ad.add i) = some (.int .u8 ((l.map fun x => (x.toNat : Int)).getD i 0)) := by
      intro i hi
      rcases hr with hr | ⟨g1, o1, e, hr⟩
      · subst hr; simp at hi
      · injection e with e
        subst e
        rw [Addr.add_lit, getd l i hi]
        exact hr i _ (List.getElem?_eq_getElem hi)
    have hc2' : ∀ i, i < p.length → w.cell? ((⟨g2, o2, none⟩ : Addr).add i) = some (.int .u8 ((p.map fun x => (x.toNat : Int)).getD i 0)) := by
      intro i hi
      rw [Addr.add_lit, getd p i hi]
      exact hr2 i _ (List.getElem?_eq_getElem hi)
    have h := Any.bytes_Index_at (L := { Try.laysM185 with }) ad ⟨g2, o2, none⟩ l.length c p.length c2 (l.map fun x => (x.toNat : Int)) (p.map fun x => (x.toNat : Int)) m w (by simp) (by simp) (byte l) (byte p) hc1 hc2' hc hl hp hm
    change Calls Try.prog 48 #[.slice (some ad) l.length c, .slice (some ⟨g2, o2, none⟩) p.length c2] w _ at h
    refine h.mono ?_
    rintro e w' ⟨rfl, q, hw⟩
    subst hw
    exact ⟨by rw [nums_of, nums_of], bel_drewN (Below.refl _ _) _⟩

set_option maxRecDepth 100000 in
theorem Grow_any (w : World) (n : Nat) (hn : n ≤ 140737488355328) : Calls Try.prog 59 #[.slice none 0 0, .int .i64 (n : Int)] w fun e w' => ∃ v, e = .returned v ∧ w'.ownsRow w.heap.size 5 1 v 0 [] ∧ Below w.heap.size w w' := by
  obtain ⟨i0, hi, hz0, hz1, hz2⟩ := info_parts infoB
  have g0 : ¬ (n : Int) < 0 := by omega
  by_cases hz : n = 0
  · subst hz
    go_enter Try.func59, Try.ntmps59
    go_wp2
    go_ret
    exact ⟨_, rfl, World.ownsRow_nil _ _ _ _, Below.refl _ _⟩
  · have g1 : (0 : Int) < (n : Int) := by omega
    have hrun := Lib.run_append_nil_zeros (P := Try.prog) w 25 3 25 5 i0 (.int .u8 0) .i64 .i64 Try.underlying25 Try.underlying3 hi hz0 n (by omega) (by omega) (by omega) (by rw [hz2]; omega)
    have hge := grownCap_ge w n 0 5
    have hle := grownCap_le_maxLen w n 0 5 (by unfold maxLen; omega)
    generalize grownCap w n 0 5 = gc at *
    go_enter Try.func59, Try.ntmps59
    go_wp2_with (at_builtin; refine Lib.wpList_append_run _ rfl _ _ _ _ rfl _ _ rfl rfl _ _ hrun ?_)
    go_ret
    refine ⟨_, rfl, ⟨rfl, .inr ⟨w.heap.size, gc, _, rfl, Nat.le_refl _, heap_alloc_new w.drew _, Nat.zero_le _, hle, ?_, rfl⟩⟩, ((Below.refl _ w).drew).alloc (Nat.le_refl _) _⟩
    simp [size_zeroCells, Value.cells]
    omega

end Rg
end Go.Proofs.Ytonbjdiehbemjaa
