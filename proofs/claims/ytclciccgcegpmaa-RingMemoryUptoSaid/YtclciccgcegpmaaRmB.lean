/-
  ring: what is kept, the ring and the model beside it.
-/
import Derived.Test.YtclciccgcegpmaaRmL
import Derived.Laws.AppendOwn
import Derived.Laws.Rows
set_option linter.unusedVariables false
set_option linter.unusedSimpArgs false
namespace Go.Proofs.Ytclciccgcegpmaa
open Go.RowKit
namespace Rg

/-- Lists that are kept, the list of them, the ring, the model. -/
structure St (B mb : Nat) (p : Option Addr) (bs : List Nat) (cap h : Nat) (xs : List UInt8) (h2 : Nat) (ys : List UInt8) (K nk : Nat) (V : Nat → Value) (X : Nat → List Value) (kv mv : Value) (w : World) : Prop where
  ks : Ks B K V X w
  kown : w.ownsRow B 25 1 kv nk ((List.range nk).map V)
  mown : w.ownsRow B 5 1 mv ys.length (bv ys)
  kfar : ∀ i g, i < K → (V i).ownBlock = some g → kv.ownBlock ≠ some g
  mfar : ∀ i g, i < K → (V i).ownBlock = some g → mv.ownBlock ≠ some g
  km : ∀ g, kv.ownBlock = some g → mv.ownBlock ≠ some g
  mod : w.heap[mb]? = some (.cells #[.int .i64 (cap : Int), mv, .int .i64 (h2 : Int)] 27 (0, 0))
  ring : RingP w p bs cap h xs
  low : (∀ x ∈ bs, x < B) ∧ mb < B ∧ mb ∉ bs

variable {B mb : Nat} {p : Option Addr} {bs : List Nat} {cap h h2 : Nat} {xs ys : List UInt8} {K nk : Nat} {V : Nat → Value} {X : Nat → List Value} {kv mv : Value} {w w' : World}

theorem but_grown {row : Option Nat} (g : w.grownBy w' row) : But row.toList w w' := ⟨g.os, g.tape, g.output, g.size, fun k hk hn => g.block k hk (fun e => hn (by rw [← e]; simp))⟩
/-- What turns is one block that is none of theirs. -/
theorem St.over (S : St B mb p bs cap h xs h2 ys K nk V X kv mv w) {row : Option Nat} (g : w.grownBy w' row) (hr : ∀ k, row = some k → B ≤ k ∧ (∀ i, i < K → (V i).ownBlock ≠ some k) ∧ kv.ownBlock ≠ some k ∧ mv.ownBlock ≠ some k) : St B mb p bs cap h xs h2 ys K nk V X kv mv w' := by
  have b := but_grown g
  have far : ∀ x, x < B → x ∉ row.toList := fun x hx hm => by
    have := (hr x (by simpa using hm)).1
    omega
  refine ⟨S.ks.but b (fun i g hi hg hm => (hr g (by simpa using hm)).2.1 i hi hg), b.owns S.kown (fun g hg hm => (hr g (by simpa using hm)).2.2.1 hg), b.owns S.mown (fun g hg hm => (hr g (by simpa using hm)).2.2.2 hg), S.kfar, S.mfar, S.km, b.heap S.mod (far _ S.low.2.1), S.ring.but b (fun x hx => far x (S.low.1 x hx)), S.low⟩
theorem St.below (S : St B mb p bs cap h xs h2 ys K nk V X kv mv w) (b : Below w.heap.size w w') : St B mb p bs cap h xs h2 ys K nk V X kv mv w' :=
  ⟨S.ks.below b, (But.of_below b).owns S.kown (fun _ _ e => by cases e), (But.of_below b).owns S.mown (fun _ _ e => by cases e), S.kfar, S.mfar, S.km, (But.of_below b).heap S.mod (fun e => by cases e), S.ring.below b, S.low⟩
theorem map_lay (K : Nat) (V U : Nat → Value) : (List.range K).map (lay K V U) = (List.range K).map V := by
  apply List.map_congr_left
  intro i hi
  rw [List.mem_range] at hi
  unfold lay
  rw [if_pos hi]
/-- Behind a call of lists. -/
theorem St.lists (S : St B mb p bs cap h xs h2 ys K K V X kv mv w) (hB : B ≤ w.heap.size) {n h' : Nat} {xs' : List UInt8} {U : Nat → Value} {Y : Nat → List Value} (G : Ks w.heap.size n U Y w') (R : RingP w' p bs cap h' xs') (b : But bs w w') :
    St B mb p bs cap h' xs' h2 ys (K + n) K (lay K V U) (lay K X Y) kv mv w' := by
  have nb : ∀ g, B ≤ g → g ∉ bs := fun g hg hm => by have := S.low.1 g hm; omega
  have k1 := World.ownsRow.lt S.kown
  have m1 := World.ownsRow.lt S.mown
  have ks' := S.ks.but b (fun i g hi hg => nb g (S.ks.lt hi hg).1)
  have cs : ∀ i, (i < K ∧ lay K V U i = V i) ∨ (¬ i < K ∧ lay K V U i = U (i - K)) := fun i => by
    unfold lay
    by_cases hi : i < K
    · exact .inl ⟨hi, if_pos hi⟩
    · exact .inr ⟨hi, if_neg hi⟩
  refine ⟨Ks.app ks' (fun i g hi hg => (S.ks.lt hi hg).2) G hB, ?_, b.owns S.mown (fun g hg => nb g (m1 g hg).1), fun i g hi hg e => ?_, fun i g hi hg e => ?_, S.km, b.heap S.mod S.low.2.2, R, S.low⟩
  · rw [map_lay]; exact b.owns S.kown (fun g hg => nb g (k1 g hg).1)
  · rcases cs i with ⟨h1, h2⟩ | ⟨h1, h2⟩
    · rw [h2] at hg; exact S.kfar i g h1 hg e
    · rw [h2] at hg
      have := (G.lt (show i - K < n by omega) hg).1
      have := (k1 g e).2
      omega
  · rcases cs i with ⟨h1, h2⟩ | ⟨h1, h2⟩
    · rw [h2] at hg; exact S.mfar i g h1 hg e
    · rw [h2] at hg
      have := (G.lt (show i - K < n by omega) hg).1
      have := (m1 g e).2
      omega
/-- One more in the list of them. -/
theorem St.kept (S : St B mb p bs cap h xs h2 ys K nk V X kv mv w) {v : Value} (hv : w'.ownsRow B 25 1 v (nk + 1) ((List.range nk).map V ++ [V nk])) (g : w.grownBy w' kv.ownBlock) (hn : v.ownBlock = kv.ownBlock ∨ ∃ b, v.ownBlock = some b ∧ w.heap.size ≤ b) : St B mb p bs cap h xs h2 ys K (nk + 1) V X v mv w' := by
  have b := but_grown g
  have kb : ∀ x, x ∈ kv.ownBlock.toList → kv.ownBlock = some x := fun x hx => by simpa using hx
  have k1 := World.ownsRow.lt S.kown
  have m1 := World.ownsRow.lt S.mown
  have far : ∀ x, x < B → x ∉ kv.ownBlock.toList := fun x hx hm => by have := (k1 x (kb x hm)).1; omega
  refine ⟨S.ks.but b (fun i g hi hg hm => S.kfar i g hi hg (kb g hm)), by rw [List.range_succ, List.map_append]; exact hv, b.owns S.mown (fun g hg hm => S.km g (kb g hm) hg), fun i g hi hg e => ?_, S.mfar, fun g hg e => ?_, b.heap S.mod (far _ S.low.2.1), S.ring.but b (fun x hx => far x (S.low.1 x hx)), S.low⟩
  · rcases hn with hn | ⟨b', hb1, hb2⟩
    · rw [hn] at e; exact S.kfar i g hi hg e
    · rw [hb1] at e
      injection e with e
      have := (S.ks.lt hi hg).2
      omega
  · rcases hn with hn | ⟨b', hb1, hb2⟩
    · rw [hn] at hg; exact S.km g hg e
    · rw [hb1] at hg
      injection hg with hg
      have := (m1 g e).2
      omega
/-- The model turned. -/
theorem St.model (S : St B mb p bs cap h xs h2 ys K nk V X kv mv w) (b : Below w.heap.size w w') (hB : B ≤ w.heap.size) {v : Value} {zs : List UInt8} (hv : w'.ownsRow w.heap.size 5 1 v zs.length (bv zs)) {W : World} {h3 : Nat} (hW : But [mb] w' W) (hm : W.heap[mb]? = some (.cells #[.int .i64 (cap : Int), v, .int .i64 (h3 : Int)] 27 (0, 0))) :
    St B mb p bs cap h xs h3 zs K nk V X kv v W := by
  have S1 := S.below b
  have k1 := World.ownsRow.lt S.kown
  have nb : ∀ g, B ≤ g → g ∉ [mb] := fun g hg hm => by simp at hm; have := S.low.2.1; omega
  refine ⟨S1.ks.but hW (fun i g hi hg => nb g (S1.ks.lt hi hg).1), hW.owns S1.kown (fun g hg => nb g (k1 g hg).1), hW.owns (owns_low' hv hB) (fun g hg => nb g (by have := (World.ownsRow.lt hv g hg).1; omega)), S.kfar, fun i g hi hg e => ?_, fun g hg e => ?_, hm, S1.ring.but hW (fun x hx hm' => by simp at hm'; subst hm'; exact S.low.2.2 hx), S.low⟩
  · have := (World.ownsRow.lt hv g e).1
    have := (S.ks.lt hi hg).2
    omega
  · have := (World.ownsRow.lt hv g e).1
    have := (k1 g hg).2
    omega
/-- A list that is kept, by its block. -/
theorem St.form (S : St B mb p bs cap h xs h2 ys K nk V X kv mv w) {i : Nat} (hi : i < K) : (V i = .slice none 0 0 ∧ (X i).length = 0) ∨ ∃ g c, V i = .slice (some ⟨g, 0, none⟩) (X i).length c ∧ (X i).length ≤ c := by
  rcases (S.ks.own i hi).2 with hn | ⟨g, c, cur, e, _, _, hc, _⟩
  · exact .inl hn
  · exact .inr ⟨g, c, e, hc⟩
theorem St.formK (S : St B mb p bs cap h xs h2 ys K nk V X kv mv w) (hk : 0 < nk) : ∃ g c, kv = .slice (some ⟨g, 0, none⟩) nk c ∧ nk ≤ c ∧ ∀ i, i < nk → w.cell? ⟨g, i, none⟩ = some (V i) := by
  rcases S.kown.2 with ⟨_, hn⟩ | ⟨g, c, cur, e, _, hg, hc, _⟩
  · omega
  · refine ⟨g, c, e, hc, fun i hi => ?_⟩
    have := World.ownsRow.cells S.kown (g := g) (by rw [e]; rfl) i (V i) (by rw [List.getElem?_map, List.getElem?_range hi]; rfl)
    have ea : Addr.add ⟨g, 0, none⟩ i = ⟨g, i, none⟩ := by unfold Addr.add; split <;> simp_all
    rwa [ea] at this
theorem upd_len (X : Nat → List Value) (i c : Nat) (u : Value) (q : Nat) : ((fun j => if j = i then (X i).set c u else X j) q).length = (X q).length := by
  dsimp only
  split
  · rename_i e; subst e; simp
  · rfl
/-- A byte of a kept list written. -/
theorem St.mark (S : St B mb p bs cap h xs h2 ys K nk V X kv mv w) {i : Nat} (hi : i < K) {g c : Nat} (hv : V i = .slice (some ⟨g, 0, none⟩) (X i).length c) (j : Nat) (z : Int) :
    St B mb p bs cap h xs h2 ys K nk V (fun q => if q = i then (X i).set j (.int .u8 z) else X q) kv mv (w.setCell ⟨g, j, none⟩ (.int .u8 z)) := by
  have hg : (V i).ownBlock = some g := by rw [hv]; rfl
  have hbt : But [g] w (w.setCell ⟨g, j, none⟩ (.int .u8 z)) := (But.refl _ w).setCell (by simp) _
  have hB := (S.ks.lt hi hg).1
  have m1 : ∀ {x : Nat}, x ∈ [g] → x = g := fun hm => by simpa using hm
  have own' : (w.setCell ⟨g, j, none⟩ (.int .u8 z)).ownsRow B 5 1 (V i) (X i).length ((X i).set j (.int .u8 z)) := by
    have := S.ks.own i hi
    rw [hv] at this ⊢
    exact (this.stored j _).1
  refine ⟨⟨fun q hq => ?_, S.ks.apart, fun q hq => ?_, fun q hq x hx => ?_⟩, hbt.owns S.kown (fun x hx hm => S.kfar i g hi hg (by rw [← m1 hm]; exact hx)), hbt.owns S.mown (fun x hx hm => S.mfar i g hi hg (by rw [← m1 hm]; exact hx)), S.kfar, S.mfar, S.km, hbt.heap S.mod (fun hm => by have := m1 hm; have := S.low.2.1; omega), S.ring.but hbt (fun x hx hm => by have := m1 hm; have := S.low.1 x hx; omega), S.low⟩
  · by_cases e : q = i
    · subst e; rw [if_pos rfl, List.length_set]; exact own'
    · rw [if_neg e]
      exact hbt.owns (S.ks.own q hq) (fun x hx hm => S.ks.apart i q g hi hq (fun e' => e e'.symm) hg (by rw [← m1 hm]; exact hx))
  · by_cases e : q = i
    · subst e; rw [if_pos rfl, List.length_set]; exact S.ks.small q hq
    · rw [if_neg e]; exact S.ks.small q hq
  · by_cases e : q = i
    · subst e
      rw [if_pos rfl] at hx
      rcases List.mem_or_eq_of_mem_set hx with hx | rfl
      · exact S.ks.byte q hq x hx
      · exact ⟨_, rfl⟩
    · rw [if_neg e] at hx; exact S.ks.byte q hq x hx
theorem RingP.head {w : World} {p : Option Addr} {bs : List Nat} {cap h : Nat} {xs : List UInt8} (H : RingP w p bs cap h xs) : h < cap ∨ (cap = 0 ∧ h = 0) := by
  rcases H with ⟨_, _, rfl, rfl, _⟩ | ⟨rp, sb, _, _, H⟩
  · exact .inr ⟨rfl, rfl⟩
  · exact .inl H.hhead

end Rg
end Go.Proofs.Ytclciccgcegpmaa
