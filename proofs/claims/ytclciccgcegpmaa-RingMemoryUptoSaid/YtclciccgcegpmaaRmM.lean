/-
  ring: marks, and what grows (plain; and rows kept over appends).
-/
import Derived.Test.YtclciccgcegpmaaRmK
set_option linter.unusedVariables false
set_option linter.unusedSimpArgs false
namespace Go.Proofs.Ytclciccgcegpmaa
open Go.RowKit
namespace Rg

/-- All lists ahead of q are marked, and of q its first j bytes. -/
def Mk (L : Nat → Nat) (X : Nat → List Value) (q j : Nat) : Prop := (∀ r, r < q → ∀ c, c < L r → (X r)[c]? = some (.int .u8 (mkR r c))) ∧ ∀ c, c < j → (X q)[c]? = some (.int .u8 (mkR q c))
theorem Mk.next {L : Nat → Nat} {X : Nat → List Value} {q : Nat} (M : Mk L X q (L q)) : Mk L X (q + 1) 0 :=
  ⟨fun r hr c hc => by
    by_cases e : r = q
    · subst e; exact M.2 c hc
    · exact M.1 r (by omega) c hc, fun c hc => by omega⟩
theorem Mk.set {L : Nat → Nat} {X : Nat → List Value} {q j : Nat} (M : Mk L X q j) (hj : j < (X q).length) : Mk L (fun r => if r = q then (X q).set j (.int .u8 (mkR q j)) else X r) q (j + 1) := by
  refine ⟨fun r hr c hc => ?_, fun c hc => ?_⟩
  · dsimp only
    rw [if_neg (by omega)]
    exact M.1 r hr c hc
  · dsimp only
    rw [if_pos rfl, List.getElem?_set]
    by_cases e : j = c
    · subst e; rw [if_pos rfl, if_pos hj]
    · rw [if_neg e]; exact M.2 c (by omega)

variable {B mb : Nat} {p : Option Addr} {bs : List Nat} {cap h h2 : Nat} {xs ys : List UInt8} {K nk : Nat} {V : Nat → Value} {X : Nat → List Value} {kv mv : Value} {w w' : World}
/-- One list's block turned, its row stands: all stand. -/
theorem St.again (S : St B mb p bs cap h xs h2 ys K nk V X kv mv w) {q : Nat} (hq : q < K) (b : But (V q).ownBlock.toList w w') (o : w'.ownsRow B 5 1 (V q) (X q).length (X q)) : St B mb p bs cap h xs h2 ys K nk V X kv mv w' := by
  have m1 : ∀ {x : Nat}, x ∈ (V q).ownBlock.toList → (V q).ownBlock = some x := fun hm => by simpa using hm
  refine ⟨⟨fun i hi => ?_, S.ks.apart, S.ks.small, S.ks.byte⟩, b.owns S.kown (fun x hx hm => S.kfar q x hq (m1 hm) hx), b.owns S.mown (fun x hx hm => S.mfar q x hq (m1 hm) hx), S.kfar, S.mfar, S.km, b.heap S.mod (fun hm => by have := (S.ks.lt hq (m1 hm)).1; have := S.low.2.1; omega), S.ring.but b (fun x hx hm => by have := (S.ks.lt hq (m1 hm)).1; have := S.low.1 x hx; omega), S.low⟩
  by_cases e : i = q
  · subst e; exact o
  · exact b.owns (S.ks.own i hi) (fun x hx hm => S.ks.apart q i x hq hi (fun e' => e e'.symm) (m1 hm) hx)
/-- What a byte that is grown says. -/
def gb (q : Nat) : Int := ((q : Int) + 101) % 256
/-- A list that is grown under another name. -/
structure Al (B : Nat) (W : World) (v : Value) (x : List Value) (q n : Nat) (gv : Value) (w : World) : Prop where
  own : w.ownsRow B 5 1 gv (x.length + n) (x ++ List.replicate n (.int .u8 (gb q)))
  old : w.ownsRow B 5 1 v x.length x
  how : (∃ g c, v = .slice (some ⟨g, 0, none⟩) x.length c ∧ gv = .slice (some ⟨g, 0, none⟩) (x.length + n) c) ∨ ∀ b, gv.ownBlock = some b → W.heap.size ≤ b
  frame : But v.ownBlock.toList W w
  lo : ∀ b, v.ownBlock = some b → b < W.heap.size
theorem Al.start {v : Value} {x : List Value} (q : Nat) (h : w.ownsRow B 5 1 v x.length x) : Al B w v x q 0 v w := by
  refine ⟨by simpa using h, h, ?_, But.refl _ _, fun b hb => (World.ownsRow.lt h b hb).2⟩
  rcases h.2 with ⟨rfl, _⟩ | ⟨g, c, cur, e, _⟩
  · exact .inr (fun b hb => by cases hb)
  · exact .inl ⟨g, c, e, by rw [e]; rfl⟩
theorem Al.step {W : World} {v gv gv' : Value} {x : List Value} {q n : Nat} (A : Al B W v x q n gv w) (h1 : w'.ownsRow B 5 1 gv' (x.length + n + 1) (x ++ List.replicate n (.int .u8 (gb q)) ++ [.int .u8 (gb q)])) (h2 : w.grownBy w' gv.ownBlock) (h3 : w'.ownsRow B 5 1 gv (x.length + n) (x ++ List.replicate n (.int .u8 (gb q))))
    (h4 : (∃ g c, gv = .slice (some ⟨g, 0, none⟩) (x.length + n) c ∧ gv' = .slice (some ⟨g, 0, none⟩) (x.length + n + 1) c) ∨ ∃ g, gv'.ownBlock = some g ∧ w.heap.size ≤ g) : Al B W v x q (n + 1) gv' w' := by
  have hsz := A.frame.size
  refine ⟨by rw [List.replicate_succ', ← List.append_assoc]; exact h1, ?_, ?_, ?_, A.lo⟩
  · rcases A.how with ⟨g, c, e1, e2⟩ | h5
    · rw [e2] at h3
      rw [e1]
      have := owns_prefix h3
      rwa [Nat.mul_one, List.take_left] at this
    · refine (but_grown h2).owns A.old (fun b hb hm => ?_)
      have h6 := h5 b (by simpa using hm)
      have := A.lo b hb
      omega
  · rcases h4 with ⟨g, c, e1, e2⟩ | ⟨g, e1, e2⟩
    · rcases A.how with ⟨g', c', e3, e4⟩ | h5
      · rw [e4] at e1
        injection e1 with f1 _ f3
        injection f1 with f1
        injection f1 with f1
        subst f1 f3
        exact .inl ⟨g', c', e3, e2⟩
      · refine .inr (fun b hb => h5 b ?_)
        rw [e1]
        rw [e2] at hb
        exact hb
    · refine .inr (fun b hb => ?_)
      rw [e1] at hb
      injection hb with hb
      omega
  · refine ⟨h2.os.trans A.frame.os, h2.tape.trans A.frame.tape, h2.output.trans A.frame.output, Nat.le_trans A.frame.size h2.size, fun k hk hn => (h2.block k (by omega) (fun e => ?_)).trans (A.frame.block k hk hn)⟩
    rcases A.how with ⟨g, c, e1, e2⟩ | h5
    · refine hn ?_
      rw [e2] at e
      rw [e1]
      simp [Value.ownBlock] at e ⊢
      exact e
    · have := h5 k e.symm
      omega

/-- Of the lists ahead of q the grown ones: where they lie, what they say behind the old end. -/
structure Gr (B K q : Nat) (V : Nat → Value) (L : Nat → Nat) (G : Nat → Value) (gl : Value) (w : World) : Prop where
  own : w.ownsRow B 25 1 gl q ((List.range q).map G)
  far : ∀ i b, i < K → (V i).ownBlock = some b → gl.ownBlock ≠ some b
  each : ∀ r, r < q → ∃ g c, G r = .slice (some ⟨g, 0, none⟩) (L r + 17) c ∧ L r + 17 ≤ c ∧ g < w.heap.size ∧ (∀ s, q ≤ s → s < K → (V s).ownBlock ≠ some g) ∧ gl.ownBlock ≠ some g ∧ ∀ e, e < L r + 17 → ∃ z, w.cell? ⟨g, e, none⟩ = some (.int .u8 z) ∧ (L r ≤ e → z = gb r)
theorem Gr.start (B K : Nat) (V : Nat → Value) (L : Nat → Nat) (w : World) : Gr B K 0 V L (fun _ => .slice none 0 0) (.slice none 0 0) w :=
  ⟨World.ownsRow_nil _ _ _ _, (fun i b hi hb e => by cases e), (fun r hr => by omega)⟩
/-- The list q was grown, and kept in the list of the grown. -/
theorem Gr.step {q : Nat} {L : Nat → Nat} {G : Nat → Value} {gl gv gl' : Value} {W : World} (R : Gr B K q V L G gl W) (S : St B mb p bs cap h xs h2 ys K nk V X kv mv W) (hq : q < K) (hL : (X q).length = L q) (A : Al B W (V q) (X q) q 17 gv w)
    (h1 : w'.ownsRow B 25 1 gl' (q + 1) ((List.range q).map G ++ [gv])) (h2' : w.grownBy w' gl.ownBlock) (h3 : gl'.ownBlock = gl.ownBlock ∨ ∃ b, gl'.ownBlock = some b ∧ w.heap.size ≤ b) :
    Gr B K (q + 1) V L (fun r => if r = q then gv else G r) gl' w' := by
  have hsz := A.frame.size
  have gl1 : ∀ b, gl.ownBlock = some b → B ≤ b ∧ b < W.heap.size := World.ownsRow.lt R.own
  have glq : ∀ b, (V q).ownBlock = some b → gl.ownBlock ≠ some b := fun b hb => R.far q b hq hb
  have vlt : ∀ s b, s < K → (V s).ownBlock = some b → b < W.heap.size := fun s b hs hb => (S.ks.lt hs hb).2
  have hgvl : (X q).length + 17 = L q + 17 := by rw [hL]
  have hgv : ∃ g c, gv = .slice (some ⟨g, 0, none⟩) ((X q).length + 17) c ∧ (X q).length + 17 ≤ c ∧ g < w.heap.size := by
    rcases A.own.2 with ⟨_, hn⟩ | ⟨g, c, cur, e, _, hg, hc, _⟩
    · omega
    · exact ⟨g, c, e, hc, (Array.getElem?_eq_some_iff.1 hg).1⟩
  obtain ⟨g, c, hge, hgc, hgl⟩ := hgv
  have hgb : gv.ownBlock = some g := by rw [hge]; rfl
  have hgwhere : (V q).ownBlock = some g ∨ W.heap.size ≤ g := by
    rcases A.how with ⟨g', c', e1, e2⟩ | h5
    · left; rw [e1]; rw [hge] at e2; injection e2 with f1 _ _; injection f1 with f1; injection f1 with f1; subst f1; rfl
    · exact .inr (h5 g hgb)
  have glg : gl.ownBlock ≠ some g := fun e => by
    rcases hgwhere with h5 | h5
    · exact glq g h5 e
    · have := (gl1 g e).2; omega
  have newfar : ∀ x, x < w.heap.size → gl.ownBlock ≠ some x → gl'.ownBlock ≠ some x := fun x hx hne e => by
    rcases h3 with h3 | ⟨b, h3, h4⟩
    · rw [h3] at e; exact hne e
    · rw [h3] at e; injection e with e; omega
  refine ⟨?_, fun i b hi hb => newfar b (Nat.lt_of_lt_of_le (vlt i b hi hb) hsz) (R.far i b hi hb), fun r hr => ?_⟩
  · rw [List.range_succ, List.map_append]
    have : (List.range q).map (fun r => if r = q then gv else G r) = (List.range q).map G := by
      apply List.map_congr_left
      intro i hi
      rw [List.mem_range] at hi
      rw [if_neg (by omega)]
    rw [this]
    simpa using h1
  · by_cases e : r = q
    · subst e
      refine ⟨g, c, by rw [if_pos rfl, hge, hgvl], by omega, Nat.lt_of_lt_of_le hgl h2'.size, fun s hs hsK e => ?_, newfar g hgl glg, fun e he2 => ?_⟩
      · rcases hgwhere with h5 | h5
        · exact S.ks.apart r s g hq hsK (by omega) h5 e
        · have := vlt s g hsK e; omega
      · have ea : Addr.add ⟨g, 0, none⟩ e = ⟨g, e, none⟩ := by unfold Addr.add; split <;> simp_all
        have up : ∀ u, (X r ++ List.replicate 17 (.int .u8 (gb r)))[e]? = some u → w'.cell? ⟨g, e, none⟩ = some u := fun u hu => by
          have hc1 := World.ownsRow.cells A.own (g := g) (by rw [hge]; rfl) e u hu
          rw [ea] at hc1
          exact (but_grown h2').cell hc1 (fun hm => glg (by simpa using hm))
        by_cases hel : e < (X r).length
        · have hx : (X r)[e]? = some (X r)[e] := List.getElem?_eq_getElem hel
          obtain ⟨z, hz⟩ := S.ks.byte r hq _ (List.getElem_mem hel)
          refine ⟨z, up _ ?_, fun hle => by omega⟩
          rw [List.getElem?_append_left hel, hx, hz]
        · refine ⟨gb r, up _ ?_, fun _ => rfl⟩
          rw [List.getElem?_append_right (by omega), List.getElem?_replicate, if_pos (by omega)]
    · obtain ⟨g', c', e1, e2, e3, e4, e5, e6⟩ := R.each r (by omega)
      refine ⟨g', c', by rw [if_neg e]; exact e1, e2, by have := h2'.size; omega, fun s hs hsK => e4 s (by omega) hsK, newfar g' (by omega) e5, fun e he2 => ?_⟩
      obtain ⟨z, hz1, hz2⟩ := e6 e he2
      refine ⟨z, ?_, hz2⟩
      exact (but_grown h2').cell (A.frame.cell hz1 (fun hm => e4 q (Nat.le_refl _) hq (by simpa using hm))) (fun hm => e5 (by simpa using hm))

end Rg
end Go.Proofs.Ytclciccgcegpmaa
