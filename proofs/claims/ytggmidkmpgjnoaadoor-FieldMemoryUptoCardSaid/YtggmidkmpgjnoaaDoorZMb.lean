/-
  Lists that are grown and put back in their places.
-/
import Derived.Test.YtggmidkmpgjnoaaDoorZMa
set_option linter.unusedVariables false
set_option linter.unusedSimpArgs false
namespace Go.Proofs.YtggmidkmpgjnoaaDoor
open Go.RowKit Go.Shelf
namespace Zm
open Oc

variable {TL T TR B : Nat} {L : Nat → Nat} {m1 m2 : Nat} {r1 r2 : List Value} {na nl : Nat} {V : Nat → Value} {N : Nat → Nat} {X : Nat → List Value} {w w' : World} {K : Nat} {dg : Nat → Nat → Value × Value}

theorem Mz.startNil {w1 w2 w3 : World} {v1 v2 : Value} (hB : B ≤ w1.heap.size) (h2 : w2.ownsRow w1.heap.size TR 2 v1 m1 r1) (b2 : Below w1.heap.size w1 w2) (h3 : w3.ownsRow w2.heap.size TR 2 v2 m2 r2) (b3 : Below w2.heap.size w2 w3) :
    ∃ V, (∃ N X, Mz TL T TR B L m1 m2 r1 r2 0 0 V N X w3) ∧ V 0 = .slice none 0 0 ∧ V 1 = v1 ∧ V 2 = v2 := by
  have F0 : Fam B (fun _ => False) (tyZ TL T TR) szZ (fun _ => 0) (fun _ => .slice none 0 0) (fun _ => []) w1 := ⟨fun _ h => h.elim, fun _ _ _ h => h.elim⟩
  have s2 := b2.size
  have s3 := b3.size
  have F2 := F0.add (i := 1) (fun h => h) b2 hB (v := v1) (n := m1) (x := r1) h2
  have F3 := F2.add (i := 2) (by simp) b3 (by omega) (v := v2) (n := m2) (x := r2) h3
  have F5 := F3.add (i := 0) (by simp) (Below.refl _ w3) (by omega) (v := .slice none 0 0) (n := 0) (x := []) (World.ownsRow_nil w3 _ _ _)
  refine ⟨_, ⟨_, _, ⟨restr F5 (fun j hj => by unfold domZ at hj; omega), ?_, ?_, ?_, ?_, ?_, ?_, ?_⟩⟩, ?_, ?_, ?_⟩
  all_goals first | (intro q hq; omega) | (simp [upd]; done)

/-- A row in the place of one that it is an alias of. -/
theorem swap {D : Nat → Prop} {Ty S : Nat → Nat} (F : Fam B D Ty S N V X w) {i : Nat} (hi : D i) {v : Value} {n : Nat} {x : List Value} (h : w.ownsRow B (Ty i) (S i) v n x)
    (h3 : v.ownBlock = (V i).ownBlock ∨ ∀ j, D j → (V j).ownBlock = none ∨ (V j).ownBlock ≠ v.ownBlock) : Fam B D Ty S (upd N i n) (upd V i v) (upd X i x) w := by
  have old : ∀ j g, D j → j ≠ i → (V j).ownBlock = some g → v.ownBlock ≠ some g := fun j g hj hne hgj hvg => by
    rcases h3 with hv | h3
    · rw [hv] at hvg
      exact F.apart j i g hj hi hne hgj hvg
    · rcases h3 j hj with h | h
      · rw [hgj] at h; cases h
      · exact h (hgj.trans hvg.symm)
  refine ⟨fun j hj => ?_, fun j k g hj hk hne hgj => ?_⟩
  · by_cases e : j = i
    · subst e
      rw [upd_same, upd_same, upd_same]
      exact h
    · rw [upd_other _ _ e, upd_other _ _ e, upd_other _ _ e]
      exact F.own j hj
  · by_cases e : j = i
    · subst e
      have hk' : k ≠ j := fun e => hne e.symm
      rw [upd_same] at hgj
      rw [upd_other _ _ hk']
      exact fun h' => old k g hk hk' h' hgj
    · rw [upd_other _ _ e] at hgj
      by_cases e2 : k = i
      · subst e2
        rw [upd_same]
        exact old j g hj e hgj
      · rw [upd_other _ _ e2]
        exact F.apart j k g hj hk hne hgj

/-- The lists ahead of i are G longer. -/
def Lg (G : Nat) (L : Nat → Nat) (i q : Nat) : Nat := if q < i then L q + G else L q
/-- What is told of the cells: marks, and behind them, in the lists ahead of i, what was grown. -/
def Dg (K G : Nat) (L : Nat → Nat) (dg : Nat → Nat → Value × Value) (gr : Value) (X : Nat → List Value) (i : Nat) : Prop :=
  (∀ q c, q < K → c < L q → (X (10 + q))[c * 2]? = some (dg q c).1 ∧ (X (10 + q))[c * 2 + 1]? = some (dg q c).2) ∧
  (∀ q c, q < i → L q ≤ c → c < L q + G → ∃ u : ByteArray, (X (10 + q))[c * 2]? = some gr ∧ (X (10 + q))[c * 2 + 1]? = some (.string u))
def Pg (TL T TR B K G : Nat) (L : Nat → Nat) (m1 m2 : Nat) (r1 r2 : List Value) (dg : Nat → Nat → Value × Value) (gr : Value) (V : Nat → Value) (i : Nat) (w : World) : Prop := ∃ N X, Mz TL T TR B (Lg G L i) m1 m2 r1 r2 K K V N X w ∧ Dg K G L dg gr X i
variable {G i j : Nat} {gr : Value}
theorem Pg.start (P : Ph TL T TR B K L m1 m2 r1 r2 dg V K 0 w) : Pg TL T TR B K G L m1 m2 r1 r2 dg gr V 0 w := by
  obtain ⟨N, X, M, h⟩ := P
  have e : Lg G L 0 = L := by funext q; unfold Lg; rw [if_neg (by omega)]
  exact ⟨N, X, by rw [e]; exact M, fun q c hq hc => h q c hq hc (.inl hq), fun q c hq => by omega⟩
theorem Pg.below (P : Pg TL T TR B K G L m1 m2 r1 r2 dg gr V i w) (b : Below w.heap.size w w') : Pg TL T TR B K G L m1 m2 r1 r2 dg gr V i w' := by
  obtain ⟨N, X, M, h⟩ := P
  exact ⟨N, X, M.below b, h⟩
theorem Pg.formL (P : Pg TL T TR B K G L m1 m2 r1 r2 dg gr V i w) (hK : 0 < K) : ∃ g cap, V 0 = .slice (some ⟨g, 0, none⟩) K cap ∧ K ≤ cap := by
  obtain ⟨N, X, M, _⟩ := P
  have := owns_form (M.fam.own 0 (by unfold domZ; omega))
  rw [M.n0] at this
  rcases this with ⟨_, h⟩ | h
  · omega
  · exact h
theorem Pg.cellL (P : Pg TL T TR B K G L m1 m2 r1 r2 dg gr V i w) {g cap : Nat} (hv : V 0 = .slice (some ⟨g, 0, none⟩) K cap) (q : Nat) (hq : q < K) : w.cell? ⟨g, q, none⟩ = some (V (10 + q)) ∧ w.frozen? ⟨g, q, none⟩ = false ∧ B ≤ g := by
  obtain ⟨N, X, M, _⟩ := P
  have h := M.fam.own 0 (by unfold domZ; omega)
  rw [hv, M.n0] at h
  refine ⟨owns_cell h ?_, owns_free h q, (World.ownsRow.lt h g rfl).1⟩
  rw [M.x0]
  simp [hq]
theorem Pg.formS (P : Pg TL T TR B K G L m1 m2 r1 r2 dg gr V i w) (q : Nat) (hq : q < K) : (V (10 + q) = .slice none 0 0 ∧ Lg G L i q = 0) ∨ ∃ g cap, V (10 + q) = .slice (some ⟨g, 0, none⟩) (Lg G L i q) cap ∧ Lg G L i q ≤ cap := by
  obtain ⟨N, X, M, _⟩ := P
  have := owns_form (M.fam.own (10 + q) (by unfold domZ; omega))
  rwa [M.ns q hq] at this
theorem Pg.rows (P : Pg TL T TR B K G L m1 m2 r1 r2 dg gr V i w) : w.ownsRow B TR 2 (V 1) m1 r1 ∧ w.ownsRow B TR 2 (V 2) m2 r2 := by
  obtain ⟨N, X, M, _⟩ := P
  exact M.rows
theorem Pg.marks (P : Pg TL T TR B K G L m1 m2 r1 r2 dg gr V i w) (q : Nat) (hq : q < K) {g n cap : Nat} (hv : V (10 + q) = .slice (some ⟨g, 0, none⟩) n cap) (c : Nat) (hc : c < L q) : w.cell? ⟨g, c * 2, none⟩ = some (dg q c).1 ∧ w.cell? ⟨g, c * 2 + 1, none⟩ = some (dg q c).2 := by
  obtain ⟨N, X, M, h, _⟩ := P
  have ho := M.fam.own (10 + q) (by unfold domZ; omega)
  rcases owns_form ho with ⟨e, _⟩ | ⟨g', cap', e, _⟩
  · rw [e] at hv; cases hv
  · rw [e] at hv ho
    injection hv with e1 e2 e3
    injection e1 with e1
    injection e1 with e1
    subst e1
    obtain ⟨p, r⟩ := h q c hq hc
    exact ⟨owns_cell ho p, owns_cell ho r⟩
theorem Pg.grown (P : Pg TL T TR B K G L m1 m2 r1 r2 dg gr V K w) (q : Nat) (hq : q < K) {g n cap : Nat} (hv : V (10 + q) = .slice (some ⟨g, 0, none⟩) n cap) (c : Nat) (hc : L q ≤ c) (hc' : c < L q + G) : ∃ u : ByteArray, w.cell? ⟨g, c * 2, none⟩ = some gr ∧ w.cell? ⟨g, c * 2 + 1, none⟩ = some (.string u) := by
  obtain ⟨N, X, M, _, h⟩ := P
  have ho := M.fam.own (10 + q) (by unfold domZ; omega)
  rcases owns_form ho with ⟨e, _⟩ | ⟨g', cap', e, _⟩
  · rw [e] at hv; cases hv
  · rw [e] at hv ho
    injection hv with e1 e2 e3
    injection e1 with e1
    injection e1 with e1
    subst e1
    obtain ⟨u, p, r⟩ := h q c hq hc hc'
    exact ⟨u, owns_cell ho p, owns_cell ho r⟩

/-- The list i under another name, m longer. -/
def PgA (TL T TR B K G : Nat) (L : Nat → Nat) (m1 m2 : Nat) (r1 r2 : List Value) (dg : Nat → Nat → Value × Value) (gr : Value) (V : Nat → Value) (i : Nat) (gv : Value) (m : Nat) (w : World) : Prop :=
  ∃ N X, Mz TL T TR B (Lg G L i) m1 m2 r1 r2 K K V N X w ∧ Dg K G L dg gr X i ∧
    ∃ ys, w.ownsRow B T 2 gv (L i + m) ys ∧ ys.take (L i * 2) = X (10 + i) ∧ (∀ c, L i ≤ c → c < L i + m → ∃ u : ByteArray, ys[c * 2]? = some gr ∧ ys[c * 2 + 1]? = some (.string u)) ∧
    ((∃ g cap, V (10 + i) = .slice (some ⟨g, 0, none⟩) (L i) cap ∧ gv = .slice (some ⟨g, 0, none⟩) (L i + m) cap) ∨ ∀ j, domZ K j → (V j).ownBlock = none ∨ (V j).ownBlock ≠ gv.ownBlock)
theorem Lg_self : Lg G L i i = L i := by unfold Lg; rw [if_neg (by omega)]
theorem Pg.alias (P : Pg TL T TR B K G L m1 m2 r1 r2 dg gr V i w) (hi : i < K) : PgA TL T TR B K G L m1 m2 r1 r2 dg gr V i (V (10 + i)) 0 w := by
  obtain ⟨N, X, M, h⟩ := P
  have hd : domZ K (10 + i) := by unfold domZ; omega
  obtain ⟨ys, a1, a2, a3⟩ := M.fam.alias hd
  rw [M.ns i hi, Lg_self, ty_z, sz_z] at a1
  rw [M.ns i hi, Lg_self, sz_z] at a2
  rw [M.ns i hi, Lg_self] at a3
  exact ⟨N, X, M, h, ys, a1, a2, fun c h1 h2 => by omega, a3⟩
theorem PgA.below {gv : Value} {m : Nat} (P : PgA TL T TR B K G L m1 m2 r1 r2 dg gr V i gv m w) (b : Below w.heap.size w w') : PgA TL T TR B K G L m1 m2 r1 r2 dg gr V i gv m w' := by
  obtain ⟨N, X, M, h, ys, a1, a2, a3, a4⟩ := P
  exact ⟨N, X, M.below b, h, ys, owns_below a1 b, a2, a3, a4⟩
theorem wp_growG {ops : Array Oper} {rest : List Oper} {o : Oper} {a : Act} {Q : Exit → Act → World → Prop} {W : World} (z0 z1 : Value) (by0 : Nat) (hby0 : by0 ≤ 65536) (hund : Tryd.prog.underlying TL = some (.slice T)) (hinfo : (Tryd.prog.info? T).map (fun i => (i.zero, i.size, i.bytes)) = some (some (.agg #[z0, z1]), 2, by0)) (hz : (Value.agg #[z0, z1]).cells.size = 2) (hgd : o.guard = none) (s x : Operand)
    (ho : o.op = .call { callee := .builtin .append, args := #[s, x], argTypes := #[TL, TL] }) {m : Nat} (hq : i < K) (gv : Value) (P : PgA TL T TR B K G L m1 m2 r1 r2 dg gr V i gv m W) (hn : L i + m + 1 ≤ 2147483648) (hs : a.eval s = gv) (y2 : ByteArray) (hy : gr.oneCell' = true)
    (g : Nat) (hx : a.eval x = .slice (some ⟨g, 0, none⟩) 1 1) (hg : g = W.heap.size) (hB : B ≤ W.heap.size)
    (h : ∀ v' w', PgA TL T TR B K G L m1 m2 r1 r2 dg gr V i v' (m + 1) w' → Below B W w' → wpList Tryd.prog ops Q rest (a.put o.dst v') w') : wpList Tryd.prog ops Q (o :: rest) a (W.alloc (.cells #[gr, .string y2] T)) := by
  obtain ⟨N, X, M, ha, ys, h1, h2, hgr, h3⟩ := P
  subst hg
  have hd : domZ K (10 + i) := by unfold domZ; omega
  have hN : N (10 + i) = L i := by rw [M.ns i hq, Lg_self]
  refine wp_keep hgd s x TL ho B T (.agg #[z0, z1]) 2 by0 hund hinfo hz (by decide) gv (L i + m) ys W [gr, .string y2] hs h1 1 (by decide) hx rfl ?_ (by omega) hby0 hB ?_
  · intro u hu
    simp at hu
    rcases hu with rfl | rfl
    · exact hy
    · rfl
  · intro v' w' k1 k2 k3 k4
    have st := M.fam.step (i := 10 + i) (m := m) hd (by rw [ty_z i, sz_z i, hN]; exact h1) (by rw [sz_z i, hN]; exact h2) (by rw [hN]; exact h3) (w' := w') (gv' := v') (news := [gr, .string y2]) (by rw [ty_z i, sz_z i, hN]; exact k1) k2 (by rw [ty_z i, sz_z i, hN]; exact k3) (by rw [hN]; exact k4)
    obtain ⟨F, ys', a1, a2, a3⟩ := st
    rw [hN] at a2 a3
    refine h v' w' ⟨N, X, { M with fam := F }, ha, ys ++ [gr, .string y2], k1, ?_, fun c c1 c2 => ?_, a3⟩ ((Below.refl B W).grown k2 hB (fun k hk => (World.ownsRow.lt h1 k hk).1))
    · rw [List.take_append_of_le_length (by rw [h1.1]; omega)]
      exact h2
    · have hl := h1.1
      by_cases hc : c < L i + m
      · obtain ⟨u, p, r⟩ := hgr c c1 hc
        exact ⟨u, by rw [List.getElem?_append_left (by omega)]; exact p, by rw [List.getElem?_append_left (by omega)]; exact r⟩
      · obtain rfl : c = L i + m := by omega
        exact ⟨y2, by rw [List.getElem?_append_right (by omega), hl]; simp, by rw [List.getElem?_append_right (by omega), hl]; simp⟩
/-- What was grown is put in its place. -/
theorem PgA.put {gv : Value} (P : PgA TL T TR B K G L m1 m2 r1 r2 dg gr V i gv G w) (hi : i < K) {g cap : Nat} (hv : V 0 = .slice (some ⟨g, 0, none⟩) K cap) : Pg TL T TR B K G L m1 m2 r1 r2 dg gr (upd V (10 + i) gv) (i + 1) (w.setCell ⟨g, i, none⟩ gv) := by
  obtain ⟨N, X, M, ⟨ha, hb⟩, ys, h1, h2, hgr, h3⟩ := P
  have hd : domZ K (10 + i) := by unfold domZ; omega
  have h3' : gv.ownBlock = (V (10 + i)).ownBlock ∨ ∀ j, domZ K j → (V j).ownBlock = none ∨ (V j).ownBlock ≠ gv.ownBlock := by
    rcases h3 with ⟨g', cap', e1, e2⟩ | h
    · left; rw [e1, e2]; rfl
    · exact .inr h
  have F1 := swap M.fam hd (v := gv) (n := L i + G) (x := ys) (by rw [ty_z i, sz_z i]; exact h1) h3'
  have hv0 : (upd V (10 + i) gv) 0 = .slice (some ⟨g, 0, none⟩) ((upd N (10 + i) (L i + G)) 0) cap := by rw [upd_other _ _ (by omega), upd_other _ _ (by omega), M.n0]; exact hv
  have F2 := F1.set (i := 0) (by unfold domZ; omega) hv0 i gv
  have hpre : ∀ k, k < L i * 2 → ys[k]? = (X (10 + i))[k]? := fun k hk => by rw [← h2, List.getElem?_take, if_pos hk]
  refine ⟨_, _, ⟨F2, ?_, ?_, ?_, ?_, ?_, ?_, ?_⟩, fun q c hq hc => ?_, fun q c hq hc hc' => ?_⟩
  · rw [upd_other _ _ (by omega)]; exact M.n0
  · rw [upd_other _ _ (by omega)]; exact M.n1
  · rw [upd_other _ _ (by omega)]; exact M.n2
  · intro q hq
    by_cases e : q = i
    · subst e; rw [upd_same]; unfold Lg; rw [if_pos (by omega)]
    · rw [upd_other _ _ (by omega), M.ns q hq]
      unfold Lg
      by_cases hqi : q < i
      · rw [if_pos hqi, if_pos (by omega)]
      · rw [if_neg hqi, if_neg (by omega)]
  · rw [upd_same, upd_other _ _ (by omega), M.x0]
    apply List.ext_getElem?
    intro k
    rw [List.getElem?_set]
    by_cases e : i = k
    · subst e
      rw [if_pos rfl, if_pos (by simpa using hi)]
      simp [hi, upd]
    · rw [if_neg e]
      by_cases hk : k < K
      · simp [hk, upd]; intro h; omega
      · rw [List.getElem?_eq_none (by simp; omega), List.getElem?_eq_none (by simp; omega)]
  · rw [upd_other _ _ (by omega), upd_other _ _ (by omega)]; exact M.x1
  · rw [upd_other _ _ (by omega), upd_other _ _ (by omega)]; exact M.x2
  · rw [upd_other _ _ (by omega)]
    by_cases e : q = i
    · subst e
      rw [upd_same, hpre _ (by omega), hpre _ (by omega)]
      exact ha q c hq hc
    · rw [upd_other _ _ (by omega)]
      exact ha q c hq hc
  · rw [upd_other _ _ (by omega)]
    by_cases e : q = i
    · subst e
      rw [upd_same]
      exact hgr c hc hc'
    · rw [upd_other _ _ (by omega)]
      exact hb q c (by omega) hc hc'

end Zm
end Go.Proofs.YtggmidkmpgjnoaaDoor
