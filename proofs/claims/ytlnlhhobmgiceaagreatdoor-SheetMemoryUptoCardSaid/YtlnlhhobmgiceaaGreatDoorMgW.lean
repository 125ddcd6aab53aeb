/- Several texts as one. -/
import Derived.Test.YtlnlhhobmgiceaaGreatDoorMgC
import Derived.Laws.AppendOwn
import Derived.Test.YtlnlhhobmgiceaaGreatDoorMgV
import Derived.Laws.Rows
import Derived.Test.YtlnlhhobmgiceaaGreatDoorMgD
import Derived.Lib.ItoaMem
import Derived.Lib.ItoaLen
import Derived.Lib.AppendIntMem
/-
  Rows of the call's own, apart from each other: what is written into one leaves the others.
-/
set_option linter.unusedVariables false
set_option linter.unusedSimpArgs false
namespace Go.Proofs.YtlnlhhobmgiceaaGreatDoor
open Go.RowKit Go.Shelf
namespace Oc

def upd {α : Type} (f : Nat → α) (i : Nat) (a : α) : Nat → α := fun j => if j = i then a else f j
theorem upd_same {α : Type} (f : Nat → α) (i : Nat) (a : α) : upd f i a i = a := by unfold upd; rw [if_pos rfl]
theorem upd_other {α : Type} (f : Nat → α) {i j : Nat} (a : α) (h : j ≠ i) : upd f i a j = f j := by unfold upd; rw [if_neg h]

theorem owns_below {w w' : World} {B T S n : Nat} {v : Value} {xs : List Value} (h : w.ownsRow B T S v n xs) (b : Below w.heap.size w w') : w'.ownsRow B T S v n xs := by
  refine ⟨h.1, ?_⟩
  rcases h.2 with hn | ⟨g, cap, cur, rfl, hb, hg, rest⟩
  · exact .inl hn
  · refine .inr ⟨g, cap, cur, rfl, hb, ?_, rest⟩
    rw [b.block g (Array.getElem?_eq_some_iff.1 hg).1]
    exact hg
theorem owns_lower {w : World} {B B' T S n : Nat} {v : Value} {xs : List Value} (h : w.ownsRow B T S v n xs) (hB : B' ≤ B) : w.ownsRow B' T S v n xs := by
  refine ⟨h.1, ?_⟩
  rcases h.2 with hn | ⟨g, cap, cur, rfl, hb, rest⟩
  · exact .inl hn
  · exact .inr ⟨g, cap, cur, rfl, by omega, rest⟩
theorem owns_form {w : World} {B T S n : Nat} {v : Value} {xs : List Value} (h : w.ownsRow B T S v n xs) : (v = .slice none 0 0 ∧ n = 0) ∨ ∃ g cap, v = .slice (some ⟨g, 0, none⟩) n cap ∧ n ≤ cap := by
  rcases h.2 with hn | ⟨g, cap, cur, rfl, _, _, hc, _⟩
  · exact .inl hn
  · exact .inr ⟨g, cap, rfl, hc⟩
/-- A beginning of a row. -/
theorem owns_prefix {w : World} {B T S n m g cap : Nat} {ys : List Value} (h : w.ownsRow B T S (.slice (some ⟨g, 0, none⟩) (n + m) cap) (n + m) ys) : w.ownsRow B T S (.slice (some ⟨g, 0, none⟩) n cap) n (ys.take (n * S)) := by
  rcases h.2 with ⟨hv, _⟩ | ⟨g', cap', cur, hv, hb, hg, hn, hm, hs, ht⟩
  · cases hv
  · injection hv with e1 e2 e3
    injection e1 with e1
    injection e1 with e1
    subst e1 e3
    have hl := h.1
    have hle : n * S ≤ (n + m) * S := Nat.mul_le_mul_right _ (by omega)
    refine ⟨by rw [List.length_take, hl]; omega, .inr ⟨g, cap, cur, rfl, hb, hg, by omega, hm, hs, ?_⟩⟩
    rw [← ht, List.take_take, Nat.min_eq_left hle]
theorem owns_cell {w : World} {B T S n g cap : Nat} {xs : List Value} (h : w.ownsRow B T S (.slice (some ⟨g, 0, none⟩) n cap) n xs) {j : Nat} {u : Value} (hj : xs[j]? = some u) : w.cell? ⟨g, j, none⟩ = some u := by
  have := World.ownsRow.cells h (g := g) rfl j u hj
  have ea : Addr.add ⟨g, 0, none⟩ j = ⟨g, j, none⟩ := by unfold Addr.add; split <;> simp_all
  rwa [ea] at this
theorem owns_free {w : World} {B T S n g cap : Nat} {xs : List Value} (h : w.ownsRow B T S (.slice (some ⟨g, 0, none⟩) n cap) n xs) (j : Nat) : w.frozen? ⟨g, j, none⟩ = false := by
  rcases h.2 with ⟨hv, _⟩ | ⟨g', cap', cur, hv, hb, hg, _⟩
  · cases hv
  · injection hv with e1 e2 e3
    injection e1 with e1
    injection e1 with e1
    subst e1
    exact Lib.frozen_of_heap hg j
theorem owns_set {w : World} {B T S n g cap c : Nat} {xs : List Value} (h : w.ownsRow B T S (.slice (some ⟨g, 0, none⟩) n cap) n xs) (u : Value) : (w.setCell ⟨g, c, none⟩ u).ownsRow B T S (.slice (some ⟨g, 0, none⟩) n cap) n (xs.set c u) := by
  rcases h.2 with ⟨hv, _⟩ | ⟨g', cap', cur, hv, hb, hg, hn, hm, hs, ht⟩
  · cases hv
  · injection hv with e1 e2 e3
    injection e1 with e1
    injection e1 with e1
    subst e1 e3
    refine ⟨by rw [List.length_set]; exact h.1, .inr ⟨g, cap, cur.setIfInBounds c u, rfl, hb, ?_, hn, hm, by rw [Array.size_setIfInBounds]; exact hs, ?_⟩⟩
    · simp [World.setCell, Array.getElem?_modify, hg]
    · rw [Array.toList_setIfInBounds, List.take_set, ht]
theorem grown_set (w : World) (g c : Nat) (u : Value) : w.grownBy (w.setCell ⟨g, c, none⟩ u) (some g) :=
  ⟨rfl, rfl, rfl, by simp [World.setCell], fun k hk hne => Below.heap_setCell _ _ _ _ (fun e => hne (by rw [e]))⟩

/-- Rows of the call's own (those that D names), apart from each other. -/
structure Fam (B : Nat) (D : Nat → Prop) (T S N : Nat → Nat) (V : Nat → Value) (X : Nat → List Value) (w : World) : Prop where
  own : ∀ i, D i → w.ownsRow B (T i) (S i) (V i) (N i) (X i)
  apart : ∀ i j g, D i → D j → i ≠ j → (V i).ownBlock = some g → (V j).ownBlock ≠ some g

variable {B : Nat} {D : Nat → Prop} {T S N : Nat → Nat} {V : Nat → Value} {X : Nat → List Value} {w w' : World}
theorem Fam.below (F : Fam B D T S N V X w) (b : Below w.heap.size w w') : Fam B D T S N V X w' := ⟨fun i hi => owns_below (F.own i hi) b, F.apart⟩
theorem Fam.add (F : Fam B D T S N V X w) {i : Nat} (hi : ¬ D i) (b : Below w.heap.size w w') (hB : B ≤ w.heap.size) {v : Value} {n : Nat} {x : List Value} (h : w'.ownsRow w.heap.size (T i) (S i) v n x) :
    Fam B (fun j => D j ∨ j = i) T S (upd N i n) (upd V i v) (upd X i x) w' := by
  have old : ∀ j g, D j → (V j).ownBlock = some g → v.ownBlock ≠ some g := fun j g hj hg hv => by
    have h1 := (World.ownsRow.lt h g hv).1
    have h2 := (World.ownsRow.lt (F.own j hj) g hg).2
    omega
  refine ⟨fun j hj => ?_, fun j k g hj hk hne hg => ?_⟩
  · by_cases e : j = i
    · subst e
      rw [upd_same, upd_same, upd_same]
      exact owns_lower h hB
    · rw [upd_other _ _ e, upd_other _ _ e, upd_other _ _ e]
      exact owns_below (F.own j (hj.resolve_right e)) b
  · by_cases e : j = i
    · subst e
      have hk' : k ≠ j := fun e => hne e.symm
      rw [upd_same] at hg
      rw [upd_other _ _ hk']
      exact fun h' => old k g (hk.resolve_right hk') h' hg
    · rw [upd_other _ _ e] at hg
      by_cases e2 : k = i
      · subst e2
        rw [upd_same]
        exact old j g (hj.resolve_right e) hg
      · rw [upd_other _ _ e2]
        exact F.apart j k g (hj.resolve_right e) (hk.resolve_right e2) hne hg
theorem Fam.others (F : Fam B D T S N V X w) {i : Nat} (hi : D i) {j : Nat} (hj : D j) (hne : j ≠ i) : (V j).ownBlock = none ∨ (V j).ownBlock ≠ (V i).ownBlock := by
  cases h : (V j).ownBlock with
  | none => exact .inl rfl
  | some g => exact .inr (fun e => F.apart j i g hj hi hne h e.symm)
theorem Fam.put (F : Fam B D T S N V X w) {i : Nat} (hi : D i) (hg : w.grownBy w' (V i).ownBlock) {v : Value} {n : Nat} {x : List Value} (h : w'.ownsRow B (T i) (S i) v n x) (hv : v.ownBlock = (V i).ownBlock ∨ ∃ g, v.ownBlock = some g ∧ w.heap.size ≤ g) :
    Fam B D T S (upd N i n) (upd V i v) (upd X i x) w' := by
  have old : ∀ j g, D j → j ≠ i → (V j).ownBlock = some g → v.ownBlock ≠ some g := fun j g hj hne hgj hvg => by
    rcases hv with hv | ⟨g', e, hle⟩
    · rw [hv] at hvg
      exact F.apart j i g hj hi hne hgj hvg
    · rw [e] at hvg
      injection hvg with hvg
      have h2 := (World.ownsRow.lt (F.own j hj) g hgj).2
      omega
  refine ⟨fun j hj => ?_, fun j k g hj hk hne hgj => ?_⟩
  · by_cases e : j = i
    · subst e
      rw [upd_same, upd_same, upd_same]
      exact h
    · rw [upd_other _ _ e, upd_other _ _ e, upd_other _ _ e]
      exact World.ownsRow.kept (F.own j hj) hg (F.others hi hj e)
  · by_cases e : j = i
    · subst e
      have hk' : k ≠ j := fun e => hne e.symm
      rw [upd_same] at hgj
      rw [upd_other _ _ hk']
      exact fun h' => old k g hk hk' h' hgj
    · rw [upd_other _ _ e] at hgj
      by_cases e2 : k = i
      · subst e2
        rw [upd_same]
        exact old j g hj e hgj
      · rw [upd_other _ _ e2]
        exact F.apart j k g hj hk hne hgj
/-- A cell of a row written. -/
theorem Fam.set (F : Fam B D T S N V X w) {i : Nat} (hi : D i) {g cap : Nat} (hv : V i = .slice (some ⟨g, 0, none⟩) (N i) cap) (c : Nat) (u : Value) : Fam B D T S N V (upd X i ((X i).set c u)) (w.setCell ⟨g, c, none⟩ u) := by
  have hb : (V i).ownBlock = some g := by rw [hv]; rfl
  refine ⟨fun j hj => ?_, F.apart⟩
  by_cases e : j = i
  · subst e
    rw [upd_same]
    have := F.own j hj
    rw [hv] at this ⊢
    exact owns_set this u
  · rw [upd_other _ _ e]
    exact World.ownsRow.kept (F.own j hj) (grown_set w g c u) (by have := F.others hi hj e; rwa [hb] at this)
theorem Fam.over (F : Fam B D T S N V X w) {row : Option Nat} (hg : w.grownBy w' row) (h : ∀ j, D j → (V j).ownBlock = none ∨ (V j).ownBlock ≠ row) : Fam B D T S N V X w' := ⟨fun j hj => World.ownsRow.kept (F.own j hj) hg (h j hj), F.apart⟩
theorem Fam.same (F : Fam B D T S N V X w) {i : Nat} (hi : D i) (hg : w.grownBy w' (V i).ownBlock) (h : w'.ownsRow B (T i) (S i) (V i) (N i) (X i)) : Fam B D T S N V X w' := by
  refine ⟨fun j hj => ?_, F.apart⟩
  by_cases e : j = i
  · subst e; exact h
  · exact World.ownsRow.kept (F.own j hj) hg (F.others hi hj e)

/-- append to a row: what was the row reads as before; the new one lies in its room, or is new. -/
theorem run_append_keep {P : Program} (w : World) (base : Nat) (t ty e : TypeId) (i : TypeInfo) (z : Value) (size bytes : Nat) (ht : P.underlying t = some (.slice e)) (hi : P.info? e = some i) (hz : i.zero = some z)
    (hsize : i.size = size) (hby : i.bytes = bytes) (hzs : z.cells.size = size) (hsz : 0 < size)
    (v : Value) (n : Nat) (xs : List Value) (hown : w.ownsRow base e size v n xs)
    (a : Addr) (m c : Nat) (news : List Value) (hl : news.length = m * size) (hnews : ∀ j u, news[j]? = some u → w.cell? (a.add j) = some u) (h1 : ∀ u ∈ news, u.oneCell' = true) (hm0 : 0 < m)
    (h63 : n + m ≤ maxLen) (hbytes : (n + m) * bytes ≤ 140737488355328) (hbase : base ≤ w.heap.size) :
    ∃ v' w', (Builtin.append_ #[t, t] ty #[v, .slice (some a) m c]).run P w = .ok v' w' ∧ w'.ownsRow base e size v' (n + m) (xs ++ news) ∧ w.grownBy w' v.ownBlock ∧ w'.ownsRow base e size v n xs ∧
      ((∃ g cap, v = .slice (some ⟨g, 0, none⟩) n cap ∧ v' = .slice (some ⟨g, 0, none⟩) (n + m) cap) ∨ v'.ownBlock = some w.heap.size) := by
  subst hsize
  subst hby
  have hsmall : n + m ≤ 9223372036854775807 := by simp only [maxLen] at h63; omega
  have hlen : (xs ++ news).length = (n + m) * i.size := by rw [List.length_append, hown.1, hl, Nat.add_mul]
  have grown : ∀ (old : Nat), old < n + m →
      (w.drew.alloc (.cells (xs.toArray ++ news.toArray ++ Builtin.zeroCells z.cells (grownCap w (n + m) old e - (n + m))) e)).ownsRow base e i.size
        (.slice (some ⟨w.heap.size, 0, none⟩) (n + m) (grownCap w (n + m) old e)) (n + m) (xs ++ news) := by
    intro old ho
    have hge := grownCap_ge w (n + m) old e
    have hcm : grownCap w (n + m) old e ≤ maxLen := grownCap_le_maxLen w (n + m) old e h63
    refine ⟨hlen, .inr ⟨w.heap.size, _, _, rfl, hbase, heap_alloc_new w.drew _, hge, hcm, ?_, ?_⟩⟩
    · simp only [Array.size_append, List.size_toArray, size_zeroCells, hzs, hown.1, hl, ← Nat.add_mul]
      congr 1
      omega
    · simp only [Array.toList_append, List.append_assoc]
      rw [← List.append_assoc, ← hlen]
      exact List.take_left
  have gr : ∀ (o : Obj) (row : Option Nat), w.grownBy (w.drew.alloc o) row := fun o row => ⟨rfl, rfl, rfl, by simp, fun k hk _ => Lib.alloc_old w.drew o k hk⟩
  have keep : ∀ (o : Obj), (w.drew.alloc o).ownsRow base e i.size v n xs := fun o => hown.kept (gr o none) (by cases hv : v.ownBlock <;> simp)
  rcases hown.2 with ⟨rfl, rfl⟩ | ⟨g, cap, cur, rfl, hbg, hg, hnc, hcm, hcs, htake⟩
  · have hx : xs = [] := List.eq_nil_of_length_eq_zero (by simpa using hown.1)
    subst hx
    have hr := run_append_nil (P := P) w t ty e i z ht hi hz a m c news hl hnews (by omega) (by omega) (by have hb := hbytes; simp only [Nat.zero_add] at hb; omega)
    have hgr := grown 0 (by omega)
    simp only [Nat.zero_add, List.nil_append, Array.empty_append] at hgr ⊢
    exact ⟨_, _, hr, hgr, gr _ _, keep _, .inr rfl⟩
  · by_cases hroom : n + m ≤ cap
    · have hfit : n * i.size + news.length ≤ cur.size := by rw [hl, hcs, ← Nat.add_mul]; exact Nat.mul_le_mul_right _ hroom
      have hr := run_append_room (P := P) w t ty e i ht hi g n cap cur hg a m c news hl hnews h1 hroom hfit
      have hsz' : (cur.toList.take (n * i.size) ++ news ++ cur.toList.drop (n * i.size + news.length)).toArray.size = cap * i.size := by
        simp only [List.size_toArray, List.length_append, List.length_take, List.length_drop, Array.length_toList]
        omega
      have hh := setRow_heap w g cur (cur.toList.take (n * i.size) ++ news ++ cur.toList.drop (n * i.size + news.length)).toArray e _ hg
      refine ⟨_, _, hr, ⟨hlen, .inr ⟨g, cap, _, rfl, hbg, hh, hroom, hcm, hsz', ?_⟩⟩, ⟨rfl, rfl, rfl, by simp, fun k _ hk => setRow_other w g k _ (fun e => hk (by simp [Value.ownBlock, e]))⟩, ⟨hown.1, .inr ⟨g, cap, _, rfl, hbg, hh, hnc, hcm, hsz', ?_⟩⟩, .inl ⟨g, cap, rfl, rfl⟩⟩
      · rw [htake, ← hlen]
        exact List.take_left
      · rw [htake, List.append_assoc, ← hown.1]
        exact List.take_left
    · have holds : ∀ j u, xs[j]? = some u → w.cell? ((⟨g, 0, none⟩ : Addr).add j) = some u := hown.cells (g := g) rfl
      have hr := run_append_grow (P := P) w t ty e i z ht hi hz ⟨g, 0, none⟩ n cap xs hown.1 holds a m c news hl hnews (by omega) (by omega) (growslice_fits (by omega) hbytes)
      exact ⟨_, _, hr, grown cap (by omega), gr _ _, keep _, .inr rfl⟩

/-- The same in a walk: what is appended lies in a new row of its own. -/
theorem wp_keep {ops : Array Oper} {rest : List Oper} {o : Oper} {a : Act} {Q : Exit → Act → World → Prop} (hgd : o.guard = none) (s x : Operand) (St : TypeId)
    (ho : o.op = .call { callee := .builtin .append, args := #[s, x], argTypes := #[St, St] }) (B E : Nat) (z : Value) (size bytes : Nat) (hund : Tryz.prog.underlying St = some (.slice E)) (hinfo : (Tryz.prog.info? E).map (fun i => (i.zero, i.size, i.bytes)) = some (some z, size, bytes))
    (hzs : z.cells.size = size) (hsz : 0 < size) (v : Value) (n : Nat) (xs : List Value) (W : World) (news : List Value) (hs : a.eval s = v) (hown : W.ownsRow B E size v n xs) (m : Nat) (hm : 0 < m) (hx : a.eval x = .slice (some ⟨W.heap.size, 0, none⟩) m m)
    (hl : news.length = m * size) (h1 : ∀ u ∈ news, u.oneCell' = true) (h63 : n + m ≤ 2147483648) (hby : bytes ≤ 65536) (hB : B ≤ W.heap.size)
    (h : ∀ v' w', w'.ownsRow B E size v' (n + m) (xs ++ news) → W.grownBy w' v.ownBlock → w'.ownsRow B E size v n xs → ((∃ g cap, v = .slice (some ⟨g, 0, none⟩) n cap ∧ v' = .slice (some ⟨g, 0, none⟩) (n + m) cap) ∨ ∃ g, v'.ownBlock = some g ∧ W.heap.size ≤ g) → wpList Tryz.prog ops Q rest (a.put o.dst v') w') :
    wpList Tryz.prog ops Q (o :: rest) a (W.alloc (.cells news.toArray E)) := by
  obtain ⟨i0, hi, hz0, hz1, hz2⟩ := info_parts hinfo
  have hb : (n + m) * bytes ≤ 140737488355328 := by
    have := Nat.mul_le_mul h63 hby
    omega
  obtain ⟨v', w', hr, h2, h3, h4, h5⟩ := run_append_keep (P := Tryz.prog) (W.alloc (.cells news.toArray E)) B St o.type E i0 z size bytes hund hi hz0 hz1 hz2 hzs hsz v n xs (World.ownsRow.alloc hown _) ⟨W.heap.size, 0, none⟩ m m news hl
    (fun j u hj => by
      have ea : Addr.add ⟨W.heap.size, 0, none⟩ j = ⟨W.heap.size, j, none⟩ := by unfold Addr.add; split <;> simp_all
      rw [ea, Lib.cell_of_heap (heap_alloc_new W _)]
      simpa using hj) h1 hm (by unfold maxLen; omega) hb (by simp; omega)
  refine wpList_wanted (by simp [Region.wanted, hgd]) ?_
  unfold Oper.wp execOp
  simp only [ho, resolve, invoke, builtin, Sem.run_bind, Sem.run_pure, Result.andThen_ok, List.map_toArray, List.map_cons, List.map_nil, hs, hx, hr]
  refine h v' w' h2 ⟨h3.os, h3.tape, h3.output, Nat.le_trans (by simp) h3.size, fun k hk hne => (h3.block k (by simp; omega) hne).trans (Lib.alloc_old W _ k hk)⟩ h4 ?_
  rcases h5 with h5 | h5
  · exact .inl h5
  · exact .inr ⟨_, h5, by simp⟩

/-- A row that is grown under another name: it lies in the room of a row of the family, or apart from all. -/
def Alias (B : Nat) (D : Nat → Prop) (T S N : Nat → Nat) (V : Nat → Value) (X : Nat → List Value) (i : Nat) (gv : Value) (m : Nat) (w : World) : Prop :=
  ∃ ys, w.ownsRow B (T i) (S i) gv (N i + m) ys ∧ ys.take (N i * S i) = X i ∧
    ((∃ g cap, V i = .slice (some ⟨g, 0, none⟩) (N i) cap ∧ gv = .slice (some ⟨g, 0, none⟩) (N i + m) cap) ∨ ∀ j, D j → (V j).ownBlock = none ∨ (V j).ownBlock ≠ gv.ownBlock)
theorem Fam.alias (F : Fam B D T S N V X w) {i : Nat} (hi : D i) : Alias B D T S N V X i (V i) 0 w := by
  have h := F.own i hi
  refine ⟨X i, h, by rw [← h.1, List.take_length], ?_⟩
  rcases owns_form h with ⟨e, hn⟩ | ⟨g, cap, e, _⟩
  · refine .inr (fun j hj => ?_)
    rw [e]
    cases hj : (V j).ownBlock with
    | none => exact .inl rfl
    | some g => exact .inr (by simp [Value.ownBlock])
  · exact .inl ⟨g, cap, e, e⟩
theorem Alias.below {i m : Nat} {gv : Value} (h : Alias B D T S N V X i gv m w) (b : Below w.heap.size w w') : Alias B D T S N V X i gv m w' := by
  obtain ⟨ys, h1, h2, h3⟩ := h
  exact ⟨ys, owns_below h1 b, h2, h3⟩
/-- One append more. -/
theorem Fam.step (F : Fam B D T S N V X w) {i m : Nat} (hi : D i) {gv gv' : Value} {ys news : List Value} (h1 : w.ownsRow B (T i) (S i) gv (N i + m) ys) (h2 : ys.take (N i * S i) = X i)
    (h3 : (∃ g cap, V i = .slice (some ⟨g, 0, none⟩) (N i) cap ∧ gv = .slice (some ⟨g, 0, none⟩) (N i + m) cap) ∨ ∀ j, D j → (V j).ownBlock = none ∨ (V j).ownBlock ≠ gv.ownBlock)
    (k1 : w'.ownsRow B (T i) (S i) gv' (N i + m + 1) (ys ++ news)) (k2 : w.grownBy w' gv.ownBlock) (k3 : w'.ownsRow B (T i) (S i) gv (N i + m) ys)
    (k4 : (∃ g cap, gv = .slice (some ⟨g, 0, none⟩) (N i + m) cap ∧ gv' = .slice (some ⟨g, 0, none⟩) (N i + m + 1) cap) ∨ ∃ g, gv'.ownBlock = some g ∧ w.heap.size ≤ g) :
    Fam B D T S N V X w' ∧ Alias B D T S N V X i gv' (m + 1) w' := by
  have fresh : ∀ g, gv'.ownBlock = some g → w.heap.size ≤ g → ∀ j, D j → (V j).ownBlock = none ∨ (V j).ownBlock ≠ gv'.ownBlock := fun g hg hle j hj => by
    cases h : (V j).ownBlock with
    | none => exact .inl rfl
    | some g' =>
      refine .inr (fun e => ?_)
      rw [hg] at e
      injection e with e
      have := (World.ownsRow.lt (F.own j hj) g' h).2
      omega
  have hpre : (ys ++ news).take (N i * S i) = X i := by
    have : N i * S i ≤ ys.length := by rw [h1.1]; exact Nat.mul_le_mul_right _ (by omega)
    rw [List.take_append_of_le_length this, h2]
  refine ⟨?_, ys ++ news, k1, hpre, ?_⟩
  · rcases h3 with ⟨g, cap, e1, e2⟩ | h3
    · have hb : gv.ownBlock = (V i).ownBlock := by rw [e1, e2]; rfl
      rw [hb] at k2
      refine F.same hi k2 ?_
      rw [e2] at k3
      rw [e1, ← h2]
      exact owns_prefix k3
    · exact F.over k2 h3
  · rcases k4 with ⟨g, cap, e1, e2⟩ | ⟨g, hg, hle⟩
    · rcases h3 with ⟨g', cap', e3, e4⟩ | h3
      · rw [e4] at e1
        injection e1 with f1 f2 f3
        injection f1 with f1
        injection f1 with f1
        subst f1 f3
        exact .inl ⟨g', cap', e3, e2⟩
      · refine .inr (fun j hj => ?_)
        have hb : gv'.ownBlock = gv.ownBlock := by rw [e1, e2]; rfl
        rw [hb]
        exact h3 j hj
    · exact .inr (fresh g hg hle)

end Oc
end Go.Proofs.YtlnlhhobmgiceaaGreatDoor

/-
  Numbers in digits.
-/
set_option linter.unusedVariables false
set_option linter.unusedSimpArgs false
namespace Go.Proofs.YtlnlhhobmgiceaaGreatDoor
open Go.RowKit Go.Shelf
open Go.Sort (grow)
namespace Oc

/-- Digits without any for 0. -/
def decD (u : Nat) : List UInt8 := if u = 0 then [] else Lib.decDigits u
theorem decD_step (u : Nat) (h : u ≠ 0) : decD u = decD (u / 10) ++ [UInt8.ofNat (48 + u % 10)] := by
  unfold decD
  rw [if_neg h]
  by_cases h1 : u < 10
  · rw [if_pos (by omega), Lib.decDigits_one h1, Nat.mod_eq_of_lt h1]; rfl
  · rw [if_neg (by omega), Lib.decDigits, dif_neg h1]
theorem decD_len (n : Int) (h0 : -9223372036854775808 ≤ n) (h1 : n ≤ 9223372036854775807) : (decD n.natAbs).length ≤ 21 := by
  have h := Lib.itoa_length_le n h0 h1
  unfold decD Lib.itoa at *
  split
  · simp
  · split at h
    · simp at h; omega
    · rw [show n.natAbs = n.toNat by omega]; exact h
theorem itoa_decD (n : Int) (h : n ≠ 0) : Lib.itoa n = (if n < 0 then [45] else []) ++ decD n.natAbs := by
  unfold Lib.itoa decD
  by_cases hn : n < 0
  · rw [if_pos hn, if_pos hn, if_neg (by omega)]; rfl
  · rw [if_neg hn, if_neg hn, if_neg (by omega), show n.natAbs = n.toNat by omega]; rfl
theorem itoa_zero : Lib.itoa 0 = [48] := by
  unfold Lib.itoa
  rw [if_neg (by omega), show (0 : Int).toNat = 0 from rfl, Lib.decDigits_one (by omega)]; rfl

theorem one_byte (W : World) (x : Int) (h0 : 0 ≤ x) (h1 : x ≤ 255) :
    (convert 78 9 (.slice (some ⟨W.heap.size, 0, none⟩) 1 1)).run Tryz.prog (W.alloc (.cells #[.int .u8 x] 5)) = .ok (.string (str [UInt8.ofNat x.toNat])) (W.alloc (.cells #[.int .u8 x] 5)) := by
  have h := run_convert_bytes_back (P := Tryz.prog) (W.alloc (.cells #[.int .u8 x] 5)) 78 9 5 ⟨W.heap.size, 0, none⟩ 1 [UInt8.ofNat x.toNat] Tryz.underlying78 Tryz.underlying5 Tryz.underlying9 (fun j hj => by
    have hj0 : j = 0 := by simpa using hj
    subst hj0
    have e : ((UInt8.ofNat x.toNat).toNat : Int) = x := by
      rw [UInt8.toNat_ofNat']
      omega
    have hc : (W.alloc (.cells #[.int .u8 x] 5)).cell? ⟨W.heap.size, 0, none⟩ = some (.int .u8 x) := by simp [World.cell?, World.alloc, -World.alloc_eq]
    rw [show (Addr.add ⟨W.heap.size, 0, none⟩ 0) = ⟨W.heap.size, 0, none⟩ from rfl, hc]
    show _ = some (Value.int .u8 ((UInt8.ofNat x.toNat).toNat : Int))
    rw [e])
  exact h
theorem cat_str (a : List UInt8) (s : ByteArray) : str a ++ s = str (a ++ s.data.toList) := by
  apply eq_list
  rw [str_list]
  simp [str]

set_option maxRecDepth 100000 in
set_option maxHeartbeats 1000000 in
theorem rDigits_any (n : Int) (h0 : -9223372036854775808 ≤ n) (h1 : n ≤ 9223372036854775807) (w : World) :
    Calls Tryz.prog 12 #[.int .i64 n] w fun e w' => e = .returned (.string (str (Lib.itoa n))) ∧ Below w.heap.size w w' := by
  by_cases hz : n = 0
  · subst hz
    have HZ : Hid (Lib.itoa 0 = [48]) := itoa_zero
    go_enter Tryz.func12, Tryz.ntmps12
    go_wp2
    go_ret
    exact ⟨ret_string (by rw [HZ.out]; rfl), Below.refl _ _⟩
  · have hz' : (n == 0) = false := by simp [hz]
    have HI : Hid (Lib.itoa n = (if n < 0 then [45] else []) ++ decD n.natAbs) := itoa_decD n hz
    have HL : Hid ((decD n.natAbs).length ≤ 21) := decD_len n h0 h1
    go_enter Tryz.func12, Tryz.ntmps12
    go_wp2
    go_loopw [0, 4] (fun mv ov wr => ∃ (m : Int) (o : ByteArray), mv = .int .i64 m ∧ ov = .string o ∧ -9223372036854775808 ≤ m ∧ m ≤ 9223372036854775807 ∧ o.size ≤ 21 ∧ Hid (decD m.natAbs ++ o.data.toList = decD n.natAbs) ∧ Hid (Below w.heap.size w wr)) (fun mv _ _ => (intOf mv).natAbs)
    case atStart => exact ⟨n, ⟨#[]⟩, rfl, rfl, h0, h1, by decide, (by simp : decD n.natAbs ++ (⟨#[]⟩ : ByteArray).data.toList = decD n.natAbs), Below.refl _ _⟩
    case round =>
      obtain ⟨m, o, rfl, rfl, m0, m1, hos, hst, hbl⟩ := hrel
      by_cases hm : m = 0
      · subst hm
        have HO : Hid (str (decD n.natAbs) = o) := (by rw [← hst.out]; exact str_self o : str (decD n.natAbs) = o)
        have hsz : (⟨#[45]⟩ : ByteArray).size + o.size ≤ 9223372036854775807 := by show 1 + o.size ≤ _; omega
        by_cases hn : n < 0
        · have HN : Hid (str (Lib.itoa n) = ⟨#[45]⟩ ++ o) := by
            show str (Lib.itoa n) = _
            rw [HI.out, if_pos hn, ← HO.out, show (⟨#[45]⟩ : ByteArray) = str [45] from rfl, cat_str, str_list]
          go_wp2
          go_ret
          exact ⟨ret_string HN.out.symm, hbl.out⟩
        · have HN : Hid (str (Lib.itoa n) = o) := by
            show str (Lib.itoa n) = _
            rw [HI.out, if_neg hn, ← HO.out]; rfl
          go_wp2
          go_ret
          exact ⟨ret_string HN.out.symm, hbl.out⟩
      · have hm' : (m != 0) = true := by simp [hm]
        have HS : Hid (decD m.natAbs = decD (m.natAbs / 10) ++ [UInt8.ofNat (48 + m.natAbs % 10)]) := decD_step _ (by omega)
        have HL2 : Hid ((decD m.natAbs).length + o.size ≤ 21) := by
          have h1 := HL.out
          rw [← hst.out, List.length_append, size_list] at h1
          exact h1
        have HL3 : Hid (1 + o.size ≤ 21) := by
          have h1 := HL2.out
          rw [HS.out, List.length_append] at h1
          simp at h1
          show 1 + o.size ≤ 21
          omega
        have hsz : ∀ c : UInt8, (str [c]).size + o.size ≤ 9223372036854775807 := by intro c; rw [str_size]; simp; omega
        have next : ∀ (q d : Int), q.natAbs = m.natAbs / 10 → 0 ≤ d → d = ((m.natAbs % 10 : Nat) : Int) → decD q.natAbs ++ (str [UInt8.ofNat (48 + d).toNat] ++ o).data.toList = decD n.natAbs := by
          intro q d e1 d0 e2
          rw [cat_str, str_list, e1, ← hst.out, HS.out, List.append_assoc, show (48 + d).toNat = 48 + m.natAbs % 10 by omega]
        have HX : Hid (∀ (q d : Int), q.natAbs = m.natAbs / 10 → 0 ≤ d → d = ((m.natAbs % 10 : Nat) : Int) → decD q.natAbs ++ (str [UInt8.ofNat (48 + d).toNat] ++ o).data.toList = decD n.natAbs) := next
        clear next
        have HZ : Hid (∀ c : UInt8, (str [c] ++ o).size ≤ 21) := by
          intro c
          rw [cat_str, str_size]
          have := HL3.out
          simp
          omega
        rcases (show 0 < m ∨ m < 0 by omega) with hp | hp
        · have hob := one_byte wr (48 + m % 10) (by omega) (by omega)
          have hsz' := hsz (UInt8.ofNat (48 + m % 10).toNat)
          clear hsz
          go_wp2
          go_roundw
          case rel => exact ⟨m / 10, _, rfl, rfl, by omega, by omega, HZ.out _, HX.out (m / 10) (m % 10) (by omega) (by omega) (by omega), hbl.out.alloc hbl.out.size _⟩
          case measure => simp [intOf]; omega
        · obtain ⟨f1, f2, f3, f4⟩ := div_facts m 10 (by omega)
          have f5 : m.tmod 10 ≤ 0 := by
            have := Int.tmod_nonneg 10 (show 0 ≤ -m by omega)
            rw [Int.neg_tmod] at this
            omega
          have HM : Hid ((m.tdiv 10).natAbs < m.natAbs) := (by omega : (m.tdiv 10).natAbs < m.natAbs)
          by_cases hd : m.tmod 10 < 0
          · have hob := one_byte wr (48 + -m.tmod 10) (by omega) (by omega)
            have hsz' := hsz (UInt8.ofNat (48 + -m.tmod 10).toNat)
            clear hsz
            have F : Hid (10 * m.tdiv 10 + m.tmod 10 = m) := f1
            clear f1
            go_wp2
            go_roundw
            case rel =>
              have f1 := F.out
              exact ⟨m.tdiv 10, _, rfl, rfl, by omega, by omega, HZ.out _, HX.out (m.tdiv 10) (-m.tmod 10) (by omega) (by omega) (by omega), hbl.out.alloc hbl.out.size _⟩
            case measure => exact HM.out
          · have hd0 : 0 ≤ m.tmod 10 := by omega
            have hob := one_byte wr (48 + m.tmod 10) (by omega) (by omega)
            have hsz' := hsz (UInt8.ofNat (48 + m.tmod 10).toNat)
            clear hsz
            have F : Hid (10 * m.tdiv 10 + m.tmod 10 = m) := f1
            clear f1
            go_wp2
            go_roundw
            case rel =>
              have f1 := F.out
              exact ⟨m.tdiv 10, _, rfl, rfl, by omega, by omega, HZ.out _, HX.out (m.tdiv 10) (m.tmod 10) (by omega) (by omega) (by omega), hbl.out.alloc hbl.out.size _⟩
            case measure => exact HM.out

end Oc
end Go.Proofs.YtlnlhhobmgiceaaGreatDoor
