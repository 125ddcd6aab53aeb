/- Several texts as one. -/
import Derived.Test.YthfckgdaencagaaGreatDoorMgA1
import Derived.Deep.QuietTactic
import Derived.BigQuiet
/-
  accept.cutWeight, weight, readWeight.
-/
set_option linter.unusedVariables false
set_option linter.unusedSimpArgs false
namespace Go.Proofs.YthfckgdaencagaaGreatDoor
open Go.RowKit Go.Shelf
namespace Ac
open Oc Tg

/-- Where the first q stands; else the end. -/
def qAt (ps : List Prm) : Nat := match ps.findIdx? isQ with | some k => k | none => ps.length
theorem idx_qAt (ps : List Prm) : (idxB isQ ps = -1 ∧ qAt ps = ps.length) ∨ (idxB isQ ps = (qAt ps : Nat) ∧ qAt ps < ps.length) := by
  unfold idxB qAt
  cases h : ps.findIdx? isQ with
  | none => left; exact ⟨rfl, rfl⟩
  | some k =>
    right
    rw [List.findIdx?_eq_some_iff_getElem] at h
    exact ⟨rfl, h.1⟩
theorem wq_at (ps : List Prm) : wq ps = match ps.drop (qAt ps) with | [] => (1000, 0) | p :: _ => qual p.2.1 := by
  unfold wq qAt
  cases h : ps.findIdx? isQ with
  | none =>
    have : ps.find? isQ = none := by
      rw [List.find?_eq_none]
      rw [List.findIdx?_eq_none_iff] at h
      intro x hx
      rw [h x hx]; decide
    rw [this, List.drop_length]
  | some k =>
    have hf := h
    rw [List.findIdx?_eq_some_iff_getElem] at h
    obtain ⟨hk, h1, h2⟩ := h
    have : ps.find? isQ = some ps[k] := by
      rw [List.find?_eq_some_iff_getElem]
      exact ⟨h1, k, hk, rfl, fun j hj => by simpa using h2 j hj⟩
    rw [this]
    dsimp only
    rw [List.drop_eq_getElem_cons hk]
theorem RdP.takeN {g o c n : Nat} {ps : List Prm} {w : World} (h : RdP (.slice (some ⟨g, o, none⟩) ps.length c) ps w) (hn : n ≤ ps.length) : RdP (.slice (some ⟨g, o, none⟩) n c) (ps.take n) w := by
  obtain ⟨a, c', e, h⟩ := h
  injection e with e1 _ e2
  subst e1 e2
  have hl : (ps.take n).length = n := by rw [List.length_take]; omega
  refine ⟨_, c, by rw [hl], ?_⟩
  rcases h with h | ⟨g', o', e', hc, hcell⟩
  · left; rw [h]; simp
  · injection e' with e'
    injection e' with e1 e2
    subst e1 e2
    refine .inr ⟨g, o, rfl, by omega, fun j hj => ?_⟩
    rw [hl] at hj
    have := hcell j (by omega)
    have en : nth (ps.take n) j = nth ps j := by
      unfold nth
      rw [List.getD_eq_getElem?_getD, List.getD_eq_getElem?_getD, List.getElem?_take, if_pos hj]
    rw [en]
    exact this
theorem RdP.dropN {g o c n : Nat} {ps : List Prm} {w : World} (h : RdP (.slice (some ⟨g, o, none⟩) ps.length c) ps w) (hn : n ≤ ps.length) : RdP (.slice (some ⟨g, o + n * 3, none⟩) (ps.length - n) (c - n)) (ps.drop n) w := by
  obtain ⟨a, c', e, h⟩ := h
  injection e with e1 _ e2
  subst e1 e2
  have hl : (ps.drop n).length = ps.length - n := by rw [List.length_drop]
  refine ⟨_, _, by rw [hl], ?_⟩
  rcases h with h | ⟨g', o', e', hc, hcell⟩
  · left; rw [h]; simp
  · injection e' with e'
    injection e' with e1 e2
    subst e1 e2
    refine .inr ⟨g, _, rfl, by omega, fun j hj => ?_⟩
    rw [hl] at hj
    have := hcell (n + j) (by omega)
    have en : nth (ps.drop n) j = nth ps (n + j) := by
      unfold nth
      rw [List.getD_eq_getElem?_getD, List.getD_eq_getElem?_getD, List.getElem?_drop]
    rw [en, show o + n * 3 + j * 3 = o + (n + j) * 3 by omega]
    exact this

set_option maxRecDepth 100000 in
set_option maxHeartbeats 1000000 in
theorem cutWeight_any (v : Value) (ps : List Prm) (hM : EachP maxLen ps) (hl : ps.length ≤ 4294967296) (w : World) (hrd : RdP v ps w) :
    Calls Tryz.prog 28 #[v] w fun e w' => ∃ v1 v2, e = .returned (.tuple #[v1, v2]) ∧ RdP v1 (ps.take (qAt ps)) w' ∧ RdP v2 (ps.drop (qAt ps)) w' ∧ Below w.heap.size w w' := by
  have H := IndexFunc_isQ v ps hM hl w hrd
  have HR : Hid (RdP v ps w) := hrd
  rcases idx_qAt ps with ⟨e1, e2⟩ | ⟨e1, e2⟩
  · rw [e1] at H
    have HQ : Hid (qAt ps = ps.length) := e2
    clear e1 e2 hrd
    go_enter Tryz.func28, Tryz.ntmps28
    go_wp2_with fail
    refine H.mono ?_
    rintro e w2 ⟨rfl, hb2⟩
    go_wp2
    go_ret2
    rw [HQ.out, List.take_length, List.drop_length]
    exact ⟨_, _, rfl, HR.out.below hb2, ⟨_, _, rfl, .inl rfl⟩, hb2⟩
  · rw [e1] at H
    clear e1
    obtain ⟨a, c, rfl, hcs⟩ := hrd
    rcases hcs with h | ⟨g, o, rfl, hlc, _⟩
    · rw [h] at e2; simp at e2
    generalize qAt ps = n at *
    have dn : decide (((n : Nat) : Int) < 0) = false := decide_eq_false (by omega)
    go_enter Tryz.func28, Tryz.ntmps28
    go_wp2_with fail
    refine H.mono ?_
    rintro e w2 ⟨rfl, hb2⟩
    have HB2 : Hid (Below w.heap.size w w2) := hb2
    have HR2 : Hid (RdP (.slice (some ⟨g, o, none⟩) ps.length c) ps w2) := HR.out.below hb2
    clear hb2
    go_wp2_with fail
    go_quiet (fail)
    go_wp2
    go_ret2
    have HR3 := HR2.out.below (w' := w2.drewN nq) ⟨rfl, rfl, rfl, Nat.le_refl _, fun _ _ => rfl⟩
    refine ⟨_, _, rfl, Ac.RdP.takeN HR3 (by omega), Ac.RdP.dropN HR3 (by omega), bel_trans HB2.out ⟨rfl, rfl, rfl, Nat.le_refl _, fun _ _ => rfl⟩⟩

set_option maxRecDepth 100000 in
set_option maxHeartbeats 1000000 in
theorem weight_any (v : Value) (ps : List Prm) (hM : EachP 134217728 ps) (hl : ps.length ≤ 4294967296) (w : World) (hrd : RdP v ps w) (hw : ML w) :
    Calls Tryz.prog 29 #[v] w fun e w' => e = .returned (.tuple #[.int .i64 (match ps with | [] => ((1000 : Int), (0 : Int)) | p :: _ => qual p.2.1).1, .int .i64 (match ps with | [] => ((1000 : Int), (0 : Int)) | p :: _ => qual p.2.1).2]) ∧ Below w.heap.size w w' := by
  obtain ⟨a, c, rfl, hcs⟩ := hrd
  cases ps with
  | nil =>
    go_enter Tryz.func29, Tryz.ntmps29
    go_wp2
    go_ret2
    exact ⟨rfl, Below.refl _ _⟩
  | cons p r =>
    rcases hcs with h | ⟨g, o, rfl, hlc, hcell⟩
    · cases h
    obtain ⟨_, p1, _⟩ := hcell 0 (by simp)
    have en : nth (p :: r) 0 = p := rfl
    rw [en, Nat.zero_mul, Nat.add_zero] at p1
    clear hcell
    have hp := (hM p (by simp)).2
    have HQ : Hid (Calls Tryz.prog 17 #[.string (str p.2.1)] w fun e w' => e = .returned (.tuple #[.int .i64 (qual p.2.1).1, .int .i64 (qual p.2.1).2]) ∧ Below w.heap.size w w') := by
      have := Quality_any (str p.2.1) (by rw [str_size]; omega) w hw
      rw [str_list] at this
      exact this
    dsimp only
    have hlen : (((p :: r).length : Nat) : Int) = (r.length : Int) + 1 := by simp
    have hlz : ((((p :: r).length : Nat) : Int) == 0) = false := by simp; omega
    have hl0 : 0 < (p :: r).length := by simp
    clear hw hM
    generalize (qual p.2.1).1 = q1 at *
    generalize (qual p.2.1).2 = q2 at *
    generalize str p.2.1 = S at *
    generalize (p :: r).length = L at *
    go_enter Tryz.func29, Tryz.ntmps29
    go_wp2_with fail
    refine HQ.out.mono ?_
    rintro e w2 ⟨rfl, hb2⟩
    go_wp2
    go_ret2
    exact ⟨rfl, hb2⟩

theorem wt_none1 (l : List UInt8) (h : (cutP l).isSome = false) : wt l = (([], 0), 10) := by
  unfold wt wrd
  cases hc : cutP l with
  | none => rfl
  | some x => rw [hc] at h; cases h
theorem wt_none2 (l : List UInt8) (h : isTok (cpH l) = false) : wt l = (([], 0), 10) := by
  unfold wt wrd
  unfold cpH at h
  cases hc : cutP l with
  | none => rfl
  | some x =>
    rw [hc] at h
    dsimp only at h ⊢
    rw [h]
    rfl
theorem wt_is (l : List UInt8) (h : (cutP l).isSome = true) (h1 : isTok (cpH l) = true) : wt l = if (wq (cpP l)).2 = 0 then ((lower (cpH l), (wq (cpP l)).1), 0) else (([], 0), (wq (cpP l)).2) := by
  unfold wt wrd
  unfold cpH cpP at *
  cases hc : cutP l with
  | none => rw [hc] at h; cases h
  | some x =>
    rw [hc] at h1
    dsimp only at h1 ⊢
    rw [h1]
    rfl

end Ac
end Go.Proofs.YthfckgdaencagaaGreatDoor

/-
  One range, read.
-/
set_option maxRecDepth 100000
set_option linter.unusedVariables false
set_option linter.unusedSimpArgs false
namespace Go.Proofs.YthfckgdaencagaaGreatDoor
open Go.RowKit Go.Shelf
namespace Ac
open Oc Tg

/-- The block of a slice holds cells of that type. -/
def TyB (v : Value) (T : Nat) (W : World) : Prop := ∀ b, v.ownBlock = some b → ∃ cs fz, W.heap[b]? = some (.cells cs T fz)
theorem TyB.below {v : Value} {T : Nat} {W W' : World} (h : TyB v T W) (b : Below W.heap.size W W') : TyB v T W' := fun k hk => by
  obtain ⟨cs, fz, e⟩ := h k hk
  exact ⟨cs, fz, (b.block _ (Array.getElem?_eq_some_iff.1 e).1).trans e⟩
theorem TyB.own {T B : Nat} {v : Value} {ps : List Prm} {W : World} (h : OwnP T B v ps W) : TyB v T W := fun k hk => by
  rcases h.2 with ⟨rfl, _⟩ | ⟨g, cap, cur, rfl, _, hg, _⟩
  · cases hk
  · have e : g = k := by simpa [Value.ownBlock] using hk
    subst e
    exact ⟨_, _, hg⟩
theorem TyB.as {v v' : Value} {T : Nat} {W : World} (h : TyB v T W) (e : v'.ownBlock = v.ownBlock) : TyB v' T W := fun k hk => h k (by rw [← e]; exact hk)

theorem TyB.ne {v : Value} {T T' p : Nat} {W : World} {cs : Array Value} {fz : Nat × Nat} (h : TyB v T W) (hp : W.heap[p]? = some (.cells cs T' fz)) (hT : T' ≠ T) : v.ownBlock ≠ some p := fun e => by
  obtain ⟨cs', fz', e'⟩ := h p e
  rw [hp] at e'
  simp at e'
  exact hT e'.2.1
theorem TyB.set {v : Value} {T p j : Nat} {W : World} (h : TyB v T W) (hne : v.ownBlock ≠ some p) (u : Value) : TyB v T (W.setCell ⟨p, j, none⟩ u) := fun b hb => by
  obtain ⟨cs, fz, e⟩ := h b hb
  exact ⟨cs, fz, (heap_setCell_other W ⟨p, j, none⟩ b u (fun e' => hne (by rw [hb]; simpa using congrArg some e'))).trans e⟩
theorem RdP.setOther {v : Value} {t : List Prm} {p j : Nat} {W : World} (h : RdP v t W) (hne : v.ownBlock ≠ some p) (u : Value) : RdP v t (W.setCell ⟨p, j, none⟩ u) := by
  obtain ⟨a, c, rfl, h⟩ := h
  refine ⟨a, c, rfl, ?_⟩
  rcases h with h | ⟨g, o, rfl, hc, hcell⟩
  · exact .inl h
  · have hgp : g ≠ p := fun e => hne (by rw [e]; rfl)
    have keep : ∀ k, (W.setCell ⟨p, j, none⟩ u).cell? ⟨g, k, none⟩ = W.cell? ⟨g, k, none⟩ := fun k => World.cell?_of_block (heap_setCell_other W ⟨p, j, none⟩ g u (fun e' => hgp (by simpa using e')))
    refine .inr ⟨g, o, rfl, hc, fun i hi => ?_⟩
    obtain ⟨h1, h2, h3⟩ := hcell i hi
    exact ⟨(keep _).trans h1, (keep _).trans h2, (keep _).trans h3⟩

set_option maxHeartbeats 1000000 in
theorem cutWeight2_any (v : Value) (ps : List Prm) (hM : EachP maxLen ps) (hl : ps.length ≤ 4294967296) (w : World) (hrd : RdP v ps w) :
    Calls Tryz.prog 28 #[v] w fun e w' => ∃ v1 v2, e = .returned (.tuple #[v1, v2]) ∧ RdP v1 (ps.take (qAt ps)) w' ∧ v1.ownBlock = v.ownBlock ∧ RdP v2 (ps.drop (qAt ps)) w' ∧ Below w.heap.size w w' := by
  have H := IndexFunc_isQ v ps hM hl w hrd
  have HR : Hid (RdP v ps w) := hrd
  rcases idx_qAt ps with ⟨e1, e2⟩ | ⟨e1, e2⟩
  · rw [e1] at H
    have HQ : Hid (qAt ps = ps.length) := e2
    clear e1 e2 hrd
    go_enter Tryz.func28, Tryz.ntmps28
    go_wp2_with fail
    refine H.mono ?_
    rintro e w2 ⟨rfl, hb2⟩
    go_wp2
    go_ret2
    rw [HQ.out, List.take_length, List.drop_length]
    exact ⟨_, _, rfl, HR.out.below hb2, rfl, ⟨_, _, rfl, .inl rfl⟩, hb2⟩
  · rw [e1] at H
    clear e1
    obtain ⟨a, c, rfl, hcs⟩ := hrd
    rcases hcs with h | ⟨g, o, rfl, hlc, _⟩
    · rw [h] at e2; simp at e2
    generalize qAt ps = n at *
    have dn : decide (((n : Nat) : Int) < 0) = false := decide_eq_false (by omega)
    go_enter Tryz.func28, Tryz.ntmps28
    go_wp2_with fail
    refine H.mono ?_
    rintro e w2 ⟨rfl, hb2⟩
    have HB2 : Hid (Below w.heap.size w w2) := hb2
    have HR2 : Hid (RdP (.slice (some ⟨g, o, none⟩) ps.length c) ps w2) := HR.out.below hb2
    clear hb2
    go_wp2_with fail
    go_quiet (fail)
    go_wp2
    go_ret2
    have HR3 := HR2.out.below (w' := w2.drewN nq) ⟨rfl, rfl, rfl, Nat.le_refl _, fun _ _ => rfl⟩
    exact ⟨_, _, rfl, Ac.RdP.takeN HR3 (by omega), rfl, Ac.RdP.dropN HR3 (by omega), bel_trans HB2.out ⟨rfl, rfl, rfl, Nat.le_refl _, fun _ _ => rfl⟩⟩

theorem tyB_nil (T : Nat) (W : World) : TyB (.slice none 0 0) T W := fun b hb => by cases hb
/-- A range, plainly. -/
def rgR (l : List UInt8) : (Med × Int) × Int :=
  if (med l).isSome = false ∨ ((str (mdT (med l))).toList == [42] && (str (mdS (med l))).toList != [42]) = true ∨ ((mdP (med l)).take (qAt (mdP (med l)))).any noVal = true then ((([], [], []), 0), 72)
  else if (wq (mdP (med l))).2 ≠ 0 then ((([], [], []), 0), (wq (mdP (med l))).2)
  else (((mdT (med l), mdS (med l), (mdP (med l)).take (qAt (mdP (med l)))), (wq (mdP (med l))).1), 0)

theorem set4 {W : World} {p : Nat} {x y z u a b c d : Value} {T : TypeId} (h : W.heap[p]? = some (.cells #[x, y, z, u] T (0, 0))) :
    ((((W.setCell ⟨p, 0, none⟩ a).setCell ⟨p, 1, none⟩ b).setCell ⟨p, 2, none⟩ c).setCell ⟨p, 3, none⟩ d).heap[p]? = some (.cells #[a, b, c, d] T (0, 0)) := by
  have h1 := heap_setCell_same W p 0 #[x, y, z, u] T a h
  have h2 := heap_setCell_same _ p 1 _ T b h1
  have h3 := heap_setCell_same _ p 2 _ T c h2
  have h4 := heap_setCell_same _ p 3 _ T d h3
  exact h4
theorem cz4 {W : World} {p : Nat} {x y z u : Value} {T : TypeId} (h : W.heap[p]? = some (.cells #[x, y, z, u] T (0, 0))) : W.cell? ⟨p, 0, none⟩ = some x ∧ W.cell? ⟨p, 1, none⟩ = some y ∧ W.cell? ⟨p, 2, none⟩ = some z ∧ W.cell? ⟨p, 3, none⟩ = some u :=
  ⟨Lib.cell_of_heap h 0, Lib.cell_of_heap h 1, Lib.cell_of_heap h 2, Lib.cell_of_heap h 3⟩
theorem bl4 {x W : World} (h : Below x.heap.size x W) (a b c d : Value) : Below x.heap.size x ((((W.setCell ⟨x.heap.size, 0, none⟩ a).setCell ⟨x.heap.size, 1, none⟩ b).setCell ⟨x.heap.size, 2, none⟩ c).setCell ⟨x.heap.size, 3, none⟩ d) :=
  (((h.setCell (p := ⟨x.heap.size, 0, none⟩) (Nat.le_refl _) a).setCell (p := ⟨x.heap.size, 1, none⟩) (Nat.le_refl _) b).setCell (p := ⟨x.heap.size, 2, none⟩) (Nat.le_refl _) c).setCell (p := ⟨x.heap.size, 3, none⟩) (Nat.le_refl _) d

set_option maxHeartbeats 4000000 in
theorem readRange_any (s : ByteArray) (hs : s.size ≤ 134217728) (w : World) (hw : Env w) :
    Calls Tryz.prog 12 #[.string s] w fun e w' => ∃ a n c, e = .returned (.tuple #[.agg #[.string (str (rgR s.data.toList).1.1.1), .string (str (rgR s.data.toList).1.1.2.1), .slice a n c, .int .i64 (rgR s.data.toList).1.2], .int .i64 (rgR s.data.toList).2]) ∧ RdP (.slice a n c) (rgR s.data.toList).1.1.2.2 w' ∧ TyB (.slice a n c) 95 w' ∧ Below w.heap.size w w' := by
  obtain ⟨w2, hw2⟩ : ∃ w2, w2 = w.alloc (.cells #[.string ⟨#[]⟩, .string ⟨#[]⟩, .slice none 0 0, .int .i64 0] 48) := ⟨_, rfl⟩
  have HR1 : Hid (w2.heap[w.heap.size]? = some (.cells #[.string ⟨#[]⟩, .string ⟨#[]⟩, .slice none 0 0, .int .i64 0] 48 (0, 0))) := by
    show _ = _; rw [hw2]; exact heap_alloc_new w _
  have hb2 : Below w.heap.size w w2 := by rw [hw2]; exact (Below.refl _ w).alloc (Nat.le_refl _) _
  have hz2 : w.heap.size < w2.heap.size := by rw [hw2]; simp
  have HB2 : Hid (Below w.heap.size w w2) := hb2
  have HE : Hid (∀ W, Below w2.heap.size w2 W → Env W) := fun W b => hw.below (bel_trans hb2 b)
  clear hb2 hw
  obtain ⟨e1, e2, _, _⟩ := med_bd s.data.toList
  rw [size_list] at e1 e2
  have HM : Hid (∀ W, Env W → Calls Tryz.prog 18 #[.string s] W fun e w' => ∃ v, e = .returned (.tuple #[.agg #[.string (str (mdT (med s.data.toList))), .string (str (mdS (med s.data.toList))), v], .bool (med s.data.toList).isSome]) ∧ OwnP 95 (World.heap W).size v (mdP (med s.data.toList)) w' ∧ Below (World.heap W).size W w') := fun W h => readMedia_any s hs W h
  have HCW : Hid (∀ v W, RdP v (mdP (med s.data.toList)) W → Calls Tryz.prog 28 #[v] W fun e w' => ∃ v1 v2, e = .returned (.tuple #[v1, v2]) ∧ RdP v1 ((mdP (med s.data.toList)).take (qAt (mdP (med s.data.toList)))) w' ∧ v1.ownBlock = v.ownBlock ∧ RdP v2 ((mdP (med s.data.toList)).drop (qAt (mdP (med s.data.toList)))) w' ∧ Below (World.heap W).size W w') := fun v W h => cutWeight2_any v _ (e1.mono (by unfold maxLen; omega)) (by omega) W h
  have HAV : Hid (∀ v W, RdP v ((mdP (med s.data.toList)).take (qAt (mdP (med s.data.toList)))) W → Calls Tryz.prog 20 #[v] W fun e w' => e = .returned (.bool (!((mdP (med s.data.toList)).take (qAt (mdP (med s.data.toList)))).any noVal)) ∧ Below (World.heap W).size W w') := fun v W h => allValued_any v _ (fun p hp => (e1.mono (by unfold maxLen; omega)) p (List.mem_of_mem_take hp)) (by rw [List.length_take]; omega) W h
  have HWt : Hid (∀ v W, RdP v ((mdP (med s.data.toList)).drop (qAt (mdP (med s.data.toList)))) W → ML W → Calls Tryz.prog 29 #[v] W fun e w' => e = .returned (.tuple #[.int .i64 (wq (mdP (med s.data.toList))).1, .int .i64 (wq (mdP (med s.data.toList))).2]) ∧ Below (World.heap W).size W w') := fun v W h hm => by
    have := weight_any v ((mdP (med s.data.toList)).drop (qAt (mdP (med s.data.toList)))) (fun p hp => by have := e1 p (List.mem_of_mem_drop hp); omega) (by rw [List.length_drop]; omega) W h hm
    rw [wq_at]
    exact this
  have N1 : Hid ((med s.data.toList).isSome = false ∨ ((str (mdT (med s.data.toList))).toList == [42] && (str (mdS (med s.data.toList))).toList != [42]) = true ∨ ((mdP (med s.data.toList)).take (qAt (mdP (med s.data.toList)))).any noVal = true → rgR s.data.toList = ((([], [], []), 0), 72)) := (fun h => by unfold rgR; rw [if_pos h] : _ → _)
  have N2 : Hid (¬ ((med s.data.toList).isSome = false ∨ ((str (mdT (med s.data.toList))).toList == [42] && (str (mdS (med s.data.toList))).toList != [42]) = true ∨ ((mdP (med s.data.toList)).take (qAt (mdP (med s.data.toList)))).any noVal = true) → (wq (mdP (med s.data.toList))).2 ≠ 0 → rgR s.data.toList = ((([], [], []), 0), (wq (mdP (med s.data.toList))).2)) := (fun h h2 => by unfold rgR; rw [if_neg h, if_pos h2] : _ → _ → _)
  have N3 : Hid (¬ ((med s.data.toList).isSome = false ∨ ((str (mdT (med s.data.toList))).toList == [42] && (str (mdS (med s.data.toList))).toList != [42]) = true ∨ ((mdP (med s.data.toList)).take (qAt (mdP (med s.data.toList)))).any noVal = true) → (wq (mdP (med s.data.toList))).2 = 0 → rgR s.data.toList = (((mdT (med s.data.toList), mdS (med s.data.toList), (mdP (med s.data.toList)).take (qAt (mdP (med s.data.toList)))), (wq (mdP (med s.data.toList))).1), 0)) := (fun h h2 => by unfold rgR; rw [if_neg h, if_neg (by simpa using h2)] : _ → _ → _)
  clear e1 e2
  generalize rgR s.data.toList = RG at *
  generalize med s.data.toList = MD at *
  generalize hmb : MD.isSome = mb at *
  generalize mdP MD = ps at *
  generalize (wq ps).1 = q1 at *
  generalize (wq ps).2 = q2 at *
  generalize ps.drop (qAt ps) = PD at *
  generalize ps.take (qAt ps) = PT at *
  generalize hnv : PT.any noVal = nv at *
  generalize mdT MD = TT at *
  generalize mdS MD = SS at *
  clear hmb
  go_enter Tryz.func12, Tryz.ntmps12
  go_wp2_with fail
  rw [← hw2]
  refine (HM.out _ (HE.out _ (Below.refl _ _))).mono ?_
  rintro e w3 ⟨v, rfl, ho, hb3⟩
  have HO3 : Hid (RdP v ps w3) := OwnP.rd ho
  have HT3 : Hid (TyB v 95 w3) := TyB.own ho
  have HB3 : Hid (Below w2.heap.size w2 w3) := hb3
  clear hb3 ho hw2
  obtain ⟨va, vc, rfl, _⟩ := HO3.out
  obtain ⟨w4, hw4⟩ : ∃ w4, w4 = w3.alloc (.cells #[.string (str TT), .string (str SS), .slice va ps.length vc] 35) := ⟨_, rfl⟩
  have HX4 : Hid (w4.heap[w3.heap.size]? = some (.cells #[.string (str TT), .string (str SS), .slice va ps.length vc] 35 (0, 0))) := by show _ = _; rw [hw4]; exact heap_alloc_new w3 _
  have hb4 : Below w3.heap.size w3 w4 := by rw [hw4]; exact (Below.refl _ w3).alloc (Nat.le_refl _) _
  have HB4 : Hid (Below w2.heap.size w2 w4) := bel_trans HB3.out hb4
  have HO4 : Hid (RdP (.slice va ps.length vc) ps w4) := HO3.out.below hb4
  have HT4 : Hid (TyB (.slice va ps.length vc) 95 w4) := HT3.out.below hb4
  clear hb4 HO3 HT3
  have x2 := Lib.cell_of_heap HX4.out 2
  simp only [List.getElem?_toArray, List.getElem?_cons_zero, List.getElem?_cons_succ] at x2
  go_wp2_with fail
  rw [← hw4]
  clear hw4
  refine (HCW.out _ _ HO4.out).mono ?_
  rintro e w5 ⟨v1, v2, rfl, h1, hob, h2, hb5⟩
  have HP5 : Hid (RdP v1 PT w5) := h1
  have HQ5 : Hid (RdP v2 PD w5) := h2
  have HT5 : Hid (TyB v1 95 w5) := (HT4.out.below hb5).as hob
  have HX5 : Hid (w5.heap[w3.heap.size]? = some (.cells #[.string (str TT), .string (str SS), .slice va ps.length vc] 35 (0, 0))) := (hb5.block _ (Array.getElem?_eq_some_iff.1 HX4.out).1).trans HX4.out
  have HB5 : Hid (Below w2.heap.size w2 w5) := bel_trans HB4.out hb5
  have hz3 : w2.heap.size ≤ w3.heap.size := HB3.out.size
  clear h1 h2 hob hb5 x2 HX4 HB4 HO4 HT4 HB3
  obtain ⟨a1, c1, rfl, _⟩ := HP5.out
  obtain ⟨a2, c2, rfl, _⟩ := HQ5.out
  have HZ : Hid (∀ W, Below w2.heap.size w2 W → W.heap[w.heap.size]? = some (.cells #[.string ⟨#[]⟩, .string ⟨#[]⟩, .slice none 0 0, .int .i64 0] 48 (0, 0))) := fun W b => (b.block _ hz2).trans HR1.out
  have x0 := Lib.cell_of_heap HX5.out 0
  have x1 := Lib.cell_of_heap HX5.out 1
  have x2 := Lib.cell_of_heap HX5.out 2
  simp only [List.getElem?_toArray, List.getElem?_cons_zero, List.getElem?_cons_succ] at x0 x1 x2
  have hways : mb = false ∨ (mb = true ∧ ((str TT).toList == [42]) = true ∧ ((str SS).toList == [42]) = false) ∨ (mb = true ∧ ((str TT).toList == [42]) = true ∧ ((str SS).toList == [42]) = true) ∨ (mb = true ∧ ((str TT).toList == [42]) = false) := by
    cases mb
    · exact .inl rfl
    · right
      cases (str TT).toList == [42]
      · exact .inr (.inr ⟨rfl, rfl⟩)
      · cases (str SS).toList == [42]
        · exact .inl ⟨rfl, rfl, rfl⟩
        · exact .inr (.inl ⟨rfl, rfl, rfl⟩)
  have fz := HZ.out w5 HB5.out
  have g0 := Lib.frozen_of_heap fz 0
  have g1 := Lib.frozen_of_heap fz 1
  have g2 := Lib.frozen_of_heap fz 2
  have g3 := Lib.frozen_of_heap fz 3
  obtain ⟨y0, y1, y2, y3⟩ := cz4 fz
  have HS : Hid (_ ∧ _ ∧ _ ∧ _) := cz4 (set4 (a := .string ⟨#[]⟩) (b := .string ⟨#[]⟩) (c := .slice none 0 0) (d := .int .i64 0) fz)
  clear fz
  have hsB : ((str SS).toList != [42]) = !((str SS).toList == [42]) := rfl
  rcases hways with rfl | ⟨rfl, hA, hB⟩ | ⟨rfl, hA, hB⟩ | ⟨rfl, hA⟩
  · have HM : Hid (RG = ((([], [], []), 0), 72)) := N1.out (.inl rfl)
    go_wp2
    refine bodyPost_ret (v := .tuple #[.agg #[.string ⟨#[]⟩, .string ⟨#[]⟩, .slice none 0 0, .int .i64 0], .int .i64 72]) (by simp [results, Tryz.results12, go_sem, HS.out.1, HS.out.2.1, HS.out.2.2.1, HS.out.2.2.2]) rfl ?_
    rw [HM.out]
    exact ⟨none, 0, 0, rfl, ⟨none, 0, rfl, .inl rfl⟩, tyB_nil _ _, bl4 (bel_trans HB2.out HB5.out) _ _ _ _⟩
  · have HM : Hid (RG = ((([], [], []), 0), 72)) := N1.out (.inr (.inl (by rw [hA, hsB, hB]; rfl)))
    rw [hB] at hsB
    go_wp2
    refine bodyPost_ret (v := .tuple #[.agg #[.string ⟨#[]⟩, .string ⟨#[]⟩, .slice none 0 0, .int .i64 0], .int .i64 72]) (by simp [results, Tryz.results12, go_sem, HS.out.1, HS.out.2.1, HS.out.2.2.1, HS.out.2.2.2]) rfl ?_
    rw [HM.out]
    exact ⟨none, 0, 0, rfl, ⟨none, 0, rfl, .inl rfl⟩, tyB_nil _ _, bl4 (bel_trans HB2.out HB5.out) _ _ _ _⟩
  all_goals
    have HNo : Hid (¬ (true = false ∨ ((str TT).toList == [42] && (str SS).toList != [42]) = true ∨ nv = true) ↔ nv = false) := (by
      rw [hA]
      first
        | (rw [hsB, hB]; cases nv <;> simp)
        | (cases nv <;> simp) : _ ↔ _)
    first
      | rw [hB] at hsB
      | skip
    go_wp2_with fail
    refine (HAV.out _ _ HP5.out).mono ?_
    rintro e w6 ⟨rfl, hb6⟩
    have HB6 : Hid (Below w2.heap.size w2 w6) := bel_trans HB5.out hb6
    have HP6 : Hid (RdP (.slice a1 PT.length c1) PT w6) := HP5.out.below hb6
    have HQ6 : Hid (RdP (.slice a2 PD.length c2) PD w6) := HQ5.out.below hb6
    have HT6 : Hid (TyB (.slice a1 PT.length c1) 95 w6) := HT5.out.below hb6
    have HX6 : Hid (w6.heap[w3.heap.size]? = some (.cells #[.string (str TT), .string (str SS), .slice va ps.length vc] 35 (0, 0))) := (hb6.block _ (Array.getElem?_eq_some_iff.1 HX5.out).1).trans HX5.out
    clear hb6 g0 g1 g2 g3 y0 y1 y2 y3 HS x0 x1 x2
    have fz := HZ.out w6 HB6.out
    have g0 := Lib.frozen_of_heap fz 0
    have g1 := Lib.frozen_of_heap fz 1
    have g2 := Lib.frozen_of_heap fz 2
    have g3 := Lib.frozen_of_heap fz 3
    obtain ⟨y0, y1, y2, y3⟩ := cz4 fz
    have HS : Hid (_ ∧ _ ∧ _ ∧ _) := cz4 (set4 (a := .string ⟨#[]⟩) (b := .string ⟨#[]⟩) (c := .slice none 0 0) (d := .int .i64 0) fz)
    clear fz
    cases nv with
    | true =>
      have HM : Hid (RG = ((([], [], []), 0), 72)) := N1.out (.inr (.inr rfl))
      go_wp2
      refine bodyPost_ret (v := .tuple #[.agg #[.string ⟨#[]⟩, .string ⟨#[]⟩, .slice none 0 0, .int .i64 0], .int .i64 72]) (by simp [results, Tryz.results12, go_sem, HS.out.1, HS.out.2.1, HS.out.2.2.1, HS.out.2.2.2]) rfl ?_
      rw [HM.out]
      exact ⟨none, 0, 0, rfl, ⟨none, 0, rfl, .inl rfl⟩, tyB_nil _ _, bl4 (bel_trans HB2.out HB6.out) _ _ _ _⟩
    | false =>
      have hnv0 := HNo.out.2 rfl
      go_wp2_with fail
      refine (HWt.out _ _ HQ6.out (HE.out _ HB6.out).2).mono ?_
      rintro e w7 ⟨rfl, hb7⟩
      have HB7 : Hid (Below w2.heap.size w2 w7) := bel_trans HB6.out hb7
      have HP7 : Hid (RdP (.slice a1 PT.length c1) PT w7) := HP6.out.below hb7
      have HT7 : Hid (TyB (.slice a1 PT.length c1) 95 w7) := HT6.out.below hb7
      have HX7 : Hid (w7.heap[w3.heap.size]? = some (.cells #[.string (str TT), .string (str SS), .slice va ps.length vc] 35 (0, 0))) := (hb7.block _ (Array.getElem?_eq_some_iff.1 HX6.out).1).trans HX6.out
      clear hb7 g0 g1 g2 g3 y0 y1 y2 y3 HS
      have fz := HZ.out w7 HB7.out
      by_cases hq : q2 = 0
      · have HM : Hid (RG = (((TT, SS, PT), q1), 0)) := N3.out hnv0 hq
        have hqq : (q2 != 0) = false := by simp [hq]
        have hne3 : w.heap.size ≠ w3.heap.size := by omega
        have n1 := HT7.out.ne HX7.out (by decide)
        have n2 := HT7.out.ne fz (by decide)
        have f2 := Lib.frozen_of_heap HX7.out 2
        have x0 := Lib.cell_of_heap HX7.out 0
        have x1 := Lib.cell_of_heap HX7.out 1
        have x2 := Lib.cell_of_heap HX7.out 2
        have hX8 := heap_setCell_same w7 w3.heap.size 2 _ _ (.slice a1 PT.length c1) HX7.out
        have z0 := Lib.cell_of_heap hX8 0
        have z1 := Lib.cell_of_heap hX8 1
        have z2 := Lib.cell_of_heap hX8 2
        have fz8 := (heap_setCell_other w7 ⟨w3.heap.size, 2, none⟩ w.heap.size (.slice a1 PT.length c1) (by simpa using hne3)).trans fz
        have g0 := Lib.frozen_of_heap fz8 0
        have g1 := Lib.frozen_of_heap fz8 1
        have g2 := Lib.frozen_of_heap fz8 2
        have g3 := Lib.frozen_of_heap fz8 3
        obtain ⟨y0, y1, y2, y3⟩ := cz4 fz8
        have HS : Hid (_ ∧ _ ∧ _ ∧ _) := cz4 (set4 (a := .string (str TT)) (b := .string (str SS)) (c := .slice a1 PT.length c1) (d := .int .i64 q1) fz8)
        have HB8 : Hid (Below w.heap.size w (w7.setCell ⟨w3.heap.size, 2, none⟩ (.slice a1 PT.length c1))) := (bel_trans HB2.out HB7.out).setCell (p := ⟨w3.heap.size, 2, none⟩) (by simp; omega) _
        have HP8 : Hid (RdP (.slice a1 PT.length c1) PT (w7.setCell ⟨w3.heap.size, 2, none⟩ (.slice a1 PT.length c1))) := RdP.setOther HP7.out n1 _
        have HT8 : Hid (TyB (.slice a1 PT.length c1) 95 (w7.setCell ⟨w3.heap.size, 2, none⟩ (.slice a1 PT.length c1))) := HT7.out.set n1 _
        have HN2 : Hid ((Value.slice a1 PT.length c1).ownBlock ≠ some w.heap.size) := n2
        simp at x0 x1 x2 z0 z1 z2
        clear fz fz8 hX8 n1 n2
        go_wp2
        refine bodyPost_ret (v := .tuple #[.agg #[.string (str TT), .string (str SS), .slice a1 PT.length c1, .int .i64 q1], .int .i64 0]) (by simp [results, Tryz.results12, go_sem, HS.out.1, HS.out.2.1, HS.out.2.2.1, HS.out.2.2.2]) rfl ?_
        rw [HM.out]
        refine ⟨a1, PT.length, c1, rfl, ?_, ?_, bl4 HB8.out _ _ _ _⟩
        · exact RdP.setOther (RdP.setOther (RdP.setOther (RdP.setOther HP8.out HN2.out _) HN2.out _) HN2.out _) HN2.out _
        · exact (((HT8.out.set HN2.out _).set HN2.out _).set HN2.out _).set HN2.out _
      · have HM : Hid (RG = ((([], [], []), 0), q2)) := N2.out hnv0 hq
        have hqq : (q2 != 0) = true := by simp [hq]
        have g0 := Lib.frozen_of_heap fz 0
        have g1 := Lib.frozen_of_heap fz 1
        have g2 := Lib.frozen_of_heap fz 2
        have g3 := Lib.frozen_of_heap fz 3
        obtain ⟨y0, y1, y2, y3⟩ := cz4 fz
        have HS : Hid (_ ∧ _ ∧ _ ∧ _) := cz4 (set4 (a := .string ⟨#[]⟩) (b := .string ⟨#[]⟩) (c := .slice none 0 0) (d := .int .i64 0) fz)
        clear fz
        go_wp2
        refine bodyPost_ret (v := .tuple #[.agg #[.string ⟨#[]⟩, .string ⟨#[]⟩, .slice none 0 0, .int .i64 0], .int .i64 q2]) (by simp [results, Tryz.results12, go_sem, HS.out.1, HS.out.2.1, HS.out.2.2.1, HS.out.2.2.2]) rfl ?_
        rw [HM.out]
        exact ⟨none, 0, 0, rfl, ⟨none, 0, rfl, .inl rfl⟩, tyB_nil _ _, bl4 (bel_trans HB2.out HB7.out) _ _ _ _⟩

end Ac
end Go.Proofs.YthfckgdaencagaaGreatDoor
