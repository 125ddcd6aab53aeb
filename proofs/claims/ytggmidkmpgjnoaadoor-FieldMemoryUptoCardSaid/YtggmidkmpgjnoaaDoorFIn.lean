/-
  slices.Insert of one field into a row of the call's own.
-/
import Derived.Test.YtggmidkmpgjnoaaDoorMgK
import Derived.Lib.AppendZerosOnto
import Derived.Lib.Overlaps
import Derived.Lib.SliceRun
import Derived.Laws.CopyRow
import Derived.Laws.Externs
import Derived.Deep.RegionLaw
import Derived.Shelf.RegionOpenPlain
import Derived.WalkKit
set_option linter.unusedVariables false
set_option linter.unusedSimpArgs false
namespace Go.Proofs.YtggmidkmpgjnoaaDoor
open Go.RowKit Go.Shelf Go.Lib
namespace Fd
open Oc Tg

theorem wp_copy_at (w : World) {o : Oper} {a : Act} {K : Act → World → Prop} {Q : Exit → Act → World → Prop} (d s : Operand) (t t' : TypeId)
    (ho : o.op = .call { callee := .builtin .copy, args := #[d, s], argTypes := #[t, t'] }) (v u : Value) (hd : a.eval d = v) (hs : a.eval s = u) {v' : Value} {w' : World}
    (hr : (Builtin.copy_ #[t, t'] o.type #[v, u]).run Tryd.prog w = .ok v' w') (h : K (a.put o.dst v') w') : o.wp Tryd.prog a w K Q := by
  unfold Oper.wp execOp
  simp only [ho, resolve, invoke, builtin, Sem.run_bind, Sem.run_pure, Result.andThen_ok, List.map_toArray, List.map_cons, List.map_nil, hd, hs, hr]
  exact h
theorem wpList_copy_at (w : World) {ops : Array Oper} {rest : List Oper} {o : Oper} {a : Act} {Q : Exit → Act → World → Prop} (hgd : o.guard = none) (d s : Operand) (t t' : TypeId)
    (ho : o.op = .call { callee := .builtin .copy, args := #[d, s], argTypes := #[t, t'] }) (v u : Value) (hd : a.eval d = v) (hs : a.eval s = u) {v' : Value} {w' : World}
    (hr : (Builtin.copy_ #[t, t'] o.type #[v, u]).run Tryd.prog w = .ok v' w') (h : wpList Tryd.prog ops Q rest (a.put o.dst v') w') : wpList Tryd.prog ops Q (o :: rest) a w :=
  wpList_plain hgd fun _ hK => wp_copy_at w d s t t' ho v u hd hs hr (hK _ _ h)
theorem step_copy_at {ops : Array Oper} {o : Oper} {a : Act} {w : World} {K : Act → World → Prop} {Q : Exit → Act → World → Prop} {E : Prop}
    (hg : o.guard = none) (d x : Operand) (dT sT : TypeId) (hop : o.op = Op.call { callee := Callee.builtin Builtin.copy, args := #[d, x], argTypes := #[dT, sT] })
    (v u : Value) (hd : a.eval d = v) (hx : a.eval x = u) {v' : Value} {w' : World} (hr : (Builtin.copy_ #[dT, sT] o.type #[v, u]).run Tryd.prog w = .ok v' w') (hK : K (a.put o.dst v') w') :
    if Region.wanted o (yielded ops a.tmps) = true then Oper.wp Tryd.prog o a w K Q else E := by
  have hw : Region.wanted o (yielded ops a.tmps) = true := by simp [Region.wanted, hg]
  rw [if_pos hw]
  unfold Oper.wp
  simp [execOp, hop, resolve, invoke, builtin, hd, hx, hr, Result.andThen]
  exact hK

theorem run_copyF (w : World) (ty : TypeId) (g o dLen dCap : Nat) (a : Addr) (sLen sCap k : Nat) (cur : Array Value) (cs : List Value) (hg : w.heap[g]? = some (.cells cur 46 (0, 0))) (hk : Nat.min sLen dLen = k) (hn : cs.length = k * 2)
    (hsrc : ∀ j v, cs[j]? = some v → w.cell? (a.add j) = some v) (hfit : o + cs.length ≤ cur.size) (h1 : ∀ v ∈ cs, v.oneCell' = true) :
    (Builtin.copy_ #[22, 22] ty #[.slice (some ⟨g, o, none⟩) dLen dCap, .slice (some a) sLen sCap]).run Tryd.prog w = .ok (goInt k) (w.setRow g (cur.toList.take o ++ cs ++ cur.toList.drop (o + cs.length)).toArray) := by
  obtain ⟨i0, hi, hz0, hz1, hz2⟩ := info_parts infoF
  have hl := run_loadCells_list (P := Tryd.prog) w a cs hsrc
  have hst := run_storeCells_at Tryd.prog g o 46 cs 0 cur w hg (by simpa using hfit) h1
  rw [hn] at hl
  simp [Builtin.copy_, run_underlying Tryd.underlying22, Builtin.lenOf, Builtin.firstCells, sizeOf, typeInfo, hi, hz1, hk, hl, hst]

theorem encF_app (a b : List Fl) : encF (a ++ b) = encF a ++ encF b := by unfold encF; rw [List.flatMap_append]
theorem encF_one (t : List Fl) : ∀ v ∈ encF t, v.oneCell' = true := fun v hv => by
  unfold encF encF1 at hv
  simp at hv
  obtain ⟨x, y, _, h⟩ := hv
  rcases h with rfl | rfl <;> rfl
theorem encF_take (t : List Fl) (i : Nat) (hi : i ≤ t.length) : (encF t).take (i * 2) = encF (t.take i) := by
  have h := encF_app (t.take i) (t.drop i)
  rw [List.take_append_drop] at h
  rw [h, List.take_left' (by rw [encF_len, List.length_take]; omega)]
theorem encF_drop (t : List Fl) (i : Nat) (hi : i ≤ t.length) : (encF t).drop (i * 2) = encF (t.drop i) := by
  have h := encF_app (t.take i) (t.drop i)
  rw [List.take_append_drop] at h
  rw [h, List.drop_left' (by rw [encF_len, List.length_take]; omega)]

/-- What lies in the row behind both copies. -/
theorem put_mid (cur : List Value) (A F C R : List Value) (n : Nat) (hA : cur.take A.length = A) (hn : A.length + F.length + C.length ≤ cur.length) :
    let A1 := cur.take (A.length + F.length) ++ C ++ cur.drop (A.length + F.length + C.length)
    A1.take A.length ++ F ++ A1.drop (A.length + F.length) = A ++ F ++ C ++ cur.drop (A.length + F.length + C.length) := by
  intro A1
  have h1 : A1.take A.length = A := by
    show (cur.take (A.length + F.length) ++ C ++ cur.drop (A.length + F.length + C.length)).take A.length = A
    rw [List.append_assoc, List.take_append_of_le_length (by rw [List.length_take]; omega), List.take_take, Nat.min_eq_left (by omega), hA]
  have h2 : A1.drop (A.length + F.length) = C ++ cur.drop (A.length + F.length + C.length) := by
    show (cur.take (A.length + F.length) ++ C ++ cur.drop (A.length + F.length + C.length)).drop (A.length + F.length) = _
    rw [List.append_assoc, List.drop_left' (by rw [List.length_take]; omega)]
  rw [h1, h2]
  simp

theorem own_set {w : World} {B g n cap : Nat} {cur : Array Value} {T : Nat} (hb : B ≤ g) (hg : w.heap[g]? = some (.cells cur T (0, 0))) (new : Array Value) (t : List Fl) (hs : new.size = cap * 2) (hn : t.length = n) (hc : n ≤ cap) (hm : cap ≤ maxLen) (ht : new.toList.take (n * 2) = encF t) : OwnF T B (.slice (some ⟨g, 0, none⟩) n cap) t (w.setRow g new) := by
  subst hn
  exact ⟨encF_len t, .inr ⟨g, cap, new, rfl, hb, setRow_heap w g cur new T _ hg, hc, hm, hs, ht⟩⟩

set_option maxRecDepth 100000 in
set_option maxHeartbeats 4000000 in
/-- At the end. -/
theorem Insert_end (B : Nat) (v : Value) (t : List Fl) (f : Fl) (vb : Nat) (w : World) (hown : OwnF 46 B v t w) (hvb : w.heap[vb]? = some (.cells #[.string (str f.1), .string (str f.2)] 46 (0, 0))) (hB : B ≤ w.heap.size) (hl : t.length ≤ 16777216) :
    Calls Tryd.prog 30 #[v, .int .i64 (t.length : Nat), .slice (some ⟨vb, 0, none⟩) 1 1] w fun e w' => ∃ u, e = .returned u ∧ OwnF 46 B u (t ++ [f]) w' ∧ Below B w w' := by
  have hcv : ∀ j u, (encF1 f)[j]? = some u → w.cell? ((⟨vb, 0, none⟩ : Addr).add j) = some u := fun j u hj => by
    have ea : Addr.add ⟨vb, 0, none⟩ j = ⟨vb, j, none⟩ := by unfold Addr.add; split <;> simp_all
    rw [ea, Lib.cell_of_heap hvb]
    unfold encF1 at hj
    match j, hj with
    | 0, hj => simpa using hj
    | 1, hj => simpa using hj
  obtain ⟨i0, hi, hz0, hz1, hz2⟩ := info_parts infoF
  have HO : Hid (OwnF 46 B v t w) := hown
  have hform : (v = .slice none 0 0 ∧ t.length = 0) ∨ ∃ g cap, v = .slice (some ⟨g, 0, none⟩) t.length cap ∧ t.length ≤ cap := by
    rcases hown.2 with h | ⟨g, cap, cur, rfl, _, _, hc, _⟩
    · exact .inl h
    · exact .inr ⟨g, cap, rfl, hc⟩
  have hbl : ∀ k, v.ownBlock = some k → B ≤ k := fun k hk => (World.ownsRow.lt hown k hk).1
  clear hown
  rcases hform with ⟨rfl, h0⟩ | ⟨g, cap, rfl, hcap⟩
  · rw [h0]
    have HO2 : Hid (w.ownsRow B 46 2 (.slice none 0 0) 0 (encF t)) := (by have := HO.out; unfold OwnF at this; rw [h0] at this; exact this : w.ownsRow _ _ _ _ _ _)
    go_enter Tryd.func30, Tryd.ntmps30
    go_wp2_with (at_builtin; refine wpList_append_own _ rfl (.tmp 23) (.tmp 24) 22 rfl B 46 i0 (.agg #[.string ⟨#[]⟩, .string ⟨#[]⟩]) 2 32 Tryd.underlying22 hi hz0 hz1 hz2 rfl (by decide) _ 0 _ rfl HO2.out ⟨vb, 0, none⟩ 1 1 (encF1 f) rfl rfl hcv (by intro u hu; unfold encF1 at hu; simp at hu; rcases hu with rfl | rfl <;> rfl) (by unfold maxLen; omega) (by omega) hB ?_)
    intro v' w' h1 h2 _
    have HR : Hid (OwnF 46 B v' (t ++ [f]) w') := (by unfold OwnF; rw [encF_snoc, List.length_append, h0]; exact h1 : OwnF _ _ _ _ _)
    have HBl : Hid (Below B w w') := (Below.refl B w).grown h2 hB hbl
    clear h1 h2
    go_wp2
    go_ret
    exact ⟨_, rfl, HR.out, HBl.out⟩
  · go_enter Tryd.func30, Tryd.ntmps30
    go_wp2_with (at_builtin; refine wpList_append_own _ rfl (.tmp 23) (.tmp 24) 22 rfl B 46 i0 (.agg #[.string ⟨#[]⟩, .string ⟨#[]⟩]) 2 32 Tryd.underlying22 hi hz0 hz1 hz2 rfl (by decide) _ t.length _ rfl HO.out ⟨vb, 0, none⟩ 1 1 (encF1 f) rfl rfl hcv (by intro u hu; unfold encF1 at hu; simp at hu; rcases hu with rfl | rfl <;> rfl) (by unfold maxLen; omega) (by omega) hB ?_)
    all_goals
      intro v' w' h1 h2 _
      have HR : Hid (OwnF 46 B v' (t ++ [f]) w') := (by unfold OwnF; rw [encF_snoc, List.length_append]; exact h1 : OwnF _ _ _ _ _)
      have HBl : Hid (Below B w w') := (Below.refl B w).grown h2 hB hbl
      clear h1 h2
      go_wp2
      go_ret
      exact ⟨_, rfl, HR.out, HBl.out⟩

end Fd
end Go.Proofs.YtggmidkmpgjnoaaDoor
