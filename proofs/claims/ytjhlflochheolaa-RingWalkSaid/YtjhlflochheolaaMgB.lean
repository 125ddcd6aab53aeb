/- Several texts as one. -/
import Derived.Test.YtjhlflochheolaaMgA
import Derived.Test.YtjhlflochheolaaProg
import Derived.WalkKit
import Derived.Laws.AppendOwnNone
import Derived.Deep.RegionLaw
import Derived.Laws.CopyOwn
import Derived.Deep.DeepMust
/-
  append of bytes to a row of the call's own; copy between rows; cuts of slices of bytes.
-/
set_option linter.unusedVariables false
set_option linter.unusedSimpArgs false
namespace Go.Proofs.Ytjhlflochheolaa
open Go.RowKit
namespace Rg

theorem infoB : (Try.prog.info? 5).map (fun i => (i.zero, i.size, i.bytes)) = some (some (.int .u8 0), 1, 1) := by kernel_rfl
theorem sizeB : (Try.prog.info? 5).map (·.size) = some 1 := by kernel_rfl

theorem wpList_wanted {P : Program} {ops : Array Oper} {rest : List Oper} {o : Oper} {a : Act} {w : World} {Q : Exit → Act → World → Prop} (hw : Region.wanted o (yielded ops a.tmps) = true)
    (h : o.wp P a w (wpList P ops Q rest) Q) : wpList P ops Q (o :: rest) a w := by
  rw [wpList, if_pos hw]
  exact .inl h

/- append of bytes: the run. -/
set_option maxRecDepth 100000 in
theorem run_appB (o : TypeId) (B : Nat) (v y : Value) (t u : List UInt8) (W : World) (hown : W.ownsRow B 5 1 v t.length (bv t)) (hy : RdB W y u) (hlen : t.length + u.length ≤ 140737488355328) (hB : B ≤ W.heap.size) :
    ∃ v' w', (Builtin.append_ #[25, 25] o #[v, y]).run Try.prog W = .ok v' w' ∧ w'.ownsRow B 5 1 v' (t ++ u).length (bv (t ++ u)) ∧ W.grownBy w' v.ownBlock := by
  obtain ⟨i0, hi, hz0, hz1, hz2⟩ := info_parts infoB
  have own' : ∀ (ad : Addr) (c : Nat), y = .slice (some ad) u.length c → (∀ j x, u[j]? = some x → W.cell? (ad.add j) = some (.int .u8 (x.toNat : Int))) → ∃ v' w', (Builtin.append_ #[25, 25] o #[v, y]).run Try.prog W = .ok v' w' ∧ w'.ownsRow B 5 1 v' (t ++ u).length (bv (t ++ u)) ∧ W.grownBy w' v.ownBlock := by
    intro ad c ey hcell
    obtain ⟨v', w', h1, h2, h3, _⟩ := run_append_own (P := Try.prog) (w := W) B 25 o 5 i0 (.int .u8 0) 1 1 Try.underlying25 hi hz0 hz1 hz2 rfl (by decide) v t.length (bv t) hown ad u.length c (bv u) (by rw [bv_length]; omega)
      (fun j z hj => by
        rw [bv_get] at hj
        cases hu : u[j]? with
        | none => rw [hu] at hj; cases hj
        | some x => rw [hu] at hj; cases hj; exact hcell j x hu)
      (bv_one u) (by unfold maxLen; omega) (by omega) hB
    rw [ey]
    refine ⟨v', w', h1, ?_, h3⟩
    rw [bv_append, List.length_append]
    exact h2
  obtain ⟨a, cap, ey, hc, hz, hr⟩ := hy
  cases a with
  | none =>
    have hcap := hz rfl
    have hu : u = [] := by
      apply List.eq_nil_of_length_eq_zero
      omega
    subst hu
    subst ey
    subst hcap
    refine ⟨v, W, run_append_owned_none (P := Try.prog) (w := W) B 25 o 5 i0 1 Try.underlying25 hi v t.length _ hown, by simpa using hown, ⟨rfl, rfl, rfl, Nat.le_refl _, fun _ _ _ => rfl⟩⟩
  | some ad =>
    rcases hr with hr | ⟨g, o', e, hr⟩
    · subst hr
      exact own' ad cap ey (fun j x hj => by simp at hj)
    · injection e with e
      subst e
      exact own' _ cap ey (fun j x hj => by rw [Addr.add_lit]; exact hr j x hj)

theorem wp_appB {ops : Array Oper} {rest : List Oper} {o : Oper} {a : Act} {W : World} {Q : Exit → Act → World → Prop} (hw : Region.wanted o (yielded ops a.tmps) = true) (s x : Operand)
    (ho : o.op = .call { callee := .builtin .append, args := #[s, x], argTypes := #[25, 25] }) (B : Nat) (v y : Value) (t u : List UInt8)
    (hs : a.eval s = v) (hown : W.ownsRow B 5 1 v t.length (bv t)) (hx : a.eval x = y) (hy : RdB W y u) (hlen : t.length + u.length ≤ 140737488355328) (hB : B ≤ W.heap.size)
    (h : ∀ v' w', Hid (w'.ownsRow B 5 1 v' (t ++ u).length (bv (t ++ u))) → Hid (W.grownBy w' v.ownBlock) → wpList Try.prog ops Q rest (a.put o.dst v') w') : wpList Try.prog ops Q (o :: rest) a W := by
  refine wpList_wanted hw ?_
  obtain ⟨v', w', hrun, h1, h2⟩ := run_appB o.type B v y t u W hown hy hlen hB
  have := h v' w' h1 h2
  unfold Oper.wp
  simp [execOp, ho, resolve, invoke, builtin, hs, hx, hrun, Result.andThen]
  exact this

/-- One step of a region that draws. -/
theorem step_appB {ops : Array Oper} {o : Oper} {a : Act} {W : World} {K : Act → World → Prop} {Q : Exit → Act → World → Prop} {E : Prop} (hgd : o.guard = none) (s x : Operand)
    (ho : o.op = .call { callee := .builtin .append, args := #[s, x], argTypes := #[25, 25] }) (B : Nat) (v y : Value) (t u : List UInt8)
    (hs : a.eval s = v) (hown : W.ownsRow B 5 1 v t.length (bv t)) (hx : a.eval x = y) (hy : RdB W y u) (hlen : t.length + u.length ≤ 140737488355328) (hB : B ≤ W.heap.size)
    (h : ∀ v' w', Hid (w'.ownsRow B 5 1 v' (t ++ u).length (bv (t ++ u))) → Hid (W.grownBy w' v.ownBlock) → K (a.put o.dst v') w') : if Region.wanted o (yielded ops a.tmps) = true then Oper.wp Try.prog o a W K Q else E := by
  have hw : Region.wanted o (yielded ops a.tmps) = true := by simp [Region.wanted, hgd]
  rw [if_pos hw]
  obtain ⟨v', w', hrun, h1, h2⟩ := run_appB o.type B v y t u W hown hy hlen hB
  have := h v' w' h1 h2
  unfold Oper.wp
  simp [execOp, ho, resolve, invoke, builtin, hs, hx, hrun, Result.andThen]
  exact this

/- copy: as many bytes as the shorter has go over. -/
set_option maxRecDepth 100000 in
theorem run_cpB (o : TypeId) (W : World) (dp : Option Addr) (dLen dCap : Nat) (y : Value) (u : List UInt8) (hy : RdB W y u) (g off : Nat) (cur : List UInt8) (t : TypeId) (hg : W.heap[g]? = some (.cells (bv cur).toArray t (0, 0)))
    (hpos : 0 < min u.length dLen → dp = some ⟨g, off, none⟩) (hfit : off + min u.length dLen ≤ cur.length) :
    ∃ w', (Builtin.copy_ #[25, 25] o #[.slice dp dLen dCap, y]).run Try.prog W = .ok (goInt (min u.length dLen : Nat)) w' ∧ w'.heap[g]? = some (.cells (bv (splice cur off (u.take (min u.length dLen)))).toArray t (0, 0)) ∧ W.grownBy w' (some g) := by
  obtain ⟨a, cap, rfl, hc, hz, hr⟩ := hy
  by_cases h0 : min u.length dLen = 0
  · have hrun := run_copy_none (P := Try.prog) W 25 25 o 5 dp a dLen dCap u.length cap Try.underlying25 sizeB h0
    refine ⟨W, by rw [h0]; exact hrun, ?_, ⟨rfl, rfl, rfl, Nat.le_refl _, fun _ _ _ => rfl⟩⟩
    rw [h0]
    simpa [splice] using hg
  · rcases hr with hr | ⟨g', o', rfl, hr⟩
    · subst hr; simp at h0
    · obtain rfl := hpos (by omega)
      have hlt : (u.take (min u.length dLen)).length = min u.length dLen := by rw [List.length_take]; omega
      have hrun := run_copy_row (P := Try.prog) W 25 25 o 5 g off dLen dCap ⟨g', o', none⟩ u.length cap (bv cur).toArray t (bv (u.take (min u.length dLen))) Try.underlying25 sizeB hg (by rw [bv_length, hlt])
        (fun j v hj => by
          rw [bv_get] at hj
          cases hu : (u.take (min u.length dLen))[j]? with
          | none => rw [hu] at hj; cases hj
          | some x =>
            rw [hu] at hj; cases hj; rw [Addr.add_lit]
            have hj' : j < min u.length dLen := by
              have := (List.getElem?_eq_some_iff.1 hu).1
              omega
            exact hr j x (by rw [List.getElem?_take_of_lt hj'] at hu; exact hu))
        (by rw [bv_length, hlt]; simp [bv_length]; omega) (bv_one _)
      rw [bv_length, hlt] at hrun
      refine ⟨_, hrun, ?_, ⟨rfl, rfl, rfl, by simp, fun k _ hk => setRow_other W g k _ (fun e => hk (congrArg some e))⟩⟩
      rw [setRow_heap W g _ _ t _ hg, ← bv_splice]
      congr 2
      unfold splice
      rw [bv_length, hlt]
      simp

set_option maxRecDepth 100000 in
theorem run_cp (o : TypeId) (W : World) (dp : Option Addr) (dLen dCap : Nat) (y : Value) (u : List UInt8) (hy : RdB W y u) (g off : Nat) (cur : List UInt8) (t : TypeId) (hg : W.heap[g]? = some (.cells (bv cur).toArray t (0, 0)))
    (m : Nat) (hm : m = min u.length dLen) (hpos : 0 < m → dp = some ⟨g, off, none⟩) (hfit : off + m ≤ cur.length) :
    ∃ w', (Builtin.copy_ #[25, 25] o #[.slice dp dLen dCap, y]).run Try.prog W = .ok (.int .i64 (m : Int)) w' ∧ Hid (w'.heap[g]? = some (.cells (bv (splice cur off (u.take m))).toArray t (0, 0))) ∧ Hid (W.grownBy w' (some g)) := by
  subst hm
  exact run_cpB o W dp dLen dCap y u hy g off cur t hg hpos hfit

/-- A cut of a slice of bytes. -/
theorem RdB.cut {W : World} {a : Option Addr} {n cap : Nat} {l : List UInt8} (h : RdB W (.slice a n cap) l) (i j m : Nat) (hij : i ≤ j) (hj : j ≤ l.length) (hjm : j ≤ m) (hm : m ≤ cap) :
    ∃ a', sliced a i j m 1 = .slice a' (j - i) (m - i) ∧ RdB W (.slice a' (j - i) (m - i)) ((l.drop i).take (j - i)) ∧ (∀ g o, a = some ⟨g, o, none⟩ → i < m → a' = some ⟨g, o + i, none⟩) ∧
      (∀ g, (Value.slice a' (j - i) (m - i)).ownBlock = some g → (Value.slice a n cap).ownBlock = some g) := by
  obtain ⟨a0, c0, e, hc, hz, hr⟩ := h
  injection e with e1 e2 e3
  subst e1 e2 e3
  have hl : ((l.drop i).take (j - i)).length = j - i := by simp; omega
  unfold sliced
  by_cases c : m = i
  · rw [if_pos c]
    refine ⟨a, rfl, ⟨a, m - i, by rw [hl], by rw [hl]; omega, fun e => by have := hz e; omega, .inl (List.eq_nil_of_length_eq_zero (by rw [hl]; omega))⟩, fun g o _ hlt => by omega, fun g hg => by cases a <;> exact hg⟩
  · rw [if_neg c]
    cases a with
    | none => have := hz rfl; omega
    | some ad =>
      refine ⟨some (ad.add (i * 1)), rfl, ⟨_, m - i, by rw [hl], by rw [hl]; omega, (fun e => by cases e), ?_⟩, ?_, ?_⟩
      · rcases hr with hr | ⟨g, o, e, hr⟩
        · left; subst hr; simp
        · right
          injection e with e
          subst e
          refine ⟨g, o + i, by rw [Addr.add_lit, Nat.mul_one], fun k x hk => ?_⟩
          have hk' : k < j - i := by
            have := (List.getElem?_eq_some_iff.1 hk).1
            omega
          rw [List.getElem?_take_of_lt hk', List.getElem?_drop] at hk
          rw [Nat.add_assoc]
          exact hr (i + k) x hk
      · intro g o e _
        injection e with e
        subst e
        rw [Addr.add_lit, Nat.mul_one]
      · intro g hg
        have : (ad.add (i * 1)).block = ad.block := by unfold Addr.add; split <;> rfl
        simp only [Value.ownBlock, this] at hg ⊢
        exact hg

set_option maxRecDepth 100000 in
theorem htB : Try.prog.underlying 25 = some (.slice (Try.prog.elem 25)) := by simp [Program.elem, Try.underlying25]
set_option maxRecDepth 100000 in
theorem szB (w : World) : (sizeOf (Try.prog.elem 25)).run Try.prog w = .ok 1 w := by
  obtain ⟨i0, hi, hz0, hz1, hz2⟩ := info_parts infoB
  have he : Try.prog.elem 25 = 5 := by simp [Program.elem, Try.underlying25]
  rw [he]
  simp [sizeOf, typeInfo, hi, hz1]

/- 's[i:]', 's[:j]', 's[i:j]', 's[i:j:m]': for the walk to take as equations. -/
set_option maxRecDepth 100000 in
theorem cut_from {W : World} {a : Option Addr} {n cap : Nat} {l : List UInt8} (h : RdB W (.slice a n cap) l) (i : Nat) (hi : i ≤ l.length) :
    ∃ a', RdB W (.slice a' (n - i) (cap - i)) (l.drop i) ∧ (∀ g o, a = some ⟨g, o, none⟩ → i < cap → a' = some ⟨g, o + i, none⟩) ∧ (∀ g, (Value.slice a' (n - i) (cap - i)).ownBlock = some g → (Value.slice a n cap).ownBlock = some g) ∧
      ∀ w : World, (Instr.slice 25 (.slice a n cap) (some (.int .i64 (i : Int))) none none).run Try.prog w = .ok (.slice a' (n - i) (cap - i)) w := by
  have hn : n = l.length ∧ l.length ≤ cap := by
    obtain ⟨a0, c0, e, hc, _⟩ := h
    injection e with e1 e2 e3
    subst e3
    exact ⟨e2, hc⟩
  obtain ⟨a', h1, h2, h3, h4⟩ := h.cut i n cap (by omega) (by omega) (by omega) (Nat.le_refl _)
  rw [List.take_of_length_le (by rw [List.length_drop]; omega)] at h2
  refine ⟨a', h2, h3, h4, fun w => ?_⟩
  rw [run_slice_l (P := Try.prog) w 25 a n cap htB .i64 (i : Int) (by omega) (by omega), szB]
  simp only [Result.andThen, Int.toNat_natCast]
  rw [h1]
set_option maxRecDepth 100000 in
theorem cut_upto {W : World} {a : Option Addr} {n cap : Nat} {l : List UInt8} (h : RdB W (.slice a n cap) l) (j : Nat) (hj : j ≤ l.length) :
    ∃ a', RdB W (.slice a' j cap) (l.take j) ∧ (∀ g o, a = some ⟨g, o, none⟩ → 0 < cap → a' = some ⟨g, o, none⟩) ∧ (∀ g, (Value.slice a' j cap).ownBlock = some g → (Value.slice a n cap).ownBlock = some g) ∧
      ∀ w : World, (Instr.slice 25 (.slice a n cap) none (some (.int .i64 (j : Int))) none).run Try.prog w = .ok (.slice a' j cap) w := by
  have hn : n = l.length ∧ l.length ≤ cap := by
    obtain ⟨a0, c0, e, hc, _⟩ := h
    injection e with e1 e2 e3
    subst e3
    exact ⟨e2, hc⟩
  obtain ⟨a', h1, h2, h3, h4⟩ := h.cut 0 j cap (by omega) (by omega) (by omega) (Nat.le_refl _)
  rw [List.drop_zero] at h2
  refine ⟨a', h2, h3, h4, fun w => ?_⟩
  rw [run_slice_h (P := Try.prog) w 25 a n cap htB .i64 (j : Int) (by omega) (by omega), szB]
  simp only [Result.andThen, Int.toNat_natCast]
  rw [h1]
  rfl
set_option maxRecDepth 100000 in
theorem cut_mid {W : World} {a : Option Addr} {n cap : Nat} {l : List UInt8} (h : RdB W (.slice a n cap) l) (i j : Nat) (hij : i ≤ j) (hj : j ≤ l.length) :
    ∃ a', RdB W (.slice a' (j - i) (cap - i)) ((l.drop i).take (j - i)) ∧ (∀ g o, a = some ⟨g, o, none⟩ → i < cap → a' = some ⟨g, o + i, none⟩) ∧ (∀ g, (Value.slice a' (j - i) (cap - i)).ownBlock = some g → (Value.slice a n cap).ownBlock = some g) ∧
      ∀ w : World, (Instr.slice 25 (.slice a n cap) (some (.int .i64 (i : Int))) (some (.int .i64 (j : Int))) none).run Try.prog w = .ok (.slice a' (j - i) (cap - i)) w := by
  have hn : n = l.length ∧ l.length ≤ cap := by
    obtain ⟨a0, c0, e, hc, _⟩ := h
    injection e with e1 e2 e3
    subst e3
    exact ⟨e2, hc⟩
  obtain ⟨a', h1, h2, h3, h4⟩ := h.cut i j cap hij hj (by omega) (Nat.le_refl _)
  refine ⟨a', h2, h3, h4, fun w => ?_⟩
  rw [run_slice_lh (P := Try.prog) w 25 a n cap htB .i64 .i64 (i : Int) (j : Int) (by omega) (by omega) (by omega), szB]
  simp only [Result.andThen, Int.toNat_natCast]
  rw [h1]
set_option maxRecDepth 100000 in
theorem cut_three {W : World} {a : Option Addr} {n cap : Nat} {l : List UInt8} (h : RdB W (.slice a n cap) l) (i j : Nat) (hij : i ≤ j) (hj : j ≤ l.length) :
    ∃ a', RdB W (.slice a' (j - i) (j - i)) ((l.drop i).take (j - i)) ∧ (∀ g o, a = some ⟨g, o, none⟩ → i < j → a' = some ⟨g, o + i, none⟩) ∧ (∀ g, (Value.slice a' (j - i) (j - i)).ownBlock = some g → (Value.slice a n cap).ownBlock = some g) ∧
      ∀ w : World, (Instr.slice 25 (.slice a n cap) (some (.int .i64 (i : Int))) (some (.int .i64 (j : Int))) (some (.int .i64 (j : Int)))).run Try.prog w = .ok (.slice a' (j - i) (j - i)) w := by
  have hn : n = l.length ∧ l.length ≤ cap := by
    obtain ⟨a0, c0, e, hc, _⟩ := h
    injection e with e1 e2 e3
    subst e3
    exact ⟨e2, hc⟩
  obtain ⟨a', h1, h2, h3, h4⟩ := h.cut i j j hij hj (Nat.le_refl _) (by omega)
  refine ⟨a', h2, h3, h4, fun w => ?_⟩
  rw [run_slice_lhm (P := Try.prog) w 25 a n cap htB .i64 .i64 .i64 (i : Int) (j : Int) (j : Int) (by omega) (by omega) (by omega) (by omega), szB]
  simp only [Result.andThen, Int.toNat_natCast]
  rw [h1]

end Rg
end Go.Proofs.Ytjhlflochheolaa

/-
  The small methods of a ring: what they answer, and that nothing turns.
-/
set_option linter.unusedVariables false
set_option linter.unusedSimpArgs false
namespace Go.Proofs.Ytjhlflochheolaa
open Go.RowKit
namespace Rg

set_option maxRecDepth 100000 in
theorem Cap_any {w : World} {rp sb cap head : Nat} {xs : List UInt8} (hR : IsRing w rp sb cap head xs) : Calls Try.prog 58 #[.pointer (some ⟨rp, 0, none⟩)] w fun e w' => e = .returned (.int .i64 (cap : Int)) ∧ Below w.heap.size w w' := by
  obtain ⟨c0, c1, c2, cf⟩ := hR.cells
  clear hR
  go_enter Try.func58, Try.ntmps58
  go_wp2
  go_ret
  exact ⟨rfl, Below.refl _ _⟩

set_option maxRecDepth 100000 in
theorem Len_any {w : World} {rp sb cap head : Nat} {xs : List UInt8} (hR : IsRing w rp sb cap head xs) : Calls Try.prog 15 #[.pointer (some ⟨rp, 0, none⟩)] w fun e w' => e = .returned (.int .i64 (xs.length : Int)) ∧ Below w.heap.size w w' := by
  obtain ⟨c0, c1, c2, cf⟩ := hR.cells
  clear hR
  go_enter Try.func15, Try.ntmps15
  go_wp2
  go_ret
  exact ⟨rfl, Below.refl _ _⟩

set_option maxRecDepth 100000 in
theorem Head_any {w : World} {rp sb cap head : Nat} {xs : List UInt8} (hR : IsRing w rp sb cap head xs) : Calls Try.prog 36 #[.pointer (some ⟨rp, 0, none⟩)] w fun e w' => e = .returned (.int .i64 (head : Int)) ∧ Below w.heap.size w w' := by
  obtain ⟨c0, c1, c2, cf⟩ := hR.cells
  clear hR
  go_enter Try.func36, Try.ntmps36
  go_wp2
  go_ret
  exact ⟨rfl, Below.refl _ _⟩

set_option maxRecDepth 100000 in
theorem Free_any {w : World} {rp sb cap head : Nat} {xs : List UInt8} (hR : IsRing w rp sb cap head xs) : Calls Try.prog 51 #[.pointer (some ⟨rp, 0, none⟩)] w fun e w' => e = .returned (.int .i64 ((cap - xs.length : Nat) : Int)) ∧ Below w.heap.size w w' := by
  have HR : Hid (IsRing w rp sb cap head xs) := hR
  have hl := hR.hlen
  have hc := hR.hcap
  clear hR
  go_enter Try.func51, Try.ntmps51
  go_wp2_with fail
  refine (Cap_any HR.out).mono ?_
  rintro e w1 ⟨rfl, hb1⟩
  have HB1 : Hid (Below w.heap.size w w1) := hb1
  clear hb1
  go_wp2_with fail
  refine (Len_any (HR.out.below HB1.out)).mono ?_
  rintro e w2 ⟨rfl, hb2⟩
  have HB2 : Hid (Below w.heap.size w w2) := HB1.out.trans (hb2.mono HB1.out.size)
  clear hb2
  go_wp2
  go_ret
  exact ⟨by go_num, HB2.out⟩

set_option maxRecDepth 100000 in
theorem place_any {w : World} {rp sb cap head : Nat} {xs : List UInt8} (hR : IsRing w rp sb cap head xs) (i : Nat) (hi : i ≤ cap) : Calls Try.prog 54 #[.pointer (some ⟨rp, 0, none⟩), .int .i64 (i : Int)] w fun e w' => e = .returned (.int .i64 ((pl cap head i : Nat) : Int)) ∧ Below w.heap.size w w' := by
  obtain ⟨c0, c1, c2, cf⟩ := hR.cells
  have h1 := hR.hhead
  have h2 := hR.hcap
  clear hR
  by_cases hc : cap ≤ head + i
  · have HP : Hid (pl cap head i = head + i - cap) := if_pos hc
    have hc' : (cap : Int) ≤ (i : Int) + (head : Int) := by omega
    go_enter Try.func54, Try.ntmps54
    go_wp2
    go_ret
    exact ⟨by rw [HP.out]; go_num, Below.refl _ _⟩
  · have HP : Hid (pl cap head i = head + i) := if_neg hc
    have hc' : ¬ (cap : Int) ≤ (i : Int) + (head : Int) := by omega
    go_enter Try.func54, Try.ntmps54
    go_wp2
    go_ret
    exact ⟨by rw [HP.out]; go_num, Below.refl _ _⟩

/-- How many of n bytes wait from a number on. -/
def rch (len : Nat) (from' n : Int) : Nat := if from' < 0 ∨ n < 0 ∨ (len : Int) < from' then 0 else min n.toNat (len - from'.toNat)
theorem rch_le (len : Nat) (f n : Int) : rch len f n ≤ len := by
  unfold rch
  split <;> omega
theorem rch_zero (len : Nat) (n : Nat) : rch len 0 (n : Int) = min n len := by
  unfold rch
  rw [if_neg (by omega)]
  omega
theorem rch_fit (len : Nat) (f n : Int) (h : 0 < rch len f n) : 0 ≤ f ∧ 0 ≤ n ∧ f.toNat + rch len f n ≤ len := by
  unfold rch at *
  split at h
  · omega
  · rename_i hc
    rw [if_neg hc]
    omega

set_option maxRecDepth 100000 in
theorem reach_any {w : World} {rp sb cap head : Nat} {xs : List UInt8} (hR : IsRing w rp sb cap head xs) (f n : Int) (hf0 : -9223372036854775808 ≤ f) (hf1 : f ≤ 9223372036854775807) (hn0 : -9223372036854775808 ≤ n) (hn1 : n ≤ 9223372036854775807) : Calls Try.prog 42 #[.pointer (some ⟨rp, 0, none⟩), .int .i64 f, .int .i64 n] w fun e w' => e = .returned (.int .i64 ((rch xs.length f n : Nat) : Int)) ∧ Below w.heap.size w w' := by
  have HR : Hid (IsRing w rp sb cap head xs) := hR
  have hl := hR.hlen
  have hc := hR.hcap
  clear hR
  by_cases h1 : f < 0
  · have HP : Hid (rch xs.length f n = 0) := if_pos (.inl h1)
    go_enter Try.func42, Try.ntmps42
    go_wp2
    go_ret
    exact ⟨by rw [HP.out]; rfl, Below.refl _ _⟩
  by_cases h2 : n < 0
  · have HP : Hid (rch xs.length f n = 0) := if_pos (.inr (.inl h2))
    go_enter Try.func42, Try.ntmps42
    go_wp2
    go_ret
    exact ⟨by rw [HP.out]; rfl, Below.refl _ _⟩
  go_enter Try.func42, Try.ntmps42
  go_wp2_with fail
  refine (Len_any HR.out).mono ?_
  rintro e w1 ⟨rfl, hb1⟩
  have HB1 : Hid (Below w.heap.size w w1) := hb1
  clear hb1
  by_cases h3 : (xs.length : Int) < f
  · have HP : Hid (rch xs.length f n = 0) := if_pos (.inr (.inr h3))
    go_wp2
    go_ret
    exact ⟨by rw [HP.out]; rfl, HB1.out⟩
  have HP : Hid (rch xs.length f n = min n.toNat (xs.length - f.toNat)) := if_neg (by omega)
  go_wp2_with fail
  refine (Len_any (HR.out.below HB1.out)).mono ?_
  rintro e w2 ⟨rfl, hb2⟩
  have HB2 : Hid (Below w.heap.size w w2) := HB1.out.trans (hb2.mono HB1.out.size)
  clear hb2
  by_cases h4 : n ≤ (xs.length : Int) - f
  · go_wp2
    go_ret
    exact ⟨by rw [HP.out]; go_num, HB2.out⟩
  · go_wp2
    go_ret
    exact ⟨by rw [HP.out]; go_num, HB2.out⟩

end Rg
end Go.Proofs.Ytjhlflochheolaa

/-
  The queue's small functions.
-/
set_option maxRecDepth 100000
set_option linter.unusedVariables false
set_option linter.unusedSimpArgs false
namespace Go.Proofs.Ytjhlflochheolaa
open Go.RowKit
namespace Rg

set_option maxRecDepth 100000 in
theorem qLen_S {w : World} {p : Option Addr} {bs : List Nat} {cap : Nat} {xs : List (List Value)} (H : QP w 9 1 87 p bs cap xs) : Calls Try.prog 23 #[.pointer p] w fun e w' => e = .returned (.int .i64 (xs.length : Int)) ∧ Below w.heap.size w w' := by
  rcases H with ⟨rfl, _, _, rfl⟩ | ⟨qp, sv, head, n, cs, rfl, _, H, hx⟩
  · go_enter Try.func23, Try.ntmps23
    go_wp2
    go_ret
    exact ⟨rfl, Below.refl _ _⟩
  · obtain ⟨c0, c1, c2, c3, cf⟩ := row4q H.str
    clear H hx
    go_enter Try.func23, Try.ntmps23
    go_wp2
    go_ret
    exact ⟨rfl, Below.refl _ _⟩

set_option maxRecDepth 100000 in
theorem qCap_S {w : World} {p : Option Addr} {bs : List Nat} {cap : Nat} {xs : List (List Value)} (H : QP w 9 1 87 p bs cap xs) : Calls Try.prog 24 #[.pointer p] w fun e w' => e = .returned (.int .i64 (cap : Int)) ∧ Below w.heap.size w w' := by
  rcases H with ⟨rfl, _, rfl, rfl⟩ | ⟨qp, sv, head, n, cs, rfl, _, H, hx⟩
  · go_enter Try.func24, Try.ntmps24
    go_wp2
    go_ret
    exact ⟨rfl, Below.refl _ _⟩
  · obtain ⟨c0, c1, c2, c3, cf⟩ := row4q H.str
    clear H hx
    go_enter Try.func24, Try.ntmps24
    go_wp2
    go_ret
    exact ⟨rfl, Below.refl _ _⟩

set_option maxRecDepth 100000 in
theorem qPlace_S {w : World} {qp : Nat} {sv : Value} {cap head count n : Nat} {cs : List Value} (H : IsQ w 9 1 87 qp sv cap head count n cs) (i : Nat) (hi : i ≤ cap) : Calls Try.prog 44 #[.pointer (some ⟨qp, 0, none⟩), .int .i64 (i : Int)] w fun e w' => e = .returned (.int .i64 ((pl cap head i : Nat) : Int)) ∧ Below w.heap.size w w' := by
  obtain ⟨c0, c1, c2, c3, cf⟩ := row4q H.str
  have h1 := H.hh
  have h2 := H.cap2
  clear H
  by_cases hc : cap ≤ head + i
  · have HP : Hid (pl cap head i = head + i - cap) := if_pos hc
    have hc' : (cap : Int) ≤ (i : Int) + (head : Int) := by omega
    go_enter Try.func44, Try.ntmps44
    go_wp2
    go_ret
    exact ⟨by rw [HP.out]; go_num, Below.refl _ _⟩
  · have HP : Hid (pl cap head i = head + i) := if_neg hc
    have hc' : ¬ (cap : Int) ≤ (i : Int) + (head : Int) := by omega
    go_enter Try.func44, Try.ntmps44
    go_wp2
    go_ret
    exact ⟨by rw [HP.out]; go_num, Below.refl _ _⟩

set_option maxRecDepth 100000 in
theorem qNew_S (w : World) (c : Int) (h0 : -9223372036854775808 ≤ c) (h1 : c ≤ 9223372036854775807) : Calls Try.prog 17 #[.int .i64 c] w fun e w' => ∃ (p : Option Addr) (bs : List Nat) (cap : Nat) (E : Int), e = .returned (.tuple #[.pointer p, .int .i64 E]) ∧ NewQ w c p bs cap E ∧ QP w' 9 1 87 p bs cap [] ∧ Below w.heap.size w w' := by
  by_cases hb : 1 ≤ c ∧ c ≤ 65536
  · obtain ⟨cap, rfl⟩ := Int.eq_ofNat_of_zero_le (show 0 ≤ c by omega)
    have g1 : ¬ ((cap : Nat) : Int) < 1 := by omega
    have g2 : ¬ (65536 : Int) < ((cap : Nat) : Int) := by omega
    go_enter Try.func17, Try.ntmps17
    go_wp2
    go_ret2
    refine ⟨_, [w.heap.size], cap, 0, rfl, .inl ⟨by omega, by omega, rfl, rfl, rfl, rfl⟩, .inr ⟨w.heap.size, .slice none 0 0, 0, 0, [], rfl, rfl, ⟨heap_alloc_new _ _, World.ownsRow_nil _ _ _ _, (fun g hg => by cases hg), by omega, by omega, by omega, by simp, by omega, (fun _ => by simp)⟩, rfl⟩, (Below.refl _ w).alloc (Nat.le_refl _) _⟩
  · by_cases g1 : c < 1
    · go_enter Try.func17, Try.ntmps17
      go_wp2
      go_ret2
      exact ⟨none, [], 0, 20, rfl, .inr ⟨hb, rfl, rfl, rfl⟩, .inl ⟨rfl, rfl, rfl, rfl⟩, Below.refl _ _⟩
    · have g2 : (65536 : Int) < c := by omega
      go_enter Try.func17, Try.ntmps17
      go_wp2
      go_ret2
      exact ⟨none, [], 0, 20, rfl, .inr ⟨hb, rfl, rfl, rfl⟩, .inl ⟨rfl, rfl, rfl, rfl⟩, Below.refl _ _⟩

set_option maxRecDepth 100000 in
theorem qLen_I {w : World} {p : Option Addr} {bs : List Nat} {cap : Nat} {xs : List (List Value)} (H : QP w 3 1 92 p bs cap xs) : Calls Try.prog 32 #[.pointer p] w fun e w' => e = .returned (.int .i64 (xs.length : Int)) ∧ Below w.heap.size w w' := by
  rcases H with ⟨rfl, _, _, rfl⟩ | ⟨qp, sv, head, n, cs, rfl, _, H, hx⟩
  · go_enter Try.func32, Try.ntmps32
    go_wp2
    go_ret
    exact ⟨rfl, Below.refl _ _⟩
  · obtain ⟨c0, c1, c2, c3, cf⟩ := row4q H.str
    clear H hx
    go_enter Try.func32, Try.ntmps32
    go_wp2
    go_ret
    exact ⟨rfl, Below.refl _ _⟩

set_option maxRecDepth 100000 in
theorem qCap_I {w : World} {p : Option Addr} {bs : List Nat} {cap : Nat} {xs : List (List Value)} (H : QP w 3 1 92 p bs cap xs) : Calls Try.prog 46 #[.pointer p] w fun e w' => e = .returned (.int .i64 (cap : Int)) ∧ Below w.heap.size w w' := by
  rcases H with ⟨rfl, _, rfl, rfl⟩ | ⟨qp, sv, head, n, cs, rfl, _, H, hx⟩
  · go_enter Try.func46, Try.ntmps46
    go_wp2
    go_ret
    exact ⟨rfl, Below.refl _ _⟩
  · obtain ⟨c0, c1, c2, c3, cf⟩ := row4q H.str
    clear H hx
    go_enter Try.func46, Try.ntmps46
    go_wp2
    go_ret
    exact ⟨rfl, Below.refl _ _⟩

set_option maxRecDepth 100000 in
theorem qPlace_I {w : World} {qp : Nat} {sv : Value} {cap head count n : Nat} {cs : List Value} (H : IsQ w 3 1 92 qp sv cap head count n cs) (i : Nat) (hi : i ≤ cap) : Calls Try.prog 47 #[.pointer (some ⟨qp, 0, none⟩), .int .i64 (i : Int)] w fun e w' => e = .returned (.int .i64 ((pl cap head i : Nat) : Int)) ∧ Below w.heap.size w w' := by
  obtain ⟨c0, c1, c2, c3, cf⟩ := row4q H.str
  have h1 := H.hh
  have h2 := H.cap2
  clear H
  by_cases hc : cap ≤ head + i
  · have HP : Hid (pl cap head i = head + i - cap) := if_pos hc
    have hc' : (cap : Int) ≤ (i : Int) + (head : Int) := by omega
    go_enter Try.func47, Try.ntmps47
    go_wp2
    go_ret
    exact ⟨by rw [HP.out]; go_num, Below.refl _ _⟩
  · have HP : Hid (pl cap head i = head + i) := if_neg hc
    have hc' : ¬ (cap : Int) ≤ (i : Int) + (head : Int) := by omega
    go_enter Try.func47, Try.ntmps47
    go_wp2
    go_ret
    exact ⟨by rw [HP.out]; go_num, Below.refl _ _⟩

set_option maxRecDepth 100000 in
theorem qNew_I (w : World) (c : Int) (h0 : -9223372036854775808 ≤ c) (h1 : c ≤ 9223372036854775807) : Calls Try.prog 27 #[.int .i64 c] w fun e w' => ∃ (p : Option Addr) (bs : List Nat) (cap : Nat) (E : Int), e = .returned (.tuple #[.pointer p, .int .i64 E]) ∧ NewQ w c p bs cap E ∧ QP w' 3 1 92 p bs cap [] ∧ Below w.heap.size w w' := by
  by_cases hb : 1 ≤ c ∧ c ≤ 65536
  · obtain ⟨cap, rfl⟩ := Int.eq_ofNat_of_zero_le (show 0 ≤ c by omega)
    have g1 : ¬ ((cap : Nat) : Int) < 1 := by omega
    have g2 : ¬ (65536 : Int) < ((cap : Nat) : Int) := by omega
    go_enter Try.func27, Try.ntmps27
    go_wp2
    go_ret2
    refine ⟨_, [w.heap.size], cap, 0, rfl, .inl ⟨by omega, by omega, rfl, rfl, rfl, rfl⟩, .inr ⟨w.heap.size, .slice none 0 0, 0, 0, [], rfl, rfl, ⟨heap_alloc_new _ _, World.ownsRow_nil _ _ _ _, (fun g hg => by cases hg), by omega, by omega, by omega, by simp, by omega, (fun _ => by simp)⟩, rfl⟩, (Below.refl _ w).alloc (Nat.le_refl _) _⟩
  · by_cases g1 : c < 1
    · go_enter Try.func27, Try.ntmps27
      go_wp2
      go_ret2
      exact ⟨none, [], 0, 20, rfl, .inr ⟨hb, rfl, rfl, rfl⟩, .inl ⟨rfl, rfl, rfl, rfl⟩, Below.refl _ _⟩
    · have g2 : (65536 : Int) < c := by omega
      go_enter Try.func27, Try.ntmps27
      go_wp2
      go_ret2
      exact ⟨none, [], 0, 20, rfl, .inr ⟨hb, rfl, rfl, rfl⟩, .inl ⟨rfl, rfl, rfl, rfl⟩, Below.refl _ _⟩

end Rg
end Go.Proofs.Ytjhlflochheolaa
