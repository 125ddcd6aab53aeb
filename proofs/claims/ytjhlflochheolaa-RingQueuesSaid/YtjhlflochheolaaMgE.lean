/- Several texts as one. -/
import Derived.Test.YtjhlflochheolaaMgD
import Derived.Laws.BytesArg
import Derived.Lib.SliceRun
import Derived.Test.YtjhlflochheolaaMgA
import Derived.Maps.AppendAt
/-
  What the laws call of their own: same, kind; bytes.Clone; Parts; awake.
-/
set_option linter.unusedVariables false
set_option linter.unusedSimpArgs false
namespace Go.Proofs.Ytjhlflochheolaa
open Go.RowKit
namespace Rg

/-- The text of a list's bytes. -/
def tx (l : List UInt8) : ByteArray := ⟨l.toArray⟩
theorem tx_inj {a b : List UInt8} (h : tx a = tx b) : a = b := by
  have := congrArg (fun x => x.data.toList) h
  simpa [tx] using this
theorem tx_list (a : List UInt8) : (tx a).data.toList = a := by simp [tx]

set_option maxRecDepth 100000 in
theorem run_conv {w : World} {v : Value} {l : List UInt8} (h : RdB w v l) : (convert 25 9 v).run Try.prog w = .ok (.string (tx l)) w := by
  obtain ⟨a, c, rfl, hc, hz, h⟩ := h
  have nums : ∀ l : List UInt8, strOfNums (l.map fun x => (x.toNat : Int)) = tx l := by
    intro l
    unfold strOfNums tx
    rw [List.map_map]
    congr 2
    conv => rhs; rw [← List.map_id l]
    apply List.map_congr_left
    intro x _
    simp
  have some' : ∀ g o, a = some ⟨g, o, none⟩ → (∀ j x, l[j]? = some x → w.cell? ⟨g, o + j, none⟩ = some (.int .u8 (x.toNat : Int))) → (convert 25 9 (.slice a l.length c)).run Try.prog w = .ok (.string (tx l)) w := by
    intro g o e hcell
    subst e
    have := run_convert_bytes_arg (P := Try.prog) w 25 5 Try.underlying25 Try.underlying5 g o l.length c (l.map fun x => (x.toNat : Int)) (by simp) (fun i hi => by
      rw [hcell i _ (List.getElem?_eq_getElem hi)]
      simp [List.getD, List.getElem?_map, List.getElem?_eq_getElem hi]) 9 Try.underlying9
    rw [this, nums]
  rcases h with h | ⟨g, o, e, h⟩
  · subst h
    cases a with
    | none => exact run_convert_bytes_nil (P := Try.prog) w 25 5 Try.underlying25 Try.underlying5 0 c 9 Try.underlying9
    | some ad =>
      have hl : (loadCells ad 0).run Try.prog w = .ok (([] : List Int).map (Value.int .u8)).toArray w := run_loadCells_list (P := Try.prog) w ad [] (fun j v hj => by simp at hj)
      show (convert 25 9 (.slice (some ad) 0 c)).run Try.prog w = _
      rw [run_convert_bytes_string w 25 9 5 _ 0 c Try.underlying25 Try.underlying5 Try.underlying9, run_bytesToString w ad 0 c [] hl]
      rfl
  · exact some' g o e h

set_option maxRecDepth 100000 in
theorem same_any {w : World} {v u : Value} {l m : List UInt8} (hv : RdB w v l) (hu : RdB w u m) (b : Bool) (hb : b = decide (l = m)) : Calls Try.prog 13 #[v, u] w fun e w' => e = .returned (.bool b) ∧ Below w.heap.size w w' := by
  have h1 := run_conv hv
  have h2 := run_conv hu
  obtain ⟨a, c, rfl, _⟩ := hv
  obtain ⟨a', c', rfl, _⟩ := hu
  have h3 : ((tx l).toList == (tx m).toList) = b := by
    rw [ByteArray.toList_eq, ByteArray.toList_eq, tx_list, tx_list, hb]
    by_cases c : l = m
    · subst c; simp
    · rw [decide_eq_false c]
      exact beq_eq_false_iff_ne.2 c
  clear hb
  generalize tx l = x at *
  generalize tx m = y at *
  go_enter Try.func13, Try.ntmps13
  go_wp2
  go_ret
  exact ⟨by simp, Below.refl _ _⟩

set_option maxRecDepth 100000 in
theorem kind_any (w : World) (k n : Int) (hk0 : -9223372036854775808 ≤ k) (hk1 : k ≤ 9223372036854775807) (hn0 : 1 ≤ n) (hn1 : n ≤ 4611686018427387903) : Calls Try.prog 9 #[.int .i64 k, .int .i64 n] w fun e w' => ∃ m : Nat, e = .returned (.int .i64 (m : Int)) ∧ (m : Int) < n ∧ Below w.heap.size w w' := by
  have h1 : -n < k.tmod n := by
    have := Int.lt_tmod_of_pos k (show 0 < n by omega)
    omega
  have h2 : k.tmod n < n := Int.tmod_lt_of_pos k (by omega)
  have h3 : 0 ≤ (k.tmod n + n) % n := Int.emod_nonneg _ (by omega)
  have h4 : (k.tmod n + n) % n < n := Int.emod_lt_of_pos _ (by omega)
  have hz : (n == 0) = false := by simp; omega
  go_enter Try.func9, Try.ntmps9
  go_wp2
  go_ret
  refine ⟨((k.tmod n + n) % n).toNat, ?_, ?_, Below.refl _ _⟩
  · rw [Int.toNat_of_nonneg h3]; rfl
  · rw [Int.toNat_of_nonneg h3]; exact h4

set_option maxRecDepth 100000 in
set_option maxHeartbeats 1000000 in
theorem Clone_any {w : World} {v : Value} {l : List UInt8} (hv : RdB w v l) (hl : l.length ≤ 140737488355328) : Calls Try.prog 53 #[v] w fun e w' => ∃ v', e = .returned v' ∧ w'.ownsRow w.heap.size 5 1 v' l.length (bv l) ∧ Below w.heap.size w w' := by
  have HV : Hid (RdB w v l) := hv
  have q : ∀ (w : World) (a : Option Addr) (n c n' c' : Nat), (binOp .eql 25 (.slice a n c) (.slice none n' c')).run Try.prog w = .ok (.bool a.isNone) w := fun w a n c n' c' => Lib.run_eql_slice_nil w _ _ a n c n' c' Try.underlying25
  obtain ⟨a, c, rfl, hc, hz, hr⟩ := hv
  cases a with
  | none =>
    have hcz := hz rfl
    have hl0 : l = [] := List.eq_nil_of_length_eq_zero (by omega)
    clear hr hz
    go_enter Try.func53, Try.ntmps53
    go_wp2
    go_ret
    refine ⟨_, rfl, ?_, Below.refl _ _⟩
    rw [hl0]
    exact World.ownsRow_nil _ _ _ _
  | some ad =>
    clear hr hz
    have HO : Hid ((w.alloc (.cells #[] 5 (0, 0))).ownsRow w.heap.size 5 1 (.slice (some ⟨w.heap.size, 0, none⟩) 0 0) ([] : List UInt8).length (bv [])) := owns_heap (l := []) (heap_alloc_new _ _) (Nat.le_refl _) rfl (by unfold maxLen; simp)
    have HV1 : Hid (RdB (w.alloc (.cells #[] 5 (0, 0))) (.slice (some ad) l.length c) l) := HV.out.below ((Below.refl _ w).alloc (Nat.le_refl _) _)
    go_enter Try.func53, Try.ntmps53
    go_wp2_with (at_builtin; go_must (refine wp_appB rfl (.tmp 5) (.tmp 6) rfl w.heap.size _ _ [] l rfl HO.out rfl HV1.out (by simpa using hl) (by simp) ?_; intro v' w' ho hg))
    have HB : Hid (Below w.heap.size w w') := ((Below.refl _ w).alloc (Nat.le_refl _) _).grown hg.out (by simp) (fun k hk => by cases hk; exact Nat.le_refl _)
    go_wp2
    go_ret
    exact ⟨_, rfl, ho.out, HB.out⟩

/-- The two lists of Parts. -/
def part1 (cap head : Nat) (xs : List UInt8) : List UInt8 := xs.take (cap - head)
def part2 (cap head : Nat) (xs : List UInt8) : List UInt8 := xs.drop (cap - head)

theorem parts_win (st : List UInt8) (cap head : Nat) (xs : List UInt8) (hl : st.length = cap) (hh : head < cap) (hx : xs.length ≤ cap) (hw : win st head xs.length = xs) :
    (st.drop head).take (ahead cap head xs.length) = part1 cap head xs ∧ st.take (xs.length - ahead cap head xs.length) = part2 cap head xs := by
  have h := win_pieces st head xs.length (by omega) (by omega)
  rw [hw, hl] at h
  have l1 : ((st.drop head).take (ahead cap head xs.length)).length = ahead cap head xs.length := by
    rw [List.length_take, List.length_drop]
    unfold ahead
    omega
  have ea : ahead cap head xs.length = min (cap - head) xs.length := by unfold ahead; omega
  have e1 : part1 cap head xs = xs.take (ahead cap head xs.length) := by
    unfold part1
    rw [ea]
    by_cases c : cap - head ≤ xs.length
    · rw [Nat.min_eq_left c]
    · rw [Nat.min_eq_right (by omega), List.take_of_length_le (by omega), List.take_of_length_le (by omega)]
  have e2 : part2 cap head xs = xs.drop (ahead cap head xs.length) := by
    unfold part2
    rw [ea]
    by_cases c : cap - head ≤ xs.length
    · rw [Nat.min_eq_left c]
    · rw [Nat.min_eq_right (by omega), List.drop_eq_nil_of_le (by omega), List.drop_eq_nil_of_le (by omega)]
  generalize ahead cap head xs.length = k at *
  generalize (st.drop head).take k = p at *
  generalize st.take (xs.length - k) = q at *
  rw [e1, e2, h]
  exact ⟨(List.take_left' l1).symm, (List.drop_left' l1).symm⟩

set_option maxRecDepth 100000 in
theorem Parts_any {w : World} {rp sb cap head : Nat} {xs : List UInt8} (hR : IsRing w rp sb cap head xs) :
    Calls Try.prog 39 #[.pointer (some ⟨rp, 0, none⟩)] w fun e w' => ∃ v u, e = .returned (.tuple #[v, u]) ∧ w'.ownsRow w.heap.size 5 1 v (part1 cap head xs).length (bv (part1 cap head xs)) ∧
      w'.ownsRow w.heap.size 5 1 u (part2 cap head xs).length (bv (part2 cap head xs)) ∧ (∀ g, v.ownBlock = some g → u.ownBlock ≠ some g) ∧ Below w.heap.size w w' := by
  have HR : Hid (IsRing w rp sb cap head xs) := hR
  have hx := hR.hlen
  have hc := hR.hcap
  have hh := hR.hhead
  obtain ⟨st, hst, hstore, hwin⟩ := hR.store
  have HST : Hid (w.heap[sb]? = some (.cells (bv st).toArray 5 (0, 0))) := hstore
  obtain ⟨c0, c1, c2, cf⟩ := hR.cells
  obtain ⟨p1, p2⟩ := parts_win st cap head xs hst hh hx hwin
  have P1 : Hid ((st.drop head).take (ahead cap head xs.length) = part1 cap head xs) := p1
  have P2 : Hid (st.take (xs.length - ahead cap head xs.length) = part2 cap head xs) := p2
  have l1 : (part1 cap head xs).length ≤ 1048576 := by unfold part1; rw [List.length_take]; omega
  have l2 : (part2 cap head xs).length ≤ 1048576 := by unfold part2; rw [List.length_drop]; omega
  clear hR hwin hstore p1 p2
  go_enter Try.func39, Try.ntmps39
  go_wp2_with fail
  refine (pieces_any HR.out st hst HST.out 0 xs.length head (ahead cap head xs.length) (by omega) hx (pl_zero cap head hh).symm rfl).mono ?_
  rintro e w1 ⟨a1, a2, rfl, q1, q2, R1, R2, o1, o2, hb1⟩
  rw [P1.out] at R1
  rw [P2.out] at R2
  have RA : Hid (RdB w1 (.slice a1 (ahead cap head xs.length) (ahead cap head xs.length)) (part1 cap head xs)) := R1
  have RB : Hid (RdB w1 (.slice a2 (xs.length - ahead cap head xs.length) (xs.length - ahead cap head xs.length)) (part2 cap head xs)) := R2
  have HB1 : Hid (Below w.heap.size w w1) := hb1
  clear q1 q2 R1 R2 o1 o2 hb1 P1 P2
  generalize ahead cap head xs.length = k at *
  go_wp2_with fail
  refine (Clone_any RA.out (by omega)).mono ?_
  rintro e w2 ⟨v, rfl, ho2, hb2⟩
  have HO2 : Hid (w2.ownsRow w1.heap.size 5 1 v (part1 cap head xs).length (bv (part1 cap head xs))) := ho2
  have HB2 : Hid (Below w1.heap.size w1 w2) := hb2
  clear ho2 hb2
  go_wp2_with fail
  refine (Clone_any (RB.out.below HB2.out) (by omega)).mono ?_
  rintro e w3 ⟨u, rfl, ho3, hb3⟩
  have HO3 : Hid (w3.ownsRow w2.heap.size 5 1 u (part2 cap head xs).length (bv (part2 cap head xs))) := ho3
  have HB3 : Hid (Below w2.heap.size w2 w3) := hb3
  clear ho3 hb3
  go_wp2
  go_ret2
  have s1 := HB1.out.size
  have s2 := HB2.out.size
  have lower : ∀ {W : World} {B B' : Nat} {v : Value} {n : Nat} {xs : List Value}, W.ownsRow B 5 1 v n xs → B' ≤ B → W.ownsRow B' 5 1 v n xs := by
    intro W B B' v n xs h hB
    refine ⟨h.1, ?_⟩
    rcases h.2 with hz | ⟨g, cap, cur, e, hb, r⟩
    · exact .inl hz
    · exact .inr ⟨g, cap, cur, e, by omega, r⟩
  refine ⟨_, _, rfl, lower ((But.of_below HB3.out).owns HO2.out (fun _ _ e => by cases e)) s1, lower HO3.out (by omega), ?_, bel_trans (bel_trans HB1.out HB2.out) HB3.out⟩
  intro g hg hu
  have h1 := (World.ownsRow.lt HO2.out g hg).2
  have h2 := (World.ownsRow.lt HO3.out g hu).1
  omega

/-- A row just built. -/
theorem RdB.built (w : World) (l : List UInt8) (cs : Array Value) (hc : cs = (bv l).toArray) : RdB (w.alloc (.cells cs 5 (0, 0))) (.slice (some ⟨w.heap.size, 0, none⟩) l.length l.length) l := by
  subst hc
  refine ⟨_, _, rfl, Nat.le_refl _, (fun e => by cases e), .inr ⟨w.heap.size, 0, rfl, fun j x hj => ?_⟩⟩
  rw [cell_of_row _ w.heap.size _ _ _ _ (heap_alloc_new w _)]
  simp [bv, hj]

set_option maxRecDepth 100000 in
set_option maxHeartbeats 1000000 in
theorem awake_any (w : World) : Calls Try.prog 6 #[] w fun e w' => e = .returned (.bool true) ∧ Below w.heap.size w w' := by
  go_enter Try.func6, Try.ntmps6
  go_wp2_with fail
  refine (New_any w 2 (by omega) (by omega)).mono ?_
  rintro e w1 ⟨rfl, hR1, hb1⟩
  have HR1 : Hid (IsRing w1 (w.heap.size + 1) w.heap.size 2 0 []) := hR1
  have HB1 : Hid (Below w.heap.size w w1) := hb1
  have hs1 : w.heap.size + 1 < w1.heap.size := hR1.lt1
  clear hR1 hb1
  generalize hrp : w.heap.size + 1 = rp at *
  have hsb : w.heap.size < rp := by omega
  have HBase : Hid (rp = w.heap.size + 1) := hrp.symm
  clear hrp
  go_wp2_with fail
  have hA1 : Below w1.heap.size w1 (w1.alloc (.cells #[.int .u8 7, .int .u8 8, .int .u8 9] 5)) := (Below.refl _ w1).alloc (Nat.le_refl _) _
  refine (Put_any (HR1.out.below hA1) _ [7, 8, 9] (RdB.built w1 [7, 8, 9] _ (by simp [bv])) (fun g hg => by injection hg with hg; have := HR1.out.lt1; have := HR1.out.lt2; simp at hg; omega) (by simp) 2 (by simp)).mono ?_
  rintro e w2 ⟨rfl, hR2, hb2⟩
  have HB2 : Hid (Below w.heap.size w w2) := HB1.out.trans ((hA1.mono (HB1.out.size)).trans (hb2.below (by have := HB1.out.size; simp; omega) (by simp; omega)))
  have HR2 : Hid (IsRing w2 rp w.heap.size 2 0 [7, 8]) := hR2
  clear hR2 hb2 hA1
  go_wp2_with fail
  refine (Take_any HR2.out 2 (by omega) (by omega) 2 (by decide)).mono ?_
  rintro e w3 ⟨v, rfl, ho3, hR3, hb3⟩
  have HB3 : Hid (Below w.heap.size w w3) := HB2.out.trans (hb3.below HB2.out.size (by simp; omega))
  have HR3 : Hid (IsRing w3 rp w.heap.size 2 0 []) := hR3
  have HV3 : Hid (RdB w3 v [7, 8]) := RdB.own (l := [7, 8]) ho3
  clear ho3 hR3 hb3
  go_wp2_with fail
  have hA3 : Below w3.heap.size w3 (w3.alloc (.cells #[.int .u8 7, .int .u8 8] 5)) := (Below.refl _ w3).alloc (Nat.le_refl _) _
  refine (same_any (HV3.out.below hA3) (RdB.built w3 [7, 8] _ (by simp [bv])) true (by decide)).mono ?_
  rintro e w4 ⟨rfl, hb4⟩
  have HB4 : Hid (Below w3.heap.size w3 w4) := bel_trans hA3 hb4
  clear hA3 hb4
  go_wp2_with fail
  refine (Head_any (HR3.out.below HB4.out)).mono ?_
  rintro e w5 ⟨rfl, hb5⟩
  have HB5 : Hid (Below w3.heap.size w3 w5) := bel_trans HB4.out hb5
  clear hb5
  go_wp2_with fail
  have hA5 : Below w5.heap.size w5 (w5.alloc (.cells #[.int .u8 1, .int .u8 2, .int .u8 3] 5)) := (Below.refl _ w5).alloc (Nat.le_refl _) _
  refine (PutAll_full ((HR3.out.below HB5.out).below hA5) _ [1, 2, 3] (RdB.built w5 [1, 2, 3] _ (by simp [bv])) (by simp) (by simp)).mono ?_
  rintro e w6 ⟨rfl, hb6⟩
  have HB6 : Hid (Below w.heap.size w w6) := bel_trans HB3.out (bel_trans HB5.out (bel_trans hA5 hb6))
  clear hA5 hb6
  go_wp2
  go_ret
  exact ⟨rfl, HB6.out⟩

end Rg
end Go.Proofs.Ytjhlflochheolaa

/-
  'append([]byte{}, p...)': a copy of the call's own.
-/
set_option linter.unusedVariables false
set_option linter.unusedSimpArgs false
namespace Go.Proofs.Ytjhlflochheolaa
open Go.RowKit
namespace Rg

theorem own_empty (W : World) : (W.alloc (.cells #[] 5)).ownsRow W.heap.size 5 1 (.slice (some ⟨W.heap.size, 0, none⟩) 0 0) ([] : List UInt8).length (bv []) := owns_heap (l := []) (heap_alloc_new _ _) (Nat.le_refl _) rfl (by unfold maxLen; simp)
theorem owns_slice {w : World} {B T S : Nat} {v : Value} {n : Nat} {xs : List Value} (h : w.ownsRow B T S v n xs) : ∃ a c, v = .slice a n c ∧ n ≤ c := by
  rcases h.2 with ⟨e, h0⟩ | ⟨g, c, _, e, _, _, hc, _⟩
  · exact ⟨none, 0, by rw [e, h0], by omega⟩
  · exact ⟨_, c, e, hc⟩

theorem wp_new {ops : Array Oper} {rest : List Oper} {o : Oper} {a : Act} {Q : Exit → Act → World → Prop} (hw : Region.wanted o (yielded ops a.tmps) = true) (s x : Operand)
    (ho : o.op = .call { callee := .builtin .append, args := #[s, x], argTypes := #[25, 25] }) (W : World) (y : Value) (u : List UInt8) (n : Nat) (hn : n = u.length)
    (hs : a.eval s = .slice (some ⟨W.heap.size, 0, none⟩) 0 0) (hx : a.eval x = y) (hy : RdB W y u) (hlen : u.length ≤ 140737488355328)
    (h : ∀ a' c' w', Hid (w'.ownsRow W.heap.size 5 1 (.slice a' n c') n (bv u)) → Hid (Below W.heap.size W w') → wpList Try.prog ops Q rest (a.put o.dst (.slice a' n c')) w') : wpList Try.prog ops Q (o :: rest) a (W.alloc (.cells #[] 5)) := by
  subst hn
  refine wp_appB hw s x ho W.heap.size _ y [] u hs (own_empty W) hx (hy.below ((Below.refl _ W).alloc (Nat.le_refl _) _)) (by simpa using hlen) (by simp) ?_
  intro v' w' h1 h2
  obtain ⟨a', c', rfl, _⟩ := owns_slice h1.out
  exact h a' c' w' h1.out (((Below.refl _ W).alloc (Nat.le_refl _) _).grown h2.out (by simp) (fun k hk => by cases hk; exact Nat.le_refl _))
theorem step_new {ops : Array Oper} {o : Oper} {a : Act} {K : Act → World → Prop} {Q : Exit → Act → World → Prop} {E : Prop} (hgd : o.guard = none) (s x : Operand)
    (ho : o.op = .call { callee := .builtin .append, args := #[s, x], argTypes := #[25, 25] }) (W : World) (y : Value) (u : List UInt8) (n : Nat) (hn : n = u.length)
    (hs : a.eval s = .slice (some ⟨W.heap.size, 0, none⟩) 0 0) (hx : a.eval x = y) (hy : RdB W y u) (hlen : u.length ≤ 140737488355328)
    (h : ∀ a' c' w', Hid (w'.ownsRow W.heap.size 5 1 (.slice a' n c') n (bv u)) → Hid (Below W.heap.size W w') → K (a.put o.dst (.slice a' n c')) w') : if Region.wanted o (yielded ops a.tmps) = true then Oper.wp Try.prog o a (W.alloc (.cells #[] 5)) K Q else E := by
  subst hn
  refine step_appB hgd s x ho W.heap.size _ y [] u hs (own_empty W) hx (hy.below ((Below.refl _ W).alloc (Nat.le_refl _) _)) (by simpa using hlen) (by simp) ?_
  intro v' w' h1 h2
  obtain ⟨a', c', rfl, _⟩ := owns_slice h1.out
  exact h a' c' w' h1.out (((Below.refl _ W).alloc (Nat.le_refl _) _).grown h2.out (by simp) (fun k hk => by cases hk; exact Nat.le_refl _))

theorem own_cap {w : World} {B T S n c : Nat} {a : Option Addr} {xs : List Value} (h : w.ownsRow B T S (.slice a n c) n xs) : c ≤ 9223372036854775807 := by
  rcases h.2 with ⟨e, _⟩ | ⟨g, c', _, e, _, _, _, hm, _⟩
  · injection e with _ _ e; omega
  · injection e with _ _ e; rw [e]; unfold maxLen at hm; omega
theorem bv_len' {w : World} {B T n : Nat} {v : Value} {l : List UInt8} (h : w.ownsRow B T 1 v n (bv l)) : w.ownsRow B T 1 v l.length (bv l) := by
  have hn := owns_len h
  subst hn
  exact h

theorem rd_len {w : World} {a : Option Addr} {n c : Nat} {l : List UInt8} (h : RdB w (.slice a n c) l) : n = l.length ∧ n ≤ c := by
  obtain ⟨a', c', e, hc, _⟩ := h
  injection e with _ e2 e3
  subst e3
  exact ⟨e2, by omega⟩

end Rg
end Go.Proofs.Ytjhlflochheolaa

/-
  The queue's Push.
-/
set_option maxRecDepth 100000
set_option linter.unusedVariables false
set_option linter.unusedSimpArgs false
namespace Go.Proofs.Ytjhlflochheolaa
open Go.RowKit
namespace Rg

theorem wait_succ (cap head c : Nat) (cs : List Value) : wait cap head (c + 1) 1 cs = wait cap head c 1 cs ++ [(cs.drop (pl cap head c)).take 1] := by
  unfold wait
  rw [List.range_succ, List.map_append]
  simp
theorem wait_congr {cap head c : Nat} {cs ds : List Value} (h : ∀ i, i < c → cs[pl cap head i]? = ds[pl cap head i]?) : wait cap head c 1 cs = wait cap head c 1 ds := by
  unfold wait
  refine List.map_congr_left fun i hi => ?_
  have e := h i (List.mem_range.1 hi)
  rw [Nat.mul_one]
  have t1 : ∀ (l : List Value) k, (l.drop k).take 1 = l[k]?.toList := fun l k => by
    rcases Nat.lt_or_ge k l.length with hk | hk
    · rw [List.drop_eq_getElem_cons hk, List.getElem?_eq_getElem hk]
      rfl
    · rw [List.drop_of_length_le hk, List.getElem?_eq_none hk]
      rfl
  rw [t1, t1, e]
/-- Behind a push into a place that stands. -/
theorem wait_set {cap head c : Nat} {cs : List Value} {v : Value} (hh : head < cap) (hc : c < cap) (hp : pl cap head c < cs.length) : wait cap head (c + 1) 1 (cs.set (pl cap head c) v) = wait cap head c 1 cs ++ [[v]] := by
  rw [wait_succ]
  congr 1
  · refine wait_congr fun i hi => ?_
    rw [List.getElem?_set_ne]
    unfold pl
    split <;> split <;> omega
  · rw [List.drop_eq_getElem_cons (by simpa using hp)]
    simp
/-- Behind a push at the store's end. -/
theorem wait_app {cap head c : Nat} {cs : List Value} {v : Value} (hh : ∀ i, i < c → pl cap head i < cs.length) (hp : pl cap head c = cs.length) : wait cap head (c + 1) 1 (cs ++ [v]) = wait cap head c 1 cs ++ [[v]] := by
  rw [wait_succ]
  congr 1
  · refine wait_congr fun i hi => ?_
    rw [List.getElem?_append_left (hh i hi)]
  · rw [hp]
    simp

theorem infoQ_S : (Try.prog.info? 9).map (fun i => (i.zero, i.size, i.bytes)) = some (some (.string ⟨#[]⟩), 1, 16) := by kernel_rfl
theorem wp_appQ_S {ops : Array Oper} {rest : List Oper} {o : Oper} {a : Act} {Q : Exit → Act → World → Prop} (hgd : o.guard = none) (s x : Operand)
    (ho : o.op = .call { callee := .builtin .append, args := #[s, x], argTypes := #[50, 50] }) (v : Value) (n : Nat) (cs : List Value) (W : World) (z : ByteArray)
    (hs : a.eval s = v) (hown : W.ownsRow 0 9 1 v n cs) (hx : a.eval x = .slice (some ⟨W.heap.size, 0, none⟩) 1 1) (hlen : n ≤ 65536)
    (h : ∀ v' w', Hid (w'.ownsRow 0 9 1 v' (n + 1) (cs ++ [.string z])) → Hid (But v.ownBlock.toList W w') → Hid (∀ g, v'.ownBlock = some g → v.ownBlock = some g ∨ W.heap.size ≤ g) → wpList Try.prog ops Q rest (a.put o.dst v') w') : wpList Try.prog ops Q (o :: rest) a (W.alloc (.cells #[.string z] 9)) := by
  obtain ⟨i0, hi, hz0, hz1, hz2⟩ := info_parts infoQ_S
  refine wpList_append_own_at _ hgd s x 50 ho 0 9 i0 (.string ⟨#[]⟩) 1 16 Try.underlying50 hi hz0 hz1 hz2 rfl (by decide) v n _ hs (World.ownsRow.alloc hown _) ⟨W.heap.size, 0, none⟩ 1 1 [.string z] hx rfl ?_ ?_ ?_ ?_ ?_ ?_
  · intro j u hj
    match j, hj with
    | 0, hj => simp at hj; subst hj; simp [Addr.add]
  · intro u hu; simp at hu; subst hu; rfl
  · unfold maxLen; omega
  · omega
  · simp
  · intro v' w' h2 h3 h4 h5
    refine h v' w' h2 (((But.refl _ W).alloc _).grown h3 (fun k hk => by rw [hk]; simp)) (fun g hg => ?_)
    rcases h5 with e | e
    · rw [← e]; exact .inl hg
    · rw [e] at hg
      simp at hg
      exact .inr (by omega)

set_option maxHeartbeats 2000000 in
theorem qPush_S {w : World} {p : Option Addr} {bs : List Nat} {cap : Nat} {xs : List (List Value)} (HQ : QP w 9 1 87 p bs cap xs) (x : ByteArray) (hlt : xs.length < cap) : Calls Try.prog 19 #[.pointer p, .string x] w fun e w' => e = .returned (.int .i64 0) ∧ ∃ bs', QP w' 9 1 87 p bs' cap (xs ++ [[.string x]]) ∧ (∀ b ∈ bs', b ∈ bs ∨ w.heap.size ≤ b) ∧ But bs w w' := by
  have HQ' : Hid (QP w 9 1 87 p bs cap xs) := HQ
  rcases HQ with ⟨rfl, _, rfl, _⟩ | ⟨qp, sv, head, n, cs, rfl, hbs, H, hxs⟩
  · omega
  have HBS : Hid (bs = qp :: sv.ownBlock.toList) := hbs
  have HXS : Hid (xs = wait cap head xs.length 1 cs) := hxs
  obtain ⟨a, c, rfl, hcn⟩ := owns_slice H.own
  have HH : Hid (IsQ w 9 1 87 qp (.slice a n c) cap head xs.length n cs) := H
  have hcap := H.cap2
  have hn := H.hn
  have hle := H.hc
  obtain ⟨hq1, hq2⟩ := H.pl_next hlt
  clear H hxs hbs
  obtain ⟨P, hP⟩ : ∃ P, P = pl cap head xs.length := ⟨_, rfl⟩
  rw [← hP] at hq1 hq2
  have HPP : Hid (pl cap head xs.length = P) := hP.symm
  clear hP
  have hne : (((xs.length : Nat) : Int) == ((cap : Nat) : Int)) = false := by simp; omega
  go_enter Try.func19, Try.ntmps19
  go_wp2_with fail
  refine (qLen_S HQ'.out).mono ?_
  rintro e w1 ⟨rfl, hb⟩
  have HB1 : Hid (Below w.heap.size w w1) := hb
  clear hb
  go_wp2_with fail
  refine (qCap_S (HQ'.out.below HB1.out)).mono ?_
  rintro e w2 ⟨rfl, hb⟩
  have HB2 : Hid (Below w.heap.size w w2) := bel_trans HB1.out hb
  clear hb
  obtain ⟨c0, c1, c2, c3, cf⟩ := row4q (HH.out.below HB2.out).str
  go_wp2_with fail
  refine (qPlace_S (HH.out.below HB2.out) xs.length (by omega)).mono ?_
  rintro e w3 ⟨rfl, hb⟩
  rw [HPP.out]
  have HB3 : Hid (Below w.heap.size w w3) := bel_trans HB2.out hb
  have H3 : Hid (IsQ w3 9 1 87 qp (.slice a n c) cap head xs.length n cs) := HH.out.below HB3.out
  clear hb c0 c1 c2 c3 cf
  obtain ⟨c0, c1, c2, c3, cf⟩ := row4q H3.out.str
  by_cases hfull : n < cap
  · have hPn := hq1 hfull
    have hpe : (((P : Nat) : Int) == ((n : Nat) : Int)) = true := by simp; omega
    have hn6 : n ≤ 65536 := by omega
    go_wp2_with (at_builtin; go_must (refine wp_appQ_S rfl (.tmp 28) (.tmp 30) rfl (.slice a n c) n cs w3 x rfl H3.out.own rfl hn6 ?_; intro v6 w6 ho6 hb6 hg6; obtain ⟨a6, c6, rfl, hc6⟩ := owns_slice ho6.out; have S6 : Hid (_ = some _) := hb6.out.heap H3.out.str (fun hm => by have := H3.out.sep qp (by simpa using hm); exact this rfl); obtain ⟨e0, e1, e2, e3, ef⟩ := row4q S6.out))
    have z1 := heap_setCell_same w6 qp 0 _ _ (.slice a6 (n + 1) c6) S6.out
    have z2 := heap_setCell_same _ qp 3 _ _ (.int .i64 (((xs.length + 1 : Nat) : Nat) : Int)) z1
    have hqp : qp < w3.heap.size := (Array.getElem?_eq_some_iff.1 H3.out.str).1
    have hsep : ∀ g, (Value.slice a6 (n + 1) c6).ownBlock = some g → g ≠ qp := fun g hg => by
      rcases hg6.out g hg with e | e
      · exact H3.out.sep g e
      · omega
    have BT : But [qp] w6 ((w6.setCell ⟨qp, 0, none⟩ (.slice a6 (n + 1) c6)).setCell ⟨qp, 3, none⟩ (.int .i64 ((xs.length : Int) + 1))) := ((But.refl _ w6).setCell (by simp) _).setCell (by simp) _
    have hl : (xs ++ [[(.string x : Value)]]).length = xs.length + 1 := by simp
    have hcl : cs.length = n := by have := H3.out.own.1; omega
    go_ret
    refine ⟨rfl, qp :: (Value.slice a6 (n + 1) c6).ownBlock.toList, .inr ⟨qp, .slice a6 (n + 1) c6, head, n + 1, cs ++ [.string x], rfl, rfl, ?_, ?_⟩, ?_, ?_⟩
    · rw [hl]
      exact ⟨z2, BT.owns ho6.out (fun g hg => by have := hsep g hg; simpa using this), hsep, H3.out.cap1, H3.out.cap2, by omega, by omega, H3.out.hh, fun h => by have := H3.out.grow hfull; omega⟩
    · rw [hl, wait_app (fun i hi => by rw [hcl]; exact H3.out.pl_lt hi) (by rw [HPP.out, hcl]; exact hPn), ← HXS.out]
    · intro b hb
      rw [HBS.out]
      rcases List.mem_cons.1 hb with rfl | hb
      · exact .inl (by simp)
      · rcases hg6.out b (by simpa using hb) with e | e
        · exact .inl (by rw [e]; simp)
        · exact .inr (by have := HB3.out.size; omega)
    · rw [HBS.out]
      exact (((But.of_below HB3.out).nil.trans (hb6.out.mono (fun y hy => List.mem_cons_of_mem _ hy)))).trans (BT.mono (by simp))
  · have hnc : n = cap := by omega
    have hPn := hq2 hnc
    have hpe : (((P : Nat) : Int) == ((n : Nat) : Int)) = false := by simp; omega
    have hpl : ((P : Nat) : Int) < ((n : Nat) : Int) := by omega
    obtain ⟨g, rfl⟩ : ∃ g, a = some ⟨g, 0, none⟩ := by
      rcases H3.out.own.2 with ⟨_, e⟩ | ⟨g, c', _, e, _⟩
      · omega
      · injection e with e1 _ _
        exact ⟨g, e1⟩
    have hgq : g ≠ qp := H3.out.sep g rfl
    have hcl : cs.length = n := by have := H3.out.own.1; omega
    obtain ⟨u, hu⟩ : ∃ u, w3.cell? ⟨g, P, none⟩ = some u := by
      rw [H3.out.own.cellAt P (by omega)]
      exact ⟨_, List.getElem?_eq_getElem (by omega)⟩
    have hf := H3.out.own.frozenAt P
    have OS : Hid ((w3.setCell ⟨g, P, none⟩ (.string x)).ownsRow 0 9 1 (.slice (some ⟨g, 0, none⟩) n c) n (cs.set P (.string x))) := (H3.out.own.stored P _).1
    have BG : Hid (But [g] w3 (w3.setCell ⟨g, P, none⟩ (.string x))) := (But.refl _ w3).setCell (by simp) _
    have S6 : Hid (_ = some _) := BG.out.heap H3.out.str (by simpa using fun e => hgq e.symm)
    have z2' := heap_setCell_same _ qp 3 _ _ (.int .i64 (((xs.length + 1 : Nat) : Nat) : Int)) S6.out
    have Z2 : Hid (_ = _) := z2'
    have hl : (xs ++ [[(.string x : Value)]]).length = xs.length + 1 := by simp
    clear z2'
    go_wp2
    go_ret
    have BT : But [qp] (w3.setCell ⟨g, P, none⟩ (.string x)) ((w3.setCell ⟨g, P, none⟩ (.string x)).setCell ⟨qp, 3, none⟩ (.int .i64 ((xs.length : Int) + 1))) := (But.refl _ _).setCell (by simp) _
    refine ⟨rfl, bs, .inr ⟨qp, .slice (some ⟨g, 0, none⟩) n c, head, n, cs.set P (.string x), rfl, HBS.out, ?_, ?_⟩, fun b hb => .inl hb, ?_⟩
    · rw [hl]
      exact ⟨Z2.out, BT.owns OS.out (fun g' hg => by have := H3.out.sep g' hg; simpa using this), H3.out.sep, H3.out.cap1, H3.out.cap2, H3.out.hn, by omega, H3.out.hh, fun h => by omega⟩
    · have hw := wait_set (v := .string x) (cs := cs) H3.out.hh hlt (by rw [HPP.out, hcl]; exact hPn)
      rw [HPP.out] at hw
      rw [hl, hw, ← HXS.out]
    · rw [HBS.out]
      exact (((But.of_below HB3.out).nil.trans (BG.out.mono (by simp [Value.ownBlock])))).trans (BT.mono (by simp))

theorem infoQ_I : (Try.prog.info? 3).map (fun i => (i.zero, i.size, i.bytes)) = some (some (.int .i64 0), 1, 8) := by kernel_rfl
theorem wp_appQ_I {ops : Array Oper} {rest : List Oper} {o : Oper} {a : Act} {Q : Exit → Act → World → Prop} (hgd : o.guard = none) (s x : Operand)
    (ho : o.op = .call { callee := .builtin .append, args := #[s, x], argTypes := #[59, 59] }) (v : Value) (n : Nat) (cs : List Value) (W : World) (z : Int)
    (hs : a.eval s = v) (hown : W.ownsRow 0 3 1 v n cs) (hx : a.eval x = .slice (some ⟨W.heap.size, 0, none⟩) 1 1) (hlen : n ≤ 65536)
    (h : ∀ v' w', Hid (w'.ownsRow 0 3 1 v' (n + 1) (cs ++ [.int .i64 z])) → Hid (But v.ownBlock.toList W w') → Hid (∀ g, v'.ownBlock = some g → v.ownBlock = some g ∨ W.heap.size ≤ g) → wpList Try.prog ops Q rest (a.put o.dst v') w') : wpList Try.prog ops Q (o :: rest) a (W.alloc (.cells #[.int .i64 z] 3)) := by
  obtain ⟨i0, hi, hz0, hz1, hz2⟩ := info_parts infoQ_I
  refine wpList_append_own_at _ hgd s x 59 ho 0 3 i0 (.int .i64 0) 1 8 Try.underlying59 hi hz0 hz1 hz2 rfl (by decide) v n _ hs (World.ownsRow.alloc hown _) ⟨W.heap.size, 0, none⟩ 1 1 [.int .i64 z] hx rfl ?_ ?_ ?_ ?_ ?_ ?_
  · intro j u hj
    match j, hj with
    | 0, hj => simp at hj; subst hj; simp [Addr.add]
  · intro u hu; simp at hu; subst hu; rfl
  · unfold maxLen; omega
  · omega
  · simp
  · intro v' w' h2 h3 h4 h5
    refine h v' w' h2 (((But.refl _ W).alloc _).grown h3 (fun k hk => by rw [hk]; simp)) (fun g hg => ?_)
    rcases h5 with e | e
    · rw [← e]; exact .inl hg
    · rw [e] at hg
      simp at hg
      exact .inr (by omega)

set_option maxHeartbeats 2000000 in
theorem qPush_I {w : World} {p : Option Addr} {bs : List Nat} {cap : Nat} {xs : List (List Value)} (HQ : QP w 3 1 92 p bs cap xs) (x : Int) (hlt : xs.length < cap) : Calls Try.prog 28 #[.pointer p, .int .i64 x] w fun e w' => e = .returned (.int .i64 0) ∧ ∃ bs', QP w' 3 1 92 p bs' cap (xs ++ [[.int .i64 x]]) ∧ (∀ b ∈ bs', b ∈ bs ∨ w.heap.size ≤ b) ∧ But bs w w' := by
  have HQ' : Hid (QP w 3 1 92 p bs cap xs) := HQ
  rcases HQ with ⟨rfl, _, rfl, _⟩ | ⟨qp, sv, head, n, cs, rfl, hbs, H, hxs⟩
  · omega
  have HBS : Hid (bs = qp :: sv.ownBlock.toList) := hbs
  have HXS : Hid (xs = wait cap head xs.length 1 cs) := hxs
  obtain ⟨a, c, rfl, hcn⟩ := owns_slice H.own
  have HH : Hid (IsQ w 3 1 92 qp (.slice a n c) cap head xs.length n cs) := H
  have hcap := H.cap2
  have hn := H.hn
  have hle := H.hc
  obtain ⟨hq1, hq2⟩ := H.pl_next hlt
  clear H hxs hbs
  obtain ⟨P, hP⟩ : ∃ P, P = pl cap head xs.length := ⟨_, rfl⟩
  rw [← hP] at hq1 hq2
  have HPP : Hid (pl cap head xs.length = P) := hP.symm
  clear hP
  have hne : (((xs.length : Nat) : Int) == ((cap : Nat) : Int)) = false := by simp; omega
  go_enter Try.func28, Try.ntmps28
  go_wp2_with fail
  refine (qLen_I HQ'.out).mono ?_
  rintro e w1 ⟨rfl, hb⟩
  have HB1 : Hid (Below w.heap.size w w1) := hb
  clear hb
  go_wp2_with fail
  refine (qCap_I (HQ'.out.below HB1.out)).mono ?_
  rintro e w2 ⟨rfl, hb⟩
  have HB2 : Hid (Below w.heap.size w w2) := bel_trans HB1.out hb
  clear hb
  obtain ⟨c0, c1, c2, c3, cf⟩ := row4q (HH.out.below HB2.out).str
  go_wp2_with fail
  refine (qPlace_I (HH.out.below HB2.out) xs.length (by omega)).mono ?_
  rintro e w3 ⟨rfl, hb⟩
  rw [HPP.out]
  have HB3 : Hid (Below w.heap.size w w3) := bel_trans HB2.out hb
  have H3 : Hid (IsQ w3 3 1 92 qp (.slice a n c) cap head xs.length n cs) := HH.out.below HB3.out
  clear hb c0 c1 c2 c3 cf
  obtain ⟨c0, c1, c2, c3, cf⟩ := row4q H3.out.str
  by_cases hfull : n < cap
  · have hPn := hq1 hfull
    have hpe : (((P : Nat) : Int) == ((n : Nat) : Int)) = true := by simp; omega
    have hn6 : n ≤ 65536 := by omega
    go_wp2_with (at_builtin; go_must (refine wp_appQ_I rfl (.tmp 28) (.tmp 30) rfl (.slice a n c) n cs w3 x rfl H3.out.own rfl hn6 ?_; intro v6 w6 ho6 hb6 hg6; obtain ⟨a6, c6, rfl, hc6⟩ := owns_slice ho6.out; have S6 : Hid (_ = some _) := hb6.out.heap H3.out.str (fun hm => by have := H3.out.sep qp (by simpa using hm); exact this rfl); obtain ⟨e0, e1, e2, e3, ef⟩ := row4q S6.out))
    have z1 := heap_setCell_same w6 qp 0 _ _ (.slice a6 (n + 1) c6) S6.out
    have z2 := heap_setCell_same _ qp 3 _ _ (.int .i64 (((xs.length + 1 : Nat) : Nat) : Int)) z1
    have hqp : qp < w3.heap.size := (Array.getElem?_eq_some_iff.1 H3.out.str).1
    have hsep : ∀ g, (Value.slice a6 (n + 1) c6).ownBlock = some g → g ≠ qp := fun g hg => by
      rcases hg6.out g hg with e | e
      · exact H3.out.sep g e
      · omega
    have BT : But [qp] w6 ((w6.setCell ⟨qp, 0, none⟩ (.slice a6 (n + 1) c6)).setCell ⟨qp, 3, none⟩ (.int .i64 ((xs.length : Int) + 1))) := ((But.refl _ w6).setCell (by simp) _).setCell (by simp) _
    have hl : (xs ++ [[(.int .i64 x : Value)]]).length = xs.length + 1 := by simp
    have hcl : cs.length = n := by have := H3.out.own.1; omega
    go_ret
    refine ⟨rfl, qp :: (Value.slice a6 (n + 1) c6).ownBlock.toList, .inr ⟨qp, .slice a6 (n + 1) c6, head, n + 1, cs ++ [.int .i64 x], rfl, rfl, ?_, ?_⟩, ?_, ?_⟩
    · rw [hl]
      exact ⟨z2, BT.owns ho6.out (fun g hg => by have := hsep g hg; simpa using this), hsep, H3.out.cap1, H3.out.cap2, by omega, by omega, H3.out.hh, fun h => by have := H3.out.grow hfull; omega⟩
    · rw [hl, wait_app (fun i hi => by rw [hcl]; exact H3.out.pl_lt hi) (by rw [HPP.out, hcl]; exact hPn), ← HXS.out]
    · intro b hb
      rw [HBS.out]
      rcases List.mem_cons.1 hb with rfl | hb
      · exact .inl (by simp)
      · rcases hg6.out b (by simpa using hb) with e | e
        · exact .inl (by rw [e]; simp)
        · exact .inr (by have := HB3.out.size; omega)
    · rw [HBS.out]
      exact (((But.of_below HB3.out).nil.trans (hb6.out.mono (fun y hy => List.mem_cons_of_mem _ hy)))).trans (BT.mono (by simp))
  · have hnc : n = cap := by omega
    have hPn := hq2 hnc
    have hpe : (((P : Nat) : Int) == ((n : Nat) : Int)) = false := by simp; omega
    have hpl : ((P : Nat) : Int) < ((n : Nat) : Int) := by omega
    obtain ⟨g, rfl⟩ : ∃ g, a = some ⟨g, 0, none⟩ := by
      rcases H3.out.own.2 with ⟨_, e⟩ | ⟨g, c', _, e, _⟩
      · omega
      · injection e with e1 _ _
        exact ⟨g, e1⟩
    have hgq : g ≠ qp := H3.out.sep g rfl
    have hcl : cs.length = n := by have := H3.out.own.1; omega
    obtain ⟨u, hu⟩ : ∃ u, w3.cell? ⟨g, P, none⟩ = some u := by
      rw [H3.out.own.cellAt P (by omega)]
      exact ⟨_, List.getElem?_eq_getElem (by omega)⟩
    have hf := H3.out.own.frozenAt P
    have OS : Hid ((w3.setCell ⟨g, P, none⟩ (.int .i64 x)).ownsRow 0 3 1 (.slice (some ⟨g, 0, none⟩) n c) n (cs.set P (.int .i64 x))) := (H3.out.own.stored P _).1
    have BG : Hid (But [g] w3 (w3.setCell ⟨g, P, none⟩ (.int .i64 x))) := (But.refl _ w3).setCell (by simp) _
    have S6 : Hid (_ = some _) := BG.out.heap H3.out.str (by simpa using fun e => hgq e.symm)
    have z2' := heap_setCell_same _ qp 3 _ _ (.int .i64 (((xs.length + 1 : Nat) : Nat) : Int)) S6.out
    have Z2 : Hid (_ = _) := z2'
    have hl : (xs ++ [[(.int .i64 x : Value)]]).length = xs.length + 1 := by simp
    clear z2'
    go_wp2
    go_ret
    have BT : But [qp] (w3.setCell ⟨g, P, none⟩ (.int .i64 x)) ((w3.setCell ⟨g, P, none⟩ (.int .i64 x)).setCell ⟨qp, 3, none⟩ (.int .i64 ((xs.length : Int) + 1))) := (But.refl _ _).setCell (by simp) _
    refine ⟨rfl, bs, .inr ⟨qp, .slice (some ⟨g, 0, none⟩) n c, head, n, cs.set P (.int .i64 x), rfl, HBS.out, ?_, ?_⟩, fun b hb => .inl hb, ?_⟩
    · rw [hl]
      exact ⟨Z2.out, BT.owns OS.out (fun g' hg => by have := H3.out.sep g' hg; simpa using this), H3.out.sep, H3.out.cap1, H3.out.cap2, H3.out.hn, by omega, H3.out.hh, fun h => by omega⟩
    · have hw := wait_set (v := .int .i64 x) (cs := cs) H3.out.hh hlt (by rw [HPP.out, hcl]; exact hPn)
      rw [HPP.out] at hw
      rw [hl, hw, ← HXS.out]
    · rw [HBS.out]
      exact (((But.of_below HB3.out).nil.trans (BG.out.mono (by simp [Value.ownBlock])))).trans (BT.mono (by simp))

end Rg
end Go.Proofs.Ytjhlflochheolaa
