/- Several texts as one. -/
import Derived.Test.YtclciccgcegpmaaMgB
import Derived.Laws.BytesArg
import Derived.Lib.SliceRun
import Derived.Test.YtclciccgcegpmaaMgA
import Derived.Test.YtclciccgcegpmaaProg
import Derived.ProofKit
import Derived.OpenShut
import Derived.Carry
import Derived.ChangeSlices
import Derived.ChangeOld
import Derived.SizedLaws
/-
  What the laws call of their own: same, kind; bytes.Clone; Parts; awake.
-/
set_option linter.unusedVariables false
set_option linter.unusedSimpArgs false
namespace Go.Proofs.Ytclciccgcegpmaa
open Go.RowKit
namespace Rg

/-- The text of a list's bytes. -/
def tx (l : List UInt8) : ByteArray := ⟨l.toArray⟩
theorem tx_inj {a b : List UInt8} (h : tx a = tx b) : a = b := by
  have := congrArg (fun x => x.data.toList) h
  simpa [tx] using this
theorem tx_list (a : List UInt8) : (tx a).data.toList = a := by simp [tx]

set_option maxRecDepth 100000 in
theorem run_conv {w : World} {v : Value} {l : List UInt8} (h : RdB w v l) : (convert 25 9 v).run Try.prog w = .ok (.string (tx l)) w := by
  obtain ⟨a, c, rfl, hc, hz, h⟩ := h
  have nums : ∀ l : List UInt8, strOfNums (l.map fun x => (x.toNat : Int)) = tx l := by
    intro l
    unfold strOfNums tx
    rw [List.map_map]
    congr 2
    conv => rhs; rw [← List.map_id l]
    apply List.map_congr_left
    intro x _
    simp
  have some' : ∀ g o, a = some ⟨g, o, none⟩ → (∀ j x, l[j]? = some x → w.cell? ⟨g, o + j, none⟩ = some (.int .u8 (x.toNat : Int))) → (convert 25 9 (.slice a l.length c)).run Try.prog w = .ok (.string (tx l)) w := by
    intro g o e hcell
    subst e
    have := run_convert_bytes_arg (P := Try.prog) w 25 5 Try.underlying25 Try.underlying5 g o l.length c (l.map fun x => (x.toNat : Int)) (by simp) (fun i hi => by
      rw [hcell i _ (List.getElem?_eq_getElem hi)]
      simp [List.getD, List.getElem?_map, List.getElem?_eq_getElem hi]) 9 Try.underlying9
    rw [this, nums]
  rcases h with h | ⟨g, o, e, h⟩
  · subst h
    cases a with
    | none => exact run_convert_bytes_nil (P := Try.prog) w 25 5 Try.underlying25 Try.underlying5 0 c 9 Try.underlying9
    | some ad =>
      have hl : (loadCells ad 0).run Try.prog w = .ok (([] : List Int).map (Value.int .u8)).toArray w := run_loadCells_list (P := Try.prog) w ad [] (fun j v hj => by simp at hj)
      show (convert 25 9 (.slice (some ad) 0 c)).run Try.prog w = _
      rw [run_convert_bytes_string w 25 9 5 _ 0 c Try.underlying25 Try.underlying5 Try.underlying9, run_bytesToString w ad 0 c [] hl]
      rfl
  · exact some' g o e h

set_option maxRecDepth 100000 in
theorem same_any {w : World} {v u : Value} {l m : List UInt8} (hv : RdB w v l) (hu : RdB w u m) (b : Bool) (hb : b = decide (l = m)) : Calls Try.prog 11 #[v, u] w fun e w' => e = .returned (.bool b) ∧ Below w.heap.size w w' := by
  have h1 := run_conv hv
  have h2 := run_conv hu
  obtain ⟨a, c, rfl, _⟩ := hv
  obtain ⟨a', c', rfl, _⟩ := hu
  have h3 : ((tx l).toList == (tx m).toList) = b := by
    rw [ByteArray.toList_eq, ByteArray.toList_eq, tx_list, tx_list, hb]
    by_cases c : l = m
    · subst c; simp
    · rw [decide_eq_false c]
      exact beq_eq_false_iff_ne.2 c
  clear hb
  generalize tx l = x at *
  generalize tx m = y at *
  go_enter Try.func11, Try.ntmps11
  go_wp2
  go_ret
  exact ⟨by simp, Below.refl _ _⟩

set_option maxRecDepth 100000 in
theorem kind_any (w : World) (k n : Int) (hk0 : -9223372036854775808 ≤ k) (hk1 : k ≤ 9223372036854775807) (hn0 : 1 ≤ n) (hn1 : n ≤ 4611686018427387903) : Calls Try.prog 7 #[.int .i64 k, .int .i64 n] w fun e w' => ∃ m : Nat, e = .returned (.int .i64 (m : Int)) ∧ (m : Int) < n ∧ Below w.heap.size w w' := by
  have h1 : -n < k.tmod n := by
    have := Int.lt_tmod_of_pos k (show 0 < n by omega)
    omega
  have h2 : k.tmod n < n := Int.tmod_lt_of_pos k (by omega)
  have h3 : 0 ≤ (k.tmod n + n) % n := Int.emod_nonneg _ (by omega)
  have h4 : (k.tmod n + n) % n < n := Int.emod_lt_of_pos _ (by omega)
  have hz : (n == 0) = false := by simp; omega
  go_enter Try.func7, Try.ntmps7
  go_wp2
  go_ret
  refine ⟨((k.tmod n + n) % n).toNat, ?_, ?_, Below.refl _ _⟩
  · rw [Int.toNat_of_nonneg h3]; rfl
  · rw [Int.toNat_of_nonneg h3]; exact h4

set_option maxRecDepth 100000 in
set_option maxHeartbeats 1000000 in
theorem Clone_any {w : World} {v : Value} {l : List UInt8} (hv : RdB w v l) (hl : l.length ≤ 140737488355328) : Calls Try.prog 27 #[v] w fun e w' => ∃ v', e = .returned v' ∧ w'.ownsRow w.heap.size 5 1 v' l.length (bv l) ∧ Below w.heap.size w w' := by
  have HV : Hid (RdB w v l) := hv
  have q : ∀ (w : World) (a : Option Addr) (n c n' c' : Nat), (binOp .eql 25 (.slice a n c) (.slice none n' c')).run Try.prog w = .ok (.bool a.isNone) w := fun w a n c n' c' => Lib.run_eql_slice_nil w _ _ a n c n' c' Try.underlying25
  obtain ⟨a, c, rfl, hc, hz, hr⟩ := hv
  cases a with
  | none =>
    have hcz := hz rfl
    have hl0 : l = [] := List.eq_nil_of_length_eq_zero (by omega)
    clear hr hz
    go_enter Try.func27, Try.ntmps27
    go_wp2
    go_ret
    refine ⟨_, rfl, ?_, Below.refl _ _⟩
    rw [hl0]
    exact World.ownsRow_nil _ _ _ _
  | some ad =>
    clear hr hz
    have HO : Hid ((w.alloc (.cells #[] 5 (0, 0))).ownsRow w.heap.size 5 1 (.slice (some ⟨w.heap.size, 0, none⟩) 0 0) ([] : List UInt8).length (bv [])) := owns_heap (l := []) (heap_alloc_new _ _) (Nat.le_refl _) rfl (by unfold maxLen; simp)
    have HV1 : Hid (RdB (w.alloc (.cells #[] 5 (0, 0))) (.slice (some ad) l.length c) l) := HV.out.below ((Below.refl _ w).alloc (Nat.le_refl _) _)
    go_enter Try.func27, Try.ntmps27
    go_wp2_with (at_builtin; go_must (refine wp_appB rfl (.tmp 5) (.tmp 6) rfl w.heap.size _ _ [] l rfl HO.out rfl HV1.out (by simpa using hl) (by simp) ?_; intro v' w' ho hg))
    have HB : Hid (Below w.heap.size w w') := ((Below.refl _ w).alloc (Nat.le_refl _) _).grown hg.out (by simp) (fun k hk => by cases hk; exact Nat.le_refl _)
    go_wp2
    go_ret
    exact ⟨_, rfl, ho.out, HB.out⟩

/-- The two lists of Parts. -/
def part1 (cap head : Nat) (xs : List UInt8) : List UInt8 := xs.take (cap - head)
def part2 (cap head : Nat) (xs : List UInt8) : List UInt8 := xs.drop (cap - head)

theorem parts_win (st : List UInt8) (cap head : Nat) (xs : List UInt8) (hl : st.length = cap) (hh : head < cap) (hx : xs.length ≤ cap) (hw : win st head xs.length = xs) :
    (st.drop head).take (ahead cap head xs.length) = part1 cap head xs ∧ st.take (xs.length - ahead cap head xs.length) = part2 cap head xs := by
  have h := win_pieces st head xs.length (by omega) (by omega)
  rw [hw, hl] at h
  have l1 : ((st.drop head).take (ahead cap head xs.length)).length = ahead cap head xs.length := by
    rw [List.length_take, List.length_drop]
    unfold ahead
    omega
  have ea : ahead cap head xs.length = min (cap - head) xs.length := by unfold ahead; omega
  have e1 : part1 cap head xs = xs.take (ahead cap head xs.length) := by
    unfold part1
    rw [ea]
    by_cases c : cap - head ≤ xs.length
    · rw [Nat.min_eq_left c]
    · rw [Nat.min_eq_right (by omega), List.take_of_length_le (by omega), List.take_of_length_le (by omega)]
  have e2 : part2 cap head xs = xs.drop (ahead cap head xs.length) := by
    unfold part2
    rw [ea]
    by_cases c : cap - head ≤ xs.length
    · rw [Nat.min_eq_left c]
    · rw [Nat.min_eq_right (by omega), List.drop_eq_nil_of_le (by omega), List.drop_eq_nil_of_le (by omega)]
  generalize ahead cap head xs.length = k at *
  generalize (st.drop head).take k = p at *
  generalize st.take (xs.length - k) = q at *
  rw [e1, e2, h]
  exact ⟨(List.take_left' l1).symm, (List.drop_left' l1).symm⟩

set_option maxRecDepth 100000 in
theorem Parts_any {w : World} {rp sb cap head : Nat} {xs : List UInt8} (hR : IsRing w rp sb cap head xs) :
    Calls Try.prog 20 #[.pointer (some ⟨rp, 0, none⟩)] w fun e w' => ∃ v u, e = .returned (.tuple #[v, u]) ∧ w'.ownsRow w.heap.size 5 1 v (part1 cap head xs).length (bv (part1 cap head xs)) ∧
      w'.ownsRow w.heap.size 5 1 u (part2 cap head xs).length (bv (part2 cap head xs)) ∧ (∀ g, v.ownBlock = some g → u.ownBlock ≠ some g) ∧ Below w.heap.size w w' := by
  have HR : Hid (IsRing w rp sb cap head xs) := hR
  have hx := hR.hlen
  have hc := hR.hcap
  have hh := hR.hhead
  obtain ⟨st, hst, hstore, hwin⟩ := hR.store
  have HST : Hid (w.heap[sb]? = some (.cells (bv st).toArray 5 (0, 0))) := hstore
  obtain ⟨c0, c1, c2, cf⟩ := hR.cells
  obtain ⟨p1, p2⟩ := parts_win st cap head xs hst hh hx hwin
  have P1 : Hid ((st.drop head).take (ahead cap head xs.length) = part1 cap head xs) := p1
  have P2 : Hid (st.take (xs.length - ahead cap head xs.length) = part2 cap head xs) := p2
  have l1 : (part1 cap head xs).length ≤ 1048576 := by unfold part1; rw [List.length_take]; omega
  have l2 : (part2 cap head xs).length ≤ 1048576 := by unfold part2; rw [List.length_drop]; omega
  clear hR hwin hstore p1 p2
  go_enter Try.func20, Try.ntmps20
  go_wp2_with fail
  refine (pieces_any HR.out st hst HST.out 0 xs.length head (ahead cap head xs.length) (by omega) hx (pl_zero cap head hh).symm rfl).mono ?_
  rintro e w1 ⟨a1, a2, rfl, q1, q2, R1, R2, o1, o2, hb1⟩
  rw [P1.out] at R1
  rw [P2.out] at R2
  have RA : Hid (RdB w1 (.slice a1 (ahead cap head xs.length) (ahead cap head xs.length)) (part1 cap head xs)) := R1
  have RB : Hid (RdB w1 (.slice a2 (xs.length - ahead cap head xs.length) (xs.length - ahead cap head xs.length)) (part2 cap head xs)) := R2
  have HB1 : Hid (Below w.heap.size w w1) := hb1
  clear q1 q2 R1 R2 o1 o2 hb1 P1 P2
  generalize ahead cap head xs.length = k at *
  go_wp2_with fail
  refine (Clone_any RA.out (by omega)).mono ?_
  rintro e w2 ⟨v, rfl, ho2, hb2⟩
  have HO2 : Hid (w2.ownsRow w1.heap.size 5 1 v (part1 cap head xs).length (bv (part1 cap head xs))) := ho2
  have HB2 : Hid (Below w1.heap.size w1 w2) := hb2
  clear ho2 hb2
  go_wp2_with fail
  refine (Clone_any (RB.out.below HB2.out) (by omega)).mono ?_
  rintro e w3 ⟨u, rfl, ho3, hb3⟩
  have HO3 : Hid (w3.ownsRow w2.heap.size 5 1 u (part2 cap head xs).length (bv (part2 cap head xs))) := ho3
  have HB3 : Hid (Below w2.heap.size w2 w3) := hb3
  clear ho3 hb3
  go_wp2
  go_ret2
  have s1 := HB1.out.size
  have s2 := HB2.out.size
  have lower : ∀ {W : World} {B B' : Nat} {v : Value} {n : Nat} {xs : List Value}, W.ownsRow B 5 1 v n xs → B' ≤ B → W.ownsRow B' 5 1 v n xs := by
    intro W B B' v n xs h hB
    refine ⟨h.1, ?_⟩
    rcases h.2 with hz | ⟨g, cap, cur, e, hb, r⟩
    · exact .inl hz
    · exact .inr ⟨g, cap, cur, e, by omega, r⟩
  refine ⟨_, _, rfl, lower ((But.of_below HB3.out).owns HO2.out (fun _ _ e => by cases e)) s1, lower HO3.out (by omega), ?_, bel_trans (bel_trans HB1.out HB2.out) HB3.out⟩
  intro g hg hu
  have h1 := (World.ownsRow.lt HO2.out g hg).2
  have h2 := (World.ownsRow.lt HO3.out g hu).1
  omega

/-- A row just built. -/
theorem RdB.built (w : World) (l : List UInt8) (cs : Array Value) (hc : cs = (bv l).toArray) : RdB (w.alloc (.cells cs 5 (0, 0))) (.slice (some ⟨w.heap.size, 0, none⟩) l.length l.length) l := by
  subst hc
  refine ⟨_, _, rfl, Nat.le_refl _, (fun e => by cases e), .inr ⟨w.heap.size, 0, rfl, fun j x hj => ?_⟩⟩
  rw [cell_of_row _ w.heap.size _ _ _ _ (heap_alloc_new w _)]
  simp [bv, hj]

set_option maxRecDepth 100000 in
set_option maxHeartbeats 1000000 in
theorem awake_any (w : World) : Calls Try.prog 4 #[] w fun e w' => e = .returned (.bool true) ∧ Below w.heap.size w w' := by
  go_enter Try.func4, Try.ntmps4
  go_wp2_with fail
  refine (New_any w 2 (by omega) (by omega)).mono ?_
  rintro e w1 ⟨rfl, hR1, hb1⟩
  have HR1 : Hid (IsRing w1 (w.heap.size + 1) w.heap.size 2 0 []) := hR1
  have HB1 : Hid (Below w.heap.size w w1) := hb1
  have hs1 : w.heap.size + 1 < w1.heap.size := hR1.lt1
  clear hR1 hb1
  generalize hrp : w.heap.size + 1 = rp at *
  have hsb : w.heap.size < rp := by omega
  have HBase : Hid (rp = w.heap.size + 1) := hrp.symm
  clear hrp
  go_wp2_with fail
  have hA1 : Below w1.heap.size w1 (w1.alloc (.cells #[.int .u8 7, .int .u8 8, .int .u8 9] 5)) := (Below.refl _ w1).alloc (Nat.le_refl _) _
  refine (Put_any (HR1.out.below hA1) _ [7, 8, 9] (RdB.built w1 [7, 8, 9] _ (by simp [bv])) (fun g hg => by injection hg with hg; have := HR1.out.lt1; have := HR1.out.lt2; simp at hg; omega) (by simp) 2 (by simp)).mono ?_
  rintro e w2 ⟨rfl, hR2, hb2⟩
  have HB2 : Hid (Below w.heap.size w w2) := HB1.out.trans ((hA1.mono (HB1.out.size)).trans (hb2.below (by have := HB1.out.size; simp; omega) (by simp; omega)))
  have HR2 : Hid (IsRing w2 rp w.heap.size 2 0 [7, 8]) := hR2
  clear hR2 hb2 hA1
  go_wp2_with fail
  refine (Take_any HR2.out 2 (by omega) (by omega) 2 (by decide)).mono ?_
  rintro e w3 ⟨v, rfl, ho3, hR3, hb3⟩
  have HB3 : Hid (Below w.heap.size w w3) := HB2.out.trans (hb3.below HB2.out.size (by simp; omega))
  have HR3 : Hid (IsRing w3 rp w.heap.size 2 0 []) := hR3
  have HV3 : Hid (RdB w3 v [7, 8]) := RdB.own (l := [7, 8]) ho3
  clear ho3 hR3 hb3
  go_wp2_with fail
  have hA3 : Below w3.heap.size w3 (w3.alloc (.cells #[.int .u8 7, .int .u8 8] 5)) := (Below.refl _ w3).alloc (Nat.le_refl _) _
  refine (same_any (HV3.out.below hA3) (RdB.built w3 [7, 8] _ (by simp [bv])) true (by decide)).mono ?_
  rintro e w4 ⟨rfl, hb4⟩
  have HB4 : Hid (Below w3.heap.size w3 w4) := bel_trans hA3 hb4
  clear hA3 hb4
  go_wp2_with fail
  refine (Head_any (HR3.out.below HB4.out)).mono ?_
  rintro e w5 ⟨rfl, hb5⟩
  have HB5 : Hid (Below w3.heap.size w3 w5) := bel_trans HB4.out hb5
  clear hb5
  go_wp2_with fail
  have hA5 : Below w5.heap.size w5 (w5.alloc (.cells #[.int .u8 1, .int .u8 2, .int .u8 3] 5)) := (Below.refl _ w5).alloc (Nat.le_refl _) _
  refine (PutAll_full ((HR3.out.below HB5.out).below hA5) _ [1, 2, 3] (RdB.built w5 [1, 2, 3] _ (by simp [bv])) (by simp) (by simp)).mono ?_
  rintro e w6 ⟨rfl, hb6⟩
  have HB6 : Hid (Below w.heap.size w w6) := bel_trans HB3.out (bel_trans HB5.out (bel_trans hA5 hb6))
  clear hA5 hb6
  go_wp2
  go_ret
  exact ⟨rfl, HB6.out⟩

end Rg
end Go.Proofs.Ytclciccgcegpmaa

/-
  Arguments that came in: slices of bytes and of numbers; that they read as they did.
-/
set_option linter.unusedVariables false
set_option linter.unusedSimpArgs false
namespace Go.Proofs.Ytclciccgcegpmaa
open Go.RowKit Go.ChangeShapes Go.WideShapes Go.ChangeAt
namespace Rg

/-- The value is a slice of these numbers. -/
def RdI (w : World) (v : Value) (l : List Int) : Prop :=
  ∃ a cap, v = .slice a l.length cap ∧ l.length ≤ cap ∧ (a = none → cap = 0) ∧ (∀ x ∈ l, -9223372036854775808 ≤ x ∧ x ≤ 9223372036854775807) ∧ (l = [] ∨ ∃ g o, a = some ⟨g, o, none⟩ ∧ ∀ j x, l[j]? = some x → w.cell? ⟨g, o + j, none⟩ = some (.int .i64 x))

theorem laidOut : laidOutB Try.prog = true := by kernel_rfl
theorem cellsB : Try.prog.cellsOf 5 = 1 := by kernel_rfl
theorem bytesB : Try.prog.bytesOf 5 = 1 := by kernel_rfl
theorem cellsI : Try.prog.cellsOf 3 = 1 := by kernel_rfl
theorem bytesI : Try.prog.bytesOf 3 = 8 := by kernel_rfl

theorem byte_wf {x : Int} (h : (Lit.int .u8 x).wf = true) : 0 ≤ x ∧ x < 256 := by
  have h1 : IntKind.u8.min = 0 := rfl
  have h2 : IntKind.u8.max = 255 := rfl
  simp only [Lit.wf, Bool.and_eq_true, decide_eq_true_eq] at h
  omega
theorem int_wf {x : Int} (h : (Lit.int .i64 x).wf = true) : -9223372036854775808 ≤ x ∧ x ≤ 9223372036854775807 := by
  have h1 : IntKind.i64.min = -9223372036854775808 := rfl
  have h2 : IntKind.i64.max = 9223372036854775807 := rfl
  simp only [Lit.wf, Bool.and_eq_true, decide_eq_true_eq] at h
  omega

/- A slice of bytes, opened. -/
set_option maxRecDepth 100000 in
theorem opened_b {H : Type} {enc : TypeId × Value → H} {W : World} {v : Value} {d : DataW H} {p : List MemPlace} {base : Nat} (hok : Value.okWide Try.prog W .any base 25 v)
    (h0 : DataW.Trod enc Try.prog W 0 (fun _ => true) true 25 v d p) :
    ∃ l : List UInt8, RdB W v l ∧ (d = .nil ∧ l = [] ∨ ∃ es sp, d = .slice es sp ∧ es.length = l.length) := by
  obtain ⟨a0, len, cap, rfl⟩ := okWide_slice Try.underlying25 hok
  obtain ⟨fuel, hf⟩ := h0
  rcases open_ints Try.underlying25 Try.underlying5 cellsB hf with ⟨hcs, hx⟩ | ⟨a, len', cap', zs, hcs, _, hl, hm, hz, hx, hcell, hwz⟩
  · simp [Value.cells] at hcs
    obtain ⟨rfl, rfl, rfl⟩ := hcs
    simp only [Prod.mk.injEq] at hx
    obtain ⟨rfl, rfl⟩ := hx
    exact ⟨[], RdB.nil _, .inl ⟨rfl, rfl⟩⟩
  · simp [Value.cells] at hcs
    obtain ⟨rfl, rfl, rfl⟩ := hcs
    simp only [Prod.mk.injEq] at hx
    obtain ⟨rfl, rfl⟩ := hx
    simp only [if_true] at hz
    have hlen : ((zs.take len).map fun z => UInt8.ofNat z.toNat).length = len := by simp; omega
    refine ⟨(zs.take len).map fun z => UInt8.ofNat z.toNat, ⟨some a, cap, by rw [hlen], by omega, (fun e => by cases e), ?_⟩, .inr ⟨_, _, rfl, by rw [hlen]; simp [lits]; omega⟩⟩
    by_cases c : len = 0
    · left
      exact List.eq_nil_of_length_eq_zero (by omega)
    · right
      obtain ⟨b, off, rfl, hc2⟩ := ints_at hcell (by omega)
      refine ⟨b, off, rfl, fun j x hj => ?_⟩
      have hjl : j < len := by
        have := (List.getElem?_eq_some_iff.1 hj).1
        omega
      rw [hc2 j (by omega)]
      rw [List.getElem?_map, List.getElem?_take_of_lt hjl, List.getElem?_eq_getElem (by omega)] at hj
      have hb := byte_wf (hwz _ (List.getElem_mem (show j < zs.length by omega)))
      simp only [Option.map_some, Option.some.injEq] at hj
      subst hj
      simp only [List.getD, List.getElem?_eq_getElem (show j < zs.length by omega), Option.getD_some]
      congr 2
      simp only [UInt8.toNat_ofNat']
      omega

/- All arguments read as they did. -/
set_option maxRecDepth 100000 in
theorem all_stay {H : Type} {enc : TypeId × Value → H} {W W' : World} (hb : Below W.heap.size W W') : ∀ {ts : List TypeId} {vs : List Value} {ds : List (DataW H)} {ps : List MemPlace},
    (∀ t ∈ ts, Try.prog.readableRec t = true ∧ t < Try.prog.types.size) → DataW.TrodAll enc Try.prog W 0 (fun _ => true) true ts vs ds ps → DataW.TrodAll enc Try.prog W' 0 (fun b => decide (b < W.heap.size)) true ts vs ds ps := by
  intro ts
  induction ts with
  | nil =>
    intro vs ds ps _ h
    obtain ⟨rfl, rfl, rfl⟩ := trodAll_nil h
    exact trodAll_mk0
  | cons t ts ih =>
    intro vs ds ps ht h
    have hlt := h.lt
    obtain ⟨v, vs', d, ds', p, q, rfl, rfl, rfl, h0, hr⟩ := trodAll_cons h
    exact trodAll_cons_mk (Below.trod laidOut (ht t (by simp)).1 (ht t (by simp)).2 h0 hb (fun x hx => hlt x (List.mem_append_left _ hx))) (ih (fun t' h' => ht t' (List.mem_cons_of_mem _ h')) hr)

end Rg
end Go.Proofs.Ytclciccgcegpmaa

/-
  'append([]byte{}, p...)': a copy of the call's own.
-/
set_option linter.unusedVariables false
set_option linter.unusedSimpArgs false
namespace Go.Proofs.Ytclciccgcegpmaa
open Go.RowKit
namespace Rg

theorem own_empty (W : World) : (W.alloc (.cells #[] 5)).ownsRow W.heap.size 5 1 (.slice (some ⟨W.heap.size, 0, none⟩) 0 0) ([] : List UInt8).length (bv []) := owns_heap (l := []) (heap_alloc_new _ _) (Nat.le_refl _) rfl (by unfold maxLen; simp)
theorem owns_slice {w : World} {B T S : Nat} {v : Value} {n : Nat} {xs : List Value} (h : w.ownsRow B T S v n xs) : ∃ a c, v = .slice a n c ∧ n ≤ c := by
  rcases h.2 with ⟨e, h0⟩ | ⟨g, c, _, e, _, _, hc, _⟩
  · exact ⟨none, 0, by rw [e, h0], by omega⟩
  · exact ⟨_, c, e, hc⟩

theorem wp_new {ops : Array Oper} {rest : List Oper} {o : Oper} {a : Act} {Q : Exit → Act → World → Prop} (hw : Region.wanted o (yielded ops a.tmps) = true) (s x : Operand)
    (ho : o.op = .call { callee := .builtin .append, args := #[s, x], argTypes := #[25, 25] }) (W : World) (y : Value) (u : List UInt8) (n : Nat) (hn : n = u.length)
    (hs : a.eval s = .slice (some ⟨W.heap.size, 0, none⟩) 0 0) (hx : a.eval x = y) (hy : RdB W y u) (hlen : u.length ≤ 140737488355328)
    (h : ∀ a' c' w', Hid (w'.ownsRow W.heap.size 5 1 (.slice a' n c') n (bv u)) → Hid (Below W.heap.size W w') → wpList Try.prog ops Q rest (a.put o.dst (.slice a' n c')) w') : wpList Try.prog ops Q (o :: rest) a (W.alloc (.cells #[] 5)) := by
  subst hn
  refine wp_appB hw s x ho W.heap.size _ y [] u hs (own_empty W) hx (hy.below ((Below.refl _ W).alloc (Nat.le_refl _) _)) (by simpa using hlen) (by simp) ?_
  intro v' w' h1 h2
  obtain ⟨a', c', rfl, _⟩ := owns_slice h1.out
  exact h a' c' w' h1.out (((Below.refl _ W).alloc (Nat.le_refl _) _).grown h2.out (by simp) (fun k hk => by cases hk; exact Nat.le_refl _))
theorem step_new {ops : Array Oper} {o : Oper} {a : Act} {K : Act → World → Prop} {Q : Exit → Act → World → Prop} {E : Prop} (hgd : o.guard = none) (s x : Operand)
    (ho : o.op = .call { callee := .builtin .append, args := #[s, x], argTypes := #[25, 25] }) (W : World) (y : Value) (u : List UInt8) (n : Nat) (hn : n = u.length)
    (hs : a.eval s = .slice (some ⟨W.heap.size, 0, none⟩) 0 0) (hx : a.eval x = y) (hy : RdB W y u) (hlen : u.length ≤ 140737488355328)
    (h : ∀ a' c' w', Hid (w'.ownsRow W.heap.size 5 1 (.slice a' n c') n (bv u)) → Hid (Below W.heap.size W w') → K (a.put o.dst (.slice a' n c')) w') : if Region.wanted o (yielded ops a.tmps) = true then Oper.wp Try.prog o a (W.alloc (.cells #[] 5)) K Q else E := by
  subst hn
  refine step_appB hgd s x ho W.heap.size _ y [] u hs (own_empty W) hx (hy.below ((Below.refl _ W).alloc (Nat.le_refl _) _)) (by simpa using hlen) (by simp) ?_
  intro v' w' h1 h2
  obtain ⟨a', c', rfl, _⟩ := owns_slice h1.out
  exact h a' c' w' h1.out (((Below.refl _ W).alloc (Nat.le_refl _) _).grown h2.out (by simp) (fun k hk => by cases hk; exact Nat.le_refl _))

theorem own_cap {w : World} {B T S n c : Nat} {a : Option Addr} {xs : List Value} (h : w.ownsRow B T S (.slice a n c) n xs) : c ≤ 9223372036854775807 := by
  rcases h.2 with ⟨e, _⟩ | ⟨g, c', _, e, _, _, _, hm, _⟩
  · injection e with _ _ e; omega
  · injection e with _ _ e; rw [e]; unfold maxLen at hm; omega
theorem bv_len' {w : World} {B T n : Nat} {v : Value} {l : List UInt8} (h : w.ownsRow B T 1 v n (bv l)) : w.ownsRow B T 1 v l.length (bv l) := by
  have hn := owns_len h
  subst hn
  exact h

theorem rd_len {w : World} {a : Option Addr} {n c : Nat} {l : List UInt8} (h : RdB w (.slice a n c) l) : n = l.length ∧ n ≤ c := by
  obtain ⟨a', c', e, hc, _⟩ := h
  injection e with _ e2 e3
  subst e3
  exact ⟨e2, by omega⟩

end Rg
end Go.Proofs.Ytclciccgcegpmaa
