/-
  The document's Print; the law TargetPrints.
-/
import Derived.Test.YtjiebnieceffoaaGreatDoorGPzd
set_option linter.unusedVariables false
set_option linter.unusedSimpArgs false
set_option maxRecDepth 100000
namespace Go.Proofs.YtjiebnieceffoaaGreatDoor
open Go.RowKit Go.Shelf
namespace Tg
open Oc

theorem txtR_len (form : Int) (host : List UInt8) (port : Int) (path query : List UInt8) (hq : Bool) (c0 : -9223372036854775808 ≤ port) (c1 : port ≤ 9223372036854775807) : (txtR form host port path query hq).1.length ≤ 7 ∧ (txtR form host port path query hq).2.length ≤ host.length + path.length + query.length + 40 := by
  unfold txtR
  split
  · exact wrtR_len form host port path query hq c0 c1
  · exact ⟨by decide, by show 1 ≤ _; omega⟩
def prxR (form : Int) (host : List UInt8) (port : Int) (path query : List UInt8) (hq : Bool) (y : PRes) : List UInt8 × Int :=
  if y.err = 0 ∧ y.form = form ∧ y.host = host ∧ y.port = port ∧ y.path = path ∧ y.query = query ∧ y.hasq = hq then ((txtR form host port path query hq).2, 0) else ([], 50)
theorem prx_prn (form : Int) (host : List UInt8) (port : Int) (path query : List UInt8) (hq : Bool) :
    prxR form host port path query hq (parP (txtR form host port path query hq).1 (txtR form host port path query hq).2) = prnR form host port path query hq (parP (wrtR form host port path query hq).1 (wrtR form host port path query hq).2) := by
  by_cases h : form = 1 ∨ form = 2 ∨ form = 3
  · have e : txtR form host port path query hq = wrtR form host port path query hq := by unfold txtR; rw [if_pos h]
    unfold prxR prnR
    rw [e]
  · have e : txtR form host port path query hq = (optL, [42]) := by unfold txtR; rw [if_neg h]
    have h1 : form ≠ 1 := fun x => h (.inl x)
    have h2 : form ≠ 2 := fun x => h (.inr (.inl x))
    have h3 : form ≠ 3 := fun x => h (.inr (.inr x))
    by_cases h4 : form = 4
    · have e2 : wrtR form host port path query hq = (optL, [42]) := by unfold wrtR; rw [if_neg h1, if_neg h2, if_neg h3, if_pos h4]
      unfold prxR prnR
      rw [e, e2]
    · have e2 : wrtR form host port path query hq = (getL, []) := by unfold wrtR; rw [if_neg h1, if_neg h2, if_neg h3, if_neg h4]
      have y1 : parP optL [42] = ⟨4, [], -1, [], [], false, 0, 0⟩ := by
        unfold parP
        rw [if_neg (by simp), if_neg (by decide), if_neg (by decide), if_pos ⟨rfl, rfl⟩]
      have y2 : parP getL [] = wrongP 0 50 := by unfold parP; rw [if_pos rfl]
      unfold prxR prnR
      rw [e, e2, y1, y2]
      rw [if_neg (fun x => h4 x.2.1.symm), if_neg (fun x => by have := x.1; revert this; decide)]

set_option maxHeartbeats 4000000 in
theorem rPrint_any (a c : Int) (B P Q : ByteArray) (f : Bool) (hB : B.size ≤ 1048576) (hP : P.size ≤ 1048576) (hQ : Q.size ≤ 1048576) (c0 : -9223372036854775808 ≤ c) (c1 : c ≤ 9223372036854775807) (w : World) (he : HE w) :
    Calls Tryz.prog 14 #[.agg #[.int .i64 a, .string B, .int .i64 c, .string P, .string Q, .bool f]] w fun e w' => e = .returned (.tuple #[.string (str (prxR a B.data.toList c P.data.toList Q.data.toList f (parP (txtR a B.data.toList c P.data.toList Q.data.toList f).1 (txtR a B.data.toList c P.data.toList Q.data.toList f).2)).1), .int .i64 (prxR a B.data.toList c P.data.toList Q.data.toList f (parP (txtR a B.data.toList c P.data.toList Q.data.toList f).1 (txtR a B.data.toList c P.data.toList Q.data.toList f).2)).2]) ∧ Below w.heap.size w w' := by
  obtain ⟨w2, hw2⟩ : ∃ w2, w2 = w.alloc (.cells #[.int .i64 a, .string B, .int .i64 c, .string P, .string Q, .bool f] 27) := ⟨_, rfl⟩
  have R1 : w2.heap[w.heap.size]? = some (.cells #[.int .i64 a, .string B, .int .i64 c, .string P, .string Q, .bool f] 27 (0, 0)) := by rw [hw2]; exact World.alloc_heap_new w _
  have hz2 : w.heap.size < w2.heap.size := by rw [hw2]; simp
  have hb2 : Below w.heap.size w w2 := by rw [hw2]; exact (Below.refl _ w).alloc (Nat.le_refl _) _
  have HB2 : Hid (Below w.heap.size w w2) := hb2
  have HE2 : Hid (HE w2) := he.below hb2
  have hl := txtR_len a B.data.toList c P.data.toList Q.data.toList f c0 c1
  rw [size_list, size_list, size_list] at hl
  have HW : Hid (∀ w, HE w → _) := fun w _ => rtext_any a c B P Q f hB hP hQ c0 c1 w
  have HPa : Hid (∀ w, HE w → _) := fun w _ => rParse_any (str (txtR a B.data.toList c P.data.toList Q.data.toList f).1) (str (txtR a B.data.toList c P.data.toList Q.data.toList f).2) (by rw [str_size]; omega) (by rw [str_size]; omega) w
  rw [str_list, str_list] at HPa
  generalize parP (txtR a B.data.toList c P.data.toList Q.data.toList f).1 (txtR a B.data.toList c P.data.toList Q.data.toList f).2 = Y at *
  obtain ⟨q1, q2, q3, q4, q5, q6, q7, q8⟩ := Y
  unfold prV tgt at HPa
  dsimp only at HPa
  unfold prxR
  dsimp only
  simp only [str_eq]
  generalize str (txtR a B.data.toList c P.data.toList Q.data.toList f).1 = M at *
  generalize hS : str (txtR a B.data.toList c P.data.toList Q.data.toList f).2 = S at *
  have HS : Hid (str (txtR a B.data.toList c P.data.toList Q.data.toList f).2 = S) := hS
  clear hS
  generalize str q2 = Q2 at *
  generalize str q4 = Q4 at *
  generalize str q5 = Q5 at *
  have HR1 : Hid (_) := R1
  clear hl R1 hb2 he
  generalize hV : (if q8 = 0 ∧ q1 = a ∧ Q2 = B ∧ q3 = c ∧ Q4 = P ∧ Q5 = Q ∧ q6 = f then ((txtR a B.data.toList c P.data.toList Q.data.toList f).2, (0 : Int)) else ([], 50)) = V
  have HAns : Hid (V = if q8 = 0 ∧ q1 = a ∧ Q2 = B ∧ q3 = c ∧ Q4 = P ∧ Q5 = Q ∧ q6 = f then ((txtR a B.data.toList c P.data.toList Q.data.toList f).2, (0 : Int)) else ([], 50)) := hV.symm
  clear hV
  go_enter Tryz.func14, Tryz.ntmps14
  go_wp2_with fail
  rw [← hw2]
  refine (HW.out _ HE2.out).mono ?_
  rintro e w3 ⟨rfl, hb3⟩
  have HB3 : Hid (Below w2.heap.size w2 w3) := hb3
  have HE3 : Hid (HE w3) := HE2.out.below hb3
  clear hb3
  go_wp2_with fail
  refine (HPa.out _ HE3.out).mono ?_
  rintro e w4 ⟨rfl, hb4⟩
  have HB4 : Hid (Below w2.heap.size w2 w4) := bel_trans HB3.out hb4
  clear hb4
  have hz4 : w.heap.size < w4.heap.size := Nat.lt_of_lt_of_le hz2 HB4.out.size
  have R0 := (HB4.out.block _ hz2).trans HR1.out
  have R1 : (w4.alloc (.cells #[.int .i64 q1, .string Q2, .int .i64 q3, .string Q4, .string Q5, .bool q6] 27)).heap[w.heap.size]? = some (.cells #[.int .i64 a, .string B, .int .i64 c, .string P, .string Q, .bool f] 27 (0, 0)) := by
    rw [Lib.alloc_old _ _ _ hz4]; exact R0
  clear R0
  have d0 := Lib.cell_of_heap R1 0
  have d1 := Lib.cell_of_heap R1 1
  have d2 := Lib.cell_of_heap R1 2
  have d3 := Lib.cell_of_heap R1 3
  have d4 := Lib.cell_of_heap R1 4
  have d5 := Lib.cell_of_heap R1 5
  simp at d0 d1 d2 d3 d4 d5
  clear R1
  have HBw : Hid (∀ o : Obj, Below w.heap.size w (w4.alloc o)) := (fun o => (HB2.out.trans (HB4.out.mono HB2.out.size)).alloc (by have := HB4.out.size; have := HB2.out.size; omega) _ : ∀ o : Obj, Below w.heap.size w (w4.alloc o))
  by_cases h8 : q8 = 0
  · subst h8
    by_cases heq : q1 = a ∧ Q2 = B ∧ q3 = c ∧ Q4 = P ∧ Q5 = Q ∧ q6 = f
    · rw [if_pos ⟨rfl, heq⟩] at HAns
      obtain ⟨rfl, rfl, rfl, rfl, rfl, rfl⟩ := heq
      go_wp2
      go_ret2
      rw [HAns.out]
      dsimp only
      rw [HS.out]
      exact ⟨rfl, HBw.out _⟩
    · rw [if_neg (fun e => heq e.2)] at HAns
      have HN : Hid (¬ (q1 = a ∧ Q2 = B ∧ q3 = c ∧ Q4 = P ∧ Q5 = Q ∧ q6 = f)) := heq
      clear heq
      go_wp2
      all_goals try (exfalso; exact HN.out ⟨by assumption, toL_inj (by assumption), by assumption, toL_inj (by assumption), toL_inj (by assumption), by assumption⟩)
      all_goals
        go_ret2
        rw [HAns.out]
        exact ⟨rfl, HBw.out _⟩
  · have h8' : (q8 == 0) = false := by simp [h8]
    rw [if_neg (fun e => h8 e.1)] at HAns
    go_wp2
    go_ret2
    rw [HAns.out]
    exact ⟨rfl, HBw.out _⟩

set_option maxHeartbeats 4000000 in
theorem given_any (a c : Int) (B P Q : ByteArray) (f : Bool) (w : World) :
    Calls Tryz.prog 15 #[.agg #[.int .i64 a, .string B, .int .i64 c, .string P, .string Q, .bool f]] w fun e w' => e = .returned (.agg #[.int .i64 a, .string B, .int .i64 c, .string P, .string Q, .bool f]) ∧ Below w.heap.size w w' := by
  go_enter Tryz.func15, Tryz.ntmps15
  go_wp2
  refine bodyPost_ret (v := .agg #[.int .i64 a, .string B, .int .i64 c, .string P, .string Q, .bool f]) (by simp [results, Tryz.results15, go_sem]) rfl ?_
  exact ⟨rfl, ((Below.refl _ w).alloc (Nat.le_refl _) _).alloc (by simp) _⟩

set_option maxHeartbeats 4000000 in
theorem walk_TargetPrints (a c : Int) (B P Q : ByteArray) (f : Bool) (hB : B.size ≤ 1048576) (hP : P.size ≤ 1048576) (hQ : Q.size ≤ 1048576) (c0 : -9223372036854775808 ≤ c) (c1 : c ≤ 9223372036854775807) (w : World) (he : HE w) :
    Calls Tryz.prog 4 #[.agg #[.int .i64 a, .string B, .int .i64 c, .string P, .string Q, .bool f]] w fun e w' => e = .returned (.bool true) ∧ Below w.heap.size w w' := by
  have HA : Hid (∀ w, HE w → _) := fun w h => awake_any w h.1
  have HPr : Hid (∀ w, HE w → _) := fun w h => Print_any a c B P Q f hB hP hQ c0 c1 w h
  have HRp : Hid (∀ w, HE w → _) := fun w h => rPrint_any a c B P Q f hB hP hQ c0 c1 w h
  rw [prx_prn] at HRp
  generalize prnR a B.data.toList c P.data.toList Q.data.toList f (parP (wrtR a B.data.toList c P.data.toList Q.data.toList f).1 (wrtR a B.data.toList c P.data.toList Q.data.toList f).2) = Y at *
  obtain ⟨y1, y2⟩ := Y
  dsimp only at HPr HRp
  generalize str y1 = Y1 at *
  have HG : Hid (∀ w, _) := fun w => given_any a c B P Q f w
  obtain ⟨w2, hw2⟩ : ∃ w2, w2 = w.alloc (.cells #[.int .i64 a, .string B, .int .i64 c, .string P, .string Q, .bool f] 23) := ⟨_, rfl⟩
  have R1 : w2.heap[w.heap.size]? = some (.cells #[.int .i64 a, .string B, .int .i64 c, .string P, .string Q, .bool f] 23 (0, 0)) := by rw [hw2]; exact World.alloc_heap_new w _
  have hz2 : w.heap.size < w2.heap.size := by rw [hw2]; simp
  have hb2 : Below w.heap.size w w2 := by rw [hw2]; exact (Below.refl _ w).alloc (Nat.le_refl _) _
  have HB2 : Hid (Below w.heap.size w w2) := hb2
  have HE2 : Hid (HE w2) := he.below hb2
  have HR1 : Hid (_) := R1
  clear R1 hb2 he
  go_enter Tryz.func4, Tryz.ntmps4
  go_wp2_with fail
  rw [← hw2]
  refine (HPr.out _ HE2.out).mono ?_
  rintro e w3 ⟨rfl, h3⟩
  have H3 : Hid (Below w2.heap.size w2 w3) := h3
  clear h3
  have R1 := (H3.out.block _ hz2).trans HR1.out
  have d0 := Lib.cell_of_heap R1 0
  have d1 := Lib.cell_of_heap R1 1
  have d2 := Lib.cell_of_heap R1 2
  have d3 := Lib.cell_of_heap R1 3
  have d4 := Lib.cell_of_heap R1 4
  have d5 := Lib.cell_of_heap R1 5
  simp at d0 d1 d2 d3 d4 d5
  clear R1
  go_wp2_with fail
  refine (HG.out _).mono ?_
  rintro e w4 ⟨rfl, h4⟩
  have H4 : Hid (Below w2.heap.size w2 w4) := bel_trans H3.out h4
  have E4 : Hid (HE w4) := HE2.out.below H4.out
  clear h4
  go_wp2_with fail
  refine (HRp.out _ E4.out).mono ?_
  rintro e w5 ⟨rfl, h5⟩
  have H5 : Hid (Below w2.heap.size w2 w5) := bel_trans H4.out h5
  have E5 : Hid (HE w5) := E4.out.below h5
  clear h5
  go_wp2_with fail
  refine (HA.out _ E5.out).mono ?_
  rintro e w6 ⟨rfl, h6⟩
  have H6 : Hid (Below w2.heap.size w2 w6) := bel_trans H5.out h6
  clear h6
  go_wp2
  go_ret
  exact ⟨rfl, HB2.out.trans (H6.out.mono HB2.out.size)⟩

end Tg
end Go.Proofs.YtjiebnieceffoaaGreatDoor
