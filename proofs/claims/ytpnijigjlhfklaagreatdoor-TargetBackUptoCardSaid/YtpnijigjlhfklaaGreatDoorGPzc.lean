/-
  target.Print (towards TargetPrints, TargetBack).
-/
import Derived.Test.YtpnijigjlhfklaaGreatDoorGPza
set_option linter.unusedVariables false
set_option linter.unusedSimpArgs false
set_option maxRecDepth 100000
namespace Go.Proofs.YtpnijigjlhfklaaGreatDoor
open Go.RowKit Go.Shelf
namespace Tg
open Oc

theorem wrtR_len (form : Int) (host : List UInt8) (port : Int) (path query : List UInt8) (hq : Bool) (c0 : -9223372036854775808 ≤ port) (c1 : port ≤ 9223372036854775807) : (wrtR form host port path query hq).1.length ≤ 7 ∧ (wrtR form host port path query hq).2.length ≤ host.length + path.length + query.length + 40 := by
  have h1 := autR_len host port c0 c1
  have h2 := plcR_len path query hq
  have e1 : getL.length = 3 := rfl
  have e2 : conL.length = 7 := rfl
  have e3 : optL.length = 7 := rfl
  have e4 : httpL.length = 7 := rfl
  unfold wrtR
  (repeat' split) <;> dsimp only <;> simp only [List.length_append, List.length_nil, List.length_cons, e1, e2, e3, e4] <;> omega

/-- What Print answers: the text, if it is read as just this target. -/
def prnR (form : Int) (host : List UInt8) (port : Int) (path query : List UInt8) (hq : Bool) (y : PRes) : List UInt8 × Int :=
  if y.err = 0 ∧ y.form = form ∧ y.host = host ∧ y.port = port ∧ y.path = path ∧ y.query = query ∧ y.hasq = hq then ((wrtR form host port path query hq).2, 0) else ([], 50)
theorem toL_inj {A B : ByteArray} (h : A.toList = B.toList) : A = B := by
  rw [ByteArray.toList_eq, ByteArray.toList_eq] at h
  exact eq_list h
theorem str_eq (l : List UInt8) (B : ByteArray) : l = B.data.toList ↔ str l = B := by
  constructor
  · intro h; rw [h, str_self]
  · intro h; rw [← h, str_list]

set_option maxHeartbeats 4000000 in
theorem Print_any (a c : Int) (B P Q : ByteArray) (f : Bool) (hB : B.size ≤ 1048576) (hP : P.size ≤ 1048576) (hQ : Q.size ≤ 1048576) (c0 : -9223372036854775808 ≤ c) (c1 : c ≤ 9223372036854775807) (w : World) (he : HE w) :
    Calls Tryz.prog 9 #[.agg #[.int .i64 a, .string B, .int .i64 c, .string P, .string Q, .bool f]] w fun e w' => e = .returned (.tuple #[.string (str (prnR a B.data.toList c P.data.toList Q.data.toList f (parP (wrtR a B.data.toList c P.data.toList Q.data.toList f).1 (wrtR a B.data.toList c P.data.toList Q.data.toList f).2)).1), .int .i64 (prnR a B.data.toList c P.data.toList Q.data.toList f (parP (wrtR a B.data.toList c P.data.toList Q.data.toList f).1 (wrtR a B.data.toList c P.data.toList Q.data.toList f).2)).2]) ∧ Below w.heap.size w w' := by
  obtain ⟨w2, hw2⟩ : ∃ w2, w2 = w.alloc (.cells #[.int .i64 a, .string B, .int .i64 c, .string P, .string Q, .bool f] 23) := ⟨_, rfl⟩
  have R1 : w2.heap[w.heap.size]? = some (.cells #[.int .i64 a, .string B, .int .i64 c, .string P, .string Q, .bool f] 23 (0, 0)) := by rw [hw2]; exact World.alloc_heap_new w _
  have hz2 : w.heap.size < w2.heap.size := by rw [hw2]; simp
  have hb2 : Below w.heap.size w w2 := by rw [hw2]; exact (Below.refl _ w).alloc (Nat.le_refl _) _
  have HB2 : Hid (Below w.heap.size w w2) := hb2
  have HE2 : Hid (HE w2) := he.below hb2
  have hl := wrtR_len a B.data.toList c P.data.toList Q.data.toList f c0 c1
  rw [size_list, size_list, size_list] at hl
  have HW : Hid (∀ w, HE w → _) := fun w h => written_any a c B P Q f hB hP hQ c0 c1 w h
  have HPa : Hid (∀ w, HE w → _) := fun w h => Parse_any (str (wrtR a B.data.toList c P.data.toList Q.data.toList f).1) (str (wrtR a B.data.toList c P.data.toList Q.data.toList f).2) (by rw [str_size]; omega) (by rw [str_size]; omega) w h
  rw [str_list, str_list] at HPa
  generalize parP (wrtR a B.data.toList c P.data.toList Q.data.toList f).1 (wrtR a B.data.toList c P.data.toList Q.data.toList f).2 = Y at *
  obtain ⟨q1, q2, q3, q4, q5, q6, q7, q8⟩ := Y
  unfold prV tgt at HPa
  dsimp only at HPa
  unfold prnR
  dsimp only
  simp only [str_eq]
  generalize str (wrtR a B.data.toList c P.data.toList Q.data.toList f).1 = M at *
  generalize hS : str (wrtR a B.data.toList c P.data.toList Q.data.toList f).2 = S at *
  have HS : Hid (str (wrtR a B.data.toList c P.data.toList Q.data.toList f).2 = S) := hS
  clear hS
  generalize str q2 = Q2 at *
  generalize str q4 = Q4 at *
  generalize str q5 = Q5 at *
  have HR1 : Hid (_) := R1
  clear hl R1 hb2 he
  generalize hV : (if q8 = 0 ∧ q1 = a ∧ Q2 = B ∧ q3 = c ∧ Q4 = P ∧ Q5 = Q ∧ q6 = f then ((wrtR a B.data.toList c P.data.toList Q.data.toList f).2, (0 : Int)) else ([], 50)) = V
  have HAns : Hid (V = if q8 = 0 ∧ q1 = a ∧ Q2 = B ∧ q3 = c ∧ Q4 = P ∧ Q5 = Q ∧ q6 = f then ((wrtR a B.data.toList c P.data.toList Q.data.toList f).2, (0 : Int)) else ([], 50)) := hV.symm
  clear hV
  go_enter Tryz.func9, Tryz.ntmps9
  go_wp2_with fail
  rw [← hw2]
  refine (HW.out _ HE2.out).mono ?_
  rintro e w3 ⟨rfl, hb3⟩
  have HB3 : Hid (Below w2.heap.size w2 w3) := hb3
  have HE3 : Hid (HE w3) := HE2.out.below hb3
  clear hb3
  go_wp2_with fail
  refine (HPa.out _ HE3.out).mono ?_
  rintro e w4 ⟨rfl, hb4⟩
  have HB4 : Hid (Below w2.heap.size w2 w4) := bel_trans HB3.out hb4
  clear hb4
  have hz4 : w.heap.size < w4.heap.size := Nat.lt_of_lt_of_le hz2 HB4.out.size
  have R0 := (HB4.out.block _ hz2).trans HR1.out
  have R1 : (w4.alloc (.cells #[.int .i64 q1, .string Q2, .int .i64 q3, .string Q4, .string Q5, .bool q6] 23)).heap[w.heap.size]? = some (.cells #[.int .i64 a, .string B, .int .i64 c, .string P, .string Q, .bool f] 23 (0, 0)) := by
    rw [Lib.alloc_old _ _ _ hz4]; exact R0
  clear R0
  have d0 := Lib.cell_of_heap R1 0
  have d1 := Lib.cell_of_heap R1 1
  have d2 := Lib.cell_of_heap R1 2
  have d3 := Lib.cell_of_heap R1 3
  have d4 := Lib.cell_of_heap R1 4
  have d5 := Lib.cell_of_heap R1 5
  simp at d0 d1 d2 d3 d4 d5
  clear R1
  have HBw : Hid (∀ o : Obj, Below w.heap.size w (w4.alloc o)) := (fun o => (HB2.out.trans (HB4.out.mono HB2.out.size)).alloc (by have := HB4.out.size; have := HB2.out.size; omega) _ : ∀ o : Obj, Below w.heap.size w (w4.alloc o))
  by_cases h8 : q8 = 0
  · subst h8
    by_cases heq : q1 = a ∧ Q2 = B ∧ q3 = c ∧ Q4 = P ∧ Q5 = Q ∧ q6 = f
    · rw [if_pos ⟨rfl, heq⟩] at HAns
      obtain ⟨rfl, rfl, rfl, rfl, rfl, rfl⟩ := heq
      go_wp2
      go_ret2
      rw [HAns.out]
      dsimp only
      rw [HS.out]
      exact ⟨rfl, HBw.out _⟩
    · rw [if_neg (fun e => heq e.2)] at HAns
      have HN : Hid (¬ (q1 = a ∧ Q2 = B ∧ q3 = c ∧ Q4 = P ∧ Q5 = Q ∧ q6 = f)) := heq
      clear heq
      go_wp2
      all_goals try (exfalso; exact HN.out ⟨by assumption, toL_inj (by assumption), by assumption, toL_inj (by assumption), toL_inj (by assumption), by assumption⟩)
      all_goals
        go_ret2
        rw [HAns.out]
        exact ⟨rfl, HBw.out _⟩
  · have h8' : (q8 == 0) = false := by simp [h8]
    rw [if_neg (fun e => h8 e.1)] at HAns
    go_wp2
    go_ret2
    rw [HAns.out]
    exact ⟨rfl, HBw.out _⟩

end Tg
end Go.Proofs.YtpnijigjlhfklaaGreatDoor
