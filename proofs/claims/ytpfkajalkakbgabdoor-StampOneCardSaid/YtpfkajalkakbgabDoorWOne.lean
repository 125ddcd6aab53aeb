/-
  The walk of StampOne.
-/
import Derived.Test.YtpfkajalkakbgabDoorWAwk
set_option linter.unusedVariables false
set_option linter.unusedSimpArgs false
namespace Go.Proofs.YtpfkajalkakbgabDoor
open Go.RowKit
namespace Bs

theorem str_ext (l : List UInt8) (a n : Nat) : (str l).extract a (a + n) = str ((l.drop a).take n) := by
  apply eq_list
  rw [str_list]
  simp [str, ByteArray.data_extract]

def leapB (l : List UInt8) : Bool := (List.range l.length).any fun i => decide (i + 3 ≤ l.length ∧ (l.drop i).take 3 = [58, 54, 48])
theorem leapB_iff (l : List UInt8) : leapB l = true ↔ Leapt l := by
  unfold leapB Leapt
  simp only [List.any_eq_true, List.mem_range, decide_eq_true_iff]
  exact ⟨fun ⟨i, _, h⟩ => ⟨i, h⟩, fun ⟨i, h⟩ => ⟨i, by omega, h⟩⟩

set_option maxRecDepth 100000 in
set_option maxHeartbeats 2000000 in
theorem leapt_any (l : List UInt8) (hl : l.length ≤ 140737488355328) (w : World) :
    Calls Tryd.prog 15 #[.string (str l)] w fun e w' => e = .returned (.bool (leapB l)) ∧ w' = w := by
  have hs := str_size l
  go_enter Tryd.func15, Tryd.ntmps15
  go_wp2
  go_loop [3] (fun i => ∃ k : Nat, k ≤ l.length ∧ i = .int .i64 (k : Int) ∧ Hid (∀ j, j < k → ¬ (j + 3 ≤ l.length ∧ (l.drop j).take 3 = [58, 54, 48]))) (fun i => l.length + 1 - (intOf i).toNat)
  case atStart => exact ⟨0, by omega, rfl, fun j hj => by omega⟩
  case round =>
    obtain ⟨k, hk, rfl, HN⟩ := hrel
    by_cases hlt : k + 3 ≤ l.length
    · have hlt' : (k : Int) + 3 ≤ (l.length : Int) := by omega
      have hcut : (str l).extract k (k + 3) = str ((l.drop k).take 3) := str_ext l k 3
      by_cases hm : (l.drop k).take 3 = [58, 54, 48]
      · have HL : Hid (Leapt l) := ⟨k, hlt, hm⟩
        rw [hm] at hcut
        have hc2 : (str l).extract k (k + 3) = (⟨#[58, 54, 48]⟩ : ByteArray) := hcut
        have he : ((⟨#[58, 54, 48]⟩ : ByteArray).toList == (⟨#[58, 54, 48]⟩ : ByteArray).toList) = true := by simp
        clear hcut hm
        go_wp2_with fail
        go_wp2
        go_ret
        exact ⟨ret_bool ((leapB_iff l).2 HL.out).symm, rfl⟩
      · have HM : Hid (¬ (l.drop k).take 3 = [58, 54, 48]) := hm
        have he : ((str ((l.drop k).take 3)).toList == [58, 54, 48]) = false := by
          rw [ByteArray.toList_eq, str_list]
          simpa using hm
        clear hm
        generalize str ((l.drop k).take 3) = X at *
        go_wp2
        refine ⟨⟨k + 1, by omega, by go_num, fun j hj => ?_⟩, by simp [intOf]; omega⟩
        rcases (by omega : j < k ∨ j = k) with h | rfl
        · exact HN.out j h
        · exact fun c => HM.out c.2
    · have hlt' : ¬ (k : Int) + 3 ≤ (l.length : Int) := by omega
      go_wp2
      go_ret
      have HF : leapB l = false := by
        cases hb : leapB l
        · rfl
        · obtain ⟨j, h1, h2⟩ := (leapB_iff l).1 hb
          by_cases hj : j < k
          · exact absurd ⟨h1, h2⟩ (HN.out j hj)
          · omega
      exact ⟨ret_bool HF.symm, rfl⟩

set_option maxRecDepth 100000 in
set_option maxHeartbeats 4000000 in
theorem walk_StampOne (a b : List UInt8) (now : Int) (w : World) (tb : Tb w) (hn : I64 now) (ha : a.length ≤ 140737488355328) (hb : b.length ≤ 140737488355328) :
    Calls Tryd.prog 6 #[.string (str a), .string (str b), .int .i64 now] w fun e w' => e = .returned (.bool true) ∧ Below w.heap.size w w' := by
  have HA : Hid (Calls Tryd.prog 7 #[] w fun e w' => e = .returned (.bool true) ∧ Below w.heap.size w w') := awake_any w tb
  have HT : Hid (Tb w) := tb
  clear tb
  have H1 : Hid (∀ w, Tb w → Calls Tryd.prog 14 #[.string (str a), .int .i64 now] w fun e w' => e = .returned (.tuple #[.int .i64 (parseS a now).1, .int .i64 (parseS a now).2.1, .int .i64 (parseS a now).2.2.1, .int .i64 (parseS a now).2.2.2]) ∧ Below w.heap.size w w') := fun w tb => Parse_any a now ha hn w tb
  have H2 : Hid (∀ w, Tb w → Calls Tryd.prog 14 #[.string (str b), .int .i64 now] w fun e w' => e = .returned (.tuple #[.int .i64 (parseS b now).1, .int .i64 (parseS b now).2.1, .int .i64 (parseS b now).2.2.1, .int .i64 (parseS b now).2.2.2]) ∧ Below w.heap.size w w') := fun w tb => Parse_any b now hb hn w tb
  have H3 : Hid (∀ w, Calls Tryd.prog 15 #[.string (str a)] w fun e w' => e = .returned (.bool (leapB a)) ∧ w' = w) := fun w => leapt_any a ha w
  have H4 : Hid (∀ w, Calls Tryd.prog 15 #[.string (str b)] w fun e w' => e = .returned (.bool (leapB b)) ∧ w' = w) := fun w => leapt_any b hb w
  obtain ⟨m, hm⟩ : ∃ m, parseS a now = m := ⟨_, rfl⟩
  obtain ⟨n, hn'⟩ : ∃ n, parseS b now = n := ⟨_, rfl⟩
  rw [hm] at H1
  rw [hn'] at H2
  obtain ⟨m1, m2, m3, m4⟩ := m
  obtain ⟨n1, n2, n3, n4⟩ := n
  dsimp only at H1 H2
  have HK : Hid (m3 = 0 → n3 = 0 → m2 = n2 → a ≠ b → leapB a = false → leapB b = false → (m2 = 2 → 9 < a.length → cut9 a = cut9 b → m1 = n1) ∧ (¬ (m2 = 2 ∧ 9 < a.length ∧ cut9 a = cut9 b) → m1 ≠ n1)) := (by
    intro e1 e2 e3 hne l1 l2
    subst e3
    obtain ⟨_, Y, mm, h, i, s, k, d, dt, S⟩ := parse_says hm e1
    obtain ⟨_, Y', mm', h', i', s', k', d', dt', T⟩ := parse_says hn' e2
    have q1 : ¬ Leapt a := fun c => by rw [(leapB_iff a).2 c] at l1; cases l1
    have q2 : ¬ Leapt b := fun c => by rw [(leapB_iff b).2 c] at l2; cases l2
    refine ⟨fun f2 _ hc => ?_, fun hc => ?_⟩
    · subst f2
      exact one_cut S T hc
    · intro he
      subst he
      rcases one_same S T q1 q2 with ⟨_, e⟩ | ⟨f2, hl9, e⟩
      · exact hne e
      · exact hc ⟨f2, hl9, e⟩ : m3 = 0 → n3 = 0 → m2 = n2 → a ≠ b → leapB a = false → leapB b = false → (m2 = 2 → 9 < a.length → cut9 a = cut9 b → m1 = n1) ∧ (¬ (m2 = 2 ∧ 9 < a.length ∧ cut9 a = cut9 b) → m1 ≠ n1))
  clear hm hn'
  have hsa := str_size a
  have hsb := str_size b
  have START : True := trivial
  by_cases e1 : m3 = 0
  case neg =>
    have q1 : (m3 != 0) = true := by simpa using e1
    go_enter Tryd.func6, Tryd.ntmps6
    go_wp2_with fail
    refine Calls.mono HA.out ?_
    rintro e w1 ⟨rfl, c1⟩
    have HB1 : Hid (Below w.heap.size w w1) := c1
    have HT1 : Hid (Tb w1) := HT.out.bel c1
    clear c1
    go_wp2_with fail
    refine (H1.out _ HT1.out).mono ?_
    rintro e w2 ⟨rfl, c1⟩
    have HB2 : Hid (Below w.heap.size w w2) := bel_trans HB1.out c1
    have HT2 : Hid (Tb w2) := HT1.out.bel c1
    clear c1
    go_wp2_with fail
    refine (H2.out _ HT2.out).mono ?_
    rintro e w3 ⟨rfl, c1⟩
    have HB3 : Hid (Below w.heap.size w w3) := bel_trans HB2.out c1
    clear c1
    go_wp2
    go_ret
    exact ⟨rfl, HB3.out⟩
  go_enter Tryd.func6, Tryd.ntmps6
  go_wp2_with fail
  refine Calls.mono HA.out ?_
  rintro e w1 ⟨rfl, c1⟩
  have HB1 : Hid (Below w.heap.size w w1) := c1
  have HT1 : Hid (Tb w1) := HT.out.bel c1
  clear c1
  go_wp2_with fail
  refine (H1.out _ HT1.out).mono ?_
  rintro e w2 ⟨rfl, c1⟩
  have HB2 : Hid (Below w.heap.size w w2) := bel_trans HB1.out c1
  have HT2 : Hid (Tb w2) := HT1.out.bel c1
  clear c1
  go_wp2_with fail
  refine (H2.out _ HT2.out).mono ?_
  rintro e w3 ⟨rfl, c1⟩
  have HB3 : Hid (Below w.heap.size w w3) := bel_trans HB2.out c1
  clear c1
  subst e1
  by_cases e2 : n3 = 0
  case neg =>
    have q1 : (n3 != 0) = true := by simpa using e2
    go_wp2
    go_ret
    exact ⟨rfl, HB3.out⟩
  subst e2
  by_cases e3 : m2 = n2
  case neg =>
    have q1 : (m2 != n2) = true := by simpa using e3
    go_wp2
    go_ret
    exact ⟨rfl, HB3.out⟩
  subst e3
  by_cases e4 : a.length = b.length
  case neg =>
    have q1 : ((a.length : Int) != (b.length : Int)) = true := by simp; omega
    go_wp2
    go_ret
    exact ⟨rfl, HB3.out⟩
  have q4 : ((a.length : Int) != (b.length : Int)) = false := by simp; omega
  by_cases e5 : a = b
  case pos =>
    have q1 : ((str a).toList == (str b).toList) = true := by rw [e5]; simp
    go_wp2
    go_ret
    exact ⟨rfl, HB3.out⟩
  have q5 : ((str a).toList == (str b).toList) = false := by
    rw [eq_toList]
    exact decide_eq_false (fun e => e5 (str_inj e))
  by_cases e6 : leapB a = true
  case pos =>
    rw [e6] at H3
    go_wp2_with fail
    refine (H3.out _).mono ?_
    rintro e w' ⟨rfl, rfl⟩
    go_wp2
    go_ret
    exact ⟨rfl, HB3.out⟩
  have e6' : leapB a = false := by simpa using e6
  by_cases e7 : leapB b = true
  case pos =>
    rw [e6'] at H3
    rw [e7] at H4
    go_wp2_with fail
    refine (H3.out _).mono ?_
    rintro e w' ⟨rfl, rfl⟩
    go_wp2_with fail
    refine (H4.out _).mono ?_
    rintro e w' ⟨rfl, rfl⟩
    go_wp2
    go_ret
    exact ⟨rfl, HB3.out⟩
  have e7' : leapB b = false := by simpa using e7
  obtain ⟨k1, k2⟩ := HK.out rfl rfl rfl e5 e6' e7'
  have K1 : Hid (m2 = 2 → 9 < a.length → cut9 a = cut9 b → m1 = n1) := k1
  have K2 : Hid (¬ (m2 = 2 ∧ 9 < a.length ∧ cut9 a = cut9 b) → m1 ≠ n1) := k2
  rw [e6'] at H3
  rw [e7'] at H4
  clear k1 k2 HK e6 e7 e6' e7' e5
  go_wp2_with fail
  refine (H3.out _).mono ?_
  rintro e w' ⟨rfl, rfl⟩
  go_wp2_with fail
  refine (H4.out _).mono ?_
  rintro e w' ⟨rfl, rfl⟩
  have c8a : (str a).extract 0 8 = str (a.take 8) := by have := str_ext a 0 8; simpa using this
  have c8b : (str b).extract 0 8 = str (b.take 8) := by have := str_ext b 0 8; simpa using this
  have cta : (str a).extract 9 a.length = str (a.drop 9) := by
    apply eq_list
    rw [str_list]
    simp [str, ByteArray.data_extract]
    exact List.take_of_length_le (by rw [List.length_drop]; omega)
  have ctb : (str b).extract 9 b.length = str (b.drop 9) := by
    apply eq_list
    rw [str_list]
    simp [str, ByteArray.data_extract]
    exact List.take_of_length_le (by rw [List.length_drop]; omega)
  have sza : (str (a.take 8)).size + (str (a.drop 9)).size ≤ 9223372036854775807 := by rw [str_size, str_size, List.length_take, List.length_drop]; omega
  have szb : (str (b.take 8)).size + (str (b.drop 9)).size ≤ 9223372036854775807 := by rw [str_size, str_size, List.length_take, List.length_drop]; omega
  have hcc : ((str (a.take 8) ++ str (a.drop 9)).toList == (str (b.take 8) ++ str (b.drop 9)).toList) = decide (cut9 a = cut9 b) := by
    rw [str_app, str_app, eq_toList]
    exact decide_eq_decide.2 ⟨str_inj, fun e => congrArg str e⟩
  obtain ⟨L, hL⟩ : ∃ L, a.length = L := ⟨_, rfl⟩
  have hL2 : b.length = L := by omega
  rw [hL] at K1 K2 hsa cta ha
  rw [hL2] at hsb ctb hb
  rw [hL, hL2] at q4
  clear e4
  generalize cut9 a = CA at *
  generalize cut9 b = CB at *
  generalize str (a.take 8) = XA at *
  generalize str (a.drop 9) = YA at *
  generalize str (b.take 8) = XB at *
  generalize str (b.drop 9) = YB at *
  clear hL2
  by_cases e8 : m2 = 2
  case neg =>
    have q8 : (m2 == 2) = false := by simpa using e8
    have hne : (m1 != n1) = true := by simpa using K2.out (fun c => e8 c.1)
    go_wp2_with fail
    go_quiet (fail)
    go_wp2
    go_ret
    first | exact ⟨rfl, bel_drewN HB3.out _⟩ | exact ⟨ret_bool hne, bel_drewN HB3.out _⟩
  subst e8
  by_cases e9 : 9 < L
  case neg =>
    have hne : (m1 != n1) = true := by simpa using K2.out (fun c => e9 c.2.1)
    have q9 : ¬ (9 : Int) < (L : Int) := by omega
    have qd : decide ((9 : Int) < (L : Int)) = false := decide_eq_false q9
    go_wp2_with fail
    go_quiet (fail)
    go_wp2
    go_ret
    first | exact ⟨rfl, bel_drewN HB3.out _⟩ | exact ⟨ret_bool hne, bel_drewN HB3.out _⟩
  have q9 : (9 : Int) < (L : Int) := by omega
  have qd : decide ((9 : Int) < (L : Int)) = true := decide_eq_true q9
  by_cases ec : CA = CB
  case neg =>
    have hne : (m1 != n1) = true := by simpa using K2.out (fun c => ec c.2.2)
    rw [decide_eq_false ec] at hcc
    go_wp2_with fail
    go_quiet (fail)
    go_wp2
    go_ret
    first | exact ⟨rfl, bel_drewN HB3.out _⟩ | exact ⟨ret_bool hne, bel_drewN HB3.out _⟩
  have heq := K1.out rfl e9 ec
  subst heq
  rw [decide_eq_true ec] at hcc
  go_wp2_with fail
  go_quiet (fail)
  go_wp2
  go_ret
  exact ⟨rfl, bel_drewN HB3.out _⟩

end Bs
end Go.Proofs.YtpfkajalkakbgabDoor
