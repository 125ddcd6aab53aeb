/-
  The document's Encode.
-/
import Derived.Test.YtcnjnlmjgbmjnabDoorRHex
set_option linter.unusedVariables false
set_option linter.unusedSimpArgs false
namespace Go.Proofs.YtcnjnlmjgbmjnabDoor
open Go.RowKit
namespace Bs

set_option maxRecDepth 100000 in
set_option maxHeartbeats 400000 in
theorem rSign_any (n : Nat) (h : n < 64) (w : World) : Calls Tryd.prog 23 #[.int .i64 (n : Int)] w fun e w' => e = .returned (.int .u8 ((sgn n).toNat : Int)) ∧ w' = w := by
  have hsg := sg_at n
  have h' : ((n : Nat) : Int) < 64 := by omega
  go_enter Tryd.func23, Tryd.ntmps23
  go_wp2
  go_ret
  exact ⟨rfl, rfl⟩

theorem drop_at {l : List UInt8} {I j : Nat} {x : UInt8} (h : (l.drop I)[j]? = some x) : l.getD (I + j) 0 = x := by
  rw [List.getElem?_drop] at h
  rw [List.getD_eq_getElem?_getD, h]
  rfl

set_option maxRecDepth 100000 in
set_option maxHeartbeats 2000000 in
theorem rEncode_any (l : List UInt8) (hl : (l.length + 2) / 3 * 4 ≤ 140737488355328) (w : World) :
    Calls Tryd.prog 12 #[.string (str l)] w fun e w' => e = .returned (.string (str (enc l))) ∧ Below w.heap.size w w' := by
  have hs : (str l).size = l.length := str_size l
  have HOw : Hid (Own w.heap.size (.slice (some ⟨w.heap.size, 0, none⟩) 0 0) [] (w.alloc (.cells #[] 5))) := own_empty w
  have hby : ∀ (k : Nat) (h : k < (str l).size), ((str l)[k]'h) = l.getD k 0 := fun k h => by rw [← at_lt _ k h, str_list]
  have HEL : Hid ((enc l).length ≤ 140737488355328) := (by rw [enc_len]; exact hl : (enc l).length ≤ 140737488355328)
  go_enter Tryd.func12, Tryd.ntmps12
  go_wp2
  go_loopw [3, 4] (fun v i wr => ∃ (I : Nat) (t : List UInt8), I ≤ l.length + 2 ∧ i = .int .i64 (I : Int) ∧ Hid (t ++ enc (l.drop I) = enc l) ∧ Hid (Own w.heap.size v t wr) ∧ Hid (Below w.heap.size w wr)) (fun _ i _ => l.length - (intOf i).toNat)
  case atStart => exact ⟨0, [], by omega, rfl, rfl, HOw.out, (Below.refl _ w).alloc (Nat.le_refl _) _⟩
  case round =>
    obtain ⟨I, t, hI, rfl, HE, HO, HB⟩ := hrel
    clear HOw
    have hsz := HB.out.size
    by_cases hlt : I < l.length
    · have htl : t.length + (enc (l.drop I)).length ≤ 140737488355328 := by
        have h1 := congrArg List.length HE.out
        have h2 := HEL.out
        rw [List.length_append] at h1
        omega
      have hdl : (l.drop I).length = l.length - I := List.length_drop
      have b0 := hby I
      have b1 := hby (I + 1)
      have b2 := hby (I + 2)
      clear hby
      match hr : l.drop I with
      | [] => rw [hr] at hdl; simp at hdl; omega
      | [a] =>
        rw [hr] at HE hdl htl
        have d0 : l.getD I 0 = a := drop_at (j := 0) (by rw [hr]; rfl)
        have hlen : I + 1 = l.length := by simp at hdl; omega
        rw [d0] at b0
        clear b1
        clear b2
        have la := a.toNat_lt
        have c1 : ¬ ((I : Int) + 1 < ((l.length : Nat) : Int)) := by omega
        have c2 : ¬ ((I : Int) + 2 < ((l.length : Nat) : Int)) := by omega
        have t1 : ((I : Int) + 1).toNat = I + 1 := by omega
        have t2 : ((I : Int) + 2).toNat = I + 2 := by omega
        have hN : (a.toNat : Int) * 65536 = ((a.toNat * 65536 : Nat) : Int) := by omega
        have HS : Hid (enc ([a]) = [sgn ((a.toNat * 65536) / 262144), sgn ((a.toNat * 65536) / 4096 % 64)] ++ [61] ++ [61] ++ enc ([])) := by
          show enc _ = _
          conv => lhs; unfold enc
          rw [show (a.toNat * 65536) / 262144 = a.toNat / 4 by omega, show (a.toNat * 65536) / 4096 % 64 = a.toNat % 4 * 16 by omega]
          simp [enc]
        have hlt4 : t.length + 4 ≤ 140737488355328 := by
          have := htl
          rw [enc_len] at this
          simp only [List.length_cons, List.length_nil] at this
          omega
        clear htl hdl
        have hNl : a.toNat * 65536 < 16777216 := by omega
        generalize a.toNat * 65536 = N at *
        have q0 : ((N : Nat) : Int) / 262144 = ((N / 262144 : Nat) : Int) := by omega
        have q1 : ((N : Nat) : Int) / 4096 % 64 = ((N / 4096 % 64 : Nat) : Int) := by omega
        have s0 : N / 262144 < 64 := by omega
        have s1 : N / 4096 % 64 < 64 := by omega
        generalize N / 262144 = n0 at *
        generalize N / 4096 % 64 = n1 at *
        have HF : Hid ((t ++ [sgn n0, sgn n1, 61, 61]) ++ enc (l.drop (I + 3)) = enc l) := by
          show _ = _
          have hr3 : l.drop (I + 3) = [] := by rw [← List.drop_drop, hr]; rfl
          rw [hr3, ← HE.out, HS.out]
          simp
        clear HE HS hr d0
        go_wp2_with fail
        refine (rSign_any n0 s0 _).mono ?_
        rintro e w2 ⟨rfl, hw2⟩
        rw [hw2]
        clear hw2 w2
        go_wp2_with fail
        refine (rSign_any n1 s1 _).mono ?_
        rintro e w2 ⟨rfl, hw2⟩
        rw [hw2]
        clear hw2 w2
        go_wp2_with (at_builtin; go_must (refine wp_app rfl (.tmp 47) (.tmp 55) rfl w.heap.size _ t [sgn n0, sgn n1] _ _ rfl rfl HO.out rfl (by simp; omega) hsz ?_))
        intro v0 x0 ho0 hb0
        have hz0 := hb0.out.size
        go_wp2_with (at_builtin; go_must (refine wp_app rfl (.tmp 69) (.tmp 70) rfl w.heap.size _ (t ++ [sgn n0, sgn n1]) [61] _ _ rfl rfl ho0.out rfl (by simp; omega) (by omega) ?_))
        intro v1 x1 ho1 hb1
        have hz1 := hb1.out.size
        go_wp2_with (at_builtin; go_must (refine wp_app rfl (.tmp 83) (.tmp 84) rfl w.heap.size _ (t ++ [sgn n0, sgn n1, 61]) [61] _ _ rfl rfl ho1.out rfl (by simp; omega) (by omega) ?_))
        intro v2 x2 ho2 hb2
        go_wp2
        exact ⟨⟨I + 3, t ++ [sgn n0, sgn n1, 61, 61], by omega, by go_num, HF.out, (by simpa using ho2.out : Own w.heap.size _ (t ++ [sgn n0, sgn n1, 61, 61]) _), ((HB.out.trans hb0.out).trans hb1.out).trans hb2.out⟩, by simp [intOf]; omega⟩
      | [a, b] =>
        rw [hr] at HE hdl htl
        have d0 : l.getD I 0 = a := drop_at (j := 0) (by rw [hr]; rfl)
        have d1 : l.getD (I + 1) 0 = b := drop_at (j := 1) (by rw [hr]; rfl)
        have hlen : I + 2 = l.length := by simp at hdl; omega
        rw [d0] at b0
        rw [d1] at b1
        clear b2
        have la := a.toNat_lt
        have lb := b.toNat_lt
        have c1 : (I : Int) + 1 < ((l.length : Nat) : Int) := by omega
        have c2 : ¬ ((I : Int) + 2 < ((l.length : Nat) : Int)) := by omega
        have t1 : ((I : Int) + 1).toNat = I + 1 := by omega
        have t2 : ((I : Int) + 2).toNat = I + 2 := by omega
        have hN : (a.toNat : Int) * 65536 + (b.toNat : Int) * 256 = ((a.toNat * 65536 + b.toNat * 256 : Nat) : Int) := by omega
        have HS : Hid (enc ([a, b]) = [sgn ((a.toNat * 65536 + b.toNat * 256) / 262144), sgn ((a.toNat * 65536 + b.toNat * 256) / 4096 % 64)] ++ [sgn ((a.toNat * 65536 + b.toNat * 256) / 64 % 64)] ++ [61] ++ enc ([])) := by
          show enc _ = _
          conv => lhs; unfold enc
          rw [show (a.toNat * 65536 + b.toNat * 256) / 262144 = a.toNat / 4 by omega, show (a.toNat * 65536 + b.toNat * 256) / 4096 % 64 = a.toNat % 4 * 16 + b.toNat / 16 by omega, show (a.toNat * 65536 + b.toNat * 256) / 64 % 64 = b.toNat % 16 * 4 by omega]
          simp [enc]
        have hlt4 : t.length + 4 ≤ 140737488355328 := by
          have := htl
          rw [enc_len] at this
          simp only [List.length_cons, List.length_nil] at this
          omega
        clear htl hdl
        have hNl : a.toNat * 65536 + b.toNat * 256 < 16777216 := by omega
        generalize a.toNat * 65536 + b.toNat * 256 = N at *
        have q0 : ((N : Nat) : Int) / 262144 = ((N / 262144 : Nat) : Int) := by omega
        have q1 : ((N : Nat) : Int) / 4096 % 64 = ((N / 4096 % 64 : Nat) : Int) := by omega
        have s0 : N / 262144 < 64 := by omega
        have s1 : N / 4096 % 64 < 64 := by omega
        have q2 : ((N : Nat) : Int) / 64 % 64 = ((N / 64 % 64 : Nat) : Int) := by omega
        have s2 : N / 64 % 64 < 64 := by omega
        generalize N / 262144 = n0 at *
        generalize N / 4096 % 64 = n1 at *
        generalize N / 64 % 64 = n2 at *
        have HF : Hid ((t ++ [sgn n0, sgn n1, sgn n2, 61]) ++ enc (l.drop (I + 3)) = enc l) := by
          show _ = _
          have hr3 : l.drop (I + 3) = [] := by rw [← List.drop_drop, hr]; rfl
          rw [hr3, ← HE.out, HS.out]
          simp
        clear HE HS hr d0 d1
        go_wp2_with fail
        refine (rSign_any n0 s0 _).mono ?_
        rintro e w2 ⟨rfl, hw2⟩
        rw [hw2]
        clear hw2 w2
        go_wp2_with fail
        refine (rSign_any n1 s1 _).mono ?_
        rintro e w2 ⟨rfl, hw2⟩
        rw [hw2]
        clear hw2 w2
        go_wp2_with (at_builtin; go_must (refine wp_app rfl (.tmp 47) (.tmp 55) rfl w.heap.size _ t [sgn n0, sgn n1] _ _ rfl rfl HO.out rfl (by simp; omega) hsz ?_))
        intro v0 x0 ho0 hb0
        have hz0 := hb0.out.size
        go_wp2_with fail
        refine (rSign_any n2 s2 _).mono ?_
        rintro e w2 ⟨rfl, hw2⟩
        rw [hw2]
        clear hw2 w2
        go_wp2_with (at_builtin; go_must (refine wp_app rfl (.tmp 62) (.tmp 67) rfl w.heap.size _ (t ++ [sgn n0, sgn n1]) [sgn n2] _ _ rfl rfl ho0.out rfl (by simp; omega) (by omega) ?_))
        intro v1 x1 ho1 hb1
        have hz1 := hb1.out.size
        go_wp2_with (at_builtin; go_must (refine wp_app rfl (.tmp 83) (.tmp 84) rfl w.heap.size _ (t ++ [sgn n0, sgn n1, sgn n2]) [61] _ _ rfl rfl ho1.out rfl (by simp; omega) (by omega) ?_))
        intro v2 x2 ho2 hb2
        go_wp2
        exact ⟨⟨I + 3, t ++ [sgn n0, sgn n1, sgn n2, 61], by omega, by go_num, HF.out, (by simpa using ho2.out : Own w.heap.size _ (t ++ [sgn n0, sgn n1, sgn n2, 61]) _), ((HB.out.trans hb0.out).trans hb1.out).trans hb2.out⟩, by simp [intOf]; omega⟩
      | a :: b :: c :: r =>
        rw [hr] at HE hdl htl
        have d0 : l.getD I 0 = a := drop_at (j := 0) (by rw [hr]; rfl)
        have d1 : l.getD (I + 1) 0 = b := drop_at (j := 1) (by rw [hr]; rfl)
        have d2 : l.getD (I + 2) 0 = c := drop_at (j := 2) (by rw [hr]; rfl)
        have hlen : I + 3 ≤ l.length := by simp at hdl; omega
        rw [d0] at b0
        rw [d1] at b1
        rw [d2] at b2
        have la := a.toNat_lt
        have lb := b.toNat_lt
        have lc := c.toNat_lt
        have c1 : (I : Int) + 1 < ((l.length : Nat) : Int) := by omega
        have c2 : (I : Int) + 2 < ((l.length : Nat) : Int) := by omega
        have t1 : ((I : Int) + 1).toNat = I + 1 := by omega
        have t2 : ((I : Int) + 2).toNat = I + 2 := by omega
        have hN : (a.toNat : Int) * 65536 + (b.toNat : Int) * 256 + (c.toNat : Int) = ((a.toNat * 65536 + b.toNat * 256 + c.toNat : Nat) : Int) := by omega
        have HS : Hid (enc (a :: b :: c :: r) = [sgn ((a.toNat * 65536 + b.toNat * 256 + c.toNat) / 262144), sgn ((a.toNat * 65536 + b.toNat * 256 + c.toNat) / 4096 % 64)] ++ [sgn ((a.toNat * 65536 + b.toNat * 256 + c.toNat) / 64 % 64)] ++ [sgn ((a.toNat * 65536 + b.toNat * 256 + c.toNat) % 64)] ++ enc (r)) := by
          show enc _ = _
          conv => lhs; unfold enc
          rw [show (a.toNat * 65536 + b.toNat * 256 + c.toNat) / 262144 = a.toNat / 4 by omega, show (a.toNat * 65536 + b.toNat * 256 + c.toNat) / 4096 % 64 = a.toNat % 4 * 16 + b.toNat / 16 by omega, show (a.toNat * 65536 + b.toNat * 256 + c.toNat) / 64 % 64 = b.toNat % 16 * 4 + c.toNat / 64 by omega, show (a.toNat * 65536 + b.toNat * 256 + c.toNat) % 64 = c.toNat % 64 by omega]
          rfl
        have hlt4 : t.length + 4 ≤ 140737488355328 := by
          have := htl
          rw [enc_len] at this
          simp only [List.length_cons, List.length_nil] at this
          omega
        clear htl hdl
        have hNl : a.toNat * 65536 + b.toNat * 256 + c.toNat < 16777216 := by omega
        generalize a.toNat * 65536 + b.toNat * 256 + c.toNat = N at *
        have q0 : ((N : Nat) : Int) / 262144 = ((N / 262144 : Nat) : Int) := by omega
        have q1 : ((N : Nat) : Int) / 4096 % 64 = ((N / 4096 % 64 : Nat) : Int) := by omega
        have s0 : N / 262144 < 64 := by omega
        have s1 : N / 4096 % 64 < 64 := by omega
        have q2 : ((N : Nat) : Int) / 64 % 64 = ((N / 64 % 64 : Nat) : Int) := by omega
        have s2 : N / 64 % 64 < 64 := by omega
        have q3 : ((N : Nat) : Int) % 64 = ((N % 64 : Nat) : Int) := by omega
        have s3 : N % 64 < 64 := by omega
        generalize N / 262144 = n0 at *
        generalize N / 4096 % 64 = n1 at *
        generalize N / 64 % 64 = n2 at *
        generalize N % 64 = n3 at *
        have HF : Hid ((t ++ [sgn n0, sgn n1, sgn n2, sgn n3]) ++ enc (l.drop (I + 3)) = enc l) := by
          show _ = _
          have hr3 : l.drop (I + 3) = r := by rw [← List.drop_drop, hr]; rfl
          rw [hr3, ← HE.out, HS.out]
          simp
        clear HE HS hr d0 d1 d2
        go_wp2_with fail
        refine (rSign_any n0 s0 _).mono ?_
        rintro e w2 ⟨rfl, hw2⟩
        rw [hw2]
        clear hw2 w2
        go_wp2_with fail
        refine (rSign_any n1 s1 _).mono ?_
        rintro e w2 ⟨rfl, hw2⟩
        rw [hw2]
        clear hw2 w2
        go_wp2_with (at_builtin; go_must (refine wp_app rfl (.tmp 47) (.tmp 55) rfl w.heap.size _ t [sgn n0, sgn n1] _ _ rfl rfl HO.out rfl (by simp; omega) hsz ?_))
        intro v0 x0 ho0 hb0
        have hz0 := hb0.out.size
        go_wp2_with fail
        refine (rSign_any n2 s2 _).mono ?_
        rintro e w2 ⟨rfl, hw2⟩
        rw [hw2]
        clear hw2 w2
        go_wp2_with (at_builtin; go_must (refine wp_app rfl (.tmp 62) (.tmp 67) rfl w.heap.size _ (t ++ [sgn n0, sgn n1]) [sgn n2] _ _ rfl rfl ho0.out rfl (by simp; omega) (by omega) ?_))
        intro v1 x1 ho1 hb1
        have hz1 := hb1.out.size
        go_wp2_with fail
        refine (rSign_any n3 s3 _).mono ?_
        rintro e w2 ⟨rfl, hw2⟩
        rw [hw2]
        clear hw2 w2
        go_wp2_with (at_builtin; go_must (refine wp_app rfl (.tmp 77) (.tmp 81) rfl w.heap.size _ (t ++ [sgn n0, sgn n1, sgn n2]) [sgn n3] _ _ rfl rfl ho1.out rfl (by simp; omega) (by omega) ?_))
        intro v2 x2 ho2 hb2
        go_wp2
        exact ⟨⟨I + 3, t ++ [sgn n0, sgn n1, sgn n2, sgn n3], by omega, by go_num, HF.out, (by simpa using ho2.out : Own w.heap.size _ (t ++ [sgn n0, sgn n1, sgn n2, sgn n3]) _), ((HB.out.trans hb0.out).trans hb1.out).trans hb2.out⟩, by simp [intOf]; omega⟩
    · have HF : Hid (t = enc l) := (by
        have := HE.out
        rw [List.drop_of_length_le (by omega)] at this
        simpa [enc] using this : t = enc l)
      have hbk := back wr _ _ HO.out.rd
      rw [HF.out] at hbk
      clear hby
      go_wp2
      go_ret
      exact ⟨rfl, HB.out⟩

end Bs
end Go.Proofs.YtcnjnlmjgbmjnabDoor
