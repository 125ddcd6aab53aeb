/-
  sheet: a mark taken.
-/
import Derived.Test.YtlnlhhobmgiceaaGreatDoorSrA
import Derived.Test.YtlnlhhobmgiceaaGreatDoorMgG
set_option linter.unusedVariables false
set_option linter.unusedSimpArgs false
namespace Go.Proofs.YtlnlhhobmgiceaaGreatDoor
open Go.RowKit Go.Shelf
namespace Sr
open Oc Tg Mf

/-- What takeMark answers: whether it is the last one, what is wrong, the place. -/
def tkP (l : List UInt8) (a k : Nat) (last : Bool) : Bool × Option (Int × Int) × Nat :=
  if Lib.hasPrefix (trimL (l.drop (a + k))) [13, 10] = true then (false, none, l.length - (trimL (l.drop (a + k))).length + 2)
  else if last = true ∧ (l.drop (a + k) = [45, 45] ∨ Lib.hasPrefix (l.drop (a + k)) [45, 45, 13, 10] = true) then (true, none, a)
  else if Lib.hasPrefix [13, 10] (trimL (l.drop (a + k))) = true ∨ (last = true ∧ Lib.hasPrefix [45, 45, 13, 10] (l.drop (a + k)) = true) then (false, some ((l.length : Int), 154), a)
  else (false, some (((a + k : Nat) : Int), 151), a)
theorem trimL_len (l : List UInt8) : (trimL l).length ≤ l.length := by
  unfold trimL
  exact (List.dropWhile_suffix _).length_le
theorem TrimLeft_bl (s : ByteArray) (w : World) : Calls Tryz.prog 66 #[.string s, .string ⟨#[32, 9]⟩] w fun e w' => e = .returned (.string (str (trimL s.data.toList))) ∧ Below w.heap.size w w' := by
  have hcon := Any.strings_TrimLeft_laid Tryz.lays161 (by kernel_rfl) s ⟨#[32, 9]⟩ w (by decide) (ascii_of_all (by decide))
  change Calls Tryz.prog 66 _ _ (fun e w' => e = .returned (.string ⟨(Lib.trimLeftS s.data.toList [32, 9]).toArray⟩) ∧ Below w.heap.size w w') at hcon
  rw [trimLeftS_eq] at hcon
  exact hcon

set_option maxRecDepth 100000 in
set_option maxHeartbeats 2000000 in
theorem takeMark_any (g a k : Nat) (s M : ByteArray) (hk : M.size = k) (ha : a + k ≤ s.size) (hs : s.size ≤ 4000000000) (last : Bool) (w : World) (hR : SR w g s M a) :
    Calls Tryz.prog 68 #[.pointer (some ⟨g, 0, none⟩), .bool last] w fun e w' => e = .returned (.tuple #[.bool (tkP s.data.toList a k last).1, errV (tkP s.data.toList a k last).2.1]) ∧ SR w' g s M (tkP s.data.toList a k last).2.2 ∧ Chg g w w' := by
  obtain ⟨c0, c1, c2⟩ := hR.cells
  have HR : Hid (SR w g s M a) := hR
  have hsl : s.data.toList.length = s.size := size_list s
  have hex := ext_drop s (a + k)
  have hrl : (s.data.toList.drop (a + k)).length = s.size - (a + k) := by rw [List.length_drop, hsl]
  have htl := trimL_len (s.data.toList.drop (a + k))
  have HTl : Hid (∀ W, Calls Tryz.prog 66 #[.string (str (s.data.toList.drop (a + k))), .string ⟨#[32, 9]⟩] W fun e w' => e = .returned (.string (str (trimL (s.data.toList.drop (a + k))))) ∧ Below (World.heap W).size W w') := fun W => by
    have := TrimLeft_bl (str (s.data.toList.drop (a + k))) W
    rw [str_list] at this
    exact this
  have HPx : ∀ (x y : List UInt8) W, Calls Tryz.prog 96 #[.string (str x), .string (str y)] W fun e w' => e = .returned (.bool (Lib.hasPrefix x y)) ∧ w' = W := fun x y W => by
    have := Tryz.strings_HasPrefix (str x) (str y) W
    rw [str_list, str_list] at this
    exact this
  have HP1 : Hid (∀ W, Calls Tryz.prog 96 #[.string (str (trimL (s.data.toList.drop (a + k)))), .string ⟨#[13, 10]⟩] W fun e w' => e = .returned (.bool (Lib.hasPrefix (trimL (s.data.toList.drop (a + k))) [13, 10])) ∧ w' = W) := HPx _ [13, 10]
  have HP2 : Hid (∀ W, Calls Tryz.prog 96 #[.string (str (s.data.toList.drop (a + k))), .string ⟨#[45, 45, 13, 10]⟩] W fun e w' => e = .returned (.bool (Lib.hasPrefix (s.data.toList.drop (a + k)) [45, 45, 13, 10])) ∧ w' = W) := HPx _ [45, 45, 13, 10]
  have HP3 : Hid (∀ W, Calls Tryz.prog 96 #[.string ⟨#[13, 10]⟩, .string (str (trimL (s.data.toList.drop (a + k))))] W fun e w' => e = .returned (.bool (Lib.hasPrefix [13, 10] (trimL (s.data.toList.drop (a + k))))) ∧ w' = W) := HPx [13, 10] _
  have HP4 : Hid (∀ W, Calls Tryz.prog 96 #[.string ⟨#[45, 45, 13, 10]⟩, .string (str (s.data.toList.drop (a + k)))] W fun e w' => e = .returned (.bool (Lib.hasPrefix [45, 45, 13, 10] (s.data.toList.drop (a + k)))) ∧ w' = W) := HPx [45, 45, 13, 10] _
  have HRd : Hid (tkP s.data.toList a k last = _) := (by unfold tkP; rw [hsl]; exact rfl)
  have hbn : (a : Int) + (k : Int) ≤ (s.size : Int) := by omega
  have hbt : ((a : Int) + (k : Int)).toNat = a + k := by omega
  have hb0 : (0 : Int) ≤ (a : Int) + (k : Int) := by omega
  have hTz : (str (trimL (s.data.toList.drop (a + k)))).size = (trimL (s.data.toList.drop (a + k))).length := str_size _
  clear HPx hsl
  generalize tkP s.data.toList a k last = R at *
  generalize Lib.hasPrefix (trimL (s.data.toList.drop (a + k))) [13, 10] = b1 at *
  generalize Lib.hasPrefix (s.data.toList.drop (a + k)) [45, 45, 13, 10] = b2 at *
  generalize Lib.hasPrefix [13, 10] (trimL (s.data.toList.drop (a + k))) = b3 at *
  generalize Lib.hasPrefix [45, 45, 13, 10] (s.data.toList.drop (a + k)) = b4 at *
  go_enter Tryz.func68, Tryz.ntmps68
  go_wp2_with fail
  go_quiet (fail)
  obtain ⟨w1, hw1⟩ : ∃ w1, w1 = w.drewN nq := ⟨_, rfl⟩
  have hb1 : Below w.heap.size w w1 := by rw [hw1]; exact ⟨rfl, rfl, rfl, Nat.le_refl _, fun _ _ => rfl⟩
  rw [← hw1]
  clear hw1 c0 c1 c2
  have HR1 : Hid (SR w1 g s M a) := HR.out.below hb1
  have HB1 : Hid (Below w.heap.size w w1) := hb1
  clear hb1
  obtain ⟨d0, d1, d2⟩ := HR1.out.cells
  go_wp2_with fail
  refine (HTl.out _).mono ?_
  rintro e w2 ⟨rfl, hb2⟩
  have HR2 : Hid (SR w2 g s M a) := HR1.out.below hb2
  have HB2 : Hid (Below w.heap.size w w2) := bel_trans HB1.out hb2
  clear hb2 d0 d1 d2 HR1 HB1
  obtain ⟨d0, d1, d2⟩ := HR2.out.cells
  have df := HR2.out.f 2
  have HC2 : Hid (Chg g w w2) := Chg.of g HB2.out
  generalize htt : trimL (s.data.toList.drop (a + k)) = TT at *
  generalize hrr : s.data.toList.drop (a + k) = RR at *
  clear htt hrr HTl
  generalize str TT = ST at *
  go_wp2_with fail
  refine (HP1.out _).mono ?_
  rintro e w3 ⟨rfl, hw3⟩
  rw [hw3]
  clear hw3
  cases b1 with
  | true =>
    have HQ : Hid (R = (false, none, s.size - TT.length + 2)) := (by rw [HRd.out]; simp : R = _)
    have HE : Hid ((s.size : Int) - (TT.length : Int) + 2 = ((s.size - TT.length + 2 : Nat) : Int)) := (by omega : _ = _)
    go_wp2
    go_ret2
    rw [HQ.out]
    refine ⟨rfl, ?_, HC2.out.set 2 _⟩
    rw [HE.out]
    exact HR2.out.set _
  | false =>
    have hST : (str RR).toList = RR := by rw [ByteArray.toList_eq, str_list]
    generalize str RR = SRR at *
    -- whether it is the last one
    by_cases hl : last = true ∧ (RR = [45, 45] ∨ b2 = true)
    · have HQ : Hid (R = (true, none, a)) := (by rw [HRd.out, if_neg (by decide), if_pos hl] : R = _)
      obtain ⟨rfl, hl⟩ := hl
      by_cases hr : RR = [45, 45]
      · have hr2 : SRR.toList = [45, 45] := by rw [hST, hr]
        have hr3 : (SRR.toList == [45, 45]) = true := by rw [hr2]; rfl
        clear hST hl hr
        go_wp2
        go_ret2
        rw [HQ.out]
        exact ⟨rfl, HR2.out, HC2.out⟩
      · have hb : b2 = true := hl.resolve_left hr
        subst hb
        have hr2 : ¬ SRR.toList = [45, 45] := by rw [hST]; exact hr
        have hr3 : (SRR.toList == [45, 45]) = false := by simpa using hr2
        clear hST hl hr
        go_wp2_with fail
        refine (HP2.out _).mono ?_
        rintro e w4 ⟨rfl, hw4⟩
        rw [hw4]
        clear hw4
        go_wp2
        go_ret2
        rw [HQ.out]
        exact ⟨rfl, HR2.out, HC2.out⟩
    · have HRe : Hid (R = if b3 = true ∨ last = true ∧ b4 = true then (false, some ((s.size : Int), 154), a) else (false, some (((a + k : Nat) : Int), 151), a)) := (by rw [HRd.out, if_neg (by decide), if_neg hl] : R = _)
      clear HRd
      have HSh : Hid (∀ W, SR W g s M a → Calls _ _ _ W _) := fun W h => shut_any g a s M hs W h
      cases last with
      | false =>
        clear hST
        go_wp2_with fail
        refine (HP3.out _).mono ?_
        rintro e w4 ⟨rfl, hw4⟩
        rw [hw4]
        clear hw4
        cases b3 with
        | true =>
          have HQ : Hid (R = (false, some ((s.size : Int), 154), a)) := (by rw [HRe.out]; simp : R = _)
          go_wp2_with fail
          refine (HSh.out _ HR2.out).mono ?_
          rintro e w5 ⟨rfl, hb5⟩
          have HR5 : Hid (SR w5 g s M a) := HR2.out.below hb5
          have HC5 : Hid (Chg g w w5) := HC2.out.bel hb5
          clear hb5
          go_wp2
          go_ret2
          rw [HQ.out]
          exact ⟨rfl, HR5.out, HC5.out⟩
        | false =>
          have HQ : Hid (R = (false, some (((a + k : Nat) : Int), 151), a)) := (by rw [HRe.out]; simp : R = _)
          go_wp2
          go_ret2
          rw [HQ.out]
          exact ⟨rfl, HR2.out, HC2.out⟩
      | true =>
        have hr : ¬ RR = [45, 45] := fun e => hl ⟨rfl, .inl e⟩
        have hb2f : b2 = false := by cases b2 with
          | false => rfl
          | true => exact (hl ⟨rfl, .inr rfl⟩).elim
        subst hb2f
        have hr2 : ¬ SRR.toList = [45, 45] := by rw [hST]; exact hr
        have hr3 : (SRR.toList == [45, 45]) = false := by simpa using hr2
        clear hST hl hr
        go_wp2_with fail
        refine (HP2.out _).mono ?_
        rintro e w4 ⟨rfl, hw4⟩
        rw [hw4]
        clear hw4
        go_wp2_with fail
        refine (HP3.out _).mono ?_
        rintro e w4 ⟨rfl, hw4⟩
        rw [hw4]
        clear hw4
        cases b3 with
        | true =>
          have HQ : Hid (R = (false, some ((s.size : Int), 154), a)) := (by rw [HRe.out]; simp : R = _)
          go_wp2_with fail
          refine (HSh.out _ HR2.out).mono ?_
          rintro e w5 ⟨rfl, hb5⟩
          have HR5 : Hid (SR w5 g s M a) := HR2.out.below hb5
          have HC5 : Hid (Chg g w w5) := HC2.out.bel hb5
          clear hb5
          go_wp2
          go_ret2
          rw [HQ.out]
          exact ⟨rfl, HR5.out, HC5.out⟩
        | false =>
          go_wp2_with fail
          refine (HP4.out _).mono ?_
          rintro e w4 ⟨rfl, hw4⟩
          rw [hw4]
          clear hw4
          cases b4 with
          | true =>
            have HQ : Hid (R = (false, some ((s.size : Int), 154), a)) := (by rw [HRe.out]; simp : R = _)
            go_wp2_with fail
            refine (HSh.out _ HR2.out).mono ?_
            rintro e w5 ⟨rfl, hb5⟩
            have HR5 : Hid (SR w5 g s M a) := HR2.out.below hb5
            have HC5 : Hid (Chg g w w5) := HC2.out.bel hb5
            clear hb5
            go_wp2
            go_ret2
            rw [HQ.out]
            exact ⟨rfl, HR5.out, HC5.out⟩
          | false =>
            have HQ : Hid (R = (false, some (((a + k : Nat) : Int), 151), a)) := (by rw [HRe.out]; simp : R = _)
            go_wp2
            go_ret2
            rw [HQ.out]
            exact ⟨rfl, HR2.out, HC2.out⟩

end Sr
end Go.Proofs.YtlnlhhobmgiceaaGreatDoor
