import Derived.Test.YtcelekfokbdmfaaGreatDoorMtH
set_option linter.unusedVariables false
set_option linter.unusedSimpArgs false
set_option maxRecDepth 100000
namespace Go.Proofs.YtcelekfokbdmfaaGreatDoor
open Go.RowKit Go.Shelf
namespace Ms
open Oc Tg _root_.Go.Proofs.YtcelekfokbdmfaaGreatDoor.Fd _root_.Go.Proofs.YtcelekfokbdmfaaGreatDoor.Ck
theorem infoF12 : (Tryz.prog.info? 80).map (fun i => (i.zero, i.size, i.bytes)) = some (some (.agg #[.string ⟨#[]⟩, .string ⟨#[]⟩]), 2, 32) := by kernel_rfl
set_option maxHeartbeats 8000000 in
theorem rBehind_any (r : Rs) (m : Mn) (hn : i64 r.st) (h100 : 100 ≤ r.st) (hbl : r.bd.length ≤ 4000000000) (af sa ta : Option Addr) (cf cs ct : Nat) (w : World) :
    Calls Tryz.prog 40 #[.agg #[.int .i64 r.st, .string (str r.rs), .slice af r.fs.length cf, .string (str r.bd)], .agg #[.string (str m.me), .bool m.cl, .bool m.old, .bool m.ch, .slice sa m.sz.length cs, .slice ta m.tr.length ct]] w fun e w' => ∃ v, e = .returned v ∧ OwnF 80 w.heap.size v (behF r m) w' ∧ Below w.heap.size w w' := by
  have HN : Hid (∀ W, Calls _ _ _ W _) := fun W => rEmpty_any r.st W
  have HD : Hid (∀ W, Calls Tryz.prog 42 #[.int .i64 ((str r.bd).size : Int)] W fun e w' => e = .returned (.string (str (Lib.itoa (r.bd.length : Int)))) ∧ Below (World.heap W).size W w') := fun W => by
    have := rDigits12_any (r.bd.length : Int) (by constructor <;> omega) W
    have e : dgR (r.bd.length : Int) = Lib.itoa (r.bd.length : Int) := by unfold dgR; rw [if_neg (by omega)]
    rw [e] at this
    rw [str_size]
    exact this
  have HQ : Hid (behF r m = (if m.ch = true then [(nTE, [99, 104, 117, 110, 107, 101, 100])] else if nvr r.st = true then [] else [(nCL, Lib.itoa (r.bd.length : Int))]) ++ (if decide (199 < r.st) = false then [] else if m.cl = true then [(nCn, [99, 108, 111, 115, 101])] else if m.old = true then [(nCn, [107, 101, 101, 112, 45, 97, 108, 105, 118, 101])] else [])) := (by
    have hi : inf r.st = !decide (199 < r.st) := by
      unfold inf
      by_cases h : 199 < r.st
      · rw [decide_eq_true h, decide_eq_false (by omega)]; rfl
      · rw [decide_eq_false h, decide_eq_true (by omega)]; rfl
    unfold behF
    rw [hi]
    cases decide (199 < r.st) <;> rfl : _ = _)
  generalize behF r m = R at *
  generalize nvr r.st = nv at *
  generalize Lib.itoa (r.bd.length : Int) = IT at *
  generalize m.ch = ch at *
  generalize m.old = od at *
  generalize m.cl = cl at *
  generalize str r.bd = BD at *
  generalize str r.rs = RS at *
  generalize str m.me = ME at *
  obtain ⟨ITS, hITS⟩ : ∃ ITS, ITS = str IT := ⟨_, rfl⟩
  rw [← hITS] at HD
  have HIT : Hid (ITS = str IT) := hITS
  clear hITS
  have hB := box2 38 41 w [.int .i64 r.st, .string RS, .slice af r.fs.length cf, .string BD] [.string ME, .bool cl, .bool od, .bool ch, .slice sa m.sz.length cs, .slice ta m.tr.length ct]
  obtain ⟨W0, hW0⟩ : ∃ W0, W0 = (w.alloc (.cells #[.int .i64 r.st, .string RS, .slice af r.fs.length cf, .string BD] 38)).alloc (.cells #[.string ME, .bool cl, .bool od, .bool ch, .slice sa m.sz.length cs, .slice ta m.tr.length ct] 41) := ⟨_, rfl⟩
  have HB : Hid (Box2 38 41 w W0 [.int .i64 r.st, .string RS, .slice af r.fs.length cf, .string BD] [.string ME, .bool cl, .bool od, .bool ch, .slice sa m.sz.length cs, .slice ta m.tr.length ct]) := (by rw [hW0]; exact hB : Box2 _ _ _ _ _ _)
  have HW0 : Hid (W0 = _) := hW0
  clear hB hW0
  have HBr : Hid (Below W0.heap.size W0 W0) := Below.refl _ _
  have HOn : Hid (OwnF 80 W0.heap.size (.slice none 0 0) [] W0) := ownF_nil _ _ _
  have cst : W0.cell? ⟨w.heap.size, 0, none⟩ = some (.int .i64 r.st) := HB.out.resp.cell 0 rfl
  have cbd : W0.cell? ⟨w.heap.size, 3, none⟩ = some (.string BD) := HB.out.resp.cell 3 rfl
  have ccl : W0.cell? ⟨w.heap.size + 1, 1, none⟩ = some (.bool cl) := HB.out.man.cell 1 rfl
  have cod : W0.cell? ⟨w.heap.size + 1, 2, none⟩ = some (.bool od) := HB.out.man.cell 2 rfl
  cases ch with
  | true =>
    by_cases hgt : 199 < r.st
    · rw [decide_eq_true hgt] at HQ
      cases cl with
      | true =>
        go_enter Tryz.func40, Tryz.ntmps40
        go_wp2_with (first | (at_builtin; rw [← HW0.out]; refine wp_appF 80 36 infoF12 Tryz.underlying36 rfl _ _ rfl W0.heap.size (.slice none 0 0) [] W0 (nTE, [99, 104, 117, 110, 107, 101, 100]) _ _ rfl rfl (by simp [Act.eval, Act.put]) HOn.out _ rfl (by rw [HW0.out]; simp) (by simp) (Nat.le_refl _) ?_; intro va wa oa ba; have Ba : Hid (Below W0.heap.size W0 wa) := ba; have Oa : Hid (OwnF 80 W0.heap.size va _ wa) := oa; clear oa ba; have cst : wa.cell? ⟨w.heap.size, 0, none⟩ = some (.int .i64 r.st) := (HB.out.resp.below Ba.out).cell 0 rfl; have ccl : wa.cell? ⟨w.heap.size + 1, 1, none⟩ = some (.bool true) := (HB.out.man.below Ba.out).cell 1 rfl; have cod : wa.cell? ⟨w.heap.size + 1, 2, none⟩ = some (.bool od) := (HB.out.man.below Ba.out).cell 2 rfl; have cch : wa.cell? ⟨w.heap.size + 1, 3, none⟩ = some (.bool true) := (HB.out.man.below Ba.out).cell 3 rfl) | (at_builtin; refine wp_appF 80 36 infoF12 Tryz.underlying36 rfl _ _ rfl W0.heap.size va ([] ++ [(nTE, [99, 104, 117, 110, 107, 101, 100])]) wa (nCn, [99, 108, 111, 115, 101]) _ _ rfl rfl (by simp [Act.eval, Act.put]) Oa.out _ rfl (by simp) (by simp) Ba.out.size ?_; intro v5 w5 o5 b5; have B5 : Hid (Below W0.heap.size W0 w5) := Ba.out.trans b5; have O5 : Hid (OwnF 80 W0.heap.size v5 _ w5) := o5; clear o5 b5; have cst : w5.cell? ⟨w.heap.size, 0, none⟩ = some (.int .i64 r.st) := (HB.out.resp.below B5.out).cell 0 rfl; have ccl : w5.cell? ⟨w.heap.size + 1, 1, none⟩ = some (.bool true) := (HB.out.man.below B5.out).cell 1 rfl; have cod : w5.cell? ⟨w.heap.size + 1, 2, none⟩ = some (.bool od) := (HB.out.man.below B5.out).cell 2 rfl))
        try go_wp2
        go_ret
        refine ⟨_, rfl, ?_, HB.out.bel.trans (B5.out.mono HB.out.bel.size)⟩
        rw [HQ.out]
        exact own_up O5.out HB.out.bel.size
      | false =>
        cases od with
        | true =>
          go_enter Tryz.func40, Tryz.ntmps40
          go_wp2_with (first | (at_builtin; rw [← HW0.out]; refine wp_appF 80 36 infoF12 Tryz.underlying36 rfl _ _ rfl W0.heap.size (.slice none 0 0) [] W0 (nTE, [99, 104, 117, 110, 107, 101, 100]) _ _ rfl rfl (by simp [Act.eval, Act.put]) HOn.out _ rfl (by rw [HW0.out]; simp) (by simp) (Nat.le_refl _) ?_; intro va wa oa ba; have Ba : Hid (Below W0.heap.size W0 wa) := ba; have Oa : Hid (OwnF 80 W0.heap.size va _ wa) := oa; clear oa ba; have cst : wa.cell? ⟨w.heap.size, 0, none⟩ = some (.int .i64 r.st) := (HB.out.resp.below Ba.out).cell 0 rfl; have ccl : wa.cell? ⟨w.heap.size + 1, 1, none⟩ = some (.bool false) := (HB.out.man.below Ba.out).cell 1 rfl; have cod : wa.cell? ⟨w.heap.size + 1, 2, none⟩ = some (.bool true) := (HB.out.man.below Ba.out).cell 2 rfl; have cch : wa.cell? ⟨w.heap.size + 1, 3, none⟩ = some (.bool true) := (HB.out.man.below Ba.out).cell 3 rfl) | (at_builtin; refine wp_appF 80 36 infoF12 Tryz.underlying36 rfl _ _ rfl W0.heap.size va ([] ++ [(nTE, [99, 104, 117, 110, 107, 101, 100])]) wa (nCn, [107, 101, 101, 112, 45, 97, 108, 105, 118, 101]) _ _ rfl rfl (by simp [Act.eval, Act.put]) Oa.out _ rfl (by simp) (by simp) Ba.out.size ?_; intro v5 w5 o5 b5; have B5 : Hid (Below W0.heap.size W0 w5) := Ba.out.trans b5; have O5 : Hid (OwnF 80 W0.heap.size v5 _ w5) := o5; clear o5 b5; have cst : w5.cell? ⟨w.heap.size, 0, none⟩ = some (.int .i64 r.st) := (HB.out.resp.below B5.out).cell 0 rfl; have ccl : w5.cell? ⟨w.heap.size + 1, 1, none⟩ = some (.bool false) := (HB.out.man.below B5.out).cell 1 rfl; have cod : w5.cell? ⟨w.heap.size + 1, 2, none⟩ = some (.bool true) := (HB.out.man.below B5.out).cell 2 rfl))
          try go_wp2
          go_ret
          refine ⟨_, rfl, ?_, HB.out.bel.trans (B5.out.mono HB.out.bel.size)⟩
          rw [HQ.out]
          exact own_up O5.out HB.out.bel.size
        | false =>
          go_enter Tryz.func40, Tryz.ntmps40
          go_wp2_with (at_builtin; rw [← HW0.out]; go_must (refine wp_appF 80 36 infoF12 Tryz.underlying36 rfl _ _ rfl W0.heap.size (.slice none 0 0) [] W0 (nTE, [99, 104, 117, 110, 107, 101, 100]) _ _ rfl rfl (by simp [Act.eval, Act.put]) HOn.out _ rfl (by rw [HW0.out]; simp) (by simp) (Nat.le_refl _) ?_); intro va wa oa ba; have Ba : Hid (Below W0.heap.size W0 wa) := ba; have Oa : Hid (OwnF 80 W0.heap.size va _ wa) := oa; clear oa ba; have cst : wa.cell? ⟨w.heap.size, 0, none⟩ = some (.int .i64 r.st) := (HB.out.resp.below Ba.out).cell 0 rfl; have ccl : wa.cell? ⟨w.heap.size + 1, 1, none⟩ = some (.bool false) := (HB.out.man.below Ba.out).cell 1 rfl; have cod : wa.cell? ⟨w.heap.size + 1, 2, none⟩ = some (.bool false) := (HB.out.man.below Ba.out).cell 2 rfl; have cch : wa.cell? ⟨w.heap.size + 1, 3, none⟩ = some (.bool true) := (HB.out.man.below Ba.out).cell 3 rfl)
          try go_wp2
          go_ret
          refine ⟨_, rfl, ?_, HB.out.bel.trans (Ba.out.mono HB.out.bel.size)⟩
          rw [HQ.out]
          exact own_up Oa.out HB.out.bel.size
    · rw [decide_eq_false hgt] at HQ
      go_enter Tryz.func40, Tryz.ntmps40
      go_wp2_with (at_builtin; rw [← HW0.out]; go_must (refine wp_appF 80 36 infoF12 Tryz.underlying36 rfl _ _ rfl W0.heap.size (.slice none 0 0) [] W0 (nTE, [99, 104, 117, 110, 107, 101, 100]) _ _ rfl rfl (by simp [Act.eval, Act.put]) HOn.out _ rfl (by rw [HW0.out]; simp) (by simp) (Nat.le_refl _) ?_); intro va wa oa ba; have Ba : Hid (Below W0.heap.size W0 wa) := ba; have Oa : Hid (OwnF 80 W0.heap.size va _ wa) := oa; clear oa ba; have cst : wa.cell? ⟨w.heap.size, 0, none⟩ = some (.int .i64 r.st) := (HB.out.resp.below Ba.out).cell 0 rfl; have ccl : wa.cell? ⟨w.heap.size + 1, 1, none⟩ = some (.bool cl) := (HB.out.man.below Ba.out).cell 1 rfl; have cod : wa.cell? ⟨w.heap.size + 1, 2, none⟩ = some (.bool od) := (HB.out.man.below Ba.out).cell 2 rfl; have cch : wa.cell? ⟨w.heap.size + 1, 3, none⟩ = some (.bool true) := (HB.out.man.below Ba.out).cell 3 rfl)
      try go_wp2
      go_ret
      refine ⟨_, rfl, ?_, HB.out.bel.trans (Ba.out.mono HB.out.bel.size)⟩
      rw [HQ.out]
      exact own_up Oa.out HB.out.bel.size
  | false =>
    cases nv with
    | true =>
      by_cases hgt : 199 < r.st
      · rw [decide_eq_true hgt] at HQ
        cases cl with
        | true =>
          go_enter Tryz.func40, Tryz.ntmps40
          go_wp2_with fail
          rw [← HW0.out]
          refine (HN.out _).mono ?_
          rintro e w1 ⟨rfl, hw1⟩
          rw [hw1]
          clear hw1 w1
          go_wp2_with (at_builtin; refine wp_appF 80 36 infoF12 Tryz.underlying36 rfl _ _ rfl W0.heap.size (.slice none 0 0) [] W0 (nCn, [99, 108, 111, 115, 101]) _ _ rfl rfl (by simp [Act.eval, Act.put]) HOn.out _ rfl (by simp) (by simp) HBr.out.size ?_; intro v5 w5 o5 b5; have B5 : Hid (Below W0.heap.size W0 w5) := HBr.out.trans b5; have O5 : Hid (OwnF 80 W0.heap.size v5 _ w5) := o5; clear o5 b5; have cst : w5.cell? ⟨w.heap.size, 0, none⟩ = some (.int .i64 r.st) := (HB.out.resp.below B5.out).cell 0 rfl; have ccl : w5.cell? ⟨w.heap.size + 1, 1, none⟩ = some (.bool true) := (HB.out.man.below B5.out).cell 1 rfl; have cod : w5.cell? ⟨w.heap.size + 1, 2, none⟩ = some (.bool od) := (HB.out.man.below B5.out).cell 2 rfl)
          try go_wp2
          go_ret
          refine ⟨_, rfl, ?_, HB.out.bel.trans (B5.out.mono HB.out.bel.size)⟩
          rw [HQ.out]
          exact own_up O5.out HB.out.bel.size
        | false =>
          cases od with
          | true =>
            go_enter Tryz.func40, Tryz.ntmps40
            go_wp2_with fail
            rw [← HW0.out]
            refine (HN.out _).mono ?_
            rintro e w1 ⟨rfl, hw1⟩
            rw [hw1]
            clear hw1 w1
            go_wp2_with (at_builtin; refine wp_appF 80 36 infoF12 Tryz.underlying36 rfl _ _ rfl W0.heap.size (.slice none 0 0) [] W0 (nCn, [107, 101, 101, 112, 45, 97, 108, 105, 118, 101]) _ _ rfl rfl (by simp [Act.eval, Act.put]) HOn.out _ rfl (by simp) (by simp) HBr.out.size ?_; intro v5 w5 o5 b5; have B5 : Hid (Below W0.heap.size W0 w5) := HBr.out.trans b5; have O5 : Hid (OwnF 80 W0.heap.size v5 _ w5) := o5; clear o5 b5; have cst : w5.cell? ⟨w.heap.size, 0, none⟩ = some (.int .i64 r.st) := (HB.out.resp.below B5.out).cell 0 rfl; have ccl : w5.cell? ⟨w.heap.size + 1, 1, none⟩ = some (.bool false) := (HB.out.man.below B5.out).cell 1 rfl; have cod : w5.cell? ⟨w.heap.size + 1, 2, none⟩ = some (.bool true) := (HB.out.man.below B5.out).cell 2 rfl)
            try go_wp2
            go_ret
            refine ⟨_, rfl, ?_, HB.out.bel.trans (B5.out.mono HB.out.bel.size)⟩
            rw [HQ.out]
            exact own_up O5.out HB.out.bel.size
          | false =>
            go_enter Tryz.func40, Tryz.ntmps40
            go_wp2_with fail
            rw [← HW0.out]
            refine (HN.out _).mono ?_
            rintro e w1 ⟨rfl, hw1⟩
            rw [hw1]
            clear hw1 w1
            go_wp2
            try go_wp2
            go_ret
            refine ⟨_, rfl, ?_, HB.out.bel.trans (HBr.out.mono HB.out.bel.size)⟩
            rw [HQ.out]
            exact own_up HOn.out HB.out.bel.size
      · rw [decide_eq_false hgt] at HQ
        go_enter Tryz.func40, Tryz.ntmps40
        go_wp2_with fail
        rw [← HW0.out]
        refine (HN.out _).mono ?_
        rintro e w1 ⟨rfl, hw1⟩
        rw [hw1]
        clear hw1 w1
        go_wp2
        try go_wp2
        go_ret
        refine ⟨_, rfl, ?_, HB.out.bel.trans (HBr.out.mono HB.out.bel.size)⟩
        rw [HQ.out]
        exact own_up HOn.out HB.out.bel.size
    | false =>
      by_cases hgt : 199 < r.st
      · rw [decide_eq_true hgt] at HQ
        cases cl with
        | true =>
          go_enter Tryz.func40, Tryz.ntmps40
          go_wp2_with fail
          rw [← HW0.out]
          refine (HN.out _).mono ?_
          rintro e w1 ⟨rfl, hw1⟩
          rw [hw1]
          clear hw1 w1
          go_wp2_with fail
          refine (HD.out _).mono ?_
          rintro e w1 ⟨rfl, hb1⟩
          have HB1 : Hid (Below W0.heap.size W0 w1) := hb1
          clear hb1
          have HOn1 : Hid (OwnF 80 W0.heap.size (.slice none 0 0) [] w1) := ownF_nil _ _ _
          go_wp2_with (first | (at_builtin; refine wp_appF 80 36 infoF12 Tryz.underlying36 rfl _ _ rfl W0.heap.size (.slice none 0 0) [] w1 (nCL, IT) _ _ rfl HIT.out (by simp [Act.eval, Act.put]) HOn1.out _ rfl (by simp) (by simp) HB1.out.size ?_; intro va wa oa ba; have Ba : Hid (Below W0.heap.size W0 wa) := HB1.out.trans ba; have Oa : Hid (OwnF 80 W0.heap.size va _ wa) := oa; clear oa ba; have cst : wa.cell? ⟨w.heap.size, 0, none⟩ = some (.int .i64 r.st) := (HB.out.resp.below Ba.out).cell 0 rfl; have ccl : wa.cell? ⟨w.heap.size + 1, 1, none⟩ = some (.bool true) := (HB.out.man.below Ba.out).cell 1 rfl; have cod : wa.cell? ⟨w.heap.size + 1, 2, none⟩ = some (.bool od) := (HB.out.man.below Ba.out).cell 2 rfl) | (at_builtin; refine wp_appF 80 36 infoF12 Tryz.underlying36 rfl _ _ rfl W0.heap.size va ([] ++ [(nCL, IT)]) wa (nCn, [99, 108, 111, 115, 101]) _ _ rfl rfl (by simp [Act.eval, Act.put]) Oa.out _ rfl (by simp) (by simp) Ba.out.size ?_; intro v5 w5 o5 b5; have B5 : Hid (Below W0.heap.size W0 w5) := Ba.out.trans b5; have O5 : Hid (OwnF 80 W0.heap.size v5 _ w5) := o5; clear o5 b5; have cst : w5.cell? ⟨w.heap.size, 0, none⟩ = some (.int .i64 r.st) := (HB.out.resp.below B5.out).cell 0 rfl; have ccl : w5.cell? ⟨w.heap.size + 1, 1, none⟩ = some (.bool true) := (HB.out.man.below B5.out).cell 1 rfl; have cod : w5.cell? ⟨w.heap.size + 1, 2, none⟩ = some (.bool od) := (HB.out.man.below B5.out).cell 2 rfl))
          try go_wp2
          go_ret
          refine ⟨_, rfl, ?_, HB.out.bel.trans (B5.out.mono HB.out.bel.size)⟩
          rw [HQ.out]
          exact own_up O5.out HB.out.bel.size
        | false =>
          cases od with
          | true =>
            go_enter Tryz.func40, Tryz.ntmps40
            go_wp2_with fail
            rw [← HW0.out]
            refine (HN.out _).mono ?_
            rintro e w1 ⟨rfl, hw1⟩
            rw [hw1]
            clear hw1 w1
            go_wp2_with fail
            refine (HD.out _).mono ?_
            rintro e w1 ⟨rfl, hb1⟩
            have HB1 : Hid (Below W0.heap.size W0 w1) := hb1
            clear hb1
            have HOn1 : Hid (OwnF 80 W0.heap.size (.slice none 0 0) [] w1) := ownF_nil _ _ _
            go_wp2_with (first | (at_builtin; refine wp_appF 80 36 infoF12 Tryz.underlying36 rfl _ _ rfl W0.heap.size (.slice none 0 0) [] w1 (nCL, IT) _ _ rfl HIT.out (by simp [Act.eval, Act.put]) HOn1.out _ rfl (by simp) (by simp) HB1.out.size ?_; intro va wa oa ba; have Ba : Hid (Below W0.heap.size W0 wa) := HB1.out.trans ba; have Oa : Hid (OwnF 80 W0.heap.size va _ wa) := oa; clear oa ba; have cst : wa.cell? ⟨w.heap.size, 0, none⟩ = some (.int .i64 r.st) := (HB.out.resp.below Ba.out).cell 0 rfl; have ccl : wa.cell? ⟨w.heap.size + 1, 1, none⟩ = some (.bool false) := (HB.out.man.below Ba.out).cell 1 rfl; have cod : wa.cell? ⟨w.heap.size + 1, 2, none⟩ = some (.bool true) := (HB.out.man.below Ba.out).cell 2 rfl) | (at_builtin; refine wp_appF 80 36 infoF12 Tryz.underlying36 rfl _ _ rfl W0.heap.size va ([] ++ [(nCL, IT)]) wa (nCn, [107, 101, 101, 112, 45, 97, 108, 105, 118, 101]) _ _ rfl rfl (by simp [Act.eval, Act.put]) Oa.out _ rfl (by simp) (by simp) Ba.out.size ?_; intro v5 w5 o5 b5; have B5 : Hid (Below W0.heap.size W0 w5) := Ba.out.trans b5; have O5 : Hid (OwnF 80 W0.heap.size v5 _ w5) := o5; clear o5 b5; have cst : w5.cell? ⟨w.heap.size, 0, none⟩ = some (.int .i64 r.st) := (HB.out.resp.below B5.out).cell 0 rfl; have ccl : w5.cell? ⟨w.heap.size + 1, 1, none⟩ = some (.bool false) := (HB.out.man.below B5.out).cell 1 rfl; have cod : w5.cell? ⟨w.heap.size + 1, 2, none⟩ = some (.bool true) := (HB.out.man.below B5.out).cell 2 rfl))
            try go_wp2
            go_ret
            refine ⟨_, rfl, ?_, HB.out.bel.trans (B5.out.mono HB.out.bel.size)⟩
            rw [HQ.out]
            exact own_up O5.out HB.out.bel.size
          | false =>
            go_enter Tryz.func40, Tryz.ntmps40
            go_wp2_with fail
            rw [← HW0.out]
            refine (HN.out _).mono ?_
            rintro e w1 ⟨rfl, hw1⟩
            rw [hw1]
            clear hw1 w1
            go_wp2_with fail
            refine (HD.out _).mono ?_
            rintro e w1 ⟨rfl, hb1⟩
            have HB1 : Hid (Below W0.heap.size W0 w1) := hb1
            clear hb1
            have HOn1 : Hid (OwnF 80 W0.heap.size (.slice none 0 0) [] w1) := ownF_nil _ _ _
            go_wp2_with (at_builtin; go_must (refine wp_appF 80 36 infoF12 Tryz.underlying36 rfl _ _ rfl W0.heap.size (.slice none 0 0) [] w1 (nCL, IT) _ _ rfl HIT.out (by simp [Act.eval, Act.put]) HOn1.out _ rfl (by simp) (by simp) HB1.out.size ?_); intro va wa oa ba; have Ba : Hid (Below W0.heap.size W0 wa) := HB1.out.trans ba; have Oa : Hid (OwnF 80 W0.heap.size va _ wa) := oa; clear oa ba; have cst : wa.cell? ⟨w.heap.size, 0, none⟩ = some (.int .i64 r.st) := (HB.out.resp.below Ba.out).cell 0 rfl; have ccl : wa.cell? ⟨w.heap.size + 1, 1, none⟩ = some (.bool false) := (HB.out.man.below Ba.out).cell 1 rfl; have cod : wa.cell? ⟨w.heap.size + 1, 2, none⟩ = some (.bool false) := (HB.out.man.below Ba.out).cell 2 rfl)
            try go_wp2
            go_ret
            refine ⟨_, rfl, ?_, HB.out.bel.trans (Ba.out.mono HB.out.bel.size)⟩
            rw [HQ.out]
            exact own_up Oa.out HB.out.bel.size
      · rw [decide_eq_false hgt] at HQ
        go_enter Tryz.func40, Tryz.ntmps40
        go_wp2_with fail
        rw [← HW0.out]
        refine (HN.out _).mono ?_
        rintro e w1 ⟨rfl, hw1⟩
        rw [hw1]
        clear hw1 w1
        go_wp2_with fail
        refine (HD.out _).mono ?_
        rintro e w1 ⟨rfl, hb1⟩
        have HB1 : Hid (Below W0.heap.size W0 w1) := hb1
        clear hb1
        have HOn1 : Hid (OwnF 80 W0.heap.size (.slice none 0 0) [] w1) := ownF_nil _ _ _
        go_wp2_with (at_builtin; go_must (refine wp_appF 80 36 infoF12 Tryz.underlying36 rfl _ _ rfl W0.heap.size (.slice none 0 0) [] w1 (nCL, IT) _ _ rfl HIT.out (by simp [Act.eval, Act.put]) HOn1.out _ rfl (by simp) (by simp) HB1.out.size ?_); intro va wa oa ba; have Ba : Hid (Below W0.heap.size W0 wa) := HB1.out.trans ba; have Oa : Hid (OwnF 80 W0.heap.size va _ wa) := oa; clear oa ba; have cst : wa.cell? ⟨w.heap.size, 0, none⟩ = some (.int .i64 r.st) := (HB.out.resp.below Ba.out).cell 0 rfl; have ccl : wa.cell? ⟨w.heap.size + 1, 1, none⟩ = some (.bool cl) := (HB.out.man.below Ba.out).cell 1 rfl; have cod : wa.cell? ⟨w.heap.size + 1, 2, none⟩ = some (.bool od) := (HB.out.man.below Ba.out).cell 2 rfl)
        try go_wp2
        go_ret
        refine ⟨_, rfl, ?_, HB.out.bel.trans (Ba.out.mono HB.out.bel.size)⟩
        rw [HQ.out]
        exact own_up Oa.out HB.out.bel.size
end Ms
end Go.Proofs.YtcelekfokbdmfaaGreatDoor
