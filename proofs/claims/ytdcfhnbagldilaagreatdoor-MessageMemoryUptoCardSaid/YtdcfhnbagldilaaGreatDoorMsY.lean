import Derived.Test.YtdcfhnbagldilaaGreatDoorMgQ
import Derived.Test.YtdcfhnbagldilaaGreatDoorMgN
import Derived.Test.YtdcfhnbagldilaaGreatDoorMgR
set_option linter.unusedVariables false
set_option linter.unusedSimpArgs false
set_option maxRecDepth 100000
namespace Go.Proofs.YtdcfhnbagldilaaGreatDoor
open Go.RowKit Go.Shelf
namespace Ms
open Oc Tg _root_.Go.Proofs.YtdcfhnbagldilaaGreatDoor.Fd _root_.Go.Proofs.YtdcfhnbagldilaaGreatDoor.Ck
structure Rs where
  st : Int
  rs : List UInt8
  fs : List Fl
  bd : List UInt8
structure Mn where
  me : List UInt8
  cl : Bool
  old : Bool
  ch : Bool
  sz : List Int
  tr : List Fl
def rC (r : Rs) (vf : Value) : List Value := [.int .i64 r.st, .string (str r.rs), vf, .string (str r.bd)]
def mC (m : Mn) (vs vt : Value) : List Value := [.string (str m.me), .bool m.cl, .bool m.old, .bool m.ch, vs, vt]
def inP (m : Mn) : Bool := decide (0 < m.sz.length) || decide (0 < m.tr.length)
def misf (r : Rs) (m : Mn) : Bool := (nvr r.st && decide (r.bd ≠ [])) || ((m.ch && (m.old || nvr r.st)) || (!m.ch && inP m))
def behF (r : Rs) (m : Mn) : List Fl :=
  (if m.ch = true then [(nTE, [99, 104, 117, 110, 107, 101, 100])] else if nvr r.st = true then [] else [(nCL, Lib.itoa (r.bd.length : Int))]) ++
  (if inf r.st = true then [] else if m.cl = true then [(nCn, [99, 108, 111, 115, 101])] else if m.old = true then [(nCn, [107, 101, 101, 112, 45, 97, 108, 105, 118, 101])] else [])
set_option maxHeartbeats 1000000 in
theorem inPieces_any (m : Mn) (sa ta : Option Addr) (cs ct : Nat) (w : World) :
    Calls Tryz.prog 87 #[.agg #[.string (str m.me), .bool m.cl, .bool m.old, .bool m.ch, .slice sa m.sz.length cs, .slice ta m.tr.length ct]] w fun e w' => e = .returned (.bool (inP m)) ∧ Below w.heap.size w w' := by
  have HQ : Hid (inP m = (decide (0 < m.sz.length) || decide (0 < m.tr.length))) := rfl
  generalize inP m = R at *
  generalize m.sz.length = x at *
  generalize m.tr.length = y at *
  by_cases hx : 0 < x
  · have hx' : (0 : Int) < (x : Int) := by omega
    rw [decide_eq_true hx] at HQ
    go_enter Tryz.func87, Tryz.ntmps87
    go_wp2
    go_ret
    exact ⟨by rw [HQ.out]; rfl, (Below.refl _ w).alloc (Nat.le_refl _) _⟩
  · have hx' : ¬ (0 : Int) < (x : Int) := by omega
    rw [decide_eq_false hx] at HQ
    by_cases hy : 0 < y
    · have hy' : (0 : Int) < (y : Int) := by omega
      rw [decide_eq_true hy] at HQ
      go_enter Tryz.func87, Tryz.ntmps87
      go_wp2
      go_ret
      exact ⟨by rw [HQ.out]; rfl, (Below.refl _ w).alloc (Nat.le_refl _) _⟩
    · have hy' : ¬ (0 : Int) < (y : Int) := by omega
      rw [decide_eq_false hy] at HQ
      go_enter Tryz.func87, Tryz.ntmps87
      go_wp2
      go_ret
      exact ⟨by rw [HQ.out]; rfl, (Below.refl _ w).alloc (Nat.le_refl _) _⟩
set_option maxHeartbeats 4000000 in
theorem misframed_any (r : Rs) (m : Mn) (hn : i64 r.st) (af sa ta : Option Addr) (cf cs ct : Nat) (w : World) :
    Calls Tryz.prog 48 #[.agg #[.int .i64 r.st, .string (str r.rs), .slice af r.fs.length cf, .string (str r.bd)], .agg #[.string (str m.me), .bool m.cl, .bool m.old, .bool m.ch, .slice sa m.sz.length cs, .slice ta m.tr.length ct]] w fun e w' => e = .returned (.bool (misf r m)) ∧ Below w.heap.size w w' := by
  have HN : Hid (∀ W, Calls _ _ _ W _) := fun W => neverBody_any r.st hn W
  have HI : Hid (∀ W, Calls _ _ _ W _) := fun W => inPieces_any m sa ta cs ct W
  have HM : Hid (r.bd = [] ∧ (str r.bd).toList.isEmpty = true ∨ r.bd ≠ [] ∧ (str r.bd).toList.isEmpty = false) := by
    by_cases h : r.bd = []
    · exact .inl ⟨h, empty_of (by rw [h]; rfl)⟩
    · exact .inr ⟨h, nonempty_of (by rw [str_size]; exact fun e => h (List.length_eq_zero_iff.1 e))⟩
  have HQ : Hid (misf r m = ((nvr r.st && decide (r.bd ≠ [])) || ((m.ch && (m.old || nvr r.st)) || (!m.ch && inP m)))) := rfl
  generalize misf r m = R at *
  generalize nvr r.st = nv at *
  generalize inP m = ip at *
  generalize m.ch = ch at *
  generalize m.old = od at *
  generalize str r.bd = BD at *
  obtain ⟨be, hbe, hbq⟩ : ∃ be, decide (r.bd ≠ []) = be ∧ BD.toList.isEmpty = !be := by
    rcases HM.out with ⟨h, h2⟩ | ⟨h, h2⟩
    · exact ⟨false, by simp [h], h2⟩
    · exact ⟨true, by simp [h], h2⟩
  rw [hbe] at HQ
  clear hbe HM
  have hb0 : Below w.heap.size w ((w.alloc (.cells #[.int .i64 r.st, .string (str r.rs), .slice af r.fs.length cf, .string BD] 27)).alloc (.cells #[.string (str m.me), .bool m.cl, .bool od, .bool ch, .slice sa m.sz.length cs, .slice ta m.tr.length ct] 52)) := ((Below.refl _ w).alloc (Nat.le_refl _) _).alloc (by simp) _
  have HB0 : Hid (Below w.heap.size w ((w.alloc (.cells #[.int .i64 r.st, .string (str r.rs), .slice af r.fs.length cf, .string BD] 27)).alloc (.cells #[.string (str m.me), .bool m.cl, .bool od, .bool ch, .slice sa m.sz.length cs, .slice ta m.tr.length ct] 52))) := hb0
  clear hb0
  generalize str r.rs = RS at *
  generalize str m.me = ME at *
  cases nv <;> cases be <;> cases ch <;> cases od
  · go_enter Tryz.func48, Tryz.ntmps48
    go_wp2_with fail
    refine (HN.out _).mono ?_
    rintro e w1 ⟨rfl, hw1⟩
    rw [hw1]
    go_wp2_with fail
    refine (HI.out _).mono ?_
    rintro e w2 ⟨rfl, hb2⟩
    have HB2 : Hid (Below w.heap.size w w2) := bel_trans HB0.out hb2
    clear hb2
    go_wp2
    go_ret
    exact ⟨by rw [HQ.out]; rfl, HB2.out⟩
  · go_enter Tryz.func48, Tryz.ntmps48
    go_wp2_with fail
    refine (HN.out _).mono ?_
    rintro e w1 ⟨rfl, hw1⟩
    rw [hw1]
    go_wp2_with fail
    refine (HI.out _).mono ?_
    rintro e w2 ⟨rfl, hb2⟩
    have HB2 : Hid (Below w.heap.size w w2) := bel_trans HB0.out hb2
    clear hb2
    go_wp2
    go_ret
    exact ⟨by rw [HQ.out]; rfl, HB2.out⟩
  · go_enter Tryz.func48, Tryz.ntmps48
    go_wp2_with fail
    refine (HN.out _).mono ?_
    rintro e w1 ⟨rfl, hw1⟩
    rw [hw1]
    go_wp2
    go_ret
    exact ⟨by rw [HQ.out]; rfl, HB0.out⟩
  · go_enter Tryz.func48, Tryz.ntmps48
    go_wp2_with fail
    refine (HN.out _).mono ?_
    rintro e w1 ⟨rfl, hw1⟩
    rw [hw1]
    go_wp2
    go_ret
    exact ⟨by rw [HQ.out]; rfl, HB0.out⟩
  · go_enter Tryz.func48, Tryz.ntmps48
    go_wp2_with fail
    refine (HN.out _).mono ?_
    rintro e w1 ⟨rfl, hw1⟩
    rw [hw1]
    go_wp2_with fail
    refine (HI.out _).mono ?_
    rintro e w2 ⟨rfl, hb2⟩
    have HB2 : Hid (Below w.heap.size w w2) := bel_trans HB0.out hb2
    clear hb2
    go_wp2
    go_ret
    exact ⟨by rw [HQ.out]; rfl, HB2.out⟩
  · go_enter Tryz.func48, Tryz.ntmps48
    go_wp2_with fail
    refine (HN.out _).mono ?_
    rintro e w1 ⟨rfl, hw1⟩
    rw [hw1]
    go_wp2_with fail
    refine (HI.out _).mono ?_
    rintro e w2 ⟨rfl, hb2⟩
    have HB2 : Hid (Below w.heap.size w w2) := bel_trans HB0.out hb2
    clear hb2
    go_wp2
    go_ret
    exact ⟨by rw [HQ.out]; rfl, HB2.out⟩
  · go_enter Tryz.func48, Tryz.ntmps48
    go_wp2_with fail
    refine (HN.out _).mono ?_
    rintro e w1 ⟨rfl, hw1⟩
    rw [hw1]
    go_wp2
    go_ret
    exact ⟨by rw [HQ.out]; rfl, HB0.out⟩
  · go_enter Tryz.func48, Tryz.ntmps48
    go_wp2_with fail
    refine (HN.out _).mono ?_
    rintro e w1 ⟨rfl, hw1⟩
    rw [hw1]
    go_wp2
    go_ret
    exact ⟨by rw [HQ.out]; rfl, HB0.out⟩
  · go_enter Tryz.func48, Tryz.ntmps48
    go_wp2_with fail
    refine (HN.out _).mono ?_
    rintro e w1 ⟨rfl, hw1⟩
    rw [hw1]
    go_wp2_with fail
    refine (HI.out _).mono ?_
    rintro e w2 ⟨rfl, hb2⟩
    have HB2 : Hid (Below w.heap.size w w2) := bel_trans HB0.out hb2
    clear hb2
    go_wp2
    go_ret
    exact ⟨by rw [HQ.out]; rfl, HB2.out⟩
  · go_enter Tryz.func48, Tryz.ntmps48
    go_wp2_with fail
    refine (HN.out _).mono ?_
    rintro e w1 ⟨rfl, hw1⟩
    rw [hw1]
    go_wp2_with fail
    refine (HI.out _).mono ?_
    rintro e w2 ⟨rfl, hb2⟩
    have HB2 : Hid (Below w.heap.size w w2) := bel_trans HB0.out hb2
    clear hb2
    go_wp2
    go_ret
    exact ⟨by rw [HQ.out]; rfl, HB2.out⟩
  · go_enter Tryz.func48, Tryz.ntmps48
    go_wp2_with fail
    refine (HN.out _).mono ?_
    rintro e w1 ⟨rfl, hw1⟩
    rw [hw1]
    go_wp2
    go_ret
    exact ⟨by rw [HQ.out]; rfl, HB0.out⟩
  · go_enter Tryz.func48, Tryz.ntmps48
    go_wp2_with fail
    refine (HN.out _).mono ?_
    rintro e w1 ⟨rfl, hw1⟩
    rw [hw1]
    go_wp2
    go_ret
    exact ⟨by rw [HQ.out]; rfl, HB0.out⟩
  · go_enter Tryz.func48, Tryz.ntmps48
    go_wp2_with fail
    refine (HN.out _).mono ?_
    rintro e w1 ⟨rfl, hw1⟩
    rw [hw1]
    go_wp2
    go_ret
    exact ⟨by rw [HQ.out]; rfl, HB0.out⟩
  · go_enter Tryz.func48, Tryz.ntmps48
    go_wp2_with fail
    refine (HN.out _).mono ?_
    rintro e w1 ⟨rfl, hw1⟩
    rw [hw1]
    go_wp2
    go_ret
    exact ⟨by rw [HQ.out]; rfl, HB0.out⟩
  · go_enter Tryz.func48, Tryz.ntmps48
    go_wp2_with fail
    refine (HN.out _).mono ?_
    rintro e w1 ⟨rfl, hw1⟩
    rw [hw1]
    go_wp2
    go_ret
    exact ⟨by rw [HQ.out]; rfl, HB0.out⟩
  · go_enter Tryz.func48, Tryz.ntmps48
    go_wp2_with fail
    refine (HN.out _).mono ?_
    rintro e w1 ⟨rfl, hw1⟩
    rw [hw1]
    go_wp2
    go_ret
    exact ⟨by rw [HQ.out]; rfl, HB0.out⟩
theorem own_up {w : World} {T S n B B' : Nat} {v : Value} {xs : List Value} (h : w.ownsRow B T S v n xs) (hb : B' ≤ B) : w.ownsRow B' T S v n xs := by
  refine ⟨h.1, ?_⟩
  rcases h.2 with hn | ⟨g, cap, cur, e, hg, rest⟩
  · exact .inl hn
  · exact .inr ⟨g, cap, cur, e, Nat.le_trans hb hg, rest⟩
set_option maxHeartbeats 8000000 in
theorem laidBehind_any (r : Rs) (m : Mn) (hn : i64 r.st) (hbl : r.bd.length ≤ 4000000000) (af sa ta : Option Addr) (cf cs ct : Nat) (w : World) (hp : Pow w) :
    Calls Tryz.prog 51 #[.agg #[.int .i64 r.st, .string (str r.rs), .slice af r.fs.length cf, .string (str r.bd)], .agg #[.string (str m.me), .bool m.cl, .bool m.old, .bool m.ch, .slice sa m.sz.length cs, .slice ta m.tr.length ct]] w fun e w' => ∃ v, e = .returned v ∧ OwnF 47 w.heap.size v (behF r m) w' ∧ Below w.heap.size w w' := by
  have HN : Hid (∀ W, Calls _ _ _ W _) := fun W => neverBody_any r.st hn W
  have HI : Hid (∀ W, Calls _ _ _ W _) := fun W => isInformal_any r.st hn W
  have HP : Hid (Pow w) := hp
  have HD : Hid (∀ W, Pow W → Calls Tryz.prog 53 #[.int .i64 ((str r.bd).size : Int)] W fun e w' => e = .returned (.string (str (Lib.itoa (r.bd.length : Int)))) ∧ Below (World.heap W).size W w') := fun W h => by
    have := Digits_any (r.bd.length : Int) (by omega) (by omega) W h
    rw [str_size]
    exact this
  have HQ : Hid (behF r m = (if m.ch = true then [(nTE, [99, 104, 117, 110, 107, 101, 100])] else if nvr r.st = true then [] else [(nCL, Lib.itoa (r.bd.length : Int))]) ++ (if inf r.st = true then [] else if m.cl = true then [(nCn, [99, 108, 111, 115, 101])] else if m.old = true then [(nCn, [107, 101, 101, 112, 45, 97, 108, 105, 118, 101])] else [])) := rfl
  generalize behF r m = R at *
  generalize nvr r.st = nv at *
  generalize inf r.st = ii at *
  generalize Lib.itoa (r.bd.length : Int) = IT at *
  generalize m.ch = ch at *
  generalize m.old = od at *
  generalize m.cl = cl at *
  generalize str r.bd = BD at *
  generalize str r.rs = RS at *
  generalize str m.me = ME at *
  obtain ⟨ITS, hITS⟩ : ∃ ITS, ITS = str IT := ⟨_, rfl⟩
  rw [← hITS] at HD
  have HIT : Hid (ITS = str IT) := hITS
  clear hITS hp
  obtain ⟨W0, hW0⟩ : ∃ W0, W0 = (w.alloc (.cells #[.int .i64 r.st, .string RS, .slice af r.fs.length cf, .string BD] 27)).alloc (.cells #[.string ME, .bool cl, .bool od, .bool ch, .slice sa m.sz.length cs, .slice ta m.tr.length ct] 52) := ⟨_, rfl⟩
  have hb0 : Below w.heap.size w W0 := by rw [hW0]; exact ((Below.refl _ w).alloc (Nat.le_refl _) _).alloc (by simp) _
  have hm0 : Blk 52 W0 (w.heap.size + 1) [.string ME, .bool cl, .bool od, .bool ch, .slice sa m.sz.length cs, .slice ta m.tr.length ct] := by
    rw [hW0]
    have h1 := heap_alloc_new (w.alloc (.cells #[.int .i64 r.st, .string RS, .slice af r.fs.length cf, .string BD] 27)) (.cells #[.string ME, .bool cl, .bool od, .bool ch, .slice sa m.sz.length cs, .slice ta m.tr.length ct] 52)
    have e : (w.alloc (.cells #[.int .i64 r.st, .string RS, .slice af r.fs.length cf, .string BD] 27)).heap.size = w.heap.size + 1 := by simp
    rw [e] at h1
    exact h1
  have hr0 : Blk 27 W0 w.heap.size [.int .i64 r.st, .string RS, .slice af r.fs.length cf, .string BD] := by
    rw [hW0]
    exact Blk.below (heap_alloc_new w _) ((Below.refl _ _).alloc (Nat.le_refl _) _)
  have HB0 : Hid (Below w.heap.size w W0) := hb0
  have HM0 : Hid (Blk 52 W0 (w.heap.size + 1) [.string ME, .bool cl, .bool od, .bool ch, .slice sa m.sz.length cs, .slice ta m.tr.length ct]) := hm0
  have HR0 : Hid (Blk 27 W0 w.heap.size [.int .i64 r.st, .string RS, .slice af r.fs.length cf, .string BD]) := hr0
  clear hb0 hm0 hr0
  have HW0 : Hid (W0 = _) := hW0
  clear hW0
  have HBr : Hid (Below W0.heap.size W0 W0) := Below.refl _ _
  have cst : W0.cell? ⟨w.heap.size, 0, none⟩ = some (.int .i64 r.st) := HR0.out.cell 0 rfl
  have cbd : W0.cell? ⟨w.heap.size, 3, none⟩ = some (.string BD) := HR0.out.cell 3 rfl
  have ccl : W0.cell? ⟨w.heap.size + 1, 1, none⟩ = some (.bool cl) := HM0.out.cell 1 rfl
  have cod : W0.cell? ⟨w.heap.size + 1, 2, none⟩ = some (.bool od) := HM0.out.cell 2 rfl
  have HOn : Hid (OwnF 47 W0.heap.size (.slice none 0 0) [] W0) := ownF_nil _ _ _
  cases ch with
  | true =>
    go_enter Tryz.func51, Tryz.ntmps51
    go_wp2_with (at_builtin; rw [← HW0.out]; go_must (refine wp_appF 47 25 infoF Tryz.underlying25 rfl (.tmp 9) (.tmp 11) rfl W0.heap.size _ [] W0 (nTE, [99, 104, 117, 110, 107, 101, 100]) _ _ rfl rfl rfl HOn.out _ rfl (by rw [HW0.out]; simp) (by simp) (Nat.le_refl _) ?_); intro va wa oa ba; have Ba : Hid (Below W0.heap.size W0 wa) := ba; have Oa : Hid (OwnF 47 W0.heap.size va _ wa) := oa; clear oa ba; have cst : wa.cell? ⟨w.heap.size, 0, none⟩ = some (.int .i64 r.st) := (HR0.out.below Ba.out).cell 0 rfl; have ccl : wa.cell? ⟨w.heap.size + 1, 1, none⟩ = some (.bool cl) := (HM0.out.below Ba.out).cell 1 rfl; have cod : wa.cell? ⟨w.heap.size + 1, 2, none⟩ = some (.bool od) := (HM0.out.below Ba.out).cell 2 rfl)
    refine (HI.out _).mono ?_
    rintro e wi ⟨rfl, hwi⟩
    rw [hwi]
    clear hwi wi
    cases ii with
    | true =>
      go_wp2
      try go_wp2
      go_ret
      refine ⟨_, rfl, ?_, HB0.out.trans (Ba.out.mono HB0.out.size)⟩
      rw [HQ.out]
      exact own_up Oa.out HB0.out.size
    | false =>
      cases cl with
      | true =>
        go_wp2_with (at_builtin; go_must (refine wp_appF 47 25 infoF Tryz.underlying25 rfl (.tmp 33) (.tmp 35) rfl W0.heap.size va ([] ++ [(nTE, [99, 104, 117, 110, 107, 101, 100])]) wa (nCn, [99, 108, 111, 115, 101]) _ _ rfl rfl (by simp [Act.eval, Act.put]) Oa.out _ rfl (by simp) (by simp) Ba.out.size ?_); intro v5 w5 o5 b5; have B5 : Hid (Below W0.heap.size W0 w5) := Ba.out.trans b5; have O5 : Hid (OwnF 47 W0.heap.size v5 _ w5) := o5; clear o5 b5)
        try go_wp2
        go_ret
        refine ⟨_, rfl, ?_, HB0.out.trans (B5.out.mono HB0.out.size)⟩
        rw [HQ.out]
        exact own_up O5.out HB0.out.size
      | false =>
        cases od with
        | true =>
          go_wp2_with (at_builtin; go_must (refine wp_appF 47 25 infoF Tryz.underlying25 rfl (.tmp 40) (.tmp 42) rfl W0.heap.size va ([] ++ [(nTE, [99, 104, 117, 110, 107, 101, 100])]) wa (nCn, [107, 101, 101, 112, 45, 97, 108, 105, 118, 101]) _ _ rfl rfl (by simp [Act.eval, Act.put]) Oa.out _ rfl (by simp) (by simp) Ba.out.size ?_); intro v5 w5 o5 b5; have B5 : Hid (Below W0.heap.size W0 w5) := Ba.out.trans b5; have O5 : Hid (OwnF 47 W0.heap.size v5 _ w5) := o5; clear o5 b5)
          try go_wp2
          go_ret
          refine ⟨_, rfl, ?_, HB0.out.trans (B5.out.mono HB0.out.size)⟩
          rw [HQ.out]
          exact own_up O5.out HB0.out.size
        | false =>
          go_wp2
          try go_wp2
          go_ret
          refine ⟨_, rfl, ?_, HB0.out.trans (Ba.out.mono HB0.out.size)⟩
          rw [HQ.out]
          exact own_up Oa.out HB0.out.size
  | false =>
    go_enter Tryz.func51, Tryz.ntmps51
    go_wp2_with fail
    rw [← HW0.out]
    refine (HN.out _).mono ?_
    rintro e w1 ⟨rfl, hw1⟩
    rw [hw1]
    clear hw1 w1
    cases nv with
    | true =>
      go_wp2_with fail
      refine (HI.out _).mono ?_
      rintro e wi ⟨rfl, hwi⟩
      rw [hwi]
      clear hwi wi
      cases ii with
      | true =>
        go_wp2
        try go_wp2
        go_ret
        refine ⟨_, rfl, ?_, HB0.out.trans (HBr.out.mono HB0.out.size)⟩
        rw [HQ.out]
        exact own_up HOn.out HB0.out.size
      | false =>
        cases cl with
        | true =>
          go_wp2_with (at_builtin; go_must (refine wp_appF 47 25 infoF Tryz.underlying25 rfl (.tmp 33) (.tmp 35) rfl W0.heap.size (.slice none 0 0) [] W0 (nCn, [99, 108, 111, 115, 101]) _ _ rfl rfl (by simp [Act.eval, Act.put]) HOn.out _ rfl (by simp) (by simp) HBr.out.size ?_); intro v5 w5 o5 b5; have B5 : Hid (Below W0.heap.size W0 w5) := HBr.out.trans b5; have O5 : Hid (OwnF 47 W0.heap.size v5 _ w5) := o5; clear o5 b5)
          try go_wp2
          go_ret
          refine ⟨_, rfl, ?_, HB0.out.trans (B5.out.mono HB0.out.size)⟩
          rw [HQ.out]
          exact own_up O5.out HB0.out.size
        | false =>
          cases od with
          | true =>
            go_wp2_with (at_builtin; go_must (refine wp_appF 47 25 infoF Tryz.underlying25 rfl (.tmp 40) (.tmp 42) rfl W0.heap.size (.slice none 0 0) [] W0 (nCn, [107, 101, 101, 112, 45, 97, 108, 105, 118, 101]) _ _ rfl rfl (by simp [Act.eval, Act.put]) HOn.out _ rfl (by simp) (by simp) HBr.out.size ?_); intro v5 w5 o5 b5; have B5 : Hid (Below W0.heap.size W0 w5) := HBr.out.trans b5; have O5 : Hid (OwnF 47 W0.heap.size v5 _ w5) := o5; clear o5 b5)
            try go_wp2
            go_ret
            refine ⟨_, rfl, ?_, HB0.out.trans (B5.out.mono HB0.out.size)⟩
            rw [HQ.out]
            exact own_up O5.out HB0.out.size
          | false =>
            go_wp2
            try go_wp2
            go_ret
            refine ⟨_, rfl, ?_, HB0.out.trans (HBr.out.mono HB0.out.size)⟩
            rw [HQ.out]
            exact own_up HOn.out HB0.out.size
    | false =>
      go_wp2_with fail
      refine (HD.out _ (HP.out.below HB0.out (Nat.le_refl _))).mono ?_
      rintro e w1 ⟨rfl, hb1⟩
      have HB1 : Hid (Below W0.heap.size W0 w1) := hb1
      clear hb1
      have HOn1 : Hid (OwnF 47 W0.heap.size (.slice none 0 0) [] w1) := ownF_nil _ _ _
      go_wp2_with (at_builtin; go_must (refine wp_appF 47 25 infoF Tryz.underlying25 rfl (.tmp 18) (.tmp 24) rfl W0.heap.size _ [] w1 (nCL, IT) _ _ rfl HIT.out rfl HOn1.out _ rfl (by simp) (by simp) HB1.out.size ?_); intro va wa oa ba; have Ba : Hid (Below W0.heap.size W0 wa) := HB1.out.trans ba; have Oa : Hid (OwnF 47 W0.heap.size va _ wa) := oa; clear oa ba; have cst : wa.cell? ⟨w.heap.size, 0, none⟩ = some (.int .i64 r.st) := (HR0.out.below Ba.out).cell 0 rfl; have ccl : wa.cell? ⟨w.heap.size + 1, 1, none⟩ = some (.bool cl) := (HM0.out.below Ba.out).cell 1 rfl; have cod : wa.cell? ⟨w.heap.size + 1, 2, none⟩ = some (.bool od) := (HM0.out.below Ba.out).cell 2 rfl)
      refine (HI.out _).mono ?_
      rintro e wi ⟨rfl, hwi⟩
      rw [hwi]
      clear hwi wi
      cases ii with
      | true =>
        go_wp2
        try go_wp2
        go_ret
        refine ⟨_, rfl, ?_, HB0.out.trans (Ba.out.mono HB0.out.size)⟩
        rw [HQ.out]
        exact own_up Oa.out HB0.out.size
      | false =>
        cases cl with
        | true =>
          go_wp2_with (at_builtin; go_must (refine wp_appF 47 25 infoF Tryz.underlying25 rfl (.tmp 33) (.tmp 35) rfl W0.heap.size va ([] ++ [(nCL, IT)]) wa (nCn, [99, 108, 111, 115, 101]) _ _ rfl rfl (by simp [Act.eval, Act.put]) Oa.out _ rfl (by simp) (by simp) Ba.out.size ?_); intro v5 w5 o5 b5; have B5 : Hid (Below W0.heap.size W0 w5) := Ba.out.trans b5; have O5 : Hid (OwnF 47 W0.heap.size v5 _ w5) := o5; clear o5 b5)
          try go_wp2
          go_ret
          refine ⟨_, rfl, ?_, HB0.out.trans (B5.out.mono HB0.out.size)⟩
          rw [HQ.out]
          exact own_up O5.out HB0.out.size
        | false =>
          cases od with
          | true =>
            go_wp2_with (at_builtin; go_must (refine wp_appF 47 25 infoF Tryz.underlying25 rfl (.tmp 40) (.tmp 42) rfl W0.heap.size va ([] ++ [(nCL, IT)]) wa (nCn, [107, 101, 101, 112, 45, 97, 108, 105, 118, 101]) _ _ rfl rfl (by simp [Act.eval, Act.put]) Oa.out _ rfl (by simp) (by simp) Ba.out.size ?_); intro v5 w5 o5 b5; have B5 : Hid (Below W0.heap.size W0 w5) := Ba.out.trans b5; have O5 : Hid (OwnF 47 W0.heap.size v5 _ w5) := o5; clear o5 b5)
            try go_wp2
            go_ret
            refine ⟨_, rfl, ?_, HB0.out.trans (B5.out.mono HB0.out.size)⟩
            rw [HQ.out]
            exact own_up O5.out HB0.out.size
          | false =>
            go_wp2
            try go_wp2
            go_ret
            refine ⟨_, rfl, ?_, HB0.out.trans (Ba.out.mono HB0.out.size)⟩
            rw [HQ.out]
            exact own_up Oa.out HB0.out.size
end Ms
end Go.Proofs.YtdcfhnbagldilaaGreatDoor
