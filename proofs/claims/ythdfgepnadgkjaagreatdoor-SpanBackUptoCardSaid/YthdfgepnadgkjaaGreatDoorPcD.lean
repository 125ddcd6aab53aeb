/-
  span: piece, walked.
-/
import Derived.Test.YthdfgepnadgkjaaGreatDoorZzM
import Derived.Test.YthdfgepnadgkjaaGreatDoorZzK
set_option linter.unusedVariables false
set_option linter.unusedSimpArgs false
namespace Go.Proofs.YthdfgepnadgkjaaGreatDoor
open Go.RowKit Go.Shelf
namespace Sn
open Oc Tg Ac

theorem Chg.fresh {g : Nat} {w w' : World} (a : Chg g w w') {k : Nat} (hk : w.heap.size ≤ k) (j : Nat) (v : Value) : Chg g w (w'.setCell ⟨k, j, none⟩ v) :=
  ⟨a.os, a.tape, a.out, by simpa [World.setCell] using a.size, fun i h1 h2 => (by simp [World.setCell, Array.getElem?_modify, show k ≠ i by omega] : (w'.setCell ⟨k, j, none⟩ v).heap[i]? = w'.heap[i]?).trans (a.block i h1 h2)⟩
theorem ext_take9 (s : ByteArray) (i n : Nat) : s.extract i (i + n) = str ((s.data.toList.drop i).take n) := by
  apply eq_list
  rw [str_list, Lib.extract_data, show i + n - i = n by omega]
theorem P9.set123 {w : World} {b : Nat} {m y : ByteArray} {f t z : Int} (h : P9 w b m f t z y) (f' t' z' : Int) : P9 (((w.setCell ⟨b, 1, none⟩ (.int .i64 f')).setCell ⟨b, 2, none⟩ (.int .i64 t')).setCell ⟨b, 3, none⟩ (.int .i64 z')) b m f' t' z' y := by
  unfold P9 at h ⊢
  simp [World.setCell, Array.getElem?_modify, h]
theorem P9.set4 {w : World} {b : Nat} {m y : ByteArray} {f t z : Int} (h : P9 w b m f t z y) (y' : ByteArray) : P9 (w.setCell ⟨b, 4, none⟩ (.string y')) b m f t z y' := by
  unfold P9 at h ⊢
  simp [World.setCell, Array.getElem?_modify, h]
theorem RB.setI {w : World} {g a : Nat} {s : ByteArray} (h : RB w g s a) (b : Nat) (z : Int) (hz : z = (b : Int)) : RB (w.setCell ⟨g, 1, none⟩ (.int .i64 z)) g s b := by rw [hz]; exact h.set b
theorem take_crlf (r : List UInt8) : (takeP r 93 [[13, 10]]).2.1 = 0 → (takeP r 93 [[13, 10]]).2.2 = 2 := fun h => by
  cases h1 : Lib.hasPrefix r [13, 10] with
  | true => simp [takeP, h1]
  | false =>
    exfalso
    cases h2 : Lib.hasPrefix [13, 10] r <;> simp [takeP, h1, h2] at h
theorem rd_crlf (w : World) (T : Nat) : RdS (.slice (some ⟨w.heap.size, 0, none⟩) 1 1) [[13, 10]] (w.alloc (.cells #[.string ⟨#[13, 10]⟩] T)) :=
  ⟨_, _, rfl, .inr ⟨w.heap.size, 0, rfl, by simp, fun j hj => by
    have : j = 0 := by simpa using hj
    subst this
    simp [str]⟩⟩

set_option maxRecDepth 100000 in
set_option maxHeartbeats 4000000 in
theorem piece_any (g : Nat) (s : ByteArray) (a : Nat) (ha : a ≤ s.size) (hs : s.size ≤ 4000000000) (w0 : World) (hml : ML w0) (hpw : Pow w0) (hg : w0.heap.size ≤ g) (w : World) (hb : Below w0.heap.size w0 w) (hR : RB w g s a) :
    Calls Tryz.prog 59 #[.pointer (some ⟨g, 0, none⟩)] w fun e w' => ∃ (pm : ByteArray) (p1 p2 p3 : Int) (py : ByteArray), e = .returned (.tuple #[.agg #[.string pm, .int .i64 p1, .int .i64 p2, .int .i64 p3, .string py], .int .i64 (pieceP (s.data.toList.drop a)).2.1]) ∧ ((pieceP (s.data.toList.drop a)).2.1 = 0 → pm = str (pieceP (s.data.toList.drop a)).1.media ∧ p1 = (pieceP (s.data.toList.drop a)).1.sp.1 ∧ p2 = (pieceP (s.data.toList.drop a)).1.sp.2 ∧ p3 = (pieceP (s.data.toList.drop a)).1.size ∧ py = str (pieceP (s.data.toList.drop a)).1.body) ∧ RB w' g s (a + (pieceP (s.data.toList.drop a)).2.2) ∧ Chg g w w' := by
  have hrl : (s.data.toList.drop a).length = s.size - a := by rw [List.length_drop, size_list]
  obtain ⟨w2, hw2⟩ : ∃ w2, w2 = (w.alloc (.cells #[.string ⟨#[]⟩, .int .i64 0, .int .i64 0, .int .i64 0, .string ⟨#[]⟩] 40)).alloc (.cells #[.string ⟨#[]⟩, .int .i64 0, .int .i64 0, .int .i64 0, .string ⟨#[]⟩] 40) := ⟨_, rfl⟩
  have hgw := hR.lt
  have hb2 : Below w.heap.size w w2 := by rw [hw2]; exact ((Below.refl _ w).alloc (Nat.le_refl _) _).alloc (by simp) _
  have HB2 : Hid (Chg g w w2) := Chg.of g hb2
  have HR2 : Hid (RB w2 g s a) := hR.below hb2
  have HP4 : Hid (P9 w2 (w.heap.size + 1) ⟨#[]⟩ 0 0 0 ⟨#[]⟩) := (by rw [hw2]; unfold P9; rw [show w.heap.size + 1 = (w.alloc (.cells #[.string ⟨#[]⟩, .int .i64 0, .int .i64 0, .int .i64 0, .string ⟨#[]⟩] 40)).heap.size by simp]; exact heap_alloc_new _ _ : P9 _ _ _ _ _ _ _)
  have HP2 : Hid (P9 w2 w.heap.size ⟨#[]⟩ 0 0 0 ⟨#[]⟩) := (by rw [hw2]; exact (Lib.alloc_old _ _ _ (by simp)).trans (heap_alloc_new w _) : P9 _ _ _ _ _ _ _)
  have HBw : Hid (∀ W, Chg g w W → Below w0.heap.size w0 W) := fun W c => hb.trans (c.below hg hb.size)
  have HL1 : Hid (∀ W, RB W g s a → Chg g w W → Calls _ _ _ W _) := fun W h c => line_any g s a ha hs ctH W h (hml.below (hb.trans (c.below hg hb.size)))
  have f1 := lineP_far (s.data.toList.drop a) ctH
  have hbd := tolR_bd (lineP ((s.data.toList.drop a).drop (lineP (s.data.toList.drop a) ctH).2.2) crH).1
  have f2 := lineP_far ((s.data.toList.drop a).drop (lineP (s.data.toList.drop a) ctH).2.2) crH
  have f3 := takeP_far ((s.data.toList.drop a).drop ((lineP (s.data.toList.drop a) ctH).2.2 + (lineP ((s.data.toList.drop a).drop (lineP (s.data.toList.drop a) ctH).2.2) crH).2.2)) [[13, 10]] 93
  have ht3 := take_crlf ((s.data.toList.drop a).drop ((lineP (s.data.toList.drop a) ctH).2.2 + (lineP ((s.data.toList.drop a).drop (lineP (s.data.toList.drop a) ctH).2.2) crH).2.2))
  rw [List.length_drop] at f2 f3
  have HL2 : Hid (∀ W, RB W g s (a + (lineP (s.data.toList.drop a) ctH).2.2) → Chg g w W → Calls Tryz.prog 83 #[.pointer (some ⟨g, 0, none⟩), .string (str crH)] W fun e w' => e = .returned (.tuple #[.string (str (lineP ((s.data.toList.drop a).drop (lineP (s.data.toList.drop a) ctH).2.2) crH).1), .int .i64 (lineP ((s.data.toList.drop a).drop (lineP (s.data.toList.drop a) ctH).2.2) crH).2.1]) ∧ RB w' g s (a + (lineP (s.data.toList.drop a) ctH).2.2 + (lineP ((s.data.toList.drop a).drop (lineP (s.data.toList.drop a) ctH).2.2) crH).2.2) ∧ Chg g W w') := fun W h c => by
    have := line_any g s (a + (lineP (s.data.toList.drop a) ctH).2.2) (by omega) hs crH W h (hml.below (hb.trans (c.below hg hb.size)))
    rw [← List.drop_drop] at this
    exact this
  have HTo : Hid (∀ W, Chg g w W → Calls Tryz.prog 84 #[.string (str (lineP ((s.data.toList.drop a).drop (lineP (s.data.toList.drop a) ctH).2.2) crH).1)] W fun e w' => e = .returned (.tuple #[.agg #[.int .i64 (tolR (lineP ((s.data.toList.drop a).drop (lineP (s.data.toList.drop a) ctH).2.2) crH).1).1.1, .int .i64 (tolR (lineP ((s.data.toList.drop a).drop (lineP (s.data.toList.drop a) ctH).2.2) crH).1).1.2], .int .i64 (tolR (lineP ((s.data.toList.drop a).drop (lineP (s.data.toList.drop a) ctH).2.2) crH).1).2.1, .int .i64 (tolR (lineP ((s.data.toList.drop a).drop (lineP (s.data.toList.drop a) ctH).2.2) crH).1).2.2]) ∧ Below (World.heap W).size W w') := fun W c => by
    have := Told_any (str (lineP ((s.data.toList.drop a).drop (lineP (s.data.toList.drop a) ctH).2.2) crH).1) (by rw [str_size]; omega) W (hml.below (hb.trans (c.below hg hb.size))) (Oc.Pow.below hpw (hb.trans (c.below hg hb.size)) (Nat.le_refl _))
    rw [str_list] at this
    exact this
  have HTk : Hid (∀ W tv, RB W g s (a + (lineP (s.data.toList.drop a) ctH).2.2 + (lineP ((s.data.toList.drop a).drop (lineP (s.data.toList.drop a) ctH).2.2) crH).2.2) → RdS tv [[13, 10]] W → Calls Tryz.prog 58 #[.pointer (some ⟨g, 0, none⟩), .int .i64 93, tv] W fun e w' => e = .returned (.tuple #[.string (str (takeP ((s.data.toList.drop a).drop ((lineP (s.data.toList.drop a) ctH).2.2 + (lineP ((s.data.toList.drop a).drop (lineP (s.data.toList.drop a) ctH).2.2) crH).2.2)) 93 [[13, 10]]).1), .int .i64 (takeP ((s.data.toList.drop a).drop ((lineP (s.data.toList.drop a) ctH).2.2 + (lineP ((s.data.toList.drop a).drop (lineP (s.data.toList.drop a) ctH).2.2) crH).2.2)) 93 [[13, 10]]).2.1]) ∧ RB w' g s (a + (lineP (s.data.toList.drop a) ctH).2.2 + (lineP ((s.data.toList.drop a).drop (lineP (s.data.toList.drop a) ctH).2.2) crH).2.2 + (takeP ((s.data.toList.drop a).drop ((lineP (s.data.toList.drop a) ctH).2.2 + (lineP ((s.data.toList.drop a).drop (lineP (s.data.toList.drop a) ctH).2.2) crH).2.2)) 93 [[13, 10]]).2.2) ∧ Chg g W w') := fun W tv h ht => by
    have := take_any g s (a + (lineP (s.data.toList.drop a) ctH).2.2 + (lineP ((s.data.toList.drop a).drop (lineP (s.data.toList.drop a) ctH).2.2) crH).2.2) (by omega) hs 93 tv [[13, 10]] (by simp) (by simp) W h ht
    rw [Nat.add_assoc, ← List.drop_drop, ← Nat.add_assoc] at this
    exact this
  obtain ⟨R, HRR⟩ : ∃ R, Hid (R = pieceP (s.data.toList.drop a)) := ⟨_, rfl⟩
  rw [← HRR.out]
  have HQ : Hid (R = _) := HRR.out.trans (by unfold pieceP; exact rfl)
  clear HRR
  generalize lineP (s.data.toList.drop a) ctH = L1 at *
  obtain ⟨m, e1, k1⟩ := L1
  dsimp only at f1 f2 f3 ht3 hbd HL1 HL2 HTo HTk HQ
  generalize lineP ((s.data.toList.drop a).drop k1) crH = L2 at *
  obtain ⟨tl, e2, k2⟩ := L2
  dsimp only at f2 f3 ht3 hbd HL2 HTo HTk HQ
  generalize tolR tl = X at *
  obtain ⟨⟨xf, xt⟩, xz, xe⟩ := X
  dsimp only at hbd HTo HQ
  generalize takeP ((s.data.toList.drop a).drop (k1 + k2)) 93 [[13, 10]] = K at *
  obtain ⟨kt, e3, k3⟩ := K
  dsimp only at f3 ht3 HTk HQ
  generalize hrr : s.data.toList.drop a = r at *
  obtain ⟨M, HM⟩ : ∃ M, Hid (M = str m) := ⟨_, rfl⟩
  rw [← HM.out] at HL1
  generalize str tl = TL at *
  generalize str kt = KT at *
  have hgB2 : w.heap.size ≠ g := by omega
  have hgB4 : w.heap.size + 1 ≠ g := by omega
  clear hb hR hb2
  obtain ⟨a1, ha1⟩ : ∃ a1, a1 = a + k1 := ⟨_, rfl⟩
  obtain ⟨a2, ha2⟩ : ∃ a2, a2 = a1 + k2 := ⟨_, rfl⟩
  obtain ⟨a3, ha3⟩ : ∃ a3, a3 = a2 + k3 := ⟨_, rfl⟩
  have HE1 : Hid (a1 = a + k1) := ha1
  have HE2 : Hid (a2 = a1 + k2) := ha2
  have HE3 : Hid (a3 = a2 + k3) := ha3
  rw [← ha1] at HL1 HL2 HTk
  rw [← ha2] at HL2 HTk
  rw [← ha3] at HTk
  have hS3 : a3 ≤ s.size := by omega
  have HRL : Hid (r.length = s.size - a) := hrl
  have HF : Hid (k1 ≤ r.length ∧ k2 ≤ r.length - k1 ∧ k3 ≤ r.length - (k1 + k2)) := ⟨f1.1, f2.1, f3⟩
  have HT3 : Hid (e3 = 0 → k3 = 2) := ht3
  have HBD : Hid ((xf, xt) = (0, 0) ∨ 0 ≤ xf ∧ xf < xt ∧ xt ≤ 4611686018427387905) := hbd
  have hexs : ∀ n, s.extract a3 (a3 + n) = str ((s.data.toList.drop a3).take n) := fun n => ext_take9 s a3 n
  have HExs : Hid (∀ n, s.extract a3 (a3 + n) = str ((r.drop (k1 + k2 + k3)).take n)) := (fun n => by rw [hexs, ← hrr, List.drop_drop, ha3, ha2, ha1]; congr 3; omega : ∀ n, _)
  clear ha1 ha2 ha3 f1 f2 f3 ht3 hbd hexs hrr hrl
  go_enter Tryz.func59, Tryz.ntmps59
  go_wp2_with fail
  rw [← hw2]
  clear hw2
  refine (HL1.out _ HR2.out HB2.out).mono ?_
  rintro e w3 ⟨rfl, hr3, hc3⟩
  have HR3 : Hid (RB w3 g s a1) := hr3
  have HC3 : Hid (Chg g w w3) := HB2.out.trans hc3
  have HP43 : Hid (P9 w3 (w.heap.size + 1) ⟨#[]⟩ 0 0 0 ⟨#[]⟩) := HP4.out.chg hc3 hgB4
  have HP23 : Hid (P9 w3 w.heap.size ⟨#[]⟩ 0 0 0 ⟨#[]⟩) := HP2.out.chg hc3 hgB2
  clear hr3 hc3 HP4 HP2 HR2 HB2 HL1
  have hB24 : w.heap.size ≠ w.heap.size + 1 := by omega
  obtain ⟨q0, q1, q2, q3, q4⟩ := HP43.out.cells
  obtain ⟨d0, d1, d2, d3, d4⟩ := HP23.out.cells
  have y0 := HP43.out.fz 0
  have z0 := HP23.out.fz 0
  have y1 := HP43.out.fz 1
  have z1 := HP23.out.fz 1
  have y2 := HP43.out.fz 2
  have z2 := HP23.out.fz 2
  have y3 := HP43.out.fz 3
  have z3 := HP23.out.fz 3
  have y4 := HP43.out.fz 4
  have z4 := HP23.out.fz 4
  have c0 := HR3.out.c0
  have c1 := HR3.out.c1
  have cf := HR3.out.f 1
  by_cases h1 : e1 = 0
  · subst h1
    obtain ⟨w4, hw4⟩ : ∃ w4, w4 = w3.setCell ⟨w.heap.size + 1, 0, none⟩ (.string M) := ⟨_, rfl⟩
    have HP44 : Hid (P9 w4 (w.heap.size + 1) M 0 0 0 ⟨#[]⟩) := (by rw [hw4]; exact HP43.out.set0 M : P9 _ _ _ _ _ _ _)
    have HP24 : Hid (P9 w4 w.heap.size ⟨#[]⟩ 0 0 0 ⟨#[]⟩) := (by rw [hw4]; exact HP23.out.other (by show w.heap.size + 1 ≠ w.heap.size; omega) _ : P9 _ _ _ _ _ _ _)
    have HR4 : Hid (RB w4 g s a1) := (by rw [hw4]; exact HR3.out.chgo hgB4 _ : RB _ _ _ _)
    have HC4 : Hid (Chg g w w4) := (by rw [hw4]; exact HC3.out.fresh (by omega) _ _ : Chg _ _ _)
    go_wp2_with fail
    rw [← hw4]
    clear hw4 HP43 HP23 HR3 HC3
    clear q0 q1 q2 q3 q4 d0 d1 d2 d3 d4 y0 y1 y2 y3 y4 z0 z1 z2 z3 z4 c0 c1 cf
    refine (HL2.out _ HR4.out HC4.out).mono ?_
    rintro e w5 ⟨rfl, hr5, hc5⟩
    have HR5 : Hid (RB w5 g s a2) := hr5
    have HC5 : Hid (Chg g w w5) := HC4.out.trans hc5
    have HP45 : Hid (P9 w5 (w.heap.size + 1) M 0 0 0 ⟨#[]⟩) := HP44.out.chg hc5 hgB4
    have HP25 : Hid (P9 w5 w.heap.size ⟨#[]⟩ 0 0 0 ⟨#[]⟩) := HP24.out.chg hc5 hgB2
    clear hr5 hc5 HP44 HP24 HR4 HC4 HL2
    by_cases h2 : e2 = 0
    · subst h2
      go_wp2_with fail
      refine (HTo.out _ HC5.out).mono ?_
      rintro e w6 ⟨rfl, hb6⟩
      have HR6 : Hid (RB w6 g s a2) := HR5.out.below hb6
      have HC6 : Hid (Chg g w w6) := HC5.out.bel hb6
      have HP46 : Hid (P9 w6 (w.heap.size + 1) M 0 0 0 ⟨#[]⟩) := HP45.out.chg (Chg.of g hb6) hgB4
      have HP26 : Hid (P9 w6 w.heap.size ⟨#[]⟩ 0 0 0 ⟨#[]⟩) := HP25.out.chg (Chg.of g hb6) hgB2
      clear hb6 HP45 HP25 HR5 HC5 HTo
      obtain ⟨q0, q1, q2, q3, q4⟩ := HP46.out.cells
      obtain ⟨d0, d1, d2, d3, d4⟩ := HP26.out.cells
      have y0 := HP46.out.fz 0
      have z0 := HP26.out.fz 0
      have y1 := HP46.out.fz 1
      have z1 := HP26.out.fz 1
      have y2 := HP46.out.fz 2
      have z2 := HP26.out.fz 2
      have y3 := HP46.out.fz 3
      have z3 := HP26.out.fz 3
      have y4 := HP46.out.fz 4
      have z4 := HP26.out.fz 4
      have c0 := HR6.out.c0
      have c1 := HR6.out.c1
      have cf := HR6.out.f 1
      by_cases h3 : (xf, xt) = (0, 0)
      · have e0 : xf = 0 ∧ xt = 0 := by simpa using h3
        obtain ⟨rfl, rfl⟩ := e0
        have heq : ∀ W, (binOp .eql 38 (.agg #[.int .i64 0, .int .i64 0]) (.agg #[.int .i64 0, .int .i64 0])).run Tryz.prog W = .ok (.bool true) W := fun W => by rw [eqN]; simp
        have HQr : Hid (R = (noPc, 93, k1)) := (by rw [HQ.out, if_neg (by simp), if_neg (by simp), if_pos rfl] : _ = _)
        go_wp2
        refine bodyPost_ret (v := .tuple #[.agg #[.string M, .int .i64 0, .int .i64 0, .int .i64 xz, .string ⟨#[]⟩], .int .i64 93]) (by simp [results, Tryz.results59, go_sem, d0, d1, d2, d3, d4, q0, q1, q2, q3, q4]; try rfl) rfl ?_
        rw [HQr.out]
        refine ⟨_, _, _, _, _, rfl, (fun h => absurd h (by simp)), ?_, ?_⟩
        · rw [← HE1.out]
          repeat (first | with_reducible exact HR6.out | refine RB.chgo ?_ hgB2 _ | refine RB.chgo ?_ hgB4 _ | refine RB.set (a := a2) ?_ a1)
        · repeat (first | with_reducible exact HC6.out | refine Chg.fresh ?_ (Nat.le_refl _) _ _ | refine Chg.fresh ?_ (Nat.le_succ _) _ _ | refine Chg.set ?_ _ _)
      · have hbd : 0 ≤ xf ∧ xf < xt ∧ xt ≤ 4611686018427387905 := HBD.out.resolve_left h3
        have heq : ∀ W, (binOp .eql 38 (.agg #[.int .i64 xf, .int .i64 xt]) (.agg #[.int .i64 0, .int .i64 0])).run Tryz.prog W = .ok (.bool false) W := fun W => by
          rw [eqN]
          have : (xt == 0) = false := by simp; omega
          rw [this, Bool.and_false]
        obtain ⟨w7, hw7⟩ : ∃ w7, w7 = ((((w6.setCell ⟨w.heap.size + 1, 1, none⟩ (.int .i64 xf)).setCell ⟨w.heap.size + 1, 2, none⟩ (.int .i64 xt)).setCell ⟨w.heap.size + 1, 3, none⟩ (.int .i64 xz)).alloc (.cells #[.string ⟨#[13, 10]⟩] 9)) := ⟨_, rfl⟩
        have hc7 : Chg g w6 w6 := Chg.refl g w6
        have HP47 : Hid (P9 w7 (w.heap.size + 1) M xf xt xz ⟨#[]⟩) := (by rw [hw7]; exact (HP46.out.set123 xf xt xz).chg (Chg.of g ((Below.refl _ _).alloc (Nat.le_refl _) _)) hgB4 : P9 _ _ _ _ _ _ _)
        have HP27 : Hid (P9 w7 w.heap.size ⟨#[]⟩ 0 0 0 ⟨#[]⟩) := (by rw [hw7]; exact (((HP26.out.other (by show w.heap.size + 1 ≠ w.heap.size; omega) _).other (by show w.heap.size + 1 ≠ w.heap.size; omega) _).other (by show w.heap.size + 1 ≠ w.heap.size; omega) _).chg (Chg.of g ((Below.refl _ _).alloc (Nat.le_refl _) _)) hgB2 : P9 _ _ _ _ _ _ _)
        have HR7 : Hid (RB w7 g s a2) := (by rw [hw7]; exact (((HR6.out.chgo hgB4 _).chgo hgB4 _).chgo hgB4 _).below ((Below.refl _ _).alloc (Nat.le_refl _) _) : RB _ _ _ _)
        have HC7 : Hid (Chg g w w7) := (by rw [hw7]; exact (((HC6.out.fresh (Nat.le_succ _) _ _).fresh (Nat.le_succ _) _ _).fresh (Nat.le_succ _) _ _).bel ((Below.refl _ _).alloc (Nat.le_refl _) _) : Chg _ _ _)
        have HT7 : Hid (RdS (.slice (some ⟨w6.heap.size, 0, none⟩) 1 1) [[13, 10]] w7) := (by rw [hw7]; have := rd_crlf (((w6.setCell ⟨w.heap.size + 1, 1, none⟩ (.int .i64 xf)).setCell ⟨w.heap.size + 1, 2, none⟩ (.int .i64 xt)).setCell ⟨w.heap.size + 1, 3, none⟩ (.int .i64 xz)) 9; simpa using this : RdS _ _ _)
        go_wp2_with fail
        rw [← hw7]
        clear hw7 hc7 HP46 HP26 HR6 HC6
        clear q0 q1 q2 q3 q4 d0 d1 d2 d3 d4 y0 y1 y2 y3 y4 z0 z1 z2 z3 z4 c0 c1 cf
        refine (HTk.out _ _ HR7.out HT7.out).mono ?_
        rintro e w8 ⟨rfl, hr8, hc8⟩
        have HR8 : Hid (RB w8 g s a3) := hr8
        have HC8 : Hid (Chg g w w8) := HC7.out.trans hc8
        have HP48 : Hid (P9 w8 (w.heap.size + 1) M xf xt xz ⟨#[]⟩) := HP47.out.chg hc8 hgB4
        have HP28 : Hid (P9 w8 w.heap.size ⟨#[]⟩ 0 0 0 ⟨#[]⟩) := HP27.out.chg hc8 hgB2
        clear hr8 hc8 HP47 HP27 HR7 HC7 HT7 HTk
        obtain ⟨q0, q1, q2, q3, q4⟩ := HP48.out.cells
        obtain ⟨d0, d1, d2, d3, d4⟩ := HP28.out.cells
        have y0 := HP48.out.fz 0
        have z0 := HP28.out.fz 0
        have y1 := HP48.out.fz 1
        have z1 := HP28.out.fz 1
        have y2 := HP48.out.fz 2
        have z2 := HP28.out.fz 2
        have y3 := HP48.out.fz 3
        have z3 := HP28.out.fz 3
        have y4 := HP48.out.fz 4
        have z4 := HP28.out.fz 4
        have c0 := HR8.out.c0
        have c1 := HR8.out.c1
        have cf := HR8.out.f 1
        by_cases h4 : e3 = 0
        · subst h4
          have hk3 : k3 = 2 := HT3.out rfl
          obtain ⟨nN, hnN⟩ : ∃ nN : Nat, xt - xf = (nN : Int) := ⟨(xt - xf).toNat, by omega⟩
          have hwn : IntKind.i64.wrap (nN : Int) = (nN : Int) := by rw [IntKind.wrap_i64]; omega
          have hnb : nN ≤ 4611686018427387905 := by omega
          have hw18 : IntKind.i64.wrap ((s.size : Int) - (a3 : Int)) = (s.size : Int) - (a3 : Int) := by rw [IntKind.wrap_i64]; omega
          have HNN : Hid ((xt - xf).toNat = nN) := (by rw [hnN]; rfl : _ = _)
          have HQ2 : Hid (R = if ((r.length - (k1 + k2 + 2) : Nat) : Int) < xt - xf then (noPc, 94, r.length) else (⟨m, (xf, xt), xz, (r.drop (k1 + k2 + 2)).take (xt - xf).toNat⟩, 0, k1 + k2 + 2 + (xt - xf).toNat)) := (by rw [HQ.out, if_neg (by simp), if_neg (by simp), if_neg h3, if_neg (by simp)] : _ = _)
          have hfr := HF.out
          have hE1 := HE1.out
          have hE2 := HE2.out
          have hE3 := HE3.out
          have hRL := HRL.out
          have hlen : (r.length - (k1 + k2 + 2) : Nat) = s.size - a3 := by omega
          by_cases h5 : ((s.size - a3 : Nat) : Int) < (nN : Int)
          · have hd : decide ((s.size : Int) - (a3 : Int) < (nN : Int)) = true := decide_eq_true (by omega)
            have HQr : Hid (R = (noPc, 94, r.length)) := (by rw [HQ2.out, hlen, hnN, if_pos h5] : _ = _)
            have HSz : Hid (a + r.length = s.size) := (by omega : a + r.length = s.size)
            clear hfr hE1 hE2 hE3 hRL hlen hk3 h5
            go_wp2_with fail
            go_quiet (fail)
            obtain ⟨w9, hw9⟩ : ∃ w9, w9 = w8.drewN nq := ⟨_, rfl⟩
            have hb9 : Below w8.heap.size w8 w9 := by rw [hw9]; exact ⟨rfl, rfl, rfl, Nat.le_refl _, fun _ _ => rfl⟩
            rw [← hw9]
            have HR9 : Hid (RB w9 g s a3) := HR8.out.below hb9
            have HC9 : Hid (Chg g w w9) := HC8.out.bel hb9
            have HP49 : Hid (P9 w9 (w.heap.size + 1) M xf xt xz ⟨#[]⟩) := HP48.out.chg (Chg.of g hb9) hgB4
            have HP29 : Hid (P9 w9 w.heap.size ⟨#[]⟩ 0 0 0 ⟨#[]⟩) := HP28.out.chg (Chg.of g hb9) hgB2
            clear hw9 hb9 HP48 HP28 HR8 HC8
            clear q0 q1 q2 q3 q4 d0 d1 d2 d3 d4 y0 y1 y2 y3 y4 z0 z1 z2 z3 z4 c0 c1 cf
            obtain ⟨q0, q1, q2, q3, q4⟩ := HP49.out.cells
            obtain ⟨d0, d1, d2, d3, d4⟩ := HP29.out.cells
            have y0 := HP49.out.fz 0
            have z0 := HP29.out.fz 0
            have y1 := HP49.out.fz 1
            have z1 := HP29.out.fz 1
            have y2 := HP49.out.fz 2
            have z2 := HP29.out.fz 2
            have y3 := HP49.out.fz 3
            have z3 := HP29.out.fz 3
            have y4 := HP49.out.fz 4
            have z4 := HP29.out.fz 4
            have c0 := HR9.out.c0
            have c1 := HR9.out.c1
            have cf := HR9.out.f 1
            go_wp2
            refine bodyPost_ret (v := .tuple #[.agg #[.string M, .int .i64 xf, .int .i64 xt, .int .i64 xz, .string ⟨#[]⟩], .int .i64 94]) (by simp [results, Tryz.results59, go_sem, d0, d1, d2, d3, d4, q0, q1, q2, q3, q4]; try rfl) rfl ?_
            rw [HQr.out]
            refine ⟨_, _, _, _, _, rfl, (fun h => absurd h (by simp)), ?_, ?_⟩
            · rw [HSz.out]
              repeat (first | with_reducible exact HR9.out | refine RB.chgo ?_ hgB2 _ | refine RB.chgo ?_ hgB4 _ | refine RB.set (a := a3) ?_ s.size)
            · repeat (first | with_reducible exact HC9.out | refine Chg.fresh ?_ (Nat.le_refl _) _ _ | refine Chg.fresh ?_ (Nat.le_succ _) _ _ | refine Chg.set ?_ _ _)
          · have hd : decide ((s.size : Int) - (a3 : Int) < (nN : Int)) = false := decide_eq_false (by omega)
            have hx0 := HExs.out nN
            obtain ⟨BD, HBY⟩ : ∃ BD, Hid (BD = s.extract a3 (a3 + nN)) := ⟨_, rfl⟩
            have hbx : s.extract a3 (a3 + nN) = BD := HBY.out.symm
            have HBS : Hid (BD = str ((r.drop (k1 + k2 + 2)).take (xt - xf).toNat)) := (by rw [HNN.out, HBY.out, hx0, hk3] : _ = _)
            have HQr : Hid (R = (⟨m, (xf, xt), xz, (r.drop (k1 + k2 + 2)).take (xt - xf).toNat⟩, 0, k1 + k2 + 2 + (xt - xf).toNat)) := (by rw [HQ2.out, hlen, hnN, if_neg h5] : _ = _)
            have HSz : Hid (a + (k1 + k2 + 2 + (xt - xf).toNat) = a3 + nN) := (by rw [HNN.out]; omega : _ = _)
            have hwa : IntKind.i64.wrap ((a3 : Int) + (nN : Int)) = (a3 : Int) + (nN : Int) := by rw [IntKind.wrap_i64]; omega
            have hta : ((a3 : Int) + (nN : Int)).toNat = a3 + nN := by omega
            have hle : (a3 : Int) + (nN : Int) ≤ (s.size : Int) := by omega
            have hle2 : (a3 : Int) ≤ (a3 : Int) + (nN : Int) := by omega
            have ha30 : (0 : Int) ≤ (a3 : Int) := by omega
            clear hfr hE1 hE2 hE3 hRL hlen hk3 h5 hx0
            go_wp2_with fail
            go_quiet (fail)
            obtain ⟨w9, hw9⟩ : ∃ w9, w9 = w8.drewN nq := ⟨_, rfl⟩
            have hb9 : Below w8.heap.size w8 w9 := by rw [hw9]; exact ⟨rfl, rfl, rfl, Nat.le_refl _, fun _ _ => rfl⟩
            rw [← hw9]
            have HR9 : Hid (RB w9 g s a3) := HR8.out.below hb9
            have HC9 : Hid (Chg g w w9) := HC8.out.bel hb9
            have HP49 : Hid (P9 w9 (w.heap.size + 1) M xf xt xz ⟨#[]⟩) := HP48.out.chg (Chg.of g hb9) hgB4
            have HP29 : Hid (P9 w9 w.heap.size ⟨#[]⟩ 0 0 0 ⟨#[]⟩) := HP28.out.chg (Chg.of g hb9) hgB2
            clear hw9 hb9 HP48 HP28 HR8 HC8
            clear q0 q1 q2 q3 q4 d0 d1 d2 d3 d4 y0 y1 y2 y3 y4 z0 z1 z2 z3 z4 c0 c1 cf
            obtain ⟨q0, q1, q2, q3, q4⟩ := HP49.out.cells
            obtain ⟨d0, d1, d2, d3, d4⟩ := HP29.out.cells
            have y0 := HP49.out.fz 0
            have z0 := HP29.out.fz 0
            have y1 := HP49.out.fz 1
            have z1 := HP29.out.fz 1
            have y2 := HP49.out.fz 2
            have z2 := HP29.out.fz 2
            have y3 := HP49.out.fz 3
            have z3 := HP29.out.fz 3
            have y4 := HP49.out.fz 4
            have z4 := HP29.out.fz 4
            have c0 := HR9.out.c0
            have c1 := HR9.out.c1
            have cf := HR9.out.f 1
            go_wp2_with fail
            go_region
            obtain ⟨w10, hw10⟩ : ∃ w10, w10 = (w9.setCell ⟨w.heap.size + 1, 4, none⟩ (.string BD)).drew := ⟨_, rfl⟩
            have hb10 : Below (w9.setCell ⟨w.heap.size + 1, 4, none⟩ (.string BD)).heap.size (w9.setCell ⟨w.heap.size + 1, 4, none⟩ (.string BD)) w10 := by rw [hw10]; exact ⟨rfl, rfl, rfl, Nat.le_refl _, fun _ _ => rfl⟩
            rw [← hw10]
            have HR10 : Hid (RB w10 g s a3) := (HR9.out.chgo hgB4 _).below hb10
            have HC10 : Hid (Chg g w w10) := (HC9.out.fresh (Nat.le_succ _) _ _).bel hb10
            have HP410 : Hid (P9 w10 (w.heap.size + 1) M xf xt xz BD) := (HP49.out.set4 BD).chg (Chg.of g hb10) hgB4
            have HP210 : Hid (P9 w10 w.heap.size ⟨#[]⟩ 0 0 0 ⟨#[]⟩) := (HP29.out.other (by show w.heap.size + 1 ≠ w.heap.size; omega) _).chg (Chg.of g hb10) hgB2
            clear hw10 hb10 HP49 HP29 HR9 HC9
            clear q0 q1 q2 q3 q4 d0 d1 d2 d3 d4 y0 y1 y2 y3 y4 z0 z1 z2 z3 z4 c0 c1 cf
            obtain ⟨q0, q1, q2, q3, q4⟩ := HP410.out.cells
            obtain ⟨d0, d1, d2, d3, d4⟩ := HP210.out.cells
            have y0 := HP410.out.fz 0
            have z0 := HP210.out.fz 0
            have y1 := HP410.out.fz 1
            have z1 := HP210.out.fz 1
            have y2 := HP410.out.fz 2
            have z2 := HP210.out.fz 2
            have y3 := HP410.out.fz 3
            have z3 := HP210.out.fz 3
            have y4 := HP410.out.fz 4
            have z4 := HP210.out.fz 4
            have c0 := HR10.out.c0
            have c1 := HR10.out.c1
            have cf := HR10.out.f 1
            go_wp2
            refine bodyPost_ret (v := .tuple #[.agg #[.string M, .int .i64 xf, .int .i64 xt, .int .i64 xz, .string BD], .int .i64 0]) (by simp [results, Tryz.results59, go_sem, d0, d1, d2, d3, d4, q0, q1, q2, q3, q4]; try rfl) rfl ?_
            rw [HQr.out]
            refine ⟨_, _, _, _, _, rfl, (fun _ => ⟨HM.out, rfl, rfl, rfl, HBS.out⟩), ?_, ?_⟩
            · rw [HSz.out]
              repeat (first | with_reducible exact HR10.out | refine RB.chgo ?_ hgB2 _ | refine RB.chgo ?_ hgB4 _ | refine RB.setI (a := a3) ?_ (a3 + nN) _ (by omega))
            · repeat (first | with_reducible exact HC10.out | refine Chg.fresh ?_ (Nat.le_refl _) _ _ | refine Chg.fresh ?_ (Nat.le_succ _) _ _ | refine Chg.set ?_ _ _)
        · have hne : (e3 != 0) = true := by simpa using h4
          have HQr : Hid (R = (noPc, e3, k1 + k2 + k3)) := (by rw [HQ.out, if_neg (by simp), if_neg (by simp), if_neg h3, if_pos h4] : _ = _)
          have HRy : Hid (RB w8 g s (a + (k1 + k2 + k3))) := (by have := HR8.out; rw [HE3.out, HE2.out, HE1.out] at this; rw [← Nat.add_assoc, ← Nat.add_assoc]; exact this : RB _ _ _ _)
          go_wp2
          refine bodyPost_ret (v := .tuple #[.agg #[.string M, .int .i64 xf, .int .i64 xt, .int .i64 xz, .string ⟨#[]⟩], .int .i64 e3]) (by simp [results, Tryz.results59, go_sem, d0, d1, d2, d3, d4, q0, q1, q2, q3, q4]; try rfl) rfl ?_
          rw [HQr.out]
          refine ⟨_, _, _, _, _, rfl, (fun h => absurd h (by first | assumption | simp)), ?_, ?_⟩
          · repeat (first | with_reducible exact HRy.out | refine RB.chgo ?_ hgB2 _ | refine RB.chgo ?_ hgB4 _)
          · repeat (first | with_reducible exact HC8.out | refine Chg.fresh ?_ (Nat.le_refl _) _ _ | refine Chg.fresh ?_ (Nat.le_succ _) _ _ | refine Chg.set ?_ _ _)
    · have hne : (e2 != 0) = true := by simpa using h2
      have HQr : Hid (R = (noPc, e2, k1 + k2)) := (by rw [HQ.out, if_neg (by simp), if_pos h2] : _ = _)
      obtain ⟨q0, q1, q2, q3, q4⟩ := HP45.out.cells
      obtain ⟨d0, d1, d2, d3, d4⟩ := HP25.out.cells
      have y0 := HP45.out.fz 0
      have z0 := HP25.out.fz 0
      have y1 := HP45.out.fz 1
      have z1 := HP25.out.fz 1
      have y2 := HP45.out.fz 2
      have z2 := HP25.out.fz 2
      have y3 := HP45.out.fz 3
      have z3 := HP25.out.fz 3
      have y4 := HP45.out.fz 4
      have z4 := HP25.out.fz 4
      have c0 := HR5.out.c0
      have c1 := HR5.out.c1
      have cf := HR5.out.f 1
      have HRy : Hid (RB w5 g s (a + (k1 + k2))) := (by have := HR5.out; rw [HE2.out, HE1.out, Nat.add_assoc] at this; exact this : RB _ _ _ _)
      go_wp2
      refine bodyPost_ret (v := .tuple #[.agg #[.string M, .int .i64 0, .int .i64 0, .int .i64 0, .string ⟨#[]⟩], .int .i64 e2]) (by simp [results, Tryz.results59, go_sem, d0, d1, d2, d3, d4, q0, q1, q2, q3, q4]; try rfl) rfl ?_
      rw [HQr.out]
      refine ⟨_, _, _, _, _, rfl, (fun h => absurd h (by first | assumption | simp)), ?_, ?_⟩
      · repeat (first | with_reducible exact HRy.out | refine RB.chgo ?_ hgB2 _ | refine RB.chgo ?_ hgB4 _)
      · repeat (first | with_reducible exact HC5.out | refine Chg.fresh ?_ (Nat.le_refl _) _ _ | refine Chg.fresh ?_ (Nat.le_succ _) _ _ | refine Chg.set ?_ _ _)
  · have hne : (e1 != 0) = true := by simpa using h1
    have HQr : Hid (R = (noPc, e1, k1)) := (by rw [HQ.out, if_pos h1] : _ = _)
    have HRy : Hid (RB w3 g s (a + k1)) := (by have := HR3.out; rw [HE1.out] at this; exact this : RB _ _ _ _)
    go_wp2
    refine bodyPost_ret (v := .tuple #[.agg #[.string M, .int .i64 0, .int .i64 0, .int .i64 0, .string ⟨#[]⟩], .int .i64 e1]) (by simp [results, Tryz.results59, go_sem, d0, d1, d2, d3, d4, q0, q1, q2, q3, q4]; try rfl) rfl ?_
    rw [HQr.out]
    refine ⟨_, _, _, _, _, rfl, (fun h => absurd h (by first | assumption | simp)), ?_, ?_⟩
    · repeat (first | with_reducible exact HRy.out | refine RB.chgo ?_ hgB2 _ | refine RB.chgo ?_ hgB4 _)
    · repeat (first | with_reducible exact HC3.out | refine Chg.fresh ?_ (Nat.le_refl _) _ _ | refine Chg.fresh ?_ (Nat.le_succ _) _ _ | refine Chg.set ?_ _ _)

end Sn
end Go.Proofs.YthdfgepnadgkjaaGreatDoor
