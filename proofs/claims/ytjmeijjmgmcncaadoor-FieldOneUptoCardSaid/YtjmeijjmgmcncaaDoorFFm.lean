/-
  Framing; the document's.
-/
import Derived.Test.YtjmeijjmgmcncaaDoorFFr
set_option linter.unusedVariables false
set_option linter.unusedSimpArgs false
namespace Go.Proofs.YtjmeijjmgmcncaaDoor
open Go.RowKit Go.Shelf
namespace Fd
open Oc Tg

/-- What Framing answers, as a value. -/
def frV (r : Int × Int × Int) : Value := .tuple #[.agg #[.int .i64 r.1, .int .i64 r.2.1], .int .i64 r.2.2]
def frV3 (r : Int × Int × Int) : Value := .tuple #[.int .i64 r.1, .int .i64 r.2.1, .int .i64 r.2.2]

set_option maxRecDepth 100000 in
set_option maxHeartbeats 2000000 in
theorem Framing_any (v : Value) (t : List Fl) (old : Bool) (hS : sumF t ≤ 1048576) (w : World) (hrd : RdF v t w) (tab : Tab w) :
    Calls Tryd.prog 26 #[v, .bool old] w fun e w' => e = .returned (frV (framingF t old)) ∧ Below w.heap.size w w' := by
  obtain ⟨w2, hw2⟩ : ∃ w2, w2 = w.alloc (.cells #[.int .i64 0, .int .i64 0] 48) := ⟨_, rfl⟩
  have R1 : w2.heap[w.heap.size]? = some (.cells #[.int .i64 0, .int .i64 0] 48 (0, 0)) := by
    rw [hw2]; exact heap_alloc_new w _
  have hb2 : Below w.heap.size w w2 := by rw [hw2]; exact (Below.refl _ w).alloc (Nat.le_refl _) _
  have hz2 : Hid (w2.heap.size = w.heap.size + 1) := by show _ = _; rw [hw2]; simp
  have HR1 : Hid (_) := R1
  have HB2 : Hid (Below w.heap.size w w2) := hb2
  have HR : Hid (RdF v t w2) := hrd.below hb2
  have HC : Hid (Calls _ _ _ _ _) := Codings_any v t hS w2 (hrd.below hb2) (tab.below hb2 (Nat.le_refl _))
  have HL : Hid (∀ w, RdF v t w → Calls Tryd.prog 59 #[v] w fun e w' => e = .returned (.tuple #[.int .i64 (lengthF t).1, .bool (lengthF t).2.1, .int .i64 (lengthF t).2.2]) ∧ Below w.heap.size w w') := fun w h => Length_any v t hS w h
  have hcl := cod_len hS
  unfold framingF
  obtain ⟨a, c, rfl, _⟩ := hrd
  clear R1 hb2 tab
  generalize (codF t).1 = cl at *
  generalize (codF t).2.1 = coded at *
  generalize (codF t).2.2 = ce at *
  generalize (lengthF t).1 = n at *
  generalize (lengthF t).2.1 = sized at *
  generalize (lengthF t).2.2 = le at *
  unfold frame
  by_cases hce : ce = 0
  · subst hce
    rw [if_neg (by simp)]
    cases coded with
    | true =>
      rw [if_pos rfl]
      cases old with
      | true =>
        rw [if_pos rfl]
        go_enter Tryd.func26, Tryd.ntmps26
        go_wp2_with fail
        rw [← hw2]
        clear hw2
        refine HC.out.mono ?_
        rintro e w3 ⟨u, rfl, hu, hb⟩
        have HB3 : Hid (Below w2.heap.size w2 w3) := hb
        have HU3 : Hid (RdS u cl w3) := hu.rd
        clear hb hu
        go_wp2_with fail
        refine (HL.out _ (HR.out.below HB3.out)).mono ?_
        rintro e w4 ⟨rfl, hb⟩
        have HB4 : Hid (Below w2.heap.size w2 w4) := bel_trans HB3.out hb
        have HU4 : Hid (RdS u cl w4) := HU3.out.below hb
        clear hb
        have R1 := (HB4.out.block _ (show w.heap.size < _ by have := hz2.out; omega)).trans HR1.out
        have c0 := Lib.cell_of_heap R1 0
        have c1 := Lib.cell_of_heap R1 1
        have fc0 := Lib.frozen_of_heap R1 0
        have fc1 := Lib.frozen_of_heap R1 1
        simp at c0 c1
        clear R1
        go_wp2
        refine bodyPost_ret (v := .tuple #[.agg #[.int .i64 0, .int .i64 0], .int .i64 67]) (by simp [results, Tryd.results26, go_sem, c0, c1]) rfl ?_
        exact ⟨rfl, (Below.setCell (p := ⟨w.heap.size, 1, none⟩) (Below.setCell (p := ⟨w.heap.size, 0, none⟩) (HB2.out.trans (HB4.out.mono (by have := hz2.out; omega))) (by simp) _) (by simp) _)⟩
      | false =>
        rw [if_neg (by simp)]
        by_cases hch : cl = [chk]
        · rw [if_pos hch]
          by_cases hle : le = 0
          · subst hle
            rw [if_neg (by simp)]
            cases sized with
            | true =>
              rw [if_pos rfl]
              go_enter Tryd.func26, Tryd.ntmps26
              go_wp2_with fail
              rw [← hw2]
              clear hw2
              refine HC.out.mono ?_
              rintro e w3 ⟨u, rfl, hu, hb⟩
              have HB3 : Hid (Below w2.heap.size w2 w3) := hb
              have HU3 : Hid (RdS u cl w3) := hu.rd
              clear hb hu
              go_wp2_with fail
              refine (HL.out _ (HR.out.below HB3.out)).mono ?_
              rintro e w4 ⟨rfl, hb⟩
              have HB4 : Hid (Below w2.heap.size w2 w4) := bel_trans HB3.out hb
              have HU4 : Hid (RdS u cl w4) := HU3.out.below hb
              clear hb
              have hb5 : Below w4.heap.size w4 (w4.alloc (.cells #[.string ⟨#[99, 104, 117, 110, 107, 101, 100]⟩] 9)) := (Below.refl _ w4).alloc (Nat.le_refl _) _
              have HB5 : Hid (Below w2.heap.size w2 (w4.alloc (.cells #[.string ⟨#[99, 104, 117, 110, 107, 101, 100]⟩] 9))) := bel_trans HB4.out hb5
              have HEq : Hid (Calls _ _ _ _ _) := Equal_one u cl hcl w4.heap.size chk (w4.alloc (.cells #[.string ⟨#[99, 104, 117, 110, 107, 101, 100]⟩] 9)) (HU4.out.below hb5) (by simp; rfl)
              clear hb5
              rw [decide_eq_true hch] at HEq
              go_wp2_with fail
              refine HEq.out.mono ?_
              rintro e w6 ⟨rfl, hb⟩
              have HB6 : Hid (Below w2.heap.size w2 w6) := bel_trans HB5.out hb
              clear hb
              have R1 := (HB6.out.block _ (show w.heap.size < _ by have := hz2.out; omega)).trans HR1.out
              have c0 := Lib.cell_of_heap R1 0
              have c1 := Lib.cell_of_heap R1 1
              have fc0 := Lib.frozen_of_heap R1 0
              have fc1 := Lib.frozen_of_heap R1 1
              simp at c0 c1
              clear R1
              go_wp2
              refine bodyPost_ret (v := .tuple #[.agg #[.int .i64 0, .int .i64 0], .int .i64 68]) (by simp [results, Tryd.results26, go_sem, c0, c1]) rfl ?_
              exact ⟨rfl, (Below.setCell (p := ⟨w.heap.size, 1, none⟩) (Below.setCell (p := ⟨w.heap.size, 0, none⟩) (HB2.out.trans (HB6.out.mono (by have := hz2.out; omega))) (by simp) _) (by simp) _)⟩
            | false =>
              rw [if_neg (by simp)]
              go_enter Tryd.func26, Tryd.ntmps26
              go_wp2_with fail
              rw [← hw2]
              clear hw2
              refine HC.out.mono ?_
              rintro e w3 ⟨u, rfl, hu, hb⟩
              have HB3 : Hid (Below w2.heap.size w2 w3) := hb
              have HU3 : Hid (RdS u cl w3) := hu.rd
              clear hb hu
              go_wp2_with fail
              refine (HL.out _ (HR.out.below HB3.out)).mono ?_
              rintro e w4 ⟨rfl, hb⟩
              have HB4 : Hid (Below w2.heap.size w2 w4) := bel_trans HB3.out hb
              have HU4 : Hid (RdS u cl w4) := HU3.out.below hb
              clear hb
              have hb5 : Below w4.heap.size w4 (w4.alloc (.cells #[.string ⟨#[99, 104, 117, 110, 107, 101, 100]⟩] 9)) := (Below.refl _ w4).alloc (Nat.le_refl _) _
              have HB5 : Hid (Below w2.heap.size w2 (w4.alloc (.cells #[.string ⟨#[99, 104, 117, 110, 107, 101, 100]⟩] 9))) := bel_trans HB4.out hb5
              have HEq : Hid (Calls _ _ _ _ _) := Equal_one u cl hcl w4.heap.size chk (w4.alloc (.cells #[.string ⟨#[99, 104, 117, 110, 107, 101, 100]⟩] 9)) (HU4.out.below hb5) (by simp; rfl)
              clear hb5
              rw [decide_eq_true hch] at HEq
              go_wp2_with fail
              refine HEq.out.mono ?_
              rintro e w6 ⟨rfl, hb⟩
              have HB6 : Hid (Below w2.heap.size w2 w6) := bel_trans HB5.out hb
              clear hb
              have R1 := (HB6.out.block _ (show w.heap.size < _ by have := hz2.out; omega)).trans HR1.out
              have c0 := Lib.cell_of_heap R1 0
              have c1 := Lib.cell_of_heap R1 1
              have fc0 := Lib.frozen_of_heap R1 0
              have fc1 := Lib.frozen_of_heap R1 1
              simp at c0 c1
              clear R1
              go_wp2
              refine bodyPost_ret (v := .tuple #[.agg #[.int .i64 2, .int .i64 0], .int .i64 0]) (by simp [results, Tryd.results26, go_sem, c0, c1]) rfl ?_
              exact ⟨rfl, (Below.setCell (p := ⟨w.heap.size, 1, none⟩) (Below.setCell (p := ⟨w.heap.size, 0, none⟩) (HB2.out.trans (HB6.out.mono (by have := hz2.out; omega))) (by simp) _) (by simp) _)⟩
          · rw [if_pos hle]
            have hlq : (le != 0) = true := by simp [hle]
            go_enter Tryd.func26, Tryd.ntmps26
            go_wp2_with fail
            rw [← hw2]
            clear hw2
            refine HC.out.mono ?_
            rintro e w3 ⟨u, rfl, hu, hb⟩
            have HB3 : Hid (Below w2.heap.size w2 w3) := hb
            have HU3 : Hid (RdS u cl w3) := hu.rd
            clear hb hu
            go_wp2_with fail
            refine (HL.out _ (HR.out.below HB3.out)).mono ?_
            rintro e w4 ⟨rfl, hb⟩
            have HB4 : Hid (Below w2.heap.size w2 w4) := bel_trans HB3.out hb
            have HU4 : Hid (RdS u cl w4) := HU3.out.below hb
            clear hb
            have hb5 : Below w4.heap.size w4 (w4.alloc (.cells #[.string ⟨#[99, 104, 117, 110, 107, 101, 100]⟩] 9)) := (Below.refl _ w4).alloc (Nat.le_refl _) _
            have HB5 : Hid (Below w2.heap.size w2 (w4.alloc (.cells #[.string ⟨#[99, 104, 117, 110, 107, 101, 100]⟩] 9))) := bel_trans HB4.out hb5
            have HEq : Hid (Calls _ _ _ _ _) := Equal_one u cl hcl w4.heap.size chk (w4.alloc (.cells #[.string ⟨#[99, 104, 117, 110, 107, 101, 100]⟩] 9)) (HU4.out.below hb5) (by simp; rfl)
            clear hb5
            rw [decide_eq_true hch] at HEq
            go_wp2_with fail
            refine HEq.out.mono ?_
            rintro e w6 ⟨rfl, hb⟩
            have HB6 : Hid (Below w2.heap.size w2 w6) := bel_trans HB5.out hb
            clear hb
            have R1 := (HB6.out.block _ (show w.heap.size < _ by have := hz2.out; omega)).trans HR1.out
            have c0 := Lib.cell_of_heap R1 0
            have c1 := Lib.cell_of_heap R1 1
            have fc0 := Lib.frozen_of_heap R1 0
            have fc1 := Lib.frozen_of_heap R1 1
            simp at c0 c1
            clear R1
            go_wp2
            refine bodyPost_ret (v := .tuple #[.agg #[.int .i64 0, .int .i64 0], .int .i64 66]) (by simp [results, Tryd.results26, go_sem, c0, c1]) rfl ?_
            exact ⟨rfl, (Below.setCell (p := ⟨w.heap.size, 1, none⟩) (Below.setCell (p := ⟨w.heap.size, 0, none⟩) (HB2.out.trans (HB6.out.mono (by have := hz2.out; omega))) (by simp) _) (by simp) _)⟩
        · rw [if_neg hch]
          go_enter Tryd.func26, Tryd.ntmps26
          go_wp2_with fail
          rw [← hw2]
          clear hw2
          refine HC.out.mono ?_
          rintro e w3 ⟨u, rfl, hu, hb⟩
          have HB3 : Hid (Below w2.heap.size w2 w3) := hb
          have HU3 : Hid (RdS u cl w3) := hu.rd
          clear hb hu
          go_wp2_with fail
          refine (HL.out _ (HR.out.below HB3.out)).mono ?_
          rintro e w4 ⟨rfl, hb⟩
          have HB4 : Hid (Below w2.heap.size w2 w4) := bel_trans HB3.out hb
          have HU4 : Hid (RdS u cl w4) := HU3.out.below hb
          clear hb
          have hb5 : Below w4.heap.size w4 (w4.alloc (.cells #[.string ⟨#[99, 104, 117, 110, 107, 101, 100]⟩] 9)) := (Below.refl _ w4).alloc (Nat.le_refl _) _
          have HB5 : Hid (Below w2.heap.size w2 (w4.alloc (.cells #[.string ⟨#[99, 104, 117, 110, 107, 101, 100]⟩] 9))) := bel_trans HB4.out hb5
          have HEq : Hid (Calls _ _ _ _ _) := Equal_one u cl hcl w4.heap.size chk (w4.alloc (.cells #[.string ⟨#[99, 104, 117, 110, 107, 101, 100]⟩] 9)) (HU4.out.below hb5) (by simp; rfl)
          clear hb5
          rw [decide_eq_false hch] at HEq
          go_wp2_with fail
          refine HEq.out.mono ?_
          rintro e w6 ⟨rfl, hb⟩
          have HB6 : Hid (Below w2.heap.size w2 w6) := bel_trans HB5.out hb
          clear hb
          have R1 := (HB6.out.block _ (show w.heap.size < _ by have := hz2.out; omega)).trans HR1.out
          have c0 := Lib.cell_of_heap R1 0
          have c1 := Lib.cell_of_heap R1 1
          have fc0 := Lib.frozen_of_heap R1 0
          have fc1 := Lib.frozen_of_heap R1 1
          simp at c0 c1
          clear R1
          go_wp2
          refine bodyPost_ret (v := .tuple #[.agg #[.int .i64 0, .int .i64 0], .int .i64 67]) (by simp [results, Tryd.results26, go_sem, c0, c1]) rfl ?_
          exact ⟨rfl, (Below.setCell (p := ⟨w.heap.size, 1, none⟩) (Below.setCell (p := ⟨w.heap.size, 0, none⟩) (HB2.out.trans (HB6.out.mono (by have := hz2.out; omega))) (by simp) _) (by simp) _)⟩
    | false =>
      rw [if_neg (by simp)]
      by_cases hle : le = 0
      · subst hle
        rw [if_neg (by simp)]
        cases sized with
        | true =>
          rw [if_pos rfl]
          go_enter Tryd.func26, Tryd.ntmps26
          go_wp2_with fail
          rw [← hw2]
          clear hw2
          refine HC.out.mono ?_
          rintro e w3 ⟨u, rfl, hu, hb⟩
          have HB3 : Hid (Below w2.heap.size w2 w3) := hb
          have HU3 : Hid (RdS u cl w3) := hu.rd
          clear hb hu
          go_wp2_with fail
          refine (HL.out _ (HR.out.below HB3.out)).mono ?_
          rintro e w4 ⟨rfl, hb⟩
          have HB4 : Hid (Below w2.heap.size w2 w4) := bel_trans HB3.out hb
          have HU4 : Hid (RdS u cl w4) := HU3.out.below hb
          clear hb
          have R1 := (HB4.out.block _ (show w.heap.size < _ by have := hz2.out; omega)).trans HR1.out
          have c0 := Lib.cell_of_heap R1 0
          have c1 := Lib.cell_of_heap R1 1
          have fc0 := Lib.frozen_of_heap R1 0
          have fc1 := Lib.frozen_of_heap R1 1
          simp at c0 c1
          clear R1
          go_wp2
          refine bodyPost_ret (v := .tuple #[.agg #[.int .i64 1, .int .i64 n], .int .i64 0]) (by simp [results, Tryd.results26, go_sem, c0, c1]) rfl ?_
          exact ⟨rfl, (Below.setCell (p := ⟨w.heap.size, 1, none⟩) (Below.setCell (p := ⟨w.heap.size, 0, none⟩) (HB2.out.trans (HB4.out.mono (by have := hz2.out; omega))) (by simp) _) (by simp) _)⟩
        | false =>
          rw [if_neg (by simp)]
          go_enter Tryd.func26, Tryd.ntmps26
          go_wp2_with fail
          rw [← hw2]
          clear hw2
          refine HC.out.mono ?_
          rintro e w3 ⟨u, rfl, hu, hb⟩
          have HB3 : Hid (Below w2.heap.size w2 w3) := hb
          have HU3 : Hid (RdS u cl w3) := hu.rd
          clear hb hu
          go_wp2_with fail
          refine (HL.out _ (HR.out.below HB3.out)).mono ?_
          rintro e w4 ⟨rfl, hb⟩
          have HB4 : Hid (Below w2.heap.size w2 w4) := bel_trans HB3.out hb
          have HU4 : Hid (RdS u cl w4) := HU3.out.below hb
          clear hb
          have R1 := (HB4.out.block _ (show w.heap.size < _ by have := hz2.out; omega)).trans HR1.out
          have c0 := Lib.cell_of_heap R1 0
          have c1 := Lib.cell_of_heap R1 1
          have fc0 := Lib.frozen_of_heap R1 0
          have fc1 := Lib.frozen_of_heap R1 1
          simp at c0 c1
          clear R1
          go_wp2
          refine bodyPost_ret (v := .tuple #[.agg #[.int .i64 0, .int .i64 0], .int .i64 0]) (by simp [results, Tryd.results26, go_sem, c0, c1]) rfl ?_
          exact ⟨rfl, (Below.setCell (p := ⟨w.heap.size, 1, none⟩) (Below.setCell (p := ⟨w.heap.size, 0, none⟩) (HB2.out.trans (HB4.out.mono (by have := hz2.out; omega))) (by simp) _) (by simp) _)⟩
      · rw [if_pos hle]
        have hlq : (le != 0) = true := by simp [hle]
        go_enter Tryd.func26, Tryd.ntmps26
        go_wp2_with fail
        rw [← hw2]
        clear hw2
        refine HC.out.mono ?_
        rintro e w3 ⟨u, rfl, hu, hb⟩
        have HB3 : Hid (Below w2.heap.size w2 w3) := hb
        have HU3 : Hid (RdS u cl w3) := hu.rd
        clear hb hu
        go_wp2_with fail
        refine (HL.out _ (HR.out.below HB3.out)).mono ?_
        rintro e w4 ⟨rfl, hb⟩
        have HB4 : Hid (Below w2.heap.size w2 w4) := bel_trans HB3.out hb
        have HU4 : Hid (RdS u cl w4) := HU3.out.below hb
        clear hb
        have R1 := (HB4.out.block _ (show w.heap.size < _ by have := hz2.out; omega)).trans HR1.out
        have c0 := Lib.cell_of_heap R1 0
        have c1 := Lib.cell_of_heap R1 1
        have fc0 := Lib.frozen_of_heap R1 0
        have fc1 := Lib.frozen_of_heap R1 1
        simp at c0 c1
        clear R1
        go_wp2
        refine bodyPost_ret (v := .tuple #[.agg #[.int .i64 0, .int .i64 0], .int .i64 66]) (by simp [results, Tryd.results26, go_sem, c0, c1]) rfl ?_
        exact ⟨rfl, (Below.setCell (p := ⟨w.heap.size, 1, none⟩) (Below.setCell (p := ⟨w.heap.size, 0, none⟩) (HB2.out.trans (HB4.out.mono (by have := hz2.out; omega))) (by simp) _) (by simp) _)⟩
  · rw [if_pos hce]
    have hcq : (ce != 0) = true := by simp [hce]
    go_enter Tryd.func26, Tryd.ntmps26
    go_wp2_with fail
    rw [← hw2]
    clear hw2
    refine HC.out.mono ?_
    rintro e w3 ⟨u, rfl, hu, hb⟩
    have HB3 : Hid (Below w2.heap.size w2 w3) := hb
    have HU3 : Hid (RdS u cl w3) := hu.rd
    clear hb hu
    go_wp2_with fail
    refine (HL.out _ (HR.out.below HB3.out)).mono ?_
    rintro e w4 ⟨rfl, hb⟩
    have HB4 : Hid (Below w2.heap.size w2 w4) := bel_trans HB3.out hb
    have HU4 : Hid (RdS u cl w4) := HU3.out.below hb
    clear hb
    have R1 := (HB4.out.block _ (show w.heap.size < _ by have := hz2.out; omega)).trans HR1.out
    have c0 := Lib.cell_of_heap R1 0
    have c1 := Lib.cell_of_heap R1 1
    have fc0 := Lib.frozen_of_heap R1 0
    have fc1 := Lib.frozen_of_heap R1 1
    simp at c0 c1
    clear R1
    go_wp2
    refine bodyPost_ret (v := .tuple #[.agg #[.int .i64 0, .int .i64 0], .int .i64 67]) (by simp [results, Tryd.results26, go_sem, c0, c1]) rfl ?_
    exact ⟨rfl, (Below.setCell (p := ⟨w.heap.size, 1, none⟩) (Below.setCell (p := ⟨w.heap.size, 0, none⟩) (HB2.out.trans (HB4.out.mono (by have := hz2.out; omega))) (by simp) _) (by simp) _)⟩

end Fd
end Go.Proofs.YtjmeijjmgmcncaaDoor
