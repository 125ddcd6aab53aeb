/-
  The document's rest (written by mkgpw.py).
-/
import Derived.Test.YtpnijigjlhfklaaGreatDoorGPs
set_option linter.unusedVariables false
set_option linter.unusedSimpArgs false
set_option maxRecDepth 100000
namespace Go.Proofs.YtpnijigjlhfklaaGreatDoor
open Go.RowKit Go.Shelf
namespace Tg
open Oc

set_option maxHeartbeats 2000000 in
theorem rrest_any (form port : Int) (host p0 q0 : List UInt8) (h0 : Bool) (s : ByteArray) (hs : s.size ≤ 4000000000) (k : Nat) (hk : k ≤ s.size) (w : World) :
    Calls Tryz.prog 25 #[.string s, .int .i64 (k : Int), .agg #[.int .i64 form, .string (str host), .int .i64 port, .string (str p0), .string (str q0), .bool h0]] w fun e w' => e = .returned (.tuple (prV (placeP form port host s.data.toList k))) ∧ Below w.heap.size w w' := by
  have hext : (s.extract k s.size).data.toList = s.data.toList.drop k := Lib.extract_to_end s k
  have hes : (s.extract k s.size).size = s.size - k := by rw [← size_list, hext, List.length_drop, size_list]
  have HCut : Hid (∀ w, _) := fun w => rcut_any (s.extract k s.size) (by omega) 63 w
  rw [hext] at HCut
  have hla : (cutA 63 (s.data.toList.drop k)).length ≤ s.size := Nat.le_trans (cutA_le _ _) (by rw [List.length_drop, size_list]; omega)
  have hlb : (cutB 63 (s.data.toList.drop k)).length ≤ s.size := Nat.le_trans (cutB_le _ _) (by rw [List.length_drop, size_list]; omega)
  unfold placeP placeR
  generalize cutA 63 (s.data.toList.drop k) = p at *
  generalize cutB 63 (s.data.toList.drop k) = q at *
  generalize has 63 (s.data.toList.drop k) = hq at *
  have HP : Hid (∀ w, _) := fun w => scan_any (str p) (by rw [str_size]; omega) ⟨#[47]⟩ (by decide) 53 pathOk path_more path37 w
  have HQ : Hid (∀ w, _) := fun w => scan_any (str q) (by rw [str_size]; omega) ⟨#[47, 63]⟩ (by decide) 54 queryOk query_more query37 w
  rw [str_list] at HP HQ
  have hsp : (str p).size = p.length := str_size p
  have hca := chk_le pathOk 53 p
  have hcb := chk_le queryOk 54 q
  generalize chk pathOk 53 p = rp at *
  generalize chk queryOk 54 q = rq at *
  obtain ⟨a1, a2⟩ := rp
  obtain ⟨b1, b2⟩ := rq
  dsimp only at *
  clear hext
  obtain ⟨w2, hw2⟩ : ∃ w2, w2 = (w.alloc (.cells #[.int .i64 form, .string (str host), .int .i64 port, .string (str p0), .string (str q0), .bool h0] 27)).alloc (.cells #[.int .i64 0, .string ⟨#[]⟩, .int .i64 0, .string ⟨#[]⟩, .string ⟨#[]⟩, .bool false] 27) := ⟨_, rfl⟩
  have R0 : w2.heap[w.heap.size]? = some (.cells #[.int .i64 form, .string (str host), .int .i64 port, .string (str p0), .string (str q0), .bool h0] 27 (0, 0)) := by
    rw [hw2, Lib.alloc_old _ _ _ (by simp)]; exact World.alloc_heap_new w _
  have R1 : w2.heap[w.heap.size + 1]? = some (.cells #[.int .i64 0, .string ⟨#[]⟩, .int .i64 0, .string ⟨#[]⟩, .string ⟨#[]⟩, .bool false] 27 (0, 0)) := by
    rw [hw2]; have := World.alloc_heap_new (w.alloc (.cells #[.int .i64 form, .string (str host), .int .i64 port, .string (str p0), .string (str q0), .bool h0] 27)) (.cells #[.int .i64 0, .string ⟨#[]⟩, .int .i64 0, .string ⟨#[]⟩, .string ⟨#[]⟩, .bool false] 27); rwa [World.size_alloc] at this
  have hb2 : Below w.heap.size w w2 := by rw [hw2]; exact ((Below.refl _ w).alloc (Nat.le_refl _) _).alloc (by simp) _
  have hz2 : w2.heap.size = w.heap.size + 2 := by rw [hw2]; simp
  have HR0 : Hid (_) := R0
  have HR1 : Hid (_) := R1
  have HB2 : Hid (Below w.heap.size w w2) := hb2
  clear R0 R1 hb2
  by_cases ha : a2 = 0
  · subst ha
    by_cases hb : b2 = 0
    · subst hb
      simp only [ne_eq, not_true_eq_false, if_false]
      have hpe : (str p).toList.isEmpty = decide (p = []) := by rw [ByteArray.toList_eq, str_list]; cases p <;> simp
      unfold prV tgt
      dsimp only
      by_cases hp0 : p = []
      · have hsl : slashed p = [47] := by unfold slashed; rw [if_pos hp0]
        rw [hsl]
        rw [decide_eq_true hp0] at hpe
        clear hp0 hsl
        go_enter Tryz.func25, Tryz.ntmps25
        go_wp2_with fail
        rw [← hw2]
        refine (HCut.out _).mono ?_
        rintro e w3 ⟨rfl, hb3⟩
        have HB3 : Hid (Below w2.heap.size w2 w3) := hb3
        clear hb3
        go_wp2_with fail
        refine (HP.out _).mono ?_
        rintro e w4 ⟨rfl, hw4⟩
        rw [hw4]
        clear hw4
        go_wp2_with fail
        refine (HQ.out _).mono ?_
        rintro e w5 ⟨rfl, hw5⟩
        rw [hw5]
        clear hw5
        have R1 := (HB3.out.block _ (show w.heap.size + 1 < _ by omega)).trans HR1.out
        have R0 := (HB3.out.block _ (show w.heap.size < _ by omega)).trans HR0.out
        have c0 := Lib.cell_of_heap R1 0
        have c1 := Lib.cell_of_heap R1 1
        have c2 := Lib.cell_of_heap R1 2
        have c3 := Lib.cell_of_heap R1 3
        have c4 := Lib.cell_of_heap R1 4
        have c5 := Lib.cell_of_heap R1 5
        have fc0 := Lib.frozen_of_heap R1 0
        have fc1 := Lib.frozen_of_heap R1 1
        have fc2 := Lib.frozen_of_heap R1 2
        have fc3 := Lib.frozen_of_heap R1 3
        have fc4 := Lib.frozen_of_heap R1 4
        have fc5 := Lib.frozen_of_heap R1 5
        simp at c0 c1 c2 c3 c4 c5
        have d0 := Lib.cell_of_heap R0 0
        have d1 := Lib.cell_of_heap R0 1
        have d2 := Lib.cell_of_heap R0 2
        have d3 := Lib.cell_of_heap R0 3
        have d4 := Lib.cell_of_heap R0 4
        have d5 := Lib.cell_of_heap R0 5
        have fd0 := Lib.frozen_of_heap R0 0
        have fd1 := Lib.frozen_of_heap R0 1
        have fd2 := Lib.frozen_of_heap R0 2
        have fd3 := Lib.frozen_of_heap R0 3
        have fd4 := Lib.frozen_of_heap R0 4
        have fd5 := Lib.frozen_of_heap R0 5
        simp at d0 d1 d2 d3 d4 d5
        clear R1 R0
        go_wp2
        refine bodyPost_ret (v := .tuple #[.agg #[.int .i64 form, .string (str host), .int .i64 port, .string ⟨#[47]⟩, .string (str q), .bool hq], .int .i64 0, .int .i64 0]) (by simp [results, Tryz.results25, go_sem, c0, c1, c2, c3, c4, c5, d0, d1, d2, d3, d4, d5]) rfl ?_
        exact ⟨rfl, (Below.setCell (p := ⟨w.heap.size + 1, 5, none⟩) (Below.setCell (p := ⟨w.heap.size + 1, 4, none⟩) (Below.setCell (p := ⟨w.heap.size + 1, 3, none⟩) (Below.setCell (p := ⟨w.heap.size + 1, 2, none⟩) (Below.setCell (p := ⟨w.heap.size + 1, 1, none⟩) (Below.setCell (p := ⟨w.heap.size + 1, 0, none⟩) (Below.setCell (p := ⟨w.heap.size, 3, none⟩) (Below.setCell (p := ⟨w.heap.size, 5, none⟩) (Below.setCell (p := ⟨w.heap.size, 4, none⟩) (Below.setCell (p := ⟨w.heap.size, 3, none⟩) (HB2.out.trans (HB3.out.mono (by omega))) (by simp) _) (by simp) _) (by simp) _) (by simp) _) (by simp) _) (by simp) _) (by simp) _) (by simp) _) (by simp) _) (by simp) _)⟩
      · have hsl : slashed p = p := by unfold slashed; rw [if_neg hp0]
        rw [hsl]
        rw [decide_eq_false hp0] at hpe
        clear hp0 hsl
        go_enter Tryz.func25, Tryz.ntmps25
        go_wp2_with fail
        rw [← hw2]
        refine (HCut.out _).mono ?_
        rintro e w3 ⟨rfl, hb3⟩
        have HB3 : Hid (Below w2.heap.size w2 w3) := hb3
        clear hb3
        go_wp2_with fail
        refine (HP.out _).mono ?_
        rintro e w4 ⟨rfl, hw4⟩
        rw [hw4]
        clear hw4
        go_wp2_with fail
        refine (HQ.out _).mono ?_
        rintro e w5 ⟨rfl, hw5⟩
        rw [hw5]
        clear hw5
        have R1 := (HB3.out.block _ (show w.heap.size + 1 < _ by omega)).trans HR1.out
        have R0 := (HB3.out.block _ (show w.heap.size < _ by omega)).trans HR0.out
        have c0 := Lib.cell_of_heap R1 0
        have c1 := Lib.cell_of_heap R1 1
        have c2 := Lib.cell_of_heap R1 2
        have c3 := Lib.cell_of_heap R1 3
        have c4 := Lib.cell_of_heap R1 4
        have c5 := Lib.cell_of_heap R1 5
        have fc0 := Lib.frozen_of_heap R1 0
        have fc1 := Lib.frozen_of_heap R1 1
        have fc2 := Lib.frozen_of_heap R1 2
        have fc3 := Lib.frozen_of_heap R1 3
        have fc4 := Lib.frozen_of_heap R1 4
        have fc5 := Lib.frozen_of_heap R1 5
        simp at c0 c1 c2 c3 c4 c5
        have d0 := Lib.cell_of_heap R0 0
        have d1 := Lib.cell_of_heap R0 1
        have d2 := Lib.cell_of_heap R0 2
        have d3 := Lib.cell_of_heap R0 3
        have d4 := Lib.cell_of_heap R0 4
        have d5 := Lib.cell_of_heap R0 5
        have fd0 := Lib.frozen_of_heap R0 0
        have fd1 := Lib.frozen_of_heap R0 1
        have fd2 := Lib.frozen_of_heap R0 2
        have fd3 := Lib.frozen_of_heap R0 3
        have fd4 := Lib.frozen_of_heap R0 4
        have fd5 := Lib.frozen_of_heap R0 5
        simp at d0 d1 d2 d3 d4 d5
        clear R1 R0
        go_wp2
        refine bodyPost_ret (v := .tuple #[.agg #[.int .i64 form, .string (str host), .int .i64 port, .string (str p), .string (str q), .bool hq], .int .i64 0, .int .i64 0]) (by simp [results, Tryz.results25, go_sem, c0, c1, c2, c3, c4, c5, d0, d1, d2, d3, d4, d5]) rfl ?_
        exact ⟨rfl, (Below.setCell (p := ⟨w.heap.size + 1, 5, none⟩) (Below.setCell (p := ⟨w.heap.size + 1, 4, none⟩) (Below.setCell (p := ⟨w.heap.size + 1, 3, none⟩) (Below.setCell (p := ⟨w.heap.size + 1, 2, none⟩) (Below.setCell (p := ⟨w.heap.size + 1, 1, none⟩) (Below.setCell (p := ⟨w.heap.size + 1, 0, none⟩) (Below.setCell (p := ⟨w.heap.size, 5, none⟩) (Below.setCell (p := ⟨w.heap.size, 4, none⟩) (Below.setCell (p := ⟨w.heap.size, 3, none⟩) (HB2.out.trans (HB3.out.mono (by omega))) (by simp) _) (by simp) _) (by simp) _) (by simp) _) (by simp) _) (by simp) _) (by simp) _) (by simp) _) (by simp) _)⟩
    · have hb' : (b2 == 0) = false := by simp [hb]
      simp only [ne_eq, not_true_eq_false, if_false, hb, not_false_eq_true, if_true]
      have e1 : IntKind.i64.wrap ((k : Int) + (p.length : Int)) = ((k + p.length : Nat) : Int) := by rw [IntKind.wrap_i64]; omega
      have e2 : IntKind.i64.wrap (((k + p.length : Nat) : Int) + 1) = ((k + p.length + 1 : Nat) : Int) := by rw [IntKind.wrap_i64]; omega
      have e3 : IntKind.i64.wrap (((k + p.length + 1 : Nat) : Int) + (b1 : Int)) = ((k + (p.length + 1 + b1) : Nat) : Int) := by rw [IntKind.wrap_i64]; omega
      unfold wrongP prV tgt
      dsimp only
      go_enter Tryz.func25, Tryz.ntmps25
      go_wp2_with fail
      rw [← hw2]
      refine (HCut.out _).mono ?_
      rintro e w3 ⟨rfl, hb3⟩
      have HB3 : Hid (Below w2.heap.size w2 w3) := hb3
      clear hb3
      go_wp2_with fail
      refine (HP.out _).mono ?_
      rintro e w4 ⟨rfl, hw4⟩
      rw [hw4]
      clear hw4
      go_wp2_with fail
      refine (HQ.out _).mono ?_
      rintro e w5 ⟨rfl, hw5⟩
      rw [hw5]
      clear hw5
      have R1 := (HB3.out.block _ (show w.heap.size + 1 < _ by omega)).trans HR1.out
      have R0 := (HB3.out.block _ (show w.heap.size < _ by omega)).trans HR0.out
      have c0 := Lib.cell_of_heap R1 0
      have c1 := Lib.cell_of_heap R1 1
      have c2 := Lib.cell_of_heap R1 2
      have c3 := Lib.cell_of_heap R1 3
      have c4 := Lib.cell_of_heap R1 4
      have c5 := Lib.cell_of_heap R1 5
      have fc0 := Lib.frozen_of_heap R1 0
      have fc1 := Lib.frozen_of_heap R1 1
      have fc2 := Lib.frozen_of_heap R1 2
      have fc3 := Lib.frozen_of_heap R1 3
      have fc4 := Lib.frozen_of_heap R1 4
      have fc5 := Lib.frozen_of_heap R1 5
      simp at c0 c1 c2 c3 c4 c5
      have d0 := Lib.cell_of_heap R0 0
      have d1 := Lib.cell_of_heap R0 1
      have d2 := Lib.cell_of_heap R0 2
      have d3 := Lib.cell_of_heap R0 3
      have d4 := Lib.cell_of_heap R0 4
      have d5 := Lib.cell_of_heap R0 5
      have fd0 := Lib.frozen_of_heap R0 0
      have fd1 := Lib.frozen_of_heap R0 1
      have fd2 := Lib.frozen_of_heap R0 2
      have fd3 := Lib.frozen_of_heap R0 3
      have fd4 := Lib.frozen_of_heap R0 4
      have fd5 := Lib.frozen_of_heap R0 5
      simp at d0 d1 d2 d3 d4 d5
      clear R1 R0
      go_wp2
      refine bodyPost_ret (v := .tuple #[.agg #[.int .i64 0, .string ⟨#[]⟩, .int .i64 0, .string ⟨#[]⟩, .string ⟨#[]⟩, .bool false], .int .i64 ((k + (p.length + 1 + b1) : Nat) : Int), .int .i64 b2]) (by simp [results, Tryz.results25, go_sem, c0, c1, c2, c3, c4, c5, d0, d1, d2, d3, d4, d5]; try omega) rfl ?_
      exact ⟨rfl, (Below.setCell (p := ⟨w.heap.size + 1, 5, none⟩) (Below.setCell (p := ⟨w.heap.size + 1, 4, none⟩) (Below.setCell (p := ⟨w.heap.size + 1, 3, none⟩) (Below.setCell (p := ⟨w.heap.size + 1, 2, none⟩) (Below.setCell (p := ⟨w.heap.size + 1, 1, none⟩) (Below.setCell (p := ⟨w.heap.size + 1, 0, none⟩) (HB2.out.trans (HB3.out.mono (by omega))) (by simp) _) (by simp) _) (by simp) _) (by simp) _) (by simp) _) (by simp) _)⟩
  · have ha' : (a2 == 0) = false := by simp [ha]
    simp only [ne_eq, ha, not_false_eq_true, if_true]
    have e1 : IntKind.i64.wrap ((k : Int) + (a1 : Int)) = ((k + a1 : Nat) : Int) := by rw [IntKind.wrap_i64]; omega
    unfold wrongP prV tgt
    dsimp only
    go_enter Tryz.func25, Tryz.ntmps25
    go_wp2_with fail
    rw [← hw2]
    refine (HCut.out _).mono ?_
    rintro e w3 ⟨rfl, hb3⟩
    have HB3 : Hid (Below w2.heap.size w2 w3) := hb3
    clear hb3
    go_wp2_with fail
    refine (HP.out _).mono ?_
    rintro e w4 ⟨rfl, hw4⟩
    rw [hw4]
    clear hw4
    have R1 := (HB3.out.block _ (show w.heap.size + 1 < _ by omega)).trans HR1.out
    have R0 := (HB3.out.block _ (show w.heap.size < _ by omega)).trans HR0.out
    have c0 := Lib.cell_of_heap R1 0
    have c1 := Lib.cell_of_heap R1 1
    have c2 := Lib.cell_of_heap R1 2
    have c3 := Lib.cell_of_heap R1 3
    have c4 := Lib.cell_of_heap R1 4
    have c5 := Lib.cell_of_heap R1 5
    have fc0 := Lib.frozen_of_heap R1 0
    have fc1 := Lib.frozen_of_heap R1 1
    have fc2 := Lib.frozen_of_heap R1 2
    have fc3 := Lib.frozen_of_heap R1 3
    have fc4 := Lib.frozen_of_heap R1 4
    have fc5 := Lib.frozen_of_heap R1 5
    simp at c0 c1 c2 c3 c4 c5
    have d0 := Lib.cell_of_heap R0 0
    have d1 := Lib.cell_of_heap R0 1
    have d2 := Lib.cell_of_heap R0 2
    have d3 := Lib.cell_of_heap R0 3
    have d4 := Lib.cell_of_heap R0 4
    have d5 := Lib.cell_of_heap R0 5
    have fd0 := Lib.frozen_of_heap R0 0
    have fd1 := Lib.frozen_of_heap R0 1
    have fd2 := Lib.frozen_of_heap R0 2
    have fd3 := Lib.frozen_of_heap R0 3
    have fd4 := Lib.frozen_of_heap R0 4
    have fd5 := Lib.frozen_of_heap R0 5
    simp at d0 d1 d2 d3 d4 d5
    clear R1 R0
    go_wp2
    refine bodyPost_ret (v := .tuple #[.agg #[.int .i64 0, .string ⟨#[]⟩, .int .i64 0, .string ⟨#[]⟩, .string ⟨#[]⟩, .bool false], .int .i64 ((k + a1 : Nat) : Int), .int .i64 a2]) (by simp [results, Tryz.results25, go_sem, c0, c1, c2, c3, c4, c5, d0, d1, d2, d3, d4, d5]; try omega) rfl ?_
    exact ⟨rfl, (Below.setCell (p := ⟨w.heap.size + 1, 5, none⟩) (Below.setCell (p := ⟨w.heap.size + 1, 4, none⟩) (Below.setCell (p := ⟨w.heap.size + 1, 3, none⟩) (Below.setCell (p := ⟨w.heap.size + 1, 2, none⟩) (Below.setCell (p := ⟨w.heap.size + 1, 1, none⟩) (Below.setCell (p := ⟨w.heap.size + 1, 0, none⟩) (HB2.out.trans (HB3.out.mono (by omega))) (by simp) _) (by simp) _) (by simp) _) (by simp) _) (by simp) _) (by simp) _)⟩

end Tg
end Go.Proofs.YtpnijigjlhfklaaGreatDoor
