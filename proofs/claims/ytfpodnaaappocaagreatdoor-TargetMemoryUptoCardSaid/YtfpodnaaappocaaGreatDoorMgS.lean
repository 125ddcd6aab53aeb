/- Several texts as one. -/
import Derived.Test.YtfpodnaaappocaaGreatDoorMgQ
import Derived.Test.YtfpodnaaappocaaGreatDoorMgR
/-
  target: Cut at one byte; parsePlace.
-/
set_option linter.unusedVariables false
set_option linter.unusedSimpArgs false
namespace Go.Proofs.YtfpodnaaappocaaGreatDoor
open Go.RowKit Go.Shelf
namespace Tg
open Oc

/-- The library's MaxLen lies. -/
def ML (w : World) : Prop := ∃ m : Int, w.cell? ⟨0, 0, none⟩ = some (.int .i64 m)
theorem ML.below {w w' : World} (h : ML w) (hb : Below w.heap.size w w') : ML w' := by
  obtain ⟨m, hm⟩ := h
  exact ⟨m, (hb.cell (p := ⟨0, 0, none⟩) (cell_lt hm)).trans hm⟩
theorem ML.drew {w : World} (h : ML w) : ML w.drew := h
theorem Cut_one (s : ByteArray) (b : UInt8) (hs : s.size ≤ 4000000000) (w : World) (h : ML w) :
    Calls Tryz.prog 42 #[.string s, .string ⟨#[b]⟩] w fun e w' => e = .returned (.tuple #[.string (str (cutA b s.data.toList)), .string (str (cutB b s.data.toList)), .bool (has b s.data.toList)]) ∧ Below w.heap.size w w' := by
  obtain ⟨m, hm⟩ := h
  refine (Tryz.strings_Cut s ⟨#[b]⟩ m w (by omega) hm).mono ?_
  rintro e w' ⟨rfl, n, rfl⟩
  rw [show (⟨#[b]⟩ : ByteArray).data.toList = [b] from rfl, cut_one]
  exact ⟨rfl, ⟨rfl, rfl, rfl, Nat.le_refl _, fun _ _ => rfl⟩⟩

theorem sg_at (p : Nat) (l : List UInt8) : ∀ x ∈ sg p l, x.at_ < p + l.length := by
  match l with
  | [] => rw [sg_nil]; simp
  | c :: t =>
    intro x hx
    by_cases h : trip (c :: t) = true
    · rw [sg_trip p _ h] at hx
      have h3 := trip_len h
      rcases List.mem_cons.1 hx with rfl | hx
      · simp
      · have := sg_at (p + 3) ((c :: t).drop 3) x hx
        rw [List.length_drop] at this
        omega
    · rw [sg_one p c t (by simpa using h)] at hx
      rcases List.mem_cons.1 hx with rfl | hx
      · simp
      · have := sg_at (p + 1) t x hx
        simp; omega
termination_by l.length
decreasing_by
  · simp; omega
  · simp
theorem chk_le (ok : UInt8 → Bool) (other : Int) (l : List UInt8) : (chk ok other l).1 ≤ l.length := by
  unfold chk
  split
  · rename_i x hx
    have := sg_at 0 l x (List.mem_of_find?_eq_some hx)
    dsimp only
    omega
  · exact Nat.zero_le _
/-- A target, as a value. -/
def tgt (form : Int) (host : List UInt8) (port : Int) (path query : List UInt8) (h : Bool) : Value := .agg #[.int .i64 form, .string (str host), .int .i64 port, .string (str path), .string (str query), .bool h]
def tgt0 : Value := tgt 0 [] 0 [] [] false
/-- Path and query of a target. -/
def placeR (r : List UInt8) : (Nat × Int) := if (chk pathOk 53 (cutA 63 r)).2 ≠ 0 then chk pathOk 53 (cutA 63 r) else if (chk queryOk 54 (cutB 63 r)).2 ≠ 0 then ((cutA 63 r).length + 1 + (chk queryOk 54 (cutB 63 r)).1, (chk queryOk 54 (cutB 63 r)).2) else (0, 0)
def slashed (p : List UInt8) : List UInt8 := if p = [] then [47] else p

set_option maxRecDepth 100000 in
set_option maxHeartbeats 4000000 in
theorem parsePlace_any (form port : Int) (host p0 q0 : List UInt8) (h0 : Bool) (s : ByteArray) (hs : s.size ≤ 4000000000) (k : Nat) (hk : k ≤ s.size) (w : World) (hm : ML w) :
    Calls Tryz.prog 45 #[tgt form host port p0 q0 h0, .string s, .int .i64 (k : Int)] w fun e w' =>
      e = .returned (.tuple (if (placeR (s.data.toList.drop k)).2 ≠ 0 then #[tgt0, .int .i64 (((k + (placeR (s.data.toList.drop k)).1 : Nat)) : Int), .int .i64 (placeR (s.data.toList.drop k)).2] else #[tgt form host port (slashed (cutA 63 (s.data.toList.drop k))) (cutB 63 (s.data.toList.drop k)) (has 63 (s.data.toList.drop k)), .int .i64 0, .int .i64 0])) ∧ Below w.heap.size w w' := by
  have hext : (s.extract k s.size).data.toList = s.data.toList.drop k := by
    rw [ext_list, List.take_of_length_le (by rw [List.length_drop, size_list]; omega)]
  have hes : (s.extract k s.size).size = s.size - k := by rw [← size_list, hext, List.length_drop, size_list]
  have HCut : Hid (∀ w, ML w → _) := fun w h => Cut_one (s.extract k s.size) 63 (by omega) w h
  rw [hext] at HCut
  have hla : (cutA 63 (s.data.toList.drop k)).length ≤ s.size := Nat.le_trans (cutA_len _ _) (by rw [List.length_drop, size_list]; omega)
  have hlb : (cutB 63 (s.data.toList.drop k)).length ≤ s.size := Nat.le_trans (cutB_len _ _) (by rw [List.length_drop, size_list]; omega)
  unfold placeR
  generalize cutA 63 (s.data.toList.drop k) = p at *
  generalize cutB 63 (s.data.toList.drop k) = q at *
  generalize has 63 (s.data.toList.drop k) = hq at *
  have HP : Hid (∀ w, _) := fun w => check_any (str p) (by rw [str_size]; omega) 15 pathOk ok_path path37 53 w
  have HQ : Hid (∀ w, _) := fun w => check_any (str q) (by rw [str_size]; omega) 31 queryOk ok_query query37 54 w
  rw [str_list] at HP HQ
  have hsp : (str p).size = p.length := str_size p
  have hca := chk_le pathOk 53 p
  have hcb := chk_le queryOk 54 q
  generalize chk pathOk 53 p = rp at *
  generalize chk queryOk 54 q = rq at *
  obtain ⟨a1, a2⟩ := rp
  obtain ⟨b1, b2⟩ := rq
  dsimp only at *
  clear hext hes
  unfold tgt tgt0 tgt
  obtain ⟨w2, hw2⟩ : ∃ w2, w2 = (w.alloc (.cells #[.int .i64 form, .string (str host), .int .i64 port, .string (str p0), .string (str q0), .bool h0] 63)).alloc (.cells #[.int .i64 0, .string ⟨#[]⟩, .int .i64 0, .string ⟨#[]⟩, .string ⟨#[]⟩, .bool false] 63) := ⟨_, rfl⟩
  have R0 : w2.heap[w.heap.size]? = some (.cells #[.int .i64 form, .string (str host), .int .i64 port, .string (str p0), .string (str q0), .bool h0] 63 (0, 0)) := by
    rw [hw2, Lib.alloc_old _ _ _ (by simp)]; exact World.alloc_heap_new w _
  have R1 : w2.heap[w.heap.size + 1]? = some (.cells #[.int .i64 0, .string ⟨#[]⟩, .int .i64 0, .string ⟨#[]⟩, .string ⟨#[]⟩, .bool false] 63 (0, 0)) := by
    rw [hw2]; have := World.alloc_heap_new (w.alloc (.cells #[.int .i64 form, .string (str host), .int .i64 port, .string (str p0), .string (str q0), .bool h0] 63)) (.cells #[.int .i64 0, .string ⟨#[]⟩, .int .i64 0, .string ⟨#[]⟩, .string ⟨#[]⟩, .bool false] 63); rwa [World.size_alloc] at this
  have hb2 : Below w.heap.size w w2 := by rw [hw2]; exact ((Below.refl _ w).alloc (Nat.le_refl _) _).alloc (by simp) _
  have hz2 : w2.heap.size = w.heap.size + 2 := by rw [hw2]; simp
  have HM2 : Hid (ML w2) := hm.below hb2
  have HR0 : Hid (_) := R0
  have HR1 : Hid (_) := R1
  have HB2 : Hid (Below w.heap.size w w2) := hb2
  clear R0 R1 hb2 hm
  by_cases ha : a2 = 0
  · subst ha
    by_cases hb : b2 = 0
    · subst hb
      simp only [ne_eq, not_true_eq_false, if_false]
      have hpe : (str p).toList.isEmpty = decide (p = []) := by rw [ByteArray.toList_eq, str_list]; cases p <;> simp
      by_cases hp0 : p = []
      · have hsl : slashed p = [47] := by unfold slashed; rw [if_pos hp0]
        rw [hsl]
        rw [decide_eq_true hp0] at hpe
        clear hp0 hsl
        go_enter Tryz.func45, Tryz.ntmps45
        go_wp2_with fail
        rw [← hw2]
        refine (HCut.out _ HM2.out).mono ?_
        rintro e w3 ⟨rfl, hb3⟩
        have HB3 : Hid (Below w2.heap.size w2 w3) := hb3
        clear hb3
        go_wp2_with fail
        refine (HP.out _).mono ?_
        rintro e w4 ⟨rfl, hb4⟩
        have HB4 : Hid (Below w2.heap.size w2 w4) := HB3.out.trans (hb4.mono HB3.out.size)
        clear hb4
        go_wp2_with fail
        refine (HQ.out _).mono ?_
        rintro e w5 ⟨rfl, hb5⟩
        have HB5 : Hid (Below w2.heap.size w2 w5) := HB4.out.trans (hb5.mono HB4.out.size)
        clear hb5
        have R1 := (HB5.out.block _ (show w.heap.size + 1 < _ by omega)).trans HR1.out
        have R0 := (HB5.out.block _ (show w.heap.size < _ by omega)).trans HR0.out
        have c0 := Lib.cell_of_heap R1 0
        have c1 := Lib.cell_of_heap R1 1
        have c2 := Lib.cell_of_heap R1 2
        have c3 := Lib.cell_of_heap R1 3
        have c4 := Lib.cell_of_heap R1 4
        have c5 := Lib.cell_of_heap R1 5
        have fc0 := Lib.frozen_of_heap R1 0
        have fc1 := Lib.frozen_of_heap R1 1
        have fc2 := Lib.frozen_of_heap R1 2
        have fc3 := Lib.frozen_of_heap R1 3
        have fc4 := Lib.frozen_of_heap R1 4
        have fc5 := Lib.frozen_of_heap R1 5
        simp at c0 c1 c2 c3 c4 c5
        have d0 := Lib.cell_of_heap R0 0
        have d1 := Lib.cell_of_heap R0 1
        have d2 := Lib.cell_of_heap R0 2
        have d3 := Lib.cell_of_heap R0 3
        have d4 := Lib.cell_of_heap R0 4
        have d5 := Lib.cell_of_heap R0 5
        have fd0 := Lib.frozen_of_heap R0 0
        have fd1 := Lib.frozen_of_heap R0 1
        have fd2 := Lib.frozen_of_heap R0 2
        have fd3 := Lib.frozen_of_heap R0 3
        have fd4 := Lib.frozen_of_heap R0 4
        have fd5 := Lib.frozen_of_heap R0 5
        simp at d0 d1 d2 d3 d4 d5
        clear R1 R0
        go_wp2
        refine bodyPost_ret (v := .tuple #[.agg #[.int .i64 form, .string (str host), .int .i64 port, .string ⟨#[47]⟩, .string (str q), .bool hq], .int .i64 0, .int .i64 0]) (by simp [results, Tryz.results45, go_sem, c0, c1, c2, c3, c4, c5, d0, d1, d2, d3, d4, d5]) rfl ?_
        exact ⟨rfl, (Below.setCell (p := ⟨w.heap.size + 1, 5, none⟩) (Below.setCell (p := ⟨w.heap.size + 1, 4, none⟩) (Below.setCell (p := ⟨w.heap.size + 1, 3, none⟩) (Below.setCell (p := ⟨w.heap.size + 1, 2, none⟩) (Below.setCell (p := ⟨w.heap.size + 1, 1, none⟩) (Below.setCell (p := ⟨w.heap.size + 1, 0, none⟩) (Below.setCell (p := ⟨w.heap.size + 0, 5, none⟩) (Below.setCell (p := ⟨w.heap.size + 0, 4, none⟩) (Below.setCell (p := ⟨w.heap.size + 0, 3, none⟩) (HB2.out.trans (HB5.out.mono (by omega))) (by simp) _) (by simp) _) (by simp) _) (by simp) _) (by simp) _) (by simp) _) (by simp) _) (by simp) _) (by simp) _)⟩
      · have hsl : slashed p = p := by unfold slashed; rw [if_neg hp0]
        rw [hsl]
        rw [decide_eq_false hp0] at hpe
        clear hp0 hsl
        go_enter Tryz.func45, Tryz.ntmps45
        go_wp2_with fail
        rw [← hw2]
        refine (HCut.out _ HM2.out).mono ?_
        rintro e w3 ⟨rfl, hb3⟩
        have HB3 : Hid (Below w2.heap.size w2 w3) := hb3
        clear hb3
        go_wp2_with fail
        refine (HP.out _).mono ?_
        rintro e w4 ⟨rfl, hb4⟩
        have HB4 : Hid (Below w2.heap.size w2 w4) := HB3.out.trans (hb4.mono HB3.out.size)
        clear hb4
        go_wp2_with fail
        refine (HQ.out _).mono ?_
        rintro e w5 ⟨rfl, hb5⟩
        have HB5 : Hid (Below w2.heap.size w2 w5) := HB4.out.trans (hb5.mono HB4.out.size)
        clear hb5
        have R1 := (HB5.out.block _ (show w.heap.size + 1 < _ by omega)).trans HR1.out
        have R0 := (HB5.out.block _ (show w.heap.size < _ by omega)).trans HR0.out
        have c0 := Lib.cell_of_heap R1 0
        have c1 := Lib.cell_of_heap R1 1
        have c2 := Lib.cell_of_heap R1 2
        have c3 := Lib.cell_of_heap R1 3
        have c4 := Lib.cell_of_heap R1 4
        have c5 := Lib.cell_of_heap R1 5
        have fc0 := Lib.frozen_of_heap R1 0
        have fc1 := Lib.frozen_of_heap R1 1
        have fc2 := Lib.frozen_of_heap R1 2
        have fc3 := Lib.frozen_of_heap R1 3
        have fc4 := Lib.frozen_of_heap R1 4
        have fc5 := Lib.frozen_of_heap R1 5
        simp at c0 c1 c2 c3 c4 c5
        have d0 := Lib.cell_of_heap R0 0
        have d1 := Lib.cell_of_heap R0 1
        have d2 := Lib.cell_of_heap R0 2
        have d3 := Lib.cell_of_heap R0 3
        have d4 := Lib.cell_of_heap R0 4
        have d5 := Lib.cell_of_heap R0 5
        have fd0 := Lib.frozen_of_heap R0 0
        have fd1 := Lib.frozen_of_heap R0 1
        have fd2 := Lib.frozen_of_heap R0 2
        have fd3 := Lib.frozen_of_heap R0 3
        have fd4 := Lib.frozen_of_heap R0 4
        have fd5 := Lib.frozen_of_heap R0 5
        simp at d0 d1 d2 d3 d4 d5
        clear R1 R0
        go_wp2
        refine bodyPost_ret (v := .tuple #[.agg #[.int .i64 form, .string (str host), .int .i64 port, .string (str p), .string (str q), .bool hq], .int .i64 0, .int .i64 0]) (by simp [results, Tryz.results45, go_sem, c0, c1, c2, c3, c4, c5, d0, d1, d2, d3, d4, d5]) rfl ?_
        exact ⟨rfl, (Below.setCell (p := ⟨w.heap.size + 1, 5, none⟩) (Below.setCell (p := ⟨w.heap.size + 1, 4, none⟩) (Below.setCell (p := ⟨w.heap.size + 1, 3, none⟩) (Below.setCell (p := ⟨w.heap.size + 1, 2, none⟩) (Below.setCell (p := ⟨w.heap.size + 1, 1, none⟩) (Below.setCell (p := ⟨w.heap.size + 1, 0, none⟩) (Below.setCell (p := ⟨w.heap.size + 0, 5, none⟩) (Below.setCell (p := ⟨w.heap.size + 0, 4, none⟩) (Below.setCell (p := ⟨w.heap.size + 0, 3, none⟩) (HB2.out.trans (HB5.out.mono (by omega))) (by simp) _) (by simp) _) (by simp) _) (by simp) _) (by simp) _) (by simp) _) (by simp) _) (by simp) _) (by simp) _)⟩
    · have hb2 : (b2 != 0) = true := by simp [hb]
      have hwr : ((k + (p.length + 1 + b1) : Nat) : Int) = (k : Int) + p.length + 1 + b1 := by omega
      simp only [hb, ne_eq, not_true_eq_false, not_false_eq_true, if_true, if_false, hwr]
      go_enter Tryz.func45, Tryz.ntmps45
      go_wp2_with fail
      rw [← hw2]
      refine (HCut.out _ HM2.out).mono ?_
      rintro e w3 ⟨rfl, hb3⟩
      have HB3 : Hid (Below w2.heap.size w2 w3) := hb3
      clear hb3
      go_wp2_with fail
      refine (HP.out _).mono ?_
      rintro e w4 ⟨rfl, hb4⟩
      have HB4 : Hid (Below w2.heap.size w2 w4) := HB3.out.trans (hb4.mono HB3.out.size)
      clear hb4
      go_wp2_with fail
      refine (HQ.out _).mono ?_
      rintro e w5 ⟨rfl, hb5⟩
      have HB5 : Hid (Below w2.heap.size w2 w5) := HB4.out.trans (hb5.mono HB4.out.size)
      clear hb5
      have R1 := (HB5.out.block _ (show w.heap.size + 1 < _ by omega)).trans HR1.out
      have c0 := Lib.cell_of_heap R1 0
      have c1 := Lib.cell_of_heap R1 1
      have c2 := Lib.cell_of_heap R1 2
      have c3 := Lib.cell_of_heap R1 3
      have c4 := Lib.cell_of_heap R1 4
      have c5 := Lib.cell_of_heap R1 5
      have fc0 := Lib.frozen_of_heap R1 0
      have fc1 := Lib.frozen_of_heap R1 1
      have fc2 := Lib.frozen_of_heap R1 2
      have fc3 := Lib.frozen_of_heap R1 3
      have fc4 := Lib.frozen_of_heap R1 4
      have fc5 := Lib.frozen_of_heap R1 5
      simp at c0 c1 c2 c3 c4 c5
      clear R1
      go_wp2
      refine bodyPost_ret (v := .tuple #[.agg #[.int .i64 0, .string ⟨#[]⟩, .int .i64 0, .string ⟨#[]⟩, .string ⟨#[]⟩, .bool false], .int .i64 ((k : Int) + p.length + 1 + b1), .int .i64 b2]) (by simp [results, Tryz.results45, go_sem, c0, c1, c2, c3, c4, c5]) rfl ?_
      exact ⟨rfl, (Below.setCell (p := ⟨w.heap.size + 1, 5, none⟩) (Below.setCell (p := ⟨w.heap.size + 1, 4, none⟩) (Below.setCell (p := ⟨w.heap.size + 1, 3, none⟩) (Below.setCell (p := ⟨w.heap.size + 1, 2, none⟩) (Below.setCell (p := ⟨w.heap.size + 1, 1, none⟩) (Below.setCell (p := ⟨w.heap.size + 1, 0, none⟩) (HB2.out.trans (HB5.out.mono (by omega))) (by simp) _) (by simp) _) (by simp) _) (by simp) _) (by simp) _) (by simp) _)⟩
  · have ha2 : (a2 != 0) = true := by simp [ha]
    have hwr : ((k + a1 : Nat) : Int) = (k : Int) + a1 := by omega
    simp only [if_pos ha, ne_eq, ha, not_false_eq_true, if_true, hwr]
    go_enter Tryz.func45, Tryz.ntmps45
    go_wp2_with fail
    rw [← hw2]
    refine (HCut.out _ HM2.out).mono ?_
    rintro e w3 ⟨rfl, hb3⟩
    have HB3 : Hid (Below w2.heap.size w2 w3) := hb3
    clear hb3
    go_wp2_with fail
    refine (HP.out _).mono ?_
    rintro e w4 ⟨rfl, hb4⟩
    have HB4 : Hid (Below w2.heap.size w2 w4) := HB3.out.trans (hb4.mono HB3.out.size)
    clear hb4
    have R1 := (HB4.out.block _ (show w.heap.size + 1 < _ by omega)).trans HR1.out
    have c0 := Lib.cell_of_heap R1 0
    have c1 := Lib.cell_of_heap R1 1
    have c2 := Lib.cell_of_heap R1 2
    have c3 := Lib.cell_of_heap R1 3
    have c4 := Lib.cell_of_heap R1 4
    have c5 := Lib.cell_of_heap R1 5
    have fc0 := Lib.frozen_of_heap R1 0
    have fc1 := Lib.frozen_of_heap R1 1
    have fc2 := Lib.frozen_of_heap R1 2
    have fc3 := Lib.frozen_of_heap R1 3
    have fc4 := Lib.frozen_of_heap R1 4
    have fc5 := Lib.frozen_of_heap R1 5
    simp at c0 c1 c2 c3 c4 c5
    clear R1
    go_wp2
    refine bodyPost_ret (v := .tuple #[.agg #[.int .i64 0, .string ⟨#[]⟩, .int .i64 0, .string ⟨#[]⟩, .string ⟨#[]⟩, .bool false], .int .i64 ((k : Int) + a1), .int .i64 a2]) (by simp [results, Tryz.results45, go_sem, c0, c1, c2, c3, c4, c5]) rfl ?_
    exact ⟨rfl, (Below.setCell (p := ⟨w.heap.size + 1, 5, none⟩) (Below.setCell (p := ⟨w.heap.size + 1, 4, none⟩) (Below.setCell (p := ⟨w.heap.size + 1, 3, none⟩) (Below.setCell (p := ⟨w.heap.size + 1, 2, none⟩) (Below.setCell (p := ⟨w.heap.size + 1, 1, none⟩) (Below.setCell (p := ⟨w.heap.size + 1, 0, none⟩) (HB2.out.trans (HB4.out.mono (by omega))) (by simp) _) (by simp) _) (by simp) _) (by simp) _) (by simp) _) (by simp) _)⟩

end Tg
end Go.Proofs.YtfpodnaaappocaaGreatDoor

/-
  target: the iterator over the pieces of a text.
-/
set_option linter.unusedVariables false
set_option linter.unusedSimpArgs false
namespace Go.Proofs.YtfpodnaaappocaaGreatDoor
open Go.RowKit Go.Shelf
attribute [local go_sem] Oper.semAt_some
namespace Tg
open Oc

/-- A piece. -/
structure Pz (M : Nat) where
  z : List UInt8
  le : z.length ≤ M
def encP {M : Nat} (x : Pz M) : Array Value := #[.string (str x.z)]
/-- Three blocks lie as they lay. -/
def Keep3 (a b c : Nat) (A B : World) : Prop := Keep a A B ∧ Keep b A B ∧ Keep c A B
theorem keep3_t {a b c : Nat} {A B C : World} (h : Keep3 a b c A B) (k : Keep3 a b c B C) : Keep3 a b c A C := ⟨h.1.trans k.1, h.2.1.trans k.2.1, h.2.2.trans k.2.2⟩
theorem keep3_b {a b c : Nat} {w : World} (ha : a < w.heap.size) (hb : b < w.heap.size) (hc : c < w.heap.size) (W : World) (l : Nat) (o o' : Obj) (hl : w.heap.size ≤ l) (h : W.heap[l]? = some o) (hcc : o.isCells = false) (hw : o.isWalk = false) : Keep3 a b c W (W.putObj l o') :=
  ⟨keepK_b ha W l o o' hl h hcc hw, keepK_b hb W l o o' hl h hcc hw, keepK_b hc W l o o' hl h hcc hw⟩
theorem keep3_fr {a b c B d : Nat} {A C : World} (h : Fr B d A C) (ha : a < B) (hb : b < B) (hc : c < B) (ha' : a ≠ d) (hb' : b ≠ d) (hc' : c ≠ d) : Keep3 a b c A C := ⟨h.keep ha ha', h.keep hb hb', h.keep hc hc'⟩
theorem ML.keep {A B : World} (h : ML A) (k : Keep 0 A B) : ML B := by
  obtain ⟨m, hm⟩ := h
  exact ⟨m, (k.cell 0).trans hm⟩
theorem ML.lt {w : World} (h : ML w) : 0 < w.heap.size := by
  obtain ⟨m, hm⟩ := h
  exact cell_lt hm

set_option maxRecDepth 100000 in
set_option maxHeartbeats 2000000 in
theorem pieces1_in (n : Nat) (l Bs Bp : Nat) (b : UInt8) (s : ByteArray) (hs : s.size ≤ 4000000000) (J Jx : List (Pz s.size) → World → Prop)
    (hJb : ∀ pre W W', J pre W → Below W.heap.size W W' → J pre W')
    (hY : ∀ pre x W, J pre W → pre.length < s.size + 1 → YieldAt Fence.wide (n - 1) Tryz.prog l (encP x) W fun e W' =>
      (e = .returned (.bool true) ∧ J (pre ++ [x]) W' ∧ Keep3 Bs Bp 0 W W') ∨ (e = .returned (.bool false) ∧ Jx (pre ++ [x]) W'))
    (W : World) (hm : ML W) (hBs : W.cell? ⟨Bs, 0, none⟩ = some (.string s)) (hBp : W.cell? ⟨Bp, 0, none⟩ = some (.string ⟨#[b]⟩)) (h0 : J [] W) :
    CallsIn Fence.wide n Tryz.prog 41 #[.func (.yield l) #[] #[], .pointer (some ⟨Bs, 0, none⟩), .pointer (some ⟨Bp, 0, none⟩)] W fun e W' => (∃ v, e = .returned v) ∧
      ((∃ ys : List (Pz s.size), ys.map Pz.z = splitB b s.data.toList ∧ J ys W') ∨ (∃ pre : List (Pz s.size), (∃ rest, pre.map Pz.z ++ rest = splitB b s.data.toList) ∧ Jx pre W')) := by
  refine callsIn_of_wp Tryz.func41 rfl trivial ?_ rfl
  simp only [Tryz.ntmps41, List.size_toArray, List.length_cons, List.length_nil, Nat.reduceAdd, Nat.reduceSub, Array.replicate_succ, Array.replicate_zero, List.push_toArray, List.append_toArray, List.nil_append, List.cons_append]
  have HM : Hid (ML W) := hm
  have HC : Hid (∀ (t : ByteArray), t.size ≤ s.size → ∀ W, ML W → _) := fun t ht W h => Cut_one t b (by omega) W h
  clear hm
  have hlb := cell_lt hBs
  have hlp := cell_lt hBp
  have HG : Hid (0 < W.heap.size) := HM.out.lt
  gi_wp2_with (refine ⟨trivial, (fun h => by cases h), ?_⟩; refine (callsIn_wide.2 (HC.out s (Nat.le_refl _) _ HM.out)).mono ?_; rintro e w1 ⟨rfl, hb1⟩)
  have c1 := (hb1.cell (p := ⟨Bs, 0, none⟩) hlb).trans hBs
  have c2 := (hb1.cell (p := ⟨Bp, 0, none⟩) hlp).trans hBp
  have HM1 : Hid (ML w1) := HM.out.below hb1
  have hJ1 := hJb _ _ _ h0 hb1
  clear hb1
  gi_loopw [4, 5, 6] (fun pv rv mv wr => ∃ cur : List UInt8, pv = .string (str (cutA b cur)) ∧ rv = .string (str (cutB b cur)) ∧ mv = .bool (has b cur) ∧ ∃ pre : List (Pz s.size), Hid (pre.map Pz.z ++ splitB b cur = splitB b s.data.toList) ∧ Hid (cur.length ≤ s.size) ∧ J pre wr ∧ wr.cell? ⟨Bp, 0, none⟩ = some (.string ⟨#[b]⟩) ∧ wr.cell? ⟨Bs, 0, none⟩ = some (.string s) ∧ Hid (ML wr))
    (fun _ rv mv _ => (match mv with | .bool true => 1 | _ => 0) + match rv with | .string r => r.size | _ => 0)
  case atStart => exact ⟨s.data.toList, rfl, rfl, rfl, [], (rfl : ([] : List (Pz s.size)).map Pz.z ++ splitB b s.data.toList = _), (by rw [size_list]; exact Nat.le_refl _ : s.data.toList.length ≤ s.size), hJ1, c2, c1, HM1⟩
  case round =>
    obtain ⟨cur, rfl, rfl, rfl, pre, hpre, hcl, hJs, hcp, hcs, hml⟩ := hrel
    have hal : (cutA b cur).length ≤ s.size := Nat.le_trans (cutA_len b cur) hcl.out
    have hplen : pre.length < s.size + 1 := by
      have h1 := congrArg List.length hpre.out
      have h2 := split_len b s.data.toList
      have h3 := splitB_ne b cur
      rw [List.length_append, List.length_map] at h1
      have h4 : 0 < (splitB b cur).length := List.length_pos_iff.2 h3
      rw [size_list] at h2
      omega
    obtain ⟨fn, tmps, assign, body, hy, hR⟩ := hY pre ⟨cutA b cur, hal⟩ wr hJs hplen
    unfold encP at hy
    dsimp only at hy
    have hsp := split_cut b cur
    have hbl : (cutB b cur).length ≤ cur.length := cutB_len b cur
    have HSP : Hid (_) := hsp
    clear hsp
    have hdec : has b cur = true → (cutB b cur).length < cur.length := by
      intro h
      have := congrArg List.length (cut_app b cur h)
      rw [List.length_append, List.length_cons] at this
      omega
    cases hh : has b cur with
    | true =>
      have hdl := hdec hh
      rw [hh] at HSP
      have HSP2 : Hid (splitB b cur = cutA b cur :: splitB b (cutB b cur)) := (by have := HSP.out; rw [if_pos rfl] at this; exact this : _ = _)
      have HB : Hid (_) := hdl
      clear hdec hdl HSP
      generalize cutA b cur = A at *
      generalize hB : cutB b cur = B at *
      have hBs' : (str B).size ≤ s.size := by rw [str_size]; have := hcl.out; have := HB.out; omega
      gi_wp2
      refine ⟨(fun h => by cases h), hR.mono ?_⟩
      rintro e W3 (⟨rfl, hJ3, hk3⟩ | ⟨rfl, hJx3⟩)
      · have d1 : W3.cell? ⟨Bs, 0, none⟩ = some (.string s) := (hk3.1.cell _).trans hcs
        have d2 : W3.cell? ⟨Bp, 0, none⟩ = some (.string ⟨#[b]⟩) := (hk3.2.1.cell _).trans hcp
        have HM3 : Hid (ML W3) := hml.out.keep hk3.2.2
        have e1 := cell_lt d1
        have e2 := cell_lt d2
        gi_wp2_with (refine ⟨trivial, (fun h => by cases h), ?_⟩; refine (callsIn_wide.2 (HC.out (str B) hBs' _ HM3.out)).mono ?_; rintro e W4 ⟨rfl, hb4⟩)
        have f1 := (hb4.cell (p := ⟨Bs, 0, none⟩) e1).trans d1
        have f2 := (hb4.cell (p := ⟨Bp, 0, none⟩) e2).trans d2
        have HM4 : Hid (ML W4) := HM3.out.below hb4
        have hJ4 := hJb _ _ _ hJ3 hb4
        have HP1 : Hid ((pre ++ [(⟨A, hal⟩ : Pz s.size)]).map Pz.z ++ splitB b B = splitB b s.data.toList) := by
          show _ = _
          rw [List.map_append, List.append_assoc]
          have := hpre.out
          rw [HSP2.out] at this
          exact this
        have HP2 : Hid (B.length ≤ s.size) := by rw [str_size] at hBs'; exact hBs'
        go_roundw
        case rel => exact ⟨B, by rw [str_list], by rw [str_list], by rw [str_list], pre ++ [⟨A, hal⟩], HP1, HP2, hJ4, f2, f1, HM4⟩
        case measure =>
          rw [str_list]
          have h1 := cutB_len b B
          cases hb : has b B with
          | true =>
            have := congrArg List.length (cut_app b B hb)
            rw [List.length_append, List.length_cons] at this
            simp [str_size]
            omega
          | false => simp [str_size]; omega
      · gi_wp2
        go_end0
        exact ⟨⟨_, rfl⟩, .inr ⟨_, ⟨splitB b B, by rw [List.map_append, List.append_assoc]; have := hpre.out; rw [HSP2.out] at this; exact this⟩, hJx3⟩⟩
    | false =>
      rw [hh] at HSP
      have HSP2 : Hid (splitB b cur = [cutA b cur]) := (by have := HSP.out; rw [if_neg (by simp)] at this; exact this : _ = _)
      clear hdec HSP
      generalize cutA b cur = A at *
      generalize cutB b cur = B at *
      gi_wp2
      refine ⟨(fun h => by cases h), hR.mono ?_⟩
      rintro e W3 (⟨rfl, hJ3, hk3⟩ | ⟨rfl, hJx3⟩)
      · gi_wp2
        go_end0
        exact ⟨⟨_, rfl⟩, .inl ⟨_, by rw [List.map_append]; have := hpre.out; rw [HSP2.out] at this; exact this, hJ3⟩⟩
      · gi_wp2
        go_end0
        exact ⟨⟨_, rfl⟩, .inr ⟨_, ⟨[], by rw [List.append_nil, List.map_append]; have := hpre.out; rw [HSP2.out] at this; exact this⟩, hJx3⟩⟩

end Tg
end Go.Proofs.YtfpodnaaappocaaGreatDoor
