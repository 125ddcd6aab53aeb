/-
  target: Cut at one byte; parsePlace.
-/
import Derived.Test.YtpnijigjlhfklaaGreatDoorGChk
import Derived.Test.YtpnijigjlhfklaaGreatDoorGPl4
set_option linter.unusedVariables false
set_option linter.unusedSimpArgs false
namespace Go.Proofs.YtpnijigjlhfklaaGreatDoor
open Go.RowKit Go.Shelf
namespace Tg
open Oc

/-- The library's MaxLen lies. -/
def ML (w : World) : Prop := ∃ m : Int, w.cell? ⟨0, 0, none⟩ = some (.int .i64 m)
theorem ML.below {w w' : World} (h : ML w) (hb : Below w.heap.size w w') : ML w' := by
  obtain ⟨m, hm⟩ := h
  exact ⟨m, (hb.cell (p := ⟨0, 0, none⟩) (cell_lt hm)).trans hm⟩
theorem ML.drew {w : World} (h : ML w) : ML w.drew := h
theorem Cut_one (s : ByteArray) (b : UInt8) (hs : s.size ≤ 4000000000) (w : World) (h : ML w) :
    Calls Tryz.prog 45 #[.string s, .string ⟨#[b]⟩] w fun e w' => e = .returned (.tuple #[.string (str (cutA b s.data.toList)), .string (str (cutB b s.data.toList)), .bool (has b s.data.toList)]) ∧ Below w.heap.size w w' := by
  obtain ⟨m, hm⟩ := h
  refine (Tryz.strings_Cut s ⟨#[b]⟩ m w (by omega) hm).mono ?_
  rintro e w' ⟨rfl, n, rfl⟩
  rw [show (⟨#[b]⟩ : ByteArray).data.toList = [b] from rfl, cut_one]
  exact ⟨rfl, ⟨rfl, rfl, rfl, Nat.le_refl _, fun _ _ => rfl⟩⟩

theorem sg_at (p : Nat) (l : List UInt8) : ∀ x ∈ sg p l, x.at_ < p + l.length := by
  match l with
  | [] => rw [sg_nil]; simp
  | c :: t =>
    intro x hx
    by_cases h : trip (c :: t) = true
    · rw [sg_trip p _ h] at hx
      have h3 := trip_len h
      rcases List.mem_cons.1 hx with rfl | hx
      · simp
      · have := sg_at (p + 3) ((c :: t).drop 3) x hx
        rw [List.length_drop] at this
        omega
    · rw [sg_one p c t (by simpa using h)] at hx
      rcases List.mem_cons.1 hx with rfl | hx
      · simp
      · have := sg_at (p + 1) t x hx
        simp; omega
termination_by l.length
decreasing_by
  · simp; omega
  · simp
theorem chk_le (ok : UInt8 → Bool) (other : Int) (l : List UInt8) : (chk ok other l).1 ≤ l.length := by
  unfold chk
  split
  · rename_i x hx
    have := sg_at 0 l x (List.mem_of_find?_eq_some hx)
    dsimp only
    omega
  · exact Nat.zero_le _
/-- A target, as a value. -/
def tgt (form : Int) (host : List UInt8) (port : Int) (path query : List UInt8) (h : Bool) : Value := .agg #[.int .i64 form, .string (str host), .int .i64 port, .string (str path), .string (str query), .bool h]
def tgt0 : Value := tgt 0 [] 0 [] [] false
/-- Path and query of a target. -/
def placeR (r : List UInt8) : (Nat × Int) := if (chk pathOk 53 (cutA 63 r)).2 ≠ 0 then chk pathOk 53 (cutA 63 r) else if (chk queryOk 54 (cutB 63 r)).2 ≠ 0 then ((cutA 63 r).length + 1 + (chk queryOk 54 (cutB 63 r)).1, (chk queryOk 54 (cutB 63 r)).2) else (0, 0)
def slashed (p : List UInt8) : List UInt8 := if p = [] then [47] else p

set_option maxRecDepth 100000 in
set_option maxHeartbeats 4000000 in
theorem parsePlace_any (form port : Int) (host p0 q0 : List UInt8) (h0 : Bool) (s : ByteArray) (hs : s.size ≤ 4000000000) (k : Nat) (hk : k ≤ s.size) (w : World) (hm : ML w) :
    Calls Tryz.prog 21 #[tgt form host port p0 q0 h0, .string s, .int .i64 (k : Int)] w fun e w' =>
      e = .returned (.tuple (if (placeR (s.data.toList.drop k)).2 ≠ 0 then #[tgt0, .int .i64 (((k + (placeR (s.data.toList.drop k)).1 : Nat)) : Int), .int .i64 (placeR (s.data.toList.drop k)).2] else #[tgt form host port (slashed (cutA 63 (s.data.toList.drop k))) (cutB 63 (s.data.toList.drop k)) (has 63 (s.data.toList.drop k)), .int .i64 0, .int .i64 0])) ∧ Below w.heap.size w w' := by
  have hext : (s.extract k s.size).data.toList = s.data.toList.drop k := by
    rw [ext_list, List.take_of_length_le (by rw [List.length_drop, size_list]; omega)]
  have hes : (s.extract k s.size).size = s.size - k := by rw [← size_list, hext, List.length_drop, size_list]
  have HCut : Hid (∀ w, ML w → _) := fun w h => Cut_one (s.extract k s.size) 63 (by omega) w h
  rw [hext] at HCut
  have hla : (cutA 63 (s.data.toList.drop k)).length ≤ s.size := Nat.le_trans (cutA_len _ _) (by rw [List.length_drop, size_list]; omega)
  have hlb : (cutB 63 (s.data.toList.drop k)).length ≤ s.size := Nat.le_trans (cutB_len _ _) (by rw [List.length_drop, size_list]; omega)
  unfold placeR
  generalize cutA 63 (s.data.toList.drop k) = p at *
  generalize cutB 63 (s.data.toList.drop k) = q at *
  generalize has 63 (s.data.toList.drop k) = hq at *
  have HP : Hid (∀ w, _) := fun w => check_any (str p) (by rw [str_size]; omega) 15 pathOk ok_path path37 53 w
  have HQ : Hid (∀ w, _) := fun w => check_any (str q) (by rw [str_size]; omega) 31 queryOk ok_query query37 54 w
  rw [str_list] at HP HQ
  have hsp : (str p).size = p.length := str_size p
  have hca := chk_le pathOk 53 p
  have hcb := chk_le queryOk 54 q
  generalize chk pathOk 53 p = rp at *
  generalize chk queryOk 54 q = rq at *
  obtain ⟨a1, a2⟩ := rp
  obtain ⟨b1, b2⟩ := rq
  dsimp only at *
  clear hext hes
  unfold tgt tgt0 tgt
  obtain ⟨w2, hw2⟩ : ∃ w2, w2 = (w.alloc (.cells #[.int .i64 form, .string (str host), .int .i64 port, .string (str p0), .string (str q0), .bool h0] 23)).alloc (.cells #[.int .i64 0, .string ⟨#[]⟩, .int .i64 0, .string ⟨#[]⟩, .string ⟨#[]⟩, .bool false] 23) := ⟨_, rfl⟩
  have R0 : w2.heap[w.heap.size]? = some (.cells #[.int .i64 form, .string (str host), .int .i64 port, .string (str p0), .string (str q0), .bool h0] 23 (0, 0)) := by
    rw [hw2, Lib.alloc_old _ _ _ (by simp)]; exact World.alloc_heap_new w _
  have R1 : w2.heap[w.heap.size + 1]? = some (.cells #[.int .i64 0, .string ⟨#[]⟩, .int .i64 0, .string ⟨#[]⟩, .string ⟨#[]⟩, .bool false] 23 (0, 0)) := by
    rw [hw2]; have := World.alloc_heap_new (w.alloc (.cells #[.int .i64 form, .string (str host), .int .i64 port, .string (str p0), .string (str q0), .bool h0] 23)) (.cells #[.int .i64 0, .string ⟨#[]⟩, .int .i64 0, .string ⟨#[]⟩, .string ⟨#[]⟩, .bool false] 23); rwa [World.size_alloc] at this
  have hb2 : Below w.heap.size w w2 := by rw [hw2]; exact ((Below.refl _ w).alloc (Nat.le_refl _) _).alloc (by simp) _
  have hz2 : w2.heap.size = w.heap.size + 2 := by rw [hw2]; simp
  have HM2 : Hid (ML w2) := hm.below hb2
  have HR0 : Hid (_) := R0
  have HR1 : Hid (_) := R1
  have HB2 : Hid (Below w.heap.size w w2) := hb2
  clear R0 R1 hb2 hm
  by_cases ha : a2 = 0
  · subst ha
    by_cases hb : b2 = 0
    · subst hb
      simp only [ne_eq, not_true_eq_false, if_false]
      have hpe : (str p).toList.isEmpty = decide (p = []) := by rw [ByteArray.toList_eq, str_list]; cases p <;> simp
      by_cases hp0 : p = []
      · have hsl : slashed p = [47] := by unfold slashed; rw [if_pos hp0]
        rw [hsl]
        rw [decide_eq_true hp0] at hpe
        clear hp0 hsl
        go_enter Tryz.func21, Tryz.ntmps21
        go_wp2_with fail
        rw [← hw2]
        refine (HCut.out _ HM2.out).mono ?_
        rintro e w3 ⟨rfl, hb3⟩
        have HB3 : Hid (Below w2.heap.size w2 w3) := hb3
        clear hb3
        go_wp2_with fail
        refine (HP.out _).mono ?_
        rintro e w4 ⟨rfl, hb4⟩
        have HB4 : Hid (Below w2.heap.size w2 w4) := HB3.out.trans (hb4.mono HB3.out.size)
        clear hb4
        go_wp2_with fail
        refine (HQ.out _).mono ?_
        rintro e w5 ⟨rfl, hb5⟩
        have HB5 : Hid (Below w2.heap.size w2 w5) := HB4.out.trans (hb5.mono HB4.out.size)
        clear hb5
        have R1 := (HB5.out.block _ (show w.heap.size + 1 < _ by omega)).trans HR1.out
        have R0 := (HB5.out.block _ (show w.heap.size < _ by omega)).trans HR0.out
        have c0 := Lib.cell_of_heap R1 0
        have c1 := Lib.cell_of_heap R1 1
        have c2 := Lib.cell_of_heap R1 2
        have c3 := Lib.cell_of_heap R1 3
        have c4 := Lib.cell_of_heap R1 4
        have c5 := Lib.cell_of_heap R1 5
        have fc0 := Lib.frozen_of_heap R1 0
        have fc1 := Lib.frozen_of_heap R1 1
        have fc2 := Lib.frozen_of_heap R1 2
        have fc3 := Lib.frozen_of_heap R1 3
        have fc4 := Lib.frozen_of_heap R1 4
        have fc5 := Lib.frozen_of_heap R1 5
        simp at c0 c1 c2 c3 c4 c5
        have d0 := Lib.cell_of_heap R0 0
        have d1 := Lib.cell_of_heap R0 1
        have d2 := Lib.cell_of_heap R0 2
        have d3 := Lib.cell_of_heap R0 3
        have d4 := Lib.cell_of_heap R0 4
        have d5 := Lib.cell_of_heap R0 5
        have fd0 := Lib.frozen_of_heap R0 0
        have fd1 := Lib.frozen_of_heap R0 1
        have fd2 := Lib.frozen_of_heap R0 2
        have fd3 := Lib.frozen_of_heap R0 3
        have fd4 := Lib.frozen_of_heap R0 4
        have fd5 := Lib.frozen_of_heap R0 5
        simp at d0 d1 d2 d3 d4 d5
        clear R1 R0
        go_wp2
        refine bodyPost_ret (v := .tuple #[.agg #[.int .i64 form, .string (str host), .int .i64 port, .string ⟨#[47]⟩, .string (str q), .bool hq], .int .i64 0, .int .i64 0]) (by simp [results, Tryz.results21, go_sem, c0, c1, c2, c3, c4, c5, d0, d1, d2, d3, d4, d5]) rfl ?_
        exact ⟨rfl, (Below.setCell (p := ⟨w.heap.size + 1, 5, none⟩) (Below.setCell (p := ⟨w.heap.size + 1, 4, none⟩) (Below.setCell (p := ⟨w.heap.size + 1, 3, none⟩) (Below.setCell (p := ⟨w.heap.size + 1, 2, none⟩) (Below.setCell (p := ⟨w.heap.size + 1, 1, none⟩) (Below.setCell (p := ⟨w.heap.size + 1, 0, none⟩) (Below.setCell (p := ⟨w.heap.size + 0, 5, none⟩) (Below.setCell (p := ⟨w.heap.size + 0, 4, none⟩) (Below.setCell (p := ⟨w.heap.size + 0, 3, none⟩) (HB2.out.trans (HB5.out.mono (by omega))) (by simp) _) (by simp) _) (by simp) _) (by simp) _) (by simp) _) (by simp) _) (by simp) _) (by simp) _) (by simp) _)⟩
      · have hsl : slashed p = p := by unfold slashed; rw [if_neg hp0]
        rw [hsl]
        rw [decide_eq_false hp0] at hpe
        clear hp0 hsl
        go_enter Tryz.func21, Tryz.ntmps21
        go_wp2_with fail
        rw [← hw2]
        refine (HCut.out _ HM2.out).mono ?_
        rintro e w3 ⟨rfl, hb3⟩
        have HB3 : Hid (Below w2.heap.size w2 w3) := hb3
        clear hb3
        go_wp2_with fail
        refine (HP.out _).mono ?_
        rintro e w4 ⟨rfl, hb4⟩
        have HB4 : Hid (Below w2.heap.size w2 w4) := HB3.out.trans (hb4.mono HB3.out.size)
        clear hb4
        go_wp2_with fail
        refine (HQ.out _).mono ?_
        rintro e w5 ⟨rfl, hb5⟩
        have HB5 : Hid (Below w2.heap.size w2 w5) := HB4.out.trans (hb5.mono HB4.out.size)
        clear hb5
        have R1 := (HB5.out.block _ (show w.heap.size + 1 < _ by omega)).trans HR1.out
        have R0 := (HB5.out.block _ (show w.heap.size < _ by omega)).trans HR0.out
        have c0 := Lib.cell_of_heap R1 0
        have c1 := Lib.cell_of_heap R1 1
        have c2 := Lib.cell_of_heap R1 2
        have c3 := Lib.cell_of_heap R1 3
        have c4 := Lib.cell_of_heap R1 4
        have c5 := Lib.cell_of_heap R1 5
        have fc0 := Lib.frozen_of_heap R1 0
        have fc1 := Lib.frozen_of_heap R1 1
        have fc2 := Lib.frozen_of_heap R1 2
        have fc3 := Lib.frozen_of_heap R1 3
        have fc4 := Lib.frozen_of_heap R1 4
        have fc5 := Lib.frozen_of_heap R1 5
        simp at c0 c1 c2 c3 c4 c5
        have d0 := Lib.cell_of_heap R0 0
        have d1 := Lib.cell_of_heap R0 1
        have d2 := Lib.cell_of_heap R0 2
        have d3 := Lib.cell_of_heap R0 3
        have d4 := Lib.cell_of_heap R0 4
        have d5 := Lib.cell_of_heap R0 5
        have fd0 := Lib.frozen_of_heap R0 0
        have fd1 := Lib.frozen_of_heap R0 1
        have fd2 := Lib.frozen_of_heap R0 2
        have fd3 := Lib.frozen_of_heap R0 3
        have fd4 := Lib.frozen_of_heap R0 4
        have fd5 := Lib.frozen_of_heap R0 5
        simp at d0 d1 d2 d3 d4 d5
        clear R1 R0
        go_wp2
        refine bodyPost_ret (v := .tuple #[.agg #[.int .i64 form, .string (str host), .int .i64 port, .string (str p), .string (str q), .bool hq], .int .i64 0, .int .i64 0]) (by simp [results, Tryz.results21, go_sem, c0, c1, c2, c3, c4, c5, d0, d1, d2, d3, d4, d5]) rfl ?_
        exact ⟨rfl, (Below.setCell (p := ⟨w.heap.size + 1, 5, none⟩) (Below.setCell (p := ⟨w.heap.size + 1, 4, none⟩) (Below.setCell (p := ⟨w.heap.size + 1, 3, none⟩) (Below.setCell (p := ⟨w.heap.size + 1, 2, none⟩) (Below.setCell (p := ⟨w.heap.size + 1, 1, none⟩) (Below.setCell (p := ⟨w.heap.size + 1, 0, none⟩) (Below.setCell (p := ⟨w.heap.size + 0, 5, none⟩) (Below.setCell (p := ⟨w.heap.size + 0, 4, none⟩) (Below.setCell (p := ⟨w.heap.size + 0, 3, none⟩) (HB2.out.trans (HB5.out.mono (by omega))) (by simp) _) (by simp) _) (by simp) _) (by simp) _) (by simp) _) (by simp) _) (by simp) _) (by simp) _) (by simp) _)⟩
    · have hb2 : (b2 != 0) = true := by simp [hb]
      have hwr : ((k + (p.length + 1 + b1) : Nat) : Int) = (k : Int) + p.length + 1 + b1 := by omega
      simp only [hb, ne_eq, not_true_eq_false, not_false_eq_true, if_true, if_false, hwr]
      go_enter Tryz.func21, Tryz.ntmps21
      go_wp2_with fail
      rw [← hw2]
      refine (HCut.out _ HM2.out).mono ?_
      rintro e w3 ⟨rfl, hb3⟩
      have HB3 : Hid (Below w2.heap.size w2 w3) := hb3
      clear hb3
      go_wp2_with fail
      refine (HP.out _).mono ?_
      rintro e w4 ⟨rfl, hb4⟩
      have HB4 : Hid (Below w2.heap.size w2 w4) := HB3.out.trans (hb4.mono HB3.out.size)
      clear hb4
      go_wp2_with fail
      refine (HQ.out _).mono ?_
      rintro e w5 ⟨rfl, hb5⟩
      have HB5 : Hid (Below w2.heap.size w2 w5) := HB4.out.trans (hb5.mono HB4.out.size)
      clear hb5
      have R1 := (HB5.out.block _ (show w.heap.size + 1 < _ by omega)).trans HR1.out
      have c0 := Lib.cell_of_heap R1 0
      have c1 := Lib.cell_of_heap R1 1
      have c2 := Lib.cell_of_heap R1 2
      have c3 := Lib.cell_of_heap R1 3
      have c4 := Lib.cell_of_heap R1 4
      have c5 := Lib.cell_of_heap R1 5
      have fc0 := Lib.frozen_of_heap R1 0
      have fc1 := Lib.frozen_of_heap R1 1
      have fc2 := Lib.frozen_of_heap R1 2
      have fc3 := Lib.frozen_of_heap R1 3
      have fc4 := Lib.frozen_of_heap R1 4
      have fc5 := Lib.frozen_of_heap R1 5
      simp at c0 c1 c2 c3 c4 c5
      clear R1
      go_wp2
      refine bodyPost_ret (v := .tuple #[.agg #[.int .i64 0, .string ⟨#[]⟩, .int .i64 0, .string ⟨#[]⟩, .string ⟨#[]⟩, .bool false], .int .i64 ((k : Int) + p.length + 1 + b1), .int .i64 b2]) (by simp [results, Tryz.results21, go_sem, c0, c1, c2, c3, c4, c5]) rfl ?_
      exact ⟨rfl, (Below.setCell (p := ⟨w.heap.size + 1, 5, none⟩) (Below.setCell (p := ⟨w.heap.size + 1, 4, none⟩) (Below.setCell (p := ⟨w.heap.size + 1, 3, none⟩) (Below.setCell (p := ⟨w.heap.size + 1, 2, none⟩) (Below.setCell (p := ⟨w.heap.size + 1, 1, none⟩) (Below.setCell (p := ⟨w.heap.size + 1, 0, none⟩) (HB2.out.trans (HB5.out.mono (by omega))) (by simp) _) (by simp) _) (by simp) _) (by simp) _) (by simp) _) (by simp) _)⟩
  · have ha2 : (a2 != 0) = true := by simp [ha]
    have hwr : ((k + a1 : Nat) : Int) = (k : Int) + a1 := by omega
    simp only [if_pos ha, ne_eq, ha, not_false_eq_true, if_true, hwr]
    go_enter Tryz.func21, Tryz.ntmps21
    go_wp2_with fail
    rw [← hw2]
    refine (HCut.out _ HM2.out).mono ?_
    rintro e w3 ⟨rfl, hb3⟩
    have HB3 : Hid (Below w2.heap.size w2 w3) := hb3
    clear hb3
    go_wp2_with fail
    refine (HP.out _).mono ?_
    rintro e w4 ⟨rfl, hb4⟩
    have HB4 : Hid (Below w2.heap.size w2 w4) := HB3.out.trans (hb4.mono HB3.out.size)
    clear hb4
    have R1 := (HB4.out.block _ (show w.heap.size + 1 < _ by omega)).trans HR1.out
    have c0 := Lib.cell_of_heap R1 0
    have c1 := Lib.cell_of_heap R1 1
    have c2 := Lib.cell_of_heap R1 2
    have c3 := Lib.cell_of_heap R1 3
    have c4 := Lib.cell_of_heap R1 4
    have c5 := Lib.cell_of_heap R1 5
    have fc0 := Lib.frozen_of_heap R1 0
    have fc1 := Lib.frozen_of_heap R1 1
    have fc2 := Lib.frozen_of_heap R1 2
    have fc3 := Lib.frozen_of_heap R1 3
    have fc4 := Lib.frozen_of_heap R1 4
    have fc5 := Lib.frozen_of_heap R1 5
    simp at c0 c1 c2 c3 c4 c5
    clear R1
    go_wp2
    refine bodyPost_ret (v := .tuple #[.agg #[.int .i64 0, .string ⟨#[]⟩, .int .i64 0, .string ⟨#[]⟩, .string ⟨#[]⟩, .bool false], .int .i64 ((k : Int) + a1), .int .i64 a2]) (by simp [results, Tryz.results21, go_sem, c0, c1, c2, c3, c4, c5]) rfl ?_
    exact ⟨rfl, (Below.setCell (p := ⟨w.heap.size + 1, 5, none⟩) (Below.setCell (p := ⟨w.heap.size + 1, 4, none⟩) (Below.setCell (p := ⟨w.heap.size + 1, 3, none⟩) (Below.setCell (p := ⟨w.heap.size + 1, 2, none⟩) (Below.setCell (p := ⟨w.heap.size + 1, 1, none⟩) (Below.setCell (p := ⟨w.heap.size + 1, 0, none⟩) (HB2.out.trans (HB4.out.mono (by omega))) (by simp) _) (by simp) _) (by simp) _) (by simp) _) (by simp) _) (by simp) _)⟩

end Tg
end Go.Proofs.YtpnijigjlhfklaaGreatDoor
