/-
  A strings.Builder of one's own: a text written; room made; strings.Join.
-/
import Derived.Test.YthdepdgmlngafabDoorBld
import Derived.Test.YthdepdgmlngafabDoorShelf
import Derived.Test.YthdepdgmlngafabDoorShelf2
import Derived.Test.YthdepdgmlngafabDoorSameL
import Derived.Test.YthdepdgmlngafabDoorJPlain
import Derived.Lib.Join
import Derived.BigGuard
set_option linter.unusedVariables false
set_option linter.unusedSimpArgs false
namespace Go.Proofs.YthdepdgmlngafabDoor
open Go.RowKit Go.Shelf
namespace Oc

set_option maxHeartbeats 2000000 in
set_option maxRecDepth 100000 in
theorem WriteString_any (B b : Nat) (bs : List Value) (s : ByteArray) (w : World) (h : Lib.IsBuilder 67 5 B b bs w) (hlen : bs.length + s.size ≤ 140737488355328) (hBw : B ≤ w.heap.size) :
    Calls Tryd.prog 38 #[.pointer (some ⟨b, 0, none⟩), .string s] w fun e w' => e = .returned (.tuple #[.int .i64 s.size, .nilIface]) ∧ (Lib.BuilderAt 67 5 B b (.pointer (some ⟨b, 0, none⟩)) (bs ++ Lib.strCells s) w' ∧ Below B w w') := by
  obtain ⟨i0, hi, hz0, hz1, hz2⟩ := info_parts infoByte
  go_enter Tryd.func38, Tryd.ntmps38
  go_wp2_with fail
  refine (copyCheck_any B b bs _ h).mono ?_
  rintro e w1 ⟨rfl, h1, hb1, _⟩
  obtain ⟨hB, v, hbk, hown, hne⟩ := h1
  have c0 : w1.cell? ⟨b, 0, none⟩ = some (.pointer (some ⟨b, 0, none⟩)) := by rw [Lib.cell_of_heap hbk]; rfl
  have c1 : w1.cell? ⟨b, 1, none⟩ = some v := by rw [Lib.cell_of_heap hbk]; rfl
  have hs1 := hb1.size
  go_wp2_with (at_builtin; refine Lib.wpList_append_own_string _ rfl _ _ 60 9 rfl B 5 i0 Tryd.underlying60 Tryd.underlying9 hi hz0 hz1 hz2 _ _ _ rfl hown s rfl ?c3 ?c4 ?c5 ?_)
  case c3 => unfold maxLen; omega
  case c4 => omega
  case c5 => omega
  intro v' w2 hown' hgrow _
  have hlt : b < w1.heap.size := by
    rcases Nat.lt_or_ge b w1.heap.size with h' | h'
    · exact h'
    · simp [Array.getElem?_eq_none h'] at hbk
  have hb2 : w2.heap[b]? = some (.cells #[.pointer (some ⟨b, 0, none⟩), v] 67 (0, 0)) := by
    rw [hgrow.block b hlt (fun e => hne e.symm)]
    exact hbk
  have d0 : w2.cell? ⟨b, 0, none⟩ = some (.pointer (some ⟨b, 0, none⟩)) := by rw [Lib.cell_of_heap hb2]; rfl
  have d1 : w2.cell? ⟨b, 1, none⟩ = some v := by rw [Lib.cell_of_heap hb2]; rfl
  have f1 : w2.frozen? ⟨b, 1, none⟩ = false := Lib.frozen_of_heap hb2 1
  obtain ⟨ao, n', cap, rfl⟩ : ∃ ao n' cap, v' = .slice ao n' cap := by
    rcases hown'.2 with ⟨hv, _⟩ | ⟨g, cap, cur, hv, _⟩
    · exact ⟨_, _, _, hv⟩
    · exact ⟨_, _, _, hv⟩
  go_wp2
  go_ret2
  refine ⟨rfl, ?_, ?_⟩
  · exact Lib.BuilderAt.put (T := 67) (e := 5) hB hb2 (bs' := bs ++ Lib.strCells s) (by simpa [Lib.strCells_length] using hown') (by decide)
  · exact (hb1.grown hgrow (by omega) (fun k hk => (hown.lt k hk).1)).setCell (p := ⟨b, 1, none⟩) hB _

set_option maxHeartbeats 2000000 in
set_option maxRecDepth 1000000 in
theorem Grow_fresh (B b n : Nat) (w : World) (hB : B ≤ b) (hbk : w.heap[b]? = some (.cells #[.pointer none, .slice none 0 0] 67 (0, 0))) (hBw : B ≤ w.heap.size) (hn : n ≤ 281474976710656) :
    Calls Tryd.prog 52 #[.pointer (some ⟨b, 0, none⟩), .int .i64 n] w fun e w' => e = .returned (.tuple #[]) ∧ (Lib.BuilderAt 67 5 B b (.pointer (some ⟨b, 0, none⟩)) [] w' ∧ Below B w w') := by
  have hbk1 : (w.setCell ⟨b, 0, none⟩ (.pointer (some ⟨b, 0, none⟩))).heap[b]? = some (.cells #[.pointer (some ⟨b, 0, none⟩), .slice none 0 0] 67 (0, 0)) := by
    simp [World.setCell, Array.getElem?_modify, hbk]
  have hb1 : Below B w (w.setCell ⟨b, 0, none⟩ (.pointer (some ⟨b, 0, none⟩))) := (Below.refl B w).setCell (p := ⟨b, 0, none⟩) hB _
  have hs1 : B ≤ (w.setCell ⟨b, 0, none⟩ (.pointer (some ⟨b, 0, none⟩))).heap.size := Nat.le_trans hBw hb1.size
  have hU : Lib.BuilderAt 67 5 B b (.pointer (some ⟨b, 0, none⟩)) [] (w.setCell ⟨b, 0, none⟩ (.pointer (some ⟨b, 0, none⟩))) := ⟨hB, .slice none 0 0, hbk1, World.ownsRow_nil _ _ _ _, by simp [Value.ownBlock]⟩
  go_enter Tryd.func52, Tryd.ntmps52
  go_wp2_with fail
  refine (copyCheck_fresh b w (by rw [Lib.cell_of_heap hbk]; rfl) (by simp [World.shape?, hbk]) (Lib.frozen_of_heap hbk 0)).mono ?_
  rintro e w' ⟨rfl, rfl⟩
  generalize w.setCell ⟨b, 0, none⟩ (.pointer (some ⟨b, 0, none⟩)) = w1 at *
  have c1 : w1.cell? ⟨b, 1, none⟩ = some (.slice none 0 0) := by rw [Lib.cell_of_heap hbk1]; rfl
  have c1' : w1.drew.cell? ⟨b, 1, none⟩ = some (.slice none 0 0) := c1
  go_wp2_with fail
  go_quiet (fail)
  have hbkN : (w1.drewN nq).heap[b]? = some (.cells #[.pointer (some ⟨b, 0, none⟩), .slice none 0 0] 67 (0, 0)) := by rw [World.heap_drewN]; exact hbk1
  have hbN : Below B w (w1.drewN nq) := below_drewN hb1 _
  have hsN : B ≤ (w1.drewN nq).heap.size := Nat.le_trans hBw hbN.size
  have hUN : Lib.BuilderAt 67 5 B b (.pointer (some ⟨b, 0, none⟩)) [] (w1.drewN nq) := ⟨hB, .slice none 0 0, hbkN, World.ownsRow_nil _ _ _ _, by simp [Value.ownBlock]⟩
  all_goals go_wp2_with fail
  all_goals first
    | (refine (Tryd.Builder_grow_fresh B b n _ hB hbkN hsN hn).mono ?_; rintro e w' ⟨rfl, h1, h2⟩; go_wp2; go_end0; exact ⟨rfl, h1, hbN.trans h2⟩)
    | (go_end0; exact ⟨rfl, hUN, hbN⟩)

set_option maxHeartbeats 4000000 in
set_option maxRecDepth 100000 in
theorem sJoin_many (sep : ByteArray) (hsz : sep.size = 2) (hsd : sep.data.toList = [44, 32]) (v : Value) (t : List (List UInt8)) (w : World) (h : RdS v t w) (h2 : 2 ≤ t.length) (hl : t.length ≤ 33554432) (hJ : sumL t ≤ 33554432) :
    Calls Tryd.prog 32 #[v, .string sep] w fun e w' => e = .returned (.string (str (joinF t))) ∧ Below w.heap.size w w' := by
  obtain ⟨a, c, rfl, h⟩ := h
  rcases h with h | ⟨g, o, rfl, hc, hcell⟩
  · rw [h] at h2; simp at h2
  have HC : Hid (∀ j, j < t.length → w.cell? ⟨g, o + j, none⟩ = some (.string (str (t.getD j [])))) := hcell
  have hg : g < w.heap.size := World.block_lt_of_cell? w _ (hcell 0 (by omega))
  clear hcell
  have hne0 : ((t.length : Int) == 0) = false := beq_eq_false_iff_ne.2 (by omega)
  have hne1 : ((t.length : Int) == 1) = false := beq_eq_false_iff_ne.2 (by omega)
  have hdv : ¬ (9223372036854775807 / ((t.length : Int) - 1) ≤ (sep.size : Int)) := by
    have : (3 : Int) ≤ 9223372036854775807 / ((t.length : Int) - 1) := Int.le_ediv_of_mul_le (by omega) (by omega)
    omega
  have hprod : wrap64 ((sep.size : Int) * ((t.length : Int) - 1)) = ((2 * (t.length - 1) : Nat) : Int) := by
    rw [hsz, show ((2 : Nat) : Int) * ((t.length : Int) - 1) = ((2 * (t.length - 1) : Nat) : Int) by omega]
    exact IntWalk.wrap64_in _ ⟨by omega, by omega⟩
  generalize hM : 2 * (t.length - 1) = M at hprod
  have hM' : M ≤ 67108864 := by omega
  have HS : Hid (sep.data.toList = [44, 32]) := hsd
  have hpos : (0 : Int) < (sep.size : Int) := by omega
  have HSz : Hid (sep.size = 2) := hsz
  clear hsd hM hsz
  go_enter Tryd.func32, Tryd.ntmps32
  go_wp2_with fail
  go_loop [5, 41] (fun n i => ∃ k : Nat, k ≤ t.length ∧ i = .int .i64 k ∧ n = .int .i64 ((M + sumL (t.take k) : Nat) : Int)) (fun _ i => t.length - (intOf i).toNat)
  case atStart => exact ⟨0, Nat.zero_le _, rfl, by simp [sumL]⟩
  case round =>
    obtain ⟨k, hk, rfl, rfl⟩ := hrel
    by_cases hkn : k < t.length
    · have hcx := HC.out k hkn
      have hstep := sumL_succ t k hkn
      have hbound := sumL_take t (k + 1)
      have hxs : (str (t.getD k [])).size = (t.getD k []).length := str_size _
      generalize hA1 : sumL (t.take (k + 1)) = A1 at hstep hbound
      generalize sumL (t.take k) = A0 at hstep
      have HA1 : Hid (sumL (t.take (k + 1)) = A1) := hA1
      clear hA1
      rw [← hxs] at hstep
      generalize str (t.getD k []) = x at hcx hstep
      clear hxs
      go_wp2
      exact ⟨⟨k + 1, by omega, by go_num, by rw [HA1.out]; refine congrArg _ ?_; omega⟩, by simp [intOf]; omega⟩
    · have hke : k = t.length := by omega
      subst hke
      rw [List.take_length]
      have HJ : Hid (∀ k, (jp t k).length ≤ 134217728) := fun k => by have := jp_len t k; omega
      have hc0 := HC.out 0 (by omega)
      rw [Nat.add_zero] at hc0
      have H0 : Hid (str (t.getD 0 []) = str (jp t 1)) := (by rw [jp_one t (by omega)] : str (t.getD 0 []) = str (jp t 1))
      generalize sumL t = T at hJ
      go_wp2_with fail
      have hMT : ((M : Int) + (T : Int)) = ((M + T : Nat) : Int) := by omega
      rw [hMT]
      refine (Grow_fresh w.heap.size w.heap.size (M + T) _ (Nat.le_refl _) (heap_alloc_new w _) (by simp) (by omega)).mono ?_
      rintro e w1 ⟨rfl, h1, hb1⟩
      have hb1' : Below w.heap.size w w1 := ((Below.refl w.heap.size w).alloc (Nat.le_refl _) _).trans hb1
      have hc1 : w1.cell? ⟨g, o, none⟩ = some (.string (str (t.getD 0 []))) := (hb1'.cell (p := ⟨g, o, none⟩) hg).trans hc0
      have H1 : Hid (Lib.IsBuilder 67 5 w.heap.size w.heap.size [] w1) := Or.inr h1
      have Hb1 : Hid (Below w.heap.size w w1) := hb1'
      have hBw1 : w.heap.size ≤ w1.heap.size := hb1'.size
      clear h1 hb1 hb1' hMT hc0
      rw [H0.out] at hc1
      go_wp2_with fail
      refine (WriteString_any w.heap.size w.heap.size [] (str (jp t 1)) w1 H1.out (by have := HJ.out 1; rw [str_size]; simp; omega) hBw1).mono ?_
      rintro e w2 ⟨rfl, h2', hb2⟩
      rw [List.nil_append, Lib.strCells_eq, str_list] at h2'
      have H2 : Hid (Lib.IsBuilder 67 5 w.heap.size w.heap.size (Lib.byteCells (jp t (0 + 1))) w2) := Or.inr h2'
      have Hb2 : Hid (Below w.heap.size w w2) := Hb1.out.trans hb2
      clear h2' hb2
      go_wp2_with fail
      go_loopw [65] (fun i wr => ∃ k : Nat, k ≤ t.length - 1 ∧ i = .int .i64 k ∧ Hid (Lib.IsBuilder 67 5 w.heap.size w.heap.size (Lib.byteCells (jp t (k + 1))) wr) ∧ Hid (Below w.heap.size w wr)) (fun i _ => t.length - 1 - (intOf i).toNat)
      case atStart => exact ⟨0, Nat.zero_le _, rfl, H2, Hb2⟩
      case round =>
        obtain ⟨k, hk', rfl, HB, HW⟩ := hrel
        by_cases hkr : k < t.length - 1
        · have hcy : wr.cell? ⟨g, o + 1 + k, none⟩ = some (.string (str (t.getD (k + 1) []))) := by
            rw [HW.out.cell (p := ⟨g, o + 1 + k, none⟩) hg, show o + 1 + k = o + (k + 1) by omega]
            exact HC.out (k + 1) (by omega)
          have hBw : w.heap.size ≤ wr.heap.size := HW.out.size
          have hnext : Lib.byteCells (jp t (k + 1)) ++ Lib.strCells sep ++ Lib.strCells (str (t.getD (k + 1) [])) = Lib.byteCells (jp t (k + 1 + 1)) := by
            rw [jp_succ t (k + 1) (by omega) (by omega), Lib.strCells_eq, Lib.strCells_eq, str_list, HS.out, ← Lib.byteCells_append, ← Lib.byteCells_append]
          have Hn : Hid (Lib.byteCells (jp t (k + 1)) ++ Lib.strCells sep ++ Lib.strCells (str (t.getD (k + 1) [])) = Lib.byteCells (jp t (k + 1 + 1))) := hnext
          have hl1 := HJ.out (k + 1 + 1)
          rw [jp_succ t (k + 1) (by omega) (by omega), List.length_append, List.length_append] at hl1
          have hl2 : (Lib.byteCells (jp t (k + 1))).length = (jp t (k + 1)).length := Lib.byteCells_length _
          have hl3 : (str (t.getD (k + 1) [])).size = (t.getD (k + 1) []).length := str_size _
          have hl4 : [(44 : UInt8), 32].length = 2 := rfl
          have hl5 := HSz.out
          have HL1 : Hid ((Lib.byteCells (jp t (k + 1))).length + sep.size ≤ 140737488355328) := (by omega : (Lib.byteCells (jp t (k + 1))).length + sep.size ≤ 140737488355328)
          have HL2 : Hid ((Lib.byteCells (jp t (k + 1)) ++ Lib.strCells sep).length + (str (t.getD (k + 1) [])).size ≤ 140737488355328) := (by rw [List.length_append, Lib.strCells_length]; omega : (Lib.byteCells (jp t (k + 1)) ++ Lib.strCells sep).length + (str (t.getD (k + 1) [])).size ≤ 140737488355328)
          clear hnext hl1 hl2 hl3 hl4 hl5
          generalize str (t.getD (k + 1) []) = y at *
          go_wp2_with fail
          refine (WriteString_any w.heap.size w.heap.size _ sep wr HB.out HL1.out hBw).mono ?_
          rintro e w3 ⟨rfl, h3, hb3⟩
          have hBw3 : w.heap.size ≤ w3.heap.size := Nat.le_trans hBw hb3.size
          have H3 : Hid (Lib.BuilderAt 67 5 w.heap.size w.heap.size (.pointer (some ⟨w.heap.size, 0, none⟩)) (Lib.byteCells (jp t (k + 1)) ++ Lib.strCells sep) w3) := h3
          have Hb3 : Hid (Below w.heap.size wr w3) := hb3
          clear h3 hb3
          go_wp2_with fail
          refine (WriteString_any w.heap.size w.heap.size _ y w3 (Or.inr H3.out) HL2.out hBw3).mono ?_
          rintro e w4 ⟨rfl, h4, hb4⟩
          rw [Hn.out] at h4
          have H4 : Hid (Lib.IsBuilder 67 5 w.heap.size w.heap.size (Lib.byteCells (jp t (k + 1 + 1))) w4) := Or.inr h4
          have Hb4 : Hid (Below w.heap.size w w4) := (HW.out.trans Hb3.out).trans hb4
          clear h4 hb4
          go_wp2
          exact ⟨⟨k + 1, by omega, by go_num, H4, Hb4⟩, by simp [intOf]; omega⟩
        · have hke : k + 1 = t.length := by omega
          have hB' := HB.out
          rw [hke, jp_all] at hB'
          have HB' : Hid (Lib.IsBuilder 67 5 w.heap.size w.heap.size (Lib.byteCells (joinF t)) wr) := hB'
          clear hB' hke
          have hBw : w.heap.size ≤ wr.heap.size := HW.out.size
          go_wp2_with fail
          refine (Tryd.Builder_String_any w.heap.size w.heap.size _ wr HB'.out hBw).mono ?_
          rintro e w5 ⟨rfl, hb5⟩
          have Hb5 : Hid (Below w.heap.size w w5) := HW.out.trans hb5
          clear hb5
          go_wp2
          go_ret
          exact ⟨rfl, Hb5.out⟩

set_option maxRecDepth 100000 in
theorem sJoin_none (sep : ByteArray) (a : Option Addr) (c : Nat) (w : World) :
    Calls Tryd.prog 32 #[.slice a 0 c, .string sep] w fun e w' => e = .returned (.string ⟨#[]⟩) ∧ w' = w := by
  go_enter Tryd.func32, Tryd.ntmps32
  go_wp2
  go_ret
  exact ⟨rfl, rfl⟩
set_option maxRecDepth 100000 in
theorem sJoin_one (sep : ByteArray) (g o c : Nat) (x : ByteArray) (w : World) (hc : w.cell? ⟨g, o, none⟩ = some (.string x)) :
    Calls Tryd.prog 32 #[.slice (some ⟨g, o, none⟩) 1 c, .string sep] w fun e w' => e = .returned (.string x) ∧ w' = w := by
  go_enter Tryd.func32, Tryd.ntmps32
  go_wp2
  go_ret
  exact ⟨rfl, rfl⟩
theorem sJoin_any (sep : ByteArray) (hsz : sep.size = 2) (hsd : sep.data.toList = [44, 32]) (v : Value) (t : List (List UInt8)) (w : World) (h : RdS v t w) (hl : t.length ≤ 33554432) (hJ : sumL t ≤ 33554432) :
    Calls Tryd.prog 32 #[v, .string sep] w fun e w' => e = .returned (.string (str (joinF t))) ∧ Below w.heap.size w w' := by
  by_cases h2 : 2 ≤ t.length
  · exact sJoin_many sep hsz hsd v t w h h2 hl hJ
  · obtain ⟨a, c, rfl, hr⟩ := h
    cases t with
    | nil => exact (sJoin_none sep a c w).mono fun e w' ⟨he, hw⟩ => ⟨he, hw ▸ Below.refl _ _⟩
    | cons x r =>
      cases r with
      | cons y r => exact absurd (by simp) h2
      | nil =>
        rcases hr with hr | ⟨g, o, rfl, hc, hcell⟩
        · cases hr
        · exact (sJoin_one sep g o c (str x) w (hcell 0 (by simp))).mono fun e w' ⟨he, hw⟩ => ⟨he, hw ▸ Below.refl _ _⟩

set_option maxRecDepth 100000 in
theorem Join_any (v : Value) (t : List (List UInt8)) (w : World) (h : RdS v t w) (hl : t.length ≤ 33554432) (hJ : sumL t ≤ 33554432) :
    Calls Tryd.prog 15 #[v] w fun e w' => e = .returned (.string (str (joinF t))) ∧ Below w.heap.size w w' := by
  go_enter Tryd.func15, Tryd.ntmps15
  go_wp2_with fail
  refine (sJoin_any ⟨#[44, 32]⟩ rfl rfl v t w h hl hJ).mono ?_
  rintro e w2 ⟨rfl, hb2⟩
  go_wp2
  go_ret
  exact ⟨rfl, hb2⟩

end Oc
end Go.Proofs.YthdepdgmlngafabDoor
