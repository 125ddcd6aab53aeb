import Derived.Shelf.Spec.SlicesGrow
import Derived.Ground.Names8Prog
import Derived.Shelf.SlGeneric
import Derived.Test.YtdcfhnbagldilaaGreatDoorProg
import Derived.Test.YtdcfhnbagldilaaGreatDoorMgJ
import Derived.Laws.CopyRow
import Derived.Test.YtdcfhnbagldilaaGreatDoorMgT
import Derived.Deep.RegionWith
namespace Go.Proofs
open Go.Shelf
def Tryz.growB_ren : Go.Shelf.Ren := ⟨fun | 4 => 166 | n => n, fun | 22 => 53 | 25 => 5 | 3 => 3 | 4 => 4 | 9 => 9 | 20 => 20 | 0 => 0 | n => n, fun | n => n⟩
theorem Tryz.growB : Go.Proofs.Lays8.n4 Tryz.prog Tryz.growB_ren := {
  mixed := by kernel_rfl
  f4 := ⟨Tryz.f166.name, by decide, Tryz.func166.trans (congrArg some (by kernel_rfl))⟩
  t0 := Tryz.underlying0
  a0 := Tryz.isAgg0
  z0 := Tryz.sizeOf0
  v0 := Tryz.zeroValue0
  t3 := Tryz.underlying3
  a3 := Tryz.isAgg3
  z3 := Tryz.sizeOf3
  v3 := Tryz.zeroValue3
  t4 := Tryz.underlying4
  a4 := Tryz.isAgg4
  z4 := Tryz.sizeOf4
  v4 := Tryz.zeroValue4
  t9 := Tryz.underlying9
  a9 := Tryz.isAgg9
  z9 := Tryz.sizeOf9
  v9 := Tryz.zeroValue9
  t20 := Tryz.underlying20
  a20 := Tryz.isAgg20
  z20 := Tryz.sizeOf20
  v20 := Tryz.zeroValue20
  t22 := Tryz.underlying53
  a22 := Tryz.isAgg53
  z22 := Tryz.sizeOf53
  v22 := Tryz.zeroValue53 }
end Go.Proofs
set_option linter.unusedVariables false
set_option linter.unusedSimpArgs false
set_option maxRecDepth 100000
namespace Go.Proofs.YtdcfhnbagldilaaGreatDoor
open Go.RowKit Go.Shelf Go.Lib
namespace Ck
open Oc Tg _root_.Go.Proofs.YtdcfhnbagldilaaGreatDoor.Fd
theorem byteCells_ones (l : List UInt8) : ∀ v ∈ Lib.byteCells l, v.oneCell' = true := by
  intro v hv
  simp only [Lib.byteCells, List.mem_map] at hv
  obtain ⟨b, _, rfl⟩ := hv
  rfl
theorem run_copy_part (w : World) (g o k dCap : Nat) (s : ByteArray) (cur : Array Value) (ty : TypeId) (hg : w.heap[g]? = some (.cells cur 5 (0, 0))) (hle : k ≤ s.size) (hfit : o + k ≤ cur.size) :
    (Builtin.copy_ #[53, 9] ty #[.slice (some ⟨g, o, none⟩) k dCap, .string s]).run Tryz.prog w =
      .ok (goInt k) (w.setRow g (cur.toList.take o ++ Lib.byteCells (s.data.toList.take k) ++ cur.toList.drop (o + k)).toArray) := by
  have hk : (s.data.toList.take k).length = k := by rw [List.length_take, size_list]; omega
  have hlen : (Lib.byteCells (s.data.toList.take k)).length = k := by rw [Lib.byteCells_length, hk]
  have hst := run_storeCells_at Tryz.prog g o 5 (Lib.byteCells (s.data.toList.take k)) 0 cur w hg (by rw [hlen]; simpa using hfit) (byteCells_ones _)
  have hmin : Nat.min s.size k = k := Nat.min_eq_right hle
  have htk : List.take k (List.map (fun b : UInt8 => Value.int IntKind.u8 (b.toNat : Int)) s.data.toList) = Lib.byteCells (s.data.toList.take k) := by
    rw [← List.map_take]
    rfl
  rw [hlen] at hst
  simp only [Nat.add_zero] at hst
  obtain ⟨i0, hi, hz0, hz1, hz2⟩ := info5
  simp [Builtin.copy_, run_underlying Tryz.underlying53, Builtin.lenOf, Builtin.firstCells, sizeOf, typeInfo, hi, hz1, hmin]
  rw [htk, hst]
  simp [Result.andThen]
theorem grow_any {w : World} {a : Option Addr} {c : Nat} {l : List UInt8} (H : Own 0 (.slice a l.length c) l w) (k : Nat) (hk : 0 < k) (hb : l.length + k ≤ 4000000000000) :
    Calls Tryz.prog 166 #[.slice a l.length c, .int .i64 k] w fun e w' => ∃ g c', e = .returned (.slice (some ⟨g, 0, none⟩) l.length c') ∧ l.length + k ≤ c' ∧ c' ≤ maxLen ∧ (∃ cur, w'.heap[g]? = some (.cells cur 5 (0, 0)) ∧ cur.size = c' ∧ cur.toList.take l.length = Lib.byteCells l) ∧ Below w.heap.size w w' ∧ ((Value.slice a l.length c).ownBlock = some g ∨ w.heap.size ≤ g) := by
  obtain ⟨i0, hi, hz0, hz1, hz2⟩ := info5
  rcases H.2 with ⟨e, hn⟩ | ⟨g, cap, cur, e, hb0, hg, hnc, hcm, hcs, htk⟩
  · injection e with e1 e2 e3
    subst e1 e3
    have hl : l = [] := List.length_eq_zero_iff.1 hn
    have h := Any8.slices_Grow_grow Tryz.growB i0 (.int .u8 0) hi hz0 (by rw [hz1]; decide) none l.length 0 k [] w (by omega) (by omega) (by rw [hz2]; omega) (by omega) (by simp) (fun _ => rfl) (fun a h => by cases h)
    have hG := grownCap_ge w (l.length + k) 0 5
    have hM := grownCap_le_maxLen w (l.length + k) 0 5 (by unfold maxLen; omega)
    refine h.mono ?_
    rintro e w' ⟨rfl, rfl⟩
    refine ⟨w.heap.size, _, rfl, hG, hM, ⟨_, heap_alloc_new w.drew _, ?_, ?_⟩, (Below.refl _ w).drew.alloc (Nat.le_refl _) _, .inr (Nat.le_refl _)⟩
    · simp [size_zeroCells]
      have h1 : (Value.cells (.int .u8 0)).size = 1 := rfl
      rw [h1]
      have hG' : l.length + k ≤ grownCap w (l.length + k) 0 (Tryz.growB_ren.t 25) := hG
      omega
    · rw [hl]
      simp [Lib.byteCells]
  · injection e with e1 e2 e3
    subst e1 e3
    by_cases hroom : l.length + k ≤ c
    · have h := Any8.slices_Grow_room Tryz.growB (some ⟨g, 0, none⟩) l.length c k w hnc (by unfold maxLen at hcm; omega) (by omega) hroom
      refine h.mono ?_
      rintro e w' ⟨rfl, hw⟩
      rw [hw]
      exact ⟨g, c, rfl, hroom, hcm, ⟨cur, hg, by omega, by rw [← htk]; simp⟩, Below.refl _ _, .inl rfl⟩
    · have hcell : ∀ (a : Addr), (some ⟨g, 0, none⟩ : Option Addr) = some a → ∀ j v, cur.toList[j]? = some v → w.cell? (a.add j) = some v := by
        rintro a e j v hj
        injection e with e
        subst e
        rw [Addr.add_lit, cell_of_row w g _ _ _ _ hg]
        simpa using hj
      have h := Any8.slices_Grow_grow Tryz.growB i0 (.int .u8 0) hi hz0 (by rw [hz1]; decide) (some ⟨g, 0, none⟩) l.length c k cur.toList w hnc (by omega) (by rw [hz2]; omega) (by omega) (by rw [hz1]; simpa using hcs) (fun e => by cases e) hcell
      have hG := grownCap_ge w (l.length + k) c 5
      have hM := grownCap_le_maxLen w (l.length + k) c 5 (by unfold maxLen; omega)
      refine h.mono ?_
      rintro e w' ⟨rfl, rfl⟩
      refine ⟨w.heap.size, _, rfl, hG, hM, ⟨_, heap_alloc_new w.drew _, ?_, ?_⟩, (Below.refl _ w).drew.alloc (Nat.le_refl _) _, .inr (Nat.le_refl _)⟩
      · simp [size_zeroCells]
        have h1 : (Value.cells (.int .u8 0)).size = 1 := rfl
        rw [h1]
        have hG' : l.length + k ≤ grownCap w (l.length + k) c (Tryz.growB_ren.t 25) := hG
        omega
      · have hcz : cur.toList.length = c := by simpa using hcs
        simp only [Nat.mul_one] at htk
        rw [Array.toList_append, Array.toList_append, List.append_assoc, List.take_append_of_le_length (by simpa [hcz] using hnc)]
        simpa using htk
theorem IsD.fills {w w1 : World} {D g k c' : Nat} {s : DS} {vl vb vt : Value} {cur : Array Value} {x : List UInt8} (H : IsD w D s vl vb vt) (hb : Below w.heap.size w w1) (hg : w1.heap[g]? = some (.cells cur 5 (0, 0))) (hc : cur.size = c') (hm : c' ≤ maxLen) (htk : cur.toList.take s.body.length = Lib.byteCells s.body) (hx : x.length = k) (hkc : s.body.length + k ≤ c') (hgn : vb.ownBlock = some g ∨ w.heap.size ≤ g) :
    IsD ((w1.setCell ⟨D, 9, none⟩ (.slice (some ⟨g, 0, none⟩) (s.body.length + k) c')).setRow g (cur.toList.take s.body.length ++ Lib.byteCells x ++ cur.toList.drop (s.body.length + k)).toArray) D { s with body := s.body ++ x } vl (.slice (some ⟨g, 0, none⟩) (s.body.length + k) c') vt ∧
    Goes (ft D vl vb vt) w (ft D vl (.slice (some ⟨g, 0, none⟩) (s.body.length + k) c') vt) ((w1.setCell ⟨D, 9, none⟩ (.slice (some ⟨g, 0, none⟩) (s.body.length + k) c')).setRow g (cur.toList.take s.body.length ++ Lib.byteCells x ++ cur.toList.drop (s.body.length + k)).toArray) := by
  have H1 := H.below hb
  have hgD : g ≠ D := by
    intro e
    subst e
    rw [H1.str] at hg
    injection hg with e
    injection e with _ e2 _
    exact absurd e2 (by decide)
  have hcl : cur.toList.length = c' := by simpa using hc
  have hgl : ∀ y, vl.ownBlock = some y → y ≠ g := by
    intro y hy e
    subst e
    rcases hgn with e | e
    · exact H.sep y hy e
    · have := (World.ownsRow.lt H.line y hy).2
      omega
  have hgt : ∀ y, vt.ownBlock = some y → y ≠ g := by
    intro y hy e
    subst e
    rcases H1.tr.2 with ⟨rfl, _⟩ | ⟨g2, cap2, cur2, rfl, _, e2, _⟩
    · cases hy
    · have a2 : g2 = y := by simpa [Value.ownBlock] using hy
      subst a2
      rw [hg] at e2
      injection e2 with e
      injection e with _ e3 _
      exact absurd e3 (by decide)
  have hA := H1.at.set 9 (.slice (some ⟨g, 0, none⟩) (s.body.length + k) c')
  have hg2 : (w1.setCell ⟨D, 9, none⟩ (.slice (some ⟨g, 0, none⟩) (s.body.length + k) c')).heap[g]? = some (.cells cur 5 (0, 0)) := by rw [heap_setCell_other _ _ _ _ hgD]; exact hg
  have hg3 := setRow_heap _ g cur (cur.toList.take s.body.length ++ Lib.byteCells x ++ cur.toList.drop (s.body.length + k)).toArray _ _ hg2
  have B3 : But [D, g] w1 ((w1.setCell ⟨D, 9, none⟩ (.slice (some ⟨g, 0, none⟩) (s.body.length + k) c')).setRow g (cur.toList.take s.body.length ++ Lib.byteCells x ++ cur.toList.drop (s.body.length + k)).toArray) := (hA.but.mono (by simp)).setRow (by simp) _
  refine ⟨⟨?_, ?_, ?_, ?_, ?_⟩, goes_ft ?_ (fun y h => .inl h) ?_ (fun y h => .inl h)⟩
  · rw [setRow_other _ _ _ _ (Ne.symm hgD)]
    exact hA.str
  · exact B3.owns H1.line (fun y hy e => by
      simp at e
      rcases e with e | e
      · exact ne_row H1.str H1.line (by decide) hy e
      · exact hgl y hy e)
  · refine ⟨?_, .inr ⟨g, c', _, ?_, Nat.zero_le _, hg3, ?_, hm, ?_, ?_⟩⟩
    · simp [Lib.byteCells]
    · simp [hx]
    · simp [hx]; omega
    · simp only [List.size_toArray, List.length_append, List.length_take, List.length_drop, hcl, Lib.byteCells_length, hx]; omega
    · show List.take ((s.body ++ x).length * 1) (cur.toList.take s.body.length ++ Lib.byteCells x ++ cur.toList.drop (s.body.length + k)) = Lib.byteCells (s.body ++ x)
      rw [htk, Nat.mul_one, show Lib.byteCells s.body ++ Lib.byteCells x = Lib.byteCells (s.body ++ x) by simp [Lib.byteCells]]
      rw [List.take_append_of_le_length (by rw [Lib.byteCells_length]; exact Nat.le_refl _), List.take_of_length_le (by rw [Lib.byteCells_length]; exact Nat.le_refl _)]
  · exact B3.owns H1.tr (fun y hy e => by
      simp at e
      rcases e with e | e
      · exact ne_row H1.str H1.tr (by decide) hy e
      · exact hgt y hy e)
  · intro y hy e
    have : g = y := by simpa [Value.ownBlock] using e
    exact hgl y hy this.symm
  · refine ⟨B3.os.trans hb.os, B3.tape.trans hb.tape, B3.output.trans hb.output, Nat.le_trans hb.size B3.size, fun y hy hn => ?_⟩
    refine (B3.block y (Nat.lt_of_lt_of_le hy hb.size) (fun e => hn ?_)).trans (hb.block y hy)
    simp at e
    rcases e with rfl | rfl
    · simp [ft]
    · rcases hgn with e | e
      · simp [ft, e]
      · omega
  · intro y hy
    have : g = y := by simpa [Value.ownBlock] using hy
    subst this
    exact hgn
set_option maxHeartbeats 4000000 in
theorem inChunk_any {w : World} {D : Nat} {s : DS} {bs : List Nat} (H : Dec w D s bs) (t : ByteArray) (k : Nat) (hk : 0 < k) (hkt : k ≤ t.size) (hmin : min (t.size : Int) s.left = (k : Int)) (hts : t.size ≤ 4000000000) (hbl : s.body.length ≤ 4000000000) (hl1 : s.left ≤ 1099511627776) (hl0 : (k : Int) ≤ s.left) (hmo : s.mode = 1) :
    Calls Tryz.prog 146 #[.pointer (some ⟨D, 0, none⟩), .string t] w fun ex w' => ex = .returned (.int .i64 k) ∧ ∃ bs', Dec w' D (inChunk s (t.data.toList.take k)) bs' ∧ Goes bs w bs' w' := by
  obtain ⟨vl, vb, vt, H, rfl⟩ := H
  obtain ⟨a, c, rfl, hac, hcm, _⟩ := own_form H.body
  have HH : Hid (IsD w D s vl (.slice a s.body.length c) vt) := H
  have HGr : Hid (Calls Tryz.prog 166 #[.slice a s.body.length c, .int .i64 k] w fun e w' => ∃ g c', e = .returned (.slice (some ⟨g, 0, none⟩) s.body.length c') ∧ s.body.length + k ≤ c' ∧ c' ≤ maxLen ∧ (∃ cur, w'.heap[g]? = some (.cells cur 5 (0, 0)) ∧ cur.size = c' ∧ cur.toList.take s.body.length = Lib.byteCells s.body) ∧ Below w.heap.size w w' ∧ ((Value.slice a s.body.length c).ownBlock = some g ∨ w.heap.size ≤ g)) := grow_any H.body k hk (by omega)
  have hxl : (t.data.toList.take k).length = k := by rw [List.length_take, size_list]; omega
  have HXL : Hid ((t.data.toList.take k).length = k) := hxl
  have HIN : Hid (inChunk s (t.data.toList.take k) = { s with body := s.body ++ t.data.toList.take k, left := s.left - k, mode := if s.left - k = 0 then 2 else 1 }) := by
    show inChunk _ _ = _
    unfold inChunk
    rw [hxl]
  have HMO : Hid (s.mode = 1) := hmo
  obtain ⟨c0, c1, c2, c3, c4, c5, c6, c7, c8, c9, c10, cf⟩ := row11 H.str
  generalize hn : s.body.length = n at *
  have HN : Hid (s.body.length = n) := hn
  clear H hn hxl c0 c1 c2 c3 c4 c5 c7 c8 c10 hmo
  go_enter Tryz.func146, Tryz.ntmps146
  go_wp2_with fail
  refine HGr.out.mono ?_
  rintro e w1 ⟨g, c', rfl, hk1, hm1, ⟨cur, hcur, hcz, htk⟩, hb1, hgn⟩
  have H1 := HH.out.below hb1
  obtain ⟨_, _, _, _, _, _, d6, _, _, d9, _, df⟩ := row11 H1.str
  have P := IsD.fills HH.out hb1 hcur hcz hm1 (by rw [HN.out]; exact htk) HXL.out (by rw [HN.out]; exact hk1) hgn
  have hgD : g ≠ D := by
    intro e
    subst e
    rw [H1.str] at hcur
    injection hcur with e
    injection e with _ e2 _
    exact absurd e2 (by decide)
  have hg2 : (w1.setCell ⟨D, 9, none⟩ (.slice (some ⟨g, 0, none⟩) (n + k) c')).heap[g]? = some (.cells cur 5 (0, 0)) := by rw [heap_setCell_other _ _ _ _ hgD]; exact hcur
  have hcp := fun ty => run_copy_part _ g n k (c' - n) t cur ty hg2 hkt (by omega)
  rw [HN.out] at P
  obtain ⟨w3, hw3⟩ : ∃ w3, w3 = (w1.setCell ⟨D, 9, none⟩ (.slice (some ⟨g, 0, none⟩) (n + k) c')).setRow g (cur.toList.take n ++ Lib.byteCells (t.data.toList.take k) ++ cur.toList.drop (n + k)).toArray := ⟨_, rfl⟩
  rw [← hw3] at P hcp
  clear hw3
  have HI : Hid (IsD w3 D { s with body := s.body ++ t.data.toList.take k } vl (.slice (some ⟨g, 0, none⟩) (n + k) c') vt) := P.1
  have HG : Hid (Goes (ft D vl (.slice a n c) vt) w (ft D vl (.slice (some ⟨g, 0, none⟩) (n + k) c') vt) w3) := P.2
  obtain ⟨f0, _, _, _, _, _, f6, _, _, _, _, ff⟩ := row11 P.1.str
  clear P H1 hg2 htk hcur hgn hb1 c6 c9 cf HGr HH
  unfold maxLen at hm1
  simp only at f0 f6
  rw [HMO.out] at f0
  by_cases hz : s.left - k = 0
  · have hz1 : (s.left - (k : Int) == 0) = true := by rw [beq_iff_eq]; exact hz
    have HZ : Hid (s.left - k = 0) := hz
    have hA := (HI.out.at.set 6 (.int .i64 (s.left - k))).set 0 (fnV 2)
    have HF : Hid (IsD ((w3.setCell ⟨D, 6, none⟩ (.int .i64 (s.left - k))).setCell ⟨D, 0, none⟩ (fnV 2)) D (inChunk s (t.data.toList.take k)) vl (.slice (some ⟨g, 0, none⟩) (n + k) c') vt) := by
      show IsD _ _ _ _ _ _
      rw [HIN.out, if_pos hz]
      exact IsD.build HI.out.str hA rfl HI.out.line HI.out.body HI.out.tr HI.out.sep
    have HGo : Hid (Goes (ft D vl (.slice a n c) vt) w (ft D vl (.slice (some ⟨g, 0, none⟩) (n + k) c') vt) ((w3.setCell ⟨D, 6, none⟩ (.int .i64 (s.left - k))).setCell ⟨D, 0, none⟩ (fnV 2))) := HG.out.trans (goes_ft (hA.ftd _ _ _) (fun g h => .inl h) (fun g h => .inl h) (fun g h => .inl h))
    clear hA HI HG hz
    go_wp2
    go_ret
    exact ⟨rfl, _, ⟨_, _, _, HF.out, rfl⟩, HGo.out⟩
  · have hz1 : (s.left - (k : Int) == 0) = false := by rw [beq_eq_false_iff_ne]; exact hz
    have hA := HI.out.at.set 6 (.int .i64 (s.left - k))
    have HF : Hid (IsD (w3.setCell ⟨D, 6, none⟩ (.int .i64 (s.left - k))) D (inChunk s (t.data.toList.take k)) vl (.slice (some ⟨g, 0, none⟩) (n + k) c') vt) := by
      show IsD _ _ _ _ _ _
      rw [HIN.out, if_neg hz]
      refine IsD.build HI.out.str hA ?_ HI.out.line HI.out.body HI.out.tr HI.out.sep
      unfold cellsD
      rw [HMO.out]
      rfl
    have HGo : Hid (Goes (ft D vl (.slice a n c) vt) w (ft D vl (.slice (some ⟨g, 0, none⟩) (n + k) c') vt) (w3.setCell ⟨D, 6, none⟩ (.int .i64 (s.left - k)))) := HG.out.trans (goes_ft (hA.ftd _ _ _) (fun g h => .inl h) (fun g h => .inl h) (fun g h => .inl h))
    clear hA HI HG hz
    go_wp2
    go_ret
    exact ⟨rfl, _, ⟨_, _, _, HF.out, rfl⟩, HGo.out⟩
end Ck
end Go.Proofs.YtdcfhnbagldilaaGreatDoor
set_option linter.unusedVariables false
set_option linter.unusedSimpArgs false
set_option maxRecDepth 100000
namespace Go.Proofs.YtdcfhnbagldilaaGreatDoor
open Go.RowKit Go.Shelf Go.Lib
namespace Ck
open Oc Tg _root_.Go.Proofs.YtdcfhnbagldilaaGreatDoor.Fd
def Took (s : DS) (k : Nat) (t : ByteArray) (w0 : World) (D : Nat) (bs : List Nat) (w : World) (ex : Ending) (w' : World) : Prop :=
  ∃ (n : Nat) (s' : DS) (bs' : List Nat), ex = .returned (.int .i64 n) ∧ 0 < n ∧ n ≤ t.size ∧ eat s t.data.toList = (n + (eat s' (t.data.toList.drop n)).1, (eat s' (t.data.toList.drop n)).2) ∧ Ok s' (k + n) ∧ Dec w' D s' bs' ∧ Goes bs w bs' w'
theorem list_first (t : ByteArray) (ht : 0 < t.size) : t.data.toList = t.data.toList.getD 0 0 :: t.data.toList.drop 1 := by
  cases h : t.data.toList with
  | nil => have := size_list t; rw [h] at this; simp at this; omega
  | cons c l => rfl
theorem took_one {s s' : DS} {k : Nat} {t : ByteArray} {w0 w w' : World} {D : Nat} {bs bs' : List Nat} (h : Ok s k) (hm : s.mode ≠ 5) (ht : 0 < t.size) (he : bstep s (t.data.toList.getD 0 0) = s') (hd : Dec w' D s' bs') (hg : Goes bs w bs' w') : Took s k t w0 D bs w (.returned (.int .i64 1)) w' := by
  refine ⟨1, s', bs', rfl, by decide, ht, ?_, ?_, hd, hg⟩
  · conv => lhs; rw [list_first t ht]
    rw [eat_cons hm, he, Nat.add_comm]
  · rw [← he]; exact bstep_ok h hm _
theorem byt_first (t : ByteArray) : byt t 0 = ((t.data.toList.getD 0 0).toNat : Int) := rfl
section
variable {w0 w : World} {D k : Nat} {s : DS} {bs : List Nat}
theorem next0 (HB : Base w0 w bs) (H : Dec w D s bs) (hk : Ok s k) (hm : s.mode = 0) (t : ByteArray) (ht : 0 < t.size) (hb : k + t.size ≤ 2147483647) :
    Calls Tryz.prog 104 #[.pointer (some ⟨D, 0, none⟩), .string t] w (Took s k t w0 D bs w) := by
  have hl := hk.len
  refine (inSize_any HB H (by omega) hk.most.1 hk.most.2 t ht _ (byt_first t)).mono ?_
  rintro e w' ⟨rfl, bs', hd, hg⟩
  exact took_one hk (by omega) ht (by unfold bstep; rw [hm]; rfl) hd hg
theorem next1 (HB : Base w0 w bs) (H : Dec w D s bs) (hk : Ok s k) (hm : s.mode = 1) (t : ByteArray) (ht : 0 < t.size) (hb : k + t.size ≤ 2147483647) :
    Calls Tryz.prog 146 #[.pointer (some ⟨D, 0, none⟩), .string t] w (Took s k t w0 D bs w) := by
  have hl := hk.len
  have hp := hk.pos hm
  have hle := hk.left
  obtain ⟨n, hn⟩ : ∃ n : Nat, min (t.size : Int) s.left = (n : Int) := ⟨(min (t.size : Int) s.left).toNat, by omega⟩
  have hxl : (t.data.toList.take n).length = n := by rw [List.length_take, size_list]; omega
  refine (inChunk_any H t n (by omega) (by omega) hn (by omega) (by omega) hle.2 (by omega) hm).mono ?_
  rintro e w' ⟨rfl, bs', hd, hg⟩
  refine ⟨n, _, bs', rfl, by omega, by omega, ?_, ?_, hd, hg⟩
  · conv => lhs; rw [← List.take_append_drop n t.data.toList]
    rw [eat_chunk _ _ s k hk hm (fun e => by rw [e] at hxl; simp at hxl; omega) (by rw [hxl]; omega), hxl]
  · have := inChunk_ok hk hm (t.data.toList.take n) (by rw [hxl]; omega)
    rw [hxl] at this
    exact this
theorem next2 (HB : Base w0 w bs) (H : Dec w D s bs) (hk : Ok s k) (hm : s.mode = 2) (t : ByteArray) (ht : 0 < t.size) (hb : k + t.size ≤ 2147483647) :
    Calls Tryz.prog 167 #[.pointer (some ⟨D, 0, none⟩), .string t] w (Took s k t w0 D bs w) := by
  refine (behindChunk_any H t ht _ (byt_first t)).mono ?_
  rintro e w' ⟨rfl, bs', hd, hg⟩
  exact took_one hk (by omega) ht (by unfold bstep; rw [hm]; rfl) hd hg
theorem next3 (HB : Base w0 w bs) (H : Dec w D s bs) (hk : Ok s k) (hm : s.mode = 3) (t : ByteArray) (ht : 0 < t.size) (hb : k + t.size ≤ 2147483647) :
    Calls Tryz.prog 190 #[.pointer (some ⟨D, 0, none⟩), .string t] w (Took s k t w0 D bs w) := by
  refine (behindReturn_any H t ht _ (byt_first t)).mono ?_
  rintro e w' ⟨rfl, bs', hd, hg⟩
  exact took_one hk (by omega) ht (by unfold bstep; rw [hm]; rfl) hd hg
theorem next4 (HB : Base w0 w bs) (H : Dec w D s bs) (hk : Ok s k) (hm : s.mode = 4) (t : ByteArray) (ht : 0 < t.size) (hb : k + t.size ≤ 2147483647) :
    Calls Tryz.prog 145 #[.pointer (some ⟨D, 0, none⟩), .string t] w (Took s k t w0 D bs w) := by
  have hl := hk.len
  refine (inTrailers_any HB H (by omega) hk.room.1 hk.room.2 hk.fields.1 hk.fields.2 (by omega) t ht _ (byt_first t)).mono ?_
  rintro e w' ⟨rfl, bs', hd, hg⟩
  exact took_one hk (by omega) ht (by unfold bstep; rw [hm]; rfl) hd hg
end
def feedS (s : DS) (l : List UInt8) : DS := if s.mode = 5 then s else { (eat s l).2 with total := (eat s l).2.total + (eat s l).1 }
def feedN (s : DS) (l : List UInt8) : Int := if s.mode = 5 then 0 else (eat s l).1
def feedE (s : DS) (l : List UInt8) : Int := if s.mode = 5 then 103 else (eat s l).2.err
theorem neq_fn (k : Nat) (W : World) : (binOp .neq 144 (.func (.func k) #[] #[]) .nilFunc).run Tryz.prog W = .ok (.bool true) W := by kernel_rfl
theorem neq_nil (W : World) : (binOp .neq 144 .nilFunc .nilFunc).run Tryz.prog W = .ok (.bool false) W := by kernel_rfl
theorem eql_fn (k : Nat) (W : World) : (binOp .eql 144 (.func (.func k) #[] #[]) .nilFunc).run Tryz.prog W = .ok (.bool false) W := by kernel_rfl
theorem eql_nil (W : World) : (binOp .eql 144 .nilFunc .nilFunc).run Tryz.prog W = .ok (.bool true) W := by kernel_rfl
end Ck
end Go.Proofs.YtdcfhnbagldilaaGreatDoor
set_option linter.unusedVariables false
set_option linter.unusedSimpArgs false
set_option maxRecDepth 100000
namespace Go.Proofs.YtdcfhnbagldilaaGreatDoor
open Go.RowKit Go.Shelf
namespace Ck
open Oc Tg _root_.Go.Proofs.YtdcfhnbagldilaaGreatDoor.Fd
theorem drop_ext (t : ByteArray) (j : Nat) : (t.extract j t.size).data.toList = t.data.toList.drop j := Lib.extract_to_end t j
theorem size_ext (t : ByteArray) (j : Nat) (h : j ≤ t.size) : (t.extract j t.size).size = t.size - j := by
  rw [← size_list, drop_ext, List.length_drop, size_list]
set_option maxHeartbeats 8000000 in
theorem Feed_any {w0 w : World} {D k : Nat} {s : DS} {bs : List Nat} (HB : Base w0 w bs) (H : Dec w D s bs) (hk : Ok s k) (t : ByteArray) (hb : k + t.size ≤ 2147483647) :
    Calls Tryz.prog 73 #[.pointer (some ⟨D, 0, none⟩), .string t] w fun ex w' => ex = .returned (.tuple #[.int .i64 (feedN s t.data.toList), .int .i64 (feedE s t.data.toList)]) ∧ ∃ bs', Dec w' D (feedS s t.data.toList) bs' ∧ Goes bs w bs' w' := by
  have HHB : Hid (Base w0 w bs) := HB
  have HDD : Hid (Dec w D s bs) := H
  have HOK : Hid (Ok s k) := hk
  obtain ⟨vl, vb, vt, c0, c1, c2, c3, c4, c5, c6, c7, c8, c9, c10, cf⟩ := H.cells
  have ef := eql_fn
  have en := eql_nil
  clear c1 c2 c3 c4 c5 c6 c7 c8 c9 c10 cf
  by_cases hm : s.mode = 5
  · rw [hm] at c0
    change w.cell? ⟨D, 0, none⟩ = some .nilFunc at c0
    have HM : Hid (s.mode = 5) := hm
    clear hk H HB hm
    go_enter Tryz.func73, Tryz.ntmps73
    go_wp2
    go_ret2
    unfold feedN feedE feedS
    rw [if_pos HM.out, if_pos HM.out, if_pos HM.out]
    exact ⟨rfl, bs, HDD.out, Goes.refl _ _⟩
  have HM : Hid (s.mode ≠ 5) := hm
  have hf : ∃ f, fnV s.mode = .func (.func f) #[] #[] := by
    rcases mode_cases hk hm with e | e | e | e | e <;> rw [e] <;> exact ⟨_, rfl⟩
  obtain ⟨f, hf⟩ := hf
  rw [hf] at c0
  clear hk H HB hm hf
  go_enter Tryz.func73, Tryz.ntmps73
  go_wp2
  clear c0 ef en
  have nf := neq_fn
  have nn := neq_nil
  go_loopw [6] (fun nv wr => ∃ (j : Nat) (st : DS) (bs1 : List Nat), nv = .int .i64 j ∧ j ≤ t.size ∧ Hid (eat s t.data.toList = (j + (eat st (t.data.toList.drop j)).1, (eat st (t.data.toList.drop j)).2)) ∧ Hid (Ok st (k + j)) ∧ Hid (Dec wr D st bs1) ∧ Hid (Goes bs w bs1 wr)) (fun nv _ => t.size - (intOf nv).toNat)
  case atStart => exact ⟨0, s, bs, rfl, Nat.zero_le _, (by simp : eat s t.data.toList = (0 + (eat s (t.data.toList.drop 0)).1, (eat s (t.data.toList.drop 0)).2)), HOK.out, HDD.out, Goes.refl _ _⟩
  case round =>
    obtain ⟨j, st, bs1, rfl, hj, he, ho, hd, hg⟩ := hrel
    obtain ⟨vl1, vb1, vt1, d0, _, d2, _, _, _, _, d7, _, _, _, df⟩ := hd.out.cells
    have HHg : Hid (Base w0 wr bs1) := HHB.out.goes hg.out
    by_cases hlt : j < t.size
    · by_cases hm : st.mode = 5
      · rw [hm] at d0
        change wr.cell? ⟨D, 0, none⟩ = some .nilFunc at d0
        have HM5 : Hid (st.mode = 5) := hm
        clear hm
        have HEnd : Hid (eat s t.data.toList = (j, st)) := by
          show eat _ _ = _
          rw [he.out, eat_over HM5.out]
          simp
        have HF : Hid (∃ bs', Dec (wr.setCell ⟨D, 7, none⟩ (.int .i64 (st.total + j))) D (feedS s t.data.toList) bs' ∧ Goes bs w bs' (wr.setCell ⟨D, 7, none⟩ (.int .i64 (st.total + j)))) := by
          obtain ⟨xl, xb, xt, HI, hbs⟩ := hd.out
          have hA := HI.at.set 7 (.int .i64 (st.total + j))
          refine ⟨_, ⟨xl, xb, xt, IsD.build HI.str hA ?_ ?_ ?_ ?_ HI.sep, rfl⟩, ?_⟩
          · unfold feedS
            rw [if_neg HM.out, HEnd.out]
            rfl
          · unfold feedS
            rw [if_neg HM.out, HEnd.out]
            exact HI.line
          · unfold feedS
            rw [if_neg HM.out, HEnd.out]
            exact HI.body
          · unfold feedS
            rw [if_neg HM.out, HEnd.out]
            exact HI.tr
          · have hg1 := hg.out
            rw [hbs] at hg1
            exact hg1.trans (goes_ft (hA.ftd _ _ _) (fun g h => .inl h) (fun g h => .inl h) (fun g h => .inl h))
        have ht0 := ho.out.total.1
        have ht1 := ho.out.total.2
        have d2' : (wr.setCell ⟨D, 7, none⟩ (.int .i64 (st.total + j))).cell? ⟨D, 2, none⟩ = some (.int .i64 st.err) := by
          rw [World.cell?_setCell_other (h := fun e => by injection e with _ e _; cases e)]
          exact d2
        go_wp2_with fail
        obtain ⟨w9, hw9⟩ : ∃ w9, w9 = wr.setCell ⟨D, 7, none⟩ (.int .i64 (st.total + j)) := ⟨_, rfl⟩
        rw [← hw9] at HF d2' ⊢
        clear hw9 d0 d2 d7 df
        go_quiet (fail)
        all_goals
          go_wp2
          go_ret2
          have hN : feedN s t.data.toList = j := by unfold feedN; rw [if_neg HM.out, HEnd.out]
          have hE : feedE s t.data.toList = st.err := by unfold feedE; rw [if_neg HM.out, HEnd.out]
          rw [hN, hE]
          obtain ⟨bs9, h9, g9⟩ := HF.out
          have hb9 := bel_drewN (Below.refl w9.heap.size w9) nq
          exact ⟨rfl, bs9, h9.below hb9, g9.trans (Goes.below hb9)⟩
      · have HBD : Hid (Base w0 wr.drew bs1) := HHg.out.below (Below.refl _ _).drew
        have HDd : Hid (Dec wr.drew D st bs1) := hd.out.below (Below.refl _ _).drew
        have hpos : 0 < (t.extract j t.size).size := by rw [size_ext t j hj]; omega
        have hbnd : k + j + (t.extract j t.size).size ≤ 2147483647 := by rw [size_ext t j hj]; omega
        clear d2 d7 df
        rcases mode_cases ho.out hm with hm | hm | hm | hm | hm
        · rw [hm] at d0
          change wr.cell? ⟨D, 0, none⟩ = some (.func (.func 104) #[] #[]) at d0
          go_wp2_with fail
          go_region_with (go_at_call 104; refine (next0 HBD.out HDd.out ho.out hm (t.extract j t.size) hpos hbnd).mono ?_; rintro e w2 ⟨n, s2, bs2, rfl, hn0, hn1, he2, ho2, hd2, hg2⟩; rw [size_ext t j hj] at hn1; rw [drop_ext] at he2; have hwr : IntKind.i64.wrap ((j : Int) + (n : Int)) = (j : Int) + (n : Int) := (by rw [IntKind.wrap_i64]; omega); have HE2 : Hid (eat st (t.data.toList.drop j) = _) := he2; have HO2 : Hid (Ok s2 (k + j + n)) := ho2; have HD2 : Hid (Dec w2 D s2 bs2) := hd2; have HG2 : Hid (Goes bs1 wr.drew bs2 w2) := hg2; clear he2 ho2 hd2 hg2)
          all_goals
            go_simp
            go_roundw
            case rel =>
              refine ⟨_, _, _, _, _, _, _, _, _, _, _, _, _, _, _, _, _, _, _, _, _, _, _, ⟨j + n, s2, bs2, ?_, by omega, ?_, ?_, HD2.out, ?_⟩, rfl⟩
              · go_num
              · show eat _ _ = _
                rw [he.out, HE2.out, List.drop_drop]
                simp; omega
              · show Ok _ _
                rw [show k + (j + n) = k + j + n by omega]
                exact HO2.out
              · exact (hg.out.trans (Goes.below (Below.refl _ _).drew)).trans HG2.out
            case measure => simp [intOf]; omega
        · rw [hm] at d0
          change wr.cell? ⟨D, 0, none⟩ = some (.func (.func 146) #[] #[]) at d0
          go_wp2_with fail
          go_region_with (go_at_call 146; refine (next1 HBD.out HDd.out ho.out hm (t.extract j t.size) hpos hbnd).mono ?_; rintro e w2 ⟨n, s2, bs2, rfl, hn0, hn1, he2, ho2, hd2, hg2⟩; rw [size_ext t j hj] at hn1; rw [drop_ext] at he2; have hwr : IntKind.i64.wrap ((j : Int) + (n : Int)) = (j : Int) + (n : Int) := (by rw [IntKind.wrap_i64]; omega); have HE2 : Hid (eat st (t.data.toList.drop j) = _) := he2; have HO2 : Hid (Ok s2 (k + j + n)) := ho2; have HD2 : Hid (Dec w2 D s2 bs2) := hd2; have HG2 : Hid (Goes bs1 wr.drew bs2 w2) := hg2; clear he2 ho2 hd2 hg2)
          all_goals
            go_simp
            go_roundw
            case rel =>
              refine ⟨_, _, _, _, _, _, _, _, _, _, _, _, _, _, _, _, _, _, _, _, _, _, _, ⟨j + n, s2, bs2, ?_, by omega, ?_, ?_, HD2.out, ?_⟩, rfl⟩
              · go_num
              · show eat _ _ = _
                rw [he.out, HE2.out, List.drop_drop]
                simp; omega
              · show Ok _ _
                rw [show k + (j + n) = k + j + n by omega]
                exact HO2.out
              · exact (hg.out.trans (Goes.below (Below.refl _ _).drew)).trans HG2.out
            case measure => simp [intOf]; omega
        · rw [hm] at d0
          change wr.cell? ⟨D, 0, none⟩ = some (.func (.func 167) #[] #[]) at d0
          go_wp2_with fail
          go_region_with (go_at_call 167; refine (next2 HBD.out HDd.out ho.out hm (t.extract j t.size) hpos hbnd).mono ?_; rintro e w2 ⟨n, s2, bs2, rfl, hn0, hn1, he2, ho2, hd2, hg2⟩; rw [size_ext t j hj] at hn1; rw [drop_ext] at he2; have hwr : IntKind.i64.wrap ((j : Int) + (n : Int)) = (j : Int) + (n : Int) := (by rw [IntKind.wrap_i64]; omega); have HE2 : Hid (eat st (t.data.toList.drop j) = _) := he2; have HO2 : Hid (Ok s2 (k + j + n)) := ho2; have HD2 : Hid (Dec w2 D s2 bs2) := hd2; have HG2 : Hid (Goes bs1 wr.drew bs2 w2) := hg2; clear he2 ho2 hd2 hg2)
          all_goals
            go_simp
            go_roundw
            case rel =>
              refine ⟨_, _, _, _, _, _, _, _, _, _, _, _, _, _, _, _, _, _, _, _, _, _, _, ⟨j + n, s2, bs2, ?_, by omega, ?_, ?_, HD2.out, ?_⟩, rfl⟩
              · go_num
              · show eat _ _ = _
                rw [he.out, HE2.out, List.drop_drop]
                simp; omega
              · show Ok _ _
                rw [show k + (j + n) = k + j + n by omega]
                exact HO2.out
              · exact (hg.out.trans (Goes.below (Below.refl _ _).drew)).trans HG2.out
            case measure => simp [intOf]; omega
        · rw [hm] at d0
          change wr.cell? ⟨D, 0, none⟩ = some (.func (.func 190) #[] #[]) at d0
          go_wp2_with fail
          go_region_with (go_at_call 190; refine (next3 HBD.out HDd.out ho.out hm (t.extract j t.size) hpos hbnd).mono ?_; rintro e w2 ⟨n, s2, bs2, rfl, hn0, hn1, he2, ho2, hd2, hg2⟩; rw [size_ext t j hj] at hn1; rw [drop_ext] at he2; have hwr : IntKind.i64.wrap ((j : Int) + (n : Int)) = (j : Int) + (n : Int) := (by rw [IntKind.wrap_i64]; omega); have HE2 : Hid (eat st (t.data.toList.drop j) = _) := he2; have HO2 : Hid (Ok s2 (k + j + n)) := ho2; have HD2 : Hid (Dec w2 D s2 bs2) := hd2; have HG2 : Hid (Goes bs1 wr.drew bs2 w2) := hg2; clear he2 ho2 hd2 hg2)
          all_goals
            go_simp
            go_roundw
            case rel =>
              refine ⟨_, _, _, _, _, _, _, _, _, _, _, _, _, _, _, _, _, _, _, _, _, _, _, ⟨j + n, s2, bs2, ?_, by omega, ?_, ?_, HD2.out, ?_⟩, rfl⟩
              · go_num
              · show eat _ _ = _
                rw [he.out, HE2.out, List.drop_drop]
                simp; omega
              · show Ok _ _
                rw [show k + (j + n) = k + j + n by omega]
                exact HO2.out
              · exact (hg.out.trans (Goes.below (Below.refl _ _).drew)).trans HG2.out
            case measure => simp [intOf]; omega
        · rw [hm] at d0
          change wr.cell? ⟨D, 0, none⟩ = some (.func (.func 145) #[] #[]) at d0
          go_wp2_with fail
          go_region_with (go_at_call 145; refine (next4 HBD.out HDd.out ho.out hm (t.extract j t.size) hpos hbnd).mono ?_; rintro e w2 ⟨n, s2, bs2, rfl, hn0, hn1, he2, ho2, hd2, hg2⟩; rw [size_ext t j hj] at hn1; rw [drop_ext] at he2; have hwr : IntKind.i64.wrap ((j : Int) + (n : Int)) = (j : Int) + (n : Int) := (by rw [IntKind.wrap_i64]; omega); have HE2 : Hid (eat st (t.data.toList.drop j) = _) := he2; have HO2 : Hid (Ok s2 (k + j + n)) := ho2; have HD2 : Hid (Dec w2 D s2 bs2) := hd2; have HG2 : Hid (Goes bs1 wr.drew bs2 w2) := hg2; clear he2 ho2 hd2 hg2)
          all_goals
            go_simp
            go_roundw
            case rel =>
              refine ⟨_, _, _, _, _, _, _, _, _, _, _, _, _, _, _, _, _, _, _, _, _, _, _, ⟨j + n, s2, bs2, ?_, by omega, ?_, ?_, HD2.out, ?_⟩, rfl⟩
              · go_num
              · show eat _ _ = _
                rw [he.out, HE2.out, List.drop_drop]
                simp; omega
              · show Ok _ _
                rw [show k + (j + n) = k + j + n by omega]
                exact HO2.out
              · exact (hg.out.trans (Goes.below (Below.refl _ _).drew)).trans HG2.out
            case measure => simp [intOf]; omega
    · have HZ : Hid (t.data.toList.drop j = []) := List.drop_eq_nil_of_le (by rw [size_list]; omega)
      have HEnd : Hid (eat s t.data.toList = (j, st)) := by
        show eat _ _ = _
        rw [he.out, HZ.out, eat_nil]
        simp
      have HF : Hid (∃ bs', Dec (wr.setCell ⟨D, 7, none⟩ (.int .i64 (st.total + j))) D (feedS s t.data.toList) bs' ∧ Goes bs w bs' (wr.setCell ⟨D, 7, none⟩ (.int .i64 (st.total + j)))) := by
        obtain ⟨xl, xb, xt, HI, hbs⟩ := hd.out
        have hA := HI.at.set 7 (.int .i64 (st.total + j))
        refine ⟨_, ⟨xl, xb, xt, IsD.build HI.str hA ?_ ?_ ?_ ?_ HI.sep, rfl⟩, ?_⟩
        · unfold feedS
          rw [if_neg HM.out, HEnd.out]
          rfl
        · unfold feedS
          rw [if_neg HM.out, HEnd.out]
          exact HI.line
        · unfold feedS
          rw [if_neg HM.out, HEnd.out]
          exact HI.body
        · unfold feedS
          rw [if_neg HM.out, HEnd.out]
          exact HI.tr
        · have hg1 := hg.out
          rw [hbs] at hg1
          exact hg1.trans (goes_ft (hA.ftd _ _ _) (fun g h => .inl h) (fun g h => .inl h) (fun g h => .inl h))
      have ht0 := ho.out.total.1
      have ht1 := ho.out.total.2
      have d2' : (wr.setCell ⟨D, 7, none⟩ (.int .i64 (st.total + j))).cell? ⟨D, 2, none⟩ = some (.int .i64 st.err) := by
        rw [World.cell?_setCell_other (h := fun e => by injection e with _ e _; cases e)]
        exact d2
      go_wp2_with fail
      obtain ⟨w9, hw9⟩ : ∃ w9, w9 = wr.setCell ⟨D, 7, none⟩ (.int .i64 (st.total + j)) := ⟨_, rfl⟩
      rw [← hw9] at HF d2' ⊢
      clear hw9 d0 d2 d7 df
      go_quiet (fail)
      all_goals
        go_wp2
        go_ret2
        have hN : feedN s t.data.toList = j := by unfold feedN; rw [if_neg HM.out, HEnd.out]
        have hE : feedE s t.data.toList = st.err := by unfold feedE; rw [if_neg HM.out, HEnd.out]
        rw [hN, hE]
        obtain ⟨bs9, h9, g9⟩ := HF.out
        have hb9 := bel_drewN (Below.refl w9.heap.size w9) nq
        exact ⟨rfl, bs9, h9.below hb9, g9.trans (Goes.below hb9)⟩
end Ck
end Go.Proofs.YtdcfhnbagldilaaGreatDoor
