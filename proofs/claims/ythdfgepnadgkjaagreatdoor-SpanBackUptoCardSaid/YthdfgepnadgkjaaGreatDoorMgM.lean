/-
  span.Merge.
-/
import Derived.Test.YthdfgepnadgkjaaGreatDoorZzU
set_option linter.unusedVariables false
set_option linter.unusedSimpArgs false
namespace Go.Proofs.YthdfgepnadgkjaaGreatDoor
open Go.RowKit
namespace Sn
open Oc

theorem sc_other {w : World} {g i j : Nat} {v : Value} (h : i ≠ j) : (w.setCell ⟨g, i, none⟩ v).cell? ⟨g, j, none⟩ = w.cell? ⟨g, j, none⟩ := World.cell?_setCell_other w _ _ _ (by intro e; injection e with _ e2; exact h e2)
theorem sc_same {w : World} {p : Addr} {u v : Value} (h : w.cell? p = some u) : (w.setCell p v).cell? p = some v := World.cell?_setCell_same w _ _ h
theorem RC.below {w w' : World} {g : Nat} {d : List Sp} (h : RC w g d) (b : Below w.heap.size w w') : RC w' g d := by
  intro j hj
  obtain ⟨c0, c1, f0, f1⟩ := h j hj
  have hl : g < w.heap.size := World.block_lt_of_cell? w _ c0
  refine ⟨by rw [b.cell hl]; exact c0, by rw [b.cell hl]; exact c1, ?_, ?_⟩
  · rw [← f0]; unfold World.frozen?; rw [b.block g hl]
  · rw [← f1]; unfold World.frozen?; rw [b.block g hl]
theorem RC.set {w : World} {g : Nat} {d : List Sp} (h : RC w g d) (i : Nat) (hi : i < d.length) (a b : Int) : RC ((w.setCell ⟨g, i * 2, none⟩ (.int .i64 a)).setCell ⟨g, i * 2 + 1, none⟩ (.int .i64 b)) g (d.set i (a, b)) := by
  intro j hj
  rw [List.length_set] at hj
  obtain ⟨c0, c1, f0, f1⟩ := h j hj
  refine ⟨?_, ?_, by simpa using f0, by simpa using f1⟩
  · by_cases hij : i = j
    · subst hij
      have e : nthN (d.set i (a, b)) i = (a, b) := by unfold nthN; simp [hi]
      rw [e, sc_other (by omega), sc_same c0]
    · have e : nthN (d.set i (a, b)) j = nthN d j := by unfold nthN; rw [List.getD_eq_getElem?_getD, List.getD_eq_getElem?_getD, List.getElem?_set_ne hij]
      rw [e, sc_other (by omega), sc_other (by omega)]
      exact c0
  · by_cases hij : i = j
    · subst hij
      have e : nthN (d.set i (a, b)) i = (a, b) := by unfold nthN; simp [hi]
      rw [e, sc_same (u := .int .i64 (nthN d i).2) (by rw [sc_other (by omega)]; exact c1)]
    · have e : nthN (d.set i (a, b)) j = nthN d j := by unfold nthN; rw [List.getD_eq_getElem?_getD, List.getD_eq_getElem?_getD, List.getElem?_set_ne hij]
      rw [e, sc_other (by omega), sc_other (by omega)]
      exact c1
theorem RC.set1 {w : World} {g : Nat} {d : List Sp} (h : RC w g d) (i : Nat) (hi : i < d.length) (b : Int) : RC (w.setCell ⟨g, i * 2 + 1, none⟩ (.int .i64 b)) g (d.set i ((nthN d i).1, b)) := by
  intro j hj
  rw [List.length_set] at hj
  obtain ⟨c0, c1, f0, f1⟩ := h j hj
  refine ⟨?_, ?_, by simpa using f0, by simpa using f1⟩
  · rw [sc_other (by omega), c0]
    by_cases hij : i = j
    · subst hij
      unfold nthN
      simp [hi]
    · unfold nthN
      rw [List.getD_eq_getElem?_getD, List.getD_eq_getElem?_getD, List.getD_eq_getElem?_getD, List.getElem?_set_ne hij]
  · by_cases hij : i = j
    · subst hij
      rw [sc_same c1]
      unfold nthN
      simp [hi]
    · rw [sc_other (by omega), c1]
      unfold nthN
      rw [List.getD_eq_getElem?_getD, List.getD_eq_getElem?_getD, List.getElem?_set_ne hij]
theorem RC.rd {w : World} {g n c : Nat} {d acc : List Sp} (h : RC w g d) (hn : n ≤ d.length) (ha : d.take n = acc) (hl : acc.length = n) (hc : n ≤ c) : RdN (.slice (some ⟨g, 0, none⟩) n c) acc w := by
  refine ⟨some ⟨g, 0, none⟩, c, by rw [hl], .inr ⟨g, 0, rfl, by omega, fun j hj => ?_⟩⟩
  obtain ⟨c0, c1, _, _⟩ := h j (by omega)
  have e : nthN acc j = nthN d j := by
    rw [← ha]
    unfold nthN
    rw [List.getD_eq_getElem?_getD, List.getD_eq_getElem?_getD, List.getElem?_take, if_pos (by omega)]
  rw [e, Nat.zero_add]
  exact ⟨c0, c1⟩
theorem inN_perm {s t : List Sp} (h : s.Perm t) (p : Int) : inN s p = inN t p := by
  rw [Bool.eq_iff_iff, inN_t, inN_t]
  exact ⟨fun ⟨x, hx, r⟩ => ⟨x, h.mem_iff.1 hx, r⟩, fun ⟨x, hx, r⟩ => ⟨x, h.mem_iff.2 hx, r⟩⟩
theorem inN_filter (d : List Sp) (p : Int) : inN (d.filter (fun x => !emp x)) p = inN d p := by
  rw [Bool.eq_iff_iff, inN_t, inN_t]
  constructor
  · rintro ⟨x, hx, r⟩
    exact ⟨x, (List.mem_filter.1 hx).1, r⟩
  · rintro ⟨x, hx, r1, r2⟩
    refine ⟨x, List.mem_filter.2 ⟨hx, ?_⟩, r1, r2⟩
    unfold emp
    simp
    omega
/-- What Merge gives: spans that rise and don't touch, with the same bytes. -/
def MrgOf (d m : List Sp) : Prop := Norm m ∧ (∀ p, inN m p = inN d p) ∧ m.length ≤ d.length

set_option maxRecDepth 100000 in
set_option maxHeartbeats 4000000 in
theorem Merge_any (v : Value) (d : List Sp) (hd : d.length ≤ 1048576) (w : World) (hrd : RdN v d w) :
    Calls Tryz.prog 7 #[v] w fun e w' => ∃ u m, e = .returned u ∧ RdN u m w' ∧ MrgOf d m ∧ Below w.heap.size w w' := by
  have HR : Hid (RdN v d w) := hrd
  obtain ⟨va, vc, rfl, hcs⟩ := hrd
  have hmk := run_mkN w d.length (by omega)
  obtain ⟨w1, hw1⟩ : ∃ w1, w1 = w.alloc (.cells (encN (List.replicate d.length (0, 0))).toArray 38 (0, 0)) := ⟨_, rfl⟩
  rw [← hw1] at hmk
  have HW1 : Hid (RW 38 w1 w.heap.size (List.replicate d.length (0, 0))) := (by rw [hw1]; exact heap_alloc_new w _ : RW _ _ _ _)
  have HB1 : Hid (Below w.heap.size w w1) := (by rw [hw1]; exact (Below.refl _ w).alloc (Nat.le_refl _) _ : Below _ _ _)
  have hz1 : w1.heap.size = w.heap.size + 1 := by rw [hw1]; simp
  clear hw1
  generalize hg : w.heap.size = g at *
  -- the copy
  have hcp : ∃ w2, (Builtin.copy_ #[22, 22] 3 #[.slice (some ⟨g, 0, none⟩) d.length d.length, .slice va d.length vc]).run Tryz.prog w1 = .ok (goInt d.length) w2 ∧ RW 38 w2 g d ∧ Below g w w2 ∧ g < w2.heap.size := by
    rcases hcs with h | ⟨g0, o, rfl, hlc, hcell⟩
    · subst h
      obtain ⟨i0, hi, hz0, hz1', hz2⟩ := info_parts infoN
      refine ⟨w1, ?_, HW1.out, HB1.out, by omega⟩
      cases va with
      | none => simp [Builtin.copy_, run_underlying Tryz.underlying22, Builtin.lenOf, Builtin.firstCells, sizeOf, typeInfo, hi, hz1', storeCells]
      | some a =>
        have hl0 := run_loadCells_list (P := Tryz.prog) w1 a [] (by simp)
        simp only [List.length_nil] at hl0
        simp [Builtin.copy_, run_underlying Tryz.underlying22, Builtin.lenOf, Builtin.firstCells, sizeOf, typeInfo, hi, hz1', storeCells, hl0]
    · have hsrc : ∀ j v, (encN d)[j]? = some v → w1.cell? ((⟨g0, o, none⟩ : Addr).add j) = some v := fun j v hv => by
        have hj : j < d.length * 2 := by rw [← encN_len]; exact (List.getElem?_eq_some_iff.1 hv).1
        obtain ⟨c0, c1⟩ := hcell (j / 2) (by omega)
        obtain ⟨e0, e1⟩ := encN_at d (j / 2) (by omega)
        have ea : (⟨g0, o, none⟩ : Addr).add j = ⟨g0, o + j, none⟩ := by unfold Addr.add; split <;> simp_all
        have hlt : g0 < g := by rw [← hg]; exact World.block_lt_of_cell? w _ c0
        rw [ea, HB1.out.cell hlt]
        rcases (show j = j / 2 * 2 ∨ j = j / 2 * 2 + 1 by omega) with h | h
        · rw [h] at hv ⊢
          rw [e0] at hv
          rw [← hv]
          exact c0
        · rw [h] at hv ⊢
          rw [e1] at hv
          rw [← hv]
          exact c1
      have hr := run_copyN w1 3 g d.length d.length vc ⟨g0, o, none⟩ (List.replicate d.length (0, 0)) d HW1.out (by simp) rfl hsrc
      refine ⟨_, hr, HW1.out.setRow d, below_setRow HB1.out (Nat.le_refl _) _, by simp [World.setRow]; omega⟩
  obtain ⟨w2, hcp2, hrw2, hb2, hg2⟩ := hcp
  have HRW2 : Hid (RW 38 w2 g d) := hrw2
  have HB2 : Hid (Below g w w2) := hb2
  have HDF : Hid (Calls _ _ _ w2 _) := DeleteFunc_e g d.length d.length d rfl (by omega) (Nat.le_refl _) w2 hrw2
  have hflen : (d.filter (fun x => !emp x)).length ≤ d.length := List.length_filter_le _ _
  clear hrw2 hb2 hcs
  obtain ⟨F, hF⟩ : ∃ F, F = d.filter (fun x => !emp x) := ⟨_, rfl⟩
  rw [← hF] at hflen HDF
  have HIF : Hid (∀ p, inN F p = inN d p) := (fun p => by rw [hF]; exact inN_filter d p : ∀ p, _)
  have HPF : Hid (∀ x ∈ F, x.1 < x.2) := (fun x hx => by
    rw [hF] at hx
    have := (List.mem_filter.1 hx).2
    unfold emp at this
    simp at this
    omega : ∀ x ∈ F, _)
  clear hF
  obtain ⟨m, hm⟩ : ∃ m, m = F.length := ⟨_, rfl⟩
  rw [← hm] at hflen HDF
  have HM : Hid (F.length = m) := hm.symm
  clear hm
  go_enter Tryz.func7, Tryz.ntmps7
  go_wp2_with fail
  refine HDF.out.mono ?_
  rintro e w3 ⟨d3, rfl, hrw3, hl3, ht3, hb3⟩
  have hg3 := hrw3.lt
  have hrc3 : RC w3 g F := hrw3.rc (m := m) (by omega) ht3.symm
  have HSF : Hid (Calls _ _ _ w3 _) := SortFunc_s g m d.length F HM.out (by omega) w3 hrc3 hg3
  have HB3 : Hid (Below g w w3) := HB2.out.trans hb3
  clear hrw3 hl3 ht3 hb3 hrc3
  go_wp2_with fail
  refine HSF.out.mono ?_
  rintro e w4 ⟨rfl, d4, hp4, hs4, hrc4, hb4⟩
  have HB4 : Hid (Below g w w4) := HB3.out.trans hb4
  have hg4 : g < w4.heap.size := by have := hb4.size; omega
  have hl4 : d4.length = m := by rw [hp4.length_eq]; exact HM.out
  have HS4 : Hid (∀ i j, i < j → j < m → (nthN d4 i).1 ≤ (nthN d4 j).1) := hs4
  have HPm : Hid (d4.Perm F) := hp4
  have HPos : Hid (∀ j, j < m → (nthN d4 j).1 < (nthN d4 j).2) := (fun j hj => HPF.out _ (hp4.mem_iff.1 (by rw [nthN_mem (by omega)]; exact List.getElem_mem _)) : ∀ j, _)
  have HRC4 : Hid (RC w4 g d4) := hrc4
  clear hs4 hrc4 hb4 hp4
  go_wp2
  go_loopw [4, 19] (fun nv iv wr => ∃ (k n : Nat) (d' : List Sp), k ≤ m ∧ n ≤ k ∧ nv = .int .i64 n ∧ iv = .int .i64 k ∧ Hid (RC wr g d') ∧ d'.length = m ∧ Hid (∃ M, MInv (d4.take k) (d'.take n) M ∧ ∀ j, k ≤ j → j < m → M ≤ (nthN d4 j).1) ∧ Hid (∀ j, k ≤ j → nthN d' j = nthN d4 j) ∧ Hid (Below g w wr) ∧ g < wr.heap.size) (fun _ iv _ => m - (intOf iv).toNat)
  case atStart =>
    refine ⟨0, 0, d4, Nat.zero_le _, Nat.le_refl _, rfl, rfl, HRC4, hl4, ?_, (fun j _ => rfl : ∀ j, _), HB4, hg4⟩
    show ∃ M, MInv (d4.take 0) (d4.take 0) M ∧ ∀ j, 0 ≤ j → j < m → M ≤ (nthN d4 j).1
    refine ⟨(nthN d4 0).1, by simpa using MInv.start _, fun j _ hj => ?_⟩
    by_cases h0 : j = 0
    · subst h0; exact Int.le_refl _
    · exact HS4.out 0 j (by omega) hj
  case round =>
    obtain ⟨k, n, d', hk, hnk, rfl, rfl, hrc, hl', hinv, hrest, hbl, hgr⟩ := hrel
    by_cases hlt : k < m
    · obtain ⟨p0, p1, _, _⟩ := hrc.out k (by omega)
      have hx := hrest.out k (Nat.le_refl _)
      rw [hx] at p0 p1
      clear hx
      have hpos := HPos.out k hlt
      have htk : d4.take (k + 1) = d4.take k ++ [nthN d4 k] := by rw [List.take_succ_eq_append_getElem (by omega), nthN_mem]
      have HST : Hid (∃ M, MInv (d4.take (k + 1)) (stepM (d'.take n) (nthN d4 k)) M ∧ ∀ j, k + 1 ≤ j → j < m → M ≤ (nthN d4 j).1) := by
        obtain ⟨M, h1, h2⟩ := hinv.out
        show ∃ M, MInv (d4.take (k + 1)) (stepM (d'.take n) (nthN d4 k)) M ∧ ∀ j, k + 1 ≤ j → j < m → M ≤ (nthN d4 j).1
        refine ⟨(nthN d4 k).1, ?_, fun j hj hjm => HS4.out k j (by omega) hjm⟩
        rw [htk]
        exact (h1.mono (h2 k (Nat.le_refl _) hlt)).step hpos
      clear htk hpos
      obtain ⟨X, hX⟩ : ∃ X, X = nthN d4 k := ⟨_, rfl⟩
      rw [← hX] at p0 p1 HST
      clear hX
      obtain ⟨x1, x2⟩ := X
      dsimp only at *
      obtain ⟨w5, hw5⟩ : ∃ w5, w5 = wr.alloc (.cells #[.int .i64 x1, .int .i64 x2] 38) := ⟨_, rfl⟩
      have HP5 : Hid (PB 38 w5 wr.heap.size (x1, x2)) := (by rw [hw5]; exact PB.new _ wr (x1, x2) : PB _ _ _ _)
      have HB5 : Hid (Below wr.heap.size wr w5) := (by rw [hw5]; exact (Below.refl _ wr).alloc (Nat.le_refl _) _ : Below _ _ _)
      have HRC5 : Hid (RC w5 g d') := hrc.out.below HB5.out
      have HBg : Hid (Below g w w5) := hbl.out.trans (HB5.out.mono (by omega))
      have hgw5 : g < w5.heap.size := by have := HB5.out.size; omega
      have q0 := HP5.out.c0
      have q1 := HP5.out.c1
      have hne : wr.heap.size ≠ g := by omega
      generalize hgx : wr.heap.size = gx at *
      go_wp2_with fail
      rw [← hw5]
      clear hw5
      have n0' : (0 : Int) ≤ (n : Int) := by omega
      have n1' : (n : Int) < (m : Int) := by omega
      by_cases hjoin : ∃ i, i + 1 = n ∧ x1 ≤ (nthN d' i).2
      · obtain ⟨i, hi, hle⟩ := hjoin
        have hsub : ((n : Int) - 1) = (i : Int) := by omega
        have hwi : IntKind.i64.wrap (i : Int) = (i : Int) := by rw [IntKind.wrap_i64]; omega
        have i0 : (0 : Int) ≤ (i : Int) := by omega
        have i1 : (i : Int) < (m : Int) := by omega
        have hpos : decide ((0 : Int) < (n : Int)) = true := by simp; omega
        have hdl : decide (x1 ≤ (nthN d' i).2) = true := by simp [hle]
        have hposN : decide (0 < n) = true := by simp; omega
        have hposP : 0 < n := by omega
        obtain ⟨r0, r1, s0, s1⟩ := HRC5.out i (by omega)
        have HSJ : Hid (stepM (d'.take n) (x1, x2) = (d'.set i ((nthN d' i).1, max (nthN d' i).2 x2)).take n) := (by
          have hla : (d'.take n).getLast? = some (nthN d' i) := by
            rw [← hi, List.take_succ_eq_append_getElem (by omega), nthN_mem (by omega), List.getLast?_concat]
          rw [stepM_join hla hle, ← hi]
          have e1 : (d'.take (i + 1)).dropLast = d'.take i := by
            rw [List.take_succ_eq_append_getElem (by omega), List.dropLast_concat]
          rw [e1, List.take_succ_eq_append_getElem (by simp; omega), List.take_set_of_le (Nat.le_refl _)]
          simp : _ = _)
        clear hle
        go_quiet (fail)
        obtain ⟨w6, hw6⟩ : ∃ w6, w6 = w5.drewN nq := ⟨_, rfl⟩
        have HB56 : Hid (Below w5.heap.size w5 w6) := (by rw [hw6]; exact ⟨rfl, rfl, rfl, Nat.le_refl _, fun _ _ => rfl⟩ : Below _ _ _)
        rw [← hw6]
        clear hw6
        have HRC6 : Hid (RC w6 g d') := HRC5.out.below HB56.out
        have HP6 : Hid (PB _ _ _ _) := HP5.out.below HB56.out
        have HBg6 : Hid (Below g w w6) := HBg.out.trans (HB56.out.mono (by omega))
        have hgw6 : g < w6.heap.size := by have := HB56.out.size; omega
        clear r0 r1 s0 s1 q0 q1
        have HBd : Hid (Below w6.heap.size w6 w6.drew) := ⟨rfl, rfl, rfl, Nat.le_refl _, fun _ _ => rfl⟩
        obtain ⟨r0, r1, s0, s1⟩ := HRC6.out.below HBd.out i (by omega)
        have q1 := (HP6.out.below HBd.out).c1
        go_wp2_with fail
        go_region
        all_goals
          obtain ⟨w7, hw7⟩ : ∃ w7, w7 = (w6.setCell ⟨g, i * 2 + 1, none⟩ (.int .i64 (max (nthN d' i).2 x2))).drew := ⟨_, rfl⟩
          have HR7 : Hid (RC w7 g (d'.set i ((nthN d' i).1, max (nthN d' i).2 x2))) := (by
            rw [hw7]
            exact (HRC6.out.set1 i (by omega) (max (nthN d' i).2 x2)).below ⟨rfl, rfl, rfl, Nat.le_refl _, fun _ _ => rfl⟩ : RC _ _ _)
          have HB7 : Hid (Below g w w7) := (by
            rw [hw7]
            exact (HBg6.out.setCell (Nat.le_refl _) _).trans ⟨rfl, rfl, rfl, Nat.le_refl _, fun _ _ => rfl⟩ : Below _ _ _)
          have hgw7 : g < w7.heap.size := by rw [hw7]; simpa using hgw6
          have HN7 : Hid (∀ j, k + 1 ≤ j → nthN (d'.set i ((nthN d' i).1, max (nthN d' i).2 x2)) j = nthN d4 j) := (fun j hj => by
            rw [← hrest.out j (by omega)]
            simp only [nthN, List.getD_eq_getElem?_getD]
            rw [List.getElem?_set_ne (by omega)] : ∀ j, _)
          have HI7 : Hid (∃ M, MInv (d4.take (k + 1)) ((d'.set i ((nthN d' i).1, max (nthN d' i).2 x2)).take n) M ∧ ∀ j, k + 1 ≤ j → j < m → M ≤ (nthN d4 j).1) := (by rw [← HSJ.out]; exact HST.out : ∃ M, _)
          rw [← hw7]
          clear hw7
          go_wp2
          go_roundw
          case rel => exact ⟨k + 1, n, d'.set i ((nthN d' i).1, max (nthN d' i).2 x2), by omega, by omega, rfl, by go_num, HR7, by simp [hl'], HI7, HN7, HB7, hgw7⟩
          case measure => simp [intOf]; omega
      · have hpush : stepM (d'.take n) (x1, x2) = (d'.set n (x1, x2)).take (n + 1) := by
          rw [stepM_push (fun y hy => ?_)]
          · rw [List.take_succ_eq_append_getElem (by simp; omega), List.take_set_of_le (Nat.le_refl _)]
            simp
          · rcases Nat.eq_zero_or_pos n with h0 | h0
            · subst h0; simp at hy
            · obtain ⟨i, hi⟩ : ∃ i, i + 1 = n := ⟨n - 1, by omega⟩
              rw [← hi, List.take_succ_eq_append_getElem (by omega), List.getLast?_concat, ← nthN_mem (by omega)] at hy
              injection hy with hy
              subst hy
              rcases Int.lt_or_le (nthN d' i).2 x1 with h | h
              · exact h
              · exact absurd ⟨i, hi, h⟩ hjoin
        have HI7 : Hid (∃ M, MInv (d4.take (k + 1)) ((d'.set n (x1, x2)).take (n + 1)) M ∧ ∀ j, k + 1 ≤ j → j < m → M ≤ (nthN d4 j).1) := (by rw [← hpush]; exact HST.out : ∃ M, _)
        clear hpush
        have HN7 : Hid (∀ j, k + 1 ≤ j → nthN (d'.set n (x1, x2)) j = nthN d4 j) := (fun j hj => by
          rw [← hrest.out j (by omega)]
          unfold nthN
          rw [List.getD_eq_getElem?_getD, List.getD_eq_getElem?_getD, List.getElem?_set_ne (by omega)] : ∀ j, _)
        have hcond : decide (0 < n) = false ∨ (decide (0 < n) = true ∧ ∃ i, i + 1 = n ∧ (nthN d' i).2 < x1) := by
          rcases Nat.eq_zero_or_pos n with h0 | h0
          · left; simp [h0]
          · right
            refine ⟨by simp; omega, n - 1, by omega, ?_⟩
            rcases Int.lt_or_le (nthN d' (n - 1)).2 x1 with h | h
            · exact h
            · exact absurd ⟨n - 1, by omega, h⟩ hjoin
        clear hjoin
        rcases hcond with hNd | ⟨hNd, i, hi, hgt⟩
        · have hNi : decide ((0 : Int) < (n : Int)) = false := by simpa using hNd
          go_quiet (fail)
          obtain ⟨w6, hw6⟩ : ∃ w6, w6 = w5.drewN nq := ⟨_, rfl⟩
          have HB56 : Hid (Below w5.heap.size w5 w6) := (by rw [hw6]; exact ⟨rfl, rfl, rfl, Nat.le_refl _, fun _ _ => rfl⟩ : Below _ _ _)
          rw [← hw6]
          clear hw6
          have HRC6 : Hid (RC w6 g d') := HRC5.out.below HB56.out
          have HP6 : Hid (PB _ _ _ _) := HP5.out.below HB56.out
          have HBg6 : Hid (Below g w w6) := HBg.out.trans (HB56.out.mono (by omega))
          have hgw6 : g < w6.heap.size := by have := HB56.out.size; omega
          have y0 := HP6.out.c0
          have y1 := HP6.out.c1
          obtain ⟨t0, t1, u0, u1⟩ := HRC6.out n (by omega)
          obtain ⟨w7, hw7⟩ : ∃ w7, w7 = (w6.setCell ⟨g, n * 2, none⟩ (.int .i64 x1)).setCell ⟨g, n * 2 + 1, none⟩ (.int .i64 x2) := ⟨_, rfl⟩
          have HR7 : Hid (RC w7 g (d'.set n (x1, x2))) := (by rw [hw7]; exact HRC6.out.set n (by omega) x1 x2 : RC _ _ _)
          have HB7 : Hid (Below g w w7) := (by rw [hw7]; exact (HBg6.out.setCell (Nat.le_refl _) _).setCell (Nat.le_refl _) _ : Below _ _ _)
          have hgw7 : g < w7.heap.size := by rw [hw7]; simpa using hgw6
          go_wp2_with fail
          rw [← hw7]
          clear hw7
          go_wp2
          go_roundw
          case rel => exact ⟨k + 1, n + 1, d'.set n (x1, x2), by omega, by omega, by go_num, by go_num, HR7, by simp [hl'], HI7, HN7, HB7, hgw7⟩
          case measure => simp [intOf]; omega
        · have hNi : decide ((0 : Int) < (n : Int)) = true := by simpa using hNd
          have hsub : ((n : Int) - 1) = (i : Int) := by omega
          have hwi : IntKind.i64.wrap (i : Int) = (i : Int) := by rw [IntKind.wrap_i64]; omega
          have i0 : (0 : Int) ≤ (i : Int) := by omega
          have i1 : (i : Int) < (m : Int) := by omega
          have hposP : 0 < n := by omega
          have hdl : decide (x1 ≤ (nthN d' i).2) = false := by simp; omega
          obtain ⟨r0, r1, s0, s1⟩ := HRC5.out i (by omega)
          go_quiet (fail)
          obtain ⟨w6, hw6⟩ : ∃ w6, w6 = w5.drewN nq := ⟨_, rfl⟩
          have HB56 : Hid (Below w5.heap.size w5 w6) := (by rw [hw6]; exact ⟨rfl, rfl, rfl, Nat.le_refl _, fun _ _ => rfl⟩ : Below _ _ _)
          rw [← hw6]
          clear hw6
          have HRC6 : Hid (RC w6 g d') := HRC5.out.below HB56.out
          have HP6 : Hid (PB _ _ _ _) := HP5.out.below HB56.out
          have HBg6 : Hid (Below g w w6) := HBg.out.trans (HB56.out.mono (by omega))
          have hgw6 : g < w6.heap.size := by have := HB56.out.size; omega
          have y0 := HP6.out.c0
          have y1 := HP6.out.c1
          obtain ⟨t0, t1, u0, u1⟩ := HRC6.out n (by omega)
          obtain ⟨w7, hw7⟩ : ∃ w7, w7 = (w6.setCell ⟨g, n * 2, none⟩ (.int .i64 x1)).setCell ⟨g, n * 2 + 1, none⟩ (.int .i64 x2) := ⟨_, rfl⟩
          have HR7 : Hid (RC w7 g (d'.set n (x1, x2))) := (by rw [hw7]; exact HRC6.out.set n (by omega) x1 x2 : RC _ _ _)
          have HB7 : Hid (Below g w w7) := (by rw [hw7]; exact (HBg6.out.setCell (Nat.le_refl _) _).setCell (Nat.le_refl _) _ : Below _ _ _)
          have hgw7 : g < w7.heap.size := by rw [hw7]; simpa using hgw6
          go_wp2_with fail
          rw [← hw7]
          clear hw7
          go_wp2
          go_roundw
          case rel => exact ⟨k + 1, n + 1, d'.set n (x1, x2), by omega, by omega, by go_num, by go_num, HR7, by simp [hl'], HI7, HN7, HB7, hgw7⟩
          case measure => simp [intOf]; omega
    · obtain rfl : k = m := by omega
      have hrd := hrc.out.rd (n := n) (c := d.length) (acc := d'.take n) (by omega) rfl (by rw [List.length_take]; omega) (by omega)
      have HRD : Hid (RdN _ _ wr) := hrd
      have HMO : Hid (MrgOf d (d'.take n)) := (by
        obtain ⟨M, h1, _⟩ := hinv.out
        refine ⟨h1.norm, fun p => ?_, by rw [List.length_take]; omega⟩
        rw [h1.same p, List.take_of_length_le (by omega), inN_perm HPm.out p]
        exact HIF.out p : MrgOf _ _)
      clear hrd
      go_wp2
      go_ret
      exact ⟨_, _, rfl, HRD.out, HMO.out, hbl.out⟩

end Sn
end Go.Proofs.YthdfgepnadgkjaaGreatDoor
