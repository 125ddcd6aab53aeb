/-
  Liking: how much a media type is liked by ranges.
-/
import Derived.Test.YthfckgdaencagaaGreatDoorAOr
import Derived.Test.YthfckgdaencagaaGreatDoorANb
import Derived.Deep.RegionWith
set_option maxRecDepth 100000
set_option linter.unusedVariables false
set_option linter.unusedSimpArgs false
namespace Go.Proofs.YthfckgdaencagaaGreatDoor
open Go.RowKit Go.Shelf
namespace Ac
open Oc Tg

theorem RdMd.below {W W' : World} {g o : Nat} {m : Md} (h : RdMd W g o m) (b : Below W.heap.size W W') : RdMd W' g o m := by
  obtain ⟨h1, h2, u, h3, h4, h5⟩ := h
  exact ⟨(b.cell (World.block_lt_of_cell? W _ h1)).trans h1, (b.cell (World.block_lt_of_cell? W _ h2)).trans h2, u, (b.cell (World.block_lt_of_cell? W _ h3)).trans h3, h4.below b, h5⟩
theorem RdRg.below {W W' : World} {v : Value} {t : List Rng} (h : RdRg v t W) (b : Below W.heap.size W W') : RdRg v t W' := by
  obtain ⟨a, c, rfl, h⟩ := h
  refine ⟨a, c, rfl, ?_⟩
  rcases h with h | ⟨g, o, e, hc, hcell⟩
  · exact .inl h
  · refine .inr ⟨g, o, e, hc, fun j hj => ?_⟩
    obtain ⟨⟨h1, h2⟩, h3⟩ := hcell j hj
    exact ⟨⟨h1.below b, (b.cell (World.block_lt_of_cell? W _ h2)).trans h2⟩, h3⟩
def OkMd (m : Md) : Prop := m.ty.size ≤ maxLen ∧ m.sub.size ≤ maxLen ∧ EachP maxLen m.ps ∧ m.ps.length ≤ 16777216
theorem OkRg.at {t : List Rng} (h : ∀ r ∈ t, OkMd r.md) {k : Nat} (hk : k < t.length) : OkMd (nthR t k).md := by
  have e : nthR t k = t[k] := by unfold nthR; rw [List.getD_eq_getElem?_getD, List.getElem?_eq_getElem hk]; rfl
  rw [e]
  exact h _ (List.getElem_mem hk)
theorem mets_len (t : List Rng) (m : Md) (k : Nat) : (mets (t.take k) m).length ≤ k := by
  unfold mets
  rw [List.length_map]
  exact Nat.le_trans (List.length_filter_le _ _) (by simp; omega)
def ce3 (x : Int × Int × Int) : Array Value := #[.int .i64 x.1, .int .i64 x.2.1, .int .i64 x.2.2]

@[go_sem] theorem eqNrw (a b c d e f : Int) (w : World) : (Op.equalIn 10000 98 (.agg #[.int .i64 a, .int .i64 b, .int .i64 c]) (.agg #[.int .i64 d, .int .i64 e, .int .i64 f])).run Tryz.prog w = .ok (a == d && (b == e && c == f)) w := by
  have u3 := Tryz.underlying3
  have a3 := Tryz.isAgg3
  have z3 := Tryz.sizeOf3
  rw [show (10000 : Nat) = 9999 + 1 from rfl, Op.equalIn]
  simp only [Sem.run_bind, run_underlying Tryz.underlying98, Result.andThen_ok]
  simp only [Std.Legacy.Range.forIn_eq_forIn_range', Std.Legacy.Range.size, Nat.sub_zero, Nat.add_sub_cancel, Nat.div_one, List.range'_succ, List.range'_zero, List.forIn_cons, List.forIn_nil]
  go_simp
  by_cases h1 : a = d <;> by_cases h2 : b = e <;> by_cases h3 : c = f <;> simp [h1, h2, h3]

set_option maxHeartbeats 4000000 in
theorem Liking_any (v u : Value) (t : List Rng) (m : Md) (ht : ∀ r ∈ t, OkMd r.md) (hm : OkMd m) (hl : t.length ≤ 16777216) (w : World) (hv : RdRg v t w) (hu : RdP u m.ps w) :
    Calls Tryz.prog 23 #[v, .agg #[.string m.ty, .string m.sub, u]] w fun e w' => e = .returned (.int .i64 (likM t m)) ∧ Below w.heap.size w w' := by
  have HT : Hid (RdRg v t w) := hv
  have HU : Hid (RdP u m.ps w) := hu
  have HOk : Hid (∀ r ∈ t, OkMd r.md) := ht
  have HOm : Hid (OkMd m) := hm
  obtain ⟨va, vc, rfl, hv⟩ := hv
  obtain ⟨ua, uc, rfl, _⟩ := hu
  clear ht hm
  by_cases hz : t = []
  · subst hz
    have e : likM [] m = 1000 := rfl
    rw [e]
    go_enter Tryz.func23, Tryz.ntmps23
    go_wp2
    go_ret
    exact ⟨rfl, (Below.refl _ w).alloc (Nat.le_refl _) _⟩
  have hpos : 0 < t.length := List.length_pos_iff.2 hz
  have hpi : ¬ ((t.length : Int) = 0) := by omega
  have hpb : ((t.length : Int) == 0) = false := by rw [beq_eq_false_iff_ne]; exact hpi
  have HV : Hid (likM t m = fstQ (most (mets t m)) (mets t m)) := (by unfold likM; rw [if_neg hz] : likM t m = _)
  clear hz
  obtain ⟨w2, hw2⟩ : ∃ w2, w2 = (w.alloc (.cells #[.string m.ty, .string m.sub, .slice ua m.ps.length uc] 35)).alloc (.cells #[.int .i64 0, .int .i64 0, .int .i64 0] 98) := ⟨_, rfl⟩
  have HB2 : Hid (Below w.heap.size w w2) := (by rw [hw2]; exact ((Below.refl _ w).alloc (Nat.le_refl _) _).alloc (by simp) _ : Below _ _ _)
  have R1 : Hid (w2.heap[w.heap.size]? = some (.cells #[.string m.ty, .string m.sub, .slice ua m.ps.length uc] 35 (0, 0))) := (by
    rw [hw2, Below.heap_alloc _ _ _ (by simp)]
    exact heap_alloc_new w _ : _ = _)
  have R2 : Hid (w2.heap[w.heap.size + 1]? = some (.cells (ce3 (most (mets (t.take 0) m))) 98 (0, 0))) := (by
    rw [hw2]
    have := heap_alloc_new (w.alloc (.cells #[.string m.ty, .string m.sub, .slice ua m.ps.length uc] 35)) (.cells #[.int .i64 0, .int .i64 0, .int .i64 0] 98)
    rwa [World.size_alloc] at this : _ = _)
  have hz2 : w.heap.size + 2 ≤ w2.heap.size := by rw [hw2]; simp
  generalize likM t m = V at *
  go_enter Tryz.func23, Tryz.ntmps23
  go_wp2
  rw [← hw2]
  clear hw2
  go_loopw [5, 16] (fun mv i wr => ∃ (k : Nat) (ms : List Rw) (a : Option Addr) (c : Nat), k ≤ t.length ∧ mv = .slice a ms.length c ∧ i = .int .i64 k ∧ Hid (OwnO 48 (w.heap.size + 2) (.slice a ms.length c) ms wr) ∧ Hid (ms.map kqO = mets (t.take k) m) ∧ Hid (wr.heap[w.heap.size]? = some (.cells #[.string m.ty, .string m.sub, .slice ua m.ps.length uc] 35 (0, 0))) ∧ Hid (wr.heap[w.heap.size + 1]? = some (.cells (ce3 (most (mets (t.take k) m))) 98 (0, 0))) ∧ Hid (Below w.heap.size w wr) ∧ Hid (w.heap.size + 2 ≤ wr.heap.size)) (fun _ i _ => t.length - (intOf i).toNat)
  case atStart => exact ⟨0, [], none, 0, Nat.zero_le _, rfl, rfl, ownO_nil _ _ _, (by rfl : _ = _), R1, R2, HB2, hz2⟩
  case round =>
    obtain ⟨k, ms, a, c, hk, rfl, rfl, hown, hms, h1, h2, hbl, hsz⟩ := hrel
    by_cases hlt : k < t.length
    · obtain ⟨a', c', e', hcs⟩ := HT.out.below hbl.out
      injection e' with e1 _ e2
      subst e1 e2
      rcases hcs with h | ⟨g, o, rfl, hlc, hcell⟩
      · rw [h] at hlt; simp at hlt
      obtain ⟨⟨⟨p0, p1, u', p2, hrp, _⟩, p3⟩, hq⟩ := hcell k hlt
      have HRp : Hid (RdP u' (nthR t k).md.ps wr) := hrp
      obtain ⟨ra, rc, rfl, _⟩ := hrp
      have hok := OkRg.at HOk.out hlt
      have HUr : Hid (RdP (.slice ua m.ps.length uc) m.ps wr) := HU.out.below hbl.out
      have HC : Hid (∀ W, Below wr.heap.size wr W → Calls Tryz.prog 44 #[.agg #[.string (nthR t k).md.ty, .string (nthR t k).md.sub, .slice ra (nthR t k).md.ps.length rc], .agg #[.string m.ty, .string m.sub, .slice ua m.ps.length uc]] W fun e w' => e = .returned (.bool (metR m (nthR t k))) ∧ Below (World.heap W).size W w') := fun W b => Meets_any _ _ _ _ _ _ _ _ hok.1 hok.2.1 HOm.out.1 HOm.out.2.1 hok.2.2.1 HOm.out.2.2.1 hok.2.2.2 HOm.out.2.2.2 W (HRp.out.below b) (HUr.out.below b)
      have TT : metR m (nthR t k) = true → Hid (mets (t.take (k + 1)) m = mets (t.take k) m ++ [((nmd (nthR t k).md.sub, nmd (nthR t k).md.ty, ((nthR t k).md.ps.length : Int)), (nthR t k).q)]) := fun h => mets_snoc_yes hlt h
      have FF : metR m (nthR t k) = false → Hid (mets (t.take (k + 1)) m = mets (t.take k) m) := fun h => mets_snoc_no hlt h
      have hml : Hid (ms.length + 1 ≤ 2147483648) := (by have := mets_len t m k; rw [← hms.out, List.length_map] at this; omega : ms.length + 1 ≤ 2147483648)
      clear hcell hok hq HRp HUr
      generalize metR m (nthR t k) = b at HC TT FF
      generalize (nthR t k).md.ty = N1 at *
      generalize (nthR t k).md.sub = N2 at *
      generalize (nthR t k).md.ps.length = rn at *
      generalize (nthR t k).q = q at *
      have hb1 : Below wr.heap.size wr (wr.alloc (.cells #[.string N1, .string N2, .slice ra rn rc, .int .i64 q] 48)) := (Below.refl _ wr).alloc (Nat.le_refl _) _
      have HB1 : Hid (Below wr.heap.size wr (wr.alloc (.cells #[.string N1, .string N2, .slice ra rn rc, .int .i64 q] 48))) := hb1
      have hlo : w.heap.size < wr.heap.size := by have := hsz.out; omega
      have m0 := (hb1.cell (p := ⟨w.heap.size, 0, none⟩) hlo).trans (Lib.cell_of_heap h1.out 0)
      have m1 := (hb1.cell (p := ⟨w.heap.size, 1, none⟩) hlo).trans (Lib.cell_of_heap h1.out 1)
      have m2 := (hb1.cell (p := ⟨w.heap.size, 2, none⟩) hlo).trans (Lib.cell_of_heap h1.out 2)
      simp only [List.getElem?_toArray, List.getElem?_cons_zero, List.getElem?_cons_succ] at m0 m1 m2
      clear hb1
      cases b with
      | false =>
        have ff := FF rfl
        clear TT FF
        go_wp2_with fail
        refine (HC.out _ HB1.out).mono ?_
        rintro e w3 ⟨rfl, hb3⟩
        have HB3 : Hid (Below wr.heap.size wr w3) := bel_trans HB1.out hb3
        clear hb3 m0 m1 m2
        go_wp2
        go_roundw
        case rel => exact ⟨k + 1, ms, a, c, by omega, rfl, by go_num, hown.out.below HB3.out, (by rw [ff.out]; exact hms.out : _ = _), (HB3.out.block _ hlo).trans h1.out, (by rw [ff.out]; exact (HB3.out.block _ (by have := hsz.out; omega)).trans h2.out : _ = _), bel_trans hbl.out HB3.out, (Nat.le_trans hsz.out HB3.out.size : _ ≤ _)⟩
        case measure => simp [intOf]; omega
      | true =>
        have tt := TT rfl
        clear TT FF
        go_wp2_with fail
        refine (HC.out _ HB1.out).mono ?_
        rintro e w3 ⟨rfl, hb3⟩
        have HB3 : Hid (Below wr.heap.size wr w3) := bel_trans HB1.out hb3
        have K8 : Hid (w3.heap[wr.heap.size]? = some (.cells #[.string N1, .string N2, .slice ra rn rc, .int .i64 q] 48 (0, 0))) := (hb3.block _ (by simp)).trans (heap_alloc_new wr _)
        have hz3 : Hid (wr.heap.size < w3.heap.size) := (by have := hb3.size; simp at this; omega : wr.heap.size < w3.heap.size)
        clear hb3 m0 m1 m2
        have K0 : Hid (w3.heap[w.heap.size]? = some (.cells #[.string m.ty, .string m.sub, .slice ua m.ps.length uc] 35 (0, 0))) := (HB3.out.block _ hlo).trans h1.out
        have K1 : Hid (w3.heap[w.heap.size + 1]? = some (.cells (ce3 (most (mets (t.take k) m))) 98 (0, 0))) := (HB3.out.block _ (by have := hsz.out; omega)).trans h2.out
        have O3 : Hid (OwnO 48 (w.heap.size + 2) (.slice a ms.length c) ms w3) := hown.out.below HB3.out
        have HWr : Hid (Below w.heap.size w w3) := bel_trans hbl.out HB3.out
        have HNe : Hid ((Value.slice a ms.length c).ownBlock ≠ some wr.heap.size) := (fun e => Nat.lt_irrefl _ (hown.out.lt e) : _ ≠ _)
        have y0 := Lib.cell_of_heap K8.out 0
        have y1 := Lib.cell_of_heap K8.out 1
        have y2 := Lib.cell_of_heap K8.out 2
        have y3 := Lib.cell_of_heap K8.out 3
        simp only [List.getElem?_toArray, List.getElem?_cons_zero, List.getElem?_cons_succ] at y0 y1 y2 y3
        have hB3 : w.heap.size + 2 ≤ w3.heap.size := by have := hsz.out; have := hz3.out; omega
        clear hown h1 h2 hbl HB3
        go_wp2_with (at_builtin; go_must (refine wp_appO 48 23 infoO Tryz.underlying23 rfl (.tmp 24) (.tmp 26) rfl (w.heap.size + 2) (.slice a ms.length c) ms _ ⟨N1, N2, ra, rn, rc, q⟩ rfl O3.out _ (by simp [Act.eval, Act.put]) rfl hml.out hB3 ?_; intro v7 w7 hown7 hb7 hkeep; have L0 : Hid (w7.heap[w.heap.size]? = some (.cells #[.string m.ty, .string m.sub, .slice ua m.ps.length uc] 35 (0, 0))) := (hb7.block _ (by omega)).trans K0.out; have L1 : Hid (w7.heap[w.heap.size + 1]? = some (.cells (ce3 (most (mets (t.take k) m))) 98 (0, 0))) := (hb7.block _ (by omega)).trans K1.out; have L8 : Hid (w7.heap[wr.heap.size]? = some (.cells #[.string N1, .string N2, .slice ra rn rc, .int .i64 q] 48 (0, 0))) := (hkeep _ hz3.out HNe.out).trans K8.out; have HO7 : Hid (OwnO 48 (w.heap.size + 2) v7 (ms ++ [⟨N1, N2, ra, rn, rc, q⟩]) w7) := hown7; have HB7 : Hid (Below w.heap.size w w7) := HWr.out.trans (hb7.mono (by omega)); have hz7 : Hid (w.heap.size + 2 ≤ w7.heap.size ∧ wr.heap.size < w7.heap.size) := (by have := hb7.size; have := hz3.out; exact ⟨by omega, by omega⟩ : _ ∧ _); obtain ⟨u7, c7, rfl, _⟩ := OwnO.rd HO7.out; clear hown7 hb7 hkeep y0 y1 y2 y3 hB3))
        have hX : Hid (∀ W, Below w7.heap.size w7 W → W.heap[w.heap.size + 1]? = some (.cells (ce3 (most (mets (t.take k) m))) 98 (0, 0)) ∧ W.heap[wr.heap.size]? = some (.cells #[.string N1, .string N2, .slice ra rn rc, .int .i64 q] 48 (0, 0))) := fun W b => ⟨(b.block _ (by have := hz7.out; omega)).trans L1.out, (b.block _ hz7.out.2).trans L8.out⟩
        have HM1 : Hid (most (mets (t.take (k + 1)) m) = gr3 (most (mets (t.take k) m)) (nmd N2, nmd N1, (rn : Int))) := (by rw [tt.out, most_snoc] : _ = _)
        have HMs : Hid ((ms ++ [(⟨N1, N2, ra, rn, rc, q⟩ : Rw)]).map kqO = mets (t.take (k + 1)) m) := (by rw [tt.out, List.map_append, hms.out]; rfl : _ = _)
        clear L1 L8 tt hms K0 K1 K8 O3 HWr HNe
        generalize most (mets (t.take k) m) = X at *
        obtain ⟨x0, x1, x2⟩ := X
        have HG : Hid (∀ W, Calls Tryz.prog 45 #[.agg #[.int .i64 x0, .int .i64 x1, .int .i64 x2], .agg #[.int .i64 (nmd N2), .int .i64 (nmd N1), .int .i64 (rn : Int)]] W fun e w' => e = .returned (ag3 (gr3 (x0, x1, x2) (nmd N2, nmd N1, (rn : Int)))) ∧ Below (World.heap W).size W w') := fun W => greater_any (x0, x1, x2) (nmd N2, nmd N1, (rn : Int)) W
        have HNa : Hid (∀ W, Calls Tryz.prog 46 #[.agg #[.string N1, .string N2, .slice ra rn rc]] W fun e w' => e = .returned (.agg #[.int .i64 (nmd N2), .int .i64 (nmd N1), .int .i64 (rn : Int)]) ∧ Below (World.heap W).size W w') := fun W => narrownessOf_any N1 N2 ra rn rc W
        generalize gr3 (x0, x1, x2) (nmd N2, nmd N1, (rn : Int)) = G at *
        obtain ⟨g0, g1, g2⟩ := G
        obtain ⟨q1, q8⟩ := hX.out w7 (Below.refl _ _)
        have y0 := Lib.cell_of_heap q8 0
        have y1 := Lib.cell_of_heap q8 1
        have y2 := Lib.cell_of_heap q8 2
        have z0 := Lib.cell_of_heap q1 0
        have z1 := Lib.cell_of_heap q1 1
        have z2 := Lib.cell_of_heap q1 2
        simp only [ce3, List.getElem?_toArray, List.getElem?_cons_zero, List.getElem?_cons_succ] at y0 y1 y2 z0 z1 z2
        clear q1 q8
        go_wp2_with fail
        go_region_with (first
          | (go_at_call 46; refine (HNa.out _).mono ?_; rintro e w8 ⟨rfl, hb8⟩; have H8 : Hid (Below w7.heap.size w7 w8) := (by first | exact hb8 | exact bel_trans (Below.refl _ _).drew hb8 : Below _ _ _); obtain ⟨q1, q8⟩ := hX.out _ H8.out; have z0 := Lib.cell_of_heap q1 0; have z1 := Lib.cell_of_heap q1 1; have z2 := Lib.cell_of_heap q1 2; simp only [ce3, List.getElem?_toArray, List.getElem?_cons_zero, List.getElem?_cons_succ] at z0 z1 z2; clear q1 q8 hb8)
          | (go_at_call 45; refine (HG.out _).mono ?_; rintro e w9 ⟨rfl, hb9⟩; have H9 : Hid (Below w7.heap.size w7 w9) := (by first | exact bel_trans H8.out hb9 : Below _ _ _); obtain ⟨q1, q8⟩ := hX.out _ H9.out; have z0 := Lib.cell_of_heap q1 0; have z1 := Lib.cell_of_heap q1 1; have z2 := Lib.cell_of_heap q1 2; have f0 := Lib.frozen_of_heap q1 0; have f1 := Lib.frozen_of_heap q1 1; have f2 := Lib.frozen_of_heap q1 2; have Q1 : Hid (w9.heap[w.heap.size + 1]? = some (.cells #[.int .i64 x0, .int .i64 x1, .int .i64 x2] 98 (0, 0))) := q1; simp only [ce3, List.getElem?_toArray, List.getElem?_cons_zero, List.getElem?_cons_succ] at z0 z1 z2; clear q1 q8 hb9; unfold ag3))
        all_goals
          go_wp2
          go_roundw
          case rel =>
            refine ⟨k + 1, ms ++ [⟨N1, N2, ra, rn, rc, q⟩], u7, c7, by omega, by simp, by go_num, ?_, HMs, ?_, ?_, ?_, ?_⟩
            · exact (((HO7.out.below H9.out).setBelow (a := ⟨w.heap.size + 1, 0, none⟩) (by simp) _).setBelow (a := ⟨w.heap.size + 1, 1, none⟩) (by simp) _).setBelow (a := ⟨w.heap.size + 1, 2, none⟩) (by simp) _
            · have e0 := (H9.out.block _ (by have := hz7.out; omega)).trans L0.out
              exact (heap_setCell_other _ ⟨w.heap.size + 1, 2, none⟩ _ _ (by simp)).trans ((heap_setCell_other _ ⟨w.heap.size + 1, 1, none⟩ _ _ (by simp)).trans ((heap_setCell_other _ ⟨w.heap.size + 1, 0, none⟩ _ _ (by simp)).trans e0))
            · show _ = _
              rw [HM1.out]
              exact set3g Q1.out
            · exact (((bel_trans HB7.out H9.out).setCell (p := ⟨w.heap.size + 1, 0, none⟩) (by simp) _).setCell (p := ⟨w.heap.size + 1, 1, none⟩) (by simp) _).setCell (p := ⟨w.heap.size + 1, 2, none⟩) (by simp) _
            · show _ ≤ _
              simp only [World.size_setCell]
              exact Nat.le_trans hz7.out.1 H9.out.size
          case measure => simp [intOf]; omega
    · obtain rfl : k = t.length := by omega
      rw [List.take_length] at hms h2
      have HV2 : Hid (V = fstQ (most (mets t m)) (ms.map kqO)) := (by rw [hms.out]; exact HV.out : _ = _)
      have hml : ms.length ≤ 16777216 := by have := mets_len t m t.length; rw [List.take_length, ← hms.out, List.length_map] at this; omega
      generalize most (mets t m) = X at *
      obtain ⟨x0, x1, x2⟩ := X
      have HO : Hid (RdO (.slice a ms.length c) ms wr) := hown.out.rd
      have hX : Hid (∀ W, Below wr.heap.size wr W → W.heap[w.heap.size + 1]? = some (.cells #[.int .i64 x0, .int .i64 x1, .int .i64 x2] 98 (0, 0))) := fun W b => (b.block _ (by have := hsz.out; omega)).trans h2.out
      clear hown h1 h2 hms
      obtain ⟨wp, rfl⟩ : ∃ wp, wp = wr := ⟨_, rfl⟩
      go_wp2
      go_loopw [36] (fun i wq => ∃ j : Nat, j ≤ ms.length ∧ i = .int .i64 j ∧ Hid (∀ i, i < j → nrwO (nthO ms i) ≠ (x0, x1, x2)) ∧ Hid (Below wp.heap.size wp wq)) (fun i _ => ms.length - (intOf i).toNat)
      case atStart => exact ⟨0, Nat.zero_le _, rfl, (fun j hj => absurd hj (Nat.not_lt_zero _) : ∀ j, j < 0 → _), Below.refl _ _⟩
      case round =>
        obtain ⟨j, hj, rfl, hall, hbq⟩ := hrel
        by_cases hjl : j < ms.length
        · obtain ⟨a', c', e', hcs⟩ := HO.out.below hbq.out
          injection e' with e1 _ e2
          subst e1 e2
          rcases hcs with h | ⟨g, o, rfl, hlc, hcell⟩
          · rw [h] at hjl; simp at hjl
          obtain ⟨p0, p1, p2, p3⟩ := hcell j hjl
          have HNa : Hid (∀ W, Calls Tryz.prog 46 #[.agg #[.string (nthO ms j).ty, .string (nthO ms j).sub, .slice (nthO ms j).a (nthO ms j).n (nthO ms j).c]] W fun e w' => e = .returned (.agg #[.int .i64 (nmd (nthO ms j).sub), .int .i64 (nmd (nthO ms j).ty), .int .i64 ((nthO ms j).n : Int)]) ∧ Below (World.heap W).size W w') := fun W => narrownessOf_any _ _ _ _ _ W
          have YY : (nmd (nthO ms j).sub, nmd (nthO ms j).ty, ((nthO ms j).n : Int)) = (x0, x1, x2) → Hid (V = (nthO ms j).q) := fun h => (by
            have e := fstQ_at (x := (x0, x1, x2)) (l := ms.map kqO) (k := j) (by simpa using hjl) (fun i hi => by rw [kqO_at (by omega)]; exact hall.out i hi) (by rw [kqO_at hjl]; exact h)
            rw [HV2.out, e, kqO_at hjl]
            rfl : V = _)
          have NN : (nmd (nthO ms j).sub, nmd (nthO ms j).ty, ((nthO ms j).n : Int)) ≠ (x0, x1, x2) → Hid (∀ i, i < j + 1 → nrwO (nthO ms i) ≠ (x0, x1, x2)) := fun h => (fun i hi => by
            rcases Nat.lt_or_ge i j with h' | h'
            · exact hall.out i h'
            · obtain rfl : i = j := by omega
              exact h : ∀ i, i < j + 1 → _)
          clear hcell hall
          generalize (nthO ms j).ty = N1 at *
          generalize (nthO ms j).sub = N2 at *
          generalize (nthO ms j).a = ra at *
          generalize (nthO ms j).n = rn at *
          generalize (nthO ms j).c = rc at *
          generalize (nthO ms j).q = q at *
          have hb1 : Below wr.heap.size wr (wr.alloc (.cells #[.string N1, .string N2, .slice ra rn rc, .int .i64 q] 48)) := (Below.refl _ wr).alloc (Nat.le_refl _) _
          have HB1 : Hid (Below wp.heap.size wp (wr.alloc (.cells #[.string N1, .string N2, .slice ra rn rc, .int .i64 q] 48))) := bel_trans hbq.out hb1
          have q1 := hX.out _ HB1.out
          have z0 := Lib.cell_of_heap q1 0
          have z1 := Lib.cell_of_heap q1 1
          have z2 := Lib.cell_of_heap q1 2
          simp only [List.getElem?_toArray, List.getElem?_cons_zero, List.getElem?_cons_succ] at z0 z1 z2
          generalize hn0 : nmd N2 = n0 at *
          generalize hn1 : nmd N1 = n1 at *
          clear q1 hb1 hn0 hn1
          go_wp2_with fail
          go_region_with (go_at_call 46; refine (HNa.out _).mono ?_; rintro e w8 ⟨rfl, hb8⟩; have c3 : w8.cell? ⟨wr.heap.size, 3, none⟩ = some (.int .i64 q) := (by rw [hb8.cell (by simp)]; simp); have H8 : Hid (Below wp.heap.size wp w8) := (by first | exact bel_trans HB1.out hb8 | exact bel_trans HB1.out (bel_trans (Below.refl _ _).drew hb8) : Below _ _ _); have q1 := hX.out _ H8.out; have z0 := Lib.cell_of_heap q1 0; have z1 := Lib.cell_of_heap q1 1; have z2 := Lib.cell_of_heap q1 2; simp only [List.getElem?_toArray, List.getElem?_cons_zero, List.getElem?_cons_succ] at z0 z1 z2; clear q1 hb8)
          all_goals
            by_cases he : (n0, n1, (rn : Int)) = (x0, x1, x2)
            · have yy := YY he
              clear YY NN
              have hb : (n0 == x0 && (n1 == x1 && (rn : Int) == x2)) = true := by
                injection he with e0 e12
                injection e12 with e1 e2
                rw [e0, e1, e2]
                simp
              rw [hb]
              go_wp2
              go_ret
              exact ⟨by rw [yy.out]; rfl, bel_trans hbl.out H8.out⟩
            · have nn := NN he
              clear YY NN
              have hb : (n0 == x0 && (n1 == x1 && (rn : Int) == x2)) = false := by
                rw [Bool.eq_false_iff]
                intro h
                simp at h
                exact he (by rw [h.1, h.2.1, h.2.2])
              rw [hb]
              go_wp2
              go_roundw
              case rel => exact ⟨j + 1, by omega, by go_num, nn, H8⟩
              case measure => simp [intOf]; omega
        · obtain rfl : j = ms.length := by omega
          have hv0 : V = 0 := by
            rw [HV2.out]
            exact fstQ_none (fun i hi => by rw [List.length_map] at hi; rw [kqO_at hi]; exact hall.out i hi)
          subst hv0
          go_wp2
          go_ret
          exact ⟨rfl, bel_trans hbl.out hbq.out⟩

end Ac
end Go.Proofs.YthfckgdaencagaaGreatDoor
