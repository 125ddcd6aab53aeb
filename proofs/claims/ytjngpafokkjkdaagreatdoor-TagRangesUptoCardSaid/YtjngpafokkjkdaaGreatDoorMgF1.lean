/- Several texts as one. -/
import Derived.Test.YtjngpafokkjkdaaGreatDoorMgE1
import Derived.Test.YtjngpafokkjkdaaGreatDoorMgJ
import Derived.Deep.RegionHeld3
import Derived.Test.YtjngpafokkjkdaaGreatDoorRows
import Derived.Test.YtjngpafokkjkdaaGreatDoorMgO
import Derived.OpenShut
import Derived.SliceStrings
import Derived.Carry
import Derived.Deep.Strs
/-
  The law's own plain and state (written by mktlw.py).
-/
set_option linter.unusedVariables false
set_option linter.unusedSimpArgs false
namespace Go.Proofs.YtjngpafokkjkdaaGreatDoor
open Go.RowKit Go.Shelf
namespace Fd
open Oc Tg

set_option maxRecDepth 100000 in
set_option maxHeartbeats 2000000 in
theorem plain8_any (v : Value) (t : List Fl) (w : World) (h : RdF v t w) (hl : t.length ≤ 16777216) :
    Calls Tryz.prog 8 #[v] w fun e w' => ∃ u, e = .returned u ∧ OwnF 56 w.heap.size u t w' ∧ Below w.heap.size w w' := by
  have HR : Hid (RdF v t w) := h
  obtain ⟨a, c, rfl, _⟩ := h
  go_enter Tryz.func8, Tryz.ntmps8
  go_wp2
  go_loopw [3, 8] (fun ov i wr => ∃ k : Nat, k ≤ t.length ∧ i = .int .i64 k ∧ Hid (OwnF 56 w.heap.size ov (t.take k) wr) ∧ Hid (Below w.heap.size w wr)) (fun _ i _ => t.length - (intOf i).toNat)
  case atStart => exact ⟨0, Nat.zero_le _, rfl, ownF_nil _ _ _, Below.refl _ _⟩
  case round =>
    obtain ⟨k, hk, rfl, hown, hbl⟩ := hrel
    have hsz := hbl.out.size
    by_cases hlt : k < t.length
    · obtain ⟨a', c', e', hcs⟩ := HR.out.below hbl.out
      injection e' with e1 _ e2
      subst e1 e2
      rcases hcs with h | ⟨g, o, rfl, hlc, hcell⟩
      · rw [h] at hlt; simp at hlt
      obtain ⟨p0, p1⟩ := hcell k hlt
      have HTk : Hid (t.take (k + 1) = t.take k ++ [nth t k]) := take_nth t k hlt
      have hlk : (t.take k).length + 1 ≤ 2147483648 := by rw [List.length_take]; omega
      generalize nth t k = p at *
      obtain ⟨pn, pv⟩ := p
      dsimp only at p0 p1
      generalize hn : str pn = N at p0
      generalize hv : str pv = V at p1
      have HN : Hid (N = str pn) := hn.symm
      have HV : Hid (V = str pv) := hv.symm
      have hb1 : Below wr.heap.size wr (wr.alloc (.cells #[.string N, .string V] 31)) := (Below.refl _ wr).alloc (Nat.le_refl _) _
      have HO1 : Hid (OwnF 56 w.heap.size _ (t.take k) (wr.alloc (.cells #[.string N, .string V] 31))) := hown.out.below hb1
      have HB1 : Hid (Below w.heap.size w (wr.alloc (.cells #[.string N, .string V] 31))) := bel_trans hbl.out hb1
      have hs1 : w.heap.size ≤ (wr.alloc (.cells #[.string N, .string V] 31)).heap.size := HB1.out.size
      clear hcell hn hv hb1
      go_wp2_with (at_builtin; go_must (refine wp_appF 56 34 infoF2 Tryz.underlying34 rfl (.tmp 12) (.tmp 18) rfl w.heap.size _ (t.take k) _ (pn, pv) _ _ HN.out HV.out rfl HO1.out _ rfl (by simp) hlk hs1 ?_); intro v6 w6 hown6 hb6)
      have HO6 : Hid (OwnF 56 w.heap.size v6 (t.take (k + 1)) w6) := (by rw [HTk.out]; exact hown6 : OwnF _ _ v6 (t.take (k + 1)) w6)
      have HB6 : Hid (Below w.heap.size w w6) := HB1.out.trans hb6
      clear hown6 hb6
      go_roundw
      case rel => exact ⟨k + 1, by omega, by go_num, HO6, HB6⟩
      case measure => simp [intOf]; omega
    · obtain rfl : k = t.length := by omega
      rw [List.take_length] at hown
      go_wp2
      go_ret
      exact ⟨_, rfl, hown.out, hbl.out⟩


end Fd

namespace Tt
open Oc Tg

set_option maxRecDepth 100000 in
set_option maxHeartbeats 4000000 in
theorem state8_any (s : St) (w : World) :
    Calls Tryz.prog 9 #[.agg #[.bool s.th, .bool s.own.1, .string (str s.own.2), .bool s.tg, .int .i64 s.tm, .bool s.td]] w fun e w' => e = .returned (.agg #[.bool s.th, .bool s.own.1, .string (str s.own.2), .bool s.tg, .int .i64 s.tm, .bool s.td]) ∧ Below w.heap.size w w' := by
  obtain ⟨th, own, tg, tm, td⟩ := s
  obtain ⟨ob, ot⟩ := own
  dsimp only
  generalize str ot = OT at *
  obtain ⟨w1, hw1⟩ : ∃ w1, w1 = w.alloc (.cells #[.bool th, .bool ob, .string OT, .bool tg, .int .i64 tm, .bool td] 28) := ⟨_, rfl⟩
  obtain ⟨w2, hw2⟩ : ∃ w2, w2 = w1.alloc (.cells #[.bool false, .bool false, .string ⟨#[]⟩, .bool false, .int .i64 0, .bool false] 38) := ⟨_, rfl⟩
  have z1 : w1.heap.size = w.heap.size + 1 := by rw [hw1]; simp
  have HB2 : Hid (Below w.heap.size w w2) := (by rw [hw2, hw1]; exact ((Below.refl _ w).alloc (Nat.le_refl _) _).alloc (by simp) _ : Below _ _ _)
  have R0 : w2.heap[w.heap.size]? = some (.cells #[.bool th, .bool ob, .string OT, .bool tg, .int .i64 tm, .bool td] 28 (0, 0)) := by
    rw [hw2, Lib.alloc_old w1 _ _ (by omega), hw1]; exact heap_alloc_new w _
  have R1 : w2.heap[w.heap.size + 1]? = some (.cells #[.bool false, .bool false, .string ⟨#[]⟩, .bool false, .int .i64 0, .bool false] 38 (0, 0)) := by
    rw [hw2, ← z1]; exact heap_alloc_new w1 _
  have HK : Hid (∀ W : World, Below w2.heap.size w2 W → (W.cell? ⟨w.heap.size, 0, none⟩ = some (.bool th) ∧ W.cell? ⟨w.heap.size, 1, none⟩ = some (.bool ob) ∧ W.cell? ⟨w.heap.size, 2, none⟩ = some (.string OT) ∧ W.cell? ⟨w.heap.size, 3, none⟩ = some (.bool tg) ∧ W.cell? ⟨w.heap.size, 4, none⟩ = some (.int .i64 tm) ∧ W.cell? ⟨w.heap.size, 5, none⟩ = some (.bool td))) := fun W hb => by
    have R := (hb.block _ (Array.getElem?_eq_some_iff.1 R0).1).trans R0
    exact ⟨by have := Lib.cell_of_heap R 0; simpa using this, by have := Lib.cell_of_heap R 1; simpa using this, by have := Lib.cell_of_heap R 2; simpa using this, by have := Lib.cell_of_heap R 3; simpa using this, by have := Lib.cell_of_heap R 4; simpa using this, by have := Lib.cell_of_heap R 5; simpa using this⟩
  have HR : Hid (∀ W : World, Below w2.heap.size w2 W → W.heap[w.heap.size + 1]? = some (.cells #[.bool false, .bool false, .string ⟨#[]⟩, .bool false, .int .i64 0, .bool false] 38 (0, 0))) := fun W hb => (hb.block _ (Array.getElem?_eq_some_iff.1 R1).1).trans R1
  have HKd : Hid (∀ W : World, (W.cell? ⟨w.heap.size, 0, none⟩ = some (.bool th) ∧ W.cell? ⟨w.heap.size, 1, none⟩ = some (.bool ob) ∧ W.cell? ⟨w.heap.size, 2, none⟩ = some (.string OT) ∧ W.cell? ⟨w.heap.size, 3, none⟩ = some (.bool tg) ∧ W.cell? ⟨w.heap.size, 4, none⟩ = some (.int .i64 tm) ∧ W.cell? ⟨w.heap.size, 5, none⟩ = some (.bool td)) → (W.drew.cell? ⟨w.heap.size, 0, none⟩ = some (.bool th) ∧ W.drew.cell? ⟨w.heap.size, 1, none⟩ = some (.bool ob) ∧ W.drew.cell? ⟨w.heap.size, 2, none⟩ = some (.string OT) ∧ W.drew.cell? ⟨w.heap.size, 3, none⟩ = some (.bool tg) ∧ W.drew.cell? ⟨w.heap.size, 4, none⟩ = some (.int .i64 tm) ∧ W.drew.cell? ⟨w.heap.size, 5, none⟩ = some (.bool td))) := fun W h => h
  have HKs : Hid (∀ (W : World) (i : Nat) (v : Value), (W.cell? ⟨w.heap.size, 0, none⟩ = some (.bool th) ∧ W.cell? ⟨w.heap.size, 1, none⟩ = some (.bool ob) ∧ W.cell? ⟨w.heap.size, 2, none⟩ = some (.string OT) ∧ W.cell? ⟨w.heap.size, 3, none⟩ = some (.bool tg) ∧ W.cell? ⟨w.heap.size, 4, none⟩ = some (.int .i64 tm) ∧ W.cell? ⟨w.heap.size, 5, none⟩ = some (.bool td)) → ((W.setCell ⟨w.heap.size + 1, i, none⟩ v).cell? ⟨w.heap.size, 0, none⟩ = some (.bool th) ∧ (W.setCell ⟨w.heap.size + 1, i, none⟩ v).cell? ⟨w.heap.size, 1, none⟩ = some (.bool ob) ∧ (W.setCell ⟨w.heap.size + 1, i, none⟩ v).cell? ⟨w.heap.size, 2, none⟩ = some (.string OT) ∧ (W.setCell ⟨w.heap.size + 1, i, none⟩ v).cell? ⟨w.heap.size, 3, none⟩ = some (.bool tg) ∧ (W.setCell ⟨w.heap.size + 1, i, none⟩ v).cell? ⟨w.heap.size, 4, none⟩ = some (.int .i64 tm) ∧ (W.setCell ⟨w.heap.size + 1, i, none⟩ v).cell? ⟨w.heap.size, 5, none⟩ = some (.bool td))) := fun W i v h => by
    obtain ⟨h0, h1, h2, h3, h4, h5⟩ := h
    refine ⟨?_, ?_, ?_, ?_, ?_, ?_⟩
    all_goals
      rw [World.cell?_of_block (w := W) (heap_setCell_other W _ _ _ (by simp))]
      assumption
  have HBn : Hid (Below w2.heap.size w2 w2) := Below.refl _ _
  have HRf : Hid (∀ W, _) := fun W => ref_any ob OT W
  have k0 := HK.out w2 (Below.refl _ _)
  have r1 := HR.out w2 (Below.refl _ _)
  have hbd : Hid (Below w2.heap.size w2 w2.drew) := ⟨rfl, rfl, rfl, Nat.le_refl _, fun _ _ => rfl⟩
  have d0 := HK.out w2.drew hbd.out
  have r2 := HR.out w2.drew hbd.out
  obtain ⟨k0, k1, k2, k3, k4, k5⟩ := k0
  obtain ⟨d0, d1, d2, d3, d4, d5⟩ := d0
  clear R0 R1
  go_enter Tryz.func9, Tryz.ntmps9
  go_wp2_with fail
  rw [← hw1, ← hw2]
  clear hw1 hw2
  go_region_held3 (fun W => (W.cell? ⟨w.heap.size, 0, none⟩ = some (.bool th) ∧ W.cell? ⟨w.heap.size, 1, none⟩ = some (.bool ob) ∧ W.cell? ⟨w.heap.size, 2, none⟩ = some (.string OT) ∧ W.cell? ⟨w.heap.size, 3, none⟩ = some (.bool tg) ∧ W.cell? ⟨w.heap.size, 4, none⟩ = some (.int .i64 tm) ∧ W.cell? ⟨w.heap.size, 5, none⟩ = some (.bool td))) (first | with_reducible exact HK.out _ HBn.out | with_reducible exact HK.out _ hbd.out | ((try with_reducible refine HKd.out _ ?_); (repeat (with_reducible refine HKs.out _ _ _ ?_)); with_reducible exact HK.out _ HBn.out)) (first | (go_at_call 17; refine (HRf.out _).mono ?_; rintro e wn ⟨rfl, hbn⟩; have HBn : Hid (Below w2.heap.size w2 wn) := bel_trans hbd.out hbn; have rn := HR.out _ HBn.out; have f0 := Lib.frozen_of_heap rn 0; have f1 := Lib.frozen_of_heap rn 1; have f2 := Lib.frozen_of_heap rn 2; have f3 := Lib.frozen_of_heap rn 3; have f4 := Lib.frozen_of_heap rn 4; have f5 := Lib.frozen_of_heap rn 5; have x0 := Lib.cell_of_heap rn 0; have x1 := Lib.cell_of_heap rn 1; have x2 := Lib.cell_of_heap rn 2; have x3 := Lib.cell_of_heap rn 3; have x4 := Lib.cell_of_heap rn 4; have x5 := Lib.cell_of_heap rn 5; simp at x0 x1 x2 x3 x4 x5; clear hbn rn))
  all_goals
    go_wp2
    refine bodyPost_ret (v := .agg #[.bool th, .bool ob, .string OT, .bool tg, .int .i64 tm, .bool td]) (by simp [results, Tryz.results9, go_sem, x0, x1, x2, x3, x4, x5]) rfl ?_
    refine ⟨rfl, ?_⟩
    have hbb : Below w.heap.size w wn := HB2.out.trans (HBn.out.mono HB2.out.size)
    (try (with_reducible refine Below.drew ?_))
    repeat (refine Below.setCell ?_ (by show w.heap.size ≤ w.heap.size + 1; omega) _)
    exact hbb

end Tt
end Go.Proofs.YtjngpafokkjkdaaGreatDoor

/-
  The law TagRanges (written by mkwrg.py).
-/
set_option linter.unusedVariables false
set_option linter.unusedSimpArgs false
namespace Go.Proofs.YtjngpafokkjkdaaGreatDoor
open Go.RowKit Go.Shelf
namespace Fd
open Oc Tg

/-- A slice of fields appended to a fresh empty one, in a region that draws its order: nothing that lay is turned. -/
theorem step_appE {ops : Array Oper} {o : Oper} {a : Act} {K : Act → World → Prop} {Q : Exit → Act → World → Prop} {E' : Prop} (hgd : o.guard = none) (s x : Operand)
    (ho : o.op = .call { callee := .builtin .append, args := #[s, x], argTypes := #[22, 22] }) (g : Nat) (y : Value) (u : List Fl) (W : World)
    (hs : a.eval s = .slice (some ⟨g, 0, none⟩) 0 0) (hgw : W.heap[g]? = some (.cells #[] 31 (0, 0))) (hx : a.eval x = y) (hy : InF y u W) (hlen : u.length ≤ 2147483648)
    (h : ∀ v' w', Hid (RdF v' u w') → Hid (Below W.heap.size W w') → K (a.put o.dst v') w') :
    if Region.wanted o (yielded ops a.tmps) = true then Oper.wp Tryz.prog o a W K Q else E' := by
  rw [if_pos (by simp [Region.wanted, hgd])]
  obtain ⟨i0, hi, hz0, hz1, hz2⟩ := info_parts infoF
  obtain ⟨⟨a2, c2, rfl, hr⟩, hnil⟩ := hy
  by_cases hu : u = []
  · subst hu
    rcases hnil rfl with e | ⟨g2, c, e⟩
    · have hown : W.ownsRow 0 31 2 (.slice (some ⟨g, 0, none⟩) 0 0) 0 [] := ⟨rfl, .inr ⟨g, 0, #[], rfl, Nat.zero_le _, hgw, Nat.le_refl _, by decide, by simp, by simp⟩⟩
      have hrun := run_append_owned_none (P := Tryz.prog) (w := W) 0 22 o.type 31 i0 2 Tryz.underlying22 hi _ 0 _ hown
      have hx' : a.eval x = .slice none 0 0 := hx.trans e
      unfold Oper.wp
      simp [execOp, ho, resolve, invoke, builtin, hs, hx', hrun, Result.andThen]
      exact h _ W ⟨_, _, rfl, .inl rfl⟩ (Below.refl _ _)
    · have hrun := run_append_room (P := Tryz.prog) W 22 o.type 31 i0 Tryz.underlying22 hi g 0 0 #[] hgw g2 0 c [] (by simp) (by simp) (by simp) (by simp) (by simp)
      have hx' : a.eval x = .slice (some g2) 0 c := hx.trans e
      unfold Oper.wp
      simp [execOp, ho, resolve, invoke, builtin, hs, hx', Result.andThen] at hrun ⊢
      rw [hrun]
      refine h _ _ ⟨_, _, rfl, .inl rfl⟩ ?_
      refine ⟨rfl, rfl, rfl, by simp [World.setRow], fun k hk => ?_⟩
      by_cases e : k = g
      · subst e
        rw [setRow_heap W k #[] _ 31 (0, 0) hgw, hgw]
      · exact setRow_other W g k _ e
  · rcases hr with hr | ⟨g2, o', rfl, hc, hcell⟩
    · exact absurd hr hu
    have hpos : 0 < u.length := List.length_pos_iff.2 hu
    have hnews : ∀ j z, (encF u)[j]? = some z → W.cell? ((⟨g2, o', none⟩ : Addr).add j) = some z := fun j z hj => by
      rw [addr_add]
      obtain ⟨hq, e⟩ := encF_get u j z hj
      obtain ⟨h0, h1⟩ := hcell (j / 2) hq
      rw [e]
      by_cases hm : j % 2 = 0
      · rw [if_pos hm]
        rw [show o' + j / 2 * 2 = o' + j by omega] at h0
        exact h0
      · rw [if_neg hm]
        rw [show o' + j / 2 * 2 + 1 = o' + j by omega] at h1
        exact h1
    have hrun := run_append_grow (P := Tryz.prog) W 22 o.type 31 i0 _ Tryz.underlying22 hi hz0 ⟨g, 0, none⟩ 0 0 [] (by simp) (by simp) ⟨g2, o', none⟩ u.length c2 (encF u) (by rw [hz1]; exact encF_len u) hnews (by omega) (by omega) (growslice_fits (by omega) (by rw [hz2]; omega))
    simp only [Nat.zero_add] at hrun
    unfold Oper.wp
    simp only [execOp, ho, resolve, invoke, builtin, Sem.run_bind, Sem.run_pure, Result.andThen_ok, List.map_toArray, List.map_cons, List.map_nil, hs, hx, hrun]
    refine h _ _ ?_ ?_
    · refine ⟨_, _, rfl, .inr ⟨W.heap.size, 0, rfl, grownCap_ge W u.length 0 31, fun j hj => ?_⟩⟩
      obtain ⟨e0, e1⟩ := encF_at u j hj
      generalize Builtin.zeroCells _ _ = Z
      have hh : (W.drew.alloc (.cells (([] : List Value).toArray ++ (encF u).toArray ++ Z) 31)).heap[W.heap.size]? = some (.cells (([] : List Value).toArray ++ (encF u).toArray ++ Z) 31 (0, 0)) := heap_alloc_new W.drew _
      have hl0 := (List.getElem?_eq_some_iff.1 e0).1
      have hl1 := (List.getElem?_eq_some_iff.1 e1).1
      have E : ∀ k z, k < (encF u).length → (encF u)[k]? = some z → (([] : List Value).toArray ++ (encF u).toArray ++ Z)[k]? = some z := fun k z hk he => by
        rw [Array.getElem?_append_left (by simpa using hk)]
        simpa using he
      exact ⟨(Lib.cell_of_heap hh _).trans (E _ _ (by omega) (by rw [Nat.zero_add]; exact e0)), (Lib.cell_of_heap hh _).trans (E _ _ (by omega) (by rw [Nat.zero_add]; exact e1))⟩
    · exact (below_drewN (Below.refl _ W) 1).alloc (Nat.le_refl _) _

end Fd
namespace Tt
open Oc Tg

set_option maxRecDepth 100000 in
set_option maxHeartbeats 8000000 in
theorem walk_TagRanges (A : ByteArray) (u : Value) (t : List Fd.Fl) (now : Int) (s : St) (hnow : Bs.I64 now) (htm : -9223372036854775808 ≤ s.tm ∧ s.tm ≤ 9223372036854775807) (hA : A.size ≤ 1048576) (hsum : Fd.sumF t ≤ 1048576) (w : World) (hin : Fd.InF u t w) (hml : Fd.ML w) (tb : Bs.Tb w) :
    Calls Tryz.prog 4 #[.agg #[.string A, u, .int .i64 now], .agg #[.bool s.th, .bool s.own.1, .string (str s.own.2), .bool s.tg, .int .i64 s.tm, .bool s.td]] w fun e w' => e = .returned (.bool true) ∧ Below w.heap.size w w' := by
  have hlen := Fd.len_sumF t
  have HAw : Hid (∀ W, Fd.ML W → _) := fun W h => awake_any W h
  have HDc : Hid (∀ fv W, Fd.RdF fv t W → Fd.ML W → Bs.Tb W → _) := fun fv W h1 h2 h3 => Ranged_any fv t s now hnow htm W h1 hsum h2 h3
  have HDr : Hid (∀ fv W, Fd.RdF fv t W → _) := fun fv W h1 => rRanged_any fv t s now hnow htm W h1 hsum
  have HSt : Hid (∀ W, _) := fun W => state8_any s W
  generalize rngV t s now = DV at *
  obtain ⟨ua, uc, hu, _⟩ := hin.1
  subst hu
  have HPl : Hid (∀ W, Fd.RdF (.slice ua t.length uc) t W → _) := fun W h => Fd.plain8_any _ t W h (by omega)
  have HI0 : Hid (Fd.InF (.slice ua t.length uc) t w) := hin
  have HML : Hid (Fd.ML w) := hml
  have HTB : Hid (Bs.Tb w) := tb
  clear hin hml tb
  obtain ⟨th, own, tg, tm, td⟩ := s
  obtain ⟨ob, ot⟩ := own
  dsimp only at *
  generalize str ot = OT at *
  obtain ⟨w1, hw1⟩ : ∃ w1, w1 = w.alloc (.cells #[.string A, .slice ua t.length uc, .int .i64 now] 24) := ⟨_, rfl⟩
  obtain ⟨w2, hw2⟩ : ∃ w2, w2 = w1.alloc (.cells #[.bool th, .bool ob, .string OT, .bool tg, .int .i64 tm, .bool td] 28) := ⟨_, rfl⟩
  have z1 : w1.heap.size = w.heap.size + 1 := by rw [hw1]; simp
  have HB2 : Hid (Below w.heap.size w w2) := (by rw [hw2, hw1]; exact ((Below.refl _ w).alloc (Nat.le_refl _) _).alloc (by simp) _ : Below _ _ _)
  have R0 : w2.heap[w.heap.size]? = some (.cells #[.string A, .slice ua t.length uc, .int .i64 now] 24 (0, 0)) := by
    rw [hw2, Lib.alloc_old w1 _ _ (by omega), hw1]; exact heap_alloc_new w _
  have R1 : w2.heap[w.heap.size + 1]? = some (.cells #[.bool th, .bool ob, .string OT, .bool tg, .int .i64 tm, .bool td] 28 (0, 0)) := by
    rw [hw2, ← z1]; exact heap_alloc_new w1 _
  have HK : Hid (∀ W : World, Below w2.heap.size w2 W → (W.cell? ⟨w.heap.size, 0, none⟩ = some (.string A) ∧ W.cell? ⟨w.heap.size, 1, none⟩ = some (.slice ua t.length uc) ∧ W.cell? ⟨w.heap.size, 2, none⟩ = some (.int .i64 now) ∧ W.cell? ⟨w.heap.size + 1, 0, none⟩ = some (.bool th) ∧ W.cell? ⟨w.heap.size + 1, 1, none⟩ = some (.bool ob) ∧ W.cell? ⟨w.heap.size + 1, 2, none⟩ = some (.string OT) ∧ W.cell? ⟨w.heap.size + 1, 3, none⟩ = some (.bool tg) ∧ W.cell? ⟨w.heap.size + 1, 4, none⟩ = some (.int .i64 tm) ∧ W.cell? ⟨w.heap.size + 1, 5, none⟩ = some (.bool td))) := fun W hb => by
    have X := (hb.block _ (Array.getElem?_eq_some_iff.1 R0).1).trans R0
    have Y := (hb.block _ (Array.getElem?_eq_some_iff.1 R1).1).trans R1
    exact ⟨by have := Lib.cell_of_heap X 0; simpa using this, by have := Lib.cell_of_heap X 1; simpa using this, by have := Lib.cell_of_heap X 2; simpa using this, by have := Lib.cell_of_heap Y 0; simpa using this, by have := Lib.cell_of_heap Y 1; simpa using this, by have := Lib.cell_of_heap Y 2; simpa using this, by have := Lib.cell_of_heap Y 3; simpa using this, by have := Lib.cell_of_heap Y 4; simpa using this, by have := Lib.cell_of_heap Y 5; simpa using this⟩
  have HRu : Hid (∀ W : World, Below w2.heap.size w2 W → Fd.InF (.slice ua t.length uc) t W) := fun W hb => HI0.out.below (bel_trans HB2.out hb)
  have HMu : Hid (∀ W : World, Below w2.heap.size w2 W → Fd.ML W) := fun W hb => HML.out.below (bel_trans HB2.out hb)
  have HTu : Hid (∀ W : World, Below w2.heap.size w2 W → Bs.Tb W) := fun W hb => HTB.out.bel (bel_trans HB2.out hb)
  clear R0 R1 z1
  go_enter Tryz.func4, Tryz.ntmps4
  go_wp2_with fail
  rw [← hw1, ← hw2]
  clear hw1 hw2
  refine (HAw.out _ (HMu.out _ (Below.refl _ _))).mono ?_
  rintro e w3 ⟨rfl, hb3⟩
  have HB3 : Hid (Below w2.heap.size w2 w3) := hb3
  have HBn : Hid (Below w2.heap.size w2 w3.drew) := below_drewN hb3 1
  obtain ⟨a0, a1, a2, b0, b1, b2, b3, b4, b5⟩ := HK.out w3 hb3
  obtain ⟨c0, c1, c2, d0, d1, d2, d3, d4, d5⟩ := HK.out _ HBn.out
  have HTl : Hid (t.length ≤ 2147483648) := (by omega : _ ≤ _)
  have HU : Hid True := trivial
  have HV : Hid True := trivial
  have HGf : Hid True := trivial
  have HBq : Hid (∀ o, Below w2.heap.size w2 (w3.alloc o).drew) := fun o => below_drewN (hb3.alloc hb3.size o) 1
  have HG1 : Hid ((w3.alloc (.cells #[] 31)).drew.heap[w3.heap.size]? = some (.cells #[] 31 (0, 0))) := heap_alloc_new w3 _
  have HG0 : Hid (∀ W : World, Below (w3.alloc (.cells #[] 31)).drew.heap.size (w3.alloc (.cells #[] 31)).drew W → W.heap[w3.heap.size]? = some (.cells #[] 31 (0, 0))) := fun W hb => (hb.block _ (Array.getElem?_eq_some_iff.1 HG1.out).1).trans HG1.out
  clear hb3
  go_wp2_with fail
  go_region_held3 (fun W => (W.cell? ⟨w.heap.size, 0, none⟩ = some (.string A) ∧ W.cell? ⟨w.heap.size, 1, none⟩ = some (.slice ua t.length uc) ∧ W.cell? ⟨w.heap.size, 2, none⟩ = some (.int .i64 now) ∧ W.cell? ⟨w.heap.size + 1, 0, none⟩ = some (.bool th) ∧ W.cell? ⟨w.heap.size + 1, 1, none⟩ = some (.bool ob) ∧ W.cell? ⟨w.heap.size + 1, 2, none⟩ = some (.string OT) ∧ W.cell? ⟨w.heap.size + 1, 3, none⟩ = some (.bool tg) ∧ W.cell? ⟨w.heap.size + 1, 4, none⟩ = some (.int .i64 tm) ∧ W.cell? ⟨w.heap.size + 1, 5, none⟩ = some (.bool td))) (first | with_reducible exact HK.out _ HBn.out | with_reducible exact HK.out _ (HBq.out _)) (first
    | (refine Fd.step_appE rfl (.tmp 7) (.tmp 9) rfl _ _ t _ rfl (by first | with_reducible exact HGf.out | with_reducible exact HG1.out | exact heap_alloc_new _ _) rfl (HRu.out _ (by first | with_reducible exact HBn.out | with_reducible exact HBq.out _)) HTl.out ?_; intro v5 wn HV5 hbn'; have hbn := hbn'.out; clear hbn'; (try (have HGf : Hid (wn.heap[(_ : Nat)]? = some (Obj.cells #[] 31 (0, 0))) := (by first | exact (hbn.block _ (Array.getElem?_eq_some_iff.1 HGf.out).1).trans HGf.out | exact HG0.out _ hbn | exact (hbn.block _ (by simp)).trans (heap_alloc_new _ _) : _ = _))); (try (have HU : Hid (Fd.RdF _ t wn) := (by first | exact HU.out.below hbn | exact (HU.out.below ((Below.refl _ _).alloc (Nat.le_refl _) _)).below hbn : Fd.RdF _ t wn))); (try (have HV : Hid (Fd.RdF _ t wn) := HV.out.below hbn)); have HBn : Hid (Below w2.heap.size w2 wn) := (by first | exact HBn.out.trans (hbn.mono HBn.out.size) | exact (HBq.out _).trans (hbn.mono (HBq.out _).size) : Below _ _ _); have HBq : Hid (∀ o, Below w2.heap.size w2 (wn.alloc o)) := fun o => HBn.out.alloc HBn.out.size o; clear hbn; have HV : Hid (Fd.RdF v5 t wn) := HV5.out; clear HV5)
    | (go_at_call 8; refine (HPl.out _ (HRu.out _ (by first | with_reducible exact HBn.out | with_reducible exact HBq.out _)).1).mono ?_; rintro e wn ⟨v7, rfl, ho7, hbn⟩; (try (have HGf : Hid (wn.heap[(_ : Nat)]? = some (Obj.cells #[] 31 (0, 0))) := (by first | exact (hbn.block _ (Array.getElem?_eq_some_iff.1 HGf.out).1).trans HGf.out | exact HG0.out _ hbn | exact (hbn.block _ (by simp)).trans (heap_alloc_new _ _) : _ = _))); (try (have HU : Hid (Fd.RdF _ t wn) := (by first | exact HU.out.below hbn | exact (HU.out.below ((Below.refl _ _).alloc (Nat.le_refl _) _)).below hbn : Fd.RdF _ t wn))); (try (have HV : Hid (Fd.RdF _ t wn) := HV.out.below hbn)); have HBn : Hid (Below w2.heap.size w2 wn) := (by first | exact HBn.out.trans (hbn.mono HBn.out.size) | exact (HBq.out _).trans (hbn.mono (HBq.out _).size) : Below _ _ _); have HBq : Hid (∀ o, Below w2.heap.size w2 (wn.alloc o)) := fun o => HBn.out.alloc HBn.out.size o; clear hbn; have HU : Hid (Fd.RdF v7 t wn) := ho7.rd; clear ho7)
    | (go_at_call 9; refine (HSt.out _).mono ?_; rintro e wn ⟨rfl, hbn⟩; (try (have HGf : Hid (wn.heap[(_ : Nat)]? = some (Obj.cells #[] 31 (0, 0))) := (by first | exact (hbn.block _ (Array.getElem?_eq_some_iff.1 HGf.out).1).trans HGf.out | exact HG0.out _ hbn | exact (hbn.block _ (by simp)).trans (heap_alloc_new _ _) : _ = _))); (try (have HU : Hid (Fd.RdF _ t wn) := (by first | exact HU.out.below hbn | exact (HU.out.below ((Below.refl _ _).alloc (Nat.le_refl _) _)).below hbn : Fd.RdF _ t wn))); (try (have HV : Hid (Fd.RdF _ t wn) := HV.out.below hbn)); have HBn : Hid (Below w2.heap.size w2 wn) := (by first | exact HBn.out.trans (hbn.mono HBn.out.size) | exact (HBq.out _).trans (hbn.mono (HBq.out _).size) : Below _ _ _); have HBq : Hid (∀ o, Below w2.heap.size w2 (wn.alloc o)) := fun o => HBn.out.alloc HBn.out.size o; clear hbn)
    | (go_at_call 10; refine (HDc.out _ _ HV.out (HMu.out _ HBn.out) (HTu.out _ HBn.out)).mono ?_; rintro e wn ⟨rfl, hbn⟩; (try (have HGf : Hid (wn.heap[(_ : Nat)]? = some (Obj.cells #[] 31 (0, 0))) := (by first | exact (hbn.block _ (Array.getElem?_eq_some_iff.1 HGf.out).1).trans HGf.out | exact HG0.out _ hbn | exact (hbn.block _ (by simp)).trans (heap_alloc_new _ _) : _ = _))); (try (have HU : Hid (Fd.RdF _ t wn) := (by first | exact HU.out.below hbn | exact (HU.out.below ((Below.refl _ _).alloc (Nat.le_refl _) _)).below hbn : Fd.RdF _ t wn))); (try (have HV : Hid (Fd.RdF _ t wn) := HV.out.below hbn)); have HBn : Hid (Below w2.heap.size w2 wn) := (by first | exact HBn.out.trans (hbn.mono HBn.out.size) | exact (HBq.out _).trans (hbn.mono (HBq.out _).size) : Below _ _ _); have HBq : Hid (∀ o, Below w2.heap.size w2 (wn.alloc o)) := fun o => HBn.out.alloc HBn.out.size o; clear hbn)
    | (go_at_call 11; refine (HDr.out _ _ (by first | with_reducible exact HU.out | exact HU.out.below ((Below.refl _ _).alloc (Nat.le_refl _) _))).mono ?_; rintro e wn ⟨rfl, hbn⟩; (try (have HGf : Hid (wn.heap[(_ : Nat)]? = some (Obj.cells #[] 31 (0, 0))) := (by first | exact (hbn.block _ (Array.getElem?_eq_some_iff.1 HGf.out).1).trans HGf.out | exact HG0.out _ hbn | exact (hbn.block _ (by simp)).trans (heap_alloc_new _ _) : _ = _))); (try (have HU : Hid (Fd.RdF _ t wn) := (by first | exact HU.out.below hbn | exact (HU.out.below ((Below.refl _ _).alloc (Nat.le_refl _) _)).below hbn : Fd.RdF _ t wn))); (try (have HV : Hid (Fd.RdF _ t wn) := HV.out.below hbn)); have HBn : Hid (Below w2.heap.size w2 wn) := (by first | exact HBn.out.trans (hbn.mono HBn.out.size) | exact (HBq.out _).trans (hbn.mono (HBq.out _).size) : Below _ _ _); have HBq : Hid (∀ o, Below w2.heap.size w2 (wn.alloc o)) := fun o => HBn.out.alloc HBn.out.size o; clear hbn))
  all_goals
    go_wp2
    go_ret
    exact ⟨by simp, bel_trans HB2.out HBn.out⟩

theorem walkb_TagRanges (A : ByteArray) (u : Value) (t : List Fd.Fl) (n : Int) (i : -9223372036854775808 ≤ n ∧ n ≤ 9223372036854775807) (b : A.size + Fd.bulkfields t ≤ 1048576) (s : St) (is : -9223372036854775808 ≤ s.tm ∧ s.tm ≤ 9223372036854775807) (bs : s.own.2.length ≤ 1048576) (W : World) (R : Fd.InF u t W) (tab : Fd.ML W ∧ Bs.Tb W) :
    Calls Tryz.prog 4 #[.agg #[.string A, u, .int .i64 n], .agg #[.bool s.th, .bool s.own.1, .string (str s.own.2), .bool s.tg, .int .i64 s.tm, .bool s.td]] W fun e w' => e = .returned (.bool true) ∧ Below W.heap.size W w' := by
  unfold Fd.bulkfields at b
  exact walk_TagRanges A u t n s i is (by omega) (by omega) W R tab.1 tab.2

end Tt
end Go.Proofs.YtjngpafokkjkdaaGreatDoor

/-
  What was asked, and a state, that came in by value (written by mkopa.py).
-/
set_option linter.unusedVariables false
set_option linter.unusedSimpArgs false
namespace Go.Proofs.YtjngpafokkjkdaaGreatDoor
open Go.ChangeShapes Go.WideShapes Go.RowKit
namespace Fd
open Oc

set_option maxRecDepth 100000 in
theorem open_fieldsT {H : Type} {enc : TypeId × Value → H} {W : World} {v : Value} {d : DataW H} {ps : List MemPlace} (hval : ∃ a len cap, v = .slice a len cap)
    (h : DataW.Trod enc Tryz.prog W 0 (fun _ => true) true 22 v d ps) : ∃ t : List Fl, InF v t W ∧ bulkfields t ≤ Rows.uptoBulk d := by
  obtain ⟨a0, len, cap, rfl⟩ := hval
  obtain ⟨fuel, hf⟩ := h
  rcases DataW.trod_slice Tryz.underlying22 hf with ⟨hcs, hx⟩ | ⟨a, len', cap', elems, rest, n, _, hcs, hx, hb, hl, hm, hlen, hel, _, _⟩
  · simp [Value.cells] at hcs
    obtain ⟨rfl, rfl, rfl⟩ := hcs
    exact ⟨[], ⟨⟨none, 0, rfl, .inl rfl⟩, fun _ => .inl rfl⟩, by simp [bulkfields, sumF]⟩
  · simp [Value.cells] at hcs
    obtain ⟨rfl, rfl, rfl⟩ := hcs
    simp only [Prod.mk.injEq] at hx
    obtain ⟨rfl, rfl⟩ := hx
    have each : ∀ i y, elems[i]? = some y → ∃ (s1 s2 : ByteArray), y.1 = .agg [.lit (.string s1.data.toList), .lit (.string s2.data.toList)] ∧ W.cell? ((a.add (i * 2)).add 0) = some (.string s1) ∧ W.cell? ((a.add (i * 2)).add 1) = some (.string s2) := by
      intro i y hy
      have hi : i < len := by rw [← hlen]; exact (List.getElem?_eq_some_iff.1 hy).1
      have h1 := hel i hi
      rw [hy, cellsF, Option.bind_eq_some_iff] at h1
      obtain ⟨cs, hcs, ht⟩ := h1
      obtain ⟨ys, m, _, hx, hl4, hy4, hfs⟩ := DataW.trod_struct Tryz.underlying31 ht
      rw [cellsF] at hl4
      have hcc := (World.cells?_some hcs).2.2
      have t0 := hfs 0 _ rfl
      have t1 := hfs 1 _ rfl
      match cs, hl4 with
      | [x0, x1], _ =>
        match ys, hy4 with
        | [y0, y1], _ =>
          simp [cells9] at t0 t1
          obtain ⟨m0, e0, q0, w0⟩ := DataW.trod_string Tryz.underlying9 t0
          obtain ⟨m1, e1, q1, w1⟩ := DataW.trod_string Tryz.underlying9 t1
          simp at e0 e1
          subst e0 e1
          subst q0 q1
          refine ⟨m0, m1, ?_, hcc 0 (by omega), hcc 1 (by omega)⟩
          rw [hx]
          rfl
    refine ⟨elems.map flOf, ⟨⟨some a, cap, by rw [List.length_map, hlen], ?_⟩, fun e => .inr ⟨a, cap, by have := congrArg List.length e; rw [List.length_map, hlen] at this; rw [this]; rfl⟩⟩, ?_⟩
    · by_cases hl0 : len = 0
      · left
        have : elems = [] := List.length_eq_zero_iff.1 (by omega)
        rw [this]; rfl
      · right
        obtain ⟨g, o, spot⟩ := a
        have hspot : spot = none := by
          obtain ⟨y, hy⟩ : ∃ y, elems[0]? = some y := ⟨elems[0]'(by omega), List.getElem?_eq_getElem (by omega)⟩
          obtain ⟨s1, s2, _, c0, _⟩ := each 0 y hy
          simpa [Addr.add] using World.cell?_spot c0
        subst hspot
        refine ⟨g, o, rfl, by rw [List.length_map, hlen]; exact hl, fun j hj => ?_⟩
        rw [List.length_map] at hj
        obtain ⟨s1, s2, ey, c0, c1⟩ := each j _ (List.getElem?_eq_getElem hj)
        have en : nth (elems.map flOf) j = (s1.data.toList, s2.data.toList) := by
          unfold nth
          rw [List.getD_eq_getElem?_getD, List.getElem?_map, List.getElem?_eq_getElem hj]
          show flOf elems[j] = _
          unfold flOf
          rw [ey]
        rw [addr_add, addr_add] at c0 c1
        rw [en]
        dsimp only
        rw [str_self, str_self]
        exact ⟨c0, c1⟩
    · have hb := bulk_fls elems (fun y hy => by
        obtain ⟨i, hi⟩ := List.getElem?_of_mem hy
        obtain ⟨s1, s2, ey, _⟩ := each i y hi
        exact ⟨_, _, ey⟩)
      simp only [Rows.uptoBulk, hb, bulkfields]
      omega


theorem cells3a : Tryz.prog.cellsOf 3 = 1 := by kernel_rfl
theorem cells4a : Tryz.prog.cellsOf 4 = 1 := by kernel_rfl
theorem cellsA : Tryz.prog.cellsOf 24 = 3 := by kernel_rfl
theorem cellsLF : Tryz.prog.cellsOf 22 = 1 := by kernel_rfl
theorem cellsTa : Tryz.prog.cellsOf 26 = 2 := by kernel_rfl
theorem cellsSt : Tryz.prog.cellsOf 28 = 6 := by kernel_rfl
theorem array3 {α : Type} {cs : Array α} (h : cs.size = 3) : ∃ c0 c1 c2, cs = #[c0, c1, c2] := by
  obtain ⟨l⟩ := cs
  match l, h with
  | [c0, c1, c2], _ => exact ⟨c0, c1, c2, rfl⟩
theorem array6 {α : Type} {cs : Array α} (h : cs.size = 6) : ∃ c0 c1 c2 c3 c4 c5, cs = #[c0, c1, c2, c3, c4, c5] := by
  obtain ⟨l⟩ := cs
  match l, h with
  | [c0, c1, c2, c3, c4, c5], _ => exact ⟨c0, c1, c2, c3, c4, c5, rfl⟩
theorem list5 {α : Type} {cs : List α} (h : cs.length = 5) : ∃ c0 c1 c2 c3 c4, cs = [c0, c1, c2, c3, c4] := by
  match cs, h with
  | [c0, c1, c2, c3, c4], _ => exact ⟨c0, c1, c2, c3, c4, rfl⟩
theorem list2 {α : Type} {cs : List α} (h : cs.length = 2) : ∃ c0 c1, cs = [c0, c1] := by
  match cs, h with
  | [c0, c1], _ => exact ⟨c0, c1, rfl⟩
theorem i64_of {n : Int} (h : (Lit.int .i64 n).wf = true) : -9223372036854775808 ≤ n ∧ n ≤ 9223372036854775807 := by
  simpa [Lit.wf, IntKind.min, IntKind.max, IntKind.signed, IntKind.bits] using h

set_option maxRecDepth 100000 in
theorem open_asked {H : Type} {enc : TypeId × Value → H} {W : World} {base : Nat} {v : Value} {d : DataW H} {ps : List MemPlace} (hval : Value.okWide Tryz.prog W .any base 24 v)
    (h : DataW.Trod enc Tryz.prog W 0 (fun _ => true) true 24 v d ps) :
    ∃ (A : ByteArray) (u : Value) (t : List Fl) (n : Int), v = .agg #[.string A, u, .int .i64 n] ∧ InF u t W ∧ (-9223372036854775808 ≤ n ∧ n ≤ 9223372036854775807) ∧ A.size + bulkfields t ≤ Rows.uptoBulk d := by
  obtain ⟨cs, rfl, hsz⟩ := okWide_struct Tryz.underlying24 hval
  obtain ⟨c0, c1, c2, rfl⟩ := array3 (hsz.trans cellsA)
  obtain ⟨fuel, hf⟩ := h
  obtain ⟨y0, y1, y2, m, hx, _, t0, t1, t2⟩ := Deep.trod_struct3 Tryz.underlying24 hf
  simp only [cells9, cellsLF, cells3a, Value.cells, List.drop_zero] at t0 t1 t2
  obtain ⟨s1, e1, r1, _⟩ := DataW.trod_string Tryz.underlying9 t0
  obtain ⟨n, e3, r3, w3⟩ := DataW.trod_int Tryz.underlying3 t2
  have hs2 : ∃ a len cap, c1 = .slice a len cap := by
    rcases DataW.trod_slice Tryz.underlying22 t1 with ⟨hcs, _⟩ | ⟨a, len', cap', elems, rest, n, _, hcs, _⟩
    · simp at hcs; exact ⟨_, _, _, hcs⟩
    · simp at hcs; exact ⟨_, _, _, hcs⟩
  obtain ⟨a2, l2, cap2, rfl⟩ := hs2
  obtain ⟨t, ht, hb⟩ := open_fieldsT (enc := enc) (W := W) (v := .slice a2 l2 cap2) (d := y1.1) (ps := y1.2) ⟨_, _, _, rfl⟩ ⟨m, by simpa [Value.cells] using t1⟩
  simp at e1 e3
  subst e1 e3 r1 r3
  refine ⟨s1, _, t, n, rfl, ht, i64_of w3, ?_⟩
  have hd : d = .agg [.lit (.string s1.data.toList), y1.1, .lit (.int .i64 n)] := by
    injection hx
  rw [hd]
  simp only [Rows.uptoBulk, Rows.uptoBulkAll]
  have h1 := size_list s1
  omega

set_option maxRecDepth 100000 in
theorem open_state {H : Type} {enc : TypeId × Value → H} {W : World} {base : Nat} {v : Value} {d : DataW H} {ps : List MemPlace} (hval : Value.okWide Tryz.prog W .any base 28 v)
    (h : DataW.Trod enc Tryz.prog W 0 (fun _ => true) true 28 v d ps) :
    ∃ s : Tt.St, v = .agg #[.bool s.th, .bool s.own.1, .string (str s.own.2), .bool s.tg, .int .i64 s.tm, .bool s.td] ∧ (-9223372036854775808 ≤ s.tm ∧ s.tm ≤ 9223372036854775807) ∧ s.own.2.length ≤ Rows.uptoBulk d := by
  obtain ⟨cs, rfl, hsz⟩ := okWide_struct Tryz.underlying28 hval
  obtain ⟨x0, x1, x2, x3, x4, x5, rfl⟩ := array6 (hsz.trans cellsSt)
  obtain ⟨fuel, hf⟩ := h
  obtain ⟨xs, n, _, hx, hl, hlen, hff⟩ := DataW.trod_struct Tryz.underlying28 hf
  obtain ⟨z0, z1, z2, z3, z4, rfl⟩ := list5 (hlen.trans rfl)
  have f0 := hff 0 _ rfl
  have f1 := hff 1 _ rfl
  have f2 := hff 2 _ rfl
  have f3 := hff 3 _ rfl
  have f4 := hff 4 _ rfl
  simp [Value.cells, cells9, cells4a, cells3a, cellsTa] at f0 f1 f2 f3 f4
  obtain ⟨b0, e0, r0⟩ := DataW.trod_bool Tryz.underlying4 f0
  obtain ⟨ys, n1, _, hx1, hl1, hlen1, hff1⟩ := DataW.trod_struct Tryz.underlying26 f1
  obtain ⟨q0, q1, rfl⟩ := list2 (hlen1.trans rfl)
  have g0 := hff1 0 _ rfl
  have g1 := hff1 1 _ rfl
  simp [cells9, cells4a] at g0 g1
  obtain ⟨b1, e1, r1⟩ := DataW.trod_bool Tryz.underlying4 g0
  obtain ⟨t2, e2, r2, _⟩ := DataW.trod_string Tryz.underlying9 g1
  obtain ⟨b3, e3, r3⟩ := DataW.trod_bool Tryz.underlying4 f2
  obtain ⟨m4, e4, r4, w4⟩ := DataW.trod_int Tryz.underlying3 f3
  obtain ⟨b5, e5, r5⟩ := DataW.trod_bool Tryz.underlying4 f4
  subst r0 r1 r2 r3 r4 r5
  simp at e0 e1 e2 e3 e4 e5 hx hx1
  subst e0 e1 e2 e3 e4 e5
  refine ⟨⟨b0, (b1, t2.data.toList), b3, m4, b5⟩, by simp [str_self], i64_of w4, ?_⟩
  rw [hx.1, hx1]
  simp only [Rows.uptoBulk, Rows.uptoBulkAll]
  omega

end Fd
end Go.Proofs.YtjngpafokkjkdaaGreatDoor
