/-
  The walk of the law RingFound.
-/
import Derived.Test.YtonbjdiehbemjabGFind3
import Derived.Test.YtonbjdiehbemjabFPlain2
import Derived.Test.YtonbjdiehbemjabGArg2
import Derived.Deep.Strs
import Derived.BigQuiet
set_option linter.unusedVariables false
set_option linter.unusedSimpArgs false
namespace Go.Proofs.Ytonbjdiehbemjab
open Go.RowKit Go.ChangeShapes Go.WideShapes Go.ChangeAt
namespace Rg

theorem row3' {W : World} {b T : Nat} {x y z : Value} (h : W.heap[b]? = some (.cells #[x, y, z] T (0, 0))) : W.cell? ⟨b, 0, none⟩ = some x ∧ W.cell? ⟨b, 1, none⟩ = some y ∧ W.cell? ⟨b, 2, none⟩ = some z ∧ ∀ i, W.frozen? ⟨b, i, none⟩ = false := by
  refine ⟨?_, ?_, ?_, fun i => frozen_of_row W b i _ _ h⟩ <;> rw [cell_of_row W b _ _ _ _ h] <;> rfl

set_option maxRecDepth 100000 in
theorem opened_seek {H : Type} {enc : TypeId × Value → H} {W : World} {v : Value} {d : DataW H} {p : List MemPlace} {base : Nat} (hok : Value.okWide Try.prog W .any base 39 v)
    (h0 : DataW.Trod enc Try.prog W 0 (fun _ => true) true 39 v d p) (hsz : ∀ n ∈ d.weights Try.prog 39, n ≤ reachBytes) :
    ∃ pv l g f, v = .agg #[pv, .int .i64 g, .int .i64 f] ∧ RdB W pv l ∧ l.length ≤ 140737488351232 ∧ (-9223372036854775808 ≤ g ∧ g ≤ 9223372036854775807) ∧ (-9223372036854775808 ≤ f ∧ f ≤ 9223372036854775807) := by
  obtain ⟨cs, rfl, hcs⟩ := okWide_struct Try.underlying39 hok
  obtain ⟨fuel, hf⟩ := h0
  obtain ⟨y0, y1, y2, n, hx, hl, t0, t1, t2⟩ := Deep.trod_struct3 Try.underlying39 hf
  have c0 : Try.prog.cellsOf 31 = 1 := by kernel_rfl
  have c1 : Try.prog.cellsOf 3 = 1 := by kernel_rfl
  simp only [Prod.mk.injEq] at hx
  obtain ⟨rfl, _⟩ := hx
  obtain ⟨cl⟩ := cs
  have e3 : Try.prog.cellsOf 39 = 3 := by kernel_rfl
  rw [e3] at hcs
  simp only [Value.cells, c0, c1, List.drop_zero] at t0 t1 t2
  match cl, hcs with
  | [x0, x1, x2], _ =>
    simp at t0 t1 t2
    obtain ⟨v, l, e, r1, r2⟩ := read_b t0 (fun n hn => hsz n (by
      simp only [DataW.weights, Try.underlying39]
      exact DataW.weights_mem_each (j := 0) rfl rfl n hn))
    obtain ⟨m1, e1, q1, w1⟩ := DataW.trod_int Try.underlying3 t1
    obtain ⟨m2, e2, q2, w2⟩ := DataW.trod_int Try.underlying3 t2
    simp at e e1 e2
    subst e e1 e2
    exact ⟨_, l, m1, m2, rfl, r1, r2, int_wf w1, int_wf w2⟩

set_option maxRecDepth 100000 in
set_option maxHeartbeats 4000000 in
theorem walk_RingFound (v0 pv : Value) (gn f : Int) (l p : List UInt8) (w : World) (h0 : RdB w v0 l) (h1 : RdB w pv p) (hM : ML w) (hl : l.length ≤ 140737488351232) (hp : p.length ≤ 140737488351232) (hg0 : -9223372036854775808 ≤ gn) (hg1 : gn ≤ 9223372036854775807) (hf0 : -9223372036854775808 ≤ f) (hf1 : f ≤ 9223372036854775807) :
    Calls Try.prog 4 #[v0, .agg #[pv, .int .i64 gn, .int .i64 f]] w fun e w' => e = .returned (.bool true) ∧ Below w.heap.size w w' := by
  have H0 : Hid (RdB w v0 l) := h0
  have H1 : Hid (RdB w pv p) := h1
  have HM : Hid (ML w) := hM
  obtain ⟨a0, c0, rfl, hc0, _⟩ := h0
  obtain ⟨a1, c1, rfl, hc1, _⟩ := h1
  clear hM
  obtain ⟨w0, hw0⟩ : ∃ w0, w0 = w.alloc (.cells #[.slice a1 p.length c1, .int .i64 gn, .int .i64 f] 39) := ⟨_, rfl⟩
  have HB0 : Hid (Below w.heap.size w w0) := (by rw [hw0]; exact (Below.refl _ w).alloc (Nat.le_refl _) _ : Below w.heap.size w w0)
  have HS0 : Hid (w0.heap[w.heap.size]? = some (.cells #[.slice a1 p.length c1, .int .i64 gn, .int .i64 f] 39 (0, 0))) := (by rw [hw0]; exact heap_alloc_new _ _ : w0.heap[w.heap.size]? = _)
  have hs0 : w.heap.size < w0.heap.size := by rw [hw0]; simp
  go_enter Try.func4, Try.ntmps4
  go_wp2_with fail
  rw [← hw0]
  clear hw0
  refine (awake_any w0).mono ?_
  rintro e w1 ⟨rfl, hb⟩
  have HB1 : Hid (Below w0.heap.size w0 w1) := hb
  clear hb
  by_cases g1 : l.length < 1
  · have g1' : ((l.length : Nat) : Int) < 1 := by omega
    go_wp2
    go_ret
    exact ⟨rfl, bel_trans HB0.out HB1.out⟩
  have g1' : ¬ ((l.length : Nat) : Int) < 1 := by omega
  by_cases g2 : 4096 < l.length
  · have g2' : (4096 : Int) < ((l.length : Nat) : Int) := by omega
    go_wp2
    go_ret
    exact ⟨rfl, bel_trans HB0.out HB1.out⟩
  have g2' : ¬ (4096 : Int) < ((l.length : Nat) : Int) := by omega
  go_wp2_with fail
  refine (New_any w1 l.length (by omega) (by omega)).mono ?_
  rintro e w2 ⟨rfl, hA, hb⟩
  have HB2 : Hid (Below w0.heap.size w0 w2) := bel_trans HB1.out hb
  have HA2 : Hid (IsRing w2 (w1.heap.size + 1) w1.heap.size l.length 0 []) := hA
  have s1 : w0.heap.size ≤ w1.heap.size := HB1.out.size
  clear hA hb
  generalize hpa : w1.heap.size + 1 = pa at *
  generalize hsa : w1.heap.size = sa at *
  have hpa' : w0.heap.size ≤ sa ∧ sa < pa := by omega
  obtain ⟨hpa1, hpa2⟩ := hpa'
  clear hpa hsa
  obtain ⟨d0, d1, d2, df⟩ := row3' ((But.of_below HB2.out).heap HS0.out (fun e => by cases e))
  go_wp2
  go_quiet (fail)
  have hb23 : Below w2.heap.size w2 (w2.drewN nq) := bel_drewN (Below.refl _ _) _
  generalize w2.drewN nq = w3 at *
  have HB3 : Hid (Below w0.heap.size w0 w3) := bel_trans HB2.out hb23
  have HA3 : Hid (IsRing w3 pa sa l.length 0 []) := HA2.out.below hb23
  have HM3 : Hid (ML w3) := (HM.out.below HB0.out).below HB3.out
  clear hb23 d0 d1 d2 df HB2 HA2
  obtain ⟨d0, d1, d2, df⟩ := row3' ((But.of_below HB3.out).heap HS0.out (fun e => by cases e))
  go_wp2_with fail
  refine (kind_any w3 gn _ hg0 hg1 (by omega) (by omega)).mono ?_
  rintro e w4 ⟨g, rfl, hg, hb⟩
  have HB4 : Hid (Below w3.heap.size w3 w4) := hb
  have hgl : g ≤ l.length := by omega
  clear hb hg d0 d1 d2 df
  have hmk := run_mkB w4 g (by omega)
  have hA4 : Below w4.heap.size w4 (w4.alloc (.cells (bv (List.replicate g 0)).toArray 5 (0, 0))) := (Below.refl _ w4).alloc (Nat.le_refl _) _
  have hV4 : RdB (w4.alloc (.cells (bv (List.replicate g 0)).toArray 5 (0, 0))) (.slice (some ⟨w4.heap.size, 0, none⟩) g g) (List.replicate g 0) := (by have := RdB.built w4 (List.replicate g 0) _ rfl; simpa using this)
  have t3 : pa < w3.heap.size := HA3.out.lt1
  have t4 := HB4.out.size
  generalize w4.alloc (.cells (bv (List.replicate g 0)).toArray 5 (0, 0)) = w5 at *
  have HB5 : Hid (Below w3.heap.size w3 w5) := bel_trans HB4.out hA4
  have HV5 : Hid (RdB w5 (.slice (some ⟨w4.heap.size, 0, none⟩) g g) (List.replicate g 0)) := hV4
  clear hA4 hV4
  go_wp2_with fail
  refine (Put_any (HA3.out.below HB5.out) _ (List.replicate g 0) HV5.out (fun x hx => by injection hx with hx; simp at hx; omega) (by simp; omega) g (by simp; omega)).mono ?_
  rintro e w6 ⟨rfl, hA', hb⟩
  rw [List.nil_append, List.take_of_length_le (by simp)] at hA'
  have HA6 : Hid (IsRing w6 pa sa l.length 0 (List.replicate g 0)) := hA'
  have HB6 : Hid (But [pa, sa] w3 w6) := (But.of_below HB5.out).nil.trans hb
  clear hA' hb hmk
  have hgg : ((g : Int) != (g : Int)) = false := by simp
  go_wp2_with fail
  refine (Drop_any HA6.out (g : Int) (by omega) (by omega) g (by rw [rch_zero]; simp)).mono ?_
  rintro e w7 ⟨rfl, hA', hb⟩
  rw [List.drop_eq_nil_of_le (by simp)] at hA'
  obtain ⟨h7, hh7⟩ : ∃ h7, h7 = pl l.length 0 g := ⟨_, rfl⟩
  rw [← hh7] at hA'
  clear hh7
  have HA7 : Hid (IsRing w7 pa sa l.length h7 []) := hA'
  have HB7 : Hid (But [pa, sa] w3 w7) := HB6.out.trans hb
  clear hA' hb
  have hb07 : Below w.heap.size w w7 := (bel_trans HB0.out HB3.out).trans (HB7.out.below (by have := HB3.out.size; omega) (by simp; omega))
  have H07 : Hid (RdB w7 (.slice a0 l.length c0) l) := H0.out.below hb07
  have HW7 : Hid (Below w.heap.size w w7) := hb07
  clear hb07
  have hl47 : l.length ≤ 140737488355328 := by omega
  have s7 : w3.heap.size ≤ w7.heap.size := HB7.out.size
  go_wp2_with (at_builtin; go_must (refine wp_new rfl (.tmp 59) (.tmp 60) rfl w7 _ l l.length rfl rfl rfl H07.out hl47 ?_; intro a8 c8 w8 ho8 hb8))
  refine (Put_any (HA7.out.below hb8.out) _ l (RdB.ofOwn ho8.out) (fun x hx => by have := owns_fresh ho8.out x hx; omega) (by omega) l.length (by simp)).mono ?_
  rintro e w9 ⟨rfl, hA', hb⟩
  rw [List.nil_append, List.take_length] at hA'
  have HA9 : Hid (IsRing w9 pa sa l.length h7 l) := hA'
  have HB9 : Hid (But [pa, sa] w7 w9) := (But.of_below hb8.out).nil.trans hb
  clear hA' hb ho8 hb8
  have HW9 : Hid (Below w.heap.size w w9) := HW7.out.trans (HB9.out.below HW7.out.size (by simp; omega))
  have HM9 : Hid (ML w9) := (HM3.out.but HB7.out (by have := (HM.out.lt); simp; omega)).but HB9.out (by have := (HM.out.lt); simp; omega)
  have H19 : Hid (RdB w9 (.slice a1 p.length c1) p) := H1.out.below HW9.out
  have hp47 : p.length ≤ 140737488355328 := by omega
  have hll : (((l.length : Nat) : Int) != ((l.length : Nat) : Int)) = false := by simp
  go_wp2_with (at_builtin; go_must (refine wp_new rfl (.tmp 68) (.tmp 69) rfl w9 _ p p.length rfl rfl rfl H19.out hp47 ?_; intro a10 c10 w10 ho10 hb10))
  have HW10 : Hid (Below w.heap.size w w10) := bel_trans HW9.out hb10.out
  have HA10 : Hid (IsRing w10 pa sa l.length h7 l) := HA9.out.below hb10.out
  refine (Find_any HA10.out (RdB.ofOwn ho10.out) hp47 (HM9.out.below hb10.out) f hf0 hf1).mono ?_
  rintro e w11 ⟨rfl, hb11⟩
  have HW11 : Hid (Below w.heap.size w w11) := bel_trans HW10.out hb11
  have HA11 : Hid (IsRing w11 pa sa l.length h7 l) := HA10.out.below hb11
  clear ho10 hb10 hb11
  by_cases hneg : f < 0
  · have HF : Hid (fnd l p f = -1) := if_pos (.inl hneg)
    rw [HF.out]
    go_wp2
    go_ret
    exact ⟨by simp, HW11.out⟩
  obtain ⟨F, rfl⟩ := Int.eq_ofNat_of_zero_le (show 0 ≤ f by omega)
  obtain ⟨at', hat⟩ : ∃ x, x = fnd l p (F : Int) := ⟨_, rfl⟩
  rw [← hat]
  have HAT : Hid (at' = fnd l p (F : Int)) := hat
  clear hat
  go_wp2
  go_loopw [11] (fun i wr => ∃ J : Nat, i = .int .i64 (J : Int) ∧ F ≤ J ∧ (J = F ∨ J ≤ l.length + 1) ∧ Hid (∀ j, F ≤ j → j < J → ¬ At l p j) ∧ Hid (IsRing wr pa sa l.length h7 l) ∧ Hid (Below w.heap.size w wr)) (fun i _ => l.length + 1 - (intOf i).toNat)
  case atStart => exact ⟨F, rfl, Nat.le_refl _, .inl rfl, (fun j h1 h2 => by omega), HA11, HW11⟩
  case round =>
    obtain ⟨J, rfl, hFJ, hJ, HN, HA, HB⟩ := hrel
    by_cases hJl : J ≤ l.length
    · have hJl' : ((J : Nat) : Int) ≤ ((l.length : Nat) : Int) := by omega
      by_cases hfit : J + p.length ≤ l.length
      · have hfit' : ((J : Nat) : Int) + ((p.length : Nat) : Int) ≤ ((l.length : Nat) : Int) := by omega
        obtain ⟨b1, r1, _, _, e1⟩ := cut_mid H0.out J (J + p.length) (by omega) hfit
        have E1 : ∀ w : World, (Instr.slice 31 (.slice a0 l.length c0) (some (.int .i64 ((J : Nat) : Int))) (some (.int .i64 (((J : Nat) : Int) + ((p.length : Nat) : Int)))) none).run Try.prog w = .ok (.slice b1 p.length (c0 - J)) w := fun w => by
          have := e1 w
          rw [Nat.add_sub_cancel_left, Int.natCast_add] at this
          exact this
        rw [Nat.add_sub_cancel_left] at r1
        have R1 : Hid (RdB w (.slice b1 p.length (c0 - J)) ((l.drop J).take p.length)) := r1
        clear e1 r1
        go_wp2_with fail
        by_cases hat : (l.drop J).take p.length = p
        · refine (same_any (R1.out.below HB.out) (H1.out.below HB.out) true (by simp [hat])).mono ?_
          rintro e w12 ⟨rfl, hb⟩
          have HW12 : Hid (Below w.heap.size w w12) := bel_trans HB.out hb
          have HA12 : Hid (IsRing w12 pa sa l.length h7 l) := HA.out.below hb
          clear hb
          have HFJ : Hid (at' = ((J : Nat) : Int)) := (by rw [HAT.out]; exact fnd_is l p F J hFJ ((at_take l p J hfit).2 hat) HN.out : at' = ((J : Nat) : Int))
          have hbj : (at' == ((J : Nat) : Int)) = true := by rw [HFJ.out]; simp
          have Hat : Hid ((l.drop J).take p.length = p) := hat
          clear hat
          go_wp2_with fail
          refine (Peek_any HA12.out ((J : Nat) : Int) ((p.length : Nat) : Int) (by omega) (by omega) (by omega) (by omega) p.length (by unfold rch; rw [if_neg (by omega)]; omega)).mono ?_
          rintro e w13 ⟨v13, rfl, ho, hb⟩
          have HW13 : Hid (Below w.heap.size w w13) := bel_trans HW12.out hb
          have HV13 : Hid (RdB w13 v13 p) := (by have := RdB.ofOwn ho; rwa [Int.toNat_natCast, Hat.out] at this : RdB w13 v13 p)
          clear ho hb
          go_wp2_with fail
          refine (same_any HV13.out (H1.out.below HW13.out) true (by simp)).mono ?_
          rintro e w14 ⟨rfl, hb⟩
          have HW14 : Hid (Below w.heap.size w w14) := bel_trans HW13.out hb
          clear hb
          go_wp2
          go_ret
          exact ⟨by simp, HW14.out⟩
        · refine (same_any (R1.out.below HB.out) (H1.out.below HB.out) false (by simp [hat])).mono ?_
          rintro e w12 ⟨rfl, hb⟩
          have HW12 : Hid (Below w.heap.size w w12) := bel_trans HB.out hb
          have HA12 : Hid (IsRing w12 pa sa l.length h7 l) := HA.out.below hb
          have Hat : Hid (¬ (l.drop J).take p.length = p) := hat
          clear hb hat
          go_wp2
          go_roundw
          case rel =>
            refine ⟨J + 1, by go_num, by omega, by omega, (fun j h1 h2 => ?_), HA12, HW12⟩
            by_cases c : j < J
            · exact HN.out j h1 c
            · obtain rfl : j = J := by omega
              exact fun h => Hat.out ((at_take l p j hfit).1 h)
          case measure => simp [intOf]; omega
      · have hfit' : ¬ ((J : Nat) : Int) + ((p.length : Nat) : Int) ≤ ((l.length : Nat) : Int) := by omega
        go_wp2
        go_roundw
        case rel =>
          refine ⟨J + 1, by go_num, by omega, by omega, (fun j h1 h2 h3 => ?_), HA, HB⟩
          by_cases c : j < J
          · exact HN.out j h1 c h3
          · obtain rfl : j = J := by omega
            have := h3.1
            omega
        case measure => simp [intOf]; omega
    · have hJl' : ¬ ((J : Nat) : Int) ≤ ((l.length : Nat) : Int) := by omega
      have HFN : Hid (at' = -1) := (by rw [HAT.out]; exact fnd_no l p F (fun j h1 h2 => HN.out j h1 (by omega)) : at' = -1)
      rw [HFN.out]
      go_wp2
      go_ret
      exact ⟨by simp, HB.out⟩

end Rg
end Go.Proofs.Ytonbjdiehbemjab
