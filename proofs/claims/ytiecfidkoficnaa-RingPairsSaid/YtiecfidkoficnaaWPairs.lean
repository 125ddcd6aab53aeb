/-
  The walk of RingPairs.
-/
import Derived.Test.YtiecfidkoficnaaOpenPr
import Derived.Test.YtiecfidkoficnaaQSteady
import Derived.BigQuiet
import Derived.Deep.QuietTactic
set_option maxRecDepth 100000
set_option linter.unusedVariables false
set_option linter.unusedSimpArgs false
namespace Go.Proofs.Ytiecfidkoficnaa
open Go.RowKit
namespace Rg

def el (q : Pr) : List Value := [.int .i64 q.1, .string q.2]
/-- Of the pairs those that are in and not out again. -/
def Qs (ps : List Pr) (i out : Nat) : List (List Value) := ((ps.take i).drop out).map el
theorem Qs_len (ps : List Pr) {i out : Nat} (h : i ≤ ps.length) : (Qs ps i out).length = i - out := by
  unfold Qs
  rw [List.length_map, List.length_drop, List.length_take, Nat.min_eq_left h]
theorem nthp_get {ps : List Pr} {i : Nat} (h : i < ps.length) : ps[i]? = some (nthp ps i) := by
  unfold nthp
  rw [List.getD_eq_getElem?_getD, List.getElem?_eq_getElem h]
  rfl
theorem Qs_push {ps : List Pr} {i out : Nat} (h : i < ps.length) (ho : out ≤ i) : Qs ps i out ++ [el (nthp ps i)] = Qs ps (i + 1) out := by
  unfold Qs
  rw [List.take_add_one, nthp_get h, List.drop_append_of_le_length (by rw [List.length_take]; omega), List.map_append]
  rfl
theorem Qs_pop {ps : List Pr} {i out : Nat} (h : i ≤ ps.length) (ho : out < i) : Qs ps i out = el (nthp ps out) :: Qs ps i (out + 1) := by
  unfold Qs
  have hl : out < (ps.take i).length := by rw [List.length_take]; omega
  rw [List.drop_eq_getElem_cons hl, List.map_cons, List.getElem_take]
  congr 2
  unfold nthp
  rw [List.getD_eq_getElem?_getD, List.getElem?_eq_getElem (by omega)]
  rfl
theorem Qs_nil (ps : List Pr) (i : Nat) (h : i ≤ ps.length) : Qs ps i i = [] := by
  apply List.eq_nil_of_length_eq_zero
  rw [Qs_len ps h]
  omega

theorem QP.lt {w : World} {E S QT : Nat} {p : Option Addr} {bs : List Nat} {cap : Nat} {xs : List (List Value)} (H : QP w E S QT p bs cap xs) : ∀ b ∈ bs, b < w.heap.size := by
  rcases H with ⟨_, rfl, _⟩ | ⟨qp, sv, head, n, cs, h1, rfl, H, h3⟩
  · intro b hb
    cases hb
  · intro b hb
    rcases List.mem_cons.1 hb with rfl | hb
    · exact (Array.getElem?_eq_some_iff.1 H.str).1
    · exact (H.own.lt b (by simpa using hb)).2

set_option maxHeartbeats 16000000 in
theorem walk_RingPairs (c : Int) (v1 v2 : Value) (ps : List Pr) (zs : List Int) (w : World) (h1 : RdP w v1 ps) (h2 : RdI w v2 zs) (hc0 : -9223372036854775808 ≤ c) (hc1 : c ≤ 9223372036854775807) (hps : ps.length ≤ 9223372036854775807) (hzs : zs.length ≤ 9223372036854775807) :
    Calls Try.prog 5 #[.int .i64 c, v1, v2] w fun e w' => e = .returned (.bool true) ∧ Below w.heap.size w w' := by
  obtain ⟨a1, cap1, rfl, hcap1, h1⟩ := h1
  obtain ⟨a2, cap2, rfl, hcap2, _, hz2, h2⟩ := h2
  have H1 : Hid (ps = [] ∨ _) := h1
  have H2 : Hid (zs = [] ∨ _) := h2
  have HZ2 : Hid (∀ x ∈ zs, _) := hz2
  clear h1 h2 hz2
  by_cases hgood : 1 ≤ c ∧ c ≤ 65536
  case neg =>
    rcases (by omega : c < 1 ∨ (¬ c < 1 ∧ 65536 < c)) with e1 | ⟨e1, e2⟩
    all_goals
      go_enter Try.func5, Try.ntmps5
      go_wp2_with fail
      refine (steady_any w).mono ?_
      rintro e w0 ⟨rfl, hb⟩
      have HB : Hid (Below w.heap.size w w0) := hb
      clear hb
      go_wp2
      go_ret
      exact ⟨rfl, HB.out⟩
  obtain ⟨g1, g2⟩ := hgood
  go_enter Try.func5, Try.ntmps5
  go_wp2_with fail
  refine (steady_any w).mono ?_
  rintro e w0 ⟨rfl, hb⟩
  have HB0 : Hid (Below w.heap.size w w0) := hb
  clear hb
  go_wp2_with fail
  refine (qNew_P w0 c hc0 hc1).mono ?_
  rintro e w1 ⟨p, bs, cap, EE, rfl, hnew, hq, hb⟩
  rcases hnew with ⟨_, _, rfl, hcap, hp, hbs⟩ | ⟨hbad, _⟩
  case inr => omega
  have HB1 : Hid (Below w.heap.size w w1) := bel_trans HB0.out hb
  have HQ1 : Hid (QP w1 68 2 102 p bs cap (Qs ps 0 0)) := (by rw [Qs_nil ps 0 (by omega)]; exact hq : QP w1 68 2 102 p bs cap (Qs ps 0 0))
  have HI1 : Hid (∀ b ∈ bs, w.heap.size ≤ b) := (by
    rw [hbs]
    intro b hb'
    have := HB0.out.size
    simp at hb'
    omega : ∀ b ∈ bs, w.heap.size ≤ b)
  subst hcap
  subst hp
  clear hq hb hbs HB0
  generalize w0.heap.size = QA at *
  have hcb : cap ≤ 65536 := by omega
  have hca : 1 ≤ cap := by omega
  go_wp2
  go_loopw [9, 10, 41] (fun t o i wr => ∃ (I out : Nat) (bs : List Nat), I ≤ ps.length ∧ out ≤ I ∧ I - out ≤ cap ∧ t = .int .i64 (I : Int) ∧ o = .int .i64 (out : Int) ∧ i = .int .i64 (I : Int) ∧ Hid (QP wr 68 2 102 (some ⟨QA, 0, none⟩) bs cap (Qs ps I out)) ∧ Hid (∀ b ∈ bs, w.heap.size ≤ b) ∧ Hid (Below w.heap.size w wr)) (fun _ _ i _ => ps.length - (intOf i).toNat)
  case atStart => exact ⟨0, 0, bs, by omega, by omega, by omega, rfl, rfl, rfl, HQ1, HI1, HB1⟩
  case round =>
    clear HQ1 HI1 HB1
    obtain ⟨I, out, bs, hI, hoI, hroom, rfl, rfl, rfl, HQ, HI, HB⟩ := hrel
    by_cases hlt : I < ps.length
    · obtain ⟨gp, op, ha1, hcp⟩ : ∃ g o, a1 = some ⟨g, o, none⟩ ∧ ∀ j, j < ps.length → w.cell? ⟨g, o + j * 2, none⟩ = some (.int .i64 (nthp ps j).1) ∧ w.cell? ⟨g, o + j * 2 + 1, none⟩ = some (.string (nthp ps j).2) := by
        rcases H1.out with e | h
        · rw [e] at hlt
          simp at hlt
        · exact h
      subst ha1
      have HCP : Hid (∀ j, j < ps.length → w.cell? ⟨gp, op + j * 2, none⟩ = some (.int .i64 (nthp ps j).1) ∧ w.cell? ⟨gp, op + j * 2 + 1, none⟩ = some (.string (nthp ps j).2)) := hcp
      have nn : ∀ x : Nat, x ∉ ([] : List Nat) := fun _ e => by cases e
      have HCW : Hid (∀ W, Below w.heap.size w W → ∀ j, j < ps.length → W.cell? ⟨gp, op + j * 2, none⟩ = some (.int .i64 (nthp ps j).1) ∧ W.cell? ⟨gp, op + j * 2 + 1, none⟩ = some (.string (nthp ps j).2)) := fun W b j hj => ⟨(But.of_below b).cell (HCP.out j hj).1 (nn _), (But.of_below b).cell (HCP.out j hj).2 (nn _)⟩
      clear hcp HCP
      obtain ⟨x, y, hxy⟩ : ∃ x y, nthp ps I = (x, y) := ⟨_, _, rfl⟩
      have c0 := (HCW.out _ HB.out I hlt).1
      have c1 := (HCW.out _ HB.out I hlt).2
      rw [hxy] at c0 c1
      dsimp only at c0 c1
      have HEL : Hid (el (nthp ps I) = [.int .i64 x, .string y]) := (by rw [hxy]; rfl : el (nthp ps I) = _)
      clear hxy
      have hltI : (I : Int) < (ps.length : Int) := by omega
      have hlen := Qs_len ps (out := out) hI
      have AL : Below wr.heap.size wr (wr.alloc (Obj.cells #[Value.int IntKind.i64 x, Value.string y] 68)) := ((But.refl [] wr).alloc _).to_below
      by_cases hf : I - out = cap
      · have hfi : (((I : Int) - (out : Int)) == (cap : Int)) = true := by simp; omega
        obtain ⟨px, py, hpxy⟩ : ∃ x y, nthp ps out = (x, y) := ⟨_, _, rfl⟩
        have HEP : Hid (el (nthp ps out) = [.int .i64 px, .string py]) := (by rw [hpxy]; rfl : el (nthp ps out) = _)
        go_wp2_with fail
        refine (qPushNo_P (HQ.out.below AL) x y (by rw [hlen]; exact hf)).mono ?_
        rintro e w2 ⟨rfl, hb2⟩
        have HB2 : Hid (Below wr.heap.size wr w2) := bel_trans AL hb2
        have hpr : w2.heap[wr.heap.size]? = some (.cells #[.int .i64 x, .string y] 68 (0, 0)) := (But.of_below hb2).heap (heap_alloc_new _ _) (nn _)
        have HPN : Hid (wr.heap.size ∉ bs) := fun h => absurd (HQ.out.lt _ h) (Nat.lt_irrefl _)
        have hq2 := HQ.out.below HB2.out
        rw [Qs_pop hI (by omega), HEP.out] at hq2
        clear c0 c1 hb2 AL
        go_wp2_with fail
        refine (qPop_P px py hq2).mono ?_
        rintro e w4 ⟨rfl, hq4, hb4⟩
        have HPR : Hid (w4.heap[wr.heap.size]? = some (.cells #[.int .i64 x, .string y] 68 (0, 0))) := hb4.heap hpr HPN.out
        have HB4 : Hid (Below w.heap.size w w4) := (bel_trans HB.out HB2.out).trans (hb4.below (bel_trans HB.out HB2.out).size HI.out)
        have HQ4 : Hid (QP w4 68 2 102 (some ⟨QA, 0, none⟩) bs cap (Qs ps I (out + 1))) := hq4
        clear hq2 hq4 hb4 hpr HB2 HQ HB
        go_wp2_with fail
        have hvr : (w4.alloc (Obj.cells #[.int .i64 px, .string py] 68)).heap[w4.heap.size]? = some (.cells #[.int .i64 px, .string py] 68 (0, 0)) := heap_alloc_new _ _
        have HB5 : Hid (Below w4.heap.size w4 (w4.alloc (Obj.cells #[.int .i64 px, .string py] 68))) := ((But.refl [] w4).alloc _).to_below
        have hpr5 := (But.of_below HB5.out).heap HPR.out (nn _)
        have HB6 : Hid (Below w.heap.size w (w4.alloc (Obj.cells #[.int .i64 px, .string py] 68))) := bel_trans HB4.out HB5.out
        have HVN : Hid (w4.heap.size ∉ bs) := fun h => absurd (HQ4.out.lt _ h) (Nat.lt_irrefl _)
        have HQ5 : Hid (QP (w4.alloc (Obj.cells #[.int .i64 px, .string py] 68)) 68 2 102 (some ⟨QA, 0, none⟩) bs cap (Qs ps I (out + 1))) := HQ4.out.below HB5.out
        clear HQ4 HB4 HB5 HPR
        generalize (w4.alloc (Obj.cells #[.int .i64 px, .string py] 68)) = w5 at *
        generalize w4.heap.size = vb at *
        generalize wr.heap.size = pb at *
        obtain ⟨r0, r1, rf⟩ := row2q hvr
        obtain ⟨p0, p1, pf⟩ := row2q hpr5
        have t0 := (HCW.out _ HB6.out out (by omega)).1
        have t1 := (HCW.out _ HB6.out out (by omega)).2
        rw [hpxy] at t0 t1
        dsimp only at t0 t1
        have HGN : Hid (gp ∉ bs) := fun h => by
          have h1 := HI.out gp h
          have h2 := (HCW.out _ (Below.refl _ _) out (by omega)).1
          have h3 : gp < w.heap.size := World.block_lt_of_cell? w _ h2
          omega
        have hol : (out : Int) < (ps.length : Int) := by omega
        have HBd : Hid (Below w5.heap.size w5 w5.drew) := (Below.refl _ _).drew
        have d0 : w5.drew.cell? ⟨vb, 0, none⟩ = some (.int .i64 px) := r0
        have d1 : w5.drew.cell? ⟨vb, 1, none⟩ = some (.string py) := r1
        have d2 : w5.drew.cell? ⟨pb, 0, none⟩ = some (.int .i64 x) := p0
        have d3 : w5.drew.cell? ⟨pb, 1, none⟩ = some (.string y) := p1
        have d4 : w5.drew.cell? ⟨gp, op + out * 2, none⟩ = some (.int .i64 px) := t0
        have d5 : w5.drew.cell? ⟨gp, op + out * 2 + 1, none⟩ = some (.string py) := t1
        clear hvr hpr5 hpxy
        go_region_held3 (fun W => W.cell? ⟨vb, 0, none⟩ = some (.int .i64 px) ∧ W.cell? ⟨vb, 1, none⟩ = some (.string py) ∧ W.cell? ⟨pb, 0, none⟩ = some (.int .i64 x) ∧ W.cell? ⟨pb, 1, none⟩ = some (.string y) ∧ W.cell? ⟨gp, op + out * 2, none⟩ = some (.int .i64 px) ∧ W.cell? ⟨gp, op + out * 2 + 1, none⟩ = some (.string py)) (first | exact ⟨d0, d1, d2, d3, d4, d5⟩ | exact ⟨m0, m1, m2, m3, m4, m5⟩ | go_keep) (first | (go_at_call 29; refine (qPush_P (HQ5.out.below HBd.out) x y (by rw [Qs_len ps hI]; omega)).mono ?_; rintro e w6 ⟨rfl, bs6, hq6, hn6, hb6d⟩; have hb6 : But bs w5 w6 := (But.of_below HBd.out).nil.trans hb6d; have m0 : w6.cell? ⟨vb, 0, none⟩ = some (.int .i64 px) := hb6.cell r0 HVN.out; have m1 : w6.cell? ⟨vb, 1, none⟩ = some (.string py) := hb6.cell r1 HVN.out; have m2 : w6.cell? ⟨pb, 0, none⟩ = some (.int .i64 x) := hb6.cell p0 HPN.out; have m3 : w6.cell? ⟨pb, 1, none⟩ = some (.string y) := hb6.cell p1 HPN.out; have m4 : w6.cell? ⟨gp, op + out * 2, none⟩ = some (.int .i64 px) := hb6.cell t0 HGN.out; have m5 : w6.cell? ⟨gp, op + out * 2 + 1, none⟩ = some (.string py) := hb6.cell t1 HGN.out; have HQ6 : Hid (QP w6 68 2 102 (some ⟨QA, 0, none⟩) bs6 cap (Qs ps (I + 1) (out + 1))) := (by rw [← Qs_push hlt (by omega), HEL.out]; exact hq6 : QP w6 68 2 102 (some ⟨QA, 0, none⟩) bs6 cap (Qs ps (I + 1) (out + 1))); have HI6 : Hid (∀ b ∈ bs6, w.heap.size ≤ b) := (fun b hb' => (hn6 b hb').elim (HI.out b) (fun h => Nat.le_trans HB6.out.size h)); have HB7 : Hid (Below w.heap.size w w6) := HB6.out.trans (hb6.below HB6.out.size HI.out); clear hq6 hn6 hb6d hb6))
        have HB6x : Hid (Below w.heap.size w w6) := HB7
        clear HB7 r0 r1 p0 p1 t0 t1 d0 d1 d2 d3 d4 d5 m0 m1 m2 m3 m4 m5 HQ5 HB6 HBd HVN HPN hol
        by_cases hz : I < zs.length
        · obtain ⟨z, hzz⟩ : ∃ z, zs[I]? = some z := ⟨_, List.getElem?_eq_getElem hz⟩
          obtain ⟨gz, oz, ha2, hcz⟩ : ∃ g o, a2 = some ⟨g, o, none⟩ ∧ w.cell? ⟨g, o + I, none⟩ = some (.int .i64 z) := by
            rcases H2.out with e | ⟨g, o, ha, h⟩
            · rw [e] at hz
              simp at hz
            · exact ⟨g, o, ha, h I z hzz⟩
          subst ha2
          have czz := (But.of_below HB6x.out).cell hcz (nn _)
          clear hcz
          have hzi : decide ((I : Int) < (zs.length : Int)) = true := by simp; omega
          by_cases hev : (z.tmod 2 == 0) = true
          · go_wp2_with fail
            obtain ⟨rx, ry, hrxy⟩ : ∃ x y, nthp ps (out + 1) = (x, y) := ⟨_, _, rfl⟩
            have hq4 := HQ6.out
            rw [Qs_pop (by omega) (by omega), (by rw [hrxy]; rfl : el (nthp ps (out + 1)) = [.int .i64 rx, .string ry])] at hq4
            refine (qPop_P rx ry hq4).mono ?_
            rintro e w7 ⟨rfl, hq5, hb5⟩
            have HQ7 : Hid (QP w7 68 2 102 (some ⟨QA, 0, none⟩) bs6 cap (Qs ps (I + 1) ((out + 1) + 1))) := hq5
            have HB7 : Hid (Below w.heap.size w w7) := HB6x.out.trans (hb5.below HB6x.out.size HI6.out)
            clear hq4 hq5 hb5 czz 
            go_wp2_with fail
            have hvr : (w7.alloc (Obj.cells #[.int .i64 rx, .string ry] 68)).heap[w7.heap.size]? = some (.cells #[.int .i64 rx, .string ry] 68 (0, 0)) := heap_alloc_new _ _
            have HB8 : Hid (Below w7.heap.size w7 (w7.alloc (Obj.cells #[.int .i64 rx, .string ry] 68))) := ((But.refl [] w7).alloc _).to_below
            have HB9 : Hid (Below w.heap.size w (w7.alloc (Obj.cells #[.int .i64 rx, .string ry] 68))) := bel_trans HB7.out HB8.out
            have HQ9 : Hid (QP (w7.alloc (Obj.cells #[.int .i64 rx, .string ry] 68)) 68 2 102 (some ⟨QA, 0, none⟩) bs6 cap (Qs ps (I + 1) ((out + 1) + 1))) := HQ7.out.below HB8.out
            clear HQ7 HB7 HB8
            generalize w7.alloc (Obj.cells #[.int .i64 rx, .string ry] 68) = w8 at *
            generalize w7.heap.size = vb at *
            obtain ⟨r0, r1, rf⟩ := row2q hvr
            have t0 := (HCW.out _ HB9.out (out + 1) (by omega)).1
            have t1 := (HCW.out _ HB9.out (out + 1) (by omega)).2
            rw [hrxy] at t0 t1
            dsimp only at t0 t1
            have hol : ((out + 1) : Int) < (ps.length : Int) := by omega
            have hol0 : 0 ≤ ((out + 1) : Int) := by omega
            have hol2 : ((out + 1) : Int).toNat = (out + 1) := by omega
            clear hvr hrxy
            go_quiet (fail)
            go_wp2_with fail
            exact ⟨⟨I + 1, (out + 1) + 1, bs6, by omega, by omega, by omega, by simp, by simp, by simp, HQ9.out.below (bel_drewN (Below.refl _ _) _), HI6, bel_drewN HB9.out _⟩, by simp [intOf]; omega⟩
          · have hev' : (z.tmod 2 == 0) = false := by simpa using hev
            clear hev
            go_wp2_with fail
            exact ⟨⟨I + 1, (out + 1), bs6, by omega, by omega, by omega, by simp, by simp, by simp, HQ6, HI6, HB6x⟩, by simp [intOf]; omega⟩
        · have hzi : decide ((I : Int) < (zs.length : Int)) = false := by simp; omega
          go_wp2_with fail
          exact ⟨⟨I + 1, (out + 1), bs6, by omega, by omega, by omega, by simp, by simp, by simp, HQ6, HI6, HB6x⟩, by simp [intOf]; omega⟩

      · have hfi : (((I : Int) - (out : Int)) == (cap : Int)) = false := by simp; omega
        go_wp2_with fail
        refine (qPush_P (HQ.out.below AL) x y (by rw [hlen]; omega)).mono ?_
        rintro e w3 ⟨rfl, bs3, hq3, hn3, hb3⟩
        rw [← HEL.out, Qs_push hlt hoI] at hq3
        have HQ3 : Hid (QP w3 68 2 102 (some ⟨QA, 0, none⟩) bs3 cap (Qs ps (I + 1) out)) := hq3
        have HI3 : Hid (∀ b ∈ bs3, w.heap.size ≤ b) := (by
          intro b hb'
          rcases hn3 b hb' with h | h
          · exact HI.out b h
          · exact Nat.le_trans (Nat.le_trans HB.out.size AL.size) h : ∀ b ∈ bs3, w.heap.size ≤ b)
        have HB3 : Hid (Below w.heap.size w w3) := (bel_trans HB.out AL).trans (hb3.below (Nat.le_trans HB.out.size AL.size) HI.out)
        clear hq3 hn3 hb3 AL
        by_cases hz : I < zs.length
        · obtain ⟨z, hzz⟩ : ∃ z, zs[I]? = some z := ⟨_, List.getElem?_eq_getElem hz⟩
          obtain ⟨gz, oz, ha2, hcz⟩ : ∃ g o, a2 = some ⟨g, o, none⟩ ∧ w.cell? ⟨g, o + I, none⟩ = some (.int .i64 z) := by
            rcases H2.out with e | ⟨g, o, ha, h⟩
            · rw [e] at hz
              simp at hz
            · exact ⟨g, o, ha, h I z hzz⟩
          subst ha2
          have czz := (But.of_below HB3.out).cell hcz (nn _)
          clear hcz
          have hzi : decide ((I : Int) < (zs.length : Int)) = true := by simp; omega
          by_cases hev : (z.tmod 2 == 0) = true
          · go_wp2_with fail
            obtain ⟨rx, ry, hrxy⟩ : ∃ x y, nthp ps out = (x, y) := ⟨_, _, rfl⟩
            have hq4 := HQ3.out
            rw [Qs_pop (by omega) (by omega), (by rw [hrxy]; rfl : el (nthp ps out) = [.int .i64 rx, .string ry])] at hq4
            refine (qPop_P rx ry hq4).mono ?_
            rintro e w7 ⟨rfl, hq5, hb5⟩
            have HQ7 : Hid (QP w7 68 2 102 (some ⟨QA, 0, none⟩) bs3 cap (Qs ps (I + 1) (out + 1))) := hq5
            have HB7 : Hid (Below w.heap.size w w7) := HB3.out.trans (hb5.below HB3.out.size HI3.out)
            clear hq4 hq5 hb5 czz c0 c1
            go_wp2_with fail
            have hvr : (w7.alloc (Obj.cells #[.int .i64 rx, .string ry] 68)).heap[w7.heap.size]? = some (.cells #[.int .i64 rx, .string ry] 68 (0, 0)) := heap_alloc_new _ _
            have HB8 : Hid (Below w7.heap.size w7 (w7.alloc (Obj.cells #[.int .i64 rx, .string ry] 68))) := ((But.refl [] w7).alloc _).to_below
            have HB9 : Hid (Below w.heap.size w (w7.alloc (Obj.cells #[.int .i64 rx, .string ry] 68))) := bel_trans HB7.out HB8.out
            have HQ9 : Hid (QP (w7.alloc (Obj.cells #[.int .i64 rx, .string ry] 68)) 68 2 102 (some ⟨QA, 0, none⟩) bs3 cap (Qs ps (I + 1) (out + 1))) := HQ7.out.below HB8.out
            clear HQ7 HB7 HB8
            generalize w7.alloc (Obj.cells #[.int .i64 rx, .string ry] 68) = w8 at *
            generalize w7.heap.size = vb at *
            obtain ⟨r0, r1, rf⟩ := row2q hvr
            have t0 := (HCW.out _ HB9.out out (by omega)).1
            have t1 := (HCW.out _ HB9.out out (by omega)).2
            rw [hrxy] at t0 t1
            dsimp only at t0 t1
            have hol : (out : Int) < (ps.length : Int) := by omega
            have hol0 : 0 ≤ (out : Int) := by omega
            have hol2 : (out : Int).toNat = out := by omega
            clear hvr hrxy
            go_quiet (fail)
            go_wp2_with fail
            exact ⟨⟨I + 1, out + 1, bs3, by omega, by omega, by omega, by simp, by simp, by simp, HQ9.out.below (bel_drewN (Below.refl _ _) _), HI3, bel_drewN HB9.out _⟩, by simp [intOf]; omega⟩
          · have hev' : (z.tmod 2 == 0) = false := by simpa using hev
            clear hev
            go_wp2_with fail
            exact ⟨⟨I + 1, out, bs3, by omega, by omega, by omega, by simp, by simp, by simp, HQ3, HI3, HB3⟩, by simp [intOf]; omega⟩
        · have hzi : decide ((I : Int) < (zs.length : Int)) = false := by simp; omega
          go_wp2_with fail
          exact ⟨⟨I + 1, out, bs3, by omega, by omega, by omega, by simp, by simp, by simp, HQ3, HI3, HB3⟩, by simp [intOf]; omega⟩

    · obtain rfl : I = ps.length := by omega
      have hltI : ¬ (ps.length : Int) < (ps.length : Int) := by omega
      go_wp2_with fail
      have hlen := Qs_len ps (out := out) (Nat.le_refl _)
      refine (qLen_P HQ.out).mono ?_
      rintro e w2 ⟨rfl, hb2⟩
      have HB2 : Hid (Below w.heap.size w w2) := bel_trans HB.out hb2
      have HQ2 : Hid (QP w2 68 2 102 (some ⟨QA, 0, none⟩) bs cap (Qs ps ps.length out)) := HQ.out.below hb2
      clear hb2 HB HQ
      rw [hlen]
      have hne : (((ps.length - out : Nat) : Int) != (ps.length : Int) - (out : Int)) = false := by simp; omega
      go_wp2_with fail
      clear hlen hne hroom
      go_loopw [10] (fun o wr => ∃ (out : Nat), out ≤ ps.length ∧ o = .int .i64 (out : Int) ∧ Hid (QP wr 68 2 102 (some ⟨QA, 0, none⟩) bs cap (Qs ps ps.length out)) ∧ Hid (Below w.heap.size w wr)) (fun o _ => ps.length - (intOf o).toNat)
      case atStart => exact ⟨out, by omega, rfl, HQ2, HB2⟩
      case round =>
        clear HQ2 HB2 hoI
        clear hltI
        rename_i out0
        obtain ⟨out, hoI, rfl, HQ, HB⟩ := hrel
        by_cases hlt : out < ps.length
        · obtain ⟨gp, op, ha1, hcp⟩ : ∃ g o, a1 = some ⟨g, o, none⟩ ∧ ∀ j, j < ps.length → w.cell? ⟨g, o + j * 2, none⟩ = some (.int .i64 (nthp ps j).1) ∧ w.cell? ⟨g, o + j * 2 + 1, none⟩ = some (.string (nthp ps j).2) := by
            rcases H1.out with e | h
            · rw [e] at hlt
              simp at hlt
            · exact h
          subst ha1
          have nn : ∀ x : Nat, x ∉ ([] : List Nat) := fun _ e => by cases e
          obtain ⟨rx, ry, hrxy⟩ : ∃ x y, nthp ps out = (x, y) := ⟨_, _, rfl⟩
          have hc1' := hcp out hlt
          rw [hrxy] at hc1'
          have HCO : Hid (w.cell? ⟨gp, op + out * 2, none⟩ = some (.int .i64 rx) ∧ w.cell? ⟨gp, op + out * 2 + 1, none⟩ = some (.string ry)) := hc1'
          clear hc1' hcp
          have hltI : (out : Int) < (ps.length : Int) := by omega
          go_wp2_with fail
          have hq4 := HQ.out
          rw [Qs_pop (Nat.le_refl _) hlt, (by rw [hrxy]; rfl : el (nthp ps out) = [.int .i64 rx, .string ry])] at hq4
          refine (qPop_P rx ry hq4).mono ?_
          rintro e w7 ⟨rfl, hq5, hb5⟩
          have HQ7 : Hid (QP w7 68 2 102 (some ⟨QA, 0, none⟩) bs cap (Qs ps ps.length (out + 1))) := hq5
          have HB7 : Hid (Below w.heap.size w w7) := HB.out.trans (hb5.below HB.out.size HI.out)
          clear hq4 hq5 hb5
          go_wp2_with fail
          have hvr : (w7.alloc (Obj.cells #[.int .i64 rx, .string ry] 68)).heap[w7.heap.size]? = some (.cells #[.int .i64 rx, .string ry] 68 (0, 0)) := heap_alloc_new _ _
          have HB8 : Hid (Below w7.heap.size w7 (w7.alloc (Obj.cells #[.int .i64 rx, .string ry] 68))) := ((But.refl [] w7).alloc _).to_below
          have HB9 : Hid (Below w.heap.size w (w7.alloc (Obj.cells #[.int .i64 rx, .string ry] 68))) := bel_trans HB7.out HB8.out
          have HQ9 : Hid (QP (w7.alloc (Obj.cells #[.int .i64 rx, .string ry] 68)) 68 2 102 (some ⟨QA, 0, none⟩) bs cap (Qs ps ps.length (out + 1))) := HQ7.out.below HB8.out
          clear HQ7 HB7 HB8
          generalize w7.alloc (Obj.cells #[.int .i64 rx, .string ry] 68) = w8 at *
          generalize w7.heap.size = vb at *
          obtain ⟨r0, r1, rf⟩ := row2q hvr
          have t0 := (But.of_below HB9.out).cell HCO.out.1 (nn _)
          have t1 := (But.of_below HB9.out).cell HCO.out.2 (nn _)
          clear hvr hrxy
          go_quiet (fail)
          go_wp2_with fail
          exact ⟨⟨out + 1, by omega, by simp, HQ9.out.below (bel_drewN (Below.refl _ _) _), bel_drewN HB9.out _⟩, by simp [intOf]; omega⟩
        · obtain rfl : out = ps.length := by omega
          have hltI : ¬ (ps.length : Int) < (ps.length : Int) := by omega
          go_wp2_with fail
          have hq4 := HQ.out
          rw [Qs_nil ps _ (Nat.le_refl _)] at hq4
          refine (qPopNo_P hq4).mono ?_
          rintro e w7 ⟨rfl, hb7⟩
          have HB7 : Hid (Below w.heap.size w w7) := bel_trans HB.out hb7
          clear hq4 hb7
          go_wp2
          go_ret
          exact ⟨rfl, HB7.out⟩

end Rg
end Go.Proofs.Ytiecfidkoficnaa
