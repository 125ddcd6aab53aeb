/-
  span: the document's Merge.
-/
import Derived.Test.YtenipnlpambehaaDoorZzN
set_option linter.unusedVariables false
set_option linter.unusedSimpArgs false
namespace Go.Proofs.YtenipnlpambehaaDoor
open Go.RowKit Go.Shelf
namespace Sn
open Oc Tg Ac

theorem OwnN.setLow {T B : Nat} {v : Value} {t : List Sp} {w : World} (h : OwnN T B v t w) {p : Addr} (hp : p.block < B) (x : Value) : OwnN T B v t (w.setCell p x) := by
  refine ⟨h.1, ?_⟩
  rcases h.2 with hn | ⟨g, cap, cur, rfl, hb, hg, rest⟩
  · exact .inl hn
  · refine .inr ⟨g, cap, cur, rfl, hb, ?_, rest⟩
    have : p.block ≠ g := by omega
    simp [World.setCell, Array.getElem?_modify, hg, this]
theorem PB.set0 {T : Nat} {w : World} {g : Nat} {t : Sp} (h : PB T w g t) (a : Int) : PB T (w.setCell ⟨g, 0, none⟩ (.int .i64 a)) g (a, t.2) := by
  unfold PB at h ⊢
  simp [World.setCell, Array.getElem?_modify, h]
theorem PB.set1 {T : Nat} {w : World} {g : Nat} {t : Sp} (h : PB T w g t) (b : Int) : PB T (w.setCell ⟨g, 1, none⟩ (.int .i64 b)) g (t.1, b) := by
  unfold PB at h ⊢
  simp [World.setCell, Array.getElem?_modify, h]
theorem PB.below' {T B : Nat} {w w' : World} {g : Nat} {t : Sp} (h : PB T w g t) (b : Below B w w') (hg : g < B) : PB T w' g t := by
  unfold PB at *
  rw [b.block g hg]
  exact h
theorem OwnN.allocN {T B : Nat} {v : Value} {t : List Sp} {w : World} (h : OwnN T B v t w) (o : Obj) : OwnN T B v t (w.alloc o) := h.below ((Below.refl _ w).alloc (Nat.le_refl _) _)
theorem InsI.len {x : Sp} {l out : List Sp} {k : Nat} {b : Bool} (h : InsI x l k out b) : out.length ≤ l.length + 1 := by
  unfold InsI at h
  have e := congrArg List.length h
  rw [insS_len, List.length_append] at e
  omega
theorem rd_cells {g o n c : Nat} {t : List Sp} {w : World} (h : RdN (.slice (some ⟨g, o, none⟩) n c) t w) {i : Nat} (hi : i < t.length) : w.cell? ⟨g, o + i * 2, none⟩ = some (.int .i64 (nthN t i).1) ∧ w.cell? ⟨g, o + i * 2 + 1, none⟩ = some (.int .i64 (nthN t i).2) := by
  obtain ⟨a, c', e, h⟩ := h
  injection e with e1 e2 e3
  rcases h with h | ⟨g', o', ea, _, hc⟩
  · rw [h] at hi; simp at hi
  rw [ea] at e1
  injection e1 with e4
  injection e4 with e5 e6
  subst e5 e6
  exact hc i hi
theorem bel_set {B : Nat} {w w' : World} (h : Below B w w') {p : Addr} (hp : B ≤ p.block) (x : Value) : Below B w (w'.setCell p x) := h.setCell hp x
theorem take_nthJ (t : List Sp) (k : Nat) (h : k < t.length) : t.take (k + 1) = t.take k ++ [nthN t k] := by
  unfold nthN
  rw [List.take_add_one, List.getElem?_eq_getElem h, List.getD_eq_getElem?_getD, List.getElem?_eq_getElem h]; rfl
theorem nthN_in {t : List Sp} {k : Nat} (h : k < t.length) : nthN t k ∈ t := by
  have : nthN t k = t[k] := by unfold nthN; rw [List.getD_eq_getElem?_getD, List.getElem?_eq_getElem h]; rfl
  rw [this]; exact List.getElem_mem h

set_option maxRecDepth 100000 in
set_option maxHeartbeats 4000000 in
theorem rMerge_any (v : Value) (t : List Sp) (w : World) (h : RdN v t w) (hl : t.length ≤ 16777216) :
    Calls Tryd.prog 10 #[v] w fun e w' => ∃ u m, e = .returned u ∧ OwnN 55 w.heap.size u m w' ∧ DInv t m ∧ Below w.heap.size w w' := by
  have HR : Hid (RdN v t w) := h
  obtain ⟨va, vc, rfl, _⟩ := h
  go_enter Tryd.func10, Tryd.ntmps10
  go_wp2
  go_loopw [3, 4] (fun ov i wr => ∃ (k : Nat) (acc : List Sp), k ≤ t.length ∧ i = .int .i64 k ∧ Hid (OwnN 55 w.heap.size ov acc wr) ∧ Hid (DInv (t.take k) acc) ∧ Hid (Below w.heap.size w wr)) (fun _ i _ => t.length - (intOf i).toNat)
  case atStart => exact ⟨0, [], Nat.zero_le _, rfl, ownN_empty _ w (Nat.le_refl _), (⟨trivial, fun _ => rfl, Nat.le_refl _⟩ : DInv [] []), (Below.refl _ w).alloc (Nat.le_refl _) _⟩
  case round =>
    obtain ⟨wo, rfl⟩ : ∃ wo, wo = wr := ⟨_, rfl⟩
    obtain ⟨k, acc, hk, rfl, hown, hdi, hbl⟩ := hrel
    have hsz := hbl.out.size
    by_cases hlt : k < t.length
    · obtain ⟨a1', c1', e1', hcs1⟩ := HR.out.below hbl.out
      injection e1' with e11 _ e12
      subst e11 e12
      rcases hcs1 with h | ⟨g1, o1, rfl, hlc1, hcell1⟩
      · rw [h] at hlt; simp at hlt
      obtain ⟨p0, p1⟩ := hcell1 k hlt
      clear hcell1
      have HTk : Hid (t.take (k + 1) = t.take k ++ [nthN t k]) := take_nthJ t k hlt
      have hal : acc.length ≤ 16777216 := by have := hdi.out.2.2; rw [List.length_take] at this; omega
      obtain ⟨X, hX⟩ : ∃ X, X = nthN t k := ⟨_, rfl⟩
      rw [← hX] at p0 p1 HTk
      clear hX
      obtain ⟨x1, x2⟩ := X
      dsimp only at p0 p1
      obtain ⟨w2, hw2⟩ : ∃ w2, w2 = wo.alloc (.cells #[.int .i64 x1, .int .i64 x2] 55) := ⟨_, rfl⟩
      have HP2 : Hid (PB 55 w2 wo.heap.size (x1, x2)) := (by rw [hw2]; exact PB.new _ wo (x1, x2) : PB _ _ _ _)
      have HB2 : Hid (Below wo.heap.size wo w2) := (by rw [hw2]; exact (Below.refl _ wo).alloc (Nat.le_refl _) _ : Below _ _ _)
      have hz2 : w2.heap.size = wo.heap.size + 1 := by rw [hw2]; simp
      have HO2 : Hid (OwnN 55 w.heap.size _ acc w2) := hown.out.below HB2.out
      have HBw : Hid (Below w.heap.size w w2) := hbl.out.trans (HB2.out.mono hsz)
      have q0 := HP2.out.c0
      have q1 := HP2.out.c1
      obtain ⟨oa, oc, rfl⟩ := hown.out.form
      by_cases hx : x1 < x2
      · have hxd : decide (x2 ≤ x1) = false := by simp; omega
        obtain ⟨w3, hw3⟩ : ∃ w3, w3 = w2.alloc (.cells #[] 55) := ⟨_, rfl⟩
        have hz3 : w3.heap.size = w2.heap.size + 1 := by rw [hw3]; simp
        have HB3 : Hid (Below w2.heap.size w2 w3) := (by rw [hw3]; exact (Below.refl _ w2).alloc (Nat.le_refl _) _ : Below _ _ _)
        have HK3 : Hid (OwnN 55 (wo.heap.size + 1) (.slice (some ⟨wo.heap.size + 1, 0, none⟩) 0 0) [] w3) := (by rw [hw3, show wo.heap.size + 1 = w2.heap.size by omega]; exact ownN_empty _ w2 (Nat.le_refl _) : OwnN _ _ _ _ _)
        have HP3 : Hid (PB 55 w3 wo.heap.size (x1, x2)) := HP2.out.below HB3.out
        have HBx : Hid (Below wo.heap.size wo w3) := HB2.out.trans (HB3.out.mono (by omega))
        go_wp2_with fail
        try rw [← hw2]
        try rw [← hw3]
        go_wp2
        try rw [← hw2]
        try rw [← hw3]
        clear q0 q1 HP2 p0 p1
        go_loopw [6, 7] (fun kv jv wq => ∃ (j : Nat) (x kp : _), j ≤ acc.length ∧ jv = .int .i64 j ∧ Hid (KInv (x1, x2) (acc.take j) x kp) ∧ Hid (OwnN 55 (wo.heap.size + 1) kv kp wq) ∧ Hid (PB 55 wq wo.heap.size x) ∧ Hid (Below wo.heap.size wo wq) ∧ wo.heap.size + 1 ≤ wq.heap.size) (fun _ jv _ => acc.length - (intOf jv).toNat)
        case atStart => exact ⟨0, (x1, x2), [], Nat.zero_le _, rfl, (KInv.start hx : KInv _ [] _ _), HK3, HP3, HBx, by omega⟩
        case round =>
          obtain ⟨wq, rfl⟩ : ∃ wq, wq = wr := ⟨_, rfl⟩
          obtain ⟨j, X, kp, hj, rfl, hki, hok, hpx, hbx, hgz⟩ := hrel
          obtain ⟨xa, xb⟩ := X
          have hkl : kp.length + 1 ≤ 2147483648 := by have := hki.out.len; rw [List.length_take] at this; omega
          obtain ⟨ka, kc, rfl⟩ := hok.out.form
          by_cases hlj : j < acc.length
          · have HRd : RdN (.slice oa acc.length oc) acc wq := hown.out.rd.below hbx.out
            obtain ⟨a2, c2, e2, hcs2⟩ := HRd
            injection e2 with e21 _ e22
            subst e21 e22
            rcases hcs2 with h | ⟨g2, o2, rfl, hlc2, hcell2⟩
            · rw [h] at hlj; simp at hlj
            obtain ⟨r0, r1⟩ := hcell2 j hlj
            clear hcell2
            have hky := KInv.step (y := nthN acc j) hki.out (Norm.pos hdi.out.1 _ (nthN_in hlj)) (Norm.mem_lt hdi.out.1 hlj)
            rw [← take_nthJ acc j hlj] at hky
            obtain ⟨Y, hY⟩ : ∃ Y, Y = nthN acc j := ⟨_, rfl⟩
            rw [← hY] at r0 r1 hky
            clear hY
            obtain ⟨y1, y2⟩ := Y
            dsimp only at r0 r1
            obtain ⟨w4, hw4⟩ : ∃ w4, w4 = wq.alloc (.cells #[.int .i64 y1, .int .i64 y2] 55) := ⟨_, rfl⟩
            have HBq : Hid (Below wq.heap.size wq w4) := (by rw [hw4]; exact (Below.refl _ wq).alloc (Nat.le_refl _) _ : Below _ _ _)
            have hz4 : w4.heap.size = wq.heap.size + 1 := by rw [hw4]; simp
            have hz4b : wo.heap.size + 1 ≤ w4.heap.size := by omega
            have HX4 : Hid (PB 55 w4 wo.heap.size (xa, xb)) := hpx.out.below HBq.out
            have HK4 : Hid (OwnN 55 (wo.heap.size + 1) _ kp w4) := hok.out.below HBq.out
            have HB4 : Hid (Below wo.heap.size wo w4) := hbx.out.trans (HBq.out.mono (by omega))
            have u0 := hpx.out.c0
            have u1 := hpx.out.c1
            have f0 := hpx.out.f 0
            have f1 := hpx.out.f 1
            have hlq : wo.heap.size < wq.heap.size := by omega
            have hne1 : wo.heap.size ≠ wq.heap.size := by omega
            have hne2 : wq.heap.size ≠ wo.heap.size := by omega
            unfold keepS at hky
            dsimp only at hky
            by_cases hA : y2 < xa
            · rw [if_pos (.inl hA)] at hky
              have HKY : Hid (KInv (x1, x2) (acc.take (j + 1)) (xa, xb) (kp ++ [(y1, y2)])) := hky
              clear hky
              go_wp2_with (at_builtin; rw [← hw4]; go_must (refine wp_appN 55 33 infoN2 Tryd.underlying33 rfl (.tmp 50) (.tmp 52) rfl (wo.heap.size + 1) _ kp _ (y1, y2) _ _ rfl rfl (by simp [Act.eval, Act.put]) HK4.out _ (by simp [Act.eval, Act.put]) hz4.symm hkl hz4b ?_; intro va5 w5 hown5 hb5))
              have HO5 : Hid (OwnN 55 (wo.heap.size + 1) va5 (kp ++ [(y1, y2)]) w5) := hown5
              have HP5 : Hid (PB 55 w5 wo.heap.size (xa, xb)) := HX4.out.below' hb5 (by omega)
              have HB5 : Hid (Below wo.heap.size wo w5) := HB4.out.trans (hb5.mono (by omega))
              have hz5 := hb5.size
              clear hown5 hb5
              go_wp2
              go_roundw
              case rel => exact ⟨j + 1, (xa, xb), kp ++ [(y1, y2)], by omega, by go_num, HKY, HO5, HP5, HB5, by omega⟩
              case measure => simp [intOf]; omega
            by_cases hB : xb < y1
            · rw [if_pos (.inr hB)] at hky
              have HKY : Hid (KInv (x1, x2) (acc.take (j + 1)) (xa, xb) (kp ++ [(y1, y2)])) := hky
              clear hky
              go_wp2_with (at_builtin; rw [← hw4]; go_must (refine wp_appN 55 33 infoN2 Tryd.underlying33 rfl (.tmp 50) (.tmp 52) rfl (wo.heap.size + 1) _ kp _ (y1, y2) _ _ rfl rfl (by simp [Act.eval, Act.put]) HK4.out _ (by simp [Act.eval, Act.put]) hz4.symm hkl hz4b ?_; intro va5 w5 hown5 hb5))
              have HO5 : Hid (OwnN 55 (wo.heap.size + 1) va5 (kp ++ [(y1, y2)]) w5) := hown5
              have HP5 : Hid (PB 55 w5 wo.heap.size (xa, xb)) := HX4.out.below' hb5 (by omega)
              have HB5 : Hid (Below wo.heap.size wo w5) := HB4.out.trans (hb5.mono (by omega))
              have hz5 := hb5.size
              clear hown5 hb5
              go_wp2
              go_roundw
              case rel => exact ⟨j + 1, (xa, xb), kp ++ [(y1, y2)], by omega, by go_num, HKY, HO5, HP5, HB5, by omega⟩
              case measure => simp [intOf]; omega
            rw [if_neg (by omega)] at hky
            dsimp only at hky
            by_cases h1 : y1 < xa
            · by_cases h2 : y2 > xb
              · rw [if_pos h1, if_pos h2] at hky
                have HKY : Hid (KInv (x1, x2) (acc.take (j + 1)) (y1, y2) kp) := hky
                clear hky
                go_wp2
                try rw [← hw4]
                go_roundw
                case rel => exact ⟨j + 1, (y1, y2), kp, by omega, by go_num, HKY, OwnN.allocN ((hok.out.setLow (p := ⟨wo.heap.size, 0, none⟩) (Nat.lt_succ_self _) _).setLow (p := ⟨wo.heap.size, 1, none⟩) (Nat.lt_succ_self _) _) _, PB.alloc ((hpx.out.set0 y1).set1 y2) _, Below.alloc (bel_set (bel_set hbx.out (p := ⟨wo.heap.size, 0, none⟩) (Nat.le_refl _) _) (p := ⟨wo.heap.size, 1, none⟩) (Nat.le_refl _) _) (by first | omega | (simp; omega)) _, by first | omega | (simp; omega)⟩
                case measure => simp [intOf]; omega
              · rw [if_pos h1, if_neg h2] at hky
                have HKY : Hid (KInv (x1, x2) (acc.take (j + 1)) (y1, xb) kp) := hky
                clear hky
                go_wp2
                try rw [← hw4]
                go_roundw
                case rel => exact ⟨j + 1, (y1, xb), kp, by omega, by go_num, HKY, OwnN.allocN (hok.out.setLow (p := ⟨wo.heap.size, 0, none⟩) (Nat.lt_succ_self _) _) _, PB.alloc (hpx.out.set0 y1) _, Below.alloc (bel_set hbx.out (p := ⟨wo.heap.size, 0, none⟩) (Nat.le_refl _) _) (by first | omega | (simp; omega)) _, by first | omega | (simp; omega)⟩
                case measure => simp [intOf]; omega
            · by_cases h2 : y2 > xb
              · rw [if_neg h1, if_pos h2] at hky
                have HKY : Hid (KInv (x1, x2) (acc.take (j + 1)) (xa, y2) kp) := hky
                clear hky
                go_wp2
                try rw [← hw4]
                go_roundw
                case rel => exact ⟨j + 1, (xa, y2), kp, by omega, by go_num, HKY, OwnN.allocN (hok.out.setLow (p := ⟨wo.heap.size, 1, none⟩) (Nat.lt_succ_self _) _) _, PB.alloc (hpx.out.set1 y2) _, Below.alloc (bel_set hbx.out (p := ⟨wo.heap.size, 1, none⟩) (Nat.le_refl _) _) (by first | omega | (simp; omega)) _, by first | omega | (simp; omega)⟩
                case measure => simp [intOf]; omega
              · rw [if_neg h1, if_neg h2] at hky
                have HKY : Hid (KInv (x1, x2) (acc.take (j + 1)) (xa, xb) kp) := hky
                clear hky
                go_wp2
                try rw [← hw4]
                go_roundw
                case rel => exact ⟨j + 1, (xa, xb), kp, by omega, by go_num, HKY, HK4.out, HX4.out, HB4.out, by first | omega | (simp; omega)⟩
                case measure => simp [intOf]; omega
          · obtain rfl : j = acc.length := by omega
            rw [List.take_length] at hki
            have HKr : Hid (RdN (.slice ka kp.length kc) kp wq) := hok.out.rd
            have hkl2 : kp.length ≤ 16777216 := by have := hki.out.len; omega
            go_wp2
            go_loopw [3, 9, 10] (fun ov pv iv ws => ∃ (i : Nat) (b : Bool) (out : List Sp), i ≤ kp.length ∧ pv = .bool b ∧ iv = .int .i64 i ∧ Hid (InsI (xa, xb) kp i out b) ∧ Hid (OwnN 55 wq.heap.size ov out ws) ∧ Hid (Below wq.heap.size wq ws)) (fun _ _ iv _ => kp.length - (intOf iv).toNat)
            case atStart => exact ⟨0, false, [], Nat.zero_le _, rfl, rfl, InsI.start _ _, ownN_empty _ wq (Nat.le_refl _), (Below.refl _ wq).alloc (Nat.le_refl _) _⟩
            case round =>
              obtain ⟨i, b, out, hi, rfl, rfl, hins, hoo, hbo⟩ := hrel
              have hol := hins.out.len
              have hso := hbo.out.size
              have hpo := hpx.out.below' hbo.out (by omega)
              have u0 := hpo.c0
              have u1 := hpo.c1
              obtain ⟨fa, fc, rfl⟩ := hoo.out.form
              by_cases hli : i < kp.length
              · obtain ⟨a3, c3, e3, hcs3⟩ := HKr.out.below hbo.out
                injection e3 with e31 _ e32
                subst e31 e32
                rcases hcs3 with h | ⟨g3, o3, rfl, hlc3, hcell3⟩
                · rw [h] at hli; simp at hli
                obtain ⟨r0, r1⟩ := hcell3 i hli
                clear hcell3
                have HI1 : Hid (b = true → InsI (xa, xb) kp (i + 1) (out ++ [nthN kp i]) true) := (fun h => by have h2 := hins.out; rw [h] at h2; exact h2.behind hli : b = true → _)
                have HI2 : Hid (b = false → xa < (nthN kp i).1 → InsI (xa, xb) kp (i + 1) (out ++ [(xa, xb)] ++ [nthN kp i]) true) := (fun h hc => by have h2 := hins.out; rw [h] at h2; exact h2.here hli hc : b = false → _)
                have HI3 : Hid (b = false → ¬ xa < (nthN kp i).1 → InsI (xa, xb) kp (i + 1) (out ++ [nthN kp i]) false) := (fun h hc => by have h2 := hins.out; rw [h] at h2; exact h2.on hli hc : b = false → _)
                have i0 : (0 : Int) ≤ (i : Int) := by omega
                have i1 : (i : Int) < (kp.length : Int) := by omega
                obtain ⟨Z, hZ⟩ : ∃ Z, Z = nthN kp i := ⟨_, rfl⟩
                have HZ : Hid (Z = nthN kp i) := hZ
                rw [← hZ] at r0 r1 HI1 HI2 HI3
                clear hZ
                obtain ⟨z1, z2⟩ := Z
                dsimp only at r0 r1 HI2 HI3
                cases b with
                | true =>
                  go_wp2_with fail
                  go_quiet (fail)
                  go_wp2_with (at_builtin; go_must (refine wp_appN 55 33 infoN2 Tryd.underlying33 rfl (.tmp 93) (.tmp 98) rfl wq.heap.size _ out _ (z1, z2) _ _ rfl rfl (by simp [Act.eval, Act.put]) (hoo.out.below (bel_drewN (Below.refl _ _) _)) _ (by simp [Act.eval, Act.put]) rfl (by first | omega | (simp; omega)) (by first | omega | (simp; omega)) ?_; intro va8 w8 hownA hbA))
                  have HO8 : Hid (OwnN 55 wq.heap.size va8 (out ++ [(z1, z2)]) w8) := hownA
                  have HB8 : Hid (Below wq.heap.size wq w8) := (bel_drewN hbo.out _).trans hbA
                  clear hownA hbA
                  go_wp2
                  go_roundw
                  case rel => exact ⟨i + 1, true, out ++ [(z1, z2)], by omega, rfl, by go_num, (HI1.out (by simp) : InsI _ _ _ _ _), HO8, HB8⟩
                  case measure => simp [intOf]; omega
                | false =>
                  by_cases hc : xa < z1
                  · have hcd : decide (xa < z1) = true := by simpa using hc
                    go_wp2_with fail
                    go_quiet (fail)
                    go_wp2_with (at_builtin; first
                      | (refine wp_appN 55 33 infoN2 Tryd.underlying33 rfl (.tmp 89) (.tmp 91) rfl wq.heap.size _ out _ (xa, xb) _ _ rfl rfl (by simp [Act.eval, Act.put]) (hoo.out.below (bel_drewN (Below.refl _ _) _)) _ (by simp [Act.eval, Act.put]) rfl (by first | omega | (simp; omega)) (by first | omega | (simp; omega)) ?_; intro va7 w7 hownA hbA; have HO7 : Hid (OwnN 55 wq.heap.size va7 (out ++ [(xa, xb)]) w7) := hownA; have HB7 : Hid (Below wq.heap.size wq w7) := (bel_drewN hbo.out _).trans hbA; have hs7 := HB7.out.size; have r7 := rd_cells (HKr.out.below HB7.out) hli; rw [← HZ.out] at r7; obtain ⟨r70, r71⟩ := r7; dsimp only at r70 r71; clear hownA hbA)
                      | go_must (refine wp_appN 55 33 infoN2 Tryd.underlying33 rfl (.tmp 93) (.tmp 98) rfl wq.heap.size _ (out ++ [(xa, xb)]) _ (z1, z2) _ _ rfl rfl (by simp [Act.eval, Act.put]) HO7.out _ (by simp [Act.eval, Act.put]) rfl (by first | omega | (simp; omega)) (by first | omega | (simp; omega)) ?_; intro va8 w8 hownA hbA))
                    have HO8 : Hid (OwnN 55 wq.heap.size va8 ((out ++ [(xa, xb)]) ++ [(z1, z2)]) w8) := hownA
                    have HB8 : Hid (Below wq.heap.size wq w8) := HB7.out.trans hbA
                    clear hownA hbA
                    go_wp2
                    go_roundw
                    case rel => exact ⟨i + 1, true, (out ++ [(xa, xb)]) ++ [(z1, z2)], by omega, rfl, by go_num, (HI2.out (by simp) (by first | exact hc | omega) : InsI _ _ _ _ _), HO8, HB8⟩
                    case measure => simp [intOf]; omega
                  · have hcd : decide (xa < z1) = false := by simpa using hc
                    go_wp2_with fail
                    go_quiet (fail)
                    go_wp2_with (at_builtin; go_must (refine wp_appN 55 33 infoN2 Tryd.underlying33 rfl (.tmp 93) (.tmp 98) rfl wq.heap.size _ out _ (z1, z2) _ _ rfl rfl (by simp [Act.eval, Act.put]) (hoo.out.below (bel_drewN (Below.refl _ _) _)) _ (by simp [Act.eval, Act.put]) rfl (by first | omega | (simp; omega)) (by first | omega | (simp; omega)) ?_; intro va8 w8 hownA hbA))
                    have HO8 : Hid (OwnN 55 wq.heap.size va8 (out ++ [(z1, z2)]) w8) := hownA
                    have HB8 : Hid (Below wq.heap.size wq w8) := (bel_drewN hbo.out _).trans hbA
                    clear hownA hbA
                    go_wp2
                    go_roundw
                    case rel => exact ⟨i + 1, false, out ++ [(z1, z2)], by omega, rfl, by go_num, (HI3.out (by simp) (by first | exact hc | omega) : InsI _ _ _ _ _), HO8, HB8⟩
                    case measure => simp [intOf]; omega
              · obtain rfl : i = kp.length := by omega
                have HDn : Hid (DInv (t.take (k + 1)) (insS (xa, xb) kp)) := (by rw [HTk.out]; exact hdi.out.next hki.out : DInv _ _)
                cases b with
                | true =>
                  have hO := hins.out.last
                  go_wp2
                  go_roundw
                  case rel => exact ⟨k + 1, out, by omega, by go_num, hoo.out.mono (by omega), (by rw [hO]; exact HDn.out : DInv _ _), (hbl.out.trans (hbx.out.mono hsz)).trans (hbo.out.mono (by omega))⟩
                  case measure => simp [intOf]; omega
                | false =>
                  have HO : Hid (out ++ [(xa, xb)] = insS (xa, xb) kp) := hins.out.none
                  go_wp2_with (at_builtin; go_must (refine wp_appN 55 33 infoN2 Tryd.underlying33 rfl (.tmp 102) (.tmp 104) rfl wq.heap.size _ out _ (xa, xb) _ _ rfl rfl (by simp [Act.eval, Act.put]) hoo.out _ (by simp [Act.eval, Act.put]) rfl (by omega) hso ?_; intro va9 w9 hownA hbA))
                  have HO9 : Hid (OwnN 55 w.heap.size va9 (insS (xa, xb) kp) w9) := (by rw [← HO.out]; exact hownA.mono (by omega) : OwnN _ _ _ _ _)
                  have HB9 : Hid (Below w.heap.size w w9) := (hbl.out.trans (hbx.out.mono hsz)).trans ((hbo.out.trans hbA).mono (by omega))
                  clear hownA hbA
                  go_wp2
                  go_roundw
                  case rel => exact ⟨k + 1, insS (xa, xb) kp, by omega, by go_num, HO9, HDn, HB9⟩
                  case measure => simp [intOf]; omega
      · have hxd : decide (x2 ≤ x1) = true := by simp; omega
        have HD2 : Hid (DInv (t.take (k + 1)) acc) := (by rw [HTk.out]; exact hdi.out.skip hx : DInv _ _)
        go_wp2
        try rw [← hw2]
        go_roundw
        case rel => exact ⟨k + 1, acc, by omega, by go_num, HO2, HD2, HBw⟩
        case measure => simp [intOf]; omega
    · obtain rfl : k = t.length := by omega
      rw [List.take_length] at hdi
      go_wp2
      go_ret
      exact ⟨_, _, rfl, hown.out, hdi.out, hbl.out⟩

end Sn
end Go.Proofs.YtenipnlpambehaaDoor
