/-
  The walk of the law RingMemory.
-/
import Derived.Test.YtclciccgcegpmaaRmM
set_option linter.unusedVariables false
set_option linter.unusedSimpArgs false
namespace Go.Proofs.Ytclciccgcegpmaa
open Go.RowKit
namespace Rg

theorem infoLB : (Try.prog.info? 25).map (fun i => (i.zero, i.size, i.bytes)) = some (some (.slice none 0 0), 1, 24) := by kernel_rfl
theorem infoUB : (Try.prog.info? 5).map (fun i => (i.zero, i.size, i.bytes)) = some (some (.int .u8 0), 1, 1) := by kernel_rfl
theorem owns_oneCell {w : World} {B T S n : Nat} {v : Value} {xs : List Value} (h : w.ownsRow B T S v n xs) : v.oneCell' = true := by
  rcases h.2 with ⟨rfl, _⟩ | ⟨g, cap, cur, rfl, _⟩ <;> rfl
/-- A list appended to the list of them. -/
theorem wp_kept {ops : Array Oper} {rest : List Oper} {o : Oper} {a : Act} {Q : Exit → Act → World → Prop} {W : World} (hgd : o.guard = none) (s x : Operand)
    (ho : o.op = .call { callee := .builtin .append, args := #[s, x], argTypes := #[30, 30] }) (B : Nat) (v : Value) (n : Nat) (vs : List Value) (u : Value) (hu1 : u.oneCell' = true)
    (hs : a.eval s = v) (hown : W.ownsRow B 25 1 v n vs) (g : Nat) (hx : a.eval x = .slice (some ⟨g, 0, none⟩) 1 1) (hg : g = W.heap.size) (hlen : n + 1 ≤ 1073741824) (hB : B ≤ W.heap.size)
    (h : ∀ v' w', w'.ownsRow B 25 1 v' (n + 1) (vs ++ [u]) → W.grownBy w' v.ownBlock → (v'.ownBlock = v.ownBlock ∨ ∃ b, v'.ownBlock = some b ∧ W.heap.size ≤ b) → wpList Try.prog ops Q rest (a.put o.dst v') w') : wpList Try.prog ops Q (o :: rest) a (W.alloc (.cells #[u] 25)) := by
  subst hg
  refine wp_keep hgd s x 30 ho B 25 (.slice none 0 0) 1 24 Try.underlying30 infoLB rfl (by decide) v n vs W [u] hs hown 1 (by decide) hx rfl ?_ (by omega) (by decide) hB ?_
  · intro z hz
    simp at hz
    subst hz
    exact hu1
  · intro v' w' h1 h2 h3 h4
    refine h v' w' h1 h2 ?_
    rcases h4 with ⟨g, cap, e1, e2⟩ | h4
    · left; rw [e1, e2]; rfl
    · exact .inr h4

theorem pl_headQ {cap h n : Nat} (hh : h < cap ∨ (cap = 0 ∧ h = 0)) (hn : n ≤ cap) : pl cap h n < cap ∨ (cap = 0 ∧ pl cap h n = 0) := by
  unfold pl
  split <;> omega
theorem model_set {W : World} {mb T : Nat} {a b c : Value} (h : W.heap[mb]? = some (.cells #[a, b, c] T (0, 0))) (x y z : Value) :
    (((W.setCell ⟨mb, 0, none⟩ x).setCell ⟨mb, 1, none⟩ y).setCell ⟨mb, 2, none⟩ z).heap[mb]? = some (.cells #[x, y, z] T (0, 0)) ∧ But [mb] W (((W.setCell ⟨mb, 0, none⟩ x).setCell ⟨mb, 1, none⟩ y).setCell ⟨mb, 2, none⟩ z) := by
  have z1 := heap_setCell_same W mb 0 _ _ x h
  have z2 := heap_setCell_same _ mb 1 _ _ y z1
  have z3 := heap_setCell_same _ mb 2 _ _ z z2
  refine ⟨?_, (((But.refl _ W).setCell (by simp) _).setCell (by simp) _).setCell (by simp) _⟩
  rw [z3]
  rfl

set_option maxRecDepth 100000 in
set_option maxHeartbeats 8000000 in
theorem walk_RingMemory (cp : Int) (v1 : Value) (os : List Op) (w : World) (h1 : RdO w v1 os) (hcp0 : -9223372036854775808 ≤ cp) (hcp1 : cp ≤ 9223372036854775807) (hz : os.length ≤ 1048576) (hpl : ∀ o ∈ os, o.p.length ≤ 1048576) :
    Calls Try.prog 3 #[.int .i64 cp, v1] w fun e w' => e = .returned (.bool true) ∧ Below w.heap.size w w' := by
  obtain ⟨a1, c1, rfl, hc1, hr1⟩ := h1
  have HR1 : Hid (os = [] ∨ ∃ g o, a1 = some ⟨g, o, none⟩ ∧ ∀ j x, os[j]? = some x → ∃ u, OpAt w g (o + j * 4) x u) := hr1
  have HZ : Hid (∀ o ∈ os, o.p.length ≤ 1048576) := hpl
  clear hr1 hpl
  go_enter Try.func3, Try.ntmps3
  go_wp2_with fail
  refine (awake_any w).mono ?_
  rintro e w1 ⟨rfl, hb⟩
  have HB1 : Hid (Below w.heap.size w w1) := hb
  clear hb
  go_wp2_with fail
  refine (madeP w1 cp hcp0 hcp1).mono ?_
  rintro e w2 ⟨p, bs, cap, rfl, hP, hbs, hb⟩
  have HB2 : Hid (Below w.heap.size w w2) := bel_trans HB1.out hb
  have HP2 : Hid (RingP w2 p bs cap 0 []) := hP
  have HBS : Hid (∀ x ∈ bs, w.heap.size ≤ x) := fun x hx => Nat.le_trans HB1.out.size (hbs x hx)
  have HBS2 : Hid (∀ x ∈ bs, x < w2.heap.size) := hP.lt
  obtain ⟨_, hcap⟩ := hP.hlen
  clear hP hbs hb
  obtain ⟨mb, hmb⟩ : ∃ mb, mb = w2.heap.size := ⟨_, rfl⟩
  have hmb0 : w.heap.size ≤ mb := by rw [hmb]; exact HB2.out.size
  obtain ⟨w3, hw3⟩ : ∃ w3, w3 = w2.alloc (.cells #[.int .i64 (cap : Int), .slice none 0 0, .int .i64 0] 27) := ⟨_, rfl⟩
  have HB3 : Hid (Below w.heap.size w w3) := (by rw [hw3]; exact HB2.out.alloc HB2.out.size _ : Below w.heap.size w w3)
  obtain ⟨B, hBe⟩ : ∃ B, B = w3.heap.size := ⟨_, rfl⟩
  have HBe : Hid (B = w3.heap.size) := hBe
  have hBm : B = mb + 1 := by rw [hBe, hw3, hmb]; simp
  have hB0 : w.heap.size ≤ B := by omega
  have HS3 : Hid (St B mb p bs cap 0 [] 0 [] 0 0 (fun _ => .slice none 0 0) (fun _ => []) (.slice none 0 0) (.slice none 0 0) w3) := (by
    refine ⟨Ks.none _ _ _ _, World.ownsRow_nil _ _ _ _, World.ownsRow_nil _ _ _ _, fun i g hi => by omega, fun i g hi => by omega, (fun g hg => by cases hg), ?_, ?_, ?_, by omega, ?_⟩
    · rw [hw3, hmb]; exact heap_alloc_new _ _
    · rw [hw3]; exact HP2.out.below ((Below.refl _ _).alloc (Nat.le_refl _) _)
    · intro x hx; have := HBS2.out x hx; omega
    · intro hx; have := HBS2.out mb hx; omega : St _ _ _ _ _ _ _ _ _ _ _ _ _ _ _ _)
  go_wp2_with fail
  rw [← hw3, ← hmb]
  clear hw3 hmb HP2 HBS2 hBe
  go_loopw [8, 38] (fun kvv i wr => ∃ (k K h : Nat) (xs : List UInt8) (V : Nat → Value) (X : Nat → List Value) (mv : Value), k ≤ os.length ∧ K ≤ 4 * k ∧ i = .int .i64 (k : Int) ∧ Hid (St B mb p bs cap h xs h xs K K V X kvv mv wr) ∧ Hid (Below w.heap.size w wr) ∧ B ≤ wr.heap.size) (fun _ i _ => os.length - (intOf i).toNat)
  case atStart => exact ⟨0, 0, 0, [], _, _, _, Nat.zero_le _, Nat.zero_le _, rfl, HS3, HB3, by rw [HBe.out]; exact Nat.le_refl _⟩
  case round =>
    obtain ⟨k, K, h, xs, V, X, mv, hk, hK, rfl, HS, HB, hBr⟩ := hrel
    by_cases hlt : k < os.length
    · obtain ⟨o, ho⟩ : ∃ o, os[k]? = some o := ⟨_, List.getElem?_eq_getElem hlt⟩
      rcases HR1.out with e | ⟨g, off, rfl, hcell⟩
      · rw [e] at hlt; simp at hlt
      obtain ⟨u, hop⟩ := hcell k o ho
      have hpo := HZ.out o (List.mem_of_getElem? ho)
      have HOp : Hid (OpAt w g (off + k * 4) o u) := hop
      have hgl : g < w.heap.size := World.block_lt_of_cell? w _ hop.c0
      have f0 := (HB.out.cell (p := ⟨g, off + k * 4, none⟩) hgl).trans hop.c0
      have f1 := (HB.out.cell (p := ⟨g, off + k * 4 + 1, none⟩) hgl).trans hop.c1
      have f2 := (HB.out.cell (p := ⟨g, off + k * 4 + 2, none⟩) hgl).trans hop.c2
      have f3 := (HB.out.cell (p := ⟨g, off + k * 4 + 3, none⟩) hgl).trans hop.c3
      have HU : Hid (RdB w u o.p) := hop.p
      obtain ⟨au, cu, hue, hcu, _⟩ := hop.p
      subst hue
      clear hcell hop ho
      have hlt' : ((k : Nat) : Int) < ((os.length : Nat) : Int) := by omega
      obtain ⟨w4, hw4⟩ : ∃ w4, w4 = wr.alloc (.cells #[.int .i64 o.k, .int .i64 o.i, .int .i64 o.n, .slice au o.p.length cu] 32) := ⟨_, rfl⟩
      have HC4 : Hid (w4.heap[wr.heap.size]? = some (.cells #[.int .i64 o.k, .int .i64 o.i, .int .i64 o.n, .slice au o.p.length cu] 32 (0, 0))) := (by rw [hw4]; exact heap_alloc_new _ _ : _ = _)
      have HB4 : Hid (Below wr.heap.size wr w4) := (by rw [hw4]; exact (Below.refl _ wr).alloc (Nat.le_refl _) _ : Below _ _ _)
      have HS4 : Hid (St B mb p bs cap h xs h xs K K V X _ mv w4) := HS.out.below HB4.out
      have HG4 : Hid (Below w.heap.size w w4) := bel_trans HB.out HB4.out
      obtain ⟨d0, d1, d2, d3⟩ := box4 HC4.out
      go_wp2_with fail
      rw [← hw4]
      clear f0 f1 f2 f3
      obtain ⟨hx0, _⟩ := HS.out.ring.hlen
      have HH0 : Hid (h < cap ∨ (cap = 0 ∧ h = 0)) := HS.out.ring.head
      have HU4 : Hid (RdB w4 (.slice au o.p.length cu) o.p) := HU.out.below HG4.out
      refine (lists_any HS4.out.ring o _ HU4.out HOp.out.k0 HOp.out.k1 HOp.out.i0 HOp.out.i1 HOp.out.n0 HOp.out.n1 hpo).mono ?_
      rintro e w5 ⟨lb, n, U, Y, rfl, hn4, hlb, hlc, hG, hUl, hR5, hb5⟩
      have hz4 : B ≤ w4.heap.size := Nat.le_trans hBr HB4.out.size
      have hob : wr.heap.size < w4.heap.size := (Array.getElem?_eq_some_iff.1 HC4.out).1
      have HS5 : Hid (St B mb p bs cap (lsR cap h xs o).1 (lsR cap h xs o).2 h xs (K + n) K (lay K V U) (lay K X Y) _ mv w5) := HS4.out.lists hz4 hG hR5 hb5
      have HC5 : Hid (w5.heap[wr.heap.size]? = some (.cells #[.int .i64 o.k, .int .i64 o.i, .int .i64 o.n, .slice au o.p.length cu] 32 (0, 0))) := hb5.heap HC4.out (fun hm => by have := HS4.out.low.1 _ hm; omega)
      have HL5 : Hid (w5.heap[lb]? = some (.cells ((List.range n).map U).toArray 25 (0, 0))) := hlc
      have HG5 : Hid (Below w.heap.size w w5) := HG4.out.trans (hb5.below HG4.out.size HBS.out)
      have HK5 : Hid (∀ g, u8.ownBlock = some g → g ≠ lb ∧ g ≠ wr.heap.size) := (fun g hg => by
        have := (World.ownsRow.lt HS.out.kown g hg).2
        omega : ∀ g, _)
      have hz5 : B ≤ w5.heap.size := Nat.le_trans hz4 hb5.size
      have hlb5 : lb < w5.heap.size := (Array.getElem?_eq_some_iff.1 hlc).1
      have hU1 : Hid (∀ j, j < n → lay K V U (K + j) = U j) := (fun j hj => by unfold lay; rw [if_neg (by omega)]; congr 1; omega : ∀ j, _)
      have HUc : Hid (∀ j, j < n → ∃ a m c, U j = .slice a m c) := (fun j hj => by obtain ⟨a, c, e, _⟩ := owns_slice (hG.own j hj); exact ⟨a, _, c, e⟩ : ∀ j, _)
      obtain ⟨wo, rfl⟩ : ∃ wo, wo = wr := ⟨_, rfl⟩
      obtain ⟨R, HRe⟩ : ∃ R, Hid (R = lsR cap h xs o) := ⟨_, rfl⟩
      rw [← HRe.out] at HS5
      generalize lay K V U = V' at *
      generalize lay K X Y = X' at *
      clear hlc hG hUl hR5 hb5 HS4 HS HB4 HC4 hw4 d0 d1 d2 d3
      go_wp2_with fail
      go_loopw [8, 46] (fun kvv i wi => ∃ (j : Nat), j ≤ n ∧ i = .int .i64 (j : Int) ∧ Hid (St B mb p bs cap R.1 R.2 h xs (K + n) (K + j) V' X' kvv mv wi) ∧ Hid (wi.heap[wo.heap.size]? = some (.cells #[.int .i64 o.k, .int .i64 o.i, .int .i64 o.n, .slice au o.p.length cu] 32 (0, 0))) ∧ Hid (wi.heap[lb]? = some (.cells ((List.range n).map U).toArray 25 (0, 0))) ∧ Hid (∀ g, kvv.ownBlock = some g → g ≠ lb ∧ g ≠ wo.heap.size) ∧ Hid (Below w.heap.size w wi) ∧ w5.heap.size ≤ wi.heap.size) (fun _ i _ => n - (intOf i).toNat)
      case atStart => exact ⟨0, Nat.zero_le _, rfl, HS5, HC5, HL5, HK5, HG5, Nat.le_refl _⟩
      case round =>
        obtain ⟨j, hj, rfl, HSi, HCi, HLi, HKi, HGi, hzi⟩ := hrel
        by_cases hjn : j < n
        · obtain ⟨ua, um, uc, hUe⟩ := HUc.out j hjn
          have hcj : wr.cell? ⟨lb, j, none⟩ = some (.slice ua um uc) := by
            rw [← hUe]
            simp [World.cell?, HLi.out, hjn]
          have HVe : Hid (V' (K + j) = .slice ua um uc) := (by rw [hU1.out j hjn, hUe] : _ = _)
          have hjn' : ((j : Nat) : Int) < ((n : Nat) : Int) := by omega
          have hlen : K + j + 1 ≤ 1073741824 := by omega
          have hBi : B ≤ wr.heap.size := by omega
          have HKo : Hid (wr.ownsRow B 25 1 u8 (K + j) ((List.range (K + j)).map V')) := HSi.out.kown
          clear hUe
          go_wp2_with (at_builtin; go_must (refine wp_kept rfl (.tmp 50) (.tmp 52) rfl B _ (K + j) _ (.slice ua um uc) rfl rfl HKo.out _ rfl rfl hlen hBi ?_; intro v7 w7 ho7 hg7' hn7'))
          have hg7 : wr.grownBy w7 u8.ownBlock := hg7'
          have hn7 : v7.ownBlock = u8.ownBlock ∨ ∃ b, v7.ownBlock = some b ∧ wr.heap.size ≤ b := hn7'
          clear hg7' hn7'
          have HS7 : Hid (St B mb p bs cap R.1 R.2 h xs (K + n) (K + j + 1) V' X' v7 mv w7) := HSi.out.kept (by rw [HVe.out]; exact ho7) hg7 hn7
          have HC7 : Hid (w7.heap[wo.heap.size]? = some (.cells #[.int .i64 o.k, .int .i64 o.i, .int .i64 o.n, .slice au o.p.length cu] 32 (0, 0))) := (but_grown hg7).heap HCi.out (fun hm => (HKi.out _ (by simpa using hm)).2 rfl)
          have HL7 : Hid (w7.heap[lb]? = some (.cells ((List.range n).map U).toArray 25 (0, 0))) := (but_grown hg7).heap HLi.out (fun hm => (HKi.out _ (by simpa using hm)).1 rfl)
          have HK7 : Hid (∀ g, v7.ownBlock = some g → g ≠ lb ∧ g ≠ wo.heap.size) := (fun g hg => by
            rcases hn7 with e | ⟨b, e, hb⟩
            · rw [e] at hg; exact HKi.out g hg
            · rw [e] at hg; injection hg with hg; omega : ∀ g, _)
          have HG7 : Hid (Below w.heap.size w w7) := HGi.out.grown hg7 HGi.out.size (fun k hk => by have := (World.ownsRow.lt HKo.out k hk).1; omega)
          have hz7 : w5.heap.size ≤ w7.heap.size := Nat.le_trans hzi hg7.size
          clear ho7 hg7 hn7 HSi HCi HLi HKi HGi HKo
          go_wp2
          go_roundw
          case rel => exact ⟨j + 1, by omega, by go_num, HS7, HC7, HL7, HK7, HG7, hz7⟩
          case measure => simp [intOf]; omega
        · obtain rfl : j = n := by omega
          have hk4 := kd_lt o.k
          have HK4 : Hid (∀ W, Calls _ _ _ W _) := fun W => kind4 W o.k HOp.out.k0 HOp.out.k1
          obtain ⟨d0, d1, d2, d3⟩ := box4 HCi.out
          have hBi : B ≤ wr.heap.size := by omega
          obtain ⟨hxl, _⟩ := HSi.out.ring.hlen
          obtain ⟨kk, HKK⟩ : ∃ kk, Hid (kd o.k = kk) := ⟨_, rfl⟩
          rw [HKK.out] at hk4 HK4
          go_wp2_with fail
          refine (HK4.out _).mono ?_
          rintro e w6 ⟨rfl, hw6⟩
          rw [hw6]
          clear hw6
          have hKj : K + j ≤ 4 * (k + 1) := by omega
          match kk, hk4 with
          | 0, _ =>
            have HRs : Hid (R = (h, xs)) := (by rw [HRe.out]; unfold lsR; rw [HKK.out]; simp : R = _)
            rw [HRs.out] at HSi
            go_wp2
            go_roundw
            case rel => exact ⟨k + 1, K + j, h, xs, V', X', mv, by omega, hKj, by go_num, HSi, HGi, hBi⟩
            case measure => simp [intOf]; omega
          | 1, _ =>
            have HRs : Hid (R = (h, xs)) := (by rw [HRe.out]; unfold lsR; rw [HKK.out]; simp : R = _)
            rw [HRs.out] at HSi
            go_wp2
            go_roundw
            case rel => exact ⟨k + 1, K + j, h, xs, V', X', mv, by omega, hKj, by go_num, HSi, HGi, hBi⟩
            case measure => simp [intOf]; omega
          | 2, _ =>
            obtain ⟨m1, hm1⟩ : ∃ m1, m1 = rch xs.length 0 o.n := ⟨_, rfl⟩
            obtain ⟨xs1, hxs1⟩ : ∃ xs1, xs1 = xs.drop m1 := ⟨_, rfl⟩
            obtain ⟨m2, hm2⟩ : ∃ m2, m2 = rch xs1.length 0 o.n := ⟨_, rfl⟩
            obtain ⟨xs2, hxs2⟩ : ∃ xs2, xs2 = xs1.drop m2 := ⟨_, rfl⟩
            obtain ⟨h1, hh1⟩ : ∃ h1, h1 = pl cap h m1 := ⟨_, rfl⟩
            obtain ⟨h2, hh2⟩ : ∃ h2, h2 = pl cap h1 m2 := ⟨_, rfl⟩
            have HRs : Hid (R = (h2, xs2)) := (by rw [HRe.out]; unfold lsR; rw [HKK.out, hxs2, hh2, hm2, hxs1, hh1, hm1]; simp : R = _)
            have HM1 : Hid (m1 = rch xs.length 0 o.n) := hm1
            have HM2 : Hid (m2 = rch xs1.length 0 o.n) := hm2
            rw [HRs.out] at HSi
            have hm1l : m1 ≤ xs.length := by rw [hm1]; exact rch_le _ _ _
            have hm2l : m2 ≤ xs1.length := by rw [hm2]; exact rch_le _ _ _
            have HX : Hid (xs.length ≤ cap ∧ xs1.length ≤ cap) := (⟨hx0, by rw [hxs1, List.length_drop]; omega⟩ : _ ∧ _)
            have HH1 : Hid (h1 < cap ∨ (cap = 0 ∧ h1 = 0)) := (by rw [hh1]; exact pl_headQ HH0.out (by omega) : _ ∨ _)
            have HE1 : Hid (pl cap h m1 = h1 ∧ xs.drop m1 = xs1) := ⟨hh1.symm, hxs1.symm⟩
            have HE2 : Hid (pl cap h1 m2 = h2 ∧ xs1.drop m2 = xs2) := ⟨hh2.symm, hxs2.symm⟩
            clear hm1 hm2 hxs1 hxs2 hh1 hh2 HRs HRe
            dsimp only at HSi
            obtain ⟨r0, r1, r2, rf⟩ := row3 HSi.out.mod
            go_wp2_with fail
            refine (rTake_any (RdB.ofOwn HSi.out.mown) hcap HX.out.1 HH0.out o.n HOp.out.n0 HOp.out.n1 m1 HM1.out).mono ?_
            rintro e w7 ⟨lv7, ov7, rfl, ho7, ⟨oa7, oc7, rfl⟩, _, hb7⟩
            rw [HE1.out.2] at ho7
            rw [HE1.out.1]
            obtain ⟨la7, lc7, rfl, _⟩ := owns_slice ho7
            have HM7 := (But.of_below hb7).heap HSi.out.mod (fun e => by cases e)
            obtain ⟨q0, q1, q2, qf⟩ := row3 HM7
            have HD7 := (But.of_below hb7).heap HCi.out (fun e => by cases e)
            obtain ⟨y0, y1, y2, y3⟩ := box4 HD7
            obtain ⟨zm7, zb7⟩ := model_set HM7 (.int .i64 (cap : Int)) (.slice la7 xs1.length lc7) (.int .i64 ((h1 : Nat) : Int))
            have hob7 : wo.heap.size ∉ [mb] := by simp; omega
            obtain ⟨W7, hW7⟩ : ∃ W, W = (((w7.setCell ⟨mb, 0, none⟩ (.int .i64 (cap : Int))).setCell ⟨mb, 1, none⟩ (.slice la7 xs1.length lc7)).setCell ⟨mb, 2, none⟩ (.int .i64 ((h1 : Nat) : Int))) := ⟨_, rfl⟩
            rw [← hW7] at zm7 zb7
            have HS7 : Hid (St B mb p bs cap _ _ h1 xs1 (K + j) (K + j) V' X' u8 (.slice la7 xs1.length lc7) W7) := HSi.out.model hb7 hBi ho7 zb7 zm7
            have HC7 : Hid (W7.heap[wo.heap.size]? = some (.cells #[.int .i64 o.k, .int .i64 o.i, .int .i64 o.n, .slice au o.p.length cu] 32 (0, 0))) := zb7.heap HD7 hob7
            have HG7 : Hid (Below w.heap.size w W7) := (bel_trans HGi.out hb7).trans (zb7.below (bel_trans HGi.out hb7).size (by simp; omega))
            have hB7 : B ≤ W7.heap.size := Nat.le_trans (Nat.le_trans hBi hb7.size) zb7.size
            clear zm7 zb7
            clear r0 r1 r2 rf d0 d1 d2 d3
            go_wp2_with fail
            rw [← hW7]
            clear hW7 q0 q1 q2 qf y0 y1 y2 y3 HM7 HD7 hb7 ho7
            refine (rTake_any (RdB.ofOwn HS7.out.mown) hcap HX.out.2 HH1.out o.n HOp.out.n0 HOp.out.n1 m2 HM2.out).mono ?_
            rintro e w8 ⟨lv8, ov8, rfl, ho8, ⟨oa8, oc8, rfl⟩, _, hb8⟩
            rw [HE2.out.2] at ho8
            rw [HE2.out.1]
            obtain ⟨la8, lc8, rfl, _⟩ := owns_slice ho8
            have HM8 := (But.of_below hb8).heap HS7.out.mod (fun e => by cases e)
            obtain ⟨q0, q1, q2, qf⟩ := row3 HM8
            have HD8 := (But.of_below hb8).heap HC7.out (fun e => by cases e)
            obtain ⟨y0, y1, y2, y3⟩ := box4 HD8
            obtain ⟨zm8, zb8⟩ := model_set HM8 (.int .i64 (cap : Int)) (.slice la8 xs2.length lc8) (.int .i64 ((h2 : Nat) : Int))
            have hob8 : wo.heap.size ∉ [mb] := by simp; omega
            obtain ⟨W8, hW8⟩ : ∃ W, W = (((w8.setCell ⟨mb, 0, none⟩ (.int .i64 (cap : Int))).setCell ⟨mb, 1, none⟩ (.slice la8 xs2.length lc8)).setCell ⟨mb, 2, none⟩ (.int .i64 ((h2 : Nat) : Int))) := ⟨_, rfl⟩
            rw [← hW8] at zm8 zb8
            have HS8 : Hid (St B mb p bs cap _ _ h2 xs2 (K + j) (K + j) V' X' u8 (.slice la8 xs2.length lc8) W8) := HS7.out.model hb8 hB7 ho8 zb8 zm8
            have HC8 : Hid (W8.heap[wo.heap.size]? = some (.cells #[.int .i64 o.k, .int .i64 o.i, .int .i64 o.n, .slice au o.p.length cu] 32 (0, 0))) := zb8.heap HD8 hob8
            have HG8 : Hid (Below w.heap.size w W8) := (bel_trans HG7.out hb8).trans (zb8.below (bel_trans HG7.out hb8).size (by simp; omega))
            have hB8 : B ≤ W8.heap.size := Nat.le_trans (Nat.le_trans hB7 hb8.size) zb8.size
            clear zm8 zb8
            go_wp2
            go_roundw
            case rel =>
              rw [← hW8]
              exact ⟨k + 1, K + j, h2, xs2, V', X', _, by omega, hKj, by go_num, HS8, HG8, hB8⟩
            case measure => simp [intOf]; omega
          | 3, _ =>
            obtain ⟨n3, hn3⟩ : ∃ n3, n3 = min o.p.length (cap - xs.length) := ⟨_, rfl⟩
            obtain ⟨xs1, hxs1⟩ : ∃ xs1, xs1 = xs ++ o.p.take n3 := ⟨_, rfl⟩
            have HRs : Hid (R = (h, xs1)) := (by rw [HRe.out]; unfold lsR; rw [HKK.out, hxs1, hn3]; simp : R = _)
            have HN3 : Hid (n3 = min o.p.length (cap - xs.length)) := hn3
            rw [HRs.out] at HSi
            have HE1 : Hid (xs ++ o.p.take n3 = xs1) := hxs1.symm
            have HUi : Hid (RdB wr (.slice au o.p.length cu) o.p) := HU.out.below HGi.out
            clear hn3 hxs1 HRs HRe
            dsimp only at HSi
            obtain ⟨r0, r1, r2, rf⟩ := row3 HSi.out.mod
            go_wp2_with fail
            refine (rPut_any (gone := h) (RdB.ofOwn HSi.out.mown) HUi.out hcap hx0 (by omega) n3 HN3.out).mono ?_
            rintro e w7 ⟨lv7, rfl, ho7, hb7⟩
            rw [HE1.out] at ho7
            obtain ⟨la7, lc7, rfl, _⟩ := owns_slice ho7
            have HM7 := (But.of_below hb7).heap HSi.out.mod (fun e => by cases e)
            obtain ⟨q0, q1, q2, qf⟩ := row3 HM7
            have HD7 := (But.of_below hb7).heap HCi.out (fun e => by cases e)
            obtain ⟨y0, y1, y2, y3⟩ := box4 HD7
            obtain ⟨zm7, zb7⟩ := model_set HM7 (.int .i64 (cap : Int)) (.slice la7 xs1.length lc7) (.int .i64 ((h : Nat) : Int))
            have hob7 : wo.heap.size ∉ [mb] := by simp; omega
            obtain ⟨W7, hW7⟩ : ∃ W, W = (((w7.setCell ⟨mb, 0, none⟩ (.int .i64 (cap : Int))).setCell ⟨mb, 1, none⟩ (.slice la7 xs1.length lc7)).setCell ⟨mb, 2, none⟩ (.int .i64 ((h : Nat) : Int))) := ⟨_, rfl⟩
            rw [← hW7] at zm7 zb7
            have HS7 : Hid (St B mb p bs cap _ _ h xs1 (K + j) (K + j) V' X' u8 (.slice la7 xs1.length lc7) W7) := HSi.out.model hb7 hBi ho7 zb7 zm7
            have HC7 : Hid (W7.heap[wo.heap.size]? = some (.cells #[.int .i64 o.k, .int .i64 o.i, .int .i64 o.n, .slice au o.p.length cu] 32 (0, 0))) := zb7.heap HD7 hob7
            have HG7 : Hid (Below w.heap.size w W7) := (bel_trans HGi.out hb7).trans (zb7.below (bel_trans HGi.out hb7).size (by simp; omega))
            have hB7 : B ≤ W7.heap.size := Nat.le_trans (Nat.le_trans hBi hb7.size) zb7.size
            clear zm7 zb7
            clear r0 r1 r2 rf d0 d1 d2 d3
            go_wp2
            go_roundw
            case rel =>
              rw [← hW7]
              exact ⟨k + 1, K + j, h, xs1, V', X', _, by omega, hKj, by go_num, HS7, HG7, hB7⟩
            case measure => simp [intOf]; omega
    · obtain rfl : k = os.length := by omega
      have hlt' : ¬ ((os.length : Nat) : Int) < ((os.length : Nat) : Int) := by omega
      have hK4 : K ≤ 4194304 := by omega
      obtain ⟨wa, rfl⟩ : ∃ wa, wa = wr := ⟨_, rfl⟩
      obtain ⟨ka, kc, rfl, _⟩ := owns_slice HS.out.kown
      obtain ⟨L, HLd⟩ : ∃ L : Nat → Nat, Hid (∀ r, (X r).length = L r) := ⟨fun r => (X r).length, fun r => rfl⟩
      have HLs : Hid (∀ r, r < K → L r ≤ 1048576) := (fun r hr => by rw [← HLd.out r]; exact HS.out.ks.small r hr : ∀ r, _)
      go_wp2_with fail
      go_loopw [86] (fun i wi => ∃ (q : Nat) (X : Nat → List Value), q ≤ K ∧ i = .int .i64 (q : Int) ∧ Hid (∀ r, (X r).length = L r) ∧ Hid (Mk L X q 0) ∧ Hid (St B mb p bs cap h xs h xs K K V X (.slice ka K kc) mv wi) ∧ Hid (Below w.heap.size w wi) ∧ B ≤ wi.heap.size) (fun i _ => K - (intOf i).toNat)
      case atStart => exact ⟨0, X, Nat.zero_le _, rfl, HLd, (⟨fun r hr => by omega, fun c hc => by omega⟩ : Mk L X 0 0), HS, HB, hBr⟩
      case round =>
        obtain ⟨q, X, hq, rfl, HL, HMk, HS, HB, hBr⟩ := hrel
        by_cases hqK : q < K
        · have hqK' : ((q : Nat) : Int) < ((K : Nat) : Int) := by omega
          obtain ⟨kg, kc', hkv, _, hkc⟩ := HS.out.formK (by omega)
          injection hkv with hk1 _ hk2
          subst hk1 hk2
          obtain ⟨va, vc, hve, _⟩ := owns_slice (HS.out.ks.own q hqK)
          rw [HL.out q] at hve
          have hcq := hkc q hqK
          rw [hve] at hcq
          have HVe : Hid (V q = .slice va (L q) vc) := hve
          have hLq := HLs.out q hqK
          clear hkc hve
          go_wp2_with fail
          obtain ⟨wb, rfl⟩ : ∃ wb, wb = wr := ⟨_, rfl⟩
          go_loopw [93] (fun i wi => ∃ (j : Nat) (X : Nat → List Value), j ≤ L q ∧ i = .int .i64 (j : Int) ∧ Hid (∀ r, (X r).length = L r) ∧ Hid (Mk L X q j) ∧ Hid (St B mb p bs cap h xs h xs K K V X (.slice (some ⟨kg, 0, none⟩) K kc) mv wi) ∧ Hid (Below w.heap.size w wi) ∧ B ≤ wi.heap.size) (fun i _ => L q - (intOf i).toNat)
          case atStart => exact ⟨0, X, Nat.zero_le _, rfl, HL, HMk, HS, HB, hBr⟩
          case round =>
            obtain ⟨j, X, hj, rfl, HL, HMk, HS, HB, hBr⟩ := hrel
            by_cases hjL : j < L q
            · have hjL' : ((j : Nat) : Int) < ((L q : Nat) : Int) := by omega
              obtain ⟨g, c, hve, _⟩ : ∃ g c, V q = .slice (some ⟨g, 0, none⟩) (X q).length c ∧ (X q).length ≤ c := by
                rcases HS.out.form hqK with ⟨_, h0⟩ | hx
                · rw [HL.out q] at h0; omega
                · exact hx
              have hve2 := HVe.out.symm.trans hve
              rw [HL.out q] at hve2
              injection hve2 with hv1 _ hv2
              subst hv1 hv2
              have HO : Hid (wr.ownsRow B 5 1 (.slice (some ⟨g, 0, none⟩) (X q).length vc) (X q).length (X q)) := (by have := HS.out.ks.own q hqK; rw [hve] at this; exact this : World.ownsRow _ _ _ _ _ _ _)
              obtain ⟨x, hx⟩ : ∃ x, (X q)[j]? = some x := ⟨_, List.getElem?_eq_getElem (by rw [HL.out q]; omega)⟩
              obtain ⟨z, rfl⟩ := HS.out.ks.byte q hqK x (List.mem_of_getElem? hx)
              have hcx : wr.cell? ⟨g, j, none⟩ = some (.int .u8 z) := by rw [HO.out.cellAt j (by rw [HL.out q]; omega)]; exact hx
              have hfx : wr.frozen? ⟨g, j, none⟩ = false := HO.out.frozenAt j
              have HS' : Hid (St B mb p bs cap h xs h xs K K V (fun r => if r = q then (X q).set j (.int .u8 (mkR q j)) else X r) (.slice (some ⟨kg, 0, none⟩) K kc) mv (wr.setCell ⟨g, j, none⟩ (.int .u8 (mkR q j)))) := HS.out.mark hqK hve j (mkR q j)
              have HL' : Hid (∀ r, (if r = q then (X q).set j (.int .u8 (mkR q j)) else X r).length = L r) := (fun r => by
                rw [← HL.out r]
                by_cases e : r = q
                · subst e; rw [if_pos rfl, List.length_set]
                · rw [if_neg e] : ∀ r, _)
              have HMk' : Hid (Mk L (fun r => if r = q then (X q).set j (.int .u8 (mkR q j)) else X r) q (j + 1)) := HMk.out.set (by rw [HL.out q]; omega)
              have HB' : Hid (Below w.heap.size w (wr.setCell ⟨g, j, none⟩ (.int .u8 (mkR q j)))) := HB.out.trans (((But.refl [g] wr).setCell (p := ⟨g, j, none⟩) (by simp) _).below HB.out.size (by simp; have := owns_fresh HO.out g rfl; omega))
              have hB' : B ≤ (wr.setCell ⟨g, j, none⟩ (.int .u8 (mkR q j))).heap.size := Nat.le_trans hBr ((But.refl [g] wr).setCell (p := ⟨g, j, none⟩) (by simp) (.int .u8 (mkR q j))).size
              have HMa : Hid (∀ W, Calls _ _ _ W _) := fun W => ringMark_any q j (by omega) (by omega) W
              clear hve hx
              go_wp2_with fail
              refine (HMa.out _).mono ?_
              rintro e w6 ⟨rfl, hw6⟩
              rw [hw6]
              clear hw6
              generalize mkR q j = MM at *
              go_wp2
              go_roundw
              case rel => exact ⟨j + 1, _, by omega, by go_num, HL', HMk', HS', HB', hB'⟩
              case measure => simp [intOf]; omega
            · obtain rfl : j = L q := by omega
              have hjL' : ¬ ((L q : Nat) : Int) < ((L q : Nat) : Int) := by omega
              have HMn : Hid (Mk L X (q + 1) 0) := HMk.out.next
              go_wp2
              go_roundw
              case rel => exact ⟨q + 1, X, by omega, by go_num, HL, HMn, HS, HB, hBr⟩
              case measure => simp [intOf]; omega
        · obtain rfl : K = q := by omega
          have hqK' : ¬ ((K : Nat) : Int) < ((K : Nat) : Int) := by omega
          obtain ⟨wc, rfl⟩ : ∃ wc, wc = wr := ⟨_, rfl⟩
          have HG0 : Hid (Gr B K 0 V L (fun _ => .slice none 0 0) (.slice none 0 0) wc) := Gr.start _ _ _ _ _
          go_wp2_with fail
          go_loopw [16, 106] (fun gl i wi => ∃ (q : Nat) (G : Nat → Value), q ≤ K ∧ i = .int .i64 (q : Int) ∧ Hid (Gr B K q V L G gl wi) ∧ Hid (∀ b, gl.ownBlock = some b → (Value.slice ka K kc).ownBlock ≠ some b ∧ mv.ownBlock ≠ some b) ∧ Hid (St B mb p bs cap h xs h xs K K V X (.slice ka K kc) mv wi) ∧ Hid (Below w.heap.size w wi) ∧ B ≤ wi.heap.size) (fun _ i _ => K - (intOf i).toNat)
          case atStart => exact ⟨0, _, Nat.zero_le _, rfl, HG0, (fun b hb => by cases hb), HS, HB, hBr⟩
          case round =>
            obtain ⟨q, G, hq, rfl, HGr, HGK, HS, HB, hBr⟩ := hrel
            by_cases hqK : q < K
            · have hqK' : ((q : Nat) : Int) < ((K : Nat) : Int) := by omega
              obtain ⟨kg, kc', hkv, _, hkc⟩ := HS.out.formK (by omega)
              injection hkv with hk1 _ hk2
              subst hk1 hk2
              obtain ⟨va, vc, hve, _⟩ := owns_slice (HS.out.ks.own q hqK)
              rw [HL.out q] at hve
              have hcq := hkc q hqK
              rw [hve] at hcq
              have HVe : Hid (V q = .slice va (L q) vc) := hve
              have hLq := HLs.out q hqK
              have HLq : Hid ((X q).length = L q) := HL.out q
              clear hkc hve
              obtain ⟨wd, rfl⟩ : ∃ wd, wd = wr := ⟨_, rfl⟩
              have HA0 : Hid (Al B wd (.slice va (L q) vc) (X q) q 0 (.slice va (L q) vc) wd) := (by have := Al.start q (HS.out.ks.own q hqK); rw [HVe.out] at this; exact this : Al _ _ _ _ _ _ _ _)
              obtain ⟨gl0, rfl⟩ : ∃ gl0, gl0 = u16 := ⟨_, rfl⟩
              go_wp2_with fail
              go_loopw [19, 112] (fun gv i wi => ∃ (n : Nat), n ≤ 17 ∧ i = .int .i64 (n : Int) ∧ Hid (Al B wd (.slice va (L q) vc) (X q) q n gv wi)) (fun _ i _ => 17 - (intOf i).toNat)
              case atStart => exact ⟨0, by omega, rfl, HA0⟩
              case round =>
                obtain ⟨n, hn, rfl, HA⟩ := hrel
                have hBi : B ≤ wr.heap.size := Nat.le_trans hBr HA.out.frame.size
                by_cases hn17 : n < 17
                · have hn17' : ((n : Nat) : Int) < 17 := by omega
                  have h63 : (X q).length + n + 1 ≤ 2147483648 := by have := HLq.out; omega
                  go_wp2_with (at_builtin; go_must (refine wp_keep rfl (.tmp 114) (.tmp 118) 25 rfl B 5 (.int .u8 0) 1 1 Try.underlying25 infoUB rfl (by decide) _ ((X q).length + n) _ _ [.int .u8 (gb q)] rfl HA.out.own 1 (by decide) rfl rfl (fun u hu => by simp at hu; subst hu; rfl) h63 (by decide) hBi ?_; intro v7 w7 k1 k2 k3 k4))
                  have HA7 : Hid (Al B wd (.slice va (L q) vc) (X q) q (n + 1) v7 w7) := HA.out.step k1 k2 k3 k4
                  clear k1 k2 k3 k4 HA
                  go_wp2
                  go_roundw
                  case rel => exact ⟨n + 1, by omega, by go_num, HA7⟩
                  case measure => simp [intOf]; omega
                · obtain rfl : n = 17 := by omega
                  obtain ⟨ga, gc, rfl, _⟩ := owns_slice HA.out.own
                  have HA' : Hid (Al B wd (V q) (X q) q 17 (.slice ga ((X q).length + 17) gc) wr) := (by rw [HVe.out]; exact HA.out : Al _ _ _ _ _ _ _ _)
                  have HSi : Hid (St B mb p bs cap h xs h xs K K V X (.slice (some ⟨kg, 0, none⟩) K kc) mv wr) := HS.out.again hqK HA'.out.frame HA'.out.old
                  have HRo : Hid (wr.ownsRow B 25 1 gl0 q ((List.range q).map G)) := HA'.out.frame.owns HGr.out.own (fun b hb hm => HGr.out.far q b hqK (by simpa using hm) hb)
                  have hlen : q + 1 ≤ 1073741824 := by omega
                  have HBi : Hid (Below w.heap.size w wr) := HB.out.trans (HA'.out.frame.below HB.out.size (fun x hx => by have := (HS.out.ks.lt hqK (by simpa using hx)).1; omega))
                  have hzi := HA'.out.frame.size
                  go_wp2_with (at_builtin; go_must (refine wp_kept rfl (.tmp 121) (.tmp 123) rfl B _ q _ (.slice ga ((X q).length + 17) gc) rfl rfl HRo.out _ rfl rfl hlen hBi ?_; intro v8 w8 ho8 hg8' hn8'))
                  have hg8 : wr.grownBy w8 gl0.ownBlock := hg8'
                  have hn8 : v8.ownBlock = gl0.ownBlock ∨ ∃ b, v8.ownBlock = some b ∧ wr.heap.size ≤ b := hn8'
                  clear hg8' hn8'
                  have HG8 : Hid (Gr B K (q + 1) V L (fun r => if r = q then (.slice ga ((X q).length + 17) gc) else G r) v8 w8) := HGr.out.step HS.out hqK HLq.out HA'.out ho8 hg8 hn8
                  have HS8 : Hid (St B mb p bs cap h xs h xs K K V X (.slice (some ⟨kg, 0, none⟩) K kc) mv w8) := HSi.out.over hg8 (fun b hb => ⟨(World.ownsRow.lt HRo.out b hb).1, fun i hi e => HGr.out.far i b hi e hb, (HGK.out b hb).1, (HGK.out b hb).2⟩)
                  have HK8 : Hid (∀ b, v8.ownBlock = some b → (Value.slice (some ⟨kg, 0, none⟩) K kc).ownBlock ≠ some b ∧ mv.ownBlock ≠ some b) := (fun b hb => by
                    rcases hn8 with e | ⟨b', e, hb'⟩
                    · rw [e] at hb; exact HGK.out b hb
                    · rw [e] at hb
                      injection hb with hb
                      refine ⟨fun e2 => ?_, fun e2 => ?_⟩
                      · have := (World.ownsRow.lt HSi.out.kown b e2).2; omega
                      · have := (World.ownsRow.lt HSi.out.mown b e2).2; omega : ∀ b, _)
                  have HB8 : Hid (Below w.heap.size w w8) := HBi.out.grown hg8 HBi.out.size (fun b hb => by have := (World.ownsRow.lt HRo.out b hb).1; omega)
                  have hB8 : B ≤ w8.heap.size := Nat.le_trans hBi hg8.size
                  clear ho8 hg8 hn8
                  go_wp2
                  go_roundw
                  case rel => exact ⟨q + 1, _, by omega, by go_num, HG8, HK8, HS8, HB8, hB8⟩
                  case measure => simp [intOf]; omega
            · obtain rfl : K = q := by omega
              have hqK' : ¬ ((K : Nat) : Int) < ((K : Nat) : Int) := by omega
              obtain ⟨we, rfl⟩ : ∃ we, we = wr := ⟨_, rfl⟩
              obtain ⟨gla, glc, rfl, _⟩ := owns_slice HGr.out.own
              go_wp2_with fail
              go_loopw [128] (fun i wi => ∃ (q : Nat), q ≤ K ∧ i = .int .i64 (q : Int) ∧ wi = we) (fun i _ => K - (intOf i).toNat)
              case atStart => exact ⟨0, Nat.zero_le _, rfl, rfl⟩
              case round =>
                obtain ⟨q, hq, rfl, rfl⟩ := hrel
                by_cases hqK : q < K
                · have hqK' : ((q : Nat) : Int) < ((K : Nat) : Int) := by omega
                  obtain ⟨kg, kc', hkv, _, hkc⟩ := HS.out.formK (by omega)
                  injection hkv with hk1 _ hk2
                  subst hk1 hk2
                  obtain ⟨va, vc, hve, _⟩ := owns_slice (HS.out.ks.own q hqK)
                  rw [HL.out q] at hve
                  have hcq := hkc q hqK
                  rw [hve] at hcq
                  have HVe : Hid (V q = .slice va (L q) vc) := hve
                  have hLq := HLs.out q hqK
                  have hglc : ∃ gg, gla = some ⟨gg, 0, none⟩ ∧ wr.cell? ⟨gg, q, none⟩ = some (G q) ∧ K ≤ glc := by
                    rcases HGr.out.own.2 with ⟨_, hn⟩ | ⟨gg, cc, cur, e, _, hg, hc, _⟩
                    · omega
                    · injection e with e1 _ e2
                      subst e1 e2
                      refine ⟨gg, rfl, ?_, hc⟩
                      have := World.ownsRow.cells HGr.out.own (g := gg) rfl q (G q) (by rw [List.getElem?_map, List.getElem?_range hqK]; rfl)
                      have ea : Addr.add ⟨gg, 0, none⟩ q = ⟨gg, q, none⟩ := by unfold Addr.add; split <;> simp_all
                      rwa [ea] at this
                  obtain ⟨gg, rfl, hgq, hKg⟩ := hglc
                  obtain ⟨g2, c2, hGe, hc2, _, _, _, hec⟩ := HGr.out.each q hqK
                  rw [hGe] at hgq
                  have HEc : Hid (∀ e, e < L q + 17 → ∃ z, wr.cell? ⟨g2, e, none⟩ = some (.int .u8 z) ∧ (L q ≤ e → z = gb q)) := hec
                  clear hkc hve hGe hec
                  go_wp2_with fail
                  obtain ⟨wf, rfl⟩ : ∃ wf, wf = wr := ⟨_, rfl⟩
                  go_loopw [135] (fun i wi => ∃ (j : Nat), j ≤ L q ∧ i = .int .i64 (j : Int) ∧ wi = wf) (fun i _ => L q - (intOf i).toNat)
                  case atStart => exact ⟨0, Nat.zero_le _, rfl, rfl⟩
                  case round =>
                    obtain ⟨j, hj, rfl, rfl⟩ := hrel
                    by_cases hjL : j < L q
                    · have hjL' : ((j : Nat) : Int) < ((L q : Nat) : Int) := by omega
                      obtain ⟨g, c, hve, _⟩ : ∃ g c, V q = .slice (some ⟨g, 0, none⟩) (X q).length c ∧ (X q).length ≤ c := by
                        rcases HS.out.form hqK with ⟨_, h0⟩ | hx
                        · rw [HL.out q] at h0; omega
                        · exact hx
                      have hve2 := HVe.out.symm.trans hve
                      rw [HL.out q] at hve2
                      injection hve2 with hv1 _ hv2
                      subst hv1 hv2
                      have HO : Hid (wr.ownsRow B 5 1 (.slice (some ⟨g, 0, none⟩) (X q).length vc) (X q).length (X q)) := (by have := HS.out.ks.own q hqK; rw [hve] at this; exact this : World.ownsRow _ _ _ _ _ _ _)
                      have hcx : wr.cell? ⟨g, j, none⟩ = some (.int .u8 (mkR q j)) := by rw [HO.out.cellAt j (by rw [HL.out q]; omega)]; exact HMk.out.1 q hqK j hjL
                      have HMa : Hid (∀ W, Calls _ _ _ W _) := fun W => ringMark_any q j (by omega) (by omega) W
                      generalize mkR q j = MM at *
                      have nM : (MM != MM) = false := by simp
                      clear hve HO
                      go_wp2_with fail
                      refine (HMa.out _).mono ?_
                      rintro e w6 ⟨rfl, hw6⟩
                      rw [hw6]
                      clear hw6
                      go_wp2
                      go_roundw
                      case rel => exact ⟨j + 1, by omega, by go_num, by first | rfl | trivial⟩
                      case measure => simp [intOf]; omega
                    · obtain rfl : j = L q := by omega
                      have hjL' : ¬ ((L q : Nat) : Int) < ((L q : Nat) : Int) := by omega
                      go_wp2_with fail
                      obtain ⟨wg, rfl⟩ : ∃ wg, wg = wr := ⟨_, rfl⟩
                      go_loopw [151] (fun i wi => ∃ (j : Nat), j ≤ L q + 17 ∧ i = .int .i64 (j : Int) ∧ wi = wg) (fun i _ => L q + 17 - (intOf i).toNat)
                      case atStart => exact ⟨0, Nat.zero_le _, rfl, rfl⟩
                      case round =>
                        obtain ⟨j, hj, rfl, rfl⟩ := hrel
                        by_cases hjE : j < L q + 17
                        · have hjE' : ((j : Nat) : Int) < ((L q : Nat) : Int) + 17 := by omega
                          obtain ⟨z, hz1, hz2⟩ := HEc.out j hjE
                          by_cases hle : L q ≤ j
                          · obtain rfl := hz2 hle
                            have hd : decide (((L q : Nat) : Int) ≤ ((j : Nat) : Int)) = true := decide_eq_true (by omega)
                            unfold gb at hz1
                            have nG : ((((q : Nat) : Int) + 101) % 256 != (((q : Nat) : Int) + 101) % 256) = false := by simp
                            go_wp2
                            go_roundw
                            case rel => exact ⟨j + 1, by omega, by go_num, by first | rfl | trivial⟩
                            case measure => simp [intOf]; omega
                          · have hd : decide (((L q : Nat) : Int) ≤ ((j : Nat) : Int)) = false := decide_eq_false (by omega)
                            have hlt9 : ((j : Nat) : Int) < ((L q : Nat) : Int) := by omega
                            go_wp2
                            go_roundw
                            case rel => exact ⟨j + 1, by omega, by go_num, by first | rfl | trivial⟩
                            case measure => simp [intOf]; omega
                        · obtain rfl : j = L q + 17 := by omega
                          go_wp2
                          go_roundw
                          case rel => exact ⟨q + 1, by omega, by go_num, by first | rfl | trivial⟩
                          case measure => simp [intOf]; omega
                · obtain rfl : K = q := by omega
                  have hqK' : ¬ ((K : Nat) : Int) < ((K : Nat) : Int) := by omega
                  obtain ⟨ma, mc, rfl, _⟩ := owns_slice HS.out.mown
                  have HRi : Hid (RingP wr p bs cap h xs) := HS.out.ring
                  have HMv : Hid (RdB wr (.slice ma xs.length mc) xs) := RdB.ofOwn HS.out.mown
                  obtain ⟨r0, r1, r2, rf⟩ := row3 HS.out.mod
                  have hxl : xs.length ≤ 1048576 := by have := HRi.out.hlen; omega
                  have HBd : Hid (Below wr.heap.size wr wr.drew) := (Below.refl _ _).drew
                  have HMw : Hid (∀ W, Below wr.heap.size wr W → W.cell? ⟨mb, 1, none⟩ = some (.slice ma xs.length mc)) := (fun W hb => (hb.cell (p := ⟨mb, 1, none⟩) (World.block_lt_of_cell? wr _ r1)).trans r1 : ∀ W, _)
                  have HSS : Hid (wr.drew.cell? ⟨mb, 1, none⟩ = some (.slice ma xs.length mc)) := HMw.out _ HBd.out
                  have nX : ((xs.length : Int) == (xs.length : Int)) = true := by simp
                  clear HGr HGK HMk HL HLs HS
                  go_wp2_with fail
                  go_region_held3 (fun W => W.cell? ⟨mb, 1, none⟩ = some (.slice ma xs.length mc)) (first | with_reducible exact HSS.out | go_keep) (first
                    | (go_at_call 13; refine (LenP (HRi.out.below HBd.out)).mono ?_; rintro e w9 ⟨rfl, hb9⟩; have HPv : Hid (∀ v, RdB _ v xs → RdB w9 v xs) := fun v hv => hv.below hb9; have HBd : Hid (Below wr.heap.size wr w9) := bel_trans HBd.out hb9; have HSS : Hid (w9.cell? ⟨mb, 1, none⟩ = some (.slice ma xs.length mc)) := HMw.out _ HBd.out; clear hb9)
                    | (go_at_call 12; refine (PeekP (HRi.out.below HBd.out) 0 ((xs.length : Nat) : Int) (by omega) (by omega) (by omega) (by omega) xs.length (by rw [rch_zero]; omega)).mono ?_; rintro e w10 ⟨v10, rfl, ho10, hb10⟩; have HBd : Hid (Below wr.heap.size wr w10) := bel_trans HBd.out hb10; have HSS : Hid (w10.cell? ⟨mb, 1, none⟩ = some (.slice ma xs.length mc)) := HMw.out _ HBd.out; have HV10 : Hid (RdB w10 v10 xs) := (by have := RdB.ofOwn ho10; rwa [show (0 : Int).toNat = 0 from rfl, List.drop_zero, List.take_length] at this : RdB w10 v10 xs); clear ho10 hb10)
                    | (go_at_call 11; refine (same_any HV10.out (HMv.out.below HBd.out) true (by simp)).mono ?_; rintro e w11 ⟨rfl, hb11⟩; have HBd : Hid (Below wr.heap.size wr w11) := bel_trans HBd.out hb11; have HSS : Hid (w11.cell? ⟨mb, 1, none⟩ = some (.slice ma xs.length mc)) := HMw.out _ HBd.out; clear hb11))
                  all_goals
                    have HBz : Hid (Below w.heap.size w _) := bel_trans HB.out HBd.out
                    go_wp2
                    go_ret
                    exact ⟨rfl, HBz.out⟩

end Rg
end Go.Proofs.Ytclciccgcegpmaa
