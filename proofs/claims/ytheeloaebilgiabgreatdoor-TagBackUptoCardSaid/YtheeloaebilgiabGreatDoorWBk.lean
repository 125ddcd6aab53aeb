/-
  The law TagBack.
-/
import Derived.Test.YtheeloaebilgiabGreatDoorTBp
import Derived.Test.YtheeloaebilgiabGreatDoorTSm
set_option linter.unusedVariables false
set_option linter.unusedSimpArgs false
namespace Go.Proofs.YtheeloaebilgiabGreatDoor
open Go.RowKit Go.Shelf
namespace Tt
open Oc Tg

set_option maxRecDepth 100000 in
set_option maxHeartbeats 1000000 in
theorem right_any (b : Bool) (x : ByteArray) (hx : x.size ≤ 3000000000) (w : World) :
    Calls Tryz.prog 6 #[.agg #[.bool b, .string x]] w fun e w' => e = .returned (.bool (okT x.data.toList)) ∧ Below w.heap.size w w' := by
  obtain ⟨w1, hw1⟩ : ∃ w1, w1 = w.alloc (.cells #[.bool b, .string x] 27) := ⟨_, rfl⟩
  have HB1 : Hid (Below w.heap.size w w1) := (by rw [hw1]; exact (Below.refl _ w).alloc (Nat.le_refl _) _ : Below _ _ _)
  have HRf : Hid (∀ W, Calls _ _ _ W _) := fun W => ref_any b x W
  have HP : Hid (∀ W, Calls _ _ _ W _) := fun W => rPrint_any b x hx W
  have HE : Hid (((printT (b, x.data.toList)).2 == 0) = okT x.data.toList) := by
    show _ = _
    unfold printT
    cases h : okT x.data.toList <;> simp [h]
  generalize printT (b, x.data.toList) = PT at *
  obtain ⟨pl, pe⟩ := PT
  dsimp only at *
  generalize str pl = PL at *
  go_enter Tryz.func6, Tryz.ntmps6
  go_wp2_with fail
  rw [← hw1]
  clear hw1
  refine (HRf.out _).mono ?_
  rintro e w2 ⟨rfl, hb2⟩
  have HB2 : Hid (Below w.heap.size w w2) := bel_trans HB1.out hb2
  clear hb2
  go_wp2_with fail
  refine (HP.out _).mono ?_
  rintro e w3 ⟨rfl, hb3⟩
  go_wp2
  go_ret
  exact ⟨ret_bool HE.out, bel_trans HB2.out hb3⟩

/-- A slice of that many bytes. -/
def RdY (v : Value) (n : Nat) (w : World) : Prop :=
  ∃ a c, v = .slice a n c ∧ (n = 0 ∨ ∃ g o, a = some ⟨g, o, none⟩ ∧ n ≤ c ∧ ∀ j, j < n → ∃ x : Int, 0 ≤ x ∧ x ≤ 255 ∧ w.cell? ⟨g, o + j, none⟩ = some (.int .u8 x))
theorem RdY.below {v : Value} {n : Nat} {w w' : World} (h : RdY v n w) (b : Below w.heap.size w w') : RdY v n w' := by
  obtain ⟨a, c, rfl, h⟩ := h
  refine ⟨a, c, rfl, ?_⟩
  rcases h with h | ⟨g, o, e, hc, hcell⟩
  · exact .inl h
  · refine .inr ⟨g, o, e, hc, fun j hj => ?_⟩
    obtain ⟨x, h0, h1, hx⟩ := hcell j hj
    exact ⟨x, h0, h1, by rw [b.cell (World.block_lt_of_cell? w _ hx)]; exact hx⟩
/-- The text so far, and the tags that it is read as. -/
def INV (x : List UInt8) (acc : List Tg1) : Prop := (∀ m res, Gd m false acc res → Gd (x ++ m) false [] res) ∧ ((x = [] ∧ acc = []) ∨ ∃ y, x = y ++ [44])
theorem INV.start : INV [] [] := ⟨fun m res h => h, .inl ⟨rfl, rfl⟩⟩
theorem INV.step {x : List UInt8} {acc : List Tg1} (h : INV x acc) {g : List UInt8} (hg : g ∈ gaps) (t : Tg1) (ht : okT t.2 = true) : INV (x ++ (g ++ (printT t).1 ++ g ++ [44])) (acc ++ [t]) := by
  refine ⟨fun m res hm => ?_, .inr ⟨x ++ (g ++ (printT t).1 ++ g), by simp⟩⟩
  have := h.1 _ _ (gd_seg hg t ht hm)
  simpa using this
theorem INV.list {x : List UInt8} {acc : List Tg1} (h : INV x acc) (ha : acc ≠ []) : listT x = (acc, false, 0, 0) := by
  rcases h.2 with ⟨_, e⟩ | ⟨y, e⟩
  · exact absurd e ha
  · have h1 := h.1 [] acc (.nil _ _ ha)
    rw [List.append_nil] at h1
    rw [e] at h1 ⊢
    exact list_back y acc h1

set_option maxRecDepth 100000 in
set_option maxHeartbeats 4000000 in
theorem walk_TagBack (v1 v2 : Value) (t : List Tg1) (hl : t.length ≤ 1048576) (hM : ∀ j, (nth t j).2.length ≤ 1048576) (n : Nat) (hn : n ≤ 1048576) (w : World) (h1 : RdT v1 t w) (h2 : RdY v2 n w) (hw : Fd.ML w) :
    Calls Tryz.prog 3 #[v1, v2] w fun e w' => e = .returned (.bool true) ∧ Below w.heap.size w w' := by
  have H1 : Hid (RdT v1 t w) := h1
  have H2 : Hid (RdY v2 n w) := h2
  have HW : Hid (Fd.ML w) := hw
  have HA : Hid (Calls _ _ _ _ _) := awake_any w hw
  have HRf : Hid (∀ b x w, Calls _ _ _ w _) := fun b x w => ref_any b x w
  have HSm : Hid (∀ (u1 u2 : Value) (acc : List Tg1) (W : World), RdT u1 acc W → RdT u2 acc W → acc.length ≤ 4294967296 → Calls Tryz.prog 11 #[u1, u2] W fun e w' => e = .returned (.bool true) ∧ Below W.heap.size W w') := fun u1 u2 acc W a b c => same_any u1 u2 acc W a b c
  obtain ⟨a1, c1, rfl, _⟩ := h1
  obtain ⟨a2, c2, rfl, _⟩ := h2
  have HMM : Hid (∀ j, (nth t j).2.length ≤ 1048576) := hM
  clear hw hM
  go_enter Tryz.func3, Tryz.ntmps3
  go_wp2_with fail
  refine HA.out.mono ?_
  rintro e w0 ⟨rfl, hb0⟩
  have HB0 : Hid (Below w.heap.size w w0) := hb0
  clear hb0 HA
  go_wp2
  go_loopw [5, 6, 22] (fun xv wv i wr => ∃ (k : Nat) (x : ByteArray) (acc : List Tg1), k ≤ t.length ∧ i = .int .i64 k ∧ xv = .string x ∧ x.size ≤ k * 300 ∧ acc.length ≤ k ∧ Hid (INV x.data.toList acc) ∧ Hid (OwnT 35 w0.heap.size wv acc wr) ∧ Hid (Below w0.heap.size w0 wr)) (fun _ _ i _ => t.length - (intOf i).toNat)
  case atStart => exact ⟨0, ⟨#[]⟩, [], Nat.zero_le _, rfl, rfl, by decide, by simp, INV.start, ownT_nil _ _ _, Below.refl _ _⟩
  case round =>
    obtain ⟨k, x, acc, hk, rfl, rfl, hxs, hal, hinv, ho, hb⟩ := hrel
    obtain ⟨va, vc, hv⟩ := ho.out.form
    subst hv
    have hsz := hb.out.size
    have HBw : Hid (Below w.heap.size w wr) := bel_trans HB0.out hb.out
    by_cases hlt : k < t.length
    · obtain ⟨a', c', e', hcs⟩ := H1.out.below HBw.out
      injection e' with e1 _ e2
      subst e1 e2
      rcases hcs with h | ⟨g, o, rfl, hlc, hcell⟩
      · rw [h] at hlt; simp at hlt
      obtain ⟨p0, p1⟩ := hcell k hlt
      have hMk := HMM.out k
      clear hcell
      generalize nth t k = tk at *
      obtain ⟨tb, tl⟩ := tk
      dsimp only at p0 p1 hMk
      have HRt : Hid (∀ W, Calls Tryz.prog 6 #[.agg #[.bool tb, .string (str tl)]] W fun e w' => e = .returned (.bool (okT tl)) ∧ Below W.heap.size W w') := fun W => by
        have h := right_any tb (str tl) (by rw [str_size]; omega) W
        rw [str_list] at h
        exact h
      obtain ⟨W1, hW1⟩ : ∃ W1, W1 = wr.alloc (.cells #[.bool tb, .string (str tl)] 27) := ⟨_, rfl⟩
      have HB1 : Hid (Below w0.heap.size w0 W1) := (by rw [hW1]; exact hb.out.alloc hsz _ : Below _ _ _)
      have HO1 : Hid (OwnT 35 w0.heap.size (.slice va acc.length vc) acc W1) := (by rw [hW1]; exact ho.out.below ((Below.refl _ wr).alloc (Nat.le_refl _) _) : OwnT _ _ _ _ _)
      have m0 : W1.cell? ⟨wr.heap.size, 0, none⟩ = some (.bool tb) := by rw [hW1]; simp
      have m1 : W1.cell? ⟨wr.heap.size, 1, none⟩ = some (.string (str tl)) := by rw [hW1]; simp
      have HM : Hid (∀ W, Below W1.heap.size W1 W → W.cell? ⟨wr.heap.size, 0, none⟩ = some (.bool tb) ∧ W.cell? ⟨wr.heap.size, 1, none⟩ = some (.string (str tl)) ∧ wr.heap.size < W.heap.size) := fun W hB =>
        ⟨by rw [hB.cell (World.block_lt_of_cell? W1 _ m0)]; exact m0, by rw [hB.cell (World.block_lt_of_cell? W1 _ m1)]; exact m1, Nat.lt_of_lt_of_le (World.block_lt_of_cell? W1 _ m0) hB.size⟩
      clear m0 m1
      cases hok : okT tl with
      | false =>
        rw [hok] at HRt
        clear HM
        generalize str tl = S at *
        go_wp2_with fail
        rw [← hW1]
        clear hW1
        refine (HRt.out _).mono ?_
        rintro e w2 ⟨rfl, hb2⟩
        have HB2 : Hid (Below w0.heap.size w0 w2) := bel_trans HB1.out hb2
        have HO2 : Hid (OwnT 35 w0.heap.size (.slice va acc.length vc) acc w2) := HO1.out.below hb2
        clear hb2
        go_wp2
        go_roundw
        case rel => exact ⟨k + 1, x, acc, by omega, by go_num, rfl, by omega, by omega, hinv, HO2, HB2⟩
        case measure => simp [intOf]; omega
      | true =>
        rw [hok] at HRt
        have ep : (printT (tb, tl)).2 = 0 := by unfold printT; rw [if_pos hok]
        have HPr : Hid (∀ W, Calls Tryz.prog 7 #[.agg #[.bool tb, .string (str tl)]] W fun e w' => e = .returned (.tuple #[.string (str (printT (tb, tl)).1), .int .i64 0]) ∧ Below W.heap.size W w') := fun W => by
          have h := Print_any tb (str tl) (by rw [str_size]; omega) W
          rw [str_list, ep] at h
          exact h
        have hpl : (printT (tb, tl)).1.length ≤ 260 := by
          have h1 : tl.length ≤ 256 := by
            have := hok
            unfold okT at this
            rw [Bool.and_eq_true, decide_eq_true_iff] at this
            exact this.2
          unfold printT
          rw [if_pos hok]
          cases tb <;> simp <;> omega
        have HPa : Hid (∀ W, Calls Tryz.prog 8 #[.string (str (printT (tb, tl)).1)] W fun e w' => e = .returned (.tuple #[.agg #[.bool tb, .string (str tl)], .int .i64 0, .int .i64 0]) ∧ Below W.heap.size W w') := fun W => by
          have h := Parse_any (str (printT (tb, tl)).1) (by rw [str_size]; omega) W
          rw [str_list, parse_printed (tb, tl) hok] at h
          exact h
        have HST : Hid (∀ g, g ∈ gaps → INV (x.data.toList ++ (g ++ (printT (tb, tl)).1 ++ g ++ [44])) (acc ++ [(tb, tl)])) := fun g hg => hinv.out.step hg (tb, tl) hok
        have hps : (str (printT (tb, tl)).1).size ≤ 260 := by rw [str_size]; exact hpl
        have HPL : Hid ((str (printT (tb, tl)).1).data.toList = (printT (tb, tl)).1) := str_list _
        clear hpl ep
        generalize (printT (tb, tl)).1 = pp at *
        generalize str pp = PP at *
        generalize hS : str tl = S at *
        have HS : Hid (S = str tl) := hS.symm
        clear hS
        go_wp2_with fail
        rw [← hW1]
        clear hW1
        refine (HRt.out _).mono ?_
        rintro e w2 ⟨rfl, hb2⟩
        have HB2 : Hid (Below W1.heap.size W1 w2) := hb2
        obtain ⟨k0, k1, kl⟩ := HM.out _ HB2.out
        clear hb2
        go_wp2_with fail
        refine (HPr.out _).mono ?_
        rintro e w3 ⟨rfl, hb3⟩
        have HB3 : Hid (Below W1.heap.size W1 w3) := bel_trans HB2.out hb3
        clear hb3
        go_wp2_with fail
        refine (HPa.out _).mono ?_
        rintro e w4 ⟨rfl, hb4⟩
        have HB4 : Hid (Below W1.heap.size W1 w4) := bel_trans HB3.out hb4
        clear hb4 k0 k1 kl
        obtain ⟨k0, k1, kl⟩ := HM.out _ HB4.out
        have HB4w : Hid (Below w.heap.size w w4) := bel_trans HB0.out (bel_trans HB1.out HB4.out)
        have kne : wr.heap.size ≠ w4.heap.size := by omega
        have bz : (⟨#[44]⟩ : ByteArray).size = 1 := rfl
        by_cases hi : k < n
        · obtain ⟨b', d', e2', hcs2⟩ := H2.out.below HB4w.out
          injection e2' with e3 _ e4
          subst e3 e4
          rcases hcs2 with h | ⟨g2, o2, rfl, hlc2, hcell2⟩
          · omega
          obtain ⟨y, y0, y1, hy⟩ := hcell2 k hi
          clear hcell2
          have hi2 : ((k : Int) < (n : Int)) := by omega
          have gl : g2 < w4.heap.size := World.block_lt_of_cell? w4 _ hy
          rcases (show y % 5 = 0 ∨ y % 5 = 1 ∨ y % 5 = 2 ∨ y % 5 = 3 ∨ y % 5 = 4 by omega) with hy5 | hy5 | hy5 | hy5 | hy5
          · have hyt : y.tmod 5 = 0 := by rw [Int.tmod_eq_emod_of_nonneg y0]; exact hy5
            have gz : (⟨#[]⟩ : ByteArray).size = 0 := rfl
            have z1 : (⟨#[]⟩ : ByteArray).size + PP.size ≤ 9223372036854775807 := by rw [gz]; omega
            have z2 : (⟨#[]⟩ ++ PP : ByteArray).size + (⟨#[]⟩ : ByteArray).size ≤ 9223372036854775807 := by rw [ByteArray.size_append, gz]; omega
            have z3 : (⟨#[]⟩ ++ PP ++ ⟨#[]⟩ : ByteArray).size + (⟨#[44]⟩ : ByteArray).size ≤ 9223372036854775807 := by simp only [ByteArray.size_append, gz, bz]; omega
            have z4 : x.size + (⟨#[]⟩ ++ PP ++ ⟨#[]⟩ ++ ⟨#[44]⟩ : ByteArray).size ≤ 9223372036854775807 := by simp only [ByteArray.size_append, gz, bz]; omega
            have HN : Hid (INV (x ++ (⟨#[]⟩ ++ PP ++ ⟨#[]⟩ ++ ⟨#[44]⟩) : ByteArray).data.toList (acc ++ [(tb, tl)])) := by
              have h := HST.out [] (by decide)
              have e : (x ++ (⟨#[]⟩ ++ PP ++ ⟨#[]⟩ ++ ⟨#[44]⟩) : ByteArray).data.toList = x.data.toList ++ ([] ++ pp ++ [] ++ [44]) := by
                rw [← HPL.out]
                simp [ByteArray.data_append]
              show INV _ _
              rw [e]
              exact h
            have HZ : Hid ((x ++ (⟨#[]⟩ ++ PP ++ ⟨#[]⟩ ++ ⟨#[44]⟩) : ByteArray).size ≤ (k + 1) * 300) := by
              show _ ≤ _
              simp only [ByteArray.size_append, gz, bz]
              omega
            clear HST
            go_wp2_with fail
            refine (HRf.out _ _ _).mono ?_
            rintro e w5 ⟨rfl, hb5⟩
            have HB5 : Hid (Below W1.heap.size W1 w5) := (by first | exact bel_trans ((HB4.out.alloc HB4.out.size _)) hb5 | exact bel_trans ((HB4.out.alloc HB4.out.size _).alloc (by simp; have := HB4.out.size; omega) _) hb5 : Below W1.heap.size W1 w5)
            have HO5 : Hid (OwnT 35 w0.heap.size (.slice va acc.length vc) acc w5) := HO1.out.below HB5.out
            have hs5 : w0.heap.size ≤ w5.heap.size := (bel_trans HB1.out HB5.out).size
            clear hb5
            go_wp2_with (at_builtin; go_must (refine wp_appT 35 25 infoT2 Tryz.underlying25 rfl (.tmp 74) (.tmp 77) rfl w0.heap.size _ acc _ (tb, tl) _ _ rfl HS.out rfl HO5.out _ rfl (by simp) (by omega) hs5 ?_); intro v6 w6 hown6 hb6)
            have HO6 : Hid (OwnT 35 w0.heap.size v6 (acc ++ [(tb, tl)]) w6) := hown6
            have HB6 : Hid (Below w0.heap.size w0 w6) := (bel_trans HB1.out HB5.out).trans hb6
            clear hown6 hb6
            go_roundw
            case rel => exact ⟨k + 1, _, acc ++ [(tb, tl)], by omega, by go_num, rfl, HZ.out, by simp; omega, HN, HO6, HB6⟩
            case measure => simp [intOf]; omega
          · have hyt : y.tmod 5 = 1 := by rw [Int.tmod_eq_emod_of_nonneg y0]; exact hy5
            have gz : (⟨#[32]⟩ : ByteArray).size = 1 := rfl
            have z1 : (⟨#[32]⟩ : ByteArray).size + PP.size ≤ 9223372036854775807 := by rw [gz]; omega
            have z2 : (⟨#[32]⟩ ++ PP : ByteArray).size + (⟨#[32]⟩ : ByteArray).size ≤ 9223372036854775807 := by rw [ByteArray.size_append, gz]; omega
            have z3 : (⟨#[32]⟩ ++ PP ++ ⟨#[32]⟩ : ByteArray).size + (⟨#[44]⟩ : ByteArray).size ≤ 9223372036854775807 := by simp only [ByteArray.size_append, gz, bz]; omega
            have z4 : x.size + (⟨#[32]⟩ ++ PP ++ ⟨#[32]⟩ ++ ⟨#[44]⟩ : ByteArray).size ≤ 9223372036854775807 := by simp only [ByteArray.size_append, gz, bz]; omega
            have HN : Hid (INV (x ++ (⟨#[32]⟩ ++ PP ++ ⟨#[32]⟩ ++ ⟨#[44]⟩) : ByteArray).data.toList (acc ++ [(tb, tl)])) := by
              have h := HST.out [32] (by decide)
              have e : (x ++ (⟨#[32]⟩ ++ PP ++ ⟨#[32]⟩ ++ ⟨#[44]⟩) : ByteArray).data.toList = x.data.toList ++ ([32] ++ pp ++ [32] ++ [44]) := by
                rw [← HPL.out]
                simp [ByteArray.data_append]
              show INV _ _
              rw [e]
              exact h
            have HZ : Hid ((x ++ (⟨#[32]⟩ ++ PP ++ ⟨#[32]⟩ ++ ⟨#[44]⟩) : ByteArray).size ≤ (k + 1) * 300) := by
              show _ ≤ _
              simp only [ByteArray.size_append, gz, bz]
              omega
            clear HST
            go_wp2_with fail
            refine (HRf.out _ _ _).mono ?_
            rintro e w5 ⟨rfl, hb5⟩
            have HB5 : Hid (Below W1.heap.size W1 w5) := (by first | exact bel_trans ((HB4.out.alloc HB4.out.size _)) hb5 | exact bel_trans ((HB4.out.alloc HB4.out.size _).alloc (by simp; have := HB4.out.size; omega) _) hb5 : Below W1.heap.size W1 w5)
            have HO5 : Hid (OwnT 35 w0.heap.size (.slice va acc.length vc) acc w5) := HO1.out.below HB5.out
            have hs5 : w0.heap.size ≤ w5.heap.size := (bel_trans HB1.out HB5.out).size
            clear hb5
            go_wp2_with (at_builtin; go_must (refine wp_appT 35 25 infoT2 Tryz.underlying25 rfl (.tmp 74) (.tmp 77) rfl w0.heap.size _ acc _ (tb, tl) _ _ rfl HS.out rfl HO5.out _ rfl (by simp) (by omega) hs5 ?_); intro v6 w6 hown6 hb6)
            have HO6 : Hid (OwnT 35 w0.heap.size v6 (acc ++ [(tb, tl)]) w6) := hown6
            have HB6 : Hid (Below w0.heap.size w0 w6) := (bel_trans HB1.out HB5.out).trans hb6
            clear hown6 hb6
            go_roundw
            case rel => exact ⟨k + 1, _, acc ++ [(tb, tl)], by omega, by go_num, rfl, HZ.out, by simp; omega, HN, HO6, HB6⟩
            case measure => simp [intOf]; omega
          · have hyt : y.tmod 5 = 2 := by rw [Int.tmod_eq_emod_of_nonneg y0]; exact hy5
            have gz : (⟨#[9, 32]⟩ : ByteArray).size = 2 := rfl
            have z1 : (⟨#[9, 32]⟩ : ByteArray).size + PP.size ≤ 9223372036854775807 := by rw [gz]; omega
            have z2 : (⟨#[9, 32]⟩ ++ PP : ByteArray).size + (⟨#[9, 32]⟩ : ByteArray).size ≤ 9223372036854775807 := by rw [ByteArray.size_append, gz]; omega
            have z3 : (⟨#[9, 32]⟩ ++ PP ++ ⟨#[9, 32]⟩ : ByteArray).size + (⟨#[44]⟩ : ByteArray).size ≤ 9223372036854775807 := by simp only [ByteArray.size_append, gz, bz]; omega
            have z4 : x.size + (⟨#[9, 32]⟩ ++ PP ++ ⟨#[9, 32]⟩ ++ ⟨#[44]⟩ : ByteArray).size ≤ 9223372036854775807 := by simp only [ByteArray.size_append, gz, bz]; omega
            have HN : Hid (INV (x ++ (⟨#[9, 32]⟩ ++ PP ++ ⟨#[9, 32]⟩ ++ ⟨#[44]⟩) : ByteArray).data.toList (acc ++ [(tb, tl)])) := by
              have h := HST.out [9, 32] (by decide)
              have e : (x ++ (⟨#[9, 32]⟩ ++ PP ++ ⟨#[9, 32]⟩ ++ ⟨#[44]⟩) : ByteArray).data.toList = x.data.toList ++ ([9, 32] ++ pp ++ [9, 32] ++ [44]) := by
                rw [← HPL.out]
                simp [ByteArray.data_append]
              show INV _ _
              rw [e]
              exact h
            have HZ : Hid ((x ++ (⟨#[9, 32]⟩ ++ PP ++ ⟨#[9, 32]⟩ ++ ⟨#[44]⟩) : ByteArray).size ≤ (k + 1) * 300) := by
              show _ ≤ _
              simp only [ByteArray.size_append, gz, bz]
              omega
            clear HST
            go_wp2_with fail
            refine (HRf.out _ _ _).mono ?_
            rintro e w5 ⟨rfl, hb5⟩
            have HB5 : Hid (Below W1.heap.size W1 w5) := (by first | exact bel_trans ((HB4.out.alloc HB4.out.size _)) hb5 | exact bel_trans ((HB4.out.alloc HB4.out.size _).alloc (by simp; have := HB4.out.size; omega) _) hb5 : Below W1.heap.size W1 w5)
            have HO5 : Hid (OwnT 35 w0.heap.size (.slice va acc.length vc) acc w5) := HO1.out.below HB5.out
            have hs5 : w0.heap.size ≤ w5.heap.size := (bel_trans HB1.out HB5.out).size
            clear hb5
            go_wp2_with (at_builtin; go_must (refine wp_appT 35 25 infoT2 Tryz.underlying25 rfl (.tmp 74) (.tmp 77) rfl w0.heap.size _ acc _ (tb, tl) _ _ rfl HS.out rfl HO5.out _ rfl (by simp) (by omega) hs5 ?_); intro v6 w6 hown6 hb6)
            have HO6 : Hid (OwnT 35 w0.heap.size v6 (acc ++ [(tb, tl)]) w6) := hown6
            have HB6 : Hid (Below w0.heap.size w0 w6) := (bel_trans HB1.out HB5.out).trans hb6
            clear hown6 hb6
            go_roundw
            case rel => exact ⟨k + 1, _, acc ++ [(tb, tl)], by omega, by go_num, rfl, HZ.out, by simp; omega, HN, HO6, HB6⟩
            case measure => simp [intOf]; omega
          · have hyt : y.tmod 5 = 3 := by rw [Int.tmod_eq_emod_of_nonneg y0]; exact hy5
            have gz : (⟨#[44]⟩ : ByteArray).size = 1 := rfl
            have z1 : (⟨#[44]⟩ : ByteArray).size + PP.size ≤ 9223372036854775807 := by rw [gz]; omega
            have z2 : (⟨#[44]⟩ ++ PP : ByteArray).size + (⟨#[44]⟩ : ByteArray).size ≤ 9223372036854775807 := by rw [ByteArray.size_append, gz]; omega
            have z3 : (⟨#[44]⟩ ++ PP ++ ⟨#[44]⟩ : ByteArray).size + (⟨#[44]⟩ : ByteArray).size ≤ 9223372036854775807 := by simp only [ByteArray.size_append, gz, bz]; omega
            have z4 : x.size + (⟨#[44]⟩ ++ PP ++ ⟨#[44]⟩ ++ ⟨#[44]⟩ : ByteArray).size ≤ 9223372036854775807 := by simp only [ByteArray.size_append, gz, bz]; omega
            have HN : Hid (INV (x ++ (⟨#[44]⟩ ++ PP ++ ⟨#[44]⟩ ++ ⟨#[44]⟩) : ByteArray).data.toList (acc ++ [(tb, tl)])) := by
              have h := HST.out [44] (by decide)
              have e : (x ++ (⟨#[44]⟩ ++ PP ++ ⟨#[44]⟩ ++ ⟨#[44]⟩) : ByteArray).data.toList = x.data.toList ++ ([44] ++ pp ++ [44] ++ [44]) := by
                rw [← HPL.out]
                simp [ByteArray.data_append]
              show INV _ _
              rw [e]
              exact h
            have HZ : Hid ((x ++ (⟨#[44]⟩ ++ PP ++ ⟨#[44]⟩ ++ ⟨#[44]⟩) : ByteArray).size ≤ (k + 1) * 300) := by
              show _ ≤ _
              simp only [ByteArray.size_append, gz, bz]
              omega
            clear HST
            go_wp2_with fail
            refine (HRf.out _ _ _).mono ?_
            rintro e w5 ⟨rfl, hb5⟩
            have HB5 : Hid (Below W1.heap.size W1 w5) := (by first | exact bel_trans ((HB4.out.alloc HB4.out.size _)) hb5 | exact bel_trans ((HB4.out.alloc HB4.out.size _).alloc (by simp; have := HB4.out.size; omega) _) hb5 : Below W1.heap.size W1 w5)
            have HO5 : Hid (OwnT 35 w0.heap.size (.slice va acc.length vc) acc w5) := HO1.out.below HB5.out
            have hs5 : w0.heap.size ≤ w5.heap.size := (bel_trans HB1.out HB5.out).size
            clear hb5
            go_wp2_with (at_builtin; go_must (refine wp_appT 35 25 infoT2 Tryz.underlying25 rfl (.tmp 74) (.tmp 77) rfl w0.heap.size _ acc _ (tb, tl) _ _ rfl HS.out rfl HO5.out _ rfl (by simp) (by omega) hs5 ?_); intro v6 w6 hown6 hb6)
            have HO6 : Hid (OwnT 35 w0.heap.size v6 (acc ++ [(tb, tl)]) w6) := hown6
            have HB6 : Hid (Below w0.heap.size w0 w6) := (bel_trans HB1.out HB5.out).trans hb6
            clear hown6 hb6
            go_roundw
            case rel => exact ⟨k + 1, _, acc ++ [(tb, tl)], by omega, by go_num, rfl, HZ.out, by simp; omega, HN, HO6, HB6⟩
            case measure => simp [intOf]; omega
          · have hyt : y.tmod 5 = 4 := by rw [Int.tmod_eq_emod_of_nonneg y0]; exact hy5
            have gz : (⟨#[32, 44, 32]⟩ : ByteArray).size = 3 := rfl
            have z1 : (⟨#[32, 44, 32]⟩ : ByteArray).size + PP.size ≤ 9223372036854775807 := by rw [gz]; omega
            have z2 : (⟨#[32, 44, 32]⟩ ++ PP : ByteArray).size + (⟨#[32, 44, 32]⟩ : ByteArray).size ≤ 9223372036854775807 := by rw [ByteArray.size_append, gz]; omega
            have z3 : (⟨#[32, 44, 32]⟩ ++ PP ++ ⟨#[32, 44, 32]⟩ : ByteArray).size + (⟨#[44]⟩ : ByteArray).size ≤ 9223372036854775807 := by simp only [ByteArray.size_append, gz, bz]; omega
            have z4 : x.size + (⟨#[32, 44, 32]⟩ ++ PP ++ ⟨#[32, 44, 32]⟩ ++ ⟨#[44]⟩ : ByteArray).size ≤ 9223372036854775807 := by simp only [ByteArray.size_append, gz, bz]; omega
            have HN : Hid (INV (x ++ (⟨#[32, 44, 32]⟩ ++ PP ++ ⟨#[32, 44, 32]⟩ ++ ⟨#[44]⟩) : ByteArray).data.toList (acc ++ [(tb, tl)])) := by
              have h := HST.out [32, 44, 32] (by decide)
              have e : (x ++ (⟨#[32, 44, 32]⟩ ++ PP ++ ⟨#[32, 44, 32]⟩ ++ ⟨#[44]⟩) : ByteArray).data.toList = x.data.toList ++ ([32, 44, 32] ++ pp ++ [32, 44, 32] ++ [44]) := by
                rw [← HPL.out]
                simp [ByteArray.data_append]
              show INV _ _
              rw [e]
              exact h
            have HZ : Hid ((x ++ (⟨#[32, 44, 32]⟩ ++ PP ++ ⟨#[32, 44, 32]⟩ ++ ⟨#[44]⟩) : ByteArray).size ≤ (k + 1) * 300) := by
              show _ ≤ _
              simp only [ByteArray.size_append, gz, bz]
              omega
            clear HST
            go_wp2_with fail
            refine (HRf.out _ _ _).mono ?_
            rintro e w5 ⟨rfl, hb5⟩
            have HB5 : Hid (Below W1.heap.size W1 w5) := (by first | exact bel_trans ((HB4.out.alloc HB4.out.size _)) hb5 | exact bel_trans ((HB4.out.alloc HB4.out.size _).alloc (by simp; have := HB4.out.size; omega) _) hb5 : Below W1.heap.size W1 w5)
            have HO5 : Hid (OwnT 35 w0.heap.size (.slice va acc.length vc) acc w5) := HO1.out.below HB5.out
            have hs5 : w0.heap.size ≤ w5.heap.size := (bel_trans HB1.out HB5.out).size
            clear hb5
            go_wp2_with (at_builtin; go_must (refine wp_appT 35 25 infoT2 Tryz.underlying25 rfl (.tmp 74) (.tmp 77) rfl w0.heap.size _ acc _ (tb, tl) _ _ rfl HS.out rfl HO5.out _ rfl (by simp) (by omega) hs5 ?_); intro v6 w6 hown6 hb6)
            have HO6 : Hid (OwnT 35 w0.heap.size v6 (acc ++ [(tb, tl)]) w6) := hown6
            have HB6 : Hid (Below w0.heap.size w0 w6) := (bel_trans HB1.out HB5.out).trans hb6
            clear hown6 hb6
            go_roundw
            case rel => exact ⟨k + 1, _, acc ++ [(tb, tl)], by omega, by go_num, rfl, HZ.out, by simp; omega, HN, HO6, HB6⟩
            case measure => simp [intOf]; omega
        · have hi2 : ¬ ((k : Int) < (n : Int)) := by omega
          have gz : (⟨#[]⟩ : ByteArray).size = 0 := rfl
          have z1 : (⟨#[]⟩ : ByteArray).size + PP.size ≤ 9223372036854775807 := by rw [gz]; omega
          have z2 : (⟨#[]⟩ ++ PP : ByteArray).size + (⟨#[]⟩ : ByteArray).size ≤ 9223372036854775807 := by rw [ByteArray.size_append, gz]; omega
          have z3 : (⟨#[]⟩ ++ PP ++ ⟨#[]⟩ : ByteArray).size + (⟨#[44]⟩ : ByteArray).size ≤ 9223372036854775807 := by simp only [ByteArray.size_append, gz, bz]; omega
          have z4 : x.size + (⟨#[]⟩ ++ PP ++ ⟨#[]⟩ ++ ⟨#[44]⟩ : ByteArray).size ≤ 9223372036854775807 := by simp only [ByteArray.size_append, gz, bz]; omega
          have HN : Hid (INV (x ++ (⟨#[]⟩ ++ PP ++ ⟨#[]⟩ ++ ⟨#[44]⟩) : ByteArray).data.toList (acc ++ [(tb, tl)])) := by
            have h := HST.out [] (by decide)
            have e : (x ++ (⟨#[]⟩ ++ PP ++ ⟨#[]⟩ ++ ⟨#[44]⟩) : ByteArray).data.toList = x.data.toList ++ ([] ++ pp ++ [] ++ [44]) := by
              rw [← HPL.out]
              simp [ByteArray.data_append]
            show INV _ _
            rw [e]
            exact h
          have HZ : Hid ((x ++ (⟨#[]⟩ ++ PP ++ ⟨#[]⟩ ++ ⟨#[44]⟩) : ByteArray).size ≤ (k + 1) * 300) := by
            show _ ≤ _
            simp only [ByteArray.size_append, gz, bz]
            omega
          clear HST
          go_wp2_with fail
          refine (HRf.out _ _ _).mono ?_
          rintro e w5 ⟨rfl, hb5⟩
          have HB5 : Hid (Below W1.heap.size W1 w5) := (by first | exact bel_trans ((HB4.out.alloc HB4.out.size _)) hb5 | exact bel_trans ((HB4.out.alloc HB4.out.size _).alloc (by simp; have := HB4.out.size; omega) _) hb5 : Below W1.heap.size W1 w5)
          have HO5 : Hid (OwnT 35 w0.heap.size (.slice va acc.length vc) acc w5) := HO1.out.below HB5.out
          have hs5 : w0.heap.size ≤ w5.heap.size := (bel_trans HB1.out HB5.out).size
          clear hb5
          go_wp2_with (at_builtin; go_must (refine wp_appT 35 25 infoT2 Tryz.underlying25 rfl (.tmp 74) (.tmp 77) rfl w0.heap.size _ acc _ (tb, tl) _ _ rfl HS.out rfl HO5.out _ rfl (by simp) (by omega) hs5 ?_); intro v6 w6 hown6 hb6)
          have HO6 : Hid (OwnT 35 w0.heap.size v6 (acc ++ [(tb, tl)]) w6) := hown6
          have HB6 : Hid (Below w0.heap.size w0 w6) := (bel_trans HB1.out HB5.out).trans hb6
          clear hown6 hb6
          go_roundw
          case rel => exact ⟨k + 1, _, acc ++ [(tb, tl)], by omega, by go_num, rfl, HZ.out, by simp; omega, HN, HO6, HB6⟩
          case measure => simp [intOf]; omega
    · by_cases hac : acc = []
      · subst hac
        go_wp2
        go_ret
        exact ⟨rfl, HBw.out⟩
      · have hpos : 0 < acc.length := List.length_pos_iff.2 hac
        have hq : ((acc.length : Int) == 0) = false := by rw [beq_eq_false_iff_ne]; omega
        have HLs : Hid (∀ W, Fd.ML W → Calls Tryz.prog 10 #[.string x] W fun e w' => ∃ v, e = .returned (.tuple #[v, .bool false, .int .i64 0, .int .i64 0]) ∧ OwnT 27 W.heap.size v acc w' ∧ Below W.heap.size W w') := fun W hm => by
          have h := List_any x (by omega) W hm
          rw [hinv.out.list hac] at h
          exact h
        clear hinv hac
        go_wp2_with fail
        refine (HLs.out _ (HW.out.below HBw.out)).mono ?_
        rintro e w2 ⟨u, rfl, hu, hb2⟩
        have HB2 : Hid (Below w.heap.size w w2) := bel_trans HBw.out hb2
        have HU : Hid (RdT u acc w2) := hu.rd
        have HV : Hid (RdT (.slice va acc.length vc) acc w2) := (ho.out.below hb2).rd
        obtain ⟨ua, uc, rfl⟩ := hu.form
        clear hb2 hu
        go_wp2_with fail
        refine (HSm.out _ _ _ _ HU.out HV.out (by omega)).mono ?_
        rintro e w3 ⟨rfl, hb3⟩
        have HB3 : Hid (Below w.heap.size w w3) := bel_trans HB2.out hb3
        clear hb3
        go_wp2
        go_ret
        exact ⟨ret_bool (by simp), HB3.out⟩

end Tt
end Go.Proofs.YtheeloaebilgiabGreatDoor
