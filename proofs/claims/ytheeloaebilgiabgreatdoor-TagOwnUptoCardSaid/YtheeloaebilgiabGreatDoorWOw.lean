/-
  The law TagOwn.
-/
import Derived.Test.YtheeloaebilgiabGreatDoorTOw
import Derived.BigQuiet
import Derived.Deep.QuietTactic
set_option linter.unusedVariables false
set_option linter.unusedSimpArgs false
namespace Go.Proofs.YtheeloaebilgiabGreatDoor
open Go.RowKit Go.Shelf
namespace Tt
open Oc Tg

theorem itoa_natO (n : Nat) : Lib.itoa (n : Int) = Lib.decDigits n := by
  unfold Lib.itoa
  rw [if_neg (by omega), Int.toNat_natCast]
theorem val_digit (d : Nat) (h : d < 10) : valI ((UInt8.ofNat (48 + d)).toNat : Int) = (d : Int) := by
  have e : (UInt8.ofNat (48 + d)).toNat = 48 + d := by rw [UInt8.toNat_ofNat']; omega
  rw [e, valI_d (by omega)]
  omega
theorem num_dec : ∀ u : Nat, numOf 10 (Lib.decDigits u) = (u : Int) := by
  intro u
  induction u using Nat.strongRecOn with
  | _ u ih =>
    by_cases h : u < 10
    · rw [Lib.decDigits_one h]
      show (0 : Int) * 10 + valI _ = _
      rw [val_digit u h]
      omega
    · rw [Lib.decDigits, dif_neg h, numOf_snoc, ih (u / 10) (by omega), val_digit _ (by omega)]
      omega
theorem make_neO {l k : List UInt8} (h : l.length ≠ k.length) : makeL l ≠ makeL k := by
  intro e
  apply h
  unfold makeL at e
  have h1 : (Bs.hexL (b8 (Bs.fnvR l)) ++ [45]).length = (Bs.hexL (b8 (Bs.fnvR k)) ++ [45]).length := by
    rw [List.length_append, List.length_append, Bs.hexL_length, Bs.hexL_length]
    rfl
  have h2 := (List.append_inj e h1).2
  rw [itoa_natO, itoa_natO] at h2
  have h3 := num_dec l.length
  rw [h2, num_dec] at h3
  omega
theorem list_star : listT [42] = ([], true, 0, 0) := by rfl
theorem meets_star (lk : Tg1 → Tg1 → Bool) (s : St) : meetsV lk [42] s = s.th := by
  unfold meetsV
  rw [list_star]
  cases s.th <;> simp
theorem meets_tag (lk : Tg1 → Tg1 → Bool) (t : Tg1) (h : okT t.2 = true) (wk : Bool) (T : List UInt8) : meetsV lk (printT t).1 ⟨true, (wk, T), true, 0, false⟩ = lk t (wk, T) := by
  unfold meetsV
  rw [list_printed t h]
  simp
theorem print_len (t : Tg1) : (printT t).1.length ≤ t.2.length + 4 := by
  unfold printT
  split
  · cases t.1 <;> simp
  · simp

set_option maxRecDepth 100000 in
set_option maxHeartbeats 2000000 in
theorem walk_TagOwn (bo ot me : ByteArray) (wk : Bool) (hbo : bo.size ≤ 1048576) (hot : ot.size ≤ 1048576) (w : World) (hw : Fd.ML w ∧ Pow w) :
    Calls Tryz.prog 4 #[.agg #[.string bo, .string ot, .string me, .bool wk]] w fun e w' => e = .returned (.bool true) ∧ Below w.heap.size w w' := by
  have hlb : bo.data.toList.length = bo.size := size_list bo
  have hlo : ot.data.toList.length = ot.size := size_list ot
  have okb := make_ok bo.data.toList (by omega)
  have oko := make_ok ot.data.toList (by omega)
  have pb := print_len (wk, makeL bo.data.toList)
  have po := print_len (false, makeL ot.data.toList)
  have lb : (makeL bo.data.toList).length ≤ 256 := by
    have := okb
    unfold okT at this
    rw [Bool.and_eq_true, decide_eq_true_iff] at this
    exact this.2
  have lo : (makeL ot.data.toList).length ≤ 256 := by
    have := oko
    unfold okT at this
    rw [Bool.and_eq_true, decide_eq_true_iff] at this
    exact this.2
  dsimp only at pb po
  have ep : (printT (wk, makeL bo.data.toList)).2 = 0 := by unfold printT; rw [if_pos okb]
  have eo : (printT (false, makeL ot.data.toList)).2 = 0 := by unfold printT; rw [if_pos oko]
  have HML : Hid (Fd.ML w) := hw.1
  have HPW : Hid (Pow w) := hw.2
  have HA : Hid (∀ W, Fd.ML W → Calls _ _ _ W _) := fun W h => awake_any W h
  have HMb : Hid (∀ W, Below w.heap.size w W → Calls Tryz.prog 12 #[.string bo, .bool wk] W fun e w' => e = .returned (.agg #[.bool wk, .string (str (makeL bo.data.toList))]) ∧ Below W.heap.size W w') := fun W hb => Make_any bo hbo wk W (HPW.out.below hb (Nat.le_refl _))
  have HMo : Hid (∀ W, Below w.heap.size w W → Calls Tryz.prog 12 #[.string ot, .bool false] W fun e w' => e = .returned (.agg #[.bool false, .string (str (makeL ot.data.toList))]) ∧ Below W.heap.size W w') := fun W hb => Make_any ot hot false W (HPW.out.below hb (Nat.le_refl _))
  have HPb : Hid (∀ W, Calls Tryz.prog 7 #[.agg #[.bool wk, .string (str (makeL bo.data.toList))]] W fun e w' => e = .returned (.tuple #[.string (str (printT (wk, makeL bo.data.toList)).1), .int .i64 0]) ∧ Below W.heap.size W w') := fun W => by
    have h := Print_any wk (str (makeL bo.data.toList)) (by rw [str_size]; omega) W
    rw [str_list, ep] at h
    exact h
  have HPo : Hid (∀ W, Calls Tryz.prog 7 #[.agg #[.bool false, .string (str (makeL ot.data.toList))]] W fun e w' => e = .returned (.tuple #[.string (str (printT (false, makeL ot.data.toList)).1), .int .i64 0]) ∧ Below W.heap.size W w') := fun W => by
    have h := Print_any false (str (makeL ot.data.toList)) (by rw [str_size]; omega) W
    rw [str_list, eo] at h
    exact h
  have D1 : Hid (∀ W, Fd.ML W → Calls Tryz.prog 13 #[.string me, .slice (some ⟨W.heap.size, 0, none⟩) 1 1, .agg #[.bool true, .bool wk, .string (str (makeL bo.data.toList)), .bool true, .int .i64 0, .bool false], .int .i64 0] (W.alloc (.cells #[.string ⟨#[73, 102, 45, 78, 111, 110, 101, 45, 77, 97, 116, 99, 104]⟩, .string (str (printT (wk, makeL bo.data.toList)).1)] 48)) fun e w' => e = .returned (.int .i64 (if readsM me.data.toList = true then 304 else 412)) ∧ Below W.heap.size W w') := fun W hm => by
    have hl : sNone.length + ((printT (wk, makeL bo.data.toList)).1).length ≤ 1000000 := by
      rw [show sNone.length = 13 from rfl]
      omega
    have h := decide_one me sNone ((printT (wk, makeL bo.data.toList)).1) hl ⟨true, (wk, makeL bo.data.toList), true, 0, false⟩ rfl W hm
    rw [match_no, none_one, meets_tag lkA _ okb, show lkA (wk, makeL bo.data.toList) (wk, makeL bo.data.toList) = true by simp [lkA], if_pos rfl] at h
    rw [show decideG 0 0 (if readsM me.data.toList = true then 304 else 412) 0 = (if readsM me.data.toList = true then 304 else 412) by unfold decideG; cases readsM me.data.toList <;> rfl] at h
    exact h
  have D2 : Hid (∀ W, Fd.ML W → Calls Tryz.prog 13 #[.string me, .slice (some ⟨W.heap.size, 0, none⟩) 1 1, .agg #[.bool true, .bool wk, .string (str (makeL bo.data.toList)), .bool true, .int .i64 0, .bool false], .int .i64 0] (W.alloc (.cells #[.string ⟨#[73, 102, 45, 77, 97, 116, 99, 104]⟩, .string (str (printT (wk, makeL bo.data.toList)).1)] 48)) fun e w' => e = .returned (.int .i64 (if wk = true then 412 else 0)) ∧ Below W.heap.size W w') := fun W hm => by
    have hl : sMatch.length + ((printT (wk, makeL bo.data.toList)).1).length ≤ 1000000 := by
      rw [show sMatch.length = 8 from rfl]
      omega
    have h := decide_one me sMatch ((printT (wk, makeL bo.data.toList)).1) hl ⟨true, (wk, makeL bo.data.toList), true, 0, false⟩ rfl W hm
    rw [none_no, match_one, meets_tag lkS _ okb, show lkS (wk, makeL bo.data.toList) (wk, makeL bo.data.toList) = !wk by simp [lkS]] at h
    rw [show decideG (if (!wk) = true then 0 else 412) 0 0 0 = (if wk = true then 412 else 0) by unfold decideG; cases wk <;> rfl] at h
    exact h
  have D3 : Hid (∀ W, Fd.ML W → Calls Tryz.prog 13 #[.string me, .slice (some ⟨W.heap.size, 0, none⟩) 1 1, .agg #[.bool true, .bool wk, .string (str (makeL bo.data.toList)), .bool true, .int .i64 0, .bool false], .int .i64 0] (W.alloc (.cells #[.string ⟨#[73, 102, 45, 77, 97, 116, 99, 104]⟩, .string ⟨#[42]⟩] 48)) fun e w' => e = .returned (.int .i64 0) ∧ Below W.heap.size W w') := fun W hm => by
    have hl : sMatch.length + ([42] : List UInt8).length ≤ 1000000 := by decide
    have h := decide_one me sMatch ([42]) hl ⟨true, (wk, makeL bo.data.toList), true, 0, false⟩ rfl W hm
    rw [none_no, match_one, meets_star, if_pos rfl] at h
    rw [show decideG 0 0 0 0 = 0 from rfl] at h
    exact h
  have D4 : Hid (∀ W, Fd.ML W → Calls Tryz.prog 13 #[.string me, .slice (some ⟨W.heap.size, 0, none⟩) 1 1, .agg #[.bool false, .bool false, .string ⟨#[]⟩, .bool false, .int .i64 0, .bool false], .int .i64 0] (W.alloc (.cells #[.string ⟨#[73, 102, 45, 77, 97, 116, 99, 104]⟩, .string ⟨#[42]⟩] 48)) fun e w' => e = .returned (.int .i64 412) ∧ Below W.heap.size W w') := fun W hm => by
    have hl : sMatch.length + ([42] : List UInt8).length ≤ 1000000 := by decide
    have h := decide_one me sMatch ([42]) hl ⟨false, (false, []), false, 0, false⟩ rfl W hm
    rw [none_no, match_one, meets_star, if_neg (by simp)] at h
    rw [show decideG 412 0 0 0 = 412 from rfl] at h
    exact h
  have D5 : Hid (∀ W, Fd.ML W → Calls Tryz.prog 13 #[.string me, .slice (some ⟨W.heap.size, 0, none⟩) 1 1, .agg #[.bool false, .bool false, .string ⟨#[]⟩, .bool false, .int .i64 0, .bool false], .int .i64 0] (W.alloc (.cells #[.string ⟨#[73, 102, 45, 78, 111, 110, 101, 45, 77, 97, 116, 99, 104]⟩, .string ⟨#[42]⟩] 48)) fun e w' => e = .returned (.int .i64 0) ∧ Below W.heap.size W w') := fun W hm => by
    have hl : sNone.length + ([42] : List UInt8).length ≤ 1000000 := by decide
    have h := decide_one me sNone ([42]) hl ⟨false, (false, []), false, 0, false⟩ rfl W hm
    rw [match_no, none_one, meets_star, if_neg (by simp)] at h
    rw [show decideG 0 0 0 0 = 0 from rfl] at h
    exact h
  have D6 : Hid (∀ W, Fd.ML W → Calls Tryz.prog 13 #[.string me, .slice (some ⟨W.heap.size, 0, none⟩) 1 1, .agg #[.bool true, .bool wk, .string (str (makeL bo.data.toList)), .bool true, .int .i64 0, .bool false], .int .i64 0] (W.alloc (.cells #[.string ⟨#[73, 102, 45, 77, 97, 116, 99, 104]⟩, .string (str (printT (false, makeL ot.data.toList)).1)] 48)) fun e w' => e = .returned (.int .i64 (if lkS (false, makeL ot.data.toList) (wk, makeL bo.data.toList) = true then 0 else 412)) ∧ Below W.heap.size W w') := fun W hm => by
    have hl : sMatch.length + ((printT (false, makeL ot.data.toList)).1).length ≤ 1000000 := by
      rw [show sMatch.length = 8 from rfl]
      omega
    have h := decide_one me sMatch ((printT (false, makeL ot.data.toList)).1) hl ⟨true, (wk, makeL bo.data.toList), true, 0, false⟩ rfl W hm
    rw [none_no, match_one, meets_tag lkS _ oko] at h
    rw [show ∀ q : Bool, decideG (if q = true then 0 else 412) 0 0 0 = (if q = true then 0 else 412) by intro q; unfold decideG; cases q <;> rfl] at h
    exact h
  have HRD : Hid (readsM me.data.toList = ((me.toList == [71, 69, 84]) || (me.toList == [72, 69, 65, 68]))) := by
    show _ = _
    unfold readsM
    have q1 := eq_lit me.data.toList [71, 69, 84]
    have q2 := eq_lit me.data.toList [72, 69, 65, 68]
    rw [str_self] at q1 q2
    rw [q1, q2]
  have HX1 : wk = true ∨ ot.size ≠ bo.size → lkS (false, makeL ot.data.toList) (wk, makeL bo.data.toList) = false := by
    rintro (rfl | h)
    · simp [lkS]
    · have := make_neO (l := ot.data.toList) (k := bo.data.toList) (by omega)
      simp [lkS, this]
  generalize lkS (false, makeL ot.data.toList) (wk, makeL bo.data.toList) = z at *
  generalize readsM me.data.toList = rd at *
  generalize str (printT (wk, makeL bo.data.toList)).1 = PB at *
  generalize str (printT (false, makeL ot.data.toList)).1 = PO at *
  generalize str (makeL bo.data.toList) = TX at *
  generalize str (makeL ot.data.toList) = TO at *
  clear hw ep eo pb po lb lo okb oko hlb hlo
  obtain ⟨wa, hwa⟩ : ∃ wa, wa = w.alloc (.cells #[.string bo, .string ot, .string me, .bool wk] 42) := ⟨_, rfl⟩
  have HBa : Hid (Below w.heap.size w wa) := (by rw [hwa]; exact (Below.refl _ w).alloc (Nat.le_refl _) _ : Below _ _ _)
  have HMa : Hid (Fd.ML wa) := HML.out.below HBa.out
  have j0 : wa.cell? ⟨w.heap.size, 0, none⟩ = some (.string bo) := by rw [hwa]; simp
  have j1 : wa.cell? ⟨w.heap.size, 1, none⟩ = some (.string ot) := by rw [hwa]; simp
  have j2 : wa.cell? ⟨w.heap.size, 2, none⟩ = some (.string me) := by rw [hwa]; simp
  have j3 : wa.cell? ⟨w.heap.size, 3, none⟩ = some (.bool wk) := by rw [hwa]; simp
  go_enter Tryz.func4, Tryz.ntmps4
  go_wp2_with fail
  rw [← hwa]
  clear hwa
  go_quiet (fail)
  go_wp2_with fail
  refine (HA.out _ (by first | exact HMa.out | exact HMa.out.below (Fd.below_drew _ _))).mono ?_
  rintro e w1 ⟨rfl, hb1⟩
  have HB1 : Hid (Below w.heap.size w w1) := (by first | exact bel_trans HBa.out hb1 | exact bel_trans HBa.out (bel_trans (Fd.below_drew _ _) hb1) : Below w.heap.size w w1)
  clear hb1 j0 j1 j2 j3
  go_wp2_with fail
  refine (HMb.out _ HB1.out).mono ?_
  rintro e w2 ⟨rfl, hb2⟩
  obtain ⟨W2, hW2⟩ : ∃ W2, W2 = w2.alloc (.cells #[.bool wk, .string TX] 27) := ⟨_, rfl⟩
  have HB2 : Hid (Below w.heap.size w W2) := (by rw [hW2]; exact (bel_trans HB1.out hb2).alloc (bel_trans HB1.out hb2).size _ : Below _ _ _)
  have m0 : W2.cell? ⟨w2.heap.size, 0, none⟩ = some (.bool wk) := by rw [hW2]; simp
  have m1 : W2.cell? ⟨w2.heap.size, 1, none⟩ = some (.string TX) := by rw [hW2]; simp
  have HM : Hid (∀ W, Below W2.heap.size W2 W → W.cell? ⟨w2.heap.size, 0, none⟩ = some (.bool wk) ∧ W.cell? ⟨w2.heap.size, 1, none⟩ = some (.string TX)) := fun W hB =>
    ⟨by rw [hB.cell (World.block_lt_of_cell? W2 _ m0)]; exact m0, by rw [hB.cell (World.block_lt_of_cell? W2 _ m1)]; exact m1⟩
  clear hb2 m0 m1
  go_wp2_with fail
  rw [← hW2]
  clear hW2
  refine (HPb.out _).mono ?_
  rintro e w3 ⟨rfl, hb3⟩
  have HB3 : Hid (Below w.heap.size w w3) := bel_trans HB2.out hb3
  obtain ⟨n0, n1⟩ := HM.out w3 hb3
  obtain ⟨W3, hW3⟩ : ∃ W3, W3 = w3.alloc (.cells #[.bool true, .bool wk, .string TX, .bool true, .int .i64 0, .bool false] 45) := ⟨_, rfl⟩
  have hz3 : W3.heap.size = w3.heap.size + 1 := by rw [hW3]; simp
  have HBW : Hid (Below w.heap.size w W3) := (by rw [hW3]; exact HB3.out.alloc HB3.out.size _ : Below _ _ _)
  have s0 : W3.cell? ⟨w3.heap.size, 0, none⟩ = some (.bool true) := by rw [hW3]; simp
  have s1 : W3.cell? ⟨w3.heap.size, 1, none⟩ = some (.bool wk) := by rw [hW3]; simp
  have s2 : W3.cell? ⟨w3.heap.size, 2, none⟩ = some (.string TX) := by rw [hW3]; simp
  have s3 : W3.cell? ⟨w3.heap.size, 3, none⟩ = some (.bool true) := by rw [hW3]; simp
  have s4 : W3.cell? ⟨w3.heap.size, 4, none⟩ = some (.int .i64 0) := by rw [hW3]; simp
  have s5 : W3.cell? ⟨w3.heap.size, 5, none⟩ = some (.bool false) := by rw [hW3]; simp
  have HK : Hid (∀ W, Below W3.heap.size W3 W → W.cell? ⟨w3.heap.size, 0, none⟩ = some (.bool true) ∧ W.cell? ⟨w3.heap.size, 1, none⟩ = some (.bool wk) ∧ W.cell? ⟨w3.heap.size, 2, none⟩ = some (.string TX) ∧ W.cell? ⟨w3.heap.size, 3, none⟩ = some (.bool true) ∧ W.cell? ⟨w3.heap.size, 4, none⟩ = some (.int .i64 0) ∧ W.cell? ⟨w3.heap.size, 5, none⟩ = some (.bool false) ∧ w3.heap.size < W.heap.size) := fun W hB =>
    ⟨by rw [hB.cell (World.block_lt_of_cell? W3 _ s0)]; exact s0, by rw [hB.cell (World.block_lt_of_cell? W3 _ s1)]; exact s1, by rw [hB.cell (World.block_lt_of_cell? W3 _ s2)]; exact s2, by rw [hB.cell (World.block_lt_of_cell? W3 _ s3)]; exact s3, by rw [hB.cell (World.block_lt_of_cell? W3 _ s4)]; exact s4, by rw [hB.cell (World.block_lt_of_cell? W3 _ s5)]; exact s5, Nat.lt_of_lt_of_le (World.block_lt_of_cell? W3 _ s0) hB.size⟩
  clear hb3 s0 s1 s2 s3 s4 s5 HM HMb HPb HA
  have hrd := HRD.out
  cases wk with
  | true =>
    have hz : z = false := HX1 (.inl rfl)
    subst hz
    clear HX1
    rcases (show ((me.toList == [71, 69, 84]) = true ∧ rd = true) ∨ ((me.toList == [71, 69, 84]) = false ∧ (me.toList == [72, 69, 65, 68]) = true ∧ rd = true) ∨ ((me.toList == [71, 69, 84]) = false ∧ (me.toList == [72, 69, 65, 68]) = false ∧ rd = false) by
      rw [hrd]
      cases (me.toList == [71, 69, 84]) <;> cases (me.toList == [72, 69, 65, 68]) <;> simp) with ⟨g1, rfl⟩ | ⟨g1, g2, rfl⟩ | ⟨g1, g2, rfl⟩
    · clear hrd HRD
      have E0 : Hid (Below W3.heap.size W3 W3) := Below.refl _ _
      obtain ⟨k0, k1, k2, k3, k4, k5, kl⟩ := HK.out _ E0.out
      rw [hW3] at k0 k1 k2 k3 k4 k5 kl
      go_wp2_with fail
      rw [← hW3, ← hz3]
      clear hW3 hz3
      refine (D1.out _ (HML.out.below (HBW.out.trans (E0.out.mono HBW.out.size)))).mono ?_
      rintro e E1w ⟨rfl, hb⟩
      have E1 : Hid (Below W3.heap.size W3 E1w) := bel_trans E0.out hb
      clear hb
      clear k0 k1 k2 k3 k4 k5 kl
      obtain ⟨k0, k1, k2, k3, k4, k5, kl⟩ := HK.out _ E1.out
      go_wp2_with fail
      refine (D2.out _ (HML.out.below (HBW.out.trans (E1.out.mono HBW.out.size)))).mono ?_
      rintro e E2w ⟨rfl, hb⟩
      have E2 : Hid (Below W3.heap.size W3 E2w) := bel_trans E1.out hb
      clear hb
      clear k0 k1 k2 k3 k4 k5 kl
      obtain ⟨k0, k1, k2, k3, k4, k5, kl⟩ := HK.out _ E2.out
      go_wp2_with fail
      refine (D3.out _ (HML.out.below (HBW.out.trans (E2.out.mono HBW.out.size)))).mono ?_
      rintro e E3w ⟨rfl, hb⟩
      have E3 : Hid (Below W3.heap.size W3 E3w) := bel_trans E2.out hb
      clear hb
      clear k0 k1 k2 k3 k4 k5 kl
      obtain ⟨k0, k1, k2, k3, k4, k5, kl⟩ := HK.out _ E3.out
      go_wp2_with fail
      refine (D4.out _ (HML.out.below (HBW.out.trans (E3.out.mono HBW.out.size)))).mono ?_
      rintro e E4w ⟨rfl, hb⟩
      have E4 : Hid (Below W3.heap.size W3 E4w) := bel_trans E3.out hb
      clear hb
      clear k0 k1 k2 k3 k4 k5 kl
      obtain ⟨k0, k1, k2, k3, k4, k5, kl⟩ := HK.out _ E4.out
      go_wp2_with fail
      refine (D5.out _ (HML.out.below (HBW.out.trans (E4.out.mono HBW.out.size)))).mono ?_
      rintro e E5w ⟨rfl, hb⟩
      have E5 : Hid (Below W3.heap.size W3 E5w) := bel_trans E4.out hb
      clear hb
      clear k0 k1 k2 k3 k4 k5 kl
      obtain ⟨k0, k1, k2, k3, k4, k5, kl⟩ := HK.out _ E5.out
      go_wp2_with fail
      refine (HMo.out _ (HBW.out.trans (E5.out.mono HBW.out.size))).mono ?_
      rintro e E6w ⟨rfl, hb⟩
      have E6 : Hid (Below W3.heap.size W3 E6w) := bel_trans E5.out hb
      clear hb
      go_wp2_with fail
      refine (HPo.out _).mono ?_
      rintro e E7w ⟨rfl, hb⟩
      have E7 : Hid (Below W3.heap.size W3 E7w) := bel_trans E6.out hb
      clear hb
      clear k0 k1 k2 k3 k4 k5 kl
      obtain ⟨k0, k1, k2, k3, k4, k5, kl⟩ := HK.out _ E7.out
      by_cases hpq : (PO.toList == PB.toList) = true
      · go_wp2
        go_ret
        exact ⟨ret_bool (by simp), HBW.out.trans (E7.out.mono HBW.out.size)⟩
      · have hpq2 : (PO.toList == PB.toList) = false := by simpa using hpq
        clear hpq
        go_wp2_with fail
        refine (D6.out _ (HML.out.below (HBW.out.trans (E7.out.mono HBW.out.size)))).mono ?_
        rintro e E8w ⟨rfl, hb⟩
        have E8 : Hid (Below W3.heap.size W3 E8w) := bel_trans E7.out hb
        clear hb
        clear k0 k1 k2 k3 k4 k5 kl
        obtain ⟨k0, k1, k2, k3, k4, k5, kl⟩ := HK.out _ E8.out
        go_wp2
        go_ret
        exact ⟨ret_bool (by simp), HBW.out.trans (E8.out.mono HBW.out.size)⟩
    · clear hrd HRD
      have E0 : Hid (Below W3.heap.size W3 W3) := Below.refl _ _
      obtain ⟨k0, k1, k2, k3, k4, k5, kl⟩ := HK.out _ E0.out
      rw [hW3] at k0 k1 k2 k3 k4 k5 kl
      go_wp2_with fail
      rw [← hW3, ← hz3]
      clear hW3 hz3
      refine (D1.out _ (HML.out.below (HBW.out.trans (E0.out.mono HBW.out.size)))).mono ?_
      rintro e E1w ⟨rfl, hb⟩
      have E1 : Hid (Below W3.heap.size W3 E1w) := bel_trans E0.out hb
      clear hb
      clear k0 k1 k2 k3 k4 k5 kl
      obtain ⟨k0, k1, k2, k3, k4, k5, kl⟩ := HK.out _ E1.out
      go_wp2_with fail
      refine (D2.out _ (HML.out.below (HBW.out.trans (E1.out.mono HBW.out.size)))).mono ?_
      rintro e E2w ⟨rfl, hb⟩
      have E2 : Hid (Below W3.heap.size W3 E2w) := bel_trans E1.out hb
      clear hb
      clear k0 k1 k2 k3 k4 k5 kl
      obtain ⟨k0, k1, k2, k3, k4, k5, kl⟩ := HK.out _ E2.out
      go_wp2_with fail
      refine (D3.out _ (HML.out.below (HBW.out.trans (E2.out.mono HBW.out.size)))).mono ?_
      rintro e E3w ⟨rfl, hb⟩
      have E3 : Hid (Below W3.heap.size W3 E3w) := bel_trans E2.out hb
      clear hb
      clear k0 k1 k2 k3 k4 k5 kl
      obtain ⟨k0, k1, k2, k3, k4, k5, kl⟩ := HK.out _ E3.out
      go_wp2_with fail
      refine (D4.out _ (HML.out.below (HBW.out.trans (E3.out.mono HBW.out.size)))).mono ?_
      rintro e E4w ⟨rfl, hb⟩
      have E4 : Hid (Below W3.heap.size W3 E4w) := bel_trans E3.out hb
      clear hb
      clear k0 k1 k2 k3 k4 k5 kl
      obtain ⟨k0, k1, k2, k3, k4, k5, kl⟩ := HK.out _ E4.out
      go_wp2_with fail
      refine (D5.out _ (HML.out.below (HBW.out.trans (E4.out.mono HBW.out.size)))).mono ?_
      rintro e E5w ⟨rfl, hb⟩
      have E5 : Hid (Below W3.heap.size W3 E5w) := bel_trans E4.out hb
      clear hb
      clear k0 k1 k2 k3 k4 k5 kl
      obtain ⟨k0, k1, k2, k3, k4, k5, kl⟩ := HK.out _ E5.out
      go_wp2_with fail
      refine (HMo.out _ (HBW.out.trans (E5.out.mono HBW.out.size))).mono ?_
      rintro e E6w ⟨rfl, hb⟩
      have E6 : Hid (Below W3.heap.size W3 E6w) := bel_trans E5.out hb
      clear hb
      go_wp2_with fail
      refine (HPo.out _).mono ?_
      rintro e E7w ⟨rfl, hb⟩
      have E7 : Hid (Below W3.heap.size W3 E7w) := bel_trans E6.out hb
      clear hb
      clear k0 k1 k2 k3 k4 k5 kl
      obtain ⟨k0, k1, k2, k3, k4, k5, kl⟩ := HK.out _ E7.out
      by_cases hpq : (PO.toList == PB.toList) = true
      · go_wp2
        go_ret
        exact ⟨ret_bool (by simp), HBW.out.trans (E7.out.mono HBW.out.size)⟩
      · have hpq2 : (PO.toList == PB.toList) = false := by simpa using hpq
        clear hpq
        go_wp2_with fail
        refine (D6.out _ (HML.out.below (HBW.out.trans (E7.out.mono HBW.out.size)))).mono ?_
        rintro e E8w ⟨rfl, hb⟩
        have E8 : Hid (Below W3.heap.size W3 E8w) := bel_trans E7.out hb
        clear hb
        clear k0 k1 k2 k3 k4 k5 kl
        obtain ⟨k0, k1, k2, k3, k4, k5, kl⟩ := HK.out _ E8.out
        go_wp2
        go_ret
        exact ⟨ret_bool (by simp), HBW.out.trans (E8.out.mono HBW.out.size)⟩
    · clear hrd HRD
      have E0 : Hid (Below W3.heap.size W3 W3) := Below.refl _ _
      obtain ⟨k0, k1, k2, k3, k4, k5, kl⟩ := HK.out _ E0.out
      rw [hW3] at k0 k1 k2 k3 k4 k5 kl
      go_wp2_with fail
      rw [← hW3, ← hz3]
      clear hW3 hz3
      refine (D1.out _ (HML.out.below (HBW.out.trans (E0.out.mono HBW.out.size)))).mono ?_
      rintro e E1w ⟨rfl, hb⟩
      have E1 : Hid (Below W3.heap.size W3 E1w) := bel_trans E0.out hb
      clear hb
      clear k0 k1 k2 k3 k4 k5 kl
      obtain ⟨k0, k1, k2, k3, k4, k5, kl⟩ := HK.out _ E1.out
      go_wp2_with fail
      refine (D2.out _ (HML.out.below (HBW.out.trans (E1.out.mono HBW.out.size)))).mono ?_
      rintro e E2w ⟨rfl, hb⟩
      have E2 : Hid (Below W3.heap.size W3 E2w) := bel_trans E1.out hb
      clear hb
      clear k0 k1 k2 k3 k4 k5 kl
      obtain ⟨k0, k1, k2, k3, k4, k5, kl⟩ := HK.out _ E2.out
      go_wp2_with fail
      refine (D3.out _ (HML.out.below (HBW.out.trans (E2.out.mono HBW.out.size)))).mono ?_
      rintro e E3w ⟨rfl, hb⟩
      have E3 : Hid (Below W3.heap.size W3 E3w) := bel_trans E2.out hb
      clear hb
      clear k0 k1 k2 k3 k4 k5 kl
      obtain ⟨k0, k1, k2, k3, k4, k5, kl⟩ := HK.out _ E3.out
      go_wp2_with fail
      refine (D4.out _ (HML.out.below (HBW.out.trans (E3.out.mono HBW.out.size)))).mono ?_
      rintro e E4w ⟨rfl, hb⟩
      have E4 : Hid (Below W3.heap.size W3 E4w) := bel_trans E3.out hb
      clear hb
      clear k0 k1 k2 k3 k4 k5 kl
      obtain ⟨k0, k1, k2, k3, k4, k5, kl⟩ := HK.out _ E4.out
      go_wp2_with fail
      refine (D5.out _ (HML.out.below (HBW.out.trans (E4.out.mono HBW.out.size)))).mono ?_
      rintro e E5w ⟨rfl, hb⟩
      have E5 : Hid (Below W3.heap.size W3 E5w) := bel_trans E4.out hb
      clear hb
      clear k0 k1 k2 k3 k4 k5 kl
      obtain ⟨k0, k1, k2, k3, k4, k5, kl⟩ := HK.out _ E5.out
      go_wp2_with fail
      refine (HMo.out _ (HBW.out.trans (E5.out.mono HBW.out.size))).mono ?_
      rintro e E6w ⟨rfl, hb⟩
      have E6 : Hid (Below W3.heap.size W3 E6w) := bel_trans E5.out hb
      clear hb
      go_wp2_with fail
      refine (HPo.out _).mono ?_
      rintro e E7w ⟨rfl, hb⟩
      have E7 : Hid (Below W3.heap.size W3 E7w) := bel_trans E6.out hb
      clear hb
      clear k0 k1 k2 k3 k4 k5 kl
      obtain ⟨k0, k1, k2, k3, k4, k5, kl⟩ := HK.out _ E7.out
      by_cases hpq : (PO.toList == PB.toList) = true
      · go_wp2
        go_ret
        exact ⟨ret_bool (by simp), HBW.out.trans (E7.out.mono HBW.out.size)⟩
      · have hpq2 : (PO.toList == PB.toList) = false := by simpa using hpq
        clear hpq
        go_wp2_with fail
        refine (D6.out _ (HML.out.below (HBW.out.trans (E7.out.mono HBW.out.size)))).mono ?_
        rintro e E8w ⟨rfl, hb⟩
        have E8 : Hid (Below W3.heap.size W3 E8w) := bel_trans E7.out hb
        clear hb
        clear k0 k1 k2 k3 k4 k5 kl
        obtain ⟨k0, k1, k2, k3, k4, k5, kl⟩ := HK.out _ E8.out
        go_wp2
        go_ret
        exact ⟨ret_bool (by simp), HBW.out.trans (E8.out.mono HBW.out.size)⟩
  | false =>
    by_cases hsz : ot.size = bo.size
    · clear HX1
      have hq : ((ot.size : Int) != (bo.size : Int)) = false := by simp; omega
      rcases (show ((me.toList == [71, 69, 84]) = true ∧ rd = true) ∨ ((me.toList == [71, 69, 84]) = false ∧ (me.toList == [72, 69, 65, 68]) = true ∧ rd = true) ∨ ((me.toList == [71, 69, 84]) = false ∧ (me.toList == [72, 69, 65, 68]) = false ∧ rd = false) by
        rw [hrd]
        cases (me.toList == [71, 69, 84]) <;> cases (me.toList == [72, 69, 65, 68]) <;> simp) with ⟨g1, rfl⟩ | ⟨g1, g2, rfl⟩ | ⟨g1, g2, rfl⟩
      · clear hrd HRD
        have E0 : Hid (Below W3.heap.size W3 W3) := Below.refl _ _
        obtain ⟨k0, k1, k2, k3, k4, k5, kl⟩ := HK.out _ E0.out
        rw [hW3] at k0 k1 k2 k3 k4 k5 kl
        go_wp2_with fail
        rw [← hW3, ← hz3]
        clear hW3 hz3
        refine (D1.out _ (HML.out.below (HBW.out.trans (E0.out.mono HBW.out.size)))).mono ?_
        rintro e E1w ⟨rfl, hb⟩
        have E1 : Hid (Below W3.heap.size W3 E1w) := bel_trans E0.out hb
        clear hb
        clear k0 k1 k2 k3 k4 k5 kl
        obtain ⟨k0, k1, k2, k3, k4, k5, kl⟩ := HK.out _ E1.out
        go_wp2_with fail
        refine (D2.out _ (HML.out.below (HBW.out.trans (E1.out.mono HBW.out.size)))).mono ?_
        rintro e E2w ⟨rfl, hb⟩
        have E2 : Hid (Below W3.heap.size W3 E2w) := bel_trans E1.out hb
        clear hb
        clear k0 k1 k2 k3 k4 k5 kl
        obtain ⟨k0, k1, k2, k3, k4, k5, kl⟩ := HK.out _ E2.out
        go_wp2_with fail
        refine (D3.out _ (HML.out.below (HBW.out.trans (E2.out.mono HBW.out.size)))).mono ?_
        rintro e E3w ⟨rfl, hb⟩
        have E3 : Hid (Below W3.heap.size W3 E3w) := bel_trans E2.out hb
        clear hb
        clear k0 k1 k2 k3 k4 k5 kl
        obtain ⟨k0, k1, k2, k3, k4, k5, kl⟩ := HK.out _ E3.out
        go_wp2_with fail
        refine (D4.out _ (HML.out.below (HBW.out.trans (E3.out.mono HBW.out.size)))).mono ?_
        rintro e E4w ⟨rfl, hb⟩
        have E4 : Hid (Below W3.heap.size W3 E4w) := bel_trans E3.out hb
        clear hb
        clear k0 k1 k2 k3 k4 k5 kl
        obtain ⟨k0, k1, k2, k3, k4, k5, kl⟩ := HK.out _ E4.out
        go_wp2_with fail
        refine (D5.out _ (HML.out.below (HBW.out.trans (E4.out.mono HBW.out.size)))).mono ?_
        rintro e E5w ⟨rfl, hb⟩
        have E5 : Hid (Below W3.heap.size W3 E5w) := bel_trans E4.out hb
        clear hb
        clear k0 k1 k2 k3 k4 k5 kl
        obtain ⟨k0, k1, k2, k3, k4, k5, kl⟩ := HK.out _ E5.out
        go_wp2_with fail
        refine (HMo.out _ (HBW.out.trans (E5.out.mono HBW.out.size))).mono ?_
        rintro e E6w ⟨rfl, hb⟩
        have E6 : Hid (Below W3.heap.size W3 E6w) := bel_trans E5.out hb
        clear hb
        go_wp2_with fail
        refine (HPo.out _).mono ?_
        rintro e E7w ⟨rfl, hb⟩
        have E7 : Hid (Below W3.heap.size W3 E7w) := bel_trans E6.out hb
        clear hb
        clear k0 k1 k2 k3 k4 k5 kl
        obtain ⟨k0, k1, k2, k3, k4, k5, kl⟩ := HK.out _ E7.out
        by_cases hpq : (PO.toList == PB.toList) = true
        · go_wp2
          go_ret
          exact ⟨ret_bool (by simp), HBW.out.trans (E7.out.mono HBW.out.size)⟩
        · have hpq2 : (PO.toList == PB.toList) = false := by simpa using hpq
          clear hpq
          go_wp2_with fail
          refine (D6.out _ (HML.out.below (HBW.out.trans (E7.out.mono HBW.out.size)))).mono ?_
          rintro e E8w ⟨rfl, hb⟩
          have E8 : Hid (Below W3.heap.size W3 E8w) := bel_trans E7.out hb
          clear hb
          clear k0 k1 k2 k3 k4 k5 kl
          obtain ⟨k0, k1, k2, k3, k4, k5, kl⟩ := HK.out _ E8.out
          cases z with
          | true =>
            go_wp2
            go_ret
            exact ⟨ret_bool (by simp), HBW.out.trans (E8.out.mono HBW.out.size)⟩
          | false =>
            go_wp2
            go_ret
            exact ⟨ret_bool (by simp), HBW.out.trans (E8.out.mono HBW.out.size)⟩
      · clear hrd HRD
        have E0 : Hid (Below W3.heap.size W3 W3) := Below.refl _ _
        obtain ⟨k0, k1, k2, k3, k4, k5, kl⟩ := HK.out _ E0.out
        rw [hW3] at k0 k1 k2 k3 k4 k5 kl
        go_wp2_with fail
        rw [← hW3, ← hz3]
        clear hW3 hz3
        refine (D1.out _ (HML.out.below (HBW.out.trans (E0.out.mono HBW.out.size)))).mono ?_
        rintro e E1w ⟨rfl, hb⟩
        have E1 : Hid (Below W3.heap.size W3 E1w) := bel_trans E0.out hb
        clear hb
        clear k0 k1 k2 k3 k4 k5 kl
        obtain ⟨k0, k1, k2, k3, k4, k5, kl⟩ := HK.out _ E1.out
        go_wp2_with fail
        refine (D2.out _ (HML.out.below (HBW.out.trans (E1.out.mono HBW.out.size)))).mono ?_
        rintro e E2w ⟨rfl, hb⟩
        have E2 : Hid (Below W3.heap.size W3 E2w) := bel_trans E1.out hb
        clear hb
        clear k0 k1 k2 k3 k4 k5 kl
        obtain ⟨k0, k1, k2, k3, k4, k5, kl⟩ := HK.out _ E2.out
        go_wp2_with fail
        refine (D3.out _ (HML.out.below (HBW.out.trans (E2.out.mono HBW.out.size)))).mono ?_
        rintro e E3w ⟨rfl, hb⟩
        have E3 : Hid (Below W3.heap.size W3 E3w) := bel_trans E2.out hb
        clear hb
        clear k0 k1 k2 k3 k4 k5 kl
        obtain ⟨k0, k1, k2, k3, k4, k5, kl⟩ := HK.out _ E3.out
        go_wp2_with fail
        refine (D4.out _ (HML.out.below (HBW.out.trans (E3.out.mono HBW.out.size)))).mono ?_
        rintro e E4w ⟨rfl, hb⟩
        have E4 : Hid (Below W3.heap.size W3 E4w) := bel_trans E3.out hb
        clear hb
        clear k0 k1 k2 k3 k4 k5 kl
        obtain ⟨k0, k1, k2, k3, k4, k5, kl⟩ := HK.out _ E4.out
        go_wp2_with fail
        refine (D5.out _ (HML.out.below (HBW.out.trans (E4.out.mono HBW.out.size)))).mono ?_
        rintro e E5w ⟨rfl, hb⟩
        have E5 : Hid (Below W3.heap.size W3 E5w) := bel_trans E4.out hb
        clear hb
        clear k0 k1 k2 k3 k4 k5 kl
        obtain ⟨k0, k1, k2, k3, k4, k5, kl⟩ := HK.out _ E5.out
        go_wp2_with fail
        refine (HMo.out _ (HBW.out.trans (E5.out.mono HBW.out.size))).mono ?_
        rintro e E6w ⟨rfl, hb⟩
        have E6 : Hid (Below W3.heap.size W3 E6w) := bel_trans E5.out hb
        clear hb
        go_wp2_with fail
        refine (HPo.out _).mono ?_
        rintro e E7w ⟨rfl, hb⟩
        have E7 : Hid (Below W3.heap.size W3 E7w) := bel_trans E6.out hb
        clear hb
        clear k0 k1 k2 k3 k4 k5 kl
        obtain ⟨k0, k1, k2, k3, k4, k5, kl⟩ := HK.out _ E7.out
        by_cases hpq : (PO.toList == PB.toList) = true
        · go_wp2
          go_ret
          exact ⟨ret_bool (by simp), HBW.out.trans (E7.out.mono HBW.out.size)⟩
        · have hpq2 : (PO.toList == PB.toList) = false := by simpa using hpq
          clear hpq
          go_wp2_with fail
          refine (D6.out _ (HML.out.below (HBW.out.trans (E7.out.mono HBW.out.size)))).mono ?_
          rintro e E8w ⟨rfl, hb⟩
          have E8 : Hid (Below W3.heap.size W3 E8w) := bel_trans E7.out hb
          clear hb
          clear k0 k1 k2 k3 k4 k5 kl
          obtain ⟨k0, k1, k2, k3, k4, k5, kl⟩ := HK.out _ E8.out
          cases z with
          | true =>
            go_wp2
            go_ret
            exact ⟨ret_bool (by simp), HBW.out.trans (E8.out.mono HBW.out.size)⟩
          | false =>
            go_wp2
            go_ret
            exact ⟨ret_bool (by simp), HBW.out.trans (E8.out.mono HBW.out.size)⟩
      · clear hrd HRD
        have E0 : Hid (Below W3.heap.size W3 W3) := Below.refl _ _
        obtain ⟨k0, k1, k2, k3, k4, k5, kl⟩ := HK.out _ E0.out
        rw [hW3] at k0 k1 k2 k3 k4 k5 kl
        go_wp2_with fail
        rw [← hW3, ← hz3]
        clear hW3 hz3
        refine (D1.out _ (HML.out.below (HBW.out.trans (E0.out.mono HBW.out.size)))).mono ?_
        rintro e E1w ⟨rfl, hb⟩
        have E1 : Hid (Below W3.heap.size W3 E1w) := bel_trans E0.out hb
        clear hb
        clear k0 k1 k2 k3 k4 k5 kl
        obtain ⟨k0, k1, k2, k3, k4, k5, kl⟩ := HK.out _ E1.out
        go_wp2_with fail
        refine (D2.out _ (HML.out.below (HBW.out.trans (E1.out.mono HBW.out.size)))).mono ?_
        rintro e E2w ⟨rfl, hb⟩
        have E2 : Hid (Below W3.heap.size W3 E2w) := bel_trans E1.out hb
        clear hb
        clear k0 k1 k2 k3 k4 k5 kl
        obtain ⟨k0, k1, k2, k3, k4, k5, kl⟩ := HK.out _ E2.out
        go_wp2_with fail
        refine (D3.out _ (HML.out.below (HBW.out.trans (E2.out.mono HBW.out.size)))).mono ?_
        rintro e E3w ⟨rfl, hb⟩
        have E3 : Hid (Below W3.heap.size W3 E3w) := bel_trans E2.out hb
        clear hb
        clear k0 k1 k2 k3 k4 k5 kl
        obtain ⟨k0, k1, k2, k3, k4, k5, kl⟩ := HK.out _ E3.out
        go_wp2_with fail
        refine (D4.out _ (HML.out.below (HBW.out.trans (E3.out.mono HBW.out.size)))).mono ?_
        rintro e E4w ⟨rfl, hb⟩
        have E4 : Hid (Below W3.heap.size W3 E4w) := bel_trans E3.out hb
        clear hb
        clear k0 k1 k2 k3 k4 k5 kl
        obtain ⟨k0, k1, k2, k3, k4, k5, kl⟩ := HK.out _ E4.out
        go_wp2_with fail
        refine (D5.out _ (HML.out.below (HBW.out.trans (E4.out.mono HBW.out.size)))).mono ?_
        rintro e E5w ⟨rfl, hb⟩
        have E5 : Hid (Below W3.heap.size W3 E5w) := bel_trans E4.out hb
        clear hb
        clear k0 k1 k2 k3 k4 k5 kl
        obtain ⟨k0, k1, k2, k3, k4, k5, kl⟩ := HK.out _ E5.out
        go_wp2_with fail
        refine (HMo.out _ (HBW.out.trans (E5.out.mono HBW.out.size))).mono ?_
        rintro e E6w ⟨rfl, hb⟩
        have E6 : Hid (Below W3.heap.size W3 E6w) := bel_trans E5.out hb
        clear hb
        go_wp2_with fail
        refine (HPo.out _).mono ?_
        rintro e E7w ⟨rfl, hb⟩
        have E7 : Hid (Below W3.heap.size W3 E7w) := bel_trans E6.out hb
        clear hb
        clear k0 k1 k2 k3 k4 k5 kl
        obtain ⟨k0, k1, k2, k3, k4, k5, kl⟩ := HK.out _ E7.out
        by_cases hpq : (PO.toList == PB.toList) = true
        · go_wp2
          go_ret
          exact ⟨ret_bool (by simp), HBW.out.trans (E7.out.mono HBW.out.size)⟩
        · have hpq2 : (PO.toList == PB.toList) = false := by simpa using hpq
          clear hpq
          go_wp2_with fail
          refine (D6.out _ (HML.out.below (HBW.out.trans (E7.out.mono HBW.out.size)))).mono ?_
          rintro e E8w ⟨rfl, hb⟩
          have E8 : Hid (Below W3.heap.size W3 E8w) := bel_trans E7.out hb
          clear hb
          clear k0 k1 k2 k3 k4 k5 kl
          obtain ⟨k0, k1, k2, k3, k4, k5, kl⟩ := HK.out _ E8.out
          cases z with
          | true =>
            go_wp2
            go_ret
            exact ⟨ret_bool (by simp), HBW.out.trans (E8.out.mono HBW.out.size)⟩
          | false =>
            go_wp2
            go_ret
            exact ⟨ret_bool (by simp), HBW.out.trans (E8.out.mono HBW.out.size)⟩
    · have hz : z = false := HX1 (.inr hsz)
      subst hz
      clear HX1
      have hq : ((ot.size : Int) != (bo.size : Int)) = true := by simp; omega
      rcases (show ((me.toList == [71, 69, 84]) = true ∧ rd = true) ∨ ((me.toList == [71, 69, 84]) = false ∧ (me.toList == [72, 69, 65, 68]) = true ∧ rd = true) ∨ ((me.toList == [71, 69, 84]) = false ∧ (me.toList == [72, 69, 65, 68]) = false ∧ rd = false) by
        rw [hrd]
        cases (me.toList == [71, 69, 84]) <;> cases (me.toList == [72, 69, 65, 68]) <;> simp) with ⟨g1, rfl⟩ | ⟨g1, g2, rfl⟩ | ⟨g1, g2, rfl⟩
      · clear hrd HRD
        have E0 : Hid (Below W3.heap.size W3 W3) := Below.refl _ _
        obtain ⟨k0, k1, k2, k3, k4, k5, kl⟩ := HK.out _ E0.out
        rw [hW3] at k0 k1 k2 k3 k4 k5 kl
        go_wp2_with fail
        rw [← hW3, ← hz3]
        clear hW3 hz3
        refine (D1.out _ (HML.out.below (HBW.out.trans (E0.out.mono HBW.out.size)))).mono ?_
        rintro e E1w ⟨rfl, hb⟩
        have E1 : Hid (Below W3.heap.size W3 E1w) := bel_trans E0.out hb
        clear hb
        clear k0 k1 k2 k3 k4 k5 kl
        obtain ⟨k0, k1, k2, k3, k4, k5, kl⟩ := HK.out _ E1.out
        go_wp2_with fail
        refine (D2.out _ (HML.out.below (HBW.out.trans (E1.out.mono HBW.out.size)))).mono ?_
        rintro e E2w ⟨rfl, hb⟩
        have E2 : Hid (Below W3.heap.size W3 E2w) := bel_trans E1.out hb
        clear hb
        clear k0 k1 k2 k3 k4 k5 kl
        obtain ⟨k0, k1, k2, k3, k4, k5, kl⟩ := HK.out _ E2.out
        go_wp2_with fail
        refine (D3.out _ (HML.out.below (HBW.out.trans (E2.out.mono HBW.out.size)))).mono ?_
        rintro e E3w ⟨rfl, hb⟩
        have E3 : Hid (Below W3.heap.size W3 E3w) := bel_trans E2.out hb
        clear hb
        clear k0 k1 k2 k3 k4 k5 kl
        obtain ⟨k0, k1, k2, k3, k4, k5, kl⟩ := HK.out _ E3.out
        go_wp2_with fail
        refine (D4.out _ (HML.out.below (HBW.out.trans (E3.out.mono HBW.out.size)))).mono ?_
        rintro e E4w ⟨rfl, hb⟩
        have E4 : Hid (Below W3.heap.size W3 E4w) := bel_trans E3.out hb
        clear hb
        clear k0 k1 k2 k3 k4 k5 kl
        obtain ⟨k0, k1, k2, k3, k4, k5, kl⟩ := HK.out _ E4.out
        go_wp2_with fail
        refine (D5.out _ (HML.out.below (HBW.out.trans (E4.out.mono HBW.out.size)))).mono ?_
        rintro e E5w ⟨rfl, hb⟩
        have E5 : Hid (Below W3.heap.size W3 E5w) := bel_trans E4.out hb
        clear hb
        clear k0 k1 k2 k3 k4 k5 kl
        obtain ⟨k0, k1, k2, k3, k4, k5, kl⟩ := HK.out _ E5.out
        go_wp2_with fail
        refine (HMo.out _ (HBW.out.trans (E5.out.mono HBW.out.size))).mono ?_
        rintro e E6w ⟨rfl, hb⟩
        have E6 : Hid (Below W3.heap.size W3 E6w) := bel_trans E5.out hb
        clear hb
        go_wp2_with fail
        refine (HPo.out _).mono ?_
        rintro e E7w ⟨rfl, hb⟩
        have E7 : Hid (Below W3.heap.size W3 E7w) := bel_trans E6.out hb
        clear hb
        clear k0 k1 k2 k3 k4 k5 kl
        obtain ⟨k0, k1, k2, k3, k4, k5, kl⟩ := HK.out _ E7.out
        by_cases hpq : (PO.toList == PB.toList) = true
        · go_wp2
          go_ret
          exact ⟨ret_bool (by simp), HBW.out.trans (E7.out.mono HBW.out.size)⟩
        · have hpq2 : (PO.toList == PB.toList) = false := by simpa using hpq
          clear hpq
          go_wp2_with fail
          refine (D6.out _ (HML.out.below (HBW.out.trans (E7.out.mono HBW.out.size)))).mono ?_
          rintro e E8w ⟨rfl, hb⟩
          have E8 : Hid (Below W3.heap.size W3 E8w) := bel_trans E7.out hb
          clear hb
          clear k0 k1 k2 k3 k4 k5 kl
          obtain ⟨k0, k1, k2, k3, k4, k5, kl⟩ := HK.out _ E8.out
          go_wp2
          go_ret
          exact ⟨ret_bool (by simp), HBW.out.trans (E8.out.mono HBW.out.size)⟩
      · clear hrd HRD
        have E0 : Hid (Below W3.heap.size W3 W3) := Below.refl _ _
        obtain ⟨k0, k1, k2, k3, k4, k5, kl⟩ := HK.out _ E0.out
        rw [hW3] at k0 k1 k2 k3 k4 k5 kl
        go_wp2_with fail
        rw [← hW3, ← hz3]
        clear hW3 hz3
        refine (D1.out _ (HML.out.below (HBW.out.trans (E0.out.mono HBW.out.size)))).mono ?_
        rintro e E1w ⟨rfl, hb⟩
        have E1 : Hid (Below W3.heap.size W3 E1w) := bel_trans E0.out hb
        clear hb
        clear k0 k1 k2 k3 k4 k5 kl
        obtain ⟨k0, k1, k2, k3, k4, k5, kl⟩ := HK.out _ E1.out
        go_wp2_with fail
        refine (D2.out _ (HML.out.below (HBW.out.trans (E1.out.mono HBW.out.size)))).mono ?_
        rintro e E2w ⟨rfl, hb⟩
        have E2 : Hid (Below W3.heap.size W3 E2w) := bel_trans E1.out hb
        clear hb
        clear k0 k1 k2 k3 k4 k5 kl
        obtain ⟨k0, k1, k2, k3, k4, k5, kl⟩ := HK.out _ E2.out
        go_wp2_with fail
        refine (D3.out _ (HML.out.below (HBW.out.trans (E2.out.mono HBW.out.size)))).mono ?_
        rintro e E3w ⟨rfl, hb⟩
        have E3 : Hid (Below W3.heap.size W3 E3w) := bel_trans E2.out hb
        clear hb
        clear k0 k1 k2 k3 k4 k5 kl
        obtain ⟨k0, k1, k2, k3, k4, k5, kl⟩ := HK.out _ E3.out
        go_wp2_with fail
        refine (D4.out _ (HML.out.below (HBW.out.trans (E3.out.mono HBW.out.size)))).mono ?_
        rintro e E4w ⟨rfl, hb⟩
        have E4 : Hid (Below W3.heap.size W3 E4w) := bel_trans E3.out hb
        clear hb
        clear k0 k1 k2 k3 k4 k5 kl
        obtain ⟨k0, k1, k2, k3, k4, k5, kl⟩ := HK.out _ E4.out
        go_wp2_with fail
        refine (D5.out _ (HML.out.below (HBW.out.trans (E4.out.mono HBW.out.size)))).mono ?_
        rintro e E5w ⟨rfl, hb⟩
        have E5 : Hid (Below W3.heap.size W3 E5w) := bel_trans E4.out hb
        clear hb
        clear k0 k1 k2 k3 k4 k5 kl
        obtain ⟨k0, k1, k2, k3, k4, k5, kl⟩ := HK.out _ E5.out
        go_wp2_with fail
        refine (HMo.out _ (HBW.out.trans (E5.out.mono HBW.out.size))).mono ?_
        rintro e E6w ⟨rfl, hb⟩
        have E6 : Hid (Below W3.heap.size W3 E6w) := bel_trans E5.out hb
        clear hb
        go_wp2_with fail
        refine (HPo.out _).mono ?_
        rintro e E7w ⟨rfl, hb⟩
        have E7 : Hid (Below W3.heap.size W3 E7w) := bel_trans E6.out hb
        clear hb
        clear k0 k1 k2 k3 k4 k5 kl
        obtain ⟨k0, k1, k2, k3, k4, k5, kl⟩ := HK.out _ E7.out
        by_cases hpq : (PO.toList == PB.toList) = true
        · go_wp2
          go_ret
          exact ⟨ret_bool (by simp), HBW.out.trans (E7.out.mono HBW.out.size)⟩
        · have hpq2 : (PO.toList == PB.toList) = false := by simpa using hpq
          clear hpq
          go_wp2_with fail
          refine (D6.out _ (HML.out.below (HBW.out.trans (E7.out.mono HBW.out.size)))).mono ?_
          rintro e E8w ⟨rfl, hb⟩
          have E8 : Hid (Below W3.heap.size W3 E8w) := bel_trans E7.out hb
          clear hb
          clear k0 k1 k2 k3 k4 k5 kl
          obtain ⟨k0, k1, k2, k3, k4, k5, kl⟩ := HK.out _ E8.out
          go_wp2
          go_ret
          exact ⟨ret_bool (by simp), HBW.out.trans (E8.out.mono HBW.out.size)⟩
      · clear hrd HRD
        have E0 : Hid (Below W3.heap.size W3 W3) := Below.refl _ _
        obtain ⟨k0, k1, k2, k3, k4, k5, kl⟩ := HK.out _ E0.out
        rw [hW3] at k0 k1 k2 k3 k4 k5 kl
        go_wp2_with fail
        rw [← hW3, ← hz3]
        clear hW3 hz3
        refine (D1.out _ (HML.out.below (HBW.out.trans (E0.out.mono HBW.out.size)))).mono ?_
        rintro e E1w ⟨rfl, hb⟩
        have E1 : Hid (Below W3.heap.size W3 E1w) := bel_trans E0.out hb
        clear hb
        clear k0 k1 k2 k3 k4 k5 kl
        obtain ⟨k0, k1, k2, k3, k4, k5, kl⟩ := HK.out _ E1.out
        go_wp2_with fail
        refine (D2.out _ (HML.out.below (HBW.out.trans (E1.out.mono HBW.out.size)))).mono ?_
        rintro e E2w ⟨rfl, hb⟩
        have E2 : Hid (Below W3.heap.size W3 E2w) := bel_trans E1.out hb
        clear hb
        clear k0 k1 k2 k3 k4 k5 kl
        obtain ⟨k0, k1, k2, k3, k4, k5, kl⟩ := HK.out _ E2.out
        go_wp2_with fail
        refine (D3.out _ (HML.out.below (HBW.out.trans (E2.out.mono HBW.out.size)))).mono ?_
        rintro e E3w ⟨rfl, hb⟩
        have E3 : Hid (Below W3.heap.size W3 E3w) := bel_trans E2.out hb
        clear hb
        clear k0 k1 k2 k3 k4 k5 kl
        obtain ⟨k0, k1, k2, k3, k4, k5, kl⟩ := HK.out _ E3.out
        go_wp2_with fail
        refine (D4.out _ (HML.out.below (HBW.out.trans (E3.out.mono HBW.out.size)))).mono ?_
        rintro e E4w ⟨rfl, hb⟩
        have E4 : Hid (Below W3.heap.size W3 E4w) := bel_trans E3.out hb
        clear hb
        clear k0 k1 k2 k3 k4 k5 kl
        obtain ⟨k0, k1, k2, k3, k4, k5, kl⟩ := HK.out _ E4.out
        go_wp2_with fail
        refine (D5.out _ (HML.out.below (HBW.out.trans (E4.out.mono HBW.out.size)))).mono ?_
        rintro e E5w ⟨rfl, hb⟩
        have E5 : Hid (Below W3.heap.size W3 E5w) := bel_trans E4.out hb
        clear hb
        clear k0 k1 k2 k3 k4 k5 kl
        obtain ⟨k0, k1, k2, k3, k4, k5, kl⟩ := HK.out _ E5.out
        go_wp2_with fail
        refine (HMo.out _ (HBW.out.trans (E5.out.mono HBW.out.size))).mono ?_
        rintro e E6w ⟨rfl, hb⟩
        have E6 : Hid (Below W3.heap.size W3 E6w) := bel_trans E5.out hb
        clear hb
        go_wp2_with fail
        refine (HPo.out _).mono ?_
        rintro e E7w ⟨rfl, hb⟩
        have E7 : Hid (Below W3.heap.size W3 E7w) := bel_trans E6.out hb
        clear hb
        clear k0 k1 k2 k3 k4 k5 kl
        obtain ⟨k0, k1, k2, k3, k4, k5, kl⟩ := HK.out _ E7.out
        by_cases hpq : (PO.toList == PB.toList) = true
        · go_wp2
          go_ret
          exact ⟨ret_bool (by simp), HBW.out.trans (E7.out.mono HBW.out.size)⟩
        · have hpq2 : (PO.toList == PB.toList) = false := by simpa using hpq
          clear hpq
          go_wp2_with fail
          refine (D6.out _ (HML.out.below (HBW.out.trans (E7.out.mono HBW.out.size)))).mono ?_
          rintro e E8w ⟨rfl, hb⟩
          have E8 : Hid (Below W3.heap.size W3 E8w) := bel_trans E7.out hb
          clear hb
          clear k0 k1 k2 k3 k4 k5 kl
          obtain ⟨k0, k1, k2, k3, k4, k5, kl⟩ := HK.out _ E8.out
          go_wp2
          go_ret
          exact ⟨ret_bool (by simp), HBW.out.trans (E8.out.mono HBW.out.size)⟩
end Tt
end Go.Proofs.YtheeloaebilgiabGreatDoor
