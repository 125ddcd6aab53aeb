/- Several texts as one. -/
import Derived.Test.YtlnlhhobmgiceaaGreatDoorMgT
import Derived.Test.YtlnlhhobmgiceaaGreatDoorMgD
import Derived.BigQuiet
/-
  sheet: asQuery, Pairs; the document's Pairs; the law's pairs.
-/
set_option linter.unusedVariables false
set_option linter.unusedSimpArgs false
namespace Go.Proofs.YtlnlhhobmgiceaaGreatDoor
open Go.RowKit Go.Shelf
namespace Tg
open Oc

theorem one_b (W : World) (c : UInt8) :
    (convert 78 9 (.slice (some ⟨W.heap.size, 0, none⟩) 1 1)).run Tryz.prog (W.alloc (.cells #[.int .u8 (c.toNat : Int)] 5)) = .ok (.string (str [c])) (W.alloc (.cells #[.int .u8 (c.toNat : Int)] 5)) := by
  refine run_convert_bytes_back (P := Tryz.prog) (W.alloc (.cells #[.int .u8 (c.toNat : Int)] 5)) 78 9 5 ⟨W.heap.size, 0, none⟩ 1 [c] Tryz.underlying78 Tryz.underlying5 Tryz.underlying9 (fun j hj => ?_)
  have hj0 : j = 0 := by simpa using hj
  subst hj0
  have hc : (W.alloc (.cells #[.int .u8 (c.toNat : Int)] 5)).cell? ⟨W.heap.size, 0, none⟩ = some (.int .u8 (c.toNat : Int)) := by simp [World.cell?, World.alloc, -World.alloc_eq]
  rw [show (Addr.add ⟨W.heap.size, 0, none⟩ 0) = ⟨W.heap.size, 0, none⟩ from rfl, hc]
  rfl
theorem take_aq (s : ByteArray) (k : Nat) (h : k < s.size) : aq (s.data.toList.take (k + 1)) = aq (s.data.toList.take k) ++ aqB (s.data.toList.getD k 0) := by
  rw [take_snoc s k h, aq_app]; simp [aq]
theorem sgn_ix (c : UInt8) : sgn c = decide (0 ≤ Lib.indexByte [38, 61, 43, 37] c) := Lib.contains_iff_indexByte [38, 61, 43, 37] c

set_option maxRecDepth 100000 in
set_option maxHeartbeats 4000000 in
theorem asQuery_any (s : ByteArray) (hs : s.size ≤ 4194304) (w : World) :
    Calls Tryz.prog 26 #[.string s] w fun e w' => e = .returned (.string (str (aq s.data.toList))) ∧ Below w.heap.size w w' := by
  have hcv := fun w => Lib.run_convert_string_bytes (P := Tryz.prog) w 9 78 5 s Tryz.underlying9 Tryz.underlying78 Tryz.underlying5
  have hr := bytes_row (w.alloc (.cells #[.pointer none, .slice none 0 0] 92)) 5 s
  have hbb := below_bytes (w.alloc (.cells #[.pointer none, .slice none 0 0] 92)) 5 s
  have hbd := (Bd.new w (w.heap.size + 2)).below hbb
  have hbw : Below w.heap.size w (Lib.bytesWorld (w.alloc (.cells #[.pointer none, .slice none 0 0] 92)) 5 s) := ((Below.refl _ w).alloc (Nat.le_refl _) _).trans (hbb.mono (by simp))
  have hsz : (Lib.bytesWorld (w.alloc (.cells #[.pointer none, .slice none 0 0] 92)) 5 s).heap.size = w.heap.size + 2 := by rw [Lib.bytesWorld_size, World.size_alloc]
  rw [World.size_alloc] at hr
  have HR : Hid (_) := hr
  have HBD : Hid (_) := hbd
  have HBW : Hid (_) := hbw
  have HSZ : Hid (_) := hsz
  clear hr hbd hbw hbb hsz
  go_enter Tryz.func26, Tryz.ntmps26
  go_wp2
  go_loopw [9] (fun i wr => ∃ k : Nat, k ≤ s.size ∧ i = .int .i64 k ∧ Hid (Bd (w.heap.size + 2) w.heap.size (Lib.byteCells (aq (s.data.toList.take k))) wr) ∧ Hid (Keep (w.heap.size + 1) (Lib.bytesWorld (w.alloc (.cells #[.pointer none, .slice none 0 0] 92)) 5 s) wr) ∧ Hid (Below w.heap.size w wr) ∧ Hid (w.heap.size + 2 ≤ wr.heap.size)) (fun i _ => s.size - (intOf i).toNat)
  case atStart => exact ⟨0, Nat.zero_le _, rfl, HBD, (rfl : Keep _ _ _), HBW, (by rw [HSZ.out]; exact Nat.le_refl _ : _ ≤ _)⟩
  case round =>
    obtain ⟨k, hk, rfl, hB, hK, hW, hS⟩ := hrel
    by_cases hlt : k < s.size
    · have hck := (hK.out.cell k).trans (HR.out.cell k hlt)
      have hb1 : (byt s k) = ((s.data.toList.getD k 0).toNat : Int) := rfl
      rw [hb1] at hck
      have HT : Hid (_) := take_aq s k hlt
      generalize s.data.toList.getD k 0 = c at *
      have hel := aq_len (s.data.toList.take k)
      have htl : (s.data.toList.take k).length ≤ s.size := by rw [List.length_take, size_list]; omega
      have HL : Hid (_) := hel
      clear hel
      have hcn := c.toNat_lt
      have HFIN : Hid (∀ w', Bd (w.heap.size + 2) w.heap.size (Lib.byteCells (aq (s.data.toList.take k)) ++ Lib.byteCells (aqB c)) w' → Fr (w.heap.size + 2) w.heap.size wr w' → Hid (Bd (w.heap.size + 2) w.heap.size (Lib.byteCells (aq (s.data.toList.take (k + 1)))) w') ∧ Hid (Keep (w.heap.size + 1) (Lib.bytesWorld (w.alloc (.cells #[.pointer none, .slice none 0 0] 92)) 5 s) w') ∧ Hid (Below w.heap.size w w') ∧ Hid (w.heap.size + 2 ≤ w'.heap.size)) := fun w' h1 h2 =>
        ⟨(by rw [HT.out, cells_app]; exact h1 : Bd _ _ _ _), hK.out.trans (h2.keep (by omega) (by omega)), hW.out.trans (h2.below (by omega) (Nat.le_refl _)), Nat.le_trans hS.out h2.size⟩
      have HI : Hid (∀ W, Calls Tryz.prog 58 #[.string ⟨#[38, 61, 43, 37]⟩, .int .u8 (c.toNat : Int)] W fun e w' => e = .returned (.int .i64 (Lib.indexByte [38, 61, 43, 37] c)) ∧ w' = W) := fun W => by
        have h := Tryz.strings_IndexByte ⟨#[38, 61, 43, 37]⟩ (c.toNat : Int) W
        rw [show ((c.toNat : Int).toNat.toUInt8) = c by simp] at h
        exact h
      have HSg := sgn_ix c
      generalize Lib.indexByte [38, 61, 43, 37] c = IX at *
      by_cases hu : 0 ≤ IX
      · have he : aqB c = [c] := by unfold aqB; rw [if_pos (by rw [HSg]; exact decide_eq_true hu)]
        rw [he, cells_one] at HFIN
        clear HSg
        go_wp2_with fail
        refine (HI.out _).mono ?_
        rintro e w1 ⟨rfl, hw1⟩
        rw [hw1]
        clear hw1
        go_wp2_with fail
        refine (WriteByte_bd _ _ _ _ _ hB.out (by rw [cells_len]; have := HL.out; omega) hS.out).mono ?_
        rintro e w2 ⟨rfl, hB2, hF2⟩
        obtain ⟨q1, q2, q3, q4⟩ := HFIN.out _ hB2 hF2
        clear hB2 hF2
        go_wp2
        go_roundw
        case rel => exact ⟨k + 1, by omega, by go_num, q1, q2, q3, q4⟩
        case measure => simp [intOf]; omega
      · have he : aqB c = encB c := by unfold aqB; rw [if_neg (by rw [HSg]; exact fun h => hu (of_decide_eq_true h))]
        rw [he] at HFIN
        clear HSg
        have hcb := fun W : World => one_b W c
        have HE : Hid (∀ W, Calls Tryz.prog 59 #[.string (str [c])] W fun e w' => e = .returned (.string (str (encB c))) ∧ Below W.heap.size W w') := fun W => by
          have h := Encode_any (str [c]) (by rw [str_size]; simp) W
          rw [str_list, show enc [c] = encB c by simp [enc]] at h
          exact h
        have hez : (str (encB c)).size ≤ 3 := by rw [str_size]; unfold encB; split <;> simp
        rw [← cells_str (encB c)] at HFIN
        generalize str [c] = C1 at *
        generalize str (encB c) = E1 at *
        have HBn : Hid (Bd (w.heap.size + 2) w.heap.size (Lib.byteCells (aq (s.data.toList.take k))) (wr.alloc (.cells #[.int .u8 (c.toNat : Int)] 5))) := hB.out.below ((Below.refl _ wr).alloc (Nat.le_refl _) _)
        have HFn : Hid (Fr (w.heap.size + 2) w.heap.size wr (wr.alloc (.cells #[.int .u8 (c.toNat : Int)] 5))) := Fr.alloc _ _ hS.out
        go_wp2_with fail
        refine (HI.out _).mono ?_
        rintro e w1 ⟨rfl, hw1⟩
        rw [hw1]
        clear hw1
        go_wp2_with fail
        refine (HE.out _).mono ?_
        rintro e w2 ⟨rfl, hb2⟩
        have HB2 : Hid (Bd (w.heap.size + 2) w.heap.size (Lib.byteCells (aq (s.data.toList.take k))) w2) := HBn.out.below hb2
        have HF2 : Hid (Fr (w.heap.size + 2) w.heap.size wr w2) := HFn.out.trans (Fr.of_below hb2 (Nat.le_trans hS.out HFn.out.size))
        have HS2 : Hid (w.heap.size + 2 ≤ w2.heap.size) := Nat.le_trans hS.out HF2.out.size
        clear hb2
        go_wp2_with fail
        refine (WriteString_bd _ _ _ _ _ HB2.out (by rw [cells_len]; have := HL.out; omega) HS2.out).mono ?_
        rintro e w3 ⟨rfl, hB3, hF3⟩
        obtain ⟨q1, q2, q3, q4⟩ := HFIN.out _ hB3 (HF2.out.trans hF3)
        clear hB3 hF3
        go_wp2
        go_roundw
        case rel => exact ⟨k + 1, by omega, by go_num, q1, q2, q3, q4⟩
        case measure => simp [intOf]; omega
    · obtain rfl : k = s.size := by omega
      have hall : s.data.toList.take s.size = s.data.toList := List.take_of_length_le (by rw [size_list]; exact Nat.le_refl _)
      rw [hall] at hB
      clear hall
      go_wp2_with fail
      refine (String_bd _ _ _ _ hB.out hS.out).mono ?_
      rintro e w2 ⟨rfl, hb2, _⟩
      go_wp2
      go_ret
      exact ⟨rfl, hW.out.trans (hb2.mono (by omega))⟩

theorem query_aq (l : List UInt8) (h : whole l = true) : queryR (aq l) = (pairsR l, 0, 0) := by
  unfold queryR
  rw [chk_ok queryOk 54 _ (aq_says l h).2.2.2]
  have e : qs (splitB 38 (aq l)) = pairsR l := pairs_aq l h
  simp [e]

set_option maxRecDepth 100000 in
set_option maxHeartbeats 1000000 in
theorem Pairs_any (s : ByteArray) (hs : s.size ≤ 4194304) (w : World) (hm : ML w) :
    Calls Tryz.prog 7 #[.string s] w fun e w' => ∃ v, e = .returned (.tuple #[v, .int .i64 ((shpR s.data.toList).2.1 : Int), .int .i64 (shpR s.data.toList).2.2]) ∧ OwnQ 47 w.heap.size v (shpR s.data.toList).1 w' ∧ Below w.heap.size w w' := by
  have HD : Hid (∀ w, _) := fun w => Decode_any s (by omega) w
  have HQ : Hid (∀ w, ML w → _) := fun w h => Query_any (str (aq s.data.toList)) (by rw [str_size]; have := aq_len s.data.toList; rw [size_list] at this; omega) w h
  rw [str_list] at HQ
  have HA : Hid (∀ w, _) := fun w => asQuery_any s hs w
  have HM : Hid (ML w) := hm
  clear hm
  cases hw : whole s.data.toList with
  | false =>
    have e : shpR s.data.toList = ([], (decR s.data.toList).2.1, 51) := by unfold shpR; rw [hw]; rfl
    rw [e, (decR_not _ hw).2] at *
    clear e hw HQ HA
    generalize decR s.data.toList = D at *
    obtain ⟨D1, D2, D3⟩ := D
    dsimp only at HD ⊢
    go_enter Tryz.func7, Tryz.ntmps7
    go_wp2_with fail
    refine (HD.out _).mono ?_
    rintro e w1 ⟨rfl, hb1⟩
    go_wp2
    go_ret3
    exact ⟨.slice none 0 0, rfl, ownQ_nil _ _ _, hb1⟩
  | true =>
    have e : shpR s.data.toList = (pairsR s.data.toList, 0, 0) := by unfold shpR; rw [hw]; rfl
    rw [query_aq _ hw] at HQ
    have d0 : (decR s.data.toList).2.2 = 0 := by rw [whole_dec, hw]; rfl
    rw [e]
    rw [d0] at HD
    clear e hw d0
    generalize decR s.data.toList = D at *
    obtain ⟨D1, D2, D3⟩ := D
    dsimp only at HD HQ ⊢
    generalize str (aq s.data.toList) = Q at *
    generalize pairsR s.data.toList = T at *
    go_enter Tryz.func7, Tryz.ntmps7
    go_wp2_with fail
    refine (HD.out _).mono ?_
    rintro e w1 ⟨rfl, hb1⟩
    have HB1 : Hid (Below w.heap.size w w1) := hb1
    clear hb1
    go_wp2_with fail
    refine (HA.out _).mono ?_
    rintro e w2 ⟨rfl, hb2⟩
    have HB2 : Hid (Below w.heap.size w w2) := HB1.out.trans (hb2.mono HB1.out.size)
    clear hb2
    go_wp2_with fail
    refine (HQ.out _ (HM.out.below HB2.out)).mono ?_
    rintro e w3 ⟨v, rfl, ho, hb3⟩
    go_wp2
    go_ret3
    exact ⟨v, rfl, own_mono3 ho HB2.out.size, HB2.out.trans (hb3.mono HB2.out.size)⟩

set_option maxRecDepth 100000 in
set_option maxHeartbeats 1000000 in
theorem rPairs15_any (s : ByteArray) (hs : s.size ≤ 4194304) (w : World) :
    Calls Tryz.prog 4 #[.string s] w fun e w' => ∃ v, e = .returned (.tuple #[v, .int .i64 ((shpR s.data.toList).2.1 : Int), .int .i64 (shpR s.data.toList).2.2]) ∧ OwnQ 57 w.heap.size v (shpR s.data.toList).1 w' ∧ Below w.heap.size w w' := by
  have HD : Hid (∀ w, _) := fun w => rDecode_any s (by omega) w
  have HQ : Hid (∀ w, _) := fun w => rPairs_any s hs w
  cases hw : whole s.data.toList with
  | false =>
    have e : shpR s.data.toList = ([], (decR s.data.toList).2.1, 51) := by unfold shpR; rw [hw]; rfl
    rw [e, (decR_not _ hw).2] at *
    clear e hw HQ
    generalize decR s.data.toList = D at *
    obtain ⟨D1, D2, D3⟩ := D
    dsimp only at HD ⊢
    go_enter Tryz.func4, Tryz.ntmps4
    go_wp2_with fail
    refine (HD.out _).mono ?_
    rintro e w1 ⟨rfl, hb1⟩
    go_wp2
    go_ret3
    exact ⟨_, rfl, ownQ_empty _ _ hb1.size, hb1.alloc hb1.size _⟩
  | true =>
    have e : shpR s.data.toList = (pairsR s.data.toList, 0, 0) := by unfold shpR; rw [hw]; rfl
    have d0 : (decR s.data.toList).2.2 = 0 := by rw [whole_dec, hw]; rfl
    rw [e]
    rw [d0] at HD
    rw [show qs (splitB 38 s.data.toList) = pairsR s.data.toList from rfl] at HQ
    clear e hw d0
    generalize decR s.data.toList = D at *
    obtain ⟨D1, D2, D3⟩ := D
    dsimp only at HD HQ ⊢
    generalize pairsR s.data.toList = T at *
    go_enter Tryz.func4, Tryz.ntmps4
    go_wp2_with fail
    refine (HD.out _).mono ?_
    rintro e w1 ⟨rfl, hb1⟩
    have HB1 : Hid (Below w.heap.size w w1) := hb1
    clear hb1
    go_wp2_with fail
    refine (HQ.out _).mono ?_
    rintro e w2 ⟨v, rfl, ho, hb2⟩
    go_wp2
    go_ret3
    exact ⟨v, rfl, own_mono3 ho HB1.out.size, HB1.out.trans (hb2.mono HB1.out.size)⟩

end Tg
end Go.Proofs.YtlnlhhobmgiceaaGreatDoor

namespace Go.Proofs
end Go.Proofs

/-
  The laws of sheet's pairs: IsBoundary of "B", awake, the law's pairs.
-/
set_option linter.unusedVariables false
set_option linter.unusedSimpArgs false
namespace Go.Proofs.YtlnlhhobmgiceaaGreatDoor
open Go.RowKit Go.Shelf
namespace Tg
open Oc

set_option maxRecDepth 100000 in
set_option maxHeartbeats 1000000 in
theorem pairs15_any (v1 v2 : Value) (t : List Prm) (w : World) (h1 : RdQ v1 t w) (h2 : RdQ v2 t w) (hl : t.length ≤ 4294967296) :
    Calls Tryz.prog 10 #[v1, v2] w fun e w' => e = .returned (.bool true) ∧ ∃ n, w' = w.drewN n := by
  obtain ⟨a1, c1, rfl, h1⟩ := h1
  obtain ⟨a2, c2, rfl, h2⟩ := h2
  have hne : ((t.length : Int) != (t.length : Int)) = false := by simp
  go_enter Tryz.func10, Tryz.ntmps10
  go_wp2
  go_loopw [5] (fun i wr => ∃ k : Nat, k ≤ t.length ∧ i = .int .i64 k ∧ Hid (∃ n, wr = w.drewN n)) (fun i _ => t.length - (intOf i).toNat)
  case atStart => exact ⟨0, Nat.zero_le _, rfl, (⟨0, rfl⟩ : ∃ n, w = w.drewN n)⟩
  case round =>
    obtain ⟨k, hk, rfl, hw⟩ := hrel
    obtain ⟨n, rfl⟩ := hw.out
    clear hw
    by_cases hlt : k < t.length
    · rcases h1 with h | ⟨g1, o1, rfl, hc1, hcell1⟩
      · rw [h] at hlt; simp at hlt
      rcases h2 with h | ⟨g2, o2, rfl, hc2, hcell2⟩
      · rw [h] at hlt; simp at hlt
      obtain ⟨p0, p1, p2⟩ := hcell1 k hlt
      obtain ⟨q0, q1, q2⟩ := hcell2 k hlt
      clear hcell1 hcell2
      generalize str (nth t k).1 = x at p0 q0
      generalize str (nth t k).2.1 = y at p1 q1
      generalize (nth t k).2.2 = z at p2 q2
      have hz : (z != z) = false := by simp
      go_wp2_with fail
      go_quiet (fail)
      go_wp2
      go_roundw
      case rel => exact ⟨k + 1, by omega, by go_num, drawn_again w _ _⟩
      case measure => simp [intOf]; omega
    · go_wp2
      go_ret
      exact ⟨rfl, _, rfl⟩


/-- The signs of a boundary. -/
def bndS : ByteArray := ⟨#[65, 66, 67, 68, 69, 70, 71, 72, 73, 74, 75, 76, 77, 78, 79, 80, 81, 82, 83, 84, 85, 86, 87, 88, 89, 90, 97, 98, 99, 100, 101, 102, 103, 104, 105, 106, 107, 108, 109, 110, 111, 112, 113, 114, 115, 116, 117, 118, 119, 120, 121, 122, 48, 49, 50, 51, 52, 53, 54, 55, 56, 57, 39, 40, 41, 43, 95, 44, 45, 46, 47, 58, 61, 63]⟩
theorem TrimB (w : World) : Calls Tryz.prog 66 #[.string ⟨#[66]⟩, .string bndS] w fun e w' => e = .returned (.string ⟨#[]⟩) ∧ Below w.heap.size w w' := by
  have hcon := Any.strings_TrimLeft_laid Tryz.lays161 (by kernel_rfl) ⟨#[66]⟩ bndS w (by decide) (ascii_of_all (by decide))
  exact hcon

set_option maxRecDepth 100000 in
set_option maxHeartbeats 1000000 in
theorem IsBoundary_B (w : World) : Calls Tryz.prog 33 #[.string ⟨#[66]⟩] w fun e w' => e = .returned (.bool true) ∧ Below w.heap.size w w' := by
  have HT : Hid (∀ w, _) := fun w => TrimB w
  unfold bndS at HT
  go_enter Tryz.func33, Tryz.ntmps33
  go_wp2_with fail
  refine (HT.out _).mono ?_
  rintro e w1 ⟨rfl, hb1⟩
  go_wp2
  go_ret
  exact ⟨rfl, hb1⟩

theorem awake_whole : whole [97, 61, 98, 43, 99] = true := by
  rw [whole_cons (by decide), whole_cons (by decide), whole_cons (by decide), whole_cons (by decide), whole_cons (by decide)]
  exact whole_nil
theorem awake_dec (c : UInt8) (h : c ≠ 37) : decR [c] = ([c], 0, 0) := by
  rw [decR_whole _ (by rw [whole_cons h]; exact whole_nil), zs_one c [] (trip_ne h []), zs_nil]; rfl
theorem awake_shp : shpR [97, 61, 98, 43, 99] = ([([97], [98, 32, 99], true)], 0, 0) := by
  unfold shpR
  rw [awake_whole, if_pos rfl]
  have e1 : splitB 38 [97, 61, 98, 43, 99] = [[97, 61, 98, 43, 99]] := by decide +kernel
  have e2 : cutA 61 [97, 61, 98, 43, 99] = [97] ∧ cutB 61 [97, 61, 98, 43, 99] = [98, 43, 99] ∧ has 61 [97, 61, 98, 43, 99] = true := by decide +kernel
  have e3 : ([97] : List UInt8).map sp = [97] ∧ ([98, 43, 99] : List UInt8).map sp = [98, 32, 99] := by decide +kernel
  have e4 : decR [98, 32, 99] = ([98, 32, 99], 0, 0) := by
    rw [decR_whole _ (by rw [whole_cons (by decide), whole_cons (by decide), whole_cons (by decide)]; exact whole_nil), zs_one _ _ (trip_ne (by decide) _), zs_one _ _ (trip_ne (by decide) _), zs_one _ _ (trip_ne (by decide) _), zs_nil]
    rfl
  unfold pairsR
  rw [e1]
  simp only [List.filter_cons, List.filter_nil, ne_eq, reduceCtorEq, not_false_eq_true, decide_true, if_true, List.map_cons, List.map_nil]
  unfold pairR spd
  rw [e2.1, e2.2.1, e2.2.2, e3.1, e3.2, awake_dec 97 (by decide), e4]

set_option maxRecDepth 100000 in
set_option maxHeartbeats 2000000 in
theorem awake15_any (w : World) (hm : ML w) :
    Calls Tryz.prog 13 #[] w fun e w' => e = .returned (.bool true) ∧ Below w.heap.size w w' := by
  have HP : Hid (Calls Tryz.prog 7 #[.string ⟨#[97, 61, 98, 43, 99]⟩] w fun e w' => ∃ v, e = .returned (.tuple #[v, .int .i64 0, .int .i64 0]) ∧ OwnQ 47 w.heap.size v [([97], [98, 32, 99], true)] w' ∧ Below w.heap.size w w') := by
    have h := Pairs_any ⟨#[97, 61, 98, 43, 99]⟩ (by decide) w hm
    rw [show (⟨#[97, 61, 98, 43, 99]⟩ : ByteArray).data.toList = [97, 61, 98, 43, 99] from rfl, awake_shp] at h
    exact h
  have HI : Hid (∀ w, _) := fun w => IsBoundary_B w
  clear hm
  go_enter Tryz.func13, Tryz.ntmps13
  go_wp2_with fail
  refine HP.out.mono ?_
  rintro e w1 ⟨v, rfl, ho, hb1⟩
  obtain ⟨a, c, rfl, hr⟩ := ho.rd
  obtain ⟨g, o, rfl, hc, hcell⟩ : ∃ g o, a = some ⟨g, o, none⟩ ∧ [(([97] : List UInt8), ([98, 32, 99] : List UInt8), true)].length ≤ c ∧ ∀ j, j < [(([97] : List UInt8), ([98, 32, 99] : List UInt8), true)].length → w1.cell? ⟨g, o + j * 3, none⟩ = some (.string (str (nth [([97], [98, 32, 99], true)] j).1)) ∧ w1.cell? ⟨g, o + j * 3 + 1, none⟩ = some (.string (str (nth [([97], [98, 32, 99], true)] j).2.1)) ∧ w1.cell? ⟨g, o + j * 3 + 2, none⟩ = some (.bool (nth [([97], [98, 32, 99], true)] j).2.2) := by
    rcases hr with h | h
    · cases h
    · exact h
  obtain ⟨c0, c1, c2⟩ := hcell 0 (by decide)
  have c0' : w1.cell? ⟨g, o, none⟩ = some (.string ⟨#[97]⟩) := c0
  have c1' : w1.cell? ⟨g, o + 1, none⟩ = some (.string ⟨#[98, 32, 99]⟩) := by have := c1; rw [Nat.zero_mul, Nat.add_zero] at this; exact this
  have c2' : w1.cell? ⟨g, o + 2, none⟩ = some (.bool true) := by have := c2; rw [Nat.zero_mul, Nat.add_zero] at this; exact this
  have hc1 : 1 ≤ c := hc
  have HB1 : Hid (Below w.heap.size w w1) := hb1
  clear c0 c1 c2 hcell hr hb1 ho hc
  have hln : [(([97] : List UInt8), ([98, 32, 99] : List UInt8), true)].length = 1 := rfl
  rw [hln]
  clear hln
  go_wp2_with fail
  refine (HI.out _).mono ?_
  rintro e w2 ⟨rfl, hb2⟩
  go_wp2
  go_ret
  exact ⟨rfl, HB1.out.trans (hb2.mono HB1.out.size)⟩

theorem qs_pairs_len (l : List UInt8) : (pairsR l).length ≤ l.length + 1 := by
  unfold pairsR
  rw [List.length_map]
  exact Nat.le_trans (List.length_filter_le _ _) (split_len 38 l)
theorem shpR_len (l : List UInt8) : (shpR l).1.length ≤ l.length + 1 := by
  unfold shpR
  split
  · exact qs_pairs_len l
  · exact Nat.zero_le _

end Tg
end Go.Proofs.YtlnlhhobmgiceaaGreatDoor

/-
  sheet: boundaries: the document's IsMark, the program's IsBoundary.
-/
set_option linter.unusedVariables false
set_option linter.unusedSimpArgs false
namespace Go.Proofs.YtlnlhhobmgiceaaGreatDoor
open Go.RowKit Go.Shelf
namespace Mf
open Oc Tg

def noM : List UInt8 := [39, 40, 41, 43, 95, 44, 45, 46, 47, 58, 61, 63]
def markI (c : Int) (h : Bool) : Bool := (decide (48 ≤ c) && decide (c ≤ 57)) || ((decide (65 ≤ c) && decide (c ≤ 90)) || ((decide (97 ≤ c) && decide (c ≤ 122)) || h))
/-- May a byte stand in a boundary? -/
def markB (c : UInt8) : Bool := markI (c.toNat : Int) (noM.contains c)
def bndR (l : List UInt8) : Bool := l.all markB && (decide (l ≠ []) && decide (l.length ≤ 70))

theorem bnd_bad {l : List UInt8} {k : Nat} (hk : k < l.length) (h : markB (l.getD k 0) = false) : bndR l = false := by
  unfold bndR
  rw [show l.all markB = false from by
    rw [List.all_eq_false]
    refine ⟨l[k], List.getElem_mem _, ?_⟩
    rw [List.getD_eq_getElem?_getD, List.getElem?_eq_getElem hk] at h
    simp at h
    simp [h]]
  rfl
theorem bnd_ok {l : List UInt8} (h : ∀ j, j < l.length → markB (l.getD j 0) = true) : bndR l = (decide (l ≠ []) && decide (l.length ≤ 70)) := by
  unfold bndR
  rw [show l.all markB = true from by
    rw [List.all_eq_true]
    intro x hx
    obtain ⟨k, hk, rfl⟩ := List.mem_iff_getElem.1 hx
    have := h k hk
    rw [List.getD_eq_getElem?_getD, List.getElem?_eq_getElem hk] at this
    simpa using this]
  rfl
def okK (c : UInt8) (j : Nat) : Bool := (lettI (c.toNat : Int) || digI (c.toNat : Int)) || (noM.take j).contains c
theorem okK_all (c : UInt8) : okK c 12 = markB c := by
  have h : ∀ n : Nat, n < 256 → okK (UInt8.ofNat n) 12 = markB (UInt8.ofNat n) := by decide +kernel
  have := h c.toNat c.toNat_lt
  rwa [UInt8.ofNat_toNat] at this
theorem okK_next (c : UInt8) (j : Nat) (h : j < 12) : okK c (j + 1) = (okK c j || decide ((c.toNat : Int) = ((noM.getD j 0).toNat : Int))) := by
  have k : ∀ j : Nat, j < 12 → ∀ n : Nat, n < 256 → okK (UInt8.ofNat n) (j + 1) = (okK (UInt8.ofNat n) j || decide (((UInt8.ofNat n).toNat : Int) = ((noM.getD j 0).toNat : Int))) := by decide +kernel
  have := k j h c.toNat c.toNat_lt
  rwa [UInt8.ofNat_toNat] at this
theorem noM_at (j : Nat) (h : j < (⟨#[39, 40, 41, 43, 95, 44, 45, 46, 47, 58, 61, 63]⟩ : ByteArray).size) : (((⟨#[39, 40, 41, 43, 95, 44, 45, 46, 47, 58, 61, 63]⟩ : ByteArray)[j].toNat : Nat) : Int) = ((noM.getD j 0).toNat : Int) := byt_at _ j h

set_option maxRecDepth 100000 in
set_option maxHeartbeats 1000000 in
theorem rIsMark_any (s : ByteArray) (hs : s.size ≤ 16777216) (w : World) :
    Calls Tryz.prog 20 #[.string s] w fun e w' => e = .returned (.bool (bndR s.data.toList)) ∧ Below w.heap.size w w' := by
  have HY : Hid (∀ k, k < s.size → markB (s.data.toList.getD k 0) = false → bndR s.data.toList = false) := fun k hk h => bnd_bad (by rw [size_list]; exact hk) h
  have HN : Hid ((∀ j, j < s.size → markB (s.data.toList.getD j 0) = true) → bndR s.data.toList = (decide (1 ≤ s.size) && decide (s.size ≤ 70))) := fun h => by
    have := bnd_ok (l := s.data.toList) (fun j hj => h j (by rw [size_list] at hj; exact hj))
    rw [size_list] at this
    rw [this]
    congr 1
    rw [decide_eq_decide, ← size_list]
    cases s.data.toList <;> simp
  generalize bndR s.data.toList = M at *
  go_enter Tryz.func20, Tryz.ntmps20
  go_wp2
  go_loopw [3] (fun i wr => ∃ k : Nat, k ≤ s.size ∧ i = .int .i64 k ∧ Hid (∀ j, j < k → markB (s.data.toList.getD j 0) = true) ∧ Hid (Below w.heap.size w wr)) (fun i _ => s.size - (intOf i).toNat)
  case atStart => exact ⟨0, Nat.zero_le _, rfl, (fun j hj => absurd hj (Nat.not_lt_zero _) : ∀ j, j < 0 → _), Below.refl _ _⟩
  case round =>
    obtain ⟨wo, rfl⟩ : ∃ wo, wo = wr := ⟨_, rfl⟩
    obtain ⟨k, hk, rfl, hA, hbl⟩ := hrel
    by_cases hlt : k < s.size
    · have hby : ((s[k].toNat : Nat) : Int) = ((s.data.toList.getD k 0).toNat : Int) := byt_at s k hlt
      have HYk : Hid (markB (s.data.toList.getD k 0) = false → M = false) := HY.out k hlt
      have HAn : Hid (markB (s.data.toList.getD k 0) = true → ∀ j, j < k + 1 → markB (s.data.toList.getD j 0) = true) := fun h j hj => by
        by_cases e : j = k
        · rw [e]; exact h
        · exact hA.out j (by omega)
      generalize s.data.toList.getD k 0 = u at HYk HAn hby
      have b0 : (0 : Int) ≤ (u.toNat : Int) := by omega
      have b1 : (u.toNat : Int) ≤ 255 := by have := u.toNat_lt; omega
      have HLe : Hid (∀ W, Calls Tryz.prog 43 #[.int .u8 ((s[k].toNat : Nat) : Int)] W fun e w' => e = .returned (.bool (lettI (u.toNat : Int))) ∧ w' = W) := fun W => by rw [hby]; exact IsLetter_any _ b0 b1 W
      have HDi : Hid (∀ W, Calls Tryz.prog 42 #[.int .u8 ((s[k].toNat : Nat) : Int)] W fun e w' => e = .returned (.bool (digI (u.toNat : Int))) ∧ w' = W) := fun W => by rw [hby]; exact IsDigit_any _ b0 b1 W
      have HK0 : Hid (okK u 0 = (lettI (u.toNat : Int) || digI (u.toNat : Int))) := (by simp [okK] : _ = _)
      have HKn : Hid (∀ j, j < 12 → okK u (j + 1) = (okK u j || (((s[k].toNat : Nat) : Int) == ((noM.getD j 0).toNat : Int)))) := fun j hj => by
        rw [okK_next u j hj, hby]
        first | rfl | (congr 1; rw [Bool.eq_iff_iff, decide_eq_true_iff, beq_iff_eq])
      have HKa : Hid (okK u 12 = markB u) := okK_all u
      clear hby b0 b1
      generalize markB u = mb at HYk HAn HKa
      cases hl : lettI (u.toNat : Int) with
      | true =>
        rw [hl] at HLe HK0
        have HK0' : Hid (okK u 0 = true) := HK0.out
        clear HK0 hl HDi
        have HK0 := HK0'
        clear HK0'
        go_wp2_with fail
        refine (HLe.out _).mono ?_
        rintro e w2 ⟨rfl, hw2⟩
        rw [hw2]
        clear hw2
        have HB2 : Hid (Below w.heap.size w wo) := hbl
        go_wp2
        go_loopw [4, 5] (fun ov jv wr => ∃ j : Nat, j ≤ 12 ∧ jv = .int .i64 j ∧ ov = .bool (okK u j) ∧ Hid (Below w.heap.size w wr)) (fun _ jv _ => 12 - (intOf jv).toNat)
        case atStart => exact ⟨0, by omega, rfl, by rw [HK0.out], HB2⟩
        case round =>
          obtain ⟨j, hj, rfl, rfl, hbj⟩ := hrel
          by_cases hjt : j < 12
          · have HKj : Hid (okK u (j + 1) = (okK u j || (((s[k].toNat : Nat) : Int) == ((noM.getD j 0).toNat : Int)))) := HKn.out j hjt
            have hj12 : j < (⟨#[39, 40, 41, 43, 95, 44, 45, 46, 47, 58, 61, 63]⟩ : ByteArray).size := hjt
            have hnm := noM_at j hj12
            have HBd : Hid (Below w.heap.size w wr.drew) := below_drewN hbj.out 1
            cases hB : okK u j with
            | true =>
              have HO : Hid (okK u (j + 1) = true) := (by rw [HKj.out, hB]; rfl : _ = _)
              clear HKj hB
              go_wp2_with fail
              go_quiet (fail)
              all_goals
                go_wp2
                go_roundw
                case rel => exact ⟨j + 1, by omega, by go_num, by rw [HO.out], below_drewN hbj.out _⟩
                case measure => simp [intOf]; omega
            | false =>
              have HO : Hid (okK u (j + 1) = (((s[k].toNat : Nat) : Int) == ((noM.getD j 0).toNat : Int))) := (by rw [HKj.out, hB]; rfl : _ = _)
              clear HKj hB
              go_wp2_with fail
              go_quiet (fail)
              all_goals
                go_wp2
                go_roundw
                case rel => exact ⟨j + 1, by omega, by go_num, by rw [HO.out, List.getD_eq_getElem?_getD], below_drewN hbj.out _⟩
                case measure => simp [intOf]; omega
          · obtain rfl : j = 12 := by omega
            rw [HKa.out]
            cases mb with
            | false =>
              have hM : Hid (M = false) := HYk.out rfl
              go_wp2
              go_ret
              rw [hM.out]
              exact ⟨rfl, hbj.out⟩
            | true =>
              have HAk : Hid (∀ j, j < k + 1 → markB (s.data.toList.getD j 0) = true) := HAn.out rfl
              go_wp2
              go_roundw
              case rel => exact ⟨k + 1, by omega, by go_num, HAk, hbj⟩
              case measure => simp [intOf]; omega
      | false =>
        rw [hl] at HLe HK0
        have HK0' : Hid (okK u 0 = digI (u.toNat : Int)) := HK0.out
        clear HK0 hl
        generalize digI (u.toNat : Int) = dg at *
        have HK0 := HK0'
        clear HK0'
        go_wp2_with fail
        refine (HLe.out _).mono ?_
        rintro e w2 ⟨rfl, hw2⟩
        rw [hw2]
        clear hw2
        go_wp2_with fail
        refine (HDi.out _).mono ?_
        rintro e w3 ⟨rfl, hw3⟩
        rw [hw3]
        clear hw3
        have HB2 : Hid (Below w.heap.size w wo) := hbl
        go_wp2
        go_loopw [4, 5] (fun ov jv wr => ∃ j : Nat, j ≤ 12 ∧ jv = .int .i64 j ∧ ov = .bool (okK u j) ∧ Hid (Below w.heap.size w wr)) (fun _ jv _ => 12 - (intOf jv).toNat)
        case atStart => exact ⟨0, by omega, rfl, by rw [HK0.out], HB2⟩
        case round =>
          obtain ⟨j, hj, rfl, rfl, hbj⟩ := hrel
          by_cases hjt : j < 12
          · have HKj : Hid (okK u (j + 1) = (okK u j || (((s[k].toNat : Nat) : Int) == ((noM.getD j 0).toNat : Int)))) := HKn.out j hjt
            have hj12 : j < (⟨#[39, 40, 41, 43, 95, 44, 45, 46, 47, 58, 61, 63]⟩ : ByteArray).size := hjt
            have hnm := noM_at j hj12
            have HBd : Hid (Below w.heap.size w wr.drew) := below_drewN hbj.out 1
            cases hB : okK u j with
            | true =>
              have HO : Hid (okK u (j + 1) = true) := (by rw [HKj.out, hB]; rfl : _ = _)
              clear HKj hB
              go_wp2_with fail
              go_quiet (fail)
              all_goals
                go_wp2
                go_roundw
                case rel => exact ⟨j + 1, by omega, by go_num, by rw [HO.out], below_drewN hbj.out _⟩
                case measure => simp [intOf]; omega
            | false =>
              have HO : Hid (okK u (j + 1) = (((s[k].toNat : Nat) : Int) == ((noM.getD j 0).toNat : Int))) := (by rw [HKj.out, hB]; rfl : _ = _)
              clear HKj hB
              go_wp2_with fail
              go_quiet (fail)
              all_goals
                go_wp2
                go_roundw
                case rel => exact ⟨j + 1, by omega, by go_num, by rw [HO.out, List.getD_eq_getElem?_getD], below_drewN hbj.out _⟩
                case measure => simp [intOf]; omega
          · obtain rfl : j = 12 := by omega
            rw [HKa.out]
            cases mb with
            | false =>
              have hM : Hid (M = false) := HYk.out rfl
              go_wp2
              go_ret
              rw [hM.out]
              exact ⟨rfl, hbj.out⟩
            | true =>
              have HAk : Hid (∀ j, j < k + 1 → markB (s.data.toList.getD j 0) = true) := HAn.out rfl
              go_wp2
              go_roundw
              case rel => exact ⟨k + 1, by omega, by go_num, HAk, hbj⟩
              case measure => simp [intOf]; omega
    · obtain rfl : k = s.size := by omega
      have hM : Hid (M = (decide (1 ≤ s.size) && decide (s.size ≤ 70))) := HN.out hA.out
      go_wp2
      all_goals
        go_ret
        refine ⟨ret_bool ?_, hbl.out⟩
        rw [hM.out]
        first
        | (simp; done)
        | (simp; omega)
        | (rw [Bool.eq_iff_iff]; simp; omega)


def inB (c : UInt8) : Bool := bndS.data.toList.contains c
theorem inB_mark (c : UInt8) : inB c = markB c := by
  have h : ∀ n : Nat, n < 256 → inB (UInt8.ofNat n) = markB (UInt8.ofNat n) := by decide +kernel
  have := h c.toNat c.toNat_lt
  rwa [UInt8.ofNat_toNat] at this
theorem drop_all (p : UInt8 → Bool) (l : List UInt8) : (l.dropWhile p = []) ↔ l.all p = true := by
  induction l with
  | nil => simp
  | cons c t ih =>
    rw [List.dropWhile_cons, List.all_cons]
    cases h : p c with
    | true => simpa using ih
    | false => simp
theorem bnd_trim (l : List UInt8) : bndR l = (decide (l.dropWhile inB = []) && (decide (l ≠ []) && decide (l.length ≤ 70))) := by
  unfold bndR
  congr 1
  rw [Bool.eq_iff_iff, decide_eq_true_iff, drop_all, show inB = markB from funext inB_mark]
theorem emp_iff (l : List UInt8) : (str l).toList.isEmpty = decide (l = []) := by
  rw [ByteArray.toList_eq, str_list, Bool.eq_iff_iff, decide_eq_true_iff]
  simp

set_option maxRecDepth 100000 in
set_option maxHeartbeats 1000000 in
theorem IsBoundary_any (s : ByteArray) (hs : s.size ≤ 16777216) (w : World) : Calls Tryz.prog 33 #[.string s] w fun e w' => e = .returned (.bool (bndR s.data.toList)) ∧ Below w.heap.size w w' := by
  have hcon := fun w => Any.strings_TrimLeft_laid Tryz.lays161 (by kernel_rfl) s bndS w (by decide) (ascii_of_all (by decide))
  have HT : Hid (∀ w, Calls Tryz.prog 66 #[.string s, .string bndS] w fun e w' => e = .returned (.string (str (s.data.toList.dropWhile inB))) ∧ Below w.heap.size w w') := hcon
  unfold bndS at HT
  clear hcon
  have HR : Hid (bndR s.data.toList = (decide (s.data.toList.dropWhile inB = []) && (decide (s.data.toList ≠ []) && decide (s.data.toList.length ≤ 70)))) := bnd_trim _
  have HE : Hid ((str (s.data.toList.dropWhile inB)).toList.isEmpty = decide (s.data.toList.dropWhile inB = [])) := emp_iff _
  have HS : Hid (s.toList.isEmpty = decide (s.data.toList = [])) := (by rw [← emp_iff, str_self] : _ = _)
  have hsl : s.data.toList.length = s.size := size_list s
  rw [hsl] at HR
  generalize bndR s.data.toList = V at *
  generalize str (s.data.toList.dropWhile inB) = X at *
  generalize decide (s.data.toList.dropWhile inB = []) = dX at *
  by_cases h0 : s.data.toList = []
  · have h0' : s.toList.isEmpty = true := by rw [HS.out, decide_eq_true h0]
    have HV : Hid (V = false) := (by rw [HR.out]; simp [h0] : V = false)
    clear HR HE HS hsl h0
    go_enter Tryz.func33, Tryz.ntmps33
    go_wp2
    go_ret
    exact ⟨by rw [HV.out]; rfl, Below.refl _ _⟩
  · have h0' : s.toList.isEmpty = false := by rw [HS.out, decide_eq_false h0]
    by_cases h70 : s.size ≤ 70
    · have h70' : (s.size : Int) ≤ 70 := by omega
      have HV : Hid (V = dX) := (by rw [HR.out]; simp [h0, h70] : V = dX)
      have HXe : Hid (X.toList.isEmpty = dX) := HE.out
      clear HR HE HS hsl h0
      cases dX with
      | true =>
        have hXe : X.toList.isEmpty = true := HXe.out
        go_enter Tryz.func33, Tryz.ntmps33
        go_wp2_with fail
        refine (HT.out _).mono ?_
        rintro e w1 ⟨rfl, hb1⟩
        go_wp2
        go_ret
        exact ⟨by rw [HV.out]; rfl, hb1⟩
      | false =>
        have hXe : X.toList.isEmpty = false := HXe.out
        go_enter Tryz.func33, Tryz.ntmps33
        go_wp2_with fail
        refine (HT.out _).mono ?_
        rintro e w1 ⟨rfl, hb1⟩
        go_wp2
        go_ret
        exact ⟨by rw [HV.out]; rfl, hb1⟩
    · have h70' : ¬ (s.size : Int) ≤ 70 := by omega
      have HV : Hid (V = false) := (by rw [HR.out]; simp [h70] : V = false)
      clear HR HE HS hsl h0
      go_enter Tryz.func33, Tryz.ntmps33
      go_wp2
      go_ret
      exact ⟨by rw [HV.out]; rfl, Below.refl _ _⟩

end Mf
end Go.Proofs.YtlnlhhobmgiceaaGreatDoor
