/- Several texts as one. -/
import Derived.Test.YtkpdaialfcegfaaDoorMgU
import Derived.Test.YtkpdaialfcegfaaDoorMgV
import Derived.Test.YtkpdaialfcegfaaDoorMgH
/-
  sheet: asQuery, Pairs; the document's Pairs; the law's pairs.
-/
set_option linter.unusedVariables false
set_option linter.unusedSimpArgs false
namespace Go.Proofs.YtkpdaialfcegfaaDoor
open Go.RowKit Go.Shelf
namespace Tg
open Oc

theorem one_b (W : World) (c : UInt8) :
    (convert 61 9 (.slice (some ⟨W.heap.size, 0, none⟩) 1 1)).run Tryd.prog (W.alloc (.cells #[.int .u8 (c.toNat : Int)] 5)) = .ok (.string (str [c])) (W.alloc (.cells #[.int .u8 (c.toNat : Int)] 5)) := by
  refine run_convert_bytes_back (P := Tryd.prog) (W.alloc (.cells #[.int .u8 (c.toNat : Int)] 5)) 61 9 5 ⟨W.heap.size, 0, none⟩ 1 [c] Tryd.underlying61 Tryd.underlying5 Tryd.underlying9 (fun j hj => ?_)
  have hj0 : j = 0 := by simpa using hj
  subst hj0
  have hc : (W.alloc (.cells #[.int .u8 (c.toNat : Int)] 5)).cell? ⟨W.heap.size, 0, none⟩ = some (.int .u8 (c.toNat : Int)) := by simp [World.cell?, World.alloc, -World.alloc_eq]
  rw [show (Addr.add ⟨W.heap.size, 0, none⟩ 0) = ⟨W.heap.size, 0, none⟩ from rfl, hc]
  rfl
theorem take_aq (s : ByteArray) (k : Nat) (h : k < s.size) : aq (s.data.toList.take (k + 1)) = aq (s.data.toList.take k) ++ aqB (s.data.toList.getD k 0) := by
  rw [take_snoc s k h, aq_app]; simp [aq]
theorem sgn_ix (c : UInt8) : sgn c = decide (0 ≤ Lib.indexByte [38, 61, 43, 37] c) := Lib.contains_iff_indexByte [38, 61, 43, 37] c

set_option maxRecDepth 100000 in
set_option maxHeartbeats 4000000 in
theorem asQuery_any (s : ByteArray) (hs : s.size ≤ 4194304) (w : World) :
    Calls Tryd.prog 27 #[.string s] w fun e w' => e = .returned (.string (str (aq s.data.toList))) ∧ Below w.heap.size w w' := by
  have hcv := fun w => Lib.run_convert_string_bytes (P := Tryd.prog) w 9 61 5 s Tryd.underlying9 Tryd.underlying61 Tryd.underlying5
  have hr := bytes_row (w.alloc (.cells #[.pointer none, .slice none 0 0] 80)) 5 s
  have hbb := below_bytes (w.alloc (.cells #[.pointer none, .slice none 0 0] 80)) 5 s
  have hbd := (Bd.new w (w.heap.size + 2)).below hbb
  have hbw : Below w.heap.size w (Lib.bytesWorld (w.alloc (.cells #[.pointer none, .slice none 0 0] 80)) 5 s) := ((Below.refl _ w).alloc (Nat.le_refl _) _).trans (hbb.mono (by simp))
  have hsz : (Lib.bytesWorld (w.alloc (.cells #[.pointer none, .slice none 0 0] 80)) 5 s).heap.size = w.heap.size + 2 := by rw [Lib.bytesWorld_size, World.size_alloc]
  rw [World.size_alloc] at hr
  have HR : Hid (_) := hr
  have HBD : Hid (_) := hbd
  have HBW : Hid (_) := hbw
  have HSZ : Hid (_) := hsz
  clear hr hbd hbw hbb hsz
  go_enter Tryd.func27, Tryd.ntmps27
  go_wp2
  go_loopw [9] (fun i wr => ∃ k : Nat, k ≤ s.size ∧ i = .int .i64 k ∧ Hid (Bd (w.heap.size + 2) w.heap.size (Lib.byteCells (aq (s.data.toList.take k))) wr) ∧ Hid (Keep (w.heap.size + 1) (Lib.bytesWorld (w.alloc (.cells #[.pointer none, .slice none 0 0] 80)) 5 s) wr) ∧ Hid (Below w.heap.size w wr) ∧ Hid (w.heap.size + 2 ≤ wr.heap.size)) (fun i _ => s.size - (intOf i).toNat)
  case atStart => exact ⟨0, Nat.zero_le _, rfl, HBD, (rfl : Keep _ _ _), HBW, (by rw [HSZ.out]; exact Nat.le_refl _ : _ ≤ _)⟩
  case round =>
    obtain ⟨k, hk, rfl, hB, hK, hW, hS⟩ := hrel
    by_cases hlt : k < s.size
    · have hck := (hK.out.cell k).trans (HR.out.cell k hlt)
      have hb1 : (byt s k) = ((s.data.toList.getD k 0).toNat : Int) := rfl
      rw [hb1] at hck
      have HT : Hid (_) := take_aq s k hlt
      generalize s.data.toList.getD k 0 = c at *
      have hel := aq_len (s.data.toList.take k)
      have htl : (s.data.toList.take k).length ≤ s.size := by rw [List.length_take, size_list]; omega
      have HL : Hid (_) := hel
      clear hel
      have hcn := c.toNat_lt
      have HFIN : Hid (∀ w', Bd (w.heap.size + 2) w.heap.size (Lib.byteCells (aq (s.data.toList.take k)) ++ Lib.byteCells (aqB c)) w' → Fr (w.heap.size + 2) w.heap.size wr w' → Hid (Bd (w.heap.size + 2) w.heap.size (Lib.byteCells (aq (s.data.toList.take (k + 1)))) w') ∧ Hid (Keep (w.heap.size + 1) (Lib.bytesWorld (w.alloc (.cells #[.pointer none, .slice none 0 0] 80)) 5 s) w') ∧ Hid (Below w.heap.size w w') ∧ Hid (w.heap.size + 2 ≤ w'.heap.size)) := fun w' h1 h2 =>
        ⟨(by rw [HT.out, cells_app]; exact h1 : Bd _ _ _ _), hK.out.trans (h2.keep (by omega) (by omega)), hW.out.trans (h2.below (by omega) (Nat.le_refl _)), Nat.le_trans hS.out h2.size⟩
      have HI : Hid (∀ W, Calls Tryd.prog 65 #[.string ⟨#[38, 61, 43, 37]⟩, .int .u8 (c.toNat : Int)] W fun e w' => e = .returned (.int .i64 (Lib.indexByte [38, 61, 43, 37] c)) ∧ w' = W) := fun W => by
        have h := Tryd.strings_IndexByte ⟨#[38, 61, 43, 37]⟩ (c.toNat : Int) W
        rw [show ((c.toNat : Int).toNat.toUInt8) = c by simp] at h
        exact h
      have HSg := sgn_ix c
      generalize Lib.indexByte [38, 61, 43, 37] c = IX at *
      by_cases hu : 0 ≤ IX
      · have he : aqB c = [c] := by unfold aqB; rw [if_pos (by rw [HSg]; exact decide_eq_true hu)]
        rw [he, cells_one] at HFIN
        clear HSg
        go_wp2_with fail
        refine (HI.out _).mono ?_
        rintro e w1 ⟨rfl, hw1⟩
        rw [hw1]
        clear hw1
        go_wp2_with fail
        refine (WriteByte_bd _ _ _ _ _ hB.out (by rw [cells_len]; have := HL.out; omega) hS.out).mono ?_
        rintro e w2 ⟨rfl, hB2, hF2⟩
        obtain ⟨q1, q2, q3, q4⟩ := HFIN.out _ hB2 hF2
        clear hB2 hF2
        go_wp2
        go_roundw
        case rel => exact ⟨k + 1, by omega, by go_num, q1, q2, q3, q4⟩
        case measure => simp [intOf]; omega
      · have he : aqB c = encB c := by unfold aqB; rw [if_neg (by rw [HSg]; exact fun h => hu (of_decide_eq_true h))]
        rw [he] at HFIN
        clear HSg
        have hcb := fun W : World => one_b W c
        have HE : Hid (∀ W, Calls Tryd.prog 66 #[.string (str [c])] W fun e w' => e = .returned (.string (str (encB c))) ∧ Below W.heap.size W w') := fun W => by
          have h := Encode_any (str [c]) (by rw [str_size]; simp) W
          rw [str_list, show enc [c] = encB c by simp [enc]] at h
          exact h
        have hez : (str (encB c)).size ≤ 3 := by rw [str_size]; unfold encB; split <;> simp
        rw [← cells_str (encB c)] at HFIN
        generalize str [c] = C1 at *
        generalize str (encB c) = E1 at *
        have HBn : Hid (Bd (w.heap.size + 2) w.heap.size (Lib.byteCells (aq (s.data.toList.take k))) (wr.alloc (.cells #[.int .u8 (c.toNat : Int)] 5))) := hB.out.below ((Below.refl _ wr).alloc (Nat.le_refl _) _)
        have HFn : Hid (Fr (w.heap.size + 2) w.heap.size wr (wr.alloc (.cells #[.int .u8 (c.toNat : Int)] 5))) := Fr.alloc _ _ hS.out
        go_wp2_with fail
        refine (HI.out _).mono ?_
        rintro e w1 ⟨rfl, hw1⟩
        rw [hw1]
        clear hw1
        go_wp2_with fail
        refine (HE.out _).mono ?_
        rintro e w2 ⟨rfl, hb2⟩
        have HB2 : Hid (Bd (w.heap.size + 2) w.heap.size (Lib.byteCells (aq (s.data.toList.take k))) w2) := HBn.out.below hb2
        have HF2 : Hid (Fr (w.heap.size + 2) w.heap.size wr w2) := HFn.out.trans (Fr.of_below hb2 (Nat.le_trans hS.out HFn.out.size))
        have HS2 : Hid (w.heap.size + 2 ≤ w2.heap.size) := Nat.le_trans hS.out HF2.out.size
        clear hb2
        go_wp2_with fail
        refine (WriteString_bd _ _ _ _ _ HB2.out (by rw [cells_len]; have := HL.out; omega) HS2.out).mono ?_
        rintro e w3 ⟨rfl, hB3, hF3⟩
        obtain ⟨q1, q2, q3, q4⟩ := HFIN.out _ hB3 (HF2.out.trans hF3)
        clear hB3 hF3
        go_wp2
        go_roundw
        case rel => exact ⟨k + 1, by omega, by go_num, q1, q2, q3, q4⟩
        case measure => simp [intOf]; omega
    · obtain rfl : k = s.size := by omega
      have hall : s.data.toList.take s.size = s.data.toList := List.take_of_length_le (by rw [size_list]; exact Nat.le_refl _)
      rw [hall] at hB
      clear hall
      go_wp2_with fail
      refine (String_bd _ _ _ _ hB.out hS.out).mono ?_
      rintro e w2 ⟨rfl, hb2, _⟩
      go_wp2
      go_ret
      exact ⟨rfl, hW.out.trans (hb2.mono (by omega))⟩

theorem query_aq (l : List UInt8) (h : whole l = true) : queryR (aq l) = (pairsR l, 0, 0) := by
  unfold queryR
  rw [chk_ok queryOk 54 _ (aq_says l h).2.2.2]
  have e : qs (splitB 38 (aq l)) = pairsR l := pairs_aq l h
  simp [e]

set_option maxRecDepth 100000 in
set_option maxHeartbeats 1000000 in
theorem Pairs_any (s : ByteArray) (hs : s.size ≤ 4194304) (w : World) (hm : ML w) :
    Calls Tryd.prog 8 #[.string s] w fun e w' => ∃ v, e = .returned (.tuple #[v, .int .i64 ((shpR s.data.toList).2.1 : Int), .int .i64 (shpR s.data.toList).2.2]) ∧ OwnQ 58 w.heap.size v (shpR s.data.toList).1 w' ∧ Below w.heap.size w w' := by
  have HD : Hid (∀ w, _) := fun w => Decode_any s (by omega) w
  have HQ : Hid (∀ w, ML w → _) := fun w h => Query_any (str (aq s.data.toList)) (by rw [str_size]; have := aq_len s.data.toList; rw [size_list] at this; omega) w h
  rw [str_list] at HQ
  have HA : Hid (∀ w, _) := fun w => asQuery_any s hs w
  have HM : Hid (ML w) := hm
  clear hm
  cases hw : whole s.data.toList with
  | false =>
    have e : shpR s.data.toList = ([], (decR s.data.toList).2.1, 51) := by unfold shpR; rw [hw]; rfl
    rw [e, (decR_not _ hw).2] at *
    clear e hw HQ HA
    generalize decR s.data.toList = D at *
    obtain ⟨D1, D2, D3⟩ := D
    dsimp only at HD ⊢
    go_enter Tryd.func8, Tryd.ntmps8
    go_wp2_with fail
    refine (HD.out _).mono ?_
    rintro e w1 ⟨rfl, hb1⟩
    go_wp2
    go_ret3
    exact ⟨.slice none 0 0, rfl, ownQ_nil _ _ _, hb1⟩
  | true =>
    have e : shpR s.data.toList = (pairsR s.data.toList, 0, 0) := by unfold shpR; rw [hw]; rfl
    rw [query_aq _ hw] at HQ
    have d0 : (decR s.data.toList).2.2 = 0 := by rw [whole_dec, hw]; rfl
    rw [e]
    rw [d0] at HD
    clear e hw d0
    generalize decR s.data.toList = D at *
    obtain ⟨D1, D2, D3⟩ := D
    dsimp only at HD HQ ⊢
    generalize str (aq s.data.toList) = Q at *
    generalize pairsR s.data.toList = T at *
    go_enter Tryd.func8, Tryd.ntmps8
    go_wp2_with fail
    refine (HD.out _).mono ?_
    rintro e w1 ⟨rfl, hb1⟩
    have HB1 : Hid (Below w.heap.size w w1) := hb1
    clear hb1
    go_wp2_with fail
    refine (HA.out _).mono ?_
    rintro e w2 ⟨rfl, hb2⟩
    have HB2 : Hid (Below w.heap.size w w2) := HB1.out.trans (hb2.mono HB1.out.size)
    clear hb2
    go_wp2_with fail
    refine (HQ.out _ (HM.out.below HB2.out)).mono ?_
    rintro e w3 ⟨v, rfl, ho, hb3⟩
    go_wp2
    go_ret3
    exact ⟨v, rfl, own_mono3 ho HB2.out.size, HB2.out.trans (hb3.mono HB2.out.size)⟩

set_option maxRecDepth 100000 in
set_option maxHeartbeats 1000000 in
theorem rPairs15_any (s : ByteArray) (hs : s.size ≤ 4194304) (w : World) :
    Calls Tryd.prog 9 #[.string s] w fun e w' => ∃ v, e = .returned (.tuple #[v, .int .i64 ((shpR s.data.toList).2.1 : Int), .int .i64 (shpR s.data.toList).2.2]) ∧ OwnQ 59 w.heap.size v (shpR s.data.toList).1 w' ∧ Below w.heap.size w w' := by
  have HD : Hid (∀ w, _) := fun w => rDecode_any s (by omega) w
  have HQ : Hid (∀ w, _) := fun w => rPairs_any s hs w
  cases hw : whole s.data.toList with
  | false =>
    have e : shpR s.data.toList = ([], (decR s.data.toList).2.1, 51) := by unfold shpR; rw [hw]; rfl
    rw [e, (decR_not _ hw).2] at *
    clear e hw HQ
    generalize decR s.data.toList = D at *
    obtain ⟨D1, D2, D3⟩ := D
    dsimp only at HD ⊢
    go_enter Tryd.func9, Tryd.ntmps9
    go_wp2_with fail
    refine (HD.out _).mono ?_
    rintro e w1 ⟨rfl, hb1⟩
    go_wp2
    go_ret3
    exact ⟨_, rfl, ownQ_empty _ _ hb1.size, hb1.alloc hb1.size _⟩
  | true =>
    have e : shpR s.data.toList = (pairsR s.data.toList, 0, 0) := by unfold shpR; rw [hw]; rfl
    have d0 : (decR s.data.toList).2.2 = 0 := by rw [whole_dec, hw]; rfl
    rw [e]
    rw [d0] at HD
    rw [show qs (splitB 38 s.data.toList) = pairsR s.data.toList from rfl] at HQ
    clear e hw d0
    generalize decR s.data.toList = D at *
    obtain ⟨D1, D2, D3⟩ := D
    dsimp only at HD HQ ⊢
    generalize pairsR s.data.toList = T at *
    go_enter Tryd.func9, Tryd.ntmps9
    go_wp2_with fail
    refine (HD.out _).mono ?_
    rintro e w1 ⟨rfl, hb1⟩
    have HB1 : Hid (Below w.heap.size w w1) := hb1
    clear hb1
    go_wp2_with fail
    refine (HQ.out _).mono ?_
    rintro e w2 ⟨v, rfl, ho, hb2⟩
    go_wp2
    go_ret3
    exact ⟨v, rfl, own_mono3 ho HB1.out.size, HB1.out.trans (hb2.mono HB1.out.size)⟩

end Tg
end Go.Proofs.YtkpdaialfcegfaaDoor

namespace Go.Proofs
end Go.Proofs
