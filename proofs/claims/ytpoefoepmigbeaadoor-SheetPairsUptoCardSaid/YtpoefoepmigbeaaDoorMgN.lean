/- Several texts as one. -/
import Derived.Test.YtpoefoepmigbeaaDoorMgL
import Derived.Test.YtpoefoepmigbeaaDoorMgM
import Derived.Shelf.Strings.SlTrimAscii
import Derived.Shelf.Strings.Builder1
import Derived.Shelf.Strings.Builder2
import Derived.Shelf.Strings.Trim
import Derived.Shelf.Small.Utf8
import Derived.Shelf.Small.Strs
import Derived.Shelf.Strings.BuilderF
import Derived.Shelf.Strings.BuilderK
import Derived.Shelf.Strings.Search1
import Derived.Shelf.Strings.Search2
import Derived.Shelf.Strings.Search3
import Derived.Shelf.Strings.Cut
import Derived.Shelf.Strings.Count
import Derived.Shelf.LaysM
import Derived.Shelf.Strings.Shaped
import Derived.Shelf.Strings.Split
import Derived.Shelf.Strings.Replace
import Derived.Shelf.Strings.SplitShaped
import Derived.Shelf.Strings.Runes
import Derived.Shelf.Strings.AsciiSet
import Derived.Shelf.Unicode.DecodeSlow
import Derived.Test.YtpoefoepmigbeaaDoorProg
import Derived.Test.YtpoefoepmigbeaaDoorMgE
/-
  sheet: asQuery, Pairs; the document's Pairs; the law's pairs.
-/
set_option linter.unusedVariables false
set_option linter.unusedSimpArgs false
namespace Go.Proofs.YtpoefoepmigbeaaDoor
open Go.RowKit Go.Shelf
namespace Tg
open Oc

theorem one_b (W : World) (c : UInt8) :
    (convert 48 9 (.slice (some ⟨W.heap.size, 0, none⟩) 1 1)).run Tryd.prog (W.alloc (.cells #[.int .u8 (c.toNat : Int)] 5)) = .ok (.string (str [c])) (W.alloc (.cells #[.int .u8 (c.toNat : Int)] 5)) := by
  refine run_convert_bytes_back (P := Tryd.prog) (W.alloc (.cells #[.int .u8 (c.toNat : Int)] 5)) 48 9 5 ⟨W.heap.size, 0, none⟩ 1 [c] Tryd.underlying48 Tryd.underlying5 Tryd.underlying9 (fun j hj => ?_)
  have hj0 : j = 0 := by simpa using hj
  subst hj0
  have hc : (W.alloc (.cells #[.int .u8 (c.toNat : Int)] 5)).cell? ⟨W.heap.size, 0, none⟩ = some (.int .u8 (c.toNat : Int)) := by simp [World.cell?, World.alloc, -World.alloc_eq]
  rw [show (Addr.add ⟨W.heap.size, 0, none⟩ 0) = ⟨W.heap.size, 0, none⟩ from rfl, hc]
  rfl
theorem take_aq (s : ByteArray) (k : Nat) (h : k < s.size) : aq (s.data.toList.take (k + 1)) = aq (s.data.toList.take k) ++ aqB (s.data.toList.getD k 0) := by
  rw [take_snoc s k h, aq_app]; simp [aq]
theorem sgn_ix (c : UInt8) : sgn c = decide (0 ≤ Lib.indexByte [38, 61, 43, 37] c) := Lib.contains_iff_indexByte [38, 61, 43, 37] c

set_option maxRecDepth 100000 in
set_option maxHeartbeats 4000000 in
theorem asQuery_any (s : ByteArray) (hs : s.size ≤ 4194304) (w : World) :
    Calls Tryd.prog 14 #[.string s] w fun e w' => e = .returned (.string (str (aq s.data.toList))) ∧ Below w.heap.size w w' := by
  have hcv := fun w => Lib.run_convert_string_bytes (P := Tryd.prog) w 9 48 5 s Tryd.underlying9 Tryd.underlying48 Tryd.underlying5
  have hr := bytes_row (w.alloc (.cells #[.pointer none, .slice none 0 0] 51)) 5 s
  have hbb := below_bytes (w.alloc (.cells #[.pointer none, .slice none 0 0] 51)) 5 s
  have hbd := (Bd.new w (w.heap.size + 2)).below hbb
  have hbw : Below w.heap.size w (Lib.bytesWorld (w.alloc (.cells #[.pointer none, .slice none 0 0] 51)) 5 s) := ((Below.refl _ w).alloc (Nat.le_refl _) _).trans (hbb.mono (by simp))
  have hsz : (Lib.bytesWorld (w.alloc (.cells #[.pointer none, .slice none 0 0] 51)) 5 s).heap.size = w.heap.size + 2 := by rw [Lib.bytesWorld_size, World.size_alloc]
  rw [World.size_alloc] at hr
  have HR : Hid (_) := hr
  have HBD : Hid (_) := hbd
  have HBW : Hid (_) := hbw
  have HSZ : Hid (_) := hsz
  clear hr hbd hbw hbb hsz
  go_enter Tryd.func14, Tryd.ntmps14
  go_wp2
  go_loopw [9] (fun i wr => ∃ k : Nat, k ≤ s.size ∧ i = .int .i64 k ∧ Hid (Bd (w.heap.size + 2) w.heap.size (Lib.byteCells (aq (s.data.toList.take k))) wr) ∧ Hid (Keep (w.heap.size + 1) (Lib.bytesWorld (w.alloc (.cells #[.pointer none, .slice none 0 0] 51)) 5 s) wr) ∧ Hid (Below w.heap.size w wr) ∧ Hid (w.heap.size + 2 ≤ wr.heap.size)) (fun i _ => s.size - (intOf i).toNat)
  case atStart => exact ⟨0, Nat.zero_le _, rfl, HBD, (rfl : Keep _ _ _), HBW, (by rw [HSZ.out]; exact Nat.le_refl _ : _ ≤ _)⟩
  case round =>
    obtain ⟨k, hk, rfl, hB, hK, hW, hS⟩ := hrel
    by_cases hlt : k < s.size
    · have hck := (hK.out.cell k).trans (HR.out.cell k hlt)
      have hb1 : (byt s k) = ((s.data.toList.getD k 0).toNat : Int) := rfl
      rw [hb1] at hck
      have HT : Hid (_) := take_aq s k hlt
      generalize s.data.toList.getD k 0 = c at *
      have hel := aq_len (s.data.toList.take k)
      have htl : (s.data.toList.take k).length ≤ s.size := by rw [List.length_take, size_list]; omega
      have HL : Hid (_) := hel
      clear hel
      have hcn := c.toNat_lt
      have HFIN : Hid (∀ w', Bd (w.heap.size + 2) w.heap.size (Lib.byteCells (aq (s.data.toList.take k)) ++ Lib.byteCells (aqB c)) w' → Fr (w.heap.size + 2) w.heap.size wr w' → Hid (Bd (w.heap.size + 2) w.heap.size (Lib.byteCells (aq (s.data.toList.take (k + 1)))) w') ∧ Hid (Keep (w.heap.size + 1) (Lib.bytesWorld (w.alloc (.cells #[.pointer none, .slice none 0 0] 51)) 5 s) w') ∧ Hid (Below w.heap.size w w') ∧ Hid (w.heap.size + 2 ≤ w'.heap.size)) := fun w' h1 h2 =>
        ⟨(by rw [HT.out, cells_app]; exact h1 : Bd _ _ _ _), hK.out.trans (h2.keep (by omega) (by omega)), hW.out.trans (h2.below (by omega) (Nat.le_refl _)), Nat.le_trans hS.out h2.size⟩
      have HI : Hid (∀ W, Calls Tryd.prog 30 #[.string ⟨#[38, 61, 43, 37]⟩, .int .u8 (c.toNat : Int)] W fun e w' => e = .returned (.int .i64 (Lib.indexByte [38, 61, 43, 37] c)) ∧ w' = W) := fun W => by
        have h := Tryd.strings_IndexByte ⟨#[38, 61, 43, 37]⟩ (c.toNat : Int) W
        rw [show ((c.toNat : Int).toNat.toUInt8) = c by simp] at h
        exact h
      have HSg := sgn_ix c
      generalize Lib.indexByte [38, 61, 43, 37] c = IX at *
      by_cases hu : 0 ≤ IX
      · have he : aqB c = [c] := by unfold aqB; rw [if_pos (by rw [HSg]; exact decide_eq_true hu)]
        rw [he, cells_one] at HFIN
        clear HSg
        go_wp2_with fail
        refine (HI.out _).mono ?_
        rintro e w1 ⟨rfl, hw1⟩
        rw [hw1]
        clear hw1
        go_wp2_with fail
        refine (WriteByte_bd _ _ _ _ _ hB.out (by rw [cells_len]; have := HL.out; omega) hS.out).mono ?_
        rintro e w2 ⟨rfl, hB2, hF2⟩
        obtain ⟨q1, q2, q3, q4⟩ := HFIN.out _ hB2 hF2
        clear hB2 hF2
        go_wp2
        go_roundw
        case rel => exact ⟨k + 1, by omega, by go_num, q1, q2, q3, q4⟩
        case measure => simp [intOf]; omega
      · have he : aqB c = encB c := by unfold aqB; rw [if_neg (by rw [HSg]; exact fun h => hu (of_decide_eq_true h))]
        rw [he] at HFIN
        clear HSg
        have hcb := fun W : World => one_b W c
        have HE : Hid (∀ W, Calls Tryd.prog 31 #[.string (str [c])] W fun e w' => e = .returned (.string (str (encB c))) ∧ Below W.heap.size W w') := fun W => by
          have h := Encode_any (str [c]) (by rw [str_size]; simp) W
          rw [str_list, show enc [c] = encB c by simp [enc]] at h
          exact h
        have hez : (str (encB c)).size ≤ 3 := by rw [str_size]; unfold encB; split <;> simp
        rw [← cells_str (encB c)] at HFIN
        generalize str [c] = C1 at *
        generalize str (encB c) = E1 at *
        have HBn : Hid (Bd (w.heap.size + 2) w.heap.size (Lib.byteCells (aq (s.data.toList.take k))) (wr.alloc (.cells #[.int .u8 (c.toNat : Int)] 5))) := hB.out.below ((Below.refl _ wr).alloc (Nat.le_refl _) _)
        have HFn : Hid (Fr (w.heap.size + 2) w.heap.size wr (wr.alloc (.cells #[.int .u8 (c.toNat : Int)] 5))) := Fr.alloc _ _ hS.out
        go_wp2_with fail
        refine (HI.out _).mono ?_
        rintro e w1 ⟨rfl, hw1⟩
        rw [hw1]
        clear hw1
        go_wp2_with fail
        refine (HE.out _).mono ?_
        rintro e w2 ⟨rfl, hb2⟩
        have HB2 : Hid (Bd (w.heap.size + 2) w.heap.size (Lib.byteCells (aq (s.data.toList.take k))) w2) := HBn.out.below hb2
        have HF2 : Hid (Fr (w.heap.size + 2) w.heap.size wr w2) := HFn.out.trans (Fr.of_below hb2 (Nat.le_trans hS.out HFn.out.size))
        have HS2 : Hid (w.heap.size + 2 ≤ w2.heap.size) := Nat.le_trans hS.out HF2.out.size
        clear hb2
        go_wp2_with fail
        refine (WriteString_bd _ _ _ _ _ HB2.out (by rw [cells_len]; have := HL.out; omega) HS2.out).mono ?_
        rintro e w3 ⟨rfl, hB3, hF3⟩
        obtain ⟨q1, q2, q3, q4⟩ := HFIN.out _ hB3 (HF2.out.trans hF3)
        clear hB3 hF3
        go_wp2
        go_roundw
        case rel => exact ⟨k + 1, by omega, by go_num, q1, q2, q3, q4⟩
        case measure => simp [intOf]; omega
    · obtain rfl : k = s.size := by omega
      have hall : s.data.toList.take s.size = s.data.toList := List.take_of_length_le (by rw [size_list]; exact Nat.le_refl _)
      rw [hall] at hB
      clear hall
      go_wp2_with fail
      refine (String_bd _ _ _ _ hB.out hS.out).mono ?_
      rintro e w2 ⟨rfl, hb2, _⟩
      go_wp2
      go_ret
      exact ⟨rfl, hW.out.trans (hb2.mono (by omega))⟩

theorem query_aq (l : List UInt8) (h : whole l = true) : queryR (aq l) = (pairsR l, 0, 0) := by
  unfold queryR
  rw [chk_ok queryOk 54 _ (aq_says l h).2.2.2]
  have e : qs (splitB 38 (aq l)) = pairsR l := pairs_aq l h
  simp [e]

set_option maxRecDepth 100000 in
set_option maxHeartbeats 1000000 in
theorem Pairs_any (s : ByteArray) (hs : s.size ≤ 4194304) (w : World) (hm : ML w) :
    Calls Tryd.prog 5 #[.string s] w fun e w' => ∃ v, e = .returned (.tuple #[v, .int .i64 ((shpR s.data.toList).2.1 : Int), .int .i64 (shpR s.data.toList).2.2]) ∧ OwnQ 45 w.heap.size v (shpR s.data.toList).1 w' ∧ Below w.heap.size w w' := by
  have HD : Hid (∀ w, _) := fun w => Decode_any s (by omega) w
  have HQ : Hid (∀ w, ML w → _) := fun w h => Query_any (str (aq s.data.toList)) (by rw [str_size]; have := aq_len s.data.toList; rw [size_list] at this; omega) w h
  rw [str_list] at HQ
  have HA : Hid (∀ w, _) := fun w => asQuery_any s hs w
  have HM : Hid (ML w) := hm
  clear hm
  cases hw : whole s.data.toList with
  | false =>
    have e : shpR s.data.toList = ([], (decR s.data.toList).2.1, 51) := by unfold shpR; rw [hw]; rfl
    rw [e, (decR_not _ hw).2] at *
    clear e hw HQ HA
    generalize decR s.data.toList = D at *
    obtain ⟨D1, D2, D3⟩ := D
    dsimp only at HD ⊢
    go_enter Tryd.func5, Tryd.ntmps5
    go_wp2_with fail
    refine (HD.out _).mono ?_
    rintro e w1 ⟨rfl, hb1⟩
    go_wp2
    go_ret3
    exact ⟨.slice none 0 0, rfl, ownQ_nil _ _ _, hb1⟩
  | true =>
    have e : shpR s.data.toList = (pairsR s.data.toList, 0, 0) := by unfold shpR; rw [hw]; rfl
    rw [query_aq _ hw] at HQ
    have d0 : (decR s.data.toList).2.2 = 0 := by rw [whole_dec, hw]; rfl
    rw [e]
    rw [d0] at HD
    clear e hw d0
    generalize decR s.data.toList = D at *
    obtain ⟨D1, D2, D3⟩ := D
    dsimp only at HD HQ ⊢
    generalize str (aq s.data.toList) = Q at *
    generalize pairsR s.data.toList = T at *
    go_enter Tryd.func5, Tryd.ntmps5
    go_wp2_with fail
    refine (HD.out _).mono ?_
    rintro e w1 ⟨rfl, hb1⟩
    have HB1 : Hid (Below w.heap.size w w1) := hb1
    clear hb1
    go_wp2_with fail
    refine (HA.out _).mono ?_
    rintro e w2 ⟨rfl, hb2⟩
    have HB2 : Hid (Below w.heap.size w w2) := HB1.out.trans (hb2.mono HB1.out.size)
    clear hb2
    go_wp2_with fail
    refine (HQ.out _ (HM.out.below HB2.out)).mono ?_
    rintro e w3 ⟨v, rfl, ho, hb3⟩
    go_wp2
    go_ret3
    exact ⟨v, rfl, own_mono3 ho HB2.out.size, HB2.out.trans (hb3.mono HB2.out.size)⟩

set_option maxRecDepth 100000 in
set_option maxHeartbeats 1000000 in
theorem rPairs15_any (s : ByteArray) (hs : s.size ≤ 4194304) (w : World) :
    Calls Tryd.prog 6 #[.string s] w fun e w' => ∃ v, e = .returned (.tuple #[v, .int .i64 ((shpR s.data.toList).2.1 : Int), .int .i64 (shpR s.data.toList).2.2]) ∧ OwnQ 46 w.heap.size v (shpR s.data.toList).1 w' ∧ Below w.heap.size w w' := by
  have HD : Hid (∀ w, _) := fun w => rDecode_any s (by omega) w
  have HQ : Hid (∀ w, _) := fun w => rPairs_any s hs w
  cases hw : whole s.data.toList with
  | false =>
    have e : shpR s.data.toList = ([], (decR s.data.toList).2.1, 51) := by unfold shpR; rw [hw]; rfl
    rw [e, (decR_not _ hw).2] at *
    clear e hw HQ
    generalize decR s.data.toList = D at *
    obtain ⟨D1, D2, D3⟩ := D
    dsimp only at HD ⊢
    go_enter Tryd.func6, Tryd.ntmps6
    go_wp2_with fail
    refine (HD.out _).mono ?_
    rintro e w1 ⟨rfl, hb1⟩
    go_wp2
    go_ret3
    exact ⟨_, rfl, ownQ_empty _ _ hb1.size, hb1.alloc hb1.size _⟩
  | true =>
    have e : shpR s.data.toList = (pairsR s.data.toList, 0, 0) := by unfold shpR; rw [hw]; rfl
    have d0 : (decR s.data.toList).2.2 = 0 := by rw [whole_dec, hw]; rfl
    rw [e]
    rw [d0] at HD
    rw [show qs (splitB 38 s.data.toList) = pairsR s.data.toList from rfl] at HQ
    clear e hw d0
    generalize decR s.data.toList = D at *
    obtain ⟨D1, D2, D3⟩ := D
    dsimp only at HD HQ ⊢
    generalize pairsR s.data.toList = T at *
    go_enter Tryd.func6, Tryd.ntmps6
    go_wp2_with fail
    refine (HD.out _).mono ?_
    rintro e w1 ⟨rfl, hb1⟩
    have HB1 : Hid (Below w.heap.size w w1) := hb1
    clear hb1
    go_wp2_with fail
    refine (HQ.out _).mono ?_
    rintro e w2 ⟨v, rfl, ho, hb2⟩
    go_wp2
    go_ret3
    exact ⟨v, rfl, own_mono3 ho HB1.out.size, HB1.out.trans (hb2.mono HB1.out.size)⟩

end Tg
end Go.Proofs.YtpoefoepmigbeaaDoor

/-
  DERIVED: THE SHELF's CONTRACTS AT THIS DUMP, IN PLAIN WORDS (tools/lay-plain.mjs out of 'TrydShelf.lean', which tools/lay-shelf.mjs wrote): THE SAME DECLARATIONS UNDER THE SAME NAMES: 'import', 'namespace', 'open', 'def', 'theorem' AND NOTHING ELSE: no command of the shelf's: FOR A HAND-IN. Each laying: the table of numbers ('.._ren') and one theorem, a field a fact of the dump's own or the kernel's comparison; each contract: ONE APPLICATION.
-/
namespace Go.Proofs
open Go.Shelf
def Tryd.lays161_ren : Go.Shelf.Ren := ⟨fun | 161 => 37 | 231 => 51 | 227 => 52 | 233 => 53 | 235 => 54 | 228 => 64 | 197 => 58 | 151 => 65 | 260 => 70 | 152 => 73 | 137 => 30 | 119 => 78 | 224 => 76 | 225 => 75 | 217 => 48 | 266 => 62 | n => n, fun | 9 => 9 | 4 => 4 | 3 => 3 | 5 => 5 | 117 => 90 | 116 => 89 | 0 => 0 | 124 => 93 | 105 => 96 | 21 => 21 | 119 => 108 | 46 => 84 | 139 => 111 | 138 => 110 | n => n, fun | 3 => 1 | 4 => 2 | n => n⟩
theorem Tryd.lays161 : Go.Proofs.Lays.n161 Tryd.prog Tryd.lays161_ren := {
  mixed := by kernel_rfl
  f119 := Tryd.func78.trans (congrArg some (by kernel_rfl))
  f137 := Tryd.func30.trans (congrArg some (by kernel_rfl))
  f151 := Tryd.func65.trans (congrArg some (by kernel_rfl))
  f152 := Tryd.func73.trans (congrArg some (by kernel_rfl))
  f161 := Tryd.func37.trans (congrArg some (by kernel_rfl))
  f197 := Tryd.func58.trans (congrArg some (by kernel_rfl))
  f217 := Tryd.func48.trans (congrArg some (by kernel_rfl))
  f224 := Tryd.func76.trans (congrArg some (by kernel_rfl))
  f225 := Tryd.func75.trans (congrArg some (by kernel_rfl))
  f227 := Tryd.func52.trans (congrArg some (by kernel_rfl))
  f228 := Tryd.func64.trans (congrArg some (by kernel_rfl))
  f231 := Tryd.func51.trans (congrArg some (by kernel_rfl))
  f233 := Tryd.func53.trans (congrArg some (by kernel_rfl))
  f235 := Tryd.func54.trans (congrArg some (by kernel_rfl))
  f260 := Tryd.func70.trans (congrArg some (by kernel_rfl))
  f266 := Tryd.func62.trans (congrArg some (by kernel_rfl))
  t0 := Tryd.underlying0
  a0 := Tryd.isAgg0
  z0 := Tryd.sizeOf0
  v0 := Tryd.zeroValue0
  t3 := Tryd.underlying3
  a3 := Tryd.isAgg3
  z3 := Tryd.sizeOf3
  v3 := Tryd.zeroValue3
  t4 := Tryd.underlying4
  a4 := Tryd.isAgg4
  z4 := Tryd.sizeOf4
  v4 := Tryd.zeroValue4
  t5 := Tryd.underlying5
  a5 := Tryd.isAgg5
  z5 := Tryd.sizeOf5
  v5 := Tryd.zeroValue5
  t9 := Tryd.underlying9
  a9 := Tryd.isAgg9
  z9 := Tryd.sizeOf9
  v9 := Tryd.zeroValue9
  t21 := Tryd.underlying21
  a21 := Tryd.isAgg21
  z21 := Tryd.sizeOf21
  v21 := Tryd.zeroValue21
  t46 := Tryd.underlying84
  a46 := Tryd.isAgg84
  z46 := Tryd.sizeOf84
  v46 := Tryd.zeroValue84
  t105 := Tryd.underlying96
  a105 := Tryd.isAgg96
  z105 := Tryd.sizeOf96
  v105 := Tryd.zeroValue96
  t116 := Tryd.underlying89
  a116 := Tryd.isAgg89
  z116 := Tryd.sizeOf89
  t117 := Tryd.underlying90
  a117 := Tryd.isAgg90
  z117 := Tryd.sizeOf90
  v117 := Tryd.zeroValue90
  t119 := Tryd.underlying108
  a119 := Tryd.isAgg108
  z119 := Tryd.sizeOf108
  t124 := Tryd.underlying93
  a124 := Tryd.isAgg93
  z124 := Tryd.sizeOf93
  v124 := Tryd.zeroValue93
  t138 := Tryd.underlying110
  a138 := Tryd.isAgg110
  z138 := Tryd.sizeOf110
  v138 := Tryd.zeroValue110
  t139 := Tryd.underlying111
  a139 := Tryd.isAgg111
  z139 := Tryd.sizeOf111
  v139 := Tryd.zeroValue111
  g3 := by kernel_rfl
  g4 := by kernel_rfl }
open Go.RowKit in
/-- strings.TrimLeft: "TrimLeft returns a slice of the string s with all leading Unicode code points contained in cutset removed.": AT A cutset OF ONE ASCII BYTE. The world is as it was. (LAID: no walk: one application.) -/
theorem Tryd.strings_TrimLeft_one (s : ByteArray) (c : UInt8) (hc : c.toNat < 128) (w : World) :
    Calls Tryd.prog 37 #[.string s, .string ⟨#[c]⟩] w fun e w' => e = .returned (.string ⟨(Lib.trimLeftB s.data.toList c).toArray⟩) ∧ w' = w := Any.strings_TrimLeft_one Tryd.lays161 s c hc w
end Go.Proofs

/-
  The laws of sheet's pairs: IsBoundary of "B", awake, the law's pairs.
-/
set_option linter.unusedVariables false
set_option linter.unusedSimpArgs false
namespace Go.Proofs.YtpoefoepmigbeaaDoor
open Go.RowKit Go.Shelf
namespace Tg
open Oc

set_option maxRecDepth 100000 in
set_option maxHeartbeats 1000000 in
theorem pairs15_any (v1 v2 : Value) (t : List Prm) (w : World) (h1 : RdQ v1 t w) (h2 : RdQ v2 t w) (hl : t.length ≤ 4294967296) :
    Calls Tryd.prog 8 #[v1, v2] w fun e w' => e = .returned (.bool true) ∧ ∃ n, w' = w.drewN n := by
  obtain ⟨a1, c1, rfl, h1⟩ := h1
  obtain ⟨a2, c2, rfl, h2⟩ := h2
  have hne : ((t.length : Int) != (t.length : Int)) = false := by simp
  go_enter Tryd.func8, Tryd.ntmps8
  go_wp2
  go_loopw [5] (fun i wr => ∃ k : Nat, k ≤ t.length ∧ i = .int .i64 k ∧ Hid (∃ n, wr = w.drewN n)) (fun i _ => t.length - (intOf i).toNat)
  case atStart => exact ⟨0, Nat.zero_le _, rfl, (⟨0, rfl⟩ : ∃ n, w = w.drewN n)⟩
  case round =>
    obtain ⟨k, hk, rfl, hw⟩ := hrel
    obtain ⟨n, rfl⟩ := hw.out
    clear hw
    by_cases hlt : k < t.length
    · rcases h1 with h | ⟨g1, o1, rfl, hc1, hcell1⟩
      · rw [h] at hlt; simp at hlt
      rcases h2 with h | ⟨g2, o2, rfl, hc2, hcell2⟩
      · rw [h] at hlt; simp at hlt
      obtain ⟨p0, p1, p2⟩ := hcell1 k hlt
      obtain ⟨q0, q1, q2⟩ := hcell2 k hlt
      clear hcell1 hcell2
      generalize str (nth t k).1 = x at p0 q0
      generalize str (nth t k).2.1 = y at p1 q1
      generalize (nth t k).2.2 = z at p2 q2
      have hz : (z != z) = false := by simp
      go_wp2_with fail
      go_quiet (fail)
      go_wp2
      go_roundw
      case rel => exact ⟨k + 1, by omega, by go_num, drawn_again w _ _⟩
      case measure => simp [intOf]; omega
    · go_wp2
      go_ret
      exact ⟨rfl, _, rfl⟩


/-- The signs of a boundary. -/
def bndS : ByteArray := ⟨#[65, 66, 67, 68, 69, 70, 71, 72, 73, 74, 75, 76, 77, 78, 79, 80, 81, 82, 83, 84, 85, 86, 87, 88, 89, 90, 97, 98, 99, 100, 101, 102, 103, 104, 105, 106, 107, 108, 109, 110, 111, 112, 113, 114, 115, 116, 117, 118, 119, 120, 121, 122, 48, 49, 50, 51, 52, 53, 54, 55, 56, 57, 39, 40, 41, 43, 95, 44, 45, 46, 47, 58, 61, 63]⟩
theorem TrimB (w : World) : Calls Tryd.prog 37 #[.string ⟨#[66]⟩, .string bndS] w fun e w' => e = .returned (.string ⟨#[]⟩) ∧ Below w.heap.size w w' := by
  have hcon := Any.strings_TrimLeft_laid Tryd.lays161 (by kernel_rfl) ⟨#[66]⟩ bndS w (by decide) (ascii_of_all (by decide))
  exact hcon

set_option maxRecDepth 100000 in
set_option maxHeartbeats 1000000 in
theorem IsBoundary_B (w : World) : Calls Tryd.prog 17 #[.string ⟨#[66]⟩] w fun e w' => e = .returned (.bool true) ∧ Below w.heap.size w w' := by
  have HT : Hid (∀ w, _) := fun w => TrimB w
  unfold bndS at HT
  go_enter Tryd.func17, Tryd.ntmps17
  go_wp2_with fail
  refine (HT.out _).mono ?_
  rintro e w1 ⟨rfl, hb1⟩
  go_wp2
  go_ret
  exact ⟨rfl, hb1⟩

theorem awake_whole : whole [97, 61, 98, 43, 99] = true := by
  rw [whole_cons (by decide), whole_cons (by decide), whole_cons (by decide), whole_cons (by decide), whole_cons (by decide)]
  exact whole_nil
theorem awake_dec (c : UInt8) (h : c ≠ 37) : decR [c] = ([c], 0, 0) := by
  rw [decR_whole _ (by rw [whole_cons h]; exact whole_nil), zs_one c [] (trip_ne h []), zs_nil]; rfl
theorem awake_shp : shpR [97, 61, 98, 43, 99] = ([([97], [98, 32, 99], true)], 0, 0) := by
  unfold shpR
  rw [awake_whole, if_pos rfl]
  have e1 : splitB 38 [97, 61, 98, 43, 99] = [[97, 61, 98, 43, 99]] := by decide +kernel
  have e2 : cutA 61 [97, 61, 98, 43, 99] = [97] ∧ cutB 61 [97, 61, 98, 43, 99] = [98, 43, 99] ∧ has 61 [97, 61, 98, 43, 99] = true := by decide +kernel
  have e3 : ([97] : List UInt8).map sp = [97] ∧ ([98, 43, 99] : List UInt8).map sp = [98, 32, 99] := by decide +kernel
  have e4 : decR [98, 32, 99] = ([98, 32, 99], 0, 0) := by
    rw [decR_whole _ (by rw [whole_cons (by decide), whole_cons (by decide), whole_cons (by decide)]; exact whole_nil), zs_one _ _ (trip_ne (by decide) _), zs_one _ _ (trip_ne (by decide) _), zs_one _ _ (trip_ne (by decide) _), zs_nil]
    rfl
  unfold pairsR
  rw [e1]
  simp only [List.filter_cons, List.filter_nil, ne_eq, reduceCtorEq, not_false_eq_true, decide_true, if_true, List.map_cons, List.map_nil]
  unfold pairR spd
  rw [e2.1, e2.2.1, e2.2.2, e3.1, e3.2, awake_dec 97 (by decide), e4]

set_option maxRecDepth 100000 in
set_option maxHeartbeats 2000000 in
theorem awake15_any (w : World) (hm : ML w) :
    Calls Tryd.prog 7 #[] w fun e w' => e = .returned (.bool true) ∧ Below w.heap.size w w' := by
  have HP : Hid (Calls Tryd.prog 5 #[.string ⟨#[97, 61, 98, 43, 99]⟩] w fun e w' => ∃ v, e = .returned (.tuple #[v, .int .i64 0, .int .i64 0]) ∧ OwnQ 45 w.heap.size v [([97], [98, 32, 99], true)] w' ∧ Below w.heap.size w w') := by
    have h := Pairs_any ⟨#[97, 61, 98, 43, 99]⟩ (by decide) w hm
    rw [show (⟨#[97, 61, 98, 43, 99]⟩ : ByteArray).data.toList = [97, 61, 98, 43, 99] from rfl, awake_shp] at h
    exact h
  have HI : Hid (∀ w, _) := fun w => IsBoundary_B w
  clear hm
  go_enter Tryd.func7, Tryd.ntmps7
  go_wp2_with fail
  refine HP.out.mono ?_
  rintro e w1 ⟨v, rfl, ho, hb1⟩
  obtain ⟨a, c, rfl, hr⟩ := ho.rd
  obtain ⟨g, o, rfl, hc, hcell⟩ : ∃ g o, a = some ⟨g, o, none⟩ ∧ [(([97] : List UInt8), ([98, 32, 99] : List UInt8), true)].length ≤ c ∧ ∀ j, j < [(([97] : List UInt8), ([98, 32, 99] : List UInt8), true)].length → w1.cell? ⟨g, o + j * 3, none⟩ = some (.string (str (nth [([97], [98, 32, 99], true)] j).1)) ∧ w1.cell? ⟨g, o + j * 3 + 1, none⟩ = some (.string (str (nth [([97], [98, 32, 99], true)] j).2.1)) ∧ w1.cell? ⟨g, o + j * 3 + 2, none⟩ = some (.bool (nth [([97], [98, 32, 99], true)] j).2.2) := by
    rcases hr with h | h
    · cases h
    · exact h
  obtain ⟨c0, c1, c2⟩ := hcell 0 (by decide)
  have c0' : w1.cell? ⟨g, o, none⟩ = some (.string ⟨#[97]⟩) := c0
  have c1' : w1.cell? ⟨g, o + 1, none⟩ = some (.string ⟨#[98, 32, 99]⟩) := by have := c1; rw [Nat.zero_mul, Nat.add_zero] at this; exact this
  have c2' : w1.cell? ⟨g, o + 2, none⟩ = some (.bool true) := by have := c2; rw [Nat.zero_mul, Nat.add_zero] at this; exact this
  have hc1 : 1 ≤ c := hc
  have HB1 : Hid (Below w.heap.size w w1) := hb1
  clear c0 c1 c2 hcell hr hb1 ho hc
  have hln : [(([97] : List UInt8), ([98, 32, 99] : List UInt8), true)].length = 1 := rfl
  rw [hln]
  clear hln
  go_wp2_with fail
  refine (HI.out _).mono ?_
  rintro e w2 ⟨rfl, hb2⟩
  go_wp2
  go_ret
  exact ⟨rfl, HB1.out.trans (hb2.mono HB1.out.size)⟩

theorem qs_pairs_len (l : List UInt8) : (pairsR l).length ≤ l.length + 1 := by
  unfold pairsR
  rw [List.length_map]
  exact Nat.le_trans (List.length_filter_le _ _) (split_len 38 l)
theorem shpR_len (l : List UInt8) : (shpR l).1.length ≤ l.length + 1 := by
  unfold shpR
  split
  · exact qs_pairs_len l
  · exact Nat.zero_le _

end Tg
end Go.Proofs.YtpoefoepmigbeaaDoor
