/-
  tag: the document's Make; the law TagMakes.
-/
import Derived.Test.YtgdecgagdacipaaGreatDoorTMk
import Derived.Test.YtgdecgagdacipaaGreatDoorTSm
import Derived.Test.YtgdecgagdacipaaGreatDoorRHex
set_option linter.unusedVariables false
set_option linter.unusedSimpArgs false
namespace Go.Proofs.YtgdecgagdacipaaGreatDoor
open Go.RowKit Go.Shelf
namespace Tt
open Oc

theorem val_digit (d : Nat) (h : d < 10) : valI ((UInt8.ofNat (48 + d)).toNat : Int) = (d : Int) := by
  have e : (UInt8.ofNat (48 + d)).toNat = 48 + d := by rw [UInt8.toNat_ofNat']; omega
  rw [e, valI_d (by omega)]
  omega
theorem num_dec : ∀ u : Nat, numOf 10 (Lib.decDigits u) = (u : Int) := by
  intro u
  induction u using Nat.strongRecOn with
  | _ u ih =>
    by_cases h : u < 10
    · rw [Lib.decDigits_one h]
      show (0 : Int) * 10 + valI _ = _
      rw [val_digit u h]
      omega
    · rw [Lib.decDigits, dif_neg h, numOf_snoc, ih (u / 10) (by omega), val_digit _ (by omega)]
      omega

theorem itoa_nat (n : Nat) : Lib.itoa (n : Int) = Lib.decDigits n := by
  unfold Lib.itoa
  rw [if_neg (by omega), Int.toNat_natCast]
theorem itoa_inj {a b : Nat} (h : Lib.itoa (a : Int) = Lib.itoa (b : Int)) : a = b := by
  rw [itoa_nat, itoa_nat] at h
  have h1 := num_dec a
  rw [h, num_dec] at h1
  omega
theorem makeL_ne {l k : List UInt8} (h : l.length ≠ k.length) : makeL l ≠ makeL k := by
  intro e
  apply h
  unfold makeL at e
  have h1 : (Bs.hexL (b8 (Bs.fnvR l)) ++ [45]).length = (Bs.hexL (b8 (Bs.fnvR k)) ++ [45]).length := by
    rw [List.length_append, List.length_append, Bs.hexL_length, Bs.hexL_length]
    rfl
  exact itoa_inj (List.append_inj e h1).2
def digs (m : Nat) : List UInt8 := if m = 0 then [48] else decD m
theorem digs_itoa (n : Nat) : digs n = Lib.itoa (n : Int) := by
  unfold digs
  by_cases h : n = 0
  · subst h; rw [if_pos rfl]; exact itoa_zero.symm
  · rw [if_neg h, itoa_decD _ (by omega), if_neg (by omega)]
    simp
theorem digs_last (m : Nat) (h : m / 10 = 0) : digs m = [UInt8.ofNat (48 + m % 10)] := by
  unfold digs
  by_cases hm : m = 0
  · subst hm; rfl
  · rw [if_neg hm, decD_step m hm, h]; rfl
theorem digs_step (m : Nat) (h : m / 10 ≠ 0) : digs m = digs (m / 10) ++ [UInt8.ofNat (48 + m % 10)] := by
  unfold digs
  rw [if_neg (by omega), if_neg h, decD_step m (by omega)]

set_option maxRecDepth 100000 in
set_option maxHeartbeats 1000000 in
theorem rdigits_any (n : Nat) (hn : n ≤ 1048576) (w : World) :
    Calls Tryz.prog 40 #[.int .i64 (n : Nat)] w fun e w' => e = .returned (.string (str (Lib.itoa (n : Int)))) ∧ Below w.heap.size w w' := by
  have HT : Hid (digs n = Lib.itoa (n : Int)) := digs_itoa n
  have HLn : Hid ((Lib.itoa (n : Int)).length ≤ 21) := by
    show _ ≤ _
    by_cases hz : n = 0
    · rw [hz, show ((0 : Nat) : Int) = 0 from rfl, itoa_zero]; decide
    · rw [itoa_decD _ (by omega), if_neg (by omega)]
      have := decD_len (n : Int) (by omega) (by omega)
      simpa using this
  generalize Lib.itoa (n : Int) = T at *
  go_enter Tryz.func40, Tryz.ntmps40
  go_wp2
  go_loopw [0, 3] (fun mv ov wr => ∃ (m : Nat) (o : ByteArray), mv = .int .i64 (m : Nat) ∧ ov = .string o ∧ m ≤ 1048576 ∧ o.size ≤ 21 ∧ Hid (digs m ++ o.data.toList = T) ∧ Hid (Below w.heap.size w wr)) (fun mv _ _ => (intOf mv).toNat)
  case atStart => exact ⟨n, ⟨#[]⟩, rfl, rfl, hn, by decide, (by rw [HT.out]; simp : digs n ++ (⟨#[]⟩ : ByteArray).data.toList = T), Below.refl _ _⟩
  case round =>
    obtain ⟨m, o, rfl, rfl, hm, hos, hst, hb⟩ := hrel
    have hob := one_byte wr (48 + (m : Int) % 10) (by omega) (by omega)
    have hsz : (str [UInt8.ofNat (48 + (m : Int) % 10).toNat]).size + o.size ≤ 9223372036854775807 := by rw [str_size]; simp; omega
    have hc : (48 + (m : Int) % 10).toNat = 48 + m % 10 := by omega
    by_cases hq : m / 10 = 0
    · have HE : Hid (str T = str [UInt8.ofNat (48 + (m : Int) % 10).toNat] ++ o) := by
        show _ = _
        rw [cat_str, hc, ← hst.out, digs_last m hq]
      have hq2 : ((m : Int) / 10 == 0) = true := by rw [beq_iff_eq]; omega
      clear hc
      generalize str [UInt8.ofNat (48 + (m : Int) % 10).toNat] = C at *
      go_wp2
      go_ret
      exact ⟨ret_string HE.out.symm, hb.out.alloc hb.out.size _⟩
    · have HE : Hid (digs (m / 10) ++ (str [UInt8.ofNat (48 + (m : Int) % 10).toNat] ++ o).data.toList = T) := by
        show _ = _
        rw [cat_str, str_list, hc, ← hst.out, digs_step m hq, List.append_assoc]
      have hq2 : ((m : Int) / 10 == 0) = false := by rw [beq_eq_false_iff_ne]; omega
      have HS : Hid ((str [UInt8.ofNat (48 + (m : Int) % 10).toNat] ++ o).size ≤ 21) := by
        show _ ≤ _
        have h1 := HLn.out
        rw [← HE.out, List.length_append, size_list] at h1
        omega
      clear hc
      generalize str [UInt8.ofNat (48 + (m : Int) % 10).toNat] = C at *
      go_wp2
      go_roundw
      case rel => exact ⟨m / 10, C ++ o, by go_num, rfl, by omega, HS.out, HE, hb.out.alloc hb.out.size _⟩
      case measure => simp [intOf]; omega

set_option maxRecDepth 100000 in
set_option maxHeartbeats 4000000 in
theorem rMake_any (s : ByteArray) (hs : s.size ≤ 1048576) (wk : Bool) (w : World) :
    Calls Tryz.prog 20 #[.string s, .bool wk] w fun e w' => e = .returned (.agg #[.bool wk, .string (str (makeL s.data.toList))]) ∧ Below w.heap.size w w' := by
  obtain ⟨w1, hw1⟩ : ∃ w1, w1 = w.alloc (.cells #[.bool false, .string ⟨#[]⟩] 30) := ⟨_, rfl⟩
  have z1 : w1.heap.size = w.heap.size + 1 := by rw [hw1]; simp
  have HF : Hid (∀ W, Calls Tryz.prog 38 #[.string s] W fun e w' => e = .returned (.int .u64 ((Bs.fnvR s.data.toList : Nat) : Int)) ∧ w' = W) := fun W => by
    have h := Bs.rFnv_any s.data.toList (by rw [size_list]; omega) W
    rw [show Bs.str s.data.toList = s from str_self s] at h
    exact h
  have hF := Bs.fnvR_lt s.data.toList
  generalize hFF : Bs.fnvR s.data.toList = F at *
  have HFF : Hid (Bs.fnvR s.data.toList = F) := hFF
  clear hFF
  have HA1 : Hid (TB 30 w1 w.heap.size (false, [])) := (by rw [hw1]; exact heap_alloc_new w _ : TB _ _ _ _)
  have HB1 : Hid (Below w.heap.size w w1) := (by rw [hw1]; exact (Below.refl _ w).alloc (Nat.le_refl _) _ : Below _ _ _)
  have HX : Hid (∀ W, Calls Tryz.prog 39 #[.string (str (b8 F))] W fun e w' => e = .returned (.string (str (Bs.hexL (b8 F)))) ∧ Below W.heap.size W w') := fun W => Bs.rHex_any (b8 F) (by show 2 * 8 ≤ _; omega) W
  have HD : Hid (∀ W, Calls Tryz.prog 40 #[.int .i64 (s.size : Nat)] W fun e w' => e = .returned (.string (str (Lib.itoa (s.size : Nat)))) ∧ Below W.heap.size W w') := fun W => rdigits_any s.size hs W
  have HM : Hid (str (makeL s.data.toList) = str (Bs.hexL (b8 F)) ++ ⟨#[45]⟩ ++ str (Lib.itoa (s.size : Nat))) := by
    apply str_of
    unfold makeL
    rw [HFF.out, size_list]
    simp [ByteArray.data_append, str_list]
  have hex16 : (str (Bs.hexL (b8 F))).size = 16 := by rw [str_size, Bs.hexL_length]; rfl
  have hdl : (str (Lib.itoa (s.size : Nat))).size ≤ 21 := by
    rw [str_size]
    by_cases hz : s.size = 0
    · rw [hz, show ((0 : Nat) : Int) = 0 from rfl, itoa_zero]; decide
    · rw [itoa_decD _ (by omega), if_neg (by omega)]
      have := decD_len (s.size : Int) (by omega) (by omega)
      simpa using this
  generalize str (Bs.hexL (b8 F)) = HXS at *
  generalize str (Lib.itoa (s.size : Nat)) = DGS at *
  go_enter Tryz.func20, Tryz.ntmps20
  go_wp2_with fail
  rw [← hw1]
  refine (HF.out _).mono ?_
  rintro e w' ⟨rfl, he⟩
  rw [he]
  clear he w' HF hw1
  go_wp2
  go_loopw [6, 7] (fun v i wr => ∃ k : Nat, k ≤ 8 ∧ i = .int .i64 k ∧ Hid (Bs.Own w1.heap.size v ((b8 F).take k) wr) ∧ Hid (Below w1.heap.size w1 wr)) (fun _ i _ => 8 - (intOf i).toNat)
  case atStart => exact ⟨0, by omega, rfl, Bs.own_nil _ _, Below.refl _ _⟩
  case round =>
    obtain ⟨k, hk, rfl, ho, hb⟩ := hrel
    have hsz := hb.out.size
    by_cases hlt : k < 8
    · rcases (show k = 0 ∨ k = 1 ∨ k = 2 ∨ k = 3 ∨ k = 4 ∨ k = 5 ∨ k = 6 ∨ k = 7 by omega) with rfl | rfl | rfl | rfl | rfl | rfl | rfl | rfl
      · have hcs : (#[Value.int .u8 ((F : Int) / 72057594037927936)] : Array Value).toList = Bs.bv [byteAt F 7] := by
          show [Value.int .u8 _] = [Value.int .u8 ((byteAt F 7).toNat : Int)]
          rw [byteAt_int F 7 72057594037927936 (by decide)] <;> (try simp) <;> (try omega)
        have HN : Hid ((b8 F).take 1 = (b8 F).take 0 ++ [byteAt F 7]) := (rfl : _ = _)
        go_wp2_with (at_builtin; go_must (refine Bs.wp_app rfl (.tmp 14) (.tmp 21) rfl w1.heap.size _ ((b8 F).take 0) [byteAt F 7] _ _ hcs rfl ho.out rfl (by show 0 + 1 ≤ _; omega) hsz ?_); intro v6 w6 ho6 hb6)
        go_roundw
        case rel => exact ⟨1, by omega, by go_num, (by rw [HN.out]; exact ho6.out : Bs.Own _ _ _ _), hb.out.trans hb6.out⟩
        case measure => simp [intOf]
      · have hcs : (#[Value.int .u8 ((F : Int) / 281474976710656 % 256)] : Array Value).toList = Bs.bv [byteAt F 6] := by
          show [Value.int .u8 _] = [Value.int .u8 ((byteAt F 6).toNat : Int)]
          rw [byteAt_int F 6 281474976710656 (by decide)] <;> (try simp) <;> (try omega)
        have HN : Hid ((b8 F).take 2 = (b8 F).take 1 ++ [byteAt F 6]) := (rfl : _ = _)
        go_wp2_with (at_builtin; go_must (refine Bs.wp_app rfl (.tmp 14) (.tmp 21) rfl w1.heap.size _ ((b8 F).take 1) [byteAt F 6] _ _ hcs rfl ho.out rfl (by show 1 + 1 ≤ _; omega) hsz ?_); intro v6 w6 ho6 hb6)
        go_roundw
        case rel => exact ⟨2, by omega, by go_num, (by rw [HN.out]; exact ho6.out : Bs.Own _ _ _ _), hb.out.trans hb6.out⟩
        case measure => simp [intOf]
      · have hcs : (#[Value.int .u8 ((F : Int) / 1099511627776 % 256)] : Array Value).toList = Bs.bv [byteAt F 5] := by
          show [Value.int .u8 _] = [Value.int .u8 ((byteAt F 5).toNat : Int)]
          rw [byteAt_int F 5 1099511627776 (by decide)] <;> (try simp) <;> (try omega)
        have HN : Hid ((b8 F).take 3 = (b8 F).take 2 ++ [byteAt F 5]) := (rfl : _ = _)
        go_wp2_with (at_builtin; go_must (refine Bs.wp_app rfl (.tmp 14) (.tmp 21) rfl w1.heap.size _ ((b8 F).take 2) [byteAt F 5] _ _ hcs rfl ho.out rfl (by show 2 + 1 ≤ _; omega) hsz ?_); intro v6 w6 ho6 hb6)
        go_roundw
        case rel => exact ⟨3, by omega, by go_num, (by rw [HN.out]; exact ho6.out : Bs.Own _ _ _ _), hb.out.trans hb6.out⟩
        case measure => simp [intOf]
      · have hcs : (#[Value.int .u8 ((F : Int) / 4294967296 % 256)] : Array Value).toList = Bs.bv [byteAt F 4] := by
          show [Value.int .u8 _] = [Value.int .u8 ((byteAt F 4).toNat : Int)]
          rw [byteAt_int F 4 4294967296 (by decide)] <;> (try simp) <;> (try omega)
        have HN : Hid ((b8 F).take 4 = (b8 F).take 3 ++ [byteAt F 4]) := (rfl : _ = _)
        go_wp2_with (at_builtin; go_must (refine Bs.wp_app rfl (.tmp 14) (.tmp 21) rfl w1.heap.size _ ((b8 F).take 3) [byteAt F 4] _ _ hcs rfl ho.out rfl (by show 3 + 1 ≤ _; omega) hsz ?_); intro v6 w6 ho6 hb6)
        go_roundw
        case rel => exact ⟨4, by omega, by go_num, (by rw [HN.out]; exact ho6.out : Bs.Own _ _ _ _), hb.out.trans hb6.out⟩
        case measure => simp [intOf]
      · have hcs : (#[Value.int .u8 ((F : Int) / 16777216 % 256)] : Array Value).toList = Bs.bv [byteAt F 3] := by
          show [Value.int .u8 _] = [Value.int .u8 ((byteAt F 3).toNat : Int)]
          rw [byteAt_int F 3 16777216 (by decide)] <;> (try simp) <;> (try omega)
        have HN : Hid ((b8 F).take 5 = (b8 F).take 4 ++ [byteAt F 3]) := (rfl : _ = _)
        go_wp2_with (at_builtin; go_must (refine Bs.wp_app rfl (.tmp 14) (.tmp 21) rfl w1.heap.size _ ((b8 F).take 4) [byteAt F 3] _ _ hcs rfl ho.out rfl (by show 4 + 1 ≤ _; omega) hsz ?_); intro v6 w6 ho6 hb6)
        go_roundw
        case rel => exact ⟨5, by omega, by go_num, (by rw [HN.out]; exact ho6.out : Bs.Own _ _ _ _), hb.out.trans hb6.out⟩
        case measure => simp [intOf]
      · have hcs : (#[Value.int .u8 ((F : Int) / 65536 % 256)] : Array Value).toList = Bs.bv [byteAt F 2] := by
          show [Value.int .u8 _] = [Value.int .u8 ((byteAt F 2).toNat : Int)]
          rw [byteAt_int F 2 65536 (by decide)] <;> (try simp) <;> (try omega)
        have HN : Hid ((b8 F).take 6 = (b8 F).take 5 ++ [byteAt F 2]) := (rfl : _ = _)
        go_wp2_with (at_builtin; go_must (refine Bs.wp_app rfl (.tmp 14) (.tmp 21) rfl w1.heap.size _ ((b8 F).take 5) [byteAt F 2] _ _ hcs rfl ho.out rfl (by show 5 + 1 ≤ _; omega) hsz ?_); intro v6 w6 ho6 hb6)
        go_roundw
        case rel => exact ⟨6, by omega, by go_num, (by rw [HN.out]; exact ho6.out : Bs.Own _ _ _ _), hb.out.trans hb6.out⟩
        case measure => simp [intOf]
      · have hcs : (#[Value.int .u8 ((F : Int) / 256 % 256)] : Array Value).toList = Bs.bv [byteAt F 1] := by
          show [Value.int .u8 _] = [Value.int .u8 ((byteAt F 1).toNat : Int)]
          rw [byteAt_int F 1 256 (by decide)] <;> (try simp) <;> (try omega)
        have HN : Hid ((b8 F).take 7 = (b8 F).take 6 ++ [byteAt F 1]) := (rfl : _ = _)
        go_wp2_with (at_builtin; go_must (refine Bs.wp_app rfl (.tmp 14) (.tmp 21) rfl w1.heap.size _ ((b8 F).take 6) [byteAt F 1] _ _ hcs rfl ho.out rfl (by show 6 + 1 ≤ _; omega) hsz ?_); intro v6 w6 ho6 hb6)
        go_roundw
        case rel => exact ⟨7, by omega, by go_num, (by rw [HN.out]; exact ho6.out : Bs.Own _ _ _ _), hb.out.trans hb6.out⟩
        case measure => simp [intOf]
      · have hcs : (#[Value.int .u8 ((F : Int) % 256)] : Array Value).toList = Bs.bv [byteAt F 0] := by
          show [Value.int .u8 _] = [Value.int .u8 ((byteAt F 0).toNat : Int)]
          rw [byteAt_int F 0 1 (by decide)] <;> (try simp) <;> (try omega)
        have HN : Hid ((b8 F).take 8 = (b8 F).take 7 ++ [byteAt F 0]) := (rfl : _ = _)
        go_wp2_with (at_builtin; go_must (refine Bs.wp_app rfl (.tmp 14) (.tmp 21) rfl w1.heap.size _ ((b8 F).take 7) [byteAt F 0] _ _ hcs rfl ho.out rfl (by show 7 + 1 ≤ _; omega) hsz ?_); intro v6 w6 ho6 hb6)
        go_roundw
        case rel => exact ⟨8, by omega, by go_num, (by rw [HN.out]; exact ho6.out : Bs.Own _ _ _ _), hb.out.trans hb6.out⟩
        case measure => simp [intOf]
    · obtain rfl : k = 8 := by omega
      have hbk := Bs.back wr _ _ ho.out.rd
      rw [show (b8 F).take 8 = b8 F from rfl] at hbk
      rw [show Bs.str (b8 F) = str (b8 F) from rfl] at hbk
      go_wp2_with fail
      refine (HX.out _).mono ?_
      rintro e w4 ⟨rfl, hb4⟩
      have HB4 : Hid (Below w1.heap.size w1 w4) := bel_trans hb.out hb4
      clear hb4 hbk
      go_wp2_with fail
      refine (HD.out _).mono ?_
      rintro e w5 ⟨rfl, hb5⟩
      have HB5 : Hid (Below w1.heap.size w1 w5) := bel_trans HB4.out hb5
      have ha5 := HA1.out.below HB5.out
      have a0 := ha5.c0
      have a1 := ha5.c1
      have g0 := ha5.f 0
      have g1 := ha5.f 1
      clear hb5 ha5
      have s1 : HXS.size + (⟨#[45]⟩ : ByteArray).size ≤ 9223372036854775807 := by rw [hex16]; decide
      have s2 : (HXS ++ ⟨#[45]⟩).size + DGS.size ≤ 9223372036854775807 := by rw [ByteArray.size_append, hex16]; show 16 + 1 + DGS.size ≤ _; omega
      go_wp2
      refine bodyPost_ret (v := .agg #[.bool wk, .string (HXS ++ ⟨#[45]⟩ ++ DGS)]) (by simp [results, Tryz.results20, go_sem, a0, a1]) rfl ?_
      rw [HM.out]
      refine ⟨rfl, ?_⟩
      repeat (first | exact HB1.out.trans (HB5.out.mono HB1.out.size) | refine Below.setCell ?_ (by simp) _)

set_option maxRecDepth 100000 in
set_option maxHeartbeats 2000000 in
theorem walk_TagMakes (s : ByteArray) (hs : s.size ≤ 1048576) (r : ByteArray) (hr : r.size ≤ 1048576) (wk : Bool) (w : World) (hw : Fd.ML w ∧ Pow w) :
    Calls Tryz.prog 5 #[.string s, .string r, .bool wk] w fun e w' => e = .returned (.bool true) ∧ Below w.heap.size w w' := by
  have HA : Hid (Calls _ _ _ _ _) := awake_any w hw.1
  have HMs : Hid (∀ W, Below w.heap.size w W → Calls _ _ _ W _) := fun W hb => Make_any s hs wk W (hw.2.below hb (Nat.le_refl _))
  have HMr : Hid (∀ W, Below w.heap.size w W → Calls _ _ _ W _) := fun W hb => Make_any r hr wk W (hw.2.below hb (Nat.le_refl _))
  have HQ : Hid (∀ W, Calls _ _ _ W _) := fun W => rMake_any s hs wk W
  have HRf : Hid (∀ b x w, Calls _ _ _ w _) := fun b x w => ref_any b x w
  have HNE : s.size ≠ r.size → Hid (((str (makeL r.data.toList)).toList != (str (makeL s.data.toList)).toList) = true) := fun h => by
    show _ = _
    rw [Lib.toList_data, Lib.toList_data, str_list, str_list]
    simp only [bne_iff_ne, ne_eq]
    exact makeL_ne (by rw [size_list, size_list]; omega)
  clear hw
  generalize str (makeL s.data.toList) = MS at *
  generalize str (makeL r.data.toList) = MR at *
  go_enter Tryz.func5, Tryz.ntmps5
  go_wp2_with fail
  refine HA.out.mono ?_
  rintro e w1 ⟨rfl, hb1⟩
  have HB1 : Hid (Below w.heap.size w w1) := hb1
  clear hb1
  go_wp2_with fail
  refine (HMs.out _ HB1.out).mono ?_
  rintro e w2 ⟨rfl, hb2⟩
  obtain ⟨W2, hW2⟩ : ∃ W2, W2 = w2.alloc (.cells #[.bool wk, .string MS] 23) := ⟨_, rfl⟩
  have HB2 : Hid (Below w.heap.size w W2) := (by rw [hW2]; exact (bel_trans HB1.out hb2).alloc (bel_trans HB1.out hb2).size _ : Below _ _ _)
  have m1 : W2.cell? ⟨w2.heap.size, 1, none⟩ = some (.string MS) := by rw [hW2]; simp
  have HM : Hid (∀ W, Below W2.heap.size W2 W → W.cell? ⟨w2.heap.size, 1, none⟩ = some (.string MS)) := fun W hB => by rw [hB.cell (World.block_lt_of_cell? W2 _ m1)]; exact m1
  clear hb2 m1
  go_wp2_with fail
  rw [← hW2]
  clear hW2
  refine (HRf.out _ _ _).mono ?_
  rintro e w3 ⟨rfl, hb3⟩
  have HB3 : Hid (Below W2.heap.size W2 w3) := hb3
  clear hb3
  go_wp2_with fail
  refine (HQ.out _).mono ?_
  rintro e w4 ⟨rfl, hb4⟩
  have HB4 : Hid (Below W2.heap.size W2 w4) := bel_trans HB3.out hb4
  have HBd : Hid (Below W2.heap.size W2 w4.drew) := bel_trans HB4.out ⟨rfl, rfl, rfl, Nat.le_refl _, fun _ _ => rfl⟩
  have HBe : Hid (Below w.heap.size w w4.drew) := HB2.out.trans (HBd.out.mono HB2.out.size)
  clear hb4
  have k1 := HM.out _ HBd.out
  by_cases hl : s.size = r.size
  · have q : ((s.size : Int) == (r.size : Int)) = true := by rw [beq_iff_eq]; omega
    clear HNE
    have HB24 : Hid (Below w.heap.size w w4) := HB2.out.trans (HB4.out.mono HB2.out.size)
    go_wp2_with fail
    go_quiet (fail)
    go_wp2
    go_ret
    refine ⟨ret_bool (by simp), ?_⟩
    first | exact HBe.out | exact bel_trans HB24.out (Fd.below_drew _ _)
  · have q : ((s.size : Int) == (r.size : Int)) = false := by rw [beq_eq_false_iff_ne]; omega
    have fl : ∀ W : World, (Instr.field 23 (.agg #[.bool wk, .string MR]) 1).run Tryz.prog W = .ok (.string MR) W := fun W => by kernel_rfl
    have hne := HNE hl
    have hne2 := hne.out
    clear HNE
    go_wp2_with fail
    go_region_held3 (fun W => W.cell? ⟨w2.heap.size, 1, none⟩ = some (.string MS)) (first | exact HM.out _ HBn.out | exact HM.out _ HBd.out) (first | (go_at_call 19; refine (HMr.out _ HBe.out).mono ?_; rintro e wn ⟨rfl, hbn⟩; have HBn : Hid (Below W2.heap.size W2 wn) := bel_trans HBd.out hbn; clear hbn))
    all_goals
      go_wp2
      go_ret
      exact ⟨ret_bool (by simpa using hne.out), HB2.out.trans (HBn.out.mono HB2.out.size)⟩

end Tt
end Go.Proofs.YtgdecgagdacipaaGreatDoor
