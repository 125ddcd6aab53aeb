/-
  The document's Disposition (written by mkdsc.py).
-/
import Derived.Test.YtlnlhhobmgiceaaGreatDoorDsB
import Derived.Test.YtlnlhhobmgiceaaGreatDoorRPrm2
import Derived.Test.YtlnlhhobmgiceaaGreatDoorMgG
set_option linter.unusedVariables false
set_option linter.unusedSimpArgs false
namespace Go.Proofs.YtlnlhhobmgiceaaGreatDoor
open Go.RowKit Go.Shelf
namespace Ds
open Oc

theorem noTwo_snoc : ∀ (L : List (List UInt8)) (x : List UInt8), noTwo (L ++ [x]) = (noTwo L && !L.contains x)
  | [], x => by simp [noTwo]
  | y :: L, x => by
    have ih := noTwo_snoc L x
    have e : (L ++ [x]).contains y = (L.contains y || (x == y)) := by
      rw [List.contains_eq_any_beq, List.contains_eq_any_beq, List.any_append]
      simp [Bool.beq_comm]
    have e2 : (y :: L).contains x = ((x == y) || L.contains x) := List.contains_cons
    rw [List.cons_append, noTwo, ih, e, noTwo, e2]
    cases L.contains y <;> cases (x == y) <;> cases noTwo L <;> cases L.contains x <;> rfl
theorem noTwo_left : ∀ (A B : List (List UInt8)), noTwo A = false → noTwo (A ++ B) = false
  | [], B, h => by cases h
  | x :: A, B, h => by
    rw [noTwo] at h
    rw [List.cons_append, noTwo]
    cases hc : A.contains x with
    | true =>
      have : (A ++ B).contains x = true := by
        rw [List.contains_iff_mem] at hc ⊢
        exact List.mem_append_left _ hc
      rw [this]; rfl
    | false =>
      rw [hc] at h
      have := noTwo_left A B (by simpa using h)
      rw [this]; simp
theorem lowOk_dup (t : List Prm) (k : Nat) (hk : k < t.length) (h : ((t.take k).map fun p => lower p.1).contains (lower (nth t k).1) = true) : lowOk t = false := by
  unfold lowOk
  have e : t.map (fun p => lower p.1) = (t.take (k + 1)).map (fun p => lower p.1) ++ (t.drop (k + 1)).map fun p => lower p.1 := by rw [← List.map_append, List.take_append_drop]
  have : noTwo (t.map fun p => lower p.1) = false := by
    rw [e]
    refine noTwo_left _ _ ?_
    rw [take_nthP t k hk, List.map_append, List.map_singleton, noTwo_snoc, h]
    simp
  rw [this]; simp
theorem lowK_low (k : Nat) (ps : List Prm) (j : Nat) (h : j < k) (hj : j < ps.length) : nth (lowK k ps) j = lowN (nth ps j) := by
  unfold nth lowK
  rw [List.getD_eq_getElem?_getD, List.getD_eq_getElem?_getD, List.getElem?_append_left (by simp; omega), List.getElem?_map, List.getElem?_take_of_lt h, List.getElem?_eq_getElem hj]
  rfl
theorem tok_at (l : List UInt8) (k : Nat) (h : k < tokLen l) : tokB (l.getD k 0) = true := by
  unfold tokLen at h
  have e : l.getD k 0 = (l.takeWhile tokB)[k] := by
    rw [List.getD_eq_getElem?_getD]
    conv => lhs; arg 1; arg 1; rw [← List.takeWhile_append_dropWhile (p := tokB) (l := l)]
    rw [List.getElem?_append_left h, List.getElem?_eq_getElem h]; rfl
  rw [e]
  have := all_take tokB l
  exact List.all_eq_true.1 this _ (List.getElem_mem h)
theorem tok_end (l : List UInt8) (h : tokLen l < l.length) : tokB (l.getD (tokLen l) 0) = false := by
  unfold tokLen at *
  have e : l.getD (l.takeWhile tokB).length 0 = (l.dropWhile tokB).getD 0 0 := by
    rw [List.getD_eq_getElem?_getD]
    conv => lhs; arg 1; arg 1; rw [← List.takeWhile_append_dropWhile (p := tokB) (l := l)]
    rw [List.getElem?_append_right (Nat.le_refl _), Nat.sub_self, List.getD_eq_getElem?_getD]
  rw [e]
  cases hd : l.dropWhile tokB with
  | nil =>
    have := congrArg List.length (List.takeWhile_append_dropWhile (p := tokB) (l := l))
    rw [hd, List.append_nil] at this
    omega
  | cons x t => exact dropWhile_head tokB l x t hd
theorem ownP_empty {B : Nat} (T : Nat) (w : World) (hB : B ≤ w.heap.size) : OwnP T B (.slice (some ⟨w.heap.size, 0, none⟩) 0 0) [] (w.alloc (.cells #[] T)) :=
  ⟨by simp [encP], .inr ⟨w.heap.size, 0, #[], rfl, hB, heap_alloc_new w _, by simp, by decide, by simp, by simp [encP]⟩⟩
theorem str_inj {a b : List UInt8} (h : str a = str b) : a = b := by
  have := congrArg (fun x : ByteArray => x.data.toList) h
  simpa [str_list] using this

set_option maxRecDepth 100000 in
set_option maxHeartbeats 4000000 in
theorem rDisposition_any (s : ByteArray) (hs : s.size ≤ 16777216) (w : World) :
    Calls Tryz.prog 5 #[.string s] w fun e w' => ∃ v, e = .returned (.tuple #[.string (str (disR s.data.toList).1), v, .int .i64 (disR s.data.toList).2.2]) ∧ OwnP 57 w.heap.size v (disR s.data.toList).2.1 w' ∧ Below w.heap.size w w' := by
  have HT1 : Hid (∀ w, Calls Tryz.prog 16 #[.string s] w fun e w' => e = .returned (.string (str (trim s.data.toList))) ∧ w' = w) := fun w => rTrim_any s (by unfold maxLen; omega) w
  have htl := trim_le s.data.toList
  rw [size_list] at htl
  unfold disR
  dsimp only
  have htz := str_size (trim s.data.toList)
  have hts := str_list (trim s.data.toList)
  generalize hS1 : str (trim s.data.toList) = S1 at *
  rw [← hts]
  rw [← hts] at htz htl
  clear hts hS1
  have hS1 : S1.size ≤ 16777216 := by omega
  clear htz htl
  have hKl := tokLen_le S1.data.toList
  rw [size_list] at hKl ⊢
  have hTat := tok_at S1.data.toList
  have hTend := tok_end S1.data.toList
  rw [size_list] at hTend
  have HP0 : Hid (∀ w, _) := fun w => rParams_any (str (S1.data.toList.drop (tokLen S1.data.toList))) (by rw [str_size, List.length_drop, size_list]; omega) w
  rw [str_list] at HP0
  have hls : S1.extract (tokLen S1.data.toList) S1.size = str (S1.data.toList.drop (tokLen S1.data.toList)) := tail_of S1 _ hKl
  have hpe := params_each (S1.data.toList.drop (tokLen S1.data.toList))
  have hps := paramsR_short (S1.data.toList.drop (tokLen S1.data.toList))
  have hpf := params_fit (S1.data.toList.drop (tokLen S1.data.toList))
  rw [List.length_drop, size_list] at hpe hps hpf
  have HLo : Hid (∀ w, _) := fun w => rLower_any (str (S1.data.toList.take (tokLen S1.data.toList))) (by rw [str_size, List.length_take, size_list]; unfold maxLen; omega) w
  rw [lowS_str] at HLo
  have htk : S1.extract 0 (tokLen S1.data.toList) = str (S1.data.toList.take (tokLen S1.data.toList)) := take_ext S1 _
  generalize S1.data.toList.drop (tokLen S1.data.toList) = D at *
  generalize S1.data.toList.take (tokLen S1.data.toList) = TK at *
  have HSg : Hid (∀ c : UInt8, ∀ w, Calls Tryz.prog 17 #[.int .u8 (c.toNat : Int)] w fun e w' => e = .returned (.bool (tokB c)) ∧ w' = w) := fun c w => IsSign_any (c.toNat : Int) (by omega) (by have := c.toNat_lt; omega) w
  have HE : Hid (∀ p ∈ (paramsR D).1, p.1.length ≤ 16777216) := fun p hp => by have := (hpe p hp).1; omega
  have hps' : (paramsR D).1.length ≤ 16777216 := by omega
  clear hpe hps
  obtain ⟨R, hR⟩ : ∃ R : List UInt8 × List Prm3 × Int, R = (if tokLen S1.data.toList = 0 ∨ (paramsR D).2.2 ≠ 0 ∨ (tokLen S1.data.toList : Int) + (paramsR D).2.1 ≠ (S1.size : Int) ∨ lowOk (paramsR D).1 = false then ([], [], 152) else (lower TK, (paramsR D).1.map lowN, 0)) := ⟨_, rfl⟩
  rw [← hR]
  generalize paramsR D = P at *
  obtain ⟨P1, P2, P3⟩ := P
  dsimp only at *
  have HR : Hid (R = _) := hR
  clear hR
  have HTat : Hid (_) := hTat
  have HTend : Hid (_) := hTend
  clear hTat hTend
  generalize tokLen S1.data.toList = K at *
  generalize str D = L0 at *
  generalize hTK : str TK = T0 at *
  clear hTK
  generalize hWL : str (lower TK) = WL at *
  have HWL : Hid (str (lower TK) = WL) := hWL
  clear hWL
  generalize lower TK = LT at *
  obtain ⟨w1, hw1⟩ : ∃ w1, w1 = w.alloc (.cells #[] 57) := ⟨_, rfl⟩
  have HN : Hid (OwnP 57 w.heap.size (.slice (some ⟨w.heap.size, 0, none⟩) 0 0) [] w1) := (by rw [hw1]; exact ownP_empty _ w (Nat.le_refl _) : OwnP _ _ _ _ _)
  have HB1 : Hid (Below w.heap.size w w1) := (by rw [hw1]; exact (Below.refl _ w).alloc (Nat.le_refl _) _ : Below _ _ _)
  have HBAD : Hid (R = ([], [], 152) → ∀ w', Below w1.heap.size w1 w' → ∃ v, Value.tuple #[.string ⟨#[]⟩, .slice (some ⟨w.heap.size, 0, none⟩) 0 0, .int .i64 152] = Value.tuple #[.string (str R.1), v, .int .i64 R.2.2] ∧ OwnP 57 w.heap.size v R.2.1 w' ∧ Below w.heap.size w w') := fun e w' hb => ⟨_, by rw [e]; rfl, by rw [e]; exact Oc.OwnP.below HN.out hb, HB1.out.trans (hb.mono HB1.out.size)⟩
  go_enter Tryz.func5, Tryz.ntmps5
  go_wp2_with fail
  rw [← hw1]
  clear hw1
  refine (HT1.out _).mono ?_
  rintro e w1' ⟨rfl, hw1'⟩
  rw [hw1']
  clear hw1' w1'
  go_wp2
  go_loopw [6] (fun i wr => ∃ k : Nat, k ≤ K ∧ i = .int .i64 k ∧ w1 = wr) (fun i _ => K - (intOf i).toNat)
  case atStart => exact ⟨0, Nat.zero_le _, rfl, rfl⟩
  case round =>
    obtain ⟨k, hk, rfl, rfl⟩ := hrel
    by_cases hlt : k < K
    · have hks : k < S1.size := by omega
      have h0 : ((S1[k].toNat : Nat) : Int) = ((S1.data.toList.getD k 0).toNat : Int) := by rw [show S1.data.toList.getD k 0 = S1[k] from at_lt S1 k hks]
      have h1 := HTat.out k hlt
      have HS1 : Hid (∀ w, _) := HSg.out (S1.data.toList.getD k 0)
      rw [h1] at HS1
      generalize S1.data.toList.getD k 0 = c at *
      clear h1
      go_wp2_with (go_at_call 17; refine (HS1.out _).mono ?_; rintro e w2 ⟨rfl, hw2⟩; rw [hw2]; clear hw2)
      go_roundw
      case rel => first | exact ⟨k + 1, by omega, by go_num, rfl⟩ | exact ⟨k + 1, by omega, by go_num⟩ | exact ⟨k + 1, by omega, by go_num, trivial⟩
      case measure => simp [intOf]; omega
    · obtain rfl : k = K := by omega
      clear hlt hk
      by_cases hKs : k < S1.size
      · have h0 : ((S1[k].toNat : Nat) : Int) = ((S1.data.toList.getD k 0).toNat : Int) := by rw [show S1.data.toList.getD k 0 = S1[k] from at_lt S1 k hKs]
        have h1 := HTend.out hKs
        have HS1 : Hid (∀ w, _) := HSg.out (S1.data.toList.getD k 0)
        rw [h1] at HS1
        generalize S1.data.toList.getD k 0 = c at *
        clear h1
        go_wp2_with (first | (go_at_call 17; refine (HS1.out _).mono ?_; rintro e w2 ⟨rfl, hw2⟩; rw [hw2]; clear hw2) | fail)
        refine (HP0.out _).mono ?_
        rintro e w3 ⟨v, rfl, ho3, hb3⟩
        have HO3 : Hid (OwnP 57 w1.heap.size v P1 w3) := ho3
        have HB3 : Hid (Below w1.heap.size w1 w3) := hb3
        have HLt3 : Hid (∀ g, v.ownBlock = some g → w1.heap.size ≤ g ∧ g < w3.heap.size) := fun g hg => World.ownsRow.lt ho3 g hg
        obtain ⟨a, ca, rfl, _⟩ := OwnP.rd ho3
        clear ho3 hb3
        by_cases hk0 : k = 0
        · have HX : Hid (R = ([], [], 152)) := (by rw [HR.out, if_pos (.inl hk0)] : R = _)
          have hk0' : ((k : Int) == 0) = true := by simp [hk0]
          clear hk0
          go_wp2
          go_ret3
          obtain ⟨vx, e1, e2, e3⟩ := HBAD.out HX.out _ HB3.out
          exact ⟨vx, by rw [← e1]; rfl, e2, e3⟩
        · have hk0' : ((k : Int) == 0) = false := by simpa using hk0
          by_cases h3 : P3 = 0
          · by_cases h2 : (k : Int) + P2 = (S1.size : Int)
            · have h2' : ((k : Int) + P2 != (S1.size : Int)) = false := by simp [h2]
              subst h3
              have hw2 : IntKind.i64.wrap ((k : Int) + P2) = (k : Int) + P2 := by rw [IntKind.wrap_i64]; omega
              have HRR : Hid (R = if lowOk P1 = false then ([], [], 152) else (LT, P1.map lowN, 0)) := (by rw [HR.out]; simp [hk0, h2] : R = _)
              go_wp2
              go_loopw [10] (fun i wr => ∃ j : Nat, j ≤ P1.length ∧ i = .int .i64 j ∧ Hid ((P1.take j).all (fun p => p.2.2) = true) ∧ Hid (noTwo ((P1.take j).map fun p => lower p.1) = true) ∧ Hid (OwnP 57 w1.heap.size (.slice a P1.length ca) (lowK j P1) wr) ∧ Hid (Below w1.heap.size w1 wr)) (fun i _ => P1.length - (intOf i).toNat)
              case atStart => exact ⟨0, Nat.zero_le _, rfl, (rfl : (P1.take 0).all (fun p => p.2.2) = true), (rfl : noTwo ((P1.take 0).map fun p => lower p.1) = true), (by rw [lowK_zero]; exact HO3.out : OwnP _ _ _ _ _), HB3.out⟩
              case round =>
                obtain ⟨j, hj, rfl, hA, hN, hO, hW⟩ := hrel
                obtain ⟨wo, rfl⟩ : ∃ wo, wo = wr := ⟨_, rfl⟩
                by_cases hlt : j < P1.length
                · obtain ⟨g, cap, cur, hv, hBg, hg, hc⟩ := OwnP.form hO.out (by rw [lowK_len]; omega)
                  rw [lowK_len] at hv hc
                  injection hv with e1 e2 e3
                  subst e1 e3
                  have hgr : g < wo.heap.size := (Array.getElem?_eq_some_iff.1 hg).1
                  have hcellK : Hid (∀ (m : Nat) (W : World), OwnP 57 w1.heap.size (.slice (some ⟨g, 0, none⟩) P1.length ca) (lowK m P1) W → ∀ q, q < P1.length → W.cell? ⟨g, q * 3, none⟩ = some (.string (str (nth (lowK m P1) q).1)) ∧ W.cell? ⟨g, q * 3 + 1, none⟩ = some (.string (str (nth (lowK m P1) q).2.1)) ∧ W.cell? ⟨g, q * 3 + 2, none⟩ = some (.bool (nth (lowK m P1) q).2.2)) := fun m W h q hq => by
                    obtain ⟨a', c', e, hrd⟩ := OwnP.rd h
                    injection e with e1 e2 e3
                    rcases hrd with h' | ⟨g', o', eg, _, hcell⟩
                    · have := congrArg List.length h'; rw [lowK_len, List.length_nil] at this; omega
                    · rw [← e1] at eg
                      injection eg with eg
                      injection eg with e4 e5
                      subst e4 e5
                      have := hcell q (by rw [lowK_len]; exact hq)
                      rw [Nat.zero_add] at this
                      exact this
                  obtain ⟨d0, d1, d2⟩ := hcellK.out j wo hO.out j hlt
                  rw [lowK_at j P1 hlt] at d0 d1 d2
                  have HTk := take_nthP P1 j hlt
                  have HSet := lowK_set j P1 hlt
                  have HBad : Hid ((nth P1 j).2.2 = false → R = ([], [], 152)) := fun h => by rw [HRR.out, if_pos (lowOk_bad P1 j hlt h)]
                  have HDup : Hid (((P1.take j).map fun p => lower p.1).contains (lower (nth P1 j).1) = true → R = ([], [], 152)) := fun h => by rw [HRR.out, if_pos (lowOk_dup P1 j hlt h)]
                  have hpl : (nth P1 j).1.length ≤ 16777216 := HE.out _ (by unfold nth; rw [List.getD_eq_getElem?_getD, List.getElem?_eq_getElem hlt]; exact List.getElem_mem hlt)
                  have HON : Hid (∀ w', OwnP 57 w1.heap.size (.slice (some ⟨g, 0, none⟩) P1.length ca) (lowK j P1) w' → OwnP 57 w1.heap.size (.slice (some ⟨g, 0, none⟩) P1.length ca) (lowK (j + 1) P1) (w'.setCell ⟨g, j * 3, none⟩ (.string (str (lower (nth P1 j).1))))) := fun w' h => by
                    have := OwnP.setName h j (by rw [lowK_len]; exact hlt) (lower (nth P1 j).1)
                    rw [lowK_at j P1 hlt, HSet] at this
                    exact this
                  have HA1 : Hid ((nth P1 j).2.2 = true → (P1.take (j + 1)).all (fun p => p.2.2) = true) := fun h => by rw [HTk, List.all_append, hA.out]; simp [h]
                  have HN1 : Hid (((P1.take j).map fun p => lower p.1).contains (lower (nth P1 j).1) = false → noTwo ((P1.take (j + 1)).map fun p => lower p.1) = true) := fun h => by rw [HTk, List.map_append, List.map_singleton, noTwo_snoc, hN.out, h]; rfl
                  have HLow : Hid (∀ q, q ≤ j → nth (lowK (j + 1) P1) q = lowN (nth P1 q)) := fun q hq => lowK_low (j + 1) P1 q (by omega) (by omega)
                  have HIn : Hid (∀ q, q < j → lower (nth P1 q).1 = lower (nth P1 j).1 → ((P1.take j).map fun p => lower p.1).contains (lower (nth P1 j).1) = true) := fun q hq e => by
                    rw [List.contains_iff_mem, ← e]
                    refine List.mem_map.2 ⟨nth P1 q, ?_, rfl⟩
                    have e2 : nth P1 q = (P1.take j)[q]'(by rw [List.length_take]; omega) := by
                      unfold nth
                      rw [List.getD_eq_getElem?_getD, List.getElem?_eq_getElem (by omega), List.getElem_take]
                      rfl
                    rw [e2]
                    exact List.getElem_mem _
                  have HOut : Hid ((∀ q, q < j → lower (nth P1 q).1 ≠ lower (nth P1 j).1) → ((P1.take j).map fun p => lower p.1).contains (lower (nth P1 j).1) = false) := fun h => by
                    rw [Bool.eq_false_iff]
                    intro hc'
                    rw [List.contains_iff_mem] at hc'
                    obtain ⟨x, hx, ex⟩ := List.mem_map.1 hc'
                    obtain ⟨q, hq, e⟩ := List.getElem_of_mem hx
                    rw [List.length_take] at hq
                    refine h q (by omega) ?_
                    have e2 : nth P1 q = x := by
                      unfold nth
                      rw [← e, List.getD_eq_getElem?_getD, List.getElem?_eq_getElem (by omega), List.getElem_take]
                      rfl
                    rw [e2]
                    exact ex
                  clear HTk HSet
                  generalize hp : nth P1 j = p at *
                  obtain ⟨pn, pv, pb⟩ := p
                  have HPJ : Hid (lowN (nth P1 j) = (lower pn, pv, pb)) := (by rw [hp]; rfl : _ = _)
                  clear hp
                  dsimp only at d0 d1 d2 hpl HON HBad HDup HA1 HN1 HIn HOut
                  have HL : Hid (∀ W, Calls Tryz.prog 19 #[.string (str pn)] W fun e w' => e = .returned (.string (str (lower pn))) ∧ Below W.heap.size W w') := fun W => by
                    have := rLower_any (str pn) (by rw [str_size]; unfold maxLen; omega) W
                    rw [lowS_str] at this
                    exact this
                  generalize str pn = N1 at *
                  generalize str pv = V1 at *
                  generalize hL1 : str (lower pn) = L1 at *
                  have HL1 : Hid (str (lower pn) = L1) := hL1
                  clear hL1
                  go_wp2_with fail
                  refine (HL.out _).mono ?_
                  rintro e w4 ⟨rfl, hb4⟩
                  have hg4 : w4.heap[g]? = some (.cells cur 57 (0, 0)) := (hb4.block g hgr).trans hg
                  have f4 : w4.frozen? ⟨g, j * 3, none⟩ = false := Lib.frozen_of_heap hg4 _
                  have x0 : w4.cell? ⟨g, j * 3, none⟩ = some (.string N1) := (hb4.cell (p := ⟨g, j * 3, none⟩) hgr).trans d0
                  have x2 : w4.cell? ⟨g, j * 3 + 2, none⟩ = some (.bool pb) := (hb4.cell (p := ⟨g, j * 3 + 2, none⟩) hgr).trans d2
                  have HO5 : Hid (OwnP 57 w1.heap.size (.slice (some ⟨g, 0, none⟩) P1.length ca) (lowK (j + 1) P1) (w4.setCell ⟨g, j * 3, none⟩ (.string L1))) := HON.out _ (OwnP.below hO.out hb4 (fun g' e => by cases e; exact hgr))
                  have HB5 : Hid (Below w1.heap.size w1 (w4.setCell ⟨g, j * 3, none⟩ (.string L1))) := (hW.out.trans (hb4.mono hW.out.size)).setCell (p := ⟨g, j * 3, none⟩) hBg _
                  have hn2 : ¬ j * 3 = j * 3 + 2 := by omega
                  have x5 : (w4.setCell ⟨g, j * 3, none⟩ (.string L1)).cell? ⟨g, j * 3 + 2, none⟩ = some (.bool pb) := by
                    obtain ⟨_, _, h⟩ := hcellK.out (j + 1) _ HO5.out j hlt
                    rw [HLow.out j (Nat.le_refl _), HPJ.out] at h
                    exact h
                  clear hb4 hg4
                  cases pb with
                  | false =>
                    have HX : Hid (R = ([], [], 152)) := HBad.out rfl
                    go_wp2
                    go_ret3
                    obtain ⟨vx, e1, e2, e3⟩ := HBAD.out HX.out _ HB5.out
                    exact ⟨vx, by rw [← e1]; rfl, e2, e3⟩
                  | true =>
                    have HAj : Hid ((P1.take (j + 1)).all (fun p => p.2.2) = true) := HA1.out rfl
                    go_wp2
                    generalize (w4.setCell ⟨g, j * 3, none⟩ (.string L1)) = w5 at *
                    go_loopw [11] (fun i wr => ∃ q : Nat, q ≤ j ∧ i = .int .i64 q ∧ Hid (∀ m, m < q → lower (nth P1 m).1 ≠ lower pn) ∧ Hid (∃ n, wr = w5.drewN n)) (fun i _ => j - (intOf i).toNat)
                    case atStart => exact ⟨0, Nat.zero_le _, rfl, (fun m hm => absurd hm (Nat.not_lt_zero _) : ∀ m, m < 0 → _), (⟨0, rfl⟩ : ∃ n, w5 = w5.drewN n)⟩
                    case round =>
                      obtain ⟨q, hq, rfl, hM, hw⟩ := hrel
                      obtain ⟨n, rfl⟩ := hw.out
                      clear hw
                      by_cases hqj : q < j
                      · have hqP : q < P1.length := by omega
                        have y1 := (hcellK.out (j + 1) _ HO5.out q hqP).1
                        have y2 := (hcellK.out (j + 1) _ HO5.out j hlt).1
                        rw [HLow.out q (by omega), show (lowN (nth P1 q)).1 = lower (nth P1 q).1 from rfl] at y1
                        rw [HLow.out j (Nat.le_refl _), HPJ.out, show (lower pn, pv, true).1 = lower pn from rfl, HL1.out] at y2
                        by_cases he : lower (nth P1 q).1 = lower pn
                        · have HX : Hid (R = ([], [], 152)) := HDup.out (HIn.out q hqj he)
                          rw [he, HL1.out] at y1
                          go_wp2_with fail
                          go_quiet (fail)
                          go_wp2
                          go_ret3
                          obtain ⟨vx, e1, e2, e3⟩ := HBAD.out HX.out _ (below_drewN (below_drewN HB5.out _) _)
                          exact ⟨vx, by rw [← e1]; rfl, e2, e3⟩
                        · have hM1 : Hid (∀ m, m < q + 1 → lower (nth P1 m).1 ≠ lower pn) := fun m hm => by
                            rcases Nat.lt_or_ge m q with h | h
                            · exact hM.out m h
                            · obtain rfl : m = q := by omega
                              exact he
                          have hne : ¬ str (lower (nth P1 q).1) = L1 := fun e => he (str_inj (e.trans HL1.out.symm))
                          generalize str (lower (nth P1 q).1) = L2 at *
                          have hne2 : (L2.toList == L1.toList) = false := by
                            rw [Bool.eq_false_iff]; intro e
                            have e := eq_of_beq e
                            rw [ByteArray.toList_eq, ByteArray.toList_eq] at e
                            exact hne (ByteArray.ext (Array.ext' e))
                          go_wp2_with fail
                          go_quiet (fail)
                          go_wp2
                          go_roundw
                          case rel => exact ⟨q + 1, by omega, by go_num, hM1, drawn_again w5 _ _⟩
                          case measure => simp [intOf]; omega
                      · obtain rfl : q = j := by omega
                        have HNj : Hid (noTwo ((P1.take (q + 1)).map fun p => lower p.1) = true) := HN1.out (HOut.out hM.out)
                        have HO6 : Hid (OwnP 57 w1.heap.size (.slice (some ⟨g, 0, none⟩) P1.length ca) (lowK (q + 1) P1) (w5.drewN n)) := Oc.OwnP.below HO5.out (below_drewN (Below.refl _ _) _)
                        have HB6 : Hid (Below w1.heap.size w1 (w5.drewN n)) := below_drewN HB5.out _
                        go_wp2
                        go_roundw
                        case rel => exact ⟨q + 1, by omega, by go_num, HAj, HNj, HO6, HB6⟩
                        case measure => simp [intOf]; omega
                · obtain rfl : j = P1.length := by omega
                  have hO' := hO.out
                  rw [lowK_all] at hO'
                  have HX : Hid (R = (LT, P1.map lowN, 0)) := (by rw [HRR.out, if_neg]; unfold lowOk; have h1 := hA.out; have h2 := hN.out; rw [List.take_length] at h1 h2; rw [h1, h2]; simp : R = _)
                  have HO' : Hid (OwnP 57 w1.heap.size (.slice a P1.length ca) (P1.map lowN) wo) := hO'
                  clear hO'
                  go_wp2_with fail
                  refine (HLo.out _).mono ?_
                  rintro e w7 ⟨rfl, hb7⟩
                  have HO7 : Hid (OwnP 57 w1.heap.size (.slice a P1.length ca) (P1.map lowN) w7) := Oc.OwnP.below HO'.out hb7
                  have HB7 : Hid (Below w1.heap.size w1 w7) := hW.out.trans (hb7.mono hW.out.size)
                  clear hb7
                  go_wp2
                  go_ret3
                  have e1 : str R.1 = WL := by rw [HX.out]; exact HWL.out
                  have e2 : R.2.2 = 0 := by rw [HX.out]
                  exact ⟨.slice a P1.length ca, by rw [e1, e2]; rfl, by rw [HX.out]; exact own_lowP HO7.out HB1.out.size, HB1.out.trans (HB7.out.mono HB1.out.size)⟩
            · have h2' : ((k : Int) + P2 != (S1.size : Int)) = true := by simp [h2]
              have HX : Hid (R = ([], [], 152)) := (by rw [HR.out, if_pos (.inr (.inr (.inl h2)))] : R = _)
              have hw2 : IntKind.i64.wrap ((k : Int) + P2) = (k : Int) + P2 := by rw [IntKind.wrap_i64]; omega
              subst h3
              clear h2 hk0
              go_wp2
              go_ret3
              obtain ⟨vx, e1, e2, e3⟩ := HBAD.out HX.out _ HB3.out
              exact ⟨vx, by rw [← e1]; rfl, e2, e3⟩
          · have HX : Hid (R = ([], [], 152)) := (by rw [HR.out, if_pos (.inr (.inl h3))] : R = _)
            have h3' : (P3 != 0) = true := by simpa using h3
            go_wp2
            go_ret3
            obtain ⟨vx, e1, e2, e3⟩ := HBAD.out HX.out _ HB3.out
            exact ⟨vx, by rw [← e1]; rfl, e2, e3⟩
      · go_wp2_with fail
        refine (HP0.out _).mono ?_
        rintro e w3 ⟨v, rfl, ho3, hb3⟩
        have HO3 : Hid (OwnP 57 w1.heap.size v P1 w3) := ho3
        have HB3 : Hid (Below w1.heap.size w1 w3) := hb3
        have HLt3 : Hid (∀ g, v.ownBlock = some g → w1.heap.size ≤ g ∧ g < w3.heap.size) := fun g hg => World.ownsRow.lt ho3 g hg
        obtain ⟨a, ca, rfl, _⟩ := OwnP.rd ho3
        clear ho3 hb3
        by_cases hk0 : k = 0
        · have HX : Hid (R = ([], [], 152)) := (by rw [HR.out, if_pos (.inl hk0)] : R = _)
          have hk0' : ((k : Int) == 0) = true := by simp [hk0]
          clear hk0
          go_wp2
          go_ret3
          obtain ⟨vx, e1, e2, e3⟩ := HBAD.out HX.out _ HB3.out
          exact ⟨vx, by rw [← e1]; rfl, e2, e3⟩
        · have hk0' : ((k : Int) == 0) = false := by simpa using hk0
          by_cases h3 : P3 = 0
          · by_cases h2 : (k : Int) + P2 = (S1.size : Int)
            · have h2' : ((k : Int) + P2 != (S1.size : Int)) = false := by simp [h2]
              subst h3
              have hw2 : IntKind.i64.wrap ((k : Int) + P2) = (k : Int) + P2 := by rw [IntKind.wrap_i64]; omega
              have HRR : Hid (R = if lowOk P1 = false then ([], [], 152) else (LT, P1.map lowN, 0)) := (by rw [HR.out]; simp [hk0, h2] : R = _)
              go_wp2
              go_loopw [10] (fun i wr => ∃ j : Nat, j ≤ P1.length ∧ i = .int .i64 j ∧ Hid ((P1.take j).all (fun p => p.2.2) = true) ∧ Hid (noTwo ((P1.take j).map fun p => lower p.1) = true) ∧ Hid (OwnP 57 w1.heap.size (.slice a P1.length ca) (lowK j P1) wr) ∧ Hid (Below w1.heap.size w1 wr)) (fun i _ => P1.length - (intOf i).toNat)
              case atStart => exact ⟨0, Nat.zero_le _, rfl, (rfl : (P1.take 0).all (fun p => p.2.2) = true), (rfl : noTwo ((P1.take 0).map fun p => lower p.1) = true), (by rw [lowK_zero]; exact HO3.out : OwnP _ _ _ _ _), HB3.out⟩
              case round =>
                obtain ⟨j, hj, rfl, hA, hN, hO, hW⟩ := hrel
                obtain ⟨wo, rfl⟩ : ∃ wo, wo = wr := ⟨_, rfl⟩
                by_cases hlt : j < P1.length
                · obtain ⟨g, cap, cur, hv, hBg, hg, hc⟩ := OwnP.form hO.out (by rw [lowK_len]; omega)
                  rw [lowK_len] at hv hc
                  injection hv with e1 e2 e3
                  subst e1 e3
                  have hgr : g < wo.heap.size := (Array.getElem?_eq_some_iff.1 hg).1
                  have hcellK : Hid (∀ (m : Nat) (W : World), OwnP 57 w1.heap.size (.slice (some ⟨g, 0, none⟩) P1.length ca) (lowK m P1) W → ∀ q, q < P1.length → W.cell? ⟨g, q * 3, none⟩ = some (.string (str (nth (lowK m P1) q).1)) ∧ W.cell? ⟨g, q * 3 + 1, none⟩ = some (.string (str (nth (lowK m P1) q).2.1)) ∧ W.cell? ⟨g, q * 3 + 2, none⟩ = some (.bool (nth (lowK m P1) q).2.2)) := fun m W h q hq => by
                    obtain ⟨a', c', e, hrd⟩ := OwnP.rd h
                    injection e with e1 e2 e3
                    rcases hrd with h' | ⟨g', o', eg, _, hcell⟩
                    · have := congrArg List.length h'; rw [lowK_len, List.length_nil] at this; omega
                    · rw [← e1] at eg
                      injection eg with eg
                      injection eg with e4 e5
                      subst e4 e5
                      have := hcell q (by rw [lowK_len]; exact hq)
                      rw [Nat.zero_add] at this
                      exact this
                  obtain ⟨d0, d1, d2⟩ := hcellK.out j wo hO.out j hlt
                  rw [lowK_at j P1 hlt] at d0 d1 d2
                  have HTk := take_nthP P1 j hlt
                  have HSet := lowK_set j P1 hlt
                  have HBad : Hid ((nth P1 j).2.2 = false → R = ([], [], 152)) := fun h => by rw [HRR.out, if_pos (lowOk_bad P1 j hlt h)]
                  have HDup : Hid (((P1.take j).map fun p => lower p.1).contains (lower (nth P1 j).1) = true → R = ([], [], 152)) := fun h => by rw [HRR.out, if_pos (lowOk_dup P1 j hlt h)]
                  have hpl : (nth P1 j).1.length ≤ 16777216 := HE.out _ (by unfold nth; rw [List.getD_eq_getElem?_getD, List.getElem?_eq_getElem hlt]; exact List.getElem_mem hlt)
                  have HON : Hid (∀ w', OwnP 57 w1.heap.size (.slice (some ⟨g, 0, none⟩) P1.length ca) (lowK j P1) w' → OwnP 57 w1.heap.size (.slice (some ⟨g, 0, none⟩) P1.length ca) (lowK (j + 1) P1) (w'.setCell ⟨g, j * 3, none⟩ (.string (str (lower (nth P1 j).1))))) := fun w' h => by
                    have := OwnP.setName h j (by rw [lowK_len]; exact hlt) (lower (nth P1 j).1)
                    rw [lowK_at j P1 hlt, HSet] at this
                    exact this
                  have HA1 : Hid ((nth P1 j).2.2 = true → (P1.take (j + 1)).all (fun p => p.2.2) = true) := fun h => by rw [HTk, List.all_append, hA.out]; simp [h]
                  have HN1 : Hid (((P1.take j).map fun p => lower p.1).contains (lower (nth P1 j).1) = false → noTwo ((P1.take (j + 1)).map fun p => lower p.1) = true) := fun h => by rw [HTk, List.map_append, List.map_singleton, noTwo_snoc, hN.out, h]; rfl
                  have HLow : Hid (∀ q, q ≤ j → nth (lowK (j + 1) P1) q = lowN (nth P1 q)) := fun q hq => lowK_low (j + 1) P1 q (by omega) (by omega)
                  have HIn : Hid (∀ q, q < j → lower (nth P1 q).1 = lower (nth P1 j).1 → ((P1.take j).map fun p => lower p.1).contains (lower (nth P1 j).1) = true) := fun q hq e => by
                    rw [List.contains_iff_mem, ← e]
                    refine List.mem_map.2 ⟨nth P1 q, ?_, rfl⟩
                    have e2 : nth P1 q = (P1.take j)[q]'(by rw [List.length_take]; omega) := by
                      unfold nth
                      rw [List.getD_eq_getElem?_getD, List.getElem?_eq_getElem (by omega), List.getElem_take]
                      rfl
                    rw [e2]
                    exact List.getElem_mem _
                  have HOut : Hid ((∀ q, q < j → lower (nth P1 q).1 ≠ lower (nth P1 j).1) → ((P1.take j).map fun p => lower p.1).contains (lower (nth P1 j).1) = false) := fun h => by
                    rw [Bool.eq_false_iff]
                    intro hc'
                    rw [List.contains_iff_mem] at hc'
                    obtain ⟨x, hx, ex⟩ := List.mem_map.1 hc'
                    obtain ⟨q, hq, e⟩ := List.getElem_of_mem hx
                    rw [List.length_take] at hq
                    refine h q (by omega) ?_
                    have e2 : nth P1 q = x := by
                      unfold nth
                      rw [← e, List.getD_eq_getElem?_getD, List.getElem?_eq_getElem (by omega), List.getElem_take]
                      rfl
                    rw [e2]
                    exact ex
                  clear HTk HSet
                  generalize hp : nth P1 j = p at *
                  obtain ⟨pn, pv, pb⟩ := p
                  have HPJ : Hid (lowN (nth P1 j) = (lower pn, pv, pb)) := (by rw [hp]; rfl : _ = _)
                  clear hp
                  dsimp only at d0 d1 d2 hpl HON HBad HDup HA1 HN1 HIn HOut
                  have HL : Hid (∀ W, Calls Tryz.prog 19 #[.string (str pn)] W fun e w' => e = .returned (.string (str (lower pn))) ∧ Below W.heap.size W w') := fun W => by
                    have := rLower_any (str pn) (by rw [str_size]; unfold maxLen; omega) W
                    rw [lowS_str] at this
                    exact this
                  generalize str pn = N1 at *
                  generalize str pv = V1 at *
                  generalize hL1 : str (lower pn) = L1 at *
                  have HL1 : Hid (str (lower pn) = L1) := hL1
                  clear hL1
                  go_wp2_with fail
                  refine (HL.out _).mono ?_
                  rintro e w4 ⟨rfl, hb4⟩
                  have hg4 : w4.heap[g]? = some (.cells cur 57 (0, 0)) := (hb4.block g hgr).trans hg
                  have f4 : w4.frozen? ⟨g, j * 3, none⟩ = false := Lib.frozen_of_heap hg4 _
                  have x0 : w4.cell? ⟨g, j * 3, none⟩ = some (.string N1) := (hb4.cell (p := ⟨g, j * 3, none⟩) hgr).trans d0
                  have x2 : w4.cell? ⟨g, j * 3 + 2, none⟩ = some (.bool pb) := (hb4.cell (p := ⟨g, j * 3 + 2, none⟩) hgr).trans d2
                  have HO5 : Hid (OwnP 57 w1.heap.size (.slice (some ⟨g, 0, none⟩) P1.length ca) (lowK (j + 1) P1) (w4.setCell ⟨g, j * 3, none⟩ (.string L1))) := HON.out _ (OwnP.below hO.out hb4 (fun g' e => by cases e; exact hgr))
                  have HB5 : Hid (Below w1.heap.size w1 (w4.setCell ⟨g, j * 3, none⟩ (.string L1))) := (hW.out.trans (hb4.mono hW.out.size)).setCell (p := ⟨g, j * 3, none⟩) hBg _
                  have hn2 : ¬ j * 3 = j * 3 + 2 := by omega
                  have x5 : (w4.setCell ⟨g, j * 3, none⟩ (.string L1)).cell? ⟨g, j * 3 + 2, none⟩ = some (.bool pb) := by
                    obtain ⟨_, _, h⟩ := hcellK.out (j + 1) _ HO5.out j hlt
                    rw [HLow.out j (Nat.le_refl _), HPJ.out] at h
                    exact h
                  clear hb4 hg4
                  cases pb with
                  | false =>
                    have HX : Hid (R = ([], [], 152)) := HBad.out rfl
                    go_wp2
                    go_ret3
                    obtain ⟨vx, e1, e2, e3⟩ := HBAD.out HX.out _ HB5.out
                    exact ⟨vx, by rw [← e1]; rfl, e2, e3⟩
                  | true =>
                    have HAj : Hid ((P1.take (j + 1)).all (fun p => p.2.2) = true) := HA1.out rfl
                    go_wp2
                    generalize (w4.setCell ⟨g, j * 3, none⟩ (.string L1)) = w5 at *
                    go_loopw [11] (fun i wr => ∃ q : Nat, q ≤ j ∧ i = .int .i64 q ∧ Hid (∀ m, m < q → lower (nth P1 m).1 ≠ lower pn) ∧ Hid (∃ n, wr = w5.drewN n)) (fun i _ => j - (intOf i).toNat)
                    case atStart => exact ⟨0, Nat.zero_le _, rfl, (fun m hm => absurd hm (Nat.not_lt_zero _) : ∀ m, m < 0 → _), (⟨0, rfl⟩ : ∃ n, w5 = w5.drewN n)⟩
                    case round =>
                      obtain ⟨q, hq, rfl, hM, hw⟩ := hrel
                      obtain ⟨n, rfl⟩ := hw.out
                      clear hw
                      by_cases hqj : q < j
                      · have hqP : q < P1.length := by omega
                        have y1 := (hcellK.out (j + 1) _ HO5.out q hqP).1
                        have y2 := (hcellK.out (j + 1) _ HO5.out j hlt).1
                        rw [HLow.out q (by omega), show (lowN (nth P1 q)).1 = lower (nth P1 q).1 from rfl] at y1
                        rw [HLow.out j (Nat.le_refl _), HPJ.out, show (lower pn, pv, true).1 = lower pn from rfl, HL1.out] at y2
                        by_cases he : lower (nth P1 q).1 = lower pn
                        · have HX : Hid (R = ([], [], 152)) := HDup.out (HIn.out q hqj he)
                          rw [he, HL1.out] at y1
                          go_wp2_with fail
                          go_quiet (fail)
                          go_wp2
                          go_ret3
                          obtain ⟨vx, e1, e2, e3⟩ := HBAD.out HX.out _ (below_drewN (below_drewN HB5.out _) _)
                          exact ⟨vx, by rw [← e1]; rfl, e2, e3⟩
                        · have hM1 : Hid (∀ m, m < q + 1 → lower (nth P1 m).1 ≠ lower pn) := fun m hm => by
                            rcases Nat.lt_or_ge m q with h | h
                            · exact hM.out m h
                            · obtain rfl : m = q := by omega
                              exact he
                          have hne : ¬ str (lower (nth P1 q).1) = L1 := fun e => he (str_inj (e.trans HL1.out.symm))
                          generalize str (lower (nth P1 q).1) = L2 at *
                          have hne2 : (L2.toList == L1.toList) = false := by
                            rw [Bool.eq_false_iff]; intro e
                            have e := eq_of_beq e
                            rw [ByteArray.toList_eq, ByteArray.toList_eq] at e
                            exact hne (ByteArray.ext (Array.ext' e))
                          go_wp2_with fail
                          go_quiet (fail)
                          go_wp2
                          go_roundw
                          case rel => exact ⟨q + 1, by omega, by go_num, hM1, drawn_again w5 _ _⟩
                          case measure => simp [intOf]; omega
                      · obtain rfl : q = j := by omega
                        have HNj : Hid (noTwo ((P1.take (q + 1)).map fun p => lower p.1) = true) := HN1.out (HOut.out hM.out)
                        have HO6 : Hid (OwnP 57 w1.heap.size (.slice (some ⟨g, 0, none⟩) P1.length ca) (lowK (q + 1) P1) (w5.drewN n)) := Oc.OwnP.below HO5.out (below_drewN (Below.refl _ _) _)
                        have HB6 : Hid (Below w1.heap.size w1 (w5.drewN n)) := below_drewN HB5.out _
                        go_wp2
                        go_roundw
                        case rel => exact ⟨q + 1, by omega, by go_num, HAj, HNj, HO6, HB6⟩
                        case measure => simp [intOf]; omega
                · obtain rfl : j = P1.length := by omega
                  have hO' := hO.out
                  rw [lowK_all] at hO'
                  have HX : Hid (R = (LT, P1.map lowN, 0)) := (by rw [HRR.out, if_neg]; unfold lowOk; have h1 := hA.out; have h2 := hN.out; rw [List.take_length] at h1 h2; rw [h1, h2]; simp : R = _)
                  have HO' : Hid (OwnP 57 w1.heap.size (.slice a P1.length ca) (P1.map lowN) wo) := hO'
                  clear hO'
                  go_wp2_with fail
                  refine (HLo.out _).mono ?_
                  rintro e w7 ⟨rfl, hb7⟩
                  have HO7 : Hid (OwnP 57 w1.heap.size (.slice a P1.length ca) (P1.map lowN) w7) := Oc.OwnP.below HO'.out hb7
                  have HB7 : Hid (Below w1.heap.size w1 w7) := hW.out.trans (hb7.mono hW.out.size)
                  clear hb7
                  go_wp2
                  go_ret3
                  have e1 : str R.1 = WL := by rw [HX.out]; exact HWL.out
                  have e2 : R.2.2 = 0 := by rw [HX.out]
                  exact ⟨.slice a P1.length ca, by rw [e1, e2]; rfl, by rw [HX.out]; exact own_lowP HO7.out HB1.out.size, HB1.out.trans (HB7.out.mono HB1.out.size)⟩
            · have h2' : ((k : Int) + P2 != (S1.size : Int)) = true := by simp [h2]
              have HX : Hid (R = ([], [], 152)) := (by rw [HR.out, if_pos (.inr (.inr (.inl h2)))] : R = _)
              have hw2 : IntKind.i64.wrap ((k : Int) + P2) = (k : Int) + P2 := by rw [IntKind.wrap_i64]; omega
              subst h3
              clear h2 hk0
              go_wp2
              go_ret3
              obtain ⟨vx, e1, e2, e3⟩ := HBAD.out HX.out _ HB3.out
              exact ⟨vx, by rw [← e1]; rfl, e2, e3⟩
          · have HX : Hid (R = ([], [], 152)) := (by rw [HR.out, if_pos (.inr (.inl h3))] : R = _)
            have h3' : (P3 != 0) = true := by simpa using h3
            go_wp2
            go_ret3
            obtain ⟨vx, e1, e2, e3⟩ := HBAD.out HX.out _ HB3.out
            exact ⟨vx, by rw [← e1]; rfl, e2, e3⟩

end Ds
end Go.Proofs.YtlnlhhobmgiceaaGreatDoor
