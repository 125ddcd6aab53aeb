/-
  sheet: the document's starts and tail.
-/
import Derived.Test.YtlnlhhobmgiceaaGreatDoorSrU
set_option linter.unusedVariables false
set_option linter.unusedSimpArgs false
namespace Go.Proofs.YtlnlhhobmgiceaaGreatDoor
open Go.RowKit Go.Shelf
namespace Sr
open Oc Tg Mf

theorem ext_take (b : ByteArray) (k j : Nat) : b.extract k (k + j) = str ((b.data.toList.drop k).take j) := by
  apply eq_list
  rw [str_list, ByteArray.data_extract, Array.toList_extract, List.extract_eq_take_drop, Nat.add_sub_cancel_left]
theorem occ_ext (b s : ByteArray) (k : Nat) : ((b.extract k (k + s.size)).toList == s.toList) = Lib.hasPrefix (b.data.toList.drop k) s.data.toList := by
  rw [ext_take, ByteArray.toList_eq, ByteArray.toList_eq, str_list]
  unfold Lib.hasPrefix
  rw [Bool.eq_iff_iff, List.isPrefixOf_iff_prefix, List.prefix_iff_eq_take, size_list, beq_iff_eq]
  exact eq_comm

set_option maxRecDepth 100000 in
set_option maxHeartbeats 600000 in
theorem rstarts_any (s t : ByteArray) (hs : s.size ≤ 4000000000) (ht : t.size ≤ 16777216) (a : Nat) (ha : a ≤ s.size) (w : World) :
    Calls Tryz.prog 21 #[.string s, .int .i64 a, .string t] w fun e w' => e = .returned (.bool (Lib.hasPrefix (s.data.toList.drop a) t.data.toList)) ∧ w' = w := by
  have hok : ((s.extract a (a + t.size)).toList == t.toList) = Lib.hasPrefix (s.data.toList.drop a) t.data.toList := occ_ext s t a
  have HF : Hid (s.size < a + t.size → Lib.hasPrefix (s.data.toList.drop a) t.data.toList = false) := fun h => by
    cases hp : Lib.hasPrefix (s.data.toList.drop a) t.data.toList with
    | false => rfl
    | true =>
      have := (List.isPrefixOf_iff_prefix.1 hp).length_le
      rw [List.length_drop, size_list, size_list] at this
      by_cases hz : t.size = 0
      · omega
      · omega
  generalize Lib.hasPrefix (s.data.toList.drop a) t.data.toList = b at *
  by_cases hle : a + t.size ≤ s.size
  · have hle' : (a : Int) + (t.size : Int) ≤ (s.size : Int) := by omega
    clear HF
    go_enter Tryz.func21, Tryz.ntmps21
    go_wp2
    go_ret
    exact ⟨rfl, rfl⟩
  · have hb := HF.out (by omega)
    subst hb
    have hle' : ¬ (a : Int) + (t.size : Int) ≤ (s.size : Int) := by omega
    clear HF hok
    go_enter Tryz.func21, Tryz.ntmps21
    go_wp2
    go_ret
    exact ⟨rfl, rfl⟩

theorem drop_get (l : List UInt8) (k : Nat) (h : k < l.length) : l.drop k = l.getD k 0 :: l.drop (k + 1) := by
  rw [List.drop_eq_getElem_cons h, List.getD_eq_getElem?_getD, List.getElem?_eq_getElem h]
  rfl

set_option maxRecDepth 100000 in
set_option maxHeartbeats 1000000 in
theorem rtail_any (s : ByteArray) (hs : s.size ≤ 4000000000) (a : Nat) (ha : a ≤ s.size) (w : World) :
    Calls Tryz.prog 22 #[.string s, .int .i64 a] w fun e w' => e = .returned (.tuple #[.int .i64 (tailR (s.data.toList.drop a)).1, .bool (tailR (s.data.toList.drop a)).2]) ∧ w' = w := by
  have hsl : s.data.toList.length = s.size := size_list s
  obtain ⟨R, HR⟩ : ∃ R, Hid (R = tailR (s.data.toList.drop a)) := ⟨_, rfl⟩
  rw [← HR.out]
  have HSt : Hid (∀ k W, k ≤ s.size → Calls Tryz.prog 21 #[.string s, .int .i64 (k : Int), .string ⟨#[13, 10]⟩] W fun e w' => e = .returned (.bool (Lib.hasPrefix (s.data.toList.drop k) [13, 10])) ∧ w' = W) := fun k W h => rstarts_any s ⟨#[13, 10]⟩ hs (by decide) k h W
  go_enter Tryz.func22, Tryz.ntmps22
  go_wp2_with fail
  go_loopw [6] (fun i wr => ∃ k : Nat, i = .int .i64 (k : Int) ∧ a + k ≤ s.size ∧ Hid (trimL (s.data.toList.drop a) = trimL (s.data.toList.drop (a + k))) ∧ wr = w) (fun i _ => s.size - (intOf i).toNat)
  case atStart => exact ⟨0, rfl, by omega, rfl, rfl⟩
  case round =>
    obtain ⟨k, rfl, hk, HT, rfl⟩ := hrel
    by_cases hlt : a + k < s.size
    · have hlt' : (a : Int) + (k : Int) < (s.size : Int) := by omega
      have hg := drop_get s.data.toList (a + k) (by omega)
      have hby : ((s[a + k].toNat : Nat) : Int) = byt s (a + k) := byt_at s (a + k) hlt
      obtain ⟨b0, b1⟩ := byt_bd s (a + k)
      have hC : blankB (s.data.toList.getD (a + k) 0) = blankI (byt s (a + k)) := rfl
      have hC2 : byt s (a + k) = ((s.data.toList.getD (a + k) 0).toNat : Int) := rfl
      generalize hcc : s.data.toList.getD (a + k) 0 = c at *
      clear hcc
      cases hb : blankI (byt s (a + k)) with
      | true =>
        have HT2 : Hid (trimL (s.data.toList.drop a) = trimL (s.data.toList.drop (a + (k + 1)))) := HT.out.trans (by rw [hg, trimL_cons, hC, hb]; rfl)
        clear hg hC hC2
        go_wp2_with (go_at_call 41; refine (IsBlank_any _ (by omega) (by omega) _).mono ?_; rintro e w' ⟨rfl, rfl⟩)
        go_roundw
        case rel => exact ⟨k + 1, by go_num, by omega, HT2, by first | trivial | rfl⟩
        case measure => simp [intOf]; omega
      | false =>
        have HT2 : Hid (trimL (s.data.toList.drop a) = c :: s.data.toList.drop (a + k + 1)) := HT.out.trans (by rw [hg, trimL_cons, hC, hb]; rfl)
        have hlen : (s.data.toList.drop (a + k + 1)).length = s.size - (a + k + 1) := by rw [List.length_drop, hsl]
        have hlr : (s.data.toList.drop a).length = s.size - a := by rw [List.length_drop, hsl]
        have HSt2 : Hid (∀ W, Calls Tryz.prog 21 #[.string s, .int .i64 ((a : Int) + (k : Int)), .string ⟨#[13, 10]⟩] W fun e w' => e = .returned (.bool (Lib.hasPrefix (c :: s.data.toList.drop (a + k + 1)) [13, 10])) ∧ w' = W) := fun W => by
          have := HSt.out (a + k) W hk
          rw [hg] at this
          exact this
        have HRd : Hid (R = _) := HR.out.trans (by unfold tailR; rw [HT2.out, hlr, List.length_cons, hlen])
        have hne : ¬ (a : Int) + (k : Int) = (s.size : Int) := by omega
        have hneb : ((a : Int) + (k : Int) == (s.size : Int)) = false := by simpa using hne
        clear hg hC HT HT2 HR HSt hlr
        by_cases h1 : a + k + 1 = s.size ∧ c = 13
        · obtain ⟨h1, rfl⟩ := h1
          have hnil : s.data.toList.drop (a + k + 1) = [] := List.eq_nil_of_length_eq_zero (by rw [hlen]; omega)
          have HQ : Hid (R = (0, true)) := (by rw [HRd.out, if_pos (.inr (by rw [hnil]))] : R = _)
          have h1' : (a : Int) + (k : Int) + 1 = (s.size : Int) := by omega
          have h13 : byt s (a + k) = 13 := hC2
          clear HRd hC2
          go_wp2_with (go_at_call 41; refine (IsBlank_any _ (by omega) (by omega) _).mono ?_; rintro e w' ⟨rfl, rfl⟩)
          go_ret2
          rw [HQ.out]
          exact ⟨rfl, rfl⟩
        · have HRe : Hid (R = _) := HRd.out.trans (by
            rw [if_neg]
            rintro (h | h)
            · cases h
            · injection h with e1 e2
              apply h1
              rw [e2] at hlen
              exact ⟨by simp at hlen; omega, e1⟩)
          have hnk : s.size - a - (s.size - (a + k + 1) + 1) = k := by omega
          rw [hnk] at HRe
          have hcn : c = 13 ↔ byt s (a + k) = 13 := by
            rw [hC2]
            constructor
            · intro h; rw [h]; rfl
            · intro h
              apply UInt8.toNat.inj
              have : (c.toNat : Int) = 13 := h
              show c.toNat = 13
              omega
          clear HRd hC2
          generalize Lib.hasPrefix (c :: s.data.toList.drop (a + k + 1)) [13, 10] = b at *
          by_cases h2 : a + k + 1 = s.size
          · have h2' : (a : Int) + (k : Int) + 1 = (s.size : Int) := by omega
            have h3 : ¬ byt s (a + k) = 13 := fun h => h1 ⟨h2, hcn.2 h⟩
            have h3b : (byt s (a + k) == 13) = false := by simpa using h3
            clear hcn h1 hlen
            cases b with
            | true =>
              have HQ : Hid (R = ((k : Int) + 2, false)) := (by rw [HRe.out, if_pos rfl] : R = _)
              go_wp2_with (first | (go_at_call 41; refine (IsBlank_any _ (by omega) (by omega) _).mono ?_; rintro e w' ⟨rfl, rfl⟩) | (go_at_call 21; refine (HSt2.out _).mono ?_; rintro e w' ⟨rfl, rfl⟩))
              go_ret2
              rw [HQ.out]
              exact ⟨rfl, rfl⟩
            | false =>
              have HQ : Hid (R = (-1, false)) := (by rw [HRe.out, if_neg (by simp)] : R = _)
              go_wp2_with (first | (go_at_call 41; refine (IsBlank_any _ (by omega) (by omega) _).mono ?_; rintro e w' ⟨rfl, rfl⟩) | (go_at_call 21; refine (HSt2.out _).mono ?_; rintro e w' ⟨rfl, rfl⟩))
              go_ret2
              rw [HQ.out]
              exact ⟨rfl, rfl⟩
          · have h2' : ¬ (a : Int) + (k : Int) + 1 = (s.size : Int) := by omega
            have h2b : ((a : Int) + (k : Int) + 1 == (s.size : Int)) = false := by simpa using h2'
            clear hcn h1 hlen
            cases b with
            | true =>
              have HQ : Hid (R = ((k : Int) + 2, false)) := (by rw [HRe.out, if_pos rfl] : R = _)
              go_wp2_with (first | (go_at_call 41; refine (IsBlank_any _ (by omega) (by omega) _).mono ?_; rintro e w' ⟨rfl, rfl⟩) | (go_at_call 21; refine (HSt2.out _).mono ?_; rintro e w' ⟨rfl, rfl⟩))
              go_ret2
              rw [HQ.out]
              exact ⟨rfl, rfl⟩
            | false =>
              have HQ : Hid (R = (-1, false)) := (by rw [HRe.out, if_neg (by simp)] : R = _)
              go_wp2_with (first | (go_at_call 41; refine (IsBlank_any _ (by omega) (by omega) _).mono ?_; rintro e w' ⟨rfl, rfl⟩) | (go_at_call 21; refine (HSt2.out _).mono ?_; rintro e w' ⟨rfl, rfl⟩))
              go_ret2
              rw [HQ.out]
              exact ⟨rfl, rfl⟩
    · have hge : ¬ (a : Int) + (k : Int) < (s.size : Int) := by omega
      have heq : (a : Int) + (k : Int) = (s.size : Int) := by omega
      have hnil : s.data.toList.drop (a + k) = [] := List.eq_nil_of_length_eq_zero (by rw [List.length_drop, hsl]; omega)
      have HQ : Hid (R = (0, true)) := (by
        rw [HR.out]
        unfold tailR
        rw [HT.out, hnil, if_pos (.inl rfl)] : R = _)
      clear HT HR HSt hnil
      go_wp2
      go_ret2
      rw [HQ.out]
      exact ⟨rfl, rfl⟩

end Sr
end Go.Proofs.YtlnlhhobmgiceaaGreatDoor
