/-
  Of the document: ParseSize.
-/
import Derived.Test.YtdbnlpnnfnodnaaDoorCkT
import Derived.Test.YtdbnlpnnfnodnaaDoorCkV
set_option linter.unusedVariables false
set_option linter.unusedSimpArgs false
set_option maxRecDepth 100000
namespace Go.Proofs.YtdbnlpnnfnodnaaDoor
open Go.RowKit Go.Shelf
namespace Ck
open Oc Tg _root_.Go.Proofs.YtdbnlpnnfnodnaaDoor.Fd

theorem hexV_bd_all : ∀ n : Fin 256, (hexB (UInt8.ofNat n.val) = true → 0 ≤ hexV (UInt8.ofNat n.val) ∧ hexV (UInt8.ofNat n.val) ≤ 15 ∧ hexV (UInt8.ofNat n.val) = valI ((UInt8.ofNat n.val).toNat : Int)) ∧ (hexB (UInt8.ofNat n.val) = false → hexV (UInt8.ofNat n.val) = -1) := by decide +kernel
theorem hexV_bd (c : UInt8) : (hexB c = true → 0 ≤ hexV c ∧ hexV c ≤ 15 ∧ hexV c = valI (c.toNat : Int)) ∧ (hexB c = false → hexV c = -1) := by
  have h := hexV_bd_all ⟨c.toNat, c.toNat_lt⟩
  simpa using h
def accH (n : Int) (c : UInt8) : Int := if n ≤ 1099511627776 then 16 * n + hexV c else n
def hexAcc (l : List UInt8) : Int := l.foldl accH 0
theorem hexAcc_snoc (l : List UInt8) (c : UInt8) : hexAcc (l ++ [c]) = accH (hexAcc l) c := by unfold hexAcc; rw [List.foldl_append]; rfl
theorem hexAcc_is : ∀ (n : Nat) (l : List UInt8), l.length = n → (∀ c ∈ l, hexB c = true) → 0 ≤ numOf 16 l ∧ 0 ≤ hexAcc l ∧ hexAcc l ≤ 17592186044431 ∧ (numOf 16 l ≤ 1099511627776 → hexAcc l = numOf 16 l) ∧ (1099511627776 < numOf 16 l → 1099511627776 < hexAcc l) := by
  intro n
  induction n with
  | zero =>
    intro l hl _
    obtain rfl := List.eq_nil_of_length_eq_zero hl
    exact ⟨by decide, by decide, by decide, fun _ => rfl, fun h => absurd h (by decide)⟩
  | succ n ih =>
    intro l hl hall
    rcases List.eq_nil_or_concat l with h | ⟨a, c, h⟩
    · subst h; simp at hl
    · have h' : l = a ++ [c] := by simpa using h
      subst h'
      simp at hl
      obtain ⟨i0, i1, i2, i3, i4⟩ := ih a hl (fun d hd => hall d (by simp [hd]))
      obtain ⟨v0, v1, v2⟩ := (hexV_bd c).1 (hall c (by simp))
      rw [hexAcc_snoc, numOf_snoc, ← v2]
      unfold accH
      by_cases hb : numOf 16 a ≤ 1099511627776
      · rw [i3 hb, if_pos hb]
        refine ⟨by omega, by omega, by omega, fun _ => by omega, fun _ => by omega⟩
      · have := i4 (by omega)
        rw [if_neg (by omega)]
        exact ⟨by omega, i1, i2, fun _ => by omega, fun _ => this⟩
theorem numR_hex (l : List UInt8) (h0 : l ≠ []) (hall : ∀ c ∈ l, hexB c = true) : numR 16 l 1099511627776 = if 1099511627776 < hexAcc l then (0, 12) else (hexAcc l, 0) := by
  obtain ⟨_, _, _, i3, i4⟩ := hexAcc_is _ l rfl hall
  unfold numR
  have h1 : (l.isEmpty || l.any (fun c => decide (16 ≤ valI (c.toNat : Int)))) = false := by
    rw [Bool.or_eq_false_iff]
    refine ⟨by simpa using h0, ?_⟩
    rw [List.any_eq_false]
    intro c hc
    obtain ⟨_, v1, v2⟩ := (hexV_bd c).1 (hall c hc)
    simp
    omega
  rw [h1]
  by_cases hb : 1099511627776 < numOf 16 l
  · rw [if_neg (by decide), if_pos hb, if_pos (i4 hb)]
  · rw [if_neg (by decide), if_neg hb, if_neg (by rw [i3 (by omega)]; exact hb), i3 (by omega)]
theorem tw_all_hex : ∀ (l : List UInt8), ∀ c ∈ l.takeWhile hexB, hexB c = true
  | [], _, h => by simp at h
  | x :: l, c, h => by
    rw [List.takeWhile_cons] at h
    split at h
    · rcases List.mem_cons.1 h with rfl | h
      · assumption
      · exact tw_all_hex l c h
    · simp at h

set_option maxHeartbeats 4000000 in
theorem rParseSize_any (s : ByteArray) (hs : s.size ≤ 4000000) (w : World) :
    Calls Tryd.prog 7 #[.string s] w fun e w' => ∃ v, e = .returned (.tuple #[.int .i64 (sizeR s.data.toList).1, v, .int .i64 (sizeR s.data.toList).2.2]) ∧ OwnP 46 w.heap.size v (sizeR s.data.toList).2.1 w' ∧ Below w.heap.size w w' := by
  by_cases hbig : 254 < s.size
  · have e : sizeR s.data.toList = (0, [], 100) := by unfold sizeR; rw [if_pos (by rw [size_list]; exact hbig)]
    rw [e]
    go_enter Tryd.func7, Tryd.ntmps7
    go_wp2
    go_ret3
    exact ⟨.slice none 0 0, rfl, ownP_nil _ _ _, Below.refl _ _⟩
  have HZ : Hid (sizeR s.data.toList = if s.data.toList.takeWhile hexB = [] ∨ (paramsR (s.data.toList.dropWhile hexB)).2.2 ≠ 0 ∨ trim ((s.data.toList.dropWhile hexB).drop (paramsR (s.data.toList.dropWhile hexB)).2.1.toNat) ≠ [] then (0, [], 100)
    else if (numR 16 (s.data.toList.takeWhile hexB) 1099511627776).2 ≠ 0 then (0, [], 102) else ((numR 16 (s.data.toList.takeWhile hexB) 1099511627776).1, (paramsR (s.data.toList.dropWhile hexB)).1, 0)) := by
    show sizeR _ = _
    unfold sizeR
    rw [if_neg (by rw [size_list]; exact hbig)]
  have hsm : s.size ≤ 254 := by omega
  clear hbig hs
  go_enter Tryd.func7, Tryd.ntmps7
  go_wp2
  go_loopw [5, 6] (fun nv iv wr => ∃ (k : Nat) (n : Int), k ≤ s.size ∧ iv = .int .i64 k ∧ nv = .int .i64 n ∧ 0 ≤ n ∧ n ≤ 17592186044431 ∧ Hid (n = hexAcc (s.data.toList.take k) ∧ (∀ c ∈ s.data.toList.take k, hexB c = true) ∧ s.data.toList.takeWhile hexB = s.data.toList.take k ++ (s.data.toList.drop k).takeWhile hexB ∧ s.data.toList.dropWhile hexB = (s.data.toList.drop k).dropWhile hexB) ∧ Hid (Below w.heap.size w wr)) (fun _ iv _ => s.size - (intOf iv).toNat)
  case atStart => exact ⟨0, 0, Nat.zero_le _, rfl, rfl, by decide, by decide, (⟨rfl, fun c h => by simp at h, by simp, by simp⟩ : (0 : Int) = hexAcc (s.data.toList.take 0) ∧ (∀ c ∈ s.data.toList.take 0, hexB c = true) ∧ s.data.toList.takeWhile hexB = s.data.toList.take 0 ++ (s.data.toList.drop 0).takeWhile hexB ∧ s.data.toList.dropWhile hexB = (s.data.toList.drop 0).dropWhile hexB), Below.refl _ _⟩
  case round =>
    obtain ⟨k, n, hk, rfl, rfl, n0, n1, hst, hbl⟩ := hrel
    have hcase : (∃ h : k < s.size, hexB (s.data.toList.getD k 0) = true) ∨ ((k < s.size → hexB (s.data.toList.getD k 0) = false)) := by
      by_cases h : k < s.size
      · cases hx : hexB (s.data.toList.getD k 0) with
        | true => exact .inl ⟨h, rfl⟩
        | false => exact .inr (fun _ => rfl)
      · exact .inr (fun e => absurd e h)
    rcases hcase with ⟨hlt, hx⟩ | hno
    · obtain ⟨v0, v1, hv2⟩ := (hexV_bd _).1 hx
      clear hv2
      have hby : ((s[k].toNat : Nat) : Int) = byt s k := byt_at s k hlt
      have HX : Hid (∀ w, Calls Tryd.prog 16 #[.int .u8 (byt s k)] w fun e w' => e = .returned (.int .i64 (hexV (s.data.toList.getD k 0))) ∧ Below w.heap.size w w') := fun w => rhex_any (s.data.toList.getD k 0) w
      have HNn : Hid (accH n (s.data.toList.getD k 0) = hexAcc (s.data.toList.take (k + 1)) ∧ (∀ c ∈ s.data.toList.take (k + 1), hexB c = true) ∧ s.data.toList.takeWhile hexB = s.data.toList.take (k + 1) ++ (s.data.toList.drop (k + 1)).takeWhile hexB ∧ s.data.toList.dropWhile hexB = (s.data.toList.drop (k + 1)).dropWhile hexB) := by
        obtain ⟨e1, e2, e3, e4⟩ := hst.out
        rw [drop_cons s.data.toList k (by rw [size_list]; exact hlt)] at e3 e4
        rw [List.takeWhile_cons, if_pos hx] at e3
        rw [List.dropWhile_cons, if_pos hx] at e4
        refine ⟨?_, ?_, ?_, e4⟩
        · rw [take_snoc s k hlt, hexAcc_snoc, ← e1]
        · intro c hc
          rw [take_snoc s k hlt, List.mem_append] at hc
          rcases hc with hc | hc
          · exact e2 c hc
          · simp only [List.mem_singleton] at hc; subst hc; exact hx
        · rw [e3, take_snoc s k hlt]; simp
      clear hx
      have HAc : Hid (accH n (s.data.toList.getD k 0) = if n ≤ 1099511627776 then 16 * n + hexV (s.data.toList.getD k 0) else n) := (rfl : accH n _ = _)
      generalize hv : hexV (s.data.toList.getD k 0) = v at *
      generalize hacn : accH n (s.data.toList.getD k 0) = n' at *
      clear hv hacn
      by_cases hb : n ≤ 1099511627776
      · have HA2 : Hid (n' = 16 * n + v) := (by rw [HAc.out, if_pos hb] : n' = _)
        go_wp2_with fail
        refine (HX.out _).mono ?_
        rintro e w2 ⟨rfl, hb2⟩
        have HB2 : Hid (Below w.heap.size w w2) := bel_trans hbl.out hb2
        clear hb2
        go_wp2_with fail
        refine (HX.out _).mono ?_
        rintro e w3 ⟨rfl, hb3⟩
        have HB3 : Hid (Below w.heap.size w w3) := bel_trans HB2.out hb3
        clear hb3
        go_wp2
        go_roundw
        case rel => exact ⟨k + 1, 16 * n + v, by omega, by go_num, rfl, by omega, by omega, (by rw [← HA2.out]; exact HNn.out : _ ∧ _), HB3⟩
        case measure => simp [intOf]; omega
      · have HA2 : Hid (n' = n) := (by rw [HAc.out, if_neg hb] : n' = _)
        go_wp2_with fail
        refine (HX.out _).mono ?_
        rintro e w2 ⟨rfl, hb2⟩
        have HB2 : Hid (Below w.heap.size w w2) := bel_trans hbl.out hb2
        clear hb2
        go_wp2
        go_roundw
        case rel => exact ⟨k + 1, n, by omega, by go_num, rfl, by omega, by omega, (by rw [← HA2.out]; exact HNn.out : _ ∧ _), HB2⟩
        case measure => simp [intOf]; omega
    · have HE : Hid (n = hexAcc (s.data.toList.takeWhile hexB) ∧ s.data.toList.takeWhile hexB = s.data.toList.take k ∧ s.data.toList.dropWhile hexB = s.data.toList.drop k) := by
        obtain ⟨e1, e2, e3, e4⟩ := hst.out
        by_cases hlt : k < s.size
        · rw [drop_cons s.data.toList k (by rw [size_list]; exact hlt)] at e3 e4
          rw [List.takeWhile_cons, if_neg (by rw [hno hlt]; decide), List.append_nil] at e3
          rw [List.dropWhile_cons, if_neg (by rw [hno hlt]; decide), ← drop_cons s.data.toList k (by rw [size_list]; exact hlt)] at e4
          exact ⟨by rw [e3]; exact e1, e3, e4⟩
        · have hd : s.data.toList.drop k = [] := List.drop_eq_nil_of_le (by rw [size_list]; omega)
          rw [hd] at e3 e4
          rw [List.takeWhile_nil, List.append_nil] at e3
          rw [hd]
          exact ⟨by rw [e3]; exact e1, e3, e4⟩
      obtain ⟨R, hR⟩ : ∃ R, R = s.extract k s.size := ⟨_, rfl⟩
      have hRz : R.size = s.size - k := by rw [hR]; exact size_ext s k hk
      have HRl : Hid (s.data.toList.dropWhile hexB = R.data.toList) := (by rw [hR, Lib.extract_to_end]; exact HE.out.2.2 : s.data.toList.dropWhile hexB = _)
      have HNum : Hid (k ≠ 0 → numR 16 (s.data.toList.takeWhile hexB) 1099511627776 = if 1099511627776 < n then (0, 12) else (n, 0)) := fun h => by
        have h1 := numR_hex (s.data.toList.takeWhile hexB) (fun e => by
          have h2 := HE.out.2.1
          rw [e] at h2
          have h3 := congrArg List.length h2
          rw [List.length_take, size_list, Nat.min_eq_left hk] at h3
          exact h h3.symm) (tw_all_hex _)
        rw [← HE.out.1] at h1
        exact h1
      have HTk : Hid (s.data.toList.takeWhile hexB = [] ↔ k = 0) := by
        show _ ↔ _
        rw [HE.out.2.1]
        constructor
        · intro e
          have h3 := congrArg List.length e
          rw [List.length_take, size_list, Nat.min_eq_left hk] at h3
          exact h3
        · intro e; subst e; simp
      have HDr : Hid (∀ m : Nat, R.data.toList.drop m = (s.extract (k + m) s.size).data.toList) := fun m => by rw [hR, Lib.extract_to_end, Lib.extract_to_end, List.drop_drop]
      have HP : Hid (∀ w, Calls Tryd.prog 17 #[.string R] w fun e w' => ∃ v, e = .returned (.tuple #[v, .int .i64 (paramsR R.data.toList).2.1, .bool ((paramsR R.data.toList).2.2 == 0)]) ∧ OwnP 46 w.heap.size v (paramsR R.data.toList).1 w' ∧ Below w.heap.size w w') := fun w => rParams_any R (by omega) w
      rw [HRl.out] at HZ
      have hxlt : k < s.size → ((s[k]!.toNat : Nat) : Int) = ((s[k]!.toNat : Nat) : Int) := fun _ => rfl
      clear hxlt
      have hts : ¬ ((k : Int) < (s.size : Int)) ∨ ∃ h : k < s.size, ((s[k].toNat : Nat) : Int) = byt s k ∧ (∀ w, Calls Tryd.prog 16 #[.int .u8 (byt s k)] w fun e w' => e = .returned (.int .i64 (-1)) ∧ Below w.heap.size w w') := by
        by_cases h1 : k < s.size
        · right
          refine ⟨h1, byt_at s _ h1, fun w => ?_⟩
          have h2 := rhex_any (s.data.toList.getD k 0) w
          rw [(hexV_bd _).2 (hno h1)] at h2
          exact h2
        · left; omega
      have HRE : Hid (R = s.extract k s.size) := hR
      clear hno hst HE HRl hR
      -- the way out of the loop, and then the parameters
      have HPs : Hid (∀ w1 : World, Below w.heap.size w w1 → Calls Tryd.prog 17 #[.string R] w1 fun e w' => ∃ v, e = .returned (.tuple #[v, .int .i64 (paramsR R.data.toList).2.1, .bool ((paramsR R.data.toList).2.2 == 0)]) ∧ OwnP 46 w.heap.size v (paramsR R.data.toList).1 w' ∧ Below w.heap.size w w') := fun w1 hb => (HP.out w1).mono (fun e w' ⟨v, h1, ho, h3⟩ => ⟨v, h1, ⟨ho.1, by
        rcases ho.2 with h | ⟨g, cap, cur, e, hg, r⟩
        · exact .inl h
        · exact .inr ⟨g, cap, cur, e, Nat.le_trans hb.size hg, r⟩⟩, bel_trans hb h3⟩)
      clear HP
      by_cases hk0 : k = 0
      · have HZ2 : Hid (sizeR s.data.toList = (0, [], 100)) := (by rw [HZ.out, if_pos (.inl (HTk.out.2 hk0))] : sizeR _ = _)
        have hk0' : ((k : Int) == 0) = true := by simp [hk0]
        clear HZ HNum HDr HTk hk0
        rcases hts with t1 | ⟨h1, t2, t3⟩
        · go_wp2_with fail
          rw [← HRE.out]
          refine (HPs.out _ hbl.out).mono ?_
          rintro e w2 ⟨v, rfl, ho, hb2⟩
          have HB2 : Hid (Below w.heap.size w w2) := hb2
          clear hb2 ho
          go_wp2
          go_ret3
          rw [HZ2.out]
          exact ⟨.slice none 0 0, rfl, ownP_nil _ _ _, HB2.out⟩
        · have T3 : Hid (∀ w, Calls Tryd.prog 16 #[.int .u8 (byt s k)] w fun e w' => e = .returned (.int .i64 (-1)) ∧ Below w.heap.size w w') := t3
          clear t3
          go_wp2_with fail
          refine (T3.out _).mono ?_
          rintro e w1 ⟨rfl, hb1⟩
          have HB1 : Hid (Below w.heap.size w w1) := bel_trans hbl.out hb1
          clear hb1
          go_wp2_with fail
          rw [← HRE.out]
          refine (HPs.out _ HB1.out).mono ?_
          rintro e w2 ⟨v, rfl, ho, hb2⟩
          have HB2 : Hid (Below w.heap.size w w2) := hb2
          clear hb2 ho
          go_wp2
          go_ret3
          rw [HZ2.out]
          exact ⟨.slice none 0 0, rfl, ownP_nil _ _ _, HB2.out⟩
      · have hk0' : ((k : Int) == 0) = false := by simp; omega
        have hnum := HNum.out hk0
        have hnot : ¬ (s.data.toList.takeWhile hexB = []) := fun e => hk0 (HTk.out.1 e)
        cases hp : prm R.data.toList with
        | none =>
          have hpr := paramsR_none hp
          have HZ2 : Hid (sizeR s.data.toList = (0, [], 100)) := (by rw [HZ.out, hpr, if_pos (.inr (.inl (by decide)))] : sizeR _ = _)
          rw [hpr] at HPs
          clear HZ HNum HDr HTk hp hpr hnot hnum
          rcases hts with t1 | ⟨h1, t2, t3⟩
          · go_wp2_with fail
            rw [← HRE.out]
            refine (HPs.out _ hbl.out).mono ?_
            rintro e w2 ⟨v, rfl, ho, hb2⟩
            have HB2 : Hid (Below w.heap.size w w2) := hb2
            clear hb2 ho
            go_wp2
            go_ret3
            rw [HZ2.out]
            exact ⟨.slice none 0 0, rfl, ownP_nil _ _ _, HB2.out⟩
          · have T3 : Hid (∀ w, Calls Tryd.prog 16 #[.int .u8 (byt s k)] w fun e w' => e = .returned (.int .i64 (-1)) ∧ Below w.heap.size w w') := t3
            clear t3
            go_wp2_with fail
            refine (T3.out _).mono ?_
            rintro e w1 ⟨rfl, hb1⟩
            have HB1 : Hid (Below w.heap.size w w1) := bel_trans hbl.out hb1
            clear hb1
            go_wp2_with fail
            rw [← HRE.out]
            refine (HPs.out _ HB1.out).mono ?_
            rintro e w2 ⟨v, rfl, ho, hb2⟩
            have HB2 : Hid (Below w.heap.size w w2) := hb2
            clear hb2 ho
            go_wp2
            go_ret3
            rw [HZ2.out]
            exact ⟨.slice none 0 0, rfl, ownP_nil _ _ _, HB2.out⟩
        | some x =>
          have hpr := paramsR_some hp
          have hxle := prm_bound hp
          rw [size_list] at hxle
          rw [hpr] at HPs HZ
          obtain ⟨ps, m⟩ := x
          simp only at hxle HPs HZ
          rw [show ((m : Nat) : Int).toNat = m by simp, HDr.out m, hnum] at HZ
          have HTr : Hid (∀ w, Calls Tryd.prog 18 #[.string (s.extract (k + m) s.size)] w fun e w' => e = .returned (.string (str (trim (s.extract (k + m) s.size).data.toList))) ∧ w' = w) := fun w => Fd.rTrim_any _ (by simp [maxLen]; omega) w
          generalize trim (s.extract (k + m) s.size).data.toList = Y at *
          have hkm : k + m ≤ s.size := by omega
          have HZ2 : Hid (sizeR s.data.toList = if Y ≠ [] then (0, [], 100) else if 1099511627776 < n then (0, [], 102) else (n, ps, 0)) := by
            show sizeR _ = _
            rw [HZ.out]
            by_cases hY : Y = []
            · rw [if_neg (by rintro (h | h | h); exact hnot h; exact h rfl; exact h hY), if_neg (show ¬ (Y ≠ []) from fun h => h hY)]
              by_cases hb : 1099511627776 < n
              · simp [hb]
              · simp [hb]
            · rw [if_pos (.inr (.inr hY)), if_pos hY]
          clear HZ HNum HDr HTk hp hpr hnot hnum
          have hY0 : ((str Y).toList.isEmpty = true ∧ Y = []) ∨ ((str Y).toList.isEmpty = false ∧ Y ≠ []) := by
            by_cases hY : Y = []
            · exact .inl ⟨empty_of (by rw [hY]; rfl), hY⟩
            · exact .inr ⟨nonempty_of (by rw [str_size]; exact fun h => hY (List.length_eq_zero_iff.1 h)), hY⟩
          rcases hts with t1 | ⟨h1, t2, t3⟩
          · go_wp2_with fail
            rw [← HRE.out]
            refine (HPs.out _ hbl.out).mono ?_
            rintro e w2 ⟨v, rfl, ho, hb2⟩
            have HB2 : Hid (Below w.heap.size w w2) := hb2
            have HO2 : Hid (OwnP 46 w.heap.size v ps w2) := ho
            clear hb2 ho
            go_wp2_with fail
            refine (HTr.out _).mono ?_
            rintro e w3 ⟨rfl, hw⟩
            rw [hw]
            clear hw
            rcases hY0 with ⟨hY0, hY⟩ | ⟨hY0, hY⟩
            · have HZ3 : Hid (sizeR s.data.toList = if 1099511627776 < n then (0, [], 102) else (n, ps, 0)) := (by rw [HZ2.out, if_neg (show ¬ (Y ≠ []) from fun h => h hY)] : sizeR _ = _)
              clear hY
              generalize str Y = Z at *
              by_cases hb : 1099511627776 < n
              · have HZ4 : Hid (sizeR s.data.toList = (0, [], 102)) := (by rw [HZ3.out, if_pos hb] : sizeR _ = _)
                go_wp2
                go_ret3
                rw [HZ4.out]
                exact ⟨.slice none 0 0, rfl, ownP_nil _ _ _, HB2.out⟩
              · have HZ4 : Hid (sizeR s.data.toList = (n, ps, 0)) := (by rw [HZ3.out, if_neg hb] : sizeR _ = _)
                go_wp2
                go_ret3
                rw [HZ4.out]
                exact ⟨v, rfl, HO2.out, HB2.out⟩
            · have HZ3 : Hid (sizeR s.data.toList = (0, [], 100)) := (by rw [HZ2.out, if_pos hY] : sizeR _ = _)
              clear hY
              generalize str Y = Z at *
              go_wp2
              go_ret3
              rw [HZ3.out]
              exact ⟨.slice none 0 0, rfl, ownP_nil _ _ _, HB2.out⟩
          · have T3 : Hid (∀ w, Calls Tryd.prog 16 #[.int .u8 (byt s k)] w fun e w' => e = .returned (.int .i64 (-1)) ∧ Below w.heap.size w w') := t3
            clear t3
            go_wp2_with fail
            refine (T3.out _).mono ?_
            rintro e w1 ⟨rfl, hb1⟩
            have HB1 : Hid (Below w.heap.size w w1) := bel_trans hbl.out hb1
            clear hb1
            go_wp2_with fail
            rw [← HRE.out]
            refine (HPs.out _ HB1.out).mono ?_
            rintro e w2 ⟨v, rfl, ho, hb2⟩
            have HB2 : Hid (Below w.heap.size w w2) := hb2
            have HO2 : Hid (OwnP 46 w.heap.size v ps w2) := ho
            clear hb2 ho
            go_wp2_with fail
            refine (HTr.out _).mono ?_
            rintro e w3 ⟨rfl, hw⟩
            rw [hw]
            clear hw
            rcases hY0 with ⟨hY0, hY⟩ | ⟨hY0, hY⟩
            · have HZ3 : Hid (sizeR s.data.toList = if 1099511627776 < n then (0, [], 102) else (n, ps, 0)) := (by rw [HZ2.out, if_neg (show ¬ (Y ≠ []) from fun h => h hY)] : sizeR _ = _)
              clear hY
              generalize str Y = Z at *
              by_cases hb : 1099511627776 < n
              · have HZ4 : Hid (sizeR s.data.toList = (0, [], 102)) := (by rw [HZ3.out, if_pos hb] : sizeR _ = _)
                go_wp2
                go_ret3
                rw [HZ4.out]
                exact ⟨.slice none 0 0, rfl, ownP_nil _ _ _, HB2.out⟩
              · have HZ4 : Hid (sizeR s.data.toList = (n, ps, 0)) := (by rw [HZ3.out, if_neg hb] : sizeR _ = _)
                go_wp2
                go_ret3
                rw [HZ4.out]
                exact ⟨v, rfl, HO2.out, HB2.out⟩
            · have HZ3 : Hid (sizeR s.data.toList = (0, [], 100)) := (by rw [HZ2.out, if_pos hY] : sizeR _ = _)
              clear hY
              generalize str Y = Z at *
              go_wp2
              go_ret3
              rw [HZ3.out]
              exact ⟨.slice none 0 0, rfl, ownP_nil _ _ _, HB2.out⟩

end Ck
end Go.Proofs.YtdbnlpnnfnodnaaDoor
