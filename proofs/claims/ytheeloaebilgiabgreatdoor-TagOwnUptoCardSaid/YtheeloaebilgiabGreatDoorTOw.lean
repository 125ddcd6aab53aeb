/-
  A tag that was made and printed, read as a list; one field decided by. Plain, and Decide of one field.
-/
import Derived.Test.YtheeloaebilgiabGreatDoorTMk
import Derived.Test.YtheeloaebilgiabGreatDoorTDg
set_option linter.unusedVariables false
set_option linter.unusedSimpArgs false
namespace Go.Proofs.YtheeloaebilgiabGreatDoor
open Go.RowKit Go.Shelf
namespace Tt
open Oc Tg

theorem hx_in : ∀ n : Nat, n < 16 → inT (Bs.hx n) = true := by decide
theorem hexL_in : ∀ l : List UInt8, (Bs.hexL l).all inT = true
  | [] => rfl
  | a :: r => by
    have h := hexL_in r
    have ha := a.toNat_lt
    unfold Bs.hexL
    rw [List.all_cons, List.all_cons, h, hx_in _ (by omega), hx_in _ (by omega)]
    rfl
theorem dig_in : ∀ n : Nat, n < 10 → inT (UInt8.ofNat (48 + n)) = true := by decide
theorem dec_in : ∀ u : Nat, (Lib.decDigits u).all inT = true := by
  intro u
  induction u using Nat.strongRecOn with
  | _ u ih =>
    by_cases h : u < 10
    · rw [Lib.decDigits_one h]
      show (inT _ && true) = true
      rw [dig_in u h]
      rfl
    · rw [Lib.decDigits, dif_neg h, List.all_append, ih (u / 10) (by omega)]
      show (true && (inT _ && true)) = true
      rw [dig_in _ (by omega)]
      rfl
theorem make_ok (l : List UInt8) (h : l.length ≤ 1048576) : okT (makeL l) = true := by
  unfold okT makeL
  have h1 : (Lib.itoa (l.length : Int)).length ≤ 21 := by
    by_cases hz : l.length = 0
    · rw [hz, show ((0 : Nat) : Int) = 0 from rfl, itoa_zero]; decide
    · rw [itoa_decD _ (by omega), if_neg (by omega)]
      have := decD_len (l.length : Int) (by omega) (by omega)
      simpa using this
  have h2 : (Lib.itoa (l.length : Int)).all inT = true := by
    unfold Lib.itoa
    rw [if_neg (by omega)]
    exact dec_in _
  rw [List.all_append, List.all_append, hexL_in, h2, Bool.and_eq_true, decide_eq_true_iff]
  refine ⟨by decide, ?_⟩
  rw [List.length_append, List.length_append, Bs.hexL_length]
  show 2 * 8 + 1 + _ ≤ 256
  omega
theorem trim_keep {c d : UInt8} {r r2 : List UInt8} {l : List UInt8} (h1 : l = c :: r) (h2 : l = r2 ++ [d]) (hc : blankB c = false) (hd : blankB d = false) : trim l = l := by
  unfold trim
  have e1 : trimL l = l := by rw [h1, trimL_cons, if_neg (by rw [hc]; simp)]
  rw [e1, h2, trimR_snoc, if_neg (by rw [hd]; simp)]
theorem list_one {l : List UInt8} {t : Tg1} {c : UInt8} {r : List UInt8} (h1 : l = c :: r) (hc : blankB c = false) (hm : c ≠ 44) (hf : frontR l = (t, l.length, true)) : tagsL l = ([t], l.length, true) := by
  have hp := (frontR_pos l (by rw [hf])).1
  rw [hf] at hp
  dsimp only at hp
  have hg : l.getD 0 0 = c := by rw [h1]; rfl
  unfold tagsL
  rw [tagsR, if_pos (by omega), hg, if_neg (by rw [hc]; simp), if_neg hm, if_neg (by simp), List.drop_zero, hf, if_pos rfl]
  dsimp only
  obtain ⟨n, hn⟩ : ∃ n, l.length = n + 1 := ⟨l.length - 1, by omega⟩
  rw [hn, tagsR, if_neg (by omega)]
  simp
theorem list_printed (t : Tg1) (h : okT t.2 = true) : listT (printT t).1 = ([t], false, 0, 0) := by
  obtain ⟨w, T⟩ := t
  unfold printT
  rw [if_pos h]
  dsimp only at h ⊢
  cases w with
  | true =>
    rw [show (if true = true then [87, 47] else ([] : List UInt8)) = [87, 47] from rfl]
    have ht : trim ([87, 47] ++ 34 :: (T ++ [34])) = [87, 47] ++ 34 :: (T ++ [34]) := trim_keep (c := 87) (r := 47 :: 34 :: (T ++ [34])) (r2 := 87 :: 47 :: 34 :: T) (d := 34) rfl (by simp) (by decide) (by decide)
    have hf : frontR ([87, 47] ++ 34 :: (T ++ [34])) = ((true, T), ([87, 47] ++ 34 :: (T ++ [34])).length, true) := by
      rw [show frontR ([87, 47] ++ 34 :: (T ++ [34])) = restR true 3 (T ++ [34]) by simp [frontR], rest_text true 3 T h]
      simp
      omega
    have hl : tagsL ([87, 47] ++ 34 :: (T ++ [34])) = _ := list_one (c := 87) (r := 47 :: 34 :: (T ++ [34])) rfl (by decide) (by decide) hf
    unfold listT
    rw [ht, hl, if_neg (by simp)]
    rfl
  | false =>
    rw [show (if false = true then [87, 47] else ([] : List UInt8)) = [] from rfl]
    have ht : trim ([] ++ 34 :: (T ++ [34])) = [] ++ 34 :: (T ++ [34]) := trim_keep (c := 34) (r := T ++ [34]) (r2 := 34 :: T) (d := 34) rfl (by simp) (by decide) (by decide)
    have hf : frontR ([] ++ 34 :: (T ++ [34])) = ((false, T), ([] ++ 34 :: (T ++ [34])).length, true) := by
      rw [show frontR ([] ++ 34 :: (T ++ [34])) = restR false 1 (T ++ [34]) by simp [frontR], rest_text false 1 T h]
      simp
      omega
    have hl : tagsL ([] ++ 34 :: (T ++ [34])) = _ := list_one (c := 34) (r := T ++ [34]) rfl (by decide) (by decide) hf
    unfold listT
    rw [ht, hl, if_neg (by simp)]
    rfl
theorem al_mm (v : List UInt8) : Fd.alike sMatch (sMatch, v) = true := by show decide (lower sMatch = lower sMatch) = _; decide
theorem al_nn (v : List UInt8) : Fd.alike sNone (sNone, v) = true := by show decide (lower sNone = lower sNone) = _; decide
theorem al_mn (v : List UInt8) : Fd.alike sMatch (sNone, v) = false := by show decide (lower sNone = lower sMatch) = _; decide
theorem al_nm (v : List UInt8) : Fd.alike sNone (sMatch, v) = false := by show decide (lower sMatch = lower sNone) = _; decide
theorem match_no (v : List UInt8) (s : St) : matchV [(sNone, v)] s = 0 := by
  unfold matchV hasF Fd.findF
  rw [List.find?_cons, al_mn]
  simp
theorem none_no (m v : List UInt8) (s : St) : noneV m [(sMatch, v)] s = 0 := by
  unfold noneV meetsF Fd.vals meetsV
  rw [List.filter_cons, al_nm]
  have h : listT (joinF (List.map Prod.snd (List.filter (Fd.alike sNone) []))) = ([], false, 0, 81) := by rfl
  simp only [Bool.false_eq_true, if_false, h]
  simp
theorem match_one (v : List UInt8) (s : St) : matchV [(sMatch, v)] s = if meetsV lkS v s = true then 0 else 412 := by
  unfold matchV hasF Fd.findF meetsF Fd.vals
  rw [List.find?_cons, al_mm, List.filter_cons, al_mm]
  have h : joinF (List.map Prod.snd [((sMatch : List UInt8), v)]) = v := rfl
  simp only [if_true, List.filter_nil, h]
  cases meetsV lkS v s <;> simp
theorem none_one (m v : List UInt8) (s : St) : noneV m [(sNone, v)] s = if meetsV lkA v s = true then (if readsM m = true then 304 else 412) else 0 := by
  unfold noneV meetsF Fd.vals
  rw [List.filter_cons, al_nn]
  have h : joinF (List.map Prod.snd [((sNone : List UInt8), v)]) = v := rfl
  simp only [if_true, List.filter_nil, h]

theorem decide_one (m : ByteArray) (nm v : List UInt8) (hsz : nm.length + v.length ≤ 1000000) (s : St) (hno : s.td = false) (W : World) (hml : Fd.ML W) :
    Calls Tryz.prog 13 #[.string m, .slice (some ⟨W.heap.size, 0, none⟩) 1 1, .agg #[.bool s.th, .bool s.own.1, .string (str s.own.2), .bool s.tg, .int .i64 s.tm, .bool s.td], .int .i64 0] (W.alloc (.cells #[.string (str nm), .string (str v)] 48)) fun e w' => e = .returned (.int .i64 (decideG (matchV [(nm, v)] s) 0 (noneV m.data.toList [(nm, v)] s) 0)) ∧ Below W.heap.size W w' := by
  have hb : Below W.heap.size W (W.alloc (.cells #[.string (str nm), .string (str v)] 48)) := (Below.refl _ W).alloc (Nat.le_refl _) _
  have h := Decide_un m.data.toList (.slice (some ⟨W.heap.size, 0, none⟩) 1 1) [(nm, v)] s 0 _ (Fd.rd_oneF W 48 (nm, v)) (by simp [Fd.sumF, Fd.szF]; omega) (hml.below hb) hno
  rw [str_self] at h
  refine h.mono ?_
  rintro e w' ⟨rfl, hb2⟩
  exact ⟨rfl, bel_trans hb hb2⟩

end Tt
end Go.Proofs.YtheeloaebilgiabGreatDoor
