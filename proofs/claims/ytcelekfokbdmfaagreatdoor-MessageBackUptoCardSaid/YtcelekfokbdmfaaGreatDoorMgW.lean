import Derived.Test.YtcelekfokbdmfaaGreatDoorMgP
import Derived.Test.YtcelekfokbdmfaaGreatDoorMgT
import Derived.Test.YtcelekfokbdmfaaGreatDoorMsZ
import Derived.Test.YtcelekfokbdmfaaGreatDoorMgC
set_option linter.unusedVariables false
set_option linter.unusedSimpArgs false
namespace Go.Proofs.YtcelekfokbdmfaaGreatDoor
open Go.RowKit
namespace Oc
theorem val_digit (d : Nat) (h : d < 10) : valI ((UInt8.ofNat (48 + d)).toNat : Int) = (d : Int) := by
  have e : (UInt8.ofNat (48 + d)).toNat = 48 + d := by rw [UInt8.toNat_ofNat']; omega
  rw [e, valI_d (by omega)]
  omega
theorem num_dec : ∀ u : Nat, numOf 10 (Lib.decDigits u) = (u : Int) := by
  intro u
  induction u using Nat.strongRecOn with
  | _ u ih =>
    by_cases h : u < 10
    · rw [Lib.decDigits_one h]
      show (0 : Int) * 10 + valI _ = _
      rw [val_digit u h]
      omega
    · rw [Lib.decDigits, dif_neg h, numOf_snoc, ih (u / 10) (by omega), val_digit _ (by omega)]
      omega
theorem dec_digits : ∀ u : Nat, ∀ c ∈ Lib.decDigits u, valI (c.toNat : Int) < 10 := by
  intro u
  induction u using Nat.strongRecOn with
  | _ u ih =>
    by_cases h : u < 10
    · rw [Lib.decDigits_one h]
      intro c hc
      have hc := List.mem_singleton.1 hc
      subst hc
      rw [val_digit u h]
      omega
    · rw [Lib.decDigits, dif_neg h]
      intro c hc
      rcases List.mem_append.1 hc with hc | hc
      · exact ih (u / 10) (by omega) c hc
      · have hc := List.mem_singleton.1 hc
        subst hc
        rw [val_digit (u % 10) (by omega)]
        omega
theorem dec_ne (u : Nat) : Lib.decDigits u ≠ [] := by
  rw [Lib.decDigits]
  split <;> simp
theorem num_zeros (l : List UInt8) : ∀ k : Nat, numOf 10 (List.replicate k 48 ++ l) = numOf 10 l
  | 0 => by simp
  | k + 1 => by
    have := num_zeros l k
    rw [List.replicate_succ, List.cons_append]
    unfold numOf at *
    rw [List.foldl_cons]
    have e : (0 : Int) * 10 + valI ((48 : UInt8).toNat : Int) = 0 := by decide
    rw [e]
    exact this
theorem numR_zeros (u k : Nat) (most : Int) : numR 10 (List.replicate k 48 ++ Lib.decDigits u) most = if most < (u : Int) then (0, 12) else ((u : Int), 0) := by
  unfold numR
  rw [if_neg, num_zeros, num_dec]
  simp only [Bool.or_eq_true, List.any_eq_true, not_or]
  constructor
  · cases e : Lib.decDigits u with
    | nil => exact absurd e (dec_ne u)
    | cons a l => cases k <;> simp [List.replicate_succ]
  · rintro ⟨c, hc, h⟩
    have h := of_decide_eq_true h
    rcases List.mem_append.1 hc with hc | hc
    · have := List.eq_of_mem_replicate hc
      subst this
      have e : valI ((48 : UInt8).toNat : Int) = 0 := by decide
      rw [e] at h
      omega
    · have := dec_digits u c hc
      omega
structure Both (w : World) : Prop where
  tab : Tab w
  pow : Pow w
end Oc
end Go.Proofs.YtcelekfokbdmfaaGreatDoor
set_option linter.unusedVariables false
set_option linter.unusedSimpArgs false
set_option maxRecDepth 100000
namespace Go.Proofs.YtcelekfokbdmfaaGreatDoor
open Go.RowKit Go.Shelf
namespace Ms
open Oc Tg _root_.Go.Proofs.YtcelekfokbdmfaaGreatDoor.Fd _root_.Go.Proofs.YtcelekfokbdmfaaGreatDoor.Ck
theorem itoa_nat (n : Nat) : Lib.itoa (n : Int) = Lib.decDigits n := by
  unfold Lib.itoa
  rw [if_neg (by omega), Int.toNat_natCast]
theorem itoa_inj {a b : Nat} (h : Lib.itoa (a : Int) = Lib.itoa (b : Int)) : a = b := by
  rw [itoa_nat, itoa_nat] at h
  have h1 := num_dec a
  rw [h, num_dec] at h1
  omega
def digs (m : Nat) : List UInt8 := if m = 0 then [48] else decD m
theorem digs_itoa (n : Nat) : digs n = Lib.itoa (n : Int) := by
  unfold digs
  by_cases h : n = 0
  · subst h; rw [if_pos rfl]; exact itoa_zero.symm
  · rw [if_neg h, itoa_decD _ (by omega), if_neg (by omega)]
    simp
theorem digs_last (m : Nat) (h : m / 10 = 0) : digs m = [UInt8.ofNat (48 + m % 10)] := by
  unfold digs
  by_cases hm : m = 0
  · subst hm; rfl
  · rw [if_neg hm, decD_step m hm, h]; rfl
theorem digs_step (m : Nat) (h : m / 10 ≠ 0) : digs m = digs (m / 10) ++ [UInt8.ofNat (48 + m % 10)] := by
  unfold digs
  rw [if_neg (by omega), if_neg h, decD_step m (by omega)]
def dgR (n : Int) : List UInt8 := if n < 0 then [45] else Lib.itoa n
set_option maxHeartbeats 1000000 in
theorem rDigits12_any (n : Int) (hn : i64 n) (w : World) :
    Calls Tryz.prog 42 #[.int .i64 n] w fun e w' => e = .returned (.string (str (dgR n))) ∧ Below w.heap.size w w' := by
  by_cases h0 : n < 0
  · have HQ : Hid (dgR n = [45]) := (by unfold dgR; rw [if_pos h0] : _ = _)
    go_enter Tryz.func42, Tryz.ntmps42
    go_wp2
    go_ret
    exact ⟨by rw [HQ.out]; rfl, Below.refl _ _⟩
  obtain ⟨k, hk⟩ : ∃ k : Nat, n = (k : Int) := ⟨n.toNat, by omega⟩
  subst hk
  have hkb : k ≤ 9223372036854775807 := by have := hn.2; omega
  have HQ : Hid (dgR (k : Int) = Lib.itoa (k : Int)) := (by unfold dgR; rw [if_neg h0] : _ = _)
  have HT : Hid (digs k = Lib.itoa (k : Int)) := digs_itoa k
  have HLn : Hid ((Lib.itoa (k : Int)).length ≤ 21) := Lib.itoa_length_le _ (by omega) (by omega)
  generalize dgR (k : Int) = R at *
  generalize Lib.itoa (k : Int) = T at *
  go_enter Tryz.func42, Tryz.ntmps42
  go_wp2
  go_loopw [0, 3] (fun mv ov wr => ∃ (m : Nat) (o : ByteArray), mv = .int .i64 (m : Nat) ∧ ov = .string o ∧ m ≤ 9223372036854775807 ∧ o.size ≤ 21 ∧ Hid (digs m ++ o.data.toList = T) ∧ Hid (Below w.heap.size w wr)) (fun mv _ _ => (intOf mv).toNat)
  case atStart => exact ⟨k, ⟨#[]⟩, rfl, rfl, hkb, by decide, (by rw [HT.out]; simp : digs k ++ (⟨#[]⟩ : ByteArray).data.toList = T), Below.refl _ _⟩
  case round =>
    obtain ⟨m, o, rfl, rfl, hm, hos, hst, hb⟩ := hrel
    have hob := one_byte wr (48 + (m : Int) % 10) (by omega) (by omega)
    have hsz : (str [UInt8.ofNat (48 + (m : Int) % 10).toNat]).size + o.size ≤ 9223372036854775807 := by rw [str_size]; simp; omega
    have hc : (48 + (m : Int) % 10).toNat = 48 + m % 10 := by omega
    by_cases hq : m / 10 = 0
    · have HE : Hid (str T = str [UInt8.ofNat (48 + (m : Int) % 10).toNat] ++ o) := by
        show _ = _
        rw [cat_str, hc, ← hst.out, digs_last m hq]
      have hq2 : ((m : Int) / 10 == 0) = true := by rw [beq_iff_eq]; omega
      clear hc
      generalize str [UInt8.ofNat (48 + (m : Int) % 10).toNat] = C at *
      go_wp2
      go_ret
      rw [HQ.out]
      exact ⟨ret_string HE.out.symm, hb.out.alloc hb.out.size _⟩
    · have HE : Hid (digs (m / 10) ++ (str [UInt8.ofNat (48 + (m : Int) % 10).toNat] ++ o).data.toList = T) := by
        show _ = _
        rw [cat_str, str_list, hc, ← hst.out, digs_step m hq, List.append_assoc]
      have hq2 : ((m : Int) / 10 == 0) = false := by rw [beq_eq_false_iff_ne]; omega
      have HS : Hid ((str [UInt8.ofNat (48 + (m : Int) % 10).toNat] ++ o).size ≤ 21) := by
        show _ ≤ _
        have h1 := HLn.out
        rw [← HE.out, List.length_append, size_list] at h1
        omega
      clear hc
      generalize str [UInt8.ofNat (48 + (m : Int) % 10).toNat] = C at *
      go_wp2
      go_roundw
      case rel => exact ⟨m / 10, C ++ o, by go_num, rfl, by omega, HS.out, HE, hb.out.alloc hb.out.size _⟩
      case measure => simp [intOf]; omega
set_option maxHeartbeats 1000000 in
theorem rEmpty_any (n : Int) (w : World) : Calls Tryz.prog 69 #[.int .i64 n] w fun e w' => e = .returned (.bool (nvr n)) ∧ w' = w := by
  obtain ⟨R, hR⟩ : ∃ R, R = nvr n := ⟨_, rfl⟩
  rw [← hR]
  have HR : Hid (R = (decide (100 ≤ n ∧ n ≤ 199) || (n == 204 || n == 304))) := hR
  clear hR
  by_cases h1 : 100 ≤ n
  · by_cases h2 : n ≤ 199
    · have HQ : Hid (R = true) := (by rw [HR.out]; simp [h1, h2] : _ = _)
      go_enter Tryz.func69, Tryz.ntmps69
      go_wp2
      go_ret
      exact ⟨by rw [HQ.out]; rfl, rfl⟩
    · by_cases h3 : n = 204
      · subst h3
        have HQ : Hid (R = true) := (by rw [HR.out]; rfl : _ = _)
        go_enter Tryz.func69, Tryz.ntmps69
        go_wp2
        go_ret
        exact ⟨by rw [HQ.out]; rfl, rfl⟩
      · have h3' : (n == 204) = false := by simp [h3]
        have HQ : Hid (R = (n == 304)) := (by rw [HR.out, h3']; simp [h2] : _ = _)
        go_enter Tryz.func69, Tryz.ntmps69
        go_wp2
        go_ret
        exact ⟨by rw [HQ.out]; rfl, rfl⟩
  · have h3' : (n == 204) = false := by rw [beq_eq_false_iff_ne]; omega
    have HQ : Hid (R = (n == 304)) := (by rw [HR.out, h3']; simp [h1] : _ = _)
    go_enter Tryz.func69, Tryz.ntmps69
    go_wp2
    go_ret
    exact ⟨by rw [HQ.out]; rfl, rfl⟩
set_option maxHeartbeats 2000000 in
theorem rBodyless_any (m : ByteArray) (n : Int) (w : World) : Calls Tryz.prog 45 #[.string m, .int .i64 n] w fun e w' => e = .returned (.bool (bdl m.data.toList n)) ∧ w' = w := by
  have HI : Hid (∀ W, Calls _ _ _ W _) := fun W => rEmpty_any n W
  have HQ : Hid (bdl m.data.toList n = (nvr n || (decide (m.data.toList = [72, 69, 65, 68]) || (decide (m.data.toList = [67, 79, 78, 78, 69, 67, 84]) && decide (200 ≤ n ∧ n ≤ 299))))) := rfl
  generalize bdl m.data.toList n = R at *
  generalize nvr n = b at *
  go_enter Tryz.func45, Tryz.ntmps45
  go_wp2_with fail
  refine (HI.out _).mono ?_
  rintro e w' ⟨rfl, hw⟩
  rw [hw]
  clear hw
  cases b with
  | true =>
    go_wp2
    go_ret
    exact ⟨by rw [HQ.out]; rfl, rfl⟩
  | false =>
    by_cases hm : m.data.toList = [72, 69, 65, 68]
    · have hm' : (m.toList == [72, 69, 65, 68]) = true := by rw [ByteArray.toList_eq, hm]; rfl
      rw [decide_eq_true hm] at HQ
      clear hm
      go_wp2
      go_ret
      exact ⟨by rw [HQ.out]; rfl, rfl⟩
    · have hm' : (m.toList == [72, 69, 65, 68]) = false := by rw [ByteArray.toList_eq]; simpa using hm
      rw [decide_eq_false hm] at HQ
      clear hm
      by_cases hc : m.data.toList = [67, 79, 78, 78, 69, 67, 84]
      · have hc' : (m.toList == [67, 79, 78, 78, 69, 67, 84]) = true := by rw [ByteArray.toList_eq, hc]; rfl
        rw [decide_eq_true hc] at HQ
        clear hc
        by_cases h1 : 200 ≤ n
        · have HQ2 : Hid (R = decide (n ≤ 299)) := (by rw [HQ.out]; simp [h1] : _ = _)
          go_wp2
          go_ret
          exact ⟨by rw [HQ2.out]; rfl, rfl⟩
        · have HQ2 : Hid (R = false) := (by rw [HQ.out]; simp [h1] : _ = _)
          go_wp2
          go_ret
          exact ⟨by rw [HQ2.out]; rfl, rfl⟩
      · have hc' : (m.toList == [67, 79, 78, 78, 69, 67, 84]) = false := by rw [ByteArray.toList_eq]; simpa using hc
        rw [decide_eq_false hc] at HQ
        clear hc
        go_wp2
        go_ret
        exact ⟨by rw [HQ.out]; rfl, rfl⟩
def ent (c : Int) : List UInt8 := [UInt8.ofNat (48 + c.toNat / 100), UInt8.ofNat (48 + c.toNat / 10 % 10), UInt8.ofNat (48 + c.toNat % 10)] ++ ([32] ++ rsL c)
def flat (l : List Int) : List UInt8 := l.flatMap fun c => ent c ++ [124]
def rTab : List UInt8 := flat codes
theorem flat_app (a b : List Int) : flat (a ++ b) = flat a ++ flat b := by unfold flat; rw [List.flatMap_append]
theorem ent_bar : ∀ c ∈ codes, ∀ x ∈ ent c, x ≠ 124 := by decide +kernel
theorem code_bd : ∀ c ∈ codes, 100 ≤ c ∧ c ≤ 599 := by decide
theorem tab_len : rTab.length = 787 := by decide +kernel
theorem itoa_3 {c : Int} (h1 : 100 ≤ c) (h2 : c ≤ 999) : Lib.itoa c = [UInt8.ofNat (48 + c.toNat / 100), UInt8.ofNat (48 + c.toNat / 10 % 10), UInt8.ofNat (48 + c.toNat % 10)] := by
  rw [itoa_decD c (by omega), if_neg (by omega), show c.natAbs = c.toNat by omega, decD_step _ (by omega), decD_step _ (by omega), decD_step _ (by omega), show c.toNat / 10 / 10 / 10 = 0 by omega]
  show [] ++ (([] ++ [_]) ++ [_] ++ [_]) = _
  rw [show c.toNat / 10 / 10 % 10 = c.toNat / 100 by omega]
  rfl
theorem code_is {n c : Int} (hc : c ∈ codes) : (ent c).take 3 = dgR n ↔ n = c := by
  obtain ⟨h1, h2⟩ := code_bd c hc
  have e : (ent c).take 3 = Lib.itoa c := (itoa_3 h1 (by omega)).symm
  rw [e]
  unfold dgR
  constructor
  · intro h
    split at h
    · have := congrArg List.length h
      rw [itoa_3 h1 (by omega)] at this
      simp at this
    · obtain ⟨a, ha⟩ : ∃ a : Nat, c = (a : Int) := ⟨c.toNat, by omega⟩
      obtain ⟨b, hb⟩ : ∃ b : Nat, n = (b : Int) := ⟨n.toNat, by omega⟩
      subst ha hb
      rw [itoa_inj h]
  · rintro rfl
    rw [if_neg (by omega)]
end Ms
end Go.Proofs.YtcelekfokbdmfaaGreatDoor
set_option linter.unusedVariables false
set_option linter.unusedSimpArgs false
set_option maxRecDepth 100000
namespace Go.Proofs.YtcelekfokbdmfaaGreatDoor
open Go.RowKit Go.Shelf
namespace Ms
open Oc Tg _root_.Go.Proofs.YtcelekfokbdmfaaGreatDoor.Fd _root_.Go.Proofs.YtcelekfokbdmfaaGreatDoor.Ck
theorem fld_all {s : ByteArray} (h : ∀ j, j < s.size → fieldI (byt s j) = true) : isFld s.data.toList = true := by
  unfold isFld
  rw [List.all_eq_true]
  intro x hx
  obtain ⟨j, hj, rfl⟩ := List.mem_iff_getElem.1 hx
  have h1 := h j (by rw [← size_list]; exact hj)
  unfold byt at h1
  rw [List.getD_eq_getElem?_getD, List.getElem?_eq_getElem hj] at h1
  exact h1
theorem fld_not {s : ByteArray} {j : Nat} (hj : j < s.size) (h : fieldI (byt s j) = false) : isFld s.data.toList = false := by
  unfold isFld
  rw [List.all_eq_false]
  have hl : j < s.data.toList.length := by rw [size_list]; exact hj
  refine ⟨_, List.getElem_mem hl, ?_⟩
  unfold byt at h
  rw [List.getD_eq_getElem?_getD, List.getElem?_eq_getElem hl] at h
  have : fieldB s.data.toList[j] = false := h
  rw [this]
  simp
set_option maxHeartbeats 1000000 in
theorem rIsReason_any (s : ByteArray) (hs : s.size ≤ 4000000000) (w : World) :
    Calls Tryz.prog 37 #[.string s] w fun e w' => e = .returned (.bool (isRs s.data.toList)) ∧ w' = w := by
  have HQ : Hid (isRs s.data.toList = (decide (s.size ≤ 256) && isFld s.data.toList)) := (by unfold isRs; rw [size_list] : _ = _)
  generalize hR : isRs s.data.toList = R at *
  clear hR
  go_enter Tryz.func37, Tryz.ntmps37
  go_wp2
  go_loopw [3] (fun i wr => ∃ k : Nat, k ≤ s.size ∧ i = .int .i64 (k : Int) ∧ Hid (∀ j, j < k → fieldI (byt s j) = true) ∧ Hid (wr = w)) (fun i _ => s.size - (intOf i).toNat)
  case atStart => exact ⟨0, Nat.zero_le _, rfl, (fun j hj => by omega : ∀ j, j < 0 → _), rfl⟩
  case round =>
    obtain ⟨k, hk, rfl, hall, hw⟩ := hrel
    obtain rfl : wr = w := hw.out
    by_cases hlt : k < s.size
    · have hby : (((s[k]'hlt).toNat : Nat) : Int) = byt s k := byt_at s k hlt
      have hlt' : (k : Int) < (s.size : Int) := by omega
      have hbb : 0 ≤ byt s k ∧ byt s k ≤ 255 := by
        rw [← hby]
        have := (s[k]'hlt).toNat_lt
        omega
      have HI : Hid (Calls _ _ _ _ _) := rInside_any (byt s k) hbb.1 hbb.2 wr
      have HT : fieldI (byt s k) = true → Hid (∀ j, j < k + 1 → fieldI (byt s j) = true) := fun h j hj => by
        by_cases hjk : j = k
        · subst hjk; exact h
        · exact hall.out j (by omega)
      have HF : fieldI (byt s k) = false → Hid (isFld s.data.toList = false) := fun h => fld_not hlt h
      generalize fieldI (byt s k) = b at *
      generalize byt s k = x at *
      clear hw
      go_wp2_with fail
      refine HI.out.mono ?_
      rintro e w2 ⟨rfl, hw2⟩
      rw [hw2]
      clear hw2
      cases b with
      | true =>
        have HT2 := HT rfl
        clear HT HF
        go_wp2
        go_roundw
        case rel => exact ⟨k + 1, by omega, by go_num, HT2, trivial⟩
        case measure => simp [intOf]; omega
      | false =>
        have HF2 := HF rfl
        clear HT HF
        go_wp2
        go_ret
        exact ⟨by rw [HQ.out, HF2.out, Bool.and_false]; rfl, rfl⟩
    · have HF2 : Hid (isFld s.data.toList = true) := fld_all (fun j hj => hall.out j (by omega))
      have HE : Hid (decide (s.size ≤ 256) = decide ((s.size : Int) ≤ 256)) := (by rw [decide_eq_decide]; omega : _ = _)
      clear hw
      go_wp2
      go_ret
      exact ⟨by rw [HQ.out, HF2.out, Bool.and_true, HE.out]; rfl, rfl⟩
theorem Alike_l (a b : List UInt8) (ha : a.length ≤ maxLen) (hb : b.length ≤ maxLen) (w : World) :
    Calls Tryz.prog 68 #[.string (str a), .string (str b)] w fun e w' => e = .returned (.bool (decide (lower a = lower b))) ∧ Below w.heap.size w w' := by
  have h := rAlike_any (str a) (str b) (by rw [str_size]; exact ha) (by rw [str_size]; exact hb) w
  rw [low_alike a b] at h
  exact h
end Ms
end Go.Proofs.YtcelekfokbdmfaaGreatDoor
