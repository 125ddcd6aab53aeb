import Derived.Test.YtcelekfokbdmfaaGreatDoorMgE1
import Derived.Test.YtcelekfokbdmfaaGreatDoorMgH1
import Derived.Test.YtcelekfokbdmfaaGreatDoorMgV
import Derived.Test.YtcelekfokbdmfaaGreatDoorMgD1
import Derived.BigQuiet
import Derived.Deep.RegionHeld3
set_option linter.unusedVariables false
set_option linter.unusedSimpArgs false
set_option maxRecDepth 100000
namespace Go.Proofs.YtcelekfokbdmfaaGreatDoor
open Go.RowKit Go.Shelf
namespace Ms
open Oc Tg _root_.Go.Proofs.YtcelekfokbdmfaaGreatDoor.Fd _root_.Go.Proofs.YtcelekfokbdmfaaGreatDoor.Ck
def withM (m : Mn) (x : List UInt8) : Mn := { m with me := x }
def sHEAD : List UInt8 := [72, 69, 65, 68]
def sGET : List UInt8 := [71, 69, 84]
theorem headR_me (r : Rs) (m : Mn) (x : List UInt8) : headR r (withM m x) = headR r m := rfl
def bodR (r : Rs) (m : Mn) : List UInt8 := if m.ch = true then (encR r.bd m.sz m.tr).1 else r.bd
theorem prn_yes (r : Rs) (m : Mn) (h : (prnR r m).2 = 0) (x : List UInt8) : (headR r m).2 = 0 ∧ (headR r m).1.length ≤ 65536 ∧ prnR r (withM m x) = if bdl x r.st = true then ((headR r m).1, 0) else ((headR r m).1 ++ bodR r m, 0) := by
  unfold prnR at h ⊢
  unfold prnN at h ⊢
  unfold bodR
  rw [headR_me]
  have e1 : (withM m x).ch = m.ch := rfl
  have e2 : (withM m x).sz = m.sz := rfl
  have e3 : (withM m x).tr = m.tr := rfl
  have e4 : (withM m x).me = x := rfl
  rw [e1, e2, e3, e4]
  generalize headR r m = H at *
  generalize encR r.bd m.sz m.tr = E at *
  cases hc : m.ch with
  | false =>
    rw [hc] at h
    simp only [if_true] at h ⊢
    by_cases h1 : H.2 = 0
    · rw [if_neg (by simp [h1])] at h ⊢
      by_cases h2 : 65536 < H.1.length
      · rw [if_pos h2] at h
        simp at h
      · rw [if_neg h2]
        exact ⟨h1, by omega, rfl⟩
    · rw [if_pos h1] at h
      exact absurd h h1
  | true =>
    rw [hc] at h
    rw [if_neg (by simp)] at h ⊢
    by_cases h1 : H.2 = 0
    · rw [if_neg (by simp [h1])] at h ⊢
      by_cases h2 : 65536 < H.1.length
      · rw [if_pos h2] at h
        simp at h
      · rw [if_neg h2] at h ⊢
        by_cases h3 : E.2 = 0
        · rw [if_neg (by simp [h3])]
          exact ⟨h1, by omega, rfl⟩
        · rw [if_pos h3] at h
          exact absurd h h3
    · rw [if_pos h1] at h
      exact absurd h h1
def Ends (l : List UInt8) : Prop := l = [] ∨ ∃ y, l = y ++ [13, 10]
end Ms
end Go.Proofs.YtcelekfokbdmfaaGreatDoor
set_option linter.unusedVariables false
set_option linter.unusedSimpArgs false
set_option maxRecDepth 100000
namespace Go.Proofs.YtcelekfokbdmfaaGreatDoor
open Go.RowKit Go.Shelf
namespace Ms
open Oc Tg _root_.Go.Proofs.YtcelekfokbdmfaaGreatDoor.Fd _root_.Go.Proofs.YtcelekfokbdmfaaGreatDoor.Ck
def rsnR (r : Rs) : List UInt8 := if r.rs = [] then rsL r.st else r.rs
def stL (r : Rs) : List UInt8 := [72, 84, 84, 80, 47, 49, 46, 49, 32] ++ Lib.itoa r.st ++ [32] ++ rsnR r
theorem hdP_st (r : Rs) (L rest : List UInt8) : hdP r L ++ rest = stL r ++ 13 :: 10 :: (L ++ ([] ++ 13 :: 10 :: rest)) := by
  unfold hdP stL rsnR
  simp
theorem rsL_right : ∀ k ∈ codes, isRs (rsL k) = true := by decide +kernel
theorem rsn_right (r : Rs) (h : isRs r.rs = true) : isRs (rsnR r) = true := by
  unfold rsnR
  split
  · by_cases hk : ∃ k ∈ codes, r.st = k
    · obtain ⟨k, hk, e⟩ := hk
      rw [e]
      exact rsL_right k hk
    · have : rsL r.st = [] := rsL_none (fun k hm e => hk ⟨k, hm, e⟩)
      rw [this]
      rfl
  · exact h
theorem dig_three {n : Int} (h1 : 100 ≤ n) (h2 : n ≤ 599) : ∃ a b c : Nat, 1 ≤ a ∧ a ≤ 5 ∧ b ≤ 9 ∧ c ≤ 9 ∧ Lib.itoa n = [UInt8.ofNat (48 + a), UInt8.ofNat (48 + b), UInt8.ofNat (48 + c)] := by
  refine ⟨n.toNat / 100, n.toNat / 10 % 10, n.toNat % 10, by omega, by omega, by omega, by omega, itoa_3 h1 (by omega)⟩
theorem byte_of {a : Nat} (h : a ≤ 9) : ((UInt8.ofNat (48 + a)).toNat : Int) = 48 + (a : Int) := by
  have : (UInt8.ofNat (48 + a)).toNat = 48 + a := by
    rw [UInt8.toNat_ofNat']
    omega
  omega
theorem stL_gon (r : Rs) (h1 : 100 ≤ r.st) (h2 : r.st ≤ 599) (hr : isRs (rsnR r) = true) : ∀ j c, (stL r ++ [13])[j]? = some c → gonI (0 + j) (c.toNat : Int) = true := by
  obtain ⟨a, b, d, ha1, ha2, hb, hd, e⟩ := dig_three h1 h2
  unfold isRs at hr
  rw [Bool.and_eq_true] at hr
  have hrl : (rsnR r).length ≤ 256 := of_decide_eq_true hr.1
  have hrf := hr.2
  unfold isFld at hrf
  rw [List.all_eq_true] at hrf
  have ea := byte_of (show a ≤ 9 by omega)
  have eb := byte_of hb
  have ed := byte_of hd
  intro j c hc
  rw [Nat.zero_add]
  unfold stL at hc
  rw [e] at hc
  generalize UInt8.ofNat (48 + a) = A at *
  generalize UInt8.ofNat (48 + b) = B at *
  generalize UInt8.ofNat (48 + d) = D at *
  generalize rsnR r = R at *
  have hc2 : ([72, 84, 84, 80, 47, 49, 46, 49, 32, A, B, D, 32] ++ (R ++ [13]))[j]? = some c := by
    have e2 : [72, 84, 84, 80, 47, 49, 46, 49, 32] ++ [A, B, D] ++ [32] ++ R ++ [13] = [72, 84, 84, 80, 47, 49, 46, 49, 32, A, B, D, 32] ++ (R ++ [13]) := by simp
    rw [e2] at hc
    exact hc
  clear hc
  by_cases hj : j < 13
  · have hlen : j < ([72, 84, 84, 80, 47, 49, 46, 49, 32, A, B, D, 32] : List UInt8).length := hj
    rw [List.getElem?_append_left hlen] at hc2
    have hcases : j = 0 ∨ j = 1 ∨ j = 2 ∨ j = 3 ∨ j = 4 ∨ j = 5 ∨ j = 6 ∨ j = 7 ∨ j = 8 ∨ j = 9 ∨ j = 10 ∨ j = 11 ∨ j = 12 := by omega
    rcases hcases with rfl | rfl | rfl | rfl | rfl | rfl | rfl | rfl | rfl | rfl | rfl | rfl | rfl
    all_goals
      simp at hc2
      subst hc2
    all_goals first
      | decide
      | (unfold gonI; simp; omega)
  · rw [List.getElem?_append_right (by simp; omega)] at hc2
    unfold gonI
    rw [if_pos (by omega)]
    simp only [List.length_cons, List.length_nil] at hc2
    by_cases hk : j - 13 < R.length
    · rw [List.getElem?_append_left hk] at hc2
      have hm : c ∈ R := List.mem_of_getElem? hc2
      have hf := hrf c hm
      have hf2 : fieldI (c.toNat : Int) = true := hf
      rw [hf2, decide_eq_true (show j < 269 by omega)]
      simp
    · rw [List.getElem?_append_right (by omega)] at hc2
      have : j - 13 - R.length = 0 := by
        rcases Nat.eq_zero_or_pos (j - 13 - R.length) with h | h
        · exact h
        · rw [List.getElem?_eq_none (by simp; omega)] at hc2
          cases hc2
      rw [this] at hc2
      simp at hc2
      subst hc2
      simp
theorem stL_plain (r : Rs) (h1 : 100 ≤ r.st) (h2 : r.st ≤ 599) (hr : isRs (rsnR r) = true) : ∀ x ∈ stL r, x ≠ 13 ∧ x ≠ 10 := by
  obtain ⟨a, b, d, ha1, ha2, hb, hd, e⟩ := dig_three h1 h2
  have ea := byte_of (show a ≤ 9 by omega)
  have eb := byte_of hb
  have ed := byte_of hd
  unfold isRs at hr
  rw [Bool.and_eq_true] at hr
  have hrf := hr.2
  unfold isFld at hrf
  rw [List.all_eq_true] at hrf
  intro x hx
  unfold stL at hx
  rw [e] at hx
  generalize UInt8.ofNat (48 + a) = A at *
  generalize UInt8.ofNat (48 + b) = B at *
  generalize UInt8.ofNat (48 + d) = D at *
  have key : x ∈ ([72, 84, 84, 80, 47, 49, 46, 49, 32, 32] : List UInt8) ∨ x = A ∨ x = B ∨ x = D ∨ x ∈ rsnR r := by
    rcases List.mem_append.1 hx with hx | hx
    · rcases List.mem_append.1 hx with hx | hx
      · rcases List.mem_append.1 hx with hx | hx
        · exact .inl (by
            have : ∀ y ∈ ([72, 84, 84, 80, 47, 49, 46, 49, 32] : List UInt8), y ∈ ([72, 84, 84, 80, 47, 49, 46, 49, 32, 32] : List UInt8) := by decide
            exact this x hx)
        · rcases List.mem_cons.1 hx with h | hx
          · exact .inr (.inl h)
          rcases List.mem_cons.1 hx with h | hx
          · exact .inr (.inr (.inl h))
          rcases List.mem_cons.1 hx with h | hx
          · exact .inr (.inr (.inr (.inl h)))
          · cases hx
      · rcases List.mem_cons.1 hx with h | hx
        · rw [h]; exact .inl (by decide)
        · cases hx
    · exact .inr (.inr (.inr (.inr hx)))
  have big : ∀ y : UInt8, 48 ≤ (y.toNat : Int) → y ≠ 13 ∧ y ≠ 10 := fun y hy => by
    constructor
    · rintro rfl
      revert hy; decide
    · rintro rfl
      revert hy; decide
  rcases key with h | rfl | rfl | rfl | h
  · have hall : ∀ y ∈ ([72, 84, 84, 80, 47, 49, 46, 49, 32, 32] : List UInt8), y ≠ 13 ∧ y ≠ 10 := by decide
    exact hall x h
  · exact big _ (by omega)
  · exact big _ (by omega)
  · exact big _ (by omega)
  · have hf := hrf x h
    constructor
    · rintro rfl
      revert hf; decide +kernel
    · rintro rfl
      revert hf; decide +kernel
theorem stL_len (r : Rs) (h1 : 100 ≤ r.st) (h2 : r.st ≤ 599) : (stL r).length = 13 + (rsnR r).length := by
  obtain ⟨a, b, d, _, _, _, _, e⟩ := dig_three h1 h2
  unfold stL
  rw [e]
  simp
  omega
theorem stL_says (r : Rs) (h1 : 100 ≤ r.st) (h2 : r.st ≤ 599) (s : HS) : hStatus s (stL r) = { s with st := r.st, rs := rsnR r, minor := 1 } := by
  obtain ⟨a, b, d, _, _, _, _, e⟩ := dig_three h1 h2
  have e9 : ((stL r).drop 9).take 3 = Lib.itoa r.st := by
    unfold stL
    rw [e]
    simp
  have e13 : (stL r).drop 13 = rsnR r := by
    unfold stL
    rw [e]
    simp
  have e7 : (stL r).getD 7 0 = 49 := by
    unfold stL
    rw [e]
    rfl
  have en : (numR 10 (Lib.itoa r.st) 599).1 = r.st := by
    obtain ⟨k, hk⟩ : ∃ k : Nat, r.st = (k : Int) := ⟨r.st.toNat, by omega⟩
    rw [hk, itoa_nat]
    have := numR_zeros k 0 599
    simp only [List.replicate_zero, List.nil_append] at this
    rw [this, if_neg (by omega)]
  unfold hStatus
  rw [e9, e13, e7, en]
  rfl
end Ms
end Go.Proofs.YtcelekfokbdmfaaGreatDoor
set_option linter.unusedVariables false
set_option linter.unusedSimpArgs false
set_option maxRecDepth 100000
namespace Go.Proofs.YtcelekfokbdmfaaGreatDoor
open Go.RowKit Go.Shelf
namespace Ms
open Oc Tg _root_.Go.Proofs.YtcelekfokbdmfaaGreatDoor.Fd _root_.Go.Proofs.YtcelekfokbdmfaaGreatDoor.Ck
theorem print_back : ∀ (t : List Fl) (acc : List UInt8), (printG t acc).2 = 0 → ∀ p ∈ t, isName p.1 = true ∧ isValue p.2 = true
  | [], acc, h => fun p hp => by cases hp
  | q :: t, acc, h => by
    rcases chk_cases q with ⟨hz, h1, h2⟩ | ⟨hz, _, _⟩ | ⟨hz, _⟩
    · have e : printG (q :: t) acc = printG t (acc ++ lineP q ++ [13, 10]) := if_pos hz
      rw [e] at h
      intro p hp
      rcases List.mem_cons.1 hp with rfl | hp
      · exact ⟨h1, h2⟩
      · exact print_back t _ h p hp
    · have e : printG (q :: t) acc = ([], chkZ q) := if_neg (by rw [hz]; decide)
      rw [e] at h
      dsimp only at h
      omega
    · have e : printG (q :: t) acc = ([], chkZ q) := if_neg (by rw [hz]; decide)
      rw [e] at h
      dsimp only at h
      omega
theorem printT_back {t : List Fl} (h : (printT t).2 = 0) : (∀ p ∈ t, isName p.1 = true ∧ isValue p.2 = true) ∧ t.length ≤ 100 ∧ (printT t).1 = textOf t := by
  have hl : t.length ≤ 100 := by
    by_cases hl : 100 < t.length
    · unfold printT at h
      rw [if_pos hl] at h
      cases h
    · omega
  have hr : ∀ p ∈ t, isName p.1 = true ∧ isValue p.2 = true := by
    unfold printT at h
    rw [if_neg (by omega)] at h
    exact print_back t [] h
  exact ⟨hr, hl, by rw [(back_all hr hl).1]⟩
structure HdOk (r : Rs) (m : Mn) : Prop where
  st : 100 ≤ r.st ∧ r.st ≤ 599
  rs : isRs (rsnR r) = true
  any : anyI r.fs r.st = false
  mis : misf r m = false
  right : ∀ p ∈ r.fs ++ behF r m, isName p.1 = true ∧ isValue p.2 = true
  len : (r.fs ++ behF r m).length ≤ 100
  is : (headR r m).1 = hdP r (textOf (r.fs ++ behF r m))
theorem hd_ok {r : Rs} {m : Mn} (h : (headR r m).2 = 0) : HdOk r m := by
  have H : headR r m = headR r m := rfl
  unfold headR at h H
  by_cases h1 : isSt r.st = false
  · rw [if_pos h1] at h; simp at h
  rw [if_neg h1] at h
  by_cases h2 : isRs r.rs = false
  · rw [if_pos h2] at h; simp at h
  rw [if_neg h2] at h
  by_cases h3 : anyI r.fs r.st = true
  · rw [if_pos h3] at h; simp at h
  rw [if_neg h3] at h
  by_cases h4 : misf r m = true
  · rw [if_pos h4] at h; simp at h
  rw [if_neg h4] at h
  by_cases h5 : (printT (r.fs ++ behF r m)).2 ≠ 0
  · rw [if_pos h5] at h; exact absurd h h5
  have h5' : (printT (r.fs ++ behF r m)).2 = 0 := by omega
  obtain ⟨k1, k2, k3⟩ := printT_back h5'
  refine ⟨?_, rsn_right r (by simpa using h2), by simpa using h3, by simpa using h4, k1, k2, ?_⟩
  · have : isSt r.st = true := by simpa using h1
    unfold isSt at this
    exact of_decide_eq_true this
  · unfold headR
    rw [if_neg h1, if_neg h2, if_neg h3, if_neg h4, if_neg h5, k3]
theorem vals_app (s : List UInt8) (a b : List Fl) : vals s (a ++ b) = vals s a ++ vals s b := by
  unfold vals
  rw [List.filter_append, List.map_append]
theorem vals_none {s : List UInt8} {t : List Fl} (h : ∀ p ∈ t, lower p.1 ≠ lower s) : vals s t = [] := by
  unfold vals
  rw [List.filter_eq_nil_iff.2, List.map_nil]
  intro p hp
  unfold alike
  simpa using h p hp
theorem any_no {t : List Fl} {n : Int} (h : anyI t n = false) : vals nCL t = [] ∧ vals nTE t = [] ∧ (n ≠ 101 → vals nCn t = []) := by
  unfold anyI at h
  rw [List.any_eq_false] at h
  have h2 : ∀ p ∈ t, ¬ lower p.1 = lower nCL ∧ ¬ lower p.1 = lower nTE ∧ (n ≠ 101 → ¬ lower p.1 = lower nCn) := fun p hp => by
    have := h p hp
    unfold frI at this
    simp only [Bool.or_eq_true, Bool.and_eq_true, decide_eq_true_eq, not_or, not_and, bne_iff_ne] at this
    exact ⟨this.1, this.2.1, fun hn hk => this.2.2 hk hn⟩
  exact ⟨vals_none fun p hp => (h2 p hp).1, vals_none fun p hp => (h2 p hp).2.1, fun hn => vals_none fun p hp => (h2 p hp).2.2 hn⟩
def cls : List UInt8 := [99, 108, 111, 115, 101]
def kal : List UInt8 := [107, 101, 101, 112, 45, 97, 108, 105, 118, 101]
theorem alike_tab (v : List UInt8) : vals nTE [(nTE, v)] = [v] ∧ vals nCL [(nTE, v)] = [] ∧ vals nCn [(nTE, v)] = [] ∧ vals nTE [(nCL, v)] = [] ∧ vals nCL [(nCL, v)] = [v] ∧ vals nCn [(nCL, v)] = [] ∧ vals nTE [(nCn, v)] = [] ∧ vals nCL [(nCn, v)] = [] ∧ vals nCn [(nCn, v)] = [v] := by
  have e : ∀ s n : List UInt8, vals s [(n, v)] = if decide (lower n = lower s) = true then [v] else [] := fun s n => by
    unfold vals alike
    rw [List.filter_cons]
    dsimp only
    split <;> rfl
  rw [e, e, e, e, e, e, e, e, e]
  have d1 : decide (lower nTE = lower nTE) = true := by decide +kernel
  have d2 : decide (lower nTE = lower nCL) = false := by decide +kernel
  have d3 : decide (lower nTE = lower nCn) = false := by decide +kernel
  have d4 : decide (lower nCL = lower nTE) = false := by decide +kernel
  have d5 : decide (lower nCL = lower nCL) = true := by decide +kernel
  have d6 : decide (lower nCL = lower nCn) = false := by decide +kernel
  have d7 : decide (lower nCn = lower nTE) = false := by decide +kernel
  have d8 : decide (lower nCn = lower nCL) = false := by decide +kernel
  have d9 : decide (lower nCn = lower nCn) = true := by decide +kernel
  rw [d1, d2, d3, d4, d5, d6, d7, d8, d9]
  exact ⟨rfl, rfl, rfl, rfl, rfl, rfl, rfl, rfl, rfl⟩
def cnV (r : Rs) (m : Mn) : List (List UInt8) := if inf r.st = true then [] else if m.cl = true then [cls] else if m.old = true then [kal] else []
theorem beh_vals (r : Rs) (m : Mn) : vals nTE (behF r m) = (if m.ch = true then [Fd.chk] else []) ∧ vals nCL (behF r m) = (if m.ch = true then [] else if nvr r.st = true then [] else [Lib.itoa (r.bd.length : Int)]) ∧ vals nCn (behF r m) = cnV r m := by
  have e0 : ∀ s, vals s [] = [] := fun s => rfl
  obtain ⟨a1, a2, a3, _, _, _, _, _, _⟩ := alike_tab Fd.chk
  obtain ⟨_, _, _, b4, b5, b6, _, _, _⟩ := alike_tab (Lib.itoa (r.bd.length : Int))
  obtain ⟨_, _, _, _, _, _, c7, c8, c9⟩ := alike_tab cls
  obtain ⟨_, _, _, _, _, _, d7, d8, d9⟩ := alike_tab kal
  unfold Fd.chk at a1 a2 a3
  unfold cls at c7 c8 c9
  unfold kal at d7 d8 d9
  unfold behF cnV Fd.chk cls kal
  rw [vals_app, vals_app, vals_app]
  generalize Lib.itoa (r.bd.length : Int) = I at *
  refine ⟨?_, ?_, ?_⟩
  all_goals
    repeat' split
    all_goals simp [a1, a2, a3, b4, b5, b6, c7, c8, c9, d7, d8, d9, e0]
theorem lst_free : ∀ (l cur : List UInt8), (∀ c ∈ l, c ≠ 44 ∧ c ≠ 34) → lst cur l = some (addEl (trim (cur ++ l)) [])
  | [], cur, h => by rw [lst_nil, List.append_nil]
  | c :: l, cur, h => by
    obtain ⟨h1, h2⟩ := h c List.mem_cons_self
    rw [lst_on cur l c h1 h2, lst_free l (cur ++ [c]) (fun x hx => h x (List.mem_cons_of_mem _ hx))]
    simp
theorem trim_own {l : List UInt8} (h : ∀ c ∈ l, blankB c = false) : trim l = l := by
  have hL : trimL l = l := by
    cases l with
    | nil => rfl
    | cons x l => rw [trimL_cons, h x List.mem_cons_self, if_neg (by simp)]
  have hR : trimR l = l := by
    rcases List.eq_nil_or_concat l with rfl | ⟨a, x, rfl⟩
    · rfl
    · rw [List.concat_eq_append] at h ⊢
      rw [trimR_snoc, h x (by simp), if_neg (by simp)]
  unfold trim
  rw [hL, hR]
theorem list_one {l : List UInt8} (h : ∀ c ∈ l, c ≠ 44 ∧ c ≠ 34 ∧ blankB c = false) (hne : l ≠ []) : listR l = ([l], 0) := by
  have e : trim l = l := trim_own (fun c hc => (h c hc).2.2)
  refine listR_some ?_
  rw [lst_free l [] (fun c hc => ⟨(h c hc).1, (h c hc).2.1⟩), List.nil_append, e, addEl_some hne]
theorem listV_one {l : List UInt8} (h : listR l = ([l], 0)) : listV [l] [] = ([l], 0) := by
  show (if (listR l).2 = 0 then listV [] ([] ++ (listR l).1) else _) = _
  rw [h]
  rfl
end Ms
end Go.Proofs.YtcelekfokbdmfaaGreatDoor
set_option linter.unusedVariables false
set_option linter.unusedSimpArgs false
set_option maxRecDepth 100000
namespace Go.Proofs.YtcelekfokbdmfaaGreatDoor
open Go.RowKit Go.Shelf
namespace Ms
open Oc Tg _root_.Go.Proofs.YtcelekfokbdmfaaGreatDoor.Fd _root_.Go.Proofs.YtcelekfokbdmfaaGreatDoor.Ck
def cErr (e : Int) : Int := if e = 102 then 125 else e
set_option maxHeartbeats 400000 in
theorem chunkErr_any (e : Int) (w : World) : Calls Tryz.prog 117 #[.int .i64 e] w fun x w' => x = .returned (.int .i64 (cErr e)) ∧ w' = w := by
  by_cases h : e = 102
  · subst h
    go_enter Tryz.func117, Tryz.ntmps117
    go_wp2
    go_ret
    exact ⟨rfl, rfl⟩
  · have h' : (e == 102) = false := by simp [h]
    have HQ : Hid (cErr e = e) := (by unfold cErr; rw [if_neg h] : _ = _)
    clear h
    go_enter Tryz.func117, Tryz.ntmps117
    go_wp2
    go_ret
    exact ⟨by rw [HQ.out]; rfl, rfl⟩
def lcC (s : HS) (bd : List UInt8) (vl vb vf pc vt : Value) (ex : List Value) : List Value :=
  .string (str s.piece) :: .bool s.ended :: .int .i64 (s.used : Int) :: .int .i64 s.wrong :: vl :: .int .i64 (s.lineAt : Int) :: .bool s.headed :: vb :: pc :: .int .i64 s.st :: .string (str s.rs) :: vf :: .string (str bd) :: .int .i64 s.minor :: vt :: .int .i64 s.kind :: .int .i64 s.len :: .bool s.per :: ex
def chkR (s : HS) (m : Nat) : BR × List Fl :=
  if (eat (new (m : Int) 65536 100) s.piece).2.err ≠ 0 then (⟨false, cErr (eat (new (m : Int) 65536 100) s.piece).2.err, { bNext s (eat (new (m : Int) 65536 100) s.piece).1 with wrong := (s.used : Int) + (eat (new (m : Int) 65536 100) s.piece).1 - 1 }, [], []⟩, [])
  else if (eat (new (m : Int) 65536 100) s.piece).2.done = true then (⟨true, 0, bNext s (eat (new (m : Int) 65536 100) s.piece).1, [], (eat (new (m : Int) 65536 100) s.piece).2.body⟩, (eat (new (m : Int) 65536 100) s.piece).2.tr)
  else (⟨false, 0, bNext s (eat (new (m : Int) 65536 100) s.piece).1, [], []⟩, [])
structure IsC (T : Nat) (ex : List Value) (w : World) (D : Nat) (s : HS) (bd : List UInt8) (tr : List Fl) (B : Nat) (vf vt : Value) : Prop where
  str : ∃ vl vb pc, Blk T w D (lcC s bd vl vb vf pc vt ex)
  fs : OwnF 63 0 vf s.fs w
  tr : OwnF 63 B vt tr w
theorem own_upF {w : World} {T S n B B' : Nat} {v : Value} {xs : List Value} (h : w.ownsRow B T S v n xs) (hb : B' ≤ B) : w.ownsRow B' T S v n xs := by
  refine ⟨h.1, ?_⟩
  rcases h.2 with hn | ⟨g, cap, cur, e, hg, rest⟩
  · exact .inl hn
  · exact .inr ⟨g, cap, cur, e, Nat.le_trans hb hg, rest⟩
set_option maxHeartbeats 8000000 in
theorem readChunks_any {T : Nat} (hT : TOk T) (hTD : T ≠ 170) {ex : List Value} {w0 w : World} {D : Nat} {s : HS} {vl vb vf : Value} (hE : Env w0) (hB0 : Below w0.heap.size w0 w) (hD0 : w0.heap.size ≤ D) (H : IsB T ex w D s [] [] vl vb vf) (m : Nat) (hm : m ≤ 9223372036854775807) (hp : s.piece.length ≤ 2147483647) (hu : s.used ≤ 4000000000) :
    Calls Tryz.prog 89 #[.pointer (some ⟨D, 0, none⟩), .int .i64 (m : Int)] w fun e w' => e = .returned (.tuple #[.bool (chkR s m).1.done, .int .i64 (chkR s m).1.err]) ∧ (∃ vt, IsC T ex w' D (chkR s m).1.s (chkR s m).1.bd (chkR s m).2 w.heap.size vf vt) ∧ But [D] w w' := by
  have hok := Ok.new (m : Int) 65536 100 ⟨by omega, by omega⟩ ⟨by omega, by omega⟩ ⟨by omega, by omega⟩
  have hoke := eat_ok s.piece _ 0 hok
  have hel := eat_le s.piece (new (m : Int) 65536 100)
  have HOK : Hid (Ok (new (m : Int) 65536 100) 0) := hok
  have hfn : feedN (new (m : Int) 65536 100) s.piece = ((eat (new (m : Int) 65536 100) s.piece).1 : Int) := by unfold feedN; rw [if_neg (by show ¬ (0 : Nat) = 5; decide)]
  have hfe : feedE (new (m : Int) 65536 100) s.piece = (eat (new (m : Int) 65536 100) s.piece).2.err := by unfold feedE; rw [if_neg (by show ¬ (0 : Nat) = 5; decide)]
  have hfs : feedS (new (m : Int) 65536 100) s.piece = { (eat (new (m : Int) 65536 100) s.piece).2 with total := (eat (new (m : Int) 65536 100) s.piece).2.total + (eat (new (m : Int) 65536 100) s.piece).1 } := by unfold feedS; rw [if_neg (by show ¬ (0 : Nat) = 5; decide)]
  have htl : (eat (new (m : Int) 65536 100) s.piece).2.tr.length ≤ 2147483648 := by have := hoke.len; omega
  have HN : Hid (Calls Tryz.prog 115 #[.int .i64 (m : Int), .int .i64 65536, .int .i64 100] w fun e w' => e = .returned (.tuple #[.pointer (some ⟨w.heap.size, 0, none⟩), .int .i64 0]) ∧ Dec w' w.heap.size (new (m : Int) 65536 100) [w.heap.size] ∧ Below w.heap.size w w') := New_ok (m : Int) 65536 100 (by omega) (by omega) (by omega) w
  have HFd : Hid (∀ W, Base w0 W [w.heap.size] → Dec W w.heap.size (new (m : Int) 65536 100) [w.heap.size] → Calls Tryz.prog 116 #[.pointer (some ⟨w.heap.size, 0, none⟩), .string (str s.piece)] W fun ex w' => ex = .returned (.tuple #[.int .i64 ((eat (new (m : Int) 65536 100) s.piece).1 : Int), .int .i64 (eat (new (m : Int) 65536 100) s.piece).2.err]) ∧ ∃ bs', Dec w' w.heap.size { (eat (new (m : Int) 65536 100) s.piece).2 with total := (eat (new (m : Int) 65536 100) s.piece).2.total + (eat (new (m : Int) 65536 100) s.piece).1 } bs' ∧ Goes [w.heap.size] W bs' w') := fun W hb hd => by
    have h := Feed_any (w0 := w0) (k := 0) hb hd HOK.out (str s.piece) (by rw [str_size]; omega)
    rw [str_list, hfn, hfe, hfs] at h
    exact h
  have HR : Hid (chkR s m = if (eat (new (m : Int) 65536 100) s.piece).2.err ≠ 0 then (⟨false, cErr (eat (new (m : Int) 65536 100) s.piece).2.err, { bNext s (eat (new (m : Int) 65536 100) s.piece).1 with wrong := (s.used : Int) + (eat (new (m : Int) 65536 100) s.piece).1 - 1 }, [], []⟩, [])
    else if (eat (new (m : Int) 65536 100) s.piece).2.done = true then (⟨true, 0, bNext s (eat (new (m : Int) 65536 100) s.piece).1, [], (eat (new (m : Int) 65536 100) s.piece).2.body⟩, (eat (new (m : Int) 65536 100) s.piece).2.tr)
    else (⟨false, 0, bNext s (eat (new (m : Int) 65536 100) s.piece).1, [], []⟩, [])) := rfl
  generalize chkR s m = R at *
  clear hfn hfe hfs hok hoke HOK
  generalize eat (new (m : Int) 65536 100) s.piece = r at *
  obtain ⟨n, st⟩ := r
  dsimp only at HR HFd htl hel
  have hDl := H.str.lt
  have HDl : Hid (D < w.heap.size) := hDl
  have HTT : Hid (TOk T ∧ T ≠ 170) := (⟨hT, hTD⟩ : _ ∧ _)
  have HSt : Hid (Blk T w D (lcC s [] vl vb vf (.pointer none) (.slice none 0 0) ex)) := H.str
  have HFs : Hid (OwnF 63 0 vf s.fs w) := H.fs
  have HBs : Hid (Env w0 ∧ Below w0.heap.size w0 w ∧ w0.heap.size ≤ D) := (⟨hE, hB0, hD0⟩ : _ ∧ _ ∧ _)
  have c8 := HSt.out.cell 8 rfl
  have f8 := HSt.out.free 8
  obtain ⟨nD, hnD⟩ : ∃ nD, nD = w.heap.size := ⟨_, rfl⟩
  have HnD : Hid (nD = w.heap.size) := hnD
  rw [← hnD] at HN HFd HDl ⊢
  clear H hT hTD hE hB0 hD0 hDl hnD
  go_enter Tryz.func89, Tryz.ntmps89
  go_wp2_with fail
  refine HN.out.mono ?_
  rintro e w1 ⟨rfl, hd1, hb1⟩
  have HD1 : Hid (Dec w1 nD (new (m : Int) 65536 100) [nD]) := hd1
  have HB1 : Hid (Below w.heap.size w w1) := (by rw [← HnD.out]; exact hb1 : Below _ _ _)
  have HS1 : Hid (Blk T w1 D (lcC s [] vl vb vf (.pointer none) (.slice none 0 0) ex)) := HSt.out.below HB1.out
  clear hd1 hb1 c8 f8 HN
  obtain ⟨w2, hw2⟩ : ∃ w2, w2 = w1.setCell ⟨D, 8, none⟩ (.pointer (some ⟨nD, 0, none⟩)) := ⟨_, rfl⟩
  have hb2 : But [D] w1 w2 := by rw [hw2]; exact setD (But.refl _ _) _ _
  have HS2 : Hid (Blk T w2 D (lcC s [] vl vb vf (.pointer (some ⟨nD, 0, none⟩)) (.slice none 0 0) ex)) := (by rw [hw2]; exact HS1.out.set 8 _ : Blk _ _ _ _)
  have HD2 : Hid (Dec w2 nD (new (m : Int) 65536 100) [nD]) := HD1.out.but hb2 (fun x hx e => by simp at hx e; have := HDl.out; omega)
  have HB2 : Hid (But [D] w w2) := (But.of_below HB1.out).nil.trans hb2
  have HF2 : Hid (OwnF 63 0 vf s.fs w2) := HS1.out.keep ((But.of_below HB1.out).owns HFs.out (fun _ _ e => by cases e)) HTT.out.1.2 hb2
  have HA2 : Hid (Base w0 w2 [nD]) := (⟨HBs.out.1, HBs.out.2.1.trans (HB2.out.below HBs.out.2.1.size (fun x hx => by simp at hx; have := HBs.out.2.2; omega)), fun x hx => by simp at hx; have := HBs.out.2.1.size; have := HnD.out; omega⟩ : Base _ _ _)
  have HW2 : Hid (w2 = _) := hw2
  have c8 := HS1.out.cell 8 rfl
  have f8 := HS1.out.free 8
  clear hb2 hw2
  go_wp2_with fail
  rw [← HW2.out]
  clear c8 f8 HW2 HS1 HD1 HB1
  have HDn : Hid (D ≠ nD) := (by have := HDl.out; omega : D ≠ nD)
  have HK : Hid (∀ W, But [nD] w2 W → (W.cell? ⟨D, 0, none⟩ = some (.string (str s.piece)) ∧ W.cell? ⟨D, 8, none⟩ = some (.pointer (some ⟨nD, 0, none⟩))) ∧ But [nD] w2 W) := fun W hW => ⟨⟨(HS2.out.but hW (by simpa using HDn.out)).cell 0 rfl, (HS2.out.but hW (by simpa using HDn.out)).cell 8 rfl⟩, hW⟩
  have HBn : Hid (But [nD] w2 w2) := But.refl _ _
  go_region_held3 (fun W => (W.cell? ⟨D, 0, none⟩ = some (.string (str s.piece)) ∧ W.cell? ⟨D, 8, none⟩ = some (.pointer (some ⟨nD, 0, none⟩))) ∧ But [nD] w2 W)
    ((refine HK.out _ ?_; first | with_reducible exact HBn.out | with_reducible exact But.drew HBn.out))
    (first
      | (go_at_call 116; (with_reducible refine (HFd.out w2.drew (HA2.out.below (Below.refl _ _).drew) (HD2.out.below (Below.refl _ _).drew)).mono ?_); rintro e w3 ⟨rfl, bs3, hd3, hg3⟩; have HBn : Hid (But [nD] w2 w3) := (But.refl [nD] w2).drew.trans hg3.but; have HD3 : Hid (Dec w3 nD { st with total := st.total + n } bs3) := hd3; have HX3 : Hid (∀ x, x ∈ bs3 → x = nD ∨ w2.heap.size ≤ x) := (fun x hx => (hg3.sub x hx).imp (fun h => by simpa using h) id : ∀ x, x ∈ bs3 → x = nD ∨ w2.heap.size ≤ x); clear hd3 hg3))
  have HS3 : Hid (Blk T w3 D (lcC s [] vl vb vf (.pointer (some ⟨nD, 0, none⟩)) (.slice none 0 0) ex)) := HS2.out.but HBn.out (by simpa using HDn.out)
  have HF3 : Hid (OwnF 63 0 vf s.fs w3) := HBn.out.owns HF2.out (fun g hg e => by
    have h1 := (World.ownsRow.lt HFs.out g hg).2
    simp at e
    have := HnD.out
    omega)
  have HB3 : Hid (But [D] w w3) := (⟨HBn.out.os.trans HB2.out.os, HBn.out.tape.trans HB2.out.tape, HBn.out.output.trans HB2.out.output, Nat.le_trans HB2.out.size HBn.out.size, fun i hi hn => (HBn.out.block i (Nat.lt_of_lt_of_le hi HB2.out.size) (by simp; have := HnD.out; omega)).trans (HB2.out.block i hi hn)⟩ : But _ _ _)
  have HRo : Hid (Calls _ _ _ _ _) := readOff_raw HS3.out (str s.piece) s.used n rfl rfl (by rw [str_size]; exact hel) (by rw [str_size]; omega) hu
  have HY : Hid ((str s.piece).extract n (str s.piece).size = str (s.piece.drop n)) := (by
    apply eq_list
    rw [Lib.extract_to_end, str_list, str_list] : _ = _)
  go_wp2_with fail
  refine HRo.out.mono ?_
  rintro e w4 ⟨rfl, hw4⟩
  rw [HY.out] at hw4
  have hb4 : But [D] w3 w4 := by rw [hw4]; exact setD (setD (But.refl _ _) _ _) _ _
  have HS4 : Hid (Blk T w4 D (lcC (bNext s n) [] vl vb vf (.pointer (some ⟨nD, 0, none⟩)) (.slice none 0 0) ex)) := (by
    rw [hw4]
    have h := (HS3.out.set 0 (.string (str (s.piece.drop n)))).set 2 (.int .i64 ((s.used : Int) + (n : Int)))
    have e : ((s.used : Int) + (n : Int)) = ((s.used + n : Nat) : Int) := by omega
    rw [e] at h ⊢
    exact h : Blk _ _ _ _)
  have HDx : Hid (∀ x, x ∈ bs3 → x ∉ [D]) := (fun x hx e => by
    simp at e
    subst e
    rcases HX3.out x hx with h | h
    · exact HDn.out h
    · have := HS2.out.lt; omega : ∀ x, x ∈ bs3 → x ∉ [D])
  have HD4 : Hid (Dec w4 nD { st with total := st.total + n } bs3) := HD3.out.but hb4 HDx.out
  have HF4 : Hid (OwnF 63 0 vf s.fs w4) := HS3.out.keep HF3.out HTT.out.1.2 hb4
  have HB4 : Hid (But [D] w w4) := HB3.out.trans hb4
  clear hw4 hb4 HRo HY HB3 HF3 HS3 HBn HK HD3 HFd HD2 HA2 HF2 HB2 HS2
  by_cases hE : st.err = 0
  case neg =>
    have hE1 : (st.err != 0) = true := by simp [hE]
    have HQ : Hid (R = (⟨false, cErr st.err, { bNext s n with wrong := (s.used : Int) + n - 1 }, [], []⟩, [])) := HR.out.trans (if_pos hE)
    have HS4d : Hid (Blk T w4.drew D (lcC (bNext s n) [] vl vb vf (.pointer (some ⟨nD, 0, none⟩)) (.slice none 0 0) ex)) := HS4.out.below (Below.refl _ _).drew
    obtain ⟨u, hu1⟩ : ∃ u : Int, u = ((s.used + n : Nat) : Int) := ⟨_, rfl⟩
    have c2 : w4.cell? ⟨D, 2, none⟩ = some (.int .i64 u) := by rw [hu1]; exact HS4.out.cell 2 rfl
    have d2 : w4.drew.cell? ⟨D, 2, none⟩ = some (.int .i64 u) := c2
    have hub : 0 ≤ u ∧ u ≤ 7000000000 := by omega
    have huw : IntKind.i64.wrap (u - 1) = u - 1 := by rw [IntKind.wrap_i64]; omega
    have HU : Hid (u - 1 = (s.used : Int) + n - 1) := (by omega : _ = _)
    have HRf : Hid (∀ a e, Calls Tryz.prog 108 #[.pointer (some ⟨D, 0, none⟩), .int .i64 a, .int .i64 e] w4.drew fun x w' => x = .returned (.int .i64 e) ∧ w' = (w4.setCell ⟨D, 3, none⟩ (.int .i64 a)).drew) := fun a e => refuse_raw HS4d.out ⟨_, rfl⟩ a e
    have HF4d : Hid (OwnF 63 0 vf s.fs w4.drew) := (But.refl [] _).drew.owns HF4.out (fun _ _ e => by cases e)
    have HB4d : Hid (But [D] w w4.drew) := HB4.out.drew
    obtain ⟨WF, hWF⟩ : ∃ WF, WF = (w4.setCell ⟨D, 3, none⟩ (.int .i64 (u - 1))).drew := ⟨_, rfl⟩
    have hb6 : But [D] w4 WF := by rw [hWF]; exact (setD (But.refl _ _) _ _).drew
    have HS6 : Hid (Blk T WF D (lcC { bNext s n with wrong := (s.used : Int) + n - 1 } [] vl vb vf (.pointer (some ⟨nD, 0, none⟩)) (.slice none 0 0) ex)) := (by
      rw [hWF, HU.out]
      exact (HS4.out.set 3 _).but (But.refl [] _).drew (by simp) : Blk _ _ _ _)
    have HF6 : Hid (OwnF 63 0 vf s.fs WF) := HS4.out.keep HF4.out HTT.out.1.2 hb6
    have HB6 : Hid (But [D] w WF) := HB4.out.trans hb6
    have HWF : Hid (WF = _) := hWF
    clear hE HR hub hu1 HS4 HD4 HF4 HB4 hWF hb6 HS4d HF4d HB4d
    go_wp2_with fail
    go_region_law (first
      | (go_simp; go_at_call 117; refine (chunkErr_any st.err _).mono ?_; rintro e w5 ⟨rfl, hw5⟩; rw [hw5]; clear hw5; dsimp only)
      | (go_simp; go_at_call 108; refine (HRf.out _ _).mono ?_; rintro e w6 ⟨rfl, hw6⟩; rw [hw6]; clear hw6; dsimp only))
    all_goals
      go_wp2
      go_ret2
      rw [HQ.out]
      first
        | (rw [← HWF.out]; exact ⟨rfl, ⟨Value.slice none 0 0, ⟨⟨vl, vb, _, HS6.out⟩, HF6.out, ownF_nil _ _ _⟩⟩, HB6.out⟩)
        | (show _ ∧ (∃ vt, IsC _ _ ((w4.setCell ⟨D, 3, none⟩ (.int .i64 (u - 1))).drew) _ _ _ _ _ _ _) ∧ But _ _ ((w4.setCell ⟨D, 3, none⟩ (.int .i64 (u - 1))).drew); rw [← HWF.out]; exact ⟨rfl, ⟨Value.slice none 0 0, ⟨⟨vl, vb, _, HS6.out⟩, HF6.out, ownF_nil _ _ _⟩⟩, HB6.out⟩)
  rw [hE] at HR ⊢
  have HR2 : Hid (R = _) := HR.out.trans (if_neg (by simp))
  have HDo : Hid (∀ W bs, Dec W nD { st with total := st.total + n } bs → Calls Tryz.prog 118 #[.pointer (some ⟨nD, 0, none⟩)] W fun e w' => e = .returned (.bool st.done) ∧ w' = W) := fun W bs h => (by have q := Done_any h; exact q)
  have c8 : w4.cell? ⟨D, 8, none⟩ = some (.pointer (some ⟨nD, 0, none⟩)) := HS4.out.cell 8 rfl
  have HDc : Hid (Calls _ _ _ _ _) := HDo.out w4 bs3 HD4.out
  clear HR hE
  go_wp2_with fail
  refine HDc.out.mono ?_
  rintro e w5 ⟨rfl, hw5⟩
  rw [hw5]
  clear hw5
  cases hdn : st.done with
  | false =>
    have HQ : Hid (R = (⟨false, 0, bNext s n, [], []⟩, [])) := HR2.out.trans (if_neg (by rw [hdn]; simp))
    rw [hdn] at HDc
    clear HR2 HDo
    go_wp2_with fail
    refine HDc.out.mono ?_
    rintro e w5 ⟨rfl, hw5⟩
    rw [hw5]
    clear hw5
    go_wp2
    go_ret2
    rw [HQ.out]
    exact ⟨rfl, ⟨Value.slice none 0 0, ⟨⟨vl, vb, _, HS4.out⟩, HF4.out, ownF_nil _ _ _⟩⟩, HB4.out⟩
  | true =>
    have HQ : Hid (R = (⟨true, 0, bNext s n, [], st.body⟩, st.tr)) := HR2.out.trans (if_pos hdn)
    have HD4d : Hid (Dec w4.drew nD { st with total := st.total + n } bs3) := HD4.out.below (Below.refl _ _).drew
    have HS4d : Hid (Blk T w4.drew D (lcC (bNext s n) [] vl vb vf (.pointer (some ⟨nD, 0, none⟩)) (.slice none 0 0) ex)) := HS4.out.below (Below.refl _ _).drew
    have HF4d : Hid (OwnF 63 0 vf s.fs w4.drew) := (But.refl [] _).drew.owns HF4.out (fun _ _ e => by cases e)
    have HB4d : Hid (But [D] w w4.drew) := HB4.out.drew
    have HBo : Hid (Calls Tryz.prog 119 #[.pointer (some ⟨nD, 0, none⟩)] w4.drew fun e w' => e = .returned (.string (str st.body)) ∧ w' = w4.drew) := (by have h := Body_any HD4d.out; exact h : Calls _ _ _ _ _)
    have HTr : Hid (Calls Tryz.prog 120 #[.pointer (some ⟨nD, 0, none⟩)] w4.drew fun e w' => ∃ v, e = .returned v ∧ OwnF 63 (World.heap w4.drew).size v st.tr w' ∧ Below (World.heap w4.drew).size w4.drew w') := (by have h := Trailers_any HD4d.out htl; exact h : Calls _ _ _ _ _)
    have HDo2 : Hid (∀ W bs, Dec W nD { st with total := st.total + n } bs → Calls Tryz.prog 118 #[.pointer (some ⟨nD, 0, none⟩)] W fun e w' => e = .returned (.bool true) ∧ w' = W) := fun W bs h => (by have q := HDo.out W bs h; rw [hdn] at q; exact q)
    have d8 : w4.drew.cell? ⟨D, 8, none⟩ = some (.pointer (some ⟨nD, 0, none⟩)) := c8
    have HHz : Hid (w.heap.size ≤ (World.heap w4.drew).size) := HB4d.out.size
    clear HR2 HDo HDc hdn htl HS4 HF4 HB4 HD4
    obtain ⟨BS, hBS⟩ : ∃ BS, BS = str st.body := ⟨_, rfl⟩
    rw [← hBS] at HBo
    have HBS : Hid (BS = str st.body) := hBS
    have HDd : Hid (D < (World.heap w4.drew).size) := HS4d.out.lt
    clear hBS
    go_wp2_with fail
    go_region_law (first
      | (go_simp; go_at_call 119; refine HBo.out.mono ?_; rintro e w5 ⟨rfl, hw5⟩; rw [hw5]; clear hw5; dsimp only)
      | (go_simp; go_at_call 120; refine HTr.out.mono ?_; rintro e w5 ⟨v5, rfl, ho5, hb5⟩; obtain ⟨a5, c5, rfl⟩ := ownF_form ho5; have HS5 : Hid (Blk T w5 D (lcC (bNext s n) [] vl vb vf (.pointer (some ⟨nD, 0, none⟩)) (.slice none 0 0) ex)) := HS4d.out.below hb5; have HO5 : Hid (OwnF 63 (World.heap w4.drew).size (.slice a5 st.tr.length c5) st.tr w5) := ho5; have HB5 : Hid (Below (World.heap w4.drew).size w4.drew w5) := hb5; have e8 : w5.cell? ⟨D, 8, none⟩ = some (.pointer (some ⟨nD, 0, none⟩)) := HS5.out.cell 8 rfl; have e12 := HS5.out.cell 12 rfl; have e14 := HS5.out.cell 14 rfl; have f12 := HS5.out.free 12; have f14 := HS5.out.free 14; clear ho5 hb5; dsimp only))
    all_goals
      obtain ⟨W6, hW6⟩ : ∃ W6, W6 = (w5.setCell ⟨D, 12, none⟩ (.string BS)).setCell ⟨D, 14, none⟩ (.slice a5 st.tr.length c5) := ⟨_, rfl⟩
      rw [← hW6]
      have hb6 : But [D] w5 W6 := by rw [hW6]; exact setD (setD (But.refl _ _) _ _) _ _
      have HS6 : Hid (Blk T W6 D (lcC (bNext s n) st.body vl vb vf (.pointer (some ⟨nD, 0, none⟩)) (.slice a5 st.tr.length c5) ex)) := (by
        rw [hW6]
        have h := (HS5.out.set 12 (.string BS)).set 14 (.slice a5 st.tr.length c5)
        rw [HBS.out] at h ⊢
        exact h : Blk _ _ _ _)
      have HF6 : Hid (OwnF 63 0 vf s.fs W6) := HS5.out.keep ((But.of_below HB5.out).owns HF4d.out (fun _ _ e => by cases e)) HTT.out.1.2 hb6
      have HT6 : Hid (OwnF 63 (World.heap w4.drew).size (.slice a5 st.tr.length c5) st.tr W6) := HS5.out.keep HO5.out HTT.out.1.2 hb6
      have HD6 : Hid (Dec W6 nD { st with total := st.total + n } bs3) := (HD4d.out.below HB5.out).but hb6 HDx.out
      have HB6 : Hid (But [D] w W6) := HB4d.out.trans ((But.of_below HB5.out).nil.trans hb6)
      have HDf : Hid (Calls _ _ _ _ _) := HDo2.out W6 bs3 HD6.out
      have q8 : W6.cell? ⟨D, 8, none⟩ = some (.pointer (some ⟨nD, 0, none⟩)) := HS6.out.cell 8 rfl
      clear hW6 hb6 HS5 HO5 HB5 e8 e12 e14 f12 f14 HD6 HDo2 HTr HBo HD4d HS4d HF4d HB4d d8
      go_wp2_with fail
      refine HDf.out.mono ?_
      rintro e w7 ⟨rfl, hw7⟩
      rw [hw7]
      clear hw7
      go_wp2
      go_ret2
      rw [HQ.out]
      exact ⟨rfl, ⟨_, ⟨⟨vl, vb, _, HS6.out⟩, HF6.out, own_upF HT6.out (by have := HHz.out; have := HnD.out; omega)⟩⟩, HB6.out⟩
end Ms
end Go.Proofs.YtcelekfokbdmfaaGreatDoor
