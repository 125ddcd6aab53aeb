/- Several texts as one. -/
import Derived.Test.YtifhbjkgdnemjaaGreatDoorCkM
import Derived.Deep.RegionWith
import Derived.Test.YtifhbjkgdnemjaaGreatDoorAlike
import Derived.Test.YtifhbjkgdnemjaaGreatDoorFR1
import Derived.Test.YtifhbjkgdnemjaaGreatDoorQLen
import Derived.Test.YtifhbjkgdnemjaaGreatDoorLPlain
import Derived.Laws.BitsAllLaws
/-
  Of the document: hex.
-/
set_option linter.unusedVariables false
set_option linter.unusedSimpArgs false
set_option maxRecDepth 100000
namespace Go.Proofs.YtifhbjkgdnemjaaGreatDoor
open Go.RowKit Go.Shelf
namespace Ck
open Oc Tg _root_.Go.Proofs.YtifhbjkgdnemjaaGreatDoor.Fd

def digs : List UInt8 := [48, 49, 50, 51, 52, 53, 54, 55, 56, 57, 97, 98, 99, 100, 101, 102]
/-- What a hexadecimal digit says; -1: it is none. -/
def hexV (c : UInt8) : Int := if hexB c then valI (c.toNat : Int) else -1
theorem hexV_all : ∀ n : Fin 256, hexV (UInt8.ofNat n.val) = match digs.findIdx? (· == lowB (UInt8.ofNat n.val)) with | some k => (k : Int) | none => -1 := by decide +kernel
theorem hexV_eq (c : UInt8) : hexV c = match digs.findIdx? (· == lowB c) with | some k => (k : Int) | none => -1 := by
  have h := hexV_all ⟨c.toNat, c.toNat_lt⟩
  simpa using h
theorem hexV_hit (c : UInt8) (k : Nat) (hk : k < 16) (h1 : digs.getD k 0 = lowB c) (h2 : ∀ j, j < k → digs.getD j 0 ≠ lowB c) : hexV c = k := by
  rw [hexV_eq]
  have : digs.findIdx? (· == lowB c) = some k := by
    rw [List.findIdx?_eq_some_iff_getElem]
    refine ⟨hk, ?_, fun j hj => ?_⟩
    · have : digs[k]'hk = digs.getD k 0 := by rw [List.getD_eq_getElem?_getD, List.getElem?_eq_getElem hk]; rfl
      rw [this, h1]
      simp
    · have hj16 : j < digs.length := Nat.lt_trans hj hk
      have : digs[j]'hj16 = digs.getD j 0 := by rw [List.getD_eq_getElem?_getD, List.getElem?_eq_getElem hj16]; rfl
      rw [this]
      simpa using h2 j hj
  rw [this]
theorem hexV_miss (c : UInt8) (h : ∀ j, j < 16 → digs.getD j 0 ≠ lowB c) : hexV c = -1 := by
  rw [hexV_eq]
  have : digs.findIdx? (· == lowB c) = none := by
    rw [List.findIdx?_eq_none_iff]
    intro x hx
    obtain ⟨j, hj, rfl⟩ := List.mem_iff_getElem.1 hx
    have := h j hj
    rw [List.getD_eq_getElem?_getD, List.getElem?_eq_getElem hj] at this
    simpa using this
  rw [this]

theorem dig_slice : ∀ k, k < 16 → (⟨#[48, 49, 50, 51, 52, 53, 54, 55, 56, 57, 97, 98, 99, 100, 101, 102]⟩ : ByteArray).extract k (k + 1) = str [digs.getD k 0] := fun k hk => match k, hk with
  | 0, _ => rfl
  | 1, _ => rfl
  | 2, _ => rfl
  | 3, _ => rfl
  | 4, _ => rfl
  | 5, _ => rfl
  | 6, _ => rfl
  | 7, _ => rfl
  | 8, _ => rfl
  | 9, _ => rfl
  | 10, _ => rfl
  | 11, _ => rfl
  | 12, _ => rfl
  | 13, _ => rfl
  | 14, _ => rfl
  | 15, _ => rfl
  | n + 16, h => absurd h (by omega)

end Ck
end Go.Proofs.YtifhbjkgdnemjaaGreatDoor

/-
  Of the document: past, sign, said.
-/
set_option linter.unusedVariables false
set_option linter.unusedSimpArgs false
set_option maxRecDepth 100000
namespace Go.Proofs.YtifhbjkgdnemjaaGreatDoor
open Go.RowKit Go.Shelf
namespace Ck
open Oc Tg _root_.Go.Proofs.YtifhbjkgdnemjaaGreatDoor.Fd

theorem bl_cons (c : UInt8) (l : List UInt8) : bl (c :: l) = if blankB c then bl l + 1 else 0 := by
  unfold bl
  rw [List.takeWhile_cons]
  split <;> simp
theorem tok_cons (c : UInt8) (l : List UInt8) : tokLen (c :: l) = if tokB c then tokLen l + 1 else 0 := by
  unfold tokLen
  rw [List.takeWhile_cons]
  split <;> simp

end Ck
end Go.Proofs.YtifhbjkgdnemjaaGreatDoor

/-
  Of the document: said; the law's sameParams.
-/
set_option linter.unusedVariables false
set_option linter.unusedSimpArgs false
set_option maxRecDepth 100000
namespace Go.Proofs.YtifhbjkgdnemjaaGreatDoor
open Go.RowKit Go.Shelf
namespace Ck
open Oc Tg _root_.Go.Proofs.YtifhbjkgdnemjaaGreatDoor.Fd

theorem ru_bd {l : List UInt8} {e : Bool} {x : List UInt8 × Nat} (h : ru e l = some x) : 1 ≤ x.2 ∧ x.2 ≤ l.length := by
  rw [ru_eq] at h
  obtain ⟨k, hk, rfl⟩ := Option.map_eq_some_iff.1 h
  exact qscan_pos l e k hk
theorem ru_last {l : List UInt8} {Y : List UInt8} (h : ru false l = some (Y, 1)) : Y = [] := by
  rw [ru_eq] at h
  obtain ⟨k, hk, e⟩ := Option.map_eq_some_iff.1 h
  injection e with e1 e2
  subst e2
  rw [← e1]
  rfl
theorem ru_next {c : UInt8} {l : List UInt8} {Y : List UInt8} {m : Nat} (h : ru false (c :: l) = some (Y, m)) (hm : 2 ≤ m) :
    (c = 92 ∧ 3 ≤ m ∧ ∃ d l' Y', l = d :: l' ∧ Y = d :: Y' ∧ ru false l' = some (Y', m - 2)) ∨ (c ≠ 92 ∧ ∃ Y', Y = c :: Y' ∧ ru false l = some (Y', m - 1)) := by
  by_cases h34 : c = 34
  · rw [ru_end c l h34] at h
    injection h with h
    injection h with _ h
    omega
  by_cases h92 : c = 92
  · left
    rw [ru_back c l h92] at h
    obtain ⟨x, hx, e⟩ := Option.map_eq_some_iff.1 h
    injection e with e1 e2
    cases l with
    | nil => rw [ru] at hx; cases hx
    | cons d l' =>
      cases hf : fieldB d with
      | false => rw [rut_bad d l' hf] at hx; cases hx
      | true =>
        rw [rut_on d l' hf] at hx
        obtain ⟨z, hz, e'⟩ := Option.map_eq_some_iff.1 hx
        subst e'
        have hb := ru_bd hz
        simp only at e1 e2
        refine ⟨h92, by omega, d, l', z.1, rfl, e1.symm, ?_⟩
        rw [hz, ← e2]
        simp
  · right
    cases hf : fieldB c with
    | false => rw [ru_bad c l hf] at h; cases h
    | true =>
      rw [ru_on c l hf h34 h92] at h
      obtain ⟨z, hz, e⟩ := Option.map_eq_some_iff.1 h
      injection e with e1 e2
      refine ⟨h92, z.1, e1.symm, ?_⟩
      rw [hz, ← e2]
      simp
theorem ru_quoted {l : List UInt8} (h : qlen l ≠ 0) : ru false (l.drop 1) = some (psay false ((l.drop 1).take (qlen l - 2)), qlen l - 1) := by
  cases l with
  | nil => exact absurd rfl h
  | cons c l =>
    rw [qlen_cons] at h ⊢
    by_cases hc : c = 34
    · rw [if_pos hc] at h ⊢
      rw [List.drop_one, List.tail_cons, ru_eq]
      cases hq : qscan false l with
      | none => rw [hq] at h; exact absurd rfl h
      | some k => simp [plusOne]
    · rw [if_neg hc] at h
      exact absurd rfl h

set_option maxRecDepth 100000 in
set_option maxHeartbeats 1000000 in
theorem sameParams_any (v1 v2 : Value) (t : List Prm) (w : World) (h1 : RdP v1 t w) (h2 : RdP v2 t w) (hl : t.length ≤ 4294967296) :
    Calls Tryz.prog 13 #[v1, v2] w fun e w' => e = .returned (.bool true) ∧ ∃ n, w' = w.drewN n := by
  obtain ⟨a1, c1, rfl, h1⟩ := h1
  obtain ⟨a2, c2, rfl, h2⟩ := h2
  have hne : ((t.length : Int) != (t.length : Int)) = false := by simp
  go_enter Tryz.func13, Tryz.ntmps13
  go_wp2
  go_loopw [13] (fun i wr => ∃ k : Nat, k ≤ t.length ∧ i = .int .i64 k ∧ Hid (∃ n, wr = w.drewN n)) (fun i _ => t.length - (intOf i).toNat)
  case atStart => exact ⟨0, Nat.zero_le _, rfl, (⟨0, rfl⟩ : ∃ n, w = w.drewN n)⟩
  case round =>
    obtain ⟨k, hk, rfl, hw⟩ := hrel
    obtain ⟨n, rfl⟩ := hw.out
    clear hw
    by_cases hlt : k < t.length
    · rcases h1 with h | ⟨g1, o1, rfl, hc1, hcell1⟩
      · rw [h] at hlt; simp at hlt
      rcases h2 with h | ⟨g2, o2, rfl, hc2, hcell2⟩
      · rw [h] at hlt; simp at hlt
      obtain ⟨p0, p1, p2⟩ := hcell1 k hlt
      obtain ⟨q0, q1, q2⟩ := hcell2 k hlt
      clear hcell1 hcell2
      generalize str (Oc.nth t k).1 = x at p0 q0
      generalize str (Oc.nth t k).2.1 = y at p1 q1
      generalize (Oc.nth t k).2.2 = z at p2 q2
      have hz : (z != z) = false := by simp
      go_wp2_with fail
      go_quiet (fail)
      go_wp2
      go_roundw
      case rel => exact ⟨k + 1, by omega, by go_num, Oc.drawn_again w _ _⟩
      case measure => simp [intOf]; omega
    · go_wp2
      go_ret
      exact ⟨rfl, _, rfl⟩

end Ck
end Go.Proofs.YtifhbjkgdnemjaaGreatDoor

/-
  The document's Quoted.
-/
set_option linter.unusedVariables false
set_option linter.unusedSimpArgs false
namespace Go.Proofs.YtifhbjkgdnemjaaGreatDoor
open Go.RowKit Go.Shelf
namespace Fd
open Oc

theorem byt_list (s : ByteArray) (k : Nat) (c : UInt8) (h : s.data.toList.getD k 0 = c) : byt s k = (c.toNat : Int) := by unfold byt; rw [h]
theorem list_byt (s : ByteArray) (k : Nat) (c : UInt8) (h : byt s k = (c.toNat : Int)) : s.data.toList.getD k 0 = c := by unfold byt at h; exact UInt8.toNat_inj.1 (by omega)
theorem mapk (o : Option Nat) (a b : Nat) : (o.map (· + a)).map (· + b) = o.map (· + (a + b)) := by cases o <;> simp [Nat.add_assoc]

end Fd
end Go.Proofs.YtifhbjkgdnemjaaGreatDoor

/-
  Of the document: Params.
-/
set_option linter.unusedVariables false
set_option linter.unusedSimpArgs false
set_option maxRecDepth 100000
namespace Go.Proofs.YtifhbjkgdnemjaaGreatDoor
open Go.RowKit Go.Shelf
namespace Ck
open Oc Tg _root_.Go.Proofs.YtifhbjkgdnemjaaGreatDoor.Fd

theorem rq_zero {r : List UInt8} (h : tokLen r = 0) : rp r = some ((r.take 0, [], false), 0) := by
  unfold rp
  rw [h, if_neg]
  simp [told]
theorem rq_bare {r : List UInt8} {n : Nat} (h : tokLen r = n) (h2 : told r n = false) : rp r = some ((r.take n, [], false), n) := by
  unfold rp
  rw [h, h2]
  rfl
theorem rq_tok {r : List UInt8} {n m : Nat} (h : tokLen r = n) (h2 : told r n = true) (h3 : tokLen (r.drop (n + 1)) = m) (h4 : 0 < m) : rp r = some ((r.take n, (r.drop (n + 1)).take m, true), n + 1 + m) := by
  unfold rp
  rw [h, h2, if_pos rfl]
  unfold rv
  rw [h3, if_pos h4]
  rfl
theorem rq_quo {r : List UInt8} {n m : Nat} (h : tokLen r = n) (h2 : told r n = true) (h3 : tokLen (r.drop (n + 1)) = 0) (h4 : qlen (r.drop (n + 1)) = m) (h5 : m ≠ 0) :
    rp r = some ((r.take n, psay false (((r.drop (n + 1)).drop 1).take (m - 2)), true), n + 1 + m) := by
  unfold rp
  rw [h, h2, if_pos rfl]
  unfold rv
  rw [h3, h4, if_neg (by omega), if_neg h5]
  rfl
theorem rq_err {r : List UInt8} {n : Nat} (h : tokLen r = n) (h2 : told r n = true) (h3 : tokLen (r.drop (n + 1)) = 0) (h4 : qlen (r.drop (n + 1)) = 0) : rp r = none := by
  unfold rp
  rw [h, h2, if_pos rfl]
  unfold rv
  rw [h3, h4, if_neg (by omega), if_pos rfl]
  rfl
theorem qlen_not {s : ByteArray} (h : s.size = 0 ∨ byt s 0 ≠ 34) : qlen s.data.toList = 0 := by
  cases hl : s.data.toList with
  | nil => rfl
  | cons c l =>
    rw [qlen_cons, if_neg]
    rintro rfl
    rcases h with h | h
    · rw [← size_list, hl] at h; simp at h
    · apply h; unfold byt; rw [hl]; rfl

end Ck
end Go.Proofs.YtifhbjkgdnemjaaGreatDoor

/-
  Of the document: ParseSize.
-/
set_option linter.unusedVariables false
set_option linter.unusedSimpArgs false
set_option maxRecDepth 100000
namespace Go.Proofs.YtifhbjkgdnemjaaGreatDoor
open Go.RowKit Go.Shelf
namespace Ck
open Oc Tg _root_.Go.Proofs.YtifhbjkgdnemjaaGreatDoor.Fd

theorem hexV_bd_all : ∀ n : Fin 256, (hexB (UInt8.ofNat n.val) = true → 0 ≤ hexV (UInt8.ofNat n.val) ∧ hexV (UInt8.ofNat n.val) ≤ 15 ∧ hexV (UInt8.ofNat n.val) = valI ((UInt8.ofNat n.val).toNat : Int)) ∧ (hexB (UInt8.ofNat n.val) = false → hexV (UInt8.ofNat n.val) = -1) := by decide +kernel
theorem hexV_bd (c : UInt8) : (hexB c = true → 0 ≤ hexV c ∧ hexV c ≤ 15 ∧ hexV c = valI (c.toNat : Int)) ∧ (hexB c = false → hexV c = -1) := by
  have h := hexV_bd_all ⟨c.toNat, c.toNat_lt⟩
  simpa using h
def accH (n : Int) (c : UInt8) : Int := if n ≤ 1099511627776 then 16 * n + hexV c else n
def hexAcc (l : List UInt8) : Int := l.foldl accH 0
theorem hexAcc_snoc (l : List UInt8) (c : UInt8) : hexAcc (l ++ [c]) = accH (hexAcc l) c := by unfold hexAcc; rw [List.foldl_append]; rfl
theorem hexAcc_is : ∀ (n : Nat) (l : List UInt8), l.length = n → (∀ c ∈ l, hexB c = true) → 0 ≤ numOf 16 l ∧ 0 ≤ hexAcc l ∧ hexAcc l ≤ 17592186044431 ∧ (numOf 16 l ≤ 1099511627776 → hexAcc l = numOf 16 l) ∧ (1099511627776 < numOf 16 l → 1099511627776 < hexAcc l) := by
  intro n
  induction n with
  | zero =>
    intro l hl _
    obtain rfl := List.eq_nil_of_length_eq_zero hl
    exact ⟨by decide, by decide, by decide, fun _ => rfl, fun h => absurd h (by decide)⟩
  | succ n ih =>
    intro l hl hall
    rcases List.eq_nil_or_concat l with h | ⟨a, c, h⟩
    · subst h; simp at hl
    · have h' : l = a ++ [c] := by simpa using h
      subst h'
      simp at hl
      obtain ⟨i0, i1, i2, i3, i4⟩ := ih a hl (fun d hd => hall d (by simp [hd]))
      obtain ⟨v0, v1, v2⟩ := (hexV_bd c).1 (hall c (by simp))
      rw [hexAcc_snoc, numOf_snoc, ← v2]
      unfold accH
      by_cases hb : numOf 16 a ≤ 1099511627776
      · rw [i3 hb, if_pos hb]
        refine ⟨by omega, by omega, by omega, fun _ => by omega, fun _ => by omega⟩
      · have := i4 (by omega)
        rw [if_neg (by omega)]
        exact ⟨by omega, i1, i2, fun _ => by omega, fun _ => this⟩
theorem numR_hex (l : List UInt8) (h0 : l ≠ []) (hall : ∀ c ∈ l, hexB c = true) : numR 16 l 1099511627776 = if 1099511627776 < hexAcc l then (0, 12) else (hexAcc l, 0) := by
  obtain ⟨_, _, _, i3, i4⟩ := hexAcc_is _ l rfl hall
  unfold numR
  have h1 : (l.isEmpty || l.any (fun c => decide (16 ≤ valI (c.toNat : Int)))) = false := by
    rw [Bool.or_eq_false_iff]
    refine ⟨by simpa using h0, ?_⟩
    rw [List.any_eq_false]
    intro c hc
    obtain ⟨_, v1, v2⟩ := (hexV_bd c).1 (hall c hc)
    simp
    omega
  rw [h1]
  by_cases hb : 1099511627776 < numOf 16 l
  · rw [if_neg (by decide), if_pos hb, if_pos (i4 hb)]
  · rw [if_neg (by decide), if_neg hb, if_neg (by rw [i3 (by omega)]; exact hb), i3 (by omega)]
theorem tw_all_hex : ∀ (l : List UInt8), ∀ c ∈ l.takeWhile hexB, hexB c = true
  | [], _, h => by simp at h
  | x :: l, c, h => by
    rw [List.takeWhile_cons] at h
    split at h
    · rcases List.mem_cons.1 h with rfl | h
      · assumption
      · exact tw_all_hex l c h
    · simp at h

end Ck
end Go.Proofs.YtifhbjkgdnemjaaGreatDoor

/-
  Numbers in hexadecimal digits, plain.
-/
set_option linter.unusedVariables false
set_option linter.unusedSimpArgs false
set_option maxRecDepth 100000
namespace Go.Proofs.YtifhbjkgdnemjaaGreatDoor
open Go.RowKit Go.Shelf
namespace Ck
open Oc Tg _root_.Go.Proofs.YtifhbjkgdnemjaaGreatDoor.Fd

/-- One digit. -/
def hexc (d : Nat) : UInt8 := digs.getD d 0
/-- A number in digits. -/
def hexd (n : Nat) : List UInt8 := if h : n < 16 then [hexc n] else hexd (n / 16) ++ [hexc (n % 16)]
termination_by n
decreasing_by omega
theorem hexd_low {n : Nat} (h : n < 16) : hexd n = [hexc n] := by rw [hexd, dif_pos h]
theorem hexd_high {n : Nat} (h : ¬ n < 16) : hexd n = hexd (n / 16) ++ [hexc (n % 16)] := by rw [hexd, dif_neg h]
theorem hexc_all : ∀ d : Fin 16, hexB (hexc d.val) = true ∧ valI ((hexc d.val).toNat : Int) = (d.val : Int) := by decide +kernel
theorem hexc_is (d : Nat) (h : d < 16) : hexB (hexc d) = true ∧ valI ((hexc d).toNat : Int) = (d : Int) := hexc_all ⟨d, h⟩
theorem hexd_ne (n : Nat) : hexd n ≠ [] := by
  by_cases h : n < 16
  · rw [hexd_low h]; simp
  · rw [hexd_high h]; simp
theorem hexd_hex : ∀ n, ∀ c ∈ hexd n, hexB c = true := by
  intro n
  induction n using Nat.strongRecOn with
  | _ n ih =>
    intro c hc
    by_cases h : n < 16
    · rw [hexd_low h] at hc
      simp only [List.mem_singleton] at hc
      subst hc
      exact (hexc_is n h).1
    · rw [hexd_high h, List.mem_append] at hc
      rcases hc with hc | hc
      · exact ih (n / 16) (by omega) c hc
      · simp only [List.mem_singleton] at hc
        subst hc
        exact (hexc_is (n % 16) (by omega)).1
theorem hexd_num : ∀ n, numOf 16 (hexd n) = (n : Int) := by
  intro n
  induction n using Nat.strongRecOn with
  | _ n ih =>
    by_cases h : n < 16
    · rw [hexd_low h]
      show (0 : Int) * 16 + valI ((hexc n).toNat : Int) = n
      rw [(hexc_is n h).2]
      omega
    · rw [hexd_high h, numOf_snoc, ih (n / 16) (by omega), (hexc_is (n % 16) (by omega)).2]
      omega
theorem hexd_len : ∀ k n, n < 16 ^ (k + 1) → (hexd n).length ≤ k + 1 := by
  intro k
  induction k with
  | zero =>
    intro n h
    rw [hexd_low (by simpa using h)]
    simp
  | succ k ih =>
    intro n h
    by_cases h16 : n < 16
    · rw [hexd_low h16]; simp
    · rw [hexd_high h16, List.length_append]
      have := ih (n / 16) (by rw [Nat.div_lt_iff_lt_mul (by omega)]; rw [Nat.pow_succ] at h; exact h)
      simp only [List.length_cons, List.length_nil]
      omega
theorem tw_self : ∀ (l : List UInt8), (∀ c ∈ l, hexB c = true) → l.takeWhile hexB = l ∧ l.dropWhile hexB = []
  | [], _ => ⟨rfl, rfl⟩
  | x :: l, h => by
    have ih := tw_self l (fun c hc => h c (by simp [hc]))
    have hx := h x (by simp)
    rw [List.takeWhile_cons, List.dropWhile_cons, if_pos hx, if_pos hx, ih.1, ih.2]
    exact ⟨rfl, rfl⟩
/-- What a number's digits say as a size line. -/
theorem sizeR_hexd (n : Nat) (h : n ≤ 1099511627776) : sizeR (hexd n) = ((n : Int), [], 0) := by
  have hl := hexd_len 10 n (Nat.lt_of_le_of_lt h (by decide))
  obtain ⟨t1, t2⟩ := tw_self (hexd n) (hexd_hex n)
  obtain ⟨_, _, _, i3, _⟩ := hexAcc_is _ (hexd n) rfl (hexd_hex n)
  have hn := hexd_num n
  have ha : hexAcc (hexd n) = (n : Int) := by rw [i3 (by rw [hn]; omega), hn]
  have hr := numR_hex (hexd n) (hexd_ne n) (hexd_hex n)
  rw [ha, if_neg (by omega)] at hr
  unfold sizeR
  rw [if_neg (by omega), t1, t2, hr]
  have hp : paramsR ([] : List UInt8) = ([], 0, 0) := by decide +kernel
  rw [hp, if_neg, if_neg (by simp)]
  rintro (h1 | h1 | h1)
  · exact hexd_ne n h1
  · exact h1 rfl
  · exact h1 rfl

end Ck
end Go.Proofs.YtifhbjkgdnemjaaGreatDoor

/-
  strconv.FormatInt at base 16: what it calls.
-/
set_option linter.unusedVariables false
set_option linter.unusedSimpArgs false
set_option maxRecDepth 100000
namespace Go.Proofs.YtifhbjkgdnemjaaGreatDoor
open Go.RowKit Go.Shelf
namespace Ck
open Oc Tg _root_.Go.Proofs.YtifhbjkgdnemjaaGreatDoor.Fd

set_option maxHeartbeats 1000000 in
theorem isPow16 (w : World) : Calls Tryz.prog 80 #[.int .i64 16] w fun e w' => e = .returned (.bool true) ∧ w' = w := by
  go_enter Tryz.func80, Tryz.ntmps80
  go_wp2
  go_ret
  exact ⟨rfl, rfl⟩
set_option maxHeartbeats 1000000 in
theorem tz64 (w : World) (h : w.cell? ⟨3, 15, none⟩ = some (.int .u8 4)) : Calls Tryz.prog 96 #[.int .u64 16] w fun e w' => e = .returned (.int .i64 4) ∧ w' = w := by
  have e1 : IntKind.u64.wrap (-16) = 18446744073709551600 := by decide +kernel
  have e2 : bits BinOp.and IntKind.u64 16 18446744073709551600 = 16 := by decide +kernel
  have e3 : IntKind.u64.wrap (16 * 285870213051353865) = 4573923408821661840 := by decide +kernel
  have e4 : (4573923408821661840 : Int) / 288230376151711744 = 15 := by decide +kernel
  go_enter Tryz.func96, Tryz.ntmps96
  go_wp2
  go_ret
  exact ⟨rfl, rfl⟩
set_option maxHeartbeats 1000000 in
theorem tz (w : World) (h : w.cell? ⟨3, 15, none⟩ = some (.int .u8 4)) : Calls Tryz.prog 81 #[.int .u64 16] w fun e w' => e = .returned (.int .i64 4) ∧ w' = w := by
  have H : Hid (w.cell? ⟨3, 15, none⟩ = some (.int .u8 4)) := h
  clear h
  go_enter Tryz.func81, Tryz.ntmps81
  go_wp2_with fail
  refine (tz64 w H.out).mono ?_
  rintro e w1 ⟨rfl, hw⟩
  rw [hw]
  go_wp2
  go_ret
  exact ⟨rfl, rfl⟩

end Ck
end Go.Proofs.YtifhbjkgdnemjaaGreatDoor

/-
  strconv.FormatInt at base 16.
-/
set_option linter.unusedVariables false
set_option linter.unusedSimpArgs false
set_option maxRecDepth 100000
namespace Go.Proofs.YtifhbjkgdnemjaaGreatDoor
open Go.RowKit Go.Shelf
namespace Ck
open Oc Tg _root_.Go.Proofs.YtifhbjkgdnemjaaGreatDoor.Fd

def K36 : ByteArray := ⟨#[48, 49, 50, 51, 52, 53, 54, 55, 56, 57, 97, 98, 99, 100, 101, 102, 103, 104, 105, 106, 107, 108, 109, 110, 111, 112, 113, 114, 115, 116, 117, 118, 119, 120, 121, 122]⟩
theorem dig36_all : ∀ d : Fin 16, K36.data.toList.getD d.val 0 = hexc d.val := by decide +kernel
theorem dig36_at (d : Nat) (h : d < 16) (h' : d < (⟨#[48, 49, 50, 51, 52, 53, 54, 55, 56, 57, 97, 98, 99, 100, 101, 102, 103, 104, 105, 106, 107, 108, 109, 110, 111, 112, 113, 114, 115, 116, 117, 118, 119, 120, 121, 122]⟩ : ByteArray).size) : (⟨#[48, 49, 50, 51, 52, 53, 54, 55, 56, 57, 97, 98, 99, 100, 101, 102, 103, 104, 105, 106, 107, 108, 109, 110, 111, 112, 113, 114, 115, 116, 117, 118, 119, 120, 121, 122]⟩ : ByteArray)[d] = hexc d := by
  rw [← at_lt _ d h']
  exact dig36_all ⟨d, h⟩
theorem u64_and15 (k : Nat) (h : k < 18446744073709551616) : bits .and .u64 (k : Int) 15 = ((k % 16 : Nat) : Int) := by
  have := u64_and_nat k 15 h (by decide)
  rw [show ((15 : Nat) : Int) = 15 from rfl] at this
  rw [this, show (15 : Nat) = 2 ^ 4 - 1 from rfl, Nat.and_two_pow_sub_one_eq_mod]
/-- What a row of 65 bytes holds at its end. -/
def Tail (f : Nat → Int) (ds : List UInt8) : Prop := ∀ j, j < ds.length → f (65 - ds.length + j) = ((ds.getD j 0).toNat : Int)
theorem Tail.nil (f : Nat → Int) : Tail f [] := fun j hj => by cases hj
theorem Tail.cons {f : Nat → Int} {ds : List UInt8} (h : Tail f ds) (hl : ds.length < 65) (c : UInt8) : Tail (fun j => if j = 64 - ds.length then (c.toNat : Int) else f j) (c :: ds) := by
  intro j hj
  simp only [List.length_cons] at hj ⊢
  cases j with
  | zero =>
    rw [if_pos (by omega)]
    rfl
  | succ j =>
    rw [if_neg (by omega)]
    have := h j (by omega)
    rw [show 65 - (ds.length + 1) + (j + 1) = 65 - ds.length + j from by omega, this]
    rfl
theorem tail_back (w : World) (b : Nat) (f : Nat → Int) (ds : List UInt8) (i n cap : Nat) (r : Row w b 65 f) (ht : Tail f ds) (hl : ds.length ≤ 65) (hi : i = 65 - ds.length) (hn : n = ds.length) :
    (convert 72 9 (.slice (some ⟨b, i, none⟩) n cap)).run Tryz.prog w = .ok (.string (str ds)) w := by
  subst hn
  refine run_convert_bytes_back w 72 9 5 ⟨b, i, none⟩ cap ds Tryz.underlying72 Tryz.underlying5 Tryz.underlying9 (fun j hj => ?_)
  have h1 := r.cell (i + j) (by omega)
  rw [hi, ht j hj, List.getD_eq_getElem?_getD, List.getElem?_eq_getElem hj, ← hi] at h1
  have ea : Addr.add ⟨b, i, none⟩ j = ⟨b, i + j, none⟩ := by unfold Addr.add; split <;> simp_all
  rw [ea]
  exact h1
theorem zero65 : Tryz.zeroCells116 = Array.replicate 65 (Value.int .u8 0) := by kernel_rfl
theorem row65 (w : World) : Row (w.alloc (.cells Tryz.zeroCells116 116)) w.heap.size 65 (fun _ => 0) := by
  have hb := heap_alloc_new w (.cells Tryz.zeroCells116 116)
  refine ⟨fun j hj => ?_, fun j hj => frozen_of_row _ _ _ _ _ hb⟩
  rw [cell_of_row _ _ _ _ _ _ hb, zero65]
  simp [hj]

set_option maxHeartbeats 2000000 in
theorem formatBits_any (n : Nat) (hn : n ≤ 1099511627776) (w : World) (h : w.cell? ⟨3, 15, none⟩ = some (.int .u8 4)) :
    Calls Tryz.prog 59 #[.slice none 0 0, .int .u64 (n : Int), .int .i64 16, .bool false, .bool false] w fun e w' => e = .returned (.tuple #[.slice none 0 0, .string (str (hexd n))]) ∧ Below w.heap.size w w' := by
  have hlen := hexd_len 10 n (Nat.lt_of_le_of_lt hn (by decide))
  have HLn : Hid ((hexd n).length ≤ 11) := hlen
  clear hlen
  have HR : Hid (Row (w.alloc (.cells Tryz.zeroCells116 116)) w.heap.size 65 (fun _ => 0)) := row65 w
  have HB : Hid (Below w.heap.size w (w.alloc (.cells Tryz.zeroCells116 116))) := (Below.refl _ w).alloc (Nat.le_refl _) _
  have HC : Hid ((w.alloc (.cells Tryz.zeroCells116 116)).cell? ⟨3, 15, none⟩ = some (.int .u8 4)) := ((HB.out.cell (World.block_lt_of_cell? w _ h)).trans h : _ = _)
  clear h
  go_enter Tryz.func59, Tryz.ntmps59
  go_wp2_with fail
  refine (isPow16 _).mono ?_
  rintro e w1 ⟨rfl, hw⟩
  rw [hw]
  clear hw
  go_wp2_with fail
  refine (tz _ HC.out).mono ?_
  rintro e w2 ⟨rfl, hw⟩
  rw [hw]
  clear hw
  go_wp2
  go_loopw [1, 13] (fun u i wr => ∃ (k : Nat) (ds : List UInt8) (f : Nat → Int) (q : Nat), k ≤ 1099511627776 ∧ u = .int .u64 k ∧ i = .int .i64 q ∧ q ≤ 65 ∧ 54 ≤ q ∧ Hid (q = 65 - ds.length) ∧ Hid (ds.length ≤ 11) ∧ Hid (hexd n = hexd k ++ ds) ∧ Hid (Row wr w.heap.size 65 f) ∧ Hid (Tail f ds) ∧ Hid (Below w.heap.size w wr)) (fun u _ _ => (intOf u).toNat)
  case atStart => exact ⟨n, [], fun _ => 0, 65, hn, rfl, rfl, by omega, by omega, (rfl : 65 = 65 - _), (by simp : ([] : List UInt8).length ≤ 11), (by simp : hexd n = hexd n ++ []), HR, Tail.nil _, HB⟩
  case round =>
    obtain ⟨k, ds, f, q, hk, rfl, rfl, hq, hq2, HQ, HD, HH, HRw, HTl, HBl⟩ := hrel
    have hand := u64_and15 k (by omega)
    obtain ⟨d, hd⟩ : ∃ d, d = k % 16 := ⟨_, rfl⟩
    obtain ⟨g, hg⟩ : ∃ g, g = k / 16 := ⟨_, rfl⟩
    rw [← hd] at hand
    have hd16 : d < 16 := by omega
    have hquo : (k : Int) / 16 = (g : Int) := by rw [hg]; omega
    have hdl : ds.length + 1 ≤ 11 := by
      have h := congrArg List.length HH.out
      rw [List.length_append] at h
      have := HLn.out
      have := List.length_pos_iff.2 (hexd_ne k)
      omega
    have HDl : Hid (ds.length + 1 ≤ 11) := hdl
    have hq3 : 55 ≤ q := by have := HQ.out; omega
    have hq4 : 0 < q := by omega
    clear hdl
    obtain ⟨p, hp⟩ : ∃ p, q = p + 1 := ⟨q - 1, by omega⟩
    subst hp
    have hp65 : p < 65 := by omega
    have hcell := HRw.out.cell p hp65
    have hfree := HRw.out.free p hp65
    have HP : Hid (p = 64 - ds.length) := (by have := HQ.out; omega : p = 64 - ds.length)
    by_cases hge : 16 ≤ k
    · have hix := dig36_at d hd16
      have HN : Hid (hexd n = hexd g ++ (hexc d :: ds)) := by
        have h := HH.out
        rw [hexd_high (n := k) (by omega), ← hg, ← hd] at h
        show hexd n = hexd g ++ (hexc d :: ds)
        rw [h]
        simp
      have hgk : g < k := by omega
      have hge' : (16 : Int) ≤ (k : Int) := by omega
      have HR2 : Hid (Row (wr.setCell ⟨w.heap.size, p, none⟩ (.int .u8 ((hexc d).toNat : Int))) w.heap.size 65 (fun j => if j = 64 - ds.length then ((hexc d).toNat : Int) else f j)) := HRw.out.set p hp65 _ _ (fun j hj => by rw [HP.out])
      have HT2 : Hid (Tail (fun j => if j = 64 - ds.length then ((hexc d).toNat : Int) else f j) (hexc d :: ds)) := HTl.out.cons (by have := HDl.out; omega) _
      have HB2 : Hid (Below w.heap.size w (wr.setCell ⟨w.heap.size, p, none⟩ (.int .u8 ((hexc d).toNat : Int)))) := HBl.out.setCell (Nat.le_refl _) _
      clear hd hg
      go_wp2
      go_roundw
      case rel => exact ⟨g, hexc d :: ds, _, p, by omega, rfl, by go_num, by omega, by omega, (by simp only [List.length_cons]; have := HP.out; omega : p = 65 - _), HDl, HN, HR2, HT2, HB2⟩
      case measure => simp [intOf]; omega
    · have hkd : d = k := by omega
      have hix := dig36_at d hd16
      have HN : Hid (hexd n = hexc d :: ds) := by
        have h := HH.out
        rw [hexd_low (n := k) (by omega), ← hkd] at h
        exact h
      have hge' : ¬ (16 : Int) ≤ (k : Int) := by omega
      have HR2 : Row (wr.setCell ⟨w.heap.size, p, none⟩ (.int .u8 ((hexc d).toNat : Int))) w.heap.size 65 (fun j => if j = 64 - ds.length then ((hexc d).toNat : Int) else f j) := HRw.out.set p hp65 _ _ (fun j hj => by rw [HP.out])
      have HT2 : Tail (fun j => if j = 64 - ds.length then ((hexc d).toNat : Int) else f j) (hexc d :: ds) := HTl.out.cons (by have := HDl.out; omega) _
      have HB2 : Hid (Below w.heap.size w (wr.setCell ⟨w.heap.size, p, none⟩ (.int .u8 ((hexc d).toNat : Int)))) := HBl.out.setCell (Nat.le_refl _) _
      have hcv : ∀ cap, (convert 72 9 (.slice (some ⟨w.heap.size, p, none⟩) (65 - p) cap)).run Tryz.prog (wr.setCell ⟨w.heap.size, p, none⟩ (.int .u8 ((hexc d).toNat : Int))) = .ok (.string (str (hexc d :: ds))) (wr.setCell ⟨w.heap.size, p, none⟩ (.int .u8 ((hexc d).toNat : Int))) := fun cap => tail_back _ _ _ _ p (65 - p) cap HR2 HT2 (by have := HDl.out; simp only [List.length_cons]; omega) (by simp only [List.length_cons]; have := HP.out; omega) (by simp only [List.length_cons]; have := HP.out; have := HDl.out; omega)
      clear hd hg HR2 HT2
      rw [← hkd]
      clear hand hquo
      rw [← hkd] at hge'
      clear hge hk HH hkd
      have hp65' : (p : Int) ≤ 65 := by omega
      have hal : Tryz.prog.arrayLen 116 = 65 := by kernel_rfl
      have hsl : ∀ W : World, (Instr.sliceAt 116 (.pointer (some ⟨w.heap.size, 0, none⟩)) (some (.int .i64 (p : Int))) none none).run Tryz.prog W = .ok (.slice (some ⟨w.heap.size, p, none⟩) (65 - p) (65 - p)) W := fun W => by
        have hu : Tryz.prog.underlying 116 = some (.array (Tryz.prog.arrayLen 116) (Tryz.prog.elem 116)) := by kernel_rfl
        have hsz : (sizeOf (Tryz.prog.elem 116)).run Tryz.prog W = .ok 1 W := by kernel_rfl
        rw [run_sliceAt_array_l (P := Tryz.prog) W _ _ hu .i64 (p : Int) (by omega) (by rw [hal]; omega), hsz]
        simp only [Result.andThen, slicedAt, hal, Int.toNat_natCast]
        rw [if_neg (by omega)]
        unfold Addr.add
        simp
        omega
      go_wp2
      go_ret2
      rw [HN.out]
      exact ⟨rfl, HB2.out⟩

set_option maxHeartbeats 2000000 in
theorem FormatIntI_any (n : Nat) (hn : n ≤ 1099511627776) (w : World) (h : w.cell? ⟨3, 15, none⟩ = some (.int .u8 4)) :
    Calls Tryz.prog 41 #[.int .i64 (n : Int), .int .i64 16] w fun e w' => e = .returned (.string (str (hexd n))) ∧ Below w.heap.size w w' := by
  have H := formatBits_any n hn w h
  have HF : Hid (Calls Tryz.prog 59 #[.slice none 0 0, .int .u64 (n : Int), .int .i64 16, .bool false, .bool false] w fun e w' => e = .returned (.tuple #[.slice none 0 0, .string (str (hexd n))]) ∧ Below w.heap.size w w') := H
  clear H h
  have hlt : ¬ ((n : Int) < 0) := by omega
  have hwr : IntKind.u64.wrap (n : Int) = (n : Int) := by rw [IntKind.wrap_u64]; omega
  go_enter Tryz.func41, Tryz.ntmps41
  go_wp2_with fail
  refine HF.out.mono ?_
  rintro e w1 ⟨rfl, hb⟩
  have HB : Hid (Below w.heap.size w w1) := hb
  clear hb
  go_wp2
  go_ret
  exact ⟨rfl, HB.out⟩
set_option maxHeartbeats 2000000 in
theorem FormatInt_any (n : Nat) (hn : n ≤ 1099511627776) (w : World) (h : w.cell? ⟨3, 15, none⟩ = some (.int .u8 4)) :
    Calls Tryz.prog 26 #[.int .i64 (n : Int), .int .i64 16] w fun e w' => e = .returned (.string (str (hexd n))) ∧ Below w.heap.size w w' := by
  have H := FormatIntI_any n hn w h
  have HF : Hid (Calls Tryz.prog 41 #[.int .i64 (n : Int), .int .i64 16] w fun e w' => e = .returned (.string (str (hexd n))) ∧ Below w.heap.size w w') := H
  clear H h
  go_enter Tryz.func26, Tryz.ntmps26
  go_wp2_with fail
  refine HF.out.mono ?_
  rintro e w1 ⟨rfl, hb⟩
  have HB : Hid (Below w.heap.size w w1) := hb
  clear hb
  go_wp2
  go_ret
  exact ⟨rfl, HB.out⟩

end Ck
end Go.Proofs.YtifhbjkgdnemjaaGreatDoor
