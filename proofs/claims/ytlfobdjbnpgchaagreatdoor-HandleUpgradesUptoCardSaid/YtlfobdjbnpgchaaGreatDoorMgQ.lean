/- Several texts as one. -/
import Derived.WalkKit
import Derived.Test.YtlfobdjbnpgchaaGreatDoorProg
import Derived.Below
import Derived.WalkSpells
import Derived.WalkLawsBesides
import Derived.Deep.Draws
import Derived.Laws.OwnMore
import Derived.Laws.AppendOwnNone
import Derived.Deep.RegionLaw
import Derived.Laws.CopyOwn
import Derived.Deep.DeepMust
import Derived.Lib.ConvBytes
import Derived.Laws.IdiomStrings
import Derived.Laws.StandIn
/-
  Plain mathematics for package base: base 64 and hexadecimal digits over lists of bytes. Nothing of the program.
-/
set_option linter.unusedVariables false
set_option linter.unusedSimpArgs false
namespace Go.Proofs.YtlfobdjbnpgchaaGreatDoor
namespace Bs

def sgs : List UInt8 := [65, 66, 67, 68, 69, 70, 71, 72, 73, 74, 75, 76, 77, 78, 79, 80, 81, 82, 83, 84, 85, 86, 87, 88, 89, 90, 97, 98, 99, 100, 101, 102, 103, 104, 105, 106, 107, 108, 109, 110, 111, 112, 113, 114, 115, 116, 117, 118, 119, 120, 121, 122, 48, 49, 50, 51, 52, 53, 54, 55, 56, 57, 43, 47]
def sgn (n : Nat) : UInt8 := sgs.getD n 0
/-- A sign's number; -1 of a byte that is none. -/
def num (c : UInt8) : Int :=
  if 65 ≤ c.toNat ∧ c.toNat ≤ 90 then (c.toNat : Int) - 65 else if 97 ≤ c.toNat ∧ c.toNat ≤ 122 then (c.toNat : Int) - 71
  else if 48 ≤ c.toNat ∧ c.toNat ≤ 57 then (c.toNat : Int) + 4 else if c.toNat = 43 then 62 else if c.toNat = 47 then 63 else -1

theorem all_bytes {p : UInt8 → Prop} (h : ∀ n : Fin 256, p (UInt8.ofNat n.val)) (c : UInt8) : p c := by
  have := h ⟨c.toNat, c.toNat_lt⟩
  simpa using this
theorem num_sgn (n : Nat) (h : n < 64) : num (sgn n) = n := by
  have : ∀ k : Fin 64, num (sgn k.val) = (k.val : Int) := by decide +kernel
  exact this ⟨n, h⟩
theorem sgn_ne (n : Nat) (h : n < 64) : sgn n ≠ 61 := by
  have : ∀ k : Fin 64, sgn k.val ≠ 61 := by decide +kernel
  exact this ⟨n, h⟩
theorem sgn_num (c : UInt8) : 0 ≤ num c → sgn (num c).toNat = c := by
  revert c
  apply all_bytes
  decide +kernel
theorem num_bd (c : UInt8) : -1 ≤ num c ∧ num c ≤ 63 := by
  revert c
  apply all_bytes
  decide +kernel
theorem num_eq : num 61 = -1 := by decide
theorem num_ne {c : UInt8} (h : 0 ≤ num c) : c ≠ 61 := by
  intro e
  subst e
  rw [num_eq] at h
  omega
/-- The number as a natural one. -/
def nu (c : UInt8) : Nat := (num c).toNat
theorem nu_int {c : UInt8} (h : 0 ≤ num c) : (nu c : Int) = num c := by unfold nu; omega
theorem nu_lt (c : UInt8) : nu c < 64 := by have := num_bd c; unfold nu; omega
theorem sgn_nu {c : UInt8} (h : 0 ≤ num c) : sgn (nu c) = c := sgn_num c h
theorem nu_sgn (n : Nat) (h : n < 64) : nu (sgn n) = n := by unfold nu; rw [num_sgn n h]; omega
theorem num_sgn_nn (n : Nat) (h : n < 64) : ¬ num (sgn n) < 0 := by rw [num_sgn n h]; omega

theorem u8_eq {a b : UInt8} (h : a.toNat = b.toNat) : a = b := UInt8.toNat_inj.1 h
theorem ofNat_lt {n : Nat} (h : n < 256) : (UInt8.ofNat n).toNat = n := by rw [UInt8.toNat_ofNat']; omega

def enc : List UInt8 → List UInt8
  | [] => []
  | [a] => [sgn (a.toNat / 4), sgn (a.toNat % 4 * 16), 61, 61]
  | [a, b] => [sgn (a.toNat / 4), sgn (a.toNat % 4 * 16 + b.toNat / 16), sgn (b.toNat % 16 * 4), 61]
  | a :: b :: c :: r => sgn (a.toNat / 4) :: sgn (a.toNat % 4 * 16 + b.toNat / 16) :: sgn (b.toNat % 16 * 4 + c.toNat / 64) :: sgn (c.toNat % 64) :: enc r

def y0 (a b : UInt8) : UInt8 := UInt8.ofNat (nu a * 4 + nu b / 16)
def y1 (b c : UInt8) : UInt8 := UInt8.ofNat (nu b % 16 * 16 + nu c / 4)
def y2 (c d : UInt8) : UInt8 := UInt8.ofNat (nu c % 4 * 64 + nu d)

/-- The bytes of a text of base 64, or the place with which it goes wrong. -/
def dec : List UInt8 → Except Nat (List UInt8)
  | [] => .ok []
  | [a] => .error (if num a < 0 then 0 else 1)
  | [a, b] => .error (if num a < 0 then 0 else if num b < 0 then 1 else 2)
  | [a, b, c] => .error (if num a < 0 then 0 else if num b < 0 then 1 else if c = 61 then (if num b % 16 = 0 then 3 else 2) else if num c < 0 then 2 else 3)
  | a :: b :: c :: d :: r =>
    if num a < 0 then .error 0 else if num b < 0 then .error 1
    else if c = 61 then (if num b % 16 = 0 then (if d = 61 then (if r = [] then .ok [y0 a b] else .error 4) else .error 3) else .error 2)
    else if num c < 0 then .error 2
    else if d = 61 then (if num c % 4 = 0 then (if r = [] then .ok [y0 a b, y1 b c] else .error 4) else .error 3)
    else if num d < 0 then .error 3
    else match dec r with
      | .ok x => .ok (y0 a b :: y1 b c :: y2 c d :: x)
      | .error k => .error (k + 4)

theorem dec_enc : ∀ l : List UInt8, dec (enc l) = .ok l
  | [] => rfl
  | [a] => by
    have ha := a.toNat_lt
    have h1 := nu_sgn (a.toNat / 4) (by omega)
    have h2 := nu_sgn (a.toNat % 4 * 16) (by omega)
    have e : y0 (sgn (a.toNat / 4)) (sgn (a.toNat % 4 * 16)) = a := u8_eq (by unfold y0; rw [h1, h2, ofNat_lt (by omega)]; omega)
    unfold enc dec
    rw [if_neg (num_sgn_nn _ (by omega)), if_neg (num_sgn_nn _ (by omega)), if_pos rfl, if_pos (by rw [num_sgn _ (by omega)]; omega), if_pos rfl, if_pos rfl, e]
  | [a, b] => by
    have ha := a.toNat_lt
    have hb := b.toNat_lt
    have h1 := nu_sgn (a.toNat / 4) (by omega)
    have h2 := nu_sgn (a.toNat % 4 * 16 + b.toNat / 16) (by omega)
    have h3 := nu_sgn (b.toNat % 16 * 4) (by omega)
    have e : y0 (sgn (a.toNat / 4)) (sgn (a.toNat % 4 * 16 + b.toNat / 16)) = a := u8_eq (by unfold y0; rw [h1, h2, ofNat_lt (by omega)]; omega)
    have e' : y1 (sgn (a.toNat % 4 * 16 + b.toNat / 16)) (sgn (b.toNat % 16 * 4)) = b := u8_eq (by unfold y1; rw [h2, h3, ofNat_lt (by omega)]; omega)
    unfold enc dec
    rw [if_neg (num_sgn_nn _ (by omega)), if_neg (num_sgn_nn _ (by omega)), if_neg (sgn_ne _ (by omega)), if_neg (num_sgn_nn _ (by omega)), if_pos rfl, if_pos (by rw [num_sgn _ (by omega)]; omega), if_pos rfl, e, e']
  | a :: b :: c :: r => by
    have ha := a.toNat_lt
    have hb := b.toNat_lt
    have hc := c.toNat_lt
    have h1 := nu_sgn (a.toNat / 4) (by omega)
    have h2 := nu_sgn (a.toNat % 4 * 16 + b.toNat / 16) (by omega)
    have h3 := nu_sgn (b.toNat % 16 * 4 + c.toNat / 64) (by omega)
    have h4 := nu_sgn (c.toNat % 64) (by omega)
    have e : y0 (sgn (a.toNat / 4)) (sgn (a.toNat % 4 * 16 + b.toNat / 16)) = a := u8_eq (by unfold y0; rw [h1, h2, ofNat_lt (by omega)]; omega)
    have e' : y1 (sgn (a.toNat % 4 * 16 + b.toNat / 16)) (sgn (b.toNat % 16 * 4 + c.toNat / 64)) = b := u8_eq (by unfold y1; rw [h2, h3, ofNat_lt (by omega)]; omega)
    have e'' : y2 (sgn (b.toNat % 16 * 4 + c.toNat / 64)) (sgn (c.toNat % 64)) = c := u8_eq (by unfold y2; rw [h3, h4, ofNat_lt (by omega)]; omega)
    unfold enc dec
    rw [if_neg (num_sgn_nn _ (by omega)), if_neg (num_sgn_nn _ (by omega)), if_neg (sgn_ne _ (by omega)), if_neg (num_sgn_nn _ (by omega)), if_neg (sgn_ne _ (by omega)), if_neg (num_sgn_nn _ (by omega)), dec_enc r, e, e', e'']

theorem enc_dec : ∀ (l x : List UInt8), dec l = .ok x → enc x = l
  | [], x, h => by unfold dec at h; cases h; rfl
  | [a], x, h => by unfold dec at h; cases h
  | [a, b], x, h => by unfold dec at h; cases h
  | [a, b, c], x, h => by unfold dec at h; cases h
  | a :: b :: c :: d :: r, x, h => by
    unfold dec at h
    have la := nu_lt a
    have lb := nu_lt b
    have lc := nu_lt c
    have ld := nu_lt d
    split at h
    · cases h
    rename_i na
    split at h
    · cases h
    rename_i nb
    have ea := sgn_nu (show 0 ≤ num a by omega)
    have eb := sgn_nu (show 0 ≤ num b by omega)
    have ib := nu_int (show 0 ≤ num b by omega)
    split at h
    · rename_i hc
      split at h
      · rename_i hm
        split at h
        · rename_i hd
          split at h
          · rename_i hr
            cases h
            subst hc hd hr
            unfold enc y0
            rw [ofNat_lt (by omega), show (nu a * 4 + nu b / 16) / 4 = nu a by omega, show (nu a * 4 + nu b / 16) % 4 * 16 = nu b by omega, ea, eb]
          · cases h
        · cases h
      · cases h
    · split at h
      · cases h
      rename_i hc nc
      have ec := sgn_nu (show 0 ≤ num c by omega)
      have ic := nu_int (show 0 ≤ num c by omega)
      split at h
      · rename_i hd
        split at h
        · rename_i hm
          split at h
          · rename_i hr
            cases h
            subst hd hr
            unfold enc y0 y1
            rw [ofNat_lt (by omega), ofNat_lt (by omega), show (nu a * 4 + nu b / 16) / 4 = nu a by omega, show (nu a * 4 + nu b / 16) % 4 * 16 + (nu b % 16 * 16 + nu c / 4) / 16 = nu b by omega, show (nu b % 16 * 16 + nu c / 4) % 16 * 4 = nu c by omega, ea, eb, ec]
          · cases h
        · cases h
      · split at h
        · cases h
        rename_i hd nd
        have ed := sgn_nu (show 0 ≤ num d by omega)
        split at h
        · rename_i x' hx
          cases h
          have ih := enc_dec r x' hx
          unfold enc y0 y1 y2
          rw [ofNat_lt (by omega), ofNat_lt (by omega), ofNat_lt (by omega), show (nu a * 4 + nu b / 16) / 4 = nu a by omega, show (nu a * 4 + nu b / 16) % 4 * 16 + (nu b % 16 * 16 + nu c / 4) / 16 = nu b by omega,
            show (nu b % 16 * 16 + nu c / 4) % 16 * 4 + (nu c % 4 * 64 + nu d) / 64 = nu c by omega, show (nu c % 4 * 64 + nu d) % 64 = nu d by omega, ea, eb, ec, ed, ih]
        · cases h

/- Hexadecimal digits. -/
def hxs : List UInt8 := [48, 49, 50, 51, 52, 53, 54, 55, 56, 57, 97, 98, 99, 100, 101, 102]
def hx (n : Nat) : UInt8 := hxs.getD n 0
def hv (c : UInt8) : Int := if 48 ≤ c.toNat ∧ c.toNat ≤ 57 then (c.toNat : Int) - 48 else if 97 ≤ c.toNat ∧ c.toNat ≤ 102 then (c.toNat : Int) - 87 else -1
theorem hv_hx (n : Nat) (h : n < 16) : hv (hx n) = n := by
  have : ∀ k : Fin 16, hv (hx k.val) = (k.val : Int) := by decide +kernel
  exact this ⟨n, h⟩
theorem hx_hv (c : UInt8) : 0 ≤ hv c → hx (hv c).toNat = c := by
  revert c
  apply all_bytes
  decide +kernel
theorem hv_bd (c : UInt8) : -1 ≤ hv c ∧ hv c ≤ 15 := by
  revert c
  apply all_bytes
  decide +kernel
def hexL : List UInt8 → List UInt8
  | [] => []
  | a :: r => hx (a.toNat / 16) :: hx (a.toNat % 16) :: hexL r
theorem hexL_length : ∀ l : List UInt8, (hexL l).length = 2 * l.length
  | [] => rfl
  | a :: r => by unfold hexL; simp only [List.length_cons]; rw [hexL_length r]; omega
def prs : List UInt8 → List UInt8
  | a :: b :: r => UInt8.ofNat ((hv a).toNat * 16 + (hv b).toNat) :: prs r
  | _ => []
theorem prs_hexL : ∀ l : List UInt8, prs (hexL l) = l
  | [] => rfl
  | a :: r => by
    have ha := a.toNat_lt
    unfold hexL prs
    rw [hv_hx _ (by omega), hv_hx _ (by omega), prs_hexL r]
    congr 1
    apply u8_eq
    rw [ofNat_lt (by omega)]
    omega
theorem hexL_dig : ∀ l : List UInt8, ∀ c ∈ hexL l, 0 ≤ hv c
  | [], c, h => by cases h
  | a :: r, c, h => by
    have ha := a.toNat_lt
    unfold hexL at h
    rcases List.mem_cons.1 h with rfl | h
    · rw [hv_hx _ (by omega)]; omega
    rcases List.mem_cons.1 h with rfl | h
    · rw [hv_hx _ (by omega)]; omega
    exact hexL_dig r c h
theorem hexL_prs : ∀ l : List UInt8, (∀ c ∈ l, 0 ≤ hv c) → l.length % 2 = 0 → hexL (prs l) = l
  | [], _, _ => rfl
  | [a], _, h => by simp at h
  | a :: b :: r, hd, hl => by
    have ba := hv_bd a
    have bb := hv_bd b
    have da := hd a (by simp)
    have db := hd b (by simp)
    have ea := hx_hv a da
    have eb := hx_hv b db
    unfold prs hexL
    rw [ofNat_lt (by omega), show ((hv a).toNat * 16 + (hv b).toNat) / 16 = (hv a).toNat by omega, show ((hv a).toNat * 16 + (hv b).toNat) % 16 = (hv b).toNat by omega, ea, eb,
      hexL_prs r (fun c hc => hd c (by simp [hc])) (by simp only [List.length_cons] at hl; omega)]
def hbad (l : List UInt8) : Nat := (l.takeWhile fun c => decide (0 ≤ hv c)).length
/-- What Unhex answers. -/
def unhexR (l : List UInt8) : List UInt8 × Int × Int :=
  if hbad l < l.length then ([], hbad l, 31) else if l.length % 2 = 0 then (prs l, 0, 0) else ([], l.length, 31)
theorem tw_stop {α : Type} (p : α → Bool) (d : α) : ∀ (l : List α) (k : Nat), k < l.length → (∀ j, j < k → p (l.getD j d) = true) → p (l.getD k d) = false → (l.takeWhile p).length = k
  | [], k, h, _, _ => by simp at h
  | a :: l, 0, _, _, hs => by simp at hs; simp [List.takeWhile_cons, hs]
  | a :: l, k + 1, h, ha, hs => by
    have h0 := ha 0 (by omega)
    simp at h0
    rw [List.takeWhile_cons, h0]
    simp only [if_true, List.length_cons, Nat.add_right_cancel_iff]
    exact tw_stop p d l k (by simpa using h) (fun j hj => by simpa using ha (j + 1) (by omega)) (by simpa using hs)
theorem tw_all {α : Type} (p : α → Bool) (d : α) : ∀ (l : List α), (∀ j, j < l.length → p (l.getD j d) = true) → (l.takeWhile p).length = l.length
  | [], _ => rfl
  | a :: l, ha => by
    have h0 := ha 0 (by simp)
    simp at h0
    rw [List.takeWhile_cons, h0]
    simp only [if_true, List.length_cons, Nat.add_right_cancel_iff]
    exact tw_all p d l (fun j hj => by simpa using ha (j + 1) (by simpa using hj))
theorem unhexR_bad (l : List UInt8) (k : Nat) (hk : k < l.length) (h : ∀ j, j < k → 0 ≤ hv (l.getD j 0)) (hs : hv (l.getD k 0) < 0) : unhexR l = ([], (k : Int), 31) := by
  have : hbad l = k := tw_stop _ 0 l k hk (fun j hj => decide_eq_true (h j hj)) (decide_eq_false (by omega))
  unfold unhexR
  rw [this, if_pos hk]
theorem hbad_all (l : List UInt8) (h : ∀ j, j < l.length → 0 ≤ hv (l.getD j 0)) : hbad l = l.length := tw_all _ 0 l (fun j hj => decide_eq_true (h j hj))
theorem unhexR_odd (l : List UInt8) (h : ∀ j, j < l.length → 0 ≤ hv (l.getD j 0)) (ho : l.length % 2 = 1) : unhexR l = ([], (l.length : Int), 31) := by
  unfold unhexR
  rw [hbad_all l h, if_neg (by omega), if_neg (by omega)]
theorem unhexR_ok (l : List UInt8) (h : ∀ j, j < l.length → 0 ≤ hv (l.getD j 0)) (ho : l.length % 2 = 0) : unhexR l = (prs l, 0, 0) := by
  unfold unhexR
  rw [hbad_all l h, if_neg (by omega), if_pos ho]
theorem mem_getD {l : List UInt8} {P : UInt8 → Prop} (h : ∀ c ∈ l, P c) (j : Nat) (hj : j < l.length) : P (l.getD j 0) := by
  rw [List.getD_eq_getElem?_getD, List.getElem?_eq_getElem hj]
  exact h _ (List.getElem_mem _)
theorem unhexR_back (l : List UInt8) : unhexR (hexL l) = (l, 0, 0) := by
  rw [unhexR_ok _ (fun j hj => mem_getD (P := fun c => 0 ≤ hv c) (hexL_dig l) j hj) (by rw [hexL_length]; omega), prs_hexL]
theorem tw_full {α : Type} (p : α → Bool) (l : List α) (h : ¬ (l.takeWhile p).length < l.length) : ∀ c ∈ l, p c = true := by
  have e : l.takeWhile p = l := (List.takeWhile_prefix (l := l) p).eq_of_length (by have := (List.takeWhile_prefix (l := l) p).length_le; omega)
  have e3 : (l.takeWhile p).all p = true := List.all_takeWhile
  rw [e] at e3
  exact List.all_eq_true.1 e3
theorem unhexR_once (l x : List UInt8) (i : Int) (h : unhexR l = (x, i, 0)) : hexL x = l := by
  unfold unhexR at h
  split at h
  · simp at h
  · rename_i h1
    split at h
    · rename_i h2
      obtain ⟨rfl, _⟩ := Prod.mk.inj h
      exact hexL_prs l (fun c hc => of_decide_eq_true (tw_full _ l h1 c hc)) h2
    · simp at h

end Bs
end Go.Proofs.YtlfobdjbnpgchaaGreatDoor

/-
  Plain mathematics for package base: which byte may stand where; how a text goes wrong.
-/
set_option linter.unusedVariables false
set_option linter.unusedSimpArgs false
namespace Go.Proofs.YtlfobdjbnpgchaaGreatDoor
namespace Bs

/-- Whether the byte at i may stand behind those ahead of it. -/
def fitB (l : List UInt8) (i : Nat) : Bool :=
  if 0 < i ∧ l.getD (i - 1) 0 = 61 then decide (l.getD i 0 = 61) && decide (i % 4 = 3)
  else if l.getD i 0 ≠ 61 then decide (0 ≤ num (l.getD i 0))
  else if i % 4 = 2 then decide (num (l.getD (i - 1) 0) % 16 = 0)
  else if i % 4 = 3 then decide (num (l.getD (i - 1) 0) % 4 = 0)
  else false
theorem num61 : num 61 = -1 := by decide
theorem num65 : num 65 = 0 := by decide
theorem fit0 (a : UInt8) (r : List UInt8) : fitB (a :: r) 0 = decide (0 ≤ num a) := by
  unfold fitB
  by_cases h : a = 61
  · simp [h, num61]
  · simp [h]
theorem fit1 (a b : UInt8) (r : List UInt8) : fitB (a :: b :: r) 1 = (decide (a ≠ 61) && decide (0 ≤ num b)) := by
  unfold fitB
  by_cases ha : a = 61
  · simp [ha]
  · by_cases hb : b = 61
    · simp [ha, hb, num61]
    · simp [ha, hb]
theorem fit2 (a b c : UInt8) (r : List UInt8) : fitB (a :: b :: c :: r) 2 = (decide (b ≠ 61) && (if c = 61 then decide (num b % 16 = 0) else decide (0 ≤ num c))) := by
  unfold fitB
  by_cases hb : b = 61
  · simp [hb]
  · by_cases hc : c = 61
    · simp [hb, hc]
    · simp [hb, hc]
theorem fit3 (a b c d : UInt8) (r : List UInt8) : fitB (a :: b :: c :: d :: r) 3 = (if c = 61 then decide (d = 61) else if d = 61 then decide (num c % 4 = 0) else decide (0 ≤ num d)) := by
  unfold fitB
  by_cases hc : c = 61
  · simp [hc]
  · by_cases hd : d = 61
    · simp [hc, hd]
    · simp [hc, hd]
theorem fit4 (a b c d : UInt8) (r : List UInt8) (i : Nat) (h : 0 < i ∨ d ≠ 61) : fitB (a :: b :: c :: d :: r) (i + 4) = fitB r i := by
  unfold fitB
  cases i with
  | zero =>
    rcases h with h | h
    · omega
    · simp [h]
  | succ i =>
    rw [show i + 1 + 4 - 1 = i + 4 by omega, show (i + 1 + 4) % 4 = (i + 1) % 4 by omega, show i + 1 - 1 = i by omega]
    simp
theorem fit4_no (a b c d : UInt8) (r : List UInt8) (h : d = 61) : fitB (a :: b :: c :: d :: r) 4 = false := by
  unfold fitB
  simp [h]

/-- The bytes of a group of four signs that fit. -/
def g4 (a b c d : UInt8) : List UInt8 := if c = 61 then [y0 a b] else if d = 61 then [y0 a b, y1 b c] else [y0 a b, y1 b c, y2 c d]
def grps : List UInt8 → List UInt8
  | a :: b :: c :: d :: r => g4 a b c d ++ grps r
  | _ => []

theorem dec_bad : ∀ (l : List UInt8) (j : Nat), j < 4 → j < l.length → (∀ k, k < j → fitB l k = true) → fitB l j = false → dec l = .error j
  | [], j, _, hl, _, _ => by simp at hl
  | [a], j, hj, hl, h, hb => by
    obtain rfl : j = 0 := by simp at hl; omega
    rw [fit0] at hb
    unfold dec
    rw [if_pos (by simpa using hb)]
  | [a, b], j, hj, hl, h, hb => by
    unfold dec
    rcases (show j = 0 ∨ j = 1 by simp at hl; omega) with rfl | rfl
    · rw [fit0] at hb
      rw [if_pos (by simpa using hb)]
    · have h0 := h 0 (by omega)
      rw [fit0, decide_eq_true_eq] at h0
      have := num_ne h0
      rw [fit1] at hb
      rw [if_neg (by omega), if_pos (by simpa [this] using hb)]
  | [a, b, c], j, hj, hl, h, hb => by
    unfold dec
    rcases (show j = 0 ∨ j = 1 ∨ j = 2 by simp at hl; omega) with rfl | rfl | rfl
    · rw [fit0] at hb
      rw [if_pos (by simpa using hb)]
    · have h0 := h 0 (by omega)
      rw [fit0, decide_eq_true_eq] at h0
      have := num_ne h0
      rw [fit1] at hb
      rw [if_neg (by omega), if_pos (by simpa [this] using hb)]
    · have h0 := h 0 (by omega)
      rw [fit0, decide_eq_true_eq] at h0
      have h1 := h 1 (by omega)
      rw [fit1, Bool.and_eq_true, decide_eq_true_eq, decide_eq_true_eq] at h1
      have := num_ne h1.2
      rw [fit2] at hb
      rw [if_neg (by omega), if_neg (by omega)]
      by_cases hc : c = 61
      · rw [if_pos hc, if_neg (by simpa [this, hc] using hb)]
      · rw [if_neg hc, if_pos (by simpa [this, hc] using hb)]
  | a :: b :: c :: d :: r, j, hj, hl, h, hb => by
    unfold dec
    rcases (show j = 0 ∨ j = 1 ∨ j = 2 ∨ j = 3 by omega) with rfl | rfl | rfl | rfl
    · rw [fit0] at hb
      rw [if_pos (by simpa using hb)]
    · have h0 := h 0 (by omega)
      rw [fit0, decide_eq_true_eq] at h0
      have := num_ne h0
      rw [fit1] at hb
      rw [if_neg (by omega), if_pos (by simpa [this] using hb)]
    · have h0 := h 0 (by omega)
      rw [fit0, decide_eq_true_eq] at h0
      have h1 := h 1 (by omega)
      rw [fit1, Bool.and_eq_true, decide_eq_true_eq, decide_eq_true_eq] at h1
      have := num_ne h1.2
      rw [fit2] at hb
      rw [if_neg (by omega), if_neg (by omega)]
      by_cases hc : c = 61
      · rw [if_pos hc, if_neg (by simpa [this, hc] using hb)]
      · rw [if_neg hc, if_pos (by simpa [this, hc] using hb)]
    · have h0 := h 0 (by omega)
      rw [fit0, decide_eq_true_eq] at h0
      have h1 := h 1 (by omega)
      rw [fit1, Bool.and_eq_true, decide_eq_true_eq, decide_eq_true_eq] at h1
      have := num_ne h1.2
      have h2 := h 2 (by omega)
      rw [fit2] at h2
      rw [fit3] at hb
      rw [if_neg (by omega), if_neg (by omega)]
      by_cases hc : c = 61
      · rw [if_pos hc] at hb
        rw [if_pos hc, if_pos (by simpa [this, hc] using h2), if_neg (by simpa using hb)]
      · rw [if_neg hc] at hb
        have h2' : 0 ≤ num c := by simpa [this, hc] using h2
        rw [if_neg hc, if_neg (by omega)]
        by_cases hd : d = 61
        · rw [if_pos hd] at hb
          rw [if_pos hd, if_neg (by simpa using hb)]
        · rw [if_neg hd] at hb
          rw [if_neg hd, if_pos (by simpa using hb)]

theorem dec_short : ∀ (l : List UInt8), l ≠ [] → l.length < 4 → (∀ k, k < l.length → fitB l k = true) → dec l = .error l.length
  | [], h, _, _ => absurd rfl h
  | [a], _, _, h => by
    have h0 := h 0 (by simp)
    rw [fit0, decide_eq_true_eq] at h0
    unfold dec
    rw [if_neg (by omega)]
    rfl
  | [a, b], _, _, h => by
    have h0 := h 0 (by simp)
    rw [fit0, decide_eq_true_eq] at h0
    have h1 := h 1 (by simp)
    rw [fit1, Bool.and_eq_true, decide_eq_true_eq, decide_eq_true_eq] at h1
    unfold dec
    rw [if_neg (by omega), if_neg (by omega)]
    rfl
  | [a, b, c], _, _, h => by
    have h0 := h 0 (by simp)
    rw [fit0, decide_eq_true_eq] at h0
    have h1 := h 1 (by simp)
    rw [fit1, Bool.and_eq_true, decide_eq_true_eq, decide_eq_true_eq] at h1
    have := num_ne h1.2
    have h2 := h 2 (by simp)
    rw [fit2] at h2
    unfold dec
    rw [if_neg (by omega), if_neg (by omega)]
    by_cases hc : c = 61
    · rw [if_pos hc, if_pos (by simpa [this, hc] using h2)]
      rfl
    · have h2' : 0 ≤ num c := by simpa [this, hc] using h2
      rw [if_neg hc, if_neg (by omega)]
      rfl
  | a :: b :: c :: d :: r, _, hl, _ => by simp at hl; omega

/-- What four that fit say. -/
structure Four (a b c d : UInt8) : Prop where
  na : 0 ≤ num a
  nb : 0 ≤ num b
  hc : (c = 61 ∧ d = 61 ∧ num b % 16 = 0) ∨ (0 ≤ num c ∧ d = 61 ∧ num c % 4 = 0) ∨ (0 ≤ num c ∧ 0 ≤ num d)
theorem four_of {a b c d : UInt8} {r : List UInt8} (h : ∀ k, k < 4 → fitB (a :: b :: c :: d :: r) k = true) : Four a b c d := by
  have h0 := h 0 (by omega)
  rw [fit0, decide_eq_true_eq] at h0
  have h1 := h 1 (by omega)
  rw [fit1, Bool.and_eq_true, decide_eq_true_eq, decide_eq_true_eq] at h1
  have := num_ne h1.2
  have h2 := h 2 (by omega)
  rw [fit2] at h2
  have h3 := h 3 (by omega)
  rw [fit3] at h3
  refine ⟨h0, h1.2, ?_⟩
  by_cases hc : c = 61
  · rw [if_pos hc] at h3
    exact .inl ⟨hc, by simpa using h3, by simpa [this, hc] using h2⟩
  · have h2' : 0 ≤ num c := by simpa [this, hc] using h2
    rw [if_neg hc] at h3
    by_cases hd : d = 61
    · rw [if_pos hd] at h3
      exact .inr (.inl ⟨h2', hd, by simpa using h3⟩)
    · rw [if_neg hd] at h3
      exact .inr (.inr ⟨h2', by simpa using h3⟩)

theorem dec_end {a b c d : UInt8} (r : List UInt8) (h : Four a b c d) (hd : d = 61) : dec (a :: b :: c :: d :: r) = if r = [] then .ok (g4 a b c d) else .error 4 := by
  have na := h.na
  have nb := h.nb
  unfold dec g4
  rw [if_neg (by omega), if_neg (by omega)]
  rcases h.hc with ⟨hc, hd', hm⟩ | ⟨hc, hd', hm⟩ | ⟨hc, hd'⟩
  · rw [if_pos hc, if_pos hm, if_pos hd, if_pos hc]
  · have := num_ne hc
    rw [if_neg this, if_neg (by omega), if_pos hd, if_pos hm, if_neg this, if_pos hd]
  · exact absurd hd (num_ne hd')
theorem dec_on {a b c d : UInt8} (r : List UInt8) (h : Four a b c d) (hd : d ≠ 61) : dec (a :: b :: c :: d :: r) = match dec r with
      | .ok x => .ok (g4 a b c d ++ x)
      | .error k => .error (k + 4) := by
  have na := h.na
  have nb := h.nb
  rcases h.hc with ⟨hc, hd', hm⟩ | ⟨hc, hd', hm⟩ | ⟨hc, hd'⟩
  · exact absurd hd' hd
  · exact absurd hd' hd
  · have := num_ne hc
    unfold g4
    conv => lhs; unfold dec
    rw [if_neg (by omega), if_neg (by omega), if_neg this, if_neg (by omega), if_neg hd, if_neg (by omega), if_neg this, if_neg hd]
    rfl

theorem fit_bad : ∀ (l : List UInt8) (i : Nat), i < l.length → (∀ k, k < i → fitB l k = true) → fitB l i = false → dec l = .error i
  | [], i, h, _, _ => by simp at h
  | [a], i, h, h1, h2 => dec_bad _ i (by simp at h; omega) h h1 h2
  | [a, b], i, h, h1, h2 => dec_bad _ i (by simp at h; omega) h h1 h2
  | [a, b, c], i, h, h1, h2 => dec_bad _ i (by simp at h; omega) h h1 h2
  | a :: b :: c :: d :: r, i, h, h1, h2 => by
    by_cases hi : i < 4
    · exact dec_bad _ i hi h h1 h2
    · have F := four_of (r := r) (fun k hk => h1 k (by omega))
      by_cases hd : d = 61
      · by_cases h4 : i = 4
        · subst h4
          rw [dec_end r F hd, if_neg]
          intro e
          subst e
          simp at h
        · have := h1 4 (by omega)
          rw [fit4_no a b c d r hd] at this
          cases this
      · obtain ⟨j, rfl⟩ : ∃ j, i = j + 4 := ⟨i - 4, by omega⟩
        rw [fit4 _ _ _ _ _ _ (.inr hd)] at h2
        rw [dec_on r F hd, fit_bad r j (by simp at h; omega) (fun k hk => by have := h1 (k + 4) (by omega); rwa [fit4 _ _ _ _ _ _ (.inr hd)] at this) h2]

theorem fit_all : ∀ (l : List UInt8), (∀ k, k < l.length → fitB l k = true) → dec l = if l.length % 4 = 0 then .ok (grps l) else .error l.length
  | [], h => rfl
  | [a], h => dec_short _ (by simp) (by simp) h
  | [a, b], h => dec_short _ (by simp) (by simp) h
  | [a, b, c], h => dec_short _ (by simp) (by simp) h
  | a :: b :: c :: d :: r, h => by
    have F := four_of (r := r) (fun k hk => h k (by simp; omega))
    by_cases hd : d = 61
    · have hr : r = [] := by
        cases r with
        | nil => rfl
        | cons e r =>
          have := h 4 (by simp)
          rw [fit4_no a b c d _ hd] at this
          cases this
      subst hr
      rw [dec_end [] F hd, if_pos rfl, if_pos (by simp)]
      unfold grps grps
      rw [List.append_nil]
    · rw [dec_on r F hd, fit_all r (fun k hk => by have := h (k + 4) (by simp; omega); rwa [fit4 _ _ _ _ _ _ (.inr hd)] at this)]
      have e : (a :: b :: c :: d :: r).length = r.length + 4 := by simp
      rw [e]
      by_cases hm : r.length % 4 = 0
      · rw [if_pos hm, if_pos (by omega)]
        conv => rhs; unfold grps
      · rw [if_neg hm, if_neg (by omega)]

/-- What Decode answers. -/
def decR (l : List UInt8) : List UInt8 × Int × Int := match dec l with
  | .ok x => (x, 0, 0)
  | .error k => ([], (k : Int), 30)
theorem decR_ok {l x : List UInt8} (h : dec l = .ok x) : decR l = (x, 0, 0) := by unfold decR; rw [h]
theorem decR_err {l : List UInt8} {k : Nat} (h : dec l = .error k) : decR l = ([], (k : Int), 30) := by unfold decR; rw [h]

theorem dec_le : ∀ (l : List UInt8) (k : Nat), dec l = .error k → k ≤ l.length
  | [], k, h => by unfold dec at h; cases h
  | [a], k, h => by unfold dec at h; injection h with h; subst h; simp; split <;> omega
  | [a, b], k, h => by unfold dec at h; injection h with h; subst h; simp; (repeat' split) <;> omega
  | [a, b, c], k, h => by unfold dec at h; injection h with h; subst h; simp; (repeat' split) <;> omega
  | a :: b :: c :: d :: r, k, h => by
    unfold dec at h
    simp only [List.length_cons]
    by_cases h1 : num a < 0
    · rw [if_pos h1] at h; cases h; omega
    rw [if_neg h1] at h
    by_cases h2 : num b < 0
    · rw [if_pos h2] at h; cases h; omega
    rw [if_neg h2] at h
    by_cases h3 : c = 61
    · rw [if_pos h3] at h
      (repeat' split at h) <;> first | (cases h; omega) | cases h
    rw [if_neg h3] at h
    by_cases h4 : num c < 0
    · rw [if_pos h4] at h; cases h; omega
    rw [if_neg h4] at h
    by_cases h5 : d = 61
    · rw [if_pos h5] at h
      (repeat' split at h) <;> first | (cases h; omega) | cases h
    rw [if_neg h5] at h
    by_cases h6 : num d < 0
    · rw [if_pos h6] at h; cases h; omega
    rw [if_neg h6] at h
    cases hx : dec r with
    | ok x => rw [hx] at h; cases h
    | error k' =>
      rw [hx] at h
      have := dec_le r k' hx
      cases h
      omega

/-- The first fault, told by fits. -/
theorem dec_err_fit (l : List UInt8) (k : Nat) (h : dec l = .error k) : (∀ j, j < k → fitB l j = true) ∧ (k < l.length → fitB l k = false) := by
  have key : ∀ n, n ≤ l.length → (∀ j, j < n → fitB l j = true) ∨ ∃ i, i < n ∧ (∀ j, j < i → fitB l j = true) ∧ fitB l i = false := by
    intro n
    induction n with
    | zero => exact fun _ => .inl (fun j hj => by omega)
    | succ n ih =>
      intro hn
      rcases ih (by omega) with h' | ⟨i, hi, h'⟩
      · cases hf : fitB l n with
        | true => exact .inl (fun j hj => by
            by_cases e : j = n
            · subst e; exact hf
            · exact h' j (by omega))
        | false => exact .inr ⟨n, by omega, h', hf⟩
      · exact .inr ⟨i, by omega, h'⟩
  rcases key l.length (Nat.le_refl _) with h' | ⟨i, hi, h1, h2⟩
  · have := fit_all l h'
    rw [h] at this
    split at this
    · cases this
    · injection this with e
      subst e
      exact ⟨h', fun e => by omega⟩
  · have := fit_bad l i hi h1 h2
    rw [h] at this
    injection this with e
    subst e
    exact ⟨h1, fun _ => h2⟩

theorem fit_take (l e : List UInt8) (n j : Nat) (hj : j < n) (hn : n ≤ l.length) : fitB (l.take n ++ e) j = fitB l j := by
  have g : ∀ i, i < n → (l.take n ++ e).getD i 0 = l.getD i 0 := by
    intro i hi
    rw [List.getD_eq_getElem?_getD, List.getD_eq_getElem?_getD, List.getElem?_append_left (by rw [List.length_take]; omega), List.getElem?_take, if_pos hi]
  unfold fitB
  rw [g j hj, g (j - 1) (by omega)]

/-- Beyond the place it can't be gone on with. -/
theorem begins_bad (l : List UInt8) (k : Nat) (h : dec l = .error k) (hk : k < l.length) (e x : List UInt8) : dec (l.take (k + 1) ++ e) ≠ .ok x := by
  obtain ⟨h1, h2⟩ := dec_err_fit l k h
  have := fit_bad (l.take (k + 1) ++ e) k (by rw [List.length_append, List.length_take]; omega) (fun j hj => by rw [fit_take l e (k + 1) j (by omega) (by omega)]; exact h1 j hj) (by rw [fit_take l e (k + 1) k (by omega) (by omega)]; exact h2 hk)
  rw [this]
  intro e
  cases e

theorem dec_ok_fit (l x : List UInt8) (h : dec l = .ok x) : (∀ j, j < l.length → fitB l j = true) ∧ l.length % 4 = 0 := by
  have key : ∀ n, n ≤ l.length → ∀ j, j < n → fitB l j = true := by
    intro n
    induction n with
    | zero => exact fun _ j hj => by omega
    | succ n ih =>
      intro hn j hj
      have ih' := ih (by omega)
      cases hf : fitB l n with
      | true =>
        by_cases e : j = n
        · subst e; exact hf
        · exact ih' j (by omega)
      | false =>
        have := fit_bad l n (by omega) ih' hf
        rw [h] at this
        cases this
  refine ⟨key l.length (Nat.le_refl _), ?_⟩
  have := fit_all l (key l.length (Nat.le_refl _))
  rw [h] at this
  split at this
  · assumption
  · cases this

def ends : List (List UInt8) := [[], [61], [61, 61], [65], [65, 61], [65, 61, 61], [65, 65], [65, 65, 61], [65, 65, 61, 61], [65, 65, 65], [65, 65, 65, 65]]
def okE : Except Nat (List UInt8) → Bool
  | .ok _ => true
  | .error _ => false
/-- A beginning all of whose bytes fit can be gone on with. -/
theorem begins_good : ∀ (l : List UInt8), (∀ j, j < l.length → fitB l j = true) → ∃ e, e ∈ ends ∧ okE (dec (l ++ e)) = true
  | [], _ => ⟨[], by decide, rfl⟩
  | [a], h => by
    have h0 := h 0 (by simp)
    rw [fit0, decide_eq_true_eq] at h0
    refine ⟨[65, 61, 61], by decide, ?_⟩
    show okE (dec [a, 65, 61, 61]) = true
    unfold dec
    rw [if_neg (by omega), if_neg (by rw [num65]; omega), if_pos rfl, if_pos (by rw [num65]; rfl), if_pos rfl, if_pos rfl]
    rfl
  | [a, b], h => by
    have h0 := h 0 (by simp)
    rw [fit0, decide_eq_true_eq] at h0
    have h1 := h 1 (by simp)
    rw [fit1, Bool.and_eq_true, decide_eq_true_eq, decide_eq_true_eq] at h1
    refine ⟨[65, 65], by decide, ?_⟩
    show okE (dec [a, b, 65, 65]) = true
    unfold dec
    rw [if_neg (by omega), if_neg (by omega), if_neg (by decide), if_neg (by rw [num65]; omega), if_neg (by decide), if_neg (by rw [num65]; omega)]
    rfl
  | [a, b, c], h => by
    have h0 := h 0 (by simp)
    rw [fit0, decide_eq_true_eq] at h0
    have h1 := h 1 (by simp)
    rw [fit1, Bool.and_eq_true, decide_eq_true_eq, decide_eq_true_eq] at h1
    have := num_ne h1.2
    have h2 := h 2 (by simp)
    rw [fit2] at h2
    by_cases hc : c = 61
    · refine ⟨[61], by decide, ?_⟩
      show okE (dec [a, b, c, 61]) = true
      unfold dec
      rw [if_neg (by omega), if_neg (by omega), if_pos hc, if_pos (by simpa [this, hc] using h2), if_pos rfl, if_pos rfl]
      rfl
    · have h2' : 0 ≤ num c := by simpa [this, hc] using h2
      refine ⟨[65], by decide, ?_⟩
      show okE (dec [a, b, c, 65]) = true
      unfold dec
      rw [if_neg (by omega), if_neg (by omega), if_neg hc, if_neg (by omega), if_neg (by decide), if_neg (by rw [num65]; omega)]
      rfl
  | a :: b :: c :: d :: r, h => by
    have F := four_of (r := r) (fun k hk => h k (by simp; omega))
    by_cases hd : d = 61
    · have hr : r = [] := by
        cases r with
        | nil => rfl
        | cons e r =>
          have := h 4 (by simp)
          rw [fit4_no a b c d _ hd] at this
          cases this
      subst hr
      refine ⟨[], by decide, ?_⟩
      rw [List.append_nil, dec_end [] F hd, if_pos rfl]
      rfl
    · obtain ⟨e, he, ho⟩ := begins_good r (fun k hk => by have := h (k + 4) (by simp; omega); rwa [fit4 _ _ _ _ _ _ (.inr hd)] at this)
      refine ⟨e, he, ?_⟩
      show okE (dec (a :: b :: c :: d :: (r ++ e))) = true
      rw [dec_on (r ++ e) F hd]
      cases hx : dec (r ++ e) with
      | ok x => rfl
      | error k => rw [hx] at ho; cases ho
theorem begins_some (l : List UInt8) (k : Nat) (h : dec l = .error k) : (ends.any fun e => okE (dec (l.take k ++ e))) = true := by
  have hk := dec_le l k h
  obtain ⟨h1, _⟩ := dec_err_fit l k h
  obtain ⟨e, he, ho⟩ := begins_good (l.take k) (fun j hj => by
    have hj' : j < k := by rw [List.length_take] at hj; omega
    have := fit_take l [] k j hj' hk
    rw [List.append_nil] at this
    rw [this]
    exact h1 j hj')
  rw [List.any_eq_true]
  exact ⟨e, he, ho⟩

end Bs
end Go.Proofs.YtlfobdjbnpgchaaGreatDoor

/-
  Worlds that are as they were but for some blocks; rows of bytes; appends; texts.
-/
set_option linter.unusedVariables false
set_option linter.unusedSimpArgs false
namespace Go.Proofs.YtlfobdjbnpgchaaGreatDoor
open Go.RowKit
namespace Bs
set_option maxRecDepth 100000

theorem ret_int {k : IntKind} {a b : Int} (h : a = b) : Ending.returned (.int k a) = .returned (.int k b) := by rw [h]
theorem ret_bool {a b : Bool} (h : a = b) : Ending.returned (.bool a) = .returned (.bool b) := by rw [h]
theorem ret_string {a b : ByteArray} (h : a = b) : Ending.returned (.string a) = .returned (.string b) := by rw [h]

def bv (l : List UInt8) : List Value := l.map fun x => Value.int .u8 (x.toNat : Int)
theorem bv_length (l : List UInt8) : (bv l).length = l.length := by unfold bv; simp
theorem bv_get (l : List UInt8) (i : Nat) : (bv l)[i]? = (l[i]?).map fun x => Value.int .u8 (x.toNat : Int) := by unfold bv; simp
theorem bv_append (a b : List UInt8) : bv (a ++ b) = bv a ++ bv b := by unfold bv; simp
theorem bv_one (l : List UInt8) : ∀ v ∈ bv l, v.oneCell' = true := by
  intro v hv
  unfold bv at hv
  obtain ⟨x, _, rfl⟩ := List.mem_map.1 hv
  rfl

/-- Of what was there nothing has turned but the blocks bs. -/
structure But (bs : List Nat) (w w' : World) : Prop where
  os : w'.os = w.os
  tape : w'.tape = w.tape
  output : w'.output = w.output
  size : w.heap.size ≤ w'.heap.size
  block : ∀ k, k < w.heap.size → k ∉ bs → w'.heap[k]? = w.heap[k]?
theorem But.refl (bs : List Nat) (w : World) : But bs w w := ⟨rfl, rfl, rfl, Nat.le_refl _, fun _ _ _ => rfl⟩
theorem But.trans {bs : List Nat} {a b c : World} (h : But bs a b) (k : But bs b c) : But bs a c :=
  ⟨k.os.trans h.os, k.tape.trans h.tape, k.output.trans h.output, Nat.le_trans h.size k.size, fun i hi hn => (k.block i (Nat.lt_of_lt_of_le hi h.size) hn).trans (h.block i hi hn)⟩
theorem But.mono {bs cs : List Nat} {a b : World} (h : But bs a b) (hs : ∀ x, x ∈ bs → x ∈ cs) : But cs a b := ⟨h.os, h.tape, h.output, h.size, fun i hi hn => h.block i hi (fun e => hn (hs i e))⟩
theorem But.nil {cs : List Nat} {a b : World} (h : But [] a b) : But cs a b := h.mono (fun _ e => by cases e)
theorem But.of_below {w w' : World} (h : Below w.heap.size w w') : But [] w w' := ⟨h.os, h.tape, h.output, h.size, fun k hk _ => h.block k hk⟩
theorem But.to_below {w w' : World} (h : But [] w w') : Below w.heap.size w w' := ⟨h.os, h.tape, h.output, h.size, fun k hk => h.block k hk (fun e => by cases e)⟩
theorem But.below {bs : List Nat} {w w' : World} {B : Nat} (h : But bs w w') (hB : B ≤ w.heap.size) (hb : ∀ x, x ∈ bs → B ≤ x) : Below B w w' :=
  ⟨h.os, h.tape, h.output, h.size, fun k hk => h.block k (by omega) (fun e => by have := hb k e; omega)⟩
theorem But.alloc {bs : List Nat} {a w : World} (h : But bs a w) (o : Obj) : But bs a (w.alloc o) := h.trans ⟨rfl, rfl, rfl, by simp, fun k hk _ => Below.heap_alloc _ _ _ hk⟩
theorem But.setCell {bs : List Nat} {a w : World} (h : But bs a w) {p : Addr} (hp : p.block ∈ bs) (u : Value) : But bs a (w.setCell p u) :=
  h.trans ⟨rfl, rfl, rfl, by simp [World.setCell], fun k hk hn => Below.heap_setCell _ _ _ _ (fun e => hn (e ▸ hp))⟩
theorem But.setRow {bs : List Nat} {a w : World} (h : But bs a w) {g : Nat} (hp : g ∈ bs) (cs : Array Value) : But bs a (w.setRow g cs) :=
  h.trans ⟨rfl, rfl, rfl, by simp [World.setRow], fun k hk hn => setRow_other w g k cs (fun e => hn (e ▸ hp))⟩
theorem But.drew {bs : List Nat} {a w : World} (h : But bs a w) : But bs a w.drew := ⟨h.os, h.tape, h.output, h.size, h.block⟩
theorem But.drewN {bs : List Nat} {a w : World} (h : But bs a w) (q : Nat) : But bs a (w.drewN q) := by
  induction q with
  | zero => exact h
  | succ q ih => exact ih.drew
theorem But.grown {bs : List Nat} {a w w' : World} {row : Option Nat} (h : But bs a w) (hg : w.grownBy w' row) (hr : ∀ k, row = some k → k ∈ bs) : But bs a w' :=
  h.trans ⟨hg.os, hg.tape, hg.output, hg.size, fun k hk hn => hg.block k hk (fun e => hn (hr k e.symm))⟩
theorem But.cell {bs : List Nat} {w w' : World} (h : But bs w w') {p : Addr} {v : Value} (hc : w.cell? p = some v) (hn : p.block ∉ bs) : w'.cell? p = some v := by
  rw [World.cell?_of_block (w := w) (h.block p.block (World.block_lt_of_cell? w _ hc) hn)]
  exact hc
theorem But.heap {bs : List Nat} {w w' : World} (h : But bs w w') {b : Nat} {o : Obj} (hc : w.heap[b]? = some o) (hn : b ∉ bs) : w'.heap[b]? = some o := by
  rw [h.block b (Array.getElem?_eq_some_iff.1 hc).1 hn]
  exact hc
theorem But.owns {bs : List Nat} {w w' : World} (h : But bs w w') {B T S n : Nat} {v : Value} {xs : List Value} (ho : w.ownsRow B T S v n xs) (hn : ∀ g, v.ownBlock = some g → g ∉ bs) : w'.ownsRow B T S v n xs := by
  refine ⟨ho.1, ?_⟩
  rcases ho.2 with hz | ⟨g, cap, cur, rfl, hb, hg, rest⟩
  · exact .inl hz
  · exact .inr ⟨g, cap, cur, rfl, hb, h.heap hg (hn g rfl), rest⟩

theorem bel_drewN {B : Nat} {a w : World} (h : Below B a w) (q : Nat) : Below B a (w.drewN q) := by
  induction q with
  | zero => exact h
  | succ q ih => exact ih.drew
theorem bel_trans {a b c : World} (h : Below a.heap.size a b) (k : Below b.heap.size b c) : Below a.heap.size a c := h.trans (k.mono h.size)

/-- The value is a slice of these bytes. -/
def RdB (w : World) (v : Value) (l : List UInt8) : Prop :=
  ∃ a cap, v = .slice a l.length cap ∧ l.length ≤ cap ∧ (a = none → cap = 0) ∧ (l = [] ∨ ∃ g o, a = some ⟨g, o, none⟩ ∧ ∀ j x, l[j]? = some x → w.cell? ⟨g, o + j, none⟩ = some (.int .u8 (x.toNat : Int)))
theorem RdB.nil (w : World) : RdB w (.slice none 0 0) [] := ⟨none, 0, rfl, Nat.le_refl _, fun _ => rfl, .inl rfl⟩
theorem RdB.but {bs : List Nat} {w w' : World} {v : Value} {l : List UInt8} (h : RdB w v l) (b : But bs w w') (hn : ∀ g, v.ownBlock = some g → g ∉ bs) : RdB w' v l := by
  obtain ⟨a, cap, rfl, hc, hz, h⟩ := h
  refine ⟨a, cap, rfl, hc, hz, ?_⟩
  rcases h with h | ⟨g, o, rfl, h⟩
  · exact .inl h
  · exact .inr ⟨g, o, rfl, fun j x hj => b.cell (h j x hj) (hn g rfl)⟩
theorem RdB.below {w w' : World} {v : Value} {l : List UInt8} (h : RdB w v l) (b : Below w.heap.size w w') : RdB w' v l := h.but (But.of_below b) (fun _ _ e => by cases e)
/-- A row of the call's own is read. -/
theorem RdB.own {w : World} {B T : Nat} {v : Value} {l : List UInt8} (h : w.ownsRow B T 1 v l.length (bv l)) : RdB w v l := by
  rcases h.2 with ⟨rfl, hn⟩ | ⟨g, cap, cur, rfl, hb, hg, hc, hm, hs, ht⟩
  · obtain rfl : l = [] := List.eq_nil_of_length_eq_zero hn
    exact RdB.nil w
  · refine ⟨_, cap, rfl, hc, (fun e => by cases e), .inr ⟨g, 0, rfl, fun j x hj => ?_⟩⟩
    have := World.ownsRow.cells h (g := g) rfl j _ (by rw [bv_get, hj]; rfl)
    rw [Addr.add_lit] at this
    exact this
theorem owns_len {w : World} {B T : Nat} {v : Value} {n : Nat} {l : List UInt8} (h : w.ownsRow B T 1 v n (bv l)) : n = l.length := by
  have := h.1
  rw [bv_length] at this
  omega
theorem RdB.ofOwn {w : World} {B T n : Nat} {v : Value} {l : List UInt8} (h : w.ownsRow B T 1 v n (bv l)) : RdB w v l := by
  have hn := owns_len h
  subst hn
  exact RdB.own h
theorem owns_fresh {w : World} {B T S n : Nat} {v : Value} {xs : List Value} (h : w.ownsRow B T S v n xs) : ∀ g, v.ownBlock = some g → B ≤ g := fun g hg => (World.ownsRow.lt h g hg).1

theorem infoB : (Tryz.prog.info? 5).map (fun i => (i.zero, i.size, i.bytes)) = some (some (.int .u8 0), 1, 1) := by kernel_rfl
theorem sizeB : (Tryz.prog.info? 5).map (·.size) = some 1 := by kernel_rfl

theorem wpList_wanted {P : Program} {ops : Array Oper} {rest : List Oper} {o : Oper} {a : Act} {w : World} {Q : Exit → Act → World → Prop} (hw : Region.wanted o (yielded ops a.tmps) = true)
    (h : o.wp P a w (wpList P ops Q rest) Q) : wpList P ops Q (o :: rest) a w := by
  rw [wpList, if_pos hw]
  exact .inl h

/- append of bytes: the run. -/
set_option maxRecDepth 100000 in
theorem run_appB (o : TypeId) (B : Nat) (v y : Value) (t u : List UInt8) (W : World) (hown : W.ownsRow B 5 1 v t.length (bv t)) (hy : RdB W y u) (hlen : t.length + u.length ≤ 140737488355328) (hB : B ≤ W.heap.size) :
    ∃ v' w', (Builtin.append_ #[67, 67] o #[v, y]).run Tryz.prog W = .ok v' w' ∧ w'.ownsRow B 5 1 v' (t ++ u).length (bv (t ++ u)) ∧ W.grownBy w' v.ownBlock := by
  obtain ⟨i0, hi, hz0, hz1, hz2⟩ := info_parts infoB
  have own' : ∀ (ad : Addr) (c : Nat), y = .slice (some ad) u.length c → (∀ j x, u[j]? = some x → W.cell? (ad.add j) = some (.int .u8 (x.toNat : Int))) → ∃ v' w', (Builtin.append_ #[67, 67] o #[v, y]).run Tryz.prog W = .ok v' w' ∧ w'.ownsRow B 5 1 v' (t ++ u).length (bv (t ++ u)) ∧ W.grownBy w' v.ownBlock := by
    intro ad c ey hcell
    obtain ⟨v', w', h1, h2, h3, _⟩ := run_append_own (P := Tryz.prog) (w := W) B 67 o 5 i0 (.int .u8 0) 1 1 Tryz.underlying67 hi hz0 hz1 hz2 rfl (by decide) v t.length (bv t) hown ad u.length c (bv u) (by rw [bv_length]; omega)
      (fun j z hj => by
        rw [bv_get] at hj
        cases hu : u[j]? with
        | none => rw [hu] at hj; cases hj
        | some x => rw [hu] at hj; cases hj; exact hcell j x hu)
      (bv_one u) (by unfold maxLen; omega) (by omega) hB
    rw [ey]
    refine ⟨v', w', h1, ?_, h3⟩
    rw [bv_append, List.length_append]
    exact h2
  obtain ⟨a, cap, ey, hc, hz, hr⟩ := hy
  cases a with
  | none =>
    have hcap := hz rfl
    have hu : u = [] := by
      apply List.eq_nil_of_length_eq_zero
      omega
    subst hu
    subst ey
    subst hcap
    refine ⟨v, W, run_append_owned_none (P := Tryz.prog) (w := W) B 67 o 5 i0 1 Tryz.underlying67 hi v t.length _ hown, by simpa using hown, ⟨rfl, rfl, rfl, Nat.le_refl _, fun _ _ _ => rfl⟩⟩
  | some ad =>
    rcases hr with hr | ⟨g, o', e, hr⟩
    · subst hr
      exact own' ad cap ey (fun j x hj => by simp at hj)
    · injection e with e
      subst e
      exact own' _ cap ey (fun j x hj => by rw [Addr.add_lit]; exact hr j x hj)

theorem wp_appB {ops : Array Oper} {rest : List Oper} {o : Oper} {a : Act} {W : World} {Q : Exit → Act → World → Prop} (hw : Region.wanted o (yielded ops a.tmps) = true) (s x : Operand)
    (ho : o.op = .call { callee := .builtin .append, args := #[s, x], argTypes := #[67, 67] }) (B : Nat) (v y : Value) (t u : List UInt8)
    (hs : a.eval s = v) (hown : W.ownsRow B 5 1 v t.length (bv t)) (hx : a.eval x = y) (hy : RdB W y u) (hlen : t.length + u.length ≤ 140737488355328) (hB : B ≤ W.heap.size)
    (h : ∀ v' w', Hid (w'.ownsRow B 5 1 v' (t ++ u).length (bv (t ++ u))) → Hid (W.grownBy w' v.ownBlock) → wpList Tryz.prog ops Q rest (a.put o.dst v') w') : wpList Tryz.prog ops Q (o :: rest) a W := by
  refine wpList_wanted hw ?_
  obtain ⟨v', w', hrun, h1, h2⟩ := run_appB o.type B v y t u W hown hy hlen hB
  have := h v' w' h1 h2
  unfold Oper.wp
  simp [execOp, ho, resolve, invoke, builtin, hs, hx, hrun, Result.andThen]
  exact this

/-- One step of a region that draws. -/
theorem step_appB {ops : Array Oper} {o : Oper} {a : Act} {W : World} {K : Act → World → Prop} {Q : Exit → Act → World → Prop} {E : Prop} (hgd : o.guard = none) (s x : Operand)
    (ho : o.op = .call { callee := .builtin .append, args := #[s, x], argTypes := #[67, 67] }) (B : Nat) (v y : Value) (t u : List UInt8)
    (hs : a.eval s = v) (hown : W.ownsRow B 5 1 v t.length (bv t)) (hx : a.eval x = y) (hy : RdB W y u) (hlen : t.length + u.length ≤ 140737488355328) (hB : B ≤ W.heap.size)
    (h : ∀ v' w', Hid (w'.ownsRow B 5 1 v' (t ++ u).length (bv (t ++ u))) → Hid (W.grownBy w' v.ownBlock) → K (a.put o.dst v') w') : if Region.wanted o (yielded ops a.tmps) = true then Oper.wp Tryz.prog o a W K Q else E := by
  have hw : Region.wanted o (yielded ops a.tmps) = true := by simp [Region.wanted, hgd]
  rw [if_pos hw]
  obtain ⟨v', w', hrun, h1, h2⟩ := run_appB o.type B v y t u W hown hy hlen hB
  have := h v' w' h1 h2
  unfold Oper.wp
  simp [execOp, ho, resolve, invoke, builtin, hs, hx, hrun, Result.andThen]
  exact this


theorem run_mkB (W : World) (n : Nat) (hn : n ≤ 140737488355328) : (Instr.makeSlice 67 (.int .i64 (n : Int)) (.int .i64 (n : Int))).run Tryz.prog W = .ok (.slice (some ⟨W.heap.size, 0, none⟩) n n) (W.alloc (.cells (bv (List.replicate n 0)).toArray 5 (0, 0))) := by
  obtain ⟨i0, hi, hz0, hz1, hz2⟩ := info_parts infoB
  have hr := run_make (P := Tryz.prog) W 67 5 i0 (.int .u8 0) Tryz.underlying67 hi hz0 .i64 .i64 (n : Int) (n : Int) (by omega) (Int.le_refl _) (by rw [hz2]; omega) (by omega)
  simp only [Int.toNat_natCast, hz1] at hr
  rw [hr]
  congr 3
  apply Array.toList_inj.1
  show (madeCells #[Value.int .u8 0] (n * 1)).toList = _
  rw [toList_madeCells_one, Nat.mul_one]
  unfold bv
  simp

/- Texts. -/
def str (l : List UInt8) : ByteArray := ⟨l.toArray⟩
theorem str_list (l : List UInt8) : (str l).data.toList = l := by simp [str]
theorem str_size (l : List UInt8) : (str l).size = l.length := by simp [str, ByteArray.size]
theorem str_self (s : ByteArray) : str s.data.toList = s := by simp [str]
theorem str_inj {a b : List UInt8} (h : str a = str b) : a = b := by rw [← str_list a, h, str_list]
theorem size_list (s : ByteArray) : s.data.toList.length = s.size := by simp
theorem eq_list {a b : ByteArray} (h : a.data.toList = b.data.toList) : a = b := by rw [← str_self a, h, str_self]
theorem eq_toList (a b : ByteArray) : (a.toList == b.toList) = decide (a = b) := by
  rw [ByteArray.toList_eq, ByteArray.toList_eq, Bool.eq_iff_iff, beq_iff_eq, decide_eq_true_iff]
  exact ⟨eq_list, fun h => by rw [h]⟩
theorem ne_toList (a b : ByteArray) : (a.toList != b.toList) = !decide (a = b) := by
  rw [bne, eq_toList]
theorem at_lt (s : ByteArray) (k : Nat) (h : k < s.size) : s.data.toList.getD k 0 = s[k] := by
  rw [List.getD_eq_getElem?_getD, List.getElem?_eq_getElem (by simpa using h)]
  rfl
/-- The byte at a place, as a number. -/
def byt (s : ByteArray) (j : Nat) : Int := ((s.data.toList.getD j 0).toNat : Int)
theorem byt_bd (s : ByteArray) (j : Nat) : 0 ≤ byt s j ∧ byt s j ≤ 255 := by
  unfold byt
  have := (s.data.toList.getD j 0).toNat_lt
  omega
theorem byt_at (s : ByteArray) (j : Nat) (h : j < s.size) : (s[j].toNat : Int) = byt s j := by unfold byt; rw [at_lt s j h]

/-- 'string(b)' of a slice that is read. -/
theorem back (w : World) (v : Value) (l : List UInt8) (h : RdB w v l) : (convert 67 9 v).run Tryz.prog w = .ok (.string (str l)) w := by
  obtain ⟨a, cap, rfl, hc, hz, hr⟩ := h
  rcases hr with hr | ⟨g, o, rfl, hr⟩
  · subst hr
    cases a with
    | none => rw [run_convert_bytes_string (P := Tryz.prog) w 67 9 5 none _ cap Tryz.underlying67 Tryz.underlying5 Tryz.underlying9]; simp [Conv.bytesToString, Sem.run_pure, str]; rfl
    | some ad =>
      refine run_convert_bytes_back w 67 9 5 ad cap [] Tryz.underlying67 Tryz.underlying5 Tryz.underlying9 (fun j hj => ?_)
      simp at hj
  · refine run_convert_bytes_back w 67 9 5 ⟨g, o, none⟩ cap l Tryz.underlying67 Tryz.underlying5 Tryz.underlying9 (fun j hj => ?_)
    rw [Addr.add_lit]
    exact hr j _ (List.getElem?_eq_getElem hj)

end Bs
end Go.Proofs.YtlfobdjbnpgchaaGreatDoor

/-
  strings.IndexByte, the number of a sign; strings.TrimRight of '='; a slice of bytes of one's own, appended to.
-/
set_option linter.unusedVariables false
set_option linter.unusedSimpArgs false
namespace Go.Proofs.YtlfobdjbnpgchaaGreatDoor
open Go.RowKit
namespace Bs
set_option maxRecDepth 100000

set_option maxHeartbeats 400000 in
theorem sIndexByte_any (s : ByteArray) (c : Int) (w : World) :
    Calls Tryz.prog 279 #[.string s, .int .u8 c] w fun e w' => e = .returned (.int .i64 (firstIdx s c.toNat.toUInt8)) ∧ w' = w := by
  go_enter Tryz.func279, Tryz.ntmps279
  go_wp2
  rw [run_callFunc_indexByte Tryz.func323 (by kernel_rfl) (by kernel_rfl) (by kernel_rfl) (by kernel_rfl), run_indexByte_string]
  simp only [Result.andThen]
  rw [Oper.upon_value]
  go_wp2
  go_ret
  exact ⟨rfl, rfl⟩

set_option maxHeartbeats 400000 in
theorem IndexByte_any (s : ByteArray) (c : Int) (w : World) :
    Calls Tryz.prog 223 #[.string s, .int .u8 c] w fun e w' => e = .returned (.int .i64 (firstIdx s c.toNat.toUInt8)) ∧ w' = w := by
  go_enter Tryz.func223, Tryz.ntmps223
  go_wp2_with fail
  refine (sIndexByte_any s c w).mono ?_
  rintro e w' ⟨rfl, rfl⟩
  go_wp2
  go_ret
  exact ⟨rfl, rfl⟩

theorem idx_signs (c : UInt8) : firstIdx ⟨#[65, 66, 67, 68, 69, 70, 71, 72, 73, 74, 75, 76, 77, 78, 79, 80, 81, 82, 83, 84, 85, 86, 87, 88, 89, 90, 97, 98, 99, 100, 101, 102, 103, 104, 105, 106, 107, 108, 109, 110, 111, 112, 113, 114, 115, 116, 117, 118, 119, 120, 121, 122, 48, 49, 50, 51, 52, 53, 54, 55, 56, 57, 43, 47]⟩ c = num c := by
  revert c
  apply all_bytes
  decide +kernel
theorem idx_digits (c : UInt8) : firstIdx ⟨#[48, 49, 50, 51, 52, 53, 54, 55, 56, 57, 97, 98, 99, 100, 101, 102]⟩ c = hv c := by
  revert c
  apply all_bytes
  decide +kernel
theorem u8_back (c : UInt8) : ((c.toNat : Int)).toNat.toUInt8 = c := by simp

set_option maxHeartbeats 400000 in
theorem number_any (c : UInt8) (w : World) :
    Calls Tryz.prog 275 #[.int .u8 (c.toNat : Int)] w fun e w' => e = .returned (.int .i64 (num c)) ∧ w' = w := by
  go_enter Tryz.func275, Tryz.ntmps275
  go_wp2_with fail
  refine (IndexByte_any _ _ w).mono ?_
  rintro e w' ⟨rfl, rfl⟩
  rw [u8_back, idx_signs]
  go_wp2
  go_ret
  exact ⟨rfl, rfl⟩

theorem str_extract (l : List UInt8) (i j : Nat) : (str l).extract i j = str ((l.take j).drop i) := by
  apply eq_list
  rw [str_list, ByteArray.data_extract]
  simp [str, List.drop_take]

set_option maxHeartbeats 400000 in
theorem trimRightByte_any (l : List UInt8) (n : Nat) (hn : n ≤ l.length) (hl : l.length ≤ 140737488355328) (ht : ∀ j, n ≤ j → j < l.length → l.getD j 0 = 61) (h0 : n = 0 ∨ l.getD (n - 1) 0 ≠ 61) (w : World) :
    Calls Tryz.prog 80 #[.string (str l), .int .u8 61] w fun e w' => e = .returned (.string (str (l.take n))) ∧ w' = w := by
  have hsz : ∀ k, (str (l.take k)).size = min k l.length := fun k => by rw [str_size, List.length_take]
  go_enter Tryz.func80, Tryz.ntmps80
  go_wp2
  go_loop [0] (fun v => ∃ k : Nat, n ≤ k ∧ k ≤ l.length ∧ v = .string (str (l.take k))) (fun v => match v with | .string s => s.size | _ => 0)
  case atStart => exact ⟨l.length, hn, Nat.le_refl _, by rw [List.take_length]⟩
  case round =>
    obtain ⟨k, hk, hk', rfl⟩ := hrel
    have hs := hsz k
    rw [Nat.min_eq_left hk'] at hs
    by_cases h : n < k
    · have e : (((str (l.take k))[k - 1]'(by omega)).toNat : Int) = 61 := by
        have := ht (k - 1) (by omega) (by omega)
        rw [← at_lt, str_list, List.getD_eq_getElem?_getD, List.getElem?_take, if_pos (by omega), ← List.getD_eq_getElem?_getD, this]
        rfl
      have HX : Hid ((str (l.take k)).extract 0 (k - 1) = str (l.take (k - 1))) := (by rw [str_extract, List.take_take, Nat.min_eq_left (by omega)]; rfl : (str (l.take k)).extract 0 (k - 1) = str (l.take (k - 1)))
      have HS : Hid ((str (l.take (k - 1))).size = k - 1) := (by rw [hsz]; omega : (str (l.take (k - 1))).size = k - 1)
      go_wp2
      rw [HX.out]
      exact ⟨⟨k - 1, by omega, by omega, rfl⟩, by show (str (l.take (k - 1))).size < (str (l.take k)).size; rw [HS.out, hs]; omega⟩
    · obtain rfl : k = n := by omega
      rcases h0 with h0 | h0
      · subst h0
        go_wp2
        go_ret
        exact ⟨rfl, rfl⟩
      · by_cases hz : k = 0
        · subst hz
          go_wp2
          go_ret
          exact ⟨rfl, rfl⟩
        · have e : (((str (l.take k))[k - 1]'(by omega)).toNat : Int) ≠ 61 := by
            intro e
            apply h0
            rw [← at_lt, str_list, List.getD_eq_getElem?_getD, List.getElem?_take, if_pos (by omega), ← List.getD_eq_getElem?_getD] at e
            exact u8_eq (by show _ = 61; omega)
          have e' : ((((str (l.take k))[k - 1]'(by omega)).toNat : Int) == 61) = false := by simpa using e
          go_wp2
          go_ret
          exact ⟨rfl, rfl⟩

set_option maxRecDepth 100000 in
set_option maxHeartbeats 400000 in
theorem TrimRight_any (l : List UInt8) (n : Nat) (hn : n ≤ l.length) (h4 : l.length = 4) (ht : ∀ j, n ≤ j → j < l.length → l.getD j 0 = 61) (h0 : n = 0 ∨ l.getD (n - 1) 0 ≠ 61) (w : World) :
    Calls Tryz.prog 276 #[.string (str l), .string ⟨#[61]⟩] w fun e w' => e = .returned (.string (str (l.take n))) ∧ w' = w := by
  have HC := trimRightByte_any l n hn (by omega) ht h0 w
  have HC' : Hid (Calls Tryz.prog 80 #[.string (str l), .int .u8 61] w fun e w' => e = .returned (.string (str (l.take n))) ∧ w' = w) := HC
  clear HC
  have hs : (str l).size = 4 := by rw [str_size, h4]
  have hne : (str l).toList.isEmpty = false := by rw [ByteArray.toList_eq, str_list]; cases l with
    | nil => simp at h4
    | cons a l => rfl
  go_enter Tryz.func276, Tryz.ntmps276
  go_wp2_with fail
  refine HC'.out.mono ?_
  rintro e w' ⟨rfl, rfl⟩
  go_wp2
  go_ret
  exact ⟨rfl, rfl⟩

/-- A slice of bytes of the call's own. -/
def Own (B : Nat) (v : Value) (l : List UInt8) (w : World) : Prop := w.ownsRow B 5 1 v l.length (bv l)
theorem Own.alloc {B : Nat} {v : Value} {l : List UInt8} {w : World} (h : Own B v l w) (o : Obj) : Own B v l (w.alloc o) := World.ownsRow.alloc h o
theorem Own.rd {B : Nat} {v : Value} {l : List UInt8} {w : World} (h : Own B v l w) : RdB w v l := RdB.own h
theorem Own.below {B : Nat} {v : Value} {l : List UInt8} {w w' : World} (h : Own B v l w) (b : Below w.heap.size w w') : Own B v l w' := (But.of_below b).owns h (fun _ _ e => by cases e)
theorem own_nil (B : Nat) (w : World) : Own B (.slice none 0 0) [] w := World.ownsRow_nil w B _ 1
theorem own_made (w : World) (c : Nat) (hc : c ≤ 9223372036854775807) (cs : Array Value) (hs : cs.size = c) : Own w.heap.size (.slice (some ⟨w.heap.size, 0, none⟩) 0 c) [] (w.alloc (.cells cs 5)) :=
  World.ownsRow_made w cs c (Nat.le_refl _) (by unfold maxLen; omega) (by omega)
/-- Bytes that were just built, appended to a slice of the call's own. -/
theorem wp_app {ops : Array Oper} {rest : List Oper} {o : Oper} {a : Act} {Q : Exit → Act → World → Prop} (hgd : o.guard = none) (s x : Operand)
    (ho : o.op = .call { callee := .builtin .append, args := #[s, x], argTypes := #[67, 67] }) (B : Nat) (v : Value) (l u : List UInt8) (W : World) (cs : Array Value) (hc : cs.toList = bv u)
    (hs : a.eval s = v) (hown : Own B v l W) (hx : a.eval x = .slice (some ⟨W.heap.size, 0, none⟩) u.length u.length) (hlen : l.length + u.length ≤ 140737488355328) (hB : B ≤ W.heap.size)
    (h : ∀ v' w', Hid (Own B v' (l ++ u) w') → Hid (Below B W w') → wpList Tryz.prog ops Q rest (a.put o.dst v') w') : wpList Tryz.prog ops Q (o :: rest) a (W.alloc (.cells cs 5)) := by
  refine wp_appB (by simp [Region.wanted, hgd]) s x ho B v _ l u hs (hown.alloc _) hx ?_ hlen (by simp; omega) ?_
  · refine ⟨_, _, rfl, Nat.le_refl _, (fun e => by cases e), .inr ⟨W.heap.size, 0, rfl, fun j y hj => ?_⟩⟩
    have h1 : cs[j]? = some (.int .u8 (y.toNat : Int)) := by
      rw [← Array.getElem?_toList, hc, bv_get, hj]
      rfl
    rw [Nat.zero_add]
    have h2 := heap_alloc_new W (.cells cs 5)
    unfold World.cell?
    rw [show (⟨W.heap.size, j, none⟩ : Addr).block = W.heap.size from rfl, h2]
    exact h1
  · intro v' w' h1 h2
    exact h v' w' h1.out (((Below.refl B W).alloc hB _).grown h2.out (by simp; omega) (fun k hk => (World.ownsRow.lt hown k hk).1))

end Bs
end Go.Proofs.YtlfobdjbnpgchaaGreatDoor
