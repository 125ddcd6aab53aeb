/-
  Plain mathematics for package base: base 64 and hexadecimal digits over lists of bytes. Nothing of the program.
-/
import Derived.WalkKit
set_option linter.unusedVariables false
set_option linter.unusedSimpArgs false
namespace Go.Proofs.YtcnjnlmjgbmjnabDoor
namespace Bs

def sgs : List UInt8 := [65, 66, 67, 68, 69, 70, 71, 72, 73, 74, 75, 76, 77, 78, 79, 80, 81, 82, 83, 84, 85, 86, 87, 88, 89, 90, 97, 98, 99, 100, 101, 102, 103, 104, 105, 106, 107, 108, 109, 110, 111, 112, 113, 114, 115, 116, 117, 118, 119, 120, 121, 122, 48, 49, 50, 51, 52, 53, 54, 55, 56, 57, 43, 47]
def sgn (n : Nat) : UInt8 := sgs.getD n 0
/-- A sign's number; -1 of a byte that is none. -/
def num (c : UInt8) : Int :=
  if 65 ≤ c.toNat ∧ c.toNat ≤ 90 then (c.toNat : Int) - 65 else if 97 ≤ c.toNat ∧ c.toNat ≤ 122 then (c.toNat : Int) - 71
  else if 48 ≤ c.toNat ∧ c.toNat ≤ 57 then (c.toNat : Int) + 4 else if c.toNat = 43 then 62 else if c.toNat = 47 then 63 else -1

theorem all_bytes {p : UInt8 → Prop} (h : ∀ n : Fin 256, p (UInt8.ofNat n.val)) (c : UInt8) : p c := by
  have := h ⟨c.toNat, c.toNat_lt⟩
  simpa using this
theorem num_sgn (n : Nat) (h : n < 64) : num (sgn n) = n := by
  have : ∀ k : Fin 64, num (sgn k.val) = (k.val : Int) := by decide +kernel
  exact this ⟨n, h⟩
theorem sgn_ne (n : Nat) (h : n < 64) : sgn n ≠ 61 := by
  have : ∀ k : Fin 64, sgn k.val ≠ 61 := by decide +kernel
  exact this ⟨n, h⟩
theorem sgn_num (c : UInt8) : 0 ≤ num c → sgn (num c).toNat = c := by
  revert c
  apply all_bytes
  decide +kernel
theorem num_bd (c : UInt8) : -1 ≤ num c ∧ num c ≤ 63 := by
  revert c
  apply all_bytes
  decide +kernel
theorem num_eq : num 61 = -1 := by decide
theorem num_ne {c : UInt8} (h : 0 ≤ num c) : c ≠ 61 := by
  intro e
  subst e
  rw [num_eq] at h
  omega
/-- The number as a natural one. -/
def nu (c : UInt8) : Nat := (num c).toNat
theorem nu_int {c : UInt8} (h : 0 ≤ num c) : (nu c : Int) = num c := by unfold nu; omega
theorem nu_lt (c : UInt8) : nu c < 64 := by have := num_bd c; unfold nu; omega
theorem sgn_nu {c : UInt8} (h : 0 ≤ num c) : sgn (nu c) = c := sgn_num c h
theorem nu_sgn (n : Nat) (h : n < 64) : nu (sgn n) = n := by unfold nu; rw [num_sgn n h]; omega
theorem num_sgn_nn (n : Nat) (h : n < 64) : ¬ num (sgn n) < 0 := by rw [num_sgn n h]; omega

theorem u8_eq {a b : UInt8} (h : a.toNat = b.toNat) : a = b := UInt8.toNat_inj.1 h
theorem ofNat_lt {n : Nat} (h : n < 256) : (UInt8.ofNat n).toNat = n := by rw [UInt8.toNat_ofNat']; omega

def enc : List UInt8 → List UInt8
  | [] => []
  | [a] => [sgn (a.toNat / 4), sgn (a.toNat % 4 * 16), 61, 61]
  | [a, b] => [sgn (a.toNat / 4), sgn (a.toNat % 4 * 16 + b.toNat / 16), sgn (b.toNat % 16 * 4), 61]
  | a :: b :: c :: r => sgn (a.toNat / 4) :: sgn (a.toNat % 4 * 16 + b.toNat / 16) :: sgn (b.toNat % 16 * 4 + c.toNat / 64) :: sgn (c.toNat % 64) :: enc r

def y0 (a b : UInt8) : UInt8 := UInt8.ofNat (nu a * 4 + nu b / 16)
def y1 (b c : UInt8) : UInt8 := UInt8.ofNat (nu b % 16 * 16 + nu c / 4)
def y2 (c d : UInt8) : UInt8 := UInt8.ofNat (nu c % 4 * 64 + nu d)

/-- The bytes of a text of base 64, or the place with which it goes wrong. -/
def dec : List UInt8 → Except Nat (List UInt8)
  | [] => .ok []
  | [a] => .error (if num a < 0 then 0 else 1)
  | [a, b] => .error (if num a < 0 then 0 else if num b < 0 then 1 else 2)
  | [a, b, c] => .error (if num a < 0 then 0 else if num b < 0 then 1 else if c = 61 then (if num b % 16 = 0 then 3 else 2) else if num c < 0 then 2 else 3)
  | a :: b :: c :: d :: r =>
    if num a < 0 then .error 0 else if num b < 0 then .error 1
    else if c = 61 then (if num b % 16 = 0 then (if d = 61 then (if r = [] then .ok [y0 a b] else .error 4) else .error 3) else .error 2)
    else if num c < 0 then .error 2
    else if d = 61 then (if num c % 4 = 0 then (if r = [] then .ok [y0 a b, y1 b c] else .error 4) else .error 3)
    else if num d < 0 then .error 3
    else match dec r with
      | .ok x => .ok (y0 a b :: y1 b c :: y2 c d :: x)
      | .error k => .error (k + 4)

theorem dec_enc : ∀ l : List UInt8, dec (enc l) = .ok l
  | [] => rfl
  | [a] => by
    have ha := a.toNat_lt
    have h1 := nu_sgn (a.toNat / 4) (by omega)
    have h2 := nu_sgn (a.toNat % 4 * 16) (by omega)
    have e : y0 (sgn (a.toNat / 4)) (sgn (a.toNat % 4 * 16)) = a := u8_eq (by unfold y0; rw [h1, h2, ofNat_lt (by omega)]; omega)
    unfold enc dec
    rw [if_neg (num_sgn_nn _ (by omega)), if_neg (num_sgn_nn _ (by omega)), if_pos rfl, if_pos (by rw [num_sgn _ (by omega)]; omega), if_pos rfl, if_pos rfl, e]
  | [a, b] => by
    have ha := a.toNat_lt
    have hb := b.toNat_lt
    have h1 := nu_sgn (a.toNat / 4) (by omega)
    have h2 := nu_sgn (a.toNat % 4 * 16 + b.toNat / 16) (by omega)
    have h3 := nu_sgn (b.toNat % 16 * 4) (by omega)
    have e : y0 (sgn (a.toNat / 4)) (sgn (a.toNat % 4 * 16 + b.toNat / 16)) = a := u8_eq (by unfold y0; rw [h1, h2, ofNat_lt (by omega)]; omega)
    have e' : y1 (sgn (a.toNat % 4 * 16 + b.toNat / 16)) (sgn (b.toNat % 16 * 4)) = b := u8_eq (by unfold y1; rw [h2, h3, ofNat_lt (by omega)]; omega)
    unfold enc dec
    rw [if_neg (num_sgn_nn _ (by omega)), if_neg (num_sgn_nn _ (by omega)), if_neg (sgn_ne _ (by omega)), if_neg (num_sgn_nn _ (by omega)), if_pos rfl, if_pos (by rw [num_sgn _ (by omega)]; omega), if_pos rfl, e, e']
  | a :: b :: c :: r => by
    have ha := a.toNat_lt
    have hb := b.toNat_lt
    have hc := c.toNat_lt
    have h1 := nu_sgn (a.toNat / 4) (by omega)
    have h2 := nu_sgn (a.toNat % 4 * 16 + b.toNat / 16) (by omega)
    have h3 := nu_sgn (b.toNat % 16 * 4 + c.toNat / 64) (by omega)
    have h4 := nu_sgn (c.toNat % 64) (by omega)
    have e : y0 (sgn (a.toNat / 4)) (sgn (a.toNat % 4 * 16 + b.toNat / 16)) = a := u8_eq (by unfold y0; rw [h1, h2, ofNat_lt (by omega)]; omega)
    have e' : y1 (sgn (a.toNat % 4 * 16 + b.toNat / 16)) (sgn (b.toNat % 16 * 4 + c.toNat / 64)) = b := u8_eq (by unfold y1; rw [h2, h3, ofNat_lt (by omega)]; omega)
    have e'' : y2 (sgn (b.toNat % 16 * 4 + c.toNat / 64)) (sgn (c.toNat % 64)) = c := u8_eq (by unfold y2; rw [h3, h4, ofNat_lt (by omega)]; omega)
    unfold enc dec
    rw [if_neg (num_sgn_nn _ (by omega)), if_neg (num_sgn_nn _ (by omega)), if_neg (sgn_ne _ (by omega)), if_neg (num_sgn_nn _ (by omega)), if_neg (sgn_ne _ (by omega)), if_neg (num_sgn_nn _ (by omega)), dec_enc r, e, e', e'']

theorem enc_dec : ∀ (l x : List UInt8), dec l = .ok x → enc x = l
  | [], x, h => by unfold dec at h; cases h; rfl
  | [a], x, h => by unfold dec at h; cases h
  | [a, b], x, h => by unfold dec at h; cases h
  | [a, b, c], x, h => by unfold dec at h; cases h
  | a :: b :: c :: d :: r, x, h => by
    unfold dec at h
    have la := nu_lt a
    have lb := nu_lt b
    have lc := nu_lt c
    have ld := nu_lt d
    split at h
    · cases h
    rename_i na
    split at h
    · cases h
    rename_i nb
    have ea := sgn_nu (show 0 ≤ num a by omega)
    have eb := sgn_nu (show 0 ≤ num b by omega)
    have ib := nu_int (show 0 ≤ num b by omega)
    split at h
    · rename_i hc
      split at h
      · rename_i hm
        split at h
        · rename_i hd
          split at h
          · rename_i hr
            cases h
            subst hc hd hr
            unfold enc y0
            rw [ofNat_lt (by omega), show (nu a * 4 + nu b / 16) / 4 = nu a by omega, show (nu a * 4 + nu b / 16) % 4 * 16 = nu b by omega, ea, eb]
          · cases h
        · cases h
      · cases h
    · split at h
      · cases h
      rename_i hc nc
      have ec := sgn_nu (show 0 ≤ num c by omega)
      have ic := nu_int (show 0 ≤ num c by omega)
      split at h
      · rename_i hd
        split at h
        · rename_i hm
          split at h
          · rename_i hr
            cases h
            subst hd hr
            unfold enc y0 y1
            rw [ofNat_lt (by omega), ofNat_lt (by omega), show (nu a * 4 + nu b / 16) / 4 = nu a by omega, show (nu a * 4 + nu b / 16) % 4 * 16 + (nu b % 16 * 16 + nu c / 4) / 16 = nu b by omega, show (nu b % 16 * 16 + nu c / 4) % 16 * 4 = nu c by omega, ea, eb, ec]
          · cases h
        · cases h
      · split at h
        · cases h
        rename_i hd nd
        have ed := sgn_nu (show 0 ≤ num d by omega)
        split at h
        · rename_i x' hx
          cases h
          have ih := enc_dec r x' hx
          unfold enc y0 y1 y2
          rw [ofNat_lt (by omega), ofNat_lt (by omega), ofNat_lt (by omega), show (nu a * 4 + nu b / 16) / 4 = nu a by omega, show (nu a * 4 + nu b / 16) % 4 * 16 + (nu b % 16 * 16 + nu c / 4) / 16 = nu b by omega,
            show (nu b % 16 * 16 + nu c / 4) % 16 * 4 + (nu c % 4 * 64 + nu d) / 64 = nu c by omega, show (nu c % 4 * 64 + nu d) % 64 = nu d by omega, ea, eb, ec, ed, ih]
        · cases h

/- Hexadecimal digits. -/
def hxs : List UInt8 := [48, 49, 50, 51, 52, 53, 54, 55, 56, 57, 97, 98, 99, 100, 101, 102]
def hx (n : Nat) : UInt8 := hxs.getD n 0
def hv (c : UInt8) : Int := if 48 ≤ c.toNat ∧ c.toNat ≤ 57 then (c.toNat : Int) - 48 else if 97 ≤ c.toNat ∧ c.toNat ≤ 102 then (c.toNat : Int) - 87 else -1
theorem hv_hx (n : Nat) (h : n < 16) : hv (hx n) = n := by
  have : ∀ k : Fin 16, hv (hx k.val) = (k.val : Int) := by decide +kernel
  exact this ⟨n, h⟩
theorem hx_hv (c : UInt8) : 0 ≤ hv c → hx (hv c).toNat = c := by
  revert c
  apply all_bytes
  decide +kernel
theorem hv_bd (c : UInt8) : -1 ≤ hv c ∧ hv c ≤ 15 := by
  revert c
  apply all_bytes
  decide +kernel
def hexL : List UInt8 → List UInt8
  | [] => []
  | a :: r => hx (a.toNat / 16) :: hx (a.toNat % 16) :: hexL r
theorem hexL_length : ∀ l : List UInt8, (hexL l).length = 2 * l.length
  | [] => rfl
  | a :: r => by unfold hexL; simp only [List.length_cons]; rw [hexL_length r]; omega
def prs : List UInt8 → List UInt8
  | a :: b :: r => UInt8.ofNat ((hv a).toNat * 16 + (hv b).toNat) :: prs r
  | _ => []
theorem prs_hexL : ∀ l : List UInt8, prs (hexL l) = l
  | [] => rfl
  | a :: r => by
    have ha := a.toNat_lt
    unfold hexL prs
    rw [hv_hx _ (by omega), hv_hx _ (by omega), prs_hexL r]
    congr 1
    apply u8_eq
    rw [ofNat_lt (by omega)]
    omega
theorem hexL_dig : ∀ l : List UInt8, ∀ c ∈ hexL l, 0 ≤ hv c
  | [], c, h => by cases h
  | a :: r, c, h => by
    have ha := a.toNat_lt
    unfold hexL at h
    rcases List.mem_cons.1 h with rfl | h
    · rw [hv_hx _ (by omega)]; omega
    rcases List.mem_cons.1 h with rfl | h
    · rw [hv_hx _ (by omega)]; omega
    exact hexL_dig r c h
theorem hexL_prs : ∀ l : List UInt8, (∀ c ∈ l, 0 ≤ hv c) → l.length % 2 = 0 → hexL (prs l) = l
  | [], _, _ => rfl
  | [a], _, h => by simp at h
  | a :: b :: r, hd, hl => by
    have ba := hv_bd a
    have bb := hv_bd b
    have da := hd a (by simp)
    have db := hd b (by simp)
    have ea := hx_hv a da
    have eb := hx_hv b db
    unfold prs hexL
    rw [ofNat_lt (by omega), show ((hv a).toNat * 16 + (hv b).toNat) / 16 = (hv a).toNat by omega, show ((hv a).toNat * 16 + (hv b).toNat) % 16 = (hv b).toNat by omega, ea, eb,
      hexL_prs r (fun c hc => hd c (by simp [hc])) (by simp only [List.length_cons] at hl; omega)]
def hbad (l : List UInt8) : Nat := (l.takeWhile fun c => decide (0 ≤ hv c)).length
/-- What Unhex answers. -/
def unhexR (l : List UInt8) : List UInt8 × Int × Int :=
  if hbad l < l.length then ([], hbad l, 31) else if l.length % 2 = 0 then (prs l, 0, 0) else ([], l.length, 31)
theorem tw_stop {α : Type} (p : α → Bool) (d : α) : ∀ (l : List α) (k : Nat), k < l.length → (∀ j, j < k → p (l.getD j d) = true) → p (l.getD k d) = false → (l.takeWhile p).length = k
  | [], k, h, _, _ => by simp at h
  | a :: l, 0, _, _, hs => by simp at hs; simp [List.takeWhile_cons, hs]
  | a :: l, k + 1, h, ha, hs => by
    have h0 := ha 0 (by omega)
    simp at h0
    rw [List.takeWhile_cons, h0]
    simp only [if_true, List.length_cons, Nat.add_right_cancel_iff]
    exact tw_stop p d l k (by simpa using h) (fun j hj => by simpa using ha (j + 1) (by omega)) (by simpa using hs)
theorem tw_all {α : Type} (p : α → Bool) (d : α) : ∀ (l : List α), (∀ j, j < l.length → p (l.getD j d) = true) → (l.takeWhile p).length = l.length
  | [], _ => rfl
  | a :: l, ha => by
    have h0 := ha 0 (by simp)
    simp at h0
    rw [List.takeWhile_cons, h0]
    simp only [if_true, List.length_cons, Nat.add_right_cancel_iff]
    exact tw_all p d l (fun j hj => by simpa using ha (j + 1) (by simpa using hj))
theorem unhexR_bad (l : List UInt8) (k : Nat) (hk : k < l.length) (h : ∀ j, j < k → 0 ≤ hv (l.getD j 0)) (hs : hv (l.getD k 0) < 0) : unhexR l = ([], (k : Int), 31) := by
  have : hbad l = k := tw_stop _ 0 l k hk (fun j hj => decide_eq_true (h j hj)) (decide_eq_false (by omega))
  unfold unhexR
  rw [this, if_pos hk]
theorem hbad_all (l : List UInt8) (h : ∀ j, j < l.length → 0 ≤ hv (l.getD j 0)) : hbad l = l.length := tw_all _ 0 l (fun j hj => decide_eq_true (h j hj))
theorem unhexR_odd (l : List UInt8) (h : ∀ j, j < l.length → 0 ≤ hv (l.getD j 0)) (ho : l.length % 2 = 1) : unhexR l = ([], (l.length : Int), 31) := by
  unfold unhexR
  rw [hbad_all l h, if_neg (by omega), if_neg (by omega)]
theorem unhexR_ok (l : List UInt8) (h : ∀ j, j < l.length → 0 ≤ hv (l.getD j 0)) (ho : l.length % 2 = 0) : unhexR l = (prs l, 0, 0) := by
  unfold unhexR
  rw [hbad_all l h, if_neg (by omega), if_pos ho]
theorem mem_getD {l : List UInt8} {P : UInt8 → Prop} (h : ∀ c ∈ l, P c) (j : Nat) (hj : j < l.length) : P (l.getD j 0) := by
  rw [List.getD_eq_getElem?_getD, List.getElem?_eq_getElem hj]
  exact h _ (List.getElem_mem _)
theorem unhexR_back (l : List UInt8) : unhexR (hexL l) = (l, 0, 0) := by
  rw [unhexR_ok _ (fun j hj => mem_getD (P := fun c => 0 ≤ hv c) (hexL_dig l) j hj) (by rw [hexL_length]; omega), prs_hexL]
theorem tw_full {α : Type} (p : α → Bool) (l : List α) (h : ¬ (l.takeWhile p).length < l.length) : ∀ c ∈ l, p c = true := by
  have e : l.takeWhile p = l := (List.takeWhile_prefix (l := l) p).eq_of_length (by have := (List.takeWhile_prefix (l := l) p).length_le; omega)
  have e3 : (l.takeWhile p).all p = true := List.all_takeWhile
  rw [e] at e3
  exact List.all_eq_true.1 e3
theorem unhexR_once (l x : List UInt8) (i : Int) (h : unhexR l = (x, i, 0)) : hexL x = l := by
  unfold unhexR at h
  split at h
  · simp at h
  · rename_i h1
    split at h
    · rename_i h2
      obtain ⟨rfl, _⟩ := Prod.mk.inj h
      exact hexL_prs l (fun c hc => of_decide_eq_true (tw_full _ l h1 c hc)) h2
    · simp at h

end Bs
end Go.Proofs.YtcnjnlmjgbmjnabDoor
