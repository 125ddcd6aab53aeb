/-
  cookie, plainly: what "other; name=digits" tells (written by mkkos.py).
-/
import Derived.Test.YticncpjpkgdnlaaGreatDoorMgJ
import Derived.Test.YticncpjpkgdnlaaGreatDoorMgD
import Derived.Test.YticncpjpkgdnlaaGreatDoorGPl3
set_option linter.unusedVariables false
set_option linter.unusedSimpArgs false
set_option maxRecDepth 100000
namespace Go.Proofs.YticncpjpkgdnlaaGreatDoor
open Go.RowKit Go.Shelf
namespace Ko
open Oc Tg _root_.Go.Proofs.YticncpjpkgdnlaaGreatDoor.Fd _root_.Go.Proofs.YticncpjpkgdnlaaGreatDoor.Ck _root_.Go.Proofs.YticncpjpkgdnlaaGreatDoor.Ms _root_.Go.Proofs.YticncpjpkgdnlaaGreatDoor.Hn

theorem byte_all {p : UInt8 → Prop} (h : ∀ n : Fin 256, p (UInt8.ofNat n.val)) (c : UInt8) : p c := by
  have := h ⟨c.toNat, c.toNat_lt⟩
  simpa using this
theorem tok_no (c : UInt8) : tokB c = true → c ≠ 59 ∧ c ≠ 61 ∧ blankB c = false := by
  revert c
  apply byte_all
  decide +kernel
theorem itoa_p {n : Int} (h : 0 ≤ n) : Lib.itoa n = Lib.decDigits n.toNat := by
  unfold Lib.itoa
  rw [if_neg (by omega)]
theorem itoa_d {n : Int} (h : 0 ≤ n) (c : UInt8) (hc : c ∈ Lib.itoa n) : 48 ≤ c.toNat ∧ c.toNat ≤ 57 := by
  rw [itoa_p h] at hc
  have := dec_digits n.toNat c hc
  unfold valI at this
  have hb := c.toNat_lt
  repeat' split at this
  all_goals omega
theorem itoa_n {n : Int} (h : 0 ≤ n) : Lib.itoa n ≠ [] := by rw [itoa_p h]; exact dec_ne _
theorem numR_i {n m : Int} (h : 0 ≤ n) (hm : n ≤ m) : numR 10 (Lib.itoa n) m = (n, 0) := by
  have := numR_zeros n.toNat 0 m
  rw [List.replicate_zero, List.nil_append, ← itoa_p h, if_neg (by omega)] at this
  rw [this]
  congr 1
  omega
theorem dec_len : ∀ (k u : Nat), u < 10 ^ (k + 1) → (Lib.decDigits u).length ≤ k + 1
  | 0, u, h => by rw [Lib.decDigits, dif_pos (by simpa using h)]; simp
  | k + 1, u, h => by
    rw [Lib.decDigits]
    split
    · simp
    · have := dec_len k (u / 10) (by rw [Nat.pow_succ] at h; omega)
      simp; omega
theorem itoa_l {n : Int} (h : 0 ≤ n) (h2 : n ≤ 9999999999) : (Lib.itoa n).length ≤ 10 := by
  rw [itoa_p h]
  exact dec_len 9 _ (by omega)
theorem dig_no (c : UInt8) : 48 ≤ c.toNat ∧ c.toNat ≤ 57 → c ≠ 59 ∧ c ≠ 61 ∧ c ≠ 34 ∧ blankB c = false := by
  revert c
  apply byte_all
  decide +kernel
theorem dig_sign (c : UInt8) : 48 ≤ c.toNat ∧ c.toNat ≤ 57 → signB ⟨#[34, 44, 59, 92]⟩ c = true := by
  revert c
  apply byte_all
  decide +kernel
theorem drop_none (p : UInt8 → Bool) (l : List UInt8) (h : ∀ c ∈ l, p c = false) : l.dropWhile p = l := by
  cases l with
  | nil => rfl
  | cons c t => rw [List.dropWhile_cons, if_neg (by rw [h c (by simp)]; simp)]
theorem drop_nil (p : UInt8 → Bool) : ∀ l : List UInt8, l.dropWhile p = [] → ∀ c ∈ l, p c = true
  | [], _, c, hc => by cases hc
  | x :: t, h, c, hc => by
    by_cases hx : p x = true
    · rw [List.dropWhile_cons, if_pos hx] at h
      rcases List.mem_cons.1 hc with rfl | hc
      · exact hx
      · exact drop_nil p t h c hc
    · rw [List.dropWhile_cons, if_neg hx] at h
      cases h
theorem trim_none (l : List UInt8) (h : ∀ c ∈ l, blankB c = false) : trim l = l := by
  unfold trim trimR trimL
  rw [drop_none _ l h, drop_none _ l.reverse (fun c hc => h c (by simpa using hc)), List.reverse_reverse]
theorem trim_sp (l : List UInt8) : trim (32 :: l) = trim l := by
  unfold trim
  rw [trimL_cons, if_pos (by decide)]
theorem cutA_app (b : UInt8) (a r : List UInt8) (h : b ∉ a) : cutA b (a ++ b :: r) = a := by
  unfold cutA
  induction a with
  | nil => simp
  | cons c t ih =>
    have hc : c ≠ b := fun e => h (by simp [e])
    rw [List.cons_append, List.takeWhile_cons, if_pos (by simpa using hc), ih (fun hh => h (by simp [hh]))]
theorem cutB_app (b : UInt8) (a r : List UInt8) (h : b ∉ a) : cutB b (a ++ b :: r) = r := by
  unfold cutB
  induction a with
  | nil => simp
  | cons c t ih =>
    have hc : c ≠ b := fun e => h (by simp [e])
    rw [List.cons_append, List.dropWhile_cons, if_pos (by simpa using hc), ih (fun hh => h (by simp [hh]))]
theorem bare_dig (l : List UInt8) (h : ∀ c ∈ l, c ≠ 34) : bare (str l) = str l := by
  unfold bare
  rw [if_neg]
  rintro ⟨_, hp, _⟩
  rw [str_list] at hp
  cases l with
  | nil => simp [Lib.hasPrefix] at hp
  | cons c t =>
    simp [Lib.hasPrefix] at hp
    exact h c (by simp) hp.symm
theorem cok_dig (N : List UInt8) (n : Int) (hn : 0 ≤ n) (hm : n ≤ 9999999999) (hl : N.length ≤ 4000) (ht : isTok N = true) : cokB (str N) (str (Lib.itoa n)) = true := by
  have h10 := itoa_l hn hm
  unfold cokB valB
  rw [bare_dig _ (fun c hc => (dig_no c (itoa_d hn c hc)).2.2.1), str_size, str_size, str_list, ht]
  have hs : sgn ⟨#[34, 44, 59, 92]⟩ (str (Lib.itoa n)) = true := by
    unfold sgn
    rw [str_list, List.all_eq_true]
    exact fun c hc => dig_sign c (itoa_d hn c hc)
  rw [hs]
  simp
  omega
def cookV (N : List UInt8) (n : Int) : List UInt8 := [111, 116, 104, 101, 114] ++ 59 :: (32 :: N ++ 61 :: Lib.itoa n)
theorem ckL_cook (N : List UInt8) (n : Int) (hn : 0 ≤ n) (hm : n ≤ 9999999999) (hl : N.length ≤ 4000) (ht : isTok N = true) : ckL (cookV N n) = [(N, Lib.itoa n)] := by
  have hN : ∀ c ∈ N, c ≠ 59 ∧ c ≠ 61 ∧ blankB c = false := fun c hc => tok_no c (by
    unfold isTok at ht
    simp only [Bool.and_eq_true] at ht
    exact List.all_eq_true.1 ht.2 c hc)
  have hD : ∀ c ∈ Lib.itoa n, c ≠ 59 ∧ c ≠ 61 ∧ c ≠ 34 ∧ blankB c = false := fun c hc => dig_no c (itoa_d hn c hc)
  have hcN : cutN (32 :: N ++ 61 :: Lib.itoa n) = N := by
    unfold cutN
    rw [cutA_app 61 (32 :: N) _ (by
      intro h
      rcases List.mem_cons.1 h with h | h
      · cases h
      · exact (hN _ h).2.1 rfl), trim_sp, trim_none N (fun c hc => (hN c hc).2.2)]
  have hcV : cutV (32 :: N ++ 61 :: Lib.itoa n) = Lib.itoa n := by
    unfold cutV
    rw [cutB_app 61 (32 :: N) _ (by
      intro h
      rcases List.mem_cons.1 h with h | h
      · cases h
      · exact (hN _ h).2.1 rfl), trim_none _ (fun c hc => (hD c hc).2.2.2)]
  unfold ckL cookV
  rw [splitB_app 59 _ _ (by decide), splitB_none 59 _ (by
    intro h
    rcases List.mem_append.1 h with h | h
    · rcases List.mem_cons.1 h with h | h
      · cases h
      · exact (hN _ h).1 rfl
    · rcases List.mem_cons.1 h with h | h
      · cases h
      · exact (hD _ h).1 rfl)]
  have h1 : okP [111, 116, 104, 101, 114] = false := by
    unfold okP ckR
    rw [show has 61 [111, 116, 104, 101, 114] = false by decide]
    simp
  have h2 : okP (32 :: N ++ 61 :: Lib.itoa n) = true := by
    unfold okP ckR
    rw [hcN, hcV, cok_dig N n hn hm hl ht, show has 61 (32 :: N ++ 61 :: Lib.itoa n) = true by unfold has; simp]
    have : (trim (32 :: N ++ 61 :: Lib.itoa n)).isEmpty = false := by
      have hne : N ≠ [] := by
        intro e
        subst e
        simp [isTok] at ht
      obtain ⟨c, t, e⟩ := List.exists_cons_of_ne_nil hne
      rw [List.cons_append, trim_sp]
      unfold trim trimR
      have hc := (hN c (by rw [e]; simp)).2.2
      have : trimL (N ++ 61 :: Lib.itoa n) = N ++ 61 :: Lib.itoa n := by
        rw [e, List.cons_append, trimL_cons, if_neg (by rw [hc]; simp)]
      rw [this]
      cases hr : ((N ++ 61 :: Lib.itoa n).reverse.dropWhile blankB).reverse with
      | cons a b => rfl
      | nil =>
        exfalso
        have h0 : (N ++ 61 :: Lib.itoa n).reverse.dropWhile blankB = [] := by simpa using hr
        have h3 := drop_nil _ _ h0 c (by rw [e]; simp)
        rw [hc] at h3
        cases h3
    rw [this]
    rfl
  unfold cks
  rw [List.filter_cons, if_neg (by rw [h1]; simp), List.filter_cons, if_pos h2, List.filter_nil]
  show [fP _] = _
  unfold fP
  rw [hcN, hcV]

end Ko
end Go.Proofs.YticncpjpkgdnlaaGreatDoor
