/- Several texts as one. -/
import Derived.Test.YtcelekfokbdmfaaGreatDoorMgH
import Derived.Test.YtcelekfokbdmfaaGreatDoorMgZ
import Derived.Test.YtcelekfokbdmfaaGreatDoorMgX
import Derived.Test.YtcelekfokbdmfaaGreatDoorProg
/-
  The document's blanks, signs, Params.
-/
set_option linter.unusedVariables false
set_option linter.unusedSimpArgs false
namespace Go.Proofs.YtcelekfokbdmfaaGreatDoor
open Go.RowKit Go.Shelf
namespace Oc

theorem drop_getD (l : List UInt8) (a j : Nat) : (l.drop a).getD j 0 = l.getD (a + j) 0 := by
  rw [List.getD_eq_getElem?_getD, List.getD_eq_getElem?_getD, List.getElem?_drop]
theorem ext_take (s : ByteArray) (i n : Nat) : s.extract i (i + n) = str ((s.data.toList.drop i).take n) := by
  apply eq_list
  rw [str_list, Lib.extract_data, show i + n - i = n by omega]

end Oc
end Go.Proofs.YtcelekfokbdmfaaGreatDoor

/-
  The document's Params.
-/
set_option linter.unusedVariables false
set_option linter.unusedSimpArgs false
namespace Go.Proofs.YtcelekfokbdmfaaGreatDoor
open Go.RowKit Go.Shelf
namespace Oc

theorem rp_zero {r : List UInt8} (h : tokLen r = 0) : rp r = some ((r.take 0, [], false), 0) := by
  unfold rp
  rw [h, if_neg]
  simp [told]
theorem rp_bare {r : List UInt8} {n : Nat} (h : tokLen r = n) (h2 : told r n = false) : rp r = some ((r.take n, [], false), n) := by
  unfold rp
  rw [h, h2]
  rfl
theorem rp_tok {r : List UInt8} {n m : Nat} (h : tokLen r = n) (h2 : told r n = true) (h3 : tokLen (r.drop (n + 1)) = m) (h4 : 0 < m) : rp r = some ((r.take n, (r.drop (n + 1)).take m, true), n + 1 + m) := by
  unfold rp
  rw [h, h2, if_pos rfl]
  unfold rv
  rw [h3, if_pos h4]
  rfl
theorem rp_quo {r : List UInt8} {n m : Nat} (h : tokLen r = n) (h2 : told r n = true) (h3 : tokLen (r.drop (n + 1)) = 0) (h4 : qlen (r.drop (n + 1)) = m) (h5 : m ≠ 0) :
    ∃ x, unqR (r.drop (n + 1)) = (x, (m : Int), 0) ∧ rp r = some ((r.take n, x, true), n + 1 + m) := by
  refine ⟨psay false (((r.drop (n + 1)).drop 1).take (m - 2)), ?_, ?_⟩
  · unfold unqR
    rw [h4, if_neg h5]
  · unfold rp
    rw [h, h2, if_pos rfl]
    unfold rv
    rw [h3, h4, if_neg (by omega), if_neg h5]
    rfl
theorem rp_err {r : List UInt8} {n : Nat} (h : tokLen r = n) (h2 : told r n = true) (h3 : tokLen (r.drop (n + 1)) = 0) (h4 : qlen (r.drop (n + 1)) = 0) : rp r = none := by
  unfold rp
  rw [h, h2, if_pos rfl]
  unfold rv
  rw [h3, h4, if_neg (by omega), if_pos rfl]
  rfl

end Oc
end Go.Proofs.YtcelekfokbdmfaaGreatDoor

/-
  Parameters as text, and back.
-/
set_option linter.unusedVariables false
set_option linter.unusedSimpArgs false
namespace Go.Proofs.YtcelekfokbdmfaaGreatDoor
namespace Oc

/-- A parameter as text, where it can be told. -/
def prt1 (p : Prm) : Option (List UInt8) :=
  if isTok p.1 = false then none
  else if p.2.2 = false then (if p.2.1 = [] then some (59 :: 32 :: p.1) else none)
  else if isTok p.2.1 = true then some (59 :: 32 :: (p.1 ++ 61 :: p.2.1))
  else if isFld p.2.1 = true then some (59 :: 32 :: (p.1 ++ 61 :: qText p.2.1)) else none
def prts : List Prm → Option (List UInt8)
  | [] => some []
  | p :: r => match prt1 p with | none => none | some a => (prts r).map (a ++ ·)
def printR (t : List Prm) : List UInt8 × Int := match prts t with | some x => (x, 0) | none => ([], 15)
def szP (p : Prm) : Nat := p.1.length + p.2.1.length + 4
def sumP (t : List Prm) : Nat := (t.map szP).sum

theorem tokI_kind : ∀ c : Nat, c < 256 → tokI (c : Int) = true → blankI (c : Int) = false ∧ fieldI (c : Int) = true := by decide +kernel
theorem tokB_kind (c : UInt8) (h : tokB c = true) : blankB c = false ∧ fieldB c = true := tokI_kind c.toNat c.toNat_lt h
theorem tok59 : tokB 59 = false := by decide
theorem tok61 : tokB 61 = false := by decide
theorem tok34 : tokB 34 = false := by decide
theorem blank59 : blankB 59 = false := by decide
theorem blank32 : blankB 32 = true := by decide
theorem isTok_all {l : List UInt8} (h : isTok l = true) : l ≠ [] ∧ l.all tokB = true := by
  unfold isTok at h
  rw [Bool.and_eq_true] at h
  exact ⟨fun e => by rw [e] at h; simp at h, h.2⟩
theorem isTok_fld {l : List UInt8} (h : isTok l = true) : isFld l = true := by
  unfold isFld
  rw [List.all_eq_true]
  intro c hc
  exact (tokB_kind c (List.all_eq_true.1 (isTok_all h).2 c hc)).2
theorem tokLen_app (a z : List UInt8) (h : a.all tokB = true) (hz : ∀ c y, z = c :: y → tokB c = false) : tokLen (a ++ z) = a.length := by
  unfold tokLen
  rw [List.takeWhile_append_of_pos (List.all_eq_true.1 h)]
  cases z with
  | nil => simp
  | cons c y => simp [hz c y rfl]
theorem bl_zero (c : UInt8) (l : List UInt8) (h : blankB c = false) : bl (c :: l) = 0 := by unfold bl; simp [h]
theorem bl_one (l : List UInt8) (h : bl l = 0) : bl (32 :: l) = 1 := by
  unfold bl at *
  rw [List.takeWhile_cons, if_pos blank32, List.length_cons, h]
theorem bl_tok {n : List UInt8} (h : isTok n = true) (tail : List UInt8) : bl (n ++ tail) = 0 := by
  obtain ⟨h0, h1⟩ := isTok_all h
  cases n with
  | nil => exact absurd rfl h0
  | cons c n =>
    rw [List.all_cons, Bool.and_eq_true] at h1
    exact bl_zero _ _ (tokB_kind c h1.1).1
theorem pstep_at {n tail : List UInt8} (h : isTok n = true) {y : Prm × Nat} (hr : rp (n ++ tail) = some y) (hy : y.2 ≠ 0) : pstep (59 :: 32 :: (n ++ tail)) = some (some (2 + y.2, [y.1])) := by
  have b0 : bl (59 :: 32 :: (n ++ tail)) = 0 := bl_zero _ _ blank59
  have d1 : (59 :: 32 :: (n ++ tail)).drop 1 = 32 :: (n ++ tail) := rfl
  have b1 : bl (32 :: (n ++ tail)) = 1 := bl_one _ (bl_tok h tail)
  have s0 : semi (59 :: 32 :: (n ++ tail)) 0 = true := decide_eq_true ⟨by simp, rfl⟩
  have := pstep_one (r := 59 :: 32 :: (n ++ tail)) (x := y) (by rw [b0]; exact s0) (by rw [b0, Nat.zero_add, d1, b1]; exact hr) hy
  rw [b0, Nat.zero_add, d1, b1] at this
  rw [this, show 1 + 1 + y.2 = 2 + y.2 by omega]
/-- What may stand behind. -/
def Stops (z : List UInt8) : Prop := z = [] ∨ ∃ y, z = 59 :: y
theorem stops_tok {z : List UInt8} (h : Stops z) : ∀ c y, z = c :: y → tokB c = false := by
  intro c y e
  rcases h with h | ⟨y', h⟩
  · rw [h] at e; cases e
  · rw [h] at e; cases e; exact tok59
theorem getD_app (a z : List UInt8) (c : UInt8) : (a ++ c :: z).getD a.length 0 = c := by
  rw [List.getD_eq_getElem?_getD, List.getElem?_append_right (Nat.le_refl _), Nat.sub_self]; rfl
theorem drop_app1 (a z : List UInt8) (c : UInt8) : (a ++ c :: z).drop (a.length + 1) = z := by
  rw [List.drop_append, List.drop_of_length_le (by omega), show a.length + 1 - a.length = 1 by omega]; rfl
theorem pstep_prt {p : Prm} {x z : List UInt8} (h : prt1 p = some x) (hz : Stops z) : pstep (x ++ z) = some (some (x.length, [p])) := by
  obtain ⟨n, v, b⟩ := p
  unfold prt1 at h
  simp only at h
  split at h
  · cases h
  rename_i hn
  have hn : isTok n = true := by simpa using hn
  obtain ⟨n0, nall⟩ := isTok_all hn
  have nlen : 0 < n.length := List.length_pos_iff.2 n0
  split at h
  · rename_i hb
    subst hb
    split at h
    · rename_i hv
      subst hv
      cases h
      have tl := tokLen_app n z nall (stops_tok hz)
      have told0 : told (n ++ z) n.length = false := by
        unfold told
        refine decide_eq_false ?_
        rintro ⟨_, h1, h2⟩
        rcases hz with rfl | ⟨y, rfl⟩
        · simp at h1
        · rw [getD_app] at h2; cases h2
      have hr := rp_bare tl told0
      rw [List.take_left] at hr
      show pstep (59 :: 32 :: (n ++ z)) = _
      rw [pstep_at hn hr (by show n.length ≠ 0; omega)]
      simp
      omega
    · cases h
  · rename_i hb
    have hb : b = true := by simpa using hb
    subst hb
    split at h
    · rename_i hv
      obtain ⟨v0, vall⟩ := isTok_all hv
      cases h
      have e : n ++ 61 :: v ++ z = n ++ 61 :: (v ++ z) := by simp
      have tl := tokLen_app n (61 :: (v ++ z)) nall (fun c y e => by cases e; exact tok61)
      have told1 : told (n ++ 61 :: (v ++ z)) n.length = true := decide_eq_true ⟨nlen, by simp, getD_app _ _ _⟩
      have tv : tokLen ((n ++ 61 :: (v ++ z)).drop (n.length + 1)) = v.length := by rw [drop_app1]; exact tokLen_app v z vall (stops_tok hz)
      have hr := rp_tok tl told1 tv (List.length_pos_iff.2 v0)
      rw [drop_app1, List.take_left, List.take_left] at hr
      show pstep (59 :: 32 :: (n ++ 61 :: v ++ z)) = _
      rw [e, pstep_at hn hr (by show n.length + 1 + v.length ≠ 0; omega)]
      simp
      omega
    · split at h
      · rename_i hv hf
        cases h
        have e : n ++ 61 :: qText v ++ z = n ++ 61 :: (qText v ++ z) := by simp
        have tl := tokLen_app n (61 :: (qText v ++ z)) nall (fun c y e => by cases e; exact tok61)
        have told1 : told (n ++ 61 :: (qText v ++ z)) n.length = true := decide_eq_true ⟨nlen, by simp, getD_app _ _ _⟩
        have tv : tokLen ((n ++ 61 :: (qText v ++ z)).drop (n.length + 1)) = 0 := by
          rw [drop_app1]
          exact tokLen_app [] (qText v ++ z) rfl (fun c y e => by unfold qText at e; cases e; exact tok34)
        have ub := unqR_back v z hf
        have q0 : qlen ((n ++ 61 :: (qText v ++ z)).drop (n.length + 1)) ≠ 0 := by
          rw [drop_app1]
          intro h0
          rw [unqR_q _ h0] at ub
          cases ub
        obtain ⟨y, hy1, hy2⟩ := rp_quo tl told1 tv rfl q0
        rw [drop_app1, ub] at hy1
        rw [drop_app1, List.take_left] at hy2
        have e1 : v = y := congrArg (fun a => a.1) hy1
        have e2 : ((qText v).length : Int) = (qlen (qText v ++ z) : Int) := congrArg (fun a => a.2.1) hy1
        subst e1
        show pstep (59 :: 32 :: (n ++ 61 :: qText v ++ z)) = _
        rw [e, pstep_at hn hy2 (by show n.length + 1 + _ ≠ 0; omega)]
        simp
        omega
      · cases h
theorem prt1_head {p : Prm} {x : List UInt8} (h : prt1 p = some x) : ∃ y, x = 59 :: y := by
  unfold prt1 at h
  (repeat' split at h) <;> first | (cases h; exact ⟨_, rfl⟩) | cases h
theorem prts_stops : ∀ {t : List Prm} {x : List UInt8}, prts t = some x → Stops x
  | [], x, h => by cases h; exact .inl rfl
  | p :: r, x, h => by
    unfold prts at h
    cases hp : prt1 p with
    | none => rw [hp] at h; cases h
    | some a =>
      rw [hp] at h
      obtain ⟨b, hb, rfl⟩ := Option.map_eq_some_iff.1 h
      obtain ⟨y, rfl⟩ := prt1_head hp
      exact .inr ⟨_, rfl⟩
theorem prm_prts : ∀ (t : List Prm) (x : List UInt8), prts t = some x → prm x = some (t, x.length)
  | [], x, h => by cases h; exact prm_end (pstep_stop rfl)
  | p :: r, x, h => by
    unfold prts at h
    cases hp : prt1 p with
    | none => rw [hp] at h; cases h
    | some a =>
      rw [hp] at h
      obtain ⟨b, hb, rfl⟩ := Option.map_eq_some_iff.1 h
      have ih := prm_prts r b hb
      show prm (a ++ b) = _
      rw [prm_on (pstep_prt hp (prts_stops hb)), List.drop_left, ih, List.length_append]
      rfl
theorem qText_len (v : List UInt8) : (qText v).length ≤ 2 * v.length + 2 := by
  have := qBody_le v
  unfold qText
  simp
  omega
theorem prt1_len {p : Prm} {x : List UInt8} (h : prt1 p = some x) : x.length ≤ 2 * szP p := by
  have := qText_len p.2.1
  unfold prt1 at h
  unfold szP
  (repeat' split at h) <;> first | (cases h; simp; omega) | cases h
theorem drop_nth (t : List Prm) (k : Nat) (h : k < t.length) : t.drop k = nth t k :: t.drop (k + 1) := by
  rw [List.drop_eq_getElem_cons h]
  unfold nth
  rw [List.getD_eq_getElem?_getD, List.getElem?_eq_getElem h]
  rfl
theorem sumP_drop (t : List Prm) (k : Nat) (h : k < t.length) : sumP (t.drop k) = szP (nth t k) + sumP (t.drop (k + 1)) := by
  rw [drop_nth t k h]; rfl
theorem prts_step {t : List Prm} {k : Nat} {acc a : List UInt8} (h : k < t.length) (hst : prts t = (prts (t.drop k)).map (acc ++ ·)) (ha : prt1 (nth t k) = some a) :
    prts t = (prts (t.drop (k + 1))).map ((acc ++ a) ++ ·) := by
  rw [hst, drop_nth t k h, prts, ha]
  simp only [Option.map_map]
  congr 1
  funext y
  simp
theorem prts_bad {t : List Prm} {k : Nat} {acc : List UInt8} (h : k < t.length) (hst : prts t = (prts (t.drop k)).map (acc ++ ·)) (ha : prt1 (nth t k) = none) : printR t = ([], 15) := by
  unfold printR
  rw [hst, drop_nth t k h, prts, ha]
  rfl
theorem prts_end {t : List Prm} {acc : List UInt8} (hst : prts t = (prts (t.drop t.length)).map (acc ++ ·)) : prts t = some acc := by
  rw [hst, List.drop_length, prts]
  simp
theorem sumP_append (a b : List Prm) : sumP (a ++ b) = sumP a + sumP b := by simp [sumP]
theorem nth_sz (t : List Prm) (k : Nat) (h : k < t.length) : szP (nth t k) ≤ sumP t := by
  have h1 := sumP_append (t.take k) (t.drop k)
  rw [List.take_append_drop, sumP_drop t k h] at h1
  omega

end Oc
end Go.Proofs.YtcelekfokbdmfaaGreatDoor

namespace Go.Proofs
end Go.Proofs
