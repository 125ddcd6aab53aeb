/- Several texts as one. -/
import Derived.Test.YtndglpjkmgcdpaaGreatDoorRPrm2
import Derived.Test.YtndglpjkmgcdpaaGreatDoorMgL
import Derived.Test.YtndglpjkmgcdpaaGreatDoorSrU
import Derived.Test.YtndglpjkmgcdpaaGreatDoorMgU
import Derived.Test.YtndglpjkmgcdpaaGreatDoorMgA
import Derived.Test.YtndglpjkmgcdpaaGreatDoorMgW
import Derived.Test.YtndglpjkmgcdpaaGreatDoorMgJ
import Derived.Test.YtndglpjkmgcdpaaGreatDoorMgF
/-
  Parameters as text, and back.
-/
set_option linter.unusedVariables false
set_option linter.unusedSimpArgs false
namespace Go.Proofs.YtndglpjkmgcdpaaGreatDoor
namespace Oc

/-- A parameter as text, where it can be told. -/
def prt1 (p : Prm) : Option (List UInt8) :=
  if isTok p.1 = false then none
  else if p.2.2 = false then (if p.2.1 = [] then some (59 :: 32 :: p.1) else none)
  else if isTok p.2.1 = true then some (59 :: 32 :: (p.1 ++ 61 :: p.2.1))
  else if isFld p.2.1 = true then some (59 :: 32 :: (p.1 ++ 61 :: qText p.2.1)) else none
def prts : List Prm → Option (List UInt8)
  | [] => some []
  | p :: r => match prt1 p with | none => none | some a => (prts r).map (a ++ ·)
def printR (t : List Prm) : List UInt8 × Int := match prts t with | some x => (x, 0) | none => ([], 15)
def szP (p : Prm) : Nat := p.1.length + p.2.1.length + 4
def sumP (t : List Prm) : Nat := (t.map szP).sum

theorem tokI_kind : ∀ c : Nat, c < 256 → tokI (c : Int) = true → blankI (c : Int) = false ∧ fieldI (c : Int) = true := by decide +kernel
theorem tokB_kind (c : UInt8) (h : tokB c = true) : blankB c = false ∧ fieldB c = true := tokI_kind c.toNat c.toNat_lt h
theorem tok59 : tokB 59 = false := by decide
theorem tok61 : tokB 61 = false := by decide
theorem tok34 : tokB 34 = false := by decide
theorem blank59 : blankB 59 = false := by decide
theorem blank32 : blankB 32 = true := by decide
theorem isTok_all {l : List UInt8} (h : isTok l = true) : l ≠ [] ∧ l.all tokB = true := by
  unfold isTok at h
  rw [Bool.and_eq_true] at h
  exact ⟨fun e => by rw [e] at h; simp at h, h.2⟩
theorem isTok_fld {l : List UInt8} (h : isTok l = true) : isFld l = true := by
  unfold isFld
  rw [List.all_eq_true]
  intro c hc
  exact (tokB_kind c (List.all_eq_true.1 (isTok_all h).2 c hc)).2
theorem tokLen_app (a z : List UInt8) (h : a.all tokB = true) (hz : ∀ c y, z = c :: y → tokB c = false) : tokLen (a ++ z) = a.length := by
  unfold tokLen
  rw [List.takeWhile_append_of_pos (List.all_eq_true.1 h)]
  cases z with
  | nil => simp
  | cons c y => simp [hz c y rfl]
theorem bl_zero (c : UInt8) (l : List UInt8) (h : blankB c = false) : bl (c :: l) = 0 := by unfold bl; simp [h]
theorem bl_one (l : List UInt8) (h : bl l = 0) : bl (32 :: l) = 1 := by
  unfold bl at *
  rw [List.takeWhile_cons, if_pos blank32, List.length_cons, h]
theorem bl_tok {n : List UInt8} (h : isTok n = true) (tail : List UInt8) : bl (n ++ tail) = 0 := by
  obtain ⟨h0, h1⟩ := isTok_all h
  cases n with
  | nil => exact absurd rfl h0
  | cons c n =>
    rw [List.all_cons, Bool.and_eq_true] at h1
    exact bl_zero _ _ (tokB_kind c h1.1).1
theorem pstep_at {n tail : List UInt8} (h : isTok n = true) {y : Prm × Nat} (hr : rp (n ++ tail) = some y) (hy : y.2 ≠ 0) : pstep (59 :: 32 :: (n ++ tail)) = some (some (2 + y.2, [y.1])) := by
  have b0 : bl (59 :: 32 :: (n ++ tail)) = 0 := bl_zero _ _ blank59
  have d1 : (59 :: 32 :: (n ++ tail)).drop 1 = 32 :: (n ++ tail) := rfl
  have b1 : bl (32 :: (n ++ tail)) = 1 := bl_one _ (bl_tok h tail)
  have s0 : semi (59 :: 32 :: (n ++ tail)) 0 = true := decide_eq_true ⟨by simp, rfl⟩
  have := pstep_one (r := 59 :: 32 :: (n ++ tail)) (x := y) (by rw [b0]; exact s0) (by rw [b0, Nat.zero_add, d1, b1]; exact hr) hy
  rw [b0, Nat.zero_add, d1, b1] at this
  rw [this, show 1 + 1 + y.2 = 2 + y.2 by omega]
/-- What may stand behind. -/
def Stops (z : List UInt8) : Prop := z = [] ∨ ∃ y, z = 59 :: y
theorem stops_tok {z : List UInt8} (h : Stops z) : ∀ c y, z = c :: y → tokB c = false := by
  intro c y e
  rcases h with h | ⟨y', h⟩
  · rw [h] at e; cases e
  · rw [h] at e; cases e; exact tok59
theorem getD_app (a z : List UInt8) (c : UInt8) : (a ++ c :: z).getD a.length 0 = c := by
  rw [List.getD_eq_getElem?_getD, List.getElem?_append_right (Nat.le_refl _), Nat.sub_self]; rfl
theorem drop_app1 (a z : List UInt8) (c : UInt8) : (a ++ c :: z).drop (a.length + 1) = z := by
  rw [List.drop_append, List.drop_of_length_le (by omega), show a.length + 1 - a.length = 1 by omega]; rfl
theorem pstep_prt {p : Prm} {x z : List UInt8} (h : prt1 p = some x) (hz : Stops z) : pstep (x ++ z) = some (some (x.length, [p])) := by
  obtain ⟨n, v, b⟩ := p
  unfold prt1 at h
  simp only at h
  split at h
  · cases h
  rename_i hn
  have hn : isTok n = true := by simpa using hn
  obtain ⟨n0, nall⟩ := isTok_all hn
  have nlen : 0 < n.length := List.length_pos_iff.2 n0
  split at h
  · rename_i hb
    subst hb
    split at h
    · rename_i hv
      subst hv
      cases h
      have tl := tokLen_app n z nall (stops_tok hz)
      have told0 : told (n ++ z) n.length = false := by
        unfold told
        refine decide_eq_false ?_
        rintro ⟨_, h1, h2⟩
        rcases hz with rfl | ⟨y, rfl⟩
        · simp at h1
        · rw [getD_app] at h2; cases h2
      have hr := rp_bare tl told0
      rw [List.take_left] at hr
      show pstep (59 :: 32 :: (n ++ z)) = _
      rw [pstep_at hn hr (by show n.length ≠ 0; omega)]
      simp
      omega
    · cases h
  · rename_i hb
    have hb : b = true := by simpa using hb
    subst hb
    split at h
    · rename_i hv
      obtain ⟨v0, vall⟩ := isTok_all hv
      cases h
      have e : n ++ 61 :: v ++ z = n ++ 61 :: (v ++ z) := by simp
      have tl := tokLen_app n (61 :: (v ++ z)) nall (fun c y e => by cases e; exact tok61)
      have told1 : told (n ++ 61 :: (v ++ z)) n.length = true := decide_eq_true ⟨nlen, by simp, getD_app _ _ _⟩
      have tv : tokLen ((n ++ 61 :: (v ++ z)).drop (n.length + 1)) = v.length := by rw [drop_app1]; exact tokLen_app v z vall (stops_tok hz)
      have hr := rp_tok tl told1 tv (List.length_pos_iff.2 v0)
      rw [drop_app1, List.take_left, List.take_left] at hr
      show pstep (59 :: 32 :: (n ++ 61 :: v ++ z)) = _
      rw [e, pstep_at hn hr (by show n.length + 1 + v.length ≠ 0; omega)]
      simp
      omega
    · split at h
      · rename_i hv hf
        cases h
        have e : n ++ 61 :: qText v ++ z = n ++ 61 :: (qText v ++ z) := by simp
        have tl := tokLen_app n (61 :: (qText v ++ z)) nall (fun c y e => by cases e; exact tok61)
        have told1 : told (n ++ 61 :: (qText v ++ z)) n.length = true := decide_eq_true ⟨nlen, by simp, getD_app _ _ _⟩
        have tv : tokLen ((n ++ 61 :: (qText v ++ z)).drop (n.length + 1)) = 0 := by
          rw [drop_app1]
          exact tokLen_app [] (qText v ++ z) rfl (fun c y e => by unfold qText at e; cases e; exact tok34)
        have ub := unqR_back v z hf
        have q0 : qlen ((n ++ 61 :: (qText v ++ z)).drop (n.length + 1)) ≠ 0 := by
          rw [drop_app1]
          intro h0
          rw [unqR_q _ h0] at ub
          cases ub
        obtain ⟨y, hy1, hy2⟩ := rp_quo tl told1 tv rfl q0
        rw [drop_app1, ub] at hy1
        rw [drop_app1, List.take_left] at hy2
        have e1 : v = y := congrArg (fun a => a.1) hy1
        have e2 : ((qText v).length : Int) = (qlen (qText v ++ z) : Int) := congrArg (fun a => a.2.1) hy1
        subst e1
        show pstep (59 :: 32 :: (n ++ 61 :: qText v ++ z)) = _
        rw [e, pstep_at hn hy2 (by show n.length + 1 + _ ≠ 0; omega)]
        simp
        omega
      · cases h
theorem prt1_head {p : Prm} {x : List UInt8} (h : prt1 p = some x) : ∃ y, x = 59 :: y := by
  unfold prt1 at h
  (repeat' split at h) <;> first | (cases h; exact ⟨_, rfl⟩) | cases h
theorem prts_stops : ∀ {t : List Prm} {x : List UInt8}, prts t = some x → Stops x
  | [], x, h => by cases h; exact .inl rfl
  | p :: r, x, h => by
    unfold prts at h
    cases hp : prt1 p with
    | none => rw [hp] at h; cases h
    | some a =>
      rw [hp] at h
      obtain ⟨b, hb, rfl⟩ := Option.map_eq_some_iff.1 h
      obtain ⟨y, rfl⟩ := prt1_head hp
      exact .inr ⟨_, rfl⟩
theorem prm_prts : ∀ (t : List Prm) (x : List UInt8), prts t = some x → prm x = some (t, x.length)
  | [], x, h => by cases h; exact prm_end (pstep_stop rfl)
  | p :: r, x, h => by
    unfold prts at h
    cases hp : prt1 p with
    | none => rw [hp] at h; cases h
    | some a =>
      rw [hp] at h
      obtain ⟨b, hb, rfl⟩ := Option.map_eq_some_iff.1 h
      have ih := prm_prts r b hb
      show prm (a ++ b) = _
      rw [prm_on (pstep_prt hp (prts_stops hb)), List.drop_left, ih, List.length_append]
      rfl
theorem qText_len (v : List UInt8) : (qText v).length ≤ 2 * v.length + 2 := by
  have := qBody_le v
  unfold qText
  simp
  omega
theorem prt1_len {p : Prm} {x : List UInt8} (h : prt1 p = some x) : x.length ≤ 2 * szP p := by
  have := qText_len p.2.1
  unfold prt1 at h
  unfold szP
  (repeat' split at h) <;> first | (cases h; simp; omega) | cases h
theorem drop_nth (t : List Prm) (k : Nat) (h : k < t.length) : t.drop k = nth t k :: t.drop (k + 1) := by
  rw [List.drop_eq_getElem_cons h]
  unfold nth
  rw [List.getD_eq_getElem?_getD, List.getElem?_eq_getElem h]
  rfl
theorem sumP_drop (t : List Prm) (k : Nat) (h : k < t.length) : sumP (t.drop k) = szP (nth t k) + sumP (t.drop (k + 1)) := by
  rw [drop_nth t k h]; rfl
theorem prts_step {t : List Prm} {k : Nat} {acc a : List UInt8} (h : k < t.length) (hst : prts t = (prts (t.drop k)).map (acc ++ ·)) (ha : prt1 (nth t k) = some a) :
    prts t = (prts (t.drop (k + 1))).map ((acc ++ a) ++ ·) := by
  rw [hst, drop_nth t k h, prts, ha]
  simp only [Option.map_map]
  congr 1
  funext y
  simp
theorem prts_bad {t : List Prm} {k : Nat} {acc : List UInt8} (h : k < t.length) (hst : prts t = (prts (t.drop k)).map (acc ++ ·)) (ha : prt1 (nth t k) = none) : printR t = ([], 15) := by
  unfold printR
  rw [hst, drop_nth t k h, prts, ha]
  rfl
theorem prts_end {t : List Prm} {acc : List UInt8} (hst : prts t = (prts (t.drop t.length)).map (acc ++ ·)) : prts t = some acc := by
  rw [hst, List.drop_length, prts]
  simp
theorem sumP_append (a b : List Prm) : sumP (a ++ b) = sumP a + sumP b := by simp [sumP]
theorem nth_sz (t : List Prm) (k : Nat) (h : k < t.length) : szP (nth t k) ≤ sumP t := by
  have h1 := sumP_append (t.take k) (t.drop k)
  rw [List.take_append_drop, sumP_drop t k h] at h1
  omega

end Oc
end Go.Proofs.YtndglpjkmgcdpaaGreatDoor

/-
  sheet: a part that was printed is read back; cut short it is not (plain).
-/
set_option linter.unusedVariables false
set_option linter.unusedSimpArgs false
namespace Go.Proofs.YtndglpjkmgcdpaaGreatDoor
open Go.RowKit Go.Shelf
namespace Sr
open Oc Tg Mf

def no13 (l : List UInt8) : Prop := ∀ c ∈ l, c ≠ 13
theorem occ_iff (X p : List UInt8) (j : Nat) : Lib.occAt X p j = true ↔ p <+: X.drop j := by unfold Lib.occAt; rw [List.isPrefixOf_iff_prefix]
theorem occ_head {X r : List UInt8} {c : UInt8} {j : Nat} (h : Lib.occAt X (c :: r) j = true) : X[j]? = some c := by
  obtain ⟨t, ht⟩ := (occ_iff _ _ _).1 h
  have := congrArg (fun y : List UInt8 => y[0]?) ht
  simp only [List.getElem?_drop, Nat.add_zero] at this
  rw [← this]
  rfl
theorem occ_room {X p : List UInt8} {j : Nat} (hp : 0 < p.length) (h : Lib.occAt X p j = true) : j + p.length ≤ X.length := by
  have := ((occ_iff _ _ _).1 h).length_le
  rw [List.length_drop] at this
  omega
theorem cut_none {X p : List UInt8} (h : ∀ j, Lib.occAt X p j = false) : Lib.cut X p = (X, [], false) := by
  unfold Lib.cut
  rw [Lib.index_none (fun j _ => h j), if_neg (by decide)]
/-- A line and its end. -/
theorem ct_line (L Z : List UInt8) (h : no13 L) : ct (L ++ [13, 10] ++ Z) = (L, Z, true) := by
  unfold ct Lib.cut
  rw [Fd.index_crlf L Z h, if_pos (by omega), Int.toNat_natCast]
  rw [show L.length + ([13, 10] : List UInt8).length = (L ++ [13, 10]).length by simp, List.drop_left, List.append_assoc, List.take_left]
/-- A line that is cut short. -/
theorem ct_short (L X : List UInt8) (h : no13 L) (hx : X <+: L ++ [13, 10]) (hl : X.length < L.length + 2) : (ct X).2.2 = false := by
  have : ∀ j, Lib.occAt X [13, 10] j = false := fun j => by
    cases ho : Lib.occAt X [13, 10] j with
    | false => rfl
    | true =>
      exfalso
      have h1 := occ_room (by decide) ho
      have h2 := occ_head ho
      simp only [List.length_cons, List.length_nil] at h1
      obtain ⟨t, ht⟩ := hx
      have h3 : (L ++ [13, 10])[j]? = some 13 := by rw [← ht, List.getElem?_append_left (by omega)]; exact h2
      rw [List.getElem?_append_left (by omega)] at h3
      exact h 13 (List.mem_of_getElem? h3) rfl
  unfold ct
  rw [cut_none this]
theorem fld_one (z a : Nat) (L Z : List UInt8) (h : no13 L) (h0 : L ≠ []) (x y : Pt.P5) (d t d' t' : Bool) (ht : takP L x d t = (0, y, d', t')) : fldP z (lnsR (L ++ [13, 10] ++ Z) a) x d t = fldP z (lnsR Z (a + L.length + 2)) y d' t' := by
  rw [lnsR_step a (by rw [ct_line L Z h]), ct_line L Z h]
  dsimp only
  rw [fldP, ht, if_neg (by simp), if_neg h0]
theorem fld_last (z a : Nat) (Z : List UInt8) (x : Pt.P5) (t : Bool) : fldP z (lnsR ([13, 10] ++ Z) a) x true t = (x, none, a + 2) := by
  have h := ct_line [] Z (fun c hc => by cases hc)
  rw [List.nil_append] at h
  rw [lnsR_step a (by rw [h]), h]
  dsimp only
  have ht : takP [] x true t = (0, x, true, t) := by unfold takP; rw [if_pos rfl]; rfl
  rw [fldP, ht, if_neg (by simp), if_pos rfl]
theorem fld_short (z a : Nat) (L X : List UInt8) (h : no13 L) (hx : X <+: L ++ [13, 10]) (hl : X.length < L.length + 2) (x : Pt.P5) (d t : Bool) : fldP z (lnsR X a) x d t = (Pt.p0, some ((z : Int), 154), 0) := by
  rw [lnsR_end a (ct_short L X h hx hl)]
  rfl

/-- The lines of a part's head. -/
def L1 (p : Pt.P5) : List UInt8 := Wr.CD ++ [58, 32] ++ Wr.valR p
def L2 (p : Pt.P5) : List UInt8 := Wr.CT ++ [58, 32] ++ p.m
theorem head_eq (p : Pt.P5) : Wr.headR p = if p.m = [] then L1 p ++ [13, 10] else L1 p ++ [13, 10] ++ (L2 p ++ [13, 10]) := by
  unfold Wr.headR L1 L2
  split <;> simp
/-- A quoted parameter is read back. -/
theorem pstep_quo (n v z : List UInt8) (hn : isTok n = true) (hf : isFld v = true) : pstep (59 :: 32 :: (n ++ 61 :: (qText v ++ z))) = some (some (3 + n.length + (qText v).length, [(n, v, true)])) := by
  obtain ⟨n0, nall⟩ := isTok_all hn
  have nlen : 0 < n.length := List.length_pos_iff.2 n0
  have tl := tokLen_app n (61 :: (qText v ++ z)) nall (fun c y e => by cases e; exact tok61)
  have told1 : Oc.told (n ++ 61 :: (qText v ++ z)) n.length = true := decide_eq_true ⟨nlen, by simp, getD_app _ _ _⟩
  have tv : tokLen ((n ++ 61 :: (qText v ++ z)).drop (n.length + 1)) = 0 := by
    rw [drop_app1]
    exact tokLen_app [] (qText v ++ z) rfl (fun c y e => by unfold qText at e; cases e; exact tok34)
  have ub := unqR_back v z hf
  have q0 : qlen ((n ++ 61 :: (qText v ++ z)).drop (n.length + 1)) ≠ 0 := by
    rw [drop_app1]
    intro h0
    rw [unqR_q _ h0] at ub
    cases ub
  obtain ⟨y, hy1, hy2⟩ := rp_quo tl told1 tv rfl q0
  rw [drop_app1, ub] at hy1
  rw [drop_app1, List.take_left] at hy2
  have e1 : v = y := congrArg (fun a => a.1) hy1
  have e2 : ((qText v).length : Int) = (qlen (qText v ++ z) : Int) := congrArg (fun a => a.2.1) hy1
  subst e1
  rw [pstep_at hn hy2 (by show n.length + 1 + _ ≠ 0; omega)]
  congr 3
  show 2 + (n.length + 1 + qlen (qText v ++ z)) = _
  omega
theorem prm_two (n f : List UInt8) (hn : isFld n = true) (hf : isFld f = true) : prm ([59, 32] ++ nameL ++ [61] ++ qText n ++ ([59, 32] ++ fileL ++ [61] ++ qText f)) = some ([(nameL, n, true), (fileL, f, true)], ([59, 32] ++ nameL ++ [61] ++ qText n ++ ([59, 32] ++ fileL ++ [61] ++ qText f)).length) := by
  have e1 : [59, 32] ++ nameL ++ [61] ++ qText n ++ ([59, 32] ++ fileL ++ [61] ++ qText f) = 59 :: 32 :: (nameL ++ 61 :: (qText n ++ ([59, 32] ++ fileL ++ [61] ++ qText f))) := by simp
  have e2 : [59, 32] ++ fileL ++ [61] ++ qText f = 59 :: 32 :: (fileL ++ 61 :: (qText f ++ [])) := by simp
  have p2 := pstep_quo fileL f [] (by decide +kernel) hf
  have m2 : prm ([59, 32] ++ fileL ++ [61] ++ qText f) = some ([(fileL, f, true)], 3 + fileL.length + (qText f).length) := by
    rw [e2, prm_on p2, List.drop_of_length_le (by simp; omega), prm_end (pstep_stop rfl)]
    rfl
  have p1 := pstep_quo nameL n ([59, 32] ++ fileL ++ [61] ++ qText f) (by decide +kernel) hn
  have ed : (59 :: 32 :: (nameL ++ 61 :: (qText n ++ ([59, 32] ++ fileL ++ [61] ++ qText f)))).drop (3 + nameL.length + (qText n).length) = [59, 32] ++ fileL ++ [61] ++ qText f := by
    rw [← e1, show 3 + nameL.length + (qText n).length = ([59, 32] ++ nameL ++ [61] ++ qText n).length by simp; omega, List.drop_left]
  rw [e1, prm_on p1, ed, m2]
  simp
  omega
theorem prm_one (n : List UInt8) (hn : isFld n = true) : prm ([59, 32] ++ nameL ++ [61] ++ qText n) = some ([(nameL, n, true)], ([59, 32] ++ nameL ++ [61] ++ qText n).length) := by
  have e1 : [59, 32] ++ nameL ++ [61] ++ qText n = 59 :: 32 :: (nameL ++ 61 :: (qText n ++ [])) := by simp
  have p1 := pstep_quo nameL n [] (by decide +kernel) hn
  rw [e1, prm_on p1, List.drop_of_length_le (by simp; omega), prm_end (pstep_stop rfl)]
  simp
  omega
theorem val_split (p : Pt.P5) : Wr.valR p = formL ++ (if p.h then [59, 32] ++ nameL ++ [61] ++ qText p.n ++ ([59, 32] ++ fileL ++ [61] ++ qText p.f) else [59, 32] ++ nameL ++ [61] ++ qText p.n) := by
  unfold Wr.valR
  split <;> simp [Wr.K1, Wr.K2, formL, nameL, fileL]
theorem dis_val (p : Pt.P5) (hn : isFld p.n = true) (hf : isFld p.f = true) : Ds.disR (Wr.valR p) = (formL, if p.h then [(nameL, p.n, true), (fileL, p.f, true)] else [(nameL, p.n, true)], 0) := by
  have hs := val_split p
  have htk : tokLen (Wr.valR p) = formL.length := by
    rw [hs]
    refine tokLen_app _ _ (by decide +kernel) (fun c y e => ?_)
    split at e <;> (simp at e; rw [← e.1]; exact tok59)
  have hd : (Wr.valR p).drop formL.length = if p.h then [59, 32] ++ nameL ++ [61] ++ qText p.n ++ ([59, 32] ++ fileL ++ [61] ++ qText p.f) else [59, 32] ++ nameL ++ [61] ++ qText p.n := by rw [hs, List.drop_left]
  have htake : (Wr.valR p).take formL.length = formL := by rw [hs, List.take_left]
  unfold Ds.disR
  rw [Wr.val_trim]
  dsimp only
  rw [htk, hd, htake]
  have hl1 : formL.length ≤ (Wr.valR p).length := by rw [hs, List.length_append]; omega
  have hlen : (Wr.valR p).length = formL.length + ((Wr.valR p).drop formL.length).length := by rw [List.length_drop]; omega
  rw [hd] at hlen
  cases hh : p.h with
  | true =>
    rw [hh] at hlen
    simp only [if_true] at hlen ⊢
    rw [paramsR_some (prm_two p.n p.f hn hf)]
    rw [if_neg]
    · exact rfl
    · rintro (h | h | h | h)
      · revert h; decide
      · exact h rfl
      · exact h (by rw [hlen]; push_cast; rfl)
      · revert h; exact (by decide : ¬ (Ds.lowOk [(nameL, ([] : List UInt8), true), (fileL, [], true)] = false))
  | false =>
    rw [hh] at hlen
    simp only [Bool.false_eq_true, if_false] at hlen ⊢
    rw [paramsR_some (prm_one p.n hn)]
    rw [if_neg]
    · exact rfl
    · rintro (h | h | h | h)
      · revert h; decide
      · exact h rfl
      · exact h (by rw [hlen]; push_cast; rfl)
      · revert h; exact (by decide : ¬ (Ds.lowOk [(nameL, ([] : List UInt8), true)] = false))

end Sr
end Go.Proofs.YtndglpjkmgcdpaaGreatDoor

/-
  sheet: heads, parts, bodies that were printed are read back; cut short they are not (plain).
-/
set_option linter.unusedVariables false
set_option linter.unusedSimpArgs false
namespace Go.Proofs.YtndglpjkmgcdpaaGreatDoor
open Go.RowKit Go.Shelf
namespace Sr
open Oc Tg Mf

theorem ok_parts {p : Pt.P5} (h : Wr.okPt p = true) : isFld p.n = true ∧ isFld p.f = true ∧ (p.h = false → p.f = []) ∧ Fd.isValue (Wr.valR p) = true ∧ (p.m ≠ [] → Fd.isValue p.m = true) := by
  unfold Wr.okPt Wr.pass at h
  simp only [Bool.and_eq_true, Bool.or_eq_true, decide_eq_true_eq] at h
  obtain ⟨⟨h1, h2, h3⟩, h4, h5⟩ := h
  exact ⟨h1, h2, fun e => h3.resolve_left (by rw [e]; decide), h4, fun e => h5.resolve_left e⟩
theorem L1_line (p : Pt.P5) : L1 p = Fd.lineP (Wr.CD, Wr.valR p) := by
  unfold L1 Fd.lineP
  rw [if_neg (Wr.val_ne p)]
  simp
theorem L2_line (p : Pt.P5) (h : p.m ≠ []) : L2 p = Fd.lineP (Wr.CT, p.m) := by
  unfold L2 Fd.lineP
  rw [if_neg h]
  simp
theorem cd_ok : Fd.isName Wr.CD = true := by decide +kernel
theorem ct_ok : Fd.isName Wr.CT = true := by decide +kernel
theorem L1_13 {p : Pt.P5} (h : Wr.okPt p = true) : no13 (L1 p) := by
  rw [L1_line]
  exact Fd.line_13 cd_ok (ok_parts h).2.2.2.1
theorem L2_13 {p : Pt.P5} (h : Wr.okPt p = true) (hm : p.m ≠ []) : no13 (L2 p) := by
  rw [L2_line p hm]
  exact Fd.line_13 ct_ok ((ok_parts h).2.2.2.2 hm)
theorem tak_one {p : Pt.P5} (h : Wr.okPt p = true) : takP (L1 p) Pt.p0 false false = (0, ⟨p.n, p.f, [], [], p.h⟩, true, false) := by
  obtain ⟨h1, h2, h3, h4, h5⟩ := ok_parts h
  have hp : Fd.parseL (L1 p) = ((Wr.CD, Wr.valR p), 0, 0) := by rw [L1_line]; exact Fd.parse_line cd_ok h4
  have hne : L1 p ≠ [] := by unfold L1 Wr.CD; simp
  have hlow : lowS (str Wr.CD) = lowS cdS := rfl
  have hd : dspP (Wr.valR p) Pt.p0 false = (0, ⟨p.n, p.f, [], [], p.h⟩, true) := by
    unfold dspP
    rw [dis_val p h1 h2]
    dsimp only
    rw [if_neg (by simp)]
    cases hh : p.h with
    | true =>
      have e : dfold Pt.p0 [(nameL, p.n, true), (fileL, p.f, true)] = (⟨p.n, p.f, [], [], true⟩, true) := rfl
      simp only [if_true]
      rw [e]
      rfl
    | false =>
      have e : dfold Pt.p0 [(nameL, p.n, true)] = (⟨p.n, [], [], [], false⟩, true) := rfl
      simp only [Bool.false_eq_true, if_false]
      rw [e, h3 hh]
      rfl
  unfold takP
  rw [if_neg hne, hp]
  dsimp only
  rw [if_neg (by simp), if_pos hlow, hd]
theorem tak_two {p : Pt.P5} (h : Wr.okPt p = true) (hm : p.m ≠ []) : takP (L2 p) ⟨p.n, p.f, [], [], p.h⟩ true false = (0, ⟨p.n, p.f, p.m, [], p.h⟩, true, true) := by
  have h5 := (ok_parts h).2.2.2.2 hm
  have hp : Fd.parseL (L2 p) = ((Wr.CT, p.m), 0, 0) := by rw [L2_line p hm]; exact Fd.parse_line ct_ok h5
  have hne : L2 p ≠ [] := by unfold L2 Wr.CT; simp
  have hlow : lowS (str Wr.CT) = lowS ctS := rfl
  have hno : ¬ lowS (str Wr.CT) = lowS cdS := by
    intro e
    have := congrArg (fun x : ByteArray => x.size) e
    revert this
    decide +kernel
  unfold takP
  rw [if_neg hne, hp]
  dsimp only
  rw [if_neg (by simp), if_neg hno, if_pos hlow]
  rfl
theorem pre_split {X A B : List UInt8} (h : X <+: A ++ B) : (X <+: A ∧ X.length < A.length) ∨ ∃ Y, X = A ++ Y ∧ Y <+: B := by
  rcases Nat.lt_or_ge X.length A.length with hl | hl
  · exact .inl ⟨List.prefix_of_prefix_length_le h (List.prefix_append A B) (by omega), hl⟩
  · obtain ⟨Y, rfl⟩ := List.prefix_of_prefix_length_le (List.prefix_append A B) h hl
    exact .inr ⟨Y, rfl, (List.prefix_append_right_inj A).1 h⟩
/-- The fields of a head that was printed. -/
theorem fds_full (z a : Nat) {p : Pt.P5} (h : Wr.okPt p = true) (Z : List UInt8) : fldP z (lnsR (Wr.headR p ++ ([13, 10] ++ Z)) a) Pt.p0 false false = ({ p with b := [] }, none, a + (Wr.headR p).length + 2) := by
  have hne : L1 p ≠ [] := by unfold L1 Wr.CD; simp
  rw [head_eq]
  by_cases hm : p.m = []
  · rw [if_pos hm, fld_one z a (L1 p) ([13, 10] ++ Z) (L1_13 h) hne _ _ _ _ _ _ (tak_one h), fld_last]
    obtain ⟨n, f, m, b, hh⟩ := p
    dsimp only at hm
    subst hm
    simp
    omega
  · have hne2 : L2 p ≠ [] := by unfold L2 Wr.CT; simp
    rw [if_neg hm, List.append_assoc (L1 p ++ [13, 10]), fld_one z a (L1 p) _ (L1_13 h) hne _ _ _ _ _ _ (tak_one h), fld_one z _ (L2 p) _ (L2_13 h hm) hne2 _ _ _ _ _ _ (tak_two h hm), fld_last]
    simp
    omega
/-- The fields of a head that is cut short. -/
theorem fds_cut (z a : Nat) {p : Pt.P5} (h : Wr.okPt p = true) (X : List UInt8) (hx : X <+: Wr.headR p ++ [13, 10]) (hl : X.length < (Wr.headR p).length + 2) : fldP z (lnsR X a) Pt.p0 false false = (Pt.p0, some ((z : Int), 154), 0) := by
  have hne : L1 p ≠ [] := by unfold L1 Wr.CD; simp
  rw [head_eq] at hx hl
  by_cases hm : p.m = []
  · rw [if_pos hm] at hx hl
    rcases pre_split hx with ⟨h1, h2⟩ | ⟨Y, rfl, h1⟩
    · exact fld_short z a (L1 p) X (L1_13 h) h1 (by simpa using h2) _ _ _
    · rw [fld_one z a (L1 p) Y (L1_13 h) hne _ _ _ _ _ _ (tak_one h)]
      exact fld_short z _ [] Y (fun c hc => by cases hc) h1 (by simp at hl ⊢; omega) _ _ _
  · have hne2 : L2 p ≠ [] := by unfold L2 Wr.CT; simp
    rw [if_neg hm] at hx hl
    rw [List.append_assoc (L1 p ++ [13, 10])] at hx
    rcases pre_split hx with ⟨h1, h2⟩ | ⟨Y, rfl, h1⟩
    · exact fld_short z a (L1 p) X (L1_13 h) h1 (by simpa using h2) _ _ _
    · rw [fld_one z a (L1 p) Y (L1_13 h) hne _ _ _ _ _ _ (tak_one h)]
      rcases pre_split h1 with ⟨h3, h4⟩ | ⟨V, rfl, h3⟩
      · exact fld_short z _ (L2 p) Y (L2_13 h hm) h3 (by simpa using h4) _ _ _
      · rw [fld_one z _ (L2 p) V (L2_13 h hm) hne2 _ _ _ _ _ _ (tak_two h hm)]
        exact fld_short z _ [] V (fun c hc => by cases hc) h3 (by simp at hl ⊢; omega) _ _ _

/-- A mark stands nowhere in a text. -/
def free (mk B : List UInt8) : Prop := ∀ i, Lib.occAt B mk i = false
theorem mk_in {mk B Y : List UInt8} {i : Nat} (h13 : no13 mk) (hi : i ≤ B.length) (h : mk <+: (B ++ 13 :: Y).drop i) : Lib.occAt B mk i = true := by
  rw [List.drop_append_of_le_length hi] at h
  rw [occ_iff]
  rcases Nat.lt_or_ge (B.drop i).length mk.length with hl | hl
  · exfalso
    have h2 : B.drop i ++ [13] <+: B.drop i ++ 13 :: Y := ⟨Y, by simp⟩
    have h3 := List.prefix_of_prefix_length_le h2 h (by simp at hl ⊢; omega)
    exact h13 13 (h3.subset (by simp)) rfl
  · exact List.prefix_of_prefix_length_le h (List.prefix_append _ _) hl
theorem free_front {mk B Y X : List UInt8} (h13 : no13 mk) (hf : free mk B) (hx : X <+: B ++ 13 :: Y) : Lib.hasPrefix X mk = false := by
  cases h : Lib.hasPrefix X mk with
  | false => rfl
  | true =>
    have h1 : mk <+: (B ++ 13 :: Y).drop 0 := (List.isPrefixOf_iff_prefix.1 h).trans hx
    have := mk_in h13 (Nat.zero_le _) h1
    rw [hf 0] at this
    cases this
theorem free_occ {mk B Y : List UInt8} (h13 : no13 mk) (hm : mk ≠ []) (hf : free mk B) : Lib.NoOcc (B ++ 13 :: 10 :: Y) ([13, 10] ++ mk) B.length := fun j hj => by
  cases h : Lib.occAt (B ++ 13 :: 10 :: Y) ([13, 10] ++ mk) j with
  | false => rfl
  | true =>
    exfalso
    have h1 := (occ_iff _ _ _).1 h
    obtain ⟨t, ht⟩ := h1
    have h2 : mk <+: (B ++ 13 :: 10 :: Y).drop (j + 2) := ⟨t, by rw [← List.drop_drop, ← ht]; simp⟩
    rcases Nat.lt_or_ge B.length (j + 2) with h3 | h3
    · have hj1 : j + 1 = B.length := by omega
      have h4 := congrArg (fun y : List UInt8 => y[1]?) ht
      simp only [List.getElem?_drop] at h4
      rw [hj1, List.getElem?_append_right (Nat.le_refl _), Nat.sub_self] at h4
      simp at h4
    · have := mk_in h13 h3 h2
      rw [hf (j + 2)] at this
      cases this
/-- Bytes up to the mark. -/
theorem byt_full {mk B R : List UInt8} (h13 : no13 mk) (hm : mk ≠ []) (hf : free mk B) (hR : mk <+: R) (z : Nat) : bytP (B ++ ([13, 10] ++ R)) mk z = (B, none, B.length + 2) := by
  obtain ⟨t, rfl⟩ := hR
  have hn : Lib.NoOcc (B ++ ([13, 10] ++ (mk ++ t))) ([13, 10] ++ mk) B.length := free_occ (Y := mk ++ t) h13 hm hf
  have ho : Lib.occAt (B ++ ([13, 10] ++ (mk ++ t))) ([13, 10] ++ mk) B.length = true := by
    rw [occ_iff, List.drop_left]
    exact ⟨t, by simp⟩
  unfold bytP
  rw [cut_hit hn (by simp) ho, List.take_left, if_pos rfl]
/-- Bytes that are cut short. -/
theorem byt_cut {mk B R X : List UInt8} (h13 : no13 mk) (hm : mk ≠ []) (hf : free mk B) (hx : X <+: B ++ ([13, 10] ++ R)) (hl : X.length < B.length + 2 + mk.length) (z : Nat) : bytP X mk z = ([], some ((z : Int), 154), 0) := by
  have hn := free_occ (Y := R) h13 hm hf
  have : ∀ j, Lib.occAt X ([13, 10] ++ mk) j = false := fun j => by
    cases ho : Lib.occAt X ([13, 10] ++ mk) j with
    | false => rfl
    | true =>
      have h1 := occ_room (by simp) ho
      simp only [List.length_append, List.length_cons, List.length_nil] at h1
      have h2 := hn j (by omega)
      have h3 : Lib.occAt (B ++ 13 :: 10 :: R) ([13, 10] ++ mk) j = true := by
        rw [occ_iff] at ho ⊢
        obtain ⟨t, ht⟩ := hx
        have e : B ++ 13 :: 10 :: R = X ++ t := by rw [ht]; simp
        rw [e, List.drop_append_of_le_length (by omega)]
        exact ho.trans (List.prefix_append _ _)
      rw [h2] at h3
      cases h3
  unfold bytP
  rw [cut_none this, if_neg (by simp)]
/-- A part that was printed is read back. -/
theorem prt_full {l mk R : List UInt8} {a : Nat} {p : Pt.P5} (ha : a ≤ l.length) (h13 : no13 mk) (hm : mk ≠ []) (hok : Wr.okPt p = true) (hf : free mk p.b) (hl : l.drop a = Wr.headR p ++ ([13, 10] ++ (p.b ++ ([13, 10] ++ R)))) (hR : mk <+: R) :
    prtP l mk a = (p, none, a + (Wr.headR p).length + 2 + (p.b.length + 2)) := by
  have hF : fdsP l a = ({ p with b := [] }, none, a + (Wr.headR p).length + 2) := by
    unfold fdsP
    rw [hl]
    exact fds_full _ _ hok _
  have hd : l.drop (a + (Wr.headR p).length + 2) = p.b ++ ([13, 10] ++ R) := by
    rw [Nat.add_assoc, ← List.drop_drop, hl, show (Wr.headR p).length + 2 = (Wr.headR p ++ [13, 10]).length by simp, ← List.append_assoc, List.drop_left]
  unfold prtP
  rw [hF]
  dsimp only
  rw [if_neg (by simp), hd, if_neg (by rw [free_front h13 hf (Y := 10 :: R) (X := p.b ++ ([13, 10] ++ R)) ⟨[], by simp⟩]; decide), byt_full h13 hm hf hR]
/-- A part that is cut short. -/
theorem prt_cut {l mk R X : List UInt8} {a : Nat} {p : Pt.P5} (ha : a ≤ l.length) (h13 : no13 mk) (hm : mk ≠ []) (hok : Wr.okPt p = true) (hf : free mk p.b) (hl : l.drop a = X) (hx : X <+: Wr.headR p ++ ([13, 10] ++ (p.b ++ ([13, 10] ++ R)))) (hs : X.length < (Wr.headR p).length + 2 + (p.b.length + 2) + mk.length) :
    (prtP l mk a).2.1 = some ((l.length : Int), 154) := by
  rw [← List.append_assoc (Wr.headR p)] at hx
  rcases pre_split hx with ⟨h1, h2⟩ | ⟨Y, rfl, h1⟩
  · have hF : fdsP l a = (Pt.p0, some ((l.length : Int), 154), 0) := by
      unfold fdsP
      rw [hl]
      exact fds_cut _ _ hok X h1 (by simpa using h2)
    unfold prtP
    rw [hF]
    rw [if_pos (by simp)]
  · have hF : fdsP l a = ({ p with b := [] }, none, a + (Wr.headR p).length + 2) := by
      unfold fdsP
      rw [hl, List.append_assoc]
      exact fds_full _ _ hok _
    have hd : l.drop (a + (Wr.headR p).length + 2) = Y := by
      rw [Nat.add_assoc, ← List.drop_drop, hl, show (Wr.headR p).length + 2 = (Wr.headR p ++ [13, 10]).length by simp, List.drop_left]
    unfold prtP
    rw [hF]
    dsimp only
    rw [if_neg (by simp), hd, if_neg (by rw [free_front h13 hf (Y := 10 :: R) (X := Y) (by simpa using h1)]; decide), byt_cut h13 hm hf h1 (by simp at hs; omega)]

end Sr
end Go.Proofs.YtndglpjkmgcdpaaGreatDoor

/-
  sheet: takeNumbers.
-/
set_option linter.unusedVariables false
set_option linter.unusedSimpArgs false
namespace Go.Proofs.YtndglpjkmgcdpaaGreatDoor
open Go.RowKit Go.Shelf
namespace Mf
open Oc Tg

/-- What has been taken so far. -/
def StT (b : Bs) (L n0 : Nat) (ks0 : List Nat) (f : Bool) (R : Bs) (n : Nat) (ks : List Nat) : Prop :=
  f = false ∧ (∀ m, m ∈ ks ↔ m ∈ ks0 ∨ (m ≤ L ∧ std b m)) ∧ n ≤ n0 + b.length * 1048577 ∨ f = true ∧ ∃ c, c ≤ b.length ∧ R = b.drop c ∧ At b c ∧ 6 ≤ c ∧ n + 1048577 ≤ n0 + c * 1048577 ∧ (∀ m, (m ∈ ks0 ∨ Tk L b c m) ↔ (m ∈ ks ∨ (m ≤ L ∧ D m <+: b.drop c)))
def msT (r f : Value) : Nat := match f with | .bool true => (match r with | .string s => s.size + 1 | _ => 1) | _ => 0
theorem MI.keep {B n : Nat} {L : List Nat} {w w' : World} (h : MI B n L w) (hb : w'.heap[B]? = w.heap[B]?) : MI B n L w' := by
  obtain ⟨es, clock, h1, r⟩ := h
  exact ⟨es, clock, hb.trans h1, r⟩
theorem MI.lt {B n : Nat} {L : List Nat} {w : World} (h : MI B n L w) : B < w.heap.size := World.ownsMap.lt h
theorem turned_blockI {w w' : World} {B : Nat} (h : w.mapTurned w' B) (k : Nat) (hk : k ≠ B) : w'.heap[k]? = w.heap[k]? := by
  obtain ⟨es, clock, es', clock', hb, rfl⟩ := h
  exact ChangeMaps.heap_setBlock_other hb (.map es' clock') hk
theorem OwnZ.keepB {B C : Nat} {v : Value} {l : List Nat} {w w' : World} (h : OwnZ B v l w) (hC : C < B) (hk : ∀ k, k ≠ C → w'.heap[k]? = w.heap[k]?) : OwnZ B v l w' := by
  refine ⟨h.1, ?_⟩
  rcases h.2 with hn | ⟨g, cap, cur, rfl, hb, hg, rest⟩
  · exact .inl hn
  · exact .inr ⟨g, cap, cur, rfl, hb, (hk g (by omega)).trans hg, rest⟩
theorem bel_m {n : Nat} {w w1 w2 : World} (h : Below n w w1) (k : Below w1.heap.size w1 w2) (hn : n ≤ w1.heap.size) : Below n w w2 := h.trans (k.mono hn)

set_option maxRecDepth 100000 in
set_option maxHeartbeats 4000000 in
theorem takeNumbers_any (M n0 : Nat) (ks0 : List Nat) (b : Bs) (L : Nat) (hb : b.length ≤ 1048576) (hL : L ≤ 1048576) (hn0 : n0 ≤ 4611686018427387904) (w : World) (hM : MI M n0 ks0 w) (hw : ML w) (hM1 : 1 + 1 ≤ M) :
    Calls Tryz.prog 38 #[.map (some M), .string (str b), .int .i64 (L : Int)] w fun e w' => e = .returned (.tuple #[]) ∧ ∃ n ks, MI M n ks w' ∧ (∀ m, m ∈ ks ↔ m ∈ ks0 ∨ (m ≤ L ∧ std b m)) ∧ n ≤ n0 + b.length * 1048577 ∧ Below M w w' := by
  have HC : Hid (∀ c W, Below M w W → Calls Tryz.prog 60 #[.string (str (b.drop c)), .string (str PP)] W fun e w' => e = .returned (.tuple #[.string (str (Lib.cut (b.drop c) PP).1), .string (str (Lib.cut (b.drop c) PP).2.1), .bool (Lib.cut (b.drop c) PP).2.2]) ∧ Below (World.heap W).size W w') := fun c W hbl => by
    have hm : ML W := by
      obtain ⟨m, hm⟩ := hw
      exact ⟨m, (hbl.cell (p := ⟨1, 0, none⟩) (by show 1 < M; omega)).trans hm⟩
    have := Cut_g (str (b.drop c)) (str PP) (by rw [str_size, List.length_drop]; omega) W hm
    rw [str_list, str_list] at this
    exact this
  have HNF : Hid (∀ c W, Calls Tryz.prog 61 #[.string (str (b.drop c)), .int .i64 (L : Int)] W fun e w' => ∃ v ns, e = .returned v ∧ OwnZ W.heap.size v ns w' ∧ ns.length ≤ (b.drop c).length ∧ (∀ m, m ∈ ns ↔ m ≤ L ∧ D m <+: b.drop c) ∧ Below W.heap.size W w') := fun c W => numbersAtFront_any (b.drop c) L (by rw [List.length_drop]; omega) hL W
  have HML := MI.lt hM
  have HM0 : Hid (MI M n0 ks0 w) := hM
  clear hw hM
  have HS0 : Hid (str b = str (b.drop 0)) := (by rw [List.drop_zero] : _ = _)
  have HEnd : Hid (∀ (c : Nat) (ks : List Nat), At b c → (∀ m, m ∈ ks ↔ m ∈ ks0 ∨ Tk L b c m) → (∀ j, j ≤ (b.drop c).length → Lib.occAt (b.drop c) PP j = false) → ∀ m, m ∈ ks ↔ m ∈ ks0 ∨ (m ≤ L ∧ std b m)) := fun c ks ha hk hno m => by
    rw [hk m]
    constructor
    · rintro (h | h)
      · exact .inl h
      · exact .inr ⟨h.1, (Tk_end L ha hno m h.1).1 h⟩
    · rintro (h | ⟨h1, h2⟩)
      · exact .inl h
      · exact .inr ((Tk_end L ha hno m h1).2 h2)
  rw [HS0.out]
  go_enter Tryz.func38, Tryz.ntmps38
  go_wp2_with fail
  rw [show (⟨#[45, 45, 102, 111, 114, 109]⟩ : ByteArray) = str PP from rfl]
  refine (HC.out 0 _ (Below.refl _ _)).mono ?_
  rintro e w1 ⟨rfl, hb1⟩
  have HB1 : Hid (Below M w w1) := hb1.mono (by omega)
  have HM1 : Hid (MI M n0 ks0 w1) := HM0.out.below hb1
  have hs1 := hb1.size
  clear hb1
  have HSt : Hid ((Lib.cut (b.drop 0) PP).2.2 = false ∧ (∀ m, m ∈ ks0 ↔ m ∈ ks0 ∨ (m ≤ L ∧ std b m)) ∨ (Lib.cut (b.drop 0) PP).2.2 = true ∧ ∃ c, c ≤ b.length ∧ (Lib.cut (b.drop 0) PP).2.1 = b.drop c ∧ At b c ∧ 6 ≤ c ∧ (∀ m, (m ∈ ks0 ∨ Tk L b c m) ↔ (m ∈ ks0 ∨ (m ≤ L ∧ D m <+: b.drop c)))) := by
    show _ ∨ _
    rcases Lib.index_spec (b.drop 0) PP with ⟨hix, hno⟩ | ⟨i0, hix, hi, ho, hno⟩
    · left
      rw [cut_no hix]
      exact ⟨rfl, HEnd.out 0 ks0 (.inl rfl) (fun m => ⟨fun h => .inl h, fun h => h.elim id (fun h => absurd h (Tk_zero L b m))⟩) hno⟩
    · right
      have hroom : i0 + 6 ≤ (b.drop 0).length := by
        rcases Lib.occAt_room ho with h | h
        · exact h
        · exact absurd h (by decide)
      rw [List.length_drop] at hroom
      rw [cut_yes hix]
      refine ⟨rfl, 0 + i0 + 6, by omega, by rw [List.drop_drop]; rfl, .inr ⟨by omega, by rw [occ_drop] at ho; rw [show 0 + i0 + 6 - 6 = 0 + i0 by omega]; exact ho⟩, by omega, fun m => ?_⟩
      rw [Tk_step L (.inl rfl) ho hno m]
      constructor
      · rintro (h | h | h)
        · exact .inl h
        · exact absurd h (Tk_zero L b m)
        · exact .inr h
      · rintro (h | h)
        · exact .inl h
        · exact .inr (.inr h)
  generalize (Lib.cut (b.drop 0) PP).2.2 = F0 at *
  generalize (Lib.cut (b.drop 0) PP).2.1 = R0 at *
  go_wp2
  go_loopw [7, 8] (fun rv fv wr => ∃ (f : Bool) (R : Bs) (n : Nat) (ks : List Nat), rv = .string (str R) ∧ fv = .bool f ∧ Hid (StT b L n0 ks0 f R n ks) ∧ Hid (MI M n ks wr) ∧ Hid (Below M w wr) ∧ Hid (w.heap.size ≤ wr.heap.size)) (fun rv fv _ => msT rv fv)
  case atStart =>
    refine ⟨F0, R0, n0, ks0, rfl, rfl, ?_, HM1, HB1, hs1⟩
    show _ ∨ _
    rcases HSt.out with ⟨h1, h2⟩ | ⟨h1, c, h2, h3, h4, h5, h6⟩
    · left; exact ⟨h1, h2, by omega⟩
    · right; exact ⟨h1, c, h2, h3, h4, h5, by omega, h6⟩
  case round =>
    obtain ⟨f, R, n, ks, rfl, rfl, hst, hmi, hbl, hszz⟩ := hrel
    obtain ⟨wo, rfl⟩ : ∃ wo, wo = wr := ⟨_, rfl⟩
    cases f with
    | false =>
      have HF : Hid ((∀ m, m ∈ ks ↔ m ∈ ks0 ∨ (m ≤ L ∧ std b m)) ∧ n ≤ n0 + b.length * 1048577) := by
        show _ ∧ _
        rcases hst.out with ⟨_, h⟩ | ⟨h, _⟩
        · exact h
        · cases h
      clear hst
      go_wp2
      go_end0
      exact ⟨rfl, n, ks, hmi.out, HF.out.1, HF.out.2, hbl.out⟩
    | true =>
      have HT : Hid (∃ c, c ≤ b.length ∧ R = b.drop c ∧ At b c ∧ 6 ≤ c ∧ n + 1048577 ≤ n0 + c * 1048577 ∧ (∀ m, (m ∈ ks0 ∨ Tk L b c m) ↔ (m ∈ ks ∨ (m ≤ L ∧ D m <+: b.drop c)))) := by
        show ∃ _, _
        rcases hst.out with ⟨h, _⟩ | ⟨_, h⟩
        · cases h
        · exact h
      obtain ⟨c, hc, rfl, hAt, h6, hcnt, hks⟩ := HT.out
      have HAt : Hid (At b c) := hAt
      have HKs : Hid (∀ m, (m ∈ ks0 ∨ Tk L b c m) ↔ (m ∈ ks ∨ (m ≤ L ∧ D m <+: b.drop c))) := hks
      have HCnt : Hid (n + 1048577 ≤ n0 + c * 1048577) := hcnt
      clear HT hst hAt hks hcnt
      have hMo : M < wo.heap.size := MI.lt hmi.out
      go_wp2_with fail
      refine (HNF.out c _).mono ?_
      rintro e w2 ⟨v, ns, rfl, ho2, hnl, hns, hb2⟩
      have HO2 : Hid (OwnZ (M + 1) v ns w2) := ho2.mono (by omega)
      have HM2 : Hid (MI M n ks w2) := hmi.out.below hb2
      have HB2 : Hid (Below M w w2) := hbl.out.trans (hb2.mono (by omega))
      have HZ2 : Hid (w.heap.size ≤ w2.heap.size) := Nat.le_trans hszz.out hb2.size
      have HNS : Hid (∀ m, m ∈ ns ↔ m ≤ L ∧ D m <+: b.drop c) := hns
      have hnl2 : ns.length ≤ 1048576 := by rw [List.length_drop] at hnl; omega
      obtain ⟨av, cv, rfl⟩ := OwnZ.form ho2
      clear ho2 hns hb2 hnl
      go_wp2
      go_loopw [22] (fun iv wr => ∃ q : Nat, q ≤ ns.length ∧ iv = .int .i64 (q : Int) ∧ Hid (MI M (n + q) (ks ++ ns.take q) wr) ∧ Hid (OwnZ (M + 1) (.slice av ns.length cv) ns wr) ∧ Hid (Below M w wr) ∧ Hid (w.heap.size ≤ wr.heap.size)) (fun iv _ => ns.length - (intOf iv).toNat)
      case atStart => exact ⟨0, Nat.zero_le _, rfl, (by rw [List.take_zero, List.append_nil]; exact HM2.out : MI _ _ _ _), HO2, HB2, HZ2⟩
      case round =>
        obtain ⟨q, hq, rfl, hM3, hO3, hB3, hZ3⟩ := hrel
        by_cases hqn : q < ns.length
        · obtain ⟨g, cc, ev, hcc, hg1, hg2, hcell⟩ := OwnZ.cell hO3.out q hqn
          injection ev with ev1 ev2 ev3
          subst ev1 ev3
          have HTq : Hid (ks ++ ns.take (q + 1) = ks ++ ns.take q ++ [ns[q]]) := (by rw [List.take_succ_eq_append_getElem hqn, List.append_assoc] : _ = _)
          have hle : ns[q] ≤ L := ((HNS.out _).1 (List.getElem_mem hqn)).1
          have hcm : n + q < maxLen := by
            have h1 := HCnt.out
            have h2 : c * 1048577 ≤ 1048576 * 1048577 := Nat.mul_le_mul (by omega) (Nat.le_refl _)
            unfold maxLen
            omega
          generalize ns[q] = U at *
          go_wp2_with (refine wp_putI _ rfl _ _ _ rfl M (n + q) _ rfl hM3.out hcm U (by omega) _ rfl rfl rfl ?_; intro w4 HM4 HT4; have HB4 : Hid (Below M w w4) := hB3.out.grown HT4.out.grown (Nat.le_trans (by omega) hZ3.out) (fun k hk => by cases hk; exact Nat.le_refl _); have HO4 : Hid (OwnZ (M + 1) (.slice (some ⟨g, 0, none⟩) ns.length cv) ns w4) := OwnZ.keepB (C := M) hO3.out (by omega) (fun k hk => turned_blockI HT4.out k hk); have HZ4 : Hid (w.heap.size ≤ w4.heap.size) := Nat.le_trans hZ3.out HT4.out.grown.size; have HM5 : Hid (MI M (n + (q + 1)) (ks ++ ns.take (q + 1)) w4) := (by rw [HTq.out]; exact HM4.out : MI _ _ _ _); clear HT4 HM4)
          go_roundw
          case rel => exact ⟨q + 1, by omega, by go_num, HM5, HO4, HB4, HZ4⟩
          case measure => simp [intOf]; omega
        · obtain rfl : q = ns.length := by omega
          rw [List.take_length] at hM3
          have HK5 : Hid (∀ m, m ∈ ks ++ ns ↔ m ∈ ks0 ∨ Tk L b c m) := fun m => by rw [HKs.out m, List.mem_append, HNS.out m]
          have hMr : M < wr.heap.size := Nat.lt_of_lt_of_le HML hZ3.out
          rcases Lib.index_spec (b.drop c) PP with ⟨hix, hno⟩ | ⟨i0, hix, hi, ho, hno⟩
          · have HF : Hid (StT b L n0 ks0 false [] (n + ns.length) (ks ++ ns)) := by
              show _ ∨ _
              refine .inl ⟨rfl, HEnd.out c _ HAt.out HK5.out hno, ?_⟩
              have h1 := HCnt.out
              have h2 : c * 1048577 ≤ b.length * 1048577 := Nat.mul_le_mul_right _ hc
              omega
            have HCc := HC.out c wr hB3.out
            rw [cut_no hix] at HCc
            have HCc' : Hid (Calls _ _ _ _ _) := HCc
            clear HCc hix hno
            go_wp2_with fail
            rw [show (⟨#[45, 45, 102, 111, 114, 109]⟩ : ByteArray) = str PP from rfl]
            refine HCc'.out.mono ?_
            rintro e w6 ⟨rfl, hb6⟩
            have HB6 : Hid (Below M w w6) := hB3.out.trans (hb6.mono (by omega))
            have HM6 : Hid (MI M (n + ns.length) (ks ++ ns) w6) := hM3.out.below hb6
            have HZ6 : Hid (w.heap.size ≤ w6.heap.size) := Nat.le_trans hZ3.out hb6.size
            clear hb6 HCc'
            go_wp2
            go_roundw
            case rel => exact ⟨false, [], n + ns.length, ks ++ ns, rfl, rfl, HF, HM6, HB6, HZ6⟩
            case measure => simp [msT]
          · have hroom : i0 + 6 ≤ (b.drop c).length := by
              rcases Lib.occAt_room ho with h | h
              · exact h
              · exact absurd h (by decide)
            rw [List.length_drop] at hroom
            have HF : Hid (StT b L n0 ks0 true (b.drop (c + i0 + 6)) (n + ns.length) (ks ++ ns)) := by
              show _ ∨ _
              refine .inr ⟨rfl, c + i0 + 6, by omega, rfl, .inr ⟨by omega, by rw [occ_drop] at ho; rw [show c + i0 + 6 - 6 = c + i0 by omega]; exact ho⟩, by omega, ?_, fun m => ?_⟩
              · have h1 := HCnt.out
                have h2 : (c + 1) * 1048577 ≤ (c + i0 + 6) * 1048577 := Nat.mul_le_mul_right _ (by omega)
                rw [Nat.succ_mul] at h2
                omega
              · rw [Tk_step L HAt.out ho hno m, HK5.out m, or_assoc]
            have HCc := HC.out c wr hB3.out
            rw [cut_yes hix, List.drop_drop, show c + (i0 + PP.length) = c + i0 + 6 from rfl] at HCc
            have HCc' : Hid (Calls _ _ _ _ _) := HCc
            have HMeas : Hid (msT (.string (str (b.drop (c + i0 + 6)))) (.bool true) < msT (.string (str (b.drop c))) (.bool true)) := (by show (str (b.drop (c + i0 + 6))).size + 1 < (str (b.drop c)).size + 1; rw [str_size, str_size, List.length_drop, List.length_drop]; omega : _ < _)
            clear HCc hix hno ho hi
            generalize str ((b.drop c).take i0) = S0 at *
            go_wp2_with fail
            rw [show (⟨#[45, 45, 102, 111, 114, 109]⟩ : ByteArray) = str PP from rfl]
            refine HCc'.out.mono ?_
            rintro e w6 ⟨rfl, hb6⟩
            have HB6 : Hid (Below M w w6) := hB3.out.trans (hb6.mono (by omega))
            have HM6 : Hid (MI M (n + ns.length) (ks ++ ns) w6) := hM3.out.below hb6
            have HZ6 : Hid (w.heap.size ≤ w6.heap.size) := Nat.le_trans hZ3.out hb6.size
            clear hb6 HCc'
            go_wp2
            go_roundw
            case rel => exact ⟨true, b.drop (c + i0 + 6), n + ns.length, ks ++ ns, rfl, rfl, HF, HM6, HB6, HZ6⟩
            case measure => exact HMeas.out

end Mf
end Go.Proofs.YtndglpjkmgcdpaaGreatDoor
