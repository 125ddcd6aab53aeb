/- Several texts as one. -/
import Derived.Test.YticncpjpkgdnlaaGreatDoorMgP
/-
  Dates as texts, plain: what is written is read, what is read was so written.
-/
set_option linter.unusedVariables false
set_option linter.unusedSimpArgs false
namespace Go.Proofs.YticncpjpkgdnlaaGreatDoor
namespace Bs

def dg (n : Nat) : UInt8 := UInt8.ofNat (48 + n % 10)
def d2 (n : Nat) : List UInt8 := [dg (n / 10), dg n]
def d4 (n : Nat) : List UInt8 := [dg (n / 1000), dg (n / 100), dg (n / 10), dg n]
def p2 (c : UInt8) (n : Nat) : List UInt8 := if n < 10 then [c, dg n] else d2 n
def clk (h i s : Nat) : List UInt8 := [32] ++ d2 h ++ [58] ++ d2 i ++ [58] ++ d2 s
/-- A date in a form: Y the year as it is written (four digits or two), dt the day. -/
def txt (form : Int) (Y m h i s k : Nat) (dt : List UInt8) : List UInt8 :=
  if form = 1 then longs.getD k [] ++ [44, 32] ++ dt ++ [45] ++ mons.getD (m - 1) [] ++ [45] ++ d2 Y ++ clk h i s ++ [32, 71, 77, 84]
  else if form = 2 then shorts.getD k [] ++ [32] ++ mons.getD (m - 1) [] ++ [32] ++ dt ++ clk h i s ++ [32] ++ d4 Y
  else shorts.getD k [] ++ [44, 32] ++ dt ++ [32] ++ mons.getD (m - 1) [] ++ [32] ++ d4 Y ++ clk h i s ++ [32, 71, 77, 84]
def wrS (form : Int) (y m d h i s k : Nat) : List UInt8 := txt form (if form = 1 then y % 100 else y) m h i s k (if form = 2 then p2 32 d else d2 d)
def writeR (t form : Int) : List UInt8 × Int :=
  if ¬ isM t then ([], 40) else if ¬ (0 ≤ form ∧ form < 3) then ([], 44)
  else (wrS form (ymd (t / 86400)).1.toNat (ymd (t / 86400)).2.1.toNat (ymd (t / 86400)).2.2.toNat (t % 86400 / 3600).toNat (t % 86400 % 3600 / 60).toNat (t % 86400 % 60).toNat (wday (t / 86400)).toNat, 0)

/- Digits. -/
theorem dg_nat (n : Nat) : (dg n).toNat = 48 + n % 10 := by
  unfold dg
  have : 48 + n % 10 < 256 := by omega
  simp [UInt8.toNat_ofNat, Nat.mod_eq_of_lt this]
theorem dg_dgt (n : Nat) : dgt (dg n) = true := by
  unfold dgt
  rw [dg_nat]
  simp
  omega
theorem dg_dv (n : Nat) : dv (dg n) = ((n % 10 : Nat) : Int) := by
  unfold dv
  rw [dg_nat]
  omega
theorem dg_inj {a b : Nat} (h : dg a = dg b) : a % 10 = b % 10 := by
  have := congrArg UInt8.toNat h
  rw [dg_nat, dg_nat] at this
  omega
theorem dg_of {c : UInt8} (h : dgt c = true) {n : Nat} (hn : (n % 10 : Nat) = (dv c).toNat) : dg n = c := by
  unfold dgt at h
  have h' := of_decide_eq_true h
  unfold dv at hn
  apply UInt8.toNat_inj.1
  rw [dg_nat]
  omega
theorem dv_r {c : UInt8} (h : dgt c = true) : 0 ≤ dv c ∧ dv c ≤ 9 := by
  unfold dgt at h
  have h' := of_decide_eq_true h
  unfold dv
  omega
theorem d2_inj {a b : Nat} (ha : a < 100) (hb : b < 100) (h : d2 a = d2 b) : a = b := by
  unfold d2 at h
  simp only [List.cons.injEq, and_true] at h
  have h1 := dg_inj h.1
  have h2 := dg_inj h.2
  omega
theorem d4_inj {a b : Nat} (ha : a < 10000) (hb : b < 10000) (h : d4 a = d4 b) : a = b := by
  unfold d4 at h
  simp only [List.cons.injEq, and_true] at h
  obtain ⟨h1, h2, h3, h4⟩ := h
  have h1 := dg_inj h1
  have h2 := dg_inj h2
  have h3 := dg_inj h3
  have h4 := dg_inj h4
  omega

/- At a place. -/
theorem drop_get {l : List UInt8} {a : Nat} {c : UInt8} {r : List UInt8} (h : l.drop a = c :: r) : l[a]? = some c ∧ l.drop (a + 1) = r := by
  have h1 : (l.drop a)[0]? = some c := by rw [h]; rfl
  rw [List.getElem?_drop] at h1
  refine ⟨by simpa using h1, ?_⟩
  have h2 : (l.drop a).drop 1 = r := by rw [h]; rfl
  rw [List.drop_drop] at h2
  exact h2
theorem get_drop {l : List UInt8} {a : Nat} {c : UInt8} (h : l[a]? = some c) : l.drop a = c :: l.drop (a + 1) := by
  have hl := (List.getElem?_eq_some_iff.1 h)
  obtain ⟨h1, h2⟩ := hl
  rw [List.drop_eq_getElem_cons h1, h2]
theorem drop_app {l p r : List UInt8} {a : Nat} (h : l.drop a = p ++ r) : l.drop (a + p.length) = r := by
  rw [← List.drop_drop, h, List.drop_left]

theorem exs_to {l : List UInt8} : ∀ {t r : List UInt8} {a : Nat}, l.drop a = t ++ r → exs l t a = .ok (a + t.length)
  | [], r, a, h => rfl
  | c :: t, r, a, h => by
    obtain ⟨h1, h2⟩ := drop_get (r := t ++ r) h
    unfold exs
    rw [if_pos h1, exs_to h2]
    simp only [List.length_cons]
    congr 1
    omega
theorem exs_of {l : List UInt8} : ∀ {t : List UInt8} {a b : Nat}, exs l t a = .ok b → b = a + t.length ∧ l.drop a = t ++ l.drop b
  | [], a, b, h => by
    cases h
    exact ⟨rfl, rfl⟩
  | c :: t, a, b, h => by
    unfold exs at h
    split at h
    · rename_i hc
      obtain ⟨h1, h2⟩ := exs_of h
      refine ⟨by simp only [List.length_cons]; omega, ?_⟩
      rw [get_drop hc, h2]
      rfl
    · cases h
theorem dgs_cons {l : List UInt8} {k a : Nat} {v : Int} {c : UInt8} (h : l[a]? = some c) (hd : dgt c = true) : dgs l (k + 1) a v = dgs l k (a + 1) (v * 10 + dv c) := by
  conv => lhs; unfold dgs
  simp only [h, hd, if_true]
theorem dgs_un {l : List UInt8} {k a : Nat} {v : Int} {r : Nat × Int} (h : dgs l (k + 1) a v = .ok r) : ∃ c, l[a]? = some c ∧ dgt c = true ∧ dgs l k (a + 1) (v * 10 + dv c) = .ok r := by
  unfold dgs at h
  split at h
  · rename_i c hc
    split at h
    · rename_i hd
      exact ⟨c, hc, hd, h⟩
    · cases h
  · cases h
theorem dgs1_to {l r : List UInt8} {a n : Nat} (hn : n < 10) (h : l.drop a = dg n :: r) : dgs l 1 a 0 = .ok (a + 1, (n : Int)) := by
  obtain ⟨h1, h2⟩ := drop_get h
  rw [dgs_cons h1 (dg_dgt _), dg_dv]
  unfold dgs
  congr 2
  omega
theorem dgs2_to {l r : List UInt8} {a n : Nat} (hn : n < 100) (h : l.drop a = d2 n ++ r) : dgs l 2 a 0 = .ok (a + 2, (n : Int)) := by
  obtain ⟨h1, h2⟩ := drop_get (r := dg n :: r) h
  obtain ⟨h3, h4⟩ := drop_get h2
  rw [dgs_cons h1 (dg_dgt _), dgs_cons h3 (dg_dgt _), dg_dv, dg_dv]
  unfold dgs
  congr 2
  omega
theorem dgs4_to {l r : List UInt8} {a n : Nat} (hn : n < 10000) (h : l.drop a = d4 n ++ r) : dgs l 4 a 0 = .ok (a + 4, (n : Int)) := by
  obtain ⟨h1, h2⟩ := drop_get (r := dg (n / 100) :: dg (n / 10) :: dg n :: r) h
  obtain ⟨h3, h4⟩ := drop_get h2
  obtain ⟨h5, h6⟩ := drop_get h4
  obtain ⟨h7, h8⟩ := drop_get h6
  rw [dgs_cons h1 (dg_dgt _), dgs_cons h3 (dg_dgt _), dgs_cons h5 (dg_dgt _), dgs_cons h7 (dg_dgt _), dg_dv, dg_dv, dg_dv, dg_dv]
  unfold dgs
  congr 2
  omega
theorem dgs1_of {l : List UInt8} {a b : Nat} {v : Int} (h : dgs l 1 a 0 = .ok (b, v)) : ∃ n : Nat, n < 10 ∧ v = (n : Int) ∧ b = a + 1 ∧ l.drop a = dg n :: l.drop b := by
  obtain ⟨c, h1, h2, h⟩ := dgs_un h
  unfold dgs at h
  cases h
  have r := dv_r h2
  refine ⟨(dv c).toNat, by omega, by omega, rfl, ?_⟩
  rw [get_drop h1, dg_of h2 (by omega)]
theorem dgs2_of {l : List UInt8} {a b : Nat} {v : Int} (h : dgs l 2 a 0 = .ok (b, v)) : ∃ n : Nat, n < 100 ∧ v = (n : Int) ∧ b = a + 2 ∧ l.drop a = d2 n ++ l.drop b := by
  obtain ⟨c, h1, h2, h⟩ := dgs_un h
  obtain ⟨c', h3, h4, h⟩ := dgs_un h
  unfold dgs at h
  cases h
  have r := dv_r h2
  have r' := dv_r h4
  refine ⟨(dv c).toNat * 10 + (dv c').toNat, by omega, by omega, rfl, ?_⟩
  rw [get_drop h1, get_drop h3]
  unfold d2
  rw [dg_of h2 (by omega), dg_of h4 (by omega)]
  rfl
theorem dgs4_of {l : List UInt8} {a b : Nat} {v : Int} (h : dgs l 4 a 0 = .ok (b, v)) : ∃ n : Nat, n < 10000 ∧ v = (n : Int) ∧ b = a + 4 ∧ l.drop a = d4 n ++ l.drop b := by
  obtain ⟨c, h1, h2, h⟩ := dgs_un h
  obtain ⟨c', h3, h4, h⟩ := dgs_un h
  obtain ⟨c'', h5, h6, h⟩ := dgs_un h
  obtain ⟨c3, h7, h8, h⟩ := dgs_un h
  unfold dgs at h
  cases h
  have r := dv_r h2
  have r' := dv_r h4
  have r'' := dv_r h6
  have r3 := dv_r h8
  refine ⟨(dv c).toNat * 1000 + (dv c').toNat * 100 + (dv c'').toNat * 10 + (dv c3).toNat, by omega, by omega, rfl, ?_⟩
  rw [get_drop h1, get_drop h3, get_drop h5, get_drop h7]
  unfold d4
  rw [dg_of h2 (by omega), dg_of h4 (by omega), dg_of h6 (by omega), dg_of h8 (by omega)]
  rfl

/- Names. -/
theorem hp_app {l t : List UInt8} (h : hp l t = true) : l = t ++ l.drop t.length := by
  have := of_decide_eq_true h
  conv => lhs; rw [← List.take_append_drop t.length l, this]
theorem hp_self (t r : List UInt8) : hp (t ++ r) t = true := by
  unfold hp
  simp
theorem nam_of {l : List UInt8} {a i : Nat} {ns : List (List UInt8)} (h : nam l a ns = some i) : i < ns.length ∧ l.drop a = ns.getD i [] ++ l.drop (a + (ns.getD i []).length) := by
  unfold nam at h
  obtain ⟨hi, hh, _⟩ := List.findIdx?_eq_some_iff_getElem.1 h
  have e : ns.getD i [] = ns[i] := by rw [List.getD_eq_getElem?_getD, List.getElem?_eq_getElem hi]; rfl
  refine ⟨hi, ?_⟩
  rw [e]
  have := hp_app hh
  rw [List.drop_drop] at this
  exact this
theorem nam_to {l r : List UInt8} {a i : Nat} {ns : List (List UInt8)} (hi : i < ns.length) (hns : ∀ j, j < i → hp (ns.getD i [] ++ r) (ns.getD j []) = false) (h : l.drop a = ns.getD i [] ++ r) : nam l a ns = some i := by
  unfold nam
  rw [List.findIdx?_eq_some_iff_getElem]
  have e : ∀ j (hj : j < ns.length), ns.getD j [] = ns[j] := fun j hj => by rw [List.getD_eq_getElem?_getD, List.getElem?_eq_getElem hj]; rfl
  refine ⟨hi, by rw [h, e i hi]; exact hp_self _ _, fun j hj => ?_⟩
  rw [h, ← e j (by omega), hns j hj]
  simp
theorem hp_ne {x r t : List UInt8} (k : Nat) (hk : k ≤ x.length) (hk2 : k ≤ t.length) (h : x.take k ≠ t.take k) : hp (x ++ r) t = false := by
  unfold hp
  apply decide_eq_false
  intro e
  apply h
  have h1 : ((x ++ r).take t.length).take k = t.take k := by rw [e]
  rw [List.take_take, Nat.min_eq_left hk2, List.take_append_of_le_length hk] at h1
  exact h1
theorem shorts_ne : ∀ i j : Fin 7, j.val < i.val → (shorts.getD i.val []).take 3 ≠ (shorts.getD j.val []).take 3 := by decide
theorem longs_ne : ∀ i j : Fin 7, j.val < i.val → (longs.getD i.val []).take 2 ≠ (longs.getD j.val []).take 2 := by decide
theorem mons_ne : ∀ i j : Fin 12, j.val < i.val → (mons.getD i.val []).take 3 ≠ (mons.getD j.val []).take 3 := by decide
theorem shorts_n : ∀ i : Fin 7, (shorts.getD i.val []).length = 3 := by decide
theorem longs_n : ∀ i : Fin 7, 6 ≤ (longs.getD i.val []).length ∧ (longs.getD i.val []).length ≤ 9 := by decide
theorem mons_n : ∀ i : Fin 12, (mons.getD i.val []).length = 3 := by decide
theorem shorts_n' {i : Nat} (hi : i < 7) : (shorts.getD i []).length = 3 := shorts_n ⟨i, hi⟩
theorem longs_n' {i : Nat} (hi : i < 7) : 6 ≤ (longs.getD i []).length ∧ (longs.getD i []).length ≤ 9 := longs_n ⟨i, hi⟩
theorem mons_n' {i : Nat} (hi : i < 12) : (mons.getD i []).length = 3 := mons_n ⟨i, hi⟩
theorem short_to {l r : List UInt8} {a i : Nat} (hi : i < 7) (h : l.drop a = shorts.getD i [] ++ r) : nam l a (nms 0) = some i :=
  nam_to (ns := shorts) hi (fun j hj => hp_ne 3 (by have := shorts_n' hi; omega) (by have := shorts_n' (i := j) (by omega); omega) (shorts_ne ⟨i, hi⟩ ⟨j, by omega⟩ hj)) h
theorem long_to {l r : List UInt8} {a i : Nat} (hi : i < 7) (h : l.drop a = longs.getD i [] ++ r) : nam l a (nms 1) = some i :=
  nam_to (ns := longs) hi (fun j hj => hp_ne 2 (by have := longs_n' hi; omega) (by have := longs_n' (i := j) (by omega); omega) (longs_ne ⟨i, hi⟩ ⟨j, by omega⟩ hj)) h
theorem mon_to {l r : List UInt8} {a i : Nat} (hi : i < 12) (h : l.drop a = mons.getD i [] ++ r) : nam l a (nms 2) = some i :=
  nam_to (ns := mons) hi (fun j hj => hp_ne 3 (by have := mons_n' hi; omega) (by have := mons_n' (i := j) (by omega); omega) (mons_ne ⟨i, hi⟩ ⟨j, by omega⟩ hj)) h

/- Takers, forth. -/
theorem takes_cons {l : List UInt8} {t : TK} {ts : List TK} {a b : Nat} {st st' : List Int} (h : take1 l a st t = .ok (b, st')) : takes l (t :: ts) a st = takes l ts b st' := by
  conv => lhs; unfold takes
  rw [h]
theorem tk_ex {l t r : List UInt8} {a : Nat} {st : List Int} {ts : List TK} (h : l.drop a = t ++ r) : takes l (.ex t :: ts) a st = takes l ts (a + t.length) st ∧ l.drop (a + t.length) = r := by
  refine ⟨?_, drop_app h⟩
  exact takes_cons (by simp only [take1, exs_to h])
theorem tk_d2 {l r : List UInt8} {a f n : Nat} {st : List Int} {ts : List TK} (hn : n < 100) (h : l.drop a = d2 n ++ r) : takes l (.dg 2 f :: ts) a st = takes l ts (a + 2) (put st f n a) ∧ l.drop (a + 2) = r := by
  refine ⟨?_, drop_app h⟩
  exact takes_cons (by simp only [take1, dgs2_to hn h])
theorem tk_d4 {l r : List UInt8} {a f n : Nat} {st : List Int} {ts : List TK} (hn : n < 10000) (h : l.drop a = d4 n ++ r) : takes l (.dg 4 f :: ts) a st = takes l ts (a + 4) (put st f n a) ∧ l.drop (a + 4) = r := by
  refine ⟨?_, drop_app h⟩
  exact takes_cons (by simp only [take1, dgs4_to hn h])
theorem tk_nm {l r : List UInt8} {a f k i : Nat} {st : List Int} {ts : List TK} (hn : nam l a (nms k) = some i) (h : l.drop a = (nms k).getD i [] ++ r) : takes l (.nm k f :: ts) a st = takes l ts (a + ((nms k).getD i []).length) (put st f i a) ∧ l.drop (a + ((nms k).getD i []).length) = r := by
  refine ⟨?_, drop_app h⟩
  exact takes_cons (by simp only [take1, hn])
theorem tk_lo {l r : List UInt8} {a f n : Nat} {st : List Int} {ts : List TK} (hn : n < 100) (h : l.drop a = p2 32 n ++ r ∨ l.drop a = d2 n ++ r) : takes l (.lo f :: ts) a st = takes l ts (a + 2) (put st f n a) ∧ l.drop (a + 2) = r := by
  have key : (n < 10 ∧ l.drop a = [32, dg n] ++ r) ∨ l.drop a = d2 n ++ r := by
    rcases h with h | h
    · unfold p2 at h
      split at h
      · exact .inl ⟨by assumption, h⟩
      · exact .inr h
    · exact .inr h
  rcases key with ⟨h1, h⟩ | h
  · obtain ⟨h2, h3⟩ := drop_get (r := dg n :: r) h
    refine ⟨?_, drop_app h⟩
    exact takes_cons (by simp only [take1, if_pos h2, dgs1_to h1 h3])
  · obtain ⟨h2, h3⟩ := drop_get (r := dg n :: r) h
    have hne : ¬ l[a]? = some 32 := by
      rw [h2]
      intro e
      have e2 : dg (n / 10) = 32 := Option.some.inj e
      have := dg_nat (n / 10)
      rw [e2] at this
      have : (32 : UInt8).toNat = 32 := rfl
      omega
    refine ⟨?_, drop_app h⟩
    exact takes_cons (by simp only [take1, if_neg hne, dgs2_to hn h])

end Bs
end Go.Proofs.YticncpjpkgdnlaaGreatDoor

/-
  A date's text is read, and says the date; a text that is read is such.
-/
set_option linter.unusedVariables false
set_option linter.unusedSimpArgs false
namespace Go.Proofs.YticncpjpkgdnlaaGreatDoor
namespace Bs

/-- The day's text says the day. -/
def DayT (form : Int) (d : Nat) (dt : List UInt8) : Prop := dt = d2 d ∨ (form = 2 ∧ d < 10 ∧ dt = [32, dg d])
theorem dayT_p2 {d : Nat} : DayT 2 d (p2 32 d) := by
  unfold p2
  split
  · exact .inr ⟨rfl, by assumption, rfl⟩
  · exact .inl rfl
theorem takes_nil (l : List UInt8) (a : Nat) (st : List Int) : takes l [] a st = .ok (a, st) := rfl
theorem drop_len {l : List UInt8} {a : Nat} (ha : a ≤ l.length) (h : l.drop a = []) : a = l.length := by
  have := List.drop_eq_nil_iff.1 h
  omega
theorem drop_le {l p r : List UInt8} {a : Nat} (ha : a ≤ l.length) (h : l.drop a = p ++ r) : a + p.length ≤ l.length := by
  have := congrArg List.length h
  rw [List.length_drop, List.length_append] at this
  omega

/- Back. -/
theorem takes_un {l : List UInt8} {t : TK} {ts : List TK} {a : Nat} {st : List Int} {r : Nat × List Int} (h : takes l (t :: ts) a st = .ok r) : ∃ b st', take1 l a st t = .ok (b, st') ∧ takes l ts b st' = .ok r := by
  unfold takes at h
  split at h
  · rename_i b st' e
    exact ⟨b, st', e, h⟩
  · cases h
theorem un_ex {l t : List UInt8} {ts : List TK} {a : Nat} {st : List Int} {r : Nat × List Int} (h : takes l (.ex t :: ts) a st = .ok r) : ∃ b, l.drop a = t ++ l.drop b ∧ takes l ts b st = .ok r := by
  obtain ⟨b, st', h1, h2⟩ := takes_un h
  simp only [take1] at h1
  split at h1
  · rename_i b' e
    cases h1
    exact ⟨_, (exs_of e).2, h2⟩
  · cases h1
theorem un_d2 {l : List UInt8} {f : Nat} {ts : List TK} {a : Nat} {st : List Int} {r : Nat × List Int} (h : takes l (.dg 2 f :: ts) a st = .ok r) : ∃ b n, n < 100 ∧ l.drop a = d2 n ++ l.drop b ∧ takes l ts b (put st f (n : Int) a) = .ok r := by
  obtain ⟨b, st', h1, h2⟩ := takes_un h
  simp only [take1] at h1
  split at h1
  · rename_i b' v e
    cases h1
    obtain ⟨n, hn, rfl, _, hd⟩ := dgs2_of e
    exact ⟨_, n, hn, hd, h2⟩
  · cases h1
theorem un_d4 {l : List UInt8} {f : Nat} {ts : List TK} {a : Nat} {st : List Int} {r : Nat × List Int} (h : takes l (.dg 4 f :: ts) a st = .ok r) : ∃ b n, n < 10000 ∧ l.drop a = d4 n ++ l.drop b ∧ takes l ts b (put st f (n : Int) a) = .ok r := by
  obtain ⟨b, st', h1, h2⟩ := takes_un h
  simp only [take1] at h1
  split at h1
  · rename_i b' v e
    cases h1
    obtain ⟨n, hn, rfl, _, hd⟩ := dgs4_of e
    exact ⟨_, n, hn, hd, h2⟩
  · cases h1
theorem un_nm {l : List UInt8} {k f : Nat} {ts : List TK} {a : Nat} {st : List Int} {r : Nat × List Int} (h : takes l (.nm k f :: ts) a st = .ok r) : ∃ b i, i < (nms k).length ∧ l.drop a = (nms k).getD i [] ++ l.drop b ∧ takes l ts b (put st f (i : Int) a) = .ok r := by
  obtain ⟨b, st', h1, h2⟩ := takes_un h
  simp only [take1] at h1
  split at h1
  · rename_i i e
    cases h1
    obtain ⟨hi, hd⟩ := nam_of e
    exact ⟨_, i, hi, hd, h2⟩
  · cases h1
theorem un_lo {l : List UInt8} {f : Nat} {ts : List TK} {a : Nat} {st : List Int} {r : Nat × List Int} (h : takes l (.lo f :: ts) a st = .ok r) : ∃ b n dt, n < 100 ∧ DayT 2 n dt ∧ l.drop a = dt ++ l.drop b ∧ takes l ts b (put st f (n : Int) a) = .ok r := by
  obtain ⟨b, st', h1, h2⟩ := takes_un h
  simp only [take1] at h1
  split at h1
  · rename_i hb
    split at h1
    · rename_i b' v e
      cases h1
      obtain ⟨n, hn, rfl, _, hd⟩ := dgs1_of e
      exact ⟨_, n, [32, dg n], by omega, .inr ⟨rfl, hn, rfl⟩, by rw [get_drop hb, hd]; rfl, h2⟩
    · cases h1
  · split at h1
    · rename_i b' v e
      cases h1
      obtain ⟨n, hn, rfl, _, hd⟩ := dgs2_of e
      exact ⟨_, n, d2 n, hn, .inl rfl, hd, h2⟩
    · cases h1

theorem takes_F {l : List UInt8} {Y m h i s k d : Nat} (hY : Y < 10000) (hm : m < 12) (hd : d < 100) (hh : h < 100) (hi : i < 100) (hs : s < 100) (hk : k < 7)
    (x0 : l = shorts.getD k [] ++ ([44, 32] ++ (d2 d ++ ([32] ++ (mons.getD m [] ++ ([32] ++ (d4 Y ++ ([32] ++ (d2 h ++ ([58] ++ (d2 i ++ ([58] ++ (d2 s ++ ([32, 71, 77, 84] ++ [])))))))))))))) :
    ∃ p0 p1 q2 p3 p4 p5 p6 : Int, takes l tkF 0 z14 = .ok (l.length, [(k : Int), p0, (d : Int), p1, (m : Int), q2, (Y : Int), p3, (h : Int), p4, (i : Int), p5, (s : Int), p6]) := by
  have x0 : l.drop 0 = shorts.getD k [] ++ ([44, 32] ++ (d2 d ++ ([32] ++ (mons.getD m [] ++ ([32] ++ (d4 Y ++ ([32] ++ (d2 h ++ ([58] ++ (d2 i ++ ([58] ++ (d2 s ++ ([32, 71, 77, 84] ++ []))))))))))))) := x0
  have n0 : 0 ≤ l.length := Nat.zero_le _
  unfold tkF
  rw [(tk_nm (k := 0) (short_to hk x0) x0).1]
  have x1 : l.drop (0 + ((nms 0).getD k []).length) = [44, 32] ++ (d2 d ++ ([32] ++ (mons.getD m [] ++ ([32] ++ (d4 Y ++ ([32] ++ (d2 h ++ ([58] ++ (d2 i ++ ([58] ++ (d2 s ++ ([32, 71, 77, 84] ++ [])))))))))))) := drop_app x0
  have n1 : 0 + ((nms 0).getD k []).length ≤ l.length := drop_le n0 x0
  clear x0 n0
  generalize 0 + ((nms 0).getD k []).length = a1 at *
  rw [(tk_ex x1).1]
  have x2 : l.drop (a1 + ([44, 32] : List UInt8).length) = d2 d ++ ([32] ++ (mons.getD m [] ++ ([32] ++ (d4 Y ++ ([32] ++ (d2 h ++ ([58] ++ (d2 i ++ ([58] ++ (d2 s ++ ([32, 71, 77, 84] ++ []))))))))))) := drop_app x1
  have n2 : a1 + ([44, 32] : List UInt8).length ≤ l.length := drop_le n1 x1
  clear x1 n1
  generalize a1 + ([44, 32] : List UInt8).length = a2 at *
  rw [(tk_d2 hd x2).1]
  have x3 : l.drop (a2 + 2) = [32] ++ (mons.getD m [] ++ ([32] ++ (d4 Y ++ ([32] ++ (d2 h ++ ([58] ++ (d2 i ++ ([58] ++ (d2 s ++ ([32, 71, 77, 84] ++ [])))))))))) := drop_app x2
  have n3 : a2 + 2 ≤ l.length := drop_le n2 x2
  clear x2 n2
  generalize a2 + 2 = a3 at *
  rw [(tk_ex x3).1]
  have x4 : l.drop (a3 + ([32] : List UInt8).length) = mons.getD m [] ++ ([32] ++ (d4 Y ++ ([32] ++ (d2 h ++ ([58] ++ (d2 i ++ ([58] ++ (d2 s ++ ([32, 71, 77, 84] ++ []))))))))) := drop_app x3
  have n4 : a3 + ([32] : List UInt8).length ≤ l.length := drop_le n3 x3
  clear x3 n3
  generalize a3 + ([32] : List UInt8).length = a4 at *
  rw [(tk_nm (k := 2) (mon_to hm x4) x4).1]
  have x5 : l.drop (a4 + ((nms 2).getD m []).length) = [32] ++ (d4 Y ++ ([32] ++ (d2 h ++ ([58] ++ (d2 i ++ ([58] ++ (d2 s ++ ([32, 71, 77, 84] ++ [])))))))) := drop_app x4
  have n5 : a4 + ((nms 2).getD m []).length ≤ l.length := drop_le n4 x4
  clear x4 n4
  generalize a4 + ((nms 2).getD m []).length = a5 at *
  rw [(tk_ex x5).1]
  have x6 : l.drop (a5 + ([32] : List UInt8).length) = d4 Y ++ ([32] ++ (d2 h ++ ([58] ++ (d2 i ++ ([58] ++ (d2 s ++ ([32, 71, 77, 84] ++ []))))))) := drop_app x5
  have n6 : a5 + ([32] : List UInt8).length ≤ l.length := drop_le n5 x5
  clear x5 n5
  generalize a5 + ([32] : List UInt8).length = a6 at *
  rw [(tk_d4 hY x6).1]
  have x7 : l.drop (a6 + 4) = [32] ++ (d2 h ++ ([58] ++ (d2 i ++ ([58] ++ (d2 s ++ ([32, 71, 77, 84] ++ [])))))) := drop_app x6
  have n7 : a6 + 4 ≤ l.length := drop_le n6 x6
  clear x6 n6
  generalize a6 + 4 = a7 at *
  rw [(tk_ex x7).1]
  have x8 : l.drop (a7 + ([32] : List UInt8).length) = d2 h ++ ([58] ++ (d2 i ++ ([58] ++ (d2 s ++ ([32, 71, 77, 84] ++ []))))) := drop_app x7
  have n8 : a7 + ([32] : List UInt8).length ≤ l.length := drop_le n7 x7
  clear x7 n7
  generalize a7 + ([32] : List UInt8).length = a8 at *
  rw [(tk_d2 hh x8).1]
  have x9 : l.drop (a8 + 2) = [58] ++ (d2 i ++ ([58] ++ (d2 s ++ ([32, 71, 77, 84] ++ [])))) := drop_app x8
  have n9 : a8 + 2 ≤ l.length := drop_le n8 x8
  clear x8 n8
  generalize a8 + 2 = a9 at *
  rw [(tk_ex x9).1]
  have x10 : l.drop (a9 + ([58] : List UInt8).length) = d2 i ++ ([58] ++ (d2 s ++ ([32, 71, 77, 84] ++ []))) := drop_app x9
  have n10 : a9 + ([58] : List UInt8).length ≤ l.length := drop_le n9 x9
  clear x9 n9
  generalize a9 + ([58] : List UInt8).length = a10 at *
  rw [(tk_d2 hi x10).1]
  have x11 : l.drop (a10 + 2) = [58] ++ (d2 s ++ ([32, 71, 77, 84] ++ [])) := drop_app x10
  have n11 : a10 + 2 ≤ l.length := drop_le n10 x10
  clear x10 n10
  generalize a10 + 2 = a11 at *
  rw [(tk_ex x11).1]
  have x12 : l.drop (a11 + ([58] : List UInt8).length) = d2 s ++ ([32, 71, 77, 84] ++ []) := drop_app x11
  have n12 : a11 + ([58] : List UInt8).length ≤ l.length := drop_le n11 x11
  clear x11 n11
  generalize a11 + ([58] : List UInt8).length = a12 at *
  rw [(tk_d2 hs x12).1]
  have x13 : l.drop (a12 + 2) = [32, 71, 77, 84] ++ [] := drop_app x12
  have n13 : a12 + 2 ≤ l.length := drop_le n12 x12
  clear x12 n12
  generalize a12 + 2 = a13 at *
  rw [(tk_ex x13).1]
  have x14 : l.drop (a13 + ([32, 71, 77, 84] : List UInt8).length) = [] := drop_app x13
  have n14 : a13 + ([32, 71, 77, 84] : List UInt8).length ≤ l.length := drop_le n13 x13
  clear x13 n13
  rw [takes_nil, drop_len n14 x14]
  exact ⟨_, _, _, _, _, _, _, rfl⟩

theorem takes_F' {l : List UInt8} {e : Nat} {st : List Int} (h : takes l tkF 0 z14 = .ok (e, st)) (he : e = l.length) :
    ∃ (Y m h i s k d : Nat) (p0 p1 q2 p3 p4 p5 p6 : Int), Y < 10000 ∧ m < 12 ∧ d < 100 ∧ h < 100 ∧ i < 100 ∧ s < 100 ∧ k < 7 ∧ st = [(k : Int), p0, (d : Int), p1, (m : Int), q2, (Y : Int), p3, (h : Int), p4, (i : Int), p5, (s : Int), p6] ∧ l = shorts.getD k [] ++ ([44, 32] ++ (d2 d ++ ([32] ++ (mons.getD m [] ++ ([32] ++ (d4 Y ++ ([32] ++ (d2 h ++ ([58] ++ (d2 i ++ ([58] ++ (d2 s ++ ([32, 71, 77, 84] ++ []))))))))))))) := by
  unfold tkF at h
  obtain ⟨a1, k, hk, x0, h⟩ := un_nm h
  obtain ⟨a2, x1, h⟩ := un_ex h
  obtain ⟨a3, d, hd, x2, h⟩ := un_d2 h
  obtain ⟨a4, x3, h⟩ := un_ex h
  obtain ⟨a5, m, hm, x4, h⟩ := un_nm h
  obtain ⟨a6, x5, h⟩ := un_ex h
  obtain ⟨a7, Y, hY, x6, h⟩ := un_d4 h
  obtain ⟨a8, x7, h⟩ := un_ex h
  obtain ⟨a9, hr, hh, x8, h⟩ := un_d2 h
  obtain ⟨a10, x9, h⟩ := un_ex h
  obtain ⟨a11, i, hi, x10, h⟩ := un_d2 h
  obtain ⟨a12, x11, h⟩ := un_ex h
  obtain ⟨a13, s, hs, x12, h⟩ := un_d2 h
  obtain ⟨a14, x13, h⟩ := un_ex h
  rw [takes_nil] at h
  cases h
  have xe : l.drop e = [] := List.drop_eq_nil_iff.2 (by omega)
  rw [xe] at x13
  rw [x13] at x12
  rw [x12] at x11
  rw [x11] at x10
  rw [x10] at x9
  rw [x9] at x8
  rw [x8] at x7
  rw [x7] at x6
  rw [x6] at x5
  rw [x5] at x4
  rw [x4] at x3
  rw [x3] at x2
  rw [x2] at x1
  rw [x1] at x0
  exact ⟨Y, m, hr, i, s, k, d, _, _, _, _, _, _, _, hY, hm, hd, hh, hi, hs, hk, rfl, x0⟩

theorem takes_L {l : List UInt8} {Y m h i s k d : Nat} (hY : Y < 100) (hm : m < 12) (hd : d < 100) (hh : h < 100) (hi : i < 100) (hs : s < 100) (hk : k < 7)
    (x0 : l = longs.getD k [] ++ ([44, 32] ++ (d2 d ++ ([45] ++ (mons.getD m [] ++ ([45] ++ (d2 Y ++ ([32] ++ (d2 h ++ ([58] ++ (d2 i ++ ([58] ++ (d2 s ++ ([32, 71, 77, 84] ++ [])))))))))))))) :
    ∃ p0 p1 q2 p3 p4 p5 p6 : Int, takes l tkL 0 z14 = .ok (l.length, [(k : Int), p0, (d : Int), p1, (m : Int), q2, (Y : Int), p3, (h : Int), p4, (i : Int), p5, (s : Int), p6]) := by
  have x0 : l.drop 0 = longs.getD k [] ++ ([44, 32] ++ (d2 d ++ ([45] ++ (mons.getD m [] ++ ([45] ++ (d2 Y ++ ([32] ++ (d2 h ++ ([58] ++ (d2 i ++ ([58] ++ (d2 s ++ ([32, 71, 77, 84] ++ []))))))))))))) := x0
  have n0 : 0 ≤ l.length := Nat.zero_le _
  unfold tkL
  rw [(tk_nm (k := 1) (long_to hk x0) x0).1]
  have x1 : l.drop (0 + ((nms 1).getD k []).length) = [44, 32] ++ (d2 d ++ ([45] ++ (mons.getD m [] ++ ([45] ++ (d2 Y ++ ([32] ++ (d2 h ++ ([58] ++ (d2 i ++ ([58] ++ (d2 s ++ ([32, 71, 77, 84] ++ [])))))))))))) := drop_app x0
  have n1 : 0 + ((nms 1).getD k []).length ≤ l.length := drop_le n0 x0
  clear x0 n0
  generalize 0 + ((nms 1).getD k []).length = a1 at *
  rw [(tk_ex x1).1]
  have x2 : l.drop (a1 + ([44, 32] : List UInt8).length) = d2 d ++ ([45] ++ (mons.getD m [] ++ ([45] ++ (d2 Y ++ ([32] ++ (d2 h ++ ([58] ++ (d2 i ++ ([58] ++ (d2 s ++ ([32, 71, 77, 84] ++ []))))))))))) := drop_app x1
  have n2 : a1 + ([44, 32] : List UInt8).length ≤ l.length := drop_le n1 x1
  clear x1 n1
  generalize a1 + ([44, 32] : List UInt8).length = a2 at *
  rw [(tk_d2 hd x2).1]
  have x3 : l.drop (a2 + 2) = [45] ++ (mons.getD m [] ++ ([45] ++ (d2 Y ++ ([32] ++ (d2 h ++ ([58] ++ (d2 i ++ ([58] ++ (d2 s ++ ([32, 71, 77, 84] ++ [])))))))))) := drop_app x2
  have n3 : a2 + 2 ≤ l.length := drop_le n2 x2
  clear x2 n2
  generalize a2 + 2 = a3 at *
  rw [(tk_ex x3).1]
  have x4 : l.drop (a3 + ([45] : List UInt8).length) = mons.getD m [] ++ ([45] ++ (d2 Y ++ ([32] ++ (d2 h ++ ([58] ++ (d2 i ++ ([58] ++ (d2 s ++ ([32, 71, 77, 84] ++ []))))))))) := drop_app x3
  have n4 : a3 + ([45] : List UInt8).length ≤ l.length := drop_le n3 x3
  clear x3 n3
  generalize a3 + ([45] : List UInt8).length = a4 at *
  rw [(tk_nm (k := 2) (mon_to hm x4) x4).1]
  have x5 : l.drop (a4 + ((nms 2).getD m []).length) = [45] ++ (d2 Y ++ ([32] ++ (d2 h ++ ([58] ++ (d2 i ++ ([58] ++ (d2 s ++ ([32, 71, 77, 84] ++ [])))))))) := drop_app x4
  have n5 : a4 + ((nms 2).getD m []).length ≤ l.length := drop_le n4 x4
  clear x4 n4
  generalize a4 + ((nms 2).getD m []).length = a5 at *
  rw [(tk_ex x5).1]
  have x6 : l.drop (a5 + ([45] : List UInt8).length) = d2 Y ++ ([32] ++ (d2 h ++ ([58] ++ (d2 i ++ ([58] ++ (d2 s ++ ([32, 71, 77, 84] ++ []))))))) := drop_app x5
  have n6 : a5 + ([45] : List UInt8).length ≤ l.length := drop_le n5 x5
  clear x5 n5
  generalize a5 + ([45] : List UInt8).length = a6 at *
  rw [(tk_d2 hY x6).1]
  have x7 : l.drop (a6 + 2) = [32] ++ (d2 h ++ ([58] ++ (d2 i ++ ([58] ++ (d2 s ++ ([32, 71, 77, 84] ++ [])))))) := drop_app x6
  have n7 : a6 + 2 ≤ l.length := drop_le n6 x6
  clear x6 n6
  generalize a6 + 2 = a7 at *
  rw [(tk_ex x7).1]
  have x8 : l.drop (a7 + ([32] : List UInt8).length) = d2 h ++ ([58] ++ (d2 i ++ ([58] ++ (d2 s ++ ([32, 71, 77, 84] ++ []))))) := drop_app x7
  have n8 : a7 + ([32] : List UInt8).length ≤ l.length := drop_le n7 x7
  clear x7 n7
  generalize a7 + ([32] : List UInt8).length = a8 at *
  rw [(tk_d2 hh x8).1]
  have x9 : l.drop (a8 + 2) = [58] ++ (d2 i ++ ([58] ++ (d2 s ++ ([32, 71, 77, 84] ++ [])))) := drop_app x8
  have n9 : a8 + 2 ≤ l.length := drop_le n8 x8
  clear x8 n8
  generalize a8 + 2 = a9 at *
  rw [(tk_ex x9).1]
  have x10 : l.drop (a9 + ([58] : List UInt8).length) = d2 i ++ ([58] ++ (d2 s ++ ([32, 71, 77, 84] ++ []))) := drop_app x9
  have n10 : a9 + ([58] : List UInt8).length ≤ l.length := drop_le n9 x9
  clear x9 n9
  generalize a9 + ([58] : List UInt8).length = a10 at *
  rw [(tk_d2 hi x10).1]
  have x11 : l.drop (a10 + 2) = [58] ++ (d2 s ++ ([32, 71, 77, 84] ++ [])) := drop_app x10
  have n11 : a10 + 2 ≤ l.length := drop_le n10 x10
  clear x10 n10
  generalize a10 + 2 = a11 at *
  rw [(tk_ex x11).1]
  have x12 : l.drop (a11 + ([58] : List UInt8).length) = d2 s ++ ([32, 71, 77, 84] ++ []) := drop_app x11
  have n12 : a11 + ([58] : List UInt8).length ≤ l.length := drop_le n11 x11
  clear x11 n11
  generalize a11 + ([58] : List UInt8).length = a12 at *
  rw [(tk_d2 hs x12).1]
  have x13 : l.drop (a12 + 2) = [32, 71, 77, 84] ++ [] := drop_app x12
  have n13 : a12 + 2 ≤ l.length := drop_le n12 x12
  clear x12 n12
  generalize a12 + 2 = a13 at *
  rw [(tk_ex x13).1]
  have x14 : l.drop (a13 + ([32, 71, 77, 84] : List UInt8).length) = [] := drop_app x13
  have n14 : a13 + ([32, 71, 77, 84] : List UInt8).length ≤ l.length := drop_le n13 x13
  clear x13 n13
  rw [takes_nil, drop_len n14 x14]
  exact ⟨_, _, _, _, _, _, _, rfl⟩

theorem takes_L' {l : List UInt8} {e : Nat} {st : List Int} (h : takes l tkL 0 z14 = .ok (e, st)) (he : e = l.length) :
    ∃ (Y m h i s k d : Nat) (p0 p1 q2 p3 p4 p5 p6 : Int), Y < 100 ∧ m < 12 ∧ d < 100 ∧ h < 100 ∧ i < 100 ∧ s < 100 ∧ k < 7 ∧ st = [(k : Int), p0, (d : Int), p1, (m : Int), q2, (Y : Int), p3, (h : Int), p4, (i : Int), p5, (s : Int), p6] ∧ l = longs.getD k [] ++ ([44, 32] ++ (d2 d ++ ([45] ++ (mons.getD m [] ++ ([45] ++ (d2 Y ++ ([32] ++ (d2 h ++ ([58] ++ (d2 i ++ ([58] ++ (d2 s ++ ([32, 71, 77, 84] ++ []))))))))))))) := by
  unfold tkL at h
  obtain ⟨a1, k, hk, x0, h⟩ := un_nm h
  obtain ⟨a2, x1, h⟩ := un_ex h
  obtain ⟨a3, d, hd, x2, h⟩ := un_d2 h
  obtain ⟨a4, x3, h⟩ := un_ex h
  obtain ⟨a5, m, hm, x4, h⟩ := un_nm h
  obtain ⟨a6, x5, h⟩ := un_ex h
  obtain ⟨a7, Y, hY, x6, h⟩ := un_d2 h
  obtain ⟨a8, x7, h⟩ := un_ex h
  obtain ⟨a9, hr, hh, x8, h⟩ := un_d2 h
  obtain ⟨a10, x9, h⟩ := un_ex h
  obtain ⟨a11, i, hi, x10, h⟩ := un_d2 h
  obtain ⟨a12, x11, h⟩ := un_ex h
  obtain ⟨a13, s, hs, x12, h⟩ := un_d2 h
  obtain ⟨a14, x13, h⟩ := un_ex h
  rw [takes_nil] at h
  cases h
  have xe : l.drop e = [] := List.drop_eq_nil_iff.2 (by omega)
  rw [xe] at x13
  rw [x13] at x12
  rw [x12] at x11
  rw [x11] at x10
  rw [x10] at x9
  rw [x9] at x8
  rw [x8] at x7
  rw [x7] at x6
  rw [x6] at x5
  rw [x5] at x4
  rw [x4] at x3
  rw [x3] at x2
  rw [x2] at x1
  rw [x1] at x0
  exact ⟨Y, m, hr, i, s, k, d, _, _, _, _, _, _, _, hY, hm, hd, hh, hi, hs, hk, rfl, x0⟩

theorem takes_P {l : List UInt8} {Y m h i s k d : Nat} {dt : List UInt8} (hY : Y < 10000) (hm : m < 12) (hd : d < 100) (hh : h < 100) (hi : i < 100) (hs : s < 100) (hk : k < 7) (hdt : DayT 2 d dt)
    (x0 : l = shorts.getD k [] ++ ([32] ++ (mons.getD m [] ++ ([32] ++ (dt ++ ([32] ++ (d2 h ++ ([58] ++ (d2 i ++ ([58] ++ (d2 s ++ ([32] ++ (d4 Y ++ []))))))))))))) :
    ∃ p0 p1 q2 p3 p4 p5 p6 : Int, takes l tkP 0 z14 = .ok (l.length, [(k : Int), p0, (d : Int), p1, (m : Int), q2, (Y : Int), p3, (h : Int), p4, (i : Int), p5, (s : Int), p6]) := by
  have x0 : l.drop 0 = shorts.getD k [] ++ ([32] ++ (mons.getD m [] ++ ([32] ++ (dt ++ ([32] ++ (d2 h ++ ([58] ++ (d2 i ++ ([58] ++ (d2 s ++ ([32] ++ (d4 Y ++ [])))))))))))) := x0
  have n0 : 0 ≤ l.length := Nat.zero_le _
  unfold tkP
  have hdt' : ∀ {a : Nat} {r : List UInt8}, l.drop a = dt ++ r → l.drop a = p2 32 d ++ r ∨ l.drop a = d2 d ++ r := fun {a r} e => by
    rcases hdt with rfl | ⟨_, h10, rfl⟩
    · exact .inr e
    · exact .inl (by rw [e]; unfold p2; rw [if_pos h10])
  have hdl : dt.length = 2 := by
    rcases hdt with rfl | ⟨_, h10, rfl⟩ <;> rfl
  rw [(tk_nm (k := 0) (short_to hk x0) x0).1]
  have x1 : l.drop (0 + ((nms 0).getD k []).length) = [32] ++ (mons.getD m [] ++ ([32] ++ (dt ++ ([32] ++ (d2 h ++ ([58] ++ (d2 i ++ ([58] ++ (d2 s ++ ([32] ++ (d4 Y ++ []))))))))))) := drop_app x0
  have n1 : 0 + ((nms 0).getD k []).length ≤ l.length := drop_le n0 x0
  clear x0 n0
  generalize 0 + ((nms 0).getD k []).length = a1 at *
  rw [(tk_ex x1).1]
  have x2 : l.drop (a1 + ([32] : List UInt8).length) = mons.getD m [] ++ ([32] ++ (dt ++ ([32] ++ (d2 h ++ ([58] ++ (d2 i ++ ([58] ++ (d2 s ++ ([32] ++ (d4 Y ++ [])))))))))) := drop_app x1
  have n2 : a1 + ([32] : List UInt8).length ≤ l.length := drop_le n1 x1
  clear x1 n1
  generalize a1 + ([32] : List UInt8).length = a2 at *
  rw [(tk_nm (k := 2) (mon_to hm x2) x2).1]
  have x3 : l.drop (a2 + ((nms 2).getD m []).length) = [32] ++ (dt ++ ([32] ++ (d2 h ++ ([58] ++ (d2 i ++ ([58] ++ (d2 s ++ ([32] ++ (d4 Y ++ []))))))))) := drop_app x2
  have n3 : a2 + ((nms 2).getD m []).length ≤ l.length := drop_le n2 x2
  clear x2 n2
  generalize a2 + ((nms 2).getD m []).length = a3 at *
  rw [(tk_ex x3).1]
  have x4 : l.drop (a3 + ([32] : List UInt8).length) = dt ++ ([32] ++ (d2 h ++ ([58] ++ (d2 i ++ ([58] ++ (d2 s ++ ([32] ++ (d4 Y ++ [])))))))) := drop_app x3
  have n4 : a3 + ([32] : List UInt8).length ≤ l.length := drop_le n3 x3
  clear x3 n3
  generalize a3 + ([32] : List UInt8).length = a4 at *
  rw [(tk_lo hd (hdt' x4)).1]
  have x5 := drop_app x4
  have n5 := drop_le n4 x4
  rw [hdl] at x5 n5
  clear x4 n4
  generalize a4 + 2 = a5 at *
  rw [(tk_ex x5).1]
  have x6 : l.drop (a5 + ([32] : List UInt8).length) = d2 h ++ ([58] ++ (d2 i ++ ([58] ++ (d2 s ++ ([32] ++ (d4 Y ++ [])))))) := drop_app x5
  have n6 : a5 + ([32] : List UInt8).length ≤ l.length := drop_le n5 x5
  clear x5 n5
  generalize a5 + ([32] : List UInt8).length = a6 at *
  rw [(tk_d2 hh x6).1]
  have x7 : l.drop (a6 + 2) = [58] ++ (d2 i ++ ([58] ++ (d2 s ++ ([32] ++ (d4 Y ++ []))))) := drop_app x6
  have n7 : a6 + 2 ≤ l.length := drop_le n6 x6
  clear x6 n6
  generalize a6 + 2 = a7 at *
  rw [(tk_ex x7).1]
  have x8 : l.drop (a7 + ([58] : List UInt8).length) = d2 i ++ ([58] ++ (d2 s ++ ([32] ++ (d4 Y ++ [])))) := drop_app x7
  have n8 : a7 + ([58] : List UInt8).length ≤ l.length := drop_le n7 x7
  clear x7 n7
  generalize a7 + ([58] : List UInt8).length = a8 at *
  rw [(tk_d2 hi x8).1]
  have x9 : l.drop (a8 + 2) = [58] ++ (d2 s ++ ([32] ++ (d4 Y ++ []))) := drop_app x8
  have n9 : a8 + 2 ≤ l.length := drop_le n8 x8
  clear x8 n8
  generalize a8 + 2 = a9 at *
  rw [(tk_ex x9).1]
  have x10 : l.drop (a9 + ([58] : List UInt8).length) = d2 s ++ ([32] ++ (d4 Y ++ [])) := drop_app x9
  have n10 : a9 + ([58] : List UInt8).length ≤ l.length := drop_le n9 x9
  clear x9 n9
  generalize a9 + ([58] : List UInt8).length = a10 at *
  rw [(tk_d2 hs x10).1]
  have x11 : l.drop (a10 + 2) = [32] ++ (d4 Y ++ []) := drop_app x10
  have n11 : a10 + 2 ≤ l.length := drop_le n10 x10
  clear x10 n10
  generalize a10 + 2 = a11 at *
  rw [(tk_ex x11).1]
  have x12 : l.drop (a11 + ([32] : List UInt8).length) = d4 Y ++ [] := drop_app x11
  have n12 : a11 + ([32] : List UInt8).length ≤ l.length := drop_le n11 x11
  clear x11 n11
  generalize a11 + ([32] : List UInt8).length = a12 at *
  rw [(tk_d4 hY x12).1]
  have x13 : l.drop (a12 + 4) = [] := drop_app x12
  have n13 : a12 + 4 ≤ l.length := drop_le n12 x12
  clear x12 n12
  rw [takes_nil, drop_len n13 x13]
  exact ⟨_, _, _, _, _, _, _, rfl⟩

theorem takes_P' {l : List UInt8} {e : Nat} {st : List Int} (h : takes l tkP 0 z14 = .ok (e, st)) (he : e = l.length) :
    ∃ (Y m h i s k d : Nat) (dt : List UInt8) (p0 p1 q2 p3 p4 p5 p6 : Int), Y < 10000 ∧ m < 12 ∧ d < 100 ∧ h < 100 ∧ i < 100 ∧ s < 100 ∧ k < 7 ∧ DayT 2 d dt ∧ st = [(k : Int), p0, (d : Int), p1, (m : Int), q2, (Y : Int), p3, (h : Int), p4, (i : Int), p5, (s : Int), p6] ∧ l = shorts.getD k [] ++ ([32] ++ (mons.getD m [] ++ ([32] ++ (dt ++ ([32] ++ (d2 h ++ ([58] ++ (d2 i ++ ([58] ++ (d2 s ++ ([32] ++ (d4 Y ++ [])))))))))))) := by
  unfold tkP at h
  obtain ⟨a1, k, hk, x0, h⟩ := un_nm h
  obtain ⟨a2, x1, h⟩ := un_ex h
  obtain ⟨a3, m, hm, x2, h⟩ := un_nm h
  obtain ⟨a4, x3, h⟩ := un_ex h
  obtain ⟨a5, d, dt, hd, hdt, x4, h⟩ := un_lo h
  obtain ⟨a6, x5, h⟩ := un_ex h
  obtain ⟨a7, hr, hh, x6, h⟩ := un_d2 h
  obtain ⟨a8, x7, h⟩ := un_ex h
  obtain ⟨a9, i, hi, x8, h⟩ := un_d2 h
  obtain ⟨a10, x9, h⟩ := un_ex h
  obtain ⟨a11, s, hs, x10, h⟩ := un_d2 h
  obtain ⟨a12, x11, h⟩ := un_ex h
  obtain ⟨a13, Y, hY, x12, h⟩ := un_d4 h
  rw [takes_nil] at h
  cases h
  have xe : l.drop e = [] := List.drop_eq_nil_iff.2 (by omega)
  rw [xe] at x12
  rw [x12] at x11
  rw [x11] at x10
  rw [x10] at x9
  rw [x9] at x8
  rw [x8] at x7
  rw [x7] at x6
  rw [x6] at x5
  rw [x5] at x4
  rw [x4] at x3
  rw [x3] at x2
  rw [x2] at x1
  rw [x1] at x0
  exact ⟨Y, m, hr, i, s, k, d, dt, _, _, _, _, _, _, _, hY, hm, hd, hh, hi, hs, hk, hdt, rfl, x0⟩

end Bs
end Go.Proofs.YticncpjpkgdnlaaGreatDoor

/-
  Parse of what Write says; texts that Parse takes, and what they say.
-/
set_option linter.unusedVariables false
set_option linter.unusedSimpArgs false
namespace Go.Proofs.YticncpjpkgdnlaaGreatDoor
namespace Bs

/- Which form. -/
theorem formF_0 (X r : List UInt8) {k : Nat} (hk : k < 7) (hX : X = shorts.getD k [] ++ [44] ++ r) : formS X = 0 := by
  subst hX
  rcases (by omega : k = 0 ∨ k = 1 ∨ k = 2 ∨ k = 3 ∨ k = 4 ∨ k = 5 ∨ k = 6) with rfl | rfl | rfl | rfl | rfl | rfl | rfl <;> simp [formS, formF, shorts, longs, hp]
theorem formF_1 (X r : List UInt8) {k : Nat} (hk : k < 7) (hX : X = longs.getD k [] ++ [44] ++ r) : formS X = 1 := by
  subst hX
  rcases (by omega : k = 0 ∨ k = 1 ∨ k = 2 ∨ k = 3 ∨ k = 4 ∨ k = 5 ∨ k = 6) with rfl | rfl | rfl | rfl | rfl | rfl | rfl <;> simp [formS, formF, shorts, longs, hp]
theorem formF_2 (X r : List UInt8) {k : Nat} (hk : k < 7) (hX : X = shorts.getD k [] ++ [32] ++ r) : formS X = 2 := by
  subst hX
  rcases (by omega : k = 0 ∨ k = 1 ∨ k = 2 ∨ k = 3 ∨ k = 4 ∨ k = 5 ∨ k = 6) with rfl | rfl | rfl | rfl | rfl | rfl | rfl <;> simp [formS, formF, shorts, longs, hp]
theorem form_txt {form : Int} (hf : form = 0 ∨ form = 1 ∨ form = 2) {Y m h i s k : Nat} {dt : List UInt8} (hk : k < 7) : formS (txt form Y m h i s k dt) = form := by
  rcases hf with rfl | rfl | rfl
  · exact formF_0 _ ([32] ++ dt ++ [32] ++ mons.getD (m - 1) [] ++ [32] ++ d4 Y ++ clk h i s ++ [32, 71, 77, 84]) hk (by unfold txt; simp)
  · exact formF_1 _ ([32] ++ dt ++ [45] ++ mons.getD (m - 1) [] ++ [45] ++ d2 Y ++ clk h i s ++ [32, 71, 77, 84]) hk (by unfold txt; simp)
  · exact formF_2 _ (mons.getD (m - 1) [] ++ [32] ++ dt ++ clk h i s ++ [32] ++ d4 Y) hk (by unfold txt; simp)

def yrS (f Y now : Int) : Int := if f = 1 then nearS Y (yearOfM now) else Y
theorem takes_txt {form : Int} (hf : form = 0 ∨ form = 1 ∨ form = 2) {Y m h i s k d : Nat} {dt : List UInt8} (hY : Y < if form = 1 then 100 else 10000) (hm : m < 12) (hd : d < 100) (hh : h < 100) (hi : i < 100) (hs : s < 100) (hk : k < 7) (hdt : DayT form d dt) :
    ∃ p0 p1 q2 p3 p4 p5 p6 : Int, takes (txt form Y (m + 1) h i s k dt) (tks form) 0 z14 = .ok ((txt form Y (m + 1) h i s k dt).length, [(k : Int), p0, (d : Int), p1, (m : Int), q2, (Y : Int), p3, (h : Int), p4, (i : Int), p5, (s : Int), p6]) := by
  rcases hf with rfl | rfl | rfl
  · have e : dt = d2 d := by
      rcases hdt with h | ⟨h, _⟩
      · exact h
      · omega
    subst e
    exact takes_F (by simpa using hY) hm hd hh hi hs hk (by unfold txt clk; simp)
  · have e : dt = d2 d := by
      rcases hdt with h | ⟨h, _⟩
      · exact h
      · omega
    subst e
    exact takes_L (by simpa using hY) hm hd hh hi hs hk (by unfold txt clk; simp)
  · exact takes_P (by simpa using hY) hm hd hh hi hs hk hdt (by unfold txt clk; simp)
theorem takes_txt' {l : List UInt8} {form : Int} (hf : form = 0 ∨ form = 1 ∨ form = 2) {e : Nat} {st : List Int} (h : takes l (tks form) 0 z14 = .ok (e, st)) (he : e = l.length) :
    ∃ (Y m h i s k d : Nat) (dt : List UInt8) (p0 p1 q2 p3 p4 p5 p6 : Int), (Y < if form = 1 then 100 else 10000) ∧ m < 12 ∧ d < 100 ∧ h < 100 ∧ i < 100 ∧ s < 100 ∧ k < 7 ∧ DayT form d dt ∧ st = [(k : Int), p0, (d : Int), p1, (m : Int), q2, (Y : Int), p3, (h : Int), p4, (i : Int), p5, (s : Int), p6] ∧ l = txt form Y (m + 1) h i s k dt := by
  rcases hf with rfl | rfl | rfl
  · obtain ⟨Y, m, hr, i, s, k, d, p0, p1, q2, p3, p4, p5, p6, hY, hm, hd, hh, hi, hs, hk, hst, hl⟩ := takes_F' h he
    exact ⟨Y, m, hr, i, s, k, d, d2 d, p0, p1, q2, p3, p4, p5, p6, by simpa using hY, hm, hd, hh, hi, hs, hk, .inl rfl, hst, by rw [hl]; unfold txt clk; simp⟩
  · obtain ⟨Y, m, hr, i, s, k, d, p0, p1, q2, p3, p4, p5, p6, hY, hm, hd, hh, hi, hs, hk, hst, hl⟩ := takes_L' h he
    exact ⟨Y, m, hr, i, s, k, d, d2 d, p0, p1, q2, p3, p4, p5, p6, by simpa using hY, hm, hd, hh, hi, hs, hk, .inl rfl, hst, by rw [hl]; unfold txt clk; simp⟩
  · obtain ⟨Y, m, hr, i, s, k, d, dt, p0, p1, q2, p3, p4, p5, p6, hY, hm, hd, hh, hi, hs, hk, hdt, hst, hl⟩ := takes_P' h he
    exact ⟨Y, m, hr, i, s, k, d, dt, p0, p1, q2, p3, p4, p5, p6, by simpa using hY, hm, hd, hh, hi, hs, hk, hdt, hst, by rw [hl]; unfold txt clk; simp⟩

theorem mom_ok {y : Int} {k p0 d p1 m q2 Y p3 h p4 i p5 s p6 : Int} (e : (momS y [k, p0, d, p1, m, q2, Y, p3, h, p4, i, p5, s, p6]).2.1 = 0) :
    IsD y (m + 1) d ∧ h ≤ 23 ∧ i ≤ 59 ∧ s ≤ 60 ∧ k = wday (dn y (m + 1) d) ∧ (momS y [k, p0, d, p1, m, q2, Y, p3, h, p4, i, p5, s, p6]).1 = dn y (m + 1) d * 86400 + h * 3600 + i * 60 + s := by
  simp only [momS, g, List.getD_cons_zero, List.getD_cons_succ] at e ⊢
  by_cases h1 : y < 1 ∨ 9999 < y
  · rw [if_pos h1] at e; dsimp only at e; omega
  rw [if_neg h1] at e ⊢
  by_cases h2 : ¬ (1 ≤ d ∧ d ≤ md y (m + 1))
  · rw [if_pos h2] at e; dsimp only at e; omega
  rw [if_neg h2] at e ⊢
  by_cases h3 : 23 < h
  · rw [if_pos h3] at e; dsimp only at e; omega
  rw [if_neg h3] at e ⊢
  by_cases h4 : 59 < i
  · rw [if_pos h4] at e; dsimp only at e; omega
  rw [if_neg h4] at e ⊢
  by_cases h5 : 60 < s
  · rw [if_pos h5] at e; dsimp only at e; omega
  rw [if_neg h5] at e ⊢
  by_cases h6 : k ≠ wday (dn y (m + 1) d)
  · rw [if_pos h6] at e; dsimp only at e; omega
  rw [if_neg h6] at e ⊢
  split at e
  · dsimp only at e; omega
  · rename_i h7
    rw [if_neg h7]
    have h2' := Decidable.not_not.1 h2
    exact ⟨⟨by omega, by omega, h2'.1, h2'.2⟩, by omega, by omega, by omega, Decidable.not_not.1 h6, rfl⟩
theorem mom_to {y : Int} {k p0 d p1 m q2 Y p3 h p4 i p5 s p6 : Int} (h1 : IsD y (m + 1) d) (h3 : h ≤ 23) (h4 : i ≤ 59) (h5 : s ≤ 60) (h6 : k = wday (dn y (m + 1) d)) (h7 : dn y (m + 1) d * 86400 + h * 3600 + i * 60 + s ≤ 253402300799) :
    momS y [k, p0, d, p1, m, q2, Y, p3, h, p4, i, p5, s, p6] = (dn y (m + 1) d * 86400 + h * 3600 + i * 60 + s, 0, 0) := by
  obtain ⟨y1, y2, d1, d2⟩ := h1
  simp only [momS, g, List.getD_cons_zero, List.getD_cons_succ]
  rw [if_neg (by omega), if_neg (fun c => c ⟨d1, d2⟩), if_neg (by omega), if_neg (by omega), if_neg (by omega), if_neg (fun c => c h6), if_neg (by omega)]

/-- What a text that is taken says. -/
structure Says (l : List UInt8) (now t f : Int) (Y m h i s k d : Nat) (dt : List UInt8) : Prop where
  hf : f = 0 ∨ f = 1 ∨ f = 2
  form : f = formS l
  hY : Y < if f = 1 then 100 else 10000
  hm : m < 12
  hd : d < 100
  hk : k < 7
  hdt : DayT f d dt
  hl : l = txt f Y (m + 1) h i s k dt
  is : IsD (yrS f Y now) ((m : Int) + 1) d
  hh : h ≤ 23
  hi : i ≤ 59
  hs : s ≤ 60
  hw : (k : Int) = wday (dn (yrS f Y now) ((m : Int) + 1) d)
  ht : t = dn (yrS f Y now) ((m : Int) + 1) d * 86400 + h * 3600 + i * 60 + s
theorem parse_says {l : List UInt8} {now t f e p : Int} (h : parseS l now = (t, f, e, p)) (he : e = 0) : isM now ∧ ∃ Y m h i s k d dt, Says l now t f Y m h i s k d dt := by
  unfold parseS at h
  by_cases hn : isM now
  · rw [if_neg (fun c => c hn)] at h
    refine ⟨hn, ?_⟩
    cases hr : takes l (tks (formS l)) 0 z14 with
    | error a =>
      rw [hr] at h
      simp only [pars2] at h
      cases h
      omega
    | ok r =>
      obtain ⟨a, st⟩ := r
      rw [hr] at h
      simp only [pars2] at h
      by_cases ha : a ≠ l.length
      · rw [if_pos ha] at h
        cases h
        omega
      rw [if_neg ha] at h
      obtain ⟨Y, m, hr', i, s, k, d, dt, p0, p1, q2, p3, p4, p5, p6, hY, hm, hd, hh, hi, hs, hk, hdt, hst, hl⟩ := takes_txt' (formS_r l) hr (Decidable.not_not.1 ha)
      by_cases h0 : (momS (yS l now st) st).2.1 = 0
      · rw [if_pos h0] at h
        have ey : yS l now st = yrS (formS l) Y now := by
          unfold yS yrS
          subst hst
          rfl
        rw [ey, hst] at h0
        obtain ⟨k1, k2, k3, k4, k5, k6⟩ := mom_ok h0
        have e1 := congrArg Prod.fst h
        have e2 := congrArg (fun x => x.2.1) h
        dsimp only at e1 e2
        rw [ey, hst, k6] at e1
        subst e2
        exact ⟨Y, m, hr', i, s, k, d, dt, formS_r l, rfl, hY, hm, hd, hk, hdt, hl, k1, by omega, by omega, by omega, k5, e1.symm⟩
      · rw [if_neg h0] at h
        exfalso
        apply h0
        have := congrArg (fun x => x.2.2.1) h
        dsimp only at this
        omega
  · rw [if_pos hn] at h
    cases h
    omega
theorem parse_to {now : Int} (hn : isM now) {f : Int} (hf : f = 0 ∨ f = 1 ∨ f = 2) {Y m h i s k d : Nat} {dt : List UInt8} (hY : Y < if f = 1 then 100 else 10000) (hm : m < 12) (hd : d < 100) (hh : h ≤ 23) (hi : i ≤ 59) (hs : s ≤ 60) (hk : k < 7) (hdt : DayT f d dt) :
    ∃ p0 p1 q2 p3 p4 p5 p6 : Int, parseS (txt f Y (m + 1) h i s k dt) now = if (momS (yrS f Y now) [(k : Int), p0, (d : Int), p1, (m : Int), q2, (Y : Int), p3, (h : Int), p4, (i : Int), p5, (s : Int), p6]).2.1 = 0 then ((momS (yrS f Y now) [(k : Int), p0, (d : Int), p1, (m : Int), q2, (Y : Int), p3, (h : Int), p4, (i : Int), p5, (s : Int), p6]).1, f, 0, 0) else (0, 0, (momS (yrS f Y now) [(k : Int), p0, (d : Int), p1, (m : Int), q2, (Y : Int), p3, (h : Int), p4, (i : Int), p5, (s : Int), p6]).2.1, (momS (yrS f Y now) [(k : Int), p0, (d : Int), p1, (m : Int), q2, (Y : Int), p3, (h : Int), p4, (i : Int), p5, (s : Int), p6]).2.2) := by
  obtain ⟨p0, p1, q2, p3, p4, p5, p6, ht⟩ := takes_txt hf hY hm hd (by omega) (by omega) (by omega) hk hdt (h := h) (i := i) (s := s)
  refine ⟨p0, p1, q2, p3, p4, p5, p6, ?_⟩
  unfold parseS
  rw [if_neg (fun c => c hn), form_txt hf hk, ht]
  simp only [pars2]
  rw [if_neg (fun c => c rfl)]
  have ey : yS (txt f Y (m + 1) h i s k dt) now [(k : Int), p0, (d : Int), p1, (m : Int), q2, (Y : Int), p3, (h : Int), p4, (i : Int), p5, (s : Int), p6] = yrS f Y now := by
    unfold yS yrS
    rw [form_txt hf hk]
    rfl
  rw [ey, form_txt hf hk]

/- There and back. -/
theorem parts_of {t : Int} (ht : isM t) : ∃ y m d h i s k : Nat, (ymd (t / 86400)).1 = y ∧ (ymd (t / 86400)).2.1 = (m : Int) + 1 ∧ (ymd (t / 86400)).2.2 = d ∧ t % 86400 / 3600 = h ∧ t % 86400 % 3600 / 60 = i ∧ t % 86400 % 60 = s ∧ wday (t / 86400) = k ∧ IsD y ((m : Int) + 1) d ∧ dn y ((m : Int) + 1) d = t / 86400 ∧ m < 12 ∧ d ≤ 31 ∧ y ≤ 9999 ∧ h ≤ 23 ∧ i ≤ 59 ∧ s ≤ 59 ∧ k < 7 := by
  obtain ⟨t1, t2⟩ := ht
  obtain ⟨a, b⟩ := ymd_is (D := t / 86400) (by omega) (by omega)
  have hm := a.m
  have hd := md_le (ymd (t / 86400)).1 (ymd (t / 86400)).2.1
  have hw := wday_r (t / 86400)
  have a' := a
  obtain ⟨y1, y2, d1, d2⟩ := a'
  refine ⟨(ymd (t / 86400)).1.toNat, ((ymd (t / 86400)).2.1 - 1).toNat, (ymd (t / 86400)).2.2.toNat, (t % 86400 / 3600).toNat, (t % 86400 % 3600 / 60).toNat, (t % 86400 % 60).toNat, (wday (t / 86400)).toNat, by omega, by omega, by omega, by omega, by omega, by omega, by omega, ?_, ?_, by omega, by omega, by omega, by omega, by omega, by omega, by omega⟩
  · have e1 : ((ymd (t / 86400)).1.toNat : Int) = (ymd (t / 86400)).1 := by omega
    have e2 : (((ymd (t / 86400)).2.1 - 1).toNat : Int) + 1 = (ymd (t / 86400)).2.1 := by omega
    have e3 : ((ymd (t / 86400)).2.2.toNat : Int) = (ymd (t / 86400)).2.2 := by omega
    rw [e1, e2, e3]
    exact a
  · have e1 : ((ymd (t / 86400)).1.toNat : Int) = (ymd (t / 86400)).1 := by omega
    have e2 : (((ymd (t / 86400)).2.1 - 1).toNat : Int) + 1 = (ymd (t / 86400)).2.1 := by omega
    have e3 : ((ymd (t / 86400)).2.2.toNat : Int) = (ymd (t / 86400)).2.2 := by omega
    rw [e1, e2, e3]
    exact b
theorem writeR_ok {t f : Int} (ht : isM t) (hf : f = 0 ∨ f = 1 ∨ f = 2) {y m d h i s k : Nat} (e1 : (ymd (t / 86400)).1 = y) (e2 : (ymd (t / 86400)).2.1 = (m : Int) + 1) (e3 : (ymd (t / 86400)).2.2 = d) (e4 : t % 86400 / 3600 = h) (e5 : t % 86400 % 3600 / 60 = i) (e6 : t % 86400 % 60 = s) (e7 : wday (t / 86400) = k) :
    writeR t f = (txt f (if f = 1 then y % 100 else y : Nat) (m + 1) h i s k (if f = 2 then p2 32 d else d2 d), 0) := by
  unfold writeR
  rw [if_neg (fun c => c ht), if_neg (fun c => c (by omega)), e1, e2, e3, e4, e5, e6, e7]
  have : ((m : Int) + 1).toNat = m + 1 := by omega
  simp only [Int.toNat_natCast, this]
  rfl
theorem near_y {y this : Int} (h1 : this - 49 ≤ y) (h2 : y ≤ this + 50) : nearS (y % 100) this = y := by
  unfold nearS
  omega
theorem near_r (c this : Int) : this - 49 ≤ nearS c this ∧ nearS c this ≤ this + 50 := by
  unfold nearS
  omega
theorem back_to {t f now : Int} (ht : isM t) (hn : isM now) (hf : f = 0 ∨ f = 1 ∨ f = 2) (ha : f ≠ 1 ∨ (yearOfM now - 49 ≤ yearOfM t ∧ yearOfM t ≤ yearOfM now + 50)) : parseS (writeR t f).1 now = (t, f, 0, 0) := by
  obtain ⟨y, m, d, h, i, s, k, e1, e2, e3, e4, e5, e6, e7, hI, hD, hm, hd, hy, hh, hi, hs, hk⟩ := parts_of ht
  rw [writeR_ok ht hf e1 e2 e3 e4 e5 e6 e7]
  have hdt : DayT f d (if f = 2 then p2 32 d else d2 d) := by
    split
    · rename_i h2
      subst h2
      exact dayT_p2
    · exact .inl rfl
  obtain ⟨p0, p1, q2, p3, p4, p5, p6, hp⟩ := parse_to hn hf (Y := (if f = 1 then y % 100 else y : Nat)) (by split <;> omega) hm (by omega) hh hi (by omega) hk hdt (h := h) (i := i) (s := s)
  have ey : yrS f ((if f = 1 then y % 100 else y : Nat) : Int) now = y := by
    unfold yrS
    by_cases h1 : f = 1
    · rw [if_pos h1, if_pos h1]
      have := ha.resolve_left (fun c => c h1)
      have e : yearOfM t = y := e1
      rw [e] at this
      rw [show ((y % 100 : Nat) : Int) = (y : Int) % 100 by omega]
      exact near_y this.1 this.2
    · rw [if_neg h1, if_neg h1]
  dsimp only
  rw [hp, ey]
  have hw : (k : Int) = wday (dn y ((m : Int) + 1) d) := by rw [hD, e7]
  have htt : dn y ((m : Int) + 1) d * 86400 + h * 3600 + i * 60 + s = t := by rw [hD]; omega
  have hmx := ht.2
  rw [mom_to hI (by omega) (by omega) (by omega) hw (by omega), if_pos rfl, htt]
theorem back_far {t now : Int} (ht : isM t) (hn : isM now) (ha : ¬ (yearOfM now - 49 ≤ yearOfM t ∧ yearOfM t ≤ yearOfM now + 50)) : (parseS (writeR t 1).1 now).2.2.1 ≠ 0 ∨ (parseS (writeR t 1).1 now).1 ≠ t := by
  obtain ⟨y, m, d, h, i, s, k, e1, e2, e3, e4, e5, e6, e7, hI, hD, hm, hd, hy, hh, hi, hs, hk⟩ := parts_of ht
  rw [writeR_ok ht (.inr (.inl rfl)) e1 e2 e3 e4 e5 e6 e7]
  obtain ⟨p0, p1, q2, p3, p4, p5, p6, hp⟩ := parse_to (f := 1) hn (.inr (.inl rfl)) (Y := y % 100) (by simp; omega) hm (by omega) hh hi (by omega) hk (dt := d2 d) (.inl rfl) (h := h) (i := i) (s := s) (d := d)
  have e : (txt 1 (if (1 : Int) = 1 then y % 100 else y : Nat) (m + 1) h i s k (if (1 : Int) = 2 then p2 32 d else d2 d)) = txt 1 (y % 100) (m + 1) h i s k (d2 d) := rfl
  dsimp only
  rw [e, hp]
  have hr := near_r ((y % 100 : Nat) : Int) (yearOfM now)
  have ey : yrS 1 ((y % 100 : Nat) : Int) now = nearS ((y % 100 : Nat) : Int) (yearOfM now) := rfl
  rw [ey]
  by_cases h0 : (momS (nearS ((y % 100 : Nat) : Int) (yearOfM now)) [(k : Int), p0, (d : Int), p1, (m : Int), q2, ((y % 100 : Nat) : Int), p3, (h : Int), p4, (i : Int), p5, (s : Int), p6]).2.1 = 0
  · obtain ⟨k1, _, _, _, _, k6⟩ := mom_ok h0
    rw [if_pos h0]
    refine .inr ?_
    dsimp only
    rw [k6]
    intro hc
    have hdn : dn (nearS ((y % 100 : Nat) : Int) (yearOfM now)) ((m : Int) + 1) d = dn y ((m : Int) + 1) d := by
      rw [hD]
      omega
    have := (dn_inj k1 hI hdn).1
    have et : yearOfM t = y := e1
    apply ha
    rw [et]
    omega
  · rw [if_neg h0]
    exact .inl h0

end Bs
end Go.Proofs.YticncpjpkgdnlaaGreatDoor

/-
  Texts that differ say unlike moments; texts in the first form and their moments.
-/
set_option linter.unusedVariables false
set_option linter.unusedSimpArgs false
namespace Go.Proofs.YticncpjpkgdnlaaGreatDoor
namespace Bs

def Leapt (l : List UInt8) : Prop := ∃ i, i + 3 ≤ l.length ∧ (l.drop i).take 3 = [58, 54, 48]
theorem leapt_of {l A B : List UInt8} (h : l = A ++ ([58, 54, 48] ++ B)) : Leapt l := by
  refine ⟨A.length, ?_, ?_⟩
  · rw [h]
    simp
  · rw [h, List.drop_left]
    rfl
theorem Says.no60 {l : List UInt8} {now t f : Int} {Y m h i s k d : Nat} {dt : List UInt8} (S : Says l now t f Y m h i s k d dt) (hl : ¬ Leapt l) : s ≤ 59 := by
  by_cases h60 : s = 60
  · exfalso
    apply hl
    have e : d2 60 = [54, 48] := rfl
    have hl := S.hl
    rw [h60] at hl
    unfold txt clk at hl
    rw [e] at hl
    rcases S.hf with rfl | rfl | rfl
    · exact leapt_of (A := shorts.getD k [] ++ [44, 32] ++ dt ++ [32] ++ mons.getD (m + 1 - 1) [] ++ [32] ++ d4 Y ++ ([32] ++ d2 h ++ [58] ++ d2 i)) (B := [32, 71, 77, 84]) (by rw [hl]; simp)
    · exact leapt_of (A := longs.getD k [] ++ [44, 32] ++ dt ++ [45] ++ mons.getD (m + 1 - 1) [] ++ [45] ++ d2 Y ++ ([32] ++ d2 h ++ [58] ++ d2 i)) (B := [32, 71, 77, 84]) (by rw [hl]; simp)
    · exact leapt_of (A := shorts.getD k [] ++ [32] ++ mons.getD (m + 1 - 1) [] ++ [32] ++ dt ++ ([32] ++ d2 h ++ [58] ++ d2 i)) (B := [32] ++ d4 Y) (by rw [hl]; simp)
  · have := S.hs
    omega
/-- The same moment: the same pieces. -/
theorem Says.same {a b : List UInt8} {now t f : Int} {Y m h i s k d Y' m' h' i' s' k' d' : Nat} {dt dt' : List UInt8} (S : Says a now t f Y m h i s k d dt) (T : Says b now t f Y' m' h' i' s' k' d' dt') (hs : s ≤ 59) (hs' : s' ≤ 59) :
    Y = Y' ∧ m = m' ∧ h = h' ∧ i = i' ∧ s = s' ∧ k = k' ∧ d = d' := by
  have e := S.ht.symm.trans T.ht
  have a1 := S.hh
  have a2 := S.hi
  have b1 := T.hh
  have b2 := T.hi
  have hw := S.hw
  have hw' := T.hw
  generalize hD : dn (yrS f Y now) ((m : Int) + 1) d = D at *
  generalize hD' : dn (yrS f Y' now) ((m' : Int) + 1) d' = D' at *
  have e1 : D = D' := by omega
  subst e1
  obtain ⟨c1, c2, c3⟩ := dn_inj S.is T.is (hD.trans hD'.symm)
  have hY := S.hY
  have hY' := T.hY
  refine ⟨?_, by omega, by omega, by omega, by omega, by omega, by omega⟩
  unfold yrS at c1
  by_cases h1 : f = 1
  · rw [if_pos h1] at c1 hY hY'
    rw [if_pos h1] at c1
    unfold nearS at c1
    omega
  · rw [if_neg h1, if_neg h1] at c1
    omega
def cut9 (l : List UInt8) : List UInt8 := l.take 8 ++ l.drop 9
theorem cut9_txt {Y m h i s k d : Nat} {dt : List UInt8} (hk : k < 7) (hm : m < 12) (hdt : DayT 2 d dt) : cut9 (txt 2 Y (m + 1) h i s k dt) = (shorts.getD k [] ++ ([32] ++ (mons.getD m [] ++ [32]))) ++ (dg d :: (clk h i s ++ ([32] ++ d4 Y))) ∧ 9 < (txt 2 Y (m + 1) h i s k dt).length := by
  obtain ⟨x, hx⟩ : ∃ x, dt = [x, dg d] := by
    rcases hdt with rfl | ⟨_, _, rfl⟩
    · exact ⟨_, rfl⟩
    · exact ⟨_, rfl⟩
  subst hx
  have n1 := shorts_n' hk
  have n2 := mons_n' hm
  have e : txt 2 Y (m + 1) h i s k [x, dg d] = (shorts.getD k [] ++ ([32] ++ (mons.getD m [] ++ [32]))) ++ ([x] ++ (dg d :: (clk h i s ++ ([32] ++ d4 Y)))) := by
    unfold txt
    simp
  have hl : (shorts.getD k [] ++ ([32] ++ (mons.getD m [] ++ [32]))).length = 8 := by
    simp only [List.length_append, n1, n2]
    rfl
  generalize shorts.getD k [] ++ ([32] ++ (mons.getD m [] ++ [32])) = A at *
  have hB : 1 ≤ (dg d :: (clk h i s ++ ([32] ++ d4 Y))).length := by simp
  generalize dg d :: (clk h i s ++ ([32] ++ d4 Y)) = B at *
  rw [e]
  unfold cut9
  refine ⟨?_, ?_⟩
  · rw [show (A ++ ([x] ++ B)).take 8 = A by rw [← hl, List.take_left], show (A ++ ([x] ++ B)).drop 9 = B by rw [← List.append_assoc, show 9 = (A ++ [x]).length by simp [hl]]; exact List.drop_left]
  · simp only [List.length_append, hl, List.length_cons, List.length_nil]
    omega
theorem clk_inj {h i s h' i' s' : Nat} {r r' : List UInt8} (hh : h < 100) (hi : i < 100) (hs : s < 100) (hh' : h' < 100) (hi' : i' < 100) (hs' : s' < 100) (e : clk h i s ++ r = clk h' i' s' ++ r') : h = h' ∧ i = i' ∧ s = s' ∧ r = r' := by
  unfold clk d2 at e
  simp only [List.append_assoc, List.cons_append, List.nil_append, List.cons.injEq, true_and] at e
  obtain ⟨h1, h2, h3, h4, h5, h6, h7⟩ := e
  have h1 := dg_inj h1
  have h2 := dg_inj h2
  have h3 := dg_inj h3
  have h4 := dg_inj h4
  have h5 := dg_inj h5
  have h6 := dg_inj h6
  exact ⟨by omega, by omega, by omega, h7⟩
theorem shorts_inj : ∀ i j : Fin 7, shorts.getD i.val [] = shorts.getD j.val [] → i = j := by decide
theorem mons_inj : ∀ i j : Fin 12, mons.getD i.val [] = mons.getD j.val [] → i = j := by decide
theorem shorts_inj' {i j : Nat} (hi : i < 7) (hj : j < 7) (h : shorts.getD i [] = shorts.getD j []) : i = j := congrArg Fin.val (shorts_inj ⟨i, hi⟩ ⟨j, hj⟩ h)
theorem mons_inj' {i j : Nat} (hi : i < 12) (hj : j < 12) (h : mons.getD i [] = mons.getD j []) : i = j := congrArg Fin.val (mons_inj ⟨i, hi⟩ ⟨j, hj⟩ h)
theorem app_inj {a b c d : List UInt8} (h : a ++ b = c ++ d) (hl : a.length = c.length) : a = c ∧ b = d := List.append_inj h hl

theorem one_cut {a b : List UInt8} {now t t' : Int} {Y m h i s k d Y' m' h' i' s' k' d' : Nat} {dt dt' : List UInt8} (S : Says a now t 2 Y m h i s k d dt) (T : Says b now t' 2 Y' m' h' i' s' k' d' dt') (e : cut9 a = cut9 b) : t = t' := by
  rw [S.hl, T.hl, (cut9_txt S.hk S.hm S.hdt).1, (cut9_txt T.hk T.hm T.hdt).1] at e
  have a1 := S.hh
  have a2 := S.hi
  have a3 := S.hs
  have b1 := T.hh
  have b2 := T.hi
  have b3 := T.hs
  obtain ⟨e1, e2⟩ := app_inj e (by simp only [List.length_append, shorts_n' S.hk, shorts_n' T.hk, mons_n' S.hm, mons_n' T.hm])
  obtain ⟨e3, e4⟩ := app_inj e1 (by rw [shorts_n' S.hk, shorts_n' T.hk])
  obtain ⟨_, e5⟩ := app_inj e4 rfl
  obtain ⟨e6, _⟩ := app_inj e5 (by rw [mons_n' S.hm, mons_n' T.hm])
  have hk := shorts_inj' S.hk T.hk e3
  have hm := mons_inj' S.hm T.hm e6
  simp only [List.cons.injEq] at e2
  have hd := dg_inj e2.1
  obtain ⟨c1, c2, c3, c4⟩ := clk_inj (by omega) (by omega) (by omega) (by omega) (by omega) (by omega) e2.2
  obtain ⟨_, c5⟩ := app_inj c4 rfl
  have hY := S.hY
  have hY' := T.hY
  have cY := d4_inj (by simpa using hY) (by simpa using hY') c5
  subst hk hm c1 c2 c3 cY
  have w1 := S.hw
  have w2 := T.hw
  have i1 := S.is
  have i2 := T.is
  have hml := md_le (yrS 2 Y now) ((m : Int) + 1)
  obtain ⟨_, _, d1, d2'⟩ := i1
  obtain ⟨_, _, d3, d4'⟩ := i2
  have w3 := w1.symm.trans w2
  unfold wday dn at w3
  have hdd : d = d' := by omega
  subst hdd
  rw [S.ht, T.ht]
theorem one_same {a b : List UInt8} {now t f : Int} {Y m h i s k d Y' m' h' i' s' k' d' : Nat} {dt dt' : List UInt8} (S : Says a now t f Y m h i s k d dt) (T : Says b now t f Y' m' h' i' s' k' d' dt') (hs : ¬ Leapt a) (hs' : ¬ Leapt b) : (f ≠ 2 ∧ a = b) ∨ (f = 2 ∧ 9 < a.length ∧ cut9 a = cut9 b) := by
  obtain ⟨rfl, rfl, rfl, rfl, rfl, rfl, rfl⟩ := S.same T (S.no60 hs) (T.no60 hs')
  by_cases h2 : f = 2
  · subst h2
    have e1 := cut9_txt (Y := Y) (h := h) (i := i) (s := s) S.hk S.hm S.hdt
    have e2 := cut9_txt (Y := Y) (h := h) (i := i) (s := s) T.hk T.hm T.hdt
    refine .inr ⟨rfl, ?_, ?_⟩
    · rw [S.hl]
      exact e1.2
    · rw [S.hl, T.hl, e1.1, e2.1]
  · have d1 : dt = d2 d := S.hdt.resolve_right (fun c => h2 c.1)
    have d2' : dt' = d2 d := T.hdt.resolve_right (fun c => h2 c.1)
    exact .inl ⟨h2, by rw [S.hl, T.hl, d1, d2']⟩

/- Texts in the first form. -/
theorem fix_len {t : Int} (ht : isM t) : (writeR t 0).1.length = 29 ∧ (writeR t 0).2 = 0 := by
  obtain ⟨y, m, d, h, i, s, k, e1, e2, e3, e4, e5, e6, e7, hI, hD, hm, hd, hy, hh, hi, hs, hk⟩ := parts_of ht
  rw [writeR_ok ht (.inl rfl) e1 e2 e3 e4 e5 e6 e7]
  refine ⟨?_, rfl⟩
  have n1 := shorts_n' hk
  have n2 := mons_n' hm
  show (shorts.getD k [] ++ [44, 32] ++ d2 d ++ [32] ++ mons.getD (m + 1 - 1) [] ++ [32] ++ d4 y ++ clk h i s ++ [32, 71, 77, 84]).length = 29
  simp only [List.length_append, n1, Nat.add_sub_cancel, n2]
  rfl
theorem fix_inj {a b : Int} (ha : isM a) (hb : isM b) (h : (writeR a 0).1 = (writeR b 0).1) : a = b := by
  have e1 := back_to (f := 0) (now := 0) ha (by unfold isM; omega) (.inl rfl) (.inl (by decide))
  have e2 := back_to (f := 0) (now := 0) hb (by unfold isM; omega) (.inl rfl) (.inl (by decide))
  rw [h, e2] at e1
  exact (congrArg Prod.fst e1).symm

end Bs
end Go.Proofs.YticncpjpkgdnlaaGreatDoor
