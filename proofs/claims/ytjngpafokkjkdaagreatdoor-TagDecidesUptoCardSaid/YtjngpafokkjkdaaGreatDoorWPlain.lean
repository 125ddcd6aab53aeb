/-
  Dates as texts, plain: what is written is read, what is read was so written.
-/
import Derived.Test.YtjngpafokkjkdaaGreatDoorCPlain2
set_option linter.unusedVariables false
set_option linter.unusedSimpArgs false
namespace Go.Proofs.YtjngpafokkjkdaaGreatDoor
namespace Bs

def dg (n : Nat) : UInt8 := UInt8.ofNat (48 + n % 10)
def d2 (n : Nat) : List UInt8 := [dg (n / 10), dg n]
def d4 (n : Nat) : List UInt8 := [dg (n / 1000), dg (n / 100), dg (n / 10), dg n]
def p2 (c : UInt8) (n : Nat) : List UInt8 := if n < 10 then [c, dg n] else d2 n
def clk (h i s : Nat) : List UInt8 := [32] ++ d2 h ++ [58] ++ d2 i ++ [58] ++ d2 s
/-- A date in a form: Y the year as it is written (four digits or two), dt the day. -/
def txt (form : Int) (Y m h i s k : Nat) (dt : List UInt8) : List UInt8 :=
  if form = 1 then longs.getD k [] ++ [44, 32] ++ dt ++ [45] ++ mons.getD (m - 1) [] ++ [45] ++ d2 Y ++ clk h i s ++ [32, 71, 77, 84]
  else if form = 2 then shorts.getD k [] ++ [32] ++ mons.getD (m - 1) [] ++ [32] ++ dt ++ clk h i s ++ [32] ++ d4 Y
  else shorts.getD k [] ++ [44, 32] ++ dt ++ [32] ++ mons.getD (m - 1) [] ++ [32] ++ d4 Y ++ clk h i s ++ [32, 71, 77, 84]
def wrS (form : Int) (y m d h i s k : Nat) : List UInt8 := txt form (if form = 1 then y % 100 else y) m h i s k (if form = 2 then p2 32 d else d2 d)
def writeR (t form : Int) : List UInt8 × Int :=
  if ¬ isM t then ([], 40) else if ¬ (0 ≤ form ∧ form < 3) then ([], 44)
  else (wrS form (ymd (t / 86400)).1.toNat (ymd (t / 86400)).2.1.toNat (ymd (t / 86400)).2.2.toNat (t % 86400 / 3600).toNat (t % 86400 % 3600 / 60).toNat (t % 86400 % 60).toNat (wday (t / 86400)).toNat, 0)

/- Digits. -/
theorem dg_nat (n : Nat) : (dg n).toNat = 48 + n % 10 := by
  unfold dg
  have : 48 + n % 10 < 256 := by omega
  simp [UInt8.toNat_ofNat, Nat.mod_eq_of_lt this]
theorem dg_dgt (n : Nat) : dgt (dg n) = true := by
  unfold dgt
  rw [dg_nat]
  simp
  omega
theorem dg_dv (n : Nat) : dv (dg n) = ((n % 10 : Nat) : Int) := by
  unfold dv
  rw [dg_nat]
  omega
theorem dg_inj {a b : Nat} (h : dg a = dg b) : a % 10 = b % 10 := by
  have := congrArg UInt8.toNat h
  rw [dg_nat, dg_nat] at this
  omega
theorem dg_of {c : UInt8} (h : dgt c = true) {n : Nat} (hn : (n % 10 : Nat) = (dv c).toNat) : dg n = c := by
  unfold dgt at h
  have h' := of_decide_eq_true h
  unfold dv at hn
  apply UInt8.toNat_inj.1
  rw [dg_nat]
  omega
theorem dv_r {c : UInt8} (h : dgt c = true) : 0 ≤ dv c ∧ dv c ≤ 9 := by
  unfold dgt at h
  have h' := of_decide_eq_true h
  unfold dv
  omega
theorem d2_inj {a b : Nat} (ha : a < 100) (hb : b < 100) (h : d2 a = d2 b) : a = b := by
  unfold d2 at h
  simp only [List.cons.injEq, and_true] at h
  have h1 := dg_inj h.1
  have h2 := dg_inj h.2
  omega
theorem d4_inj {a b : Nat} (ha : a < 10000) (hb : b < 10000) (h : d4 a = d4 b) : a = b := by
  unfold d4 at h
  simp only [List.cons.injEq, and_true] at h
  obtain ⟨h1, h2, h3, h4⟩ := h
  have h1 := dg_inj h1
  have h2 := dg_inj h2
  have h3 := dg_inj h3
  have h4 := dg_inj h4
  omega

/- At a place. -/
theorem drop_get {l : List UInt8} {a : Nat} {c : UInt8} {r : List UInt8} (h : l.drop a = c :: r) : l[a]? = some c ∧ l.drop (a + 1) = r := by
  have h1 : (l.drop a)[0]? = some c := by rw [h]; rfl
  rw [List.getElem?_drop] at h1
  refine ⟨by simpa using h1, ?_⟩
  have h2 : (l.drop a).drop 1 = r := by rw [h]; rfl
  rw [List.drop_drop] at h2
  exact h2
theorem get_drop {l : List UInt8} {a : Nat} {c : UInt8} (h : l[a]? = some c) : l.drop a = c :: l.drop (a + 1) := by
  have hl := (List.getElem?_eq_some_iff.1 h)
  obtain ⟨h1, h2⟩ := hl
  rw [List.drop_eq_getElem_cons h1, h2]
theorem drop_app {l p r : List UInt8} {a : Nat} (h : l.drop a = p ++ r) : l.drop (a + p.length) = r := by
  rw [← List.drop_drop, h, List.drop_left]

theorem exs_to {l : List UInt8} : ∀ {t r : List UInt8} {a : Nat}, l.drop a = t ++ r → exs l t a = .ok (a + t.length)
  | [], r, a, h => rfl
  | c :: t, r, a, h => by
    obtain ⟨h1, h2⟩ := drop_get (r := t ++ r) h
    unfold exs
    rw [if_pos h1, exs_to h2]
    simp only [List.length_cons]
    congr 1
    omega
theorem exs_of {l : List UInt8} : ∀ {t : List UInt8} {a b : Nat}, exs l t a = .ok b → b = a + t.length ∧ l.drop a = t ++ l.drop b
  | [], a, b, h => by
    cases h
    exact ⟨rfl, rfl⟩
  | c :: t, a, b, h => by
    unfold exs at h
    split at h
    · rename_i hc
      obtain ⟨h1, h2⟩ := exs_of h
      refine ⟨by simp only [List.length_cons]; omega, ?_⟩
      rw [get_drop hc, h2]
      rfl
    · cases h
theorem dgs_cons {l : List UInt8} {k a : Nat} {v : Int} {c : UInt8} (h : l[a]? = some c) (hd : dgt c = true) : dgs l (k + 1) a v = dgs l k (a + 1) (v * 10 + dv c) := by
  conv => lhs; unfold dgs
  simp only [h, hd, if_true]
theorem dgs_un {l : List UInt8} {k a : Nat} {v : Int} {r : Nat × Int} (h : dgs l (k + 1) a v = .ok r) : ∃ c, l[a]? = some c ∧ dgt c = true ∧ dgs l k (a + 1) (v * 10 + dv c) = .ok r := by
  unfold dgs at h
  split at h
  · rename_i c hc
    split at h
    · rename_i hd
      exact ⟨c, hc, hd, h⟩
    · cases h
  · cases h
theorem dgs1_to {l r : List UInt8} {a n : Nat} (hn : n < 10) (h : l.drop a = dg n :: r) : dgs l 1 a 0 = .ok (a + 1, (n : Int)) := by
  obtain ⟨h1, h2⟩ := drop_get h
  rw [dgs_cons h1 (dg_dgt _), dg_dv]
  unfold dgs
  congr 2
  omega
theorem dgs2_to {l r : List UInt8} {a n : Nat} (hn : n < 100) (h : l.drop a = d2 n ++ r) : dgs l 2 a 0 = .ok (a + 2, (n : Int)) := by
  obtain ⟨h1, h2⟩ := drop_get (r := dg n :: r) h
  obtain ⟨h3, h4⟩ := drop_get h2
  rw [dgs_cons h1 (dg_dgt _), dgs_cons h3 (dg_dgt _), dg_dv, dg_dv]
  unfold dgs
  congr 2
  omega
theorem dgs4_to {l r : List UInt8} {a n : Nat} (hn : n < 10000) (h : l.drop a = d4 n ++ r) : dgs l 4 a 0 = .ok (a + 4, (n : Int)) := by
  obtain ⟨h1, h2⟩ := drop_get (r := dg (n / 100) :: dg (n / 10) :: dg n :: r) h
  obtain ⟨h3, h4⟩ := drop_get h2
  obtain ⟨h5, h6⟩ := drop_get h4
  obtain ⟨h7, h8⟩ := drop_get h6
  rw [dgs_cons h1 (dg_dgt _), dgs_cons h3 (dg_dgt _), dgs_cons h5 (dg_dgt _), dgs_cons h7 (dg_dgt _), dg_dv, dg_dv, dg_dv, dg_dv]
  unfold dgs
  congr 2
  omega
theorem dgs1_of {l : List UInt8} {a b : Nat} {v : Int} (h : dgs l 1 a 0 = .ok (b, v)) : ∃ n : Nat, n < 10 ∧ v = (n : Int) ∧ b = a + 1 ∧ l.drop a = dg n :: l.drop b := by
  obtain ⟨c, h1, h2, h⟩ := dgs_un h
  unfold dgs at h
  cases h
  have r := dv_r h2
  refine ⟨(dv c).toNat, by omega, by omega, rfl, ?_⟩
  rw [get_drop h1, dg_of h2 (by omega)]
theorem dgs2_of {l : List UInt8} {a b : Nat} {v : Int} (h : dgs l 2 a 0 = .ok (b, v)) : ∃ n : Nat, n < 100 ∧ v = (n : Int) ∧ b = a + 2 ∧ l.drop a = d2 n ++ l.drop b := by
  obtain ⟨c, h1, h2, h⟩ := dgs_un h
  obtain ⟨c', h3, h4, h⟩ := dgs_un h
  unfold dgs at h
  cases h
  have r := dv_r h2
  have r' := dv_r h4
  refine ⟨(dv c).toNat * 10 + (dv c').toNat, by omega, by omega, rfl, ?_⟩
  rw [get_drop h1, get_drop h3]
  unfold d2
  rw [dg_of h2 (by omega), dg_of h4 (by omega)]
  rfl
theorem dgs4_of {l : List UInt8} {a b : Nat} {v : Int} (h : dgs l 4 a 0 = .ok (b, v)) : ∃ n : Nat, n < 10000 ∧ v = (n : Int) ∧ b = a + 4 ∧ l.drop a = d4 n ++ l.drop b := by
  obtain ⟨c, h1, h2, h⟩ := dgs_un h
  obtain ⟨c', h3, h4, h⟩ := dgs_un h
  obtain ⟨c'', h5, h6, h⟩ := dgs_un h
  obtain ⟨c3, h7, h8, h⟩ := dgs_un h
  unfold dgs at h
  cases h
  have r := dv_r h2
  have r' := dv_r h4
  have r'' := dv_r h6
  have r3 := dv_r h8
  refine ⟨(dv c).toNat * 1000 + (dv c').toNat * 100 + (dv c'').toNat * 10 + (dv c3).toNat, by omega, by omega, rfl, ?_⟩
  rw [get_drop h1, get_drop h3, get_drop h5, get_drop h7]
  unfold d4
  rw [dg_of h2 (by omega), dg_of h4 (by omega), dg_of h6 (by omega), dg_of h8 (by omega)]
  rfl

/- Names. -/
theorem hp_app {l t : List UInt8} (h : hp l t = true) : l = t ++ l.drop t.length := by
  have := of_decide_eq_true h
  conv => lhs; rw [← List.take_append_drop t.length l, this]
theorem hp_self (t r : List UInt8) : hp (t ++ r) t = true := by
  unfold hp
  simp
theorem nam_of {l : List UInt8} {a i : Nat} {ns : List (List UInt8)} (h : nam l a ns = some i) : i < ns.length ∧ l.drop a = ns.getD i [] ++ l.drop (a + (ns.getD i []).length) := by
  unfold nam at h
  obtain ⟨hi, hh, _⟩ := List.findIdx?_eq_some_iff_getElem.1 h
  have e : ns.getD i [] = ns[i] := by rw [List.getD_eq_getElem?_getD, List.getElem?_eq_getElem hi]; rfl
  refine ⟨hi, ?_⟩
  rw [e]
  have := hp_app hh
  rw [List.drop_drop] at this
  exact this
theorem nam_to {l r : List UInt8} {a i : Nat} {ns : List (List UInt8)} (hi : i < ns.length) (hns : ∀ j, j < i → hp (ns.getD i [] ++ r) (ns.getD j []) = false) (h : l.drop a = ns.getD i [] ++ r) : nam l a ns = some i := by
  unfold nam
  rw [List.findIdx?_eq_some_iff_getElem]
  have e : ∀ j (hj : j < ns.length), ns.getD j [] = ns[j] := fun j hj => by rw [List.getD_eq_getElem?_getD, List.getElem?_eq_getElem hj]; rfl
  refine ⟨hi, by rw [h, e i hi]; exact hp_self _ _, fun j hj => ?_⟩
  rw [h, ← e j (by omega), hns j hj]
  simp
theorem hp_ne {x r t : List UInt8} (k : Nat) (hk : k ≤ x.length) (hk2 : k ≤ t.length) (h : x.take k ≠ t.take k) : hp (x ++ r) t = false := by
  unfold hp
  apply decide_eq_false
  intro e
  apply h
  have h1 : ((x ++ r).take t.length).take k = t.take k := by rw [e]
  rw [List.take_take, Nat.min_eq_left hk2, List.take_append_of_le_length hk] at h1
  exact h1
theorem shorts_ne : ∀ i j : Fin 7, j.val < i.val → (shorts.getD i.val []).take 3 ≠ (shorts.getD j.val []).take 3 := by decide
theorem longs_ne : ∀ i j : Fin 7, j.val < i.val → (longs.getD i.val []).take 2 ≠ (longs.getD j.val []).take 2 := by decide
theorem mons_ne : ∀ i j : Fin 12, j.val < i.val → (mons.getD i.val []).take 3 ≠ (mons.getD j.val []).take 3 := by decide
theorem shorts_n : ∀ i : Fin 7, (shorts.getD i.val []).length = 3 := by decide
theorem longs_n : ∀ i : Fin 7, 6 ≤ (longs.getD i.val []).length ∧ (longs.getD i.val []).length ≤ 9 := by decide
theorem mons_n : ∀ i : Fin 12, (mons.getD i.val []).length = 3 := by decide
theorem shorts_n' {i : Nat} (hi : i < 7) : (shorts.getD i []).length = 3 := shorts_n ⟨i, hi⟩
theorem longs_n' {i : Nat} (hi : i < 7) : 6 ≤ (longs.getD i []).length ∧ (longs.getD i []).length ≤ 9 := longs_n ⟨i, hi⟩
theorem mons_n' {i : Nat} (hi : i < 12) : (mons.getD i []).length = 3 := mons_n ⟨i, hi⟩
theorem short_to {l r : List UInt8} {a i : Nat} (hi : i < 7) (h : l.drop a = shorts.getD i [] ++ r) : nam l a (nms 0) = some i :=
  nam_to (ns := shorts) hi (fun j hj => hp_ne 3 (by have := shorts_n' hi; omega) (by have := shorts_n' (i := j) (by omega); omega) (shorts_ne ⟨i, hi⟩ ⟨j, by omega⟩ hj)) h
theorem long_to {l r : List UInt8} {a i : Nat} (hi : i < 7) (h : l.drop a = longs.getD i [] ++ r) : nam l a (nms 1) = some i :=
  nam_to (ns := longs) hi (fun j hj => hp_ne 2 (by have := longs_n' hi; omega) (by have := longs_n' (i := j) (by omega); omega) (longs_ne ⟨i, hi⟩ ⟨j, by omega⟩ hj)) h
theorem mon_to {l r : List UInt8} {a i : Nat} (hi : i < 12) (h : l.drop a = mons.getD i [] ++ r) : nam l a (nms 2) = some i :=
  nam_to (ns := mons) hi (fun j hj => hp_ne 3 (by have := mons_n' hi; omega) (by have := mons_n' (i := j) (by omega); omega) (mons_ne ⟨i, hi⟩ ⟨j, by omega⟩ hj)) h

/- Takers, forth. -/
theorem takes_cons {l : List UInt8} {t : TK} {ts : List TK} {a b : Nat} {st st' : List Int} (h : take1 l a st t = .ok (b, st')) : takes l (t :: ts) a st = takes l ts b st' := by
  conv => lhs; unfold takes
  rw [h]
theorem tk_ex {l t r : List UInt8} {a : Nat} {st : List Int} {ts : List TK} (h : l.drop a = t ++ r) : takes l (.ex t :: ts) a st = takes l ts (a + t.length) st ∧ l.drop (a + t.length) = r := by
  refine ⟨?_, drop_app h⟩
  exact takes_cons (by simp only [take1, exs_to h])
theorem tk_d2 {l r : List UInt8} {a f n : Nat} {st : List Int} {ts : List TK} (hn : n < 100) (h : l.drop a = d2 n ++ r) : takes l (.dg 2 f :: ts) a st = takes l ts (a + 2) (put st f n a) ∧ l.drop (a + 2) = r := by
  refine ⟨?_, drop_app h⟩
  exact takes_cons (by simp only [take1, dgs2_to hn h])
theorem tk_d4 {l r : List UInt8} {a f n : Nat} {st : List Int} {ts : List TK} (hn : n < 10000) (h : l.drop a = d4 n ++ r) : takes l (.dg 4 f :: ts) a st = takes l ts (a + 4) (put st f n a) ∧ l.drop (a + 4) = r := by
  refine ⟨?_, drop_app h⟩
  exact takes_cons (by simp only [take1, dgs4_to hn h])
theorem tk_nm {l r : List UInt8} {a f k i : Nat} {st : List Int} {ts : List TK} (hn : nam l a (nms k) = some i) (h : l.drop a = (nms k).getD i [] ++ r) : takes l (.nm k f :: ts) a st = takes l ts (a + ((nms k).getD i []).length) (put st f i a) ∧ l.drop (a + ((nms k).getD i []).length) = r := by
  refine ⟨?_, drop_app h⟩
  exact takes_cons (by simp only [take1, hn])
theorem tk_lo {l r : List UInt8} {a f n : Nat} {st : List Int} {ts : List TK} (hn : n < 100) (h : l.drop a = p2 32 n ++ r ∨ l.drop a = d2 n ++ r) : takes l (.lo f :: ts) a st = takes l ts (a + 2) (put st f n a) ∧ l.drop (a + 2) = r := by
  have key : (n < 10 ∧ l.drop a = [32, dg n] ++ r) ∨ l.drop a = d2 n ++ r := by
    rcases h with h | h
    · unfold p2 at h
      split at h
      · exact .inl ⟨by assumption, h⟩
      · exact .inr h
    · exact .inr h
  rcases key with ⟨h1, h⟩ | h
  · obtain ⟨h2, h3⟩ := drop_get (r := dg n :: r) h
    refine ⟨?_, drop_app h⟩
    exact takes_cons (by simp only [take1, if_pos h2, dgs1_to h1 h3])
  · obtain ⟨h2, h3⟩ := drop_get (r := dg n :: r) h
    have hne : ¬ l[a]? = some 32 := by
      rw [h2]
      intro e
      have e2 : dg (n / 10) = 32 := Option.some.inj e
      have := dg_nat (n / 10)
      rw [e2] at this
      have : (32 : UInt8).toNat = 32 := rfl
      omega
    refine ⟨?_, drop_app h⟩
    exact takes_cons (by simp only [take1, if_neg hne, dgs2_to hn h])

end Bs
end Go.Proofs.YtjngpafokkjkdaaGreatDoor
