/- Several texts as one. -/
import Derived.Test.YtlnlhhobmgiceaaGreatDoorDsC
import Derived.Test.YtlnlhhobmgiceaaGreatDoorMgT
import Derived.Lib.IndexMore
import Derived.Lib.IndexLaws
import Derived.Lib.ItoaNum
import Derived.Test.YtlnlhhobmgiceaaGreatDoorMgL
import Derived.Test.YtlnlhhobmgiceaaGreatDoorMgN
import Derived.Maps.OwnSet
import Derived.Maps.Keyed
/-
  The law SheetDisposes.
-/
set_option linter.unusedVariables false
set_option linter.unusedSimpArgs false
namespace Go.Proofs.YtlnlhhobmgiceaaGreatDoor
open Go.RowKit Go.Shelf
namespace Ds
open Oc

theorem rdq {v : Value} {t : List Prm} {w : World} (h : RdP v t w) : Tg.RdQ v t w := h
theorem disR_len (l : List UInt8) : (disR l).2.1.length ≤ l.length := by
  unfold disR
  dsimp only
  split
  · exact Nat.zero_le _
  · show (List.map lowN _).length ≤ _
    rw [List.length_map]
    have h1 := paramsR_short ((trim l).drop (tokLen (trim l)))
    have h2 := trim_le l
    rw [List.length_drop] at h1
    omega

end Ds
end Go.Proofs.YtlnlhhobmgiceaaGreatDoor

/-
  The numbers whose boundaries stand in a body: plainly.
-/
set_option linter.unusedVariables false
set_option linter.unusedSimpArgs false
namespace Go.Proofs.YtlnlhhobmgiceaaGreatDoor
namespace Mf

abbrev Bs := List UInt8
def PP : Bs := [45, 45, 102, 111, 114, 109]
def isD (c : UInt8) : Bool := decide (48 ≤ c.toNat) && decide (c.toNat ≤ 57)
def vd (c : UInt8) : Nat := c.toNat - 48
def val (l : Bs) : Nat := l.foldl (fun n c => n * 10 + vd c) 0
abbrev D (u : Nat) : Bs := Lib.decDigits u
theorem isD_iff (c : UInt8) : isD c = true ↔ 48 ≤ c.toNat ∧ c.toNat ≤ 57 := by simp [isD]
theorem val_snoc (l : Bs) (c : UInt8) : val (l ++ [c]) = val l * 10 + vd c := by unfold val; rw [List.foldl_append]; rfl
theorem D_one {u : Nat} (h : u < 10) : D u = [UInt8.ofNat (48 + u)] := by show Lib.decDigits u = _; rw [Lib.decDigits, dif_pos h]
theorem D_more {u : Nat} (h : ¬ u < 10) : D u = D (u / 10) ++ [UInt8.ofNat (48 + u % 10)] := by show Lib.decDigits u = _; rw [Lib.decDigits, dif_neg h]
theorem of_nat {d : Nat} (h : d < 10) : (UInt8.ofNat (48 + d)).toNat = 48 + d := by rw [UInt8.toNat_ofNat']; omega
theorem D_all : ∀ u : Nat, ∀ c ∈ D u, isD c = true := by
  intro u
  induction u using Nat.strongRecOn with
  | _ u ih =>
    intro c hc
    by_cases h : u < 10
    · rw [D_one h] at hc
      have := List.mem_singleton.1 hc
      subst this
      rw [isD_iff, of_nat h]; omega
    · rw [D_more h] at hc
      rcases List.mem_append.1 hc with hc | hc
      · exact ih (u / 10) (by omega) c hc
      · have := List.mem_singleton.1 hc
        subst this
        rw [isD_iff, of_nat (by omega)]; omega
theorem val_D : ∀ u : Nat, val (D u) = u := by
  intro u
  induction u using Nat.strongRecOn with
  | _ u ih =>
    by_cases h : u < 10
    · rw [D_one h]
      show 0 * 10 + vd _ = u
      unfold vd
      rw [of_nat h]; omega
    · rw [D_more h, val_snoc, ih (u / 10) (by omega)]
      unfold vd
      rw [of_nat (by omega)]; omega
theorem D_ne (u : Nat) : D u ≠ [] := by
  by_cases h : u < 10
  · rw [D_one h]; simp
  · rw [D_more h]; simp
theorem D_pos (u : Nat) : 1 ≤ (D u).length := by
  have := D_ne u
  have h : (D u).length ≠ 0 := fun e => this (List.length_eq_zero_iff.1 e)
  omega
theorem D_head : ∀ u : Nat, u ≠ 0 → ∀ c r, D u = c :: r → c ≠ 48 := by
  intro u
  induction u using Nat.strongRecOn with
  | _ u ih =>
    intro hu c r e
    by_cases h : u < 10
    · rw [D_one h] at e
      injection e with e1 _
      intro e2
      have h1 := of_nat h
      rw [e1, e2] at h1
      have : (48 : UInt8).toNat = 48 := rfl
      omega
    · rw [D_more h] at e
      cases hd : D (u / 10) with
      | nil => exact absurd hd (D_ne _)
      | cons c' r' =>
        rw [hd] at e
        injection e with e1 _
        rw [← e1]
        exact ih (u / 10) (by omega) (by omega) c' r' hd
theorem D_inj {n m : Nat} (h : D n = D m) : n = m := by rw [← val_D n, ← val_D m, h]
theorem val_cons_pos (c : UInt8) (h1 : isD c = true) (h2 : c ≠ 48) : ∀ (n : Nat) (r : Bs), r.length = n → 1 ≤ val (c :: r) := by
  intro n
  induction n with
  | zero =>
    intro r hr
    obtain rfl := List.length_eq_zero_iff.1 hr
    show 1 ≤ 0 * 10 + vd c
    unfold vd
    rw [isD_iff] at h1
    have : c.toNat ≠ 48 := fun e => h2 (UInt8.toNat_inj.1 (by rw [e]; rfl))
    omega
  | succ n ih =>
    intro r hr
    rcases List.eq_nil_or_concat r with rfl | ⟨r', b, rfl⟩
    · simp at hr
    · rw [List.concat_eq_append] at hr ⊢
      have h := ih r' (by simp at hr; omega)
      rw [show c :: (r' ++ [b]) = (c :: r') ++ [b] from rfl, val_snoc]
      omega
/-- Digits without a 0 ahead are those of what they say. -/
theorem D_val : ∀ (n : Nat) (l : Bs), l.length = n + 1 → (∀ c ∈ l, isD c = true) → (∀ c r, l = c :: r → r ≠ [] → c ≠ 48) → D (val l) = l := by
  intro n
  induction n with
  | zero =>
    intro l hl hd _
    match l, hl with
    | [c], _ =>
      have h := hd c (by simp)
      rw [isD_iff] at h
      have e : val [c] = c.toNat - 48 := by show 0 * 10 + vd c = _; unfold vd; omega
      rw [e, D_one (by omega)]
      congr 1
      apply UInt8.toNat_inj.1
      rw [of_nat (by omega)]; omega
  | succ n ih =>
    intro l hl hd hh
    rcases List.eq_nil_or_concat l with rfl | ⟨l', b, rfl⟩
    · simp at hl
    rw [List.concat_eq_append] at *
    have hl' : l'.length = n + 1 := by simp at hl; omega
    have hb := hd b (by simp)
    rw [isD_iff] at hb
    cases l' with
    | nil => simp at hl'
    | cons c r =>
      have hc : c ≠ 48 := hh c (r ++ [b]) rfl (by simp)
      have hp := val_cons_pos c (hd c (by simp)) hc r.length r rfl
      have e := ih (c :: r) hl' (fun x hx => hd x (List.mem_append_left _ hx)) (fun c' r' e _ => by injection e with e1 _; rw [← e1]; exact hc)
      rw [val_snoc, D_more (by omega)]
      have hv : vd b < 10 := by unfold vd; omega
      rw [show (val (c :: r) * 10 + vd b) / 10 = val (c :: r) by omega, show (val (c :: r) * 10 + vd b) % 10 = vd b by omega, e]
      congr 2
      apply UInt8.toNat_inj.1
      rw [of_nat hv]; unfold vd; omega

/-- Two texts one behind the other stand where each stands. -/
theorem pre_app (x y l : Bs) : x ++ y <+: l ↔ x <+: l ∧ y <+: l.drop x.length := by
  constructor
  · rintro ⟨t, rfl⟩
    exact ⟨⟨y ++ t, by simp⟩, ⟨t, by simp⟩⟩
  · rintro ⟨⟨t, rfl⟩, h⟩
    rw [List.drop_left] at h
    obtain ⟨u, rfl⟩ := h
    exact ⟨u, by simp⟩
theorem occ_iff (b s : Bs) (i : Nat) : Lib.occAt b s i = true ↔ s <+: b.drop i := by unfold Lib.occAt; exact List.isPrefixOf_iff_prefix
theorem occ_app (b x y : Bs) (i : Nat) : Lib.occAt b (x ++ y) i = true ↔ Lib.occAt b x i = true ∧ y <+: b.drop (i + x.length) := by
  rw [occ_iff, occ_iff, pre_app, List.drop_drop]
theorem pre_at {s l : Bs} (h : s <+: l) {j : Nat} (hj : j < s.length) : l[j]? = s[j]? := by
  obtain ⟨t, rfl⟩ := h
  rw [List.getElem?_append_left hj]
theorem occ_at {b s : Bs} {i : Nat} (h : Lib.occAt b s i = true) {j : Nat} (hj : j < s.length) : b[i + j]? = s[j]? := by
  rw [occ_iff] at h
  have := pre_at h hj
  rwa [List.getElem?_drop] at this
theorem pre_len {s l : Bs} (h : s <+: l) : s.length ≤ l.length := by obtain ⟨t, rfl⟩ := h; simp
def std (b : Bs) (n : Nat) : Prop := ∃ i, Lib.occAt b (PP ++ D n) i = true
theorem contains_iff (b s : Bs) (hs : s ≠ []) : Lib.contains b s = true ↔ ∃ i, Lib.occAt b s i = true := by
  unfold Lib.contains
  rw [decide_eq_true_iff]
  rcases Lib.index_spec b s with ⟨e, h⟩ | ⟨i, e, hi, ho, _⟩
  · rw [e]
    constructor
    · intro h'; omega
    · rintro ⟨i, hi⟩
      rcases Lib.occAt_room hi with h1 | h1
      · rw [h i (by omega)] at hi; cases hi
      · exact absurd h1 hs
  · rw [e]
    exact ⟨fun _ => ⟨i, ho⟩, fun _ => by omega⟩
theorem std_iff (b : Bs) (n : Nat) : Lib.contains b (PP ++ D n) = true ↔ std b n := contains_iff b _ (by simp [PP])
theorem no_overlap {b : Bs} {i j : Nat} (hi : Lib.occAt b PP i = true) (hj : Lib.occAt b PP j = true) (h1 : i < j) (h2 : j < i + 6) : False := by
  have a0 := occ_at hj (j := 0) (by decide)
  have a1 := occ_at hj (j := 1) (by decide)
  rw [Nat.add_zero] at a0
  rcases (by omega : j = i + 1 ∨ j = i + 2 ∨ j = i + 3 ∨ j = i + 4 ∨ j = i + 5) with e | e | e | e | e
  · have c := occ_at hi (j := 2) (by decide)
    rw [show i + 2 = j + 1 by omega, a1] at c
    exact absurd c (by decide)
  all_goals
    subst e
    rw [occ_at hi (by decide)] at a0
    exact absurd a0 (by decide)
theorem inj_end {b : Bs} {n m i j : Nat} (hi : Lib.occAt b (PP ++ D n) i = true) (hj : Lib.occAt b (PP ++ D m) j = true) (h : i + (D n).length = j + (D m).length) (hle : (D n).length ≤ (D m).length) : n = m := by
  rw [occ_app] at hi hj
  by_cases e : (D n).length = (D m).length
  · have : i = j := by omega
    subst this
    have h1 := List.prefix_of_prefix_length_le hi.2 hj.2 hle
    obtain ⟨t, ht⟩ := h1
    have : t = [] := by
      have := congrArg List.length ht
      rw [List.length_append] at this
      exact List.length_eq_zero_iff.1 (by omega)
    subst this
    rw [List.append_nil] at ht
    exact D_inj ht
  · exfalso
    have c1 := occ_at hi.1 (j := 5) (by decide)
    have hk : i + 5 - (j + 6) < (D m).length := by omega
    have c2 := pre_at hj.2 hk
    have e6 : PP.length = 6 := rfl
    rw [e6, List.getElem?_drop, show j + 6 + (i + 5 - (j + 6)) = i + 5 by omega, c1, List.getElem?_eq_getElem hk] at c2
    have hd := D_all m _ (List.getElem_mem hk)
    have c3 : (109 : UInt8) = (D m)[i + 5 - (j + 6)] := by
      have : PP[5]? = some 109 := rfl
      rw [this] at c2
      exact Option.some.inj c2
    rw [← c3] at hd
    exact absurd hd (by decide)
theorem pigeon : ∀ (m : Nat) (f : Nat → Nat), (∀ i, i ≤ m → f i < m) → ∃ i j, i < j ∧ j ≤ m ∧ f i = f j := by
  intro m
  induction m with
  | zero => intro f h; have := h 0 (Nat.le_refl _); omega
  | succ m ih =>
    intro f h
    by_cases hx : ∃ i, i ≤ m ∧ f i = f (m + 1)
    · obtain ⟨i, hi, e⟩ := hx
      exact ⟨i, m + 1, by omega, Nat.le_refl _, e⟩
    · have hne : ∀ i, i ≤ m → f i ≠ f (m + 1) := fun i hi e => hx ⟨i, hi, e⟩
      have hl := h (m + 1) (Nat.le_refl _)
      obtain ⟨i, j, h1, h2, e⟩ := ih (fun i => if f (m + 1) < f i then f i - 1 else f i) (fun i hi => by
        have h1 := h i (by omega)
        have h2 := hne i hi
        show (if f (m + 1) < f i then f i - 1 else f i) < m
        split <;> omega)
      refine ⟨i, j, h1, by omega, ?_⟩
      have h3 := hne i (by omega)
      have h4 := hne j h2
      have e : (if f (m + 1) < f i then f i - 1 else f i) = (if f (m + 1) < f j then f j - 1 else f j) := e
      split at e <;> split at e <;> omega
/-- A boundary stands in one of some texts. -/
def stdL (Ls : List Bs) (n : Nat) : Prop := ∃ k, k < Ls.length ∧ std (Ls.getD k []) n
def off (Ls : List Bs) (k : Nat) : Nat := ((Ls.take k).map List.length).sum
theorem off_step (Ls : List Bs) (k : Nat) (h : k < Ls.length) : off Ls (k + 1) = off Ls k + (Ls.getD k []).length := by
  unfold off
  rw [List.take_add_one, List.getElem?_eq_getElem h, List.map_append, List.sum_append, List.getD_eq_getElem?_getD, List.getElem?_eq_getElem h]
  simp
theorem off_mono (Ls : List Bs) (d : Nat) : ∀ k, k + d ≤ Ls.length → off Ls k ≤ off Ls (k + d) := by
  induction d with
  | zero => intro k _; exact Nat.le_refl _
  | succ d ih =>
    intro k h
    have h1 := ih k (by omega)
    have h2 := off_step Ls (k + d) (by omega)
    rw [← Nat.add_assoc]
    omega
theorem off_all (Ls : List Bs) : off Ls Ls.length = (Ls.map List.length).sum := by unfold off; rw [List.take_length]
theorem freeL (Ls : List Bs) : ∃ n, n ≤ (Ls.map List.length).sum ∧ ¬ stdL Ls n := by
  refine Classical.byContradiction fun hno => ?_
  rw [← off_all] at hno
  have hall : ∀ n, ∃ q : Nat × Nat, n ≤ off Ls Ls.length → q.1 < Ls.length ∧ Lib.occAt (Ls.getD q.1 []) (PP ++ D n) q.2 = true := fun n => by
    by_cases hn : n ≤ off Ls Ls.length
    · have : stdL Ls n := Classical.byContradiction fun h => hno ⟨n, hn, h⟩
      obtain ⟨k, hk, i, hi⟩ := this
      exact ⟨(k, i), fun _ => ⟨hk, hi⟩⟩
    · exact ⟨(0, 0), fun h => absurd h hn⟩
  obtain ⟨g, hg⟩ := Classical.axiomOfChoice hall
  have hroom : ∀ n, n ≤ off Ls Ls.length → (g n).2 + 6 + (D n).length ≤ (Ls.getD (g n).1 []).length := fun n hn => by
    rcases Lib.occAt_room (hg n hn).2 with h | h
    · rw [List.length_append] at h
      have : PP.length = 6 := rfl
      omega
    · exact absurd h (by simp [PP])
  have hoff : ∀ n, n ≤ off Ls Ls.length → off Ls (g n).1 + ((g n).2 + 6 + (D n).length - 1) < off Ls ((g n).1 + 1) := fun n hn => by
    have h1 := hroom n hn
    have h2 := D_pos n
    rw [off_step Ls _ (hg n hn).1]
    omega
  have hoffA : ∀ n, n ≤ off Ls Ls.length → off Ls ((g n).1 + 1) ≤ off Ls Ls.length := fun n hn => by
    have h1 := (hg n hn).1
    have := off_mono Ls (Ls.length - ((g n).1 + 1)) ((g n).1 + 1) (by omega)
    rw [show (g n).1 + 1 + (Ls.length - ((g n).1 + 1)) = Ls.length by omega] at this
    exact this
  obtain ⟨i, j, h1, h2, e⟩ := pigeon (off Ls Ls.length) (fun n => off Ls (g n).1 + ((g n).2 + 6 + (D n).length - 1)) (fun n hn => Nat.lt_of_lt_of_le (hoff n hn) (hoffA n hn))
  have e : off Ls (g i).1 + ((g i).2 + 6 + (D i).length - 1) = off Ls (g j).1 + ((g j).2 + 6 + (D j).length - 1) := e
  have hi := hg i (by omega)
  have hj := hg j h2
  have oi := hoff i (by omega)
  have oj := hoff j h2
  have same : (g i).1 = (g j).1 := by
    rcases Nat.lt_trichotomy (g i).1 (g j).1 with h | h | h
    · have := off_mono Ls ((g j).1 - ((g i).1 + 1)) ((g i).1 + 1) (by omega)
      rw [show (g i).1 + 1 + ((g j).1 - ((g i).1 + 1)) = (g j).1 by omega] at this
      omega
    · exact h
    · have := off_mono Ls ((g i).1 - ((g j).1 + 1)) ((g j).1 + 1) (by omega)
      rw [show (g j).1 + 1 + ((g i).1 - ((g j).1 + 1)) = (g i).1 by omega] at this
      omega
  have p1 := D_pos i
  have p2 := D_pos j
  have hi2 := hi.2
  have hj2 := hj.2
  rw [same] at hi2 e
  rcases Nat.le_total (D i).length (D j).length with h | h
  · have := inj_end hi2 hj2 (by omega) h; omega
  · have := inj_end hj2 hi2 (by omega) h; omega
theorem least {p : Nat → Prop} : ∀ (n : Nat), ¬ p n → ∃ N, N ≤ n ∧ ¬ p N ∧ ∀ m, m < N → p m := by
  intro n
  induction n using Nat.strongRecOn with
  | _ n ih =>
    intro h
    by_cases hx : ∃ m, m < n ∧ ¬ p m
    · obtain ⟨m, hm, hp⟩ := hx
      obtain ⟨N, h1, h2, h3⟩ := ih m hm hp
      exact ⟨N, by omega, h2, h3⟩
    · exact ⟨n, Nat.le_refl _, h, fun m hm => Classical.byContradiction fun hp => hx ⟨m, hm, hp⟩⟩
/-- The number that is taken. -/
theorem first_freeL (Ls : List Bs) : ∃ N, N ≤ (Ls.map List.length).sum ∧ ¬ stdL Ls N ∧ ∀ m, m < N → stdL Ls m := by
  obtain ⟨n, hn, h⟩ := freeL Ls
  obtain ⟨N, h1, h2, h3⟩ := least n h
  exact ⟨N, by omega, h2, h3⟩

/-- Taken, of what lies ahead of c. -/
def Tk (L : Nat) (b : Bs) (c n : Nat) : Prop := n ≤ L ∧ ∃ i, i + 6 ≤ c ∧ Lib.occAt b (PP ++ D n) i = true
def At (b : Bs) (c : Nat) : Prop := c = 0 ∨ (6 ≤ c ∧ Lib.occAt b PP (c - 6) = true)
theorem Tk_zero (L : Nat) (b : Bs) (n : Nat) : ¬ Tk L b 0 n := fun ⟨_, i, h, _⟩ => by omega
theorem occ_drop (b s : Bs) (c i : Nat) : Lib.occAt (b.drop c) s i = Lib.occAt b s (c + i) := by unfold Lib.occAt; rw [List.drop_drop]
theorem Tk_step (L : Nat) {b : Bs} {c i0 : Nat} (ha : At b c) (ho : Lib.occAt (b.drop c) PP i0 = true) (hn : ∀ j, j < i0 → Lib.occAt (b.drop c) PP j = false) (n : Nat) :
    Tk L b (c + i0 + 6) n ↔ Tk L b c n ∨ (n ≤ L ∧ D n <+: b.drop (c + i0 + 6)) := by
  rw [occ_drop] at ho
  constructor
  · rintro ⟨hl, i, hi, h⟩
    have h' := h
    rw [occ_app] at h'
    by_cases e : i = c + i0
    · subst e
      exact .inr ⟨hl, h'.2⟩
    · left
      refine ⟨hl, i, ?_, h⟩
      refine Classical.byContradiction fun hc => ?_
      by_cases hci : c ≤ i
      · have := hn (i - c) (by omega)
        rw [occ_drop, show c + (i - c) = i by omega, h'.1] at this
        cases this
      · rcases ha with rfl | ⟨h6, hp⟩
        · omega
        · by_cases e : i = c - 6
          · omega
          · exact no_overlap hp h'.1 (by omega) (by omega)
  · rintro (⟨hl, i, hi, h⟩ | ⟨hl, h⟩)
    · exact ⟨hl, i, by omega, h⟩
    · exact ⟨hl, c + i0, by omega, by rw [occ_app]; exact ⟨ho, h⟩⟩
theorem Tk_end (L : Nat) {b : Bs} {c : Nat} (ha : At b c) (hn : ∀ j, j ≤ (b.drop c).length → Lib.occAt (b.drop c) PP j = false) (n : Nat) (hl : n ≤ L) : Tk L b c n ↔ std b n := by
  constructor
  · rintro ⟨_, i, _, h⟩
    exact ⟨i, h⟩
  · rintro ⟨i, h⟩
    have h' := h
    rw [occ_app] at h'
    refine ⟨hl, i, ?_, h⟩
    refine Classical.byContradiction fun hc => ?_
    by_cases hci : c ≤ i
    · have hr : i + PP.length ≤ b.length := by
        rcases Lib.occAt_room h'.1 with h | h
        · exact h
        · exact absurd h (by decide)
      have := hn (i - c) (by rw [List.length_drop]; omega)
      rw [occ_drop, show c + (i - c) = i by omega, h'.1] at this
      cases this
    · rcases ha with rfl | ⟨h6, hp⟩
      · omega
      · by_cases e : i = c - 6
        · omega
        · exact no_overlap hp h'.1 (by omega) (by omega)

/-- Of the digits at the front, those that are a number of at most k digits. -/
def Ik (r : Bs) (k n : Nat) : Prop := D n <+: r ∧ (D n).length ≤ k
theorem Ik_zero (r : Bs) (n : Nat) : ¬ Ik r 0 n := fun ⟨_, h⟩ => by have := D_pos n; omega
theorem pre_take {s l : Bs} (h : s <+: l) : s = l.take s.length := by obtain ⟨t, rfl⟩ := h; simp
structure Dg (r : Bs) (k : Nat) : Prop where
  le : k ≤ r.length
  dig : ∀ j, j < k → isD (r.getD j 0) = true
  head : 1 ≤ k → r.getD 0 0 ≠ 48
theorem Dg.zero (r : Bs) : Dg r 0 := ⟨Nat.zero_le _, fun j h => by omega, fun h => by omega⟩
theorem take_succ (r : Bs) {k : Nat} (h : k < r.length) : r.take (k + 1) = r.take k ++ [r.getD k 0] := by
  rw [List.take_add_one, List.getElem?_eq_getElem h, List.getD_eq_getElem?_getD, List.getElem?_eq_getElem h]; rfl
theorem take_dig {r : Bs} {k : Nat} (hk : k ≤ r.length) (h : ∀ j, j < k → isD (r.getD j 0) = true) : ∀ c ∈ r.take k, isD c = true := by
  intro c hc
  obtain ⟨j, hj, rfl⟩ := List.mem_iff_getElem.1 hc
  have hj2 : j < k := by rw [List.length_take] at hj; omega
  have := h j hj2
  rw [List.getD_eq_getElem?_getD, List.getElem?_eq_getElem (by omega)] at this
  rw [List.getElem_take]
  exact this
theorem D_take {r : Bs} {k : Nat} (h : Dg r k) (hk : k < r.length) (hd : isD (r.getD k 0) = true) : D (val (r.take (k + 1))) = r.take (k + 1) := by
  refine D_val k _ (by rw [List.length_take]; omega) (take_dig (by omega) (fun j hj => ?_)) (fun c t e ht => ?_)
  · rcases Nat.lt_succ_iff_lt_or_eq.1 hj with h' | rfl
    · exact h.dig j h'
    · exact hd
  · have h1 : 1 ≤ k := by
      have := congrArg List.length e
      rw [List.length_take, List.length_cons] at this
      have : t.length ≠ 0 := fun e => ht (List.length_eq_zero_iff.1 e)
      omega
    have h2 := h.head h1
    have h3 : (r.take (k + 1))[0]? = some c := by rw [e]; rfl
    rw [List.getElem?_take, if_pos (by omega), List.getElem?_eq_getElem (by omega)] at h3
    rw [List.getD_eq_getElem?_getD, List.getElem?_eq_getElem (by omega)] at h2
    have h4 := Option.some.inj h3
    rw [← h4]
    exact h2
theorem val_take {r : Bs} {k : Nat} (hk : k < r.length) : val (r.take (k + 1)) = val (r.take k) * 10 + vd (r.getD k 0) := by rw [take_succ r hk, val_snoc]
theorem val_mono (r : Bs) : ∀ (d k : Nat), val (r.take k) ≤ val (r.take (k + d)) := by
  intro d
  induction d with
  | zero => intro k; exact Nat.le_refl _
  | succ d ih =>
    intro k
    refine Nat.le_trans (ih k) ?_
    rw [← Nat.add_assoc]
    by_cases h : k + d < r.length
    · rw [val_take h]; omega
    · rw [List.take_of_length_le (by omega), List.take_of_length_le (by omega)]
      exact Nat.le_refl _
theorem Ik_step {r : Bs} {k : Nat} (h : Dg r k) (hk : k < r.length) (hd : isD (r.getD k 0) = true) (n : Nat) : Ik r (k + 1) n ↔ Ik r k n ∨ n = val (r.take (k + 1)) := by
  have e := D_take h hk hd
  constructor
  · rintro ⟨h1, h2⟩
    by_cases h3 : (D n).length ≤ k
    · exact .inl ⟨h1, h3⟩
    · right
      have h4 : (D n).length = k + 1 := by omega
      have h5 := pre_take h1
      rw [h4] at h5
      rw [← h5, val_D]
  · rintro (⟨h1, h2⟩ | rfl)
    · exact ⟨h1, by omega⟩
    · refine ⟨by rw [e]; exact List.take_prefix _ _, ?_⟩
      rw [e, List.length_take]; omega
theorem Ik_le {r : Bs} {k n : Nat} (h : Ik r k n) : n ≤ val (r.take k) := by
  have h1 := pre_take h.1
  have h2 := val_mono r (k - (D n).length) (D n).length
  rw [show (D n).length + (k - (D n).length) = k by have := h.2; omega, ← h1, val_D] at h2
  exact h2
theorem Ik_stop {r : Bs} {k : Nat} (h : Dg r k) (hx : k = r.length ∨ isD (r.getD k 0) = false) (n : Nat) : D n <+: r ↔ Ik r k n := by
  refine ⟨fun h1 => ⟨h1, ?_⟩, fun h1 => h1.1⟩
  refine Classical.byContradiction fun hc => ?_
  have hl := pre_len h1
  have hk : k < (D n).length := by omega
  rcases hx with hx | hx
  · omega
  · have h2 := pre_at h1 hk
    rw [List.getElem?_eq_getElem hk, List.getElem?_eq_getElem (by omega)] at h2
    have h3 := D_all n _ (List.getElem_mem hk)
    rw [List.getD_eq_getElem?_getD, List.getElem?_eq_getElem (by omega)] at hx
    have h4 := Option.some.inj h2
    rw [← h4] at h3
    rw [Option.getD_some] at hx
    rw [h3] at hx
    cases hx
theorem Ik_much {r : Bs} {k L : Nat} (h : Dg r k) (hk : k < r.length) (hL : L < val (r.take (k + 1))) (n : Nat) : (n ≤ L ∧ D n <+: r) ↔ (n ≤ L ∧ Ik r k n) := by
  refine ⟨fun ⟨h0, h1⟩ => ⟨h0, h1, ?_⟩, fun ⟨h0, h1⟩ => ⟨h0, h1.1⟩⟩
  refine Classical.byContradiction fun hc => ?_
  have h2 := val_mono r ((D n).length - (k + 1)) (k + 1)
  have h3 := pre_take h1
  rw [show k + 1 + ((D n).length - (k + 1)) = (D n).length by omega, ← h3, val_D] at h2
  omega
theorem Ik_none {r : Bs} (h0 : 0 < r.length) (hz : r.getD 0 0 = 48) (n : Nat) : D n <+: r ↔ Ik r 1 n := by
  refine ⟨fun h1 => ⟨h1, ?_⟩, fun h1 => h1.1⟩
  refine Classical.byContradiction fun hc => ?_
  have hn : n ≠ 0 := fun e => by
    subst e
    exact hc (by rw [D_one (by omega)]; simp)
  cases hd : D n with
  | nil => exact D_ne n hd
  | cons c t =>
    have h2 := D_head n hn c t hd
    rw [hd] at h1
    have h3 := pre_at h1 (j := 0) (by simp)
    rw [List.getElem?_eq_getElem h0] at h3
    rw [List.getD_eq_getElem?_getD, List.getElem?_eq_getElem h0] at hz
    have h4 : r[0] = c := Option.some.inj h3
    exact h2 (by rw [← h4]; exact hz)

theorem val_zero {r : Bs} {k : Nat} (h : Dg r k) (hk : k < r.length) (hd : isD (r.getD k 0) = true) (hz : val (r.take (k + 1)) = 0) : k = 0 ∧ r.getD 0 0 = 48 := by
  have h1 := (isD_iff _).1 hd
  rw [val_take hk] at hz
  have hv : vd (r.getD k 0) = 0 := by omega
  have h48 : r.getD k 0 = 48 := UInt8.toNat_inj.1 (by
    unfold vd at hv
    have : (48 : UInt8).toNat = 48 := rfl
    omega)
  by_cases h0 : k = 0
  · subst h0; exact ⟨rfl, h48⟩
  · exfalso
    have hh := h.head (by omega)
    have hr : 0 < r.length := by omega
    cases r with
    | nil => simp at hr
    | cons c t =>
      have hc : c ≠ 48 := hh
      have hdc : isD c = true := h.dig 0 (by omega)
      have hp := val_cons_pos c hdc hc ((t.take (k - 1)).length) (t.take (k - 1)) rfl
      have e : (c :: t).take k = c :: t.take (k - 1) := by
        obtain ⟨k', rfl⟩ : ∃ k', k = k' + 1 := ⟨k - 1, by omega⟩
        rfl
      rw [← e] at hp
      omega
theorem Dg_next {r : Bs} {k : Nat} (h : Dg r k) (hk : k < r.length) (hd : isD (r.getD k 0) = true) (hz : val (r.take (k + 1)) ≠ 0) : Dg r (k + 1) := by
  refine ⟨by omega, fun j hj => ?_, fun _ => ?_⟩
  · rcases Nat.lt_succ_iff_lt_or_eq.1 hj with h' | rfl
    · exact h.dig j h'
    · exact hd
  · by_cases h0 : k = 0
    · subst h0
      intro e
      apply hz
      rw [val_take hk, e]
      rfl
    · exact h.head (by omega)


end Mf
end Go.Proofs.YtlnlhhobmgiceaaGreatDoor

/-
  sheet: a set of numbers that the call makes; rows of numbers; numbersAtFront.
-/
set_option linter.unusedVariables false
set_option linter.unusedSimpArgs false
namespace Go.Proofs.YtlnlhhobmgiceaaGreatDoor
open Go.RowKit Go.Shelf
namespace Mf
open Oc Tg

def litI (x : Nat) : Lit := .int .i64 (x : Int)
def setI (L : List Nat) : DataW Unit := Maps.setOf (.agg []) (L.map litI)
/-- Block B is a map whose keys are L. -/
def MI (B n : Nat) (L : List Nat) (w : World) : Prop := w.ownsMap Tryz.prog 3 (unitElem (H := Unit)) B n (setI L)
theorem lawI : Maps.Keyed Tryz.prog 3 := Maps.int_keyed Tryz.underlying3
theorem keyI (x : Nat) (h : x ≤ 9223372036854775807) : keyOf Tryz.prog 3 (.int .i64 (x : Int)) = some (litI x) :=
  Maps.keyOf_int_mk (P := Tryz.prog) Tryz.underlying3 (by
    have h1 : IntKind.i64.min = -9223372036854775808 := rfl
    have h2 : IntKind.i64.max = 9223372036854775807 := rfl
    simp only [Lit.wf, Bool.and_eq_true, decide_eq_true_eq]
    omega)
theorem same_litI (x y : Nat) : (litI x).sameKey (litI y) = decide (x = y) := by
  rw [Bool.eq_iff_iff, decide_eq_true_iff]
  simp [litI, Lit.sameKey]
  omega
theorem has_setI (L : List Nat) (x : Nat) : Maps.has (setI L) (litI x) = decide (x ∈ L) := by
  unfold setI
  rw [Maps.has_setOf _ _ _ (by intro y hy; obtain ⟨z, _, rfl⟩ := List.mem_map.1 hy; trivial)]
  rw [Bool.eq_iff_iff, List.any_eq_true, decide_eq_true_iff]
  constructor
  · rintro ⟨y, hy, he⟩
    obtain ⟨z, hz, rfl⟩ := List.mem_map.1 hy
    rw [same_litI, decide_eq_true_iff] at he
    rw [← he]
    exact hz
  · intro h
    exact ⟨litI x, List.mem_map.2 ⟨x, h, rfl⟩, by rw [same_litI]; simp⟩
theorem setI_snoc (L : List Nat) (x : Nat) : setI (L ++ [x]) = (setI L).put (litI x) (.agg []) := by
  unfold setI
  rw [List.map_append, List.map_singleton, Maps.setOf_snoc]

theorem zeroU (w : World) : (zeroValue 113).run Tryz.prog w = .ok (.agg #[]) w := by kernel_rfl

theorem cnt_step {c c' M k n : Nat} (h : n ≤ c * M + k) (hk : k ≤ M) (hc : c + 1 ≤ c') : n ≤ c' * M := by
  have h1 : (c + 1) * M ≤ c' * M := Nat.mul_le_mul_right M hc
  rw [Nat.succ_mul] at h1
  omega
theorem byte_sub (c : UInt8) (h : isD c = true) : IntKind.u8.wrap ((c.toNat : Int) - 48) = (vd c : Int) := by
  rw [isD_iff] at h
  have : ∀ n : Nat, n < 256 → 48 ≤ n ∧ n ≤ 57 → IntKind.u8.wrap ((n : Int) - 48) = ((n - 48 : Nat) : Int) := by decide +kernel
  exact this c.toNat (UInt8.toNat_lt c) h
theorem cut_yes {s p : List UInt8} {i : Nat} (hi : Lib.index s p = (i : Int)) : Lib.cut s p = (s.take i, s.drop (i + p.length), true) := by
  unfold Lib.cut
  rw [hi, if_pos (by omega)]
  rfl
theorem cut_no {s p : List UInt8} (hi : Lib.index s p = -1) : Lib.cut s p = (s, [], false) := by
  unfold Lib.cut
  rw [hi, if_neg (by omega)]

theorem Cut_g (s p : ByteArray) (hs : s.size ≤ 4000000000) (w : World) (h : ML w) :
    Calls Tryz.prog 28 #[.string s, .string p] w fun e w' => e = .returned (.tuple #[.string (str (Lib.cut s.data.toList p.data.toList).1), .string (str (Lib.cut s.data.toList p.data.toList).2.1), .bool (Lib.cut s.data.toList p.data.toList).2.2]) ∧ Below w.heap.size w w' := by
  obtain ⟨m, hm⟩ := h
  refine (Tryz.strings_Cut s p m w (by omega) hm).mono ?_
  rintro e w' ⟨rfl, n, rfl⟩
  exact ⟨rfl, ⟨rfl, rfl, rfl, Nat.le_refl _, fun _ _ => rfl⟩⟩

end Mf
end Go.Proofs.YtlnlhhobmgiceaaGreatDoor
