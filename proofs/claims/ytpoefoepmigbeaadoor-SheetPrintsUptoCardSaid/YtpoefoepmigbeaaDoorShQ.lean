/-
  sheet: pairs printed, plain: three replacements in a query's text make the body's; it is read back.
-/
import Derived.Test.YtpoefoepmigbeaaDoorShP
set_option linter.unusedVariables false
set_option linter.unusedSimpArgs false
namespace Go.Proofs.YtpoefoepmigbeaaDoor
namespace Tg
open Oc

/-- All instances of a text replaced, byte by byte. -/
theorem rp_nil (old new : List UInt8) (h : old ≠ []) : Lib.replaceAll [] old new = [] := by
  unfold Lib.replaceAll Lib.replace
  split
  · rfl
  · have hi : Lib.index [] old = -1 := by cases old with | nil => exact absurd rfl h | cons => rfl
    unfold Lib.replaceNum
    rw [if_pos (Or.inl (by decide)), Lib.count_miss hi]
    rfl
theorem rp_hit (old new l : List UInt8) (h : old ≠ []) (hn : old ≠ new) (hp : old.isPrefixOf l = true) : Lib.replaceAll l old new = new ++ Lib.replaceAll (l.drop old.length) old new := by
  have hi : Lib.index l old = ((0 : Nat) : Int) := by
    cases l with
    | nil => cases old with | nil => exact absurd rfl h | cons => simp [List.isPrefixOf] at hp
    | cons c t => unfold Lib.index; rw [if_pos hp]; rfl
  have hn' : ¬ (old == new) = true := by simpa using hn
  unfold Lib.replaceAll Lib.replace Lib.replaceNum
  rw [if_neg hn', if_neg hn', if_pos (Or.inl (by decide)), if_pos (Or.inl (by decide)), Lib.count_hit h hi, Nat.add_comm 1, Lib.replaceK_hit _ _ _ _ _ hi, Nat.zero_add]
  simp
theorem rp_miss (old new : List UInt8) (c : UInt8) (t : List UInt8) (h : old ≠ []) (hn : old ≠ new) (hp : old.isPrefixOf (c :: t) = false) : Lib.replaceAll (c :: t) old new = c :: Lib.replaceAll t old new := by
  have hn' : ¬ (old == new) = true := by simpa using hn
  have hi : Lib.index (c :: t) old = if Lib.index t old == -1 then -1 else Lib.index t old + 1 := by
    conv => lhs; unfold Lib.index
    rw [if_neg (by simp [hp])]
  unfold Lib.replaceAll Lib.replace Lib.replaceNum
  rw [if_neg hn', if_neg hn', if_pos (Or.inl (by decide)), if_pos (Or.inl (by decide))]
  have hge := Lib.index_ge t old
  by_cases hm : Lib.index t old = -1
  · rw [hm] at hi
    rw [Lib.count_miss hm, Lib.count_miss (s := c :: t) (by rw [hi]; rfl)]
    rfl
  · obtain ⟨i, he⟩ : ∃ i : Nat, Lib.index t old = i := ⟨(Lib.index t old).toNat, by omega⟩
    have hi' : Lib.index (c :: t) old = ((i + 1 : Nat) : Int) := by
      rw [hi, if_neg (by simpa using hm), he]; simp
    rw [Lib.count_hit h he, Lib.count_hit h hi', Nat.add_comm 1, Nat.add_comm 1, Lib.replaceK_hit _ _ _ _ _ he, Lib.replaceK_hit _ _ _ _ _ hi']
    rw [show i + 1 + old.length = (i + old.length) + 1 by omega, List.drop_succ_cons, List.take_succ_cons]
    rfl

/-- A byte of a name or value, as pairs have it, and on the way there. -/
def e1B (c : UInt8) : List UInt8 := if c = 32 then [43] else encB c
def e2B (c : UInt8) : List UInt8 := if c = 32 then [43] else if c = 42 then [42] else encB c
def codU (c : UInt8) : Bool := Oc.lettI (c.toNat : Int) || Oc.digI (c.toNat : Int) || [42, 45, 46, 95].contains c
def codB (c : UInt8) : List UInt8 := if codU c then [c] else if c = 32 then [43] else [37, hd (c.toNat / 16), hd (c.toNat % 16)]
def cod (l : List UInt8) : List UInt8 := l.flatMap codB

def txF (f : UInt8 → List UInt8) (p : List UInt8 × List UInt8 × Bool) : List UInt8 := if p.2.2 then p.1.flatMap f ++ 61 :: p.2.1.flatMap f else p.1.flatMap f
def joinF (f : UInt8 → List UInt8) : List (List UInt8 × List UInt8 × Bool) → List UInt8
  | [] => []
  | p :: r => txF f p ++ r.flatMap fun q => 38 :: txF f q
theorem join_enc (t : List (List UInt8 × List UInt8 × Bool)) : joinF encB t = joinQ t := by cases t <;> rfl
def prcR (t : List (List UInt8 × List UInt8 × Bool)) : List UInt8 × Int := if t.all okQ then (joinF codB t, 0) else ([], 150)

/-- A way of rewriting that goes byte by byte. -/
theorem rw_flat (F : List UInt8 → List UInt8) (f g : UInt8 → List UInt8) (h : ∀ c r, F (f c ++ r) = g c ++ F r) (l r : List UInt8) : F (l.flatMap f ++ r) = l.flatMap g ++ F r := by
  induction l with
  | nil => rfl
  | cons c t ih => rw [List.flatMap_cons, List.flatMap_cons, List.append_assoc, h, ih, List.append_assoc]
theorem rw_tx (F : List UInt8 → List UInt8) (f g : UInt8 → List UInt8) (h : ∀ c r, F (f c ++ r) = g c ++ F r) (h61 : ∀ r, F (61 :: r) = 61 :: F r) (p : List UInt8 × List UInt8 × Bool) (r : List UInt8) : F (txF f p ++ r) = txF g p ++ F r := by
  unfold txF
  split
  · rw [List.append_assoc, List.cons_append, rw_flat F f g h, h61, rw_flat F f g h, List.append_assoc, List.cons_append]
  · rw [rw_flat F f g h]
theorem rw_join (F : List UInt8 → List UInt8) (f g : UInt8 → List UInt8) (h0 : F [] = []) (h : ∀ c r, F (f c ++ r) = g c ++ F r) (h61 : ∀ r, F (61 :: r) = 61 :: F r) (h38 : ∀ r, F (38 :: r) = 38 :: F r) (t : List (List UInt8 × List UInt8 × Bool)) : F (joinF f t) = joinF g t := by
  have H : ∀ r : List (List UInt8 × List UInt8 × Bool), F (r.flatMap fun q => 38 :: txF f q) = r.flatMap fun q => 38 :: txF g q := by
    intro r
    induction r with
    | nil => exact h0
    | cons q r ih => rw [List.flatMap_cons, List.flatMap_cons, List.cons_append, h38, rw_tx F f g h h61, ih, List.cons_append]
  cases t with
  | nil => exact h0
  | cons p r => unfold joinF; rw [rw_tx F f g h h61, H]

theorem pre3 (a b c : UInt8) (t : List UInt8) (h : c ≠ 37) : List.isPrefixOf [37, a, b] (c :: t) = false := by
  have h' : ¬ (37 : UInt8) = c := fun e => h e.symm
  simp [List.isPrefixOf, h']
theorem rp3_one (a b : UInt8) (new : List UInt8) (hn : [37, a, b] ≠ new) (c : UInt8) (t : List UInt8) (h : c ≠ 37) : Lib.replaceAll (c :: t) [37, a, b] new = c :: Lib.replaceAll t [37, a, b] new := rp_miss _ _ c t (by simp) hn (pre3 a b c t h)
theorem rp3_yes (a b : UInt8) (new : List UInt8) (hn : [37, a, b] ≠ new) (t : List UInt8) : Lib.replaceAll (37 :: a :: b :: t) [37, a, b] new = new ++ Lib.replaceAll t [37, a, b] new := rp_hit _ _ _ (by simp) hn (by simp [List.isPrefixOf])
theorem rp3_no (a b : UInt8) (new : List UInt8) (hn : [37, a, b] ≠ new) (x y : UInt8) (t : List UInt8) (hx : x ≠ 37) (hy : y ≠ 37) (h : ¬ (x = a ∧ y = b)) : Lib.replaceAll (37 :: x :: y :: t) [37, a, b] new = 37 :: x :: y :: Lib.replaceAll t [37, a, b] new := by
  rw [rp_miss _ _ 37 _ (by simp) hn (by
    simp only [List.isPrefixOf, beq_self_eq_true, Bool.true_and, Bool.and_true]
    by_cases h1 : a = x
    · by_cases h2 : b = y
      · exact absurd ⟨h1.symm, h2.symm⟩ h
      · simp [h2]
    · simp [h1]), rp3_one a b new hn x _ hx, rp3_one a b new hn y _ hy]
theorem hd_fine : ∀ n : Nat, n < 16 → hd n ≠ 37 ∧ hd n ≠ 126 ∧ hd n ≠ 38 ∧ hd n ≠ 61 ∧ hd n ≠ 43 := by decide +kernel
theorem hd_of (c a b : UInt8) (z : UInt8) (hz : byteOf a b = z) (h : hd (c.toNat / 16) = a ∧ hd (c.toNat % 16) = b) : c = z := by
  rw [← hd_byte c, h.1, h.2, hz]
theorem unr_fine (c : UInt8) (h : unr c = true) : c ≠ 37 ∧ c ≠ 38 ∧ c ≠ 61 ∧ c ≠ 43 ∧ c ≠ 32 ∧ c ≠ 42 := by
  refine ⟨?_, ?_, ?_, ?_, ?_, ?_⟩ <;> (rintro rfl; revert h; decide +kernel)
theorem rp1_at (c : UInt8) (r : List UInt8) : Lib.replaceAll (encB c ++ r) [37, 50, 48] [43] = e1B c ++ Lib.replaceAll r [37, 50, 48] [43] := by
  have hl := c.toNat_lt
  have f1 := hd_fine (c.toNat / 16) (by omega)
  have f2 := hd_fine (c.toNat % 16) (by omega)
  by_cases h : c = 32
  · subst h
    have e : encB 32 = [37, 50, 48] := by decide +kernel
    rw [e]
    exact rp3_yes 50 48 [43] (by decide) r
  · unfold e1B
    rw [if_neg h]
    unfold encB
    split
    · rename_i hu
      exact rp3_one 50 48 [43] (by decide) c r (unr_fine c hu).1
    · exact rp3_no 50 48 [43] (by decide) _ _ r f1.1 f2.1 (fun e => h (hd_of c 50 48 32 (by decide +kernel) e))
theorem rp2_at (c : UInt8) (r : List UInt8) : Lib.replaceAll (e1B c ++ r) [37, 50, 65] [42] = e2B c ++ Lib.replaceAll r [37, 50, 65] [42] := by
  have hl := c.toNat_lt
  have f1 := hd_fine (c.toNat / 16) (by omega)
  have f2 := hd_fine (c.toNat % 16) (by omega)
  unfold e1B e2B
  by_cases h : c = 32
  · rw [if_pos h, if_pos h]
    exact rp3_one 50 65 [42] (by decide) 43 r (by decide)
  · rw [if_neg h, if_neg h]
    by_cases h2 : c = 42
    · subst h2
      have e : encB 42 = [37, 50, 65] := by decide +kernel
      rw [e, if_pos rfl]
      exact rp3_yes 50 65 [42] (by decide) r
    · rw [if_neg h2]
      unfold encB
      split
      · rename_i hu
        exact rp3_one 50 65 [42] (by decide) c r (unr_fine c hu).1
      · exact rp3_no 50 65 [42] (by decide) _ _ r f1.1 f2.1 (fun e => h2 (hd_of c 50 65 42 (by decide +kernel) e))
theorem rp1_one (c : UInt8) (t : List UInt8) (h : c ≠ 126) : Lib.replaceAll (c :: t) [126] [37, 55, 69] = c :: Lib.replaceAll t [126] [37, 55, 69] := rp_miss _ _ c t (by simp) (by decide) (by have h' : ¬ (126 : UInt8) = c := fun e => h e.symm; simp [List.isPrefixOf, h'])
theorem codU_unr (c : UInt8) (h1 : c ≠ 42) (h2 : c ≠ 126) : codU c = unr c := by
  unfold codU unr
  simp [h1, h2]
theorem rp3_at (c : UInt8) (r : List UInt8) : Lib.replaceAll (e2B c ++ r) [126] [37, 55, 69] = codB c ++ Lib.replaceAll r [126] [37, 55, 69] := by
  have hl := c.toNat_lt
  have f1 := hd_fine (c.toNat / 16) (by omega)
  have f2 := hd_fine (c.toNat % 16) (by omega)
  unfold e2B
  by_cases h : c = 32
  · subst h
    rw [if_pos rfl, show codB 32 = [43] by decide +kernel]
    exact rp1_one 43 r (by decide)
  · rw [if_neg h]
    by_cases h2 : c = 42
    · subst h2
      rw [if_pos rfl, show codB 42 = [42] by decide +kernel]
      exact rp1_one 42 r (by decide)
    · rw [if_neg h2]
      by_cases h3 : c = 126
      · subst h3
        rw [show encB 126 = [126] by decide +kernel, show codB 126 = [37, 55, 69] by decide +kernel]
        exact rp_hit [126] [37, 55, 69] _ (by simp) (by decide) (by simp [List.isPrefixOf])
      · unfold codB encB
        rw [codU_unr c h2 h3, if_neg h]
        split
        · exact rp1_one c r h3
        · show Lib.replaceAll (37 :: hd (c.toNat / 16) :: hd (c.toNat % 16) :: r) _ _ = _
          rw [rp1_one 37 _ (by decide), rp1_one _ _ f1.2.1, rp1_one _ _ f2.2.1]
          rfl
/-- The three replacements. -/
def rp1 (l : List UInt8) : List UInt8 := Lib.replaceAll l [37, 50, 48] [43]
def rp2 (l : List UInt8) : List UInt8 := Lib.replaceAll l [37, 50, 65] [42]
def rp3 (l : List UInt8) : List UInt8 := Lib.replaceAll l [126] [37, 55, 69]
theorem rp1_join (t : List (List UInt8 × List UInt8 × Bool)) : rp1 (joinQ t) = joinF e1B t := by
  rw [← join_enc]
  exact rw_join rp1 encB e1B (rp_nil _ _ (by simp)) rp1_at (fun r => rp3_one 50 48 [43] (by decide) 61 r (by decide)) (fun r => rp3_one 50 48 [43] (by decide) 38 r (by decide)) t
theorem rp2_join (t : List (List UInt8 × List UInt8 × Bool)) : rp2 (joinF e1B t) = joinF e2B t :=
  rw_join rp2 e1B e2B (rp_nil _ _ (by simp)) rp2_at (fun r => rp3_one 50 65 [42] (by decide) 61 r (by decide)) (fun r => rp3_one 50 65 [42] (by decide) 38 r (by decide)) t
theorem rp3_join (t : List (List UInt8 × List UInt8 × Bool)) : rp3 (joinF e2B t) = joinF codB t :=
  rw_join rp3 e2B codB (rp_nil _ _ (by simp)) rp3_at (fun r => rp1_one 61 r (by decide)) (fun r => rp1_one 38 r (by decide)) t
theorem joinF_len (f : UInt8 → List UInt8) (hf : ∀ c, (f c).length ≤ 3) (t : List (List UInt8 × List UInt8 × Bool)) : (joinF f t).length ≤ 3 * sumQ t + 2 * t.length := by
  have H0 : ∀ l : List UInt8, (l.flatMap f).length ≤ 3 * l.length := by
    intro l
    induction l with
    | nil => simp
    | cons c t ih => rw [List.flatMap_cons, List.length_append, List.length_cons]; have := hf c; omega
  have H1 : ∀ p, (txF f p).length ≤ 3 * szQ p + 1 := by
    intro p
    unfold txF szQ
    have h1 := H0 p.1
    have h2 := H0 p.2.1
    split
    · rw [List.length_append, List.length_cons]; omega
    · omega
  have H : ∀ r : List (List UInt8 × List UInt8 × Bool), (r.flatMap fun q => 38 :: txF f q).length ≤ 3 * sumQ r + 2 * r.length := by
    intro r
    induction r with
    | nil => simp
    | cons q r ih =>
      rw [List.flatMap_cons, List.length_append, List.length_cons, List.length_cons]
      have := H1 q
      have e : sumQ (q :: r) = szQ q + sumQ r := by simp [sumQ]
      omega
  cases t with
  | nil => simp [joinF]
  | cons p r =>
    have := H r
    have h1 := H1 p
    have e : sumQ (p :: r) = szQ p + sumQ r := by simp [sumQ]
    unfold joinF
    rw [List.length_append, List.length_cons]
    omega
theorem e1B_len (c : UInt8) : (e1B c).length ≤ 3 := by unfold e1B encB; (repeat' split) <;> simp
theorem e2B_len (c : UInt8) : (e2B c).length ≤ 3 := by unfold e2B encB; (repeat' split) <;> simp
theorem codB_len (c : UInt8) : (codB c).length ≤ 3 := by unfold codB; (repeat' split) <;> simp
theorem cod_len (l : List UInt8) : (cod l).length ≤ 3 * l.length := by
  unfold cod
  induction l with
  | nil => simp
  | cons c t ih => rw [List.flatMap_cons, List.length_append, List.length_cons]; have := codB_len c; omega
theorem cod_append (a b : List UInt8) : cod (a ++ b) = cod a ++ cod b := by unfold cod; rw [List.flatMap_append]

/-- What is printed is read back. -/
theorem codU_fine (c : UInt8) (h : codU c = true) : c ≠ 37 ∧ c ≠ 38 ∧ c ≠ 61 ∧ c ≠ 43 := by
  refine ⟨?_, ?_, ?_, ?_⟩ <;> (rintro rfl; revert h; decide +kernel)
theorem cod_no (b : UInt8) (hb : b = 38 ∨ b = 61) (l : List UInt8) : b ∉ cod l := by
  intro h
  unfold cod at h
  obtain ⟨c, _, hc⟩ := List.mem_flatMap.1 h
  have hl := c.toNat_lt
  have f1 := hd_fine (c.toNat / 16) (by omega)
  have f2 := hd_fine (c.toNat % 16) (by omega)
  unfold codB at hc
  split at hc
  · rename_i hu
    have hf := codU_fine c hu
    obtain rfl : b = c := by simpa using hc
    rcases hb with rfl | rfl
    · exact hf.2.1 rfl
    · exact hf.2.2.1 rfl
  · split at hc
    · obtain rfl : b = 43 := by simpa using hc
      rcases hb with h | h <;> exact absurd h (by decide)
    · rcases List.mem_cons.1 hc with rfl | hc
      · rcases hb with h | h <;> exact absurd h (by decide)
      · rcases List.mem_cons.1 hc with e | hc
        · rcases hb with h | h
          · exact f1.2.2.1 (e.symm.trans h)
          · exact f1.2.2.2.1 (e.symm.trans h)
        · have e : b = hd (c.toNat % 16) := by simpa using hc
          rcases hb with h | h
          · exact f2.2.2.1 (e.symm.trans h)
          · exact f2.2.2.2.1 (e.symm.trans h)
theorem cod_says (l : List UInt8) : ∀ r : List UInt8, (whole (cod l ++ r) = whole r) ∧ (whole ((cod l).map sp) = true) ∧ vals ((cod l).map sp) = l := by
  induction l with
  | nil => intro r; exact ⟨rfl, whole_nil, by show vals [] = []; unfold vals; rw [zs_nil]; rfl⟩
  | cons c t ih =>
    intro r
    have hl := c.toNat_lt
    obtain ⟨i1, i2, i3⟩ := ih r
    have e : cod (c :: t) = codB c ++ cod t := by unfold cod; rw [List.flatMap_cons]
    have hh := hd_hx c
    rw [e, List.map_append, List.append_assoc]
    unfold codB
    split
    · rename_i hu
      have hf := codU_fine c hu
      have hs : sp c = c := by unfold sp; rw [if_neg hf.2.2.2]
      refine ⟨?_, ?_, ?_⟩
      · rw [List.singleton_append, whole_cons hf.1, i1]
      · rw [List.map_cons, List.map_nil, List.singleton_append, hs, whole_cons hf.1, i2]
      · rw [List.map_cons, List.map_nil, List.singleton_append, hs, vals_one _ _ hf.1, i3]
    · split
      · rename_i h32
        subst h32
        have hs : sp 43 = 32 := by decide
        refine ⟨?_, ?_, ?_⟩
        · rw [List.singleton_append, whole_cons (by decide), i1]
        · rw [List.map_cons, List.map_nil, List.singleton_append, hs, whole_cons (by decide), i2]
        · rw [List.map_cons, List.map_nil, List.singleton_append, hs, vals_one _ _ (by decide), i3]
      · refine ⟨?_, ?_, ?_⟩
        · exact (whole_trip _ _ _ hh.1 hh.2).trans i1
        · rw [List.map_cons, List.map_cons, List.map_cons, List.map_nil, (sp_hd c).1, (sp_hd c).2]
          exact (whole_trip _ _ _ hh.1 hh.2).trans i2
        · rw [List.map_cons, List.map_cons, List.map_cons, List.map_nil, (sp_hd c).1, (sp_hd c).2]
          refine (vals_trip _ _ _ hh.1 hh.2).trans ?_
          rw [hd_byte]
          exact congrArg (c :: ·) i3
theorem spd_cod (l : List UInt8) : spd (cod l) = l := by
  obtain ⟨_, h2, h3⟩ := cod_says l []
  unfold spd
  rw [decR_whole _ h2]
  exact h3
theorem cod_nil (l : List UInt8) : cod l = [] ↔ l = [] := by
  constructor
  · intro h
    have := spd_cod l
    rw [h] at this
    rw [← this]
    unfold spd
    rw [List.map_nil, decR_whole _ whole_nil, zs_nil]
    rfl
  · rintro rfl; rfl
theorem txc_no38 (p : List UInt8 × List UInt8 × Bool) : 38 ∉ txF codB p := by
  unfold txF
  have h1 := cod_no 38 (.inl rfl) p.1
  have h2 := cod_no 38 (.inl rfl) p.2.1
  split
  · intro h
    rcases List.mem_append.1 h with h | h
    · exact h1 h
    · rcases List.mem_cons.1 h with h | h
      · exact absurd h (by decide)
      · exact h2 h
  · exact h1
theorem txc_ne (p : List UInt8 × List UInt8 × Bool) (h : okQ p = true) : txF codB p ≠ [] := by
  unfold okQ at h
  unfold txF
  split
  · simp
  · rename_i hb
    have hb : p.2.2 = false := by simpa using hb
    rw [hb] at h
    simp at h
    exact fun e => h.2 ((cod_nil _).1 e)
theorem pair_txc (p : List UInt8 × List UInt8 × Bool) (h : okQ p = true) : pairR (txF codB p) = p := by
  obtain ⟨n, v, b⟩ := p
  have h61 := cod_no 61 (.inr rfl) n
  have en : n.flatMap codB = cod n := rfl
  have ev : v.flatMap codB = cod v := rfl
  unfold pairR txF
  cases b with
  | true =>
    have hc := has_cut 61 (cod n) (cod v) h61
    dsimp only
    rw [if_pos rfl, en, ev, hc.1, hc.2.1, hc.2.2, spd_cod, spd_cod]
  | false =>
    unfold okQ at h
    simp at h
    have hn : has 61 (cod n) = false := by
      unfold has
      rw [List.contains_eq_any_beq, List.any_eq_false]
      intro c hc e
      have e : 61 = c := by simpa using e
      subst e
      exact h61 hc
    dsimp only
    rw [if_neg (by decide), en, cutA_all 61 _ hn, cutB_none 61 _ hn, hn, spd_cod, h.1]
    have e : spd [] = [] := spd_cod []
    rw [e]
theorem splitc_join (r : List (List UInt8 × List UInt8 × Bool)) : ∀ p : List UInt8 × List UInt8 × Bool, splitB 38 (joinF codB (p :: r)) = (p :: r).map (txF codB) := by
  induction r with
  | nil => intro p; show splitB 38 (txF codB p ++ []) = _; rw [List.append_nil, splitB_none 38 _ (txc_no38 p)]; rfl
  | cons q r ih =>
    intro p
    have e : joinF codB (p :: q :: r) = txF codB p ++ 38 :: joinF codB (q :: r) := by
      show txF codB p ++ ((38 :: txF codB q) ++ r.flatMap fun q => 38 :: txF codB q) = _
      rfl
    rw [e, splitB_app 38 _ _ (txc_no38 p), ih q]
    rfl
theorem pairsc_back (t : List (List UInt8 × List UInt8 × Bool)) (h : t.all okQ = true) : pairsR (joinF codB t) = t := by
  unfold pairsR
  cases t with
  | nil => rfl
  | cons p r =>
    rw [splitc_join]
    rw [List.all_eq_true] at h
    rw [List.filter_eq_self.2 (fun z hz => by
      obtain ⟨x, hx, rfl⟩ := List.mem_map.1 hz
      exact decide_eq_true (txc_ne x (h x hx))), List.map_map]
    exact (List.map_congr_left fun x hx => pair_txc x (h x hx)).trans (List.map_id _)
theorem txc_whole (p : List UInt8 × List UInt8 × Bool) (r : List UInt8) : whole (txF codB p ++ r) = whole r := by
  unfold txF
  split
  · rw [List.append_assoc, List.cons_append]
    refine ((cod_says p.1 _).1).trans ?_
    rw [whole_cons (by decide)]
    exact (cod_says p.2.1 r).1
  · exact (cod_says p.1 r).1
theorem joinc_whole (t : List (List UInt8 × List UInt8 × Bool)) : whole (joinF codB t) = true := by
  have H : ∀ r : List (List UInt8 × List UInt8 × Bool), whole (r.flatMap fun q => 38 :: txF codB q) = true := by
    intro r
    induction r with
    | nil => exact whole_nil
    | cons q r ih => rw [List.flatMap_cons, List.cons_append, whole_cons (by decide), txc_whole, ih]
  cases t with
  | nil => exact whole_nil
  | cons p r => unfold joinF; rw [txc_whole, H]
theorem shp_back (t : List (List UInt8 × List UInt8 × Bool)) (h : t.all okQ = true) : shpR (joinF codB t) = (t, 0, 0) := by
  unfold shpR
  rw [joinc_whole, if_pos rfl, pairsc_back t h]
theorem joinF_snoc (f : UInt8 → List UInt8) (t : List (List UInt8 × List UInt8 × Bool)) (p : List UInt8 × List UInt8 × Bool) : joinF f (t ++ [p]) = if t = [] then txF f p else joinF f t ++ 38 :: txF f p := by
  cases t with
  | nil => simp [joinF]
  | cons x r => simp [joinF]
theorem prc_bad (t : List (List UInt8 × List UInt8 × Bool)) (k : Nat) (h : k < t.length) (hb : okQ (t.getD k ([], [], false)) = false) : prcR t = ([], 150) := by
  have := prq_bad t k h hb
  unfold prqR at this
  unfold prcR
  split at this
  · have e := congrArg Prod.snd this
    cases e
  · rename_i hn
    rw [if_neg hn]
theorem prc_good (t : List (List UInt8 × List UInt8 × Bool)) (h : (t.take t.length).all okQ = true) : prcR t = (joinF codB t, 0) := by
  rw [List.take_length] at h
  unfold prcR
  rw [if_pos h]

end Tg
end Go.Proofs.YtpoefoepmigbeaaDoor
