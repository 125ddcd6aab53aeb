/- Several texts as one. -/
import Derived.Test.YtlnlhhobmgiceaaGreatDoorMgC
import Derived.Lib.IndexMore
import Derived.Test.YtlnlhhobmgiceaaGreatDoorMgE
import Derived.Test.YtlnlhhobmgiceaaGreatDoorMgA
import Derived.Maps.OwnSet
import Derived.Maps.Keyed
/-
  Plain mathematics for package target: paths, their segments, normal forms, dots.
-/
set_option linter.unusedVariables false
set_option linter.unusedSimpArgs false
namespace Go.Proofs.YtlnlhhobmgiceaaGreatDoor
namespace Tg

def joinS (k : List (List UInt8)) : List UInt8 := k.flatMap fun z => 47 :: z
def stp (a : List (List UInt8) × Bool) (z : List UInt8) : List (List UInt8) × Bool := if z = [46] then (a.1, true) else if z = [46, 46] then (a.1.dropLast, true) else (a.1 ++ [z], false)
def keep (k : List (List UInt8)) : List (List UInt8) × Bool := k.foldl stp ([], false)
def fin (r : List (List UInt8) × Bool) : List (List UInt8) := if r.2 then r.1 ++ [[]] else r.1
def dots (k : List (List UInt8)) : List (List UInt8) := fin (keep k)
def segs (l : List UInt8) : List (List UInt8) := splitB 47 (l.drop 1)
def isPath (l : List UInt8) : Bool := l.head? == some 47 && allOk pathOk l
def undot (l : List UInt8) : List UInt8 := joinS (dots (segs l))
def normR (l : List UInt8) : List UInt8 × Int := if isPath l then (undot (ntr l), 0) else ([], 53)
def segR (l : List UInt8) : List (List UInt8) × Int := if isPath l then ((segs l).map fun z => (decR z).1, 0) else ([], 53)
def pathR (k : List (List UInt8)) : List UInt8 := if k = [] then [47] else joinS (k.map enc)

theorem splitB_app (b : UInt8) (a r : List UInt8) (h : b ∉ a) : splitB b (a ++ b :: r) = a :: splitB b r := by
  induction a with
  | nil => rw [List.nil_append, splitB_cons, if_pos (by simp)]
  | cons c t ih =>
    have hc : ¬ (c == b) = true := by simp; intro e; exact h (by simp [e])
    rw [List.cons_append, splitB_cons, if_neg hc, ih (fun hh => h (by simp [hh]))]
theorem splitB_none (b : UInt8) (a : List UInt8) (h : b ∉ a) : splitB b a = [a] := by
  induction a with
  | nil => rfl
  | cons c t ih =>
    have hc : ¬ (c == b) = true := by simp; intro e; exact h (by simp [e])
    rw [splitB_cons, if_neg hc, ih (fun hh => h (by simp [hh]))]
theorem splitB_no (b : UInt8) (l : List UInt8) : ∀ z ∈ splitB b l, b ∉ z := by
  induction l with
  | nil => intro z hz; simp [splitB] at hz; subst hz; simp
  | cons c t ih =>
    intro z hz
    rw [splitB_cons] at hz
    by_cases h : (c == b) = true
    · rw [if_pos h] at hz
      rcases List.mem_cons.1 hz with rfl | hz
      · simp
      · exact ih z hz
    · rw [if_neg h] at hz
      cases hs : splitB b t with
      | nil => exact absurd hs (splitB_ne b t)
      | cons x r =>
        rw [hs] at hz ih
        rcases List.mem_cons.1 hz with rfl | hz
        · simp
          refine ⟨fun e => h (by simp [e]), ih x (by simp)⟩
        · exact ih z (by simp [hz])
theorem splitB_join (k : List (List UInt8)) (h0 : k ≠ []) (h : ∀ z ∈ k, 47 ∉ z) : segs (joinS k) = k := by
  unfold segs
  match k, h0 with
  | [z], _ => 
    have : (joinS [z]).drop 1 = z := by simp [joinS]
    rw [this, splitB_none _ _ (h z (by simp))]
  | z :: y :: r, _ =>
    have e : (joinS (z :: y :: r)).drop 1 = z ++ 47 :: (joinS (y :: r)).drop 1 := by simp [joinS]
    rw [e, splitB_app _ _ _ (h z (by simp))]
    have := splitB_join (y :: r) (by simp) (fun u hu => h u (by simp at hu ⊢; exact .inr hu))
    unfold segs at this
    rw [this]
theorem join_app (a b : List (List UInt8)) : joinS (a ++ b) = joinS a ++ joinS b := by unfold joinS; rw [List.flatMap_append]
theorem join_splitB (l : List UInt8) : joinS (splitB 47 l) = 47 :: l := by
  induction l with
  | nil => rfl
  | cons c t ih =>
    rw [splitB_cons]
    by_cases h : (c == 47) = true
    · rw [if_pos h]
      have : c = 47 := by simpa using h
      subst this
      show 47 :: [] ++ joinS (splitB 47 t) = _
      rw [ih]; rfl
    · rw [if_neg h]
      cases hs : splitB 47 t with
      | nil => exact absurd hs (splitB_ne 47 t)
      | cons x r =>
        rw [hs] at ih
        simp [joinS] at ih ⊢
        rw [ih]
theorem join_segs (l : List UInt8) (h : l.head? = some 47) : joinS (segs l) = l := by
  cases l with
  | nil => simp at h
  | cons c t =>
    simp at h
    subst h
    exact join_splitB t
theorem segs_ne (l : List UInt8) : segs l ≠ [] := splitB_ne _ _
theorem segs_no (l : List UInt8) : ∀ z ∈ segs l, 47 ∉ z := splitB_no _ _

/-- Normal triples, sign by sign. -/
def ntZ (z : List UInt8) : List UInt8 := if z.length = 3 then enc (valZ z) else z
theorem ntr_zs (l : List UInt8) : ntr l = (zs l).flatMap ntZ := by unfold ntr zs; rw [List.flatMap_map]; rfl
theorem ntr_append (a b : List UInt8) (h : whole a = true) : ntr (a ++ b) = ntr a ++ ntr b := by rw [ntr_zs, zs_append a b h, List.flatMap_append, ← ntr_zs, ← ntr_zs]
theorem ntr_nil : ntr [] = [] := by rw [ntr_zs, zs_nil]; rfl
theorem whole_cons {c : UInt8} (h : c ≠ 37) (t : List UInt8) : whole (c :: t) = whole t := by
  unfold whole; rw [zs_one c t (trip_ne h t), List.all_cons]; simp [h]
theorem ntr_cons {c : UInt8} (h : c ≠ 37) (t : List UInt8) : ntr (c :: t) = c :: ntr t := by
  rw [ntr_zs, zs_one c t (trip_ne h t), List.flatMap_cons, ← ntr_zs]; rfl
theorem hx47 : hx 47 = false := by decide +kernel
theorem whole_left (a b : List UInt8) (h : whole (a ++ 47 :: b) = true) : whole a = true := by
  match a with
  | [] => unfold whole; rw [zs_nil]; rfl
  | c :: t =>
    by_cases ht : trip (c :: t ++ 47 :: b) = true
    · match t, ht with
      | [], ht =>
        match b, ht with
        | x :: b', ht => simp [trip, hx47] at ht
      | [d], ht => simp [trip, hx47] at ht
      | d :: e :: t', ht =>
        have h3 : trip (c :: d :: e :: t') = true := by rw [← trip_take] at ht ⊢; exact ht
        have hw : whole (t' ++ 47 :: b) = true := by
          unfold whole at h ⊢
          rw [zs_trip _ ht, List.all_cons, Bool.and_eq_true] at h
          exact h.2
        have := whole_left t' b hw
        unfold whole at this ⊢
        rw [zs_trip _ h3, List.all_cons, Bool.and_eq_true]
        exact ⟨by simp, this⟩
    · have ht' : trip (c :: t ++ 47 :: b) = false := by simpa using ht
      have hw : whole (t ++ 47 :: b) = true ∧ c ≠ 37 := by
        unfold whole at h ⊢
        rw [List.cons_append] at h ht'
        rw [zs_one _ _ ht', List.all_cons, Bool.and_eq_true] at h
        exact ⟨h.2, by simpa using h.1⟩
      rw [whole_cons hw.2]
      exact whole_left t b hw.1
termination_by a.length
theorem whole_right (a b : List UInt8) (h : whole (a ++ 47 :: b) = true) : whole b = true := by
  rw [whole_append a _ (whole_left a b h), whole_cons (by decide)] at h
  exact h
theorem whole_segs (k : List (List UInt8)) (h : whole (joinS k) = true) : ∀ z ∈ k, whole z = true := by
  induction k with
  | nil => simp
  | cons z r ih =>
    have e : joinS (z :: r) = 47 :: (z ++ joinS r) := by simp [joinS]
    rw [e, whole_cons (by decide)] at h
    intro u hu
    cases r with
    | nil =>
      simp [joinS] at h
      simp at hu
      subst hu
      exact h
    | cons y r' =>
      have e2 : joinS (y :: r') = 47 :: (y ++ joinS r') := by simp [joinS]
      rw [e2] at h
      rcases List.mem_cons.1 hu with rfl | hu
      · exact whole_left _ _ h
      · refine ih ?_ u hu
        rw [e2, whole_cons (by decide)]
        exact whole_right _ _ h
theorem whole_join (k : List (List UInt8)) (h : ∀ z ∈ k, whole z = true) : whole (joinS k) = true := by
  induction k with
  | nil => unfold whole; rw [show joinS [] = [] from rfl, zs_nil]; rfl
  | cons z r ih =>
    have e : joinS (z :: r) = 47 :: (z ++ joinS r) := by simp [joinS]
    rw [e, whole_cons (by decide), whole_append z _ (h z (by simp))]
    exact ih fun u hu => h u (by simp [hu])
theorem ntr_join (k : List (List UInt8)) (h : ∀ z ∈ k, whole z = true) : ntr (joinS k) = joinS (k.map ntr) := by
  induction k with
  | nil => exact ntr_nil
  | cons z r ih =>
    have e : joinS (z :: r) = 47 :: (z ++ joinS r) := by simp [joinS]
    rw [e, ntr_cons (by decide), ntr_append z _ (h z (by simp)), ih fun u hu => h u (by simp [hu])]
    simp [joinS]
theorem zs_ok (l z : List UInt8) (h : z ∈ zs l) : (z.length = 3 ∧ trip z = true) ∨ (z.length = 1 ∧ trip z = false) := by
  unfold zs at h
  obtain ⟨x, _, rfl⟩ := List.mem_map.1 h
  exact x.ok
theorem ntZ_one (z : List UInt8) (h : (z.length = 3 ∧ trip z = true) ∨ (z.length = 1 ∧ trip z = false)) (hb : z ≠ [37]) : zs (ntZ z) = [ntZ z] ∧ ntZ (ntZ z) = ntZ z ∧ whole (ntZ z) = true ∧ (∃ c, valZ z = [c] ∧ (z.length = 3 → ntZ z = encB c)) ∧ valZ (ntZ z) = valZ z := by
  rcases h with ⟨h3, ht⟩ | ⟨h1, _⟩
  · match z, h3 with
    | [a, b, c], _ =>
      have e : ntZ [a, b, c] = encB (byteOf b c) := by simp [ntZ, valZ, enc]
      rw [e]
      refine ⟨zs_encB _, ?_, encB_whole _, ⟨_, rfl, fun _ => rfl⟩, encB_val _⟩
      unfold ntZ
      split
      · rw [encB_val]; simp [enc]
      · rfl
  · match z, h1 with
    | [a], _ =>
      have e : ntZ [a] = [a] := rfl
      rw [e]
      refine ⟨by rw [zs_one a [] rfl, zs_nil], rfl, ?_, ⟨a, rfl, fun h => by simp at h⟩, rfl⟩
      have : a ≠ 37 := fun e => hb (by rw [e])
      rw [whole_cons this]
      unfold whole; rw [zs_nil]; rfl
theorem zs_ntr (l : List UInt8) (h : whole l = true) : zs (ntr l) = (zs l).map ntZ := by
  rw [ntr_zs]
  unfold whole at h
  have hok := zs_ok l
  revert h hok
  generalize zs l = k
  intro h hok
  induction k with
  | nil => exact zs_nil
  | cons z r ih =>
    rw [List.all_cons, Bool.and_eq_true] at h
    obtain ⟨h1, _, h3, _⟩ := ntZ_one z (hok z (by simp)) (by simpa using h.1)
    rw [List.flatMap_cons, zs_append _ _ h3, ih h.2 fun u hu => hok u (by simp [hu]), h1]
    rfl
theorem ntr_idem (l : List UInt8) (h : whole l = true) : ntr (ntr l) = ntr l := by
  rw [ntr_zs (ntr l), zs_ntr l h, List.flatMap_map, ntr_zs l]
  unfold whole at h
  have hok := zs_ok l
  revert h hok
  generalize zs l = k
  intro h hok
  induction k with
  | nil => rfl
  | cons z r ih =>
    rw [List.all_cons, Bool.and_eq_true] at h
    obtain ⟨_, h2, _⟩ := ntZ_one z (hok z (by simp)) (by simpa using h.1)
    rw [List.flatMap_cons, List.flatMap_cons, ih h.2 fun u hu => hok u (by simp [hu]), h2]
theorem whole_ntr (l : List UInt8) (h : whole l = true) : whole (ntr l) = true := by
  show (zs (ntr l)).all _ = true
  rw [zs_ntr l h, List.all_map, List.all_eq_true]
  intro z hz
  have hok := zs_ok l z hz
  unfold whole at h
  rw [List.all_eq_true] at h
  obtain ⟨h1, _, h3, _⟩ := ntZ_one z hok (by simpa using h z hz)
  unfold whole at h3
  rw [h1] at h3
  simpa using h3
theorem unr_path {c : UInt8} (h : unr c = true) : pathOk c = true := by simp [pathOk, h]
theorem path37 : pathOk 37 = false := by decide +kernel
theorem ok_ntr (l : List UInt8) (h : allOk pathOk l = true) : allOk pathOk (ntr l) = true := by
  have hw := whole_of pathOk path37 l h
  unfold allOk at h ⊢
  rw [zs_ntr l hw, List.all_map, List.all_eq_true]
  rw [List.all_eq_true] at h
  intro z hz
  have hg := h z hz
  unfold whole at hw
  rw [List.all_eq_true] at hw
  show goodZ pathOk (ntZ z) = true
  by_cases h3 : z.length = 3
  · obtain ⟨_, _, _, ⟨c, _, e⟩, _⟩ := ntZ_one z (zs_ok l z hz) (by simpa using hw z hz)
    rw [e h3]
    unfold encB goodZ
    split
    · rename_i hu; simp [unr_path hu]
    · simp
  · simpa [ntZ, h3] using hg
theorem unr47 : unr 47 = false := by decide +kernel
theorem hex_no47 (z : List UInt8) (h : trip z = true) (h3 : z.length = 3) : 47 ∉ z := by
  match z, h3 with
  | [a, b, c], _ =>
    simp [trip] at h
    simp
    refine ⟨?_, ?_, ?_⟩
    · intro e; rw [← e] at h; simp at h
    · intro e; rw [← e, hx47] at h; simp at h
    · intro e; rw [← e, hx47] at h; simp at h
theorem ntr_no47 (l : List UInt8) (h : whole l = true) (h47 : 47 ∉ l) : 47 ∉ ntr l := by
  rw [ntr_zs]
  intro hm
  obtain ⟨z, hz, hm⟩ := List.mem_flatMap.1 hm
  have hzl : ∀ u ∈ z, u ∈ l := by
    intro u hu
    rw [← zs_flat l]
    exact List.mem_flatten.2 ⟨z, hz, hu⟩
  unfold ntZ at hm
  split at hm
  · rcases enc_mem _ _ hm with e | e
    · exact absurd e (by decide)
    · rw [unr47] at e; cases e
  · exact h47 (hzl _ hm)

/-- Segments of a path, of its normal triples. -/
theorem path_head {l : List UInt8} (h : isPath l = true) : l.head? = some 47 := by
  unfold isPath at h; rw [Bool.and_eq_true] at h; simpa using h.1
theorem path_ok {l : List UInt8} (h : isPath l = true) : allOk pathOk l = true := by
  unfold isPath at h; rw [Bool.and_eq_true] at h; exact h.2
theorem path_whole {l : List UInt8} (h : isPath l = true) : whole l = true := whole_of pathOk path37 l (path_ok h)
theorem segs_whole {l : List UInt8} (h : isPath l = true) : ∀ z ∈ segs l, whole z = true :=
  whole_segs _ (by rw [join_segs l (path_head h)]; exact path_whole h)
theorem segs_ntr {l : List UInt8} (h : isPath l = true) : segs (ntr l) = (segs l).map ntr := by
  have e : ntr l = joinS ((segs l).map ntr) := by rw [← ntr_join _ (segs_whole h), join_segs l (path_head h)]
  rw [e]
  refine splitB_join _ (by simp [segs_ne]) ?_
  intro z hz
  obtain ⟨u, hu, rfl⟩ := List.mem_map.1 hz
  exact ntr_no47 u (segs_whole h u hu) (segs_no l u hu)
theorem normR_path {l : List UInt8} (h : isPath l = true) : normR l = (joinS (dots ((segs l).map ntr)), 0) := by
  unfold normR undot; rw [if_pos h, segs_ntr h]
theorem allOk_join (k : List (List UInt8)) (h : ∀ z ∈ k, allOk pathOk z = true) : allOk pathOk (joinS k) = true := by
  induction k with
  | nil => unfold allOk; rw [show joinS [] = [] from rfl, zs_nil]; rfl
  | cons z r ih =>
    have e : joinS (z :: r) = [47] ++ (z ++ joinS r) := by simp [joinS]
    have h47 : whole [47] = true := by unfold whole; rw [zs_one 47 [] rfl, zs_nil]; rfl
    have o47 : allOk pathOk [47] = true := by unfold allOk; rw [zs_one 47 [] rfl, zs_nil]; decide +kernel
    rw [e, allOk_append _ _ _ h47, allOk_append _ _ _ (whole_of pathOk path37 z (h z (by simp))), o47, h z (by simp), ih fun u hu => h u (by simp [hu])]
    rfl
theorem allOk_segs (k : List (List UInt8)) (h : allOk pathOk (joinS k) = true) : ∀ z ∈ k, allOk pathOk z = true := by
  have hw := whole_segs k (whole_of pathOk path37 _ h)
  induction k with
  | nil => simp
  | cons z r ih =>
    have e : joinS (z :: r) = [47] ++ (z ++ joinS r) := by simp [joinS]
    have h47 : whole [47] = true := by unfold whole; rw [zs_one 47 [] rfl, zs_nil]; rfl
    rw [e, allOk_append _ _ _ h47, allOk_append _ _ _ (hw z (by simp))] at h
    simp only [Bool.and_eq_true] at h
    intro u hu
    rcases List.mem_cons.1 hu with rfl | hu
    · exact h.2.1
    · exact ih h.2.2 (fun v hv => hw v (by simp [hv])) u hu
theorem isPath_join (k : List (List UInt8)) (h0 : k ≠ []) (h : ∀ z ∈ k, allOk pathOk z = true) : isPath (joinS k) = true := by
  unfold isPath
  rw [allOk_join k h]
  cases k with
  | nil => exact absurd rfl h0
  | cons z r => simp [joinS]

/-- Dots. -/
def plainZ (z : List UInt8) : Prop := z ≠ [46] ∧ z ≠ [46, 46]
theorem stp_plain (a : List (List UInt8) × Bool) (z : List UInt8) (h : plainZ z) : stp a z = (a.1 ++ [z], false) := by unfold stp; rw [if_neg h.1, if_neg h.2]
theorem fold_plain (k : List (List UInt8)) (h : ∀ z ∈ k, plainZ z) (a : List (List UInt8) × Bool) : k.foldl stp a = (a.1 ++ k, if k = [] then a.2 else false) := by
  induction k generalizing a with
  | nil => simp
  | cons z r ih =>
    rw [List.foldl_cons, stp_plain a z (h z (by simp)), ih fun u hu => h u (by simp [hu])]
    simp
theorem keep_plain (k : List (List UInt8)) : ∀ z ∈ (keep k).1, plainZ z ∧ z ∈ k := by
  unfold keep
  suffices ∀ (a : List (List UInt8) × Bool) (P : List UInt8 → Prop), (∀ z ∈ a.1, plainZ z ∧ P z) → (∀ z ∈ k, P z) → ∀ z ∈ (k.foldl stp a).1, plainZ z ∧ P z from this ([], false) (fun z => z ∈ k) (by simp) (fun _ h => h)
  induction k with
  | nil => intro a P h _; exact h
  | cons z r ih =>
    intro a P h hk
    rw [List.foldl_cons]
    refine ih _ P ?_ fun u hu => hk u (by simp [hu])
    intro u hu
    unfold stp at hu
    by_cases h1 : z = [46]
    · rw [if_pos h1] at hu; exact h u hu
    · rw [if_neg h1] at hu
      by_cases h2 : z = [46, 46]
      · rw [if_pos h2] at hu; exact h u (List.dropLast_subset _ hu)
      · rw [if_neg h2] at hu
        rcases List.mem_append.1 hu with hu | hu
        · exact h u hu
        · simp at hu; subst hu; exact ⟨⟨h1, h2⟩, hk _ (by simp)⟩
theorem dots_plain (k : List (List UInt8)) : ∀ z ∈ dots k, plainZ z ∧ (z ∈ k ∨ z = []) := by
  intro z hz
  unfold dots fin at hz
  split at hz
  · rcases List.mem_append.1 hz with h | h
    · exact ⟨(keep_plain k z h).1, .inl (keep_plain k z h).2⟩
    · simp at h; subst h; exact ⟨⟨by simp, by simp⟩, .inr rfl⟩
  · exact ⟨(keep_plain k z hz).1, .inl (keep_plain k z hz).2⟩
theorem keep_last (k : List (List UInt8)) (h : k ≠ []) : (keep k).2 = true ∨ (keep k).1 ≠ [] := by
  unfold keep
  obtain ⟨r, z, rfl⟩ : ∃ r z, k = r ++ [z] := ⟨_, _, (List.dropLast_concat_getLast h).symm⟩
  rw [List.foldl_append]
  generalize r.foldl stp ([], false) = a
  simp only [List.foldl_cons, List.foldl_nil]
  unfold stp
  split
  · exact .inl rfl
  · split
    · exact .inl rfl
    · exact .inr (by simp)
theorem dots_ne (k : List (List UInt8)) (h : k ≠ []) : dots k ≠ [] := by
  unfold dots fin
  split
  · simp
  · rename_i h2
    rcases keep_last k h with h1 | h1
    · exact absurd h1 h2
    · exact h1
theorem dots_id (k : List (List UInt8)) (h : ∀ z ∈ k, plainZ z) : dots k = k := by
  unfold dots fin keep
  rw [fold_plain k h]
  simp

end Tg
end Go.Proofs.YtlnlhhobmgiceaaGreatDoor

/-
  Plain: what the library's cut says of one byte.
-/
set_option linter.unusedVariables false
set_option linter.unusedSimpArgs false
namespace Go.Proofs.YtlnlhhobmgiceaaGreatDoor
namespace Tg

theorem index_cons_one (b c : UInt8) (t : List UInt8) : Lib.index (c :: t) [b] = if c = b then 0 else if Lib.index t [b] = -1 then -1 else Lib.index t [b] + 1 := by
  by_cases h : c = b
  · subst h; simp [Lib.index, List.isPrefixOf]
  · have h2 : ¬ b = c := fun e => h e.symm
    simp [Lib.index, List.isPrefixOf, h, h2]
theorem index_one (b : UInt8) (l : List UInt8) : Lib.index l [b] = if has b l then ((cutA b l).length : Int) else -1 := by
  induction l with
  | nil => rfl
  | cons c t ih =>
    rw [index_cons_one, ih]
    by_cases h : c = b
    · subst h; simp [has, cutA]
    · have h2 : ¬ b = c := fun e => h e.symm
      have e1 : cutA b (c :: t) = c :: cutA b t := by simp [cutA, h]
      have e3 : has b (c :: t) = has b t := by simp [has, h2]
      rw [if_neg h, e1, e3]
      cases has b t with
      | true => simp
      | false => simp
theorem cutA_all (b : UInt8) (l : List UInt8) (h : has b l = false) : cutA b l = l := by
  induction l with
  | nil => rfl
  | cons c t ih =>
    have h' : ¬ b = c ∧ has b t = false := by simpa [has] using h
    have h2 : ¬ c = b := fun e => h'.1 e.symm
    have e1 : cutA b (c :: t) = c :: cutA b t := by simp [cutA, h2]
    rw [e1, ih h'.2]
theorem cutB_none (b : UInt8) (l : List UInt8) (h : has b l = false) : cutB b l = [] := by
  induction l with
  | nil => rfl
  | cons c t ih =>
    have h' : ¬ b = c ∧ has b t = false := by simpa [has] using h
    have h2 : ¬ c = b := fun e => h'.1 e.symm
    have e2 : cutB b (c :: t) = cutB b t := by simp [cutB, h2]
    rw [e2, ih h'.2]
theorem cut_app (b : UInt8) (l : List UInt8) (h : has b l = true) : cutA b l ++ b :: cutB b l = l := by
  induction l with
  | nil => simp [has] at h
  | cons c t ih =>
    by_cases e : c = b
    · subst e; simp [cutA, cutB]
    · have h2 : ¬ b = c := fun x => e x.symm
      have e1 : cutA b (c :: t) = c :: cutA b t := by simp [cutA, e]
      have e2 : cutB b (c :: t) = cutB b t := by simp [cutB, e]
      have e3 : has b t = true := by simpa [has, h2] using h
      rw [e1, e2, List.cons_append, ih e3]
theorem cut_one (b : UInt8) (l : List UInt8) : Lib.cut l [b] = (cutA b l, cutB b l, has b l) := by
  unfold Lib.cut
  rw [index_one]
  cases h : has b l with
  | true =>
    rw [if_pos rfl, if_pos (by omega)]
    have e := cut_app b l h
    generalize cutA b l = A at *
    generalize cutB b l = B at *
    subst e
    simp
  | false =>
    rw [if_neg (by simp)]
    simp [cutA_all b l h, cutB_none b l h]

end Tg
end Go.Proofs.YtlnlhhobmgiceaaGreatDoor

/-
  target: Cut at one byte; parsePlace.
-/
set_option linter.unusedVariables false
set_option linter.unusedSimpArgs false
namespace Go.Proofs.YtlnlhhobmgiceaaGreatDoor
open Go.RowKit Go.Shelf
namespace Tg
open Oc

/-- The library's MaxLen lies. -/
def ML (w : World) : Prop := ∃ m : Int, w.cell? ⟨1, 0, none⟩ = some (.int .i64 m)
theorem ML.below {w w' : World} (h : ML w) (hb : Below w.heap.size w w') : ML w' := by
  obtain ⟨m, hm⟩ := h
  exact ⟨m, (hb.cell (p := ⟨1, 0, none⟩) (cell_lt hm)).trans hm⟩
theorem ML.drew {w : World} (h : ML w) : ML w.drew := h
theorem Cut_one (s : ByteArray) (b : UInt8) (hs : s.size ≤ 4000000000) (w : World) (h : ML w) :
    Calls Tryz.prog 28 #[.string s, .string ⟨#[b]⟩] w fun e w' => e = .returned (.tuple #[.string (str (cutA b s.data.toList)), .string (str (cutB b s.data.toList)), .bool (has b s.data.toList)]) ∧ Below w.heap.size w w' := by
  obtain ⟨m, hm⟩ := h
  refine (Tryz.strings_Cut s ⟨#[b]⟩ m w (by omega) hm).mono ?_
  rintro e w' ⟨rfl, n, rfl⟩
  rw [show (⟨#[b]⟩ : ByteArray).data.toList = [b] from rfl, cut_one]
  exact ⟨rfl, ⟨rfl, rfl, rfl, Nat.le_refl _, fun _ _ => rfl⟩⟩

theorem sg_at (p : Nat) (l : List UInt8) : ∀ x ∈ sg p l, x.at_ < p + l.length := by
  match l with
  | [] => rw [sg_nil]; simp
  | c :: t =>
    intro x hx
    by_cases h : trip (c :: t) = true
    · rw [sg_trip p _ h] at hx
      have h3 := trip_len h
      rcases List.mem_cons.1 hx with rfl | hx
      · simp
      · have := sg_at (p + 3) ((c :: t).drop 3) x hx
        rw [List.length_drop] at this
        omega
    · rw [sg_one p c t (by simpa using h)] at hx
      rcases List.mem_cons.1 hx with rfl | hx
      · simp
      · have := sg_at (p + 1) t x hx
        simp; omega
termination_by l.length
decreasing_by
  · simp; omega
  · simp
theorem chk_le (ok : UInt8 → Bool) (other : Int) (l : List UInt8) : (chk ok other l).1 ≤ l.length := by
  unfold chk
  split
  · rename_i x hx
    have := sg_at 0 l x (List.mem_of_find?_eq_some hx)
    dsimp only
    omega
  · exact Nat.zero_le _
/-- A target, as a value. -/
def tgt (form : Int) (host : List UInt8) (port : Int) (path query : List UInt8) (h : Bool) : Value := .agg #[.int .i64 form, .string (str host), .int .i64 port, .string (str path), .string (str query), .bool h]
def tgt0 : Value := tgt 0 [] 0 [] [] false
/-- Path and query of a target. -/
def placeR (r : List UInt8) : (Nat × Int) := if (chk pathOk 53 (cutA 63 r)).2 ≠ 0 then chk pathOk 53 (cutA 63 r) else if (chk queryOk 54 (cutB 63 r)).2 ≠ 0 then ((cutA 63 r).length + 1 + (chk queryOk 54 (cutB 63 r)).1, (chk queryOk 54 (cutB 63 r)).2) else (0, 0)
def slashed (p : List UInt8) : List UInt8 := if p = [] then [47] else p

end Tg
end Go.Proofs.YtlnlhhobmgiceaaGreatDoor

/-
  sheet: a set of numbers that the call makes; rows of numbers; numbersAtFront.
-/
set_option linter.unusedVariables false
set_option linter.unusedSimpArgs false
namespace Go.Proofs.YtlnlhhobmgiceaaGreatDoor
open Go.RowKit Go.Shelf
namespace Mf
open Oc Tg

def litI (x : Nat) : Lit := .int .i64 (x : Int)
def setI (L : List Nat) : DataW Unit := Maps.setOf (.agg []) (L.map litI)
/-- Block B is a map whose keys are L. -/
def MI (B n : Nat) (L : List Nat) (w : World) : Prop := w.ownsMap Tryz.prog 3 (unitElem (H := Unit)) B n (setI L)
theorem lawI : Maps.Keyed Tryz.prog 3 := Maps.int_keyed Tryz.underlying3
theorem keyI (x : Nat) (h : x ≤ 9223372036854775807) : keyOf Tryz.prog 3 (.int .i64 (x : Int)) = some (litI x) :=
  Maps.keyOf_int_mk (P := Tryz.prog) Tryz.underlying3 (by
    have h1 : IntKind.i64.min = -9223372036854775808 := rfl
    have h2 : IntKind.i64.max = 9223372036854775807 := rfl
    simp only [Lit.wf, Bool.and_eq_true, decide_eq_true_eq]
    omega)
theorem same_litI (x y : Nat) : (litI x).sameKey (litI y) = decide (x = y) := by
  rw [Bool.eq_iff_iff, decide_eq_true_iff]
  simp [litI, Lit.sameKey]
  omega
theorem has_setI (L : List Nat) (x : Nat) : Maps.has (setI L) (litI x) = decide (x ∈ L) := by
  unfold setI
  rw [Maps.has_setOf _ _ _ (by intro y hy; obtain ⟨z, _, rfl⟩ := List.mem_map.1 hy; trivial)]
  rw [Bool.eq_iff_iff, List.any_eq_true, decide_eq_true_iff]
  constructor
  · rintro ⟨y, hy, he⟩
    obtain ⟨z, hz, rfl⟩ := List.mem_map.1 hy
    rw [same_litI, decide_eq_true_iff] at he
    rw [← he]
    exact hz
  · intro h
    exact ⟨litI x, List.mem_map.2 ⟨x, h, rfl⟩, by rw [same_litI]; simp⟩
theorem setI_snoc (L : List Nat) (x : Nat) : setI (L ++ [x]) = (setI L).put (litI x) (.agg []) := by
  unfold setI
  rw [List.map_append, List.map_singleton, Maps.setOf_snoc]

theorem zeroU (w : World) : (zeroValue 113).run Tryz.prog w = .ok (.agg #[]) w := by kernel_rfl

theorem cnt_step {c c' M k n : Nat} (h : n ≤ c * M + k) (hk : k ≤ M) (hc : c + 1 ≤ c') : n ≤ c' * M := by
  have h1 : (c + 1) * M ≤ c' * M := Nat.mul_le_mul_right M hc
  rw [Nat.succ_mul] at h1
  omega
theorem byte_sub (c : UInt8) (h : isD c = true) : IntKind.u8.wrap ((c.toNat : Int) - 48) = (vd c : Int) := by
  rw [isD_iff] at h
  have : ∀ n : Nat, n < 256 → 48 ≤ n ∧ n ≤ 57 → IntKind.u8.wrap ((n : Int) - 48) = ((n - 48 : Nat) : Int) := by decide +kernel
  exact this c.toNat (UInt8.toNat_lt c) h
theorem cut_yes {s p : List UInt8} {i : Nat} (hi : Lib.index s p = (i : Int)) : Lib.cut s p = (s.take i, s.drop (i + p.length), true) := by
  unfold Lib.cut
  rw [hi, if_pos (by omega)]
  rfl
theorem cut_no {s p : List UInt8} (hi : Lib.index s p = -1) : Lib.cut s p = (s, [], false) := by
  unfold Lib.cut
  rw [hi, if_neg (by omega)]

theorem Cut_g (s p : ByteArray) (hs : s.size ≤ 4000000000) (w : World) (h : ML w) :
    Calls Tryz.prog 28 #[.string s, .string p] w fun e w' => e = .returned (.tuple #[.string (str (Lib.cut s.data.toList p.data.toList).1), .string (str (Lib.cut s.data.toList p.data.toList).2.1), .bool (Lib.cut s.data.toList p.data.toList).2.2]) ∧ Below w.heap.size w w' := by
  obtain ⟨m, hm⟩ := h
  refine (Tryz.strings_Cut s p m w (by omega) hm).mono ?_
  rintro e w' ⟨rfl, n, rfl⟩
  exact ⟨rfl, ⟨rfl, rfl, rfl, Nat.le_refl _, fun _ _ => rfl⟩⟩

end Mf
end Go.Proofs.YtlnlhhobmgiceaaGreatDoor
