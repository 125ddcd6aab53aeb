/-
  Plain mathematics for package target: paths, their segments, normal forms, dots.
-/
import Derived.Test.YticncpjpkgdnlaaGreatDoorMgG
set_option linter.unusedVariables false
set_option linter.unusedSimpArgs false
namespace Go.Proofs.YticncpjpkgdnlaaGreatDoor
namespace Tg

def joinS (k : List (List UInt8)) : List UInt8 := k.flatMap fun z => 47 :: z
def stp (a : List (List UInt8) × Bool) (z : List UInt8) : List (List UInt8) × Bool := if z = [46] then (a.1, true) else if z = [46, 46] then (a.1.dropLast, true) else (a.1 ++ [z], false)
def keep (k : List (List UInt8)) : List (List UInt8) × Bool := k.foldl stp ([], false)
def fin (r : List (List UInt8) × Bool) : List (List UInt8) := if r.2 then r.1 ++ [[]] else r.1
def dots (k : List (List UInt8)) : List (List UInt8) := fin (keep k)
def segs (l : List UInt8) : List (List UInt8) := splitB 47 (l.drop 1)
def isPath (l : List UInt8) : Bool := l.head? == some 47 && allOk pathOk l
def undot (l : List UInt8) : List UInt8 := joinS (dots (segs l))
def normR (l : List UInt8) : List UInt8 × Int := if isPath l then (undot (ntr l), 0) else ([], 53)
def segR (l : List UInt8) : List (List UInt8) × Int := if isPath l then ((segs l).map fun z => (decR z).1, 0) else ([], 53)
def pathR (k : List (List UInt8)) : List UInt8 := if k = [] then [47] else joinS (k.map enc)

theorem splitB_app (b : UInt8) (a r : List UInt8) (h : b ∉ a) : splitB b (a ++ b :: r) = a :: splitB b r := by
  induction a with
  | nil => rw [List.nil_append, splitB_cons, if_pos (by simp)]
  | cons c t ih =>
    have hc : ¬ (c == b) = true := by simp; intro e; exact h (by simp [e])
    rw [List.cons_append, splitB_cons, if_neg hc, ih (fun hh => h (by simp [hh]))]
theorem splitB_none (b : UInt8) (a : List UInt8) (h : b ∉ a) : splitB b a = [a] := by
  induction a with
  | nil => rfl
  | cons c t ih =>
    have hc : ¬ (c == b) = true := by simp; intro e; exact h (by simp [e])
    rw [splitB_cons, if_neg hc, ih (fun hh => h (by simp [hh]))]
theorem splitB_no (b : UInt8) (l : List UInt8) : ∀ z ∈ splitB b l, b ∉ z := by
  induction l with
  | nil => intro z hz; simp [splitB] at hz; subst hz; simp
  | cons c t ih =>
    intro z hz
    rw [splitB_cons] at hz
    by_cases h : (c == b) = true
    · rw [if_pos h] at hz
      rcases List.mem_cons.1 hz with rfl | hz
      · simp
      · exact ih z hz
    · rw [if_neg h] at hz
      cases hs : splitB b t with
      | nil => exact absurd hs (splitB_ne b t)
      | cons x r =>
        rw [hs] at hz ih
        rcases List.mem_cons.1 hz with rfl | hz
        · simp
          refine ⟨fun e => h (by simp [e]), ih x (by simp)⟩
        · exact ih z (by simp [hz])
theorem splitB_join (k : List (List UInt8)) (h0 : k ≠ []) (h : ∀ z ∈ k, 47 ∉ z) : segs (joinS k) = k := by
  unfold segs
  match k, h0 with
  | [z], _ => 
    have : (joinS [z]).drop 1 = z := by simp [joinS]
    rw [this, splitB_none _ _ (h z (by simp))]
  | z :: y :: r, _ =>
    have e : (joinS (z :: y :: r)).drop 1 = z ++ 47 :: (joinS (y :: r)).drop 1 := by simp [joinS]
    rw [e, splitB_app _ _ _ (h z (by simp))]
    have := splitB_join (y :: r) (by simp) (fun u hu => h u (by simp at hu ⊢; exact .inr hu))
    unfold segs at this
    rw [this]
theorem join_app (a b : List (List UInt8)) : joinS (a ++ b) = joinS a ++ joinS b := by unfold joinS; rw [List.flatMap_append]
theorem join_splitB (l : List UInt8) : joinS (splitB 47 l) = 47 :: l := by
  induction l with
  | nil => rfl
  | cons c t ih =>
    rw [splitB_cons]
    by_cases h : (c == 47) = true
    · rw [if_pos h]
      have : c = 47 := by simpa using h
      subst this
      show 47 :: [] ++ joinS (splitB 47 t) = _
      rw [ih]; rfl
    · rw [if_neg h]
      cases hs : splitB 47 t with
      | nil => exact absurd hs (splitB_ne 47 t)
      | cons x r =>
        rw [hs] at ih
        simp [joinS] at ih ⊢
        rw [ih]
theorem join_segs (l : List UInt8) (h : l.head? = some 47) : joinS (segs l) = l := by
  cases l with
  | nil => simp at h
  | cons c t =>
    simp at h
    subst h
    exact join_splitB t
theorem segs_ne (l : List UInt8) : segs l ≠ [] := splitB_ne _ _
theorem segs_no (l : List UInt8) : ∀ z ∈ segs l, 47 ∉ z := splitB_no _ _

/-- Normal triples, sign by sign. -/
def ntZ (z : List UInt8) : List UInt8 := if z.length = 3 then enc (valZ z) else z
theorem ntr_zs (l : List UInt8) : ntr l = (zs l).flatMap ntZ := by unfold ntr zs; rw [List.flatMap_map]; rfl
theorem ntr_append (a b : List UInt8) (h : whole a = true) : ntr (a ++ b) = ntr a ++ ntr b := by rw [ntr_zs, zs_append a b h, List.flatMap_append, ← ntr_zs, ← ntr_zs]
theorem ntr_nil : ntr [] = [] := by rw [ntr_zs, zs_nil]; rfl
theorem whole_cons {c : UInt8} (h : c ≠ 37) (t : List UInt8) : whole (c :: t) = whole t := by
  unfold whole; rw [zs_one c t (trip_ne h t), List.all_cons]; simp [h]
theorem ntr_cons {c : UInt8} (h : c ≠ 37) (t : List UInt8) : ntr (c :: t) = c :: ntr t := by
  rw [ntr_zs, zs_one c t (trip_ne h t), List.flatMap_cons, ← ntr_zs]; rfl
theorem hx47 : hx 47 = false := by decide +kernel
theorem whole_left (a b : List UInt8) (h : whole (a ++ 47 :: b) = true) : whole a = true := by
  match a with
  | [] => unfold whole; rw [zs_nil]; rfl
  | c :: t =>
    by_cases ht : trip (c :: t ++ 47 :: b) = true
    · match t, ht with
      | [], ht =>
        match b, ht with
        | x :: b', ht => simp [trip, hx47] at ht
      | [d], ht => simp [trip, hx47] at ht
      | d :: e :: t', ht =>
        have h3 : trip (c :: d :: e :: t') = true := by rw [← trip_take] at ht ⊢; exact ht
        have hw : whole (t' ++ 47 :: b) = true := by
          unfold whole at h ⊢
          rw [zs_trip _ ht, List.all_cons, Bool.and_eq_true] at h
          exact h.2
        have := whole_left t' b hw
        unfold whole at this ⊢
        rw [zs_trip _ h3, List.all_cons, Bool.and_eq_true]
        exact ⟨by simp, this⟩
    · have ht' : trip (c :: t ++ 47 :: b) = false := by simpa using ht
      have hw : whole (t ++ 47 :: b) = true ∧ c ≠ 37 := by
        unfold whole at h ⊢
        rw [List.cons_append] at h ht'
        rw [zs_one _ _ ht', List.all_cons, Bool.and_eq_true] at h
        exact ⟨h.2, by simpa using h.1⟩
      rw [whole_cons hw.2]
      exact whole_left t b hw.1
termination_by a.length
theorem whole_right (a b : List UInt8) (h : whole (a ++ 47 :: b) = true) : whole b = true := by
  rw [whole_append a _ (whole_left a b h), whole_cons (by decide)] at h
  exact h
theorem whole_segs (k : List (List UInt8)) (h : whole (joinS k) = true) : ∀ z ∈ k, whole z = true := by
  induction k with
  | nil => simp
  | cons z r ih =>
    have e : joinS (z :: r) = 47 :: (z ++ joinS r) := by simp [joinS]
    rw [e, whole_cons (by decide)] at h
    intro u hu
    cases r with
    | nil =>
      simp [joinS] at h
      simp at hu
      subst hu
      exact h
    | cons y r' =>
      have e2 : joinS (y :: r') = 47 :: (y ++ joinS r') := by simp [joinS]
      rw [e2] at h
      rcases List.mem_cons.1 hu with rfl | hu
      · exact whole_left _ _ h
      · refine ih ?_ u hu
        rw [e2, whole_cons (by decide)]
        exact whole_right _ _ h
theorem whole_join (k : List (List UInt8)) (h : ∀ z ∈ k, whole z = true) : whole (joinS k) = true := by
  induction k with
  | nil => unfold whole; rw [show joinS [] = [] from rfl, zs_nil]; rfl
  | cons z r ih =>
    have e : joinS (z :: r) = 47 :: (z ++ joinS r) := by simp [joinS]
    rw [e, whole_cons (by decide), whole_append z _ (h z (by simp))]
    exact ih fun u hu => h u (by simp [hu])
theorem ntr_join (k : List (List UInt8)) (h : ∀ z ∈ k, whole z = true) : ntr (joinS k) = joinS (k.map ntr) := by
  induction k with
  | nil => exact ntr_nil
  | cons z r ih =>
    have e : joinS (z :: r) = 47 :: (z ++ joinS r) := by simp [joinS]
    rw [e, ntr_cons (by decide), ntr_append z _ (h z (by simp)), ih fun u hu => h u (by simp [hu])]
    simp [joinS]
theorem zs_ok (l z : List UInt8) (h : z ∈ zs l) : (z.length = 3 ∧ trip z = true) ∨ (z.length = 1 ∧ trip z = false) := by
  unfold zs at h
  obtain ⟨x, _, rfl⟩ := List.mem_map.1 h
  exact x.ok
theorem ntZ_one (z : List UInt8) (h : (z.length = 3 ∧ trip z = true) ∨ (z.length = 1 ∧ trip z = false)) (hb : z ≠ [37]) : zs (ntZ z) = [ntZ z] ∧ ntZ (ntZ z) = ntZ z ∧ whole (ntZ z) = true ∧ (∃ c, valZ z = [c] ∧ (z.length = 3 → ntZ z = encB c)) ∧ valZ (ntZ z) = valZ z := by
  rcases h with ⟨h3, ht⟩ | ⟨h1, _⟩
  · match z, h3 with
    | [a, b, c], _ =>
      have e : ntZ [a, b, c] = encB (byteOf b c) := by simp [ntZ, valZ, enc]
      rw [e]
      refine ⟨zs_encB _, ?_, encB_whole _, ⟨_, rfl, fun _ => rfl⟩, encB_val _⟩
      unfold ntZ
      split
      · rw [encB_val]; simp [enc]
      · rfl
  · match z, h1 with
    | [a], _ =>
      have e : ntZ [a] = [a] := rfl
      rw [e]
      refine ⟨by rw [zs_one a [] rfl, zs_nil], rfl, ?_, ⟨a, rfl, fun h => by simp at h⟩, rfl⟩
      have : a ≠ 37 := fun e => hb (by rw [e])
      rw [whole_cons this]
      unfold whole; rw [zs_nil]; rfl
theorem zs_ntr (l : List UInt8) (h : whole l = true) : zs (ntr l) = (zs l).map ntZ := by
  rw [ntr_zs]
  unfold whole at h
  have hok := zs_ok l
  revert h hok
  generalize zs l = k
  intro h hok
  induction k with
  | nil => exact zs_nil
  | cons z r ih =>
    rw [List.all_cons, Bool.and_eq_true] at h
    obtain ⟨h1, _, h3, _⟩ := ntZ_one z (hok z (by simp)) (by simpa using h.1)
    rw [List.flatMap_cons, zs_append _ _ h3, ih h.2 fun u hu => hok u (by simp [hu]), h1]
    rfl
theorem ntr_idem (l : List UInt8) (h : whole l = true) : ntr (ntr l) = ntr l := by
  rw [ntr_zs (ntr l), zs_ntr l h, List.flatMap_map, ntr_zs l]
  unfold whole at h
  have hok := zs_ok l
  revert h hok
  generalize zs l = k
  intro h hok
  induction k with
  | nil => rfl
  | cons z r ih =>
    rw [List.all_cons, Bool.and_eq_true] at h
    obtain ⟨_, h2, _⟩ := ntZ_one z (hok z (by simp)) (by simpa using h.1)
    rw [List.flatMap_cons, List.flatMap_cons, ih h.2 fun u hu => hok u (by simp [hu]), h2]
theorem whole_ntr (l : List UInt8) (h : whole l = true) : whole (ntr l) = true := by
  show (zs (ntr l)).all _ = true
  rw [zs_ntr l h, List.all_map, List.all_eq_true]
  intro z hz
  have hok := zs_ok l z hz
  unfold whole at h
  rw [List.all_eq_true] at h
  obtain ⟨h1, _, h3, _⟩ := ntZ_one z hok (by simpa using h z hz)
  unfold whole at h3
  rw [h1] at h3
  simpa using h3
theorem unr_path {c : UInt8} (h : unr c = true) : pathOk c = true := by simp [pathOk, h]
theorem path37 : pathOk 37 = false := by decide +kernel
theorem ok_ntr (l : List UInt8) (h : allOk pathOk l = true) : allOk pathOk (ntr l) = true := by
  have hw := whole_of pathOk path37 l h
  unfold allOk at h ⊢
  rw [zs_ntr l hw, List.all_map, List.all_eq_true]
  rw [List.all_eq_true] at h
  intro z hz
  have hg := h z hz
  unfold whole at hw
  rw [List.all_eq_true] at hw
  show goodZ pathOk (ntZ z) = true
  by_cases h3 : z.length = 3
  · obtain ⟨_, _, _, ⟨c, _, e⟩, _⟩ := ntZ_one z (zs_ok l z hz) (by simpa using hw z hz)
    rw [e h3]
    unfold encB goodZ
    split
    · rename_i hu; simp [unr_path hu]
    · simp
  · simpa [ntZ, h3] using hg
theorem unr47 : unr 47 = false := by decide +kernel
theorem hex_no47 (z : List UInt8) (h : trip z = true) (h3 : z.length = 3) : 47 ∉ z := by
  match z, h3 with
  | [a, b, c], _ =>
    simp [trip] at h
    simp
    refine ⟨?_, ?_, ?_⟩
    · intro e; rw [← e] at h; simp at h
    · intro e; rw [← e, hx47] at h; simp at h
    · intro e; rw [← e, hx47] at h; simp at h
theorem ntr_no47 (l : List UInt8) (h : whole l = true) (h47 : 47 ∉ l) : 47 ∉ ntr l := by
  rw [ntr_zs]
  intro hm
  obtain ⟨z, hz, hm⟩ := List.mem_flatMap.1 hm
  have hzl : ∀ u ∈ z, u ∈ l := by
    intro u hu
    rw [← zs_flat l]
    exact List.mem_flatten.2 ⟨z, hz, hu⟩
  unfold ntZ at hm
  split at hm
  · rcases enc_mem _ _ hm with e | e
    · exact absurd e (by decide)
    · rw [unr47] at e; cases e
  · exact h47 (hzl _ hm)

/-- Segments of a path, of its normal triples. -/
theorem path_head {l : List UInt8} (h : isPath l = true) : l.head? = some 47 := by
  unfold isPath at h; rw [Bool.and_eq_true] at h; simpa using h.1
theorem path_ok {l : List UInt8} (h : isPath l = true) : allOk pathOk l = true := by
  unfold isPath at h; rw [Bool.and_eq_true] at h; exact h.2
theorem path_whole {l : List UInt8} (h : isPath l = true) : whole l = true := whole_of pathOk path37 l (path_ok h)
theorem segs_whole {l : List UInt8} (h : isPath l = true) : ∀ z ∈ segs l, whole z = true :=
  whole_segs _ (by rw [join_segs l (path_head h)]; exact path_whole h)
theorem segs_ntr {l : List UInt8} (h : isPath l = true) : segs (ntr l) = (segs l).map ntr := by
  have e : ntr l = joinS ((segs l).map ntr) := by rw [← ntr_join _ (segs_whole h), join_segs l (path_head h)]
  rw [e]
  refine splitB_join _ (by simp [segs_ne]) ?_
  intro z hz
  obtain ⟨u, hu, rfl⟩ := List.mem_map.1 hz
  exact ntr_no47 u (segs_whole h u hu) (segs_no l u hu)
theorem normR_path {l : List UInt8} (h : isPath l = true) : normR l = (joinS (dots ((segs l).map ntr)), 0) := by
  unfold normR undot; rw [if_pos h, segs_ntr h]
theorem allOk_join (k : List (List UInt8)) (h : ∀ z ∈ k, allOk pathOk z = true) : allOk pathOk (joinS k) = true := by
  induction k with
  | nil => unfold allOk; rw [show joinS [] = [] from rfl, zs_nil]; rfl
  | cons z r ih =>
    have e : joinS (z :: r) = [47] ++ (z ++ joinS r) := by simp [joinS]
    have h47 : whole [47] = true := by unfold whole; rw [zs_one 47 [] rfl, zs_nil]; rfl
    have o47 : allOk pathOk [47] = true := by unfold allOk; rw [zs_one 47 [] rfl, zs_nil]; decide +kernel
    rw [e, allOk_append _ _ _ h47, allOk_append _ _ _ (whole_of pathOk path37 z (h z (by simp))), o47, h z (by simp), ih fun u hu => h u (by simp [hu])]
    rfl
theorem allOk_segs (k : List (List UInt8)) (h : allOk pathOk (joinS k) = true) : ∀ z ∈ k, allOk pathOk z = true := by
  have hw := whole_segs k (whole_of pathOk path37 _ h)
  induction k with
  | nil => simp
  | cons z r ih =>
    have e : joinS (z :: r) = [47] ++ (z ++ joinS r) := by simp [joinS]
    have h47 : whole [47] = true := by unfold whole; rw [zs_one 47 [] rfl, zs_nil]; rfl
    rw [e, allOk_append _ _ _ h47, allOk_append _ _ _ (hw z (by simp))] at h
    simp only [Bool.and_eq_true] at h
    intro u hu
    rcases List.mem_cons.1 hu with rfl | hu
    · exact h.2.1
    · exact ih h.2.2 (fun v hv => hw v (by simp [hv])) u hu
theorem isPath_join (k : List (List UInt8)) (h0 : k ≠ []) (h : ∀ z ∈ k, allOk pathOk z = true) : isPath (joinS k) = true := by
  unfold isPath
  rw [allOk_join k h]
  cases k with
  | nil => exact absurd rfl h0
  | cons z r => simp [joinS]

/-- Dots. -/
def plainZ (z : List UInt8) : Prop := z ≠ [46] ∧ z ≠ [46, 46]
theorem stp_plain (a : List (List UInt8) × Bool) (z : List UInt8) (h : plainZ z) : stp a z = (a.1 ++ [z], false) := by unfold stp; rw [if_neg h.1, if_neg h.2]
theorem fold_plain (k : List (List UInt8)) (h : ∀ z ∈ k, plainZ z) (a : List (List UInt8) × Bool) : k.foldl stp a = (a.1 ++ k, if k = [] then a.2 else false) := by
  induction k generalizing a with
  | nil => simp
  | cons z r ih =>
    rw [List.foldl_cons, stp_plain a z (h z (by simp)), ih fun u hu => h u (by simp [hu])]
    simp
theorem keep_plain (k : List (List UInt8)) : ∀ z ∈ (keep k).1, plainZ z ∧ z ∈ k := by
  unfold keep
  suffices ∀ (a : List (List UInt8) × Bool) (P : List UInt8 → Prop), (∀ z ∈ a.1, plainZ z ∧ P z) → (∀ z ∈ k, P z) → ∀ z ∈ (k.foldl stp a).1, plainZ z ∧ P z from this ([], false) (fun z => z ∈ k) (by simp) (fun _ h => h)
  induction k with
  | nil => intro a P h _; exact h
  | cons z r ih =>
    intro a P h hk
    rw [List.foldl_cons]
    refine ih _ P ?_ fun u hu => hk u (by simp [hu])
    intro u hu
    unfold stp at hu
    by_cases h1 : z = [46]
    · rw [if_pos h1] at hu; exact h u hu
    · rw [if_neg h1] at hu
      by_cases h2 : z = [46, 46]
      · rw [if_pos h2] at hu; exact h u (List.dropLast_subset _ hu)
      · rw [if_neg h2] at hu
        rcases List.mem_append.1 hu with hu | hu
        · exact h u hu
        · simp at hu; subst hu; exact ⟨⟨h1, h2⟩, hk _ (by simp)⟩
theorem dots_plain (k : List (List UInt8)) : ∀ z ∈ dots k, plainZ z ∧ (z ∈ k ∨ z = []) := by
  intro z hz
  unfold dots fin at hz
  split at hz
  · rcases List.mem_append.1 hz with h | h
    · exact ⟨(keep_plain k z h).1, .inl (keep_plain k z h).2⟩
    · simp at h; subst h; exact ⟨⟨by simp, by simp⟩, .inr rfl⟩
  · exact ⟨(keep_plain k z hz).1, .inl (keep_plain k z hz).2⟩
theorem keep_last (k : List (List UInt8)) (h : k ≠ []) : (keep k).2 = true ∨ (keep k).1 ≠ [] := by
  unfold keep
  obtain ⟨r, z, rfl⟩ : ∃ r z, k = r ++ [z] := ⟨_, _, (List.dropLast_concat_getLast h).symm⟩
  rw [List.foldl_append]
  generalize r.foldl stp ([], false) = a
  simp only [List.foldl_cons, List.foldl_nil]
  unfold stp
  split
  · exact .inl rfl
  · split
    · exact .inl rfl
    · exact .inr (by simp)
theorem dots_ne (k : List (List UInt8)) (h : k ≠ []) : dots k ≠ [] := by
  unfold dots fin
  split
  · simp
  · rename_i h2
    rcases keep_last k h with h1 | h1
    · exact absurd h1 h2
    · exact h1
theorem dots_id (k : List (List UInt8)) (h : ∀ z ∈ k, plainZ z) : dots k = k := by
  unfold dots fin keep
  rw [fold_plain k h]
  simp

end Tg
end Go.Proofs.YticncpjpkgdnlaaGreatDoor
