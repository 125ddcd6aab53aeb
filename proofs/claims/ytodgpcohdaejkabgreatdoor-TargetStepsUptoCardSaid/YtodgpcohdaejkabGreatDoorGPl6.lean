/-
  Plain: dots put into normal forms, a step down and up again.
-/
import Derived.Test.YtodgpcohdaejkabGreatDoorGPl5
set_option linter.unusedVariables false
set_option linter.unusedSimpArgs false
namespace Go.Proofs.YtodgpcohdaejkabGreatDoor
namespace Tg

/-- The segments of a normal form: in normal triples, allowed, no slash, no dots. -/
structure NF (k : List (List UInt8)) : Prop where
  ne : k ≠ []
  no : ∀ z ∈ k, 47 ∉ z
  ok : ∀ z ∈ k, allOk pathOk z = true
  nt : ∀ z ∈ k, ntr z = z
  pl : ∀ z ∈ k, plainZ z
theorem nf_of {l : List UInt8} (h : isPath l = true) : NF (dots ((segs l).map ntr)) := by
  have hw := segs_whole h
  have hok : ∀ z ∈ segs l, allOk pathOk z = true := allOk_segs _ (by rw [join_segs l (path_head h)]; exact path_ok h)
  have hno := segs_no l
  have key : ∀ z ∈ dots ((segs l).map ntr), (∃ u ∈ segs l, z = ntr u) ∨ z = [] := by
    intro z hz
    rcases (dots_plain _ z hz).2 with h | h
    · obtain ⟨u, hu, rfl⟩ := List.mem_map.1 h
      exact .inl ⟨u, hu, rfl⟩
    · exact .inr h
  refine ⟨dots_ne _ (by simp [segs_ne]), ?_, ?_, ?_, fun z hz => (dots_plain _ z hz).1⟩
  · intro z hz
    rcases key z hz with ⟨u, hu, rfl⟩ | rfl
    · exact ntr_no47 u (hw u hu) (hno u hu)
    · simp
  · intro z hz
    rcases key z hz with ⟨u, hu, rfl⟩ | rfl
    · exact ok_ntr u (hok u hu)
    · exact allOk_nil _
  · intro z hz
    rcases key z hz with ⟨u, hu, rfl⟩ | rfl
    · exact ntr_idem u (hw u hu)
    · exact ntr_nil
/-- Normal of segments put together. -/
theorem norm_join (k : List (List UInt8)) (h0 : k ≠ []) (hno : ∀ z ∈ k, 47 ∉ z) (hok : ∀ z ∈ k, allOk pathOk z = true) (hnt : ∀ z ∈ k, ntr z = z) : normR (joinS k) = (joinS (dots k), 0) := by
  have hp := isPath_join k h0 hok
  rw [normR_path hp, splitB_join k h0 hno]
  congr 3
  conv => rhs; rw [← List.map_id k]
  exact List.map_congr_left fun z hz => hnt z hz
theorem NF.norm {k : List (List UInt8)} (h : NF k) : normR (joinS k) = (joinS k, 0) := by rw [norm_join k h.ne h.no h.ok h.nt, dots_id k h.pl]
/-- Its segments, decoded: no dots. -/
theorem valZ_46 {z : List UInt8} (hok : (z.length = 3 ∧ trip z = true) ∨ (z.length = 1 ∧ trip z = false)) (hn : ntZ z = z) (c : UInt8) (hu : unr c = true) (h : valZ z = [c]) : z = [c] := by
  rcases hok with ⟨h3, ht⟩ | ⟨h1, _⟩
  · match z, h3 with
    | [a, b, d], _ =>
      simp [valZ] at h
      have : ntZ [a, b, d] = encB (byteOf b d) := by simp [ntZ, valZ, enc]
      rw [this, h] at hn
      unfold encB at hn
      rw [if_pos hu] at hn
      simp at hn
  · match z, h1 with
    | [a], _ => exact h
theorem ntr_zs_id {l : List UInt8} (h : whole l = true) (hn : ntr l = l) : ∀ z ∈ zs l, ntZ z = z := by
  have e : zs l = (zs l).map ntZ := by
    have := zs_ntr l h
    rwa [hn] at this
  intro z hz
  obtain ⟨i, hi, rfl⟩ := List.mem_iff_getElem.1 hz
  have h1 : (zs l)[i]? = ((zs l).map ntZ)[i]? := congrArg (fun t => t[i]?) e
  rw [List.getElem?_map, List.getElem?_eq_getElem hi] at h1
  simp at h1
  exact h1.symm
theorem valZ_one (z : List UInt8) (h : (z.length = 3 ∧ trip z = true) ∨ (z.length = 1 ∧ trip z = false)) : ∃ c, valZ z = [c] := by
  rcases h with ⟨h3, _⟩ | ⟨h1, _⟩
  · match z, h3 with
    | [a, b, c], _ => exact ⟨_, rfl⟩
  · match z, h1 with
    | [a], _ => exact ⟨a, rfl⟩
theorem dec_unr (l r : List UInt8) (hw : whole l = true) (hn : ntr l = l) (hr : ∀ c ∈ r, unr c = true) (h : (decR l).1 = r) : l = r := by
  rw [decR_whole l hw] at h
  have hz := ntr_zs_id hw hn
  have hok := zs_ok l
  have hf := zs_flat l
  dsimp only at h
  have gen : ∀ (k : List (List UInt8)) (r : List UInt8), (∀ z ∈ k, ntZ z = z) → (∀ z ∈ k, (z.length = 3 ∧ trip z = true) ∨ (z.length = 1 ∧ trip z = false)) → (∀ c ∈ r, unr c = true) → k.flatMap valZ = r → k.flatten = r := by
    intro k
    induction k with
    | nil => intro r _ _ _ h; exact h
    | cons z k ih =>
      intro r h1 h2 h3 h4
      obtain ⟨c, hc⟩ := valZ_one z (h2 z (by simp))
      rw [List.flatMap_cons, hc] at h4
      cases r with
      | nil => simp at h4
      | cons d r =>
        simp at h4
        obtain ⟨rfl, h4⟩ := h4
        rw [List.flatten_cons, valZ_46 (h2 z (by simp)) (h1 z (by simp)) c (h3 c (by simp)) hc, ih r (fun u hu => h1 u (by simp [hu])) (fun u hu => h2 u (by simp [hu])) (fun u hu => h3 u (by simp [hu])) h4]
        rfl
  rw [← hf]
  exact gen _ r hz hok hr h
theorem unr46 : unr 46 = true := by decide +kernel
theorem NF.dots {k : List (List UInt8)} (h : NF k) : ∀ z ∈ k, (decR z).1 ≠ [46] ∧ (decR z).1 ≠ [46, 46] := by
  intro z hz
  have hw := whole_of pathOk path37 z (h.ok z hz)
  refine ⟨fun e => (h.pl z hz).1 (dec_unr z [46] hw (h.nt z hz) (by simp [unr46]) e), fun e => (h.pl z hz).2 (dec_unr z [46, 46] hw (h.nt z hz) (by simp [unr46]) e)⟩
theorem NF.segR {k : List (List UInt8)} (h : NF k) : segR (joinS k) = (k.map fun z => (decR z).1, 0) := by
  unfold Tg.segR
  rw [if_pos (isPath_join k h.ne h.ok), splitB_join k h.ne h.no]

/-- A place in a path at which a slash stands. -/
theorem at_slash (k : List (List UInt8)) (hno : ∀ z ∈ k, 47 ∉ z) (i : Nat) (hi : (joinS k)[i]? = some 47) : ∃ a b, k = a ++ b ∧ b ≠ [] ∧ (joinS k).take i = joinS a ∧ (joinS k).drop i = joinS b := by
  induction k generalizing i with
  | nil => simp [joinS] at hi
  | cons z r ih =>
    have e : joinS (z :: r) = 47 :: (z ++ joinS r) := by simp [joinS]
    rw [e] at hi ⊢
    cases i with
    | zero => exact ⟨[], z :: r, rfl, by simp, rfl, by simp [e]⟩
    | succ i =>
      simp only [List.getElem?_cons_succ] at hi
      by_cases hl : i < z.length
      · rw [List.getElem?_append_left hl, List.getElem?_eq_getElem hl] at hi
        exact absurd (by injection hi with hi; rw [← hi]; exact List.getElem_mem _) (hno z (by simp))
      · rw [List.getElem?_append_right (by omega)] at hi
        obtain ⟨a, b, h1, h2, h3, h4⟩ := ih (fun u hu => hno u (by simp [hu])) (i - z.length) hi
        refine ⟨z :: a, b, by rw [h1]; rfl, h2, ?_, ?_⟩
        · rw [List.take_succ_cons, List.take_append, List.take_of_length_le (by omega), h3]
          simp [joinS]
        · rw [List.drop_succ_cons, List.drop_append, List.drop_of_length_le (by omega), h4]
          simp
theorem keep_of_plain (a : List (List UInt8)) (h : ∀ z ∈ a, plainZ z) : keep a = (a, false) := by
  unfold keep; rw [fold_plain a h]; cases a <;> simp
theorem dots_mid (a b : List (List UInt8)) (ha : ∀ z ∈ a, plainZ z) (hb : ∀ z ∈ b, plainZ z) (hne : b ≠ []) (m : List (List UInt8)) (hm : (m.foldl stp (a, false)).1 = a) : dots (a ++ m ++ b) = a ++ b := by
  unfold dots fin
  have e : keep (a ++ m ++ b) = (a ++ b, false) := by
    have h1 := keep_of_plain a ha
    unfold keep at h1 ⊢
    rw [List.foldl_append, List.foldl_append, h1, fold_plain b hb, hm, if_neg hne]
  rw [e]
  simp
/-- The segments of dots and of an x. -/
theorem seg46 : 47 ∉ ([46] : List UInt8) ∧ allOk pathOk [46] = true ∧ ntr [46] = [46] := by
  have t : trip [46] = false := by decide +kernel
  refine ⟨by decide, ?_, ?_⟩
  · unfold allOk; rw [zs_one _ _ t, zs_nil]; decide +kernel
  · rw [ntr_zs, zs_one _ _ t, zs_nil]; decide +kernel
theorem seg4646 : 47 ∉ ([46, 46] : List UInt8) ∧ allOk pathOk [46, 46] = true ∧ ntr [46, 46] = [46, 46] := by
  have t : trip [46, 46] = false := by decide +kernel
  have t2 : trip [46] = false := by decide +kernel
  refine ⟨by decide, ?_, ?_⟩
  · unfold allOk; rw [zs_one _ _ t, zs_one _ _ t2, zs_nil]; decide +kernel
  · rw [ntr_zs, zs_one _ _ t, zs_one _ _ t2, zs_nil]; decide +kernel
theorem seg120 : 47 ∉ ([120] : List UInt8) ∧ allOk pathOk [120] = true ∧ ntr [120] = [120] ∧ plainZ [120] := by
  have t : trip [120] = false := by decide +kernel
  refine ⟨by decide, ?_, ?_, by constructor <;> decide⟩
  · unfold allOk; rw [zs_one _ _ t, zs_nil]; decide +kernel
  · rw [ntr_zs, zs_one _ _ t, zs_nil]; decide +kernel
theorem NF.mid {a b : List (List UInt8)} (h : NF (a ++ b)) (hb : b ≠ []) (m : List (List UInt8)) (hm : (m.foldl stp (a, false)).1 = a) (hno : ∀ z ∈ m, 47 ∉ z) (hok : ∀ z ∈ m, allOk pathOk z = true) (hnt : ∀ z ∈ m, ntr z = z) :
    normR (joinS a ++ joinS m ++ joinS b) = (joinS (a ++ b), 0) := by
  have g : ∀ {P : List UInt8 → Prop}, (∀ z ∈ a ++ b, P z) → (∀ z ∈ m, P z) → ∀ z ∈ a ++ m ++ b, P z := by
    intro P h1 h2 z hz
    simp only [List.mem_append] at hz
    rcases hz with (hz | hz) | hz
    · exact h1 z (by simp [hz])
    · exact h2 z hz
    · exact h1 z (by simp [hz])
  rw [← join_app, ← join_app, norm_join _ (by simp [hb]) (g h.no hno) (g h.ok hok) (g h.nt hnt), dots_mid a b (fun z hz => h.pl z (by simp [hz])) (fun z hz => h.pl z (by simp [hz])) hb m hm]
theorem NF.dot {a b : List (List UInt8)} (h : NF (a ++ b)) (hb : b ≠ []) : normR (joinS a ++ [47, 46] ++ joinS b) = (joinS (a ++ b), 0) := by
  have := h.mid hb [[46]] (by simp [stp]) (by simp) (by simpa using seg46.2.1) (by simpa using seg46.2.2)
  simpa [joinS] using this
theorem NF.updown {a b : List (List UInt8)} (h : NF (a ++ b)) (hb : b ≠ []) : normR (joinS a ++ [47, 120, 47, 46, 46] ++ joinS b) = (joinS (a ++ b), 0) := by
  have hx : stp (a, false) [120] = (a ++ [[120]], false) := stp_plain _ _ seg120.2.2.2
  have := h.mid hb [[120], [46, 46]] (by simp [hx]; simp [stp]) (by simp) (by intro z hz; simp at hz; rcases hz with rfl | rfl; exact seg120.2.1; exact seg4646.2.1) (by intro z hz; simp at hz; rcases hz with rfl | rfl; exact seg120.2.2.1; exact seg4646.2.2)
  simpa [joinS] using this

end Tg
end Go.Proofs.YtodgpcohdaejkabGreatDoor
