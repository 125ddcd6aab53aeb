/-
  Plain: a segment down and up again.
-/
import Derived.Test.YtodgpcohdaejkabGreatDoorGPl6
set_option linter.unusedVariables false
set_option linter.unusedSimpArgs false
namespace Go.Proofs.YtodgpcohdaejkabGreatDoor
namespace Tg

/-- A name of unreserved signs. -/
theorem enc_self (l : List UInt8) (h : enc l = l) : ∀ c ∈ l, unr c = true := by
  induction l with
  | nil => simp
  | cons c t ih =>
    have e : enc (c :: t) = encB c ++ enc t := rfl
    rw [e] at h
    have hl : t.length ≤ (enc t).length := by
      clear h ih e
      induction t with
      | nil => exact Nat.le_refl _
      | cons d t ih =>
        show _ ≤ (encB d ++ enc t).length
        rw [List.length_append, List.length_cons]
        have : 1 ≤ (encB d).length := by unfold encB; split <;> simp
        omega
    have hlen := congrArg List.length h
    rw [List.length_append, List.length_cons] at hlen
    have hu : unr c = true := by
      cases hc : unr c with
      | true => rfl
      | false =>
        unfold encB at hlen
        rw [if_neg (by simp [hc])] at hlen
        simp at hlen
        omega
    have eb : encB c = [c] := by unfold encB; rw [if_pos hu]
    rw [eb] at h
    have ht : enc t = t := by simpa using h
    intro d hd
    rcases List.mem_cons.1 hd with rfl | hd
    · exact hu
    · exact ih ht d hd
theorem unr_facts (l : List UInt8) (h : ∀ c ∈ l, unr c = true) : 47 ∉ l ∧ allOk pathOk l = true ∧ ntr l = l := by
  refine ⟨(fun hm => by have h' := h _ hm; rw [unr47] at h'; exact absurd h' (by simp)), ?_, ?_⟩
  · induction l with
    | nil => exact allOk_nil _
    | cons c t ih =>
      have hc : c ≠ 37 := fun e => by have := h c (by simp); rw [e, unr37] at this; cases this
      unfold allOk
      rw [zs_one c t (trip_ne hc t), List.all_cons]
      have := ih fun d hd => h d (by simp [hd])
      unfold allOk at this
      rw [this]
      simp [goodZ, unr_path (h c (by simp))]
  · induction l with
    | nil => exact ntr_nil
    | cons c t ih =>
      have hc : c ≠ 37 := fun e => by have := h c (by simp); rw [e, unr37] at this; cases this
      rw [ntr_cons hc, ih fun d hd => h d (by simp [hd])]
theorem NF.last {k : List (List UInt8)} (h : NF k) : ∃ a z, k = a ++ [z] ∧ dirL (joinS k) = joinS a ++ [47] ∧ isPath (joinS k) = true := by
  obtain ⟨a, z, rfl⟩ : ∃ a z, k = a ++ [z] := ⟨_, _, (List.dropLast_concat_getLast h.ne).symm⟩
  refine ⟨a, z, rfl, ?_, isPath_join _ h.ne h.ok⟩
  have e : joinS (a ++ [z]) = joinS a ++ 47 :: z := by rw [join_app]; simp [joinS]
  rw [e]
  exact dirL_eq _ _ (h.no z (by simp))
theorem steps_facts {k : List (List UInt8)} (h : NF k) (name : List UInt8) (hu : ∀ c ∈ name, unr c = true) (h0 : name ≠ []) (h1 : name ≠ [46]) (h2 : name ≠ [46, 46]) :
    ∃ d, resR (joinS k) [46] = (d, 0) ∧ resR (joinS k) (name ++ [47, 46, 46]) = (d, 0) ∧ resR (joinS k) name = (d ++ name, 0) := by
  obtain ⟨a, z, rfl, hd, hp⟩ := h.last
  obtain ⟨n1, n2, n3⟩ := unr_facts name hu
  have hn47 : name.head? ≠ some 47 := by
    cases name with
    | nil => exact absurd rfl h0
    | cons c t =>
      intro e
      simp at e
      subst e
      exact n1 (by simp)
  have g : ∀ {P : List UInt8 → Prop} (m : List (List UInt8)), (∀ z' ∈ a ++ [z], P z') → (∀ z' ∈ m, P z') → ∀ z' ∈ a ++ m, P z' := by
    intro P m q1 q2 u hu
    rcases List.mem_append.1 hu with hu | hu
    · exact q1 u (by simp [hu])
    · exact q2 u hu
  have ha : ∀ u ∈ a, plainZ u := fun u hu => h.pl u (by simp [hu])
  have norm : ∀ m : List (List UInt8), m ≠ [] → (∀ u ∈ m, 47 ∉ u) → (∀ u ∈ m, allOk pathOk u = true) → (∀ u ∈ m, ntr u = u) → normR (joinS (a ++ m)) = (joinS (dots (a ++ m)), 0) := fun m m0 m1 m2 m3 =>
    norm_join (a ++ m) (by simp [m0]) (g m h.no m1) (g m h.ok m2) (g m h.nt m3)
  have ka := keep_of_plain a ha
  refine ⟨joinS (a ++ [[]]), ?_, ?_, ?_⟩
  · unfold resR
    rw [if_pos hp, if_neg (by simp), if_neg (by decide), hd]
    have e : joinS a ++ [47] ++ [46] = joinS (a ++ [[46]]) := by rw [join_app]; simp [joinS]
    rw [e, norm [[46]] (by simp) (by simp) (by simpa using seg46.2.1) (by simpa using seg46.2.2)]
    congr 2
    unfold dots fin keep
    unfold keep at ka
    rw [List.foldl_append, ka]
    simp [stp]
  · unfold resR
    rw [if_pos hp, if_neg (by simp), if_neg (by
      cases name with
      | nil => exact absurd rfl h0
      | cons c t => simpa using hn47), hd]
    have e : joinS a ++ [47] ++ (name ++ [47, 46, 46]) = joinS (a ++ [name, [46, 46]]) := by rw [join_app]; simp [joinS]
    rw [e, norm [name, [46, 46]] (by simp) (by intro u hu; simp at hu; rcases hu with rfl | rfl; exact n1; exact seg4646.1) (by intro u hu; simp at hu; rcases hu with rfl | rfl; exact n2; exact seg4646.2.1) (by intro u hu; simp at hu; rcases hu with rfl | rfl; exact n3; exact seg4646.2.2)]
    congr 2
    unfold dots fin keep
    unfold keep at ka
    rw [List.foldl_append, ka]
    simp only [List.foldl_cons, List.foldl_nil]
    rw [stp_plain _ _ ⟨h1, h2⟩]
    simp [stp]
  · unfold resR
    rw [if_pos hp, if_neg h0, if_neg hn47, hd]
    have e : joinS a ++ [47] ++ name = joinS (a ++ [name]) := by rw [join_app]; simp [joinS]
    rw [e, norm [name] (by simp) (by simpa using n1) (by simpa using n2) (by simpa using n3)]
    have : dots (a ++ [name]) = a ++ [name] := dots_id _ (by intro u hu; rcases List.mem_append.1 hu with hu | hu; exact ha u hu; simp at hu; subst hu; exact ⟨h1, h2⟩)
    rw [this, join_app, join_app]
    simp [joinS]

end Tg
end Go.Proofs.YtodgpcohdaejkabGreatDoor
