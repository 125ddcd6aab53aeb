/-
  Plain: pairs printed as a query, and read back.
-/
import Derived.Test.YtkpdaialfcegfaaDoorMgZ
import Derived.Test.YtkpdaialfcegfaaDoorMgC1
set_option linter.unusedVariables false
set_option linter.unusedSimpArgs false
namespace Go.Proofs.YtkpdaialfcegfaaDoor
namespace Tg
open Oc

/-- A pair that may be printed; its text; the text of all. -/
def okQ (p : List UInt8 × List UInt8 × Bool) : Bool := p.2.2 || (decide (p.2.1 = []) && decide (p.1 ≠ []))
def txQ (p : List UInt8 × List UInt8 × Bool) : List UInt8 := if p.2.2 then enc p.1 ++ 61 :: enc p.2.1 else enc p.1
def joinQ : List (List UInt8 × List UInt8 × Bool) → List UInt8
  | [] => []
  | p :: r => txQ p ++ r.flatMap fun q => 38 :: txQ q
def prqR (t : List (List UInt8 × List UInt8 × Bool)) : List UInt8 × Int := if t.all okQ then (joinQ t, 0) else ([], 54)
def szQ (p : List UInt8 × List UInt8 × Bool) : Nat := p.1.length + p.2.1.length
def sumQ (t : List (List UInt8 × List UInt8 × Bool)) : Nat := (t.map szQ).sum

theorem joinQ_snoc (t : List (List UInt8 × List UInt8 × Bool)) (p : List UInt8 × List UInt8 × Bool) : joinQ (t ++ [p]) = if t = [] then txQ p else joinQ t ++ 38 :: txQ p := by
  cases t with
  | nil => simp [joinQ]
  | cons x r => simp [joinQ]
theorem txQ_len (p : List UInt8 × List UInt8 × Bool) : (txQ p).length ≤ 3 * szQ p + 1 := by
  unfold txQ szQ
  have h1 := enc_len p.1
  have h2 := enc_len p.2.1
  split
  · rw [List.length_append, List.length_cons]; omega
  · omega
theorem joinQ_len (t : List (List UInt8 × List UInt8 × Bool)) : (joinQ t).length ≤ 3 * sumQ t + 2 * t.length := by
  have H : ∀ r : List (List UInt8 × List UInt8 × Bool), (r.flatMap fun q => 38 :: txQ q).length ≤ 3 * sumQ r + 2 * r.length := by
    intro r
    induction r with
    | nil => simp
    | cons q r ih =>
      rw [List.flatMap_cons, List.length_append, List.length_cons, List.length_cons]
      have := txQ_len q
      have e : sumQ (q :: r) = szQ q + sumQ r := by simp [sumQ]
      omega
  cases t with
  | nil => simp [joinQ]
  | cons p r =>
    have := H r
    have h1 := txQ_len p
    have e : sumQ (p :: r) = szQ p + sumQ r := by simp [sumQ]
    unfold joinQ
    rw [List.length_append, List.length_cons]
    omega
theorem sumQ_take (t : List (List UInt8 × List UInt8 × Bool)) (k : Nat) : sumQ (t.take k) ≤ sumQ t := by
  unfold sumQ
  conv => rhs; rw [← List.take_append_drop k t]
  rw [List.map_append, List.sum_append]
  omega
theorem szQ_le (t : List (List UInt8 × List UInt8 × Bool)) (k : Nat) (h : k < t.length) : szQ (t.getD k ([], [], false)) ≤ sumQ t := by
  have h1 : sumQ (t.take (k + 1)) = sumQ (t.take k) + szQ (t.getD k ([], [], false)) := by
    unfold sumQ
    rw [List.take_succ_eq_append_getElem h, List.map_append, List.sum_append, List.getD_eq_getElem?_getD, List.getElem?_eq_getElem h]
    simp
  have h2 := sumQ_take t (k + 1)
  omega
theorem take_snocQ (t : List (List UInt8 × List UInt8 × Bool)) (k : Nat) (h : k < t.length) : t.take (k + 1) = t.take k ++ [t.getD k ([], [], false)] := by
  rw [List.take_succ_eq_append_getElem h, List.getD_eq_getElem?_getD, List.getElem?_eq_getElem h]
  rfl
theorem prq_bad (t : List (List UInt8 × List UInt8 × Bool)) (k : Nat) (h : k < t.length) (hb : okQ (t.getD k ([], [], false)) = false) : prqR t = ([], 54) := by
  unfold prqR
  rw [if_neg]
  intro ha
  rw [List.all_eq_true] at ha
  have := ha (t.getD k ([], [], false)) (by rw [List.getD_eq_getElem?_getD, List.getElem?_eq_getElem h]; exact List.getElem_mem _)
  rw [hb] at this
  cases this
theorem prq_good (t : List (List UInt8 × List UInt8 × Bool)) (h : (t.take t.length).all okQ = true) : prqR t = (joinQ t, 0) := by
  rw [List.take_length] at h
  unfold prqR
  rw [if_pos h]
theorem all_snocQ (t : List (List UInt8 × List UInt8 × Bool)) (k : Nat) (h : k < t.length) (ha : (t.take k).all okQ = true) (hb : okQ (t.getD k ([], [], false)) = true) : (t.take (k + 1)).all okQ = true := by
  rw [take_snocQ t k h, List.all_append, ha, List.all_cons, hb]
  rfl

theorem unr38 : unr 38 = false := by decide +kernel
theorem unr61 : unr 61 = false := by decide +kernel
theorem unr43 : unr 43 = false := by decide +kernel
theorem enc_no (b : UInt8) (hb : unr b = false) (h37 : b ≠ 37) (l : List UInt8) : b ∉ enc l := by
  intro h
  rcases enc_mem l b h with e | e
  · exact h37 e
  · rw [hb] at e; cases e
theorem tx_no38 (p : List UInt8 × List UInt8 × Bool) : 38 ∉ txQ p := by
  unfold txQ
  have h1 := enc_no 38 unr38 (by decide) p.1
  have h2 := enc_no 38 unr38 (by decide) p.2.1
  split
  · intro h
    rcases List.mem_append.1 h with h | h
    · exact h1 h
    · rcases List.mem_cons.1 h with h | h
      · exact absurd h (by decide)
      · exact h2 h
  · exact h1
theorem enc_nil (l : List UInt8) : enc l = [] ↔ l = [] := by
  constructor
  · intro h
    have := dec_enc l
    rw [h] at this
    have e := dec_enc []
    rw [show enc [] = [] from rfl, this] at e
    injection e
  · rintro rfl; rfl
theorem tx_ne (p : List UInt8 × List UInt8 × Bool) (h : okQ p = true) : txQ p ≠ [] := by
  unfold okQ at h
  unfold txQ
  split
  · simp
  · rename_i hb
    have hb : p.2.2 = false := by simpa using hb
    rw [hb] at h
    simp at h
    exact fun e => h.2 ((enc_nil _).1 e)
theorem spd_enc (l : List UInt8) : spd (enc l) = l := by
  unfold spd
  rw [sp_none 43 (enc l) (by
    unfold has
    rw [List.contains_eq_any_beq, List.any_eq_false]
    intro c hc e
    have e : 43 = c := by simpa using e
    subst e
    exact enc_no 43 unr43 (by decide) l hc), dec_enc]
theorem has_cut (b : UInt8) (A B : List UInt8) (h : b ∉ A) : cutA b (A ++ b :: B) = A ∧ cutB b (A ++ b :: B) = B ∧ has b (A ++ b :: B) = true := by
  unfold cutA cutB has
  have h' : ∀ c ∈ A, (c != b) = true := fun c hc => by simpa using (fun e => h (e ▸ hc) : c ≠ b)
  refine ⟨?_, ?_, by simp⟩
  · rw [List.takeWhile_append_of_pos h']; simp
  · rw [List.dropWhile_append_of_pos h']; simp
theorem pair_tx (p : List UInt8 × List UInt8 × Bool) (h : okQ p = true) : pairR (txQ p) = p := by
  obtain ⟨n, v, b⟩ := p
  unfold pairR txQ
  have h61 := enc_no 61 unr61 (by decide) n
  cases b with
  | true =>
    have hc := has_cut 61 (enc n) (enc v) h61
    dsimp only
    rw [if_pos rfl, hc.1, hc.2.1, hc.2.2, spd_enc, spd_enc]
  | false =>
    unfold okQ at h
    simp at h
    have hn : has 61 (enc n) = false := by
      unfold has
      rw [List.contains_eq_any_beq, List.any_eq_false]
      intro c hc e
      have e : 61 = c := by simpa using e
      subst e
      exact h61 hc
    dsimp only
    rw [if_neg (by decide), cutA_all 61 _ hn, cutB_none 61 _ hn, hn, spd_enc, h.1]
    have e : spd [] = [] := spd_enc []
    rw [e]
theorem split_join (r : List (List UInt8 × List UInt8 × Bool)) : ∀ p : List UInt8 × List UInt8 × Bool, splitB 38 (joinQ (p :: r)) = (p :: r).map txQ := by
  induction r with
  | nil => intro p; show splitB 38 (txQ p ++ []) = _; rw [List.append_nil, splitB_none 38 _ (tx_no38 p)]; rfl
  | cons q r ih =>
    intro p
    have e : joinQ (p :: q :: r) = txQ p ++ 38 :: joinQ (q :: r) := by
      show txQ p ++ ((38 :: txQ q) ++ r.flatMap fun q => 38 :: txQ q) = _
      rfl
    rw [e, splitB_app 38 _ _ (tx_no38 p), ih q]
    rfl
theorem pairs_back (t : List (List UInt8 × List UInt8 × Bool)) (h : t.all okQ = true) : pairsR (joinQ t) = t := by
  unfold pairsR
  cases t with
  | nil => rfl
  | cons p r =>
    rw [split_join]
    rw [List.all_eq_true] at h
    rw [List.filter_eq_self.2 (fun z hz => by
      obtain ⟨x, hx, rfl⟩ := List.mem_map.1 hz
      exact decide_eq_true (tx_ne x (h x hx))), List.map_map]
    exact (List.map_congr_left fun x hx => pair_tx x (h x hx)).trans (List.map_id _)
theorem allOk_cons (ok : UInt8 → Bool) (c : UInt8) (t : List UInt8) (hc : c ≠ 37) (h : ok c = true) (ht : allOk ok t = true) : allOk ok (c :: t) = true := by
  unfold allOk at ht ⊢
  rw [zs_one c t (trip_ne hc t), List.all_cons, ht]
  simp [goodZ, h]
theorem unr_query {c : UInt8} (h : unr c = true) : queryOk c = true := by simp [queryOk, h]
theorem tx_ok (p : List UInt8 × List UInt8 × Bool) : allOk queryOk (txQ p) = true := by
  unfold txQ
  split
  · rw [allOk_append _ _ _ (enc_whole _), enc_ok _ (fun c h => unr_query h), allOk_cons queryOk 61 _ (by decide) (by decide +kernel) (enc_ok _ (fun c h => unr_query h) _)]
    rfl
  · exact enc_ok _ (fun c h => unr_query h) _
theorem query37 : queryOk 37 = false := by decide +kernel
theorem join_ok (t : List (List UInt8 × List UInt8 × Bool)) : allOk queryOk (joinQ t) = true := by
  have H : ∀ r : List (List UInt8 × List UInt8 × Bool), allOk queryOk (r.flatMap fun q => 38 :: txQ q) = true := by
    intro r
    induction r with
    | nil => exact allOk_nil _
    | cons q r ih =>
      rw [List.flatMap_cons]
      have h1 : allOk queryOk (38 :: txQ q) = true := allOk_cons queryOk 38 _ (by decide) (by decide +kernel) (tx_ok q)
      rw [allOk_append _ _ _ (whole_of queryOk query37 _ h1), h1, ih]
      rfl
  cases t with
  | nil => exact allOk_nil _
  | cons p r =>
    show allOk queryOk (txQ p ++ _) = true
    rw [allOk_append _ _ _ (whole_of queryOk query37 _ (tx_ok p)), tx_ok p, H r]
    rfl

end Tg
end Go.Proofs.YtkpdaialfcegfaaDoor
