/- Several texts as one. -/
import Derived.Test.YtndglpjkmgcdpaaGreatDoorMgW
import Derived.Test.YtndglpjkmgcdpaaGreatDoorMgX
import Derived.Test.YtndglpjkmgcdpaaGreatDoorMgV
import Derived.Test.YtndglpjkmgcdpaaGreatDoorMgH
/-
  The document's Pairs, Query.
-/
set_option linter.unusedVariables false
set_option linter.unusedSimpArgs false
namespace Go.Proofs.YtndglpjkmgcdpaaGreatDoor
open Go.RowKit Go.Shelf
namespace Tg
open Oc

theorem split_mem_len (b : UInt8) : ∀ (n : Nat) (l : List UInt8), l.length ≤ n → ∀ z ∈ splitB b l, z.length ≤ l.length := by
  intro n
  induction n with
  | zero =>
    intro l hl z hz
    obtain rfl : l = [] := List.length_eq_zero_iff.1 (by omega)
    have : z = [] := by simpa [splitB] using hz
    rw [this]
    exact Nat.le_refl _
  | succ n ih =>
    intro l hl z hz
    rw [split_cut] at hz
    rcases List.mem_cons.1 hz with rfl | hz
    · exact cutA_len b l
    · cases h : has b l with
      | false => rw [h] at hz; simp at hz
      | true =>
        rw [h, if_pos rfl] at hz
        have e := congrArg List.length (cut_app b l h)
        rw [List.length_append, List.length_cons] at e
        have := ih (cutB b l) (by omega) z hz
        omega
theorem qs_take (t : List (List UInt8)) (k : Nat) (hk : k < t.length) : qs (t.take (k + 1)) = if t.getD k [] = [] then qs (t.take k) else qs (t.take k) ++ [pairR (t.getD k [])] := by
  have e : t.take (k + 1) = t.take k ++ [t.getD k []] := by
    rw [List.take_add_one, List.getElem?_eq_getElem hk, List.getD_eq_getElem?_getD, List.getElem?_eq_getElem hk]
    rfl
  rw [e]
  split
  · next h => rw [qs_none _ _ h]
  · next h => rw [qs_one _ _ h]

/-- A parameter appended to a slice of the call's own. -/
theorem wp_appQ2 {ops : Array Oper} {rest : List Oper} {o : Oper} {a : Act} {Q : Exit → Act → World → Prop} (T S : Nat) (hT : T ≠ 9) (hinfo : (Tryz.prog.info? T).map (fun i => (i.zero, i.size, i.bytes)) = some (some (.agg #[.string ⟨#[]⟩, .string ⟨#[]⟩, .bool false]), 3, 40))
    (hund : Tryz.prog.underlying S = some (.slice T)) (hgd : o.guard = none) (s x : Operand)
    (ho : o.op = .call { callee := .builtin .append, args := #[s, x], argTypes := #[S, S] }) (B : Nat) (v : Value) (t : List Prm) (W : World) (p : Prm) (n1 n2 : ByteArray) (h1 : n1 = str p.1) (h2 : n2 = str p.2.1) (b : Bool) (h3 : b = p.2.2)
    (hs : a.eval s = v) (hown : OwnQ T B v t W) (g : Nat) (hx : a.eval x = .slice (some ⟨g, 0, none⟩) 1 1) (hg : g = W.heap.size) (hlen : t.length + 1 ≤ 2147483648) (hB : B ≤ W.heap.size)
    (h : ∀ v' w', OwnQ T B v' (t ++ [p]) w' → Below B W w' → (∀ B2 lv t2, OwnS B2 lv t2 W → OwnS B2 lv t2 w') → wpList Tryz.prog ops Q rest (a.put o.dst v') w') : wpList Tryz.prog ops Q (o :: rest) a (W.alloc (.cells #[.string n1, .string n2, .bool b] T)) := by
  subst h1 h2 h3 hg
  obtain ⟨i0, hi, hz0, hz1, hz2⟩ := info_parts hinfo
  refine wpList_append_own _ hgd s x S ho B T i0 (.agg #[.string ⟨#[]⟩, .string ⟨#[]⟩, .bool false]) 3 40 hund hi hz0 hz1 hz2 rfl (by decide) v t.length _ hs (World.ownsRow.alloc hown _) ⟨W.heap.size, 0, none⟩ 1 1 (encQ1 p) hx rfl ?_ ?_ ?_ ?_ ?_ ?_
  · intro j u hj
    unfold encQ1 at hj
    match j, hj with
    | 0, hj => simp at hj; subst hj; simp [Addr.add]
    | 1, hj => simp at hj; subst hj; simp [Addr.add]
    | 2, hj => simp at hj; subst hj; simp [Addr.add]
  · intro u hu
    unfold encQ1 at hu
    simp at hu
    rcases hu with rfl | rfl | rfl <;> rfl
  · unfold maxLen; omega
  · omega
  · simp; omega
  · intro v' w' h1 h2 _
    refine h v' w' ?_ (((Below.refl B W).alloc hB _).grown h2 (by simp; omega) (fun k hk => (World.ownsRow.lt hown k hk).1)) ?_
    · unfold OwnQ
      rw [encQ_snoc, List.length_append]
      exact h1
    · intro B2 lv t2 hu
      have h0 : lv.ownBlock = none ∨ lv.ownBlock ≠ v.ownBlock := by
        rcases hu.2 with ⟨rfl, _⟩ | ⟨g, cap, cur, rfl, _, hg, _⟩
        · exact .inl rfl
        · refine .inr fun e' => ?_
          rcases hown.2 with ⟨rfl, _⟩ | ⟨g', cap', cur', rfl, _, hg', _⟩
          · cases e'
          · obtain rfl : g = g' := by simpa [Value.ownBlock] using e'
            rw [hg] at hg'
            simp at hg'
            exact hT hg'.2.symm
      exact World.ownsRow.kept (World.ownsRow.alloc hu _) h2 h0

end Tg
end Go.Proofs.YtndglpjkmgcdpaaGreatDoor

/-
  Plain: a path up to its last slash; where a reference leads to.
-/
set_option linter.unusedVariables false
set_option linter.unusedSimpArgs false
namespace Go.Proofs.YtndglpjkmgcdpaaGreatDoor
namespace Tg

def dirL (p : List UInt8) : List UInt8 := (p.reverse.dropWhile (· != 47)).reverse
def resR (p r : List UInt8) : List UInt8 × Int := if isPath p then (if r = [] then normR p else if r.head? = some 47 then normR r else normR (dirL p ++ r)) else ([], 53)
theorem dirL_eq (a b : List UInt8) (h : 47 ∉ b) : dirL (a ++ 47 :: b) = a ++ [47] := by
  unfold dirL
  rw [List.reverse_append, List.reverse_cons, List.append_assoc]
  rw [List.dropWhile_append_of_pos (by intro x hx; simp; intro e; exact h (by rw [← e]; simpa using hx))]
  simp
theorem allOk_nil (ok : UInt8 → Bool) : allOk ok [] = true := by unfold allOk; rw [zs_nil]; rfl
theorem path_split (a b : List UInt8) (h : allOk pathOk (a ++ 47 :: b) = true) : allOk pathOk (a ++ [47]) = true ∧ whole (a ++ [47]) = true ∧ allOk pathOk b = true := by
  have hw := whole_of pathOk path37 _ h
  have ha := whole_left a b hw
  have w47 : whole [47] = true := by unfold whole; rw [zs_one 47 [] rfl, zs_nil]; rfl
  have o47 : allOk pathOk [47] = true := by unfold allOk; rw [zs_one 47 [] rfl, zs_nil]; decide +kernel
  have e : a ++ 47 :: b = a ++ ([47] ++ b) := by simp
  rw [e, allOk_append _ _ _ ha, allOk_append _ _ _ w47, Bool.and_eq_true, Bool.and_eq_true] at h
  refine ⟨?_, ?_, h.2.2⟩
  · rw [allOk_append _ _ _ ha, h.1, o47]; rfl
  · rw [whole_append _ _ ha]; exact w47
theorem res_bad (a b r : List UInt8) (h : allOk pathOk (a ++ 47 :: b) = true) (hb : 47 ∉ b) (hr : allOk pathOk r = false) : isPath (dirL (a ++ 47 :: b) ++ r) = false := by
  obtain ⟨h1, h2, _⟩ := path_split a b h
  rw [dirL_eq a b hb]
  unfold isPath
  rw [allOk_append _ _ _ h2, hr, Bool.and_false, Bool.and_false]

end Tg
end Go.Proofs.YtndglpjkmgcdpaaGreatDoor

/-
  Plain: pairs printed as a query, and read back.
-/
set_option linter.unusedVariables false
set_option linter.unusedSimpArgs false
namespace Go.Proofs.YtndglpjkmgcdpaaGreatDoor
namespace Tg
open Oc

/-- A pair that may be printed; its text; the text of all. -/
def okQ (p : List UInt8 × List UInt8 × Bool) : Bool := p.2.2 || (decide (p.2.1 = []) && decide (p.1 ≠ []))
def txQ (p : List UInt8 × List UInt8 × Bool) : List UInt8 := if p.2.2 then enc p.1 ++ 61 :: enc p.2.1 else enc p.1
def joinQ : List (List UInt8 × List UInt8 × Bool) → List UInt8
  | [] => []
  | p :: r => txQ p ++ r.flatMap fun q => 38 :: txQ q
def prqR (t : List (List UInt8 × List UInt8 × Bool)) : List UInt8 × Int := if t.all okQ then (joinQ t, 0) else ([], 54)
def szQ (p : List UInt8 × List UInt8 × Bool) : Nat := p.1.length + p.2.1.length
def sumQ (t : List (List UInt8 × List UInt8 × Bool)) : Nat := (t.map szQ).sum

theorem joinQ_snoc (t : List (List UInt8 × List UInt8 × Bool)) (p : List UInt8 × List UInt8 × Bool) : joinQ (t ++ [p]) = if t = [] then txQ p else joinQ t ++ 38 :: txQ p := by
  cases t with
  | nil => simp [joinQ]
  | cons x r => simp [joinQ]
theorem txQ_len (p : List UInt8 × List UInt8 × Bool) : (txQ p).length ≤ 3 * szQ p + 1 := by
  unfold txQ szQ
  have h1 := enc_len p.1
  have h2 := enc_len p.2.1
  split
  · rw [List.length_append, List.length_cons]; omega
  · omega
theorem joinQ_len (t : List (List UInt8 × List UInt8 × Bool)) : (joinQ t).length ≤ 3 * sumQ t + 2 * t.length := by
  have H : ∀ r : List (List UInt8 × List UInt8 × Bool), (r.flatMap fun q => 38 :: txQ q).length ≤ 3 * sumQ r + 2 * r.length := by
    intro r
    induction r with
    | nil => simp
    | cons q r ih =>
      rw [List.flatMap_cons, List.length_append, List.length_cons, List.length_cons]
      have := txQ_len q
      have e : sumQ (q :: r) = szQ q + sumQ r := by simp [sumQ]
      omega
  cases t with
  | nil => simp [joinQ]
  | cons p r =>
    have := H r
    have h1 := txQ_len p
    have e : sumQ (p :: r) = szQ p + sumQ r := by simp [sumQ]
    unfold joinQ
    rw [List.length_append, List.length_cons]
    omega
theorem sumQ_take (t : List (List UInt8 × List UInt8 × Bool)) (k : Nat) : sumQ (t.take k) ≤ sumQ t := by
  unfold sumQ
  conv => rhs; rw [← List.take_append_drop k t]
  rw [List.map_append, List.sum_append]
  omega
theorem szQ_le (t : List (List UInt8 × List UInt8 × Bool)) (k : Nat) (h : k < t.length) : szQ (t.getD k ([], [], false)) ≤ sumQ t := by
  have h1 : sumQ (t.take (k + 1)) = sumQ (t.take k) + szQ (t.getD k ([], [], false)) := by
    unfold sumQ
    rw [List.take_succ_eq_append_getElem h, List.map_append, List.sum_append, List.getD_eq_getElem?_getD, List.getElem?_eq_getElem h]
    simp
  have h2 := sumQ_take t (k + 1)
  omega
theorem take_snocQ (t : List (List UInt8 × List UInt8 × Bool)) (k : Nat) (h : k < t.length) : t.take (k + 1) = t.take k ++ [t.getD k ([], [], false)] := by
  rw [List.take_succ_eq_append_getElem h, List.getD_eq_getElem?_getD, List.getElem?_eq_getElem h]
  rfl
theorem prq_bad (t : List (List UInt8 × List UInt8 × Bool)) (k : Nat) (h : k < t.length) (hb : okQ (t.getD k ([], [], false)) = false) : prqR t = ([], 54) := by
  unfold prqR
  rw [if_neg]
  intro ha
  rw [List.all_eq_true] at ha
  have := ha (t.getD k ([], [], false)) (by rw [List.getD_eq_getElem?_getD, List.getElem?_eq_getElem h]; exact List.getElem_mem _)
  rw [hb] at this
  cases this
theorem prq_good (t : List (List UInt8 × List UInt8 × Bool)) (h : (t.take t.length).all okQ = true) : prqR t = (joinQ t, 0) := by
  rw [List.take_length] at h
  unfold prqR
  rw [if_pos h]
theorem all_snocQ (t : List (List UInt8 × List UInt8 × Bool)) (k : Nat) (h : k < t.length) (ha : (t.take k).all okQ = true) (hb : okQ (t.getD k ([], [], false)) = true) : (t.take (k + 1)).all okQ = true := by
  rw [take_snocQ t k h, List.all_append, ha, List.all_cons, hb]
  rfl

theorem unr38 : unr 38 = false := by decide +kernel
theorem unr61 : unr 61 = false := by decide +kernel
theorem unr43 : unr 43 = false := by decide +kernel
theorem enc_no (b : UInt8) (hb : unr b = false) (h37 : b ≠ 37) (l : List UInt8) : b ∉ enc l := by
  intro h
  rcases enc_mem l b h with e | e
  · exact h37 e
  · rw [hb] at e; cases e
theorem tx_no38 (p : List UInt8 × List UInt8 × Bool) : 38 ∉ txQ p := by
  unfold txQ
  have h1 := enc_no 38 unr38 (by decide) p.1
  have h2 := enc_no 38 unr38 (by decide) p.2.1
  split
  · intro h
    rcases List.mem_append.1 h with h | h
    · exact h1 h
    · rcases List.mem_cons.1 h with h | h
      · exact absurd h (by decide)
      · exact h2 h
  · exact h1
theorem enc_nil (l : List UInt8) : enc l = [] ↔ l = [] := by
  constructor
  · intro h
    have := dec_enc l
    rw [h] at this
    have e := dec_enc []
    rw [show enc [] = [] from rfl, this] at e
    injection e
  · rintro rfl; rfl
theorem tx_ne (p : List UInt8 × List UInt8 × Bool) (h : okQ p = true) : txQ p ≠ [] := by
  unfold okQ at h
  unfold txQ
  split
  · simp
  · rename_i hb
    have hb : p.2.2 = false := by simpa using hb
    rw [hb] at h
    simp at h
    exact fun e => h.2 ((enc_nil _).1 e)
theorem spd_enc (l : List UInt8) : spd (enc l) = l := by
  unfold spd
  rw [sp_none 43 (enc l) (by
    unfold has
    rw [List.contains_eq_any_beq, List.any_eq_false]
    intro c hc e
    have e : 43 = c := by simpa using e
    subst e
    exact enc_no 43 unr43 (by decide) l hc), dec_enc]
theorem has_cut (b : UInt8) (A B : List UInt8) (h : b ∉ A) : cutA b (A ++ b :: B) = A ∧ cutB b (A ++ b :: B) = B ∧ has b (A ++ b :: B) = true := by
  unfold cutA cutB has
  have h' : ∀ c ∈ A, (c != b) = true := fun c hc => by simpa using (fun e => h (e ▸ hc) : c ≠ b)
  refine ⟨?_, ?_, by simp⟩
  · rw [List.takeWhile_append_of_pos h']; simp
  · rw [List.dropWhile_append_of_pos h']; simp
theorem pair_tx (p : List UInt8 × List UInt8 × Bool) (h : okQ p = true) : pairR (txQ p) = p := by
  obtain ⟨n, v, b⟩ := p
  unfold pairR txQ
  have h61 := enc_no 61 unr61 (by decide) n
  cases b with
  | true =>
    have hc := has_cut 61 (enc n) (enc v) h61
    dsimp only
    rw [if_pos rfl, hc.1, hc.2.1, hc.2.2, spd_enc, spd_enc]
  | false =>
    unfold okQ at h
    simp at h
    have hn : has 61 (enc n) = false := by
      unfold has
      rw [List.contains_eq_any_beq, List.any_eq_false]
      intro c hc e
      have e : 61 = c := by simpa using e
      subst e
      exact h61 hc
    dsimp only
    rw [if_neg (by decide), cutA_all 61 _ hn, cutB_none 61 _ hn, hn, spd_enc, h.1]
    have e : spd [] = [] := spd_enc []
    rw [e]
theorem split_join (r : List (List UInt8 × List UInt8 × Bool)) : ∀ p : List UInt8 × List UInt8 × Bool, splitB 38 (joinQ (p :: r)) = (p :: r).map txQ := by
  induction r with
  | nil => intro p; show splitB 38 (txQ p ++ []) = _; rw [List.append_nil, splitB_none 38 _ (tx_no38 p)]; rfl
  | cons q r ih =>
    intro p
    have e : joinQ (p :: q :: r) = txQ p ++ 38 :: joinQ (q :: r) := by
      show txQ p ++ ((38 :: txQ q) ++ r.flatMap fun q => 38 :: txQ q) = _
      rfl
    rw [e, splitB_app 38 _ _ (tx_no38 p), ih q]
    rfl
theorem pairs_back (t : List (List UInt8 × List UInt8 × Bool)) (h : t.all okQ = true) : pairsR (joinQ t) = t := by
  unfold pairsR
  cases t with
  | nil => rfl
  | cons p r =>
    rw [split_join]
    rw [List.all_eq_true] at h
    rw [List.filter_eq_self.2 (fun z hz => by
      obtain ⟨x, hx, rfl⟩ := List.mem_map.1 hz
      exact decide_eq_true (tx_ne x (h x hx))), List.map_map]
    exact (List.map_congr_left fun x hx => pair_tx x (h x hx)).trans (List.map_id _)
theorem allOk_cons (ok : UInt8 → Bool) (c : UInt8) (t : List UInt8) (hc : c ≠ 37) (h : ok c = true) (ht : allOk ok t = true) : allOk ok (c :: t) = true := by
  unfold allOk at ht ⊢
  rw [zs_one c t (trip_ne hc t), List.all_cons, ht]
  simp [goodZ, h]
theorem unr_query {c : UInt8} (h : unr c = true) : queryOk c = true := by simp [queryOk, h]
theorem tx_ok (p : List UInt8 × List UInt8 × Bool) : allOk queryOk (txQ p) = true := by
  unfold txQ
  split
  · rw [allOk_append _ _ _ (enc_whole _), enc_ok _ (fun c h => unr_query h), allOk_cons queryOk 61 _ (by decide) (by decide +kernel) (enc_ok _ (fun c h => unr_query h) _)]
    rfl
  · exact enc_ok _ (fun c h => unr_query h) _
theorem query37q : queryOk 37 = false := by decide +kernel
theorem join_ok (t : List (List UInt8 × List UInt8 × Bool)) : allOk queryOk (joinQ t) = true := by
  have H : ∀ r : List (List UInt8 × List UInt8 × Bool), allOk queryOk (r.flatMap fun q => 38 :: txQ q) = true := by
    intro r
    induction r with
    | nil => exact allOk_nil _
    | cons q r ih =>
      rw [List.flatMap_cons]
      have h1 : allOk queryOk (38 :: txQ q) = true := allOk_cons queryOk 38 _ (by decide) (by decide +kernel) (tx_ok q)
      rw [allOk_append _ _ _ (whole_of queryOk query37q _ h1), h1, ih]
      rfl
  cases t with
  | nil => exact allOk_nil _
  | cons p r =>
    show allOk queryOk (txQ p ++ _) = true
    rw [allOk_append _ _ _ (whole_of queryOk query37q _ (tx_ok p)), tx_ok p, H r]
    rfl

end Tg
end Go.Proofs.YtndglpjkmgcdpaaGreatDoor
