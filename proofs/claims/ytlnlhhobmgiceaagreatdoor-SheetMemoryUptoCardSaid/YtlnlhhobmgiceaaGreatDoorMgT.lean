/- Several texts as one. -/
import Derived.Test.YtlnlhhobmgiceaaGreatDoorMgS
import Derived.Test.YtlnlhhobmgiceaaGreatDoorMgR
import Derived.Test.YtlnlhhobmgiceaaGreatDoorMgF
/-
  The document's Pairs, Query.
-/
set_option linter.unusedVariables false
set_option linter.unusedSimpArgs false
namespace Go.Proofs.YtlnlhhobmgiceaaGreatDoor
open Go.RowKit Go.Shelf
namespace Tg
open Oc

theorem split_mem_len (b : UInt8) : ∀ (n : Nat) (l : List UInt8), l.length ≤ n → ∀ z ∈ splitB b l, z.length ≤ l.length := by
  intro n
  induction n with
  | zero =>
    intro l hl z hz
    obtain rfl : l = [] := List.length_eq_zero_iff.1 (by omega)
    have : z = [] := by simpa [splitB] using hz
    rw [this]
    exact Nat.le_refl _
  | succ n ih =>
    intro l hl z hz
    rw [split_cut] at hz
    rcases List.mem_cons.1 hz with rfl | hz
    · exact cutA_len b l
    · cases h : has b l with
      | false => rw [h] at hz; simp at hz
      | true =>
        rw [h, if_pos rfl] at hz
        have e := congrArg List.length (cut_app b l h)
        rw [List.length_append, List.length_cons] at e
        have := ih (cutB b l) (by omega) z hz
        omega
theorem qs_take (t : List (List UInt8)) (k : Nat) (hk : k < t.length) : qs (t.take (k + 1)) = if t.getD k [] = [] then qs (t.take k) else qs (t.take k) ++ [pairR (t.getD k [])] := by
  have e : t.take (k + 1) = t.take k ++ [t.getD k []] := by
    rw [List.take_add_one, List.getElem?_eq_getElem hk, List.getD_eq_getElem?_getD, List.getElem?_eq_getElem hk]
    rfl
  rw [e]
  split
  · next h => rw [qs_none _ _ h]
  · next h => rw [qs_one _ _ h]

/-- A parameter appended to a slice of the call's own. -/
theorem wp_appQ2 {ops : Array Oper} {rest : List Oper} {o : Oper} {a : Act} {Q : Exit → Act → World → Prop} (T S : Nat) (hT : T ≠ 9) (hinfo : (Tryz.prog.info? T).map (fun i => (i.zero, i.size, i.bytes)) = some (some (.agg #[.string ⟨#[]⟩, .string ⟨#[]⟩, .bool false]), 3, 40))
    (hund : Tryz.prog.underlying S = some (.slice T)) (hgd : o.guard = none) (s x : Operand)
    (ho : o.op = .call { callee := .builtin .append, args := #[s, x], argTypes := #[S, S] }) (B : Nat) (v : Value) (t : List Prm) (W : World) (p : Prm) (n1 n2 : ByteArray) (h1 : n1 = str p.1) (h2 : n2 = str p.2.1) (b : Bool) (h3 : b = p.2.2)
    (hs : a.eval s = v) (hown : OwnQ T B v t W) (g : Nat) (hx : a.eval x = .slice (some ⟨g, 0, none⟩) 1 1) (hg : g = W.heap.size) (hlen : t.length + 1 ≤ 2147483648) (hB : B ≤ W.heap.size)
    (h : ∀ v' w', OwnQ T B v' (t ++ [p]) w' → Below B W w' → (∀ B2 lv t2, OwnS B2 lv t2 W → OwnS B2 lv t2 w') → wpList Tryz.prog ops Q rest (a.put o.dst v') w') : wpList Tryz.prog ops Q (o :: rest) a (W.alloc (.cells #[.string n1, .string n2, .bool b] T)) := by
  subst h1 h2 h3 hg
  obtain ⟨i0, hi, hz0, hz1, hz2⟩ := info_parts hinfo
  refine wpList_append_own _ hgd s x S ho B T i0 (.agg #[.string ⟨#[]⟩, .string ⟨#[]⟩, .bool false]) 3 40 hund hi hz0 hz1 hz2 rfl (by decide) v t.length _ hs (World.ownsRow.alloc hown _) ⟨W.heap.size, 0, none⟩ 1 1 (encQ1 p) hx rfl ?_ ?_ ?_ ?_ ?_ ?_
  · intro j u hj
    unfold encQ1 at hj
    match j, hj with
    | 0, hj => simp at hj; subst hj; simp [Addr.add]
    | 1, hj => simp at hj; subst hj; simp [Addr.add]
    | 2, hj => simp at hj; subst hj; simp [Addr.add]
  · intro u hu
    unfold encQ1 at hu
    simp at hu
    rcases hu with rfl | rfl | rfl <;> rfl
  · unfold maxLen; omega
  · omega
  · simp; omega
  · intro v' w' h1 h2 _
    refine h v' w' ?_ (((Below.refl B W).alloc hB _).grown h2 (by simp; omega) (fun k hk => (World.ownsRow.lt hown k hk).1)) ?_
    · unfold OwnQ
      rw [encQ_snoc, List.length_append]
      exact h1
    · intro B2 lv t2 hu
      have h0 : lv.ownBlock = none ∨ lv.ownBlock ≠ v.ownBlock := by
        rcases hu.2 with ⟨rfl, _⟩ | ⟨g, cap, cur, rfl, _, hg, _⟩
        · exact .inl rfl
        · refine .inr fun e' => ?_
          rcases hown.2 with ⟨rfl, _⟩ | ⟨g', cap', cur', rfl, _, hg', _⟩
          · cases e'
          · obtain rfl : g = g' := by simpa [Value.ownBlock] using e'
            rw [hg] at hg'
            simp at hg'
            exact hT hg'.2.symm
      exact World.ownsRow.kept (World.ownsRow.alloc hu _) h2 h0

set_option maxRecDepth 100000 in
set_option maxHeartbeats 400000 in
theorem rPairs_any (s : ByteArray) (hs : s.size ≤ 4194304) (w : World) :
    Calls Tryz.prog 15 #[.string s] w fun e w' => ∃ v, e = .returned v ∧ OwnQ 57 w.heap.size v (qs (splitB 38 s.data.toList)) w' ∧ Below w.heap.size w w' := by
  have HSp : Hid (∀ w, _) := fun w => rsplit_any s hs 38 w
  have HE : Hid (_) := ownQ_empty (B := w.heap.size) 57 w (Nat.le_refl _)
  have hle : Below w.heap.size w (w.alloc (.cells #[] 57)) := (Below.refl _ w).alloc (Nat.le_refl _) _
  have HL := split_len 38 s.data.toList
  have HM : Hid (∀ z ∈ splitB 38 s.data.toList, z.length ≤ s.size) := by
    intro z hz
    have := split_mem_len 38 _ s.data.toList (Nat.le_refl _) z hz
    rw [size_list] at this
    exact this
  rw [size_list] at HL
  generalize splitB 38 s.data.toList = t at *
  go_enter Tryz.func15, Tryz.ntmps15
  go_wp2_with fail
  refine (HSp.out _).mono ?_
  rintro e w1 ⟨lv, rfl, hl1, hb1⟩
  have HO1 : Hid (OwnQ 57 w.heap.size _ [] w1) := OwnQ.below HE.out hb1
  have HB1 : Hid (Below w.heap.size w w1) := hle.trans (hb1.mono (by simp))
  have hR1 : Hid (OwnS w.heap.size lv t w1) := hl1.lower (by simp)
  obtain ⟨la, lc, rfl⟩ := hl1.form
  have hsz1 : w.heap.size < w1.heap.size := by have := hb1.size; simp at this; omega
  clear hl1 hb1 HE hle
  go_wp2
  go_loopw [3, 5] (fun ov i wr => ∃ k : Nat, k ≤ t.length ∧ i = .int .i64 k ∧ Hid (OwnQ 57 w.heap.size ov (qs (t.take k)) wr) ∧ Hid (OwnS w.heap.size (.slice la t.length lc) t wr) ∧ Hid (Below w.heap.size w wr)) (fun _ i _ => t.length - (intOf i).toNat)
  case atStart => exact ⟨0, Nat.zero_le _, rfl, HO1.out, hR1.out, HB1.out⟩
  case round =>
    obtain ⟨k, hk, rfl, hown, hrd, hbl⟩ := hrel
    have hsz := hbl.out.size
    by_cases hlt : k < t.length
    · obtain ⟨a0, c0, e0, hcs⟩ := OwnS.rd hrd.out
      injection e0 with e1 _ e2
      subst e1 e2
      rcases hcs with h | ⟨g, o, rfl, hlc, hcell⟩
      · rw [h] at hlt; simp at hlt
      have hk0 := hcell k hlt
      clear hcell
      have hzl : (t.getD k []).length ≤ s.size := HM.out _ (by rw [List.getD_eq_getElem?_getD, List.getElem?_eq_getElem hlt]; exact List.getElem_mem hlt)
      have hqt := qs_take t k hlt
      have hql := qs_len (t.take k)
      rw [List.length_take] at hql
      generalize t.getD k [] = z at *
      by_cases hz : z = []
      · subst hz
        rw [if_pos rfl] at hqt
        have HQ : Hid (_) := hqt
        have hk1 : wr.cell? ⟨g, o + k, none⟩ = some (.string ⟨#[]⟩) := hk0
        clear hk0 hqt
        go_wp2
        go_roundw
        case rel => exact ⟨k + 1, by omega, by go_num, (by rw [HQ.out]; exact hown.out : OwnQ _ _ _ _ _), hrd.out, hbl.out⟩
        case measure => simp [intOf]; omega
      · rw [if_neg hz] at hqt
        have hXn : (str z).toList.isEmpty = false := by
          rw [ByteArray.toList_eq, str_list]
          cases h : z with
          | nil => exact absurd h hz
          | cons => rfl
        have hla := cutA_len 61 z
        have hlb := cutB_len 61 z
        have HC : Hid (∀ w, _) := fun w => rcut_any (str z) (by rw [str_size]; omega) 61 w
        have HA : Hid (∀ w, _) := fun w => rspaced_any (str (cutA 61 z)) (by rw [str_size]; omega) w
        have HB : Hid (∀ w, _) := fun w => rspaced_any (str (cutB 61 z)) (by rw [str_size]; omega) w
        rw [str_list] at HC HA HB
        have HQ : Hid (qs (t.take (k + 1)) = qs (t.take k) ++ [(spd (cutA 61 z), spd (cutB 61 z), has 61 z)]) := hqt
        generalize str z = X at *
        generalize str (cutA 61 z) = a at *
        generalize str (cutB 61 z) = b at *
        generalize has 61 z = h at *
        generalize spd (cutA 61 z) = y1 at *
        generalize spd (cutB 61 z) = y2 at *
        clear hqt hz hla hlb
        go_wp2_with fail
        refine (HC.out _).mono ?_
        rintro e w2 ⟨rfl, k2⟩
        have hs2 := k2.size
        go_wp2_with fail
        refine (HA.out _).mono ?_
        rintro e w3 ⟨rfl, k3⟩
        have hs3 := k3.size
        go_wp2_with fail
        refine (HB.out _).mono ?_
        rintro e w4 ⟨rfl, k4⟩
        have hs4 := k4.size
        have k24 := k2.trans ((k3.mono hs2).trans (k4.mono (Nat.le_trans hs2 hs3)))
        have ho4 : OwnQ 57 w.heap.size _ (qs (t.take k)) w4 := OwnQ.below hown.out k24
        have hl4 : OwnS w.heap.size (.slice (some ⟨g, o, none⟩) t.length lc) t w4 := OwnS.below hrd.out k24
        have K24 : Hid (Below w.heap.size wr w4) := k24.mono hsz
        have HO4 : Hid (_) := ho4
        have HL4 : Hid (_) := hl4
        have hs5 : w.heap.size ≤ w4.heap.size := by omega
        clear ho4 hl4 k24 k2 k3 k4
        go_wp2_with (at_builtin; go_must (refine wp_appQ2 57 24 (by decide) infoQ2 Tryz.underlying24 rfl (.tmp 32) (.tmp 39) rfl w.heap.size _ (qs (t.take k)) _ (y1, y2, h) _ _ rfl rfl _ rfl rfl HO4.out _ rfl rfl (by omega) hs5 ?_); intro v5 w5 o5 b5 l5)
        have O5 : Hid (OwnQ 57 w.heap.size v5 (qs (t.take (k + 1))) w5) := (by rw [HQ.out]; exact o5 : OwnQ _ _ _ _ _)
        have L5 : Hid (OwnS w.heap.size (.slice (some ⟨g, o, none⟩) t.length lc) t w5) := l5 _ _ _ HL4.out
        have B5 : Hid (Below w.heap.size w w5) := hbl.out.trans (K24.out.trans b5)
        clear o5 l5 b5
        go_roundw
        case rel => exact ⟨k + 1, by omega, by go_num, O5, L5, B5⟩
        case measure => simp [intOf]; omega
    · obtain rfl : k = t.length := by omega
      have ho := hown.out
      rw [List.take_length] at ho
      have HO : Hid (_) := ho
      clear ho
      go_wp2
      go_ret
      exact ⟨_, rfl, HO.out, hbl.out⟩

end Tg
end Go.Proofs.YtlnlhhobmgiceaaGreatDoor

/-
  Plain: a path up to its last slash; where a reference leads to.
-/
set_option linter.unusedVariables false
set_option linter.unusedSimpArgs false
namespace Go.Proofs.YtlnlhhobmgiceaaGreatDoor
namespace Tg

def dirL (p : List UInt8) : List UInt8 := (p.reverse.dropWhile (· != 47)).reverse
def resR (p r : List UInt8) : List UInt8 × Int := if isPath p then (if r = [] then normR p else if r.head? = some 47 then normR r else normR (dirL p ++ r)) else ([], 53)
theorem dirL_eq (a b : List UInt8) (h : 47 ∉ b) : dirL (a ++ 47 :: b) = a ++ [47] := by
  unfold dirL
  rw [List.reverse_append, List.reverse_cons, List.append_assoc]
  rw [List.dropWhile_append_of_pos (by intro x hx; simp; intro e; exact h (by rw [← e]; simpa using hx))]
  simp
theorem allOk_nil (ok : UInt8 → Bool) : allOk ok [] = true := by unfold allOk; rw [zs_nil]; rfl
theorem path_split (a b : List UInt8) (h : allOk pathOk (a ++ 47 :: b) = true) : allOk pathOk (a ++ [47]) = true ∧ whole (a ++ [47]) = true ∧ allOk pathOk b = true := by
  have hw := whole_of pathOk path37 _ h
  have ha := whole_left a b hw
  have w47 : whole [47] = true := by unfold whole; rw [zs_one 47 [] rfl, zs_nil]; rfl
  have o47 : allOk pathOk [47] = true := by unfold allOk; rw [zs_one 47 [] rfl, zs_nil]; decide +kernel
  have e : a ++ 47 :: b = a ++ ([47] ++ b) := by simp
  rw [e, allOk_append _ _ _ ha, allOk_append _ _ _ w47, Bool.and_eq_true, Bool.and_eq_true] at h
  refine ⟨?_, ?_, h.2.2⟩
  · rw [allOk_append _ _ _ ha, h.1, o47]; rfl
  · rw [whole_append _ _ ha]; exact w47
theorem res_bad (a b r : List UInt8) (h : allOk pathOk (a ++ 47 :: b) = true) (hb : 47 ∉ b) (hr : allOk pathOk r = false) : isPath (dirL (a ++ 47 :: b) ++ r) = false := by
  obtain ⟨h1, h2, _⟩ := path_split a b h
  rw [dirL_eq a b hb]
  unfold isPath
  rw [allOk_append _ _ _ h2, hr, Bool.and_false, Bool.and_false]

end Tg
end Go.Proofs.YtlnlhhobmgiceaaGreatDoor

/-
  Plain: pairs printed as a query, and read back.
-/
set_option linter.unusedVariables false
set_option linter.unusedSimpArgs false
namespace Go.Proofs.YtlnlhhobmgiceaaGreatDoor
namespace Tg
open Oc

/-- A pair that may be printed; its text; the text of all. -/
def okQ (p : List UInt8 × List UInt8 × Bool) : Bool := p.2.2 || (decide (p.2.1 = []) && decide (p.1 ≠ []))
def txQ (p : List UInt8 × List UInt8 × Bool) : List UInt8 := if p.2.2 then enc p.1 ++ 61 :: enc p.2.1 else enc p.1
def joinQ : List (List UInt8 × List UInt8 × Bool) → List UInt8
  | [] => []
  | p :: r => txQ p ++ r.flatMap fun q => 38 :: txQ q
def prqR (t : List (List UInt8 × List UInt8 × Bool)) : List UInt8 × Int := if t.all okQ then (joinQ t, 0) else ([], 54)
def szQ (p : List UInt8 × List UInt8 × Bool) : Nat := p.1.length + p.2.1.length
def sumQ (t : List (List UInt8 × List UInt8 × Bool)) : Nat := (t.map szQ).sum

theorem joinQ_snoc (t : List (List UInt8 × List UInt8 × Bool)) (p : List UInt8 × List UInt8 × Bool) : joinQ (t ++ [p]) = if t = [] then txQ p else joinQ t ++ 38 :: txQ p := by
  cases t with
  | nil => simp [joinQ]
  | cons x r => simp [joinQ]
theorem txQ_len (p : List UInt8 × List UInt8 × Bool) : (txQ p).length ≤ 3 * szQ p + 1 := by
  unfold txQ szQ
  have h1 := enc_len p.1
  have h2 := enc_len p.2.1
  split
  · rw [List.length_append, List.length_cons]; omega
  · omega
theorem joinQ_len (t : List (List UInt8 × List UInt8 × Bool)) : (joinQ t).length ≤ 3 * sumQ t + 2 * t.length := by
  have H : ∀ r : List (List UInt8 × List UInt8 × Bool), (r.flatMap fun q => 38 :: txQ q).length ≤ 3 * sumQ r + 2 * r.length := by
    intro r
    induction r with
    | nil => simp
    | cons q r ih =>
      rw [List.flatMap_cons, List.length_append, List.length_cons, List.length_cons]
      have := txQ_len q
      have e : sumQ (q :: r) = szQ q + sumQ r := by simp [sumQ]
      omega
  cases t with
  | nil => simp [joinQ]
  | cons p r =>
    have := H r
    have h1 := txQ_len p
    have e : sumQ (p :: r) = szQ p + sumQ r := by simp [sumQ]
    unfold joinQ
    rw [List.length_append, List.length_cons]
    omega
theorem sumQ_take (t : List (List UInt8 × List UInt8 × Bool)) (k : Nat) : sumQ (t.take k) ≤ sumQ t := by
  unfold sumQ
  conv => rhs; rw [← List.take_append_drop k t]
  rw [List.map_append, List.sum_append]
  omega
theorem szQ_le (t : List (List UInt8 × List UInt8 × Bool)) (k : Nat) (h : k < t.length) : szQ (t.getD k ([], [], false)) ≤ sumQ t := by
  have h1 : sumQ (t.take (k + 1)) = sumQ (t.take k) + szQ (t.getD k ([], [], false)) := by
    unfold sumQ
    rw [List.take_succ_eq_append_getElem h, List.map_append, List.sum_append, List.getD_eq_getElem?_getD, List.getElem?_eq_getElem h]
    simp
  have h2 := sumQ_take t (k + 1)
  omega
theorem take_snocQ (t : List (List UInt8 × List UInt8 × Bool)) (k : Nat) (h : k < t.length) : t.take (k + 1) = t.take k ++ [t.getD k ([], [], false)] := by
  rw [List.take_succ_eq_append_getElem h, List.getD_eq_getElem?_getD, List.getElem?_eq_getElem h]
  rfl
theorem prq_bad (t : List (List UInt8 × List UInt8 × Bool)) (k : Nat) (h : k < t.length) (hb : okQ (t.getD k ([], [], false)) = false) : prqR t = ([], 54) := by
  unfold prqR
  rw [if_neg]
  intro ha
  rw [List.all_eq_true] at ha
  have := ha (t.getD k ([], [], false)) (by rw [List.getD_eq_getElem?_getD, List.getElem?_eq_getElem h]; exact List.getElem_mem _)
  rw [hb] at this
  cases this
theorem prq_good (t : List (List UInt8 × List UInt8 × Bool)) (h : (t.take t.length).all okQ = true) : prqR t = (joinQ t, 0) := by
  rw [List.take_length] at h
  unfold prqR
  rw [if_pos h]
theorem all_snocQ (t : List (List UInt8 × List UInt8 × Bool)) (k : Nat) (h : k < t.length) (ha : (t.take k).all okQ = true) (hb : okQ (t.getD k ([], [], false)) = true) : (t.take (k + 1)).all okQ = true := by
  rw [take_snocQ t k h, List.all_append, ha, List.all_cons, hb]
  rfl

theorem unr38 : unr 38 = false := by decide +kernel
theorem unr61 : unr 61 = false := by decide +kernel
theorem unr43 : unr 43 = false := by decide +kernel
theorem enc_no (b : UInt8) (hb : unr b = false) (h37 : b ≠ 37) (l : List UInt8) : b ∉ enc l := by
  intro h
  rcases enc_mem l b h with e | e
  · exact h37 e
  · rw [hb] at e; cases e
theorem tx_no38 (p : List UInt8 × List UInt8 × Bool) : 38 ∉ txQ p := by
  unfold txQ
  have h1 := enc_no 38 unr38 (by decide) p.1
  have h2 := enc_no 38 unr38 (by decide) p.2.1
  split
  · intro h
    rcases List.mem_append.1 h with h | h
    · exact h1 h
    · rcases List.mem_cons.1 h with h | h
      · exact absurd h (by decide)
      · exact h2 h
  · exact h1
theorem enc_nil (l : List UInt8) : enc l = [] ↔ l = [] := by
  constructor
  · intro h
    have := dec_enc l
    rw [h] at this
    have e := dec_enc []
    rw [show enc [] = [] from rfl, this] at e
    injection e
  · rintro rfl; rfl
theorem tx_ne (p : List UInt8 × List UInt8 × Bool) (h : okQ p = true) : txQ p ≠ [] := by
  unfold okQ at h
  unfold txQ
  split
  · simp
  · rename_i hb
    have hb : p.2.2 = false := by simpa using hb
    rw [hb] at h
    simp at h
    exact fun e => h.2 ((enc_nil _).1 e)
theorem spd_enc (l : List UInt8) : spd (enc l) = l := by
  unfold spd
  rw [sp_none 43 (enc l) (by
    unfold has
    rw [List.contains_eq_any_beq, List.any_eq_false]
    intro c hc e
    have e : 43 = c := by simpa using e
    subst e
    exact enc_no 43 unr43 (by decide) l hc), dec_enc]
theorem has_cut (b : UInt8) (A B : List UInt8) (h : b ∉ A) : cutA b (A ++ b :: B) = A ∧ cutB b (A ++ b :: B) = B ∧ has b (A ++ b :: B) = true := by
  unfold cutA cutB has
  have h' : ∀ c ∈ A, (c != b) = true := fun c hc => by simpa using (fun e => h (e ▸ hc) : c ≠ b)
  refine ⟨?_, ?_, by simp⟩
  · rw [List.takeWhile_append_of_pos h']; simp
  · rw [List.dropWhile_append_of_pos h']; simp
theorem pair_tx (p : List UInt8 × List UInt8 × Bool) (h : okQ p = true) : pairR (txQ p) = p := by
  obtain ⟨n, v, b⟩ := p
  unfold pairR txQ
  have h61 := enc_no 61 unr61 (by decide) n
  cases b with
  | true =>
    have hc := has_cut 61 (enc n) (enc v) h61
    dsimp only
    rw [if_pos rfl, hc.1, hc.2.1, hc.2.2, spd_enc, spd_enc]
  | false =>
    unfold okQ at h
    simp at h
    have hn : has 61 (enc n) = false := by
      unfold has
      rw [List.contains_eq_any_beq, List.any_eq_false]
      intro c hc e
      have e : 61 = c := by simpa using e
      subst e
      exact h61 hc
    dsimp only
    rw [if_neg (by decide), cutA_all 61 _ hn, cutB_none 61 _ hn, hn, spd_enc, h.1]
    have e : spd [] = [] := spd_enc []
    rw [e]
theorem split_join (r : List (List UInt8 × List UInt8 × Bool)) : ∀ p : List UInt8 × List UInt8 × Bool, splitB 38 (joinQ (p :: r)) = (p :: r).map txQ := by
  induction r with
  | nil => intro p; show splitB 38 (txQ p ++ []) = _; rw [List.append_nil, splitB_none 38 _ (tx_no38 p)]; rfl
  | cons q r ih =>
    intro p
    have e : joinQ (p :: q :: r) = txQ p ++ 38 :: joinQ (q :: r) := by
      show txQ p ++ ((38 :: txQ q) ++ r.flatMap fun q => 38 :: txQ q) = _
      rfl
    rw [e, splitB_app 38 _ _ (tx_no38 p), ih q]
    rfl
theorem pairs_back (t : List (List UInt8 × List UInt8 × Bool)) (h : t.all okQ = true) : pairsR (joinQ t) = t := by
  unfold pairsR
  cases t with
  | nil => rfl
  | cons p r =>
    rw [split_join]
    rw [List.all_eq_true] at h
    rw [List.filter_eq_self.2 (fun z hz => by
      obtain ⟨x, hx, rfl⟩ := List.mem_map.1 hz
      exact decide_eq_true (tx_ne x (h x hx))), List.map_map]
    exact (List.map_congr_left fun x hx => pair_tx x (h x hx)).trans (List.map_id _)
theorem allOk_cons (ok : UInt8 → Bool) (c : UInt8) (t : List UInt8) (hc : c ≠ 37) (h : ok c = true) (ht : allOk ok t = true) : allOk ok (c :: t) = true := by
  unfold allOk at ht ⊢
  rw [zs_one c t (trip_ne hc t), List.all_cons, ht]
  simp [goodZ, h]
theorem unr_query {c : UInt8} (h : unr c = true) : queryOk c = true := by simp [queryOk, h]
theorem tx_ok (p : List UInt8 × List UInt8 × Bool) : allOk queryOk (txQ p) = true := by
  unfold txQ
  split
  · rw [allOk_append _ _ _ (enc_whole _), enc_ok _ (fun c h => unr_query h), allOk_cons queryOk 61 _ (by decide) (by decide +kernel) (enc_ok _ (fun c h => unr_query h) _)]
    rfl
  · exact enc_ok _ (fun c h => unr_query h) _
theorem query37q : queryOk 37 = false := by decide +kernel
theorem join_ok (t : List (List UInt8 × List UInt8 × Bool)) : allOk queryOk (joinQ t) = true := by
  have H : ∀ r : List (List UInt8 × List UInt8 × Bool), allOk queryOk (r.flatMap fun q => 38 :: txQ q) = true := by
    intro r
    induction r with
    | nil => exact allOk_nil _
    | cons q r ih =>
      rw [List.flatMap_cons]
      have h1 : allOk queryOk (38 :: txQ q) = true := allOk_cons queryOk 38 _ (by decide) (by decide +kernel) (tx_ok q)
      rw [allOk_append _ _ _ (whole_of queryOk query37q _ h1), h1, ih]
      rfl
  cases t with
  | nil => exact allOk_nil _
  | cons p r =>
    show allOk queryOk (txQ p ++ _) = true
    rw [allOk_append _ _ _ (whole_of queryOk query37q _ (tx_ok p)), tx_ok p, H r]
    rfl

end Tg
end Go.Proofs.YtlnlhhobmgiceaaGreatDoor

/-
  sheet: the pairs of a body, plain: what is asked of the query says what the body says.
-/
set_option linter.unusedVariables false
set_option linter.unusedSimpArgs false
namespace Go.Proofs.YtlnlhhobmgiceaaGreatDoor
namespace Tg
open Oc

/-- A byte of a body, as a query has it. -/
def sgn (c : UInt8) : Bool := [38, 61, 43, 37].contains c
def aqB (c : UInt8) : List UInt8 := if sgn c then [c] else encB c
def aq (l : List UInt8) : List UInt8 := l.flatMap aqB
/-- What Pairs answers. -/
def shpR (l : List UInt8) : List (List UInt8 × List UInt8 × Bool) × Nat × Int := if whole l then (pairsR l, 0, 0) else ([], (decR l).2.1, 51)

theorem aq_nil : aq [] = [] := rfl
theorem aq_cons (c : UInt8) (t : List UInt8) : aq (c :: t) = aqB c ++ aq t := rfl
theorem aqB_len (c : UInt8) : (aqB c).length ≤ 3 := by
  unfold aqB encB; (repeat' split) <;> simp
theorem aq_len (l : List UInt8) : (aq l).length ≤ 3 * l.length := by
  induction l with
  | nil => exact Nat.le_refl _
  | cons c t ih => rw [aq_cons, List.length_append, List.length_cons]; have := aqB_len c; omega
theorem aq_app (a b : List UInt8) : aq (a ++ b) = aq a ++ aq b := by unfold aq; rw [List.flatMap_append]
theorem aqB_ne (c : UInt8) : aqB c ≠ [] := by unfold aqB encB; (repeat' split) <;> simp
theorem aq_none (l : List UInt8) : aq l = [] ↔ l = [] := by
  cases l with
  | nil => simp [aq_nil]
  | cons c t => rw [aq_cons]; simp [aqB_ne]
theorem hx_unr : ∀ n : Nat, n < 256 → hx (UInt8.ofNat n) = true → unr (UInt8.ofNat n) = true ∧ sgn (UInt8.ofNat n) = false ∧ UInt8.ofNat n ≠ 43 := by decide +kernel
theorem hx_facts (c : UInt8) (h : hx c = true) : aqB c = [c] ∧ sp c = c := by
  have e : UInt8.ofNat c.toNat = c := by simp
  have f := hx_unr c.toNat c.toNat_lt (by rw [e]; exact h)
  rw [e] at f
  refine ⟨?_, ?_⟩
  · unfold aqB encB; rw [if_neg (by simp [f.2.1]), if_pos f.1]
  · unfold sp; rw [if_neg f.2.2]

/-- The values of the signs. -/
def vals (l : List UInt8) : List UInt8 := (zs l).flatMap valZ
theorem vals_one (c : UInt8) (t : List UInt8) (h : c ≠ 37) : vals (c :: t) = c :: vals t := by
  unfold vals; rw [zs_one c t (trip_ne h t), List.flatMap_cons]; rfl
theorem vals_trip (a b : UInt8) (t : List UInt8) (ha : hx a = true) (hb : hx b = true) : vals (37 :: a :: b :: t) = byteOf a b :: vals t := by
  unfold vals; rw [zs_trip _ (by simp [trip, ha, hb]), List.flatMap_cons]; rfl
theorem whole_trip (a b : UInt8) (t : List UInt8) (ha : hx a = true) (hb : hx b = true) : whole (37 :: a :: b :: t) = whole t := by
  unfold whole; rw [zs_trip _ (by simp [trip, ha, hb]), List.all_cons]; simp
theorem allOk_trip (ok : UInt8 → Bool) (a b : UInt8) (t : List UInt8) (ha : hx a = true) (hb : hx b = true) : allOk ok (37 :: a :: b :: t) = allOk ok t := by
  unfold allOk; rw [zs_trip _ (by simp [trip, ha, hb]), List.all_cons]; simp [goodZ]
theorem hd_hx (c : UInt8) : hx (hd (c.toNat / 16)) = true ∧ hx (hd (c.toNat % 16)) = true := by
  have := (hd_facts c.toNat c.toNat_lt).1
  rw [Bool.and_eq_true] at this
  exact this
/-- A whole text, sign by sign. -/
theorem whole_ind {P : List UInt8 → Prop} (h0 : P []) (h1 : ∀ c t, c ≠ 37 → whole t = true → P t → P (c :: t)) (h3 : ∀ a b t, hx a = true → hx b = true → whole t = true → P t → P (37 :: a :: b :: t)) : ∀ (n : Nat) (l : List UInt8), l.length ≤ n → whole l = true → P l := by
  intro n
  induction n with
  | zero => intro l hl _; obtain rfl : l = [] := List.length_eq_zero_iff.1 (by omega); exact h0
  | succ n ih =>
    intro l hl hw
    match l, hl, hw with
    | [], _, _ => exact h0
    | c :: t, hl, hw =>
      by_cases ht : trip (c :: t) = true
      · match t, ht with
        | a :: b :: t', ht =>
          obtain rfl := trip_head ht
          have hh : hx a = true ∧ hx b = true := by simpa [trip] using ht
          rw [whole_trip a b t' hh.1 hh.2] at hw
          exact h3 a b t' hh.1 hh.2 hw (ih t' (by simp at hl; omega) hw)
      · have ht' : trip (c :: t) = false := by simpa using ht
        have hc : c ≠ 37 := by
          rintro rfl
          unfold whole at hw
          rw [zs_one _ _ ht', List.all_cons] at hw
          simp at hw
        rw [whole_cons hc] at hw
        exact h1 c t hc hw (ih t (by simp at hl; omega) hw)
theorem sp37 {c : UInt8} (h : c ≠ 37) : sp c ≠ 37 := by
  unfold sp; split
  · decide
  · exact h
theorem sp_hd (c : UInt8) : sp (hd (c.toNat / 16)) = hd (c.toNat / 16) ∧ sp (hd (c.toNat % 16)) = hd (c.toNat % 16) := ⟨(hx_facts _ (hd_hx c).1).2, (hx_facts _ (hd_hx c).2).2⟩

theorem aq_says (l : List UInt8) (h : whole l = true) : whole ((aq l).map sp) = true ∧ whole (l.map sp) = true ∧ vals ((aq l).map sp) = vals (l.map sp) ∧ allOk queryOk (aq l) = true := by
  refine whole_ind (P := fun l => whole ((aq l).map sp) = true ∧ whole (l.map sp) = true ∧ vals ((aq l).map sp) = vals (l.map sp) ∧ allOk queryOk (aq l) = true) ?_ ?_ ?_ l.length l (Nat.le_refl _) h
  · refine ⟨?_, ?_, rfl, ?_⟩
    · rw [aq_nil, List.map_nil]; unfold whole; rw [zs_nil]; rfl
    · rw [List.map_nil]; unfold whole; rw [zs_nil]; rfl
    · exact allOk_nil _
  · intro c t hc hw ⟨i1, i2, i3, i4⟩
    rw [aq_cons, List.map_append, List.map_cons]
    have g2 : whole (sp c :: t.map sp) = true := by rw [whole_cons (sp37 hc)]; exact i2
    by_cases hs : sgn c = true
    · have e : aqB c = [c] := by unfold aqB; rw [if_pos hs]
      rw [e]
      refine ⟨?_, g2, ?_, ?_⟩
      · rw [List.map_cons, List.map_nil, List.singleton_append, whole_cons (sp37 hc)]; exact i1
      · rw [List.map_cons, List.map_nil, List.singleton_append, vals_one _ _ (sp37 hc), vals_one _ _ (sp37 hc), i3]
      · refine allOk_cons queryOk c _ hc ?_ i4
        have : c = 38 ∨ c = 61 ∨ c = 43 := by simpa [sgn, hc] using hs
        rcases this with rfl | rfl | rfl <;> decide +kernel
    · have e : aqB c = encB c := by unfold aqB; rw [if_neg hs]
      have h43 : c ≠ 43 := by rintro rfl; exact hs (by decide)
      have esp : sp c = c := by unfold sp; rw [if_neg h43]
      rw [e]
      by_cases hu : unr c = true
      · have e2 : encB c = [c] := by unfold encB; rw [if_pos hu]
        rw [e2]
        refine ⟨?_, g2, ?_, ?_⟩
        · rw [List.map_cons, List.map_nil, List.singleton_append, whole_cons (sp37 hc)]; exact i1
        · rw [List.map_cons, List.map_nil, List.singleton_append, vals_one _ _ (sp37 hc), vals_one _ _ (sp37 hc), i3]
        · exact allOk_cons queryOk c _ hc (unr_query hu) i4
      · have e2 : encB c = [37, hd (c.toNat / 16), hd (c.toNat % 16)] := by unfold encB; rw [if_neg hu]
        have hh := hd_hx c
        rw [e2]
        refine ⟨?_, g2, ?_, ?_⟩
        · rw [List.map_cons, List.map_cons, List.map_cons, List.map_nil, (sp_hd c).1, (sp_hd c).2]
          exact (whole_trip _ _ _ hh.1 hh.2).trans i1
        · rw [List.map_cons, List.map_cons, List.map_cons, List.map_nil, (sp_hd c).1, (sp_hd c).2, esp, vals_one _ _ hc]
          refine (vals_trip _ _ _ hh.1 hh.2).trans ?_
          rw [hd_byte]
          exact congrArg (c :: ·) i3
        · exact (allOk_trip queryOk _ _ _ hh.1 hh.2).trans i4
  · intro a b t ha hb hw ⟨i1, i2, i3, i4⟩
    have fa := hx_facts a ha
    have fb := hx_facts b hb
    have e : aq (37 :: a :: b :: t) = 37 :: a :: b :: aq t := by rw [aq_cons, aq_cons, aq_cons, fa.1, fb.1]; rfl
    rw [e]
    have s37 : sp 37 = 37 := by decide
    refine ⟨?_, ?_, ?_, ?_⟩
    · rw [List.map_cons, List.map_cons, List.map_cons, s37, fa.2, fb.2, whole_trip a b _ ha hb]; exact i1
    · rw [List.map_cons, List.map_cons, List.map_cons, s37, fa.2, fb.2, whole_trip a b _ ha hb]; exact i2
    · rw [List.map_cons, List.map_cons, List.map_cons, List.map_cons, List.map_cons, List.map_cons, s37, fa.2, fb.2, vals_trip a b _ ha hb, vals_trip a b _ ha hb, i3]
    · rw [allOk_trip queryOk a b _ ha hb]; exact i4
theorem spd_aq (l : List UInt8) (h : whole l = true) : spd (aq l) = spd l := by
  obtain ⟨h1, h2, h3, _⟩ := aq_says l h
  unfold spd
  rw [decR_whole _ h1, decR_whole _ h2]
  exact h3

/-- A byte that stays itself and comes of no other one. -/
theorem flat_cut (f : UInt8 → List UInt8) (b : UInt8) (hb : f b = [b]) (hn : ∀ c, c ≠ b → b ∉ f c) (l : List UInt8) : cutA b (l.flatMap f) = (cutA b l).flatMap f ∧ cutB b (l.flatMap f) = (cutB b l).flatMap f ∧ has b (l.flatMap f) = has b l := by
  induction l with
  | nil => exact ⟨rfl, rfl, rfl⟩
  | cons c t ih =>
    rw [List.flatMap_cons]
    by_cases h : c = b
    · subst h
      rw [hb]
      refine ⟨?_, ?_, ?_⟩ <;> simp [cutA, cutB, has]
    · have h2 : ¬ b = c := fun e => h e.symm
      have e1 : cutA b (c :: t) = c :: cutA b t := by simp [cutA, h]
      have e2 : cutB b (c :: t) = cutB b t := by simp [cutB, h]
      have e3 : has b (c :: t) = has b t := by simp [has, h2]
      have hA : ∀ p : List UInt8, b ∉ p → ∀ r, cutA b (p ++ r) = p ++ cutA b r ∧ cutB b (p ++ r) = cutB b r ∧ has b (p ++ r) = has b r := by
        intro p
        induction p with
        | nil => intro _ r; exact ⟨rfl, rfl, rfl⟩
        | cons d q ih2 =>
          intro hp r
          have hd : ¬ b = d ∧ b ∉ q := by simpa using hp
          have hd2 : ¬ d = b := fun e => hd.1 e.symm
          obtain ⟨j1, j2, j3⟩ := ih2 hd.2 r
          refine ⟨?_, ?_, ?_⟩
          · rw [← List.cons_append.symm, List.cons_append, show cutA b (d :: (q ++ r)) = d :: cutA b (q ++ r) from by simp [cutA, hd2], j1]
          · rw [List.cons_append, show cutB b (d :: (q ++ r)) = cutB b (q ++ r) from by simp [cutB, hd2], j2]
          · rw [List.cons_append, show has b (d :: (q ++ r)) = has b (q ++ r) from by simp [has, hd.1], j3]
      obtain ⟨k1, k2, k3⟩ := hA (f c) (hn c h) (t.flatMap f)
      rw [e1, e2, e3, k1, k2, k3, ih.1, ih.2.1, ih.2.2]
      exact ⟨by rw [List.flatMap_cons], rfl, rfl⟩
theorem flat_split (f : UInt8 → List UInt8) (b : UInt8) (hb : f b = [b]) (hn : ∀ c, c ≠ b → b ∉ f c) : ∀ (n : Nat) (l : List UInt8), l.length ≤ n → splitB b (l.flatMap f) = (splitB b l).map fun z => z.flatMap f := by
  intro n
  induction n with
  | zero => intro l hl; obtain rfl : l = [] := List.length_eq_zero_iff.1 (by omega); rfl
  | succ n ih =>
    intro l hl
    obtain ⟨h1, h2, h3⟩ := flat_cut f b hb hn l
    rw [split_cut b (l.flatMap f), split_cut b l, h1, h2, h3]
    cases hh : has b l with
    | false => rfl
    | true =>
      have hlt : (cutB b l).length < l.length := by
        have e := cut_app b l hh
        have := congrArg List.length e
        rw [List.length_append, List.length_cons] at this
        omega
      rw [if_pos rfl, if_pos rfl, ih _ (by omega), List.map_cons]
theorem hd_no (b : UInt8) (hb : unr b = false) (h37 : b ≠ 37) (c : UInt8) : b ∉ [37, hd (c.toNat / 16), hd (c.toNat % 16)] := by
  intro h
  have h1 := hd_unr (c.toNat / 16) (by have := c.toNat_lt; omega)
  have h2 := hd_unr (c.toNat % 16) (by omega)
  rcases List.mem_cons.1 h with rfl | h
  · exact h37 rfl
  · rcases List.mem_cons.1 h with e | h
    · rw [e] at hb; rw [hb] at h1; cases h1
    · rcases List.mem_cons.1 h with e | h
      · rw [e] at hb; rw [hb] at h2; cases h2
      · cases h
theorem aq_no (b : UInt8) (hb : unr b = false) (h37 : b ≠ 37) (c : UInt8) (hc : c ≠ b) : b ∉ aqB c := by
  unfold aqB encB
  (repeat' split)
  · simpa using fun e : b = c => hc e.symm
  · simpa using fun e : b = c => hc e.symm
  · exact hd_no b hb h37 c
theorem aq_cut (l : List UInt8) : cutA 61 (aq l) = aq (cutA 61 l) ∧ cutB 61 (aq l) = aq (cutB 61 l) ∧ has 61 (aq l) = has 61 l := flat_cut aqB 61 (by decide) (fun c hc => aq_no 61 unr61 (by decide) c hc) l
theorem aq_split (l : List UInt8) : splitB 38 (aq l) = (splitB 38 l).map aq := flat_split aqB 38 (by decide) (fun c hc => aq_no 38 unr38 (by decide) c hc) l.length l (Nat.le_refl _)

theorem whole_at (x : UInt8) (hx0 : hx x = false) (h37 : x ≠ 37) : ∀ (n : Nat) (a b : List UInt8), a.length ≤ n → whole (a ++ x :: b) = true → whole a = true ∧ whole b = true := by
  intro n
  induction n with
  | zero =>
    intro a b ha h
    obtain rfl : a = [] := List.length_eq_zero_iff.1 (by omega)
    rw [List.nil_append, whole_cons h37] at h
    exact ⟨by unfold whole; rw [zs_nil]; rfl, h⟩
  | succ n ih =>
    intro a b ha h
    match a, ha, h with
    | [], _, h =>
      rw [List.nil_append, whole_cons h37] at h
      exact ⟨by unfold whole; rw [zs_nil]; rfl, h⟩
    | c :: t, ha, h =>
      by_cases ht : trip (c :: t ++ x :: b) = true
      · match t, ht, h, ha with
        | [], ht, _, _ =>
          match b, ht with
          | y :: b', ht => simp [trip, hx0] at ht
        | [d], ht, _, _ => simp [trip, hx0] at ht
        | d :: e :: t', ht, h, ha =>
          obtain rfl := trip_head ht
          have hh : hx d = true ∧ hx e = true := by simpa [trip] using ht
          have h' : whole (37 :: d :: e :: (t' ++ x :: b)) = true := h
          rw [whole_trip d e _ hh.1 hh.2] at h'
          rw [whole_trip d e _ hh.1 hh.2]
          exact ih t' b (by simp at ha; omega) h'
      · have ht' : trip (c :: (t ++ x :: b)) = false := by simpa using ht
        have h' : whole (c :: (t ++ x :: b)) = true := h
        have hc : c ≠ 37 := by
          rintro rfl
          unfold whole at h'
          rw [zs_one _ _ ht', List.all_cons] at h'
          simp at h'
        rw [whole_cons hc] at h' ⊢
        exact ih t b (by simp at ha; omega) h'
theorem hx38 : hx 38 = false := by decide +kernel
theorem hx61 : hx 61 = false := by decide +kernel
theorem whole_nil : whole [] = true := by unfold whole; rw [zs_nil]; rfl
theorem whole_cut (x : UInt8) (hx0 : hx x = false) (h37 : x ≠ 37) (l : List UInt8) (h : whole l = true) : whole (cutA x l) = true ∧ whole (cutB x l) = true := by
  cases hh : has x l with
  | false => rw [cutA_all x l hh, cutB_none x l hh]; exact ⟨h, whole_nil⟩
  | true =>
    have e := cut_app x l hh
    rw [← e] at h
    exact whole_at x hx0 h37 _ _ _ (Nat.le_refl _) h
theorem whole_split (x : UInt8) (hx0 : hx x = false) (h37 : x ≠ 37) : ∀ (n : Nat) (l : List UInt8), l.length ≤ n → whole l = true → ∀ z ∈ splitB x l, whole z = true := by
  intro n
  induction n with
  | zero =>
    intro l hl h z hz
    obtain rfl : l = [] := List.length_eq_zero_iff.1 (by omega)
    have : z = [] := by simpa [splitB] using hz
    rw [this]; exact whole_nil
  | succ n ih =>
    intro l hl h z hz
    obtain ⟨h1, h2⟩ := whole_cut x hx0 h37 l h
    rw [split_cut] at hz
    rcases List.mem_cons.1 hz with rfl | hz
    · exact h1
    · cases hh : has x l with
      | false => rw [hh] at hz; simp at hz
      | true =>
        rw [hh, if_pos rfl] at hz
        have hlt : (cutB x l).length < l.length := by
          have e := congrArg List.length (cut_app x l hh)
          rw [List.length_append, List.length_cons] at e
          omega
        exact ih _ (by omega) h2 z hz
theorem pair_aq (z : List UInt8) (h : whole z = true) : pairR (aq z) = pairR z := by
  obtain ⟨e1, e2, e3⟩ := aq_cut z
  obtain ⟨h1, h2⟩ := whole_cut 61 hx61 (by decide) z h
  unfold pairR
  rw [e1, e2, e3, spd_aq _ h1, spd_aq _ h2]
theorem pairs_aq (l : List UInt8) (h : whole l = true) : pairsR (aq l) = pairsR l := by
  unfold pairsR
  rw [aq_split, List.filter_map, List.map_map]
  have e : (splitB 38 l).filter ((fun z => decide (z ≠ [])) ∘ aq) = (splitB 38 l).filter fun z => decide (z ≠ []) := by
    refine List.filter_congr fun z _ => ?_
    simp [Function.comp, aq_none]
  rw [e]
  refine List.map_congr_left fun z hz => ?_
  exact pair_aq z (whole_split 38 hx38 (by decide) l.length l (Nat.le_refl _) h z (List.mem_filter.1 hz).1)
theorem whole_dec (l : List UInt8) : (decR l).2.2 = if whole l then 0 else 51 := by
  cases h : whole l with
  | true => rw [decR_whole l h]; rfl
  | false => rw [(decR_not l h).2]; rfl

end Tg
end Go.Proofs.YtlnlhhobmgiceaaGreatDoor
