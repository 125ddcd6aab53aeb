/- Several texts as one. -/
import Derived.Test.YtggmidkmpgjnoaaDoorMgC
import Derived.Lib.SlTrimSet
import Derived.Lib.IndexBytes
import Derived.Shelf.Strings.Builder1
/-
  Texts without the blanks around.
-/
set_option linter.unusedVariables false
set_option linter.unusedSimpArgs false
namespace Go.Proofs.YtggmidkmpgjnoaaDoor
open Go.RowKit
namespace Oc

def trimL (l : List UInt8) : List UInt8 := l.dropWhile blankB
def trimR (l : List UInt8) : List UInt8 := (l.reverse.dropWhile blankB).reverse
def trim (l : List UInt8) : List UInt8 := trimR (trimL l)

theorem trimL_cons (x : UInt8) (l : List UInt8) : trimL (x :: l) = if blankB x then trimL l else x :: l := by
  unfold trimL; rw [List.dropWhile_cons]
theorem trimR_snoc (l : List UInt8) (x : UInt8) : trimR (l ++ [x]) = if blankB x then trimR l else l ++ [x] := by
  unfold trimR
  rw [List.reverse_append]
  show (List.dropWhile blankB (x :: l.reverse)).reverse = _
  rw [List.dropWhile_cons]
  split
  · rfl
  · simp
theorem trimR_nil : trimR [] = [] := rfl
theorem trimR_blank : ∀ l : List UInt8, l.all blankB = true → trimR l = [] := by
  intro l h
  unfold trimR
  have : List.dropWhile blankB l.reverse = [] := by
    have e : List.dropWhile blankB (l.reverse ++ []) = List.dropWhile blankB [] := List.dropWhile_append_of_pos (fun y hy => List.all_eq_true.1 h y (by simpa using hy))
    simpa using e
  rw [this]; rfl
theorem dropWhile_append_right (p : UInt8 → Bool) : ∀ (a b : List UInt8), a.all p = false → (a ++ b).dropWhile p = a.dropWhile p ++ b
  | [], b, h => by simp at h
  | x :: a, b, h => by
    rw [List.cons_append, List.dropWhile_cons, List.dropWhile_cons]
    cases hx : p x with
    | true =>
      have : a.all p = false := by simpa [hx] using h
      simp only [if_true]
      exact dropWhile_append_right p a b this
    | false => simp
theorem trimR_cons (x : UInt8) (l : List UInt8) : trimR (x :: l) = if l.all blankB then (if blankB x then [] else [x]) else x :: trimR l := by
  unfold trimR
  rw [List.reverse_cons]
  by_cases h : l.all blankB = true
  · rw [if_pos h]
    have e : List.dropWhile blankB (l.reverse ++ [x]) = List.dropWhile blankB [x] := List.dropWhile_append_of_pos (fun y hy => List.all_eq_true.1 h y (by simpa using hy))
    rw [e, List.dropWhile_cons]
    split <;> rfl
  · rw [if_neg h]
    have h' : l.reverse.all blankB = false := by
      rw [List.all_reverse]
      simpa using h
    rw [dropWhile_append_right blankB _ _ h']
    simp
theorem trim_comm : ∀ l : List UInt8, trimL (trimR l) = trimR (trimL l)
  | [] => rfl
  | x :: l => by
    have ih := trim_comm l
    rw [trimL_cons, trimR_cons]
    cases hx : blankB x with
    | true =>
      rw [if_pos rfl]
      by_cases h : l.all blankB = true
      · rw [if_pos h, if_pos rfl, ← ih, trimR_blank l h]
      · rw [if_neg h, trimL_cons, hx, if_pos rfl]
        exact ih
    | false =>
      rw [if_neg (show ¬ (false = true) by simp), if_neg (show ¬ (false = true) by simp), trimR_cons, hx, if_neg (show ¬ (false = true) by simp)]
      by_cases h : l.all blankB = true
      · rw [if_pos h, trimL_cons, hx, if_neg (by simp)]
      · rw [if_neg h, trimL_cons, hx, if_neg (by simp)]
theorem blank_set (c : UInt8) : ([32, 9] : List UInt8).contains c = blankB c := by
  have := c.toNat_lt
  unfold blankB blankI
  rw [Bool.eq_iff_iff, decide_eq_true_iff]
  simp only [List.contains_cons, List.contains_nil, Bool.or_false, Bool.or_eq_true, beq_iff_eq]
  constructor
  · rintro (rfl | rfl)
    · exact .inl rfl
    · exact .inr rfl
  · rintro (h | h)
    · exact .inl (UInt8.toNat_inj.1 (by show c.toNat = 32; omega))
    · exact .inr (UInt8.toNat_inj.1 (by show c.toNat = 9; omega))
theorem trimS_eq (l : List UInt8) : Lib.trimS l [32, 9] = trim l := by
  have e : (fun c => ([32, 9] : List UInt8).contains c) = blankB := funext blank_set
  unfold Lib.trimS Lib.trimLeftS Lib.trimRightS
  rw [e]
  exact trim_comm l
theorem trimLeftS_eq (l : List UInt8) : Lib.trimLeftS l [32, 9] = trimL l := by
  have e : (fun c => ([32, 9] : List UInt8).contains c) = blankB := funext blank_set
  unfold Lib.trimLeftS
  rw [e]
  rfl
theorem dropWhile_le (p : UInt8 → Bool) : ∀ l : List UInt8, (l.dropWhile p).length ≤ l.length
  | [] => Nat.le_refl _
  | x :: l => by
    rw [List.dropWhile_cons]
    split
    · have := dropWhile_le p l
      simp
      omega
    · exact Nat.le_refl _
theorem trimL_le (l : List UInt8) : (trimL l).length ≤ l.length := dropWhile_le _ _
theorem trimR_le (l : List UInt8) : (trimR l).length ≤ l.length := by
  unfold trimR
  rw [List.length_reverse]
  have := dropWhile_le blankB l.reverse
  simpa using this
theorem trim_le (l : List UInt8) : (trim l).length ≤ l.length := Nat.le_trans (trimR_le _) (trimL_le _)

def strLenV : Value → Nat | .string t => t.size | _ => 0

theorem cons_of {t : ByteArray} (h : ¬ t.size = 0) : t.data.toList = t.data.toList.getD 0 0 :: t.data.toList.drop 1 := by
  cases e : t.data.toList with
  | nil => exact absurd e (list_ne h)
  | cons a l => rfl
theorem snoc_of {t : ByteArray} (h : ¬ t.size = 0) : t.data.toList = t.data.toList.take (t.size - 1) ++ [t.data.toList.getD (t.size - 1) 0] := by
  have := take_snoc t (t.size - 1) (by omega)
  rw [show t.size - 1 + 1 = t.size by omega, List.take_of_length_le (by simp)] at this
  exact this
theorem tail_list (t : ByteArray) : (t.extract 1 t.size).data.toList = t.data.toList.drop 1 := Lib.extract_to_end t 1
theorem init_list (t : ByteArray) : (t.extract 0 (t.size - 1)).data.toList = t.data.toList.take (t.size - 1) := by rw [Lib.extract_data]; simp

end Oc
end Go.Proofs.YtggmidkmpgjnoaaDoor

/-
  Lists, plainly: over lists of bytes.
-/
set_option linter.unusedVariables false
set_option linter.unusedSimpArgs false
namespace Go.Proofs.YtggmidkmpgjnoaaDoor
namespace Oc

/-- An element that is not empty comes ahead. -/
def addEl (x : List UInt8) (t : List (List UInt8)) : List (List UInt8) := if x = [] then t else x :: t
/-- The elements: what stands since the last comma, and what is left; by fuel. -/
def lgo : Nat → List UInt8 → List UInt8 → Option (List (List UInt8))
  | 0, _, _ => none
  | f + 1, cur, [] => some (addEl (trim cur) [])
  | f + 1, cur, c :: r =>
    if c = 44 then (lgo f [] r).map (addEl (trim cur))
    else if c = 34 then (if qlen (c :: r) = 0 then none else lgo f (cur ++ (c :: r).take (qlen (c :: r))) ((c :: r).drop (qlen (c :: r))))
    else lgo f (cur ++ [c]) r
def lst (cur r : List UInt8) : Option (List (List UInt8)) := lgo (r.length + 1) cur r

theorem lgo_fuel : ∀ (n : Nat) (r : List UInt8) (f : Nat) (cur : List UInt8), r.length ≤ n → r.length < f → lgo f cur r = lst cur r
  | n, [], 0, cur, _, h => by simp at h
  | n, [], f + 1, cur, _, _ => rfl
  | 0, c :: r, f, cur, h, _ => by simp at h
  | n + 1, c :: r, 0, cur, _, h => by simp at h
  | n + 1, c :: r, f + 1, cur, hn, hf => by
    have hl : r.length ≤ n := by simpa using hn
    have hf' : r.length < f := by simpa using hf
    unfold lst
    show lgo (f + 1) cur (c :: r) = lgo (r.length + 1 + 1) cur (c :: r)
    rw [lgo, lgo]
    by_cases h44 : c = 44
    · rw [if_pos h44, if_pos h44, lgo_fuel n r f [] hl hf', lgo_fuel n r (r.length + 1) [] hl (by omega)]
    · rw [if_neg h44, if_neg h44]
      by_cases h34 : c = 34
      · rw [if_pos h34, if_pos h34]
        by_cases hq : qlen (c :: r) = 0
        · rw [if_pos hq, if_pos hq]
        · rw [if_neg hq, if_neg hq]
          have hd : ((c :: r).drop (qlen (c :: r))).length ≤ r.length := by
            rw [List.length_drop]
            simp
            omega
          rw [lgo_fuel n _ f _ (by omega) (by omega), lgo_fuel n _ (r.length + 1) _ (by omega) (by omega)]
      · rw [if_neg h34, if_neg h34, lgo_fuel n r f _ hl hf', lgo_fuel n r (r.length + 1) _ hl (by omega)]

theorem lst_nil (cur : List UInt8) : lst cur [] = some (addEl (trim cur) []) := rfl
theorem lst_comma (cur r : List UInt8) (c : UInt8) (h : c = 44) : lst cur (c :: r) = (lst [] r).map (addEl (trim cur)) := by
  unfold lst
  show lgo (r.length + 1 + 1) cur (c :: r) = _
  rw [lgo, if_pos h]
theorem lst_bad (cur r : List UInt8) (c : UInt8) (h : c = 34) (hq : qlen (c :: r) = 0) : lst cur (c :: r) = none := by
  unfold lst
  show lgo (r.length + 1 + 1) cur (c :: r) = _
  rw [lgo, if_neg (by rw [h]; decide), if_pos h, if_pos hq]
theorem lst_quote (cur r : List UInt8) (c : UInt8) (h : c = 34) (hq : ¬ qlen (c :: r) = 0) : lst cur (c :: r) = lst (cur ++ (c :: r).take (qlen (c :: r))) ((c :: r).drop (qlen (c :: r))) := by
  have hd : ((c :: r).drop (qlen (c :: r))).length ≤ r.length := by
    rw [List.length_drop]
    simp
    omega
  rw [← lgo_fuel ((c :: r).drop (qlen (c :: r))).length _ (r.length + 1) _ (Nat.le_refl _) (by omega)]
  unfold lst
  show lgo (r.length + 1 + 1) cur (c :: r) = _
  rw [lgo, if_neg (by rw [h]; decide), if_pos h, if_neg hq]
theorem lst_on (cur r : List UInt8) (c : UInt8) (h : c ≠ 44) (h2 : c ≠ 34) : lst cur (c :: r) = lst (cur ++ [c]) r := by
  unfold lst
  show lgo (r.length + 1 + 1) cur (c :: r) = _
  rw [lgo, if_neg h, if_neg h2]

/-- What List answers. -/
def listR (l : List UInt8) : List (List UInt8) × Int := match lst [] l with | some t => (t, 0) | none => ([], 14)
theorem listR_some {l : List UInt8} {t : List (List UInt8)} (h : lst [] l = some t) : listR l = (t, 0) := by unfold listR; rw [h]
theorem listR_none {l : List UInt8} (h : lst [] l = none) : listR l = ([], 14) := by unfold listR; rw [h]
theorem addEl_none {x : List UInt8} (h : x = []) (t : List (List UInt8)) : addEl x t = t := by unfold addEl; rw [if_pos h]
theorem addEl_some {x : List UInt8} (h : x ≠ []) (t : List (List UInt8)) : addEl x t = x :: t := by unfold addEl; rw [if_neg h]
theorem addEl_app (x : List UInt8) (t : List (List UInt8)) : addEl x t = addEl x [] ++ t := by unfold addEl; split <;> simp

/-! What follows -/
theorem scan_append : ∀ (l x : List UInt8) (e : Bool) (k : Nat), qscan e l = some k → qscan e (l ++ x) = some k
  | [], x, e, k, h => by simp [qscan] at h
  | c :: l, x, e, k, h => by
    rw [List.cons_append]
    rw [qscan] at h ⊢
    split at h
    · cases h
    · rename_i hf
      rw [if_neg hf]
      split at h
      · rename_i he
        rw [if_pos he]
        obtain ⟨j, hj, rfl⟩ := Option.map_eq_some_iff.1 h
        rw [scan_append l x _ j hj]
        rfl
      · rename_i he
        rw [if_neg he]
        split at h
        · rename_i h92
          rw [if_pos h92]
          obtain ⟨j, hj, rfl⟩ := Option.map_eq_some_iff.1 h
          rw [scan_append l x _ j hj]
          rfl
        · rename_i h92
          rw [if_neg h92]
          split at h
          · rename_i h34
            rw [if_pos h34]
            exact h
          · rename_i h34
            rw [if_neg h34]
            obtain ⟨j, hj, rfl⟩ := Option.map_eq_some_iff.1 h
            rw [scan_append l x _ j hj]
            rfl
theorem qlen_append (l x : List UInt8) (h : ¬ qlen l = 0) : qlen (l ++ x) = qlen l := by
  cases l with
  | nil => exact absurd rfl h
  | cons c l =>
    rw [List.cons_append, qlen_cons, qlen_cons]
    rw [qlen_cons] at h
    by_cases hc : c = 34
    · rw [if_pos hc] at h ⊢
      rw [if_pos hc]
      cases hq : qscan false l with
      | none => rw [hq] at h; exact absurd rfl h
      | some k => rw [scan_append l x false k hq]
    · rw [if_neg hc] at h; exact absurd rfl h

theorem lst_split : ∀ (n : Nat) (a : List UInt8) (cur b : List UInt8) (t : List (List UInt8)), a.length ≤ n → lst cur a = some t → lst cur (a ++ 44 :: b) = (lst [] b).map (t ++ ·)
  | n, [], cur, b, t, _, h => by
    rw [lst_nil] at h
    cases h
    rw [List.nil_append, lst_comma _ _ _ rfl]
    congr 1
    funext x
    exact addEl_app _ x
  | 0, c :: a, cur, b, t, hn, _ => by simp at hn
  | n + 1, c :: a, cur, b, t, hn, h => by
    have hl : a.length ≤ n := by simpa using hn
    rw [List.cons_append]
    by_cases h44 : c = 44
    · rw [lst_comma _ _ _ h44] at h ⊢
      obtain ⟨u, hu, rfl⟩ := Option.map_eq_some_iff.1 h
      rw [lst_split n a [] b u hl hu, Option.map_map]
      congr 1
      funext x
      show addEl _ (u ++ x) = addEl _ u ++ x
      unfold addEl
      split <;> rfl
    · by_cases h34 : c = 34
      · by_cases hq : qlen (c :: a) = 0
        · rw [lst_bad _ _ _ h34 hq] at h; cases h
        · rw [lst_quote _ _ _ h34 hq] at h
          have e := qlen_append (c :: a) (44 :: b) hq
          rw [List.cons_append] at e
          rw [lst_quote _ _ _ h34 (by rw [e]; exact hq), e]
          have hb := qlen_bd (c :: a)
          have e1 : (c :: (a ++ 44 :: b)).take (qlen (c :: a)) = (c :: a).take (qlen (c :: a)) := by
            rw [← List.cons_append, List.take_append_of_le_length hb.1]
          have e2 : (c :: (a ++ 44 :: b)).drop (qlen (c :: a)) = (c :: a).drop (qlen (c :: a)) ++ 44 :: b := by
            rw [← List.cons_append, List.drop_append_of_le_length hb.1]
          rw [e1, e2]
          exact lst_split n _ _ b t (by rw [List.length_drop]; simp; omega) h
      · rw [lst_on _ _ _ h44 h34] at h ⊢
        exact lst_split n a _ b t hl h

theorem trim_blank (l : List UInt8) : trim (32 :: l) = trim l := by
  unfold trim
  rw [trimL_cons, if_pos (by decide)]
theorem lst_blank : ∀ (n : Nat) (r cur : List UInt8), r.length ≤ n → lst (32 :: cur) r = lst cur r
  | n, [], cur, _ => by rw [lst_nil, lst_nil, trim_blank]
  | 0, c :: r, cur, h => by simp at h
  | n + 1, c :: r, cur, h => by
    have hl : r.length ≤ n := by simpa using h
    by_cases h44 : c = 44
    · rw [lst_comma _ _ _ h44, lst_comma _ _ _ h44, trim_blank]
    · by_cases h34 : c = 34
      · by_cases hq : qlen (c :: r) = 0
        · rw [lst_bad _ _ _ h34 hq, lst_bad _ _ _ h34 hq]
        · rw [lst_quote _ _ _ h34 hq, lst_quote _ _ _ h34 hq, List.cons_append]
          exact lst_blank n _ _ (by rw [List.length_drop]; simp; omega)
      · rw [lst_on _ _ _ h44 h34, lst_on _ _ _ h44 h34, List.cons_append]
        exact lst_blank n r _ hl

end Oc
end Go.Proofs.YtggmidkmpgjnoaaDoor

/-
  A strings.Builder of one's own: a byte written. The frame says that rows with a mark (conversions of strings) stay.
-/
set_option linter.unusedVariables false
set_option linter.unusedSimpArgs false
namespace Go.Proofs.YtggmidkmpgjnoaaDoor
open Go.RowKit Go.Shelf
namespace Oc

theorem infoByte : (Tryd.prog.info? 5).map (fun i => (i.zero, i.size, i.bytes)) = some (some (.int .u8 0), 1, 1) := by kernel_rfl

/-- Rows with a mark stay as they are. -/
def Marked (w w' : World) : Prop := ∀ (k : Nat) (C : Array Value) (t : TypeId) (m : Nat × Nat), w.heap[k]? = some (Obj.cells C t m) → m ≠ (0, 0) → w'.heap[k]? = w.heap[k]?
theorem Marked.refl (w : World) : Marked w w := fun _ _ _ _ _ _ => rfl
theorem Marked.trans {a b c : World} (h : Marked a b) (g : Marked b c) : Marked a c := fun k C t m hk hm => by
  have h1 := h k C t m hk hm
  rw [g k C t m (h1.trans hk) hm, h1]

theorem marked_set {w : World} {b j : Nat} {cs : Array Value} {T : TypeId} (hb : w.heap[b]? = some (.cells cs T (0, 0))) (v : Value) : Marked w (w.setCell ⟨b, j, none⟩ v) := by
  intro k C t m hk hm
  refine Below.heap_setCell _ _ _ _ (fun e => ?_)
  have e : k = b := e
  subst e
  rw [hb] at hk
  simp only [Option.some.injEq, Obj.cells.injEq] at hk
  exact hm hk.2.2.symm
theorem marked_grown {w w' : World} {B : Nat} {v : Value} {n : Nat} {xs : List Value} (hg : w.grownBy w' v.ownBlock) (ho : w.ownsRow B 5 1 v n xs) : Marked w w' := by
  intro k C t m hk hm
  have hlt : k < w.heap.size := by
    rcases Nat.lt_or_ge k w.heap.size with h | h
    · exact h
    · simp [Array.getElem?_eq_none h] at hk
  refine hg.block k hlt (fun e => ?_)
  rcases ho.2 with ⟨rfl, _⟩ | ⟨g, cap, cur, rfl, _, hgg, _⟩
  · simp [Value.ownBlock] at e
  · simp only [Value.ownBlock, Option.some.injEq] at e
    subst e
    rw [hgg] at hk
    simp only [Option.some.injEq, Obj.cells.injEq] at hk
    exact hm hk.2.2.symm
theorem marked_alloc (w : World) (o : Obj) : Marked w (w.alloc o) := by
  intro k C t m hk hm
  have hlt : k < w.heap.size := by
    rcases Nat.lt_or_ge k w.heap.size with h | h
    · exact h
    · simp [Array.getElem?_eq_none h] at hk
  exact Lib.alloc_old w o k hlt

end Oc
end Go.Proofs.YtggmidkmpgjnoaaDoor
