/- Several texts as one. -/
import Derived.Test.YthdfgepnadgkjaaGreatDoorZzN
import Derived.Lib.Join
import Derived.Test.YthdfgepnadgkjaaGreatDoorZzL
/-
  span.Print, plainly: spans printed are read back.
-/
set_option linter.unusedVariables false
set_option linter.unusedSimpArgs false
namespace Go.Proofs.YthdfgepnadgkjaaGreatDoor
open Go.RowKit Go.Shelf
namespace Sn
open Oc Tg Ac

def jn : List (List UInt8) → List UInt8
  | [] => []
  | [x] => x
  | x :: y :: r => x ++ 44 :: jn (y :: r)
theorem join_jn : ∀ t : List (List UInt8), Lib.join t [44] = jn t
  | [] => rfl
  | [x] => Lib.join_one x _
  | x :: y :: r => by
    have ih := join_jn (y :: r)
    rw [Lib.join_cons] at ih ⊢
    show x ++ Lib.joinTail [44] (y :: r) = x ++ 44 :: jn (y :: r)
    rw [← ih]
    simp [Lib.joinTail]
theorem jn_snoc : ∀ (t : List (List UInt8)) (x : List UInt8), t ≠ [] → jn (t ++ [x]) = jn t ++ 44 :: x
  | [], x, h => absurd rfl h
  | [y], x, _ => rfl
  | y :: z :: r, x, _ => by
    have ih := jn_snoc (z :: r) x (by simp)
    show y ++ 44 :: jn ((z :: r) ++ [x]) = (y ++ 44 :: jn (z :: r)) ++ 44 :: x
    rw [ih]
    simp
theorem jn_len (M : Nat) : ∀ t : List (List UInt8), (∀ x ∈ t, x.length ≤ M) → (jn t).length ≤ (M + 1) * t.length
  | [], _ => by simp [jn]
  | [x], h => by
    have := h x (by simp)
    show x.length ≤ _
    simp
    omega
  | x :: y :: r, h => by
    have ih := jn_len M (y :: r) (fun z hz => h z (List.mem_cons_of_mem _ hz))
    have := h x (by simp)
    show (x ++ 44 :: jn (y :: r)).length ≤ _
    rw [List.length_append, List.length_cons]
    rw [List.length_cons, Nat.mul_succ]
    omega
theorem lst_run : ∀ (l cur : List UInt8), (∀ c ∈ l, c ≠ 44 ∧ c ≠ 34) → lst cur l = some (addEl (trim (cur ++ l)) [])
  | [], cur, _ => by rw [lst_nil, List.append_nil]
  | c :: l, cur, h => by
    obtain ⟨h1, h2⟩ := h c (by simp)
    rw [lst_on cur l c h1 h2, lst_run l (cur ++ [c]) (fun x hx => h x (by simp [hx]))]
    simp
theorem trim_keep {l : List UInt8} (h : ∀ c ∈ l, blankB c = false) : trim l = l := by
  have d : ∀ m : List UInt8, (∀ c ∈ m, blankB c = false) → m.dropWhile blankB = m := fun m hm => by
    cases m with
    | nil => rfl
    | cons c m => rw [List.dropWhile_cons, hm c (by simp)]; rfl
  unfold trim trimR trimL
  rw [d l h, d _ (fun c hc => h c (List.mem_reverse.1 hc)), List.reverse_reverse]
theorem ext_dig {x : Sp} (h0 : 0 ≤ x.1) (h1 : x.1 < x.2) (c : UInt8) (hc : c ∈ extR x) : (48 ≤ c.toNat ∧ c.toNat ≤ 57) ∨ c = 45 := by
  unfold extR at hc
  simp only [List.mem_append, List.mem_singleton] at hc
  rcases hc with (hc | rfl) | hc
  · exact .inl (itoa_dig h0 c hc)
  · exact .inr rfl
  · exact .inl (itoa_dig (by omega) c hc)
theorem dig_plain (c : UInt8) (h : (48 ≤ c.toNat ∧ c.toNat ≤ 57) ∨ c = 45) : c ≠ 44 ∧ c ≠ 34 ∧ blankB c = false := by
  have k : ∀ n : Nat, n < 256 → ((48 ≤ (UInt8.ofNat n).toNat ∧ (UInt8.ofNat n).toNat ≤ 57) ∨ UInt8.ofNat n = 45) → UInt8.ofNat n ≠ 44 ∧ UInt8.ofNat n ≠ 34 ∧ blankB (UInt8.ofNat n) = false := by decide +kernel
  have := k c.toNat c.toNat_lt
  rw [UInt8.ofNat_toNat] at this
  exact this h
theorem ext_ne (x : Sp) : extR x ≠ [] := by unfold extR; simp
theorem lst_ext {x : Sp} (h0 : 0 ≤ x.1) (h1 : x.1 < x.2) : lst [] (extR x) = some [extR x] := by
  rw [lst_run _ [] (fun c hc => ⟨(dig_plain c (ext_dig h0 h1 c hc)).1, (dig_plain c (ext_dig h0 h1 c hc)).2.1⟩), List.nil_append, trim_keep (fun c hc => (dig_plain c (ext_dig h0 h1 c hc)).2.2), addEl_some (ext_ne x)]
theorem lst_jn : ∀ t : List Sp, t ≠ [] → (∀ x ∈ t, 0 ≤ x.1 ∧ x.1 < x.2) → lst [] (jn (t.map extR)) = some (t.map extR)
  | [], h, _ => absurd rfl h
  | [x], _, h => lst_ext (h x (by simp)).1 (h x (by simp)).2
  | x :: y :: r, _, h => by
    have hx := lst_ext (h x (by simp)).1 (h x (by simp)).2
    have ih := lst_jn (y :: r) (by simp) (fun z hz => h z (List.mem_cons_of_mem _ hz))
    show lst [] (extR x ++ 44 :: jn ((y :: r).map extR)) = _
    rw [lst_split _ (extR x) [] _ _ (Nat.le_refl _) hx, ih]
    rfl
theorem cnt_itoa {n : Int} (h : 0 ≤ n) (hm : n ≤ 4611686018427387904) : cnt (Lib.itoa n) = (n, true) := by
  unfold cnt
  rw [numR_itoa h hm]
  simp
theorem ask_ext {x : Sp} {size : Int} (h0 : 0 ≤ x.1) (h1 : x.1 < x.2) (h2 : x.2 ≤ 4611686018427387904) : askP (extR x) size = (x, true) := by
  have e : extR x = Lib.itoa x.1 ++ 45 :: Lib.itoa (x.2 - 1) := by unfold extR; simp
  obtain ⟨i1, i2, i3⟩ := cut_at 45 (Lib.itoa x.1) (Lib.itoa (x.2 - 1)) (fun c hc => itoa_no h0 45 (by decide) c hc)
  unfold askP
  rw [e, i1, i2, i3, if_neg (by simp), if_neg (itoa_ne h0), if_neg (itoa_ne (by omega)), cnt_itoa h0 (by omega), cnt_itoa (by omega) (by omega)]
  obtain ⟨a, b⟩ := x
  dsimp only at *
  rw [decide_eq_true (by omega)]
  congr 2
  omega
def prtR (t : List Sp) (size : Int) : List UInt8 × Int :=
  if size < 0 then ([], 1) else if t.length = 0 then ([], 91) else if allSp t size = true then ([98, 121, 116, 101, 115, 61] ++ jn (t.map extR), 0) else ([], 91)
theorem keep_ext {x : Sp} {size : Int} (h : isSp x size = true) (hs : size ≤ 4611686018427387904) : keepN size (extR x) = some x := by
  have hh : 0 ≤ x.1 ∧ x.1 < x.2 ∧ x.2 ≤ size := of_decide_eq_true h
  obtain ⟨h0, h1, h2⟩ := hh
  unfold keepN
  rw [ask_ext h0 h1 (by omega)]
  have e : wth x size = x := by
    unfold wth
    obtain ⟨a, b⟩ := x
    dsimp only at *
    congr 1 <;> omega
  rw [e, if_neg (by unfold emp; simp; omega)]
theorem keep_all {size : Int} : ∀ t : List Sp, (∀ x ∈ t, isSp x size = true) → size ≤ 4611686018427387904 → (t.map extR).filterMap (keepN size) = t
  | [], _, _ => rfl
  | x :: t, h, hs => by
    rw [List.map_cons, List.filterMap_cons, keep_ext (h x (by simp)) hs]
    dsimp only
    rw [keep_all t (fun y hy => h y (List.mem_cons_of_mem _ hy)) hs]
theorem par_prt {t : List Sp} {size : Int} (h0 : 0 ≤ size) (ht : t ≠ []) (ha : allSp t size = true) (hs : size ≤ 4611686018427387904) : parR ([98, 121, 116, 101, 115, 61] ++ jn (t.map extR)) size = (t, 0) := by
  have hx : ∀ x ∈ t, isSp x size = true := List.all_eq_true.1 ha
  have hb : ∀ x ∈ t, 0 ≤ x.1 ∧ x.1 < x.2 ∧ x.2 ≤ size := fun x h => of_decide_eq_true (hx x h)
  have hl := lst_jn t ht (fun x h => ⟨(hb x h).1, (hb x h).2.1⟩)
  have hr := listR_some hl
  have hpos : 0 < t.length := List.length_pos_iff.2 ht
  have e : elR ([98, 121, 116, 101, 115, 61] ++ jn (t.map extR)) = (t.map extR, true) := by
    rw [elR_yes (by simp) (by simp; decide +kernel)]
    rw [show List.drop 6 ([98, 121, 116, 101, 115, 61] ++ jn (t.map extR)) = jn (t.map extR) by simp, hr]
    simp [hpos]
  unfold parR
  rw [if_neg (by omega), e, if_neg (by simp)]
  dsimp only
  rw [ansR_ok (fun j hj => by
    rw [List.length_map] at hj
    rw [List.getD_eq_getElem?_getD, List.getElem?_map, List.getElem?_eq_getElem hj]
    have := hb t[j] (List.getElem_mem hj)
    show (askP (extR t[j]) size).2 = true
    rw [ask_ext this.1 this.2.1 (by omega)])]
  have ek := keep_all t hx hs
  rw [ek, if_neg (by omega)]

end Sn
end Go.Proofs.YthdfgepnadgkjaaGreatDoor

/-
  The document's Is, ends, Tell, TellNone, Cut.
-/
set_option linter.unusedVariables false
set_option linter.unusedSimpArgs false
namespace Go.Proofs.YthdfgepnadgkjaaGreatDoor
open Go.RowKit Go.Shelf
open Go.Sort (grow alloc_eq_grow grow_grow grow_empty)
namespace Sn
open Oc Tg Ac

end Sn
end Go.Proofs.YthdfgepnadgkjaaGreatDoor

/-
  span.Print.
-/
set_option linter.unusedVariables false
set_option linter.unusedSimpArgs false
namespace Go.Proofs.YthdfgepnadgkjaaGreatDoor
open Go.RowKit Go.Shelf
namespace Sn
open Oc Tg Ac

theorem set_own {B g n c : Nat} {t : List (List UInt8)} {w : World} (h : OwnS B (.slice (some ⟨g, 0, none⟩) n c) t w) (j : Nat) (hj : j < t.length) (l : List UInt8) :
    OwnS B (.slice (some ⟨g, 0, none⟩) n c) (t.set j l) (w.setCell ⟨g, j, none⟩ (.string (str l))) ∧ w.frozen? ⟨g, j, none⟩ = false ∧ B ≤ g := by
  obtain ⟨h1, h2⟩ := h
  rcases h2 with ⟨hv, _⟩ | ⟨g', cap, cur, hv, hB, hg, hn, hm, hsz, htake⟩
  · cases hv
  · injection hv with e1 e2 e3
    injection e1 with e1
    injection e1 with e1
    subst e1 e3
    have e : encS (t.set j l) = (encS t).set j (.string (str l)) := by unfold encS; rw [List.map_set]
    refine ⟨⟨by rw [e]; simpa using h1, .inr ⟨g, c, cur.setIfInBounds j (.string (str l)), by rw [List.length_set, e2], hB, by simp [World.setCell, Array.getElem?_modify, hg], by rw [List.length_set]; exact hn, hm, by simpa using hsz, ?_⟩⟩, Lib.frozen_of_heap hg j, hB⟩
    rw [e, ← htake, List.length_set]
    simp [List.take_set]
theorem made1 (n : Nat) : (madeCells #[(.string ⟨#[]⟩ : Value)] (n * 1)).toList = encS (List.replicate n []) := by
  apply List.ext_getElem?
  intro i
  by_cases hi : i < n
  · have e1 : (madeCells #[(.string ⟨#[]⟩ : Value)] (n * 1)).toList[i]? = some (.string ⟨#[]⟩) := by
      unfold madeCells
      simp [hi, Nat.mod_one]
    rw [e1]
    unfold encS
    rw [List.getElem?_map, List.getElem?_replicate, if_pos hi]
    rfl
  · rw [List.getElem?_eq_none (by simp [size_madeCells]; omega), List.getElem?_eq_none (by simp [encS]; omega)]
theorem run_mkS (W : World) (n : Nat) (hn : n ≤ 4294967296) : (Instr.makeSlice 43 (.int .i64 (n : Int)) (.int .i64 (n : Int))).run Tryz.prog W = .ok (.slice (some ⟨W.heap.size, 0, none⟩) n n) (W.alloc (.cells (encS (List.replicate n [])).toArray 9 (0, 0))) := by
  obtain ⟨i0, hi, hz0, hz1, hz2⟩ := infoS
  have hr := run_make (P := Tryz.prog) W 43 9 i0 (.string ⟨#[]⟩) Tryz.underlying43 hi hz0 .i64 .i64 (n : Int) (n : Int) (by omega) (Int.le_refl _) (by rw [hz2]; omega) (by omega)
  simp only [Int.toNat_natCast, hz1] at hr
  rw [hr, ← made1]
  rfl
theorem own_made (W : World) (n : Nat) (hn : n ≤ 4294967296) : OwnS W.heap.size (.slice (some ⟨W.heap.size, 0, none⟩) n n) (List.replicate n []) (W.alloc (.cells (encS (List.replicate n [])).toArray 9 (0, 0))) :=
  ⟨by simp [encS], .inr ⟨W.heap.size, n, _, by simp, Nat.le_refl _, heap_alloc_new W _, by simp, by unfold maxLen; simp; omega, by simp [encS], by simp [encS]⟩⟩
def extK (t : List Sp) (k : Nat) : List (List UInt8) := (t.take k).map extR ++ List.replicate (t.length - k) []
theorem extK_zero (t : List Sp) : extK t 0 = List.replicate t.length [] := by simp [extK]
theorem extK_all (t : List Sp) : extK t t.length = t.map extR := by simp [extK]
theorem extK_len (t : List Sp) (k : Nat) (h : k ≤ t.length) : (extK t k).length = t.length := by unfold extK; simp; omega
theorem extK_set (t : List Sp) (k : Nat) (h : k < t.length) : (extK t k).set k (extR (nthN t k)) = extK t (k + 1) := by
  unfold extK
  have hl : ((t.take k).map extR).length = k := by simp; omega
  have e : t.take (k + 1) = t.take k ++ [nthN t k] := by rw [List.take_succ_eq_append_getElem h, nthN_mem' h]
  rw [List.set_append, if_neg (by omega), hl, Nat.sub_self, e, List.map_append, show t.length - k = (t.length - (k + 1)) + 1 by omega, List.replicate_succ, List.set_cons_zero]
  simp
theorem ext_short {t : List Sp} {size : Int} (hs : size ≤ 9223372036854775807) (ha : allSp t size = true) : ∀ x ∈ t.map extR, x.length ≤ 43 := by
  intro y hy
  obtain ⟨x, hx, rfl⟩ := List.mem_map.1 hy
  have hh : 0 ≤ x.1 ∧ x.1 < x.2 ∧ x.2 ≤ size := of_decide_eq_true (List.all_eq_true.1 ha x hx)
  exact extR_len x (by omega) (by omega) (by omega) (by omega)

end Sn
end Go.Proofs.YthdfgepnadgkjaaGreatDoor
