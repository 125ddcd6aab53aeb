/- Several texts as one. -/
import Derived.Test.YtkaciaiooidohaaDoorZzM
import Derived.Test.YtkaciaiooidohaaDoorZzL
/-
  span.Print, plainly: spans printed are read back.
-/
set_option linter.unusedVariables false
set_option linter.unusedSimpArgs false
namespace Go.Proofs.YtkaciaiooidohaaDoor
open Go.RowKit Go.Shelf
namespace Sn
open Oc Tg Ac

def jn : List (List UInt8) → List UInt8
  | [] => []
  | [x] => x
  | x :: y :: r => x ++ 44 :: jn (y :: r)
theorem join_jn : ∀ t : List (List UInt8), Lib.join t [44] = jn t
  | [] => rfl
  | [x] => Lib.join_one x _
  | x :: y :: r => by
    have ih := join_jn (y :: r)
    rw [Lib.join_cons] at ih ⊢
    show x ++ Lib.joinTail [44] (y :: r) = x ++ 44 :: jn (y :: r)
    rw [← ih]
    simp [Lib.joinTail]
theorem jn_snoc : ∀ (t : List (List UInt8)) (x : List UInt8), t ≠ [] → jn (t ++ [x]) = jn t ++ 44 :: x
  | [], x, h => absurd rfl h
  | [y], x, _ => rfl
  | y :: z :: r, x, _ => by
    have ih := jn_snoc (z :: r) x (by simp)
    show y ++ 44 :: jn ((z :: r) ++ [x]) = (y ++ 44 :: jn (z :: r)) ++ 44 :: x
    rw [ih]
    simp
theorem jn_len (M : Nat) : ∀ t : List (List UInt8), (∀ x ∈ t, x.length ≤ M) → (jn t).length ≤ (M + 1) * t.length
  | [], _ => by simp [jn]
  | [x], h => by
    have := h x (by simp)
    show x.length ≤ _
    simp
    omega
  | x :: y :: r, h => by
    have ih := jn_len M (y :: r) (fun z hz => h z (List.mem_cons_of_mem _ hz))
    have := h x (by simp)
    show (x ++ 44 :: jn (y :: r)).length ≤ _
    rw [List.length_append, List.length_cons]
    rw [List.length_cons, Nat.mul_succ]
    omega
theorem lst_run : ∀ (l cur : List UInt8), (∀ c ∈ l, c ≠ 44 ∧ c ≠ 34) → lst cur l = some (addEl (trim (cur ++ l)) [])
  | [], cur, _ => by rw [lst_nil, List.append_nil]
  | c :: l, cur, h => by
    obtain ⟨h1, h2⟩ := h c (by simp)
    rw [lst_on cur l c h1 h2, lst_run l (cur ++ [c]) (fun x hx => h x (by simp [hx]))]
    simp
theorem trim_keep {l : List UInt8} (h : ∀ c ∈ l, blankB c = false) : trim l = l := by
  have d : ∀ m : List UInt8, (∀ c ∈ m, blankB c = false) → m.dropWhile blankB = m := fun m hm => by
    cases m with
    | nil => rfl
    | cons c m => rw [List.dropWhile_cons, hm c (by simp)]; rfl
  unfold trim trimR trimL
  rw [d l h, d _ (fun c hc => h c (List.mem_reverse.1 hc)), List.reverse_reverse]
theorem ext_dig {x : Sp} (h0 : 0 ≤ x.1) (h1 : x.1 < x.2) (c : UInt8) (hc : c ∈ extR x) : (48 ≤ c.toNat ∧ c.toNat ≤ 57) ∨ c = 45 := by
  unfold extR at hc
  simp only [List.mem_append, List.mem_singleton] at hc
  rcases hc with (hc | rfl) | hc
  · exact .inl (itoa_dig h0 c hc)
  · exact .inr rfl
  · exact .inl (itoa_dig (by omega) c hc)
theorem dig_plain (c : UInt8) (h : (48 ≤ c.toNat ∧ c.toNat ≤ 57) ∨ c = 45) : c ≠ 44 ∧ c ≠ 34 ∧ blankB c = false := by
  have k : ∀ n : Nat, n < 256 → ((48 ≤ (UInt8.ofNat n).toNat ∧ (UInt8.ofNat n).toNat ≤ 57) ∨ UInt8.ofNat n = 45) → UInt8.ofNat n ≠ 44 ∧ UInt8.ofNat n ≠ 34 ∧ blankB (UInt8.ofNat n) = false := by decide +kernel
  have := k c.toNat c.toNat_lt
  rw [UInt8.ofNat_toNat] at this
  exact this h
theorem ext_ne (x : Sp) : extR x ≠ [] := by unfold extR; simp
theorem lst_ext {x : Sp} (h0 : 0 ≤ x.1) (h1 : x.1 < x.2) : lst [] (extR x) = some [extR x] := by
  rw [lst_run _ [] (fun c hc => ⟨(dig_plain c (ext_dig h0 h1 c hc)).1, (dig_plain c (ext_dig h0 h1 c hc)).2.1⟩), List.nil_append, trim_keep (fun c hc => (dig_plain c (ext_dig h0 h1 c hc)).2.2), addEl_some (ext_ne x)]
theorem lst_jn : ∀ t : List Sp, t ≠ [] → (∀ x ∈ t, 0 ≤ x.1 ∧ x.1 < x.2) → lst [] (jn (t.map extR)) = some (t.map extR)
  | [], h, _ => absurd rfl h
  | [x], _, h => lst_ext (h x (by simp)).1 (h x (by simp)).2
  | x :: y :: r, _, h => by
    have hx := lst_ext (h x (by simp)).1 (h x (by simp)).2
    have ih := lst_jn (y :: r) (by simp) (fun z hz => h z (List.mem_cons_of_mem _ hz))
    show lst [] (extR x ++ 44 :: jn ((y :: r).map extR)) = _
    rw [lst_split _ (extR x) [] _ _ (Nat.le_refl _) hx, ih]
    rfl
theorem cnt_itoa {n : Int} (h : 0 ≤ n) (hm : n ≤ 4611686018427387904) : cnt (Lib.itoa n) = (n, true) := by
  unfold cnt
  rw [numR_itoa h hm]
  simp
theorem ask_ext {x : Sp} {size : Int} (h0 : 0 ≤ x.1) (h1 : x.1 < x.2) (h2 : x.2 ≤ 4611686018427387904) : askP (extR x) size = (x, true) := by
  have e : extR x = Lib.itoa x.1 ++ 45 :: Lib.itoa (x.2 - 1) := by unfold extR; simp
  obtain ⟨i1, i2, i3⟩ := cut_at 45 (Lib.itoa x.1) (Lib.itoa (x.2 - 1)) (fun c hc => itoa_no h0 45 (by decide) c hc)
  unfold askP
  rw [e, i1, i2, i3, if_neg (by simp), if_neg (itoa_ne h0), if_neg (itoa_ne (by omega)), cnt_itoa h0 (by omega), cnt_itoa (by omega) (by omega)]
  obtain ⟨a, b⟩ := x
  dsimp only at *
  rw [decide_eq_true (by omega)]
  congr 2
  omega
def prtR (t : List Sp) (size : Int) : List UInt8 × Int :=
  if size < 0 then ([], 1) else if t.length = 0 then ([], 91) else if allSp t size = true then ([98, 121, 116, 101, 115, 61] ++ jn (t.map extR), 0) else ([], 91)
theorem keep_ext {x : Sp} {size : Int} (h : isSp x size = true) (hs : size ≤ 4611686018427387904) : keepN size (extR x) = some x := by
  have hh : 0 ≤ x.1 ∧ x.1 < x.2 ∧ x.2 ≤ size := of_decide_eq_true h
  obtain ⟨h0, h1, h2⟩ := hh
  unfold keepN
  rw [ask_ext h0 h1 (by omega)]
  have e : wth x size = x := by
    unfold wth
    obtain ⟨a, b⟩ := x
    dsimp only at *
    congr 1 <;> omega
  rw [e, if_neg (by unfold emp; simp; omega)]
theorem keep_all {size : Int} : ∀ t : List Sp, (∀ x ∈ t, isSp x size = true) → size ≤ 4611686018427387904 → (t.map extR).filterMap (keepN size) = t
  | [], _, _ => rfl
  | x :: t, h, hs => by
    rw [List.map_cons, List.filterMap_cons, keep_ext (h x (by simp)) hs]
    dsimp only
    rw [keep_all t (fun y hy => h y (List.mem_cons_of_mem _ hy)) hs]
theorem par_prt {t : List Sp} {size : Int} (h0 : 0 ≤ size) (ht : t ≠ []) (ha : allSp t size = true) (hs : size ≤ 4611686018427387904) : parR ([98, 121, 116, 101, 115, 61] ++ jn (t.map extR)) size = (t, 0) := by
  have hx : ∀ x ∈ t, isSp x size = true := List.all_eq_true.1 ha
  have hb : ∀ x ∈ t, 0 ≤ x.1 ∧ x.1 < x.2 ∧ x.2 ≤ size := fun x h => of_decide_eq_true (hx x h)
  have hl := lst_jn t ht (fun x h => ⟨(hb x h).1, (hb x h).2.1⟩)
  have hr := listR_some hl
  have hpos : 0 < t.length := List.length_pos_iff.2 ht
  have e : elR ([98, 121, 116, 101, 115, 61] ++ jn (t.map extR)) = (t.map extR, true) := by
    rw [elR_yes (by simp) (by simp; decide +kernel)]
    rw [show List.drop 6 ([98, 121, 116, 101, 115, 61] ++ jn (t.map extR)) = jn (t.map extR) by simp, hr]
    simp [hpos]
  unfold parR
  rw [if_neg (by omega), e, if_neg (by simp)]
  dsimp only
  rw [ansR_ok (fun j hj => by
    rw [List.length_map] at hj
    rw [List.getD_eq_getElem?_getD, List.getElem?_map, List.getElem?_eq_getElem hj]
    have := hb t[j] (List.getElem_mem hj)
    show (askP (extR t[j]) size).2 = true
    rw [ask_ext this.1 this.2.1 (by omega)])]
  have ek := keep_all t hx hs
  rw [ek, if_neg (by omega)]

end Sn
end Go.Proofs.YtkaciaiooidohaaDoor

/-
  The document's Is, ends, Tell, TellNone, Cut.
-/
set_option linter.unusedVariables false
set_option linter.unusedSimpArgs false
namespace Go.Proofs.YtkaciaiooidohaaDoor
open Go.RowKit Go.Shelf
open Go.Sort (grow alloc_eq_grow grow_grow grow_empty)
namespace Sn
open Oc Tg Ac

set_option maxRecDepth 100000 in
set_option maxHeartbeats 1000000 in
theorem rIs_gr (a b size : Int) (w : World) :
    Calls Tryd.prog 19 #[.agg #[.int .i64 a, .int .i64 b], .int .i64 size] w fun e w' => e = .returned (.bool (isSp (a, b) size)) ∧ ∃ q os, w' = grow (w.drewN q) os := by
  rcases (show ¬ 0 ≤ a ∨ (0 ≤ a ∧ ¬ a < b) ∨ (0 ≤ a ∧ a < b) by omega) with h | ⟨h, h'⟩ | ⟨h, h'⟩
  · have HS : Hid (isSp (a, b) size = false) := (by unfold isSp; rw [decide_eq_false]; show ¬ (0 ≤ a ∧ a < b ∧ b ≤ size); omega : isSp (a, b) size = false)
    go_enter Tryd.func19, Tryd.ntmps19
    go_wp2
    go_ret
    rw [HS.out]
    exact ⟨rfl, (Grew.refl w).alloc _⟩
  · have HS : Hid (isSp (a, b) size = false) := (by unfold isSp; rw [decide_eq_false]; show ¬ (0 ≤ a ∧ a < b ∧ b ≤ size); omega : isSp (a, b) size = false)
    go_enter Tryd.func19, Tryd.ntmps19
    go_wp2
    go_ret
    rw [HS.out]
    exact ⟨rfl, (Grew.refl w).alloc _⟩
  · have HS : Hid (isSp (a, b) size = decide (b ≤ size)) := (by unfold isSp; rw [decide_eq_decide]; show (0 ≤ a ∧ a < b ∧ b ≤ size) ↔ _; omega : isSp (a, b) size = decide (b ≤ size))
    go_enter Tryd.func19, Tryd.ntmps19
    go_wp2
    go_ret
    rw [HS.out]
    exact ⟨rfl, (Grew.refl w).alloc _⟩

set_option maxRecDepth 100000 in
set_option maxHeartbeats 1000000 in
theorem ends_gr (a b : Int) (a0 : -9223372036854775808 ≤ a) (a1 : a ≤ 9223372036854775807) (b0 : -9223372036854775808 < b) (b1 : b ≤ 9223372036854775807) (w : World) :
    Calls Tryd.prog 20 #[.agg #[.int .i64 a, .int .i64 b]] w fun e w' => e = .returned (.string (str (extR (a, b)))) ∧ ∃ q os, w' = grow (w.drewN q) os := by
  obtain ⟨w1, hw1⟩ : ∃ w1, w1 = w.alloc (.cells #[.int .i64 a, .int .i64 b] 44) := ⟨_, rfl⟩
  have HPB : Hid (PB 44 w1 w.heap.size (a, b)) := (by rw [hw1]; exact heap_alloc_new w _ : PB _ _ _ _)
  have HB1 : Hid (Grew w w1) := (by rw [hw1]; exact (Grew.refl w).alloc _ : Grew _ _)
  have HDA : Hid (∀ n os, Calls _ _ _ (grow (w1.drewN n) os) _) := fun n os => rDigits_gr a a0 a1 (grow (w1.drewN n) os)
  have HDB : Hid (∀ n os, Calls _ _ _ (grow (w1.drewN n) os) _) := fun n os => rDigits_gr (b - 1) (by omega) (by omega) (grow (w1.drewN n) os)
  have k0 : ∀ n os, (grow (w1.drewN n) os).cell? ⟨w.heap.size, 0, none⟩ = some (.int .i64 a) := fun n os => (HPB.out.grown n os).c0
  have k1 : ∀ n os, (grow (w1.drewN n) os).cell? ⟨w.heap.size, 1, none⟩ = some (.int .i64 b) := fun n os => (HPB.out.grown n os).c1
  have lA := Lib.itoa_length_le a a0 a1
  have lB := Lib.itoa_length_le (b - 1) (by omega) (by omega)
  have HE : Hid (str (extR (a, b)) = str (Lib.itoa a) ++ ⟨#[45]⟩ ++ str (Lib.itoa (b - 1))) := (by
    unfold extR
    rw [show (⟨#[45]⟩ : ByteArray) = str [45] from rfl, str_app, str_app] : _ = _)
  rw [← str_size] at lA lB
  have hwr : IntKind.i64.wrap (b - 1) = b - 1 := by rw [IntKind.wrap_i64]; omega
  generalize str (extR (a, b)) = E at *
  generalize str (Lib.itoa a) = A at *
  generalize str (Lib.itoa (b - 1)) = B at *
  have hk : (⟨#[45]⟩ : ByteArray).size = 1 := rfl
  have hmx := mixO
  go_enter Tryd.func20, Tryd.ntmps20
  go_wp2_with fail
  rw [← hw1]
  clear hw1
  generalize w.heap.size = g at *
  generalize (⟨#[45]⟩ : ByteArray) = K at *
  have hs1 : ¬ (9223372036854775807 < A.size + K.size) := by omega
  have hs2 : ¬ (9223372036854775807 < A.size + K.size + B.size) := by omega
  clear hk
  go_quiet_grown (first | (go_at_call 29; with_reducible (refine Calls.grown_of (HDA.out _ _))) | (go_at_call 29; with_reducible (refine Calls.grown_of (HDB.out _ _))))
  go_wp2
  go_ret
  exact ⟨ret_string HE.out.symm, HB1.out.trans ⟨nq, osq, rfl⟩⟩

set_option maxRecDepth 100000 in
set_option maxHeartbeats 1000000 in
theorem rTell_gr (a b size : Int) (a0 : -9223372036854775808 ≤ a) (a1 : a ≤ 9223372036854775807) (b0 : -9223372036854775808 ≤ b) (b1 : b ≤ 9223372036854775807) (s0 : -9223372036854775808 ≤ size) (s1 : size ≤ 9223372036854775807) (w : World) :
    Calls Tryd.prog 40 #[.agg #[.int .i64 a, .int .i64 b], .int .i64 size] w fun e w' => e = .returned (.tuple #[.string (str (telR (a, b) size).1), .int .i64 (telR (a, b) size).2]) ∧ ∃ q os, w' = grow (w.drewN q) os := by
  obtain ⟨w1, hw1⟩ : ∃ w1, w1 = w.alloc (.cells #[.int .i64 a, .int .i64 b] 44) := ⟨_, rfl⟩
  have HPB : Hid (PB 44 w1 w.heap.size (a, b)) := (by rw [hw1]; exact heap_alloc_new w _ : PB _ _ _ _)
  have HB1 : Hid (Grew w w1) := (by rw [hw1]; exact (Grew.refl w).alloc _ : Grew _ _)
  have HI : Hid (∀ W, Calls _ _ _ W _) := fun W => rIs_gr a b size W
  have q0 := HPB.out.c0
  have q1 := HPB.out.c1
  cases hsp : isSp (a, b) size with
  | false =>
    rw [hsp] at HI
    have HT : Hid (telR (a, b) size = ([], 91)) := (by unfold telR; rw [hsp]; rfl : telR (a, b) size = _)
    clear hsp
    go_enter Tryd.func40, Tryd.ntmps40
    go_wp2_with fail
    rw [← hw1]
    refine (HI.out _).mono ?_
    rintro e w3 ⟨rfl, hg3⟩
    have HG3 : Hid (Grew w1 w3) := hg3
    clear hg3
    go_wp2
    go_ret2
    rw [HT.out]
    exact ⟨rfl, HB1.out.trans HG3.out⟩
  | true =>
    rw [hsp] at HI
    obtain ⟨e0, e1, e2⟩ := isSp_t hsp
    have HX : Hid (∀ W, Calls _ _ _ W _) := fun W => ends_gr a b a0 a1 (by omega) b1 W
    have HD : Hid (∀ W, Calls _ _ _ W _) := fun W => rDigits_gr size s0 s1 W
    have HT : Hid (telR (a, b) size = ([98, 121, 116, 101, 115, 32] ++ extR (a, b) ++ [47] ++ Lib.itoa size, 0)) := (by unfold telR; rw [if_pos hsp] : telR (a, b) size = _)
    have HE : Hid (str ([98, 121, 116, 101, 115, 32] ++ extR (a, b) ++ [47] ++ Lib.itoa size) = ⟨#[98, 121, 116, 101, 115, 32]⟩ ++ str (extR (a, b)) ++ ⟨#[47]⟩ ++ str (Lib.itoa size)) := (by
      rw [show (⟨#[98, 121, 116, 101, 115, 32]⟩ : ByteArray) = str [98, 121, 116, 101, 115, 32] from rfl, show (⟨#[47]⟩ : ByteArray) = str [47] from rfl, str_app, str_app, str_app] : _ = _)
    have lX := extR_len (a, b) a0 a1 (by show -9223372036854775808 < b; omega) b1
    have lD := Lib.itoa_length_le size s0 s1
    rw [← str_size] at lX lD
    clear hsp
    generalize str (extR (a, b)) = X at *
    generalize str (Lib.itoa size) = D at *
    have hk1 : (⟨#[98, 121, 116, 101, 115, 32]⟩ : ByteArray).size = 6 := rfl
    have hk2 : (⟨#[47]⟩ : ByteArray).size = 1 := rfl
    go_enter Tryd.func40, Tryd.ntmps40
    generalize (⟨#[98, 121, 116, 101, 115, 32]⟩ : ByteArray) = K1 at *
    generalize (⟨#[47]⟩ : ByteArray) = K2 at *
    have hs1 : K1.size + X.size ≤ 9223372036854775807 := by omega
    have hs2 : K1.size + X.size + K2.size ≤ 9223372036854775807 := by omega
    have hs3 : K1.size + X.size + K2.size + D.size ≤ 9223372036854775807 := by omega
    clear hk1 hk2
    go_wp2_with fail
    rw [← hw1]
    clear hw1
    refine (HI.out _).mono ?_
    rintro e w3 ⟨rfl, hg3⟩
    have HG3 : Hid (Grew w1 w3) := hg3
    have hp3 := HPB.out.below HG3.out.below
    have r0 := hp3.c0
    have r1 := hp3.c1
    clear hg3 hp3 q0 q1
    go_wp2_with fail
    refine (HX.out _).mono ?_
    rintro e w4 ⟨rfl, hg4⟩
    have HG4 : Hid (Grew w1 w4) := HG3.out.trans hg4
    clear hg4
    go_wp2_with fail
    refine (HD.out _).mono ?_
    rintro e w5 ⟨rfl, hg5⟩
    have HG5 : Hid (Grew w w5) := HB1.out.trans (HG4.out.trans hg5)
    clear hg5
    go_wp2
    go_ret2
    rw [HT.out]
    dsimp only
    rw [HE.out]
    exact ⟨rfl, HG5.out⟩

end Sn
end Go.Proofs.YtkaciaiooidohaaDoor

/-
  span.Print.
-/
set_option linter.unusedVariables false
set_option linter.unusedSimpArgs false
namespace Go.Proofs.YtkaciaiooidohaaDoor
open Go.RowKit Go.Shelf
namespace Sn
open Oc Tg Ac

theorem set_own {B g n c : Nat} {t : List (List UInt8)} {w : World} (h : OwnS B (.slice (some ⟨g, 0, none⟩) n c) t w) (j : Nat) (hj : j < t.length) (l : List UInt8) :
    OwnS B (.slice (some ⟨g, 0, none⟩) n c) (t.set j l) (w.setCell ⟨g, j, none⟩ (.string (str l))) ∧ w.frozen? ⟨g, j, none⟩ = false ∧ B ≤ g := by
  obtain ⟨h1, h2⟩ := h
  rcases h2 with ⟨hv, _⟩ | ⟨g', cap, cur, hv, hB, hg, hn, hm, hsz, htake⟩
  · cases hv
  · injection hv with e1 e2 e3
    injection e1 with e1
    injection e1 with e1
    subst e1 e3
    have e : encS (t.set j l) = (encS t).set j (.string (str l)) := by unfold encS; rw [List.map_set]
    refine ⟨⟨by rw [e]; simpa using h1, .inr ⟨g, c, cur.setIfInBounds j (.string (str l)), by rw [List.length_set, e2], hB, by simp [World.setCell, Array.getElem?_modify, hg], by rw [List.length_set]; exact hn, hm, by simpa using hsz, ?_⟩⟩, Lib.frozen_of_heap hg j, hB⟩
    rw [e, ← htake, List.length_set]
    simp [List.take_set]
theorem made1 (n : Nat) : (madeCells #[(.string ⟨#[]⟩ : Value)] (n * 1)).toList = encS (List.replicate n []) := by
  apply List.ext_getElem?
  intro i
  by_cases hi : i < n
  · have e1 : (madeCells #[(.string ⟨#[]⟩ : Value)] (n * 1)).toList[i]? = some (.string ⟨#[]⟩) := by
      unfold madeCells
      simp [hi, Nat.mod_one]
    rw [e1]
    unfold encS
    rw [List.getElem?_map, List.getElem?_replicate, if_pos hi]
    rfl
  · rw [List.getElem?_eq_none (by simp [size_madeCells]; omega), List.getElem?_eq_none (by simp [encS]; omega)]
theorem run_mkS (W : World) (n : Nat) (hn : n ≤ 4294967296) : (Instr.makeSlice 45 (.int .i64 (n : Int)) (.int .i64 (n : Int))).run Tryd.prog W = .ok (.slice (some ⟨W.heap.size, 0, none⟩) n n) (W.alloc (.cells (encS (List.replicate n [])).toArray 9 (0, 0))) := by
  obtain ⟨i0, hi, hz0, hz1, hz2⟩ := infoS
  have hr := run_make (P := Tryd.prog) W 45 9 i0 (.string ⟨#[]⟩) Tryd.underlying45 hi hz0 .i64 .i64 (n : Int) (n : Int) (by omega) (Int.le_refl _) (by rw [hz2]; omega) (by omega)
  simp only [Int.toNat_natCast, hz1] at hr
  rw [hr, ← made1]
  rfl
theorem own_made (W : World) (n : Nat) (hn : n ≤ 4294967296) : OwnS W.heap.size (.slice (some ⟨W.heap.size, 0, none⟩) n n) (List.replicate n []) (W.alloc (.cells (encS (List.replicate n [])).toArray 9 (0, 0))) :=
  ⟨by simp [encS], .inr ⟨W.heap.size, n, _, by simp, Nat.le_refl _, heap_alloc_new W _, by simp, by unfold maxLen; simp; omega, by simp [encS], by simp [encS]⟩⟩
def extK (t : List Sp) (k : Nat) : List (List UInt8) := (t.take k).map extR ++ List.replicate (t.length - k) []
theorem extK_zero (t : List Sp) : extK t 0 = List.replicate t.length [] := by simp [extK]
theorem extK_all (t : List Sp) : extK t t.length = t.map extR := by simp [extK]
theorem extK_len (t : List Sp) (k : Nat) (h : k ≤ t.length) : (extK t k).length = t.length := by unfold extK; simp; omega
theorem extK_set (t : List Sp) (k : Nat) (h : k < t.length) : (extK t k).set k (extR (nthN t k)) = extK t (k + 1) := by
  unfold extK
  have hl : ((t.take k).map extR).length = k := by simp; omega
  have e : t.take (k + 1) = t.take k ++ [nthN t k] := by rw [List.take_succ_eq_append_getElem h, nthN_mem' h]
  rw [List.set_append, if_neg (by omega), hl, Nat.sub_self, e, List.map_append, show t.length - k = (t.length - (k + 1)) + 1 by omega, List.replicate_succ, List.set_cons_zero]
  simp
theorem ext_short {t : List Sp} {size : Int} (hs : size ≤ 9223372036854775807) (ha : allSp t size = true) : ∀ x ∈ t.map extR, x.length ≤ 43 := by
  intro y hy
  obtain ⟨x, hx, rfl⟩ := List.mem_map.1 hy
  have hh : 0 ≤ x.1 ∧ x.1 < x.2 ∧ x.2 ≤ size := of_decide_eq_true (List.all_eq_true.1 ha x hx)
  exact extR_len x (by omega) (by omega) (by omega) (by omega)

theorem sJoin_c (g c : Nat) (t : List (List UInt8)) (w : World) (h : RdS (.slice (some ⟨g, 0, none⟩) t.length c) t w) (h0 : t ≠ []) (hl : t.length ≤ 33554432) (hJ : (jn t).length ≤ 134217728) :
    Calls Tryd.prog 18 #[.slice (some ⟨g, 0, none⟩) t.length c, .string ⟨#[44]⟩] w fun e w' => e = .returned (.string (str (jn t))) ∧ Below w.heap.size w w' := by
  obtain ⟨a, c', e, h⟩ := h
  injection e with e1 _ e2
  subst e1 e2
  rcases h with rfl | ⟨g', o, ea, hc, hcell⟩
  · exact absurd rfl h0
  injection ea with ea
  injection ea with e1 e2
  subst e1 e2
  have hpos : 0 < t.length := List.length_pos_iff.2 h0
  have hmap : (t.map str).map (fun x : ByteArray => x.data.toList) = t := by
    rw [List.map_map]
    conv => rhs; rw [← List.map_id t]
    apply List.map_congr_left
    intro x _
    exact str_list x
  have h := Tryd.strings_Join g 0 c (t.map str) ⟨#[44]⟩ w (fun j x hx => by
    have hj : j < t.length := by have := (List.getElem?_eq_some_iff.1 hx).1; simpa using this
    rw [hcell j hj]
    rw [List.getElem?_map, List.getElem?_eq_getElem hj] at hx
    rw [List.getD_eq_getElem?_getD, List.getElem?_eq_getElem hj]
    simpa using hx) (World.block_lt_of_cell? w _ (hcell 0 hpos)) (by rw [List.length_map]; omega) (by rw [List.length_map]; exact hc)
    (by rw [hmap, show (⟨#[44]⟩ : ByteArray).data.toList = [44] from rfl, join_jn]; omega)
  rw [hmap, show (⟨#[44]⟩ : ByteArray).data.toList = [44] from rfl, join_jn, List.length_map] at h
  exact h

set_option maxRecDepth 100000 in
set_option maxHeartbeats 2000000 in
theorem Print_any (v : Value) (t : List Sp) (size : Int) (hn : t.length ≤ 1048576) (s1 : size ≤ 9223372036854775807) (w : World) (hrd : RdN v t w) (hp : Pow w) :
    Calls Tryd.prog 7 #[v, .int .i64 size] w fun e w' => e = .returned (.tuple #[.string (str (prtR t size).1), .int .i64 (prtR t size).2]) ∧ Below w.heap.size w w' := by
  have HAs : Hid (Calls _ _ _ _ _) := areSpans_any v t size (by omega) w hrd
  have HR : Hid (RdN v t w) := hrd
  have HP : Hid (∀ W, Below w.heap.size w W → Pow W) := fun W hb => Oc.Pow.below hp hb (Nat.le_refl _)
  obtain ⟨a, c, rfl, _⟩ := hrd
  clear hp
  by_cases hz : size < 0
  · have HQ : Hid (prtR t size = ([], 1)) := (by unfold prtR; rw [if_pos hz] : prtR t size = _)
    go_enter Tryd.func7, Tryd.ntmps7
    go_wp2
    go_ret2
    rw [HQ.out]
    exact ⟨rfl, Below.refl _ _⟩
  · by_cases h0 : t.length = 0
    · have HQ : Hid (prtR t size = ([], 91)) := (by unfold prtR; rw [if_neg hz, if_pos h0] : prtR t size = _)
      have e0 : ((t.length : Int) == 0) = true := by simp [h0]
      clear h0
      go_enter Tryd.func7, Tryd.ntmps7
      go_wp2
      go_ret2
      rw [HQ.out]
      exact ⟨rfl, Below.refl _ _⟩
    · have e0 : ((t.length : Int) == 0) = false := by rw [beq_eq_false_iff_ne]; omega
      cases hal : allSp t size with
      | false =>
        have HQ : Hid (prtR t size = ([], 91)) := (by unfold prtR; rw [if_neg hz, if_neg h0, if_neg (by rw [hal]; simp)] : prtR t size = _)
        rw [hal] at HAs
        clear h0 hal
        go_enter Tryd.func7, Tryd.ntmps7
        go_wp2_with fail
        refine HAs.out.mono ?_
        rintro e w2 ⟨rfl, hb2⟩
        have HB2 : Hid (Below w.heap.size w w2) := hb2
        clear hb2
        go_wp2
        go_ret2
        rw [HQ.out]
        exact ⟨rfl, HB2.out⟩
      | true =>
        have HQ : Hid (str (prtR t size).1 = ⟨#[98, 121, 116, 101, 115, 61]⟩ ++ str (jn (t.map extR)) ∧ (prtR t size).2 = 0) := (by
          unfold prtR
          rw [if_neg hz, if_neg h0, if_pos hal]
          exact ⟨by rw [show (⟨#[98, 121, 116, 101, 115, 61]⟩ : ByteArray) = str [98, 121, 116, 101, 115, 61] from rfl, str_app], rfl⟩ : _ ∧ _)
        rw [hal] at HAs
        have hne : t ≠ [] := fun e => h0 (by rw [e]; rfl)
        have hsh := ext_short s1 hal
        have hjl := jn_len 43 (t.map extR) hsh
        rw [List.length_map] at hjl
        have HJn : Hid (∀ g W, RdS (.slice (some ⟨g, 0, none⟩) t.length t.length) (t.map extR) W → Calls Tryd.prog 18 #[.slice (some ⟨g, 0, none⟩) t.length t.length, .string ⟨#[44]⟩] W fun e w' => e = .returned (.string (str (jn (t.map extR)))) ∧ Below (World.heap W).size W w') := fun g W h => by
          have h := sJoin_c g t.length (t.map extR) W (by rw [List.length_map]; exact h) (by simp [hne]) (by rw [List.length_map]; omega) (by omega)
          rw [List.length_map] at h
          exact h
        have HEx : Hid (∀ k, k < t.length → ∀ W, Pow W → Calls Tryd.prog 17 #[.agg #[.int .i64 (nthN t k).1, .int .i64 (nthN t k).2]] W fun e w' => e = .returned (.string (str (extR (nthN t k)))) ∧ Below (World.heap W).size W w') := fun k hk W hp => by
          have hh : 0 ≤ (nthN t k).1 ∧ (nthN t k).1 < (nthN t k).2 ∧ (nthN t k).2 ≤ size := of_decide_eq_true (List.all_eq_true.1 hal _ (by rw [nthN_mem' hk]; exact List.getElem_mem hk))
          exact (extent_gr (nthN t k).1 (nthN t k).2 (by omega) (by omega) (by omega) (by omega) W hp).mono (fun e w' ⟨h1, h2⟩ => ⟨h1, Grew.below h2⟩)
        have hJs : (str (jn (t.map extR))).size ≤ 50000000 := by rw [str_size]; omega
        have hsz6 : ¬ (9223372036854775807 < (⟨#[98, 121, 116, 101, 115, 61]⟩ : ByteArray).size + (str (jn (t.map extR))).size) := by
          have : (⟨#[98, 121, 116, 101, 115, 61]⟩ : ByteArray).size = 6 := rfl
          omega
        generalize str (jn (t.map extR)) = J at *
        generalize str (prtR t size).1 = PS at *
        generalize (prtR t size).2 = PZ at *
        obtain ⟨hq1, rfl⟩ := HQ.out
        have HQ1 : Hid (PS = ⟨#[98, 121, 116, 101, 115, 61]⟩ ++ J) := hq1
        clear hq1 HQ hsh hjl hal h0 hne
        go_enter Tryd.func7, Tryd.ntmps7
        go_wp2_with fail
        refine HAs.out.mono ?_
        rintro e w2 ⟨rfl, hb2⟩
        have HB2 : Hid (Below w.heap.size w w2) := hb2
        have hmk := run_mkS w2 t.length (by omega)
        have HO2 : Hid (OwnS w2.heap.size (.slice (some ⟨w2.heap.size, 0, none⟩) t.length t.length) (extK t 0) (w2.alloc (.cells (encS (List.replicate t.length [])).toArray 9 (0, 0)))) := (by rw [extK_zero]; exact own_made w2 t.length (by omega) : OwnS _ _ _ _)
        have HB3 : Hid (Below w.heap.size w (w2.alloc (.cells (encS (List.replicate t.length [])).toArray 9 (0, 0)))) := hb2.alloc hb2.size _
        generalize w2.alloc (.cells (encS (List.replicate t.length [])).toArray 9 (0, 0)) = w3 at *
        clear hb2
        go_wp2
        clear hmk
        go_loopw [27] (fun i wr => ∃ k : Nat, k ≤ t.length ∧ i = .int .i64 k ∧ Hid (OwnS w2.heap.size (.slice (some ⟨w2.heap.size, 0, none⟩) t.length t.length) (extK t k) wr) ∧ Hid (Below w.heap.size w wr)) (fun i _ => t.length - (intOf i).toNat)
        case atStart => exact ⟨0, Nat.zero_le _, rfl, HO2, HB3⟩
        case round =>
          obtain ⟨k, hk, rfl, hO, hbl⟩ := hrel
          by_cases hlt : k < t.length
          · obtain ⟨a', c', e', hcs⟩ := HR.out.below hbl.out
            injection e' with q1 _ q2
            subst q1 q2
            rcases hcs with h | ⟨g, o, rfl, hlc, hcell⟩
            · rw [h] at hlt; simp at hlt
            obtain ⟨p0, p1⟩ := hcell k hlt
            obtain ⟨wx, hwx⟩ : ∃ wx, wx = wr.alloc (.cells #[.int .i64 (nthN t k).1, .int .i64 (nthN t k).2] 43) := ⟨_, rfl⟩
            have hbx : Below wr.heap.size wr wx := by rw [hwx]; exact (Below.refl _ wr).alloc (Nat.le_refl _) _
            have HBx : Hid (Below w.heap.size w wx) := bel_trans hbl.out hbx
            have HOx : Hid (OwnS w2.heap.size (.slice (some ⟨w2.heap.size, 0, none⟩) t.length t.length) (extK t k) wx) := hO.out.below hbx
            have HCx : Hid (Calls _ _ _ _ _) := HEx.out k hlt wx (HP.out wx HBx.out)
            have HSt : Hid ((extK t k).set k (extR (nthN t k)) = extK t (k + 1)) := extK_set t k hlt
            have HLn : Hid (k < (extK t k).length) := (by rw [extK_len t k hk]; exact hlt : _ < _)
            clear hcell hbx
            generalize hE : extR (nthN t k) = E at *
            generalize hS : str E = SE at *
            have HS : Hid (SE = str E) := hS.symm
            generalize (nthN t k).1 = X at *
            generalize (nthN t k).2 = Y at *
            clear hE hS
            go_wp2_with fail
            rw [← hwx]
            clear hwx
            refine HCx.out.mono ?_
            rintro e w5 ⟨rfl, hb5⟩
            have HB5 : Hid (Below w.heap.size w w5) := bel_trans HBx.out hb5
            have hO5 := HOx.out.below hb5
            have HT := set_own hO5 k HLn.out E
            rw [← HS.out, HSt.out] at HT
            obtain ⟨hO6, hfz, _⟩ := HT
            have HO6 : Hid (OwnS w2.heap.size (.slice (some ⟨w2.heap.size, 0, none⟩) t.length t.length) (extK t (k + 1)) (w5.setCell ⟨w2.heap.size, k, none⟩ (.string SE))) := hO6
            obtain ⟨_, _, hcl⟩ : ∃ g c : Nat, w5.cell? ⟨w2.heap.size, k, none⟩ = some (.string (str ((extK t k).getD k []))) := by
              have hO5' : OwnS w2.heap.size (.slice (some ⟨w2.heap.size, 0, none⟩) (extK t k).length t.length) (extK t k) w5 := by rw [extK_len t k hk]; exact hO5
              obtain ⟨g, hg, _, hcc⟩ := hO5'.cell k HLn.out
              injection hg with hg
              injection hg with hg _
              subst hg
              exact ⟨0, 0, hcc⟩
            have HB6 : Hid (Below w.heap.size w (w5.setCell ⟨w2.heap.size, k, none⟩ (.string SE))) := HB5.out.setCell HB2.out.size _
            clear hO5 hO6 hb5
            go_wp2
            go_roundw
            case rel => exact ⟨k + 1, by omega, by go_num, HO6, HB6⟩
            case measure => simp [intOf]; omega
          · obtain rfl : k = t.length := by omega
            rw [extK_all] at hO
            have HJ : Hid (Calls _ _ _ _ _) := HJn.out w2.heap.size wr hO.out.rd
            go_wp2_with fail
            refine HJ.out.mono ?_
            rintro e w7 ⟨rfl, hb7⟩
            have HB7 : Hid (Below w.heap.size w w7) := bel_trans hbl.out hb7
            clear hb7
            go_wp2
            go_ret2
            rw [HQ1.out]
            exact ⟨rfl, HB7.out⟩

end Sn
end Go.Proofs.YtkaciaiooidohaaDoor
