/- Several texts as one. -/
import Derived.Test.YtjngpafokkjkdaaGreatDoorMgD
import Derived.Test.YtjngpafokkjkdaaGreatDoorMgC
import Derived.Lib.SlTrimSet
import Derived.Lib.IndexBytes
/-
  tag: the document's Parse; Print, and the document's.
-/
set_option linter.unusedVariables false
set_option linter.unusedSimpArgs false
namespace Go.Proofs.YtjngpafokkjkdaaGreatDoor
open Go.RowKit
namespace Tt
open Oc

/-- May it be a tag's text? -/
def okT (l : List UInt8) : Bool := l.all inT && decide (l.length ≤ 256)
def printT (t : Tg1) : List UInt8 × Int := if okT t.2 = true then ((if t.1 = true then [87, 47] else []) ++ 34 :: (t.2 ++ [34]), 0) else ([], 80)
theorem body_print : ∀ (l : List UInt8) (k : Nat), bodyR (l ++ [34]) k = (k + l.length, true) ↔ l.all inT = true ∧ (l = [] ∨ k + l.length ≤ 256)
  | [], k => by simp [bodyR]
  | c :: r, k => by
    have ih := body_print r (k + 1)
    rw [List.cons_append]
    unfold bodyR
    by_cases h1 : c = 34
    · subst h1
      rw [if_pos rfl]
      have : inT 34 = false := by decide
      simp [this]
    · rw [if_neg h1]
      by_cases h2 : inT c = true ∧ k < 256
      · rw [if_pos h2, show k + (c :: r).length = k + 1 + r.length by simp; omega, ih]
        simp only [List.all_cons, h2.1, Bool.true_and, List.length_cons, reduceCtorEq, false_or]
        constructor
        · rintro ⟨a, b⟩
          refine ⟨a, ?_⟩
          rcases b with rfl | b
          · simp; omega
          · omega
        · rintro ⟨a, b⟩
          exact ⟨a, .inr (by omega)⟩
      · rw [if_neg h2]
        simp only [Prod.mk.injEq, reduceCtorEq, and_false, List.all_cons, List.length_cons, false_or, false_iff, not_and, Bool.and_eq_true, Nat.not_le]
        rintro ⟨a, b⟩
        have : ¬ k < 256 := fun h => h2 ⟨a, h⟩
        omega
theorem rest_print (w : Bool) (off : Nat) (l : List UInt8) : ((restR w off (l ++ [34])).2.2 = true ∧ (restR w off (l ++ [34])).2.1 = off + l.length + 1) ↔ okT l = true := by
  have h := body_print l 0
  unfold okT
  rw [Nat.zero_add] at h
  have h2 : bodyR (l ++ [34]) 0 = (l.length, true) ↔ (l.all inT && decide (l.length ≤ 256)) = true := by
    rw [h, Bool.and_eq_true, decide_eq_true_iff]
    constructor
    · rintro ⟨a, b⟩
      refine ⟨a, ?_⟩
      rcases b with rfl | b
      · simp
      · omega
    · rintro ⟨a, b⟩
      exact ⟨a, .inr (by omega)⟩
  rw [← h2]
  unfold restR
  by_cases hb : (bodyR (l ++ [34]) 0).2 = true
  · rw [if_pos hb]
    constructor
    · rintro ⟨_, a⟩
      refine Prod.ext ?_ hb
      show _ = l.length
      simp at a
      omega
    · intro e
      rw [e]
      exact ⟨rfl, rfl⟩
  · rw [if_neg hb]
    constructor
    · rintro ⟨a, _⟩
      simp at a
    · intro e
      rw [e] at hb
      simp at hb
theorem rest_text (w : Bool) (off : Nat) (l : List UInt8) (h : okT l = true) : restR w off (l ++ [34]) = ((w, l), off + l.length + 1, true) := by
  have h' := (rest_print w off l).2 h
  unfold restR at h' ⊢
  by_cases hb : (bodyR (l ++ [34]) 0).2 = true
  · rw [if_pos hb] at h' ⊢
    have e : (bodyR (l ++ [34]) 0).1 = l.length := by have := h'.2; simp at this; omega
    rw [e]
    simp
  · rw [if_neg hb] at h'
    simp at h'
theorem parse_quoted (l : List UInt8) : (parseT (34 :: (l ++ [34]))).2.2 = if okT l = true then 0 else 80 := by
  unfold parseT
  have e : frontR (34 :: (l ++ [34])) = restR false 1 (l ++ [34]) := by simp [frontR]
  rw [e]
  have h := rest_print false 1 l
  rw [show (34 :: (l ++ [34])).length = 1 + l.length + 1 by simp; omega]
  by_cases ho : okT l = true
  · rw [if_pos (h.2 ho), if_pos ho]
  · rw [if_neg (fun x => ho (h.1 x)), if_neg ho]
theorem parse_printed (t : Tg1) (h : okT t.2 = true) : parseT (printT t).1 = (t, 0, 0) := by
  obtain ⟨w, l⟩ := t
  unfold printT
  rw [if_pos h]
  dsimp only at h ⊢
  cases w with
  | true =>
    rw [show (if true = true then [87, 47] else ([] : List UInt8)) = [87, 47] from rfl]
    unfold parseT
    have e : frontR ([87, 47] ++ 34 :: (l ++ [34])) = restR true 3 (l ++ [34]) := by simp [frontR]
    rw [e, rest_text true 3 l h]
    rw [if_pos ⟨rfl, by simp; omega⟩]
  | false =>
    rw [show (if false = true then [87, 47] else ([] : List UInt8)) = [] from rfl]
    unfold parseT
    have e : frontR ([] ++ 34 :: (l ++ [34])) = restR false 1 (l ++ [34]) := by simp [frontR]
    rw [e, rest_text false 1 l h]
    rw [if_pos ⟨rfl, by simp; omega⟩]

set_option maxRecDepth 100000 in
set_option maxHeartbeats 1000000 in
theorem rParse_any (s : ByteArray) (hs : s.size ≤ 4000000000) (w : World) :
    Calls Tryz.prog 23 #[.string s] w fun e w' => e = .returned (.tuple #[.agg #[.bool (parseT s.data.toList).1.1, .string (str (parseT s.data.toList).1.2)], .int .i64 ((parseT s.data.toList).2.1 : Nat), .int .i64 (parseT s.data.toList).2.2]) ∧ Below w.heap.size w w' := by
  obtain ⟨w1, hw1⟩ : ∃ w1, w1 = w.alloc (.cells #[.bool false, .string ⟨#[]⟩] 36) := ⟨_, rfl⟩
  have z1 : w1.heap.size = w.heap.size + 1 := by rw [hw1]; simp
  have HA : Hid (TB 36 w1 w.heap.size (false, [])) := (by rw [hw1]; exact heap_alloc_new w _ : TB _ _ _ _)
  have HB : Hid (Below w.heap.size w w1) := (by rw [hw1]; exact (Below.refl _ w).alloc (Nat.le_refl _) _ : Below _ _ _)
  have HF : Hid (Calls Tryz.prog 40 #[.string s, .int .i64 0] w1 fun e w' => e = .returned (.tuple #[.agg #[.bool (frontR s.data.toList).1.1, .string (str (frontR s.data.toList).1.2)], .int .i64 ((frontR s.data.toList).2.1 : Nat), .bool (frontR s.data.toList).2.2]) ∧ Below w1.heap.size w1 w') := by
    have h := rread_any s hs 0 (by omega) w1
    rw [List.drop_zero, Nat.zero_add] at h
    exact h
  have hle := frontR_le s.data.toList
  rw [size_list] at hle
  unfold parseT
  rw [size_list]
  generalize frontR s.data.toList = F at *
  obtain ⟨⟨tw, tl⟩, n, ok⟩ := F
  dsimp only at *
  cases ok with
  | true =>
    by_cases hn : n = s.size
    · rw [if_pos ⟨rfl, hn⟩]
      subst hn
      dsimp only
      generalize str tl = S at *
      go_enter Tryz.func23, Tryz.ntmps23
      go_wp2_with fail
      rw [← hw1]
      refine HF.out.mono ?_
      rintro e w3 ⟨rfl, hb3⟩
      have ha := HA.out.below hb3
      have a0 := ha.c0
      have a1 := ha.c1
      have g0 := ha.f 0
      have g1 := ha.f 1
      have hlt := ha.lt
      have hne1 : w3.heap.size ≠ w.heap.size := by omega
      have hne2 : w.heap.size ≠ w3.heap.size := by omega
      have HB3 : Hid (Below w.heap.size w w3) := HB.out.trans (hb3.mono (by omega))
      have hrd : Hid (∀ b S o, _ ∧ _) := fun b S o => ha.read b S o
      clear ha hb3
      go_wp2
      refine bodyPost_ret (v := .tuple #[.agg #[.bool tw, .string S], .int .i64 0, .int .i64 0]) (by simp [results, Tryz.results23, go_sem, hrd.out]) rfl ?_
      refine ⟨rfl, ?_⟩
      repeat (first | exact HB3.out | refine Below.setCell ?_ (by simp) _ | refine Below.alloc ?_ (by simp; have := HB3.out.size; omega) _)
    · rw [if_neg (fun h => hn h.2)]
      dsimp only
      have hlt2 : n < s.size := by omega
      generalize str tl = S at *
      go_enter Tryz.func23, Tryz.ntmps23
      go_wp2_with fail
      rw [← hw1]
      refine HF.out.mono ?_
      rintro e w3 ⟨rfl, hb3⟩
      have ha := HA.out.below hb3
      have a0 := ha.c0
      have a1 := ha.c1
      have g0 := ha.f 0
      have g1 := ha.f 1
      have hlt := ha.lt
      have hne1 : w3.heap.size ≠ w.heap.size := by omega
      have hne2 : w.heap.size ≠ w3.heap.size := by omega
      have HB3 : Hid (Below w.heap.size w w3) := HB.out.trans (hb3.mono (by omega))
      have hrd : Hid (∀ b S o, _ ∧ _) := fun b S o => ha.read b S o
      clear ha hb3
      go_wp2
      refine bodyPost_ret (v := .tuple #[.agg #[.bool false, .string ⟨#[]⟩], .int .i64 n, .int .i64 80]) (by simp [results, Tryz.results23, go_sem, hrd.out]) rfl ?_
      refine ⟨rfl, ?_⟩
      repeat (first | exact HB3.out | refine Below.setCell ?_ (by simp) _ | refine Below.alloc ?_ (by simp; have := HB3.out.size; omega) _)
  | false =>
    rw [if_neg (fun h => by simp at h)]
    dsimp only
    generalize str tl = S at *
    go_enter Tryz.func23, Tryz.ntmps23
    go_wp2_with fail
    rw [← hw1]
    refine HF.out.mono ?_
    rintro e w3 ⟨rfl, hb3⟩
    have ha := HA.out.below hb3
    have a0 := ha.c0
    have a1 := ha.c1
    have g0 := ha.f 0
    have g1 := ha.f 1
    have hlt := ha.lt
    have hne1 : w3.heap.size ≠ w.heap.size := by omega
    have hne2 : w.heap.size ≠ w3.heap.size := by omega
    have HB3 : Hid (Below w.heap.size w w3) := HB.out.trans (hb3.mono (by omega))
    have hrd : Hid (∀ b S o, _ ∧ _) := fun b S o => ha.read b S o
    clear ha hb3
    go_wp2
    refine bodyPost_ret (v := .tuple #[.agg #[.bool false, .string ⟨#[]⟩], .int .i64 n, .int .i64 80]) (by simp [results, Tryz.results23, go_sem, hrd.out]) rfl ?_
    refine ⟨rfl, ?_⟩
    repeat (first | exact HB3.out | refine Below.setCell ?_ (by simp) _ | refine Below.alloc ?_ (by simp; have := HB3.out.size; omega) _)

theorem quoted_list (x : ByteArray) : (⟨#[34]⟩ ++ x ++ ⟨#[34]⟩ : ByteArray).data.toList = 34 :: (x.data.toList ++ [34]) := by
  simp [ByteArray.data_append]
theorem str_of {a : ByteArray} {l : List UInt8} (h : a.data.toList = l) : str l = a := by rw [← h, str_self]

end Tt
end Go.Proofs.YtjngpafokkjkdaaGreatDoor

/-
  Texts without the blanks around.
-/
set_option linter.unusedVariables false
set_option linter.unusedSimpArgs false
namespace Go.Proofs.YtjngpafokkjkdaaGreatDoor
open Go.RowKit
namespace Oc

def trimL (l : List UInt8) : List UInt8 := l.dropWhile blankB
def trimR (l : List UInt8) : List UInt8 := (l.reverse.dropWhile blankB).reverse
def trim (l : List UInt8) : List UInt8 := trimR (trimL l)

theorem trimL_cons (x : UInt8) (l : List UInt8) : trimL (x :: l) = if blankB x then trimL l else x :: l := by
  unfold trimL; rw [List.dropWhile_cons]
theorem trimR_snoc (l : List UInt8) (x : UInt8) : trimR (l ++ [x]) = if blankB x then trimR l else l ++ [x] := by
  unfold trimR
  rw [List.reverse_append]
  show (List.dropWhile blankB (x :: l.reverse)).reverse = _
  rw [List.dropWhile_cons]
  split
  · rfl
  · simp
theorem trimR_nil : trimR [] = [] := rfl
theorem trimR_blank : ∀ l : List UInt8, l.all blankB = true → trimR l = [] := by
  intro l h
  unfold trimR
  have : List.dropWhile blankB l.reverse = [] := by
    have e : List.dropWhile blankB (l.reverse ++ []) = List.dropWhile blankB [] := List.dropWhile_append_of_pos (fun y hy => List.all_eq_true.1 h y (by simpa using hy))
    simpa using e
  rw [this]; rfl
theorem dropWhile_append_right (p : UInt8 → Bool) : ∀ (a b : List UInt8), a.all p = false → (a ++ b).dropWhile p = a.dropWhile p ++ b
  | [], b, h => by simp at h
  | x :: a, b, h => by
    rw [List.cons_append, List.dropWhile_cons, List.dropWhile_cons]
    cases hx : p x with
    | true =>
      have : a.all p = false := by simpa [hx] using h
      simp only [if_true]
      exact dropWhile_append_right p a b this
    | false => simp
theorem trimR_cons (x : UInt8) (l : List UInt8) : trimR (x :: l) = if l.all blankB then (if blankB x then [] else [x]) else x :: trimR l := by
  unfold trimR
  rw [List.reverse_cons]
  by_cases h : l.all blankB = true
  · rw [if_pos h]
    have e : List.dropWhile blankB (l.reverse ++ [x]) = List.dropWhile blankB [x] := List.dropWhile_append_of_pos (fun y hy => List.all_eq_true.1 h y (by simpa using hy))
    rw [e, List.dropWhile_cons]
    split <;> rfl
  · rw [if_neg h]
    have h' : l.reverse.all blankB = false := by
      rw [List.all_reverse]
      simpa using h
    rw [dropWhile_append_right blankB _ _ h']
    simp
theorem trim_comm : ∀ l : List UInt8, trimL (trimR l) = trimR (trimL l)
  | [] => rfl
  | x :: l => by
    have ih := trim_comm l
    rw [trimL_cons, trimR_cons]
    cases hx : blankB x with
    | true =>
      rw [if_pos rfl]
      by_cases h : l.all blankB = true
      · rw [if_pos h, if_pos rfl, ← ih, trimR_blank l h]
      · rw [if_neg h, trimL_cons, hx, if_pos rfl]
        exact ih
    | false =>
      rw [if_neg (show ¬ (false = true) by simp), if_neg (show ¬ (false = true) by simp), trimR_cons, hx, if_neg (show ¬ (false = true) by simp)]
      by_cases h : l.all blankB = true
      · rw [if_pos h, trimL_cons, hx, if_neg (by simp)]
      · rw [if_neg h, trimL_cons, hx, if_neg (by simp)]
theorem blank_set (c : UInt8) : ([32, 9] : List UInt8).contains c = blankB c := by
  have := c.toNat_lt
  unfold blankB blankI
  rw [Bool.eq_iff_iff, decide_eq_true_iff]
  simp only [List.contains_cons, List.contains_nil, Bool.or_false, Bool.or_eq_true, beq_iff_eq]
  constructor
  · rintro (rfl | rfl)
    · exact .inl rfl
    · exact .inr rfl
  · rintro (h | h)
    · exact .inl (UInt8.toNat_inj.1 (by show c.toNat = 32; omega))
    · exact .inr (UInt8.toNat_inj.1 (by show c.toNat = 9; omega))
theorem trimS_eq (l : List UInt8) : Lib.trimS l [32, 9] = trim l := by
  have e : (fun c => ([32, 9] : List UInt8).contains c) = blankB := funext blank_set
  unfold Lib.trimS Lib.trimLeftS Lib.trimRightS
  rw [e]
  exact trim_comm l
theorem trimLeftS_eq (l : List UInt8) : Lib.trimLeftS l [32, 9] = trimL l := by
  have e : (fun c => ([32, 9] : List UInt8).contains c) = blankB := funext blank_set
  unfold Lib.trimLeftS
  rw [e]
  rfl
theorem dropWhile_le (p : UInt8 → Bool) : ∀ l : List UInt8, (l.dropWhile p).length ≤ l.length
  | [] => Nat.le_refl _
  | x :: l => by
    rw [List.dropWhile_cons]
    split
    · have := dropWhile_le p l
      simp
      omega
    · exact Nat.le_refl _
theorem trimL_le (l : List UInt8) : (trimL l).length ≤ l.length := dropWhile_le _ _
theorem trimR_le (l : List UInt8) : (trimR l).length ≤ l.length := by
  unfold trimR
  rw [List.length_reverse]
  have := dropWhile_le blankB l.reverse
  simpa using this
theorem trim_le (l : List UInt8) : (trim l).length ≤ l.length := Nat.le_trans (trimR_le _) (trimL_le _)

def strLenV : Value → Nat | .string t => t.size | _ => 0

theorem cons_of {t : ByteArray} (h : ¬ t.size = 0) : t.data.toList = t.data.toList.getD 0 0 :: t.data.toList.drop 1 := by
  cases e : t.data.toList with
  | nil => exact absurd e (list_ne h)
  | cons a l => rfl
theorem snoc_of {t : ByteArray} (h : ¬ t.size = 0) : t.data.toList = t.data.toList.take (t.size - 1) ++ [t.data.toList.getD (t.size - 1) 0] := by
  have := take_snoc t (t.size - 1) (by omega)
  rw [show t.size - 1 + 1 = t.size by omega, List.take_of_length_le (by simp)] at this
  exact this
theorem tail_list (t : ByteArray) : (t.extract 1 t.size).data.toList = t.data.toList.drop 1 := Lib.extract_to_end t 1
theorem init_list (t : ByteArray) : (t.extract 0 (t.size - 1)).data.toList = t.data.toList.take (t.size - 1) := by rw [Lib.extract_data]; simp

end Oc
end Go.Proofs.YtjngpafokkjkdaaGreatDoor

/-
  The document's small answers of layer 6: signs, blanks, bytes of fields, tokens, small letters, texts without blanks around.
-/
set_option linter.unusedVariables false
set_option linter.unusedSimpArgs false
namespace Go.Proofs.YtjngpafokkjkdaaGreatDoor
open Go.RowKit
namespace Fd
open Oc

set_option maxHeartbeats 400000 in
theorem rBlank_any (c : Int) (h0 : 0 ≤ c) (h1 : c ≤ 255) (w : World) :
    Calls Tryz.prog 41 #[.int .u8 c] w fun e w' => e = .returned (.bool (blankI c)) ∧ w' = w := by
  rcases (show c = 32 ∨ c = 9 ∨ (c ≠ 32 ∧ c ≠ 9) by omega) with rfl | rfl | ⟨h, h'⟩
  · go_enter Tryz.func41, Tryz.ntmps41
    go_wp2
    go_ret
    exact ⟨ret_bool (by decide), rfl⟩
  · go_enter Tryz.func41, Tryz.ntmps41
    go_wp2
    go_ret
    exact ⟨ret_bool (by decide), rfl⟩
  · have g1 : (c == 32) = false := by simp; omega
    have g2 : (c == 9) = false := by simp; omega
    go_enter Tryz.func41, Tryz.ntmps41
    go_wp2
    go_ret
    exact ⟨ret_bool (blankI_f (by omega)).symm, rfl⟩

set_option maxHeartbeats 400000 in
theorem rLower_any (s : ByteArray) (hs : s.size ≤ maxLen) (w : World) :
    Calls Tryz.prog 65 #[.string s] w fun e w' => e = .returned (.string (lowS s)) ∧ Below w.heap.size w w' := by
  unfold maxLen at hs
  have hcv := fun w => Lib.run_convert_string_bytes (P := Tryz.prog) w 9 128 5 s Tryz.underlying9 Tryz.underlying128 Tryz.underlying5
  have hb := below_bytes w 5 s
  have hr := bytes_row w 5 s
  go_enter Tryz.func65, Tryz.ntmps65
  go_wp2
  go_loopw [4] (fun i wr => ∃ k : Nat, k ≤ s.size ∧ i = .int .i64 k ∧ Hid (Row wr w.heap.size s.size (fun j => if j < k then lowI (byt s j) else byt s j)) ∧ Hid (Below w.heap.size w wr)) (fun i _ => s.size - (intOf i).toNat)
  case atStart => exact ⟨0, Nat.zero_le _, rfl, (by simpa using hr : Row _ _ _ _), hb⟩
  case round =>
    obtain ⟨k, hk, rfl, hrow, hbel⟩ := hrel
    clear hr hb hcv
    by_cases hlt : k < s.size
    · have hck : wr.cell? ⟨w.heap.size, k, none⟩ = some (.int .u8 (byt s k)) := by
        have := hrow.out.cell k hlt
        rwa [if_neg (by omega)] at this
      have hfk := hrow.out.free k hlt
      obtain ⟨b0, b1⟩ := byt_bd s k
      have hnext : ∀ j, j < s.size → (if j < k + 1 then lowI (byt s j) else byt s j) = if j = k then lowI (byt s k) else if j < k then lowI (byt s j) else byt s j := by
        intro j hj
        by_cases hjk : j = k
        · subst hjk; rw [if_pos (by omega), if_pos rfl]
        · rw [if_neg hjk]
          by_cases h2 : j < k
          · rw [if_pos (by omega), if_pos h2]
          · rw [if_neg (by omega), if_neg h2]
      have HN : Hid (∀ j, j < s.size → (if j < k + 1 then lowI (byt s j) else byt s j) = if j = k then lowI (byt s k) else if j < k then lowI (byt s j) else byt s j) := hnext
      clear hnext
      by_cases hup : 65 ≤ byt s k ∧ byt s k ≤ 90
      · obtain ⟨u0, u1⟩ := hup
        have e1 := lowI_up u0 u1
        have E1 : Hid (lowI (byt s k) = byt s k + 32) := e1
        clear e1
        go_wp2
        go_roundw
        case rel => exact ⟨k + 1, by omega, by go_num, hrow.out.set k hlt _ _ (by rw [← E1.out]; exact HN.out), hbel.out.setCell (Nat.le_refl _) _⟩
        case measure => simp [intOf]; omega
      · have E1 : Hid (lowI (byt s k) = byt s k) := lowI_not hup
        have hsame : Hid (Row wr w.heap.size s.size (fun j => if j < k + 1 then lowI (byt s j) else byt s j)) := by
          refine ⟨fun j hj => ?_, hrow.out.free⟩
          rw [hrow.out.cell j hj, HN.out j hj]
          by_cases hjk : j = k
          · subst hjk; rw [if_neg (by omega), if_pos rfl, E1.out]
          · rw [if_neg hjk]
        by_cases u0 : 65 ≤ byt s k
        all_goals
          have u1 : Hid (¬ (65 ≤ byt s k ∧ byt s k ≤ 90)) := hup
          go_wp2
          go_roundw
          case rel => exact ⟨k + 1, by omega, by go_num, hsame.out, hbel.out⟩
          case measure => simp [intOf]; omega
    · have hbk := back wr w.heap.size s.size (grownCap w s.size 0 5) _ (lower s.data.toList) hrow.out (by simp [lower]) (fun j hj => by rw [if_pos (by omega), lower_getD _ _ (by rw [size_list]; exact hj)]; rfl)
      go_wp2
      go_ret
      exact ⟨rfl, hbel.out⟩

set_option maxHeartbeats 400000 in
theorem rAlike_any (a b : ByteArray) (ha : a.size ≤ maxLen) (hb : b.size ≤ maxLen) (w : World) :
    Calls Tryz.prog 39 #[.string a, .string b] w fun e w' => e = .returned (.bool (decide (lowS a = lowS b))) ∧ Below w.heap.size w w' := by
  go_enter Tryz.func39, Tryz.ntmps39
  go_wp2_with fail
  refine (rLower_any a ha _).mono ?_
  rintro e w1 ⟨rfl, hb1⟩
  go_wp2_with fail
  refine (rLower_any b hb _).mono ?_
  rintro e w2 ⟨rfl, hb2⟩
  go_wp2
  go_ret
  exact ⟨ret_bool (eq_toList _ _), hb1.trans (hb2.mono hb1.size)⟩

set_option maxRecDepth 100000 in
set_option maxHeartbeats 400000 in
theorem rTrim_any (s : ByteArray) (hs : s.size ≤ maxLen) (w : World) :
    Calls Tryz.prog 24 #[.string s] w fun e w' => e = .returned (.string (str (trim s.data.toList))) ∧ w' = w := by
  unfold maxLen at hs
  go_enter Tryz.func24, Tryz.ntmps24
  go_wp2
  go_loop [0] (fun v => ∃ t : ByteArray, v = .string t ∧ t.size ≤ s.size ∧ Hid (trimL t.data.toList = trimL s.data.toList)) (fun v => strLenV v)
  case atStart => exact ⟨s, rfl, Nat.le_refl _, rfl⟩
  case round =>
    obtain ⟨t, rfl, hle, hst⟩ := hrel
    have out : ∀ t : ByteArray, trimL t.data.toList = t.data.toList → trimL t.data.toList = trimL s.data.toList → trim s.data.toList = trimR t.data.toList := by
      intro t h1 h2
      unfold trim
      rw [← h2, h1]
    by_cases hz : t.size = 0
    · have he := hz
      have HE : Hid (trim s.data.toList = trimR t.data.toList) := out t (by rw [List.length_eq_zero_iff.1 ((size_list t).trans hz)]; rfl) hst.out
      clear out
      go_wp2
      go_loop [0] (fun v => ∃ u : ByteArray, v = .string u ∧ u.size ≤ s.size ∧ Hid (trimR u.data.toList = trim s.data.toList)) (fun v => strLenV v)
      case atStart => exact ⟨t, rfl, hle, HE.out.symm⟩
      case round =>
        clear hst hle HE
        obtain ⟨u, rfl, hle, hst⟩ := hrel
        by_cases hz : u.size = 0
        · have he := hz
          have HE : Hid (u = str (trim s.data.toList)) := by
            have e := List.length_eq_zero_iff.1 ((size_list u).trans hz)
            have h := hst.out
            rw [e] at h
            show u = _
            rw [← h, ← str_self u, e]
            rfl
          go_wp2
          go_ret
          exact ⟨ret_string HE.out, rfl⟩
        · have he := hz
          have hby : ((u[u.size - 1].toNat : Nat) : Int) = byt u (u.size - 1) := byt_at u (u.size - 1) (by omega)
          have hpos : 0 < u.size := by omega
          have hcast : ((u.size : Int) - 1) = ((u.size - 1 : Nat) : Int) := by omega
          obtain ⟨b0, b1⟩ := byt_bd u (u.size - 1)
          have HS := snoc_of hz
          have HR : Hid (trimR u.data.toList = if blankB (u.data.toList.getD (u.size - 1) 0) then trimR (u.data.toList.take (u.size - 1)) else u.data.toList) := by
            show trimR u.data.toList = _
            conv => lhs; rw [HS]
            rw [trimR_snoc, ← HS]
          clear HS
          cases hb : blankI (byt u (u.size - 1)) with
          | true =>
            have HI : Hid (trimR (u.extract 0 (u.size - 1)).data.toList = trim s.data.toList) := by
              show trimR _ = _
              have h := HR.out
              rw [show blankB (u.data.toList.getD (u.size - 1) 0) = true from hb, if_pos rfl, hst.out] at h
              rw [init_list]
              exact h.symm
            go_wp2_with (go_at_call 41; refine (rBlank_any _ (by omega) (by omega) _).mono ?_; rintro e w' ⟨rfl, rfl⟩)
            go_round
            case rel => exact ⟨u.extract 0 (u.size - 1), rfl, by simp; omega, HI⟩
            case measure => simp [strLenV]; omega
          | false =>
            have HE : Hid (u = str (trim s.data.toList)) := by
              have h := HR.out
              rw [show blankB (u.data.toList.getD (u.size - 1) 0) = false from hb, if_neg (by simp), hst.out] at h
              show u = _
              rw [h, str_self]
            go_wp2_with (go_at_call 41; refine (rBlank_any _ (by omega) (by omega) _).mono ?_; rintro e w' ⟨rfl, rfl⟩)
            go_ret
            exact ⟨ret_string HE.out, rfl⟩
    · have he := hz
      have hby : ((t[0].toNat : Nat) : Int) = byt t 0 := byt_at t 0 (by omega)
      have hpos : 0 < t.size := by omega
      obtain ⟨b0, b1⟩ := byt_bd t 0
      have HS := cons_of hz
      have HL : Hid (trimL t.data.toList = if blankB (t.data.toList.getD 0 0) then trimL (t.data.toList.drop 1) else t.data.toList) := by
        show trimL t.data.toList = _
        conv => lhs; rw [HS]
        rw [trimL_cons, ← HS]
      clear HS
      cases hb : blankI (byt t 0) with
      | true =>
        have HI : Hid (trimL (t.extract 1 t.size).data.toList = trimL s.data.toList) := by
          show trimL _ = _
          have h := HL.out
          rw [show blankB (t.data.toList.getD 0 0) = true from hb, if_pos rfl, hst.out] at h
          rw [tail_list]
          exact h.symm
        clear out
        go_wp2_with (go_at_call 41; refine (rBlank_any _ (by omega) (by omega) _).mono ?_; rintro e w' ⟨rfl, rfl⟩)
        go_round
        case rel => exact ⟨t.extract 1 t.size, rfl, by simp; omega, HI⟩
        case measure => simp [strLenV]; omega
      | false =>
        have HE : Hid (trim s.data.toList = trimR t.data.toList) := out t (by
          have h := HL.out
          rwa [show blankB (t.data.toList.getD 0 0) = false from hb, if_neg (by simp)] at h) hst.out
        clear out
        go_wp2_with (go_at_call 41; refine (rBlank_any _ (by omega) (by omega) _).mono ?_; rintro e w' ⟨rfl, rfl⟩)
        clear hby hpos HL hb he hz
        go_loop [0] (fun v => ∃ u : ByteArray, v = .string u ∧ u.size ≤ s.size ∧ Hid (trimR u.data.toList = trim s.data.toList)) (fun v => strLenV v)
        case atStart => exact ⟨t, rfl, hle, HE.out.symm⟩
        case round =>
          clear hst hle HE
          obtain ⟨u, rfl, hle, hst⟩ := hrel
          by_cases hz : u.size = 0
          · have he := hz
            have HE : Hid (u = str (trim s.data.toList)) := by
              have e := List.length_eq_zero_iff.1 ((size_list u).trans hz)
              have h := hst.out
              rw [e] at h
              show u = _
              rw [← h, ← str_self u, e]
              rfl
            go_wp2
            go_ret
            exact ⟨ret_string HE.out, rfl⟩
          · have he := hz
            have hby : ((u[u.size - 1].toNat : Nat) : Int) = byt u (u.size - 1) := byt_at u (u.size - 1) (by omega)
            have hpos : 0 < u.size := by omega
            have hcast : ((u.size : Int) - 1) = ((u.size - 1 : Nat) : Int) := by omega
            obtain ⟨b0, b1⟩ := byt_bd u (u.size - 1)
            have HS := snoc_of hz
            have HR : Hid (trimR u.data.toList = if blankB (u.data.toList.getD (u.size - 1) 0) then trimR (u.data.toList.take (u.size - 1)) else u.data.toList) := by
              show trimR u.data.toList = _
              conv => lhs; rw [HS]
              rw [trimR_snoc, ← HS]
            clear HS
            cases hb : blankI (byt u (u.size - 1)) with
            | true =>
              have HI : Hid (trimR (u.extract 0 (u.size - 1)).data.toList = trim s.data.toList) := by
                show trimR _ = _
                have h := HR.out
                rw [show blankB (u.data.toList.getD (u.size - 1) 0) = true from hb, if_pos rfl, hst.out] at h
                rw [init_list]
                exact h.symm
              go_wp2_with (go_at_call 41; refine (rBlank_any _ (by omega) (by omega) _).mono ?_; rintro e w' ⟨rfl, rfl⟩)
              go_round
              case rel => exact ⟨u.extract 0 (u.size - 1), rfl, by simp; omega, HI⟩
              case measure => simp [strLenV]; omega
            | false =>
              have HE : Hid (u = str (trim s.data.toList)) := by
                have h := HR.out
                rw [show blankB (u.data.toList.getD (u.size - 1) 0) = false from hb, if_neg (by simp), hst.out] at h
                show u = _
                rw [h, str_self]
              go_wp2_with (go_at_call 41; refine (rBlank_any _ (by omega) (by omega) _).mono ?_; rintro e w' ⟨rfl, rfl⟩)
              go_ret
              exact ⟨ret_string HE.out, rfl⟩

end Fd
end Go.Proofs.YtjngpafokkjkdaaGreatDoor
