/-
  The law's digits; the four ways of a framing.
-/
import Derived.Test.YtjmeijjmgmcncaaDoorFNm
import Derived.Test.YtjmeijjmgmcncaaDoorFFr
set_option linter.unusedVariables false
set_option linter.unusedSimpArgs false
namespace Go.Proofs.YtjmeijjmgmcncaaDoor
open Go.RowKit Go.Shelf
namespace Fd
open Oc Tg

/-- Zeros ahead put off, the last sign kept. -/
def stripZ : List UInt8 → List UInt8
  | [] => []
  | [c] => [c]
  | c :: d :: l => if c = 48 then stripZ (d :: l) else c :: d :: l
def isDg (l : List UInt8) : Prop := ∀ c ∈ l, 48 ≤ c.toNat ∧ c.toNat ≤ 57
theorem isDg.tail {c : UInt8} {l : List UInt8} (h : isDg (c :: l)) : isDg l := fun x hx => h x (List.mem_cons_of_mem _ hx)
theorem dg_val {c : UInt8} (h : 48 ≤ c.toNat ∧ c.toNat ≤ 57) : valI (c.toNat : Int) = (c.toNat : Int) - 48 := valI_d (by omega)
theorem dg_eq {c d : UInt8} (h : (c.toNat : Int) = d.toNat) : c = d := UInt8.toNat_inj.1 (by omega)
theorem dg_snoc {l : List UInt8} {c : UInt8} (h : isDg (l ++ [c])) : isDg l ∧ (48 ≤ c.toNat ∧ c.toNat ≤ 57) :=
  ⟨fun x hx => h x (List.mem_append_left _ hx), h c (List.mem_append_right _ List.mem_cons_self)⟩
theorem num_nonneg (n : Nat) : ∀ l : List UInt8, l.length ≤ n → isDg l → 0 ≤ numOf 10 l := by
  induction n with
  | zero => intro l h _; have e : l = [] := List.length_eq_zero_iff.1 (by omega); subst e; decide
  | succ n ih =>
    intro l hl h
    rcases List.eq_nil_or_concat l with rfl | ⟨m, c, rfl⟩
    · decide
    · rw [List.concat_eq_append] at *
      obtain ⟨h1, h2⟩ := dg_snoc h
      have := ih m (by simp at hl; omega) h1
      rw [numOf_snoc, dg_val h2]
      omega
theorem num_pos (n : Nat) : ∀ l : List UInt8, l.length ≤ n → isDg l → l ≠ [] → l.getD 0 0 ≠ 48 → 0 < numOf 10 l := by
  induction n with
  | zero => intro l h _ h0; exact absurd (List.length_eq_zero_iff.1 (by omega)) h0
  | succ n ih =>
    intro l hl h h0 h1
    rcases List.eq_nil_or_concat l with rfl | ⟨m, c, rfl⟩
    · exact absurd rfl h0
    · rw [List.concat_eq_append] at *
      obtain ⟨h2, h3⟩ := dg_snoc h
      rw [numOf_snoc, dg_val h3]
      cases m with
      | nil =>
        have : c ≠ 48 := by simpa using h1
        have hc : ¬ (c.toNat : Int) = (48 : UInt8).toNat := fun e => this (dg_eq e)
        have : numOf 10 ([] : List UInt8) = 0 := rfl
        have e48 : (48 : UInt8).toNat = 48 := rfl
        rw [e48] at hc
        omega
      | cons d m =>
        have := ih (d :: m) (by simp at hl ⊢; omega) h2 (by simp) (by simpa using h1)
        omega
/-- Lists of digits with no zero ahead that say the same number are the same. -/
theorem num_inj (n : Nat) : ∀ a b : List UInt8, a.length ≤ n → isDg a → isDg b → a.getD 0 0 ≠ 48 → b.getD 0 0 ≠ 48 → numOf 10 a = numOf 10 b → a = b := by
  induction n with
  | zero =>
    intro a b hl ha hb h1 h2 h
    have : a = [] := List.length_eq_zero_iff.1 (by omega)
    subst this
    by_cases h0 : b = []
    · exact h0.symm
    · have := num_pos _ b (Nat.le_refl _) hb h0 h2
      have e : numOf 10 ([] : List UInt8) = 0 := rfl
      omega
  | succ n ih =>
    intro a b hl ha hb h1 h2 h
    have e : numOf 10 ([] : List UInt8) = 0 := rfl
    rcases List.eq_nil_or_concat a with rfl | ⟨m, c, rfl⟩
    · by_cases h0 : b = []
      · exact h0.symm
      · have := num_pos _ b (Nat.le_refl _) hb h0 h2
        omega
    · rcases List.eq_nil_or_concat b with rfl | ⟨k, d, rfl⟩
      · have := num_pos _ _ (Nat.le_refl _) ha (by simp) h1
        omega
      · rw [List.concat_eq_append] at *
        rw [List.concat_eq_append] at *
        obtain ⟨a1, a2⟩ := dg_snoc ha
        obtain ⟨b1, b2⟩ := dg_snoc hb
        rw [numOf_snoc, numOf_snoc, dg_val a2, dg_val b2] at h
        have hcd : c = d := dg_eq (by omega)
        have hmk : numOf 10 m = numOf 10 k := by omega
        have hm : m.getD 0 0 ≠ 48 := by
          cases m with
          | nil => simp
          | cons x m => simpa using h1
        have hk : k.getD 0 0 ≠ 48 := by
          cases k with
          | nil => simp
          | cons x k => simpa using h2
        rw [ih m k (by simp at hl; omega) a1 b1 hm hk hmk, hcd]
theorem num_zero (l : List UInt8) : numOf 10 (48 :: l) = numOf 10 l := by
  unfold numOf
  rw [List.foldl_cons]
  rfl
theorem strip_facts : ∀ l : List UInt8, l ≠ [] → isDg l → stripZ l ≠ [] ∧ isDg (stripZ l) ∧ numOf 10 (stripZ l) = numOf 10 l ∧ (stripZ l = [48] ∨ (stripZ l).getD 0 0 ≠ 48) ∧ (stripZ l).length ≤ l.length
  | [], h, _ => absurd rfl h
  | [c], h, hd => ⟨by simp [stripZ], hd, rfl, by
      by_cases hc : c = 48
      · subst hc; exact .inl rfl
      · exact .inr (by simpa [stripZ] using hc), Nat.le_refl _⟩
  | c :: d :: l, h, hd => by
    have ih := strip_facts (d :: l) (by simp) hd.tail
    unfold stripZ
    by_cases hc : c = 48
    · subst hc
      rw [if_pos rfl]
      refine ⟨ih.1, ih.2.1, ih.2.2.1.trans (num_zero _).symm, ih.2.2.2.1, ?_⟩
      have := ih.2.2.2.2
      simp at this ⊢
      omega
    · rw [if_neg hc]
      exact ⟨by simp, hd, rfl, .inr (by simpa using hc), Nat.le_refl _⟩
/-- What FieldOne asks: the same number, the same digits. -/
theorem strip_same {a b : List UInt8} (a0 : a ≠ []) (b0 : b ≠ []) (ha : isDg a) (hb : isDg b) (h : numOf 10 a = numOf 10 b) : stripZ a = stripZ b := by
  obtain ⟨a1, a2, a3, a4, _⟩ := strip_facts a a0 ha
  obtain ⟨b1, b2, b3, b4, _⟩ := strip_facts b b0 hb
  have e48 : numOf 10 [48] = 0 := by decide
  rcases a4 with a4 | a4 <;> rcases b4 with b4 | b4
  · rw [a4, b4]
  · have := num_pos _ _ (Nat.le_refl _) b2 b1 b4
    rw [a4] at a3
    omega
  · have := num_pos _ _ (Nat.le_refl _) a2 a1 a4
    rw [b4] at b3
    omega
  · exact num_inj _ _ _ (Nat.le_refl _) a2 b2 a4 b4 (by omega)

theorem len_pos {s : ByteArray} (h : s.data.toList ≠ []) : 0 < s.size := by
  rw [← size_list]
  exact List.length_pos_iff.2 h
theorem strip_one (t : ByteArray) (h : t.size = 1) : stripZ t.data.toList = t.data.toList := by
  have := size_list t
  rw [h] at this
  obtain ⟨c, hc⟩ := List.length_eq_one_iff.1 this
  rw [hc]
  rfl
theorem strip_step (t : ByteArray) (h : 1 < t.size) : stripZ t.data.toList = if byt t 0 = 48 then stripZ (t.extract 1 t.size).data.toList else t.data.toList := by
  rw [tail_list]
  have hl := size_list t
  unfold byt
  rcases hh : t.data.toList with _ | ⟨c, _ | ⟨d, l⟩⟩
  · rw [hh] at hl; simp at hl; omega
  · rw [hh] at hl; simp at hl; omega
  · show (if c = 48 then stripZ (d :: l) else c :: d :: l) = if ((c.toNat : Nat) : Int) = 48 then stripZ (d :: l) else c :: d :: l
    by_cases hc : c = 48
    · subst hc
      rfl
    · rw [if_neg hc, if_neg]
      intro e
      exact hc (dg_eq (by rw [e]; rfl))

set_option maxRecDepth 100000 in
set_option maxHeartbeats 1000000 in
theorem digits_any (s : ByteArray) (hs : s.size ≤ 134217728) (h0 : s.data.toList ≠ []) (hd : isDg s.data.toList) (w : World) :
    Calls Tryd.prog 32 #[.string s] w fun e w' => e = .returned (.string (str (stripZ s.data.toList))) ∧ Below w.heap.size w w' := by
  have hcv := fun w => Lib.run_convert_string_bytes (P := Tryd.prog) w 9 61 5 s Tryd.underlying9 Tryd.underlying61 Tryd.underlying5
  have hb := below_bytes w 5 s
  have hr := bytes_row w 5 s
  have hbd : Hid (∀ k, k < s.size → 48 ≤ byt s k ∧ byt s k ≤ 57) := by
    intro k hk
    have := hd (s.data.toList.getD k 0) (by
      rw [List.getD_eq_getElem?_getD, List.getElem?_eq_getElem (by simpa using hk)]
      exact List.getElem_mem _)
    unfold byt
    omega
  have H0 : Hid (s.data.toList ≠ []) := h0
  clear h0 hd
  go_enter Tryd.func32, Tryd.ntmps32
  go_wp2
  go_loop [8] (fun i => ∃ k : Nat, k ≤ s.size ∧ i = .int .i64 k) (fun i => s.size - (intOf i).toNat)
  case atStart => exact ⟨0, Nat.zero_le _, rfl⟩
  case round =>
    obtain ⟨k, hk, rfl⟩ := hrel
    by_cases hlt : k < s.size
    · have hck := hr.cell k hlt
      obtain ⟨b0, b1⟩ := hbd.out k hlt
      have q1 : decide (byt s k < 48) = false := decide_eq_false (by omega)
      have q2 : decide (57 < byt s k) = false := decide_eq_false (by omega)
      go_wp2
      go_round
      case rel => exact ⟨k + 1, by omega, by go_num⟩
      case measure => simp [intOf]; omega
    · obtain rfl : k = s.size := by omega
      clear hcv hr hbd
      go_wp2
      go_loop [0] (fun v => ∃ t : ByteArray, v = .string t ∧ t.size ≤ s.size ∧ 0 < t.size ∧ Hid (stripZ t.data.toList = stripZ s.data.toList)) (fun v => strLenV v)
      case atStart => exact ⟨s, rfl, Nat.le_refl _, len_pos H0.out, rfl⟩
      case round =>
        obtain ⟨t, rfl, hle, hpos, hst⟩ := hrel
        by_cases h1 : 1 < t.size
        · have hby : ((t[0].toNat : Nat) : Int) = byt t 0 := byt_at t 0 hpos
          have hbd := byt_bd t 0
          have HS : Hid (stripZ t.data.toList = if byt t 0 = 48 then stripZ (t.extract 1 t.size).data.toList else t.data.toList) := strip_step t h1
          by_cases hz : byt t 0 = 48
          · have HI : Hid (stripZ (t.extract 1 t.size).data.toList = stripZ s.data.toList) := by
              have h := HS.out
              rw [if_pos hz] at h
              exact h.symm.trans hst.out
            have q1 : decide (1 < (t.size : Int)) = true := decide_eq_true (by omega)
            go_wp2
            go_round
            case rel => exact ⟨t.extract 1 t.size, rfl, by simp; omega, by simp; omega, HI⟩
            case measure => simp [strLenV]; omega
          · have HE : Hid (t = str (stripZ s.data.toList)) := by
              have h := HS.out
              rw [if_neg hz, hst.out] at h
              show t = _
              rw [h, str_self]
            have q1 : decide (1 < (t.size : Int)) = true := decide_eq_true (by omega)
            go_wp2
            go_ret
            exact ⟨ret_string HE.out, hb⟩
        · have HE : Hid (t = str (stripZ s.data.toList)) := by
            show t = _
            rw [← hst.out, strip_one t (by omega), str_self]
          have q1 : decide (1 < (t.size : Int)) = false := decide_eq_false (by omega)
          go_wp2
          go_ret
          exact ⟨ret_string HE.out, hb⟩

end Fd
end Go.Proofs.YtjmeijjmgmcncaaDoor

namespace Go.Proofs.YtjmeijjmgmcncaaDoor
open Go.RowKit Go.Shelf
namespace Fd
open Oc Tg

theorem dec_ok {x : List UInt8} (h : (dec x).2 = 0) : x ≠ [] ∧ isDg x ∧ (dec x).1 = numOf 10 x ∧ numOf 10 x ≤ 1099511627776 := by
  unfold dec numR at *
  by_cases h1 : (x.isEmpty || x.any (fun c => decide ((10 : Int) ≤ valI (c.toNat : Int)))) = true
  · rw [if_pos h1] at h; simp at h
  · rw [if_neg h1] at h ⊢
    by_cases h2 : (1099511627776 : Int) < numOf 10 x
    · rw [if_pos h2] at h; simp at h
    · rw [if_neg h2]
      simp only [Bool.or_eq_true, not_or, List.any_eq_true, not_exists, not_and, decide_eq_true_eq] at h1
      refine ⟨fun e => h1.1 (by rw [e]; rfl), fun c hc => ?_, rfl, by omega⟩
      have hv := h1.2 c hc
      constructor
      · by_cases hl : (c.toNat : Int) < 48
        · exact absurd (val_low hl) hv
        · omega
      · by_cases hl : (57 : Int) < (c.toNat : Int)
        · exact absurd (val_high hl) hv
        · omega
theorem lenL_cases (L : List (List UInt8)) : lenL L = (0, false, 66) ∨ (L ≠ [] ∧ (∀ x ∈ L, (dec x).2 = 0 ∧ (dec x).1 = (dec (L.getD 0 [])).1) ∧ lenL L = ((dec (L.getD 0 [])).1, true, 0)) := by
  unfold lenL
  by_cases h0 : L = []
  · rw [if_pos h0]; exact .inl rfl
  · rw [if_neg h0]
    by_cases h1 : sameLen L = true
    · rw [if_pos h1]
      refine .inr ⟨h0, fun x hx => ?_, rfl⟩
      unfold sameLen at h1
      exact of_decide_eq_true (List.all_eq_true.1 h1 x hx)
    · rw [if_neg h1]; exact .inl rfl
theorem len_cases (t : List Fl) : (vals nCL t = [] ∧ lengthF t = (0, false, 0)) ∨ (vals nCL t ≠ [] ∧ lengthF t = (0, false, 66)) ∨
    (vals nCL t ≠ [] ∧ (listF nCL t).2 = 0 ∧ (listF nCL t).1 ≠ [] ∧ (∀ x ∈ (listF nCL t).1, (dec x).2 = 0 ∧ (dec x).1 = (dec ((listF nCL t).1.getD 0 [])).1) ∧ lengthF t = ((dec ((listF nCL t).1.getD 0 [])).1, true, 0)) := by
  unfold lengthF
  by_cases h0 : vals nCL t = []
  · rw [if_pos h0]; exact .inl ⟨h0, rfl⟩
  · rw [if_neg h0]
    by_cases h1 : (listF nCL t).2 = 0
    · rw [if_pos h1]
      rcases lenL_cases (listF nCL t).1 with h | ⟨h2, h3, h4⟩
      · exact .inr (.inl ⟨h0, h⟩)
      · exact .inr (.inr ⟨h0, h1, h2, h3, h4⟩)
    · rw [if_neg h1]; exact .inr (.inl ⟨h0, rfl⟩)
theorem cod_cases (t : List Fl) : (vals nTE t = [] ∧ codF t = ([], false, 0)) ∨ (vals nTE t ≠ [] ∧ (codF t).2.1 = true ∧ (codF t).2.2 = 0) ∨ (vals nTE t ≠ [] ∧ codF t = ([], false, 67)) := by
  unfold codF
  by_cases h0 : vals nTE t = []
  · rw [if_pos h0]; exact .inl ⟨h0, rfl⟩
  · rw [if_neg h0]
    by_cases h1 : (tokensF nTE t).2 = 0
    · rw [if_pos h1]; exact .inr (.inl ⟨h0, rfl, rfl⟩)
    · rw [if_neg h1]; exact .inr (.inr ⟨h0, rfl⟩)
def oneLen (t : List Fl) (n : Int) : Prop := (listF nCL t).2 = 0 ∧ (listF nCL t).1 ≠ [] ∧ (∀ k, k < (listF nCL t).1.length → (listF nCL t).1.getD k [] ≠ [] ∧ isDg ((listF nCL t).1.getD k []) ∧ stripZ ((listF nCL t).1.getD k []) = stripZ ((listF nCL t).1.getD 0 [])) ∧ n = numOf 10 (stripZ ((listF nCL t).1.getD 0 [])) ∧ n ≤ 1099511627776
theorem one_len {t : List Fl} (h1 : (listF nCL t).2 = 0) (h2 : (listF nCL t).1 ≠ []) (h3 : ∀ x ∈ (listF nCL t).1, (dec x).2 = 0 ∧ (dec x).1 = (dec ((listF nCL t).1.getD 0 [])).1) : oneLen t (dec ((listF nCL t).1.getD 0 [])).1 := by
  unfold oneLen
  generalize (listF nCL t).1 = L at *
  have hm : ∀ k, k < L.length → L.getD k [] ∈ L := fun k hk => by
    rw [List.getD_eq_getElem?_getD, List.getElem?_eq_getElem hk]
    exact List.getElem_mem _
  have p0 : 0 < L.length := List.length_pos_iff.2 h2
  obtain ⟨a1, a2, a3, a4⟩ := dec_ok (h3 _ (hm 0 p0)).1
  refine ⟨h1, h2, fun k hk => ?_, ?_, by omega⟩
  · obtain ⟨b1, b2, b3, b4⟩ := dec_ok (h3 _ (hm k hk)).1
    have := (h3 _ (hm k hk)).2
    exact ⟨b1, b2, strip_same b1 a1 b2 a2 (by omega)⟩
  · rw [(strip_facts _ a1 a2).2.2.1]
    exact a3
/-- The four ways of an answer, with what FieldOne asks of each. -/
theorem one_ways (t : List Fl) (old : Bool) :
    ((framingF t old).2.2 ≠ 0 ∧ (framingF t old).1 = 0 ∧ (framingF t old).2.1 = 0 ∧ 0 < (vals nCL t).length + (vals nTE t).length) ∨
    ((framingF t old).2.2 = 0 ∧ (framingF t old).1 = 0 ∧ (framingF t old).2.1 = 0 ∧ (vals nCL t).length = 0 ∧ (vals nTE t).length = 0) ∨
    ((framingF t old).2.2 = 0 ∧ (framingF t old).1 = 2 ∧ (framingF t old).2.1 = 0 ∧ (vals nCL t).length = 0 ∧ 0 < (vals nTE t).length ∧ old = false) ∨
    ((framingF t old).2.2 = 0 ∧ (framingF t old).1 = 1 ∧ (vals nTE t).length = 0 ∧ oneLen t (framingF t old).2.1) := by
  unfold framingF
  rcases cod_cases t with ⟨c1, c2⟩ | ⟨c1, c2, c3⟩ | ⟨c1, c2⟩
  · have z : (vals nTE t).length = 0 := by rw [c1]; rfl
    rcases len_cases t with ⟨l1, l2⟩ | ⟨l1, l2⟩ | ⟨l1, l2, l3, l4, l5⟩
    · have y : (vals nCL t).length = 0 := by rw [l1]; rfl
      rw [c2, l2]
      exact .inr (.inl ⟨rfl, rfl, rfl, y, z⟩)
    · have y : 0 < (vals nCL t).length := List.length_pos_iff.2 l1
      rw [c2, l2]
      exact .inl ⟨by unfold frame; simp, rfl, rfl, by omega⟩
    · have ho := one_len l2 l3 l4
      rw [c2, l5]
      exact .inr (.inr (.inr ⟨rfl, rfl, z, ho⟩))
  · have z : 0 < (vals nTE t).length := List.length_pos_iff.2 c1
    rw [c2, c3]
    unfold frame
    rw [if_neg (by simp), if_pos rfl]
    cases old with
    | true =>
      rw [if_pos rfl]
      exact .inl ⟨by decide, rfl, rfl, by omega⟩
    | false =>
      rw [if_neg (by simp)]
      by_cases hc : (codF t).1 = [chk]
      · rw [if_pos hc]
        rcases len_cases t with ⟨l1, l2⟩ | ⟨l1, l2⟩ | ⟨l1, l2, l3, l4, l5⟩
        · have y : (vals nCL t).length = 0 := by rw [l1]; rfl
          rw [l2]
          exact .inr (.inr (.inl ⟨rfl, rfl, rfl, y, z, rfl⟩))
        · rw [l2]
          exact .inl ⟨by decide, rfl, rfl, by omega⟩
        · rw [l5]
          exact .inl ⟨by simp, rfl, rfl, by omega⟩
      · rw [if_neg hc]
        exact .inl ⟨by decide, rfl, rfl, by omega⟩
  · have z : 0 < (vals nTE t).length := List.length_pos_iff.2 c1
    rw [c2]
    exact .inl ⟨by unfold frame; simp, by unfold frame; simp, by unfold frame; simp, by omega⟩

end Fd
end Go.Proofs.YtjmeijjmgmcncaaDoor
