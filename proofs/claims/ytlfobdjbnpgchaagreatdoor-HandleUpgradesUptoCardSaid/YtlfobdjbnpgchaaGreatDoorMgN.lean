/- Several texts as one. -/
import Derived.Test.YtlfobdjbnpgchaaGreatDoorMgM
import Derived.Test.YtlfobdjbnpgchaaGreatDoorMgG
import Derived.Test.YtlfobdjbnpgchaaGreatDoorMgK
/-
  handle: the law's awake (written by mkhni.py)
-/
set_option linter.unusedVariables false
set_option linter.unusedSimpArgs false
set_option maxRecDepth 100000
namespace Go.Proofs.YtlfobdjbnpgchaaGreatDoor
open Go.RowKit Go.Shelf
namespace Hn
open Oc Tg _root_.Go.Proofs.YtlfobdjbnpgchaaGreatDoor.Fd _root_.Go.Proofs.YtlfobdjbnpgchaaGreatDoor.Ck _root_.Go.Proofs.YtlfobdjbnpgchaaGreatDoor.Ms

set_option maxHeartbeats 4000000 in
theorem awake_any (w : World) : Calls Tryz.prog 6 #[] w fun e w' => e = .returned (.bool true) ∧ Below w.heap.size w w' := by
  have HA : Hid (Calls _ _ _ _ _) := Answer_text w
  have HE : Hid (∀ W, Calls Tryz.prog 17 #[.agg #[.int .i64 4, .string ⟨#[]⟩, .string ⟨#[]⟩, .string ⟨#[]⟩, .int .i64 0, .int .i64 0], .agg #[.string ⟨#[71, 69, 84]⟩, .string ⟨#[47, 120]⟩, .int .i64 0, .int .i64 0, .slice none 0 0, .string ⟨#[]⟩, .slice none 0 0, .int .i64 0, .string ⟨#[]⟩, .int .i64 0, .string ⟨#[]⟩, .string ⟨#[]⟩, .bool false, .slice none 0 0, .int .i64 0], .pointer none] W _) := fun W => Answer_echo W
  go_enter Tryz.func6, Tryz.ntmps6
  go_wp2_with fail
  refine HA.out.mono ?_
  rintro e w2 ⟨a, c, rfl, ho, hb2⟩
  have HB2 : Hid (Below w.heap.size w w2) := hb2
  have HO2 : Hid (OwnF 36 w.heap.size (.slice a 1 c) [(nCT, [97, 47, 98])] w2) := ho
  have hb3 : Below w2.heap.size w2 (w2.alloc (.cells #[.int .i64 200, .string ⟨#[]⟩, .slice a 1 c, .string ⟨#[104, 105]⟩] 39)) := (Below.refl _ w2).alloc (Nat.le_refl _) _
  have HB3 : Hid (Below w.heap.size w (w2.alloc (.cells #[.int .i64 200, .string ⟨#[]⟩, .slice a 1 c, .string ⟨#[104, 105]⟩] 39))) := bel_tr hb2 hb3 hb2.size
  have HM3 : Hid (Blk 39 (w2.alloc (.cells #[.int .i64 200, .string ⟨#[]⟩, .slice a 1 c, .string ⟨#[104, 105]⟩] 39)) w2.heap.size [.int .i64 200, .string ⟨#[]⟩, .slice a 1 c, .string ⟨#[104, 105]⟩]) := (heap_alloc_new w2 _ : Blk _ _ _ _)
  obtain ⟨a', c', e', hcs⟩ := (OwnF.rd (ho.below hb3) : RdF _ _ _)
  injection e' with e1 e0 e2
  clear e0
  subst e1 e2
  rcases hcs with h | ⟨g, o, rfl, hlc, hcell⟩
  · cases h
  obtain ⟨p0, p1⟩ := hcell 0 (by simp)
  have q1 : (w2.alloc (.cells #[.int .i64 200, .string ⟨#[]⟩, .slice (some ⟨g, o, none⟩) 1 c, .string ⟨#[104, 105]⟩] 39)).cell? ⟨g, o + 1, none⟩ = some (.string ⟨#[97, 47, 98]⟩) := p1
  have m0 := HM3.out.cell 0 rfl
  have m2 := HM3.out.cell 2 rfl
  have m3 := HM3.out.cell 3 rfl
  have HZ : Hid (Calls _ _ _ _ _) := HE.out (w2.alloc (.cells #[.int .i64 200, .string ⟨#[]⟩, .slice (some ⟨g, o, none⟩) 1 c, .string ⟨#[104, 105]⟩] 39))
  clear p0 p1 ho hlc hb2 HA HE HO2 hcell hb3
  go_wp2_with fail
  refine HZ.out.mono ?_
  rintro e w4 ⟨a4, c4, rfl, ho4, hb4⟩
  have HB4 : Hid (Below w.heap.size w w4) := bel_tr HB3.out hb4 HB3.out.size
  have HM4 : Hid (Blk 39 w4 w2.heap.size [.int .i64 200, .string ⟨#[]⟩, .slice (some ⟨g, o, none⟩) 1 c, .string ⟨#[104, 105]⟩]) := HM3.out.below hb4
  have hs4 : w.heap.size ≤ w2.heap.size := HB2.out.size
  clear hb4 ho4 HZ m0 m2 m3 q1 HM3 HB3
  generalize hg0 : w2.heap.size = g0 at *
  have r0 := HM4.out.cell 0 rfl
  have r1 := HM4.out.cell 1 rfl
  have r2 := HM4.out.cell 2 rfl
  have r3 := HM4.out.cell 3 rfl
  have rf := HM4.out.free
  have hD4 := HM4.out.lt
  go_wp2
  have h9 := set4_but w4 g0 (.int .i64 200) (.string ⟨#[]⟩) (.slice a4 1 c4) (.string ⟨#[71, 69, 84, 32, 47, 120, 10, 10]⟩)
  refine bodyPost_ret (v := .bool true) (by simp [results, Tryz.results6, go_sem]) rfl ⟨rfl, HB4.out.trans (h9.below (by omega) (fun x hx => by simp at hx; omega))⟩

end Hn
end Go.Proofs.YtlfobdjbnpgchaaGreatDoor

/-
  The law's own plain, handed, whole.
-/
set_option linter.unusedVariables false
set_option linter.unusedSimpArgs false
namespace Go.Proofs.YtlfobdjbnpgchaaGreatDoor
open Go.RowKit Go.Shelf
namespace Fd
open Oc Tg

/-- The two fields of spare room. -/
def spareF : List Fl := [([115, 112, 97, 114, 101], []), ([114, 111, 111, 109], [])]
theorem rd_two (w : World) (T : Nat) : InF (.slice (some ⟨w.heap.size, 0, none⟩) 2 2) spareF (w.alloc (.cells #[.string ⟨#[115, 112, 97, 114, 101]⟩, .string ⟨#[]⟩, .string ⟨#[114, 111, 111, 109]⟩, .string ⟨#[]⟩] T)) := by
  refine ⟨⟨_, _, rfl, .inr ⟨w.heap.size, 0, rfl, by simp [spareF], fun j hj => ?_⟩⟩, fun e => by cases e⟩
  have hj2 : j < 2 := by simpa [spareF] using hj
  match j, hj2 with
  | 0, _ => exact ⟨by simp [nth, spareF, str], by simp [nth, spareF, str]⟩
  | 1, _ => exact ⟨by simp [nth, spareF, str], by simp [nth, spareF, str]⟩
theorem RdF.front {a : Option Addr} {n c : Nat} {t u : List Fl} {w : World} (h : RdF (.slice a n c) (t ++ u) w) : RdF (.slice a t.length c) t w := by
  obtain ⟨a', c', e, h⟩ := h
  injection e with e1 e2 e3
  subst e1 e3
  refine ⟨a, c, rfl, ?_⟩
  rcases h with h | ⟨g, o, rfl, hc, hcell⟩
  · exact .inl (List.append_eq_nil_iff.1 h).1
  · refine .inr ⟨g, o, rfl, by rw [List.length_append] at hc; omega, fun j hj => ?_⟩
    have := hcell j (by rw [List.length_append]; omega)
    rw [show nth (t ++ u) j = nth t j by unfold nth; rw [List.getD_eq_getElem?_getD, List.getD_eq_getElem?_getD, List.getElem?_append_left hj]] at this
    exact this

theorem RdF.cap {a : Option Addr} {n c : Nat} {t : List Fl} {w : World} (h : RdF (.slice a n c) t w) : t.length ≤ c := by
  obtain ⟨a', c', e, h⟩ := h
  injection e with e1 e2 e3
  subst e3
  rcases h with h | ⟨g, o, _, hc, _⟩
  · rw [h]; exact Nat.zero_le _
  · exact hc
theorem RdF.some {a : Option Addr} {n c : Nat} {t : List Fl} {w : World} (h : RdF (.slice a n c) t w) (ht : t ≠ []) : ∃ g, a = .some g := by
  obtain ⟨a', c', e, h⟩ := h
  injection e with e1 e2 e3
  subst e1
  rcases h with h | ⟨g, o, e, _, _⟩
  · exact absurd h ht
  · exact ⟨_, e⟩

end Fd
end Go.Proofs.YtlfobdjbnpgchaaGreatDoor

/-
  Lists of tokens; texts held against texts.
-/
set_option linter.unusedVariables false
set_option linter.unusedSimpArgs false
namespace Go.Proofs.YtlfobdjbnpgchaaGreatDoor
open Go.RowKit Go.Shelf
namespace Oc

def tokensR (l : List UInt8) : List (List UInt8) × Int := if (listR l).2 = 0 then (if (listR l).1.all isTok then ((listR l).1, 0) else ([], 10)) else ([], (listR l).2)
theorem listR_err (l : List UInt8) : (listR l).2 = 0 ∨ (listR l).1 = [] ∧ (listR l).2 = 14 := by
  unfold listR
  split
  · exact .inl rfl
  · exact .inr ⟨rfl, rfl⟩
theorem tokensR_err {l : List UInt8} (h : (listR l).2 = 14) : tokensR l = ([], 14) := by unfold tokensR; rw [if_neg (by omega), h]
theorem tokensR_bad {l : List UInt8} (h : (listR l).2 = 0) (k : Nat) (hk : k < (listR l).1.length) (hb : isTok ((listR l).1.getD k []) = false) : tokensR l = ([], 10) := by
  unfold tokensR
  rw [if_pos h, if_neg]
  rw [all_not isTok [] _ k hk hb]
  simp
theorem tokensR_ok {l : List UInt8} (h : (listR l).2 = 0) (hb : ∀ k, k < (listR l).1.length → isTok ((listR l).1.getD k []) = true) : tokensR l = ((listR l).1, 0) := by
  unfold tokensR
  rw [if_pos h, if_pos (all_of isTok [] _ hb)]

/-- Elements are no longer than the text, and as many. -/
def Short (n : Nat) (t : List (List UInt8)) : Prop := t.length ≤ n ∧ ∀ x ∈ t, x.length ≤ n
theorem short_lst : ∀ (m : Nat) (r cur : List UInt8) (t : List (List UInt8)), r.length ≤ m → lst cur r = some t → t.length ≤ r.length + 1 ∧ ∀ x ∈ t, x.length ≤ cur.length + r.length
  | m, [], cur, t, _, h => by
    rw [lst_nil] at h
    cases h
    have := addEl_len (trim cur)
    refine ⟨by simpa using this, fun x hx => ?_⟩
    unfold addEl at hx
    split at hx
    · simp at hx
    · simp at hx
      subst hx
      have := trim_le cur
      simp
      omega
  | 0, c :: r, cur, t, hm, _ => by simp at hm
  | m + 1, c :: r, cur, t, hm, h => by
    have hl : r.length ≤ m := by simpa using hm
    by_cases h44 : c = 44
    · rw [lst_comma _ _ _ h44] at h
      obtain ⟨u, hu, rfl⟩ := Option.map_eq_some_iff.1 h
      obtain ⟨i1, i2⟩ := short_lst m r [] u hl hu
      constructor
      · unfold addEl
        split <;> simp <;> omega
      · intro x hx
        unfold addEl at hx
        split at hx
        · have := i2 x hx
          simp at this ⊢
          omega
        · rcases List.mem_cons.1 hx with rfl | hx
          · have := trim_le cur
            simp
            omega
          · have := i2 x hx
            simp at this ⊢
            omega
    · by_cases h34 : c = 34
      · by_cases hq : qlen (c :: r) = 0
        · rw [lst_bad _ _ _ h34 hq] at h; cases h
        · rw [lst_quote _ _ _ h34 hq] at h
          have hb := qlen_bd (c :: r)
          obtain ⟨i1, i2⟩ := short_lst m _ _ t (by rw [List.length_drop]; simp; omega) h
          rw [List.length_drop] at i1 i2
          rw [List.length_append, List.length_take] at i2
          refine ⟨by omega, fun x hx => ?_⟩
          have := i2 x hx
          omega
      · rw [lst_on _ _ _ h44 h34] at h
        obtain ⟨i1, i2⟩ := short_lst m r _ t hl h
        rw [List.length_append] at i2
        refine ⟨by simp; omega, fun x hx => ?_⟩
        have := i2 x hx
        simp at this ⊢
        omega
theorem listR_short (l : List UInt8) : (listR l).1.length ≤ l.length + 1 ∧ ∀ x ∈ (listR l).1, x.length ≤ l.length := by
  unfold listR
  split
  · rename_i t h
    obtain ⟨a, b⟩ := short_lst l.length l [] t (Nat.le_refl _) h
    exact ⟨a, fun x hx => by have := b x hx; simpa using this⟩
  · simp
theorem getD_short {n : Nat} {t : List (List UInt8)} (h : ∀ x ∈ t, x.length ≤ n) (k : Nat) (hk : k < t.length) : (t.getD k []).length ≤ n := by
  refine h _ ?_
  rw [List.getD_eq_getElem?_getD, List.getElem?_eq_getElem hk]
  exact List.getElem_mem _

end Oc
end Go.Proofs.YtlfobdjbnpgchaaGreatDoor

/-
  Texts held against texts: the law's own 'same'.
-/
set_option linter.unusedVariables false
set_option linter.unusedSimpArgs false
namespace Go.Proofs.YtlfobdjbnpgchaaGreatDoor
open Go.RowKit Go.Shelf
namespace Oc

/-- A slice that reads as these texts. -/
def RdS (v : Value) (t : List (List UInt8)) (w : World) : Prop :=
  ∃ a c, v = .slice a t.length c ∧ (t = [] ∨ ∃ g o, a = some ⟨g, o, none⟩ ∧ t.length ≤ c ∧ ∀ j, j < t.length → w.cell? ⟨g, o + j, none⟩ = some (.string (str (t.getD j []))))
theorem OwnS.rd {B : Nat} {v : Value} {t : List (List UInt8)} {w : World} (h : OwnS B v t w) : RdS v t w := by
  obtain ⟨a, c, rfl⟩ := h.form
  refine ⟨a, c, rfl, ?_⟩
  cases t with
  | nil => exact .inl rfl
  | cons x t =>
    right
    obtain ⟨g, e, hc, _⟩ := h.cell 0 (by simp)
    refine ⟨g, 0, e, hc, fun j hj => ?_⟩
    obtain ⟨g', e', _, hcell⟩ := h.cell j hj
    rw [e] at e'
    injection e' with e'
    injection e' with e1
    subst e1
    rw [Nat.zero_add]
    exact hcell
theorem RdS.below {v : Value} {t : List (List UInt8)} {w w' : World} (h : RdS v t w) (b : Below w.heap.size w w') : RdS v t w' := by
  obtain ⟨a, c, rfl, h⟩ := h
  refine ⟨a, c, rfl, ?_⟩
  rcases h with h | ⟨g, o, e, hc, hcell⟩
  · exact .inl h
  · refine .inr ⟨g, o, e, hc, fun j hj => ?_⟩
    have h1 := hcell j hj
    rw [b.cell (p := ⟨g, o + j, none⟩) (World.block_lt_of_cell? w _ h1)]
    exact h1

theorem drawn_again (w : World) (n m : Nat) : Hid (∃ k, w.drewN (n + m) = w.drewN k) := ⟨_, rfl⟩
theorem drawn_twice (w : World) (n m : Nat) : ∃ k, (w.drewN n).drewN m = w.drewN k := ⟨n + m, World.drewN_drewN ..⟩

end Oc
end Go.Proofs.YtlfobdjbnpgchaaGreatDoor
