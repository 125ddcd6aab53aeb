/- Several texts as one. -/
import Derived.Test.YtlnlhhobmgiceaaGreatDoorFLn
import Derived.Deep.QuietTactic
import Derived.Maps.AppendAt
import Derived.Test.YtlnlhhobmgiceaaGreatDoorMgK
/-
  Slices of fields: of the call's own, read.
-/
set_option linter.unusedVariables false
set_option linter.unusedSimpArgs false
namespace Go.Proofs.YtlnlhhobmgiceaaGreatDoor
open Go.RowKit Go.Shelf
namespace Fd
open Oc Tg

abbrev Fl := List UInt8 × List UInt8
def encF1 (p : Fl) : List Value := [.string (str p.1), .string (str p.2)]
def encF (ps : List Fl) : List Value := ps.flatMap encF1
theorem encF_snoc (ps : List Fl) (p : Fl) : encF (ps ++ [p]) = encF ps ++ encF1 p := by unfold encF; rw [List.flatMap_append]; simp
theorem encF_len : ∀ ps : List Fl, (encF ps).length = ps.length * 2
  | [] => rfl
  | p :: ps => by
    have := encF_len ps
    unfold encF at *
    rw [List.flatMap_cons, List.length_append, this, List.length_cons]
    show 2 + _ = _
    omega
/-- A slice of parameters (of the type T) of the call's own. -/
def OwnF (T B : Nat) (v : Value) (ps : List Fl) (w : World) : Prop := w.ownsRow B T 2 v ps.length (encF ps)
theorem ownF_nil (T B : Nat) (w : World) : OwnF T B (.slice none 0 0) [] w := World.ownsRow_nil w B T 2
theorem ownF_empty {B : Nat} (T : Nat) (w : World) (hB : B ≤ w.heap.size) : OwnF T B (.slice (some ⟨w.heap.size, 0, none⟩) 0 0) [] (w.alloc (.cells #[] T)) :=
  ⟨by simp [encF], .inr ⟨w.heap.size, 0, #[], rfl, hB, heap_alloc_new w _, by simp, by decide, by simp, by simp [encF]⟩⟩
theorem OwnF.below {T B : Nat} {v : Value} {t : List Fl} {w w' : World} (h : OwnF T B v t w) (b : Below w.heap.size w w') : OwnF T B v t w' := by
  refine ⟨h.1, ?_⟩
  rcases h.2 with hn | ⟨g, cap, cur, rfl, hb, hg, rest⟩
  · exact .inl hn
  · refine .inr ⟨g, cap, cur, rfl, hb, ?_, rest⟩
    have hlt : g < w.heap.size := by
      rcases Nat.lt_or_ge g w.heap.size with h | h
      · exact h
      · simp [Array.getElem?_eq_none h] at hg
    rw [b.block g hlt]
    exact hg

/-- A parameter appended to a slice of the call's own. -/
theorem wp_appF {ops : Array Oper} {rest : List Oper} {o : Oper} {a : Act} {Q : Exit → Act → World → Prop} (T S : Nat) (hinfo : (Tryz.prog.info? T).map (fun i => (i.zero, i.size, i.bytes)) = some (some (.agg #[.string ⟨#[]⟩, .string ⟨#[]⟩]), 2, 32))
    (hund : Tryz.prog.underlying S = some (.slice T)) (hgd : o.guard = none) (s x : Operand)
    (ho : o.op = .call { callee := .builtin .append, args := #[s, x], argTypes := #[S, S] }) (B : Nat) (v : Value) (t : List Fl) (W : World) (p : Fl) (n1 n2 : ByteArray) (h1 : n1 = str p.1) (h2 : n2 = str p.2)
    (hs : a.eval s = v) (hown : OwnF T B v t W) (g : Nat) (hx : a.eval x = .slice (some ⟨g, 0, none⟩) 1 1) (hg : g = W.heap.size) (hlen : t.length + 1 ≤ 2147483648) (hB : B ≤ W.heap.size)
    (h : ∀ v' w', OwnF T B v' (t ++ [p]) w' → Below B W w' → wpList Tryz.prog ops Q rest (a.put o.dst v') w') : wpList Tryz.prog ops Q (o :: rest) a (W.alloc (.cells #[.string n1, .string n2] T)) := by
  subst h1 h2 hg
  obtain ⟨i0, hi, hz0, hz1, hz2⟩ := info_parts hinfo
  refine wpList_append_own _ hgd s x S ho B T i0 (.agg #[.string ⟨#[]⟩, .string ⟨#[]⟩]) 2 32 hund hi hz0 hz1 hz2 rfl (by decide) v t.length _ hs (World.ownsRow.alloc hown _) ⟨W.heap.size, 0, none⟩ 1 1 (encF1 p) hx rfl ?_ ?_ ?_ ?_ ?_ ?_
  · intro j u hj
    unfold encF1 at hj
    match j, hj with
    | 0, hj => simp at hj; subst hj; simp [Addr.add]
    | 1, hj => simp at hj; subst hj; simp [Addr.add]
  · intro u hu
    unfold encF1 at hu
    simp at hu
    rcases hu with rfl | rfl <;> rfl
  · unfold maxLen; omega
  · omega
  · simp; omega
  · intro v' w' h1 h2 _
    refine h v' w' ?_ (((Below.refl B W).alloc hB _).grown h2 (by simp; omega) (fun k hk => (World.ownsRow.lt hown k hk).1))
    unfold OwnF
    rw [encF_snoc, List.length_append]
    exact h1

theorem infoF : (Tryz.prog.info? 190).map (fun i => (i.zero, i.size, i.bytes)) = some (some (.agg #[.string ⟨#[]⟩, .string ⟨#[]⟩]), 2, 32) := by kernel_rfl

def nth (t : List Fl) (j : Nat) : Fl := t.getD j ([], [])
/-- A slice that reads as these parameters. -/
def RdF (v : Value) (t : List Fl) (w : World) : Prop :=
  ∃ a c, v = .slice a t.length c ∧ (t = [] ∨ ∃ g o, a = some ⟨g, o, none⟩ ∧ t.length ≤ c ∧ ∀ j, j < t.length → w.cell? ⟨g, o + j * 2, none⟩ = some (.string (str (nth t j).1)) ∧ w.cell? ⟨g, o + j * 2 + 1, none⟩ = some (.string (str (nth t j).2)))
theorem encF_at : ∀ (t : List Fl) (j : Nat), j < t.length → (encF t)[j * 2]? = some (.string (str (nth t j).1)) ∧ (encF t)[j * 2 + 1]? = some (.string (str (nth t j).2))
  | [], j, h => by simp at h
  | p :: t, 0, _ => ⟨rfl, rfl⟩
  | p :: t, j + 1, h => by
    have ih := encF_at t j (by simpa using h)
    have e : encF (p :: t) = [.string (str p.1), .string (str p.2)] ++ encF t := rfl
    rw [e]
    have n : nth (p :: t) (j + 1) = nth t j := by unfold nth; simp
    rw [n, show (j + 1) * 2 = j * 2 + 2 by omega, show j * 2 + 2 + 1 = (j * 2 + 1) + 2 by omega]
    exact ih
theorem OwnF.rd {T B : Nat} {v : Value} {t : List Fl} {w : World} (h : OwnF T B v t w) : RdF v t w := by
  have hall := h
  rcases h.2 with ⟨rfl, h0⟩ | ⟨g, cap, cur, rfl, _, hg, hn, _⟩
  · exact ⟨none, 0, by rw [h0], .inl (List.length_eq_zero_iff.1 h0)⟩
  · refine ⟨_, _, rfl, .inr ⟨g, 0, rfl, by omega, fun j hj => ?_⟩⟩
    obtain ⟨e0, e1⟩ := encF_at t j hj
    have ea : ∀ k, Addr.add ⟨g, 0, none⟩ k = ⟨g, 0 + k, none⟩ := fun k => by unfold Addr.add; split <;> simp_all
    have c0 := World.ownsRow.cells hall (g := g) rfl _ _ e0
    have c1 := World.ownsRow.cells hall (g := g) rfl _ _ e1
    rw [ea] at c0 c1
    exact ⟨c0, c1⟩
theorem RdF.below {v : Value} {t : List Fl} {w w' : World} (h : RdF v t w) (b : Below w.heap.size w w') : RdF v t w' := by
  obtain ⟨a, c, rfl, h⟩ := h
  refine ⟨a, c, rfl, ?_⟩
  rcases h with h | ⟨g, o, e, hc, hcell⟩
  · exact .inl h
  · refine .inr ⟨g, o, e, hc, fun j hj => ?_⟩
    obtain ⟨h1, h2⟩ := hcell j hj
    rw [b.cell (p := ⟨g, o + j * 2, none⟩) (World.block_lt_of_cell? w _ h1), b.cell (p := ⟨g, o + j * 2 + 1, none⟩) (World.block_lt_of_cell? w _ h2)]
    exact ⟨h1, h2⟩
theorem infoF2 : (Tryz.prog.info? 86).map (fun i => (i.zero, i.size, i.bytes)) = some (some (.agg #[.string ⟨#[]⟩, .string ⟨#[]⟩]), 2, 32) := by kernel_rfl
theorem drawn_again (w : World) (n m : Nat) : Hid (∃ k, w.drewN (n + m) = w.drewN k) := ⟨_, rfl⟩
theorem below_drew (w : World) (n : Nat) : Below w.heap.size w (w.drewN n) := below_drewN (Below.refl _ w) n
theorem RdF.drew {v : Value} {t : List Fl} {w : World} (h : RdF v t w) (n : Nat) : RdF v t (w.drewN n) := h.below (below_drew w n)
theorem take_nth (t : List Fl) (k : Nat) (h : k < t.length) : t.take (k + 1) = t.take k ++ [nth t k] := by
  unfold nth
  rw [List.take_add_one, List.getElem?_eq_getElem h, List.getD_eq_getElem?_getD, List.getElem?_eq_getElem h]; rfl
theorem rd_oneF (w : World) (T : Nat) (p : Fl) : RdF (.slice (some ⟨w.heap.size, 0, none⟩) 1 1) [p] (w.alloc (.cells #[.string (str p.1), .string (str p.2)] T)) := by
  refine ⟨_, _, rfl, .inr ⟨w.heap.size, 0, rfl, by simp, fun j hj => ?_⟩⟩
  obtain rfl : j = 0 := by simp at hj; omega
  exact ⟨by simp [nth], by simp [nth]⟩

end Fd
end Go.Proofs.YtlnlhhobmgiceaaGreatDoor

/-
  field: named, IndexFunc, Find; the law's awake.
-/
set_option linter.unusedVariables false
set_option linter.unusedSimpArgs false
namespace Go.Proofs.YtlnlhhobmgiceaaGreatDoor
open Go.RowKit Go.Shelf
namespace Fd
open Oc Tg

/-- Is the field's name alike to it? -/
def alike (s : List UInt8) (p : Fl) : Bool := decide (lower p.1 = lower s)
def idxZ (s : List UInt8) (fs : List Fl) : Int := match fs.findIdx? (alike s) with | some k => (k : Int) | none => -1
theorem low_alike (n s : List UInt8) : decide (lowS (str n) = lowS (str s)) = decide (lower n = lower s) := by
  unfold lowS
  rw [str_list, str_list, Bool.eq_iff_iff, decide_eq_true_iff, decide_eq_true_iff]
  exact ⟨str_inj, fun h => by rw [h]⟩
theorem idxZ_at {s : List UInt8} {fs : List Fl} {k : Nat} (hk : k < fs.length) (h1 : alike s (nth fs k) = true) (h2 : ∀ j, j < k → alike s (nth fs j) = false) : idxZ s fs = k := by
  unfold idxZ
  have : fs.findIdx? (alike s) = some k := by
    rw [List.findIdx?_eq_some_iff_getElem]
    refine ⟨hk, ?_, fun j hj => ?_⟩
    · have := h1
      unfold nth at this
      rwa [List.getD_eq_getElem?_getD, List.getElem?_eq_getElem hk] at this
    · have := h2 j hj
      unfold nth at this
      rw [List.getD_eq_getElem?_getD, List.getElem?_eq_getElem (by omega)] at this
      simpa using this
  rw [this]
theorem idxZ_none {s : List UInt8} {fs : List Fl} (h2 : ∀ j, j < fs.length → alike s (nth fs j) = false) : idxZ s fs = -1 := by
  unfold idxZ
  have : fs.findIdx? (alike s) = none := by
    rw [List.findIdx?_eq_none_iff]
    intro x hx
    obtain ⟨j, hj, rfl⟩ := List.mem_iff_getElem.1 hx
    have := h2 j hj
    unfold nth at this
    rwa [List.getD_eq_getElem?_getD, List.getElem?_eq_getElem hj] at this
  rw [this]
/-- No text of theirs is longer. -/
def Each (M : Nat) (fs : List Fl) : Prop := ∀ p ∈ fs, p.1.length ≤ M ∧ p.2.length ≤ M
theorem Each.at {M : Nat} {fs : List Fl} (h : Each M fs) (k : Nat) (hk : k < fs.length) : (nth fs k).1.length ≤ M ∧ (nth fs k).2.length ≤ M := by
  refine h _ ?_
  unfold nth
  rw [List.getD_eq_getElem?_getD, List.getElem?_eq_getElem hk]
  exact List.getElem_mem hk

/-- The value of the first field of a name, and whether there is one. -/
def findF (s : List UInt8) (fs : List Fl) : List UInt8 × Bool := match fs.find? (alike s) with | some p => (p.2, true) | none => ([], false)
theorem idx_find (s : List UInt8) (fs : List Fl) : (∃ k : Nat, k < fs.length ∧ idxZ s fs = k ∧ findF s fs = ((nth fs k).2, true)) ∨ (idxZ s fs = -1 ∧ findF s fs = ([], false)) := by
  unfold idxZ findF
  cases h : fs.findIdx? (alike s) with
  | none =>
    right
    rw [List.findIdx?_eq_none_iff] at h
    have : fs.find? (alike s) = none := by rw [List.find?_eq_none]; intro x hx; simpa using h x hx
    rw [this]
    exact ⟨rfl, rfl⟩
  | some k =>
    left
    rw [List.findIdx?_eq_some_iff_getElem] at h
    obtain ⟨hk, h1, h2⟩ := h
    refine ⟨k, hk, rfl, ?_⟩
    have : fs.find? (alike s) = some fs[k] := by
      rw [List.find?_eq_some_iff_getElem]
      exact ⟨h1, k, hk, rfl, fun j hj => by simpa using h2 j hj⟩
    rw [this]
    unfold nth
    rw [List.getD_eq_getElem?_getD, List.getElem?_eq_getElem hk]
    rfl

theorem line_awake : parseL [104, 79, 83, 84, 58, 32, 97, 32] = (([104, 79, 83, 84], [97]), 0, 0) := by decide +kernel
theorem find_awake : findF [72, 111, 115, 116] [([104, 79, 83, 84], [97])] = ([97], true) := by decide +kernel

end Fd
end Go.Proofs.YtlnlhhobmgiceaaGreatDoor

/-
  The document's ParseLine.
-/
set_option linter.unusedVariables false
set_option linter.unusedSimpArgs false
namespace Go.Proofs.YtlnlhhobmgiceaaGreatDoor
open Go.RowKit Go.Shelf
namespace Fd
open Oc Tg

theorem fnot_ge (p : UInt8 → Bool) : ∀ (l : List UInt8) (k : Nat), k ≤ l.length → (∀ j, j < k → p (l.getD j 0) = true) → k ≤ fnot p l
  | [], k, h, _ => by simp at h; omega
  | a :: l, 0, _, _ => Nat.zero_le _
  | a :: l, k + 1, h, ha => by
    have h0 := ha 0 (by omega)
    simp at h0
    unfold fnot
    rw [List.takeWhile_cons, h0]
    simp only [if_true, List.length_cons]
    have := fnot_ge p l k (by simpa using h) (fun j hj => by simpa using ha (j + 1) (by omega))
    unfold fnot at this
    omega
theorem pl_no {l : List UInt8} (hb : blank0 l = false) (hh : has 58 l = false) : parseL l = (([], []), l.length, 62) := by
  unfold parseL
  rw [hb, hh]
  rfl
theorem pl_A {l : List UInt8} (hb : blank0 l = true) : parseL l = (([], []), 0, 63) := by unfold parseL; rw [hb]; rfl
theorem pl_D {l : List UInt8} (hb : blank0 l = false) (hh : has 58 l = true) (k : Nat) (hn : isName (cutA 58 l) = false) (hk : min (fnot tokB (cutA 58 l)) 128 = k) : parseL l = (([], []), k, 60) := by
  unfold parseL
  rw [hb, hh, hn, hk]
  rfl
theorem pl_D0 {l : List UInt8} (hb : blank0 l = false) (hh : has 58 l = true) (h0 : (cutA 58 l).length = 0) : parseL l = (([], []), 0, 60) := by
  have e := List.length_eq_zero_iff.1 h0
  exact pl_D hb hh 0 (by rw [e]; rfl) (by rw [e]; rfl)
theorem pl_D1 {l : List UInt8} (hb : blank0 l = false) (hh : has 58 l = true) (k : Nat) (hk : k < (cutA 58 l).length) (hall : ∀ j, j < k → tokB ((cutA 58 l).getD j 0) = true) (hk2 : k ≤ 128) (hst : k = 128 ∨ tokB ((cutA 58 l).getD k 0) = false) : parseL l = (([], []), k, 60) := by
  rcases hst with rfl | hst
  · refine pl_D hb hh 128 ?_ ?_
    · unfold isName
      rw [decide_eq_false (by omega)]
      simp
    · have := fnot_ge tokB (cutA 58 l) 128 (by omega) hall
      omega
  · refine pl_D hb hh k ?_ ?_
    · unfold isName isTok
      rw [all_not tokB 0 _ k hk hst]
      simp
    · have : fnot tokB (cutA 58 l) = k := tw_stop tokB 0 _ k hk hall hst
      omega
theorem name_of {l : List UInt8} (h0 : l.length ≠ 0) (h1 : l.length ≤ 128) (hall : ∀ j, j < l.length → tokB (l.getD j 0) = true) : isName l = true := by
  unfold isName isTok
  rw [all_of tokB 0 _ hall, decide_eq_true h1]
  cases l with
  | nil => exact absurd rfl h0
  | cons _ _ => rfl
theorem pl_E1 {l : List UInt8} (hb : blank0 l = false) (hh : has 58 l = true) (hn : isName (cutA 58 l) = true) (k : Nat) (hk : k < (cutB 58 l).length) (hall : ∀ j, j < k → fieldB ((cutB 58 l).getD j 0) = true) (hst : fieldB ((cutB 58 l).getD k 0) = false) :
    parseL l = (([], []), (cutA 58 l).length + 1 + k, 61) := by
  unfold parseL
  rw [hb, hh, hn, show isFld (cutB 58 l) = false from all_not fieldB 0 _ k hk hst, show fnot fieldB (cutB 58 l) = k from tw_stop fieldB 0 _ k hk hall hst]
  rfl
theorem pl_F {l : List UInt8} (hb : blank0 l = false) (hh : has 58 l = true) (hn : isName (cutA 58 l) = true) (hf : isFld (cutB 58 l) = true) (h8 : (trim (cutB 58 l)).length ≤ 8192) : parseL l = ((cutA 58 l, trim (cutB 58 l)), 0, 0) := by
  unfold parseL
  rw [hb, hh, hn, hf, if_pos h8]
  rfl
theorem pl_E2 {l : List UInt8} (hb : blank0 l = false) (hh : has 58 l = true) (hn : isName (cutA 58 l) = true) (hf : isFld (cutB 58 l) = true) (h8 : ¬ (trim (cutB 58 l)).length ≤ 8192) (k : Nat) (hk : lead (cutB 58 l) = k) :
    parseL l = (([], []), (cutA 58 l).length + 1 + (k + 8192), 61) := by
  unfold parseL
  rw [hb, hh, hn, hf, if_neg h8, hk]
  rfl
theorem at_A {l : List UInt8} (hh : has 58 l = true) (j : Nat) (hj : j < (cutA 58 l).length) : l.getD j 0 = (cutA 58 l).getD j 0 := by
  conv => lhs; rw [← cut_app 58 l hh]
  rw [List.getD_eq_getElem?_getD, List.getD_eq_getElem?_getD, List.getElem?_append_left hj]
theorem at_B {l : List UInt8} (hh : has 58 l = true) (j : Nat) : l.getD ((cutA 58 l).length + 1 + j) 0 = (cutB 58 l).getD j 0 := by
  conv => lhs; arg 1; rw [← cut_app 58 l hh]
  rw [List.getD_eq_getElem?_getD, List.getD_eq_getElem?_getD, List.getElem?_append_right (by omega), show (cutA 58 l).length + 1 + j - (cutA 58 l).length = j + 1 by omega, List.getElem?_cons_succ]
theorem len_AB {l : List UInt8} (hh : has 58 l = true) : l.length = (cutA 58 l).length + 1 + (cutB 58 l).length := by
  have := congrArg List.length (cut_app 58 l hh)
  simp at this
  omega
theorem drop_A {l : List UInt8} (hh : has 58 l = true) : l.drop ((cutA 58 l).length + 1) = cutB 58 l := by
  conv => lhs; arg 2; rw [← cut_app 58 l hh]
  rw [show cutA 58 l ++ 58 :: cutB 58 l = (cutA 58 l ++ [58]) ++ cutB 58 l by simp, show (cutA 58 l).length + 1 = (cutA 58 l ++ [58]).length by simp, List.drop_left]
theorem take_A {l : List UInt8} (hh : has 58 l = true) : l.take (cutA 58 l).length = cutA 58 l := by
  conv => lhs; arg 2; rw [← cut_app 58 l hh]
  rw [List.take_left]

/-- The first place of a byte; -1: none. -/
def findZ (c : UInt8) (l : List UInt8) : Int := if has c l then ((cutA c l).length : Int) else -1
set_option maxRecDepth 100000 in
set_option maxHeartbeats 1000000 in
theorem rfind_any (s : ByteArray) (hs : s.size ≤ maxLen) (c : UInt8) (w : World) :
    Calls Tryz.prog 75 #[.string s, .int .u8 (c.toNat : Int)] w fun e w' => e = .returned (.int .i64 (findZ c s.data.toList)) ∧ w' = w := by
  unfold maxLen at hs
  have hc0 : 0 ≤ (c.toNat : Int) := by omega
  have hc1 : (c.toNat : Int) ≤ 255 := by have := c.toNat_lt; omega
  generalize hg : (c.toNat : Int) = C at *
  have HG : Hid ((c.toNat : Int) = C) := hg
  clear hg
  go_enter Tryz.func75, Tryz.ntmps75
  go_wp2
  go_loop [5] (fun i => ∃ k : Nat, k ≤ s.size ∧ i = .int .i64 k ∧ Hid (∀ j, j < k → (s.data.toList.getD j 0 != c) = true)) (fun i => s.size - (intOf i).toNat)
  case atStart => exact ⟨0, Nat.zero_le _, rfl, (fun j hj => by omega : ∀ j, j < 0 → _)⟩
  case round =>
    obtain ⟨k, hk, rfl, hall⟩ := hrel
    by_cases hlt : k < s.size
    · have hby : ((s[k].toNat : Nat) : Int) = byt s k := byt_at s k hlt
      obtain ⟨b0, b1⟩ := byt_bd s k
      by_cases he : byt s k = C
      · have HE : Hid (findZ c s.data.toList = (k : Int)) := by
          show _ = _
          unfold findZ
          have e0 : s.data.toList.getD k 0 = c := by
            have h := HG.out
            rw [← he] at h
            unfold byt at h
            exact UInt8.toNat_inj.1 (by omega)
          have hl : k < s.data.toList.length := by rw [size_list]; exact hlt
          have hm : has c s.data.toList = true := by
            unfold has
            rw [List.contains_iff_mem, ← e0, List.getD_eq_getElem?_getD, List.getElem?_eq_getElem hl]
            exact List.getElem_mem hl
          rw [if_pos hm]
          have : (cutA c s.data.toList).length = k := tw_stop (fun x => x != c) 0 _ k hl hall.out (by rw [e0]; simp)
          rw [this]
        have hq : ((s[k].toNat : Int) == C) = true := by rw [hby, he]; simp
        go_wp2
        go_ret
        exact ⟨ret_int HE.out.symm, rfl⟩
      · have HN : Hid (∀ j, j < k + 1 → (s.data.toList.getD j 0 != c) = true) := by
          intro j hj
          by_cases hjk : j = k
          · subst hjk
            rw [bne_iff_ne]
            intro e
            apply he
            unfold byt
            rw [e]
            exact HG.out
          · exact hall.out j (by omega)
        have hq : ((s[k].toNat : Int) == C) = false := by rw [hby]; simpa using he
        go_wp2
        go_round
        case rel => exact ⟨k + 1, by omega, by go_num, HN⟩
        case measure => simp [intOf]; omega
    · have HE : Hid (findZ c s.data.toList = -1) := by
        show _ = _
        unfold findZ
        rw [if_neg]
        unfold has
        intro h
        rw [List.contains_iff_mem] at h
        obtain ⟨j, hj, e⟩ := List.mem_iff_getElem.1 h
        have := hall.out j (by rw [size_list] at hj; omega)
        rw [List.getD_eq_getElem?_getD, List.getElem?_eq_getElem hj] at this
        simp [e] at this
      go_wp2
      go_ret
      exact ⟨ret_int HE.out.symm, rfl⟩

/-- The same in two ways: what is answered, as a value. -/
theorem lineV_mk {P : (List UInt8 × List UInt8) × Nat × Int} {a b : List UInt8} {x y : ByteArray} (hx : x = str a) (hy : y = str b) (h : P = ((a, b), 0, 0)) : Ending.returned (.tuple #[.agg #[.string x, .string y], .int .i64 0, .int .i64 0]) = .returned (lineV P) := by rw [h, hx, hy]; rfl
theorem lineV_mk2 {P : (List UInt8 × List UInt8) × Nat × Int} {k : Int} {z : Int} (m : Nat) (hm : k = (m : Int)) (h : P = (([], []), m, z)) : Ending.returned (.tuple #[.agg #[.string ⟨#[]⟩, .string ⟨#[]⟩], .int .i64 k, .int .i64 z]) = .returned (lineV P) := by rw [h, hm]; rfl

set_option maxRecDepth 100000 in
set_option maxHeartbeats 4000000 in
theorem rParseLine_any (s : ByteArray) (hs : s.size ≤ 4000000000) (w : World) :
    Calls Tryz.prog 47 #[.string s] w fun e w' => e = .returned (lineV (parseL s.data.toList)) ∧ Below w.heap.size w w' := by
  have hml : s.size ≤ maxLen := by unfold maxLen; omega
  obtain ⟨w2, hw2⟩ : ∃ w2, w2 = w.alloc (.cells #[.string ⟨#[]⟩, .string ⟨#[]⟩] 86) := ⟨_, rfl⟩
  have R1 : w2.heap[w.heap.size]? = some (.cells #[.string ⟨#[]⟩, .string ⟨#[]⟩] 86 (0, 0)) := by
    rw [hw2]; exact heap_alloc_new w _
  have hb2 : Below w.heap.size w w2 := by rw [hw2]; exact (Below.refl _ w).alloc (Nat.le_refl _) _
  have HB2 : Hid (Below w.heap.size w w2) := hb2
  have c0 := Lib.cell_of_heap R1 0
  have c1 := Lib.cell_of_heap R1 1
  have fc0 := Lib.frozen_of_heap R1 0
  have fc1 := Lib.frozen_of_heap R1 1
  simp at c0 c1
  clear R1 hb2
  have HF : Hid (∀ w, Calls Tryz.prog 75 #[.string s, .int .u8 58] w fun e w' => e = .returned (.int .i64 (findZ 58 s.data.toList)) ∧ w' = w) := fun w => rfind_any s hml 58 w
  have HM : Hid (s.size ≤ maxLen) := hml
  clear hml
  by_cases hz : s.size = 0
  · have hl : s.data.toList = [] := List.length_eq_zero_iff.1 ((size_list s).trans hz)
    have he := empty_of hz
    have HP : Hid (parseL s.data.toList = (([], []), 0, 62)) := by rw [hl]; rfl
    have hf : findZ 58 s.data.toList = -1 := by rw [hl]; rfl
    rw [hf] at HF
    clear hf
    go_enter Tryz.func47, Tryz.ntmps47
    go_wp2_with fail
    rw [← hw2]
    clear hw2
    refine (HF.out _).mono ?_
    rintro e w' ⟨rfl, rfl⟩
    go_wp2
    refine bodyPost_ret (v := .tuple #[.agg #[.string ⟨#[]⟩, .string ⟨#[]⟩], .int .i64 0, .int .i64 62]) (by simp [results, Tryz.results47, go_sem, c0, c1]) rfl ?_
    exact ⟨lineV_mk2 0 rfl HP.out, (Below.setCell (p := ⟨w.heap.size, 1, none⟩) (Below.setCell (p := ⟨w.heap.size, 0, none⟩) HB2.out (by simp) _) (by simp) _)⟩
  · have he := nonempty_of hz
    have hby0 : ((s[0].toNat : Nat) : Int) = byt s 0 := byt_at s 0 (by omega)
    have hpos : 0 < s.size := by omega
    obtain ⟨q0, q1⟩ := byt_bd s 0
    have hb0 : blank0 s.data.toList = blankI (byt s 0) := by
      obtain ⟨c, t, hl⟩ : ∃ c t, s.data.toList = c :: t := by
        cases e : s.data.toList with
        | nil => exact absurd e (list_ne hz)
        | cons c t => exact ⟨c, t, rfl⟩
      unfold byt
      rw [hl]
      rfl
    have HB0 : Hid (blank0 s.data.toList = blankI (byt s 0)) := hb0
    clear hb0
    cases hb : blankI (byt s 0) with
    | true =>
      have HP : Hid (parseL s.data.toList = (([], []), 0, 63)) := pl_A (HB0.out.trans hb)
      go_enter Tryz.func47, Tryz.ntmps47
      go_wp2_with fail
      rw [← hw2]
      clear hw2
      refine (rBlank_any _ (by omega) (by omega) _).mono ?_
      rintro e w' ⟨rfl, rfl⟩
      go_wp2
      refine bodyPost_ret (v := .tuple #[.agg #[.string ⟨#[]⟩, .string ⟨#[]⟩], .int .i64 0, .int .i64 63]) (by simp [results, Tryz.results47, go_sem, c0, c1]) rfl ?_
      exact ⟨lineV_mk2 0 rfl HP.out, (Below.setCell (p := ⟨w.heap.size, 1, none⟩) (Below.setCell (p := ⟨w.heap.size, 0, none⟩) HB2.out (by simp) _) (by simp) _)⟩
    | false =>
      have HB1 : Hid (blank0 s.data.toList = false) := HB0.out.trans hb
      cases hh : has 58 s.data.toList with
      | false =>
        have HP : Hid (parseL s.data.toList = (([], []), s.size, 62)) := by
          have h := pl_no HB1.out hh
          rw [size_list] at h
          exact h
        rw [show findZ 58 s.data.toList = -1 by unfold findZ; rw [hh]; rfl] at HF
        clear hh
        go_enter Tryz.func47, Tryz.ntmps47
        go_wp2_with fail
        rw [← hw2]
        clear hw2
        refine (rBlank_any _ (by omega) (by omega) _).mono ?_
        rintro e w' ⟨rfl, rfl⟩
        go_wp2_with fail
        refine (HF.out _).mono ?_
        rintro e w' ⟨rfl, rfl⟩
        go_wp2
        refine bodyPost_ret (v := .tuple #[.agg #[.string ⟨#[]⟩, .string ⟨#[]⟩], .int .i64 (s.size : Int), .int .i64 62]) (by simp [results, Tryz.results47, go_sem, c0, c1]) rfl ?_
        exact ⟨lineV_mk2 _ rfl HP.out, (Below.setCell (p := ⟨w.heap.size, 1, none⟩) (Below.setCell (p := ⟨w.heap.size, 0, none⟩) HB2.out (by simp) _) (by simp) _)⟩
      | true =>
        have HH : Hid (has 58 s.data.toList = true) := hh
        have hlen := len_AB hh
        rw [size_list] at hlen
        have hlen1 := Nat.le_of_eq hlen
        have hlen2 := Nat.le_of_eq hlen.symm
        clear hlen
        have HA : Hid (∀ j, j < (cutA 58 s.data.toList).length → byt s j = (((cutA 58 s.data.toList).getD j 0).toNat : Int)) := fun j hj => by unfold byt; rw [at_A HH.out j hj]
        have HR : Hid (∀ j, byt s ((cutA 58 s.data.toList).length + 1 + j) = (((cutB 58 s.data.toList).getD j 0).toNat : Int)) := fun j => by unfold byt; rw [at_B HH.out j]
        have HT : Hid (∀ w, Calls Tryz.prog 78 #[.string (s.extract ((cutA 58 s.data.toList).length + 1) s.size)] w fun e w' => e = .returned (.string (str (trim (cutB 58 s.data.toList)))) ∧ w' = w) := fun w => by
          have h := rTrim_any (s.extract ((cutA 58 s.data.toList).length + 1) s.size) (by have := HM.out; simp; omega) w
          rw [Lib.extract_to_end, drop_A HH.out] at h
          exact h
        have HN0 : Hid (s.extract 0 (cutA 58 s.data.toList).length = str (cutA 58 s.data.toList)) := by
          show _ = _
          rw [← str_self (s.extract 0 _), Lib.extract_data]
          simp only [Nat.sub_zero, List.drop_zero]
          rw [take_A HH.out]
        rw [show findZ 58 s.data.toList = ((cutA 58 s.data.toList).length : Int) by unfold findZ; rw [hh]; rfl] at HF
        have D0 : (cutA 58 s.data.toList).length = 0 → Hid (parseL s.data.toList = (([], []), 0, 60)) := fun h => pl_D0 HB1.out HH.out h
        have D1 : Hid (∀ k, k < (cutA 58 s.data.toList).length → (∀ j, j < k → tokI (byt s j) = true) → k ≤ 128 → (k = 128 ∨ tokI (byt s k) = false) → parseL s.data.toList = (([], []), k, 60)) := fun k hk ha hk2 hst =>
          pl_D1 HB1.out HH.out k hk (fun j hj => by have := ha j hj; rw [HA.out j (by omega)] at this; exact this) hk2 (hst.imp id (fun h => by rw [HA.out k hk] at h; exact h))
        have N1 : Hid ((cutA 58 s.data.toList).length ≠ 0 → (cutA 58 s.data.toList).length ≤ 128 → (∀ j, j < (cutA 58 s.data.toList).length → tokI (byt s j) = true) → isName (cutA 58 s.data.toList) = true) := fun h0 h1 ha =>
          name_of h0 h1 (fun j hj => by have := ha j hj; rw [HA.out j hj] at this; exact this)
        have E1 : Hid (isName (cutA 58 s.data.toList) = true → ∀ k, k < (cutB 58 s.data.toList).length → (∀ j, j < k → fieldI (byt s ((cutA 58 s.data.toList).length + 1 + j)) = true) → fieldI (byt s ((cutA 58 s.data.toList).length + 1 + k)) = false → parseL s.data.toList = (([], []), (cutA 58 s.data.toList).length + 1 + k, 61)) := fun hn k hk ha hst =>
          pl_E1 HB1.out HH.out hn k hk (fun j hj => by have := ha j hj; rw [HR.out j] at this; exact this) (by rw [HR.out k] at hst; exact hst)
        have N2 : Hid ((∀ j, j < (cutB 58 s.data.toList).length → fieldI (byt s ((cutA 58 s.data.toList).length + 1 + j)) = true) → isFld (cutB 58 s.data.toList) = true) := fun ha =>
          all_of fieldB 0 _ (fun j hj => by have := ha j hj; rw [HR.out j] at this; exact this)
        have E2 : Hid (isName (cutA 58 s.data.toList) = true → isFld (cutB 58 s.data.toList) = true → ¬ (trim (cutB 58 s.data.toList)).length ≤ 8192 → ∀ k, lead (cutB 58 s.data.toList) = k → parseL s.data.toList = (([], []), (cutA 58 s.data.toList).length + 1 + (k + 8192), 61)) := fun hn hf h8 k hk =>
          pl_E2 HB1.out HH.out hn hf h8 k hk
        have F1 : Hid (isName (cutA 58 s.data.toList) = true → isFld (cutB 58 s.data.toList) = true → (trim (cutB 58 s.data.toList)).length ≤ 8192 → parseL s.data.toList = ((cutA 58 s.data.toList, trim (cutB 58 s.data.toList)), 0, 0)) := fun hn hf h8 =>
          pl_F HB1.out HH.out hn hf h8
        have LD : Hid (∀ k, k < (cutB 58 s.data.toList).length → (∀ j, j < k → blankI (byt s ((cutA 58 s.data.toList).length + 1 + j)) = true) → blankI (byt s ((cutA 58 s.data.toList).length + 1 + k)) = false → lead (cutB 58 s.data.toList) = k) := fun k hk ha hst =>
          tw_stop blankB 0 _ k hk (fun j hj => by have := ha j hj; rw [HR.out j] at this; exact this) (by rw [HR.out k] at hst; exact hst)
        have LG : Hid (∀ k, k ≤ (cutB 58 s.data.toList).length → (∀ j, j < k → blankI (byt s ((cutA 58 s.data.toList).length + 1 + j)) = true) → k ≤ lead (cutB 58 s.data.toList)) := fun k hk ha =>
          fnot_ge blankB _ k hk (fun j hj => by have := ha j hj; rw [HR.out j] at this; exact this)
        have LL := lead_le (cutB 58 s.data.toList)
        have TS : Hid ((str (trim (cutB 58 s.data.toList))).size = (trim (cutB 58 s.data.toList)).length) := str_size _
        clear hh HA HR
        generalize hP : parseL s.data.toList = P at *
        generalize hNm : cutA 58 s.data.toList = A at *
        generalize cutB 58 s.data.toList = R at *
        generalize A.length = N at *
        generalize trim R = TR at *
        generalize lead R = LR at *
        generalize hv : str TR = v at *
        have HV : Hid (v = str TR) := hv.symm
        have HPP : Hid (parseL s.data.toList = P) := hP
        generalize R.length = RL at *
        clear hv hP hNm
        by_cases hN : N = 0
        · have HP := D0 hN
          have hq : ((N : Int) == 0) = true := by simp [hN]
          clear D0 D1 E1 E2 N1 N2 F1 LD LG HT
          go_enter Tryz.func47, Tryz.ntmps47
          go_wp2_with fail
          rw [← hw2]
          clear hw2
          refine (rBlank_any _ (by omega) (by omega) _).mono ?_
          rintro e w' ⟨rfl, rfl⟩
          go_wp2_with fail
          refine (HF.out _).mono ?_
          rintro e w' ⟨rfl, rfl⟩
          go_wp2
          refine bodyPost_ret (v := .tuple #[.agg #[.string ⟨#[]⟩, .string ⟨#[]⟩], .int .i64 0, .int .i64 60]) (by simp [results, Tryz.results47, go_sem, c0, c1]) rfl ?_
          exact ⟨lineV_mk2 0 rfl HP.out, (Below.setCell (p := ⟨w.heap.size, 1, none⟩) (Below.setCell (p := ⟨w.heap.size, 0, none⟩) HB2.out (by simp) _) (by simp) _)⟩
        · have hq : ((N : Int) == 0) = false := by simp; omega
          clear D0
          go_enter Tryz.func47, Tryz.ntmps47
          go_wp2_with fail
          rw [← hw2]
          clear hw2
          refine (rBlank_any _ (by omega) (by omega) _).mono ?_
          rintro e w' ⟨rfl, rfl⟩
          go_wp2_with fail
          refine (HF.out _).mono ?_
          rintro e w' ⟨rfl, rfl⟩
          go_wp2
          go_loop [6] (fun i => ∃ k : Nat, k ≤ N ∧ k ≤ 128 ∧ i = .int .i64 k ∧ Hid (∀ j, j < k → tokI (byt s j) = true)) (fun i => N - (intOf i).toNat)
          case atStart => exact ⟨0, Nat.zero_le _, by omega, rfl, (fun j hj => by omega : ∀ j, j < 0 → _)⟩
          case round =>
            obtain ⟨k, hk, hk2, rfl, hall⟩ := hrel
            by_cases hlt : k < N
            · by_cases h128 : k = 128
              · have HP : Hid (P = (([], []), k, 60)) := D1.out k hlt hall.out hk2 (.inl h128)
                have hq8 : ((k : Int) == 128) = true := by simp; omega
                clear D1 E1 E2 N1 N2 F1 LD LG HT h128
                go_wp2
                refine bodyPost_ret (v := .tuple #[.agg #[.string ⟨#[]⟩, .string ⟨#[]⟩], .int .i64 (k : Int), .int .i64 60]) (by simp [results, Tryz.results47, go_sem, c0, c1]) rfl ?_
                exact ⟨lineV_mk2 _ rfl HP.out, (Below.setCell (p := ⟨w.heap.size, 1, none⟩) (Below.setCell (p := ⟨w.heap.size, 0, none⟩) HB2.out (by simp) _) (by simp) _)⟩
              · have hq8 : ((k : Int) == 128) = false := by simp; omega
                have hks : k < s.size := by omega
                have hby : ((s[k].toNat : Nat) : Int) = byt s k := byt_at s k hks
                obtain ⟨b0, b1⟩ := byt_bd s k
                cases ht : tokI (byt s k) with
                | true =>
                  have HN : Hid (∀ j, j < k + 1 → tokI (byt s j) = true) := by
                    intro j hj
                    by_cases hjk : j = k
                    · subst hjk; exact ht
                    · exact hall.out j (by omega)
                  go_wp2_with (go_at_call 76; refine (rSign_any _ (by omega) (by omega) _).mono ?_; rintro e w' ⟨rfl, rfl⟩)
                  go_round
                  case rel => exact ⟨k + 1, by omega, by omega, by go_num, HN⟩
                  case measure => simp [intOf]; omega
                | false =>
                  have HP : Hid (P = (([], []), k, 60)) := D1.out k hlt hall.out hk2 (.inr ht)
                  go_wp2_with (go_at_call 76; refine (rSign_any _ (by omega) (by omega) _).mono ?_; rintro e w' ⟨rfl, rfl⟩)
                  refine bodyPost_ret (v := .tuple #[.agg #[.string ⟨#[]⟩, .string ⟨#[]⟩], .int .i64 (k : Int), .int .i64 60]) (by simp [results, Tryz.results47, go_sem, c0, c1]) rfl ?_
                  exact ⟨lineV_mk2 _ rfl HP.out, (Below.setCell (p := ⟨w.heap.size, 1, none⟩) (Below.setCell (p := ⟨w.heap.size, 0, none⟩) HB2.out (by simp) _) (by simp) _)⟩
            · obtain rfl : k = N := by omega
              have HNm : Hid (isName A = true) := N1.out hN hk2 hall.out
              clear N1 D1 hall hq
              go_wp2
              go_loop [7] (fun i => ∃ m : Nat, k + 1 ≤ m ∧ m ≤ s.size ∧ i = .int .i64 m ∧ Hid (∀ j, j < m - (k + 1) → fieldI (byt s (k + 1 + j)) = true)) (fun i => s.size - (intOf i).toNat)
              case atStart => exact ⟨k + 1, Nat.le_refl _, by omega, by go_num, (fun j hj => by omega : ∀ j, j < k + 1 - (k + 1) → _)⟩
              case round =>
                obtain ⟨m, hm0, hm, rfl, hall⟩ := hrel
                by_cases hlt2 : m < s.size
                · have hby : ((s[m].toNat : Nat) : Int) = byt s m := byt_at s m hlt2
                  obtain ⟨b0, b1⟩ := byt_bd s m
                  have hmm : k + 1 + (m - (k + 1)) = m := by omega
                  cases ht : fieldI (byt s m) with
                  | true =>
                    have HN : Hid (∀ j, j < m + 1 - (k + 1) → fieldI (byt s (k + 1 + j)) = true) := by
                      intro j hj
                      by_cases hjk : j = m - (k + 1)
                      · subst hjk; rw [hmm]; exact ht
                      · exact hall.out j (by omega)
                    clear hmm
                    go_wp2_with (go_at_call 77; refine (rInside_any _ (by omega) (by omega) _).mono ?_; rintro e w' ⟨rfl, rfl⟩)
                    go_round
                    case rel => exact ⟨m + 1, by omega, by omega, by go_num, HN⟩
                    case measure => simp [intOf]; omega
                  | false =>
                    have HP : Hid (P = (([], []), m, 61)) := by
                      have h := E1.out HNm.out (m - (k + 1)) (by omega) hall.out (by rw [hmm]; exact ht)
                      rw [hmm] at h
                      exact h
                    clear hmm
                    go_wp2_with (go_at_call 77; refine (rInside_any _ (by omega) (by omega) _).mono ?_; rintro e w' ⟨rfl, rfl⟩)
                    refine bodyPost_ret (v := .tuple #[.agg #[.string ⟨#[]⟩, .string ⟨#[]⟩], .int .i64 (m : Int), .int .i64 61]) (by simp [results, Tryz.results47, go_sem, c0, c1]) rfl ?_
                    exact ⟨lineV_mk2 _ rfl HP.out, (Below.setCell (p := ⟨w.heap.size, 1, none⟩) (Below.setCell (p := ⟨w.heap.size, 0, none⟩) HB2.out (by simp) _) (by simp) _)⟩
                · have HFl : Hid (isFld R = true) := N2.out (fun j hj => hall.out j (by omega))
                  clear N2 E1 hall
                  by_cases h8 : TR.length ≤ 8192
                  · have HP : Hid (P = ((A, TR), 0, 0)) := F1.out HNm.out HFl.out h8
                    have hv8 : v.size ≤ 8192 := by have := TS.out; omega
                    go_wp2_with fail
                    refine (HT.out _).mono ?_
                    rintro e w' ⟨rfl, rfl⟩
                    go_wp2
                    refine bodyPost_ret (v := .tuple #[.agg #[.string (s.extract 0 k), .string v], .int .i64 0, .int .i64 0]) (by simp [results, Tryz.results47, go_sem, c0, c1]) rfl ?_
                    exact ⟨lineV_mk HN0.out HV.out HP.out, (Below.setCell (p := ⟨w.heap.size, 1, none⟩) (Below.setCell (p := ⟨w.heap.size, 0, none⟩) HB2.out (by simp) _) (by simp) _)⟩
                  · have hv8 : 8192 < v.size := by have := TS.out; omega
                    have hd8 : decide ((8192 : Int) < (v.size : Int)) = true := decide_eq_true (by omega)
                    have hd0 : decide ((k : Int) < 0) = false := decide_eq_false (by omega)
                    have hdm : decide ((m : Int) < (s.size : Int)) = false := decide_eq_false (by omega)
                    go_wp2_with fail
                    refine (HT.out _).mono ?_
                    rintro e w' ⟨rfl, rfl⟩
                    go_wp2
                    go_loop [9] (fun i => ∃ q : Nat, k + 1 ≤ q ∧ q ≤ k + 1 + LR ∧ i = .int .i64 q ∧ Hid (∀ j, j < q - (k + 1) → blankI (byt s (k + 1 + j)) = true)) (fun i => s.size - (intOf i).toNat)
                    case atStart => exact ⟨k + 1, Nat.le_refl _, by omega, by go_num, (fun j hj => by omega : ∀ j, j < k + 1 - (k + 1) → _)⟩
                    case round =>
                      obtain ⟨q, hq0, hq1, rfl, hall⟩ := hrel
                      have hqs : q < s.size := by omega
                      have hby : ((s[q].toNat : Nat) : Int) = byt s q := byt_at s q hqs
                      obtain ⟨b0, b1⟩ := byt_bd s q
                      have hmm : k + 1 + (q - (k + 1)) = q := by omega
                      cases ht : blankI (byt s q) with
                      | true =>
                        have HN : Hid (∀ j, j < q + 1 - (k + 1) → blankI (byt s (k + 1 + j)) = true) := by
                          intro j hj
                          by_cases hjk : j = q - (k + 1)
                          · subst hjk; rw [hmm]; exact ht
                          · exact hall.out j (by omega)
                        have hq2 := LG.out (q + 1 - (k + 1)) (by omega) HN.out
                        clear hmm
                        go_wp2_with (go_at_call 74; refine (rBlank_any _ (by omega) (by omega) _).mono ?_; rintro e w' ⟨rfl, rfl⟩)
                        go_round
                        case rel => exact ⟨q + 1, by omega, by omega, by go_num, HN⟩
                        case measure => simp [intOf]; omega
                      | false =>
                        have HP : Hid (P = (([], []), q + 8192, 61)) := by
                          have h := E2.out HNm.out HFl.out h8 (q - (k + 1)) (LD.out (q - (k + 1)) (by omega) hall.out (by rw [hmm]; exact ht))
                          rw [show k + 1 + (q - (k + 1) + 8192) = q + 8192 by omega] at h
                          exact h
                        clear hmm
                        go_wp2_with (go_at_call 74; refine (rBlank_any _ (by omega) (by omega) _).mono ?_; rintro e w' ⟨rfl, rfl⟩)
                        refine bodyPost_ret (v := .tuple #[.agg #[.string ⟨#[]⟩, .string ⟨#[]⟩], .int .i64 ((q : Int) + 8192), .int .i64 61]) (by simp [results, Tryz.results47, go_sem, c0, c1]) rfl ?_
                        exact ⟨lineV_mk2 _ (by omega) HP.out, (Below.setCell (p := ⟨w.heap.size, 1, none⟩) (Below.setCell (p := ⟨w.heap.size, 0, none⟩) HB2.out (by simp) _) (by simp) _)⟩

end Fd
end Go.Proofs.YtlnlhhobmgiceaaGreatDoor

/-
  The document's blanks, signs, Params.
-/
set_option linter.unusedVariables false
set_option linter.unusedSimpArgs false
namespace Go.Proofs.YtlnlhhobmgiceaaGreatDoor
open Go.RowKit Go.Shelf
namespace Oc

theorem drop_getD (l : List UInt8) (a j : Nat) : (l.drop a).getD j 0 = l.getD (a + j) 0 := by
  rw [List.getD_eq_getElem?_getD, List.getD_eq_getElem?_getD, List.getElem?_drop]
theorem ext_take (s : ByteArray) (i n : Nat) : s.extract i (i + n) = str ((s.data.toList.drop i).take n) := by
  apply eq_list
  rw [str_list, Lib.extract_data, show i + n - i = n by omega]

set_option maxRecDepth 100000 in
set_option maxHeartbeats 1000000 in
theorem blanks_any (s : ByteArray) (hs : s.size ≤ 134217728) (a : Nat) (ha : a ≤ s.size) (w : World) :
    Calls Tryz.prog 44 #[.string s, .int .i64 (a : Int)] w fun e w' => e = .returned (.int .i64 (bl (s.data.toList.drop a))) ∧ w' = w := by
  have HL : Hid ((s.data.toList.drop a).length = s.size - a) := (by simp : (s.data.toList.drop a).length = s.size - a)
  go_enter Tryz.func44, Tryz.ntmps44
  go_wp2
  go_loop [5] (fun nv => ∃ k : Nat, k ≤ s.size - a ∧ nv = .int .i64 k ∧ Hid (∀ j, j < k → blankB ((s.data.toList.drop a).getD j 0) = true)) (fun nv => s.size - a - (intOf nv).toNat)
  case atStart => exact ⟨0, Nat.zero_le _, rfl, (fun j hj => by omega : ∀ j, j < 0 → _)⟩
  case round =>
    obtain ⟨k, hk, rfl, hall⟩ := hrel
    by_cases hlt : k < s.size - a
    · have hlt2 : a + k < s.size := by omega
      have hby : ((s[a + k].toNat : Nat) : Int) = byt s (a + k) := byt_at s (a + k) hlt2
      obtain ⟨b0, b1⟩ := byt_bd s (a + k)
      have HC : Hid (blankB ((s.data.toList.drop a).getD k 0) = blankI (byt s (a + k))) := (by rw [drop_getD]; rfl : blankB _ = _)
      cases hb : blankI (byt s (a + k)) with
      | true =>
        have HA : Hid (∀ j, j < k + 1 → blankB ((s.data.toList.drop a).getD j 0) = true) := by
          intro j hj
          by_cases hjk : j = k
          · subst hjk; rw [HC.out]; exact hb
          · exact hall.out j (by omega)
        go_wp2_with (go_at_call 41; refine (IsBlank_any _ (by omega) (by omega) _).mono ?_; rintro e w' ⟨rfl, rfl⟩)
        go_round
        case rel => exact ⟨k + 1, by omega, by go_num, HA⟩
        case measure => simp [intOf]; omega
      | false =>
        have HN : Hid (bl (s.data.toList.drop a) = k) := tw_stop blankB 0 _ k (by rw [HL.out]; exact hlt) hall.out (by rw [HC.out]; exact hb)
        go_wp2_with (go_at_call 41; refine (IsBlank_any _ (by omega) (by omega) _).mono ?_; rintro e w' ⟨rfl, rfl⟩)
        go_ret
        exact ⟨ret_int (by rw [HN.out]), rfl⟩
    · have HN : Hid (bl (s.data.toList.drop a) = k) := (tw_all blankB 0 _ (fun j hj => hall.out j (by rw [HL.out] at hj; omega))).trans (by rw [HL.out]; omega)
      have hge : ¬ ((a : Int) + (k : Int) < (s.size : Int)) := by omega
      go_wp2
      go_ret
      exact ⟨ret_int (by rw [HN.out]), rfl⟩

set_option maxRecDepth 100000 in
set_option maxHeartbeats 1000000 in
theorem signs_any (s : ByteArray) (hs : s.size ≤ 134217728) (a : Nat) (ha : a ≤ s.size) (w : World) :
    Calls Tryz.prog 45 #[.string s, .int .i64 (a : Int)] w fun e w' => e = .returned (.int .i64 (tokLen (s.data.toList.drop a))) ∧ w' = w := by
  have HL : Hid ((s.data.toList.drop a).length = s.size - a) := (by simp : (s.data.toList.drop a).length = s.size - a)
  go_enter Tryz.func45, Tryz.ntmps45
  go_wp2
  go_loop [5] (fun nv => ∃ k : Nat, k ≤ s.size - a ∧ nv = .int .i64 k ∧ Hid (∀ j, j < k → tokB ((s.data.toList.drop a).getD j 0) = true)) (fun nv => s.size - a - (intOf nv).toNat)
  case atStart => exact ⟨0, Nat.zero_le _, rfl, (fun j hj => by omega : ∀ j, j < 0 → _)⟩
  case round =>
    obtain ⟨k, hk, rfl, hall⟩ := hrel
    by_cases hlt : k < s.size - a
    · have hlt2 : a + k < s.size := by omega
      have hby : ((s[a + k].toNat : Nat) : Int) = byt s (a + k) := byt_at s (a + k) hlt2
      obtain ⟨b0, b1⟩ := byt_bd s (a + k)
      have HC : Hid (tokB ((s.data.toList.drop a).getD k 0) = tokI (byt s (a + k))) := (by rw [drop_getD]; rfl : tokB _ = _)
      cases hb : tokI (byt s (a + k)) with
      | true =>
        have HA : Hid (∀ j, j < k + 1 → tokB ((s.data.toList.drop a).getD j 0) = true) := by
          intro j hj
          by_cases hjk : j = k
          · subst hjk; rw [HC.out]; exact hb
          · exact hall.out j (by omega)
        go_wp2_with (go_at_call 17; refine (IsSign_any _ (by omega) (by omega) _).mono ?_; rintro e w' ⟨rfl, rfl⟩)
        go_round
        case rel => exact ⟨k + 1, by omega, by go_num, HA⟩
        case measure => simp [intOf]; omega
      | false =>
        have HN : Hid (tokLen (s.data.toList.drop a) = k) := tw_stop tokB 0 _ k (by rw [HL.out]; exact hlt) hall.out (by rw [HC.out]; exact hb)
        go_wp2_with (go_at_call 17; refine (IsSign_any _ (by omega) (by omega) _).mono ?_; rintro e w' ⟨rfl, rfl⟩)
        go_ret
        exact ⟨ret_int (by rw [HN.out]), rfl⟩
    · have HN : Hid (tokLen (s.data.toList.drop a) = k) := (tw_all tokB 0 _ (fun j hj => hall.out j (by rw [HL.out] at hj; omega))).trans (by rw [HL.out]; omega)
      have hge : ¬ ((a : Int) + (k : Int) < (s.size : Int)) := by omega
      go_wp2
      go_ret
      exact ⟨ret_int (by rw [HN.out]), rfl⟩

end Oc
end Go.Proofs.YtlnlhhobmgiceaaGreatDoor
