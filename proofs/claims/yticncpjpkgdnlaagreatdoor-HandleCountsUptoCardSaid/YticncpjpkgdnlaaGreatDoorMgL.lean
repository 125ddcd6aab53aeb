/- Several texts as one. -/
import Derived.Test.YticncpjpkgdnlaaGreatDoorMgK
import Derived.Test.YticncpjpkgdnlaaGreatDoorMgB
import Derived.Test.YticncpjpkgdnlaaGreatDoorMgF
import Derived.Lib.CountLaws
import Derived.Lib.SplitLaws
import Derived.Test.YticncpjpkgdnlaaGreatDoorMgI
import Derived.Laws.AppendOwnNone
/-
  target: hosts and ports; plain, and the program's smaller functions.
-/
set_option linter.unusedVariables false
set_option linter.unusedSimpArgs false
set_option maxRecDepth 100000
namespace Go.Proofs.YticncpjpkgdnlaaGreatDoor
open Go.RowKit Go.Shelf
namespace Tg
open Oc

/-- A group of an address. -/
def grp1 (l : List UInt8) : Bool := decide ((numR 16 l 65535).2 = 0) && decide (l.length ≤ 4)
/-- A number from 0 to 255 without a 0 ahead. -/
def dec1 (l : List UInt8) : Bool := decide ((numR 10 l 255).2 = 0) && decide (l = Lib.itoa (numR 10 l 255).1)
def quadR (l : List UInt8) : Bool := (splitB 46 l).all dec1 && decide ((splitB 46 l).length = 4)
def grpG (last : Bool) : List (List UInt8) → Option Nat
  | [] => some 0
  | x :: r => if grp1 x then (grpG last r).map (1 + ·) else if last && r.isEmpty && quadR x then some 2 else none
def grpR (l : List UInt8) (last : Bool) : Option Nat := if l = [] then some 0 else grpG last (splitB 58 l)
def addrR (l : List UInt8) : Bool :=
  if (Lib.cut l [58, 58]).2.2 then match grpR (Lib.cut l [58, 58]).1 false, grpR (Lib.cut l [58, 58]).2.1 true with
    | some a, some b => decide (a + b < 8)
    | _, _ => false
  else grpR l true == some 8
theorem grpG_le (last : Bool) : ∀ (L : List (List UInt8)) (n : Nat), grpG last L = some n → n ≤ 2 * L.length
  | [], n, h => by cases h; simp
  | x :: r, n, h => by
    unfold grpG at h
    split at h
    · obtain ⟨m, hm, rfl⟩ := Option.map_eq_some_iff.1 h
      have := grpG_le last r m hm
      simp only [List.length_cons]
      omega
    · split at h
      · cases h; simp only [List.length_cons]; omega
      · cases h

theorem split_bridge (b : UInt8) : ∀ (n : Nat) (s : ByteArray), s.size ≤ n → (Lib.splitB ⟨#[b]⟩ 0 (Lib.countB s ⟨#[b]⟩) s).map (·.data.toList) = splitB b s.data.toList := by
  intro n
  induction n with
  | zero =>
    intro s hs
    have hl : s.data.toList = [] := List.length_eq_zero_iff.1 (by rw [size_list]; omega)
    have hi : Lib.indexB s ⟨#[b]⟩ = -1 := by
      show Lib.index s.data.toList [b] = -1
      rw [hl]
      rfl
    rw [Lib.splitB_miss _ _ _ _ hi, hl]
    simp only [List.map_cons, List.map_nil]
    rw [hl]
    rfl
  | succ n ih =>
    intro s hs
    have hi := index_one b s.data.toList
    cases hh : has b s.data.toList with
    | false =>
      rw [hh] at hi
      have hi2 : Lib.indexB s ⟨#[b]⟩ = -1 := hi
      rw [Lib.splitB_miss _ _ _ _ hi2, split_cut, hh]
      have hc := cut_one b s.data.toList
      unfold Lib.cut at hc
      rw [show Lib.index s.data.toList [b] = -1 from hi, if_neg (by omega)] at hc
      have := congrArg Prod.fst hc
      simp only [List.map_cons, List.map_nil]
      simp
      exact this
    | true =>
      rw [hh, if_pos rfl] at hi
      have hi2 : Lib.indexB s ⟨#[b]⟩ = (((cutA b s.data.toList).length : Nat) : Int) := hi
      have hc := cut_one b s.data.toList
      unfold Lib.cut at hc
      rw [show Lib.index s.data.toList [b] = (((cutA b s.data.toList).length : Nat) : Int) from hi, if_pos (by omega)] at hc
      have h1 : s.data.toList.take (cutA b s.data.toList).length = cutA b s.data.toList := by
        have := congrArg Prod.fst hc
        simpa using this
      have h2 : s.data.toList.drop ((cutA b s.data.toList).length + 1) = cutB b s.data.toList := by
        have := congrArg (fun x => x.2.1) hc
        simpa using this
      have hlt : (cutA b s.data.toList).length + 1 ≤ s.size := by
        have := cut_app b s.data.toList hh
        have := congrArg List.length this
        rw [List.length_append, size_list] at this
        simp at this
        omega
      rw [Lib.countB_hit s ⟨#[b]⟩ _ (Nat.le_refl 1) hi2, Nat.add_comm 1, Lib.splitB_hit _ _ _ _ _ hi2, split_cut, hh, if_pos rfl]
      have he : (⟨#[b]⟩ : ByteArray).size = 1 := rfl
      rw [he]
      have hx : (s.extract ((cutA b s.data.toList).length + 1) s.size).data.toList = cutB b s.data.toList := by
        rw [Lib.extract_to_end, h2]
      simp only [List.map_cons, Nat.add_zero]
      rw [ih _ (by rw [ByteArray.size_extract]; omega), hx, Lib.extract_from_zero, h1]

theorem Split_any (s : ByteArray) (b : UInt8) (hs : s.size ≤ 4000000000) (w : World) (h : ML w) :
    Calls Tryz.prog 163 #[.string s, .string ⟨#[b]⟩] w fun e w' => ∃ a c, e = .returned (.slice a (splitB b s.data.toList).length c) ∧ RdS (.slice a (splitB b s.data.toList).length c) (splitB b s.data.toList) w' ∧ Below w.heap.size w w' := by
  obtain ⟨m, hm⟩ := h
  refine (Tryz.strings_Split s ⟨#[b]⟩ m w (by omega) hm (Nat.le_refl 1)).mono ?_
  rintro e w' ⟨rfl, rfl⟩
  have hb := split_bridge b s.size s (Nat.le_refl _)
  have hl : (Lib.splitB ⟨#[b]⟩ 0 (Lib.countB s ⟨#[b]⟩) s).length = (splitB b s.data.toList).length := by rw [← hb, List.length_map]
  have hn : Lib.countB s ⟨#[b]⟩ + 1 = (splitB b s.data.toList).length := by
    rw [← hl]
    exact (Lib.splitB_all ⟨#[b]⟩ (Nat.le_refl 1) 0 _ s rfl).symm
  rw [hn]
  refine ⟨_, _, rfl, ⟨_, _, rfl, .inr ⟨w.heap.size, 0, rfl, Nat.le_refl _, fun j hj => ?_⟩⟩, (Below.refl _ w).alloc (Nat.le_refl _) _⟩
  have hr := heap_alloc_new w (.cells ((Lib.splitB ⟨#[b]⟩ 0 (Lib.countB s ⟨#[b]⟩) s).map Value.string).toArray 9)
  rw [Nat.zero_add, cell_of_row _ _ _ _ _ _ hr, List.getElem?_toArray, List.getElem?_map]
  have hj2 : j < (Lib.splitB ⟨#[b]⟩ 0 (Lib.countB s ⟨#[b]⟩) s).length := by rw [hl]; exact hj
  rw [List.getElem?_eq_getElem hj2]
  have e : (splitB b s.data.toList).getD j [] = ((Lib.splitB ⟨#[b]⟩ 0 (Lib.countB s ⟨#[b]⟩) s)[j]).data.toList := by
    rw [← hb, List.getD_eq_getElem?_getD, List.getElem?_map, List.getElem?_eq_getElem hj2]
    rfl
  rw [e, str_self]
  rfl

end Tg
end Go.Proofs.YticncpjpkgdnlaaGreatDoor

/-
  The law's own plain, handed, whole.
-/
set_option linter.unusedVariables false
set_option linter.unusedSimpArgs false
namespace Go.Proofs.YticncpjpkgdnlaaGreatDoor
open Go.RowKit Go.Shelf
namespace Fd
open Oc Tg

/-- The two fields of spare room. -/
def spareF : List Fl := [([115, 112, 97, 114, 101], []), ([114, 111, 111, 109], [])]
theorem rd_two (w : World) (T : Nat) : InF (.slice (some ⟨w.heap.size, 0, none⟩) 2 2) spareF (w.alloc (.cells #[.string ⟨#[115, 112, 97, 114, 101]⟩, .string ⟨#[]⟩, .string ⟨#[114, 111, 111, 109]⟩, .string ⟨#[]⟩] T)) := by
  refine ⟨⟨_, _, rfl, .inr ⟨w.heap.size, 0, rfl, by simp [spareF], fun j hj => ?_⟩⟩, fun e => by cases e⟩
  have hj2 : j < 2 := by simpa [spareF] using hj
  match j, hj2 with
  | 0, _ => exact ⟨by simp [nth, spareF, str], by simp [nth, spareF, str]⟩
  | 1, _ => exact ⟨by simp [nth, spareF, str], by simp [nth, spareF, str]⟩
theorem RdF.front {a : Option Addr} {n c : Nat} {t u : List Fl} {w : World} (h : RdF (.slice a n c) (t ++ u) w) : RdF (.slice a t.length c) t w := by
  obtain ⟨a', c', e, h⟩ := h
  injection e with e1 e2 e3
  subst e1 e3
  refine ⟨a, c, rfl, ?_⟩
  rcases h with h | ⟨g, o, rfl, hc, hcell⟩
  · exact .inl (List.append_eq_nil_iff.1 h).1
  · refine .inr ⟨g, o, rfl, by rw [List.length_append] at hc; omega, fun j hj => ?_⟩
    have := hcell j (by rw [List.length_append]; omega)
    rw [show nth (t ++ u) j = nth t j by unfold nth; rw [List.getD_eq_getElem?_getD, List.getD_eq_getElem?_getD, List.getElem?_append_left hj]] at this
    exact this

theorem RdF.cap {a : Option Addr} {n c : Nat} {t : List Fl} {w : World} (h : RdF (.slice a n c) t w) : t.length ≤ c := by
  obtain ⟨a', c', e, h⟩ := h
  injection e with e1 e2 e3
  subst e3
  rcases h with h | ⟨g, o, _, hc, _⟩
  · rw [h]; exact Nat.zero_le _
  · exact hc
theorem RdF.some {a : Option Addr} {n c : Nat} {t : List Fl} {w : World} (h : RdF (.slice a n c) t w) (ht : t ≠ []) : ∃ g, a = .some g := by
  obtain ⟨a', c', e, h⟩ := h
  injection e with e1 e2 e3
  subst e1
  rcases h with h | ⟨g, o, e, _, _⟩
  · exact absurd h ht
  · exact ⟨_, e⟩

end Fd
end Go.Proofs.YticncpjpkgdnlaaGreatDoor

/-
  Lists of tokens; texts held against texts.
-/
set_option linter.unusedVariables false
set_option linter.unusedSimpArgs false
namespace Go.Proofs.YticncpjpkgdnlaaGreatDoor
open Go.RowKit Go.Shelf
namespace Oc

def tokensR (l : List UInt8) : List (List UInt8) × Int := if (listR l).2 = 0 then (if (listR l).1.all isTok then ((listR l).1, 0) else ([], 10)) else ([], (listR l).2)
theorem listR_err (l : List UInt8) : (listR l).2 = 0 ∨ (listR l).1 = [] ∧ (listR l).2 = 14 := by
  unfold listR
  split
  · exact .inl rfl
  · exact .inr ⟨rfl, rfl⟩
theorem tokensR_err {l : List UInt8} (h : (listR l).2 = 14) : tokensR l = ([], 14) := by unfold tokensR; rw [if_neg (by omega), h]
theorem tokensR_bad {l : List UInt8} (h : (listR l).2 = 0) (k : Nat) (hk : k < (listR l).1.length) (hb : isTok ((listR l).1.getD k []) = false) : tokensR l = ([], 10) := by
  unfold tokensR
  rw [if_pos h, if_neg]
  rw [all_not isTok [] _ k hk hb]
  simp
theorem tokensR_ok {l : List UInt8} (h : (listR l).2 = 0) (hb : ∀ k, k < (listR l).1.length → isTok ((listR l).1.getD k []) = true) : tokensR l = ((listR l).1, 0) := by
  unfold tokensR
  rw [if_pos h, if_pos (all_of isTok [] _ hb)]

/-- Elements are no longer than the text, and as many. -/
def Short (n : Nat) (t : List (List UInt8)) : Prop := t.length ≤ n ∧ ∀ x ∈ t, x.length ≤ n
theorem short_lst : ∀ (m : Nat) (r cur : List UInt8) (t : List (List UInt8)), r.length ≤ m → lst cur r = some t → t.length ≤ r.length + 1 ∧ ∀ x ∈ t, x.length ≤ cur.length + r.length
  | m, [], cur, t, _, h => by
    rw [lst_nil] at h
    cases h
    have := addEl_len (trim cur)
    refine ⟨by simpa using this, fun x hx => ?_⟩
    unfold addEl at hx
    split at hx
    · simp at hx
    · simp at hx
      subst hx
      have := trim_le cur
      simp
      omega
  | 0, c :: r, cur, t, hm, _ => by simp at hm
  | m + 1, c :: r, cur, t, hm, h => by
    have hl : r.length ≤ m := by simpa using hm
    by_cases h44 : c = 44
    · rw [lst_comma _ _ _ h44] at h
      obtain ⟨u, hu, rfl⟩ := Option.map_eq_some_iff.1 h
      obtain ⟨i1, i2⟩ := short_lst m r [] u hl hu
      constructor
      · unfold addEl
        split <;> simp <;> omega
      · intro x hx
        unfold addEl at hx
        split at hx
        · have := i2 x hx
          simp at this ⊢
          omega
        · rcases List.mem_cons.1 hx with rfl | hx
          · have := trim_le cur
            simp
            omega
          · have := i2 x hx
            simp at this ⊢
            omega
    · by_cases h34 : c = 34
      · by_cases hq : qlen (c :: r) = 0
        · rw [lst_bad _ _ _ h34 hq] at h; cases h
        · rw [lst_quote _ _ _ h34 hq] at h
          have hb := qlen_bd (c :: r)
          obtain ⟨i1, i2⟩ := short_lst m _ _ t (by rw [List.length_drop]; simp; omega) h
          rw [List.length_drop] at i1 i2
          rw [List.length_append, List.length_take] at i2
          refine ⟨by omega, fun x hx => ?_⟩
          have := i2 x hx
          omega
      · rw [lst_on _ _ _ h44 h34] at h
        obtain ⟨i1, i2⟩ := short_lst m r _ t hl h
        rw [List.length_append] at i2
        refine ⟨by simp; omega, fun x hx => ?_⟩
        have := i2 x hx
        simp at this ⊢
        omega
theorem listR_short (l : List UInt8) : (listR l).1.length ≤ l.length + 1 ∧ ∀ x ∈ (listR l).1, x.length ≤ l.length := by
  unfold listR
  split
  · rename_i t h
    obtain ⟨a, b⟩ := short_lst l.length l [] t (Nat.le_refl _) h
    exact ⟨a, fun x hx => by have := b x hx; simpa using this⟩
  · simp
theorem getD_short {n : Nat} {t : List (List UInt8)} (h : ∀ x ∈ t, x.length ≤ n) (k : Nat) (hk : k < t.length) : (t.getD k []).length ≤ n := by
  refine h _ ?_
  rw [List.getD_eq_getElem?_getD, List.getElem?_eq_getElem hk]
  exact List.getElem_mem _

end Oc
end Go.Proofs.YticncpjpkgdnlaaGreatDoor

/-
  Texts held against texts: the law's own 'same'.
-/
set_option linter.unusedVariables false
set_option linter.unusedSimpArgs false
namespace Go.Proofs.YticncpjpkgdnlaaGreatDoor
open Go.RowKit Go.Shelf
namespace Oc

/-- A slice that reads as these texts. -/
def RdS (v : Value) (t : List (List UInt8)) (w : World) : Prop :=
  ∃ a c, v = .slice a t.length c ∧ (t = [] ∨ ∃ g o, a = some ⟨g, o, none⟩ ∧ t.length ≤ c ∧ ∀ j, j < t.length → w.cell? ⟨g, o + j, none⟩ = some (.string (str (t.getD j []))))
theorem OwnS.rd {B : Nat} {v : Value} {t : List (List UInt8)} {w : World} (h : OwnS B v t w) : RdS v t w := by
  obtain ⟨a, c, rfl⟩ := h.form
  refine ⟨a, c, rfl, ?_⟩
  cases t with
  | nil => exact .inl rfl
  | cons x t =>
    right
    obtain ⟨g, e, hc, _⟩ := h.cell 0 (by simp)
    refine ⟨g, 0, e, hc, fun j hj => ?_⟩
    obtain ⟨g', e', _, hcell⟩ := h.cell j hj
    rw [e] at e'
    injection e' with e'
    injection e' with e1
    subst e1
    rw [Nat.zero_add]
    exact hcell
theorem RdS.below {v : Value} {t : List (List UInt8)} {w w' : World} (h : RdS v t w) (b : Below w.heap.size w w') : RdS v t w' := by
  obtain ⟨a, c, rfl, h⟩ := h
  refine ⟨a, c, rfl, ?_⟩
  rcases h with h | ⟨g, o, e, hc, hcell⟩
  · exact .inl h
  · refine .inr ⟨g, o, e, hc, fun j hj => ?_⟩
    have h1 := hcell j hj
    rw [b.cell (p := ⟨g, o + j, none⟩) (World.block_lt_of_cell? w _ h1)]
    exact h1

theorem drawn_again (w : World) (n m : Nat) : Hid (∃ k, w.drewN (n + m) = w.drewN k) := ⟨_, rfl⟩
theorem drawn_twice (w : World) (n m : Nat) : ∃ k, (w.drewN n).drewN m = w.drewN k := ⟨n + m, World.drewN_drewN ..⟩

end Oc
end Go.Proofs.YticncpjpkgdnlaaGreatDoor

/-
  A slice of texts appended to one of the call's own.
-/
set_option linter.unusedVariables false
set_option linter.unusedSimpArgs false
namespace Go.Proofs.YticncpjpkgdnlaaGreatDoor
open Go.RowKit Go.Shelf
namespace Oc

theorem wpList_wanted {P : Program} {ops : Array Oper} {rest : List Oper} {o : Oper} {a : Act} {w : World} {Q : Exit → Act → World → Prop} (hw : Region.wanted o (yielded ops a.tmps) = true)
    (h : o.wp P a w (wpList P ops Q rest) Q) : wpList P ops Q (o :: rest) a w := by
  rw [wpList, if_pos hw]
  exact .inl h

theorem wp_appR {ops : Array Oper} {rest : List Oper} {o : Oper} {a : Act} {W : World} {Q : Exit → Act → World → Prop} (hw : Region.wanted o (yielded ops a.tmps) = true) (s x : Operand)
    (ho : o.op = .call { callee := .builtin .append, args := #[s, x], argTypes := #[75, 75] }) (B : Nat) (v y : Value) (t u : List (List UInt8))
    (hs : a.eval s = v) (hown : OwnS B v t W) (hx : a.eval x = y) (hy : RdS y u W) (hnil : u = [] → y = .slice none 0 0 ∨ ∃ g c, y = .slice (some g) 0 c) (hlen : t.length + u.length ≤ 4294967296) (hB : B ≤ W.heap.size)
    (h : ∀ v' w', OwnS B v' (t ++ u) w' → Below B W w' → wpList Tryz.prog ops Q rest (a.put o.dst v') w') : wpList Tryz.prog ops Q (o :: rest) a W := by
  obtain ⟨i0, hi, hz0, hz1, hz2⟩ := infoS
  refine wpList_wanted hw ?_
  have own' : ∀ (ad : Addr) (c : Nat), y = .slice (some ad) u.length c → (∀ j, j < u.length → W.cell? (ad.add j) = some (.string (str (u.getD j [])))) → o.wp Tryz.prog a W (wpList Tryz.prog ops Q rest) Q := by
    intro ad c ey hcell
    refine wp_append_own W s x 75 ho B 9 i0 (.string ⟨#[]⟩) 1 16 Tryz.underlying75 hi hz0 hz1 hz2 rfl (by decide) v t.length _ hs hown ad u.length c (encS u) (hx.trans ey) (by simp [encS]) ?_ ?_ ?_ ?_ hB ?_
    · intro j z hj
      have hjl : j < u.length := by
        have := (List.getElem?_eq_some_iff.1 hj).1
        simpa [encS] using this
      rw [hcell j hjl]
      unfold encS at hj
      rw [List.getElem?_map, List.getElem?_eq_getElem hjl] at hj
      rw [List.getD_eq_getElem?_getD, List.getElem?_eq_getElem hjl]
      simpa using hj
    · intro z hz
      unfold encS at hz
      obtain ⟨l, _, rfl⟩ := List.mem_map.1 hz
      rfl
    · unfold maxLen; omega
    · omega
    · intro v' w' h1 h2 _
      refine h v' w' ?_ ((Below.refl B W).grown h2 hB (fun k hk => (World.ownsRow.lt hown k hk).1))
      unfold OwnS
      rw [List.length_append]
      simpa [encS] using h1
  obtain ⟨a2, c2, rfl, hr⟩ := hy
  by_cases hu : u = []
  · subst hu
    rcases hnil rfl with e | ⟨g, c, e⟩
    · have hrun := run_append_owned_none (P := Tryz.prog) (w := W) B 75 o.type 9 i0 1 Tryz.underlying75 hi v t.length _ hown
      have hx' : a.eval x = .slice none 0 0 := hx.trans e
      unfold Oper.wp
      simp [execOp, ho, resolve, invoke, builtin, hs, hx', hrun, Result.andThen]
      have := h v W (by simpa using hown) (Below.refl _ _)
      exact this
    · exact own' g c e (fun j hj => by simp at hj)
  · rcases hr with hr | ⟨g, o', rfl, hc, hcell⟩
    · exact absurd hr hu
    · refine own' ⟨g, o', none⟩ c2 rfl (fun j hj => ?_)
      have ea : Addr.add ⟨g, o', none⟩ j = ⟨g, o' + j, none⟩ := by unfold Addr.add; split <;> simp_all
      rw [ea]
      exact hcell j hj
theorem OwnS.nilish {B : Nat} {v : Value} {t : List (List UInt8)} {w : World} (h : OwnS B v t w) : t = [] → v = .slice none 0 0 ∨ ∃ g c, v = .slice (some g) 0 c := by
  intro e
  subst e
  rcases h.2 with ⟨rfl, _⟩ | ⟨g, cap, cur, rfl, _⟩
  · exact .inl rfl
  · exact .inr ⟨_, _, rfl⟩

theorem listR_split {a b : List UInt8} (ha : (listR a).2 = 0) (hb : (listR b).2 = 0) : listR (a ++ 44 :: b) = ((listR a).1 ++ (listR b).1, 0) := by
  unfold listR at *
  cases h1 : lst [] a with
  | none => rw [h1] at ha; cases ha
  | some t =>
    cases h2 : lst [] b with
    | none => rw [h2] at hb; cases hb
    | some u =>
      rw [lst_split a.length a [] b t (Nat.le_refl _) h1, h2]
      rfl

end Oc
end Go.Proofs.YticncpjpkgdnlaaGreatDoor
