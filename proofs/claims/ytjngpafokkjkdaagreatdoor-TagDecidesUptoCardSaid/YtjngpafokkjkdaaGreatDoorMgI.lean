/- Several texts as one. -/
import Derived.Test.YtjngpafokkjkdaaGreatDoorMgG
import Derived.Deep.QuietTactic
import Derived.Maps.AppendAt
/-
  Slices of fields: of the call's own, read.
-/
set_option linter.unusedVariables false
set_option linter.unusedSimpArgs false
namespace Go.Proofs.YtjngpafokkjkdaaGreatDoor
open Go.RowKit Go.Shelf
namespace Fd
open Oc Tg

abbrev Fl := List UInt8 × List UInt8
def encF1 (p : Fl) : List Value := [.string (str p.1), .string (str p.2)]
def encF (ps : List Fl) : List Value := ps.flatMap encF1
theorem encF_snoc (ps : List Fl) (p : Fl) : encF (ps ++ [p]) = encF ps ++ encF1 p := by unfold encF; rw [List.flatMap_append]; simp
theorem encF_len : ∀ ps : List Fl, (encF ps).length = ps.length * 2
  | [] => rfl
  | p :: ps => by
    have := encF_len ps
    unfold encF at *
    rw [List.flatMap_cons, List.length_append, this, List.length_cons]
    show 2 + _ = _
    omega
/-- A slice of parameters (of the type T) of the call's own. -/
def OwnF (T B : Nat) (v : Value) (ps : List Fl) (w : World) : Prop := w.ownsRow B T 2 v ps.length (encF ps)
theorem ownF_nil (T B : Nat) (w : World) : OwnF T B (.slice none 0 0) [] w := World.ownsRow_nil w B T 2
theorem ownF_empty {B : Nat} (T : Nat) (w : World) (hB : B ≤ w.heap.size) : OwnF T B (.slice (some ⟨w.heap.size, 0, none⟩) 0 0) [] (w.alloc (.cells #[] T)) :=
  ⟨by simp [encF], .inr ⟨w.heap.size, 0, #[], rfl, hB, heap_alloc_new w _, by simp, by decide, by simp, by simp [encF]⟩⟩
theorem OwnF.below {T B : Nat} {v : Value} {t : List Fl} {w w' : World} (h : OwnF T B v t w) (b : Below w.heap.size w w') : OwnF T B v t w' := by
  refine ⟨h.1, ?_⟩
  rcases h.2 with hn | ⟨g, cap, cur, rfl, hb, hg, rest⟩
  · exact .inl hn
  · refine .inr ⟨g, cap, cur, rfl, hb, ?_, rest⟩
    have hlt : g < w.heap.size := by
      rcases Nat.lt_or_ge g w.heap.size with h | h
      · exact h
      · simp [Array.getElem?_eq_none h] at hg
    rw [b.block g hlt]
    exact hg

/-- A parameter appended to a slice of the call's own. -/
theorem wp_appF {ops : Array Oper} {rest : List Oper} {o : Oper} {a : Act} {Q : Exit → Act → World → Prop} (T S : Nat) (hinfo : (Tryz.prog.info? T).map (fun i => (i.zero, i.size, i.bytes)) = some (some (.agg #[.string ⟨#[]⟩, .string ⟨#[]⟩]), 2, 32))
    (hund : Tryz.prog.underlying S = some (.slice T)) (hgd : o.guard = none) (s x : Operand)
    (ho : o.op = .call { callee := .builtin .append, args := #[s, x], argTypes := #[S, S] }) (B : Nat) (v : Value) (t : List Fl) (W : World) (p : Fl) (n1 n2 : ByteArray) (h1 : n1 = str p.1) (h2 : n2 = str p.2)
    (hs : a.eval s = v) (hown : OwnF T B v t W) (g : Nat) (hx : a.eval x = .slice (some ⟨g, 0, none⟩) 1 1) (hg : g = W.heap.size) (hlen : t.length + 1 ≤ 2147483648) (hB : B ≤ W.heap.size)
    (h : ∀ v' w', OwnF T B v' (t ++ [p]) w' → Below B W w' → wpList Tryz.prog ops Q rest (a.put o.dst v') w') : wpList Tryz.prog ops Q (o :: rest) a (W.alloc (.cells #[.string n1, .string n2] T)) := by
  subst h1 h2 hg
  obtain ⟨i0, hi, hz0, hz1, hz2⟩ := info_parts hinfo
  refine wpList_append_own _ hgd s x S ho B T i0 (.agg #[.string ⟨#[]⟩, .string ⟨#[]⟩]) 2 32 hund hi hz0 hz1 hz2 rfl (by decide) v t.length _ hs (World.ownsRow.alloc hown _) ⟨W.heap.size, 0, none⟩ 1 1 (encF1 p) hx rfl ?_ ?_ ?_ ?_ ?_ ?_
  · intro j u hj
    unfold encF1 at hj
    match j, hj with
    | 0, hj => simp at hj; subst hj; simp [Addr.add]
    | 1, hj => simp at hj; subst hj; simp [Addr.add]
  · intro u hu
    unfold encF1 at hu
    simp at hu
    rcases hu with rfl | rfl <;> rfl
  · unfold maxLen; omega
  · omega
  · simp; omega
  · intro v' w' h1 h2 _
    refine h v' w' ?_ (((Below.refl B W).alloc hB _).grown h2 (by simp; omega) (fun k hk => (World.ownsRow.lt hown k hk).1))
    unfold OwnF
    rw [encF_snoc, List.length_append]
    exact h1

theorem infoF : (Tryz.prog.info? 31).map (fun i => (i.zero, i.size, i.bytes)) = some (some (.agg #[.string ⟨#[]⟩, .string ⟨#[]⟩]), 2, 32) := by kernel_rfl

def nth (t : List Fl) (j : Nat) : Fl := t.getD j ([], [])
/-- A slice that reads as these parameters. -/
def RdF (v : Value) (t : List Fl) (w : World) : Prop :=
  ∃ a c, v = .slice a t.length c ∧ (t = [] ∨ ∃ g o, a = some ⟨g, o, none⟩ ∧ t.length ≤ c ∧ ∀ j, j < t.length → w.cell? ⟨g, o + j * 2, none⟩ = some (.string (str (nth t j).1)) ∧ w.cell? ⟨g, o + j * 2 + 1, none⟩ = some (.string (str (nth t j).2)))
theorem encF_at : ∀ (t : List Fl) (j : Nat), j < t.length → (encF t)[j * 2]? = some (.string (str (nth t j).1)) ∧ (encF t)[j * 2 + 1]? = some (.string (str (nth t j).2))
  | [], j, h => by simp at h
  | p :: t, 0, _ => ⟨rfl, rfl⟩
  | p :: t, j + 1, h => by
    have ih := encF_at t j (by simpa using h)
    have e : encF (p :: t) = [.string (str p.1), .string (str p.2)] ++ encF t := rfl
    rw [e]
    have n : nth (p :: t) (j + 1) = nth t j := by unfold nth; simp
    rw [n, show (j + 1) * 2 = j * 2 + 2 by omega, show j * 2 + 2 + 1 = (j * 2 + 1) + 2 by omega]
    exact ih
theorem OwnF.rd {T B : Nat} {v : Value} {t : List Fl} {w : World} (h : OwnF T B v t w) : RdF v t w := by
  have hall := h
  rcases h.2 with ⟨rfl, h0⟩ | ⟨g, cap, cur, rfl, _, hg, hn, _⟩
  · exact ⟨none, 0, by rw [h0], .inl (List.length_eq_zero_iff.1 h0)⟩
  · refine ⟨_, _, rfl, .inr ⟨g, 0, rfl, by omega, fun j hj => ?_⟩⟩
    obtain ⟨e0, e1⟩ := encF_at t j hj
    have ea : ∀ k, Addr.add ⟨g, 0, none⟩ k = ⟨g, 0 + k, none⟩ := fun k => by unfold Addr.add; split <;> simp_all
    have c0 := World.ownsRow.cells hall (g := g) rfl _ _ e0
    have c1 := World.ownsRow.cells hall (g := g) rfl _ _ e1
    rw [ea] at c0 c1
    exact ⟨c0, c1⟩
theorem RdF.below {v : Value} {t : List Fl} {w w' : World} (h : RdF v t w) (b : Below w.heap.size w w') : RdF v t w' := by
  obtain ⟨a, c, rfl, h⟩ := h
  refine ⟨a, c, rfl, ?_⟩
  rcases h with h | ⟨g, o, e, hc, hcell⟩
  · exact .inl h
  · refine .inr ⟨g, o, e, hc, fun j hj => ?_⟩
    obtain ⟨h1, h2⟩ := hcell j hj
    rw [b.cell (p := ⟨g, o + j * 2, none⟩) (World.block_lt_of_cell? w _ h1), b.cell (p := ⟨g, o + j * 2 + 1, none⟩) (World.block_lt_of_cell? w _ h2)]
    exact ⟨h1, h2⟩

theorem infoF2 : (Tryz.prog.info? 56).map (fun i => (i.zero, i.size, i.bytes)) = some (some (.agg #[.string ⟨#[]⟩, .string ⟨#[]⟩]), 2, 32) := by kernel_rfl

theorem drawn_again (w : World) (n m : Nat) : Hid (∃ k, w.drewN (n + m) = w.drewN k) := ⟨_, rfl⟩
theorem below_drew (w : World) (n : Nat) : Below w.heap.size w (w.drewN n) := below_drewN (Below.refl _ w) n
theorem RdF.drew {v : Value} {t : List Fl} {w : World} (h : RdF v t w) (n : Nat) : RdF v t (w.drewN n) := h.below (below_drew w n)
theorem take_nth (t : List Fl) (k : Nat) (h : k < t.length) : t.take (k + 1) = t.take k ++ [nth t k] := by
  unfold nth
  rw [List.take_add_one, List.getElem?_eq_getElem h, List.getD_eq_getElem?_getD, List.getElem?_eq_getElem h]; rfl
theorem rd_oneF (w : World) (T : Nat) (p : Fl) : RdF (.slice (some ⟨w.heap.size, 0, none⟩) 1 1) [p] (w.alloc (.cells #[.string (str p.1), .string (str p.2)] T)) := by
  refine ⟨_, _, rfl, .inr ⟨w.heap.size, 0, rfl, by simp, fun j hj => ?_⟩⟩
  obtain rfl : j = 0 := by simp at hj; omega
  exact ⟨by simp [nth], by simp [nth]⟩

end Fd
end Go.Proofs.YtjngpafokkjkdaaGreatDoor

/-
  field: named, IndexFunc, Find; the law's awake.
-/
set_option linter.unusedVariables false
set_option linter.unusedSimpArgs false
namespace Go.Proofs.YtjngpafokkjkdaaGreatDoor
open Go.RowKit Go.Shelf
namespace Fd
open Oc Tg

/-- Is the field's name alike to it? -/
def alike (s : List UInt8) (p : Fl) : Bool := decide (lower p.1 = lower s)
def idxZ (s : List UInt8) (fs : List Fl) : Int := match fs.findIdx? (alike s) with | some k => (k : Int) | none => -1
theorem low_alike (n s : List UInt8) : decide (lowS (str n) = lowS (str s)) = decide (lower n = lower s) := by
  unfold lowS
  rw [str_list, str_list, Bool.eq_iff_iff, decide_eq_true_iff, decide_eq_true_iff]
  exact ⟨str_inj, fun h => by rw [h]⟩
theorem idxZ_at {s : List UInt8} {fs : List Fl} {k : Nat} (hk : k < fs.length) (h1 : alike s (nth fs k) = true) (h2 : ∀ j, j < k → alike s (nth fs j) = false) : idxZ s fs = k := by
  unfold idxZ
  have : fs.findIdx? (alike s) = some k := by
    rw [List.findIdx?_eq_some_iff_getElem]
    refine ⟨hk, ?_, fun j hj => ?_⟩
    · have := h1
      unfold nth at this
      rwa [List.getD_eq_getElem?_getD, List.getElem?_eq_getElem hk] at this
    · have := h2 j hj
      unfold nth at this
      rw [List.getD_eq_getElem?_getD, List.getElem?_eq_getElem (by omega)] at this
      simpa using this
  rw [this]
theorem idxZ_none {s : List UInt8} {fs : List Fl} (h2 : ∀ j, j < fs.length → alike s (nth fs j) = false) : idxZ s fs = -1 := by
  unfold idxZ
  have : fs.findIdx? (alike s) = none := by
    rw [List.findIdx?_eq_none_iff]
    intro x hx
    obtain ⟨j, hj, rfl⟩ := List.mem_iff_getElem.1 hx
    have := h2 j hj
    unfold nth at this
    rwa [List.getD_eq_getElem?_getD, List.getElem?_eq_getElem hj] at this
  rw [this]
/-- No text of theirs is longer. -/
def Each (M : Nat) (fs : List Fl) : Prop := ∀ p ∈ fs, p.1.length ≤ M ∧ p.2.length ≤ M
theorem Each.at {M : Nat} {fs : List Fl} (h : Each M fs) (k : Nat) (hk : k < fs.length) : (nth fs k).1.length ≤ M ∧ (nth fs k).2.length ≤ M := by
  refine h _ ?_
  unfold nth
  rw [List.getD_eq_getElem?_getD, List.getElem?_eq_getElem hk]
  exact List.getElem_mem hk

set_option maxHeartbeats 400000 in
theorem named_any (s : ByteArray) (w : World) :
    Calls Tryz.prog 35 #[.string s] w fun e w' => e = .returned (.func (.func 51) #[] #[.pointer (some ⟨w.heap.size, 0, none⟩)]) ∧ w' = w.alloc (.cells #[.string s] 9) := by
  go_enter Tryz.func35, Tryz.ntmps35
  go_wp2
  go_ret
  exact ⟨rfl, rfl⟩

set_option maxRecDepth 100000 in
set_option maxHeartbeats 1000000 in
theorem named1_any (n v s : List UInt8) (hn : n.length ≤ maxLen) (hs : s.length ≤ maxLen) (B : Nat) (w : World) (hc : w.cell? ⟨B, 0, none⟩ = some (.string (str s))) :
    Calls Tryz.prog 51 #[.agg #[.string (str n), .string (str v)], .pointer (some ⟨B, 0, none⟩)] w fun e w' => e = .returned (.bool (alike s (n, v))) ∧ Below w.heap.size w w' := by
  obtain ⟨w2, hw2⟩ : ∃ w2, w2 = w.alloc (.cells #[.string (str n), .string (str v)] 31) := ⟨_, rfl⟩
  have R1 : w2.heap[w.heap.size]? = some (.cells #[.string (str n), .string (str v)] 31 (0, 0)) := by
    rw [hw2]; exact heap_alloc_new w _
  have hb2 : Below w.heap.size w w2 := by rw [hw2]; exact (Below.refl _ w).alloc (Nat.le_refl _) _
  have c0 := Lib.cell_of_heap R1 0
  simp at c0
  have hcB : w2.cell? ⟨B, 0, none⟩ = some (.string (str s)) := by rw [hb2.cell (World.block_lt_of_cell? w _ hc)]; exact hc
  have HS : Hid (Calls Tryz.prog 52 #[.string (str n), .string (str s)] w2 fun e w' => e = .returned (.bool (alike s (n, v))) ∧ Below w2.heap.size w2 w') := by
    have h := Same_any (str n) (str s) (by rw [str_size]; exact hn) (by rw [str_size]; exact hs) w2
    rw [low_alike] at h
    exact h
  have HB2 : Hid (Below w.heap.size w w2) := hb2
  generalize str n = N at *
  generalize str s = S at *
  generalize str v = V at *
  generalize alike s (n, v) = b at *
  clear R1 hb2 hc
  subst hw2
  go_enter Tryz.func51, Tryz.ntmps51
  go_wp2_with fail
  refine HS.out.mono ?_
  rintro e w3 ⟨rfl, hb3⟩
  have HB3 : Hid (Below w.heap.size w w3) := bel_trans HB2.out hb3
  clear hb3
  go_wp2
  go_ret
  exact ⟨rfl, HB3.out⟩

set_option maxRecDepth 100000 in
set_option maxHeartbeats 2000000 in
theorem IndexFunc_any (v : Value) (fs : List Fl) (s : List UInt8) (hs : s.length ≤ maxLen) (hM : Each maxLen fs) (hl : fs.length ≤ 4294967296) (B : Nat) (w : World) (hrd : RdF v fs w) (hc : w.cell? ⟨B, 0, none⟩ = some (.string (str s))) :
    Calls Tryz.prog 94 #[v, .func (.func 51) #[] #[.pointer (some ⟨B, 0, none⟩)]] w fun e w' => e = .returned (.int .i64 (idxZ s fs)) ∧ Below w.heap.size w w' := by
  have HR : Hid (RdF v fs w) := hrd
  have HC : Hid (w.cell? ⟨B, 0, none⟩ = some (.string (str s))) := hc
  have HM : Hid (Each maxLen fs) := hM
  have HS : Hid (s.length ≤ maxLen) := hs
  obtain ⟨a, c, rfl, _⟩ := hrd
  clear hc hM hs
  go_enter Tryz.func94, Tryz.ntmps94
  go_wp2
  go_loopw [8] (fun i wr => ∃ k : Nat, k ≤ fs.length ∧ i = .int .i64 k ∧ Hid (∀ j, j < k → alike s (nth fs j) = false) ∧ Hid (Below w.heap.size w wr)) (fun i _ => fs.length - (intOf i).toNat)
  case atStart => exact ⟨0, Nat.zero_le _, rfl, (fun j hj => by omega : ∀ j, j < 0 → _), Below.refl _ _⟩
  case round =>
    obtain ⟨k, hk, rfl, hall, hbl⟩ := hrel
    by_cases hlt : k < fs.length
    · obtain ⟨a', c', e', hcs⟩ := HR.out.below hbl.out
      injection e' with e1 _ e2
      subst e1 e2
      rcases hcs with h | ⟨g, o, rfl, hlc, hcell⟩
      · rw [h] at hlt; simp at hlt
      obtain ⟨p0, p1⟩ := hcell k hlt
      clear hcell
      have HN : Hid (Calls Tryz.prog 51 #[.agg #[.string (str (nth fs k).1), .string (str (nth fs k).2)], .pointer (some ⟨B, 0, none⟩)] wr fun e w' => e = .returned (.bool (alike s (nth fs k))) ∧ Below wr.heap.size wr w') :=
        named1_any _ _ s (HM.out.at k hlt).1 HS.out B wr (by rw [hbl.out.cell (World.block_lt_of_cell? w _ HC.out)]; exact HC.out)
      have HT : alike s (nth fs k) = true → Hid (idxZ s fs = k) := fun h => idxZ_at hlt h hall.out
      have HF : alike s (nth fs k) = false → Hid (∀ j, j < k + 1 → alike s (nth fs j) = false) := fun h j hj => by
        by_cases hjk : j = k
        · subst hjk; exact h
        · exact hall.out j (by omega)
      generalize str (nth fs k).1 = X at p0 HN
      generalize str (nth fs k).2 = Y at p1 HN
      generalize alike s (nth fs k) = b at HN HT HF
      cases b with
      | true =>
        have HT2 := HT rfl
        clear HT HF
        go_wp2_with fail
        refine HN.out.mono ?_
        rintro e w2 ⟨rfl, hb2⟩
        have HB2 : Hid (Below w.heap.size w w2) := bel_trans hbl.out hb2
        clear hb2
        go_wp2
        go_ret
        exact ⟨ret_int HT2.out.symm, HB2.out⟩
      | false =>
        have HF2 := HF rfl
        clear HT HF
        go_wp2_with fail
        refine HN.out.mono ?_
        rintro e w2 ⟨rfl, hb2⟩
        have HB2 : Hid (Below w.heap.size w w2) := bel_trans hbl.out hb2
        clear hb2
        go_wp2
        go_roundw
        case rel => exact ⟨k + 1, by omega, by go_num, HF2, HB2⟩
        case measure => simp [intOf]; omega
    · have HE : Hid (idxZ s fs = -1) := idxZ_none (fun j hj => hall.out j (by omega))
      go_wp2
      go_ret
      exact ⟨ret_int HE.out.symm, hbl.out⟩

/-- The value of the first field of a name, and whether there is one. -/
def findF (s : List UInt8) (fs : List Fl) : List UInt8 × Bool := match fs.find? (alike s) with | some p => (p.2, true) | none => ([], false)
theorem idx_find (s : List UInt8) (fs : List Fl) : (∃ k : Nat, k < fs.length ∧ idxZ s fs = k ∧ findF s fs = ((nth fs k).2, true)) ∨ (idxZ s fs = -1 ∧ findF s fs = ([], false)) := by
  unfold idxZ findF
  cases h : fs.findIdx? (alike s) with
  | none =>
    right
    rw [List.findIdx?_eq_none_iff] at h
    have : fs.find? (alike s) = none := by rw [List.find?_eq_none]; intro x hx; simpa using h x hx
    rw [this]
    exact ⟨rfl, rfl⟩
  | some k =>
    left
    rw [List.findIdx?_eq_some_iff_getElem] at h
    obtain ⟨hk, h1, h2⟩ := h
    refine ⟨k, hk, rfl, ?_⟩
    have : fs.find? (alike s) = some fs[k] := by
      rw [List.find?_eq_some_iff_getElem]
      exact ⟨h1, k, hk, rfl, fun j hj => by simpa using h2 j hj⟩
    rw [this]
    unfold nth
    rw [List.getD_eq_getElem?_getD, List.getElem?_eq_getElem hk]
    rfl

set_option maxRecDepth 100000 in
set_option maxHeartbeats 1000000 in
theorem Find_any (v : Value) (fs : List Fl) (s : List UInt8) (hs : s.length ≤ maxLen) (hM : Each maxLen fs) (hl : fs.length ≤ 4294967296) (w : World) (hrd : RdF v fs w) :
    Calls Tryz.prog 67 #[v, .string (str s)] w fun e w' => e = .returned (.tuple #[.string (str (findF s fs).1), .bool (findF s fs).2]) ∧ Below w.heap.size w w' := by
  have hb1 : Below w.heap.size w (w.alloc (.cells #[.string (str s)] 9)) := (Below.refl _ w).alloc (Nat.le_refl _) _
  have HI : Hid (Calls _ _ _ _ _) := IndexFunc_any v fs s hs hM hl w.heap.size (w.alloc (.cells #[.string (str s)] 9)) (hrd.below hb1) (by simp)
  have HR : Hid (RdF v fs w) := hrd
  have HB1 : Hid (Below _ _ _) := hb1
  have HN : Hid (Calls _ _ _ _ _) := named_any (str s) w
  obtain ⟨a, c, rfl, _⟩ := hrd
  clear hM hs hb1
  generalize str s = S at *
  rcases idx_find s fs with ⟨k, hk, e1, e2⟩ | ⟨e1, e2⟩
  · rw [e1] at HI
    rw [e2]
    dsimp only
    clear e1 e2
    generalize hY : str (nth fs k).2 = Y
    have HY : Hid (_ = Y) := hY
    clear hY
    go_enter Tryz.func67, Tryz.ntmps67
    go_wp2_with fail
    refine HN.out.mono ?_
    rintro e w1 ⟨rfl, rfl⟩
    go_wp2_with fail
    refine HI.out.mono ?_
    rintro e w2 ⟨rfl, hb2⟩
    have HB2 : Hid (Below w.heap.size w w2) := bel_trans HB1.out hb2
    clear hb2
    obtain ⟨a', c', e', hcs⟩ := HR.out.below HB2.out
    injection e' with e1 _ e2
    subst e1 e2
    rcases hcs with h | ⟨g, o, rfl, hlc, hcell⟩
    · rw [h] at hk; simp at hk
    obtain ⟨p0, p1⟩ := hcell k hk
    clear hcell p0
    rw [HY.out] at p1
    go_wp2
    go_ret2
    exact ⟨rfl, HB2.out⟩
  · rw [e1] at HI
    rw [e2]
    dsimp only
    clear e1 e2
    go_enter Tryz.func67, Tryz.ntmps67
    go_wp2_with fail
    refine HN.out.mono ?_
    rintro e w1 ⟨rfl, rfl⟩
    go_wp2_with fail
    refine HI.out.mono ?_
    rintro e w2 ⟨rfl, hb2⟩
    have HB2 : Hid (Below w.heap.size w w2) := bel_trans HB1.out hb2
    clear hb2
    go_wp2
    go_ret2
    exact ⟨rfl, HB2.out⟩

theorem line_awake : parseL [104, 79, 83, 84, 58, 32, 97, 32] = (([104, 79, 83, 84], [97]), 0, 0) := by decide +kernel
theorem find_awake : findF [72, 111, 115, 116] [([104, 79, 83, 84], [97])] = ([97], true) := by decide +kernel

end Fd
end Go.Proofs.YtjngpafokkjkdaaGreatDoor

/-
  The form of a slice of fields of one's own.
-/
set_option linter.unusedVariables false
set_option linter.unusedSimpArgs false
namespace Go.Proofs.YtjngpafokkjkdaaGreatDoor
open Go.RowKit Go.Shelf
namespace Fd
open Oc Tg

theorem OwnF.form {T B : Nat} {v : Value} {t : List Fl} {w : World} (h : OwnF T B v t w) : ∃ a c, v = .slice a t.length c := by
  rcases h.2 with ⟨rfl, h0⟩ | ⟨g, cap, cur, rfl, _⟩
  · exact ⟨none, 0, by rw [h0]⟩
  · exact ⟨_, _, rfl⟩

end Fd
end Go.Proofs.YtjngpafokkjkdaaGreatDoor
