/- Several texts as one. -/
import Derived.Test.YtfpncbgedhodaaaDoorMgF
import Derived.Deep.QuietTactic
import Derived.Maps.AppendAt
/-
  Slices of fields: of the call's own, read.
-/
set_option linter.unusedVariables false
set_option linter.unusedSimpArgs false
namespace Go.Proofs.YtfpncbgedhodaaaDoor
open Go.RowKit Go.Shelf
namespace Fd
open Oc Tg

abbrev Fl := List UInt8 × List UInt8
def encF1 (p : Fl) : List Value := [.string (str p.1), .string (str p.2)]
def encF (ps : List Fl) : List Value := ps.flatMap encF1
theorem encF_snoc (ps : List Fl) (p : Fl) : encF (ps ++ [p]) = encF ps ++ encF1 p := by unfold encF; rw [List.flatMap_append]; simp
theorem encF_len : ∀ ps : List Fl, (encF ps).length = ps.length * 2
  | [] => rfl
  | p :: ps => by
    have := encF_len ps
    unfold encF at *
    rw [List.flatMap_cons, List.length_append, this, List.length_cons]
    show 2 + _ = _
    omega
/-- A slice of parameters (of the type T) of the call's own. -/
def OwnF (T B : Nat) (v : Value) (ps : List Fl) (w : World) : Prop := w.ownsRow B T 2 v ps.length (encF ps)
theorem ownF_nil (T B : Nat) (w : World) : OwnF T B (.slice none 0 0) [] w := World.ownsRow_nil w B T 2
theorem ownF_empty {B : Nat} (T : Nat) (w : World) (hB : B ≤ w.heap.size) : OwnF T B (.slice (some ⟨w.heap.size, 0, none⟩) 0 0) [] (w.alloc (.cells #[] T)) :=
  ⟨by simp [encF], .inr ⟨w.heap.size, 0, #[], rfl, hB, heap_alloc_new w _, by simp, by decide, by simp, by simp [encF]⟩⟩
theorem OwnF.below {T B : Nat} {v : Value} {t : List Fl} {w w' : World} (h : OwnF T B v t w) (b : Below w.heap.size w w') : OwnF T B v t w' := by
  refine ⟨h.1, ?_⟩
  rcases h.2 with hn | ⟨g, cap, cur, rfl, hb, hg, rest⟩
  · exact .inl hn
  · refine .inr ⟨g, cap, cur, rfl, hb, ?_, rest⟩
    have hlt : g < w.heap.size := by
      rcases Nat.lt_or_ge g w.heap.size with h | h
      · exact h
      · simp [Array.getElem?_eq_none h] at hg
    rw [b.block g hlt]
    exact hg

/-- A parameter appended to a slice of the call's own. -/
theorem wp_appF {ops : Array Oper} {rest : List Oper} {o : Oper} {a : Act} {Q : Exit → Act → World → Prop} (T S : Nat) (hinfo : (Tryd.prog.info? T).map (fun i => (i.zero, i.size, i.bytes)) = some (some (.agg #[.string ⟨#[]⟩, .string ⟨#[]⟩]), 2, 32))
    (hund : Tryd.prog.underlying S = some (.slice T)) (hgd : o.guard = none) (s x : Operand)
    (ho : o.op = .call { callee := .builtin .append, args := #[s, x], argTypes := #[S, S] }) (B : Nat) (v : Value) (t : List Fl) (W : World) (p : Fl) (n1 n2 : ByteArray) (h1 : n1 = str p.1) (h2 : n2 = str p.2)
    (hs : a.eval s = v) (hown : OwnF T B v t W) (g : Nat) (hx : a.eval x = .slice (some ⟨g, 0, none⟩) 1 1) (hg : g = W.heap.size) (hlen : t.length + 1 ≤ 2147483648) (hB : B ≤ W.heap.size)
    (h : ∀ v' w', OwnF T B v' (t ++ [p]) w' → Below B W w' → wpList Tryd.prog ops Q rest (a.put o.dst v') w') : wpList Tryd.prog ops Q (o :: rest) a (W.alloc (.cells #[.string n1, .string n2] T)) := by
  subst h1 h2 hg
  obtain ⟨i0, hi, hz0, hz1, hz2⟩ := info_parts hinfo
  refine wpList_append_own _ hgd s x S ho B T i0 (.agg #[.string ⟨#[]⟩, .string ⟨#[]⟩]) 2 32 hund hi hz0 hz1 hz2 rfl (by decide) v t.length _ hs (World.ownsRow.alloc hown _) ⟨W.heap.size, 0, none⟩ 1 1 (encF1 p) hx rfl ?_ ?_ ?_ ?_ ?_ ?_
  · intro j u hj
    unfold encF1 at hj
    match j, hj with
    | 0, hj => simp at hj; subst hj; simp [Addr.add]
    | 1, hj => simp at hj; subst hj; simp [Addr.add]
  · intro u hu
    unfold encF1 at hu
    simp at hu
    rcases hu with rfl | rfl <;> rfl
  · unfold maxLen; omega
  · omega
  · simp; omega
  · intro v' w' h1 h2 _
    refine h v' w' ?_ (((Below.refl B W).alloc hB _).grown h2 (by simp; omega) (fun k hk => (World.ownsRow.lt hown k hk).1))
    unfold OwnF
    rw [encF_snoc, List.length_append]
    exact h1

theorem infoF : (Tryd.prog.info? 52).map (fun i => (i.zero, i.size, i.bytes)) = some (some (.agg #[.string ⟨#[]⟩, .string ⟨#[]⟩]), 2, 32) := by kernel_rfl

def nth (t : List Fl) (j : Nat) : Fl := t.getD j ([], [])
/-- A slice that reads as these parameters. -/
def RdF (v : Value) (t : List Fl) (w : World) : Prop :=
  ∃ a c, v = .slice a t.length c ∧ (t = [] ∨ ∃ g o, a = some ⟨g, o, none⟩ ∧ t.length ≤ c ∧ ∀ j, j < t.length → w.cell? ⟨g, o + j * 2, none⟩ = some (.string (str (nth t j).1)) ∧ w.cell? ⟨g, o + j * 2 + 1, none⟩ = some (.string (str (nth t j).2)))
theorem encF_at : ∀ (t : List Fl) (j : Nat), j < t.length → (encF t)[j * 2]? = some (.string (str (nth t j).1)) ∧ (encF t)[j * 2 + 1]? = some (.string (str (nth t j).2))
  | [], j, h => by simp at h
  | p :: t, 0, _ => ⟨rfl, rfl⟩
  | p :: t, j + 1, h => by
    have ih := encF_at t j (by simpa using h)
    have e : encF (p :: t) = [.string (str p.1), .string (str p.2)] ++ encF t := rfl
    rw [e]
    have n : nth (p :: t) (j + 1) = nth t j := by unfold nth; simp
    rw [n, show (j + 1) * 2 = j * 2 + 2 by omega, show j * 2 + 2 + 1 = (j * 2 + 1) + 2 by omega]
    exact ih
theorem OwnF.rd {T B : Nat} {v : Value} {t : List Fl} {w : World} (h : OwnF T B v t w) : RdF v t w := by
  have hall := h
  rcases h.2 with ⟨rfl, h0⟩ | ⟨g, cap, cur, rfl, _, hg, hn, _⟩
  · exact ⟨none, 0, by rw [h0], .inl (List.length_eq_zero_iff.1 h0)⟩
  · refine ⟨_, _, rfl, .inr ⟨g, 0, rfl, by omega, fun j hj => ?_⟩⟩
    obtain ⟨e0, e1⟩ := encF_at t j hj
    have ea : ∀ k, Addr.add ⟨g, 0, none⟩ k = ⟨g, 0 + k, none⟩ := fun k => by unfold Addr.add; split <;> simp_all
    have c0 := World.ownsRow.cells hall (g := g) rfl _ _ e0
    have c1 := World.ownsRow.cells hall (g := g) rfl _ _ e1
    rw [ea] at c0 c1
    exact ⟨c0, c1⟩
theorem RdF.below {v : Value} {t : List Fl} {w w' : World} (h : RdF v t w) (b : Below w.heap.size w w') : RdF v t w' := by
  obtain ⟨a, c, rfl, h⟩ := h
  refine ⟨a, c, rfl, ?_⟩
  rcases h with h | ⟨g, o, e, hc, hcell⟩
  · exact .inl h
  · refine .inr ⟨g, o, e, hc, fun j hj => ?_⟩
    obtain ⟨h1, h2⟩ := hcell j hj
    rw [b.cell (p := ⟨g, o + j * 2, none⟩) (World.block_lt_of_cell? w _ h1), b.cell (p := ⟨g, o + j * 2 + 1, none⟩) (World.block_lt_of_cell? w _ h2)]
    exact ⟨h1, h2⟩
theorem infoF2 : (Tryd.prog.info? 67).map (fun i => (i.zero, i.size, i.bytes)) = some (some (.agg #[.string ⟨#[]⟩, .string ⟨#[]⟩]), 2, 32) := by kernel_rfl
theorem drawn_again (w : World) (n m : Nat) : Hid (∃ k, w.drewN (n + m) = w.drewN k) := ⟨_, rfl⟩
theorem below_drew (w : World) (n : Nat) : Below w.heap.size w (w.drewN n) := below_drewN (Below.refl _ w) n
theorem RdF.drew {v : Value} {t : List Fl} {w : World} (h : RdF v t w) (n : Nat) : RdF v t (w.drewN n) := h.below (below_drew w n)
theorem take_nth (t : List Fl) (k : Nat) (h : k < t.length) : t.take (k + 1) = t.take k ++ [nth t k] := by
  unfold nth
  rw [List.take_add_one, List.getElem?_eq_getElem h, List.getD_eq_getElem?_getD, List.getElem?_eq_getElem h]; rfl
theorem rd_oneF (w : World) (T : Nat) (p : Fl) : RdF (.slice (some ⟨w.heap.size, 0, none⟩) 1 1) [p] (w.alloc (.cells #[.string (str p.1), .string (str p.2)] T)) := by
  refine ⟨_, _, rfl, .inr ⟨w.heap.size, 0, rfl, by simp, fun j hj => ?_⟩⟩
  obtain rfl : j = 0 := by simp at hj; omega
  exact ⟨by simp [nth], by simp [nth]⟩

end Fd
end Go.Proofs.YtfpncbgedhodaaaDoor

/-
  field: named, IndexFunc, Find; the law's awake.
-/
set_option linter.unusedVariables false
set_option linter.unusedSimpArgs false
namespace Go.Proofs.YtfpncbgedhodaaaDoor
open Go.RowKit Go.Shelf
namespace Fd
open Oc Tg

/-- Is the field's name alike to it? -/
def alike (s : List UInt8) (p : Fl) : Bool := decide (lower p.1 = lower s)
def idxZ (s : List UInt8) (fs : List Fl) : Int := match fs.findIdx? (alike s) with | some k => (k : Int) | none => -1
theorem low_alike (n s : List UInt8) : decide (lowS (str n) = lowS (str s)) = decide (lower n = lower s) := by
  unfold lowS
  rw [str_list, str_list, Bool.eq_iff_iff, decide_eq_true_iff, decide_eq_true_iff]
  exact ⟨str_inj, fun h => by rw [h]⟩
theorem idxZ_at {s : List UInt8} {fs : List Fl} {k : Nat} (hk : k < fs.length) (h1 : alike s (nth fs k) = true) (h2 : ∀ j, j < k → alike s (nth fs j) = false) : idxZ s fs = k := by
  unfold idxZ
  have : fs.findIdx? (alike s) = some k := by
    rw [List.findIdx?_eq_some_iff_getElem]
    refine ⟨hk, ?_, fun j hj => ?_⟩
    · have := h1
      unfold nth at this
      rwa [List.getD_eq_getElem?_getD, List.getElem?_eq_getElem hk] at this
    · have := h2 j hj
      unfold nth at this
      rw [List.getD_eq_getElem?_getD, List.getElem?_eq_getElem (by omega)] at this
      simpa using this
  rw [this]
theorem idxZ_none {s : List UInt8} {fs : List Fl} (h2 : ∀ j, j < fs.length → alike s (nth fs j) = false) : idxZ s fs = -1 := by
  unfold idxZ
  have : fs.findIdx? (alike s) = none := by
    rw [List.findIdx?_eq_none_iff]
    intro x hx
    obtain ⟨j, hj, rfl⟩ := List.mem_iff_getElem.1 hx
    have := h2 j hj
    unfold nth at this
    rwa [List.getD_eq_getElem?_getD, List.getElem?_eq_getElem hj] at this
  rw [this]
/-- No text of theirs is longer. -/
def Each (M : Nat) (fs : List Fl) : Prop := ∀ p ∈ fs, p.1.length ≤ M ∧ p.2.length ≤ M
theorem Each.at {M : Nat} {fs : List Fl} (h : Each M fs) (k : Nat) (hk : k < fs.length) : (nth fs k).1.length ≤ M ∧ (nth fs k).2.length ≤ M := by
  refine h _ ?_
  unfold nth
  rw [List.getD_eq_getElem?_getD, List.getElem?_eq_getElem hk]
  exact List.getElem_mem hk

set_option maxHeartbeats 400000 in
theorem named_any (s : ByteArray) (w : World) :
    Calls Tryd.prog 40 #[.string s] w fun e w' => e = .returned (.func (.func 68) #[] #[.pointer (some ⟨w.heap.size, 0, none⟩)]) ∧ w' = w.alloc (.cells #[.string s] 9) := by
  go_enter Tryd.func40, Tryd.ntmps40
  go_wp2
  go_ret
  exact ⟨rfl, rfl⟩

set_option maxRecDepth 100000 in
set_option maxHeartbeats 1000000 in
theorem named1_any (n v s : List UInt8) (hn : n.length ≤ maxLen) (hs : s.length ≤ maxLen) (B : Nat) (w : World) (hc : w.cell? ⟨B, 0, none⟩ = some (.string (str s))) :
    Calls Tryd.prog 68 #[.agg #[.string (str n), .string (str v)], .pointer (some ⟨B, 0, none⟩)] w fun e w' => e = .returned (.bool (alike s (n, v))) ∧ Below w.heap.size w w' := by
  obtain ⟨w2, hw2⟩ : ∃ w2, w2 = w.alloc (.cells #[.string (str n), .string (str v)] 52) := ⟨_, rfl⟩
  have R1 : w2.heap[w.heap.size]? = some (.cells #[.string (str n), .string (str v)] 52 (0, 0)) := by
    rw [hw2]; exact heap_alloc_new w _
  have hb2 : Below w.heap.size w w2 := by rw [hw2]; exact (Below.refl _ w).alloc (Nat.le_refl _) _
  have c0 := Lib.cell_of_heap R1 0
  simp at c0
  have hcB : w2.cell? ⟨B, 0, none⟩ = some (.string (str s)) := by rw [hb2.cell (World.block_lt_of_cell? w _ hc)]; exact hc
  have HS : Hid (Calls Tryd.prog 69 #[.string (str n), .string (str s)] w2 fun e w' => e = .returned (.bool (alike s (n, v))) ∧ Below w2.heap.size w2 w') := by
    have h := Same_any (str n) (str s) (by rw [str_size]; exact hn) (by rw [str_size]; exact hs) w2
    rw [low_alike] at h
    exact h
  have HB2 : Hid (Below w.heap.size w w2) := hb2
  generalize str n = N at *
  generalize str s = S at *
  generalize str v = V at *
  generalize alike s (n, v) = b at *
  clear R1 hb2 hc
  subst hw2
  go_enter Tryd.func68, Tryd.ntmps68
  go_wp2_with fail
  refine HS.out.mono ?_
  rintro e w3 ⟨rfl, hb3⟩
  have HB3 : Hid (Below w.heap.size w w3) := bel_trans HB2.out hb3
  clear hb3
  go_wp2
  go_ret
  exact ⟨rfl, HB3.out⟩

set_option maxRecDepth 100000 in
set_option maxHeartbeats 2000000 in
theorem IndexFunc_any (v : Value) (fs : List Fl) (s : List UInt8) (hs : s.length ≤ maxLen) (hM : Each maxLen fs) (hl : fs.length ≤ 4294967296) (B : Nat) (w : World) (hrd : RdF v fs w) (hc : w.cell? ⟨B, 0, none⟩ = some (.string (str s))) :
    Calls Tryd.prog 39 #[v, .func (.func 68) #[] #[.pointer (some ⟨B, 0, none⟩)]] w fun e w' => e = .returned (.int .i64 (idxZ s fs)) ∧ Below w.heap.size w w' := by
  have HR : Hid (RdF v fs w) := hrd
  have HC : Hid (w.cell? ⟨B, 0, none⟩ = some (.string (str s))) := hc
  have HM : Hid (Each maxLen fs) := hM
  have HS : Hid (s.length ≤ maxLen) := hs
  obtain ⟨a, c, rfl, _⟩ := hrd
  clear hc hM hs
  go_enter Tryd.func39, Tryd.ntmps39
  go_wp2
  go_loopw [8] (fun i wr => ∃ k : Nat, k ≤ fs.length ∧ i = .int .i64 k ∧ Hid (∀ j, j < k → alike s (nth fs j) = false) ∧ Hid (Below w.heap.size w wr)) (fun i _ => fs.length - (intOf i).toNat)
  case atStart => exact ⟨0, Nat.zero_le _, rfl, (fun j hj => by omega : ∀ j, j < 0 → _), Below.refl _ _⟩
  case round =>
    obtain ⟨k, hk, rfl, hall, hbl⟩ := hrel
    by_cases hlt : k < fs.length
    · obtain ⟨a', c', e', hcs⟩ := HR.out.below hbl.out
      injection e' with e1 _ e2
      subst e1 e2
      rcases hcs with h | ⟨g, o, rfl, hlc, hcell⟩
      · rw [h] at hlt; simp at hlt
      obtain ⟨p0, p1⟩ := hcell k hlt
      clear hcell
      have HN : Hid (Calls Tryd.prog 68 #[.agg #[.string (str (nth fs k).1), .string (str (nth fs k).2)], .pointer (some ⟨B, 0, none⟩)] wr fun e w' => e = .returned (.bool (alike s (nth fs k))) ∧ Below wr.heap.size wr w') :=
        named1_any _ _ s (HM.out.at k hlt).1 HS.out B wr (by rw [hbl.out.cell (World.block_lt_of_cell? w _ HC.out)]; exact HC.out)
      have HT : alike s (nth fs k) = true → Hid (idxZ s fs = k) := fun h => idxZ_at hlt h hall.out
      have HF : alike s (nth fs k) = false → Hid (∀ j, j < k + 1 → alike s (nth fs j) = false) := fun h j hj => by
        by_cases hjk : j = k
        · subst hjk; exact h
        · exact hall.out j (by omega)
      generalize str (nth fs k).1 = X at p0 HN
      generalize str (nth fs k).2 = Y at p1 HN
      generalize alike s (nth fs k) = b at HN HT HF
      cases b with
      | true =>
        have HT2 := HT rfl
        clear HT HF
        go_wp2_with fail
        refine HN.out.mono ?_
        rintro e w2 ⟨rfl, hb2⟩
        have HB2 : Hid (Below w.heap.size w w2) := bel_trans hbl.out hb2
        clear hb2
        go_wp2
        go_ret
        exact ⟨ret_int HT2.out.symm, HB2.out⟩
      | false =>
        have HF2 := HF rfl
        clear HT HF
        go_wp2_with fail
        refine HN.out.mono ?_
        rintro e w2 ⟨rfl, hb2⟩
        have HB2 : Hid (Below w.heap.size w w2) := bel_trans hbl.out hb2
        clear hb2
        go_wp2
        go_roundw
        case rel => exact ⟨k + 1, by omega, by go_num, HF2, HB2⟩
        case measure => simp [intOf]; omega
    · have HE : Hid (idxZ s fs = -1) := idxZ_none (fun j hj => hall.out j (by omega))
      go_wp2
      go_ret
      exact ⟨ret_int HE.out.symm, hbl.out⟩

/-- The value of the first field of a name, and whether there is one. -/
def findF (s : List UInt8) (fs : List Fl) : List UInt8 × Bool := match fs.find? (alike s) with | some p => (p.2, true) | none => ([], false)
theorem idx_find (s : List UInt8) (fs : List Fl) : (∃ k : Nat, k < fs.length ∧ idxZ s fs = k ∧ findF s fs = ((nth fs k).2, true)) ∨ (idxZ s fs = -1 ∧ findF s fs = ([], false)) := by
  unfold idxZ findF
  cases h : fs.findIdx? (alike s) with
  | none =>
    right
    rw [List.findIdx?_eq_none_iff] at h
    have : fs.find? (alike s) = none := by rw [List.find?_eq_none]; intro x hx; simpa using h x hx
    rw [this]
    exact ⟨rfl, rfl⟩
  | some k =>
    left
    rw [List.findIdx?_eq_some_iff_getElem] at h
    obtain ⟨hk, h1, h2⟩ := h
    refine ⟨k, hk, rfl, ?_⟩
    have : fs.find? (alike s) = some fs[k] := by
      rw [List.find?_eq_some_iff_getElem]
      exact ⟨h1, k, hk, rfl, fun j hj => by simpa using h2 j hj⟩
    rw [this]
    unfold nth
    rw [List.getD_eq_getElem?_getD, List.getElem?_eq_getElem hk]
    rfl

set_option maxRecDepth 100000 in
set_option maxHeartbeats 1000000 in
theorem Find_any (v : Value) (fs : List Fl) (s : List UInt8) (hs : s.length ≤ maxLen) (hM : Each maxLen fs) (hl : fs.length ≤ 4294967296) (w : World) (hrd : RdF v fs w) :
    Calls Tryd.prog 33 #[v, .string (str s)] w fun e w' => e = .returned (.tuple #[.string (str (findF s fs).1), .bool (findF s fs).2]) ∧ Below w.heap.size w w' := by
  have hb1 : Below w.heap.size w (w.alloc (.cells #[.string (str s)] 9)) := (Below.refl _ w).alloc (Nat.le_refl _) _
  have HI : Hid (Calls _ _ _ _ _) := IndexFunc_any v fs s hs hM hl w.heap.size (w.alloc (.cells #[.string (str s)] 9)) (hrd.below hb1) (by simp)
  have HR : Hid (RdF v fs w) := hrd
  have HB1 : Hid (Below _ _ _) := hb1
  have HN : Hid (Calls _ _ _ _ _) := named_any (str s) w
  obtain ⟨a, c, rfl, _⟩ := hrd
  clear hM hs hb1
  generalize str s = S at *
  rcases idx_find s fs with ⟨k, hk, e1, e2⟩ | ⟨e1, e2⟩
  · rw [e1] at HI
    rw [e2]
    dsimp only
    clear e1 e2
    generalize hY : str (nth fs k).2 = Y
    have HY : Hid (_ = Y) := hY
    clear hY
    go_enter Tryd.func33, Tryd.ntmps33
    go_wp2_with fail
    refine HN.out.mono ?_
    rintro e w1 ⟨rfl, rfl⟩
    go_wp2_with fail
    refine HI.out.mono ?_
    rintro e w2 ⟨rfl, hb2⟩
    have HB2 : Hid (Below w.heap.size w w2) := bel_trans HB1.out hb2
    clear hb2
    obtain ⟨a', c', e', hcs⟩ := HR.out.below HB2.out
    injection e' with e1 _ e2
    subst e1 e2
    rcases hcs with h | ⟨g, o, rfl, hlc, hcell⟩
    · rw [h] at hk; simp at hk
    obtain ⟨p0, p1⟩ := hcell k hk
    clear hcell p0
    rw [HY.out] at p1
    go_wp2
    go_ret2
    exact ⟨rfl, HB2.out⟩
  · rw [e1] at HI
    rw [e2]
    dsimp only
    clear e1 e2
    go_enter Tryd.func33, Tryd.ntmps33
    go_wp2_with fail
    refine HN.out.mono ?_
    rintro e w1 ⟨rfl, rfl⟩
    go_wp2_with fail
    refine HI.out.mono ?_
    rintro e w2 ⟨rfl, hb2⟩
    have HB2 : Hid (Below w.heap.size w w2) := bel_trans HB1.out hb2
    clear hb2
    go_wp2
    go_ret2
    exact ⟨rfl, HB2.out⟩

theorem line_awake : parseL [104, 79, 83, 84, 58, 32, 97, 32] = (([104, 79, 83, 84], [97]), 0, 0) := by decide +kernel
theorem find_awake : findF [72, 111, 115, 116] [([104, 79, 83, 84], [97])] = ([97], true) := by decide +kernel

set_option maxRecDepth 100000 in
set_option maxHeartbeats 1000000 in
theorem awake_any (w : World) (hw : Env w) :
    Calls Tryd.prog 7 #[] w fun e w' => e = .returned (.bool true) ∧ Below w.heap.size w w' := by
  have HP : Hid (Calls Tryd.prog 32 #[.string ⟨#[104, 79, 83, 84, 58, 32, 97, 32]⟩] w fun e w' => e = .returned (.tuple #[.agg #[.string ⟨#[104, 79, 83, 84]⟩, .string ⟨#[97]⟩], .int .i64 0, .int .i64 0]) ∧ Below w.heap.size w w') := by
    have h := ParseLine_any ⟨#[104, 79, 83, 84, 58, 32, 97, 32]⟩ (by decide) w hw
    rw [show (⟨#[104, 79, 83, 84, 58, 32, 97, 32]⟩ : ByteArray).data.toList = [104, 79, 83, 84, 58, 32, 97, 32] from rfl, line_awake] at h
    exact h
  have HF : Hid (∀ w1 : World, Calls Tryd.prog 33 #[.slice (some ⟨w1.heap.size, 0, none⟩) 1 1, .string ⟨#[72, 111, 115, 116]⟩] (w1.alloc (.cells #[.string ⟨#[104, 79, 83, 84]⟩, .string ⟨#[97]⟩] 52)) fun e w' => e = .returned (.tuple #[.string ⟨#[97]⟩, .bool true]) ∧ Below (w1.alloc (.cells #[.string ⟨#[104, 79, 83, 84]⟩, .string ⟨#[97]⟩] 52)).heap.size (w1.alloc (.cells #[.string ⟨#[104, 79, 83, 84]⟩, .string ⟨#[97]⟩] 52)) w') := fun w1 => by
    have h := Find_any _ [([104, 79, 83, 84], [97])] [72, 111, 115, 116] (by decide) (by intro p hp; simp at hp; subst hp; decide) (by decide) _ (rd_oneF w1 52 ([104, 79, 83, 84], [97]))
    rw [find_awake] at h
    exact h
  clear hw
  go_enter Tryd.func7, Tryd.ntmps7
  go_wp2_with fail
  refine HP.out.mono ?_
  rintro e w1 ⟨rfl, hb1⟩
  have HB1 : Hid (Below w.heap.size w w1) := hb1
  clear hb1
  obtain ⟨W, hW⟩ : ∃ W, W = w1.alloc (.cells #[.string ⟨#[104, 79, 83, 84]⟩, .string ⟨#[97]⟩] 52) := ⟨_, rfl⟩
  have hz : W.heap.size = w1.heap.size + 1 := by rw [hW]; simp
  have HBW : Hid (Below w.heap.size w W) := by rw [hW]; exact HB1.out.alloc HB1.out.size _
  go_wp2_with fail
  rw [← hW, ← hz]
  refine (HF.out W).mono ?_
  rintro e w2 ⟨rfl, hb2⟩
  have HB2 : Hid (Below w.heap.size w w2) := (HBW.out.alloc HBW.out.size _).trans (hb2.mono (by have := HBW.out.size; simp; omega))
  clear hb2
  go_wp2
  go_ret
  exact ⟨rfl, HB2.out⟩

end Fd
end Go.Proofs.YtfpncbgedhodaaaDoor

/-
  The document's ParseLine.
-/
set_option linter.unusedVariables false
set_option linter.unusedSimpArgs false
namespace Go.Proofs.YtfpncbgedhodaaaDoor
open Go.RowKit Go.Shelf
namespace Fd
open Oc Tg

theorem fnot_ge (p : UInt8 → Bool) : ∀ (l : List UInt8) (k : Nat), k ≤ l.length → (∀ j, j < k → p (l.getD j 0) = true) → k ≤ fnot p l
  | [], k, h, _ => by simp at h; omega
  | a :: l, 0, _, _ => Nat.zero_le _
  | a :: l, k + 1, h, ha => by
    have h0 := ha 0 (by omega)
    simp at h0
    unfold fnot
    rw [List.takeWhile_cons, h0]
    simp only [if_true, List.length_cons]
    have := fnot_ge p l k (by simpa using h) (fun j hj => by simpa using ha (j + 1) (by omega))
    unfold fnot at this
    omega
theorem pl_no {l : List UInt8} (hb : blank0 l = false) (hh : has 58 l = false) : parseL l = (([], []), l.length, 62) := by
  unfold parseL
  rw [hb, hh]
  rfl
theorem pl_A {l : List UInt8} (hb : blank0 l = true) : parseL l = (([], []), 0, 63) := by unfold parseL; rw [hb]; rfl
theorem pl_D {l : List UInt8} (hb : blank0 l = false) (hh : has 58 l = true) (k : Nat) (hn : isName (cutA 58 l) = false) (hk : min (fnot tokB (cutA 58 l)) 128 = k) : parseL l = (([], []), k, 60) := by
  unfold parseL
  rw [hb, hh, hn, hk]
  rfl
theorem pl_D0 {l : List UInt8} (hb : blank0 l = false) (hh : has 58 l = true) (h0 : (cutA 58 l).length = 0) : parseL l = (([], []), 0, 60) := by
  have e := List.length_eq_zero_iff.1 h0
  exact pl_D hb hh 0 (by rw [e]; rfl) (by rw [e]; rfl)
theorem pl_D1 {l : List UInt8} (hb : blank0 l = false) (hh : has 58 l = true) (k : Nat) (hk : k < (cutA 58 l).length) (hall : ∀ j, j < k → tokB ((cutA 58 l).getD j 0) = true) (hk2 : k ≤ 128) (hst : k = 128 ∨ tokB ((cutA 58 l).getD k 0) = false) : parseL l = (([], []), k, 60) := by
  rcases hst with rfl | hst
  · refine pl_D hb hh 128 ?_ ?_
    · unfold isName
      rw [decide_eq_false (by omega)]
      simp
    · have := fnot_ge tokB (cutA 58 l) 128 (by omega) hall
      omega
  · refine pl_D hb hh k ?_ ?_
    · unfold isName isTok
      rw [all_not tokB 0 _ k hk hst]
      simp
    · have : fnot tokB (cutA 58 l) = k := tw_stop tokB 0 _ k hk hall hst
      omega
theorem name_of {l : List UInt8} (h0 : l.length ≠ 0) (h1 : l.length ≤ 128) (hall : ∀ j, j < l.length → tokB (l.getD j 0) = true) : isName l = true := by
  unfold isName isTok
  rw [all_of tokB 0 _ hall, decide_eq_true h1]
  cases l with
  | nil => exact absurd rfl h0
  | cons _ _ => rfl
theorem pl_E1 {l : List UInt8} (hb : blank0 l = false) (hh : has 58 l = true) (hn : isName (cutA 58 l) = true) (k : Nat) (hk : k < (cutB 58 l).length) (hall : ∀ j, j < k → fieldB ((cutB 58 l).getD j 0) = true) (hst : fieldB ((cutB 58 l).getD k 0) = false) :
    parseL l = (([], []), (cutA 58 l).length + 1 + k, 61) := by
  unfold parseL
  rw [hb, hh, hn, show isFld (cutB 58 l) = false from all_not fieldB 0 _ k hk hst, show fnot fieldB (cutB 58 l) = k from tw_stop fieldB 0 _ k hk hall hst]
  rfl
theorem pl_F {l : List UInt8} (hb : blank0 l = false) (hh : has 58 l = true) (hn : isName (cutA 58 l) = true) (hf : isFld (cutB 58 l) = true) (h8 : (trim (cutB 58 l)).length ≤ 8192) : parseL l = ((cutA 58 l, trim (cutB 58 l)), 0, 0) := by
  unfold parseL
  rw [hb, hh, hn, hf, if_pos h8]
  rfl
theorem pl_E2 {l : List UInt8} (hb : blank0 l = false) (hh : has 58 l = true) (hn : isName (cutA 58 l) = true) (hf : isFld (cutB 58 l) = true) (h8 : ¬ (trim (cutB 58 l)).length ≤ 8192) (k : Nat) (hk : lead (cutB 58 l) = k) :
    parseL l = (([], []), (cutA 58 l).length + 1 + (k + 8192), 61) := by
  unfold parseL
  rw [hb, hh, hn, hf, if_neg h8, hk]
  rfl
theorem at_A {l : List UInt8} (hh : has 58 l = true) (j : Nat) (hj : j < (cutA 58 l).length) : l.getD j 0 = (cutA 58 l).getD j 0 := by
  conv => lhs; rw [← cut_app 58 l hh]
  rw [List.getD_eq_getElem?_getD, List.getD_eq_getElem?_getD, List.getElem?_append_left hj]
theorem at_B {l : List UInt8} (hh : has 58 l = true) (j : Nat) : l.getD ((cutA 58 l).length + 1 + j) 0 = (cutB 58 l).getD j 0 := by
  conv => lhs; arg 1; rw [← cut_app 58 l hh]
  rw [List.getD_eq_getElem?_getD, List.getD_eq_getElem?_getD, List.getElem?_append_right (by omega), show (cutA 58 l).length + 1 + j - (cutA 58 l).length = j + 1 by omega, List.getElem?_cons_succ]
theorem len_AB {l : List UInt8} (hh : has 58 l = true) : l.length = (cutA 58 l).length + 1 + (cutB 58 l).length := by
  have := congrArg List.length (cut_app 58 l hh)
  simp at this
  omega
theorem drop_A {l : List UInt8} (hh : has 58 l = true) : l.drop ((cutA 58 l).length + 1) = cutB 58 l := by
  conv => lhs; arg 2; rw [← cut_app 58 l hh]
  rw [show cutA 58 l ++ 58 :: cutB 58 l = (cutA 58 l ++ [58]) ++ cutB 58 l by simp, show (cutA 58 l).length + 1 = (cutA 58 l ++ [58]).length by simp, List.drop_left]
theorem take_A {l : List UInt8} (hh : has 58 l = true) : l.take (cutA 58 l).length = cutA 58 l := by
  conv => lhs; arg 2; rw [← cut_app 58 l hh]
  rw [List.take_left]

/-- The first place of a byte; -1: none. -/
def findZ (c : UInt8) (l : List UInt8) : Int := if has c l then ((cutA c l).length : Int) else -1
set_option maxRecDepth 100000 in
set_option maxHeartbeats 1000000 in
theorem rfind_any (s : ByteArray) (hs : s.size ≤ maxLen) (c : UInt8) (w : World) :
    Calls Tryd.prog 46 #[.string s, .int .u8 (c.toNat : Int)] w fun e w' => e = .returned (.int .i64 (findZ c s.data.toList)) ∧ w' = w := by
  unfold maxLen at hs
  have hc0 : 0 ≤ (c.toNat : Int) := by omega
  have hc1 : (c.toNat : Int) ≤ 255 := by have := c.toNat_lt; omega
  generalize hg : (c.toNat : Int) = C at *
  have HG : Hid ((c.toNat : Int) = C) := hg
  clear hg
  go_enter Tryd.func46, Tryd.ntmps46
  go_wp2
  go_loop [5] (fun i => ∃ k : Nat, k ≤ s.size ∧ i = .int .i64 k ∧ Hid (∀ j, j < k → (s.data.toList.getD j 0 != c) = true)) (fun i => s.size - (intOf i).toNat)
  case atStart => exact ⟨0, Nat.zero_le _, rfl, (fun j hj => by omega : ∀ j, j < 0 → _)⟩
  case round =>
    obtain ⟨k, hk, rfl, hall⟩ := hrel
    by_cases hlt : k < s.size
    · have hby : ((s[k].toNat : Nat) : Int) = byt s k := byt_at s k hlt
      obtain ⟨b0, b1⟩ := byt_bd s k
      by_cases he : byt s k = C
      · have HE : Hid (findZ c s.data.toList = (k : Int)) := by
          show _ = _
          unfold findZ
          have e0 : s.data.toList.getD k 0 = c := by
            have h := HG.out
            rw [← he] at h
            unfold byt at h
            exact UInt8.toNat_inj.1 (by omega)
          have hl : k < s.data.toList.length := by rw [size_list]; exact hlt
          have hm : has c s.data.toList = true := by
            unfold has
            rw [List.contains_iff_mem, ← e0, List.getD_eq_getElem?_getD, List.getElem?_eq_getElem hl]
            exact List.getElem_mem hl
          rw [if_pos hm]
          have : (cutA c s.data.toList).length = k := tw_stop (fun x => x != c) 0 _ k hl hall.out (by rw [e0]; simp)
          rw [this]
        have hq : ((s[k].toNat : Int) == C) = true := by rw [hby, he]; simp
        go_wp2
        go_ret
        exact ⟨ret_int HE.out.symm, rfl⟩
      · have HN : Hid (∀ j, j < k + 1 → (s.data.toList.getD j 0 != c) = true) := by
          intro j hj
          by_cases hjk : j = k
          · subst hjk
            rw [bne_iff_ne]
            intro e
            apply he
            unfold byt
            rw [e]
            exact HG.out
          · exact hall.out j (by omega)
        have hq : ((s[k].toNat : Int) == C) = false := by rw [hby]; simpa using he
        go_wp2
        go_round
        case rel => exact ⟨k + 1, by omega, by go_num, HN⟩
        case measure => simp [intOf]; omega
    · have HE : Hid (findZ c s.data.toList = -1) := by
        show _ = _
        unfold findZ
        rw [if_neg]
        unfold has
        intro h
        rw [List.contains_iff_mem] at h
        obtain ⟨j, hj, e⟩ := List.mem_iff_getElem.1 h
        have := hall.out j (by rw [size_list] at hj; omega)
        rw [List.getD_eq_getElem?_getD, List.getElem?_eq_getElem hj] at this
        simp [e] at this
      go_wp2
      go_ret
      exact ⟨ret_int HE.out.symm, rfl⟩

/-- The same in two ways: what is answered, as a value. -/
theorem lineV_mk {P : (List UInt8 × List UInt8) × Nat × Int} {a b : List UInt8} {x y : ByteArray} (hx : x = str a) (hy : y = str b) (h : P = ((a, b), 0, 0)) : Ending.returned (.tuple #[.agg #[.string x, .string y], .int .i64 0, .int .i64 0]) = .returned (lineV P) := by rw [h, hx, hy]; rfl
theorem lineV_mk2 {P : (List UInt8 × List UInt8) × Nat × Int} {k : Int} {z : Int} (m : Nat) (hm : k = (m : Int)) (h : P = (([], []), m, z)) : Ending.returned (.tuple #[.agg #[.string ⟨#[]⟩, .string ⟨#[]⟩], .int .i64 k, .int .i64 z]) = .returned (lineV P) := by rw [h, hm]; rfl

end Fd
end Go.Proofs.YtfpncbgedhodaaaDoor
