/- Several texts as one. -/
import Derived.Test.YtndglpjkmgcdpaaGreatDoorSrQ
import Derived.Test.YtndglpjkmgcdpaaGreatDoorMgP
import Derived.Test.YtndglpjkmgcdpaaGreatDoorMgT
import Derived.Test.YtndglpjkmgcdpaaGreatDoorFLn
import Derived.Deep.QuietTactic
import Derived.Maps.AppendAt
/-
  sheet: Parse.
-/
set_option linter.unusedVariables false
set_option linter.unusedSimpArgs false
namespace Go.Proofs.YtndglpjkmgcdpaaGreatDoor
open Go.RowKit Go.Shelf
namespace Sr
open Oc Tg Mf

/-- What Parse answers. -/
def errN : Option (Int × Int) → Int × Int
  | none => (0, 0)
  | some q => q
def parR (b s : List UInt8) (most : Int) : List Pt.P5 × Int × Int :=
  if bndR b = false then ([], 0, 151)
  else if most < 1 then ([], 0, 1)
  else ((allP s ([45, 45] ++ b) most.toNat).1, errN (allP s ([45, 45] ++ b) most.toNat).2)

theorem told_any (q : Option (Int × Int)) (w : World) (hg : Er.Gw w) : Calls Tryz.prog 33 #[errV q] w fun e w' => e = .returned (.tuple #[.int .i64 (errN q).1, .int .i64 (errN q).2]) ∧ Below w.heap.size w w' := by
  cases q with
  | none => exact Er.told_nil w
  | some q => exact Er.told_fault q.1 q.2 w hg

set_option maxRecDepth 100000 in
set_option maxHeartbeats 2000000 in
theorem Parse_any (b s : ByteArray) (most : Int) (hb1 : b.size ≤ 1048576) (hs : s.size ≤ 1073741820) (hmost : most < 9223372036854775808) (w : World) (ht : Tab w) (hml : ML w) (he : Fd.Env w) (hg : Er.Gw w) :
    Calls Tryz.prog 12 #[.string b, .string s, .int .i64 most] w fun e w' => ∃ lv, e = .returned (.tuple #[lv, .int .i64 (parR b.data.toList s.data.toList most).2.1, .int .i64 (parR b.data.toList s.data.toList most).2.2]) ∧ Pt.OwnT 41 w.heap.size lv (parR b.data.toList s.data.toList most).1 w' ∧ Below w.heap.size w w' := by
  have HIb : Hid (Calls _ _ _ w _) := IsBoundary_any b (by omega) w
  obtain ⟨R, HRR⟩ : ∃ R, Hid (R = parR b.data.toList s.data.toList most) := ⟨_, rfl⟩
  have HRd : Hid (R = _) := HRR.out.trans (by unfold parR; exact rfl)
  rw [← HRR.out]
  clear HRR
  generalize bndR b.data.toList = B at *
  cases B with
  | false =>
    have HQ : Hid (R = ([], 0, 151)) := (by rw [HRd.out, if_pos rfl] : R = _)
    go_enter Tryz.func12, Tryz.ntmps12
    go_wp2_with fail
    refine HIb.out.mono ?_
    rintro e w1 ⟨rfl, hw1⟩
    go_wp2
    refine bodyPost_ret (v := .tuple #[.slice none 0 0, .int .i64 0, .int .i64 151]) (by simp [results, Tryz.results12, go_sem]; try rfl) rfl ?_
    rw [HQ.out]
    exact ⟨_, rfl, Pt.ownT_nil _ _ _, hw1⟩
  | true =>
    by_cases hm1 : most < 1
    · have HQ : Hid (R = ([], 0, 1)) := (by rw [HRd.out, if_neg (by simp), if_pos hm1] : R = _)
      go_enter Tryz.func12, Tryz.ntmps12
      go_wp2_with fail
      refine HIb.out.mono ?_
      rintro e w1 ⟨rfl, hw1⟩
      go_wp2
      refine bodyPost_ret (v := .tuple #[.slice none 0 0, .int .i64 0, .int .i64 1]) (by simp [results, Tryz.results12, go_sem]; try rfl) rfl ?_
      rw [HQ.out]
      exact ⟨_, rfl, Pt.ownT_nil _ _ _, hw1⟩
    · have HQ0 : Hid (R = ((allP s.data.toList ([45, 45] ++ b.data.toList) most.toNat).1, errN (allP s.data.toList ([45, 45] ++ b.data.toList) most.toNat).2)) := (by rw [HRd.out, if_neg (by simp), if_neg hm1] : R = _)
      obtain ⟨k, hk⟩ : ∃ k : Nat, most = (k : Int) := ⟨most.toNat, by omega⟩
      subst hk
      have hkn : (k : Int).toNat = k := by simp
      rw [hkn] at HQ0
      have hcat : (⟨#[45, 45]⟩ : ByteArray) ++ b = str ([45, 45] ++ b.data.toList) := by
        apply eq_list
        rw [str_list, ByteArray.data_append, Array.toList_append]
      have hml2 : ([45, 45] ++ b.data.toList).length ≤ 4000000 := by simp [size_list]; omega
      have HCat : Hid ((⟨#[45, 45]⟩ : ByteArray) ++ b = str ([45, 45] ++ b.data.toList)) := hcat
      clear HRd hcat hkn
      generalize [45, 45] ++ b.data.toList = mk at *
      have HPs : Hid (∀ g w1, w.heap.size ≤ g → Below w.heap.size w w1 → SR w1 g s (str mk) 0 → Calls _ _ _ w1 _) := fun g w1 h1 h2 h3 => parts_any g s mk k (by omega) (by omega) hs hml2 w h1 w1 h2 h3 ht hml he
      have HTd : Hid (∀ q W, Below w.heap.size w W → Calls _ _ _ W _) := fun q W h => told_any q W (hg.below h)
      generalize allP s.data.toList mk k = A at *
      obtain ⟨ps, er⟩ := A
      dsimp only at HQ0 HPs
      obtain ⟨zb, hzb⟩ : ∃ zb, b.size = zb := ⟨_, rfl⟩
      have hk2 : (⟨#[45, 45]⟩ : ByteArray).size = 2 := rfl
      have had1 : ¬ (9223372036854775807 < 2 + zb) := by omega
      have hm2 : decide ((k : Int) < 1) = false := by simpa using hm1
      clear hml2 hb1
      go_enter Tryz.func12, Tryz.ntmps12
      go_wp2_with fail
      refine HIb.out.mono ?_
      rintro e w1 ⟨rfl, hw1⟩
      have HB1 : Hid (Below w.heap.size w w1) := hw1
      clear hw1 HIb
      go_wp2_with fail
      rw [HCat.out]
      obtain ⟨w2, hw2⟩ : ∃ w2, w2 = w1.alloc (.cells #[.string s, .string (str mk), .int .i64 0] 75) := ⟨_, rfl⟩
      rw [← hw2]
      have hb2 : Below w1.heap.size w1 w2 := by rw [hw2]; exact (Below.refl _ w1).alloc (Nat.le_refl _) _
      have HB2 : Hid (Below w.heap.size w w2) := HB1.out.trans (hb2.mono HB1.out.size)
      have HR2 : Hid (SR w2 w1.heap.size s (str mk) 0) := (by rw [hw2]; exact heap_alloc_new w1 _ : SR _ _ _ _ _)
      have hz1 : w.heap.size ≤ w1.heap.size := HB1.out.size
      clear hb2 hw2 hm1 hm2 had1 hk2
      refine (HPs.out w1.heap.size w2 hz1 HB2.out HR2.out).mono ?_
      rintro e w3 ⟨lv, rfl, hO3, hC3⟩
      have HB3 : Hid (Below w.heap.size w w3) := HB2.out.trans (hC3.below hz1 (HB2.out.size))
      have HO3 : Hid (Pt.OwnT 41 w.heap.size lv ps w3) := ⟨hO3.1, hO3.2.imp id (fun ⟨g, c, cur, e, hg, r⟩ => ⟨g, c, cur, e, Nat.le_trans HB2.out.size hg, r⟩)⟩
      clear hO3 hC3 HPs HR2 HB2
      go_wp2_with fail
      refine (HTd.out er w3 HB3.out).mono ?_
      rintro e w4 ⟨rfl, hb4⟩
      have HB4 : Hid (Below w.heap.size w w4) := HB3.out.trans (hb4.mono HB3.out.size)
      have HO4 : Hid (Pt.OwnT 41 w.heap.size lv ps w4) := HO3.out.below hb4
      clear hb4 HB3 HO3 HTd
      generalize errN er = E at *
      obtain ⟨e1, e2⟩ := E
      dsimp only
      go_wp2
      refine bodyPost_ret (v := .tuple #[lv, .int .i64 e1, .int .i64 e2]) (by simp [results, Tryz.results12, go_sem]; try rfl) rfl ?_
      rw [HQ0.out]
      exact ⟨_, rfl, HO4.out, HB4.out⟩

end Sr
end Go.Proofs.YtndglpjkmgcdpaaGreatDoor

/-
  Slices of fields: of the call's own, read.
-/
set_option linter.unusedVariables false
set_option linter.unusedSimpArgs false
namespace Go.Proofs.YtndglpjkmgcdpaaGreatDoor
open Go.RowKit Go.Shelf
namespace Fd
open Oc Tg

abbrev Fl := List UInt8 × List UInt8
def encF1 (p : Fl) : List Value := [.string (str p.1), .string (str p.2)]
def encF (ps : List Fl) : List Value := ps.flatMap encF1
theorem encF_snoc (ps : List Fl) (p : Fl) : encF (ps ++ [p]) = encF ps ++ encF1 p := by unfold encF; rw [List.flatMap_append]; simp
theorem encF_len : ∀ ps : List Fl, (encF ps).length = ps.length * 2
  | [] => rfl
  | p :: ps => by
    have := encF_len ps
    unfold encF at *
    rw [List.flatMap_cons, List.length_append, this, List.length_cons]
    show 2 + _ = _
    omega
/-- A slice of parameters (of the type T) of the call's own. -/
def OwnF (T B : Nat) (v : Value) (ps : List Fl) (w : World) : Prop := w.ownsRow B T 2 v ps.length (encF ps)
theorem ownF_nil (T B : Nat) (w : World) : OwnF T B (.slice none 0 0) [] w := World.ownsRow_nil w B T 2
theorem ownF_empty {B : Nat} (T : Nat) (w : World) (hB : B ≤ w.heap.size) : OwnF T B (.slice (some ⟨w.heap.size, 0, none⟩) 0 0) [] (w.alloc (.cells #[] T)) :=
  ⟨by simp [encF], .inr ⟨w.heap.size, 0, #[], rfl, hB, heap_alloc_new w _, by simp, by decide, by simp, by simp [encF]⟩⟩
theorem OwnF.below {T B : Nat} {v : Value} {t : List Fl} {w w' : World} (h : OwnF T B v t w) (b : Below w.heap.size w w') : OwnF T B v t w' := by
  refine ⟨h.1, ?_⟩
  rcases h.2 with hn | ⟨g, cap, cur, rfl, hb, hg, rest⟩
  · exact .inl hn
  · refine .inr ⟨g, cap, cur, rfl, hb, ?_, rest⟩
    have hlt : g < w.heap.size := by
      rcases Nat.lt_or_ge g w.heap.size with h | h
      · exact h
      · simp [Array.getElem?_eq_none h] at hg
    rw [b.block g hlt]
    exact hg

/-- A parameter appended to a slice of the call's own. -/
theorem wp_appF {ops : Array Oper} {rest : List Oper} {o : Oper} {a : Act} {Q : Exit → Act → World → Prop} (T S : Nat) (hinfo : (Tryz.prog.info? T).map (fun i => (i.zero, i.size, i.bytes)) = some (some (.agg #[.string ⟨#[]⟩, .string ⟨#[]⟩]), 2, 32))
    (hund : Tryz.prog.underlying S = some (.slice T)) (hgd : o.guard = none) (s x : Operand)
    (ho : o.op = .call { callee := .builtin .append, args := #[s, x], argTypes := #[S, S] }) (B : Nat) (v : Value) (t : List Fl) (W : World) (p : Fl) (n1 n2 : ByteArray) (h1 : n1 = str p.1) (h2 : n2 = str p.2)
    (hs : a.eval s = v) (hown : OwnF T B v t W) (g : Nat) (hx : a.eval x = .slice (some ⟨g, 0, none⟩) 1 1) (hg : g = W.heap.size) (hlen : t.length + 1 ≤ 2147483648) (hB : B ≤ W.heap.size)
    (h : ∀ v' w', OwnF T B v' (t ++ [p]) w' → Below B W w' → wpList Tryz.prog ops Q rest (a.put o.dst v') w') : wpList Tryz.prog ops Q (o :: rest) a (W.alloc (.cells #[.string n1, .string n2] T)) := by
  subst h1 h2 hg
  obtain ⟨i0, hi, hz0, hz1, hz2⟩ := info_parts hinfo
  refine wpList_append_own _ hgd s x S ho B T i0 (.agg #[.string ⟨#[]⟩, .string ⟨#[]⟩]) 2 32 hund hi hz0 hz1 hz2 rfl (by decide) v t.length _ hs (World.ownsRow.alloc hown _) ⟨W.heap.size, 0, none⟩ 1 1 (encF1 p) hx rfl ?_ ?_ ?_ ?_ ?_ ?_
  · intro j u hj
    unfold encF1 at hj
    match j, hj with
    | 0, hj => simp at hj; subst hj; simp [Addr.add]
    | 1, hj => simp at hj; subst hj; simp [Addr.add]
  · intro u hu
    unfold encF1 at hu
    simp at hu
    rcases hu with rfl | rfl <;> rfl
  · unfold maxLen; omega
  · omega
  · simp; omega
  · intro v' w' h1 h2 _
    refine h v' w' ?_ (((Below.refl B W).alloc hB _).grown h2 (by simp; omega) (fun k hk => (World.ownsRow.lt hown k hk).1))
    unfold OwnF
    rw [encF_snoc, List.length_append]
    exact h1

theorem infoF : (Tryz.prog.info? 92).map (fun i => (i.zero, i.size, i.bytes)) = some (some (.agg #[.string ⟨#[]⟩, .string ⟨#[]⟩]), 2, 32) := by kernel_rfl

def nth (t : List Fl) (j : Nat) : Fl := t.getD j ([], [])
/-- A slice that reads as these parameters. -/
def RdF (v : Value) (t : List Fl) (w : World) : Prop :=
  ∃ a c, v = .slice a t.length c ∧ (t = [] ∨ ∃ g o, a = some ⟨g, o, none⟩ ∧ t.length ≤ c ∧ ∀ j, j < t.length → w.cell? ⟨g, o + j * 2, none⟩ = some (.string (str (nth t j).1)) ∧ w.cell? ⟨g, o + j * 2 + 1, none⟩ = some (.string (str (nth t j).2)))
theorem encF_at : ∀ (t : List Fl) (j : Nat), j < t.length → (encF t)[j * 2]? = some (.string (str (nth t j).1)) ∧ (encF t)[j * 2 + 1]? = some (.string (str (nth t j).2))
  | [], j, h => by simp at h
  | p :: t, 0, _ => ⟨rfl, rfl⟩
  | p :: t, j + 1, h => by
    have ih := encF_at t j (by simpa using h)
    have e : encF (p :: t) = [.string (str p.1), .string (str p.2)] ++ encF t := rfl
    rw [e]
    have n : nth (p :: t) (j + 1) = nth t j := by unfold nth; simp
    rw [n, show (j + 1) * 2 = j * 2 + 2 by omega, show j * 2 + 2 + 1 = (j * 2 + 1) + 2 by omega]
    exact ih
theorem OwnF.rd {T B : Nat} {v : Value} {t : List Fl} {w : World} (h : OwnF T B v t w) : RdF v t w := by
  have hall := h
  rcases h.2 with ⟨rfl, h0⟩ | ⟨g, cap, cur, rfl, _, hg, hn, _⟩
  · exact ⟨none, 0, by rw [h0], .inl (List.length_eq_zero_iff.1 h0)⟩
  · refine ⟨_, _, rfl, .inr ⟨g, 0, rfl, by omega, fun j hj => ?_⟩⟩
    obtain ⟨e0, e1⟩ := encF_at t j hj
    have ea : ∀ k, Addr.add ⟨g, 0, none⟩ k = ⟨g, 0 + k, none⟩ := fun k => by unfold Addr.add; split <;> simp_all
    have c0 := World.ownsRow.cells hall (g := g) rfl _ _ e0
    have c1 := World.ownsRow.cells hall (g := g) rfl _ _ e1
    rw [ea] at c0 c1
    exact ⟨c0, c1⟩
theorem RdF.below {v : Value} {t : List Fl} {w w' : World} (h : RdF v t w) (b : Below w.heap.size w w') : RdF v t w' := by
  obtain ⟨a, c, rfl, h⟩ := h
  refine ⟨a, c, rfl, ?_⟩
  rcases h with h | ⟨g, o, e, hc, hcell⟩
  · exact .inl h
  · refine .inr ⟨g, o, e, hc, fun j hj => ?_⟩
    obtain ⟨h1, h2⟩ := hcell j hj
    rw [b.cell (p := ⟨g, o + j * 2, none⟩) (World.block_lt_of_cell? w _ h1), b.cell (p := ⟨g, o + j * 2 + 1, none⟩) (World.block_lt_of_cell? w _ h2)]
    exact ⟨h1, h2⟩
theorem infoF2 : (Tryz.prog.info? 110).map (fun i => (i.zero, i.size, i.bytes)) = some (some (.agg #[.string ⟨#[]⟩, .string ⟨#[]⟩]), 2, 32) := by kernel_rfl
theorem drawn_again (w : World) (n m : Nat) : Hid (∃ k, w.drewN (n + m) = w.drewN k) := ⟨_, rfl⟩
theorem below_drew (w : World) (n : Nat) : Below w.heap.size w (w.drewN n) := below_drewN (Below.refl _ w) n
theorem RdF.drew {v : Value} {t : List Fl} {w : World} (h : RdF v t w) (n : Nat) : RdF v t (w.drewN n) := h.below (below_drew w n)
theorem take_nth (t : List Fl) (k : Nat) (h : k < t.length) : t.take (k + 1) = t.take k ++ [nth t k] := by
  unfold nth
  rw [List.take_add_one, List.getElem?_eq_getElem h, List.getD_eq_getElem?_getD, List.getElem?_eq_getElem h]; rfl
theorem rd_oneF (w : World) (T : Nat) (p : Fl) : RdF (.slice (some ⟨w.heap.size, 0, none⟩) 1 1) [p] (w.alloc (.cells #[.string (str p.1), .string (str p.2)] T)) := by
  refine ⟨_, _, rfl, .inr ⟨w.heap.size, 0, rfl, by simp, fun j hj => ?_⟩⟩
  obtain rfl : j = 0 := by simp at hj; omega
  exact ⟨by simp [nth], by simp [nth]⟩

end Fd
end Go.Proofs.YtndglpjkmgcdpaaGreatDoor

/-
  field: named, IndexFunc, Find; the law's awake.
-/
set_option linter.unusedVariables false
set_option linter.unusedSimpArgs false
namespace Go.Proofs.YtndglpjkmgcdpaaGreatDoor
open Go.RowKit Go.Shelf
namespace Fd
open Oc Tg

/-- Is the field's name alike to it? -/
def alike (s : List UInt8) (p : Fl) : Bool := decide (lower p.1 = lower s)
def idxZ (s : List UInt8) (fs : List Fl) : Int := match fs.findIdx? (alike s) with | some k => (k : Int) | none => -1
theorem low_alike (n s : List UInt8) : decide (lowS (str n) = lowS (str s)) = decide (lower n = lower s) := by
  unfold lowS
  rw [str_list, str_list, Bool.eq_iff_iff, decide_eq_true_iff, decide_eq_true_iff]
  exact ⟨str_inj, fun h => by rw [h]⟩
theorem idxZ_at {s : List UInt8} {fs : List Fl} {k : Nat} (hk : k < fs.length) (h1 : alike s (nth fs k) = true) (h2 : ∀ j, j < k → alike s (nth fs j) = false) : idxZ s fs = k := by
  unfold idxZ
  have : fs.findIdx? (alike s) = some k := by
    rw [List.findIdx?_eq_some_iff_getElem]
    refine ⟨hk, ?_, fun j hj => ?_⟩
    · have := h1
      unfold nth at this
      rwa [List.getD_eq_getElem?_getD, List.getElem?_eq_getElem hk] at this
    · have := h2 j hj
      unfold nth at this
      rw [List.getD_eq_getElem?_getD, List.getElem?_eq_getElem (by omega)] at this
      simpa using this
  rw [this]
theorem idxZ_none {s : List UInt8} {fs : List Fl} (h2 : ∀ j, j < fs.length → alike s (nth fs j) = false) : idxZ s fs = -1 := by
  unfold idxZ
  have : fs.findIdx? (alike s) = none := by
    rw [List.findIdx?_eq_none_iff]
    intro x hx
    obtain ⟨j, hj, rfl⟩ := List.mem_iff_getElem.1 hx
    have := h2 j hj
    unfold nth at this
    rwa [List.getD_eq_getElem?_getD, List.getElem?_eq_getElem hj] at this
  rw [this]
/-- No text of theirs is longer. -/
def Each (M : Nat) (fs : List Fl) : Prop := ∀ p ∈ fs, p.1.length ≤ M ∧ p.2.length ≤ M
theorem Each.at {M : Nat} {fs : List Fl} (h : Each M fs) (k : Nat) (hk : k < fs.length) : (nth fs k).1.length ≤ M ∧ (nth fs k).2.length ≤ M := by
  refine h _ ?_
  unfold nth
  rw [List.getD_eq_getElem?_getD, List.getElem?_eq_getElem hk]
  exact List.getElem_mem hk

/-- The value of the first field of a name, and whether there is one. -/
def findF (s : List UInt8) (fs : List Fl) : List UInt8 × Bool := match fs.find? (alike s) with | some p => (p.2, true) | none => ([], false)
theorem idx_find (s : List UInt8) (fs : List Fl) : (∃ k : Nat, k < fs.length ∧ idxZ s fs = k ∧ findF s fs = ((nth fs k).2, true)) ∨ (idxZ s fs = -1 ∧ findF s fs = ([], false)) := by
  unfold idxZ findF
  cases h : fs.findIdx? (alike s) with
  | none =>
    right
    rw [List.findIdx?_eq_none_iff] at h
    have : fs.find? (alike s) = none := by rw [List.find?_eq_none]; intro x hx; simpa using h x hx
    rw [this]
    exact ⟨rfl, rfl⟩
  | some k =>
    left
    rw [List.findIdx?_eq_some_iff_getElem] at h
    obtain ⟨hk, h1, h2⟩ := h
    refine ⟨k, hk, rfl, ?_⟩
    have : fs.find? (alike s) = some fs[k] := by
      rw [List.find?_eq_some_iff_getElem]
      exact ⟨h1, k, hk, rfl, fun j hj => by simpa using h2 j hj⟩
    rw [this]
    unfold nth
    rw [List.getD_eq_getElem?_getD, List.getElem?_eq_getElem hk]
    rfl

theorem line_awake : parseL [104, 79, 83, 84, 58, 32, 97, 32] = (([104, 79, 83, 84], [97]), 0, 0) := by decide +kernel
theorem find_awake : findF [72, 111, 115, 116] [([104, 79, 83, 84], [97])] = ([97], true) := by decide +kernel

end Fd
end Go.Proofs.YtndglpjkmgcdpaaGreatDoor

/-
  The form of a slice of fields of one's own.
-/
set_option linter.unusedVariables false
set_option linter.unusedSimpArgs false
namespace Go.Proofs.YtndglpjkmgcdpaaGreatDoor
open Go.RowKit Go.Shelf
namespace Fd
open Oc Tg

theorem OwnF.form {T B : Nat} {v : Value} {t : List Fl} {w : World} (h : OwnF T B v t w) : ∃ a c, v = .slice a t.length c := by
  rcases h.2 with ⟨rfl, h0⟩ | ⟨g, cap, cur, rfl, _⟩
  · exact ⟨none, 0, by rw [h0]⟩
  · exact ⟨_, _, rfl⟩

end Fd
end Go.Proofs.YtndglpjkmgcdpaaGreatDoor
