/-
  slices.IndexFunc and ContainsFunc over parameters.
-/
import Derived.Test.YtmgadjnllahbiaaDoorALib
import Derived.Test.YtmgadjnllahbiaaDoorAMd
import Derived.Test.YtmgadjnllahbiaaDoorSame
set_option linter.unusedVariables false
set_option linter.unusedSimpArgs false
namespace Go.Proofs.YtmgadjnllahbiaaDoor
open Go.RowKit Go.Shelf
namespace Ac
open Oc Tg

def idxB (f : Prm → Bool) (l : List Prm) : Int := match l.findIdx? f with | some k => (k : Int) | none => -1
theorem idxB_at {f : Prm → Bool} {l : List Prm} {k : Nat} (hk : k < l.length) (h1 : f (nth l k) = true) (h2 : ∀ j, j < k → f (nth l j) = false) : idxB f l = k := by
  unfold idxB
  have : l.findIdx? f = some k := by
    rw [List.findIdx?_eq_some_iff_getElem]
    refine ⟨hk, ?_, fun j hj => ?_⟩
    · have := h1
      unfold nth at this
      rwa [List.getD_eq_getElem?_getD, List.getElem?_eq_getElem hk] at this
    · have := h2 j hj
      unfold nth at this
      rw [List.getD_eq_getElem?_getD, List.getElem?_eq_getElem (by omega)] at this
      simpa using this
  rw [this]
theorem idxB_none {f : Prm → Bool} {l : List Prm} (h2 : ∀ j, j < l.length → f (nth l j) = false) : idxB f l = -1 := by
  unfold idxB
  have : l.findIdx? f = none := by
    rw [List.findIdx?_eq_none_iff]
    intro x hx
    obtain ⟨j, hj, rfl⟩ := List.mem_iff_getElem.1 hx
    have := h2 j hj
    unfold nth at this
    rwa [List.getD_eq_getElem?_getD, List.getElem?_eq_getElem hj] at this
  rw [this]
theorem idxB_any (f : Prm → Bool) (l : List Prm) : decide (0 ≤ idxB f l) = l.any f := by
  unfold idxB
  cases h : l.findIdx? f with
  | none =>
    rw [List.findIdx?_eq_none_iff] at h
    have : l.any f = false := List.any_eq_false.2 (fun x hx => by rw [h x hx]; decide)
    rw [this]
    decide
  | some k =>
    rw [List.findIdx?_eq_some_iff_getElem] at h
    obtain ⟨hk, h1, _⟩ := h
    have : l.any f = true := List.any_eq_true.2 ⟨_, List.getElem_mem hk, h1⟩
    rw [this]
    exact decide_eq_true (by simp)
/-- No text of theirs is longer. -/
def EachP (M : Nat) (l : List Prm) : Prop := ∀ p ∈ l, p.1.length ≤ M ∧ p.2.1.length ≤ M
theorem EachP.at {M : Nat} {l : List Prm} (h : EachP M l) (k : Nat) (hk : k < l.length) : (nth l k).1.length ≤ M ∧ (nth l k).2.1.length ≤ M := by
  refine h _ ?_
  unfold nth
  rw [List.getD_eq_getElem?_getD, List.getElem?_eq_getElem hk]
  exact List.getElem_mem hk
def noVal (p : Prm) : Bool := !p.2.2
def notSmall (p : Prm) : Bool := !decide (lower p.1 = p.1)
def isQ (p : Prm) : Bool := decide (p.1 = [113])
theorem veq (a b : List UInt8) : ((str a).toList == (str b).toList) = decide (a = b) := by
  rw [eq_toList, Bool.eq_iff_iff, decide_eq_true_iff, decide_eq_true_iff]
  exact ⟨str_inj, fun h => by rw [h]⟩

set_option maxRecDepth 100000 in
set_option maxHeartbeats 1000000 in
theorem noVal_any (p : Prm) (hp : p.1.length ≤ maxLen) (w : World) :
    Calls Tryd.prog 25 #[.agg #[.string (str p.1), .string (str p.2.1), .bool p.2.2]] w fun e w' => e = .returned (.bool (noVal p)) ∧ Below w.heap.size w w' := by
  obtain ⟨n, v, b⟩ := p
  dsimp only at hp ⊢
  obtain ⟨w2, hw2⟩ : ∃ w2, w2 = w.alloc (.cells #[.string (str n), .string (str v), .bool b] 40) := ⟨_, rfl⟩
  have R1 : w2.heap[w.heap.size]? = some (.cells #[.string (str n), .string (str v), .bool b] 40 (0, 0)) := by
    rw [hw2]; exact heap_alloc_new w _
  have HB2 : Hid (Below w.heap.size w w2) := by show Below _ _ _; rw [hw2]; exact (Below.refl _ w).alloc (Nat.le_refl _) _
  have c0 := Lib.cell_of_heap R1 0
  have c2 := Lib.cell_of_heap R1 2
  simp at c0 c2
  clear R1
  clear c0
  subst hw2
  go_enter Tryd.func25, Tryd.ntmps25
  go_wp2
  go_ret
  exact ⟨rfl, HB2.out⟩

set_option maxRecDepth 100000 in
set_option maxHeartbeats 2000000 in
theorem IndexFunc_noVal (v : Value) (ps : List Prm) (hM : EachP maxLen ps) (hl : ps.length ≤ 4294967296) (w : World) (hrd : RdP v ps w) :
    Calls Tryd.prog 39 #[v, .func (.func 25) #[] #[]] w fun e w' => e = .returned (.int .i64 (idxB noVal ps)) ∧ Below w.heap.size w w' := by
  have HR : Hid (RdP v ps w) := hrd
  have HM : Hid (EachP maxLen ps) := hM
  obtain ⟨a, c, rfl, _⟩ := hrd
  clear hM
  go_enter Tryd.func39, Tryd.ntmps39
  go_wp2
  go_loopw [8] (fun i wr => ∃ k : Nat, k ≤ ps.length ∧ i = .int .i64 k ∧ Hid (∀ j, j < k → noVal (nth ps j) = false) ∧ Hid (Below w.heap.size w wr)) (fun i _ => ps.length - (intOf i).toNat)
  case atStart => exact ⟨0, Nat.zero_le _, rfl, (fun j hj => by omega : ∀ j, j < 0 → _), Below.refl _ _⟩
  case round =>
    obtain ⟨k, hk, rfl, hall, hbl⟩ := hrel
    by_cases hlt : k < ps.length
    · obtain ⟨a', c', e', hcs⟩ := HR.out.below hbl.out
      injection e' with e1 _ e2
      subst e1 e2
      rcases hcs with h | ⟨g, o, rfl, hlc, hcell⟩
      · rw [h] at hlt; simp at hlt
      obtain ⟨p0, p1, p2⟩ := hcell k hlt
      clear hcell
      have HN : Hid (Calls Tryd.prog 25 #[.agg #[.string (str (nth ps k).1), .string (str (nth ps k).2.1), .bool (nth ps k).2.2]] wr fun e w' => e = .returned (.bool (noVal (nth ps k))) ∧ Below wr.heap.size wr w') :=
        noVal_any _ (HM.out.at k hlt).1 wr
      have HT : noVal (nth ps k) = true → Hid (idxB noVal ps = k) := fun h => idxB_at hlt h hall.out
      have HF : noVal (nth ps k) = false → Hid (∀ j, j < k + 1 → noVal (nth ps j) = false) := fun h j hj => by
        by_cases hjk : j = k
        · subst hjk; exact h
        · exact hall.out j (by omega)
      generalize str (nth ps k).1 = X at p0 HN
      generalize str (nth ps k).2.1 = Y at p1 HN
      generalize noVal (nth ps k) = b at HN HT HF
      generalize (nth ps k).2.2 = Z at p2 HN
      cases b with
      | true =>
        have HT2 := HT rfl
        clear HT HF
        go_wp2_with fail
        refine HN.out.mono ?_
        rintro e w2 ⟨rfl, hb2⟩
        have HB2 : Hid (Below w.heap.size w w2) := bel_trans hbl.out hb2
        clear hb2
        go_wp2
        go_ret
        exact ⟨ret_int HT2.out.symm, HB2.out⟩
      | false =>
        have HF2 := HF rfl
        clear HT HF
        go_wp2_with fail
        refine HN.out.mono ?_
        rintro e w2 ⟨rfl, hb2⟩
        have HB2 : Hid (Below w.heap.size w w2) := bel_trans hbl.out hb2
        clear hb2
        go_wp2
        go_roundw
        case rel => exact ⟨k + 1, by omega, by go_num, HF2, HB2⟩
        case measure => simp [intOf]; omega
    · have HE : Hid (idxB noVal ps = -1) := idxB_none (fun j hj => hall.out j (by omega))
      go_wp2
      go_ret
      exact ⟨ret_int HE.out.symm, hbl.out⟩

set_option maxRecDepth 100000 in
set_option maxHeartbeats 1000000 in
theorem ContainsFunc_noVal (v : Value) (ps : List Prm) (hM : EachP maxLen ps) (hl : ps.length ≤ 4294967296) (w : World) (hrd : RdP v ps w) :
    Calls Tryd.prog 24 #[v, .func (.func 25) #[] #[]] w fun e w' => e = .returned (.bool (ps.any noVal)) ∧ Below w.heap.size w w' := by
  have H := IndexFunc_noVal v ps hM hl w hrd
  have HA : Hid (decide (0 ≤ idxB noVal ps) = ps.any noVal) := idxB_any _ _
  clear hrd hM
  generalize idxB noVal ps = z at *
  generalize ps.any noVal = b at *
  go_enter Tryd.func24, Tryd.ntmps24
  go_wp2_with fail
  refine H.mono ?_
  rintro e w2 ⟨rfl, hb2⟩
  go_wp2
  go_ret
  exact ⟨ret_bool HA.out, hb2⟩

set_option maxRecDepth 100000 in
set_option maxHeartbeats 1000000 in
theorem allValued_any (v : Value) (ps : List Prm) (hM : EachP maxLen ps) (hl : ps.length ≤ 4294967296) (w : World) (hrd : RdP v ps w) :
    Calls Tryd.prog 11 #[v] w fun e w' => e = .returned (.bool (!ps.any noVal)) ∧ Below w.heap.size w w' := by
  have H := ContainsFunc_noVal v ps hM hl w hrd
  clear hrd hM
  generalize ps.any noVal = b at *
  go_enter Tryd.func11, Tryd.ntmps11
  go_wp2_with fail
  refine H.mono ?_
  rintro e w2 ⟨rfl, hb2⟩
  go_wp2
  go_ret
  exact ⟨rfl, hb2⟩

set_option maxHeartbeats 1000000 in
theorem isSmall_any (n : List UInt8) (hn : n.length ≤ maxLen) (w : World) :
    Calls Tryd.prog 23 #[.string (str n)] w fun e w' => e = .returned (.bool (decide (lower n = n))) ∧ Below w.heap.size w w' := by
  have H : Calls Tryd.prog 36 #[.string (str n)] w fun e w' => e = .returned (.string (str (lower n))) ∧ Below w.heap.size w w' := by
    have := Lower_any (str n) (by rw [str_size]; exact hn) w
    unfold lowS at this
    rw [str_list] at this
    exact this
  have HQ : Hid (((str (lower n)).toList == (str n).toList) = decide (lower n = n)) := veq _ _
  generalize decide (lower n = n) = b at *
  generalize str (lower n) = X at *
  generalize str n = Y at *
  go_enter Tryd.func23, Tryd.ntmps23
  go_wp2_with fail
  refine H.mono ?_
  rintro e w2 ⟨rfl, hb2⟩
  go_wp2
  go_ret
  exact ⟨ret_bool HQ.out, hb2⟩

set_option maxRecDepth 100000 in
set_option maxHeartbeats 1000000 in
theorem notSmall_any (p : Prm) (hp : p.1.length ≤ maxLen) (w : World) :
    Calls Tryd.prog 26 #[.agg #[.string (str p.1), .string (str p.2.1), .bool p.2.2]] w fun e w' => e = .returned (.bool (notSmall p)) ∧ Below w.heap.size w w' := by
  obtain ⟨n, v, b⟩ := p
  dsimp only at hp ⊢
  obtain ⟨w2, hw2⟩ : ∃ w2, w2 = w.alloc (.cells #[.string (str n), .string (str v), .bool b] 40) := ⟨_, rfl⟩
  have R1 : w2.heap[w.heap.size]? = some (.cells #[.string (str n), .string (str v), .bool b] 40 (0, 0)) := by
    rw [hw2]; exact heap_alloc_new w _
  have HB2 : Hid (Below w.heap.size w w2) := by show Below _ _ _; rw [hw2]; exact (Below.refl _ w).alloc (Nat.le_refl _) _
  have c0 := Lib.cell_of_heap R1 0
  have c2 := Lib.cell_of_heap R1 2
  simp at c0 c2
  clear R1
  have HS := isSmall_any n hp w2
  have HNS : Hid ((!decide (lower n = n)) = notSmall (n, v, b)) := rfl
  clear c2
  generalize decide (lower n = n) = q at *
  subst hw2
  go_enter Tryd.func26, Tryd.ntmps26
  go_wp2_with fail
  refine HS.mono ?_
  rintro e w3 ⟨rfl, hb3⟩
  have HB3 : Hid (Below w.heap.size w w3) := bel_trans HB2.out hb3
  clear hb3
  go_wp2
  go_ret
  exact ⟨ret_bool HNS.out, HB3.out⟩

set_option maxRecDepth 100000 in
set_option maxHeartbeats 2000000 in
theorem IndexFunc_notSmall (v : Value) (ps : List Prm) (hM : EachP maxLen ps) (hl : ps.length ≤ 4294967296) (w : World) (hrd : RdP v ps w) :
    Calls Tryd.prog 39 #[v, .func (.func 26) #[] #[]] w fun e w' => e = .returned (.int .i64 (idxB notSmall ps)) ∧ Below w.heap.size w w' := by
  have HR : Hid (RdP v ps w) := hrd
  have HM : Hid (EachP maxLen ps) := hM
  obtain ⟨a, c, rfl, _⟩ := hrd
  clear hM
  go_enter Tryd.func39, Tryd.ntmps39
  go_wp2
  go_loopw [8] (fun i wr => ∃ k : Nat, k ≤ ps.length ∧ i = .int .i64 k ∧ Hid (∀ j, j < k → notSmall (nth ps j) = false) ∧ Hid (Below w.heap.size w wr)) (fun i _ => ps.length - (intOf i).toNat)
  case atStart => exact ⟨0, Nat.zero_le _, rfl, (fun j hj => by omega : ∀ j, j < 0 → _), Below.refl _ _⟩
  case round =>
    obtain ⟨k, hk, rfl, hall, hbl⟩ := hrel
    by_cases hlt : k < ps.length
    · obtain ⟨a', c', e', hcs⟩ := HR.out.below hbl.out
      injection e' with e1 _ e2
      subst e1 e2
      rcases hcs with h | ⟨g, o, rfl, hlc, hcell⟩
      · rw [h] at hlt; simp at hlt
      obtain ⟨p0, p1, p2⟩ := hcell k hlt
      clear hcell
      have HN : Hid (Calls Tryd.prog 26 #[.agg #[.string (str (nth ps k).1), .string (str (nth ps k).2.1), .bool (nth ps k).2.2]] wr fun e w' => e = .returned (.bool (notSmall (nth ps k))) ∧ Below wr.heap.size wr w') :=
        notSmall_any _ (HM.out.at k hlt).1 wr
      have HT : notSmall (nth ps k) = true → Hid (idxB notSmall ps = k) := fun h => idxB_at hlt h hall.out
      have HF : notSmall (nth ps k) = false → Hid (∀ j, j < k + 1 → notSmall (nth ps j) = false) := fun h j hj => by
        by_cases hjk : j = k
        · subst hjk; exact h
        · exact hall.out j (by omega)
      generalize str (nth ps k).1 = X at p0 HN
      generalize str (nth ps k).2.1 = Y at p1 HN
      generalize notSmall (nth ps k) = b at HN HT HF
      generalize (nth ps k).2.2 = Z at p2 HN
      cases b with
      | true =>
        have HT2 := HT rfl
        clear HT HF
        go_wp2_with fail
        refine HN.out.mono ?_
        rintro e w2 ⟨rfl, hb2⟩
        have HB2 : Hid (Below w.heap.size w w2) := bel_trans hbl.out hb2
        clear hb2
        go_wp2
        go_ret
        exact ⟨ret_int HT2.out.symm, HB2.out⟩
      | false =>
        have HF2 := HF rfl
        clear HT HF
        go_wp2_with fail
        refine HN.out.mono ?_
        rintro e w2 ⟨rfl, hb2⟩
        have HB2 : Hid (Below w.heap.size w w2) := bel_trans hbl.out hb2
        clear hb2
        go_wp2
        go_roundw
        case rel => exact ⟨k + 1, by omega, by go_num, HF2, HB2⟩
        case measure => simp [intOf]; omega
    · have HE : Hid (idxB notSmall ps = -1) := idxB_none (fun j hj => hall.out j (by omega))
      go_wp2
      go_ret
      exact ⟨ret_int HE.out.symm, hbl.out⟩

set_option maxRecDepth 100000 in
set_option maxHeartbeats 1000000 in
theorem ContainsFunc_notSmall (v : Value) (ps : List Prm) (hM : EachP maxLen ps) (hl : ps.length ≤ 4294967296) (w : World) (hrd : RdP v ps w) :
    Calls Tryd.prog 24 #[v, .func (.func 26) #[] #[]] w fun e w' => e = .returned (.bool (ps.any notSmall)) ∧ Below w.heap.size w w' := by
  have H := IndexFunc_notSmall v ps hM hl w hrd
  have HA : Hid (decide (0 ≤ idxB notSmall ps) = ps.any notSmall) := idxB_any _ _
  clear hrd hM
  generalize idxB notSmall ps = z at *
  generalize ps.any notSmall = b at *
  go_enter Tryd.func24, Tryd.ntmps24
  go_wp2_with fail
  refine H.mono ?_
  rintro e w2 ⟨rfl, hb2⟩
  go_wp2
  go_ret
  exact ⟨ret_bool HA.out, hb2⟩

set_option maxRecDepth 100000 in
set_option maxHeartbeats 1000000 in
theorem allSmall_any (v : Value) (ps : List Prm) (hM : EachP maxLen ps) (hl : ps.length ≤ 4294967296) (w : World) (hrd : RdP v ps w) :
    Calls Tryd.prog 12 #[v] w fun e w' => e = .returned (.bool (!ps.any notSmall)) ∧ Below w.heap.size w w' := by
  have H := ContainsFunc_notSmall v ps hM hl w hrd
  clear hrd hM
  generalize ps.any notSmall = b at *
  go_enter Tryd.func12, Tryd.ntmps12
  go_wp2_with fail
  refine H.mono ?_
  rintro e w2 ⟨rfl, hb2⟩
  go_wp2
  go_ret
  exact ⟨rfl, hb2⟩

end Ac
end Go.Proofs.YtmgadjnllahbiaaDoor
