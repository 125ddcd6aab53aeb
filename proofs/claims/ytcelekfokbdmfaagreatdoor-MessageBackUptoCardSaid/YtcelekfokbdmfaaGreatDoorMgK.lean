import Derived.Test.YtcelekfokbdmfaaGreatDoorMgE
set_option linter.unusedVariables false
set_option linter.unusedSimpArgs false
namespace Go.Proofs.YtcelekfokbdmfaaGreatDoor
open Go.RowKit Go.Shelf
namespace Fd
open Oc Tg
def alike (s : List UInt8) (p : Fl) : Bool := decide (lower p.1 = lower s)
def idxZ (s : List UInt8) (fs : List Fl) : Int := match fs.findIdx? (alike s) with | some k => (k : Int) | none => -1
theorem low_alike (n s : List UInt8) : decide (lowS (str n) = lowS (str s)) = decide (lower n = lower s) := by
  unfold lowS
  rw [str_list, str_list, Bool.eq_iff_iff, decide_eq_true_iff, decide_eq_true_iff]
  exact ⟨str_inj, fun h => by rw [h]⟩
theorem idxZ_at {s : List UInt8} {fs : List Fl} {k : Nat} (hk : k < fs.length) (h1 : alike s (nth fs k) = true) (h2 : ∀ j, j < k → alike s (nth fs j) = false) : idxZ s fs = k := by
  unfold idxZ
  have : fs.findIdx? (alike s) = some k := by
    rw [List.findIdx?_eq_some_iff_getElem]
    refine ⟨hk, ?_, fun j hj => ?_⟩
    · have := h1
      unfold nth at this
      rwa [List.getD_eq_getElem?_getD, List.getElem?_eq_getElem hk] at this
    · have := h2 j hj
      unfold nth at this
      rw [List.getD_eq_getElem?_getD, List.getElem?_eq_getElem (by omega)] at this
      simpa using this
  rw [this]
theorem idxZ_none {s : List UInt8} {fs : List Fl} (h2 : ∀ j, j < fs.length → alike s (nth fs j) = false) : idxZ s fs = -1 := by
  unfold idxZ
  have : fs.findIdx? (alike s) = none := by
    rw [List.findIdx?_eq_none_iff]
    intro x hx
    obtain ⟨j, hj, rfl⟩ := List.mem_iff_getElem.1 hx
    have := h2 j hj
    unfold nth at this
    rwa [List.getD_eq_getElem?_getD, List.getElem?_eq_getElem hj] at this
  rw [this]
def Each (M : Nat) (fs : List Fl) : Prop := ∀ p ∈ fs, p.1.length ≤ M ∧ p.2.length ≤ M
theorem Each.at {M : Nat} {fs : List Fl} (h : Each M fs) (k : Nat) (hk : k < fs.length) : (nth fs k).1.length ≤ M ∧ (nth fs k).2.length ≤ M := by
  refine h _ ?_
  unfold nth
  rw [List.getD_eq_getElem?_getD, List.getElem?_eq_getElem hk]
  exact List.getElem_mem hk
set_option maxHeartbeats 400000 in
theorem named_any (s : ByteArray) (w : World) :
    Calls Tryz.prog 210 #[.string s] w fun e w' => e = .returned (.func (.func 222) #[] #[.pointer (some ⟨w.heap.size, 0, none⟩)]) ∧ w' = w.alloc (.cells #[.string s] 9) := by
  go_enter Tryz.func210, Tryz.ntmps210
  go_wp2
  go_ret
  exact ⟨rfl, rfl⟩
set_option maxRecDepth 100000 in
set_option maxHeartbeats 1000000 in
theorem named1_any (n v s : List UInt8) (hn : n.length ≤ maxLen) (hs : s.length ≤ maxLen) (B : Nat) (w : World) (hc : w.cell? ⟨B, 0, none⟩ = some (.string (str s))) :
    Calls Tryz.prog 222 #[.agg #[.string (str n), .string (str v)], .pointer (some ⟨B, 0, none⟩)] w fun e w' => e = .returned (.bool (alike s (n, v))) ∧ Below w.heap.size w w' := by
  obtain ⟨w2, hw2⟩ : ∃ w2, w2 = w.alloc (.cells #[.string (str n), .string (str v)] 63) := ⟨_, rfl⟩
  have R1 : w2.heap[w.heap.size]? = some (.cells #[.string (str n), .string (str v)] 63 (0, 0)) := by
    rw [hw2]; exact heap_alloc_new w _
  have hb2 : Below w.heap.size w w2 := by rw [hw2]; exact (Below.refl _ w).alloc (Nat.le_refl _) _
  have c0 := Lib.cell_of_heap R1 0
  simp at c0
  have hcB : w2.cell? ⟨B, 0, none⟩ = some (.string (str s)) := by rw [hb2.cell (World.block_lt_of_cell? w _ hc)]; exact hc
  have HS : Hid (Calls Tryz.prog 58 #[.string (str n), .string (str s)] w2 fun e w' => e = .returned (.bool (alike s (n, v))) ∧ Below w2.heap.size w2 w') := by
    have h := Same_any (str n) (str s) (by rw [str_size]; exact hn) (by rw [str_size]; exact hs) w2
    rw [low_alike] at h
    exact h
  have HB2 : Hid (Below w.heap.size w w2) := hb2
  generalize str n = N at *
  generalize str s = S at *
  generalize str v = V at *
  generalize alike s (n, v) = b at *
  clear R1 hb2 hc
  subst hw2
  go_enter Tryz.func222, Tryz.ntmps222
  go_wp2_with fail
  refine HS.out.mono ?_
  rintro e w3 ⟨rfl, hb3⟩
  have HB3 : Hid (Below w.heap.size w w3) := bel_trans HB2.out hb3
  clear hb3
  go_wp2
  go_ret
  exact ⟨rfl, HB3.out⟩
set_option maxRecDepth 100000 in
set_option maxHeartbeats 2000000 in
theorem IndexFunc_any (v : Value) (fs : List Fl) (s : List UInt8) (hs : s.length ≤ maxLen) (hM : Each maxLen fs) (hl : fs.length ≤ 4294967296) (B : Nat) (w : World) (hrd : RdF v fs w) (hc : w.cell? ⟨B, 0, none⟩ = some (.string (str s))) :
    Calls Tryz.prog 57 #[v, .func (.func 222) #[] #[.pointer (some ⟨B, 0, none⟩)]] w fun e w' => e = .returned (.int .i64 (idxZ s fs)) ∧ Below w.heap.size w w' := by
  have HR : Hid (RdF v fs w) := hrd
  have HC : Hid (w.cell? ⟨B, 0, none⟩ = some (.string (str s))) := hc
  have HM : Hid (Each maxLen fs) := hM
  have HS : Hid (s.length ≤ maxLen) := hs
  obtain ⟨a, c, rfl, _⟩ := hrd
  clear hc hM hs
  go_enter Tryz.func57, Tryz.ntmps57
  go_wp2
  go_loopw [8] (fun i wr => ∃ k : Nat, k ≤ fs.length ∧ i = .int .i64 k ∧ Hid (∀ j, j < k → alike s (nth fs j) = false) ∧ Hid (Below w.heap.size w wr)) (fun i _ => fs.length - (intOf i).toNat)
  case atStart => exact ⟨0, Nat.zero_le _, rfl, (fun j hj => by omega : ∀ j, j < 0 → _), Below.refl _ _⟩
  case round =>
    obtain ⟨k, hk, rfl, hall, hbl⟩ := hrel
    by_cases hlt : k < fs.length
    · obtain ⟨a', c', e', hcs⟩ := HR.out.below hbl.out
      injection e' with e1 _ e2
      subst e1 e2
      rcases hcs with h | ⟨g, o, rfl, hlc, hcell⟩
      · rw [h] at hlt; simp at hlt
      obtain ⟨p0, p1⟩ := hcell k hlt
      clear hcell
      have HN : Hid (Calls Tryz.prog 222 #[.agg #[.string (str (nth fs k).1), .string (str (nth fs k).2)], .pointer (some ⟨B, 0, none⟩)] wr fun e w' => e = .returned (.bool (alike s (nth fs k))) ∧ Below wr.heap.size wr w') :=
        named1_any _ _ s (HM.out.at k hlt).1 HS.out B wr (by rw [hbl.out.cell (World.block_lt_of_cell? w _ HC.out)]; exact HC.out)
      have HT : alike s (nth fs k) = true → Hid (idxZ s fs = k) := fun h => idxZ_at hlt h hall.out
      have HF : alike s (nth fs k) = false → Hid (∀ j, j < k + 1 → alike s (nth fs j) = false) := fun h j hj => by
        by_cases hjk : j = k
        · subst hjk; exact h
        · exact hall.out j (by omega)
      generalize str (nth fs k).1 = X at p0 HN
      generalize str (nth fs k).2 = Y at p1 HN
      generalize alike s (nth fs k) = b at HN HT HF
      cases b with
      | true =>
        have HT2 := HT rfl
        clear HT HF
        go_wp2_with fail
        refine HN.out.mono ?_
        rintro e w2 ⟨rfl, hb2⟩
        have HB2 : Hid (Below w.heap.size w w2) := bel_trans hbl.out hb2
        clear hb2
        go_wp2
        go_ret
        exact ⟨ret_int HT2.out.symm, HB2.out⟩
      | false =>
        have HF2 := HF rfl
        clear HT HF
        go_wp2_with fail
        refine HN.out.mono ?_
        rintro e w2 ⟨rfl, hb2⟩
        have HB2 : Hid (Below w.heap.size w w2) := bel_trans hbl.out hb2
        clear hb2
        go_wp2
        go_roundw
        case rel => exact ⟨k + 1, by omega, by go_num, HF2, HB2⟩
        case measure => simp [intOf]; omega
    · have HE : Hid (idxZ s fs = -1) := idxZ_none (fun j hj => hall.out j (by omega))
      go_wp2
      go_ret
      exact ⟨ret_int HE.out.symm, hbl.out⟩
def findF (s : List UInt8) (fs : List Fl) : List UInt8 × Bool := match fs.find? (alike s) with | some p => (p.2, true) | none => ([], false)
theorem idx_find (s : List UInt8) (fs : List Fl) : (∃ k : Nat, k < fs.length ∧ idxZ s fs = k ∧ findF s fs = ((nth fs k).2, true)) ∨ (idxZ s fs = -1 ∧ findF s fs = ([], false)) := by
  unfold idxZ findF
  cases h : fs.findIdx? (alike s) with
  | none =>
    right
    rw [List.findIdx?_eq_none_iff] at h
    have : fs.find? (alike s) = none := by rw [List.find?_eq_none]; intro x hx; simpa using h x hx
    rw [this]
    exact ⟨rfl, rfl⟩
  | some k =>
    left
    rw [List.findIdx?_eq_some_iff_getElem] at h
    obtain ⟨hk, h1, h2⟩ := h
    refine ⟨k, hk, rfl, ?_⟩
    have : fs.find? (alike s) = some fs[k] := by
      rw [List.find?_eq_some_iff_getElem]
      exact ⟨h1, k, hk, rfl, fun j hj => by simpa using h2 j hj⟩
    rw [this]
    unfold nth
    rw [List.getD_eq_getElem?_getD, List.getElem?_eq_getElem hk]
    rfl
set_option maxRecDepth 100000 in
set_option maxHeartbeats 1000000 in
theorem Find_any (v : Value) (fs : List Fl) (s : List UInt8) (hs : s.length ≤ maxLen) (hM : Each maxLen fs) (hl : fs.length ≤ 4294967296) (w : World) (hrd : RdF v fs w) :
    Calls Tryz.prog 193 #[v, .string (str s)] w fun e w' => e = .returned (.tuple #[.string (str (findF s fs).1), .bool (findF s fs).2]) ∧ Below w.heap.size w w' := by
  have hb1 : Below w.heap.size w (w.alloc (.cells #[.string (str s)] 9)) := (Below.refl _ w).alloc (Nat.le_refl _) _
  have HI : Hid (Calls _ _ _ _ _) := IndexFunc_any v fs s hs hM hl w.heap.size (w.alloc (.cells #[.string (str s)] 9)) (hrd.below hb1) (by simp)
  have HR : Hid (RdF v fs w) := hrd
  have HB1 : Hid (Below _ _ _) := hb1
  have HN : Hid (Calls _ _ _ _ _) := named_any (str s) w
  obtain ⟨a, c, rfl, _⟩ := hrd
  clear hM hs hb1
  generalize str s = S at *
  rcases idx_find s fs with ⟨k, hk, e1, e2⟩ | ⟨e1, e2⟩
  · rw [e1] at HI
    rw [e2]
    dsimp only
    clear e1 e2
    generalize hY : str (nth fs k).2 = Y
    have HY : Hid (_ = Y) := hY
    clear hY
    go_enter Tryz.func193, Tryz.ntmps193
    go_wp2_with fail
    refine HN.out.mono ?_
    rintro e w1 ⟨rfl, rfl⟩
    go_wp2_with fail
    refine HI.out.mono ?_
    rintro e w2 ⟨rfl, hb2⟩
    have HB2 : Hid (Below w.heap.size w w2) := bel_trans HB1.out hb2
    clear hb2
    obtain ⟨a', c', e', hcs⟩ := HR.out.below HB2.out
    injection e' with e1 _ e2
    subst e1 e2
    rcases hcs with h | ⟨g, o, rfl, hlc, hcell⟩
    · rw [h] at hk; simp at hk
    obtain ⟨p0, p1⟩ := hcell k hk
    clear hcell p0
    rw [HY.out] at p1
    go_wp2
    go_ret2
    exact ⟨rfl, HB2.out⟩
  · rw [e1] at HI
    rw [e2]
    dsimp only
    clear e1 e2
    go_enter Tryz.func193, Tryz.ntmps193
    go_wp2_with fail
    refine HN.out.mono ?_
    rintro e w1 ⟨rfl, rfl⟩
    go_wp2_with fail
    refine HI.out.mono ?_
    rintro e w2 ⟨rfl, hb2⟩
    have HB2 : Hid (Below w.heap.size w w2) := bel_trans HB1.out hb2
    clear hb2
    go_wp2
    go_ret2
    exact ⟨rfl, HB2.out⟩
end Fd
end Go.Proofs.YtcelekfokbdmfaaGreatDoor
set_option linter.unusedVariables false
set_option linter.unusedSimpArgs false
namespace Go.Proofs.YtcelekfokbdmfaaGreatDoor
open Go.RowKit Go.Shelf
namespace Fd
open Oc Tg
theorem pl_F {l : List UInt8} (hb : blank0 l = false) (hh : has 58 l = true) (hn : isName (cutA 58 l) = true) (hf : isFld (cutB 58 l) = true) (h8 : (trim (cutB 58 l)).length ≤ 8192) : parseL l = ((cutA 58 l, trim (cutB 58 l)), 0, 0) := by
  unfold parseL
  rw [hb, hh, hn, hf, if_pos h8]
  rfl
theorem len_AB {l : List UInt8} (hh : has 58 l = true) : l.length = (cutA 58 l).length + 1 + (cutB 58 l).length := by
  have := congrArg List.length (cut_app 58 l hh)
  simp at this
  omega
def findZ (c : UInt8) (l : List UInt8) : Int := if has c l then ((cutA c l).length : Int) else -1
end Fd
end Go.Proofs.YtcelekfokbdmfaaGreatDoor
set_option linter.unusedVariables false
set_option linter.unusedSimpArgs false
namespace Go.Proofs.YtcelekfokbdmfaaGreatDoor
open Go.RowKit Go.Shelf
namespace Fd
open Oc Tg
def parseT : Nat → List UInt8 → Nat → List Fl → List Fl × Nat × Int
  | 0, _, _, _ => ([], 0, 0)
  | f + 1, l, at_, acc =>
    if l = [] then (acc, 0, 0)
    else if Lib.index l [13, 10] < 0 then ([], at_ + l.length, 64)
    else if acc.length = 100 then ([], at_, 65)
    else if (parseL (l.take (Lib.index l [13, 10]).toNat)).2.2 = 0 then parseT f (l.drop ((Lib.index l [13, 10]).toNat + 2)) (at_ + ((Lib.index l [13, 10]).toNat + 2)) (acc ++ [(parseL (l.take (Lib.index l [13, 10]).toNat)).1])
    else ([], at_ + (parseL (l.take (Lib.index l [13, 10]).toNat)).2.1, (parseL (l.take (Lib.index l [13, 10]).toNat)).2.2)
theorem parseT_succ (f : Nat) (l : List UInt8) (at_ : Nat) (acc : List Fl) : parseT (f + 1) l at_ acc =
    if l = [] then (acc, 0, 0)
    else if Lib.index l [13, 10] < 0 then ([], at_ + l.length, 64)
    else if acc.length = 100 then ([], at_, 65)
    else if (parseL (l.take (Lib.index l [13, 10]).toNat)).2.2 = 0 then parseT f (l.drop ((Lib.index l [13, 10]).toNat + 2)) (at_ + ((Lib.index l [13, 10]).toNat + 2)) (acc ++ [(parseL (l.take (Lib.index l [13, 10]).toNat)).1])
    else ([], at_ + (parseL (l.take (Lib.index l [13, 10]).toNat)).2.1, (parseL (l.take (Lib.index l [13, 10]).toNat)).2.2) := rfl
def parseText (l : List UInt8) : List Fl × Nat × Int := parseT (l.length + 1) l 0 []
theorem parseL_le (l : List UInt8) : (parseL l).2.1 ≤ l.length + 8192 := by
  unfold parseL
  split
  · simp
  · split
    · next h =>
      have hl := len_AB h
      have h1 := lead_le (cutB 58 l)
      have h2 := fnot_le fieldB (cutB 58 l)
      have h3 := fnot_le tokB (cutA 58 l)
      split
      · split
        · split
          · simp
          · dsimp only; omega
        · dsimp only; omega
      · dsimp only; omega
    · dsimp only; omega
theorem index2_room (l : List UInt8) (h : 0 ≤ Lib.index l [13, 10]) : (Lib.index l [13, 10]).toNat + 2 ≤ l.length := by
  have := Lib.index_room l [13, 10] h
  simp at this
  omega
structure Mid (l : List UInt8) (at_ : Nat) (acc : List Fl) : Prop where
  le : at_ ≤ l.length
  few : acc.length ≤ 100
  ex : ∃ f, l.length - at_ < f ∧ parseText l = parseT f (l.drop at_) at_ acc
theorem drop_ne {l : List UInt8} {k : Nat} (h : k < l.length) : l.drop k ≠ [] := by
  intro e
  have := congrArg List.length e
  simp at this
  omega
theorem Mid.last {l : List UInt8} {at_ : Nat} {acc : List Fl} (h : Mid l at_ acc) (he : ¬ at_ < l.length) : parseText l = (acc, 0, 0) := by
  obtain ⟨f, hf, e⟩ := h.ex
  have hd : l.drop at_ = [] := List.drop_eq_nil_of_le (by omega)
  rw [e, hd]
  cases f with
  | zero => omega
  | succ f => rfl
theorem Mid.many {l : List UInt8} {at_ : Nat} {acc : List Fl} (h : Mid l at_ acc) (he : at_ < l.length) (hi : ¬ Lib.index (l.drop at_) [13, 10] < 0) (ha : acc.length = 100) : parseText l = ([], at_, 65) := by
  obtain ⟨f, hf, e⟩ := h.ex
  cases f with
  | zero => omega
  | succ f =>
    rw [e, parseT_succ, if_neg (drop_ne he), if_neg hi, if_pos ha]
theorem Mid.bad {l : List UInt8} {at_ : Nat} {acc : List Fl} (h : Mid l at_ acc) (he : at_ < l.length) (hi : ¬ Lib.index (l.drop at_) [13, 10] < 0) (ha : ¬ acc.length = 100) {x : (List UInt8 × List UInt8) × Nat × Int}
    (hx : parseL ((l.drop at_).take (Lib.index (l.drop at_) [13, 10]).toNat) = x) (hz : x.2.2 ≠ 0) : parseText l = ([], at_ + x.2.1, x.2.2) := by
  obtain ⟨f, hf, e⟩ := h.ex
  cases f with
  | zero => omega
  | succ f =>
    rw [e, parseT_succ, if_neg (drop_ne he), if_neg hi, if_neg ha, hx, if_neg hz]
theorem Mid.next {l : List UInt8} {at_ : Nat} {acc : List Fl} (h : Mid l at_ acc) (he : at_ < l.length) (hi : ¬ Lib.index (l.drop at_) [13, 10] < 0) (ha : ¬ acc.length = 100) {x : (List UInt8 × List UInt8) × Nat × Int}
    (hx : parseL ((l.drop at_).take (Lib.index (l.drop at_) [13, 10]).toNat) = x) (hz : x.2.2 = 0) : Mid l (at_ + ((Lib.index (l.drop at_) [13, 10]).toNat + 2)) (acc ++ [x.1]) := by
  obtain ⟨f, hf, e⟩ := h.ex
  have hr := index2_room (l.drop at_) (by omega)
  rw [List.length_drop] at hr
  refine ⟨by omega, by have := h.few; simp; omega, ?_⟩
  cases f with
  | zero => omega
  | succ f =>
    refine ⟨f, by omega, ?_⟩
    rw [e, parseT_succ, if_neg (drop_ne he), if_neg hi, if_neg ha, hx, if_pos hz, List.drop_drop]
theorem occ2 (l : List UInt8) (i : Nat) (h : i + 1 < l.length) : Lib.occAt l [13, 10] i = (l.getD i 0 == 13 && l.getD (i + 1) 0 == 10) := by
  unfold Lib.occAt
  rw [List.drop_eq_getElem_cons (show i < l.length by omega), List.drop_eq_getElem_cons h, List.getD_eq_getElem?_getD, List.getElem?_eq_getElem (show i < l.length by omega), List.getD_eq_getElem?_getD, List.getElem?_eq_getElem h]
  simp [List.isPrefixOf, Bool.beq_comm, Option.getD_some]
def endZ (l : List UInt8) (at_ : Nat) : Int := if Lib.index (l.drop at_) [13, 10] < 0 then -1 else (at_ : Int) + Lib.index (l.drop at_) [13, 10]
end Fd
end Go.Proofs.YtcelekfokbdmfaaGreatDoor
set_option linter.unusedVariables false
set_option linter.unusedSimpArgs false
namespace Go.Proofs.YtcelekfokbdmfaaGreatDoor
open Go.RowKit Go.Shelf
namespace Fd
open Oc Tg
theorem OwnF.form {T B : Nat} {v : Value} {t : List Fl} {w : World} (h : OwnF T B v t w) : ∃ a c, v = .slice a t.length c := by
  rcases h.2 with ⟨rfl, h0⟩ | ⟨g, cap, cur, rfl, _⟩
  · exact ⟨none, 0, by rw [h0]⟩
  · exact ⟨_, _, rfl⟩
end Fd
end Go.Proofs.YtcelekfokbdmfaaGreatDoor
