/-
  tag: Alike, Strong; what a condition of tags meets.
-/
import Derived.Test.YtjngpafokkjkdaaGreatDoorMgH
import Derived.Test.YtjngpafokkjkdaaGreatDoorFLs
import Derived.BigQuiet
import Derived.Deep.QuietTactic
set_option linter.unusedVariables false
set_option linter.unusedSimpArgs false
namespace Go.Proofs.YtjngpafokkjkdaaGreatDoor
open Go.RowKit Go.Shelf
namespace Tt
open Oc Tg

def lkA (t u : Tg1) : Bool := decide (t.2 = u.2)
def lkS (t u : Tg1) : Bool := !t.1 && (!u.1 && decide (t.2 = u.2))
theorem same_text (a b : List UInt8) : ((str a).toList == (str b).toList) = decide (a = b) := by
  rw [Lib.toList_data, Lib.toList_data, str_list, str_list, Bool.eq_iff_iff, beq_iff_eq, decide_eq_true_iff]

set_option maxRecDepth 100000 in
set_option maxHeartbeats 1000000 in
theorem Alike_any (t u : Tg1) (w : World) :
    Calls Tryz.prog 37 #[.agg #[.bool t.1, .string (str t.2)], .agg #[.bool u.1, .string (str u.2)]] w fun e w' => e = .returned (.bool (lkA t u)) ∧ Below w.heap.size w w' := by
  have HE : Hid (_ = lkA t u) := same_text t.2 u.2
  obtain ⟨tb, tl⟩ := t
  obtain ⟨ub, ul⟩ := u
  dsimp only at *
  generalize str tl = X at *
  generalize str ul = Y at *
  go_enter Tryz.func37, Tryz.ntmps37
  go_wp2
  go_ret
  refine ⟨ret_bool HE.out, ?_⟩
  repeat (first | exact Below.refl _ _ | refine Below.alloc ?_ (by simp) _)

set_option maxRecDepth 100000 in
set_option maxHeartbeats 1000000 in
theorem Strong_any (t u : Tg1) (w : World) :
    Calls Tryz.prog 20 #[.agg #[.bool t.1, .string (str t.2)], .agg #[.bool u.1, .string (str u.2)]] w fun e w' => e = .returned (.bool (lkS t u)) ∧ Below w.heap.size w w' := by
  have HA : Hid (∀ w, Calls _ _ _ w _) := fun w => Alike_any t u w
  have HE : Hid (lkS t u = (!t.1 && (!u.1 && lkA t u))) := (rfl : _ = _)
  have HB : Hid (∀ a b, Below w.heap.size w ((w.alloc a).alloc b)) := fun a b => ((Below.refl _ w).alloc (Nat.le_refl _) _).alloc (by simp) _
  generalize lkA t u = z at *
  generalize lkS t u = y at *
  obtain ⟨tb, tl⟩ := t
  obtain ⟨ub, ul⟩ := u
  dsimp only at *
  generalize str tl = X at *
  generalize str ul = Y at *
  cases tb with
  | true =>
    go_enter Tryz.func20, Tryz.ntmps20
    go_wp2
    go_ret
    exact ⟨ret_bool HE.out.symm, HB.out _ _⟩
  | false =>
    cases ub with
    | true =>
      go_enter Tryz.func20, Tryz.ntmps20
      go_wp2
      go_ret
      exact ⟨ret_bool HE.out.symm, HB.out _ _⟩
    | false =>
      go_enter Tryz.func20, Tryz.ntmps20
      go_wp2_with fail
      refine (HA.out _).mono ?_
      rintro e w2 ⟨rfl, hb2⟩
      go_wp2
      go_ret
      exact ⟨ret_bool (by rw [HE.out]; simp), bel_trans (HB.out _ _) hb2⟩

/-- The place of the first that is like it. -/
def idxT (f : Tg1 → Bool) (ts : List Tg1) : Int := match ts.findIdx? f with | some k => (k : Int) | none => -1
theorem idxT_at {f : Tg1 → Bool} {ts : List Tg1} {k : Nat} (hk : k < ts.length) (h1 : f (nth ts k) = true) (h2 : ∀ j, j < k → f (nth ts j) = false) : idxT f ts = k := by
  unfold idxT
  have : ts.findIdx? f = some k := by
    rw [List.findIdx?_eq_some_iff_getElem]
    refine ⟨hk, ?_, fun j hj => ?_⟩
    · have := h1
      unfold nth at this
      rwa [List.getD_eq_getElem?_getD, List.getElem?_eq_getElem hk] at this
    · have := h2 j hj
      unfold nth at this
      rw [List.getD_eq_getElem?_getD, List.getElem?_eq_getElem (by omega)] at this
      simpa using this
  rw [this]
theorem idxT_none {f : Tg1 → Bool} {ts : List Tg1} (h2 : ∀ j, j < ts.length → f (nth ts j) = false) : idxT f ts = -1 := by
  unfold idxT
  have : ts.findIdx? f = none := by
    rw [List.findIdx?_eq_none_iff]
    intro x hx
    obtain ⟨j, hj, rfl⟩ := List.mem_iff_getElem.1 hx
    have := h2 j hj
    unfold nth at this
    rwa [List.getD_eq_getElem?_getD, List.getElem?_eq_getElem hj] at this
  rw [this]
theorem idxT_any (f : Tg1 → Bool) (ts : List Tg1) : decide (0 ≤ idxT f ts) = ts.any f := by
  unfold idxT
  cases h : ts.findIdx? f with
  | none =>
    rw [List.findIdx?_eq_none_iff] at h
    have : ts.any f = false := by rw [List.any_eq_false]; intro x hx; rw [h x hx]; simp
    rw [this]
    rfl
  | some k =>
    rw [List.findIdx?_eq_some_iff_getElem] at h
    obtain ⟨hk, h1, _⟩ := h
    have : ts.any f = true := by rw [List.any_eq_true]; exact ⟨_, List.getElem_mem hk, h1⟩
    rw [this]
    simp
/-- The two boxes of a condition's walk, and the tag of the state. -/
structure Box (fn : Nat) (w : World) (bl bp g : Nat) (own : Tg1) : Prop where
  c1 : w.cell? ⟨bl, 0, none⟩ = some (.func (.func fn) #[] #[])
  c2 : w.cell? ⟨bp, 0, none⟩ = some (.pointer (some ⟨g, 0, none⟩))
  c3 : w.cell? ⟨g, 3, none⟩ = some (.bool own.1)
  c4 : w.cell? ⟨g, 4, none⟩ = some (.string (str own.2))
theorem Box.below {fn : Nat} {w w' : World} {bl bp g : Nat} {own : Tg1} (h : Box fn w bl bp g own) (b : Below w.heap.size w w') : Box fn w' bl bp g own :=
  ⟨by rw [b.cell (World.block_lt_of_cell? w _ h.c1)]; exact h.c1, by rw [b.cell (World.block_lt_of_cell? w _ h.c2)]; exact h.c2, by rw [b.cell (World.block_lt_of_cell? w _ h.c3)]; exact h.c3, by rw [b.cell (World.block_lt_of_cell? w _ h.c4)]; exact h.c4⟩

set_option maxRecDepth 100000 in
set_option maxHeartbeats 2000000 in
theorem meets1_S (t own : Tg1) (bl bp g : Nat) (w : World) (hx : Box 20 w bl bp g own) :
    Calls Tryz.prog 70 #[.agg #[.bool t.1, .string (str t.2)], .pointer (some ⟨bl, 0, none⟩), .pointer (some ⟨bp, 0, none⟩)] w fun e w' => e = .returned (.bool (lkS t own)) ∧ Below w.heap.size w w' := by
  obtain ⟨w1, hw1⟩ : ∃ w1, w1 = w.alloc (.cells #[.bool t.1, .string (str t.2)] 26) := ⟨_, rfl⟩
  have hb1 : Below w.heap.size w w1 := by rw [hw1]; exact (Below.refl _ w).alloc (Nat.le_refl _) _
  have HB1 : Hid (Below w.heap.size w w1) := hb1
  have HBd : Hid (Below w.heap.size w w1.drew) := bel_trans hb1 ⟨rfl, rfl, rfl, Nat.le_refl _, fun _ _ => rfl⟩
  have hT : TB 26 w1 w.heap.size t := by rw [hw1]; exact heap_alloc_new w _
  have hx1 := hx.below hb1
  have d1 : w1.drew.cell? ⟨bl, 0, none⟩ = _ := hx1.c1
  have d2 : w1.drew.cell? ⟨bp, 0, none⟩ = _ := hx1.c2
  have d3 : w1.drew.cell? ⟨g, 3, none⟩ = _ := hx1.c3
  have d4 : w1.drew.cell? ⟨g, 4, none⟩ = _ := hx1.c4
  have d5 : w1.drew.cell? ⟨w.heap.size, 0, none⟩ = _ := hT.c0
  have d6 : w1.drew.cell? ⟨w.heap.size, 1, none⟩ = _ := hT.c1
  have HL : Hid (∀ w, Calls _ _ _ w _) := fun w => Strong_any t own w
  clear hx hx1 hT hb1
  generalize lkS t own = z at *
  obtain ⟨tb, tl⟩ := t
  obtain ⟨ub, ul⟩ := own
  dsimp only at *
  generalize str tl = X at *
  generalize str ul = Y at *
  go_enter Tryz.func70, Tryz.ntmps70
  go_wp2_with fail
  rw [← hw1]
  clear hw1
  go_region_with (go_at_call 20; refine (HL.out _).mono ?_; rintro e w3 ⟨rfl, hb3⟩)
  all_goals
    go_wp2
    go_ret
    exact ⟨rfl, bel_trans HBd.out hb3⟩

set_option maxRecDepth 100000 in
set_option maxHeartbeats 2000000 in
theorem index_S (v : Value) (ts : List Tg1) (own : Tg1) (hl : ts.length ≤ 4294967296) (bl bp g : Nat) (w : World) (hrd : RdT v ts w) (hx : Box 20 w bl bp g own) :
    Calls Tryz.prog 98 #[v, .func (.func 70) #[] #[.pointer (some ⟨bl, 0, none⟩), .pointer (some ⟨bp, 0, none⟩)]] w fun e w' => e = .returned (.int .i64 (idxT (fun t => lkS t own) ts)) ∧ Below w.heap.size w w' := by
  have HR : Hid (RdT v ts w) := hrd
  have HX : Hid (Box 20 w bl bp g own) := hx
  obtain ⟨a, c, rfl, _⟩ := hrd
  clear hx
  go_enter Tryz.func98, Tryz.ntmps98
  go_wp2
  go_loopw [8] (fun i wr => ∃ k : Nat, k ≤ ts.length ∧ i = .int .i64 k ∧ Hid (∀ j, j < k → lkS (nth ts j) own = false) ∧ Hid (Below w.heap.size w wr)) (fun i _ => ts.length - (intOf i).toNat)
  case atStart => exact ⟨0, Nat.zero_le _, rfl, (fun j hj => by omega : ∀ j, j < 0 → _), Below.refl _ _⟩
  case round =>
    obtain ⟨k, hk, rfl, hall, hbl⟩ := hrel
    by_cases hlt : k < ts.length
    · obtain ⟨a', c', e', hcs⟩ := HR.out.below hbl.out
      injection e' with e1 _ e2
      subst e1 e2
      rcases hcs with h | ⟨gg, o, rfl, hlc, hcell⟩
      · rw [h] at hlt; simp at hlt
      obtain ⟨p0, p1⟩ := hcell k hlt
      clear hcell
      have HN : Hid (Calls Tryz.prog 70 #[.agg #[.bool (nth ts k).1, .string (str (nth ts k).2)], .pointer (some ⟨bl, 0, none⟩), .pointer (some ⟨bp, 0, none⟩)] wr fun e w' => e = .returned (.bool (lkS (nth ts k) own)) ∧ Below wr.heap.size wr w') := meets1_S _ own bl bp g wr (HX.out.below hbl.out)
      have HT : lkS (nth ts k) own = true → Hid (idxT (fun t => lkS t own) ts = k) := fun h => idxT_at hlt h hall.out
      have HF : lkS (nth ts k) own = false → Hid (∀ j, j < k + 1 → lkS (nth ts j) own = false) := fun h j hj => by
        by_cases hjk : j = k
        · subst hjk; exact h
        · exact hall.out j (by omega)
      generalize (nth ts k).1 = X at p0 HN
      generalize str (nth ts k).2 = Y at p1 HN
      generalize lkS (nth ts k) own = b at HN HT HF
      cases b with
      | true =>
        have HT2 := HT rfl
        clear HT HF
        go_wp2_with fail
        refine HN.out.mono ?_
        rintro e w2 ⟨rfl, hb2⟩
        have HB2 : Hid (Below w.heap.size w w2) := bel_trans hbl.out hb2
        clear hb2
        go_wp2
        go_ret
        exact ⟨ret_int HT2.out.symm, HB2.out⟩
      | false =>
        have HF2 := HF rfl
        clear HT HF
        go_wp2_with fail
        refine HN.out.mono ?_
        rintro e w2 ⟨rfl, hb2⟩
        have HB2 : Hid (Below w.heap.size w w2) := bel_trans hbl.out hb2
        clear hb2
        go_wp2
        go_roundw
        case rel => exact ⟨k + 1, by omega, by go_num, HF2, HB2⟩
        case measure => simp [intOf]; omega
    · have HE : Hid (idxT (fun t => lkS t own) ts = -1) := idxT_none (fun j hj => hall.out j (by omega))
      go_wp2
      go_ret
      exact ⟨ret_int HE.out.symm, hbl.out⟩

set_option maxHeartbeats 1000000 in
theorem contains_S (v : Value) (ts : List Tg1) (own : Tg1) (hl : ts.length ≤ 4294967296) (bl bp g : Nat) (w : World) (hrd : RdT v ts w) (hx : Box 20 w bl bp g own) :
    Calls Tryz.prog 71 #[v, .func (.func 70) #[] #[.pointer (some ⟨bl, 0, none⟩), .pointer (some ⟨bp, 0, none⟩)]] w fun e w' => e = .returned (.bool (ts.any (fun t => lkS t own))) ∧ Below w.heap.size w w' := by
  have HI : Hid (Calls _ _ _ _ _) := index_S v ts own hl bl bp g w hrd hx
  have HE : Hid (_ = _) := idxT_any (fun t => lkS t own) ts
  generalize ts.any (fun t => lkS t own) = b at *
  generalize idxT (fun t => lkS t own) ts = n at *
  clear hrd hx
  go_enter Tryz.func71, Tryz.ntmps71
  go_wp2_with fail
  refine HI.out.mono ?_
  rintro e w2 ⟨rfl, hb2⟩
  go_wp2
  go_ret
  exact ⟨ret_bool HE.out, hb2⟩

set_option maxRecDepth 100000 in
set_option maxHeartbeats 2000000 in
theorem meets1_A (t own : Tg1) (bl bp g : Nat) (w : World) (hx : Box 37 w bl bp g own) :
    Calls Tryz.prog 70 #[.agg #[.bool t.1, .string (str t.2)], .pointer (some ⟨bl, 0, none⟩), .pointer (some ⟨bp, 0, none⟩)] w fun e w' => e = .returned (.bool (lkA t own)) ∧ Below w.heap.size w w' := by
  obtain ⟨w1, hw1⟩ : ∃ w1, w1 = w.alloc (.cells #[.bool t.1, .string (str t.2)] 26) := ⟨_, rfl⟩
  have hb1 : Below w.heap.size w w1 := by rw [hw1]; exact (Below.refl _ w).alloc (Nat.le_refl _) _
  have HB1 : Hid (Below w.heap.size w w1) := hb1
  have HBd : Hid (Below w.heap.size w w1.drew) := bel_trans hb1 ⟨rfl, rfl, rfl, Nat.le_refl _, fun _ _ => rfl⟩
  have hT : TB 26 w1 w.heap.size t := by rw [hw1]; exact heap_alloc_new w _
  have hx1 := hx.below hb1
  have d1 : w1.drew.cell? ⟨bl, 0, none⟩ = _ := hx1.c1
  have d2 : w1.drew.cell? ⟨bp, 0, none⟩ = _ := hx1.c2
  have d3 : w1.drew.cell? ⟨g, 3, none⟩ = _ := hx1.c3
  have d4 : w1.drew.cell? ⟨g, 4, none⟩ = _ := hx1.c4
  have d5 : w1.drew.cell? ⟨w.heap.size, 0, none⟩ = _ := hT.c0
  have d6 : w1.drew.cell? ⟨w.heap.size, 1, none⟩ = _ := hT.c1
  have HL : Hid (∀ w, Calls _ _ _ w _) := fun w => Alike_any t own w
  clear hx hx1 hT hb1
  generalize lkA t own = z at *
  obtain ⟨tb, tl⟩ := t
  obtain ⟨ub, ul⟩ := own
  dsimp only at *
  generalize str tl = X at *
  generalize str ul = Y at *
  go_enter Tryz.func70, Tryz.ntmps70
  go_wp2_with fail
  rw [← hw1]
  clear hw1
  go_region_with (go_at_call 37; refine (HL.out _).mono ?_; rintro e w3 ⟨rfl, hb3⟩)
  all_goals
    go_wp2
    go_ret
    exact ⟨rfl, bel_trans HBd.out hb3⟩

set_option maxRecDepth 100000 in
set_option maxHeartbeats 2000000 in
theorem index_A (v : Value) (ts : List Tg1) (own : Tg1) (hl : ts.length ≤ 4294967296) (bl bp g : Nat) (w : World) (hrd : RdT v ts w) (hx : Box 37 w bl bp g own) :
    Calls Tryz.prog 98 #[v, .func (.func 70) #[] #[.pointer (some ⟨bl, 0, none⟩), .pointer (some ⟨bp, 0, none⟩)]] w fun e w' => e = .returned (.int .i64 (idxT (fun t => lkA t own) ts)) ∧ Below w.heap.size w w' := by
  have HR : Hid (RdT v ts w) := hrd
  have HX : Hid (Box 37 w bl bp g own) := hx
  obtain ⟨a, c, rfl, _⟩ := hrd
  clear hx
  go_enter Tryz.func98, Tryz.ntmps98
  go_wp2
  go_loopw [8] (fun i wr => ∃ k : Nat, k ≤ ts.length ∧ i = .int .i64 k ∧ Hid (∀ j, j < k → lkA (nth ts j) own = false) ∧ Hid (Below w.heap.size w wr)) (fun i _ => ts.length - (intOf i).toNat)
  case atStart => exact ⟨0, Nat.zero_le _, rfl, (fun j hj => by omega : ∀ j, j < 0 → _), Below.refl _ _⟩
  case round =>
    obtain ⟨k, hk, rfl, hall, hbl⟩ := hrel
    by_cases hlt : k < ts.length
    · obtain ⟨a', c', e', hcs⟩ := HR.out.below hbl.out
      injection e' with e1 _ e2
      subst e1 e2
      rcases hcs with h | ⟨gg, o, rfl, hlc, hcell⟩
      · rw [h] at hlt; simp at hlt
      obtain ⟨p0, p1⟩ := hcell k hlt
      clear hcell
      have HN : Hid (Calls Tryz.prog 70 #[.agg #[.bool (nth ts k).1, .string (str (nth ts k).2)], .pointer (some ⟨bl, 0, none⟩), .pointer (some ⟨bp, 0, none⟩)] wr fun e w' => e = .returned (.bool (lkA (nth ts k) own)) ∧ Below wr.heap.size wr w') := meets1_A _ own bl bp g wr (HX.out.below hbl.out)
      have HT : lkA (nth ts k) own = true → Hid (idxT (fun t => lkA t own) ts = k) := fun h => idxT_at hlt h hall.out
      have HF : lkA (nth ts k) own = false → Hid (∀ j, j < k + 1 → lkA (nth ts j) own = false) := fun h j hj => by
        by_cases hjk : j = k
        · subst hjk; exact h
        · exact hall.out j (by omega)
      generalize (nth ts k).1 = X at p0 HN
      generalize str (nth ts k).2 = Y at p1 HN
      generalize lkA (nth ts k) own = b at HN HT HF
      cases b with
      | true =>
        have HT2 := HT rfl
        clear HT HF
        go_wp2_with fail
        refine HN.out.mono ?_
        rintro e w2 ⟨rfl, hb2⟩
        have HB2 : Hid (Below w.heap.size w w2) := bel_trans hbl.out hb2
        clear hb2
        go_wp2
        go_ret
        exact ⟨ret_int HT2.out.symm, HB2.out⟩
      | false =>
        have HF2 := HF rfl
        clear HT HF
        go_wp2_with fail
        refine HN.out.mono ?_
        rintro e w2 ⟨rfl, hb2⟩
        have HB2 : Hid (Below w.heap.size w w2) := bel_trans hbl.out hb2
        clear hb2
        go_wp2
        go_roundw
        case rel => exact ⟨k + 1, by omega, by go_num, HF2, HB2⟩
        case measure => simp [intOf]; omega
    · have HE : Hid (idxT (fun t => lkA t own) ts = -1) := idxT_none (fun j hj => hall.out j (by omega))
      go_wp2
      go_ret
      exact ⟨ret_int HE.out.symm, hbl.out⟩

set_option maxHeartbeats 1000000 in
theorem contains_A (v : Value) (ts : List Tg1) (own : Tg1) (hl : ts.length ≤ 4294967296) (bl bp g : Nat) (w : World) (hrd : RdT v ts w) (hx : Box 37 w bl bp g own) :
    Calls Tryz.prog 71 #[v, .func (.func 70) #[] #[.pointer (some ⟨bl, 0, none⟩), .pointer (some ⟨bp, 0, none⟩)]] w fun e w' => e = .returned (.bool (ts.any (fun t => lkA t own))) ∧ Below w.heap.size w w' := by
  have HI : Hid (Calls _ _ _ _ _) := index_A v ts own hl bl bp g w hrd hx
  have HE : Hid (_ = _) := idxT_any (fun t => lkA t own) ts
  generalize ts.any (fun t => lkA t own) = b at *
  generalize idxT (fun t => lkA t own) ts = n at *
  clear hrd hx
  go_enter Tryz.func71, Tryz.ntmps71
  go_wp2_with fail
  refine HI.out.mono ?_
  rintro e w2 ⟨rfl, hb2⟩
  go_wp2
  go_ret
  exact ⟨ret_bool HE.out, hb2⟩

end Tt
end Go.Proofs.YtjngpafokkjkdaaGreatDoor
