/- Several texts as one. -/
import Derived.Test.YticncpjpkgdnlaaGreatDoorHnB
import Derived.Test.YticncpjpkgdnlaaGreatDoorFBd
import Derived.Laws.EntriesVeiled
import Derived.BigQuiet
import Derived.Deep.RegionHeld3
import Derived.Deep.MidRow
/-
  handle: kindOf at Text and Echo. (written by mkhnc.py)
-/
set_option linter.unusedVariables false
set_option linter.unusedSimpArgs false
set_option maxRecDepth 100000
namespace Go.Proofs.YticncpjpkgdnlaaGreatDoor
open Go.RowKit Go.Shelf
namespace Hn
open Oc Tg _root_.Go.Proofs.YticncpjpkgdnlaaGreatDoor.Fd _root_.Go.Proofs.YticncpjpkgdnlaaGreatDoor.Ck _root_.Go.Proofs.YticncpjpkgdnlaaGreatDoor.Ms

def setL : List Value → Nat → List Value → List Value
  | xs, _, [] => xs
  | xs, o, v :: r => setL (xs.set o v) (o + 1) r
theorem setL_length : ∀ (vs xs : List Value) (o : Nat), (setL xs o vs).length = xs.length
  | [], xs, o => rfl
  | v :: r, xs, o => by unfold setL; rw [setL_length r]; simp
theorem setL_get : ∀ (vs xs : List Value) (o j : Nat), o + vs.length ≤ xs.length → (setL xs o vs)[j]? = if o ≤ j ∧ j < o + vs.length then vs[j - o]? else xs[j]?
  | [], xs, o, j, _ => by unfold setL; rw [if_neg (by simp)]
  | v :: r, xs, o, j, h => by
    simp only [List.length_cons] at h
    unfold setL
    rw [setL_get r (xs.set o v) (o + 1) j (by simp; omega), List.getElem?_set]
    simp only [List.length_cons]
    by_cases h1 : j = o
    · subst h1
      rw [if_neg (by omega), if_pos rfl, if_pos (by omega), if_pos (by omega), Nat.sub_self]
      rfl
    · by_cases h2 : o + 1 ≤ j ∧ j < o + 1 + r.length
      · rw [if_pos h2, if_pos (by omega), show j - o = (j - (o + 1)) + 1 by omega]
        rfl
      · rw [if_neg h2, if_neg (fun e => h1 e.symm), if_neg (by omega)]
theorem setL_all (xs vs : List Value) (h : vs.length = xs.length) : setL xs 0 vs = vs := by
  apply List.ext_getElem?
  intro j
  rw [setL_get vs xs 0 j (by omega)]
  by_cases hj : j < vs.length
  · rw [if_pos (by omega), Nat.sub_zero]
  · rw [if_neg (by omega), List.getElem?_eq_none (by omega), List.getElem?_eq_none (by omega)]
theorem blk_setCells {T : Nat} : ∀ {vs : List Value} {w : World} {b : Nat} {xs : List Value} {o : Nat}, Blk T w b xs → Blk T (w.setCells b o vs) b (setL xs o vs) := by
  intro vs
  induction vs with
  | nil => intro w b xs o h; exact h
  | cons v r ih =>
    intro w b xs o h
    rw [World.setCells]
    exact ih (h.set o v)
theorem but_setCells : ∀ {vs : List Value} {a w : World} {b : Nat} {o : Nat}, But [b] a w → But [b] a (w.setCells b o vs) := by
  intro vs
  induction vs with
  | nil => intro a w b o h; exact h
  | cons v r ih =>
    intro a w b o h
    rw [World.setCells]
    exact ih (h.setCell (p := ⟨b, o, none⟩) (by simp) v)
theorem blk_whole {T : Nat} {vs : List Value} {w : World} {b : Nat} {xs : List Value} (h : Blk T w b xs) (hl : vs.length = xs.length) : Blk T (w.setCells b 0 vs) b vs := by
  have := blk_setCells (vs := vs) (o := 0) h
  rwa [setL_all xs vs hl] at this
theorem blk_there {T : Nat} {w : World} {b : Nat} {cs : List Value} (h : Blk T w b cs) (n : Nat) (hn : n ≤ cs.length) : w.there b 0 n := by
  intro j hj
  refine ⟨?_, h.free _⟩
  rw [Nat.zero_add, h.cell j (List.getElem?_eq_getElem (by omega))]
  rfl
@[reducible] def fv (n : Nat) : Value := .func (.func n) #[] #[]
def kc : List Value := [.nilFunc, .nilFunc, .nilFunc, fv 14, fv 15, fv 16, fv 17, fv 18, fv 19, fv 20, fv 21, fv 22, fv 23, fv 24, fv 25, fv 23, fv 24, fv 26, fv 27, fv 28, fv 29, fv 30, fv 31, fv 32, fv 33, fv 34, fv 35, fv 23, fv 24, fv 36]
theorem kc_one : kc.toArray.all (·.oneCell') = true := all_oneCell_toArray (fun v hv => by simp only [kc, List.mem_cons, List.not_mem_nil, or_false] at hv; rcases hv with rfl | rfl | rfl | rfl | rfl | rfl | rfl | rfl | rfl | rfl | rfl | rfl | rfl | rfl | rfl | rfl | rfl | rfl | rfl | rfl | rfl | rfl | rfl | rfl | rfl | rfl | rfl | rfl | rfl | rfl <;> rfl)
theorem kinds_stored {ops : Array Oper} {rest : List Oper} {op : Oper} {a : Act} {Q : Exit → Act → World → Prop} (w : World) (T T3 : Nat) (z z3 : Array Value) (hz : z.size = 30) (hgd : op.guard = none) (x y : Operand) (ho : op.op = .store T x y)
    (hx : a.eval x = .pointer (some ⟨w.heap.size + 1, 0, none⟩)) (hy : a.eval y = .agg kc.toArray) (hi : (Tryz.prog.info? T).map (·.size) = some 30)
    (h : ∀ W, Below w.heap.size w W → Blk T W (w.heap.size + 1) kc → Blk T3 W w.heap.size z3.toList → w.heap.size < W.heap.size → wpList Tryz.prog ops Q rest (a.put op.dst undef) W) :
    wpList Tryz.prog ops Q (op :: rest) a ((w.alloc (.cells z3 T3)).alloc (.cells z T)) := by
  have hB : Blk T ((w.alloc (.cells z3 T3)).alloc (.cells z T)) (w.heap.size + 1) z.toList := by
    have := heap_alloc_new (w.alloc (.cells z3 T3)) (.cells z T)
    rw [show (w.alloc (.cells z3 T3)).heap.size = w.heap.size + 1 by simp] at this
    exact this
  have hA : Blk T3 ((w.alloc (.cells z3 T3)).alloc (.cells z T)) w.heap.size z3.toList := by
    have h1 : Blk T3 (w.alloc (.cells z3 T3)) w.heap.size z3.toList := heap_alloc_new w (.cells z3 T3)
    exact h1.below ((Below.refl _ _).alloc (Nat.le_refl _) _)
  have hbl : Below w.heap.size w ((w.alloc (.cells z3 T3)).alloc (.cells z T)) := ((Below.refl _ w).alloc (Nat.le_refl _) _).alloc (by simp) _
  have hl : kc.length = 30 := rfl
  have hzl : z.toList.length = 30 := by simpa using hz
  have hbt := but_setCells (vs := kc) (o := 0) (But.refl [w.heap.size + 1] ((w.alloc (.cells z3 T3)).alloc (.cells z T)))
  refine wpList_store_mid hgd T x y ho (w.heap.size + 1) 0 kc.toArray hx hy (blk_there hB _ (by rw [hzl]; exact Nat.le_of_eq rfl)) hi kc_one ?_
  refine h _ (hbl.trans (hbt.below hbl.size (fun x hx => by simp at hx; omega))) (blk_whole hB (by rw [hzl, hl])) (hA.but hbt (by simp)) ?_
  have h3 : w.heap.size + 1 < _ := (blk_whole (vs := kc) hB (by rw [hzl, hl])).lt
  exact Nat.lt_trans (Nat.lt_succ_self _) h3

def set3 (w : World) (g : Nat) (v0 v1 v2 : Value) : World := (((w.setCell ⟨g, 0, none⟩ v0).setCell ⟨g, 1, none⟩ v1).setCell ⟨g, 2, none⟩ v2)
theorem set3_blk {T : Nat} {w : World} {g : Nat} {a0 a1 a2 : Value} (h : Blk T w g [a0, a1, a2]) (v0 v1 v2 : Value) : Blk T (set3 w g v0 v1 v2) g [v0, v1, v2] := ((h.set 0 v0).set 1 v1).set 2 v2
theorem set3_but (w : World) (g : Nat) (v0 v1 v2 : Value) : But [g] w (set3 w g v0 v1 v2) := setD (setD (setD (But.refl [g] w) 0 v0) 1 v1) 2 v2

set_option maxHeartbeats 4000000 in
theorem kindOf_1 (w : World) : Calls Tryz.prog 9 #[.int .i64 1] w fun e w' => e = .returned (.agg #[fv 14, fv 15, fv 16]) ∧ Below w.heap.size w w' := by
  go_enter Tryz.func9, Tryz.ntmps9
  go_wp2_with (first | (refine kinds_stored w _ _ _ _ rfl rfl (.tmp 3) (.tmp 13) rfl rfl rfl rfl (fun W hb hk hr hs => ?_); have c3 := hk.cell 3 rfl; have c4 := hk.cell 4 rfl; have c5 := hk.cell 5 rfl; have r0 := hr.cell 0 rfl; have r1 := hr.cell 1 rfl; have r2 := hr.cell 2 rfl; have rf := hr.free; have HR : Hid (Blk 47 W w.heap.size [.nilFunc, .nilFunc, .nilFunc]) := hr; have HB : Hid (Below w.heap.size w W) := hb; clear hk hr hb) | fail)
  obtain ⟨W9, hW9⟩ : ∃ W9, W9 = set3 W w.heap.size (fv 14) (fv 15) (fv 16) := ⟨_, rfl⟩
  have hb9 : But [w.heap.size] W W9 := by rw [hW9]; exact set3_but W w.heap.size _ _ _
  have hB9 : Blk 47 W9 w.heap.size [fv 14, fv 15, fv 16] := by rw [hW9]; exact set3_blk HR.out _ _ _
  have HW9 : Hid (((W.setCell ⟨w.heap.size, 0, none⟩ (.func (.func 14) #[] #[])).setCell ⟨w.heap.size, 1, none⟩ (.func (.func 15) #[] #[])).setCell ⟨w.heap.size, 2, none⟩ (.func (.func 16) #[] #[]) = W9) := hW9.symm
  rw [HW9.out]
  clear r0 r1 r2 rf
  have q0 : W9.cell? ⟨w.heap.size, 0, none⟩ = some (.func (.func 14) #[] #[]) := hB9.cell 0 rfl
  have q1 : W9.cell? ⟨w.heap.size, 1, none⟩ = some (.func (.func 15) #[] #[]) := hB9.cell 1 rfl
  have q2 : W9.cell? ⟨w.heap.size, 2, none⟩ = some (.func (.func 16) #[] #[]) := hB9.cell 2 rfl
  have hl9 : Below w.heap.size w W9 := HB.out.trans (hb9.below (Nat.le_of_lt hs) (fun x hx => by simp at hx; omega))
  refine bodyPost_ret (v := .agg #[fv 14, fv 15, fv 16]) (by simp [results, Tryz.results9, go_sem, q0, q1, q2]) rfl ⟨rfl, hl9⟩

set_option maxHeartbeats 4000000 in
theorem kindOf_4 (w : World) : Calls Tryz.prog 9 #[.int .i64 4] w fun e w' => e = .returned (.agg #[fv 23, fv 24, fv 25]) ∧ Below w.heap.size w w' := by
  go_enter Tryz.func9, Tryz.ntmps9
  go_wp2_with (first | (refine kinds_stored w _ _ _ _ rfl rfl (.tmp 3) (.tmp 13) rfl rfl rfl rfl (fun W hb hk hr hs => ?_); have c3 := hk.cell 12 rfl; have c4 := hk.cell 13 rfl; have c5 := hk.cell 14 rfl; have r0 := hr.cell 0 rfl; have r1 := hr.cell 1 rfl; have r2 := hr.cell 2 rfl; have rf := hr.free; have HR : Hid (Blk 47 W w.heap.size [.nilFunc, .nilFunc, .nilFunc]) := hr; have HB : Hid (Below w.heap.size w W) := hb; clear hk hr hb) | fail)
  obtain ⟨W9, hW9⟩ : ∃ W9, W9 = set3 W w.heap.size (fv 23) (fv 24) (fv 25) := ⟨_, rfl⟩
  have hb9 : But [w.heap.size] W W9 := by rw [hW9]; exact set3_but W w.heap.size _ _ _
  have hB9 : Blk 47 W9 w.heap.size [fv 23, fv 24, fv 25] := by rw [hW9]; exact set3_blk HR.out _ _ _
  have HW9 : Hid (((W.setCell ⟨w.heap.size, 0, none⟩ (.func (.func 23) #[] #[])).setCell ⟨w.heap.size, 1, none⟩ (.func (.func 24) #[] #[])).setCell ⟨w.heap.size, 2, none⟩ (.func (.func 25) #[] #[]) = W9) := hW9.symm
  rw [HW9.out]
  clear r0 r1 r2 rf
  have q0 : W9.cell? ⟨w.heap.size, 0, none⟩ = some (.func (.func 23) #[] #[]) := hB9.cell 0 rfl
  have q1 : W9.cell? ⟨w.heap.size, 1, none⟩ = some (.func (.func 24) #[] #[]) := hB9.cell 1 rfl
  have q2 : W9.cell? ⟨w.heap.size, 2, none⟩ = some (.func (.func 25) #[] #[]) := hB9.cell 2 rfl
  have hl9 : Below w.heap.size w W9 := HB.out.trans (hb9.below (Nat.le_of_lt hs) (fun x hx => by simp at hx; omega))
  refine bodyPost_ret (v := .agg #[fv 23, fv 24, fv 25]) (by simp [results, Tryz.results9, go_sem, q0, q1, q2]) rfl ⟨rfl, hl9⟩

end Hn
end Go.Proofs.YticncpjpkgdnlaaGreatDoor

/-
  handle: what is used, what is right: by Text and Echo.
-/
set_option linter.unusedVariables false
set_option linter.unusedSimpArgs false
set_option maxRecDepth 100000
namespace Go.Proofs.YticncpjpkgdnlaaGreatDoor
open Go.RowKit Go.Shelf
namespace Hn
open Oc Tg _root_.Go.Proofs.YticncpjpkgdnlaaGreatDoor.Fd _root_.Go.Proofs.YticncpjpkgdnlaaGreatDoor.Ck _root_.Go.Proofs.YticncpjpkgdnlaaGreatDoor.Ms

set_option maxHeartbeats 1000000 in
theorem usedByText_any (k st n : Int) (nm tx md : ByteArray) (w : World) : Calls Tryz.prog 14 #[.agg #[.int .i64 k, .string nm, .string tx, .string md, .int .i64 st, .int .i64 n]] w fun e w' => e = .returned (.agg #[.int .i64 k, .string ⟨#[]⟩, .string tx, .string md, .int .i64 st, .int .i64 0]) ∧ Below w.heap.size w w' := by
  go_enter Tryz.func14, Tryz.ntmps14
  go_wp2
  refine bodyPost_ret (v := .agg #[.int .i64 k, .string ⟨#[]⟩, .string tx, .string md, .int .i64 st, .int .i64 0]) (by simp [results, Tryz.results14, go_sem]) rfl ⟨rfl, ?_⟩
  exact ((Below.refl _ w).alloc (Nat.le_refl _) _).alloc (by simp) _

set_option maxHeartbeats 1000000 in
theorem usedByNone_any (k st n : Int) (nm tx md : ByteArray) (w : World) : Calls Tryz.prog 23 #[.agg #[.int .i64 k, .string nm, .string tx, .string md, .int .i64 st, .int .i64 n]] w fun e w' => e = .returned (.agg #[.int .i64 k, .string ⟨#[]⟩, .string ⟨#[]⟩, .string ⟨#[]⟩, .int .i64 0, .int .i64 0]) ∧ Below w.heap.size w w' := by
  go_enter Tryz.func23, Tryz.ntmps23
  go_wp2
  refine bodyPost_ret (v := .agg #[.int .i64 k, .string ⟨#[]⟩, .string ⟨#[]⟩, .string ⟨#[]⟩, .int .i64 0, .int .i64 0]) (by simp [results, Tryz.results23, go_sem]) rfl ⟨rfl, ?_⟩
  exact ((Below.refl _ w).alloc (Nat.le_refl _) _).alloc (by simp) _

set_option maxHeartbeats 1000000 in
theorem isAny_any (w : World) (k st n : Int) (nm tx md : ByteArray) : Calls Tryz.prog 24 #[.agg #[.int .i64 k, .string nm, .string tx, .string md, .int .i64 st, .int .i64 n]] w fun e w' => e = .returned (.bool true) ∧ Below w.heap.size w w' := by
  go_enter Tryz.func24, Tryz.ntmps24
  go_wp2
  refine bodyPost_ret (v := .bool true) (by simp [results, Tryz.results24, go_sem]) rfl ⟨rfl, (Below.refl _ w).alloc (Nat.le_refl _) _⟩

set_option maxHeartbeats 1000000 in
theorem isStatus_200 (w : World) (k n : Int) (nm tx md : ByteArray) : Calls Tryz.prog 18 #[.agg #[.int .i64 k, .string nm, .string tx, .string md, .int .i64 200, .int .i64 n]] w fun e w' => e = .returned (.bool true) ∧ Below w.heap.size w w' := by
  go_enter Tryz.func18, Tryz.ntmps18
  go_wp2
  refine bodyPost_ret (v := .bool true) (by simp [results, Tryz.results18, go_sem]) rfl ⟨rfl, (Below.refl _ w).alloc (Nat.le_refl _) _⟩

theorem isBare_200 (w : World) : Calls Tryz.prog 40 #[.int .i64 200] w fun e w' => e = .returned (.bool false) ∧ w' = w := by
  go_enter Tryz.func40, Tryz.ntmps40
  go_wp2
  refine bodyPost_ret (v := .bool false) (by simp [results, Tryz.results40, go_sem]) rfl ⟨rfl, rfl⟩

theorem isMedia_ab (w : World) : Calls Tryz.prog 41 #[.string ⟨#[97, 47, 98]⟩] w fun e w' => e = .returned (.bool true) ∧ Below w.heap.size w w' := by
  have HI : Hid (Calls _ _ _ _ _) := IsValue_any ⟨#[97, 47, 98]⟩ (by decide) w
  go_enter Tryz.func41, Tryz.ntmps41
  go_wp2_with fail
  refine HI.out.mono ?_
  rintro e w' ⟨rfl, hb⟩
  have HB : Hid (Below w.heap.size w w') := hb
  rw [show isValue (⟨#[97, 47, 98]⟩ : ByteArray).data.toList = true by decide +kernel]
  clear hb HI
  go_wp2
  refine bodyPost_ret (v := .bool true) (by simp [results, Tryz.results41, go_sem]) rfl ⟨rfl, HB.out⟩

set_option maxHeartbeats 2000000 in
theorem isText_ab (w : World) (k n : Int) (nm tx : ByteArray) : Calls Tryz.prog 15 #[.agg #[.int .i64 k, .string nm, .string tx, .string ⟨#[97, 47, 98]⟩, .int .i64 200, .int .i64 n]] w fun e w' => e = .returned (.bool true) ∧ Below w.heap.size w w' := by
  obtain ⟨w1, hw1⟩ : ∃ w1, w1 = w.alloc (.cells #[.int .i64 k, .string nm, .string tx, .string ⟨#[97, 47, 98]⟩, .int .i64 200, .int .i64 n] 39) := ⟨_, rfl⟩
  have hb1 : Below w.heap.size w w1 := by rw [hw1]; exact (Below.refl _ w).alloc (Nat.le_refl _) _
  have hR1 : Blk 39 w1 w.heap.size [.int .i64 k, .string nm, .string tx, .string ⟨#[97, 47, 98]⟩, .int .i64 200, .int .i64 n] := by rw [hw1]; exact heap_alloc_new w _
  have HR1 : Hid (Blk 39 w1 w.heap.size [.int .i64 k, .string nm, .string tx, .string ⟨#[97, 47, 98]⟩, .int .i64 200, .int .i64 n]) := hR1
  have HB1 : Hid (Below w.heap.size w w1) := hb1
  have HW1 : Hid (w1 = _) := hw1
  have HS : Hid (Calls _ _ _ _ _) := isStatus_200 w1 k n nm tx ⟨#[97, 47, 98]⟩
  have HBr : Hid (∀ W, Calls _ _ _ W _) := fun W => isBare_200 W
  have HMd : Hid (∀ W, Calls _ _ _ W _) := fun W => isMedia_ab W
  clear hw1 hb1 hR1
  go_enter Tryz.func15, Tryz.ntmps15
  go_wp2_with fail
  rw [← HW1.out]
  refine HS.out.mono ?_
  rintro e w2 ⟨rfl, hb2⟩
  have HB2 : Hid (Below w.heap.size w w2) := bel_tr HB1.out hb2 HB1.out.size
  have HR2 : Hid (Blk 39 w2 w.heap.size [.int .i64 k, .string nm, .string tx, .string ⟨#[97, 47, 98]⟩, .int .i64 200, .int .i64 n]) := HR1.out.below hb2
  have r3 := HR2.out.cell 3 rfl
  have r4 := HR2.out.cell 4 rfl
  clear hb2 HW1 HS HR1 HB1
  go_wp2_with fail
  refine (HBr.out w2).mono ?_
  rintro e w3 ⟨rfl, hw3⟩
  rw [hw3]
  clear hw3
  go_wp2_with fail
  refine (HMd.out w2).mono ?_
  rintro e w4 ⟨rfl, hb4⟩
  have HB4 : Hid (Below w.heap.size w w4) := bel_tr HB2.out hb4 HB2.out.size
  clear hb4 r3 r4
  go_wp2
  refine bodyPost_ret (v := .bool true) (by simp [results, Tryz.results15, go_sem]) rfl ⟨rfl, HB4.out⟩

end Hn
end Go.Proofs.YticncpjpkgdnlaaGreatDoor
