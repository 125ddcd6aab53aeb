/-
  sheet: fields: a part's fields and the empty line behind them.
-/
import Derived.Test.YtlnlhhobmgiceaaGreatDoorSrP
import Derived.Test.YtlnlhhobmgiceaaGreatDoorSrT
import Derived.Stop.RegionWithIn
set_option linter.unusedVariables false
set_option linter.unusedSimpArgs false
namespace Go.Proofs.YtlnlhhobmgiceaaGreatDoor
open Go.RowKit Go.Shelf
attribute [local go_sem] Oper.semAt_some
namespace Sr
open Oc Tg Mf

/-- What take makes of the lines so far: the head, as long as none is wrong and none empty. -/
def hdF : List (Nat × List UInt8) → Pt.P5 × Bool × Bool → Pt.P5 × Bool × Bool
  | [], h => h
  | (_, l) :: r, h => hdF r (takP l h.1 h.2.1 h.2.2).2
def good : List (Nat × List UInt8) → Pt.P5 × Bool × Bool → Prop
  | [], _ => True
  | (_, l) :: r, h => (takP l h.1 h.2.1 h.2.2).1 = 0 ∧ l ≠ [] ∧ good r (takP l h.1 h.2.1 h.2.2).2
theorem hdF_app (k : List (Nat × List UInt8)) (a : Nat) (l : List UInt8) : ∀ h, hdF (k ++ [(a, l)]) h = (takP l (hdF k h).1 (hdF k h).2.1 (hdF k h).2.2).2 := by
  induction k with
  | nil => intro h; rfl
  | cons z r ih => intro h; exact ih _
theorem good_app (k : List (Nat × List UInt8)) (a : Nat) (l : List UInt8) : ∀ h, good k h → (takP l (hdF k h).1 (hdF k h).2.1 (hdF k h).2.2).1 = 0 → l ≠ [] → good (k ++ [(a, l)]) h := by
  induction k with
  | nil => intro h _ h1 h2; exact ⟨h1, h2, trivial⟩
  | cons z r ih => intro h hg h1 h2; exact ⟨hg.1, hg.2.1, ih _ hg.2.2 h1 h2⟩
theorem fldP_app (z : Nat) (r : List (Nat × List UInt8)) : ∀ (k : List (Nat × List UInt8)) (h : Pt.P5 × Bool × Bool), good k h → fldP z (k ++ r) h.1 h.2.1 h.2.2 = fldP z r (hdF k h).1 (hdF k h).2.1 (hdF k h).2.2
  | [], h, _ => rfl
  | (a, l) :: k, h, hg => by
    rw [List.cons_append]
    have e : fldP z ((a, l) :: (k ++ r)) h.1 h.2.1 h.2.2 = fldP z (k ++ r) (takP l h.1 h.2.1 h.2.2).2.1 (takP l h.1 h.2.1 h.2.2).2.2.1 (takP l h.1 h.2.1 h.2.2).2.2.2 := by
      rw [fldP, if_neg (by simp [hg.1]), if_neg hg.2.1]
    rw [e]
    exact fldP_app z r k _ hg.2.2
theorem heap_keep {w : World} {k : Nat} {o o' : Obj} (h : w.heap[k]? = some o) : (w.alloc o').heap[k]? = some o :=
  (((Below.refl _ w).alloc (Nat.le_refl _) _).block k (Array.getElem?_eq_some_iff.1 h).1).trans h
theorem heap_new (w : World) (o : Obj) (n : Nat) (h : n = w.heap.size) : (w.alloc o).heap[n]? = some o := by subst h; exact heap_alloc_new w o

theorem own_blk {β : Type} (b : Nat) (f : β → Obj) (hf : ∀ s, (f s).isCells = true) : Own (fun s W => W.heap[b]? = some (f s)) := fun s X Y row hs hg hrow =>
  (hg.block b (Array.getElem?_eq_some_iff.1 hs).1 (fun e => by obtain ⟨o, ho, hc⟩ := hrow b e.symm; rw [hs] at ho; cases ho; rw [hf s] at hc; cases hc)).trans hs
theorem ownFrom_chg {β : Type} {g B : Nat} {w : World} (hB : w.heap.size ≤ B) : OwnFrom B (fun (_ : β) W => Chg g w W) := fun s X Y row h hg hrow =>
  ⟨hg.os.trans h.os, hg.tape.trans h.tape, hg.output.trans h.out, Nat.le_trans h.size hg.size, fun k h1 h2 => (hg.block k (Nat.lt_of_lt_of_le h1 h.size) (fun e => by have := (hrow k e.symm).1; omega)).trans (h.block k h1 h2)⟩
theorem Chg.putObj {g : Nat} {w W : World} (h : Chg g w W) {D : Nat} (hD : w.heap.size ≤ D) (o : Obj) : Chg g w (W.putObj D o) :=
  ⟨h.os, h.tape, h.out, Nat.le_trans h.size (grownBy_putObj' W D o).size, fun k h1 h2 => (World.putObj_heap_other (by omega)).trans (h.block k h1 h2)⟩
/-- All that the return writes: the part's cells and the error's. -/
def put6 (W : World) (b c : Nat) (y : Pt.P5) (E : Value) : World :=
  (((((W.setCell ⟨b, 0, none⟩ (.string (str y.n))).setCell ⟨b, 1, none⟩ (.string (str y.f))).setCell ⟨b, 2, none⟩ (.string (str y.m))).setCell ⟨b, 3, none⟩ (.string (str y.b))).setCell ⟨b, 4, none⟩ (.bool y.h)).setCell ⟨c, 0, none⟩ E
theorem set_other (W : World) (k j i : Nat) (v : Value) (h : k ≠ i) : (W.setCell ⟨k, j, none⟩ v).heap[i]? = W.heap[i]? := by simp [World.setCell, Array.getElem?_modify, h]
theorem set_size (W : World) (k j : Nat) (v : Value) : (W.setCell ⟨k, j, none⟩ v).heap.size = W.heap.size := by simp [World.setCell]
theorem put6_size (W : World) (b c : Nat) (y : Pt.P5) (E : Value) : (put6 W b c y E).heap.size = W.heap.size := by unfold put6; simp only [set_size]
theorem put6_other (W : World) (b c : Nat) (y : Pt.P5) (E : Value) (i : Nat) (h1 : b ≠ i) (h2 : c ≠ i) : (put6 W b c y E).heap[i]? = W.heap[i]? := by
  unfold put6
  rw [set_other _ _ _ _ _ h2, set_other _ _ _ _ _ h1, set_other _ _ _ _ _ h1, set_other _ _ _ _ _ h1, set_other _ _ _ _ _ h1, set_other _ _ _ _ _ h1]
theorem put6_err (W : World) (b c : Nat) (y : Pt.P5) (E E0 : Value) (t : TypeId) (hbc : b ≠ c) (h : W.heap[c]? = some (.cells #[E0] t (0, 0))) : (put6 W b c y E).heap[c]? = some (.cells #[E] t (0, 0)) := by
  unfold put6
  have h1 : ((((((W.setCell ⟨b, 0, none⟩ (.string (str y.n))).setCell ⟨b, 1, none⟩ (.string (str y.f))).setCell ⟨b, 2, none⟩ (.string (str y.m))).setCell ⟨b, 3, none⟩ (.string (str y.b))).setCell ⟨b, 4, none⟩ (.bool y.h))).heap[c]? = some (.cells #[E0] t (0, 0)) := by
    rw [set_other _ _ _ _ _ hbc, set_other _ _ _ _ _ hbc, set_other _ _ _ _ _ hbc, set_other _ _ _ _ _ hbc, set_other _ _ _ _ _ hbc]; exact h
  exact heap_setCell_same _ c 0 _ _ E h1
theorem put6_part (W : World) (b c : Nat) (x y : Pt.P5) (E : Value) (hbc : b ≠ c) (h : PB W b x) : PB (put6 W b c y E) b y := by
  unfold put6 PB
  rw [set_other _ _ _ _ _ hbc.symm]
  have z0 := heap_setCell_same W b 0 _ _ (.string (str y.n)) h
  have z1 := heap_setCell_same _ b 1 _ _ (.string (str y.f)) z0
  have z2 := heap_setCell_same _ b 2 _ _ (.string (str y.m)) z1
  have z3 := heap_setCell_same _ b 3 _ _ (.string (str y.b)) z2
  have z4 := heap_setCell_same _ b 4 _ _ (.bool y.h) z3
  rw [z4]
  rfl
theorem put6_chg {g : Nat} {w W : World} (h : Chg g w W) {b c : Nat} (hb : w.heap.size ≤ b) (hc : w.heap.size ≤ c) (y : Pt.P5) (E : Value) : Chg g w (put6 W b c y E) := by
  unfold put6
  exact (((((h.fresh hb _ _).fresh hb _ _).fresh hb _ _).fresh hb _ _).fresh hb _ _).fresh hc _ _
theorem Chg.keepsFrom {b B : Nat} {W W' : World} (h : Chg b W W') (hb : b < B) : KeepsFrom B W W' := ⟨h.size, fun k o hB hk ho => (h.block k (Array.getElem?_eq_some_iff.1 hk).1 (by omega)).trans hk⟩

set_option maxRecDepth 100000 in
set_option maxHeartbeats 8000000 in
theorem fields_any (g a : Nat) (s m : ByteArray) (ha : a ≤ s.size) (hs : s.size ≤ 4000000000) (w : World) (hR : SR w g s m a) (ht : Tab w) (hm : ML w) (he : Fd.Env w) :
    Calls Tryz.prog 99 #[.pointer (some ⟨g, 0, none⟩)] w fun e w' => e = .returned (.tuple #[aggP (fdsP s.data.toList a).1, errV (fdsP s.data.toList a).2.1]) ∧ SR w' g s m (fdsA s.data.toList a) ∧ Chg g w w' := by
  have hgl := hR.lt
  have hsl : s.data.toList.length = s.size := size_list s
  obtain ⟨w4, hw4⟩ : ∃ w4, w4 = (((w.alloc (.cells #[.pointer (some ⟨g, 0, none⟩)] 115)).alloc (.cells #[.string ⟨#[]⟩, .string ⟨#[]⟩, .string ⟨#[]⟩, .string ⟨#[]⟩, .bool false] 49)).alloc (.cells #[.nilIface] 73)).alloc (.cells #[.string ⟨#[]⟩, .string ⟨#[]⟩, .string ⟨#[]⟩, .string ⟨#[]⟩, .bool false, .bool false, .bool false] 166) := ⟨_, rfl⟩
  have hsz4 : w4.heap.size = w.heap.size + 4 := by rw [hw4]; simp
  have hB4 : Below w.heap.size w w4 := by
    rw [hw4]
    exact ((((Below.refl _ w).alloc (Nat.le_refl _) _).alloc (by simp) _).alloc (by simp; omega) _).alloc (by simp; omega) _
  have b0 : w4.heap[w.heap.size]? = some (.cells #[.pointer (some ⟨g, 0, none⟩)] 115 (0, 0)) := by rw [hw4]; exact heap_keep (heap_keep (heap_keep (heap_alloc_new w _)))
  have b1 : PB w4 (w.heap.size + 1) Pt.p0 := by rw [hw4]; exact heap_keep (heap_keep (heap_new _ _ _ (by simp)))
  have b2 : w4.heap[w.heap.size + 2]? = some (.cells #[.nilIface] 73 (0, 0)) := by rw [hw4]; exact heap_keep (heap_new _ _ _ (by simp))
  have b3 : Hd w4 (w.heap.size + 3) Pt.p0 false false := by rw [hw4]; exact heap_new _ _ _ (by simp)
  have HW4 : Hid (_ = _) := hw4
  have HR4 : Hid (SR w4.drew g s m a) := hR.below (hB4.drew)
  obtain ⟨c0, c1, c2⟩ := HR4.out.cells
  have r0 : w4.drew.cell? ⟨w.heap.size, 0, none⟩ = some (.pointer (some ⟨g, 0, none⟩)) := (show w4.cell? _ = _ by simp [World.cell?, b0])
  clear hw4
  refine (callsIn_wide (n := 9)).1 ?_
  refine callsIn_of_wp_marks Tryz.func99 rfl trivial ?_ rfl
  simp only [Tryz.ntmps99, List.size_toArray, List.length_cons, List.length_nil, Nat.reduceAdd, Nat.reduceSub, Array.replicate_succ, Array.replicate_zero, List.push_toArray, List.append_toArray, List.nil_append, List.cons_append]
  have hq : ∀ (k : Nat) (cs : Array Value) (W : World), (binOp .eql 94 (.func (.func k) #[] cs) .nilFunc).run Tryz.prog W = .ok (.bool false) W := fun k cs W => by kernel_rfl
  gi_wp2_with fail
  rename_i Q0 K1 h1 K2 h2
  rw [← HW4.out]
  refine wpIn_wide.2 ?_
  have HI : Hid (w4.drew.cell? ⟨w.heap.size, 0, none⟩ = some (.pointer (some ⟨g, 0, none⟩)) ∧ w4.drew.cell? ⟨g, 0, none⟩ = some (.string s) ∧ w4.drew.cell? ⟨g, 2, none⟩ = some (.int .i64 (a : Int))) := ⟨r0, c0, c2⟩
  have hB6 : Below w4.heap.size w4 ((w4.alloc (.cells #[.string s] 9)).alloc (.cells #[.int .i64 (a : Int)] 3)).drew := (((Below.refl _ w4).alloc (Nat.le_refl _) _).alloc (by simp) _).drew
  have HI6 : Hid (((w4.alloc (.cells #[.string s] 9)).alloc (.cells #[.int .i64 (a : Int)] 3)).drew.cell? ⟨w.heap.size, 0, none⟩ = some (.pointer (some ⟨g, 0, none⟩)) ∧ ((w4.alloc (.cells #[.string s] 9)).alloc (.cells #[.int .i64 (a : Int)] 3)).drew.cell? ⟨g, 0, none⟩ = some (.string s) ∧ ((w4.alloc (.cells #[.string s] 9)).alloc (.cells #[.int .i64 (a : Int)] 3)).drew.cell? ⟨g, 2, none⟩ = some (.int .i64 (a : Int))) := ⟨(hB6.cell (p := ⟨w.heap.size, 0, none⟩) (show w.heap.size < _ by omega)).trans r0, (hB6.cell (p := ⟨g, 0, none⟩) (show g < _ by omega)).trans c0, (hB6.cell (p := ⟨g, 2, none⟩) (show g < _ by omega)).trans c2⟩
  clear r0 c0 c1 c2
  go_region_held3 (fun W => W.cell? ⟨w.heap.size, 0, none⟩ = some (.pointer (some ⟨g, 0, none⟩)) ∧ W.cell? ⟨g, 0, none⟩ = some (.string s) ∧ W.cell? ⟨g, 2, none⟩ = some (.int .i64 (a : Int))) (first | with_reducible exact HI.out | with_reducible exact HI6.out | go_keep) (first | (go_at_call 118; refine (lines_any s a _).mono ?_; rintro e w3 ⟨rfl, e3⟩; rw [e3]; clear e3))
  refine h2 _ _ ?_
  clear h2 K2
  obtain ⟨w6, hw6⟩ : ∃ w6, w6 = ((w4.alloc (.cells #[.string s] 9)).alloc (.cells #[.int .i64 (a : Int)] 3)).drew := ⟨_, rfl⟩
  rw [← hw6] at hB6 ⊢
  have hsz6 : w6.heap.size = w.heap.size + 6 := by rw [hw6]; show (World.alloc _ _).heap.size = _; simp [hsz4]
  have hB : Below w.heap.size w w6 := hB4.trans (hB6.mono (by omega))
  have hM6 : ML w6 := hm.below hB
  have b4 : w6.cell? ⟨w.heap.size + 4, 0, none⟩ = some (.string s) := by
    have : w6.heap[w.heap.size + 4]? = some (.cells #[.string s] 9 (0, 0)) := by rw [hw6]; exact heap_keep (heap_new _ _ _ (by omega))
    simp [World.cell?, this]
  have b5 : w6.cell? ⟨w.heap.size + 5, 0, none⟩ = some (.int .i64 (a : Int)) := by
    have : w6.heap[w.heap.size + 5]? = some (.cells #[.int .i64 (a : Int)] 3 (0, 0)) := by rw [hw6]; exact heap_new _ _ _ (by simp [hsz4])
    simp [World.cell?, this]
  have d0 : w6.heap[w.heap.size]? = _ := (hB6.block _ (by omega)).trans b0
  have d1 : PB w6 (w.heap.size + 1) Pt.p0 := (hB6.block _ (by omega)).trans b1
  have d2 : w6.heap[w.heap.size + 2]? = _ := (hB6.block _ (by omega)).trans b2
  have d3 : Hd w6 (w.heap.size + 3) Pt.p0 false false := (hB6.block _ (by omega)).trans b3
  clear hw6 HI HI6 HW4 HR4 b0 b1 b2 b3 hB6 hB4
  simp only [hsz4, Nat.add_assoc, Nat.reduceAdd]
  clear hsz4
  gi_wp2_with fail
  have hG := hm.lt
  generalize hN : w.heap.size = n1 at *
  refine wpIn_rangeFunc_ownG rfl (by omega) (gf := 132) (lb := #[.pointer (some ⟨n1 + 5, 0, none⟩), .pointer (some ⟨n1 + 4, 0, none⟩)]) rfl trivial (enters_of Tryz.func132 (by kernel_rfl) rfl)
    (lines_stops 8 (n1 + 4) (n1 + 5) a s hs ha _ hM6 b4 b5) keep3_t (keep3_b (by omega) (by omega) (by omega)) (Below.refl _ _) (fun _ => rfl)
    (fun (pre : List (Lz s.size)) W => (W.heap[n1]? = some (.cells #[.pointer (some ⟨g, 0, none⟩)] 115 (0, 0)) ∧ (PB W (n1 + 1) Pt.p0 ∧ (W.heap[n1 + 2]? = some (.cells #[.nilIface] 73 (0, 0)) ∧ Hd W (n1 + 3) (hdF (pre.map prL) (Pt.p0, false, false)).1 (hdF (pre.map prL) (Pt.p0, false, false)).2.1 (hdF (pre.map prL) (Pt.p0, false, false)).2.2))) ∧ ((Below n1 w W ∧ n1 + 6 ≤ W.heap.size) ∧ good (pre.map prL) (Pt.p0, false, false)))
    (fun c pre W => (PB W (n1 + 1) (fldP s.size (pre.map prL) Pt.p0 false false).1 ∧ (W.heap[n1 + 2]? = some (.cells #[errV (fldP s.size (pre.map prL) Pt.p0 false false).2.1] 73 (0, 0)) ∧ SR W g s m (if (fldP s.size (pre.map prL) Pt.p0 false false).2.1 = none then (fldP s.size (pre.map prL) Pt.p0 false false).2.2 else a))) ∧ ((Chg g w W ∧ n1 + 6 ≤ W.heap.size) ∧ (c = .ret ∧ ∀ r, fldP s.size (pre.map prL ++ r) Pt.p0 false false = fldP s.size (pre.map prL) Pt.p0 false false)))
    (OwnFrom.and (OwnFrom.and (Own.from (own_blk _ _ (fun _ => rfl)) _) (OwnFrom.and (Own.from (own_blk _ _ (fun _ => rfl)) _) (OwnFrom.and (Own.from (own_blk _ _ (fun _ => rfl)) _) (Own.from (own_blk _ _ (fun _ => rfl)) _)))) (OwnFrom.and (OwnFrom.and (ownFrom_below (by omega) (by omega)) (fun _ _ _ _ h hg _ => Nat.le_trans h hg.size)) (ownFrom_pure _ (fun pre : List (Lz s.size) => good (pre.map prL) (Pt.p0, false, false)))))
    (fun c => OwnFrom.and (OwnFrom.and (Own.from (own_blk _ _ (fun _ => rfl)) _) (OwnFrom.and (Own.from (own_blk _ _ (fun _ => rfl)) _) (Own.from (own_blk _ _ (fun _ => rfl)) _))) (OwnFrom.and (OwnFrom.and (ownFrom_chg (by omega)) (fun _ _ _ _ h hg _ => Nat.le_trans h hg.size)) (ownFrom_pure _ (fun pre : List (Lz s.size) => c = .ret ∧ ∀ r, fldP s.size (pre.map prL ++ r) Pt.p0 false false = fldP s.size (pre.map prL) Pt.p0 false false))))
    ⟨⟨d0, d1, d2, d3⟩, ⟨hB, by omega⟩, trivial⟩
    (fun x : Lz s.size => { tmps := #[.pointer (some ⟨g, 0, none⟩), .pointer (some ⟨n1, 0, none⟩), .pointer (some ⟨n1 + 1, 0, none⟩), .pointer (some ⟨n1 + 2, 0, none⟩), .pointer (some ⟨n1 + 3, 0, none⟩), .int .i64 (x.a : Int), .string (str x.z), undef, .pointer (some ⟨g, 0, none⟩), .pointer (some ⟨g, 0, none⟩), .pointer (some ⟨g, 0, none⟩), .string s, .pointer (some ⟨g, 0, none⟩), .pointer (some ⟨g, 0, none⟩), .pointer (some ⟨g, 2, none⟩), .int .i64 (a : Int), .func (.func 132) #[] #[.pointer (some ⟨n1 + 5, 0, none⟩), .pointer (some ⟨n1 + 4, 0, none⟩)], .int .i64 (x.a : Int), .string (str x.z), undef, undef, undef, undef, undef, undef, undef, undef, undef, undef, undef, undef, undef, undef, undef, undef, undef, undef, undef, undef, undef, undef], defers := [] }) ?assign ?body ?done ?stop
  case assign =>
    intro l x W K hK
    unfold encL
    gi_wp2
    exact hK
  case body =>
    rintro l pre x W ⟨⟨q0, q1, q2, q3⟩, ⟨hBW, hS⟩, hgd⟩ hlt
    have hx := x.le
    have hxa := x.la
    have hW : Below w.heap.size w W := by rw [hN]; exact hBW
    have HT : Hid (Calls _ _ _ W _) := take_any (n1 + 3) _ _ _ x.z (by omega) W q3 (ht.below hW (Nat.le_refl _)) (hm.below hW) (he.below hW)
    have HSR : Hid (SR W g s m a) := hR.below hW
    have hPr : (pre ++ [x]).map prL = pre.map prL ++ [(x.a, x.z)] := by simp [prL]
    have hhd := hdF_app (pre.map prL) x.a x.z (Pt.p0, false, false)
    have hgo := good_app (pre.map prL) x.a x.z _ hgd
    have hfl := fun r => fldP_app s.size r (pre.map prL) (Pt.p0, false, false) hgd
    have HPr : Hid ((pre ++ [x]).map prL = pre.map prL ++ [(x.a, x.z)]) := hPr
    clear hPr hgd
    generalize hdF (pre.map prL) (Pt.p0, false, false) = H at *
    obtain ⟨hx0, hd0, ht0⟩ := H
    dsimp only at HT hhd hgo hfl q3
    have hf2 : ∀ r, fldP s.size ((x.a, x.z) :: r) hx0 hd0 ht0 = _ := fun r => by rw [fldP]
    generalize takP x.z hx0 hd0 ht0 = T at *
    obtain ⟨te, tx, td, tt⟩ := T
    dsimp only at HT hhd hgo hf2
    have HF2 : Hid (∀ r, fldP s.size ((x.a, x.z) :: r) hx0 hd0 ht0 = _) := hf2
    have HFL : Hid (∀ r, fldP s.size (pre.map prL ++ r) Pt.p0 false false = fldP s.size r hx0 hd0 ht0) := hfl
    have HHD : Hid (hdF (pre.map prL ++ [(x.a, x.z)]) (Pt.p0, false, false) = (tx, td, tt)) := hhd
    have HGO : Hid (te = 0 → x.z ≠ [] → good (pre.map prL ++ [(x.a, x.z)]) (Pt.p0, false, false)) := hgo
    have HQ : Hid (W.heap[n1]? = some (.cells #[.pointer (some ⟨g, 0, none⟩)] 115 (0, 0)) ∧ PB W (n1 + 1) Pt.p0 ∧ W.heap[n1 + 2]? = some (.cells #[.nilIface] 73 (0, 0))) := ⟨q0, q1, q2⟩
    have hlX : (str x.z).toList = x.z := by rw [ByteArray.toList_eq, str_list]
    have HBW : Hid (Below n1 w W) := hBW
    clear hf2 hfl hhd hgo q0 q1 q2 q3 hBW hW
    by_cases hte : te = 0
    · subst hte
      by_cases hz : x.z = []
      · have HR : Hid (∀ r, fldP s.size ((pre ++ [x]).map prL ++ r) Pt.p0 false false = (tx, none, x.a + 2)) := (fun r => by
          rw [HPr.out, List.append_assoc, HFL.out, List.singleton_append, HF2.out, if_neg (by simp), if_pos hz] : ∀ r, _)
        have y2 : (str x.z).toList = [] := by rw [hlX, hz]
        have y1 : (str x.z).toList.isEmpty = true := by rw [y2]; rfl
        have y3 : ((str x.z).toList == []) = true := by rw [y2]; rfl
        have hi1 : (x.a : Int) + 2 ≤ 4000000002 := by omega
        have hi0 : (0 : Int) ≤ (x.a : Int) := by omega
        clear HF2 HFL HHD HGO hlX hz
        have n13 : n1 + 1 ≠ g := by omega
        have n23 : n1 + 2 ≠ g := by omega
        have n33 : n1 + 3 ≠ g := by omega
        have n03 : n1 ≠ g := by omega
        have n13' : g ≠ n1 + 1 := by omega
        have n23' : g ≠ n1 + 2 := by omega
        have n33' : g ≠ n1 + 3 := by omega
        have n03' : g ≠ n1 := by omega
        generalize str x.z = X at *
        gi_wp2_with (refine ⟨trivial, ?_⟩; gi_at_call 119; refine ((callsIn_wide.2 HT.out).inRound l).mono ?_; rintro e W1 ⟨rfl, k1, k2⟩; have p0 : W1.heap[n1]? = some (.cells #[.pointer (some ⟨g, 0, none⟩)] 115 (0, 0)) := (k2.block _ (by omega) (by omega)).trans HQ.out.1; have p1 : PB W1 (n1 + 1) Pt.p0 := HQ.out.2.1.chg k2 (by omega); have p2 : W1.heap[n1 + 2]? = some (.cells #[.nilIface] 73 (0, 0)) := (k2.block _ (by omega) (by omega)).trans HQ.out.2.2; obtain ⟨u0, u1, u2, u3, u4⟩ := p1.cells; have z0 := p1.fz 0; have z1 := p1.fz 1; have z2 := p1.fz 2; have z3 := p1.fz 3; have z4 := p1.fz 4; have u5 : W1.cell? ⟨n1 + 2, 0, none⟩ = some .nilIface := (by simp [World.cell?, p2]); have z5 : W1.frozen? ⟨n1 + 2, 0, none⟩ = false := Lib.frozen_of_heap p2 0; have u6 : W1.cell? ⟨n1, 0, none⟩ = some (.pointer (some ⟨g, 0, none⟩)) := (by simp [World.cell?, p0]); have hRW1 : SR W1 g s m a := (k2.block g (by omega) (by omega)).trans HSR.out; obtain ⟨v0, v1, v2⟩ := hRW1.cells; have vz := hRW1.f 2; obtain ⟨t0, t1, t2, t3, t4, t5, t6⟩ := k1.cells)
        have hF0 := HR.out []
        rw [List.append_nil] at hF0
        obtain ⟨W2, hW2⟩ : ∃ W2, W2 = W1.setCell ⟨g, 2, none⟩ (.int .i64 ((x.a : Int) + 2)) := ⟨_, rfl⟩
        rw [← hW2]
        have hRW2 : SR W2 g s m (x.a + 2) := by rw [hW2]; exact hRW1.set (x.a + 2)
        have o2 : ∀ i, g ≠ i → W2.heap[i]? = W1.heap[i]? := fun i h => by rw [hW2]; exact set_other _ _ _ _ _ h
        have s2 : W2.heap.size = W1.heap.size := by rw [hW2]; exact set_size _ _ _ _
        have hCW2 : Chg g w W2 := by
          rw [hW2]
          exact Chg.set ⟨k2.os.trans HBW.out.os, k2.tape.trans HBW.out.tape, k2.out.trans HBW.out.output, Nat.le_trans HBW.out.size k2.size, fun k h1 h2 => (k2.block k (by omega) (by omega)).trans (HBW.out.block k (by omega))⟩ 2 _
        clear hW2
        have hk2 := k2.size
        refine ⟨⟨by simp only [set_size]; omega, fun k o hk h1 h2 => (put6_other W2 (n1 + 1) (n1 + 2) tx _ k (by omega) (by omega)).trans ((o2 k (by omega)).trans ((k2.block k (Array.getElem?_eq_some_iff.1 h1).1 (by omega)).trans h1))⟩, ⟨?_, ?_, ?_⟩, ⟨put6_chg hCW2 (by omega) (by omega) tx _, ?_⟩, rfl, fun r => (HR.out r).trans hF0.symm⟩
        · rw [hF0]; exact put6_part W2 (n1 + 1) (n1 + 2) Pt.p0 tx _ (by omega) ((o2 _ (by omega)).trans p1)
        · rw [hF0]; exact put6_err W2 (n1 + 1) (n1 + 2) tx _ _ _ (by omega) ((o2 _ (by omega)).trans p2)
        · rw [hF0]; exact (put6_other W2 (n1 + 1) (n1 + 2) tx _ g (by omega) (by omega)).trans hRW2
        · simp only [set_size]; omega
      · have y2 : ¬ (str x.z).toList = [] := by rw [hlX]; exact hz
        have y1 : (str x.z).toList.isEmpty = false := by simpa using y2
        have y3 : ((str x.z).toList == []) = false := by simpa using y2
        have hgo := HGO.out rfl hz
        clear HF2 HFL HGO hlX hz
        generalize str x.z = X at *
        gi_wp2_with (refine ⟨trivial, ?_⟩; gi_at_call 119; refine ((callsIn_wide.2 HT.out).inRound l).mono ?_; rintro e W1 ⟨rfl, k1, k2⟩)
        refine ⟨k2.keepsFrom (by omega), ⟨k2.block _ (by omega) (by omega), k2.block _ (by omega) (by omega), k2.block _ (by omega) (by omega)⟩, ⟨(k2.block _ (by omega) (by omega)).trans HQ.out.1, HQ.out.2.1.chg k2 (by omega), (k2.block _ (by omega) (by omega)).trans HQ.out.2.2, ?_⟩, ⟨HBW.out.trans (k2.below (by omega) (by omega)), by have := k2.size; omega⟩, by rw [HPr.out]; exact hgo⟩
        rw [HPr.out, HHD.out]
        exact k1
    · have hp : (te != 0) = true := by simpa using hte
      have HR : Hid (∀ r, fldP s.size ((pre ++ [x]).map prL ++ r) Pt.p0 false false = (Pt.p0, some ((x.a : Int), te), 0)) := (fun r => by
        rw [HPr.out, List.append_assoc, HFL.out, List.singleton_append, HF2.out, if_pos hte] : ∀ r, _)
      clear HF2 HFL HHD HGO hlX
      gi_wp2_with (refine ⟨trivial, ?_⟩; gi_at_call 119; refine ((callsIn_wide.2 HT.out).inRound l).mono ?_; rintro e W1 ⟨rfl, k1, k2⟩; have p1 : PB W1 (n1 + 1) Pt.p0 := HQ.out.2.1.chg k2 (by omega); have p2 : W1.heap[n1 + 2]? = some (.cells #[.nilIface] 73 (0, 0)) := (k2.block _ (by omega) (by omega)).trans HQ.out.2.2; obtain ⟨u0, u1, u2, u3, u4⟩ := p1.cells; have z0 := p1.fz 0; have z1 := p1.fz 1; have z2 := p1.fz 2; have z3 := p1.fz 3; have z4 := p1.fz 4; have u5 : W1.cell? ⟨n1 + 2, 0, none⟩ = some .nilIface := (by simp [World.cell?, p2]); have z5 : W1.frozen? ⟨n1 + 2, 0, none⟩ = false := Lib.frozen_of_heap p2 0)
      have hF0 := HR.out []
      rw [List.append_nil] at hF0
      have hRW1 : SR W1 g s m a := (k2.block g (by omega) (by omega)).trans HSR.out
      have hCW1 : Chg g w W1 := ⟨k2.os.trans HBW.out.os, k2.tape.trans HBW.out.tape, k2.out.trans HBW.out.output, Nat.le_trans HBW.out.size k2.size, fun k h1 h2 => (k2.block k (by omega) (by omega)).trans (HBW.out.block k (by omega))⟩
      refine ⟨(k2.keepsFrom (by omega)).trans ⟨by simp only [set_size]; exact Nat.le_refl _, fun k o hk h1 h2 => (put6_other W1 (n1 + 1) (n1 + 2) Pt.p0 _ k (by omega) (by omega)).trans h1⟩, ⟨?_, ?_, ?_⟩, ⟨put6_chg hCW1 (by omega) (by omega) Pt.p0 _, ?_⟩, rfl, fun r => (HR.out r).trans hF0.symm⟩
      · rw [hF0]; exact put6_part W1 (n1 + 1) (n1 + 2) Pt.p0 Pt.p0 _ (by omega) p1
      · rw [hF0]; exact put6_err W1 (n1 + 1) (n1 + 2) Pt.p0 _ _ _ (by omega) p2
      · rw [hF0]; exact (put6_other W1 (n1 + 1) (n1 + 2) Pt.p0 _ g (by omega) (by omega)).trans hRW1
      · simp only [set_size]; have := k2.size; omega
  case done =>
    rintro D ys W hD hys ⟨⟨q0, q1, q2, q3⟩, ⟨hBW, hS⟩, hgd⟩ hK
    have hW : Below w.heap.size w W := by rw [hN]; exact hBW
    have HF : Hid (fdsP s.data.toList a = (Pt.p0, some ((s.size : Int), 154), 0)) := (by
      unfold fdsP
      rw [← hys, hsl]
      have := fldP_app s.size [] (ys.map prL) (Pt.p0, false, false) hgd
      rw [List.append_nil] at this
      exact this : _ = _)
    have HSh : Hid (Calls _ _ _ W _) := shut_any g a s m hs W (hR.below hW)
    have HRW : Hid (SR W g s m a) := hR.below hW
    clear hys hgd q3
    have c6 : W.cell? ⟨n1, 0, none⟩ = some (.pointer (some ⟨g, 0, none⟩)) := by simp [World.cell?, q0]
    unfold errV at HSh
    dsimp only at HSh
    gi_wp2_with (refine ⟨trivial, ?_⟩; gi_at_call 98; refine (callsIn_wide.2 HSh.out).mono ?_; rintro e W1 ⟨rfl, k1⟩; have p1 : PB W1 (n1 + 1) Pt.p0 := (k1.block _ (by omega)).trans q1; have p2 : W1.heap[n1 + 2]? = some (.cells #[.nilIface] 73 (0, 0)) := (k1.block _ (by omega)).trans q2; obtain ⟨u0, u1, u2, u3, u4⟩ := p1.cells; have z0 := p1.fz 0; have z1 := p1.fz 1; have z2 := p1.fz 2; have z3 := p1.fz 3; have z4 := p1.fz 4; have u5 : W1.cell? ⟨n1 + 2, 0, none⟩ = some .nilIface := (by simp [World.cell?, p2]); have z5 : W1.frozen? ⟨n1 + 2, 0, none⟩ = false := Lib.frozen_of_heap p2 0)
    obtain ⟨W2, hW2⟩ : ∃ W2, W2 = put6 W1 (n1 + 1) (n1 + 2) Pt.p0 (errV (some ((s.size : Int), 154))) := ⟨_, rfl⟩
    change bodyPostM _ _ _ _ _ _ _ (put6 W1 (n1 + 1) (n1 + 2) Pt.p0 (errV (some ((s.size : Int), 154))))
    rw [← hW2]
    have g1 : PB W2 (n1 + 1) Pt.p0 := by rw [hW2]; exact put6_part W1 _ _ Pt.p0 Pt.p0 _ (by omega) p1
    have g2 : W2.heap[n1 + 2]? = some (.cells #[errV (some ((s.size : Int), 154))] 73 (0, 0)) := by rw [hW2]; exact put6_err W1 _ _ Pt.p0 _ _ _ (by omega) p2
    have g3 : SR W2 g s m a := by rw [hW2]; exact (put6_other W1 _ _ Pt.p0 _ g (by omega) (by omega)).trans ((k1.block g (by omega)).trans HRW.out)
    have g4 : Chg g w W2 := by rw [hW2]; exact put6_chg ((Chg.of g hW).bel k1) (by omega) (by omega) Pt.p0 _
    have hKD := (Array.getElem?_eq_some_iff.1 hK).1
    have g5 : W2.heap[D]? = some (.deferred (some [])) := by rw [hW2]; exact (put6_other W1 _ _ Pt.p0 _ D (by omega) (by omega)).trans ((k1.block D hKD).trans hK)
    clear hW2 u0 u1 u2 u3 u4 u5 z0 z1 z2 z3 z4 z5
    obtain ⟨u0, u1, u2, u3, u4⟩ := g1.cells
    have u5 : W2.cell? ⟨n1 + 2, 0, none⟩ = some (errV (some ((s.size : Int), 154))) := by simp [World.cell?, g2]
    refine ⟨by simp, .inl ⟨_, _, rfl, run_takeDeferred g5, ?_⟩⟩
    have o : ∀ k j, k ≠ D → (W2.putObj D (.deferred none)).cell? ⟨k, j, none⟩ = W2.cell? ⟨k, j, none⟩ := fun k j h => World.cell?_of_block (World.putObj_heap_other (by simpa using h))
    refine ⟨.tuple #[aggP Pt.p0, errV (some ((s.size : Int), 154))], by simp [results, Tryz.results99, go_sem, o _ _ (show n1 + 1 ≠ D by omega), o _ _ (show n1 + 2 ≠ D by omega), u0, u1, u2, u3, u4, u5]; try rfl, ?_⟩
    unfold fdsA
    rw [HF.out]
    exact ⟨rfl, (World.putObj_heap_other (by omega)).trans g3, g4.putObj (by omega) _⟩
  case stop =>
    rintro D c pre W hD ⟨rest, hrest⟩ ⟨⟨q1, q2, q3⟩, ⟨hC, hS⟩, hc, hpu⟩ hK
    subst hc
    have HF : Hid (fdsP s.data.toList a = fldP s.size (pre.map prL) Pt.p0 false false) := (by
      unfold fdsP
      rw [← hrest, hsl]
      exact hpu rest : _ = _)
    clear hpu hrest
    generalize fldP s.size (pre.map prL) Pt.p0 false false = F at *
    obtain ⟨fx, fe, fa⟩ := F
    dsimp only at q1 q2 q3
    obtain ⟨u0, u1, u2, u3, u4⟩ := q1.cells
    have u5 : W.cell? ⟨n1 + 2, 0, none⟩ = some (errV fe) := by simp [World.cell?, q2]
    gi_wp2
    refine ⟨by simp, .inl ⟨_, _, rfl, run_takeDeferred hK, ?_⟩⟩
    have o : ∀ k j, k ≠ D → (W.putObj D (.deferred none)).cell? ⟨k, j, none⟩ = W.cell? ⟨k, j, none⟩ := fun k j h => World.cell?_of_block (World.putObj_heap_other (by simpa using h))
    refine ⟨.tuple #[aggP fx, errV fe], by simp [results, Tryz.results99, go_sem, o _ _ (show n1 + 1 ≠ D by omega), o _ _ (show n1 + 2 ≠ D by omega), u0, u1, u2, u3, u4, u5]; try rfl, ?_⟩
    unfold fdsA
    rw [HF.out]
    exact ⟨rfl, (World.putObj_heap_other (by omega)).trans q3, hC.putObj (by omega) _⟩

end Sr
end Go.Proofs.YtlnlhhobmgiceaaGreatDoor
