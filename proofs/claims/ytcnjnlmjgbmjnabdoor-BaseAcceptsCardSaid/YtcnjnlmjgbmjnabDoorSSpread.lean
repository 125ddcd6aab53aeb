/-
  base.spread.
-/
import Derived.Test.YtcnjnlmjgbmjnabDoorSPlain
set_option linter.unusedVariables false
set_option linter.unusedSimpArgs false
namespace Go.Proofs.YtcnjnlmjgbmjnabDoor
open Go.RowKit
namespace Bs

/-- Words as cells. -/
def wv (l : List Int) : List Value := l.map fun x => Value.int .u32 x
theorem wv_get (l : List Int) (i : Nat) : (wv l)[i]? = (l[i]?).map fun x => Value.int .u32 x := by unfold wv; simp
theorem wv_length (l : List Int) : (wv l).length = l.length := by unfold wv; simp

theorem wv_one (l : List Int) : ∀ v ∈ wv l, v.oneCell' = true := by
  intro v hv
  unfold wv at hv
  obtain ⟨x, _, rfl⟩ := List.mem_map.1 hv
  rfl
theorem info80 : (Tryd.prog.info? 47).map (fun i => (i.zero, i.size)) = some (some (.agg (Array.replicate 80 (.int .u32 0))), 80) := by kernel_rfl
theorem info64 : (Tryd.prog.info? 50).map (fun i => (i.zero, i.size)) = some (some (.agg (Array.replicate 64 (.int .u8 0))), 64) := by kernel_rfl
theorem info5 : (Tryd.prog.info? 46).map (fun i => (i.zero, i.size)) = some (some (.agg (Array.replicate 5 (.int .u32 0))), 5) := by kernel_rfl
theorem rep_arr (n : Nat) : (Array.replicate n (Value.int .u32 0)) = (wv (List.replicate n 0)).toArray := by
  apply Array.toList_inj.1
  unfold wv
  simp
def zs (n : Nat) : List Int := List.replicate n 0
theorem zero80 (w : World) : (zeroValue 47).run Tryd.prog w = .ok (.agg (wv (zs 80)).toArray) w := by
  show _ = Result.ok (Value.agg (wv (List.replicate 80 0)).toArray) w
  obtain ⟨i, hi, h⟩ := Option.map_eq_some_iff.1 info80
  have h1 : i.zero = some (.agg (Array.replicate 80 (.int .u32 0))) := congrArg Prod.fst h
  rw [rep_arr] at h1
  simp [zeroValue, typeInfo, hi, h1]
theorem zero5 (w : World) : (zeroValue 46).run Tryd.prog w = .ok (.agg (wv (zs 5)).toArray) w := by
  show _ = Result.ok (Value.agg (wv (List.replicate 5 0)).toArray) w
  obtain ⟨i, hi, h⟩ := Option.map_eq_some_iff.1 info5
  have h1 : i.zero = some (.agg (Array.replicate 5 (.int .u32 0))) := congrArg Prod.fst h
  rw [rep_arr] at h1
  simp [zeroValue, typeInfo, hi, h1]
theorem size80 : (Tryd.prog.info? 47).map (·.size) = some 80 := by kernel_rfl
theorem size64 : (Tryd.prog.info? 50).map (·.size) = some 64 := by kernel_rfl
theorem size5 : (Tryd.prog.info? 46).map (·.size) = some 5 := by kernel_rfl
/-- A block that holds just these cells. -/
def Blk (w : World) (b : Nat) (cs : List Value) : Prop := ∃ t, w.heap[b]? = some (.cells cs.toArray t (0, 0))
theorem Blk.range {w : World} {b : Nat} {cs : List Value} (h : Blk w b cs) : w.rangeAt b 0 cs := by
  obtain ⟨t, h⟩ := h
  intro j v hv
  rw [Nat.zero_add, cell_of_row _ _ _ _ _ _ h, List.getElem?_toArray]
  exact hv
theorem Blk.there {w : World} {b : Nat} {cs : List Value} (h : Blk w b cs) (n : Nat) (hn : n ≤ cs.length) : w.there b 0 n := by
  intro j hj
  obtain ⟨t, h'⟩ := h
  refine ⟨?_, frozen_of_row _ _ _ _ _ h'⟩
  rw [Nat.zero_add, cell_of_row _ _ _ _ _ _ h', List.getElem?_toArray, List.getElem?_eq_getElem (by omega)]
  rfl
theorem Blk.cell {w : World} {b : Nat} {cs : List Value} (h : Blk w b cs) (j : Nat) (v : Value) (hj : cs[j]? = some v) : w.cell? ⟨b, j, none⟩ = some v := by
  obtain ⟨t, h⟩ := h
  rw [cell_of_row _ _ _ _ _ _ h, List.getElem?_toArray]
  exact hj
theorem Blk.free {w : World} {b : Nat} {cs : List Value} (h : Blk w b cs) (j : Nat) : w.frozen? ⟨b, j, none⟩ = false := by
  obtain ⟨t, h⟩ := h
  exact frozen_of_row _ _ _ _ _ h
theorem Blk.new (w : World) (cs : List Value) (t : TypeId) : Blk (w.alloc (.cells cs.toArray t)) w.heap.size cs := ⟨t, heap_alloc_new _ _⟩
theorem Blk.lt {w : World} {b : Nat} {cs : List Value} (h : Blk w b cs) : b < w.heap.size := by
  obtain ⟨t, h⟩ := h
  exact (Array.getElem?_eq_some_iff.1 h).1
theorem Blk.alloc {w : World} {b : Nat} {cs : List Value} (h : Blk w b cs) (o : Obj) : Blk (w.alloc o) b cs := by
  have hl := h.lt
  obtain ⟨t, h⟩ := h
  exact ⟨t, (Below.heap_alloc _ _ _ hl).trans h⟩
theorem Blk.drew {w : World} {b : Nat} {cs : List Value} (h : Blk w b cs) : Blk w.drew b cs := h
theorem Blk.but {bs : List Nat} {w w' : World} {b : Nat} {cs : List Value} (h : Blk w b cs) (k : But bs w w') (hn : b ∉ bs) : Blk w' b cs := by
  obtain ⟨t, h⟩ := h
  exact ⟨t, k.heap h hn⟩
theorem Blk.below {w w' : World} {b : Nat} {cs : List Value} (h : Blk w b cs) (k : Below w.heap.size w w') : Blk w' b cs := h.but (But.of_below k) (fun e => by cases e)
theorem Blk.set {w : World} {b : Nat} {cs : List Value} (h : Blk w b cs) (j : Nat) (v : Value) : Blk (w.setCell ⟨b, j, none⟩ v) b (cs.set j v) := by
  obtain ⟨t, h⟩ := h
  refine ⟨t, ?_⟩
  rw [heap_setCell_same _ _ _ _ _ _ h]
  simp
theorem Blk.setOther {w : World} {b b' : Nat} {cs : List Value} (h : Blk w b cs) (hb : b ≠ b') (j : Nat) (v : Value) : Blk (w.setCell ⟨b', j, none⟩ v) b cs := by
  obtain ⟨t, h⟩ := h
  exact ⟨t, (Below.heap_setCell _ _ _ _ (by simpa using hb)).trans h⟩

theorem run_index_arr (t e : TypeId) (n : Nat) (kd : IntKind) (ht : Tryd.prog.underlying t = some (.array n e)) (he : Tryd.prog.underlying e = some (.int kd)) (hs : (Tryd.prog.info? e).map (·.size) = some 1) (cs : List Value) (j : Nat) (hj : j < n) (v : Value) (hv : cs[j]? = some v) (w : World) :
    (Instr.index t (.agg cs.toArray) (.int .i64 (j : Int))).run Tryd.prog w = .ok v w := by
  obtain ⟨i, hi, h⟩ := Option.map_eq_some_iff.1 hs
  have h1 : (0 : Int) ≤ (j : Int) ∧ (j : Int) < (n : Int) := by omega
  simp [Instr.index, asIntOf, run_underlying ht, h1, Go.sizeOf, typeInfo, hi, h, part, isAgg, run_underlying he, hv]
  omega
theorem sizeW : (Tryd.prog.info? 45).map (·.size) = some 1 := by kernel_rfl
theorem bel_setCells {B : Nat} {a : World} : ∀ {w : World} {b : Nat} (h : Below B a w) (hb : B ≤ b) (o : Nat) (vs : List Value), Below B a (w.setCells b o vs) := by
  intro w b h hb o vs
  induction vs generalizing w o with
  | nil => exact h
  | cons v r ih =>
    rw [World.setCells]
    exact ih (h.setCell hb v) (o + 1)
theorem range_set (n q : Nat) (f g : Nat → Int) (v : Int) (hq : q < n) (h1 : g q = v) (h2 : ∀ j, j < n → j ≠ q → g j = f j) : (wv ((List.range n).map f)).set q (.int .u32 v) = wv ((List.range n).map g) := by
  apply List.ext_getElem?
  intro j
  rw [List.getElem?_set]
  by_cases hj : q = j
  · subst hj
    rw [if_pos rfl, if_pos (by simp [wv_length, hq]), wv_get]
    simp [hq, h1]
  · rw [if_neg hj, wv_get, wv_get]
    by_cases hn : j < n
    · simp [hn, h2 j hn (Ne.symm hj)]
    · simp [hn]
theorem range_get (n q : Nat) (f : Nat → Int) (hq : q < n) : (wv ((List.range n).map f))[q]? = some (.int .u32 (f q)) := by
  rw [wv_get]
  simp [hq]
theorem range_zs (n : Nat) (f : Nat → Int) (h : ∀ j, j < n → f j = 0) : zs n = (List.range n).map f := by
  apply List.ext_getElem?
  intro j
  unfold zs
  rw [List.getElem?_replicate]
  by_cases hn : j < n
  · simp [hn, h j hn]
  · simp [hn]
theorem range_ext (n : Nat) (f g : Nat → Int) (h : ∀ j, j < n → g j = f j) : (List.range n).map g = (List.range n).map f := by
  apply List.map_congr_left
  intro j hj
  exact h j (List.mem_range.1 hj)

attribute [local go_sem ↓] Go.wp_at_zero Go.wp_at_succ
set_option maxRecDepth 100000 in
set_option maxHeartbeats 1000000 in
theorem spread_any (p : List UInt8) (hp : p.length = 64) (w : World) :
    Calls Tryd.prog 34 #[.agg (bv p).toArray] w fun e w' => e = .returned (.agg (wv ((List.range 80).map (wsch p))).toArray) ∧ Below w.heap.size w w' := by
  have hz := zero80
  have HS : Hid ((Tryd.prog.info? 50).map (·.size) = some (bv p).length) := (by rw [bv_length, hp]; exact size64 : (Tryd.prog.info? 50).map (·.size) = some (bv p).length)
  have HBl : Hid (∀ o1 o2 o3, Below w.heap.size w (((w.alloc o1).alloc o2).alloc o3)) := fun o1 o2 o3 => (((Below.refl _ w).alloc (Nat.le_refl _) _).alloc (by simp) _).alloc (by simp; omega) _
  have HB3 : Hid (∀ o1 o2 t, Blk (((w.alloc o1).alloc o2).alloc (.cells (wv (zs 80)).toArray t)) (w.heap.size + 1 + 1) (wv (zs 80))) := fun o1 o2 t => by have := Blk.new ((w.alloc o1).alloc o2) (wv (zs 80)) t; simpa using this
  have HB2 : Hid (∀ o1 o3 t, Blk (((w.alloc o1).alloc (.cells (wv (zs 80)).toArray t)).alloc o3) (w.heap.size + 1) (wv (zs 80))) := fun o1 o3 t => by have := (Blk.new (w.alloc o1) (wv (zs 80)) t).alloc o3; simpa using this
  have hbl : (bv p).length = 64 := by rw [bv_length, hp]
  go_enter Tryd.func34, Tryd.ntmps34
  go_wp2_with (refine wpList_load_mid rfl 50 (.tmp 1) rfl w.heap.size 0 rfl (bv p) _ (Blk.range (((Blk.new w (bv p) _).alloc _).alloc _)) Tryd.underlying50 rfl HS.out ?_)
  go_loopw [8] (fun i wr => ∃ k : Nat, k ≤ 64 ∧ i = .int .i64 (k : Int) ∧ Hid (Blk wr (w.heap.size + 1 + 1) (wv ((List.range 80).map fun j => if j < 16 then ((pw p k j : Nat) : Int) else 0))) ∧ Hid (Blk wr (w.heap.size + 1) (wv (zs 80))) ∧ Hid (Below w.heap.size w wr)) (fun i _ => 64 - (intOf i).toNat)
  case atStart => exact ⟨0, by omega, rfl, (by have := HB3.out (.cells (bv p).toArray 50) (.cells (wv (zs 80)).toArray 47) 47; rw [show (wv (zs 80)) = wv ((List.range 80).map fun j => if j < 16 then ((pw p 0 j : Nat) : Int) else 0) from congrArg wv (range_zs 80 _ (fun j _ => by split <;> simp [pw_zero]))] at this ⊢; exact this : Blk _ _ _), HB2.out _ _ _, HBl.out _ _ _⟩
  case round =>
    obtain ⟨k, hk, rfl, HW, HR, HB⟩ := hrel
    clear HBl HB3 HB2
    by_cases hlt : k < 64
    · have hki : ((k : Nat) : Int) < 64 := by omega
      have hq : k / 4 < 16 := by omega
      have hdv : ((k : Nat) : Int) / 4 = ((k / 4 : Nat) : Int) := by omega
      have hcell := HW.out.cell (k / 4) (.int .u32 ((pw p k (k / 4) : Nat) : Int)) (by rw [range_get 80 _ _ (by omega), if_pos hq])
      have hfree := HW.out.free (k / 4)
      obtain ⟨hst, hsl⟩ := pw_step p k (by omega)
      have hu := (p.getD k 0).toNat_lt
      have HOr : Hid (bits .or .u32 (((pw p k (k / 4) : Nat) : Int) * 256) ((p.getD k 0).toNat : Int) = ((pw p (k + 1) (k / 4) : Nat) : Int)) := by
        have e := or_u32 (pw p k (k / 4) * 256) (p.getD k 0).toNat 8 (by omega) (by omega) (by omega) (by omega)
        rw [Int.natCast_mul] at e
        refine Eq.trans e ?_
        rw [hst]
      have HN : Hid (Blk (wr.setCell ⟨w.heap.size + 1 + 1, k / 4, none⟩ (.int .u32 ((pw p (k + 1) (k / 4) : Nat) : Int))) (w.heap.size + 1 + 1) (wv ((List.range 80).map fun j => if j < 16 then ((pw p (k + 1) j : Nat) : Int) else 0))) := by
        have := HW.out.set (k / 4) (.int .u32 ((pw p (k + 1) (k / 4) : Nat) : Int))
        rwa [range_set 80 (k / 4) _ (fun j => if j < 16 then ((pw p (k + 1) j : Nat) : Int) else 0) _ (by omega) (by rw [if_pos hq]) (fun j _ hj => by split; rw [pw_else p k j (by omega) hj]; rfl)] at this
      have hix := run_index_arr 50 5 64 .u8 Tryd.underlying50 Tryd.underlying5 sizeB (bv p) k hlt (.int .u8 ((p.getD k 0).toNat : Int)) (by
        rw [bv_get, List.getD_eq_getElem?_getD, List.getElem?_eq_getElem (by omega)]
        rfl)
      have HR2 : Hid (∀ v, Blk (wr.setCell ⟨w.heap.size + 1 + 1, k / 4, none⟩ v) (w.heap.size + 1) (wv (zs 80))) := fun v => HR.out.setOther (by omega) _ _
      have HB2 : Hid (∀ v, Below w.heap.size w (wr.setCell ⟨w.heap.size + 1 + 1, k / 4, none⟩ v)) := fun v => HB.out.setCell (by simp; omega) _
      clear hst
      generalize pw p (k + 1) (k / 4) = P1 at *
      generalize pw p k (k / 4) = P0 at *
      generalize hqe : k / 4 = q at *
      clear hqe
      generalize p.getD k 0 = u at *
      have hqi : (q : Int) < 80 := by omega
      go_wp2
      rw [HOr.out]
      exact ⟨⟨k + 1, by omega, by go_num, HN.out, HR2.out _, HB2.out _⟩, by simp [intOf]; omega⟩
    · obtain rfl : k = 64 := by omega
      have HW1 : Hid (Blk wr (w.heap.size + 1 + 1) (wv ((List.range 80).map (wst p 16)))) := by
        have := HW.out
        rwa [range_ext 80 (wst p 16) _ (fun j _ => by unfold wst; split; rw [wsch_lt p j (by assumption)]; rfl)] at this
      clear HW
      rw [show (((64 : Nat)) : Int) = (64 : Int) from rfl]
      go_wp2
      go_loopw [6] (fun i wr => ∃ t : Nat, 16 ≤ t ∧ t ≤ 80 ∧ i = .int .i64 (t : Int) ∧ Hid (Blk wr (w.heap.size + 1 + 1) (wv ((List.range 80).map (wst p t)))) ∧ Hid (Blk wr (w.heap.size + 1) (wv (zs 80))) ∧ Hid (Below w.heap.size w wr)) (fun i _ => 80 - (intOf i).toNat)
      case atStart => exact ⟨16, by omega, by omega, rfl, HW1.out, HR.out, HB.out⟩
      case round =>
        obtain ⟨t, ht1, ht2, rfl, HW, HR, HB⟩ := hrel
        clear HW1
        by_cases hlt2 : t < 80
        · have hti : ((t : Nat) : Int) < 80 := by omega
          have hg : ∀ j, j < t → (wv ((List.range 80).map (wst p t)))[j]? = some (.int .u32 (wsch p j)) := fun j hj => by
            rw [range_get 80 j _ (by omega)]
            unfold wst
            rw [if_pos hj]
          have c3 : wr.drew.cell? ⟨w.heap.size + 1 + 1, t - 3, none⟩ = some (.int .u32 (wsch p (t - 3))) := HW.out.cell _ _ (hg _ (by omega))
          have c8 : wr.drew.cell? ⟨w.heap.size + 1 + 1, t - 8, none⟩ = some (.int .u32 (wsch p (t - 8))) := HW.out.cell _ _ (hg _ (by omega))
          have c14 : wr.drew.cell? ⟨w.heap.size + 1 + 1, t - 14, none⟩ = some (.int .u32 (wsch p (t - 14))) := HW.out.cell _ _ (hg _ (by omega))
          have c16 : wr.drew.cell? ⟨w.heap.size + 1 + 1, t - 16, none⟩ = some (.int .u32 (wsch p (t - 16))) := HW.out.cell _ _ (hg _ (by omega))
          have c0 : wr.drew.cell? ⟨w.heap.size + 1 + 1, t, none⟩ = some (.int .u32 0) := HW.out.cell _ _ (by rw [range_get 80 t _ (by omega)]; unfold wst; rw [if_neg (by omega)])
          have f0 : wr.drew.frozen? ⟨w.heap.size + 1 + 1, t, none⟩ = false := HW.out.free t
          have HX : Hid (rl1 (bits .xor .u32 (bits .xor .u32 (bits .xor .u32 (wsch p (t - 3)) (wsch p (t - 8))) (wsch p (t - 14))) (wsch p (t - 16))) = wsch p t) := (wsch_ge p t ht1).symm
          have HC : Hid (∀ w, Calls Tryd.prog 35 #[.int .u32 (bits .xor .u32 (bits .xor .u32 (bits .xor .u32 (wsch p (t - 3)) (wsch p (t - 8))) (wsch p (t - 14))) (wsch p (t - 16))), .int .i64 1] w fun e w' => e = .returned (.int .u32 (rl1 (bits .xor .u32 (bits .xor .u32 (bits .xor .u32 (wsch p (t - 3)) (wsch p (t - 8))) (wsch p (t - 14))) (wsch p (t - 16))))) ∧ w' = w) := fun w => Rot1_any _ (bits_u32 _ _ _) w
          have HN : Hid (Blk (wr.setCell ⟨w.heap.size + 1 + 1, t, none⟩ (.int .u32 (wsch p t))) (w.heap.size + 1 + 1) (wv ((List.range 80).map (wst p (t + 1))))) := by
            have := HW.out.set t (.int .u32 (wsch p t))
            rwa [range_set 80 t _ (wst p (t + 1)) _ (by omega) (by unfold wst; rw [if_pos (by omega)]) (fun j _ hj => by unfold wst; by_cases h : j < t; rw [if_pos (by omega), if_pos h]; rw [if_neg (by omega), if_neg h])] at this
          have HKp : Hid (∀ v, (wr.setCell ⟨w.heap.size + 1 + 1, t, none⟩ v).drew.cell? ⟨w.heap.size + 1 + 1, t - 3, none⟩ = some (.int .u32 (wsch p (t - 3))) ∧ (wr.setCell ⟨w.heap.size + 1 + 1, t, none⟩ v).drew.cell? ⟨w.heap.size + 1 + 1, t - 8, none⟩ = some (.int .u32 (wsch p (t - 8))) ∧ (wr.setCell ⟨w.heap.size + 1 + 1, t, none⟩ v).drew.cell? ⟨w.heap.size + 1 + 1, t - 14, none⟩ = some (.int .u32 (wsch p (t - 14))) ∧ (wr.setCell ⟨w.heap.size + 1 + 1, t, none⟩ v).drew.cell? ⟨w.heap.size + 1 + 1, t - 16, none⟩ = some (.int .u32 (wsch p (t - 16)))) := fun v => ⟨(World.cell?_setCell_other wr _ _ _ (by intro e; injection e with _ e2; omega)).trans c3, (World.cell?_setCell_other wr _ _ _ (by intro e; injection e with _ e2; omega)).trans c8, (World.cell?_setCell_other wr _ _ _ (by intro e; injection e with _ e2; omega)).trans c14, (World.cell?_setCell_other wr _ _ _ (by intro e; injection e with _ e2; omega)).trans c16⟩
          have HR2 : Hid (∀ v, Blk (wr.setCell ⟨w.heap.size + 1 + 1, t, none⟩ v).drew (w.heap.size + 1) (wv (zs 80))) := fun v => HR.out.setOther (by omega) _ _
          have HB2 : Hid (∀ v, Below w.heap.size w (wr.setCell ⟨w.heap.size + 1 + 1, t, none⟩ v).drew) := fun v => (HB.out.setCell (by simp; omega) _).drew
          have e3 : ((t : Nat) : Int) - 3 = ((t - 3 : Nat) : Int) := by omega
          have w3 : IntKind.i64.wrap ((t - 3 : Nat) : Int) = ((t - 3 : Nat) : Int) := by rw [IntKind.wrap_i64]; omega
          have b3 : ((t - 3 : Nat) : Int) < 80 := by omega
          have z3 : (0 : Int) ≤ ((t - 3 : Nat) : Int) := by omega
          have e8 : ((t : Nat) : Int) - 8 = ((t - 8 : Nat) : Int) := by omega
          have w8 : IntKind.i64.wrap ((t - 8 : Nat) : Int) = ((t - 8 : Nat) : Int) := by rw [IntKind.wrap_i64]; omega
          have b8 : ((t - 8 : Nat) : Int) < 80 := by omega
          have z8 : (0 : Int) ≤ ((t - 8 : Nat) : Int) := by omega
          have e14 : ((t : Nat) : Int) - 14 = ((t - 14 : Nat) : Int) := by omega
          have w14 : IntKind.i64.wrap ((t - 14 : Nat) : Int) = ((t - 14 : Nat) : Int) := by rw [IntKind.wrap_i64]; omega
          have b14 : ((t - 14 : Nat) : Int) < 80 := by omega
          have z14 : (0 : Int) ≤ ((t - 14 : Nat) : Int) := by omega
          have e16 : ((t : Nat) : Int) - 16 = ((t - 16 : Nat) : Int) := by omega
          have w16 : IntKind.i64.wrap ((t - 16 : Nat) : Int) = ((t - 16 : Nat) : Int) := by rw [IntKind.wrap_i64]; omega
          have b16 : ((t - 16 : Nat) : Int) < 80 := by omega
          have z16 : (0 : Int) ≤ ((t - 16 : Nat) : Int) := by omega
          clear hg
          generalize wsch p (t - 3) = x3 at *
          generalize wsch p (t - 8) = x8 at *
          generalize wsch p (t - 14) = x14 at *
          generalize wsch p (t - 16) = x16 at *
          generalize t - 3 = t3 at *
          generalize t - 8 = t8 at *
          generalize t - 14 = t14 at *
          generalize t - 16 = t16 at *
          go_wp2
          go_region_held3 (fun W => W.cell? ⟨w.heap.size + 1 + 1, t3, none⟩ = some (.int .u32 x3) ∧ W.cell? ⟨w.heap.size + 1 + 1, t8, none⟩ = some (.int .u32 x8) ∧ W.cell? ⟨w.heap.size + 1 + 1, t14, none⟩ = some (.int .u32 x14) ∧ W.cell? ⟨w.heap.size + 1 + 1, t16, none⟩ = some (.int .u32 x16)) (first | exact ⟨c3, c8, c14, c16⟩ | exact HKp.out _) (first | (go_at_call 35; refine (HC.out _).mono ?_; rintro e w' ⟨rfl, rfl⟩))
          rw [HX.out]
          go_wp2
          go_roundw
          case rel => exact ⟨t + 1, by omega, by omega, by go_num, HN.out, HR2.out _, HB2.out _⟩
          case measure => simp [intOf]; omega
        · obtain rfl : t = 80 := by omega
          have HW2 : Hid (Blk wr (w.heap.size + 1 + 1) (wv ((List.range 80).map (wsch p)))) := by
            have := HW.out
            rwa [range_ext 80 (wsch p) _ (fun j hj => by unfold wst; rw [if_pos hj])] at this
          clear HW
          have HL : Hid ((wv ((List.range 80).map (wsch p))).length = 80) := (by rw [wv_length]; simp : (wv ((List.range 80).map (wsch p))).length = 80)
          have HO : Hid (∀ v ∈ wv ((List.range 80).map (wsch p)), v.oneCell' = true) := wv_one _
          have HZ : Hid ((wv (zs 80)).length = 80) := (by rw [wv_length]; unfold zs; simp : (wv (zs 80)).length = 80)
          generalize hcs : wv ((List.range 80).map (wsch p)) = cs at *
          have HCS : Hid (wv ((List.range 80).map (wsch p)) = cs) := hcs
          clear hcs
          have HT : Hid (wr.there (w.heap.size + 1) 0 cs.toArray.size) := HR.out.there _ (by rw [HZ.out]; simp [HL.out])
          have HI : Hid ((Tryd.prog.info? 47).map (·.size) = some cs.toArray.size) := (by rw [List.size_toArray, HL.out]; exact size80 : (Tryd.prog.info? 47).map (·.size) = some cs.toArray.size)
          have HA : Hid (cs.toArray.all (·.oneCell') = true) := all_oneCell_toArray HO.out
          go_wp2_with (first | refine wpList_load_mid rfl 47 (.tmp 3) rfl (w.heap.size + 1 + 1) 0 rfl cs _ HW2.out.range Tryd.underlying47 rfl (by rw [HL.out]; exact size80) ?_ | refine wpList_store_mid rfl 47 (.tmp 2) (.tmp 50) rfl (w.heap.size + 1) 0 cs.toArray rfl rfl HT.out HI.out HA.out ?_)
          have HB4 : Hid (Below w.heap.size w (wr.setCells (w.heap.size + 1) 0 cs)) := bel_setCells HB.out (by omega) _ _
          have HRg : (wr.setCells (w.heap.size + 1) 0 cs).rangeAt (w.heap.size + 1) 0 cs := World.rangeAt_setCells_same _ _ _ _ (by have := HT.out; rwa [List.size_toArray] at this)
          have hlv := run_loadVar_mid (P := Tryd.prog) (wr.setCells (w.heap.size + 1) 0 cs) (w.heap.size + 1) 0 47 cs _ HRg Tryd.underlying47 rfl (by rw [HL.out]; exact size80)
          refine bodyPost_ret (v := .agg cs.toArray) ?_ rfl ⟨by rw [HCS.out], HB4.out⟩
          simp [results, Tryd.results34, Act.put, asAddr, hlv]

end Bs
end Go.Proofs.YtcnjnlmjgbmjnabDoor
