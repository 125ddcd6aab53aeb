/- Several texts as one. -/
import Derived.Test.YtlfobdjbnpgchaaGreatDoorMgR
import Derived.Deep.RegionHeldLaw
/-
  base.spread.
-/
set_option linter.unusedVariables false
set_option linter.unusedSimpArgs false
namespace Go.Proofs.YtlfobdjbnpgchaaGreatDoor
open Go.RowKit
namespace Bs

/-- Words as cells. -/
def wv (l : List Int) : List Value := l.map fun x => Value.int .u32 x
theorem wv_get (l : List Int) (i : Nat) : (wv l)[i]? = (l[i]?).map fun x => Value.int .u32 x := by unfold wv; simp
theorem wv_length (l : List Int) : (wv l).length = l.length := by unfold wv; simp

theorem wv_one (l : List Int) : ∀ v ∈ wv l, v.oneCell' = true := by
  intro v hv
  unfold wv at hv
  obtain ⟨x, _, rfl⟩ := List.mem_map.1 hv
  rfl
theorem info80 : (Tryz.prog.info? 358).map (fun i => (i.zero, i.size)) = some (some (.agg (Array.replicate 80 (.int .u32 0))), 80) := by kernel_rfl
theorem info64 : (Tryz.prog.info? 312).map (fun i => (i.zero, i.size)) = some (some (.agg (Array.replicate 64 (.int .u8 0))), 64) := by kernel_rfl
theorem info5 : (Tryz.prog.info? 311).map (fun i => (i.zero, i.size)) = some (some (.agg (Array.replicate 5 (.int .u32 0))), 5) := by kernel_rfl
theorem rep_arr (n : Nat) : (Array.replicate n (Value.int .u32 0)) = (wv (List.replicate n 0)).toArray := by
  apply Array.toList_inj.1
  unfold wv
  simp
def zs (n : Nat) : List Int := List.replicate n 0
theorem zero80 (w : World) : (zeroValue 358).run Tryz.prog w = .ok (.agg (wv (zs 80)).toArray) w := by
  show _ = Result.ok (Value.agg (wv (List.replicate 80 0)).toArray) w
  obtain ⟨i, hi, h⟩ := Option.map_eq_some_iff.1 info80
  have h1 : i.zero = some (.agg (Array.replicate 80 (.int .u32 0))) := congrArg Prod.fst h
  rw [rep_arr] at h1
  simp [zeroValue, typeInfo, hi, h1]
theorem zero5 (w : World) : (zeroValue 311).run Tryz.prog w = .ok (.agg (wv (zs 5)).toArray) w := by
  show _ = Result.ok (Value.agg (wv (List.replicate 5 0)).toArray) w
  obtain ⟨i, hi, h⟩ := Option.map_eq_some_iff.1 info5
  have h1 : i.zero = some (.agg (Array.replicate 5 (.int .u32 0))) := congrArg Prod.fst h
  rw [rep_arr] at h1
  simp [zeroValue, typeInfo, hi, h1]
theorem size80 : (Tryz.prog.info? 358).map (·.size) = some 80 := by kernel_rfl
theorem size64 : (Tryz.prog.info? 312).map (·.size) = some 64 := by kernel_rfl
theorem size5 : (Tryz.prog.info? 311).map (·.size) = some 5 := by kernel_rfl
/-- A block that holds just these cells. -/
def Blk (w : World) (b : Nat) (cs : List Value) : Prop := ∃ t, w.heap[b]? = some (.cells cs.toArray t (0, 0))
theorem Blk.range {w : World} {b : Nat} {cs : List Value} (h : Blk w b cs) : w.rangeAt b 0 cs := by
  obtain ⟨t, h⟩ := h
  intro j v hv
  rw [Nat.zero_add, cell_of_row _ _ _ _ _ _ h, List.getElem?_toArray]
  exact hv
theorem Blk.there {w : World} {b : Nat} {cs : List Value} (h : Blk w b cs) (n : Nat) (hn : n ≤ cs.length) : w.there b 0 n := by
  intro j hj
  obtain ⟨t, h'⟩ := h
  refine ⟨?_, frozen_of_row _ _ _ _ _ h'⟩
  rw [Nat.zero_add, cell_of_row _ _ _ _ _ _ h', List.getElem?_toArray, List.getElem?_eq_getElem (by omega)]
  rfl
theorem Blk.cell {w : World} {b : Nat} {cs : List Value} (h : Blk w b cs) (j : Nat) (v : Value) (hj : cs[j]? = some v) : w.cell? ⟨b, j, none⟩ = some v := by
  obtain ⟨t, h⟩ := h
  rw [cell_of_row _ _ _ _ _ _ h, List.getElem?_toArray]
  exact hj
theorem Blk.free {w : World} {b : Nat} {cs : List Value} (h : Blk w b cs) (j : Nat) : w.frozen? ⟨b, j, none⟩ = false := by
  obtain ⟨t, h⟩ := h
  exact frozen_of_row _ _ _ _ _ h
theorem Blk.new (w : World) (cs : List Value) (t : TypeId) : Blk (w.alloc (.cells cs.toArray t)) w.heap.size cs := ⟨t, heap_alloc_new _ _⟩
theorem Blk.lt {w : World} {b : Nat} {cs : List Value} (h : Blk w b cs) : b < w.heap.size := by
  obtain ⟨t, h⟩ := h
  exact (Array.getElem?_eq_some_iff.1 h).1
theorem Blk.alloc {w : World} {b : Nat} {cs : List Value} (h : Blk w b cs) (o : Obj) : Blk (w.alloc o) b cs := by
  have hl := h.lt
  obtain ⟨t, h⟩ := h
  exact ⟨t, (Below.heap_alloc _ _ _ hl).trans h⟩
theorem Blk.drew {w : World} {b : Nat} {cs : List Value} (h : Blk w b cs) : Blk w.drew b cs := h
theorem Blk.but {bs : List Nat} {w w' : World} {b : Nat} {cs : List Value} (h : Blk w b cs) (k : But bs w w') (hn : b ∉ bs) : Blk w' b cs := by
  obtain ⟨t, h⟩ := h
  exact ⟨t, k.heap h hn⟩
theorem Blk.below {w w' : World} {b : Nat} {cs : List Value} (h : Blk w b cs) (k : Below w.heap.size w w') : Blk w' b cs := h.but (But.of_below k) (fun e => by cases e)
theorem Blk.set {w : World} {b : Nat} {cs : List Value} (h : Blk w b cs) (j : Nat) (v : Value) : Blk (w.setCell ⟨b, j, none⟩ v) b (cs.set j v) := by
  obtain ⟨t, h⟩ := h
  refine ⟨t, ?_⟩
  rw [heap_setCell_same _ _ _ _ _ _ h]
  simp
theorem Blk.setOther {w : World} {b b' : Nat} {cs : List Value} (h : Blk w b cs) (hb : b ≠ b') (j : Nat) (v : Value) : Blk (w.setCell ⟨b', j, none⟩ v) b cs := by
  obtain ⟨t, h⟩ := h
  exact ⟨t, (Below.heap_setCell _ _ _ _ (by simpa using hb)).trans h⟩

theorem run_index_arr (t e : TypeId) (n : Nat) (kd : IntKind) (ht : Tryz.prog.underlying t = some (.array n e)) (he : Tryz.prog.underlying e = some (.int kd)) (hs : (Tryz.prog.info? e).map (·.size) = some 1) (cs : List Value) (j : Nat) (hj : j < n) (v : Value) (hv : cs[j]? = some v) (w : World) :
    (Instr.index t (.agg cs.toArray) (.int .i64 (j : Int))).run Tryz.prog w = .ok v w := by
  obtain ⟨i, hi, h⟩ := Option.map_eq_some_iff.1 hs
  have h1 : (0 : Int) ≤ (j : Int) ∧ (j : Int) < (n : Int) := by omega
  simp [Instr.index, asIntOf, run_underlying ht, h1, Go.sizeOf, typeInfo, hi, h, part, isAgg, run_underlying he, hv]
  omega
theorem sizeW : (Tryz.prog.info? 262).map (·.size) = some 1 := by kernel_rfl
theorem bel_setCells {B : Nat} {a : World} : ∀ {w : World} {b : Nat} (h : Below B a w) (hb : B ≤ b) (o : Nat) (vs : List Value), Below B a (w.setCells b o vs) := by
  intro w b h hb o vs
  induction vs generalizing w o with
  | nil => exact h
  | cons v r ih =>
    rw [World.setCells]
    exact ih (h.setCell hb v) (o + 1)
theorem range_set (n q : Nat) (f g : Nat → Int) (v : Int) (hq : q < n) (h1 : g q = v) (h2 : ∀ j, j < n → j ≠ q → g j = f j) : (wv ((List.range n).map f)).set q (.int .u32 v) = wv ((List.range n).map g) := by
  apply List.ext_getElem?
  intro j
  rw [List.getElem?_set]
  by_cases hj : q = j
  · subst hj
    rw [if_pos rfl, if_pos (by simp [wv_length, hq]), wv_get]
    simp [hq, h1]
  · rw [if_neg hj, wv_get, wv_get]
    by_cases hn : j < n
    · simp [hn, h2 j hn (Ne.symm hj)]
    · simp [hn]
theorem range_get (n q : Nat) (f : Nat → Int) (hq : q < n) : (wv ((List.range n).map f))[q]? = some (.int .u32 (f q)) := by
  rw [wv_get]
  simp [hq]
theorem range_zs (n : Nat) (f : Nat → Int) (h : ∀ j, j < n → f j = 0) : zs n = (List.range n).map f := by
  apply List.ext_getElem?
  intro j
  unfold zs
  rw [List.getElem?_replicate]
  by_cases hn : j < n
  · simp [hn, h j hn]
  · simp [hn]
theorem range_ext (n : Nat) (f g : Nat → Int) (h : ∀ j, j < n → g j = f j) : (List.range n).map g = (List.range n).map f := by
  apply List.map_congr_left
  intro j hj
  exact h j (List.mem_range.1 hj)

attribute [local go_sem ↓] Go.wp_at_zero Go.wp_at_succ
set_option maxRecDepth 100000 in
set_option maxHeartbeats 1000000 in
theorem spread_any (p : List UInt8) (hp : p.length = 64) (w : World) :
    Calls Tryz.prog 321 #[.agg (bv p).toArray] w fun e w' => e = .returned (.agg (wv ((List.range 80).map (wsch p))).toArray) ∧ Below w.heap.size w w' := by
  have hz := zero80
  have HS : Hid ((Tryz.prog.info? 312).map (·.size) = some (bv p).length) := (by rw [bv_length, hp]; exact size64 : (Tryz.prog.info? 312).map (·.size) = some (bv p).length)
  have HBl : Hid (∀ o1 o2 o3, Below w.heap.size w (((w.alloc o1).alloc o2).alloc o3)) := fun o1 o2 o3 => (((Below.refl _ w).alloc (Nat.le_refl _) _).alloc (by simp) _).alloc (by simp; omega) _
  have HB3 : Hid (∀ o1 o2 t, Blk (((w.alloc o1).alloc o2).alloc (.cells (wv (zs 80)).toArray t)) (w.heap.size + 1 + 1) (wv (zs 80))) := fun o1 o2 t => by have := Blk.new ((w.alloc o1).alloc o2) (wv (zs 80)) t; simpa using this
  have HB2 : Hid (∀ o1 o3 t, Blk (((w.alloc o1).alloc (.cells (wv (zs 80)).toArray t)).alloc o3) (w.heap.size + 1) (wv (zs 80))) := fun o1 o3 t => by have := (Blk.new (w.alloc o1) (wv (zs 80)) t).alloc o3; simpa using this
  have hbl : (bv p).length = 64 := by rw [bv_length, hp]
  go_enter Tryz.func321, Tryz.ntmps321
  go_wp2_with (refine wpList_load_mid rfl 312 (.tmp 1) rfl w.heap.size 0 rfl (bv p) _ (Blk.range (((Blk.new w (bv p) _).alloc _).alloc _)) Tryz.underlying312 rfl HS.out ?_)
  go_loopw [8] (fun i wr => ∃ k : Nat, k ≤ 64 ∧ i = .int .i64 (k : Int) ∧ Hid (Blk wr (w.heap.size + 1 + 1) (wv ((List.range 80).map fun j => if j < 16 then ((pw p k j : Nat) : Int) else 0))) ∧ Hid (Blk wr (w.heap.size + 1) (wv (zs 80))) ∧ Hid (Below w.heap.size w wr)) (fun i _ => 64 - (intOf i).toNat)
  case atStart => exact ⟨0, by omega, rfl, (by have := HB3.out (.cells (bv p).toArray 312) (.cells (wv (zs 80)).toArray 358) 358; rw [show (wv (zs 80)) = wv ((List.range 80).map fun j => if j < 16 then ((pw p 0 j : Nat) : Int) else 0) from congrArg wv (range_zs 80 _ (fun j _ => by split <;> simp [pw_zero]))] at this ⊢; exact this : Blk _ _ _), HB2.out _ _ _, HBl.out _ _ _⟩
  case round =>
    obtain ⟨k, hk, rfl, HW, HR, HB⟩ := hrel
    clear HBl HB3 HB2
    by_cases hlt : k < 64
    · have hki : ((k : Nat) : Int) < 64 := by omega
      have hq : k / 4 < 16 := by omega
      have hdv : ((k : Nat) : Int) / 4 = ((k / 4 : Nat) : Int) := by omega
      have hcell := HW.out.cell (k / 4) (.int .u32 ((pw p k (k / 4) : Nat) : Int)) (by rw [range_get 80 _ _ (by omega), if_pos hq])
      have hfree := HW.out.free (k / 4)
      obtain ⟨hst, hsl⟩ := pw_step p k (by omega)
      have hu := (p.getD k 0).toNat_lt
      have HOr : Hid (bits .or .u32 (((pw p k (k / 4) : Nat) : Int) * 256) ((p.getD k 0).toNat : Int) = ((pw p (k + 1) (k / 4) : Nat) : Int)) := by
        have e := or_u32 (pw p k (k / 4) * 256) (p.getD k 0).toNat 8 (by omega) (by omega) (by omega) (by omega)
        rw [Int.natCast_mul] at e
        refine Eq.trans e ?_
        rw [hst]
      have HN : Hid (Blk (wr.setCell ⟨w.heap.size + 1 + 1, k / 4, none⟩ (.int .u32 ((pw p (k + 1) (k / 4) : Nat) : Int))) (w.heap.size + 1 + 1) (wv ((List.range 80).map fun j => if j < 16 then ((pw p (k + 1) j : Nat) : Int) else 0))) := by
        have := HW.out.set (k / 4) (.int .u32 ((pw p (k + 1) (k / 4) : Nat) : Int))
        rwa [range_set 80 (k / 4) _ (fun j => if j < 16 then ((pw p (k + 1) j : Nat) : Int) else 0) _ (by omega) (by rw [if_pos hq]) (fun j _ hj => by split; rw [pw_else p k j (by omega) hj]; rfl)] at this
      have hix := run_index_arr 312 5 64 .u8 Tryz.underlying312 Tryz.underlying5 sizeB (bv p) k hlt (.int .u8 ((p.getD k 0).toNat : Int)) (by
        rw [bv_get, List.getD_eq_getElem?_getD, List.getElem?_eq_getElem (by omega)]
        rfl)
      have HR2 : Hid (∀ v, Blk (wr.setCell ⟨w.heap.size + 1 + 1, k / 4, none⟩ v) (w.heap.size + 1) (wv (zs 80))) := fun v => HR.out.setOther (by omega) _ _
      have HB2 : Hid (∀ v, Below w.heap.size w (wr.setCell ⟨w.heap.size + 1 + 1, k / 4, none⟩ v)) := fun v => HB.out.setCell (by simp; omega) _
      clear hst
      generalize pw p (k + 1) (k / 4) = P1 at *
      generalize pw p k (k / 4) = P0 at *
      generalize hqe : k / 4 = q at *
      clear hqe
      generalize p.getD k 0 = u at *
      have hqi : (q : Int) < 80 := by omega
      go_wp2
      rw [HOr.out]
      exact ⟨⟨k + 1, by omega, by go_num, HN.out, HR2.out _, HB2.out _⟩, by simp [intOf]; omega⟩
    · obtain rfl : k = 64 := by omega
      have HW1 : Hid (Blk wr (w.heap.size + 1 + 1) (wv ((List.range 80).map (wst p 16)))) := by
        have := HW.out
        rwa [range_ext 80 (wst p 16) _ (fun j _ => by unfold wst; split; rw [wsch_lt p j (by assumption)]; rfl)] at this
      clear HW
      rw [show (((64 : Nat)) : Int) = (64 : Int) from rfl]
      go_wp2
      go_loopw [6] (fun i wr => ∃ t : Nat, 16 ≤ t ∧ t ≤ 80 ∧ i = .int .i64 (t : Int) ∧ Hid (Blk wr (w.heap.size + 1 + 1) (wv ((List.range 80).map (wst p t)))) ∧ Hid (Blk wr (w.heap.size + 1) (wv (zs 80))) ∧ Hid (Below w.heap.size w wr)) (fun i _ => 80 - (intOf i).toNat)
      case atStart => exact ⟨16, by omega, by omega, rfl, HW1.out, HR.out, HB.out⟩
      case round =>
        obtain ⟨t, ht1, ht2, rfl, HW, HR, HB⟩ := hrel
        clear HW1
        by_cases hlt2 : t < 80
        · have hti : ((t : Nat) : Int) < 80 := by omega
          have hg : ∀ j, j < t → (wv ((List.range 80).map (wst p t)))[j]? = some (.int .u32 (wsch p j)) := fun j hj => by
            rw [range_get 80 j _ (by omega)]
            unfold wst
            rw [if_pos hj]
          have c3 : wr.drew.cell? ⟨w.heap.size + 1 + 1, t - 3, none⟩ = some (.int .u32 (wsch p (t - 3))) := HW.out.cell _ _ (hg _ (by omega))
          have c8 : wr.drew.cell? ⟨w.heap.size + 1 + 1, t - 8, none⟩ = some (.int .u32 (wsch p (t - 8))) := HW.out.cell _ _ (hg _ (by omega))
          have c14 : wr.drew.cell? ⟨w.heap.size + 1 + 1, t - 14, none⟩ = some (.int .u32 (wsch p (t - 14))) := HW.out.cell _ _ (hg _ (by omega))
          have c16 : wr.drew.cell? ⟨w.heap.size + 1 + 1, t - 16, none⟩ = some (.int .u32 (wsch p (t - 16))) := HW.out.cell _ _ (hg _ (by omega))
          have c0 : wr.drew.cell? ⟨w.heap.size + 1 + 1, t, none⟩ = some (.int .u32 0) := HW.out.cell _ _ (by rw [range_get 80 t _ (by omega)]; unfold wst; rw [if_neg (by omega)])
          have f0 : wr.drew.frozen? ⟨w.heap.size + 1 + 1, t, none⟩ = false := HW.out.free t
          have HX : Hid (rl1 (bits .xor .u32 (bits .xor .u32 (bits .xor .u32 (wsch p (t - 3)) (wsch p (t - 8))) (wsch p (t - 14))) (wsch p (t - 16))) = wsch p t) := (wsch_ge p t ht1).symm
          have HC : Hid (∀ w, Calls Tryz.prog 322 #[.int .u32 (bits .xor .u32 (bits .xor .u32 (bits .xor .u32 (wsch p (t - 3)) (wsch p (t - 8))) (wsch p (t - 14))) (wsch p (t - 16))), .int .i64 1] w fun e w' => e = .returned (.int .u32 (rl1 (bits .xor .u32 (bits .xor .u32 (bits .xor .u32 (wsch p (t - 3)) (wsch p (t - 8))) (wsch p (t - 14))) (wsch p (t - 16))))) ∧ w' = w) := fun w => Rot1_any _ (bits_u32 _ _ _) w
          have HN : Hid (Blk (wr.setCell ⟨w.heap.size + 1 + 1, t, none⟩ (.int .u32 (wsch p t))) (w.heap.size + 1 + 1) (wv ((List.range 80).map (wst p (t + 1))))) := by
            have := HW.out.set t (.int .u32 (wsch p t))
            rwa [range_set 80 t _ (wst p (t + 1)) _ (by omega) (by unfold wst; rw [if_pos (by omega)]) (fun j _ hj => by unfold wst; by_cases h : j < t; rw [if_pos (by omega), if_pos h]; rw [if_neg (by omega), if_neg h])] at this
          have HKp : Hid (∀ v, (wr.setCell ⟨w.heap.size + 1 + 1, t, none⟩ v).drew.cell? ⟨w.heap.size + 1 + 1, t - 3, none⟩ = some (.int .u32 (wsch p (t - 3))) ∧ (wr.setCell ⟨w.heap.size + 1 + 1, t, none⟩ v).drew.cell? ⟨w.heap.size + 1 + 1, t - 8, none⟩ = some (.int .u32 (wsch p (t - 8))) ∧ (wr.setCell ⟨w.heap.size + 1 + 1, t, none⟩ v).drew.cell? ⟨w.heap.size + 1 + 1, t - 14, none⟩ = some (.int .u32 (wsch p (t - 14))) ∧ (wr.setCell ⟨w.heap.size + 1 + 1, t, none⟩ v).drew.cell? ⟨w.heap.size + 1 + 1, t - 16, none⟩ = some (.int .u32 (wsch p (t - 16)))) := fun v => ⟨(World.cell?_setCell_other wr _ _ _ (by intro e; injection e with _ e2; omega)).trans c3, (World.cell?_setCell_other wr _ _ _ (by intro e; injection e with _ e2; omega)).trans c8, (World.cell?_setCell_other wr _ _ _ (by intro e; injection e with _ e2; omega)).trans c14, (World.cell?_setCell_other wr _ _ _ (by intro e; injection e with _ e2; omega)).trans c16⟩
          have HR2 : Hid (∀ v, Blk (wr.setCell ⟨w.heap.size + 1 + 1, t, none⟩ v).drew (w.heap.size + 1) (wv (zs 80))) := fun v => HR.out.setOther (by omega) _ _
          have HB2 : Hid (∀ v, Below w.heap.size w (wr.setCell ⟨w.heap.size + 1 + 1, t, none⟩ v).drew) := fun v => (HB.out.setCell (by simp; omega) _).drew
          have e3 : ((t : Nat) : Int) - 3 = ((t - 3 : Nat) : Int) := by omega
          have w3 : IntKind.i64.wrap ((t - 3 : Nat) : Int) = ((t - 3 : Nat) : Int) := by rw [IntKind.wrap_i64]; omega
          have b3 : ((t - 3 : Nat) : Int) < 80 := by omega
          have z3 : (0 : Int) ≤ ((t - 3 : Nat) : Int) := by omega
          have e8 : ((t : Nat) : Int) - 8 = ((t - 8 : Nat) : Int) := by omega
          have w8 : IntKind.i64.wrap ((t - 8 : Nat) : Int) = ((t - 8 : Nat) : Int) := by rw [IntKind.wrap_i64]; omega
          have b8 : ((t - 8 : Nat) : Int) < 80 := by omega
          have z8 : (0 : Int) ≤ ((t - 8 : Nat) : Int) := by omega
          have e14 : ((t : Nat) : Int) - 14 = ((t - 14 : Nat) : Int) := by omega
          have w14 : IntKind.i64.wrap ((t - 14 : Nat) : Int) = ((t - 14 : Nat) : Int) := by rw [IntKind.wrap_i64]; omega
          have b14 : ((t - 14 : Nat) : Int) < 80 := by omega
          have z14 : (0 : Int) ≤ ((t - 14 : Nat) : Int) := by omega
          have e16 : ((t : Nat) : Int) - 16 = ((t - 16 : Nat) : Int) := by omega
          have w16 : IntKind.i64.wrap ((t - 16 : Nat) : Int) = ((t - 16 : Nat) : Int) := by rw [IntKind.wrap_i64]; omega
          have b16 : ((t - 16 : Nat) : Int) < 80 := by omega
          have z16 : (0 : Int) ≤ ((t - 16 : Nat) : Int) := by omega
          clear hg
          generalize wsch p (t - 3) = x3 at *
          generalize wsch p (t - 8) = x8 at *
          generalize wsch p (t - 14) = x14 at *
          generalize wsch p (t - 16) = x16 at *
          generalize t - 3 = t3 at *
          generalize t - 8 = t8 at *
          generalize t - 14 = t14 at *
          generalize t - 16 = t16 at *
          go_wp2
          go_region_held3 (fun W => W.cell? ⟨w.heap.size + 1 + 1, t3, none⟩ = some (.int .u32 x3) ∧ W.cell? ⟨w.heap.size + 1 + 1, t8, none⟩ = some (.int .u32 x8) ∧ W.cell? ⟨w.heap.size + 1 + 1, t14, none⟩ = some (.int .u32 x14) ∧ W.cell? ⟨w.heap.size + 1 + 1, t16, none⟩ = some (.int .u32 x16)) (first | exact ⟨c3, c8, c14, c16⟩ | exact HKp.out _) (first | (go_at_call 322; refine (HC.out _).mono ?_; rintro e w' ⟨rfl, rfl⟩))
          rw [HX.out]
          go_wp2
          go_roundw
          case rel => exact ⟨t + 1, by omega, by omega, by go_num, HN.out, HR2.out _, HB2.out _⟩
          case measure => simp [intOf]; omega
        · obtain rfl : t = 80 := by omega
          have HW2 : Hid (Blk wr (w.heap.size + 1 + 1) (wv ((List.range 80).map (wsch p)))) := by
            have := HW.out
            rwa [range_ext 80 (wsch p) _ (fun j hj => by unfold wst; rw [if_pos hj])] at this
          clear HW
          have HL : Hid ((wv ((List.range 80).map (wsch p))).length = 80) := (by rw [wv_length]; simp : (wv ((List.range 80).map (wsch p))).length = 80)
          have HO : Hid (∀ v ∈ wv ((List.range 80).map (wsch p)), v.oneCell' = true) := wv_one _
          have HZ : Hid ((wv (zs 80)).length = 80) := (by rw [wv_length]; unfold zs; simp : (wv (zs 80)).length = 80)
          generalize hcs : wv ((List.range 80).map (wsch p)) = cs at *
          have HCS : Hid (wv ((List.range 80).map (wsch p)) = cs) := hcs
          clear hcs
          have HT : Hid (wr.there (w.heap.size + 1) 0 cs.toArray.size) := HR.out.there _ (by rw [HZ.out]; simp [HL.out])
          have HI : Hid ((Tryz.prog.info? 358).map (·.size) = some cs.toArray.size) := (by rw [List.size_toArray, HL.out]; exact size80 : (Tryz.prog.info? 358).map (·.size) = some cs.toArray.size)
          have HA : Hid (cs.toArray.all (·.oneCell') = true) := all_oneCell_toArray HO.out
          go_wp2_with (first | refine wpList_load_mid rfl 358 (.tmp 3) rfl (w.heap.size + 1 + 1) 0 rfl cs _ HW2.out.range Tryz.underlying358 rfl (by rw [HL.out]; exact size80) ?_ | refine wpList_store_mid rfl 358 (.tmp 2) (.tmp 50) rfl (w.heap.size + 1) 0 cs.toArray rfl rfl HT.out HI.out HA.out ?_)
          have HB4 : Hid (Below w.heap.size w (wr.setCells (w.heap.size + 1) 0 cs)) := bel_setCells HB.out (by omega) _ _
          have HRg : (wr.setCells (w.heap.size + 1) 0 cs).rangeAt (w.heap.size + 1) 0 cs := World.rangeAt_setCells_same _ _ _ _ (by have := HT.out; rwa [List.size_toArray] at this)
          have hlv := run_loadVar_mid (P := Tryz.prog) (wr.setCells (w.heap.size + 1) 0 cs) (w.heap.size + 1) 0 358 cs _ HRg Tryz.underlying358 rfl (by rw [HL.out]; exact size80)
          refine bodyPost_ret (v := .agg cs.toArray) ?_ rfl ⟨by rw [HCS.out], HB4.out⟩
          simp [results, Tryz.results321, Act.put, asAddr, hlv]

end Bs
end Go.Proofs.YtlfobdjbnpgchaaGreatDoor

/-
  base.stir: the five words behind one more piece.
-/
set_option linter.unusedVariables false
set_option linter.unusedSimpArgs false
namespace Go.Proofs.YtlfobdjbnpgchaaGreatDoor
open Go.RowKit
namespace Bs

/- Stores of many cells. -/
def setL : List Value → Nat → List Value → List Value
  | xs, _, [] => xs
  | xs, o, v :: r => setL (xs.set o v) (o + 1) r
theorem setL_length : ∀ (vs xs : List Value) (o : Nat), (setL xs o vs).length = xs.length
  | [], xs, o => rfl
  | v :: r, xs, o => by unfold setL; rw [setL_length r]; simp
theorem setL_get : ∀ (vs xs : List Value) (o j : Nat), o + vs.length ≤ xs.length → (setL xs o vs)[j]? = if o ≤ j ∧ j < o + vs.length then vs[j - o]? else xs[j]?
  | [], xs, o, j, _ => by unfold setL; rw [if_neg (by simp)]
  | v :: r, xs, o, j, h => by
    simp only [List.length_cons] at h
    unfold setL
    rw [setL_get r (xs.set o v) (o + 1) j (by simp; omega), List.getElem?_set]
    simp only [List.length_cons]
    by_cases h1 : j = o
    · subst h1
      rw [if_neg (by omega), if_pos rfl, if_pos (by omega), if_pos (by omega), Nat.sub_self]
      rfl
    · by_cases h2 : o + 1 ≤ j ∧ j < o + 1 + r.length
      · rw [if_pos h2, if_pos (by omega), show j - o = (j - (o + 1)) + 1 by omega]
        rfl
      · rw [if_neg h2, if_neg (fun e => h1 e.symm), if_neg (by omega)]
theorem setL_all (xs vs : List Value) (h : vs.length = xs.length) : setL xs 0 vs = vs := by
  apply List.ext_getElem?
  intro j
  rw [setL_get vs xs 0 j (by omega)]
  by_cases hj : j < vs.length
  · rw [if_pos (by omega), Nat.sub_zero]
  · rw [if_neg (by omega), List.getElem?_eq_none (by omega), List.getElem?_eq_none (by omega)]
theorem Blk.setCells : ∀ {vs : List Value} {w : World} {b : Nat} {xs : List Value} {o : Nat}, Blk w b xs → Blk (w.setCells b o vs) b (setL xs o vs) := by
  intro vs
  induction vs with
  | nil => intro w b xs o h; exact h
  | cons v r ih =>
    intro w b xs o h
    rw [World.setCells]
    exact ih (h.set o v)
theorem but_setCells : ∀ {vs : List Value} {a w : World} {b : Nat} {o : Nat}, But [b] a w → But [b] a (w.setCells b o vs) := by
  intro vs
  induction vs with
  | nil => intro a w b o h; exact h
  | cons v r ih =>
    intro a w b o h
    rw [World.setCells]
    exact ih (h.setCell (p := ⟨b, o, none⟩) (by simp) v)
theorem Blk.setCellsOther {vs : List Value} {w : World} {b b' : Nat} {xs : List Value} {o : Nat} (h : Blk w b xs) (hb : b ≠ b') : Blk (w.setCells b' o vs) b xs := h.but (but_setCells (But.refl [b'] w)) (by simpa using hb)
theorem Blk.whole {vs : List Value} {w : World} {b : Nat} {xs : List Value} (h : Blk w b xs) (hl : vs.length = xs.length) : Blk (w.setCells b 0 vs) b vs := by
  have := h.setCells (vs := vs) (o := 0)
  rwa [setL_all xs vs hl] at this

/- One round. -/
def ff (t : Nat) (b c d : Int) : Int :=
  if t < 20 then bits .or .u32 (bits .and .u32 b c) (bits .and .u32 (bits .xor .u32 IntKind.u32.max b) d)
  else if t < 40 then bits .xor .u32 (bits .xor .u32 b c) d
  else if t < 60 then bits .or .u32 (bits .or .u32 (bits .and .u32 b c) (bits .and .u32 b d)) (bits .and .u32 c d)
  else bits .xor .u32 (bits .xor .u32 b c) d
def kk (t : Nat) : Int := if t < 20 then 1518500249 else if t < 40 then 1859775393 else if t < 60 then 2400959708 else 3395469782
def tt (w : Nat → Int) (t : Nat) (a b c d e : Int) : Int := IntKind.u32.wrap (IntKind.u32.wrap (IntKind.u32.wrap (IntKind.u32.wrap (rl5 a + ff t b c d) + e) + kk t) + w t)
structure St where
  a : Int
  b : Int
  c : Int
  d : Int
  e : Int
def St.ok (s : St) : Prop := U32 s.a ∧ U32 s.b ∧ U32 s.c ∧ U32 s.d ∧ U32 s.e
def rnd (w : Nat → Int) (t : Nat) (s : St) : St := ⟨tt w t s.a s.b s.c s.d s.e, s.a, rl30 s.b, s.c, s.d⟩
def rnds (w : Nat → Int) : Nat → St → St
  | 0, s => s
  | t + 1, s => rnd w t (rnds w t s)
theorem mod_u32 (x : Int) : U32 (IntKind.u32.wrap x) := by rw [IntKind.wrap_u32]; exact ⟨by omega, by omega⟩
theorem rnds_ok (w : Nat → Int) (s : St) (h : s.ok) : ∀ t, (rnds w t s).ok
  | 0 => h
  | t + 1 => by
    obtain ⟨h1, h2, h3, h4, h5⟩ := rnds_ok w s h t
    exact ⟨mod_u32 _, h1, rl30_u _, h3, h4⟩
theorem ff_u (t : Nat) (b c d : Int) : U32 (ff t b c d) := by
  unfold ff
  (repeat' split) <;> exact bits_u32 _ _ _
/-- The five words behind one more piece. -/
def stirS (s : St) (p : List UInt8) : St :=
  ⟨IntKind.u32.wrap (s.a + (rnds (wsch p) 80 s).a), IntKind.u32.wrap (s.b + (rnds (wsch p) 80 s).b), IntKind.u32.wrap (s.c + (rnds (wsch p) 80 s).c), IntKind.u32.wrap (s.d + (rnds (wsch p) 80 s).d), IntKind.u32.wrap (s.e + (rnds (wsch p) 80 s).e)⟩
theorem stirS_ok (s : St) (p : List UInt8) : (stirS s p).ok := ⟨mod_u32 _, mod_u32 _, mod_u32 _, mod_u32 _, mod_u32 _⟩
def St.l (s : St) : List Int := [s.a, s.b, s.c, s.d, s.e]

/-- The first k are new. -/
def mix (s f : St) (k : Nat) : List Int := f.l.take k ++ s.l.drop k

attribute [local go_sem ↓] Go.wp_at_zero Go.wp_at_succ
set_option maxRecDepth 100000 in
set_option maxHeartbeats 2000000 in
theorem stir_any (s : St) (hs : s.ok) (p : List UInt8) (hp : p.length = 64) (w : World) :
    Calls Tryz.prog 277 #[.agg (wv s.l).toArray, .agg (bv p).toArray] w fun e w' => e = .returned (.agg (wv (stirS s p).l).toArray) ∧ Below w.heap.size w w' := by
  have hz := zero5
  have hz8 := zero80
  have HP : Hid (p.length = 64) := hp
  have HS : Hid ((Tryz.prog.info? 312).map (·.size) = some (bv p).length) := (by rw [bv_length, hp]; exact size64 : (Tryz.prog.info? 312).map (·.size) = some (bv p).length)
  have HB3 : Hid (∀ o1 o2 o3, Below w.heap.size w (((w.alloc o1).alloc o2).alloc o3)) := fun o1 o2 o3 => (((Below.refl _ w).alloc (Nat.le_refl _) _).alloc (by simp) _).alloc (by simp; omega) _
  have HK0 : Hid (∀ t o2 o3, Blk (((w.alloc (.cells (wv s.l).toArray t)).alloc o2).alloc o3) w.heap.size (wv s.l)) := fun t o2 o3 => ((Blk.new w (wv s.l) t).alloc _).alloc _
  have HK1 : Hid (∀ t o1 o3, Blk (((w.alloc o1).alloc (.cells (bv p).toArray t)).alloc o3) (w.heap.size + 1) (bv p)) := fun t o1 o3 => by have := (Blk.new (w.alloc o1) (bv p) t).alloc o3; simpa using this
  have HK2 : Hid (∀ t o1 o2, Blk (((w.alloc o1).alloc o2).alloc (.cells (wv (zs 5)).toArray t)) (w.heap.size + 1 + 1) (wv (zs 5))) := fun t o1 o2 => by have := Blk.new ((w.alloc o1).alloc o2) (wv (zs 5)) t; simpa using this
  clear hp
  go_enter Tryz.func277, Tryz.ntmps277
  go_wp2_with (refine wpList_load_mid rfl 312 (.tmp 3) rfl (w.heap.size + 1) 0 rfl (bv p) _ (HK1.out _ _ _).range Tryz.underlying312 rfl HS.out ?_)
  refine (spread_any p HP.out _).mono ?_
  rintro e w2 ⟨rfl, hb2⟩
  have K0 : Hid (Blk w2 w.heap.size (wv s.l)) := (HK0.out _ _ _).below hb2
  have K2 : Hid (Blk w2 (w.heap.size + 1 + 1) (wv (zs 5))) := (HK2.out _ _ _).below hb2
  have HB : Hid (Below w.heap.size w w2) := bel_trans' (HB3.out _ _ _) hb2
  have hlt2 := K2.out.lt
  clear hb2 HB3 HK0 HK1 HK2
  have HL : Hid ((wv ((List.range 80).map (wsch p))).length = 80) := (by rw [wv_length]; simp : (wv ((List.range 80).map (wsch p))).length = 80)
  have HZ : Hid ((wv (zs 80)).length = 80) := (by rw [wv_length]; unfold zs; simp : (wv (zs 80)).length = 80)
  have HG : Hid (∀ t, t < 80 → (wv ((List.range 80).map (wsch p)))[t]? = some (.int .u32 (wsch p t))) := fun t ht => range_get 80 t _ ht
  have HA : Hid ((wv ((List.range 80).map (wsch p))).toArray.all (·.oneCell') = true) := all_oneCell_toArray (wv_one _)
  generalize wv ((List.range 80).map (wsch p)) = cs at *
  have HT : Hid (∀ t, (w2.alloc (.cells (wv (zs 80)).toArray t)).there w2.heap.size 0 cs.toArray.size) := fun t => (Blk.new w2 (wv (zs 80)) t).there _ (by rw [HZ.out]; simp [HL.out])
  have HI : Hid ((Tryz.prog.info? 358).map (·.size) = some cs.toArray.size) := (by rw [List.size_toArray, HL.out]; exact size80 : (Tryz.prog.info? 358).map (·.size) = some cs.toArray.size)
  have HF : Hid (∀ t, ∃ W, W = (w2.alloc (.cells (wv (zs 80)).toArray t)).setCells w2.heap.size 0 cs ∧ Blk W w2.heap.size cs ∧ Blk W w.heap.size (wv s.l) ∧ Blk W (w.heap.size + 1 + 1) (wv (zs 5)) ∧ Below w.heap.size w W ∧ w2.heap.size < W.heap.size) := fun t => by
    have b1 : Blk ((w2.alloc (.cells (wv (zs 80)).toArray t)).setCells w2.heap.size 0 cs) w2.heap.size cs := (Blk.new w2 (wv (zs 80)) t).whole (by rw [HL.out, HZ.out])
    exact ⟨_, rfl, b1, (K0.out.alloc _).setCellsOther (by omega), (K2.out.alloc _).setCellsOther (by omega), bel_setCells (HB.out.alloc HB.out.size _) (by omega) _ _, b1.lt⟩
  go_wp2_with (refine wpList_store_mid rfl 358 (.tmp 5) (.tmp 18) rfl w2.heap.size 0 cs.toArray rfl rfl (HT.out _) HI.out HA.out ?_)
  obtain ⟨W, hW, K3, K0', K2', HB', hlt3⟩ := HF.out 358
  rw [show (w2.alloc (.cells (wv (zs 80)).toArray 358)).setCells w2.heap.size 0 cs.toArray.toList = W from hW.symm]
  have HK3 : Hid (Blk W w2.heap.size cs) := K3
  have HK0 : Hid (Blk W w.heap.size (wv s.l)) := K0'
  have HK2 : Hid (Blk W (w.heap.size + 1 + 1) (wv (zs 5))) := K2'
  have HBW : Hid (Below w.heap.size w W) := HB'
  clear hW K3 K0' K2' HB' HF HT HI HA K0 K2 HB HZ
  generalize hb3 : w2.heap.size = B3 at *
  clear hb3 w2
  have ca : W.drew.cell? ⟨w.heap.size, 0, none⟩ = some (.int .u32 s.a) := HK0.out.cell 0 _ rfl
  have cb : W.drew.cell? ⟨w.heap.size, 1, none⟩ = some (.int .u32 s.b) := HK0.out.cell 1 _ rfl
  have cc : W.drew.cell? ⟨w.heap.size, 2, none⟩ = some (.int .u32 s.c) := HK0.out.cell 2 _ rfl
  have cd : W.drew.cell? ⟨w.heap.size, 3, none⟩ = some (.int .u32 s.d) := HK0.out.cell 3 _ rfl
  have ce : W.drew.cell? ⟨w.heap.size, 4, none⟩ = some (.int .u32 s.e) := HK0.out.cell 4 _ rfl
  go_wp2
  go_region_held3 (fun X => X.cell? ⟨w.heap.size, 0, none⟩ = some (.int .u32 s.a) ∧ X.cell? ⟨w.heap.size, 1, none⟩ = some (.int .u32 s.b) ∧ X.cell? ⟨w.heap.size, 2, none⟩ = some (.int .u32 s.c) ∧ X.cell? ⟨w.heap.size, 3, none⟩ = some (.int .u32 s.d) ∧ X.cell? ⟨w.heap.size, 4, none⟩ = some (.int .u32 s.e)) (exact ⟨ca, cb, cc, cd, ce⟩) (fail)
  -- loop
  go_wp2
  go_loopw [6, 7, 8, 9, 10, 29] (fun a b c d e i wr => ∃ t : Nat, t ≤ 80 ∧ i = .int .i64 (t : Int) ∧ a = .int .u32 (rnds (wsch p) t s).a ∧ b = .int .u32 (rnds (wsch p) t s).b ∧ c = .int .u32 (rnds (wsch p) t s).c ∧ d = .int .u32 (rnds (wsch p) t s).d ∧ e = .int .u32 (rnds (wsch p) t s).e ∧ Hid (Blk wr B3 cs) ∧ Hid (Blk wr w.heap.size (wv s.l)) ∧ Hid (Blk wr (w.heap.size + 1 + 1) (wv (zs 5))) ∧ Hid (Below w.heap.size w wr)) (fun _ _ _ _ _ i _ => 80 - (intOf i).toNat)
  case atStart => exact ⟨0, by omega, rfl, rfl, rfl, rfl, rfl, rfl, HK3.out, HK0.out, HK2.out, HBW.out.drew⟩
  case round =>
    obtain ⟨t, ht, rfl, rfl, rfl, rfl, rfl, rfl, K3, K0, K2, HB⟩ := hrel
    clear HK3 HK0 HK2 HBW ca cb cc cd ce hlt3
    obtain ⟨uA, uB, uC, uD, uE⟩ := rnds_ok (wsch p) s hs t
    by_cases hlt : t < 80
    · have hti : ((t : Nat) : Int) < 80 := by omega
      have hcw : wr.drew.cell? ⟨B3, t, none⟩ = some (.int .u32 (wsch p t)) := K3.out.cell t _ (HG.out t hlt)
      have HS1 : Hid (rnds (wsch p) (t + 1) s = ⟨tt (wsch p) t (rnds (wsch p) t s).a (rnds (wsch p) t s).b (rnds (wsch p) t s).c (rnds (wsch p) t s).d (rnds (wsch p) t s).e, (rnds (wsch p) t s).a, rl30 (rnds (wsch p) t s).b, (rnds (wsch p) t s).c, (rnds (wsch p) t s).d⟩) := rfl
      have uW := wsch_u p t
      generalize (rnds (wsch p) t s).a = A at *
      generalize (rnds (wsch p) t s).b = B at *
      generalize (rnds (wsch p) t s).c = C at *
      generalize (rnds (wsch p) t s).d = D at *
      generalize (rnds (wsch p) t s).e = E at *
      have u5 := rl5_u A
      obtain ⟨a0, a1⟩ := uA
      have uA : U32 A := ⟨a0, a1⟩
      obtain ⟨b0, b1⟩ := uB
      have uB : U32 B := ⟨b0, b1⟩
      obtain ⟨e0, e1⟩ := uE
      rcases (show t < 20 ∨ (20 ≤ t ∧ t < 40) ∨ (40 ≤ t ∧ t < 60) ∨ 60 ≤ t by omega) with h | ⟨h, h'⟩ | ⟨h, h'⟩ | h
      · have hdv : ((t : Nat) : Int) / 20 = 0 := by omega
        have HF : Hid (ff t B C D = bits .or .u32 (bits .and .u32 B C) (bits .and .u32 (bits .xor .u32 IntKind.u32.max B) D)) := (by unfold ff; rw [if_pos (by omega)] : ff t B C D = bits .or .u32 (bits .and .u32 B C) (bits .and .u32 (bits .xor .u32 IntKind.u32.max B) D))
        have HKK : Hid (kk t = 1518500249) := (by unfold kk; rw [if_pos (by omega)] : kk t = 1518500249)
        have HT : Hid (IntKind.u32.wrap (IntKind.u32.wrap (IntKind.u32.wrap (IntKind.u32.wrap (rl5 A + bits .or .u32 (bits .and .u32 B C) (bits .and .u32 (bits .xor .u32 IntKind.u32.max B) D)) + E) + 1518500249) + wsch p t) = tt (wsch p) t A B C D E) := (by unfold tt; rw [HF.out, HKK.out] : _ = tt (wsch p) t A B C D E)
        have fu : U32 (bits .or .u32 (bits .and .u32 B C) (bits .and .u32 (bits .xor .u32 IntKind.u32.max B) D)) := bits_u32 _ _ _
        clear HF HKK
        go_wp2
        go_region_held3 (fun X => X.cell? ⟨B3, t, none⟩ = some (.int .u32 (wsch p t))) (exact hcw) (first | (go_at_call 322; refine (Rot5_any A uA _).mono ?_; rintro e w' ⟨rfl, rfl⟩))
        go_wp2_with fail
        refine (Rot30_any B uB _).mono ?_
        rintro e w' ⟨rfl, hw'⟩
        rw [hw']
        clear hw' w'
        go_wp2
        exact ⟨⟨t + 1, by omega, by go_num, by rw [HS1.out, HT.out], by rw [HS1.out], by rw [HS1.out], by rw [HS1.out], by rw [HS1.out], K3.out, K0.out, K2.out, HB.out.drew⟩, by simp [intOf]; omega⟩
      · have hdv : ((t : Nat) : Int) / 20 = 1 := by omega
        have HF : Hid (ff t B C D = bits .xor .u32 (bits .xor .u32 B C) D) := (by unfold ff; rw [if_neg (by omega)]; rw [if_pos (by omega)] : ff t B C D = bits .xor .u32 (bits .xor .u32 B C) D)
        have HKK : Hid (kk t = 1859775393) := (by unfold kk; rw [if_neg (by omega)]; rw [if_pos (by omega)] : kk t = 1859775393)
        have HT : Hid (IntKind.u32.wrap (IntKind.u32.wrap (IntKind.u32.wrap (IntKind.u32.wrap (rl5 A + bits .xor .u32 (bits .xor .u32 B C) D) + E) + 1859775393) + wsch p t) = tt (wsch p) t A B C D E) := (by unfold tt; rw [HF.out, HKK.out] : _ = tt (wsch p) t A B C D E)
        have fu : U32 (bits .xor .u32 (bits .xor .u32 B C) D) := bits_u32 _ _ _
        clear HF HKK
        go_wp2
        go_region_held3 (fun X => X.cell? ⟨B3, t, none⟩ = some (.int .u32 (wsch p t))) (exact hcw) (first | (go_at_call 322; refine (Rot5_any A uA _).mono ?_; rintro e w' ⟨rfl, rfl⟩))
        go_wp2_with fail
        refine (Rot30_any B uB _).mono ?_
        rintro e w' ⟨rfl, hw'⟩
        rw [hw']
        clear hw' w'
        go_wp2
        exact ⟨⟨t + 1, by omega, by go_num, by rw [HS1.out, HT.out], by rw [HS1.out], by rw [HS1.out], by rw [HS1.out], by rw [HS1.out], K3.out, K0.out, K2.out, HB.out.drew⟩, by simp [intOf]; omega⟩
      · have hdv : ((t : Nat) : Int) / 20 = 2 := by omega
        have HF : Hid (ff t B C D = bits .or .u32 (bits .or .u32 (bits .and .u32 B C) (bits .and .u32 B D)) (bits .and .u32 C D)) := (by unfold ff; rw [if_neg (by omega)]; rw [if_neg (by omega)]; rw [if_pos (by omega)] : ff t B C D = bits .or .u32 (bits .or .u32 (bits .and .u32 B C) (bits .and .u32 B D)) (bits .and .u32 C D))
        have HKK : Hid (kk t = 2400959708) := (by unfold kk; rw [if_neg (by omega)]; rw [if_neg (by omega)]; rw [if_pos (by omega)] : kk t = 2400959708)
        have HT : Hid (IntKind.u32.wrap (IntKind.u32.wrap (IntKind.u32.wrap (IntKind.u32.wrap (rl5 A + bits .or .u32 (bits .or .u32 (bits .and .u32 B C) (bits .and .u32 B D)) (bits .and .u32 C D)) + E) + 2400959708) + wsch p t) = tt (wsch p) t A B C D E) := (by unfold tt; rw [HF.out, HKK.out] : _ = tt (wsch p) t A B C D E)
        have fu : U32 (bits .or .u32 (bits .or .u32 (bits .and .u32 B C) (bits .and .u32 B D)) (bits .and .u32 C D)) := bits_u32 _ _ _
        clear HF HKK
        go_wp2
        go_region_held3 (fun X => X.cell? ⟨B3, t, none⟩ = some (.int .u32 (wsch p t))) (exact hcw) (first | (go_at_call 322; refine (Rot5_any A uA _).mono ?_; rintro e w' ⟨rfl, rfl⟩))
        go_wp2_with fail
        refine (Rot30_any B uB _).mono ?_
        rintro e w' ⟨rfl, hw'⟩
        rw [hw']
        clear hw' w'
        go_wp2
        exact ⟨⟨t + 1, by omega, by go_num, by rw [HS1.out, HT.out], by rw [HS1.out], by rw [HS1.out], by rw [HS1.out], by rw [HS1.out], K3.out, K0.out, K2.out, HB.out.drew⟩, by simp [intOf]; omega⟩
      · have hdv : ((t : Nat) : Int) / 20 = 3 := by omega
        have HF : Hid (ff t B C D = bits .xor .u32 (bits .xor .u32 B C) D) := (by unfold ff; rw [if_neg (by omega)]; rw [if_neg (by omega)]; rw [if_neg (by omega)]; skip : ff t B C D = bits .xor .u32 (bits .xor .u32 B C) D)
        have HKK : Hid (kk t = 3395469782) := (by unfold kk; rw [if_neg (by omega)]; rw [if_neg (by omega)]; rw [if_neg (by omega)]; skip : kk t = 3395469782)
        have HT : Hid (IntKind.u32.wrap (IntKind.u32.wrap (IntKind.u32.wrap (IntKind.u32.wrap (rl5 A + bits .xor .u32 (bits .xor .u32 B C) D) + E) + 3395469782) + wsch p t) = tt (wsch p) t A B C D E) := (by unfold tt; rw [HF.out, HKK.out] : _ = tt (wsch p) t A B C D E)
        have fu : U32 (bits .xor .u32 (bits .xor .u32 B C) D) := bits_u32 _ _ _
        clear HF HKK
        go_wp2
        go_region_held3 (fun X => X.cell? ⟨B3, t, none⟩ = some (.int .u32 (wsch p t))) (exact hcw) (first | (go_at_call 322; refine (Rot5_any A uA _).mono ?_; rintro e w' ⟨rfl, rfl⟩))
        go_wp2_with fail
        refine (Rot30_any B uB _).mono ?_
        rintro e w' ⟨rfl, hw'⟩
        rw [hw']
        clear hw' w'
        go_wp2
        exact ⟨⟨t + 1, by omega, by go_num, by rw [HS1.out, HT.out], by rw [HS1.out], by rw [HS1.out], by rw [HS1.out], by rw [HS1.out], K3.out, K0.out, K2.out, HB.out.drew⟩, by simp [intOf]; omega⟩
    · obtain rfl : t = 80 := by omega
      have HEa : Hid (IntKind.u32.wrap (s.a + (rnds (wsch p) 80 s).a) = (stirS s p).a) := (rfl : IntKind.u32.wrap (s.a + (rnds (wsch p) 80 s).a) = (stirS s p).a)
      have HEb : Hid (IntKind.u32.wrap (s.b + (rnds (wsch p) 80 s).b) = (stirS s p).b) := (rfl : IntKind.u32.wrap (s.b + (rnds (wsch p) 80 s).b) = (stirS s p).b)
      have HEc : Hid (IntKind.u32.wrap (s.c + (rnds (wsch p) 80 s).c) = (stirS s p).c) := (rfl : IntKind.u32.wrap (s.c + (rnds (wsch p) 80 s).c) = (stirS s p).c)
      have HEd : Hid (IntKind.u32.wrap (s.d + (rnds (wsch p) 80 s).d) = (stirS s p).d) := (rfl : IntKind.u32.wrap (s.d + (rnds (wsch p) 80 s).d) = (stirS s p).d)
      have HEe : Hid (IntKind.u32.wrap (s.e + (rnds (wsch p) 80 s).e) = (stirS s p).e) := (rfl : IntKind.u32.wrap (s.e + (rnds (wsch p) 80 s).e) = (stirS s p).e)
      generalize (rnds (wsch p) 80 s).a = A at *
      generalize (rnds (wsch p) 80 s).b = B at *
      generalize (rnds (wsch p) 80 s).c = C at *
      generalize (rnds (wsch p) 80 s).d = D at *
      generalize (rnds (wsch p) 80 s).e = E at *
      rw [show (((80 : Nat)) : Int) = (80 : Int) from rfl]
      clear K3
      have hbd : (((((wv (zs 5)).set 0 (.int .u32 A)).set 1 (.int .u32 B)).set 2 (.int .u32 C)).set 3 (.int .u32 D)).set 4 (.int .u32 E) = [.int .u32 A, .int .u32 B, .int .u32 C, .int .u32 D, .int .u32 E] := rfl
      go_wp2
      go_loopw [94] (fun i wr => ∃ k : Nat, k ≤ 5 ∧ i = .int .i64 (k : Int) ∧ Hid (Blk wr w.heap.size (wv (mix s (stirS s p) k))) ∧ Hid (Blk wr (w.heap.size + 1 + 1) (wv (zs 5))) ∧ Hid (Below w.heap.size w wr)) (fun i _ => 5 - (intOf i).toNat)
      case atStart => exact ⟨0, by omega, rfl, K0.out, K2.out, HB.out⟩
      case round =>
        obtain ⟨k, hk, rfl, K0, K2, HB⟩ := hrel
        by_cases hk5 : k < 5
        · rcases (show k = 0 ∨ k = 1 ∨ k = 2 ∨ k = 3 ∨ k = 4 by omega) with rfl | rfl | rfl | rfl | rfl
          · have hix : ∀ x : World, (Instr.index 311 (.agg #[.int .u32 A, .int .u32 B, .int .u32 C, .int .u32 D, .int .u32 E]) (.int .i64 0)).run Tryz.prog x = .ok (.int .u32 A) x := run_index_arr 311 262 5 .u32 Tryz.underlying311 Tryz.underlying262 sizeW [.int .u32 A, .int .u32 B, .int .u32 C, .int .u32 D, .int .u32 E] 0 (by omega) (.int .u32 A) rfl
            have hc := K0.out.cell 0 (.int .u32 s.a) rfl
            have hf := K0.out.free 0
            have HN : Hid (Blk (wr.setCell ⟨w.heap.size, 0, none⟩ (.int .u32 (IntKind.u32.wrap (s.a + A)))) w.heap.size (wv (mix s (stirS s p) (0 + 1)))) := by
              have := K0.out.set 0 (.int .u32 (IntKind.u32.wrap (s.a + A)))
              rw [HEa.out] at this ⊢
              exact this
            have HK2 : Hid (∀ v, Blk (wr.setCell ⟨w.heap.size, 0, none⟩ v) (w.heap.size + 1 + 1) (wv (zs 5))) := fun v => K2.out.setOther (by omega) _ _
            have HB2 : Hid (∀ v, Below w.heap.size w (wr.setCell ⟨w.heap.size, 0, none⟩ v)) := fun v => HB.out.setCell (Nat.le_refl _) _
            go_wp2
            exact ⟨⟨0 + 1, by omega, by go_num, HN.out, HK2.out _, HB2.out _⟩, by simp [intOf]⟩
          · have hix : ∀ x : World, (Instr.index 311 (.agg #[.int .u32 A, .int .u32 B, .int .u32 C, .int .u32 D, .int .u32 E]) (.int .i64 1)).run Tryz.prog x = .ok (.int .u32 B) x := run_index_arr 311 262 5 .u32 Tryz.underlying311 Tryz.underlying262 sizeW [.int .u32 A, .int .u32 B, .int .u32 C, .int .u32 D, .int .u32 E] 1 (by omega) (.int .u32 B) rfl
            have hc := K0.out.cell 1 (.int .u32 s.b) rfl
            have hf := K0.out.free 1
            have HN : Hid (Blk (wr.setCell ⟨w.heap.size, 1, none⟩ (.int .u32 (IntKind.u32.wrap (s.b + B)))) w.heap.size (wv (mix s (stirS s p) (1 + 1)))) := by
              have := K0.out.set 1 (.int .u32 (IntKind.u32.wrap (s.b + B)))
              rw [HEb.out] at this ⊢
              exact this
            have HK2 : Hid (∀ v, Blk (wr.setCell ⟨w.heap.size, 1, none⟩ v) (w.heap.size + 1 + 1) (wv (zs 5))) := fun v => K2.out.setOther (by omega) _ _
            have HB2 : Hid (∀ v, Below w.heap.size w (wr.setCell ⟨w.heap.size, 1, none⟩ v)) := fun v => HB.out.setCell (Nat.le_refl _) _
            go_wp2
            exact ⟨⟨1 + 1, by omega, by go_num, HN.out, HK2.out _, HB2.out _⟩, by simp [intOf]⟩
          · have hix : ∀ x : World, (Instr.index 311 (.agg #[.int .u32 A, .int .u32 B, .int .u32 C, .int .u32 D, .int .u32 E]) (.int .i64 2)).run Tryz.prog x = .ok (.int .u32 C) x := run_index_arr 311 262 5 .u32 Tryz.underlying311 Tryz.underlying262 sizeW [.int .u32 A, .int .u32 B, .int .u32 C, .int .u32 D, .int .u32 E] 2 (by omega) (.int .u32 C) rfl
            have hc := K0.out.cell 2 (.int .u32 s.c) rfl
            have hf := K0.out.free 2
            have HN : Hid (Blk (wr.setCell ⟨w.heap.size, 2, none⟩ (.int .u32 (IntKind.u32.wrap (s.c + C)))) w.heap.size (wv (mix s (stirS s p) (2 + 1)))) := by
              have := K0.out.set 2 (.int .u32 (IntKind.u32.wrap (s.c + C)))
              rw [HEc.out] at this ⊢
              exact this
            have HK2 : Hid (∀ v, Blk (wr.setCell ⟨w.heap.size, 2, none⟩ v) (w.heap.size + 1 + 1) (wv (zs 5))) := fun v => K2.out.setOther (by omega) _ _
            have HB2 : Hid (∀ v, Below w.heap.size w (wr.setCell ⟨w.heap.size, 2, none⟩ v)) := fun v => HB.out.setCell (Nat.le_refl _) _
            go_wp2
            exact ⟨⟨2 + 1, by omega, by go_num, HN.out, HK2.out _, HB2.out _⟩, by simp [intOf]⟩
          · have hix : ∀ x : World, (Instr.index 311 (.agg #[.int .u32 A, .int .u32 B, .int .u32 C, .int .u32 D, .int .u32 E]) (.int .i64 3)).run Tryz.prog x = .ok (.int .u32 D) x := run_index_arr 311 262 5 .u32 Tryz.underlying311 Tryz.underlying262 sizeW [.int .u32 A, .int .u32 B, .int .u32 C, .int .u32 D, .int .u32 E] 3 (by omega) (.int .u32 D) rfl
            have hc := K0.out.cell 3 (.int .u32 s.d) rfl
            have hf := K0.out.free 3
            have HN : Hid (Blk (wr.setCell ⟨w.heap.size, 3, none⟩ (.int .u32 (IntKind.u32.wrap (s.d + D)))) w.heap.size (wv (mix s (stirS s p) (3 + 1)))) := by
              have := K0.out.set 3 (.int .u32 (IntKind.u32.wrap (s.d + D)))
              rw [HEd.out] at this ⊢
              exact this
            have HK2 : Hid (∀ v, Blk (wr.setCell ⟨w.heap.size, 3, none⟩ v) (w.heap.size + 1 + 1) (wv (zs 5))) := fun v => K2.out.setOther (by omega) _ _
            have HB2 : Hid (∀ v, Below w.heap.size w (wr.setCell ⟨w.heap.size, 3, none⟩ v)) := fun v => HB.out.setCell (Nat.le_refl _) _
            go_wp2
            exact ⟨⟨3 + 1, by omega, by go_num, HN.out, HK2.out _, HB2.out _⟩, by simp [intOf]⟩
          · have hix : ∀ x : World, (Instr.index 311 (.agg #[.int .u32 A, .int .u32 B, .int .u32 C, .int .u32 D, .int .u32 E]) (.int .i64 4)).run Tryz.prog x = .ok (.int .u32 E) x := run_index_arr 311 262 5 .u32 Tryz.underlying311 Tryz.underlying262 sizeW [.int .u32 A, .int .u32 B, .int .u32 C, .int .u32 D, .int .u32 E] 4 (by omega) (.int .u32 E) rfl
            have hc := K0.out.cell 4 (.int .u32 s.e) rfl
            have hf := K0.out.free 4
            have HN : Hid (Blk (wr.setCell ⟨w.heap.size, 4, none⟩ (.int .u32 (IntKind.u32.wrap (s.e + E)))) w.heap.size (wv (mix s (stirS s p) (4 + 1)))) := by
              have := K0.out.set 4 (.int .u32 (IntKind.u32.wrap (s.e + E)))
              rw [HEe.out] at this ⊢
              exact this
            have HK2 : Hid (∀ v, Blk (wr.setCell ⟨w.heap.size, 4, none⟩ v) (w.heap.size + 1 + 1) (wv (zs 5))) := fun v => K2.out.setOther (by omega) _ _
            have HB2 : Hid (∀ v, Below w.heap.size w (wr.setCell ⟨w.heap.size, 4, none⟩ v)) := fun v => HB.out.setCell (Nat.le_refl _) _
            go_wp2
            exact ⟨⟨4 + 1, by omega, by go_num, HN.out, HK2.out _, HB2.out _⟩, by simp [intOf]⟩
        · obtain rfl : k = 5 := by omega
          have HX : Hid (Blk wr w.heap.size (wv (stirS s p).l)) := K0.out
          clear K0
          have HL5 : Hid ((wv (stirS s p).l).length = 5) := (rfl : (wv (stirS s p).l).length = 5)
          have HO5 : Hid (∀ v ∈ wv (stirS s p).l, v.oneCell' = true) := wv_one _
          generalize hcs : wv (stirS s p).l = rs at *
          have HCS : Hid (wv (stirS s p).l = rs) := hcs
          clear hcs
          have HZ : Hid ((wv (zs 5)).length = 5) := (by rw [wv_length]; unfold zs; simp : (wv (zs 5)).length = 5)
          have HT : Hid (wr.there (w.heap.size + 1 + 1) 0 rs.toArray.size) := K2.out.there _ (by rw [HZ.out]; simp [HL5.out])
          have HI : Hid ((Tryz.prog.info? 311).map (·.size) = some rs.toArray.size) := (by rw [List.size_toArray, HL5.out]; exact size5 : (Tryz.prog.info? 311).map (·.size) = some rs.toArray.size)
          have HA : Hid (rs.toArray.all (·.oneCell') = true) := all_oneCell_toArray HO5.out
          rw [show (((5 : Nat)) : Int) = (5 : Int) from rfl]
          go_wp2_with (first | refine wpList_load_mid rfl 311 (.tmp 2) rfl w.heap.size 0 rfl rs _ HX.out.range Tryz.underlying311 rfl (by rw [HL5.out]; exact size5) ?_ | refine wpList_store_mid rfl 311 (.tmp 4) (.tmp 105) rfl (w.heap.size + 1 + 1) 0 rs.toArray rfl rfl HT.out HI.out HA.out ?_)
          have HB4 : Hid (Below w.heap.size w (wr.setCells (w.heap.size + 1 + 1) 0 rs)) := bel_setCells HB.out (by omega) _ _
          have HRg : (wr.setCells (w.heap.size + 1 + 1) 0 rs).rangeAt (w.heap.size + 1 + 1) 0 rs := World.rangeAt_setCells_same _ _ _ _ (by have := HT.out; rwa [List.size_toArray] at this)
          have hlv := run_loadVar_mid (P := Tryz.prog) (wr.setCells (w.heap.size + 1 + 1) 0 rs) (w.heap.size + 1 + 1) 0 311 rs _ HRg Tryz.underlying311 rfl (by rw [HL5.out]; exact size5)
          refine bodyPost_ret (v := .agg rs.toArray) ?_ rfl ⟨by rw [HCS.out], HB4.out⟩
          simp [results, Tryz.results277, Act.put, asAddr, hlv]

end Bs
end Go.Proofs.YtlfobdjbnpgchaaGreatDoor

/-
  A Sum in memory; base.New, Len, Write.
-/
set_option linter.unusedVariables false
set_option linter.unusedSimpArgs false
namespace Go.Proofs.YtlfobdjbnpgchaaGreatDoor
open Go.RowKit
namespace Bs

set_option maxRecDepth 100000 in
theorem run_cpS (o : TypeId) (W : World) (b off dLen dCap : Nat) (s : List UInt8) (m : Nat) (hm : m = min s.length dLen) (ht : W.there b off m) :
    (Builtin.copy_ #[67, 9] o #[.slice (some ⟨b, off, none⟩) dLen dCap, .string (str s)]).run Tryz.prog W = .ok (.int .i64 (m : Int)) (W.setCells b off (bv (s.take m))) := by
  have hst := run_storeCells_cells (P := Tryz.prog) b off (bv (s.take m)) 0 W (fun j hj => by rw [bv_length, List.length_take] at hj; simpa using (ht j (by omega)).1) (fun j hj => by rw [bv_length, List.length_take] at hj; simpa using (ht j (by omega)).2) (bv_one _)
  obtain ⟨i, hi, h⟩ := Option.map_eq_some_iff.1 sizeB
  have hmm : s.length.min dLen = m := hm.symm
  have hc : List.take m (List.map (fun b : UInt8 => Value.int IntKind.u8 (b.toNat : Int)) (str s).data.toList) = bv (s.take m) := by
    rw [str_list]
    unfold bv
    rw [List.map_take]
  simp [Builtin.copy_, run_underlying Tryz.underlying67, Builtin.lenOf, str_size, Go.sizeOf, typeInfo, hi, h, Builtin.firstCells, hmm, hc, hst, goInt]

/-- The five words at the beginning. -/
def h0 : St := ⟨1732584193, 4023233417, 2562383102, 271733878, 3285377520⟩
theorem h0_ok : h0.ok := by unfold St.ok U32 h0; decide
def bl (l : List UInt8) (i : Nat) : List UInt8 := (l.drop (64 * i)).take 64
def runS (s : St) (l : List UInt8) : St := (List.range (l.length / 64)).foldl (fun s i => stirS s (bl l i)) s
theorem bl_app (g y : List UInt8) (i : Nat) (h : i < g.length / 64) : bl (g ++ y) i = bl g i := by
  unfold bl
  rw [List.drop_append_of_le_length (by omega), List.take_append_of_le_length (by simp; omega)]
theorem fold_ext {f g : St → Nat → St} : ∀ (l : List Nat) (s : St), (∀ i ∈ l, ∀ s, f s i = g s i) → l.foldl f s = l.foldl g s
  | [], _, _ => rfl
  | i :: l, s, h => by
    rw [List.foldl_cons, List.foldl_cons, h i (by simp)]
    exact fold_ext l _ (fun j hj => h j (by simp [hj]))
theorem runS_same (s : St) (g y : List UInt8) (h : (g ++ y).length / 64 = g.length / 64) : runS s (g ++ y) = runS s g := by
  unfold runS
  rw [h]
  exact fold_ext _ _ (fun i hi s => by rw [bl_app g y i (List.mem_range.1 hi)])
theorem runS_next (s : St) (g y : List UInt8) (h : (g ++ y).length / 64 = g.length / 64 + 1) : runS s (g ++ y) = stirS (runS s g) (bl (g ++ y) (g.length / 64)) := by
  unfold runS
  have e := fold_ext (f := fun s i => stirS s (bl (g ++ y) i)) (g := fun s i => stirS s (bl g i)) (List.range (g.length / 64)) s (fun i hi s => by rw [bl_app g y i (List.mem_range.1 hi)])
  rw [h, List.range_succ, List.foldl_append, List.foldl_cons, List.foldl_nil, e]
theorem runS_ok (s : St) (hs : s.ok) (l : List UInt8) : (runS s l).ok := by
  unfold runS
  generalize List.range (l.length / 64) = r
  induction r generalizing s with
  | nil => exact hs
  | cons i r ih =>
    rw [List.foldl_cons]
    exact ih _ (stirS_ok _ _)

/-- A Sum in memory that was given l. -/
def SumOf (w : World) (b : Nat) (l : List UInt8) : Prop :=
  ∃ pc : List UInt8, pc.length = 64 ∧ pc.take (l.length % 64) = l.drop (l.length - l.length % 64) ∧ Blk w b (wv (runS h0 l).l ++ (bv pc ++ [.int .i64 (l.length : Int)]))
theorem SumOf.below {w w' : World} {b : Nat} {l : List UInt8} (h : SumOf w b l) (k : Below w.heap.size w w') : SumOf w' b l := by
  obtain ⟨pc, h1, h2, h3⟩ := h
  exact ⟨pc, h1, h2, h3.below k⟩
theorem SumOf.but {bs : List Nat} {w w' : World} {b : Nat} {l : List UInt8} (h : SumOf w b l) (k : But bs w w') (hn : b ∉ bs) : SumOf w' b l := by
  obtain ⟨pc, h1, h2, h3⟩ := h
  exact ⟨pc, h1, h2, h3.but k hn⟩

/-- The zero Sum. -/
def zsum : List Value := wv (List.replicate 5 0) ++ (bv (List.replicate 64 0) ++ [.int .i64 0])
theorem infoS : (Tryz.prog.info? 314).map (fun i => (i.zero, i.size)) = some (some (.agg zsum.toArray), 70) := by kernel_rfl
theorem sizeS : (Tryz.prog.info? 314).map (·.size) = some 70 := by kernel_rfl
theorem zeroS (w : World) : (zeroValue 314).run Tryz.prog w = .ok (.agg zsum.toArray) w := by
  obtain ⟨i, hi, h⟩ := Option.map_eq_some_iff.1 infoS
  have h1 : i.zero = some (.agg zsum.toArray) := congrArg Prod.fst h
  simp [zeroValue, typeInfo, hi, h1]
theorem zsum_new : ((((zsum.set 0 (.int .u32 1732584193)).set 1 (.int .u32 4023233417)).set 2 (.int .u32 2562383102)).set 3 (.int .u32 271733878)).set 4 (.int .u32 3285377520) = wv h0.l ++ (bv (List.replicate 64 0) ++ [.int .i64 ((([] : List UInt8).length : Nat) : Int)]) := rfl

set_option maxRecDepth 100000 in
set_option maxHeartbeats 1000000 in
theorem New_any (w : World) : Calls Tryz.prog 220 #[] w fun e w' => e = .returned (.pointer (some ⟨w.heap.size, 0, none⟩)) ∧ SumOf w' w.heap.size [] ∧ Below w.heap.size w w' := by
  have hz := zeroS
  have hzl : zsum.length = 70 := rfl
  have HN : Hid (((((zsum.set 0 (.int .u32 1732584193)).set 1 (.int .u32 4023233417)).set 2 (.int .u32 2562383102)).set 3 (.int .u32 271733878)).set 4 (.int .u32 3285377520) = wv h0.l ++ (bv (List.replicate 64 0) ++ [.int .i64 ((([] : List UInt8).length : Nat) : Int)])) := zsum_new
  generalize zsum = z at *
  go_enter Tryz.func220, Tryz.ntmps220
  go_wp2
  rw [HN.out]
  go_ret
  exact ⟨rfl, ⟨List.replicate 64 0, by simp, rfl, Blk.new _ _ _⟩, (Below.refl _ w).alloc (Nat.le_refl _) _⟩

end Bs
end Go.Proofs.YtlfobdjbnpgchaaGreatDoor

/-
  (*base.Sum).Write.
-/
set_option linter.unusedVariables false
set_option linter.unusedSimpArgs false
namespace Go.Proofs.YtlfobdjbnpgchaaGreatDoor
open Go.RowKit
namespace Bs

theorem step_cpS {ops : Array Oper} {o : Oper} {a : Act} {W : World} {K : Act → World → Prop} {Q : Exit → Act → World → Prop} {E : Prop} (hgd : o.guard = none) (d x : Operand)
    (ho : o.op = .call { callee := .builtin .copy, args := #[d, x], argTypes := #[67, 9] }) (b off dLen dCap : Nat) (s : List UInt8) (m : Nat) (hm : m = min s.length dLen) (ht : W.there b off m)
    (hd : a.eval d = .slice (some ⟨b, off, none⟩) dLen dCap) (hx : a.eval x = .string (str s)) (h : K (a.put o.dst (.int .i64 (m : Int))) (W.setCells b off (bv (s.take m)))) : if Region.wanted o (yielded ops a.tmps) = true then Oper.wp Tryz.prog o a W K Q else E := by
  have hw : Region.wanted o (yielded ops a.tmps) = true := by simp [Region.wanted, hgd]
  rw [if_pos hw]
  have hrun := run_cpS o.type W b off dLen dCap s m hm ht
  unfold Oper.wp
  simp [execOp, ho, resolve, invoke, builtin, hd, hx, hrun, Result.andThen]
  exact h

/-- The cells of a Sum. -/
def sc (s : St) (pc : List UInt8) (n : Nat) : List Value := wv s.l ++ (bv pc ++ [.int .i64 (n : Int)])
theorem sc_length (s : St) (pc : List UInt8) (n : Nat) (h : pc.length = 64) : (sc s pc n).length = 70 := by simp [sc, wv, St.l, bv, h]
theorem sc_get5 (s : St) (pc : List UInt8) (n j : Nat) (h : pc.length = 64) (hj : j < 64) : (sc s pc n)[5 + j]? = (bv pc)[j]? := by
  unfold sc
  have hl : (wv s.l).length = 5 := rfl
  rw [List.getElem?_append_right (by rw [hl]; omega), hl, show 5 + j - 5 = j by omega, List.getElem?_append_left (by rw [bv_length, h]; exact hj)]
theorem sc_get0 (s : St) (pc : List UInt8) (n j : Nat) (hj : j < 5) : (sc s pc n)[j]? = (wv s.l)[j]? := by
  unfold sc
  have hl : (wv s.l).length = 5 := rfl
  rw [List.getElem?_append_left (by rw [hl]; exact hj)]
theorem sc_get69 (s : St) (pc : List UInt8) (n : Nat) (h : pc.length = 64) : (sc s pc n)[69]? = some (.int .i64 (n : Int)) := by
  unfold sc
  have hl : (wv s.l).length = 5 := rfl
  rw [List.getElem?_append_right (by rw [hl]; omega), hl, List.getElem?_append_right (by rw [bv_length, h]; omega), bv_length, h]
  rfl
/-- Bytes laid over a piece. -/
def lay (pc y : List UInt8) (m : Nat) : List UInt8 := pc.take m ++ y ++ pc.drop (m + y.length)
theorem lay_length (pc y : List UInt8) (m : Nat) (h : pc.length = 64) (hm : m + y.length ≤ 64) : (lay pc y m).length = 64 := by simp [lay]; omega
theorem sc_lay (s : St) (pc y : List UInt8) (n m : Nat) (h : pc.length = 64) (hm : m + y.length ≤ 64) : setL (sc s pc n) (5 + m) (bv y) = sc s (lay pc y m) n := by
  have hl : (wv s.l).length = 5 := rfl
  apply List.ext_getElem?
  intro j
  rw [setL_get _ _ _ _ (by rw [sc_length s pc n h, bv_length]; omega), bv_length]
  rcases (show j < 5 ∨ (5 ≤ j ∧ j < 69) ∨ 69 ≤ j by omega) with hj | ⟨h1, h2⟩ | hj
  · rw [if_neg (by omega), sc_get0 _ _ _ _ hj, sc_get0 _ _ _ _ hj]
  · obtain ⟨i, rfl⟩ : ∃ i, j = 5 + i := ⟨j - 5, by omega⟩
    rw [sc_get5 s pc n i h (by omega), sc_get5 s _ n i (lay_length pc y m h hm) (by omega), bv_get, bv_get, bv_get]
    unfold lay
    by_cases c1 : i < m
    · rw [if_neg (by omega), List.append_assoc, List.getElem?_append_left (by simp; omega), List.getElem?_take, if_pos c1]
    · by_cases c2 : i < m + y.length
      · rw [if_pos (by omega), List.append_assoc, List.getElem?_append_right (by simp; omega), List.getElem?_append_left (by simp; omega)]
        congr 2
        simp
        omega
      · rw [if_neg (by omega), List.append_assoc, List.getElem?_append_right (by simp; omega), List.getElem?_append_right (by simp; omega), List.getElem?_drop]
        congr 2
        simp
        omega
  · rw [if_neg (by omega)]
    by_cases e : j = 69
    · subst e
      rw [sc_get69 s pc n h, sc_get69 s _ n (lay_length pc y m h hm)]
    · rw [List.getElem?_eq_none (by rw [sc_length s pc n h]; omega), List.getElem?_eq_none (by rw [sc_length s _ n (lay_length pc y m h hm)]; omega)]
theorem sc_count (s : St) (pc : List UInt8) (n n' : Nat) (h : pc.length = 64) : (sc s pc n).set 69 (.int .i64 (n' : Int)) = sc s pc n' := by
  have hl : (wv s.l).length = 5 := rfl
  unfold sc
  rw [List.set_append_right _ _ (by rw [hl]; omega), hl, List.set_append_right _ _ (by rw [bv_length, h]; omega), bv_length, h]
  rfl
theorem sc_words (s s' : St) (pc : List UInt8) (n : Nat) (h : pc.length = 64) : setL (sc s pc n) 0 (wv s'.l) = sc s' pc n := by
  have hl : (wv s.l).length = 5 := rfl
  have hl' : (wv s'.l).length = 5 := rfl
  apply List.ext_getElem?
  intro j
  rw [setL_get _ _ _ _ (by rw [sc_length s pc n h, hl']; omega), hl']
  by_cases hj : j < 5
  · rw [if_pos (by omega), sc_get0 _ _ _ _ hj]
    rfl
  · rw [if_neg (by omega)]
    unfold sc
    have e1 : (wv s.l ++ (bv pc ++ [.int .i64 (n : Int)]))[j]? = (bv pc ++ [.int .i64 (n : Int)])[j - 5]? := List.getElem?_append_right (by omega)
    have e2 : (wv s'.l ++ (bv pc ++ [.int .i64 (n : Int)]))[j]? = (bv pc ++ [.int .i64 (n : Int)])[j - 5]? := List.getElem?_append_right (by omega)
    rw [e1, e2]

/-- What one round makes of the piece. -/
theorem lay_take (g r pc : List UInt8) (hp : pc.length = 64) (ht : pc.take (g.length % 64) = g.drop (g.length - g.length % 64)) (k : Nat) (hk : k = min r.length (64 - g.length % 64)) (hr : g.length % 64 + k < 64) :
    (lay pc (r.take k) (g.length % 64)).take ((g ++ r.take k).length % 64) = (g ++ r.take k).drop ((g ++ r.take k).length - (g ++ r.take k).length % 64) := by
  have hkl : (r.take k).length = k := by rw [List.length_take]; omega
  have hm : (g ++ r.take k).length % 64 = g.length % 64 + k := by rw [List.length_append, hkl]; omega
  rw [hm]
  unfold lay
  rw [hkl, List.take_append_of_le_length (by simp; omega), List.take_of_length_le (by simp; omega), ht, List.length_append, hkl, List.drop_append_of_le_length (by omega)]
  congr 2
  omega
theorem lay_full (g r pc : List UInt8) (hp : pc.length = 64) (ht : pc.take (g.length % 64) = g.drop (g.length - g.length % 64)) (k : Nat) (hk : k = min r.length (64 - g.length % 64)) (hr : g.length % 64 + k = 64) :
    lay pc (r.take k) (g.length % 64) = bl (g ++ r.take k) (g.length / 64) ∧ (g ++ r.take k).length / 64 = g.length / 64 + 1 ∧ (g ++ r.take k).length % 64 = 0 := by
  have hkl : (r.take k).length = k := by rw [List.length_take]; omega
  refine ⟨?_, by rw [List.length_append, hkl]; omega, by rw [List.length_append, hkl]; omega⟩
  unfold lay bl
  have e1 : (g ++ r.take k).drop (64 * (g.length / 64)) = g.drop (g.length - g.length % 64) ++ r.take k := by
    rw [List.drop_append_of_le_length (by omega), show 64 * (g.length / 64) = g.length - g.length % 64 by omega]
  have e2 : (g.drop (g.length - g.length % 64) ++ r.take k).length = 64 := by rw [List.length_append, hkl, List.length_drop]; omega
  rw [hkl, List.drop_of_length_le (by omega), List.append_nil, ht, e1]
  exact (List.take_of_length_le (by omega)).symm

theorem sum_part (g r pc : List UInt8) (hp : pc.length = 64) (ht : pc.take (g.length % 64) = g.drop (g.length - g.length % 64)) (k : Nat) (hk : k = min r.length (64 - g.length % 64)) (hr : g.length % 64 + k < 64) (b : Nat) (W : World)
    (h : Blk W b (sc (runS h0 g) (lay pc (r.take k) (g.length % 64)) (g.length + k))) : SumOf W b (g ++ r.take k) := by
  have hkl : (r.take k).length = k := by rw [List.length_take]; omega
  refine ⟨lay pc (r.take k) (g.length % 64), lay_length _ _ _ hp (by omega), lay_take g r pc hp ht k hk hr, ?_⟩
  rw [runS_same h0 g (r.take k) (by rw [List.length_append, hkl]; omega), show (g ++ r.take k).length = g.length + k by rw [List.length_append, hkl]]
  exact h
theorem sum_full (g r pc : List UInt8) (hp : pc.length = 64) (ht : pc.take (g.length % 64) = g.drop (g.length - g.length % 64)) (k : Nat) (hk : k = min r.length (64 - g.length % 64)) (hr : g.length % 64 + k = 64) (b : Nat) (W : World)
    (h : Blk W b (sc (stirS (runS h0 g) (lay pc (r.take k) (g.length % 64))) (lay pc (r.take k) (g.length % 64)) (g.length + k))) : SumOf W b (g ++ r.take k) := by
  have hkl : (r.take k).length = k := by rw [List.length_take]; omega
  obtain ⟨e1, e2, e3⟩ := lay_full g r pc hp ht k hk hr
  refine ⟨lay pc (r.take k) (g.length % 64), lay_length _ _ _ hp (by omega), by rw [e3, List.take_zero, Nat.sub_zero, List.drop_length], ?_⟩
  rw [runS_next h0 g (r.take k) e2, ← e1, show (g ++ r.take k).length = g.length + k by rw [List.length_append, hkl]]
  exact h

theorem run_sl64 (b m : Nat) (hm : m < 64) (X : World) : (Instr.sliceAt 312 (.pointer (some ⟨b, 5, none⟩)) (some (.int .i64 (m : Int))) none none).run Tryz.prog X = .ok (.slice (some ⟨b, 5 + m, none⟩) (64 - m) (64 - m)) X := by
  obtain ⟨i, hi, h⟩ := Option.map_eq_some_iff.1 sizeB
  have h1 : (0 : Int) ≤ (m : Int) := by omega
  have h2 : (m : Int) ≤ 64 := by omega
  have h3 : ¬ 64 = m := by omega
  have h4 : m ≤ 64 := by omega
  simp [Instr.sliceAt, Instr.sureAddr, run_underlying Tryz.underlying312, Instr.sliceBounds, run_sliceBound, Go.sizeOf, typeInfo, hi, h, h1, h2, h3, h4, Addr.add_lit]

/-- The load of a piece, under a name of its own. -/
def veil64 (p : Value) : Sem Value := Instr.loadAt 312 p
theorem veil64_eq (p : Value) : Instr.loadAt 312 p = veil64 p := rfl

attribute [local go_sem ↓] Go.wp_at_zero Go.wp_at_succ
attribute [local go_sem ↓] veil64_eq
set_option maxRecDepth 100000 in
set_option maxHeartbeats 2000000 in
theorem Write_any (b : Nat) (l x : List UInt8) (hlen : l.length + x.length ≤ 1125899906842624) (w : World) (h : SumOf w b l) :
    Calls Tryz.prog 221 #[.pointer (some ⟨b, 0, none⟩), .string (str x)] w fun e w' => e = .returned (.tuple #[]) ∧ SumOf w' b (l ++ x) ∧ But [b] w w' := by
  have HS0 : Hid (SumOf w b l) := h
  clear h
  go_enter Tryz.func221, Tryz.ntmps221
  go_wp2
  go_loopw [1] (fun s wr => ∃ g r : List UInt8, s = .string (str r) ∧ Hid (g ++ r = l ++ x) ∧ g.length + r.length ≤ 1125899906842624 ∧ Hid (SumOf wr b g) ∧ Hid (But [b] w wr)) (fun s _ => match s with | .string s => s.size | _ => 0)
  case atStart => exact ⟨l, x, rfl, rfl, hlen, HS0.out, But.refl _ _⟩
  case round =>
    obtain ⟨g, r, rfl, HE, hgr, HSum, HBut⟩ := hrel
    clear HS0
    have hsr : (str r).size = r.length := str_size r
    by_cases hr0 : r = []
    · subst hr0
      have HE' : Hid (g = l ++ x) := (by simpa using HE.out : g = l ++ x)
      have hemp : (str []).toList.isEmpty = true := by rw [ByteArray.toList_eq]; rfl
      go_wp2
      go_end0
      exact ⟨rfl, by rw [← HE'.out]; exact HSum.out, HBut.out⟩
    · have hne : (str r).toList.isEmpty = false := by
        rw [ByteArray.toList_eq, str_list]
        cases r with
        | nil => exact absurd rfl hr0
        | cons a r => rfl
      have hpos : 0 < r.length := List.length_pos_iff.2 hr0
      obtain ⟨pc, hp, ht, hb⟩ := HSum.out
      have HBk : Hid (Blk wr b (sc (runS h0 g) pc g.length)) := hb
      clear hb HSum hr0
      obtain ⟨k, hk⟩ : ∃ k, k = min r.length (64 - g.length % 64) := ⟨_, rfl⟩
      have HK : Hid (k = min r.length (64 - g.length % 64)) := hk
      have hmi : ((g.length : Nat) : Int) % 64 = ((g.length % 64 : Nat) : Int) := by omega
      have hk1 : 0 < k := by omega
      have hk2 : g.length % 64 + k ≤ 64 := by omega
      have hk3 : k ≤ r.length := by omega
      have hm64 : g.length % 64 < 64 := by omega
      have cN : wr.drew.cell? ⟨b, 69, none⟩ = some (.int .i64 (g.length : Int)) := HBk.out.cell 69 _ (sc_get69 _ _ _ hp)
      have HTh : Hid (wr.drew.there b (5 + g.length % 64) k) := by
        intro j hj
        refine ⟨?_, HBk.out.free _⟩
        obtain ⟨c, hc⟩ : ∃ c, (sc (runS h0 g) pc g.length)[5 + g.length % 64 + j]? = some c := by
          rw [show 5 + g.length % 64 + j = 5 + (g.length % 64 + j) by omega, sc_get5 _ _ _ _ hp (by omega), bv_get, List.getElem?_eq_getElem (by omega)]
          exact ⟨_, rfl⟩
        have := HBk.out.cell _ _ hc
        show (wr.cell? _).isSome = true
        rw [this]
        rfl
      have HSN : Hid (g.length % 64 + k < 64 → ∀ W, Blk W b (sc (runS h0 g) (lay pc (r.take k) (g.length % 64)) (g.length + k)) → SumOf W b (g ++ r.take k)) := fun h W hW => sum_part g r pc hp ht k hk h b W hW
      have HSF : Hid (g.length % 64 + k = 64 → ∀ W, Blk W b (sc (stirS (runS h0 g) (lay pc (r.take k) (g.length % 64))) (lay pc (r.take k) (g.length % 64)) (g.length + k)) → SumOf W b (g ++ r.take k)) := fun h W hW => sum_full g r pc hp ht k hk h b W hW
      have HOK := runS_ok h0 h0_ok g
      clear hk ht
      generalize hmm : g.length % 64 = m at *
      have HM : Hid (g.length % 64 = m) := hmm
      clear hmm
      have htm : (((g.length : Nat) : Int)).tmod 64 = (m : Int) := by rw [Int.tmod_eq_emod_of_nonneg (by omega)]; exact hmi
      have hsl := run_sl64 b m hm64
      have hkl : (r.take k).length = k := by rw [List.length_take]; omega
      have HB1 : Hid (Blk (wr.drew.setCells b (5 + m) (bv (r.take k))) b (sc (runS h0 g) (lay pc (r.take k) m) g.length)) := by
        have := (HBk.out.drew).setCells (vs := bv (r.take k)) (o := 5 + m)
        rwa [sc_lay _ _ _ _ _ hp (by omega)] at this
      have hpl := lay_length pc (r.take k) m hp (by omega)
      have cN1 : (wr.drew.setCells b (5 + m) (bv (r.take k))).cell? ⟨b, 69, none⟩ = some (.int .i64 (g.length : Int)) := HB1.out.cell 69 _ (sc_get69 _ _ _ hpl)
      have fN1 : (wr.drew.setCells b (5 + m) (bv (r.take k))).frozen? ⟨b, 69, none⟩ = false := HB1.out.free 69
      have HBu1 : Hid (But [b] w (wr.drew.setCells b (5 + m) (bv (r.take k)))) := but_setCells HBut.out.drew
      generalize hW1 : wr.drew.setCells b (5 + m) (bv (r.take k)) = W1 at *
      have HW1 : Hid (wr.drew.setCells b (5 + m) (bv (r.take k)) = W1) := hW1
      clear hW1
      have HB2 : Hid (Blk (W1.setCell ⟨b, 69, none⟩ (.int .i64 ((g.length : Int) + (k : Int)))) b (sc (runS h0 g) (lay pc (r.take k) m) (g.length + k))) := by
        have := HB1.out.set 69 (.int .i64 ((g.length : Int) + (k : Int)))
        rwa [show ((g.length : Int) + (k : Int)) = ((g.length + k : Nat) : Int) by omega, sc_count _ _ _ _ hpl, show ((g.length + k : Nat) : Int) = ((g.length : Int) + (k : Int)) by omega] at this
      have HBu2 : Hid (But [b] w (W1.setCell ⟨b, 69, none⟩ (.int .i64 ((g.length : Int) + (k : Int))))) := HBu1.out.setCell (p := ⟨b, 69, none⟩) (by simp) _
      have cN2 : (W1.setCell ⟨b, 69, none⟩ (.int .i64 ((g.length : Int) + (k : Int)))).cell? ⟨b, 69, none⟩ = some (.int .i64 ((g.length : Int) + (k : Int))) := World.cell?_setCell_same _ _ _ cN1
      have HY : Hid ((str r).extract k r.length = str (r.drop k)) := (by rw [str_extract, List.take_length] : (str r).extract k r.length = str (r.drop k))
      have hkr : ((k : Nat) : Int) ≤ ((r.length : Nat) : Int) := by omega
      have HE2 : Hid ((g ++ r.take k) ++ r.drop k = l ++ x) := (by rw [List.append_assoc, List.take_append_drop]; exact HE.out : (g ++ r.take k) ++ r.drop k = l ++ x)
      have hL2 : (g ++ r.take k).length + (r.drop k).length ≤ 1125899906842624 := by rw [List.length_append, hkl, List.length_drop]; omega
      have hms : (str (r.drop k)).size < (str r).size := by rw [str_size, str_size, List.length_drop]; omega
      by_cases hfull : m + k = 64
      · have hmod : (((g.length : Int) + (k : Int)) % 64 == 0) = true := by
          rw [show ((g.length : Int) + (k : Int)) % 64 = 0 by omega]
          rfl
        have HSF' : Hid (∀ W, Blk W b (sc (stirS (runS h0 g) (lay pc (r.take k) m)) (lay pc (r.take k) m) (g.length + k)) → SumOf W b (g ++ r.take k)) := HSF.out hfull
        clear HSF HSN
        generalize lay pc (r.take k) m = pq at *
        generalize runS h0 g = s0 at *
        go_wp2
        go_region_held_law (fun X => X.cell? ⟨b, 69, none⟩ = some (.int .i64 (g.length : Int))) (first | exact cN | (rw [HW1.out]; exact cN1)) (refine step_cpS (by rfl) (.tmp 15) (.tmp 16) (by rfl) b (5 + m) (64 - m) (64 - m) r k HK.out HTh.out (by rfl) (by rfl) ?_)
        rw [HW1.out]
        go_wp2
        rw [HY.out]
        generalize hW2 : W1.setCell ⟨b, 69, none⟩ (.int .i64 ((g.length : Int) + (k : Int))) = W2 at *
        clear hW2
        have hB0 : Blk W2.drew b (sc s0 pq (g.length + k)) := HB2.out.drew
        have c0 : W2.drew.cell? ⟨b, 0, none⟩ = some (.int .u32 s0.a) := hB0.cell 0 _ rfl
        have c1 : W2.drew.cell? ⟨b, 1, none⟩ = some (.int .u32 s0.b) := hB0.cell 1 _ rfl
        have c2 : W2.drew.cell? ⟨b, 2, none⟩ = some (.int .u32 s0.c) := hB0.cell 2 _ rfl
        have c3 : W2.drew.cell? ⟨b, 3, none⟩ = some (.int .u32 s0.d) := hB0.cell 3 _ rfl
        have c4 : W2.drew.cell? ⟨b, 4, none⟩ = some (.int .u32 s0.e) := hB0.cell 4 _ rfl
        have R2 : W2.drew.rangeAt b 5 (bv pq) := fun j v hv => by
          have hj : j < 64 := by have := (List.getElem?_eq_some_iff.1 hv).1; rw [bv_length, hpl] at this; exact this
          exact hB0.cell (5 + j) v (by rw [sc_get5 _ _ _ _ hpl hj]; exact hv)
        have KP : Hid (∀ W3, Below W2.drew.heap.size W2.drew W3 → W3.rangeAt b 5 (bv pq)) := fun W3 hb j v hv => by
          have hB3 : Blk W3 b (sc s0 pq (g.length + k)) := hB0.below hb
          have hj : j < 64 := by have := (List.getElem?_eq_some_iff.1 hv).1; rw [bv_length, hpl] at this; exact this
          exact hB3.cell (5 + j) v (by rw [sc_get5 _ _ _ _ hpl hj]; exact hv)
        have KC : Hid (∀ W3, Below W2.drew.heap.size W2.drew W3 → W3.cell? ⟨b, 0, none⟩ = some (.int .u32 s0.a) ∧ W3.cell? ⟨b, 1, none⟩ = some (.int .u32 s0.b) ∧ W3.cell? ⟨b, 2, none⟩ = some (.int .u32 s0.c) ∧ W3.cell? ⟨b, 3, none⟩ = some (.int .u32 s0.d) ∧ W3.cell? ⟨b, 4, none⟩ = some (.int .u32 s0.e) ∧ ∀ j, W3.frozen? ⟨b, j, none⟩ = false) := fun W3 hb => by
          have hB3 : Blk W3 b (sc s0 pq (g.length + k)) := hB0.below hb
          exact ⟨hB3.cell 0 _ rfl, hB3.cell 1 _ rfl, hB3.cell 2 _ rfl, hB3.cell 3 _ rfl, hB3.cell 4 _ rfl, fun j => hB3.free j⟩
        have KE : Hid (∀ W3, Below W2.drew.heap.size W2.drew W3 → ∀ s1 : St, Blk (((((W3.setCell ⟨b, 0, none⟩ (.int .u32 s1.a)).setCell ⟨b, 1, none⟩ (.int .u32 s1.b)).setCell ⟨b, 2, none⟩ (.int .u32 s1.c)).setCell ⟨b, 3, none⟩ (.int .u32 s1.d)).setCell ⟨b, 4, none⟩ (.int .u32 s1.e)) b (sc s1 pq (g.length + k))) := fun W3 hb s1 => by
          have hB3 : Blk W3 b (sc s0 pq (g.length + k)) := hB0.below hb
          exact ((((hB3.set 0 (.int .u32 s1.a)).set 1 (.int .u32 s1.b)).set 2 (.int .u32 s1.c)).set 3 (.int .u32 s1.d)).set 4 (.int .u32 s1.e)
        have KS : Hid (∀ W3, Below W2.drew.heap.size W2.drew W3 → ∀ s1 : St, (((((W3.setCell ⟨b, 0, none⟩ (.int .u32 s1.a)).setCell ⟨b, 1, none⟩ (.int .u32 s1.b)).setCell ⟨b, 2, none⟩ (.int .u32 s1.c)).setCell ⟨b, 3, none⟩ (.int .u32 s1.d)).setCell ⟨b, 4, none⟩ (.int .u32 s1.e)).rangeAt b 5 (bv pq)) := fun W3 hb s1 j v hv => by
          have hj : j < 64 := by have := (List.getElem?_eq_some_iff.1 hv).1; rw [bv_length, hpl] at this; exact this
          exact (KE.out W3 hb s1).cell (5 + j) v (by rw [sc_get5 _ _ _ _ hpl hj]; exact hv)
        have KB : Hid (∀ W3, Below W2.drew.heap.size W2.drew W3 → ∀ s1 : St, But [b] w (((((W3.setCell ⟨b, 0, none⟩ (.int .u32 s1.a)).setCell ⟨b, 1, none⟩ (.int .u32 s1.b)).setCell ⟨b, 2, none⟩ (.int .u32 s1.c)).setCell ⟨b, 3, none⟩ (.int .u32 s1.d)).setCell ⟨b, 4, none⟩ (.int .u32 s1.e))) := fun W3 hb s1 => by
          have h3 : But [b] w W3 := HBu2.out.drew.trans (But.of_below hb).nil
          exact ((((h3.setCell (p := ⟨b, 0, none⟩) (by simp) _).setCell (p := ⟨b, 1, none⟩) (by simp) _).setCell (p := ⟨b, 2, none⟩) (by simp) _).setCell (p := ⟨b, 3, none⟩) (by simp) _).setCell (p := ⟨b, 4, none⟩) (by simp) _
        have CS : Hid (∀ W, Calls Tryz.prog 277 #[.agg #[.int .u32 s0.a, .int .u32 s0.b, .int .u32 s0.c, .int .u32 s0.d, .int .u32 s0.e], .agg (bv pq).toArray] W fun e w' => e = .returned (.agg #[.int .u32 (stirS s0 pq).a, .int .u32 (stirS s0 pq).b, .int .u32 (stirS s0 pq).c, .int .u32 (stirS s0 pq).d, .int .u32 (stirS s0 pq).e]) ∧ Below W.heap.size W w') := fun W => stir_any s0 HOK pq hpl W
        have ld64 : (veil64 (.pointer (some ⟨b, 5, none⟩))).run Tryz.prog W2.drew = .ok (.agg (bv pq).toArray) W2.drew := run_loadAt_mid _ b 5 312 (bv pq) _ R2 Tryz.underlying312 rfl (by rw [bv_length, hpl]; exact size64)
        generalize stirS s0 pq = s1 at *
        clear HBut HB1 HB2 HBu1 HBu2 HTh hB0 KS KP R2
        generalize (bv pq).toArray = p5 at *
        go_region_with (go_at_call 277; refine (CS.out _).mono ?_; rintro e w3 ⟨rfl, hb3⟩; obtain ⟨q0, q1, q2, q3, q4, qf⟩ := KC.out w3 hb3; have qf0 := qf 0; have qf1 := qf 1; have qf2 := qf 2; have qf3 := qf 3; have qf4 := qf 4; clear qf)
        all_goals go_wp2
        all_goals exact ⟨⟨g ++ r.take k, r.drop k, rfl, HE2.out, hL2, HSF'.out _ (KE.out w3 hb3 s1), KB.out w3 hb3 s1⟩, hms⟩
      · have hmod : (((g.length : Int) + (k : Int)) % 64 == 0) = false := by
          simp only [beq_eq_false_iff_ne, ne_eq]
          omega
        have HSum : Hid (SumOf (W1.setCell ⟨b, 69, none⟩ (.int .i64 ((g.length : Int) + (k : Int)))) b (g ++ r.take k)) := HSN.out (by omega) _ HB2.out
        clear HSF HSN
        go_wp2
        go_region_held_law (fun X => X.cell? ⟨b, 69, none⟩ = some (.int .i64 (g.length : Int))) (first | exact cN | (rw [HW1.out]; exact cN1)) (refine step_cpS (by rfl) (.tmp 15) (.tmp 16) (by rfl) b (5 + m) (64 - m) (64 - m) r k HK.out HTh.out (by rfl) (by rfl) ?_)
        rw [HW1.out]
        go_wp2
        rw [HY.out]
        exact ⟨⟨g ++ r.take k, r.drop k, rfl, HE2.out, hL2, HSum.out, HBu2.out⟩, hms⟩

end Bs
end Go.Proofs.YtlfobdjbnpgchaaGreatDoor
