/-
  A Sum in memory; base.New, Len, Write.
-/
import Derived.Test.YtcnjnlmjgbmjnabDoorSStir
set_option linter.unusedVariables false
set_option linter.unusedSimpArgs false
namespace Go.Proofs.YtcnjnlmjgbmjnabDoor
open Go.RowKit
namespace Bs

set_option maxRecDepth 100000 in
theorem run_cpS (o : TypeId) (W : World) (b off dLen dCap : Nat) (s : List UInt8) (m : Nat) (hm : m = min s.length dLen) (ht : W.there b off m) :
    (Builtin.copy_ #[34, 9] o #[.slice (some ⟨b, off, none⟩) dLen dCap, .string (str s)]).run Tryd.prog W = .ok (.int .i64 (m : Int)) (W.setCells b off (bv (s.take m))) := by
  have hst := run_storeCells_cells (P := Tryd.prog) b off (bv (s.take m)) 0 W (fun j hj => by rw [bv_length, List.length_take] at hj; simpa using (ht j (by omega)).1) (fun j hj => by rw [bv_length, List.length_take] at hj; simpa using (ht j (by omega)).2) (bv_one _)
  obtain ⟨i, hi, h⟩ := Option.map_eq_some_iff.1 sizeB
  have hmm : s.length.min dLen = m := hm.symm
  have hc : List.take m (List.map (fun b : UInt8 => Value.int IntKind.u8 (b.toNat : Int)) (str s).data.toList) = bv (s.take m) := by
    rw [str_list]
    unfold bv
    rw [List.map_take]
  simp [Builtin.copy_, run_underlying Tryd.underlying34, Builtin.lenOf, str_size, Go.sizeOf, typeInfo, hi, h, Builtin.firstCells, hmm, hc, hst, goInt]

/-- The five words at the beginning. -/
def h0 : St := ⟨1732584193, 4023233417, 2562383102, 271733878, 3285377520⟩
theorem h0_ok : h0.ok := by unfold St.ok U32 h0; decide
def bl (l : List UInt8) (i : Nat) : List UInt8 := (l.drop (64 * i)).take 64
def runS (s : St) (l : List UInt8) : St := (List.range (l.length / 64)).foldl (fun s i => stirS s (bl l i)) s
theorem bl_app (g y : List UInt8) (i : Nat) (h : i < g.length / 64) : bl (g ++ y) i = bl g i := by
  unfold bl
  rw [List.drop_append_of_le_length (by omega), List.take_append_of_le_length (by simp; omega)]
theorem fold_ext {f g : St → Nat → St} : ∀ (l : List Nat) (s : St), (∀ i ∈ l, ∀ s, f s i = g s i) → l.foldl f s = l.foldl g s
  | [], _, _ => rfl
  | i :: l, s, h => by
    rw [List.foldl_cons, List.foldl_cons, h i (by simp)]
    exact fold_ext l _ (fun j hj => h j (by simp [hj]))
theorem runS_same (s : St) (g y : List UInt8) (h : (g ++ y).length / 64 = g.length / 64) : runS s (g ++ y) = runS s g := by
  unfold runS
  rw [h]
  exact fold_ext _ _ (fun i hi s => by rw [bl_app g y i (List.mem_range.1 hi)])
theorem runS_next (s : St) (g y : List UInt8) (h : (g ++ y).length / 64 = g.length / 64 + 1) : runS s (g ++ y) = stirS (runS s g) (bl (g ++ y) (g.length / 64)) := by
  unfold runS
  have e := fold_ext (f := fun s i => stirS s (bl (g ++ y) i)) (g := fun s i => stirS s (bl g i)) (List.range (g.length / 64)) s (fun i hi s => by rw [bl_app g y i (List.mem_range.1 hi)])
  rw [h, List.range_succ, List.foldl_append, List.foldl_cons, List.foldl_nil, e]
theorem runS_ok (s : St) (hs : s.ok) (l : List UInt8) : (runS s l).ok := by
  unfold runS
  generalize List.range (l.length / 64) = r
  induction r generalizing s with
  | nil => exact hs
  | cons i r ih =>
    rw [List.foldl_cons]
    exact ih _ (stirS_ok _ _)

/-- A Sum in memory that was given l. -/
def SumOf (w : World) (b : Nat) (l : List UInt8) : Prop :=
  ∃ pc : List UInt8, pc.length = 64 ∧ pc.take (l.length % 64) = l.drop (l.length - l.length % 64) ∧ Blk w b (wv (runS h0 l).l ++ (bv pc ++ [.int .i64 (l.length : Int)]))
theorem SumOf.below {w w' : World} {b : Nat} {l : List UInt8} (h : SumOf w b l) (k : Below w.heap.size w w') : SumOf w' b l := by
  obtain ⟨pc, h1, h2, h3⟩ := h
  exact ⟨pc, h1, h2, h3.below k⟩
theorem SumOf.but {bs : List Nat} {w w' : World} {b : Nat} {l : List UInt8} (h : SumOf w b l) (k : But bs w w') (hn : b ∉ bs) : SumOf w' b l := by
  obtain ⟨pc, h1, h2, h3⟩ := h
  exact ⟨pc, h1, h2, h3.but k hn⟩

/-- The zero Sum. -/
def zsum : List Value := wv (List.replicate 5 0) ++ (bv (List.replicate 64 0) ++ [.int .i64 0])
theorem infoS : (Tryd.prog.info? 52).map (fun i => (i.zero, i.size)) = some (some (.agg zsum.toArray), 70) := by kernel_rfl
theorem sizeS : (Tryd.prog.info? 52).map (·.size) = some 70 := by kernel_rfl
theorem zeroS (w : World) : (zeroValue 52).run Tryd.prog w = .ok (.agg zsum.toArray) w := by
  obtain ⟨i, hi, h⟩ := Option.map_eq_some_iff.1 infoS
  have h1 : i.zero = some (.agg zsum.toArray) := congrArg Prod.fst h
  simp [zeroValue, typeInfo, hi, h1]
theorem zsum_new : ((((zsum.set 0 (.int .u32 1732584193)).set 1 (.int .u32 4023233417)).set 2 (.int .u32 2562383102)).set 3 (.int .u32 271733878)).set 4 (.int .u32 3285377520) = wv h0.l ++ (bv (List.replicate 64 0) ++ [.int .i64 ((([] : List UInt8).length : Nat) : Int)]) := rfl

set_option maxRecDepth 100000 in
set_option maxHeartbeats 1000000 in
theorem New_any (w : World) : Calls Tryd.prog 18 #[] w fun e w' => e = .returned (.pointer (some ⟨w.heap.size, 0, none⟩)) ∧ SumOf w' w.heap.size [] ∧ Below w.heap.size w w' := by
  have hz := zeroS
  have hzl : zsum.length = 70 := rfl
  have HN : Hid (((((zsum.set 0 (.int .u32 1732584193)).set 1 (.int .u32 4023233417)).set 2 (.int .u32 2562383102)).set 3 (.int .u32 271733878)).set 4 (.int .u32 3285377520) = wv h0.l ++ (bv (List.replicate 64 0) ++ [.int .i64 ((([] : List UInt8).length : Nat) : Int)])) := zsum_new
  generalize zsum = z at *
  go_enter Tryd.func18, Tryd.ntmps18
  go_wp2
  rw [HN.out]
  go_ret
  exact ⟨rfl, ⟨List.replicate 64 0, by simp, rfl, Blk.new _ _ _⟩, (Below.refl _ w).alloc (Nat.le_refl _) _⟩

end Bs
end Go.Proofs.YtcnjnlmjgbmjnabDoor
