/- Several texts as one. -/
import Derived.Test.YtpoefoepmigbeaaDoorMgF
import Derived.Deep.QuietTactic
import Derived.Deep.RegionLaw
import Derived.Deep.DrawnRows
import Derived.Stop.RegionWithIn
/-
  The document's small functions: in, IsUnreserved, isSub, triple, says.
-/
set_option linter.unusedVariables false
set_option linter.unusedSimpArgs false
namespace Go.Proofs.YtpoefoepmigbeaaDoor
open Go.RowKit Go.Shelf
namespace Tg
open Oc

theorem contains_of {c : UInt8} {s : ByteArray} {k : Nat} (hk : k < s.size) (h : byt s k = (c.toNat : Int)) : s.data.toList.contains c = true := by
  have : s.data.toList.getD k 0 = c := UInt8.toNat_inj.1 (by unfold byt at h; omega)
  rw [List.contains_iff_mem, ← this, List.getD_eq_getElem?_getD, List.getElem?_eq_getElem (by rw [size_list]; exact hk)]
  exact List.getElem_mem _
theorem contains_not {c : UInt8} {s : ByteArray} (h : ∀ k, k < s.size → byt s k ≠ (c.toNat : Int)) : s.data.toList.contains c = false := by
  cases hh : s.data.toList.contains c with
  | false => rfl
  | true =>
    rw [List.contains_iff_mem] at hh
    obtain ⟨k, hk, e⟩ := List.mem_iff_getElem.1 hh
    exfalso
    refine h k (by rw [← size_list]; exact hk) ?_
    unfold byt
    rw [List.getD_eq_getElem?_getD, List.getElem?_eq_getElem hk]
    simp [e]

theorem unr_eq (c : UInt8) : unr c = (lettI (c.toNat : Int) || digI (c.toNat : Int) || (⟨#[45, 46, 95, 126]⟩ : ByteArray).data.toList.contains c) := rfl

/-- A triple at a place. -/
theorem getD_of (s : ByteArray) (k : Nat) (h : k < s.size) : s.data.toList.getD k 0 = s[k] := at_lt s k h
theorem drop3 (s : ByteArray) (k : Nat) (h : k + 2 < s.size) : s.data.toList.drop k = s.data.toList.getD k 0 :: s.data.toList.getD (k + 1) 0 :: s.data.toList.getD (k + 2) 0 :: s.data.toList.drop (k + 3) := by
  rw [drop_cons s k (by omega), drop_cons s (k + 1) (by omega), drop_cons s (k + 2) (by omega)]
theorem trip_at (s : ByteArray) (k : Nat) (h : k + 2 < s.size) : trip (s.data.toList.drop k) = (s.data.toList.getD k 0 == 37 && (hx (s.data.toList.getD (k + 1) 0) && hx (s.data.toList.getD (k + 2) 0))) := by
  rw [drop3 s k h]; rfl
theorem trip_short (s : ByteArray) (k : Nat) (h : ¬ k + 2 < s.size) : trip (s.data.toList.drop k) = false := by
  cases hh : trip (s.data.toList.drop k) with
  | false => rfl
  | true => have := trip_len hh; rw [List.length_drop, size_list] at this; omega
theorem nxt3 (s : ByteArray) (k : Nat) (h : trip (s.data.toList.drop k) = true) : ∃ x : Sg, sg k (s.data.toList.drop k) = x :: sg (k + 3) (s.data.toList.drop (k + 3)) ∧ x.at_ = k ∧ x.z = [37, s.data.toList.getD (k + 1) 0, s.data.toList.getD (k + 2) 0] ∧ k + 2 < s.size := by
  have hl := trip_len h
  rw [List.length_drop, size_list] at hl
  refine ⟨_, by rw [sg_trip k _ h, List.drop_drop], rfl, ?_, by omega⟩
  dsimp only
  have h2 := trip_at s k (by omega)
  rw [h] at h2
  rw [drop3 s k (by omega)]
  have : s.data.toList.getD k 0 = 37 := by
    have := h2.symm
    simp only [Bool.and_eq_true, beq_iff_eq] at this
    exact this.1
  rw [this]
  rfl
theorem nxt1 (s : ByteArray) (k : Nat) (hk : k < s.size) (h : trip (s.data.toList.drop k) = false) : ∃ x : Sg, sg k (s.data.toList.drop k) = x :: sg (k + 1) (s.data.toList.drop (k + 1)) ∧ x.at_ = k ∧ x.z = [s.data.toList.getD k 0] := by
  rw [drop_cons s k hk] at h ⊢
  exact ⟨_, sg_one k _ _ h, rfl, rfl⟩

set_option maxRecDepth 100000 in
set_option maxHeartbeats 300000 in
theorem triple_any (s : ByteArray) (hs : s.size ≤ 140737488355328) (k : Nat) (hk : k ≤ s.size) (w : World) :
    Calls Tryd.prog 32 #[.string s, .int .i64 (k : Int)] w fun e w' => e = .returned (.bool (trip (s.data.toList.drop k))) ∧ w' = w := by
  by_cases h : k + 2 < s.size
  · have HT : Hid (_) := trip_at s k h
    have h0 : ((s[k].toNat : Nat) : Int) = ((s.data.toList.getD k 0).toNat : Int) := by rw [getD_of s k (by omega)]
    have h1 : ((s[k + 1].toNat : Nat) : Int) = ((s.data.toList.getD (k + 1) 0).toNat : Int) := by rw [getD_of s (k + 1) (by omega)]
    have h2 : ((s[k + 2].toNat : Nat) : Int) = ((s.data.toList.getD (k + 2) 0).toNat : Int) := by rw [getD_of s (k + 2) (by omega)]
    generalize s.data.toList.getD k 0 = c0 at *
    generalize s.data.toList.getD (k + 1) 0 = c1 at *
    generalize s.data.toList.getD (k + 2) 0 = c2 at *
    generalize trip (s.data.toList.drop k) = T at *
    have g1 := c1.toNat_lt
    have g2 := c2.toNat_lt
    have HA : Hid (∀ w, Calls Tryd.prog 49 #[.int .u8 (c1.toNat : Int)] w fun e w' => e = .returned (.bool (hx c1)) ∧ w' = w) := fun w => IsHex_any (c1.toNat : Int) (by omega) (by omega) w
    have HB : Hid (∀ w, Calls Tryd.prog 49 #[.int .u8 (c2.toNat : Int)] w fun e w' => e = .returned (.bool (hx c2)) ∧ w' = w) := fun w => IsHex_any (c2.toNat : Int) (by omega) (by omega) w
    generalize hx c1 = a at *
    generalize hx c2 = b at *
    by_cases hp : c0 = 37
    · have hp2 : ((c0.toNat : Int) == 37) = true := by rw [hp]; rfl
      have HT2 : Hid (T = (a && b)) := by
        have := HT.out
        rw [hp] at this
        exact this
      clear hp HT
      cases a with
      | false =>
        go_enter Tryd.func32, Tryd.ntmps32
        go_wp2_with (go_at_call 49; refine (HA.out _).mono ?_; rintro e w1 ⟨rfl, rfl⟩)
        go_ret
        exact ⟨ret_bool (by rw [HT2.out]; rfl), rfl⟩
      | true =>
        go_enter Tryd.func32, Tryd.ntmps32
        go_wp2_with fail
        refine (HA.out _).mono ?_
        rintro e w1 ⟨rfl, rfl⟩
        go_wp2_with fail
        refine (HB.out _).mono ?_
        rintro e w1 ⟨rfl, rfl⟩
        go_wp2
        go_ret
        exact ⟨ret_bool (by rw [HT2.out]; rfl), rfl⟩
    · have hp2 : ((c0.toNat : Int) == 37) = false := by
        rw [beq_eq_false_iff_ne]
        intro e
        exact hp (UInt8.toNat_inj.1 (by show _ = 37; omega))
      have HT2 : Hid (T = false) := by
        have := HT.out
        rw [show (c0 == 37) = false from by rw [beq_eq_false_iff_ne]; exact hp, Bool.false_and] at this
        exact this
      clear hp HT
      go_enter Tryd.func32, Tryd.ntmps32
      go_wp2
      go_ret
      exact ⟨ret_bool HT2.out.symm, rfl⟩
  · have HT : Hid (_) := trip_short s k h
    generalize trip (s.data.toList.drop k) = T at *
    have hl : ¬ (k : Int) + 2 < (s.size : Int) := by omega
    go_enter Tryd.func32, Tryd.ntmps32
    go_wp2
    go_ret
    exact ⟨ret_bool HT.out.symm, rfl⟩

set_option maxRecDepth 100000 in
set_option maxHeartbeats 300000 in
theorem says_any (s : ByteArray) (hs : s.size ≤ 140737488355328) (k : Nat) (h : k + 2 < s.size) (ht : trip (s.data.toList.drop k) = true) (w : World) :
    Calls Tryd.prog 33 #[.string s, .int .i64 (k : Int)] w fun e w' => e = .returned (.int .u8 ((byteOf (s.data.toList.getD (k + 1) 0) (s.data.toList.getD (k + 2) 0)).toNat : Int)) ∧ w' = w := by
  have h2 := trip_at s k h
  rw [ht] at h2
  have hh : (hx (s.data.toList.getD (k + 1) 0) && hx (s.data.toList.getD (k + 2) 0)) = true := by
    have := h2.symm
    rw [Bool.and_eq_true] at this
    exact this.2
  have he : s.extract (k + 1) (k + 3) = ⟨#[s.data.toList.getD (k + 1) 0, s.data.toList.getD (k + 2) 0]⟩ := eq_list (by
    rw [ext_list, drop_cons s (k + 1) (by omega), drop_cons s (k + 2) (by omega), show k + 3 - (k + 1) = 2 by omega]; rfl)
  clear h2 ht
  generalize s.data.toList.getD (k + 1) 0 = c1 at *
  generalize s.data.toList.getD (k + 2) 0 = c2 at *
  have HC : Hid (∀ w, Calls Tryd.prog 50 #[.string (s.extract (k + 1) (k + 3)), .int .i64 255] w fun e w' => e = .returned (.tuple #[.int .i64 ((byteOf c1 c2).toNat : Int), .int .i64 0]) ∧ w' = w) := fun w => by
    have := rHex_any (⟨#[c1, c2]⟩ : ByteArray) (by show 2 ≤ maxLen; unfold maxLen; decide) 255 (by omega) (by omega) w
    rw [show (⟨#[c1, c2]⟩ : ByteArray).data.toList = [c1, c2] from rfl, num_two, if_pos hh] at this
    rw [he]
    exact this
  have h1 := (byteOf c1 c2).toNat_lt
  clear hh he
  generalize (byteOf c1 c2).toNat = n at *
  have h3 : (n : Int) % 256 = n := by omega
  go_enter Tryd.func33, Tryd.ntmps33
  go_wp2_with (refine (HC.out _).mono ?_; rintro e w1 ⟨rfl, rfl⟩)
  go_ret
  exact ⟨ret_int (by simp), rfl⟩

end Tg
end Go.Proofs.YtpoefoepmigbeaaDoor

/-
  The document's Decode and Encode.
-/
set_option linter.unusedVariables false
set_option linter.unusedSimpArgs false
namespace Go.Proofs.YtpoefoepmigbeaaDoor
open Go.RowKit Go.Shelf
namespace Tg
open Oc

/-- One step of a region that draws: bytes appended. -/
theorem step_ap {ops : Array Oper} {o : Oper} {a : Act} {K : Act → World → Prop} {Q : Exit → Act → World → Prop} {E : Prop} (hgd : o.guard = none) (s x : Operand)
    (ho : o.op = .call { callee := .builtin .append, args := #[s, x], argTypes := #[48, 48] }) (B : Nat) (v : Value) (l us : List UInt8) (n : Nat) (hn : n = us.length) (W : World) (cs : Array Value) (hcs : cs.toList = Lib.byteCells us)
    (hs : a.eval s = v) (hown : Ow B v l W) (hx : a.eval x = .slice (some ⟨W.heap.size, 0, none⟩) n n) (hlen : l.length + us.length ≤ 140737488355328) (hB : B ≤ W.heap.size)
    (h : ∀ v' w', Hid (Ow B v' (l ++ us) w') → Hid (Below B W w') → K (a.put o.dst v') w') : if Region.wanted o (yielded ops a.tmps) = true then Oper.wp Tryd.prog o a (W.alloc (.cells cs 5)) K Q else E := by
  obtain ⟨i0, hi, hz0, hz1, hz2⟩ := inf5
  have hl : (Lib.byteCells us).length = us.length := cells_len us
  have hw : Region.wanted o (yielded ops a.tmps) = true := by simp [Region.wanted, hgd]
  rw [if_pos hw]
  subst hn
  obtain ⟨v', w', hrun, h1, h2, _⟩ := run_append_own (P := Tryd.prog) (w := W.alloc (.cells cs 5)) B 48 o.type 5 i0 (.int .u8 0) 1 1 Tryd.underlying48 hi hz0 hz1 hz2 rfl (by decide) v l.length (Lib.byteCells l) (World.ownsRow.alloc hown _) ⟨W.heap.size, 0, none⟩ us.length us.length (Lib.byteCells us) (by rw [hl, Nat.mul_one])
    (fun j u hj => by
      have e : (W.alloc (.cells cs 5)).heap[W.heap.size]? = some (.cells cs 5 (0, 0)) := heap_alloc_new W _
      rw [show (⟨W.heap.size, 0, none⟩ : Addr).add j = ⟨W.heap.size, j, none⟩ by simp [Addr.add]; omega, Lib.cell_of_heap e]
      rw [← Array.getElem?_toList, hcs]
      exact hj)
    (fun u hu => by
      simp [Lib.byteCells] at hu
      obtain ⟨b, _, rfl⟩ := hu
      rfl) (by unfold maxLen; omega) (by omega) (by simp; omega)
  have := h v' w' (by
    show Ow B v' (l ++ us) w'
    unfold Ow
    rw [List.length_append, cells_app]
    exact h1) (((Below.refl B W).alloc hB _).grown h2 (by simp; omega) (fun k hk => (World.ownsRow.lt hown k hk).1))
  unfold Oper.wp
  simp [execOp, ho, resolve, invoke, builtin, hs, hx, hrun, Result.andThen]
  exact this

end Tg
end Go.Proofs.YtpoefoepmigbeaaDoor

/-
  target: check, isOf.
-/
set_option linter.unusedVariables false
set_option linter.unusedSimpArgs false
namespace Go.Proofs.YtpoefoepmigbeaaDoor
open Go.RowKit Go.Shelf
attribute [local go_sem] Oper.semAt_some
namespace Tg
open Oc

def errL (other : Int) (pre : List Sg) : Int := (pre.getLast?.map fun x => if x.z = [37] then 51 else other).getD 0
theorem errL_app (other : Int) (pre : List Sg) (x : Sg) : errL other (pre ++ [x]) = if x.z = [37] then 51 else other := by simp [errL]
theorem chk_all (ok : UInt8 → Bool) (other : Int) (l : List UInt8) (h : ∀ x ∈ sg 0 l, wrong ok x = false) : chk ok other l = (0, 0) := by
  unfold chk
  rw [List.find?_eq_none.2 (fun x hx => by rw [h x hx]; simp)]
theorem chk_at (ok : UInt8 → Bool) (other : Int) (l : List UInt8) (pre : List Sg) (x : Sg) (rest : List Sg) (e : pre ++ [x] ++ rest = sg 0 l) (h : ∀ y ∈ pre, wrong ok y = false) (hx : wrong ok x = true) : chk ok other l = (x.at_, if x.z = [37] then 51 else other) := by
  unfold chk
  rw [← e, List.append_assoc, List.find?_append, List.find?_eq_none.2 (fun y hy => by rw [h y hy]; simp)]
  simp [hx]

set_option maxRecDepth 100000 in
set_option maxHeartbeats 8000000 in
theorem check_any (s : ByteArray) (hs : s.size ≤ 40000000000) (m : Int) (ok : UInt8 → Bool) (hok : ∀ c : UInt8, (bits BinOp.and IntKind.u8 (cls c) m != 0) = ok c) (h37 : ok 37 = false) (other : Int) (w : World) :
    Calls Tryd.prog 27 #[.string s, .int .u8 m, .int .i64 other] w fun e w' => e = .returned (.tuple #[.int .i64 ((chk ok other s.data.toList).1 : Int), .int .i64 (chk ok other s.data.toList).2]) ∧ Below w.heap.size w w' := by
  have HOK : Hid (∀ c : UInt8, (bits BinOp.and IntKind.u8 (cls c) m != 0) = ok c) := hok
  clear hok
  obtain ⟨w5, hw5⟩ : ∃ w5, w5 = (((((w.alloc (.cells #[.int .u8 m] 64)).alloc (.cells #[.int .i64 other] 23)).alloc (.cells #[.int .i64 0] 3)).alloc (.cells #[.int .i64 0] 23)).alloc (.cells #[.string s] 9)) := ⟨_, rfl⟩
  have hsz5 : w5.heap.size = w.heap.size + 5 := by rw [hw5]; simp
  have b0 : Boxed w5 w.heap.size 64 (.int .u8 m) := by rw [hw5]; exact ((((Boxed.new w _ _).alloc _).alloc _).alloc _).alloc _
  have b1 : Boxed w5 (w.heap.size + 1) 23 (.int .i64 other) := by rw [hw5]; have := (((Boxed.new (w.alloc (.cells #[.int .u8 m] 64)) 23 (.int .i64 other)).alloc (.cells #[.int .i64 0] 3)).alloc (.cells #[.int .i64 0] 23)).alloc (.cells #[.string s] 9); rwa [World.size_alloc] at this
  have b2 : Boxed w5 (w.heap.size + 2) 3 (.int .i64 0) := by rw [hw5]; have := ((Boxed.new ((w.alloc (.cells #[.int .u8 m] 64)).alloc (.cells #[.int .i64 other] 23)) 3 (.int .i64 0)).alloc (.cells #[.int .i64 0] 23)).alloc (.cells #[.string s] 9); rwa [World.size_alloc, World.size_alloc] at this
  have b3 : Boxed w5 (w.heap.size + 3) 23 (.int .i64 0) := by rw [hw5]; have := (Boxed.new (((w.alloc (.cells #[.int .u8 m] 64)).alloc (.cells #[.int .i64 other] 23)).alloc (.cells #[.int .i64 0] 3)) 23 (.int .i64 0)).alloc (.cells #[.string s] 9); rwa [World.size_alloc, World.size_alloc, World.size_alloc] at this
  have b4 : w5.cell? ⟨w.heap.size + 4, 0, none⟩ = some (.string s) := by
    rw [hw5]
    have h := (Boxed.new ((((w.alloc (.cells #[.int .u8 m] 64)).alloc (.cells #[.int .i64 other] 23)).alloc (.cells #[.int .i64 0] 3)).alloc (.cells #[.int .i64 0] 23)) 9 (.string s)).cell
    rwa [World.size_alloc, World.size_alloc, World.size_alloc, World.size_alloc] at h
  have hB5 : Below w.heap.size w w5 := by
    rw [hw5]
    exact ((((((Below.refl _ w).alloc (Nat.le_refl _) _).alloc (by simp) _).alloc (by simp; omega) _).alloc (by simp; omega) _).alloc (by simp; omega) _)
  have HW5 : Hid (_ = _) := hw5
  refine (callsIn_wide (n := 9)).1 ?_
  refine callsIn_of_wp_marks Tryd.func27 rfl trivial ?_ rfl
  simp only [Tryd.ntmps27, List.size_toArray, List.length_cons, List.length_nil, Nat.reduceAdd, Nat.reduceSub, Array.replicate_succ, Array.replicate_zero, List.push_toArray, List.append_toArray, List.nil_append, List.cons_append]
  have hq : ∀ (k : Nat) (cs : Array Value) (W : World), (binOp .eql 53 (.func (.func k) #[] cs) .nilFunc).run Tryd.prog W = .ok (.bool false) W := fun k cs W => by kernel_rfl
  clear hw5
  gi_wp2_with (refine ⟨trivial, ?_⟩; gi_at_call 21; refine (callsIn_wide.2 (signs_any s _)).mono ?_; rintro e w3 ⟨rfl, e3⟩; have e4 := e3.trans HW5.out.symm; subst e4; clear e3)
  simp only [Nat.add_assoc, Nat.reduceAdd]
  clear HW5
  refine wpIn_rangeFunc_ownG rfl (by omega) (gf := 41) (lb := #[.pointer (some ⟨w.heap.size + 4, 0, none⟩)]) rfl trivial (enters_of Tryd.func41 (by kernel_rfl) rfl)
    (signs_stops 8 (w.heap.size + 4) s (by omega) _ b4) keepK_t (keepK_b (by omega)) (Below.refl _ _) (fun _ => rfl)
    (fun (pre : List Sg) W => (((Boxed W w.heap.size 64 (.int .u8 m) ∧ Boxed W (w.heap.size + 1) 23 (.int .i64 other)) ∧ Boxed W (w.heap.size + 2) 3 (.int .i64 0)) ∧ Boxed W (w.heap.size + 3) 23 (.int .i64 0)) ∧ ((Below w.heap.size w W ∧ w.heap.size + 5 ≤ W.heap.size) ∧ ∀ y ∈ pre, wrong ok y = false))
    (fun c pre W => ((Boxed W (w.heap.size + 2) 3 (.int .i64 (lastAt pre : Int)) ∧ Boxed W (w.heap.size + 3) 23 (.int .i64 (errL other pre))) ∧ ((Below w.heap.size w W ∧ w.heap.size + 5 ≤ W.heap.size) ∧ (c = .ret ∧ ∃ p x, pre = p ++ [x] ∧ wrong ok x = true ∧ ∀ y ∈ p, wrong ok y = false))))
    (OwnFrom.and (OwnFrom.and (OwnFrom.and (OwnFrom.and (Own.from (boxed_own _ _ _) _) (Own.from (boxed_own _ _ _) _)) (Own.from (boxed_own _ _ _) _)) (Own.from (boxed_own _ _ _) _)) (OwnFrom.and (OwnFrom.and (ownFrom_below (Nat.le_refl _) (by omega)) (fun _ _ _ _ h hg _ => Nat.le_trans h hg.size)) (ownFrom_pure _ _)))
    (fun c => OwnFrom.and (OwnFrom.and (Own.from (boxed_own _ _ (fun pre : List Sg => .int .i64 (lastAt pre : Int))) _) (Own.from (boxed_own _ _ (fun pre : List Sg => .int .i64 (errL other pre))) _)) (OwnFrom.and (OwnFrom.and (ownFrom_below (Nat.le_refl _) (by omega)) (fun _ _ _ _ h hg _ => Nat.le_trans h hg.size)) (ownFrom_pure _ (fun pre : List Sg => c = .ret ∧ ∃ p x, pre = p ++ [x] ∧ wrong ok x = true ∧ ∀ y ∈ p, wrong ok y = false))))
    ⟨⟨⟨⟨b0, b1⟩, b2⟩, b3⟩, ⟨⟨hB5, by omega⟩, fun y hy => by cases hy⟩⟩
    (fun x : Sg => { tmps := #[.string s, .int .u8 m, .int .i64 other, undef, .pointer (some ⟨w.heap.size, 0, none⟩), .pointer (some ⟨w.heap.size + 1, 0, none⟩), .pointer (some ⟨w.heap.size + 2, 0, none⟩), .pointer (some ⟨w.heap.size + 3, 0, none⟩), .int .i64 (x.at_ : Int), .string (str x.z), .string s, .func (.func 41) #[] #[.pointer (some ⟨w.heap.size + 4, 0, none⟩)], .int .i64 (x.at_ : Int), .string (str x.z), undef, undef, undef, undef, undef, undef, undef, undef, undef, undef, undef, undef, undef, undef, undef], defers := [] }) ?assign ?body ?done ?stop
  case assign =>
    intro l x W K hK
    unfold encS
    gi_wp2
    exact hK
  case body =>
    rintro l pre x W ⟨⟨⟨⟨c0, c1⟩, c2⟩, c3⟩, ⟨⟨hB, hS⟩, hp⟩⟩ hlt
    obtain ⟨p, z, ok0⟩ := x
    dsimp only
    rcases ok0 with ⟨h3, ht⟩ | ⟨h1, ht⟩
    · have HT : Hid (∀ W, Calls Tryd.prog 22 #[.string (str z)] W fun e W' => e = .returned (.bool true) ∧ Below W.heap.size W W') := fun W => by
        have h := isTriple_any (str z) W
        rw [str_size, str_list, ht, h3] at h
        exact h
      gi_wp2_with (refine ⟨trivial, ?_⟩; gi_at_call 22; refine ((callsIn_wide.2 (HT.out _)).inRound l).mono ?_; rintro e W1 ⟨rfl, k1⟩)
      have hF : Fr (w.heap.size + 5) (w.heap.size + 5) W W1 := Fr.of_below k1 hS
      refine ⟨hF.others.from _, hF.keep (by omega) (by omega), ⟨⟨⟨box_below c0 k1 (by omega), box_below c1 k1 (by omega)⟩, box_below c2 k1 (by omega)⟩, box_below c3 k1 (by omega)⟩, ⟨⟨hB.trans (hF.below (by omega) (by omega)), Nat.le_trans hS hF.size⟩, ?_⟩⟩
      intro y hy
      rcases List.mem_append.1 hy with h | h
      · exact hp y h
      · simp at h; subst h; simp [wrong, h3]
    · obtain ⟨a, rfl⟩ : ∃ a, z = [a] := by
        match z, h1 with
        | [a], _ => exact ⟨a, rfl⟩
      have HT : Hid (∀ W, Calls Tryd.prog 22 #[.string (str [a])] W fun e W' => e = .returned (.bool false) ∧ Below W.heap.size W W') := fun W => isTriple_any (str [a]) W
      have hs1 : str [a] = ⟨#[a]⟩ := rfl
      rw [hs1] at HT ⊢
      have hz1 : (⟨#[a]⟩ : ByteArray).size = 1 := rfl
      have h0z : (((⟨#[a]⟩ : ByteArray)[0].toNat : Nat) : Int) = (a.toNat : Int) := rfl
      have HC : Hid (∀ w, Calls Tryd.prog 44 #[.int .u8 (a.toNat : Int)] w fun e w' => e = .returned (.int .u8 (cls a)) ∧ w' = w) := fun w => classOf_any a w
      have hb := HOK.out a
      have hw : wrong ok ⟨p, [a], .inr ⟨h1, ht⟩⟩ = !ok a := rfl
      generalize cls a = v at *
      cases hv : ok a with
      | true =>
        rw [hv] at hb hw
        gi_wp2_with (refine ⟨trivial, ?_⟩; gi_at_call 22; refine ((callsIn_wide.2 (HT.out _)).inRound l).mono ?_; rintro e W1 ⟨rfl, k1⟩; have d0 := box_below c0 k1 (by omega); have e0 : W1.drew.cell? ⟨w.heap.size, 0, none⟩ = _ := d0.cell)
        gi_region_with (refine ⟨trivial, ?_⟩; gi_at_call 44; refine ((callsIn_wide.2 (HC.out _)).inRound l).mono ?_; rintro e w' ⟨rfl, rfl⟩)
        all_goals
          gi_wp2
          have k2 : Below W.heap.size W W1.drew := k1.drew
          have hF : Fr (w.heap.size + 5) (w.heap.size + 5) W W1.drew := Fr.of_below k2 hS
          refine ⟨hF.others.from _, hF.keep (by omega) (by omega), ⟨⟨⟨box_below c0 k2 (by omega), box_below c1 k2 (by omega)⟩, box_below c2 k2 (by omega)⟩, box_below c3 k2 (by omega)⟩, ⟨⟨hB.trans (hF.below (by omega) (by omega)), Nat.le_trans hS hF.size⟩, ?_⟩⟩
          intro y hy
          rcases List.mem_append.1 hy with h | h
          · exact hp y h
          · simp at h; subst h; exact hw
      | false =>
        rw [hv] at hb hw
        by_cases ha : a = 37
        · subst ha
          gi_wp2_with (refine ⟨trivial, ?_⟩; gi_at_call 22; refine ((callsIn_wide.2 (HT.out _)).inRound l).mono ?_; rintro e W1 ⟨rfl, k1⟩; have d0 := box_below c0 k1 (by omega); have e0 : W1.drew.cell? ⟨w.heap.size, 0, none⟩ = _ := d0.cell; have k2 : Below W.heap.size W W1.drew := k1.drew; have d2 := box_below c2 k2 (by omega); have d3 := box_below c3 k2 (by omega); have e2 := d2.cell; have e3 := d3.cell; have f2 := d2.frozen; have f3 := d3.frozen; have e2' : W1.cell? ⟨w.heap.size + 2, 0, none⟩ = _ := d2.cell; have e3' : W1.cell? ⟨w.heap.size + 3, 0, none⟩ = _ := d3.cell; have f2' : W1.frozen? ⟨w.heap.size + 2, 0, none⟩ = false := d2.frozen; have f3' : W1.frozen? ⟨w.heap.size + 3, 0, none⟩ = false := d3.frozen)
          gi_region_with (refine ⟨trivial, ?_⟩; gi_at_call 44; refine ((callsIn_wide.2 (HC.out _)).inRound l).mono ?_; rintro e w' ⟨rfl, rfl⟩)
          all_goals
            gi_wp2
            have hk : Below w.heap.size w W1.drew := hB.trans (k2.mono (by omega))
            have hko := ((Fr.of_below (b := 0) k2 (Nat.le_refl _)).others.trans (KeepsOthers.setCell _ ⟨w.heap.size + 2, 0, none⟩ (.int .i64 (p : Int)))).trans (KeepsOthers.setCell _ ⟨w.heap.size + 3, 0, none⟩ (.int .i64 51))
            refine ⟨hko.from _, ⟨⟨?_, ?_⟩, ⟨⟨(hk.setCell (p := ⟨w.heap.size + 2, 0, none⟩) (by simp) _).setCell (p := ⟨w.heap.size + 3, 0, none⟩) (by simp) _, Nat.le_trans hS hko.size⟩, ⟨rfl, pre, _, rfl, hw, hp⟩⟩⟩⟩
            · rw [lastAt_app]
              exact (d2.set _).other (by omega) _
            · rw [errL_app]
              exact (d3.other (by omega) _).set _
        · have hne : ((⟨#[a]⟩ : ByteArray).toList == [37]) = false := by rw [ByteArray.toList_eq]; simp [ha]
          obtain ⟨A, hA⟩ : ∃ A : ByteArray, A = ⟨#[a]⟩ := ⟨_, rfl⟩
          have h0A : 0 < A.size := by rw [hA]; exact Nat.one_pos
          have h00 : ((A[0].toNat : Nat) : Int) = (a.toNat : Int) := by subst hA; rfl
          rw [← hA] at HT hne hz1 ⊢
          clear hs1 hA h0z
          gi_wp2_with (refine ⟨trivial, ?_⟩; gi_at_call 22; refine ((callsIn_wide.2 (HT.out _)).inRound l).mono ?_; rintro e W1 ⟨rfl, k1⟩; have d0 := box_below c0 k1 (by omega); have e0 : W1.drew.cell? ⟨w.heap.size, 0, none⟩ = _ := d0.cell; have k2 : Below W.heap.size W W1.drew.drew := k1.drew.drew; have d1 := box_below c1 k2 (by omega); have d2 := box_below c2 k2 (by omega); have d3 := box_below c3 k2 (by omega); have e1 := d1.cell; have e2 := d2.cell; have e3 := d3.cell; have f2 := d2.frozen; have f3 := d3.frozen; have e1' : W1.cell? ⟨w.heap.size + 1, 0, none⟩ = _ := d1.cell; have e2' : W1.cell? ⟨w.heap.size + 2, 0, none⟩ = _ := d2.cell; have e3' : W1.cell? ⟨w.heap.size + 3, 0, none⟩ = _ := d3.cell; have f2' : W1.frozen? ⟨w.heap.size + 2, 0, none⟩ = false := d2.frozen; have f3' : W1.frozen? ⟨w.heap.size + 3, 0, none⟩ = false := d3.frozen)
          gi_region_with (refine ⟨trivial, ?_⟩; gi_at_call 44; refine ((callsIn_wide.2 (HC.out _)).inRound l).mono ?_; rintro e w' ⟨rfl, rfl⟩)
          all_goals (try gi_wp2)
          all_goals (try gi_region)
          all_goals (try gi_wp2)
          all_goals
            · have hk : Below w.heap.size w W1.drew.drew := hB.trans (k2.mono (by omega))
              have hko := ((Fr.of_below (b := 0) k2 (Nat.le_refl _)).others.trans (KeepsOthers.setCell _ ⟨w.heap.size + 2, 0, none⟩ (.int .i64 (p : Int)))).trans (KeepsOthers.setCell _ ⟨w.heap.size + 3, 0, none⟩ (.int .i64 other))
              refine ⟨hko.from _, ⟨⟨?_, ?_⟩, ⟨⟨(hk.setCell (p := ⟨w.heap.size + 2, 0, none⟩) (by simp) _).setCell (p := ⟨w.heap.size + 3, 0, none⟩) (by simp) _, Nat.le_trans hS hko.size⟩, ⟨rfl, pre, _, rfl, hw, hp⟩⟩⟩⟩
              · rw [lastAt_app]
                exact (d2.set _).other (by omega) _
              · rw [errL_app, if_neg (by simp [ha])]
                exact (d3.other (by omega) _).set _
  case done =>
    rintro D ys W hD rfl ⟨⟨⟨⟨c0, c1⟩, c2⟩, c3⟩, ⟨⟨hB, hS⟩, hp⟩⟩ hK
    have hA := chk_all ok other s.data.toList hp
    have e2 := c2.cell
    have e3 := c3.cell
    have f2 := c2.frozen
    have f3 := c3.frozen
    gi_wp2
    have g2 := (c2.set (.int .i64 0)).other (show w.heap.size + 2 ≠ w.heap.size + 3 by omega) (.int .i64 0)
    have g3 := (c3.other (show w.heap.size + 3 ≠ w.heap.size + 2 by omega) (.int .i64 0)).set (.int .i64 0)
    have hkb := (hB.setCell (p := ⟨w.heap.size + 2, 0, none⟩) (by simp) (.int .i64 0)).setCell (p := ⟨w.heap.size + 3, 0, none⟩) (by simp) (.int .i64 0)
    have hK2 := (KeepsOthers.setCell (W.setCell ⟨w.heap.size + 2, 0, none⟩ (.int .i64 0)) ⟨w.heap.size + 3, 0, none⟩ (.int .i64 0)).same D _ ((KeepsOthers.setCell _ _ _).same D _ hK rfl) rfl
    generalize (W.setCell ⟨w.heap.size + 2, 0, none⟩ (.int .i64 0)).setCell ⟨w.heap.size + 3, 0, none⟩ (.int .i64 0) = W2 at *
    refine ⟨by simp, .inl ⟨_, _, rfl, run_takeDeferred hK2, ?_⟩⟩
    have q2 := box_put g2 (show w.heap.size + 2 ≠ D by omega) (.deferred none)
    have q3 := box_put g3 (show w.heap.size + 3 ≠ D by omega) (.deferred none)
    rw [hA]
    exact ⟨.tuple #[.int .i64 0, .int .i64 0], by simp [results, Tryd.results27, go_sem, q2, q3], rfl, below_put hkb (by omega) _⟩
  case stop =>
    rintro D c pre W hD ⟨rest, hrest⟩ ⟨⟨c2, c3⟩, ⟨⟨hB, hS⟩, ⟨rfl, p, x, rfl, hbx, hp⟩⟩⟩ hK
    rw [lastAt_app] at c2
    rw [errL_app] at c3
    have hR := chk_at ok other s.data.toList p x rest hrest hp hbx
    generalize (if x.z = [37] then 51 else other) = E at *
    gi_wp2
    refine ⟨by simp, .inl ⟨_, _, rfl, run_takeDeferred hK, ?_⟩⟩
    have q2 := box_put c2 (show w.heap.size + 2 ≠ D by omega) (.deferred none)
    have q3 := box_put c3 (show w.heap.size + 3 ≠ D by omega) (.deferred none)
    rw [hR]
    exact ⟨.tuple #[.int .i64 (x.at_ : Int), .int .i64 E], by simp [results, Tryd.results27, go_sem, q2, q3], rfl, below_put hB (by omega) _⟩

theorem chk_err (ok : UInt8 → Bool) (other : Int) (ho : other ≠ 0) (l : List UInt8) : ((chk ok other l).2 == 0) = allOk ok l := by
  cases h : allOk ok l with
  | true => rw [chk_ok ok other l h]; rfl
  | false => rw [beq_eq_false_iff_ne]; exact chk_bad ok other ho l h

theorem cls_cases (c : UInt8) : cls c = 0 ∨ cls c = 1 ∨ cls c = 2 ∨ cls c = 4 ∨ cls c = 8 ∨ cls c = 16 := by unfold cls; (repeat' split) <;> simp
theorem ok_all : ∀ n : Nat, n < 256 → ((bits BinOp.and IntKind.u8 (cls (UInt8.ofNat n)) 3 != 0) = nameOk (UInt8.ofNat n)) ∧ ((bits BinOp.and IntKind.u8 (cls (UInt8.ofNat n)) 15 != 0) = pathOk (UInt8.ofNat n)) ∧ ((bits BinOp.and IntKind.u8 (cls (UInt8.ofNat n)) 31 != 0) = queryOk (UInt8.ofNat n)) := by decide +kernel
theorem ok_name (c : UInt8) : (bits BinOp.and IntKind.u8 (cls c) 3 != 0) = nameOk c := by have := (ok_all c.toNat c.toNat_lt).1; simpa using this
theorem ok_path (c : UInt8) : (bits BinOp.and IntKind.u8 (cls c) 15 != 0) = pathOk c := by have := (ok_all c.toNat c.toNat_lt).2.1; simpa using this
theorem ok_query (c : UInt8) : (bits BinOp.and IntKind.u8 (cls c) 31 != 0) = queryOk c := by have := (ok_all c.toNat c.toNat_lt).2.2; simpa using this
theorem name37 : nameOk 37 = false := by decide +kernel
theorem query37 : queryOk 37 = false := by decide +kernel

end Tg
end Go.Proofs.YtpoefoepmigbeaaDoor
