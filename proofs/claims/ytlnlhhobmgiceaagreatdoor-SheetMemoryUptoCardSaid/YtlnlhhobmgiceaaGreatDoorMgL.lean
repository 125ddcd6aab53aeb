/- Several texts as one. -/
import Derived.Test.YtlnlhhobmgiceaaGreatDoorMgK
import Derived.Laws.BytesArg
/-
  target: Decode.
-/
set_option linter.unusedVariables false
set_option linter.unusedSimpArgs false
namespace Go.Proofs.YtlnlhhobmgiceaaGreatDoor
open Go.RowKit Go.Shelf
attribute [local go_sem] Oper.semAt_some
namespace Tg
open Oc

theorem box_fr {B b c : Nat} {t : TypeId} {v : Value} {w w' : World} (h : Boxed w c t v) (f : Fr B b w w') (hc : c < B) (hb : c ≠ b) : Boxed w' c t v := (f.block c hc hb).trans h
theorem box_below {n c : Nat} {t : TypeId} {v : Value} {w w' : World} (h : Boxed w c t v) (f : Below n w w') (hc : c < n) : Boxed w' c t v := (f.block c hc).trans h
theorem box_put {W : World} {b D : Nat} {t : TypeId} {v : Value} (h : Boxed W b t v) (hD : b ≠ D) (o : Obj) : (W.putObj D o).cell? ⟨b, 0, none⟩ = some v := by
  have e : (W.putObj D o).heap[b]? = W.heap[b]? := World.putObj_heap_other hD
  exact (World.cell?_of_block (w := W) (w' := W.putObj D o) (a := ⟨b, 0, none⟩) e).trans h.cell
theorem below_put {n : Nat} {w W : World} {D : Nat} (h : Below n w W) (hD : n ≤ D) (o : Obj) : Below n w (W.putObj D o) := ⟨h.os, h.tape, h.output, by have := h.size; simpa [World.putObj] using this, fun k hk => (World.putObj_heap_other (by omega)).trans (h.block k hk)⟩
theorem fr_wide {B b : Nat} {w w' : World} (h : Below w.heap.size w w') (hB : B ≤ w.heap.size) : Fr B b w w' := Fr.of_below h hB
def lastAt (pre : List Sg) : Nat := (pre.getLast?.map Sg.at_).getD 0
theorem lastAt_app (pre : List Sg) (x : Sg) : lastAt (pre ++ [x]) = x.at_ := by simp [lastAt]
theorem valS_one {x : Sg} {c : UInt8} (h : x.z = [c]) : valS x = [c] := by unfold valS; rw [h]
theorem valS_three {x : Sg} {a b c : UInt8} (h : x.z = [a, b, c]) : valS x = [byteOf b c] := by unfold valS; rw [h]
theorem bad_iff (x : Sg) : bad x = true ↔ x.z = [37] := by unfold bad; simp
theorem vals_len (pre : List Sg) : (pre.flatMap valS).length = pre.length := by
  induction pre with
  | nil => rfl
  | cons x r ih => rw [List.flatMap_cons, List.length_append, ih, valS_len]; simp; omega
theorem decR_all (l : List UInt8) (h : ∀ x ∈ sg 0 l, bad x = false) : decR l = ((sg 0 l).flatMap valS, 0, 0) := by
  unfold decR
  rw [List.find?_eq_none.2 (fun x hx => by rw [h x hx]; simp)]
theorem decR_at (l : List UInt8) (pre : List Sg) (x : Sg) (rest : List Sg) (e : pre ++ [x] ++ rest = sg 0 l) (h : ∀ y ∈ pre, bad y = false) (hx : bad x = true) : decR l = ([], x.at_, 51) := by
  unfold decR
  rw [← e, List.append_assoc, List.find?_append, List.find?_eq_none.2 (fun y hy => by rw [h y hy]; simp)]
  simp [hx]

set_option maxRecDepth 100000 in
set_option maxHeartbeats 8000000 in
theorem Decode_any (s : ByteArray) (hs : s.size ≤ 40000000000) (w : World) :
    Calls Tryz.prog 24 #[.string s] w fun e w' => e = .returned (.tuple #[.string (str (decR s.data.toList).1), .int .i64 ((decR s.data.toList).2.1 : Int), .int .i64 (decR s.data.toList).2.2]) ∧ Below w.heap.size w w' := by
  obtain ⟨w5, hw5⟩ : ∃ w5, w5 = (((((w.alloc (.cells #[.string ⟨#[]⟩] 9)).alloc (.cells #[.int .i64 0] 3)).alloc (.cells #[.int .i64 0] 35)).alloc (.cells #[.pointer none, .slice none 0 0] 92)).alloc (.cells #[.string s] 9)) := ⟨_, rfl⟩
  have hsz5 : w5.heap.size = w.heap.size + 5 := by rw [hw5]; simp
  have b0 : Boxed w5 w.heap.size 9 (.string ⟨#[]⟩) := by rw [hw5]; exact ((((Boxed.new w _ _).alloc _).alloc _).alloc _).alloc _
  have b1 : Boxed w5 (w.heap.size + 1) 3 (.int .i64 0) := by rw [hw5]; have := (((Boxed.new (w.alloc (.cells #[.string ⟨#[]⟩] 9)) 3 (.int .i64 0)).alloc (.cells #[.int .i64 0] 35)).alloc (.cells #[.pointer none, .slice none 0 0] 92)).alloc (.cells #[.string s] 9); rwa [World.size_alloc] at this
  have b2 : Boxed w5 (w.heap.size + 2) 35 (.int .i64 0) := by rw [hw5]; have := ((Boxed.new ((w.alloc (.cells #[.string ⟨#[]⟩] 9)).alloc (.cells #[.int .i64 0] 3)) 35 (.int .i64 0)).alloc (.cells #[.pointer none, .slice none 0 0] 92)).alloc (.cells #[.string s] 9); rwa [World.size_alloc, World.size_alloc] at this
  have b3 : Bd (w.heap.size + 5) (w.heap.size + 3) [] w5 := by
    rw [hw5]
    have h := Bd.new (((w.alloc (.cells #[.string ⟨#[]⟩] 9)).alloc (.cells #[.int .i64 0] 3)).alloc (.cells #[.int .i64 0] 35)) (w.heap.size + 5)
    rw [World.size_alloc, World.size_alloc, World.size_alloc] at h
    exact h.below ((Below.refl _ _).alloc (Nat.le_refl _) _)
  have b4 : w5.cell? ⟨w.heap.size + 4, 0, none⟩ = some (.string s) := by
    rw [hw5]
    have h := (Boxed.new ((((w.alloc (.cells #[.string ⟨#[]⟩] 9)).alloc (.cells #[.int .i64 0] 3)).alloc (.cells #[.int .i64 0] 35)).alloc (.cells #[.pointer none, .slice none 0 0] 92)) 9 (.string s)).cell
    rwa [World.size_alloc, World.size_alloc, World.size_alloc, World.size_alloc] at h
  have hB5 : Below w.heap.size w w5 := by
    rw [hw5]
    exact ((((((Below.refl _ w).alloc (Nat.le_refl _) _).alloc (by simp) _).alloc (by simp; omega) _).alloc (by simp; omega) _).alloc (by simp; omega) _)
  have HW5 : Hid (_ = _) := hw5
  refine (callsIn_wide (n := 9)).1 ?_
  refine callsIn_of_wp_marks Tryz.func24 rfl trivial ?_ rfl
  simp only [Tryz.ntmps24, List.size_toArray, List.length_cons, List.length_nil, Nat.reduceAdd, Nat.reduceSub, Array.replicate_succ, Array.replicate_zero, List.push_toArray, List.append_toArray, List.nil_append, List.cons_append]
  have hq : ∀ (k : Nat) (cs : Array Value) (W : World), (binOp .eql 94 (.func (.func k) #[] cs) .nilFunc).run Tryz.prog W = .ok (.bool false) W := fun k cs W => by kernel_rfl
  clear hw5
  gi_wp2_with (refine ⟨trivial, ?_⟩; gi_at_call 49; refine (callsIn_wide.2 (signs_any s _)).mono ?_; rintro e w3 ⟨rfl, e3⟩; have e4 := e3.trans HW5.out.symm; subst e4; clear e3)
  simp only [Nat.add_assoc, Nat.reduceAdd]
  clear HW5
  refine wpIn_rangeFunc_ownG rfl (by omega) (gf := 79) (lb := #[.pointer (some ⟨w.heap.size + 4, 0, none⟩)]) rfl trivial (enters_of Tryz.func79 (by kernel_rfl) rfl)
    (signs_stops 8 (w.heap.size + 4) s (by omega) _ b4) keepK_t (keepK_b (by omega)) (Below.refl _ _) (fun _ => rfl)
    (fun (pre : List Sg) W => (((Boxed W w.heap.size 9 (.string ⟨#[]⟩) ∧ Boxed W (w.heap.size + 1) 3 (.int .i64 0)) ∧ Boxed W (w.heap.size + 2) 35 (.int .i64 0)) ∧ Bd (w.heap.size + 5) (w.heap.size + 3) (Lib.byteCells (pre.flatMap valS)) W) ∧ ((Below w.heap.size w W ∧ w.heap.size + 5 ≤ W.heap.size) ∧ ∀ y ∈ pre, bad y = false))
    (fun c pre W => (((Boxed W w.heap.size 9 (.string ⟨#[]⟩) ∧ Boxed W (w.heap.size + 1) 3 (.int .i64 (lastAt pre : Int))) ∧ Boxed W (w.heap.size + 2) 35 (.int .i64 51)) ∧ ((Below w.heap.size w W ∧ w.heap.size + 5 ≤ W.heap.size) ∧ (c = .ret ∧ ∃ p x, pre = p ++ [x] ∧ bad x = true ∧ ∀ y ∈ p, bad y = false))))
    (OwnFrom.and (OwnFrom.and (OwnFrom.and (OwnFrom.and (Own.from (boxed_own _ _ _) _) (Own.from (boxed_own _ _ _) _)) (Own.from (boxed_own _ _ _) _)) (Own.from (bd_own _ _ (fun pre : List Sg => Lib.byteCells (pre.flatMap valS))) _)) (OwnFrom.and (OwnFrom.and (ownFrom_below (Nat.le_refl _) (by omega)) (fun _ _ _ _ h hg _ => Nat.le_trans h hg.size)) (ownFrom_pure _ _)))
    (fun c => OwnFrom.and (OwnFrom.and (OwnFrom.and (Own.from (boxed_own _ _ _) _) (Own.from (boxed_own _ _ (fun pre : List Sg => .int .i64 (lastAt pre : Int))) _)) (Own.from (boxed_own _ _ _) _)) (OwnFrom.and (OwnFrom.and (ownFrom_below (Nat.le_refl _) (by omega)) (fun _ _ _ _ h hg _ => Nat.le_trans h hg.size)) (ownFrom_pure _ (fun pre : List Sg => c = .ret ∧ ∃ p x, pre = p ++ [x] ∧ bad x = true ∧ ∀ y ∈ p, bad y = false))))
    ⟨⟨⟨⟨b0, b1⟩, b2⟩, b3⟩, ⟨⟨hB5, by omega⟩, fun y hy => by cases hy⟩⟩
    (fun x : Sg => { tmps := #[.string s, undef, .pointer (some ⟨w.heap.size, 0, none⟩), .pointer (some ⟨w.heap.size + 1, 0, none⟩), .pointer (some ⟨w.heap.size + 2, 0, none⟩), .pointer (some ⟨w.heap.size + 3, 0, none⟩), .int .i64 (x.at_ : Int), .string (str x.z), .string s, .func (.func 79) #[] #[.pointer (some ⟨w.heap.size + 4, 0, none⟩)], .int .i64 (x.at_ : Int), .string (str x.z), undef, undef, undef, undef, undef, undef, undef, undef, undef, undef, undef, undef, undef], defers := [] }) ?assign ?body ?done ?stop
  case assign =>
    intro l x W K hK
    unfold encS
    gi_wp2
    exact hK
  case body =>
    rintro l pre x W ⟨⟨⟨⟨c0, c1⟩, c2⟩, c3⟩, ⟨⟨hB, hS⟩, hp⟩⟩ hlt
    obtain ⟨p, z, ok⟩ := x
    dsimp only
    have hvl : (Lib.byteCells (pre.flatMap valS)).length = pre.length := by rw [cells_len, vals_len]
    rcases ok with ⟨h3, ht⟩ | ⟨h1, ht⟩
    · obtain ⟨a, b, c, rfl⟩ : ∃ a b c, z = [a, b, c] := by
        match z, h3 with
        | [a, b, c], _ => exact ⟨a, b, c, rfl⟩
      have hs3 : str [a, b, c] = ⟨#[a, b, c]⟩ := rfl
      rw [hs3]
      have hh : (hx b && hx c) = true := by simp [trip] at ht; simp [ht.2]
      have HT : Hid (∀ W, Calls Tryz.prog 50 #[.string ⟨#[a, b, c]⟩] W fun e W' => e = .returned (.bool true) ∧ Below W.heap.size W W') := fun W => by
        have h := isTriple_any ⟨#[a, b, c]⟩ W
        have e : (decide ((⟨#[a, b, c]⟩ : ByteArray).size = 3) && trip (⟨#[a, b, c]⟩ : ByteArray).data.toList) = true := by rw [show trip (⟨#[a, b, c]⟩ : ByteArray).data.toList = true from ht]; rfl
        rw [e] at h
        exact h
      have HV : Hid (∀ W, _) := fun W => tripleByte_any a b c hh W
      have hvx : valS ⟨p, [a, b, c], .inl ⟨h3, ht⟩⟩ = [byteOf b c] := rfl
      gi_wp2_with (first | (refine ⟨trivial, ?_⟩; gi_at_call 50; refine ((callsIn_wide.2 (HT.out _)).inRound l).mono ?_; rintro e W1 ⟨rfl, k1⟩) | (refine ⟨trivial, ?_⟩; gi_at_call 52; refine ((callsIn_wide.2 (HV.out _)).inRound l).mono ?_; rintro e W2 ⟨rfl, k2⟩) | (refine ⟨trivial, ?_⟩; gi_at_call 51; refine ((callsIn_wide.2 (WriteByte_bd (w.heap.size + 5) (w.heap.size + 3) _ _ _ ((c3.below k1).below k2) (by rw [hvl]; omega) (Nat.le_trans hS (Nat.le_trans k1.size k2.size)))).inRound l).mono ?_; rintro e W3 ⟨rfl, hB3, hF3⟩))
      have hF : Fr (w.heap.size + 5) (w.heap.size + 3) W W3 := ((Fr.of_below k1 hS).trans (Fr.of_below k2 (Nat.le_trans hS k1.size))).trans hF3
      refine ⟨hF.others.from _, hF.keep (by omega) (by omega), ⟨⟨⟨box_fr c0 hF (by omega) (by omega), box_fr c1 hF (by omega) (by omega)⟩, box_fr c2 hF (by omega) (by omega)⟩, ?_⟩, ⟨⟨hB.trans (hF.below (by omega) (by omega)), Nat.le_trans hS hF.size⟩, ?_⟩⟩
      · rw [List.flatMap_append, cells_app, List.flatMap_cons, hvx]
        exact hB3
      · intro y hy
        rcases List.mem_append.1 hy with h | h
        · exact hp y h
        · simp at h; subst h; simp [bad]
    · obtain ⟨a, rfl⟩ : ∃ a, z = [a] := by
        match z, h1 with
        | [a], _ => exact ⟨a, rfl⟩
      have HT : Hid (∀ W, Calls Tryz.prog 50 #[.string (str [a])] W fun e W' => e = .returned (.bool false) ∧ Below W.heap.size W W') := fun W => isTriple_any (str [a]) W
      by_cases ha : a = 37
      · subst ha
        have hs1 : str [37] = ⟨#[37]⟩ := rfl
        rw [hs1] at HT ⊢
        gi_wp2_with (refine ⟨trivial, ?_⟩; gi_at_call 50; refine ((callsIn_wide.2 (HT.out _)).inRound l).mono ?_; rintro e W1 ⟨rfl, k1⟩; have d0 := box_below c0 k1 (by omega); have d1 := box_below c1 k1 (by omega); have d2 := box_below c2 k1 (by omega); have e0 := d0.cell; have e1 := d1.cell; have e2 := d2.cell; have f0 := d0.frozen; have f1 := d1.frozen; have f2 := d2.frozen)
        have hk : Below w.heap.size w W1 := hB.trans (k1.mono (by omega))
        refine ⟨((((Fr.of_below (b := 0) k1 (Nat.le_refl _)).others.trans (KeepsOthers.setCell _ _ _)).trans (KeepsOthers.setCell _ _ _)).trans (KeepsOthers.setCell _ _ _)).from _, ⟨⟨⟨((d0.set _).other (by omega) _).other (by omega) _, ?_⟩, ((d2.other (by omega) _).other (by omega) _).set _⟩, ⟨⟨((hk.setCell (p := ⟨w.heap.size, 0, none⟩) (Nat.le_refl _) _).setCell (p := ⟨w.heap.size + 1, 0, none⟩) (by simp) _).setCell (p := ⟨w.heap.size + 2, 0, none⟩) (by simp) _, ?_⟩, ⟨rfl, pre, _, rfl, rfl, hp⟩⟩⟩⟩
        · rw [lastAt_app]
          exact ((d1.other (by omega) _).set _).other (by omega) _
        · have := k1.size
          simp [World.setCell]
          omega
      · have hne : ((str [a]).toList == [37]) = false := by rw [ByteArray.toList_eq]; simp [str, ha]
        have hvx : valS ⟨p, [a], .inr ⟨h1, ht⟩⟩ = [a] := rfl
        have hz1 : (str [a]).size = 1 := rfl
        gi_wp2_with (first | (refine ⟨trivial, ?_⟩; gi_at_call 50; refine ((callsIn_wide.2 (HT.out _)).inRound l).mono ?_; rintro e W1 ⟨rfl, k1⟩) | (refine ⟨trivial, ?_⟩; gi_at_call 53; refine ((callsIn_wide.2 (WriteString_bd (w.heap.size + 5) (w.heap.size + 3) _ _ _ (c3.below k1) (by rw [hvl, hz1]; omega) (Nat.le_trans hS k1.size))).inRound l).mono ?_; rintro e W3 ⟨rfl, hB3, hF3⟩))
        have hF : Fr (w.heap.size + 5) (w.heap.size + 3) W W3 := (Fr.of_below k1 hS).trans hF3
        refine ⟨hF.others.from _, hF.keep (by omega) (by omega), ⟨⟨⟨box_fr c0 hF (by omega) (by omega), box_fr c1 hF (by omega) (by omega)⟩, box_fr c2 hF (by omega) (by omega)⟩, ?_⟩, ⟨⟨hB.trans (hF.below (by omega) (by omega)), Nat.le_trans hS hF.size⟩, ?_⟩⟩
        · rw [List.flatMap_append, cells_app, List.flatMap_cons, hvx]
          rw [cells_str] at hB3
          exact hB3
        · intro y hy
          rcases List.mem_append.1 hy with h | h
          · exact hp y h
          · simp at h; subst h; simp [bad, ha]
  case done =>
    rintro D ys W hD rfl ⟨⟨⟨⟨c0, c1⟩, c2⟩, c3⟩, ⟨⟨hB, hS⟩, hp⟩⟩ hK
    have hA := decR_all s.data.toList hp
    gi_wp2_with (refine ⟨trivial, ?_⟩; gi_at_call 54; refine (callsIn_wide.2 (String_bd (w.heap.size + 5) (w.heap.size + 3) _ _ c3 hS)).mono ?_; rintro e W1 ⟨rfl, k1, ho⟩; have k1' : Below (w.heap.size + 3) W W1 := k1.mono (by omega); have d0 := box_below c0 k1' (by omega); have d1 := box_below c1 k1' (by omega); have d2 := box_below c2 k1' (by omega); have e0 := d0.cell; have e1 := d1.cell; have e2 := d2.cell; have f0 := d0.frozen; have f1 := d1.frozen; have f2 := d2.frozen)
    have hK1 : W1.heap[D]? = some (Obj.deferred (some [])) := ho D _ hK (by intro e; cases e; omega) (by intro c fz e; cases e)
    have hk : Below w.heap.size w W1 := hB.trans (k1.mono (by omega))
    have g0 := ((d0.set (.string (str ((sg 0 s.data.toList).flatMap valS)))).other (show w.heap.size ≠ w.heap.size + 1 by omega) (.int .i64 0)).other (show w.heap.size ≠ w.heap.size + 2 by omega) (.int .i64 0)
    have g1 := ((d1.other (show w.heap.size + 1 ≠ w.heap.size by omega) (.string (str ((sg 0 s.data.toList).flatMap valS)))).set (.int .i64 0)).other (show w.heap.size + 1 ≠ w.heap.size + 2 by omega) (.int .i64 0)
    have g2 := ((d2.other (show w.heap.size + 2 ≠ w.heap.size by omega) (.string (str ((sg 0 s.data.toList).flatMap valS)))).other (show w.heap.size + 2 ≠ w.heap.size + 1 by omega) (.int .i64 0)).set (.int .i64 0)
    have hkb := ((hk.setCell (p := ⟨w.heap.size, 0, none⟩) (Nat.le_refl _) (.string (str ((sg 0 s.data.toList).flatMap valS)))).setCell (p := ⟨w.heap.size + 1, 0, none⟩) (by simp) (.int .i64 0)).setCell (p := ⟨w.heap.size + 2, 0, none⟩) (by simp) (.int .i64 0)
    have hK2 := (KeepsOthers.setCell ((W1.setCell ⟨w.heap.size, 0, none⟩ (.string (str ((sg 0 s.data.toList).flatMap valS)))).setCell ⟨w.heap.size + 1, 0, none⟩ (.int .i64 0)) ⟨w.heap.size + 2, 0, none⟩ (.int .i64 0)).same D _ ((KeepsOthers.setCell _ _ _).same D _ ((KeepsOthers.setCell _ _ _).same D _ hK1 rfl) rfl) rfl
    generalize (((W1.setCell ⟨w.heap.size, 0, none⟩ (.string (str ((sg 0 s.data.toList).flatMap valS)))).setCell ⟨w.heap.size + 1, 0, none⟩ (.int .i64 0)).setCell ⟨w.heap.size + 2, 0, none⟩ (.int .i64 0)) = W2 at *
    refine ⟨by simp, .inl ⟨_, _, rfl, run_takeDeferred hK2, ?_⟩⟩
    have q0 := box_put g0 (show w.heap.size ≠ D by omega) (.deferred none)
    have q1 := box_put g1 (show w.heap.size + 1 ≠ D by omega) (.deferred none)
    have q2 := box_put g2 (show w.heap.size + 2 ≠ D by omega) (.deferred none)
    rw [hA]
    exact ⟨.tuple #[.string (str ((sg 0 s.data.toList).flatMap valS)), .int .i64 0, .int .i64 0], by simp [results, Tryz.results24, go_sem, q0, q1, q2], rfl, below_put hkb (by omega) _⟩
  case stop =>
    rintro D c pre W hD ⟨rest, hrest⟩ ⟨⟨⟨c0, c1⟩, c2⟩, ⟨⟨hB, hS⟩, ⟨rfl, p, x, rfl, hbx, hp⟩⟩⟩ hK
    rw [lastAt_app] at c1
    have hR := decR_at s.data.toList p x rest hrest hp hbx
    gi_wp2
    refine ⟨by simp, .inl ⟨_, _, rfl, run_takeDeferred hK, ?_⟩⟩
    have q0 := box_put c0 (show w.heap.size ≠ D by omega) (.deferred none)
    have q1 := box_put c1 (show w.heap.size + 1 ≠ D by omega) (.deferred none)
    have q2 := box_put c2 (show w.heap.size + 2 ≠ D by omega) (.deferred none)
    rw [hR]
    exact ⟨.tuple #[.string ⟨#[]⟩, .int .i64 (x.at_ : Int), .int .i64 51], by simp [results, Tryz.results24, go_sem, q0, q1, q2], rfl, below_put hB (by omega) _⟩

end Tg
end Go.Proofs.YtlnlhhobmgiceaaGreatDoor

/-
  A slice of bytes of the call's own: appends, and back to a string.
-/
set_option linter.unusedVariables false
set_option linter.unusedSimpArgs false
namespace Go.Proofs.YtlnlhhobmgiceaaGreatDoor
open Go.RowKit Go.Shelf
namespace Tg
open Oc

/-- A slice of bytes of the call's own. -/
def Ow (B : Nat) (v : Value) (l : List UInt8) (w : World) : Prop := w.ownsRow B 5 1 v l.length (Lib.byteCells l)
theorem Ow.alloc {B : Nat} {v : Value} {l : List UInt8} {w : World} (h : Ow B v l w) (o : Obj) : Ow B v l (w.alloc o) := World.ownsRow.alloc h o
theorem Ow.below {B : Nat} {v : Value} {l : List UInt8} {w w' : World} (h : Ow B v l w) (hb : Below w.heap.size w w') : Ow B v l w' :=
  ⟨h.1, h.2.imp id fun ⟨g, c, cur, e, hg, hh, r⟩ => ⟨g, c, cur, e, hg, (hb.block g (Array.getElem?_eq_some_iff.1 hh).1).trans hh, r⟩⟩
theorem Ow.back {B : Nat} {v : Value} {l : List UInt8} {w : World} (h : Ow B v l w) : (convert 78 9 v).run Tryz.prog w = .ok (.string (str l)) w := by
  rcases h.2 with ⟨rfl, h0⟩ | ⟨g, cap, cur, rfl, _, hg, hn, _, hsz, htake⟩
  · have e : l = [] := List.length_eq_zero_iff.1 h0
    subst e
    rw [run_convert_bytes_nil (P := Tryz.prog) w 78 5 Tryz.underlying78 Tryz.underlying5 0 0 9 Tryz.underlying9]
    rfl
  · refine run_convert_bytes_back w 78 9 5 ⟨g, 0, none⟩ cap l Tryz.underlying78 Tryz.underlying5 Tryz.underlying9 (fun j hj => ?_)
    refine World.ownsRow.cells h (g := g) rfl j _ ?_
    simp [Lib.byteCells, hj]
theorem Ow.none (w : World) : Ow w.heap.size (.slice (some ⟨w.heap.size, 0, .none⟩) 0 0) [] (w.alloc (.cells #[] 5)) :=
  ⟨by simp [Lib.byteCells], .inr ⟨w.heap.size, 0, #[], rfl, Nat.le_refl _, heap_alloc_new w _, by simp, by decide, by simp, by simp [Lib.byteCells]⟩⟩

theorem inf5 : ∃ i, Tryz.prog.info? 5 = some i ∧ i.zero = some (.int .u8 0) ∧ i.size = 1 ∧ i.bytes = 1 := by
  obtain ⟨i0, hi, hz0, hz1, hz2⟩ := info_parts infoByte
  exact ⟨i0, hi, hz0, hz1, hz2⟩
/-- Bytes appended to a slice of the call's own. -/
theorem wp_ap {ops : Array Oper} {rest : List Oper} {o : Oper} {a : Act} {Q : Exit → Act → World → Prop} (hgd : o.guard = none) (s x : Operand)
    (ho : o.op = .call { callee := .builtin .append, args := #[s, x], argTypes := #[78, 78] }) (B : Nat) (v : Value) (l us : List UInt8) (W : World) (cs : Array Value) (hcs : cs.toList = Lib.byteCells us)
    (hs : a.eval s = v) (hown : Ow B v l W) (hx : a.eval x = .slice (some ⟨W.heap.size, 0, none⟩) us.length us.length) (hlen : l.length + us.length ≤ 140737488355328) (hB : B ≤ W.heap.size)
    (h : ∀ v' w', Ow B v' (l ++ us) w' → Below B W w' → wpList Tryz.prog ops Q rest (a.put o.dst v') w') : wpList Tryz.prog ops Q (o :: rest) a (W.alloc (.cells cs 5)) := by
  obtain ⟨i0, hi, hz0, hz1, hz2⟩ := inf5
  have hl : (Lib.byteCells us).length = us.length := cells_len us
  refine wpList_append_own _ hgd s x 78 ho B 5 i0 (.int .u8 0) 1 1 Tryz.underlying78 hi hz0 hz1 hz2 rfl (by decide) v l.length _ hs (World.ownsRow.alloc hown _) ⟨W.heap.size, 0, none⟩ us.length us.length (Lib.byteCells us) hx (by rw [hl, Nat.mul_one]) ?_ ?_ ?_ ?_ ?_ ?_
  · intro j u hj
    have e : (W.alloc (.cells cs 5)).heap[W.heap.size]? = some (.cells cs 5 (0, 0)) := heap_alloc_new W _
    rw [show (⟨W.heap.size, 0, none⟩ : Addr).add j = ⟨W.heap.size, j, none⟩ by simp [Addr.add]; omega, Lib.cell_of_heap e]
    rw [← Array.getElem?_toList, hcs]
    exact hj
  · intro u hu
    simp [Lib.byteCells] at hu
    obtain ⟨b, _, rfl⟩ := hu
    rfl
  · unfold maxLen; omega
  · omega
  · simp; omega
  · intro v' w' h1 h2 _
    refine h v' w' ?_ (((Below.refl B W).alloc hB _).grown h2 (by simp; omega) (fun k hk => (World.ownsRow.lt hown k hk).1))
    unfold Ow
    rw [List.length_append, cells_app]
    exact h1
/-- A text appended. -/
theorem wp_apS {ops : Array Oper} {rest : List Oper} {o : Oper} {a : Act} {Q : Exit → Act → World → Prop} (hgd : o.guard = none) (s x : Operand)
    (ho : o.op = .call { callee := .builtin .append, args := #[s, x], argTypes := #[78, 9] }) (B : Nat) (v : Value) (l : List UInt8) (t : ByteArray) (W : World)
    (hs : a.eval s = v) (hown : Ow B v l W) (hx : a.eval x = .string t) (hlen : l.length + t.size ≤ 140737488355328) (hB : B ≤ W.heap.size)
    (h : ∀ v' w', Ow B v' (l ++ t.data.toList) w' → Below B W w' → wpList Tryz.prog ops Q rest (a.put o.dst v') w') : wpList Tryz.prog ops Q (o :: rest) a W := by
  obtain ⟨i0, hi, hz0, hz1, hz2⟩ := inf5
  refine Lib.wpList_append_own_string _ hgd s x 78 9 ho B 5 i0 Tryz.underlying78 Tryz.underlying9 hi hz0 hz1 hz2 v l.length _ hs hown t hx ?_ ?_ ?_ ?_
  · unfold maxLen; omega
  · omega
  · omega
  · intro v' w' h1 h2 _
    refine h v' w' ?_ ((Below.refl B W).grown h2 hB (fun k hk => (World.ownsRow.lt hown k hk).1))
    unfold Ow
    rw [List.length_append, cells_app]
    rw [show Lib.strCells t = Lib.byteCells t.data.toList by rw [← cells_str, str_self]] at h1
    have e : t.data.toList.length = t.size := size_list t
    rw [e]
    exact h1

end Tg
end Go.Proofs.YtlnlhhobmgiceaaGreatDoor

/-
  The document's small functions: in, IsUnreserved, isSub, triple, says.
-/
set_option linter.unusedVariables false
set_option linter.unusedSimpArgs false
namespace Go.Proofs.YtlnlhhobmgiceaaGreatDoor
open Go.RowKit Go.Shelf
namespace Tg
open Oc

theorem contains_of {c : UInt8} {s : ByteArray} {k : Nat} (hk : k < s.size) (h : byt s k = (c.toNat : Int)) : s.data.toList.contains c = true := by
  have : s.data.toList.getD k 0 = c := UInt8.toNat_inj.1 (by unfold byt at h; omega)
  rw [List.contains_iff_mem, ← this, List.getD_eq_getElem?_getD, List.getElem?_eq_getElem (by rw [size_list]; exact hk)]
  exact List.getElem_mem _
theorem contains_not {c : UInt8} {s : ByteArray} (h : ∀ k, k < s.size → byt s k ≠ (c.toNat : Int)) : s.data.toList.contains c = false := by
  cases hh : s.data.toList.contains c with
  | false => rfl
  | true =>
    rw [List.contains_iff_mem] at hh
    obtain ⟨k, hk, e⟩ := List.mem_iff_getElem.1 hh
    exfalso
    refine h k (by rw [← size_list]; exact hk) ?_
    unfold byt
    rw [List.getD_eq_getElem?_getD, List.getElem?_eq_getElem hk]
    simp [e]

theorem unr_eq (c : UInt8) : unr c = (lettI (c.toNat : Int) || digI (c.toNat : Int) || (⟨#[45, 46, 95, 126]⟩ : ByteArray).data.toList.contains c) := rfl

/-- A triple at a place. -/
theorem getD_of (s : ByteArray) (k : Nat) (h : k < s.size) : s.data.toList.getD k 0 = s[k] := at_lt s k h
theorem drop3 (s : ByteArray) (k : Nat) (h : k + 2 < s.size) : s.data.toList.drop k = s.data.toList.getD k 0 :: s.data.toList.getD (k + 1) 0 :: s.data.toList.getD (k + 2) 0 :: s.data.toList.drop (k + 3) := by
  rw [drop_cons s k (by omega), drop_cons s (k + 1) (by omega), drop_cons s (k + 2) (by omega)]
theorem trip_at (s : ByteArray) (k : Nat) (h : k + 2 < s.size) : trip (s.data.toList.drop k) = (s.data.toList.getD k 0 == 37 && (hx (s.data.toList.getD (k + 1) 0) && hx (s.data.toList.getD (k + 2) 0))) := by
  rw [drop3 s k h]; rfl
theorem trip_short (s : ByteArray) (k : Nat) (h : ¬ k + 2 < s.size) : trip (s.data.toList.drop k) = false := by
  cases hh : trip (s.data.toList.drop k) with
  | false => rfl
  | true => have := trip_len hh; rw [List.length_drop, size_list] at this; omega
theorem nxt3 (s : ByteArray) (k : Nat) (h : trip (s.data.toList.drop k) = true) : ∃ x : Sg, sg k (s.data.toList.drop k) = x :: sg (k + 3) (s.data.toList.drop (k + 3)) ∧ x.at_ = k ∧ x.z = [37, s.data.toList.getD (k + 1) 0, s.data.toList.getD (k + 2) 0] ∧ k + 2 < s.size := by
  have hl := trip_len h
  rw [List.length_drop, size_list] at hl
  refine ⟨_, by rw [sg_trip k _ h, List.drop_drop], rfl, ?_, by omega⟩
  dsimp only
  have h2 := trip_at s k (by omega)
  rw [h] at h2
  rw [drop3 s k (by omega)]
  have : s.data.toList.getD k 0 = 37 := by
    have := h2.symm
    simp only [Bool.and_eq_true, beq_iff_eq] at this
    exact this.1
  rw [this]
  rfl
theorem nxt1 (s : ByteArray) (k : Nat) (hk : k < s.size) (h : trip (s.data.toList.drop k) = false) : ∃ x : Sg, sg k (s.data.toList.drop k) = x :: sg (k + 1) (s.data.toList.drop (k + 1)) ∧ x.at_ = k ∧ x.z = [s.data.toList.getD k 0] := by
  rw [drop_cons s k hk] at h ⊢
  exact ⟨_, sg_one k _ _ h, rfl, rfl⟩

set_option maxRecDepth 100000 in
set_option maxHeartbeats 300000 in
theorem triple_any (s : ByteArray) (hs : s.size ≤ 140737488355328) (k : Nat) (hk : k ≤ s.size) (w : World) :
    Calls Tryz.prog 36 #[.string s, .int .i64 (k : Int)] w fun e w' => e = .returned (.bool (trip (s.data.toList.drop k))) ∧ w' = w := by
  by_cases h : k + 2 < s.size
  · have HT : Hid (_) := trip_at s k h
    have h0 : ((s[k].toNat : Nat) : Int) = ((s.data.toList.getD k 0).toNat : Int) := by rw [getD_of s k (by omega)]
    have h1 : ((s[k + 1].toNat : Nat) : Int) = ((s.data.toList.getD (k + 1) 0).toNat : Int) := by rw [getD_of s (k + 1) (by omega)]
    have h2 : ((s[k + 2].toNat : Nat) : Int) = ((s.data.toList.getD (k + 2) 0).toNat : Int) := by rw [getD_of s (k + 2) (by omega)]
    generalize s.data.toList.getD k 0 = c0 at *
    generalize s.data.toList.getD (k + 1) 0 = c1 at *
    generalize s.data.toList.getD (k + 2) 0 = c2 at *
    generalize trip (s.data.toList.drop k) = T at *
    have g1 := c1.toNat_lt
    have g2 := c2.toNat_lt
    have HA : Hid (∀ w, Calls Tryz.prog 71 #[.int .u8 (c1.toNat : Int)] w fun e w' => e = .returned (.bool (hx c1)) ∧ w' = w) := fun w => IsHex_any (c1.toNat : Int) (by omega) (by omega) w
    have HB : Hid (∀ w, Calls Tryz.prog 71 #[.int .u8 (c2.toNat : Int)] w fun e w' => e = .returned (.bool (hx c2)) ∧ w' = w) := fun w => IsHex_any (c2.toNat : Int) (by omega) (by omega) w
    generalize hx c1 = a at *
    generalize hx c2 = b at *
    by_cases hp : c0 = 37
    · have hp2 : ((c0.toNat : Int) == 37) = true := by rw [hp]; rfl
      have HT2 : Hid (T = (a && b)) := by
        have := HT.out
        rw [hp] at this
        exact this
      clear hp HT
      cases a with
      | false =>
        go_enter Tryz.func36, Tryz.ntmps36
        go_wp2_with (go_at_call 71; refine (HA.out _).mono ?_; rintro e w1 ⟨rfl, rfl⟩)
        go_ret
        exact ⟨ret_bool (by rw [HT2.out]; rfl), rfl⟩
      | true =>
        go_enter Tryz.func36, Tryz.ntmps36
        go_wp2_with fail
        refine (HA.out _).mono ?_
        rintro e w1 ⟨rfl, rfl⟩
        go_wp2_with fail
        refine (HB.out _).mono ?_
        rintro e w1 ⟨rfl, rfl⟩
        go_wp2
        go_ret
        exact ⟨ret_bool (by rw [HT2.out]; rfl), rfl⟩
    · have hp2 : ((c0.toNat : Int) == 37) = false := by
        rw [beq_eq_false_iff_ne]
        intro e
        exact hp (UInt8.toNat_inj.1 (by show _ = 37; omega))
      have HT2 : Hid (T = false) := by
        have := HT.out
        rw [show (c0 == 37) = false from by rw [beq_eq_false_iff_ne]; exact hp, Bool.false_and] at this
        exact this
      clear hp HT
      go_enter Tryz.func36, Tryz.ntmps36
      go_wp2
      go_ret
      exact ⟨ret_bool HT2.out.symm, rfl⟩
  · have HT : Hid (_) := trip_short s k h
    generalize trip (s.data.toList.drop k) = T at *
    have hl : ¬ (k : Int) + 2 < (s.size : Int) := by omega
    go_enter Tryz.func36, Tryz.ntmps36
    go_wp2
    go_ret
    exact ⟨ret_bool HT.out.symm, rfl⟩

set_option maxRecDepth 100000 in
set_option maxHeartbeats 300000 in
theorem says_any (s : ByteArray) (hs : s.size ≤ 140737488355328) (k : Nat) (h : k + 2 < s.size) (ht : trip (s.data.toList.drop k) = true) (w : World) :
    Calls Tryz.prog 37 #[.string s, .int .i64 (k : Int)] w fun e w' => e = .returned (.int .u8 ((byteOf (s.data.toList.getD (k + 1) 0) (s.data.toList.getD (k + 2) 0)).toNat : Int)) ∧ w' = w := by
  have h2 := trip_at s k h
  rw [ht] at h2
  have hh : (hx (s.data.toList.getD (k + 1) 0) && hx (s.data.toList.getD (k + 2) 0)) = true := by
    have := h2.symm
    rw [Bool.and_eq_true] at this
    exact this.2
  have he : s.extract (k + 1) (k + 3) = ⟨#[s.data.toList.getD (k + 1) 0, s.data.toList.getD (k + 2) 0]⟩ := eq_list (by
    rw [ext_list, drop_cons s (k + 1) (by omega), drop_cons s (k + 2) (by omega), show k + 3 - (k + 1) = 2 by omega]; rfl)
  clear h2 ht
  generalize s.data.toList.getD (k + 1) 0 = c1 at *
  generalize s.data.toList.getD (k + 2) 0 = c2 at *
  have HC : Hid (∀ w, Calls Tryz.prog 72 #[.string (s.extract (k + 1) (k + 3)), .int .i64 255] w fun e w' => e = .returned (.tuple #[.int .i64 ((byteOf c1 c2).toNat : Int), .int .i64 0]) ∧ w' = w) := fun w => by
    have := rHex_any (⟨#[c1, c2]⟩ : ByteArray) (by show 2 ≤ maxLen; unfold maxLen; decide) 255 (by omega) (by omega) w
    rw [show (⟨#[c1, c2]⟩ : ByteArray).data.toList = [c1, c2] from rfl, num_two, if_pos hh] at this
    rw [he]
    exact this
  have h1 := (byteOf c1 c2).toNat_lt
  clear hh he
  generalize (byteOf c1 c2).toNat = n at *
  have h3 : (n : Int) % 256 = n := by omega
  go_enter Tryz.func37, Tryz.ntmps37
  go_wp2_with (refine (HC.out _).mono ?_; rintro e w1 ⟨rfl, rfl⟩)
  go_ret
  exact ⟨ret_int (by simp), rfl⟩

end Tg
end Go.Proofs.YtlnlhhobmgiceaaGreatDoor
