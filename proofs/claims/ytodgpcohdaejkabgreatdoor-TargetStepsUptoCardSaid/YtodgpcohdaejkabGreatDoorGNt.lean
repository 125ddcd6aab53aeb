/-
  target: normalTriples.
-/
import Derived.Test.YtodgpcohdaejkabGreatDoorGSg
import Derived.Test.YtodgpcohdaejkabGreatDoorGOw
set_option linter.unusedVariables false
set_option linter.unusedSimpArgs false
namespace Go.Proofs.YtodgpcohdaejkabGreatDoor
open Go.RowKit Go.Shelf
attribute [local go_sem] Oper.semAt_some
namespace Tg
open Oc

theorem nts_len (pre : List Sg) : (pre.flatMap nt).length ≤ 3 * pre.length := by
  induction pre with
  | nil => exact Nat.le_refl _
  | cons x r ih => rw [List.flatMap_cons, List.length_append]; rw [List.length_cons]; have := nt_len x; omega
theorem nt_three {x : Sg} {a b c : UInt8} (h : x.z = [a, b, c]) : nt x = enc [byteOf b c] := by unfold nt; rw [h, valS_three h]; rfl
theorem nt_one {x : Sg} {a : UInt8} (h : x.z = [a]) : nt x = [a] := by unfold nt; rw [h]; rfl
theorem one_back (W : World) (c : UInt8) : (convert 48 9 (.slice (some ⟨W.heap.size, 0, none⟩) 1 1)).run Tryz.prog (W.alloc (.cells #[.int .u8 (c.toNat : Int)] 5)) = .ok (.string (str [c])) (W.alloc (.cells #[.int .u8 (c.toNat : Int)] 5)) := by
  have h : Ow W.heap.size (.slice (some ⟨W.heap.size, 0, none⟩) 1 1) [c] (W.alloc (.cells #[.int .u8 (c.toNat : Int)] 5)) :=
    ⟨by simp [Lib.byteCells], .inr ⟨W.heap.size, 1, #[.int .u8 (c.toNat : Int)], rfl, Nat.le_refl _, heap_alloc_new W _, by simp, by decide, by simp, by simp [Lib.byteCells]⟩⟩
  exact h.back

set_option maxRecDepth 100000 in
set_option maxHeartbeats 8000000 in
theorem normalTriples_any (s : ByteArray) (hs : s.size ≤ 40000000000) (w : World) :
    Calls Tryz.prog 23 #[.string s] w fun e w' => e = .returned (.string (str (ntr s.data.toList))) ∧ Below w.heap.size w w' := by
  obtain ⟨w2, hw2⟩ : ∃ w2, w2 = (w.alloc (.cells #[.pointer none, .slice none 0 0] 78)).alloc (.cells #[.string s] 9) := ⟨_, rfl⟩
  have hsz2 : w2.heap.size = w.heap.size + 2 := by rw [hw2]; simp
  have b0 : Bd (w.heap.size + 2) w.heap.size [] w2 := by
    rw [hw2]
    exact (Bd.new w (w.heap.size + 2)).below ((Below.refl _ _).alloc (Nat.le_refl _) _)
  have b1 : w2.cell? ⟨w.heap.size + 1, 0, none⟩ = some (.string s) := by
    rw [hw2]
    have h := (Boxed.new (w.alloc (.cells #[.pointer none, .slice none 0 0] 78)) 9 (.string s)).cell
    rwa [World.size_alloc] at h
  have hB2 : Below w.heap.size w w2 := by rw [hw2]; exact ((Below.refl _ w).alloc (Nat.le_refl _) _).alloc (by simp) _
  have HW2 : Hid (_ = _) := hw2
  refine (callsIn_wide (n := 9)).1 ?_
  refine callsIn_of_wp_marks Tryz.func23 rfl trivial ?_ rfl
  simp only [Tryz.ntmps23, List.size_toArray, List.length_cons, List.length_nil, Nat.reduceAdd, Nat.reduceSub, Array.replicate_succ, Array.replicate_zero, List.push_toArray, List.append_toArray, List.nil_append, List.cons_append]
  have hq : ∀ (k : Nat) (cs : Array Value) (W : World), (binOp .eql 80 (.func (.func k) #[] cs) .nilFunc).run Tryz.prog W = .ok (.bool false) W := fun k cs W => by kernel_rfl
  clear hw2
  gi_wp2_with (refine ⟨trivial, ?_⟩; gi_at_call 44; refine (callsIn_wide.2 (signs_any s _)).mono ?_; rintro e w3 ⟨rfl, e3⟩; have e4 := e3.trans HW2.out.symm; subst e4; clear e3)
  clear HW2
  refine wpIn_rangeFunc_ownG rfl (by omega) (gf := 69) (lb := #[.pointer (some ⟨w.heap.size + 1, 0, none⟩)]) rfl trivial (enters_of Tryz.func69 (by kernel_rfl) rfl)
    (signs_stops 8 (w.heap.size + 1) s (by omega) _ b1) keepK_t (keepK_b (by omega)) (Below.refl _ _) (fun _ => rfl)
    (fun (pre : List Sg) W => Bd (w.heap.size + 2) w.heap.size (Lib.byteCells (pre.flatMap nt)) W ∧ (Below w.heap.size w W ∧ w.heap.size + 2 ≤ W.heap.size))
    (fun _ _ _ => False)
    (OwnFrom.and (Own.from (bd_own _ _ (fun pre : List Sg => Lib.byteCells (pre.flatMap nt))) _) (OwnFrom.and (ownFrom_below (Nat.le_refl _) (by omega)) (fun _ _ _ _ h hg _ => Nat.le_trans h hg.size)))
    (fun _ _ _ _ _ hs _ _ => hs)
    ⟨b0, hB2, by omega⟩
    (fun x : Sg => { tmps := #[.string s, undef, .string ⟨#[]⟩, .pointer (some ⟨w.heap.size, 0, none⟩), undef, .string (str x.z), .string s, .func (.func 69) #[] #[.pointer (some ⟨w.heap.size + 1, 0, none⟩)], .int .i64 (x.at_ : Int), .string (str x.z), undef, undef, undef, undef, undef, undef, undef, undef, undef, undef], defers := [] }) ?assign ?body ?done ?stop
  case assign =>
    intro l x W K hK
    unfold encS
    gi_wp2
    exact hK
  case body =>
    rintro l pre x W ⟨c3, hB, hS⟩ hlt
    have hnl := nts_len pre
    have hvl : (Lib.byteCells (pre.flatMap nt)).length ≤ 3 * pre.length := by rw [cells_len]; exact hnl
    obtain ⟨p, z, ok⟩ := x
    dsimp only
    rcases ok with ⟨h3, ht⟩ | ⟨h1, ht⟩
    · obtain ⟨a, b, c, rfl⟩ : ∃ a b c, z = [a, b, c] := by
        match z, h3 with
        | [a, b, c], _ => exact ⟨a, b, c, rfl⟩
      have hs3 : str [a, b, c] = ⟨#[a, b, c]⟩ := rfl
      rw [hs3]
      have hh : (hx b && hx c) = true := by simp [trip] at ht; simp [ht.2]
      have HT : Hid (∀ W, Calls Tryz.prog 45 #[.string ⟨#[a, b, c]⟩] W fun e W' => e = .returned (.bool true) ∧ Below W.heap.size W W') := fun W => by
        have h := isTriple_any ⟨#[a, b, c]⟩ W
        have e : (decide ((⟨#[a, b, c]⟩ : ByteArray).size = 3) && trip (⟨#[a, b, c]⟩ : ByteArray).data.toList) = true := by rw [show trip (⟨#[a, b, c]⟩ : ByteArray).data.toList = true from ht]; rfl
        rw [e] at h
        exact h
      have HV : Hid (∀ W, _) := fun W => tripleByte_any a b c hh W
      have hnx : nt ⟨p, [a, b, c], .inl ⟨h3, ht⟩⟩ = enc [byteOf b c] := rfl
      generalize byteOf b c = u at *
      have HE : Hid (∀ W, Calls Tryz.prog 31 #[.string (str [u])] W fun e W' => e = .returned (.string (str (enc [u]))) ∧ Below W.heap.size W W') := fun W => by
        have := Encode_any (str [u]) (by rw [str_size]; simp) W
        rw [str_list] at this
        exact this
      have hel := enc_len [u]
      have hes : (str (enc [u])).size ≤ 3 := by rw [str_size]; simpa using hel
      have HO : Hid (∀ W : World, _) := fun W => one_back W u
      gi_wp2_with (first | (refine ⟨trivial, ?_⟩; gi_at_call 45; refine ((callsIn_wide.2 (HT.out _)).inRound l).mono ?_; rintro e W1 ⟨rfl, k1⟩) | (refine ⟨trivial, ?_⟩; gi_at_call 46; refine ((callsIn_wide.2 (HV.out _)).inRound l).mono ?_; rintro e W2 ⟨rfl, k2⟩; have ho := HO.out W2) | (refine ⟨trivial, ?_⟩; gi_at_call 31; refine ((callsIn_wide.2 (HE.out _)).inRound l).mono ?_; rintro e W4 ⟨rfl, k4⟩) | (refine ⟨trivial, ?_⟩; gi_at_call 47; refine ((callsIn_wide.2 (WriteString_bd (w.heap.size + 2) w.heap.size _ _ _ ((((c3.below k1).below k2).below ((Below.refl _ _).alloc (Nat.le_refl _) _)).below k4) (by omega) (by have e1 := k1.size; have e2 := k2.size; have e4 := k4.size; simp at e4; omega))).inRound l).mono ?_; rintro e W3 ⟨rfl, hB3, hF3⟩))
      have e1 := k1.size
      have e2 := k2.size
      have e4 := k4.size
      simp at e4
      have hF : Fr (w.heap.size + 2) w.heap.size W W3 := ((((Fr.of_below k1 hS).trans (Fr.of_below k2 (by omega))).trans (Fr.alloc _ _ (by omega))).trans (Fr.of_below k4 (by simp; omega))).trans hF3
      refine ⟨hF.others.from _, hF.keep (by omega) (by omega), ?_, hB.trans (hF.below (by omega) (by omega)), Nat.le_trans hS hF.size⟩
      rw [List.flatMap_append, cells_app, List.flatMap_cons, hnx]
      rw [cells_str] at hB3
      rw [List.flatMap_nil, List.append_nil]
      exact hB3
    · obtain ⟨a, rfl⟩ : ∃ a, z = [a] := by
        match z, h1 with
        | [a], _ => exact ⟨a, rfl⟩
      have HT : Hid (∀ W, Calls Tryz.prog 45 #[.string (str [a])] W fun e W' => e = .returned (.bool false) ∧ Below W.heap.size W W') := fun W => isTriple_any (str [a]) W
      have hnx : nt ⟨p, [a], .inr ⟨h1, ht⟩⟩ = [a] := rfl
      have hz1 : (str [a]).size = 1 := rfl
      gi_wp2_with (first | (refine ⟨trivial, ?_⟩; gi_at_call 45; refine ((callsIn_wide.2 (HT.out _)).inRound l).mono ?_; rintro e W1 ⟨rfl, k1⟩) | (refine ⟨trivial, ?_⟩; gi_at_call 47; refine ((callsIn_wide.2 (WriteString_bd (w.heap.size + 2) w.heap.size _ _ _ (c3.below k1) (by omega) (Nat.le_trans hS k1.size))).inRound l).mono ?_; rintro e W3 ⟨rfl, hB3, hF3⟩))
      have hF : Fr (w.heap.size + 2) w.heap.size W W3 := (Fr.of_below k1 hS).trans hF3
      refine ⟨hF.others.from _, hF.keep (by omega) (by omega), ?_, hB.trans (hF.below (by omega) (by omega)), Nat.le_trans hS hF.size⟩
      rw [List.flatMap_append, cells_app, List.flatMap_cons, hnx]
      rw [cells_str] at hB3
      rw [List.flatMap_nil, List.append_nil]
      exact hB3
  case done =>
    rintro D ys W hD rfl ⟨c3, hB, hS⟩ hK
    gi_wp2_with (refine ⟨trivial, ?_⟩; gi_at_call 48; refine (callsIn_wide.2 (String_bd (w.heap.size + 2) w.heap.size _ _ c3 hS)).mono ?_; rintro e W1 ⟨rfl, k1, ho⟩)
    have hK1 : W1.heap[D]? = some (Obj.deferred (some [])) := ho D _ hK (by intro e; cases e; omega) (by intro c fz e; cases e)
    have hk : Below w.heap.size w W1 := hB.trans (k1.mono (by omega))
    refine ⟨by simp, .inl ⟨_, _, rfl, run_takeDeferred hK1, ?_⟩⟩
    exact ⟨.string (str (ntr s.data.toList)), by simp [results, Tryz.results23, go_sem]; rfl, rfl, below_put hk (by omega) _⟩
  case stop =>
    rintro D c pre W _ _ h _
    exact h.elim

end Tg
end Go.Proofs.YtodgpcohdaejkabGreatDoor
