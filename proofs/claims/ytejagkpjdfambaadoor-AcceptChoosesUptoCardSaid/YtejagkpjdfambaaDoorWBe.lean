/-
  AcceptBest.
-/
import Derived.Test.YtejagkpjdfambaaDoorACh
import Derived.Test.YtejagkpjdfambaaDoorMgS
set_option maxRecDepth 100000
set_option linter.unusedVariables false
set_option linter.unusedSimpArgs false
namespace Go.Proofs.YtejagkpjdfambaaDoor
open Go.RowKit Go.Shelf
namespace Ac
open Oc Tg

theorem okMd_of_bulk (m : Md) (h : szM m ≤ 1048576) : OkMd m := by
  unfold szM bulkparams at h
  have h3 := len_sumP m.ps
  refine ⟨by unfold maxLen; omega, by unfold maxLen; omega, fun p hp => ?_, by omega⟩
  obtain ⟨k, hk, rfl⟩ := List.mem_iff_getElem.1 hp
  have := nth_sz m.ps k hk
  have e : nth m.ps k = m.ps[k] := by
    unfold nth
    rw [List.getD_eq_getElem?_getD, List.getElem?_eq_getElem hk]
    rfl
  rw [e] at this
  unfold szP at this
  unfold maxLen
  omega
theorem sum_each {α : Type} (f : α → Nat) : ∀ (t : List α) (M : Nat), (t.map fun r => f r + 1).sum ≤ M → (∀ r ∈ t, f r ≤ M) ∧ t.length ≤ M
  | [], M, _ => ⟨fun r hr => by simp at hr, by simp⟩
  | x :: t, M, h => by
    simp only [List.map_cons, List.sum_cons] at h
    obtain ⟨h1, h2⟩ := sum_each f t (M - (f x + 1)) (by omega)
    refine ⟨fun r hr => ?_, by simp; omega⟩
    rcases List.mem_cons.1 hr with rfl | hr
    · omega
    · have := h1 r hr
      omega

set_option maxHeartbeats 4000000 in
theorem walk_AcceptBest0 (v u : Value) (t : List Rng) (os : List Md) (hos : ∀ r ∈ os, OkMd r) (ho : os.length ≤ 16777216) (ht : ∀ r ∈ t, OkMd r.md) (hl : t.length ≤ 16777216) (w : World) (hv : RdRg v t w) (hu : RdMs u os w) (hw : Env w) :
    Calls Tryd.prog 5 #[v, u] w fun e w' => e = .returned (.bool true) ∧ Below w.heap.size w w' := by
  obtain ⟨f, hf⟩ : ∃ f : Nat → Int, f = fun k => likM t (nthM os k) := ⟨_, rfl⟩
  have hfk : ∀ k, likM t (nthM os k) = f k := fun k => by rw [hf]
  have HS := bsM_says f os.length
  have HC : Hid (Calls Tryd.prog 12 #[v, u] w fun e w' => e = .returned (.int .i64 (bsM f os.length).1) ∧ Below w.heap.size w w') := (by rw [hf]; exact Choose_any v u t os hos ho ht hl w hv hu : Calls _ _ _ _ _)
  have HA : Hid (∀ W, Below w.heap.size w W → Calls Tryd.prog 7 #[] W fun e w' => e = .returned (.bool true) ∧ Below (World.heap W).size W w') := fun W b => awake_any W (hw.below b)
  have HL : Hid (∀ (k : Nat) W, k < os.length → Below w.heap.size w W → ∃ (g o : Nat) (X0 X1 : ByteArray) (a : Option Addr) (n c cc : Nat), u = .slice (some ⟨g, o, none⟩) os.length cc ∧ os.length ≤ cc ∧ (W.cell? ⟨g, o + k * 3, none⟩ = some (.string X0) ∧ W.cell? ⟨g, o + k * 3 + 1, none⟩ = some (.string X1) ∧ W.cell? ⟨g, o + k * 3 + 2, none⟩ = some (.slice a n c)) ∧ Hid (Calls Tryd.prog 8 #[v, .agg #[.string X0, .string X1, .slice a n c]] W fun e w' => e = .returned (.int .i64 (f k)) ∧ Below (World.heap W).size W w')) := fun k W hk b => by
    obtain ⟨a, c, rfl, h⟩ := hu.below b
    rcases h with h | ⟨g, o, rfl, hc, hcell⟩
    · rw [h] at hk; simp at hk
    obtain ⟨h1, h2, x, h3, h4, h5⟩ := hcell k hk
    have h4' := h4
    obtain ⟨xa, xc, rfl, _⟩ := h4
    refine ⟨g, o, _, _, xa, _, xc, c, rfl, hc, ⟨h1, h2, h3⟩, ?_⟩
    show Calls _ _ _ _ _
    rw [← hfk]
    exact Liking_any v _ t (nthM os k) ht (OkMs.at hos hk) hl W (hv.below b) h4'
  obtain ⟨a, c, rfl, _⟩ := hu
  obtain ⟨av, cv, rfl, _⟩ := hv
  clear hw hos ht hf hfk
  generalize bsM f os.length = RQ at *
  obtain ⟨R, Q⟩ := RQ
  obtain ⟨r1, r2, r3, r4, r5, r6⟩ := HS
  have H4 : Hid (R = -1 → Q = 0) := r4
  have H5 : Hid (0 ≤ R → f R.toNat = Q ∧ 0 < Q) := r5
  have H6 : Hid (∀ i, i < os.length → f i ≤ Q ∧ (0 ≤ R → (i : Int) < R → f i ≠ Q)) := r6
  clear r4 r5 r6
  have hr1 : R < (os.length : Int) := r1
  have hr2 : -1 ≤ R := r2
  clear r1 r2 r3
  have q1 : ¬ R < -1 := by omega
  have q2 : ¬ (os.length : Int) ≤ R := by omega
  by_cases h0 : 0 ≤ R
  · obtain ⟨r, rfl⟩ : ∃ r : Nat, R = (r : Int) := ⟨R.toNat, by omega⟩
    obtain ⟨hq, hq0⟩ := H5.out h0
    rw [Int.toNat_natCast] at hq
    have hrl : r < os.length := by omega
    have hq1 : ¬ Q ≤ 0 := by omega
    go_enter Tryd.func5, Tryd.ntmps5
    go_wp2_with fail
    refine HC.out.mono ?_
    rintro e w1 ⟨rfl, hb1⟩
    have HB1 : Hid (Below w.heap.size w w1) := hb1
    clear hb1
    obtain ⟨g, o, X0, X1, xa, xn, xc, cc, eu, hcc, ⟨d0, d1, d2⟩, HLk⟩ := HL.out r w1 hrl HB1.out
    injection eu with eu1 _ eu2
    subst eu1 eu2
    rw [hq] at HLk
    clear hq
    go_wp2_with fail
    refine HLk.out.mono ?_
    rintro e w2 ⟨rfl, hb2⟩
    have HB2 : Hid (Below w.heap.size w w2) := bel_trans HB1.out hb2
    clear hb2 d0 d1 d2 HLk
    go_wp2
    go_loopw [7] (fun i wr => ∃ k : Nat, k ≤ os.length ∧ i = .int .i64 k ∧ Hid (Below w.heap.size w wr)) (fun i _ => os.length - (intOf i).toNat)
    case atStart => exact ⟨0, Nat.zero_le _, rfl, HB2⟩
    case round =>
      obtain ⟨k, hk, rfl, hbl⟩ := hrel
      by_cases hlt : k < os.length
      · obtain ⟨g, o, X0, X1, xa, xn, xc, cc, eu, hcc, ⟨d0, d1, d2⟩, HLk⟩ := HL.out k wr hlt hbl.out
        injection eu with eu1 _ eu2
        injection eu1 with eu1
        injection eu1 with eu3 eu4 _
        subst eu3 eu4 eu2
        obtain ⟨s1, s2⟩ := H6.out k hlt
        have hki : (k : Int) < (os.length : Int) := by omega
        generalize f k = X at *
        go_wp2_with fail
        refine HLk.out.mono ?_
        rintro e w5 ⟨rfl, hb5⟩
        have HB5 : Hid (Below w.heap.size w w5) := bel_trans hbl.out hb5
        clear hb5 d0 d1 d2
        have s1' : ¬ Q < X := Int.not_lt.2 s1
        by_cases hkR : (k : Int) < (r : Int)
        · have s3 : (X == Q) = false := by rw [beq_eq_false_iff_ne]; exact s2 (by omega) hkR
          go_wp2
          go_roundw
          case rel => exact ⟨k + 1, by omega, by go_num, HB5⟩
          case measure => simp [intOf]; omega
        · go_wp2
          go_roundw
          case rel => exact ⟨k + 1, by omega, by go_num, HB5⟩
          case measure => simp [intOf]; omega
      · obtain rfl : k = os.length := by omega
        go_wp2_with fail
        refine (HA.out _ hbl.out).mono ?_
        rintro e w5 ⟨rfl, hb5⟩
        have HB5 : Hid (Below w.heap.size w w5) := bel_trans hbl.out hb5
        clear hb5
        go_wp2
        go_ret
        exact ⟨rfl, HB5.out⟩
  · obtain rfl : R = -1 := by omega
    have hq := H4.out rfl
    subst hq
    go_enter Tryd.func5, Tryd.ntmps5
    go_wp2_with fail
    refine HC.out.mono ?_
    rintro e w1 ⟨rfl, hb1⟩
    have HB2 : Hid (Below w.heap.size w w1) := hb1
    clear hb1
    go_wp2
    go_loopw [7] (fun i wr => ∃ k : Nat, k ≤ os.length ∧ i = .int .i64 k ∧ Hid (Below w.heap.size w wr)) (fun i _ => os.length - (intOf i).toNat)
    case atStart => exact ⟨0, Nat.zero_le _, rfl, HB2⟩
    case round =>
      obtain ⟨k, hk, rfl, hbl⟩ := hrel
      by_cases hlt : k < os.length
      · obtain ⟨g, o, X0, X1, xa, xn, xc, cc, eu, hcc, ⟨d0, d1, d2⟩, HLk⟩ := HL.out k wr hlt hbl.out
        injection eu with eu1 _ eu2
        subst eu1 eu2
        obtain ⟨s1, s2⟩ := H6.out k hlt
        have hki : (k : Int) < (os.length : Int) := by omega
        generalize f k = X at *
        go_wp2_with fail
        refine HLk.out.mono ?_
        rintro e w5 ⟨rfl, hb5⟩
        have HB5 : Hid (Below w.heap.size w w5) := bel_trans hbl.out hb5
        clear hb5 d0 d1 d2
        have s1' : ¬ 0 < X := Int.not_lt.2 s1
        go_wp2
        go_roundw
        case rel => exact ⟨k + 1, by omega, by go_num, HB5⟩
        case measure => simp [intOf]; omega
      · obtain rfl : k = os.length := by omega
        go_wp2_with fail
        refine (HA.out _ hbl.out).mono ?_
        rintro e w5 ⟨rfl, hb5⟩
        have HB5 : Hid (Below w.heap.size w w5) := bel_trans hbl.out hb5
        clear hb5
        go_wp2
        go_ret
        exact ⟨rfl, HB5.out⟩

theorem walk_AcceptBest (v : Value) (t : List Rng) (bt : (t.map fun r => szM r.md + 1).sum ≤ 1048576) (u : Value) (os : List Md) (bo : (os.map fun r => szM r + 1).sum ≤ 1048576) (w : World) (hv : RdRg v t w) (hu : RdMs u os w) (hw : Env w) :
    Calls Tryd.prog 5 #[v, u] w fun e w' => e = .returned (.bool true) ∧ Below w.heap.size w w' := by
  obtain ⟨a1, a2⟩ := sum_each (fun r : Rng => szM r.md) t _ bt
  obtain ⟨b1, b2⟩ := sum_each szM os _ bo
  exact walk_AcceptBest0 v u t os (fun r hr => okMd_of_bulk r (b1 r hr)) (by omega) (fun r hr => okMd_of_bulk r.md (a1 r hr)) (by omega) w hv hu hw

end Ac
end Go.Proofs.YtejagkpjdfambaaDoor
