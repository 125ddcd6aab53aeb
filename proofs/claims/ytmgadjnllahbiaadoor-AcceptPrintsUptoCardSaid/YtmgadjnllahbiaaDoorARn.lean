/-
  The document's Print.
-/
import Derived.Test.YtmgadjnllahbiaaDoorAPn
import Derived.Test.YtmgadjnllahbiaaDoorARm
import Derived.Test.YtmgadjnllahbiaaDoorRPrt
import Derived.Test.YtmgadjnllahbiaaDoorQBel
import Derived.Test.YtmgadjnllahbiaaDoorAMa
set_option linter.unusedVariables false
set_option linter.unusedSimpArgs false
namespace Go.Proofs.YtmgadjnllahbiaaDoor
open Go.RowKit Go.Shelf
namespace Ac
open Oc Tg

/-- All names small, so far. -/
def smallK (A B : List UInt8) (ps : List Prm) (k : Nat) : Bool := (decide (lower A = A) && decide (lower B = B)) && (ps.take k).all (fun p => decide (lower p.1 = p.1))
theorem smallK_next (A B : List UInt8) (ps : List Prm) (k : Nat) (hk : k < ps.length) : smallK A B ps (k + 1) = (smallK A B ps k && decide (lower (nth ps k).1 = (nth ps k).1)) := by
  unfold smallK
  rw [take_nthM ps k hk, List.all_append]
  simp [Bool.and_assoc]

theorem smallK_all (A B : List UInt8) (ps : List Prm) : smallK A B ps ps.length = ((decide (lower A = A) && decide (lower B = B)) && !ps.any notSmall) := by
  unfold smallK
  rw [List.take_length]
  congr 1
  induction ps with
  | nil => rfl
  | cons p t ih =>
    rw [List.all_cons, ih, List.any_cons]
    unfold notSmall
    simp
theorem prM_doc (A B : List UInt8) (ps : List Prm) : prM A B ps = if (printR ps).2 ≠ 0 ∨ smallK A B ps ps.length = false ∨ ps.any noVal = true ∨ isTok A = false ∨ isTok B = false then ([], 70) else (A ++ 47 :: (B ++ (printR ps).1), 0) := by
  rw [smallK_all]
  unfold prM printR smTok
  cases prts ps with
  | none => simp
  | some x =>
    cases isTok A <;> cases isTok B <;> cases decide (lower A = A) <;> cases decide (lower B = B) <;> cases ps.any noVal <;> cases ps.any notSmall <;> simp

set_option maxRecDepth 100000 in
set_option maxHeartbeats 4000000 in
theorem rPrint07_any (A B : List UInt8) (v : Value) (ps : List Prm) (hA : A.length ≤ 1048576) (hB : B.length ≤ 1048576) (hM : EachP 1048576 ps) (hl : ps.length ≤ 1048576) (hS : sumP ps ≤ 8388608) (w : World) (hrd : RdP v ps w) :
    Calls Tryd.prog 6 #[.agg #[.string (str A), .string (str B), v]] w fun e w' => e = .returned (.tuple #[.string (str (prM A B ps).1), .int .i64 (prM A B ps).2]) ∧ Below w.heap.size w w' := by
  have HR : Hid (RdP v ps w) := hrd
  obtain ⟨va, vc, rfl, _⟩ := hrd
  obtain ⟨w2, hw2⟩ : ∃ w2, w2 = w.alloc (.cells #[.string (str A), .string (str B), .slice va ps.length vc] 27) := ⟨_, rfl⟩
  have HR1 : Hid (w2.heap[w.heap.size]? = some (.cells #[.string (str A), .string (str B), .slice va ps.length vc] 27 (0, 0))) := by
    show _ = _; rw [hw2]; exact heap_alloc_new w _
  have hb2 : Below w.heap.size w w2 := by rw [hw2]; exact (Below.refl _ w).alloc (Nat.le_refl _) _
  have hz2 : w.heap.size < w2.heap.size := by rw [hw2]; simp
  have HB2 : Hid (Below w.heap.size w w2) := hb2
  have HR2 : Hid (RdP (.slice va ps.length vc) ps w2) := HR.out.below hb2
  clear hb2
  have hcell : Hid (∀ W, Below w2.heap.size w2 W → W.cell? ⟨w.heap.size, 0, none⟩ = some (.string (str A)) ∧ W.cell? ⟨w.heap.size, 1, none⟩ = some (.string (str B)) ∧ W.cell? ⟨w.heap.size, 2, none⟩ = some (.slice va ps.length vc)) := fun W hW => by
    have R := (hW.block _ hz2).trans HR1.out
    have c0 := Lib.cell_of_heap R 0
    have c1 := Lib.cell_of_heap R 1
    have c2 := Lib.cell_of_heap R 2
    simp at c0 c1 c2
    exact ⟨c0, c1, c2⟩
  have low : ∀ (l : List UInt8), l.length ≤ 1048576 → ∀ w, Calls Tryd.prog 15 #[.string (str l)] w fun e w' => e = .returned (.string (str (lower l))) ∧ Below w.heap.size w w' := fun l hl w => by
    have := rLower_any (str l) (by rw [str_size]; unfold maxLen; omega) w
    unfold lowS at this
    rw [str_list] at this
    exact this
  have LA : Hid (_) := low A hA
  have LB : Hid (_) := low B hB
  have LP : Hid (∀ k, k < ps.length → ∀ w, Calls Tryd.prog 15 #[.string (str (nth ps k).1)] w fun e w' => e = .returned (.string (str (lower (nth ps k).1))) ∧ Below w.heap.size w w') := fun k hk w => low _ (hM.at k hk).1 w
  have VA : Hid (((str (lower A)).toList == (str A).toList) = decide (lower A = A)) := veq _ _
  have VB : Hid (((str (lower B)).toList == (str B).toList) = decide (lower B = B)) := veq _ _
  have VP : Hid (∀ k, ((str (lower (nth ps k).1)).toList == (str (nth ps k).1).toList) = decide (lower (nth ps k).1 = (nth ps k).1)) := fun k => veq _ _
  have FP : Hid (∀ w, RdP (.slice va ps.length vc) ps w → Calls Tryd.prog 14 #[.slice va ps.length vc] w fun e w' => e = .returned (.tuple #[.string (str (printR ps).1), .int .i64 (printR ps).2]) ∧ Below w.heap.size w w') := fun w h => rPrint_any _ ps w h (by omega) hS
  have FV : Hid (∀ w, RdP (.slice va ps.length vc) ps w → Calls _ _ _ w _) := fun w h => valued_any _ ps w h (by omega)
  have tokA : Hid (∀ w, Calls Tryd.prog 17 #[.string (str A)] w fun e w' => e = .returned (.bool (isTok A)) ∧ w' = w) := fun w => by
    have h := rIsToken_any (str A) (by rw [str_size]; unfold maxLen; omega) w
    rw [str_list] at h
    exact h
  have tokB' : Hid (∀ w, Calls Tryd.prog 17 #[.string (str B)] w fun e w' => e = .returned (.bool (isTok B)) ∧ w' = w) := fun w => by
    have h := rIsToken_any (str B) (by rw [str_size]; unfold maxLen; omega) w
    rw [str_list] at h
    exact h
  have hmx := mixB
  clear low
  go_enter Tryd.func6, Tryd.ntmps6
  go_wp2_with fail
  rw [← hw2]
  clear hw2
  refine (FP.out _ HR2.out).mono ?_
  rintro e w3 ⟨rfl, hb3⟩
  have HB3 : Hid (Below w2.heap.size w2 w3) := hb3
  clear hb3
  have k0 : ∀ p : BelBy w3, p.to.cell? ⟨w.heap.size, 0, none⟩ = some (.string (str A)) := fun p => (hcell.out _ (bel_trans HB3.out p.bel)).1
  have k1 : ∀ p : BelBy w3, p.to.cell? ⟨w.heap.size, 1, none⟩ = some (.string (str B)) := fun p => (hcell.out _ (bel_trans HB3.out p.bel)).2.1
  generalize hSA : str A = SA at *
  generalize hSB : str B = SB at *
  generalize hXA : str (lower A) = XA at *
  generalize hXB : str (lower B) = XB at *
  have HX : Hid (smallK A B ps 0 = (decide (lower A = A) && decide (lower B = B))) := (by unfold smallK; simp : smallK A B ps 0 = _)
  generalize hdA : decide (lower A = A) = dA at *
  generalize hdB : decide (lower B = B) = dB at *
  have va1 := VA.out
  have vb1 := VB.out
  have inh : Nonempty (BelBy w3) := ⟨⟨w3, Below.refl _ w3⟩⟩
  go_wp2_with fail
  cases dA
  all_goals
    refine wp_region_bel hmx (by kernel_rfl) ?_
    repeat (quiet_step (first | (go_at_call 15; with_reducible (refine Calls.bel_of (LA.out _))) | (go_at_call 15; with_reducible (refine Calls.bel_of (LB.out _)))))
    refine wpQuiet_nil ?_
    rintro _ ⟨pq, rfl⟩
    have HB4 : Hid (Below w2.heap.size w2 pq.to) := bel_trans HB3.out pq.bel
    generalize pq.to = w4 at *
    clear k0 k1 inh va1 vb1
    go_wp2
    go_loopw [6, 7] (fun sv iv wr => ∃ k : Nat, k ≤ ps.length ∧ iv = .int .i64 k ∧ sv = .bool (smallK A B ps k) ∧ Hid (Below w2.heap.size w2 wr)) (fun _ iv _ => ps.length - (intOf iv).toNat)
    case atStart => exact ⟨0, Nat.zero_le _, rfl, by rw [HX.out]; first | rfl | simp, HB4⟩
    case round =>
      obtain ⟨k, hk, rfl, rfl, hbl⟩ := hrel
      obtain ⟨c0, c1, c2⟩ := hcell.out _ hbl.out
      by_cases hlt : k < ps.length
      · have HNX := smallK_next A B ps k hlt
        have inh : Nonempty (BelBy wr) := ⟨⟨wr, Below.refl _ wr⟩⟩
        have k2 : ∀ p : BelBy wr, p.to.cell? ⟨w.heap.size, 2, none⟩ = some (.slice va ps.length vc) := fun p => p.cell c2
        obtain ⟨a', c', e', hcs⟩ := (HR2.out.below hbl.out)
        injection e' with e1 _ e2
        subst e1 e2
        rcases hcs with h | ⟨g, o, rfl, hlc, hcell3⟩
        · rw [h] at hlt; simp at hlt
        have p0 := (hcell3 k hlt).1
        clear hcell3
        have p0' : ∀ p : BelBy wr, p.to.cell? ⟨g, o + k * 3, none⟩ = some (.string (str (nth ps k).1)) := fun p => p.cell p0
        have LK : Hid (∀ W, Calls _ _ _ W _) := LP.out k hlt
        have vk := VP.out k
        generalize str (lower (nth ps k).1) = XK at *
        generalize str (nth ps k).1 = SK at *
        generalize hdk : decide (lower (nth ps k).1 = (nth ps k).1) = dk at *
        have HNX' : Hid (smallK A B ps (k + 1) = (smallK A B ps k && dk)) := HNX
        clear HNX
        generalize smallK A B ps k = sk at *
        have hk0 : (0 : Int) ≤ (k : Int) := by omega
        have hk1 : (k : Int) < (ps.length : Int) := by omega
        go_wp2_with fail
        cases sk
        · clear k2 p0' inh LK vk
          go_quiet (fail)
          have HB5 : Hid (Below w2.heap.size w2 (wr.drewN nq)) := hbl.out.trans ⟨rfl, rfl, rfl, Nat.le_refl _, fun _ _ => rfl⟩
          go_wp2
          go_roundw
          case rel => exact ⟨k + 1, by omega, by go_num, by rw [HNX'.out]; simp, HB5⟩
          case measure => simp [intOf]; omega
        · refine wp_region_bel hmx (by kernel_rfl) ?_
          iterate 18 (quiet_step (first | (go_at_call 15; exact Calls.bel_of (LK.out _))))
          refine wpQuiet_nil ?_
          rintro _ ⟨pq2, rfl⟩
          have HB5 : Hid (Below w2.heap.size w2 pq2.to) := bel_trans hbl.out pq2.bel
          generalize pq2.to = w5 at *
          clear k2 p0' inh
          go_wp2
          go_roundw
          case rel => exact ⟨k + 1, by omega, by go_num, by rw [HNX'.out]; simp, HB5⟩
          case measure => simp [intOf]; omega
      · obtain rfl : k = ps.length := by omega
        have HP := prM_doc A B ps
        have HP' : Hid (prM A B ps = _) := HP
        clear HP
        generalize smallK A B ps ps.length = sk at *
        have HRr : Hid (RdP (.slice va ps.length vc) ps wr) := HR2.out.below hbl.out
        have FVr := FV.out wr HRr.out
        have HFV : Hid (Calls _ _ _ wr _) := FVr
        clear FVr
        generalize ps.any noVal = nv at *
        generalize isTok A = ta at *
        generalize isTok B = tb at *
        by_cases he : (printR ps).2 = 0
        · cases sk with
          | false =>
            have HN : Hid (prM A B ps = ([], 70)) := (by rw [HP'.out]; simp : prM A B ps = _)
            have he' : ((printR ps).2 != 0) = false := by simp [he]
            go_wp2
            go_ret2
            rw [HN.out]
            exact ⟨rfl, HB2.out.trans (hbl.out.mono (by omega))⟩
          | true =>
            have he' : ((printR ps).2 != 0) = false := by simp [he]
            have HE : Hid ((printR ps).2 = 0) := he
            clear he
            go_wp2_with fail
            refine HFV.out.mono ?_
            rintro e w6 ⟨rfl, hw6⟩
            rw [hw6]
            clear hw6
            cases nv with
            | true =>
              have HN : Hid (prM A B ps = ([], 70)) := (by rw [HP'.out]; simp : prM A B ps = _)
              go_wp2
              go_ret2
              rw [HN.out]
              exact ⟨rfl, HB2.out.trans (hbl.out.mono (by omega))⟩
            | false =>
              go_wp2_with fail
              refine (tokA.out _).mono ?_
              rintro e w7 ⟨rfl, hw7⟩
              rw [hw7]
              clear hw7
              cases ta with
              | false =>
                have HN : Hid (prM A B ps = ([], 70)) := (by rw [HP'.out]; simp : prM A B ps = _)
                go_wp2
                go_ret2
                rw [HN.out]
                exact ⟨rfl, HB2.out.trans (hbl.out.mono (by omega))⟩
              | true =>
                go_wp2_with fail
                refine (tokB'.out _).mono ?_
                rintro e w8 ⟨rfl, hw8⟩
                rw [hw8]
                clear hw8
                cases tb with
                | false =>
                  have HN : Hid (prM A B ps = ([], 70)) := (by rw [HP'.out]; simp : prM A B ps = _)
                  go_wp2
                  go_ret2
                  rw [HN.out]
                  exact ⟨rfl, HB2.out.trans (hbl.out.mono (by omega))⟩
                | true =>
                  have HN : Hid (prM A B ps = (A ++ 47 :: (B ++ (printR ps).1), 0)) := (by rw [HP'.out, HE.out]; simp : prM A B ps = _)
                  have HQ : Hid (str (A ++ 47 :: (B ++ (printR ps).1)) = SA ++ ⟨#[47]⟩ ++ SB ++ str (printR ps).1) := (by
                    rw [← hSA, ← hSB, show (⟨#[47]⟩ : ByteArray) = str [47] from rfl]
                    apply eq_list
                    simp [str] : _ = _)
                  have lA : SA.size ≤ 1048576 := by rw [← hSA, str_size]; exact hA
                  have lB : SB.size ≤ 1048576 := by rw [← hSB, str_size]; exact hB
                  have lP : (str (printR ps).1).size ≤ 16777216 := by
                    rw [str_size]
                    unfold printR
                    cases hp : prts ps with
                    | none => simp
                    | some x => have := prts_len ps x hp; dsimp only; omega
                  generalize str (printR ps).1 = SP at *
                  have hk1 : (⟨#[47]⟩ : ByteArray).size = 1 := rfl
                  generalize (⟨#[47]⟩ : ByteArray) = K1 at *
                  have hs1 : SA.size + K1.size ≤ 9223372036854775807 := by omega
                  have hs2 : SA.size + K1.size + SB.size ≤ 9223372036854775807 := by omega
                  have hs3 : SA.size + K1.size + SB.size + SP.size ≤ 9223372036854775807 := by omega
                  clear hk1
                  go_wp2
                  go_ret2
                  rw [HN.out]
                  dsimp only
                  rw [HQ.out]
                  exact ⟨rfl, HB2.out.trans (hbl.out.mono (by omega))⟩
        · have he' : ((printR ps).2 != 0) = true := by simp [he]
          have HN : Hid (prM A B ps = ([], 70)) := (by rw [HP'.out, if_pos (.inl he)] : prM A B ps = _)
          go_wp2
          go_ret2
          rw [HN.out]
          exact ⟨rfl, HB2.out.trans (hbl.out.mono (by omega))⟩

end Ac
end Go.Proofs.YtmgadjnllahbiaaDoor
