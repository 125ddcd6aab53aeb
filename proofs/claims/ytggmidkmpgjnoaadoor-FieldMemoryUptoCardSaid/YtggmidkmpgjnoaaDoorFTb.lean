/-
  field.Set.
-/
import Derived.Test.YtggmidkmpgjnoaaDoorFTa
set_option linter.unusedVariables false
set_option linter.unusedSimpArgs false
namespace Go.Proofs.YtggmidkmpgjnoaaDoor
open Go.RowKit Go.Shelf
namespace Fd
open Oc Tg

def setL (p : Fl) (t : List Fl) (k : Nat) : List Fl := (t.filter (unlike p.1)).take k ++ p :: (t.filter (unlike p.1)).drop k
/-- What Set answers. -/
def setF (t : List Fl) (p : Fl) : List Fl × Int := match t.findIdx? (alike p.1) with
  | none => addF t p
  | some k => if chkZ p = 0 then (if 100 < (setL p t k).length then ([], 65) else (setL p t k, 0)) else ([], chkZ p)
theorem filter_front : ∀ (s : List UInt8) (t : List Fl) (k : Nat), t.findIdx? (alike s) = some k → (t.filter (unlike s)) = t.take k ++ (t.drop (k + 1)).filter (unlike s) ∧ k < t.length
  | s, [], k, h => by simp at h
  | s, x :: t, k, h => by
    rw [List.findIdx?_cons] at h
    by_cases hx : alike s x = true
    · rw [hx] at h
      simp at h
      subst h
      simp [unlike, hx]
    · have hx' : alike s x = false := by simpa using hx
      rw [hx'] at h
      simp at h
      obtain ⟨j, hj, rfl⟩ := h
      obtain ⟨e, hl⟩ := filter_front s t j hj
      refine ⟨?_, by simpa using hl⟩
      rw [List.filter_cons, if_pos (by simp [unlike, hx']), e]
      simp
theorem setL_is (p : Fl) (t : List Fl) (k : Nat) (h : t.findIdx? (alike p.1) = some k) : setL p t k = t.take k ++ p :: (t.drop (k + 1)).filter (unlike p.1) := by
  obtain ⟨e, hl⟩ := filter_front p.1 t k h
  unfold setL
  have hk : (t.take k).length = k := by rw [List.length_take]; omega
  rw [e, List.take_left' hk, List.drop_left' hk]

theorem arm6 {w w2 W w5 : World} {g T : Nat} {u : Value} {t : List Fl} (hg2 : g < w2.heap.size) (HB02 : Below g w w2) (hW : Below w2.heap.size w2 W) (hp : OwnF T W.heap.size u t w5) (hb5 : Below W.heap.size W w5) :
    u.ownBlock ≠ some w5.heap.size ∧ (∀ k, k < W.heap.size → u.ownBlock ≠ some k) ∧ w2.heap.size ≤ W.heap.size := by
  have s1 := hW.size
  refine ⟨fun h => ?_, fun k hk h => ?_, s1⟩
  · have := (World.ownsRow.lt hp _ h).2
    omega
  · have := (World.ownsRow.lt hp _ h).1
    omega

set_option maxRecDepth 100000 in
set_option maxHeartbeats 2000000 in
theorem Set_any (v : Value) (t : List Fl) (n x : List UInt8) (hn : n.length ≤ 1048576) (hx : x.length ≤ 1048576) (hM : Each 1048576 t) (hl : t.length ≤ 16777215) (w : World) (hrd : RdF v t w) (tab : Tab w) :
    Calls Tryd.prog 12 #[v, .string (str n), .string (str x)] w fun e w' => ∃ u, e = .returned (.tuple #[u, .int .i64 (setF t (n, x)).2]) ∧ OwnF 46 w.heap.size u (setF t (n, x)).1 w' ∧ Below w.heap.size w w' := by
  have HN0 : Hid (Calls _ _ _ w _) := named_any (str n) w
  obtain ⟨w0, hw0⟩ : ∃ w0, w0 = w.alloc (.cells #[.string (str n)] 9) := ⟨_, rfl⟩
  have hb0 : Below w.heap.size w w0 := by rw [hw0]; exact (Below.refl _ w).alloc (Nat.le_refl _) _
  have hc0 : w0.cell? ⟨w.heap.size, 0, none⟩ = some (.string (str n)) := by rw [hw0]; simp
  have HI : Hid (Calls _ _ _ w0 _) := IndexFunc_any v t n (by unfold maxLen; omega) (fun p hp => by have := hM p hp; unfold maxLen; omega) (by omega) w.heap.size w0 (hrd.below hb0) hc0
  have HAdd : Hid (∀ W, Below w.heap.size w W → Calls _ _ _ W _) := fun W hb => Add_any v t n x hn hx hM (by omega) W (hrd.below hb) (tab.below hb (Nat.le_refl _))
  have HRem : Hid (∀ W, Below w.heap.size w W → Calls _ _ _ W _) := fun W hb => Remove_any v t n hn hM (by omega) W (hrd.below hb)
  have HChk : Hid (∀ W, Below w.heap.size w W → Calls _ _ _ W _) := fun W hb => check_any (n, x) (by unfold maxLen; dsimp only; omega) (by unfold maxLen; dsimp only; omega) W (tab.below hb (Nat.le_refl _))
  have HB0 : Hid (Below w.heap.size w w0) := hb0
  obtain ⟨va, vc, rfl, _⟩ := hrd
  clear hM tab hc0
  cases hf : t.findIdx? (alike n) with
  | none =>
    have hix : idxZ n t = -1 := by unfold idxZ; rw [hf]
    have HS : Hid (setF t (n, x) = addF t (n, x)) := (by unfold setF; simp only [hf] : _ = _)
    rw [hix] at HI
    clear hix hf
    generalize setF t (n, x) = SF at *
    generalize addF t (n, x) = AF at *
    generalize str n = N at *
    generalize str x = X at *
    go_enter Tryd.func12, Tryd.ntmps12
    go_wp2_with fail
    refine HN0.out.mono ?_
    rintro e x1 ⟨rfl, rfl⟩
    rw [← hw0]
    clear hw0 hb0
    go_wp2_with fail
    refine HI.out.mono ?_
    rintro e w1 ⟨rfl, hb1⟩
    have HB1 : Hid (Below w.heap.size w w1) := bel_trans HB0.out hb1
    clear hb1
    go_wp2_with fail
    refine (HAdd.out _ HB1.out).mono ?_
    rintro e w2 ⟨u2, rfl, ho2, hb2⟩
    have HO2 : Hid (OwnF _ _ _ _ _) := ho2.low HB1.out.size
    have HB2 : Hid (Below w.heap.size w w2) := bel_trans HB1.out hb2
    clear ho2 hb2
    go_wp2
    go_ret2
    rw [HS.out]
    exact ⟨_, rfl, HO2.out, HB2.out⟩
  | some k =>
    have hix : idxZ n t = (k : Int) := by unfold idxZ; rw [hf]
    obtain ⟨hfr, hkt⟩ := filter_front n t k hf
    have hkf : k ≤ (t.filter (unlike n)).length := by rw [hfr, List.length_append, List.length_take]; omega
    have hfl : (t.filter (unlike n)).length ≤ 16777215 := Nat.le_trans (List.length_filter_le _ _) hl
    have HA0 : Hid (chkZ (n, x) ≠ 0 → setF t (n, x) = ([], chkZ (n, x))) := (fun h => by unfold setF; simp only [hf]; rw [if_neg h] : _ → _)
    have HA1 : Hid (chkZ (n, x) = 0 → 100 < (setL (n, x) t k).length → setF t (n, x) = ([], 65)) := (fun h h2 => by unfold setF; simp only [hf]; rw [if_pos h, if_pos h2] : _ → _)
    have HA2 : Hid (chkZ (n, x) = 0 → ¬ 100 < (setL (n, x) t k).length → setF t (n, x) = (setL (n, x) t k, 0)) := (fun h h2 => by unfold setF; simp only [hf]; rw [if_pos h, if_neg h2] : _ → _)
    have HIns : Hid (∀ (B : Nat) (u : Value) (vb : Nat) (W : World), OwnF 46 B u (t.filter (unlike n)) W → W.heap[vb]? = some (.cells #[.string (str n), .string (str x)] 46 (0, 0)) → u.ownBlock ≠ some vb → B ≤ W.heap.size → Calls Tryd.prog 30 #[u, .int .i64 (k : Nat), .slice (some ⟨vb, 0, none⟩) 1 1] W fun e w' => ∃ u', e = .returned u' ∧ OwnF 46 B u' (setL (n, x) t k) w' ∧ Below B W w') := fun B u vb W h1 h2 h3 h4 => Insert_any B u (t.filter (unlike n)) k hkf (n, x) vb W h1 h2 h3 h4 (by omega)
    have hsl : (setL (n, x) t k).length ≤ 16777216 := by unfold setL; rw [List.length_append, List.length_cons, List.length_take, List.length_drop]; dsimp only; omega
    rw [hix] at HI
    clear hix hf hfr hkf
    generalize setF t (n, x) = SF at *
    generalize setL (n, x) t k = SL at *
    generalize chkZ (n, x) = C at *
    generalize t.filter (unlike n) = FL at *
    generalize str n = N at *
    generalize str x = X at *
    have hk0 : decide ((k : Int) < 0) = false := decide_eq_false (by omega)
    go_enter Tryd.func12, Tryd.ntmps12
    go_wp2_with fail
    refine HN0.out.mono ?_
    rintro e x1 ⟨rfl, rfl⟩
    rw [← hw0]
    clear hw0 hb0
    go_wp2_with fail
    refine HI.out.mono ?_
    rintro e w1 ⟨rfl, hb1⟩
    have HB1 : Hid (Below w.heap.size w w1) := bel_trans HB0.out hb1
    obtain ⟨w2, hw2⟩ : ∃ w2, w2 = w1.alloc (.cells #[.string N, .string X] 46) := ⟨_, rfl⟩
    have hp2 : w2.heap[w1.heap.size]? = some (.cells #[.string N, .string X] 46 (0, 0)) := by rw [hw2]; exact heap_alloc_new w1 _
    have HB2 : Hid (Below w.heap.size w w2) := (by rw [hw2]; exact HB1.out.alloc HB1.out.size _ : Below _ _ _)
    have q0 : w2.cell? ⟨w1.heap.size, 0, none⟩ = some (.string N) := by rw [Lib.cell_of_heap hp2]; rfl
    have q1 : w2.cell? ⟨w1.heap.size, 1, none⟩ = some (.string X) := by rw [Lib.cell_of_heap hp2]; rfl
    have hlt2 : w1.heap.size < w2.heap.size := (Array.getElem?_eq_some_iff.1 hp2).1
    have hsz1 : w.heap.size ≤ w1.heap.size := HB1.out.size
    clear hb1 hp2
    generalize hgg : w1.heap.size = g at *
    go_wp2_with fail
    rw [← hw2]
    clear hw2 hgg
    refine (HChk.out _ HB2.out).mono ?_
    rintro e w3 ⟨rfl, hb3⟩
    have HB3 : Hid (Below w.heap.size w w3) := bel_trans HB2.out hb3
    have p0 : w3.cell? ⟨g, 0, none⟩ = some (.string N) := (hb3.cell hlt2).trans q0
    have p1 : w3.cell? ⟨g, 1, none⟩ = some (.string X) := (hb3.cell hlt2).trans q1
    have hg3 : g < w3.heap.size := by have := hb3.size; omega
    have HBg : Hid (Below g w3 w3) := Below.refl _ _
    clear hb3 q0 q1 hlt2
    by_cases hC : C = 0
    · subst hC
      have HA1' : Hid (100 < SL.length → SF = ([], 65)) := HA1.out rfl
      have HA2' : Hid (¬ 100 < SL.length → SF = (SL, 0)) := HA2.out rfl
      clear HA0 HA1 HA2
      go_wp2_with fail
      go_region_law (first
        | (go_simp; go_at_call 14; refine (HRem.out _ (bel_trans HB3.out (((Below.refl _ _).alloc (Nat.le_refl _) _).drew))).mono ?_; rintro e w5 ⟨u5, rfl, hp5, hb5⟩; dsimp only; obtain ⟨c0, c1, ho5, hB5, hz5⟩ := arm5 hg3 HBg.out (((Below.refl _ _).alloc (Nat.le_refl _) _).drew) hp5 hb5 p0 p1; obtain ⟨ne5, na5, sw5⟩ := arm6 hg3 HBg.out (((Below.refl _ _).alloc (Nat.le_refl _) _).drew) hp5 hb5; have d0 : w5.heap[w3.heap.size]? = some (.cells #[.string N, .string X] 46 (0, 0)) := (by rw [hb5.block _ (by simp)]; exact heap_alloc_new w3 _))
        | (go_simp; go_at_call 14; refine (HRem.out _ (bel_trans HB3.out (Below.refl _ _).drew)).mono ?_; rintro e w5 ⟨u5, rfl, hp5, hb5⟩; dsimp only; obtain ⟨c0, c1, ho5, hB5, hz5⟩ := arm5 hg3 HBg.out (Below.refl _ _).drew hp5 hb5 p0 p1; obtain ⟨ne5, na5, sw5⟩ := arm6 hg3 HBg.out (Below.refl _ _).drew hp5 hb5)
        | (go_simp; go_at_call 30; with_reducible refine (HIns.out g u5 w5.heap.size _ (ho5.below ((Below.refl _ _).alloc (Nat.le_refl _) _)) (heap_alloc_new w5 _) ne5 (by simp; omega)).mono ?_; rintro e w7 ⟨u7, rfl, ho7, hb7⟩; dsimp only)
        | (go_simp; go_at_call 30; with_reducible refine (HIns.out g u5 w3.heap.size _ ho5 d0 (na5 _ (by simp)) hz5).mono ?_; rintro e w7 ⟨u7, rfl, ho7, hb7⟩; dsimp only))
      all_goals
        have HO7 : Hid (OwnF 46 w.heap.size u7 SL w7) := ho7.low hsz1
        have HB7 : Hid (Below w.heap.size w w7) := (by first | exact HB3.out.trans ((hB5.trans hb7).mono hsz1) | exact HB3.out.trans (((hB5.alloc hz5 _).trans hb7).mono hsz1) : Below _ _ _)
        obtain ⟨ua, uc, rfl⟩ := OwnF.form ho7
        clear ho7 hb7
        by_cases hmany : 100 < SL.length
        · have hd : decide ((100 : Int) < (SL.length : Int)) = true := decide_eq_true (by omega)
          have HSF : Hid (SF = _) := HA1'.out hmany
          go_wp2
          go_ret2
          rw [HSF.out]
          exact ⟨_, rfl, ownF_nil _ _ _, HB7.out⟩
        · have hd : decide ((100 : Int) < (SL.length : Int)) = false := decide_eq_false (by omega)
          have HSF : Hid (SF = _) := HA2'.out hmany
          go_wp2
          go_ret2
          rw [HSF.out]
          exact ⟨_, rfl, HO7.out, HB7.out⟩
    · have HSF : Hid (SF = _) := HA0.out hC
      have hne : (C != 0) = true := by simpa using hC
      go_wp2
      go_ret2
      rw [HSF.out]
      exact ⟨_, rfl, ownF_nil _ _ _, HB3.out⟩

end Fd
end Go.Proofs.YtggmidkmpgjnoaaDoor
