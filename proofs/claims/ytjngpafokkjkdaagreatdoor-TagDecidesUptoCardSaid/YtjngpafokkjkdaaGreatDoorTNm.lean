/-
  The function that takes one of so many names.
-/
import Derived.Test.YtjngpafokkjkdaaGreatDoorTDg
set_option linter.unusedVariables false
set_option linter.unusedSimpArgs false
namespace Go.Proofs.YtjngpafokkjkdaaGreatDoor
open Go.RowKit
namespace Bs

theorem hp_pre (l t : List UInt8) : Lib.hasPrefix l t = hp l t := by
  unfold Lib.hasPrefix hp
  rw [Bool.eq_iff_iff, List.isPrefixOf_iff_prefix, List.prefix_iff_eq_take, decide_eq_true_iff]
  exact ⟨Eq.symm, Eq.symm⟩
theorem str_drop (l : List UInt8) (i : Nat) (h : i ≤ l.length) : (str l).extract i l.length = str (l.drop i) := by
  apply eq_list
  rw [str_list]
  unfold str
  simp [ByteArray.extract, ByteArray.copySlice]
  first | done | (rw [List.take_of_length_le (by simp)])
theorem HasPrefix_any (l t : List UInt8) (w : World) :
    Calls Tryz.prog 89 #[.string (str l), .string (str t)] w fun e w' => e = .returned (.bool (hp l t)) ∧ w' = w := by
  have h := Tryz.strings_HasPrefix (str l) (str t) w
  rw [str_list, str_list, hp_pre] at h
  exact h
theorem nam_at {l : List UInt8} {a : Nat} {ns : List (List UInt8)} {i : Nat} (hi : i < ns.length) (h : ∀ j, j < i → hp (l.drop a) (ns.getD j []) = false) (hh : hp (l.drop a) (ns.getD i []) = true) : nam l a ns = some i := by
  unfold nam
  rw [List.findIdx?_eq_some_iff_getElem]
  refine ⟨hi, ?_, fun j hj => ?_⟩
  · rw [List.getD_eq_getElem?_getD, List.getElem?_eq_getElem hi] at hh
    exact hh
  · have := h j hj
    rw [List.getD_eq_getElem?_getD, List.getElem?_eq_getElem (by omega)] at this
    simpa using this
theorem nam_none {l : List UInt8} {a : Nat} {ns : List (List UInt8)} (h : ∀ j, j < ns.length → hp (l.drop a) (ns.getD j []) = false) : nam l a ns = none := by
  unfold nam
  rw [List.findIdx?_eq_none_iff]
  intro t ht
  obtain ⟨j, hj, rfl⟩ := List.mem_iff_getElem.1 ht
  have := h j hj
  rw [List.getD_eq_getElem?_getD, List.getElem?_eq_getElem hj] at this
  simpa using this
def nmR (st : List Int) (f a : Nat) (ns : List (List UInt8)) : Option Nat → Except Nat (Nat × List Int)
  | some i => .ok (a + (ns.getD i []).length, put st f i a)
  | none => .error a

set_option maxHeartbeats 400000 in
theorem takers1_any (i : Nat) (hi : i < 7) (w : World) (t : Tb w) :
    Calls Tryz.prog 107 #[.int .i64 (i : Int)] w fun e w' => e = .returned (.string (str (shorts.getD i []))) ∧ w' = w := by
  have c := t.sd i hi
  clear t
  go_enter Tryz.func107, Tryz.ntmps107
  go_wp2
  go_ret
  exact ⟨rfl, rfl⟩

theorem shorts_len (i : Nat) (hi : i < 7) : (shorts.getD i []).length ≤ 9 := by
  have : ∀ i : Fin 7, (shorts.getD i.val []).length ≤ 9 := by decide
  exact this ⟨i, hi⟩

set_option maxRecDepth 100000 in
set_option maxHeartbeats 1000000 in
theorem name1_0 (l : List UInt8) (f at' a b c P : Nat) (st : List Int) (hl : l.length ≤ 140737488355328) (hf : f < 7) (ha : at' ≤ l.length) (w : World) (tb : Tb w) (hp' : Pcs w P st)
    (ca : w.cell? ⟨a, 0, none⟩ = some (.int .i64 7)) (cb : w.cell? ⟨b, 0, none⟩ = some (.func (.func 107) #[] #[])) (cc : w.cell? ⟨c, 0, none⟩ = some (pp P (2 * f))) (nb : b ≠ P) (hnt : NotTb P) :
    Calls Tryz.prog 119 #[.string (str l), .int .i64 (at' : Int), pp a 0, pp b 0, pp c 0] w fun e w' => Took (nmR st f at' shorts (nam l at' shorts)) P e w' ∧ But [P] w w' := by
  have hs : (str l).size = l.length := str_size l
  have c0 := hp'.cell (2 * f) (by omega)
  have c1 := hp'.cell (2 * f + 1) (by omega)
  have f0 := hp'.free (2 * f)
  have f1 := hp'.free (2 * f + 1)
  have HP : Hid (Pcs w P st) := hp'
  clear hp'
  have HNT : Hid (NotTb P) := hnt
  clear hnt
  have HTB : Hid (Tb w) := tb
  clear tb
  have HE : Hid ((str l).extract at' l.length = str (l.drop at')) := str_drop l at' ha
  unfold pp at *
  go_enter Tryz.func119, Tryz.ntmps119
  go_wp2
  go_loopw [11] (fun i wr => ∃ k : Nat, k ≤ 7 ∧ i = .int .i64 (k : Int) ∧ Hid (But [] w wr) ∧ Hid (∀ j, j < k → hp (l.drop at') (shorts.getD j []) = false)) (fun i _ => 7 - (intOf i).toNat)
  case atStart => exact ⟨0, by omega, rfl, But.refl _ _, (fun j hj => by omega : ∀ j, j < 0 → hp (l.drop at') (shorts.getD j []) = false)⟩
  case round =>
    obtain ⟨k, hk, rfl, hb, hno⟩ := hrel
    have nn : ∀ x : Nat, x ∉ ([] : List Nat) := fun _ e => by cases e
    have cb' := hb.out.cell cb (nn _)
    have cc' := hb.out.cell cc (nn _)
    have c0' := hb.out.cell c0 (nn _)
    have c1' := hb.out.cell c1 (nn _)
    have HP' : Hid (Pcs wr P st) := HP.out.but hb.out (nn _)
    have f0' := HP'.out.free (2 * f)
    have f1' := HP'.out.free (2 * f + 1)
    have HT1 : Hid (∀ (n i : Nat), i < 7 → Calls Tryz.prog 107 #[.int .i64 (i : Int)] (wr.drewN n) fun e w' => e = .returned (.string (str (shorts.getD i []))) ∧ w' = wr.drewN n) := fun n i hi => takers1_any i hi _ (HTB.out.bel (hb.out.drewN n).to_below)
    clear ca cb cc c0 c1 f0 f1 nn
    by_cases hkn : k < 7
    · have hlen := shorts_len k hkn
      have hsz : (str (shorts.getD k [])).size = (shorts.getD k []).length := str_size _
      cases hh : hp (l.drop at') (shorts.getD k [])
      · have HN : Hid (∀ j, j < k + 1 → hp (l.drop at') (shorts.getD j []) = false) := (fun j hj => by
          by_cases hjk : j < k
          · exact hno.out j hjk
          · obtain rfl : j = k := by omega
            exact hh : ∀ j, j < k + 1 → hp (l.drop at') (shorts.getD j []) = false)
        have HC : Hid (∀ w, Calls Tryz.prog 89 #[.string ((str l).extract at' l.length), .string (str (shorts.getD k []))] w fun e w' => e = .returned (.bool false) ∧ w' = w) := fun w => by
          rw [HE.out, ← hh]
          exact HasPrefix_any _ _ w
        have HT2 : Hid (∀ n, Calls Tryz.prog 107 #[.int .i64 (k : Int)] (wr.drewN n) fun e w' => e = .returned (.string (str (shorts.getD k []))) ∧ w' = wr.drewN n) := fun n => HT1.out n k hkn
        clear hh hno HT1
        generalize str (shorts.getD k []) = X at *
        go_wp2_with fail
        go_quiet (first | (go_at_call 107; exact Calls.quiet_of_same (HT2.out _)) | (go_at_call 89; exact Calls.quiet_of_same (HC.out _)))
        go_wp2
        go_roundw
        case rel => exact ⟨k + 1, by omega, by go_num, hb.out.drewN _, HN⟩
        case measure => simp only [intOf]; omega
      · have HN : Hid (nam l at' shorts = some k) := nam_at hkn hno.out hh
        have HC : Hid (∀ w, Calls Tryz.prog 89 #[.string ((str l).extract at' l.length), .string (str (shorts.getD k []))] w fun e w' => e = .returned (.bool true) ∧ w' = w) := fun w => by
          rw [HE.out, ← hh]
          exact HasPrefix_any _ _ w
        have HT2 : Hid (∀ n, Calls Tryz.prog 107 #[.int .i64 (k : Int)] (wr.drewN n) fun e w' => e = .returned (.string (str (shorts.getD k []))) ∧ w' = wr.drewN n) := fun n => HT1.out n k hkn
        have HT3 : Hid (∀ n, Calls Tryz.prog 107 #[.int .i64 (k : Int)] (((wr.drewN n).setCell ⟨P, 2 * f, none⟩ (.int .i64 (k : Int))).setCell ⟨P, 2 * f + 1, none⟩ (.int .i64 (at' : Int))) fun e w' => e = .returned (.string (str (shorts.getD k []))) ∧ w' = ((wr.drewN n).setCell ⟨P, 2 * f, none⟩ (.int .i64 (k : Int))).setCell ⟨P, 2 * f + 1, none⟩ (.int .i64 (at' : Int))) := fun n => takers1_any k hkn _ ((HTB.out.bel hb.out.to_below).butP (((But.refl [P] wr).drewN n).setCell (by simp) _ |>.setCell (by simp) _) (HNT.out))
        have cb2 : ∀ n, (((wr.drewN n).setCell ⟨P, 2 * f, none⟩ (.int .i64 (k : Int))).setCell ⟨P, 2 * f + 1, none⟩ (.int .i64 (at' : Int))).cell? ⟨b, 0, none⟩ = some (.func (.func 107) #[] #[]) := fun n => (((But.refl [P] wr).drewN n).setCell (p := ⟨P, 2 * f, none⟩) (by simp) _ |>.setCell (p := ⟨P, 2 * f + 1, none⟩) (by simp) _).cell cb' (fun e => by simp at e; exact nb e)
        clear hh hno HT1
        generalize hN : shorts.getD k [] = N at *
        go_wp2_with fail
        go_quiet (first | (go_at_call 107; exact Calls.quiet_of_same (HT2.out _)) | (go_at_call 89; exact Calls.quiet_of_same (HC.out _)))
        go_wp2_with fail
        refine (HT3.out _).mono ?_
        rintro e w' ⟨rfl, rfl⟩
        go_wp2
        go_ret2
        have hbb := ((hb.out.nil (cs := [P])).drewN nq).setCell (p := ⟨P, 2 * f, none⟩) (by simp) (.int .i64 (k : Int)) |>.setCell (p := ⟨P, 2 * f + 1, none⟩) (by simp) (.int .i64 (at' : Int))
        refine ⟨?_, hbb⟩
        rw [HN.out]
        show Took (.ok (at' + (shorts.getD k []).length, put st f k at')) P _ _
        rw [hN]
        exact ⟨by simp, (((HP'.out.but ((But.refl [] wr).drewN nq) (fun e => by cases e)).set (2 * f) (by omega) (k : Int)).set (2 * f + 1) (by omega) (at' : Int))⟩
    · obtain rfl : k = 7 := by omega
      have HN : Hid (nam l at' shorts = none) := nam_none hno.out
      go_wp2
      go_ret2
      refine ⟨?_, hb.out.nil⟩
      rw [HN.out]
      exact ⟨rfl, st, HP'.out⟩

set_option maxHeartbeats 400000 in
theorem takers2_any (i : Nat) (hi : i < 7) (w : World) (t : Tb w) :
    Calls Tryz.prog 108 #[.int .i64 (i : Int)] w fun e w' => e = .returned (.string (str (longs.getD i []))) ∧ w' = w := by
  have c := t.ld i hi
  clear t
  go_enter Tryz.func108, Tryz.ntmps108
  go_wp2
  go_ret
  exact ⟨rfl, rfl⟩

theorem longs_len (i : Nat) (hi : i < 7) : (longs.getD i []).length ≤ 9 := by
  have : ∀ i : Fin 7, (longs.getD i.val []).length ≤ 9 := by decide
  exact this ⟨i, hi⟩

set_option maxRecDepth 100000 in
set_option maxHeartbeats 1000000 in
theorem name1_1 (l : List UInt8) (f at' a b c P : Nat) (st : List Int) (hl : l.length ≤ 140737488355328) (hf : f < 7) (ha : at' ≤ l.length) (w : World) (tb : Tb w) (hp' : Pcs w P st)
    (ca : w.cell? ⟨a, 0, none⟩ = some (.int .i64 7)) (cb : w.cell? ⟨b, 0, none⟩ = some (.func (.func 108) #[] #[])) (cc : w.cell? ⟨c, 0, none⟩ = some (pp P (2 * f))) (nb : b ≠ P) (hnt : NotTb P) :
    Calls Tryz.prog 119 #[.string (str l), .int .i64 (at' : Int), pp a 0, pp b 0, pp c 0] w fun e w' => Took (nmR st f at' longs (nam l at' longs)) P e w' ∧ But [P] w w' := by
  have hs : (str l).size = l.length := str_size l
  have c0 := hp'.cell (2 * f) (by omega)
  have c1 := hp'.cell (2 * f + 1) (by omega)
  have f0 := hp'.free (2 * f)
  have f1 := hp'.free (2 * f + 1)
  have HP : Hid (Pcs w P st) := hp'
  clear hp'
  have HNT : Hid (NotTb P) := hnt
  clear hnt
  have HTB : Hid (Tb w) := tb
  clear tb
  have HE : Hid ((str l).extract at' l.length = str (l.drop at')) := str_drop l at' ha
  unfold pp at *
  go_enter Tryz.func119, Tryz.ntmps119
  go_wp2
  go_loopw [11] (fun i wr => ∃ k : Nat, k ≤ 7 ∧ i = .int .i64 (k : Int) ∧ Hid (But [] w wr) ∧ Hid (∀ j, j < k → hp (l.drop at') (longs.getD j []) = false)) (fun i _ => 7 - (intOf i).toNat)
  case atStart => exact ⟨0, by omega, rfl, But.refl _ _, (fun j hj => by omega : ∀ j, j < 0 → hp (l.drop at') (longs.getD j []) = false)⟩
  case round =>
    obtain ⟨k, hk, rfl, hb, hno⟩ := hrel
    have nn : ∀ x : Nat, x ∉ ([] : List Nat) := fun _ e => by cases e
    have cb' := hb.out.cell cb (nn _)
    have cc' := hb.out.cell cc (nn _)
    have c0' := hb.out.cell c0 (nn _)
    have c1' := hb.out.cell c1 (nn _)
    have HP' : Hid (Pcs wr P st) := HP.out.but hb.out (nn _)
    have f0' := HP'.out.free (2 * f)
    have f1' := HP'.out.free (2 * f + 1)
    have HT1 : Hid (∀ (n i : Nat), i < 7 → Calls Tryz.prog 108 #[.int .i64 (i : Int)] (wr.drewN n) fun e w' => e = .returned (.string (str (longs.getD i []))) ∧ w' = wr.drewN n) := fun n i hi => takers2_any i hi _ (HTB.out.bel (hb.out.drewN n).to_below)
    clear ca cb cc c0 c1 f0 f1 nn
    by_cases hkn : k < 7
    · have hlen := longs_len k hkn
      have hsz : (str (longs.getD k [])).size = (longs.getD k []).length := str_size _
      cases hh : hp (l.drop at') (longs.getD k [])
      · have HN : Hid (∀ j, j < k + 1 → hp (l.drop at') (longs.getD j []) = false) := (fun j hj => by
          by_cases hjk : j < k
          · exact hno.out j hjk
          · obtain rfl : j = k := by omega
            exact hh : ∀ j, j < k + 1 → hp (l.drop at') (longs.getD j []) = false)
        have HC : Hid (∀ w, Calls Tryz.prog 89 #[.string ((str l).extract at' l.length), .string (str (longs.getD k []))] w fun e w' => e = .returned (.bool false) ∧ w' = w) := fun w => by
          rw [HE.out, ← hh]
          exact HasPrefix_any _ _ w
        have HT2 : Hid (∀ n, Calls Tryz.prog 108 #[.int .i64 (k : Int)] (wr.drewN n) fun e w' => e = .returned (.string (str (longs.getD k []))) ∧ w' = wr.drewN n) := fun n => HT1.out n k hkn
        clear hh hno HT1
        generalize str (longs.getD k []) = X at *
        go_wp2_with fail
        go_quiet (first | (go_at_call 108; exact Calls.quiet_of_same (HT2.out _)) | (go_at_call 89; exact Calls.quiet_of_same (HC.out _)))
        go_wp2
        go_roundw
        case rel => exact ⟨k + 1, by omega, by go_num, hb.out.drewN _, HN⟩
        case measure => simp only [intOf]; omega
      · have HN : Hid (nam l at' longs = some k) := nam_at hkn hno.out hh
        have HC : Hid (∀ w, Calls Tryz.prog 89 #[.string ((str l).extract at' l.length), .string (str (longs.getD k []))] w fun e w' => e = .returned (.bool true) ∧ w' = w) := fun w => by
          rw [HE.out, ← hh]
          exact HasPrefix_any _ _ w
        have HT2 : Hid (∀ n, Calls Tryz.prog 108 #[.int .i64 (k : Int)] (wr.drewN n) fun e w' => e = .returned (.string (str (longs.getD k []))) ∧ w' = wr.drewN n) := fun n => HT1.out n k hkn
        have HT3 : Hid (∀ n, Calls Tryz.prog 108 #[.int .i64 (k : Int)] (((wr.drewN n).setCell ⟨P, 2 * f, none⟩ (.int .i64 (k : Int))).setCell ⟨P, 2 * f + 1, none⟩ (.int .i64 (at' : Int))) fun e w' => e = .returned (.string (str (longs.getD k []))) ∧ w' = ((wr.drewN n).setCell ⟨P, 2 * f, none⟩ (.int .i64 (k : Int))).setCell ⟨P, 2 * f + 1, none⟩ (.int .i64 (at' : Int))) := fun n => takers2_any k hkn _ ((HTB.out.bel hb.out.to_below).butP (((But.refl [P] wr).drewN n).setCell (by simp) _ |>.setCell (by simp) _) (HNT.out))
        have cb2 : ∀ n, (((wr.drewN n).setCell ⟨P, 2 * f, none⟩ (.int .i64 (k : Int))).setCell ⟨P, 2 * f + 1, none⟩ (.int .i64 (at' : Int))).cell? ⟨b, 0, none⟩ = some (.func (.func 108) #[] #[]) := fun n => (((But.refl [P] wr).drewN n).setCell (p := ⟨P, 2 * f, none⟩) (by simp) _ |>.setCell (p := ⟨P, 2 * f + 1, none⟩) (by simp) _).cell cb' (fun e => by simp at e; exact nb e)
        clear hh hno HT1
        generalize hN : longs.getD k [] = N at *
        go_wp2_with fail
        go_quiet (first | (go_at_call 108; exact Calls.quiet_of_same (HT2.out _)) | (go_at_call 89; exact Calls.quiet_of_same (HC.out _)))
        go_wp2_with fail
        refine (HT3.out _).mono ?_
        rintro e w' ⟨rfl, rfl⟩
        go_wp2
        go_ret2
        have hbb := ((hb.out.nil (cs := [P])).drewN nq).setCell (p := ⟨P, 2 * f, none⟩) (by simp) (.int .i64 (k : Int)) |>.setCell (p := ⟨P, 2 * f + 1, none⟩) (by simp) (.int .i64 (at' : Int))
        refine ⟨?_, hbb⟩
        rw [HN.out]
        show Took (.ok (at' + (longs.getD k []).length, put st f k at')) P _ _
        rw [hN]
        exact ⟨by simp, (((HP'.out.but ((But.refl [] wr).drewN nq) (fun e => by cases e)).set (2 * f) (by omega) (k : Int)).set (2 * f + 1) (by omega) (at' : Int))⟩
    · obtain rfl : k = 7 := by omega
      have HN : Hid (nam l at' longs = none) := nam_none hno.out
      go_wp2
      go_ret2
      refine ⟨?_, hb.out.nil⟩
      rw [HN.out]
      exact ⟨rfl, st, HP'.out⟩

set_option maxHeartbeats 400000 in
theorem takers3_any (i : Nat) (hi : i < 12) (w : World) (t : Tb w) :
    Calls Tryz.prog 109 #[.int .i64 (i : Int)] w fun e w' => e = .returned (.string (str (mons.getD i []))) ∧ w' = w := by
  have c := t.mo i hi
  clear t
  go_enter Tryz.func109, Tryz.ntmps109
  go_wp2
  go_ret
  exact ⟨rfl, rfl⟩

theorem mons_len (i : Nat) (hi : i < 12) : (mons.getD i []).length ≤ 9 := by
  have : ∀ i : Fin 12, (mons.getD i.val []).length ≤ 9 := by decide
  exact this ⟨i, hi⟩

set_option maxRecDepth 100000 in
set_option maxHeartbeats 1000000 in
theorem name1_2 (l : List UInt8) (f at' a b c P : Nat) (st : List Int) (hl : l.length ≤ 140737488355328) (hf : f < 7) (ha : at' ≤ l.length) (w : World) (tb : Tb w) (hp' : Pcs w P st)
    (ca : w.cell? ⟨a, 0, none⟩ = some (.int .i64 12)) (cb : w.cell? ⟨b, 0, none⟩ = some (.func (.func 109) #[] #[])) (cc : w.cell? ⟨c, 0, none⟩ = some (pp P (2 * f))) (nb : b ≠ P) (hnt : NotTb P) :
    Calls Tryz.prog 119 #[.string (str l), .int .i64 (at' : Int), pp a 0, pp b 0, pp c 0] w fun e w' => Took (nmR st f at' mons (nam l at' mons)) P e w' ∧ But [P] w w' := by
  have hs : (str l).size = l.length := str_size l
  have c0 := hp'.cell (2 * f) (by omega)
  have c1 := hp'.cell (2 * f + 1) (by omega)
  have f0 := hp'.free (2 * f)
  have f1 := hp'.free (2 * f + 1)
  have HP : Hid (Pcs w P st) := hp'
  clear hp'
  have HNT : Hid (NotTb P) := hnt
  clear hnt
  have HTB : Hid (Tb w) := tb
  clear tb
  have HE : Hid ((str l).extract at' l.length = str (l.drop at')) := str_drop l at' ha
  unfold pp at *
  go_enter Tryz.func119, Tryz.ntmps119
  go_wp2
  go_loopw [11] (fun i wr => ∃ k : Nat, k ≤ 12 ∧ i = .int .i64 (k : Int) ∧ Hid (But [] w wr) ∧ Hid (∀ j, j < k → hp (l.drop at') (mons.getD j []) = false)) (fun i _ => 12 - (intOf i).toNat)
  case atStart => exact ⟨0, by omega, rfl, But.refl _ _, (fun j hj => by omega : ∀ j, j < 0 → hp (l.drop at') (mons.getD j []) = false)⟩
  case round =>
    obtain ⟨k, hk, rfl, hb, hno⟩ := hrel
    have nn : ∀ x : Nat, x ∉ ([] : List Nat) := fun _ e => by cases e
    have cb' := hb.out.cell cb (nn _)
    have cc' := hb.out.cell cc (nn _)
    have c0' := hb.out.cell c0 (nn _)
    have c1' := hb.out.cell c1 (nn _)
    have HP' : Hid (Pcs wr P st) := HP.out.but hb.out (nn _)
    have f0' := HP'.out.free (2 * f)
    have f1' := HP'.out.free (2 * f + 1)
    have HT1 : Hid (∀ (n i : Nat), i < 12 → Calls Tryz.prog 109 #[.int .i64 (i : Int)] (wr.drewN n) fun e w' => e = .returned (.string (str (mons.getD i []))) ∧ w' = wr.drewN n) := fun n i hi => takers3_any i hi _ (HTB.out.bel (hb.out.drewN n).to_below)
    clear ca cb cc c0 c1 f0 f1 nn
    by_cases hkn : k < 12
    · have hlen := mons_len k hkn
      have hsz : (str (mons.getD k [])).size = (mons.getD k []).length := str_size _
      cases hh : hp (l.drop at') (mons.getD k [])
      · have HN : Hid (∀ j, j < k + 1 → hp (l.drop at') (mons.getD j []) = false) := (fun j hj => by
          by_cases hjk : j < k
          · exact hno.out j hjk
          · obtain rfl : j = k := by omega
            exact hh : ∀ j, j < k + 1 → hp (l.drop at') (mons.getD j []) = false)
        have HC : Hid (∀ w, Calls Tryz.prog 89 #[.string ((str l).extract at' l.length), .string (str (mons.getD k []))] w fun e w' => e = .returned (.bool false) ∧ w' = w) := fun w => by
          rw [HE.out, ← hh]
          exact HasPrefix_any _ _ w
        have HT2 : Hid (∀ n, Calls Tryz.prog 109 #[.int .i64 (k : Int)] (wr.drewN n) fun e w' => e = .returned (.string (str (mons.getD k []))) ∧ w' = wr.drewN n) := fun n => HT1.out n k hkn
        clear hh hno HT1
        generalize str (mons.getD k []) = X at *
        go_wp2_with fail
        go_quiet (first | (go_at_call 109; exact Calls.quiet_of_same (HT2.out _)) | (go_at_call 89; exact Calls.quiet_of_same (HC.out _)))
        go_wp2
        go_roundw
        case rel => exact ⟨k + 1, by omega, by go_num, hb.out.drewN _, HN⟩
        case measure => simp only [intOf]; omega
      · have HN : Hid (nam l at' mons = some k) := nam_at hkn hno.out hh
        have HC : Hid (∀ w, Calls Tryz.prog 89 #[.string ((str l).extract at' l.length), .string (str (mons.getD k []))] w fun e w' => e = .returned (.bool true) ∧ w' = w) := fun w => by
          rw [HE.out, ← hh]
          exact HasPrefix_any _ _ w
        have HT2 : Hid (∀ n, Calls Tryz.prog 109 #[.int .i64 (k : Int)] (wr.drewN n) fun e w' => e = .returned (.string (str (mons.getD k []))) ∧ w' = wr.drewN n) := fun n => HT1.out n k hkn
        have HT3 : Hid (∀ n, Calls Tryz.prog 109 #[.int .i64 (k : Int)] (((wr.drewN n).setCell ⟨P, 2 * f, none⟩ (.int .i64 (k : Int))).setCell ⟨P, 2 * f + 1, none⟩ (.int .i64 (at' : Int))) fun e w' => e = .returned (.string (str (mons.getD k []))) ∧ w' = ((wr.drewN n).setCell ⟨P, 2 * f, none⟩ (.int .i64 (k : Int))).setCell ⟨P, 2 * f + 1, none⟩ (.int .i64 (at' : Int))) := fun n => takers3_any k hkn _ ((HTB.out.bel hb.out.to_below).butP (((But.refl [P] wr).drewN n).setCell (by simp) _ |>.setCell (by simp) _) (HNT.out))
        have cb2 : ∀ n, (((wr.drewN n).setCell ⟨P, 2 * f, none⟩ (.int .i64 (k : Int))).setCell ⟨P, 2 * f + 1, none⟩ (.int .i64 (at' : Int))).cell? ⟨b, 0, none⟩ = some (.func (.func 109) #[] #[]) := fun n => (((But.refl [P] wr).drewN n).setCell (p := ⟨P, 2 * f, none⟩) (by simp) _ |>.setCell (p := ⟨P, 2 * f + 1, none⟩) (by simp) _).cell cb' (fun e => by simp at e; exact nb e)
        clear hh hno HT1
        generalize hN : mons.getD k [] = N at *
        go_wp2_with fail
        go_quiet (first | (go_at_call 109; exact Calls.quiet_of_same (HT2.out _)) | (go_at_call 89; exact Calls.quiet_of_same (HC.out _)))
        go_wp2_with fail
        refine (HT3.out _).mono ?_
        rintro e w' ⟨rfl, rfl⟩
        go_wp2
        go_ret2
        have hbb := ((hb.out.nil (cs := [P])).drewN nq).setCell (p := ⟨P, 2 * f, none⟩) (by simp) (.int .i64 (k : Int)) |>.setCell (p := ⟨P, 2 * f + 1, none⟩) (by simp) (.int .i64 (at' : Int))
        refine ⟨?_, hbb⟩
        rw [HN.out]
        show Took (.ok (at' + (mons.getD k []).length, put st f k at')) P _ _
        rw [hN]
        exact ⟨by simp, (((HP'.out.but ((But.refl [] wr).drewN nq) (fun e => by cases e)).set (2 * f) (by omega) (k : Int)).set (2 * f + 1) (by omega) (at' : Int))⟩
    · obtain rfl : k = 12 := by omega
      have HN : Hid (nam l at' mons = none) := nam_none hno.out
      go_wp2
      go_ret2
      refine ⟨?_, hb.out.nil⟩
      rw [HN.out]
      exact ⟨rfl, st, HP'.out⟩

end Bs
end Go.Proofs.YtjngpafokkjkdaaGreatDoor
