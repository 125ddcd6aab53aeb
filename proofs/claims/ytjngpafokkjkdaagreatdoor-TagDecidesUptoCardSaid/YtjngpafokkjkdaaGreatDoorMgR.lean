/- Several texts as one. -/
import Derived.Test.YtjngpafokkjkdaaGreatDoorMgQ
/-
  The function that takes so many digits.
-/
set_option linter.unusedVariables false
set_option linter.unusedSimpArgs false
namespace Go.Proofs.YtjngpafokkjkdaaGreatDoor
open Go.RowKit
namespace Bs

def dgR (st : List Int) (f : Nat) (a : Int) : Except Nat (Nat × Int) → Except Nat (Nat × List Int)
  | .ok (b, v) => .ok (b, put st f v a)
  | .error e => .error e
theorem put_len {st : List Int} {f : Nat} {v a : Int} : (put st f v a).length = st.length := by unfold put; simp
theorem put_v {st : List Int} {f : Nat} (h : st.length = 14) (hf : f < 7) (v a : Int) : g (put st f v a) (2 * f) = v := by
  unfold put g
  rw [List.getD_eq_getElem?_getD, List.getElem?_set_ne (by omega), List.getElem?_set_self (by omega)]
  rfl
theorem put_put {st : List Int} {f : Nat} (v v' a : Int) : (put st f v a).set (2 * f) v' = put st f v' a := by
  unfold put
  rw [List.set_comm _ _ (by omega), List.set_set]
theorem put_at {st : List Int} {f : Nat} (v a a' : Int) : (put st f v a).set (2 * f + 1) a' = put st f v a' := by
  unfold put
  rw [List.set_set]

set_option maxRecDepth 100000 in
set_option maxHeartbeats 1000000 in
theorem digits1_any (l : List UInt8) (n f at' a b P : Nat) (st : List Int) (hl : l.length ≤ 140737488355328) (hn : n ≤ 4) (hf : f < 7) (ha : at' ≤ l.length) (w : World) (hp : Pcs w P st)
    (ca : w.cell? ⟨a, 0, none⟩ = some (pp P (2 * f))) (cb : w.cell? ⟨b, 0, none⟩ = some (.int .i64 (n : Int))) (na : a ≠ P) (nb : b ≠ P) :
    Calls Tryz.prog 120 #[.string (str l), .int .i64 (at' : Int), pp a 0, pp b 0] w fun e w' => Took (dgR st f at' (dgs l n at' 0)) P e w' ∧ But [P] w w' := by
  have hs : (str l).size = l.length := str_size l
  have c0 := hp.cell (2 * f) (by omega)
  have c1 := hp.cell (2 * f + 1) (by omega)
  have f0 := hp.free (2 * f)
  have f1 := hp.free (2 * f + 1)
  have HP : Hid (Pcs w P st) := hp
  clear hp
  unfold pp at *
  go_enter Tryz.func120, Tryz.ntmps120
  go_wp2
  go_loopw [1, 13] (fun x i wr => ∃ (k q : Nat) (v : Int), k ≤ n ∧ q ≤ l.length ∧ x = .int .i64 (q : Int) ∧ i = .int .i64 (k : Int) ∧ 0 ≤ v ∧ Hid (v + 1 ≤ 10 ^ k) ∧ Hid (dgs l (n - k) q v = dgs l n at' 0) ∧ Hid (Pcs wr P (put st f v at')) ∧ Hid (But [P] w wr)) (fun _ i _ => n - (intOf i).toNat)
  case atStart => exact ⟨0, at', 0, by omega, ha, rfl, rfl, by omega, (by decide : (0 : Int) + 1 ≤ 10 ^ 0), (rfl : dgs l (n - 0) at' 0 = dgs l n at' 0), (HP.out.set _ (by omega) _).set _ (by omega) _, ((But.refl [P] w).setCell (by simp) _).setCell (by simp) _⟩
  case round =>
    obtain ⟨k, q, v, hk, hq, rfl, rfl, hv0, hv, he, hpc, hb⟩ := hrel
    have na' : a ∉ [P] := fun e => by simp at e; exact na e
    have ca' := hb.out.cell ca na'
    have hlen : st.length = 14 := HP.out.len
    have cv := hpc.out.cell (2 * f) (by omega)
    rw [put_v hlen hf] at cv
    have fv := hpc.out.free (2 * f)
    clear ca cb c0 c1 f0 f1
    by_cases hkn : k < n
    · obtain ⟨m, hm⟩ : ∃ m, n - k = m + 1 := ⟨n - k - 1, by omega⟩
      have hv3 : v ≤ 999 := by
        have := hv.out
        rcases (by omega : k = 0 ∨ k = 1 ∨ k = 2 ∨ k = 3) with rfl | rfl | rfl | rfl <;> simp at this <;> omega
      by_cases hql : q = l.length
      · have HS : Hid (dgs l n at' 0 = .error q) := (by
          rw [← he.out, hm]
          unfold dgs
          rw [List.getElem?_eq_none (by omega)] : dgs l n at' 0 = .error q)
        have hd : ((q : Int) == (l.length : Int)) = true := by simp [hql]
        go_wp2
        go_ret2
        exact ⟨by rw [HS.out]; exact ⟨rfl, _, hpc.out⟩, hb.out⟩
      · have hg := lget (l := l) (j := q) (by omega)
        have e1 := str_at l q (by omega)
        have hd : ((q : Int) == (l.length : Int)) = false := by simp; omega
        have hu := (l.getD q 0).toNat_lt
        by_cases hdg : dgt (l.getD q 0) = true
        · have HS : Hid (dgs l (n - (k + 1)) (q + 1) (v * 10 + ((((l.getD q 0).toNat : Nat) : Int) - 48)) = dgs l n at' 0) := (by
            rw [← he.out, hm]
            conv => rhs; unfold dgs
            rw [hg]
            dsimp only
            rw [if_pos hdg, show n - (k + 1) = m by omega]
            rfl : _ = _)
          have hr : 48 ≤ (l.getD q 0).toNat ∧ (l.getD q 0).toNat ≤ 57 := by simpa [dgt] using hdg
          clear hg hdg he
          generalize (l.getD q 0).toNat = X at *
          have w1 : IntKind.u8.wrap ((X : Int) - 48) = (X : Int) - 48 := by simp [IntKind.wrap, IntKind.signed, IntKind.bits]; omega
          go_wp2_with fail
          go_region
          all_goals go_wp2
          all_goals go_roundw
          case rel =>
            refine ⟨k + 1, q + 1, v * 10 + ((X : Int) - 48), by omega, by omega, by go_num, by go_num, by omega, ?_, HS, ?_, ?_⟩
            · have := hv.out
              exact (by rw [Int.pow_succ]; omega : v * 10 + ((X : Int) - 48) + 1 ≤ 10 ^ (k + 1))
            · have h2 := (hpc.out.but (((But.refl [] _).drewN 1)) (fun e => by cases e)).set (2 * f) (by omega) (v * 10 + ((X : Int) - 48))
              rw [put_put] at h2
              exact h2
            · exact (hb.out.drewN 1).setCell (by simp) _
          case measure => simp only [intOf]; omega
        · have HS : Hid (dgs l n at' 0 = .error q) := (by
            rw [← he.out, hm]
            unfold dgs
            rw [hg]
            dsimp only
            rw [if_neg hdg] : dgs l n at' 0 = .error q)
          have hr : ¬ (48 ≤ (l.getD q 0).toNat ∧ (l.getD q 0).toNat ≤ 57) := by simpa [dgt] using hdg
          clear hg hdg
          generalize (l.getD q 0).toNat = X at *
          rcases (by omega : X < 48 ∨ 57 < X) with hx | hx
          · have hx' : (X : Int) < 48 := by omega
            go_wp2
            go_ret2
            exact ⟨by rw [HS.out]; exact ⟨rfl, _, hpc.out⟩, hb.out⟩
          · have hx' : ¬ (X : Int) < 48 := by omega
            have hx2 : (57 : Int) < (X : Int) := by omega
            go_wp2
            go_ret2
            exact ⟨by rw [HS.out]; exact ⟨rfl, _, hpc.out⟩, hb.out⟩
    · have HS : Hid (dgs l n at' 0 = .ok (q, v)) := (by
        rw [← he.out, show n - k = 0 by omega]
        rfl : dgs l n at' 0 = .ok (q, v))
      go_wp2
      go_ret2
      exact ⟨by rw [HS.out]; exact ⟨rfl, hpc.out⟩, hb.out⟩

end Bs
end Go.Proofs.YtjngpafokkjkdaaGreatDoor

/-
  The function that takes one of so many names.
-/
set_option linter.unusedVariables false
set_option linter.unusedSimpArgs false
namespace Go.Proofs.YtjngpafokkjkdaaGreatDoor
open Go.RowKit
namespace Bs

theorem hp_pre (l t : List UInt8) : Lib.hasPrefix l t = hp l t := by
  unfold Lib.hasPrefix hp
  rw [Bool.eq_iff_iff, List.isPrefixOf_iff_prefix, List.prefix_iff_eq_take, decide_eq_true_iff]
  exact ⟨Eq.symm, Eq.symm⟩
theorem str_drop (l : List UInt8) (i : Nat) (h : i ≤ l.length) : (str l).extract i l.length = str (l.drop i) := by
  apply eq_list
  rw [str_list]
  unfold str
  simp [ByteArray.extract, ByteArray.copySlice]
  first | done | (rw [List.take_of_length_le (by simp)])
theorem HasPrefix_any (l t : List UInt8) (w : World) :
    Calls Tryz.prog 89 #[.string (str l), .string (str t)] w fun e w' => e = .returned (.bool (hp l t)) ∧ w' = w := by
  have h := Tryz.strings_HasPrefix (str l) (str t) w
  rw [str_list, str_list, hp_pre] at h
  exact h
theorem nam_at {l : List UInt8} {a : Nat} {ns : List (List UInt8)} {i : Nat} (hi : i < ns.length) (h : ∀ j, j < i → hp (l.drop a) (ns.getD j []) = false) (hh : hp (l.drop a) (ns.getD i []) = true) : nam l a ns = some i := by
  unfold nam
  rw [List.findIdx?_eq_some_iff_getElem]
  refine ⟨hi, ?_, fun j hj => ?_⟩
  · rw [List.getD_eq_getElem?_getD, List.getElem?_eq_getElem hi] at hh
    exact hh
  · have := h j hj
    rw [List.getD_eq_getElem?_getD, List.getElem?_eq_getElem (by omega)] at this
    simpa using this
theorem nam_none {l : List UInt8} {a : Nat} {ns : List (List UInt8)} (h : ∀ j, j < ns.length → hp (l.drop a) (ns.getD j []) = false) : nam l a ns = none := by
  unfold nam
  rw [List.findIdx?_eq_none_iff]
  intro t ht
  obtain ⟨j, hj, rfl⟩ := List.mem_iff_getElem.1 ht
  have := h j hj
  rw [List.getD_eq_getElem?_getD, List.getElem?_eq_getElem hj] at this
  simpa using this
def nmR (st : List Int) (f a : Nat) (ns : List (List UInt8)) : Option Nat → Except Nat (Nat × List Int)
  | some i => .ok (a + (ns.getD i []).length, put st f i a)
  | none => .error a

set_option maxHeartbeats 400000 in
theorem takers1_any (i : Nat) (hi : i < 7) (w : World) (t : Tb w) :
    Calls Tryz.prog 107 #[.int .i64 (i : Int)] w fun e w' => e = .returned (.string (str (shorts.getD i []))) ∧ w' = w := by
  have c := t.sd i hi
  clear t
  go_enter Tryz.func107, Tryz.ntmps107
  go_wp2
  go_ret
  exact ⟨rfl, rfl⟩

theorem shorts_len (i : Nat) (hi : i < 7) : (shorts.getD i []).length ≤ 9 := by
  have : ∀ i : Fin 7, (shorts.getD i.val []).length ≤ 9 := by decide
  exact this ⟨i, hi⟩

set_option maxRecDepth 100000 in
set_option maxHeartbeats 1000000 in
theorem name1_0 (l : List UInt8) (f at' a b c P : Nat) (st : List Int) (hl : l.length ≤ 140737488355328) (hf : f < 7) (ha : at' ≤ l.length) (w : World) (tb : Tb w) (hp' : Pcs w P st)
    (ca : w.cell? ⟨a, 0, none⟩ = some (.int .i64 7)) (cb : w.cell? ⟨b, 0, none⟩ = some (.func (.func 107) #[] #[])) (cc : w.cell? ⟨c, 0, none⟩ = some (pp P (2 * f))) (nb : b ≠ P) (hnt : NotTb P) :
    Calls Tryz.prog 119 #[.string (str l), .int .i64 (at' : Int), pp a 0, pp b 0, pp c 0] w fun e w' => Took (nmR st f at' shorts (nam l at' shorts)) P e w' ∧ But [P] w w' := by
  have hs : (str l).size = l.length := str_size l
  have c0 := hp'.cell (2 * f) (by omega)
  have c1 := hp'.cell (2 * f + 1) (by omega)
  have f0 := hp'.free (2 * f)
  have f1 := hp'.free (2 * f + 1)
  have HP : Hid (Pcs w P st) := hp'
  clear hp'
  have HNT : Hid (NotTb P) := hnt
  clear hnt
  have HTB : Hid (Tb w) := tb
  clear tb
  have HE : Hid ((str l).extract at' l.length = str (l.drop at')) := str_drop l at' ha
  unfold pp at *
  go_enter Tryz.func119, Tryz.ntmps119
  go_wp2
  go_loopw [11] (fun i wr => ∃ k : Nat, k ≤ 7 ∧ i = .int .i64 (k : Int) ∧ Hid (But [] w wr) ∧ Hid (∀ j, j < k → hp (l.drop at') (shorts.getD j []) = false)) (fun i _ => 7 - (intOf i).toNat)
  case atStart => exact ⟨0, by omega, rfl, But.refl _ _, (fun j hj => by omega : ∀ j, j < 0 → hp (l.drop at') (shorts.getD j []) = false)⟩
  case round =>
    obtain ⟨k, hk, rfl, hb, hno⟩ := hrel
    have nn : ∀ x : Nat, x ∉ ([] : List Nat) := fun _ e => by cases e
    have cb' := hb.out.cell cb (nn _)
    have cc' := hb.out.cell cc (nn _)
    have c0' := hb.out.cell c0 (nn _)
    have c1' := hb.out.cell c1 (nn _)
    have HP' : Hid (Pcs wr P st) := HP.out.but hb.out (nn _)
    have f0' := HP'.out.free (2 * f)
    have f1' := HP'.out.free (2 * f + 1)
    have HT1 : Hid (∀ (n i : Nat), i < 7 → Calls Tryz.prog 107 #[.int .i64 (i : Int)] (wr.drewN n) fun e w' => e = .returned (.string (str (shorts.getD i []))) ∧ w' = wr.drewN n) := fun n i hi => takers1_any i hi _ (HTB.out.bel (hb.out.drewN n).to_below)
    clear ca cb cc c0 c1 f0 f1 nn
    by_cases hkn : k < 7
    · have hlen := shorts_len k hkn
      have hsz : (str (shorts.getD k [])).size = (shorts.getD k []).length := str_size _
      cases hh : hp (l.drop at') (shorts.getD k [])
      · have HN : Hid (∀ j, j < k + 1 → hp (l.drop at') (shorts.getD j []) = false) := (fun j hj => by
          by_cases hjk : j < k
          · exact hno.out j hjk
          · obtain rfl : j = k := by omega
            exact hh : ∀ j, j < k + 1 → hp (l.drop at') (shorts.getD j []) = false)
        have HC : Hid (∀ w, Calls Tryz.prog 89 #[.string ((str l).extract at' l.length), .string (str (shorts.getD k []))] w fun e w' => e = .returned (.bool false) ∧ w' = w) := fun w => by
          rw [HE.out, ← hh]
          exact HasPrefix_any _ _ w
        have HT2 : Hid (∀ n, Calls Tryz.prog 107 #[.int .i64 (k : Int)] (wr.drewN n) fun e w' => e = .returned (.string (str (shorts.getD k []))) ∧ w' = wr.drewN n) := fun n => HT1.out n k hkn
        clear hh hno HT1
        generalize str (shorts.getD k []) = X at *
        go_wp2_with fail
        go_quiet (first | (go_at_call 107; exact Calls.quiet_of_same (HT2.out _)) | (go_at_call 89; exact Calls.quiet_of_same (HC.out _)))
        go_wp2
        go_roundw
        case rel => exact ⟨k + 1, by omega, by go_num, hb.out.drewN _, HN⟩
        case measure => simp only [intOf]; omega
      · have HN : Hid (nam l at' shorts = some k) := nam_at hkn hno.out hh
        have HC : Hid (∀ w, Calls Tryz.prog 89 #[.string ((str l).extract at' l.length), .string (str (shorts.getD k []))] w fun e w' => e = .returned (.bool true) ∧ w' = w) := fun w => by
          rw [HE.out, ← hh]
          exact HasPrefix_any _ _ w
        have HT2 : Hid (∀ n, Calls Tryz.prog 107 #[.int .i64 (k : Int)] (wr.drewN n) fun e w' => e = .returned (.string (str (shorts.getD k []))) ∧ w' = wr.drewN n) := fun n => HT1.out n k hkn
        have HT3 : Hid (∀ n, Calls Tryz.prog 107 #[.int .i64 (k : Int)] (((wr.drewN n).setCell ⟨P, 2 * f, none⟩ (.int .i64 (k : Int))).setCell ⟨P, 2 * f + 1, none⟩ (.int .i64 (at' : Int))) fun e w' => e = .returned (.string (str (shorts.getD k []))) ∧ w' = ((wr.drewN n).setCell ⟨P, 2 * f, none⟩ (.int .i64 (k : Int))).setCell ⟨P, 2 * f + 1, none⟩ (.int .i64 (at' : Int))) := fun n => takers1_any k hkn _ ((HTB.out.bel hb.out.to_below).butP (((But.refl [P] wr).drewN n).setCell (by simp) _ |>.setCell (by simp) _) (HNT.out))
        have cb2 : ∀ n, (((wr.drewN n).setCell ⟨P, 2 * f, none⟩ (.int .i64 (k : Int))).setCell ⟨P, 2 * f + 1, none⟩ (.int .i64 (at' : Int))).cell? ⟨b, 0, none⟩ = some (.func (.func 107) #[] #[]) := fun n => (((But.refl [P] wr).drewN n).setCell (p := ⟨P, 2 * f, none⟩) (by simp) _ |>.setCell (p := ⟨P, 2 * f + 1, none⟩) (by simp) _).cell cb' (fun e => by simp at e; exact nb e)
        clear hh hno HT1
        generalize hN : shorts.getD k [] = N at *
        go_wp2_with fail
        go_quiet (first | (go_at_call 107; exact Calls.quiet_of_same (HT2.out _)) | (go_at_call 89; exact Calls.quiet_of_same (HC.out _)))
        go_wp2_with fail
        refine (HT3.out _).mono ?_
        rintro e w' ⟨rfl, rfl⟩
        go_wp2
        go_ret2
        have hbb := ((hb.out.nil (cs := [P])).drewN nq).setCell (p := ⟨P, 2 * f, none⟩) (by simp) (.int .i64 (k : Int)) |>.setCell (p := ⟨P, 2 * f + 1, none⟩) (by simp) (.int .i64 (at' : Int))
        refine ⟨?_, hbb⟩
        rw [HN.out]
        show Took (.ok (at' + (shorts.getD k []).length, put st f k at')) P _ _
        rw [hN]
        exact ⟨by simp, (((HP'.out.but ((But.refl [] wr).drewN nq) (fun e => by cases e)).set (2 * f) (by omega) (k : Int)).set (2 * f + 1) (by omega) (at' : Int))⟩
    · obtain rfl : k = 7 := by omega
      have HN : Hid (nam l at' shorts = none) := nam_none hno.out
      go_wp2
      go_ret2
      refine ⟨?_, hb.out.nil⟩
      rw [HN.out]
      exact ⟨rfl, st, HP'.out⟩

set_option maxHeartbeats 400000 in
theorem takers2_any (i : Nat) (hi : i < 7) (w : World) (t : Tb w) :
    Calls Tryz.prog 108 #[.int .i64 (i : Int)] w fun e w' => e = .returned (.string (str (longs.getD i []))) ∧ w' = w := by
  have c := t.ld i hi
  clear t
  go_enter Tryz.func108, Tryz.ntmps108
  go_wp2
  go_ret
  exact ⟨rfl, rfl⟩

theorem longs_len (i : Nat) (hi : i < 7) : (longs.getD i []).length ≤ 9 := by
  have : ∀ i : Fin 7, (longs.getD i.val []).length ≤ 9 := by decide
  exact this ⟨i, hi⟩

set_option maxRecDepth 100000 in
set_option maxHeartbeats 1000000 in
theorem name1_1 (l : List UInt8) (f at' a b c P : Nat) (st : List Int) (hl : l.length ≤ 140737488355328) (hf : f < 7) (ha : at' ≤ l.length) (w : World) (tb : Tb w) (hp' : Pcs w P st)
    (ca : w.cell? ⟨a, 0, none⟩ = some (.int .i64 7)) (cb : w.cell? ⟨b, 0, none⟩ = some (.func (.func 108) #[] #[])) (cc : w.cell? ⟨c, 0, none⟩ = some (pp P (2 * f))) (nb : b ≠ P) (hnt : NotTb P) :
    Calls Tryz.prog 119 #[.string (str l), .int .i64 (at' : Int), pp a 0, pp b 0, pp c 0] w fun e w' => Took (nmR st f at' longs (nam l at' longs)) P e w' ∧ But [P] w w' := by
  have hs : (str l).size = l.length := str_size l
  have c0 := hp'.cell (2 * f) (by omega)
  have c1 := hp'.cell (2 * f + 1) (by omega)
  have f0 := hp'.free (2 * f)
  have f1 := hp'.free (2 * f + 1)
  have HP : Hid (Pcs w P st) := hp'
  clear hp'
  have HNT : Hid (NotTb P) := hnt
  clear hnt
  have HTB : Hid (Tb w) := tb
  clear tb
  have HE : Hid ((str l).extract at' l.length = str (l.drop at')) := str_drop l at' ha
  unfold pp at *
  go_enter Tryz.func119, Tryz.ntmps119
  go_wp2
  go_loopw [11] (fun i wr => ∃ k : Nat, k ≤ 7 ∧ i = .int .i64 (k : Int) ∧ Hid (But [] w wr) ∧ Hid (∀ j, j < k → hp (l.drop at') (longs.getD j []) = false)) (fun i _ => 7 - (intOf i).toNat)
  case atStart => exact ⟨0, by omega, rfl, But.refl _ _, (fun j hj => by omega : ∀ j, j < 0 → hp (l.drop at') (longs.getD j []) = false)⟩
  case round =>
    obtain ⟨k, hk, rfl, hb, hno⟩ := hrel
    have nn : ∀ x : Nat, x ∉ ([] : List Nat) := fun _ e => by cases e
    have cb' := hb.out.cell cb (nn _)
    have cc' := hb.out.cell cc (nn _)
    have c0' := hb.out.cell c0 (nn _)
    have c1' := hb.out.cell c1 (nn _)
    have HP' : Hid (Pcs wr P st) := HP.out.but hb.out (nn _)
    have f0' := HP'.out.free (2 * f)
    have f1' := HP'.out.free (2 * f + 1)
    have HT1 : Hid (∀ (n i : Nat), i < 7 → Calls Tryz.prog 108 #[.int .i64 (i : Int)] (wr.drewN n) fun e w' => e = .returned (.string (str (longs.getD i []))) ∧ w' = wr.drewN n) := fun n i hi => takers2_any i hi _ (HTB.out.bel (hb.out.drewN n).to_below)
    clear ca cb cc c0 c1 f0 f1 nn
    by_cases hkn : k < 7
    · have hlen := longs_len k hkn
      have hsz : (str (longs.getD k [])).size = (longs.getD k []).length := str_size _
      cases hh : hp (l.drop at') (longs.getD k [])
      · have HN : Hid (∀ j, j < k + 1 → hp (l.drop at') (longs.getD j []) = false) := (fun j hj => by
          by_cases hjk : j < k
          · exact hno.out j hjk
          · obtain rfl : j = k := by omega
            exact hh : ∀ j, j < k + 1 → hp (l.drop at') (longs.getD j []) = false)
        have HC : Hid (∀ w, Calls Tryz.prog 89 #[.string ((str l).extract at' l.length), .string (str (longs.getD k []))] w fun e w' => e = .returned (.bool false) ∧ w' = w) := fun w => by
          rw [HE.out, ← hh]
          exact HasPrefix_any _ _ w
        have HT2 : Hid (∀ n, Calls Tryz.prog 108 #[.int .i64 (k : Int)] (wr.drewN n) fun e w' => e = .returned (.string (str (longs.getD k []))) ∧ w' = wr.drewN n) := fun n => HT1.out n k hkn
        clear hh hno HT1
        generalize str (longs.getD k []) = X at *
        go_wp2_with fail
        go_quiet (first | (go_at_call 108; exact Calls.quiet_of_same (HT2.out _)) | (go_at_call 89; exact Calls.quiet_of_same (HC.out _)))
        go_wp2
        go_roundw
        case rel => exact ⟨k + 1, by omega, by go_num, hb.out.drewN _, HN⟩
        case measure => simp only [intOf]; omega
      · have HN : Hid (nam l at' longs = some k) := nam_at hkn hno.out hh
        have HC : Hid (∀ w, Calls Tryz.prog 89 #[.string ((str l).extract at' l.length), .string (str (longs.getD k []))] w fun e w' => e = .returned (.bool true) ∧ w' = w) := fun w => by
          rw [HE.out, ← hh]
          exact HasPrefix_any _ _ w
        have HT2 : Hid (∀ n, Calls Tryz.prog 108 #[.int .i64 (k : Int)] (wr.drewN n) fun e w' => e = .returned (.string (str (longs.getD k []))) ∧ w' = wr.drewN n) := fun n => HT1.out n k hkn
        have HT3 : Hid (∀ n, Calls Tryz.prog 108 #[.int .i64 (k : Int)] (((wr.drewN n).setCell ⟨P, 2 * f, none⟩ (.int .i64 (k : Int))).setCell ⟨P, 2 * f + 1, none⟩ (.int .i64 (at' : Int))) fun e w' => e = .returned (.string (str (longs.getD k []))) ∧ w' = ((wr.drewN n).setCell ⟨P, 2 * f, none⟩ (.int .i64 (k : Int))).setCell ⟨P, 2 * f + 1, none⟩ (.int .i64 (at' : Int))) := fun n => takers2_any k hkn _ ((HTB.out.bel hb.out.to_below).butP (((But.refl [P] wr).drewN n).setCell (by simp) _ |>.setCell (by simp) _) (HNT.out))
        have cb2 : ∀ n, (((wr.drewN n).setCell ⟨P, 2 * f, none⟩ (.int .i64 (k : Int))).setCell ⟨P, 2 * f + 1, none⟩ (.int .i64 (at' : Int))).cell? ⟨b, 0, none⟩ = some (.func (.func 108) #[] #[]) := fun n => (((But.refl [P] wr).drewN n).setCell (p := ⟨P, 2 * f, none⟩) (by simp) _ |>.setCell (p := ⟨P, 2 * f + 1, none⟩) (by simp) _).cell cb' (fun e => by simp at e; exact nb e)
        clear hh hno HT1
        generalize hN : longs.getD k [] = N at *
        go_wp2_with fail
        go_quiet (first | (go_at_call 108; exact Calls.quiet_of_same (HT2.out _)) | (go_at_call 89; exact Calls.quiet_of_same (HC.out _)))
        go_wp2_with fail
        refine (HT3.out _).mono ?_
        rintro e w' ⟨rfl, rfl⟩
        go_wp2
        go_ret2
        have hbb := ((hb.out.nil (cs := [P])).drewN nq).setCell (p := ⟨P, 2 * f, none⟩) (by simp) (.int .i64 (k : Int)) |>.setCell (p := ⟨P, 2 * f + 1, none⟩) (by simp) (.int .i64 (at' : Int))
        refine ⟨?_, hbb⟩
        rw [HN.out]
        show Took (.ok (at' + (longs.getD k []).length, put st f k at')) P _ _
        rw [hN]
        exact ⟨by simp, (((HP'.out.but ((But.refl [] wr).drewN nq) (fun e => by cases e)).set (2 * f) (by omega) (k : Int)).set (2 * f + 1) (by omega) (at' : Int))⟩
    · obtain rfl : k = 7 := by omega
      have HN : Hid (nam l at' longs = none) := nam_none hno.out
      go_wp2
      go_ret2
      refine ⟨?_, hb.out.nil⟩
      rw [HN.out]
      exact ⟨rfl, st, HP'.out⟩

set_option maxHeartbeats 400000 in
theorem takers3_any (i : Nat) (hi : i < 12) (w : World) (t : Tb w) :
    Calls Tryz.prog 109 #[.int .i64 (i : Int)] w fun e w' => e = .returned (.string (str (mons.getD i []))) ∧ w' = w := by
  have c := t.mo i hi
  clear t
  go_enter Tryz.func109, Tryz.ntmps109
  go_wp2
  go_ret
  exact ⟨rfl, rfl⟩

theorem mons_len (i : Nat) (hi : i < 12) : (mons.getD i []).length ≤ 9 := by
  have : ∀ i : Fin 12, (mons.getD i.val []).length ≤ 9 := by decide
  exact this ⟨i, hi⟩

set_option maxRecDepth 100000 in
set_option maxHeartbeats 1000000 in
theorem name1_2 (l : List UInt8) (f at' a b c P : Nat) (st : List Int) (hl : l.length ≤ 140737488355328) (hf : f < 7) (ha : at' ≤ l.length) (w : World) (tb : Tb w) (hp' : Pcs w P st)
    (ca : w.cell? ⟨a, 0, none⟩ = some (.int .i64 12)) (cb : w.cell? ⟨b, 0, none⟩ = some (.func (.func 109) #[] #[])) (cc : w.cell? ⟨c, 0, none⟩ = some (pp P (2 * f))) (nb : b ≠ P) (hnt : NotTb P) :
    Calls Tryz.prog 119 #[.string (str l), .int .i64 (at' : Int), pp a 0, pp b 0, pp c 0] w fun e w' => Took (nmR st f at' mons (nam l at' mons)) P e w' ∧ But [P] w w' := by
  have hs : (str l).size = l.length := str_size l
  have c0 := hp'.cell (2 * f) (by omega)
  have c1 := hp'.cell (2 * f + 1) (by omega)
  have f0 := hp'.free (2 * f)
  have f1 := hp'.free (2 * f + 1)
  have HP : Hid (Pcs w P st) := hp'
  clear hp'
  have HNT : Hid (NotTb P) := hnt
  clear hnt
  have HTB : Hid (Tb w) := tb
  clear tb
  have HE : Hid ((str l).extract at' l.length = str (l.drop at')) := str_drop l at' ha
  unfold pp at *
  go_enter Tryz.func119, Tryz.ntmps119
  go_wp2
  go_loopw [11] (fun i wr => ∃ k : Nat, k ≤ 12 ∧ i = .int .i64 (k : Int) ∧ Hid (But [] w wr) ∧ Hid (∀ j, j < k → hp (l.drop at') (mons.getD j []) = false)) (fun i _ => 12 - (intOf i).toNat)
  case atStart => exact ⟨0, by omega, rfl, But.refl _ _, (fun j hj => by omega : ∀ j, j < 0 → hp (l.drop at') (mons.getD j []) = false)⟩
  case round =>
    obtain ⟨k, hk, rfl, hb, hno⟩ := hrel
    have nn : ∀ x : Nat, x ∉ ([] : List Nat) := fun _ e => by cases e
    have cb' := hb.out.cell cb (nn _)
    have cc' := hb.out.cell cc (nn _)
    have c0' := hb.out.cell c0 (nn _)
    have c1' := hb.out.cell c1 (nn _)
    have HP' : Hid (Pcs wr P st) := HP.out.but hb.out (nn _)
    have f0' := HP'.out.free (2 * f)
    have f1' := HP'.out.free (2 * f + 1)
    have HT1 : Hid (∀ (n i : Nat), i < 12 → Calls Tryz.prog 109 #[.int .i64 (i : Int)] (wr.drewN n) fun e w' => e = .returned (.string (str (mons.getD i []))) ∧ w' = wr.drewN n) := fun n i hi => takers3_any i hi _ (HTB.out.bel (hb.out.drewN n).to_below)
    clear ca cb cc c0 c1 f0 f1 nn
    by_cases hkn : k < 12
    · have hlen := mons_len k hkn
      have hsz : (str (mons.getD k [])).size = (mons.getD k []).length := str_size _
      cases hh : hp (l.drop at') (mons.getD k [])
      · have HN : Hid (∀ j, j < k + 1 → hp (l.drop at') (mons.getD j []) = false) := (fun j hj => by
          by_cases hjk : j < k
          · exact hno.out j hjk
          · obtain rfl : j = k := by omega
            exact hh : ∀ j, j < k + 1 → hp (l.drop at') (mons.getD j []) = false)
        have HC : Hid (∀ w, Calls Tryz.prog 89 #[.string ((str l).extract at' l.length), .string (str (mons.getD k []))] w fun e w' => e = .returned (.bool false) ∧ w' = w) := fun w => by
          rw [HE.out, ← hh]
          exact HasPrefix_any _ _ w
        have HT2 : Hid (∀ n, Calls Tryz.prog 109 #[.int .i64 (k : Int)] (wr.drewN n) fun e w' => e = .returned (.string (str (mons.getD k []))) ∧ w' = wr.drewN n) := fun n => HT1.out n k hkn
        clear hh hno HT1
        generalize str (mons.getD k []) = X at *
        go_wp2_with fail
        go_quiet (first | (go_at_call 109; exact Calls.quiet_of_same (HT2.out _)) | (go_at_call 89; exact Calls.quiet_of_same (HC.out _)))
        go_wp2
        go_roundw
        case rel => exact ⟨k + 1, by omega, by go_num, hb.out.drewN _, HN⟩
        case measure => simp only [intOf]; omega
      · have HN : Hid (nam l at' mons = some k) := nam_at hkn hno.out hh
        have HC : Hid (∀ w, Calls Tryz.prog 89 #[.string ((str l).extract at' l.length), .string (str (mons.getD k []))] w fun e w' => e = .returned (.bool true) ∧ w' = w) := fun w => by
          rw [HE.out, ← hh]
          exact HasPrefix_any _ _ w
        have HT2 : Hid (∀ n, Calls Tryz.prog 109 #[.int .i64 (k : Int)] (wr.drewN n) fun e w' => e = .returned (.string (str (mons.getD k []))) ∧ w' = wr.drewN n) := fun n => HT1.out n k hkn
        have HT3 : Hid (∀ n, Calls Tryz.prog 109 #[.int .i64 (k : Int)] (((wr.drewN n).setCell ⟨P, 2 * f, none⟩ (.int .i64 (k : Int))).setCell ⟨P, 2 * f + 1, none⟩ (.int .i64 (at' : Int))) fun e w' => e = .returned (.string (str (mons.getD k []))) ∧ w' = ((wr.drewN n).setCell ⟨P, 2 * f, none⟩ (.int .i64 (k : Int))).setCell ⟨P, 2 * f + 1, none⟩ (.int .i64 (at' : Int))) := fun n => takers3_any k hkn _ ((HTB.out.bel hb.out.to_below).butP (((But.refl [P] wr).drewN n).setCell (by simp) _ |>.setCell (by simp) _) (HNT.out))
        have cb2 : ∀ n, (((wr.drewN n).setCell ⟨P, 2 * f, none⟩ (.int .i64 (k : Int))).setCell ⟨P, 2 * f + 1, none⟩ (.int .i64 (at' : Int))).cell? ⟨b, 0, none⟩ = some (.func (.func 109) #[] #[]) := fun n => (((But.refl [P] wr).drewN n).setCell (p := ⟨P, 2 * f, none⟩) (by simp) _ |>.setCell (p := ⟨P, 2 * f + 1, none⟩) (by simp) _).cell cb' (fun e => by simp at e; exact nb e)
        clear hh hno HT1
        generalize hN : mons.getD k [] = N at *
        go_wp2_with fail
        go_quiet (first | (go_at_call 109; exact Calls.quiet_of_same (HT2.out _)) | (go_at_call 89; exact Calls.quiet_of_same (HC.out _)))
        go_wp2_with fail
        refine (HT3.out _).mono ?_
        rintro e w' ⟨rfl, rfl⟩
        go_wp2
        go_ret2
        have hbb := ((hb.out.nil (cs := [P])).drewN nq).setCell (p := ⟨P, 2 * f, none⟩) (by simp) (.int .i64 (k : Int)) |>.setCell (p := ⟨P, 2 * f + 1, none⟩) (by simp) (.int .i64 (at' : Int))
        refine ⟨?_, hbb⟩
        rw [HN.out]
        show Took (.ok (at' + (mons.getD k []).length, put st f k at')) P _ _
        rw [hN]
        exact ⟨by simp, (((HP'.out.but ((But.refl [] wr).drewN nq) (fun e => by cases e)).set (2 * f) (by omega) (k : Int)).set (2 * f + 1) (by omega) (at' : Int))⟩
    · obtain rfl : k = 12 := by omega
      have HN : Hid (nam l at' mons = none) := nam_none hno.out
      go_wp2
      go_ret2
      refine ⟨?_, hb.out.nil⟩
      rw [HN.out]
      exact ⟨rfl, st, HP'.out⟩

end Bs
end Go.Proofs.YtjngpafokkjkdaaGreatDoor

/-
  The makers of the functions that take pieces.
-/
set_option linter.unusedVariables false
set_option linter.unusedSimpArgs false
namespace Go.Proofs.YtjngpafokkjkdaaGreatDoor
open Go.RowKit
namespace Bs

theorem one_cell (w : World) (v : Value) (T : TypeId) : (w.alloc (.cells #[v] T)).cell? ⟨w.heap.size, 0, none⟩ = some v := by simp
theorem cell_alloc {w : World} {p : Addr} {v : Value} (h : w.cell? p = some v) (o : Obj) : (w.alloc o).cell? p = some v := ((But.refl [] w).alloc o).cell h (fun e => by cases e)

set_option maxHeartbeats 400000 in
theorem exactly_any (t : List UInt8) (P : Nat) (w : World) (hP : P < w.heap.size) :
    Calls Tryz.prog 111 #[.string (str t)] w fun e w' => ∃ v, e = .returned v ∧ Tk w' P (.ex t) v ∧ Below w.heap.size w w' := by
  have hmf : ∀ (fn : Fn) (first cap : Array Value) (w : World), (Instr.makeFunc fn first cap).run Tryz.prog w = .ok (.func fn first cap) w := fun _ _ _ _ => rfl
  go_enter Tryz.func111, Tryz.ntmps111
  go_wp2
  go_ret
  exact ⟨_, rfl, ⟨w.heap.size, rfl, one_cell w _ _, by omega⟩, ((But.refl [] w).alloc _).to_below⟩

set_option maxHeartbeats 400000 in
theorem digits_any (n f P : Nat) (w : World) (hP : P < w.heap.size) :
    Calls Tryz.prog 110 #[.int .i64 (n : Int), pp P (2 * f)] w fun e w' => ∃ v, e = .returned v ∧ Tk w' P (.dg n f) v ∧ Below w.heap.size w w' := by
  have hmf : ∀ (fn : Fn) (first cap : Array Value) (w : World), (Instr.makeFunc fn first cap).run Tryz.prog w = .ok (.func fn first cap) w := fun _ _ _ _ => rfl
  unfold pp
  go_enter Tryz.func110, Tryz.ntmps110
  go_wp2
  go_ret
  refine ⟨_, rfl, ⟨w.heap.size + 1, w.heap.size, rfl, ?_, cell_alloc (one_cell w _ _) _, by omega, by omega⟩, (((But.refl [] w).alloc _).alloc _).to_below⟩
  simp [pp]

set_option maxHeartbeats 400000 in
theorem name_any (k f P : Nat) (w : World) (hP : P < w.heap.size) :
    Calls Tryz.prog 106 #[.int .i64 ((nms k).length : Int), .func (.func (fnm k)) #[] #[], pp P (2 * f)] w fun e w' => ∃ v, e = .returned v ∧ Tk w' P (.nm k f) v ∧ Below w.heap.size w w' := by
  have hmf : ∀ (fn : Fn) (first cap : Array Value) (w : World), (Instr.makeFunc fn first cap).run Tryz.prog w = .ok (.func fn first cap) w := fun _ _ _ _ => rfl
  unfold pp
  generalize hA : Value.int .i64 ((nms k).length : Int) = A
  generalize hB : Value.func (.func (fnm k)) #[] #[] = B
  go_enter Tryz.func106, Tryz.ntmps106
  go_wp2
  go_ret
  refine ⟨_, rfl, ⟨w.heap.size, w.heap.size + 1, w.heap.size + 1 + 1, rfl, ?_, ?_, ?_, by omega, by omega, by omega⟩, ((((But.refl [] w).alloc _).alloc _).alloc _).to_below⟩
  · rw [hA]
    exact cell_alloc (cell_alloc (one_cell w _ _) _) _
  · rw [hB]
    have := cell_alloc (one_cell (w.alloc (.cells #[A] 3)) B 122) (.cells #[.pointer (some ⟨P, 2 * f, none⟩)] 152)
    simpa using this
  · have := one_cell ((w.alloc (.cells #[A] 3)).alloc (.cells #[B] 122)) (.pointer (some ⟨P, 2 * f, none⟩)) 152
    simpa [pp] using this

set_option maxHeartbeats 400000 in
theorem loose_any (f P : Nat) (v : Value) (w : World) (hP : P < w.heap.size) (hv : Tk w P (.dg 2 f) v) :
    Calls Tryz.prog 112 #[v, pp P (2 * f)] w fun e w' => ∃ v', e = .returned v' ∧ Tk w' P (.lo f) v' ∧ Below w.heap.size w w' := by
  have hmf : ∀ (fn : Fn) (first cap : Array Value) (w : World), (Instr.makeFunc fn first cap).run Tryz.prog w = .ok (.func fn first cap) w := fun _ _ _ _ => rfl
  obtain ⟨c, d, hv, h1, h2, n1, n2⟩ := hv
  have HV : Hid (_ = _) := hv
  have H1 : Hid (_ = _) := h1
  have H2 : Hid (_ = _) := h2
  clear hv h1 h2
  unfold pp
  go_enter Tryz.func112, Tryz.ntmps112
  go_wp2
  go_ret
  refine ⟨_, rfl, ⟨w.heap.size, w.heap.size + 1, c, d, rfl, ?_, ?_, cell_alloc (cell_alloc H1.out _) _, cell_alloc (cell_alloc H2.out _) _, by omega, by omega, n1, n2⟩, (((But.refl [] w).alloc _).alloc _).to_below⟩
  · rw [← HV.out]
    exact cell_alloc (one_cell w _ _) _
  · simp [pp]

def fnOf : TK → Nat
  | .ex _ => 121
  | .dg _ _ => 120
  | .nm _ _ => 119
  | .lo _ => 122
theorem Tk.fn {w : World} {P : Nat} {t : TK} {v : Value} (h : Tk w P t v) : ∃ c, v = .func (.func (fnOf t)) #[] c := by
  cases t with
  | ex t => obtain ⟨a, rfl, _⟩ := h; exact ⟨_, rfl⟩
  | dg n f => obtain ⟨a, c, rfl, _⟩ := h; exact ⟨_, rfl⟩
  | nm k f => obtain ⟨a, c, d, rfl, _⟩ := h; exact ⟨_, rfl⟩
  | lo f => obtain ⟨a, c, d, x, rfl, _⟩ := h; exact ⟨_, rfl⟩

end Bs
end Go.Proofs.YtjngpafokkjkdaaGreatDoor
