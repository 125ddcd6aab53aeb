import Derived.Test.YtdcfhnbagldilaaGreatDoorMgS
set_option linter.unusedVariables false
set_option linter.unusedSimpArgs false
set_option maxRecDepth 100000
namespace Go.Proofs.YtdcfhnbagldilaaGreatDoor
open Go.RowKit Go.Shelf
namespace Ck
open Oc Tg _root_.Go.Proofs.YtdcfhnbagldilaaGreatDoor.Fd
theorem ru_bd {l : List UInt8} {e : Bool} {x : List UInt8 × Nat} (h : ru e l = some x) : 1 ≤ x.2 ∧ x.2 ≤ l.length := by
  rw [ru_eq] at h
  obtain ⟨k, hk, rfl⟩ := Option.map_eq_some_iff.1 h
  exact qscan_pos l e k hk
theorem ru_last {l : List UInt8} {Y : List UInt8} (h : ru false l = some (Y, 1)) : Y = [] := by
  rw [ru_eq] at h
  obtain ⟨k, hk, e⟩ := Option.map_eq_some_iff.1 h
  injection e with e1 e2
  subst e2
  rw [← e1]
  rfl
theorem ru_next {c : UInt8} {l : List UInt8} {Y : List UInt8} {m : Nat} (h : ru false (c :: l) = some (Y, m)) (hm : 2 ≤ m) :
    (c = 92 ∧ 3 ≤ m ∧ ∃ d l' Y', l = d :: l' ∧ Y = d :: Y' ∧ ru false l' = some (Y', m - 2)) ∨ (c ≠ 92 ∧ ∃ Y', Y = c :: Y' ∧ ru false l = some (Y', m - 1)) := by
  by_cases h34 : c = 34
  · rw [ru_end c l h34] at h
    injection h with h
    injection h with _ h
    omega
  by_cases h92 : c = 92
  · left
    rw [ru_back c l h92] at h
    obtain ⟨x, hx, e⟩ := Option.map_eq_some_iff.1 h
    injection e with e1 e2
    cases l with
    | nil => rw [ru] at hx; cases hx
    | cons d l' =>
      cases hf : fieldB d with
      | false => rw [rut_bad d l' hf] at hx; cases hx
      | true =>
        rw [rut_on d l' hf] at hx
        obtain ⟨z, hz, e'⟩ := Option.map_eq_some_iff.1 hx
        subst e'
        have hb := ru_bd hz
        simp only at e1 e2
        refine ⟨h92, by omega, d, l', z.1, rfl, e1.symm, ?_⟩
        rw [hz, ← e2]
        simp
  · right
    cases hf : fieldB c with
    | false => rw [ru_bad c l hf] at h; cases h
    | true =>
      rw [ru_on c l hf h34 h92] at h
      obtain ⟨z, hz, e⟩ := Option.map_eq_some_iff.1 h
      injection e with e1 e2
      refine ⟨h92, z.1, e1.symm, ?_⟩
      rw [hz, ← e2]
      simp
theorem ru_quoted {l : List UInt8} (h : qlen l ≠ 0) : ru false (l.drop 1) = some (psay false ((l.drop 1).take (qlen l - 2)), qlen l - 1) := by
  cases l with
  | nil => exact absurd rfl h
  | cons c l =>
    rw [qlen_cons] at h ⊢
    by_cases hc : c = 34
    · rw [if_pos hc] at h ⊢
      rw [List.drop_one, List.tail_cons, ru_eq]
      cases hq : qscan false l with
      | none => rw [hq] at h; exact absurd rfl h
      | some k => simp [plusOne]
    · rw [if_neg hc] at h
      exact absurd rfl h
set_option maxHeartbeats 2000000 in
theorem rsaid_any (s : ByteArray) (hs : s.size ≤ 4000000) (n : Nat) (hn : n = qlen s.data.toList) (h0 : n ≠ 0) (w : World) :
    Calls Tryz.prog 127 #[.string s, .int .i64 n] w fun e w' => e = .returned (.string (str (psay false ((s.data.toList.drop 1).take (n - 2))))) ∧ Below w.heap.size w w' := by
  have hru := ru_quoted (l := s.data.toList) (by rw [← hn]; exact h0)
  rw [← hn] at hru
  obtain ⟨hb1, hb2⟩ := qlen_bd s.data.toList
  rw [← hn, size_list] at hb1
  have hb3 := hb2 (by rw [← hn]; exact h0)
  rw [← hn] at hb3
  clear hb2 hn h0
  obtain ⟨X, hX⟩ : ∃ X, X = psay false ((s.data.toList.drop 1).take (n - 2)) := ⟨_, rfl⟩
  rw [← hX] at hru ⊢
  have HRU : Hid (ru false (s.data.toList.drop 1) = some (X, n - 1)) := hru
  clear hru hX
  go_enter Tryz.func127, Tryz.ntmps127
  go_wp2
  go_loopw [5, 6] (fun ov iv wr => ∃ (i : Nat) (o Y : List UInt8), 1 ≤ i ∧ i ≤ n - 1 ∧ iv = .int .i64 i ∧ o.length ≤ i ∧ Hid (X = o ++ Y ∧ ru false (s.data.toList.drop i) = some (Y, n - i)) ∧ Hid (Own w.heap.size ov o wr) ∧ Hid (Below w.heap.size w wr)) (fun _ iv _ => n - (intOf iv).toNat)
  case atStart => exact ⟨1, [], X, Nat.le_refl _, by omega, rfl, by simp, (⟨rfl, HRU.out⟩ : X = [] ++ X ∧ ru false (s.data.toList.drop 1) = some (X, n - 1)), World.ownsRow_nil _ _ _ _, Below.refl _ _⟩
  case round =>
    obtain ⟨i, o, Y, hi1, hi2, rfl, hol, hst, hown, hbl⟩ := hrel
    have hsz := hbl.out.size
    by_cases hlt : i < n - 1
    · have hlt' : (i : Int) < (n : Int) - 1 := by omega
      have his : i < s.size := by omega
      have hby : ((s[i].toNat : Nat) : Int) = byt s i := byt_at s i his
      have HD : Hid (s.data.toList.drop i = s.data.toList.getD i 0 :: s.data.toList.drop (i + 1)) := drop_cons _ i (by rw [size_list]; exact his)
      have hcb : byt s i = ((s.data.toList.getD i 0).toNat : Int) := rfl
      have HCB : Hid (byt s i = ((s.data.toList.getD i 0).toNat : Int)) := hcb
      clear hcb
      obtain ⟨hX, hr⟩ := hst.out
      rw [HD.out] at hr
      rcases ru_next hr (by omega) with ⟨hc, h3, d, l', Y', hl', hY, hr'⟩ | ⟨hc, Y', hY, hr'⟩
      · have h92 : (byt s i == 92) = true := by rw [HCB.out, hc]; rfl
        have his2 : i + 1 < s.size := by omega
        have hby2 : ((s[i + 1].toNat : Nat) : Int) = byt s (i + 1) := byt_at s (i + 1) his2
        have hd2 := drop_cons s.data.toList (i + 1) (by rw [size_list]; exact his2)
        rw [hl'] at hd2
        injection hd2 with hd2 hd3
        have HC2 : Hid (byt s (i + 1) = (d.toNat : Int)) := by rw [hd2]; rfl
        have HN : Hid (X = (o ++ [d]) ++ Y' ∧ ru false (s.data.toList.drop (i + 2)) = some (Y', n - (i + 2))) := by
          refine ⟨by rw [hX, hY]; simp, ?_⟩
          rw [← hd3, hr']
          congr 2
        clear hX hr hl' hY hr' hd2 hd3 hc
        go_wp2_with (at_builtin; go_must (refine wp_app rfl (.tmp 19) (.tmp 23) rfl w.heap.size _ o wr (byt s (i + 1)) d HC2.out (by simp [Act.eval, Act.put]) hown.out (by simp [Act.eval, Act.put]) (by omega) hsz ?_); intro v6 w6 ho6 hb6 _; have HO6 : Hid (Own w.heap.size v6 (o ++ [d]) w6) := ho6; have HB6 : Hid (Below w.heap.size w w6) := hbl.out.trans hb6; clear ho6 hb6)
        go_roundw
        case rel => exact ⟨i + 2, o ++ [d], Y', by omega, by omega, by go_num, by simp; omega, HN, HO6, HB6⟩
        case measure => simp [intOf]; omega
      · have h92 : (byt s i == 92) = false := by
          rw [beq_eq_false_iff_ne, HCB.out]
          intro e
          exact hc (UInt8.toNat_inj.1 (by show (s.data.toList.getD i 0).toNat = 92; omega))
        have HN : Hid (X = (o ++ [s.data.toList.getD i 0]) ++ Y' ∧ ru false (s.data.toList.drop (i + 1)) = some (Y', n - (i + 1))) := by
          refine ⟨by rw [hX, hY]; simp, ?_⟩
          rw [hr']
          congr 2
        clear hX hr hY hr' hc
        generalize s.data.toList.getD i 0 = d at *
        go_wp2_with (at_builtin; go_must (refine wp_app rfl (.tmp 19) (.tmp 23) rfl w.heap.size _ o wr (byt s i) d HCB.out (by simp [Act.eval, Act.put]) hown.out (by simp [Act.eval, Act.put]) (by omega) hsz ?_); intro v6 w6 ho6 hb6 _; have HO6 : Hid (Own w.heap.size v6 (o ++ [d]) w6) := ho6; have HB6 : Hid (Below w.heap.size w w6) := hbl.out.trans hb6; clear ho6 hb6)
        go_roundw
        case rel => exact ⟨i + 1, o ++ [d], Y', by omega, by omega, by go_num, by simp; omega, HN, HO6, HB6⟩
        case measure => simp [intOf]; omega
    · have hlt' : ¬ ((i : Int) < (n : Int) - 1) := by omega
      have HE : Hid (X = o) := by
        obtain ⟨hX, hr⟩ := hst.out
        have : n - i = 1 := by omega
        rw [this] at hr
        show X = o
        rw [hX, ru_last hr, List.append_nil]
      have hcv := own_back hown.out
      go_wp2
      go_ret
      rw [HE.out]
      exact ⟨rfl, hbl.out⟩
end Ck
end Go.Proofs.YtdcfhnbagldilaaGreatDoor
