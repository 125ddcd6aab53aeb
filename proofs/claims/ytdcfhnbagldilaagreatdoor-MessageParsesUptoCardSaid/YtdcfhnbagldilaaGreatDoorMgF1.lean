import Derived.Test.YtdcfhnbagldilaaGreatDoorMgT
import Derived.Test.YtdcfhnbagldilaaGreatDoorMgP
import Derived.Test.YtdcfhnbagldilaaGreatDoorMgE1
import Derived.Test.YtdcfhnbagldilaaGreatDoorMsZ
import Derived.Test.YtdcfhnbagldilaaGreatDoorMgQ
set_option linter.unusedVariables false
set_option linter.unusedSimpArgs false
set_option maxRecDepth 100000
namespace Go.Proofs.YtdcfhnbagldilaaGreatDoor
open Go.RowKit Go.Shelf
namespace Ms
open Oc Tg _root_.Go.Proofs.YtdcfhnbagldilaaGreatDoor.Fd _root_.Go.Proofs.YtdcfhnbagldilaaGreatDoor.Ck
def digs (m : Nat) : List UInt8 := if m = 0 then [48] else decD m
def dgR (n : Int) : List UInt8 := if n < 0 then [45] else Lib.itoa n
set_option maxHeartbeats 1000000 in
theorem rEmpty_any (n : Int) (w : World) : Calls Tryz.prog 40 #[.int .i64 n] w fun e w' => e = .returned (.bool (nvr n)) ∧ w' = w := by
  obtain ⟨R, hR⟩ : ∃ R, R = nvr n := ⟨_, rfl⟩
  rw [← hR]
  have HR : Hid (R = (decide (100 ≤ n ∧ n ≤ 199) || (n == 204 || n == 304))) := hR
  clear hR
  by_cases h1 : 100 ≤ n
  · by_cases h2 : n ≤ 199
    · have HQ : Hid (R = true) := (by rw [HR.out]; simp [h1, h2] : _ = _)
      go_enter Tryz.func40, Tryz.ntmps40
      go_wp2
      go_ret
      exact ⟨by rw [HQ.out]; rfl, rfl⟩
    · by_cases h3 : n = 204
      · subst h3
        have HQ : Hid (R = true) := (by rw [HR.out]; rfl : _ = _)
        go_enter Tryz.func40, Tryz.ntmps40
        go_wp2
        go_ret
        exact ⟨by rw [HQ.out]; rfl, rfl⟩
      · have h3' : (n == 204) = false := by simp [h3]
        have HQ : Hid (R = (n == 304)) := (by rw [HR.out, h3']; simp [h2] : _ = _)
        go_enter Tryz.func40, Tryz.ntmps40
        go_wp2
        go_ret
        exact ⟨by rw [HQ.out]; rfl, rfl⟩
  · have h3' : (n == 204) = false := by rw [beq_eq_false_iff_ne]; omega
    have HQ : Hid (R = (n == 304)) := (by rw [HR.out, h3']; simp [h1] : _ = _)
    go_enter Tryz.func40, Tryz.ntmps40
    go_wp2
    go_ret
    exact ⟨by rw [HQ.out]; rfl, rfl⟩
set_option maxHeartbeats 2000000 in
theorem rBodyless_any (m : ByteArray) (n : Int) (w : World) : Calls Tryz.prog 20 #[.string m, .int .i64 n] w fun e w' => e = .returned (.bool (bdl m.data.toList n)) ∧ w' = w := by
  have HI : Hid (∀ W, Calls _ _ _ W _) := fun W => rEmpty_any n W
  have HQ : Hid (bdl m.data.toList n = (nvr n || (decide (m.data.toList = [72, 69, 65, 68]) || (decide (m.data.toList = [67, 79, 78, 78, 69, 67, 84]) && decide (200 ≤ n ∧ n ≤ 299))))) := rfl
  generalize bdl m.data.toList n = R at *
  generalize nvr n = b at *
  go_enter Tryz.func20, Tryz.ntmps20
  go_wp2_with fail
  refine (HI.out _).mono ?_
  rintro e w' ⟨rfl, hw⟩
  rw [hw]
  clear hw
  cases b with
  | true =>
    go_wp2
    go_ret
    exact ⟨by rw [HQ.out]; rfl, rfl⟩
  | false =>
    by_cases hm : m.data.toList = [72, 69, 65, 68]
    · have hm' : (m.toList == [72, 69, 65, 68]) = true := by rw [ByteArray.toList_eq, hm]; rfl
      rw [decide_eq_true hm] at HQ
      clear hm
      go_wp2
      go_ret
      exact ⟨by rw [HQ.out]; rfl, rfl⟩
    · have hm' : (m.toList == [72, 69, 65, 68]) = false := by rw [ByteArray.toList_eq]; simpa using hm
      rw [decide_eq_false hm] at HQ
      clear hm
      by_cases hc : m.data.toList = [67, 79, 78, 78, 69, 67, 84]
      · have hc' : (m.toList == [67, 79, 78, 78, 69, 67, 84]) = true := by rw [ByteArray.toList_eq, hc]; rfl
        rw [decide_eq_true hc] at HQ
        clear hc
        by_cases h1 : 200 ≤ n
        · have HQ2 : Hid (R = decide (n ≤ 299)) := (by rw [HQ.out]; simp [h1] : _ = _)
          go_wp2
          go_ret
          exact ⟨by rw [HQ2.out]; rfl, rfl⟩
        · have HQ2 : Hid (R = false) := (by rw [HQ.out]; simp [h1] : _ = _)
          go_wp2
          go_ret
          exact ⟨by rw [HQ2.out]; rfl, rfl⟩
      · have hc' : (m.toList == [67, 79, 78, 78, 69, 67, 84]) = false := by rw [ByteArray.toList_eq]; simpa using hc
        rw [decide_eq_false hc] at HQ
        clear hc
        go_wp2
        go_ret
        exact ⟨by rw [HQ.out]; rfl, rfl⟩
def ent (c : Int) : List UInt8 := [UInt8.ofNat (48 + c.toNat / 100), UInt8.ofNat (48 + c.toNat / 10 % 10), UInt8.ofNat (48 + c.toNat % 10)] ++ ([32] ++ rsL c)
def flat (l : List Int) : List UInt8 := l.flatMap fun c => ent c ++ [124]
def rTab : List UInt8 := flat codes
theorem flat_app (a b : List Int) : flat (a ++ b) = flat a ++ flat b := by unfold flat; rw [List.flatMap_append]
theorem tab_len : rTab.length = 787 := by decide +kernel
end Ms
end Go.Proofs.YtdcfhnbagldilaaGreatDoor
set_option linter.unusedVariables false
set_option linter.unusedSimpArgs false
set_option maxRecDepth 100000
namespace Go.Proofs.YtdcfhnbagldilaaGreatDoor
open Go.RowKit Go.Shelf
namespace Ms
open Oc Tg _root_.Go.Proofs.YtdcfhnbagldilaaGreatDoor.Fd _root_.Go.Proofs.YtdcfhnbagldilaaGreatDoor.Ck
def mid (s : HS) (la : Nat) (fs : List Fl) (used : Nat) (piece : List UInt8) : HS := { s with piece := piece, used := used, line := [], lineAt := la, fs := fs }
end Ms
end Go.Proofs.YtdcfhnbagldilaaGreatDoor
set_option linter.unusedVariables false
set_option linter.unusedSimpArgs false
set_option maxRecDepth 100000
namespace Go.Proofs.YtdcfhnbagldilaaGreatDoor
open Go.RowKit Go.Shelf
namespace Ms
open Oc Tg _root_.Go.Proofs.YtdcfhnbagldilaaGreatDoor.Fd _root_.Go.Proofs.YtdcfhnbagldilaaGreatDoor.Ck
theorem drop_at (s : ByteArray) (i : Nat) (h : i < s.size) : s.data.toList.drop i = s.data.toList.getD i 0 :: s.data.toList.drop (i + 1) := by
  have h2 : i < s.data.toList.length := by rw [size_list]; exact h
  rw [List.drop_eq_getElem_cons h2, List.getD_eq_getElem?_getD, List.getElem?_eq_getElem h2]
  rfl
theorem take_at (s : ByteArray) (a i : Nat) (ha : a ≤ i) (h : i < s.size) : (s.data.toList.drop a).take (i - a) ++ [s.data.toList.getD i 0] = (s.data.toList.drop a).take (i + 1 - a) := by
  have h2 : i < s.data.toList.length := by rw [size_list]; exact h
  have e : i + 1 - a = (i - a) + 1 := by omega
  have h3 : i - a < (s.data.toList.drop a).length := by rw [List.length_drop]; omega
  rw [e, List.take_succ_eq_append_getElem h3, List.getElem_drop, List.getD_eq_getElem?_getD, List.getElem?_eq_getElem h2]
  simp [show a + (i - a) = i by omega]
theorem byt_10 (s : ByteArray) (i : Nat) : (byt s i = 10) ↔ s.data.toList.getD i 0 = 10 := by
  unfold byt
  refine ⟨fun h => UInt8.toNat_inj.1 (by show _ = 10; omega), fun h => by rw [h]; rfl⟩
theorem byt_13 (s : ByteArray) (i : Nat) : (byt s i = 13) ↔ s.data.toList.getD i 0 = 13 := by
  unfold byt
  refine ⟨fun h => UInt8.toNat_inj.1 (by show _ = 13; omega), fun h => by rw [h]; rfl⟩
theorem back_take (s : ByteArray) (a i : Nat) (ha : a ≤ i) (h : i ≤ s.size) : backB ((s.data.toList.drop a).take (i - a)) = lnB s a i := by
  unfold lnB
  rcases Nat.lt_or_ge a i with hlt | hge
  · obtain ⟨j, rfl⟩ : ∃ j, i = j + 1 := ⟨i - 1, by omega⟩
    rw [← take_at s a j (by omega) (by omega), decide_eq_true hlt, Bool.true_and]
    unfold backB
    rw [List.getLast?_append]
    simp only [List.getLast?_singleton, Option.some_or, Option.some.injEq, Nat.add_sub_cancel]
    rw [decide_eq_decide]
    exact (byt_13 s j).symm
  · have e : i - a = 0 := by omega
    rw [e, List.take_zero, decide_eq_false (by omega), Bool.false_and]
    rfl
structure Hd where
  st : Int
  rs : List UInt8
  fs : List Fl
  mi : Int
  kind : Int
  len : Int
  per : Bool
def outH (z : Nat) (R : HS × Int) : Option Hd × Int × Int :=
  if R.2 ≠ 0 then (none, R.1.wrong, R.2) else if R.1.headed = false then (none, (z : Int), 124) else (some ⟨R.1.st, R.1.rs, R.1.fs, R.1.minor, R.1.kind, R.1.len, R.1.per⟩, (R.1.used : Int), 0)
theorem out_no (z : Nat) (s : HS) (e : Int) (he : e ≠ 0) : outH z (s, e) = (none, s.wrong, e) := if_pos he
def cutS (B : ByteArray) (s : HS) (a : Nat) (e : Int) : HS := { s with piece := B.data.toList.drop e.toNat, used := e.toNat, line := (B.data.toList.drop a).take (e.toNat - 1 - a) }
def thenS (B : ByteArray) (s : HS) (a : Nat) (r : Int × Int × Bool) : Option Hd × Int × Int :=
  if r.2.2 = false then (none, r.1, r.2.1) else outH B.size (if (hEnd (cutS B s a r.1)).2 ≠ 0 then hEnd (cutS B s a r.1) else hRun (hEnd (cutS B s a r.1)).1 (B.data.toList.drop r.1.toNat))
theorem then_yes (B : ByteArray) (s : HS) (a : Nat) (e z : Int) : thenS B s a (e, z, true) = outH B.size (if (hEnd (cutS B s a e)).2 ≠ 0 then hEnd (cutS B s a e) else hRun (hEnd (cutS B s a e)).1 (B.data.toList.drop e.toNat)) := if_neg (by simp)
theorem out_line (B : ByteArray) (a : Nat) : ∀ (f i : Nat) (s : HS), B.size - i = f → a ≤ i → i ≤ B.size → s.used = i → s.line = (B.data.toList.drop a).take (i - a) → s.lineAt ≠ 0 → s.headed = false →
    outH B.size (hRun s (B.data.toList.drop i)) = thenS B s a (lnF B a f i)
  | 0, i, s, hf, ha, hi, hu, hl, hla, hh => by
    obtain rfl : i = B.size := by omega
    have e : B.data.toList.drop B.size = [] := List.drop_eq_nil_of_le (by rw [size_list]; exact Nat.le_refl _)
    rw [e]
    show outH B.size (s, 0) = thenS B s a ((B.size : Int), 124, false)
    unfold outH thenS
    rw [if_neg (by simp), if_pos hh, if_pos rfl]
  | f + 1, i, s, hf, ha, hi, hu, hl, hla, hh => by
    have hlt : i < B.size := by omega
    rw [drop_at B i hlt]
    have eR : hRun s (B.data.toList.getD i 0 :: B.data.toList.drop (i + 1)) = if (hTake (hNext s (B.data.toList.drop (i + 1))) (B.data.toList.getD i 0) i).2 ≠ 0 then hTake (hNext s (B.data.toList.drop (i + 1))) (B.data.toList.getD i 0) i else hRun (hTake (hNext s (B.data.toList.drop (i + 1))) (B.data.toList.getD i 0) i).1 (B.data.toList.drop (i + 1)) := by
      show (if s.headed = true then _ else _) = _
      rw [if_neg (by rw [hh]; simp), hu]
    rw [eR]
    have eL : lnF B a (f + 1) i = if i = 65536 then ((i : Int), 125, false) else if lnB B a i ≠ decide (byt B i = 10) then ((i : Int), 122, false) else if lnB B a i = true then ((i : Int) + 1, 0, true) else lnF B a f (i + 1) := rfl
    rw [eL]
    have eb : backB (hNext s (B.data.toList.drop (i + 1))).line = lnB B a i := by
      show backB s.line = _
      rw [hl]
      exact back_take B a i ha hi
    have e10 : decide (B.data.toList.getD i 0 = 10) = decide (byt B i = 10) := by
      rw [decide_eq_decide]
      exact (byt_10 B i).symm
    by_cases h6 : i = 65536
    · have eT : hTake (hNext s (B.data.toList.drop (i + 1))) (B.data.toList.getD i 0) i = ({ hNext s (B.data.toList.drop (i + 1)) with wrong := (i : Int) }, 125) := by
        unfold hTake
        rw [if_pos h6]
      rw [eT, if_pos (by simp), if_pos h6, out_no _ _ _ (by decide)]
      rfl
    rw [if_neg h6]
    by_cases hbk : lnB B a i ≠ decide (byt B i = 10)
    · have eT : hTake (hNext s (B.data.toList.drop (i + 1))) (B.data.toList.getD i 0) i = ({ hNext s (B.data.toList.drop (i + 1)) with wrong := (i : Int) }, 122) := by
        unfold hTake
        rw [if_neg h6, eb, e10, if_pos hbk]
      rw [eT, if_pos (by simp), if_pos hbk, out_no _ _ _ (by decide)]
      rfl
    rw [if_neg hbk]
    have hbk2 : lnB B a i = decide (byt B i = 10) := by simpa using hbk
    by_cases hb : lnB B a i = true
    · rw [if_pos hb]
      have h10 : B.data.toList.getD i 0 = 10 := by
        rw [hb] at hbk2
        exact (byt_10 B i).1 (of_decide_eq_true hbk2.symm)
      have eT : hTake (hNext s (B.data.toList.drop (i + 1))) (B.data.toList.getD i 0) i = hEnd (cutS B s a ((i : Int) + 1)) := by
        unfold hTake
        rw [if_neg h6, eb, e10, if_neg hbk, if_pos h10]
        have : cutS B s a ((i : Int) + 1) = hNext s (B.data.toList.drop (i + 1)) := by
          unfold cutS hNext
          have e1 : ((i : Int) + 1).toNat = i + 1 := by omega
          rw [e1, Nat.add_sub_cancel, ← hl, hu]
        rw [this]
      rw [eT, then_yes]
      have e1 : ((i : Int) + 1).toNat = i + 1 := by omega
      rw [e1]
    · rw [if_neg hb]
      have hb : lnB B a i = false := by simpa using hb
      have h10 : ¬ B.data.toList.getD i 0 = 10 := by
        rw [hb] at hbk2
        exact fun e => by
          have := of_decide_eq_false hbk2.symm
          exact this ((byt_10 B i).2 e)
      have eT : hTake (hNext s (B.data.toList.drop (i + 1))) (B.data.toList.getD i 0) i = ({ s with piece := B.data.toList.drop (i + 1), used := s.used + 1, line := s.line ++ [B.data.toList.getD i 0] }, 0) := by
        unfold hTake
        rw [if_neg h6, eb, e10, if_neg hbk, if_neg h10, if_neg (fun h => hla h.1)]
        rfl
      rw [eT, if_neg (by simp)]
      show outH B.size (hRun { s with piece := B.data.toList.drop (i + 1), used := s.used + 1, line := s.line ++ [B.data.toList.getD i 0] } (B.data.toList.drop (i + 1))) = _
      rw [out_line B a f (i + 1) { s with piece := B.data.toList.drop (i + 1), used := s.used + 1, line := s.line ++ [B.data.toList.getD i 0] } (by omega) (by omega) (by omega) (by show s.used + 1 = i + 1; rw [hu]) (by show s.line ++ _ = _; rw [hl]; exact take_at B a i ha hlt) hla hh]
      rfl
theorem gon_13 (a : Nat) (h : 13 ≤ a) (x : Int) : gonI a x = (x == 13 || (decide (a < 269) && fieldI x)) := by
  unfold gonI
  rw [if_pos h]
theorem gon_10 : ∀ a, a < 13 → gonI a 10 = false := by decide
theorem one_st (B : ByteArray) (i : Nat) (s : HS) (hi : i < B.size) (hu : s.used = i) (hl : s.line = B.data.toList.take i) (hla : s.lineAt = 0) (hh : s.headed = false) (h6 : i < 65536) (hb : backB s.line = false) :
    (byt B i ≠ 10 → gonI i (byt B i) = true → hRun s (B.data.toList.drop i) = hRun { s with piece := B.data.toList.drop (i + 1), used := i + 1, line := B.data.toList.take (i + 1) } (B.data.toList.drop (i + 1))) ∧
    ((byt B i = 10 ∨ gonI i (byt B i) = false) → outH B.size (hRun s (B.data.toList.drop i)) = (none, (i : Int), 122)) := by
  have et : B.data.toList.take i ++ [B.data.toList.getD i 0] = B.data.toList.take (i + 1) := by
    have := take_at B 0 i (Nat.zero_le _) hi
    simpa using this
  have eR : hRun s (B.data.toList.drop i) = if (hTake (hNext s (B.data.toList.drop (i + 1))) (B.data.toList.getD i 0) i).2 ≠ 0 then hTake (hNext s (B.data.toList.drop (i + 1))) (B.data.toList.getD i 0) i else hRun (hTake (hNext s (B.data.toList.drop (i + 1))) (B.data.toList.getD i 0) i).1 (B.data.toList.drop (i + 1)) := by
    rw [drop_at B i hi]
    show (if s.headed = true then _ else _) = _
    rw [if_neg (by rw [hh]; simp), hu]
  have eb : backB (hNext s (B.data.toList.drop (i + 1))).line = false := hb
  constructor
  · intro h10 hg
    have h10' : ¬ B.data.toList.getD i 0 = 10 := fun e => h10 ((byt_10 B i).2 e)
    have eT : hTake (hNext s (B.data.toList.drop (i + 1))) (B.data.toList.getD i 0) i = ({ s with piece := B.data.toList.drop (i + 1), used := i + 1, line := B.data.toList.take (i + 1) }, 0) := by
      unfold hTake
      rw [if_neg (by omega), eb, decide_eq_false h10', if_neg (by simp), if_neg h10', if_neg]
      · unfold hNext
        rw [← et, ← hl, ← hu]
      · rintro ⟨_, h2⟩
        have : gonI i (byt B i) = false := h2
        rw [hg] at this
        cases this
    rw [eR, eT, if_neg (by simp)]
  · intro h
    have eT : hTake (hNext s (B.data.toList.drop (i + 1))) (B.data.toList.getD i 0) i = ({ hNext s (B.data.toList.drop (i + 1)) with wrong := (i : Int) }, 122) := by
      unfold hTake
      rw [if_neg (by omega), eb]
      by_cases h10 : B.data.toList.getD i 0 = 10
      · rw [if_pos (by rw [decide_eq_true h10]; simp)]
      · rw [decide_eq_false h10, if_neg (by simp), if_neg h10, if_pos]
        refine ⟨hla, ?_⟩
        rcases h with h | h
        · exact absurd ((byt_10 B i).1 h) h10
        · exact h
    rw [eR, eT, if_pos (by simp), out_no _ _ _ (by decide)]
theorem back_st (B : ByteArray) (i : Nat) (hi : i < B.size) : backB (B.data.toList.take (i + 1)) = decide (byt B i = 13) := by
  have := back_take B 0 (i + 1) (Nat.zero_le _) (by omega)
  simp only [List.drop_zero, Nat.sub_zero] at this
  rw [this]
  unfold lnB
  rw [decide_eq_true (Nat.succ_pos i), Bool.true_and, Nat.add_sub_cancel]
theorem out_stB (B : ByteArray) : ∀ (f i : Nat) (s : HS), B.size - i = f → 13 ≤ i → i ≤ 269 → i ≤ B.size → s.used = i → s.line = B.data.toList.take i → s.lineAt = 0 → s.headed = false → backB s.line = false →
    outH B.size (hRun s (B.data.toList.drop i)) = thenS B s 0 (stB B f i)
  | 0, i, s, hf, ha, h2, hi, hu, hl, hla, hh, hb => by
    obtain rfl : i = B.size := by omega
    have e : B.data.toList.drop B.size = [] := List.drop_eq_nil_of_le (by rw [size_list]; exact Nat.le_refl _)
    rw [e]
    show outH B.size (s, 0) = thenS B s 0 ((B.size : Int), 124, false)
    unfold outH thenS
    rw [if_neg (by simp), if_pos hh, if_pos rfl]
  | f + 1, i, s, hf, ha, h2, hi, hu, hl, hla, hh, hb => by
    have hlt : i < B.size := by omega
    obtain ⟨k1, k2⟩ := one_st B i s hlt hu hl hla hh (by omega) hb
    have eS : stB B (f + 1) i = if byt B i = 13 then (if i + 1 = B.size then ((i : Int) + 1, 124, false) else if byt B (i + 1) = 10 then ((i : Int) + 2, 0, true) else ((i : Int) + 1, 122, false)) else if i = 269 ∨ fieldI (byt B i) = false then ((i : Int), 122, false) else stB B f (i + 1) := rfl
    rw [eS]
    by_cases h13 : byt B i = 13
    · rw [if_pos h13, k1 (by rw [h13]; decide) (by rw [gon_13 i ha, h13]; rfl)]
      by_cases hz : i + 1 = B.size
      · rw [if_pos hz]
        have e : B.data.toList.drop (i + 1) = [] := List.drop_eq_nil_of_le (by rw [size_list]; omega)
        rw [e]
        show outH B.size (_, 0) = _
        unfold outH thenS
        rw [if_neg (by simp), if_pos hh, if_pos rfl]
        have : (B.size : Int) = (i : Int) + 1 := by omega
        rw [this]
      · rw [if_neg hz, drop_at B (i + 1) (by omega)]
        have hb1 := back_st B i hlt
        rw [decide_eq_true h13] at hb1
        have eR : hRun { s with piece := B.data.toList.getD (i + 1) 0 :: B.data.toList.drop (i + 1 + 1), used := i + 1, line := B.data.toList.take (i + 1) } (B.data.toList.getD (i + 1) 0 :: B.data.toList.drop (i + 1 + 1)) = if (hTake { s with piece := B.data.toList.drop (i + 2), used := i + 2, line := B.data.toList.take (i + 1) } (B.data.toList.getD (i + 1) 0) (i + 1)).2 ≠ 0 then hTake { s with piece := B.data.toList.drop (i + 2), used := i + 2, line := B.data.toList.take (i + 1) } (B.data.toList.getD (i + 1) 0) (i + 1) else hRun (hTake { s with piece := B.data.toList.drop (i + 2), used := i + 2, line := B.data.toList.take (i + 1) } (B.data.toList.getD (i + 1) 0) (i + 1)).1 (B.data.toList.drop (i + 2)) := by
          show (if s.headed = true then _ else _) = _
          rw [if_neg (by rw [hh]; simp)]
          rfl
        rw [eR]
        by_cases h10 : byt B (i + 1) = 10
        · rw [if_pos h10]
          have eT : hTake { s with piece := B.data.toList.drop (i + 2), used := i + 2, line := B.data.toList.take (i + 1) } (B.data.toList.getD (i + 1) 0) (i + 1) = hEnd (cutS B s 0 ((i : Int) + 2)) := by
            unfold hTake
            dsimp only
            rw [if_neg (by omega), hb1, decide_eq_true ((byt_10 B _).1 h10), if_neg (by simp), if_pos ((byt_10 B _).1 h10)]
            unfold cutS
            have e1 : ((i : Int) + 2).toNat = i + 2 := by omega
            rw [e1]
            rfl
          rw [eT, then_yes]
          have e1 : ((i : Int) + 2).toNat = i + 2 := by omega
          rw [e1]
        · rw [if_neg h10]
          have eT : hTake { s with piece := B.data.toList.drop (i + 2), used := i + 2, line := B.data.toList.take (i + 1) } (B.data.toList.getD (i + 1) 0) (i + 1) = ({ s with piece := B.data.toList.drop (i + 2), used := i + 2, line := B.data.toList.take (i + 1), wrong := ((i + 1 : Nat) : Int) }, 122) := by
            unfold hTake
            dsimp only
            rw [if_neg (by omega), hb1, decide_eq_false (fun e => h10 ((byt_10 B _).2 e)), if_pos (by simp)]
          rw [eT, if_pos (by simp), out_no _ _ _ (by decide)]
          rfl
    · rw [if_neg h13]
      by_cases hs : i = 269 ∨ fieldI (byt B i) = false
      · rw [if_pos hs, k2]
        · rfl
        · right
          rw [gon_13 i ha]
          rcases hs with h | h
          · rw [decide_eq_false (show ¬ i < 269 by omega)]; simp [h13]
          · rw [h]; simp [h13]
      · rw [if_neg hs]
        have h269 : i ≠ 269 := fun h => hs (.inl h)
        have hfd : fieldI (byt B i) = true := by
          cases h : fieldI (byt B i) with
          | true => rfl
          | false => exact absurd (.inr h) hs
        have hn10 : byt B i ≠ 10 := fun e => by rw [e] at hfd; revert hfd; decide
        rw [k1 hn10 (by rw [gon_13 i ha, hfd, decide_eq_true (show i < 269 by omega)]; simp)]
        rw [out_stB B f (i + 1) { s with piece := B.data.toList.drop (i + 1), used := i + 1, line := B.data.toList.take (i + 1) } (by omega) (by omega) (by omega) (by omega) rfl rfl hla hh (by show backB (B.data.toList.take (i + 1)) = false; rw [back_st B i hlt, decide_eq_false h13])]
        rfl
theorem out_stA (B : ByteArray) : ∀ (f i : Nat) (s : HS), 13 - i = f → i ≤ 13 → i ≤ B.size → s.used = i → s.line = B.data.toList.take i → s.lineAt = 0 → s.headed = false → backB s.line = false →
    outH B.size (hRun s (B.data.toList.drop i)) = thenS B s 0 (stA B f i)
  | 0, i, s, hf, h13, hi, hu, hl, hla, hh, hb => by
    obtain rfl : i = 13 := by omega
    exact out_stB B (B.size - 13) 13 s rfl (by omega) (by omega) hi hu hl hla hh hb
  | f + 1, i, s, hf, h13, hi, hu, hl, hla, hh, hb => by
    have eS : stA B (f + 1) i = if i = B.size then ((i : Int), 124, false) else if gonI i (byt B i) = false then ((i : Int), 122, false) else stA B f (i + 1) := rfl
    rw [eS]
    by_cases hz : i = B.size
    · rw [if_pos hz]
      have e : B.data.toList.drop i = [] := List.drop_eq_nil_of_le (by rw [size_list]; omega)
      rw [e]
      show outH B.size (s, 0) = _
      unfold outH thenS
      rw [if_neg (by simp), if_pos hh, if_pos rfl, hz]
    · have hlt : i < B.size := by omega
      obtain ⟨k1, k2⟩ := one_st B i s hlt hu hl hla hh (by omega) hb
      rw [if_neg hz]
      by_cases hg : gonI i (byt B i) = false
      · rw [if_pos hg, k2 (.inr hg)]
        rfl
      · rw [if_neg hg]
        have hg : gonI i (byt B i) = true := by simpa using hg
        have hn10 : byt B i ≠ 10 := fun e => by rw [e, gon_10 i (by omega)] at hg; cases hg
        have hn13 : byt B i ≠ 13 := fun e => by rw [e, gon_back i (by omega)] at hg; cases hg
        rw [k1 hn10 hg]
        rw [out_stA B f (i + 1) { s with piece := B.data.toList.drop (i + 1), used := i + 1, line := B.data.toList.take (i + 1) } (by omega) (by omega) (by omega) rfl rfl hla hh (by show backB (B.data.toList.take (i + 1)) = false; rw [back_st B i hlt, decide_eq_false hn13])]
        rfl
end Ms
end Go.Proofs.YtdcfhnbagldilaaGreatDoor
set_option linter.unusedVariables false
set_option linter.unusedSimpArgs false
set_option maxRecDepth 100000
namespace Go.Proofs.YtdcfhnbagldilaaGreatDoor
open Go.RowKit Go.Shelf
namespace Ms
open Oc Tg _root_.Go.Proofs.YtdcfhnbagldilaaGreatDoor.Fd _root_.Go.Proofs.YtdcfhnbagldilaaGreatDoor.Ck
theorem lnF_bd (B : ByteArray) (a : Nat) : ∀ (f i : Nat), B.size - i = f → a ≤ i → i ≤ 65536 → (lnF B a f i).2.2 = true → (a : Int) + 2 ≤ (lnF B a f i).1 ∧ (lnF B a f i).1 ≤ (B.size : Int) ∧ (lnF B a f i).1 ≤ 65536
  | 0, i, _, _, _, h => by cases (show false = true from h)
  | f + 1, i, hf, ha, hi, h => by
    have eL : lnF B a (f + 1) i = if i = 65536 then ((i : Int), 125, false) else if lnB B a i ≠ decide (byt B i = 10) then ((i : Int), 122, false) else if lnB B a i = true then ((i : Int) + 1, 0, true) else lnF B a f (i + 1) := rfl
    rw [eL] at h ⊢
    by_cases h6 : i = 65536
    · rw [if_pos h6] at h; cases h
    rw [if_neg h6] at h ⊢
    by_cases hb : lnB B a i ≠ decide (byt B i = 10)
    · rw [if_pos hb] at h; cases h
    rw [if_neg hb] at h ⊢
    by_cases hc : lnB B a i = true
    · rw [if_pos hc]
      have : a < i := by
        unfold lnB at hc
        simp only [Bool.and_eq_true, decide_eq_true_eq] at hc
        exact hc.1
      refine ⟨?_, ?_, ?_⟩ <;> dsimp only <;> omega
    · rw [if_neg hc] at h ⊢
      exact lnF_bd B a f (i + 1) (by omega) (by omega) (by omega) h
theorem line_bd (B : ByteArray) (a : Nat) (ha : a ≤ 65536) (h : (lineR B a).2.2 = true) : (a : Int) + 2 ≤ (lineR B a).1 ∧ (lineR B a).1 ≤ (B.size : Int) ∧ (lineR B a).1 ≤ 65536 := lnF_bd B a _ a rfl (Nat.le_refl _) ha h
def lnT (B : ByteArray) (a : Nat) : List UInt8 := (B.data.toList.drop a).take ((lineR B a).1.toNat - 2 - a)
def docL (B : ByteArray) (st : Int) (rs : List UInt8) (mi : Int) : Nat → Nat → List Fl → Option Hd × Int × Int
  | 0, a, fs => (none, 0, 0)
  | f + 1, a, fs =>
    if (lineR B a).2.2 = false then (none, (lineR B a).1, (lineR B a).2.1)
    else if lnT B a = [] then
      if (framingF fs (mi == 0)).2.2 ≠ 0 then (none, (a : Int), (framingF fs (mi == 0)).2.2)
      else (some ⟨st, rs, fs, mi, (framingF fs (mi == 0)).1, (framingF fs (mi == 0)).2.1, persistF fs (mi == 0)⟩, (lineR B a).1, 0)
    else if fs.length = 100 then (none, (a : Int), 65)
    else if (parseL (lnT B a)).2.2 ≠ 0 then (none, (a : Int) + ((parseL (lnT B a)).2.1 : Int), (parseL (lnT B a)).2.2)
    else docL B st rs mi f (lineR B a).1.toNat (fs ++ [(parseL (lnT B a)).1])
theorem docL_on (B : ByteArray) (st : Int) (rs : List UInt8) (mi : Int) (f a : Nat) (fs : List Fl) : docL B st rs mi (f + 1) a fs =
    if (lineR B a).2.2 = false then (none, (lineR B a).1, (lineR B a).2.1)
    else if lnT B a = [] then
      if (framingF fs (mi == 0)).2.2 ≠ 0 then (none, (a : Int), (framingF fs (mi == 0)).2.2)
      else (some ⟨st, rs, fs, mi, (framingF fs (mi == 0)).1, (framingF fs (mi == 0)).2.1, persistF fs (mi == 0)⟩, (lineR B a).1, 0)
    else if fs.length = 100 then (none, (a : Int), 65)
    else if (parseL (lnT B a)).2.2 ≠ 0 then (none, (a : Int) + ((parseL (lnT B a)).2.1 : Int), (parseL (lnT B a)).2.2)
    else docL B st rs mi f (lineR B a).1.toNat (fs ++ [(parseL (lnT B a)).1]) := rfl
theorem run_headed (s : HS) (h : s.headed = true) : ∀ l, hRun s l = (s, 0)
  | [] => rfl
  | u :: t => by
    show (if s.headed = true then _ else _) = _
    rw [if_pos h]
theorem cut_drop (B : ByteArray) (s : HS) (a : Nat) (e : Int) (h1 : (a : Int) + 2 ≤ e) (h2 : e ≤ (B.size : Int)) : (cutS B s a e).line.dropLast = (B.data.toList.drop a).take (e.toNat - 2 - a) := by
  unfold cutS
  dsimp only
  rw [List.dropLast_take (by rw [List.length_drop, size_list]; omega)]
  congr 1
  omega
theorem out_lines (B : ByteArray) (st : Int) (rs : List UInt8) (mi : Int) : ∀ (f a : Nat) (s : HS), B.size < a + f → a ≤ B.size → a ≤ 65536 → a ≠ 0 → s.used = a → s.line = [] → s.lineAt = a → s.headed = false → s.st = st → s.rs = rs → s.minor = mi →
    outH B.size (hRun s (B.data.toList.drop a)) = docL B st rs mi f a s.fs
  | 0, a, s, h0, h1, _, _, _, _, _, _, _, _, _ => by omega
  | f + 1, a, s, h0, h1, h6, hz, hu, hl, hla, hh, hst, hrs, hmi => by
    rw [docL_on, out_line B a (B.size - a) a s rfl (Nat.le_refl _) h1 hu (by rw [hl, Nat.sub_self, List.take_zero]) (by omega) hh]
    show thenS B s a (lineR B a) = _
    have hbd := line_bd B a h6
    have eT : lnT B a = (B.data.toList.drop a).take ((lineR B a).1.toNat - 2 - a) := rfl
    generalize lineR B a = R at *
    obtain ⟨e, z, g⟩ := R
    dsimp only at hbd eT ⊢
    cases g with
    | false => rfl
    | true =>
      obtain ⟨b1, b2, b3⟩ := hbd rfl
      rw [if_neg (by simp), then_yes]
      have ed := cut_drop B s a e b1 b2
      rw [← eT] at ed
      have hE : hEnd (cutS B s a e) = if lnT B a = [] then hHead (hNew (cutS B s a e)) a else hField (hNew (cutS B s a e)) (lnT B a) a := by
        unfold hEnd
        rw [ed]
        have : (cutS B s a e).lineAt = a := hla
        rw [this, if_neg hz]
      rw [hE]
      by_cases ht : lnT B a = []
      · rw [if_pos ht, if_pos ht]
        unfold hHead
        have ef : (hNew (cutS B s a e)).fs = s.fs := rfl
        have em : (hNew (cutS B s a e)).minor = mi := hmi
        rw [ef, em]
        by_cases hf : (framingF s.fs (mi == 0)).2.2 ≠ 0
        · rw [if_pos hf, if_pos hf, if_pos hf, out_no _ _ _ hf]
        · rw [if_neg hf, if_neg hf, if_neg (by simp), run_headed _ rfl]
          unfold outH
          rw [if_neg (by simp), if_neg (by simp)]
          show (some ({ st := s.st, rs := s.rs, fs := s.fs, mi := mi, kind := _, len := _, per := _ } : Hd), ((e.toNat : Nat) : Int), (0 : Int)) = _
          rw [hst, hrs, show ((e.toNat : Nat) : Int) = e by omega]
      · rw [if_neg ht, if_neg ht]
        unfold hField
        have ef : (hNew (cutS B s a e)).fs = s.fs := rfl
        rw [ef]
        by_cases hc : s.fs.length = 100
        · rw [if_pos hc, if_pos hc, if_pos (by simp), out_no _ _ _ (by decide)]
        · rw [if_neg hc, if_neg hc]
          by_cases hp : (parseL (lnT B a)).2.2 ≠ 0
          · rw [if_pos hp, if_pos hp, if_pos hp, out_no _ _ _ hp]
          · rw [if_neg hp, if_neg hp, if_neg (by simp)]
            have hd : B.data.toList.drop e.toNat = B.data.toList.drop e.toNat := rfl
            exact out_lines B st rs mi f e.toNat { hNew (cutS B s a e) with fs := s.fs ++ [(parseL (lnT B a)).1] } (by omega) (by omega) (by omega) (by omega) rfl rfl rfl hh hst hrs hmi
theorem stB_yes (B : ByteArray) : ∀ (f i : Nat), B.size - i = f → 13 ≤ i → i ≤ 269 → (stB B f i).2.2 = true → (15 : Int) ≤ (stB B f i).1 ∧ (stB B f i).1 ≤ (B.size : Int) ∧ (stB B f i).1 ≤ 271
  | 0, i, _, _, _, h => by cases (show false = true from h)
  | f + 1, i, hf, h13, h269, h => by
    have eS : stB B (f + 1) i = if byt B i = 13 then (if i + 1 = B.size then ((i : Int) + 1, 124, false) else if byt B (i + 1) = 10 then ((i : Int) + 2, 0, true) else ((i : Int) + 1, 122, false)) else if i = 269 ∨ fieldI (byt B i) = false then ((i : Int), 122, false) else stB B f (i + 1) := rfl
    rw [eS] at h ⊢
    by_cases hr : byt B i = 13
    · rw [if_pos hr] at h ⊢
      by_cases hz : i + 1 = B.size
      · rw [if_pos hz] at h; cases h
      rw [if_neg hz] at h ⊢
      by_cases h10 : byt B (i + 1) = 10
      · rw [if_pos h10]
        refine ⟨?_, ?_, ?_⟩ <;> dsimp only <;> omega
      · rw [if_neg h10] at h; cases h
    · rw [if_neg hr] at h ⊢
      by_cases hs : i = 269 ∨ fieldI (byt B i) = false
      · rw [if_pos hs] at h; cases h
      · rw [if_neg hs] at h ⊢
        exact stB_yes B f (i + 1) (by omega) (by omega) (by have : i ≠ 269 := fun e => hs (.inl e); omega) h
theorem stA_yes (B : ByteArray) : ∀ (f i : Nat), 13 - i = f → i ≤ 13 → i ≤ B.size → (stA B f i).2.2 = true → ((15 : Int) ≤ (stA B f i).1 ∧ (stA B f i).1 ≤ (B.size : Int) ∧ (stA B f i).1 ≤ 271) ∧ ∀ j, i ≤ j → j < 13 → gonI j (byt B j) = true
  | 0, i, hf, h13, hi, h => by
    obtain rfl : i = 13 := by omega
    exact ⟨stB_yes B _ 13 rfl (Nat.le_refl _) (by omega) h, fun j h1 h2 => by omega⟩
  | f + 1, i, hf, h13, hi, h => by
    have eS : stA B (f + 1) i = if i = B.size then ((i : Int), 124, false) else if gonI i (byt B i) = false then ((i : Int), 122, false) else stA B f (i + 1) := rfl
    rw [eS] at h ⊢
    by_cases hz : i = B.size
    · rw [if_pos hz] at h; cases h
    rw [if_neg hz] at h ⊢
    by_cases hg : gonI i (byt B i) = false
    · rw [if_pos hg] at h; cases h
    rw [if_neg hg] at h ⊢
    obtain ⟨k1, k2⟩ := stA_yes B f (i + 1) (by omega) (by omega) (by omega) h
    refine ⟨k1, fun j h1 h2 => ?_⟩
    rcases Nat.lt_or_ge i j with hlt | hge
    · exact k2 j hlt h2
    · obtain rfl : j = i := by omega
      simpa using hg
def stD (B : ByteArray) : Int := 100 * (byt B 9 - 48) + 10 * (byt B 10 - 48) + (byt B 11 - 48)
def rsD (B : ByteArray) : List UInt8 := (B.data.toList.drop 13).take ((statusR B).1.toNat - 15)
def miD (B : ByteArray) : Int := byt B 7 - 48
def docH (B : ByteArray) : Option Hd × Int × Int := if (statusR B).2.2 = false then (none, (statusR B).1, (statusR B).2.1) else docL B (stD B) (rsD B) (miD B) (B.size + 1) (statusR B).1.toNat []
theorem dig_bd (a : Nat) (ha : a = 10 ∨ a = 11) (x : Int) (h : gonI a x = true) : 48 ≤ x ∧ x ≤ 57 := by
  unfold gonI at h
  rcases ha with rfl | rfl <;> simpa using h
theorem dig_9 (x : Int) (h : gonI 9 x = true) : 49 ≤ x ∧ x ≤ 53 := by
  unfold gonI at h
  simpa using h
theorem dig_7 (x : Int) (h : gonI 7 x = true) : x = 48 ∨ x = 49 := by
  unfold gonI at h
  simpa using h
theorem num_3 (a b c : UInt8) (ha : 49 ≤ (a.toNat : Int) ∧ (a.toNat : Int) ≤ 53) (hb : 48 ≤ (b.toNat : Int) ∧ (b.toNat : Int) ≤ 57) (hc : 48 ≤ (c.toNat : Int) ∧ (c.toNat : Int) ≤ 57) : (numR 10 [a, b, c] 599).1 = 100 * ((a.toNat : Int) - 48) + 10 * ((b.toNat : Int) - 48) + ((c.toNat : Int) - 48) := by
  have va : ∀ c : UInt8, 48 ≤ (c.toNat : Int) ∧ (c.toNat : Int) ≤ 57 → valI (c.toNat : Int) = (c.toNat : Int) - 48 := fun c h => by
    unfold valI
    rw [if_pos ⟨h.1, h.2⟩]
  have ea := va a ⟨by omega, by omega⟩
  have eb := va b hb
  have ec := va c hc
  have en : numOf 10 [a, b, c] = 100 * ((a.toNat : Int) - 48) + 10 * ((b.toNat : Int) - 48) + ((c.toNat : Int) - 48) := by
    unfold numOf
    simp only [List.foldl_cons, List.foldl_nil, ea, eb, ec]
    omega
  unfold numR
  rw [if_neg, if_neg, en]
  · rw [en]; omega
  · simp only [List.isEmpty_cons, List.any_cons, List.any_nil, ea, eb, ec, Bool.or_false, Bool.false_or, Bool.or_eq_true, decide_eq_true_eq]
    omega
theorem out_head (B : ByteArray) (en : Bool) : outH B.size (hRun (newH B.data.toList en) B.data.toList) = docH B := by
  have h0 := out_stA B 13 0 (newH B.data.toList en) rfl (by omega) (Nat.zero_le _) rfl rfl rfl rfl rfl
  rw [List.drop_zero] at h0
  rw [h0]
  show thenS B _ 0 (statusR B) = _
  unfold docH rsD
  have hy := stA_yes B 13 0 rfl (by omega) (Nat.zero_le _)
  have e0 : stA B 13 0 = statusR B := rfl
  rw [e0] at hy
  generalize statusR B = R at *
  obtain ⟨e, z, g⟩ := R
  dsimp only at hy ⊢
  cases g with
  | false => rfl
  | true =>
    obtain ⟨⟨b1, b2, b3⟩, hg⟩ := hy rfl
    rw [if_neg (by simp), then_yes]
    have ed := cut_drop B (newH B.data.toList en) 0 e (by omega) b2
    rw [List.drop_zero, Nat.sub_zero] at ed
    have hsz : ∀ j, j < B.size → B.data.toList.getD j 0 = B.data.toList.getD j 0 := fun _ _ => rfl
    have hE : hEnd (cutS B (newH B.data.toList en) 0 e) = (hStatus (hNew (cutS B (newH B.data.toList en) 0 e)) (B.data.toList.take (e.toNat - 2)), 0) := by
      unfold hEnd
      have : (cutS B (newH B.data.toList en) 0 e).lineAt = 0 := rfl
      rw [this, if_pos rfl, ed]
    rw [hE, if_neg (by simp)]
    have hget : ∀ j, j < 13 → (B.data.toList.take (e.toNat - 2)).getD j 0 = B.data.toList.getD j 0 := fun j hj => by
      rw [List.getD_eq_getElem?_getD, List.getD_eq_getElem?_getD, List.getElem?_take_of_lt (by omega)]
    have h3 : ((B.data.toList.take (e.toNat - 2)).drop 9).take 3 = [B.data.toList.getD 9 0, B.data.toList.getD 10 0, B.data.toList.getD 11 0] := by
      have hl : (B.data.toList.take (e.toNat - 2)).length = e.toNat - 2 := by rw [List.length_take, size_list]; omega
      have q9 := hget 9 (by omega)
      have q10 := hget 10 (by omega)
      have q11 := hget 11 (by omega)
      rw [← q9, ← q10, ← q11]
      generalize B.data.toList.take (e.toNat - 2) = l at *
      refine List.ext_getElem? (fun k => ?_)
      rw [List.getElem?_take, List.getElem?_drop]
      have hlen : 13 ≤ l.length := by omega
      match k with
      | 0 => simp [List.getD_eq_getElem?_getD, List.getElem?_eq_getElem (show 9 < l.length by omega)]
      | 1 => simp [List.getD_eq_getElem?_getD, List.getElem?_eq_getElem (show 10 < l.length by omega)]
      | 2 => simp [List.getD_eq_getElem?_getD, List.getElem?_eq_getElem (show 11 < l.length by omega)]
      | n + 3 => simp; omega
    have hst : (hStatus (hNew (cutS B (newH B.data.toList en) 0 e)) (B.data.toList.take (e.toNat - 2))).st = stD B := by
      unfold hStatus
      dsimp only
      rw [h3, num_3 _ _ _ (dig_9 _ (hg 9 (by omega) (by omega))) (dig_bd 10 (.inl rfl) _ (hg 10 (by omega) (by omega))) (dig_bd 11 (.inr rfl) _ (hg 11 (by omega) (by omega)))]
      rfl
    have hrs : (hStatus (hNew (cutS B (newH B.data.toList en) 0 e)) (B.data.toList.take (e.toNat - 2))).rs = (B.data.toList.drop 13).take (e.toNat - 15) := by
      unfold hStatus
      dsimp only
      rw [List.drop_take]
      congr 1
    have hmi : (hStatus (hNew (cutS B (newH B.data.toList en) 0 e)) (B.data.toList.take (e.toNat - 2))).minor = miD B := by
      unfold hStatus miD byt
      dsimp only
      rw [hget 7 (by omega)]
      have h7 := dig_7 _ (hg 7 (by omega) (by omega))
      unfold byt at h7
      rcases h7 with h | h
      · have : B.data.toList.getD 7 0 = 48 := UInt8.toNat_inj.1 (by show _ = 48; omega)
        rw [this]; rfl
      · have : B.data.toList.getD 7 0 = 49 := UInt8.toNat_inj.1 (by show _ = 49; omega)
        rw [this]; rfl
    exact out_lines B _ _ _ (B.size + 1) e.toNat _ (by omega) (by omega) (by omega) (by omega) rfl rfl rfl rfl hst hrs hmi
end Ms
end Go.Proofs.YtdcfhnbagldilaaGreatDoor
