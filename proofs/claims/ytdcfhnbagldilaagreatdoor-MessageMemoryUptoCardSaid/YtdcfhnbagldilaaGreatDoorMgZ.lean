import Derived.Test.YtdcfhnbagldilaaGreatDoorMgX
import Derived.Test.YtdcfhnbagldilaaGreatDoorMgY
import Derived.Test.YtdcfhnbagldilaaGreatDoorMgR
import Derived.BigQuiet
import Derived.Deep.RegionHeld3
set_option linter.unusedVariables false
set_option linter.unusedSimpArgs false
set_option maxRecDepth 100000
namespace Go.Proofs.YtdcfhnbagldilaaGreatDoor
open Go.RowKit Go.Shelf
namespace Ms
open Oc Tg _root_.Go.Proofs.YtdcfhnbagldilaaGreatDoor.Fd _root_.Go.Proofs.YtdcfhnbagldilaaGreatDoor.Ck
theorem drop_at (s : ByteArray) (i : Nat) (h : i < s.size) : s.data.toList.drop i = s.data.toList.getD i 0 :: s.data.toList.drop (i + 1) := by
  have h2 : i < s.data.toList.length := by rw [size_list]; exact h
  rw [List.drop_eq_getElem_cons h2, List.getD_eq_getElem?_getD, List.getElem?_eq_getElem h2]
  rfl
theorem take_at (s : ByteArray) (a i : Nat) (ha : a ≤ i) (h : i < s.size) : (s.data.toList.drop a).take (i - a) ++ [s.data.toList.getD i 0] = (s.data.toList.drop a).take (i + 1 - a) := by
  have h2 : i < s.data.toList.length := by rw [size_list]; exact h
  have e : i + 1 - a = (i - a) + 1 := by omega
  have h3 : i - a < (s.data.toList.drop a).length := by rw [List.length_drop]; omega
  rw [e, List.take_succ_eq_append_getElem h3, List.getElem_drop, List.getD_eq_getElem?_getD, List.getElem?_eq_getElem h2]
  simp [show a + (i - a) = i by omega]
theorem byt_10 (s : ByteArray) (i : Nat) : (byt s i = 10) ↔ s.data.toList.getD i 0 = 10 := by
  unfold byt
  refine ⟨fun h => UInt8.toNat_inj.1 (by show _ = 10; omega), fun h => by rw [h]; rfl⟩
theorem byt_13 (s : ByteArray) (i : Nat) : (byt s i = 13) ↔ s.data.toList.getD i 0 = 13 := by
  unfold byt
  refine ⟨fun h => UInt8.toNat_inj.1 (by show _ = 13; omega), fun h => by rw [h]; rfl⟩
theorem back_take (s : ByteArray) (a i : Nat) (ha : a ≤ i) (h : i ≤ s.size) : backB ((s.data.toList.drop a).take (i - a)) = lnB s a i := by
  unfold lnB
  rcases Nat.lt_or_ge a i with hlt | hge
  · obtain ⟨j, rfl⟩ : ∃ j, i = j + 1 := ⟨i - 1, by omega⟩
    rw [← take_at s a j (by omega) (by omega), decide_eq_true hlt, Bool.true_and]
    unfold backB
    rw [List.getLast?_append]
    simp only [List.getLast?_singleton, Option.some_or, Option.some.injEq, Nat.add_sub_cancel]
    rw [decide_eq_decide]
    exact (byt_13 s j).symm
  · have e : i - a = 0 := by omega
    rw [e, List.take_zero, decide_eq_false (by omega), Bool.false_and]
    rfl
structure Hd where
  st : Int
  rs : List UInt8
  fs : List Fl
  mi : Int
  kind : Int
  len : Int
  per : Bool
def outH (z : Nat) (R : HS × Int) : Option Hd × Int × Int :=
  if R.2 ≠ 0 then (none, R.1.wrong, R.2) else if R.1.headed = false then (none, (z : Int), 124) else (some ⟨R.1.st, R.1.rs, R.1.fs, R.1.minor, R.1.kind, R.1.len, R.1.per⟩, (R.1.used : Int), 0)
theorem out_no (z : Nat) (s : HS) (e : Int) (he : e ≠ 0) : outH z (s, e) = (none, s.wrong, e) := if_pos he
def cutS (B : ByteArray) (s : HS) (a : Nat) (e : Int) : HS := { s with piece := B.data.toList.drop e.toNat, used := e.toNat, line := (B.data.toList.drop a).take (e.toNat - 1 - a) }
def thenS (B : ByteArray) (s : HS) (a : Nat) (r : Int × Int × Bool) : Option Hd × Int × Int :=
  if r.2.2 = false then (none, r.1, r.2.1) else outH B.size (if (hEnd (cutS B s a r.1)).2 ≠ 0 then hEnd (cutS B s a r.1) else hRun (hEnd (cutS B s a r.1)).1 (B.data.toList.drop r.1.toNat))
theorem then_yes (B : ByteArray) (s : HS) (a : Nat) (e z : Int) : thenS B s a (e, z, true) = outH B.size (if (hEnd (cutS B s a e)).2 ≠ 0 then hEnd (cutS B s a e) else hRun (hEnd (cutS B s a e)).1 (B.data.toList.drop e.toNat)) := if_neg (by simp)
theorem out_line (B : ByteArray) (a : Nat) : ∀ (f i : Nat) (s : HS), B.size - i = f → a ≤ i → i ≤ B.size → s.used = i → s.line = (B.data.toList.drop a).take (i - a) → s.lineAt ≠ 0 → s.headed = false →
    outH B.size (hRun s (B.data.toList.drop i)) = thenS B s a (lnF B a f i)
  | 0, i, s, hf, ha, hi, hu, hl, hla, hh => by
    obtain rfl : i = B.size := by omega
    have e : B.data.toList.drop B.size = [] := List.drop_eq_nil_of_le (by rw [size_list]; exact Nat.le_refl _)
    rw [e]
    show outH B.size (s, 0) = thenS B s a ((B.size : Int), 124, false)
    unfold outH thenS
    rw [if_neg (by simp), if_pos hh, if_pos rfl]
  | f + 1, i, s, hf, ha, hi, hu, hl, hla, hh => by
    have hlt : i < B.size := by omega
    rw [drop_at B i hlt]
    have eR : hRun s (B.data.toList.getD i 0 :: B.data.toList.drop (i + 1)) = if (hTake (hNext s (B.data.toList.drop (i + 1))) (B.data.toList.getD i 0) i).2 ≠ 0 then hTake (hNext s (B.data.toList.drop (i + 1))) (B.data.toList.getD i 0) i else hRun (hTake (hNext s (B.data.toList.drop (i + 1))) (B.data.toList.getD i 0) i).1 (B.data.toList.drop (i + 1)) := by
      show (if s.headed = true then _ else _) = _
      rw [if_neg (by rw [hh]; simp), hu]
    rw [eR]
    have eL : lnF B a (f + 1) i = if i = 65536 then ((i : Int), 125, false) else if lnB B a i ≠ decide (byt B i = 10) then ((i : Int), 122, false) else if lnB B a i = true then ((i : Int) + 1, 0, true) else lnF B a f (i + 1) := rfl
    rw [eL]
    have eb : backB (hNext s (B.data.toList.drop (i + 1))).line = lnB B a i := by
      show backB s.line = _
      rw [hl]
      exact back_take B a i ha hi
    have e10 : decide (B.data.toList.getD i 0 = 10) = decide (byt B i = 10) := by
      rw [decide_eq_decide]
      exact (byt_10 B i).symm
    by_cases h6 : i = 65536
    · have eT : hTake (hNext s (B.data.toList.drop (i + 1))) (B.data.toList.getD i 0) i = ({ hNext s (B.data.toList.drop (i + 1)) with wrong := (i : Int) }, 125) := by
        unfold hTake
        rw [if_pos h6]
      rw [eT, if_pos (by simp), if_pos h6, out_no _ _ _ (by decide)]
      rfl
    rw [if_neg h6]
    by_cases hbk : lnB B a i ≠ decide (byt B i = 10)
    · have eT : hTake (hNext s (B.data.toList.drop (i + 1))) (B.data.toList.getD i 0) i = ({ hNext s (B.data.toList.drop (i + 1)) with wrong := (i : Int) }, 122) := by
        unfold hTake
        rw [if_neg h6, eb, e10, if_pos hbk]
      rw [eT, if_pos (by simp), if_pos hbk, out_no _ _ _ (by decide)]
      rfl
    rw [if_neg hbk]
    have hbk2 : lnB B a i = decide (byt B i = 10) := by simpa using hbk
    by_cases hb : lnB B a i = true
    · rw [if_pos hb]
      have h10 : B.data.toList.getD i 0 = 10 := by
        rw [hb] at hbk2
        exact (byt_10 B i).1 (of_decide_eq_true hbk2.symm)
      have eT : hTake (hNext s (B.data.toList.drop (i + 1))) (B.data.toList.getD i 0) i = hEnd (cutS B s a ((i : Int) + 1)) := by
        unfold hTake
        rw [if_neg h6, eb, e10, if_neg hbk, if_pos h10]
        have : cutS B s a ((i : Int) + 1) = hNext s (B.data.toList.drop (i + 1)) := by
          unfold cutS hNext
          have e1 : ((i : Int) + 1).toNat = i + 1 := by omega
          rw [e1, Nat.add_sub_cancel, ← hl, hu]
        rw [this]
      rw [eT, then_yes]
      have e1 : ((i : Int) + 1).toNat = i + 1 := by omega
      rw [e1]
    · rw [if_neg hb]
      have hb : lnB B a i = false := by simpa using hb
      have h10 : ¬ B.data.toList.getD i 0 = 10 := by
        rw [hb] at hbk2
        exact fun e => by
          have := of_decide_eq_false hbk2.symm
          exact this ((byt_10 B i).2 e)
      have eT : hTake (hNext s (B.data.toList.drop (i + 1))) (B.data.toList.getD i 0) i = ({ s with piece := B.data.toList.drop (i + 1), used := s.used + 1, line := s.line ++ [B.data.toList.getD i 0] }, 0) := by
        unfold hTake
        rw [if_neg h6, eb, e10, if_neg hbk, if_neg h10, if_neg (fun h => hla h.1)]
        rfl
      rw [eT, if_neg (by simp)]
      show outH B.size (hRun { s with piece := B.data.toList.drop (i + 1), used := s.used + 1, line := s.line ++ [B.data.toList.getD i 0] } (B.data.toList.drop (i + 1))) = _
      rw [out_line B a f (i + 1) { s with piece := B.data.toList.drop (i + 1), used := s.used + 1, line := s.line ++ [B.data.toList.getD i 0] } (by omega) (by omega) (by omega) (by show s.used + 1 = i + 1; rw [hu]) (by show s.line ++ _ = _; rw [hl]; exact take_at B a i ha hlt) hla hh]
      rfl
theorem gon_13 (a : Nat) (h : 13 ≤ a) (x : Int) : gonI a x = (x == 13 || (decide (a < 269) && fieldI x)) := by
  unfold gonI
  rw [if_pos h]
theorem gon_10 : ∀ a, a < 13 → gonI a 10 = false := by decide
theorem one_st (B : ByteArray) (i : Nat) (s : HS) (hi : i < B.size) (hu : s.used = i) (hl : s.line = B.data.toList.take i) (hla : s.lineAt = 0) (hh : s.headed = false) (h6 : i < 65536) (hb : backB s.line = false) :
    (byt B i ≠ 10 → gonI i (byt B i) = true → hRun s (B.data.toList.drop i) = hRun { s with piece := B.data.toList.drop (i + 1), used := i + 1, line := B.data.toList.take (i + 1) } (B.data.toList.drop (i + 1))) ∧
    ((byt B i = 10 ∨ gonI i (byt B i) = false) → outH B.size (hRun s (B.data.toList.drop i)) = (none, (i : Int), 122)) := by
  have et : B.data.toList.take i ++ [B.data.toList.getD i 0] = B.data.toList.take (i + 1) := by
    have := take_at B 0 i (Nat.zero_le _) hi
    simpa using this
  have eR : hRun s (B.data.toList.drop i) = if (hTake (hNext s (B.data.toList.drop (i + 1))) (B.data.toList.getD i 0) i).2 ≠ 0 then hTake (hNext s (B.data.toList.drop (i + 1))) (B.data.toList.getD i 0) i else hRun (hTake (hNext s (B.data.toList.drop (i + 1))) (B.data.toList.getD i 0) i).1 (B.data.toList.drop (i + 1)) := by
    rw [drop_at B i hi]
    show (if s.headed = true then _ else _) = _
    rw [if_neg (by rw [hh]; simp), hu]
  have eb : backB (hNext s (B.data.toList.drop (i + 1))).line = false := hb
  constructor
  · intro h10 hg
    have h10' : ¬ B.data.toList.getD i 0 = 10 := fun e => h10 ((byt_10 B i).2 e)
    have eT : hTake (hNext s (B.data.toList.drop (i + 1))) (B.data.toList.getD i 0) i = ({ s with piece := B.data.toList.drop (i + 1), used := i + 1, line := B.data.toList.take (i + 1) }, 0) := by
      unfold hTake
      rw [if_neg (by omega), eb, decide_eq_false h10', if_neg (by simp), if_neg h10', if_neg]
      · unfold hNext
        rw [← et, ← hl, ← hu]
      · rintro ⟨_, h2⟩
        have : gonI i (byt B i) = false := h2
        rw [hg] at this
        cases this
    rw [eR, eT, if_neg (by simp)]
  · intro h
    have eT : hTake (hNext s (B.data.toList.drop (i + 1))) (B.data.toList.getD i 0) i = ({ hNext s (B.data.toList.drop (i + 1)) with wrong := (i : Int) }, 122) := by
      unfold hTake
      rw [if_neg (by omega), eb]
      by_cases h10 : B.data.toList.getD i 0 = 10
      · rw [if_pos (by rw [decide_eq_true h10]; simp)]
      · rw [decide_eq_false h10, if_neg (by simp), if_neg h10, if_pos]
        refine ⟨hla, ?_⟩
        rcases h with h | h
        · exact absurd ((byt_10 B i).1 h) h10
        · exact h
    rw [eR, eT, if_pos (by simp), out_no _ _ _ (by decide)]
theorem back_st (B : ByteArray) (i : Nat) (hi : i < B.size) : backB (B.data.toList.take (i + 1)) = decide (byt B i = 13) := by
  have := back_take B 0 (i + 1) (Nat.zero_le _) (by omega)
  simp only [List.drop_zero, Nat.sub_zero] at this
  rw [this]
  unfold lnB
  rw [decide_eq_true (Nat.succ_pos i), Bool.true_and, Nat.add_sub_cancel]
theorem out_stB (B : ByteArray) : ∀ (f i : Nat) (s : HS), B.size - i = f → 13 ≤ i → i ≤ 269 → i ≤ B.size → s.used = i → s.line = B.data.toList.take i → s.lineAt = 0 → s.headed = false → backB s.line = false →
    outH B.size (hRun s (B.data.toList.drop i)) = thenS B s 0 (stB B f i)
  | 0, i, s, hf, ha, h2, hi, hu, hl, hla, hh, hb => by
    obtain rfl : i = B.size := by omega
    have e : B.data.toList.drop B.size = [] := List.drop_eq_nil_of_le (by rw [size_list]; exact Nat.le_refl _)
    rw [e]
    show outH B.size (s, 0) = thenS B s 0 ((B.size : Int), 124, false)
    unfold outH thenS
    rw [if_neg (by simp), if_pos hh, if_pos rfl]
  | f + 1, i, s, hf, ha, h2, hi, hu, hl, hla, hh, hb => by
    have hlt : i < B.size := by omega
    obtain ⟨k1, k2⟩ := one_st B i s hlt hu hl hla hh (by omega) hb
    have eS : stB B (f + 1) i = if byt B i = 13 then (if i + 1 = B.size then ((i : Int) + 1, 124, false) else if byt B (i + 1) = 10 then ((i : Int) + 2, 0, true) else ((i : Int) + 1, 122, false)) else if i = 269 ∨ fieldI (byt B i) = false then ((i : Int), 122, false) else stB B f (i + 1) := rfl
    rw [eS]
    by_cases h13 : byt B i = 13
    · rw [if_pos h13, k1 (by rw [h13]; decide) (by rw [gon_13 i ha, h13]; rfl)]
      by_cases hz : i + 1 = B.size
      · rw [if_pos hz]
        have e : B.data.toList.drop (i + 1) = [] := List.drop_eq_nil_of_le (by rw [size_list]; omega)
        rw [e]
        show outH B.size (_, 0) = _
        unfold outH thenS
        rw [if_neg (by simp), if_pos hh, if_pos rfl]
        have : (B.size : Int) = (i : Int) + 1 := by omega
        rw [this]
      · rw [if_neg hz, drop_at B (i + 1) (by omega)]
        have hb1 := back_st B i hlt
        rw [decide_eq_true h13] at hb1
        have eR : hRun { s with piece := B.data.toList.getD (i + 1) 0 :: B.data.toList.drop (i + 1 + 1), used := i + 1, line := B.data.toList.take (i + 1) } (B.data.toList.getD (i + 1) 0 :: B.data.toList.drop (i + 1 + 1)) = if (hTake { s with piece := B.data.toList.drop (i + 2), used := i + 2, line := B.data.toList.take (i + 1) } (B.data.toList.getD (i + 1) 0) (i + 1)).2 ≠ 0 then hTake { s with piece := B.data.toList.drop (i + 2), used := i + 2, line := B.data.toList.take (i + 1) } (B.data.toList.getD (i + 1) 0) (i + 1) else hRun (hTake { s with piece := B.data.toList.drop (i + 2), used := i + 2, line := B.data.toList.take (i + 1) } (B.data.toList.getD (i + 1) 0) (i + 1)).1 (B.data.toList.drop (i + 2)) := by
          show (if s.headed = true then _ else _) = _
          rw [if_neg (by rw [hh]; simp)]
          rfl
        rw [eR]
        by_cases h10 : byt B (i + 1) = 10
        · rw [if_pos h10]
          have eT : hTake { s with piece := B.data.toList.drop (i + 2), used := i + 2, line := B.data.toList.take (i + 1) } (B.data.toList.getD (i + 1) 0) (i + 1) = hEnd (cutS B s 0 ((i : Int) + 2)) := by
            unfold hTake
            dsimp only
            rw [if_neg (by omega), hb1, decide_eq_true ((byt_10 B _).1 h10), if_neg (by simp), if_pos ((byt_10 B _).1 h10)]
            unfold cutS
            have e1 : ((i : Int) + 2).toNat = i + 2 := by omega
            rw [e1]
            rfl
          rw [eT, then_yes]
          have e1 : ((i : Int) + 2).toNat = i + 2 := by omega
          rw [e1]
        · rw [if_neg h10]
          have eT : hTake { s with piece := B.data.toList.drop (i + 2), used := i + 2, line := B.data.toList.take (i + 1) } (B.data.toList.getD (i + 1) 0) (i + 1) = ({ s with piece := B.data.toList.drop (i + 2), used := i + 2, line := B.data.toList.take (i + 1), wrong := ((i + 1 : Nat) : Int) }, 122) := by
            unfold hTake
            dsimp only
            rw [if_neg (by omega), hb1, decide_eq_false (fun e => h10 ((byt_10 B _).2 e)), if_pos (by simp)]
          rw [eT, if_pos (by simp), out_no _ _ _ (by decide)]
          rfl
    · rw [if_neg h13]
      by_cases hs : i = 269 ∨ fieldI (byt B i) = false
      · rw [if_pos hs, k2]
        · rfl
        · right
          rw [gon_13 i ha]
          rcases hs with h | h
          · rw [decide_eq_false (show ¬ i < 269 by omega)]; simp [h13]
          · rw [h]; simp [h13]
      · rw [if_neg hs]
        have h269 : i ≠ 269 := fun h => hs (.inl h)
        have hfd : fieldI (byt B i) = true := by
          cases h : fieldI (byt B i) with
          | true => rfl
          | false => exact absurd (.inr h) hs
        have hn10 : byt B i ≠ 10 := fun e => by rw [e] at hfd; revert hfd; decide
        rw [k1 hn10 (by rw [gon_13 i ha, hfd, decide_eq_true (show i < 269 by omega)]; simp)]
        rw [out_stB B f (i + 1) { s with piece := B.data.toList.drop (i + 1), used := i + 1, line := B.data.toList.take (i + 1) } (by omega) (by omega) (by omega) (by omega) rfl rfl hla hh (by show backB (B.data.toList.take (i + 1)) = false; rw [back_st B i hlt, decide_eq_false h13])]
        rfl
theorem out_stA (B : ByteArray) : ∀ (f i : Nat) (s : HS), 13 - i = f → i ≤ 13 → i ≤ B.size → s.used = i → s.line = B.data.toList.take i → s.lineAt = 0 → s.headed = false → backB s.line = false →
    outH B.size (hRun s (B.data.toList.drop i)) = thenS B s 0 (stA B f i)
  | 0, i, s, hf, h13, hi, hu, hl, hla, hh, hb => by
    obtain rfl : i = 13 := by omega
    exact out_stB B (B.size - 13) 13 s rfl (by omega) (by omega) hi hu hl hla hh hb
  | f + 1, i, s, hf, h13, hi, hu, hl, hla, hh, hb => by
    have eS : stA B (f + 1) i = if i = B.size then ((i : Int), 124, false) else if gonI i (byt B i) = false then ((i : Int), 122, false) else stA B f (i + 1) := rfl
    rw [eS]
    by_cases hz : i = B.size
    · rw [if_pos hz]
      have e : B.data.toList.drop i = [] := List.drop_eq_nil_of_le (by rw [size_list]; omega)
      rw [e]
      show outH B.size (s, 0) = _
      unfold outH thenS
      rw [if_neg (by simp), if_pos hh, if_pos rfl, hz]
    · have hlt : i < B.size := by omega
      obtain ⟨k1, k2⟩ := one_st B i s hlt hu hl hla hh (by omega) hb
      rw [if_neg hz]
      by_cases hg : gonI i (byt B i) = false
      · rw [if_pos hg, k2 (.inr hg)]
        rfl
      · rw [if_neg hg]
        have hg : gonI i (byt B i) = true := by simpa using hg
        have hn10 : byt B i ≠ 10 := fun e => by rw [e, gon_10 i (by omega)] at hg; cases hg
        have hn13 : byt B i ≠ 13 := fun e => by rw [e, gon_back i (by omega)] at hg; cases hg
        rw [k1 hn10 hg]
        rw [out_stA B f (i + 1) { s with piece := B.data.toList.drop (i + 1), used := i + 1, line := B.data.toList.take (i + 1) } (by omega) (by omega) (by omega) rfl rfl hla hh (by show backB (B.data.toList.take (i + 1)) = false; rw [back_st B i hlt, decide_eq_false hn13])]
        rfl
end Ms
end Go.Proofs.YtdcfhnbagldilaaGreatDoor
set_option linter.unusedVariables false
set_option linter.unusedSimpArgs false
set_option maxRecDepth 100000
namespace Go.Proofs.YtdcfhnbagldilaaGreatDoor
open Go.RowKit Go.Shelf
namespace Ms
open Oc Tg _root_.Go.Proofs.YtdcfhnbagldilaaGreatDoor.Fd _root_.Go.Proofs.YtdcfhnbagldilaaGreatDoor.Ck
theorem lnF_bd (B : ByteArray) (a : Nat) : ∀ (f i : Nat), B.size - i = f → a ≤ i → i ≤ 65536 → (lnF B a f i).2.2 = true → (a : Int) + 2 ≤ (lnF B a f i).1 ∧ (lnF B a f i).1 ≤ (B.size : Int) ∧ (lnF B a f i).1 ≤ 65536
  | 0, i, _, _, _, h => by cases (show false = true from h)
  | f + 1, i, hf, ha, hi, h => by
    have eL : lnF B a (f + 1) i = if i = 65536 then ((i : Int), 125, false) else if lnB B a i ≠ decide (byt B i = 10) then ((i : Int), 122, false) else if lnB B a i = true then ((i : Int) + 1, 0, true) else lnF B a f (i + 1) := rfl
    rw [eL] at h ⊢
    by_cases h6 : i = 65536
    · rw [if_pos h6] at h; cases h
    rw [if_neg h6] at h ⊢
    by_cases hb : lnB B a i ≠ decide (byt B i = 10)
    · rw [if_pos hb] at h; cases h
    rw [if_neg hb] at h ⊢
    by_cases hc : lnB B a i = true
    · rw [if_pos hc]
      have : a < i := by
        unfold lnB at hc
        simp only [Bool.and_eq_true, decide_eq_true_eq] at hc
        exact hc.1
      refine ⟨?_, ?_, ?_⟩ <;> dsimp only <;> omega
    · rw [if_neg hc] at h ⊢
      exact lnF_bd B a f (i + 1) (by omega) (by omega) (by omega) h
theorem line_bd (B : ByteArray) (a : Nat) (ha : a ≤ 65536) (h : (lineR B a).2.2 = true) : (a : Int) + 2 ≤ (lineR B a).1 ∧ (lineR B a).1 ≤ (B.size : Int) ∧ (lineR B a).1 ≤ 65536 := lnF_bd B a _ a rfl (Nat.le_refl _) ha h
def lnT (B : ByteArray) (a : Nat) : List UInt8 := (B.data.toList.drop a).take ((lineR B a).1.toNat - 2 - a)
def docL (B : ByteArray) (st : Int) (rs : List UInt8) (mi : Int) : Nat → Nat → List Fl → Option Hd × Int × Int
  | 0, a, fs => (none, 0, 0)
  | f + 1, a, fs =>
    if (lineR B a).2.2 = false then (none, (lineR B a).1, (lineR B a).2.1)
    else if lnT B a = [] then
      if (framingF fs (mi == 0)).2.2 ≠ 0 then (none, (a : Int), (framingF fs (mi == 0)).2.2)
      else (some ⟨st, rs, fs, mi, (framingF fs (mi == 0)).1, (framingF fs (mi == 0)).2.1, persistF fs (mi == 0)⟩, (lineR B a).1, 0)
    else if fs.length = 100 then (none, (a : Int), 65)
    else if (parseL (lnT B a)).2.2 ≠ 0 then (none, (a : Int) + ((parseL (lnT B a)).2.1 : Int), (parseL (lnT B a)).2.2)
    else docL B st rs mi f (lineR B a).1.toNat (fs ++ [(parseL (lnT B a)).1])
theorem docL_on (B : ByteArray) (st : Int) (rs : List UInt8) (mi : Int) (f a : Nat) (fs : List Fl) : docL B st rs mi (f + 1) a fs =
    if (lineR B a).2.2 = false then (none, (lineR B a).1, (lineR B a).2.1)
    else if lnT B a = [] then
      if (framingF fs (mi == 0)).2.2 ≠ 0 then (none, (a : Int), (framingF fs (mi == 0)).2.2)
      else (some ⟨st, rs, fs, mi, (framingF fs (mi == 0)).1, (framingF fs (mi == 0)).2.1, persistF fs (mi == 0)⟩, (lineR B a).1, 0)
    else if fs.length = 100 then (none, (a : Int), 65)
    else if (parseL (lnT B a)).2.2 ≠ 0 then (none, (a : Int) + ((parseL (lnT B a)).2.1 : Int), (parseL (lnT B a)).2.2)
    else docL B st rs mi f (lineR B a).1.toNat (fs ++ [(parseL (lnT B a)).1]) := rfl
theorem run_headed (s : HS) (h : s.headed = true) : ∀ l, hRun s l = (s, 0)
  | [] => rfl
  | u :: t => by
    show (if s.headed = true then _ else _) = _
    rw [if_pos h]
theorem cut_drop (B : ByteArray) (s : HS) (a : Nat) (e : Int) (h1 : (a : Int) + 2 ≤ e) (h2 : e ≤ (B.size : Int)) : (cutS B s a e).line.dropLast = (B.data.toList.drop a).take (e.toNat - 2 - a) := by
  unfold cutS
  dsimp only
  rw [List.dropLast_take (by rw [List.length_drop, size_list]; omega)]
  congr 1
  omega
theorem out_lines (B : ByteArray) (st : Int) (rs : List UInt8) (mi : Int) : ∀ (f a : Nat) (s : HS), B.size < a + f → a ≤ B.size → a ≤ 65536 → a ≠ 0 → s.used = a → s.line = [] → s.lineAt = a → s.headed = false → s.st = st → s.rs = rs → s.minor = mi →
    outH B.size (hRun s (B.data.toList.drop a)) = docL B st rs mi f a s.fs
  | 0, a, s, h0, h1, _, _, _, _, _, _, _, _, _ => by omega
  | f + 1, a, s, h0, h1, h6, hz, hu, hl, hla, hh, hst, hrs, hmi => by
    rw [docL_on, out_line B a (B.size - a) a s rfl (Nat.le_refl _) h1 hu (by rw [hl, Nat.sub_self, List.take_zero]) (by omega) hh]
    show thenS B s a (lineR B a) = _
    have hbd := line_bd B a h6
    have eT : lnT B a = (B.data.toList.drop a).take ((lineR B a).1.toNat - 2 - a) := rfl
    generalize lineR B a = R at *
    obtain ⟨e, z, g⟩ := R
    dsimp only at hbd eT ⊢
    cases g with
    | false => rfl
    | true =>
      obtain ⟨b1, b2, b3⟩ := hbd rfl
      rw [if_neg (by simp), then_yes]
      have ed := cut_drop B s a e b1 b2
      rw [← eT] at ed
      have hE : hEnd (cutS B s a e) = if lnT B a = [] then hHead (hNew (cutS B s a e)) a else hField (hNew (cutS B s a e)) (lnT B a) a := by
        unfold hEnd
        rw [ed]
        have : (cutS B s a e).lineAt = a := hla
        rw [this, if_neg hz]
      rw [hE]
      by_cases ht : lnT B a = []
      · rw [if_pos ht, if_pos ht]
        unfold hHead
        have ef : (hNew (cutS B s a e)).fs = s.fs := rfl
        have em : (hNew (cutS B s a e)).minor = mi := hmi
        rw [ef, em]
        by_cases hf : (framingF s.fs (mi == 0)).2.2 ≠ 0
        · rw [if_pos hf, if_pos hf, if_pos hf, out_no _ _ _ hf]
        · rw [if_neg hf, if_neg hf, if_neg (by simp), run_headed _ rfl]
          unfold outH
          rw [if_neg (by simp), if_neg (by simp)]
          show (some ({ st := s.st, rs := s.rs, fs := s.fs, mi := mi, kind := _, len := _, per := _ } : Hd), ((e.toNat : Nat) : Int), (0 : Int)) = _
          rw [hst, hrs, show ((e.toNat : Nat) : Int) = e by omega]
      · rw [if_neg ht, if_neg ht]
        unfold hField
        have ef : (hNew (cutS B s a e)).fs = s.fs := rfl
        rw [ef]
        by_cases hc : s.fs.length = 100
        · rw [if_pos hc, if_pos hc, if_pos (by simp), out_no _ _ _ (by decide)]
        · rw [if_neg hc, if_neg hc]
          by_cases hp : (parseL (lnT B a)).2.2 ≠ 0
          · rw [if_pos hp, if_pos hp, if_pos hp, out_no _ _ _ hp]
          · rw [if_neg hp, if_neg hp, if_neg (by simp)]
            have hd : B.data.toList.drop e.toNat = B.data.toList.drop e.toNat := rfl
            exact out_lines B st rs mi f e.toNat { hNew (cutS B s a e) with fs := s.fs ++ [(parseL (lnT B a)).1] } (by omega) (by omega) (by omega) (by omega) rfl rfl rfl hh hst hrs hmi
theorem stB_yes (B : ByteArray) : ∀ (f i : Nat), B.size - i = f → 13 ≤ i → i ≤ 269 → (stB B f i).2.2 = true → (15 : Int) ≤ (stB B f i).1 ∧ (stB B f i).1 ≤ (B.size : Int) ∧ (stB B f i).1 ≤ 271
  | 0, i, _, _, _, h => by cases (show false = true from h)
  | f + 1, i, hf, h13, h269, h => by
    have eS : stB B (f + 1) i = if byt B i = 13 then (if i + 1 = B.size then ((i : Int) + 1, 124, false) else if byt B (i + 1) = 10 then ((i : Int) + 2, 0, true) else ((i : Int) + 1, 122, false)) else if i = 269 ∨ fieldI (byt B i) = false then ((i : Int), 122, false) else stB B f (i + 1) := rfl
    rw [eS] at h ⊢
    by_cases hr : byt B i = 13
    · rw [if_pos hr] at h ⊢
      by_cases hz : i + 1 = B.size
      · rw [if_pos hz] at h; cases h
      rw [if_neg hz] at h ⊢
      by_cases h10 : byt B (i + 1) = 10
      · rw [if_pos h10]
        refine ⟨?_, ?_, ?_⟩ <;> dsimp only <;> omega
      · rw [if_neg h10] at h; cases h
    · rw [if_neg hr] at h ⊢
      by_cases hs : i = 269 ∨ fieldI (byt B i) = false
      · rw [if_pos hs] at h; cases h
      · rw [if_neg hs] at h ⊢
        exact stB_yes B f (i + 1) (by omega) (by omega) (by have : i ≠ 269 := fun e => hs (.inl e); omega) h
theorem stA_yes (B : ByteArray) : ∀ (f i : Nat), 13 - i = f → i ≤ 13 → i ≤ B.size → (stA B f i).2.2 = true → ((15 : Int) ≤ (stA B f i).1 ∧ (stA B f i).1 ≤ (B.size : Int) ∧ (stA B f i).1 ≤ 271) ∧ ∀ j, i ≤ j → j < 13 → gonI j (byt B j) = true
  | 0, i, hf, h13, hi, h => by
    obtain rfl : i = 13 := by omega
    exact ⟨stB_yes B _ 13 rfl (Nat.le_refl _) (by omega) h, fun j h1 h2 => by omega⟩
  | f + 1, i, hf, h13, hi, h => by
    have eS : stA B (f + 1) i = if i = B.size then ((i : Int), 124, false) else if gonI i (byt B i) = false then ((i : Int), 122, false) else stA B f (i + 1) := rfl
    rw [eS] at h ⊢
    by_cases hz : i = B.size
    · rw [if_pos hz] at h; cases h
    rw [if_neg hz] at h ⊢
    by_cases hg : gonI i (byt B i) = false
    · rw [if_pos hg] at h; cases h
    rw [if_neg hg] at h ⊢
    obtain ⟨k1, k2⟩ := stA_yes B f (i + 1) (by omega) (by omega) (by omega) h
    refine ⟨k1, fun j h1 h2 => ?_⟩
    rcases Nat.lt_or_ge i j with hlt | hge
    · exact k2 j hlt h2
    · obtain rfl : j = i := by omega
      simpa using hg
def stD (B : ByteArray) : Int := 100 * (byt B 9 - 48) + 10 * (byt B 10 - 48) + (byt B 11 - 48)
def rsD (B : ByteArray) : List UInt8 := (B.data.toList.drop 13).take ((statusR B).1.toNat - 15)
def miD (B : ByteArray) : Int := byt B 7 - 48
def docH (B : ByteArray) : Option Hd × Int × Int := if (statusR B).2.2 = false then (none, (statusR B).1, (statusR B).2.1) else docL B (stD B) (rsD B) (miD B) (B.size + 1) (statusR B).1.toNat []
theorem dig_bd (a : Nat) (ha : a = 10 ∨ a = 11) (x : Int) (h : gonI a x = true) : 48 ≤ x ∧ x ≤ 57 := by
  unfold gonI at h
  rcases ha with rfl | rfl <;> simpa using h
theorem dig_9 (x : Int) (h : gonI 9 x = true) : 49 ≤ x ∧ x ≤ 53 := by
  unfold gonI at h
  simpa using h
theorem dig_7 (x : Int) (h : gonI 7 x = true) : x = 48 ∨ x = 49 := by
  unfold gonI at h
  simpa using h
theorem num_3 (a b c : UInt8) (ha : 49 ≤ (a.toNat : Int) ∧ (a.toNat : Int) ≤ 53) (hb : 48 ≤ (b.toNat : Int) ∧ (b.toNat : Int) ≤ 57) (hc : 48 ≤ (c.toNat : Int) ∧ (c.toNat : Int) ≤ 57) : (numR 10 [a, b, c] 599).1 = 100 * ((a.toNat : Int) - 48) + 10 * ((b.toNat : Int) - 48) + ((c.toNat : Int) - 48) := by
  have va : ∀ c : UInt8, 48 ≤ (c.toNat : Int) ∧ (c.toNat : Int) ≤ 57 → valI (c.toNat : Int) = (c.toNat : Int) - 48 := fun c h => by
    unfold valI
    rw [if_pos ⟨h.1, h.2⟩]
  have ea := va a ⟨by omega, by omega⟩
  have eb := va b hb
  have ec := va c hc
  have en : numOf 10 [a, b, c] = 100 * ((a.toNat : Int) - 48) + 10 * ((b.toNat : Int) - 48) + ((c.toNat : Int) - 48) := by
    unfold numOf
    simp only [List.foldl_cons, List.foldl_nil, ea, eb, ec]
    omega
  unfold numR
  rw [if_neg, if_neg, en]
  · rw [en]; omega
  · simp only [List.isEmpty_cons, List.any_cons, List.any_nil, ea, eb, ec, Bool.or_false, Bool.false_or, Bool.or_eq_true, decide_eq_true_eq]
    omega
theorem out_head (B : ByteArray) (en : Bool) : outH B.size (hRun (newH B.data.toList en) B.data.toList) = docH B := by
  have h0 := out_stA B 13 0 (newH B.data.toList en) rfl (by omega) (Nat.zero_le _) rfl rfl rfl rfl rfl
  rw [List.drop_zero] at h0
  rw [h0]
  show thenS B _ 0 (statusR B) = _
  unfold docH rsD
  have hy := stA_yes B 13 0 rfl (by omega) (Nat.zero_le _)
  have e0 : stA B 13 0 = statusR B := rfl
  rw [e0] at hy
  generalize statusR B = R at *
  obtain ⟨e, z, g⟩ := R
  dsimp only at hy ⊢
  cases g with
  | false => rfl
  | true =>
    obtain ⟨⟨b1, b2, b3⟩, hg⟩ := hy rfl
    rw [if_neg (by simp), then_yes]
    have ed := cut_drop B (newH B.data.toList en) 0 e (by omega) b2
    rw [List.drop_zero, Nat.sub_zero] at ed
    have hsz : ∀ j, j < B.size → B.data.toList.getD j 0 = B.data.toList.getD j 0 := fun _ _ => rfl
    have hE : hEnd (cutS B (newH B.data.toList en) 0 e) = (hStatus (hNew (cutS B (newH B.data.toList en) 0 e)) (B.data.toList.take (e.toNat - 2)), 0) := by
      unfold hEnd
      have : (cutS B (newH B.data.toList en) 0 e).lineAt = 0 := rfl
      rw [this, if_pos rfl, ed]
    rw [hE, if_neg (by simp)]
    have hget : ∀ j, j < 13 → (B.data.toList.take (e.toNat - 2)).getD j 0 = B.data.toList.getD j 0 := fun j hj => by
      rw [List.getD_eq_getElem?_getD, List.getD_eq_getElem?_getD, List.getElem?_take_of_lt (by omega)]
    have h3 : ((B.data.toList.take (e.toNat - 2)).drop 9).take 3 = [B.data.toList.getD 9 0, B.data.toList.getD 10 0, B.data.toList.getD 11 0] := by
      have hl : (B.data.toList.take (e.toNat - 2)).length = e.toNat - 2 := by rw [List.length_take, size_list]; omega
      have q9 := hget 9 (by omega)
      have q10 := hget 10 (by omega)
      have q11 := hget 11 (by omega)
      rw [← q9, ← q10, ← q11]
      generalize B.data.toList.take (e.toNat - 2) = l at *
      refine List.ext_getElem? (fun k => ?_)
      rw [List.getElem?_take, List.getElem?_drop]
      have hlen : 13 ≤ l.length := by omega
      match k with
      | 0 => simp [List.getD_eq_getElem?_getD, List.getElem?_eq_getElem (show 9 < l.length by omega)]
      | 1 => simp [List.getD_eq_getElem?_getD, List.getElem?_eq_getElem (show 10 < l.length by omega)]
      | 2 => simp [List.getD_eq_getElem?_getD, List.getElem?_eq_getElem (show 11 < l.length by omega)]
      | n + 3 => simp; omega
    have hst : (hStatus (hNew (cutS B (newH B.data.toList en) 0 e)) (B.data.toList.take (e.toNat - 2))).st = stD B := by
      unfold hStatus
      dsimp only
      rw [h3, num_3 _ _ _ (dig_9 _ (hg 9 (by omega) (by omega))) (dig_bd 10 (.inl rfl) _ (hg 10 (by omega) (by omega))) (dig_bd 11 (.inr rfl) _ (hg 11 (by omega) (by omega)))]
      rfl
    have hrs : (hStatus (hNew (cutS B (newH B.data.toList en) 0 e)) (B.data.toList.take (e.toNat - 2))).rs = (B.data.toList.drop 13).take (e.toNat - 15) := by
      unfold hStatus
      dsimp only
      rw [List.drop_take]
      congr 1
    have hmi : (hStatus (hNew (cutS B (newH B.data.toList en) 0 e)) (B.data.toList.take (e.toNat - 2))).minor = miD B := by
      unfold hStatus miD byt
      dsimp only
      rw [hget 7 (by omega)]
      have h7 := dig_7 _ (hg 7 (by omega) (by omega))
      unfold byt at h7
      rcases h7 with h | h
      · have : B.data.toList.getD 7 0 = 48 := UInt8.toNat_inj.1 (by show _ = 48; omega)
        rw [this]; rfl
      · have : B.data.toList.getD 7 0 = 49 := UInt8.toNat_inj.1 (by show _ = 49; omega)
        rw [this]; rfl
    exact out_lines B _ _ _ (B.size + 1) e.toNat _ (by omega) (by omega) (by omega) (by omega) rfl rfl rfl rfl hst hrs hmi
end Ms
end Go.Proofs.YtdcfhnbagldilaaGreatDoor
set_option linter.unusedVariables false
set_option linter.unusedSimpArgs false
set_option maxRecDepth 100000
namespace Go.Proofs.YtdcfhnbagldilaaGreatDoor
open Go.RowKit Go.Shelf
namespace Ms
open Oc Tg _root_.Go.Proofs.YtdcfhnbagldilaaGreatDoor.Fd _root_.Go.Proofs.YtdcfhnbagldilaaGreatDoor.Ck
def cErr (e : Int) : Int := if e = 102 then 125 else e
set_option maxHeartbeats 400000 in
theorem chunkErr_any (e : Int) (w : World) : Calls Tryz.prog 74 #[.int .i64 e] w fun x w' => x = .returned (.int .i64 (cErr e)) ∧ w' = w := by
  by_cases h : e = 102
  · subst h
    go_enter Tryz.func74, Tryz.ntmps74
    go_wp2
    go_ret
    exact ⟨rfl, rfl⟩
  · have h' : (e == 102) = false := by simp [h]
    have HQ : Hid (cErr e = e) := (by unfold cErr; rw [if_neg h] : _ = _)
    clear h
    go_enter Tryz.func74, Tryz.ntmps74
    go_wp2
    go_ret
    exact ⟨by rw [HQ.out]; rfl, rfl⟩
def lcC (s : HS) (bd : List UInt8) (vl vb vf pc vt : Value) (ex : List Value) : List Value :=
  .string (str s.piece) :: .bool s.ended :: .int .i64 (s.used : Int) :: .int .i64 s.wrong :: vl :: .int .i64 (s.lineAt : Int) :: .bool s.headed :: vb :: pc :: .int .i64 s.st :: .string (str s.rs) :: vf :: .string (str bd) :: .int .i64 s.minor :: vt :: .int .i64 s.kind :: .int .i64 s.len :: .bool s.per :: ex
def chkR (s : HS) (m : Nat) : BR × List Fl :=
  if (eat (new (m : Int) 65536 100) s.piece).2.err ≠ 0 then (⟨false, cErr (eat (new (m : Int) 65536 100) s.piece).2.err, { bNext s (eat (new (m : Int) 65536 100) s.piece).1 with wrong := (s.used : Int) + (eat (new (m : Int) 65536 100) s.piece).1 - 1 }, [], []⟩, [])
  else if (eat (new (m : Int) 65536 100) s.piece).2.done = true then (⟨true, 0, bNext s (eat (new (m : Int) 65536 100) s.piece).1, [], (eat (new (m : Int) 65536 100) s.piece).2.body⟩, (eat (new (m : Int) 65536 100) s.piece).2.tr)
  else (⟨false, 0, bNext s (eat (new (m : Int) 65536 100) s.piece).1, [], []⟩, [])
structure IsC (T : Nat) (ex : List Value) (w : World) (D : Nat) (s : HS) (bd : List UInt8) (tr : List Fl) (B : Nat) (vf vt : Value) : Prop where
  str : ∃ vl vb pc, Blk T w D (lcC s bd vl vb vf pc vt ex)
  fs : OwnF 47 0 vf s.fs w
  tr : OwnF 47 B vt tr w
theorem own_upF {w : World} {T S n B B' : Nat} {v : Value} {xs : List Value} (h : w.ownsRow B T S v n xs) (hb : B' ≤ B) : w.ownsRow B' T S v n xs := by
  refine ⟨h.1, ?_⟩
  rcases h.2 with hn | ⟨g, cap, cur, e, hg, rest⟩
  · exact .inl hn
  · exact .inr ⟨g, cap, cur, e, Nat.le_trans hb hg, rest⟩
set_option maxHeartbeats 8000000 in
theorem readChunks_any {T : Nat} (hT : TOk T) (hTD : T ≠ 146) {ex : List Value} {w0 w : World} {D : Nat} {s : HS} {vl vb vf : Value} (hE : Env w0) (hB0 : Below w0.heap.size w0 w) (hD0 : w0.heap.size ≤ D) (H : IsB T ex w D s [] [] vl vb vf) (m : Nat) (hm : m ≤ 9223372036854775807) (hp : s.piece.length ≤ 2147483647) (hu : s.used ≤ 4000000000) :
    Calls Tryz.prog 37 #[.pointer (some ⟨D, 0, none⟩), .int .i64 (m : Int)] w fun e w' => e = .returned (.tuple #[.bool (chkR s m).1.done, .int .i64 (chkR s m).1.err]) ∧ (∃ vt, IsC T ex w' D (chkR s m).1.s (chkR s m).1.bd (chkR s m).2 w.heap.size vf vt) ∧ But [D] w w' := by
  have hok := Ok.new (m : Int) 65536 100 ⟨by omega, by omega⟩ ⟨by omega, by omega⟩ ⟨by omega, by omega⟩
  have hoke := eat_ok s.piece _ 0 hok
  have hel := eat_le s.piece (new (m : Int) 65536 100)
  have HOK : Hid (Ok (new (m : Int) 65536 100) 0) := hok
  have hfn : feedN (new (m : Int) 65536 100) s.piece = ((eat (new (m : Int) 65536 100) s.piece).1 : Int) := by unfold feedN; rw [if_neg (by show ¬ (0 : Nat) = 5; decide)]
  have hfe : feedE (new (m : Int) 65536 100) s.piece = (eat (new (m : Int) 65536 100) s.piece).2.err := by unfold feedE; rw [if_neg (by show ¬ (0 : Nat) = 5; decide)]
  have hfs : feedS (new (m : Int) 65536 100) s.piece = { (eat (new (m : Int) 65536 100) s.piece).2 with total := (eat (new (m : Int) 65536 100) s.piece).2.total + (eat (new (m : Int) 65536 100) s.piece).1 } := by unfold feedS; rw [if_neg (by show ¬ (0 : Nat) = 5; decide)]
  have htl : (eat (new (m : Int) 65536 100) s.piece).2.tr.length ≤ 2147483648 := by have := hoke.len; omega
  have HN : Hid (Calls Tryz.prog 72 #[.int .i64 (m : Int), .int .i64 65536, .int .i64 100] w fun e w' => e = .returned (.tuple #[.pointer (some ⟨w.heap.size, 0, none⟩), .int .i64 0]) ∧ Dec w' w.heap.size (new (m : Int) 65536 100) [w.heap.size] ∧ Below w.heap.size w w') := New_ok (m : Int) 65536 100 (by omega) (by omega) (by omega) w
  have HFd : Hid (∀ W, Base w0 W [w.heap.size] → Dec W w.heap.size (new (m : Int) 65536 100) [w.heap.size] → Calls Tryz.prog 73 #[.pointer (some ⟨w.heap.size, 0, none⟩), .string (str s.piece)] W fun ex w' => ex = .returned (.tuple #[.int .i64 ((eat (new (m : Int) 65536 100) s.piece).1 : Int), .int .i64 (eat (new (m : Int) 65536 100) s.piece).2.err]) ∧ ∃ bs', Dec w' w.heap.size { (eat (new (m : Int) 65536 100) s.piece).2 with total := (eat (new (m : Int) 65536 100) s.piece).2.total + (eat (new (m : Int) 65536 100) s.piece).1 } bs' ∧ Goes [w.heap.size] W bs' w') := fun W hb hd => by
    have h := Feed_any (w0 := w0) (k := 0) hb hd HOK.out (str s.piece) (by rw [str_size]; omega)
    rw [str_list, hfn, hfe, hfs] at h
    exact h
  have HR : Hid (chkR s m = if (eat (new (m : Int) 65536 100) s.piece).2.err ≠ 0 then (⟨false, cErr (eat (new (m : Int) 65536 100) s.piece).2.err, { bNext s (eat (new (m : Int) 65536 100) s.piece).1 with wrong := (s.used : Int) + (eat (new (m : Int) 65536 100) s.piece).1 - 1 }, [], []⟩, [])
    else if (eat (new (m : Int) 65536 100) s.piece).2.done = true then (⟨true, 0, bNext s (eat (new (m : Int) 65536 100) s.piece).1, [], (eat (new (m : Int) 65536 100) s.piece).2.body⟩, (eat (new (m : Int) 65536 100) s.piece).2.tr)
    else (⟨false, 0, bNext s (eat (new (m : Int) 65536 100) s.piece).1, [], []⟩, [])) := rfl
  generalize chkR s m = R at *
  clear hfn hfe hfs hok hoke HOK
  generalize eat (new (m : Int) 65536 100) s.piece = r at *
  obtain ⟨n, st⟩ := r
  dsimp only at HR HFd htl hel
  have hDl := H.str.lt
  have HDl : Hid (D < w.heap.size) := hDl
  have HTT : Hid (TOk T ∧ T ≠ 146) := (⟨hT, hTD⟩ : _ ∧ _)
  have HSt : Hid (Blk T w D (lcC s [] vl vb vf (.pointer none) (.slice none 0 0) ex)) := H.str
  have HFs : Hid (OwnF 47 0 vf s.fs w) := H.fs
  have HBs : Hid (Env w0 ∧ Below w0.heap.size w0 w ∧ w0.heap.size ≤ D) := (⟨hE, hB0, hD0⟩ : _ ∧ _ ∧ _)
  have c8 := HSt.out.cell 8 rfl
  have f8 := HSt.out.free 8
  obtain ⟨nD, hnD⟩ : ∃ nD, nD = w.heap.size := ⟨_, rfl⟩
  have HnD : Hid (nD = w.heap.size) := hnD
  rw [← hnD] at HN HFd HDl ⊢
  clear H hT hTD hE hB0 hD0 hDl hnD
  go_enter Tryz.func37, Tryz.ntmps37
  go_wp2_with fail
  refine HN.out.mono ?_
  rintro e w1 ⟨rfl, hd1, hb1⟩
  have HD1 : Hid (Dec w1 nD (new (m : Int) 65536 100) [nD]) := hd1
  have HB1 : Hid (Below w.heap.size w w1) := (by rw [← HnD.out]; exact hb1 : Below _ _ _)
  have HS1 : Hid (Blk T w1 D (lcC s [] vl vb vf (.pointer none) (.slice none 0 0) ex)) := HSt.out.below HB1.out
  clear hd1 hb1 c8 f8 HN
  obtain ⟨w2, hw2⟩ : ∃ w2, w2 = w1.setCell ⟨D, 8, none⟩ (.pointer (some ⟨nD, 0, none⟩)) := ⟨_, rfl⟩
  have hb2 : But [D] w1 w2 := by rw [hw2]; exact setD (But.refl _ _) _ _
  have HS2 : Hid (Blk T w2 D (lcC s [] vl vb vf (.pointer (some ⟨nD, 0, none⟩)) (.slice none 0 0) ex)) := (by rw [hw2]; exact HS1.out.set 8 _ : Blk _ _ _ _)
  have HD2 : Hid (Dec w2 nD (new (m : Int) 65536 100) [nD]) := HD1.out.but hb2 (fun x hx e => by simp at hx e; have := HDl.out; omega)
  have HB2 : Hid (But [D] w w2) := (But.of_below HB1.out).nil.trans hb2
  have HF2 : Hid (OwnF 47 0 vf s.fs w2) := HS1.out.keep ((But.of_below HB1.out).owns HFs.out (fun _ _ e => by cases e)) HTT.out.1.2 hb2
  have HA2 : Hid (Base w0 w2 [nD]) := (⟨HBs.out.1, HBs.out.2.1.trans (HB2.out.below HBs.out.2.1.size (fun x hx => by simp at hx; have := HBs.out.2.2; omega)), fun x hx => by simp at hx; have := HBs.out.2.1.size; have := HnD.out; omega⟩ : Base _ _ _)
  have HW2 : Hid (w2 = _) := hw2
  have c8 := HS1.out.cell 8 rfl
  have f8 := HS1.out.free 8
  clear hb2 hw2
  go_wp2_with fail
  rw [← HW2.out]
  clear c8 f8 HW2 HS1 HD1 HB1
  have HDn : Hid (D ≠ nD) := (by have := HDl.out; omega : D ≠ nD)
  have HK : Hid (∀ W, But [nD] w2 W → (W.cell? ⟨D, 0, none⟩ = some (.string (str s.piece)) ∧ W.cell? ⟨D, 8, none⟩ = some (.pointer (some ⟨nD, 0, none⟩))) ∧ But [nD] w2 W) := fun W hW => ⟨⟨(HS2.out.but hW (by simpa using HDn.out)).cell 0 rfl, (HS2.out.but hW (by simpa using HDn.out)).cell 8 rfl⟩, hW⟩
  have HBn : Hid (But [nD] w2 w2) := But.refl _ _
  go_region_held3 (fun W => (W.cell? ⟨D, 0, none⟩ = some (.string (str s.piece)) ∧ W.cell? ⟨D, 8, none⟩ = some (.pointer (some ⟨nD, 0, none⟩))) ∧ But [nD] w2 W)
    ((refine HK.out _ ?_; first | with_reducible exact HBn.out | with_reducible exact But.drew HBn.out))
    (first
      | (go_at_call 73; (with_reducible refine (HFd.out w2.drew (HA2.out.below (Below.refl _ _).drew) (HD2.out.below (Below.refl _ _).drew)).mono ?_); rintro e w3 ⟨rfl, bs3, hd3, hg3⟩; have HBn : Hid (But [nD] w2 w3) := (But.refl [nD] w2).drew.trans hg3.but; have HD3 : Hid (Dec w3 nD { st with total := st.total + n } bs3) := hd3; have HX3 : Hid (∀ x, x ∈ bs3 → x = nD ∨ w2.heap.size ≤ x) := (fun x hx => (hg3.sub x hx).imp (fun h => by simpa using h) id : ∀ x, x ∈ bs3 → x = nD ∨ w2.heap.size ≤ x); clear hd3 hg3))
  have HS3 : Hid (Blk T w3 D (lcC s [] vl vb vf (.pointer (some ⟨nD, 0, none⟩)) (.slice none 0 0) ex)) := HS2.out.but HBn.out (by simpa using HDn.out)
  have HF3 : Hid (OwnF 47 0 vf s.fs w3) := HBn.out.owns HF2.out (fun g hg e => by
    have h1 := (World.ownsRow.lt HFs.out g hg).2
    simp at e
    have := HnD.out
    omega)
  have HB3 : Hid (But [D] w w3) := (⟨HBn.out.os.trans HB2.out.os, HBn.out.tape.trans HB2.out.tape, HBn.out.output.trans HB2.out.output, Nat.le_trans HB2.out.size HBn.out.size, fun i hi hn => (HBn.out.block i (Nat.lt_of_lt_of_le hi HB2.out.size) (by simp; have := HnD.out; omega)).trans (HB2.out.block i hi hn)⟩ : But _ _ _)
  have HRo : Hid (Calls _ _ _ _ _) := readOff_raw HS3.out (str s.piece) s.used n rfl rfl (by rw [str_size]; exact hel) (by rw [str_size]; omega) hu
  have HY : Hid ((str s.piece).extract n (str s.piece).size = str (s.piece.drop n)) := (by
    apply eq_list
    rw [Lib.extract_to_end, str_list, str_list] : _ = _)
  go_wp2_with fail
  refine HRo.out.mono ?_
  rintro e w4 ⟨rfl, hw4⟩
  rw [HY.out] at hw4
  have hb4 : But [D] w3 w4 := by rw [hw4]; exact setD (setD (But.refl _ _) _ _) _ _
  have HS4 : Hid (Blk T w4 D (lcC (bNext s n) [] vl vb vf (.pointer (some ⟨nD, 0, none⟩)) (.slice none 0 0) ex)) := (by
    rw [hw4]
    have h := (HS3.out.set 0 (.string (str (s.piece.drop n)))).set 2 (.int .i64 ((s.used : Int) + (n : Int)))
    have e : ((s.used : Int) + (n : Int)) = ((s.used + n : Nat) : Int) := by omega
    rw [e] at h ⊢
    exact h : Blk _ _ _ _)
  have HDx : Hid (∀ x, x ∈ bs3 → x ∉ [D]) := (fun x hx e => by
    simp at e
    subst e
    rcases HX3.out x hx with h | h
    · exact HDn.out h
    · have := HS2.out.lt; omega : ∀ x, x ∈ bs3 → x ∉ [D])
  have HD4 : Hid (Dec w4 nD { st with total := st.total + n } bs3) := HD3.out.but hb4 HDx.out
  have HF4 : Hid (OwnF 47 0 vf s.fs w4) := HS3.out.keep HF3.out HTT.out.1.2 hb4
  have HB4 : Hid (But [D] w w4) := HB3.out.trans hb4
  clear hw4 hb4 HRo HY HB3 HF3 HS3 HBn HK HD3 HFd HD2 HA2 HF2 HB2 HS2
  by_cases hE : st.err = 0
  case neg =>
    have hE1 : (st.err != 0) = true := by simp [hE]
    have HQ : Hid (R = (⟨false, cErr st.err, { bNext s n with wrong := (s.used : Int) + n - 1 }, [], []⟩, [])) := HR.out.trans (if_pos hE)
    have HS4d : Hid (Blk T w4.drew D (lcC (bNext s n) [] vl vb vf (.pointer (some ⟨nD, 0, none⟩)) (.slice none 0 0) ex)) := HS4.out.below (Below.refl _ _).drew
    obtain ⟨u, hu1⟩ : ∃ u : Int, u = ((s.used + n : Nat) : Int) := ⟨_, rfl⟩
    have c2 : w4.cell? ⟨D, 2, none⟩ = some (.int .i64 u) := by rw [hu1]; exact HS4.out.cell 2 rfl
    have d2 : w4.drew.cell? ⟨D, 2, none⟩ = some (.int .i64 u) := c2
    have hub : 0 ≤ u ∧ u ≤ 7000000000 := by omega
    have huw : IntKind.i64.wrap (u - 1) = u - 1 := by rw [IntKind.wrap_i64]; omega
    have HU : Hid (u - 1 = (s.used : Int) + n - 1) := (by omega : _ = _)
    have HRf : Hid (∀ a e, Calls Tryz.prog 64 #[.pointer (some ⟨D, 0, none⟩), .int .i64 a, .int .i64 e] w4.drew fun x w' => x = .returned (.int .i64 e) ∧ w' = (w4.setCell ⟨D, 3, none⟩ (.int .i64 a)).drew) := fun a e => refuse_raw HS4d.out ⟨_, rfl⟩ a e
    have HF4d : Hid (OwnF 47 0 vf s.fs w4.drew) := (But.refl [] _).drew.owns HF4.out (fun _ _ e => by cases e)
    have HB4d : Hid (But [D] w w4.drew) := HB4.out.drew
    obtain ⟨WF, hWF⟩ : ∃ WF, WF = (w4.setCell ⟨D, 3, none⟩ (.int .i64 (u - 1))).drew := ⟨_, rfl⟩
    have hb6 : But [D] w4 WF := by rw [hWF]; exact (setD (But.refl _ _) _ _).drew
    have HS6 : Hid (Blk T WF D (lcC { bNext s n with wrong := (s.used : Int) + n - 1 } [] vl vb vf (.pointer (some ⟨nD, 0, none⟩)) (.slice none 0 0) ex)) := (by
      rw [hWF, HU.out]
      exact (HS4.out.set 3 _).but (But.refl [] _).drew (by simp) : Blk _ _ _ _)
    have HF6 : Hid (OwnF 47 0 vf s.fs WF) := HS4.out.keep HF4.out HTT.out.1.2 hb6
    have HB6 : Hid (But [D] w WF) := HB4.out.trans hb6
    have HWF : Hid (WF = _) := hWF
    clear hE HR hub hu1 HS4 HD4 HF4 HB4 hWF hb6 HS4d HF4d HB4d
    go_wp2_with fail
    go_region_law (first
      | (go_simp; go_at_call 74; refine (chunkErr_any st.err _).mono ?_; rintro e w5 ⟨rfl, hw5⟩; rw [hw5]; clear hw5; dsimp only)
      | (go_simp; go_at_call 64; refine (HRf.out _ _).mono ?_; rintro e w6 ⟨rfl, hw6⟩; rw [hw6]; clear hw6; dsimp only))
    all_goals
      go_wp2
      go_ret2
      rw [HQ.out]
      first
        | (rw [← HWF.out]; exact ⟨rfl, ⟨Value.slice none 0 0, ⟨⟨vl, vb, _, HS6.out⟩, HF6.out, ownF_nil _ _ _⟩⟩, HB6.out⟩)
        | (show _ ∧ (∃ vt, IsC _ _ ((w4.setCell ⟨D, 3, none⟩ (.int .i64 (u - 1))).drew) _ _ _ _ _ _ _) ∧ But _ _ ((w4.setCell ⟨D, 3, none⟩ (.int .i64 (u - 1))).drew); rw [← HWF.out]; exact ⟨rfl, ⟨Value.slice none 0 0, ⟨⟨vl, vb, _, HS6.out⟩, HF6.out, ownF_nil _ _ _⟩⟩, HB6.out⟩)
  rw [hE] at HR ⊢
  have HR2 : Hid (R = _) := HR.out.trans (if_neg (by simp))
  have HDo : Hid (∀ W bs, Dec W nD { st with total := st.total + n } bs → Calls Tryz.prog 75 #[.pointer (some ⟨nD, 0, none⟩)] W fun e w' => e = .returned (.bool st.done) ∧ w' = W) := fun W bs h => (by have q := Done_any h; exact q)
  have c8 : w4.cell? ⟨D, 8, none⟩ = some (.pointer (some ⟨nD, 0, none⟩)) := HS4.out.cell 8 rfl
  have HDc : Hid (Calls _ _ _ _ _) := HDo.out w4 bs3 HD4.out
  clear HR hE
  go_wp2_with fail
  refine HDc.out.mono ?_
  rintro e w5 ⟨rfl, hw5⟩
  rw [hw5]
  clear hw5
  cases hdn : st.done with
  | false =>
    have HQ : Hid (R = (⟨false, 0, bNext s n, [], []⟩, [])) := HR2.out.trans (if_neg (by rw [hdn]; simp))
    rw [hdn] at HDc
    clear HR2 HDo
    go_wp2_with fail
    refine HDc.out.mono ?_
    rintro e w5 ⟨rfl, hw5⟩
    rw [hw5]
    clear hw5
    go_wp2
    go_ret2
    rw [HQ.out]
    exact ⟨rfl, ⟨Value.slice none 0 0, ⟨⟨vl, vb, _, HS4.out⟩, HF4.out, ownF_nil _ _ _⟩⟩, HB4.out⟩
  | true =>
    have HQ : Hid (R = (⟨true, 0, bNext s n, [], st.body⟩, st.tr)) := HR2.out.trans (if_pos hdn)
    have HD4d : Hid (Dec w4.drew nD { st with total := st.total + n } bs3) := HD4.out.below (Below.refl _ _).drew
    have HS4d : Hid (Blk T w4.drew D (lcC (bNext s n) [] vl vb vf (.pointer (some ⟨nD, 0, none⟩)) (.slice none 0 0) ex)) := HS4.out.below (Below.refl _ _).drew
    have HF4d : Hid (OwnF 47 0 vf s.fs w4.drew) := (But.refl [] _).drew.owns HF4.out (fun _ _ e => by cases e)
    have HB4d : Hid (But [D] w w4.drew) := HB4.out.drew
    have HBo : Hid (Calls Tryz.prog 76 #[.pointer (some ⟨nD, 0, none⟩)] w4.drew fun e w' => e = .returned (.string (str st.body)) ∧ w' = w4.drew) := (by have h := Body_any HD4d.out; exact h : Calls _ _ _ _ _)
    have HTr : Hid (Calls Tryz.prog 77 #[.pointer (some ⟨nD, 0, none⟩)] w4.drew fun e w' => ∃ v, e = .returned v ∧ OwnF 47 (World.heap w4.drew).size v st.tr w' ∧ Below (World.heap w4.drew).size w4.drew w') := (by have h := Trailers_any HD4d.out htl; exact h : Calls _ _ _ _ _)
    have HDo2 : Hid (∀ W bs, Dec W nD { st with total := st.total + n } bs → Calls Tryz.prog 75 #[.pointer (some ⟨nD, 0, none⟩)] W fun e w' => e = .returned (.bool true) ∧ w' = W) := fun W bs h => (by have q := HDo.out W bs h; rw [hdn] at q; exact q)
    have d8 : w4.drew.cell? ⟨D, 8, none⟩ = some (.pointer (some ⟨nD, 0, none⟩)) := c8
    have HHz : Hid (w.heap.size ≤ (World.heap w4.drew).size) := HB4d.out.size
    clear HR2 HDo HDc hdn htl HS4 HF4 HB4 HD4
    obtain ⟨BS, hBS⟩ : ∃ BS, BS = str st.body := ⟨_, rfl⟩
    rw [← hBS] at HBo
    have HBS : Hid (BS = str st.body) := hBS
    have HDd : Hid (D < (World.heap w4.drew).size) := HS4d.out.lt
    clear hBS
    go_wp2_with fail
    go_region_law (first
      | (go_simp; go_at_call 76; refine HBo.out.mono ?_; rintro e w5 ⟨rfl, hw5⟩; rw [hw5]; clear hw5; dsimp only)
      | (go_simp; go_at_call 77; refine HTr.out.mono ?_; rintro e w5 ⟨v5, rfl, ho5, hb5⟩; obtain ⟨a5, c5, rfl⟩ := ownF_form ho5; have HS5 : Hid (Blk T w5 D (lcC (bNext s n) [] vl vb vf (.pointer (some ⟨nD, 0, none⟩)) (.slice none 0 0) ex)) := HS4d.out.below hb5; have HO5 : Hid (OwnF 47 (World.heap w4.drew).size (.slice a5 st.tr.length c5) st.tr w5) := ho5; have HB5 : Hid (Below (World.heap w4.drew).size w4.drew w5) := hb5; have e8 : w5.cell? ⟨D, 8, none⟩ = some (.pointer (some ⟨nD, 0, none⟩)) := HS5.out.cell 8 rfl; have e12 := HS5.out.cell 12 rfl; have e14 := HS5.out.cell 14 rfl; have f12 := HS5.out.free 12; have f14 := HS5.out.free 14; clear ho5 hb5; dsimp only))
    all_goals
      obtain ⟨W6, hW6⟩ : ∃ W6, W6 = (w5.setCell ⟨D, 12, none⟩ (.string BS)).setCell ⟨D, 14, none⟩ (.slice a5 st.tr.length c5) := ⟨_, rfl⟩
      rw [← hW6]
      have hb6 : But [D] w5 W6 := by rw [hW6]; exact setD (setD (But.refl _ _) _ _) _ _
      have HS6 : Hid (Blk T W6 D (lcC (bNext s n) st.body vl vb vf (.pointer (some ⟨nD, 0, none⟩)) (.slice a5 st.tr.length c5) ex)) := (by
        rw [hW6]
        have h := (HS5.out.set 12 (.string BS)).set 14 (.slice a5 st.tr.length c5)
        rw [HBS.out] at h ⊢
        exact h : Blk _ _ _ _)
      have HF6 : Hid (OwnF 47 0 vf s.fs W6) := HS5.out.keep ((But.of_below HB5.out).owns HF4d.out (fun _ _ e => by cases e)) HTT.out.1.2 hb6
      have HT6 : Hid (OwnF 47 (World.heap w4.drew).size (.slice a5 st.tr.length c5) st.tr W6) := HS5.out.keep HO5.out HTT.out.1.2 hb6
      have HD6 : Hid (Dec W6 nD { st with total := st.total + n } bs3) := (HD4d.out.below HB5.out).but hb6 HDx.out
      have HB6 : Hid (But [D] w W6) := HB4d.out.trans ((But.of_below HB5.out).nil.trans hb6)
      have HDf : Hid (Calls _ _ _ _ _) := HDo2.out W6 bs3 HD6.out
      have q8 : W6.cell? ⟨D, 8, none⟩ = some (.pointer (some ⟨nD, 0, none⟩)) := HS6.out.cell 8 rfl
      clear hW6 hb6 HS5 HO5 HB5 e8 e12 e14 f12 f14 HD6 HDo2 HTr HBo HD4d HS4d HF4d HB4d d8
      go_wp2_with fail
      refine HDf.out.mono ?_
      rintro e w7 ⟨rfl, hw7⟩
      rw [hw7]
      clear hw7
      go_wp2
      go_ret2
      rw [HQ.out]
      exact ⟨rfl, ⟨_, ⟨⟨vl, vb, _, HS6.out⟩, HF6.out, own_upF HT6.out (by have := HHz.out; have := HnD.out; omega)⟩⟩, HB6.out⟩
end Ms
end Go.Proofs.YtdcfhnbagldilaaGreatDoor
set_option linter.unusedVariables false
set_option linter.unusedSimpArgs false
set_option maxRecDepth 100000
namespace Go.Proofs.YtdcfhnbagldilaaGreatDoor
open Go.RowKit Go.Shelf
namespace Ms
open Oc Tg _root_.Go.Proofs.YtdcfhnbagldilaaGreatDoor.Fd _root_.Go.Proofs.YtdcfhnbagldilaaGreatDoor.Ck
set_option maxHeartbeats 4000000 in
theorem readResponse_ch {T : Nat} (hT : TOk T) {ex : List Value} {w0 w : World} {D : Nat} {s : HS} {bs : List Nat} (HB : Base w0 w bs) (H : HdS T ex w D s bs) (hk : HOk s) (hL : LenOk s) (hSt : StOk s) (hp : s.piece.length ≤ 3000000000) (me : ByteArray) (m : Nat) (hm : m ≤ 9223372036854775807)
    (hTD : T ≠ 146) (hpl : s.piece.length ≤ 2147483647) (hc0 : (hRun s s.piece).2 = 0) (hc1 : (hRun s s.piece).1.headed = true) (hc2 : bdl me.data.toList (hRun s s.piece).1.st = false) (hc3 : (hRun s s.piece).1.kind = 2) :
    Calls Tryz.prog 19 #[.pointer (some ⟨D, 0, none⟩), .string me, .int .i64 (m : Int)] w fun e w' => e = .returned (.tuple #[.bool (chkR (hRun s s.piece).1 m).1.done, .int .i64 (chkR (hRun s s.piece).1 m).1.err]) ∧ (∃ vf vt, IsC T ex w' D (chkR (hRun s s.piece).1 m).1.s (chkR (hRun s s.piece).1 m).1.bd (chkR (hRun s s.piece).1 m).2 w0.heap.size vf vt ∧ ∀ g, vf.ownBlock = some g → w0.heap.size ≤ g) ∧ Below w0.heap.size w0 w' := by
  have HTT : Hid (TOk T) := hT
  have HRh : Hid (Calls _ _ _ _ _) := readHead_any hT HB H hk (by omega)
  have hL1 := hRun_len s.piece s hL
  have hO1 := hRun_ok s.piece s hk
  have hS1 := hRun_st s.piece s hSt
  have hP1 := hRun_piece s.piece s rfl
  generalize hRun s s.piece = Y at *
  obtain ⟨s1, z⟩ := Y
  dsimp only at HRh hL1 hO1 hS1 hP1 hc0 hc1 hc2 hc3 ⊢
  subst hc0
  obtain ⟨Z, hZ⟩ : ∃ Z, Z = chkR s1 m := ⟨_, rfl⟩
  rw [← hZ]
  have HZ : Hid (Z = chkR s1 m) := hZ
  clear hZ
  obtain ⟨⟨zd, ze, zs, zb, zbd⟩, zt⟩ := Z
  dsimp only
  have HBl : Hid (∀ W, Calls _ _ _ W _) := fun W => Bodyless_any me s1.st ⟨by have := hS1.1; omega, by have := hS1.2; omega⟩ W
  have HBB : Hid (Base w0 w bs) := HB
  have HTD : Hid (T ≠ 146) := hTD
  have hDn : D ∈ bs := by
    obtain ⟨vl0, vf0, _, hb0⟩ := id H
    rw [hb0]
    simp [ftH]
  have HD0 : Hid (w0.heap.size ≤ D) := HB.new D hDn
  clear H HB hk hL hSt hT hTD hDn
  go_enter Tryz.func19, Tryz.ntmps19
  go_wp2_with fail
  refine HRh.out.mono ?_
  rintro e w1 ⟨rfl, b1, hd1, hg1⟩
  obtain ⟨b2, hpl, hg2⟩ := hd1.plain
  have HD1 : Hid (PlB T ex w1 D s1 [] [] b2) := hpl
  have HG1 : Hid (Goes bs w b2 w1) := hg1.trans hg2
  clear hd1 hg1 hg2 hpl HRh
  obtain ⟨vl, vb, vf, HI, hbs⟩ := HD1.out
  have c6 : w1.cell? ⟨D, 6, none⟩ = some (.bool s1.headed) := HI.str.cell 6 rfl
  have c9 : w1.cell? ⟨D, 9, none⟩ = some (.int .i64 s1.st) := HI.str.cell 9 rfl
  have c15 : w1.cell? ⟨D, 15, none⟩ = some (.int .i64 s1.kind) := HI.str.cell 15 rfl
  have HIv : Hid (IsB T ex w1 D s1 [] [] vl vb vf) := HI
  have HB1 : Hid (Base w0 w1 b2) := HBB.out.goes HG1.out
  have HVf : Hid (∀ g, vf.ownBlock = some g → w0.heap.size ≤ g) := (fun g hg => HB1.out.new g (by rw [hbs]; simp [ftH, hg]) : ∀ g, vf.ownBlock = some g → w0.heap.size ≤ g)
  clear HI hbs
  have hh : s1.headed = true := hc1
  rw [hh] at c6
  obtain ⟨n, hn, hnb⟩ := hL1 hh
  have hok := hO1 trivial
  have hu := hok.used
  have HBy : Hid (Calls _ _ _ _ _) := HBl.out w1
  clear hh hL1 hO1 HBl hS1 hc1
  rw [hc2] at HBy
  clear hc2
  go_wp2_with fail
  refine HBy.out.mono ?_
  rintro e w2 ⟨rfl, hw2⟩
  rw [hw2]
  clear hw2 HBy
  have h2' : (s1.kind == 2) = true := by simp [hc3]
  have hRc := readChunks_any HTT.out HTD.out HB1.out.env HB1.out.bel HD0.out HIv.out m hm (by omega) (by omega)
  rw [← HZ.out] at hRc
  have HRc : Hid (Calls Tryz.prog 37 #[.pointer (some ⟨D, 0, none⟩), .int .i64 (m : Int)] w1 fun e w' => e = .returned (.tuple #[.bool zd, .int .i64 ze]) ∧ (∃ vt, IsC T ex w' D zs zbd zt w1.heap.size vf vt) ∧ But [D] w1 w') := hRc
  clear hRc
  clear hc3 hn hnb
  go_wp2_with fail
  refine HRc.out.mono ?_
  rintro e w3 ⟨rfl, ⟨vt, hC⟩, hb3⟩
  have HC3 : Hid (IsC T ex w3 D zs zbd zt w0.heap.size vf vt) := (⟨hC.str, hC.fs, own_upF hC.tr HB1.out.bel.size⟩ : IsC _ _ _ _ _ _ _ _ _ _)
  have HB3 : Hid (Below w0.heap.size w0 w3) := HB1.out.bel.trans (hb3.below HB1.out.bel.size (fun x hx => by simp at hx; rw [hx]; exact HD0.out))
  clear hC hb3
  go_wp2
  go_ret2
  exact ⟨rfl, ⟨vf, vt, HC3.out, HVf.out⟩, HB3.out⟩
end Ms
end Go.Proofs.YtdcfhnbagldilaaGreatDoor
