/- Several texts as one. -/
import Derived.Test.YtepidekmnkempaaDoorMgL
import Derived.Test.YtepidekmnkempaaDoorMgC
import Derived.Test.YtepidekmnkempaaDoorMgG
import Derived.Test.YtepidekmnkempaaDoorMgH
import Derived.Test.YtepidekmnkempaaDoorMgI
/-
  The document's Quality.
-/
set_option linter.unusedVariables false
set_option linter.unusedSimpArgs false
namespace Go.Proofs.YtepidekmnkempaaDoor
open Go.RowKit
namespace Ac
open Oc Tg

theorem dig_val {c : Int} (h : digI c = true) : valI c < 10 := by
  unfold digI at h
  unfold valI
  rw [if_pos (by simpa using h)]
  have : 48 ≤ c ∧ c ≤ 57 := by simpa using h
  omega
theorem ndig_val {c : Int} (h : digI c = false) : 10 ≤ valI c := by
  unfold digI at h
  unfold valI
  rw [if_neg (by simpa using h)]
  (repeat' split) <;> omega
theorem list_cons (s : ByteArray) (h : 0 < s.size) : s.data.toList = s.data.toList.getD 0 0 :: s.data.toList.drop 1 := by
  cases e : s.data.toList with
  | nil => have := size_list s; rw [e] at this; simp at this; omega
  | cons a r => simp
theorem list_cons2 (s : ByteArray) (h : 1 < s.size) : s.data.toList = s.data.toList.getD 0 0 :: s.data.toList.getD 1 0 :: s.data.toList.drop 2 := by
  match e : s.data.toList with
  | [] => have := size_list s; rw [e] at this; simp at this; omega
  | [a] => have := size_list s; rw [e] at this; simp at this; omega
  | a :: b :: r => simp
theorem u8_ne {a b : UInt8} (h : (a.toNat : Int) ≠ (b.toNat : Int)) : a ≠ b := fun e => h (by rw [e])

set_option maxRecDepth 100000 in
set_option maxHeartbeats 1000000 in
theorem rQuality_any (s : ByteArray) (hs : s.size ≤ maxLen) (w : World) :
    Calls Tryd.prog 40 #[.string s] w fun e w' => e = .returned (.tuple #[.int .i64 (qual s.data.toList).1, .int .i64 (qual s.data.toList).2]) ∧ w' = w := by
  by_cases h0 : s.size = 0
  · have he : s.toList.isEmpty = true := by
      rw [Lib.toList_data, List.length_eq_zero_iff.1 ((size_list s).trans h0)]; rfl
    have hq : qual s.data.toList = (0, 71) := by rw [List.length_eq_zero_iff.1 ((size_list s).trans h0)]; exact qual_nil
    rw [hq]
    go_enter Tryd.func40, Tryd.ntmps40
    go_wp2
    go_ret2
    exact ⟨rfl, rfl⟩
  have he : s.toList.isEmpty = false := by
    rw [Lib.toList_data]
    cases e : s.data.toList with
    | nil => have := size_list s; rw [e] at this; simp at this; omega
    | cons _ _ => rfl
  have hby : ((s[0]'(by omega)).toNat : Int) = byt s 0 := byt_at s 0 (by omega)
  have hgl := list_cons s (by omega)
  by_cases h01 : byt s 0 ≠ 48 ∧ byt s 0 ≠ 49
  · have hq : qual s.data.toList = (0, 71) := by
      rw [hgl]
      exact qual_first _ _ (u8_ne h01.1) (u8_ne h01.2)
    rw [hq]
    have n0 : (byt s 0 != 48) = true := by simp [h01.1]
    have n1 : (byt s 0 != 49) = true := by simp [h01.2]
    go_enter Tryd.func40, Tryd.ntmps40
    go_wp2
    go_ret2
    exact ⟨rfl, rfl⟩
  have hor : byt s 0 = 48 ∨ byt s 0 = 49 := by omega
  have hp : ((byt s 0 != 48) && (byt s 0 != 49)) = false := by rcases hor with h | h <;> simp [h]
  have hpick : (if (byt s 0 != 48) = true then (byt s 0 != 49) else false) = false := by rcases hor with h | h <;> simp [h]
  by_cases h5 : 5 < s.size
  · have hq : qual s.data.toList = (0, 71) := by
      rw [list_cons2 s (by omega)]
      exact qual_long _ _ _ (by rw [List.length_drop, size_list]; omega)
    rw [hq]
    have q5 : decide ((5 : Int) < (s.size : Int)) = true := decide_eq_true (by omega)
    rcases hor with ho | ho
    all_goals
      rw [ho] at hby
      go_enter Tryd.func40, Tryd.ntmps40
      go_wp2
      go_ret2
      exact ⟨rfl, rfl⟩
  have q5 : decide ((5 : Int) < (s.size : Int)) = false := decide_eq_false (by omega)
  by_cases h1 : 1 < s.size ∧ byt s 1 ≠ 46
  · have hq : qual s.data.toList = (0, 71) := by
      rw [list_cons2 s (by omega)]
      exact qual_second _ _ _ (u8_ne h1.2)
    rw [hq]
    have q1 : decide ((1 : Int) < (s.size : Int)) = true := decide_eq_true (by omega)
    have hb1 : ((s[1]'(by omega)).toNat : Int) = byt s 1 := byt_at s 1 (by omega)
    have n1 : (byt s 1 != 46) = true := by simp [h1.2]
    have h1s := h1.1
    rcases hor with ho | ho
    all_goals
      rw [ho] at hby
      go_enter Tryd.func40, Tryd.ntmps40
      go_wp2
      go_ret2
      exact ⟨rfl, rfl⟩
  have HEnd : Hid ((∀ j, 2 ≤ j → j < s.size → valI (byt s j) < 10) → qual s.data.toList = (if 1000 < (if byt s 0 = 49 then 1000 else 0) + qacc s.data.toList 3 then (0, 71) else ((if byt s 0 = 49 then 1000 else 0) + qacc s.data.toList 3, 0))) := by
    show _ → _
    intro hall
    have e49 : (byt s 0 = 49) = (s.data.toList.getD 0 0 = 49) := by
      apply propext
      constructor
      · intro h; exact UInt8.toNat_inj.1 (by show _ = 49; unfold byt at h; omega)
      · intro h; unfold byt; rw [h]; rfl
    rw [qual_end s.data.toList (s.data.toList.getD 0 0) (by rw [hgl]; rfl) ?_ (by rw [size_list]; omega) ?_ ?_]
    · simp only [e49]
    · rcases hor with h | h
      · exact .inl (UInt8.toNat_inj.1 (by show _ = 48; unfold byt at h; omega))
      · exact .inr (UInt8.toNat_inj.1 (by show _ = 49; unfold byt at h; omega))
    · intro hl
      rw [size_list] at hl
      have : byt s 1 = 46 := by omega
      exact UInt8.toNat_inj.1 (by show _ = 46; unfold byt at this; omega)
    · intro j hj hl
      rw [size_list] at hl
      exact hall j hj hl
  have HBad : Hid (∀ j, 2 ≤ j → j < s.size → 10 ≤ valI (byt s j) → qual s.data.toList = (0, 71)) := by
    show ∀ j, _
    intro j hj hl hv
    rw [list_cons2 s (by omega)]
    refine qual_digit _ _ _ (s.data.toList.getD j 0) ?_ hv
    rw [List.getD_eq_getElem?_getD, List.getElem?_eq_getElem (by simpa using hl)]
    have : (s.data.toList.drop 2)[j - 2]'(by rw [List.length_drop, size_list]; omega) = s.data.toList[j]'(by simpa using hl) := by
      rw [List.getElem_drop]; congr 1; omega
    rw [Option.getD_some, ← this]
    exact List.getElem_mem _
  have h1p : (1 < s.size → byt s 1 = 46) := by omega
  have q1 : s.size = 1 ∨ (1 < s.size ∧ byt s 1 = 46) := by omega
  clear h1 h01 hgl h1p
  have HQ : Hid (∃ q, q = qual s.data.toList) := ⟨_, rfl⟩
  have HDg : Hid (∀ k, qdig s.data.toList k = if 2 + k < s.size then byt s (2 + k) - 48 else 0) := by
    show ∀ k, _
    intro k
    unfold qdig byt
    rw [size_list]
  have HAcc : Hid (∀ k, qacc s.data.toList (k + 1) = 10 * qacc s.data.toList k + qdig s.data.toList k) := (fun k => rfl : ∀ k, qacc s.data.toList (k + 1) = _)
  have HA0 : Hid (qacc s.data.toList 0 = 0) := rfl
  have hall5 : s.size ≤ 5 := by omega
  clear h5
  generalize qual s.data.toList = Q at *
  generalize hA : qacc s.data.toList = A at *
  generalize hG : qdig s.data.toList = G at *
  clear hA hG
  have qs1 : ∃ b1 : Bool, decide ((1 : Int) < (s.size : Int)) = b1 ∧ (b1 = true → ∃ h : 1 < s.size, ((s[1]'h).toNat : Int) = 46) := by
    rcases q1 with h | ⟨h, hd⟩
    · exact ⟨false, decide_eq_false (by omega), fun h => by cases h⟩
    · exact ⟨true, decide_eq_true (by omega), fun _ => ⟨h, (byt_at s 1 h).trans hd⟩⟩
  clear q1
  obtain ⟨b1, hb1, hb1s⟩ := qs1
  rcases hor with ho | ho
  all_goals
    rw [ho] at hby
    have HO : Hid (byt s 0 = _) := ho
    clear ho hp hpick
    cases b1
  all_goals (try obtain ⟨hl1, hd1⟩ := hb1s rfl)
  all_goals
    clear hb1s
    go_enter Tryd.func40, Tryd.ntmps40
    go_wp2
    go_loop [4, 5] (fun nv iv => ∃ (k : Nat) (n : Int), k ≤ 3 ∧ iv = .int .i64 ((2 : Int) + k) ∧ nv = .int .i64 n ∧ 0 ≤ n ∧ n ≤ 999 ∧ Hid (n < 10 ^ k) ∧ Hid (n = A k) ∧ Hid (∀ j, 2 ≤ j → j < 2 + k → j < s.size → valI (byt s j) < 10)) (fun _ iv => 5 - (intOf iv).toNat)
    case atStart => exact ⟨0, 0, by omega, rfl, rfl, by omega, by omega, (by decide : (0 : Int) < 10 ^ 0), HA0.out.symm, (fun j h1 h2 _ => by omega : ∀ j, 2 ≤ j → j < 2 + 0 → j < s.size → valI (byt s j) < 10)⟩
    case round =>
      obtain ⟨k, n, hk, rfl, rfl, n0, n1, hp, hst, hall⟩ := hrel
      by_cases hk3 : k < 3
      · have hn99 : n ≤ 99 := by
          have := hp.out
          rcases (show k = 0 ∨ k = 1 ∨ k = 2 by omega) with rfl | rfl | rfl <;> omega
        have HP : Hid (∀ d : Int, 0 ≤ d → d ≤ 9 → 10 * n + d < 10 ^ (k + 1)) := by
          show ∀ d : Int, _
          intro d h0 h9
          have := hp.out
          rw [Int.pow_succ]
          omega
        have c5 : decide ((2 : Int) + (k : Int) < 5) = true := decide_eq_true (by omega)
        by_cases hlt : 2 + k < s.size
        · have cl : decide ((2 : Int) + (k : Int) < (s.size : Int)) = true := decide_eq_true (by omega)
          have hbk : ((s[2 + k]'hlt).toNat : Int) = byt s (2 + k) := byt_at s (2 + k) hlt
          obtain ⟨b0, b255⟩ := byt_bd s (2 + k)
          have HG : Hid (G k = byt s (2 + k) - 48) := (by rw [HDg.out, if_pos hlt] : G k = _)
          have HBd : Hid (10 ≤ valI (byt s (2 + k)) → Q = (0, 71)) := HBad.out (2 + k) (by omega) hlt
          generalize hc : byt s (2 + k) = c at *
          have Hc : Hid (byt s (2 + k) = c) := hc
          clear hc
          have HI := IsDigit_any c b0 b255 w
          cases hd : digI c
          · rw [hd] at HI
            have HF := HBd.out (ndig_val hd)
            go_wp2_with (go_at_call 54; refine HI.mono ?_; rintro e w2 ⟨rfl, rfl⟩)
            go_ret2
            rw [HF]
            exact ⟨rfl, rfl⟩
          · rw [hd] at HI
            have hr : 48 ≤ c ∧ c ≤ 57 := by unfold digI at hd; simpa using hd
            obtain ⟨r0, r9⟩ := hr
            have HV := dig_val hd
            go_wp2_with (go_at_call 54; refine HI.mono ?_; rintro e w2 ⟨rfl, rfl⟩)
            go_round
            case measure => simp [intOf]; omega
            case rel =>
              refine ⟨k + 1, 10 * n + (c - 48), by omega, by simp; omega, rfl, by omega, by omega, HP.out (c - 48) (by omega) (by omega), ?_, ?_⟩
              · show _ = _
                rw [HAcc.out, ← hst.out, HG.out]
              · show ∀ j, _
                intro j h1 h2 h3
                by_cases hj : j = 2 + k
                · subst hj; rw [Hc.out]; exact HV
                · exact hall.out j h1 (by omega) h3
        · have cl : decide ((2 : Int) + (k : Int) < (s.size : Int)) = false := decide_eq_false (by omega)
          have HG : Hid (G k = 0) := (by rw [HDg.out, if_neg hlt] : G k = _)
          go_wp2
          go_round
          case measure => simp [intOf]; omega
          case rel =>
            refine ⟨k + 1, 10 * n, by omega, by simp; omega, by simp, by omega, by omega, (by have := HP.out 0 (by omega) (by omega); simpa using this : 10 * n < 10 ^ (k + 1)), ?_, ?_⟩
            · show _ = _
              rw [HAcc.out, ← hst.out, HG.out]; simp
            · show ∀ j, _
              intro j h1 h2 h3
              exact hall.out j h1 (by omega) h3
      · obtain rfl : k = 3 := by omega
        have HE := HEnd.out (fun j h1 h2 => hall.out j h1 (by omega) h2)
        rw [HO.out, ← hst.out] at HE
        have HE' : Hid (Q = _) := HE
        clear HE HEnd HBad HAcc HDg HA0
        have g2 : decide ((1000 : Int) < n) = false := decide_eq_false (by omega)
        rcases (show n = 0 ∨ 0 < n by omega) with hn | hn
        · subst hn
          have g1 : decide ((1000 : Int) < 0 + 1000) = false := decide_eq_false (by omega)
          go_wp2
          go_ret2
          rw [HE'.out]
          first
            | (rw [if_neg (by first | (simp; done) | (simp; omega))]; exact ⟨by simp, rfl⟩)
            | (rw [if_neg (by first | (simp; done) | (simp; omega))]; exact ⟨by simp [Int.add_comm], rfl⟩)
        · have g1 : decide ((1000 : Int) < n + 1000) = true := decide_eq_true (by omega)
          go_wp2
          go_ret2
          rw [HE'.out]
          first
            | (rw [if_neg (by first | (simp; done) | (simp; omega))]; exact ⟨by simp, rfl⟩)
            | (rw [if_pos (by simp; omega)]; exact ⟨rfl, rfl⟩)

end Ac
end Go.Proofs.YtepidekmnkempaaDoor

/-
  The document's List.
-/
set_option linter.unusedVariables false
set_option linter.unusedSimpArgs false
namespace Go.Proofs.YtepidekmnkempaaDoor
open Go.RowKit Go.Shelf
namespace Oc

theorem unqR_q (l : List UInt8) (h : qlen l = 0) : unqR l = ([], 0, 13) := by unfold unqR; rw [if_pos h]
theorem unqR_p (l : List UInt8) (h : ¬ qlen l = 0) : ∃ x, unqR l = (x, (qlen l : Int), 0) := by unfold unqR; rw [if_neg h]; exact ⟨_, rfl⟩
theorem ownS_emptyB {B : Nat} (w : World) (hB : B ≤ w.heap.size) : OwnS B (.slice (some ⟨w.heap.size, 0, none⟩) 0 0) [] (w.alloc (.cells #[] 9)) := (ownS_empty w).lower hB

set_option maxRecDepth 100000 in
set_option maxHeartbeats 2000000 in
theorem rList_any (s : ByteArray) (hs : s.size ≤ 134217728) (w : World) :
    Calls Tryd.prog 22 #[.string s] w fun e w' => ∃ v, e = .returned (.tuple #[v, .int .i64 (listR s.data.toList).2]) ∧ OwnS w.heap.size v (listR s.data.toList).1 w' ∧ Below w.heap.size w w' := by
  go_enter Tryd.func22, Tryd.ntmps22
  go_wp2
  go_loopw [4, 5, 6] (fun lv fv av wr => ∃ (fr a : Nat) (acc : List (List UInt8)), fr ≤ a ∧ a ≤ s.size + 1 ∧ fv = .int .i64 fr ∧ av = .int .i64 a ∧ acc.length ≤ a ∧ Hid (if a ≤ s.size then lst [] s.data.toList = (lst (piece s.data.toList fr a) (s.data.toList.drop a)).map (acc ++ ·) else lst [] s.data.toList = some acc) ∧ Hid (OwnS w.heap.size lv acc wr) ∧ Hid (Below w.heap.size w wr)) (fun _ _ av _ => s.size + 1 - (intOf av).toNat)
  case atStart => exact ⟨0, 0, [], Nat.le_refl _, Nat.zero_le _, rfl, rfl, Nat.le_refl _, (by rw [if_pos (Nat.zero_le _)]; simp [piece_nil] : if 0 ≤ s.size then _ else _), ownS_empty w, (Below.refl _ w).alloc (Nat.le_refl _) _⟩
  case round =>
    obtain ⟨fr, a, acc, hfa, has, rfl, rfl, hacc, hst0, hown, hbl⟩ := hrel
    have hsz := hbl.out.size
    by_cases hle : a ≤ s.size
    · have hst : Hid (lst [] s.data.toList = (lst (piece s.data.toList fr a) (s.data.toList.drop a)).map (acc ++ ·)) := (by have h := hst0.out; rwa [if_pos hle] at h : lst [] s.data.toList = _)
      clear hst0
      have HE : Hid ((s.extract fr a).data.toList = piece s.data.toList fr a) := piece_ext s fr a
      by_cases hcm : a = s.size ∨ (∃ h : a < s.size, byt s a = 44)
      · -- an element ends here
        have HN : Hid (if a + 1 ≤ s.size then lst [] s.data.toList = (lst (piece s.data.toList (a + 1) (a + 1)) (s.data.toList.drop (a + 1))).map ((acc ++ addEl (trim (piece s.data.toList fr a)) []) ++ ·) else lst [] s.data.toList = some (acc ++ addEl (trim (piece s.data.toList fr a)) [])) := by
          show if _ then _ else _
          rcases hcm with h | ⟨h, hb⟩
          · rw [if_neg (by omega), hst.out, show s.data.toList.drop a = [] from List.drop_of_length_le (by rw [size_list]; omega), lst_nil]
            rfl
          · rw [if_pos (by omega)]
            refine lst_step _ acc fr a [] ?_
            have e := drop_cons s.data.toList a (by rw [size_list]; exact h)
            have e2 : s.data.toList.getD a 0 = 44 := UInt8.toNat_inj.1 (by unfold byt at hb; show _ = 44; omega)
            rw [hst.out, e, e2]
        have HLn : Hid ((acc ++ addEl (trim (piece s.data.toList fr a)) []).length ≤ a + 1) := by
          show List.length _ ≤ _
          have := addEl_len (trim (piece s.data.toList fr a))
          rw [List.length_append]
          omega
        have hts : (∃ h : a < s.size, ((a : Int) == (s.size : Int)) = false ∧ ((s[a].toNat : Nat) : Int) = byt s a ∧ (byt s a == 44) = true) ∨ ((a : Int) == (s.size : Int)) = true := by
          rcases hcm with h | ⟨h, hb⟩
          · right; simp [h]
          · left; exact ⟨h, by simp; omega, byt_at s a h, by simp [hb]⟩
        clear hcm
        have hle' : (a : Int) ≤ (s.size : Int) := by omega
        by_cases hz : trim (piece s.data.toList fr a) = []
        · have HZ : Hid (addEl (trim (piece s.data.toList fr a)) [] = []) := addEl_none hz []
          have HEm : Hid ((str (trim (piece s.data.toList fr a))).toList.isEmpty = true) := (by rw [str_empty]; simp [hz] : (str (trim (piece s.data.toList fr a))).toList.isEmpty = true)
          clear hz
          rcases hts with ⟨hlt, hts1, hts2, hts3⟩ | hts1
          all_goals
            go_wp2_with fail
            refine (rTrim_any (s.extract fr a) (by unfold maxLen; simp; omega) _).mono ?_
            rintro e w2 ⟨rfl, rfl⟩
            rw [HE.out]
            have hem := HEm.out
            generalize str (trim (piece s.data.toList fr a)) = x at hem ⊢
            go_wp2
            go_roundw
            case rel => exact ⟨a + 1, a + 1, _, Nat.le_refl _, by omega, by go_num, by go_num, HLn.out, HN, (by rw [HZ.out, List.append_nil]; exact hown.out : OwnS _ _ _ _), hbl⟩
            case measure => simp [intOf]; omega
        · have HZ : Hid (addEl (trim (piece s.data.toList fr a)) [] = [trim (piece s.data.toList fr a)]) := addEl_some hz []
          have hem : (str (trim (piece s.data.toList fr a))).toList.isEmpty = false := by rw [str_empty]; simp [hz]
          clear hz
          rcases hts with ⟨hlt, hts1, hts2, hts3⟩ | hts1
          all_goals
            go_wp2_with fail
            refine (rTrim_any (s.extract fr a) (by unfold maxLen; simp; omega) _).mono ?_
            rintro e w2 ⟨rfl, rfl⟩
            rw [HE.out]
            go_wp2_with (at_builtin; go_must (refine wp_appS rfl (.tmp 33) (.tmp 35) rfl w.heap.size _ acc _ (trim (piece s.data.toList fr a)) rfl hown.out rfl ?h1 ?h2 ?_))
            case h1 => omega
            case h2 => omega
            intro v' w3 hown3 hb3
            have HO3 : Hid (OwnS w.heap.size v' (acc ++ addEl (trim (piece s.data.toList fr a)) []) w3) := (by rw [HZ.out]; exact hown3 : OwnS _ _ _ _)
            have HB3 : Hid (Below w.heap.size w w3) := hbl.out.trans hb3
            clear hown3 hb3
            go_wp2
            go_roundw
            case rel => exact ⟨a + 1, a + 1, _, Nat.le_refl _, by omega, by go_num, by go_num, HLn.out, HN, HO3, HB3⟩
            case measure => simp [intOf]; omega
      · have hlt : a < s.size := by
          rcases Nat.lt_or_ge a s.size with h | h
          · exact h
          · exact absurd (.inl (by omega)) hcm
        have h44 : ¬ byt s a = 44 := fun h => hcm (.inr ⟨hlt, h⟩)
        clear hcm
        have hby : ((s[a].toNat : Nat) : Int) = byt s a := byt_at s a hlt
        have hne : ((a : Int) == (s.size : Int)) = false := by simp; omega
        have h44' : (byt s a == 44) = false := by simp [h44]
        have HC : Hid (byt s a = ((s.data.toList.getD a 0).toNat : Int)) := rfl
        have HD : Hid (s.data.toList.drop a = s.data.toList.getD a 0 :: s.data.toList.drop (a + 1)) := drop_cons _ a (by rw [size_list]; exact hlt)
        have HP : Hid (piece s.data.toList fr a ++ [s.data.toList.getD a 0] = piece s.data.toList fr (a + 1)) := piece_snoc _ fr a hfa (by rw [size_list]; exact hlt)
        generalize s.data.toList.getD a 0 = u at HC HD HP
        have HU44 : Hid (u ≠ 44) := fun e => h44 (by have := HC.out; rw [e] at this; exact this)
        clear h44
        by_cases h34 : byt s a = 34
        · have HU : Hid (u = 34) := UInt8.toNat_inj.1 (by have := HC.out; show u.toNat = 34; omega)
          have h34' : (byt s a == 34) = true := by simp [h34]
          clear h34
          have HX : Hid ((s.extract a s.size).data.toList = s.data.toList.drop a) := Lib.extract_to_end s a
          have hqb := qlen_bd (s.data.toList.drop a)
          rw [List.length_drop, size_list] at hqb
          obtain ⟨hq1, hq2⟩ := hqb
          by_cases hq : qlen (s.data.toList.drop a) = 0
          · have HN : Hid (listR s.data.toList = ([], 14)) := listR_none (by
              rw [hst.out]
              have h := hq
              rw [HD.out] at h ⊢
              rw [lst_bad _ _ _ HU.out h]
              rfl)
            have HQ : Hid (unqR (s.data.toList.drop a) = ([], 0, 13)) := unqR_q _ hq
            go_wp2_with fail
            refine (rUnquote_any (s.extract a s.size) (by simp; omega) _).mono ?_
            rintro e w2 ⟨rfl, hb2⟩
            rw [HX.out, HQ.out]
            have hs2 := hb2.size
            go_wp2
            go_ret2
            rw [HN.out]
            exact ⟨_, rfl, ownS_emptyB _ (by omega), (hbl.out.trans (hb2.mono hsz)).alloc (by omega) _⟩
          · have hq3 := hq2 hq
            have HN : Hid (lst [] s.data.toList = (lst (piece s.data.toList fr (a + qlen (s.data.toList.drop a))) (s.data.toList.drop (a + qlen (s.data.toList.drop a)))).map (acc ++ ·)) := by
              show lst _ _ = _
              rw [← piece_app _ fr a _ hfa, ← List.drop_drop]
              have h := hst.out
              have hq' := hq
              rw [HD.out] at h hq'
              rw [lst_quote _ _ _ HU.out hq', ← HD.out] at h
              exact h
            obtain ⟨x, hx⟩ := unqR_p _ hq
            have HQ : Hid (unqR (s.data.toList.drop a) = (x, (qlen (s.data.toList.drop a) : Int), 0)) := hx
            clear hq2 hx
            go_wp2_with fail
            refine (rUnquote_any (s.extract a s.size) (by simp; omega) _).mono ?_
            rintro e w2 ⟨rfl, hb2⟩
            rw [HX.out, HQ.out]
            have HO2 : Hid (OwnS w.heap.size _ acc w2) := hown.out.below hb2
            have HB2 : Hid (Below w.heap.size w w2) := hbl.out.trans (hb2.mono hsz)
            clear hb2
            generalize qlen (s.data.toList.drop a) = n at *
            go_wp2
            go_roundw
            case rel => exact ⟨fr, a + n, acc, by omega, by omega, rfl, by go_num, by omega, (by show if _ then _ else _; rw [if_pos (by omega)]; exact HN.out), HO2, HB2⟩
            case measure => simp [intOf]; omega
        · have h34' : (byt s a == 34) = false := by simp [h34]
          have HU34 : Hid (u ≠ 34) := fun e => h34 (by have := HC.out; rw [e] at this; exact this)
          clear h34
          have HN : Hid (lst [] s.data.toList = (lst (piece s.data.toList fr (a + 1)) (s.data.toList.drop (a + 1))).map (acc ++ ·)) := by
            show lst _ _ = _
            rw [hst.out, HD.out, lst_on _ _ _ HU44.out HU34.out, HP.out]
          go_wp2
          go_roundw
          case rel => exact ⟨fr, a + 1, acc, by omega, by omega, rfl, by go_num, by omega, (by show if _ then _ else _; rw [if_pos (by omega)]; exact HN.out), hown, hbl⟩
          case measure => simp [intOf]; omega
    · have HN : Hid (listR s.data.toList = (acc, 0)) := listR_some (by have h := hst0.out; rwa [if_neg hle] at h)
      have hle' : ¬ (a : Int) ≤ (s.size : Int) := by omega
      go_wp2
      go_ret2
      rw [HN.out]
      exact ⟨_, rfl, hown.out, hbl.out⟩

end Oc
end Go.Proofs.YtepidekmnkempaaDoor

/-
  The document's blanks, signs, Params.
-/
set_option linter.unusedVariables false
set_option linter.unusedSimpArgs false
namespace Go.Proofs.YtepidekmnkempaaDoor
open Go.RowKit Go.Shelf
namespace Oc

theorem drop_getD (l : List UInt8) (a j : Nat) : (l.drop a).getD j 0 = l.getD (a + j) 0 := by
  rw [List.getD_eq_getElem?_getD, List.getD_eq_getElem?_getD, List.getElem?_drop]
theorem ext_take (s : ByteArray) (i n : Nat) : s.extract i (i + n) = str ((s.data.toList.drop i).take n) := by
  apply eq_list
  rw [str_list, Lib.extract_data, show i + n - i = n by omega]

set_option maxRecDepth 100000 in
set_option maxHeartbeats 1000000 in
theorem blanks_any (s : ByteArray) (hs : s.size ≤ 134217728) (a : Nat) (ha : a ≤ s.size) (w : World) :
    Calls Tryd.prog 56 #[.string s, .int .i64 (a : Int)] w fun e w' => e = .returned (.int .i64 (bl (s.data.toList.drop a))) ∧ w' = w := by
  have HL : Hid ((s.data.toList.drop a).length = s.size - a) := (by simp : (s.data.toList.drop a).length = s.size - a)
  go_enter Tryd.func56, Tryd.ntmps56
  go_wp2
  go_loop [5] (fun nv => ∃ k : Nat, k ≤ s.size - a ∧ nv = .int .i64 k ∧ Hid (∀ j, j < k → blankB ((s.data.toList.drop a).getD j 0) = true)) (fun nv => s.size - a - (intOf nv).toNat)
  case atStart => exact ⟨0, Nat.zero_le _, rfl, (fun j hj => by omega : ∀ j, j < 0 → _)⟩
  case round =>
    obtain ⟨k, hk, rfl, hall⟩ := hrel
    by_cases hlt : k < s.size - a
    · have hlt2 : a + k < s.size := by omega
      have hby : ((s[a + k].toNat : Nat) : Int) = byt s (a + k) := byt_at s (a + k) hlt2
      obtain ⟨b0, b1⟩ := byt_bd s (a + k)
      have HC : Hid (blankB ((s.data.toList.drop a).getD k 0) = blankI (byt s (a + k))) := (by rw [drop_getD]; rfl : blankB _ = _)
      cases hb : blankI (byt s (a + k)) with
      | true =>
        have HA : Hid (∀ j, j < k + 1 → blankB ((s.data.toList.drop a).getD j 0) = true) := by
          intro j hj
          by_cases hjk : j = k
          · subst hjk; rw [HC.out]; exact hb
          · exact hall.out j (by omega)
        go_wp2_with (go_at_call 34; refine (IsBlank_any _ (by omega) (by omega) _).mono ?_; rintro e w' ⟨rfl, rfl⟩)
        go_round
        case rel => exact ⟨k + 1, by omega, by go_num, HA⟩
        case measure => simp [intOf]; omega
      | false =>
        have HN : Hid (bl (s.data.toList.drop a) = k) := tw_stop blankB 0 _ k (by rw [HL.out]; exact hlt) hall.out (by rw [HC.out]; exact hb)
        go_wp2_with (go_at_call 34; refine (IsBlank_any _ (by omega) (by omega) _).mono ?_; rintro e w' ⟨rfl, rfl⟩)
        go_ret
        exact ⟨ret_int (by rw [HN.out]), rfl⟩
    · have HN : Hid (bl (s.data.toList.drop a) = k) := (tw_all blankB 0 _ (fun j hj => hall.out j (by rw [HL.out] at hj; omega))).trans (by rw [HL.out]; omega)
      have hge : ¬ ((a : Int) + (k : Int) < (s.size : Int)) := by omega
      go_wp2
      go_ret
      exact ⟨ret_int (by rw [HN.out]), rfl⟩

set_option maxRecDepth 100000 in
set_option maxHeartbeats 1000000 in
theorem signs_any (s : ByteArray) (hs : s.size ≤ 134217728) (a : Nat) (ha : a ≤ s.size) (w : World) :
    Calls Tryd.prog 57 #[.string s, .int .i64 (a : Int)] w fun e w' => e = .returned (.int .i64 (tokLen (s.data.toList.drop a))) ∧ w' = w := by
  have HL : Hid ((s.data.toList.drop a).length = s.size - a) := (by simp : (s.data.toList.drop a).length = s.size - a)
  go_enter Tryd.func57, Tryd.ntmps57
  go_wp2
  go_loop [5] (fun nv => ∃ k : Nat, k ≤ s.size - a ∧ nv = .int .i64 k ∧ Hid (∀ j, j < k → tokB ((s.data.toList.drop a).getD j 0) = true)) (fun nv => s.size - a - (intOf nv).toNat)
  case atStart => exact ⟨0, Nat.zero_le _, rfl, (fun j hj => by omega : ∀ j, j < 0 → _)⟩
  case round =>
    obtain ⟨k, hk, rfl, hall⟩ := hrel
    by_cases hlt : k < s.size - a
    · have hlt2 : a + k < s.size := by omega
      have hby : ((s[a + k].toNat : Nat) : Int) = byt s (a + k) := byt_at s (a + k) hlt2
      obtain ⟨b0, b1⟩ := byt_bd s (a + k)
      have HC : Hid (tokB ((s.data.toList.drop a).getD k 0) = tokI (byt s (a + k))) := (by rw [drop_getD]; rfl : tokB _ = _)
      cases hb : tokI (byt s (a + k)) with
      | true =>
        have HA : Hid (∀ j, j < k + 1 → tokB ((s.data.toList.drop a).getD j 0) = true) := by
          intro j hj
          by_cases hjk : j = k
          · subst hjk; rw [HC.out]; exact hb
          · exact hall.out j (by omega)
        go_wp2_with (go_at_call 31; refine (IsSign_any _ (by omega) (by omega) _).mono ?_; rintro e w' ⟨rfl, rfl⟩)
        go_round
        case rel => exact ⟨k + 1, by omega, by go_num, HA⟩
        case measure => simp [intOf]; omega
      | false =>
        have HN : Hid (tokLen (s.data.toList.drop a) = k) := tw_stop tokB 0 _ k (by rw [HL.out]; exact hlt) hall.out (by rw [HC.out]; exact hb)
        go_wp2_with (go_at_call 31; refine (IsSign_any _ (by omega) (by omega) _).mono ?_; rintro e w' ⟨rfl, rfl⟩)
        go_ret
        exact ⟨ret_int (by rw [HN.out]), rfl⟩
    · have HN : Hid (tokLen (s.data.toList.drop a) = k) := (tw_all tokB 0 _ (fun j hj => hall.out j (by rw [HL.out] at hj; omega))).trans (by rw [HL.out]; omega)
      have hge : ¬ ((a : Int) + (k : Int) < (s.size : Int)) := by omega
      go_wp2
      go_ret
      exact ⟨ret_int (by rw [HN.out]), rfl⟩

end Oc
end Go.Proofs.YtepidekmnkempaaDoor
