/-
  Of the document: HostPort; the law TargetHosts.
-/
import Derived.Test.YtpnijigjlhfklaaGreatDoorGHf
import Derived.Test.YtpnijigjlhfklaaGreatDoorGAw
set_option linter.unusedVariables false
set_option linter.unusedSimpArgs false
set_option maxRecDepth 100000
namespace Go.Proofs.YtpnijigjlhfklaaGreatDoor
open Go.RowKit Go.Shelf
namespace Tg
open Oc

/-- The document's way: where a bracket opens, and where it does not. -/
def tailR (host port : List UInt8) (has : Bool) : List UInt8 × Int × Int :=
  if has = false ∨ port = [] then (lower host, -1, 0)
  else if (numR 10 port 65535).2 ≠ 0 ∨ 5 < port.length then ([], 0, 52) else (lower host, (numR 10 port 65535).1, 0)
def hpR (l : List UInt8) : List UInt8 × Int × Int :=
  if l.head? = some 91 then
    (if Tg.has 93 (l.drop 1) = false ∨ addrR (cutA 93 (l.drop 1)) = false ∨ (cutB 93 (l.drop 1) ≠ [] ∧ (cutB 93 (l.drop 1)).head? ≠ some 58) then ([], 0, 52)
     else tailR (l.take ((cutA 93 (l.drop 1)).length + 2)) ((cutB 93 (l.drop 1)).drop 1) (decide (cutB 93 (l.drop 1) ≠ [])))
  else if (decide (cutA 58 l ≠ []) && allOk nameOk (cutA 58 l)) = false then ([], 0, 52) else tailR (cutA 58 l) (cutB 58 l) (Tg.has 58 l)

theorem pre_one (l : List UInt8) (b : UInt8) : Lib.hasPrefix l [b] = decide (l.head? = some b) := by
  unfold Lib.hasPrefix
  cases l with
  | nil => rfl
  | cons x t =>
    simp only [List.isPrefixOf, List.head?_cons, Bool.and_true, Option.some.injEq]
    rw [Bool.eq_iff_iff, beq_iff_eq, decide_eq_true_iff]
    exact eq_comm
theorem ib_one (l : List UInt8) (b : UInt8) : Lib.indexByte l b = if Tg.has b l then ((cutA b l).length : Int) else -1 := by
  rw [← Lib.index_one]
  exact index_one b l
/-- A port behind ':' or none at all. -/
theorem port_is (h p : List UInt8) (b : Bool) (hb : b = false → p = []) : (if (portR (if b then 58 :: p else [])).2 = false then (([], 0, 52) : List UInt8 × Int × Int) else (lower h, (portR (if b then 58 :: p else [])).1, 0)) = tailR h p b := by
  have p1 : portR [] = (-1, true) := by unfold portR; rw [if_pos (Or.inl rfl)]
  have p2 : portR [58] = (-1, true) := by unfold portR; rw [if_pos (Or.inr rfl)]
  unfold tailR
  cases b with
  | false =>
    show (if (portR []).2 = false then (([], 0, 52) : List UInt8 × Int × Int) else (lower h, (portR []).1, 0)) = _
    rw [p1, if_neg (by simp), if_pos (Or.inl rfl)]
  | true =>
    show (if (portR (58 :: p)).2 = false then (([], 0, 52) : List UInt8 × Int × Int) else (lower h, (portR (58 :: p)).1, 0)) = _
    by_cases hp : p = []
    · subst hp
      rw [p2, if_neg (by simp), if_pos (Or.inr rfl)]
    · have e1 : Lib.hasPrefix (58 :: p) [58] = true := by simp [Lib.hasPrefix, List.isPrefixOf]
      have e2 : Lib.trimPrefix (58 :: p) [58] = p := by unfold Lib.trimPrefix; rw [e1]; rfl
      have e3 : portR (58 :: p) = if 5 < p.length then (0, false) else ((numR 10 p 65535).1, decide ((numR 10 p 65535).2 = 0)) := by
        unfold portR
        rw [if_neg (by simp [hp]), e1, e2]
        by_cases h5 : 5 < p.length
        · rw [if_pos (Or.inr h5), if_pos h5]
        · rw [if_neg (by simp [h5]), if_neg h5]
      rw [e3]
      rw [if_neg (show ¬ (true = false ∨ p = []) by simp [hp])]
      by_cases h5 : 5 < p.length
      · rw [if_pos h5, if_pos rfl, if_pos (Or.inr h5)]
      · rw [if_neg h5]
        by_cases hn : (numR 10 p 65535).2 = 0
        · rw [if_neg (show ¬ (decide ((numR 10 p 65535).2 = 0) = false) by simp [hn]), if_neg (by simp [hn, h5])]
        · rw [if_pos (show decide ((numR 10 p 65535).2 = 0) = false by simp [hn]), if_pos (Or.inl hn)]
theorem port_bad (l : List UInt8) (h0 : l ≠ []) (h : l.head? ≠ some 58) : (portR l).2 = false := by
  have e1 : Lib.hasPrefix l [58] = false := by rw [pre_one]; simp [h]
  unfold portR
  rw [if_neg (by
    rintro (e | e)
    · exact h0 e
    · rw [e] at h; exact h rfl), if_pos (.inl e1)]
theorem or_if (p q : Prop) [Decidable p] [Decidable q] {α : Type} (a b : α) : (if p ∨ q then a else b) = if q then a else if p then a else b := by
  by_cases hp : p <;> by_cases hq : q <;> simp [hp, hq]

theorem cut_d (b : UInt8) (t A B : List UInt8) (h : t = A ++ b :: B) : t.drop (A.length + 1) = B := by subst h; simp
theorem cut_k (b : UInt8) (t A B : List UInt8) (h : t = A ++ b :: B) : t.take (A.length + 1) = A ++ [b] := by subst h; rw [List.take_append, List.take_of_length_le (by omega), show A.length + 1 - A.length = 1 by omega]; rfl
theorem cut_k0 (b : UInt8) (t A B : List UInt8) (h : t = A ++ b :: B) : t.take A.length = A := by subst h; simp
theorem cut_d0 (b : UInt8) (t A B : List UInt8) (h : t = A ++ b :: B) : t.drop A.length = b :: B := by subst h; simp
theorem cut_no (b : UInt8) (l : List UInt8) (hs : Tg.has b l = false) : cutA b l = l ∧ cutB b l = [] := by
  have hc := cut_one b l
  unfold Lib.cut at hc
  rw [show Lib.index l [b] = -1 by rw [index_one, hs]; rfl, if_neg (by omega)] at hc
  exact ⟨(congrArg Prod.fst hc).symm, (congrArg (fun x => x.2.1) hc).symm⟩

theorem auth_hp (l : List UInt8) : authP l = hpR l := by
  unfold authP hpR
  by_cases hb : l.head? = some 91
  · have hp : Lib.hasPrefix l [91] = true := by rw [pre_one]; simp [hb]
    obtain ⟨t, rfl⟩ : ∃ t, l = 91 :: t := by
      cases l with
      | nil => cases hb
      | cons x t => injection hb with e; exact ⟨t, by rw [e]⟩
    rw [if_pos hb]
    have hib := ib_one (91 :: t) 93
    have hh : Tg.has 93 (91 :: t) = Tg.has 93 t := by simp [Tg.has]
    have hA : cutA 93 (91 :: t) = 91 :: cutA 93 t := by simp [cutA]
    rw [hh, hA] at hib
    show (if _ then _ else _) = (if Tg.has 93 t = false ∨ addrR (cutA 93 t) = false ∨ (cutB 93 t ≠ [] ∧ (cutB 93 t).head? ≠ some 58) then _ else tailR ((91 :: t).take ((cutA 93 t).length + 2)) ((cutB 93 t).drop 1) (decide (cutB 93 t ≠ [])))
    cases hs : Tg.has 93 t with
    | false =>
      rw [hs] at hib
      have hl : hlR (91 :: t) = 0 := by unfold hlR; rw [hp, if_pos rfl, hib]; rfl
      rw [hl, if_pos (.inl (port_bad _ (by simp) (by simp))), if_pos (.inl rfl)]
    | true =>
      rw [hs, if_pos rfl] at hib
      have hl : hlR (91 :: t) = (cutA 93 t).length + 2 := by
        unfold hlR
        rw [hp, if_pos rfl, hib]
        simp only [List.length_cons]
        omega
      have ha := cut_app 93 t hs
      have hd : (91 :: t).drop ((cutA 93 t).length + 2) = cutB 93 t := by
        rw [show (cutA 93 t).length + 2 = ((cutA 93 t).length + 1) + 1 from rfl, List.drop_succ_cons]
        exact cut_d 93 t _ _ ((cut_app 93 t hs).symm)
      have htk : (91 :: t).take ((cutA 93 t).length + 2) = 91 :: (cutA 93 t ++ [93]) := by
        rw [show (cutA 93 t).length + 2 = ((cutA 93 t).length + 1) + 1 from rfl, List.take_succ_cons]
        rw [cut_k 93 t _ _ ((cut_app 93 t hs).symm)]
      have hho : hostR ((91 :: t).take ((cutA 93 t).length + 2)) = addrR (cutA 93 t) := by
        rw [htk]
        unfold hostR
        have q1 : Lib.hasPrefix (91 :: (cutA 93 t ++ [93])) [91] = true := by rw [pre_one]; rfl
        have q2 : Lib.hasSuffix (91 :: (cutA 93 t ++ [93])) [93] = true := by
          unfold Lib.hasSuffix
          rw [List.isSuffixOf_iff_suffix]
          exact ⟨91 :: cutA 93 t, rfl⟩
        rw [q1, q2, if_pos (by rfl)]
        congr 1
        simp
      rw [hl, hd, hho]
      by_cases had : addrR (cutA 93 t) = false
      · rw [if_pos (.inr had), if_pos (.inr (.inl had))]
      · by_cases hr : cutB 93 t ≠ [] ∧ (cutB 93 t).head? ≠ some 58
        · rw [if_pos (.inl (port_bad _ hr.1 hr.2)), if_pos (.inr (.inr hr))]
        · rw [if_neg (show ¬ (true = false ∨ addrR (cutA 93 t) = false ∨ (cutB 93 t ≠ [] ∧ (cutB 93 t).head? ≠ some 58)) by
            rintro (e | e | e)
            · cases e
            · exact had e
            · exact hr e)]
          have hq : cutB 93 t = if decide (cutB 93 t ≠ []) then 58 :: (cutB 93 t).drop 1 else [] := by
            cases hc : cutB 93 t with
            | nil => rfl
            | cons x r =>
              rw [hc] at hr
              have : x = 58 := by
                by_cases hx : x = 58
                · exact hx
                · exact absurd ⟨by simp, by simpa using hx⟩ hr
              subst this
              rfl
          have := port_is ((91 :: t).take ((cutA 93 t).length + 2)) ((cutB 93 t).drop 1) (decide (cutB 93 t ≠ [])) (fun e => by
            have : cutB 93 t = [] := by simpa using e
            rw [this]; rfl)
          rw [← hq] at this
          rw [← this]
          rw [or_if, if_neg had]
  · have hp : Lib.hasPrefix l [91] = false := by rw [pre_one]; simp [hb]
    rw [if_neg hb]
    have hib := ib_one l 58
    have hl : hlR l = (cutA 58 l).length := by
      unfold hlR
      rw [hp, if_neg (by simp), hib]
      cases hs : Tg.has 58 l with
      | true => rw [if_pos rfl, if_pos (by omega)]; omega
      | false =>
        rw [hs, if_neg (by simp)] at hib
        rw [if_neg (by simp), (cut_no 58 l hs).1]
    have htk : l.take (cutA 58 l).length = cutA 58 l := by
      cases hs : Tg.has 58 l with
      | true => exact cut_k0 58 l _ _ ((cut_app 58 l hs).symm)
      | false => rw [(cut_no 58 l hs).1, List.take_length]
    have hd : l.drop (cutA 58 l).length = if Tg.has 58 l then 58 :: cutB 58 l else [] := by
      cases hs : Tg.has 58 l with
      | true => rw [cut_d0 58 l _ _ ((cut_app 58 l hs).symm)]; rfl
      | false => rw [(cut_no 58 l hs).1, List.drop_length]; rfl
    have hho : hostR (cutA 58 l) = (decide (cutA 58 l ≠ []) && allOk nameOk (cutA 58 l)) := by
      unfold hostR
      have : Lib.hasPrefix (cutA 58 l) [91] = false := by
        rw [pre_one]
        cases l with
        | nil => rfl
        | cons x t =>
          have hx : x ≠ 91 := fun e => hb (by rw [e]; rfl)
          by_cases h58 : x = 58
          · subst h58; rfl
          · have : cutA 58 (x :: t) = x :: cutA 58 t := by simp [cutA, h58]
            rw [this]
            simp [hx]
      rw [this, Bool.false_and, if_neg (by simp)]
    have hcb : Tg.has 58 l = false → cutB 58 l = [] := fun hs => (cut_no 58 l hs).2
    rw [hl, htk, hd, hho, or_if]
    have := port_is (cutA 58 l) (cutB 58 l) (Tg.has 58 l) hcb
    rw [this]

end Tg
end Go.Proofs.YtpnijigjlhfklaaGreatDoor
