/- Several texts as one. -/
import Derived.Test.YtlnlhhobmgiceaaGreatDoorMgU
import Derived.Test.YtlnlhhobmgiceaaGreatDoorMgM
import Derived.Deep.QuietTactic
import Derived.Test.YtlnlhhobmgiceaaGreatDoorSrX
import Derived.Test.YtlnlhhobmgiceaaGreatDoorDsC
import Derived.Test.YtlnlhhobmgiceaaGreatDoorMgK
import Derived.Laws.AppendOwnNone
/-
  sheet: the law's parts (out of tplsht's WrA).
-/
set_option linter.unusedVariables false
set_option linter.unusedSimpArgs false
namespace Go.Proofs.YtlnlhhobmgiceaaGreatDoor
open Go.RowKit Go.Shelf
namespace Wr
open Oc Tg Pt

set_option maxRecDepth 100000 in
set_option maxHeartbeats 4000000 in
theorem parts15_any (v1 v2 : Value) (t : List P5) (w : World) (h1 : RdT v1 t w) (h2 : RdT v2 t w) (hl : t.length ≤ 4294967296) :
    Calls Tryz.prog 11 #[v1, v2] w fun e w' => e = .returned (.bool true) ∧ ∃ n, w' = w.drewN n := by
  obtain ⟨a1, c1, rfl, h1⟩ := h1
  obtain ⟨a2, c2, rfl, h2⟩ := h2
  have hne : ((t.length : Int) != (t.length : Int)) = false := by simp
  go_enter Tryz.func11, Tryz.ntmps11
  go_wp2
  go_loopw [5] (fun i wr => ∃ k : Nat, k ≤ t.length ∧ i = .int .i64 k ∧ Hid (∃ n, wr = w.drewN n)) (fun i _ => t.length - (intOf i).toNat)
  case atStart => exact ⟨0, Nat.zero_le _, rfl, (⟨0, rfl⟩ : ∃ n, w = w.drewN n)⟩
  case round =>
    obtain ⟨k, hk, rfl, hw⟩ := hrel
    obtain ⟨n, rfl⟩ := hw.out
    clear hw
    by_cases hlt : k < t.length
    · rcases h1 with h | ⟨g1, o1, rfl, hc1, hcell1⟩
      · rw [h] at hlt; simp at hlt
      rcases h2 with h | ⟨g2, o2, rfl, hc2, hcell2⟩
      · rw [h] at hlt; simp at hlt
      obtain ⟨p0, p1, p2, p3, p4⟩ := hcell1 k hlt
      obtain ⟨q0, q1, q2, q3, q4⟩ := hcell2 k hlt
      clear hcell1 hcell2
      generalize str (nthT t k).n = x0 at p0 q0
      generalize str (nthT t k).f = x1 at p1 q1
      generalize str (nthT t k).m = x2 at p2 q2
      generalize str (nthT t k).b = x3 at p3 q3
      generalize (nthT t k).h = z at p4 q4
      have hz : (z != z) = false := by simp
      go_wp2_with fail
      go_quiet (fail)
      go_wp2
      go_roundw
      case rel => exact ⟨k + 1, by omega, by go_num, Tg.drawn_again w _ _⟩
      case measure => simp [intOf]; omega
    · go_wp2
      go_ret
      exact ⟨rfl, _, rfl⟩

end Wr
end Go.Proofs.YtlnlhhobmgiceaaGreatDoor

/-
  The law SheetParses, walked.
-/
set_option linter.unusedVariables false
set_option linter.unusedSimpArgs false
namespace Go.Proofs.YtlnlhhobmgiceaaGreatDoor
open Go.RowKit Go.Shelf
namespace Sr
open Oc Tg Mf

theorem prsP_len (l mk : List UInt8) (most : Nat) : ∀ (f : Nat) (ps : List Pt.P5) (a : Nat), (prsP l mk most f ps a).1.length ≤ ps.length + f
  | 0, ps, a => by simp [prsP]
  | f + 1, ps, a => by
    rw [prsP]
    split
    · simp
    · split
      · simp
      · split
        · simp
        · split
          · simp
          · have := prsP_len l mk most f (ps ++ [(prtP l mk (tkP l a mk.length (decide (0 < ps.length))).2.2).1]) (prtP l mk (tkP l a mk.length (decide (0 < ps.length))).2.2).2.2
            rw [List.length_append] at this
            simp at this
            omega
theorem parR_len (b s : List UInt8) (most : Int) : (parR b s most).1.length ≤ s.length + 1 := by
  unfold parR
  split
  · simp
  · split
    · simp
    · dsimp only
      unfold allP
      split
      · simp
      · have := prsP_len s ([45, 45] ++ b) most.toNat (s.length + 1) [] (preP s ([45, 45] ++ b)).2
        simp at this
        simpa using this

end Sr
end Go.Proofs.YtlnlhhobmgiceaaGreatDoor

/-
  The law SheetDisposes.
-/
set_option linter.unusedVariables false
set_option linter.unusedSimpArgs false
namespace Go.Proofs.YtlnlhhobmgiceaaGreatDoor
open Go.RowKit Go.Shelf
namespace Ds
open Oc

theorem rdq {v : Value} {t : List Prm} {w : World} (h : RdP v t w) : Tg.RdQ v t w := h
theorem disR_len (l : List UInt8) : (disR l).2.1.length ≤ l.length := by
  unfold disR
  dsimp only
  split
  · exact Nat.zero_le _
  · show (List.map lowN _).length ≤ _
    rw [List.length_map]
    have h1 := paramsR_short ((trim l).drop (tokLen (trim l)))
    have h2 := trim_le l
    rw [List.length_drop] at h1
    omega

end Ds
end Go.Proofs.YtlnlhhobmgiceaaGreatDoor

/-
  A slice of texts appended to one of the call's own.
-/
set_option linter.unusedVariables false
set_option linter.unusedSimpArgs false
namespace Go.Proofs.YtlnlhhobmgiceaaGreatDoor
open Go.RowKit Go.Shelf
namespace Oc

theorem wpList_wanted {P : Program} {ops : Array Oper} {rest : List Oper} {o : Oper} {a : Act} {w : World} {Q : Exit → Act → World → Prop} (hw : Region.wanted o (yielded ops a.tmps) = true)
    (h : o.wp P a w (wpList P ops Q rest) Q) : wpList P ops Q (o :: rest) a w := by
  rw [wpList, if_pos hw]
  exact .inl h

theorem wp_appR {ops : Array Oper} {rest : List Oper} {o : Oper} {a : Act} {W : World} {Q : Exit → Act → World → Prop} (hw : Region.wanted o (yielded ops a.tmps) = true) (s x : Operand)
    (ho : o.op = .call { callee := .builtin .append, args := #[s, x], argTypes := #[81, 81] }) (B : Nat) (v y : Value) (t u : List (List UInt8))
    (hs : a.eval s = v) (hown : OwnS B v t W) (hx : a.eval x = y) (hy : RdS y u W) (hnil : u = [] → y = .slice none 0 0 ∨ ∃ g c, y = .slice (some g) 0 c) (hlen : t.length + u.length ≤ 4294967296) (hB : B ≤ W.heap.size)
    (h : ∀ v' w', OwnS B v' (t ++ u) w' → Below B W w' → wpList Tryz.prog ops Q rest (a.put o.dst v') w') : wpList Tryz.prog ops Q (o :: rest) a W := by
  obtain ⟨i0, hi, hz0, hz1, hz2⟩ := infoS
  refine wpList_wanted hw ?_
  have own' : ∀ (ad : Addr) (c : Nat), y = .slice (some ad) u.length c → (∀ j, j < u.length → W.cell? (ad.add j) = some (.string (str (u.getD j [])))) → o.wp Tryz.prog a W (wpList Tryz.prog ops Q rest) Q := by
    intro ad c ey hcell
    refine wp_append_own W s x 81 ho B 9 i0 (.string ⟨#[]⟩) 1 16 Tryz.underlying81 hi hz0 hz1 hz2 rfl (by decide) v t.length _ hs hown ad u.length c (encS u) (hx.trans ey) (by simp [encS]) ?_ ?_ ?_ ?_ hB ?_
    · intro j z hj
      have hjl : j < u.length := by
        have := (List.getElem?_eq_some_iff.1 hj).1
        simpa [encS] using this
      rw [hcell j hjl]
      unfold encS at hj
      rw [List.getElem?_map, List.getElem?_eq_getElem hjl] at hj
      rw [List.getD_eq_getElem?_getD, List.getElem?_eq_getElem hjl]
      simpa using hj
    · intro z hz
      unfold encS at hz
      obtain ⟨l, _, rfl⟩ := List.mem_map.1 hz
      rfl
    · unfold maxLen; omega
    · omega
    · intro v' w' h1 h2 _
      refine h v' w' ?_ ((Below.refl B W).grown h2 hB (fun k hk => (World.ownsRow.lt hown k hk).1))
      unfold OwnS
      rw [List.length_append]
      simpa [encS] using h1
  obtain ⟨a2, c2, rfl, hr⟩ := hy
  by_cases hu : u = []
  · subst hu
    rcases hnil rfl with e | ⟨g, c, e⟩
    · have hrun := run_append_owned_none (P := Tryz.prog) (w := W) B 81 o.type 9 i0 1 Tryz.underlying81 hi v t.length _ hown
      have hx' : a.eval x = .slice none 0 0 := hx.trans e
      unfold Oper.wp
      simp [execOp, ho, resolve, invoke, builtin, hs, hx', hrun, Result.andThen]
      have := h v W (by simpa using hown) (Below.refl _ _)
      exact this
    · exact own' g c e (fun j hj => by simp at hj)
  · rcases hr with hr | ⟨g, o', rfl, hc, hcell⟩
    · exact absurd hr hu
    · refine own' ⟨g, o', none⟩ c2 rfl (fun j hj => ?_)
      have ea : Addr.add ⟨g, o', none⟩ j = ⟨g, o' + j, none⟩ := by unfold Addr.add; split <;> simp_all
      rw [ea]
      exact hcell j hj
theorem OwnS.nilish {B : Nat} {v : Value} {t : List (List UInt8)} {w : World} (h : OwnS B v t w) : t = [] → v = .slice none 0 0 ∨ ∃ g c, v = .slice (some g) 0 c := by
  intro e
  subst e
  rcases h.2 with ⟨rfl, _⟩ | ⟨g, cap, cur, rfl, _⟩
  · exact .inl rfl
  · exact .inr ⟨_, _, rfl⟩

theorem listR_split {a b : List UInt8} (ha : (listR a).2 = 0) (hb : (listR b).2 = 0) : listR (a ++ 44 :: b) = ((listR a).1 ++ (listR b).1, 0) := by
  unfold listR at *
  cases h1 : lst [] a with
  | none => rw [h1] at ha; cases ha
  | some t =>
    cases h2 : lst [] b with
    | none => rw [h2] at hb; cases hb
    | some u =>
      rw [lst_split a.length a [] b t (Nat.le_refl _) h1, h2]
      rfl

end Oc
end Go.Proofs.YtlnlhhobmgiceaaGreatDoor
