/-
  tag: Parse, Print; the document's.
-/
import Derived.Test.YtjngpafokkjkdaaGreatDoorTRd
set_option linter.unusedVariables false
set_option linter.unusedSimpArgs false
namespace Go.Proofs.YtjngpafokkjkdaaGreatDoor
open Go.RowKit
namespace Tt
open Oc

theorem TB.new (T : Nat) (w : World) (b : Bool) (s : ByteArray) : TB T (w.alloc (.cells #[.bool b, .string s] T)) w.heap.size (b, s.data.toList) := by
  unfold TB
  rw [str_self]
  exact heap_alloc_new w _

theorem TB.read {T : Nat} {w : World} {g : Nat} {t : Tg1} (h : TB T w g t) (b : Bool) (S : ByteArray) (o : Obj) :
    (((w.setCell ⟨g, 0, none⟩ (.bool b)).setCell ⟨g, 1, none⟩ (.string S)).alloc o).cell? ⟨g, 0, none⟩ = some (.bool b) ∧ (((w.setCell ⟨g, 0, none⟩ (.bool b)).setCell ⟨g, 1, none⟩ (.string S)).alloc o).cell? ⟨g, 1, none⟩ = some (.string S) := by
  have h2 := ((h.set0 b).set1 S.data.toList)
  rw [str_self] at h2
  have h3 := h2.alloc o
  have e := h3.c1
  rw [str_self] at e
  exact ⟨h3.c0, e⟩

set_option maxRecDepth 100000 in
set_option maxHeartbeats 1000000 in
theorem Parse_any (s : ByteArray) (hs : s.size ≤ 4000000000) (w : World) :
    Calls Tryz.prog 12 #[.string s] w fun e w' => e = .returned (.tuple #[.agg #[.bool (parseT s.data.toList).1.1, .string (str (parseT s.data.toList).1.2)], .int .i64 ((parseT s.data.toList).2.1 : Nat), .int .i64 (parseT s.data.toList).2.2]) ∧ Below w.heap.size w w' := by
  obtain ⟨w1, hw1⟩ : ∃ w1, w1 = w.alloc (.cells #[.bool false, .string ⟨#[]⟩] 26) := ⟨_, rfl⟩
  have z1 : w1.heap.size = w.heap.size + 1 := by rw [hw1]; simp
  have HA : Hid (TB 26 w1 w.heap.size (false, [])) := (by rw [hw1]; exact heap_alloc_new w _ : TB _ _ _ _)
  have HB : Hid (Below w.heap.size w w1) := (by rw [hw1]; exact (Below.refl _ w).alloc (Nat.le_refl _) _ : Below _ _ _)
  have HF : Hid (Calls _ _ _ _ _) := front_any s hs w1
  obtain ⟨e1, e2⟩ := front_eq s.data.toList
  have hle := frontR_le s.data.toList
  rw [size_list] at hle
  unfold parseT
  rw [size_list]
  rw [← e1] at hle ⊢
  generalize hF : frontM s.data.toList = F at *
  generalize hG : frontR s.data.toList = G at *
  obtain ⟨⟨tw, tl⟩, n, ok⟩ := F
  obtain ⟨Gt, Gn⟩ := G
  dsimp only at *
  clear hF hG e1
  cases ok with
  | true =>
    have e3 := e2 rfl
    subst e3
    clear e2
    by_cases hn : n = s.size
    · rw [if_pos ⟨rfl, hn⟩]
      subst hn
      dsimp only
      generalize str tl = S at *
      go_enter Tryz.func12, Tryz.ntmps12
      go_wp2_with fail
      rw [← hw1]
      refine HF.out.mono ?_
      rintro e w3 ⟨rfl, hb3⟩
      have ha := HA.out.below hb3
      have a0 := ha.c0
      have a1 := ha.c1
      have g0 := ha.f 0
      have g1 := ha.f 1
      have hlt := ha.lt
      have hne1 : w3.heap.size ≠ w.heap.size := by omega
      have hne2 : w.heap.size ≠ w3.heap.size := by omega
      have HB3 : Hid (Below w.heap.size w w3) := HB.out.trans (hb3.mono (by omega))
      have hrd : Hid (∀ b S o, _ ∧ _) := fun b S o => ha.read b S o
      clear ha hb3
      go_wp2
      refine bodyPost_ret (v := .tuple #[.agg #[.bool tw, .string S], .int .i64 0, .int .i64 0]) (by simp [results, Tryz.results12, go_sem, hrd.out]) rfl ?_
      refine ⟨rfl, ?_⟩
      repeat (first | exact HB3.out | refine Below.setCell ?_ (by simp) _ | refine Below.alloc ?_ (by simp; have := HB3.out.size; omega) _)
    · rw [if_neg (fun h => hn h.2)]
      dsimp only
      have hlt2 : n < s.size := by omega
      generalize str tl = S at *
      go_enter Tryz.func12, Tryz.ntmps12
      go_wp2_with fail
      rw [← hw1]
      refine HF.out.mono ?_
      rintro e w3 ⟨rfl, hb3⟩
      have ha := HA.out.below hb3
      have a0 := ha.c0
      have a1 := ha.c1
      have g0 := ha.f 0
      have g1 := ha.f 1
      have hlt := ha.lt
      have hne1 : w3.heap.size ≠ w.heap.size := by omega
      have hne2 : w.heap.size ≠ w3.heap.size := by omega
      have HB3 : Hid (Below w.heap.size w w3) := HB.out.trans (hb3.mono (by omega))
      have hrd : Hid (∀ b S o, _ ∧ _) := fun b S o => ha.read b S o
      clear ha hb3
      go_wp2
      refine bodyPost_ret (v := .tuple #[.agg #[.bool false, .string ⟨#[]⟩], .int .i64 n, .int .i64 80]) (by simp [results, Tryz.results12, go_sem, hrd.out]) rfl ?_
      refine ⟨rfl, ?_⟩
      repeat (first | exact HB3.out | refine Below.setCell ?_ (by simp) _ | refine Below.alloc ?_ (by simp; have := HB3.out.size; omega) _)
  | false =>
    rw [if_neg (fun h => by simp at h)]
    dsimp only
    clear e2
    generalize str tl = S at *
    go_enter Tryz.func12, Tryz.ntmps12
    go_wp2_with fail
    rw [← hw1]
    refine HF.out.mono ?_
    rintro e w3 ⟨rfl, hb3⟩
    have ha := HA.out.below hb3
    have a0 := ha.c0
    have a1 := ha.c1
    have g0 := ha.f 0
    have g1 := ha.f 1
    have hlt := ha.lt
    have hne1 : w3.heap.size ≠ w.heap.size := by omega
    have hne2 : w.heap.size ≠ w3.heap.size := by omega
    have HB3 : Hid (Below w.heap.size w w3) := HB.out.trans (hb3.mono (by omega))
    have hrd : Hid (∀ b S o, _ ∧ _) := fun b S o => ha.read b S o
    clear ha hb3
    go_wp2
    refine bodyPost_ret (v := .tuple #[.agg #[.bool false, .string ⟨#[]⟩], .int .i64 n, .int .i64 80]) (by simp [results, Tryz.results12, go_sem, hrd.out]) rfl ?_
    refine ⟨rfl, ?_⟩
    repeat (first | exact HB3.out | refine Below.setCell ?_ (by simp) _ | refine Below.alloc ?_ (by simp; have := HB3.out.size; omega) _)

end Tt
end Go.Proofs.YtjngpafokkjkdaaGreatDoor
