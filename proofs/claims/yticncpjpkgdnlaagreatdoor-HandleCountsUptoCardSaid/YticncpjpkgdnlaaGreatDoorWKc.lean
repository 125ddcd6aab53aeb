/-
  HandleCounts (written by mkkow.py).
-/
import Derived.Test.YticncpjpkgdnlaaGreatDoorKoQ
import Derived.Test.YticncpjpkgdnlaaGreatDoorKoR
import Derived.Test.YticncpjpkgdnlaaGreatDoorKoS
set_option linter.unusedVariables false
set_option linter.unusedSimpArgs false
set_option maxRecDepth 100000
namespace Go.Proofs.YticncpjpkgdnlaaGreatDoor
open Go.RowKit Go.Shelf
namespace Ko
open Oc Tg _root_.Go.Proofs.YticncpjpkgdnlaaGreatDoor.Fd _root_.Go.Proofs.YticncpjpkgdnlaaGreatDoor.Ck _root_.Go.Proofs.YticncpjpkgdnlaaGreatDoor.Ms _root_.Go.Proofs.YticncpjpkgdnlaaGreatDoor.Hn

theorem rem20 (m : Int) : 0 ≤ (m.tmod 20 + 20).tmod 20 ∧ (m.tmod 20 + 20).tmod 20 ≤ 19 ∧ wrap64 (m.tmod 20 + 20) = m.tmod 20 + 20 := by
  have h : -20 < m.tmod 20 ∧ m.tmod 20 < 20 := by
    rcases Int.le_total 0 m with h | h
    · rw [Int.tmod_eq_emod_of_nonneg h]; omega
    · have e : m = -(-m) := by omega
      rw [e, Int.neg_tmod, Int.tmod_eq_emod_of_nonneg (by omega)]; omega
  refine ⟨?_, ?_, by unfold wrap64; omega⟩
  · rw [Int.tmod_eq_emod_of_nonneg (by omega)]; omega
  · rw [Int.tmod_eq_emod_of_nonneg (by omega)]; omega
/-- What is counted so far. -/
def cc (s : Int) : Int := if s ≤ 999999999 then s else 0
theorem cc_num (s : Int) (h0 : 0 ≤ s) : (numR 10 (Lib.itoa s) 999999999).1 = cc s := by
  unfold cc
  by_cases h : s ≤ 999999999
  · rw [if_pos h, numR_i h0 h]
  · have := numR_zeros s.toNat 0 999999999
    rw [List.replicate_zero, List.nil_append, ← itoa_p h0, if_pos (by omega)] at this
    rw [if_neg h, this]

/-- What Answer says of the s-th. -/
theorem ans_any (nm : ByteArray) (N : List UInt8) (en : nm = str N) (hl : N.length ≤ 4000) (ht : isTok N = true) (w : World) (ml : Tg.ML w) (tb : Tab w) (hp : Pow w) (sw : SW w)
    (hSt : ∀ W, Below w.heap.size w W → Calls Tryz.prog 100 #[.int .i64 0] W fun e w' => ∃ (x : ByteArray) (E : Int), e = .returned (.tuple #[.string x, .int .i64 E]) ∧ x.size ≤ 100 ∧ Below W.heap.size W w')
    (s : Int) (h0 : 0 ≤ s) (h1 : s ≤ 1000000000) (av : Option Addr) (cv : Nat) (W : World) (hb : Below w.heap.size w W) (hI : InF (.slice av 1 cv) [(ckN, cookV N s)] W) :
    Calls Tryz.prog 7 #[.agg #[.int .i64 8, .string nm, .string ⟨#[]⟩, .string ⟨#[]⟩, .int .i64 0, .int .i64 0], .agg #[.string ⟨#[71, 69, 84]⟩, .string ⟨#[47]⟩, .int .i64 0, .int .i64 0, .slice av 1 cv, .string ⟨#[]⟩, .slice none 0 0, .int .i64 0, .string ⟨#[]⟩, .int .i64 0, .string ⟨#[]⟩, .string ⟨#[]⟩, .bool false, .slice none 0 0, .int .i64 0], .pointer none] W fun e w' => ∃ a c2, e = .returned (.agg #[.int .i64 200, .string ⟨#[]⟩, .slice a 2 c2, .string (str (Lib.itoa (cc s + 1)) ++ ⟨#[10]⟩)]) ∧ OwnF 26 W.heap.size (.slice a 2 c2) [(nCT, plT), (scN, setL N (Lib.itoa (cc s + 1)))] w' ∧ Below W.heap.size W w' := by
  have hc0 : 0 ≤ cc s := by unfold cc; split <;> omega
  have hc1 : cc s ≤ 999999999 := by unfold cc; split <;> omega
  have hnum := cc_num s h0
  have hckl := ckL_cook N s h0 (by omega) hl ht
  have hil := itoa_l h0 (by omega : s ≤ 9999999999)
  have hil2 : (Lib.itoa (cc s + 1)).length ≤ 100 := by have := itoa_l (n := cc s + 1) (by omega) (by omega); omega
  have hck : cokB nm (str (Lib.itoa (cc s + 1))) = true := by rw [en]; exact cok_dig N (cc s + 1) (by omega) (by omega) hl ht
  have hvl : (cookV N s).length ≤ 1048576 := by
    unfold cookV
    simp only [List.length_append, List.length_cons, List.length_nil]
    omega
  generalize cc s = c at *
  generalize cookV N s = v at *
  generalize Lib.itoa s = DS at *
  refine Answer_count nm _ _ (by rw [en, str_size]; unfold maxLen; omega) (by rw [en, str_list]; exact ht) av cv W (tb.below hb (Nat.le_refl _)) (fun W2 h2 => ?_)
  have hb2 := bel_tr hb h2 hb.size
  exact answerCount_one N DS nm ⟨#[]⟩ ⟨#[]⟩ 8 0 0 av cv v en (by omega) hvl (by omega) hckl c hnum hc0 hc1 hil2 hck W2 (hI.below h2) (ml.below hb2) (tb.below hb2 (Nat.le_refl _)) (hp.below hb2 (Nat.le_refl _)) (sw.below hb2 (Nat.le_refl _)) (fun W3 h3 => hSt W3 (bel_tr hb2 h3 hb2.size))

end Ko
end Go.Proofs.YticncpjpkgdnlaaGreatDoor
