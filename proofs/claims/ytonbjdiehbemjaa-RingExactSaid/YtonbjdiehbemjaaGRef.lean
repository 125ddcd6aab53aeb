/-
  The document's ring: what its functions answer.
-/
import Derived.Test.YtonbjdiehbemjaaGNew
set_option linter.unusedVariables false
set_option linter.unusedSimpArgs false
namespace Go.Proofs.Ytonbjdiehbemjaa
open Go.RowKit
namespace Rg

/-- A piece of a list. -/
def pc (l : List UInt8) (f n : Int) : List UInt8 := if f < 0 ∨ n ≤ 0 then [] else (l.drop f.toNat).take n.toNat
theorem pc_len (l : List UInt8) (f n : Int) : (pc l f n).length ≤ l.length := by
  unfold pc
  split
  · simp
  · rw [List.length_take, List.length_drop]; omega
theorem pc_nat (l : List UInt8) (f n : Nat) : pc l (f : Int) (n : Int) = (l.drop f).take n := by
  unfold pc
  by_cases c : n = 0
  · subst c; rw [if_pos (by omega)]; simp
  · rw [if_neg (by omega)]; simp
theorem pc_zero (l : List UInt8) (n : Nat) : pc l 0 (n : Int) = l.take n := by
  have := pc_nat l 0 n
  rwa [List.drop_zero] at this
theorem take_succ' (l : List UInt8) (F J : Nat) (x : UInt8) (h : l[J]? = some x) (hF : F ≤ J) : (l.drop F).take (J + 1 - F) = (l.drop F).take (J - F) ++ [x] := by
  rw [show J + 1 - F = (J - F) + 1 by omega, List.take_add_one, List.getElem?_drop, show F + (J - F) = J by omega, h]
  rfl

set_option maxRecDepth 100000 in
set_option maxHeartbeats 1000000 in
theorem piece_any {w : World} {v : Value} {l : List UInt8} (hv : RdB w v l) (f n : Int) (hf0 : -9223372036854775808 ≤ f) (hf1 : f ≤ 9223372036854775807) (hn0 : -9223372036854775808 ≤ n) (hn1 : n ≤ 9223372036854775807) (hl : l.length ≤ 140737488355328) :
    Calls Try.prog 43 #[v, .int .i64 f, .int .i64 n] w fun e w' => ∃ v', e = .returned v' ∧ w'.ownsRow w.heap.size 5 1 v' (pc l f n).length (bv (pc l f n)) ∧ Below w.heap.size w w' := by
  have HV : Hid (RdB w v l) := hv
  obtain ⟨a, c, rfl, hc, hz, hr⟩ := hv
  have HRD : Hid (l = [] ∨ ∃ g o, a = some ⟨g, o, none⟩ ∧ ∀ j x, l[j]? = some x → w.cell? ⟨g, o + j, none⟩ = some (.int .u8 (x.toNat : Int))) := hr
  clear hr hz
  by_cases h1 : f < 0
  · have HP : Hid (pc l f n = []) := if_pos (.inl h1)
    go_enter Try.func43, Try.ntmps43
    go_wp2
    go_ret
    refine ⟨_, rfl, ?_, Below.refl _ _⟩
    rw [HP.out]
    exact World.ownsRow_nil _ _ _ _
  by_cases h2 : n ≤ 0
  · have HP : Hid (pc l f n = []) := if_pos (.inr h2)
    go_enter Try.func43, Try.ntmps43
    go_wp2
    go_ret
    refine ⟨_, rfl, ?_, Below.refl _ _⟩
    rw [HP.out]
    exact World.ownsRow_nil _ _ _ _
  obtain ⟨F, rfl⟩ := Int.eq_ofNat_of_zero_le (show 0 ≤ f by omega)
  obtain ⟨M, rfl⟩ := Int.eq_ofNat_of_zero_le (show 0 ≤ n by omega)
  have HP : Hid (pc l (F : Int) (M : Int) = (l.drop F).take M) := pc_nat l F M
  go_enter Try.func43, Try.ntmps43
  go_wp2
  go_loopw [7, 8] (fun ov i wr => ∃ (J : Nat) (ao : Option Addr) (co : Nat), i = .int .i64 (J : Int) ∧ F ≤ J ∧ (J = F ∨ J ≤ l.length) ∧ J - F ≤ M ∧ ov = .slice ao (J - F) co ∧ Hid (wr.ownsRow w.heap.size 5 1 (.slice ao (J - F) co) (J - F) (bv ((l.drop F).take (J - F)))) ∧ Hid (Below w.heap.size w wr)) (fun _ i _ => l.length - (intOf i).toNat)
  case atStart => exact ⟨F, none, 0, rfl, Nat.le_refl _, .inl rfl, by omega, by rw [Nat.sub_self], by rw [Nat.sub_self]; exact World.ownsRow_nil _ _ _ _, Below.refl _ _⟩
  case round =>
    obtain ⟨J, ao, co, rfl, hFJ, hJ, hM, rfl, HO, HB⟩ := hrel
    have hfin : (¬ J < l.length ∨ ¬ J - F < M) → Hid ((l.drop F).take (J - F) = pc l (F : Int) (M : Int)) := by
      intro h
      show _ = _
      rw [HP.out]
      by_cases c2 : J - F < M
      · rw [List.take_of_length_le (by rw [List.length_drop]; omega), List.take_of_length_le (by rw [List.length_drop]; omega)]
      · rw [show J - F = M by omega]
    by_cases q1 : J < l.length
    · have q1' : ((J : Nat) : Int) < ((l.length : Nat) : Int) := by omega
      by_cases q2 : J - F < M
      · have q2' : ((J - F : Nat) : Int) < ((M : Nat) : Int) := by omega
        clear hfin
        obtain ⟨x, hx⟩ : ∃ x, l[J]? = some x := ⟨_, List.getElem?_eq_getElem q1⟩
        rcases HRD.out with e | ⟨g, o, rfl, hcell⟩
        · rw [e] at q1; simp at q1
        have hcx := hcell J x hx
        have hdx : wr.cell? ⟨g, o + J, none⟩ = some (.int .u8 (x.toNat : Int)) := (HB.out.cell (p := ⟨g, o + J, none⟩) (World.block_lt_of_cell? w _ hcx)).trans hcx
        have HT : Hid ((l.drop F).take (J + 1 - F) = (l.drop F).take (J - F) ++ [x]) := take_succ' l F J x hx hFJ
        have hlk : ((l.drop F).take (J - F)).length = J - F := by rw [List.length_take, List.length_drop]; omega
        have HO1 : Hid ((wr.alloc (.cells #[.int .u8 (x.toNat : Int)] 5)).ownsRow w.heap.size 5 1 (.slice ao (J - F) co) ((l.drop F).take (J - F)).length (bv ((l.drop F).take (J - F)))) := (by rw [hlk]; exact HO.out.alloc _ : (wr.alloc (.cells #[.int .u8 (x.toNat : Int)] 5)).ownsRow w.heap.size 5 1 (.slice ao (J - F) co) ((l.drop F).take (J - F)).length (bv ((l.drop F).take (J - F))))
        have HX1 : Hid (RdB (wr.alloc (.cells #[.int .u8 (x.toNat : Int)] 5)) (.slice (some ⟨wr.heap.size, 0, none⟩) 1 1) [x]) := RdB.built wr [x] _ (by simp [bv])
        have hsum : ((l.drop F).take (J - F)).length + [x].length ≤ 140737488355328 := by rw [hlk]; simp; omega
        have hsz : w.heap.size ≤ (wr.alloc (.cells #[.int .u8 (x.toNat : Int)] 5)).heap.size := by have := HB.out.size; simp; omega
        clear hcell hcx hx hlk
        go_wp2_with (at_builtin; go_must (refine wp_appB rfl (.tmp 29) (.tmp 34) rfl w.heap.size _ _ ((l.drop F).take (J - F)) [x] rfl HO1.out rfl HX1.out hsum hsz ?_; intro v2 w2 ho2 hg2))
        have hg2' : (wr.alloc (.cells #[.int .u8 (x.toNat : Int)] 5)).grownBy w2 (Value.slice ao (J - F) co).ownBlock := hg2.out
        have HB2 : Hid (Below w.heap.size w w2) := (HB.out.alloc HB.out.size _).grown hg2' hsz (fun k hk => owns_fresh HO.out k hk)
        have ho2' := ho2.out
        rw [← HT.out] at ho2'
        have hl2 : ((l.drop F).take (J + 1 - F)).length = J + 1 - F := by rw [List.length_take, List.length_drop]; omega
        rw [hl2] at ho2'
        obtain ⟨a2, c2, rfl, _⟩ := owns_slice ho2'
        have HO2 : Hid (w2.ownsRow w.heap.size 5 1 (.slice a2 (J + 1 - F) c2) (J + 1 - F) (bv ((l.drop F).take (J + 1 - F)))) := ho2'
        clear ho2 ho2' hg2 hg2' hl2 HO1 HX1
        go_wp2
        go_roundw
        case rel => exact ⟨J + 1, a2, c2, by go_num, by omega, by omega, by omega, rfl, HO2, HB2⟩
        case measure => simp [intOf]; omega
      · have q2' : ¬ ((J - F : Nat) : Int) < ((M : Nat) : Int) := by omega
        have HFin := hfin (.inr q2)
        clear hfin
        go_wp2
        go_ret
        refine ⟨_, rfl, ?_, HB.out⟩
        rw [← HFin.out]
        exact bv_len' HO.out
    · have q1' : ¬ ((J : Nat) : Int) < ((l.length : Nat) : Int) := by omega
      have HFin := hfin (.inl q1)
      clear hfin
      go_wp2
      go_ret
      refine ⟨_, rfl, ?_, HB.out⟩
      rw [← HFin.out]
      exact bv_len' HO.out

/-- The document's ring as a value. -/
def RV (cap : Nat) (lv : Value) (gone : Nat) : Value := .agg #[.int .i64 (cap : Int), lv, .int .i64 (gone : Int)]

set_option maxRecDepth 100000 in
theorem rFree_any {w : World} {cap gone : Nat} {lv : Value} {l : List UInt8} (hv : RdB w lv l) (hc : cap ≤ 1048576) (hl : l.length ≤ cap) :
    Calls Try.prog 39 #[.agg #[.int .i64 (cap : Int), lv, .int .i64 (gone : Int)]] w fun e w' => e = .returned (.int .i64 ((cap - l.length : Nat) : Int)) ∧ Below w.heap.size w w' := by
  obtain ⟨a, c, rfl, _⟩ := hv
  go_enter Try.func39, Try.ntmps39
  go_wp2
  go_ret
  exact ⟨by go_num, (Below.refl _ w).alloc (Nat.le_refl _) _⟩

end Rg
end Go.Proofs.Ytonbjdiehbemjaa
