/-
  field: Onward.
-/
import Derived.Test.YtggmidkmpgjnoaaDoorFMs
import Derived.Test.YtggmidkmpgjnoaaDoorFPe
import Derived.Deep.RegionHeld3
set_option linter.unusedVariables false
set_option linter.unusedSimpArgs false
namespace Go.Proofs.YtggmidkmpgjnoaaDoor
open Go.RowKit Go.Shelf
namespace Fd
open Oc Tg

/-- The names that end at this hop. -/
def endsF (t : List Fl) : List (List UInt8) := hopL ++ (tokensF nCo t).1
def onw (E : List (List UInt8)) (p : Fl) : Bool := !inL E (lower p.1)

theorem look_MS {B n : Nat} {L : List (List UInt8)} {W : World} (h : MS B n L W) (k : List UInt8) (hk : k.length ≤ maxLen) : (Instr.lookup 63 (.map (some B)) (.string (str k)) true).run Tryd.prog W = .ok (.tuple #[.agg #[], .bool (inL L k)]) W := by
  obtain ⟨v, ps, hrun, hv⟩ := World.ownsMap.look_ok (t := 63) h lawS Tryd.underlying63 (zeroU W) unitElem_mk (keyS k hk)
  obtain ⟨rfl, _⟩ := unitElem_inv hv
  rw [has_setS] at hrun
  exact hrun

set_option maxRecDepth 100000 in
set_option maxHeartbeats 1000000 in
theorem onward1_any (p : Fl) (E : List (List UInt8)) (n B A : Nat) (hn : p.1.length ≤ 1048576) (w : World) (hc : w.cell? ⟨A, 0, none⟩ = some (.map (some B))) (hm : MS B n E w) :
    Calls Tryd.prog 37 #[.agg #[.string (str p.1), .string (str p.2)], .pointer (some ⟨A, 0, none⟩)] w fun e w' => e = .returned (.bool (onw E p)) ∧ Below w.heap.size w w' := by
  obtain ⟨w1, hw1⟩ : ∃ w1, w1 = w.alloc (.cells #[.string (str p.1), .string (str p.2)] 46) := ⟨_, rfl⟩
  have hb1 : Below w.heap.size w w1 := by rw [hw1]; exact (Below.refl _ w).alloc (Nat.le_refl _) _
  have hc0 : w1.cell? ⟨w.heap.size, 0, none⟩ = some (.string (str p.1)) := by rw [hw1]; simp
  have hc1 : w1.cell? ⟨A, 0, none⟩ = some (.map (some B)) := by rw [hb1.cell (World.block_lt_of_cell? w _ hc)]; exact hc
  have hm1 : MS B n E w1 := hm.below hb1
  have HLo : Hid (∀ w, Calls Tryd.prog 38 #[.string (str p.1)] w fun e w' => e = .returned (.string (str (lower p.1))) ∧ Below w.heap.size w w') := fun w => by
    have h := Lower_any (str p.1) (by rw [str_size]; unfold maxLen; omega) w
    rw [lowS_str] at h
    exact h
  have hlo : (lower p.1).length ≤ maxLen := by unfold lower; rw [List.length_map]; unfold maxLen; omega
  have HK : Hid (∀ W : World, Below w1.heap.size w1 W → (W.cell? ⟨A, 0, none⟩ = some (.map (some B)) ∧ W.cell? ⟨w.heap.size, 0, none⟩ = some (.string (str p.1)) ∧ (Instr.lookup 63 (.map (some B)) (.string (str (lower p.1))) true).run Tryd.prog W = .ok (.tuple #[.agg #[], .bool (inL E (lower p.1))]) W)) := fun W hb =>
    ⟨(hb.cell (World.block_lt_of_cell? w1 _ hc1)).trans hc1, (hb.cell (World.block_lt_of_cell? w1 _ hc0)).trans hc0, look_MS (hm1.below hb) _ hlo⟩
  have HBn : Hid (Below w1.heap.size w1 w1.drew) := below_drewN (Below.refl _ w1) 1
  have HBq : Hid (∀ o, Below w1.heap.size w1 (w1.alloc o).drew) := fun o => below_drewN ((Below.refl _ w1).alloc (Nat.le_refl _) o) 1
  have HB1 : Hid (Below w.heap.size w w1) := hb1
  unfold onw
  generalize inL E (lower p.1) = b at *
  generalize str (lower p.1) = K at *
  generalize str p.1 = N at *
  generalize str p.2 = V at *
  clear hlo hc hm hb1 hc0 hc1 hm1
  go_enter Tryd.func37, Tryd.ntmps37
  go_wp2_with fail
  rw [← hw1]
  obtain ⟨k1, k2, k3⟩ := HK.out _ HBn.out
  clear hw1
  go_region_held3 (fun W => (W.cell? ⟨A, 0, none⟩ = some (.map (some B)) ∧ W.cell? ⟨w.heap.size, 0, none⟩ = some (.string N) ∧ (Instr.lookup 63 (.map (some B)) (.string K) true).run Tryd.prog W = .ok (.tuple #[.agg #[], .bool b]) W)) (first | with_reducible exact HK.out _ HBn.out | with_reducible exact HK.out _ (HBq.out _)) (first
    | (go_at_call 38; refine (HLo.out _).mono ?_; rintro e wn ⟨rfl, hbn⟩; have HBn : Hid (Below w1.heap.size w1 wn) := (by first | exact HBn.out.trans (hbn.mono HBn.out.size) | exact (HBq.out _).trans (hbn.mono (HBq.out _).size) : Below _ _ _); have HBq : Hid (∀ o, Below w1.heap.size w1 (wn.alloc o)) := fun o => HBn.out.alloc HBn.out.size o; clear hbn))
  all_goals
    go_wp2
    go_ret
    first
    | exact ⟨rfl, bel_trans HB1.out HBn.out⟩
    | exact ⟨rfl, bel_trans HB1.out (HBq.out _)⟩

set_option maxRecDepth 100000 in
set_option maxHeartbeats 2000000 in
theorem kept_onward (v : Value) (t : List Fl) (F : Fl → Bool) (B : Nat) (hM : Each 1048576 t) (hl : t.length ≤ 16777216) (w : World) (hrd : RdF v t w)
    (HK : Hid (∀ (p : Fl) (W : World), p.1.length ≤ 1048576 → p.2.length ≤ 1048576 → Below w.heap.size w W → Calls Tryd.prog 37 #[.agg #[.string (str p.1), .string (str p.2)], .pointer (some ⟨B, 0, none⟩)] W fun e w' => e = .returned (.bool (F p)) ∧ Below (World.heap W).size W w')) :
    Calls Tryd.prog 24 #[v, .func (.func 37) #[] #[.pointer (some ⟨B, 0, none⟩)]] w fun e w' => ∃ u, e = .returned u ∧ OwnF 46 w.heap.size u (t.filter F) w' ∧ Below w.heap.size w w' := by
  have HR : Hid (RdF v t w) := hrd
  have HM : Hid (Each 1048576 t) := hM
  obtain ⟨a, c, rfl, _⟩ := hrd
  clear hM
  go_enter Tryd.func24, Tryd.ntmps24
  go_wp2
  go_loopw [5, 10] (fun ov i wr => ∃ k : Nat, k ≤ t.length ∧ i = .int .i64 k ∧ Hid (OwnF 46 w.heap.size ov ((t.take k).filter F) wr) ∧ Hid (Below w.heap.size w wr)) (fun _ i _ => t.length - (intOf i).toNat)
  case atStart => exact ⟨0, Nat.zero_le _, rfl, ownF_nil _ _ _, Below.refl _ _⟩
  case round =>
    obtain ⟨k, hk, rfl, hown, hbl⟩ := hrel
    have hsz := hbl.out.size
    by_cases hlt : k < t.length
    · obtain ⟨a', c', e', hcs⟩ := HR.out.below hbl.out
      injection e' with e1 _ e2
      subst e1 e2
      rcases hcs with h | ⟨g, o, rfl, hlc, hcell⟩
      · rw [h] at hlt; simp at hlt
      obtain ⟨p0, p1⟩ := hcell k hlt
      have hEk := HM.out.at k hlt
      have TT : F (nth t k) = true → Hid ((t.take (k + 1)).filter F = (t.take k).filter F ++ [nth t k]) := fun h => by
        have := filter_take F t k hlt
        rw [if_pos h] at this
        exact this
      have FF : F (nth t k) = false → Hid ((t.take (k + 1)).filter F = (t.take k).filter F) := fun h => by
        have := filter_take F t k hlt
        rw [if_neg (by rw [h]; simp)] at this
        exact this
      have hlk : ((t.take k).filter F).length + 1 ≤ 2147483648 := by
        have := List.length_filter_le F (t.take k)
        rw [List.length_take] at this
        omega
      have hb1 : Below wr.heap.size wr (wr.alloc (.cells #[.string (str (nth t k).1), .string (str (nth t k).2)] 46)) := (Below.refl _ wr).alloc (Nat.le_refl _) _
      have HB1 : Hid (Below w.heap.size w (wr.alloc (.cells #[.string (str (nth t k).1), .string (str (nth t k).2)] 46))) := bel_trans hbl.out hb1
      have HO1 : Hid (OwnF 46 w.heap.size _ ((t.take k).filter F) (wr.alloc (.cells #[.string (str (nth t k).1), .string (str (nth t k).2)] 46))) := hown.out.below hb1
      have HC : Hid (Calls Tryd.prog 37 #[.agg #[.string (str (nth t k).1), .string (str (nth t k).2)], .pointer (some ⟨B, 0, none⟩)] (wr.alloc (.cells #[.string (str (nth t k).1), .string (str (nth t k).2)] 46)) fun e w' => e = .returned (.bool (F (nth t k))) ∧ Below (World.heap (wr.alloc (.cells #[.string (str (nth t k).1), .string (str (nth t k).2)] 46))).size (wr.alloc (.cells #[.string (str (nth t k).1), .string (str (nth t k).2)] 46)) w') := HK.out _ _ hEk.1 hEk.2 HB1.out
      clear hcell hb1 hEk
      generalize F (nth t k) = b at HC TT FF
      generalize nth t k = p at *
      obtain ⟨pn, pv⟩ := p
      dsimp only at p0 p1 HB1 HO1 HC TT
      generalize hn : str pn = N at *
      generalize hv : str pv = V at *
      have HN : Hid (N = str pn) := hn.symm
      have HV : Hid (V = str pv) := hv.symm
      clear hn hv
      cases b with
      | true =>
        have tt := TT rfl
        clear TT FF
        go_wp2_with fail
        refine HC.out.mono ?_
        rintro e w2 ⟨rfl, hb2⟩
        have c0 : w2.cell? ⟨wr.heap.size, 0, none⟩ = some (.string N) := by rw [hb2.cell (by simp)]; simp
        have c1 : w2.cell? ⟨wr.heap.size, 1, none⟩ = some (.string V) := by rw [hb2.cell (by simp)]; simp
        have HB2 : Hid (Below w.heap.size w w2) := bel_trans HB1.out hb2
        have HO2 : Hid (OwnF 46 w.heap.size _ ((t.take k).filter F) w2) := HO1.out.below hb2
        have hs2 : w.heap.size ≤ w2.heap.size := HB2.out.size
        clear hb2
        go_wp2_with (at_builtin; go_must (refine wp_appF 46 22 infoF Tryd.underlying22 rfl (.tmp 17) (.tmp 19) rfl w.heap.size _ ((t.take k).filter F) _ (pn, pv) _ _ HN.out HV.out rfl HO2.out _ rfl (by simp) hlk hs2 ?_); intro v6 w6 hown6 hb6)
        have HO6 : Hid (OwnF 46 w.heap.size v6 ((t.take (k + 1)).filter F) w6) := (by rw [tt.out]; exact hown6 : OwnF _ _ v6 _ w6)
        have HB6 : Hid (Below w.heap.size w w6) := HB2.out.trans hb6
        clear hown6 hb6
        go_roundw
        case rel => exact ⟨k + 1, by omega, by go_num, HO6, HB6⟩
        case measure => simp [intOf]; omega
      | false =>
        have ff := FF rfl
        clear TT FF
        go_wp2_with fail
        refine HC.out.mono ?_
        rintro e w2 ⟨rfl, hb2⟩
        have HB2 : Hid (Below w.heap.size w w2) := bel_trans HB1.out hb2
        have HO2 : Hid (OwnF 46 w.heap.size _ ((t.take (k + 1)).filter F) w2) := (by rw [ff.out]; exact HO1.out.below hb2 : OwnF _ _ _ _ w2)
        clear hb2
        go_wp2
        go_roundw
        case rel => exact ⟨k + 1, by omega, by go_num, HO2, HB2⟩
        case measure => simp [intOf]; omega
    · obtain rfl : k = t.length := by omega
      rw [List.take_length] at hown
      go_wp2
      go_ret
      exact ⟨_, rfl, hown.out, hbl.out⟩

end Fd
end Go.Proofs.YtggmidkmpgjnoaaDoor
