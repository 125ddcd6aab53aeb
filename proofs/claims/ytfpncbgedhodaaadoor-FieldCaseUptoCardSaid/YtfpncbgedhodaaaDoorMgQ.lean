/- Several texts as one. -/
import Derived.Test.YtfpncbgedhodaaaDoorMgP
import Derived.Deep.RegionHeld3
/-
  field: Onward.
-/
set_option linter.unusedVariables false
set_option linter.unusedSimpArgs false
namespace Go.Proofs.YtfpncbgedhodaaaDoor
open Go.RowKit Go.Shelf
namespace Fd
open Oc Tg

/-- The names that end at this hop. -/
def endsF (t : List Fl) : List (List UInt8) := hopL ++ (tokensF nCo t).1
def onw (E : List (List UInt8)) (p : Fl) : Bool := !inL E (lower p.1)

theorem look_MS {B n : Nat} {L : List (List UInt8)} {W : World} (h : MS B n L W) (k : List UInt8) (hk : k.length ≤ maxLen) : (Instr.lookup 83 (.map (some B)) (.string (str k)) true).run Tryd.prog W = .ok (.tuple #[.agg #[], .bool (inL L k)]) W := by
  obtain ⟨v, ps, hrun, hv⟩ := World.ownsMap.look_ok (t := 83) h lawS Tryd.underlying83 (zeroU W) unitElem_mk (keyS k hk)
  obtain ⟨rfl, _⟩ := unitElem_inv hv
  rw [has_setS] at hrun
  exact hrun

set_option maxRecDepth 100000 in
set_option maxHeartbeats 1000000 in
theorem onward1_any (p : Fl) (E : List (List UInt8)) (n B A : Nat) (hn : p.1.length ≤ 1048576) (w : World) (hc : w.cell? ⟨A, 0, none⟩ = some (.map (some B))) (hm : MS B n E w) :
    Calls Tryd.prog 52 #[.agg #[.string (str p.1), .string (str p.2)], .pointer (some ⟨A, 0, none⟩)] w fun e w' => e = .returned (.bool (onw E p)) ∧ Below w.heap.size w w' := by
  obtain ⟨w1, hw1⟩ : ∃ w1, w1 = w.alloc (.cells #[.string (str p.1), .string (str p.2)] 52) := ⟨_, rfl⟩
  have hb1 : Below w.heap.size w w1 := by rw [hw1]; exact (Below.refl _ w).alloc (Nat.le_refl _) _
  have hc0 : w1.cell? ⟨w.heap.size, 0, none⟩ = some (.string (str p.1)) := by rw [hw1]; simp
  have hc1 : w1.cell? ⟨A, 0, none⟩ = some (.map (some B)) := by rw [hb1.cell (World.block_lt_of_cell? w _ hc)]; exact hc
  have hm1 : MS B n E w1 := hm.below hb1
  have HLo : Hid (∀ w, Calls Tryd.prog 53 #[.string (str p.1)] w fun e w' => e = .returned (.string (str (lower p.1))) ∧ Below w.heap.size w w') := fun w => by
    have h := Lower_any (str p.1) (by rw [str_size]; unfold maxLen; omega) w
    rw [lowS_str] at h
    exact h
  have hlo : (lower p.1).length ≤ maxLen := by unfold lower; rw [List.length_map]; unfold maxLen; omega
  have HK : Hid (∀ W : World, Below w1.heap.size w1 W → (W.cell? ⟨A, 0, none⟩ = some (.map (some B)) ∧ W.cell? ⟨w.heap.size, 0, none⟩ = some (.string (str p.1)) ∧ (Instr.lookup 83 (.map (some B)) (.string (str (lower p.1))) true).run Tryd.prog W = .ok (.tuple #[.agg #[], .bool (inL E (lower p.1))]) W)) := fun W hb =>
    ⟨(hb.cell (World.block_lt_of_cell? w1 _ hc1)).trans hc1, (hb.cell (World.block_lt_of_cell? w1 _ hc0)).trans hc0, look_MS (hm1.below hb) _ hlo⟩
  have HBn : Hid (Below w1.heap.size w1 w1.drew) := below_drewN (Below.refl _ w1) 1
  have HBq : Hid (∀ o, Below w1.heap.size w1 (w1.alloc o).drew) := fun o => below_drewN ((Below.refl _ w1).alloc (Nat.le_refl _) o) 1
  have HB1 : Hid (Below w.heap.size w w1) := hb1
  unfold onw
  generalize inL E (lower p.1) = b at *
  generalize str (lower p.1) = K at *
  generalize str p.1 = N at *
  generalize str p.2 = V at *
  clear hlo hc hm hb1 hc0 hc1 hm1
  go_enter Tryd.func52, Tryd.ntmps52
  go_wp2_with fail
  rw [← hw1]
  obtain ⟨k1, k2, k3⟩ := HK.out _ HBn.out
  clear hw1
  go_region_held3 (fun W => (W.cell? ⟨A, 0, none⟩ = some (.map (some B)) ∧ W.cell? ⟨w.heap.size, 0, none⟩ = some (.string N) ∧ (Instr.lookup 83 (.map (some B)) (.string K) true).run Tryd.prog W = .ok (.tuple #[.agg #[], .bool b]) W)) (first | with_reducible exact HK.out _ HBn.out | with_reducible exact HK.out _ (HBq.out _)) (first
    | (go_at_call 53; refine (HLo.out _).mono ?_; rintro e wn ⟨rfl, hbn⟩; have HBn : Hid (Below w1.heap.size w1 wn) := (by first | exact HBn.out.trans (hbn.mono HBn.out.size) | exact (HBq.out _).trans (hbn.mono (HBq.out _).size) : Below _ _ _); have HBq : Hid (∀ o, Below w1.heap.size w1 (wn.alloc o)) := fun o => HBn.out.alloc HBn.out.size o; clear hbn))
  all_goals
    go_wp2
    go_ret
    first
    | exact ⟨rfl, bel_trans HB1.out HBn.out⟩
    | exact ⟨rfl, bel_trans HB1.out (HBq.out _)⟩

set_option maxRecDepth 100000 in
set_option maxHeartbeats 2000000 in
theorem kept_onward (v : Value) (t : List Fl) (F : Fl → Bool) (B : Nat) (hM : Each 1048576 t) (hl : t.length ≤ 16777216) (w : World) (hrd : RdF v t w)
    (HK : Hid (∀ (p : Fl) (W : World), p.1.length ≤ 1048576 → p.2.length ≤ 1048576 → Below w.heap.size w W → Calls Tryd.prog 52 #[.agg #[.string (str p.1), .string (str p.2)], .pointer (some ⟨B, 0, none⟩)] W fun e w' => e = .returned (.bool (F p)) ∧ Below (World.heap W).size W w')) :
    Calls Tryd.prog 35 #[v, .func (.func 52) #[] #[.pointer (some ⟨B, 0, none⟩)]] w fun e w' => ∃ u, e = .returned u ∧ OwnF 52 w.heap.size u (t.filter F) w' ∧ Below w.heap.size w w' := by
  have HR : Hid (RdF v t w) := hrd
  have HM : Hid (Each 1048576 t) := hM
  obtain ⟨a, c, rfl, _⟩ := hrd
  clear hM
  go_enter Tryd.func35, Tryd.ntmps35
  go_wp2
  go_loopw [5, 10] (fun ov i wr => ∃ k : Nat, k ≤ t.length ∧ i = .int .i64 k ∧ Hid (OwnF 52 w.heap.size ov ((t.take k).filter F) wr) ∧ Hid (Below w.heap.size w wr)) (fun _ i _ => t.length - (intOf i).toNat)
  case atStart => exact ⟨0, Nat.zero_le _, rfl, ownF_nil _ _ _, Below.refl _ _⟩
  case round =>
    obtain ⟨k, hk, rfl, hown, hbl⟩ := hrel
    have hsz := hbl.out.size
    by_cases hlt : k < t.length
    · obtain ⟨a', c', e', hcs⟩ := HR.out.below hbl.out
      injection e' with e1 _ e2
      subst e1 e2
      rcases hcs with h | ⟨g, o, rfl, hlc, hcell⟩
      · rw [h] at hlt; simp at hlt
      obtain ⟨p0, p1⟩ := hcell k hlt
      have hEk := HM.out.at k hlt
      have TT : F (nth t k) = true → Hid ((t.take (k + 1)).filter F = (t.take k).filter F ++ [nth t k]) := fun h => by
        have := filter_take F t k hlt
        rw [if_pos h] at this
        exact this
      have FF : F (nth t k) = false → Hid ((t.take (k + 1)).filter F = (t.take k).filter F) := fun h => by
        have := filter_take F t k hlt
        rw [if_neg (by rw [h]; simp)] at this
        exact this
      have hlk : ((t.take k).filter F).length + 1 ≤ 2147483648 := by
        have := List.length_filter_le F (t.take k)
        rw [List.length_take] at this
        omega
      have hb1 : Below wr.heap.size wr (wr.alloc (.cells #[.string (str (nth t k).1), .string (str (nth t k).2)] 52)) := (Below.refl _ wr).alloc (Nat.le_refl _) _
      have HB1 : Hid (Below w.heap.size w (wr.alloc (.cells #[.string (str (nth t k).1), .string (str (nth t k).2)] 52))) := bel_trans hbl.out hb1
      have HO1 : Hid (OwnF 52 w.heap.size _ ((t.take k).filter F) (wr.alloc (.cells #[.string (str (nth t k).1), .string (str (nth t k).2)] 52))) := hown.out.below hb1
      have HC : Hid (Calls Tryd.prog 52 #[.agg #[.string (str (nth t k).1), .string (str (nth t k).2)], .pointer (some ⟨B, 0, none⟩)] (wr.alloc (.cells #[.string (str (nth t k).1), .string (str (nth t k).2)] 52)) fun e w' => e = .returned (.bool (F (nth t k))) ∧ Below (World.heap (wr.alloc (.cells #[.string (str (nth t k).1), .string (str (nth t k).2)] 52))).size (wr.alloc (.cells #[.string (str (nth t k).1), .string (str (nth t k).2)] 52)) w') := HK.out _ _ hEk.1 hEk.2 HB1.out
      clear hcell hb1 hEk
      generalize F (nth t k) = b at HC TT FF
      generalize nth t k = p at *
      obtain ⟨pn, pv⟩ := p
      dsimp only at p0 p1 HB1 HO1 HC TT
      generalize hn : str pn = N at *
      generalize hv : str pv = V at *
      have HN : Hid (N = str pn) := hn.symm
      have HV : Hid (V = str pv) := hv.symm
      clear hn hv
      cases b with
      | true =>
        have tt := TT rfl
        clear TT FF
        go_wp2_with fail
        refine HC.out.mono ?_
        rintro e w2 ⟨rfl, hb2⟩
        have c0 : w2.cell? ⟨wr.heap.size, 0, none⟩ = some (.string N) := by rw [hb2.cell (by simp)]; simp
        have c1 : w2.cell? ⟨wr.heap.size, 1, none⟩ = some (.string V) := by rw [hb2.cell (by simp)]; simp
        have HB2 : Hid (Below w.heap.size w w2) := bel_trans HB1.out hb2
        have HO2 : Hid (OwnF 52 w.heap.size _ ((t.take k).filter F) w2) := HO1.out.below hb2
        have hs2 : w.heap.size ≤ w2.heap.size := HB2.out.size
        clear hb2
        go_wp2_with (at_builtin; go_must (refine wp_appF 52 22 infoF Tryd.underlying22 rfl (.tmp 17) (.tmp 19) rfl w.heap.size _ ((t.take k).filter F) _ (pn, pv) _ _ HN.out HV.out rfl HO2.out _ rfl (by simp) hlk hs2 ?_); intro v6 w6 hown6 hb6)
        have HO6 : Hid (OwnF 52 w.heap.size v6 ((t.take (k + 1)).filter F) w6) := (by rw [tt.out]; exact hown6 : OwnF _ _ v6 _ w6)
        have HB6 : Hid (Below w.heap.size w w6) := HB2.out.trans hb6
        clear hown6 hb6
        go_roundw
        case rel => exact ⟨k + 1, by omega, by go_num, HO6, HB6⟩
        case measure => simp [intOf]; omega
      | false =>
        have ff := FF rfl
        clear TT FF
        go_wp2_with fail
        refine HC.out.mono ?_
        rintro e w2 ⟨rfl, hb2⟩
        have HB2 : Hid (Below w.heap.size w w2) := bel_trans HB1.out hb2
        have HO2 : Hid (OwnF 52 w.heap.size _ ((t.take (k + 1)).filter F) w2) := (by rw [ff.out]; exact HO1.out.below hb2 : OwnF _ _ _ _ w2)
        clear hb2
        go_wp2
        go_roundw
        case rel => exact ⟨k + 1, by omega, by go_num, HO2, HB2⟩
        case measure => simp [intOf]; omega
    · obtain rfl : k = t.length := by omega
      rw [List.take_length] at hown
      go_wp2
      go_ret
      exact ⟨_, rfl, hown.out, hbl.out⟩

end Fd
end Go.Proofs.YtfpncbgedhodaaaDoor

/-
  field.Onward, whole.
-/
set_option linter.unusedVariables false
set_option linter.unusedSimpArgs false
namespace Go.Proofs.YtfpncbgedhodaaaDoor
open Go.RowKit Go.Shelf
namespace Fd
open Oc Tg

theorem tokens_short {t : List Fl} (hS : sumF t ≤ 1048576) (s : List UInt8) : ∀ x ∈ (tokensF s t).1, x.length ≤ 1048576 := by
  have h := listV_short 1048576 (vals s t) [] (fun x hx => by cases hx) (vals_short ((each_sumF t).mono hS) s)
  unfold tokensF tokV
  split
  · split
    · intro x hx
      obtain ⟨y, hy, rfl⟩ := List.mem_map.1 hx
      unfold lower
      rw [List.length_map]
      exact h y hy
    · intro x hx; cases hx
  · intro x hx; cases hx
theorem tokens_bad {t : List Fl} {s : List UInt8} (h : (tokensF s t).2 ≠ 0) : (tokensF s t).1 = [] := by
  unfold tokensF tokV at h ⊢
  split
  · rename_i h1
    rw [if_pos h1] at h
    split
    · rename_i h2
      rw [if_pos h2] at h
      exact absurd rfl h
    · rfl
  · rfl
theorem take_getD (L : List (List UInt8)) (k : Nat) (h : k < L.length) : L.take (k + 1) = L.take k ++ [L.getD k []] := by
  rw [List.take_succ_eq_append_getElem h, List.getD_eq_getElem?_getD, List.getElem?_eq_getElem h]
  rfl
theorem ownF_low {T B B' : Nat} {v : Value} {t : List Fl} {w : World} (h : OwnF T B v t w) (hB : B' ≤ B) : OwnF T B' v t w :=
  ⟨h.1, h.2.imp id fun ⟨g, c, cur, e, hg, r⟩ => ⟨g, c, cur, e, Nat.le_trans hB hg, r⟩⟩
theorem OwnS.turned {B B0 : Nat} {v : Value} {t : List (List UInt8)} {w w' : World} (h : OwnS B v t w) (hg : w.mapTurned w' B0) (hB : B0 < B) : OwnS B v t w' := by
  obtain ⟨h1, h2⟩ := h
  refine ⟨h1, ?_⟩
  rcases h2 with hn | ⟨g, cap, cur, hv, hb, hgw, rest⟩
  · exact .inl hn
  · refine .inr ⟨g, cap, cur, hv, hb, ?_, rest⟩
    obtain ⟨es, clock, es', clock', hb0, rfl⟩ := hg
    rw [ChangeMaps.heap_setBlock_other hb0 _ (by omega)]
    exact hgw

set_option maxRecDepth 100000 in
set_option maxHeartbeats 2000000 in
theorem Onward_any (v : Value) (t : List Fl) (hS : sumF t ≤ 1048576) (w : World) (hrd : RdF v t w) (tab : Tab w) :
    Calls Tryd.prog 22 #[v] w fun e w' => ∃ u, e = .returned u ∧ OwnF 52 w.heap.size u (t.filter (onw (endsF t))) w' ∧ Below w.heap.size w w' := by
  have hlen := len_sumF t
  have HH : Hid (Calls _ _ _ _ _) := hopNames_any w
  have hl := tokens_len hS nCo
  have HSh : Hid (∀ x ∈ (tokensF nCo t).1, x.length ≤ 1048576) := tokens_short hS nCo
  have HT : Hid (∀ W : World, Below w.heap.size w W → Calls Tryd.prog 47 #[v, .string ⟨#[67, 111, 110, 110, 101, 99, 116, 105, 111, 110]⟩] W fun e w' => ∃ x, e = .returned (.tuple #[x, .int .i64 (tokensF nCo t).2]) ∧ OwnS W.heap.size x (tokensF nCo t).1 w' ∧ Below W.heap.size W w') := fun W hb => Tokens6_any v t nCo (by decide) hS W (hrd.below hb) (tab.below hb (Nat.le_refl _))
  have HKp : Hid (∀ (A : Nat) (n : Nat) (W : World), Below w.heap.size w W → W.cell? ⟨A, 0, none⟩ = some (.map (some w.heap.size)) → MS w.heap.size n (endsF t) W → Calls Tryd.prog 35 #[v, .func (.func 52) #[] #[.pointer (some ⟨A, 0, none⟩)]] W fun e w' => ∃ u, e = .returned u ∧ OwnF 52 W.heap.size u (t.filter (onw (endsF t))) w' ∧ Below W.heap.size W w') := fun A n W hb hc hm =>
    kept_onward v t (onw (endsF t)) A ((each_sumF t).mono hS) (by omega) W (hrd.below hb) (fun p W2 h1 h2 hb2 => onward1_any p (endsF t) n w.heap.size A h1 W2 ((hb2.cell (World.block_lt_of_cell? W _ hc)).trans hc) (hm.below hb2))
  generalize t.filter (onw (endsF t)) = R at *
  unfold endsF at HKp
  obtain ⟨a, c, rfl, _⟩ := hrd
  clear tab hS hlen
  generalize (tokensF nCo t).1 = L at *
  generalize (tokensF nCo t).2 = z at *
  go_enter Tryd.func22, Tryd.ntmps22
  go_wp2_with fail
  refine HH.out.mono ?_
  rintro e w1 ⟨rfl, hm1, hb1⟩
  obtain ⟨w2, hw2⟩ : ∃ w2, w2 = w1.alloc (.cells #[.map (some w.heap.size)] 83) := ⟨_, rfl⟩
  have hb2 : Below w1.heap.size w1 w2 := by rw [hw2]; exact (Below.refl _ w1).alloc (Nat.le_refl _) _
  have hc2 : w2.cell? ⟨w1.heap.size, 0, none⟩ = some (.map (some w.heap.size)) := by rw [hw2]; simp
  have hm2 : MS w.heap.size 7 hopL w2 := hm1.below hb2
  have hB2 : Below w.heap.size w w2 := bel_trans hb1 hb2
  have hlt1 : w.heap.size < w1.heap.size := hm1.lt
  have hlt2 : w1.heap.size < w2.heap.size := by rw [hw2]; simp
  have HT2 : Hid (Calls _ _ _ _ _) := HT.out w2 hB2
  have HB2 : Hid (Below w.heap.size w w2) := hB2
  have HM2 : Hid (MS w.heap.size 7 hopL w2) := hm2
  have HC2 : Hid (w2.cell? ⟨w1.heap.size, 0, none⟩ = some (.map (some w.heap.size))) := hc2
  have HL1 : Hid (w.heap.size < w1.heap.size) := hlt1
  have HL2 : Hid (w1.heap.size < w2.heap.size) := hlt2
  clear hb1 hb2 hc2 hm1 hm2 hB2 hlt1 hlt2
  go_wp2_with fail
  rw [← hw2]
  clear hw2
  refine HT2.out.mono ?_
  rintro e w3 ⟨u, rfl, ho, hb3⟩
  have HB3 : Hid (Below w.heap.size w w3) := bel_trans HB2.out hb3
  have HM3 : Hid (MS w.heap.size 7 hopL w3) := HM2.out.below hb3
  have hc3 : w3.cell? ⟨w1.heap.size, 0, none⟩ = some (.map (some w.heap.size)) := (hb3.cell HL2.out).trans HC2.out
  have HO3 : Hid (OwnS w2.heap.size u L w3) := ho
  obtain ⟨ua, uc, rfl⟩ := ho.form
  clear hb3 ho
  go_wp2
  go_loopw [16] (fun i wr => ∃ k : Nat, k ≤ L.length ∧ i = .int .i64 k ∧ Hid (MS w.heap.size (7 + k) (hopL ++ L.take k) wr) ∧ Hid (wr.cell? ⟨w1.heap.size, 0, none⟩ = some (.map (some w.heap.size))) ∧ Hid (OwnS w2.heap.size (.slice ua L.length uc) L wr) ∧ Hid (Below w.heap.size w wr)) (fun i _ => L.length - (intOf i).toNat)
  case atStart => exact ⟨0, Nat.zero_le _, rfl, (by rw [List.take_zero, List.append_nil]; exact HM3.out : MS _ _ _ _), hc3, HO3, HB3⟩
  case round =>
    obtain ⟨k, hk, rfl, hM, hC, hO, hB⟩ := hrel
    have cA := hC.out
    by_cases hlt : k < L.length
    · obtain ⟨a', c', e', hcs⟩ := hO.out.rd
      injection e' with e1 _ e2
      subst e1 e2
      rcases hcs with h | ⟨g, o, rfl, hlc, hcell⟩
      · rw [h] at hlt; simp at hlt
      have p0 := hcell k hlt
      clear hcell
      have HTk : Hid (L.take (k + 1) = L.take k ++ [L.getD k []]) := take_getD L k hlt
      have HX : Hid ((L.getD k []).length ≤ maxLen) := (by
        have := HSh.out (L.getD k []) (by rw [List.getD_eq_getElem?_getD, List.getElem?_eq_getElem hlt]; exact List.getElem_mem hlt)
        unfold maxLen; omega : _ ≤ _)
      have HN : Hid (7 + k < maxLen) := (by unfold maxLen; omega : _ < _)
      generalize hX : L.getD k [] = X at *
      generalize hs : str X = S at *
      have HS : Hid (S = str X) := hs.symm
      clear hX hs
      go_wp2_with (at_mapUpdate; refine wp_put _ rfl _ _ _ (Or.inl rfl) w.heap.size _ _ rfl hM.out HN.out X HX.out _ HS.out rfl rfl ?_; intro wn hMn hTn)
      have HMn : Hid (MS w.heap.size (7 + (k + 1)) (hopL ++ L.take (k + 1)) wn) := (by rw [HTk.out, ← List.append_assoc, ← Nat.add_assoc]; exact hMn.out : MS _ _ _ _)
      have HCn : Hid (wn.cell? ⟨w1.heap.size, 0, none⟩ = some (.map (some w.heap.size))) := (turned_cell hTn.out _ (by show w1.heap.size ≠ _; have := HL1.out; omega)).trans cA
      have HOn : Hid (OwnS w2.heap.size (.slice (some ⟨g, o, none⟩) L.length uc) L wn) := OwnS.turned hO.out hTn.out (by have := HL1.out; have := HL2.out; omega)
      have HBn : Hid (Below w.heap.size w wn) := turned_below hB.out (Nat.le_refl _) hTn.out
      go_roundw
      case rel => exact ⟨k + 1, by omega, by go_num, HMn, HCn, HOn, HBn⟩
      case measure => simp [intOf]; omega
    · obtain rfl : k = L.length := by omega
      rw [List.take_length] at hM
      have HQ : Hid (Calls _ _ _ _ _) := HKp.out w1.heap.size _ wr hB.out hC.out hM.out
      clear cA
      go_wp2_with fail
      refine HQ.out.mono ?_
      rintro e w9 ⟨x, rfl, ho9, hb9⟩
      have HO9 : Hid (OwnF 52 w.heap.size x R w9) := ownF_low ho9 hB.out.size
      have HB9 : Hid (Below w.heap.size w w9) := bel_trans hB.out hb9
      clear ho9 hb9
      go_wp2
      go_ret
      exact ⟨_, rfl, HO9.out, HB9.out⟩

end Fd
end Go.Proofs.YtfpncbgedhodaaaDoor

/-
  The document's Onward.
-/
set_option linter.unusedVariables false
set_option linter.unusedSimpArgs false
namespace Go.Proofs.YtfpncbgedhodaaaDoor
open Go.RowKit Go.Shelf
namespace Fd
open Oc Tg

set_option maxRecDepth 100000 in
set_option maxHeartbeats 1000000 in
theorem rIn2_any (v : Value) (L : List (List UInt8)) (x : List UInt8) (hl : L.length ≤ 2097152) (w : World) (h : RdS v L w) :
    Calls Tryd.prog 50 #[v, .string (str x)] w fun e w' => e = .returned (.bool (inL L x)) ∧ w' = w := by
  have HR : Hid (RdS v L w) := h
  obtain ⟨a, c, rfl, _⟩ := h
  generalize hX : str x = X
  have HX : Hid (X = str x) := hX.symm
  clear hX
  go_enter Tryd.func50, Tryd.ntmps50
  go_wp2
  go_loop [9] (fun i => ∃ k : Nat, k ≤ L.length ∧ i = .int .i64 k ∧ Hid (∀ j, j < k → L.getD j [] ≠ x)) (fun i => L.length - (intOf i).toNat)
  case atStart => exact ⟨0, Nat.zero_le _, rfl, (fun j hj => by omega : ∀ j, j < 0 → _)⟩
  case round =>
    obtain ⟨k, hk, rfl, hall⟩ := hrel
    by_cases hlt : k < L.length
    · obtain ⟨a', c', e', hcs⟩ := HR.out
      injection e' with e1 _ e2
      subst e1 e2
      rcases hcs with h | ⟨g, o, rfl, hlc, hcell⟩
      · rw [h] at hlt; simp at hlt
      have p0 := hcell k hlt
      clear hcell
      by_cases he : L.getD k [] = x
      · have HE : Hid (inL L x = true) := by
          show _ = _
          unfold inL
          rw [List.contains_iff_mem, ← he, List.getD_eq_getElem?_getD, List.getElem?_eq_getElem hlt]
          exact List.getElem_mem hlt
        rw [he, ← HX.out] at p0
        have hq : (X.toList == X.toList) = true := by simp
        go_wp2
        go_ret
        exact ⟨ret_bool HE.out.symm, rfl⟩
      · have HN : Hid (∀ j, j < k + 1 → L.getD j [] ≠ x) := fun j hj => by
          by_cases hjk : j = k
          · subst hjk; exact he
          · exact hall.out j (by omega)
        have hq : ((str (L.getD k [])).toList == X.toList) = false := by
          rw [eq_toList, decide_eq_false_iff_not, HX.out]
          exact fun e => he (str_inj e)
        generalize str (L.getD k []) = Y at *
        go_wp2
        go_round
        case rel => exact ⟨k + 1, by omega, by go_num, HN⟩
        case measure => simp [intOf]; omega
    · have HE : Hid (inL L x = false) := by
        show _ = _
        unfold inL
        cases hc : L.contains x with
        | false => rfl
        | true =>
          rw [List.contains_iff_mem] at hc
          obtain ⟨j, hj, e⟩ := List.mem_iff_getElem.1 hc
          exact absurd (by rw [List.getD_eq_getElem?_getD, List.getElem?_eq_getElem hj, ← e]; rfl) (hall.out j (by omega))
      go_wp2
      go_ret
      exact ⟨ret_bool HE.out.symm, rfl⟩

theorem ends_len {t : List Fl} (hS : sumF t ≤ 1048576) : (endsF t).length ≤ 2097152 := by
  have := tokens_len hS nCo
  unfold endsF
  rw [List.length_append]
  have : hopL.length = 7 := rfl
  omega
theorem own_seven (w : World) : OwnS w.heap.size (.slice (some ⟨w.heap.size, 0, none⟩) 7 7) hopL (w.alloc (.cells #[.string ⟨#[99, 111, 110, 110, 101, 99, 116, 105, 111, 110]⟩, .string ⟨#[107, 101, 101, 112, 45, 97, 108, 105, 118, 101]⟩, .string ⟨#[112, 114, 111, 120, 121, 45, 99, 111, 110, 110, 101, 99, 116, 105, 111, 110]⟩, .string ⟨#[116, 101]⟩, .string ⟨#[116, 114, 97, 105, 108, 101, 114]⟩, .string ⟨#[116, 114, 97, 110, 115, 102, 101, 114, 45, 101, 110, 99, 111, 100, 105, 110, 103]⟩, .string ⟨#[117, 112, 103, 114, 97, 100, 101]⟩] 9)) :=
  ⟨by decide, .inr ⟨w.heap.size, 7, _, rfl, Nat.le_refl _, heap_alloc_new w _, by decide, by decide, by simp, by simp [encS, hopL, str]⟩⟩

set_option maxRecDepth 100000 in
set_option maxHeartbeats 3000000 in
theorem rOnward_any (v : Value) (t : List Fl) (hS : sumF t ≤ 1048576) (w : World) (hrd : RdF v t w) :
    Calls Tryd.prog 23 #[v] w fun e w' => ∃ u, e = .returned u ∧ OwnF 67 w.heap.size u (t.filter (onw (endsF t))) w' ∧ Below w.heap.size w w' := by
  have htl : t.length ≤ 16777216 := by have := len_sumF t; omega
  have hl := tokens_len hS nCo
  have HE : Hid (Each 1048576 t) := (each_sumF t).mono hS
  obtain ⟨w1, hw1⟩ : ∃ w1, w1 = (w.alloc (.cells #[.string ⟨#[99, 111, 110, 110, 101, 99, 116, 105, 111, 110]⟩, .string ⟨#[107, 101, 101, 112, 45, 97, 108, 105, 118, 101]⟩, .string ⟨#[112, 114, 111, 120, 121, 45, 99, 111, 110, 110, 101, 99, 116, 105, 111, 110]⟩, .string ⟨#[116, 101]⟩, .string ⟨#[116, 114, 97, 105, 108, 101, 114]⟩, .string ⟨#[116, 114, 97, 110, 115, 102, 101, 114, 45, 101, 110, 99, 111, 100, 105, 110, 103]⟩, .string ⟨#[117, 112, 103, 114, 97, 100, 101]⟩] 9)) := ⟨_, rfl⟩
  have hb1 : Below w.heap.size w w1 := by rw [hw1]; exact (Below.refl _ w).alloc (Nat.le_refl _) _
  have HO1 : Hid (OwnS w.heap.size (.slice (some ⟨w.heap.size, 0, none⟩) 7 7) hopL w1) := (by rw [hw1]; exact own_seven w : OwnS _ _ _ _)
  have hz1 : w.heap.size < w1.heap.size := by rw [hw1]; simp
  have HT : Hid (Calls Tryd.prog 49 #[v, .string ⟨#[67, 111, 110, 110, 101, 99, 116, 105, 111, 110]⟩] w1 fun e w' => ∃ x, e = .returned (.tuple #[x, .int .i64 (tokensF nCo t).2]) ∧ OwnS w1.heap.size x (tokensF nCo t).1 w' ∧ Below w1.heap.size w1 w') := rTokens6_any v t nCo (by decide) hS w1 (hrd.below hb1)
  have HIn : Hid (∀ u x W, RdS u (endsF t) W → Calls Tryd.prog 50 #[u, .string (str x)] W fun e w' => e = .returned (.bool (inL (endsF t) x)) ∧ w' = W) := fun u x W h => rIn2_any u _ x (ends_len hS) W h
  have HLo : Hid (∀ (x : List UInt8) W, x.length ≤ 1048576 → Calls Tryd.prog 54 #[.string (str x)] W fun e w' => e = .returned (.string (str (lower x))) ∧ Below (World.heap W).size W w') := fun x W hx => by
    have h := rLower_any (str x) (by rw [str_size]; unfold maxLen; omega) W
    rw [lowS_str] at h
    exact h
  have HEn : Hid (endsF t = hopL ++ (tokensF nCo t).1) := rfl
  have HBad : Hid ((tokensF nCo t).2 ≠ 0 → (tokensF nCo t).1 = []) := tokens_bad
  have HR : Hid (RdF v t w) := hrd
  have HB1 : Hid (Below w.heap.size w w1) := hb1
  have HZ1 : Hid (w.heap.size < w1.heap.size) := hz1
  obtain ⟨a, c, rfl, _⟩ := hrd
  clear hS hb1 hz1
  generalize endsF t = E at *
  generalize (tokensF nCo t).1 = L at *
  generalize (tokensF nCo t).2 = z at *
  go_enter Tryd.func23, Tryd.ntmps23
  go_wp2_with fail
  rw [← hw1]
  clear hw1
  refine HT.out.mono ?_
  rintro e w3 ⟨u, rfl, ho, hb3⟩
  have HB3 : Hid (Below w.heap.size w w3) := bel_trans HB1.out hb3
  have HO3 : Hid (OwnS w.heap.size (.slice (some ⟨w.heap.size, 0, none⟩) 7 7) hopL w3) := HO1.out.below hb3
  have HY : Hid (RdS u L w3) := ho.rd
  have HYN : Hid (L = [] → u = .slice none 0 0 ∨ ∃ g c, u = .slice (some g) 0 c) := OwnS.nilish ho
  obtain ⟨ua, uc, rfl⟩ := ho.form
  clear ho hb3
  have hln : hopL.length + L.length ≤ 4294967296 := by have : hopL.length = 7 := rfl; omega
  have hs3 := HB3.out.size
  by_cases hz : z = 0
  · subst hz
    go_wp2_with (at_builtin; go_must (refine wp_appR rfl (.tmp 17) (.tmp 18) rfl w.heap.size _ _ hopL L rfl HO3.out rfl HY.out HYN.out hln hs3 ?_); intro v6 w6 hown6 hb6)
    have HB6 : Hid (Below w.heap.size w w6) := HB3.out.trans hb6
    have HV6 : Hid (RdS v6 E w6) := (by rw [HEn.out]; exact hown6.rd : RdS v6 E w6)
    obtain ⟨va, vc, hv6⟩ := hown6.form
    have HF : Hid (v6 = Value.slice va (hopL ++ L).length vc) := hv6
    clear hown6 hb6 hv6 HO3 HY HYN HBad HT HO1
    go_wp2
    go_loopw [6, 22] (fun ov i wr => ∃ k : Nat, k ≤ t.length ∧ i = .int .i64 k ∧ Hid (OwnF 67 w6.heap.size ov ((t.take k).filter (onw E)) wr) ∧ Hid (Below w6.heap.size w6 wr)) (fun _ i _ => t.length - (intOf i).toNat)
    case atStart => exact ⟨0, Nat.zero_le _, rfl, ownF_nil _ _ _, Below.refl _ _⟩
    case round =>
      obtain ⟨k, hk, rfl, hown, hbl⟩ := hrel
      have hsz := hbl.out.size
      have HBw : Hid (Below w.heap.size w wr) := bel_trans HB6.out hbl.out
      by_cases hlt : k < t.length
      · obtain ⟨a', c', e', hcs⟩ := HR.out.below HBw.out
        injection e' with e1 _ e2
        subst e1 e2
        rcases hcs with h | ⟨g, o, rfl, hlc, hcell⟩
        · rw [h] at hlt; simp at hlt
        obtain ⟨p0, p1⟩ := hcell k hlt
        have hEk := HE.out.at k hlt
        have TT : (onw E) (nth t k) = true → Hid ((t.take (k + 1)).filter (onw E) = (t.take k).filter (onw E) ++ [nth t k]) := fun h => by
          have := filter_take (onw E) t k hlt
          rw [if_pos h] at this
          exact this
        have FF : (onw E) (nth t k) = false → Hid ((t.take (k + 1)).filter (onw E) = (t.take k).filter (onw E)) := fun h => by
          have := filter_take (onw E) t k hlt
          rw [if_neg (by rw [h]; simp)] at this
          exact this
        have hlk : ((t.take k).filter (onw E)).length + 1 ≤ 2147483648 := by
          have := List.length_filter_le (onw E) (t.take k)
          rw [List.length_take] at this
          omega
        have hb1 : Below wr.heap.size wr (wr.alloc (.cells #[.string (str (nth t k).1), .string (str (nth t k).2)] 67)) := (Below.refl _ wr).alloc (Nat.le_refl _) _
        have HBa : Hid (Below w6.heap.size w6 (wr.alloc (.cells #[.string (str (nth t k).1), .string (str (nth t k).2)] 67))) := bel_trans hbl.out hb1
        have HOa : Hid (OwnF 67 w6.heap.size _ ((t.take k).filter (onw E)) (wr.alloc (.cells #[.string (str (nth t k).1), .string (str (nth t k).2)] 67))) := hown.out.below hb1
        have HLk : Hid (∀ W, Calls Tryd.prog 54 #[.string (str (nth t k).1)] W fun e w' => e = .returned (.string (str (lower (nth t k).1))) ∧ Below (World.heap W).size W w') := fun W => HLo.out _ W hEk.1
        have HIk : Hid (∀ u W, RdS u E W → Calls Tryd.prog 50 #[u, .string (str (lower (nth t k).1))] W fun e w' => e = .returned (.bool (inL E (lower (nth t k).1))) ∧ w' = W) := fun u W h => HIn.out u _ W h
        have hon : onw E (nth t k) = !inL E (lower (nth t k).1) := rfl
        rw [hon] at TT FF
        clear hcell hb1 hEk hon
        generalize inL E (lower (nth t k).1) = b at HIk TT FF
        generalize str (lower (nth t k).1) = LK at *
        generalize nth t k = p at *
        obtain ⟨pn, pv⟩ := p
        dsimp only at p0 p1 HBa HOa HLk TT
        generalize hn : str pn = N at *
        generalize hv : str pv = V at *
        have HN : Hid (N = str pn) := hn.symm
        have HVp : Hid (V = str pv) := hv.symm
        clear hn hv
        cases b with
        | false =>
          have tt := TT rfl
          clear TT FF
          go_wp2_with fail
          refine (HLk.out _).mono ?_
          rintro e w2 ⟨rfl, hb2⟩
          have c0 : w2.cell? ⟨wr.heap.size, 0, none⟩ = some (.string N) := by rw [hb2.cell (by simp)]; simp
          have c1 : w2.cell? ⟨wr.heap.size, 1, none⟩ = some (.string V) := by rw [hb2.cell (by simp)]; simp
          have HBb : Hid (Below w6.heap.size w6 w2) := bel_trans HBa.out hb2
          have HOb : Hid (OwnF 67 w6.heap.size _ ((t.take k).filter (onw E)) w2) := HOa.out.below hb2
          have hs2 : w6.heap.size ≤ w2.heap.size := HBb.out.size
          have HVb : Hid (RdS _ E w2) := HV6.out.below HBb.out
          clear hb2
          go_wp2_with fail
          refine (HIk.out _ _ HVb.out).mono ?_
          rintro e w8 ⟨rfl, hw8⟩
          rw [hw8]
          clear hw8
          go_wp2_with (at_builtin; go_must (refine wp_appF 67 26 infoF2 Tryd.underlying26 rfl (.tmp 32) (.tmp 34) rfl w6.heap.size _ ((t.take k).filter (onw E)) _ (pn, pv) _ _ HN.out HVp.out rfl HOb.out _ rfl (by simp) hlk hs2 ?_); intro v7 w7 hown7 hb7)
          have HO7 : Hid (OwnF 67 w6.heap.size v7 ((t.take (k + 1)).filter (onw E)) w7) := (by rw [tt.out]; exact hown7 : OwnF _ _ v7 _ w7)
          have HB7 : Hid (Below w6.heap.size w6 w7) := HBb.out.trans hb7
          clear hown7 hb7
          go_roundw
          case rel => exact ⟨k + 1, by omega, by go_num, HO7, HB7⟩
          case measure => simp [intOf]; omega
        | true =>
          have ff := FF rfl
          clear TT FF
          go_wp2_with fail
          refine (HLk.out _).mono ?_
          rintro e w2 ⟨rfl, hb2⟩
          have HBb : Hid (Below w6.heap.size w6 w2) := bel_trans HBa.out hb2
          have HOb : Hid (OwnF 67 w6.heap.size _ ((t.take (k + 1)).filter (onw E)) w2) := (by rw [ff.out]; exact HOa.out.below hb2 : OwnF _ _ _ _ w2)
          have HVb : Hid (RdS _ E w2) := HV6.out.below HBb.out
          clear hb2
          go_wp2_with fail
          refine (HIk.out _ _ HVb.out).mono ?_
          rintro e w8 ⟨rfl, hw8⟩
          rw [hw8]
          clear hw8
          go_wp2
          go_roundw
          case rel => exact ⟨k + 1, by omega, by go_num, HOb, HBb⟩
          case measure => simp [intOf]; omega
      · obtain rfl : k = t.length := by omega
        rw [List.take_length] at hown
        go_wp2
        go_ret
        exact ⟨_, rfl, ownF_low hown.out HB6.out.size, HBw.out⟩
  · have hzq : (z == 0) = false := by simp [hz]
    have HLn : Hid (L = []) := HBad.out hz
    have HV6 : Hid (RdS (.slice (some ⟨w.heap.size, 0, none⟩) 7 7) E w3) := (by rw [HEn.out, HLn.out, List.append_nil]; exact HO3.out.rd : RdS _ _ _)
    have HB6 := HB3
    clear hz HY HYN HBad HT HO1
    go_wp2
    go_loopw [6, 22] (fun ov i wr => ∃ k : Nat, k ≤ t.length ∧ i = .int .i64 k ∧ Hid (OwnF 67 w3.heap.size ov ((t.take k).filter (onw E)) wr) ∧ Hid (Below w3.heap.size w3 wr)) (fun _ i _ => t.length - (intOf i).toNat)
    case atStart => exact ⟨0, Nat.zero_le _, rfl, ownF_nil _ _ _, Below.refl _ _⟩
    case round =>
      obtain ⟨k, hk, rfl, hown, hbl⟩ := hrel
      have hsz := hbl.out.size
      have HBw : Hid (Below w.heap.size w wr) := bel_trans HB6.out hbl.out
      by_cases hlt : k < t.length
      · obtain ⟨a', c', e', hcs⟩ := HR.out.below HBw.out
        injection e' with e1 _ e2
        subst e1 e2
        rcases hcs with h | ⟨g, o, rfl, hlc, hcell⟩
        · rw [h] at hlt; simp at hlt
        obtain ⟨p0, p1⟩ := hcell k hlt
        have hEk := HE.out.at k hlt
        have TT : (onw E) (nth t k) = true → Hid ((t.take (k + 1)).filter (onw E) = (t.take k).filter (onw E) ++ [nth t k]) := fun h => by
          have := filter_take (onw E) t k hlt
          rw [if_pos h] at this
          exact this
        have FF : (onw E) (nth t k) = false → Hid ((t.take (k + 1)).filter (onw E) = (t.take k).filter (onw E)) := fun h => by
          have := filter_take (onw E) t k hlt
          rw [if_neg (by rw [h]; simp)] at this
          exact this
        have hlk : ((t.take k).filter (onw E)).length + 1 ≤ 2147483648 := by
          have := List.length_filter_le (onw E) (t.take k)
          rw [List.length_take] at this
          omega
        have hb1 : Below wr.heap.size wr (wr.alloc (.cells #[.string (str (nth t k).1), .string (str (nth t k).2)] 67)) := (Below.refl _ wr).alloc (Nat.le_refl _) _
        have HBa : Hid (Below w3.heap.size w3 (wr.alloc (.cells #[.string (str (nth t k).1), .string (str (nth t k).2)] 67))) := bel_trans hbl.out hb1
        have HOa : Hid (OwnF 67 w3.heap.size _ ((t.take k).filter (onw E)) (wr.alloc (.cells #[.string (str (nth t k).1), .string (str (nth t k).2)] 67))) := hown.out.below hb1
        have HLk : Hid (∀ W, Calls Tryd.prog 54 #[.string (str (nth t k).1)] W fun e w' => e = .returned (.string (str (lower (nth t k).1))) ∧ Below (World.heap W).size W w') := fun W => HLo.out _ W hEk.1
        have HIk : Hid (∀ u W, RdS u E W → Calls Tryd.prog 50 #[u, .string (str (lower (nth t k).1))] W fun e w' => e = .returned (.bool (inL E (lower (nth t k).1))) ∧ w' = W) := fun u W h => HIn.out u _ W h
        have hon : onw E (nth t k) = !inL E (lower (nth t k).1) := rfl
        rw [hon] at TT FF
        clear hcell hb1 hEk hon
        generalize inL E (lower (nth t k).1) = b at HIk TT FF
        generalize str (lower (nth t k).1) = LK at *
        generalize nth t k = p at *
        obtain ⟨pn, pv⟩ := p
        dsimp only at p0 p1 HBa HOa HLk TT
        generalize hn : str pn = N at *
        generalize hv : str pv = V at *
        have HN : Hid (N = str pn) := hn.symm
        have HVp : Hid (V = str pv) := hv.symm
        clear hn hv
        cases b with
        | false =>
          have tt := TT rfl
          clear TT FF
          go_wp2_with fail
          refine (HLk.out _).mono ?_
          rintro e w2 ⟨rfl, hb2⟩
          have c0 : w2.cell? ⟨wr.heap.size, 0, none⟩ = some (.string N) := by rw [hb2.cell (by simp)]; simp
          have c1 : w2.cell? ⟨wr.heap.size, 1, none⟩ = some (.string V) := by rw [hb2.cell (by simp)]; simp
          have HBb : Hid (Below w3.heap.size w3 w2) := bel_trans HBa.out hb2
          have HOb : Hid (OwnF 67 w3.heap.size _ ((t.take k).filter (onw E)) w2) := HOa.out.below hb2
          have hs2 : w3.heap.size ≤ w2.heap.size := HBb.out.size
          have HVb : Hid (RdS _ E w2) := HV6.out.below HBb.out
          clear hb2
          go_wp2_with fail
          refine (HIk.out _ _ HVb.out).mono ?_
          rintro e w8 ⟨rfl, hw8⟩
          rw [hw8]
          clear hw8
          go_wp2_with (at_builtin; go_must (refine wp_appF 67 26 infoF2 Tryd.underlying26 rfl (.tmp 32) (.tmp 34) rfl w3.heap.size _ ((t.take k).filter (onw E)) _ (pn, pv) _ _ HN.out HVp.out rfl HOb.out _ rfl (by simp) hlk hs2 ?_); intro v7 w7 hown7 hb7)
          have HO7 : Hid (OwnF 67 w3.heap.size v7 ((t.take (k + 1)).filter (onw E)) w7) := (by rw [tt.out]; exact hown7 : OwnF _ _ v7 _ w7)
          have HB7 : Hid (Below w3.heap.size w3 w7) := HBb.out.trans hb7
          clear hown7 hb7
          go_roundw
          case rel => exact ⟨k + 1, by omega, by go_num, HO7, HB7⟩
          case measure => simp [intOf]; omega
        | true =>
          have ff := FF rfl
          clear TT FF
          go_wp2_with fail
          refine (HLk.out _).mono ?_
          rintro e w2 ⟨rfl, hb2⟩
          have HBb : Hid (Below w3.heap.size w3 w2) := bel_trans HBa.out hb2
          have HOb : Hid (OwnF 67 w3.heap.size _ ((t.take (k + 1)).filter (onw E)) w2) := (by rw [ff.out]; exact HOa.out.below hb2 : OwnF _ _ _ _ w2)
          have HVb : Hid (RdS _ E w2) := HV6.out.below HBb.out
          clear hb2
          go_wp2_with fail
          refine (HIk.out _ _ HVb.out).mono ?_
          rintro e w8 ⟨rfl, hw8⟩
          rw [hw8]
          clear hw8
          go_wp2
          go_roundw
          case rel => exact ⟨k + 1, by omega, by go_num, HOb, HBb⟩
          case measure => simp [intOf]; omega
      · obtain rfl : k = t.length := by omega
        rw [List.take_length] at hown
        go_wp2
        go_ret
        exact ⟨_, rfl, ownF_low hown.out HB6.out.size, HBw.out⟩

end Fd
end Go.Proofs.YtfpncbgedhodaaaDoor
