/-
  field: kept, All; the document's All; the law's own texts.
-/
import Derived.Test.YticncpjpkgdnlaaGreatDoorFHd
import Derived.Test.YticncpjpkgdnlaaGreatDoorMgI
set_option linter.unusedVariables false
set_option linter.unusedSimpArgs false
namespace Go.Proofs.YticncpjpkgdnlaaGreatDoor
open Go.RowKit Go.Shelf
namespace Fd
open Oc Tg

theorem filter_take (f : Fl → Bool) (t : List Fl) (k : Nat) (h : k < t.length) : (t.take (k + 1)).filter f = if f (nth t k) then (t.take k).filter f ++ [nth t k] else (t.take k).filter f := by
  rw [take_nth t k h, List.filter_append]
  by_cases hb : f (nth t k) = true
  · rw [if_pos hb]; simp [hb]
  · rw [if_neg hb]; simp [hb]

set_option maxRecDepth 100000 in
set_option maxHeartbeats 2000000 in
theorem kept_named (v : Value) (t : List Fl) (s : List UInt8) (B : Nat) (hM : Each 1048576 t) (hl : t.length ≤ 16777216) (w : World) (hrd : RdF v t w)
    (HK : Hid (∀ (p : Fl) (W : World), p.1.length ≤ 1048576 → p.2.length ≤ 1048576 → Below w.heap.size w W → Calls Tryz.prog 218 #[.agg #[.string (str p.1), .string (str p.2)], .pointer (some ⟨B, 0, none⟩)] W fun e w' => e = .returned (.bool (alike s p)) ∧ Below (World.heap W).size W w')) :
    Calls Tryz.prog 156 #[v, .func (.func 218) #[] #[.pointer (some ⟨B, 0, none⟩)]] w fun e w' => ∃ u, e = .returned u ∧ OwnF 26 w.heap.size u (t.filter (alike s)) w' ∧ Below w.heap.size w w' := by
  have HR : Hid (RdF v t w) := hrd
  have HM : Hid (Each 1048576 t) := hM
  obtain ⟨a, c, rfl, _⟩ := hrd
  clear hM
  go_enter Tryz.func156, Tryz.ntmps156
  go_wp2
  go_loopw [5, 10] (fun ov i wr => ∃ k : Nat, k ≤ t.length ∧ i = .int .i64 k ∧ Hid (OwnF 26 w.heap.size ov ((t.take k).filter (alike s)) wr) ∧ Hid (Below w.heap.size w wr)) (fun _ i _ => t.length - (intOf i).toNat)
  case atStart => exact ⟨0, Nat.zero_le _, rfl, ownF_nil _ _ _, Below.refl _ _⟩
  case round =>
    obtain ⟨k, hk, rfl, hown, hbl⟩ := hrel
    have hsz := hbl.out.size
    by_cases hlt : k < t.length
    · obtain ⟨a', c', e', hcs⟩ := HR.out.below hbl.out
      injection e' with e1 _ e2
      subst e1 e2
      rcases hcs with h | ⟨g, o, rfl, hlc, hcell⟩
      · rw [h] at hlt; simp at hlt
      obtain ⟨p0, p1⟩ := hcell k hlt
      have hEk := HM.out.at k hlt
      have TT : (alike s) (nth t k) = true → Hid ((t.take (k + 1)).filter (alike s) = (t.take k).filter (alike s) ++ [nth t k]) := fun h => by
        have := filter_take (alike s) t k hlt
        rw [if_pos h] at this
        exact this
      have FF : (alike s) (nth t k) = false → Hid ((t.take (k + 1)).filter (alike s) = (t.take k).filter (alike s)) := fun h => by
        have := filter_take (alike s) t k hlt
        rw [if_neg (by rw [h]; simp)] at this
        exact this
      have hlk : ((t.take k).filter (alike s)).length + 1 ≤ 2147483648 := by
        have := List.length_filter_le (alike s) (t.take k)
        rw [List.length_take] at this
        omega
      have hb1 : Below wr.heap.size wr (wr.alloc (.cells #[.string (str (nth t k).1), .string (str (nth t k).2)] 26)) := (Below.refl _ wr).alloc (Nat.le_refl _) _
      have HB1 : Hid (Below w.heap.size w (wr.alloc (.cells #[.string (str (nth t k).1), .string (str (nth t k).2)] 26))) := bel_trans hbl.out hb1
      have HO1 : Hid (OwnF 26 w.heap.size _ ((t.take k).filter (alike s)) (wr.alloc (.cells #[.string (str (nth t k).1), .string (str (nth t k).2)] 26))) := hown.out.below hb1
      have HC : Hid (Calls Tryz.prog 218 #[.agg #[.string (str (nth t k).1), .string (str (nth t k).2)], .pointer (some ⟨B, 0, none⟩)] (wr.alloc (.cells #[.string (str (nth t k).1), .string (str (nth t k).2)] 26)) fun e w' => e = .returned (.bool (alike s (nth t k))) ∧ Below (World.heap (wr.alloc (.cells #[.string (str (nth t k).1), .string (str (nth t k).2)] 26))).size (wr.alloc (.cells #[.string (str (nth t k).1), .string (str (nth t k).2)] 26)) w') := HK.out _ _ hEk.1 hEk.2 HB1.out
      clear hcell hb1 hEk
      generalize (alike s) (nth t k) = b at HC TT FF
      generalize nth t k = p at *
      obtain ⟨pn, pv⟩ := p
      dsimp only at p0 p1 HB1 HO1 HC TT
      generalize hn : str pn = N at *
      generalize hv : str pv = V at *
      have HN : Hid (N = str pn) := hn.symm
      have HV : Hid (V = str pv) := hv.symm
      clear hn hv
      cases b with
      | true =>
        have tt := TT rfl
        clear TT FF
        go_wp2_with fail
        refine HC.out.mono ?_
        rintro e w2 ⟨rfl, hb2⟩
        have c0 : w2.cell? ⟨wr.heap.size, 0, none⟩ = some (.string N) := by rw [hb2.cell (by simp)]; simp
        have c1 : w2.cell? ⟨wr.heap.size, 1, none⟩ = some (.string V) := by rw [hb2.cell (by simp)]; simp
        have HB2 : Hid (Below w.heap.size w w2) := bel_trans HB1.out hb2
        have HO2 : Hid (OwnF 26 w.heap.size _ ((t.take k).filter (alike s)) w2) := HO1.out.below hb2
        have hs2 : w.heap.size ≤ w2.heap.size := HB2.out.size
        clear hb2
        go_wp2_with (at_builtin; go_must (refine wp_appF 26 27 infoF Tryz.underlying27 rfl (.tmp 17) (.tmp 19) rfl w.heap.size _ ((t.take k).filter (alike s)) _ (pn, pv) _ _ HN.out HV.out rfl HO2.out _ rfl (by simp) hlk hs2 ?_); intro v6 w6 hown6 hb6)
        have HO6 : Hid (OwnF 26 w.heap.size v6 ((t.take (k + 1)).filter (alike s)) w6) := (by rw [tt.out]; exact hown6 : OwnF _ _ v6 _ w6)
        have HB6 : Hid (Below w.heap.size w w6) := HB2.out.trans hb6
        clear hown6 hb6
        go_roundw
        case rel => exact ⟨k + 1, by omega, by go_num, HO6, HB6⟩
        case measure => simp [intOf]; omega
      | false =>
        have ff := FF rfl
        clear TT FF
        go_wp2_with fail
        refine HC.out.mono ?_
        rintro e w2 ⟨rfl, hb2⟩
        have HB2 : Hid (Below w.heap.size w w2) := bel_trans HB1.out hb2
        have HO2 : Hid (OwnF 26 w.heap.size _ ((t.take (k + 1)).filter (alike s)) w2) := (by rw [ff.out]; exact HO1.out.below hb2 : OwnF _ _ _ _ w2)
        clear hb2
        go_wp2
        go_roundw
        case rel => exact ⟨k + 1, by omega, by go_num, HO2, HB2⟩
        case measure => simp [intOf]; omega
    · obtain rfl : k = t.length := by omega
      rw [List.take_length] at hown
      go_wp2
      go_ret
      exact ⟨_, rfl, hown.out, hbl.out⟩

/-- The values of a name. -/
def vals (s : List UInt8) (t : List Fl) : List (List UInt8) := (t.filter (alike s)).map Prod.snd
theorem map_take (t : List Fl) (k : Nat) (h : k < t.length) : (t.take (k + 1)).map Prod.snd = (t.take k).map Prod.snd ++ [(nth t k).2] := by
  rw [take_nth t k h, List.map_append]
  rfl
theorem Each.filter {M : Nat} {t : List Fl} (h : Each M t) (f : Fl → Bool) : Each M (t.filter f) := fun p hp => h p (List.mem_filter.1 hp).1

set_option maxRecDepth 100000 in
set_option maxHeartbeats 2000000 in
theorem All_any (v : Value) (t : List Fl) (s : List UInt8) (hs : s.length ≤ 1048576) (hM : Each 1048576 t) (hl : t.length ≤ 16777216) (w : World) (hrd : RdF v t w) :
    Calls Tryz.prog 105 #[v, .string (str s)] w fun e w' => ∃ u, e = .returned u ∧ OwnS w.heap.size u (vals s t) w' ∧ Below w.heap.size w w' := by
  have hb1 : Below w.heap.size w (w.alloc (.cells #[.string (str s)] 9)) := (Below.refl _ w).alloc (Nat.le_refl _) _
  have HK : Hid (Calls _ _ _ _ _) := kept_named v t s w.heap.size hM hl (w.alloc (.cells #[.string (str s)] 9)) (hrd.below hb1) (fun p W h1 h2 hb =>
    named1_any p.1 p.2 s (by unfold maxLen; omega) (by unfold maxLen; omega) w.heap.size W (by rw [hb.cell (by simp)]; simp))
  have HN : Hid (Calls _ _ _ _ _) := named_any (str s) w
  have HB1 : Hid (Below _ _ _) := hb1
  unfold vals
  have hfl : (t.filter (alike s)).length ≤ 16777216 := Nat.le_trans (List.length_filter_le _ _) hl
  obtain ⟨a, c, rfl, _⟩ := hrd
  clear hb1 hM hs
  generalize t.filter (alike s) = T at *
  generalize str s = S at *
  go_enter Tryz.func105, Tryz.ntmps105
  go_wp2_with fail
  refine HN.out.mono ?_
  rintro e w1 ⟨rfl, rfl⟩
  go_wp2_with fail
  refine HK.out.mono ?_
  rintro e w2 ⟨u, rfl, ho2, hb2⟩
  have HB2 : Hid (Below w.heap.size w w2) := bel_trans HB1.out hb2
  have HR2 : Hid (RdF u T w2) := ho2.rd
  obtain ⟨a2, c2, rfl⟩ := ho2.form
  clear hb2 ho2
  go_wp2
  go_loopw [5, 13] (fun ov i wr => ∃ k : Nat, k ≤ T.length ∧ i = .int .i64 k ∧ Hid (OwnS w2.heap.size ov ((T.take k).map Prod.snd) wr) ∧ Hid (Below w2.heap.size w2 wr)) (fun _ i _ => T.length - (intOf i).toNat)
  case atStart => exact ⟨0, Nat.zero_le _, rfl, ownS_nil _ _, Below.refl _ _⟩
  case round =>
    obtain ⟨k, hk, rfl, hown, hbl⟩ := hrel
    by_cases hlt : k < T.length
    · obtain ⟨a', c', e', hcs⟩ := HR2.out.below hbl.out
      injection e' with e1 _ e2
      subst e1 e2
      rcases hcs with h | ⟨g, o, rfl, hlc, hcell⟩
      · rw [h] at hlt; simp at hlt
      obtain ⟨p0, p1⟩ := hcell k hlt
      have HTk : Hid (_ = _) := map_take T k hlt
      have hlk : ((T.take k).map Prod.snd).length + 1 ≤ 4294967296 := by rw [List.length_map, List.length_take]; omega
      generalize nth T k = p at *
      obtain ⟨pn, pv⟩ := p
      dsimp only at p0 p1 HTk
      generalize str pn = N at *
      have hb1 : Below wr.heap.size wr (wr.alloc (.cells #[.string N, .string (str pv)] 26)) := (Below.refl _ wr).alloc (Nat.le_refl _) _
      have HO1 : Hid (OwnS w2.heap.size _ ((T.take k).map Prod.snd) (wr.alloc (.cells #[.string N, .string (str pv)] 26))) := hown.out.below hb1
      have HBW : Hid (Below w2.heap.size w2 (wr.alloc (.cells #[.string N, .string (str pv)] 26))) := bel_trans hbl.out hb1
      have hsw : w2.heap.size ≤ (wr.alloc (.cells #[.string N, .string (str pv)] 26)).heap.size := HBW.out.size
      clear hcell hb1
      go_wp2_with (at_builtin; go_must (refine wp_appS rfl (.tmp 17) (.tmp 20) rfl w2.heap.size _ ((T.take k).map Prod.snd) _ pv rfl HO1.out (by simp; rfl) hlk hsw ?_); intro v6 w6 hown6 hb6)
      have HO6 : Hid (OwnS w2.heap.size v6 ((T.take (k + 1)).map Prod.snd) w6) := (by rw [HTk.out]; exact hown6 : OwnS _ v6 _ w6)
      have HB6 : Hid (Below w2.heap.size w2 w6) := HBW.out.trans hb6
      clear hown6 hb6
      go_roundw
      case rel => exact ⟨k + 1, by omega, by go_num, HO6, HB6⟩
      case measure => simp [intOf]; omega
    · obtain rfl : k = T.length := by omega
      rw [List.take_length] at hown
      go_wp2
      go_ret
      exact ⟨_, rfl, hown.out.lower HB2.out.size, HB2.out.trans (hbl.out.mono HB2.out.size)⟩

end Fd
end Go.Proofs.YticncpjpkgdnlaaGreatDoor
