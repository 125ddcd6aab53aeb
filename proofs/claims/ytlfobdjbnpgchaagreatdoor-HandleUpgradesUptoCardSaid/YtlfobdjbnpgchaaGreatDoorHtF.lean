/-
  field: kept, All, List, Tokens, Has at more bytes (written by mkhtf.py).
-/
import Derived.Test.YtlfobdjbnpgchaaGreatDoorFHs
set_option linter.unusedVariables false
set_option linter.unusedSimpArgs false
namespace Go.Proofs.YtlfobdjbnpgchaaGreatDoor
open Go.RowKit Go.Shelf
namespace Fz
open Oc Tg _root_.Go.Proofs.YtlfobdjbnpgchaaGreatDoor.Fd

set_option maxRecDepth 100000 in
set_option maxHeartbeats 2000000 in
theorem kept_named (v : Value) (t : List Fl) (s : List UInt8) (B : Nat) (hM : Each 4000000 t) (hl : t.length ≤ 16777216) (w : World) (hrd : RdF v t w)
    (HK : Hid (∀ (p : Fl) (W : World), p.1.length ≤ 4000000 → p.2.length ≤ 4000000 → Below w.heap.size w W → Calls Tryz.prog 124 #[.agg #[.string (str p.1), .string (str p.2)], .pointer (some ⟨B, 0, none⟩)] W fun e w' => e = .returned (.bool (alike s p)) ∧ Below (World.heap W).size W w')) :
    Calls Tryz.prog 89 #[v, .func (.func 124) #[] #[.pointer (some ⟨B, 0, none⟩)]] w fun e w' => ∃ u, e = .returned u ∧ OwnF 36 w.heap.size u (t.filter (alike s)) w' ∧ Below w.heap.size w w' := by
  have HR : Hid (RdF v t w) := hrd
  have HM : Hid (Each 4000000 t) := hM
  obtain ⟨a, c, rfl, _⟩ := hrd
  clear hM
  go_enter Tryz.func89, Tryz.ntmps89
  go_wp2
  go_loopw [5, 10] (fun ov i wr => ∃ k : Nat, k ≤ t.length ∧ i = .int .i64 k ∧ Hid (OwnF 36 w.heap.size ov ((t.take k).filter (alike s)) wr) ∧ Hid (Below w.heap.size w wr)) (fun _ i _ => t.length - (intOf i).toNat)
  case atStart => exact ⟨0, Nat.zero_le _, rfl, ownF_nil _ _ _, Below.refl _ _⟩
  case round =>
    obtain ⟨k, hk, rfl, hown, hbl⟩ := hrel
    have hsz := hbl.out.size
    by_cases hlt : k < t.length
    · obtain ⟨a', c', e', hcs⟩ := HR.out.below hbl.out
      injection e' with e1 _ e2
      subst e1 e2
      rcases hcs with h | ⟨g, o, rfl, hlc, hcell⟩
      · rw [h] at hlt; simp at hlt
      obtain ⟨p0, p1⟩ := hcell k hlt
      have hEk := HM.out.at k hlt
      have TT : (alike s) (nth t k) = true → Hid ((t.take (k + 1)).filter (alike s) = (t.take k).filter (alike s) ++ [nth t k]) := fun h => by
        have := filter_take (alike s) t k hlt
        rw [if_pos h] at this
        exact this
      have FF : (alike s) (nth t k) = false → Hid ((t.take (k + 1)).filter (alike s) = (t.take k).filter (alike s)) := fun h => by
        have := filter_take (alike s) t k hlt
        rw [if_neg (by rw [h]; simp)] at this
        exact this
      have hlk : ((t.take k).filter (alike s)).length + 1 ≤ 2147483648 := by
        have := List.length_filter_le (alike s) (t.take k)
        rw [List.length_take] at this
        omega
      have hb1 : Below wr.heap.size wr (wr.alloc (.cells #[.string (str (nth t k).1), .string (str (nth t k).2)] 36)) := (Below.refl _ wr).alloc (Nat.le_refl _) _
      have HB1 : Hid (Below w.heap.size w (wr.alloc (.cells #[.string (str (nth t k).1), .string (str (nth t k).2)] 36))) := bel_trans hbl.out hb1
      have HO1 : Hid (OwnF 36 w.heap.size _ ((t.take k).filter (alike s)) (wr.alloc (.cells #[.string (str (nth t k).1), .string (str (nth t k).2)] 36))) := hown.out.below hb1
      have HC : Hid (Calls Tryz.prog 124 #[.agg #[.string (str (nth t k).1), .string (str (nth t k).2)], .pointer (some ⟨B, 0, none⟩)] (wr.alloc (.cells #[.string (str (nth t k).1), .string (str (nth t k).2)] 36)) fun e w' => e = .returned (.bool (alike s (nth t k))) ∧ Below (World.heap (wr.alloc (.cells #[.string (str (nth t k).1), .string (str (nth t k).2)] 36))).size (wr.alloc (.cells #[.string (str (nth t k).1), .string (str (nth t k).2)] 36)) w') := HK.out _ _ hEk.1 hEk.2 HB1.out
      clear hcell hb1 hEk
      generalize (alike s) (nth t k) = b at HC TT FF
      generalize nth t k = p at *
      obtain ⟨pn, pv⟩ := p
      dsimp only at p0 p1 HB1 HO1 HC TT
      generalize hn : str pn = N at *
      generalize hv : str pv = V at *
      have HN : Hid (N = str pn) := hn.symm
      have HV : Hid (V = str pv) := hv.symm
      clear hn hv
      cases b with
      | true =>
        have tt := TT rfl
        clear TT FF
        go_wp2_with fail
        refine HC.out.mono ?_
        rintro e w2 ⟨rfl, hb2⟩
        have c0 : w2.cell? ⟨wr.heap.size, 0, none⟩ = some (.string N) := by rw [hb2.cell (by simp)]; simp
        have c1 : w2.cell? ⟨wr.heap.size, 1, none⟩ = some (.string V) := by rw [hb2.cell (by simp)]; simp
        have HB2 : Hid (Below w.heap.size w w2) := bel_trans HB1.out hb2
        have HO2 : Hid (OwnF 36 w.heap.size _ ((t.take k).filter (alike s)) w2) := HO1.out.below hb2
        have hs2 : w.heap.size ≤ w2.heap.size := HB2.out.size
        clear hb2
        go_wp2_with (at_builtin; go_must (refine wp_appF 36 34 infoF Tryz.underlying34 rfl (.tmp 17) (.tmp 19) rfl w.heap.size _ ((t.take k).filter (alike s)) _ (pn, pv) _ _ HN.out HV.out rfl HO2.out _ rfl (by simp) hlk hs2 ?_); intro v6 w6 hown6 hb6)
        have HO6 : Hid (OwnF 36 w.heap.size v6 ((t.take (k + 1)).filter (alike s)) w6) := (by rw [tt.out]; exact hown6 : OwnF _ _ v6 _ w6)
        have HB6 : Hid (Below w.heap.size w w6) := HB2.out.trans hb6
        clear hown6 hb6
        go_roundw
        case rel => exact ⟨k + 1, by omega, by go_num, HO6, HB6⟩
        case measure => simp [intOf]; omega
      | false =>
        have ff := FF rfl
        clear TT FF
        go_wp2_with fail
        refine HC.out.mono ?_
        rintro e w2 ⟨rfl, hb2⟩
        have HB2 : Hid (Below w.heap.size w w2) := bel_trans HB1.out hb2
        have HO2 : Hid (OwnF 36 w.heap.size _ ((t.take (k + 1)).filter (alike s)) w2) := (by rw [ff.out]; exact HO1.out.below hb2 : OwnF _ _ _ _ w2)
        clear hb2
        go_wp2
        go_roundw
        case rel => exact ⟨k + 1, by omega, by go_num, HO2, HB2⟩
        case measure => simp [intOf]; omega
    · obtain rfl : k = t.length := by omega
      rw [List.take_length] at hown
      go_wp2
      go_ret
      exact ⟨_, rfl, hown.out, hbl.out⟩

set_option maxRecDepth 100000 in
set_option maxHeartbeats 2000000 in
theorem All_any (v : Value) (t : List Fl) (s : List UInt8) (hs : s.length ≤ 4000000) (hM : Each 4000000 t) (hl : t.length ≤ 16777216) (w : World) (hrd : RdF v t w) :
    Calls Tryz.prog 53 #[v, .string (str s)] w fun e w' => ∃ u, e = .returned u ∧ OwnS w.heap.size u (vals s t) w' ∧ Below w.heap.size w w' := by
  have hb1 : Below w.heap.size w (w.alloc (.cells #[.string (str s)] 9)) := (Below.refl _ w).alloc (Nat.le_refl _) _
  have HK : Hid (Calls _ _ _ _ _) := kept_named v t s w.heap.size hM hl (w.alloc (.cells #[.string (str s)] 9)) (hrd.below hb1) (fun p W h1 h2 hb =>
    named1_any p.1 p.2 s (by unfold maxLen; omega) (by unfold maxLen; omega) w.heap.size W (by rw [hb.cell (by simp)]; simp))
  have HN : Hid (Calls _ _ _ _ _) := named_any (str s) w
  have HB1 : Hid (Below _ _ _) := hb1
  unfold vals
  have hfl : (t.filter (alike s)).length ≤ 16777216 := Nat.le_trans (List.length_filter_le _ _) hl
  obtain ⟨a, c, rfl, _⟩ := hrd
  clear hb1 hM hs
  generalize t.filter (alike s) = T at *
  generalize str s = S at *
  go_enter Tryz.func53, Tryz.ntmps53
  go_wp2_with fail
  refine HN.out.mono ?_
  rintro e w1 ⟨rfl, rfl⟩
  go_wp2_with fail
  refine HK.out.mono ?_
  rintro e w2 ⟨u, rfl, ho2, hb2⟩
  have HB2 : Hid (Below w.heap.size w w2) := bel_trans HB1.out hb2
  have HR2 : Hid (RdF u T w2) := ho2.rd
  obtain ⟨a2, c2, rfl⟩ := ho2.form
  clear hb2 ho2
  go_wp2
  go_loopw [5, 13] (fun ov i wr => ∃ k : Nat, k ≤ T.length ∧ i = .int .i64 k ∧ Hid (OwnS w2.heap.size ov ((T.take k).map Prod.snd) wr) ∧ Hid (Below w2.heap.size w2 wr)) (fun _ i _ => T.length - (intOf i).toNat)
  case atStart => exact ⟨0, Nat.zero_le _, rfl, ownS_nil _ _, Below.refl _ _⟩
  case round =>
    obtain ⟨k, hk, rfl, hown, hbl⟩ := hrel
    by_cases hlt : k < T.length
    · obtain ⟨a', c', e', hcs⟩ := HR2.out.below hbl.out
      injection e' with e1 _ e2
      subst e1 e2
      rcases hcs with h | ⟨g, o, rfl, hlc, hcell⟩
      · rw [h] at hlt; simp at hlt
      obtain ⟨p0, p1⟩ := hcell k hlt
      have HTk : Hid (_ = _) := map_take T k hlt
      have hlk : ((T.take k).map Prod.snd).length + 1 ≤ 4294967296 := by rw [List.length_map, List.length_take]; omega
      generalize nth T k = p at *
      obtain ⟨pn, pv⟩ := p
      dsimp only at p0 p1 HTk
      generalize str pn = N at *
      have hb1 : Below wr.heap.size wr (wr.alloc (.cells #[.string N, .string (str pv)] 36)) := (Below.refl _ wr).alloc (Nat.le_refl _) _
      have HO1 : Hid (OwnS w2.heap.size _ ((T.take k).map Prod.snd) (wr.alloc (.cells #[.string N, .string (str pv)] 36))) := hown.out.below hb1
      have HBW : Hid (Below w2.heap.size w2 (wr.alloc (.cells #[.string N, .string (str pv)] 36))) := bel_trans hbl.out hb1
      have hsw : w2.heap.size ≤ (wr.alloc (.cells #[.string N, .string (str pv)] 36)).heap.size := HBW.out.size
      clear hcell hb1
      go_wp2_with (at_builtin; go_must (refine wp_appS rfl (.tmp 17) (.tmp 20) rfl w2.heap.size _ ((T.take k).map Prod.snd) _ pv rfl HO1.out (by simp; rfl) hlk hsw ?_); intro v6 w6 hown6 hb6)
      have HO6 : Hid (OwnS w2.heap.size v6 ((T.take (k + 1)).map Prod.snd) w6) := (by rw [HTk.out]; exact hown6 : OwnS _ v6 _ w6)
      have HB6 : Hid (Below w2.heap.size w2 w6) := HBW.out.trans hb6
      clear hown6 hb6
      go_roundw
      case rel => exact ⟨k + 1, by omega, by go_num, HO6, HB6⟩
      case measure => simp [intOf]; omega
    · obtain rfl : k = T.length := by omega
      rw [List.take_length] at hown
      go_wp2
      go_ret
      exact ⟨_, rfl, hown.out.lower HB2.out.size, HB2.out.trans (hbl.out.mono HB2.out.size)⟩

set_option maxRecDepth 100000 in
set_option maxHeartbeats 2000000 in
theorem List6_any (v : Value) (t : List Fl) (s : List UInt8) (hs : s.length ≤ 4000000) (hS : sumF t ≤ 4000000) (w : World) (hrd : RdF v t w) :
    Calls Tryz.prog 215 #[v, .string (str s)] w fun e w' => ∃ u, e = .returned (.tuple #[u, .int .i64 (listF s t).2]) ∧ OwnS w.heap.size u (listF s t).1 w' ∧ Below w.heap.size w w' := by
  have hlen := len_sumF t
  have HA : Hid (Calls _ _ _ _ _) := All_any v t s hs ((each_sumF t).mono hS) (by omega) w hrd
  have hv := sumV_filter s t
  have hvl : (vals s t).length ≤ 4000000 := by omega
  have hvs : sumV (vals s t) ≤ 4000000 := by omega
  unfold listF
  obtain ⟨a, c, rfl, _⟩ := hrd
  clear hv hs
  generalize vals s t = T at *
  generalize str s = S at *
  go_enter Tryz.func215, Tryz.ntmps215
  go_wp2_with fail
  refine HA.out.mono ?_
  rintro e w1 ⟨u, rfl, ho, hb1⟩
  have HR : Hid (RdS u T w1) := ho.rd
  have HB1 : Hid (Below w.heap.size w w1) := hb1
  obtain ⟨a1, c1, rfl⟩ := ho.form
  clear ho hb1
  go_wp2
  go_loopw [6, 15] (fun ov i wr => ∃ (k : Nat) (acc : List (List UInt8)), k ≤ T.length ∧ i = .int .i64 k ∧ Hid (listV T [] = listV (T.drop k) acc) ∧ Hid (acc.length + sumV (T.drop k) ≤ 4000000) ∧ Hid (OwnS w1.heap.size ov acc wr) ∧ Hid (Below w1.heap.size w1 wr)) (fun _ i _ => T.length - (intOf i).toNat)
  case atStart => exact ⟨0, [], Nat.zero_le _, rfl, (rfl : listV T [] = listV T []), (by simpa using hvs : _ ≤ _), ownS_nil _ _, Below.refl _ _⟩
  case round =>
    obtain ⟨k, acc, hk, rfl, hst, hal, hown, hbl⟩ := hrel
    by_cases hlt : k < T.length
    · obtain ⟨a', c', e', hcs⟩ := HR.out.below hbl.out
      injection e' with e1 _ e2
      subst e1 e2
      rcases hcs with h | ⟨g, o, rfl, hlc, hcell⟩
      · rw [h] at hlt; simp at hlt
      have p0 := hcell k hlt
      have hsd := sumV_drop T k hlt
      have hsh := listR_short (T.getD k [])
      have hal' := hal.out
      have hgl : (T.getD k []).length ≤ 4000000 := by omega
      have HL : Hid (∀ w, Calls Tryz.prog 274 #[.string (str (T.getD k []))] w fun e w' => ∃ v, e = .returned (.tuple #[v, .int .i64 (listR (T.getD k [])).2]) ∧ OwnS w.heap.size v (listR (T.getD k [])).1 w' ∧ Below w.heap.size w w') := fun w => by
        have h := List_any (str (T.getD k [])) (by rw [str_size]; omega) w
        rw [str_list] at h
        exact h
      have NX : (listR (T.getD k [])).2 = 0 → Hid (listV T [] = listV (T.drop (k + 1)) (acc ++ (listR (T.getD k [])).1)) := fun h => hst.out.trans (listV_next T k hlt acc h)
      have BD : (listR (T.getD k [])).2 ≠ 0 → Hid (listV T [] = ([], (listR (T.getD k [])).2)) := fun h => hst.out.trans (listV_bad T k hlt acc h)
      have HN : Hid ((acc ++ (listR (T.getD k [])).1).length + sumV (T.drop (k + 1)) ≤ 4000000) := by
        show _ ≤ _
        rw [List.length_append]
        omega
      have hln : acc.length + (listR (T.getD k [])).1.length ≤ 4294967296 := by omega
      clear hcell hst hsd hsh hal' hgl
      generalize str (T.getD k []) = X at p0 HL
      generalize (listR (T.getD k [])).2 = z at HL NX BD
      generalize (listR (T.getD k [])).1 = L at HL NX HN hln
      by_cases hz : z = 0
      · have nx := NX hz
        subst hz
        clear NX BD
        go_wp2_with fail
        refine (HL.out _).mono ?_
        rintro e w2 ⟨y, rfl, hy, hb2⟩
        have HO2 : Hid (OwnS w1.heap.size _ acc w2) := hown.out.below hb2
        have HB2 : Hid (Below w1.heap.size w1 w2) := bel_trans hbl.out hb2
        have HY : Hid (RdS y L w2) := hy.rd
        have HYN : Hid (L = [] → y = .slice none 0 0 ∨ ∃ g c, y = .slice (some g) 0 c) := hy.nilish
        have hs2 : w1.heap.size ≤ w2.heap.size := HB2.out.size
        obtain ⟨ya, yc, rfl⟩ := hy.form
        clear hy hb2
        go_wp2_with (at_builtin; go_must (refine wp_appR rfl (.tmp 27) (.tmp 28) rfl w1.heap.size _ _ acc L rfl HO2.out rfl HY.out HYN.out hln hs2 ?_); intro v6 w6 hown6 hb6)
        have HO6 : Hid (OwnS w1.heap.size v6 (acc ++ L) w6) := hown6
        have HB6 : Hid (Below w1.heap.size w1 w6) := HB2.out.trans hb6
        clear hown6 hb6
        go_roundw
        case rel => exact ⟨k + 1, acc ++ L, by omega, by go_num, nx, HN, HO6, HB6⟩
        case measure => simp [intOf]; omega
      · have bd := BD hz
        have hzq : (z != 0) = true := by simp [hz]
        clear NX BD
        go_wp2_with fail
        refine (HL.out _).mono ?_
        rintro e w2 ⟨y, rfl, hy, hb2⟩
        have HB2 : Hid (Below w1.heap.size w1 w2) := bel_trans hbl.out hb2
        obtain ⟨ya, yc, rfl⟩ := hy.form
        clear hy hb2
        go_wp2
        go_ret2
        rw [bd.out]
        exact ⟨_, rfl, ownS_nil _ _, HB1.out.trans (HB2.out.mono HB1.out.size)⟩
    · have HE : Hid (listV T [] = (acc, 0)) := by
        show _ = _
        rw [hst.out, List.drop_eq_nil_of_le (by omega)]
        rfl
      go_wp2
      go_ret2
      rw [HE.out]
      exact ⟨_, rfl, hown.out.lower HB1.out.size, HB1.out.trans (hbl.out.mono HB1.out.size)⟩

set_option maxRecDepth 100000 in
set_option maxHeartbeats 2000000 in
theorem Tokens6_any (v : Value) (t : List Fl) (s : List UInt8) (hs : s.length ≤ 4000000) (hS : sumF t ≤ 4000000) (w : World) (hrd : RdF v t w) (tab : Tab w) :
    Calls Tryz.prog 159 #[v, .string (str s)] w fun e w' => ∃ u, e = .returned (.tuple #[u, .int .i64 (tokensF s t).2]) ∧ OwnS w.heap.size u (tokensF s t).1 w' ∧ Below w.heap.size w w' := by
  have hlen := len_sumF t
  have HL : Hid (Calls _ _ _ _ _) := List6_any v t s hs hS w hrd
  have HT : Hid (Tab w) := tab
  have hv := sumV_filter s t
  have hll := listV_len (vals s t) []
  have HSh : Hid (∀ x ∈ (listF s t).1, x.length ≤ 4000000) := listV_short 4000000 (vals s t) [] (fun x hx => by cases hx) (vals_short ((each_sumF t).mono hS) s)
  have hLn : (listF s t).1.length ≤ 4000000 := by unfold listF; simp at hll; omega
  unfold tokensF
  obtain ⟨a, c, rfl, _⟩ := hrd
  clear hv hs hll tab
  generalize (listF s t).1 = L at *
  generalize (listF s t).2 = z at *
  generalize str s = S at *
  by_cases hz : z = 0
  · subst hz
    rw [if_pos rfl]
    go_enter Tryz.func159, Tryz.ntmps159
    go_wp2_with fail
    refine HL.out.mono ?_
    rintro e w1 ⟨u, rfl, ho, hb1⟩
    have HB1 : Hid (Below w.heap.size w w1) := hb1
    have HO1 : Hid (OwnS w.heap.size u (lowd L 0) w1) := by
      show OwnS _ _ _ _
      unfold lowd
      simpa using ho
    obtain ⟨ua, uc, rfl⟩ := ho.form
    clear ho hb1
    go_wp2
    go_loopw [21] (fun i wr => ∃ k : Nat, k ≤ L.length ∧ i = .int .i64 k ∧ Hid (∀ j, j < k → isTok (L.getD j []) = true) ∧ Hid (OwnS w.heap.size (.slice ua L.length uc) (lowd L k) wr) ∧ Hid (Below w.heap.size w wr)) (fun i _ => L.length - (intOf i).toNat)
    case atStart => exact ⟨0, Nat.zero_le _, rfl, (fun j hj => by omega : ∀ j, j < 0 → _), HO1, HB1⟩
    case round =>
      obtain ⟨k, hk, rfl, hall, hown, hbl⟩ := hrel
      by_cases hlt : k < L.length
      · have hld := lowd_len L k
        obtain ⟨g, hua, hcap, hcell⟩ := (show OwnS w.heap.size (.slice ua (lowd L k).length uc) (lowd L k) wr by rw [hld]; exact hown.out).cell k (by omega)
        subst hua
        rw [lowd_at L k hlt] at hcell
        have hcap2 : L.length ≤ uc := by omega
        have HSet : Hid (∀ W, OwnS w.heap.size (.slice (some ⟨g, 0, none⟩) L.length uc) (lowd L k) W → OwnS w.heap.size (.slice (some ⟨g, 0, none⟩) L.length uc) (lowd L (k + 1)) (W.setCell ⟨g, k, none⟩ (.string (str (lower (L.getD k []))))) ∧ W.frozen? ⟨g, k, none⟩ = false ∧ w.heap.size ≤ g) := fun W h => by
          have := ownS_set h k (by omega) (lower (L.getD k []))
          rw [lowd_set L k hlt] at this
          exact this
        have hxl : (L.getD k []).length ≤ 4000000 := HSh.out _ (by rw [List.getD_eq_getElem?_getD, List.getElem?_eq_getElem hlt]; exact List.getElem_mem hlt)
        have HI : Hid (∀ w, Tab w → Calls Tryz.prog 113 #[.string (str (L.getD k []))] w fun e w' => e = .returned (.bool (isTok (L.getD k []))) ∧ Below w.heap.size w w') := fun w tb => by
          have h := IsToken_any (str (L.getD k [])) (by rw [str_size]; unfold maxLen; omega) w tb
          rw [str_list] at h
          exact h
        have HLo : Hid (∀ w, Calls Tryz.prog 161 #[.string (str (L.getD k []))] w fun e w' => e = .returned (.string (str (lower (L.getD k [])))) ∧ Below w.heap.size w w') := fun w => by
          have h := Lower_any (str (L.getD k [])) (by rw [str_size]; unfold maxLen; omega) w
          rw [lowS_str] at h
          exact h
        have TT : isTok (L.getD k []) = true → Hid (∀ j, j < k + 1 → isTok (L.getD j []) = true) := fun h j hj => by
          by_cases hjk : j = k
          · subst hjk; exact h
          · exact hall.out j (by omega)
        have FF : isTok (L.getD k []) = false → Hid (tokV L = ([], 10)) := fun h => by
          show _ = _
          unfold tokV
          rw [if_neg]
          rw [all_not isTok [] L k hlt h]
          simp
        clear hxl hld
        generalize isTok (L.getD k []) = b at HI TT FF
        generalize str (lower (L.getD k [])) = Y at HSet HLo
        generalize str (L.getD k []) = X at hcell HI HLo
        cases b with
        | true =>
          have tt := TT rfl
          clear TT FF
          go_wp2_with fail
          refine (HI.out _ (HT.out.below hbl.out (Nat.le_refl _))).mono ?_
          rintro e w2 ⟨rfl, hb2⟩
          have HO2 : Hid (OwnS w.heap.size (.slice (some ⟨g, 0, none⟩) L.length uc) (lowd L k) w2) := hown.out.below hb2
          have HB2 : Hid (Below w.heap.size w w2) := bel_trans hbl.out hb2
          clear hb2
          go_wp2_with fail
          refine (HLo.out _).mono ?_
          rintro e w3 ⟨rfl, hb3⟩
          obtain ⟨hs1, hs2, hs3⟩ := HSet.out w3 (HO2.out.below hb3)
          have HO3 : Hid (OwnS w.heap.size (.slice (some ⟨g, 0, none⟩) L.length uc) (lowd L (k + 1)) (w3.setCell ⟨g, k, none⟩ (.string Y))) := hs1
          have HB3 : Hid (Below w.heap.size w (w3.setCell ⟨g, k, none⟩ (.string Y))) := (bel_trans HB2.out hb3).setCell hs3 _
          have hcw : ∃ u, w3.cell? ⟨g, k, none⟩ = some u := ⟨_, by
            have h2 := HO2.out.below hb3
            have hld := lowd_len L k
            obtain ⟨g2, e2, _, hc2⟩ := (show OwnS w.heap.size (.slice (some ⟨g, 0, none⟩) (lowd L k).length uc) (lowd L k) w3 by rw [hld]; exact h2).cell k (by omega)
            injection e2 with e2
            injection e2 with e2
            subst e2
            exact hc2⟩
          obtain ⟨cu, hcu⟩ := hcw
          clear hb3 hs1 hs3
          go_wp2
          go_roundw
          case rel => exact ⟨k + 1, by omega, by go_num, tt, HO3, HB3⟩
          case measure => simp [intOf]; omega
        | false =>
          have ff := FF rfl
          clear TT FF
          go_wp2_with fail
          refine (HI.out _ (HT.out.below hbl.out (Nat.le_refl _))).mono ?_
          rintro e w2 ⟨rfl, hb2⟩
          have HB2 : Hid (Below w.heap.size w w2) := bel_trans hbl.out hb2
          clear hb2
          go_wp2
          go_ret2
          rw [ff.out]
          exact ⟨_, rfl, ownS_nil _ _, HB2.out⟩
      · obtain rfl : k = L.length := by omega
        have HE : Hid (tokV L = (L.map lower, 0)) := by
          show _ = _
          unfold tokV
          rw [if_pos (all_of isTok [] L hall.out)]
        have HO2 : Hid (OwnS w.heap.size (.slice ua L.length uc) (L.map lower) wr) := by
          have h := hown.out
          rw [show lowd L L.length = L.map lower by unfold lowd; simp] at h
          exact h
        go_wp2
        go_ret2
        rw [HE.out]
        exact ⟨_, rfl, HO2.out, hbl.out⟩
  · rw [if_neg hz]
    have hzq : (z != 0) = true := by simp [hz]
    go_enter Tryz.func159, Tryz.ntmps159
    go_wp2_with fail
    refine HL.out.mono ?_
    rintro e w1 ⟨u, rfl, ho, hb1⟩
    obtain ⟨ua, uc, rfl⟩ := ho.form
    clear ho
    go_wp2
    go_ret2
    exact ⟨_, rfl, ownS_nil _ _, hb1⟩

theorem Contains_any (v : Value) (L : List (List UInt8)) (x : List UInt8) (hl : L.length ≤ 4000000) (w : World) (h : RdS v L w) :
    Calls Tryz.prog 160 #[v, .string (str x)] w fun e w' => e = .returned (.bool (inL L x)) ∧ w' = w := by
  obtain ⟨a, c, rfl, h⟩ := h
  by_cases h0 : L = []
  · subst h0
    exact contains_nil a c _ w
  · rcases h with h | ⟨g, o, rfl, hc, hcell⟩
    · exact absurd h h0
    · have h := Tryz.slices_Contains_string g o L.length c (L.map str) (str x) w (by simp) (by omega) (fun j hj => by
        rw [List.length_map] at hj
        rw [hcell j hj, List.getD_eq_getElem?_getD, List.getD_eq_getElem?_getD, List.getElem?_map, List.getElem?_eq_getElem hj]
        rfl)
      rw [List.take_of_length_le (by simp), contains_eq] at h
      exact h

theorem tokens_len {t : List Fl} (hS : sumF t ≤ 4000000) (s : List UInt8) : (tokensF s t).1.length ≤ 4000000 := by
  have hv := sumV_filter s t
  have hll := listV_len (vals s t) []
  unfold tokensF tokV
  split
  · split
    · rw [List.length_map]
      unfold listF
      simp at hll
      omega
    · simp
  · simp

set_option maxRecDepth 100000 in
set_option maxHeartbeats 1000000 in
theorem Has_any (v : Value) (t : List Fl) (s k : List UInt8) (hs : s.length ≤ 4000000) (hk : k.length ≤ 4000000) (hS : sumF t ≤ 4000000) (w : World) (hrd : RdF v t w) (tab : Tab w) :
    Calls Tryz.prog 116 #[v, .string (str s), .string (str k)] w fun e w' => e = .returned (.bool (hasF s t k)) ∧ Below w.heap.size w w' := by
  have HT : Hid (Calls _ _ _ _ _) := Tokens6_any v t s hs hS w hrd tab
  have HLo : Hid (∀ w, Calls Tryz.prog 161 #[.string (str k)] w fun e w' => e = .returned (.string (str (lower k))) ∧ Below w.heap.size w w') := fun w => by
    have h := Lower_any (str k) (by rw [str_size]; unfold maxLen; omega) w
    rw [lowS_str] at h
    exact h
  have hl := tokens_len hS s
  have HC : Hid (∀ u w, RdS u (tokensF s t).1 w → Calls Tryz.prog 160 #[u, .string (str (lower k))] w fun e w' => e = .returned (.bool (inL (tokensF s t).1 (lower k))) ∧ w' = w) := fun u w h => Contains_any u _ _ hl w h
  unfold hasF
  obtain ⟨a, c, rfl, _⟩ := hrd
  clear hs hk tab
  generalize (tokensF s t).1 = L at *
  generalize (tokensF s t).2 = z at *
  generalize inL L (lower k) = b at *
  generalize str (lower k) = K at *
  generalize str s = S at *
  generalize str k = K0 at *
  by_cases hz : z = 0
  · subst hz
    go_enter Tryz.func116, Tryz.ntmps116
    go_wp2_with fail
    refine HT.out.mono ?_
    rintro e w1 ⟨u, rfl, ho, hb1⟩
    have HB1 : Hid (Below w.heap.size w w1) := hb1
    have HR : Hid (RdS u L w1) := ho.rd
    clear ho hb1
    go_wp2_with fail
    refine (HLo.out _).mono ?_
    rintro e w2 ⟨rfl, hb2⟩
    have HB2 : Hid (Below w.heap.size w w2) := bel_trans HB1.out hb2
    have HR2 : Hid (RdS u L w2) := HR.out.below hb2
    clear hb2
    go_wp2_with fail
    refine (HC.out _ _ HR2.out).mono ?_
    rintro e w3 ⟨rfl, rfl⟩
    go_wp2
    go_ret
    exact ⟨ret_bool (by simp), HB2.out⟩
  · have hzq : (z == 0) = false := by simp [hz]
    have HZ : Hid (decide (z = 0) = false) := decide_eq_false hz
    go_enter Tryz.func116, Tryz.ntmps116
    go_wp2_with fail
    refine HT.out.mono ?_
    rintro e w1 ⟨u, rfl, ho, hb1⟩
    go_wp2
    go_ret
    exact ⟨ret_bool (by first | rfl | (rw [HZ.out]; rfl)), hb1⟩


end Fz
end Go.Proofs.YtlfobdjbnpgchaaGreatDoor
