/- Several texts as one. -/
import Derived.Test.YtcelekfokbdmfaaGreatDoorMgN
import Derived.Lib.SlicesS
/-
  The document's All, Joined, List, Tokens, In, Has.
-/
set_option linter.unusedVariables false
set_option linter.unusedSimpArgs false
namespace Go.Proofs.YtcelekfokbdmfaaGreatDoor
open Go.RowKit Go.Shelf
namespace Fd
open Oc Tg

theorem vals_take (s : List UInt8) (t : List Fl) (k : Nat) (h : k < t.length) : vals s (t.take (k + 1)) = if alike s (nth t k) then vals s (t.take k) ++ [(nth t k).2] else vals s (t.take k) := by
  unfold vals
  rw [filter_take (alike s) t k h]
  split
  · rw [List.map_append]; rfl
  · rfl
theorem vals_len (s : List UInt8) (t : List Fl) : (vals s t).length ≤ t.length := by unfold vals; rw [List.length_map]; exact List.length_filter_le _ _

set_option maxRecDepth 100000 in
set_option maxHeartbeats 2000000 in
theorem rAll_any (v : Value) (t : List Fl) (s : List UInt8) (hs : s.length ≤ 1048576) (hM : Each 1048576 t) (hl : t.length ≤ 16777216) (w : World) (hrd : RdF v t w) :
    Calls Tryz.prog 111 #[v, .string (str s)] w fun e w' => ∃ u, e = .returned u ∧ OwnS w.heap.size u (vals s t) w' ∧ Below w.heap.size w w' := by
  have HR : Hid (RdF v t w) := hrd
  have HM : Hid (Each 1048576 t) := hM
  have HAk : Hid (∀ (p : Fl) w, p.1.length ≤ 1048576 → Calls Tryz.prog 68 #[.string (str p.1), .string (str s)] w fun e w' => e = .returned (.bool (alike s p)) ∧ Below w.heap.size w w') := fun p w h => by
    have h := rAlike_any (str p.1) (str s) (by rw [str_size]; unfold maxLen; omega) (by rw [str_size]; unfold maxLen; omega) w
    rw [low_alike] at h
    exact h
  obtain ⟨a, c, rfl, _⟩ := hrd
  clear hM hs
  generalize hS : str s = S at *
  clear hS
  go_enter Tryz.func111, Tryz.ntmps111
  go_wp2
  go_loopw [5, 10] (fun ov i wr => ∃ k : Nat, k ≤ t.length ∧ i = .int .i64 k ∧ Hid (OwnS w.heap.size ov (vals s (t.take k)) wr) ∧ Hid (Below w.heap.size w wr)) (fun _ i _ => t.length - (intOf i).toNat)
  case atStart => exact ⟨0, Nat.zero_le _, rfl, ownS_nil _ _, Below.refl _ _⟩
  case round =>
    obtain ⟨k, hk, rfl, hown, hbl⟩ := hrel
    by_cases hlt : k < t.length
    · obtain ⟨a', c', e', hcs⟩ := HR.out.below hbl.out
      injection e' with e1 _ e2
      subst e1 e2
      rcases hcs with h | ⟨g, o, rfl, hlc, hcell⟩
      · rw [h] at hlt; simp at hlt
      obtain ⟨p0, p1⟩ := hcell k hlt
      have hEk := HM.out.at k hlt
      have hvt := vals_take s t k hlt
      have TT : alike s (nth t k) = true → Hid (vals s (t.take (k + 1)) = vals s (t.take k) ++ [(nth t k).2]) := fun h => by
        have := hvt
        rw [if_pos h] at this
        exact this
      have FF : alike s (nth t k) = false → Hid (vals s (t.take (k + 1)) = vals s (t.take k)) := fun h => by
        have := hvt
        rw [if_neg (by rw [h]; simp)] at this
        exact this
      have HC : Hid (∀ w, Calls Tryz.prog 68 #[.string (str (nth t k).1), .string S] w fun e w' => e = .returned (.bool (alike s (nth t k))) ∧ Below w.heap.size w w') := fun w => HAk.out _ w hEk.1
      have hlk : (vals s (t.take k)).length + 1 ≤ 4294967296 := by
        have := vals_len s (t.take k)
        rw [List.length_take] at this
        omega
      clear hcell hEk hvt
      generalize alike s (nth t k) = b at HC TT FF
      generalize nth t k = p at *
      obtain ⟨pn, pv⟩ := p
      dsimp only at p0 p1 HC TT
      generalize hn : str pn = N at *
      clear hn
      have hb1 : Below wr.heap.size wr (wr.alloc (.cells #[.string N, .string (str pv)] 80)) := (Below.refl _ wr).alloc (Nat.le_refl _) _
      have HB1 : Hid (Below w.heap.size w (wr.alloc (.cells #[.string N, .string (str pv)] 80))) := bel_trans hbl.out hb1
      have HO1 : Hid (OwnS w.heap.size _ (vals s (t.take k)) (wr.alloc (.cells #[.string N, .string (str pv)] 80))) := hown.out.below hb1
      clear hb1
      cases b with
      | true =>
        have tt := TT rfl
        clear TT FF
        go_wp2_with fail
        refine (HC.out _).mono ?_
        rintro e w2 ⟨rfl, hb2⟩
        have c1 : w2.cell? ⟨wr.heap.size, 1, none⟩ = some (.string (str pv)) := by rw [hb2.cell (by simp)]; simp
        have HB2 : Hid (Below w.heap.size w w2) := bel_trans HB1.out hb2
        have HO2 : Hid (OwnS w.heap.size _ (vals s (t.take k)) w2) := HO1.out.below hb2
        have hs2 : w.heap.size ≤ w2.heap.size := HB2.out.size
        clear hb2
        go_wp2_with (at_builtin; go_must (refine wp_appS rfl (.tmp 18) (.tmp 21) rfl w.heap.size _ (vals s (t.take k)) _ pv rfl HO2.out rfl hlk hs2 ?_); intro v6 w6 hown6 hb6)
        have HO6 : Hid (OwnS w.heap.size v6 (vals s (t.take (k + 1))) w6) := (by rw [tt.out]; exact hown6 : OwnS _ v6 _ w6)
        have HB6 : Hid (Below w.heap.size w w6) := HB2.out.trans hb6
        clear hown6 hb6
        go_roundw
        case rel => exact ⟨k + 1, by omega, by go_num, HO6, HB6⟩
        case measure => simp [intOf]; omega
      | false =>
        have ff := FF rfl
        clear TT FF
        go_wp2_with fail
        refine (HC.out _).mono ?_
        rintro e w2 ⟨rfl, hb2⟩
        have HB2 : Hid (Below w.heap.size w w2) := bel_trans HB1.out hb2
        have HO2 : Hid (OwnS w.heap.size _ (vals s (t.take (k + 1))) w2) := (by rw [ff.out]; exact HO1.out.below hb2 : OwnS _ _ _ w2)
        clear hb2
        go_wp2
        go_roundw
        case rel => exact ⟨k + 1, by omega, by go_num, HO2, HB2⟩
        case measure => simp [intOf]; omega
    · obtain rfl : k = t.length := by omega
      rw [List.take_length] at hown
      go_wp2
      go_ret
      exact ⟨_, rfl, hown.out, hbl.out⟩

set_option maxRecDepth 100000 in
set_option maxHeartbeats 2000000 in
theorem rList6_any (v : Value) (t : List Fl) (s : List UInt8) (hs : s.length ≤ 1048576) (hS : sumF t ≤ 1048576) (w : World) (hrd : RdF v t w) :
    Calls Tryz.prog 112 #[v, .string (str s)] w fun e w' => ∃ u, e = .returned (.tuple #[u, .int .i64 (listF s t).2]) ∧ OwnS w.heap.size u (listF s t).1 w' ∧ Below w.heap.size w w' := by
  have hlen := len_sumF t
  have HA : Hid (Calls _ _ _ _ _) := rAll_any v t s hs ((each_sumF t).mono hS) (by omega) w hrd
  have hv := sumV_filter s t
  have hvl : (vals s t).length ≤ 1048576 := by omega
  have hvs : sumV (vals s t) ≤ 1048576 := by omega
  unfold listF
  obtain ⟨a, c, rfl, _⟩ := hrd
  clear hv hs
  generalize vals s t = T at *
  generalize str s = S at *
  go_enter Tryz.func112, Tryz.ntmps112
  go_wp2_with fail
  refine HA.out.mono ?_
  rintro e w1 ⟨u, rfl, ho, hb1⟩
  have HR : Hid (RdS u T w1) := ho.rd
  have HB1 : Hid (Below w.heap.size w w1) := hb1
  obtain ⟨a1, c1, rfl⟩ := ho.form
  clear ho hb1
  go_wp2
  go_loopw [6, 15] (fun ov i wr => ∃ (k : Nat) (acc : List (List UInt8)), k ≤ T.length ∧ i = .int .i64 k ∧ Hid (listV T [] = listV (T.drop k) acc) ∧ Hid (acc.length + sumV (T.drop k) ≤ 1048576) ∧ Hid (OwnS w1.heap.size ov acc wr) ∧ Hid (Below w1.heap.size w1 wr)) (fun _ i _ => T.length - (intOf i).toNat)
  case atStart => exact ⟨0, [], Nat.zero_le _, rfl, (rfl : listV T [] = listV T []), (by simpa using hvs : _ ≤ _), ownS_nil _ _, Below.refl _ _⟩
  case round =>
    obtain ⟨k, acc, hk, rfl, hst, hal, hown, hbl⟩ := hrel
    by_cases hlt : k < T.length
    · obtain ⟨a', c', e', hcs⟩ := HR.out.below hbl.out
      injection e' with e1 _ e2
      subst e1 e2
      rcases hcs with h | ⟨g, o, rfl, hlc, hcell⟩
      · rw [h] at hlt; simp at hlt
      have p0 := hcell k hlt
      have hsd := sumV_drop T k hlt
      have hsh := listR_short (T.getD k [])
      have hal' := hal.out
      have hgl : (T.getD k []).length ≤ 1048576 := by omega
      have HL : Hid (∀ w, Calls Tryz.prog 139 #[.string (str (T.getD k []))] w fun e w' => ∃ v, e = .returned (.tuple #[v, .bool (decide ((listR (T.getD k [])).2 = 0))]) ∧ OwnS w.heap.size v (listR (T.getD k [])).1 w' ∧ Below w.heap.size w w') := fun w => by
        have h := rElements_any (str (T.getD k [])) (by rw [str_size]; omega) w
        rw [str_list] at h
        exact h
      have NX : (listR (T.getD k [])).2 = 0 → Hid (listV T [] = listV (T.drop (k + 1)) (acc ++ (listR (T.getD k [])).1)) := fun h => hst.out.trans (listV_next T k hlt acc h)
      have BD : (listR (T.getD k [])).2 ≠ 0 → Hid (listV T [] = ([], 14)) := fun h => by
        have h2 := hst.out.trans (listV_bad T k hlt acc h)
        rcases listR_err (T.getD k []) with h3 | ⟨_, h3⟩
        · exact absurd h3 h
        · rw [h3] at h2; exact h2
      have HN : Hid ((acc ++ (listR (T.getD k [])).1).length + sumV (T.drop (k + 1)) ≤ 1048576) := by
        show _ ≤ _
        rw [List.length_append]
        omega
      have hln : acc.length + (listR (T.getD k [])).1.length ≤ 4294967296 := by omega
      clear hcell hst hsd hsh hal' hgl
      generalize str (T.getD k []) = X at p0 HL
      generalize (listR (T.getD k [])).2 = z at HL NX BD
      generalize (listR (T.getD k [])).1 = L at HL NX HN hln
      by_cases hz : z = 0
      · have nx := NX hz
        rw [decide_eq_true hz] at HL
        clear NX BD hz
        go_wp2_with fail
        refine (HL.out _).mono ?_
        rintro e w2 ⟨y, rfl, hy, hb2⟩
        have HO2 : Hid (OwnS w1.heap.size _ acc w2) := hown.out.below hb2
        have HB2 : Hid (Below w1.heap.size w1 w2) := bel_trans hbl.out hb2
        have HY : Hid (RdS y L w2) := hy.rd
        have HYN : Hid (L = [] → y = .slice none 0 0 ∨ ∃ g c, y = .slice (some g) 0 c) := hy.nilish
        have hs2 : w1.heap.size ≤ w2.heap.size := HB2.out.size
        obtain ⟨ya, yc, rfl⟩ := hy.form
        clear hy hb2
        go_wp2_with (at_builtin; go_must (refine wp_appR rfl (.tmp 26) (.tmp 27) rfl w1.heap.size _ _ acc L rfl HO2.out rfl HY.out HYN.out hln hs2 ?_); intro v6 w6 hown6 hb6)
        have HO6 : Hid (OwnS w1.heap.size v6 (acc ++ L) w6) := hown6
        have HB6 : Hid (Below w1.heap.size w1 w6) := HB2.out.trans hb6
        clear hown6 hb6
        go_roundw
        case rel => exact ⟨k + 1, acc ++ L, by omega, by go_num, nx, HN, HO6, HB6⟩
        case measure => simp [intOf]; omega
      · have bd := BD hz
        rw [decide_eq_false hz] at HL
        clear NX BD hz
        go_wp2_with fail
        refine (HL.out _).mono ?_
        rintro e w2 ⟨y, rfl, hy, hb2⟩
        have HB2 : Hid (Below w1.heap.size w1 w2) := bel_trans hbl.out hb2
        obtain ⟨ya, yc, rfl⟩ := hy.form
        clear hy hb2
        go_wp2
        go_ret2
        rw [bd.out]
        exact ⟨_, rfl, ownS_nil _ _, HB1.out.trans (HB2.out.mono HB1.out.size)⟩
    · have HE : Hid (listV T [] = (acc, 0)) := by
        show _ = _
        rw [hst.out, List.drop_eq_nil_of_le (by omega)]
        rfl
      go_wp2
      go_ret2
      rw [HE.out]
      exact ⟨_, rfl, hown.out.lower HB1.out.size, HB1.out.trans (hbl.out.mono HB1.out.size)⟩

set_option maxRecDepth 100000 in
set_option maxHeartbeats 2000000 in
theorem rTokens6_any (v : Value) (t : List Fl) (s : List UInt8) (hs : s.length ≤ 1048576) (hS : sumF t ≤ 1048576) (w : World) (hrd : RdF v t w) :
    Calls Tryz.prog 83 #[v, .string (str s)] w fun e w' => ∃ u, e = .returned (.tuple #[u, .int .i64 (tokensF s t).2]) ∧ OwnS w.heap.size u (tokensF s t).1 w' ∧ Below w.heap.size w w' := by
  have hlen := len_sumF t
  have HL : Hid (Calls _ _ _ _ _) := rList6_any v t s hs hS w hrd
  have hv := sumV_filter s t
  have hll := listV_len (vals s t) []
  have HSh : Hid (∀ x ∈ (listF s t).1, x.length ≤ 1048576) := listV_short 1048576 (vals s t) [] (fun x hx => by cases hx) (vals_short ((each_sumF t).mono hS) s)
  have hLn : (listF s t).1.length ≤ 1048576 := by unfold listF; simp at hll; omega
  unfold tokensF
  obtain ⟨a, c, rfl, _⟩ := hrd
  clear hv hs hll
  generalize (listF s t).1 = L at *
  generalize (listF s t).2 = z at *
  generalize str s = S at *
  by_cases hz : z = 0
  · subst hz
    rw [if_pos rfl]
    go_enter Tryz.func83, Tryz.ntmps83
    go_wp2_with fail
    refine HL.out.mono ?_
    rintro e w1 ⟨u, rfl, ho, hb1⟩
    have HB1 : Hid (Below w.heap.size w w1) := hb1
    have HR : Hid (RdS u L w1) := ho.rd
    obtain ⟨ua, uc, rfl⟩ := ho.form
    clear ho hb1
    go_wp2
    go_loopw [8, 22] (fun ov i wr => ∃ k : Nat, k ≤ L.length ∧ i = .int .i64 k ∧ Hid (∀ j, j < k → isTok (L.getD j []) = true) ∧ Hid (OwnS w1.heap.size ov ((L.take k).map lower) wr) ∧ Hid (Below w1.heap.size w1 wr)) (fun _ i _ => L.length - (intOf i).toNat)
    case atStart => exact ⟨0, Nat.zero_le _, rfl, (fun j hj => by omega : ∀ j, j < 0 → _), ownS_nil _ _, Below.refl _ _⟩
    case round =>
      obtain ⟨k, hk, rfl, hall, hown, hbl⟩ := hrel
      by_cases hlt : k < L.length
      · obtain ⟨a', c', e', hcs⟩ := HR.out.below hbl.out
        injection e' with e1 _ e2
        subst e1 e2
        rcases hcs with h | ⟨g, o, rfl, hlc, hcell⟩
        · rw [h] at hlt; simp at hlt
        have p0 := hcell k hlt
        have hxl : (L.getD k []).length ≤ 1048576 := getD_short HSh.out k hlt
        have HI : Hid (∀ w, Calls Tryz.prog 114 #[.string (str (L.getD k []))] w fun e w' => e = .returned (.bool (isTok (L.getD k []))) ∧ w' = w) := fun w => by
          have h := rToken_any (str (L.getD k [])) (by rw [str_size]; unfold maxLen; omega) w
          rw [str_list] at h
          exact h
        have HLo : Hid (∀ w, Calls Tryz.prog 100 #[.string (str (L.getD k []))] w fun e w' => e = .returned (.string (str (lower (L.getD k [])))) ∧ Below w.heap.size w w') := fun w => by
          have h := rLower_any (str (L.getD k [])) (by rw [str_size]; unfold maxLen; omega) w
          rw [lowS_str] at h
          exact h
        have TT : isTok (L.getD k []) = true → Hid (∀ j, j < k + 1 → isTok (L.getD j []) = true) := fun h j hj => by
          by_cases hjk : j = k
          · subst hjk; exact h
          · exact hall.out j (by omega)
        have FF : isTok (L.getD k []) = false → Hid (tokV L = ([], 10)) := fun h => by
          show _ = _
          unfold tokV
          rw [if_neg]
          rw [all_not isTok [] L k hlt h]
          simp
        have HTk : Hid ((L.take (k + 1)).map lower = (L.take k).map lower ++ [lower (L.getD k [])]) := by
          show _ = _
          rw [take_succ L k hlt, List.map_append]
          rfl
        have hlk : ((L.take k).map lower).length + 1 ≤ 4294967296 := by rw [List.length_map, List.length_take]; omega
        clear hcell hxl
        generalize isTok (L.getD k []) = b at HI TT FF
        generalize hY : lower (L.getD k []) = Y at *
        clear hY
        generalize str (L.getD k []) = X at p0 HI HLo
        cases b with
        | true =>
          have tt := TT rfl
          clear TT FF
          go_wp2_with fail
          refine (HI.out _).mono ?_
          rintro e w2 ⟨rfl, rfl⟩
          go_wp2_with fail
          refine (HLo.out _).mono ?_
          rintro e w3 ⟨rfl, hb3⟩
          have HO3 : Hid (OwnS w1.heap.size _ ((L.take k).map lower) w3) := hown.out.below hb3
          have HB3 : Hid (Below w1.heap.size w1 w3) := bel_trans hbl.out hb3
          have hs3 : w1.heap.size ≤ w3.heap.size := HB3.out.size
          clear hb3
          go_wp2_with (at_builtin; go_must (refine wp_appS rfl (.tmp 29) (.tmp 32) rfl w1.heap.size _ ((L.take k).map lower) _ Y rfl HO3.out rfl hlk hs3 ?_); intro v6 w6 hown6 hb6)
          have HO6 : Hid (OwnS w1.heap.size v6 ((L.take (k + 1)).map lower) w6) := (by rw [HTk.out]; exact hown6 : OwnS _ v6 _ w6)
          have HB6 : Hid (Below w1.heap.size w1 w6) := HB3.out.trans hb6
          clear hown6 hb6
          go_roundw
          case rel => exact ⟨k + 1, by omega, by go_num, tt, HO6, HB6⟩
          case measure => simp [intOf]; omega
        | false =>
          have ff := FF rfl
          clear TT FF
          go_wp2_with fail
          refine (HI.out _).mono ?_
          rintro e w2 ⟨rfl, rfl⟩
          go_wp2
          go_ret2
          rw [ff.out]
          exact ⟨_, rfl, ownS_nil _ _, HB1.out.trans (hbl.out.mono HB1.out.size)⟩
      · obtain rfl : k = L.length := by omega
        have HE : Hid (tokV L = (L.map lower, 0)) := by
          show _ = _
          unfold tokV
          rw [if_pos (all_of isTok [] L hall.out)]
        rw [List.take_length] at hown
        go_wp2
        go_ret2
        rw [HE.out]
        exact ⟨_, rfl, hown.out.lower HB1.out.size, HB1.out.trans (hbl.out.mono HB1.out.size)⟩
  · rw [if_neg hz]
    have hzq : (z != 0) = true := by simp [hz]
    go_enter Tryz.func83, Tryz.ntmps83
    go_wp2_with fail
    refine HL.out.mono ?_
    rintro e w1 ⟨u, rfl, ho, hb1⟩
    obtain ⟨ua, uc, rfl⟩ := ho.form
    clear ho
    go_wp2
    go_ret2
    exact ⟨_, rfl, ownS_nil _ _, hb1⟩

/-- Is one of them that text? -/
def inL (L : List (List UInt8)) (x : List UInt8) : Bool := L.contains x

set_option maxRecDepth 100000 in
set_option maxHeartbeats 1000000 in
theorem rIn_any (v : Value) (L : List (List UInt8)) (x : List UInt8) (hl : L.length ≤ 1048576) (w : World) (h : RdS v L w) :
    Calls Tryz.prog 84 #[v, .string (str x)] w fun e w' => e = .returned (.bool (inL L x)) ∧ w' = w := by
  have HR : Hid (RdS v L w) := h
  obtain ⟨a, c, rfl, _⟩ := h
  generalize hX : str x = X
  have HX : Hid (X = str x) := hX.symm
  clear hX
  go_enter Tryz.func84, Tryz.ntmps84
  go_wp2
  go_loop [9] (fun i => ∃ k : Nat, k ≤ L.length ∧ i = .int .i64 k ∧ Hid (∀ j, j < k → L.getD j [] ≠ x)) (fun i => L.length - (intOf i).toNat)
  case atStart => exact ⟨0, Nat.zero_le _, rfl, (fun j hj => by omega : ∀ j, j < 0 → _)⟩
  case round =>
    obtain ⟨k, hk, rfl, hall⟩ := hrel
    by_cases hlt : k < L.length
    · obtain ⟨a', c', e', hcs⟩ := HR.out
      injection e' with e1 _ e2
      subst e1 e2
      rcases hcs with h | ⟨g, o, rfl, hlc, hcell⟩
      · rw [h] at hlt; simp at hlt
      have p0 := hcell k hlt
      clear hcell
      by_cases he : L.getD k [] = x
      · have HE : Hid (inL L x = true) := by
          show _ = _
          unfold inL
          rw [List.contains_iff_mem, ← he, List.getD_eq_getElem?_getD, List.getElem?_eq_getElem hlt]
          exact List.getElem_mem hlt
        rw [he, ← HX.out] at p0
        have hq : (X.toList == X.toList) = true := by simp
        go_wp2
        go_ret
        exact ⟨ret_bool HE.out.symm, rfl⟩
      · have HN : Hid (∀ j, j < k + 1 → L.getD j [] ≠ x) := fun j hj => by
          by_cases hjk : j = k
          · subst hjk; exact he
          · exact hall.out j (by omega)
        have hq : ((str (L.getD k [])).toList == X.toList) = false := by
          rw [eq_toList, decide_eq_false_iff_not, HX.out]
          exact fun e => he (str_inj e)
        generalize str (L.getD k []) = Y at *
        go_wp2
        go_round
        case rel => exact ⟨k + 1, by omega, by go_num, HN⟩
        case measure => simp [intOf]; omega
    · have HE : Hid (inL L x = false) := by
        show _ = _
        unfold inL
        cases hc : L.contains x with
        | false => rfl
        | true =>
          rw [List.contains_iff_mem] at hc
          obtain ⟨j, hj, e⟩ := List.mem_iff_getElem.1 hc
          exact absurd (by rw [List.getD_eq_getElem?_getD, List.getElem?_eq_getElem hj, ← e]; rfl) (hall.out j (by omega))
      go_wp2
      go_ret
      exact ⟨ret_bool HE.out.symm, rfl⟩

end Fd
end Go.Proofs.YtcelekfokbdmfaaGreatDoor

/-
  Has, and the document's.
-/
set_option linter.unusedVariables false
set_option linter.unusedSimpArgs false
namespace Go.Proofs.YtcelekfokbdmfaaGreatDoor
open Go.RowKit Go.Shelf
namespace Fd
open Oc Tg

theorem contains_eq (L : List (List UInt8)) (x : List UInt8) : Lib.containsS (L.map str) (str x) = inL L x := by
  rw [Bool.eq_iff_iff, Lib.containsS_iff]
  unfold inL
  rw [List.contains_iff_mem]
  constructor
  · intro h
    obtain ⟨y, hy, e⟩ := List.mem_map.1 h
    rw [← str_inj e]
    exact hy
  · intro h
    exact List.mem_map.2 ⟨x, h, rfl⟩

set_option maxRecDepth 100000 in
set_option maxHeartbeats 1000000 in
theorem contains_nil (a : Option Addr) (c : Nat) (x : ByteArray) (w : World) :
    Calls Tryz.prog 173 #[.slice a 0 c, .string x] w fun e w' => e = .returned (.bool false) ∧ w' = w := by
  have HI : Hid (∀ w, Calls Tryz.prog 195 #[.slice a 0 c, .string x] w fun e w' => e = .returned (.int .i64 (-1)) ∧ w' = w) := fun w => by
    go_enter Tryz.func195, Tryz.ntmps195
    go_wp2
    refine wp_loop_rounds 1 ?_
    rw [rounds_succ]
    go_wp2
    go_ret
    exact ⟨rfl, rfl⟩
  go_enter Tryz.func173, Tryz.ntmps173
  go_wp2_with fail
  refine (HI.out _).mono ?_
  rintro e w2 ⟨rfl, rfl⟩
  go_wp2
  go_ret
  exact ⟨rfl, rfl⟩

theorem Contains_any (v : Value) (L : List (List UInt8)) (x : List UInt8) (hl : L.length ≤ 1048576) (w : World) (h : RdS v L w) :
    Calls Tryz.prog 173 #[v, .string (str x)] w fun e w' => e = .returned (.bool (inL L x)) ∧ w' = w := by
  obtain ⟨a, c, rfl, h⟩ := h
  by_cases h0 : L = []
  · subst h0
    exact contains_nil a c _ w
  · rcases h with h | ⟨g, o, rfl, hc, hcell⟩
    · exact absurd h h0
    · have h := Tryz.slices_Contains_string g o L.length c (L.map str) (str x) w (by simp) (by omega) (fun j hj => by
        rw [List.length_map] at hj
        rw [hcell j hj, List.getD_eq_getElem?_getD, List.getD_eq_getElem?_getD, List.getElem?_map, List.getElem?_eq_getElem hj]
        rfl)
      rw [List.take_of_length_le (by simp), contains_eq] at h
      exact h

def hasF (s : List UInt8) (t : List Fl) (k : List UInt8) : Bool := decide ((tokensF s t).2 = 0) && inL (tokensF s t).1 (lower k)
theorem tokens_len {t : List Fl} (hS : sumF t ≤ 1048576) (s : List UInt8) : (tokensF s t).1.length ≤ 1048576 := by
  have hv := sumV_filter s t
  have hll := listV_len (vals s t) []
  unfold tokensF tokV
  split
  · split
    · rw [List.length_map]
      unfold listF
      simp at hll
      omega
    · simp
  · simp

end Fd
end Go.Proofs.YtcelekfokbdmfaaGreatDoor

/-
  Persist; the document's.
-/
set_option linter.unusedVariables false
set_option linter.unusedSimpArgs false
namespace Go.Proofs.YtcelekfokbdmfaaGreatDoor
open Go.RowKit Go.Shelf
namespace Fd
open Oc Tg

def nCo : List UInt8 := [67, 111, 110, 110, 101, 99, 116, 105, 111, 110]
def wCl : List UInt8 := [99, 108, 111, 115, 101]
def wKA : List UInt8 := [107, 101, 101, 112, 45, 97, 108, 105, 118, 101]
def persistF (t : List Fl) (old : Bool) : Bool := if (tokensF nCo t).2 = 0 then (if inL (tokensF nCo t).1 wCl then false else if old then inL (tokensF nCo t).1 wKA else true) else false

set_option maxRecDepth 100000 in
set_option maxHeartbeats 1000000 in
theorem Persist_any (v : Value) (t : List Fl) (old : Bool) (hS : sumF t ≤ 1048576) (w : World) (hrd : RdF v t w) (tab : Tab w) :
    Calls Tryz.prog 152 #[v, .bool old] w fun e w' => e = .returned (.bool (persistF t old)) ∧ Below w.heap.size w w' := by
  have HT : Hid (Calls Tryz.prog 172 #[v, .string ⟨#[67, 111, 110, 110, 101, 99, 116, 105, 111, 110]⟩] w fun e w' => ∃ x, e = .returned (.tuple #[x, .int .i64 (tokensF nCo t).2]) ∧ OwnS w.heap.size x (tokensF nCo t).1 w' ∧ Below w.heap.size w w') := Tokens6_any v t nCo (by decide) hS w hrd tab
  have hl := tokens_len hS nCo
  have H1 : Hid (∀ u w, RdS u (tokensF nCo t).1 w → Calls Tryz.prog 173 #[u, .string ⟨#[99, 108, 111, 115, 101]⟩] w fun e w' => e = .returned (.bool (inL (tokensF nCo t).1 wCl)) ∧ w' = w) := fun u w h => Contains_any u _ wCl hl w h
  have H2 : Hid (∀ u w, RdS u (tokensF nCo t).1 w → Calls Tryz.prog 173 #[u, .string ⟨#[107, 101, 101, 112, 45, 97, 108, 105, 118, 101]⟩] w fun e w' => e = .returned (.bool (inL (tokensF nCo t).1 wKA)) ∧ w' = w) := fun u w h => Contains_any u _ wKA hl w h
  unfold persistF
  obtain ⟨a, c, rfl, _⟩ := hrd
  clear hl
  generalize (tokensF nCo t).1 = L at *
  generalize (tokensF nCo t).2 = z at *
  generalize inL L wCl = b1 at *
  generalize inL L wKA = b2 at *
  by_cases hz : z = 0
  · subst hz
    rw [if_pos rfl]
    cases b1 with
    | true =>
      rw [if_pos rfl]
      go_enter Tryz.func152, Tryz.ntmps152
      go_wp2_with fail
      refine HT.out.mono ?_
      rintro e w1 ⟨u, rfl, ho, hb⟩
      have HB1 : Hid (Below w.heap.size w w1) := hb
      have HU : Hid (RdS u L w1) := ho.rd
      clear hb ho
      go_wp2_with fail
      refine (H1.out _ _ HU.out).mono ?_
      rintro e w2 ⟨rfl, rfl⟩
      go_wp2
      go_ret
      exact ⟨rfl, HB1.out⟩
    | false =>
      rw [if_neg (by simp)]
      cases old with
      | true =>
        rw [if_pos rfl]
        go_enter Tryz.func152, Tryz.ntmps152
        go_wp2_with fail
        refine HT.out.mono ?_
        rintro e w1 ⟨u, rfl, ho, hb⟩
        have HB1 : Hid (Below w.heap.size w w1) := hb
        have HU : Hid (RdS u L w1) := ho.rd
        clear hb ho
        go_wp2_with fail
        refine (H1.out _ _ HU.out).mono ?_
        rintro e w2 ⟨rfl, rfl⟩
        go_wp2_with fail
        refine (H2.out _ _ HU.out).mono ?_
        rintro e w3 ⟨rfl, rfl⟩
        go_wp2
        go_ret
        exact ⟨rfl, HB1.out⟩
      | false =>
        rw [if_neg (by simp)]
        go_enter Tryz.func152, Tryz.ntmps152
        go_wp2_with fail
        refine HT.out.mono ?_
        rintro e w1 ⟨u, rfl, ho, hb⟩
        have HB1 : Hid (Below w.heap.size w w1) := hb
        have HU : Hid (RdS u L w1) := ho.rd
        clear hb ho
        go_wp2_with fail
        refine (H1.out _ _ HU.out).mono ?_
        rintro e w2 ⟨rfl, rfl⟩
        go_wp2
        go_ret
        exact ⟨rfl, HB1.out⟩
  · rw [if_neg hz]
    have hzq : (z != 0) = true := by simp [hz]
    go_enter Tryz.func152, Tryz.ntmps152
    go_wp2_with fail
    refine HT.out.mono ?_
    rintro e w1 ⟨u, rfl, ho, hb⟩
    have HB1 : Hid (Below w.heap.size w w1) := hb
    have HU : Hid (RdS u L w1) := ho.rd
    clear hb ho
    go_wp2
    go_ret
    exact ⟨rfl, HB1.out⟩

set_option maxRecDepth 100000 in
set_option maxHeartbeats 1000000 in
theorem rPersist_any (v : Value) (t : List Fl) (old : Bool) (hS : sumF t ≤ 1048576) (w : World) (hrd : RdF v t w) :
    Calls Tryz.prog 50 #[v, .bool old] w fun e w' => e = .returned (.bool (persistF t old)) ∧ Below w.heap.size w w' := by
  have HT : Hid (Calls Tryz.prog 83 #[v, .string ⟨#[67, 111, 110, 110, 101, 99, 116, 105, 111, 110]⟩] w fun e w' => ∃ x, e = .returned (.tuple #[x, .int .i64 (tokensF nCo t).2]) ∧ OwnS w.heap.size x (tokensF nCo t).1 w' ∧ Below w.heap.size w w') := rTokens6_any v t nCo (by decide) hS w hrd
  have hl := tokens_len hS nCo
  have H1 : Hid (∀ u w, RdS u (tokensF nCo t).1 w → Calls Tryz.prog 84 #[u, .string ⟨#[99, 108, 111, 115, 101]⟩] w fun e w' => e = .returned (.bool (inL (tokensF nCo t).1 wCl)) ∧ w' = w) := fun u w h => rIn_any u _ wCl hl w h
  have H2 : Hid (∀ u w, RdS u (tokensF nCo t).1 w → Calls Tryz.prog 84 #[u, .string ⟨#[107, 101, 101, 112, 45, 97, 108, 105, 118, 101]⟩] w fun e w' => e = .returned (.bool (inL (tokensF nCo t).1 wKA)) ∧ w' = w) := fun u w h => rIn_any u _ wKA hl w h
  unfold persistF
  obtain ⟨a, c, rfl, _⟩ := hrd
  clear hl
  generalize (tokensF nCo t).1 = L at *
  generalize (tokensF nCo t).2 = z at *
  generalize inL L wCl = b1 at *
  generalize inL L wKA = b2 at *
  by_cases hz : z = 0
  · subst hz
    rw [if_pos rfl]
    cases b1 with
    | true =>
      rw [if_pos rfl]
      go_enter Tryz.func50, Tryz.ntmps50
      go_wp2_with fail
      refine HT.out.mono ?_
      rintro e w1 ⟨u, rfl, ho, hb⟩
      have HB1 : Hid (Below w.heap.size w w1) := hb
      have HU : Hid (RdS u L w1) := ho.rd
      clear hb ho
      go_wp2_with fail
      refine (H1.out _ _ HU.out).mono ?_
      rintro e w2 ⟨rfl, rfl⟩
      go_wp2
      go_ret
      exact ⟨rfl, HB1.out⟩
    | false =>
      rw [if_neg (by simp)]
      cases old with
      | true =>
        rw [if_pos rfl]
        go_enter Tryz.func50, Tryz.ntmps50
        go_wp2_with fail
        refine HT.out.mono ?_
        rintro e w1 ⟨u, rfl, ho, hb⟩
        have HB1 : Hid (Below w.heap.size w w1) := hb
        have HU : Hid (RdS u L w1) := ho.rd
        clear hb ho
        go_wp2_with fail
        refine (H1.out _ _ HU.out).mono ?_
        rintro e w2 ⟨rfl, rfl⟩
        go_wp2_with fail
        refine (H2.out _ _ HU.out).mono ?_
        rintro e w3 ⟨rfl, rfl⟩
        go_wp2
        go_ret
        exact ⟨rfl, HB1.out⟩
      | false =>
        rw [if_neg (by simp)]
        go_enter Tryz.func50, Tryz.ntmps50
        go_wp2_with fail
        refine HT.out.mono ?_
        rintro e w1 ⟨u, rfl, ho, hb⟩
        have HB1 : Hid (Below w.heap.size w w1) := hb
        have HU : Hid (RdS u L w1) := ho.rd
        clear hb ho
        go_wp2_with fail
        refine (H1.out _ _ HU.out).mono ?_
        rintro e w2 ⟨rfl, rfl⟩
        go_wp2
        go_ret
        exact ⟨rfl, HB1.out⟩
  · rw [if_neg hz]
    have hzq : (z != 0) = true := by simp [hz]
    go_enter Tryz.func50, Tryz.ntmps50
    go_wp2_with fail
    refine HT.out.mono ?_
    rintro e w1 ⟨u, rfl, ho, hb⟩
    have HB1 : Hid (Below w.heap.size w w1) := hb
    have HU : Hid (RdS u L w1) := ho.rd
    clear hb ho
    go_wp2
    go_ret
    exact ⟨rfl, HB1.out⟩

end Fd
end Go.Proofs.YtcelekfokbdmfaaGreatDoor

/-
  Lengths: the document's decimal; Length, and the document's.
-/
set_option linter.unusedVariables false
set_option linter.unusedSimpArgs false
namespace Go.Proofs.YtcelekfokbdmfaaGreatDoor
open Go.RowKit Go.Shelf
namespace Fd
open Oc Tg

def dec (x : List UInt8) : Int × Int := numR 10 x 1099511627776
def decZ (x : List UInt8) : Int := if (dec x).2 = 0 then (dec x).1 else -1
theorem val_low {c : Int} (h : c < 48) : 10 ≤ valI c := by unfold valI; (repeat' split) <;> omega
theorem val_high {c : Int} (h : 57 < c) : 10 ≤ valI c := by unfold valI; (repeat' split) <;> omega
theorem decZ_bad {s : ByteArray} (k : Nat) (h : k < s.size) (hv : 10 ≤ valI (byt s k)) : decZ s.data.toList = -1 := by
  unfold decZ dec
  rw [numR_bad 10 _ s k h hv]
  rfl

set_option maxRecDepth 100000 in
set_option maxHeartbeats 1000000 in
theorem rdecimal_any (s : ByteArray) (hs : s.size ≤ 134217728) (w : World) :
    Calls Tryz.prog 113 #[.string s] w fun e w' => e = .returned (.int .i64 (decZ s.data.toList)) ∧ w' = w := by
  go_enter Tryz.func113, Tryz.ntmps113
  go_wp2
  go_loop [3, 4] (fun nv i => ∃ (k : Nat) (n : Int), k ≤ s.size ∧ i = .int .i64 k ∧ nv = .int .i64 n ∧ 0 ≤ n ∧ n ≤ 10995116277769 ∧ Hid (∀ j, j < k → valI (byt s j) < 10) ∧ Hid (n = pre 10 s k ∨ (1099511627776 < n ∧ 1099511627776 < pre 10 s k))) (fun _ i => s.size - (intOf i).toNat)
  case atStart => exact ⟨0, 0, Nat.zero_le _, rfl, rfl, by omega, by omega, (fun j hj => by omega : ∀ j, j < 0 → _), (.inl (pre_zero 10 s).symm : _ ∨ _)⟩
  case round =>
    obtain ⟨k, n, hk, rfl, rfl, n0, n1, hall, hst⟩ := hrel
    by_cases hlt : k < s.size
    · have hby : ((s[k].toNat : Nat) : Int) = byt s k := byt_at s k hlt
      obtain ⟨b0, b1⟩ := byt_bd s k
      have HBad : 10 ≤ valI (byt s k) → Hid (decZ s.data.toList = -1) := fun h => decZ_bad k hlt h
      have HPre : Hid (pre 10 s (k + 1) = pre 10 s k * 10 + valI (byt s k)) := pre_succ 10 s k hlt
      have HMono : Hid (pre 10 s k ≤ pre 10 s (k + 1)) := pre_le 10 (by omega) s k (k + 1) (by omega) hlt
      by_cases hlo : byt s k < 48
      · have HB := HBad (val_low hlo)
        have q1 : decide ((s[k].toNat : Int) < 48) = true := decide_eq_true (by omega)
        go_wp2
        go_ret
        exact ⟨ret_int HB.out.symm, rfl⟩
      · have q1 : decide ((s[k].toNat : Int) < 48) = false := decide_eq_false (by omega)
        by_cases hhi : 57 < byt s k
        · have HB := HBad (val_high hhi)
          have q2 : decide (57 < (s[k].toNat : Int)) = true := decide_eq_true (by omega)
          go_wp2
          go_ret
          exact ⟨ret_int HB.out.symm, rfl⟩
        · have q2 : decide (57 < (s[k].toNat : Int)) = false := decide_eq_false (by omega)
          have hv : valI (byt s k) = byt s k - 48 := valI_d (by omega)
          have HV : Hid (valI (byt s k) = byt s k - 48) := hv
          have HN : Hid (∀ j, j < k + 1 → valI (byt s j) < 10) := fun j hj => by
            by_cases hjk : j = k
            · subst hjk; have := HV.out; omega
            · exact hall.out j (by omega)
          clear hv HBad
          by_cases hM : n ≤ 1099511627776
          · have HS : Hid (10 * n + (byt s k - 48) = pre 10 s (k + 1) ∨ (1099511627776 < 10 * n + (byt s k - 48) ∧ 1099511627776 < pre 10 s (k + 1))) := by
              left
              rcases hst.out with h | ⟨h, _⟩
              · rw [HPre.out, HV.out, ← h]; omega
              · omega
            go_wp2
            go_round
            case rel => exact ⟨k + 1, 10 * n + (byt s k - 48), by omega, by go_num, by first | rfl | (congr 1; omega) | go_num, by omega, by omega, HN, HS⟩
            case measure => simp [intOf]; omega
          · have HS : Hid (n = pre 10 s (k + 1) ∨ (1099511627776 < n ∧ 1099511627776 < pre 10 s (k + 1))) := by
              right
              refine ⟨by omega, ?_⟩
              rcases hst.out with h | ⟨_, h⟩
              · have := HMono.out; omega
              · have := HMono.out; omega
            go_wp2
            go_round
            case rel => exact ⟨k + 1, n, by omega, by go_num, rfl, n0, n1, HN, HS⟩
            case measure => simp [intOf]; omega
    · obtain rfl : k = s.size := by omega
      by_cases hz : s.size = 0
      · have he := empty_of hz
        have HE : Hid (decZ s.data.toList = -1) := by
          show _ = _
          unfold decZ dec
          rw [numR_empty _ _ s hz]
          rfl
        go_wp2
        go_ret
        exact ⟨ret_int HE.out.symm, rfl⟩
      · have he := nonempty_of hz
        by_cases hM : 1099511627776 < n
        · have HE : Hid (decZ s.data.toList = -1) := by
            show _ = _
            unfold decZ dec
            rw [numR_big 10 _ s (by omega) hall.out (by rcases hst.out with h | ⟨_, h⟩ <;> omega)]
            rfl
          go_wp2
          go_ret
          exact ⟨ret_int HE.out.symm, rfl⟩
        · have HE : Hid (decZ s.data.toList = n) := by
            show _ = _
            have h := hst.out.resolve_right (fun h => hM h.1)
            unfold decZ dec
            rw [numR_fits 10 _ s (by omega) hall.out (by omega)]
            exact h.symm
          go_wp2
          go_ret
          exact ⟨ret_int HE.out.symm, rfl⟩

end Fd
end Go.Proofs.YtcelekfokbdmfaaGreatDoor
