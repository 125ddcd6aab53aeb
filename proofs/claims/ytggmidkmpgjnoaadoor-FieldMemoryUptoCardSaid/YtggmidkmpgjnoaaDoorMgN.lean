/- Several texts as one. -/
import Derived.Test.YtggmidkmpgjnoaaDoorMgD
import Derived.Test.YtggmidkmpgjnoaaDoorMgM
import Derived.Test.YtggmidkmpgjnoaaDoorMgG
import Derived.Test.YtggmidkmpgjnoaaDoorMgH
import Derived.Laws.EntriesVeiled
/-
  Texts with commas between.
-/
set_option linter.unusedVariables false
namespace Go.Proofs.YtggmidkmpgjnoaaDoor
namespace Oc

def joinF : List (List UInt8) → List UInt8
  | [] => []
  | [x] => x
  | x :: y :: r => x ++ 44 :: 32 :: joinF (y :: r)
def sumL (t : List (List UInt8)) : Nat := (t.map List.length).sum
def jp (t : List (List UInt8)) (k : Nat) : List UInt8 := joinF (t.take k)
theorem joinF_snoc : ∀ (t : List (List UInt8)) (y : List UInt8), t ≠ [] → joinF (t ++ [y]) = joinF t ++ [44, 32] ++ y
  | [], y, h => absurd rfl h
  | [x], y, _ => by show x ++ 44 :: 32 :: y = x ++ [44, 32] ++ y; simp
  | x :: z :: r, y, _ => by
    have ih := joinF_snoc (z :: r) y (by simp)
    show x ++ 44 :: 32 :: joinF (z :: (r ++ [y])) = (x ++ 44 :: 32 :: joinF (z :: r)) ++ [44, 32] ++ y
    rw [show z :: (r ++ [y]) = (z :: r) ++ [y] from rfl, ih]
    simp
theorem joinF_len : ∀ t : List (List UInt8), (joinF t).length ≤ sumL t + 2 * t.length
  | [] => by simp [joinF]
  | [x] => by simp [joinF, sumL]
  | x :: y :: r => by
    have ih := joinF_len (y :: r)
    show (x ++ 44 :: 32 :: joinF (y :: r)).length ≤ x.length + sumL (y :: r) + 2 * ((y :: r).length + 1)
    rw [List.length_append, List.length_cons, List.length_cons]
    omega
theorem take_succ (t : List (List UInt8)) (k : Nat) (h : k < t.length) : t.take (k + 1) = t.take k ++ [t.getD k []] := by
  rw [List.take_add_one, List.getElem?_eq_getElem h, List.getD_eq_getElem?_getD, List.getElem?_eq_getElem h]; rfl
theorem sumL_append (a b : List (List UInt8)) : sumL (a ++ b) = sumL a + sumL b := by simp [sumL]
theorem sumL_succ (t : List (List UInt8)) (k : Nat) (h : k < t.length) : sumL (t.take (k + 1)) = sumL (t.take k) + (t.getD k []).length := by
  rw [take_succ t k h, sumL_append]; simp [sumL]
theorem sumL_take (t : List (List UInt8)) (k : Nat) : sumL (t.take k) ≤ sumL t := by
  have := sumL_append (t.take k) (t.drop k)
  rw [List.take_append_drop] at this
  omega
theorem jp_len (t : List (List UInt8)) (k : Nat) : (jp t k).length ≤ sumL t + 2 * t.length := by
  have h1 := joinF_len (t.take k)
  have h2 := sumL_take t k
  rw [List.length_take] at h1
  show (joinF (t.take k)).length ≤ _
  omega
theorem jp_one (t : List (List UInt8)) (h : 0 < t.length) : jp t 1 = t.getD 0 [] := by
  cases t with
  | nil => simp at h
  | cons x t => rfl
theorem jp_succ (t : List (List UInt8)) (k : Nat) (h : k < t.length) (h0 : 0 < k) : jp t (k + 1) = jp t k ++ [44, 32] ++ t.getD k [] := by
  unfold jp
  rw [take_succ t k h]
  exact joinF_snoc _ _ (fun e => by
    have := congrArg List.length e
    rw [List.length_take, List.length_nil] at this
    omega)
theorem jp_all (t : List (List UInt8)) : jp t t.length = joinF t := by unfold jp; rw [List.take_length]

end Oc
end Go.Proofs.YtggmidkmpgjnoaaDoor

/-
  field: kept, All; the document's All; the law's own texts.
-/
set_option linter.unusedVariables false
set_option linter.unusedSimpArgs false
namespace Go.Proofs.YtggmidkmpgjnoaaDoor
open Go.RowKit Go.Shelf
namespace Fd
open Oc Tg

theorem filter_take (f : Fl → Bool) (t : List Fl) (k : Nat) (h : k < t.length) : (t.take (k + 1)).filter f = if f (nth t k) then (t.take k).filter f ++ [nth t k] else (t.take k).filter f := by
  rw [take_nth t k h, List.filter_append]
  by_cases hb : f (nth t k) = true
  · rw [if_pos hb]; simp [hb]
  · rw [if_neg hb]; simp [hb]

set_option maxRecDepth 100000 in
set_option maxHeartbeats 2000000 in
theorem kept_named (v : Value) (t : List Fl) (s : List UInt8) (B : Nat) (hM : Each 1048576 t) (hl : t.length ≤ 16777216) (w : World) (hrd : RdF v t w)
    (HK : Hid (∀ (p : Fl) (W : World), p.1.length ≤ 1048576 → p.2.length ≤ 1048576 → Below w.heap.size w W → Calls Tryd.prog 48 #[.agg #[.string (str p.1), .string (str p.2)], .pointer (some ⟨B, 0, none⟩)] W fun e w' => e = .returned (.bool (alike s p)) ∧ Below (World.heap W).size W w')) :
    Calls Tryd.prog 24 #[v, .func (.func 48) #[] #[.pointer (some ⟨B, 0, none⟩)]] w fun e w' => ∃ u, e = .returned u ∧ OwnF 46 w.heap.size u (t.filter (alike s)) w' ∧ Below w.heap.size w w' := by
  have HR : Hid (RdF v t w) := hrd
  have HM : Hid (Each 1048576 t) := hM
  obtain ⟨a, c, rfl, _⟩ := hrd
  clear hM
  go_enter Tryd.func24, Tryd.ntmps24
  go_wp2
  go_loopw [5, 10] (fun ov i wr => ∃ k : Nat, k ≤ t.length ∧ i = .int .i64 k ∧ Hid (OwnF 46 w.heap.size ov ((t.take k).filter (alike s)) wr) ∧ Hid (Below w.heap.size w wr)) (fun _ i _ => t.length - (intOf i).toNat)
  case atStart => exact ⟨0, Nat.zero_le _, rfl, ownF_nil _ _ _, Below.refl _ _⟩
  case round =>
    obtain ⟨k, hk, rfl, hown, hbl⟩ := hrel
    have hsz := hbl.out.size
    by_cases hlt : k < t.length
    · obtain ⟨a', c', e', hcs⟩ := HR.out.below hbl.out
      injection e' with e1 _ e2
      subst e1 e2
      rcases hcs with h | ⟨g, o, rfl, hlc, hcell⟩
      · rw [h] at hlt; simp at hlt
      obtain ⟨p0, p1⟩ := hcell k hlt
      have hEk := HM.out.at k hlt
      have TT : (alike s) (nth t k) = true → Hid ((t.take (k + 1)).filter (alike s) = (t.take k).filter (alike s) ++ [nth t k]) := fun h => by
        have := filter_take (alike s) t k hlt
        rw [if_pos h] at this
        exact this
      have FF : (alike s) (nth t k) = false → Hid ((t.take (k + 1)).filter (alike s) = (t.take k).filter (alike s)) := fun h => by
        have := filter_take (alike s) t k hlt
        rw [if_neg (by rw [h]; simp)] at this
        exact this
      have hlk : ((t.take k).filter (alike s)).length + 1 ≤ 2147483648 := by
        have := List.length_filter_le (alike s) (t.take k)
        rw [List.length_take] at this
        omega
      have hb1 : Below wr.heap.size wr (wr.alloc (.cells #[.string (str (nth t k).1), .string (str (nth t k).2)] 46)) := (Below.refl _ wr).alloc (Nat.le_refl _) _
      have HB1 : Hid (Below w.heap.size w (wr.alloc (.cells #[.string (str (nth t k).1), .string (str (nth t k).2)] 46))) := bel_trans hbl.out hb1
      have HO1 : Hid (OwnF 46 w.heap.size _ ((t.take k).filter (alike s)) (wr.alloc (.cells #[.string (str (nth t k).1), .string (str (nth t k).2)] 46))) := hown.out.below hb1
      have HC : Hid (Calls Tryd.prog 48 #[.agg #[.string (str (nth t k).1), .string (str (nth t k).2)], .pointer (some ⟨B, 0, none⟩)] (wr.alloc (.cells #[.string (str (nth t k).1), .string (str (nth t k).2)] 46)) fun e w' => e = .returned (.bool (alike s (nth t k))) ∧ Below (World.heap (wr.alloc (.cells #[.string (str (nth t k).1), .string (str (nth t k).2)] 46))).size (wr.alloc (.cells #[.string (str (nth t k).1), .string (str (nth t k).2)] 46)) w') := HK.out _ _ hEk.1 hEk.2 HB1.out
      clear hcell hb1 hEk
      generalize (alike s) (nth t k) = b at HC TT FF
      generalize nth t k = p at *
      obtain ⟨pn, pv⟩ := p
      dsimp only at p0 p1 HB1 HO1 HC TT
      generalize hn : str pn = N at *
      generalize hv : str pv = V at *
      have HN : Hid (N = str pn) := hn.symm
      have HV : Hid (V = str pv) := hv.symm
      clear hn hv
      cases b with
      | true =>
        have tt := TT rfl
        clear TT FF
        go_wp2_with fail
        refine HC.out.mono ?_
        rintro e w2 ⟨rfl, hb2⟩
        have c0 : w2.cell? ⟨wr.heap.size, 0, none⟩ = some (.string N) := by rw [hb2.cell (by simp)]; simp
        have c1 : w2.cell? ⟨wr.heap.size, 1, none⟩ = some (.string V) := by rw [hb2.cell (by simp)]; simp
        have HB2 : Hid (Below w.heap.size w w2) := bel_trans HB1.out hb2
        have HO2 : Hid (OwnF 46 w.heap.size _ ((t.take k).filter (alike s)) w2) := HO1.out.below hb2
        have hs2 : w.heap.size ≤ w2.heap.size := HB2.out.size
        clear hb2
        go_wp2_with (at_builtin; go_must (refine wp_appF 46 22 infoF Tryd.underlying22 rfl (.tmp 17) (.tmp 19) rfl w.heap.size _ ((t.take k).filter (alike s)) _ (pn, pv) _ _ HN.out HV.out rfl HO2.out _ rfl (by simp) hlk hs2 ?_); intro v6 w6 hown6 hb6)
        have HO6 : Hid (OwnF 46 w.heap.size v6 ((t.take (k + 1)).filter (alike s)) w6) := (by rw [tt.out]; exact hown6 : OwnF _ _ v6 _ w6)
        have HB6 : Hid (Below w.heap.size w w6) := HB2.out.trans hb6
        clear hown6 hb6
        go_roundw
        case rel => exact ⟨k + 1, by omega, by go_num, HO6, HB6⟩
        case measure => simp [intOf]; omega
      | false =>
        have ff := FF rfl
        clear TT FF
        go_wp2_with fail
        refine HC.out.mono ?_
        rintro e w2 ⟨rfl, hb2⟩
        have HB2 : Hid (Below w.heap.size w w2) := bel_trans HB1.out hb2
        have HO2 : Hid (OwnF 46 w.heap.size _ ((t.take (k + 1)).filter (alike s)) w2) := (by rw [ff.out]; exact HO1.out.below hb2 : OwnF _ _ _ _ w2)
        clear hb2
        go_wp2
        go_roundw
        case rel => exact ⟨k + 1, by omega, by go_num, HO2, HB2⟩
        case measure => simp [intOf]; omega
    · obtain rfl : k = t.length := by omega
      rw [List.take_length] at hown
      go_wp2
      go_ret
      exact ⟨_, rfl, hown.out, hbl.out⟩

/-- The values of a name. -/
def vals (s : List UInt8) (t : List Fl) : List (List UInt8) := (t.filter (alike s)).map Prod.snd
theorem map_take (t : List Fl) (k : Nat) (h : k < t.length) : (t.take (k + 1)).map Prod.snd = (t.take k).map Prod.snd ++ [(nth t k).2] := by
  rw [take_nth t k h, List.map_append]
  rfl
theorem Each.filter {M : Nat} {t : List Fl} (h : Each M t) (f : Fl → Bool) : Each M (t.filter f) := fun p hp => h p (List.mem_filter.1 hp).1

set_option maxRecDepth 100000 in
set_option maxHeartbeats 2000000 in
theorem All_any (v : Value) (t : List Fl) (s : List UInt8) (hs : s.length ≤ 1048576) (hM : Each 1048576 t) (hl : t.length ≤ 16777216) (w : World) (hrd : RdF v t w) :
    Calls Tryd.prog 64 #[v, .string (str s)] w fun e w' => ∃ u, e = .returned u ∧ OwnS w.heap.size u (vals s t) w' ∧ Below w.heap.size w w' := by
  have hb1 : Below w.heap.size w (w.alloc (.cells #[.string (str s)] 9)) := (Below.refl _ w).alloc (Nat.le_refl _) _
  have HK : Hid (Calls _ _ _ _ _) := kept_named v t s w.heap.size hM hl (w.alloc (.cells #[.string (str s)] 9)) (hrd.below hb1) (fun p W h1 h2 hb =>
    named1_any p.1 p.2 s (by unfold maxLen; omega) (by unfold maxLen; omega) w.heap.size W (by rw [hb.cell (by simp)]; simp))
  have HN : Hid (Calls _ _ _ _ _) := named_any (str s) w
  have HB1 : Hid (Below _ _ _) := hb1
  unfold vals
  have hfl : (t.filter (alike s)).length ≤ 16777216 := Nat.le_trans (List.length_filter_le _ _) hl
  obtain ⟨a, c, rfl, _⟩ := hrd
  clear hb1 hM hs
  generalize t.filter (alike s) = T at *
  generalize str s = S at *
  go_enter Tryd.func64, Tryd.ntmps64
  go_wp2_with fail
  refine HN.out.mono ?_
  rintro e w1 ⟨rfl, rfl⟩
  go_wp2_with fail
  refine HK.out.mono ?_
  rintro e w2 ⟨u, rfl, ho2, hb2⟩
  have HB2 : Hid (Below w.heap.size w w2) := bel_trans HB1.out hb2
  have HR2 : Hid (RdF u T w2) := ho2.rd
  obtain ⟨a2, c2, rfl⟩ := ho2.form
  clear hb2 ho2
  go_wp2
  go_loopw [5, 13] (fun ov i wr => ∃ k : Nat, k ≤ T.length ∧ i = .int .i64 k ∧ Hid (OwnS w2.heap.size ov ((T.take k).map Prod.snd) wr) ∧ Hid (Below w2.heap.size w2 wr)) (fun _ i _ => T.length - (intOf i).toNat)
  case atStart => exact ⟨0, Nat.zero_le _, rfl, ownS_nil _ _, Below.refl _ _⟩
  case round =>
    obtain ⟨k, hk, rfl, hown, hbl⟩ := hrel
    by_cases hlt : k < T.length
    · obtain ⟨a', c', e', hcs⟩ := HR2.out.below hbl.out
      injection e' with e1 _ e2
      subst e1 e2
      rcases hcs with h | ⟨g, o, rfl, hlc, hcell⟩
      · rw [h] at hlt; simp at hlt
      obtain ⟨p0, p1⟩ := hcell k hlt
      have HTk : Hid (_ = _) := map_take T k hlt
      have hlk : ((T.take k).map Prod.snd).length + 1 ≤ 4294967296 := by rw [List.length_map, List.length_take]; omega
      generalize nth T k = p at *
      obtain ⟨pn, pv⟩ := p
      dsimp only at p0 p1 HTk
      generalize str pn = N at *
      have hb1 : Below wr.heap.size wr (wr.alloc (.cells #[.string N, .string (str pv)] 46)) := (Below.refl _ wr).alloc (Nat.le_refl _) _
      have HO1 : Hid (OwnS w2.heap.size _ ((T.take k).map Prod.snd) (wr.alloc (.cells #[.string N, .string (str pv)] 46))) := hown.out.below hb1
      have HBW : Hid (Below w2.heap.size w2 (wr.alloc (.cells #[.string N, .string (str pv)] 46))) := bel_trans hbl.out hb1
      have hsw : w2.heap.size ≤ (wr.alloc (.cells #[.string N, .string (str pv)] 46)).heap.size := HBW.out.size
      clear hcell hb1
      go_wp2_with (at_builtin; go_must (refine wp_appS rfl (.tmp 17) (.tmp 20) rfl w2.heap.size _ ((T.take k).map Prod.snd) _ pv rfl HO1.out (by simp; rfl) hlk hsw ?_); intro v6 w6 hown6 hb6)
      have HO6 : Hid (OwnS w2.heap.size v6 ((T.take (k + 1)).map Prod.snd) w6) := (by rw [HTk.out]; exact hown6 : OwnS _ v6 _ w6)
      have HB6 : Hid (Below w2.heap.size w2 w6) := HBW.out.trans hb6
      clear hown6 hb6
      go_roundw
      case rel => exact ⟨k + 1, by omega, by go_num, HO6, HB6⟩
      case measure => simp [intOf]; omega
    · obtain rfl : k = T.length := by omega
      rw [List.take_length] at hown
      go_wp2
      go_ret
      exact ⟨_, rfl, hown.out.lower HB2.out.size, HB2.out.trans (hbl.out.mono HB2.out.size)⟩

end Fd
end Go.Proofs.YtggmidkmpgjnoaaDoor

/-
  field: Remove.
-/
set_option linter.unusedVariables false
set_option linter.unusedSimpArgs false
namespace Go.Proofs.YtggmidkmpgjnoaaDoor
open Go.RowKit Go.Shelf
namespace Fd
open Oc Tg

def unlike (s : List UInt8) (p : Fl) : Bool := !alike s p

set_option maxRecDepth 100000 in
set_option maxHeartbeats 1000000 in
theorem removed1_any (p : Fl) (s : List UInt8) (hn : p.1.length ≤ 1048576) (hs : s.length ≤ 1048576) (B B1 : Nat) (w : World) (hc : w.cell? ⟨B, 0, none⟩ = some (.func (.func 48) #[] #[.pointer (some ⟨B1, 0, none⟩)])) (hc1 : w.cell? ⟨B1, 0, none⟩ = some (.string (str s))) :
    Calls Tryd.prog 32 #[.agg #[.string (str p.1), .string (str p.2)], .pointer (some ⟨B, 0, none⟩)] w fun e w' => e = .returned (.bool (unlike s p)) ∧ Below w.heap.size w w' := by
  have hb2 : Below w.heap.size w (w.alloc (.cells #[.string (str p.1), .string (str p.2)] 46)) := (Below.refl _ w).alloc (Nat.le_refl _) _
  have hcB : (w.alloc (.cells #[.string (str p.1), .string (str p.2)] 46)).cell? ⟨B, 0, none⟩ = some (.func (.func 48) #[] #[.pointer (some ⟨B1, 0, none⟩)]) := by rw [hb2.cell (World.block_lt_of_cell? w _ hc)]; exact hc
  have HS : Hid (Calls _ _ _ _ _) := named1_any p.1 p.2 s (by unfold maxLen; omega) (by unfold maxLen; omega) B1 (w.alloc (.cells #[.string (str p.1), .string (str p.2)] 46)) (by rw [hb2.cell (World.block_lt_of_cell? w _ hc1)]; exact hc1)
  have HB2 : Hid (Below _ _ _) := hb2
  unfold unlike
  rw [show alike s (p.1, p.2) = alike s p from rfl] at HS
  generalize alike s p = b at *
  generalize str p.1 = N at *
  generalize str p.2 = V at *
  clear hb2 hc hc1
  go_enter Tryd.func32, Tryd.ntmps32
  go_wp2_with fail
  refine HS.out.mono ?_
  rintro e w3 ⟨rfl, hb3⟩
  have HB3 : Hid (Below w.heap.size w w3) := bel_trans HB2.out hb3
  clear hb3
  go_wp2
  go_ret
  exact ⟨rfl, HB3.out⟩

set_option maxRecDepth 100000 in
set_option maxHeartbeats 2000000 in
theorem kept_removed (v : Value) (t : List Fl) (s : List UInt8) (B : Nat) (hM : Each 1048576 t) (hl : t.length ≤ 16777216) (w : World) (hrd : RdF v t w)
    (HK : Hid (∀ (p : Fl) (W : World), p.1.length ≤ 1048576 → p.2.length ≤ 1048576 → Below w.heap.size w W → Calls Tryd.prog 32 #[.agg #[.string (str p.1), .string (str p.2)], .pointer (some ⟨B, 0, none⟩)] W fun e w' => e = .returned (.bool (unlike s p)) ∧ Below (World.heap W).size W w')) :
    Calls Tryd.prog 24 #[v, .func (.func 32) #[] #[.pointer (some ⟨B, 0, none⟩)]] w fun e w' => ∃ u, e = .returned u ∧ OwnF 46 w.heap.size u (t.filter (unlike s)) w' ∧ Below w.heap.size w w' := by
  have HR : Hid (RdF v t w) := hrd
  have HM : Hid (Each 1048576 t) := hM
  obtain ⟨a, c, rfl, _⟩ := hrd
  clear hM
  go_enter Tryd.func24, Tryd.ntmps24
  go_wp2
  go_loopw [5, 10] (fun ov i wr => ∃ k : Nat, k ≤ t.length ∧ i = .int .i64 k ∧ Hid (OwnF 46 w.heap.size ov ((t.take k).filter (unlike s)) wr) ∧ Hid (Below w.heap.size w wr)) (fun _ i _ => t.length - (intOf i).toNat)
  case atStart => exact ⟨0, Nat.zero_le _, rfl, ownF_nil _ _ _, Below.refl _ _⟩
  case round =>
    obtain ⟨k, hk, rfl, hown, hbl⟩ := hrel
    have hsz := hbl.out.size
    by_cases hlt : k < t.length
    · obtain ⟨a', c', e', hcs⟩ := HR.out.below hbl.out
      injection e' with e1 _ e2
      subst e1 e2
      rcases hcs with h | ⟨g, o, rfl, hlc, hcell⟩
      · rw [h] at hlt; simp at hlt
      obtain ⟨p0, p1⟩ := hcell k hlt
      have hEk := HM.out.at k hlt
      have TT : (unlike s) (nth t k) = true → Hid ((t.take (k + 1)).filter (unlike s) = (t.take k).filter (unlike s) ++ [nth t k]) := fun h => by
        have := filter_take (unlike s) t k hlt
        rw [if_pos h] at this
        exact this
      have FF : (unlike s) (nth t k) = false → Hid ((t.take (k + 1)).filter (unlike s) = (t.take k).filter (unlike s)) := fun h => by
        have := filter_take (unlike s) t k hlt
        rw [if_neg (by rw [h]; simp)] at this
        exact this
      have hlk : ((t.take k).filter (unlike s)).length + 1 ≤ 2147483648 := by
        have := List.length_filter_le (unlike s) (t.take k)
        rw [List.length_take] at this
        omega
      have hb1 : Below wr.heap.size wr (wr.alloc (.cells #[.string (str (nth t k).1), .string (str (nth t k).2)] 46)) := (Below.refl _ wr).alloc (Nat.le_refl _) _
      have HB1 : Hid (Below w.heap.size w (wr.alloc (.cells #[.string (str (nth t k).1), .string (str (nth t k).2)] 46))) := bel_trans hbl.out hb1
      have HO1 : Hid (OwnF 46 w.heap.size _ ((t.take k).filter (unlike s)) (wr.alloc (.cells #[.string (str (nth t k).1), .string (str (nth t k).2)] 46))) := hown.out.below hb1
      have HC : Hid (Calls Tryd.prog 32 #[.agg #[.string (str (nth t k).1), .string (str (nth t k).2)], .pointer (some ⟨B, 0, none⟩)] (wr.alloc (.cells #[.string (str (nth t k).1), .string (str (nth t k).2)] 46)) fun e w' => e = .returned (.bool (unlike s (nth t k))) ∧ Below (World.heap (wr.alloc (.cells #[.string (str (nth t k).1), .string (str (nth t k).2)] 46))).size (wr.alloc (.cells #[.string (str (nth t k).1), .string (str (nth t k).2)] 46)) w') := HK.out _ _ hEk.1 hEk.2 HB1.out
      clear hcell hb1 hEk
      generalize (unlike s) (nth t k) = b at HC TT FF
      generalize nth t k = p at *
      obtain ⟨pn, pv⟩ := p
      dsimp only at p0 p1 HB1 HO1 HC TT
      generalize hn : str pn = N at *
      generalize hv : str pv = V at *
      have HN : Hid (N = str pn) := hn.symm
      have HV : Hid (V = str pv) := hv.symm
      clear hn hv
      cases b with
      | true =>
        have tt := TT rfl
        clear TT FF
        go_wp2_with fail
        refine HC.out.mono ?_
        rintro e w2 ⟨rfl, hb2⟩
        have c0 : w2.cell? ⟨wr.heap.size, 0, none⟩ = some (.string N) := by rw [hb2.cell (by simp)]; simp
        have c1 : w2.cell? ⟨wr.heap.size, 1, none⟩ = some (.string V) := by rw [hb2.cell (by simp)]; simp
        have HB2 : Hid (Below w.heap.size w w2) := bel_trans HB1.out hb2
        have HO2 : Hid (OwnF 46 w.heap.size _ ((t.take k).filter (unlike s)) w2) := HO1.out.below hb2
        have hs2 : w.heap.size ≤ w2.heap.size := HB2.out.size
        clear hb2
        go_wp2_with (at_builtin; go_must (refine wp_appF 46 22 infoF Tryd.underlying22 rfl (.tmp 17) (.tmp 19) rfl w.heap.size _ ((t.take k).filter (unlike s)) _ (pn, pv) _ _ HN.out HV.out rfl HO2.out _ rfl (by simp) hlk hs2 ?_); intro v6 w6 hown6 hb6)
        have HO6 : Hid (OwnF 46 w.heap.size v6 ((t.take (k + 1)).filter (unlike s)) w6) := (by rw [tt.out]; exact hown6 : OwnF _ _ v6 _ w6)
        have HB6 : Hid (Below w.heap.size w w6) := HB2.out.trans hb6
        clear hown6 hb6
        go_roundw
        case rel => exact ⟨k + 1, by omega, by go_num, HO6, HB6⟩
        case measure => simp [intOf]; omega
      | false =>
        have ff := FF rfl
        clear TT FF
        go_wp2_with fail
        refine HC.out.mono ?_
        rintro e w2 ⟨rfl, hb2⟩
        have HB2 : Hid (Below w.heap.size w w2) := bel_trans HB1.out hb2
        have HO2 : Hid (OwnF 46 w.heap.size _ ((t.take (k + 1)).filter (unlike s)) w2) := (by rw [ff.out]; exact HO1.out.below hb2 : OwnF _ _ _ _ w2)
        clear hb2
        go_wp2
        go_roundw
        case rel => exact ⟨k + 1, by omega, by go_num, HO2, HB2⟩
        case measure => simp [intOf]; omega
    · obtain rfl : k = t.length := by omega
      rw [List.take_length] at hown
      go_wp2
      go_ret
      exact ⟨_, rfl, hown.out, hbl.out⟩

set_option maxRecDepth 100000 in
set_option maxHeartbeats 1000000 in
theorem Remove_any (v : Value) (t : List Fl) (s : List UInt8) (hs : s.length ≤ 1048576) (hM : Each 1048576 t) (hl : t.length ≤ 16777216) (w : World) (hrd : RdF v t w) :
    Calls Tryd.prog 14 #[v, .string (str s)] w fun e w' => ∃ u, e = .returned u ∧ OwnF 46 w.heap.size u (t.filter (unlike s)) w' ∧ Below w.heap.size w w' := by
  obtain ⟨w1, hw1⟩ : ∃ w1, w1 = w.alloc (.cells #[.string (str s)] 9) := ⟨_, rfl⟩
  have hb1 : Below w.heap.size w w1 := by rw [hw1]; exact (Below.refl _ w).alloc (Nat.le_refl _) _
  have hz1 : w1.heap.size = w.heap.size + 1 := by rw [hw1]; simp
  have hc1 : w1.cell? ⟨w.heap.size, 0, none⟩ = some (.string (str s)) := by rw [hw1]; simp
  obtain ⟨w2, hw2⟩ : ∃ w2, w2 = w1.alloc (.cells #[.func (.func 48) #[] #[.pointer (some ⟨w.heap.size, 0, none⟩)]] 54) := ⟨_, rfl⟩
  have hb2 : Below w1.heap.size w1 w2 := by rw [hw2]; exact (Below.refl _ w1).alloc (Nat.le_refl _) _
  have hc2 : w2.cell? ⟨w1.heap.size, 0, none⟩ = some (.func (.func 48) #[] #[.pointer (some ⟨w.heap.size, 0, none⟩)]) := by rw [hw2]; simp
  have hz2 : w2.heap.size = w1.heap.size + 1 := by rw [hw2]; simp
  have HN : Hid (Calls _ _ _ _ _) := named_any (str s) w
  have HK : Hid (Calls _ _ _ _ _) := kept_removed v t s w1.heap.size hM hl w2 ((hrd.below hb1).below hb2) (fun p W h1 h2 hb =>
    removed1_any p s h1 hs w1.heap.size w.heap.size W (by rw [hb.cell (by show w1.heap.size < _; omega)]; exact hc2) (by rw [hb.cell (by show w.heap.size < _; omega), hb2.cell (by show w.heap.size < _; omega)]; exact hc1))
  have HB2 : Hid (Below w.heap.size w w2) := bel_trans hb1 hb2
  obtain ⟨a, c, rfl, _⟩ := hrd
  clear hM hs hc1 hc2 hb1 hb2 hz1 hz2
  generalize t.filter (unlike s) = T at *
  generalize str s = S at *
  go_enter Tryd.func14, Tryd.ntmps14
  go_wp2_with fail
  refine HN.out.mono ?_
  rintro e x1 ⟨rfl, rfl⟩
  rw [← hw1]
  clear hw1
  go_wp2_with fail
  rw [← hw2]
  clear hw2
  refine HK.out.mono ?_
  rintro e w3 ⟨u, rfl, ho, hb3⟩
  have HO : Hid (OwnF _ _ _ _ _) := ho
  have HB3 : Hid (Below w.heap.size w w3) := bel_trans HB2.out hb3
  have hle := HB2.out.size
  clear ho hb3
  go_wp2
  go_ret
  refine ⟨_, rfl, ⟨HO.out.1, HO.out.2.imp id fun ⟨g, cc, cur, e, hg, r⟩ => ⟨g, cc, cur, e, Nat.le_trans hle hg, r⟩⟩, HB3.out⟩

end Fd
end Go.Proofs.YtggmidkmpgjnoaaDoor
