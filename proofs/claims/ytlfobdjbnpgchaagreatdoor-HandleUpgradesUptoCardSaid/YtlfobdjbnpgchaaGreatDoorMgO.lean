/- Several texts as one. -/
import Derived.Test.YtlfobdjbnpgchaaGreatDoorMgN
import Derived.Laws.AppendOwnNone
import Derived.Test.YtlfobdjbnpgchaaGreatDoorMgI
import Derived.Lib.Join
/-
  A slice of texts appended to one of the call's own.
-/
set_option linter.unusedVariables false
set_option linter.unusedSimpArgs false
namespace Go.Proofs.YtlfobdjbnpgchaaGreatDoor
open Go.RowKit Go.Shelf
namespace Oc

theorem wpList_wanted {P : Program} {ops : Array Oper} {rest : List Oper} {o : Oper} {a : Act} {w : World} {Q : Exit → Act → World → Prop} (hw : Region.wanted o (yielded ops a.tmps) = true)
    (h : o.wp P a w (wpList P ops Q rest) Q) : wpList P ops Q (o :: rest) a w := by
  rw [wpList, if_pos hw]
  exact .inl h

theorem wp_appR {ops : Array Oper} {rest : List Oper} {o : Oper} {a : Act} {W : World} {Q : Exit → Act → World → Prop} (hw : Region.wanted o (yielded ops a.tmps) = true) (s x : Operand)
    (ho : o.op = .call { callee := .builtin .append, args := #[s, x], argTypes := #[97, 97] }) (B : Nat) (v y : Value) (t u : List (List UInt8))
    (hs : a.eval s = v) (hown : OwnS B v t W) (hx : a.eval x = y) (hy : RdS y u W) (hnil : u = [] → y = .slice none 0 0 ∨ ∃ g c, y = .slice (some g) 0 c) (hlen : t.length + u.length ≤ 4294967296) (hB : B ≤ W.heap.size)
    (h : ∀ v' w', OwnS B v' (t ++ u) w' → Below B W w' → wpList Tryz.prog ops Q rest (a.put o.dst v') w') : wpList Tryz.prog ops Q (o :: rest) a W := by
  obtain ⟨i0, hi, hz0, hz1, hz2⟩ := infoS
  refine wpList_wanted hw ?_
  have own' : ∀ (ad : Addr) (c : Nat), y = .slice (some ad) u.length c → (∀ j, j < u.length → W.cell? (ad.add j) = some (.string (str (u.getD j [])))) → o.wp Tryz.prog a W (wpList Tryz.prog ops Q rest) Q := by
    intro ad c ey hcell
    refine wp_append_own W s x 97 ho B 9 i0 (.string ⟨#[]⟩) 1 16 Tryz.underlying97 hi hz0 hz1 hz2 rfl (by decide) v t.length _ hs hown ad u.length c (encS u) (hx.trans ey) (by simp [encS]) ?_ ?_ ?_ ?_ hB ?_
    · intro j z hj
      have hjl : j < u.length := by
        have := (List.getElem?_eq_some_iff.1 hj).1
        simpa [encS] using this
      rw [hcell j hjl]
      unfold encS at hj
      rw [List.getElem?_map, List.getElem?_eq_getElem hjl] at hj
      rw [List.getD_eq_getElem?_getD, List.getElem?_eq_getElem hjl]
      simpa using hj
    · intro z hz
      unfold encS at hz
      obtain ⟨l, _, rfl⟩ := List.mem_map.1 hz
      rfl
    · unfold maxLen; omega
    · omega
    · intro v' w' h1 h2 _
      refine h v' w' ?_ ((Below.refl B W).grown h2 hB (fun k hk => (World.ownsRow.lt hown k hk).1))
      unfold OwnS
      rw [List.length_append]
      simpa [encS] using h1
  obtain ⟨a2, c2, rfl, hr⟩ := hy
  by_cases hu : u = []
  · subst hu
    rcases hnil rfl with e | ⟨g, c, e⟩
    · have hrun := run_append_owned_none (P := Tryz.prog) (w := W) B 97 o.type 9 i0 1 Tryz.underlying97 hi v t.length _ hown
      have hx' : a.eval x = .slice none 0 0 := hx.trans e
      unfold Oper.wp
      simp [execOp, ho, resolve, invoke, builtin, hs, hx', hrun, Result.andThen]
      have := h v W (by simpa using hown) (Below.refl _ _)
      exact this
    · exact own' g c e (fun j hj => by simp at hj)
  · rcases hr with hr | ⟨g, o', rfl, hc, hcell⟩
    · exact absurd hr hu
    · refine own' ⟨g, o', none⟩ c2 rfl (fun j hj => ?_)
      have ea : Addr.add ⟨g, o', none⟩ j = ⟨g, o' + j, none⟩ := by unfold Addr.add; split <;> simp_all
      rw [ea]
      exact hcell j hj
theorem OwnS.nilish {B : Nat} {v : Value} {t : List (List UInt8)} {w : World} (h : OwnS B v t w) : t = [] → v = .slice none 0 0 ∨ ∃ g c, v = .slice (some g) 0 c := by
  intro e
  subst e
  rcases h.2 with ⟨rfl, _⟩ | ⟨g, cap, cur, rfl, _⟩
  · exact .inl rfl
  · exact .inr ⟨_, _, rfl⟩

theorem listR_split {a b : List UInt8} (ha : (listR a).2 = 0) (hb : (listR b).2 = 0) : listR (a ++ 44 :: b) = ((listR a).1 ++ (listR b).1, 0) := by
  unfold listR at *
  cases h1 : lst [] a with
  | none => rw [h1] at ha; cases ha
  | some t =>
    cases h2 : lst [] b with
    | none => rw [h2] at hb; cases hb
    | some u =>
      rw [lst_split a.length a [] b t (Nat.le_refl _) h1, h2]
      rfl

end Oc
end Go.Proofs.YtlfobdjbnpgchaaGreatDoor

/-
  Texts with commas between.
-/
set_option linter.unusedVariables false
namespace Go.Proofs.YtlfobdjbnpgchaaGreatDoor
namespace Oc

def joinF : List (List UInt8) → List UInt8
  | [] => []
  | [x] => x
  | x :: y :: r => x ++ 44 :: 32 :: joinF (y :: r)
def sumL (t : List (List UInt8)) : Nat := (t.map List.length).sum
def jp (t : List (List UInt8)) (k : Nat) : List UInt8 := joinF (t.take k)
theorem joinF_snoc : ∀ (t : List (List UInt8)) (y : List UInt8), t ≠ [] → joinF (t ++ [y]) = joinF t ++ [44, 32] ++ y
  | [], y, h => absurd rfl h
  | [x], y, _ => by show x ++ 44 :: 32 :: y = x ++ [44, 32] ++ y; simp
  | x :: z :: r, y, _ => by
    have ih := joinF_snoc (z :: r) y (by simp)
    show x ++ 44 :: 32 :: joinF (z :: (r ++ [y])) = (x ++ 44 :: 32 :: joinF (z :: r)) ++ [44, 32] ++ y
    rw [show z :: (r ++ [y]) = (z :: r) ++ [y] from rfl, ih]
    simp
theorem joinF_len : ∀ t : List (List UInt8), (joinF t).length ≤ sumL t + 2 * t.length
  | [] => by simp [joinF]
  | [x] => by simp [joinF, sumL]
  | x :: y :: r => by
    have ih := joinF_len (y :: r)
    show (x ++ 44 :: 32 :: joinF (y :: r)).length ≤ x.length + sumL (y :: r) + 2 * ((y :: r).length + 1)
    rw [List.length_append, List.length_cons, List.length_cons]
    omega
theorem take_succ (t : List (List UInt8)) (k : Nat) (h : k < t.length) : t.take (k + 1) = t.take k ++ [t.getD k []] := by
  rw [List.take_add_one, List.getElem?_eq_getElem h, List.getD_eq_getElem?_getD, List.getElem?_eq_getElem h]; rfl
theorem sumL_append (a b : List (List UInt8)) : sumL (a ++ b) = sumL a + sumL b := by simp [sumL]
theorem sumL_succ (t : List (List UInt8)) (k : Nat) (h : k < t.length) : sumL (t.take (k + 1)) = sumL (t.take k) + (t.getD k []).length := by
  rw [take_succ t k h, sumL_append]; simp [sumL]
theorem sumL_take (t : List (List UInt8)) (k : Nat) : sumL (t.take k) ≤ sumL t := by
  have := sumL_append (t.take k) (t.drop k)
  rw [List.take_append_drop] at this
  omega
theorem jp_len (t : List (List UInt8)) (k : Nat) : (jp t k).length ≤ sumL t + 2 * t.length := by
  have h1 := joinF_len (t.take k)
  have h2 := sumL_take t k
  rw [List.length_take] at h1
  show (joinF (t.take k)).length ≤ _
  omega
theorem jp_one (t : List (List UInt8)) (h : 0 < t.length) : jp t 1 = t.getD 0 [] := by
  cases t with
  | nil => simp at h
  | cons x t => rfl
theorem jp_succ (t : List (List UInt8)) (k : Nat) (h : k < t.length) (h0 : 0 < k) : jp t (k + 1) = jp t k ++ [44, 32] ++ t.getD k [] := by
  unfold jp
  rw [take_succ t k h]
  exact joinF_snoc _ _ (fun e => by
    have := congrArg List.length e
    rw [List.length_take, List.length_nil] at this
    omega)
theorem jp_all (t : List (List UInt8)) : jp t t.length = joinF t := by unfold jp; rw [List.take_length]

end Oc
end Go.Proofs.YtlfobdjbnpgchaaGreatDoor

/-
  field: kept, All; the document's All; the law's own texts.
-/
set_option linter.unusedVariables false
set_option linter.unusedSimpArgs false
namespace Go.Proofs.YtlfobdjbnpgchaaGreatDoor
open Go.RowKit Go.Shelf
namespace Fd
open Oc Tg

theorem filter_take (f : Fl → Bool) (t : List Fl) (k : Nat) (h : k < t.length) : (t.take (k + 1)).filter f = if f (nth t k) then (t.take k).filter f ++ [nth t k] else (t.take k).filter f := by
  rw [take_nth t k h, List.filter_append]
  by_cases hb : f (nth t k) = true
  · rw [if_pos hb]; simp [hb]
  · rw [if_neg hb]; simp [hb]

set_option maxRecDepth 100000 in
set_option maxHeartbeats 2000000 in
theorem kept_named (v : Value) (t : List Fl) (s : List UInt8) (B : Nat) (hM : Each 1048576 t) (hl : t.length ≤ 16777216) (w : World) (hrd : RdF v t w)
    (HK : Hid (∀ (p : Fl) (W : World), p.1.length ≤ 1048576 → p.2.length ≤ 1048576 → Below w.heap.size w W → Calls Tryz.prog 124 #[.agg #[.string (str p.1), .string (str p.2)], .pointer (some ⟨B, 0, none⟩)] W fun e w' => e = .returned (.bool (alike s p)) ∧ Below (World.heap W).size W w')) :
    Calls Tryz.prog 89 #[v, .func (.func 124) #[] #[.pointer (some ⟨B, 0, none⟩)]] w fun e w' => ∃ u, e = .returned u ∧ OwnF 36 w.heap.size u (t.filter (alike s)) w' ∧ Below w.heap.size w w' := by
  have HR : Hid (RdF v t w) := hrd
  have HM : Hid (Each 1048576 t) := hM
  obtain ⟨a, c, rfl, _⟩ := hrd
  clear hM
  go_enter Tryz.func89, Tryz.ntmps89
  go_wp2
  go_loopw [5, 10] (fun ov i wr => ∃ k : Nat, k ≤ t.length ∧ i = .int .i64 k ∧ Hid (OwnF 36 w.heap.size ov ((t.take k).filter (alike s)) wr) ∧ Hid (Below w.heap.size w wr)) (fun _ i _ => t.length - (intOf i).toNat)
  case atStart => exact ⟨0, Nat.zero_le _, rfl, ownF_nil _ _ _, Below.refl _ _⟩
  case round =>
    obtain ⟨k, hk, rfl, hown, hbl⟩ := hrel
    have hsz := hbl.out.size
    by_cases hlt : k < t.length
    · obtain ⟨a', c', e', hcs⟩ := HR.out.below hbl.out
      injection e' with e1 _ e2
      subst e1 e2
      rcases hcs with h | ⟨g, o, rfl, hlc, hcell⟩
      · rw [h] at hlt; simp at hlt
      obtain ⟨p0, p1⟩ := hcell k hlt
      have hEk := HM.out.at k hlt
      have TT : (alike s) (nth t k) = true → Hid ((t.take (k + 1)).filter (alike s) = (t.take k).filter (alike s) ++ [nth t k]) := fun h => by
        have := filter_take (alike s) t k hlt
        rw [if_pos h] at this
        exact this
      have FF : (alike s) (nth t k) = false → Hid ((t.take (k + 1)).filter (alike s) = (t.take k).filter (alike s)) := fun h => by
        have := filter_take (alike s) t k hlt
        rw [if_neg (by rw [h]; simp)] at this
        exact this
      have hlk : ((t.take k).filter (alike s)).length + 1 ≤ 2147483648 := by
        have := List.length_filter_le (alike s) (t.take k)
        rw [List.length_take] at this
        omega
      have hb1 : Below wr.heap.size wr (wr.alloc (.cells #[.string (str (nth t k).1), .string (str (nth t k).2)] 36)) := (Below.refl _ wr).alloc (Nat.le_refl _) _
      have HB1 : Hid (Below w.heap.size w (wr.alloc (.cells #[.string (str (nth t k).1), .string (str (nth t k).2)] 36))) := bel_trans hbl.out hb1
      have HO1 : Hid (OwnF 36 w.heap.size _ ((t.take k).filter (alike s)) (wr.alloc (.cells #[.string (str (nth t k).1), .string (str (nth t k).2)] 36))) := hown.out.below hb1
      have HC : Hid (Calls Tryz.prog 124 #[.agg #[.string (str (nth t k).1), .string (str (nth t k).2)], .pointer (some ⟨B, 0, none⟩)] (wr.alloc (.cells #[.string (str (nth t k).1), .string (str (nth t k).2)] 36)) fun e w' => e = .returned (.bool (alike s (nth t k))) ∧ Below (World.heap (wr.alloc (.cells #[.string (str (nth t k).1), .string (str (nth t k).2)] 36))).size (wr.alloc (.cells #[.string (str (nth t k).1), .string (str (nth t k).2)] 36)) w') := HK.out _ _ hEk.1 hEk.2 HB1.out
      clear hcell hb1 hEk
      generalize (alike s) (nth t k) = b at HC TT FF
      generalize nth t k = p at *
      obtain ⟨pn, pv⟩ := p
      dsimp only at p0 p1 HB1 HO1 HC TT
      generalize hn : str pn = N at *
      generalize hv : str pv = V at *
      have HN : Hid (N = str pn) := hn.symm
      have HV : Hid (V = str pv) := hv.symm
      clear hn hv
      cases b with
      | true =>
        have tt := TT rfl
        clear TT FF
        go_wp2_with fail
        refine HC.out.mono ?_
        rintro e w2 ⟨rfl, hb2⟩
        have c0 : w2.cell? ⟨wr.heap.size, 0, none⟩ = some (.string N) := by rw [hb2.cell (by simp)]; simp
        have c1 : w2.cell? ⟨wr.heap.size, 1, none⟩ = some (.string V) := by rw [hb2.cell (by simp)]; simp
        have HB2 : Hid (Below w.heap.size w w2) := bel_trans HB1.out hb2
        have HO2 : Hid (OwnF 36 w.heap.size _ ((t.take k).filter (alike s)) w2) := HO1.out.below hb2
        have hs2 : w.heap.size ≤ w2.heap.size := HB2.out.size
        clear hb2
        go_wp2_with (at_builtin; go_must (refine wp_appF 36 34 infoF Tryz.underlying34 rfl (.tmp 17) (.tmp 19) rfl w.heap.size _ ((t.take k).filter (alike s)) _ (pn, pv) _ _ HN.out HV.out rfl HO2.out _ rfl (by simp) hlk hs2 ?_); intro v6 w6 hown6 hb6)
        have HO6 : Hid (OwnF 36 w.heap.size v6 ((t.take (k + 1)).filter (alike s)) w6) := (by rw [tt.out]; exact hown6 : OwnF _ _ v6 _ w6)
        have HB6 : Hid (Below w.heap.size w w6) := HB2.out.trans hb6
        clear hown6 hb6
        go_roundw
        case rel => exact ⟨k + 1, by omega, by go_num, HO6, HB6⟩
        case measure => simp [intOf]; omega
      | false =>
        have ff := FF rfl
        clear TT FF
        go_wp2_with fail
        refine HC.out.mono ?_
        rintro e w2 ⟨rfl, hb2⟩
        have HB2 : Hid (Below w.heap.size w w2) := bel_trans HB1.out hb2
        have HO2 : Hid (OwnF 36 w.heap.size _ ((t.take (k + 1)).filter (alike s)) w2) := (by rw [ff.out]; exact HO1.out.below hb2 : OwnF _ _ _ _ w2)
        clear hb2
        go_wp2
        go_roundw
        case rel => exact ⟨k + 1, by omega, by go_num, HO2, HB2⟩
        case measure => simp [intOf]; omega
    · obtain rfl : k = t.length := by omega
      rw [List.take_length] at hown
      go_wp2
      go_ret
      exact ⟨_, rfl, hown.out, hbl.out⟩

/-- The values of a name. -/
def vals (s : List UInt8) (t : List Fl) : List (List UInt8) := (t.filter (alike s)).map Prod.snd
theorem map_take (t : List Fl) (k : Nat) (h : k < t.length) : (t.take (k + 1)).map Prod.snd = (t.take k).map Prod.snd ++ [(nth t k).2] := by
  rw [take_nth t k h, List.map_append]
  rfl
theorem Each.filter {M : Nat} {t : List Fl} (h : Each M t) (f : Fl → Bool) : Each M (t.filter f) := fun p hp => h p (List.mem_filter.1 hp).1

set_option maxRecDepth 100000 in
set_option maxHeartbeats 2000000 in
theorem All_any (v : Value) (t : List Fl) (s : List UInt8) (hs : s.length ≤ 1048576) (hM : Each 1048576 t) (hl : t.length ≤ 16777216) (w : World) (hrd : RdF v t w) :
    Calls Tryz.prog 53 #[v, .string (str s)] w fun e w' => ∃ u, e = .returned u ∧ OwnS w.heap.size u (vals s t) w' ∧ Below w.heap.size w w' := by
  have hb1 : Below w.heap.size w (w.alloc (.cells #[.string (str s)] 9)) := (Below.refl _ w).alloc (Nat.le_refl _) _
  have HK : Hid (Calls _ _ _ _ _) := kept_named v t s w.heap.size hM hl (w.alloc (.cells #[.string (str s)] 9)) (hrd.below hb1) (fun p W h1 h2 hb =>
    named1_any p.1 p.2 s (by unfold maxLen; omega) (by unfold maxLen; omega) w.heap.size W (by rw [hb.cell (by simp)]; simp))
  have HN : Hid (Calls _ _ _ _ _) := named_any (str s) w
  have HB1 : Hid (Below _ _ _) := hb1
  unfold vals
  have hfl : (t.filter (alike s)).length ≤ 16777216 := Nat.le_trans (List.length_filter_le _ _) hl
  obtain ⟨a, c, rfl, _⟩ := hrd
  clear hb1 hM hs
  generalize t.filter (alike s) = T at *
  generalize str s = S at *
  go_enter Tryz.func53, Tryz.ntmps53
  go_wp2_with fail
  refine HN.out.mono ?_
  rintro e w1 ⟨rfl, rfl⟩
  go_wp2_with fail
  refine HK.out.mono ?_
  rintro e w2 ⟨u, rfl, ho2, hb2⟩
  have HB2 : Hid (Below w.heap.size w w2) := bel_trans HB1.out hb2
  have HR2 : Hid (RdF u T w2) := ho2.rd
  obtain ⟨a2, c2, rfl⟩ := ho2.form
  clear hb2 ho2
  go_wp2
  go_loopw [5, 13] (fun ov i wr => ∃ k : Nat, k ≤ T.length ∧ i = .int .i64 k ∧ Hid (OwnS w2.heap.size ov ((T.take k).map Prod.snd) wr) ∧ Hid (Below w2.heap.size w2 wr)) (fun _ i _ => T.length - (intOf i).toNat)
  case atStart => exact ⟨0, Nat.zero_le _, rfl, ownS_nil _ _, Below.refl _ _⟩
  case round =>
    obtain ⟨k, hk, rfl, hown, hbl⟩ := hrel
    by_cases hlt : k < T.length
    · obtain ⟨a', c', e', hcs⟩ := HR2.out.below hbl.out
      injection e' with e1 _ e2
      subst e1 e2
      rcases hcs with h | ⟨g, o, rfl, hlc, hcell⟩
      · rw [h] at hlt; simp at hlt
      obtain ⟨p0, p1⟩ := hcell k hlt
      have HTk : Hid (_ = _) := map_take T k hlt
      have hlk : ((T.take k).map Prod.snd).length + 1 ≤ 4294967296 := by rw [List.length_map, List.length_take]; omega
      generalize nth T k = p at *
      obtain ⟨pn, pv⟩ := p
      dsimp only at p0 p1 HTk
      generalize str pn = N at *
      have hb1 : Below wr.heap.size wr (wr.alloc (.cells #[.string N, .string (str pv)] 36)) := (Below.refl _ wr).alloc (Nat.le_refl _) _
      have HO1 : Hid (OwnS w2.heap.size _ ((T.take k).map Prod.snd) (wr.alloc (.cells #[.string N, .string (str pv)] 36))) := hown.out.below hb1
      have HBW : Hid (Below w2.heap.size w2 (wr.alloc (.cells #[.string N, .string (str pv)] 36))) := bel_trans hbl.out hb1
      have hsw : w2.heap.size ≤ (wr.alloc (.cells #[.string N, .string (str pv)] 36)).heap.size := HBW.out.size
      clear hcell hb1
      go_wp2_with (at_builtin; go_must (refine wp_appS rfl (.tmp 17) (.tmp 20) rfl w2.heap.size _ ((T.take k).map Prod.snd) _ pv rfl HO1.out (by simp; rfl) hlk hsw ?_); intro v6 w6 hown6 hb6)
      have HO6 : Hid (OwnS w2.heap.size v6 ((T.take (k + 1)).map Prod.snd) w6) := (by rw [HTk.out]; exact hown6 : OwnS _ v6 _ w6)
      have HB6 : Hid (Below w2.heap.size w2 w6) := HBW.out.trans hb6
      clear hown6 hb6
      go_roundw
      case rel => exact ⟨k + 1, by omega, by go_num, HO6, HB6⟩
      case measure => simp [intOf]; omega
    · obtain rfl : k = T.length := by omega
      rw [List.take_length] at hown
      go_wp2
      go_ret
      exact ⟨_, rfl, hown.out.lower HB2.out.size, HB2.out.trans (hbl.out.mono HB2.out.size)⟩

end Fd
end Go.Proofs.YtlfobdjbnpgchaaGreatDoor

/-
  field: Joined, List, Tokens, Has.
-/
set_option linter.unusedVariables false
set_option linter.unusedSimpArgs false
namespace Go.Proofs.YtlfobdjbnpgchaaGreatDoor
open Go.RowKit Go.Shelf
namespace Fd
open Oc Tg

theorem ownS_set {B g n c : Nat} {t : List (List UInt8)} {w : World} (h : OwnS B (.slice (some ⟨g, 0, none⟩) n c) t w) (j : Nat) (hj : j < t.length) (l : List UInt8) :
    OwnS B (.slice (some ⟨g, 0, none⟩) n c) (t.set j l) (w.setCell ⟨g, j, none⟩ (.string (str l))) ∧ w.frozen? ⟨g, j, none⟩ = false ∧ B ≤ g := by
  obtain ⟨h1, h2⟩ := h
  rcases h2 with ⟨hv, _⟩ | ⟨g', cap, cur, hv, hB, hg, hn, hm, hsz, htake⟩
  · cases hv
  · injection hv with e1 e2 e3
    injection e1 with e1
    injection e1 with e1
    subst e1 e3
    have e : encS (t.set j l) = (encS t).set j (.string (str l)) := by unfold encS; rw [List.map_set]
    refine ⟨⟨by rw [e]; simpa using h1, .inr ⟨g, c, cur.setIfInBounds j (.string (str l)), by rw [List.length_set, e2], hB, by simp [World.setCell, Array.getElem?_modify, hg], by rw [List.length_set]; exact hn, hm, by simpa using hsz, ?_⟩⟩, Lib.frozen_of_heap hg j, hB⟩
    rw [e, ← htake, List.length_set]
    simp [List.take_set]

theorem join_eq : ∀ t : List (List UInt8), Lib.join t [44, 32] = joinF t
  | [] => rfl
  | [x] => Lib.join_one x _
  | x :: y :: r => by
    have ih := join_eq (y :: r)
    rw [Lib.join_cons] at ih ⊢
    show x ++ Lib.joinTail [44, 32] (y :: r) = x ++ 44 :: 32 :: joinF (y :: r)
    rw [← ih]
    simp [Lib.joinTail]

set_option maxRecDepth 100000 in
set_option maxHeartbeats 1000000 in
theorem sJoin_nil (sep : ByteArray) (a : Option Addr) (c : Nat) (w : World) :
    Calls Tryz.prog 91 #[.slice a 0 c, .string sep] w fun e w' => e = .returned (.string ⟨#[]⟩) ∧ w' = w := by
  go_enter Tryz.func91, Tryz.ntmps91
  go_wp2
  go_ret
  exact ⟨rfl, rfl⟩

theorem sJoin_all (v : Value) (t : List (List UInt8)) (w : World) (h : RdS v t w) (hl : t.length ≤ 33554432) (hJ : sumL t ≤ 33554432) :
    Calls Tryz.prog 91 #[v, .string ⟨#[44, 32]⟩] w fun e w' => e = .returned (.string (str (joinF t))) ∧ Below w.heap.size w w' := by
  obtain ⟨a, c, rfl, h⟩ := h
  rcases h with rfl | ⟨g, o, rfl, hc, hcell⟩
  · exact (sJoin_nil _ a c w).mono fun e w' ⟨he, hw⟩ => ⟨he, hw ▸ Below.refl _ _⟩
  · by_cases h0 : t = []
    · subst h0
      exact (sJoin_nil _ _ c w).mono fun e w' ⟨he, hw⟩ => ⟨he, hw ▸ Below.refl _ _⟩
    · have hpos : 0 < t.length := List.length_pos_iff.2 h0
      have hmap : (t.map str).map (fun x : ByteArray => x.data.toList) = t := by
        rw [List.map_map]
        conv => rhs; rw [← List.map_id t]
        apply List.map_congr_left
        intro x _
        exact str_list x
      have hlen := joinF_len t
      have h := Tryz.strings_Join g o c (t.map str) ⟨#[44, 32]⟩ w (fun j x hx => by
        have hj : j < t.length := by have := (List.getElem?_eq_some_iff.1 hx).1; simpa using this
        rw [hcell j hj]
        rw [List.getElem?_map, List.getElem?_eq_getElem hj] at hx
        rw [List.getD_eq_getElem?_getD, List.getElem?_eq_getElem hj]
        simpa using hx) (World.block_lt_of_cell? w _ (hcell 0 hpos)) (by rw [List.length_map]; omega) (by rw [List.length_map]; exact hc)
        (by rw [hmap, show (⟨#[44, 32]⟩ : ByteArray).data.toList = [44, 32] from rfl, join_eq]; omega)
      rw [hmap, show (⟨#[44, 32]⟩ : ByteArray).data.toList = [44, 32] from rfl, join_eq, List.length_map] at h
      exact h

set_option maxHeartbeats 1000000 in
theorem Join_any (v : Value) (t : List (List UInt8)) (w : World) (h : RdS v t w) (hl : t.length ≤ 33554432) (hJ : sumL t ≤ 33554432) :
    Calls Tryz.prog 54 #[v] w fun e w' => e = .returned (.string (str (joinF t))) ∧ Below w.heap.size w w' := by
  have HJ : Hid (Calls _ _ _ _ _) := sJoin_all v t w h hl hJ
  clear h hl hJ
  generalize str (joinF t) = J at *
  go_enter Tryz.func54, Tryz.ntmps54
  go_wp2_with fail
  refine HJ.out.mono ?_
  rintro e w2 ⟨rfl, hb2⟩
  go_wp2
  go_ret
  exact ⟨rfl, hb2⟩

/-- The lengths of texts, and one for each. -/
def sumV (t : List (List UInt8)) : Nat := (t.map fun x => x.length + 1).sum
theorem sumV_filter (s : List UInt8) : ∀ t : List Fl, sumV (vals s t) + 2 * (vals s t).length ≤ sumF t
  | [] => by simp [sumV, vals]
  | p :: t => by
    have ih := sumV_filter s t
    unfold vals at ih ⊢
    rw [List.filter_cons]
    by_cases h : alike s p = true
    · rw [if_pos h]
      simp only [sumV, sumF, szF, List.map_cons, List.sum_cons, List.length_cons] at ih ⊢
      omega
    · rw [if_neg h]
      simp only [sumF, List.map_cons, List.sum_cons] at ih ⊢
      omega
theorem sumL_V (t : List (List UInt8)) : sumL t + t.length = sumV t := by
  induction t with
  | nil => rfl
  | cons x t ih =>
    simp only [sumL, sumV, List.map_cons, List.sum_cons, List.length_cons] at ih ⊢
    omega

set_option maxRecDepth 100000 in
set_option maxHeartbeats 1000000 in
theorem Joined_any (v : Value) (t : List Fl) (s : List UInt8) (hs : s.length ≤ 1048576) (hS : sumF t ≤ 1048576) (w : World) (hrd : RdF v t w) :
    Calls Tryz.prog 34 #[v, .string (str s)] w fun e w' => e = .returned (.tuple #[.string (str (joinF (vals s t))), .bool (decide (0 < (vals s t).length))]) ∧ Below w.heap.size w w' := by
  have hlen := len_sumF t
  have HA : Hid (Calls _ _ _ _ _) := All_any v t s hs ((each_sumF t).mono hS) (by omega) w hrd
  have hv := sumV_filter s t
  have hv2 := sumL_V (vals s t)
  have HJ : Hid (∀ u w, RdS u (vals s t) w → Calls Tryz.prog 54 #[u] w fun e w' => e = .returned (.string (str (joinF (vals s t)))) ∧ Below w.heap.size w w') := fun u w h => Join_any u _ w h (by omega) (by omega)
  have hvl : (vals s t).length ≤ 1048576 := by omega
  obtain ⟨a, c, rfl, _⟩ := hrd
  clear hv hv2 hs
  generalize vals s t = T at *
  generalize str s = S at *
  generalize str (joinF T) = J at *
  go_enter Tryz.func34, Tryz.ntmps34
  go_wp2_with fail
  refine HA.out.mono ?_
  rintro e w1 ⟨u, rfl, ho, hb1⟩
  have HR : Hid (RdS u T w1) := ho.rd
  have HB1 : Hid (Below w.heap.size w w1) := hb1
  obtain ⟨a1, c1, rfl⟩ := ho.form
  clear ho hb1
  go_wp2_with fail
  refine (HJ.out _ _ HR.out).mono ?_
  rintro e w2 ⟨rfl, hb2⟩
  have HB2 : Hid (Below w.heap.size w w2) := bel_trans HB1.out hb2
  clear hb2
  go_wp2
  go_ret2
  exact ⟨by simp, HB2.out⟩

/-- The elements of values, one value's behind the other's. -/
def listV : List (List UInt8) → List (List UInt8) → List (List UInt8) × Int
  | [], acc => (acc, 0)
  | v :: r, acc => if (listR v).2 = 0 then listV r (acc ++ (listR v).1) else ([], (listR v).2)
def listF (s : List UInt8) (t : List Fl) : List (List UInt8) × Int := listV (vals s t) []
theorem dropS (t : List (List UInt8)) (k : Nat) (h : k < t.length) : t.drop k = t.getD k [] :: t.drop (k + 1) := by
  rw [List.drop_eq_getElem_cons h, List.getD_eq_getElem?_getD, List.getElem?_eq_getElem h]
  rfl
theorem listV_next (t : List (List UInt8)) (k : Nat) (h : k < t.length) (acc : List (List UInt8)) (hz : (listR (t.getD k [])).2 = 0) : listV (t.drop k) acc = listV (t.drop (k + 1)) (acc ++ (listR (t.getD k [])).1) := by
  rw [dropS t k h]
  show (if _ then _ else _) = _
  rw [if_pos hz]
theorem listV_bad (t : List (List UInt8)) (k : Nat) (h : k < t.length) (acc : List (List UInt8)) (hz : (listR (t.getD k [])).2 ≠ 0) : listV (t.drop k) acc = ([], (listR (t.getD k [])).2) := by
  rw [dropS t k h]
  show (if _ then _ else _) = _
  rw [if_neg hz]
theorem sumV_drop (t : List (List UInt8)) (k : Nat) (h : k < t.length) : sumV (t.drop k) = (t.getD k []).length + 1 + sumV (t.drop (k + 1)) := by
  rw [dropS t k h]
  simp [sumV]

set_option maxRecDepth 100000 in
set_option maxHeartbeats 2000000 in
theorem List6_any (v : Value) (t : List Fl) (s : List UInt8) (hs : s.length ≤ 1048576) (hS : sumF t ≤ 1048576) (w : World) (hrd : RdF v t w) :
    Calls Tryz.prog 215 #[v, .string (str s)] w fun e w' => ∃ u, e = .returned (.tuple #[u, .int .i64 (listF s t).2]) ∧ OwnS w.heap.size u (listF s t).1 w' ∧ Below w.heap.size w w' := by
  have hlen := len_sumF t
  have HA : Hid (Calls _ _ _ _ _) := All_any v t s hs ((each_sumF t).mono hS) (by omega) w hrd
  have hv := sumV_filter s t
  have hvl : (vals s t).length ≤ 1048576 := by omega
  have hvs : sumV (vals s t) ≤ 1048576 := by omega
  unfold listF
  obtain ⟨a, c, rfl, _⟩ := hrd
  clear hv hs
  generalize vals s t = T at *
  generalize str s = S at *
  go_enter Tryz.func215, Tryz.ntmps215
  go_wp2_with fail
  refine HA.out.mono ?_
  rintro e w1 ⟨u, rfl, ho, hb1⟩
  have HR : Hid (RdS u T w1) := ho.rd
  have HB1 : Hid (Below w.heap.size w w1) := hb1
  obtain ⟨a1, c1, rfl⟩ := ho.form
  clear ho hb1
  go_wp2
  go_loopw [6, 15] (fun ov i wr => ∃ (k : Nat) (acc : List (List UInt8)), k ≤ T.length ∧ i = .int .i64 k ∧ Hid (listV T [] = listV (T.drop k) acc) ∧ Hid (acc.length + sumV (T.drop k) ≤ 1048576) ∧ Hid (OwnS w1.heap.size ov acc wr) ∧ Hid (Below w1.heap.size w1 wr)) (fun _ i _ => T.length - (intOf i).toNat)
  case atStart => exact ⟨0, [], Nat.zero_le _, rfl, (rfl : listV T [] = listV T []), (by simpa using hvs : _ ≤ _), ownS_nil _ _, Below.refl _ _⟩
  case round =>
    obtain ⟨k, acc, hk, rfl, hst, hal, hown, hbl⟩ := hrel
    by_cases hlt : k < T.length
    · obtain ⟨a', c', e', hcs⟩ := HR.out.below hbl.out
      injection e' with e1 _ e2
      subst e1 e2
      rcases hcs with h | ⟨g, o, rfl, hlc, hcell⟩
      · rw [h] at hlt; simp at hlt
      have p0 := hcell k hlt
      have hsd := sumV_drop T k hlt
      have hsh := listR_short (T.getD k [])
      have hal' := hal.out
      have hgl : (T.getD k []).length ≤ 1048576 := by omega
      have HL : Hid (∀ w, Calls Tryz.prog 274 #[.string (str (T.getD k []))] w fun e w' => ∃ v, e = .returned (.tuple #[v, .int .i64 (listR (T.getD k [])).2]) ∧ OwnS w.heap.size v (listR (T.getD k [])).1 w' ∧ Below w.heap.size w w') := fun w => by
        have h := List_any (str (T.getD k [])) (by rw [str_size]; omega) w
        rw [str_list] at h
        exact h
      have NX : (listR (T.getD k [])).2 = 0 → Hid (listV T [] = listV (T.drop (k + 1)) (acc ++ (listR (T.getD k [])).1)) := fun h => hst.out.trans (listV_next T k hlt acc h)
      have BD : (listR (T.getD k [])).2 ≠ 0 → Hid (listV T [] = ([], (listR (T.getD k [])).2)) := fun h => hst.out.trans (listV_bad T k hlt acc h)
      have HN : Hid ((acc ++ (listR (T.getD k [])).1).length + sumV (T.drop (k + 1)) ≤ 1048576) := by
        show _ ≤ _
        rw [List.length_append]
        omega
      have hln : acc.length + (listR (T.getD k [])).1.length ≤ 4294967296 := by omega
      clear hcell hst hsd hsh hal' hgl
      generalize str (T.getD k []) = X at p0 HL
      generalize (listR (T.getD k [])).2 = z at HL NX BD
      generalize (listR (T.getD k [])).1 = L at HL NX HN hln
      by_cases hz : z = 0
      · have nx := NX hz
        subst hz
        clear NX BD
        go_wp2_with fail
        refine (HL.out _).mono ?_
        rintro e w2 ⟨y, rfl, hy, hb2⟩
        have HO2 : Hid (OwnS w1.heap.size _ acc w2) := hown.out.below hb2
        have HB2 : Hid (Below w1.heap.size w1 w2) := bel_trans hbl.out hb2
        have HY : Hid (RdS y L w2) := hy.rd
        have HYN : Hid (L = [] → y = .slice none 0 0 ∨ ∃ g c, y = .slice (some g) 0 c) := hy.nilish
        have hs2 : w1.heap.size ≤ w2.heap.size := HB2.out.size
        obtain ⟨ya, yc, rfl⟩ := hy.form
        clear hy hb2
        go_wp2_with (at_builtin; go_must (refine wp_appR rfl (.tmp 27) (.tmp 28) rfl w1.heap.size _ _ acc L rfl HO2.out rfl HY.out HYN.out hln hs2 ?_); intro v6 w6 hown6 hb6)
        have HO6 : Hid (OwnS w1.heap.size v6 (acc ++ L) w6) := hown6
        have HB6 : Hid (Below w1.heap.size w1 w6) := HB2.out.trans hb6
        clear hown6 hb6
        go_roundw
        case rel => exact ⟨k + 1, acc ++ L, by omega, by go_num, nx, HN, HO6, HB6⟩
        case measure => simp [intOf]; omega
      · have bd := BD hz
        have hzq : (z != 0) = true := by simp [hz]
        clear NX BD
        go_wp2_with fail
        refine (HL.out _).mono ?_
        rintro e w2 ⟨y, rfl, hy, hb2⟩
        have HB2 : Hid (Below w1.heap.size w1 w2) := bel_trans hbl.out hb2
        obtain ⟨ya, yc, rfl⟩ := hy.form
        clear hy hb2
        go_wp2
        go_ret2
        rw [bd.out]
        exact ⟨_, rfl, ownS_nil _ _, HB1.out.trans (HB2.out.mono HB1.out.size)⟩
    · have HE : Hid (listV T [] = (acc, 0)) := by
        show _ = _
        rw [hst.out, List.drop_eq_nil_of_le (by omega)]
        rfl
      go_wp2
      go_ret2
      rw [HE.out]
      exact ⟨_, rfl, hown.out.lower HB1.out.size, HB1.out.trans (hbl.out.mono HB1.out.size)⟩

end Fd
end Go.Proofs.YtlfobdjbnpgchaaGreatDoor
