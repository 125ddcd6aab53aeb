/-
  field.Add, field.Set.
-/
import Derived.Test.YtggmidkmpgjnoaaDoorFIg
import Derived.Test.YtggmidkmpgjnoaaDoorMgN
import Derived.Test.YtggmidkmpgjnoaaDoorMgO
import Derived.Deep.RegionLaw
set_option linter.unusedVariables false
set_option linter.unusedSimpArgs false
namespace Go.Proofs.YtggmidkmpgjnoaaDoor
open Go.RowKit Go.Shelf
namespace Fd
open Oc Tg

def anyF (p : Fl) : Bool := true
set_option maxRecDepth 100000 in
set_option maxHeartbeats 2000000 in
theorem kept_all (v : Value) (t : List Fl) (hM : Each 1048576 t) (hl : t.length ≤ 16777216) (w : World) (hrd : RdF v t w)
    (HK : Hid (∀ (p : Fl) (W : World), p.1.length ≤ 1048576 → p.2.length ≤ 1048576 → Below w.heap.size w W → Calls Tryd.prog 25 #[.agg #[.string (str p.1), .string (str p.2)]] W fun e w' => e = .returned (.bool (anyF p)) ∧ Below (World.heap W).size W w')) :
    Calls Tryd.prog 24 #[v, .func (.func 25) #[] #[]] w fun e w' => ∃ u, e = .returned u ∧ OwnF 46 w.heap.size u (t.filter anyF) w' ∧ Below w.heap.size w w' := by
  have HR : Hid (RdF v t w) := hrd
  have HM : Hid (Each 1048576 t) := hM
  obtain ⟨a, c, rfl, _⟩ := hrd
  clear hM
  go_enter Tryd.func24, Tryd.ntmps24
  go_wp2
  go_loopw [5, 10] (fun ov i wr => ∃ k : Nat, k ≤ t.length ∧ i = .int .i64 k ∧ Hid (OwnF 46 w.heap.size ov ((t.take k).filter anyF) wr) ∧ Hid (Below w.heap.size w wr)) (fun _ i _ => t.length - (intOf i).toNat)
  case atStart => exact ⟨0, Nat.zero_le _, rfl, ownF_nil _ _ _, Below.refl _ _⟩
  case round =>
    obtain ⟨k, hk, rfl, hown, hbl⟩ := hrel
    have hsz := hbl.out.size
    by_cases hlt : k < t.length
    · obtain ⟨a', c', e', hcs⟩ := HR.out.below hbl.out
      injection e' with e1 _ e2
      subst e1 e2
      rcases hcs with h | ⟨g, o, rfl, hlc, hcell⟩
      · rw [h] at hlt; simp at hlt
      obtain ⟨p0, p1⟩ := hcell k hlt
      have hEk := HM.out.at k hlt
      have TT : anyF (nth t k) = true → Hid ((t.take (k + 1)).filter anyF = (t.take k).filter anyF ++ [nth t k]) := fun h => by
        have := filter_take anyF t k hlt
        rw [if_pos h] at this
        exact this
      have FF : anyF (nth t k) = false → Hid ((t.take (k + 1)).filter anyF = (t.take k).filter anyF) := fun h => by
        have := filter_take anyF t k hlt
        rw [if_neg (by rw [h]; simp)] at this
        exact this
      have hlk : ((t.take k).filter anyF).length + 1 ≤ 2147483648 := by
        have := List.length_filter_le anyF (t.take k)
        rw [List.length_take] at this
        omega
      have hb1 : Below wr.heap.size wr (wr.alloc (.cells #[.string (str (nth t k).1), .string (str (nth t k).2)] 46)) := (Below.refl _ wr).alloc (Nat.le_refl _) _
      have HB1 : Hid (Below w.heap.size w (wr.alloc (.cells #[.string (str (nth t k).1), .string (str (nth t k).2)] 46))) := bel_trans hbl.out hb1
      have HO1 : Hid (OwnF 46 w.heap.size _ ((t.take k).filter anyF) (wr.alloc (.cells #[.string (str (nth t k).1), .string (str (nth t k).2)] 46))) := hown.out.below hb1
      have HC : Hid (Calls Tryd.prog 25 #[.agg #[.string (str (nth t k).1), .string (str (nth t k).2)]] (wr.alloc (.cells #[.string (str (nth t k).1), .string (str (nth t k).2)] 46)) fun e w' => e = .returned (.bool (anyF (nth t k))) ∧ Below (World.heap (wr.alloc (.cells #[.string (str (nth t k).1), .string (str (nth t k).2)] 46))).size (wr.alloc (.cells #[.string (str (nth t k).1), .string (str (nth t k).2)] 46)) w') := HK.out _ _ hEk.1 hEk.2 HB1.out
      clear hcell hb1 hEk
      generalize anyF (nth t k) = b at HC TT FF
      generalize nth t k = p at *
      obtain ⟨pn, pv⟩ := p
      dsimp only at p0 p1 HB1 HO1 HC TT
      generalize hn : str pn = N at *
      generalize hv : str pv = V at *
      have HN : Hid (N = str pn) := hn.symm
      have HV : Hid (V = str pv) := hv.symm
      clear hn hv
      cases b with
      | true =>
        have tt := TT rfl
        clear TT FF
        go_wp2_with fail
        refine HC.out.mono ?_
        rintro e w2 ⟨rfl, hb2⟩
        have c0 : w2.cell? ⟨wr.heap.size, 0, none⟩ = some (.string N) := by rw [hb2.cell (by simp)]; simp
        have c1 : w2.cell? ⟨wr.heap.size, 1, none⟩ = some (.string V) := by rw [hb2.cell (by simp)]; simp
        have HB2 : Hid (Below w.heap.size w w2) := bel_trans HB1.out hb2
        have HO2 : Hid (OwnF 46 w.heap.size _ ((t.take k).filter anyF) w2) := HO1.out.below hb2
        have hs2 : w.heap.size ≤ w2.heap.size := HB2.out.size
        clear hb2
        go_wp2_with (at_builtin; go_must (refine wp_appF 46 22 infoF Tryd.underlying22 rfl (.tmp 17) (.tmp 19) rfl w.heap.size _ ((t.take k).filter anyF) _ (pn, pv) _ _ HN.out HV.out rfl HO2.out _ rfl (by simp) hlk hs2 ?_); intro v6 w6 hown6 hb6)
        have HO6 : Hid (OwnF 46 w.heap.size v6 ((t.take (k + 1)).filter anyF) w6) := (by rw [tt.out]; exact hown6 : OwnF _ _ v6 _ w6)
        have HB6 : Hid (Below w.heap.size w w6) := HB2.out.trans hb6
        clear hown6 hb6
        go_roundw
        case rel => exact ⟨k + 1, by omega, by go_num, HO6, HB6⟩
        case measure => simp [intOf]; omega
      | false =>
        have ff := FF rfl
        clear TT FF
        go_wp2_with fail
        refine HC.out.mono ?_
        rintro e w2 ⟨rfl, hb2⟩
        have HB2 : Hid (Below w.heap.size w w2) := bel_trans HB1.out hb2
        have HO2 : Hid (OwnF 46 w.heap.size _ ((t.take (k + 1)).filter anyF) w2) := (by rw [ff.out]; exact HO1.out.below hb2 : OwnF _ _ _ _ w2)
        clear hb2
        go_wp2
        go_roundw
        case rel => exact ⟨k + 1, by omega, by go_num, HO2, HB2⟩
        case measure => simp [intOf]; omega
    · obtain rfl : k = t.length := by omega
      rw [List.take_length] at hown
      go_wp2
      go_ret
      exact ⟨_, rfl, hown.out, hbl.out⟩


theorem filter_any (t : List Fl) : t.filter anyF = t := by rw [List.filter_eq_self]; intro a _; rfl
set_option maxHeartbeats 400000 in
theorem anyField_any (p : Fl) (w : World) : Calls Tryd.prog 25 #[.agg #[.string (str p.1), .string (str p.2)]] w fun e w' => e = .returned (.bool (anyF p)) ∧ Below w.heap.size w w' := by
  unfold anyF
  generalize str p.1 = a
  generalize str p.2 = b
  go_enter Tryd.func25, Tryd.ntmps25
  go_wp2
  go_ret
  exact ⟨rfl, (Below.refl _ w).alloc (Nat.le_refl _) _⟩
theorem kept_any (v : Value) (t : List Fl) (hM : Each 1048576 t) (hl : t.length ≤ 16777216) (w : World) (hrd : RdF v t w) :
    Calls Tryd.prog 24 #[v, .func (.func 25) #[] #[]] w fun e w' => ∃ u, e = .returned u ∧ OwnF 46 w.heap.size u t w' ∧ Below w.heap.size w w' := by
  have h := kept_all v t hM hl w hrd (fun p W _ _ _ => anyField_any p W)
  rw [filter_any] at h
  exact h

/-- A field that lies somewhere is appended. -/
theorem step_appG {ops : Array Oper} {o : Oper} {a : Act} {K : Act → World → Prop} {Q : Exit → Act → World → Prop} {E : Prop} (T S : Nat) (hinfo : (Tryd.prog.info? T).map (fun i => (i.zero, i.size, i.bytes)) = some (some (.agg #[.string ⟨#[]⟩, .string ⟨#[]⟩]), 2, 32))
    (hund : Tryd.prog.underlying S = some (.slice T)) (hgd : o.guard = none) (s x : Operand)
    (ho : o.op = .call { callee := .builtin .append, args := #[s, x], argTypes := #[S, S] }) (B : Nat) (v : Value) (t : List Fl) (W : World) (p : Fl)
    (hs : a.eval s = v) (hown : OwnF T B v t W) (vb : Nat) (hx : a.eval x = .slice (some ⟨vb, 0, none⟩) 1 1) (c0 : W.cell? ⟨vb, 0, none⟩ = some (.string (str p.1))) (c1 : W.cell? ⟨vb, 1, none⟩ = some (.string (str p.2))) (hlen : t.length + 1 ≤ 2147483648) (hB : B ≤ W.heap.size)
    (h : ∀ v' w', OwnF T B v' (t ++ [p]) w' → Below B W w' → K (a.put o.dst v') w') : if Region.wanted o (yielded ops a.tmps) = true then Oper.wp Tryd.prog o a W K Q else E := by
  have hw : Region.wanted o (yielded ops a.tmps) = true := by simp [Region.wanted, hgd]
  rw [if_pos hw]
  obtain ⟨i0, hi, hz0, hz1, hz2⟩ := info_parts hinfo
  refine wp_append_own _ s x S ho B T i0 (.agg #[.string ⟨#[]⟩, .string ⟨#[]⟩]) 2 32 hund hi hz0 hz1 hz2 rfl (by decide) v t.length _ hs hown ⟨vb, 0, none⟩ 1 1 (encF1 p) hx rfl ?_ ?_ ?_ ?_ hB ?_
  · intro j u hj
    have ea : Addr.add ⟨vb, 0, none⟩ j = ⟨vb, j, none⟩ := by unfold Addr.add; split <;> simp_all
    rw [ea]
    unfold encF1 at hj
    match j, hj with
    | 0, hj => simp at hj; rw [← hj]; exact c0
    | 1, hj => simp at hj; rw [← hj]; exact c1
  · intro u hu
    unfold encF1 at hu
    simp at hu
    rcases hu with rfl | rfl <;> rfl
  · unfold maxLen; omega
  · omega
  · intro v' w' h1 h2 _
    refine h v' w' ?_ ((Below.refl B W).grown h2 hB (fun k hk => (World.ownsRow.lt hown k hk).1))
    unfold OwnF
    rw [encF_snoc, List.length_append]
    exact h1

theorem OwnF.low {T B B' : Nat} {v : Value} {t : List Fl} {w : World} (h : OwnF T B v t w) (hB : B' ≤ B) : OwnF T B' v t w := by
  refine ⟨h.1, ?_⟩
  rcases h.2 with hn | ⟨g, cap, cur, rfl, hb, rest⟩
  · exact .inl hn
  · exact .inr ⟨g, cap, cur, rfl, by omega, rest⟩
theorem arm5 {w w2 W w5 : World} {g T : Nat} {u : Value} {t : List Fl} {x0 x1 : Value} (hg2 : g < w2.heap.size) (HB02 : Below g w w2) (hW : Below w2.heap.size w2 W) (hp : OwnF T W.heap.size u t w5) (hb5 : Below W.heap.size W w5) (p0 : w2.cell? ⟨g, 0, none⟩ = some x0) (p1 : w2.cell? ⟨g, 1, none⟩ = some x1) :
    w5.cell? ⟨g, 0, none⟩ = some x0 ∧ w5.cell? ⟨g, 1, none⟩ = some x1 ∧ OwnF T g u t w5 ∧ Below g w w5 ∧ g ≤ w5.heap.size := by
  have s1 := hW.size
  have s2 := hb5.size
  have hb := bel_trans hW hb5
  exact ⟨(hb.cell (p := ⟨g, 0, none⟩) hg2).trans p0, (hb.cell (p := ⟨g, 1, none⟩) hg2).trans p1, hp.low (by omega), HB02.trans (hb.mono (by omega)), by omega⟩
/-- What Add answers. -/
def addF (t : List Fl) (p : Fl) : List Fl × Int := if chkZ p = 0 then (if 100 ≤ t.length then ([], 65) else (t ++ [p], 0)) else ([], chkZ p)

set_option maxRecDepth 100000 in
set_option maxHeartbeats 2000000 in
theorem Add_any (v : Value) (t : List Fl) (n x : List UInt8) (hn : n.length ≤ 1048576) (hx : x.length ≤ 1048576) (hM : Each 1048576 t) (hl : t.length ≤ 16777216) (w : World) (hrd : RdF v t w) (tab : Tab w) :
    Calls Tryd.prog 8 #[v, .string (str n), .string (str x)] w fun e w' => ∃ u, e = .returned (.tuple #[u, .int .i64 (addF t (n, x)).2]) ∧ OwnF 46 w.heap.size u (addF t (n, x)).1 w' ∧ Below w.heap.size w w' := by
  obtain ⟨w1, hw1⟩ : ∃ w1, w1 = w.alloc (.cells #[.string (str n), .string (str x)] 46) := ⟨_, rfl⟩
  have hb1 : Below w.heap.size w w1 := by rw [hw1]; exact (Below.refl _ w).alloc (Nat.le_refl _) _
  have hp1 : w1.heap[w.heap.size]? = some (.cells #[.string (str n), .string (str x)] 46 (0, 0)) := by rw [hw1]; exact heap_alloc_new w _
  have HC : Hid (Calls _ _ _ w1 _) := check_any (n, x) (by unfold maxLen; dsimp only; omega) (by unfold maxLen; dsimp only; omega) w1 (tab.below hb1 (Nat.le_refl _))
  have q0 : w1.cell? ⟨w.heap.size, 0, none⟩ = some (.string (str n)) := by rw [Lib.cell_of_heap hp1]; rfl
  have q1 : w1.cell? ⟨w.heap.size, 1, none⟩ = some (.string (str x)) := by rw [Lib.cell_of_heap hp1]; rfl
  have hlt1 : w.heap.size < w1.heap.size := (Array.getElem?_eq_some_iff.1 hp1).1
  have HK : Hid (∀ W, Below w1.heap.size w1 W → Calls _ _ _ W _) := fun W hb => kept_any v t hM hl W ((hrd.below hb1).below hb)
  have HB1 : Hid (Below w.heap.size w w1) := hb1
  have HA0 : Hid (chkZ (n, x) ≠ 0 → addF t (n, x) = ([], chkZ (n, x))) := (fun h => by unfold addF; rw [if_neg h] : _ → _)
  have HA1 : Hid (chkZ (n, x) = 0 → 100 ≤ t.length → addF t (n, x) = ([], 65)) := (fun h h2 => by unfold addF; rw [if_pos h, if_pos h2] : _ → _)
  have HA2 : Hid (chkZ (n, x) = 0 → ¬ 100 ≤ t.length → addF t (n, x) = (t ++ [(n, x)], 0)) := (fun h h2 => by unfold addF; rw [if_pos h, if_neg h2] : _ → _)
  obtain ⟨va, vc, rfl, _⟩ := hrd
  clear hM tab hb1 hp1
  generalize addF t (n, x) = AF at *
  generalize chkZ (n, x) = C at *
  generalize hsn : str n = N at *
  generalize hsx : str x = X at *
  have HN : Hid (N = str n) := hsn.symm
  have HX : Hid (X = str x) := hsx.symm
  clear hsn hsx
  generalize hgb : w.heap.size = g at *
  go_enter Tryd.func8, Tryd.ntmps8
  go_wp2_with fail
  rw [← hw1]
  clear hw1 hgb
  refine HC.out.mono ?_
  rintro e w2 ⟨rfl, hb2⟩
  have HB2 : Hid (Below w1.heap.size w1 w2) := hb2
  clear hb2
  by_cases hC : C = 0
  · subst hC
    by_cases hmany : 100 ≤ t.length
    · have hd : decide ((100 : Int) ≤ (t.length : Int)) = true := decide_eq_true (by omega)
      have hAF := HA1.out rfl hmany
      have HAF : Hid (AF = _) := hAF
      go_wp2
      go_ret2
      rw [HAF.out]
      exact ⟨_, rfl, ownF_nil _ _ _, HB1.out.trans (HB2.out.mono (by omega))⟩
    · have hd : decide ((100 : Int) ≤ (t.length : Int)) = false := decide_eq_false (by omega)
      have HAF : Hid (AF = _) := HA2.out rfl hmany
      have p0 : w2.cell? ⟨g, 0, none⟩ = some (.string N) := (HB2.out.cell hlt1).trans q0
      have p1 : w2.cell? ⟨g, 1, none⟩ = some (.string X) := (HB2.out.cell hlt1).trans q1
      go_wp2_with fail
      have hg2 : g < w2.heap.size := by have := HB2.out.size; omega
      have HB02 : Hid (Below g w w2) := HB1.out.trans (HB2.out.mono (by omega))
      go_region_law (first
        | (go_simp; go_at_call 24; refine (HK.out _ (bel_trans HB2.out (((Below.refl _ _).alloc (Nat.le_refl _) _).drew))).mono ?_; rintro e w5 ⟨u5, rfl, hp5, hb5⟩; dsimp only; obtain ⟨c0, c1, ho5, hB5, hz5⟩ := arm5 hg2 HB02.out (((Below.refl _ _).alloc (Nat.le_refl _) _).drew) hp5 hb5 p0 p1; have d0 : w5.cell? ⟨w2.heap.size, 0, none⟩ = some (.string N) := (by rw [hb5.cell (by simp)]; simp); have d1 : w5.cell? ⟨w2.heap.size, 1, none⟩ = some (.string X) := (by rw [hb5.cell (by simp)]; simp))
        | (go_simp; go_at_call 24; refine (HK.out _ (bel_trans HB2.out (Below.refl _ _).drew)).mono ?_; rintro e w5 ⟨u5, rfl, hp5, hb5⟩; dsimp only; obtain ⟨c0, c1, ho5, hB5, hz5⟩ := arm5 hg2 HB02.out (Below.refl _ _).drew hp5 hb5 p0 p1)
        | (refine step_appG 46 22 infoF Tryd.underlying22 rfl (.tmp 22) (.tmp 24) rfl g _ t _ (n, x) (by simp [Act.eval, Act.put]) (ho5.below ((Below.refl _ _).alloc (Nat.le_refl _) _)) w5.heap.size (by simp [Act.eval, Act.put]) (by dsimp only; rw [← HN.out]; simp) (by dsimp only; rw [← HX.out]; simp) (by omega) (by simp; omega) ?_; intro v7 w7 hown7 hb7)
        | (refine step_appG 46 22 infoF Tryd.underlying22 rfl (.tmp 22) (.tmp 24) rfl g _ t _ (n, x) (by simp [Act.eval, Act.put]) ho5 w2.heap.size (by simp [Act.eval, Act.put]) (by dsimp only; rw [← HN.out]; exact d0) (by dsimp only; rw [← HX.out]; exact d1) (by omega) hz5 ?_; intro v7 w7 hown7 hb7))
      all_goals
        have HR7 : Hid (OwnF 46 g v7 (t ++ [(n, x)]) w7) := hown7
        have HB7 : Hid (Below g w w7) := (by first | exact hB5.trans hb7 | exact (hB5.alloc hz5 _).trans hb7 : Below _ _ _)
        clear hown7 hb7
        go_wp2
        go_ret2
        rw [HAF.out]
        exact ⟨_, rfl, HR7.out, HB7.out⟩
  · have HAF : Hid (AF = _) := HA0.out hC
    have hne : (C != 0) = true := by simpa using hC
    go_wp2
    go_ret2
    rw [HAF.out]
    exact ⟨_, rfl, ownF_nil _ _ _, HB1.out.trans (HB2.out.mono (by omega))⟩

end Fd
end Go.Proofs.YtggmidkmpgjnoaaDoor
