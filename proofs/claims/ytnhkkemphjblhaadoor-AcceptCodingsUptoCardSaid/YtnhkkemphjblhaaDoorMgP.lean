/- Several texts as one. -/
import Derived.Test.YtnhkkemphjblhaaDoorMgO
import Derived.Test.YtnhkkemphjblhaaDoorMgB
import Derived.Test.YtnhkkemphjblhaaDoorMgN
import Derived.Deep.RegionLaw
import Derived.Laws.AppendOwnNone
import Derived.Test.YtnhkkemphjblhaaDoorMgM
/-
  The document's choice of a coding; AcceptCodings.
-/
set_option linter.unusedVariables false
set_option linter.unusedSimpArgs false
namespace Go.Proofs.YtnhkkemphjblhaaDoor
open Go.RowKit Go.Shelf
namespace Ac
open Oc Tg

theorem lowI_star (c : Int) (h : lowI c = 42) : c = 42 := by unfold lowI at h; (repeat' split at h) <;> omega
theorem low_star {x : List UInt8} (h : lowS (str x) = lowS (str [42])) : x = [42] := by
  unfold lowS at h
  have h := str_inj h
  rw [str_list, str_list] at h
  have hl := congrArg List.length h
  simp only [lower, List.length_map, List.length_singleton] at hl
  match x, hl with
  | [c], _ =>
    have h1 : lowB c = lowB 42 := by simpa [lower] using h
    have h2 := lowB_int c
    rw [h1, lowB_int] at h2
    have h3 : lowI ((42 : UInt8).toNat : Int) = 42 := by decide
    rw [h3] at h2
    have h4 := lowI_star _ h2.symm
    have h5 : c.toNat = 42 := by omega
    congr 1
    exact UInt8.toNat_inj.1 h5
theorem al_star (p : Wt) : alW [42] p = ((str p.1).toList == [42]) := by
  have e : ((str p.1).toList == [42]) = decide (str p.1 = str [42]) := by
    rw [← eq_toList, show (str [42]).toList = [42] by decide +kernel]
  rw [e]
  unfold alW
  rw [Bool.eq_iff_iff, decide_eq_true_iff, decide_eq_true_iff]
  exact ⟨fun h => by rw [low_star h], fun h => by rw [h]⟩

set_option maxRecDepth 100000 in
set_option maxHeartbeats 4000000 in
theorem rCodingLiking_any (v : Value) (t : List Wt) (g : Bool) (s : List UInt8) (hs : s.length ≤ 1048576) (hM : EachW 1048576 t) (hl : t.length ≤ 16777216) (w : World) (hrd : RdW v t w) :
    Calls Tryd.prog 34 #[v, .bool g, .string (str s)] w fun e w' => e = .returned (.int .i64 (likG g t s)) ∧ Below w.heap.size w w' := by
  have HR : Hid (RdW v t w) := hrd
  have HM : Hid (EachW 1048576 t) := hM
  have HS : Hid (∀ W, Calls Tryd.prog 30 #[.string (str s), .string (str identL)] W fun e w' => e = .returned (.bool (decide (lowS (str s) = lowS (str identL)))) ∧ Below (World.heap W).size W w') := fun W => rSame_any _ _ (by rw [str_size]; unfold maxLen; omega) (by rw [str_size]; decide) W
  have HL : Hid (∀ x : Int, qof t s = some x → likC t s = x) := fun x h => by unfold likC; rw [h]
  have HL1 : Hid (∀ x : Int, qof t s = none → qof t [42] = some x → likC t s = x) := fun x h h' => by unfold likC; rw [h, h']
  have HL2 : Hid (qof t s = none → qof t [42] = none → likC t s = if lowS (str s) = lowS (str identL) then 1 else 0) := fun h h' => by unfold likC; rw [h, h']
  obtain ⟨a, c, rfl, _⟩ := hrd
  clear hM
  cases g with
  | false =>
    go_enter Tryd.func34, Tryd.ntmps34
    go_wp2
    go_ret
    exact ⟨rfl, Below.refl _ _⟩
  | true =>
    have HG : Hid (likG true t s = likC t s) := (rfl : _ = _)
    go_enter Tryd.func34, Tryd.ntmps34
    go_wp2
    go_loopw [7] (fun i wr => ∃ k : Nat, k ≤ t.length ∧ i = .int .i64 k ∧ Hid (∀ j, j < k → alW s (nthW t j) = false) ∧ Hid (Below w.heap.size w wr)) (fun i _ => t.length - (intOf i).toNat)
    case atStart => exact ⟨0, Nat.zero_le _, rfl, (fun j hj => absurd hj (Nat.not_lt_zero _) : ∀ j, j < 0 → _), Below.refl _ _⟩
    case round =>
      obtain ⟨k, hk, rfl, hall, hbl⟩ := hrel
      have hsz := hbl.out.size
      by_cases hlt : k < t.length
      · obtain ⟨a', c', e', hcs⟩ := HR.out.below hbl.out
        injection e' with e1 _ e2
        subst e1 e2
        rcases hcs with h | ⟨g, o, rfl, hlc, hcell⟩
        · rw [h] at hlt; simp at hlt
        obtain ⟨p0, p1⟩ := hcell k hlt
        have hEk := HM.out.at hlt
        have HC : Hid (∀ W, Calls Tryd.prog 30 #[.string (str (nthW t k).1), .string (str s)] W fun e w' => e = .returned (.bool (alW s (nthW t k))) ∧ Below (World.heap W).size W w') := fun W => rSame_any _ _ (by rw [str_size]; unfold maxLen; omega) (by rw [str_size]; unfold maxLen; omega) W
        have TT : alW s (nthW t k) = true → Hid (likC t s = (nthW t k).2) := fun h => HL.out _ (qof_at hlt h hall.out)
        have FF : alW s (nthW t k) = false → Hid (∀ j, j < k + 1 → alW s (nthW t j) = false) := fun h => snoc_false (f := fun j => alW s (nthW t j)) hall.out h
        clear hcell hEk hall
        generalize alW s (nthW t k) = b at HC TT FF
        generalize str (nthW t k).1 = N at *
        generalize (nthW t k).2 = q at *
        cases b with
        | true =>
          have tt := TT rfl
          clear TT FF
          go_wp2_with fail
          refine (HC.out _).mono ?_
          rintro e w2 ⟨rfl, hb2⟩
          have c1 : w2.cell? ⟨g, o + k * 2 + 1, none⟩ = some (.int .i64 q) := (hb2.cell (p := ⟨g, o + k * 2 + 1, none⟩) (World.block_lt_of_cell? _ _ p1)).trans p1
          have HB2 : Hid (Below w.heap.size w w2) := bel_trans hbl.out hb2
          clear hb2
          go_wp2
          go_ret
          refine ⟨?_, HB2.out⟩
          rw [HG.out, tt.out]
          rfl
        | false =>
          have ff := FF rfl
          clear TT FF
          go_wp2_with fail
          refine (HC.out _).mono ?_
          rintro e w2 ⟨rfl, hb2⟩
          have HB2 : Hid (Below w.heap.size w w2) := bel_trans hbl.out hb2
          clear hb2
          go_wp2
          go_roundw
          case rel => exact ⟨k + 1, by omega, by go_num, ff, HB2⟩
          case measure => simp [intOf]; omega
      · obtain rfl : k = t.length := by omega
        have HN : Hid (qof t s = none) := qof_none hall.out
        clear hall
        obtain ⟨wo, rfl⟩ : ∃ wo, wo = wr := ⟨_, rfl⟩
        go_wp2
        go_loopw [8] (fun i wr => ∃ k : Nat, k ≤ t.length ∧ i = .int .i64 k ∧ Hid (∀ j, j < k → alW [42] (nthW t j) = false) ∧ wr = wo) (fun i _ => t.length - (intOf i).toNat)
        case atStart => exact ⟨0, Nat.zero_le _, rfl, (fun j hj => absurd hj (Nat.not_lt_zero _) : ∀ j, j < 0 → _), rfl⟩
        case round =>
          obtain ⟨k, hk, rfl, hall, rfl⟩ := hrel
          by_cases hlt : k < t.length
          · obtain ⟨a', c', e', hcs⟩ := HR.out.below hbl.out
            injection e' with e1 _ e2
            subst e1 e2
            rcases hcs with h | ⟨g, o, rfl, hlc, hcell⟩
            · rw [h] at hlt; simp at hlt
            obtain ⟨p0, p1⟩ := hcell k hlt
            have TT : alW [42] (nthW t k) = true → Hid (likC t s = (nthW t k).2) := fun h => HL1.out _ HN.out (qof_at hlt h hall.out)
            have FF : alW [42] (nthW t k) = false → Hid (∀ j, j < k + 1 → alW [42] (nthW t j) = false) := fun h => snoc_false (f := fun j => alW [42] (nthW t j)) hall.out h
            rw [al_star] at TT FF
            clear hcell hall
            generalize str (nthW t k).1 = N at *
            generalize (nthW t k).2 = q at *
            cases hb : (N.toList == [42]) with
            | true =>
              have tt := TT hb
              clear TT FF
              go_wp2
              go_ret
              refine ⟨?_, hbl.out⟩
              rw [HG.out, tt.out]
              rfl
            | false =>
              have ff := FF hb
              clear TT FF
              go_wp2
              go_roundw
              case rel => exact ⟨k + 1, by omega, by go_num, ff, by simp⟩
              case measure => simp [intOf]; omega
          · obtain rfl : k = t.length := by omega
            have HLL : Hid (likC t s = if lowS (str s) = lowS (str identL) then 1 else 0) := HL2.out HN.out (qof_none hall.out)
            clear hall
            go_wp2_with fail
            rw [show (⟨#[105, 100, 101, 110, 116, 105, 116, 121]⟩ : ByteArray) = str identL from rfl]
            refine (HS.out _).mono ?_
            rintro e w2 ⟨rfl, hb2⟩
            have HB2w : Hid (Below w.heap.size w w2) := bel_trans hbl.out hb2
            clear hb2
            by_cases hd : lowS (str s) = lowS (str identL)
            · have hd' : decide (lowS (str s) = lowS (str identL)) = true := decide_eq_true hd
              have HD : Hid (lowS (str s) = lowS (str identL)) := hd
              clear hd
              rw [hd']
              go_wp2
              go_ret
              exact ⟨by rw [HG.out, HLL.out, if_pos HD.out]; rfl, HB2w.out⟩
            · have hd' : decide (lowS (str s) = lowS (str identL)) = false := decide_eq_false hd
              have HD : Hid (¬ lowS (str s) = lowS (str identL)) := hd
              clear hd
              rw [hd']
              go_wp2
              go_ret
              exact ⟨by rw [HG.out, HLL.out, if_neg HD.out]; rfl, HB2w.out⟩

theorem qs_take {os : List (List UInt8)} (f : List UInt8 → Int) {k : Nat} (h : k < os.length) : (os.take (k + 1)).map f = (os.take k).map f ++ [f (os.getD k [])] := by
  rw [List.take_add_one, List.getElem?_eq_getElem h, List.map_append, List.getD_eq_getElem?_getD, List.getElem?_eq_getElem h]
  rfl
theorem bst_map (os : List (List UInt8)) (f : List UInt8 → Int) : ∀ k, k ≤ os.length → bst (fun j => (os.map f).getD j 0) k = bst (fun j => f (os.getD j [])) k
  | 0, _ => rfl
  | k + 1, h => by
    have ih := bst_map os f k (by omega)
    have e : (os.map f).getD k 0 = f (os.getD k []) := by
      rw [List.getD_eq_getElem?_getD, List.getElem?_map, List.getElem?_eq_getElem (by omega), List.getD_eq_getElem?_getD, List.getElem?_eq_getElem (by omega)]
      rfl
    show (if (bst _ k).2 < (os.map f).getD k 0 then ((k : Int), (os.map f).getD k 0) else bst _ k) = _
    rw [ih, e]
    rfl

set_option maxRecDepth 100000 in
set_option maxHeartbeats 4000000 in
theorem rChooseCoding_any (v u : Value) (t : List Wt) (os : List (List UInt8)) (g : Bool) (hos : ∀ x ∈ os, x.length ≤ 1048576) (ho : os.length ≤ 16777216) (hM : EachW 1048576 t) (hl : t.length ≤ 16777216) (w : World) (hv : RdW v t w) (hu : RdS u os w) :
    Calls Tryd.prog 16 #[v, .bool g, u] w fun e w' => e = .returned (.int .i64 (bst (fun k => likG g t (os.getD k [])) os.length).1) ∧ Below w.heap.size w w' := by
  have HV : Hid (RdW v t w) := hv
  have HU : Hid (RdS u os w) := hu
  have HC : Hid (∀ W x, x ∈ os → Below w.heap.size w W → Calls Tryd.prog 34 #[v, .bool g, .string (str x)] W fun e w' => e = .returned (.int .i64 (likG g t x)) ∧ Below (World.heap W).size W w') := fun W x hx b => rCodingLiking_any v t g x (hos x hx) hM hl W (hv.below b)
  have HE : Hid (bst (fun j => (os.map (likG g t)).getD j 0) os.length = bst (fun k => likG g t (os.getD k [])) os.length) := bst_map os (likG g t) os.length (Nat.le_refl _)
  obtain ⟨a, c, rfl, _⟩ := hu
  obtain ⟨av, cv, rfl, _⟩ := hv
  clear hos hM
  go_enter Tryd.func16, Tryd.ntmps16
  go_wp2
  go_loopw [7, 8] (fun ov i wr => ∃ k : Nat, k ≤ os.length ∧ i = .int .i64 k ∧ Hid (OwnI w.heap.size ov ((os.take k).map (likG g t)) wr) ∧ Hid (Below w.heap.size w wr)) (fun _ i _ => os.length - (intOf i).toNat)
  case atStart => exact ⟨0, Nat.zero_le _, rfl, ownI_empty w (Nat.le_refl _), (Below.refl _ w).alloc (Nat.le_refl _) _⟩
  case round =>
    obtain ⟨k, hk, rfl, hown, hbl⟩ := hrel
    have hsz := hbl.out.size
    by_cases hlt : k < os.length
    · obtain ⟨a', c', e', hcs⟩ := HU.out.below hbl.out
      injection e' with e1 _ e2
      subst e1 e2
      rcases hcs with h | ⟨g2, o2, rfl, hlc, hcell⟩
      · rw [h] at hlt; simp at hlt
      have d := hcell k hlt
      have hin : os.getD k [] ∈ os := by
        rw [List.getD_eq_getElem?_getD, List.getElem?_eq_getElem hlt]
        exact List.getElem_mem hlt
      have HK := HC.out wr _ hin hbl.out
      have HK' : Hid (Calls _ _ _ _ _) := HK
      have HT : Hid (_ = _) := qs_take (likG g t) hlt
      have hlk : ((os.take k).map (likG g t)).length + 1 ≤ 2147483648 := by rw [List.length_map, List.length_take]; omega
      clear hcell hin HK
      generalize likG g t (os.getD k []) = Y at *
      generalize str (os.getD k []) = X at *
      go_wp2_with fail
      refine HK'.out.mono ?_
      rintro e w2 ⟨rfl, hb2⟩
      have HO2 : Hid (OwnI w.heap.size _ ((os.take k).map (likG g t)) w2) := hown.out.below hb2
      have HB2 : Hid (Below w.heap.size w w2) := bel_trans hbl.out hb2
      have hs2 : w.heap.size ≤ w2.heap.size := HB2.out.size
      clear hb2 hown
      go_wp2_with (at_builtin; go_must (refine wp_appI rfl (.tmp 16) (.tmp 24) rfl w.heap.size _ ((os.take k).map (likG g t)) _ Y rfl HO2.out _ rfl (by simp) hlk hs2 ?_); intro v6 w6 hown6 hb6)
      have HO6 : Hid (OwnI w.heap.size v6 ((os.take (k + 1)).map (likG g t)) w6) := (by rw [HT.out]; exact hown6 : OwnI _ v6 _ w6)
      have HB6 : Hid (Below w.heap.size w w6) := HB2.out.trans hb6
      clear hown6 hb6
      go_roundw
      case rel => exact ⟨k + 1, by omega, by go_num, HO6, HB6⟩
      case measure => simp [intOf]; omega
    · obtain rfl : k = os.length := by omega
      rw [List.take_length] at hown
      have HF := rfirst_any _ _ (by rw [List.length_map]; exact ho) wr hown.out.rd
      rw [List.length_map] at HF
      have HF' : Hid (Calls _ _ _ _ _) := HF
      clear HF
      have HV2 : Hid ((bst (fun k => likG g t (os.getD k [])) os.length).1 = (bst (fun j => (os.map (likG g t)).getD j 0) os.length).1) := (by rw [HE.out] : _ = _)
      generalize (bst (fun j => (os.map (likG g t)).getD j 0) os.length).1 = V at HF' HV2
      go_wp2_with fail
      refine HF'.out.mono ?_
      rintro e w2 ⟨rfl, hb2⟩
      have HB2 : Hid (Below w.heap.size w w2) := bel_trans hbl.out hb2
      clear hb2
      go_wp2
      go_ret
      exact ⟨by rw [HV2.out]; rfl, HB2.out⟩

end Ac
end Go.Proofs.YtnhkkemphjblhaaDoor

/-
  The law's weights and sameWeights.
-/
set_option linter.unusedVariables false
set_option linter.unusedSimpArgs false
namespace Go.Proofs.YtnhkkemphjblhaaDoor
open Go.RowKit Go.Shelf
namespace Ac
open Oc Tg

set_option maxRecDepth 100000 in
set_option maxHeartbeats 1000000 in
theorem sameW_any (v1 v2 : Value) (t : List Wt) (w : World) (h1 : RdW v1 t w) (h2 : RdW v2 t w) (hl : t.length ≤ 4294967296) :
    Calls Tryd.prog 17 #[v1, v2] w fun e w' => e = .returned (.bool true) ∧ ∃ n, w' = w.drewN n := by
  obtain ⟨a1, c1, rfl, h1⟩ := h1
  obtain ⟨a2, c2, rfl, h2⟩ := h2
  have hne : ((t.length : Int) != (t.length : Int)) = false := by simp
  go_enter Tryd.func17, Tryd.ntmps17
  go_wp2
  go_loopw [5] (fun i wr => ∃ k : Nat, k ≤ t.length ∧ i = .int .i64 k ∧ Hid (∃ n, wr = w.drewN n)) (fun i _ => t.length - (intOf i).toNat)
  case atStart => exact ⟨0, Nat.zero_le _, rfl, (⟨0, rfl⟩ : ∃ n, w = w.drewN n)⟩
  case round =>
    obtain ⟨k, hk, rfl, hw⟩ := hrel
    obtain ⟨n, rfl⟩ := hw.out
    clear hw
    by_cases hlt : k < t.length
    · rcases h1 with h | ⟨g1, o1, rfl, hc1, hcell1⟩
      · rw [h] at hlt; simp at hlt
      rcases h2 with h | ⟨g2, o2, rfl, hc2, hcell2⟩
      · rw [h] at hlt; simp at hlt
      obtain ⟨p0, p1⟩ := hcell1 k hlt
      obtain ⟨q0, q1⟩ := hcell2 k hlt
      clear hcell1 hcell2
      generalize str (nthW t k).1 = x at p0 q0
      generalize (nthW t k).2 = y at p1 q1
      have hy : (y != y) = false := by simp
      have hx : (x.toList != x.toList) = false := by simp
      go_wp2_with fail
      go_quiet (fail)
      go_wp2
      go_roundw
      case rel => exact ⟨k + 1, by omega, by go_num, (⟨n + nq, rfl⟩ : ∃ m, w.drewN (n + nq) = w.drewN m)⟩
      case measure => simp [intOf]; omega
    · go_wp2
      go_ret
      exact ⟨rfl, _, rfl⟩

theorem step_appW {ops : Array Oper} {o : Oper} {a : Act} {K : Act → World → Prop} {Q : Exit → Act → World → Prop} {E : Prop} (T S : Nat) (hinfo : (Tryd.prog.info? T).map (fun i => (i.zero, i.size, i.bytes)) = some (some (.agg #[.string ⟨#[]⟩, .int .i64 0]), 2, 24))
    (hund : Tryd.prog.underlying S = some (.slice T)) (hgd : o.guard = none) (s x : Operand)
    (ho : o.op = .call { callee := .builtin .append, args := #[s, x], argTypes := #[S, S] }) (B : Nat) (v : Value) (t : List Wt) (W : World) (p : Wt) (n1 : ByteArray) (n2 : Int) (h1 : n1 = str p.1) (h2 : n2 = p.2)
    (hs : a.eval s = v) (hown : OwnW T B v t W) (g : Nat) (hx : a.eval x = .slice (some ⟨g, 0, none⟩) 1 1) (hg : g = W.heap.size) (hlen : t.length + 1 ≤ 2147483648) (hB : B ≤ W.heap.size)
    (h : ∀ v' w', OwnW T B v' (t ++ [p]) w' → Below B W w' → K (a.put o.dst v') w') : if Region.wanted o (yielded ops a.tmps) = true then Oper.wp Tryd.prog o a (W.alloc (.cells #[.string n1, .int .i64 n2] T)) K Q else E := by
  subst h1 h2 hg
  have hw : Region.wanted o (yielded ops a.tmps) = true := by simp [Region.wanted, hgd]
  rw [if_pos hw]
  obtain ⟨i0, hi, hz0, hz1, hz2⟩ := info_parts hinfo
  refine wp_append_own _ s x S ho B T i0 (.agg #[.string ⟨#[]⟩, .int .i64 0]) 2 24 hund hi hz0 hz1 hz2 rfl (by decide) v t.length _ hs (World.ownsRow.alloc hown _) ⟨W.heap.size, 0, none⟩ 1 1 (encW1 p) hx rfl ?_ ?_ ?_ ?_ ?_ ?_
  · intro j u hj
    unfold encW1 at hj
    match j, hj with
    | 0, hj => simp at hj; subst hj; simp [Addr.add]
    | 1, hj => simp at hj; subst hj; simp [Addr.add]
  · intro u hu
    unfold encW1 at hu
    simp at hu
    rcases hu with rfl | rfl <;> rfl
  · unfold maxLen; omega
  · omega
  · simp; omega
  · intro v' w' h1 h2 _
    refine h v' w' ?_ (((Below.refl B W).alloc hB _).grown h2 (by simp; omega) (fun k hk => (World.ownsRow.lt hown k hk).1))
    unfold OwnW
    rw [encW_snoc, List.length_append]
    exact h1

theorem take_nthW (t : List Wt) (k : Nat) (h : k < t.length) : t.take (k + 1) = t.take k ++ [nthW t k] := by
  unfold nthW
  rw [List.take_add_one, List.getElem?_eq_getElem h, List.getD_eq_getElem?_getD, List.getElem?_eq_getElem h]; rfl

set_option maxRecDepth 100000 in
set_option maxHeartbeats 4000000 in
theorem weights_any (v : Value) (t : List Wt) (w : World) (h : RdW v t w) (hl : t.length ≤ 16777216) :
    Calls Tryd.prog 14 #[v] w fun e w' => ∃ u, e = .returned u ∧ OwnW 67 w.heap.size u t w' ∧ Below w.heap.size w w' := by
  obtain ⟨a, c, rfl, h⟩ := h
  have HR : Hid (t = [] ∨ ∃ g o, a = some ⟨g, o, none⟩ ∧ t.length ≤ c ∧ ∀ j, j < t.length → w.cell? ⟨g, o + j * 2, none⟩ = some (.string (str (nthW t j).1)) ∧ w.cell? ⟨g, o + j * 2 + 1, none⟩ = some (.int .i64 (nthW t j).2)) := h
  clear h
  go_enter Tryd.func14, Tryd.ntmps14
  go_wp2
  go_loopw [3, 4] (fun ov i wr => ∃ k : Nat, k ≤ t.length ∧ i = .int .i64 k ∧ Hid (OwnW 67 w.heap.size ov (t.take k) wr) ∧ Hid (Below w.heap.size w wr)) (fun _ i _ => t.length - (intOf i).toNat)
  case atStart => exact ⟨0, Nat.zero_le _, rfl, ownW_empty _ w (Nat.le_refl _), (Below.refl _ w).alloc (Nat.le_refl _) _⟩
  case round =>
    obtain ⟨k, hk, rfl, hown, hbl⟩ := hrel
    have hsz := hbl.out.size
    by_cases hlt : k < t.length
    · rcases HR.out with h | ⟨g, o, rfl, hc, hcell⟩
      · rw [h] at hlt; simp at hlt
      obtain ⟨c0, c1⟩ := hcell k hlt
      have hg : g < w.heap.size := World.block_lt_of_cell? w _ c0
      have d0 : wr.cell? ⟨g, o + k * 2, none⟩ = some (.string (str (nthW t k).1)) := (hbl.out.cell (p := ⟨g, o + k * 2, none⟩) hg).trans c0
      have d1 : wr.cell? ⟨g, o + k * 2 + 1, none⟩ = some (.int .i64 (nthW t k).2) := (hbl.out.cell (p := ⟨g, o + k * 2 + 1, none⟩) hg).trans c1
      clear hcell c0 c1
      have HTk : Hid (t.take (k + 1) = t.take k ++ [nthW t k]) := take_nthW t k hlt
      have hlk : (t.take k).length + 1 ≤ 2147483648 := by rw [List.length_take]; omega
      generalize nthW t k = p at *
      obtain ⟨pn, pq⟩ := p
      dsimp only at d0 d1
      generalize hn : str pn = n at d0
      have HN : Hid (n = str pn) := hn.symm
      clear hn
      have HO1 : Hid (OwnW 67 w.heap.size _ (t.take k) wr.drew) := hown.out.below (below_drewN (Below.refl _ _) 1)
      have HB1 : Hid (Below w.heap.size w wr.drew) := below_drewN hbl.out 1
      have hs1 : w.heap.size ≤ wr.drew.heap.size := hsz
      go_wp2_with fail
      go_region_law (refine step_appW 67 41 infoW2 Tryd.underlying41 rfl (.tmp 12) (.tmp 24) rfl w.heap.size _ (t.take k) _ (pn, pq) _ _ HN.out rfl (by simp [Act.eval, Act.put]) HO1.out _ (by simp [Act.eval, Act.put]) rfl hlk hs1 ?_; intro v6 w6 hown6 hb6)
      all_goals
        have HO6 : Hid (OwnW 67 w.heap.size v6 (t.take (k + 1)) w6) := (by rw [HTk.out]; exact hown6 : OwnW 67 w.heap.size v6 (t.take (k + 1)) w6)
        have HB6 : Hid (Below w.heap.size w w6) := HB1.out.trans hb6
        clear hown6 hb6
        go_wp2
        go_roundw
        case rel => exact ⟨k + 1, by omega, by go_num, HO6, HB6⟩
        case measure => simp [intOf]; omega
    · obtain rfl : k = t.length := by omega
      rw [List.take_length] at hown
      go_wp2
      go_ret
      exact ⟨_, rfl, hown.out, hbl.out⟩

end Ac
end Go.Proofs.YtnhkkemphjblhaaDoor

/-
  The law's awake.
-/
set_option linter.unusedVariables false
set_option linter.unusedSimpArgs false
namespace Go.Proofs.YtnhkkemphjblhaaDoor
open Go.RowKit Go.Shelf
namespace Ac
open Oc Tg

theorem qual_half : qual [48, 46, 53] = (500, 0) := by decide
theorem parM_html : parM [84, 101, 120, 116, 47, 72, 116, 109, 108] = some ([116, 101, 120, 116], [104, 116, 109, 108], []) := by rfl

set_option maxRecDepth 100000 in
set_option maxHeartbeats 1000000 in
theorem awake_any (w : World) (hw : Env w) :
    Calls Tryd.prog 9 #[] w fun e w' => e = .returned (.bool true) ∧ Below w.heap.size w w' := by
  have HQ : Hid (∀ w, ML w → Calls Tryd.prog 26 #[.string ⟨#[48, 46, 53]⟩] w fun e w' => e = .returned (.tuple #[.int .i64 500, .int .i64 0]) ∧ Below w.heap.size w w') := fun w h => by
    have := Quality_any ⟨#[48, 46, 53]⟩ (by show 3 ≤ 4000000000; omega) w h
    rw [show (⟨#[48, 46, 53]⟩ : ByteArray).data.toList = [48, 46, 53] from rfl, qual_half] at this
    exact this
  have HP : Hid (∀ w, Env w → Calls Tryd.prog 7 #[.string ⟨#[84, 101, 120, 116, 47, 72, 116, 109, 108]⟩] w fun e w' => ∃ v, e = .returned (.tuple #[.agg #[.string ⟨#[116, 101, 120, 116]⟩, .string ⟨#[104, 116, 109, 108]⟩, v], .int .i64 0]) ∧ OwnP 64 w.heap.size v [] w' ∧ Below w.heap.size w w') := fun w h => by
    have := Parse_any ⟨#[84, 101, 120, 116, 47, 72, 116, 109, 108]⟩ (by show 9 ≤ 134217728; omega) w h
    rw [show (⟨#[84, 101, 120, 116, 47, 72, 116, 109, 108]⟩ : ByteArray).data.toList = [84, 101, 120, 116, 47, 72, 116, 109, 108] from rfl, parM_html] at this
    exact this
  have HE : Hid (Env w) := hw
  clear hw
  go_enter Tryd.func9, Tryd.ntmps9
  go_wp2_with fail
  refine (HQ.out _ HE.out.2).mono ?_
  rintro e w2 ⟨rfl, hb2⟩
  have HB2 : Hid (Below w.heap.size w w2) := hb2
  clear hb2
  go_wp2_with fail
  refine (HP.out _ (HE.out.below HB2.out)).mono ?_
  rintro e w3 ⟨v, rfl, ho, hb3⟩
  have HB3 : Hid (Below w.heap.size w w3) := bel_trans HB2.out hb3
  have HB4 : Hid (Below w.heap.size w (w3.alloc (.cells #[.string ⟨#[116, 101, 120, 116]⟩, .string ⟨#[104, 116, 109, 108]⟩, v] 24))) := HB3.out.alloc HB3.out.size _
  obtain ⟨va, vc, rfl, _⟩ := OwnP.rd ho
  clear hb3 ho HP HQ
  go_wp2
  go_ret
  exact ⟨rfl, HB4.out⟩

end Ac
end Go.Proofs.YtnhkkemphjblhaaDoor
