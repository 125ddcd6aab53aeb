/-
  The document's Decode.
-/
import Derived.Test.YtcnjnlmjgbmjnabDoorRDec
set_option linter.unusedVariables false
set_option linter.unusedSimpArgs false
namespace Go.Proofs.YtcnjnlmjgbmjnabDoor
open Go.RowKit
namespace Bs

def comb (t : List UInt8) (I : Nat) : Except Nat (List UInt8) → Except Nat (List UInt8)
  | .ok x => .ok (t ++ x)
  | .error k => .error (I + k)
theorem comb_id (e : Except Nat (List UInt8)) : comb [] 0 e = e := by cases e <;> simp [comb]
/-- What is known behind I bytes. -/
def Rel (l : List UInt8) (t : List UInt8) (I : Nat) : Bool → Prop
  | false => dec l = comb t I (dec (l.drop I))
  | true => dec l = if I < l.length then .error I else .ok t
theorem rel_end {l t : List UInt8} {b : Bool} (h : Rel l t l.length b) : decR l = (t, 0, 0) := by
  cases b with
  | false =>
    have h' : dec l = comb t l.length (dec (l.drop l.length)) := h
    rw [List.drop_length] at h'
    exact decR_ok (by rw [h']; unfold dec comb; simp)
  | true =>
    have h' : dec l = if l.length < l.length then .error l.length else .ok t := h
    rw [if_neg (by omega)] at h'
    exact decR_ok h'
theorem rel_on {l t : List UInt8} {I : Nat} (h : Rel l t I false) {a b c d : UInt8} {r : List UInt8} (e : l.drop I = a :: b :: c :: d :: r) (F : Four a b c d) : Rel l (t ++ g4 a b c d) (I + 4) (decide (d = 61)) := by
  have h' : dec l = comb t I (dec (l.drop I)) := h
  rw [e] at h'
  have hr : l.drop (I + 4) = r := by rw [← List.drop_drop, e]; rfl
  have hlen : l.length - I = r.length + 4 := by have := congrArg List.length e; simpa using this
  by_cases hd : d = 61
  · rw [decide_eq_true hd]
    show dec l = if I + 4 < l.length then .error (I + 4) else .ok (t ++ g4 a b c d)
    rw [h', dec_end r F hd]
    by_cases hr0 : r = []
    · subst hr0
      rw [if_pos rfl, if_neg (by simp at hlen; omega)]
      rfl
    · have : 0 < r.length := List.length_pos_iff.2 hr0
      rw [if_neg hr0, if_pos (by omega)]
      rfl
  · rw [decide_eq_false hd]
    show dec l = comb (t ++ g4 a b c d) (I + 4) (dec (l.drop (I + 4)))
    rw [h', dec_on r F hd, hr]
    cases dec r with
    | ok x => simp [comb]
    | error k => simp [comb]; omega
theorem rel_err {l t : List UInt8} {I k : Nat} (h : Rel l t I false) (e : dec (l.drop I) = .error k) : decR l = ([], ((I + k : Nat) : Int), 30) := by
  have h' : dec l = comb t I (dec (l.drop I)) := h
  rw [e] at h'
  exact decR_err h'
theorem rel_ended {l t : List UInt8} {I : Nat} (h : Rel l t I true) (hI : I < l.length) : decR l = ([], (I : Int), 30) := by
  have h' : dec l = if I < l.length then .error I else .ok t := h
  rw [if_pos hI] at h'
  exact decR_err h'

theorem allF_take {r : List UInt8} {k : Nat} (hk : k ≤ r.length) (h : ∀ j, j < k → fitB r j = true) : allF (r.take k) = true := by
  apply allF_t
  intro j hj
  rw [List.length_take] at hj
  have := fit_take r [] k j (by omega) hk
  rw [List.append_nil] at this
  rw [this]
  exact h j (by omega)
theorem allF_take_no {r : List UInt8} {k j : Nat} (hk : k ≤ r.length) (hj : j < k) (h : fitB r j = false) : allF (r.take k) = false := by
  apply allF_f (j := j) (by rw [List.length_take]; omega)
  have := fit_take r [] k j hj hk
  rw [List.append_nil] at this
  rw [this]
  exact h
theorem str_mid (l : List UInt8) (i k : Nat) : (str l).extract i (i + k) = str ((l.drop i).take k) := by
  rw [str_extract, List.drop_take, Nat.add_sub_cancel_left]

theorem g4_le (a b c d : UInt8) : (g4 a b c d).length ≤ 3 := by unfold g4; split <;> (try split) <;> simp

/-- As wp_app, where an order was drawn ahead. -/
theorem wp_appd {ops : Array Oper} {rest : List Oper} {o : Oper} {a : Act} {Q : Exit → Act → World → Prop} (hgd : o.guard = none) (s x : Operand)
    (ho : o.op = .call { callee := .builtin .append, args := #[s, x], argTypes := #[34, 34] }) (B : Nat) (v : Value) (l u : List UInt8) (W : World) (cs : Array Value) (hc : cs.toList = bv u)
    (hs : a.eval s = v) (hown : Own B v l W) (hx : a.eval x = .slice (some ⟨W.heap.size, 0, none⟩) u.length u.length) (hlen : l.length + u.length ≤ 140737488355328) (hB : B ≤ W.heap.size)
    (h : ∀ v' w', Hid (Own B v' (l ++ u) w') → Hid (Below B W w') → wpList Tryd.prog ops Q rest (a.put o.dst v') w') : wpList Tryd.prog ops Q (o :: rest) a (W.alloc (.cells cs 5)).drew := by
  refine wp_appB (by simp [Region.wanted, hgd]) s x ho B v _ l u hs (show (W.alloc (.cells cs 5)).drew.ownsRow B 5 1 v l.length (bv l) from hown.alloc _) hx (show RdB (W.alloc (.cells cs 5)) _ u from rd_built W cs u _ rfl hc) hlen (show B ≤ (W.alloc (.cells cs 5)).heap.size by simp; omega) ?_
  intro v' w' h1 h2
  exact h v' w' h1.out ((((Below.refl B W).alloc hB _).drew).grown h2.out (show B ≤ (W.alloc (.cells cs 5)).heap.size by simp; omega) (fun k hk => (World.ownsRow.lt hown k hk).1))

attribute [local go_sem ↓] Go.wp_at_zero Go.wp_at_succ
set_option maxRecDepth 100000 in
set_option maxHeartbeats 2000000 in
theorem rDecode_any (l : List UInt8) (hl : l.length ≤ 140737488355328) (w : World) :
    Calls Tryd.prog 11 #[.string (str l)] w fun e w' => e = .returned (.tuple #[.string (str (decR l).1), .int .i64 (decR l).2.1, .int .i64 (decR l).2.2]) ∧ Below w.heap.size w w' := by
  have hs : (str l).size = l.length := str_size l
  have HO0 : Hid (Own w.heap.size (.slice (some ⟨w.heap.size, 0, none⟩) 0 0) [] (w.alloc (.cells #[] 5))) := own_made w 0 (by omega) #[] rfl
  go_enter Tryd.func11, Tryd.ntmps11
  go_wp2
  go_loopw [5, 6, 7] (fun v b i wr => ∃ (I : Nat) (t : List UInt8) (en : Bool), I ≤ l.length ∧ i = .int .i64 I ∧ b = .bool en ∧ t.length ≤ I ∧ Hid (Rel l t I en) ∧ Hid (Own w.heap.size v t wr) ∧ Hid (Below w.heap.size w wr)) (fun _ _ i _ => l.length - (intOf i).toNat)
  case atStart => exact ⟨0, [], false, by omega, rfl, rfl, by simp, (show dec l = comb [] 0 (dec (l.drop 0)) by rw [comb_id]; rfl), HO0.out, (Below.refl _ w).alloc (Nat.le_refl _) _⟩
  case round =>
    obtain ⟨I, t, en, hI, rfl, rfl, htI, HR, HO, HB⟩ := hrel
    clear HO0
    have hsz := HB.out.size
    by_cases hlt : I < l.length
    · cases en with
      | true =>
        have HD : Hid (decR l = ([], (I : Int), 30)) := rel_ended HR.out hlt
        go_wp2
        go_ret3
        rw [HD.out]
        exact ⟨rfl, HB.out⟩
      | false =>
        have hrl : (l.drop I).length = l.length - I := List.length_drop
        have inner : ∀ (k : Nat), k ≤ (l.drop I).length → k ≤ 4 → ∀ W, Calls Tryd.prog 21 #[.string ((str l).extract I (I + k))] W fun e w' => e = .returned (.bool (allF ((l.drop I).take k))) ∧ w' = W := fun k h1 h2 W => by
          rw [str_mid]
          exact begins_any _ (by rw [List.length_take]; omega) W
        have HC : Hid (∀ (k : Nat), k ≤ (l.drop I).length → k ≤ 4 → ∀ W, Calls Tryd.prog 21 #[.string ((str l).extract I (I + k))] W fun e w' => e = .returned (.bool (allF ((l.drop I).take k))) ∧ w' = W) := inner
        clear inner
        have HErr : Hid (∀ k, dec (l.drop I) = .error k → decR l = ([], ((I + k : Nat) : Int), 30)) := fun k h => rel_err HR.out h
        by_cases h4 : l.length - I < 4
        · obtain ⟨M, hM⟩ : ∃ M, M = l.length - I := ⟨_, rfl⟩
          have HM : Hid (M = l.length - I) := hM
          have hMle : M + I = l.length := by omega
          have hMi : ((l.length : Nat) : Int) - ((I : Nat) : Int) = ((M : Nat) : Int) := by omega
          have hM4 : ((M : Nat) : Int) < 4 := by omega
          have HMle : Hid (M + I = l.length) := hMle
          clear hM hMle
          go_wp2
          go_loop [9] (fun i => ∃ k : Nat, 1 ≤ k ∧ k ≤ M + 1 ∧ i = .int .i64 k ∧ Hid (∀ j, j + 1 < k → fitB (l.drop I) j = true)) (fun i => M + 1 - (intOf i).toNat)
          case atStart => exact ⟨1, by omega, by omega, rfl, fun j hj => by omega⟩
          case round =>
            obtain ⟨k, hk1, hk2, rfl, HK⟩ := hrel
            have hMl := HMle.out
            by_cases hkM : k ≤ M
            · have hkMi : ((k : Nat) : Int) ≤ ((M : Nat) : Int) := by omega
              have HCk := HC.out k (by omega) (by omega) wr
              have hIk : I + k ≤ l.length := by omega
              have hIk' : ((I : Nat) : Int) + ((k : Nat) : Int) ≤ ((l.length : Nat) : Int) := by omega
              have hIt : (((I : Nat) : Int) + ((k : Nat) : Int)).toNat = I + k := by omega
              cases hf : fitB (l.drop I) (k - 1) with
              | true =>
                have HK2 : Hid (∀ j, j + 1 < k + 1 → fitB (l.drop I) j = true) := fun j hj => by
                  by_cases e : j = k - 1
                  · subst e; exact hf
                  · exact HK.out j (by omega)
                rw [allF_take (by omega) (fun j hj => HK2.out j (by omega))] at HCk
                have HCk' : Hid (Calls Tryd.prog 21 #[.string ((str l).extract I (I + k))] wr fun e w' => e = .returned (.bool true) ∧ w' = wr) := HCk
                clear HCk hf hMl
                go_wp2_with fail
                refine HCk'.out.mono ?_
                rintro e w2 ⟨rfl, hw2⟩
                rw [hw2]
                clear hw2 w2
                go_wp2
                go_round
                case rel => exact ⟨k + 1, by omega, by omega, by go_num, HK2.out⟩
                case measure => simp [intOf]; omega
              | false =>
                rw [allF_take_no (by omega) (show k - 1 < k by omega) hf] at HCk
                have HCk' : Hid (Calls Tryd.prog 21 #[.string ((str l).extract I (I + k))] wr fun e w' => e = .returned (.bool false) ∧ w' = wr) := HCk
                have HD : Hid (decR l = ([], ((I + (k - 1) : Nat) : Int), 30)) := HErr.out (k - 1) (dec_bad _ (k - 1) (by omega) (by omega) (fun j hj => HK.out j (by omega)) hf)
                clear HCk hf hMl
                go_wp2_with fail
                refine HCk'.out.mono ?_
                rintro e w2 ⟨rfl, hw2⟩
                rw [hw2]
                clear hw2 w2
                have hpl : ((I : Nat) : Int) + ((k : Nat) : Int) - 1 = ((I + (k - 1) : Nat) : Int) := by omega
                go_wp2
                go_ret3
                rw [HD.out]
                exact ⟨rfl, HB.out⟩
            · obtain rfl : k = M + 1 := by omega
              have hkMi : ¬ ((M + 1 : Nat) : Int) ≤ ((M : Nat) : Int) := by omega
              have HD : Hid (decR l = ([], ((I + M : Nat) : Int), 30)) := HErr.out M (by
                have := dec_short (l.drop I) (by intro e; rw [e] at hrl; simp at hrl; omega) (by omega) (fun j hj => HK.out j (by omega))
                rw [this, hrl, HM.out])
              have hpl : ((I + M : Nat) : Int) = ((l.length : Nat) : Int) := by omega
              clear hMl
              go_wp2
              go_ret3
              rw [HD.out, hpl]
              exact ⟨rfl, HB.out⟩
        · have hMi : ¬ ((l.length : Nat) : Int) - ((I : Nat) : Int) < 4 := by omega
          go_wp2
          go_loop [9] (fun i => ∃ k : Nat, 1 ≤ k ∧ k ≤ 4 + 1 ∧ i = .int .i64 k ∧ Hid (∀ j, j + 1 < k → fitB (l.drop I) j = true)) (fun i => 4 + 1 - (intOf i).toNat)
          case atStart => exact ⟨1, by omega, by omega, rfl, fun j hj => by omega⟩
          case round =>
            obtain ⟨k, hk1, hk2, rfl, HK⟩ := hrel
            by_cases hkM : k ≤ 4
            · have hkMi : ((k : Nat) : Int) ≤ 4 := by omega
              have HCk := HC.out k (by omega) (by omega) wr
              have hIk : I + k ≤ l.length := by omega
              have hIk' : ((I : Nat) : Int) + ((k : Nat) : Int) ≤ ((l.length : Nat) : Int) := by omega
              have hIt : (((I : Nat) : Int) + ((k : Nat) : Int)).toNat = I + k := by omega
              cases hf : fitB (l.drop I) (k - 1) with
              | true =>
                have HK2 : Hid (∀ j, j + 1 < k + 1 → fitB (l.drop I) j = true) := fun j hj => by
                  by_cases e : j = k - 1
                  · subst e; exact hf
                  · exact HK.out j (by omega)
                rw [allF_take (by omega) (fun j hj => HK2.out j (by omega))] at HCk
                have HCk' : Hid (Calls Tryd.prog 21 #[.string ((str l).extract I (I + k))] wr fun e w' => e = .returned (.bool true) ∧ w' = wr) := HCk
                clear HCk hf
                go_wp2_with fail
                refine HCk'.out.mono ?_
                rintro e w2 ⟨rfl, hw2⟩
                rw [hw2]
                clear hw2 w2
                go_wp2
                go_round
                case rel => exact ⟨k + 1, by omega, by omega, by go_num, HK2.out⟩
                case measure => simp [intOf]; omega
              | false =>
                rw [allF_take_no (by omega) (show k - 1 < k by omega) hf] at HCk
                have HCk' : Hid (Calls Tryd.prog 21 #[.string ((str l).extract I (I + k))] wr fun e w' => e = .returned (.bool false) ∧ w' = wr) := HCk
                have HD : Hid (decR l = ([], ((I + (k - 1) : Nat) : Int), 30)) := HErr.out (k - 1) (dec_bad _ (k - 1) (by omega) (by omega) (fun j hj => HK.out j (by omega)) hf)
                clear HCk hf
                go_wp2_with fail
                refine HCk'.out.mono ?_
                rintro e w2 ⟨rfl, hw2⟩
                rw [hw2]
                clear hw2 w2
                have hpl : ((I : Nat) : Int) + ((k : Nat) : Int) - 1 = ((I + (k - 1) : Nat) : Int) := by omega
                go_wp2
                go_ret3
                rw [HD.out]
                exact ⟨rfl, HB.out⟩
            · obtain rfl : k = 4 + 1 := by omega
              have hkMi : ¬ ((5 : Nat) : Int) ≤ 4 := by omega
              obtain ⟨a, b, c, d, r, hr⟩ : ∃ a b c d r, l.drop I = a :: b :: c :: d :: r := by
                match hh : l.drop I with
                | [] => rw [hh] at hrl; simp at hrl; omega
                | [_] => rw [hh] at hrl; simp at hrl; omega
                | [_, _] => rw [hh] at hrl; simp at hrl; omega
                | [_, _, _] => rw [hh] at hrl; simp at hrl; omega
                | a :: b :: c :: d :: r => exact ⟨a, b, c, d, r, rfl⟩
              have F4 : Four a b c d := four_of (r := r) (fun j hj => by have := HK.out j (by omega); rwa [hr] at this)
              have HRn0 := rel_on HR.out hr F4
              have hX : (str l).extract I (I + 4) = str [a, b, c, d] := by rw [str_mid, hr]; rfl
              have hG0 : ∀ h, (str [a, b, c, d])[0]'h = a := fun h => rfl
              have hG1 : ∀ h, (str [a, b, c, d])[1]'h = b := fun h => rfl
              have hG2 : ∀ h, (str [a, b, c, d])[2]'h = c := fun h => rfl
              have hG3 : ∀ h, (str [a, b, c, d])[3]'h = d := fun h => rfl
              have hGs : (str [a, b, c, d]).size = 4 := rfl
              have hI4 : I + 4 ≤ l.length := by omega
              have hI4i : ((I : Nat) : Int) + 4 ≤ ((l.length : Nat) : Int) := by omega
              have hI4t : (((I : Nat) : Int) + 4).toNat = I + 4 := by omega
              have ea : num a = (nu a : Int) := (nu_int F4.na).symm
              have eb : num b = (nu b : Int) := (nu_int F4.nb).symm
              have la := nu_lt a
              have lb := nu_lt b
              have hq0 : ((nu a : Int) * 262144 + (nu b : Int) * 4096) / 65536 = ((y0 a b).toNat : Int) := by unfold y0; rw [ofNat_lt (by omega)]; omega
              have HG4 : Hid (g4 a b c d = if c = 61 then [y0 a b] else if d = 61 then [y0 a b, y1 b c] else [y0 a b, y1 b c, y2 c d]) := rfl
              have HW : Hid (Below w.heap.size w wr.drew) := HB.out.drew
              have HOd : Hid (Own w.heap.size _ t wr.drew) := HO.out
              have HC4 := F4.hc
              clear HC HErr HK hr hrl
              by_cases hc : c = 61
              · have hd : d = 61 := by
                  rcases HC4 with h | h | h
                  · exact h.2.1
                  · exact h.2.1
                  · exact absurd hc (num_ne h.1)
                have HRn : Hid (Rel l (t ++ [y0 a b]) (I + 4) true) := (by rw [HG4.out, if_pos hc, decide_eq_true hd] at HRn0; exact HRn0 : Rel l (t ++ [y0 a b]) (I + 4) true)
                clear HRn0 HC4 HG4 F4 HR
                subst hc hd
                generalize str [a, b, 61, 61] = G at *
                generalize y0 a b = Y0 at *
                generalize nu a = A at *
                generalize nu b = B at *
                go_wp2
                go_region_with (go_at_call 22; refine (Of_any _ _).mono ?_; rintro e w2 ⟨rfl, rfl⟩)
                all_goals go_wp2_with (at_builtin; go_must (refine wp_appd rfl (.tmp 66) (.tmp 70) rfl w.heap.size _ t [Y0] _ _ (by simp [bv, hq0]) rfl HO.out rfl (by simp; omega) hsz ?_; intro v0 x0 ho0 hb0))
                all_goals exact ⟨⟨I + 4, t ++ [Y0], true, by omega, by go_num, rfl, by simp; omega, HRn.out, ho0.out, HB.out.trans hb0.out⟩, by simp [intOf]; omega⟩
              · have lc := nu_lt c
                have ec : num c = (nu c : Int) := by
                  rcases HC4 with h | h | h
                  · exact absurd h.1 hc
                  · exact (nu_int h.1).symm
                  · exact (nu_int h.1).symm
                have hcn := nne61 hc
                have hq1 : ((nu a : Int) * 262144 + (nu b : Int) * 4096 + (nu c : Int) * 64) / 256 % 256 = ((y1 b c).toNat : Int) := by unfold y1; rw [ofNat_lt (by omega)]; omega
                by_cases hd : d = 61
                · have HRn : Hid (Rel l ((t ++ [y0 a b]) ++ [y1 b c]) (I + 4) true) := (by rw [HG4.out, if_neg hc, if_pos hd, decide_eq_true hd] at HRn0; rw [List.append_assoc]; exact HRn0 : Rel l ((t ++ [y0 a b]) ++ [y1 b c]) (I + 4) true)
                  clear HRn0 HC4 HG4 F4 HR
                  subst hd
                  generalize str [a, b, c, 61] = G at *
                  generalize y0 a b = Y0 at *
                  generalize y1 b c = Y1 at *
                  generalize nu a = A at *
                  generalize nu b = B at *
                  generalize nu c = C at *
                  go_wp2
                  go_region_with (go_at_call 22; refine (Of_any _ _).mono ?_; rintro e w2 ⟨rfl, rfl⟩)
                  all_goals go_wp2_with (first | (at_builtin; first | (refine wp_appd rfl (.tmp 66) (.tmp 70) rfl w.heap.size _ t [Y0] _ _ (by simp [bv, hq0]) rfl HO.out rfl (by simp; omega) hsz ?_; intro v0 x0 ho0 hb0) | (refine wp_app rfl (.tmp 81) (.tmp 85) rfl w.heap.size _ (t ++ [Y0]) [Y1] _ _ (by simp [bv, hq1]) rfl ho0.out rfl (by simp; omega) (by have := hb0.out.size; omega) ?_; intro v1 x1 ho1 hb1)) | (go_at_call 22; refine (Of_any _ _).mono ?_; rintro e w2 ⟨rfl, rfl⟩))
                  all_goals exact ⟨⟨I + 4, (t ++ [Y0]) ++ [Y1], true, by omega, by go_num, rfl, by simp; omega, HRn.out, ho1.out, (HB.out.trans hb0.out).trans hb1.out⟩, by simp [intOf]; omega⟩
                · have ld := nu_lt d
                  have ed : num d = (nu d : Int) := by
                    rcases HC4 with h | h | h
                    · exact absurd h.1 hc
                    · exact absurd h.2.1 hd
                    · exact (nu_int h.2).symm
                  have hdn := nne61 hd
                  have hq2 : ((nu a : Int) * 262144 + (nu b : Int) * 4096 + (nu c : Int) * 64 + (nu d : Int)) % 256 = ((y2 c d).toNat : Int) := by unfold y2; rw [ofNat_lt (by omega)]; omega
                  have HRn : Hid (Rel l (((t ++ [y0 a b]) ++ [y1 b c]) ++ [y2 c d]) (I + 4) false) := (by rw [HG4.out, if_neg hc, if_neg hd, decide_eq_false hd] at HRn0; rw [List.append_assoc, List.append_assoc]; exact HRn0 : Rel l (((t ++ [y0 a b]) ++ [y1 b c]) ++ [y2 c d]) (I + 4) false)
                  clear HRn0 HC4 HG4 F4 HR
                  generalize str [a, b, c, d] = G at *
                  generalize y0 a b = Y0 at *
                  generalize y1 b c = Y1 at *
                  generalize y2 c d = Y2 at *
                  generalize nu a = A at *
                  generalize nu b = B at *
                  generalize nu c = C at *
                  generalize nu d = D at *
                  go_wp2
                  go_region_with (go_at_call 22; refine (Of_any _ _).mono ?_; rintro e w2 ⟨rfl, rfl⟩)
                  all_goals go_wp2_with (first | (at_builtin; first | (refine wp_appd rfl (.tmp 66) (.tmp 70) rfl w.heap.size _ t [Y0] _ _ (by simp [bv, hq0]) rfl HO.out rfl (by simp; omega) hsz ?_; intro v0 x0 ho0 hb0) | (refine wp_app rfl (.tmp 81) (.tmp 85) rfl w.heap.size _ (t ++ [Y0]) [Y1] _ _ (by simp [bv, hq1]) rfl ho0.out rfl (by simp; omega) (by have := hb0.out.size; omega) ?_; intro v1 x1 ho1 hb1) | (refine wp_app rfl (.tmp 95) (.tmp 98) rfl w.heap.size _ ((t ++ [Y0]) ++ [Y1]) [Y2] _ _ (by simp [bv, hq2]) rfl ho1.out rfl (by simp; omega) (by have h1 := hb0.out.size; have h2 := hb1.out.size; omega) ?_; intro v2 x2 ho2 hb2)) | (go_at_call 22; refine (Of_any _ _).mono ?_; rintro e w2 ⟨rfl, rfl⟩))
                  all_goals exact ⟨⟨I + 4, ((t ++ [Y0]) ++ [Y1]) ++ [Y2], false, by omega, by go_num, rfl, by simp; omega, HRn.out, ho2.out, ((HB.out.trans hb0.out).trans hb1.out).trans hb2.out⟩, by simp [intOf]; omega⟩
    · obtain rfl : I = l.length := by omega
      have HD : Hid (decR l = (t, 0, 0)) := rel_end HR.out
      have hbk := back wr _ _ HO.out.rd
      go_wp2
      go_ret3
      rw [HD.out]
      exact ⟨rfl, HB.out⟩

end Bs
end Go.Proofs.YtcnjnlmjgbmjnabDoor
