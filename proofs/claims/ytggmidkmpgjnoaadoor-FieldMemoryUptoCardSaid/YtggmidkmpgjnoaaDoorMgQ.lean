/- Several texts as one. -/
import Derived.Test.YtggmidkmpgjnoaaDoorMgP
import Derived.Test.YtggmidkmpgjnoaaDoorMgO
import Derived.Test.YtggmidkmpgjnoaaDoorFTb
import Derived.Test.YtggmidkmpgjnoaaDoorMgM
import Derived.Lib.SlicesS
/-
  The document's All, Joined, List, Tokens, In, Has.
-/
set_option linter.unusedVariables false
set_option linter.unusedSimpArgs false
namespace Go.Proofs.YtggmidkmpgjnoaaDoor
open Go.RowKit Go.Shelf
namespace Fd
open Oc Tg

theorem vals_take (s : List UInt8) (t : List Fl) (k : Nat) (h : k < t.length) : vals s (t.take (k + 1)) = if alike s (nth t k) then vals s (t.take k) ++ [(nth t k).2] else vals s (t.take k) := by
  unfold vals
  rw [filter_take (alike s) t k h]
  split
  · rw [List.map_append]; rfl
  · rfl
theorem vals_len (s : List UInt8) (t : List Fl) : (vals s t).length ≤ t.length := by unfold vals; rw [List.length_map]; exact List.length_filter_le _ _

/-- Is one of them that text? -/
def inL (L : List (List UInt8)) (x : List UInt8) : Bool := L.contains x

end Fd
end Go.Proofs.YtggmidkmpgjnoaaDoor

/-
  The document's Remove, Add, Set.
-/
set_option linter.unusedVariables false
set_option linter.unusedSimpArgs false
namespace Go.Proofs.YtggmidkmpgjnoaaDoor
open Go.RowKit Go.Shelf
namespace Fd
open Oc Tg

set_option maxRecDepth 100000 in
set_option maxHeartbeats 2000000 in
theorem rRemove_any (v : Value) (t : List Fl) (s : List UInt8) (hs : s.length ≤ 1048576) (hM : Each 1048576 t) (hl : t.length ≤ 16777216) (w : World) (hrd : RdF v t w) :
    Calls Tryd.prog 15 #[v, .string (str s)] w fun e w' => ∃ u, e = .returned u ∧ OwnF 51 w.heap.size u (t.filter (unlike s)) w' ∧ Below w.heap.size w w' := by
  have HR : Hid (RdF v t w) := hrd
  have HM : Hid (Each 1048576 t) := hM
  have HAk : Hid (∀ (p : Fl) w, p.1.length ≤ 1048576 → Calls Tryd.prog 31 #[.string (str p.1), .string (str s)] w fun e w' => e = .returned (.bool (alike s p)) ∧ Below w.heap.size w w') := fun p w h => by
    have h := rAlike_any (str p.1) (str s) (by rw [str_size]; unfold maxLen; omega) (by rw [str_size]; unfold maxLen; omega) w
    rw [low_alike] at h
    exact h
  obtain ⟨a, c, rfl, _⟩ := hrd
  clear hM hs
  generalize hS : str s = S at *
  clear hS
  go_enter Tryd.func15, Tryd.ntmps15
  go_wp2
  go_loopw [5, 10] (fun ov i wr => ∃ k : Nat, k ≤ t.length ∧ i = .int .i64 k ∧ Hid (OwnF 51 w.heap.size ov ((t.take k).filter (unlike s)) wr) ∧ Hid (Below w.heap.size w wr)) (fun _ i _ => t.length - (intOf i).toNat)
  case atStart => exact ⟨0, Nat.zero_le _, rfl, ownF_nil _ _ _, Below.refl _ _⟩
  case round =>
    obtain ⟨k, hk, rfl, hown, hbl⟩ := hrel
    have hsz := hbl.out.size
    by_cases hlt : k < t.length
    · obtain ⟨a', c', e', hcs⟩ := HR.out.below hbl.out
      injection e' with e1 _ e2
      subst e1 e2
      rcases hcs with h | ⟨g, o, rfl, hlc, hcell⟩
      · rw [h] at hlt; simp at hlt
      obtain ⟨p0, p1⟩ := hcell k hlt
      have hEk := HM.out.at k hlt
      have TT : alike s (nth t k) = false → Hid ((t.take (k + 1)).filter (unlike s) = (t.take k).filter (unlike s) ++ [nth t k]) := fun h => by
        have := filter_take (unlike s) t k hlt
        rw [if_pos (by simp [unlike, h])] at this
        exact this
      have FF : alike s (nth t k) = true → Hid ((t.take (k + 1)).filter (unlike s) = (t.take k).filter (unlike s)) := fun h => by
        have := filter_take (unlike s) t k hlt
        rw [if_neg (by simp [unlike, h])] at this
        exact this
      have hlk : ((t.take k).filter (unlike s)).length + 1 ≤ 2147483648 := by
        have := List.length_filter_le (unlike s) (t.take k)
        rw [List.length_take] at this
        omega
      have HC : Hid (∀ w, Calls Tryd.prog 31 #[.string (str (nth t k).1), .string S] w fun e w' => e = .returned (.bool (alike s (nth t k))) ∧ Below w.heap.size w w') := fun w => HAk.out _ w hEk.1
      clear hcell hEk
      generalize alike s (nth t k) = b at HC TT FF
      generalize nth t k = p at *
      obtain ⟨pn, pv⟩ := p
      dsimp only at p0 p1 HC TT
      generalize hn : str pn = N at *
      generalize hv : str pv = V at *
      have HN : Hid (N = str pn) := hn.symm
      have HV : Hid (V = str pv) := hv.symm
      clear hn hv
      have hb1 : Below wr.heap.size wr (wr.alloc (.cells #[.string N, .string V] 51)) := (Below.refl _ wr).alloc (Nat.le_refl _) _
      have HB1 : Hid (Below w.heap.size w (wr.alloc (.cells #[.string N, .string V] 51))) := bel_trans hbl.out hb1
      have HO1 : Hid (OwnF 51 w.heap.size _ ((t.take k).filter (unlike s)) (wr.alloc (.cells #[.string N, .string V] 51))) := hown.out.below hb1
      clear hb1
      cases b with
      | false =>
        have tt := TT rfl
        clear TT FF
        go_wp2_with fail
        refine (HC.out _).mono ?_
        rintro e w2 ⟨rfl, hb2⟩
        have c0 : w2.cell? ⟨wr.heap.size, 0, none⟩ = some (.string N) := by rw [hb2.cell (by simp)]; simp
        have c1 : w2.cell? ⟨wr.heap.size, 1, none⟩ = some (.string V) := by rw [hb2.cell (by simp)]; simp
        have HB2 : Hid (Below w.heap.size w w2) := bel_trans HB1.out hb2
        have HO2 : Hid (OwnF 51 w.heap.size _ ((t.take k).filter (unlike s)) w2) := HO1.out.below hb2
        have hs2 : w.heap.size ≤ w2.heap.size := HB2.out.size
        clear hb2
        go_wp2_with (at_builtin; go_must (refine wp_appF 51 26 infoF2 Tryd.underlying26 rfl (.tmp 19) (.tmp 21) rfl w.heap.size _ ((t.take k).filter (unlike s)) _ (pn, pv) _ _ HN.out HV.out rfl HO2.out _ rfl (by simp) hlk hs2 ?_); intro v6 w6 hown6 hb6)
        have HO6 : Hid (OwnF 51 w.heap.size v6 ((t.take (k + 1)).filter (unlike s)) w6) := (by rw [tt.out]; exact hown6 : OwnF _ _ v6 _ w6)
        have HB6 : Hid (Below w.heap.size w w6) := HB2.out.trans hb6
        clear hown6 hb6
        go_roundw
        case rel => exact ⟨k + 1, by omega, by go_num, HO6, HB6⟩
        case measure => simp [intOf]; omega
      | true =>
        have ff := FF rfl
        clear TT FF
        go_wp2_with fail
        refine (HC.out _).mono ?_
        rintro e w2 ⟨rfl, hb2⟩
        have HB2 : Hid (Below w.heap.size w w2) := bel_trans HB1.out hb2
        have HO2 : Hid (OwnF 51 w.heap.size _ ((t.take (k + 1)).filter (unlike s)) w2) := (by rw [ff.out]; exact HO1.out.below hb2 : OwnF _ _ _ _ w2)
        clear hb2
        go_wp2
        go_roundw
        case rel => exact ⟨k + 1, by omega, by go_num, HO2, HB2⟩
        case measure => simp [intOf]; omega
    · obtain rfl : k = t.length := by omega
      rw [List.take_length] at hown
      go_wp2
      go_ret
      exact ⟨_, rfl, hown.out, hbl.out⟩

set_option maxRecDepth 100000 in
set_option maxHeartbeats 2000000 in
theorem rAdd_any (v : Value) (t : List Fl) (n x : List UInt8) (hn : n.length ≤ 1048576) (hx : x.length ≤ 1048576) (hl : t.length ≤ 16777216) (w : World) (hin : InF v t w) :
    Calls Tryd.prog 9 #[v, .string (str n), .string (str x)] w fun e w' => ∃ u, e = .returned (.tuple #[u, .int .i64 (addF t (n, x)).2]) ∧ OwnF 51 w.heap.size u (addF t (n, x)).1 w' ∧ Below w.heap.size w w' := by
  have HNm : Hid (∀ w, Calls Tryd.prog 26 #[.string (str n)] w fun e w' => e = .returned (.bool (isName n)) ∧ w' = w) := fun w => by
    have h := rIsName_any (str n) (by rw [str_size]; unfold maxLen; omega) w
    rw [str_list] at h
    exact h
  have HVl : Hid (∀ w, Calls Tryd.prog 27 #[.string (str x)] w fun e w' => e = .returned (.bool (isValue x)) ∧ w' = w) := fun w => by
    have h := rIsValue_any (str x) (by rw [str_size]; unfold maxLen; omega) w
    rw [str_list] at h
    exact h
  have HI : Hid (InF v t w) := hin
  obtain ⟨⟨va, vc, rfl, _⟩, _⟩ := hin
  rcases chk_cases (n, x) with ⟨hC, h1, h2⟩ | ⟨hC, h1, h2⟩ | ⟨hC, h1⟩
  · dsimp only at h1 h2
    rw [h1] at HNm
    rw [h2] at HVl
    by_cases hmany : 100 ≤ t.length
    · have HAF : Hid (addF t (n, x) = ([], 65)) := (by unfold addF; rw [if_pos hC, if_pos hmany] : _ = _)
      have hd : decide ((100 : Int) ≤ (t.length : Int)) = true := decide_eq_true (by omega)
      clear hC h1 h2
      generalize addF t (n, x) = AF at *
      generalize str n = N at *
      generalize str x = X at *
      go_enter Tryd.func9, Tryd.ntmps9
      go_wp2_with fail
      refine (HNm.out _).mono ?_
      rintro e w1 ⟨rfl, hw1⟩
      rw [hw1]
      clear hw1
      go_wp2_with fail
      refine (HVl.out _).mono ?_
      rintro e w2 ⟨rfl, hw2⟩
      rw [hw2]
      clear hw2
      go_wp2
      go_ret2
      rw [HAF.out]
      exact ⟨_, rfl, ownF_nil _ _ _, Below.refl _ _⟩
    · have HAF : Hid (addF t (n, x) = (t ++ [(n, x)], 0)) := (by unfold addF; rw [if_pos hC, if_neg hmany] : _ = _)
      have hd : decide ((100 : Int) ≤ (t.length : Int)) = false := decide_eq_false (by omega)
      clear hC h1 h2
      generalize addF t (n, x) = AF at *
      generalize hsn : str n = N at *
      generalize hsx : str x = X at *
      have HN : Hid (N = str n) := hsn.symm
      have HX : Hid (X = str x) := hsx.symm
      clear hsn hsx
      have hb1 : Below w.heap.size w (w.alloc (.cells #[] 51)) := (Below.refl _ w).alloc (Nat.le_refl _) _
      have HI1 : Hid (InF (.slice va t.length vc) t (w.alloc (.cells #[] 51))) := ⟨HI.out.1.below hb1, HI.out.2⟩
      have HO1 : Hid (OwnF 51 w.heap.size _ [] (w.alloc (.cells #[] 51))) := ownF_empty _ w (Nat.le_refl _)
      have HB1 : Hid (Below w.heap.size w (w.alloc (.cells #[] 51))) := hb1
      have hs1 := hb1.size
      clear hb1
      go_enter Tryd.func9, Tryd.ntmps9
      go_wp2_with fail
      refine (HNm.out _).mono ?_
      rintro e w1 ⟨rfl, hw1⟩
      rw [hw1]
      clear hw1
      go_wp2_with fail
      refine (HVl.out _).mono ?_
      rintro e w2 ⟨rfl, hw2⟩
      rw [hw2]
      clear hw2
      go_wp2_with (first
        | (at_builtin; refine wp_appFs 51 26 infoF2 Tryd.underlying26 rfl (.tmp 17) (.tmp 18) rfl w.heap.size _ _ [] t rfl HO1.out rfl HI1.out (by simp; omega) hs1 ?_; intro v5 w5 o5 b5; have hs5 : w.heap.size ≤ w5.heap.size := (HB1.out.trans b5).size; rw [List.nil_append] at o5)
        | (at_builtin; go_must (refine wp_appF 51 26 infoF2 Tryd.underlying26 rfl (.tmp 19) (.tmp 23) rfl w.heap.size _ t _ (n, x) _ _ HN.out HX.out rfl o5 _ rfl (by simp) (by omega) hs5 ?_); intro v6 w6 o6 b6))
      have HO6 : Hid (OwnF 51 w.heap.size v6 (t ++ [(n, x)]) w6) := o6
      have HB6 : Hid (Below w.heap.size w w6) := (HB1.out.trans b5).trans b6
      clear o5 o6 b5 b6
      go_ret2
      rw [HAF.out]
      exact ⟨_, rfl, HO6.out, HB6.out⟩
  · dsimp only at h1 h2
    rw [h1] at HNm
    rw [h2] at HVl
    have HAF : Hid (addF t (n, x) = ([], 61)) := (by unfold addF; rw [hC, if_neg (by decide)] : _ = _)
    clear hC h1 h2
    generalize addF t (n, x) = AF at *
    generalize str n = N at *
    generalize str x = X at *
    go_enter Tryd.func9, Tryd.ntmps9
    go_wp2_with fail
    refine (HNm.out _).mono ?_
    rintro e w1 ⟨rfl, hw1⟩
    rw [hw1]
    clear hw1
    go_wp2_with fail
    refine (HVl.out _).mono ?_
    rintro e w2 ⟨rfl, hw2⟩
    rw [hw2]
    clear hw2
    go_wp2
    go_ret2
    rw [HAF.out]
    exact ⟨_, rfl, ownF_nil _ _ _, Below.refl _ _⟩
  · dsimp only at h1
    rw [h1] at HNm
    have HAF : Hid (addF t (n, x) = ([], 60)) := (by unfold addF; rw [hC, if_neg (by decide)] : _ = _)
    clear hC h1
    generalize addF t (n, x) = AF at *
    generalize str n = N at *
    generalize str x = X at *
    go_enter Tryd.func9, Tryd.ntmps9
    go_wp2_with fail
    refine (HNm.out _).mono ?_
    rintro e w1 ⟨rfl, hw1⟩
    rw [hw1]
    clear hw1
    go_wp2
    go_ret2
    rw [HAF.out]
    exact ⟨_, rfl, ownF_nil _ _ _, Below.refl _ _⟩

end Fd
end Go.Proofs.YtggmidkmpgjnoaaDoor

/-
  Has, and the document's.
-/
set_option linter.unusedVariables false
set_option linter.unusedSimpArgs false
namespace Go.Proofs.YtggmidkmpgjnoaaDoor
open Go.RowKit Go.Shelf
namespace Fd
open Oc Tg

theorem contains_eq (L : List (List UInt8)) (x : List UInt8) : Lib.containsS (L.map str) (str x) = inL L x := by
  rw [Bool.eq_iff_iff, Lib.containsS_iff]
  unfold inL
  rw [List.contains_iff_mem]
  constructor
  · intro h
    obtain ⟨y, hy, e⟩ := List.mem_map.1 h
    rw [← str_inj e]
    exact hy
  · intro h
    exact List.mem_map.2 ⟨x, h, rfl⟩

def hasF (s : List UInt8) (t : List Fl) (k : List UInt8) : Bool := decide ((tokensF s t).2 = 0) && inL (tokensF s t).1 (lower k)
theorem tokens_len {t : List Fl} (hS : sumF t ≤ 1048576) (s : List UInt8) : (tokensF s t).1.length ≤ 1048576 := by
  have hv := sumV_filter s t
  have hll := listV_len (vals s t) []
  unfold tokensF tokV
  split
  · split
    · rw [List.length_map]
      unfold listF
      simp at hll
      omega
    · simp
  · simp

end Fd
end Go.Proofs.YtggmidkmpgjnoaaDoor
