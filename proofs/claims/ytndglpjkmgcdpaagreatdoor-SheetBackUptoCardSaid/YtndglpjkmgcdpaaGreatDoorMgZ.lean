/- Several texts as one. -/
import Derived.Test.YtndglpjkmgcdpaaGreatDoorMfB
import Derived.Test.YtndglpjkmgcdpaaGreatDoorMgW
import Derived.Test.YtndglpjkmgcdpaaGreatDoorMgD
/-
  sheet: the law's parts; hasMark, the closure of Print, slices.ContainsFunc over parts (written by mkwra.py).
-/
set_option linter.unusedVariables false
set_option linter.unusedSimpArgs false
namespace Go.Proofs.YtndglpjkmgcdpaaGreatDoor
open Go.RowKit Go.Shelf
namespace Wr
open Oc Tg Pt Mf

set_option maxRecDepth 100000 in
set_option maxHeartbeats 4000000 in
theorem parts15_any (v1 v2 : Value) (t : List P5) (w : World) (h1 : RdT v1 t w) (h2 : RdT v2 t w) (hl : t.length ≤ 4294967296) :
    Calls Tryz.prog 13 #[v1, v2] w fun e w' => e = .returned (.bool true) ∧ ∃ n, w' = w.drewN n := by
  obtain ⟨a1, c1, rfl, h1⟩ := h1
  obtain ⟨a2, c2, rfl, h2⟩ := h2
  have hne : ((t.length : Int) != (t.length : Int)) = false := by simp
  go_enter Tryz.func13, Tryz.ntmps13
  go_wp2
  go_loopw [5] (fun i wr => ∃ k : Nat, k ≤ t.length ∧ i = .int .i64 k ∧ Hid (∃ n, wr = w.drewN n)) (fun i _ => t.length - (intOf i).toNat)
  case atStart => exact ⟨0, Nat.zero_le _, rfl, (⟨0, rfl⟩ : ∃ n, w = w.drewN n)⟩
  case round =>
    obtain ⟨k, hk, rfl, hw⟩ := hrel
    obtain ⟨n, rfl⟩ := hw.out
    clear hw
    by_cases hlt : k < t.length
    · rcases h1 with h | ⟨g1, o1, rfl, hc1, hcell1⟩
      · rw [h] at hlt; simp at hlt
      rcases h2 with h | ⟨g2, o2, rfl, hc2, hcell2⟩
      · rw [h] at hlt; simp at hlt
      obtain ⟨p0, p1, p2, p3, p4⟩ := hcell1 k hlt
      obtain ⟨q0, q1, q2, q3, q4⟩ := hcell2 k hlt
      clear hcell1 hcell2
      generalize str (nthT t k).n = x0 at p0 q0
      generalize str (nthT t k).f = x1 at p1 q1
      generalize str (nthT t k).m = x2 at p2 q2
      generalize str (nthT t k).b = x3 at p3 q3
      generalize (nthT t k).h = z at p4 q4
      have hz : (z != z) = false := by simp
      go_wp2_with fail
      go_quiet (fail)
      go_wp2
      go_roundw
      case rel => exact ⟨k + 1, by omega, by go_num, Tg.drawn_again w _ _⟩
      case measure => simp [intOf]; omega
    · go_wp2
      go_ret
      exact ⟨rfl, _, rfl⟩

set_option maxRecDepth 100000 in
set_option maxHeartbeats 2000000 in
theorem hasMark_any (p : P5) (b : List UInt8) (hp : szT p ≤ 1048576) (w : World) (hm : ML w) :
    Calls Tryz.prog 19 #[.agg #[.string (str p.n), .string (str p.f), .string (str p.m), .string (str p.b), .bool p.h], .string (str (45 :: 45 :: b))] w fun e w' => e = .returned (.bool (inP p b)) ∧ Below w.heap.size w w' := by
  unfold szT at hp
  have HS : Hid (∀ s : List UInt8, s.length ≤ 1048576 → ∀ W, ML W → Calls Tryz.prog 40 #[.string (str s), .string (str (45 :: 45 :: b))] W fun e w' => e = .returned (.bool (Lib.contains s (45 :: 45 :: b))) ∧ w' = W) := fun s hs W hW => by
    obtain ⟨m, hm⟩ := hW
    have h := Tryz.strings_Contains (str s) (str (45 :: 45 :: b)) m W (by rw [str_size]; omega) hm
    rw [str_list, str_list] at h
    exact h
  have S1 : Hid (∀ W, ML W → _) := fun W h => HS.out p.b (by omega) W h
  have S2 : Hid (∀ W, ML W → _) := fun W h => HS.out p.n (by omega) W h
  have S3 : Hid (∀ W, ML W → _) := fun W h => HS.out p.f (by omega) W h
  have S4 : Hid (∀ W, ML W → _) := fun W h => HS.out p.m (by omega) W h
  have HI : Hid (inP p b = (Lib.contains p.b (45 :: 45 :: b) || (Lib.contains p.n (45 :: 45 :: b) || (Lib.contains p.f (45 :: 45 :: b) || Lib.contains p.m (45 :: 45 :: b))))) := (rfl : _ = _)
  have HM : Hid (ML w) := hm
  clear hm HS hp
  generalize inP p b = IP at *
  generalize Lib.contains p.b (45 :: 45 :: b) = q1 at *
  generalize Lib.contains p.n (45 :: 45 :: b) = q2 at *
  generalize Lib.contains p.f (45 :: 45 :: b) = q3 at *
  generalize Lib.contains p.m (45 :: 45 :: b) = q4 at *
  generalize str p.n = N1 at *
  generalize str p.f = F1 at *
  generalize str p.m = M1 at *
  generalize str p.b = B1 at *
  generalize p.h = H1 at *
  generalize str (45 :: 45 :: b) = MK at *
  have i0 := fun W => index4_0 (.string B1) (.string N1) (.string F1) (.string M1) W
  have i1 := fun W => index4_1 (.string B1) (.string N1) (.string F1) (.string M1) W
  have i2 := fun W => index4_2 (.string B1) (.string N1) (.string F1) (.string M1) W
  have i3 := fun W => index4_3 (.string B1) (.string N1) (.string F1) (.string M1) W
  have HB1 : Hid (Below w.heap.size w (w.alloc (.cells #[.string N1, .string F1, .string M1, .string B1, .bool H1] 41))) := (Below.refl _ w).alloc (Nat.le_refl _) _
  go_enter Tryz.func19, Tryz.ntmps19
  go_wp2_with fail
  refine (textsOf_any _ _ _ _ _ _).mono ?_
  rintro e w2 ⟨rfl, hb2⟩
  have HB2 : Hid (Below w.heap.size w w2) := HB1.out.trans (hb2.mono HB1.out.size)
  have HM2 : Hid (ML w2) := HM.out.below HB2.out
  clear hb2 HB1
  go_wp2
  go_loopw [9] (fun iv wq => (Five2 iv True (q1 = false) (q1 = false ∧ q2 = false) (q1 = false ∧ q2 = false ∧ q3 = false) (q1 = false ∧ q2 = false ∧ q3 = false ∧ q4 = false)) ∧ w2 = wq) (fun iv _ => 4 - (intOf iv).toNat)
  case atStart => exact ⟨.inl ⟨rfl, trivial⟩, rfl⟩
  case round =>
    obtain ⟨hq, rfl⟩ := hrel
    rcases hq with ⟨rfl, hq⟩ | ⟨rfl, hq⟩ | ⟨rfl, hq⟩ | ⟨rfl, hq⟩ | ⟨rfl, hq⟩
    · cases q1 with
      | true =>
        have HV : Hid (IP = true) := (by rw [HI.out]; simp : IP = true)
        go_wp2_with fail
        refine (S1.out _ HM2.out).mono ?_
        rintro e w5 ⟨rfl, hw5⟩
        rw [hw5]
        clear hw5
        go_wp2
        go_ret
        exact ⟨by rw [HV.out]; rfl, HB2.out⟩
      | false =>
        have HQ : Hid ((false : Bool) = false) := (rfl : (false : Bool) = false)
        go_wp2_with fail
        refine (S1.out _ HM2.out).mono ?_
        rintro e w5 ⟨rfl, hw5⟩
        rw [hw5]
        clear hw5
        go_wp2
        go_roundw
        case rel => first | exact ⟨.inr (.inl ⟨rfl, HQ⟩), rfl⟩ | exact ⟨.inr (.inl ⟨rfl, HQ⟩), trivial⟩
        case measure => simp [intOf]
    · cases q2 with
      | true =>
        have HV : Hid (IP = true) := (by have h1 := hq.out; rw [HI.out, h1]; simp : IP = true)
        go_wp2_with fail
        refine (S2.out _ HM2.out).mono ?_
        rintro e w5 ⟨rfl, hw5⟩
        rw [hw5]
        clear hw5
        go_wp2
        go_ret
        exact ⟨by rw [HV.out]; rfl, HB2.out⟩
      | false =>
        have HQ : Hid (q1 = false ∧ (false : Bool) = false) := (by have h1 := hq.out; exact ⟨h1, rfl⟩ : q1 = false ∧ (false : Bool) = false)
        go_wp2_with fail
        refine (S2.out _ HM2.out).mono ?_
        rintro e w5 ⟨rfl, hw5⟩
        rw [hw5]
        clear hw5
        go_wp2
        go_roundw
        case rel => first | exact ⟨.inr (.inr (.inl ⟨rfl, HQ⟩)), rfl⟩ | exact ⟨.inr (.inr (.inl ⟨rfl, HQ⟩)), trivial⟩
        case measure => simp [intOf]
    · cases q3 with
      | true =>
        have HV : Hid (IP = true) := (by obtain ⟨h1, h2⟩ := hq.out; rw [HI.out, h1, h2]; simp : IP = true)
        go_wp2_with fail
        refine (S3.out _ HM2.out).mono ?_
        rintro e w5 ⟨rfl, hw5⟩
        rw [hw5]
        clear hw5
        go_wp2
        go_ret
        exact ⟨by rw [HV.out]; rfl, HB2.out⟩
      | false =>
        have HQ : Hid (q1 = false ∧ q2 = false ∧ (false : Bool) = false) := (by obtain ⟨h1, h2⟩ := hq.out; exact ⟨h1, h2, rfl⟩ : q1 = false ∧ q2 = false ∧ (false : Bool) = false)
        go_wp2_with fail
        refine (S3.out _ HM2.out).mono ?_
        rintro e w5 ⟨rfl, hw5⟩
        rw [hw5]
        clear hw5
        go_wp2
        go_roundw
        case rel => first | exact ⟨.inr (.inr (.inr (.inl ⟨rfl, HQ⟩))), rfl⟩ | exact ⟨.inr (.inr (.inr (.inl ⟨rfl, HQ⟩))), trivial⟩
        case measure => simp [intOf]
    · cases q4 with
      | true =>
        have HV : Hid (IP = true) := (by obtain ⟨h1, h2, h3⟩ := hq.out; rw [HI.out, h1, h2, h3]; simp : IP = true)
        go_wp2_with fail
        refine (S4.out _ HM2.out).mono ?_
        rintro e w5 ⟨rfl, hw5⟩
        rw [hw5]
        clear hw5
        go_wp2
        go_ret
        exact ⟨by rw [HV.out]; rfl, HB2.out⟩
      | false =>
        have HQ : Hid (q1 = false ∧ q2 = false ∧ q3 = false ∧ (false : Bool) = false) := (by obtain ⟨h1, h2, h3⟩ := hq.out; exact ⟨h1, h2, h3, rfl⟩ : q1 = false ∧ q2 = false ∧ q3 = false ∧ (false : Bool) = false)
        go_wp2_with fail
        refine (S4.out _ HM2.out).mono ?_
        rintro e w5 ⟨rfl, hw5⟩
        rw [hw5]
        clear hw5
        go_wp2
        go_roundw
        case rel => first | exact ⟨.inr (.inr (.inr (.inr ⟨rfl, HQ⟩))), rfl⟩ | exact ⟨.inr (.inr (.inr (.inr ⟨rfl, HQ⟩))), trivial⟩
        case measure => simp [intOf]
    · have HV : Hid (IP = false) := (by obtain ⟨h1, h2, h3, h4⟩ := hq.out; rw [HI.out, h1, h2, h3, h4]; rfl : IP = false)
      go_wp2
      go_ret
      exact ⟨by rw [HV.out]; rfl, HB2.out⟩

set_option maxRecDepth 100000 in
set_option maxHeartbeats 1000000 in
theorem marked_any (p : P5) (b : List UInt8) (hp : szT p ≤ 1048576) (B : Nat) (w : World) (hm : ML w) (hB : w.cell? ⟨B, 0, none⟩ = some (.string (str (45 :: 45 :: b)))) (hBl : B < w.heap.size) :
    Calls Tryz.prog 18 #[.agg #[.string (str p.n), .string (str p.f), .string (str p.m), .string (str p.b), .bool p.h], .pointer (some ⟨B, 0, none⟩)] w fun e w' => e = .returned (.bool (inP p b)) ∧ Below w.heap.size w w' := by
  have HH : Hid (∀ W, ML W → _) := fun W h => hasMark_any p b hp W h
  have HB1 : Hid (Below w.heap.size w (w.alloc (.cells #[.string (str p.n), .string (str p.f), .string (str p.m), .string (str p.b), .bool p.h] 41))) := (Below.refl _ w).alloc (Nat.le_refl _) _
  have HM : Hid (ML w) := hm
  clear hm
  generalize inP p b = IP at *
  generalize str p.n = N1 at *
  generalize str p.f = F1 at *
  generalize str p.m = M1 at *
  generalize str p.b = B1 at *
  generalize p.h = H1 at *
  generalize str (45 :: 45 :: b) = MK at *
  go_enter Tryz.func18, Tryz.ntmps18
  go_wp2_with fail
  refine (HH.out _ (HM.out.below HB1.out)).mono ?_
  rintro e w2 ⟨rfl, hb2⟩
  have HB2 : Hid (Below w.heap.size w w2) := HB1.out.trans (hb2.mono HB1.out.size)
  clear hb2
  go_wp2
  go_ret
  exact ⟨rfl, HB2.out⟩

def idxP (f : P5 → Bool) (t : List P5) : Int := match t.findIdx? f with | some k => (k : Int) | none => -1
theorem idxP_at {f : P5 → Bool} {t : List P5} {k : Nat} (hk : k < t.length) (h : f (nthT t k) = true) (hall : ∀ j, j < k → f (nthT t j) = false) : idxP f t = k := by
  unfold idxP
  have e : t.findIdx? f = some k := by
    rw [List.findIdx?_eq_some_iff_getElem]
    have en : ∀ j (hj : j < t.length), nthT t j = t[j] := fun j hj => by unfold nthT; rw [List.getD_eq_getElem?_getD, List.getElem?_eq_getElem hj]; rfl
    refine ⟨hk, by rw [← en k hk]; exact h, fun j hj => ?_⟩
    have := hall j hj
    rw [en j (by omega)] at this
    simp [this]
  rw [e]
theorem idxP_none {f : P5 → Bool} {t : List P5} (hall : ∀ j, j < t.length → f (nthT t j) = false) : idxP f t = -1 := by
  unfold idxP
  have e : t.findIdx? f = none := by
    rw [List.findIdx?_eq_none_iff]
    intro x hx
    obtain ⟨j, hj, rfl⟩ := List.getElem_of_mem hx
    have := hall j hj
    unfold nthT at this
    rw [List.getD_eq_getElem?_getD, List.getElem?_eq_getElem hj] at this
    exact this
  rw [e]
theorem idxP_any (f : P5 → Bool) (t : List P5) : decide (0 ≤ idxP f t) = t.any f := by
  unfold idxP
  cases h : t.findIdx? f with
  | none =>
    rw [List.findIdx?_eq_none_iff] at h
    have : t.any f = false := by rw [List.any_eq_false]; intro x hx; simp [h x hx]
    rw [this]; rfl
  | some k =>
    rw [List.findIdx?_eq_some_iff_getElem] at h
    obtain ⟨hk, hf, _⟩ := h
    have : t.any f = true := by rw [List.any_eq_true]; exact ⟨t[k], List.getElem_mem hk, hf⟩
    rw [this]
    simp

set_option maxRecDepth 100000 in
set_option maxHeartbeats 2000000 in
theorem IndexFunc_P (v : Value) (t : List P5) (hb : t.length + sumT t ≤ 1048576) (b : List UInt8) (B : Nat) (w : World) (hm : ML w) (hB : w.cell? ⟨B, 0, none⟩ = some (.string (str (45 :: 45 :: b)))) (hBl : B < w.heap.size) (hrd : RdT v t w) :
    Calls Tryz.prog 42 #[v, .func (.func 18) #[] #[.pointer (some ⟨B, 0, none⟩)]] w fun e w' => e = .returned (.int .i64 (idxP (fun p => inP p b) t)) ∧ Below w.heap.size w w' := by
  have HR : Hid (RdT v t w) := hrd
  obtain ⟨a, c, rfl, _⟩ := hrd
  have HM : Hid (ML w) := hm
  have HBx : Hid (w.cell? ⟨B, 0, none⟩ = some (.string (str (45 :: 45 :: b)))) := hB
  clear hm hB
  go_enter Tryz.func42, Tryz.ntmps42
  go_wp2
  go_loopw [8] (fun i wr => ∃ k : Nat, k ≤ t.length ∧ i = .int .i64 k ∧ Hid (∀ j, j < k → inP (nthT t j) b = false) ∧ Hid (Below w.heap.size w wr)) (fun i _ => t.length - (intOf i).toNat)
  case atStart => exact ⟨0, Nat.zero_le _, rfl, (fun j hj => absurd hj (Nat.not_lt_zero _) : ∀ j, j < 0 → _), Below.refl _ _⟩
  case round =>
    obtain ⟨k, hk, rfl, hall, hbl⟩ := hrel
    by_cases hlt : k < t.length
    · obtain ⟨a', c', e', hcs⟩ := HR.out.below hbl.out
      injection e' with e1 _ e2
      subst e1 e2
      rcases hcs with h | ⟨g, o, rfl, hlc, hcell⟩
      · rw [h] at hlt; simp at hlt
      obtain ⟨p0, p1, p2, p3, p4⟩ := hcell k hlt
      clear hcell
      have hsz := szT_le t k hlt
      have HN : Hid (Calls Tryz.prog 18 #[.agg #[.string (str (nthT t k).n), .string (str (nthT t k).f), .string (str (nthT t k).m), .string (str (nthT t k).b), .bool (nthT t k).h], .pointer (some ⟨B, 0, none⟩)] wr fun e w' => e = .returned (.bool (inP (nthT t k) b)) ∧ Below wr.heap.size wr w') :=
        marked_any (nthT t k) b (by omega) B wr (HM.out.below hbl.out) ((hbl.out.cell (p := ⟨B, 0, none⟩) hBl).trans HBx.out) (Nat.lt_of_lt_of_le hBl hbl.out.size)
      have HT : inP (nthT t k) b = true → Hid (idxP (fun p => inP p b) t = k) := fun h => idxP_at (f := fun p => inP p b) hlt h hall.out
      have HF : inP (nthT t k) b = false → Hid (∀ j, j < k + 1 → inP (nthT t j) b = false) := fun h j hj => by
        by_cases hjk : j = k
        · subst hjk; exact h
        · exact hall.out j (by omega)
      generalize str (nthT t k).n = X0 at p0 HN
      generalize str (nthT t k).f = X1 at p1 HN
      generalize str (nthT t k).m = X2 at p2 HN
      generalize str (nthT t k).b = X3 at p3 HN
      generalize inP (nthT t k) b = q at HN HT HF
      generalize (nthT t k).h = Z at p4 HN
      cases q with
      | true =>
        have HT2 := HT rfl
        clear HT HF
        go_wp2_with fail
        refine HN.out.mono ?_
        rintro e w2 ⟨rfl, hb2⟩
        have HB2 : Hid (Below w.heap.size w w2) := bel_trans hbl.out hb2
        clear hb2
        go_wp2
        go_ret
        exact ⟨ret_int HT2.out.symm, HB2.out⟩
      | false =>
        have HF2 := HF rfl
        clear HT HF
        go_wp2_with fail
        refine HN.out.mono ?_
        rintro e w2 ⟨rfl, hb2⟩
        have HB2 : Hid (Below w.heap.size w w2) := bel_trans hbl.out hb2
        clear hb2
        go_wp2
        go_roundw
        case rel => exact ⟨k + 1, by omega, by go_num, HF2, HB2⟩
        case measure => simp [intOf]; omega
    · have HE : Hid (idxP (fun p => inP p b) t = -1) := idxP_none (fun j hj => hall.out j (by omega))
      go_wp2
      go_ret
      exact ⟨ret_int HE.out.symm, hbl.out⟩

set_option maxRecDepth 100000 in
set_option maxHeartbeats 1000000 in
theorem ContainsFunc_P (v : Value) (t : List P5) (hb : t.length + sumT t ≤ 1048576) (b : List UInt8) (B : Nat) (w : World) (hm : ML w) (hB : w.cell? ⟨B, 0, none⟩ = some (.string (str (45 :: 45 :: b)))) (hBl : B < w.heap.size) (hrd : RdT v t w) :
    Calls Tryz.prog 21 #[v, .func (.func 18) #[] #[.pointer (some ⟨B, 0, none⟩)]] w fun e w' => e = .returned (.bool (standsR t b)) ∧ Below w.heap.size w w' := by
  have H := IndexFunc_P v t hb b B w hm hB hBl hrd
  have HA : Hid (decide (0 ≤ idxP (fun p => inP p b) t) = standsR t b) := idxP_any _ _
  clear hrd hB hm
  generalize idxP (fun p => inP p b) t = z at *
  generalize standsR t b = q at *
  go_enter Tryz.func21, Tryz.ntmps21
  go_wp2_with fail
  refine H.mono ?_
  rintro e w2 ⟨rfl, hb2⟩
  go_wp2
  go_ret
  exact ⟨ret_bool HA.out, hb2⟩

end Wr
end Go.Proofs.YtndglpjkmgcdpaaGreatDoor

/-
  sheet.printHead (written by mkwrb.py).
-/
set_option linter.unusedVariables false
set_option linter.unusedSimpArgs false
namespace Go.Proofs.YtndglpjkmgcdpaaGreatDoor
open Go.RowKit Go.Shelf
namespace Wr
open Oc Tg Pt

theorem cells_new (w : World) (T : Nat) (p : P5) : CellT (w.alloc (.cells #[.string (str p.n), .string (str p.f), .string (str p.m), .string (str p.b), .bool p.h] T)) w.heap.size 0 p := by
  have e := heap_alloc_new w (.cells #[.string (str p.n), .string (str p.f), .string (str p.m), .string (str p.b), .bool p.h] T)
  exact ⟨by rw [Lib.cell_of_heap e]; rfl, by rw [Lib.cell_of_heap e]; rfl, by rw [Lib.cell_of_heap e]; rfl, by rw [Lib.cell_of_heap e]; rfl, by rw [Lib.cell_of_heap e]; rfl⟩
theorem emp_dec (l : List UInt8) : (str l).toList.isEmpty = decide (l = []) := by
  rw [ByteArray.toList_eq, str_list, Bool.eq_iff_iff, decide_eq_true_iff]
  simp
theorem cat2 (a b : List UInt8) : str a ++ str b = str (a ++ b) := Fd.str_app a b
theorem ownF_one (B : Nat) (w : World) (a b : ByteArray) (p : Fd.Fl) (h1 : a = str p.1) (h2 : b = str p.2) (hB : B ≤ w.heap.size) : Fd.OwnF 92 B (.slice (some ⟨w.heap.size, 0, none⟩) 1 1) [p] (w.alloc (.cells #[.string a, .string b] 92)) := by
  subst h1 h2
  exact ⟨by simp [Fd.encF, Fd.encF1], .inr ⟨w.heap.size, 1, #[.string (str p.1), .string (str p.2)], rfl, hB, heap_alloc_new w _, by simp, by decide, by simp, by simp [Fd.encF, Fd.encF1]⟩⟩

set_option maxRecDepth 100000 in
set_option maxHeartbeats 4000000 in
theorem printHead_any (p : P5) (hp : szT p ≤ 1048576) (w : World) (ht : Tab w) :
    Calls Tryz.prog 22 #[.agg #[.string (str p.n), .string (str p.f), .string (str p.m), .string (str p.b), .bool p.h]] w fun e w' => ∃ X, e = .returned (.tuple #[.string X, .bool (okPt p)]) ∧ (okPt p = true → X = str (headR p)) ∧ Below w.heap.size w w' := by
  have hsf := sum_flds p hp
  have hpf := print_flds p
  unfold szT at hp
  have HQ1 : Hid (∀ W, Calls Tryz.prog 43 #[.string (str p.n)] W fun e w' => e = .returned (.tuple #[.string (str (quoteR p.n).1), .int .i64 (quoteR p.n).2]) ∧ Below W.heap.size W w') := fun W => by
    have := Quote_any (str p.n) (by rw [str_size]; omega) W
    rw [str_list] at this
    exact this
  have HQ2 : Hid (∀ W, Calls Tryz.prog 43 #[.string (str p.f)] W fun e w' => e = .returned (.tuple #[.string (str (quoteR p.f).1), .int .i64 (quoteR p.f).2]) ∧ Below W.heap.size W w') := fun W => by
    have := Quote_any (str p.f) (by rw [str_size]; omega) W
    rw [str_list] at this
    exact this
  have HC : Hid (CellT (w.alloc (.cells #[.string (str p.n), .string (str p.f), .string (str p.m), .string (str p.b), .bool p.h] 41)) w.heap.size 0 p) := cells_new w _ p
  have HB1 : Hid (Below w.heap.size w (w.alloc (.cells #[.string (str p.n), .string (str p.f), .string (str p.m), .string (str p.b), .bool p.h] 41))) := (Below.refl _ w).alloc (Nat.le_refl _) _
  have HZ1 : Hid ((w.alloc (.cells #[.string (str p.n), .string (str p.f), .string (str p.m), .string (str p.b), .bool p.h] 41)).heap.size = w.heap.size + 1) := (by simp : _ = _)
  have HTab : Hid (Tab w) := ht
  have HPs : Hid (pass p = (isFld p.n && (isFld p.f && (p.h || decide (p.f = []))))) := (rfl : _ = _)
  have HOk : Hid (pass p = false → okPt p = false) := fun h => by unfold okPt; rw [h]; rfl
  have HPr : Hid (∀ v W, Fd.RdF v (flds p) W → Tab W → Calls Tryz.prog 44 #[v] W fun e w' => e = .returned (.tuple #[.string (str (Fd.printT (flds p)).1), .int .i64 (Fd.printT (flds p)).2]) ∧ Below W.heap.size W w') := fun v W h1 h2 => Fd.Print_any v (flds p) hsf W h1 h2
  have hqn := qText_len p.n
  have hqf := qText_len p.f
  have hvl := val_len p
  have HYes : Hid (okPt p = true → pass p = true → Fd.printT (flds p) = (headR p, 0)) := hpf.1
  have HNo : Hid (okPt p = false → pass p = true → (Fd.printT (flds p)).2 ≠ 0) := hpf.2
  clear ht hsf hpf
  cases hn : isFld p.n with
  | false =>
    have hq : quoteR p.n = ([], 13) := by unfold quoteR; rw [hn]; rfl
    rw [hq] at HQ1
    have HV : Hid (okPt p = false) := HOk.out (by rw [HPs.out, hn]; rfl)
    rw [HV.out]
    clear hq hn HPs HOk HPr HYes HNo
    generalize quoteR p.f = QF at *
    obtain ⟨QF1, QF2⟩ := QF
    dsimp only at HQ1 HQ2
    obtain ⟨w1, hw1⟩ : ∃ w1, w1 = w.alloc (.cells #[.string (str p.n), .string (str p.f), .string (str p.m), .string (str p.b), .bool p.h] 41) := ⟨_, rfl⟩
    rw [← hw1] at HC HB1 HZ1
    obtain ⟨d0, d1, d2, d3, d4⟩ := HC.out
    have d1' : w1.cell? ⟨w.heap.size, 1, none⟩ = some (.string (str p.f)) := d1
    have d2' : w1.cell? ⟨w.heap.size, 2, none⟩ = some (.string (str p.m)) := d2
    have d4' : w1.cell? ⟨w.heap.size, 4, none⟩ = some (.bool p.h) := d4
    clear d1 d2 d3 d4 HC
    generalize str p.f = PF at *
    generalize str p.m = PM at *
    generalize str p.n = PN at *
    generalize str p.b = PB at *
    generalize p.h = PH at *
    have hg1 : w.heap.size < w1.heap.size := by rw [HZ1.out]; exact Nat.lt_succ_self _
    go_enter Tryz.func22, Tryz.ntmps22
    go_wp2_with fail
    rw [← hw1]
    clear hw1
    refine (HQ1.out _).mono ?_
    rintro e w2 ⟨rfl, hb2⟩
    have HB2 : Hid (Below w.heap.size w w2) := HB1.out.trans (hb2.mono HB1.out.size)
    have f1 : w2.cell? ⟨w.heap.size, 1, none⟩ = some (.string PF) := (hb2.cell (p := ⟨w.heap.size, 1, none⟩) hg1).trans d1'
    have f2 : w2.cell? ⟨w.heap.size, 2, none⟩ = some (.string PM) := (hb2.cell (p := ⟨w.heap.size, 2, none⟩) hg1).trans d2'
    have f4 : w2.cell? ⟨w.heap.size, 4, none⟩ = some (.bool PH) := (hb2.cell (p := ⟨w.heap.size, 4, none⟩) hg1).trans d4'
    have hg2 : w.heap.size < w2.heap.size := Nat.lt_of_lt_of_le hg1 hb2.size
    clear hb2 d0 d1' d2' d4'
    go_wp2_with fail
    refine (HQ2.out _).mono ?_
    rintro e w3 ⟨rfl, hb3⟩
    have HB3 : Hid (Below w.heap.size w w3) := HB2.out.trans (hb3.mono HB2.out.size)
    have g1 : w3.cell? ⟨w.heap.size, 1, none⟩ = some (.string PF) := (hb3.cell (p := ⟨w.heap.size, 1, none⟩) hg2).trans f1
    have g2 : w3.cell? ⟨w.heap.size, 2, none⟩ = some (.string PM) := (hb3.cell (p := ⟨w.heap.size, 2, none⟩) hg2).trans f2
    have g4 : w3.cell? ⟨w.heap.size, 4, none⟩ = some (.bool PH) := (hb3.cell (p := ⟨w.heap.size, 4, none⟩) hg2).trans f4
    have hg3 : w.heap.size < w3.heap.size := Nat.lt_of_lt_of_le hg2 hb3.size
    clear hb3 f1 f2 f4
    go_wp2
    go_ret2
    exact ⟨_, rfl, (fun h => by cases h), HB3.out⟩
  | true =>
    have hq : quoteR p.n = (qText p.n, 0) := by unfold quoteR; rw [hn]; rfl
    rw [hq] at HQ1
    cases hf : isFld p.f with
    | false =>
      have hq2 : quoteR p.f = ([], 13) := by unfold quoteR; rw [hf]; rfl
      rw [hq2] at HQ2
      have HV : Hid (okPt p = false) := HOk.out (by rw [HPs.out, hn, hf]; rfl)
      rw [HV.out]
      clear hq hq2 hn hf HPs HOk HPr HYes HNo
      dsimp only at HQ1 HQ2
      obtain ⟨w1, hw1⟩ : ∃ w1, w1 = w.alloc (.cells #[.string (str p.n), .string (str p.f), .string (str p.m), .string (str p.b), .bool p.h] 41) := ⟨_, rfl⟩
      rw [← hw1] at HC HB1 HZ1
      obtain ⟨d0, d1, d2, d3, d4⟩ := HC.out
      have d1' : w1.cell? ⟨w.heap.size, 1, none⟩ = some (.string (str p.f)) := d1
      have d2' : w1.cell? ⟨w.heap.size, 2, none⟩ = some (.string (str p.m)) := d2
      have d4' : w1.cell? ⟨w.heap.size, 4, none⟩ = some (.bool p.h) := d4
      clear d1 d2 d3 d4 HC
      generalize str p.f = PF at *
      generalize str p.m = PM at *
      generalize str p.n = PN at *
      generalize str p.b = PB at *
      generalize p.h = PH at *
      have hg1 : w.heap.size < w1.heap.size := by rw [HZ1.out]; exact Nat.lt_succ_self _
      go_enter Tryz.func22, Tryz.ntmps22
      go_wp2_with fail
      rw [← hw1]
      clear hw1
      refine (HQ1.out _).mono ?_
      rintro e w2 ⟨rfl, hb2⟩
      have HB2 : Hid (Below w.heap.size w w2) := HB1.out.trans (hb2.mono HB1.out.size)
      have f1 : w2.cell? ⟨w.heap.size, 1, none⟩ = some (.string PF) := (hb2.cell (p := ⟨w.heap.size, 1, none⟩) hg1).trans d1'
      have f2 : w2.cell? ⟨w.heap.size, 2, none⟩ = some (.string PM) := (hb2.cell (p := ⟨w.heap.size, 2, none⟩) hg1).trans d2'
      have f4 : w2.cell? ⟨w.heap.size, 4, none⟩ = some (.bool PH) := (hb2.cell (p := ⟨w.heap.size, 4, none⟩) hg1).trans d4'
      have hg2 : w.heap.size < w2.heap.size := Nat.lt_of_lt_of_le hg1 hb2.size
      clear hb2 d0 d1' d2' d4'
      go_wp2_with fail
      refine (HQ2.out _).mono ?_
      rintro e w3 ⟨rfl, hb3⟩
      have HB3 : Hid (Below w.heap.size w w3) := HB2.out.trans (hb3.mono HB2.out.size)
      have g1 : w3.cell? ⟨w.heap.size, 1, none⟩ = some (.string PF) := (hb3.cell (p := ⟨w.heap.size, 1, none⟩) hg2).trans f1
      have g2 : w3.cell? ⟨w.heap.size, 2, none⟩ = some (.string PM) := (hb3.cell (p := ⟨w.heap.size, 2, none⟩) hg2).trans f2
      have g4 : w3.cell? ⟨w.heap.size, 4, none⟩ = some (.bool PH) := (hb3.cell (p := ⟨w.heap.size, 4, none⟩) hg2).trans f4
      have hg3 : w.heap.size < w3.heap.size := Nat.lt_of_lt_of_le hg2 hb3.size
      clear hb3 f1 f2 f4
      go_wp2
      go_ret2
      exact ⟨_, rfl, (fun h => by cases h), HB3.out⟩
    | true =>
      have hq2 : quoteR p.f = (qText p.f, 0) := by unfold quoteR; rw [hf]; rfl
      rw [hq2] at HQ2
      dsimp only at HQ1 HQ2
      have zq1 : (str (qText p.n)).size ≤ 2097154 := by rw [str_size]; omega
      have zq2 : (str (qText p.f)).size ≤ 2097154 := by rw [str_size]; omega
      have HEf : Hid ((str p.f).toList.isEmpty = decide (p.f = [])) := emp_dec p.f
      have HEm : Hid ((str p.m).toList.isEmpty = decide (p.m = [])) := emp_dec p.m
      have HPs2 : Hid (pass p = (p.h || decide (p.f = []))) := (by rw [HPs.out, hn, hf]; rfl : _ = _)
      have HV1 : Hid (p.h = true → str K1 ++ str (qText p.n) ++ (str K2 ++ str (qText p.f)) = str (valR p)) := fun h => by unfold valR; rw [if_pos h, cat2, cat2, cat2]
      have HV0 : Hid (p.h = false → str K1 ++ str (qText p.n) = str (valR p)) := fun h => by unfold valR; rw [if_neg (by rw [h]; simp), cat2]
      have hvz : (str (valR p)).size ≤ 4000000 := by rw [str_size]; omega
      have HFl1 : Hid (p.m = [] → flds p = [(CD, valR p)]) := fun h => by unfold flds; rw [if_pos h]
      have HFl2 : Hid (p.m ≠ [] → flds p = [(CD, valR p), (CT, p.m)]) := fun h => by unfold flds; rw [if_neg h]
      clear hq hq2 hn hf HPs
      generalize hp1 : p.h = ph at *
      cases ph with
      | false =>
        by_cases hfe : p.f = []
        · have HPs3 : Hid (pass p = true) := (by rw [HPs2.out, decide_eq_true hfe]; rfl : _ = _)
          have hfe' : (str p.f).toList.isEmpty = true := by rw [HEf.out, decide_eq_true hfe]
          have HVV : Hid (str K1 ++ str (qText p.n) = str (valR p)) := HV0.out rfl
          clear HPs2 HOk HV1 HV0 hfe
          obtain ⟨w1, hw1⟩ : ∃ w1, w1 = w.alloc (.cells #[.string (str p.n), .string (str p.f), .string (str p.m), .string (str p.b), .bool false] 41) := ⟨_, rfl⟩
          rw [← hw1] at HC HB1 HZ1
          obtain ⟨d0, d1, d2, d3, d4⟩ := HC.out
          have d1' : w1.cell? ⟨w.heap.size, 1, none⟩ = some (.string (str p.f)) := d1
          have d2' : w1.cell? ⟨w.heap.size, 2, none⟩ = some (.string (str p.m)) := d2
          have d4' : w1.cell? ⟨w.heap.size, 4, none⟩ = some (.bool false) := by rw [← hp1]; exact d4
          clear d1 d2 d3 d4 HC
          generalize hPM : str p.m = PM at *
          generalize str p.f = PF at *
          generalize str p.n = PN at *
          generalize str p.b = PB at *

          have hg1 : w.heap.size < w1.heap.size := by rw [HZ1.out]; exact Nat.lt_succ_self _
          go_enter Tryz.func22, Tryz.ntmps22
          go_wp2_with fail
          rw [← hw1]
          clear hw1
          refine (HQ1.out _).mono ?_
          rintro e w2 ⟨rfl, hb2⟩
          have HB2 : Hid (Below w.heap.size w w2) := HB1.out.trans (hb2.mono HB1.out.size)
          have f1 : w2.cell? ⟨w.heap.size, 1, none⟩ = some (.string PF) := (hb2.cell (p := ⟨w.heap.size, 1, none⟩) hg1).trans d1'
          have f2 : w2.cell? ⟨w.heap.size, 2, none⟩ = some (.string PM) := (hb2.cell (p := ⟨w.heap.size, 2, none⟩) hg1).trans d2'
          have f4 : w2.cell? ⟨w.heap.size, 4, none⟩ = some (.bool false) := (hb2.cell (p := ⟨w.heap.size, 4, none⟩) hg1).trans d4'
          have hg2 : w.heap.size < w2.heap.size := Nat.lt_of_lt_of_le hg1 hb2.size
          clear hb2 d0 d1' d2' d4'
          go_wp2_with fail
          refine (HQ2.out _).mono ?_
          rintro e w3 ⟨rfl, hb3⟩
          have HB3 : Hid (Below w.heap.size w w3) := HB2.out.trans (hb3.mono HB2.out.size)
          have g1 : w3.cell? ⟨w.heap.size, 1, none⟩ = some (.string PF) := (hb3.cell (p := ⟨w.heap.size, 1, none⟩) hg2).trans f1
          have g2 : w3.cell? ⟨w.heap.size, 2, none⟩ = some (.string PM) := (hb3.cell (p := ⟨w.heap.size, 2, none⟩) hg2).trans f2
          have g4 : w3.cell? ⟨w.heap.size, 4, none⟩ = some (.bool false) := (hb3.cell (p := ⟨w.heap.size, 4, none⟩) hg2).trans f4
          have hg3 : w.heap.size < w3.heap.size := Nat.lt_of_lt_of_le hg2 hb3.size
          clear hb3 f1 f2 f4
          generalize hVS : str (valR p) = VS at *
          have HVS : Hid (VS = str (valR p)) := hVS.symm
          generalize hKN : str (qText p.n) = QN at *
          generalize hKF : str (qText p.f) = QF at *
          clear hVS hKN hKF
          have hmd : Hid (PM = str p.m) := hPM.symm
          clear hPM
          have HCD : Hid ((⟨#[67, 111, 110, 116, 101, 110, 116, 45, 68, 105, 115, 112, 111, 115, 105, 116, 105, 111, 110]⟩ : ByteArray) = str CD) := (rfl : _ = _)
          have HCT : Hid ((⟨#[67, 111, 110, 116, 101, 110, 116, 45, 84, 121, 112, 101]⟩ : ByteArray) = str CT) := (rfl : _ = _)
          have hk1 : str K1 = (⟨#[102, 111, 114, 109, 45, 100, 97, 116, 97, 59, 32, 110, 97, 109, 101, 61]⟩ : ByteArray) := rfl
          have hk2 : str K2 = (⟨#[59, 32, 102, 105, 108, 101, 110, 97, 109, 101, 61]⟩ : ByteArray) := rfl
          have HVV2 : Hid ((⟨#[102, 111, 114, 109, 45, 100, 97, 116, 97, 59, 32, 110, 97, 109, 101, 61]⟩ : ByteArray) ++ QN = VS) := HVV.out
          have hq1 : 16 + QN.size ≤ 9223372036854775807 := by omega
          have hq2 : 11 + QF.size ≤ 9223372036854775807 := by omega
          have hq3 : 16 + QN.size + (11 + QF.size) ≤ 9223372036854775807 := by omega
          have hz3 : w.heap.size + 1 ≤ w3.heap.size := hg3
          have HO4 : Hid (Fd.OwnF 92 (w.heap.size + 1) (.slice (some ⟨w3.heap.size, 0, none⟩) 1 1) [(CD, valR p)] (w3.alloc (.cells #[.string ⟨#[67, 111, 110, 116, 101, 110, 116, 45, 68, 105, 115, 112, 111, 115, 105, 116, 105, 111, 110]⟩, .string VS] 92))) := ownF_one _ w3 _ _ (CD, valR p) HCD.out HVS.out hz3
          have HB4 : Hid (Below w.heap.size w (w3.alloc (.cells #[.string ⟨#[67, 111, 110, 116, 101, 110, 116, 45, 68, 105, 115, 112, 111, 115, 105, 116, 105, 111, 110]⟩, .string VS] 92))) := HB3.out.alloc HB3.out.size _
          have HZ4 : Hid (w.heap.size + 1 ≤ (w3.alloc (.cells #[.string ⟨#[67, 111, 110, 116, 101, 110, 116, 45, 68, 105, 115, 112, 111, 115, 105, 116, 105, 111, 110]⟩, .string VS] 92)).heap.size) := (by simp; omega : _ ≤ _)
          by_cases hme : p.m = []
          · have hme' : PM.toList.isEmpty = true := by rw [HEm.out, decide_eq_true hme]
            rw [HFl1.out hme] at HPr HYes HNo
            have HRd : Hid (Fd.RdF (.slice (some ⟨w3.heap.size, 0, none⟩) 1 1) [(CD, valR p)] (w3.alloc (.cells #[.string ⟨#[67, 111, 110, 116, 101, 110, 116, 45, 68, 105, 115, 112, 111, 115, 105, 116, 105, 111, 110]⟩, .string VS] 92))) := Fd.OwnF.rd HO4.out
            go_wp2_with fail
            rw [HVV2.out]
            refine (HPr.out _ _ HRd.out (HTab.out.below HB4.out (Nat.le_refl _))).mono ?_
            rintro e w5 ⟨rfl, hb5⟩
            have HB5 : Hid (Below w.heap.size w w5) := HB4.out.trans (hb5.mono HB4.out.size)
            clear hb5
            cases hok : okPt p with
            | true =>
              have hpr := HYes.out hok HPs3.out
              rw [hpr]
              dsimp only
              have HX : Hid (str (headR p) = str (headR p)) := (rfl : _ = _)
              go_wp2
              go_ret2
              first | exact ⟨_, rfl, (fun _ => rfl), HB5.out⟩ | exact ⟨_, rfl, rfl, HB5.out⟩ | exact ⟨_, rfl, HB5.out⟩ | exact ⟨⟨_, rfl⟩, HB5.out⟩
            | false =>
              have hpr := HNo.out hok HPs3.out
              generalize Fd.printT _ = PT at *
              obtain ⟨PT1, PT2⟩ := PT
              dsimp only at hpr ⊢
              have hpr' : (PT2 == 0) = false := by simpa using hpr
              go_wp2
              go_ret2
              first | exact ⟨_, rfl, (fun h => by cases h), HB5.out⟩ | exact ⟨_, rfl, HB5.out⟩ | exact ⟨⟨_, rfl⟩, HB5.out⟩
          · have hme' : PM.toList.isEmpty = false := by rw [HEm.out, decide_eq_false hme]
            rw [HFl2.out hme] at HPr HYes HNo
            have g2b : (w3.alloc (.cells #[.string ⟨#[67, 111, 110, 116, 101, 110, 116, 45, 68, 105, 115, 112, 111, 115, 105, 116, 105, 111, 110]⟩, .string VS] 92)).cell? ⟨w.heap.size, 2, none⟩ = some (.string PM) := (((Below.refl _ w3).alloc (Nat.le_refl _) _).cell (p := ⟨w.heap.size, 2, none⟩) hg3).trans g2
            go_wp2_with (at_builtin; rw [HVV2.out]; go_must (refine Fd.wp_appF 92 93 Fd.infoF Tryz.underlying93 rfl (.tmp 53) (.tmp 57) rfl (w.heap.size + 1) _ [(CD, valR p)] _ (CT, p.m) _ _ HCT.out hmd.out rfl HO4.out _ rfl (by simp) (by simp) HZ4.out ?_); intro v6 w6 ho6 hb6; have HR6 : Hid (Fd.RdF v6 [(CD, valR p), (CT, p.m)] w6) := Fd.OwnF.rd ho6; have HB6 : Hid (Below w.heap.size w w6) := HB4.out.trans (hb6.mono (Nat.le_succ _)); clear ho6 hb6)
            refine (HPr.out _ _ HR6.out (HTab.out.below HB6.out (Nat.le_refl _))).mono ?_
            rintro e w5 ⟨rfl, hb5⟩
            have HB5 : Hid (Below w.heap.size w w5) := HB6.out.trans (hb5.mono HB6.out.size)
            clear hb5
            cases hok : okPt p with
            | true =>
              have hpr := HYes.out hok HPs3.out
              rw [hpr]
              dsimp only
              have HX : Hid (str (headR p) = str (headR p)) := (rfl : _ = _)
              go_wp2
              go_ret2
              first | exact ⟨_, rfl, (fun _ => rfl), HB5.out⟩ | exact ⟨_, rfl, rfl, HB5.out⟩ | exact ⟨_, rfl, HB5.out⟩ | exact ⟨⟨_, rfl⟩, HB5.out⟩
            | false =>
              have hpr := HNo.out hok HPs3.out
              generalize Fd.printT _ = PT at *
              obtain ⟨PT1, PT2⟩ := PT
              dsimp only at hpr ⊢
              have hpr' : (PT2 == 0) = false := by simpa using hpr
              go_wp2
              go_ret2
              first | exact ⟨_, rfl, (fun h => by cases h), HB5.out⟩ | exact ⟨_, rfl, HB5.out⟩ | exact ⟨⟨_, rfl⟩, HB5.out⟩
        · have HV : Hid (okPt p = false) := HOk.out (by rw [HPs2.out, decide_eq_false hfe]; rfl)
          have hfe' : (str p.f).toList.isEmpty = false := by rw [HEf.out, decide_eq_false hfe]
          rw [HV.out]
          clear HPs2 HOk HPr HYes HNo HFl1 HFl2 HV1 HV0 hfe
          obtain ⟨w1, hw1⟩ : ∃ w1, w1 = w.alloc (.cells #[.string (str p.n), .string (str p.f), .string (str p.m), .string (str p.b), .bool false] 41) := ⟨_, rfl⟩
          rw [← hw1] at HC HB1 HZ1
          obtain ⟨d0, d1, d2, d3, d4⟩ := HC.out
          have d1' : w1.cell? ⟨w.heap.size, 1, none⟩ = some (.string (str p.f)) := d1
          have d2' : w1.cell? ⟨w.heap.size, 2, none⟩ = some (.string (str p.m)) := d2
          have d4' : w1.cell? ⟨w.heap.size, 4, none⟩ = some (.bool false) := by rw [← hp1]; exact d4
          clear d1 d2 d3 d4 HC
          generalize str p.f = PF at *
          generalize str p.m = PM at *
          generalize str p.n = PN at *
          generalize str p.b = PB at *

          have hg1 : w.heap.size < w1.heap.size := by rw [HZ1.out]; exact Nat.lt_succ_self _
          go_enter Tryz.func22, Tryz.ntmps22
          go_wp2_with fail
          rw [← hw1]
          clear hw1
          refine (HQ1.out _).mono ?_
          rintro e w2 ⟨rfl, hb2⟩
          have HB2 : Hid (Below w.heap.size w w2) := HB1.out.trans (hb2.mono HB1.out.size)
          have f1 : w2.cell? ⟨w.heap.size, 1, none⟩ = some (.string PF) := (hb2.cell (p := ⟨w.heap.size, 1, none⟩) hg1).trans d1'
          have f2 : w2.cell? ⟨w.heap.size, 2, none⟩ = some (.string PM) := (hb2.cell (p := ⟨w.heap.size, 2, none⟩) hg1).trans d2'
          have f4 : w2.cell? ⟨w.heap.size, 4, none⟩ = some (.bool false) := (hb2.cell (p := ⟨w.heap.size, 4, none⟩) hg1).trans d4'
          have hg2 : w.heap.size < w2.heap.size := Nat.lt_of_lt_of_le hg1 hb2.size
          clear hb2 d0 d1' d2' d4'
          go_wp2_with fail
          refine (HQ2.out _).mono ?_
          rintro e w3 ⟨rfl, hb3⟩
          have HB3 : Hid (Below w.heap.size w w3) := HB2.out.trans (hb3.mono HB2.out.size)
          have g1 : w3.cell? ⟨w.heap.size, 1, none⟩ = some (.string PF) := (hb3.cell (p := ⟨w.heap.size, 1, none⟩) hg2).trans f1
          have g2 : w3.cell? ⟨w.heap.size, 2, none⟩ = some (.string PM) := (hb3.cell (p := ⟨w.heap.size, 2, none⟩) hg2).trans f2
          have g4 : w3.cell? ⟨w.heap.size, 4, none⟩ = some (.bool false) := (hb3.cell (p := ⟨w.heap.size, 4, none⟩) hg2).trans f4
          have hg3 : w.heap.size < w3.heap.size := Nat.lt_of_lt_of_le hg2 hb3.size
          clear hb3 f1 f2 f4
          go_wp2
          go_ret2
          exact ⟨_, rfl, (fun h => by cases h), HB3.out⟩
      | true =>
        have HPs3 : Hid (pass p = true) := (by rw [HPs2.out]; rfl : _ = _)
        have HVV : Hid (str K1 ++ str (qText p.n) ++ (str K2 ++ str (qText p.f)) = str (valR p)) := HV1.out rfl
        clear HPs2 HOk HV1 HV0
        obtain ⟨w1, hw1⟩ : ∃ w1, w1 = w.alloc (.cells #[.string (str p.n), .string (str p.f), .string (str p.m), .string (str p.b), .bool true] 41) := ⟨_, rfl⟩
        rw [← hw1] at HC HB1 HZ1
        obtain ⟨d0, d1, d2, d3, d4⟩ := HC.out
        have d1' : w1.cell? ⟨w.heap.size, 1, none⟩ = some (.string (str p.f)) := d1
        have d2' : w1.cell? ⟨w.heap.size, 2, none⟩ = some (.string (str p.m)) := d2
        have d4' : w1.cell? ⟨w.heap.size, 4, none⟩ = some (.bool true) := by rw [← hp1]; exact d4
        clear d1 d2 d3 d4 HC
        generalize hPM : str p.m = PM at *
        generalize str p.f = PF at *
        generalize str p.n = PN at *
        generalize str p.b = PB at *

        have hg1 : w.heap.size < w1.heap.size := by rw [HZ1.out]; exact Nat.lt_succ_self _
        go_enter Tryz.func22, Tryz.ntmps22
        go_wp2_with fail
        rw [← hw1]
        clear hw1
        refine (HQ1.out _).mono ?_
        rintro e w2 ⟨rfl, hb2⟩
        have HB2 : Hid (Below w.heap.size w w2) := HB1.out.trans (hb2.mono HB1.out.size)
        have f1 : w2.cell? ⟨w.heap.size, 1, none⟩ = some (.string PF) := (hb2.cell (p := ⟨w.heap.size, 1, none⟩) hg1).trans d1'
        have f2 : w2.cell? ⟨w.heap.size, 2, none⟩ = some (.string PM) := (hb2.cell (p := ⟨w.heap.size, 2, none⟩) hg1).trans d2'
        have f4 : w2.cell? ⟨w.heap.size, 4, none⟩ = some (.bool true) := (hb2.cell (p := ⟨w.heap.size, 4, none⟩) hg1).trans d4'
        have hg2 : w.heap.size < w2.heap.size := Nat.lt_of_lt_of_le hg1 hb2.size
        clear hb2 d0 d1' d2' d4'
        go_wp2_with fail
        refine (HQ2.out _).mono ?_
        rintro e w3 ⟨rfl, hb3⟩
        have HB3 : Hid (Below w.heap.size w w3) := HB2.out.trans (hb3.mono HB2.out.size)
        have g1 : w3.cell? ⟨w.heap.size, 1, none⟩ = some (.string PF) := (hb3.cell (p := ⟨w.heap.size, 1, none⟩) hg2).trans f1
        have g2 : w3.cell? ⟨w.heap.size, 2, none⟩ = some (.string PM) := (hb3.cell (p := ⟨w.heap.size, 2, none⟩) hg2).trans f2
        have g4 : w3.cell? ⟨w.heap.size, 4, none⟩ = some (.bool true) := (hb3.cell (p := ⟨w.heap.size, 4, none⟩) hg2).trans f4
        have hg3 : w.heap.size < w3.heap.size := Nat.lt_of_lt_of_le hg2 hb3.size
        clear hb3 f1 f2 f4
        generalize hVS : str (valR p) = VS at *
        have HVS : Hid (VS = str (valR p)) := hVS.symm
        generalize hKN : str (qText p.n) = QN at *
        generalize hKF : str (qText p.f) = QF at *
        clear hVS hKN hKF
        have hmd : Hid (PM = str p.m) := hPM.symm
        clear hPM
        have HCD : Hid ((⟨#[67, 111, 110, 116, 101, 110, 116, 45, 68, 105, 115, 112, 111, 115, 105, 116, 105, 111, 110]⟩ : ByteArray) = str CD) := (rfl : _ = _)
        have HCT : Hid ((⟨#[67, 111, 110, 116, 101, 110, 116, 45, 84, 121, 112, 101]⟩ : ByteArray) = str CT) := (rfl : _ = _)
        have hk1 : str K1 = (⟨#[102, 111, 114, 109, 45, 100, 97, 116, 97, 59, 32, 110, 97, 109, 101, 61]⟩ : ByteArray) := rfl
        have hk2 : str K2 = (⟨#[59, 32, 102, 105, 108, 101, 110, 97, 109, 101, 61]⟩ : ByteArray) := rfl
        have HVV2 : Hid ((⟨#[102, 111, 114, 109, 45, 100, 97, 116, 97, 59, 32, 110, 97, 109, 101, 61]⟩ : ByteArray) ++ QN ++ ((⟨#[59, 32, 102, 105, 108, 101, 110, 97, 109, 101, 61]⟩ : ByteArray) ++ QF) = VS) := HVV.out
        have hq1 : 16 + QN.size ≤ 9223372036854775807 := by omega
        have hq2 : 11 + QF.size ≤ 9223372036854775807 := by omega
        have hq3 : 16 + QN.size + (11 + QF.size) ≤ 9223372036854775807 := by omega
        have hz3 : w.heap.size + 1 ≤ w3.heap.size := hg3
        have HO4 : Hid (Fd.OwnF 92 (w.heap.size + 1) (.slice (some ⟨w3.heap.size, 0, none⟩) 1 1) [(CD, valR p)] (w3.alloc (.cells #[.string ⟨#[67, 111, 110, 116, 101, 110, 116, 45, 68, 105, 115, 112, 111, 115, 105, 116, 105, 111, 110]⟩, .string VS] 92))) := ownF_one _ w3 _ _ (CD, valR p) HCD.out HVS.out hz3
        have HB4 : Hid (Below w.heap.size w (w3.alloc (.cells #[.string ⟨#[67, 111, 110, 116, 101, 110, 116, 45, 68, 105, 115, 112, 111, 115, 105, 116, 105, 111, 110]⟩, .string VS] 92))) := HB3.out.alloc HB3.out.size _
        have HZ4 : Hid (w.heap.size + 1 ≤ (w3.alloc (.cells #[.string ⟨#[67, 111, 110, 116, 101, 110, 116, 45, 68, 105, 115, 112, 111, 115, 105, 116, 105, 111, 110]⟩, .string VS] 92)).heap.size) := (by simp; omega : _ ≤ _)
        by_cases hme : p.m = []
        · have hme' : PM.toList.isEmpty = true := by rw [HEm.out, decide_eq_true hme]
          rw [HFl1.out hme] at HPr HYes HNo
          have HRd : Hid (Fd.RdF (.slice (some ⟨w3.heap.size, 0, none⟩) 1 1) [(CD, valR p)] (w3.alloc (.cells #[.string ⟨#[67, 111, 110, 116, 101, 110, 116, 45, 68, 105, 115, 112, 111, 115, 105, 116, 105, 111, 110]⟩, .string VS] 92))) := Fd.OwnF.rd HO4.out
          go_wp2_with fail
          rw [HVV2.out]
          refine (HPr.out _ _ HRd.out (HTab.out.below HB4.out (Nat.le_refl _))).mono ?_
          rintro e w5 ⟨rfl, hb5⟩
          have HB5 : Hid (Below w.heap.size w w5) := HB4.out.trans (hb5.mono HB4.out.size)
          clear hb5
          cases hok : okPt p with
          | true =>
            have hpr := HYes.out hok HPs3.out
            rw [hpr]
            dsimp only
            have HX : Hid (str (headR p) = str (headR p)) := (rfl : _ = _)
            go_wp2
            go_ret2
            first | exact ⟨_, rfl, (fun _ => rfl), HB5.out⟩ | exact ⟨_, rfl, rfl, HB5.out⟩ | exact ⟨_, rfl, HB5.out⟩ | exact ⟨⟨_, rfl⟩, HB5.out⟩
          | false =>
            have hpr := HNo.out hok HPs3.out
            generalize Fd.printT _ = PT at *
            obtain ⟨PT1, PT2⟩ := PT
            dsimp only at hpr ⊢
            have hpr' : (PT2 == 0) = false := by simpa using hpr
            go_wp2
            go_ret2
            first | exact ⟨_, rfl, (fun h => by cases h), HB5.out⟩ | exact ⟨_, rfl, HB5.out⟩ | exact ⟨⟨_, rfl⟩, HB5.out⟩
        · have hme' : PM.toList.isEmpty = false := by rw [HEm.out, decide_eq_false hme]
          rw [HFl2.out hme] at HPr HYes HNo
          have g2b : (w3.alloc (.cells #[.string ⟨#[67, 111, 110, 116, 101, 110, 116, 45, 68, 105, 115, 112, 111, 115, 105, 116, 105, 111, 110]⟩, .string VS] 92)).cell? ⟨w.heap.size, 2, none⟩ = some (.string PM) := (((Below.refl _ w3).alloc (Nat.le_refl _) _).cell (p := ⟨w.heap.size, 2, none⟩) hg3).trans g2
          go_wp2_with (at_builtin; rw [HVV2.out]; go_must (refine Fd.wp_appF 92 93 Fd.infoF Tryz.underlying93 rfl (.tmp 53) (.tmp 57) rfl (w.heap.size + 1) _ [(CD, valR p)] _ (CT, p.m) _ _ HCT.out hmd.out rfl HO4.out _ rfl (by simp) (by simp) HZ4.out ?_); intro v6 w6 ho6 hb6; have HR6 : Hid (Fd.RdF v6 [(CD, valR p), (CT, p.m)] w6) := Fd.OwnF.rd ho6; have HB6 : Hid (Below w.heap.size w w6) := HB4.out.trans (hb6.mono (Nat.le_succ _)); clear ho6 hb6)
          refine (HPr.out _ _ HR6.out (HTab.out.below HB6.out (Nat.le_refl _))).mono ?_
          rintro e w5 ⟨rfl, hb5⟩
          have HB5 : Hid (Below w.heap.size w w5) := HB6.out.trans (hb5.mono HB6.out.size)
          clear hb5
          cases hok : okPt p with
          | true =>
            have hpr := HYes.out hok HPs3.out
            rw [hpr]
            dsimp only
            have HX : Hid (str (headR p) = str (headR p)) := (rfl : _ = _)
            go_wp2
            go_ret2
            first | exact ⟨_, rfl, (fun _ => rfl), HB5.out⟩ | exact ⟨_, rfl, rfl, HB5.out⟩ | exact ⟨_, rfl, HB5.out⟩ | exact ⟨⟨_, rfl⟩, HB5.out⟩
          | false =>
            have hpr := HNo.out hok HPs3.out
            generalize Fd.printT _ = PT at *
            obtain ⟨PT1, PT2⟩ := PT
            dsimp only at hpr ⊢
            have hpr' : (PT2 == 0) = false := by simpa using hpr
            go_wp2
            go_ret2
            first | exact ⟨_, rfl, (fun h => by cases h), HB5.out⟩ | exact ⟨_, rfl, HB5.out⟩ | exact ⟨⟨_, rfl⟩, HB5.out⟩

end Wr
end Go.Proofs.YtndglpjkmgcdpaaGreatDoor

/-
  The Builder's writes, which leave every block of another type than bytes as it was (written by mkgbe.py).
-/
set_option linter.unusedVariables false
set_option linter.unusedSimpArgs false
namespace Go.Proofs.YtndglpjkmgcdpaaGreatDoor
open Go.RowKit Go.Shelf
namespace Tg
open Oc

/-- Blocks of cells of another type than bytes stay, but for block b. -/
def Kt (b : Nat) (w w' : World) : Prop := ∀ k c T z, k ≠ b → T ≠ 5 → w.heap[k]? = some (.cells c T z) → w'.heap[k]? = some (.cells c T z)
theorem Kt.refl (b : Nat) (w : World) : Kt b w w := fun _ _ _ _ _ _ h => h
theorem Kt.trans {b : Nat} {x y z : World} (h : Kt b x y) (k : Kt b y z) : Kt b x z := fun i c T f hi hT hx => k i c T f hi hT (h i c T f hi hT hx)
theorem Kt.set {b : Nat} (w : World) (j : Nat) (v : Value) : Kt b w (w.setCell ⟨b, j, none⟩ v) := fun k c T z hk hT h => by rw [Below.heap_setCell _ _ _ _ hk]; exact h
theorem Kt.alloc {b : Nat} (w : World) (o : Obj) : Kt b w (w.alloc o) := fun k c T z hk hT h => by rw [Lib.alloc_old w o k (Array.getElem?_eq_some_iff.1 h).1]; exact h
theorem Kt.grown {B b : Nat} {w w' : World} {v : Value} {n : Nat} {xs : List Value} (hg : w.grownBy w' v.ownBlock) (ho : w.ownsRow B 5 1 v n xs) : Kt b w w' := fun k c T z hk hT h => by
  rw [hg.block k (Array.getElem?_eq_some_iff.1 h).1 (fun e => by
    rcases ho.2 with ⟨rfl, _⟩ | ⟨g, cap, cur, rfl, _, hgg, _⟩
    · cases e
    · simp only [Value.ownBlock, Option.some.injEq] at e
      subst e
      rw [hgg] at h
      injection h with h
      injection h with _ h
      exact hT h.symm)]
  exact h
theorem Kt.below {b : Nat} {w w' : World} (h : Below w.heap.size w w') : Kt b w w' := fun k c T z hk hT hh => by rw [h.block k (Array.getElem?_eq_some_iff.1 hh).1]; exact hh

set_option maxHeartbeats 400000 in
theorem copyCheck_bk (B b : Nat) (l : List Value) (w : World) (h : Bd B b l w) :
    Calls Tryz.prog 45 #[.pointer (some ⟨b, 0, none⟩)] w fun e w' => e = .returned (.tuple #[]) ∧ BdAt B b (.pointer (some ⟨b, 0, none⟩)) l w' ∧ Fr B b w w' ∧ Kt b w w' := by
  rcases h with h | h
  · have hI : Lib.BuilderAt 57 5 0 b (.pointer none) l w := by
      obtain ⟨v, a, o, n⟩ := h
      exact ⟨Nat.zero_le _, v, a, ⟨o.1, o.2.imp id fun ⟨g, c, cur, e, hg, r⟩ => ⟨g, c, cur, e, Nat.zero_le _, r⟩⟩, n⟩
    refine (copyCheck_fresh b w hI.cell0 hI.shape hI.frozen0).mono ?_
    rintro e w' ⟨rfl, rfl⟩
    refine ⟨rfl, ?_, Fr.set w _, Kt.set w _ _⟩
    obtain ⟨v, a, o, n⟩ := h
    refine ⟨v, by simp [World.setCell, Array.getElem?_modify, a], o.kept (grownBy_setCell' w b _) ?_, n⟩
    exact .inr n
  · have hI : Lib.BuilderAt 57 5 0 b (.pointer (some ⟨b, 0, none⟩)) l w := by
      obtain ⟨v, a, o, n⟩ := h
      exact ⟨Nat.zero_le _, v, a, ⟨o.1, o.2.imp id fun ⟨g, c, cur, e, hg, r⟩ => ⟨g, c, cur, e, Nat.zero_le _, r⟩⟩, n⟩
    refine (copyCheck_used b w hI.cell0).mono ?_
    rintro e w' ⟨rfl, rfl⟩
    exact ⟨rfl, h, Fr.refl _ _ _, Kt.refl _ _⟩

set_option maxHeartbeats 2000000 in
set_option maxRecDepth 100000 in
theorem WriteByte_bk (B b : Nat) (l : List Value) (c : Int) (w : World) (h : Bd B b l w) (hlen : l.length + 1 ≤ 140737488355328) (hBw : B ≤ w.heap.size) :
    Calls Tryz.prog 69 #[.pointer (some ⟨b, 0, none⟩), .int .u8 c] w fun e w' => e = .returned .nilIface ∧ Bd B b (l ++ [.int .u8 c]) w' ∧ Fr B b w w' ∧ Kt b w w' := by
  obtain ⟨i0, hi, hz0, hz1, hz2⟩ := info_parts infoByte
  go_enter Tryz.func69, Tryz.ntmps69
  go_wp2_with fail
  refine (copyCheck_bk B b l _ h).mono ?_
  rintro e w1 ⟨rfl, h1, hf1, hk1⟩
  obtain ⟨v, hbk, hown, hne⟩ := h1
  have c0 : w1.cell? ⟨b, 0, none⟩ = some (.pointer (some ⟨b, 0, none⟩)) := by rw [Lib.cell_of_heap hbk]; rfl
  have c1 : w1.cell? ⟨b, 1, none⟩ = some v := by rw [Lib.cell_of_heap hbk]; rfl
  have hs1 := hf1.size
  have HF1 : Hid (Fr B b w w1) := hf1
  have HK1 : Hid (Kt b w w1) := hk1
  clear hk1
  clear hf1
  go_wp2_with (at_builtin; refine wpList_append_own _ rfl _ _ 55 rfl B 5 i0 (.int .u8 0) 1 1 Tryz.underlying55 hi hz0 hz1 hz2 rfl (by decide) _ _ _ rfl (hown.alloc _) ⟨w1.heap.size, 0, none⟩ 1 1 [.int .u8 c] rfl rfl ?c1 ?c2 ?c3 ?c4 ?c5 ?_)
  case c1 =>
    intro j u hj
    match j, hj with
    | 0, hj => simp at hj; subst hj; simp [Addr.add]
  case c2 => intro u hu; simp at hu; subst hu; rfl
  case c3 => unfold maxLen; omega
  case c4 => omega
  case c5 => simp; omega
  intro v' w2 hown' hgrow _
  have hlt : b < w1.heap.size := (Array.getElem?_eq_some_iff.1 hbk).1
  have hb2 : w2.heap[b]? = some (.cells #[.pointer (some ⟨b, 0, none⟩), v] 57 (0, 0)) := by
    rw [hgrow.block b (by simp; omega) (fun e => hne e.symm), Lib.alloc_old w1 _ b hlt]
    exact hbk
  have d0 : w2.cell? ⟨b, 0, none⟩ = some (.pointer (some ⟨b, 0, none⟩)) := by rw [Lib.cell_of_heap hb2]; rfl
  have d1 : w2.cell? ⟨b, 1, none⟩ = some v := by rw [Lib.cell_of_heap hb2]; rfl
  have f1 : w2.frozen? ⟨b, 1, none⟩ = false := Lib.frozen_of_heap hb2 1
  obtain ⟨g, cap, rfl⟩ : ∃ g cap, v' = .slice (some ⟨g, 0, none⟩) (l.length + 1) cap := by
    rcases hown'.2 with ⟨_, h0⟩ | ⟨g, cap, cur, hv, _⟩
    · omega
    · exact ⟨g, cap, hv⟩
  have HF2 : Hid (Fr B b w w2) := (HF1.out.trans (Fr.alloc w1 _ (by omega))).trans (Fr.grown hgrow (hown.alloc _) (by simp; omega))
  have HK2 : Hid (Kt b w w2) := (HK1.out.trans (Kt.alloc w1 _)).trans (Kt.grown hgrow (hown.alloc _))
  go_wp2
  go_ret
  exact ⟨rfl, .inr (put_bd hb2 (by simpa using hown')), HF2.out.trans (Fr.set _ _), HK2.out.trans (Kt.set _ _ _)⟩

set_option maxHeartbeats 2000000 in
set_option maxRecDepth 100000 in
theorem WriteString_bk (B b : Nat) (l : List Value) (s : ByteArray) (w : World) (h : Bd B b l w) (hlen : l.length + s.size ≤ 140737488355328) (hBw : B ≤ w.heap.size) :
    Calls Tryz.prog 23 #[.pointer (some ⟨b, 0, none⟩), .string s] w fun e w' => e = .returned (.tuple #[.int .i64 s.size, .nilIface]) ∧ Bd B b (l ++ Lib.strCells s) w' ∧ Fr B b w w' ∧ Kt b w w' := by
  obtain ⟨i0, hi, hz0, hz1, hz2⟩ := info_parts infoByte
  go_enter Tryz.func23, Tryz.ntmps23
  go_wp2_with fail
  refine (copyCheck_bk B b l _ h).mono ?_
  rintro e w1 ⟨rfl, h1, hf1, hk1⟩
  obtain ⟨v, hbk, hown, hne⟩ := h1
  have c0 : w1.cell? ⟨b, 0, none⟩ = some (.pointer (some ⟨b, 0, none⟩)) := by rw [Lib.cell_of_heap hbk]; rfl
  have c1 : w1.cell? ⟨b, 1, none⟩ = some v := by rw [Lib.cell_of_heap hbk]; rfl
  have hs1 := hf1.size
  have HF1 : Hid (Fr B b w w1) := hf1
  have HK1 : Hid (Kt b w w1) := hk1
  clear hk1
  clear hf1
  go_wp2_with (at_builtin; refine Lib.wpList_append_own_string _ rfl _ _ 55 9 rfl B 5 i0 Tryz.underlying55 Tryz.underlying9 hi hz0 hz1 hz2 _ _ _ rfl hown s rfl ?c3 ?c4 ?c5 ?_)
  case c3 => unfold maxLen; omega
  case c4 => omega
  case c5 => omega
  intro v' w2 hown' hgrow _
  have hlt : b < w1.heap.size := (Array.getElem?_eq_some_iff.1 hbk).1
  have hb2 : w2.heap[b]? = some (.cells #[.pointer (some ⟨b, 0, none⟩), v] 57 (0, 0)) := by
    rw [hgrow.block b hlt (fun e => hne e.symm)]
    exact hbk
  have d0 : w2.cell? ⟨b, 0, none⟩ = some (.pointer (some ⟨b, 0, none⟩)) := by rw [Lib.cell_of_heap hb2]; rfl
  have d1 : w2.cell? ⟨b, 1, none⟩ = some v := by rw [Lib.cell_of_heap hb2]; rfl
  have f1 : w2.frozen? ⟨b, 1, none⟩ = false := Lib.frozen_of_heap hb2 1
  obtain ⟨ao, n', cap, rfl⟩ : ∃ ao n' cap, v' = .slice ao n' cap := by
    rcases hown'.2 with ⟨hv, _⟩ | ⟨g, cap, cur, hv, _⟩
    · exact ⟨_, _, _, hv⟩
    · exact ⟨_, _, _, hv⟩
  have HF2 : Hid (Fr B b w w2) := HF1.out.trans (Fr.grown hgrow hown (by omega))
  have HK2 : Hid (Kt b w w2) := HK1.out.trans (Kt.grown hgrow hown)
  go_wp2
  go_ret2
  exact ⟨rfl, .inr (put_bd hb2 (by simpa [Lib.strCells_length] using hown')), HF2.out.trans (Fr.set _ _), HK2.out.trans (Kt.set _ _ _)⟩

end Tg
end Go.Proofs.YtndglpjkmgcdpaaGreatDoor
