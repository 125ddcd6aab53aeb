/- Several texts as one. -/
import Derived.Test.YtkpdaialfcegfaaDoorMgM
import Derived.Test.YtkpdaialfcegfaaDoorMgN
import Derived.Test.YtkpdaialfcegfaaDoorMgJ
/-
  sheet: textsOf, takenNumbers (written by mkmfx.py).
-/
set_option linter.unusedVariables false
set_option linter.unusedSimpArgs false
namespace Go.Proofs.YtkpdaialfcegfaaDoor
open Go.RowKit Go.Shelf
namespace Mf
open Oc Tg Pt

theorem read4 (w : World) (t : Nat) (a b c d : Value) : ((w.alloc (.cells #[a, b, c, d] t)).cell? ⟨w.heap.size, 0, none⟩ = some a ∧ (w.alloc (.cells #[a, b, c, d] t)).cell? ⟨w.heap.size, 1, none⟩ = some b) ∧ ((w.alloc (.cells #[a, b, c, d] t)).cell? ⟨w.heap.size, 2, none⟩ = some c ∧ (w.alloc (.cells #[a, b, c, d] t)).cell? ⟨w.heap.size, 3, none⟩ = some d) := by
  have e := heap_alloc_new w (.cells #[a, b, c, d] t)
  exact ⟨⟨by rw [Lib.cell_of_heap e]; rfl, by rw [Lib.cell_of_heap e]; rfl⟩, by rw [Lib.cell_of_heap e]; rfl, by rw [Lib.cell_of_heap e]; rfl⟩
set_option maxRecDepth 100000 in
set_option maxHeartbeats 1000000 in
theorem textsOf_any (n f m b : ByteArray) (h : Bool) (w : World) :
    Calls Tryd.prog 77 #[.agg #[.string n, .string f, .string m, .string b, .bool h]] w fun e w' => e = .returned (.agg #[.string b, .string n, .string f, .string m]) ∧ Below w.heap.size w w' := by
  go_enter Tryd.func77, Tryd.ntmps77
  go_wp2
  obtain ⟨w1, hw1⟩ : ∃ w1, w1 = w.alloc (.cells #[.string n, .string f, .string m, .string b, .bool h] 71) := ⟨_, rfl⟩
  have hb1 : Below w.heap.size w w1 := by rw [hw1]; exact (Below.refl _ w).alloc (Nat.le_refl _) _
  have hs1 : w.heap.size + 1 = w1.heap.size := by rw [hw1]; simp
  rw [← hw1, hs1]
  obtain ⟨⟨c0, c1⟩, c2, c3⟩ := read4 w1 115 (.string b) (.string n) (.string f) (.string m)
  have hb2 : Below w.heap.size w (w1.alloc (.cells #[.string b, .string n, .string f, .string m] 115)) := hb1.alloc (by omega) _
  generalize (w1.alloc (.cells #[.string b, .string n, .string f, .string m] 115)) = w2 at *
  refine bodyPost_ret (v := .agg #[.string b, .string n, .string f, .string m]) (by simp [results, Tryd.results77, go_sem, c0, c1, c2, c3]) rfl ?_
  exact ⟨rfl, hb2⟩

theorem index4_0 (x0 x1 x2 x3 : Value) (w : World) : (Instr.index 115 (.agg #[x0, x1, x2, x3]) (.int .i64 0)).run Tryd.prog w = .ok x0 w := by kernel_rfl
theorem index4_1 (x0 x1 x2 x3 : Value) (w : World) : (Instr.index 115 (.agg #[x0, x1, x2, x3]) (.int .i64 1)).run Tryd.prog w = .ok x1 w := by kernel_rfl
theorem index4_2 (x0 x1 x2 x3 : Value) (w : World) : (Instr.index 115 (.agg #[x0, x1, x2, x3]) (.int .i64 2)).run Tryd.prog w = .ok x2 w := by kernel_rfl
theorem index4_3 (x0 x1 x2 x3 : Value) (w : World) : (Instr.index 115 (.agg #[x0, x1, x2, x3]) (.int .i64 3)).run Tryd.prog w = .ok x3 w := by kernel_rfl
def Five (iv rv : Value) (a b c d e : Nat) : Prop := (iv = .int .i64 0 ∧ rv = .int .i64 (a : Int)) ∨ (iv = .int .i64 1 ∧ rv = .int .i64 (b : Int)) ∨ (iv = .int .i64 2 ∧ rv = .int .i64 (c : Int)) ∨ (iv = .int .i64 3 ∧ rv = .int .i64 (d : Int)) ∨ (iv = .int .i64 4 ∧ rv = .int .i64 (e : Int))
/-- All that a part says. -/
def tx4 (p : P5) : List Bs := [p.b, p.n, p.f, p.m]
def txs (t : List P5) : List Bs := t.flatMap tx4
theorem txs_sum (t : List P5) : ((txs t).map List.length).sum = sumT t := by
  induction t with
  | nil => rfl
  | cons p t ih =>
    have e : txs (p :: t) = tx4 p ++ txs t := rfl
    have e2 : sumT (p :: t) = szT p + sumT t := by unfold sumT; simp
    rw [e, List.map_append, List.sum_append, ih, e2]
    simp [tx4, szT]
    omega
theorem txs_snoc (t : List P5) (p : P5) : txs (t ++ [p]) = txs t ++ tx4 p := by unfold txs; rw [List.flatMap_append]; simp
theorem stdL_iff (Ls : List Bs) (n : Nat) : stdL Ls n ↔ ∃ s ∈ Ls, std s n := by
  constructor
  · rintro ⟨k, hk, h⟩
    refine ⟨Ls[k], List.getElem_mem hk, ?_⟩
    rw [List.getD_eq_getElem?_getD, List.getElem?_eq_getElem hk] at h
    exact h
  · rintro ⟨s, hs, h⟩
    obtain ⟨k, hk, rfl⟩ := List.getElem_of_mem hs
    refine ⟨k, hk, ?_⟩
    rw [List.getD_eq_getElem?_getD, List.getElem?_eq_getElem hk]
    exact h
theorem stdL_snoc (Ls : List Bs) (s : Bs) (n : Nat) : stdL (Ls ++ [s]) n ↔ stdL Ls n ∨ std s n := by
  rw [stdL_iff, stdL_iff]
  constructor
  · rintro ⟨x, hx, h⟩
    rcases List.mem_append.1 hx with hx | hx
    · exact .inl ⟨x, hx, h⟩
    · obtain rfl : x = s := by simpa using hx
      exact .inr h
  · rintro (⟨x, hx, h⟩ | h)
    · exact ⟨x, List.mem_append_left _ hx, h⟩
    · exact ⟨s, by simp, h⟩

/-- What has been taken of some texts. -/
def Kq (w0 : World) (M L : Nat) (Ls : List Bs) (z : Nat) (w : World) : Prop :=
  ∃ n ks, MI M n ks w ∧ (∀ m, m ∈ ks ↔ m ≤ L ∧ stdL Ls m) ∧ n ≤ z * 1048577 ∧ Below w0.heap.size w0 w
theorem Kq.below {w0 : World} {M L : Nat} {Ls : List Bs} {z : Nat} {w w' : World} (h : Kq w0 M L Ls z w) (b : Below w.heap.size w w') : Kq w0 M L Ls z w' := by
  obtain ⟨n, ks, h1, h2, h3, h4⟩ := h
  exact ⟨n, ks, h1.below b, h2, h3, h4.trans (b.mono h4.size)⟩
theorem take_step (w0 : World) (hw : ML w0) (hw1 : 1 ≤ w0.heap.size) (M L : Nat) (hL : L ≤ 1048576) (hM : w0.heap.size ≤ M) (Ls : List Bs) (z : Nat) (s : Bs) (hz : z + s.length ≤ 1048576) (w : World) (h : Kq w0 M L Ls z w) :
    Calls Tryd.prog 78 #[.map (some M), .string (str s), .int .i64 (L : Int)] w fun e w' => e = .returned (.tuple #[]) ∧ Kq w0 M L (Ls ++ [s]) (z + s.length) w' := by
  obtain ⟨n, ks, h1, h2, h3, h4⟩ := h
  refine (takeNumbers_any M n ks s L (by omega) hL (by have : z * 1048577 ≤ 1048576 * 1048577 := Nat.mul_le_mul_right _ (by omega); omega) w h1 (hw.below h4) (by omega)).mono ?_
  rintro e w' ⟨rfl, n', ks', k1, k2, k3, k4⟩
  refine ⟨rfl, n', ks', k1, fun m => ?_, ?_, h4.trans (k4.mono hM)⟩
  · rw [k2 m, h2 m, stdL_snoc]
    constructor
    · rintro (⟨a, b⟩ | ⟨a, b⟩)
      · exact ⟨a, .inl b⟩
      · exact ⟨a, .inr b⟩
    · rintro ⟨a, b | b⟩
      · exact .inl ⟨a, b⟩
      · exact .inr ⟨a, b⟩
  · rw [Nat.add_mul]; omega
def Five2 (iv : Value) (a b c d e : Prop) : Prop := (iv = .int .i64 0 ∧ Hid a) ∨ (iv = .int .i64 1 ∧ Hid b) ∨ (iv = .int .i64 2 ∧ Hid c) ∨ (iv = .int .i64 3 ∧ Hid d) ∨ (iv = .int .i64 4 ∧ Hid e)

set_option maxRecDepth 100000 in
set_option maxHeartbeats 4000000 in
theorem takenNumbers_any (v : Value) (t : List P5) (hb : t.length + sumT t ≤ 1048576) (w : World) (hr : RdT v t w) (hw : ML w) (hw1 : 1 ≤ w.heap.size) :
    Calls Tryd.prog 36 #[v] w fun e w' => ∃ M n ks, e = .returned (.map (some M)) ∧ MI M n ks w' ∧ (∀ m, m ∈ ks ↔ m ≤ sumT t ∧ stdL (txs t) m) ∧ Below w.heap.size w w' := by
  have hmm := @run_makeMap Tryd.prog
  obtain ⟨a, c, rfl, hcs⟩ := hr
  have HC : Hid (t = [] ∨ ∃ g o, a = some ⟨g, o, none⟩ ∧ t.length ≤ c ∧ ∀ j, j < t.length → CellT w g (o + j * 5) (nthT t j)) := hcs
  have HW : Hid (ML w) := hw
  have HSum : Hid (∀ k, sumT (t.take k) ≤ 1048576) := fun k => by have := sumT_take t k; omega
  clear hcs hw
  go_enter Tryd.func36, Tryd.ntmps36
  go_wp2
  go_loopw [3, 15] (fun rv iv wr => ∃ k : Nat, k ≤ t.length ∧ iv = .int .i64 k ∧ rv = .int .i64 (sumT (t.take k) : Int) ∧ Hid (Below w.heap.size w wr)) (fun _ iv _ => t.length - (intOf iv).toNat)
  case atStart => exact ⟨0, Nat.zero_le _, rfl, rfl, Below.refl _ _⟩
  case round =>
    obtain ⟨k, hk, rfl, rfl, hbl⟩ := hrel
    by_cases hlt : k < t.length
    · rcases HC.out with h | ⟨g, o, rfl, hcap, hcell⟩
      · rw [h] at hlt; simp at hlt
      have hck := hcell k hlt
      have hg : g < w.heap.size := World.block_lt_of_cell? w _ hck.1
      obtain ⟨d0, d1, d2, d3, d4⟩ := hck.below hbl.out hg
      clear hcell hck
      have hsz := szT_le t k hlt
      have hst := sumT_take t (k + 1)
      have HS1 : Hid (sumT (t.take (k + 1)) = sumT (t.take k) + szT (nthT t k)) := (by rw [take_nthT t k hlt]; unfold sumT; rw [List.map_append, List.sum_append]; simp : _ = _)
      have hS1 := HS1.out
      unfold szT at hsz hS1
      have zb := str_size (nthT t k).b
      have zn := str_size (nthT t k).n
      have zf := str_size (nthT t k).f
      have zm := str_size (nthT t k).m
      generalize nthT t k = p at *
      generalize str p.n = N1 at *
      generalize str p.f = F1 at *
      generalize str p.m = M1 at *
      generalize str p.b = B1 at *
      generalize p.h = H1 at *
      generalize sumT (t.take k) = S0 at *
      generalize hS2 : sumT (t.take (k + 1)) = S2 at *
      have HS2 : Hid (sumT (t.take (k + 1)) = S2) := hS2
      clear hS2 HS1
      rw [← zb, ← zn, ← zf, ← zm] at hS1
      rw [← zb, ← zn, ← zf, ← zm] at hsz
      clear zb zn zf zm
      have HB1 : Hid (Below w.heap.size w (wr.alloc (.cells #[.string N1, .string F1, .string M1, .string B1, .bool H1] 71))) := hbl.out.alloc hbl.out.size _
      go_wp2_with fail
      refine (textsOf_any _ _ _ _ _ _).mono ?_
      rintro e w2 ⟨rfl, hb2⟩
      have HB2 : Hid (Below w.heap.size w w2) := HB1.out.trans (hb2.mono HB1.out.size)
      clear hb2
      obtain ⟨S_1, e1⟩ : ∃ x : Nat, x = S0 + B1.size := ⟨_, rfl⟩
      obtain ⟨S_2, e2⟩ : ∃ x : Nat, x = S_1 + N1.size := ⟨_, rfl⟩
      obtain ⟨S_3, e3⟩ : ∃ x : Nat, x = S_2 + F1.size := ⟨_, rfl⟩
      obtain ⟨S_4, e4⟩ : ∃ x : Nat, x = S_3 + M1.size := ⟨_, rfl⟩
      have h1 : IntKind.i64.wrap ((S0 : Int) + (B1.size : Int)) = (S_1 : Int) := by rw [IntKind.wrap_i64]; omega
      have h2 : IntKind.i64.wrap ((S_1 : Int) + (N1.size : Int)) = (S_2 : Int) := by rw [IntKind.wrap_i64]; omega
      have h3 : IntKind.i64.wrap ((S_2 : Int) + (F1.size : Int)) = (S_3 : Int) := by rw [IntKind.wrap_i64]; omega
      have h4 : IntKind.i64.wrap ((S_3 : Int) + (M1.size : Int)) = (S_4 : Int) := by rw [IntKind.wrap_i64]; omega
      have HS4 : Hid (S_4 = S2) := (by omega : S_4 = S2)
      clear e1 e2 e3 e4
      have i0 := fun W => index4_0 (.string B1) (.string N1) (.string F1) (.string M1) W
      have i1 := fun W => index4_1 (.string B1) (.string N1) (.string F1) (.string M1) W
      have i2 := fun W => index4_2 (.string B1) (.string N1) (.string F1) (.string M1) W
      have i3 := fun W => index4_3 (.string B1) (.string N1) (.string F1) (.string M1) W
      go_wp2
      go_loopw [3, 21] (fun rv iv wq => Five iv rv S0 S_1 S_2 S_3 S_4 ∧ w2 = wq) (fun _ iv _ => 4 - (intOf iv).toNat)
      case atStart => exact ⟨.inl ⟨rfl, rfl⟩, rfl⟩
      case round =>
        obtain ⟨hq, rfl⟩ := hrel
        rcases hq with ⟨rfl, rfl⟩ | ⟨rfl, rfl⟩ | ⟨rfl, rfl⟩ | ⟨rfl, rfl⟩ | ⟨rfl, rfl⟩
        · go_wp2
          go_roundw
          case rel => first | exact ⟨.inr (.inl ⟨rfl, rfl⟩), trivial⟩ | exact .inr (.inl ⟨rfl, rfl⟩)
          case measure => simp [intOf]
        · go_wp2
          go_roundw
          case rel => first | exact ⟨.inr (.inr (.inl ⟨rfl, rfl⟩)), trivial⟩ | exact .inr (.inr (.inl ⟨rfl, rfl⟩))
          case measure => simp [intOf]
        · go_wp2
          go_roundw
          case rel => first | exact ⟨.inr (.inr (.inr (.inl ⟨rfl, rfl⟩))), trivial⟩ | exact .inr (.inr (.inr (.inl ⟨rfl, rfl⟩)))
          case measure => simp [intOf]
        · go_wp2
          go_roundw
          case rel => first | exact ⟨.inr (.inr (.inr (.inr ⟨rfl, rfl⟩))), trivial⟩ | exact .inr (.inr (.inr (.inr ⟨rfl, rfl⟩)))
          case measure => simp [intOf]
        · go_wp2
          go_roundw
          case rel => exact ⟨k + 1, by omega, by go_num, by rw [HS2.out, ← HS4.out], HB2⟩
          case measure => simp [intOf]; omega
    · obtain rfl : k = t.length := by omega
      rw [List.take_length]
      have hLs : sumT t ≤ 1048576 := by omega
      have HK0 : Hid (Kq w wr.heap.size (sumT t) [] 0 (wr.alloc (.map #[] 0))) := (⟨0, [], World.ownsMap_made _ _ _ _, fun m => ⟨fun h => (by cases h), fun h => (by obtain ⟨_, k, hk, _⟩ := h; exact absurd hk (Nat.not_lt_zero _))⟩, Nat.zero_le _, hbl.out.alloc hbl.out.size _⟩ : Kq _ _ _ _ _ _)
      have hM := hbl.out.size
      generalize hLe : sumT t = L at *
      have HLe : Hid (sumT t = L) := hLe
      clear hLe
      go_wp2
      generalize wr.alloc (.map #[] 0) = wm at *
      generalize wr.heap.size = M at *
      clear hbl hmm
      go_loopw [33] (fun iv wq => ∃ k : Nat, k ≤ t.length ∧ iv = .int .i64 k ∧ Hid (Kq w M L (txs (t.take k)) (sumT (t.take k)) wq)) (fun iv _ => t.length - (intOf iv).toNat)
      case atStart => exact ⟨0, Nat.zero_le _, rfl, HK0⟩
      case round =>
        obtain ⟨k, hk, rfl, hK⟩ := hrel
        obtain ⟨wo, rfl⟩ : ∃ wo, wo = wr := ⟨_, rfl⟩
        by_cases hlt : k < t.length
        · rcases HC.out with h | ⟨g, o, rfl, hcap, hcell⟩
          · rw [h] at hlt; simp at hlt
          have hck := hcell k hlt
          have hg : g < w.heap.size := World.block_lt_of_cell? w _ hck.1
          have hbo : Below w.heap.size w wo := by obtain ⟨_, _, _, _, _, h⟩ := hK.out; exact h
          obtain ⟨d0, d1, d2, d3, d4⟩ := hck.below hbo hg
          clear hcell hck
          have hst := HSum.out (k + 1)
          have HT1 : Hid (txs (t.take (k + 1)) = txs (t.take k) ++ tx4 (nthT t k)) := (by rw [take_nthT t k hlt, txs_snoc] : _ = _)
          have HS1 : Hid (sumT (t.take (k + 1)) = sumT (t.take k) + szT (nthT t k)) := (by rw [take_nthT t k hlt]; unfold sumT; rw [List.map_append, List.sum_append]; simp : _ = _)
          have hS1 := HS1.out
          unfold szT at hS1
          have HX : Hid (∀ (z : Nat) (Ls : List Bs) (s : Bs), z + s.length ≤ 1048576 → ∀ W, Kq w M L Ls z W → Calls Tryd.prog 78 #[.map (some M), .string (str s), .int .i64 (L : Int)] W fun e w' => e = .returned (.tuple #[]) ∧ Kq w M L (Ls ++ [s]) (z + s.length) w') := fun z Ls s hz W h => take_step w HW.out hw1 M L hLs hM Ls z s hz W h
          generalize hTX : txs (t.take k) = TX at *
          generalize hZ0 : sumT (t.take k) = Z0 at *
          generalize nthT t k = p at *
          have X1 : Hid (∀ W, Kq w M L TX Z0 W → Calls Tryd.prog 78 #[.map (some M), .string (str p.b), .int .i64 (L : Int)] W fun e w' => e = .returned (.tuple #[]) ∧ Kq w M L (TX ++ [p.b]) (Z0 + p.b.length) w') := fun W h => HX.out _ _ _ (by omega) W h
          have X2 : Hid (∀ W, Kq w M L (TX ++ [p.b]) (Z0 + p.b.length) W → Calls Tryd.prog 78 #[.map (some M), .string (str p.n), .int .i64 (L : Int)] W fun e w' => e = .returned (.tuple #[]) ∧ Kq w M L (TX ++ [p.b] ++ [p.n]) (Z0 + p.b.length + p.n.length) w') := fun W h => HX.out _ _ _ (by omega) W h
          have X3 : Hid (∀ W, Kq w M L (TX ++ [p.b] ++ [p.n]) (Z0 + p.b.length + p.n.length) W → Calls Tryd.prog 78 #[.map (some M), .string (str p.f), .int .i64 (L : Int)] W fun e w' => e = .returned (.tuple #[]) ∧ Kq w M L (TX ++ [p.b] ++ [p.n] ++ [p.f]) (Z0 + p.b.length + p.n.length + p.f.length) w') := fun W h => HX.out _ _ _ (by omega) W h
          have X4 : Hid (∀ W, Kq w M L (TX ++ [p.b] ++ [p.n] ++ [p.f]) (Z0 + p.b.length + p.n.length + p.f.length) W → Calls Tryd.prog 78 #[.map (some M), .string (str p.m), .int .i64 (L : Int)] W fun e w' => e = .returned (.tuple #[]) ∧ Kq w M L (txs (t.take (k + 1))) (sumT (t.take (k + 1))) w') := fun W h => by
            have := HX.out _ _ p.m (by omega) W h
            rw [HT1.out, HS1.out]
            rw [show TX ++ tx4 p = TX ++ [p.b] ++ [p.n] ++ [p.f] ++ [p.m] by simp [tx4], show Z0 + szT p = Z0 + p.b.length + p.n.length + p.f.length + p.m.length by unfold szT; omega]
            exact this
          clear HX HT1 HS1 hS1 hst hTX hZ0
          have HQ0 : Hid (∀ W W', Kq w M L TX Z0 W → Below W.heap.size W W' → Kq w M L TX Z0 W') := fun W W' h b => Kq.below h b
          generalize Kq w M L TX Z0 = Q0 at *
          generalize Kq w M L (TX ++ [p.b]) (Z0 + p.b.length) = Q1 at *
          generalize Kq w M L (TX ++ [p.b] ++ [p.n]) (Z0 + p.b.length + p.n.length) = Q2 at *
          generalize Kq w M L (TX ++ [p.b] ++ [p.n] ++ [p.f]) (Z0 + p.b.length + p.n.length + p.f.length) = Q3 at *
          have HQb : Hid (∀ W W', Q0 W → Below W.heap.size W W' → Q0 W') := HQ0
          clear HQ0
          generalize hTX1 : txs (t.take (k + 1)) = TX1 at *
          generalize hSX1 : sumT (t.take (k + 1)) = SX1 at *
          have HTX1 : Hid (txs (t.take (k + 1)) = TX1) := hTX1
          have HSX1 : Hid (sumT (t.take (k + 1)) = SX1) := hSX1
          clear hTX1 hSX1
          generalize str p.n = N1 at *
          generalize str p.f = F1 at *
          generalize str p.m = M1 at *
          generalize str p.b = B1 at *
          generalize p.h = H1 at *
          have HQ1 : Hid (Q0 (wo.alloc (.cells #[.string N1, .string F1, .string M1, .string B1, .bool H1] 71))) := HQb.out _ _ hK.out ((Below.refl _ wo).alloc (Nat.le_refl _) _)
          have i0 := fun W => index4_0 (.string B1) (.string N1) (.string F1) (.string M1) W
          have i1 := fun W => index4_1 (.string B1) (.string N1) (.string F1) (.string M1) W
          have i2 := fun W => index4_2 (.string B1) (.string N1) (.string F1) (.string M1) W
          have i3 := fun W => index4_3 (.string B1) (.string N1) (.string F1) (.string M1) W
          go_wp2_with fail
          refine (textsOf_any _ _ _ _ _ _).mono ?_
          rintro e w2 ⟨rfl, hb2⟩
          have HQ2 : Hid (Q0 w2) := HQb.out _ _ HQ1.out hb2
          clear hb2
          go_wp2
          go_loopw [39] (fun iv wq => Five2 iv (Q0 wq) (Q1 wq) (Q2 wq) (Q3 wq) (Kq w M L TX1 SX1 wq)) (fun iv _ => 4 - (intOf iv).toNat)
          case atStart => exact .inl ⟨rfl, HQ2⟩
          case round =>
            rcases hrel with ⟨rfl, hq⟩ | ⟨rfl, hq⟩ | ⟨rfl, hq⟩ | ⟨rfl, hq⟩ | ⟨rfl, hq⟩
            · go_wp2_with fail
              refine (X1.out _ hq.out).mono ?_
              rintro e w4 ⟨rfl, h4⟩
              have H4 : Hid (Q1 w4) := h4
              clear h4
              go_wp2
              go_roundw
              case rel => exact .inr (.inl ⟨rfl, H4⟩)
              case measure => simp [intOf]
            · go_wp2_with fail
              refine (X2.out _ hq.out).mono ?_
              rintro e w4 ⟨rfl, h4⟩
              have H4 : Hid (Q2 w4) := h4
              clear h4
              go_wp2
              go_roundw
              case rel => exact .inr (.inr (.inl ⟨rfl, H4⟩))
              case measure => simp [intOf]
            · go_wp2_with fail
              refine (X3.out _ hq.out).mono ?_
              rintro e w4 ⟨rfl, h4⟩
              have H4 : Hid (Q3 w4) := h4
              clear h4
              go_wp2
              go_roundw
              case rel => exact .inr (.inr (.inr (.inl ⟨rfl, H4⟩)))
              case measure => simp [intOf]
            · go_wp2_with fail
              refine (X4.out _ hq.out).mono ?_
              rintro e w4 ⟨rfl, h4⟩
              have H4 : Hid (Kq w M L TX1 SX1 w4) := h4
              clear h4
              go_wp2
              go_roundw
              case rel => exact .inr (.inr (.inr (.inr ⟨rfl, H4⟩)))
              case measure => simp [intOf]
            · go_wp2
              go_roundw
              case rel => exact ⟨k + 1, by omega, by go_num, (by rw [HTX1.out, HSX1.out]; exact hq.out : Kq w M L (txs (t.take (k + 1))) (sumT (t.take (k + 1))) _)⟩
              case measure => simp [intOf]; omega
        · obtain rfl : k = t.length := by omega
          have hK' := hK.out
          rw [List.take_length] at hK'
          obtain ⟨n, ks, k1, k2, k3, k4⟩ := hK'
          have HK1 : Hid (MI M n ks wo) := k1
          have HK2 : Hid (∀ m, m ∈ ks ↔ m ≤ L ∧ stdL (txs t) m) := k2
          have HK4 : Hid (Below w.heap.size w wo) := k4
          clear k1 k2 k3 k4
          go_wp2
          go_ret
          exact ⟨M, n, ks, rfl, HK1.out, by rw [HLe.out]; exact HK2.out, HK4.out⟩

end Mf
end Go.Proofs.YtkpdaialfcegfaaDoor

/-
  The document's small functions: in, IsUnreserved, isSub, triple, says.
-/
set_option linter.unusedVariables false
set_option linter.unusedSimpArgs false
namespace Go.Proofs.YtkpdaialfcegfaaDoor
open Go.RowKit Go.Shelf
namespace Tg
open Oc

theorem contains_of {c : UInt8} {s : ByteArray} {k : Nat} (hk : k < s.size) (h : byt s k = (c.toNat : Int)) : s.data.toList.contains c = true := by
  have : s.data.toList.getD k 0 = c := UInt8.toNat_inj.1 (by unfold byt at h; omega)
  rw [List.contains_iff_mem, ← this, List.getD_eq_getElem?_getD, List.getElem?_eq_getElem (by rw [size_list]; exact hk)]
  exact List.getElem_mem _
theorem contains_not {c : UInt8} {s : ByteArray} (h : ∀ k, k < s.size → byt s k ≠ (c.toNat : Int)) : s.data.toList.contains c = false := by
  cases hh : s.data.toList.contains c with
  | false => rfl
  | true =>
    rw [List.contains_iff_mem] at hh
    obtain ⟨k, hk, e⟩ := List.mem_iff_getElem.1 hh
    exfalso
    refine h k (by rw [← size_list]; exact hk) ?_
    unfold byt
    rw [List.getD_eq_getElem?_getD, List.getElem?_eq_getElem hk]
    simp [e]

theorem unr_eq (c : UInt8) : unr c = (lettI (c.toNat : Int) || digI (c.toNat : Int) || (⟨#[45, 46, 95, 126]⟩ : ByteArray).data.toList.contains c) := rfl

/-- A triple at a place. -/
theorem getD_of (s : ByteArray) (k : Nat) (h : k < s.size) : s.data.toList.getD k 0 = s[k] := at_lt s k h
theorem drop3 (s : ByteArray) (k : Nat) (h : k + 2 < s.size) : s.data.toList.drop k = s.data.toList.getD k 0 :: s.data.toList.getD (k + 1) 0 :: s.data.toList.getD (k + 2) 0 :: s.data.toList.drop (k + 3) := by
  rw [drop_cons s k (by omega), drop_cons s (k + 1) (by omega), drop_cons s (k + 2) (by omega)]
theorem trip_at (s : ByteArray) (k : Nat) (h : k + 2 < s.size) : trip (s.data.toList.drop k) = (s.data.toList.getD k 0 == 37 && (hx (s.data.toList.getD (k + 1) 0) && hx (s.data.toList.getD (k + 2) 0))) := by
  rw [drop3 s k h]; rfl
theorem trip_short (s : ByteArray) (k : Nat) (h : ¬ k + 2 < s.size) : trip (s.data.toList.drop k) = false := by
  cases hh : trip (s.data.toList.drop k) with
  | false => rfl
  | true => have := trip_len hh; rw [List.length_drop, size_list] at this; omega
theorem nxt3 (s : ByteArray) (k : Nat) (h : trip (s.data.toList.drop k) = true) : ∃ x : Sg, sg k (s.data.toList.drop k) = x :: sg (k + 3) (s.data.toList.drop (k + 3)) ∧ x.at_ = k ∧ x.z = [37, s.data.toList.getD (k + 1) 0, s.data.toList.getD (k + 2) 0] ∧ k + 2 < s.size := by
  have hl := trip_len h
  rw [List.length_drop, size_list] at hl
  refine ⟨_, by rw [sg_trip k _ h, List.drop_drop], rfl, ?_, by omega⟩
  dsimp only
  have h2 := trip_at s k (by omega)
  rw [h] at h2
  rw [drop3 s k (by omega)]
  have : s.data.toList.getD k 0 = 37 := by
    have := h2.symm
    simp only [Bool.and_eq_true, beq_iff_eq] at this
    exact this.1
  rw [this]
  rfl
theorem nxt1 (s : ByteArray) (k : Nat) (hk : k < s.size) (h : trip (s.data.toList.drop k) = false) : ∃ x : Sg, sg k (s.data.toList.drop k) = x :: sg (k + 1) (s.data.toList.drop (k + 1)) ∧ x.at_ = k ∧ x.z = [s.data.toList.getD k 0] := by
  rw [drop_cons s k hk] at h ⊢
  exact ⟨_, sg_one k _ _ h, rfl, rfl⟩

set_option maxRecDepth 100000 in
set_option maxHeartbeats 300000 in
theorem triple_any (s : ByteArray) (hs : s.size ≤ 140737488355328) (k : Nat) (hk : k ≤ s.size) (w : World) :
    Calls Tryd.prog 67 #[.string s, .int .i64 (k : Int)] w fun e w' => e = .returned (.bool (trip (s.data.toList.drop k))) ∧ w' = w := by
  by_cases h : k + 2 < s.size
  · have HT : Hid (_) := trip_at s k h
    have h0 : ((s[k].toNat : Nat) : Int) = ((s.data.toList.getD k 0).toNat : Int) := by rw [getD_of s k (by omega)]
    have h1 : ((s[k + 1].toNat : Nat) : Int) = ((s.data.toList.getD (k + 1) 0).toNat : Int) := by rw [getD_of s (k + 1) (by omega)]
    have h2 : ((s[k + 2].toNat : Nat) : Int) = ((s.data.toList.getD (k + 2) 0).toNat : Int) := by rw [getD_of s (k + 2) (by omega)]
    generalize s.data.toList.getD k 0 = c0 at *
    generalize s.data.toList.getD (k + 1) 0 = c1 at *
    generalize s.data.toList.getD (k + 2) 0 = c2 at *
    generalize trip (s.data.toList.drop k) = T at *
    have g1 := c1.toNat_lt
    have g2 := c2.toNat_lt
    have HA : Hid (∀ w, Calls Tryd.prog 103 #[.int .u8 (c1.toNat : Int)] w fun e w' => e = .returned (.bool (hx c1)) ∧ w' = w) := fun w => IsHex_any (c1.toNat : Int) (by omega) (by omega) w
    have HB : Hid (∀ w, Calls Tryd.prog 103 #[.int .u8 (c2.toNat : Int)] w fun e w' => e = .returned (.bool (hx c2)) ∧ w' = w) := fun w => IsHex_any (c2.toNat : Int) (by omega) (by omega) w
    generalize hx c1 = a at *
    generalize hx c2 = b at *
    by_cases hp : c0 = 37
    · have hp2 : ((c0.toNat : Int) == 37) = true := by rw [hp]; rfl
      have HT2 : Hid (T = (a && b)) := by
        have := HT.out
        rw [hp] at this
        exact this
      clear hp HT
      cases a with
      | false =>
        go_enter Tryd.func67, Tryd.ntmps67
        go_wp2_with (go_at_call 103; refine (HA.out _).mono ?_; rintro e w1 ⟨rfl, rfl⟩)
        go_ret
        exact ⟨ret_bool (by rw [HT2.out]; rfl), rfl⟩
      | true =>
        go_enter Tryd.func67, Tryd.ntmps67
        go_wp2_with fail
        refine (HA.out _).mono ?_
        rintro e w1 ⟨rfl, rfl⟩
        go_wp2_with fail
        refine (HB.out _).mono ?_
        rintro e w1 ⟨rfl, rfl⟩
        go_wp2
        go_ret
        exact ⟨ret_bool (by rw [HT2.out]; rfl), rfl⟩
    · have hp2 : ((c0.toNat : Int) == 37) = false := by
        rw [beq_eq_false_iff_ne]
        intro e
        exact hp (UInt8.toNat_inj.1 (by show _ = 37; omega))
      have HT2 : Hid (T = false) := by
        have := HT.out
        rw [show (c0 == 37) = false from by rw [beq_eq_false_iff_ne]; exact hp, Bool.false_and] at this
        exact this
      clear hp HT
      go_enter Tryd.func67, Tryd.ntmps67
      go_wp2
      go_ret
      exact ⟨ret_bool HT2.out.symm, rfl⟩
  · have HT : Hid (_) := trip_short s k h
    generalize trip (s.data.toList.drop k) = T at *
    have hl : ¬ (k : Int) + 2 < (s.size : Int) := by omega
    go_enter Tryd.func67, Tryd.ntmps67
    go_wp2
    go_ret
    exact ⟨ret_bool HT.out.symm, rfl⟩

set_option maxRecDepth 100000 in
set_option maxHeartbeats 300000 in
theorem says_any (s : ByteArray) (hs : s.size ≤ 140737488355328) (k : Nat) (h : k + 2 < s.size) (ht : trip (s.data.toList.drop k) = true) (w : World) :
    Calls Tryd.prog 68 #[.string s, .int .i64 (k : Int)] w fun e w' => e = .returned (.int .u8 ((byteOf (s.data.toList.getD (k + 1) 0) (s.data.toList.getD (k + 2) 0)).toNat : Int)) ∧ w' = w := by
  have h2 := trip_at s k h
  rw [ht] at h2
  have hh : (hx (s.data.toList.getD (k + 1) 0) && hx (s.data.toList.getD (k + 2) 0)) = true := by
    have := h2.symm
    rw [Bool.and_eq_true] at this
    exact this.2
  have he : s.extract (k + 1) (k + 3) = ⟨#[s.data.toList.getD (k + 1) 0, s.data.toList.getD (k + 2) 0]⟩ := eq_list (by
    rw [ext_list, drop_cons s (k + 1) (by omega), drop_cons s (k + 2) (by omega), show k + 3 - (k + 1) = 2 by omega]; rfl)
  clear h2 ht
  generalize s.data.toList.getD (k + 1) 0 = c1 at *
  generalize s.data.toList.getD (k + 2) 0 = c2 at *
  have HC : Hid (∀ w, Calls Tryd.prog 104 #[.string (s.extract (k + 1) (k + 3)), .int .i64 255] w fun e w' => e = .returned (.tuple #[.int .i64 ((byteOf c1 c2).toNat : Int), .int .i64 0]) ∧ w' = w) := fun w => by
    have := rHex_any (⟨#[c1, c2]⟩ : ByteArray) (by show 2 ≤ maxLen; unfold maxLen; decide) 255 (by omega) (by omega) w
    rw [show (⟨#[c1, c2]⟩ : ByteArray).data.toList = [c1, c2] from rfl, num_two, if_pos hh] at this
    rw [he]
    exact this
  have h1 := (byteOf c1 c2).toNat_lt
  clear hh he
  generalize (byteOf c1 c2).toNat = n at *
  have h3 : (n : Int) % 256 = n := by omega
  go_enter Tryd.func68, Tryd.ntmps68
  go_wp2_with (refine (HC.out _).mono ?_; rintro e w1 ⟨rfl, rfl⟩)
  go_ret
  exact ⟨ret_int (by simp), rfl⟩

end Tg
end Go.Proofs.YtkpdaialfcegfaaDoor
