/- Several texts as one. -/
import Derived.Test.YtndglpjkmgcdpaaGreatDoorMgX
import Derived.Test.YtndglpjkmgcdpaaGreatDoorMgM
import Derived.Deep.RegionHeld3
import Derived.Test.YtndglpjkmgcdpaaGreatDoorMgC
import Derived.Test.YtndglpjkmgcdpaaGreatDoorMgD
import Derived.Lib.ItoaMem
import Derived.Lib.ItoaLen
import Derived.Lib.AppendIntMem
/-
  sheet: textsOf, takenNumbers (written by mkmfx.py).
-/
set_option linter.unusedVariables false
set_option linter.unusedSimpArgs false
namespace Go.Proofs.YtndglpjkmgcdpaaGreatDoor
open Go.RowKit Go.Shelf
namespace Mf
open Oc Tg Pt

theorem read4 (w : World) (t : Nat) (a b c d : Value) : ((w.alloc (.cells #[a, b, c, d] t)).cell? ⟨w.heap.size, 0, none⟩ = some a ∧ (w.alloc (.cells #[a, b, c, d] t)).cell? ⟨w.heap.size, 1, none⟩ = some b) ∧ ((w.alloc (.cells #[a, b, c, d] t)).cell? ⟨w.heap.size, 2, none⟩ = some c ∧ (w.alloc (.cells #[a, b, c, d] t)).cell? ⟨w.heap.size, 3, none⟩ = some d) := by
  have e := heap_alloc_new w (.cells #[a, b, c, d] t)
  exact ⟨⟨by rw [Lib.cell_of_heap e]; rfl, by rw [Lib.cell_of_heap e]; rfl⟩, by rw [Lib.cell_of_heap e]; rfl, by rw [Lib.cell_of_heap e]; rfl⟩
set_option maxRecDepth 100000 in
set_option maxHeartbeats 1000000 in
theorem textsOf_any (n f m b : ByteArray) (h : Bool) (w : World) :
    Calls Tryz.prog 37 #[.agg #[.string n, .string f, .string m, .string b, .bool h]] w fun e w' => e = .returned (.agg #[.string b, .string n, .string f, .string m]) ∧ Below w.heap.size w w' := by
  go_enter Tryz.func37, Tryz.ntmps37
  go_wp2
  obtain ⟨w1, hw1⟩ : ∃ w1, w1 = w.alloc (.cells #[.string n, .string f, .string m, .string b, .bool h] 41) := ⟨_, rfl⟩
  have hb1 : Below w.heap.size w w1 := by rw [hw1]; exact (Below.refl _ w).alloc (Nat.le_refl _) _
  have hs1 : w.heap.size + 1 = w1.heap.size := by rw [hw1]; simp
  rw [← hw1, hs1]
  obtain ⟨⟨c0, c1⟩, c2, c3⟩ := read4 w1 85 (.string b) (.string n) (.string f) (.string m)
  have hb2 : Below w.heap.size w (w1.alloc (.cells #[.string b, .string n, .string f, .string m] 85)) := hb1.alloc (by omega) _
  generalize (w1.alloc (.cells #[.string b, .string n, .string f, .string m] 85)) = w2 at *
  refine bodyPost_ret (v := .agg #[.string b, .string n, .string f, .string m]) (by simp [results, Tryz.results37, go_sem, c0, c1, c2, c3]) rfl ?_
  exact ⟨rfl, hb2⟩

theorem index4_0 (x0 x1 x2 x3 : Value) (w : World) : (Instr.index 85 (.agg #[x0, x1, x2, x3]) (.int .i64 0)).run Tryz.prog w = .ok x0 w := by kernel_rfl
theorem index4_1 (x0 x1 x2 x3 : Value) (w : World) : (Instr.index 85 (.agg #[x0, x1, x2, x3]) (.int .i64 1)).run Tryz.prog w = .ok x1 w := by kernel_rfl
theorem index4_2 (x0 x1 x2 x3 : Value) (w : World) : (Instr.index 85 (.agg #[x0, x1, x2, x3]) (.int .i64 2)).run Tryz.prog w = .ok x2 w := by kernel_rfl
theorem index4_3 (x0 x1 x2 x3 : Value) (w : World) : (Instr.index 85 (.agg #[x0, x1, x2, x3]) (.int .i64 3)).run Tryz.prog w = .ok x3 w := by kernel_rfl
def Five (iv rv : Value) (a b c d e : Nat) : Prop := (iv = .int .i64 0 ∧ rv = .int .i64 (a : Int)) ∨ (iv = .int .i64 1 ∧ rv = .int .i64 (b : Int)) ∨ (iv = .int .i64 2 ∧ rv = .int .i64 (c : Int)) ∨ (iv = .int .i64 3 ∧ rv = .int .i64 (d : Int)) ∨ (iv = .int .i64 4 ∧ rv = .int .i64 (e : Int))
/-- All that a part says. -/
def tx4 (p : P5) : List Bs := [p.b, p.n, p.f, p.m]
def txs (t : List P5) : List Bs := t.flatMap tx4
theorem txs_sum (t : List P5) : ((txs t).map List.length).sum = sumT t := by
  induction t with
  | nil => rfl
  | cons p t ih =>
    have e : txs (p :: t) = tx4 p ++ txs t := rfl
    have e2 : sumT (p :: t) = szT p + sumT t := by unfold sumT; simp
    rw [e, List.map_append, List.sum_append, ih, e2]
    simp [tx4, szT]
    omega
theorem txs_snoc (t : List P5) (p : P5) : txs (t ++ [p]) = txs t ++ tx4 p := by unfold txs; rw [List.flatMap_append]; simp
theorem stdL_iff (Ls : List Bs) (n : Nat) : stdL Ls n ↔ ∃ s ∈ Ls, std s n := by
  constructor
  · rintro ⟨k, hk, h⟩
    refine ⟨Ls[k], List.getElem_mem hk, ?_⟩
    rw [List.getD_eq_getElem?_getD, List.getElem?_eq_getElem hk] at h
    exact h
  · rintro ⟨s, hs, h⟩
    obtain ⟨k, hk, rfl⟩ := List.getElem_of_mem hs
    refine ⟨k, hk, ?_⟩
    rw [List.getD_eq_getElem?_getD, List.getElem?_eq_getElem hk]
    exact h
theorem stdL_snoc (Ls : List Bs) (s : Bs) (n : Nat) : stdL (Ls ++ [s]) n ↔ stdL Ls n ∨ std s n := by
  rw [stdL_iff, stdL_iff]
  constructor
  · rintro ⟨x, hx, h⟩
    rcases List.mem_append.1 hx with hx | hx
    · exact .inl ⟨x, hx, h⟩
    · obtain rfl : x = s := by simpa using hx
      exact .inr h
  · rintro (⟨x, hx, h⟩ | h)
    · exact ⟨x, List.mem_append_left _ hx, h⟩
    · exact ⟨s, by simp, h⟩

/-- What has been taken of some texts. -/
def Kq (w0 : World) (M L : Nat) (Ls : List Bs) (z : Nat) (w : World) : Prop :=
  ∃ n ks, MI M n ks w ∧ (∀ m, m ∈ ks ↔ m ≤ L ∧ stdL Ls m) ∧ n ≤ z * 1048577 ∧ Below w0.heap.size w0 w
theorem Kq.below {w0 : World} {M L : Nat} {Ls : List Bs} {z : Nat} {w w' : World} (h : Kq w0 M L Ls z w) (b : Below w.heap.size w w') : Kq w0 M L Ls z w' := by
  obtain ⟨n, ks, h1, h2, h3, h4⟩ := h
  exact ⟨n, ks, h1.below b, h2, h3, h4.trans (b.mono h4.size)⟩
theorem take_step (w0 : World) (hw : ML w0) (hw1 : 1 + 1 ≤ w0.heap.size) (M L : Nat) (hL : L ≤ 1048576) (hM : w0.heap.size ≤ M) (Ls : List Bs) (z : Nat) (s : Bs) (hz : z + s.length ≤ 1048576) (w : World) (h : Kq w0 M L Ls z w) :
    Calls Tryz.prog 38 #[.map (some M), .string (str s), .int .i64 (L : Int)] w fun e w' => e = .returned (.tuple #[]) ∧ Kq w0 M L (Ls ++ [s]) (z + s.length) w' := by
  obtain ⟨n, ks, h1, h2, h3, h4⟩ := h
  refine (takeNumbers_any M n ks s L (by omega) hL (by have : z * 1048577 ≤ 1048576 * 1048577 := Nat.mul_le_mul_right _ (by omega); omega) w h1 (hw.below h4) (by omega)).mono ?_
  rintro e w' ⟨rfl, n', ks', k1, k2, k3, k4⟩
  refine ⟨rfl, n', ks', k1, fun m => ?_, ?_, h4.trans (k4.mono hM)⟩
  · rw [k2 m, h2 m, stdL_snoc]
    constructor
    · rintro (⟨a, b⟩ | ⟨a, b⟩)
      · exact ⟨a, .inl b⟩
      · exact ⟨a, .inr b⟩
    · rintro ⟨a, b | b⟩
      · exact .inl ⟨a, b⟩
      · exact .inr ⟨a, b⟩
  · rw [Nat.add_mul]; omega
def Five2 (iv : Value) (a b c d e : Prop) : Prop := (iv = .int .i64 0 ∧ Hid a) ∨ (iv = .int .i64 1 ∧ Hid b) ∨ (iv = .int .i64 2 ∧ Hid c) ∨ (iv = .int .i64 3 ∧ Hid d) ∨ (iv = .int .i64 4 ∧ Hid e)

set_option maxRecDepth 100000 in
set_option maxHeartbeats 4000000 in
theorem takenNumbers_any (v : Value) (t : List P5) (hb : t.length + sumT t ≤ 1048576) (w : World) (hr : RdT v t w) (hw : ML w) (hw1 : 1 + 1 ≤ w.heap.size) :
    Calls Tryz.prog 16 #[v] w fun e w' => ∃ M n ks, e = .returned (.map (some M)) ∧ MI M n ks w' ∧ (∀ m, m ∈ ks ↔ m ≤ sumT t ∧ stdL (txs t) m) ∧ Below w.heap.size w w' := by
  have hmm := @run_makeMap Tryz.prog
  obtain ⟨a, c, rfl, hcs⟩ := hr
  have HC : Hid (t = [] ∨ ∃ g o, a = some ⟨g, o, none⟩ ∧ t.length ≤ c ∧ ∀ j, j < t.length → CellT w g (o + j * 5) (nthT t j)) := hcs
  have HW : Hid (ML w) := hw
  have HSum : Hid (∀ k, sumT (t.take k) ≤ 1048576) := fun k => by have := sumT_take t k; omega
  clear hcs hw
  go_enter Tryz.func16, Tryz.ntmps16
  go_wp2
  go_loopw [3, 15] (fun rv iv wr => ∃ k : Nat, k ≤ t.length ∧ iv = .int .i64 k ∧ rv = .int .i64 (sumT (t.take k) : Int) ∧ Hid (Below w.heap.size w wr)) (fun _ iv _ => t.length - (intOf iv).toNat)
  case atStart => exact ⟨0, Nat.zero_le _, rfl, rfl, Below.refl _ _⟩
  case round =>
    obtain ⟨k, hk, rfl, rfl, hbl⟩ := hrel
    by_cases hlt : k < t.length
    · rcases HC.out with h | ⟨g, o, rfl, hcap, hcell⟩
      · rw [h] at hlt; simp at hlt
      have hck := hcell k hlt
      have hg : g < w.heap.size := World.block_lt_of_cell? w _ hck.1
      obtain ⟨d0, d1, d2, d3, d4⟩ := hck.below hbl.out hg
      clear hcell hck
      have hsz := szT_le t k hlt
      have hst := sumT_take t (k + 1)
      have HS1 : Hid (sumT (t.take (k + 1)) = sumT (t.take k) + szT (nthT t k)) := (by rw [take_nthT t k hlt]; unfold sumT; rw [List.map_append, List.sum_append]; simp : _ = _)
      have hS1 := HS1.out
      unfold szT at hsz hS1
      have zb := str_size (nthT t k).b
      have zn := str_size (nthT t k).n
      have zf := str_size (nthT t k).f
      have zm := str_size (nthT t k).m
      generalize nthT t k = p at *
      generalize str p.n = N1 at *
      generalize str p.f = F1 at *
      generalize str p.m = M1 at *
      generalize str p.b = B1 at *
      generalize p.h = H1 at *
      generalize sumT (t.take k) = S0 at *
      generalize hS2 : sumT (t.take (k + 1)) = S2 at *
      have HS2 : Hid (sumT (t.take (k + 1)) = S2) := hS2
      clear hS2 HS1
      rw [← zb, ← zn, ← zf, ← zm] at hS1
      rw [← zb, ← zn, ← zf, ← zm] at hsz
      clear zb zn zf zm
      have HB1 : Hid (Below w.heap.size w (wr.alloc (.cells #[.string N1, .string F1, .string M1, .string B1, .bool H1] 41))) := hbl.out.alloc hbl.out.size _
      go_wp2_with fail
      refine (textsOf_any _ _ _ _ _ _).mono ?_
      rintro e w2 ⟨rfl, hb2⟩
      have HB2 : Hid (Below w.heap.size w w2) := HB1.out.trans (hb2.mono HB1.out.size)
      clear hb2
      obtain ⟨S_1, e1⟩ : ∃ x : Nat, x = S0 + B1.size := ⟨_, rfl⟩
      obtain ⟨S_2, e2⟩ : ∃ x : Nat, x = S_1 + N1.size := ⟨_, rfl⟩
      obtain ⟨S_3, e3⟩ : ∃ x : Nat, x = S_2 + F1.size := ⟨_, rfl⟩
      obtain ⟨S_4, e4⟩ : ∃ x : Nat, x = S_3 + M1.size := ⟨_, rfl⟩
      have h1 : IntKind.i64.wrap ((S0 : Int) + (B1.size : Int)) = (S_1 : Int) := by rw [IntKind.wrap_i64]; omega
      have h2 : IntKind.i64.wrap ((S_1 : Int) + (N1.size : Int)) = (S_2 : Int) := by rw [IntKind.wrap_i64]; omega
      have h3 : IntKind.i64.wrap ((S_2 : Int) + (F1.size : Int)) = (S_3 : Int) := by rw [IntKind.wrap_i64]; omega
      have h4 : IntKind.i64.wrap ((S_3 : Int) + (M1.size : Int)) = (S_4 : Int) := by rw [IntKind.wrap_i64]; omega
      have HS4 : Hid (S_4 = S2) := (by omega : S_4 = S2)
      clear e1 e2 e3 e4
      have i0 := fun W => index4_0 (.string B1) (.string N1) (.string F1) (.string M1) W
      have i1 := fun W => index4_1 (.string B1) (.string N1) (.string F1) (.string M1) W
      have i2 := fun W => index4_2 (.string B1) (.string N1) (.string F1) (.string M1) W
      have i3 := fun W => index4_3 (.string B1) (.string N1) (.string F1) (.string M1) W
      go_wp2
      go_loopw [3, 21] (fun rv iv wq => Five iv rv S0 S_1 S_2 S_3 S_4 ∧ w2 = wq) (fun _ iv _ => 4 - (intOf iv).toNat)
      case atStart => exact ⟨.inl ⟨rfl, rfl⟩, rfl⟩
      case round =>
        obtain ⟨hq, rfl⟩ := hrel
        rcases hq with ⟨rfl, rfl⟩ | ⟨rfl, rfl⟩ | ⟨rfl, rfl⟩ | ⟨rfl, rfl⟩ | ⟨rfl, rfl⟩
        · go_wp2
          go_roundw
          case rel => first | exact ⟨.inr (.inl ⟨rfl, rfl⟩), trivial⟩ | exact .inr (.inl ⟨rfl, rfl⟩)
          case measure => simp [intOf]
        · go_wp2
          go_roundw
          case rel => first | exact ⟨.inr (.inr (.inl ⟨rfl, rfl⟩)), trivial⟩ | exact .inr (.inr (.inl ⟨rfl, rfl⟩))
          case measure => simp [intOf]
        · go_wp2
          go_roundw
          case rel => first | exact ⟨.inr (.inr (.inr (.inl ⟨rfl, rfl⟩))), trivial⟩ | exact .inr (.inr (.inr (.inl ⟨rfl, rfl⟩)))
          case measure => simp [intOf]
        · go_wp2
          go_roundw
          case rel => first | exact ⟨.inr (.inr (.inr (.inr ⟨rfl, rfl⟩))), trivial⟩ | exact .inr (.inr (.inr (.inr ⟨rfl, rfl⟩)))
          case measure => simp [intOf]
        · go_wp2
          go_roundw
          case rel => exact ⟨k + 1, by omega, by go_num, by rw [HS2.out, ← HS4.out], HB2⟩
          case measure => simp [intOf]; omega
    · obtain rfl : k = t.length := by omega
      rw [List.take_length]
      have hLs : sumT t ≤ 1048576 := by omega
      have HK0 : Hid (Kq w wr.heap.size (sumT t) [] 0 (wr.alloc (.map #[] 0))) := (⟨0, [], World.ownsMap_made _ _ _ _, fun m => ⟨fun h => (by cases h), fun h => (by obtain ⟨_, k, hk, _⟩ := h; exact absurd hk (Nat.not_lt_zero _))⟩, Nat.zero_le _, hbl.out.alloc hbl.out.size _⟩ : Kq _ _ _ _ _ _)
      have hM := hbl.out.size
      generalize hLe : sumT t = L at *
      have HLe : Hid (sumT t = L) := hLe
      clear hLe
      go_wp2
      generalize wr.alloc (.map #[] 0) = wm at *
      generalize wr.heap.size = M at *
      clear hbl hmm
      go_loopw [33] (fun iv wq => ∃ k : Nat, k ≤ t.length ∧ iv = .int .i64 k ∧ Hid (Kq w M L (txs (t.take k)) (sumT (t.take k)) wq)) (fun iv _ => t.length - (intOf iv).toNat)
      case atStart => exact ⟨0, Nat.zero_le _, rfl, HK0⟩
      case round =>
        obtain ⟨k, hk, rfl, hK⟩ := hrel
        obtain ⟨wo, rfl⟩ : ∃ wo, wo = wr := ⟨_, rfl⟩
        by_cases hlt : k < t.length
        · rcases HC.out with h | ⟨g, o, rfl, hcap, hcell⟩
          · rw [h] at hlt; simp at hlt
          have hck := hcell k hlt
          have hg : g < w.heap.size := World.block_lt_of_cell? w _ hck.1
          have hbo : Below w.heap.size w wo := by obtain ⟨_, _, _, _, _, h⟩ := hK.out; exact h
          obtain ⟨d0, d1, d2, d3, d4⟩ := hck.below hbo hg
          clear hcell hck
          have hst := HSum.out (k + 1)
          have HT1 : Hid (txs (t.take (k + 1)) = txs (t.take k) ++ tx4 (nthT t k)) := (by rw [take_nthT t k hlt, txs_snoc] : _ = _)
          have HS1 : Hid (sumT (t.take (k + 1)) = sumT (t.take k) + szT (nthT t k)) := (by rw [take_nthT t k hlt]; unfold sumT; rw [List.map_append, List.sum_append]; simp : _ = _)
          have hS1 := HS1.out
          unfold szT at hS1
          have HX : Hid (∀ (z : Nat) (Ls : List Bs) (s : Bs), z + s.length ≤ 1048576 → ∀ W, Kq w M L Ls z W → Calls Tryz.prog 38 #[.map (some M), .string (str s), .int .i64 (L : Int)] W fun e w' => e = .returned (.tuple #[]) ∧ Kq w M L (Ls ++ [s]) (z + s.length) w') := fun z Ls s hz W h => take_step w HW.out hw1 M L hLs hM Ls z s hz W h
          generalize hTX : txs (t.take k) = TX at *
          generalize hZ0 : sumT (t.take k) = Z0 at *
          generalize nthT t k = p at *
          have X1 : Hid (∀ W, Kq w M L TX Z0 W → Calls Tryz.prog 38 #[.map (some M), .string (str p.b), .int .i64 (L : Int)] W fun e w' => e = .returned (.tuple #[]) ∧ Kq w M L (TX ++ [p.b]) (Z0 + p.b.length) w') := fun W h => HX.out _ _ _ (by omega) W h
          have X2 : Hid (∀ W, Kq w M L (TX ++ [p.b]) (Z0 + p.b.length) W → Calls Tryz.prog 38 #[.map (some M), .string (str p.n), .int .i64 (L : Int)] W fun e w' => e = .returned (.tuple #[]) ∧ Kq w M L (TX ++ [p.b] ++ [p.n]) (Z0 + p.b.length + p.n.length) w') := fun W h => HX.out _ _ _ (by omega) W h
          have X3 : Hid (∀ W, Kq w M L (TX ++ [p.b] ++ [p.n]) (Z0 + p.b.length + p.n.length) W → Calls Tryz.prog 38 #[.map (some M), .string (str p.f), .int .i64 (L : Int)] W fun e w' => e = .returned (.tuple #[]) ∧ Kq w M L (TX ++ [p.b] ++ [p.n] ++ [p.f]) (Z0 + p.b.length + p.n.length + p.f.length) w') := fun W h => HX.out _ _ _ (by omega) W h
          have X4 : Hid (∀ W, Kq w M L (TX ++ [p.b] ++ [p.n] ++ [p.f]) (Z0 + p.b.length + p.n.length + p.f.length) W → Calls Tryz.prog 38 #[.map (some M), .string (str p.m), .int .i64 (L : Int)] W fun e w' => e = .returned (.tuple #[]) ∧ Kq w M L (txs (t.take (k + 1))) (sumT (t.take (k + 1))) w') := fun W h => by
            have := HX.out _ _ p.m (by omega) W h
            rw [HT1.out, HS1.out]
            rw [show TX ++ tx4 p = TX ++ [p.b] ++ [p.n] ++ [p.f] ++ [p.m] by simp [tx4], show Z0 + szT p = Z0 + p.b.length + p.n.length + p.f.length + p.m.length by unfold szT; omega]
            exact this
          clear HX HT1 HS1 hS1 hst hTX hZ0
          have HQ0 : Hid (∀ W W', Kq w M L TX Z0 W → Below W.heap.size W W' → Kq w M L TX Z0 W') := fun W W' h b => Kq.below h b
          generalize Kq w M L TX Z0 = Q0 at *
          generalize Kq w M L (TX ++ [p.b]) (Z0 + p.b.length) = Q1 at *
          generalize Kq w M L (TX ++ [p.b] ++ [p.n]) (Z0 + p.b.length + p.n.length) = Q2 at *
          generalize Kq w M L (TX ++ [p.b] ++ [p.n] ++ [p.f]) (Z0 + p.b.length + p.n.length + p.f.length) = Q3 at *
          have HQb : Hid (∀ W W', Q0 W → Below W.heap.size W W' → Q0 W') := HQ0
          clear HQ0
          generalize hTX1 : txs (t.take (k + 1)) = TX1 at *
          generalize hSX1 : sumT (t.take (k + 1)) = SX1 at *
          have HTX1 : Hid (txs (t.take (k + 1)) = TX1) := hTX1
          have HSX1 : Hid (sumT (t.take (k + 1)) = SX1) := hSX1
          clear hTX1 hSX1
          generalize str p.n = N1 at *
          generalize str p.f = F1 at *
          generalize str p.m = M1 at *
          generalize str p.b = B1 at *
          generalize p.h = H1 at *
          have HQ1 : Hid (Q0 (wo.alloc (.cells #[.string N1, .string F1, .string M1, .string B1, .bool H1] 41))) := HQb.out _ _ hK.out ((Below.refl _ wo).alloc (Nat.le_refl _) _)
          have i0 := fun W => index4_0 (.string B1) (.string N1) (.string F1) (.string M1) W
          have i1 := fun W => index4_1 (.string B1) (.string N1) (.string F1) (.string M1) W
          have i2 := fun W => index4_2 (.string B1) (.string N1) (.string F1) (.string M1) W
          have i3 := fun W => index4_3 (.string B1) (.string N1) (.string F1) (.string M1) W
          go_wp2_with fail
          refine (textsOf_any _ _ _ _ _ _).mono ?_
          rintro e w2 ⟨rfl, hb2⟩
          have HQ2 : Hid (Q0 w2) := HQb.out _ _ HQ1.out hb2
          clear hb2
          go_wp2
          go_loopw [39] (fun iv wq => Five2 iv (Q0 wq) (Q1 wq) (Q2 wq) (Q3 wq) (Kq w M L TX1 SX1 wq)) (fun iv _ => 4 - (intOf iv).toNat)
          case atStart => exact .inl ⟨rfl, HQ2⟩
          case round =>
            rcases hrel with ⟨rfl, hq⟩ | ⟨rfl, hq⟩ | ⟨rfl, hq⟩ | ⟨rfl, hq⟩ | ⟨rfl, hq⟩
            · go_wp2_with fail
              refine (X1.out _ hq.out).mono ?_
              rintro e w4 ⟨rfl, h4⟩
              have H4 : Hid (Q1 w4) := h4
              clear h4
              go_wp2
              go_roundw
              case rel => exact .inr (.inl ⟨rfl, H4⟩)
              case measure => simp [intOf]
            · go_wp2_with fail
              refine (X2.out _ hq.out).mono ?_
              rintro e w4 ⟨rfl, h4⟩
              have H4 : Hid (Q2 w4) := h4
              clear h4
              go_wp2
              go_roundw
              case rel => exact .inr (.inr (.inl ⟨rfl, H4⟩))
              case measure => simp [intOf]
            · go_wp2_with fail
              refine (X3.out _ hq.out).mono ?_
              rintro e w4 ⟨rfl, h4⟩
              have H4 : Hid (Q3 w4) := h4
              clear h4
              go_wp2
              go_roundw
              case rel => exact .inr (.inr (.inr (.inl ⟨rfl, H4⟩)))
              case measure => simp [intOf]
            · go_wp2_with fail
              refine (X4.out _ hq.out).mono ?_
              rintro e w4 ⟨rfl, h4⟩
              have H4 : Hid (Kq w M L TX1 SX1 w4) := h4
              clear h4
              go_wp2
              go_roundw
              case rel => exact .inr (.inr (.inr (.inr ⟨rfl, H4⟩)))
              case measure => simp [intOf]
            · go_wp2
              go_roundw
              case rel => exact ⟨k + 1, by omega, by go_num, (by rw [HTX1.out, HSX1.out]; exact hq.out : Kq w M L (txs (t.take (k + 1))) (sumT (t.take (k + 1))) _)⟩
              case measure => simp [intOf]; omega
        · obtain rfl : k = t.length := by omega
          have hK' := hK.out
          rw [List.take_length] at hK'
          obtain ⟨n, ks, k1, k2, k3, k4⟩ := hK'
          have HK1 : Hid (MI M n ks wo) := k1
          have HK2 : Hid (∀ m, m ∈ ks ↔ m ≤ L ∧ stdL (txs t) m) := k2
          have HK4 : Hid (Below w.heap.size w wo) := k4
          clear k1 k2 k3 k4
          go_wp2
          go_ret
          exact ⟨M, n, ks, rfl, HK1.out, by rw [HLe.out]; exact HK2.out, HK4.out⟩

end Mf
end Go.Proofs.YtndglpjkmgcdpaaGreatDoor

/-
  The law's given: parts as the document has them.
-/
set_option linter.unusedVariables false
set_option linter.unusedSimpArgs false
namespace Go.Proofs.YtndglpjkmgcdpaaGreatDoor
open Go.RowKit Go.Shelf
namespace Pt
open Oc Tg

set_option maxRecDepth 100000 in
set_option maxHeartbeats 4000000 in
theorem given15_any (v : Value) (t : List P5) (w : World) (h : RdT v t w) (hl : t.length ≤ 16777216) :
    Calls Tryz.prog 6 #[v] w fun e w' => ∃ u, e = .returned u ∧ OwnT 44 w.heap.size u t w' ∧ Below w.heap.size w w' := by
  obtain ⟨a, c, rfl, h⟩ := h
  have HR : Hid (t = [] ∨ ∃ g o, a = some ⟨g, o, none⟩ ∧ t.length ≤ c ∧ ∀ j, j < t.length → CellT w g (o + j * 5) (nthT t j)) := h
  clear h
  go_enter Tryz.func6, Tryz.ntmps6
  go_wp2
  go_loopw [3, 4] (fun ov i wr => ∃ k : Nat, k ≤ t.length ∧ i = .int .i64 k ∧ Hid (OwnT 44 w.heap.size ov (t.take k) wr) ∧ Hid (Below w.heap.size w wr)) (fun _ i _ => t.length - (intOf i).toNat)
  case atStart => exact ⟨0, Nat.zero_le _, rfl, ownT_empty _ w (Nat.le_refl _), (Below.refl _ w).alloc (Nat.le_refl _) _⟩
  case round =>
    obtain ⟨k, hk, rfl, hown, hbl⟩ := hrel
    have hsz := hbl.out.size
    by_cases hlt : k < t.length
    · rcases HR.out with h | ⟨g, o, rfl, hc, hcell⟩
      · rw [h] at hlt; simp at hlt
      have hck := hcell k hlt
      have hg : g < w.heap.size := World.block_lt_of_cell? w _ hck.1
      obtain ⟨d0, d1, d2, d3, d4⟩ := hck.below hbl.out hg
      obtain ⟨e0, e1, e2, e3, e4⟩ := hck
      clear hcell
      have HTk : Hid (t.take (k + 1) = t.take k ++ [nthT t k]) := take_nthT t k hlt
      have hlk : (t.take k).length + 1 ≤ 1073741824 := by rw [List.length_take]; omega
      generalize nthT t k = p at *
      generalize hn : str p.n = n at d0 e0
      generalize hf : str p.f = f at d1 e1
      generalize hm : str p.m = m at d2 e2
      generalize hb : str p.b = b at d3 e3
      generalize hh : p.h = hh0 at d4 e4
      have HN : Hid (n = str p.n) := hn.symm
      have HF : Hid (f = str p.f) := hf.symm
      have HM : Hid (m = str p.m) := hm.symm
      have HBo : Hid (b = str p.b) := hb.symm
      have HH : Hid (hh0 = p.h) := hh.symm
      clear hn hf hm hb hh
      have HO1 : Hid (OwnT 44 w.heap.size _ (t.take k) wr.drew) := hown.out.below (below_drewN (Below.refl _ _) 1)
      have HB1 : Hid (Below w.heap.size w wr.drew) := below_drewN hbl.out 1
      have hs1 : w.heap.size ≤ wr.drew.heap.size := hsz
      have HBn : Hid (Below w.heap.size w wr) := hbl.out
      have HK : Hid (∀ W, Below w.heap.size w W → W.cell? ⟨g, o + k * 5, none⟩ = some (.string n) ∧ W.cell? ⟨g, o + k * 5 + 1, none⟩ = some (.string f) ∧ W.cell? ⟨g, o + k * 5 + 2, none⟩ = some (.string m) ∧ W.cell? ⟨g, o + k * 5 + 3, none⟩ = some (.string b) ∧ W.cell? ⟨g, o + k * 5 + 4, none⟩ = some (.bool hh0)) := fun W h => ⟨(h.cell (p := ⟨g, o + k * 5, none⟩) hg).trans e0, (h.cell (p := ⟨g, o + k * 5 + 1, none⟩) hg).trans e1, (h.cell (p := ⟨g, o + k * 5 + 2, none⟩) hg).trans e2, (h.cell (p := ⟨g, o + k * 5 + 3, none⟩) hg).trans e3, (h.cell (p := ⟨g, o + k * 5 + 4, none⟩) hg).trans e4⟩
      clear d0 d1 d2 d3 d4 e0 e1 e2 e3 e4
      go_wp2_with fail
      go_region_held3 (fun W => W.cell? ⟨g, o + k * 5, none⟩ = some (.string n) ∧ W.cell? ⟨g, o + k * 5 + 1, none⟩ = some (.string f) ∧ W.cell? ⟨g, o + k * 5 + 2, none⟩ = some (.string m) ∧ W.cell? ⟨g, o + k * 5 + 3, none⟩ = some (.string b) ∧ W.cell? ⟨g, o + k * 5 + 4, none⟩ = some (.bool hh0))
        ((refine HK.out _ ?_; first | with_reducible exact HBn.out | with_reducible exact HBn.out.drew | with_reducible exact HBn.out.drew.alloc hs1 _ | with_reducible exact HBn.out.alloc hsz _ | with_reducible exact (HBn.out.alloc hsz _).drew))
        (first
          | (refine step_appT 44 23 infoT2 Tryz.underlying23 rfl (.tmp 12) (.tmp 39) rfl w.heap.size _ (t.take k) wr.drew p _ _ _ _ HN.out HF.out HM.out HBo.out _ HH.out (by simp [Act.eval, Act.put]) HO1.out _ (by simp [Act.eval, Act.put]) rfl hlk hs1 ?_; intro v6 w6 hown6 hb6; have HBn : Hid (Below w.heap.size w w6) := HB1.out.trans hb6))
      all_goals
        have HO6 : Hid (OwnT 44 w.heap.size v6 (t.take (k + 1)) w6) := (by rw [HTk.out]; exact hown6 : OwnT 44 w.heap.size v6 (t.take (k + 1)) w6)
        have HB6 : Hid (Below w.heap.size w w6) := HB1.out.trans hb6
        clear hown6 hb6
        go_wp2
        go_roundw
        case rel => exact ⟨k + 1, by omega, by go_num, HO6, HB6⟩
        case measure => simp [intOf]; omega
    · obtain rfl : k = t.length := by omega
      rw [List.take_length] at hown
      go_wp2
      go_ret
      exact ⟨_, rfl, hown.out, hbl.out⟩

end Pt
end Go.Proofs.YtndglpjkmgcdpaaGreatDoor

/-
  Numbers in digits.
-/
set_option linter.unusedVariables false
set_option linter.unusedSimpArgs false
namespace Go.Proofs.YtndglpjkmgcdpaaGreatDoor
open Go.RowKit Go.Shelf
open Go.Sort (grow)
namespace Oc

/-- Go's table of tens lies where it was laid. -/
def Pow (w : World) : Prop := Lib.TabIs Tryz.prog w "internal/strconv.uint64pow10" .u64 Lib.pow10Tab
theorem gPow : Tryz.prog.globalNamed "internal/strconv.uint64pow10" = some 2 := by kernel_rfl
theorem Pow.lt {w : World} (h : Pow w) : 2 < w.heap.size := by
  have c := Lib.TabIs.cell h gPow 0 (by rw [Lib.pow10Tab_length]; omega)
  rcases Nat.lt_or_ge 2 w.heap.size with h | h
  · exact h
  · simp [World.cell?, Array.getElem?_eq_none h] at c
theorem Pow.below {B : Nat} {w w' : World} (h : Pow w) (b : Below B w w') (hB : w.heap.size ≤ B) : Pow w' := by
  have := h.lt
  exact var?_below b gPow (by omega) h

set_option maxHeartbeats 400000 in
theorem Digits_any (n : Int) (h0 : -9223372036854775808 ≤ n) (h1 : n ≤ 9223372036854775807) (w : World) (t : Pow w) :
    Calls Tryz.prog 17 #[.int .i64 n] w fun e w' => e = .returned (.string (str (Lib.itoa n))) ∧ Below w.heap.size w w' := by
  have HT : Hid (Pow w) := t
  clear t
  have hcon := Tryz.strconv_Itoa n h0 h1 w HT.out
  change Calls Tryz.prog 39 _ _ (fun e w' => e = .returned (.string (str (Lib.itoa n))) ∧ ∃ k os, w' = grow (w.drewN k) os) at hcon
  have HC : Hid (Calls Tryz.prog 39 #[.int .i64 n] w (fun e w' => e = .returned (.string (str (Lib.itoa n))) ∧ ∃ k os, w' = grow (w.drewN k) os)) := hcon
  clear hcon
  go_enter Tryz.func17, Tryz.ntmps17
  go_wp2_with fail
  refine HC.out.mono ?_
  rintro e w' ⟨rfl, k, os, rfl⟩
  go_wp2
  go_ret
  exact ⟨rfl, Lib.below_grow _ w (Nat.le_refl _) k os⟩

/-- Digits without any for 0. -/
def decD (u : Nat) : List UInt8 := if u = 0 then [] else Lib.decDigits u
theorem decD_step (u : Nat) (h : u ≠ 0) : decD u = decD (u / 10) ++ [UInt8.ofNat (48 + u % 10)] := by
  unfold decD
  rw [if_neg h]
  by_cases h1 : u < 10
  · rw [if_pos (by omega), Lib.decDigits_one h1, Nat.mod_eq_of_lt h1]; rfl
  · rw [if_neg (by omega), Lib.decDigits, dif_neg h1]
theorem decD_len (n : Int) (h0 : -9223372036854775808 ≤ n) (h1 : n ≤ 9223372036854775807) : (decD n.natAbs).length ≤ 21 := by
  have h := Lib.itoa_length_le n h0 h1
  unfold decD Lib.itoa at *
  split
  · simp
  · split at h
    · simp at h; omega
    · rw [show n.natAbs = n.toNat by omega]; exact h
theorem itoa_decD (n : Int) (h : n ≠ 0) : Lib.itoa n = (if n < 0 then [45] else []) ++ decD n.natAbs := by
  unfold Lib.itoa decD
  by_cases hn : n < 0
  · rw [if_pos hn, if_pos hn, if_neg (by omega)]; rfl
  · rw [if_neg hn, if_neg hn, if_neg (by omega), show n.natAbs = n.toNat by omega]; rfl
theorem itoa_zero : Lib.itoa 0 = [48] := by
  unfold Lib.itoa
  rw [if_neg (by omega), show (0 : Int).toNat = 0 from rfl, Lib.decDigits_one (by omega)]; rfl

theorem one_byte (W : World) (x : Int) (h0 : 0 ≤ x) (h1 : x ≤ 255) :
    (convert 55 9 (.slice (some ⟨W.heap.size, 0, none⟩) 1 1)).run Tryz.prog (W.alloc (.cells #[.int .u8 x] 5)) = .ok (.string (str [UInt8.ofNat x.toNat])) (W.alloc (.cells #[.int .u8 x] 5)) := by
  have h := run_convert_bytes_back (P := Tryz.prog) (W.alloc (.cells #[.int .u8 x] 5)) 55 9 5 ⟨W.heap.size, 0, none⟩ 1 [UInt8.ofNat x.toNat] Tryz.underlying55 Tryz.underlying5 Tryz.underlying9 (fun j hj => by
    have hj0 : j = 0 := by simpa using hj
    subst hj0
    have e : ((UInt8.ofNat x.toNat).toNat : Int) = x := by
      rw [UInt8.toNat_ofNat']
      omega
    have hc : (W.alloc (.cells #[.int .u8 x] 5)).cell? ⟨W.heap.size, 0, none⟩ = some (.int .u8 x) := by simp [World.cell?, World.alloc, -World.alloc_eq]
    rw [show (Addr.add ⟨W.heap.size, 0, none⟩ 0) = ⟨W.heap.size, 0, none⟩ from rfl, hc]
    show _ = some (Value.int .u8 ((UInt8.ofNat x.toNat).toNat : Int))
    rw [e])
  exact h
theorem cat_str (a : List UInt8) (s : ByteArray) : str a ++ s = str (a ++ s.data.toList) := by
  apply eq_list
  rw [str_list]
  simp [str]

set_option maxRecDepth 100000 in
set_option maxHeartbeats 1000000 in
theorem rDigits_any (n : Int) (h0 : -9223372036854775808 ≤ n) (h1 : n ≤ 9223372036854775807) (w : World) :
    Calls Tryz.prog 30 #[.int .i64 n] w fun e w' => e = .returned (.string (str (Lib.itoa n))) ∧ Below w.heap.size w w' := by
  by_cases hz : n = 0
  · subst hz
    have HZ : Hid (Lib.itoa 0 = [48]) := itoa_zero
    go_enter Tryz.func30, Tryz.ntmps30
    go_wp2
    go_ret
    exact ⟨ret_string (by rw [HZ.out]; rfl), Below.refl _ _⟩
  · have hz' : (n == 0) = false := by simp [hz]
    have HI : Hid (Lib.itoa n = (if n < 0 then [45] else []) ++ decD n.natAbs) := itoa_decD n hz
    have HL : Hid ((decD n.natAbs).length ≤ 21) := decD_len n h0 h1
    go_enter Tryz.func30, Tryz.ntmps30
    go_wp2
    go_loopw [0, 4] (fun mv ov wr => ∃ (m : Int) (o : ByteArray), mv = .int .i64 m ∧ ov = .string o ∧ -9223372036854775808 ≤ m ∧ m ≤ 9223372036854775807 ∧ o.size ≤ 21 ∧ Hid (decD m.natAbs ++ o.data.toList = decD n.natAbs) ∧ Hid (Below w.heap.size w wr)) (fun mv _ _ => (intOf mv).natAbs)
    case atStart => exact ⟨n, ⟨#[]⟩, rfl, rfl, h0, h1, by decide, (by simp : decD n.natAbs ++ (⟨#[]⟩ : ByteArray).data.toList = decD n.natAbs), Below.refl _ _⟩
    case round =>
      obtain ⟨m, o, rfl, rfl, m0, m1, hos, hst, hbl⟩ := hrel
      by_cases hm : m = 0
      · subst hm
        have HO : Hid (str (decD n.natAbs) = o) := (by rw [← hst.out]; exact str_self o : str (decD n.natAbs) = o)
        have hsz : (⟨#[45]⟩ : ByteArray).size + o.size ≤ 9223372036854775807 := by show 1 + o.size ≤ _; omega
        by_cases hn : n < 0
        · have HN : Hid (str (Lib.itoa n) = ⟨#[45]⟩ ++ o) := by
            show str (Lib.itoa n) = _
            rw [HI.out, if_pos hn, ← HO.out, show (⟨#[45]⟩ : ByteArray) = str [45] from rfl, cat_str, str_list]
          go_wp2
          go_ret
          exact ⟨ret_string HN.out.symm, hbl.out⟩
        · have HN : Hid (str (Lib.itoa n) = o) := by
            show str (Lib.itoa n) = _
            rw [HI.out, if_neg hn, ← HO.out]; rfl
          go_wp2
          go_ret
          exact ⟨ret_string HN.out.symm, hbl.out⟩
      · have hm' : (m != 0) = true := by simp [hm]
        have HS : Hid (decD m.natAbs = decD (m.natAbs / 10) ++ [UInt8.ofNat (48 + m.natAbs % 10)]) := decD_step _ (by omega)
        have HL2 : Hid ((decD m.natAbs).length + o.size ≤ 21) := by
          have h1 := HL.out
          rw [← hst.out, List.length_append, size_list] at h1
          exact h1
        have HL3 : Hid (1 + o.size ≤ 21) := by
          have h1 := HL2.out
          rw [HS.out, List.length_append] at h1
          simp at h1
          show 1 + o.size ≤ 21
          omega
        have hsz : ∀ c : UInt8, (str [c]).size + o.size ≤ 9223372036854775807 := by intro c; rw [str_size]; simp; omega
        have next : ∀ (q d : Int), q.natAbs = m.natAbs / 10 → 0 ≤ d → d = ((m.natAbs % 10 : Nat) : Int) → decD q.natAbs ++ (str [UInt8.ofNat (48 + d).toNat] ++ o).data.toList = decD n.natAbs := by
          intro q d e1 d0 e2
          rw [cat_str, str_list, e1, ← hst.out, HS.out, List.append_assoc, show (48 + d).toNat = 48 + m.natAbs % 10 by omega]
        have HX : Hid (∀ (q d : Int), q.natAbs = m.natAbs / 10 → 0 ≤ d → d = ((m.natAbs % 10 : Nat) : Int) → decD q.natAbs ++ (str [UInt8.ofNat (48 + d).toNat] ++ o).data.toList = decD n.natAbs) := next
        clear next
        have HZ : Hid (∀ c : UInt8, (str [c] ++ o).size ≤ 21) := by
          intro c
          rw [cat_str, str_size]
          have := HL3.out
          simp
          omega
        rcases (show 0 < m ∨ m < 0 by omega) with hp | hp
        · have hob := one_byte wr (48 + m % 10) (by omega) (by omega)
          have hsz' := hsz (UInt8.ofNat (48 + m % 10).toNat)
          clear hsz
          go_wp2
          go_roundw
          case rel => exact ⟨m / 10, _, rfl, rfl, by omega, by omega, HZ.out _, HX.out (m / 10) (m % 10) (by omega) (by omega) (by omega), hbl.out.alloc hbl.out.size _⟩
          case measure => simp [intOf]; omega
        · obtain ⟨f1, f2, f3, f4⟩ := div_facts m 10 (by omega)
          have f5 : m.tmod 10 ≤ 0 := by
            have := Int.tmod_nonneg 10 (show 0 ≤ -m by omega)
            rw [Int.neg_tmod] at this
            omega
          have HM : Hid ((m.tdiv 10).natAbs < m.natAbs) := (by omega : (m.tdiv 10).natAbs < m.natAbs)
          by_cases hd : m.tmod 10 < 0
          · have hob := one_byte wr (48 + -m.tmod 10) (by omega) (by omega)
            have hsz' := hsz (UInt8.ofNat (48 + -m.tmod 10).toNat)
            clear hsz
            have F : Hid (10 * m.tdiv 10 + m.tmod 10 = m) := f1
            clear f1
            go_wp2
            go_roundw
            case rel =>
              have f1 := F.out
              exact ⟨m.tdiv 10, _, rfl, rfl, by omega, by omega, HZ.out _, HX.out (m.tdiv 10) (-m.tmod 10) (by omega) (by omega) (by omega), hbl.out.alloc hbl.out.size _⟩
            case measure => exact HM.out
          · have hd0 : 0 ≤ m.tmod 10 := by omega
            have hob := one_byte wr (48 + m.tmod 10) (by omega) (by omega)
            have hsz' := hsz (UInt8.ofNat (48 + m.tmod 10).toNat)
            clear hsz
            have F : Hid (10 * m.tdiv 10 + m.tmod 10 = m) := f1
            clear f1
            go_wp2
            go_roundw
            case rel =>
              have f1 := F.out
              exact ⟨m.tdiv 10, _, rfl, rfl, by omega, by omega, HZ.out _, HX.out (m.tdiv 10) (m.tmod 10) (by omega) (by omega) (by omega), hbl.out.alloc hbl.out.size _⟩
            case measure => exact HM.out

end Oc
end Go.Proofs.YtndglpjkmgcdpaaGreatDoor
