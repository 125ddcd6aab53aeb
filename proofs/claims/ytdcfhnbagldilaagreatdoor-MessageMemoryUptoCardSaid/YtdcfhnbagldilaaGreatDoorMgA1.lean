import Derived.Test.YtdcfhnbagldilaaGreatDoorMgW
import Derived.Test.YtdcfhnbagldilaaGreatDoorMgS
import Derived.Test.YtdcfhnbagldilaaGreatDoorMgI
import Derived.Test.YtdcfhnbagldilaaGreatDoorMgT
set_option linter.unusedVariables false
set_option linter.unusedSimpArgs false
set_option maxRecDepth 100000
namespace Go.Proofs.YtdcfhnbagldilaaGreatDoor
open Go.RowKit Go.Shelf
namespace Ck
open Oc Tg _root_.Go.Proofs.YtdcfhnbagldilaaGreatDoor.Fd
def WB (w : World) (g : Nat) (t e : Int) (d : Bool) (b : ByteArray) (v : Value) : Prop := w.heap[g]? = some (.cells #[.int .i64 t, .int .i64 e, .bool d, .string b, v] 93 (0, 0))
theorem WB.c {w : World} {g : Nat} {t e : Int} {d : Bool} {b : ByteArray} {v : Value} (h : WB w g t e d b v) : w.cell? ⟨g, 0, none⟩ = some (.int .i64 t) ∧ w.cell? ⟨g, 1, none⟩ = some (.int .i64 e) ∧ w.cell? ⟨g, 2, none⟩ = some (.bool d) ∧ w.cell? ⟨g, 3, none⟩ = some (.string b) ∧ w.cell? ⟨g, 4, none⟩ = some v := by
  refine ⟨?_, ?_, ?_, ?_, ?_⟩ <;> rw [cell_of_row w g _ _ _ _ h] <;> rfl
theorem WB.f {w : World} {g : Nat} {t e : Int} {d : Bool} {b : ByteArray} {v : Value} (h : WB w g t e d b v) (i : Nat) : w.frozen? ⟨g, i, none⟩ = false := frozen_of_row w g i _ _ h
theorem WB.lt {w : World} {g : Nat} {t e : Int} {d : Bool} {b : ByteArray} {v : Value} (h : WB w g t e d b v) : g < w.heap.size := (Array.getElem?_eq_some_iff.1 h).1
theorem WB.below {w w' : World} {B g : Nat} {t e : Int} {d : Bool} {b : ByteArray} {v : Value} (h : WB w g t e d b v) (hb : Below B w w') (hg : g < B) : WB w' g t e d b v := by
  unfold WB
  rw [hb.block g hg]
  exact h
theorem WB.bel {w w' : World} {g : Nat} {t e : Int} {d : Bool} {b : ByteArray} {v : Value} (h : WB w g t e d b v) (hb : Below w.heap.size w w') : WB w' g t e d b v := h.below hb h.lt
theorem WB.set0 {w : World} {g : Nat} {t e : Int} {d : Bool} {b : ByteArray} {v : Value} (h : WB w g t e d b v) (x : Int) : WB (w.setCell ⟨g, 0, none⟩ (.int .i64 x)) g x e d b v := heap_setCell_same w g 0 _ _ _ h
theorem WB.set2 {w : World} {g : Nat} {t e : Int} {d : Bool} {b : ByteArray} {v : Value} (h : WB w g t e d b v) (x : Bool) : WB (w.setCell ⟨g, 2, none⟩ (.bool x)) g t e x b v := heap_setCell_same w g 2 _ _ _ h
theorem WB.set3 {w : World} {g : Nat} {t e : Int} {d : Bool} {b : ByteArray} {v : Value} (h : WB w g t e d b v) (x : ByteArray) : WB (w.setCell ⟨g, 3, none⟩ (.string x)) g t e d x v := heap_setCell_same w g 3 _ _ _ h
theorem WB.set4 {w : World} {g : Nat} {t e : Int} {d : Bool} {b : ByteArray} {v : Value} (h : WB w g t e d b v) (x : Value) : WB (w.setCell ⟨g, 4, none⟩ x) g t e d b x := heap_setCell_same w g 4 _ _ _ h
theorem WB.other {w : World} {g : Nat} {t e : Int} {d : Bool} {b : ByteArray} {v : Value} (h : WB w g t e d b v) {p : Addr} (hp : g ≠ p.block) (x : Value) : WB (w.setCell p x) g t e d b v := by
  unfold WB
  rw [heap_setCell_other w p g x hp]
  exact h
theorem OwnF.low {w : World} {T B : Nat} {v : Value} {t : List Fl} (h : OwnF T B v t w) {p : Addr} (hp : p.block < B) (x : Value) : OwnF T B v t (w.setCell p x) := by
  refine ⟨h.1, ?_⟩
  rcases h.2 with hn | ⟨g, cap, cur, rfl, hb, hg, rest⟩
  · exact .inl hn
  · refine .inr ⟨g, cap, cur, rfl, hb, ?_, rest⟩
    rw [heap_setCell_other w p g x (by omega)]
    exact hg
structure EndY (s : ByteArray) (a m i : Nat) : Prop where
  lt : i < m
  ins : a + i < s.size
  lf : s.data.toList.getD (a + i) 0 = 10
  no : ∀ j, j < i → s.data.toList.getD (a + j) 0 ≠ 10
structure EndN (s : ByteArray) (a m : Nat) : Prop where
  no : ∀ j, j < m → a + j < s.size → s.data.toList.getD (a + j) 0 ≠ 10
set_option maxHeartbeats 1000000 in
theorem rending_any (s : ByteArray) (hs : s.size ≤ 2000000000) (a : Nat) (ha : a ≤ s.size) (m : Nat) (hm : m ≤ 2000000000) (w : World) :
    Calls Tryz.prog 79 #[.string s, .int .i64 (a : Int), .int .i64 (m : Int)] w fun e w' => ((∃ i : Nat, e = .returned (.int .i64 ((a + i : Nat) : Int)) ∧ EndY s a m i) ∨ (e = .returned (.int .i64 (-1)) ∧ EndN s a m)) ∧ w' = w := by
  go_enter Tryz.func79, Tryz.ntmps79
  go_wp2
  go_loop [7] (fun v => ∃ k : Nat, k ≤ m ∧ a + k ≤ s.size ∧ v = .int .i64 ((a + k : Nat) : Int) ∧ Hid (∀ j, j < k → s.data.toList.getD (a + j) 0 ≠ 10)) (fun v => s.size - (intOf v).toNat)
  case atStart => exact ⟨0, Nat.zero_le _, ha, rfl, (fun j hj => by omega : ∀ j, j < 0 → _)⟩
  case round =>
    obtain ⟨k, hkm, hka, rfl, hno⟩ := hrel
    obtain ⟨P, hP⟩ : ∃ P, P = a + k := ⟨_, rfl⟩
    have HP : Hid (P = a + k) := hP
    rw [← hP] at hka ⊢
    have hPa : (P : Int) - (a : Int) = (k : Int) := by omega
    have hwr : IntKind.i64.wrap ((P : Int) - (a : Int)) = (k : Int) := by rw [hPa, IntKind.wrap_i64]; omega
    clear hP
    by_cases hlt : P < s.size ∧ k < m
    · obtain ⟨h1, h2⟩ := hlt
      have hby : ((s[P].toNat : Nat) : Int) = byt s P := byt_at s P h1
      by_cases h10 : s.data.toList.getD P 0 = 10
      · have q10 : (byt s P == 10) = true := by unfold byt; rw [h10]; rfl
        have H10 : Hid (s.data.toList.getD P 0 = 10) := h10
        clear h10
        go_wp2
        go_ret
        exact ⟨.inl ⟨k, ret_int (by have := HP.out; omega), ⟨h2, (by rw [← HP.out]; exact h1), (by rw [← HP.out]; exact H10.out), hno.out⟩⟩, rfl⟩
      · have q10 : (byt s P == 10) = false := by
          rw [beq_eq_false_iff_ne]
          intro e
          exact h10 (UInt8.toNat_inj.1 (by unfold byt at e; show _ = 10; omega))
        have HN : Hid (∀ j, j < k + 1 → s.data.toList.getD (a + j) 0 ≠ 10) := (fun j hj => by
          by_cases hjk : j = k
          · subst hjk; rw [← HP.out]; exact h10
          · exact hno.out j (by omega) : ∀ j, j < k + 1 → s.data.toList.getD (a + j) 0 ≠ 10)
        clear h10
        go_wp2
        go_round
        case rel => exact ⟨k + 1, by omega, by have := HP.out; omega, by have := HP.out; go_num, HN⟩
        case measure => simp [intOf]; omega
    · have HE : Hid (∀ j, j < m → a + j < s.size → s.data.toList.getD (a + j) 0 ≠ 10) := (fun j h1 h2 => hno.out j (by have := HP.out; omega) : ∀ j, j < m → a + j < s.size → s.data.toList.getD (a + j) 0 ≠ 10)
      by_cases h1 : P < s.size
      · have h2 : ¬ k < m := fun e => hlt ⟨h1, e⟩
        clear hlt
        go_wp2
        go_ret
        exact ⟨.inr ⟨rfl, ⟨HE.out⟩⟩, rfl⟩
      · clear hlt
        go_wp2
        go_ret
        exact ⟨.inr ⟨rfl, ⟨HE.out⟩⟩, rfl⟩
set_option maxHeartbeats 1000000 in
theorem rfailed_any (t e0 : Int) (d : Bool) (b : ByteArray) (va : Option Addr) (vn vc : Nat) (at' e : Int) (h0 : 0 ≤ at') (h1 : at' ≤ 4000000000) (w : World) :
    Calls Tryz.prog 81 #[.agg #[.int .i64 t, .int .i64 e0, .bool d, .string b, .slice va vn vc], .int .i64 at', .int .i64 e] w fun x w' => x = .returned (.agg #[.int .i64 (at' + 1), .int .i64 e, .bool d, .string b, .slice va vn vc]) ∧ Below w.heap.size w w' := by
  go_enter Tryz.func81, Tryz.ntmps81
  go_wp2
  refine bodyPost_ret (v := .agg #[.int .i64 (at' + 1), .int .i64 e, .bool d, .string b, .slice va vn vc]) (by simp [results, Tryz.results81, go_sem]) rfl ?_
  refine ⟨rfl, ?_⟩
  repeat first | exact Below.refl _ _ | refine Below.setCell ?_ (by simp) _ | refine Below.alloc ?_ (by simp) _
end Ck
end Go.Proofs.YtdcfhnbagldilaaGreatDoor
set_option linter.unusedVariables false
set_option linter.unusedSimpArgs false
set_option maxRecDepth 100000
namespace Go.Proofs.YtdcfhnbagldilaaGreatDoor
open Go.RowKit Go.Shelf
namespace Ck
open Oc Tg _root_.Go.Proofs.YtdcfhnbagldilaaGreatDoor.Fd
def wkV (n e : Int) (d : Bool) (b : ByteArray) (v : Value) : Value := .agg #[.int .i64 n, .int .i64 e, .bool d, .string b, v]
theorem wkV_mk {n n' e : Int} {d : Bool} {b : ByteArray} {v : Value} (h : n = n') : Ending.returned (.agg #[.int .i64 n, .int .i64 e, .bool d, .string b, v]) = .returned (wkV n' e d b v) := by rw [h]; rfl
theorem OwnF.base {T B B' : Nat} {v : Value} {t : List Fl} {w : World} (h : OwnF T B v t w) (hB : B' ≤ B) : OwnF T B' v t w := by
  refine ⟨h.1, ?_⟩
  rcases h.2 with hn | ⟨g, cap, cur, e, hb, rest⟩
  · exact .inl hn
  · exact .inr ⟨g, cap, cur, e, Nat.le_trans hB hb, rest⟩
theorem OwnF.form {T B : Nat} {v : Value} {t : List Fl} {w : World} (h : OwnF T B v t w) : ∃ a c, v = .slice a t.length c := by
  obtain ⟨a, c, e, _⟩ := h.rd
  exact ⟨a, c, e⟩
theorem two_blocks (w : World) (t e : Int) (d : Bool) (b : ByteArray) (v : Value) :
    WB ((w.alloc (.cells #[.int .i64 t, .int .i64 e, .bool d, .string b, v] 93)).alloc (.cells #[.int .i64 0, .int .i64 0, .bool false, .string ⟨#[]⟩, .slice none 0 0] 93)) w.heap.size t e d b v ∧
    WB ((w.alloc (.cells #[.int .i64 t, .int .i64 e, .bool d, .string b, v] 93)).alloc (.cells #[.int .i64 0, .int .i64 0, .bool false, .string ⟨#[]⟩, .slice none 0 0] 93)) (w.heap.size + 1) 0 0 false ⟨#[]⟩ (.slice none 0 0) ∧
    Below w.heap.size w ((w.alloc (.cells #[.int .i64 t, .int .i64 e, .bool d, .string b, v] 93)).alloc (.cells #[.int .i64 0, .int .i64 0, .bool false, .string ⟨#[]⟩, .slice none 0 0] 93)) ∧
    ((w.alloc (.cells #[.int .i64 t, .int .i64 e, .bool d, .string b, v] 93)).alloc (.cells #[.int .i64 0, .int .i64 0, .bool false, .string ⟨#[]⟩, .slice none 0 0] 93)).heap.size = w.heap.size + 2 := by
  have h1 : WB (w.alloc (.cells #[.int .i64 t, .int .i64 e, .bool d, .string b, v] 93)) w.heap.size t e d b v := heap_alloc_new w _
  have hs : (w.alloc (.cells #[.int .i64 t, .int .i64 e, .bool d, .string b, v] 93)).heap.size = w.heap.size + 1 := by simp
  refine ⟨h1.bel ((Below.refl _ _).alloc (Nat.le_refl _) _), ?_, ((Below.refl _ w).alloc (Nat.le_refl _) _).alloc (by simp) _, by simp⟩
  rw [← hs]
  exact heap_alloc_new _ _
set_option maxHeartbeats 1000000 in
theorem ropen_far (t e0 : Int) (d : Bool) (b : ByteArray) (va : Option Addr) (vn vc : Nat) (s : ByteArray) (hs : s.size ≤ 2000000000) (a : Nat) (ha : a ≤ s.size) (n e : Int) (h0 : 0 ≤ n) (h1 : n < (s.size : Int) - (a : Int)) (w : World) :
    Calls Tryz.prog 80 #[.agg #[.int .i64 t, .int .i64 e0, .bool d, .string b, .slice va vn vc], .string s, .int .i64 (a : Int), .int .i64 n, .int .i64 e] w fun x w' => x = .returned (.agg #[.int .i64 ((a : Int) + n + 1), .int .i64 e, .bool d, .string b, .slice va vn vc]) ∧ Below w.heap.size w w' := by
  obtain ⟨W1, W2, hB, hsz⟩ := two_blocks w t e0 d b (.slice va vn vc)
  obtain ⟨w2, hw2⟩ : ∃ w2, w2 = (w.alloc (.cells #[.int .i64 t, .int .i64 e0, .bool d, .string b, .slice va vn vc] 93)).alloc (.cells #[.int .i64 0, .int .i64 0, .bool false, .string ⟨#[]⟩, .slice none 0 0] 93) := ⟨_, rfl⟩
  rw [← hw2] at W1 W2 hB hsz
  have HW2 : Hid (w2 = (w.alloc (.cells #[.int .i64 t, .int .i64 e0, .bool d, .string b, .slice va vn vc] 93)).alloc (.cells #[.int .i64 0, .int .i64 0, .bool false, .string ⟨#[]⟩, .slice none 0 0] 93)) := hw2
  have HB : Hid (Below w.heap.size w w2) := hB
  have HWR : Hid (WB w2 (w.heap.size + 1) 0 0 false ⟨#[]⟩ (.slice none 0 0)) := W2
  obtain ⟨c0, c1, c2, c3, c4⟩ := W1.c
  clear hw2 hB W2 W1 hsz
  go_enter Tryz.func80, Tryz.ntmps80
  go_wp2_with fail
  rw [← HW2.out]
  go_wp2_with fail
  refine (rfailed_any t e0 d b va vn vc _ e (by omega) (by omega) _).mono ?_
  rintro x w3 ⟨rfl, hb3⟩
  have HB3 : Hid (Below w.heap.size w w3) := bel_trans HB.out hb3
  obtain ⟨r0, r1, r2, r3, r4⟩ := (HWR.out.bel hb3).c
  have rf := (HWR.out.bel hb3).f
  have f0 := rf 0
  have f1 := rf 1
  have f2 := rf 2
  have f3 := rf 3
  have f4 := rf 4
  clear hb3 rf
  go_wp2
  refine bodyPost_ret (v := .agg #[.int .i64 ((a : Int) + n + 1), .int .i64 e, .bool d, .string b, .slice va vn vc]) (by simp [results, Tryz.results80, go_sem, r0, r1, r2, r3, r4]) rfl ?_
  refine ⟨rfl, ?_⟩
  have h := HB3.out
  repeat first | exact h | refine Below.setCell ?_ (by simp) _
set_option maxHeartbeats 1000000 in
theorem ropen_near (t e0 : Int) (d : Bool) (b : ByteArray) (va : Option Addr) (vn vc : Nat) (s : ByteArray) (hs : s.size ≤ 2000000000) (a : Nat) (ha : a ≤ s.size) (n e : Int) (h1 : ¬ (n < (s.size : Int) - (a : Int))) (w : World) :
    Calls Tryz.prog 80 #[.agg #[.int .i64 t, .int .i64 e0, .bool d, .string b, .slice va vn vc], .string s, .int .i64 (a : Int), .int .i64 n, .int .i64 e] w fun x w' => x = .returned (.agg #[.int .i64 (s.size : Int), .int .i64 e0, .bool d, .string b, .slice va vn vc]) ∧ Below w.heap.size w w' := by
  go_enter Tryz.func80, Tryz.ntmps80
  go_wp2
  refine bodyPost_ret (v := .agg #[.int .i64 (s.size : Int), .int .i64 e0, .bool d, .string b, .slice va vn vc]) (by simp [results, Tryz.results80, go_sem]) rfl ?_
  refine ⟨rfl, ?_⟩
  repeat first | exact Below.refl _ _ | refine Below.setCell ?_ (by simp) _ | refine Below.alloc ?_ (by simp) _
end Ck
end Go.Proofs.YtdcfhnbagldilaaGreatDoor
set_option linter.unusedVariables false
set_option linter.unusedSimpArgs false
set_option maxRecDepth 100000
namespace Go.Proofs.YtdcfhnbagldilaaGreatDoor
open Go.RowKit Go.Shelf
namespace Ck
open Oc Tg _root_.Go.Proofs.YtdcfhnbagldilaaGreatDoor.Fd
theorem bel_up {G : Nat} {w w1 w2 : World} (h : Below G w w1) (h2 : Below w1.heap.size w1 w2) (hG : G ≤ w1.heap.size) : Below G w w2 := h.trans (h2.mono hG)
theorem parseL_name (l : List UInt8) (hl : l.length ≤ maxLen) : (parseL l).1.1.length ≤ maxLen := by
  have := cutA_len 58 l
  unfold parseL
  repeat' split
  all_goals (simp only [List.length_nil]; try omega)
theorem infoFr : (Tryz.prog.info? 64).map (fun i => (i.zero, i.size, i.bytes)) = some (some (.agg #[.string ⟨#[]⟩, .string ⟨#[]⟩]), 2, 32) := by kernel_rfl
set_option maxHeartbeats 1000000 in
theorem rtrail_any (m rm f : Int) (hr0 : 0 ≤ rm) (hr1 : rm ≤ 9223372036854775807) (hf0 : 0 ≤ f) (hf1 : f ≤ 9223372036854775807) (b s : ByteArray) (hs : s.size ≤ 2000000) (fr : Nat) (hfr : fr ≤ s.size) (w : World) :
    Calls Tryz.prog 83 #[.agg #[.int .i64 0, .int .i64 0, .bool false, .string b, .slice none 0 0], .string s, .int .i64 (fr : Int), .int .i64 rm, .int .i64 f] w fun x w' => ∃ (n : Nat) (e : Int) (d : Bool) (t : List Fl) (v : Value), x = .returned (wkV ((fr : Int) + (n : Int)) e d b v) ∧ Sees (eat (stT m rm f b.data.toList [] 0) (s.data.toList.drop fr)) n e d b.data.toList t ∧ OwnF 64 w.heap.size v t w' ∧ Below w.heap.size w w' := by
  obtain ⟨W1, W2, hB, hsz⟩ := two_blocks w 0 0 false b (.slice none 0 0)
  obtain ⟨w2, hw2⟩ : ∃ w2, w2 = (w.alloc (.cells #[.int .i64 0, .int .i64 0, .bool false, .string b, .slice none 0 0] 93)).alloc (.cells #[.int .i64 0, .int .i64 0, .bool false, .string ⟨#[]⟩, .slice none 0 0] 93) := ⟨_, rfl⟩
  rw [← hw2] at W1 W2 hB hsz
  have HW2 : Hid (w2 = (w.alloc (.cells #[.int .i64 0, .int .i64 0, .bool false, .string b, .slice none 0 0] 93)).alloc (.cells #[.int .i64 0, .int .i64 0, .bool false, .string ⟨#[]⟩, .slice none 0 0] 93)) := hw2
  have HB : Hid (Below w.heap.size w w2) := hB
  have HWA : Hid (WB w2 w.heap.size 0 0 false b (.slice none 0 0)) := W1
  have HWR : Hid (WB w2 (w.heap.size + 1) 0 0 false ⟨#[]⟩ (.slice none 0 0)) := W2
  clear hw2 hB W2 W1 hsz
  go_enter Tryz.func83, Tryz.ntmps83
  go_wp2
  rw [← HW2.out]
  go_loopw [11] (fun av wr => ∃ (a u : Nat) (t : List Fl) (vt : Value), a ≤ s.size ∧ av = .int .i64 a ∧ (u : Int) ≤ rm ∧ (t.length : Int) ≤ f ∧ t.length ≤ u ∧ Hid (a = fr + u) ∧ Hid (eat (stT m rm f b.data.toList [] 0) (s.data.toList.drop fr) = (u + (eat (stT m rm f b.data.toList t u) (s.data.toList.drop a)).1, (eat (stT m rm f b.data.toList t u) (s.data.toList.drop a)).2)) ∧ Hid (WB wr w.heap.size 0 0 false b vt) ∧ Hid (WB wr (w.heap.size + 1) 0 0 false ⟨#[]⟩ (.slice none 0 0)) ∧ Hid (OwnF 64 (w.heap.size + 2) vt t wr) ∧ Hid (Below w.heap.size w wr)) (fun av _ => s.size - (intOf av).toNat)
  case atStart => exact ⟨fr, 0, [], .slice none 0 0, hfr, rfl, hr0, hf0, Nat.le_refl _, (rfl : fr = fr + 0), (by rw [Nat.zero_add] : eat (stT m rm f b.data.toList [] 0) (s.data.toList.drop fr) = (0 + (eat (stT m rm f b.data.toList [] 0) (s.data.toList.drop fr)).1, (eat (stT m rm f b.data.toList [] 0) (s.data.toList.drop fr)).2)), HWA, HWR, ownF_nil _ _ _, HB⟩
  case round =>
    obtain ⟨a, u, t, vt, ha, rfl, hu, htf, htu, hau, hst, hwa, hwr, hown, hbl⟩ := hrel
    obtain ⟨va, vc, rfl⟩ := OwnF.form hown.out
    obtain ⟨c0, c1, c2, c3, c4⟩ := hwa.out.c
    have hML : (s.data.toList.drop a).length = s.size - a := by rw [List.length_drop, size_list]
    have HML : Hid ((s.data.toList.drop a).length = s.size - a) := hML
    clear hML
    have hsza := hwa.out.lt
    have hszr := hwr.out.lt
    have hau2 := hau.out
    have HFar : Hid (∀ k : Nat, (k : Int) = rm - u → (∀ i, i < k → a + i < s.size → s.data.toList.getD (a + i) 0 ≠ 10) → rm < (s.size : Int) - (fr : Int) → Sees (eat (stT m rm f b.data.toList t u) (s.data.toList.drop a)) (k + 1) 104 false b.data.toList t) := fun k hk hn hl => open4_long hk (fun i h1 h2 => by rw [dropG]; exact hn i h1 (by rw [HML.out] at h2; omega)) (by rw [HML.out]; omega)
    have HNear : Hid ((∀ i : Nat, (i : Int) < rm - u → a + i < s.size → s.data.toList.getD (a + i) 0 ≠ 10) → ¬ (rm < (s.size : Int) - (fr : Int)) → Sees (eat (stT m rm f b.data.toList t u) (s.data.toList.drop a)) (s.size - a) 0 false b.data.toList t) := fun hn hl => by
      have h := open4_short (m := m) (rm := rm) (f := f) (b := b.data.toList) (t := t) (u := u) (M := s.data.toList.drop a) (fun i h1 h2 => by rw [dropG]; exact hn i h1 (by rw [HML.out] at h2; omega)) (by rw [HML.out]; omega)
      rw [HML.out] at h
      exact h
    clear hau2
    go_wp2_with fail
    refine (rending_any s (by omega) a ha s.size (by omega) _).mono ?_
    rintro e w3 ⟨hd, hw⟩
    rw [hw]
    clear hw
    rcases hd with ⟨i, rfl, hY⟩ | ⟨rfl, hN⟩
    · obtain ⟨P, hP⟩ : ∃ P, P = a + i := ⟨_, rfl⟩
      have HP : Hid (P = a + i) := hP
      rw [← hP]
      have hPs : P < s.size := by rw [hP]; exact hY.ins
      have hPf : (P : Int) - (fr : Int) = ((u + i : Nat) : Int) := by have := hau.out; omega
      have hwp : IntKind.i64.wrap ((P : Int) - (fr : Int)) = ((u + i : Nat) : Int) := by rw [hPf, IntKind.wrap_i64]; omega
      have hPa : a ≤ P := by omega
      clear hP
      by_cases hin : rm ≤ ((u + i : Nat) : Int)
      · have hfar : rm < (s.size : Int) - (fr : Int) := by omega
        have HS : Hid (Sees (eat (stT m rm f b.data.toList [] 0) (s.data.toList.drop fr)) (u + ((rm - u).toNat + 1)) 104 false b.data.toList t) := Sees.on hst.out (HFar.out (rm - u).toNat (by omega) (fun i h1 h2 => hY.no i (by omega)) hfar)
        go_wp2_with fail
        refine (ropen_far 0 0 false b va t.length vc s (by omega) fr hfr rm 104 hr0 hfar _).mono ?_
        rintro x w6 ⟨rfl, hb6⟩
        have HRr : Hid (WB w6 (w.heap.size + 1) 0 0 false ⟨#[]⟩ (.slice none 0 0)) := hwr.out.bel hb6
        have HO6 : Hid (OwnF 64 (w.heap.size + 2) (.slice va t.length vc) t w6) := hown.out.below hb6
        have HB6 : Hid (Below w.heap.size w w6) := bel_up hbl.out hb6 (by omega)
        clear hb6
        obtain ⟨r0, r1, r2, r3, r4⟩ := HRr.out.c
        have f0 := HRr.out.f 0
        have f1 := HRr.out.f 1
        have f2 := HRr.out.f 2
        have f3 := HRr.out.f 3
        have f4 := HRr.out.f 4
        go_wp2
        refine bodyPost_ret (v := .agg #[.int .i64 ((fr : Int) + rm + 1), .int .i64 104, .bool false, .string b, .slice va t.length vc]) (by simp [results, Tryz.results83, go_sem, r0, r1, r2, r3, r4]) rfl ?_
        refine ⟨u + ((rm - u).toNat + 1), _, _, t, _, wkV_mk (by omega), HS.out, OwnF.base (B := w.heap.size + 2) ?_ (by omega), ?_⟩
        · have h := HO6.out
          repeat (refine OwnF.low ?_ (by simp) _)
          exact h
        · have h := HB6.out
          repeat (refine Below.setCell ?_ (by simp) _)
          exact h
      · have hlr : ((i : Nat) : Int) < rm - u := by omega
        have hl0 : noLf ((s.data.toList.drop a).take i) := noLf_of (fun j h1 h2 => by rw [dropG]; exact hY.no j h1)
        have hlen : ((s.data.toList.drop a).take i).length = i := by rw [List.length_take, HML.out]; have := HP.out; omega
        have hcut : s.data.toList.drop a = (s.data.toList.drop a).take i ++ 10 :: (s.data.toList.drop a).drop (i + 1) := cut_lf (by rw [HML.out]; have := HP.out; omega) (by rw [dropG]; exact hY.lf)
        have hrest : (s.data.toList.drop a).drop (i + 1) = s.data.toList.drop (P + 1) := by rw [List.drop_drop, HP.out, Nat.add_assoc]
        rw [hrest] at hcut
        have hll : (((s.data.toList.drop a).take i).length : Int) < rm - u := by rw [hlen]; exact hlr
        have HBad : Hid ((∀ k, (s.data.toList.drop a).take i ≠ k ++ [13]) → Sees (eat (stT m rm f b.data.toList t u) (s.data.toList.drop a)) (i + 1) 101 false b.data.toList t) := fun h => by
          have h := line4_bad (m := m) (f := f) (b := b.data.toList) (t := t) (r := s.data.toList.drop (P + 1)) hl0 hll h
          rw [← hcut, hlen] at h
          exact h
        have HEnd : Hid ((s.data.toList.drop a).take i = [] ++ [13] → Sees (eat (stT m rm f b.data.toList t u) (s.data.toList.drop a)) (i + 1) 0 true b.data.toList t) := fun h => by
          have h := line4_end (m := m) (f := f) (b := b.data.toList) (t := t) (r := s.data.toList.drop (P + 1)) hl0 hll h
          rw [← hcut, hlen] at h
          exact h
        have HMany : Hid (∀ k, (s.data.toList.drop a).take i = k ++ [13] → k ≠ [] → f - (t.length : Int) = 0 → Sees (eat (stT m rm f b.data.toList t u) (s.data.toList.drop a)) (i + 1) 104 false b.data.toList t) := fun k h h0 hf => by
          have h := line4_many (m := m) (f := f) (b := b.data.toList) (t := t) (r := s.data.toList.drop (P + 1)) hl0 hll h h0 hf
          rw [← hcut, hlen] at h
          exact h
        have HNot : Hid (∀ k, (s.data.toList.drop a).take i = k ++ [13] → k ≠ [] → f - (t.length : Int) ≠ 0 → ((parseL k).2.2 ≠ 0 ∨ trails (parseL k).1.1 = false) → Sees (eat (stT m rm f b.data.toList t u) (s.data.toList.drop a)) (i + 1) 101 false b.data.toList t) := fun k h h0 hf hp => by
          have h := line4_not (m := m) (f := f) (b := b.data.toList) (t := t) (r := s.data.toList.drop (P + 1)) hl0 hll h h0 hf hp
          rw [← hcut, hlen] at h
          exact h
        have HOn : Hid (∀ k, (s.data.toList.drop a).take i = k ++ [13] → k ≠ [] → f - (t.length : Int) ≠ 0 → ¬ ((parseL k).2.2 ≠ 0 ∨ trails (parseL k).1.1 = false) → eat (stT m rm f b.data.toList t u) (s.data.toList.drop a) = (i + 1 + (eat (stT m rm f b.data.toList (t ++ [(parseL k).1]) (u + (i + 1))) (s.data.toList.drop (P + 1))).1, (eat (stT m rm f b.data.toList (t ++ [(parseL k).1]) (u + (i + 1))) (s.data.toList.drop (P + 1))).2)) := fun k h h0 hf hp => by
          have h := line4_on (m := m) (f := f) (b := b.data.toList) (t := t) (r := s.data.toList.drop (P + 1)) hl0 hll h h0 hf hp
          rw [← hcut, hlen] at h
          exact h
        have HLast : Hid (∀ i1, i = i1 + 1 → (s.data.toList.drop a).take i = (s.data.toList.drop a).take i1 ++ [s.data.toList.getD (a + i1) 0]) := fun i1 h => by
          subst h
          have hlt : i1 < (s.data.toList.drop a).length := by rw [HML.out]; have := HP.out; omega
          rw [List.take_succ_eq_append_getElem hlt, ← dropG, List.getD_eq_getElem?_getD, List.getElem?_eq_getElem hlt]; rfl
        clear hl0 hlen hcut hrest hll hY
        by_cases hi0 : i = 0
        · have hPa0 : P = a := by have := HP.out; omega
          have HS : Hid (Sees (eat (stT m rm f b.data.toList [] 0) (s.data.toList.drop fr)) (u + (i + 1)) 101 false b.data.toList t) := Sees.on hst.out (HBad.out (fun k e => by subst hi0; simp at e))
          have HI0 : Hid (i = 0) := hi0
          subst hPa0
          have hq : ((P : Int) == (P : Int)) = true := by simp
          clear hi0
          go_wp2_with fail
          refine (rfailed_any 0 0 false b va t.length vc _ 101 (by omega) (by omega) _).mono ?_
          rintro x w6 ⟨rfl, hb6⟩
          have HRr : Hid (WB w6 (w.heap.size + 1) 0 0 false ⟨#[]⟩ (.slice none 0 0)) := hwr.out.bel hb6
          have HO6 : Hid (OwnF 64 (w.heap.size + 2) (.slice va t.length vc) t w6) := hown.out.below hb6
          have HB6 : Hid (Below w.heap.size w w6) := bel_up hbl.out hb6 (by omega)
          clear hb6
          obtain ⟨r0, r1, r2, r3, r4⟩ := HRr.out.c
          have f0 := HRr.out.f 0
          have f1 := HRr.out.f 1
          have f2 := HRr.out.f 2
          have f3 := HRr.out.f 3
          have f4 := HRr.out.f 4
          go_wp2
          refine bodyPost_ret (v := .agg #[.int .i64 ((P : Int) + 1), .int .i64 101, .bool false, .string b, .slice va t.length vc]) (by simp [results, Tryz.results83, go_sem, r0, r1, r2, r3, r4]) rfl ?_
          refine ⟨u + (i + 1), _, _, t, _, wkV_mk (by have := hau.out; have := HI0.out; omega), HS.out, OwnF.base (B := w.heap.size + 2) ?_ (by omega), ?_⟩
          · have h := HO6.out
            repeat (refine OwnF.low ?_ (by simp) _)
            exact h
          · have h := HB6.out
            repeat (refine Below.setCell ?_ (by simp) _)
            exact h
        · obtain ⟨i1, rfl⟩ : ∃ i1, i = i1 + 1 := ⟨i - 1, by omega⟩
          obtain ⟨Q, hQ⟩ : ∃ Q, P = Q + 1 := ⟨P - 1, by have := HP.out; omega⟩
          subst hQ
          have HQ : Hid (Q = a + i1) := (by have := HP.out; omega : Q = a + i1)
          have hQs : Q < s.size := by omega
          have hby : ((s[Q].toNat : Nat) : Int) = byt s Q := byt_at s Q hQs
          have hne : (((Q : Int) + 1) == (a : Int)) = false := by have := HQ.out; simp; omega
          have HL2 : Hid ((s.data.toList.drop a).take (i1 + 1) = (s.data.toList.drop a).take i1 ++ [s.data.toList.getD Q 0]) := (by rw [HQ.out]; exact HLast.out i1 rfl : (s.data.toList.drop a).take (i1 + 1) = _)
          have hQa : a ≤ Q := by have := HQ.out; omega
          by_cases h13 : s.data.toList.getD Q 0 = 13
          · have q13 : (byt s Q != 13) = false := by unfold byt; rw [h13]; rfl
            obtain ⟨X, hX⟩ : ∃ X, X = s.extract a Q := ⟨_, rfl⟩
            have HX : Hid (X = s.extract a Q) := hX
            have HXl : Hid (X.data.toList = (s.data.toList.drop a).take i1) := (by rw [hX, Lib.extract_data, HQ.out, show a + i1 - a = i1 by omega] : X.data.toList = _)
            have hXs : X.size = i1 := by
              have h := congrArg List.length HXl.out
              rw [size_list, List.length_take, HML.out] at h
              have := HQ.out
              omega
            have HL3 : Hid ((s.data.toList.drop a).take (i1 + 1) = X.data.toList ++ [13]) := (by rw [HL2.out, h13, HXl.out] : (s.data.toList.drop a).take (i1 + 1) = _)
            clear h13
            by_cases hz : i1 = 0
            · have hXe : (s.extract a Q).toList.isEmpty = true := by rw [← hX]; exact empty_of (by omega)
              have HS : Hid (Sees (eat (stT m rm f b.data.toList [] 0) (s.data.toList.drop fr)) (u + (i1 + 1 + 1)) 0 true b.data.toList t) := Sees.on hst.out (HEnd.out (by
                have h := HL3.out
                rw [show X.data.toList = [] from List.eq_nil_of_length_eq_zero (by rw [size_list]; omega)] at h
                exact h))
              have HI1 : Hid (i1 = 0) := hz
              have fa0 := hwa.out.f 0
              have fa2 := hwa.out.f 2
              have HWa2 : Hid (WB ((wr.setCell ⟨w.heap.size, 0, none⟩ (.int .i64 ((Q : Int) + 1 + 1))).setCell ⟨w.heap.size, 2, none⟩ (.bool true)) w.heap.size ((Q : Int) + 1 + 1) 0 true b (.slice va t.length vc)) := (hwa.out.set0 _).set2 _
              have HRr : Hid (WB wr (w.heap.size + 1) 0 0 false ⟨#[]⟩ (.slice none 0 0)) := hwr
              clear hz hX
              obtain ⟨r0, r1, r2, r3, r4⟩ := HRr.out.c
              have f0 := HRr.out.f 0
              have f1 := HRr.out.f 1
              have f2 := HRr.out.f 2
              have f3 := HRr.out.f 3
              have f4 := HRr.out.f 4
              go_wp2
              refine bodyPost_ret (v := .agg #[.int .i64 ((Q : Int) + 1 + 1), .int .i64 0, .bool true, .string b, .slice va t.length vc]) (by simp [results, Tryz.results83, go_sem, r0, r1, r2, r3, r4, c0, c1, c2, c3, c4]) rfl ?_
              refine ⟨u + (i1 + 1 + 1), _, _, t, _, wkV_mk (by have := hau.out; have := HQ.out; omega), HS.out, OwnF.base (B := w.heap.size + 2) ?_ (by omega), ?_⟩
              · have h := hown.out
                repeat (refine OwnF.low ?_ (by simp) _)
                exact h
              · have h := hbl.out
                repeat (refine Below.setCell ?_ (by simp) _)
                exact h
            · have hXe : (s.extract a Q).toList.isEmpty = false := by rw [← hX]; exact nonempty_of (by omega)
              have hXn : X.data.toList ≠ [] := fun e => hz (by have h := size_list X; rw [e] at h; simp at h; omega)
              clear hX
              by_cases hfu : f - (t.length : Int) = 0
              · have HS : Hid (Sees (eat (stT m rm f b.data.toList [] 0) (s.data.toList.drop fr)) (u + (i1 + 1 + 1)) 104 false b.data.toList t) := Sees.on hst.out (HMany.out X.data.toList HL3.out hXn hfu)
                have hfl : f ≤ (t.length : Int) := by omega
                clear hfu hXn
                go_wp2_with fail
                refine (rfailed_any 0 0 false b va t.length vc _ 104 (by omega) (by omega) _).mono ?_
                rintro x w6 ⟨rfl, hb6⟩
                have HRr : Hid (WB w6 (w.heap.size + 1) 0 0 false ⟨#[]⟩ (.slice none 0 0)) := hwr.out.bel hb6
                have HO6 : Hid (OwnF 64 (w.heap.size + 2) (.slice va t.length vc) t w6) := hown.out.below hb6
                have HB6 : Hid (Below w.heap.size w w6) := bel_up hbl.out hb6 (by omega)
                clear hb6
                obtain ⟨r0, r1, r2, r3, r4⟩ := HRr.out.c
                have f0 := HRr.out.f 0
                have f1 := HRr.out.f 1
                have f2 := HRr.out.f 2
                have f3 := HRr.out.f 3
                have f4 := HRr.out.f 4
                go_wp2
                refine bodyPost_ret (v := .agg #[.int .i64 ((Q : Int) + 1 + 1), .int .i64 104, .bool false, .string b, .slice va t.length vc]) (by simp [results, Tryz.results83, go_sem, r0, r1, r2, r3, r4]) rfl ?_
                refine ⟨u + (i1 + 1 + 1), _, _, t, _, wkV_mk (by have := hau.out; have := HQ.out; omega), HS.out, OwnF.base (B := w.heap.size + 2) ?_ (by omega), ?_⟩
                · have h := HO6.out
                  repeat (refine OwnF.low ?_ (by simp) _)
                  exact h
                · have h := HB6.out
                  repeat (refine Below.setCell ?_ (by simp) _)
                  exact h
              · have hfl : ¬ (f ≤ (t.length : Int)) := by omega
                have HPL : Hid (∀ w, Calls Tryz.prog 17 #[.string X] w fun e w' => e = .returned (lineV (parseL X.data.toList)) ∧ Below w.heap.size w w') := fun w => rParseLine_any X (by omega) w
                have HNo2 : Hid ((parseL X.data.toList).2.2 ≠ 0 ∨ trails (parseL X.data.toList).1.1 = false → Sees (eat (stT m rm f b.data.toList [] 0) (s.data.toList.drop fr)) (u + (i1 + 1 + 1)) 101 false b.data.toList t) := fun h => Sees.on hst.out (HNot.out X.data.toList HL3.out hXn hfu h)
                have HOn2 : Hid (¬ ((parseL X.data.toList).2.2 ≠ 0 ∨ trails (parseL X.data.toList).1.1 = false) → eat (stT m rm f b.data.toList [] 0) (s.data.toList.drop fr) = (u + (i1 + 1 + 1) + (eat (stT m rm f b.data.toList (t ++ [(parseL X.data.toList).1]) (u + (i1 + 1 + 1))) (s.data.toList.drop (Q + 1 + 1))).1, (eat (stT m rm f b.data.toList (t ++ [(parseL X.data.toList).1]) (u + (i1 + 1 + 1))) (s.data.toList.drop (Q + 1 + 1))).2)) := fun h => eat_on hst.out (HOn.out X.data.toList HL3.out hXn hfu h)
                have hpl : (parseL X.data.toList).1.1.length ≤ maxLen := parseL_name X.data.toList (by rw [size_list]; unfold maxLen; omega)
                have HMT : Hid (∀ w, Calls Tryz.prog 107 #[.string (str (parseL X.data.toList).1.1)] w fun e w' => e = .returned (.bool (trails (parseL X.data.toList).1.1)) ∧ Below w.heap.size w w') := fun w => rMayTrail_any _ hpl w
                clear hpl hXn hfu HFar HNear HBad HEnd HMany HNot HOn HLast HL2 HL3
                generalize parseL X.data.toList = q at *
                obtain ⟨⟨pn, pv⟩, pp, pe⟩ := q
                simp only at HNo2 HOn2 HMT
                unfold lineV at HPL
                simp only at HPL
                generalize hN0 : str pn = N0 at *
                generalize hV0 : str pv = V0 at *
                have HN0 : Hid (N0 = str pn) := hN0.symm
                have HV0 : Hid (V0 = str pv) := hV0.symm
                clear hN0 hV0
                go_wp2_with fail
                rw [← HX.out]
                refine (HPL.out _).mono ?_
                rintro x w4 ⟨rfl, hb4⟩
                have hs4 := hb4.size
                have HW4 : Hid (WB w4 w.heap.size 0 0 false b (.slice va t.length vc)) := hwa.out.bel hb4
                have HR4 : Hid (WB w4 (w.heap.size + 1) 0 0 false ⟨#[]⟩ (.slice none 0 0)) := hwr.out.bel hb4
                have HO4 : Hid (OwnF 64 (w.heap.size + 2) (.slice va t.length vc) t w4) := hown.out.below hb4
                have HB4 : Hid (Below w.heap.size w w4) := bel_up hbl.out hb4 (by omega)
                obtain ⟨d0, d1, d2, d3, d4⟩ := HW4.out.c
                have hsz4 := HR4.out.lt
                clear hb4
                have hA4 : Below w4.heap.size w4 (w4.alloc (.cells #[.string N0, .string V0] 64)) := (Below.refl _ _).alloc (Nat.le_refl _) _
                have HF4 : Hid ((w4.alloc (.cells #[.string N0, .string V0] 64)).heap[w4.heap.size]? = some (.cells #[.string N0, .string V0] 64 (0, 0))) := heap_alloc_new _ _
                have HW5 : Hid (WB (w4.alloc (.cells #[.string N0, .string V0] 64)) w.heap.size 0 0 false b (.slice va t.length vc)) := HW4.out.bel hA4
                have HR5 : Hid (WB (w4.alloc (.cells #[.string N0, .string V0] 64)) (w.heap.size + 1) 0 0 false ⟨#[]⟩ (.slice none 0 0)) := HR4.out.bel hA4
                have HO5 : Hid (OwnF 64 (w.heap.size + 2) (.slice va t.length vc) t (w4.alloc (.cells #[.string N0, .string V0] 64))) := HO4.out.below hA4
                have HB5 : Hid (Below w.heap.size w (w4.alloc (.cells #[.string N0, .string V0] 64))) := bel_up HB4.out hA4 (by omega)
                clear hA4
                by_cases hpe : pe = 0
                · subst hpe
                  go_wp2_with fail
                  refine (HMT.out _).mono ?_
                  rintro x w5 ⟨rfl, hb5⟩
                  have HW6 : Hid (WB w5 w.heap.size 0 0 false b (.slice va t.length vc)) := HW5.out.bel hb5
                  have HR6 : Hid (WB w5 (w.heap.size + 1) 0 0 false ⟨#[]⟩ (.slice none 0 0)) := HR5.out.bel hb5
                  have HO6' : Hid (OwnF 64 (w.heap.size + 2) (.slice va t.length vc) t w5) := HO5.out.below hb5
                  have HB6' : Hid (Below w.heap.size w w5) := bel_up HB5.out hb5 (by simp; omega)
                  have HF6 : Hid (w5.heap[w4.heap.size]? = some (.cells #[.string N0, .string V0] 64 (0, 0))) := (But.of_below hb5).heap HF4.out (fun e => by cases e)
                  obtain ⟨g0, g1, g2, g3, g4⟩ := HW6.out.c
                  have gf := HW6.out.f 4
                  have k0 : w5.cell? ⟨w4.heap.size, 0, none⟩ = some (.string N0) := by rw [cell_of_row w5 _ _ _ _ _ HF6.out]; rfl
                  have k1 : w5.cell? ⟨w4.heap.size, 1, none⟩ = some (.string V0) := by rw [cell_of_row w5 _ _ _ _ _ HF6.out]; rfl
                  have hsz5 := HR6.out.lt
                  clear hb5
                  cases htr : trails pn with
                  | false =>
                    have HS : Hid (Sees (eat (stT m rm f b.data.toList [] 0) (s.data.toList.drop fr)) (u + (i1 + 1 + 1)) 101 false b.data.toList t) := HNo2.out (.inr htr)
                    go_wp2_with fail
                    refine (rfailed_any 0 0 false b va t.length vc _ 101 (by omega) (by omega) _).mono ?_
                    rintro x w6 ⟨rfl, hb6⟩
                    have HRr : Hid (WB w6 (w.heap.size + 1) 0 0 false ⟨#[]⟩ (.slice none 0 0)) := HR6.out.bel hb6
                    have HO7 : Hid (OwnF 64 (w.heap.size + 2) (.slice va t.length vc) t w6) := HO6'.out.below hb6
                    have HB7 : Hid (Below w.heap.size w w6) := bel_up HB6'.out hb6 (by omega)
                    clear hb6
                    obtain ⟨r0, r1, r2, r3, r4⟩ := HRr.out.c
                    have f0 := HRr.out.f 0
                    have f1 := HRr.out.f 1
                    have f2 := HRr.out.f 2
                    have f3 := HRr.out.f 3
                    have f4 := HRr.out.f 4
                    go_wp2
                    refine bodyPost_ret (v := .agg #[.int .i64 ((Q : Int) + 1 + 1), .int .i64 101, .bool false, .string b, .slice va t.length vc]) (by simp [results, Tryz.results83, go_sem, r0, r1, r2, r3, r4]) rfl ?_
                    refine ⟨u + (i1 + 1 + 1), _, _, t, _, wkV_mk (by have := hau.out; have := HQ.out; omega), HS.out, OwnF.base (B := w.heap.size + 2) ?_ (by omega), ?_⟩
                    · have h := HO7.out
                      repeat (refine OwnF.low ?_ (by simp) _)
                      exact h
                    · have h := HB7.out
                      repeat (refine Below.setCell ?_ (by simp) _)
                      exact h
                  | true =>
                    have HN2 : Hid (eat (stT m rm f b.data.toList [] 0) (s.data.toList.drop fr) = (u + (i1 + 1 + 1) + (eat (stT m rm f b.data.toList (t ++ [(pn, pv)]) (u + (i1 + 1 + 1))) (s.data.toList.drop (Q + 1 + 1))).1, (eat (stT m rm f b.data.toList (t ++ [(pn, pv)]) (u + (i1 + 1 + 1))) (s.data.toList.drop (Q + 1 + 1))).2)) := HOn2.out (by rintro (h | h); exact h rfl; rw [htr] at h; cases h)
                    clear HNo2 HOn2 htr
                    have hl1 : t.length + 1 ≤ 2147483648 := by have := hau.out; omega
                    go_wp2_with (at_builtin; go_must (refine wp_appF 64 35 infoFr Tryz.underlying35 rfl (.tmp 88) (.tmp 90) rfl (w.heap.size + 2) _ t _ (pn, pv) _ _ HN0.out HV0.out rfl HO6'.out _ rfl (by simp) hl1 (by omega) ?_); intro v8 w8 ho8 hb8; have HO8 : Hid (OwnF 64 (w.heap.size + 2) v8 (t ++ [(pn, pv)]) w8) := ho8; have HW8 : Hid (WB w8 w.heap.size 0 0 false b (.slice va t.length vc)) := HW6.out.below hb8 (by omega); have HR8 : Hid (WB w8 (w.heap.size + 1) 0 0 false ⟨#[]⟩ (.slice none 0 0)) := HR6.out.below hb8 (by omega); have HB8 : Hid (Below w.heap.size w w8) := HB6'.out.trans (hb8.mono (by omega)); clear ho8 hb8; obtain ⟨y0, y1, y2, y3, y4⟩ := HW8.out.c; have yf := HW8.out.f 4; obtain ⟨va8, vc8, hv8⟩ := OwnF.form HO8.out; rw [show (t ++ [(pn, pv)]).length = t.length + 1 by simp] at hv8; subst hv8)
                    go_roundw
                    case rel =>
                      refine ⟨Q + 1 + 1, u + (i1 + 1 + 1), t ++ [(pn, pv)], .slice va8 (t.length + 1) vc8, by omega, by go_num, by omega, by simp; omega, by simp; omega, (by have := hau.out; have := HQ.out; omega : Q + 1 + 1 = fr + (u + (i1 + 1 + 1))), HN2, HW8.out.set4 _, HR8.out.other (by simp) _, OwnF.low HO8.out (by simp) _, HB8.out.setCell (by simp) _⟩
                    case measure => simp [intOf]; omega
                · have hpe' : (pe != 0) = true := by simp [hpe]
                  have HS : Hid (Sees (eat (stT m rm f b.data.toList [] 0) (s.data.toList.drop fr)) (u + (i1 + 1 + 1)) 101 false b.data.toList t) := HNo2.out (.inl hpe)
                  obtain ⟨g0, g1, g2, g3, g4⟩ := HW5.out.c
                  clear hpe HNo2 HOn2
                  go_wp2_with fail
                  refine (rfailed_any 0 0 false b va t.length vc _ 101 (by omega) (by omega) _).mono ?_
                  rintro x w6 ⟨rfl, hb6⟩
                  have HRr : Hid (WB w6 (w.heap.size + 1) 0 0 false ⟨#[]⟩ (.slice none 0 0)) := HR5.out.bel hb6
                  have HO6 : Hid (OwnF 64 (w.heap.size + 2) (.slice va t.length vc) t w6) := HO5.out.below hb6
                  have HB6 : Hid (Below w.heap.size w w6) := bel_up HB5.out hb6 (by simp; omega)
                  clear hb6
                  obtain ⟨r0, r1, r2, r3, r4⟩ := HRr.out.c
                  have f0 := HRr.out.f 0
                  have f1 := HRr.out.f 1
                  have f2 := HRr.out.f 2
                  have f3 := HRr.out.f 3
                  have f4 := HRr.out.f 4
                  go_wp2
                  refine bodyPost_ret (v := .agg #[.int .i64 ((Q : Int) + 1 + 1), .int .i64 101, .bool false, .string b, .slice va t.length vc]) (by simp [results, Tryz.results83, go_sem, r0, r1, r2, r3, r4]) rfl ?_
                  refine ⟨u + (i1 + 1 + 1), _, _, t, _, wkV_mk (by have := hau.out; have := HQ.out; omega), HS.out, OwnF.base (B := w.heap.size + 2) ?_ (by omega), ?_⟩
                  · have h := HO6.out
                    repeat (refine OwnF.low ?_ (by simp) _)
                    exact h
                  · have h := HB6.out
                    repeat (refine Below.setCell ?_ (by simp) _)
                    exact h
          · have q13 : (byt s Q != 13) = true := by
              simp only [bne_iff_ne, ne_eq]
              intro e
              exact h13 (UInt8.toNat_inj.1 (by unfold byt at e; show _ = 13; omega))
            have HS : Hid (Sees (eat (stT m rm f b.data.toList [] 0) (s.data.toList.drop fr)) (u + (i1 + 1 + 1)) 101 false b.data.toList t) := Sees.on hst.out (HBad.out (fun k e => by
              rw [HL2.out] at e
              have e2 := (List.append_inj' e rfl).2
              injection e2 with e2 _
              exact h13 e2))
            clear h13
            go_wp2_with fail
            refine (rfailed_any 0 0 false b va t.length vc _ 101 (by omega) (by omega) _).mono ?_
            rintro x w6 ⟨rfl, hb6⟩
            have HRr : Hid (WB w6 (w.heap.size + 1) 0 0 false ⟨#[]⟩ (.slice none 0 0)) := hwr.out.bel hb6
            have HO6 : Hid (OwnF 64 (w.heap.size + 2) (.slice va t.length vc) t w6) := hown.out.below hb6
            have HB6 : Hid (Below w.heap.size w w6) := bel_up hbl.out hb6 (by omega)
            clear hb6
            obtain ⟨r0, r1, r2, r3, r4⟩ := HRr.out.c
            have f0 := HRr.out.f 0
            have f1 := HRr.out.f 1
            have f2 := HRr.out.f 2
            have f3 := HRr.out.f 3
            have f4 := HRr.out.f 4
            go_wp2
            refine bodyPost_ret (v := .agg #[.int .i64 ((Q : Int) + 1 + 1), .int .i64 101, .bool false, .string b, .slice va t.length vc]) (by simp [results, Tryz.results83, go_sem, r0, r1, r2, r3, r4]) rfl ?_
            refine ⟨u + (i1 + 1 + 1), _, _, t, _, wkV_mk (by have := hau.out; have := HQ.out; omega), HS.out, OwnF.base (B := w.heap.size + 2) ?_ (by omega), ?_⟩
            · have h := HO6.out
              repeat (refine OwnF.low ?_ (by simp) _)
              exact h
            · have h := HB6.out
              repeat (refine Below.setCell ?_ (by simp) _)
              exact h
    · by_cases hfar : rm < (s.size : Int) - (fr : Int)
      · have HS : Hid (Sees (eat (stT m rm f b.data.toList [] 0) (s.data.toList.drop fr)) (u + ((rm - u).toNat + 1)) 104 false b.data.toList t) := Sees.on hst.out (HFar.out (rm - u).toNat (by omega) (fun i h1 h2 => hN.no i (by omega) h2) hfar)
        go_wp2_with fail
        refine (ropen_far 0 0 false b va t.length vc s (by omega) fr hfr rm 104 hr0 hfar _).mono ?_
        rintro x w6 ⟨rfl, hb6⟩
        have HRr : Hid (WB w6 (w.heap.size + 1) 0 0 false ⟨#[]⟩ (.slice none 0 0)) := hwr.out.bel hb6
        have HO6 : Hid (OwnF 64 (w.heap.size + 2) (.slice va t.length vc) t w6) := hown.out.below hb6
        have HB6 : Hid (Below w.heap.size w w6) := bel_up hbl.out hb6 (by omega)
        clear hb6
        obtain ⟨r0, r1, r2, r3, r4⟩ := HRr.out.c
        have f0 := HRr.out.f 0
        have f1 := HRr.out.f 1
        have f2 := HRr.out.f 2
        have f3 := HRr.out.f 3
        have f4 := HRr.out.f 4
        go_wp2
        refine bodyPost_ret (v := .agg #[.int .i64 ((fr : Int) + rm + 1), .int .i64 104, .bool false, .string b, .slice va t.length vc]) (by simp [results, Tryz.results83, go_sem, r0, r1, r2, r3, r4]) rfl ?_
        refine ⟨u + ((rm - u).toNat + 1), _, _, t, _, wkV_mk (by omega), HS.out, OwnF.base (B := w.heap.size + 2) ?_ (by omega), ?_⟩
        · have h := HO6.out
          repeat (refine OwnF.low ?_ (by simp) _)
          exact h
        · have h := HB6.out
          repeat (refine Below.setCell ?_ (by simp) _)
          exact h
      · have HS : Hid (Sees (eat (stT m rm f b.data.toList [] 0) (s.data.toList.drop fr)) (u + (s.size - a)) 0 false b.data.toList t) := Sees.on hst.out (HNear.out (fun i h1 h2 => hN.no i (by omega) h2) (by omega))
        go_wp2_with fail
        refine (ropen_near 0 0 false b va t.length vc s (by omega) fr hfr rm 104 (by omega) _).mono ?_
        rintro x w6 ⟨rfl, hb6⟩
        have HRr : Hid (WB w6 (w.heap.size + 1) 0 0 false ⟨#[]⟩ (.slice none 0 0)) := hwr.out.bel hb6
        have HO6 : Hid (OwnF 64 (w.heap.size + 2) (.slice va t.length vc) t w6) := hown.out.below hb6
        have HB6 : Hid (Below w.heap.size w w6) := bel_up hbl.out hb6 (by omega)
        clear hb6
        obtain ⟨r0, r1, r2, r3, r4⟩ := HRr.out.c
        have f0 := HRr.out.f 0
        have f1 := HRr.out.f 1
        have f2 := HRr.out.f 2
        have f3 := HRr.out.f 3
        have f4 := HRr.out.f 4
        go_wp2
        refine bodyPost_ret (v := .agg #[.int .i64 ((s.size : Int)), .int .i64 0, .bool false, .string b, .slice va t.length vc]) (by simp [results, Tryz.results83, go_sem, r0, r1, r2, r3, r4]) rfl ?_
        refine ⟨u + (s.size - a), _, _, t, _, wkV_mk (by have := hau.out; omega), HS.out, OwnF.base (B := w.heap.size + 2) ?_ (by omega), ?_⟩
        · have h := HO6.out
          repeat (refine OwnF.low ?_ (by simp) _)
          exact h
        · have h := HB6.out
          repeat (refine Below.setCell ?_ (by simp) _)
          exact h
end Ck
end Go.Proofs.YtdcfhnbagldilaaGreatDoor
set_option linter.unusedVariables false
set_option linter.unusedSimpArgs false
set_option maxRecDepth 100000
namespace Go.Proofs.YtdcfhnbagldilaaGreatDoor
open Go.RowKit Go.Shelf
namespace Ck
open Oc Tg _root_.Go.Proofs.YtdcfhnbagldilaaGreatDoor.Fd
theorem stS_fresh (m rm f : Int) (b : List UInt8) : Fresh (stS m rm f b) := ⟨rfl, rfl, rfl⟩
theorem app_list (a b : ByteArray) : (a ++ b).data.toList = a.data.toList ++ b.data.toList := by simp
set_option maxHeartbeats 2000000 in
theorem rWalk_any (s : ByteArray) (hs : s.size ≤ 2000000) (m rm f : Int) (hm0 : 0 ≤ m) (hm1 : m ≤ 9223372036854775807) (hr0 : 0 ≤ rm) (hr1 : rm ≤ 9223372036854775807) (hf0 : 0 ≤ f) (hf1 : f ≤ 9223372036854775807) (w : World) :
    Calls Tryz.prog 42 #[.string s, .int .i64 m, .int .i64 rm, .int .i64 f] w fun x w' => ∃ (n : Nat) (e : Int) (d : Bool) (b : ByteArray) (t : List Fl) (v : Value), x = .returned (wkV (n : Int) e d b v) ∧ Sees (eat (new m rm f) s.data.toList) n e d b.data.toList t ∧ OwnF 64 w.heap.size v t w' ∧ Below w.heap.size w w' := by
  obtain ⟨W1, W2, hB, hsz⟩ := two_blocks w 0 0 false ⟨#[]⟩ (.slice none 0 0)
  obtain ⟨w2, hw2⟩ : ∃ w2, w2 = (w.alloc (.cells #[.int .i64 0, .int .i64 0, .bool false, .string ⟨#[]⟩, .slice none 0 0] 93)).alloc (.cells #[.int .i64 0, .int .i64 0, .bool false, .string ⟨#[]⟩, .slice none 0 0] 93) := ⟨_, rfl⟩
  rw [← hw2] at W1 W2 hB hsz
  have HW2 : Hid (w2 = (w.alloc (.cells #[.int .i64 0, .int .i64 0, .bool false, .string ⟨#[]⟩, .slice none 0 0] 93)).alloc (.cells #[.int .i64 0, .int .i64 0, .bool false, .string ⟨#[]⟩, .slice none 0 0] 93)) := hw2
  have HB : Hid (Below w.heap.size w w2) := hB
  have HWR : Hid (WB w2 w.heap.size 0 0 false ⟨#[]⟩ (.slice none 0 0)) := W1
  have HWA : Hid (WB w2 (w.heap.size + 1) 0 0 false ⟨#[]⟩ (.slice none 0 0)) := W2
  clear hw2 hB W2 W1 hsz
  go_enter Tryz.func42, Tryz.ntmps42
  go_wp2
  rw [← HW2.out]
  go_loopw [10] (fun av wr => ∃ (a : Nat) (b : ByteArray), a ≤ s.size ∧ av = .int .i64 a ∧ b.size ≤ a ∧ (b.size : Int) ≤ m ∧ Hid (eat (new m rm f) s.data.toList = (a + (eat (stS m rm f b.data.toList) (s.data.toList.drop a)).1, (eat (stS m rm f b.data.toList) (s.data.toList.drop a)).2)) ∧ Hid (WB wr (w.heap.size + 1) 0 0 false b (.slice none 0 0)) ∧ Hid (WB wr w.heap.size 0 0 false ⟨#[]⟩ (.slice none 0 0)) ∧ Hid (Below w.heap.size w wr)) (fun av _ => s.size - (intOf av).toNat)
  case atStart => exact ⟨0, ⟨#[]⟩, Nat.zero_le _, rfl, Nat.le_refl _, hm0, (by rw [List.drop_zero, Nat.zero_add, ← stS_new] : eat (new m rm f) s.data.toList = (0 + (eat (stS m rm f []) (s.data.toList.drop 0)).1, (eat (stS m rm f []) (s.data.toList.drop 0)).2)), HWA, HWR, HB⟩
  case round =>
    obtain ⟨a, b, ha, rfl, hba, hbm, hst, hwa, hwr, hbl⟩ := hrel
    obtain ⟨c0, c1, c2, c3, c4⟩ := hwa.out.c
    have HML : Hid ((s.data.toList.drop a).length = s.size - a) := (by rw [List.length_drop, size_list] : (s.data.toList.drop a).length = s.size - a)
    have hsza := hwa.out.lt
    have hszr := hwr.out.lt
    obtain ⟨wo, rfl⟩ : ∃ wo, wo = wr := ⟨_, rfl⟩
    have HFar : Hid ((∀ i, i < 256 → a + i < s.size → s.data.toList.getD (a + i) 0 ≠ 10) → 255 < s.size - a → Sees (eat (new m rm f) s.data.toList) (a + 256) 100 false b.data.toList []) := fun hn hl => Sees.on hst.out (open0_long (s := stS m rm f b.data.toList) rfl (stS_fresh _ _ _ _) (fun i h1 h2 => by rw [dropG]; exact hn i h1 (by rw [HML.out] at h2; omega)) (by rw [HML.out]; omega))
    have HNear : Hid ((∀ i, i < 256 → a + i < s.size → s.data.toList.getD (a + i) 0 ≠ 10) → ¬ 255 < s.size - a → Sees (eat (new m rm f) s.data.toList) (a + (s.size - a)) 0 false b.data.toList []) := fun hn hl => by
      have h := Sees.on hst.out (open0_short (s := stS m rm f b.data.toList) rfl (stS_fresh _ _ _ _) (fun i h1 h2 => by rw [dropG]; exact hn i h1 (by rw [HML.out] at h2; omega)) (by rw [HML.out]; omega))
      rw [HML.out] at h
      exact h
    go_wp2_with fail
    refine (rending_any s (by omega) a ha 256 (by omega) _).mono ?_
    rintro e w3 ⟨hd, hw⟩
    rw [hw]
    clear hw
    rcases hd with ⟨i, rfl, hY⟩ | ⟨rfl, hN⟩
    · obtain ⟨P, hP⟩ : ∃ P, P = a + i := ⟨_, rfl⟩
      have HP : Hid (P = a + i) := hP
      rw [← hP]
      have hPs : P < s.size := by rw [hP]; exact hY.ins
      have hPa : a ≤ P := by omega
      clear hP
      have hl0 : noLf ((s.data.toList.drop a).take i) := noLf_of (fun j h1 h2 => by rw [dropG]; exact hY.no j h1)
      have hlen : ((s.data.toList.drop a).take i).length = i := by rw [List.length_take, HML.out]; have := HP.out; omega
      have hcut : s.data.toList.drop a = (s.data.toList.drop a).take i ++ 10 :: (s.data.toList.drop a).drop (i + 1) := cut_lf (by rw [HML.out]; have := HP.out; omega) (by rw [dropG]; exact hY.lf)
      have hrest : (s.data.toList.drop a).drop (i + 1) = s.data.toList.drop (P + 1) := by rw [List.drop_drop, HP.out, Nat.add_assoc]
      rw [hrest] at hcut
      have hll : ((s.data.toList.drop a).take i).length < 256 := by rw [hlen]; exact hY.lt
      have HBad : Hid ((∀ k, (s.data.toList.drop a).take i ≠ k ++ [13]) → Sees (eat (new m rm f) s.data.toList) (a + (i + 1)) 100 false b.data.toList []) := fun h => by
        have h := line0_bad (s := stS m rm f b.data.toList) (r := s.data.toList.drop (P + 1)) rfl (stS_fresh _ _ _ _) hl0 hll h
        rw [← hcut, hlen] at h
        exact Sees.on hst.out h
      have HErr : Hid (∀ k, (s.data.toList.drop a).take i = k ++ [13] → (sizeR k).2.2 ≠ 0 → Sees (eat (new m rm f) s.data.toList) (a + (i + 1)) (sizeR k).2.2 false b.data.toList []) := fun k hk he => by
        have h := line0_err (s := stS m rm f b.data.toList) (r := s.data.toList.drop (P + 1)) rfl (stS_fresh _ _ _ _) hl0 hll hk he
        rw [← hcut, hlen] at h
        exact Sees.on hst.out h
      have HMuch : Hid (∀ k, (s.data.toList.drop a).take i = k ++ [13] → (sizeR k).2.2 = 0 → m - (b.size : Int) < (sizeR k).1 → Sees (eat (new m rm f) s.data.toList) (a + (i + 1)) 102 false b.data.toList []) := fun k hk he hb => by
        have h := line0_much (s := stS m rm f b.data.toList) (r := s.data.toList.drop (P + 1)) rfl (stS_fresh _ _ _ _) hl0 hll hk he (by show m - (b.data.toList.length : Int) < _; rw [size_list]; exact hb)
        rw [← hcut, hlen] at h
        exact Sees.on hst.out h
      have HLst : Hid (∀ k, (s.data.toList.drop a).take i = k ++ [13] → (sizeR k).2.2 = 0 → ¬ (m - (b.size : Int) < (sizeR k).1) → (sizeR k).1 = 0 → eat (new m rm f) s.data.toList = (a + (i + 1) + (eat (stT m rm f b.data.toList [] 0) (s.data.toList.drop (P + 1))).1, (eat (stT m rm f b.data.toList [] 0) (s.data.toList.drop (P + 1))).2)) := fun k hk he hb hz => by
        have h := line0_last (s := stS m rm f b.data.toList) (r := s.data.toList.drop (P + 1)) rfl (stS_fresh _ _ _ _) hl0 hll hk he (by show ¬ (m - (b.data.toList.length : Int) < _); rw [size_list]; exact hb) hz
        rw [← hcut, hlen, stT_of] at h
        exact eat_on hst.out h
      have HChk : Hid (∀ k, (s.data.toList.drop a).take i = k ++ [13] → (sizeR k).2.2 = 0 → ¬ (m - (b.size : Int) < (sizeR k).1) → (sizeR k).1 ≠ 0 → eat (new m rm f) s.data.toList = (a + (i + 1) + (eat { (stS m rm f b.data.toList) with most := (stS m rm f b.data.toList).most - (sizeR k).1, left := (sizeR k).1, mode := 1 } (s.data.toList.drop (P + 1))).1, (eat { (stS m rm f b.data.toList) with most := (stS m rm f b.data.toList).most - (sizeR k).1, left := (sizeR k).1, mode := 1 } (s.data.toList.drop (P + 1))).2)) := fun k hk he hb hz => by
        have h := line0_chunk (s := stS m rm f b.data.toList) (r := s.data.toList.drop (P + 1)) rfl (stS_fresh _ _ _ _) hl0 hll hk he (by show ¬ (m - (b.data.toList.length : Int) < _); rw [size_list]; exact hb) hz
        rw [← hcut, hlen] at h
        exact eat_on hst.out h
      have HLast : Hid (∀ i1, i = i1 + 1 → (s.data.toList.drop a).take i = (s.data.toList.drop a).take i1 ++ [s.data.toList.getD (a + i1) 0]) := fun i1 h => by
        subst h
        have hlt : i1 < (s.data.toList.drop a).length := by rw [HML.out]; have := HP.out; omega
        rw [List.take_succ_eq_append_getElem hlt, ← dropG, List.getD_eq_getElem?_getD, List.getElem?_eq_getElem hlt]; rfl
      have hi256 := hY.lt
      clear hl0 hlen hcut hrest hll hY HFar HNear
      by_cases hi0 : i = 0
      · have hPa0 : P = a := by have := HP.out; omega
        have HS : Hid (Sees (eat (new m rm f) s.data.toList) (a + (i + 1)) 100 false b.data.toList []) := HBad.out (fun k e => by subst hi0; simp at e)
        have HI0 : Hid (i = 0) := hi0
        subst hPa0
        have hq : ((P : Int) == (P : Int)) = true := by simp
        clear hi0 HBad HErr HMuch HLst HChk HLast
        go_wp2_with fail
        refine (rfailed_any 0 0 false b none 0 0 _ 100 (by omega) (by omega) _).mono ?_
        rintro x w6 ⟨rfl, hb6⟩
        have HRr : Hid (WB w6 w.heap.size 0 0 false ⟨#[]⟩ (.slice none 0 0)) := hwr.out.bel hb6
        have HB6 : Hid (Below w.heap.size w w6) := bel_up hbl.out hb6 (by omega)
        clear hb6
        obtain ⟨r0, r1, r2, r3, r4⟩ := HRr.out.c
        have f0 := HRr.out.f 0
        have f1 := HRr.out.f 1
        have f2 := HRr.out.f 2
        have f3 := HRr.out.f 3
        have f4 := HRr.out.f 4
        go_wp2
        refine bodyPost_ret (v := .agg #[.int .i64 ((P : Int) + 1), .int .i64 100, .bool false, .string b, .slice none 0 0]) (by simp [results, Tryz.results42, go_sem, r0, r1, r2, r3, r4]) rfl ?_
        first | refine ⟨P + (i + 1), _, _, b, [], _, wkV_mk (by have := HI0.out; omega), HS.out, ownF_nil _ _ _, ?_⟩ | refine ⟨P + (i + 1), _, .inl ⟨b, [], _, wkV_mk (by have := HI0.out; omega), HS.out, ownF_nil _ _ _, ?_⟩⟩
        have h := HB6.out
        repeat (refine Below.setCell ?_ (by simp) _)
        exact h
      · obtain ⟨i1, rfl⟩ : ∃ i1, i = i1 + 1 := ⟨i - 1, by omega⟩
        obtain ⟨Q, hQ⟩ : ∃ Q, P = Q + 1 := ⟨P - 1, by have := HP.out; omega⟩
        subst hQ
        have HQ : Hid (Q = a + i1) := (by have := HP.out; omega : Q = a + i1)
        have hQs : Q < s.size := by omega
        have hby : ((s[Q].toNat : Nat) : Int) = byt s Q := byt_at s Q hQs
        have hne : (((Q : Int) + 1) == (a : Int)) = false := by have := HQ.out; simp; omega
        have HL2 : Hid ((s.data.toList.drop a).take (i1 + 1) = (s.data.toList.drop a).take i1 ++ [s.data.toList.getD Q 0]) := (by rw [HQ.out]; exact HLast.out i1 rfl : (s.data.toList.drop a).take (i1 + 1) = _)
        have hQa : a ≤ Q := by have := HQ.out; omega
        have HAi : Hid (a + (i1 + 1 + 1) = Q + 1 + 1) := (by have := HQ.out; omega : a + (i1 + 1 + 1) = Q + 1 + 1)
        rw [HAi.out] at HBad HErr HMuch HLst HChk
        by_cases h13 : s.data.toList.getD Q 0 = 13
        · have q13 : (byt s Q != 13) = false := by unfold byt; rw [h13]; rfl
          obtain ⟨X, hX⟩ : ∃ X, X = s.extract a Q := ⟨_, rfl⟩
          have HX : Hid (X = s.extract a Q) := hX
          have HXl : Hid (X.data.toList = (s.data.toList.drop a).take i1) := (by rw [hX, Lib.extract_data, HQ.out, show a + i1 - a = i1 by omega] : X.data.toList = _)
          have hXs : X.size = i1 := by
            have h := congrArg List.length HXl.out
            rw [size_list, List.length_take, HML.out] at h
            have := HQ.out
            omega
          have HL3 : Hid ((s.data.toList.drop a).take (i1 + 1) = X.data.toList ++ [13]) := (by rw [HL2.out, h13, HXl.out] : (s.data.toList.drop a).take (i1 + 1) = _)
          clear h13 hX
          have HPS : Hid (∀ w, Calls Tryz.prog 82 #[.string X] w fun e w' => ∃ v, e = .returned (.tuple #[.int .i64 (sizeR X.data.toList).1, v, .int .i64 (sizeR X.data.toList).2.2]) ∧ OwnP 167 w.heap.size v (sizeR X.data.toList).2.1 w' ∧ Below w.heap.size w w') := fun w => rParseSize_any X (by omega) w
          have HErr2 := HErr.out X.data.toList HL3.out
          have HMuch2 := HMuch.out X.data.toList HL3.out
          have HLst2 := HLst.out X.data.toList HL3.out
          have HChk2 := HChk.out X.data.toList HL3.out
          obtain ⟨n0, n1⟩ := sizeR_bd X.data.toList
          clear HErr HMuch HLst HChk HBad HLast HL2 HL3
          generalize sizeR X.data.toList = q at *
          obtain ⟨n, ps, e⟩ := q
          simp only at n0 n1 HPS HErr2 HMuch2 HLst2 HChk2
          have HE2 : Hid (e ≠ 0 → Sees (eat (new m rm f) s.data.toList) (Q + 1 + 1) e false b.data.toList []) := HErr2
          have HM2 : Hid (e = 0 → m - (b.size : Int) < n → Sees (eat (new m rm f) s.data.toList) (Q + 1 + 1) 102 false b.data.toList []) := HMuch2
          have HL2 : Hid (e = 0 → ¬ (m - (b.size : Int) < n) → n = 0 → eat (new m rm f) s.data.toList = (Q + 1 + 1 + (eat (stT m rm f b.data.toList [] 0) (s.data.toList.drop (Q + 1 + 1))).1, (eat (stT m rm f b.data.toList [] 0) (s.data.toList.drop (Q + 1 + 1))).2)) := HLst2
          have HC2 : Hid (e = 0 → ¬ (m - (b.size : Int) < n) → n ≠ 0 → eat (new m rm f) s.data.toList = (Q + 1 + 1 + (eat { (stS m rm f b.data.toList) with most := (stS m rm f b.data.toList).most - n, left := n, mode := 1 } (s.data.toList.drop (Q + 1 + 1))).1, (eat { (stS m rm f b.data.toList) with most := (stS m rm f b.data.toList).most - n, left := n, mode := 1 } (s.data.toList.drop (Q + 1 + 1))).2)) := HChk2
          clear HErr2 HMuch2 HLst2 HChk2
          go_wp2_with fail
          rw [← HX.out]
          refine (HPS.out _).mono ?_
          rintro x w4 ⟨vp, rfl, hop, hb4⟩
          have HW4 : Hid (WB w4 (w.heap.size + 1) 0 0 false b (.slice none 0 0)) := hwa.out.bel hb4
          have HR4 : Hid (WB w4 w.heap.size 0 0 false ⟨#[]⟩ (.slice none 0 0)) := hwr.out.bel hb4
          have HB4 : Hid (Below w.heap.size w w4) := bel_up hbl.out hb4 (by omega)
          obtain ⟨d0, d1, d2, d3, d4⟩ := HW4.out.c
          have hsz4 := HW4.out.lt
          clear hb4 hop c0 c1 c2 c3 c4
          have hwm : IntKind.i64.wrap (m - (b.size : Int)) = m - (b.size : Int) := by rw [IntKind.wrap_i64]; omega
          by_cases he : e = 0
          · subst he
            by_cases hmu : m - (b.size : Int) < n
            · have HS : Hid (Sees (eat (new m rm f) s.data.toList) (Q + 1 + 1) 102 false b.data.toList []) := HM2.out rfl hmu
              clear HE2 HM2 HL2 HC2
              go_wp2_with fail
              refine (rfailed_any 0 0 false b none 0 0 _ 102 (by omega) (by omega) _).mono ?_
              rintro x w6 ⟨rfl, hb6⟩
              have HRr : Hid (WB w6 w.heap.size 0 0 false ⟨#[]⟩ (.slice none 0 0)) := HR4.out.bel hb6
              have HB6 : Hid (Below w.heap.size w w6) := bel_up HB4.out hb6 (by omega)
              clear hb6
              obtain ⟨r0, r1, r2, r3, r4⟩ := HRr.out.c
              have f0 := HRr.out.f 0
              have f1 := HRr.out.f 1
              have f2 := HRr.out.f 2
              have f3 := HRr.out.f 3
              have f4 := HRr.out.f 4
              go_wp2
              refine bodyPost_ret (v := .agg #[.int .i64 ((Q : Int) + 1 + 1), .int .i64 102, .bool false, .string b, .slice none 0 0]) (by simp [results, Tryz.results42, go_sem, r0, r1, r2, r3, r4]) rfl ?_
              first | refine ⟨Q + 1 + 1, _, _, b, [], _, wkV_mk (by omega), HS.out, ownF_nil _ _ _, ?_⟩ | refine ⟨Q + 1 + 1, _, .inl ⟨b, [], _, wkV_mk (by omega), HS.out, ownF_nil _ _ _, ?_⟩⟩
              have h := HB6.out
              repeat (refine Below.setCell ?_ (by simp) _)
              exact h
            · by_cases hn0 : n = 0
              · have HST := HL2.out rfl (by omega) hn0
                have HS : Hid (eat (new m rm f) s.data.toList = (Q + 1 + 1 + (eat (stT m rm f b.data.toList [] 0) (s.data.toList.drop (Q + 1 + 1))).1, (eat (stT m rm f b.data.toList [] 0) (s.data.toList.drop (Q + 1 + 1))).2)) := HST
                clear HE2 HM2 HL2 HC2 HST
                subst hn0
                go_wp2_with fail
                refine (rtrail_any m rm f hr0 hr1 hf0 hf1 b s hs (Q + 1 + 1) (by omega) _).mono ?_
                rintro x w6 ⟨n6, e6, d6, t6, v6, rfl, hs6, ho6, hb6⟩
                have HS6 : Hid (Sees (eat (new m rm f) s.data.toList) (Q + 1 + 1 + n6) e6 d6 b.data.toList t6) := Sees.on HS.out hs6
                have HRr : Hid (WB w6 w.heap.size 0 0 false ⟨#[]⟩ (.slice none 0 0)) := HR4.out.bel hb6
                have HB6 : Hid (Below w.heap.size w w6) := bel_up HB4.out hb6 (by omega)
                have HO6 : Hid (OwnF 64 (w.heap.size + 1) v6 t6 w6) := OwnF.base ho6 (by omega)
                obtain ⟨va6, vc6, hv6⟩ := OwnF.form ho6
                subst hv6
                clear hb6 hs6 ho6
                unfold wkV
                obtain ⟨r0, r1, r2, r3, r4⟩ := HRr.out.c
                have f0 := HRr.out.f 0
                have f1 := HRr.out.f 1
                have f2 := HRr.out.f 2
                have f3 := HRr.out.f 3
                have f4 := HRr.out.f 4
                go_wp2
                refine bodyPost_ret (v := .agg #[.int .i64 (((Q + 1 + 1 : Nat) : Int) + (n6 : Int)), .int .i64 e6, .bool d6, .string b, .slice va6 t6.length vc6]) (by simp [results, Tryz.results42, go_sem, r0, r1, r2, r3, r4]) rfl ?_
                first | refine ⟨Q + 1 + 1 + n6, _, _, b, t6, _, wkV_mk (by omega), HS6.out, OwnF.base (B := w.heap.size + 1) ?_ (by omega), ?_⟩ | refine ⟨Q + 1 + 1 + n6, _, .inl ⟨b, t6, _, wkV_mk (by omega), HS6.out, OwnF.base (B := w.heap.size + 1) ?_ (by omega), ?_⟩⟩
                · have h := HO6.out
                  repeat (refine OwnF.low ?_ (by simp) _)
                  exact h
                have h := HB6.out
                repeat (refine Below.setCell ?_ (by simp) _)
                exact h
              · have HST := HC2.out rfl (by omega) hn0
                obtain ⟨N, hN⟩ : ∃ N : Nat, n = (N : Int) := ⟨n.toNat, by omega⟩
                subst hN
                have HS : Hid (eat (new m rm f) s.data.toList = (Q + 1 + 1 + (eat { (stS m rm f b.data.toList) with most := (stS m rm f b.data.toList).most - (N : Int), left := (N : Int), mode := 1 } (s.data.toList.drop (Q + 1 + 1))).1, (eat { (stS m rm f b.data.toList) with most := (stS m rm f b.data.toList).most - (N : Int), left := (N : Int), mode := 1 } (s.data.toList.drop (Q + 1 + 1))).2)) := HST
                have hN0 : ((N : Int) == 0) = false := by simp; omega
                have hNp : 0 < N := by omega
                have hNm : b.size + N ≤ m := by omega
                clear HE2 HM2 HL2 HC2 HST hn0
                have HDl : Hid ((s.data.toList.drop (Q + 1 + 1)).length = s.size - (Q + 1 + 1)) := (by rw [List.length_drop, size_list] : (s.data.toList.drop (Q + 1 + 1)).length = s.size - (Q + 1 + 1))
                have hsb := HW4.out.f 3
                have hs0 := HW4.out.f 0
                obtain ⟨A, hA⟩ : ∃ A, A = Q + 1 + 1 := ⟨_, rfl⟩
                have HA : Hid (A = Q + 1 + 1) := hA
                have hAs : A ≤ s.size := by omega
                have HAi2 : Hid ((Q : Int) + 1 + 1 = (A : Int)) := (by omega : (Q : Int) + 1 + 1 = (A : Int))
                rw [← hA] at HS HDl
                clear hA
                by_cases hsh : (s.size : Int) - ((Q : Int) + 1 + 1) < (N : Int)
                · obtain ⟨Z, hZ⟩ : ∃ Z, Z = s.extract A s.size := ⟨_, rfl⟩
                  have HZ : Hid (Z = s.extract A s.size) := hZ
                  have HZl : Hid (Z.data.toList = s.data.toList.drop A) := (by rw [hZ, Lib.extract_to_end] : Z.data.toList = _)
                  have hZs : Z.size = s.size - A := by rw [hZ]; exact size_ext s A hAs
                  have HS6 : Hid (Sees (eat (new m rm f) s.data.toList) (A + (s.size - A)) 0 false (b ++ Z).data.toList []) := by
                    have h := Sees.on HS.out (chunk_part (most := m) (room := rm) (fields := f) (b := b.data.toList) (t := s.data.toList.drop A) (n := (N : Int)) (by rw [HDl.out]; have := HA.out; omega))
                    rw [HDl.out, ← HZl.out, ← app_list] at h
                    exact h
                  have hcat : ¬ (9223372036854775807 < b.size + Z.size) := by omega
                  clear hZ
                  go_wp2_with fail
                  rw [HAi2.out]
                  go_region
                  rw [← HZ.out]
                  obtain ⟨w5, hw5⟩ : ∃ w5, w5 = (w4.setCell ⟨w.heap.size + 1, 3, none⟩ (.string (b ++ Z))).drew := ⟨_, rfl⟩
                  have HW5 : Hid (WB w5 (w.heap.size + 1) 0 0 false (b ++ Z) (.slice none 0 0)) := (by rw [hw5]; exact HW4.out.set3 _ : WB w5 (w.heap.size + 1) 0 0 false (b ++ Z) (.slice none 0 0))
                  have HRr : Hid (WB w5 w.heap.size 0 0 false ⟨#[]⟩ (.slice none 0 0)) := (by rw [hw5]; exact HR4.out.other (by simp) _ : WB w5 w.heap.size 0 0 false ⟨#[]⟩ (.slice none 0 0))
                  have HB5 : Hid (Below w.heap.size w w5) := (by rw [hw5]; exact (HB4.out.setCell (by simp) _).drew : Below w.heap.size w w5)
                  rw [← hw5]
                  clear hw5
                  have hbz : (b ++ Z).size = b.size + Z.size := by simp
                  generalize b ++ Z = bz at *
                  obtain ⟨e0, e1, e2, e3, e4⟩ := HW5.out.c
                  have ef0 := HW5.out.f 0
                  have hsz5 := HW5.out.lt
                  obtain ⟨r0, r1, r2, r3, r4⟩ := HRr.out.c
                  have f0 := HRr.out.f 0
                  have f1 := HRr.out.f 1
                  have f2 := HRr.out.f 2
                  have f3 := HRr.out.f 3
                  have f4 := HRr.out.f 4
                  go_wp2
                  refine bodyPost_ret (v := .agg #[.int .i64 ((s.size : Int)), .int .i64 0, .bool false, .string bz, .slice none 0 0]) (by simp [results, Tryz.results42, go_sem, r0, r1, r2, r3, r4, e0, e1, e2, e3, e4]) rfl ?_
                  first | refine ⟨A + (s.size - A), _, _, bz, [], _, wkV_mk (by omega), HS6.out, ownF_nil _ _ _, ?_⟩ | refine ⟨A + (s.size - A), _, .inl ⟨bz, [], _, wkV_mk (by omega), HS6.out, ownF_nil _ _ _, ?_⟩⟩
                  have h := HB5.out
                  repeat (refine Below.setCell ?_ (by simp) _)
                  exact h
                · have hfit : A + N ≤ s.size := by have := HA.out; omega
                  obtain ⟨Z, hZ⟩ : ∃ Z, Z = s.extract A (A + N) := ⟨_, rfl⟩
                  have HZ : Hid (Z = s.extract A (A + N)) := hZ
                  have HZl : Hid (Z.data.toList = (s.data.toList.drop A).take N) := (by rw [hZ, Lib.extract_data, show A + N - A = N by omega] : Z.data.toList = _)
                  have hZs : Z.size = N := by
                    have h := congrArg List.length HZl.out
                    rw [size_list, List.length_take, HDl.out] at h
                    omega
                  have HS6 : Hid (eat (new m rm f) s.data.toList = (A + N + (eat (stK m rm f (b ++ Z).data.toList 0) (s.data.toList.drop (A + N))).1, (eat (stK m rm f (b ++ Z).data.toList 0) (s.data.toList.drop (A + N))).2)) := by
                    have h := chunk_all (most := m) (room := rm) (fields := f) (b := b.data.toList) (t := Z.data.toList) (r := s.data.toList.drop (A + N)) (n := (N : Int)) (by rw [size_list, hZs]) (fun e => by have h := size_list Z; rw [e] at h; simp at h; omega)
                    have e : Z.data.toList ++ s.data.toList.drop (A + N) = s.data.toList.drop A := by rw [HZl.out, ← List.drop_drop, List.take_append_drop]
                    rw [e, size_list, hZs, ← app_list] at h
                    exact eat_on HS.out h
                  have hcat : ¬ (9223372036854775807 < b.size + Z.size) := by omega
                  have hcatz : Z.size = N := hZs
                  rw [hZ] at hcatz hcat
                  clear hZ
                  go_wp2_with fail
                  rw [HAi2.out]
                  go_region
                  rw [← HZ.out]
                  obtain ⟨w5, hw5⟩ : ∃ w5, w5 = (w4.setCell ⟨w.heap.size + 1, 3, none⟩ (.string (b ++ Z))).drew := ⟨_, rfl⟩
                  have HW5 : Hid (WB w5 (w.heap.size + 1) 0 0 false (b ++ Z) (.slice none 0 0)) := (by rw [hw5]; exact HW4.out.set3 _ : WB w5 (w.heap.size + 1) 0 0 false (b ++ Z) (.slice none 0 0))
                  have HRr : Hid (WB w5 w.heap.size 0 0 false ⟨#[]⟩ (.slice none 0 0)) := (by rw [hw5]; exact HR4.out.other (by simp) _ : WB w5 w.heap.size 0 0 false ⟨#[]⟩ (.slice none 0 0))
                  have HB5 : Hid (Below w.heap.size w w5) := (by rw [hw5]; exact (HB4.out.setCell (by simp) _).drew : Below w.heap.size w w5)
                  rw [← hw5]
                  clear hw5
                  have hbz : (b ++ Z).size = b.size + Z.size := by simp
                  generalize b ++ Z = bz at *
                  obtain ⟨e0, e1, e2, e3, e4⟩ := HW5.out.c
                  have ef0 := HW5.out.f 0
                  have hsz5 := HW5.out.lt
                  obtain ⟨A2, hA2⟩ : ∃ A2, A2 = A + N := ⟨_, rfl⟩
                  have HA2 : Hid (A2 = A + N) := hA2
                  rw [← hA2] at HS6 hfit
                  clear hA2
                  obtain ⟨w6, hw6⟩ : ∃ w6, w6 = w5.alloc (.cells #[.int .u8 13, .int .u8 10] 5) := ⟨_, rfl⟩
                  have hb6 : Below w5.heap.size w5 w6 := by rw [hw6]; exact (Below.refl _ _).alloc (Nat.le_refl _) _
                  have HF6 : Hid (w6.heap[w5.heap.size]? = some (.cells #[.int .u8 13, .int .u8 10] 5 (0, 0))) := (by rw [hw6]; exact heap_alloc_new _ _ : w6.heap[w5.heap.size]? = some (.cells #[.int .u8 13, .int .u8 10] 5 (0, 0)))
                  have HW6 : Hid (WB w6 (w.heap.size + 1) 0 0 false bz (.slice none 0 0)) := HW5.out.bel hb6
                  have HR6 : Hid (WB w6 w.heap.size 0 0 false ⟨#[]⟩ (.slice none 0 0)) := HRr.out.bel hb6
                  have HB6 : Hid (Below w.heap.size w w6) := bel_up HB5.out hb6 (by omega)
                  have HW6e : Hid (w6 = w5.alloc (.cells #[.int .u8 13, .int .u8 10] 5)) := hw6
                  obtain ⟨g0, g1, g2, g3, g4⟩ := HW6.out.c
                  have gf0 := HW6.out.f 0
                  have hsz6 := HW6.out.lt
                  clear hb6 hw6 HRr
                  go_wp2
                  rw [← HW6e.out]
                  have HAN : Hid ((A : Int) + (N : Int) = (A2 : Int)) := (by have := HA2.out; omega : (A : Int) + (N : Int) = (A2 : Int))
                  rw [HAN.out]
                  go_loop [10, 108] (fun av iv => ∃ k : Nat, k ≤ 2 ∧ iv = .int .i64 k ∧ av = .int .i64 ((A2 + k : Nat) : Int) ∧ A2 + k ≤ s.size ∧ Hid (eat (new m rm f) s.data.toList = (A2 + k + (eat (stK m rm f bz.data.toList k) (s.data.toList.drop (A2 + k))).1, (eat (stK m rm f bz.data.toList k) (s.data.toList.drop (A2 + k))).2))) (fun _ iv => 2 - (intOf iv).toNat)
                  case atStart => exact ⟨0, by omega, rfl, rfl, by omega, HS6⟩
                  case round =>
                    obtain ⟨k, hk2, rfl, rfl, hks, hsk⟩ := hrel
                    by_cases hk : k < 2
                    · have kc : w6.cell? ⟨w5.heap.size, k, none⟩ = some (.int .u8 ((retAt k).toNat : Int)) := by
                        rw [cell_of_row w6 _ _ _ _ _ HF6.out]
                        match k, hk with
                        | 0, _ => rfl
                        | 1, _ => rfl
                      obtain ⟨P2, hP2⟩ : ∃ P2, P2 = A2 + k := ⟨_, rfl⟩
                      have HP2 : Hid (P2 = A2 + k) := hP2
                      rw [← hP2] at hsk hks ⊢
                      clear hP2
                      have hrb : (retAt k).toNat < 256 := (retAt k).toNat_lt
                      by_cases hend : P2 = s.size
                      · have qe : ((P2 : Int) == (s.size : Int)) = true := by simp [hend]
                        have HS7 : Hid (Sees (eat (new m rm f) s.data.toList) (P2 + 0) 0 false bz.data.toList []) := Sees.on hsk.out (by
                          rw [List.drop_eq_nil_of_le (by rw [size_list]; omega)]
                          exact stK_nil _ _ _ _ _)
                        have HRr : Hid (WB w6 w.heap.size 0 0 false ⟨#[]⟩ (.slice none 0 0)) := HR6
                        clear hend
                        generalize (retAt k).toNat = rk at *
                        obtain ⟨r0, r1, r2, r3, r4⟩ := HRr.out.c
                        have f0 := HRr.out.f 0
                        have f1 := HRr.out.f 1
                        have f2 := HRr.out.f 2
                        have f3 := HRr.out.f 3
                        have f4 := HRr.out.f 4
                        go_wp2
                        refine bodyPost_ret (v := .agg #[.int .i64 ((P2 : Int)), .int .i64 0, .bool false, .string bz, .slice none 0 0]) (by simp [results, Tryz.results42, go_sem, r0, r1, r2, r3, r4, g0, g1, g2, g3, g4]) rfl ?_
                        first | refine ⟨P2 + 0, _, _, bz, [], _, wkV_mk (by omega), HS7.out, ownF_nil _ _ _, ?_⟩ | refine ⟨P2 + 0, _, .inl ⟨bz, [], _, wkV_mk (by omega), HS7.out, ownF_nil _ _ _, ?_⟩⟩
                        have h := HB6.out
                        repeat (refine Below.setCell ?_ (by simp) _)
                        exact h
                      · have qe : ((P2 : Int) == (s.size : Int)) = false := by simp; omega
                        have hPl : P2 < s.size := by omega
                        have hby2 : ((s[P2].toNat : Nat) : Int) = byt s P2 := byt_at s P2 hPl
                        have hdc := drop_cons s.data.toList P2 (by rw [size_list]; exact hPl)
                        have HDC : Hid (s.data.toList.drop P2 = s.data.toList.getD P2 0 :: s.data.toList.drop (P2 + 1)) := hdc
                        clear hdc hend
                        by_cases hcr : s.data.toList.getD P2 0 = retAt k
                        · have qn : (byt s P2 != ((retAt k).toNat : Int)) = false := by unfold byt; rw [hcr]; simp
                          have HS7 : Hid (eat (new m rm f) s.data.toList = (A2 + (k + 1) + (eat (stK m rm f bz.data.toList (k + 1)) (s.data.toList.drop (A2 + (k + 1)))).1, (eat (stK m rm f bz.data.toList (k + 1)) (s.data.toList.drop (A2 + (k + 1)))).2)) := by
                            have h := stK_on m rm f bz.data.toList k hk (s.data.toList.drop (P2 + 1))
                            rw [← hcr, ← HDC.out] at h
                            have h2 := eat_on hsk.out h
                            rw [HP2.out] at h2
                            exact h2
                          clear hcr
                          generalize (retAt k).toNat = rk at *
                          go_wp2
                          go_round
                          case rel => exact ⟨k + 1, by omega, by go_num, by have := HP2.out; go_num, by have := HP2.out; omega, HS7⟩
                          case measure => simp [intOf]; omega
                        · have qn : (byt s P2 != ((retAt k).toNat : Int)) = true := by
                            simp only [bne_iff_ne, ne_eq]
                            intro e
                            exact hcr (UInt8.toNat_inj.1 (by unfold byt at e; omega))
                          have HS7 : Hid (Sees (eat (new m rm f) s.data.toList) (P2 + 1) 100 false bz.data.toList []) := Sees.on hsk.out (by
                            rw [HDC.out]
                            exact stK_bad _ _ _ _ k hk _ hcr _)
                          clear hcr
                          generalize (retAt k).toNat = rk at *
                          go_wp2_with fail
                          refine (rfailed_any 0 0 false bz none 0 0 _ 100 (by omega) (by omega) _).mono ?_
                          rintro x w7 ⟨rfl, hb6⟩
                          have HRr : Hid (WB w7 w.heap.size 0 0 false ⟨#[]⟩ (.slice none 0 0)) := HR6.out.bel hb6
                          have HB7 : Hid (Below w.heap.size w w7) := bel_up HB6.out hb6 (by omega)
                          clear hb6
                          obtain ⟨r0, r1, r2, r3, r4⟩ := HRr.out.c
                          have f0 := HRr.out.f 0
                          have f1 := HRr.out.f 1
                          have f2 := HRr.out.f 2
                          have f3 := HRr.out.f 3
                          have f4 := HRr.out.f 4
                          go_wp2
                          refine bodyPost_ret (v := .agg #[.int .i64 ((P2 : Int) + 1), .int .i64 100, .bool false, .string bz, .slice none 0 0]) (by simp [results, Tryz.results42, go_sem, r0, r1, r2, r3, r4]) rfl ?_
                          first | refine ⟨P2 + 1, _, _, bz, [], _, wkV_mk (by omega), HS7.out, ownF_nil _ _ _, ?_⟩ | refine ⟨P2 + 1, _, .inl ⟨bz, [], _, wkV_mk (by omega), HS7.out, ownF_nil _ _ _, ?_⟩⟩
                          have h := HB7.out
                          repeat (refine Below.setCell ?_ (by simp) _)
                          exact h
                    · obtain rfl : k = 2 := by omega
                      have HS7 : Hid (eat (new m rm f) s.data.toList = (A2 + 2 + (eat (stS m rm f bz.data.toList) (s.data.toList.drop (A2 + 2))).1, (eat (stS m rm f bz.data.toList) (s.data.toList.drop (A2 + 2))).2)) := by
                        have h := hsk.out
                        rw [stK_two] at h
                        exact h
                      go_wp2
                      go_roundw
                      case rel => exact ⟨A2 + 2, bz, by omega, by go_num, by have := HA2.out; have := HA.out; omega, by have := HA2.out; omega, HS7, HW6, HR6, HB6⟩
                      case measure => have := HA2.out; have := HA.out; simp [intOf]; omega
          · have he' : (e != 0) = true := by simp [he]
            have HS : Hid (Sees (eat (new m rm f) s.data.toList) (Q + 1 + 1) e false b.data.toList []) := HE2.out he
            clear he HE2 HM2 HL2 HC2
            go_wp2_with fail
            refine (rfailed_any 0 0 false b none 0 0 _ e (by omega) (by omega) _).mono ?_
            rintro x w6 ⟨rfl, hb6⟩
            have HRr : Hid (WB w6 w.heap.size 0 0 false ⟨#[]⟩ (.slice none 0 0)) := HR4.out.bel hb6
            have HB6 : Hid (Below w.heap.size w w6) := bel_up HB4.out hb6 (by omega)
            clear hb6
            obtain ⟨r0, r1, r2, r3, r4⟩ := HRr.out.c
            have f0 := HRr.out.f 0
            have f1 := HRr.out.f 1
            have f2 := HRr.out.f 2
            have f3 := HRr.out.f 3
            have f4 := HRr.out.f 4
            go_wp2
            refine bodyPost_ret (v := .agg #[.int .i64 ((Q : Int) + 1 + 1), .int .i64 e, .bool false, .string b, .slice none 0 0]) (by simp [results, Tryz.results42, go_sem, r0, r1, r2, r3, r4]) rfl ?_
            first | refine ⟨Q + 1 + 1, _, _, b, [], _, wkV_mk (by omega), HS.out, ownF_nil _ _ _, ?_⟩ | refine ⟨Q + 1 + 1, _, .inl ⟨b, [], _, wkV_mk (by omega), HS.out, ownF_nil _ _ _, ?_⟩⟩
            have h := HB6.out
            repeat (refine Below.setCell ?_ (by simp) _)
            exact h
        · have q13 : (byt s Q != 13) = true := by
            simp only [bne_iff_ne, ne_eq]
            intro e
            exact h13 (UInt8.toNat_inj.1 (by unfold byt at e; show _ = 13; omega))
          have HS : Hid (Sees (eat (new m rm f) s.data.toList) (Q + 1 + 1) 100 false b.data.toList []) := HBad.out (fun k e => by
            rw [HL2.out] at e
            have e2 := (List.append_inj' e rfl).2
            injection e2 with e2 _
            exact h13 e2)
          clear h13 HBad HErr HMuch HLst HChk HLast HL2
          go_wp2_with fail
          refine (rfailed_any 0 0 false b none 0 0 _ 100 (by omega) (by omega) _).mono ?_
          rintro x w6 ⟨rfl, hb6⟩
          have HRr : Hid (WB w6 w.heap.size 0 0 false ⟨#[]⟩ (.slice none 0 0)) := hwr.out.bel hb6
          have HB6 : Hid (Below w.heap.size w w6) := bel_up hbl.out hb6 (by omega)
          clear hb6
          obtain ⟨r0, r1, r2, r3, r4⟩ := HRr.out.c
          have f0 := HRr.out.f 0
          have f1 := HRr.out.f 1
          have f2 := HRr.out.f 2
          have f3 := HRr.out.f 3
          have f4 := HRr.out.f 4
          go_wp2
          refine bodyPost_ret (v := .agg #[.int .i64 ((Q : Int) + 1 + 1), .int .i64 100, .bool false, .string b, .slice none 0 0]) (by simp [results, Tryz.results42, go_sem, r0, r1, r2, r3, r4]) rfl ?_
          first | refine ⟨Q + 1 + 1, _, _, b, [], _, wkV_mk (by omega), HS.out, ownF_nil _ _ _, ?_⟩ | refine ⟨Q + 1 + 1, _, .inl ⟨b, [], _, wkV_mk (by omega), HS.out, ownF_nil _ _ _, ?_⟩⟩
          have h := HB6.out
          repeat (refine Below.setCell ?_ (by simp) _)
          exact h
    · by_cases hfar : 255 < s.size - a
      · have HS : Hid (Sees (eat (new m rm f) s.data.toList) (a + 256) 100 false b.data.toList []) := HFar.out hN.no hfar
        go_wp2_with fail
        refine (ropen_far 0 0 false b none 0 0 s (by omega) a ha 255 100 (by omega) (by omega) _).mono ?_
        rintro x w6 ⟨rfl, hb6⟩
        have HRr : Hid (WB w6 w.heap.size 0 0 false ⟨#[]⟩ (.slice none 0 0)) := hwr.out.bel hb6
        have HB6 : Hid (Below w.heap.size w w6) := bel_up hbl.out hb6 (by omega)
        clear hb6
        obtain ⟨r0, r1, r2, r3, r4⟩ := HRr.out.c
        have f0 := HRr.out.f 0
        have f1 := HRr.out.f 1
        have f2 := HRr.out.f 2
        have f3 := HRr.out.f 3
        have f4 := HRr.out.f 4
        go_wp2
        refine bodyPost_ret (v := .agg #[.int .i64 ((a : Int) + 255 + 1), .int .i64 100, .bool false, .string b, .slice none 0 0]) (by simp [results, Tryz.results42, go_sem, r0, r1, r2, r3, r4]) rfl ?_
        first | refine ⟨a + 256, _, _, b, [], _, wkV_mk (by omega), HS.out, ownF_nil _ _ _, ?_⟩ | refine ⟨a + 256, _, .inl ⟨b, [], _, wkV_mk (by omega), HS.out, ownF_nil _ _ _, ?_⟩⟩
        have h := HB6.out
        repeat (refine Below.setCell ?_ (by simp) _)
        exact h
      · have HS : Hid (Sees (eat (new m rm f) s.data.toList) (a + (s.size - a)) 0 false b.data.toList []) := HNear.out hN.no (by omega)
        go_wp2_with fail
        refine (ropen_near 0 0 false b none 0 0 s (by omega) a ha 255 100 (by omega) _).mono ?_
        rintro x w6 ⟨rfl, hb6⟩
        have HRr : Hid (WB w6 w.heap.size 0 0 false ⟨#[]⟩ (.slice none 0 0)) := hwr.out.bel hb6
        have HB6 : Hid (Below w.heap.size w w6) := bel_up hbl.out hb6 (by omega)
        clear hb6
        obtain ⟨r0, r1, r2, r3, r4⟩ := HRr.out.c
        have f0 := HRr.out.f 0
        have f1 := HRr.out.f 1
        have f2 := HRr.out.f 2
        have f3 := HRr.out.f 3
        have f4 := HRr.out.f 4
        go_wp2
        refine bodyPost_ret (v := .agg #[.int .i64 ((s.size : Int)), .int .i64 0, .bool false, .string b, .slice none 0 0]) (by simp [results, Tryz.results42, go_sem, r0, r1, r2, r3, r4]) rfl ?_
        first | refine ⟨a + (s.size - a), _, _, b, [], _, wkV_mk (by omega), HS.out, ownF_nil _ _ _, ?_⟩ | refine ⟨a + (s.size - a), _, .inl ⟨b, [], _, wkV_mk (by omega), HS.out, ownF_nil _ _ _, ?_⟩⟩
        have h := HB6.out
        repeat (refine Below.setCell ?_ (by simp) _)
        exact h
end Ck
end Go.Proofs.YtdcfhnbagldilaaGreatDoor
set_option linter.unusedVariables false
set_option linter.unusedSimpArgs false
set_option maxRecDepth 100000
namespace Go.Proofs.YtdcfhnbagldilaaGreatDoor
open Go.RowKit Go.Shelf
namespace Ck
open Oc Tg _root_.Go.Proofs.YtdcfhnbagldilaaGreatDoor.Fd
def Fine (s : DS) : Prop := s.done = true → s.err = 0
theorem fine_fin (s : DS) (e : Int) : Fine (fin s e) := fun h => by simpa [fin] using h
theorem fine_step {s : DS} (h : Fine s) (c : UInt8) : Fine (bstep s c) := by
  unfold bstep
  split
  · unfold inSize endSize
    repeat' split
    all_goals first | exact fine_fin _ _ | exact h
  · exact h
  · unfold behindChunk
    split
    · exact h
    · exact fine_fin _ _
  · unfold behindReturn
    split
    · exact h
    · exact fine_fin _ _
  · unfold inTrailers endTrailer keep
    repeat' split
    all_goals first | exact fine_fin _ _ | exact h
  · exact h
theorem fine_eat : ∀ (l : List UInt8) (s : DS), Fine s → Fine (eat s l).2
  | [], s, h => by rw [eat_nil]; exact h
  | c :: l, s, h => by
    by_cases hm : s.mode = 5
    · rw [eat_over hm]; exact h
    · rw [eat_cons hm]; exact fine_eat l (bstep s c) (fine_step h c)
theorem fine_new (m r f : Int) : Fine (new m r f) := fun h => by cases h
set_option maxHeartbeats 1000000 in
theorem rLimits_ok (m r f : Int) (h1 : 0 ≤ m) (h2 : 0 ≤ r) (h3 : 0 ≤ f) (w : World) :
    Calls Tryz.prog 41 #[.int .i64 m, .int .i64 r, .int .i64 f] w fun e w' => e = .returned (.int .i64 0) ∧ w' = w := by
  have g1 : ¬ m < 0 := by omega
  have g2 : ¬ r < 0 := by omega
  have g3 : ¬ f < 0 := by omega
  go_enter Tryz.func41, Tryz.ntmps41
  go_wp2
  go_ret
  exact ⟨rfl, rfl⟩
set_option maxHeartbeats 1000000 in
theorem rLimits_no (m r f : Int) (h : m < 0 ∨ r < 0 ∨ f < 0) (w : World) :
    Calls Tryz.prog 41 #[.int .i64 m, .int .i64 r, .int .i64 f] w fun e w' => e = .returned (.int .i64 1) ∧ w' = w := by
  by_cases g1 : m < 0
  · clear h
    go_enter Tryz.func41, Tryz.ntmps41
    go_wp2
    go_ret
    exact ⟨rfl, rfl⟩
  by_cases g2 : r < 0
  · clear h
    go_enter Tryz.func41, Tryz.ntmps41
    go_wp2
    go_ret
    exact ⟨rfl, rfl⟩
  · have g3 : f < 0 := by omega
    clear h
    go_enter Tryz.func41, Tryz.ntmps41
    go_wp2
    go_ret
    exact ⟨rfl, rfl⟩
set_option maxHeartbeats 2000000 in
theorem rDecode_any (s : ByteArray) (hs : s.size ≤ 2000000) (m r f : Int) (h1 : m ≤ 9223372036854775807) (h2 : r ≤ 9223372036854775807) (h3 : f ≤ 9223372036854775807) (w : World) :
    Calls Tryz.prog 21 #[.string s, .int .i64 m, .int .i64 r, .int .i64 f] w fun e w' => ∃ v, e = .returned (.tuple #[.string (str (decR m r f s.data.toList).1), v, .int .i64 (decR m r f s.data.toList).2.2.1, .int .i64 (decR m r f s.data.toList).2.2.2]) ∧ OwnF 64 w.heap.size v (decR m r f s.data.toList).2.1 w' ∧ Below w.heap.size w w' := by
  by_cases hneg : m < 0 ∨ r < 0 ∨ f < 0
  · have HL : Hid (Calls Tryz.prog 41 #[.int .i64 m, .int .i64 r, .int .i64 f] w fun e w' => e = .returned (.int .i64 1) ∧ w' = w) := rLimits_no m r f hneg w
    have e : decR m r f s.data.toList = ([], [], 0, 1) := by unfold decR; rw [if_pos hneg]
    rw [e]
    clear hneg e
    go_enter Tryz.func21, Tryz.ntmps21
    go_wp2_with fail
    refine HL.out.mono ?_
    rintro e w1 ⟨rfl, hw⟩
    rw [hw]
    go_wp2
    refine bodyPost_ret (v := .tuple #[.string ⟨#[]⟩, .slice none 0 0, .int .i64 0, .int .i64 1]) (by simp [results, Tryz.results21, go_sem]) rfl ?_
    exact ⟨.slice none 0 0, rfl, ownF_nil _ _ _, Below.refl _ _⟩
  · have HL : Hid (Calls Tryz.prog 41 #[.int .i64 m, .int .i64 r, .int .i64 f] w fun e w' => e = .returned (.int .i64 0) ∧ w' = w) := rLimits_ok m r f (by omega) (by omega) (by omega) w
    have HW : Hid (∀ w, Calls Tryz.prog 42 #[.string s, .int .i64 m, .int .i64 r, .int .i64 f] w fun x w' => ∃ (n : Nat) (e : Int) (d : Bool) (b : ByteArray) (t : List Fl) (v : Value), x = .returned (wkV (n : Int) e d b v) ∧ Sees (eat (new m r f) s.data.toList) n e d b.data.toList t ∧ OwnF 64 w.heap.size v t w' ∧ Below w.heap.size w w') := fun w => rWalk_any s hs m r f (by omega) h1 (by omega) h2 (by omega) h3 w
    have hok := eat_ok s.data.toList _ 0 (Ok.new m r f ⟨by omega, h1⟩ ⟨by omega, h2⟩ ⟨by omega, h3⟩)
    have hfi := fine_eat s.data.toList _ (fine_new m r f)
    have hall := eat_all s.data.toList (new m r f)
    have hle := eat_le s.data.toList (new m r f)
    have HD : Hid (decR m r f s.data.toList = if (eat (new m r f) s.data.toList).2.err ≠ 0 then ([], [], ((eat (new m r f) s.data.toList).1 : Int) - 1, (eat (new m r f) s.data.toList).2.err) else if (eat (new m r f) s.data.toList).2.done = false then ([], [], ((eat (new m r f) s.data.toList).1 : Int), 105) else ((eat (new m r f) s.data.toList).2.body, (eat (new m r f) s.data.toList).2.tr, ((eat (new m r f) s.data.toList).1 : Int), 0)) := (by unfold decR; rw [if_neg hneg] : decR m r f s.data.toList = _)
    generalize eat (new m r f) s.data.toList = E at *
    clear hneg
    go_enter Tryz.func21, Tryz.ntmps21
    go_wp2_with fail
    refine HL.out.mono ?_
    rintro e w1 ⟨rfl, hw⟩
    rw [hw]
    clear hw
    go_wp2_with fail
    refine (HW.out _).mono ?_
    rintro x w2 ⟨n, e, d, b, t, v, rfl, hsee, hown, hb2⟩
    obtain ⟨z1, z2, z3, z4, z5⟩ := hsee
    rw [z1, z2, z3, z4, z5] at HD
    have HN1 : Hid (e = 0 → d = false → (n : Int) = (s.size : Int)) := fun he hd => by
      have : E.2.mode ≠ 5 := fun h5 => by
        rcases hok.over.1 h5 with h | h
        · rw [z3, hd] at h; cases h
        · rw [z2] at h; exact h he
      have h := hall this
      rw [z1, size_list] at h
      omega
    have HN2 : Hid (d = true → e = 0) := fun hd => by
      have h := hfi (by rw [z3]; exact hd)
      rw [z2] at h
      exact h
    have hn : n ≤ s.size := by rw [← z1, ← size_list]; exact hle
    clear z1 z2 z3 z4 z5 hok hfi hall hle
    obtain ⟨va, vc, hv⟩ := OwnF.form hown
    subst hv
    have HO2 : Hid (OwnF 64 w.heap.size (.slice va t.length vc) t w2) := hown
    have HB2 : Hid (Below w.heap.size w w2) := hb2
    have hs2 := hb2.size
    clear hown hb2
    unfold wkV
    cases d with
    | true =>
      have he := HN2.out rfl
      subst he
      have HD2 : Hid (decR m r f s.data.toList = (b.data.toList, t, (n : Int), 0)) := (by rw [HD.out]; simp : decR m r f s.data.toList = _)
      have hA : Below w2.heap.size w2 (w2.alloc (.cells #[.int .i64 (n : Int), .int .i64 0, .bool true, .string b, .slice va t.length vc] 93)) := (Below.refl _ _).alloc (Nat.le_refl _) _
      have HO3 : Hid (OwnF 64 w.heap.size (.slice va t.length vc) t (w2.alloc (.cells #[.int .i64 (n : Int), .int .i64 0, .bool true, .string b, .slice va t.length vc] 93)).drew) := (HO2.out.below hA).below ((Below.refl _ _).drew)
      have HB3 : Hid (Below w.heap.size w (w2.alloc (.cells #[.int .i64 (n : Int), .int .i64 0, .bool true, .string b, .slice va t.length vc] 93)).drew) := (bel_trans HB2.out hA).drew
      clear hA
      go_wp2_with fail
      go_region
      go_wp2
      refine bodyPost_ret (v := .tuple #[.string b, .slice va t.length vc, .int .i64 (n : Int), .int .i64 0]) (by simp [results, Tryz.results21, go_sem]) rfl ?_
      rw [HD2.out]
      exact ⟨.slice va t.length vc, (by rw [str_self]), HO3.out, HB3.out⟩
    | false =>
      by_cases he : e = 0
      · have hn2 := HN1.out he rfl
        have HD2 : Hid (decR m r f s.data.toList = ([], [], (s.size : Int), 105)) := (by rw [HD.out, he, ← hn2]; simp : decR m r f s.data.toList = _)
        subst he
        clear hn2
        go_wp2
        refine bodyPost_ret (v := .tuple #[.string ⟨#[]⟩, .slice none 0 0, .int .i64 (s.size : Int), .int .i64 105]) (by simp [results, Tryz.results21, go_sem]) rfl ?_
        rw [HD2.out]
        exact ⟨.slice none 0 0, rfl, ownF_nil _ _ _, HB2.out.alloc hs2 _⟩
      · have he' : (e != 0) = true := by simp [he]
        have HD2 : Hid (decR m r f s.data.toList = ([], [], (n : Int) - 1, e)) := (by rw [HD.out, if_pos he] : decR m r f s.data.toList = _)
        have hwn : IntKind.i64.wrap ((n : Int) - 1) = (n : Int) - 1 := by rw [IntKind.wrap_i64]; omega
        have HB3 : Hid (Below w.heap.size w (w2.alloc (.cells #[.int .i64 (n : Int), .int .i64 e, .bool false, .string b, .slice va t.length vc] 93)).drew) := (HB2.out.alloc hs2 _).drew
        clear he
        go_wp2_with fail
        go_region
        go_wp2
        refine bodyPost_ret (v := .tuple #[.string ⟨#[]⟩, .slice none 0 0, .int .i64 ((n : Int) - 1), .int .i64 e]) (by simp [results, Tryz.results21, go_sem]) rfl ?_
        rw [HD2.out]
        exact ⟨.slice none 0 0, rfl, ownF_nil _ _ _, HB3.out⟩
theorem decR_len (m r f : Int) (l : List UInt8) (h1 : m ≤ 9223372036854775807) (h2 : r ≤ 9223372036854775807) (h3 : f ≤ 9223372036854775807) : (decR m r f l).2.1.length ≤ l.length := by
  unfold decR
  split
  · exact Nat.zero_le _
  · rename_i h
    have hok := eat_ok l _ 0 (Ok.new m r f ⟨by omega, h1⟩ ⟨by omega, h2⟩ ⟨by omega, h3⟩)
    have hle := eat_le l (new m r f)
    have := hok.len
    split
    · exact Nat.zero_le _
    · split
      · exact Nat.zero_le _
      · show (eat (new m r f) l).2.tr.length ≤ l.length
        omega
end Ck
end Go.Proofs.YtdcfhnbagldilaaGreatDoor
