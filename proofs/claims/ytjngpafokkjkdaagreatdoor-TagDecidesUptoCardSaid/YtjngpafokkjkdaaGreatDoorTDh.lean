/-
  tag: Decide; the law's awake.
-/
import Derived.Test.YtjngpafokkjkdaaGreatDoorMgO
set_option linter.unusedVariables false
set_option linter.unusedSimpArgs false
namespace Go.Proofs.YtjngpafokkjkdaaGreatDoor
open Go.RowKit Go.Shelf
namespace Tt
open Oc Tg

def stV (s : St) : Value := .agg #[.bool s.th, .bool s.own.1, .string (str s.own.2), .bool s.tg, .int .i64 s.tm, .bool s.td]
def decideG (a u b d : Int) : Int := if a ≠ 0 then a else if u ≠ 0 then u else if b ≠ 0 then b else d

theorem index4_0 (x0 x1 x2 x3 : Value) (w : World) : (Instr.index 49 (.agg #[x0, x1, x2, x3]) (.int .i64 0)).run Tryz.prog w = .ok x0 w := by kernel_rfl
theorem index4_1 (x0 x1 x2 x3 : Value) (w : World) : (Instr.index 49 (.agg #[x0, x1, x2, x3]) (.int .i64 1)).run Tryz.prog w = .ok x1 w := by kernel_rfl
theorem index4_2 (x0 x1 x2 x3 : Value) (w : World) : (Instr.index 49 (.agg #[x0, x1, x2, x3]) (.int .i64 2)).run Tryz.prog w = .ok x2 w := by kernel_rfl
theorem index4_3 (x0 x1 x2 x3 : Value) (w : World) : (Instr.index 49 (.agg #[x0, x1, x2, x3]) (.int .i64 3)).run Tryz.prog w = .ok x3 w := by kernel_rfl

set_option maxRecDepth 100000 in
set_option maxHeartbeats 2000000 in
theorem Decide_gen (m : List UInt8) (fv : Value) (fs : List Fd.Fl) (s : St) (now : Int) (u d : Int) (w : World) (hrd : Fd.RdF fv fs w) (hsum : Fd.sumF fs ≤ 1048576) (hml : Fd.ML w)
    (HU : ∀ g W, Below w.heap.size w W → Ask W g m fv fs s now → Calls Tryz.prog 28 #[.pointer (some ⟨g, 0, none⟩)] W fun e w' => e = .returned (.int .i64 u) ∧ Below W.heap.size W w')
    (HD : ∀ g W, Below w.heap.size w W → Ask W g m fv fs s now → Calls Tryz.prog 30 #[.pointer (some ⟨g, 0, none⟩)] W fun e w' => e = .returned (.int .i64 d) ∧ Below W.heap.size W w') :
    Calls Tryz.prog 6 #[.string (str m), fv, .agg #[.bool s.th, .bool s.own.1, .string (str s.own.2), .bool s.tg, .int .i64 s.tm, .bool s.td], .int .i64 now] w fun e w' => e = .returned (.int .i64 (decideG (matchV fs s) u (noneV m fs s) d)) ∧ Below w.heap.size w w' := by
  obtain ⟨w1, hw1⟩ : ∃ w1, w1 = w.alloc (.cells #[.bool s.th, .bool s.own.1, .string (str s.own.2), .bool s.tg, .int .i64 s.tm, .bool s.td] 28) := ⟨_, rfl⟩
  obtain ⟨w2, hw2⟩ : ∃ w2, w2 = w1.alloc (.cells #[.string (str m), fv, .bool s.th, .bool s.own.1, .string (str s.own.2), .bool s.tg, .int .i64 s.tm, .bool s.td, .int .i64 now] 47) := ⟨_, rfl⟩
  have z1 : w1.heap.size = w.heap.size + 1 := by rw [hw1]; simp
  have hb : Below w.heap.size w w2 := by
    rw [hw2, hw1]; exact ((Below.refl _ w).alloc (Nat.le_refl _) _).alloc (by simp) _
  have HB : Hid (Below w.heap.size w w2) := hb
  have hab : AB w2 (w.heap.size + 1) m fv s now := by
    unfold AB
    rw [hw2, ← z1]
    exact heap_alloc_new w1 _
  have hA : Ask w2 (w.heap.size + 1) m fv fs s now := ⟨hab, hrd.below hb, hsum, hml.below hb⟩
  have H0 : Hid (∀ W, Below w2.heap.size w2 W → Calls Tryz.prog 27 #[.pointer (some ⟨w.heap.size + 1, 0, none⟩)] W fun e w' => e = .returned (.int .i64 (matchV fs s)) ∧ Below W.heap.size W w') := fun W hb => match_any (hA.below hb)
  have H1 : Hid (∀ W, Below w2.heap.size w2 W → Calls Tryz.prog 28 #[.pointer (some ⟨w.heap.size + 1, 0, none⟩)] W fun e w' => e = .returned (.int .i64 u) ∧ Below W.heap.size W w') := fun W hb' => HU _ W (bel_trans HB.out hb') (hA.below hb')
  have H2 : Hid (∀ W, Below w2.heap.size w2 W → Calls Tryz.prog 29 #[.pointer (some ⟨w.heap.size + 1, 0, none⟩)] W fun e w' => e = .returned (.int .i64 (noneV m fs s)) ∧ Below W.heap.size W w') := fun W hb => noneMatch_any (hA.below hb)
  have H3 : Hid (∀ W, Below w2.heap.size w2 W → Calls Tryz.prog 30 #[.pointer (some ⟨w.heap.size + 1, 0, none⟩)] W fun e w' => e = .returned (.int .i64 d) ∧ Below W.heap.size W w') := fun W hb' => HD _ W (bel_trans HB.out hb') (hA.below hb')
  have HS : Hid (∀ W, Calls _ _ _ W _) := fun W => steps_any (w.heap.size + 1) W
  obtain ⟨fa, fc, rfl, _⟩ := hrd
  clear hA hab hb HU HD hsum hml
  generalize matchV fs s = a at *
  generalize noneV m fs s = b at *
  obtain ⟨th, ⟨ob, ol⟩, tg, tm, td⟩ := s
  dsimp only at *
  generalize str ol = OL at *
  generalize str m = M at *
  have GO : Hid (∀ (k : Nat) (x : Int), ((k = 0 ∧ x = a) ∨ (k = 1 ∧ a = 0 ∧ x = u) ∨ (k = 2 ∧ a = 0 ∧ u = 0 ∧ x = b) ∨ (k = 3 ∧ a = 0 ∧ u = 0 ∧ b = 0 ∧ x = d)) → x ≠ 0 → decideG a u b d = x) := by
    intro k x h hx
    unfold decideG
    rcases h with ⟨_, rfl⟩ | ⟨_, rfl, rfl⟩ | ⟨_, rfl, rfl, rfl⟩ | ⟨_, rfl, rfl, rfl, rfl⟩ <;> simp [hx]
  go_enter Tryz.func6, Tryz.ntmps6
  go_wp2_with fail
  rw [← hw1, ← hw2]
  refine (HS.out _).mono ?_
  rintro e w3 ⟨rfl, hb3⟩
  have HB3 : Hid (Below w2.heap.size w2 w3) := hb3
  clear hb3 HS hw1 hw2
  go_wp2
  go_loopw [19] (fun i wr => ∃ k : Nat, k ≤ 4 ∧ i = .int .i64 k ∧ Hid ((0 < k → a = 0) ∧ (1 < k → u = 0) ∧ (2 < k → b = 0) ∧ (3 < k → d = 0)) ∧ Hid (Below w2.heap.size w2 wr)) (fun i _ => 4 - (intOf i).toNat)
  case atStart => exact ⟨0, by omega, rfl, (⟨fun h => by omega, fun h => by omega, fun h => by omega, fun h => by omega⟩ : _ ∧ _), HB3⟩
  case round =>
    obtain ⟨k, hk, rfl, hz, hbl⟩ := hrel
    rcases (show k = 0 ∨ k = 1 ∨ k = 2 ∨ k = 3 ∨ k = 4 by omega) with rfl | rfl | rfl | rfl | rfl
    · by_cases hx : a = 0
      · have HN : Hid ((0 < 1 → a = 0) ∧ (1 < 1 → u = 0) ∧ (2 < 1 → b = 0) ∧ (3 < 1 → d = 0)) := ⟨fun _ => hx, fun h => by omega, fun h => by omega, fun h => by omega⟩
        have hx2 : (a != 0) = false := by simp [hx]
        go_wp2_with fail
        rw [index4_0]
        simp only [Result.andThen]
        rw [Oper.upon_value]
        go_wp2_with fail
        refine (H0.out _ hbl.out).mono ?_
        rintro e w5 ⟨rfl, hb5⟩
        have HB5 : Hid (Below w2.heap.size w2 w5) := bel_trans hbl.out hb5
        clear hb5
        go_wp2
        go_roundw
        case rel => exact ⟨1, by omega, by go_num, HN, HB5⟩
        case measure => simp [intOf]
      · have HE : Hid (decideG a u b d = a) := GO.out 0 a (.inl ⟨rfl, rfl⟩) hx
        have hx2 : (a != 0) = true := by simp [hx]
        go_wp2_with fail
        rw [index4_0]
        simp only [Result.andThen]
        rw [Oper.upon_value]
        go_wp2_with fail
        refine (H0.out _ hbl.out).mono ?_
        rintro e w5 ⟨rfl, hb5⟩
        have HB5 : Hid (Below w2.heap.size w2 w5) := bel_trans hbl.out hb5
        clear hb5
        go_wp2
        go_ret
        exact ⟨ret_int HE.out.symm, HB.out.trans (HB5.out.mono HB.out.size)⟩
    · by_cases hx : u = 0
      · have HN : Hid ((0 < 2 → a = 0) ∧ (1 < 2 → u = 0) ∧ (2 < 2 → b = 0) ∧ (3 < 2 → d = 0)) := ⟨fun _ => hz.out.1 (by omega), fun _ => hx, fun h => by omega, fun h => by omega⟩
        have hx2 : (u != 0) = false := by simp [hx]
        go_wp2_with fail
        rw [index4_1]
        simp only [Result.andThen]
        rw [Oper.upon_value]
        go_wp2_with fail
        refine (H1.out _ hbl.out).mono ?_
        rintro e w5 ⟨rfl, hb5⟩
        have HB5 : Hid (Below w2.heap.size w2 w5) := bel_trans hbl.out hb5
        clear hb5
        go_wp2
        go_roundw
        case rel => exact ⟨2, by omega, by go_num, HN, HB5⟩
        case measure => simp [intOf]
      · have HE : Hid (decideG a u b d = u) := GO.out 1 u (.inr (.inl ⟨rfl, hz.out.1 (by omega), rfl⟩)) hx
        have hx2 : (u != 0) = true := by simp [hx]
        go_wp2_with fail
        rw [index4_1]
        simp only [Result.andThen]
        rw [Oper.upon_value]
        go_wp2_with fail
        refine (H1.out _ hbl.out).mono ?_
        rintro e w5 ⟨rfl, hb5⟩
        have HB5 : Hid (Below w2.heap.size w2 w5) := bel_trans hbl.out hb5
        clear hb5
        go_wp2
        go_ret
        exact ⟨ret_int HE.out.symm, HB.out.trans (HB5.out.mono HB.out.size)⟩
    · by_cases hx : b = 0
      · have HN : Hid ((0 < 3 → a = 0) ∧ (1 < 3 → u = 0) ∧ (2 < 3 → b = 0) ∧ (3 < 3 → d = 0)) := ⟨fun _ => hz.out.1 (by omega), fun _ => hz.out.2.1 (by omega), fun _ => hx, fun h => by omega⟩
        have hx2 : (b != 0) = false := by simp [hx]
        go_wp2_with fail
        rw [index4_2]
        simp only [Result.andThen]
        rw [Oper.upon_value]
        go_wp2_with fail
        refine (H2.out _ hbl.out).mono ?_
        rintro e w5 ⟨rfl, hb5⟩
        have HB5 : Hid (Below w2.heap.size w2 w5) := bel_trans hbl.out hb5
        clear hb5
        go_wp2
        go_roundw
        case rel => exact ⟨3, by omega, by go_num, HN, HB5⟩
        case measure => simp [intOf]
      · have HE : Hid (decideG a u b d = b) := GO.out 2 b (.inr (.inr (.inl ⟨rfl, hz.out.1 (by omega), hz.out.2.1 (by omega), rfl⟩))) hx
        have hx2 : (b != 0) = true := by simp [hx]
        go_wp2_with fail
        rw [index4_2]
        simp only [Result.andThen]
        rw [Oper.upon_value]
        go_wp2_with fail
        refine (H2.out _ hbl.out).mono ?_
        rintro e w5 ⟨rfl, hb5⟩
        have HB5 : Hid (Below w2.heap.size w2 w5) := bel_trans hbl.out hb5
        clear hb5
        go_wp2
        go_ret
        exact ⟨ret_int HE.out.symm, HB.out.trans (HB5.out.mono HB.out.size)⟩
    · by_cases hx : d = 0
      · have HN : Hid ((0 < 4 → a = 0) ∧ (1 < 4 → u = 0) ∧ (2 < 4 → b = 0) ∧ (3 < 4 → d = 0)) := ⟨fun _ => hz.out.1 (by omega), fun _ => hz.out.2.1 (by omega), fun _ => hz.out.2.2.1 (by omega), fun _ => hx⟩
        have hx2 : (d != 0) = false := by simp [hx]
        go_wp2_with fail
        rw [index4_3]
        simp only [Result.andThen]
        rw [Oper.upon_value]
        go_wp2_with fail
        refine (H3.out _ hbl.out).mono ?_
        rintro e w5 ⟨rfl, hb5⟩
        have HB5 : Hid (Below w2.heap.size w2 w5) := bel_trans hbl.out hb5
        clear hb5
        go_wp2
        go_roundw
        case rel => exact ⟨4, by omega, by go_num, HN, HB5⟩
        case measure => simp [intOf]
      · have HE : Hid (decideG a u b d = d) := GO.out 3 d (.inr (.inr (.inr ⟨rfl, hz.out.1 (by omega), hz.out.2.1 (by omega), hz.out.2.2.1 (by omega), rfl⟩))) hx
        have hx2 : (d != 0) = true := by simp [hx]
        go_wp2_with fail
        rw [index4_3]
        simp only [Result.andThen]
        rw [Oper.upon_value]
        go_wp2_with fail
        refine (H3.out _ hbl.out).mono ?_
        rintro e w5 ⟨rfl, hb5⟩
        have HB5 : Hid (Below w2.heap.size w2 w5) := bel_trans hbl.out hb5
        clear hb5
        go_wp2
        go_ret
        exact ⟨ret_int HE.out.symm, HB.out.trans (HB5.out.mono HB.out.size)⟩
    · have HE : Hid (decideG a u b d = 0) := by
        show _ = _
        unfold decideG
        rw [hz.out.1 (by omega), hz.out.2.1 (by omega), hz.out.2.2.1 (by omega), hz.out.2.2.2 (by omega)]
        simp
      go_wp2
      go_ret
      exact ⟨ret_int HE.out.symm, HB.out.trans (hbl.out.mono HB.out.size)⟩

theorem Decide_un (m : List UInt8) (fv : Value) (fs : List Fd.Fl) (s : St) (now : Int) (w : World) (hrd : Fd.RdF fv fs w) (hsum : Fd.sumF fs ≤ 1048576) (hml : Fd.ML w) (hno : s.td = false) :
    Calls Tryz.prog 6 #[.string (str m), fv, .agg #[.bool s.th, .bool s.own.1, .string (str s.own.2), .bool s.tg, .int .i64 s.tm, .bool s.td], .int .i64 now] w fun e w' => e = .returned (.int .i64 (decideG (matchV fs s) 0 (noneV m fs s) 0)) ∧ Below w.heap.size w w' :=
  Decide_gen m fv fs s now 0 0 w hrd hsum hml (fun g W _ h => unmodified_no h (.inr (.inr hno))) (fun g W _ h => modified_no h (.inr (.inr hno)))

theorem awake_parse : parseT [87, 47, 34, 97, 34] = ((true, [97]), 0, 0) := by decide +kernel
theorem awake_match : matchV [([105, 102, 45, 110, 111, 110, 101, 45, 109, 97, 116, 99, 104], [34, 98, 34, 44, 32, 87, 47, 34, 97, 34])] ⟨true, (true, [97]), true, 0, false⟩ = 0 := by decide +kernel
theorem awake_none : noneV [71, 69, 84] [([105, 102, 45, 110, 111, 110, 101, 45, 109, 97, 116, 99, 104], [34, 98, 34, 44, 32, 87, 47, 34, 97, 34])] ⟨true, (true, [97]), true, 0, false⟩ = 304 := by decide +kernel

set_option maxRecDepth 100000 in
set_option maxHeartbeats 1000000 in
theorem awake_any (w : World) (hw : Fd.ML w) :
    Calls Tryz.prog 5 #[] w fun e w' => e = .returned (.bool true) ∧ Below w.heap.size w w' := by
  have HP : Hid (Calls Tryz.prog 12 #[.string ⟨#[87, 47, 34, 97, 34]⟩] w fun e w' => e = .returned (.tuple #[.agg #[.bool true, .string ⟨#[97]⟩], .int .i64 0, .int .i64 0]) ∧ Below w.heap.size w w') := by
    have h := Parse_any ⟨#[87, 47, 34, 97, 34]⟩ (by decide) w
    rw [show (⟨#[87, 47, 34, 97, 34]⟩ : ByteArray).data.toList = [87, 47, 34, 97, 34] from rfl, awake_parse] at h
    exact h
  have HD : Hid (∀ w1 : World, Fd.ML w1 → Calls Tryz.prog 6 #[.string ⟨#[71, 69, 84]⟩, .slice (some ⟨w1.heap.size, 0, none⟩) 1 1, .agg #[.bool true, .bool true, .string ⟨#[97]⟩, .bool true, .int .i64 0, .bool false], .int .i64 0] (w1.alloc (.cells #[.string ⟨#[105, 102, 45, 110, 111, 110, 101, 45, 109, 97, 116, 99, 104]⟩, .string ⟨#[34, 98, 34, 44, 32, 87, 47, 34, 97, 34]⟩] 31)) fun e w' => e = .returned (.int .i64 304) ∧ Below (w1.alloc (.cells #[.string ⟨#[105, 102, 45, 110, 111, 110, 101, 45, 109, 97, 116, 99, 104]⟩, .string ⟨#[34, 98, 34, 44, 32, 87, 47, 34, 97, 34]⟩] 31)).heap.size (w1.alloc (.cells #[.string ⟨#[105, 102, 45, 110, 111, 110, 101, 45, 109, 97, 116, 99, 104]⟩, .string ⟨#[34, 98, 34, 44, 32, 87, 47, 34, 97, 34]⟩] 31)) w') := fun w1 hm => by
    have h := Decide_un [71, 69, 84] (.slice (some ⟨w1.heap.size, 0, none⟩) 1 1) [([105, 102, 45, 110, 111, 110, 101, 45, 109, 97, 116, 99, 104], [34, 98, 34, 44, 32, 87, 47, 34, 97, 34])] ⟨true, (true, [97]), true, 0, false⟩ 0 _ (Fd.rd_oneF w1 31 ([105, 102, 45, 110, 111, 110, 101, 45, 109, 97, 116, 99, 104], [34, 98, 34, 44, 32, 87, 47, 34, 97, 34])) (by decide) (hm.below ((Below.refl _ w1).alloc (Nat.le_refl _) _)) rfl
    rw [awake_match, awake_none] at h
    exact h
  have HW : Hid (Fd.ML w) := hw
  clear hw
  go_enter Tryz.func5, Tryz.ntmps5
  go_wp2_with fail
  refine HP.out.mono ?_
  rintro e w1 ⟨rfl, hb1⟩
  obtain ⟨W, hW⟩ : ∃ W, W = w1.alloc (.cells #[.bool true, .string ⟨#[97]⟩] 26) := ⟨_, rfl⟩
  have hz : W.heap.size = w1.heap.size + 1 := by rw [hW]; simp
  have HBW : Hid (Below w.heap.size w W) := (by rw [hW]; exact hb1.alloc hb1.size _ : Below _ _ _)
  have HMW : Hid (Fd.ML W) := HW.out.below HBW.out
  clear hb1
  go_wp2_with fail
  rw [← hW, ← hz]
  refine (HD.out W HMW.out).mono ?_
  rintro e w2 ⟨rfl, hb2⟩
  have HB2 : Hid (Below w.heap.size w w2) := (HBW.out.alloc HBW.out.size _).trans (hb2.mono (by have := HBW.out.size; simp; omega))
  clear hb2
  go_wp2
  go_ret
  exact ⟨rfl, HB2.out⟩

end Tt
end Go.Proofs.YtjngpafokkjkdaaGreatDoor
