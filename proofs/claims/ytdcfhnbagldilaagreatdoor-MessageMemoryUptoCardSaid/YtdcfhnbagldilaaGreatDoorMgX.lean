import Derived.Test.YtdcfhnbagldilaaGreatDoorMgW
import Derived.Test.YtdcfhnbagldilaaGreatDoorMgS
import Derived.Test.YtdcfhnbagldilaaGreatDoorMgV
import Derived.Test.YtdcfhnbagldilaaGreatDoorMgB
set_option linter.unusedVariables false
set_option linter.unusedSimpArgs false
set_option maxRecDepth 100000
namespace Go.Proofs.YtdcfhnbagldilaaGreatDoor
open Go.RowKit Go.Shelf
namespace Ck
open Oc Tg _root_.Go.Proofs.YtdcfhnbagldilaaGreatDoor.Fd
def SB (x W : World) : Prop := Below x.heap.size x W
theorem SB.refl (x : World) : SB x x := Below.refl _ _
theorem SB.drew {x W : World} (h : SB x W) : SB x W.drew := Below.drew h
theorem SB.alloc {x W : World} (h : SB x W) (o : Obj) : SB x (W.alloc o) := Below.alloc h h.size _
theorem SB.on {x W W' : World} (h : SB x W) (b : Below W.heap.size W W') : SB x W' := bel_trans h b
theorem OwnI.zero {B : Nat} {v : Value} {l : List Int} {w : World} (h : OwnI B v l w) : OwnI 0 v l w := by
  refine ⟨h.1, ?_⟩
  rcases h.2 with h | ⟨g, cap, cur, e, _, rest⟩
  · exact .inl h
  · exact .inr ⟨g, cap, cur, e, Nat.zero_le _, rest⟩
end Ck
end Go.Proofs.YtdcfhnbagldilaaGreatDoor
set_option linter.unusedVariables false
set_option linter.unusedSimpArgs false
set_option maxRecDepth 100000
namespace Go.Proofs.YtdcfhnbagldilaaGreatDoor
open Go.RowKit Go.Shelf
namespace Ms
open Oc Tg _root_.Go.Proofs.YtdcfhnbagldilaaGreatDoor.Fd _root_.Go.Proofs.YtdcfhnbagldilaaGreatDoor.Ck
def prnR (r : Rs) (m : Mn) : List UInt8 × Int :=
  if m.ch = false then prnN r m
  else if (headR r m).2 ≠ 0 then ([], (headR r m).2) else if 65536 < (headR r m).1.length then ([], 125)
  else if (encR r.bd m.sz m.tr).2 ≠ 0 then ([], (encR r.bd m.sz m.tr).2) else if bdl m.me r.st = true then ((headR r m).1, 0) else ((headR r m).1 ++ (encR r.bd m.sz m.tr).1, 0)
end Ms
end Go.Proofs.YtdcfhnbagldilaaGreatDoor
set_option linter.unusedVariables false
set_option linter.unusedSimpArgs false
set_option maxRecDepth 100000
namespace Go.Proofs.YtdcfhnbagldilaaGreatDoor
open Go.RowKit Go.Shelf
namespace Ms
open Oc Tg _root_.Go.Proofs.YtdcfhnbagldilaaGreatDoor.Fd _root_.Go.Proofs.YtdcfhnbagldilaaGreatDoor.Ck
def lnB (s : ByteArray) (a i : Nat) : Bool := decide (a < i) && decide (byt s (i - 1) = 13)
def lnF (s : ByteArray) (a : Nat) : Nat → Nat → Int × Int × Bool
  | 0, i => ((s.size : Int), 124, false)
  | f + 1, i => if i = 65536 then ((i : Int), 125, false) else if lnB s a i ≠ decide (byt s i = 10) then ((i : Int), 122, false) else if lnB s a i = true then ((i : Int) + 1, 0, true) else lnF s a f (i + 1)
def lineR (s : ByteArray) (a : Nat) : Int × Int × Bool := lnF s a (s.size - a) a
theorem lnF_on (s : ByteArray) (a i : Nat) (h : i < s.size) : lnF s a (s.size - i) i = if i = 65536 then ((i : Int), 125, false) else if lnB s a i ≠ decide (byt s i = 10) then ((i : Int), 122, false) else if lnB s a i = true then ((i : Int) + 1, 0, true) else lnF s a (s.size - (i + 1)) (i + 1) := by
  obtain ⟨f, hf⟩ : ∃ f, s.size - i = f + 1 := ⟨s.size - i - 1, by omega⟩
  have : s.size - (i + 1) = f := by omega
  rw [hf, this]
  rfl
set_option maxHeartbeats 2000000 in
theorem rline_any (s : ByteArray) (hs : s.size ≤ 4000000000) (a : Nat) (ha : a ≤ s.size) (w : World) :
    Calls Tryz.prog 14 #[.string s, .int .i64 (a : Int)] w fun e w' => e = .returned (.tuple #[.int .i64 (lineR s a).1, .int .i64 (lineR s a).2.1, .bool (lineR s a).2.2]) ∧ w' = w := by
  go_enter Tryz.func14, Tryz.ntmps14
  go_wp2
  go_loop [7] (fun v => ∃ i : Nat, a ≤ i ∧ i ≤ s.size ∧ v = .int .i64 (i : Int) ∧ Hid (lineR s a = lnF s a (s.size - i) i)) (fun v => s.size - (intOf v).toNat)
  case atStart => exact ⟨a, Nat.le_refl _, ha, rfl, rfl⟩
  case round =>
    obtain ⟨i, hai, hi, rfl, hst⟩ := hrel
    by_cases hlt : i < s.size
    · have HE := hst.out
      rw [lnF_on s a i hlt] at HE
      by_cases h6 : i = 65536
      · rw [if_pos h6] at HE
        have HQ : Hid (lineR s a = _) := HE
        have h6' : (i : Int) = 65536 := by omega
        clear HE
        go_wp2
        refine bodyPost_ret (v := .tuple #[.int .i64 (65536), .int .i64 (125), .bool false]) (by simp [results, Tryz.results14, go_sem]) rfl ?_
        rw [HQ.out]
        exact ⟨by rw [h6'], rfl⟩
      rw [if_neg h6] at HE
      have h6' : ¬ (i : Int) = 65536 := by omega
      have hby : ((s[i].toNat : Nat) : Int) = byt s i := byt_at s i hlt
      have hnx : (lnB s a i ≠ decide (byt s i = 10) → Hid (lineR s a = ((i : Int), 122, false))) ∧ (lnB s a i = decide (byt s i = 10) → lnB s a i = true → Hid (lineR s a = ((i : Int) + 1, 0, true))) ∧ (lnB s a i = decide (byt s i = 10) → lnB s a i = false → Hid (lineR s a = lnF s a (s.size - (i + 1)) (i + 1))) :=
        ⟨fun h => by rw [if_pos h] at HE; exact HE, fun h k => by rw [if_neg (by simp [h]), if_pos k] at HE; exact HE, fun h k => by rw [if_neg (by simp [h]), if_neg (by simp [k])] at HE; exact HE⟩
      have HN : Hid (_) := hnx
      clear HE hnx
      obtain ⟨u, hu⟩ : ∃ u, byt s i = u := ⟨_, rfl⟩
      rw [hu] at hby HN
      by_cases hlt2 : a < i
      · obtain ⟨j, rfl⟩ : ∃ j, i = j + 1 := ⟨i - 1, by omega⟩
        have hby2 : ((s[j].toNat : Nat) : Int) = byt s j := byt_at s j (by omega)
        have eb : lnB s a (j + 1) = decide (byt s j = 13) := by
          unfold lnB
          rw [decide_eq_true hlt2, Bool.true_and]
          rfl
        rw [eb] at HN
        have hlti : (a : Int) < (j : Int) + 1 := by omega
        have hjs : j < s.size := by omega
        by_cases p13 : byt s j = 13
        · have q13 : (byt s j == 13) = true := by simp [p13]
          by_cases p10 : u = 10
          · have q10 : (u == 10) = true := by simp [p10]
            have HQ := HN.out.2.1 (by simp [p13, p10]) (by simp [p13])
            clear HN p13 p10
            go_wp2
            refine bodyPost_ret (v := .tuple #[.int .i64 ((j : Int) + 1 + 1), .int .i64 (0), .bool true]) (by simp [results, Tryz.results14, go_sem]) rfl ?_
            rw [HQ.out]
            exact ⟨by simp, rfl⟩
          · have q10 : (u == 10) = false := by simp [p10]
            have HQ := HN.out.1 (by simp [p13, p10])
            clear HN p13 p10
            go_wp2
            refine bodyPost_ret (v := .tuple #[.int .i64 ((j : Int) + 1), .int .i64 (122), .bool false]) (by simp [results, Tryz.results14, go_sem]) rfl ?_
            rw [HQ.out]
            exact ⟨by simp, rfl⟩
        · have q13 : (byt s j == 13) = false := by simp [p13]
          by_cases p10 : u = 10
          · have q10 : (u == 10) = true := by simp [p10]
            have HQ := HN.out.1 (by simp [p13, p10])
            clear HN p13 p10
            go_wp2
            refine bodyPost_ret (v := .tuple #[.int .i64 ((j : Int) + 1), .int .i64 (122), .bool false]) (by simp [results, Tryz.results14, go_sem]) rfl ?_
            rw [HQ.out]
            exact ⟨by simp, rfl⟩
          · have q10 : (u == 10) = false := by simp [p10]
            have HQ := HN.out.2.2 (by simp [p13, p10]) (by simp [p13])
            clear HN p13 p10
            go_wp2
            go_round
            case rel => exact ⟨j + 1 + 1, by omega, by omega, by go_num, HQ⟩
            case measure => simp [intOf]; omega
      · obtain rfl : i = a := by omega
        have eb : lnB s i i = false := by
          unfold lnB
          rw [decide_eq_false (Nat.lt_irrefl i), Bool.false_and]
        rw [eb] at HN
        by_cases p10 : u = 10
        · have q10 : (u == 10) = true := by simp [p10]
          have HQ := HN.out.1 (by simp [p10])
          clear HN p10
          go_wp2
          refine bodyPost_ret (v := .tuple #[.int .i64 ((i : Int)), .int .i64 (122), .bool false]) (by simp [results, Tryz.results14, go_sem]) rfl ?_
          rw [HQ.out]
          exact ⟨by simp, rfl⟩
        · have q10 : (u == 10) = false := by simp [p10]
          have HQ := HN.out.2.2 (by simp [p10]) rfl
          clear HN p10
          go_wp2
          go_round
          case rel => exact ⟨i + 1, by omega, by omega, by go_num, HQ⟩
          case measure => simp [intOf]; omega
    · obtain rfl : i = s.size := by omega
      have HQ : Hid (lineR s a = ((s.size : Int), 124, false)) := (by
        have h := hst.out
        rw [Nat.sub_self] at h
        exact h : lineR s a = _)
      go_wp2
      refine bodyPost_ret (v := .tuple #[.int .i64 ((s.size : Int)), .int .i64 (124), .bool false]) (by simp [results, Tryz.results14, go_sem]) rfl ?_
      rw [HQ.out]
      exact ⟨by simp, rfl⟩
end Ms
end Go.Proofs.YtdcfhnbagldilaaGreatDoor
set_option linter.unusedVariables false
set_option linter.unusedSimpArgs false
set_option maxRecDepth 100000
namespace Go.Proofs.YtdcfhnbagldilaaGreatDoor
open Go.RowKit Go.Shelf
namespace Ms
open Oc Tg _root_.Go.Proofs.YtdcfhnbagldilaaGreatDoor.Fd _root_.Go.Proofs.YtdcfhnbagldilaaGreatDoor.Ck
set_option maxHeartbeats 2000000 in
theorem statusByte_any (a : Nat) (ha : a < 13) (x : Int) (w : World) :
    Calls Tryz.prog 27 #[.int .i64 (a : Int), .int .u8 x] w fun e w' => e = .returned (.bool (gonI a x)) ∧ w' = w := by
  have hc : a = 0 ∨ a = 1 ∨ a = 2 ∨ a = 3 ∨ a = 4 ∨ a = 5 ∨ a = 6 ∨ a = 7 ∨ a = 8 ∨ a = 9 ∨ a = 10 ∨ a = 11 ∨ a = 12 := by omega
  rcases hc with rfl | rfl | rfl | rfl | rfl | rfl | rfl | rfl | rfl | rfl | rfl | rfl | rfl
  · have HQ : Hid (gonI 0 x = (x == 72)) := (rfl : gonI 0 x = _)
    go_enter Tryz.func27, Tryz.ntmps27
    go_wp2
    refine bodyPost_ret (v := .bool (x == 72)) (by simp [results, Tryz.results27, go_sem] <;> rfl) rfl ?_
    exact ⟨by rw [HQ.out], rfl⟩
  · have HQ : Hid (gonI 1 x = (x == 84)) := (rfl : gonI 1 x = _)
    go_enter Tryz.func27, Tryz.ntmps27
    go_wp2
    refine bodyPost_ret (v := .bool (x == 84)) (by simp [results, Tryz.results27, go_sem] <;> rfl) rfl ?_
    exact ⟨by rw [HQ.out], rfl⟩
  · have HQ : Hid (gonI 2 x = (x == 84)) := (rfl : gonI 2 x = _)
    go_enter Tryz.func27, Tryz.ntmps27
    go_wp2
    refine bodyPost_ret (v := .bool (x == 84)) (by simp [results, Tryz.results27, go_sem] <;> rfl) rfl ?_
    exact ⟨by rw [HQ.out], rfl⟩
  · have HQ : Hid (gonI 3 x = (x == 80)) := (rfl : gonI 3 x = _)
    go_enter Tryz.func27, Tryz.ntmps27
    go_wp2
    refine bodyPost_ret (v := .bool (x == 80)) (by simp [results, Tryz.results27, go_sem] <;> rfl) rfl ?_
    exact ⟨by rw [HQ.out], rfl⟩
  · have HQ : Hid (gonI 4 x = (x == 47)) := (rfl : gonI 4 x = _)
    go_enter Tryz.func27, Tryz.ntmps27
    go_wp2
    refine bodyPost_ret (v := .bool (x == 47)) (by simp [results, Tryz.results27, go_sem] <;> rfl) rfl ?_
    exact ⟨by rw [HQ.out], rfl⟩
  · have HQ : Hid (gonI 5 x = (x == 49)) := (rfl : gonI 5 x = _)
    go_enter Tryz.func27, Tryz.ntmps27
    go_wp2
    refine bodyPost_ret (v := .bool (x == 49)) (by simp [results, Tryz.results27, go_sem] <;> rfl) rfl ?_
    exact ⟨by rw [HQ.out], rfl⟩
  · have HQ : Hid (gonI 6 x = (x == 46)) := (rfl : gonI 6 x = _)
    go_enter Tryz.func27, Tryz.ntmps27
    go_wp2
    refine bodyPost_ret (v := .bool (x == 46)) (by simp [results, Tryz.results27, go_sem] <;> rfl) rfl ?_
    exact ⟨by rw [HQ.out], rfl⟩
  · have HQ : Hid (gonI 7 x = (x == 48 || x == 49)) := (rfl : gonI 7 x = _)
    by_cases h : x = 48
    · have q : (x == 48) = true := by simp [h]
      have HQ2 : Hid (gonI 7 x = true) := (by rw [HQ.out, q]; rfl : gonI 7 x = true)
      clear h
      go_enter Tryz.func27, Tryz.ntmps27
      go_wp2
      refine bodyPost_ret (v := .bool (true)) (by simp [results, Tryz.results27, go_sem]) rfl ?_
      exact ⟨by rw [HQ2.out], rfl⟩
    · have q : (x == 48) = false := by simp [h]
      have HQ2 : Hid (gonI 7 x = (x == 49)) := (by rw [HQ.out, q]; rfl : gonI 7 x = _)
      clear h
      go_enter Tryz.func27, Tryz.ntmps27
      go_wp2
      refine bodyPost_ret (v := .bool (x == 49)) (by simp [results, Tryz.results27, go_sem] <;> rfl) rfl ?_
      exact ⟨by rw [HQ2.out], rfl⟩
  · have HQ : Hid (gonI 8 x = (x == 32)) := (rfl : gonI 8 x = _)
    go_enter Tryz.func27, Tryz.ntmps27
    go_wp2
    refine bodyPost_ret (v := .bool (x == 32)) (by simp [results, Tryz.results27, go_sem]) rfl ?_
    exact ⟨by rw [HQ.out], rfl⟩
  · have HQ : Hid (gonI 9 x = (decide (49 ≤ x) && decide (x ≤ 53))) := (rfl : gonI 9 x = _)
    by_cases h : 49 ≤ x
    · have HQ2 : Hid (gonI 9 x = decide (x ≤ 53)) := (by rw [HQ.out, decide_eq_true h]; rfl : gonI 9 x = _)
      go_enter Tryz.func27, Tryz.ntmps27
      go_wp2
      refine bodyPost_ret (v := .bool (decide (x ≤ 53))) (by simp [results, Tryz.results27, go_sem]) rfl ?_
      exact ⟨by rw [HQ2.out], rfl⟩
    · have HQ2 : Hid (gonI 9 x = false) := (by rw [HQ.out, decide_eq_false h]; rfl : gonI 9 x = _)
      go_enter Tryz.func27, Tryz.ntmps27
      go_wp2
      refine bodyPost_ret (v := .bool (false)) (by simp [results, Tryz.results27, go_sem]) rfl ?_
      exact ⟨by rw [HQ2.out], rfl⟩
  · have HQ : Hid (gonI 10 x = (decide (48 ≤ x) && decide (x ≤ 57))) := (rfl : gonI 10 x = _)
    by_cases h : 48 ≤ x
    · have HQ2 : Hid (gonI 10 x = decide (x ≤ 57)) := (by rw [HQ.out, decide_eq_true h]; rfl : gonI 10 x = _)
      go_enter Tryz.func27, Tryz.ntmps27
      go_wp2
      refine bodyPost_ret (v := .bool (decide (x ≤ 57))) (by simp [results, Tryz.results27, go_sem]) rfl ?_
      exact ⟨by rw [HQ2.out], rfl⟩
    · have HQ2 : Hid (gonI 10 x = false) := (by rw [HQ.out, decide_eq_false h]; rfl : gonI 10 x = _)
      go_enter Tryz.func27, Tryz.ntmps27
      go_wp2
      refine bodyPost_ret (v := .bool (false)) (by simp [results, Tryz.results27, go_sem]) rfl ?_
      exact ⟨by rw [HQ2.out], rfl⟩
  · have HQ : Hid (gonI 11 x = (decide (48 ≤ x) && decide (x ≤ 57))) := (rfl : gonI 11 x = _)
    by_cases h : 48 ≤ x
    · have HQ2 : Hid (gonI 11 x = decide (x ≤ 57)) := (by rw [HQ.out, decide_eq_true h]; rfl : gonI 11 x = _)
      go_enter Tryz.func27, Tryz.ntmps27
      go_wp2
      refine bodyPost_ret (v := .bool (decide (x ≤ 57))) (by simp [results, Tryz.results27, go_sem]) rfl ?_
      exact ⟨by rw [HQ2.out], rfl⟩
    · have HQ2 : Hid (gonI 11 x = false) := (by rw [HQ.out, decide_eq_false h]; rfl : gonI 11 x = _)
      go_enter Tryz.func27, Tryz.ntmps27
      go_wp2
      refine bodyPost_ret (v := .bool (false)) (by simp [results, Tryz.results27, go_sem]) rfl ?_
      exact ⟨by rw [HQ2.out], rfl⟩
  · have HQ : Hid (gonI 12 x = (x == 32)) := (rfl : gonI 12 x = _)
    go_enter Tryz.func27, Tryz.ntmps27
    go_wp2
    refine bodyPost_ret (v := .bool (x == 32)) (by simp [results, Tryz.results27, go_sem]) rfl ?_
    exact ⟨by rw [HQ.out], rfl⟩
end Ms
end Go.Proofs.YtdcfhnbagldilaaGreatDoor
set_option linter.unusedVariables false
set_option linter.unusedSimpArgs false
set_option maxRecDepth 100000
namespace Go.Proofs.YtdcfhnbagldilaaGreatDoor
open Go.RowKit Go.Shelf
namespace Ms
open Oc Tg _root_.Go.Proofs.YtdcfhnbagldilaaGreatDoor.Fd _root_.Go.Proofs.YtdcfhnbagldilaaGreatDoor.Ck
def stB (s : ByteArray) : Nat → Nat → Int × Int × Bool
  | 0, i => ((s.size : Int), 124, false)
  | f + 1, i => if byt s i = 13 then (if i + 1 = s.size then ((i : Int) + 1, 124, false) else if byt s (i + 1) = 10 then ((i : Int) + 2, 0, true) else ((i : Int) + 1, 122, false)) else if i = 269 ∨ fieldI (byt s i) = false then ((i : Int), 122, false) else stB s f (i + 1)
def stA (s : ByteArray) : Nat → Nat → Int × Int × Bool
  | 0, i => stB s (s.size - 13) 13
  | f + 1, i => if i = s.size then ((i : Int), 124, false) else if gonI i (byt s i) = false then ((i : Int), 122, false) else stA s f (i + 1)
def statusR (s : ByteArray) : Int × Int × Bool := stA s 13 0
theorem stB_on (s : ByteArray) (i : Nat) (h : i < s.size) : stB s (s.size - i) i = if byt s i = 13 then (if i + 1 = s.size then ((i : Int) + 1, 124, false) else if byt s (i + 1) = 10 then ((i : Int) + 2, 0, true) else ((i : Int) + 1, 122, false)) else if i = 269 ∨ fieldI (byt s i) = false then ((i : Int), 122, false) else stB s (s.size - (i + 1)) (i + 1) := by
  obtain ⟨f, hf⟩ : ∃ f, s.size - i = f + 1 := ⟨s.size - i - 1, by omega⟩
  have : s.size - (i + 1) = f := by omega
  rw [hf, this]
  rfl
theorem stA_on (s : ByteArray) (i : Nat) (h : i < 13) : stA s (13 - i) i = if i = s.size then ((i : Int), 124, false) else if gonI i (byt s i) = false then ((i : Int), 122, false) else stA s (13 - (i + 1)) (i + 1) := by
  obtain ⟨f, hf⟩ : ∃ f, 13 - i = f + 1 := ⟨13 - i - 1, by omega⟩
  have : 13 - (i + 1) = f := by omega
  rw [hf, this]
  rfl
set_option maxHeartbeats 2000000 in
theorem rstatus_any (s : ByteArray) (hs : s.size ≤ 4000000000) (w : World) :
    Calls Tryz.prog 13 #[.string s] w fun e w' => e = .returned (.tuple #[.int .i64 (statusR s).1, .int .i64 (statusR s).2.1, .bool (statusR s).2.2]) ∧ w' = w := by
  have HSb : Hid (∀ (a : Nat), a < 13 → ∀ (x : Int) (w : World), Calls Tryz.prog 27 #[.int .i64 (a : Int), .int .u8 x] w fun e w' => e = .returned (.bool (gonI a x)) ∧ w' = w) := statusByte_any
  have HIn : Hid (∀ (c : Int), 0 ≤ c → c ≤ 255 → ∀ w : World, Calls Tryz.prog 28 #[.int .u8 c] w fun e w' => e = .returned (.bool (fieldI c)) ∧ w' = w) := rInside_any
  go_enter Tryz.func13, Tryz.ntmps13
  go_wp2
  go_loop [5] (fun v => ∃ i : Nat, i ≤ 13 ∧ i ≤ s.size ∧ v = .int .i64 (i : Int) ∧ Hid (statusR s = stA s (13 - i) i)) (fun v => 13 - (intOf v).toNat)
  case atStart => exact ⟨0, by omega, Nat.zero_le _, rfl, rfl⟩
  case round =>
    obtain ⟨i, hi, his, rfl, hst⟩ := hrel
    by_cases hlt : i < 13
    · have HE := hst.out
      rw [stA_on s i hlt] at HE
      have hlt' : (i : Int) < 13 := by omega
      by_cases hz : i = s.size
      · rw [if_pos hz] at HE
        have HQ : Hid (statusR s = _) := HE
        have hz' : (i : Int) = (s.size : Int) := by omega
        clear HE
        go_wp2
        refine bodyPost_ret (v := .tuple #[.int .i64 (s.size : Int), .int .i64 (124), .bool false]) (by simp [results, Tryz.results13, go_sem]) rfl ?_
        rw [HQ.out]
        exact ⟨by simp [hz'], rfl⟩
      · rw [if_neg hz] at HE
        have hz' : ¬ (i : Int) = (s.size : Int) := by omega
        have hlt2 : i < s.size := by omega
        have hby : ((s[i].toNat : Nat) : Int) = byt s i := byt_at s i hlt2
        have HX : Hid (gonI i (byt s i) = false → Hid (statusR s = ((i : Int), 122, false))) := fun h => by rw [if_pos h] at HE; exact HE
        have HY : Hid (gonI i (byt s i) = true → Hid (statusR s = stA s (13 - (i + 1)) (i + 1))) := fun h => by rw [if_neg (by simp [h])] at HE; exact HE
        have HC : Hid (Calls _ _ _ _ _) := HSb.out i hlt (byt s i) w
        clear HE
        go_wp2_with fail
        refine HC.out.mono ?_
        rintro e w1 ⟨rfl, hw1⟩
        rw [hw1]
        cases hg : gonI i (byt s i) with
        | false =>
          have HQ := HX.out hg
          clear HX HY HC hg
          go_wp2
          refine bodyPost_ret (v := .tuple #[.int .i64 (i : Int), .int .i64 (122), .bool false]) (by simp [results, Tryz.results13, go_sem]) rfl ?_
          rw [HQ.out]
          exact ⟨by simp, rfl⟩
        | true =>
          have HQ := HY.out hg
          clear HX HY HC hg
          go_wp2
          go_round
          case rel => exact ⟨i + 1, by omega, by omega, by go_num, HQ⟩
          case measure => simp [intOf]; omega
    · obtain rfl : i = 13 := by omega
      have HS : Hid (statusR s = stB s (s.size - 13) 13) := hst.out
      clear hst HSb
      go_wp2
      go_loop [6] (fun v => ∃ i : Nat, 13 ≤ i ∧ i ≤ s.size ∧ v = .int .i64 (i : Int) ∧ Hid (statusR s = stB s (s.size - i) i)) (fun v => s.size - (intOf v).toNat)
      case atStart => exact ⟨13, Nat.le_refl _, his, rfl, HS.out⟩
      case round =>
        obtain ⟨i, h13, hi, rfl, hst⟩ := hrel
        by_cases hlt : i < s.size
        · have HE := hst.out
          rw [stB_on s i hlt] at HE
          have hby : ((s[i].toNat : Nat) : Int) = byt s i := byt_at s i hlt
          by_cases hr : byt s i = 13
          · rw [if_pos hr] at HE
            by_cases hz : i + 1 = s.size
            · rw [if_pos hz] at HE
              have HQ : Hid (statusR s = _) := HE
              have hz' : (i : Int) + 1 = (s.size : Int) := by omega
              clear HE
              go_wp2
              refine bodyPost_ret (v := .tuple #[.int .i64 (s.size : Int), .int .i64 (124), .bool false]) (by simp [results, Tryz.results13, go_sem]) rfl ?_
              rw [HQ.out]
              exact ⟨by simp [hz'], rfl⟩
            · rw [if_neg hz] at HE
              have hz' : ¬ (i : Int) + 1 = (s.size : Int) := by omega
              have hlt2 : i + 1 < s.size := by omega
              have hby2 : ((s[i + 1].toNat : Nat) : Int) = byt s (i + 1) := byt_at s (i + 1) hlt2
              by_cases h10 : byt s (i + 1) = 10
              · rw [if_pos h10] at HE
                have HQ : Hid (statusR s = _) := HE
                clear HE
                go_wp2
                refine bodyPost_ret (v := .tuple #[.int .i64 ((i : Int) + 2), .int .i64 (0), .bool true]) (by simp [results, Tryz.results13, go_sem]) rfl ?_
                rw [HQ.out]
                exact ⟨by simp, rfl⟩
              · rw [if_neg h10] at HE
                have HQ : Hid (statusR s = _) := HE
                have q10 : (byt s (i + 1) != 10) = true := by simp [h10]
                clear HE
                go_wp2
                refine bodyPost_ret (v := .tuple #[.int .i64 ((i : Int) + 1), .int .i64 (122), .bool false]) (by simp [results, Tryz.results13, go_sem]) rfl ?_
                rw [HQ.out]
                exact ⟨by simp, rfl⟩
          · rw [if_neg hr] at HE
            have qr : (byt s i == 13) = false := by simp [hr]
            have hbd := byt_bd s i
            by_cases h69 : i = 269
            · rw [if_pos (.inl h69)] at HE
              have HQ : Hid (statusR s = _) := HE
              subst h69
              clear HE
              go_wp2
              refine bodyPost_ret (v := .tuple #[.int .i64 269, .int .i64 (122), .bool false]) (by simp [results, Tryz.results13, go_sem]) rfl ?_
              rw [HQ.out]
              exact ⟨by simp, rfl⟩
            · have h69' : ¬ (i : Int) - 13 = 256 := by omega
              have HC : Hid (Calls _ _ _ _ _) := HIn.out (byt s i) (by omega) (by omega) w
              have HX : Hid (fieldI (byt s i) = false → Hid (statusR s = ((i : Int), 122, false))) := fun h => by rw [if_pos (.inr h)] at HE; exact HE
              have HY : Hid (fieldI (byt s i) = true → Hid (statusR s = stB s (s.size - (i + 1)) (i + 1))) := fun h => by rw [if_neg (by simp [h, h69])] at HE; exact HE
              clear HE
              go_wp2_with fail
              refine HC.out.mono ?_
              rintro e w1 ⟨rfl, hw1⟩
              rw [hw1]
              cases hg : fieldI (byt s i) with
              | false =>
                have HQ := HX.out hg
                clear HX HY HC hg
                go_wp2
                refine bodyPost_ret (v := .tuple #[.int .i64 (i : Int), .int .i64 (122), .bool false]) (by simp [results, Tryz.results13, go_sem]) rfl ?_
                rw [HQ.out]
                exact ⟨by simp, rfl⟩
              | true =>
                have HQ := HY.out hg
                clear HX HY HC hg
                go_wp2
                go_round
                case rel => exact ⟨i + 1, by omega, by omega, by go_num, HQ⟩
                case measure => simp [intOf]; omega
        · obtain rfl : i = s.size := by omega
          have HQ : Hid (statusR s = ((s.size : Int), 124, false)) := (by
            have h := hst.out
            rw [Nat.sub_self] at h
            exact h : statusR s = _)
          go_wp2
          refine bodyPost_ret (v := .tuple #[.int .i64 ((s.size : Int)), .int .i64 (124), .bool false]) (by simp [results, Tryz.results13, go_sem]) rfl ?_
          rw [HQ.out]
          exact ⟨by simp, rfl⟩
end Ms
end Go.Proofs.YtdcfhnbagldilaaGreatDoor
