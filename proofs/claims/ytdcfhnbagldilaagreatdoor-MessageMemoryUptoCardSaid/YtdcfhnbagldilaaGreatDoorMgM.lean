import Derived.Test.YtdcfhnbagldilaaGreatDoorMgL
import Derived.Deep.QuietTactic
set_option linter.unusedVariables false
set_option linter.unusedSimpArgs false
namespace Go.Proofs.YtdcfhnbagldilaaGreatDoor
open Go.RowKit Go.Shelf
namespace Fd
open Oc Tg
def nCo : List UInt8 := [67, 111, 110, 110, 101, 99, 116, 105, 111, 110]
def wCl : List UInt8 := [99, 108, 111, 115, 101]
def wKA : List UInt8 := [107, 101, 101, 112, 45, 97, 108, 105, 118, 101]
def persistF (t : List Fl) (old : Bool) : Bool := if (tokensF nCo t).2 = 0 then (if inL (tokensF nCo t).1 wCl then false else if old then inL (tokensF nCo t).1 wKA else true) else false
set_option maxRecDepth 100000 in
set_option maxHeartbeats 1000000 in
theorem Persist_any (v : Value) (t : List Fl) (old : Bool) (hS : sumF t ≤ 1048576) (w : World) (hrd : RdF v t w) (tab : Tab w) :
    Calls Tryz.prog 120 #[v, .bool old] w fun e w' => e = .returned (.bool (persistF t old)) ∧ Below w.heap.size w w' := by
  have HT : Hid (Calls Tryz.prog 137 #[v, .string ⟨#[67, 111, 110, 110, 101, 99, 116, 105, 111, 110]⟩] w fun e w' => ∃ x, e = .returned (.tuple #[x, .int .i64 (tokensF nCo t).2]) ∧ OwnS w.heap.size x (tokensF nCo t).1 w' ∧ Below w.heap.size w w') := Tokens6_any v t nCo (by decide) hS w hrd tab
  have hl := tokens_len hS nCo
  have H1 : Hid (∀ u w, RdS u (tokensF nCo t).1 w → Calls Tryz.prog 138 #[u, .string ⟨#[99, 108, 111, 115, 101]⟩] w fun e w' => e = .returned (.bool (inL (tokensF nCo t).1 wCl)) ∧ w' = w) := fun u w h => Contains_any u _ wCl hl w h
  have H2 : Hid (∀ u w, RdS u (tokensF nCo t).1 w → Calls Tryz.prog 138 #[u, .string ⟨#[107, 101, 101, 112, 45, 97, 108, 105, 118, 101]⟩] w fun e w' => e = .returned (.bool (inL (tokensF nCo t).1 wKA)) ∧ w' = w) := fun u w h => Contains_any u _ wKA hl w h
  unfold persistF
  obtain ⟨a, c, rfl, _⟩ := hrd
  clear hl
  generalize (tokensF nCo t).1 = L at *
  generalize (tokensF nCo t).2 = z at *
  generalize inL L wCl = b1 at *
  generalize inL L wKA = b2 at *
  by_cases hz : z = 0
  · subst hz
    rw [if_pos rfl]
    cases b1 with
    | true =>
      rw [if_pos rfl]
      go_enter Tryz.func120, Tryz.ntmps120
      go_wp2_with fail
      refine HT.out.mono ?_
      rintro e w1 ⟨u, rfl, ho, hb⟩
      have HB1 : Hid (Below w.heap.size w w1) := hb
      have HU : Hid (RdS u L w1) := ho.rd
      clear hb ho
      go_wp2_with fail
      refine (H1.out _ _ HU.out).mono ?_
      rintro e w2 ⟨rfl, rfl⟩
      go_wp2
      go_ret
      exact ⟨rfl, HB1.out⟩
    | false =>
      rw [if_neg (by simp)]
      cases old with
      | true =>
        rw [if_pos rfl]
        go_enter Tryz.func120, Tryz.ntmps120
        go_wp2_with fail
        refine HT.out.mono ?_
        rintro e w1 ⟨u, rfl, ho, hb⟩
        have HB1 : Hid (Below w.heap.size w w1) := hb
        have HU : Hid (RdS u L w1) := ho.rd
        clear hb ho
        go_wp2_with fail
        refine (H1.out _ _ HU.out).mono ?_
        rintro e w2 ⟨rfl, rfl⟩
        go_wp2_with fail
        refine (H2.out _ _ HU.out).mono ?_
        rintro e w3 ⟨rfl, rfl⟩
        go_wp2
        go_ret
        exact ⟨rfl, HB1.out⟩
      | false =>
        rw [if_neg (by simp)]
        go_enter Tryz.func120, Tryz.ntmps120
        go_wp2_with fail
        refine HT.out.mono ?_
        rintro e w1 ⟨u, rfl, ho, hb⟩
        have HB1 : Hid (Below w.heap.size w w1) := hb
        have HU : Hid (RdS u L w1) := ho.rd
        clear hb ho
        go_wp2_with fail
        refine (H1.out _ _ HU.out).mono ?_
        rintro e w2 ⟨rfl, rfl⟩
        go_wp2
        go_ret
        exact ⟨rfl, HB1.out⟩
  · rw [if_neg hz]
    have hzq : (z != 0) = true := by simp [hz]
    go_enter Tryz.func120, Tryz.ntmps120
    go_wp2_with fail
    refine HT.out.mono ?_
    rintro e w1 ⟨u, rfl, ho, hb⟩
    have HB1 : Hid (Below w.heap.size w w1) := hb
    have HU : Hid (RdS u L w1) := ho.rd
    clear hb ho
    go_wp2
    go_ret
    exact ⟨rfl, HB1.out⟩
set_option maxRecDepth 100000 in
set_option maxHeartbeats 1000000 in
theorem rPersist_any (v : Value) (t : List Fl) (old : Bool) (hS : sumF t ≤ 1048576) (w : World) (hrd : RdF v t w) :
    Calls Tryz.prog 16 #[v, .bool old] w fun e w' => e = .returned (.bool (persistF t old)) ∧ Below w.heap.size w w' := by
  have HT : Hid (Calls Tryz.prog 31 #[v, .string ⟨#[67, 111, 110, 110, 101, 99, 116, 105, 111, 110]⟩] w fun e w' => ∃ x, e = .returned (.tuple #[x, .int .i64 (tokensF nCo t).2]) ∧ OwnS w.heap.size x (tokensF nCo t).1 w' ∧ Below w.heap.size w w') := rTokens6_any v t nCo (by decide) hS w hrd
  have hl := tokens_len hS nCo
  have H1 : Hid (∀ u w, RdS u (tokensF nCo t).1 w → Calls Tryz.prog 32 #[u, .string ⟨#[99, 108, 111, 115, 101]⟩] w fun e w' => e = .returned (.bool (inL (tokensF nCo t).1 wCl)) ∧ w' = w) := fun u w h => rIn_any u _ wCl hl w h
  have H2 : Hid (∀ u w, RdS u (tokensF nCo t).1 w → Calls Tryz.prog 32 #[u, .string ⟨#[107, 101, 101, 112, 45, 97, 108, 105, 118, 101]⟩] w fun e w' => e = .returned (.bool (inL (tokensF nCo t).1 wKA)) ∧ w' = w) := fun u w h => rIn_any u _ wKA hl w h
  unfold persistF
  obtain ⟨a, c, rfl, _⟩ := hrd
  clear hl
  generalize (tokensF nCo t).1 = L at *
  generalize (tokensF nCo t).2 = z at *
  generalize inL L wCl = b1 at *
  generalize inL L wKA = b2 at *
  by_cases hz : z = 0
  · subst hz
    rw [if_pos rfl]
    cases b1 with
    | true =>
      rw [if_pos rfl]
      go_enter Tryz.func16, Tryz.ntmps16
      go_wp2_with fail
      refine HT.out.mono ?_
      rintro e w1 ⟨u, rfl, ho, hb⟩
      have HB1 : Hid (Below w.heap.size w w1) := hb
      have HU : Hid (RdS u L w1) := ho.rd
      clear hb ho
      go_wp2_with fail
      refine (H1.out _ _ HU.out).mono ?_
      rintro e w2 ⟨rfl, rfl⟩
      go_wp2
      go_ret
      exact ⟨rfl, HB1.out⟩
    | false =>
      rw [if_neg (by simp)]
      cases old with
      | true =>
        rw [if_pos rfl]
        go_enter Tryz.func16, Tryz.ntmps16
        go_wp2_with fail
        refine HT.out.mono ?_
        rintro e w1 ⟨u, rfl, ho, hb⟩
        have HB1 : Hid (Below w.heap.size w w1) := hb
        have HU : Hid (RdS u L w1) := ho.rd
        clear hb ho
        go_wp2_with fail
        refine (H1.out _ _ HU.out).mono ?_
        rintro e w2 ⟨rfl, rfl⟩
        go_wp2_with fail
        refine (H2.out _ _ HU.out).mono ?_
        rintro e w3 ⟨rfl, rfl⟩
        go_wp2
        go_ret
        exact ⟨rfl, HB1.out⟩
      | false =>
        rw [if_neg (by simp)]
        go_enter Tryz.func16, Tryz.ntmps16
        go_wp2_with fail
        refine HT.out.mono ?_
        rintro e w1 ⟨u, rfl, ho, hb⟩
        have HB1 : Hid (Below w.heap.size w w1) := hb
        have HU : Hid (RdS u L w1) := ho.rd
        clear hb ho
        go_wp2_with fail
        refine (H1.out _ _ HU.out).mono ?_
        rintro e w2 ⟨rfl, rfl⟩
        go_wp2
        go_ret
        exact ⟨rfl, HB1.out⟩
  · rw [if_neg hz]
    have hzq : (z != 0) = true := by simp [hz]
    go_enter Tryz.func16, Tryz.ntmps16
    go_wp2_with fail
    refine HT.out.mono ?_
    rintro e w1 ⟨u, rfl, ho, hb⟩
    have HB1 : Hid (Below w.heap.size w w1) := hb
    have HU : Hid (RdS u L w1) := ho.rd
    clear hb ho
    go_wp2
    go_ret
    exact ⟨rfl, HB1.out⟩
end Fd
end Go.Proofs.YtdcfhnbagldilaaGreatDoor
set_option linter.unusedVariables false
set_option linter.unusedSimpArgs false
namespace Go.Proofs.YtdcfhnbagldilaaGreatDoor
open Go.RowKit Go.Shelf
namespace Fd
open Oc Tg
def dec (x : List UInt8) : Int × Int := numR 10 x 1099511627776
def decZ (x : List UInt8) : Int := if (dec x).2 = 0 then (dec x).1 else -1
theorem val_low {c : Int} (h : c < 48) : 10 ≤ valI c := by unfold valI; (repeat' split) <;> omega
theorem val_high {c : Int} (h : 57 < c) : 10 ≤ valI c := by unfold valI; (repeat' split) <;> omega
theorem decZ_bad {s : ByteArray} (k : Nat) (h : k < s.size) (hv : 10 ≤ valI (byt s k)) : decZ s.data.toList = -1 := by
  unfold decZ dec
  rw [numR_bad 10 _ s k h hv]
  rfl
set_option maxRecDepth 100000 in
set_option maxHeartbeats 1000000 in
theorem rdecimal_any (s : ByteArray) (hs : s.size ≤ 134217728) (w : World) :
    Calls Tryz.prog 69 #[.string s] w fun e w' => e = .returned (.int .i64 (decZ s.data.toList)) ∧ w' = w := by
  go_enter Tryz.func69, Tryz.ntmps69
  go_wp2
  go_loop [3, 4] (fun nv i => ∃ (k : Nat) (n : Int), k ≤ s.size ∧ i = .int .i64 k ∧ nv = .int .i64 n ∧ 0 ≤ n ∧ n ≤ 10995116277769 ∧ Hid (∀ j, j < k → valI (byt s j) < 10) ∧ Hid (n = pre 10 s k ∨ (1099511627776 < n ∧ 1099511627776 < pre 10 s k))) (fun _ i => s.size - (intOf i).toNat)
  case atStart => exact ⟨0, 0, Nat.zero_le _, rfl, rfl, by omega, by omega, (fun j hj => by omega : ∀ j, j < 0 → _), (.inl (pre_zero 10 s).symm : _ ∨ _)⟩
  case round =>
    obtain ⟨k, n, hk, rfl, rfl, n0, n1, hall, hst⟩ := hrel
    by_cases hlt : k < s.size
    · have hby : ((s[k].toNat : Nat) : Int) = byt s k := byt_at s k hlt
      obtain ⟨b0, b1⟩ := byt_bd s k
      have HBad : 10 ≤ valI (byt s k) → Hid (decZ s.data.toList = -1) := fun h => decZ_bad k hlt h
      have HPre : Hid (pre 10 s (k + 1) = pre 10 s k * 10 + valI (byt s k)) := pre_succ 10 s k hlt
      have HMono : Hid (pre 10 s k ≤ pre 10 s (k + 1)) := pre_le 10 (by omega) s k (k + 1) (by omega) hlt
      by_cases hlo : byt s k < 48
      · have HB := HBad (val_low hlo)
        have q1 : decide ((s[k].toNat : Int) < 48) = true := decide_eq_true (by omega)
        go_wp2
        go_ret
        exact ⟨ret_int HB.out.symm, rfl⟩
      · have q1 : decide ((s[k].toNat : Int) < 48) = false := decide_eq_false (by omega)
        by_cases hhi : 57 < byt s k
        · have HB := HBad (val_high hhi)
          have q2 : decide (57 < (s[k].toNat : Int)) = true := decide_eq_true (by omega)
          go_wp2
          go_ret
          exact ⟨ret_int HB.out.symm, rfl⟩
        · have q2 : decide (57 < (s[k].toNat : Int)) = false := decide_eq_false (by omega)
          have hv : valI (byt s k) = byt s k - 48 := valI_d (by omega)
          have HV : Hid (valI (byt s k) = byt s k - 48) := hv
          have HN : Hid (∀ j, j < k + 1 → valI (byt s j) < 10) := fun j hj => by
            by_cases hjk : j = k
            · subst hjk; have := HV.out; omega
            · exact hall.out j (by omega)
          clear hv HBad
          by_cases hM : n ≤ 1099511627776
          · have HS : Hid (10 * n + (byt s k - 48) = pre 10 s (k + 1) ∨ (1099511627776 < 10 * n + (byt s k - 48) ∧ 1099511627776 < pre 10 s (k + 1))) := by
              left
              rcases hst.out with h | ⟨h, _⟩
              · rw [HPre.out, HV.out, ← h]; omega
              · omega
            go_wp2
            go_round
            case rel => exact ⟨k + 1, 10 * n + (byt s k - 48), by omega, by go_num, by first | rfl | (congr 1; omega) | go_num, by omega, by omega, HN, HS⟩
            case measure => simp [intOf]; omega
          · have HS : Hid (n = pre 10 s (k + 1) ∨ (1099511627776 < n ∧ 1099511627776 < pre 10 s (k + 1))) := by
              right
              refine ⟨by omega, ?_⟩
              rcases hst.out with h | ⟨_, h⟩
              · have := HMono.out; omega
              · have := HMono.out; omega
            go_wp2
            go_round
            case rel => exact ⟨k + 1, n, by omega, by go_num, rfl, n0, n1, HN, HS⟩
            case measure => simp [intOf]; omega
    · obtain rfl : k = s.size := by omega
      by_cases hz : s.size = 0
      · have he := empty_of hz
        have HE : Hid (decZ s.data.toList = -1) := by
          show _ = _
          unfold decZ dec
          rw [numR_empty _ _ s hz]
          rfl
        go_wp2
        go_ret
        exact ⟨ret_int HE.out.symm, rfl⟩
      · have he := nonempty_of hz
        by_cases hM : 1099511627776 < n
        · have HE : Hid (decZ s.data.toList = -1) := by
            show _ = _
            unfold decZ dec
            rw [numR_big 10 _ s (by omega) hall.out (by rcases hst.out with h | ⟨_, h⟩ <;> omega)]
            rfl
          go_wp2
          go_ret
          exact ⟨ret_int HE.out.symm, rfl⟩
        · have HE : Hid (decZ s.data.toList = n) := by
            show _ = _
            have h := hst.out.resolve_right (fun h => hM h.1)
            unfold decZ dec
            rw [numR_fits 10 _ s (by omega) hall.out (by omega)]
            exact h.symm
          go_wp2
          go_ret
          exact ⟨ret_int HE.out.symm, rfl⟩
end Fd
end Go.Proofs.YtdcfhnbagldilaaGreatDoor
set_option linter.unusedVariables false
set_option linter.unusedSimpArgs false
namespace Go.Proofs.YtdcfhnbagldilaaGreatDoor
open Go.RowKit Go.Shelf
namespace Fd
open Oc Tg
def nCL : List UInt8 := [67, 111, 110, 116, 101, 110, 116, 45, 76, 101, 110, 103, 116, 104]
def nTE : List UInt8 := [84, 114, 97, 110, 115, 102, 101, 114, 45, 69, 110, 99, 111, 100, 105, 110, 103]
theorem findB (s : List UInt8) (t : List Fl) : (findF s t).2 = decide (0 < (vals s t).length) := by
  unfold findF vals
  have h : (t.filter (alike s)).head? = t.find? (alike s) := List.head?_filter
  cases hf : t.filter (alike s) with
  | nil => rw [hf] at h; rw [← h]; rfl
  | cons p r => rw [hf] at h; rw [← h]; rfl
def sameLen (L : List (List UInt8)) : Bool := L.all fun x => decide ((dec x).2 = 0 ∧ (dec x).1 = (dec (L.getD 0 [])).1)
def lenL (L : List (List UInt8)) : Int × Bool × Int := if L = [] then (0, false, 66) else if sameLen L then ((dec (L.getD 0 [])).1, true, 0) else (0, false, 66)
def lengthF (t : List Fl) : Int × Bool × Int := if vals nCL t = [] then (0, false, 0) else if (listF nCL t).2 = 0 then lenL (listF nCL t).1 else (0, false, 66)
theorem len_bad {L : List (List UInt8)} (k : Nat) (hk : k < L.length) (h : ¬ ((dec (L.getD k [])).2 = 0 ∧ (dec (L.getD k [])).1 = (dec (L.getD 0 [])).1)) : lenL L = (0, false, 66) := by
  unfold lenL
  by_cases h0 : L = []
  · rw [if_pos h0]
  · rw [if_neg h0, if_neg]
    unfold sameLen
    rw [all_not _ [] L k hk (decide_eq_false h)]
    simp
theorem len_ok {L : List (List UInt8)} (h0 : L ≠ []) (h : ∀ k, k < L.length → (dec (L.getD k [])).2 = 0 ∧ (dec (L.getD k [])).1 = (dec (L.getD 0 [])).1) : lenL L = ((dec (L.getD 0 [])).1, true, 0) := by
  unfold lenL
  rw [if_neg h0, if_pos]
  unfold sameLen
  exact all_of _ [] L (fun k hk => decide_eq_true (h k hk))
def lenV (r : Int × Bool × Int) : Value := .tuple #[.int .i64 r.1, .bool r.2.1, .int .i64 r.2.2]
set_option maxRecDepth 100000 in
set_option maxHeartbeats 1000000 in
theorem Length_any (v : Value) (t : List Fl) (hS : sumF t ≤ 1048576) (w : World) (hrd : RdF v t w) :
    Calls Tryz.prog 135 #[v] w fun e w' => e = .returned (lenV (lengthF t)) ∧ Below w.heap.size w w' := by
  have hlen := len_sumF t
  have hM := (each_sumF t).mono hS
  have HF : Hid (Calls Tryz.prog 154 #[v, .string ⟨#[67, 111, 110, 116, 101, 110, 116, 45, 76, 101, 110, 103, 116, 104]⟩] w fun e w' => e = .returned (.tuple #[.string (str (findF nCL t).1), .bool (decide (0 < (vals nCL t).length))]) ∧ Below w.heap.size w w') := by
    have h := Find_any v t nCL (by decide) (hM.mono (by unfold maxLen; omega)) (by omega) w hrd
    rw [findB] at h
    exact h
  have HL : Hid (∀ w, RdF v t w → Calls Tryz.prog 155 #[v, .string ⟨#[67, 111, 110, 116, 101, 110, 116, 45, 76, 101, 110, 103, 116, 104]⟩] w fun e w' => ∃ x, e = .returned (.tuple #[x, .int .i64 (listF nCL t).2]) ∧ OwnS w.heap.size x (listF nCL t).1 w' ∧ Below w.heap.size w w') := fun w h => List6_any v t nCL (by decide) hS w h
  have hv := sumV_filter nCL t
  have hll := listV_len (vals nCL t) []
  have HSh : Hid (∀ x ∈ (listF nCL t).1, x.length ≤ 1048576) := listV_short 1048576 (vals nCL t) [] (fun x hx => by cases hx) (vals_short hM nCL)
  have hLn : (listF nCL t).1.length ≤ 1048576 := by unfold listF; simp at hll; omega
  have HR : Hid (RdF v t w) := hrd
  unfold lengthF
  obtain ⟨a, c, rfl, _⟩ := hrd
  clear hv hll hM
  generalize str (findF nCL t).1 = FS at *
  generalize vals nCL t = T at *
  generalize (listF nCL t).1 = L at *
  generalize (listF nCL t).2 = z at *
  by_cases hT : T = []
  · rw [if_pos hT]
    rw [show decide (0 < T.length) = false by rw [hT]; rfl] at HF
    clear hT
    go_enter Tryz.func135, Tryz.ntmps135
    go_wp2_with fail
    refine HF.out.mono ?_
    rintro e w1 ⟨rfl, hb⟩
    go_wp2
    refine bodyPost_ret (v := .tuple #[.int .i64 0, .bool false, .int .i64 0]) (by simp [results, Tryz.results135, go_sem]) rfl ?_
    exact ⟨rfl, hb⟩
  · rw [if_neg hT]
    rw [show decide (0 < T.length) = true from decide_eq_true (List.length_pos_iff.2 hT)] at HF
    clear hT
    by_cases hz : z = 0
    · subst hz
      rw [if_pos rfl]
      by_cases hL0 : L = []
      · subst hL0
        go_enter Tryz.func135, Tryz.ntmps135
        go_wp2_with fail
        refine HF.out.mono ?_
        rintro e w1 ⟨rfl, hb⟩
        have HB1 : Hid (Below w.heap.size w w1) := hb
        clear hb
        go_wp2_with fail
        refine (HL.out _ (HR.out.below HB1.out)).mono ?_
        rintro e w2 ⟨x, rfl, hx, hb⟩
        have HB2 : Hid (Below w.heap.size w w2) := bel_trans HB1.out hb
        obtain ⟨xa, xc, rfl⟩ := hx.form
        clear hb hx
        go_wp2
        refine bodyPost_ret (v := .tuple #[.int .i64 0, .bool false, .int .i64 66]) (by simp [results, Tryz.results135, go_sem]) rfl ?_
        exact ⟨rfl, HB2.out⟩
      · have hpos : 0 < L.length := List.length_pos_iff.2 hL0
        have hne : ((L.length : Int) == 0) = false := by simp; omega
        have HL0 : Hid (L ≠ []) := hL0
        clear hL0
        go_enter Tryz.func135, Tryz.ntmps135
        go_wp2_with fail
        refine HF.out.mono ?_
        rintro e w1 ⟨rfl, hb⟩
        have HB1 : Hid (Below w.heap.size w w1) := hb
        clear hb
        go_wp2_with fail
        refine (HL.out _ (HR.out.below HB1.out)).mono ?_
        rintro e w2 ⟨x, rfl, hx, hb⟩
        have HB2 : Hid (Below w.heap.size w w2) := bel_trans HB1.out hb
        have HX : Hid (RdS x L w2) := hx.rd
        obtain ⟨xa, xc, rfl⟩ := hx.form
        clear hb hx
        go_wp2
        go_loopw [9, 35] (fun lv i wr => ∃ (k : Nat) (ln : Int), k ≤ L.length ∧ i = .int .i64 k ∧ lv = .int .i64 ln ∧ Hid (k ≠ 0 → ln = (dec (L.getD 0 [])).1) ∧ Hid (∀ j, j < k → (dec (L.getD j [])).2 = 0 ∧ (dec (L.getD j [])).1 = (dec (L.getD 0 [])).1) ∧ Hid (Below w2.heap.size w2 wr)) (fun _ i _ => L.length - (intOf i).toNat)
        case atStart => exact ⟨0, 0, Nat.zero_le _, rfl, rfl, (fun h => absurd rfl h : (0 : Nat) ≠ 0 → _), (fun j hj => by omega : ∀ j, j < 0 → _), Below.refl _ _⟩
        case round =>
          obtain ⟨k, ln, hk, rfl, rfl, hln, hall, hbl⟩ := hrel
          by_cases hlt : k < L.length
          · obtain ⟨a', c', e', hcs⟩ := HX.out.below hbl.out
            injection e' with e1 _ e2
            subst e1 e2
            rcases hcs with h | ⟨g, o, rfl, hlc, hcell⟩
            · rw [h] at hlt; simp at hlt
            have p0 := hcell k hlt
            have hxl := getD_short HSh.out k hlt
            have HD : Hid (∀ w, Calls Tryz.prog 118 #[.string (str (L.getD k [])), .int .i64 1099511627776] w fun e w' => e = .returned (.tuple #[.int .i64 (dec (L.getD k [])).1, .int .i64 (dec (L.getD k [])).2]) ∧ Below w.heap.size w w') := fun w => by
              have h := Decimal_any (str (L.getD k [])) (by rw [str_size]; unfold maxLen; omega) 1099511627776 (by omega) (by omega) w
              rw [str_list] at h
              exact h
            have BAD : ¬ ((dec (L.getD k [])).2 = 0 ∧ (dec (L.getD k [])).1 = (dec (L.getD 0 [])).1) → Hid (lenL L = (0, false, 66)) := fun h => len_bad k hlt h
            have NXT : (dec (L.getD k [])).2 = 0 ∧ (dec (L.getD k [])).1 = (dec (L.getD 0 [])).1 → Hid (∀ j, j < k + 1 → (dec (L.getD j [])).2 = 0 ∧ (dec (L.getD j [])).1 = (dec (L.getD 0 [])).1) := fun h j hj => by
              by_cases hjk : j = k
              · subst hjk; exact h
              · exact hall.out j (by omega)
            have ZER : k = 0 → Hid ((dec (L.getD k [])).1 = (dec (L.getD 0 [])).1) := fun h => by subst h; exact rfl
            clear hcell hxl
            generalize str (L.getD k []) = X at p0 HD
            generalize (dec (L.getD k [])).1 = n at HD BAD NXT ZER
            generalize (dec (L.getD k [])).2 = e0 at HD BAD NXT
            by_cases he : e0 = 0
            · subst he
              by_cases hk0 : k = 0
              · have nx := NXT ⟨rfl, (ZER hk0).out⟩
                have HLn : Hid (k + 1 ≠ 0 → n = (dec (L.getD 0 [])).1) := fun _ => (ZER hk0).out
                clear BAD NXT ZER
                subst hk0
                rw [Nat.add_zero] at p0
                go_wp2_with fail
                refine (HD.out _).mono ?_
                rintro e w3 ⟨rfl, hb⟩
                have HB3 : Hid (Below w2.heap.size w2 w3) := bel_trans hbl.out hb
                clear hb
                go_wp2
                go_roundw
                case rel => exact ⟨1, n, by omega, by go_num, rfl, HLn, nx, HB3⟩
                case measure => simp [intOf]; omega
              · have hkp : decide ((0 : Int) < (k : Int)) = true := decide_eq_true (by omega)
                by_cases hnl : n = ln
                · have hq : (n != ln) = false := by simp [hnl]
                  have nx := NXT ⟨rfl, hnl.trans (hln.out hk0)⟩
                  have HLn : Hid (k + 1 ≠ 0 → n = (dec (L.getD 0 [])).1) := fun _ => hnl.trans (hln.out hk0)
                  clear BAD NXT ZER hnl
                  go_wp2_with fail
                  refine (HD.out _).mono ?_
                  rintro e w3 ⟨rfl, hb⟩
                  have HB3 : Hid (Below w2.heap.size w2 w3) := bel_trans hbl.out hb
                  clear hb
                  go_wp2
                  go_roundw
                  case rel => exact ⟨k + 1, n, by omega, by go_num, rfl, HLn, nx, HB3⟩
                  case measure => simp [intOf]; omega
                · have hq : (n != ln) = true := by simp [hnl]
                  have bd := BAD (fun h => hnl (h.2.trans (hln.out hk0).symm))
                  clear BAD NXT ZER hnl
                  go_wp2_with fail
                  refine (HD.out _).mono ?_
                  rintro e w3 ⟨rfl, hb⟩
                  have HB3 : Hid (Below w2.heap.size w2 w3) := bel_trans hbl.out hb
                  clear hb
                  go_wp2
                  refine bodyPost_ret (v := .tuple #[.int .i64 0, .bool false, .int .i64 66]) (by simp [results, Tryz.results135, go_sem]) rfl ?_
                  exact ⟨by rw [bd.out]; rfl, HB2.out.trans (HB3.out.mono HB2.out.size)⟩
            · have hq : (e0 != 0) = true := by simp [he]
              have bd := BAD (fun h => he h.1)
              clear BAD NXT ZER
              go_wp2_with fail
              refine (HD.out _).mono ?_
              rintro e w3 ⟨rfl, hb⟩
              have HB3 : Hid (Below w2.heap.size w2 w3) := bel_trans hbl.out hb
              clear hb
              go_wp2
              refine bodyPost_ret (v := .tuple #[.int .i64 0, .bool false, .int .i64 66]) (by simp [results, Tryz.results135, go_sem]) rfl ?_
              exact ⟨by rw [bd.out]; rfl, HB2.out.trans (HB3.out.mono HB2.out.size)⟩
          · obtain rfl : k = L.length := by omega
            have HE : Hid (lenL L = (ln, true, 0)) := by
              show _ = _
              rw [len_ok HL0.out hall.out, ← hln.out (by omega)]
            go_wp2
            refine bodyPost_ret (v := .tuple #[.int .i64 ln, .bool true, .int .i64 0]) (by simp [results, Tryz.results135, go_sem]) rfl ?_
            exact ⟨by rw [HE.out]; rfl, HB2.out.trans (hbl.out.mono HB2.out.size)⟩
    · rw [if_neg hz]
      have hzq : (z != 0) = true := by simp [hz]
      go_enter Tryz.func135, Tryz.ntmps135
      go_wp2_with fail
      refine HF.out.mono ?_
      rintro e w1 ⟨rfl, hb⟩
      have HB1 : Hid (Below w.heap.size w w1) := hb
      clear hb
      go_wp2_with fail
      refine (HL.out _ (HR.out.below HB1.out)).mono ?_
      rintro e w2 ⟨x, rfl, hx, hb⟩
      have HB2 : Hid (Below w.heap.size w w2) := bel_trans HB1.out hb
      obtain ⟨xa, xc, rfl⟩ := hx.form
      clear hb hx
      go_wp2
      refine bodyPost_ret (v := .tuple #[.int .i64 0, .bool false, .int .i64 66]) (by simp [results, Tryz.results135, go_sem]) rfl ?_
      exact ⟨rfl, HB2.out⟩
theorem dec_Z (x : List UInt8) : ((dec x).2 = 0 ∧ 0 ≤ (dec x).1 ∧ decZ x = (dec x).1) ∨ ((dec x).2 ≠ 0 ∧ decZ x = -1) := by
  unfold decZ
  by_cases h : (dec x).2 = 0
  · left
    refine ⟨h, ?_, by rw [if_pos h]⟩
    unfold dec numR at h ⊢
    split at h
    · cases h
    · split at h
      · cases h
      · rename_i h1 h2
        rw [if_neg h1, if_neg h2]
        unfold numOf
        have : ∀ (l : List UInt8) (n : Int), 0 ≤ n → 0 ≤ l.foldl (fun n c => n * 10 + valI (c.toNat : Int)) n := fun l => by
          induction l with
          | nil => exact fun n h => h
          | cons c l ih => exact fun n h => ih _ (by have := (valI_bd (c := (c.toNat : Int)) (by omega)).1; show 0 ≤ n * 10 + valI (c.toNat : Int); omega)
        exact this _ 0 (by omega)
  · exact .inr ⟨h, by rw [if_neg h]⟩
set_option maxRecDepth 100000 in
set_option maxHeartbeats 1000000 in
theorem rLength_any (v : Value) (t : List Fl) (hS : sumF t ≤ 1048576) (w : World) (hrd : RdF v t w) :
    Calls Tryz.prog 30 #[v] w fun e w' => e = .returned (lenV (lengthF t)) ∧ Below w.heap.size w w' := by
  have hlen := len_sumF t
  have hM := (each_sumF t).mono hS
  have HF : Hid (Calls Tryz.prog 67 #[v, .string ⟨#[67, 111, 110, 116, 101, 110, 116, 45, 76, 101, 110, 103, 116, 104]⟩] w fun e w' => ∃ x, e = .returned x ∧ OwnS w.heap.size x (vals nCL t) w' ∧ Below w.heap.size w w') := rAll_any v t nCL (by decide) hM (by omega) w hrd
  have HL : Hid (∀ w, RdF v t w → Calls Tryz.prog 68 #[v, .string ⟨#[67, 111, 110, 116, 101, 110, 116, 45, 76, 101, 110, 103, 116, 104]⟩] w fun e w' => ∃ x, e = .returned (.tuple #[x, .int .i64 (listF nCL t).2]) ∧ OwnS w.heap.size x (listF nCL t).1 w' ∧ Below w.heap.size w w') := fun w h => rList6_any v t nCL (by decide) hS w h
  have hv := sumV_filter nCL t
  have hll := listV_len (vals nCL t) []
  have HSh : Hid (∀ x ∈ (listF nCL t).1, x.length ≤ 1048576) := listV_short 1048576 (vals nCL t) [] (fun x hx => by cases hx) (vals_short hM nCL)
  have hLn : (listF nCL t).1.length ≤ 1048576 := by unfold listF; simp at hll; omega
  have hTl : (vals nCL t).length ≤ 1048576 := by omega
  have HR : Hid (RdF v t w) := hrd
  unfold lengthF
  obtain ⟨a, c, rfl, _⟩ := hrd
  clear hv hll hM
  generalize vals nCL t = T at *
  generalize (listF nCL t).1 = L at *
  generalize (listF nCL t).2 = z at *
  by_cases hT : T = []
  · rw [if_pos hT]
    subst hT
    go_enter Tryz.func30, Tryz.ntmps30
    go_wp2_with fail
    refine HF.out.mono ?_
    rintro e w1 ⟨x, rfl, hx, hb⟩
    obtain ⟨xa, xc, rfl⟩ := hx.form
    clear hx
    go_wp2
    refine bodyPost_ret (v := .tuple #[.int .i64 0, .bool false, .int .i64 0]) (by simp [results, Tryz.results30, go_sem]) rfl ?_
    exact ⟨rfl, hb⟩
  · rw [if_neg hT]
    have hTp : ((T.length : Int) == 0) = false := by
      have := List.length_pos_iff.2 hT
      simp
      omega
    clear hT
    by_cases hz : z = 0
    · subst hz
      rw [if_pos rfl]
      by_cases hL0 : L = []
      · subst hL0
        go_enter Tryz.func30, Tryz.ntmps30
        go_wp2_with fail
        refine HF.out.mono ?_
        rintro e w1 ⟨y, rfl, hy, hb⟩
        have HB1 : Hid (Below w.heap.size w w1) := hb
        obtain ⟨ya, yc, rfl⟩ := hy.form
        clear hb hy
        go_wp2_with fail
        refine (HL.out _ (HR.out.below HB1.out)).mono ?_
        rintro e w2 ⟨x, rfl, hx, hb⟩
        have HB2 : Hid (Below w.heap.size w w2) := bel_trans HB1.out hb
        obtain ⟨xa, xc, rfl⟩ := hx.form
        clear hb hx
        go_wp2
        refine bodyPost_ret (v := .tuple #[.int .i64 0, .bool false, .int .i64 66]) (by simp [results, Tryz.results30, go_sem]) rfl ?_
        exact ⟨rfl, HB2.out⟩
      · have hpos : 0 < L.length := List.length_pos_iff.2 hL0
        have hne : ((L.length : Int) == 0) = false := by simp; omega
        have HL0 : Hid (L ≠ []) := hL0
        clear hL0
        go_enter Tryz.func30, Tryz.ntmps30
        go_wp2_with fail
        refine HF.out.mono ?_
        rintro e w1 ⟨y, rfl, hy, hb⟩
        have HB1 : Hid (Below w.heap.size w w1) := hb
        obtain ⟨ya, yc, rfl⟩ := hy.form
        clear hb hy
        go_wp2_with fail
        refine (HL.out _ (HR.out.below HB1.out)).mono ?_
        rintro e w2 ⟨x, rfl, hx, hb⟩
        have HB2 : Hid (Below w.heap.size w w2) := bel_trans HB1.out hb
        have HX : Hid (RdS x L w2) := hx.rd
        obtain ⟨xa, xc, rfl⟩ := hx.form
        clear hb hx
        obtain ⟨a', c', e', hcs⟩ := HX.out
        injection e' with e1 _ e2
        subst e1 e2
        rcases hcs with h | ⟨g, o, rfl, hlc, hcell⟩
        · exact absurd h HL0.out
        have HC : Hid (∀ j, j < L.length → w2.cell? ⟨g, o + j, none⟩ = some (.string (str (L.getD j [])))) := hcell
        have HDec : Hid (∀ j, j < L.length → ∀ w, Calls Tryz.prog 69 #[.string (str (L.getD j []))] w fun e w' => e = .returned (.int .i64 (decZ (L.getD j []))) ∧ w' = w) := fun j hj w => by
          have hxl := getD_short HSh.out j hj
          have h := rdecimal_any (str (L.getD j [])) (by rw [str_size]; omega) w
          rw [str_list] at h
          exact h
        have q0 := hcell 0 hpos
        rw [Nat.add_zero] at q0
        clear hcell
        go_wp2
        go_loopw [27] (fun i wr => ∃ k : Nat, k ≤ L.length ∧ i = .int .i64 k ∧ Hid (∀ j, j < k → (dec (L.getD j [])).2 = 0 ∧ (dec (L.getD j [])).1 = (dec (L.getD 0 [])).1) ∧ Hid (∃ n, wr = w2.drewN n)) (fun i _ => L.length - (intOf i).toNat)
        case atStart => exact ⟨0, Nat.zero_le _, rfl, (fun j hj => by omega : ∀ j, j < 0 → _), (⟨0, rfl⟩ : ∃ n, w2 = w2.drewN n)⟩
        case round =>
          obtain ⟨k, hk, rfl, hall, hwr⟩ := hrel
          have hcw : ∀ ad, wr.cell? ad = w2.cell? ad := fun ad => by
            obtain ⟨n, rfl⟩ := hwr.out
            simp
          have HWd : Hid (∀ m, ∃ n, wr.drewN m = w2.drewN n) := fun m => by
            obtain ⟨n, rfl⟩ := hwr.out
            exact ⟨_, World.drewN_drewN ..⟩
          have HBw : Hid (Below w.heap.size w wr) := by
            obtain ⟨n, rfl⟩ := hwr.out
            exact below_drewN HB2.out n
          have q0 := (hcw _).trans q0
          clear hwr
          by_cases hlt : k < L.length
          · have p0 := (hcw _).trans (HC.out k hlt)
            clear hcw
            have HD : Hid (∀ w, _) := HDec.out k hlt
            have HD0 : Hid (∀ w, _) := HDec.out 0 hpos
            have BAD : ¬ ((dec (L.getD k [])).2 = 0 ∧ (dec (L.getD k [])).1 = (dec (L.getD 0 [])).1) → Hid (lenL L = (0, false, 66)) := fun h => len_bad k hlt h
            have NXT : (dec (L.getD k [])).2 = 0 ∧ (dec (L.getD k [])).1 = (dec (L.getD 0 [])).1 → Hid (∀ j, j < k + 1 → (dec (L.getD j [])).2 = 0 ∧ (dec (L.getD j [])).1 = (dec (L.getD 0 [])).1) := fun h j hj => by
              by_cases hjk : j = k
              · subst hjk; exact h
              · exact hall.out j (by omega)
            have FST : k ≠ 0 → Hid ((dec (L.getD 0 [])).2 = 0) := fun h => (hall.out 0 (by omega)).1
            have hA := dec_Z (L.getD k [])
            have hB : (dec (L.getD k [])).2 = 0 → Hid (decZ (L.getD 0 []) = (dec (L.getD 0 [])).1) := fun h => by
              by_cases hk0 : k = 0
              · subst hk0
                show decZ _ = _
                unfold decZ
                rw [if_pos h]
              · show decZ _ = _
                unfold decZ
                rw [if_pos (FST hk0).out]
            clear FST
            generalize str (L.getD k []) = X at p0 HD
            generalize str (L.getD 0 []) = X0 at *
            generalize decZ (L.getD k []) = A at HD hA
            generalize hBB : decZ (L.getD 0 []) = B at HD0 hB
            clear hBB
            generalize (dec (L.getD k [])).1 = n at hA BAD NXT
            generalize (dec (L.getD k [])).2 = e0 at hA BAD NXT hB
            rcases hA with ⟨he, hn0, hAn⟩ | ⟨he, hAn⟩
            · have hB2 := hB he
              have HAn : Hid (A = n) := hAn
              have hlt0 : decide (A < 0) = false := decide_eq_false (by omega)
              by_cases hq : A = B
              · have hqq : (A != B) = false := by simp [hq]
                have nx := NXT ⟨he, by rw [← HAn.out, hq, hB2.out]⟩
                clear BAD NXT hAn hq hB he hn0
                go_wp2_with fail
                go_quiet (first | (go_at_call 69; with_reducible exact Calls.quiet_of_same (HD.out _)) | (go_at_call 69; with_reducible exact Calls.quiet_of_same (HD0.out _)))
                go_wp2
                go_roundw
                case rel => exact ⟨k + 1, by omega, by go_num, nx, HWd.out _⟩
                case measure => simp [intOf]; omega
              · have hqq : (A != B) = true := by simp [hq]
                have bd := BAD (fun h => hq (by rw [HAn.out, h.2, hB2.out]))
                clear BAD NXT hAn hq hB he hn0
                go_wp2_with fail
                go_quiet (first | (go_at_call 69; with_reducible exact Calls.quiet_of_same (HD.out _)) | (go_at_call 69; with_reducible exact Calls.quiet_of_same (HD0.out _)))
                go_wp2
                refine bodyPost_ret (v := .tuple #[.int .i64 0, .bool false, .int .i64 66]) (by simp [results, Tryz.results30, go_sem]) rfl ?_
                exact ⟨by rw [bd.out]; rfl, below_drewN HBw.out _⟩
            · have bd := BAD (fun h => he h.1)
              have hlt0 : decide (A < 0) = true := decide_eq_true (by omega)
              clear BAD NXT hB he hAn
              go_wp2_with fail
              go_quiet (first | (go_at_call 69; with_reducible exact Calls.quiet_of_same (HD.out _)) | (go_at_call 69; with_reducible exact Calls.quiet_of_same (HD0.out _)))
              go_wp2
              refine bodyPost_ret (v := .tuple #[.int .i64 0, .bool false, .int .i64 66]) (by simp [results, Tryz.results30, go_sem]) rfl ?_
              exact ⟨by rw [bd.out]; rfl, below_drewN HBw.out _⟩
          · obtain rfl : k = L.length := by omega
            clear hcw
            have HE : Hid (lenL L = ((dec (L.getD 0 [])).1, true, 0)) := len_ok HL0.out hall.out
            have HZ : Hid (decZ (L.getD 0 []) = (dec (L.getD 0 [])).1) := by
              show decZ _ = _
              unfold decZ
              rw [if_pos (hall.out 0 hpos).1]
            have HD0 : Hid (∀ w, Calls Tryz.prog 69 #[.string (str (L.getD 0 []))] w fun e w' => e = .returned (.int .i64 (dec (L.getD 0 [])).1) ∧ w' = w) := fun w => by
              have h := HDec.out 0 hpos w
              rw [HZ.out] at h
              exact h
            clear HDec HZ
            generalize (dec (L.getD 0 [])).1 = D0 at HE HD0
            generalize str (L.getD 0 []) = X0 at *
            go_wp2_with fail
            refine (HD0.out _).mono ?_
            rintro e w3 ⟨rfl, rfl⟩
            go_wp2
            refine bodyPost_ret (v := .tuple #[.int .i64 D0, .bool true, .int .i64 0]) (by simp [results, Tryz.results30, go_sem]) rfl ?_
            exact ⟨by rw [HE.out]; rfl, HBw.out⟩
    · rw [if_neg hz]
      have hzq : (z != 0) = true := by simp [hz]
      go_enter Tryz.func30, Tryz.ntmps30
      go_wp2_with fail
      refine HF.out.mono ?_
      rintro e w1 ⟨y, rfl, hy, hb⟩
      have HB1 : Hid (Below w.heap.size w w1) := hb
      obtain ⟨ya, yc, rfl⟩ := hy.form
      clear hb hy
      go_wp2_with fail
      refine (HL.out _ (HR.out.below HB1.out)).mono ?_
      rintro e w2 ⟨x, rfl, hx, hb⟩
      have HB2 : Hid (Below w.heap.size w w2) := bel_trans HB1.out hb
      obtain ⟨xa, xc, rfl⟩ := hx.form
      clear hb hx
      go_wp2
      refine bodyPost_ret (v := .tuple #[.int .i64 0, .bool false, .int .i64 66]) (by simp [results, Tryz.results30, go_sem]) rfl ?_
      exact ⟨rfl, HB2.out⟩
end Fd
end Go.Proofs.YtdcfhnbagldilaaGreatDoor
set_option linter.unusedVariables false
set_option linter.unusedSimpArgs false
namespace Go.Proofs.YtdcfhnbagldilaaGreatDoor
open Go.RowKit Go.Shelf
namespace Fd
open Oc Tg
def chk : List UInt8 := [99, 104, 117, 110, 107, 101, 100]
def codF (t : List Fl) : List (List UInt8) × Bool × Int := if vals nTE t = [] then ([], false, 0) else if (tokensF nTE t).2 = 0 then ((tokensF nTE t).1, true, 0) else ([], false, 67)
def frame (old : Bool) (cl : List (List UInt8)) (coded : Bool) (ce : Int) (n : Int) (sized : Bool) (le : Int) : Int × Int × Int :=
  if ce ≠ 0 then (0, 0, 67)
  else if coded = true then
    if old = true then (0, 0, 67)
    else if cl = [chk] then (if le ≠ 0 then (0, 0, 66) else if sized = true then (0, 0, 68) else (2, 0, 0))
    else (0, 0, 67)
  else if le ≠ 0 then (0, 0, 66) else if sized = true then (1, n, 0) else (0, 0, 0)
def framingF (t : List Fl) (old : Bool) : Int × Int × Int := frame old (codF t).1 (codF t).2.1 (codF t).2.2 (lengthF t).1 (lengthF t).2.1 (lengthF t).2.2
theorem len_err (t : List Fl) : (lengthF t).2.2 = 0 ∨ (lengthF t).2.2 = 66 := by
  unfold lengthF lenL
  repeat' split
  all_goals simp
theorem cod_len {t : List Fl} (hS : sumF t ≤ 1048576) : (codF t).1.length ≤ 1048576 := by
  have := tokens_len hS nTE
  unfold codF
  repeat' split
  all_goals simp
  exact this
set_option maxRecDepth 100000 in
set_option maxHeartbeats 1000000 in
theorem Codings_any (v : Value) (t : List Fl) (hS : sumF t ≤ 1048576) (w : World) (hrd : RdF v t w) (tab : Tab w) :
    Calls Tryz.prog 134 #[v] w fun e w' => ∃ u, e = .returned (.tuple #[u, .bool (codF t).2.1, .int .i64 (codF t).2.2]) ∧ OwnS w.heap.size u (codF t).1 w' ∧ Below w.heap.size w w' := by
  have hlen := len_sumF t
  have hM := (each_sumF t).mono hS
  have HF : Hid (Calls Tryz.prog 154 #[v, .string ⟨#[84, 114, 97, 110, 115, 102, 101, 114, 45, 69, 110, 99, 111, 100, 105, 110, 103]⟩] w fun e w' => e = .returned (.tuple #[.string (str (findF nTE t).1), .bool (decide (0 < (vals nTE t).length))]) ∧ Below w.heap.size w w') := by
    have h := Find_any v t nTE (by decide) (hM.mono (by unfold maxLen; omega)) (by omega) w hrd
    rw [findB] at h
    exact h
  have HT : Hid (∀ w, RdF v t w → Tab w → Calls Tryz.prog 137 #[v, .string ⟨#[84, 114, 97, 110, 115, 102, 101, 114, 45, 69, 110, 99, 111, 100, 105, 110, 103]⟩] w fun e w' => ∃ x, e = .returned (.tuple #[x, .int .i64 (tokensF nTE t).2]) ∧ OwnS w.heap.size x (tokensF nTE t).1 w' ∧ Below w.heap.size w w') := fun w h tb => Tokens6_any v t nTE (by decide) hS w h tb
  have HTab : Hid (Tab w) := tab
  clear tab
  generalize str (findF nTE t).1 = FS at *
  have HR : Hid (RdF v t w) := hrd
  have hTl : (vals nTE t).length ≤ 1048576 := by have := sumV_filter nTE t; omega
  unfold codF
  obtain ⟨a, c, rfl, _⟩ := hrd
  clear hM
  generalize vals nTE t = T at *
  generalize (tokensF nTE t).1 = L at *
  generalize (tokensF nTE t).2 = z at *
  by_cases hT : T = []
  · rw [if_pos hT]
    rw [show decide (0 < T.length) = false by rw [hT]; rfl] at HF
    clear hT
    go_enter Tryz.func134, Tryz.ntmps134
    go_wp2_with fail
    refine HF.out.mono ?_
    rintro e w1 ⟨rfl, hb⟩
    have HB1 : Hid (Below w.heap.size w w1) := hb
    clear hb
    go_wp2
    refine bodyPost_ret (v := .tuple #[.slice none 0 0, .bool false, .int .i64 0]) (by simp [results, Tryz.results134, go_sem]) rfl ?_
    exact ⟨_, rfl, ownS_nil _ _, HB1.out⟩
  · rw [if_neg hT]
    rw [show decide (0 < T.length) = true from decide_eq_true (List.length_pos_iff.2 hT)] at HF
    clear hT
    by_cases hz : z = 0
    · subst hz
      rw [if_pos rfl]
      go_enter Tryz.func134, Tryz.ntmps134
      go_wp2_with fail
      refine HF.out.mono ?_
      rintro e w1 ⟨rfl, hb⟩
      have HB1 : Hid (Below w.heap.size w w1) := hb
      clear hb
      go_wp2_with fail
      refine (HT.out _ (HR.out.below HB1.out) (HTab.out.below HB1.out (Nat.le_refl _))).mono ?_
      rintro e w2 ⟨x, rfl, hx, hb⟩
      have HB2 : Hid (Below w.heap.size w w2) := bel_trans HB1.out hb
      have HX : Hid (OwnS w.heap.size x L w2) := hx.lower HB1.out.size
      obtain ⟨xa, xc, rfl⟩ := hx.form
      clear hb hx
      go_wp2
      refine bodyPost_ret (v := .tuple #[.slice xa L.length xc, .bool true, .int .i64 0]) (by simp [results, Tryz.results134, go_sem]) rfl ?_
      exact ⟨_, rfl, HX.out, HB2.out⟩
    · rw [if_neg hz]
      have hzq : (z != 0) = true := by simp [hz]
      go_enter Tryz.func134, Tryz.ntmps134
      go_wp2_with fail
      refine HF.out.mono ?_
      rintro e w1 ⟨rfl, hb⟩
      have HB1 : Hid (Below w.heap.size w w1) := hb
      clear hb
      go_wp2_with fail
      refine (HT.out _ (HR.out.below HB1.out) (HTab.out.below HB1.out (Nat.le_refl _))).mono ?_
      rintro e w2 ⟨x, rfl, hx, hb⟩
      have HB2 : Hid (Below w.heap.size w w2) := bel_trans HB1.out hb
      have HX : Hid (OwnS w.heap.size x L w2) := hx.lower HB1.out.size
      obtain ⟨xa, xc, rfl⟩ := hx.form
      clear hb hx
      go_wp2
      refine bodyPost_ret (v := .tuple #[.slice none 0 0, .bool false, .int .i64 67]) (by simp [results, Tryz.results134, go_sem]) rfl ?_
      exact ⟨_, rfl, ownS_nil _ _, HB2.out⟩
set_option maxRecDepth 100000 in
set_option maxHeartbeats 1000000 in
theorem rCodings_any (v : Value) (t : List Fl) (hS : sumF t ≤ 1048576) (w : World) (hrd : RdF v t w) :
    Calls Tryz.prog 29 #[v] w fun e w' => ∃ u, e = .returned (.tuple #[u, .bool (codF t).2.1, .int .i64 (codF t).2.2]) ∧ OwnS w.heap.size u (codF t).1 w' ∧ Below w.heap.size w w' := by
  have hlen := len_sumF t
  have hM := (each_sumF t).mono hS
  have HF : Hid (Calls Tryz.prog 67 #[v, .string ⟨#[84, 114, 97, 110, 115, 102, 101, 114, 45, 69, 110, 99, 111, 100, 105, 110, 103]⟩] w fun e w' => ∃ x, e = .returned x ∧ OwnS w.heap.size x (vals nTE t) w' ∧ Below w.heap.size w w') := rAll_any v t nTE (by decide) hM (by omega) w hrd
  have HT : Hid (∀ w, RdF v t w → Calls Tryz.prog 31 #[v, .string ⟨#[84, 114, 97, 110, 115, 102, 101, 114, 45, 69, 110, 99, 111, 100, 105, 110, 103]⟩] w fun e w' => ∃ x, e = .returned (.tuple #[x, .int .i64 (tokensF nTE t).2]) ∧ OwnS w.heap.size x (tokensF nTE t).1 w' ∧ Below w.heap.size w w') := fun w h => rTokens6_any v t nTE (by decide) hS w h
  have HR : Hid (RdF v t w) := hrd
  have hTl : (vals nTE t).length ≤ 1048576 := by have := sumV_filter nTE t; omega
  unfold codF
  obtain ⟨a, c, rfl, _⟩ := hrd
  clear hM
  generalize vals nTE t = T at *
  generalize (tokensF nTE t).1 = L at *
  generalize (tokensF nTE t).2 = z at *
  by_cases hT : T = []
  · rw [if_pos hT]
    subst hT
    go_enter Tryz.func29, Tryz.ntmps29
    go_wp2_with fail
    refine HF.out.mono ?_
    rintro e w1 ⟨y, rfl, hy, hb⟩
    have HB1 : Hid (Below w.heap.size w w1) := hb
    obtain ⟨ya, yc, rfl⟩ := hy.form
    clear hb hy
    go_wp2
    refine bodyPost_ret (v := .tuple #[.slice none 0 0, .bool false, .int .i64 0]) (by simp [results, Tryz.results29, go_sem]) rfl ?_
    exact ⟨_, rfl, ownS_nil _ _, HB1.out⟩
  · rw [if_neg hT]
    have hTp : ((T.length : Int) == 0) = false := by
      have := List.length_pos_iff.2 hT
      simp
      omega
    clear hT
    by_cases hz : z = 0
    · subst hz
      rw [if_pos rfl]
      go_enter Tryz.func29, Tryz.ntmps29
      go_wp2_with fail
      refine HF.out.mono ?_
      rintro e w1 ⟨y, rfl, hy, hb⟩
      have HB1 : Hid (Below w.heap.size w w1) := hb
      obtain ⟨ya, yc, rfl⟩ := hy.form
      clear hb hy
      go_wp2_with fail
      refine (HT.out _ (HR.out.below HB1.out)).mono ?_
      rintro e w2 ⟨x, rfl, hx, hb⟩
      have HB2 : Hid (Below w.heap.size w w2) := bel_trans HB1.out hb
      have HX : Hid (OwnS w.heap.size x L w2) := hx.lower HB1.out.size
      obtain ⟨xa, xc, rfl⟩ := hx.form
      clear hb hx
      go_wp2
      refine bodyPost_ret (v := .tuple #[.slice xa L.length xc, .bool true, .int .i64 0]) (by simp [results, Tryz.results29, go_sem]) rfl ?_
      exact ⟨_, rfl, HX.out, HB2.out⟩
    · rw [if_neg hz]
      have hzq : (z != 0) = true := by simp [hz]
      go_enter Tryz.func29, Tryz.ntmps29
      go_wp2_with fail
      refine HF.out.mono ?_
      rintro e w1 ⟨y, rfl, hy, hb⟩
      have HB1 : Hid (Below w.heap.size w w1) := hb
      obtain ⟨ya, yc, rfl⟩ := hy.form
      clear hb hy
      go_wp2_with fail
      refine (HT.out _ (HR.out.below HB1.out)).mono ?_
      rintro e w2 ⟨x, rfl, hx, hb⟩
      have HB2 : Hid (Below w.heap.size w w2) := bel_trans HB1.out hb
      have HX : Hid (OwnS w.heap.size x L w2) := hx.lower HB1.out.size
      obtain ⟨xa, xc, rfl⟩ := hx.form
      clear hb hx
      go_wp2
      refine bodyPost_ret (v := .tuple #[.slice none 0 0, .bool false, .int .i64 67]) (by simp [results, Tryz.results29, go_sem]) rfl ?_
      exact ⟨_, rfl, ownS_nil _ _, HB2.out⟩
set_option maxRecDepth 100000 in
set_option maxHeartbeats 1000000 in
theorem Equal_one (v : Value) (L : List (List UInt8)) (hl : L.length ≤ 1048576) (g : Nat) (k : List UInt8) (w : World) (h : RdS v L w) (hc : w.cell? ⟨g, 0, none⟩ = some (.string (str k))) :
    Calls Tryz.prog 136 #[v, .slice (some ⟨g, 0, none⟩) 1 1] w fun e w' => e = .returned (.bool (decide (L = [k]))) ∧ Below w.heap.size w w' := by
  obtain ⟨a, c, rfl, h⟩ := h
  by_cases h1 : L.length = 1
  · obtain ⟨x, rfl⟩ : ∃ x, L = [x] := by
      match L, h1 with
      | [x], _ => exact ⟨x, rfl⟩
    rcases h with h | ⟨g1, o1, rfl, hc1, hcell⟩
    · cases h
    have p0 := hcell 0 (by simp)
    rw [Nat.add_zero] at p0
    have p1 : w.cell? ⟨g1, o1, none⟩ = some (.string (str x)) := p0
    clear hcell p0 h1 hl
    by_cases he : x = k
    · have HE : Hid (decide ([x] = [k]) = true) := decide_eq_true (by rw [he])
      subst he
      generalize str x = X at *
      have hq : (X.toList != X.toList) = false := by simp
      go_enter Tryz.func136, Tryz.ntmps136
      go_wp2
      go_loopw [13] (fun i wr => ∃ j : Nat, j ≤ 1 ∧ i = .int .i64 j ∧ Hid (Below w.heap.size w wr)) (fun i _ => 1 - (intOf i).toNat)
      case atStart => exact ⟨0, Nat.zero_le _, rfl, Below.refl _ _⟩
      case round =>
        obtain ⟨j, hj, rfl, hbl⟩ := hrel
        by_cases hlt : j < 1
        · obtain rfl : j = 0 := by omega
          have q1 : wr.cell? ⟨g1, o1, none⟩ = some (.string X) := by rw [hbl.out.cell (World.block_lt_of_cell? w _ p1)]; exact p1
          have q2 : wr.cell? ⟨g, 0, none⟩ = some (.string X) := by rw [hbl.out.cell (World.block_lt_of_cell? w _ hc)]; exact hc
          go_wp2_with fail
          go_quiet (fail)
          go_wp2
          go_roundw
          case rel => exact ⟨1, by omega, by go_num, below_drewN hbl.out _⟩
          case measure => simp [intOf]
        · go_wp2
          go_ret
          exact ⟨ret_bool HE.out.symm, hbl.out⟩
    · have HE : Hid (decide ([x] = [k]) = false) := decide_eq_false (fun e => he (List.cons.inj e).1)
      have hq : ((str x).toList == (str k).toList) = false := by
        rw [eq_toList, decide_eq_false_iff_not]
        exact fun e => he (str_inj e)
      generalize str x = X at *
      generalize str k = K at *
      go_enter Tryz.func136, Tryz.ntmps136
      go_wp2
      go_loopw [13] (fun i wr => ∃ j : Nat, j = 0 ∧ i = .int .i64 j ∧ wr = w) (fun i _ => 1 - (intOf i).toNat)
      case atStart => exact ⟨0, rfl, rfl, rfl⟩
      case round =>
        obtain ⟨j, rfl, rfl, rfl⟩ := hrel
        go_wp2_with fail
        go_quiet (fail)
        go_wp2
        go_ret
        exact ⟨ret_bool HE.out.symm, below_drew _ _⟩
  · have HE : Hid (decide (L = [k]) = false) := decide_eq_false (fun e => h1 (by rw [e]; rfl))
    have hne : ((L.length : Int) != 1) = true := by simp; omega
    clear h h1
    go_enter Tryz.func136, Tryz.ntmps136
    go_wp2
    go_ret
    exact ⟨ret_bool HE.out.symm, Below.refl _ _⟩
end Fd
end Go.Proofs.YtdcfhnbagldilaaGreatDoor
set_option linter.unusedVariables false
set_option linter.unusedSimpArgs false
namespace Go.Proofs.YtdcfhnbagldilaaGreatDoor
open Go.RowKit Go.Shelf
namespace Fd
open Oc Tg
def frV (r : Int × Int × Int) : Value := .tuple #[.agg #[.int .i64 r.1, .int .i64 r.2.1], .int .i64 r.2.2]
def frV3 (r : Int × Int × Int) : Value := .tuple #[.int .i64 r.1, .int .i64 r.2.1, .int .i64 r.2.2]
set_option maxRecDepth 100000 in
set_option maxHeartbeats 2000000 in
theorem Framing_any (v : Value) (t : List Fl) (old : Bool) (hS : sumF t ≤ 1048576) (w : World) (hrd : RdF v t w) (tab : Tab w) :
    Calls Tryz.prog 119 #[v, .bool old] w fun e w' => e = .returned (frV (framingF t old)) ∧ Below w.heap.size w w' := by
  obtain ⟨w2, hw2⟩ : ∃ w2, w2 = w.alloc (.cells #[.int .i64 0, .int .i64 0] 29) := ⟨_, rfl⟩
  have R1 : w2.heap[w.heap.size]? = some (.cells #[.int .i64 0, .int .i64 0] 29 (0, 0)) := by
    rw [hw2]; exact heap_alloc_new w _
  have hb2 : Below w.heap.size w w2 := by rw [hw2]; exact (Below.refl _ w).alloc (Nat.le_refl _) _
  have hz2 : Hid (w2.heap.size = w.heap.size + 1) := by show _ = _; rw [hw2]; simp
  have HR1 : Hid (_) := R1
  have HB2 : Hid (Below w.heap.size w w2) := hb2
  have HR : Hid (RdF v t w2) := hrd.below hb2
  have HC : Hid (Calls _ _ _ _ _) := Codings_any v t hS w2 (hrd.below hb2) (tab.below hb2 (Nat.le_refl _))
  have HL : Hid (∀ w, RdF v t w → Calls Tryz.prog 135 #[v] w fun e w' => e = .returned (.tuple #[.int .i64 (lengthF t).1, .bool (lengthF t).2.1, .int .i64 (lengthF t).2.2]) ∧ Below w.heap.size w w') := fun w h => Length_any v t hS w h
  have hcl := cod_len hS
  unfold framingF
  obtain ⟨a, c, rfl, _⟩ := hrd
  clear R1 hb2 tab
  generalize (codF t).1 = cl at *
  generalize (codF t).2.1 = coded at *
  generalize (codF t).2.2 = ce at *
  generalize (lengthF t).1 = n at *
  generalize (lengthF t).2.1 = sized at *
  generalize (lengthF t).2.2 = le at *
  unfold frame
  by_cases hce : ce = 0
  · subst hce
    rw [if_neg (by simp)]
    cases coded with
    | true =>
      rw [if_pos rfl]
      cases old with
      | true =>
        rw [if_pos rfl]
        go_enter Tryz.func119, Tryz.ntmps119
        go_wp2_with fail
        rw [← hw2]
        clear hw2
        refine HC.out.mono ?_
        rintro e w3 ⟨u, rfl, hu, hb⟩
        have HB3 : Hid (Below w2.heap.size w2 w3) := hb
        have HU3 : Hid (RdS u cl w3) := hu.rd
        clear hb hu
        go_wp2_with fail
        refine (HL.out _ (HR.out.below HB3.out)).mono ?_
        rintro e w4 ⟨rfl, hb⟩
        have HB4 : Hid (Below w2.heap.size w2 w4) := bel_trans HB3.out hb
        have HU4 : Hid (RdS u cl w4) := HU3.out.below hb
        clear hb
        have R1 := (HB4.out.block _ (show w.heap.size < _ by have := hz2.out; omega)).trans HR1.out
        have c0 := Lib.cell_of_heap R1 0
        have c1 := Lib.cell_of_heap R1 1
        have fc0 := Lib.frozen_of_heap R1 0
        have fc1 := Lib.frozen_of_heap R1 1
        simp at c0 c1
        clear R1
        go_wp2
        refine bodyPost_ret (v := .tuple #[.agg #[.int .i64 0, .int .i64 0], .int .i64 67]) (by simp [results, Tryz.results119, go_sem, c0, c1]) rfl ?_
        exact ⟨rfl, (Below.setCell (p := ⟨w.heap.size, 1, none⟩) (Below.setCell (p := ⟨w.heap.size, 0, none⟩) (HB2.out.trans (HB4.out.mono (by have := hz2.out; omega))) (by simp) _) (by simp) _)⟩
      | false =>
        rw [if_neg (by simp)]
        by_cases hch : cl = [chk]
        · rw [if_pos hch]
          by_cases hle : le = 0
          · subst hle
            rw [if_neg (by simp)]
            cases sized with
            | true =>
              rw [if_pos rfl]
              go_enter Tryz.func119, Tryz.ntmps119
              go_wp2_with fail
              rw [← hw2]
              clear hw2
              refine HC.out.mono ?_
              rintro e w3 ⟨u, rfl, hu, hb⟩
              have HB3 : Hid (Below w2.heap.size w2 w3) := hb
              have HU3 : Hid (RdS u cl w3) := hu.rd
              clear hb hu
              go_wp2_with fail
              refine (HL.out _ (HR.out.below HB3.out)).mono ?_
              rintro e w4 ⟨rfl, hb⟩
              have HB4 : Hid (Below w2.heap.size w2 w4) := bel_trans HB3.out hb
              have HU4 : Hid (RdS u cl w4) := HU3.out.below hb
              clear hb
              have hb5 : Below w4.heap.size w4 (w4.alloc (.cells #[.string ⟨#[99, 104, 117, 110, 107, 101, 100]⟩] 9)) := (Below.refl _ w4).alloc (Nat.le_refl _) _
              have HB5 : Hid (Below w2.heap.size w2 (w4.alloc (.cells #[.string ⟨#[99, 104, 117, 110, 107, 101, 100]⟩] 9))) := bel_trans HB4.out hb5
              have HEq : Hid (Calls _ _ _ _ _) := Equal_one u cl hcl w4.heap.size chk (w4.alloc (.cells #[.string ⟨#[99, 104, 117, 110, 107, 101, 100]⟩] 9)) (HU4.out.below hb5) (by simp; rfl)
              clear hb5
              rw [decide_eq_true hch] at HEq
              go_wp2_with fail
              refine HEq.out.mono ?_
              rintro e w6 ⟨rfl, hb⟩
              have HB6 : Hid (Below w2.heap.size w2 w6) := bel_trans HB5.out hb
              clear hb
              have R1 := (HB6.out.block _ (show w.heap.size < _ by have := hz2.out; omega)).trans HR1.out
              have c0 := Lib.cell_of_heap R1 0
              have c1 := Lib.cell_of_heap R1 1
              have fc0 := Lib.frozen_of_heap R1 0
              have fc1 := Lib.frozen_of_heap R1 1
              simp at c0 c1
              clear R1
              go_wp2
              refine bodyPost_ret (v := .tuple #[.agg #[.int .i64 0, .int .i64 0], .int .i64 68]) (by simp [results, Tryz.results119, go_sem, c0, c1]) rfl ?_
              exact ⟨rfl, (Below.setCell (p := ⟨w.heap.size, 1, none⟩) (Below.setCell (p := ⟨w.heap.size, 0, none⟩) (HB2.out.trans (HB6.out.mono (by have := hz2.out; omega))) (by simp) _) (by simp) _)⟩
            | false =>
              rw [if_neg (by simp)]
              go_enter Tryz.func119, Tryz.ntmps119
              go_wp2_with fail
              rw [← hw2]
              clear hw2
              refine HC.out.mono ?_
              rintro e w3 ⟨u, rfl, hu, hb⟩
              have HB3 : Hid (Below w2.heap.size w2 w3) := hb
              have HU3 : Hid (RdS u cl w3) := hu.rd
              clear hb hu
              go_wp2_with fail
              refine (HL.out _ (HR.out.below HB3.out)).mono ?_
              rintro e w4 ⟨rfl, hb⟩
              have HB4 : Hid (Below w2.heap.size w2 w4) := bel_trans HB3.out hb
              have HU4 : Hid (RdS u cl w4) := HU3.out.below hb
              clear hb
              have hb5 : Below w4.heap.size w4 (w4.alloc (.cells #[.string ⟨#[99, 104, 117, 110, 107, 101, 100]⟩] 9)) := (Below.refl _ w4).alloc (Nat.le_refl _) _
              have HB5 : Hid (Below w2.heap.size w2 (w4.alloc (.cells #[.string ⟨#[99, 104, 117, 110, 107, 101, 100]⟩] 9))) := bel_trans HB4.out hb5
              have HEq : Hid (Calls _ _ _ _ _) := Equal_one u cl hcl w4.heap.size chk (w4.alloc (.cells #[.string ⟨#[99, 104, 117, 110, 107, 101, 100]⟩] 9)) (HU4.out.below hb5) (by simp; rfl)
              clear hb5
              rw [decide_eq_true hch] at HEq
              go_wp2_with fail
              refine HEq.out.mono ?_
              rintro e w6 ⟨rfl, hb⟩
              have HB6 : Hid (Below w2.heap.size w2 w6) := bel_trans HB5.out hb
              clear hb
              have R1 := (HB6.out.block _ (show w.heap.size < _ by have := hz2.out; omega)).trans HR1.out
              have c0 := Lib.cell_of_heap R1 0
              have c1 := Lib.cell_of_heap R1 1
              have fc0 := Lib.frozen_of_heap R1 0
              have fc1 := Lib.frozen_of_heap R1 1
              simp at c0 c1
              clear R1
              go_wp2
              refine bodyPost_ret (v := .tuple #[.agg #[.int .i64 2, .int .i64 0], .int .i64 0]) (by simp [results, Tryz.results119, go_sem, c0, c1]) rfl ?_
              exact ⟨rfl, (Below.setCell (p := ⟨w.heap.size, 1, none⟩) (Below.setCell (p := ⟨w.heap.size, 0, none⟩) (HB2.out.trans (HB6.out.mono (by have := hz2.out; omega))) (by simp) _) (by simp) _)⟩
          · rw [if_pos hle]
            have hlq : (le != 0) = true := by simp [hle]
            go_enter Tryz.func119, Tryz.ntmps119
            go_wp2_with fail
            rw [← hw2]
            clear hw2
            refine HC.out.mono ?_
            rintro e w3 ⟨u, rfl, hu, hb⟩
            have HB3 : Hid (Below w2.heap.size w2 w3) := hb
            have HU3 : Hid (RdS u cl w3) := hu.rd
            clear hb hu
            go_wp2_with fail
            refine (HL.out _ (HR.out.below HB3.out)).mono ?_
            rintro e w4 ⟨rfl, hb⟩
            have HB4 : Hid (Below w2.heap.size w2 w4) := bel_trans HB3.out hb
            have HU4 : Hid (RdS u cl w4) := HU3.out.below hb
            clear hb
            have hb5 : Below w4.heap.size w4 (w4.alloc (.cells #[.string ⟨#[99, 104, 117, 110, 107, 101, 100]⟩] 9)) := (Below.refl _ w4).alloc (Nat.le_refl _) _
            have HB5 : Hid (Below w2.heap.size w2 (w4.alloc (.cells #[.string ⟨#[99, 104, 117, 110, 107, 101, 100]⟩] 9))) := bel_trans HB4.out hb5
            have HEq : Hid (Calls _ _ _ _ _) := Equal_one u cl hcl w4.heap.size chk (w4.alloc (.cells #[.string ⟨#[99, 104, 117, 110, 107, 101, 100]⟩] 9)) (HU4.out.below hb5) (by simp; rfl)
            clear hb5
            rw [decide_eq_true hch] at HEq
            go_wp2_with fail
            refine HEq.out.mono ?_
            rintro e w6 ⟨rfl, hb⟩
            have HB6 : Hid (Below w2.heap.size w2 w6) := bel_trans HB5.out hb
            clear hb
            have R1 := (HB6.out.block _ (show w.heap.size < _ by have := hz2.out; omega)).trans HR1.out
            have c0 := Lib.cell_of_heap R1 0
            have c1 := Lib.cell_of_heap R1 1
            have fc0 := Lib.frozen_of_heap R1 0
            have fc1 := Lib.frozen_of_heap R1 1
            simp at c0 c1
            clear R1
            go_wp2
            refine bodyPost_ret (v := .tuple #[.agg #[.int .i64 0, .int .i64 0], .int .i64 66]) (by simp [results, Tryz.results119, go_sem, c0, c1]) rfl ?_
            exact ⟨rfl, (Below.setCell (p := ⟨w.heap.size, 1, none⟩) (Below.setCell (p := ⟨w.heap.size, 0, none⟩) (HB2.out.trans (HB6.out.mono (by have := hz2.out; omega))) (by simp) _) (by simp) _)⟩
        · rw [if_neg hch]
          go_enter Tryz.func119, Tryz.ntmps119
          go_wp2_with fail
          rw [← hw2]
          clear hw2
          refine HC.out.mono ?_
          rintro e w3 ⟨u, rfl, hu, hb⟩
          have HB3 : Hid (Below w2.heap.size w2 w3) := hb
          have HU3 : Hid (RdS u cl w3) := hu.rd
          clear hb hu
          go_wp2_with fail
          refine (HL.out _ (HR.out.below HB3.out)).mono ?_
          rintro e w4 ⟨rfl, hb⟩
          have HB4 : Hid (Below w2.heap.size w2 w4) := bel_trans HB3.out hb
          have HU4 : Hid (RdS u cl w4) := HU3.out.below hb
          clear hb
          have hb5 : Below w4.heap.size w4 (w4.alloc (.cells #[.string ⟨#[99, 104, 117, 110, 107, 101, 100]⟩] 9)) := (Below.refl _ w4).alloc (Nat.le_refl _) _
          have HB5 : Hid (Below w2.heap.size w2 (w4.alloc (.cells #[.string ⟨#[99, 104, 117, 110, 107, 101, 100]⟩] 9))) := bel_trans HB4.out hb5
          have HEq : Hid (Calls _ _ _ _ _) := Equal_one u cl hcl w4.heap.size chk (w4.alloc (.cells #[.string ⟨#[99, 104, 117, 110, 107, 101, 100]⟩] 9)) (HU4.out.below hb5) (by simp; rfl)
          clear hb5
          rw [decide_eq_false hch] at HEq
          go_wp2_with fail
          refine HEq.out.mono ?_
          rintro e w6 ⟨rfl, hb⟩
          have HB6 : Hid (Below w2.heap.size w2 w6) := bel_trans HB5.out hb
          clear hb
          have R1 := (HB6.out.block _ (show w.heap.size < _ by have := hz2.out; omega)).trans HR1.out
          have c0 := Lib.cell_of_heap R1 0
          have c1 := Lib.cell_of_heap R1 1
          have fc0 := Lib.frozen_of_heap R1 0
          have fc1 := Lib.frozen_of_heap R1 1
          simp at c0 c1
          clear R1
          go_wp2
          refine bodyPost_ret (v := .tuple #[.agg #[.int .i64 0, .int .i64 0], .int .i64 67]) (by simp [results, Tryz.results119, go_sem, c0, c1]) rfl ?_
          exact ⟨rfl, (Below.setCell (p := ⟨w.heap.size, 1, none⟩) (Below.setCell (p := ⟨w.heap.size, 0, none⟩) (HB2.out.trans (HB6.out.mono (by have := hz2.out; omega))) (by simp) _) (by simp) _)⟩
    | false =>
      rw [if_neg (by simp)]
      by_cases hle : le = 0
      · subst hle
        rw [if_neg (by simp)]
        cases sized with
        | true =>
          rw [if_pos rfl]
          go_enter Tryz.func119, Tryz.ntmps119
          go_wp2_with fail
          rw [← hw2]
          clear hw2
          refine HC.out.mono ?_
          rintro e w3 ⟨u, rfl, hu, hb⟩
          have HB3 : Hid (Below w2.heap.size w2 w3) := hb
          have HU3 : Hid (RdS u cl w3) := hu.rd
          clear hb hu
          go_wp2_with fail
          refine (HL.out _ (HR.out.below HB3.out)).mono ?_
          rintro e w4 ⟨rfl, hb⟩
          have HB4 : Hid (Below w2.heap.size w2 w4) := bel_trans HB3.out hb
          have HU4 : Hid (RdS u cl w4) := HU3.out.below hb
          clear hb
          have R1 := (HB4.out.block _ (show w.heap.size < _ by have := hz2.out; omega)).trans HR1.out
          have c0 := Lib.cell_of_heap R1 0
          have c1 := Lib.cell_of_heap R1 1
          have fc0 := Lib.frozen_of_heap R1 0
          have fc1 := Lib.frozen_of_heap R1 1
          simp at c0 c1
          clear R1
          go_wp2
          refine bodyPost_ret (v := .tuple #[.agg #[.int .i64 1, .int .i64 n], .int .i64 0]) (by simp [results, Tryz.results119, go_sem, c0, c1]) rfl ?_
          exact ⟨rfl, (Below.setCell (p := ⟨w.heap.size, 1, none⟩) (Below.setCell (p := ⟨w.heap.size, 0, none⟩) (HB2.out.trans (HB4.out.mono (by have := hz2.out; omega))) (by simp) _) (by simp) _)⟩
        | false =>
          rw [if_neg (by simp)]
          go_enter Tryz.func119, Tryz.ntmps119
          go_wp2_with fail
          rw [← hw2]
          clear hw2
          refine HC.out.mono ?_
          rintro e w3 ⟨u, rfl, hu, hb⟩
          have HB3 : Hid (Below w2.heap.size w2 w3) := hb
          have HU3 : Hid (RdS u cl w3) := hu.rd
          clear hb hu
          go_wp2_with fail
          refine (HL.out _ (HR.out.below HB3.out)).mono ?_
          rintro e w4 ⟨rfl, hb⟩
          have HB4 : Hid (Below w2.heap.size w2 w4) := bel_trans HB3.out hb
          have HU4 : Hid (RdS u cl w4) := HU3.out.below hb
          clear hb
          have R1 := (HB4.out.block _ (show w.heap.size < _ by have := hz2.out; omega)).trans HR1.out
          have c0 := Lib.cell_of_heap R1 0
          have c1 := Lib.cell_of_heap R1 1
          have fc0 := Lib.frozen_of_heap R1 0
          have fc1 := Lib.frozen_of_heap R1 1
          simp at c0 c1
          clear R1
          go_wp2
          refine bodyPost_ret (v := .tuple #[.agg #[.int .i64 0, .int .i64 0], .int .i64 0]) (by simp [results, Tryz.results119, go_sem, c0, c1]) rfl ?_
          exact ⟨rfl, (Below.setCell (p := ⟨w.heap.size, 1, none⟩) (Below.setCell (p := ⟨w.heap.size, 0, none⟩) (HB2.out.trans (HB4.out.mono (by have := hz2.out; omega))) (by simp) _) (by simp) _)⟩
      · rw [if_pos hle]
        have hlq : (le != 0) = true := by simp [hle]
        go_enter Tryz.func119, Tryz.ntmps119
        go_wp2_with fail
        rw [← hw2]
        clear hw2
        refine HC.out.mono ?_
        rintro e w3 ⟨u, rfl, hu, hb⟩
        have HB3 : Hid (Below w2.heap.size w2 w3) := hb
        have HU3 : Hid (RdS u cl w3) := hu.rd
        clear hb hu
        go_wp2_with fail
        refine (HL.out _ (HR.out.below HB3.out)).mono ?_
        rintro e w4 ⟨rfl, hb⟩
        have HB4 : Hid (Below w2.heap.size w2 w4) := bel_trans HB3.out hb
        have HU4 : Hid (RdS u cl w4) := HU3.out.below hb
        clear hb
        have R1 := (HB4.out.block _ (show w.heap.size < _ by have := hz2.out; omega)).trans HR1.out
        have c0 := Lib.cell_of_heap R1 0
        have c1 := Lib.cell_of_heap R1 1
        have fc0 := Lib.frozen_of_heap R1 0
        have fc1 := Lib.frozen_of_heap R1 1
        simp at c0 c1
        clear R1
        go_wp2
        refine bodyPost_ret (v := .tuple #[.agg #[.int .i64 0, .int .i64 0], .int .i64 66]) (by simp [results, Tryz.results119, go_sem, c0, c1]) rfl ?_
        exact ⟨rfl, (Below.setCell (p := ⟨w.heap.size, 1, none⟩) (Below.setCell (p := ⟨w.heap.size, 0, none⟩) (HB2.out.trans (HB4.out.mono (by have := hz2.out; omega))) (by simp) _) (by simp) _)⟩
  · rw [if_pos hce]
    have hcq : (ce != 0) = true := by simp [hce]
    go_enter Tryz.func119, Tryz.ntmps119
    go_wp2_with fail
    rw [← hw2]
    clear hw2
    refine HC.out.mono ?_
    rintro e w3 ⟨u, rfl, hu, hb⟩
    have HB3 : Hid (Below w2.heap.size w2 w3) := hb
    have HU3 : Hid (RdS u cl w3) := hu.rd
    clear hb hu
    go_wp2_with fail
    refine (HL.out _ (HR.out.below HB3.out)).mono ?_
    rintro e w4 ⟨rfl, hb⟩
    have HB4 : Hid (Below w2.heap.size w2 w4) := bel_trans HB3.out hb
    have HU4 : Hid (RdS u cl w4) := HU3.out.below hb
    clear hb
    have R1 := (HB4.out.block _ (show w.heap.size < _ by have := hz2.out; omega)).trans HR1.out
    have c0 := Lib.cell_of_heap R1 0
    have c1 := Lib.cell_of_heap R1 1
    have fc0 := Lib.frozen_of_heap R1 0
    have fc1 := Lib.frozen_of_heap R1 1
    simp at c0 c1
    clear R1
    go_wp2
    refine bodyPost_ret (v := .tuple #[.agg #[.int .i64 0, .int .i64 0], .int .i64 67]) (by simp [results, Tryz.results119, go_sem, c0, c1]) rfl ?_
    exact ⟨rfl, (Below.setCell (p := ⟨w.heap.size, 1, none⟩) (Below.setCell (p := ⟨w.heap.size, 0, none⟩) (HB2.out.trans (HB4.out.mono (by have := hz2.out; omega))) (by simp) _) (by simp) _)⟩
set_option maxRecDepth 100000 in
set_option maxHeartbeats 2000000 in
theorem rFraming_any (v : Value) (t : List Fl) (old : Bool) (hS : sumF t ≤ 1048576) (w : World) (hrd : RdF v t w) :
    Calls Tryz.prog 15 #[v, .bool old] w fun e w' => e = .returned (frV3 (framingF t old)) ∧ Below w.heap.size w w' := by
  have HR : Hid (RdF v t w) := hrd
  have HC : Hid (Calls _ _ _ _ _) := rCodings_any v t hS w hrd
  have HL : Hid (∀ w, RdF v t w → Calls Tryz.prog 30 #[v] w fun e w' => e = .returned (.tuple #[.int .i64 (lengthF t).1, .bool (lengthF t).2.1, .int .i64 (lengthF t).2.2]) ∧ Below w.heap.size w w') := fun w h => rLength_any v t hS w h
  have HLe : Hid (_ ∨ _) := len_err t
  have hcl := cod_len hS
  unfold framingF
  obtain ⟨a, c, rfl, _⟩ := hrd
  generalize (codF t).1 = cl at *
  generalize (codF t).2.1 = coded at *
  generalize (codF t).2.2 = ce at *
  generalize (lengthF t).1 = n at *
  generalize (lengthF t).2.1 = sized at *
  generalize (lengthF t).2.2 = le at *
  unfold frame
  by_cases hce : ce = 0
  · subst hce
    rw [if_neg (by simp)]
    cases coded with
    | true =>
      rw [if_pos rfl]
      cases old with
      | true =>
        rw [if_pos rfl]
        go_enter Tryz.func15, Tryz.ntmps15
        go_wp2_with fail
        refine HC.out.mono ?_
        rintro e w3 ⟨u, rfl, hu, hb⟩
        have HB3 : Hid (Below w.heap.size w w3) := hb
        have HU3 : Hid (RdS u cl w3) := hu.rd
        obtain ⟨ua, uc, rfl⟩ := hu.form
        clear hb hu
        go_wp2
        refine bodyPost_ret (v := .tuple #[.int .i64 0, .int .i64 0, .int .i64 67]) (by simp [results, Tryz.results15, go_sem]) rfl ?_
        exact ⟨rfl, HB3.out⟩
      | false =>
        rw [if_neg (by simp)]
        by_cases hch : cl = [chk]
        · rw [if_pos hch]
          by_cases hle : le = 0
          · subst hle
            rw [if_neg (by simp)]
            cases sized with
            | true =>
              rw [if_pos rfl]
              go_enter Tryz.func15, Tryz.ntmps15
              go_wp2_with fail
              refine HC.out.mono ?_
              rintro e w3 ⟨u, rfl, hu, hb⟩
              have HB3 : Hid (Below w.heap.size w w3) := hb
              have HU3 : Hid (RdS u cl w3) := hu.rd
              obtain ⟨ua, uc, rfl⟩ := hu.form
              clear hb hu
              subst hch
              obtain ⟨a', c', e', hcs⟩ := HU3.out
              injection e' with e1 _ e2
              subst e1 e2
              rcases hcs with h | ⟨g, o, rfl, hlc, hcell⟩
              · cases h
              have p0 := hcell 0 (by simp)
              rw [Nat.add_zero] at p0
              have p1 : w3.cell? ⟨g, o, none⟩ = some (.string ⟨#[99, 104, 117, 110, 107, 101, 100]⟩) := p0
              clear hcell p0
              go_wp2_with fail
              refine (HL.out _ (HR.out.below HB3.out)).mono ?_
              rintro e w4 ⟨rfl, hb⟩
              have HB4 : Hid (Below w.heap.size w w4) := bel_trans HB3.out hb
              clear hb
              go_wp2
              refine bodyPost_ret (v := .tuple #[.int .i64 0, .int .i64 0, .int .i64 68]) (by simp [results, Tryz.results15, go_sem]) rfl ?_
              exact ⟨rfl, HB4.out⟩
            | false =>
              rw [if_neg (by simp)]
              go_enter Tryz.func15, Tryz.ntmps15
              go_wp2_with fail
              refine HC.out.mono ?_
              rintro e w3 ⟨u, rfl, hu, hb⟩
              have HB3 : Hid (Below w.heap.size w w3) := hb
              have HU3 : Hid (RdS u cl w3) := hu.rd
              obtain ⟨ua, uc, rfl⟩ := hu.form
              clear hb hu
              subst hch
              obtain ⟨a', c', e', hcs⟩ := HU3.out
              injection e' with e1 _ e2
              subst e1 e2
              rcases hcs with h | ⟨g, o, rfl, hlc, hcell⟩
              · cases h
              have p0 := hcell 0 (by simp)
              rw [Nat.add_zero] at p0
              have p1 : w3.cell? ⟨g, o, none⟩ = some (.string ⟨#[99, 104, 117, 110, 107, 101, 100]⟩) := p0
              clear hcell p0
              go_wp2_with fail
              refine (HL.out _ (HR.out.below HB3.out)).mono ?_
              rintro e w4 ⟨rfl, hb⟩
              have HB4 : Hid (Below w.heap.size w w4) := bel_trans HB3.out hb
              clear hb
              go_wp2
              refine bodyPost_ret (v := .tuple #[.int .i64 2, .int .i64 0, .int .i64 0]) (by simp [results, Tryz.results15, go_sem]) rfl ?_
              exact ⟨rfl, HB4.out⟩
          · rw [if_pos hle]
            have hlq : (le != 0) = true := by simp [hle]
            have hle6 : le = 66 := HLe.out.resolve_left hle
            subst hle6
            go_enter Tryz.func15, Tryz.ntmps15
            go_wp2_with fail
            refine HC.out.mono ?_
            rintro e w3 ⟨u, rfl, hu, hb⟩
            have HB3 : Hid (Below w.heap.size w w3) := hb
            have HU3 : Hid (RdS u cl w3) := hu.rd
            obtain ⟨ua, uc, rfl⟩ := hu.form
            clear hb hu
            subst hch
            obtain ⟨a', c', e', hcs⟩ := HU3.out
            injection e' with e1 _ e2
            subst e1 e2
            rcases hcs with h | ⟨g, o, rfl, hlc, hcell⟩
            · cases h
            have p0 := hcell 0 (by simp)
            rw [Nat.add_zero] at p0
            have p1 : w3.cell? ⟨g, o, none⟩ = some (.string ⟨#[99, 104, 117, 110, 107, 101, 100]⟩) := p0
            clear hcell p0
            go_wp2_with fail
            refine (HL.out _ (HR.out.below HB3.out)).mono ?_
            rintro e w4 ⟨rfl, hb⟩
            have HB4 : Hid (Below w.heap.size w w4) := bel_trans HB3.out hb
            clear hb
            go_wp2
            refine bodyPost_ret (v := .tuple #[.int .i64 0, .int .i64 0, .int .i64 66]) (by simp [results, Tryz.results15, go_sem]) rfl ?_
            exact ⟨rfl, HB4.out⟩
        · rw [if_neg hch]
          by_cases h1 : cl.length = 1
          · obtain ⟨x, rfl⟩ : ∃ x, cl = [x] := by
              match cl, h1 with
              | [x], _ => exact ⟨x, rfl⟩
            have hq : ((str x).toList == (⟨#[99, 104, 117, 110, 107, 101, 100]⟩ : ByteArray).toList) = false := by
              rw [eq_toList, decide_eq_false_iff_not]
              exact fun e => hch (by rw [str_inj (b := chk) e])
            rw [show (⟨#[99, 104, 117, 110, 107, 101, 100]⟩ : ByteArray).toList = [99, 104, 117, 110, 107, 101, 100] by rw [ByteArray.toList_eq]] at hq
            clear h1 hch
            go_enter Tryz.func15, Tryz.ntmps15
            go_wp2_with fail
            refine HC.out.mono ?_
            rintro e w3 ⟨u, rfl, hu, hb⟩
            have HB3 : Hid (Below w.heap.size w w3) := hb
            have HU3 : Hid (RdS u [x] w3) := hu.rd
            obtain ⟨ua, uc, rfl⟩ := hu.form
            clear hb hu
            obtain ⟨a', c', e', hcs⟩ := HU3.out
            injection e' with e1 _ e2
            subst e1 e2
            rcases hcs with h | ⟨g, o, rfl, hlc, hcell⟩
            · cases h
            have p0 := hcell 0 (by simp)
            rw [Nat.add_zero] at p0
            have p1 : w3.cell? ⟨g, o, none⟩ = some (.string (str x)) := p0
            clear hcell p0
            generalize str x = X at *
            go_wp2
            refine bodyPost_ret (v := .tuple #[.int .i64 0, .int .i64 0, .int .i64 67]) (by simp [results, Tryz.results15, go_sem]) rfl ?_
            exact ⟨rfl, HB3.out⟩
          · have hne : ((cl.length : Int) != 1) = true := by simp; omega
            clear hch h1
            go_enter Tryz.func15, Tryz.ntmps15
            go_wp2_with fail
            refine HC.out.mono ?_
            rintro e w3 ⟨u, rfl, hu, hb⟩
            have HB3 : Hid (Below w.heap.size w w3) := hb
            have HU3 : Hid (RdS u cl w3) := hu.rd
            obtain ⟨ua, uc, rfl⟩ := hu.form
            clear hb hu
            go_wp2
            refine bodyPost_ret (v := .tuple #[.int .i64 0, .int .i64 0, .int .i64 67]) (by simp [results, Tryz.results15, go_sem]) rfl ?_
            exact ⟨rfl, HB3.out⟩
    | false =>
      rw [if_neg (by simp)]
      by_cases hle : le = 0
      · subst hle
        rw [if_neg (by simp)]
        cases sized with
        | true =>
          rw [if_pos rfl]
          go_enter Tryz.func15, Tryz.ntmps15
          go_wp2_with fail
          refine HC.out.mono ?_
          rintro e w3 ⟨u, rfl, hu, hb⟩
          have HB3 : Hid (Below w.heap.size w w3) := hb
          have HU3 : Hid (RdS u cl w3) := hu.rd
          obtain ⟨ua, uc, rfl⟩ := hu.form
          clear hb hu
          go_wp2_with fail
          refine (HL.out _ (HR.out.below HB3.out)).mono ?_
          rintro e w4 ⟨rfl, hb⟩
          have HB4 : Hid (Below w.heap.size w w4) := bel_trans HB3.out hb
          clear hb
          go_wp2
          refine bodyPost_ret (v := .tuple #[.int .i64 1, .int .i64 n, .int .i64 0]) (by simp [results, Tryz.results15, go_sem]) rfl ?_
          exact ⟨rfl, HB4.out⟩
        | false =>
          rw [if_neg (by simp)]
          go_enter Tryz.func15, Tryz.ntmps15
          go_wp2_with fail
          refine HC.out.mono ?_
          rintro e w3 ⟨u, rfl, hu, hb⟩
          have HB3 : Hid (Below w.heap.size w w3) := hb
          have HU3 : Hid (RdS u cl w3) := hu.rd
          obtain ⟨ua, uc, rfl⟩ := hu.form
          clear hb hu
          go_wp2_with fail
          refine (HL.out _ (HR.out.below HB3.out)).mono ?_
          rintro e w4 ⟨rfl, hb⟩
          have HB4 : Hid (Below w.heap.size w w4) := bel_trans HB3.out hb
          clear hb
          go_wp2
          refine bodyPost_ret (v := .tuple #[.int .i64 0, .int .i64 0, .int .i64 0]) (by simp [results, Tryz.results15, go_sem]) rfl ?_
          exact ⟨rfl, HB4.out⟩
      · rw [if_pos hle]
        have hlq : (le != 0) = true := by simp [hle]
        have hle6 : le = 66 := HLe.out.resolve_left hle
        subst hle6
        go_enter Tryz.func15, Tryz.ntmps15
        go_wp2_with fail
        refine HC.out.mono ?_
        rintro e w3 ⟨u, rfl, hu, hb⟩
        have HB3 : Hid (Below w.heap.size w w3) := hb
        have HU3 : Hid (RdS u cl w3) := hu.rd
        obtain ⟨ua, uc, rfl⟩ := hu.form
        clear hb hu
        go_wp2_with fail
        refine (HL.out _ (HR.out.below HB3.out)).mono ?_
        rintro e w4 ⟨rfl, hb⟩
        have HB4 : Hid (Below w.heap.size w w4) := bel_trans HB3.out hb
        clear hb
        go_wp2
        refine bodyPost_ret (v := .tuple #[.int .i64 0, .int .i64 0, .int .i64 66]) (by simp [results, Tryz.results15, go_sem]) rfl ?_
        exact ⟨rfl, HB4.out⟩
  · rw [if_pos hce]
    have hcq : (ce != 0) = true := by simp [hce]
    go_enter Tryz.func15, Tryz.ntmps15
    go_wp2_with fail
    refine HC.out.mono ?_
    rintro e w3 ⟨u, rfl, hu, hb⟩
    have HB3 : Hid (Below w.heap.size w w3) := hb
    have HU3 : Hid (RdS u cl w3) := hu.rd
    obtain ⟨ua, uc, rfl⟩ := hu.form
    clear hb hu
    go_wp2
    refine bodyPost_ret (v := .tuple #[.int .i64 0, .int .i64 0, .int .i64 67]) (by simp [results, Tryz.results15, go_sem]) rfl ?_
    exact ⟨rfl, HB3.out⟩
end Fd
end Go.Proofs.YtdcfhnbagldilaaGreatDoor
