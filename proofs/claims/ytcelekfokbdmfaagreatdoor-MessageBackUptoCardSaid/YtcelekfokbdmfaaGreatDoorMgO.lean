import Derived.Test.YtcelekfokbdmfaaGreatDoorMgN
import Derived.Lib.SlicesS
import Derived.Deep.QuietTactic
set_option linter.unusedVariables false
set_option linter.unusedSimpArgs false
namespace Go.Proofs.YtcelekfokbdmfaaGreatDoor
open Go.RowKit Go.Shelf
namespace Fd
open Oc Tg
theorem contains_eq (L : List (List UInt8)) (x : List UInt8) : Lib.containsS (L.map str) (str x) = inL L x := by
  rw [Bool.eq_iff_iff, Lib.containsS_iff]
  unfold inL
  rw [List.contains_iff_mem]
  constructor
  · intro h
    obtain ⟨y, hy, e⟩ := List.mem_map.1 h
    rw [← str_inj e]
    exact hy
  · intro h
    exact List.mem_map.2 ⟨x, h, rfl⟩
set_option maxRecDepth 100000 in
set_option maxHeartbeats 1000000 in
theorem contains_nil (a : Option Addr) (c : Nat) (x : ByteArray) (w : World) :
    Calls Tryz.prog 173 #[.slice a 0 c, .string x] w fun e w' => e = .returned (.bool false) ∧ w' = w := by
  have HI : Hid (∀ w, Calls Tryz.prog 195 #[.slice a 0 c, .string x] w fun e w' => e = .returned (.int .i64 (-1)) ∧ w' = w) := fun w => by
    go_enter Tryz.func195, Tryz.ntmps195
    go_wp2
    refine wp_loop_rounds 1 ?_
    rw [rounds_succ]
    go_wp2
    go_ret
    exact ⟨rfl, rfl⟩
  go_enter Tryz.func173, Tryz.ntmps173
  go_wp2_with fail
  refine (HI.out _).mono ?_
  rintro e w2 ⟨rfl, rfl⟩
  go_wp2
  go_ret
  exact ⟨rfl, rfl⟩
theorem Contains_any (v : Value) (L : List (List UInt8)) (x : List UInt8) (hl : L.length ≤ 1048576) (w : World) (h : RdS v L w) :
    Calls Tryz.prog 173 #[v, .string (str x)] w fun e w' => e = .returned (.bool (inL L x)) ∧ w' = w := by
  obtain ⟨a, c, rfl, h⟩ := h
  by_cases h0 : L = []
  · subst h0
    exact contains_nil a c _ w
  · rcases h with h | ⟨g, o, rfl, hc, hcell⟩
    · exact absurd h h0
    · have h := Tryz.slices_Contains_string g o L.length c (L.map str) (str x) w (by simp) (by omega) (fun j hj => by
        rw [List.length_map] at hj
        rw [hcell j hj, List.getD_eq_getElem?_getD, List.getD_eq_getElem?_getD, List.getElem?_map, List.getElem?_eq_getElem hj]
        rfl)
      rw [List.take_of_length_le (by simp), contains_eq] at h
      exact h
def hasF (s : List UInt8) (t : List Fl) (k : List UInt8) : Bool := decide ((tokensF s t).2 = 0) && inL (tokensF s t).1 (lower k)
theorem tokens_len {t : List Fl} (hS : sumF t ≤ 1048576) (s : List UInt8) : (tokensF s t).1.length ≤ 1048576 := by
  have hv := sumV_filter s t
  have hll := listV_len (vals s t) []
  unfold tokensF tokV
  split
  · split
    · rw [List.length_map]
      unfold listF
      simp at hll
      omega
    · simp
  · simp
end Fd
end Go.Proofs.YtcelekfokbdmfaaGreatDoor
set_option linter.unusedVariables false
set_option linter.unusedSimpArgs false
namespace Go.Proofs.YtcelekfokbdmfaaGreatDoor
open Go.RowKit Go.Shelf
namespace Fd
open Oc Tg
def nCo : List UInt8 := [67, 111, 110, 110, 101, 99, 116, 105, 111, 110]
def wCl : List UInt8 := [99, 108, 111, 115, 101]
def wKA : List UInt8 := [107, 101, 101, 112, 45, 97, 108, 105, 118, 101]
def persistF (t : List Fl) (old : Bool) : Bool := if (tokensF nCo t).2 = 0 then (if inL (tokensF nCo t).1 wCl then false else if old then inL (tokensF nCo t).1 wKA else true) else false
set_option maxRecDepth 100000 in
set_option maxHeartbeats 1000000 in
theorem Persist_any (v : Value) (t : List Fl) (old : Bool) (hS : sumF t ≤ 1048576) (w : World) (hrd : RdF v t w) (tab : Tab w) :
    Calls Tryz.prog 152 #[v, .bool old] w fun e w' => e = .returned (.bool (persistF t old)) ∧ Below w.heap.size w w' := by
  have HT : Hid (Calls Tryz.prog 172 #[v, .string ⟨#[67, 111, 110, 110, 101, 99, 116, 105, 111, 110]⟩] w fun e w' => ∃ x, e = .returned (.tuple #[x, .int .i64 (tokensF nCo t).2]) ∧ OwnS w.heap.size x (tokensF nCo t).1 w' ∧ Below w.heap.size w w') := Tokens6_any v t nCo (by decide) hS w hrd tab
  have hl := tokens_len hS nCo
  have H1 : Hid (∀ u w, RdS u (tokensF nCo t).1 w → Calls Tryz.prog 173 #[u, .string ⟨#[99, 108, 111, 115, 101]⟩] w fun e w' => e = .returned (.bool (inL (tokensF nCo t).1 wCl)) ∧ w' = w) := fun u w h => Contains_any u _ wCl hl w h
  have H2 : Hid (∀ u w, RdS u (tokensF nCo t).1 w → Calls Tryz.prog 173 #[u, .string ⟨#[107, 101, 101, 112, 45, 97, 108, 105, 118, 101]⟩] w fun e w' => e = .returned (.bool (inL (tokensF nCo t).1 wKA)) ∧ w' = w) := fun u w h => Contains_any u _ wKA hl w h
  unfold persistF
  obtain ⟨a, c, rfl, _⟩ := hrd
  clear hl
  generalize (tokensF nCo t).1 = L at *
  generalize (tokensF nCo t).2 = z at *
  generalize inL L wCl = b1 at *
  generalize inL L wKA = b2 at *
  by_cases hz : z = 0
  · subst hz
    rw [if_pos rfl]
    cases b1 with
    | true =>
      rw [if_pos rfl]
      go_enter Tryz.func152, Tryz.ntmps152
      go_wp2_with fail
      refine HT.out.mono ?_
      rintro e w1 ⟨u, rfl, ho, hb⟩
      have HB1 : Hid (Below w.heap.size w w1) := hb
      have HU : Hid (RdS u L w1) := ho.rd
      clear hb ho
      go_wp2_with fail
      refine (H1.out _ _ HU.out).mono ?_
      rintro e w2 ⟨rfl, rfl⟩
      go_wp2
      go_ret
      exact ⟨rfl, HB1.out⟩
    | false =>
      rw [if_neg (by simp)]
      cases old with
      | true =>
        rw [if_pos rfl]
        go_enter Tryz.func152, Tryz.ntmps152
        go_wp2_with fail
        refine HT.out.mono ?_
        rintro e w1 ⟨u, rfl, ho, hb⟩
        have HB1 : Hid (Below w.heap.size w w1) := hb
        have HU : Hid (RdS u L w1) := ho.rd
        clear hb ho
        go_wp2_with fail
        refine (H1.out _ _ HU.out).mono ?_
        rintro e w2 ⟨rfl, rfl⟩
        go_wp2_with fail
        refine (H2.out _ _ HU.out).mono ?_
        rintro e w3 ⟨rfl, rfl⟩
        go_wp2
        go_ret
        exact ⟨rfl, HB1.out⟩
      | false =>
        rw [if_neg (by simp)]
        go_enter Tryz.func152, Tryz.ntmps152
        go_wp2_with fail
        refine HT.out.mono ?_
        rintro e w1 ⟨u, rfl, ho, hb⟩
        have HB1 : Hid (Below w.heap.size w w1) := hb
        have HU : Hid (RdS u L w1) := ho.rd
        clear hb ho
        go_wp2_with fail
        refine (H1.out _ _ HU.out).mono ?_
        rintro e w2 ⟨rfl, rfl⟩
        go_wp2
        go_ret
        exact ⟨rfl, HB1.out⟩
  · rw [if_neg hz]
    have hzq : (z != 0) = true := by simp [hz]
    go_enter Tryz.func152, Tryz.ntmps152
    go_wp2_with fail
    refine HT.out.mono ?_
    rintro e w1 ⟨u, rfl, ho, hb⟩
    have HB1 : Hid (Below w.heap.size w w1) := hb
    have HU : Hid (RdS u L w1) := ho.rd
    clear hb ho
    go_wp2
    go_ret
    exact ⟨rfl, HB1.out⟩
end Fd
end Go.Proofs.YtcelekfokbdmfaaGreatDoor
set_option linter.unusedVariables false
set_option linter.unusedSimpArgs false
namespace Go.Proofs.YtcelekfokbdmfaaGreatDoor
open Go.RowKit Go.Shelf
namespace Fd
open Oc Tg
def dec (x : List UInt8) : Int × Int := numR 10 x 1099511627776
def decZ (x : List UInt8) : Int := if (dec x).2 = 0 then (dec x).1 else -1
end Fd
end Go.Proofs.YtcelekfokbdmfaaGreatDoor
set_option linter.unusedVariables false
set_option linter.unusedSimpArgs false
namespace Go.Proofs.YtcelekfokbdmfaaGreatDoor
open Go.RowKit Go.Shelf
namespace Fd
open Oc Tg
def nCL : List UInt8 := [67, 111, 110, 116, 101, 110, 116, 45, 76, 101, 110, 103, 116, 104]
def nTE : List UInt8 := [84, 114, 97, 110, 115, 102, 101, 114, 45, 69, 110, 99, 111, 100, 105, 110, 103]
theorem findB (s : List UInt8) (t : List Fl) : (findF s t).2 = decide (0 < (vals s t).length) := by
  unfold findF vals
  have h : (t.filter (alike s)).head? = t.find? (alike s) := List.head?_filter
  cases hf : t.filter (alike s) with
  | nil => rw [hf] at h; rw [← h]; rfl
  | cons p r => rw [hf] at h; rw [← h]; rfl
def sameLen (L : List (List UInt8)) : Bool := L.all fun x => decide ((dec x).2 = 0 ∧ (dec x).1 = (dec (L.getD 0 [])).1)
def lenL (L : List (List UInt8)) : Int × Bool × Int := if L = [] then (0, false, 66) else if sameLen L then ((dec (L.getD 0 [])).1, true, 0) else (0, false, 66)
def lengthF (t : List Fl) : Int × Bool × Int := if vals nCL t = [] then (0, false, 0) else if (listF nCL t).2 = 0 then lenL (listF nCL t).1 else (0, false, 66)
theorem len_bad {L : List (List UInt8)} (k : Nat) (hk : k < L.length) (h : ¬ ((dec (L.getD k [])).2 = 0 ∧ (dec (L.getD k [])).1 = (dec (L.getD 0 [])).1)) : lenL L = (0, false, 66) := by
  unfold lenL
  by_cases h0 : L = []
  · rw [if_pos h0]
  · rw [if_neg h0, if_neg]
    unfold sameLen
    rw [all_not _ [] L k hk (decide_eq_false h)]
    simp
theorem len_ok {L : List (List UInt8)} (h0 : L ≠ []) (h : ∀ k, k < L.length → (dec (L.getD k [])).2 = 0 ∧ (dec (L.getD k [])).1 = (dec (L.getD 0 [])).1) : lenL L = ((dec (L.getD 0 [])).1, true, 0) := by
  unfold lenL
  rw [if_neg h0, if_pos]
  unfold sameLen
  exact all_of _ [] L (fun k hk => decide_eq_true (h k hk))
def lenV (r : Int × Bool × Int) : Value := .tuple #[.int .i64 r.1, .bool r.2.1, .int .i64 r.2.2]
set_option maxRecDepth 100000 in
set_option maxHeartbeats 1000000 in
theorem Length_any (v : Value) (t : List Fl) (hS : sumF t ≤ 1048576) (w : World) (hrd : RdF v t w) :
    Calls Tryz.prog 170 #[v] w fun e w' => e = .returned (lenV (lengthF t)) ∧ Below w.heap.size w w' := by
  have hlen := len_sumF t
  have hM := (each_sumF t).mono hS
  have HF : Hid (Calls Tryz.prog 193 #[v, .string ⟨#[67, 111, 110, 116, 101, 110, 116, 45, 76, 101, 110, 103, 116, 104]⟩] w fun e w' => e = .returned (.tuple #[.string (str (findF nCL t).1), .bool (decide (0 < (vals nCL t).length))]) ∧ Below w.heap.size w w') := by
    have h := Find_any v t nCL (by decide) (hM.mono (by unfold maxLen; omega)) (by omega) w hrd
    rw [findB] at h
    exact h
  have HL : Hid (∀ w, RdF v t w → Calls Tryz.prog 194 #[v, .string ⟨#[67, 111, 110, 116, 101, 110, 116, 45, 76, 101, 110, 103, 116, 104]⟩] w fun e w' => ∃ x, e = .returned (.tuple #[x, .int .i64 (listF nCL t).2]) ∧ OwnS w.heap.size x (listF nCL t).1 w' ∧ Below w.heap.size w w') := fun w h => List6_any v t nCL (by decide) hS w h
  have hv := sumV_filter nCL t
  have hll := listV_len (vals nCL t) []
  have HSh : Hid (∀ x ∈ (listF nCL t).1, x.length ≤ 1048576) := listV_short 1048576 (vals nCL t) [] (fun x hx => by cases hx) (vals_short hM nCL)
  have hLn : (listF nCL t).1.length ≤ 1048576 := by unfold listF; simp at hll; omega
  have HR : Hid (RdF v t w) := hrd
  unfold lengthF
  obtain ⟨a, c, rfl, _⟩ := hrd
  clear hv hll hM
  generalize str (findF nCL t).1 = FS at *
  generalize vals nCL t = T at *
  generalize (listF nCL t).1 = L at *
  generalize (listF nCL t).2 = z at *
  by_cases hT : T = []
  · rw [if_pos hT]
    rw [show decide (0 < T.length) = false by rw [hT]; rfl] at HF
    clear hT
    go_enter Tryz.func170, Tryz.ntmps170
    go_wp2_with fail
    refine HF.out.mono ?_
    rintro e w1 ⟨rfl, hb⟩
    go_wp2
    refine bodyPost_ret (v := .tuple #[.int .i64 0, .bool false, .int .i64 0]) (by simp [results, Tryz.results170, go_sem]) rfl ?_
    exact ⟨rfl, hb⟩
  · rw [if_neg hT]
    rw [show decide (0 < T.length) = true from decide_eq_true (List.length_pos_iff.2 hT)] at HF
    clear hT
    by_cases hz : z = 0
    · subst hz
      rw [if_pos rfl]
      by_cases hL0 : L = []
      · subst hL0
        go_enter Tryz.func170, Tryz.ntmps170
        go_wp2_with fail
        refine HF.out.mono ?_
        rintro e w1 ⟨rfl, hb⟩
        have HB1 : Hid (Below w.heap.size w w1) := hb
        clear hb
        go_wp2_with fail
        refine (HL.out _ (HR.out.below HB1.out)).mono ?_
        rintro e w2 ⟨x, rfl, hx, hb⟩
        have HB2 : Hid (Below w.heap.size w w2) := bel_trans HB1.out hb
        obtain ⟨xa, xc, rfl⟩ := hx.form
        clear hb hx
        go_wp2
        refine bodyPost_ret (v := .tuple #[.int .i64 0, .bool false, .int .i64 66]) (by simp [results, Tryz.results170, go_sem]) rfl ?_
        exact ⟨rfl, HB2.out⟩
      · have hpos : 0 < L.length := List.length_pos_iff.2 hL0
        have hne : ((L.length : Int) == 0) = false := by simp; omega
        have HL0 : Hid (L ≠ []) := hL0
        clear hL0
        go_enter Tryz.func170, Tryz.ntmps170
        go_wp2_with fail
        refine HF.out.mono ?_
        rintro e w1 ⟨rfl, hb⟩
        have HB1 : Hid (Below w.heap.size w w1) := hb
        clear hb
        go_wp2_with fail
        refine (HL.out _ (HR.out.below HB1.out)).mono ?_
        rintro e w2 ⟨x, rfl, hx, hb⟩
        have HB2 : Hid (Below w.heap.size w w2) := bel_trans HB1.out hb
        have HX : Hid (RdS x L w2) := hx.rd
        obtain ⟨xa, xc, rfl⟩ := hx.form
        clear hb hx
        go_wp2
        go_loopw [9, 35] (fun lv i wr => ∃ (k : Nat) (ln : Int), k ≤ L.length ∧ i = .int .i64 k ∧ lv = .int .i64 ln ∧ Hid (k ≠ 0 → ln = (dec (L.getD 0 [])).1) ∧ Hid (∀ j, j < k → (dec (L.getD j [])).2 = 0 ∧ (dec (L.getD j [])).1 = (dec (L.getD 0 [])).1) ∧ Hid (Below w2.heap.size w2 wr)) (fun _ i _ => L.length - (intOf i).toNat)
        case atStart => exact ⟨0, 0, Nat.zero_le _, rfl, rfl, (fun h => absurd rfl h : (0 : Nat) ≠ 0 → _), (fun j hj => by omega : ∀ j, j < 0 → _), Below.refl _ _⟩
        case round =>
          obtain ⟨k, ln, hk, rfl, rfl, hln, hall, hbl⟩ := hrel
          by_cases hlt : k < L.length
          · obtain ⟨a', c', e', hcs⟩ := HX.out.below hbl.out
            injection e' with e1 _ e2
            subst e1 e2
            rcases hcs with h | ⟨g, o, rfl, hlc, hcell⟩
            · rw [h] at hlt; simp at hlt
            have p0 := hcell k hlt
            have hxl := getD_short HSh.out k hlt
            have HD : Hid (∀ w, Calls Tryz.prog 150 #[.string (str (L.getD k [])), .int .i64 1099511627776] w fun e w' => e = .returned (.tuple #[.int .i64 (dec (L.getD k [])).1, .int .i64 (dec (L.getD k [])).2]) ∧ Below w.heap.size w w') := fun w => by
              have h := Decimal_any (str (L.getD k [])) (by rw [str_size]; unfold maxLen; omega) 1099511627776 (by omega) (by omega) w
              rw [str_list] at h
              exact h
            have BAD : ¬ ((dec (L.getD k [])).2 = 0 ∧ (dec (L.getD k [])).1 = (dec (L.getD 0 [])).1) → Hid (lenL L = (0, false, 66)) := fun h => len_bad k hlt h
            have NXT : (dec (L.getD k [])).2 = 0 ∧ (dec (L.getD k [])).1 = (dec (L.getD 0 [])).1 → Hid (∀ j, j < k + 1 → (dec (L.getD j [])).2 = 0 ∧ (dec (L.getD j [])).1 = (dec (L.getD 0 [])).1) := fun h j hj => by
              by_cases hjk : j = k
              · subst hjk; exact h
              · exact hall.out j (by omega)
            have ZER : k = 0 → Hid ((dec (L.getD k [])).1 = (dec (L.getD 0 [])).1) := fun h => by subst h; exact rfl
            clear hcell hxl
            generalize str (L.getD k []) = X at p0 HD
            generalize (dec (L.getD k [])).1 = n at HD BAD NXT ZER
            generalize (dec (L.getD k [])).2 = e0 at HD BAD NXT
            by_cases he : e0 = 0
            · subst he
              by_cases hk0 : k = 0
              · have nx := NXT ⟨rfl, (ZER hk0).out⟩
                have HLn : Hid (k + 1 ≠ 0 → n = (dec (L.getD 0 [])).1) := fun _ => (ZER hk0).out
                clear BAD NXT ZER
                subst hk0
                rw [Nat.add_zero] at p0
                go_wp2_with fail
                refine (HD.out _).mono ?_
                rintro e w3 ⟨rfl, hb⟩
                have HB3 : Hid (Below w2.heap.size w2 w3) := bel_trans hbl.out hb
                clear hb
                go_wp2
                go_roundw
                case rel => exact ⟨1, n, by omega, by go_num, rfl, HLn, nx, HB3⟩
                case measure => simp [intOf]; omega
              · have hkp : decide ((0 : Int) < (k : Int)) = true := decide_eq_true (by omega)
                by_cases hnl : n = ln
                · have hq : (n != ln) = false := by simp [hnl]
                  have nx := NXT ⟨rfl, hnl.trans (hln.out hk0)⟩
                  have HLn : Hid (k + 1 ≠ 0 → n = (dec (L.getD 0 [])).1) := fun _ => hnl.trans (hln.out hk0)
                  clear BAD NXT ZER hnl
                  go_wp2_with fail
                  refine (HD.out _).mono ?_
                  rintro e w3 ⟨rfl, hb⟩
                  have HB3 : Hid (Below w2.heap.size w2 w3) := bel_trans hbl.out hb
                  clear hb
                  go_wp2
                  go_roundw
                  case rel => exact ⟨k + 1, n, by omega, by go_num, rfl, HLn, nx, HB3⟩
                  case measure => simp [intOf]; omega
                · have hq : (n != ln) = true := by simp [hnl]
                  have bd := BAD (fun h => hnl (h.2.trans (hln.out hk0).symm))
                  clear BAD NXT ZER hnl
                  go_wp2_with fail
                  refine (HD.out _).mono ?_
                  rintro e w3 ⟨rfl, hb⟩
                  have HB3 : Hid (Below w2.heap.size w2 w3) := bel_trans hbl.out hb
                  clear hb
                  go_wp2
                  refine bodyPost_ret (v := .tuple #[.int .i64 0, .bool false, .int .i64 66]) (by simp [results, Tryz.results170, go_sem]) rfl ?_
                  exact ⟨by rw [bd.out]; rfl, HB2.out.trans (HB3.out.mono HB2.out.size)⟩
            · have hq : (e0 != 0) = true := by simp [he]
              have bd := BAD (fun h => he h.1)
              clear BAD NXT ZER
              go_wp2_with fail
              refine (HD.out _).mono ?_
              rintro e w3 ⟨rfl, hb⟩
              have HB3 : Hid (Below w2.heap.size w2 w3) := bel_trans hbl.out hb
              clear hb
              go_wp2
              refine bodyPost_ret (v := .tuple #[.int .i64 0, .bool false, .int .i64 66]) (by simp [results, Tryz.results170, go_sem]) rfl ?_
              exact ⟨by rw [bd.out]; rfl, HB2.out.trans (HB3.out.mono HB2.out.size)⟩
          · obtain rfl : k = L.length := by omega
            have HE : Hid (lenL L = (ln, true, 0)) := by
              show _ = _
              rw [len_ok HL0.out hall.out, ← hln.out (by omega)]
            go_wp2
            refine bodyPost_ret (v := .tuple #[.int .i64 ln, .bool true, .int .i64 0]) (by simp [results, Tryz.results170, go_sem]) rfl ?_
            exact ⟨by rw [HE.out]; rfl, HB2.out.trans (hbl.out.mono HB2.out.size)⟩
    · rw [if_neg hz]
      have hzq : (z != 0) = true := by simp [hz]
      go_enter Tryz.func170, Tryz.ntmps170
      go_wp2_with fail
      refine HF.out.mono ?_
      rintro e w1 ⟨rfl, hb⟩
      have HB1 : Hid (Below w.heap.size w w1) := hb
      clear hb
      go_wp2_with fail
      refine (HL.out _ (HR.out.below HB1.out)).mono ?_
      rintro e w2 ⟨x, rfl, hx, hb⟩
      have HB2 : Hid (Below w.heap.size w w2) := bel_trans HB1.out hb
      obtain ⟨xa, xc, rfl⟩ := hx.form
      clear hb hx
      go_wp2
      refine bodyPost_ret (v := .tuple #[.int .i64 0, .bool false, .int .i64 66]) (by simp [results, Tryz.results170, go_sem]) rfl ?_
      exact ⟨rfl, HB2.out⟩
end Fd
end Go.Proofs.YtcelekfokbdmfaaGreatDoor
