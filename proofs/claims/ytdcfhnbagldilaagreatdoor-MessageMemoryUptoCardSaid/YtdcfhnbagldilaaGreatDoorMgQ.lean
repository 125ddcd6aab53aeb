import Derived.Test.YtdcfhnbagldilaaGreatDoorMgP
import Derived.Test.YtdcfhnbagldilaaGreatDoorMgI
import Derived.Lib.AppendZeros
import Derived.Test.YtdcfhnbagldilaaGreatDoorMgG
import Derived.Shelf.Spec.SlicesGrow
import Derived.Ground.Names8Prog
import Derived.Shelf.SlGeneric
import Derived.Test.YtdcfhnbagldilaaGreatDoorProg
import Derived.Test.YtdcfhnbagldilaaGreatDoorMgH
import Derived.Laws.CopyRow
set_option linter.unusedVariables false
set_option linter.unusedSimpArgs false
set_option maxRecDepth 100000
namespace Go.Proofs.YtdcfhnbagldilaaGreatDoor
open Go.RowKit Go.Shelf
namespace Ms
open Oc Tg _root_.Go.Proofs.YtdcfhnbagldilaaGreatDoor.Fd _root_.Go.Proofs.YtdcfhnbagldilaaGreatDoor.Ck
def isSt (n : Int) : Bool := decide (100 ≤ n ∧ n ≤ 599)
def isRs (l : List UInt8) : Bool := decide (l.length ≤ 256) && isFld l
set_option maxHeartbeats 1000000 in
theorem isStatus_any (n : Int) (w : World) : Calls Tryz.prog 43 #[.int .i64 n] w fun e w' => e = .returned (.bool (isSt n)) ∧ w' = w := by
  obtain ⟨R, hR⟩ : ∃ R, R = isSt n := ⟨_, rfl⟩
  rw [← hR]
  have HR : Hid (R = decide (100 ≤ n ∧ n ≤ 599)) := hR
  clear hR
  by_cases h1 : 100 ≤ n
  · have HQ : Hid (R = decide (n ≤ 599)) := (by rw [HR.out]; simp [h1] : _ = _)
    go_enter Tryz.func43, Tryz.ntmps43
    go_wp2
    go_ret
    exact ⟨by rw [HQ.out]; rfl, rfl⟩
  · have HQ : Hid (R = false) := (by rw [HR.out]; simp [h1] : _ = _)
    go_enter Tryz.func43, Tryz.ntmps43
    go_wp2
    go_ret
    exact ⟨by rw [HQ.out]; rfl, rfl⟩
set_option maxHeartbeats 1000000 in
theorem isReason_any (s : ByteArray) (hs : s.size ≤ 4000000000) (w : World) : Calls Tryz.prog 44 #[.string s] w fun e w' => e = .returned (.bool (isRs s.data.toList)) ∧ Below w.heap.size w w' := by
  have HI : Hid (Calls _ _ _ _ _) := IsField_any s (by unfold maxLen; omega) w
  have HQ : Hid (isRs s.data.toList = (decide (s.size ≤ 256) && isFld s.data.toList)) := (by unfold isRs; rw [size_list] : _ = _)
  generalize isRs s.data.toList = R at *
  generalize isFld s.data.toList = b at *
  by_cases h1 : s.size ≤ 256
  · have h1' : (s.size : Int) ≤ 256 := by omega
    rw [decide_eq_true h1] at HQ
    clear h1
    go_enter Tryz.func44, Tryz.ntmps44
    go_wp2_with fail
    refine HI.out.mono ?_
    rintro e w' ⟨rfl, hb⟩
    have HB : Hid (Below w.heap.size w w') := hb
    clear hb
    go_wp2
    go_ret
    exact ⟨by rw [HQ.out]; rfl, HB.out⟩
  · have h1' : ¬ (s.size : Int) ≤ 256 := by omega
    rw [decide_eq_false h1] at HQ
    clear h1
    go_enter Tryz.func44, Tryz.ntmps44
    go_wp2
    go_ret
    exact ⟨by rw [HQ.out]; rfl, Below.refl _ _⟩
def nCn : List UInt8 := [67, 111, 110, 110, 101, 99, 116, 105, 111, 110]
def frI (x : List UInt8) (n : Int) : Bool := decide (lower x = lower nCL) || (decide (lower x = lower nTE) || (decide (lower x = lower nCn) && n != 101))
theorem Same_l (a b : List UInt8) (ha : a.length ≤ maxLen) (hb : b.length ≤ maxLen) (w : World) :
    Calls Tryz.prog 86 #[.string (str a), .string (str b)] w fun e w' => e = .returned (.bool (decide (lower a = lower b))) ∧ Below w.heap.size w w' := by
  have h := Same_any (str a) (str b) (by rw [str_size]; exact ha) (by rw [str_size]; exact hb) w
  rw [low_alike a b] at h
  exact h
set_option maxHeartbeats 2000000 in
theorem framesItself_any (x : List UInt8) (hx : x.length ≤ maxLen) (n : Int) (w : World) : Calls Tryz.prog 47 #[.string (str x), .int .i64 n] w fun e w' => e = .returned (.bool (frI x n)) ∧ Below w.heap.size w w' := by
  have H1 : Hid (∀ W, Calls Tryz.prog 86 #[.string (str x), .string ⟨#[67, 111, 110, 116, 101, 110, 116, 45, 76, 101, 110, 103, 116, 104]⟩] W fun e w' => e = .returned (.bool (decide (lower x = lower nCL))) ∧ Below (World.heap W).size W w') := fun W => Same_l x nCL hx (by decide) W
  have H2 : Hid (∀ W, Calls Tryz.prog 86 #[.string (str x), .string ⟨#[84, 114, 97, 110, 115, 102, 101, 114, 45, 69, 110, 99, 111, 100, 105, 110, 103]⟩] W fun e w' => e = .returned (.bool (decide (lower x = lower nTE))) ∧ Below (World.heap W).size W w') := fun W => Same_l x nTE hx (by decide) W
  have H3 : Hid (∀ W, Calls Tryz.prog 86 #[.string (str x), .string ⟨#[67, 111, 110, 110, 101, 99, 116, 105, 111, 110]⟩] W fun e w' => e = .returned (.bool (decide (lower x = lower nCn))) ∧ Below (World.heap W).size W w') := fun W => Same_l x nCn hx (by decide) W
  have HQ : Hid (frI x n = (decide (lower x = lower nCL) || (decide (lower x = lower nTE) || (decide (lower x = lower nCn) && n != 101)))) := rfl
  generalize frI x n = R at *
  generalize decide (lower x = lower nCL) = b1 at *
  generalize decide (lower x = lower nTE) = b2 at *
  generalize decide (lower x = lower nCn) = b3 at *
  generalize str x = X at *
  go_enter Tryz.func47, Tryz.ntmps47
  go_wp2_with fail
  refine (H1.out _).mono ?_
  rintro e w1 ⟨rfl, hb1⟩
  have HB1 : Hid (Below w.heap.size w w1) := hb1
  clear hb1
  cases b1 with
  | true =>
    go_wp2
    go_ret
    exact ⟨by rw [HQ.out]; rfl, HB1.out⟩
  | false =>
    go_wp2_with fail
    refine (H2.out _).mono ?_
    rintro e w2 ⟨rfl, hb2⟩
    have HB2 : Hid (Below w.heap.size w w2) := bel_trans HB1.out hb2
    clear hb2
    cases b2 with
    | true =>
      go_wp2
      go_ret
      exact ⟨by rw [HQ.out]; rfl, HB2.out⟩
    | false =>
      go_wp2_with fail
      refine (H3.out _).mono ?_
      rintro e w3 ⟨rfl, hb3⟩
      have HB3 : Hid (Below w.heap.size w w3) := bel_trans HB2.out hb3
      clear hb3
      cases b3 with
      | true =>
        go_wp2
        go_ret
        exact ⟨by rw [HQ.out]; rfl, HB3.out⟩
      | false =>
        go_wp2
        go_ret
        exact ⟨by rw [HQ.out]; rfl, HB3.out⟩
set_option maxHeartbeats 2000000 in
theorem Head1_any (p : Fl) (hp : p.1.length ≤ maxLen) (n : Int) (B : Nat) (w : World) (hB : B < w.heap.size) (hc : w.cell? ⟨B, 0, none⟩ = some (.int .i64 n)) :
    Calls Tryz.prog 46 #[.agg #[.string (str p.1), .string (str p.2)], .pointer (some ⟨B, 0, none⟩)] w fun e w' => e = .returned (.bool (frI p.1 n)) ∧ Below w.heap.size w w' := by
  have HF : Hid (∀ W, Calls _ _ _ W _) := fun W => framesItself_any p.1 hp n W
  generalize str p.1 = X at *
  generalize str p.2 = Y at *
  generalize frI p.1 n = R at *
  have hc2 : (w.alloc (.cells #[.string X, .string Y] 47)).cell? ⟨B, 0, none⟩ = some (.int .i64 n) := ((But.refl [] w).alloc _).cell hc (fun e => by cases e)
  go_enter Tryz.func46, Tryz.ntmps46
  go_wp2_with fail
  refine (HF.out _).mono ?_
  rintro e w1 ⟨rfl, hb1⟩
  have HB1 : Hid (Below w.heap.size w w1) := (bel_trans ((Below.refl _ w).alloc (Nat.le_refl _) _) hb1 : Below _ _ _)
  clear hb1
  go_wp2
  go_ret
  exact ⟨rfl, HB1.out⟩
def anyI (t : List Fl) (n : Int) : Bool := t.any (fun p => frI p.1 n)
theorem any_at {t : List Fl} {n : Int} {k : Nat} (hk : k < t.length) (h : frI (nth t k).1 n = true) : anyI t n = true := by
  unfold anyI
  rw [List.any_eq_true]
  refine ⟨nth t k, ?_, h⟩
  unfold nth
  rw [List.getD_eq_getElem?_getD, List.getElem?_eq_getElem hk]
  exact List.getElem_mem _
theorem any_none {t : List Fl} {n : Int} (h : ∀ j, j < t.length → frI (nth t j).1 n = false) : anyI t n = false := by
  unfold anyI
  rw [List.any_eq_false]
  intro p hp
  obtain ⟨j, hj, rfl⟩ := List.mem_iff_getElem.1 hp
  have := h j hj
  unfold nth at this
  rw [List.getD_eq_getElem?_getD, List.getElem?_eq_getElem hj] at this
  simpa using this
set_option maxHeartbeats 2000000 in
theorem ContainsFunc_h (v : Value) (t : List Fl) (hM : Each maxLen t) (hl : t.length ≤ 4294967296) (n : Int) (B : Nat) (w : World) (hrd : RdF v t w) (hc : w.cell? ⟨B, 0, none⟩ = some (.int .i64 n)) :
    Calls Tryz.prog 45 #[v, .func (.func 46) #[] #[.pointer (some ⟨B, 0, none⟩)]] w fun e w' => e = .returned (.bool (anyI t n)) ∧ Below w.heap.size w w' := by
  have HIx : Hid (Calls Tryz.prog 85 #[v, .func (.func 46) #[] #[.pointer (some ⟨B, 0, none⟩)]] w fun e w' => ∃ z : Int, e = .returned (.int .i64 z) ∧ decide (0 ≤ z) = anyI t n ∧ Below w.heap.size w w') := by
    have HR : Hid (RdF v t w) := hrd
    have HC : Hid (w.cell? ⟨B, 0, none⟩ = some (.int .i64 n)) := hc
    have HM : Hid (Each maxLen t) := hM
    obtain ⟨a, c, rfl, _⟩ := hrd
    clear hc hM
    show Calls _ _ _ _ _
    go_enter Tryz.func85, Tryz.ntmps85
    go_wp2
    go_loopw [8] (fun i wr => ∃ k : Nat, k ≤ t.length ∧ i = .int .i64 k ∧ Hid (∀ j, j < k → frI (nth t j).1 n = false) ∧ Hid (Below w.heap.size w wr)) (fun i _ => t.length - (intOf i).toNat)
    case atStart => exact ⟨0, Nat.zero_le _, rfl, (fun j hj => by omega : ∀ j, j < 0 → _), Below.refl _ _⟩
    case round =>
      obtain ⟨k, hk, rfl, hall, hbl⟩ := hrel
      by_cases hlt : k < t.length
      · obtain ⟨a', c', e', hcs⟩ := HR.out.below hbl.out
        injection e' with e1 _ e2
        subst e1 e2
        rcases hcs with h | ⟨g, o, rfl, hlc, hcell⟩
        · rw [h] at hlt; simp at hlt
        obtain ⟨p0, p1⟩ := hcell k hlt
        clear hcell
        have hBl := World.block_lt_of_cell? w _ HC.out
        have HN : Hid (Calls Tryz.prog 46 #[.agg #[.string (str (nth t k).1), .string (str (nth t k).2)], .pointer (some ⟨B, 0, none⟩)] wr fun e w' => e = .returned (.bool (frI (nth t k).1 n)) ∧ Below wr.heap.size wr w') :=
          Head1_any (nth t k) (HM.out.at k hlt).1 n B wr (Nat.lt_of_lt_of_le hBl hbl.out.size) (by rw [hbl.out.cell hBl]; exact HC.out)
        have HT : frI (nth t k).1 n = true → Hid (decide (0 ≤ (k : Int)) = anyI t n) := fun h => (by rw [any_at hlt h]; simp : _ = _)
        have HF : frI (nth t k).1 n = false → Hid (∀ j, j < k + 1 → frI (nth t j).1 n = false) := fun h j hj => by
          by_cases hjk : j = k
          · subst hjk; exact h
          · exact hall.out j (by omega)
        generalize str (nth t k).1 = X at p0 HN
        generalize str (nth t k).2 = Y at p1 HN
        generalize frI (nth t k).1 n = b at HN HT HF
        clear hBl
        cases b with
        | true =>
          have HT2 := HT rfl
          clear HT HF
          go_wp2_with fail
          refine HN.out.mono ?_
          rintro e w2 ⟨rfl, hb2⟩
          have HB2 : Hid (Below w.heap.size w w2) := bel_trans hbl.out hb2
          clear hb2
          go_wp2
          go_ret
          exact ⟨_, rfl, HT2.out, HB2.out⟩
        | false =>
          have HF2 := HF rfl
          clear HT HF
          go_wp2_with fail
          refine HN.out.mono ?_
          rintro e w2 ⟨rfl, hb2⟩
          have HB2 : Hid (Below w.heap.size w w2) := bel_trans hbl.out hb2
          clear hb2
          go_wp2
          go_roundw
          case rel => exact ⟨k + 1, by omega, by go_num, HF2, HB2⟩
          case measure => simp [intOf]; omega
      · have HE : Hid (decide ((0 : Int) ≤ -1) = anyI t n) := (by rw [any_none (fun j hj => hall.out j (by omega))]; rfl : _ = _)
        go_wp2
        go_ret
        exact ⟨_, rfl, HE.out, hbl.out⟩
  generalize anyI t n = R at *
  clear hrd hc hM
  go_enter Tryz.func45, Tryz.ntmps45
  go_wp2_with fail
  refine HIx.out.mono ?_
  rintro e w1 ⟨z, rfl, hz, hb1⟩
  have HZ : Hid (decide (0 ≤ z) = R) := hz
  have HB1 : Hid (Below w.heap.size w w1) := hb1
  clear hz hb1
  go_wp2
  go_ret
  exact ⟨by rw [← HZ.out]; rfl, HB1.out⟩
end Ms
end Go.Proofs.YtdcfhnbagldilaaGreatDoor
set_option linter.unusedVariables false
set_option linter.unusedSimpArgs false
set_option maxRecDepth 100000
namespace Go.Proofs.YtdcfhnbagldilaaGreatDoor
open Go.RowKit Go.Shelf
namespace Ms
open Oc Tg _root_.Go.Proofs.YtdcfhnbagldilaaGreatDoor.Fd _root_.Go.Proofs.YtdcfhnbagldilaaGreatDoor.Ck
set_option maxHeartbeats 2000000 in
theorem Grow_nil (k : Nat) (hk : k ≤ 2147483648) (w : World) :
    Calls Tryz.prog 89 #[.slice none 0 0, .int .i64 (k : Int)] w fun e w' => ∃ v, e = .returned v ∧ OwnF 47 w.heap.size v [] w' ∧ Below w.heap.size w w' := by
  by_cases h0 : k = 0
  · subst h0
    go_enter Tryz.func89, Tryz.ntmps89
    go_wp2
    go_ret
    exact ⟨_, rfl, ownF_nil _ _ _, Below.refl _ _⟩
  · obtain ⟨i0, hi, hz0, hz1, hz2⟩ := info_parts infoF
    have hrun := fun ty => Lib.run_append_nil_zeros (P := Tryz.prog) w 25 3 ty 47 i0 (.agg #[.string ⟨#[]⟩, .string ⟨#[]⟩]) .i64 .i64 Tryz.underlying25 Tryz.underlying3 hi hz0 k (by omega) (by rw [hz1]; omega) (by omega) (by rw [hz2]; omega)
    have hge := grownCap_ge w k 0 47
    have hle := grownCap_le_maxLen w k 0 47 (by unfold maxLen; omega)
    generalize grownCap w k 0 47 = cp at *
    have HO : Hid (OwnF 47 w.heap.size (.slice (some ⟨w.heap.size, 0, none⟩) 0 cp) [] (w.drew.alloc (.cells (Builtin.zeroCells (Value.agg #[.string ⟨#[]⟩, .string ⟨#[]⟩]).cells k ++ Builtin.zeroCells (Value.agg #[.string ⟨#[]⟩, .string ⟨#[]⟩]).cells (cp - k)) 47))) := by
      refine ⟨rfl, .inr ⟨w.heap.size, cp, _, rfl, Nat.le_refl _, heap_alloc_new w.drew _, Nat.zero_le _, hle, ?_, rfl⟩⟩
      have hz1 : (Value.agg #[.string ⟨#[]⟩, .string ⟨#[]⟩]).cells.size = 2 := rfl
      simp only [Array.size_append, size_zeroCells, hz1]
      omega
    have HB : Hid (Below w.heap.size w (w.drew.alloc (.cells (Builtin.zeroCells (Value.agg #[.string ⟨#[]⟩, .string ⟨#[]⟩]).cells k ++ Builtin.zeroCells (Value.agg #[.string ⟨#[]⟩, .string ⟨#[]⟩]).cells (cp - k)) 47))) := (Below.refl _ w).drew.alloc (Nat.le_refl _) _
    obtain ⟨W, hW⟩ : ∃ W, W = w.drew.alloc (.cells (Builtin.zeroCells (Value.agg #[.string ⟨#[]⟩, .string ⟨#[]⟩]).cells k ++ Builtin.zeroCells (Value.agg #[.string ⟨#[]⟩, .string ⟨#[]⟩]).cells (cp - k)) 47) := ⟨_, rfl⟩
    rw [← hW] at HO HB
    have hrun2 : ∀ ty, (Builtin.append_ #[25, 3] ty #[.slice none 0 0, .int .i64 (k : Int)]).run Tryz.prog w = .ok (.slice (some ⟨w.heap.size, 0, none⟩) k cp) W := fun ty => by rw [hW]; exact hrun ty
    clear hrun hW
    have hk0 : 0 < (k : Int) := by omega
    have hk1 : ¬ (k : Int) < 0 := by omega
    unfold maxLen at hle
    go_enter Tryz.func89, Tryz.ntmps89
    go_wp2_with (at_builtin; refine Lib.wpList_append_run _ rfl _ _ _ _ rfl _ _ rfl rfl _ _ (hrun2 _) ?_)
    go_ret
    exact ⟨_, rfl, HO.out, HB.out⟩
set_option maxHeartbeats 4000000 in
theorem Concat_two (v1 v2 : Value) (t1 t2 : List Fl) (b : Nat) (w : World) (h1 : InF v1 t1 w) (h2 : InF v2 t2 w) (hl : t1.length + t2.length ≤ 2147483648) (c0 : w.cell? ⟨b, 0, none⟩ = some v1) (c1 : w.cell? ⟨b, 1, none⟩ = some v2) :
    Calls Tryz.prog 50 #[.slice (some ⟨b, 0, none⟩) 2 2] w fun e w' => ∃ v, e = .returned v ∧ OwnF 47 w.heap.size v (t1 ++ t2) w' ∧ Below w.heap.size w w' := by
  have H1 : Hid (InF v1 t1 w) := h1
  have H2 : Hid (InF v2 t2 w) := h2
  have HC0 : Hid (w.cell? ⟨b, 0, none⟩ = some v1) := c0
  have HC1 : Hid (w.cell? ⟨b, 1, none⟩ = some v2) := c1
  obtain ⟨a1, k1, rfl, _⟩ := h1.1
  obtain ⟨a2, k2, rfl, _⟩ := h2.1
  clear h1 h2
  have HG : Hid (Calls _ _ _ _ _) := Grow_nil (t1.length + t2.length) hl w
  have hcs : (((t1.length + t2.length : Nat) : Int)) = (t1.length : Int) + (t2.length : Int) := by omega
  rw [hcs] at HG
  clear hcs
  go_enter Tryz.func50, Tryz.ntmps50
  go_wp2
  go_loopw [3, 11] (fun z i wr => Hid (wr = w) ∧ (i = .int .i64 0 ∧ z = .int .i64 0 ∨ i = .int .i64 1 ∧ z = .int .i64 (t1.length : Int) ∨ i = .int .i64 2 ∧ z = .int .i64 ((t1.length : Int) + (t2.length : Int)))) (fun _ i _ => 2 - (intOf i).toNat)
  case atStart => exact ⟨rfl, .inl ⟨rfl, rfl⟩⟩
  case round =>
    obtain ⟨hw, hrel⟩ := hrel
    obtain rfl : w = wr := hw.out.symm
    rcases hrel with ⟨rfl, rfl⟩ | ⟨rfl, rfl⟩ | ⟨rfl, rfl⟩
    · have hn : ¬ (t1.length : Int) < 0 := by omega
      go_wp2
      go_roundw
      case rel => exact ⟨trivial, .inr (.inl ⟨rfl, by simp⟩)⟩
      case measure => simp [intOf]
    · have hn : ¬ (t1.length : Int) + (t2.length : Int) < 0 := by omega
      go_wp2
      go_roundw
      case rel => exact ⟨trivial, .inr (.inr ⟨rfl, rfl⟩)⟩
      case measure => simp [intOf]
    · go_wp2_with fail
      refine HG.out.mono ?_
      rintro e w1 ⟨v, rfl, ho1, hb1⟩
      have HO1 : Hid (OwnF 47 w.heap.size v [] w1) := ho1
      have HB1 : Hid (Below w.heap.size w w1) := hb1
      clear ho1 hb1 hw
      go_wp2
      go_loopw [6, 27] (fun v i wr => ∃ t : List Fl, (i = .int .i64 0 ∧ t = [] ∨ i = .int .i64 1 ∧ t = t1 ∨ i = .int .i64 2 ∧ t = t1 ++ t2) ∧ Hid (OwnF 47 w.heap.size v t wr) ∧ Hid (Below w.heap.size w wr)) (fun _ i _ => 2 - (intOf i).toNat)
      case atStart => exact ⟨[], .inl ⟨rfl, rfl⟩, HO1, HB1⟩
      case round =>
        rename_i v6 i6
        obtain ⟨t, hit, hown, hbl⟩ := hrel
        rcases hit with ⟨rfl, rfl⟩ | ⟨rfl, rfl⟩ | ⟨rfl, rfl⟩
        ·
          obtain ⟨ax, cx, rfl⟩ := ownF_form hown.out
          have hsz := hbl.out.size
          have cb : wr.cell? ⟨b, 0, none⟩ = some (.slice a1 t1.length k1) := by rw [hbl.out.cell (World.block_lt_of_cell? w _ HC0.out)]; exact HC0.out
          have HIn : Hid (InF (.slice a1 t1.length k1) t1 wr) := H1.out.below hbl.out
          go_wp2_with (at_builtin; go_must (refine wp_appFs 47 25 infoF Tryz.underlying25 rfl (.tmp 31) (.tmp 32) rfl w.heap.size _ _ [] t1 rfl hown.out rfl HIn.out (by first | omega | (simp; omega)) hsz ?_); intro v5 w5 o5 b5)
          have O5 : Hid (OwnF 47 w.heap.size v5 t1 w5) := o5
          have B5 : Hid (Below w.heap.size w w5) := hbl.out.trans b5
          clear o5 b5 cb
          go_roundw
          case rel => exact ⟨t1, .inr (.inl ⟨rfl, rfl⟩), O5, B5⟩
          case measure => simp [intOf]
        ·
          obtain ⟨ax, cx, rfl⟩ := ownF_form hown.out
          have hsz := hbl.out.size
          have cb : wr.cell? ⟨b, 1, none⟩ = some (.slice a2 t2.length k2) := by rw [hbl.out.cell (World.block_lt_of_cell? w _ HC1.out)]; exact HC1.out
          have HIn : Hid (InF (.slice a2 t2.length k2) t2 wr) := H2.out.below hbl.out
          go_wp2_with (at_builtin; go_must (refine wp_appFs 47 25 infoF Tryz.underlying25 rfl (.tmp 31) (.tmp 32) rfl w.heap.size _ _ t t2 rfl hown.out rfl HIn.out (by first | omega | (simp; omega)) hsz ?_); intro v5 w5 o5 b5)
          have O5 : Hid (OwnF 47 w.heap.size v5 (t ++ t2) w5) := o5
          have B5 : Hid (Below w.heap.size w w5) := hbl.out.trans b5
          clear o5 b5 cb
          go_roundw
          case rel => exact ⟨t ++ t2, .inr (.inr ⟨rfl, rfl⟩), O5, B5⟩
          case measure => simp [intOf]
        · go_wp2
          go_ret
          exact ⟨_, rfl, hown.out, hbl.out⟩
end Ms
end Go.Proofs.YtdcfhnbagldilaaGreatDoor
set_option linter.unusedVariables false
set_option linter.unusedSimpArgs false
set_option maxRecDepth 100000
namespace Go.Proofs.YtdcfhnbagldilaaGreatDoor
open Go.RowKit Go.Shelf Go.Lib
namespace Ck
open Oc Tg _root_.Go.Proofs.YtdcfhnbagldilaaGreatDoor.Fd
theorem Ok.fin {s : DS} {k : Nat} (h : Ok s k) (e : Int) : Ok (fin s e) k := by
  refine ⟨Nat.le_refl _, h.most, h.room, h.fields, h.left, (fun h => by cases h), h.total, ?_, (fun h => absurd h (by show ¬ (5 : Nat) ≤ 3; decide)), (fun _ => rfl), ?_⟩
  · have := h.len
    show 0 + s.body.length + s.tr.length ≤ k
    omega
  · refine ⟨fun _ => ?_, fun _ => rfl⟩
    show (e == 0) = true ∨ e ≠ 0
    by_cases h : e = 0
    · exact .inl (by simp [h])
    · exact .inr h
theorem Ok.mono {s : DS} {k m : Nat} (h : Ok s k) (hm : k ≤ m) : Ok s m := ⟨h.mode, h.most, h.room, h.fields, h.left, h.pos, ⟨h.total.1, by have := h.total.2; omega⟩, by have := h.len; omega, h.size, h.bare, h.over⟩
theorem Ok.new (most room fields : Int) (h1 : 0 ≤ most ∧ most ≤ 9223372036854775807) (h2 : 0 ≤ room ∧ room ≤ 9223372036854775807) (h3 : 0 ≤ fields ∧ fields ≤ 9223372036854775807) : Ok (new most room fields) 0 := by
  refine ⟨Nat.zero_le _, h1, h2, h3, ⟨by show (0 : Int) ≤ 0; decide, by show (0 : Int) ≤ 1099511627776; decide⟩, (fun h => by cases h), ⟨by show (0 : Int) ≤ 0; decide, by show (0 : Int) ≤ 0; decide⟩, Nat.le_refl _, (fun _ => by show 0 < 256; decide), (fun _ => rfl), ?_⟩
  constructor
  · intro h; cases h
  · rintro (h | h)
    · cases h
    · exact absurd rfl h
theorem notOver {s : DS} {k : Nat} (h : Ok s k) (hm : s.mode ≠ 5) : ¬ (s.done = true ∨ s.err ≠ 0) := fun e => hm (h.over.2 e)
theorem Ok.re {s s' : DS} {k m : Nat} (h : Ok s k) (hm : s.mode ≠ 5) (hm' : s'.mode < 5) (hmo : 0 ≤ s'.most ∧ s'.most ≤ 9223372036854775807) (hro : 0 ≤ s'.room ∧ s'.room ≤ 9223372036854775807) (hfi : 0 ≤ s'.fields ∧ s'.fields ≤ 9223372036854775807)
    (hle : 0 ≤ s'.left ∧ s'.left ≤ 1099511627776) (hpo : s'.mode = 1 → 0 < s'.left) (hto : s'.total = s.total) (hlen : s'.line.length + s'.body.length + s'.tr.length ≤ m) (hkm : k ≤ m) (hsz : s'.mode ≤ 3 → s'.line.length < 256) (hba : s'.mode = 1 ∨ s'.mode = 2 ∨ s'.mode = 3 → s'.line = [])
    (hd : s'.done = s.done) (he : s'.err = s.err) : Ok s' m := by
  have ht := h.total
  refine ⟨by omega, hmo, hro, hfi, hle, hpo, by rw [hto]; omega, hlen, hsz, hba, ?_⟩
  rw [hd, he]
  exact ⟨fun e => by omega, fun e => absurd e (notOver h hm)⟩
theorem endSize_ok {s : DS} {k : Nat} (h : Ok { s with line := [] } k) (hm : s.mode ≠ 5) : Ok (endSize s) k := by
  have hq := sizeR_bd (said s)
  have hmo := h.most
  have hl := h.len
  simp only at hmo hl
  unfold endSize
  split
  · exact h.fin _
  · split
    · exact h.fin _
    · split
      · exact h.fin _
      · split
        · exact h.re hm (by show 4 < 5; decide) h.most h.room h.fields h.left (fun e => by cases e) rfl h.len (Nat.le_refl _) (fun e => by simp at e) (fun e => by simp at e) rfl rfl
        · rename_i h1 h2 h3 h4
          refine h.re hm (by show 1 < 5; decide) ⟨?_, ?_⟩ h.room h.fields ⟨?_, ?_⟩ (fun _ => ?_) rfl h.len (Nat.le_refl _) (fun _ => by show 0 < 256; decide) (fun _ => rfl) rfl rfl
          · show 0 ≤ s.most - (sizeR (said s)).1; omega
          · show s.most - (sizeR (said s)).1 ≤ _; omega
          · show 0 ≤ (sizeR (said s)).1; omega
          · show (sizeR (said s)).1 ≤ _; omega
          · show 0 < (sizeR (said s)).1; omega
theorem Ok.clear {s : DS} {k : Nat} (h : Ok s k) : Ok { s with line := [] } k :=
  ⟨h.mode, h.most, h.room, h.fields, h.left, h.pos, h.total, by have := h.len; show 0 + s.body.length + s.tr.length ≤ k; omega, (fun _ => by show 0 < 256; decide), (fun _ => rfl), h.over⟩
theorem inSize_ok {s : DS} {k : Nat} (h : Ok s k) (hm : s.mode = 0) (c : UInt8) : Ok (inSize s c) (k + 1) := by
  have hl := h.len
  have hz := h.size (by omega)
  unfold inSize
  split
  · exact endSize_ok (s := put s c) (h.clear.mono (Nat.le_succ _)) (by show s.mode ≠ 5; omega)
  · split
    · exact (h.clear.fin 100).mono (Nat.le_succ _)
    · refine h.re (by omega) (by show s.mode < 5; omega) h.most h.room h.fields h.left (fun e => h.pos e) rfl ?_ (Nat.le_succ _) (fun _ => ?_) (fun e => ?_) rfl rfl
      · show (s.line ++ [c]).length + s.body.length + s.tr.length ≤ k + 1
        simp; omega
      · show (s.line ++ [c]).length < 256
        simp; omega
      · have e' : s.mode = 1 ∨ s.mode = 2 ∨ s.mode = 3 := e
        omega
theorem inChunk_ok {s : DS} {k : Nat} (h : Ok s k) (hm : s.mode = 1) (t : List UInt8) (ht : (t.length : Int) ≤ s.left) : Ok (inChunk s t) (k + t.length) := by
  have hl := h.len
  have hle := h.left
  have hb := h.bare (by omega)
  refine h.re (by omega) ?_ h.most h.room h.fields ⟨?_, ?_⟩ ?_ rfl ?_ (by omega) ?_ ?_ rfl rfl
  · show (if s.left - (t.length : Int) = 0 then 2 else 1) < 5
    split <;> decide
  · show 0 ≤ s.left - (t.length : Int); omega
  · show s.left - (t.length : Int) ≤ _; omega
  · intro e
    show 0 < s.left - (t.length : Int)
    have e' : (if s.left - (t.length : Int) = 0 then 2 else 1) = 1 := e
    split at e'
    · cases e'
    · omega
  · show s.line.length + (s.body ++ t).length + s.tr.length ≤ k + t.length
    simp; omega
  · intro _; show s.line.length < 256; rw [hb]; decide
  · intro _; exact hb
theorem behindChunk_ok {s : DS} {k : Nat} (h : Ok s k) (hm : s.mode = 2) (c : UInt8) : Ok (behindChunk s c) (k + 1) := by
  have hl := h.len
  have hb := h.bare (by omega)
  have h3 : Ok { s with mode := 3 } (k + 1) := h.re (by omega) (by show 3 < 5; decide) h.most h.room h.fields h.left (fun e => by cases e) rfl (by show s.line.length + s.body.length + s.tr.length ≤ _; omega) (Nat.le_succ _) (fun _ => by show s.line.length < 256; rw [hb]; decide) (fun _ => hb) rfl rfl
  unfold behindChunk
  split
  · exact h3
  · exact h3.fin _
theorem behindReturn_ok {s : DS} {k : Nat} (h : Ok s k) (hm : s.mode = 3) (c : UInt8) : Ok (behindReturn s c) (k + 1) := by
  have hl := h.len
  have hb := h.bare (by omega)
  have h3 : Ok { s with mode := 0 } (k + 1) := h.re (by omega) (by show 0 < 5; decide) h.most h.room h.fields h.left (fun e => by cases e) rfl (by show s.line.length + s.body.length + s.tr.length ≤ _; omega) (Nat.le_succ _) (fun _ => by show s.line.length < 256; rw [hb]; decide) (fun e => hb) rfl rfl
  unfold behindReturn
  split
  · exact h3
  · exact h3.fin _
theorem keep_ok {s : DS} {k : Nat} (h : Ok s k) (hm : s.mode = 4) (hf : s.fields ≠ 0) (l : List UInt8) (hl : s.line.length + s.body.length + s.tr.length + 1 ≤ k) : Ok (keep s l) k := by
  have hfi := h.fields
  unfold keep
  split
  · exact h.fin _
  · refine h.re (by omega) (by show s.mode < 5; omega) h.most h.room ⟨?_, ?_⟩ h.left (fun e => h.pos e) rfl ?_ (Nat.le_refl _) (fun e => ?_) (fun e => ?_) rfl rfl
    · show 0 ≤ s.fields - 1; omega
    · show s.fields - 1 ≤ _; omega
    · show s.line.length + s.body.length + (s.tr ++ [(parseL l).1]).length ≤ k
      simp; omega
    · have e' : s.mode ≤ 3 := e
      omega
    · have e' : s.mode = 1 ∨ s.mode = 2 ∨ s.mode = 3 := e
      omega
theorem endTrailer_ok {s : DS} {k : Nat} (h : Ok { s with line := [] } k) (hm : s.mode = 4) (hl : s.body.length + s.tr.length + 1 ≤ k) : Ok (endTrailer s) k := by
  unfold endTrailer
  split
  · exact h.fin _
  · split
    · exact h.fin _
    · split
      · exact h.fin _
      · rename_i h3
        exact keep_ok h hm h3 _ (by show 0 + s.body.length + s.tr.length + 1 ≤ k; omega)
theorem inTrailers_ok {s : DS} {k : Nat} (h : Ok s k) (hm : s.mode = 4) (c : UInt8) : Ok (inTrailers s c) (k + 1) := by
  have hl := h.len
  have hr := h.room
  unfold inTrailers
  split
  · exact (h.fin _).mono (Nat.le_succ _)
  · rename_i h0
    have h1 : Ok { s with room := s.room - 1 } k := h.re (by omega) (by show s.mode < 5; omega) h.most ⟨by show 0 ≤ s.room - 1; omega, by show s.room - 1 ≤ _; omega⟩ h.fields h.left (fun e => h.pos e) rfl h.len (Nat.le_refl _) (fun e => h.size e) (fun e => h.bare e) rfl rfl
    split
    · exact endTrailer_ok (s := put { s with room := s.room - 1 } c) (h1.clear.mono (Nat.le_succ _)) hm (by show s.body.length + s.tr.length + 1 ≤ k + 1; omega)
    · refine h1.re (by show s.mode ≠ 5; omega) (by show s.mode < 5; omega) h1.most h1.room h1.fields h1.left (fun e => h1.pos e) rfl ?_ (Nat.le_succ _) (fun e => ?_) (fun e => ?_) rfl rfl
      · show (s.line ++ [c]).length + s.body.length + s.tr.length ≤ k + 1
        simp; omega
      · have e' : s.mode ≤ 3 := e
        omega
      · have e' : s.mode = 1 ∨ s.mode = 2 ∨ s.mode = 3 := e
        omega
theorem mode_cases {s : DS} {k : Nat} (h : Ok s k) (hm : s.mode ≠ 5) : s.mode = 0 ∨ s.mode = 1 ∨ s.mode = 2 ∨ s.mode = 3 ∨ s.mode = 4 := by
  have := h.mode
  omega
theorem bstep_ok {s : DS} {k : Nat} (h : Ok s k) (hm : s.mode ≠ 5) (c : UInt8) : Ok (bstep s c) (k + 1) := by
  unfold bstep
  rcases mode_cases h hm with e | e | e | e | e
  · rw [e]; exact inSize_ok h e c
  · rw [e]; exact inChunk_ok h e [c] (by have := h.pos e; simp; omega)
  · rw [e]; exact behindChunk_ok h e c
  · rw [e]; exact behindReturn_ok h e c
  · rw [e]; exact inTrailers_ok h e c
theorem eat_nil (s : DS) : eat s [] = (0, s) := by rw [eat]
theorem eat_over {s : DS} (h : s.mode = 5) (l : List UInt8) : eat s l = (0, s) := by
  cases l with
  | nil => exact eat_nil s
  | cons c t => rw [eat, if_pos h]
theorem eat_cons {s : DS} (h : s.mode ≠ 5) (c : UInt8) (t : List UInt8) : eat s (c :: t) = ((eat (bstep s c) t).1 + 1, (eat (bstep s c) t).2) := by rw [eat, if_neg h]
theorem eat_le : ∀ (l : List UInt8) (s : DS), (eat s l).1 ≤ l.length
  | [], s => by rw [eat_nil]; exact Nat.le_refl _
  | c :: t, s => by
    by_cases h : s.mode = 5
    · rw [eat_over h]; exact Nat.zero_le _
    · rw [eat_cons h]; have := eat_le t (bstep s c); simp; omega
theorem eat_ok : ∀ (l : List UInt8) (s : DS) (k : Nat), Ok s k → Ok (eat s l).2 (k + (eat s l).1)
  | [], s, k, h => by rw [eat_nil]; exact h
  | c :: t, s, k, h => by
    by_cases hm : s.mode = 5
    · rw [eat_over hm]; exact h
    · rw [eat_cons hm]
      have := eat_ok t (bstep s c) (k + 1) (bstep_ok h hm c)
      rw [show k + ((eat (bstep s c) t).1 + 1) = k + 1 + (eat (bstep s c) t).1 by omega]
      exact this
theorem eat_all : ∀ (l : List UInt8) (s : DS), (eat s l).2.mode ≠ 5 → (eat s l).1 = l.length
  | [], s, _ => by rw [eat_nil]; rfl
  | c :: t, s, h => by
    by_cases hm : s.mode = 5
    · rw [eat_over hm] at h; exact absurd hm h
    · rw [eat_cons hm] at h ⊢
      have := eat_all t (bstep s c) h
      simp [this]
theorem inChunk_cons {s : DS} {k : Nat} (h : Ok s k) (hm : s.mode = 1) (c d : UInt8) (t : List UInt8) (ht : ((c :: d :: t).length : Int) ≤ s.left) : inChunk (inChunk s [c]) (d :: t) = inChunk s (c :: d :: t) := by
  unfold inChunk
  simp only [List.length_cons, List.length_nil, List.append_assoc, List.singleton_append]
  have e : s.left - ((0 + 1 : Nat) : Int) - ((t.length + 1 : Nat) : Int) = s.left - ((t.length + 1 + 1 : Nat) : Int) := by omega
  simp only [e]
theorem eat_chunk : ∀ (t r : List UInt8) (s : DS) (k : Nat), Ok s k → s.mode = 1 → t ≠ [] → (t.length : Int) ≤ s.left → eat s (t ++ r) = (t.length + (eat (inChunk s t) r).1, (eat (inChunk s t) r).2)
  | [], r, s, k, h, hm, hn, ht => absurd rfl hn
  | [c], r, s, k, h, hm, hn, ht => by
    have e : bstep s c = inChunk s [c] := by unfold bstep; rw [hm]; rfl
    rw [List.singleton_append, eat_cons (by omega), e]
    simp; omega
  | c :: d :: t, r, s, k, h, hm, hn, ht => by
    have e : bstep s c = inChunk s [c] := by unfold bstep; rw [hm]; rfl
    have hk := inChunk_ok h hm [c] (by simp at ht ⊢; omega)
    have hm1 : (inChunk s [c]).mode = 1 := by
      show (if s.left - (([c] : List UInt8).length : Int) = 0 then 2 else 1) = 1
      rw [if_neg (by simp at ht ⊢; omega)]
    rw [List.cons_append, eat_cons (by omega), e, eat_chunk (d :: t) r (inChunk s [c]) _ hk hm1 (by simp) (by show _ ≤ s.left - (([c] : List UInt8).length : Int); simp at ht ⊢; omega), inChunk_cons h hm c d t ht]
    simp; omega
end Ck
end Go.Proofs.YtdcfhnbagldilaaGreatDoor
namespace Go.Proofs
open Go.Shelf
def Tryz.growB_ren : Go.Shelf.Ren := ⟨fun | 4 => 166 | n => n, fun | 22 => 53 | 25 => 5 | 3 => 3 | 4 => 4 | 9 => 9 | 20 => 20 | 0 => 0 | n => n, fun | n => n⟩
theorem Tryz.growB : Go.Proofs.Lays8.n4 Tryz.prog Tryz.growB_ren := {
  mixed := by kernel_rfl
  f4 := ⟨Tryz.f166.name, by decide, Tryz.func166.trans (congrArg some (by kernel_rfl))⟩
  t0 := Tryz.underlying0
  a0 := Tryz.isAgg0
  z0 := Tryz.sizeOf0
  v0 := Tryz.zeroValue0
  t3 := Tryz.underlying3
  a3 := Tryz.isAgg3
  z3 := Tryz.sizeOf3
  v3 := Tryz.zeroValue3
  t4 := Tryz.underlying4
  a4 := Tryz.isAgg4
  z4 := Tryz.sizeOf4
  v4 := Tryz.zeroValue4
  t9 := Tryz.underlying9
  a9 := Tryz.isAgg9
  z9 := Tryz.sizeOf9
  v9 := Tryz.zeroValue9
  t20 := Tryz.underlying20
  a20 := Tryz.isAgg20
  z20 := Tryz.sizeOf20
  v20 := Tryz.zeroValue20
  t22 := Tryz.underlying53
  a22 := Tryz.isAgg53
  z22 := Tryz.sizeOf53
  v22 := Tryz.zeroValue53 }
end Go.Proofs
set_option linter.unusedVariables false
set_option linter.unusedSimpArgs false
set_option maxRecDepth 100000
namespace Go.Proofs.YtdcfhnbagldilaaGreatDoor
open Go.RowKit Go.Shelf Go.Lib
namespace Ck
open Oc Tg _root_.Go.Proofs.YtdcfhnbagldilaaGreatDoor.Fd
theorem byteCells_ones (l : List UInt8) : ∀ v ∈ Lib.byteCells l, v.oneCell' = true := by
  intro v hv
  simp only [Lib.byteCells, List.mem_map] at hv
  obtain ⟨b, _, rfl⟩ := hv
  rfl
theorem run_copy_part (w : World) (g o k dCap : Nat) (s : ByteArray) (cur : Array Value) (ty : TypeId) (hg : w.heap[g]? = some (.cells cur 5 (0, 0))) (hle : k ≤ s.size) (hfit : o + k ≤ cur.size) :
    (Builtin.copy_ #[53, 9] ty #[.slice (some ⟨g, o, none⟩) k dCap, .string s]).run Tryz.prog w =
      .ok (goInt k) (w.setRow g (cur.toList.take o ++ Lib.byteCells (s.data.toList.take k) ++ cur.toList.drop (o + k)).toArray) := by
  have hk : (s.data.toList.take k).length = k := by rw [List.length_take, size_list]; omega
  have hlen : (Lib.byteCells (s.data.toList.take k)).length = k := by rw [Lib.byteCells_length, hk]
  have hst := run_storeCells_at Tryz.prog g o 5 (Lib.byteCells (s.data.toList.take k)) 0 cur w hg (by rw [hlen]; simpa using hfit) (byteCells_ones _)
  have hmin : Nat.min s.size k = k := Nat.min_eq_right hle
  have htk : List.take k (List.map (fun b : UInt8 => Value.int IntKind.u8 (b.toNat : Int)) s.data.toList) = Lib.byteCells (s.data.toList.take k) := by
    rw [← List.map_take]
    rfl
  rw [hlen] at hst
  simp only [Nat.add_zero] at hst
  obtain ⟨i0, hi, hz0, hz1, hz2⟩ := info5
  simp [Builtin.copy_, run_underlying Tryz.underlying53, Builtin.lenOf, Builtin.firstCells, sizeOf, typeInfo, hi, hz1, hmin]
  rw [htk, hst]
  simp [Result.andThen]
theorem grow_any {w : World} {a : Option Addr} {c : Nat} {l : List UInt8} (H : Own 0 (.slice a l.length c) l w) (k : Nat) (hk : 0 < k) (hb : l.length + k ≤ 4000000000000) :
    Calls Tryz.prog 166 #[.slice a l.length c, .int .i64 k] w fun e w' => ∃ g c', e = .returned (.slice (some ⟨g, 0, none⟩) l.length c') ∧ l.length + k ≤ c' ∧ c' ≤ maxLen ∧ (∃ cur, w'.heap[g]? = some (.cells cur 5 (0, 0)) ∧ cur.size = c' ∧ cur.toList.take l.length = Lib.byteCells l) ∧ Below w.heap.size w w' ∧ ((Value.slice a l.length c).ownBlock = some g ∨ w.heap.size ≤ g) := by
  obtain ⟨i0, hi, hz0, hz1, hz2⟩ := info5
  rcases H.2 with ⟨e, hn⟩ | ⟨g, cap, cur, e, hb0, hg, hnc, hcm, hcs, htk⟩
  · injection e with e1 e2 e3
    subst e1 e3
    have hl : l = [] := List.length_eq_zero_iff.1 hn
    have h := Any8.slices_Grow_grow Tryz.growB i0 (.int .u8 0) hi hz0 (by rw [hz1]; decide) none l.length 0 k [] w (by omega) (by omega) (by rw [hz2]; omega) (by omega) (by simp) (fun _ => rfl) (fun a h => by cases h)
    have hG := grownCap_ge w (l.length + k) 0 5
    have hM := grownCap_le_maxLen w (l.length + k) 0 5 (by unfold maxLen; omega)
    refine h.mono ?_
    rintro e w' ⟨rfl, rfl⟩
    refine ⟨w.heap.size, _, rfl, hG, hM, ⟨_, heap_alloc_new w.drew _, ?_, ?_⟩, (Below.refl _ w).drew.alloc (Nat.le_refl _) _, .inr (Nat.le_refl _)⟩
    · simp [size_zeroCells]
      have h1 : (Value.cells (.int .u8 0)).size = 1 := rfl
      rw [h1]
      have hG' : l.length + k ≤ grownCap w (l.length + k) 0 (Tryz.growB_ren.t 25) := hG
      omega
    · rw [hl]
      simp [Lib.byteCells]
  · injection e with e1 e2 e3
    subst e1 e3
    by_cases hroom : l.length + k ≤ c
    · have h := Any8.slices_Grow_room Tryz.growB (some ⟨g, 0, none⟩) l.length c k w hnc (by unfold maxLen at hcm; omega) (by omega) hroom
      refine h.mono ?_
      rintro e w' ⟨rfl, hw⟩
      rw [hw]
      exact ⟨g, c, rfl, hroom, hcm, ⟨cur, hg, by omega, by rw [← htk]; simp⟩, Below.refl _ _, .inl rfl⟩
    · have hcell : ∀ (a : Addr), (some ⟨g, 0, none⟩ : Option Addr) = some a → ∀ j v, cur.toList[j]? = some v → w.cell? (a.add j) = some v := by
        rintro a e j v hj
        injection e with e
        subst e
        rw [Addr.add_lit, cell_of_row w g _ _ _ _ hg]
        simpa using hj
      have h := Any8.slices_Grow_grow Tryz.growB i0 (.int .u8 0) hi hz0 (by rw [hz1]; decide) (some ⟨g, 0, none⟩) l.length c k cur.toList w hnc (by omega) (by rw [hz2]; omega) (by omega) (by rw [hz1]; simpa using hcs) (fun e => by cases e) hcell
      have hG := grownCap_ge w (l.length + k) c 5
      have hM := grownCap_le_maxLen w (l.length + k) c 5 (by unfold maxLen; omega)
      refine h.mono ?_
      rintro e w' ⟨rfl, rfl⟩
      refine ⟨w.heap.size, _, rfl, hG, hM, ⟨_, heap_alloc_new w.drew _, ?_, ?_⟩, (Below.refl _ w).drew.alloc (Nat.le_refl _) _, .inr (Nat.le_refl _)⟩
      · simp [size_zeroCells]
        have h1 : (Value.cells (.int .u8 0)).size = 1 := rfl
        rw [h1]
        have hG' : l.length + k ≤ grownCap w (l.length + k) c (Tryz.growB_ren.t 25) := hG
        omega
      · have hcz : cur.toList.length = c := by simpa using hcs
        simp only [Nat.mul_one] at htk
        rw [Array.toList_append, Array.toList_append, List.append_assoc, List.take_append_of_le_length (by simpa [hcz] using hnc)]
        simpa using htk
theorem IsD.fills {w w1 : World} {D g k c' : Nat} {s : DS} {vl vb vt : Value} {cur : Array Value} {x : List UInt8} (H : IsD w D s vl vb vt) (hb : Below w.heap.size w w1) (hg : w1.heap[g]? = some (.cells cur 5 (0, 0))) (hc : cur.size = c') (hm : c' ≤ maxLen) (htk : cur.toList.take s.body.length = Lib.byteCells s.body) (hx : x.length = k) (hkc : s.body.length + k ≤ c') (hgn : vb.ownBlock = some g ∨ w.heap.size ≤ g) :
    IsD ((w1.setCell ⟨D, 9, none⟩ (.slice (some ⟨g, 0, none⟩) (s.body.length + k) c')).setRow g (cur.toList.take s.body.length ++ Lib.byteCells x ++ cur.toList.drop (s.body.length + k)).toArray) D { s with body := s.body ++ x } vl (.slice (some ⟨g, 0, none⟩) (s.body.length + k) c') vt ∧
    Goes (ft D vl vb vt) w (ft D vl (.slice (some ⟨g, 0, none⟩) (s.body.length + k) c') vt) ((w1.setCell ⟨D, 9, none⟩ (.slice (some ⟨g, 0, none⟩) (s.body.length + k) c')).setRow g (cur.toList.take s.body.length ++ Lib.byteCells x ++ cur.toList.drop (s.body.length + k)).toArray) := by
  have H1 := H.below hb
  have hgD : g ≠ D := by
    intro e
    subst e
    rw [H1.str] at hg
    injection hg with e
    injection e with _ e2 _
    exact absurd e2 (by decide)
  have hcl : cur.toList.length = c' := by simpa using hc
  have hgl : ∀ y, vl.ownBlock = some y → y ≠ g := by
    intro y hy e
    subst e
    rcases hgn with e | e
    · exact H.sep y hy e
    · have := (World.ownsRow.lt H.line y hy).2
      omega
  have hgt : ∀ y, vt.ownBlock = some y → y ≠ g := by
    intro y hy e
    subst e
    rcases H1.tr.2 with ⟨rfl, _⟩ | ⟨g2, cap2, cur2, rfl, _, e2, _⟩
    · cases hy
    · have a2 : g2 = y := by simpa [Value.ownBlock] using hy
      subst a2
      rw [hg] at e2
      injection e2 with e
      injection e with _ e3 _
      exact absurd e3 (by decide)
  have hA := H1.at.set 9 (.slice (some ⟨g, 0, none⟩) (s.body.length + k) c')
  have hg2 : (w1.setCell ⟨D, 9, none⟩ (.slice (some ⟨g, 0, none⟩) (s.body.length + k) c')).heap[g]? = some (.cells cur 5 (0, 0)) := by rw [heap_setCell_other _ _ _ _ hgD]; exact hg
  have hg3 := setRow_heap _ g cur (cur.toList.take s.body.length ++ Lib.byteCells x ++ cur.toList.drop (s.body.length + k)).toArray _ _ hg2
  have B3 : But [D, g] w1 ((w1.setCell ⟨D, 9, none⟩ (.slice (some ⟨g, 0, none⟩) (s.body.length + k) c')).setRow g (cur.toList.take s.body.length ++ Lib.byteCells x ++ cur.toList.drop (s.body.length + k)).toArray) := (hA.but.mono (by simp)).setRow (by simp) _
  refine ⟨⟨?_, ?_, ?_, ?_, ?_⟩, goes_ft ?_ (fun y h => .inl h) ?_ (fun y h => .inl h)⟩
  · rw [setRow_other _ _ _ _ (Ne.symm hgD)]
    exact hA.str
  · exact B3.owns H1.line (fun y hy e => by
      simp at e
      rcases e with e | e
      · exact ne_row H1.str H1.line (by decide) hy e
      · exact hgl y hy e)
  · refine ⟨?_, .inr ⟨g, c', _, ?_, Nat.zero_le _, hg3, ?_, hm, ?_, ?_⟩⟩
    · simp [Lib.byteCells]
    · simp [hx]
    · simp [hx]; omega
    · simp only [List.size_toArray, List.length_append, List.length_take, List.length_drop, hcl, Lib.byteCells_length, hx]; omega
    · show List.take ((s.body ++ x).length * 1) (cur.toList.take s.body.length ++ Lib.byteCells x ++ cur.toList.drop (s.body.length + k)) = Lib.byteCells (s.body ++ x)
      rw [htk, Nat.mul_one, show Lib.byteCells s.body ++ Lib.byteCells x = Lib.byteCells (s.body ++ x) by simp [Lib.byteCells]]
      rw [List.take_append_of_le_length (by rw [Lib.byteCells_length]; exact Nat.le_refl _), List.take_of_length_le (by rw [Lib.byteCells_length]; exact Nat.le_refl _)]
  · exact B3.owns H1.tr (fun y hy e => by
      simp at e
      rcases e with e | e
      · exact ne_row H1.str H1.tr (by decide) hy e
      · exact hgt y hy e)
  · intro y hy e
    have : g = y := by simpa [Value.ownBlock] using e
    exact hgl y hy this.symm
  · refine ⟨B3.os.trans hb.os, B3.tape.trans hb.tape, B3.output.trans hb.output, Nat.le_trans hb.size B3.size, fun y hy hn => ?_⟩
    refine (B3.block y (Nat.lt_of_lt_of_le hy hb.size) (fun e => hn ?_)).trans (hb.block y hy)
    simp at e
    rcases e with rfl | rfl
    · simp [ft]
    · rcases hgn with e | e
      · simp [ft, e]
      · omega
  · intro y hy
    have : g = y := by simpa [Value.ownBlock] using hy
    subst this
    exact hgn
set_option maxHeartbeats 4000000 in
theorem inChunk_any {w : World} {D : Nat} {s : DS} {bs : List Nat} (H : Dec w D s bs) (t : ByteArray) (k : Nat) (hk : 0 < k) (hkt : k ≤ t.size) (hmin : min (t.size : Int) s.left = (k : Int)) (hts : t.size ≤ 4000000000) (hbl : s.body.length ≤ 4000000000) (hl1 : s.left ≤ 1099511627776) (hl0 : (k : Int) ≤ s.left) (hmo : s.mode = 1) :
    Calls Tryz.prog 146 #[.pointer (some ⟨D, 0, none⟩), .string t] w fun ex w' => ex = .returned (.int .i64 k) ∧ ∃ bs', Dec w' D (inChunk s (t.data.toList.take k)) bs' ∧ Goes bs w bs' w' := by
  obtain ⟨vl, vb, vt, H, rfl⟩ := H
  obtain ⟨a, c, rfl, hac, hcm, _⟩ := own_form H.body
  have HH : Hid (IsD w D s vl (.slice a s.body.length c) vt) := H
  have HGr : Hid (Calls Tryz.prog 166 #[.slice a s.body.length c, .int .i64 k] w fun e w' => ∃ g c', e = .returned (.slice (some ⟨g, 0, none⟩) s.body.length c') ∧ s.body.length + k ≤ c' ∧ c' ≤ maxLen ∧ (∃ cur, w'.heap[g]? = some (.cells cur 5 (0, 0)) ∧ cur.size = c' ∧ cur.toList.take s.body.length = Lib.byteCells s.body) ∧ Below w.heap.size w w' ∧ ((Value.slice a s.body.length c).ownBlock = some g ∨ w.heap.size ≤ g)) := grow_any H.body k hk (by omega)
  have hxl : (t.data.toList.take k).length = k := by rw [List.length_take, size_list]; omega
  have HXL : Hid ((t.data.toList.take k).length = k) := hxl
  have HIN : Hid (inChunk s (t.data.toList.take k) = { s with body := s.body ++ t.data.toList.take k, left := s.left - k, mode := if s.left - k = 0 then 2 else 1 }) := by
    show inChunk _ _ = _
    unfold inChunk
    rw [hxl]
  have HMO : Hid (s.mode = 1) := hmo
  obtain ⟨c0, c1, c2, c3, c4, c5, c6, c7, c8, c9, c10, cf⟩ := row11 H.str
  generalize hn : s.body.length = n at *
  have HN : Hid (s.body.length = n) := hn
  clear H hn hxl c0 c1 c2 c3 c4 c5 c7 c8 c10 hmo
  go_enter Tryz.func146, Tryz.ntmps146
  go_wp2_with fail
  refine HGr.out.mono ?_
  rintro e w1 ⟨g, c', rfl, hk1, hm1, ⟨cur, hcur, hcz, htk⟩, hb1, hgn⟩
  have H1 := HH.out.below hb1
  obtain ⟨_, _, _, _, _, _, d6, _, _, d9, _, df⟩ := row11 H1.str
  have P := IsD.fills HH.out hb1 hcur hcz hm1 (by rw [HN.out]; exact htk) HXL.out (by rw [HN.out]; exact hk1) hgn
  have hgD : g ≠ D := by
    intro e
    subst e
    rw [H1.str] at hcur
    injection hcur with e
    injection e with _ e2 _
    exact absurd e2 (by decide)
  have hg2 : (w1.setCell ⟨D, 9, none⟩ (.slice (some ⟨g, 0, none⟩) (n + k) c')).heap[g]? = some (.cells cur 5 (0, 0)) := by rw [heap_setCell_other _ _ _ _ hgD]; exact hcur
  have hcp := fun ty => run_copy_part _ g n k (c' - n) t cur ty hg2 hkt (by omega)
  rw [HN.out] at P
  obtain ⟨w3, hw3⟩ : ∃ w3, w3 = (w1.setCell ⟨D, 9, none⟩ (.slice (some ⟨g, 0, none⟩) (n + k) c')).setRow g (cur.toList.take n ++ Lib.byteCells (t.data.toList.take k) ++ cur.toList.drop (n + k)).toArray := ⟨_, rfl⟩
  rw [← hw3] at P hcp
  clear hw3
  have HI : Hid (IsD w3 D { s with body := s.body ++ t.data.toList.take k } vl (.slice (some ⟨g, 0, none⟩) (n + k) c') vt) := P.1
  have HG : Hid (Goes (ft D vl (.slice a n c) vt) w (ft D vl (.slice (some ⟨g, 0, none⟩) (n + k) c') vt) w3) := P.2
  obtain ⟨f0, _, _, _, _, _, f6, _, _, _, _, ff⟩ := row11 P.1.str
  clear P H1 hg2 htk hcur hgn hb1 c6 c9 cf HGr HH
  unfold maxLen at hm1
  simp only at f0 f6
  rw [HMO.out] at f0
  by_cases hz : s.left - k = 0
  · have hz1 : (s.left - (k : Int) == 0) = true := by rw [beq_iff_eq]; exact hz
    have HZ : Hid (s.left - k = 0) := hz
    have hA := (HI.out.at.set 6 (.int .i64 (s.left - k))).set 0 (fnV 2)
    have HF : Hid (IsD ((w3.setCell ⟨D, 6, none⟩ (.int .i64 (s.left - k))).setCell ⟨D, 0, none⟩ (fnV 2)) D (inChunk s (t.data.toList.take k)) vl (.slice (some ⟨g, 0, none⟩) (n + k) c') vt) := by
      show IsD _ _ _ _ _ _
      rw [HIN.out, if_pos hz]
      exact IsD.build HI.out.str hA rfl HI.out.line HI.out.body HI.out.tr HI.out.sep
    have HGo : Hid (Goes (ft D vl (.slice a n c) vt) w (ft D vl (.slice (some ⟨g, 0, none⟩) (n + k) c') vt) ((w3.setCell ⟨D, 6, none⟩ (.int .i64 (s.left - k))).setCell ⟨D, 0, none⟩ (fnV 2))) := HG.out.trans (goes_ft (hA.ftd _ _ _) (fun g h => .inl h) (fun g h => .inl h) (fun g h => .inl h))
    clear hA HI HG hz
    go_wp2
    go_ret
    exact ⟨rfl, _, ⟨_, _, _, HF.out, rfl⟩, HGo.out⟩
  · have hz1 : (s.left - (k : Int) == 0) = false := by rw [beq_eq_false_iff_ne]; exact hz
    have hA := HI.out.at.set 6 (.int .i64 (s.left - k))
    have HF : Hid (IsD (w3.setCell ⟨D, 6, none⟩ (.int .i64 (s.left - k))) D (inChunk s (t.data.toList.take k)) vl (.slice (some ⟨g, 0, none⟩) (n + k) c') vt) := by
      show IsD _ _ _ _ _ _
      rw [HIN.out, if_neg hz]
      refine IsD.build HI.out.str hA ?_ HI.out.line HI.out.body HI.out.tr HI.out.sep
      unfold cellsD
      rw [HMO.out]
      rfl
    have HGo : Hid (Goes (ft D vl (.slice a n c) vt) w (ft D vl (.slice (some ⟨g, 0, none⟩) (n + k) c') vt) (w3.setCell ⟨D, 6, none⟩ (.int .i64 (s.left - k)))) := HG.out.trans (goes_ft (hA.ftd _ _ _) (fun g h => .inl h) (fun g h => .inl h) (fun g h => .inl h))
    clear hA HI HG hz
    go_wp2
    go_ret
    exact ⟨rfl, _, ⟨_, _, _, HF.out, rfl⟩, HGo.out⟩
end Ck
end Go.Proofs.YtdcfhnbagldilaaGreatDoor
