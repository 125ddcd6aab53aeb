/- Several texts as one. -/
import Derived.Test.YtcelekfokbdmfaaGreatDoorMgU
import Derived.Test.YtcelekfokbdmfaaGreatDoorMgV
import Derived.Deep.RegionWith
import Derived.Test.YtcelekfokbdmfaaGreatDoorMgL
import Derived.Test.YtcelekfokbdmfaaGreatDoorMgH
/-
  chunk: Decode; the law's awake.
-/
set_option linter.unusedVariables false
set_option linter.unusedSimpArgs false
set_option maxRecDepth 100000
namespace Go.Proofs.YtcelekfokbdmfaaGreatDoor
open Go.RowKit Go.Shelf
namespace Ck
open Oc Tg _root_.Go.Proofs.YtcelekfokbdmfaaGreatDoor.Fd

/-- What Decode answers: body, trailers, bytes or place, error. -/
def decR (most room fields : Int) (l : List UInt8) : List UInt8 × List Fl × Int × Int :=
  if most < 0 ∨ room < 0 ∨ fields < 0 then ([], [], 0, 1)
  else if (eat (new most room fields) l).2.err ≠ 0 then ([], [], (eat (new most room fields) l).1 - 1, (eat (new most room fields) l).2.err)
  else if (eat (new most room fields) l).2.done = false then ([], [], (eat (new most room fields) l).1, 105)
  else ((eat (new most room fields) l).2.body, (eat (new most room fields) l).2.tr, (eat (new most room fields) l).1, 0)

theorem awakeR : decR 2 8 1 [50, 13, 10, 97, 98, 13, 10, 48, 13, 10, 65, 58, 32, 49, 13, 10, 13, 10, 120] = ([97, 98], [([65], [49])], 18, 0) := by decide +kernel

end Ck
end Go.Proofs.YtcelekfokbdmfaaGreatDoor

/-
  Of the document: hex.
-/
set_option linter.unusedVariables false
set_option linter.unusedSimpArgs false
set_option maxRecDepth 100000
namespace Go.Proofs.YtcelekfokbdmfaaGreatDoor
open Go.RowKit Go.Shelf
namespace Ck
open Oc Tg _root_.Go.Proofs.YtcelekfokbdmfaaGreatDoor.Fd

def digs : List UInt8 := [48, 49, 50, 51, 52, 53, 54, 55, 56, 57, 97, 98, 99, 100, 101, 102]
/-- What a hexadecimal digit says; -1: it is none. -/
def hexV (c : UInt8) : Int := if hexB c then valI (c.toNat : Int) else -1
theorem hexV_all : ∀ n : Fin 256, hexV (UInt8.ofNat n.val) = match digs.findIdx? (· == lowB (UInt8.ofNat n.val)) with | some k => (k : Int) | none => -1 := by decide +kernel
theorem hexV_eq (c : UInt8) : hexV c = match digs.findIdx? (· == lowB c) with | some k => (k : Int) | none => -1 := by
  have h := hexV_all ⟨c.toNat, c.toNat_lt⟩
  simpa using h
theorem hexV_hit (c : UInt8) (k : Nat) (hk : k < 16) (h1 : digs.getD k 0 = lowB c) (h2 : ∀ j, j < k → digs.getD j 0 ≠ lowB c) : hexV c = k := by
  rw [hexV_eq]
  have : digs.findIdx? (· == lowB c) = some k := by
    rw [List.findIdx?_eq_some_iff_getElem]
    refine ⟨hk, ?_, fun j hj => ?_⟩
    · have : digs[k]'hk = digs.getD k 0 := by rw [List.getD_eq_getElem?_getD, List.getElem?_eq_getElem hk]; rfl
      rw [this, h1]
      simp
    · have hj16 : j < digs.length := Nat.lt_trans hj hk
      have : digs[j]'hj16 = digs.getD j 0 := by rw [List.getD_eq_getElem?_getD, List.getElem?_eq_getElem hj16]; rfl
      rw [this]
      simpa using h2 j hj
  rw [this]
theorem hexV_miss (c : UInt8) (h : ∀ j, j < 16 → digs.getD j 0 ≠ lowB c) : hexV c = -1 := by
  rw [hexV_eq]
  have : digs.findIdx? (· == lowB c) = none := by
    rw [List.findIdx?_eq_none_iff]
    intro x hx
    obtain ⟨j, hj, rfl⟩ := List.mem_iff_getElem.1 hx
    have := h j hj
    rw [List.getD_eq_getElem?_getD, List.getElem?_eq_getElem hj] at this
    simpa using this
  rw [this]

theorem dig_slice : ∀ k, k < 16 → (⟨#[48, 49, 50, 51, 52, 53, 54, 55, 56, 57, 97, 98, 99, 100, 101, 102]⟩ : ByteArray).extract k (k + 1) = str [digs.getD k 0] := fun k hk => match k, hk with
  | 0, _ => rfl
  | 1, _ => rfl
  | 2, _ => rfl
  | 3, _ => rfl
  | 4, _ => rfl
  | 5, _ => rfl
  | 6, _ => rfl
  | 7, _ => rfl
  | 8, _ => rfl
  | 9, _ => rfl
  | 10, _ => rfl
  | 11, _ => rfl
  | 12, _ => rfl
  | 13, _ => rfl
  | 14, _ => rfl
  | 15, _ => rfl
  | n + 16, h => absurd h (by omega)

set_option maxHeartbeats 2000000 in
theorem rhex_any (c : UInt8) (w : World) :
    Calls Tryz.prog 141 #[.int .u8 (c.toNat : Int)] w fun e w' => e = .returned (.int .i64 (hexV c)) ∧ Below w.heap.size w w' := by
  obtain ⟨x, hx⟩ : ∃ x, x = (c.toNat : Int) := ⟨_, rfl⟩
  have HX : Hid (x = (c.toNat : Int)) := hx
  rw [← hx]
  clear hx
  have HL : Hid (∀ w, Calls Tryz.prog 100 #[.string (str [c])] w fun e w' => e = .returned (.string (str [lowB c])) ∧ Below w.heap.size w w') := fun w => by
    have h := Fd.rLower_any (str [c]) (by rw [str_size]; simp [maxLen]) w
    unfold lowS at h
    rw [str_list] at h
    exact h
  go_enter Tryz.func141, Tryz.ntmps141
  go_wp2
  go_loopw [4] (fun i wr => ∃ k : Nat, k ≤ 16 ∧ i = .int .i64 k ∧ Hid (∀ j, j < k → digs.getD j 0 ≠ lowB c) ∧ Hid (Below w.heap.size w wr)) (fun i _ => 16 - (intOf i).toNat)
  case atStart => exact ⟨0, by omega, rfl, (fun j hj => by omega : ∀ j, j < 0 → _), Below.refl _ _⟩
  case round =>
    obtain ⟨k, hk, rfl, hno, hbl⟩ := hrel
    by_cases hlt : k < 16
    · have hcv : ∀ W : World, (convert 81 9 (.slice (some ⟨W.heap.size, 0, none⟩) 1 1)).run Tryz.prog (W.alloc (.cells #[.int .u8 x] 5)) = .ok (.string (str [c])) (W.alloc (.cells #[.int .u8 x] 5)) := fun W => own_back (own_one W x c HX.out)
      have hcv2 : (convert 81 9 (.slice (some ⟨wr.heap.size, 0, none⟩) 1 1)).run Tryz.prog (wr.alloc (.cells #[.int .u8 x] 5)).drew = .ok (.string (str [c])) (wr.alloc (.cells #[.int .u8 x] 5)).drew := own_back (B := wr.heap.size) ((But.refl [] _).drew.owns (own_one wr x c HX.out) (fun _ _ e => by cases e))
      have hwk : IntKind.i64.wrap ((k : Int) + 1) = (k : Int) + 1 := by rw [IntKind.wrap_i64]; omega
      by_cases hit : digs.getD k 0 = lowB c
      · have q : ((str [lowB c]).toList == ((⟨#[48, 49, 50, 51, 52, 53, 54, 55, 56, 57, 97, 98, 99, 100, 101, 102]⟩ : ByteArray).extract k (k + 1)).toList) = true := by
          rw [dig_slice k hlt, hit]; simp
        have HH : Hid (hexV c = k) := hexV_hit c k hlt hit hno.out
        go_wp2_with fail
        go_region_with (go_at_call 100; refine (HL.out _).mono ?_; rintro e w2 ⟨rfl, hb2⟩; have HB2 : Hid (Below w.heap.size w w2) := bel_trans hbl.out (bel_trans ((Below.refl _ wr).alloc (Nat.le_refl _) _).drew hb2); clear hb2)
        all_goals
          go_simp
          go_wp2
          go_ret
          exact ⟨ret_int (by rw [HH.out]), HB2.out⟩
      · have q : ((str [lowB c]).toList == ((⟨#[48, 49, 50, 51, 52, 53, 54, 55, 56, 57, 97, 98, 99, 100, 101, 102]⟩ : ByteArray).extract k (k + 1)).toList) = false := by
          rw [dig_slice k hlt, eq_toList, decide_eq_false_iff_not]
          intro e
          have e2 := str_inj e
          injection e2 with e2 _
          exact hit e2.symm
        have HN : Hid (∀ j, j < k + 1 → digs.getD j 0 ≠ lowB c) := (fun j hj => by
          by_cases hjk : j = k
          · subst hjk; exact hit
          · exact hno.out j (by omega) : ∀ j, j < k + 1 → digs.getD j 0 ≠ lowB c)
        go_wp2_with fail
        go_region_with (go_at_call 100; refine (HL.out _).mono ?_; rintro e w2 ⟨rfl, hb2⟩; have HB2 : Hid (Below w.heap.size w w2) := bel_trans hbl.out (bel_trans ((Below.refl _ wr).alloc (Nat.le_refl _) _).drew hb2); clear hb2)
        all_goals
          go_simp
          go_wp2
          go_roundw
          case rel => exact ⟨k + 1, by omega, by go_num, HN, HB2.out⟩
          case measure => simp [intOf]; omega
    · have HH : Hid (hexV c = -1) := hexV_miss c (fun j hj => hno.out j (by omega))
      go_wp2
      go_ret
      exact ⟨ret_int (by rw [HH.out]), hbl.out⟩

end Ck
end Go.Proofs.YtcelekfokbdmfaaGreatDoor

/-
  Of the document: past, sign, said.
-/
set_option linter.unusedVariables false
set_option linter.unusedSimpArgs false
set_option maxRecDepth 100000
namespace Go.Proofs.YtcelekfokbdmfaaGreatDoor
open Go.RowKit Go.Shelf
namespace Ck
open Oc Tg _root_.Go.Proofs.YtcelekfokbdmfaaGreatDoor.Fd

theorem bl_cons (c : UInt8) (l : List UInt8) : bl (c :: l) = if blankB c then bl l + 1 else 0 := by
  unfold bl
  rw [List.takeWhile_cons]
  split <;> simp
theorem tok_cons (c : UInt8) (l : List UInt8) : tokLen (c :: l) = if tokB c then tokLen l + 1 else 0 := by
  unfold tokLen
  rw [List.takeWhile_cons]
  split <;> simp

set_option maxHeartbeats 1000000 in
theorem rpast_any (s : ByteArray) (hs : s.size ≤ 4000000) (a : Nat) (ha : a ≤ s.size) (w : World) :
    Calls Tryz.prog 157 #[.string s, .int .i64 a] w fun e w' => e = .returned (.int .i64 ((a + bl (s.data.toList.drop a) : Nat) : Int)) ∧ w' = w := by
  go_enter Tryz.func157, Tryz.ntmps157
  go_wp2
  go_loop [1] (fun v => ∃ k : Nat, k ≤ s.size ∧ v = .int .i64 k ∧ Hid (a + bl (s.data.toList.drop a) = k + bl (s.data.toList.drop k))) (fun v => s.size - (intOf v).toNat)
  case atStart => exact ⟨a, ha, rfl, rfl⟩
  case round =>
    obtain ⟨k, hk, rfl, he⟩ := hrel
    by_cases hlt : k < s.size
    · have hby : ((s[k].toNat : Nat) : Int) = byt s k := byt_at s k hlt
      obtain ⟨b0, b1⟩ := byt_bd s k
      have HD : Hid (s.data.toList.drop k = s.data.toList.getD k 0 :: s.data.toList.drop (k + 1)) := drop_cons _ k (by rw [size_list]; exact hlt)
      have HB : Hid (blankB (s.data.toList.getD k 0) = blankI (byt s k)) := rfl
      cases hbk : blankI (byt s k) with
      | true =>
        have HN : Hid (a + bl (s.data.toList.drop a) = (k + 1) + bl (s.data.toList.drop (k + 1))) := by
          show _ = _
          rw [he.out, HD.out, bl_cons, HB.out, hbk]
          simp; omega
        go_wp2_with fail
        refine (rBlank_any (byt s k) b0 (by omega) _).mono ?_
        rintro e w2 ⟨rfl, hw⟩
        rw [hw, hbk]
        go_wp2
        go_round
        case rel => exact ⟨k + 1, by omega, by go_num, HN⟩
        case measure => simp [intOf]; omega
      | false =>
        have HN : Hid (a + bl (s.data.toList.drop a) = k) := by
          show _ = _
          rw [he.out, HD.out, bl_cons, HB.out, hbk]
          simp
        go_wp2_with fail
        refine (rBlank_any (byt s k) b0 (by omega) _).mono ?_
        rintro e w2 ⟨rfl, hw⟩
        rw [hw, hbk]
        go_wp2
        go_ret
        exact ⟨ret_int (by have := HN.out; omega), rfl⟩
    · have HN : Hid (a + bl (s.data.toList.drop a) = k) := by
        show _ = _
        rw [he.out, List.drop_eq_nil_of_le (by rw [size_list]; omega)]
        rfl
      go_wp2
      go_ret
      exact ⟨ret_int (by have := HN.out; omega), rfl⟩

set_option maxHeartbeats 1000000 in
theorem rsign_any (s : ByteArray) (hs : s.size ≤ 4000000) (a : Nat) (ha : a ≤ s.size) (w : World) :
    Calls Tryz.prog 158 #[.string s, .int .i64 a] w fun e w' => e = .returned (.int .i64 ((tokLen (s.data.toList.drop a) : Nat) : Int)) ∧ w' = w := by
  go_enter Tryz.func158, Tryz.ntmps158
  go_wp2
  go_loop [5] (fun v => ∃ k : Nat, a + k ≤ s.size ∧ v = .int .i64 k ∧ Hid (tokLen (s.data.toList.drop a) = k + tokLen (s.data.toList.drop (a + k)))) (fun v => s.size - (intOf v).toNat)
  case atStart => exact ⟨0, ha, rfl, (by simp : tokLen (s.data.toList.drop a) = 0 + tokLen (s.data.toList.drop (a + 0)))⟩
  case round =>
    obtain ⟨k, hk, rfl, he⟩ := hrel
    by_cases hlt : a + k < s.size
    · have hlt' : (a : Int) + (k : Int) < (s.size : Int) := by omega
      have hnn : (0 : Int) ≤ (a : Int) + (k : Int) := by omega
      have htn : ((a : Int) + (k : Int)).toNat = a + k := by omega
      have hby : ((s[a + k].toNat : Nat) : Int) = byt s (a + k) := byt_at s (a + k) hlt
      obtain ⟨b0, b1⟩ := byt_bd s (a + k)
      have HD : Hid (s.data.toList.drop (a + k) = s.data.toList.getD (a + k) 0 :: s.data.toList.drop (a + k + 1)) := drop_cons _ (a + k) (by rw [size_list]; exact hlt)
      have HB : Hid (tokB (s.data.toList.getD (a + k) 0) = tokI (byt s (a + k))) := rfl
      cases hbk : tokI (byt s (a + k)) with
      | true =>
        have HN : Hid (tokLen (s.data.toList.drop a) = (k + 1) + tokLen (s.data.toList.drop (a + (k + 1)))) := by
          show _ = _
          rw [he.out, HD.out, tok_cons, HB.out, hbk, show a + (k + 1) = a + k + 1 by omega]
          simp; omega
        go_wp2_with fail
        refine (rSign_any (byt s (a + k)) b0 (by omega) _).mono ?_
        rintro e w2 ⟨rfl, hw⟩
        rw [hw, hbk]
        go_wp2
        go_round
        case rel => exact ⟨k + 1, by omega, by go_num, HN⟩
        case measure => simp [intOf]; omega
      | false =>
        have HN : Hid (tokLen (s.data.toList.drop a) = k) := by
          show _ = _
          rw [he.out, HD.out, tok_cons, HB.out, hbk]
          simp
        go_wp2_with fail
        refine (rSign_any (byt s (a + k)) b0 (by omega) _).mono ?_
        rintro e w2 ⟨rfl, hw⟩
        rw [hw, hbk]
        go_wp2
        go_ret
        exact ⟨ret_int (by have := HN.out; omega), rfl⟩
    · have HN : Hid (tokLen (s.data.toList.drop a) = k) := by
        show _ = _
        rw [he.out, List.drop_eq_nil_of_le (by rw [size_list]; omega)]
        rfl
      have hlt' : ¬ ((a : Int) + (k : Int) < (s.size : Int)) := by omega
      go_wp2
      go_ret
      exact ⟨ret_int (by have := HN.out; omega), rfl⟩

end Ck
end Go.Proofs.YtcelekfokbdmfaaGreatDoor

/-
  Parameters held against parameters: the law's own 'alike'.
-/
set_option linter.unusedVariables false
set_option linter.unusedSimpArgs false
namespace Go.Proofs.YtcelekfokbdmfaaGreatDoor
open Go.RowKit Go.Shelf
namespace Oc

def nth (t : List Prm) (j : Nat) : Prm := t.getD j ([], [], false)
/-- A slice that reads as these parameters. -/
def RdP (v : Value) (t : List Prm) (w : World) : Prop :=
  ∃ a c, v = .slice a t.length c ∧ (t = [] ∨ ∃ g o, a = some ⟨g, o, none⟩ ∧ t.length ≤ c ∧ ∀ j, j < t.length → w.cell? ⟨g, o + j * 3, none⟩ = some (.string (str (nth t j).1)) ∧ w.cell? ⟨g, o + j * 3 + 1, none⟩ = some (.string (str (nth t j).2.1)) ∧ w.cell? ⟨g, o + j * 3 + 2, none⟩ = some (.bool (nth t j).2.2))
theorem encP_at : ∀ (t : List Prm) (j : Nat), j < t.length → (encP t)[j * 3]? = some (.string (str (nth t j).1)) ∧ (encP t)[j * 3 + 1]? = some (.string (str (nth t j).2.1)) ∧ (encP t)[j * 3 + 2]? = some (.bool (nth t j).2.2)
  | [], j, h => by simp at h
  | p :: t, 0, _ => ⟨rfl, rfl, rfl⟩
  | p :: t, j + 1, h => by
    have ih := encP_at t j (by simpa using h)
    have e : encP (p :: t) = [.string (str p.1), .string (str p.2.1), .bool p.2.2] ++ encP t := rfl
    rw [e]
    have n : nth (p :: t) (j + 1) = nth t j := by unfold nth; simp
    rw [n, show (j + 1) * 3 = j * 3 + 3 by omega, show j * 3 + 3 + 1 = (j * 3 + 1) + 3 by omega, show j * 3 + 3 + 2 = (j * 3 + 2) + 3 by omega]
    exact ih
theorem OwnP.rd {T B : Nat} {v : Value} {t : List Prm} {w : World} (h : OwnP T B v t w) : RdP v t w := by
  have hall := h
  rcases h.2 with ⟨rfl, h0⟩ | ⟨g, cap, cur, rfl, _, hg, hn, _⟩
  · exact ⟨none, 0, by rw [h0], .inl (List.length_eq_zero_iff.1 h0)⟩
  · refine ⟨_, _, rfl, .inr ⟨g, 0, rfl, by omega, fun j hj => ?_⟩⟩
    obtain ⟨e0, e1, e2⟩ := encP_at t j hj
    have ea : ∀ k, Addr.add ⟨g, 0, none⟩ k = ⟨g, 0 + k, none⟩ := fun k => by unfold Addr.add; split <;> simp_all
    have c0 := World.ownsRow.cells hall (g := g) rfl _ _ e0
    have c1 := World.ownsRow.cells hall (g := g) rfl _ _ e1
    have c2 := World.ownsRow.cells hall (g := g) rfl _ _ e2
    rw [ea] at c0 c1 c2
    exact ⟨c0, c1, c2⟩
theorem RdP.below {v : Value} {t : List Prm} {w w' : World} (h : RdP v t w) (b : Below w.heap.size w w') : RdP v t w' := by
  obtain ⟨a, c, rfl, h⟩ := h
  refine ⟨a, c, rfl, ?_⟩
  rcases h with h | ⟨g, o, e, hc, hcell⟩
  · exact .inl h
  · refine .inr ⟨g, o, e, hc, fun j hj => ?_⟩
    obtain ⟨h1, h2, h3⟩ := hcell j hj
    rw [b.cell (p := ⟨g, o + j * 3, none⟩) (World.block_lt_of_cell? w _ h1), b.cell (p := ⟨g, o + j * 3 + 1, none⟩) (World.block_lt_of_cell? w _ h2), b.cell (p := ⟨g, o + j * 3 + 2, none⟩) (World.block_lt_of_cell? w _ h3)]
    exact ⟨h1, h2, h3⟩

theorem pgo_short : ∀ (f : Nat) (r : List UInt8) (y : List Prm × Nat), pgo f r = some y → y.1.length ≤ r.length
  | 0, r, y, h => by cases h
  | f + 1, r, y, h => by
    rw [pgo] at h
    cases hp : pstep r with
    | none => rw [hp] at h; cases h
    | some o =>
      rw [hp] at h
      cases o with
      | none => cases h; exact Nat.zero_le _
      | some x =>
        have hx := pstep_le r x hp
        obtain ⟨z, hz, e⟩ := Option.map_eq_some_iff.1 h
        have ih := pgo_short f _ z hz
        rw [List.length_drop] at ih
        cases e
        show (x.2 ++ z.1).length ≤ _
        rw [List.length_append]
        omega
theorem paramsR_short (l : List UInt8) : (paramsR l).1.length ≤ l.length := by
  unfold paramsR
  cases h : prm l with
  | none => exact Nat.zero_le _
  | some y => exact pgo_short _ _ _ h

end Oc
end Go.Proofs.YtcelekfokbdmfaaGreatDoor
