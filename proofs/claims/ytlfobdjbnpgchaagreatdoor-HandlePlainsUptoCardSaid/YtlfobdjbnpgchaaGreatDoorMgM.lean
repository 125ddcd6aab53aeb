/- Several texts as one. -/
import Derived.Test.YtlfobdjbnpgchaaGreatDoorFBd
import Derived.Test.YtlfobdjbnpgchaaGreatDoorMgK
import Derived.Test.YtlfobdjbnpgchaaGreatDoorMgD
import Derived.Test.YtlfobdjbnpgchaaGreatDoorMgL
import Derived.Test.YtlfobdjbnpgchaaGreatDoorMgF
/-
  check, PrintLine, Print; the document's.
-/
set_option linter.unusedVariables false
set_option linter.unusedSimpArgs false
namespace Go.Proofs.YtlfobdjbnpgchaaGreatDoor
open Go.RowKit Go.Shelf
namespace Fd
open Oc Tg

/-- What is not right of a field. -/
def chkZ (p : Fl) : Int := if isName p.1 then if isValue p.2 then 0 else 61 else 60
def lineP (p : Fl) : List UInt8 := if p.2 = [] then p.1 ++ [58] else p.1 ++ [58] ++ [32] ++ p.2
def printL (p : Fl) : List UInt8 × Int := if chkZ p = 0 then (lineP p, 0) else ([], chkZ p)
def printG : List Fl → List UInt8 → List UInt8 × Int
  | [], acc => (acc, 0)
  | p :: t, acc => if chkZ p = 0 then printG t (acc ++ lineP p ++ [13, 10]) else ([], chkZ p)
def printT (t : List Fl) : List UInt8 × Int := if 100 < t.length then ([], 65) else printG t []
theorem chk_cases (p : Fl) : (chkZ p = 0 ∧ isName p.1 = true ∧ isValue p.2 = true) ∨ (chkZ p = 61 ∧ isName p.1 = true ∧ isValue p.2 = false) ∨ (chkZ p = 60 ∧ isName p.1 = false) := by
  unfold chkZ
  cases h1 : isName p.1 with
  | false => exact .inr (.inr ⟨rfl, rfl⟩)
  | true =>
    cases h2 : isValue p.2 with
    | false => exact .inr (.inl ⟨rfl, rfl, rfl⟩)
    | true => exact .inl ⟨rfl, rfl, rfl⟩
theorem drop_nth (t : List Fl) (k : Nat) (h : k < t.length) : t.drop k = nth t k :: t.drop (k + 1) := by
  rw [List.drop_eq_getElem_cons h]
  unfold nth
  rw [List.getD_eq_getElem?_getD, List.getElem?_eq_getElem h]
  rfl
theorem lineP_len (p : Fl) : (lineP p).length ≤ szF p := by
  unfold lineP szF
  split
  · simp; omega
  · simp; omega
theorem str_app (a b : List UInt8) : str a ++ str b = str (a ++ b) := by
  apply eq_list
  rw [ByteArray.data_append, Array.toList_append, str_list, str_list, str_list]
theorem join_str (a b : ByteArray) : (a ++ b) = str (a.data.toList ++ b.data.toList) := by
  conv => lhs; rw [← str_self a, ← str_self b]
  rw [str_app]

end Fd
end Go.Proofs.YtlfobdjbnpgchaaGreatDoor

/-
  The document's All, Joined, List, Tokens, In, Has.
-/
set_option linter.unusedVariables false
set_option linter.unusedSimpArgs false
namespace Go.Proofs.YtlfobdjbnpgchaaGreatDoor
open Go.RowKit Go.Shelf
namespace Fd
open Oc Tg

theorem vals_take (s : List UInt8) (t : List Fl) (k : Nat) (h : k < t.length) : vals s (t.take (k + 1)) = if alike s (nth t k) then vals s (t.take k) ++ [(nth t k).2] else vals s (t.take k) := by
  unfold vals
  rw [filter_take (alike s) t k h]
  split
  · rw [List.map_append]; rfl
  · rfl
theorem vals_len (s : List UInt8) (t : List Fl) : (vals s t).length ≤ t.length := by unfold vals; rw [List.length_map]; exact List.length_filter_le _ _

set_option maxRecDepth 100000 in
set_option maxHeartbeats 2000000 in
theorem rAll_any (v : Value) (t : List Fl) (s : List UInt8) (hs : s.length ≤ 1048576) (hM : Each 1048576 t) (hl : t.length ≤ 16777216) (w : World) (hrd : RdF v t w) :
    Calls Tryz.prog 55 #[v, .string (str s)] w fun e w' => ∃ u, e = .returned u ∧ OwnS w.heap.size u (vals s t) w' ∧ Below w.heap.size w w' := by
  have HR : Hid (RdF v t w) := hrd
  have HM : Hid (Each 1048576 t) := hM
  have HAk : Hid (∀ (p : Fl) w, p.1.length ≤ 1048576 → Calls Tryz.prog 92 #[.string (str p.1), .string (str s)] w fun e w' => e = .returned (.bool (alike s p)) ∧ Below w.heap.size w w') := fun p w h => by
    have h := rAlike_any (str p.1) (str s) (by rw [str_size]; unfold maxLen; omega) (by rw [str_size]; unfold maxLen; omega) w
    rw [low_alike] at h
    exact h
  obtain ⟨a, c, rfl, _⟩ := hrd
  clear hM hs
  generalize hS : str s = S at *
  clear hS
  go_enter Tryz.func55, Tryz.ntmps55
  go_wp2
  go_loopw [5, 10] (fun ov i wr => ∃ k : Nat, k ≤ t.length ∧ i = .int .i64 k ∧ Hid (OwnS w.heap.size ov (vals s (t.take k)) wr) ∧ Hid (Below w.heap.size w wr)) (fun _ i _ => t.length - (intOf i).toNat)
  case atStart => exact ⟨0, Nat.zero_le _, rfl, ownS_nil _ _, Below.refl _ _⟩
  case round =>
    obtain ⟨k, hk, rfl, hown, hbl⟩ := hrel
    by_cases hlt : k < t.length
    · obtain ⟨a', c', e', hcs⟩ := HR.out.below hbl.out
      injection e' with e1 _ e2
      subst e1 e2
      rcases hcs with h | ⟨g, o, rfl, hlc, hcell⟩
      · rw [h] at hlt; simp at hlt
      obtain ⟨p0, p1⟩ := hcell k hlt
      have hEk := HM.out.at k hlt
      have hvt := vals_take s t k hlt
      have TT : alike s (nth t k) = true → Hid (vals s (t.take (k + 1)) = vals s (t.take k) ++ [(nth t k).2]) := fun h => by
        have := hvt
        rw [if_pos h] at this
        exact this
      have FF : alike s (nth t k) = false → Hid (vals s (t.take (k + 1)) = vals s (t.take k)) := fun h => by
        have := hvt
        rw [if_neg (by rw [h]; simp)] at this
        exact this
      have HC : Hid (∀ w, Calls Tryz.prog 92 #[.string (str (nth t k).1), .string S] w fun e w' => e = .returned (.bool (alike s (nth t k))) ∧ Below w.heap.size w w') := fun w => HAk.out _ w hEk.1
      have hlk : (vals s (t.take k)).length + 1 ≤ 4294967296 := by
        have := vals_len s (t.take k)
        rw [List.length_take] at this
        omega
      clear hcell hEk hvt
      generalize alike s (nth t k) = b at HC TT FF
      generalize nth t k = p at *
      obtain ⟨pn, pv⟩ := p
      dsimp only at p0 p1 HC TT
      generalize hn : str pn = N at *
      clear hn
      have hb1 : Below wr.heap.size wr (wr.alloc (.cells #[.string N, .string (str pv)] 52)) := (Below.refl _ wr).alloc (Nat.le_refl _) _
      have HB1 : Hid (Below w.heap.size w (wr.alloc (.cells #[.string N, .string (str pv)] 52))) := bel_trans hbl.out hb1
      have HO1 : Hid (OwnS w.heap.size _ (vals s (t.take k)) (wr.alloc (.cells #[.string N, .string (str pv)] 52))) := hown.out.below hb1
      clear hb1
      cases b with
      | true =>
        have tt := TT rfl
        clear TT FF
        go_wp2_with fail
        refine (HC.out _).mono ?_
        rintro e w2 ⟨rfl, hb2⟩
        have c1 : w2.cell? ⟨wr.heap.size, 1, none⟩ = some (.string (str pv)) := by rw [hb2.cell (by simp)]; simp
        have HB2 : Hid (Below w.heap.size w w2) := bel_trans HB1.out hb2
        have HO2 : Hid (OwnS w.heap.size _ (vals s (t.take k)) w2) := HO1.out.below hb2
        have hs2 : w.heap.size ≤ w2.heap.size := HB2.out.size
        clear hb2
        go_wp2_with (at_builtin; go_must (refine wp_appS rfl (.tmp 18) (.tmp 21) rfl w.heap.size _ (vals s (t.take k)) _ pv rfl HO2.out rfl hlk hs2 ?_); intro v6 w6 hown6 hb6)
        have HO6 : Hid (OwnS w.heap.size v6 (vals s (t.take (k + 1))) w6) := (by rw [tt.out]; exact hown6 : OwnS _ v6 _ w6)
        have HB6 : Hid (Below w.heap.size w w6) := HB2.out.trans hb6
        clear hown6 hb6
        go_roundw
        case rel => exact ⟨k + 1, by omega, by go_num, HO6, HB6⟩
        case measure => simp [intOf]; omega
      | false =>
        have ff := FF rfl
        clear TT FF
        go_wp2_with fail
        refine (HC.out _).mono ?_
        rintro e w2 ⟨rfl, hb2⟩
        have HB2 : Hid (Below w.heap.size w w2) := bel_trans HB1.out hb2
        have HO2 : Hid (OwnS w.heap.size _ (vals s (t.take (k + 1))) w2) := (by rw [ff.out]; exact HO1.out.below hb2 : OwnS _ _ _ w2)
        clear hb2
        go_wp2
        go_roundw
        case rel => exact ⟨k + 1, by omega, by go_num, HO2, HB2⟩
        case measure => simp [intOf]; omega
    · obtain rfl : k = t.length := by omega
      rw [List.take_length] at hown
      go_wp2
      go_ret
      exact ⟨_, rfl, hown.out, hbl.out⟩

set_option maxRecDepth 100000 in
set_option maxHeartbeats 2000000 in
theorem rJoined_any (v : Value) (t : List Fl) (s : List UInt8) (hs : s.length ≤ 1048576) (hS : sumF t ≤ 1048576) (w : World) (hrd : RdF v t w) :
    Calls Tryz.prog 35 #[v, .string (str s)] w fun e w' => e = .returned (.tuple #[.string (str (joinF (vals s t))), .bool (decide (0 < (vals s t).length))]) ∧ Below w.heap.size w w' := by
  have hlen := len_sumF t
  have HA : Hid (Calls _ _ _ _ _) := rAll_any v t s hs ((each_sumF t).mono hS) (by omega) w hrd
  have hv := sumV_filter s t
  have hv2 := sumL_V (vals s t)
  have HLe : Hid (∀ k, (jp (vals s t) k).length ≤ 4000000) := fun k => by have := jp_len (vals s t) k; omega
  have HSh : Hid (∀ x ∈ vals s t, x.length ≤ 1048576) := vals_short ((each_sumF t).mono hS) s
  have hvl : (vals s t).length ≤ 1048576 := by omega
  obtain ⟨a, c, rfl, _⟩ := hrd
  clear hv hv2 hs
  generalize vals s t = T at *
  generalize str s = S at *
  go_enter Tryz.func35, Tryz.ntmps35
  go_wp2_with fail
  refine HA.out.mono ?_
  rintro e w1 ⟨u, rfl, ho, hb1⟩
  have HR : Hid (RdS u T w1) := ho.rd
  have HB1 : Hid (Below w.heap.size w w1) := hb1
  obtain ⟨a1, c1, rfl⟩ := ho.form
  clear ho hb1
  go_wp2
  go_loop [7, 15] (fun ov i => ∃ k : Nat, k ≤ T.length ∧ i = .int .i64 k ∧ ov = .string (str (jp T k))) (fun _ i => T.length - (intOf i).toNat)
  case atStart => exact ⟨0, Nat.zero_le _, rfl, rfl⟩
  case round =>
    obtain ⟨k, hk, rfl, rfl⟩ := hrel
    by_cases hlt : k < T.length
    · obtain ⟨a', c', e', hcs⟩ := HR.out
      injection e' with e1 _ e2
      subst e1 e2
      rcases hcs with h | ⟨g, o, rfl, hlc, hcell⟩
      · rw [h] at hlt; simp at hlt
      have p0 := hcell k hlt
      have hx := getD_short HSh.out k hlt
      have hj := HLe.out k
      have hjs : (str (jp T k)).size ≤ 4000000 := by rw [str_size]; exact hj
      have hxs : (str (T.getD k [])).size ≤ 1048576 := by rw [str_size]; exact hx
      by_cases h0 : 0 < k
      · have HEQ : Hid (str (jp T k) ++ ⟨#[44, 32]⟩ ++ str (T.getD k []) = str (jp T (k + 1))) := by
          show _ = _
          rw [jp_succ T k hlt h0, ← str_app, ← str_app]
          rfl
        clear hcell hx hj
        generalize hJ : str (jp T k) = J at *
        generalize hX : str (T.getD k []) = X at *
        clear hJ hX
        go_wp2
        go_round
        case rel => exact ⟨k + 1, by omega, by go_num, by rw [HEQ.out]⟩
        case measure => simp [intOf]; omega
      · obtain rfl : k = 0 := by omega
        rw [Nat.add_zero] at p0
        have HEQ : Hid (str (jp T 0) ++ str (T.getD 0 []) = str (jp T 1)) := by
          show _ = _
          rw [jp_one T hlt, str_app]
          rfl
        clear hcell hx hj
        generalize hJ : str (jp T 0) = J at *
        generalize hX : str (T.getD 0 []) = X at *
        clear hJ hX
        go_wp2
        go_round
        case rel => exact ⟨1, by omega, by go_num, by rw [HEQ.out]⟩
        case measure => simp [intOf]; omega
    · obtain rfl : k = T.length := by omega
      rw [jp_all]
      go_wp2
      go_ret2
      exact ⟨by simp, HB1.out⟩

/-- Is one of them that text? -/
def inL (L : List (List UInt8)) (x : List UInt8) : Bool := L.contains x

end Fd
end Go.Proofs.YtlfobdjbnpgchaaGreatDoor

/-
  handle: Wish, the document's Wish (written by mkhnj.py)
-/
set_option linter.unusedVariables false
set_option linter.unusedSimpArgs false
set_option maxRecDepth 100000
namespace Go.Proofs.YtlfobdjbnpgchaaGreatDoor
open Go.RowKit Go.Shelf
namespace Hn
open Oc Tg _root_.Go.Proofs.YtlfobdjbnpgchaaGreatDoor.Fd _root_.Go.Proofs.YtlfobdjbnpgchaaGreatDoor.Ck _root_.Go.Proofs.YtlfobdjbnpgchaaGreatDoor.Ms

def wishV (t : List Fl) : Array Value := #[.string (str (joinF (vals [65, 99, 99, 101, 112, 116] t))), .string (str (joinF (vals [65, 99, 99, 101, 112, 116, 45, 69, 110, 99, 111, 100, 105, 110, 103] t))), .string (str (joinF (vals [65, 99, 99, 101, 112, 116, 45, 76, 97, 110, 103, 117, 97, 103, 101] t))), .bool (decide (0 < (vals [65, 99, 99, 101, 112, 116] t).length)), .bool (decide (0 < (vals [65, 99, 99, 101, 112, 116, 45, 69, 110, 99, 111, 100, 105, 110, 103] t).length)), .bool (decide (0 < (vals [65, 99, 99, 101, 112, 116, 45, 76, 97, 110, 103, 117, 97, 103, 101] t).length))]

set_option maxHeartbeats 4000000 in
theorem Wish_any (v : Value) (t : List Fl) (hS : sumF t ≤ 1048576) (w : World) (hrd : RdF v t w) : Calls Tryz.prog 14 #[v] w fun e w' => e = .returned (.agg (wishV t)) ∧ Below w.heap.size w w' := by
  obtain ⟨w1, hw1⟩ : ∃ w1, w1 = w.alloc (.cells #[.string ⟨#[]⟩, .string ⟨#[]⟩, .string ⟨#[]⟩, .bool false, .bool false, .bool false] 47) := ⟨_, rfl⟩
  have hb1 : Below w.heap.size w w1 := by rw [hw1]; exact (Below.refl _ w).alloc (Nat.le_refl _) _
  have hs1 : w1.heap.size = w.heap.size + 1 := by rw [hw1]; simp
  have hR1 : Blk 47 w1 w.heap.size [.string ⟨#[]⟩, .string ⟨#[]⟩, .string ⟨#[]⟩, .bool false, .bool false, .bool false] := by rw [hw1]; exact heap_alloc_new w _
  obtain ⟨w2, hw2⟩ : ∃ w2, w2 = w1.alloc (.cells #[.string ⟨#[]⟩, .string ⟨#[]⟩, .string ⟨#[]⟩, .bool false, .bool false, .bool false] 47) := ⟨_, rfl⟩
  have hb2 : Below w1.heap.size w1 w2 := by rw [hw2]; exact (Below.refl _ w1).alloc (Nat.le_refl _) _
  have hX2 : Blk 47 w2 (w.heap.size + 1) [.string ⟨#[]⟩, .string ⟨#[]⟩, .string ⟨#[]⟩, .bool false, .bool false, .bool false] := by rw [hw2, ← hs1]; exact heap_alloc_new w1 _
  have HR2 : Hid (Blk 47 w2 w.heap.size [.string ⟨#[]⟩, .string ⟨#[]⟩, .string ⟨#[]⟩, .bool false, .bool false, .bool false]) := (hR1.below hb2 : Blk _ _ _ _)
  have HX2 : Hid (Blk 47 w2 (w.heap.size + 1) [.string ⟨#[]⟩, .string ⟨#[]⟩, .string ⟨#[]⟩, .bool false, .bool false, .bool false]) := hX2
  have HB2 : Hid (Below w.heap.size w w2) := bel_tr hb1 hb2 (by omega)
  have HW2 : Hid (w2 = (w.alloc (.cells #[.string ⟨#[]⟩, .string ⟨#[]⟩, .string ⟨#[]⟩, .bool false, .bool false, .bool false] 47)).alloc (.cells #[.string ⟨#[]⟩, .string ⟨#[]⟩, .string ⟨#[]⟩, .bool false, .bool false, .bool false] 47)) := (by rw [hw2, hw1] : _ = _)
  have HV : Hid (RdF v t w) := hrd
  have HJ : Hid (∀ s : List UInt8, s.length ≤ 1048576 → ∀ W, RdF v t W → Calls _ _ _ W _) := fun s hs W h => Joined_any v t s hs hS W h
  obtain ⟨J0, hJ0⟩ : ∃ J0, J0 = str (joinF (vals [65, 99, 99, 101, 112, 116] t)) := ⟨_, rfl⟩
  obtain ⟨J1, hJ1⟩ : ∃ J1, J1 = str (joinF (vals [65, 99, 99, 101, 112, 116, 45, 69, 110, 99, 111, 100, 105, 110, 103] t)) := ⟨_, rfl⟩
  obtain ⟨J2, hJ2⟩ : ∃ J2, J2 = str (joinF (vals [65, 99, 99, 101, 112, 116, 45, 76, 97, 110, 103, 117, 97, 103, 101] t)) := ⟨_, rfl⟩
  obtain ⟨B0, hB0⟩ : ∃ B0, B0 = decide (0 < (vals [65, 99, 99, 101, 112, 116] t).length) := ⟨_, rfl⟩
  obtain ⟨B1, hB1⟩ : ∃ B1, B1 = decide (0 < (vals [65, 99, 99, 101, 112, 116, 45, 69, 110, 99, 111, 100, 105, 110, 103] t).length) := ⟨_, rfl⟩
  obtain ⟨B2, hB2⟩ : ∃ B2, B2 = decide (0 < (vals [65, 99, 99, 101, 112, 116, 45, 76, 97, 110, 103, 117, 97, 103, 101] t).length) := ⟨_, rfl⟩
  have HQ : Hid (wishV t = #[.string J0, .string J1, .string J2, .bool B0, .bool B1, .bool B2]) := (by rw [hJ0, hJ1, hJ2, hB0, hB1, hB2]; rfl : _ = _)
  have HJ0 : Hid (str (joinF (vals [65, 99, 99, 101, 112, 116] t)) = J0) := hJ0.symm
  have HJ1 : Hid (str (joinF (vals [65, 99, 99, 101, 112, 116, 45, 69, 110, 99, 111, 100, 105, 110, 103] t)) = J1) := hJ1.symm
  have HJ2 : Hid (str (joinF (vals [65, 99, 99, 101, 112, 116, 45, 76, 97, 110, 103, 117, 97, 103, 101] t)) = J2) := hJ2.symm
  have HB0 : Hid (decide (0 < (vals [65, 99, 99, 101, 112, 116] t).length) = B0) := hB0.symm
  have HB1 : Hid (decide (0 < (vals [65, 99, 99, 101, 112, 116, 45, 69, 110, 99, 111, 100, 105, 110, 103] t).length) = B1) := hB1.symm
  have HB2' : Hid (decide (0 < (vals [65, 99, 99, 101, 112, 116, 45, 76, 97, 110, 103, 117, 97, 103, 101] t).length) = B2) := hB2.symm
  rw [HQ.out]
  have HS2 : Hid (w2.heap.size = w.heap.size + 2) := (by rw [hw2]; simp; omega : _ = _)
  obtain ⟨a, c, rfl, _⟩ := hrd
  clear hw1 hw2 hb1 hb2 hs1 hR1 hX2 hJ0 hJ1 hJ2 hB0 hB1 hB2 HQ
  go_enter Tryz.func14, Tryz.ntmps14
  go_wp2_with fail
  rw [← HW2.out]
  refine (HJ.out [65, 99, 99, 101, 112, 116] (by decide) w2 (HV.out.below HB2.out)).mono ?_
  rintro e c0 ⟨rfl, hbc0⟩
  rw [HJ0.out, HB0.out]
  have HXc0 : Hid (Blk 47 c0 (w.heap.size + 1) [.string ⟨#[]⟩, .string ⟨#[]⟩, .string ⟨#[]⟩, .bool false, .bool false, .bool false]) := HX2.out.below hbc0
  have HRc0 : Hid (Blk 47 c0 w.heap.size [.string ⟨#[]⟩, .string ⟨#[]⟩, .string ⟨#[]⟩, .bool false, .bool false, .bool false]) := HR2.out.below hbc0
  have HBc0 : Hid (Below w.heap.size w c0) := bel_tr HB2.out hbc0 HB2.out.size
  have hsc0 := HXc0.out.lt
  obtain ⟨n0, hnn0⟩ : ∃ n0, n0 = (c0.setCell ⟨w.heap.size + 1, 0, none⟩ (.string J0)).setCell ⟨w.heap.size + 1, 3, none⟩ (.bool B0) := ⟨_, rfl⟩
  have hn0 : But [w.heap.size + 1] c0 n0 := by rw [hnn0]; exact setD (setD (But.refl _ c0) 0 _) 3 _
  have HXn0 : Hid (Blk 47 n0 (w.heap.size + 1) [.string J0, .string ⟨#[]⟩, .string ⟨#[]⟩, .bool B0, .bool false, .bool false]) := (by rw [hnn0]; exact (HXc0.out.set 0 (.string J0)).set 3 (.bool B0) : Blk _ _ _ _)
  have HRn0 : Hid (Blk 47 n0 w.heap.size [.string ⟨#[]⟩, .string ⟨#[]⟩, .string ⟨#[]⟩, .bool false, .bool false, .bool false]) := (HRc0.out.but hn0 (by simp) : Blk _ _ _ _)
  have HBn0 : Hid (Below w.heap.size w n0) := HBc0.out.trans (hn0.below (by omega) (fun x hx => by simp at hx; omega))
  have HNn0 : Hid ((c0.setCell ⟨w.heap.size + 1, 0, none⟩ (.string J0)).setCell ⟨w.heap.size + 1, 3, none⟩ (.bool B0) = n0) := hnn0.symm
  have xf := HXc0.out.free
  have x0 := HXc0.out.cell 0 rfl
  have x3 := HXc0.out.cell 3 rfl
  clear hbc0 hnn0 hn0 HX2 HR2 HB2 HXc0 HRc0 HBc0 hsc0
  go_wp2_with fail
  rw [HNn0.out]
  clear xf x0 x3 HNn0
  refine (HJ.out [65, 99, 99, 101, 112, 116, 45, 69, 110, 99, 111, 100, 105, 110, 103] (by decide) n0 (HV.out.below HBn0.out)).mono ?_
  rintro e c1 ⟨rfl, hbc1⟩
  rw [HJ1.out, HB1.out]
  have HXc1 : Hid (Blk 47 c1 (w.heap.size + 1) [.string J0, .string ⟨#[]⟩, .string ⟨#[]⟩, .bool B0, .bool false, .bool false]) := HXn0.out.below hbc1
  have HRc1 : Hid (Blk 47 c1 w.heap.size [.string ⟨#[]⟩, .string ⟨#[]⟩, .string ⟨#[]⟩, .bool false, .bool false, .bool false]) := HRn0.out.below hbc1
  have HBc1 : Hid (Below w.heap.size w c1) := bel_tr HBn0.out hbc1 HBn0.out.size
  have hsc1 := HXc1.out.lt
  obtain ⟨n1, hnn1⟩ : ∃ n1, n1 = (c1.setCell ⟨w.heap.size + 1, 1, none⟩ (.string J1)).setCell ⟨w.heap.size + 1, 4, none⟩ (.bool B1) := ⟨_, rfl⟩
  have hn1 : But [w.heap.size + 1] c1 n1 := by rw [hnn1]; exact setD (setD (But.refl _ c1) 1 _) 4 _
  have HXn1 : Hid (Blk 47 n1 (w.heap.size + 1) [.string J0, .string J1, .string ⟨#[]⟩, .bool B0, .bool B1, .bool false]) := (by rw [hnn1]; exact (HXc1.out.set 1 (.string J1)).set 4 (.bool B1) : Blk _ _ _ _)
  have HRn1 : Hid (Blk 47 n1 w.heap.size [.string ⟨#[]⟩, .string ⟨#[]⟩, .string ⟨#[]⟩, .bool false, .bool false, .bool false]) := (HRc1.out.but hn1 (by simp) : Blk _ _ _ _)
  have HBn1 : Hid (Below w.heap.size w n1) := HBc1.out.trans (hn1.below (by omega) (fun x hx => by simp at hx; omega))
  have HNn1 : Hid ((c1.setCell ⟨w.heap.size + 1, 1, none⟩ (.string J1)).setCell ⟨w.heap.size + 1, 4, none⟩ (.bool B1) = n1) := hnn1.symm
  have xf := HXc1.out.free
  have x0 := HXc1.out.cell 1 rfl
  have x3 := HXc1.out.cell 4 rfl
  clear hbc1 hnn1 hn1 HXn0 HRn0 HBn0 HXc1 HRc1 HBc1 hsc1
  go_wp2_with fail
  rw [HNn1.out]
  clear xf x0 x3 HNn1
  refine (HJ.out [65, 99, 99, 101, 112, 116, 45, 76, 97, 110, 103, 117, 97, 103, 101] (by decide) n1 (HV.out.below HBn1.out)).mono ?_
  rintro e c2 ⟨rfl, hbc2⟩
  rw [HJ2.out, HB2'.out]
  have HXc2 : Hid (Blk 47 c2 (w.heap.size + 1) [.string J0, .string J1, .string ⟨#[]⟩, .bool B0, .bool B1, .bool false]) := HXn1.out.below hbc2
  have HRc2 : Hid (Blk 47 c2 w.heap.size [.string ⟨#[]⟩, .string ⟨#[]⟩, .string ⟨#[]⟩, .bool false, .bool false, .bool false]) := HRn1.out.below hbc2
  have HBc2 : Hid (Below w.heap.size w c2) := bel_tr HBn1.out hbc2 HBn1.out.size
  have hsc2 := HXc2.out.lt
  obtain ⟨n2, hnn2⟩ : ∃ n2, n2 = (c2.setCell ⟨w.heap.size + 1, 2, none⟩ (.string J2)).setCell ⟨w.heap.size + 1, 5, none⟩ (.bool B2) := ⟨_, rfl⟩
  have hn2 : But [w.heap.size + 1] c2 n2 := by rw [hnn2]; exact setD (setD (But.refl _ c2) 2 _) 5 _
  have HXn2 : Hid (Blk 47 n2 (w.heap.size + 1) [.string J0, .string J1, .string J2, .bool B0, .bool B1, .bool B2]) := (by rw [hnn2]; exact (HXc2.out.set 2 (.string J2)).set 5 (.bool B2) : Blk _ _ _ _)
  have HRn2 : Hid (Blk 47 n2 w.heap.size [.string ⟨#[]⟩, .string ⟨#[]⟩, .string ⟨#[]⟩, .bool false, .bool false, .bool false]) := (HRc2.out.but hn2 (by simp) : Blk _ _ _ _)
  have HBn2 : Hid (Below w.heap.size w n2) := HBc2.out.trans (hn2.below (by omega) (fun x hx => by simp at hx; omega))
  have HNn2 : Hid ((c2.setCell ⟨w.heap.size + 1, 2, none⟩ (.string J2)).setCell ⟨w.heap.size + 1, 5, none⟩ (.bool B2) = n2) := hnn2.symm
  have xf := HXc2.out.free
  have x0 := HXc2.out.cell 0 rfl
  have x1 := HXc2.out.cell 1 rfl
  have x2 := HXc2.out.cell 2 rfl
  have x3 := HXc2.out.cell 3 rfl
  have x4 := HXc2.out.cell 4 rfl
  have x5 := HXc2.out.cell 5 rfl
  have y0 := HRc2.out.cell 0 rfl
  have y1 := HRc2.out.cell 1 rfl
  have y2 := HRc2.out.cell 2 rfl
  have y3 := HRc2.out.cell 3 rfl
  have y4 := HRc2.out.cell 4 rfl
  have y5 := HRc2.out.cell 5 rfl
  have yf := HRc2.out.free
  have hne : w.heap.size ≠ w.heap.size + 1 := by omega
  clear hbc2 hnn2 hn2 HXn1 HRn1 HBn1 HXc2 HRc2 HBc2 hsc2
  go_wp2
  rw [HNn2.out]
  obtain ⟨W9, hW9⟩ : ∃ W9, W9 = ((((((n2.setCell ⟨w.heap.size, 0, none⟩ (.string J0)).setCell ⟨w.heap.size, 1, none⟩ (.string J1)).setCell ⟨w.heap.size, 2, none⟩ (.string J2)).setCell ⟨w.heap.size, 3, none⟩ (.bool B0)).setCell ⟨w.heap.size, 4, none⟩ (.bool B1)).setCell ⟨w.heap.size, 5, none⟩ (.bool B2)) := ⟨_, rfl⟩
  have hb9 : But [w.heap.size] n2 W9 := by rw [hW9]; exact setD (setD (setD (setD (setD (setD (But.refl [w.heap.size] n2) 0 _) 1 _) 2 _) 3 _) 4 _) 5 _
  have hB9 : Blk 47 W9 w.heap.size [.string J0, .string J1, .string J2, .bool B0, .bool B1, .bool B2] := by rw [hW9]; exact ((((((HRn2.out.set 0 (.string J0)).set 1 (.string J1)).set 2 (.string J2)).set 3 (.bool B0)).set 4 (.bool B1)).set 5 (.bool B2))
  have HW9 : Hid (((((((n2.setCell ⟨w.heap.size, 0, none⟩ (.string J0)).setCell ⟨w.heap.size, 1, none⟩ (.string J1)).setCell ⟨w.heap.size, 2, none⟩ (.string J2)).setCell ⟨w.heap.size, 3, none⟩ (.bool B0)).setCell ⟨w.heap.size, 4, none⟩ (.bool B1)).setCell ⟨w.heap.size, 5, none⟩ (.bool B2)) = W9) := hW9.symm
  rw [HW9.out]
  clear x0 x1 x2 x3 x4 x5 y0 y1 y2 y3 y4 y5 yf xf hW9
  have hlt := HRn2.out.lt
  have q0 := hB9.cell 0 rfl
  have q1 := hB9.cell 1 rfl
  have q2 := hB9.cell 2 rfl
  have q3 := hB9.cell 3 rfl
  have q4 := hB9.cell 4 rfl
  have q5 := hB9.cell 5 rfl
  refine bodyPost_ret (v := .agg #[.string J0, .string J1, .string J2, .bool B0, .bool B1, .bool B2]) (by simp [results, Tryz.results14, go_sem, q0, q1, q2, q3, q4, q5]) rfl ⟨rfl, HBn2.out.trans (hb9.below (by omega) (fun x hx => by simp at hx; omega))⟩

set_option maxHeartbeats 4000000 in
theorem rWish_any (v : Value) (t : List Fl) (hS : sumF t ≤ 1048576) (w : World) (hrd : RdF v t w) : Calls Tryz.prog 15 #[v] w fun e w' => e = .returned (.agg (wishV t)) ∧ Below w.heap.size w w' := by
  obtain ⟨w1, hw1⟩ : ∃ w1, w1 = w.alloc (.cells #[.string ⟨#[]⟩, .string ⟨#[]⟩, .string ⟨#[]⟩, .bool false, .bool false, .bool false] 49) := ⟨_, rfl⟩
  have hb1 : Below w.heap.size w w1 := by rw [hw1]; exact (Below.refl _ w).alloc (Nat.le_refl _) _
  have hs1 : w1.heap.size = w.heap.size + 1 := by rw [hw1]; simp
  have hR1 : Blk 49 w1 w.heap.size [.string ⟨#[]⟩, .string ⟨#[]⟩, .string ⟨#[]⟩, .bool false, .bool false, .bool false] := by rw [hw1]; exact heap_alloc_new w _
  obtain ⟨w2, hw2⟩ : ∃ w2, w2 = w1.alloc (.cells #[.string ⟨#[]⟩, .string ⟨#[]⟩, .string ⟨#[]⟩, .bool false, .bool false, .bool false] 49) := ⟨_, rfl⟩
  have hb2 : Below w1.heap.size w1 w2 := by rw [hw2]; exact (Below.refl _ w1).alloc (Nat.le_refl _) _
  have hX2 : Blk 49 w2 (w.heap.size + 1) [.string ⟨#[]⟩, .string ⟨#[]⟩, .string ⟨#[]⟩, .bool false, .bool false, .bool false] := by rw [hw2, ← hs1]; exact heap_alloc_new w1 _
  have HR2 : Hid (Blk 49 w2 w.heap.size [.string ⟨#[]⟩, .string ⟨#[]⟩, .string ⟨#[]⟩, .bool false, .bool false, .bool false]) := (hR1.below hb2 : Blk _ _ _ _)
  have HX2 : Hid (Blk 49 w2 (w.heap.size + 1) [.string ⟨#[]⟩, .string ⟨#[]⟩, .string ⟨#[]⟩, .bool false, .bool false, .bool false]) := hX2
  have HB2 : Hid (Below w.heap.size w w2) := bel_tr hb1 hb2 (by omega)
  have HW2 : Hid (w2 = (w.alloc (.cells #[.string ⟨#[]⟩, .string ⟨#[]⟩, .string ⟨#[]⟩, .bool false, .bool false, .bool false] 49)).alloc (.cells #[.string ⟨#[]⟩, .string ⟨#[]⟩, .string ⟨#[]⟩, .bool false, .bool false, .bool false] 49)) := (by rw [hw2, hw1] : _ = _)
  have HV : Hid (RdF v t w) := hrd
  have HJ : Hid (∀ s : List UInt8, s.length ≤ 1048576 → ∀ W, RdF v t W → Calls _ _ _ W _) := fun s hs W h => rJoined_any v t s hs hS W h
  obtain ⟨J0, hJ0⟩ : ∃ J0, J0 = str (joinF (vals [65, 99, 99, 101, 112, 116] t)) := ⟨_, rfl⟩
  obtain ⟨J1, hJ1⟩ : ∃ J1, J1 = str (joinF (vals [65, 99, 99, 101, 112, 116, 45, 69, 110, 99, 111, 100, 105, 110, 103] t)) := ⟨_, rfl⟩
  obtain ⟨J2, hJ2⟩ : ∃ J2, J2 = str (joinF (vals [65, 99, 99, 101, 112, 116, 45, 76, 97, 110, 103, 117, 97, 103, 101] t)) := ⟨_, rfl⟩
  obtain ⟨B0, hB0⟩ : ∃ B0, B0 = decide (0 < (vals [65, 99, 99, 101, 112, 116] t).length) := ⟨_, rfl⟩
  obtain ⟨B1, hB1⟩ : ∃ B1, B1 = decide (0 < (vals [65, 99, 99, 101, 112, 116, 45, 69, 110, 99, 111, 100, 105, 110, 103] t).length) := ⟨_, rfl⟩
  obtain ⟨B2, hB2⟩ : ∃ B2, B2 = decide (0 < (vals [65, 99, 99, 101, 112, 116, 45, 76, 97, 110, 103, 117, 97, 103, 101] t).length) := ⟨_, rfl⟩
  have HQ : Hid (wishV t = #[.string J0, .string J1, .string J2, .bool B0, .bool B1, .bool B2]) := (by rw [hJ0, hJ1, hJ2, hB0, hB1, hB2]; rfl : _ = _)
  have HJ0 : Hid (str (joinF (vals [65, 99, 99, 101, 112, 116] t)) = J0) := hJ0.symm
  have HJ1 : Hid (str (joinF (vals [65, 99, 99, 101, 112, 116, 45, 69, 110, 99, 111, 100, 105, 110, 103] t)) = J1) := hJ1.symm
  have HJ2 : Hid (str (joinF (vals [65, 99, 99, 101, 112, 116, 45, 76, 97, 110, 103, 117, 97, 103, 101] t)) = J2) := hJ2.symm
  have HB0 : Hid (decide (0 < (vals [65, 99, 99, 101, 112, 116] t).length) = B0) := hB0.symm
  have HB1 : Hid (decide (0 < (vals [65, 99, 99, 101, 112, 116, 45, 69, 110, 99, 111, 100, 105, 110, 103] t).length) = B1) := hB1.symm
  have HB2' : Hid (decide (0 < (vals [65, 99, 99, 101, 112, 116, 45, 76, 97, 110, 103, 117, 97, 103, 101] t).length) = B2) := hB2.symm
  rw [HQ.out]
  have HS2 : Hid (w2.heap.size = w.heap.size + 2) := (by rw [hw2]; simp; omega : _ = _)
  obtain ⟨a, c, rfl, _⟩ := hrd
  clear hw1 hw2 hb1 hb2 hs1 hR1 hX2 hJ0 hJ1 hJ2 hB0 hB1 hB2 HQ
  go_enter Tryz.func15, Tryz.ntmps15
  go_wp2_with fail
  rw [← HW2.out]
  refine (HJ.out [65, 99, 99, 101, 112, 116] (by decide) w2 (HV.out.below HB2.out)).mono ?_
  rintro e c0 ⟨rfl, hbc0⟩
  rw [HJ0.out, HB0.out]
  have HXc0 : Hid (Blk 49 c0 (w.heap.size + 1) [.string ⟨#[]⟩, .string ⟨#[]⟩, .string ⟨#[]⟩, .bool false, .bool false, .bool false]) := HX2.out.below hbc0
  have HRc0 : Hid (Blk 49 c0 w.heap.size [.string ⟨#[]⟩, .string ⟨#[]⟩, .string ⟨#[]⟩, .bool false, .bool false, .bool false]) := HR2.out.below hbc0
  have HBc0 : Hid (Below w.heap.size w c0) := bel_tr HB2.out hbc0 HB2.out.size
  have hsc0 := HXc0.out.lt
  obtain ⟨n0, hnn0⟩ : ∃ n0, n0 = (c0.setCell ⟨w.heap.size + 1, 0, none⟩ (.string J0)).setCell ⟨w.heap.size + 1, 3, none⟩ (.bool B0) := ⟨_, rfl⟩
  have hn0 : But [w.heap.size + 1] c0 n0 := by rw [hnn0]; exact setD (setD (But.refl _ c0) 0 _) 3 _
  have HXn0 : Hid (Blk 49 n0 (w.heap.size + 1) [.string J0, .string ⟨#[]⟩, .string ⟨#[]⟩, .bool B0, .bool false, .bool false]) := (by rw [hnn0]; exact (HXc0.out.set 0 (.string J0)).set 3 (.bool B0) : Blk _ _ _ _)
  have HRn0 : Hid (Blk 49 n0 w.heap.size [.string ⟨#[]⟩, .string ⟨#[]⟩, .string ⟨#[]⟩, .bool false, .bool false, .bool false]) := (HRc0.out.but hn0 (by simp) : Blk _ _ _ _)
  have HBn0 : Hid (Below w.heap.size w n0) := HBc0.out.trans (hn0.below (by omega) (fun x hx => by simp at hx; omega))
  have HNn0 : Hid ((c0.setCell ⟨w.heap.size + 1, 0, none⟩ (.string J0)).setCell ⟨w.heap.size + 1, 3, none⟩ (.bool B0) = n0) := hnn0.symm
  have xf := HXc0.out.free
  have x0 := HXc0.out.cell 0 rfl
  have x3 := HXc0.out.cell 3 rfl
  clear hbc0 hnn0 hn0 HX2 HR2 HB2 HXc0 HRc0 HBc0 hsc0
  go_wp2_with fail
  rw [HNn0.out]
  clear xf x0 x3 HNn0
  refine (HJ.out [65, 99, 99, 101, 112, 116, 45, 69, 110, 99, 111, 100, 105, 110, 103] (by decide) n0 (HV.out.below HBn0.out)).mono ?_
  rintro e c1 ⟨rfl, hbc1⟩
  rw [HJ1.out, HB1.out]
  have HXc1 : Hid (Blk 49 c1 (w.heap.size + 1) [.string J0, .string ⟨#[]⟩, .string ⟨#[]⟩, .bool B0, .bool false, .bool false]) := HXn0.out.below hbc1
  have HRc1 : Hid (Blk 49 c1 w.heap.size [.string ⟨#[]⟩, .string ⟨#[]⟩, .string ⟨#[]⟩, .bool false, .bool false, .bool false]) := HRn0.out.below hbc1
  have HBc1 : Hid (Below w.heap.size w c1) := bel_tr HBn0.out hbc1 HBn0.out.size
  have hsc1 := HXc1.out.lt
  obtain ⟨n1, hnn1⟩ : ∃ n1, n1 = (c1.setCell ⟨w.heap.size + 1, 1, none⟩ (.string J1)).setCell ⟨w.heap.size + 1, 4, none⟩ (.bool B1) := ⟨_, rfl⟩
  have hn1 : But [w.heap.size + 1] c1 n1 := by rw [hnn1]; exact setD (setD (But.refl _ c1) 1 _) 4 _
  have HXn1 : Hid (Blk 49 n1 (w.heap.size + 1) [.string J0, .string J1, .string ⟨#[]⟩, .bool B0, .bool B1, .bool false]) := (by rw [hnn1]; exact (HXc1.out.set 1 (.string J1)).set 4 (.bool B1) : Blk _ _ _ _)
  have HRn1 : Hid (Blk 49 n1 w.heap.size [.string ⟨#[]⟩, .string ⟨#[]⟩, .string ⟨#[]⟩, .bool false, .bool false, .bool false]) := (HRc1.out.but hn1 (by simp) : Blk _ _ _ _)
  have HBn1 : Hid (Below w.heap.size w n1) := HBc1.out.trans (hn1.below (by omega) (fun x hx => by simp at hx; omega))
  have HNn1 : Hid ((c1.setCell ⟨w.heap.size + 1, 1, none⟩ (.string J1)).setCell ⟨w.heap.size + 1, 4, none⟩ (.bool B1) = n1) := hnn1.symm
  have xf := HXc1.out.free
  have x0 := HXc1.out.cell 1 rfl
  have x3 := HXc1.out.cell 4 rfl
  clear hbc1 hnn1 hn1 HXn0 HRn0 HBn0 HXc1 HRc1 HBc1 hsc1
  go_wp2_with fail
  rw [HNn1.out]
  clear xf x0 x3 HNn1
  refine (HJ.out [65, 99, 99, 101, 112, 116, 45, 76, 97, 110, 103, 117, 97, 103, 101] (by decide) n1 (HV.out.below HBn1.out)).mono ?_
  rintro e c2 ⟨rfl, hbc2⟩
  rw [HJ2.out, HB2'.out]
  have HXc2 : Hid (Blk 49 c2 (w.heap.size + 1) [.string J0, .string J1, .string ⟨#[]⟩, .bool B0, .bool B1, .bool false]) := HXn1.out.below hbc2
  have HRc2 : Hid (Blk 49 c2 w.heap.size [.string ⟨#[]⟩, .string ⟨#[]⟩, .string ⟨#[]⟩, .bool false, .bool false, .bool false]) := HRn1.out.below hbc2
  have HBc2 : Hid (Below w.heap.size w c2) := bel_tr HBn1.out hbc2 HBn1.out.size
  have hsc2 := HXc2.out.lt
  obtain ⟨n2, hnn2⟩ : ∃ n2, n2 = (c2.setCell ⟨w.heap.size + 1, 2, none⟩ (.string J2)).setCell ⟨w.heap.size + 1, 5, none⟩ (.bool B2) := ⟨_, rfl⟩
  have hn2 : But [w.heap.size + 1] c2 n2 := by rw [hnn2]; exact setD (setD (But.refl _ c2) 2 _) 5 _
  have HXn2 : Hid (Blk 49 n2 (w.heap.size + 1) [.string J0, .string J1, .string J2, .bool B0, .bool B1, .bool B2]) := (by rw [hnn2]; exact (HXc2.out.set 2 (.string J2)).set 5 (.bool B2) : Blk _ _ _ _)
  have HRn2 : Hid (Blk 49 n2 w.heap.size [.string ⟨#[]⟩, .string ⟨#[]⟩, .string ⟨#[]⟩, .bool false, .bool false, .bool false]) := (HRc2.out.but hn2 (by simp) : Blk _ _ _ _)
  have HBn2 : Hid (Below w.heap.size w n2) := HBc2.out.trans (hn2.below (by omega) (fun x hx => by simp at hx; omega))
  have HNn2 : Hid ((c2.setCell ⟨w.heap.size + 1, 2, none⟩ (.string J2)).setCell ⟨w.heap.size + 1, 5, none⟩ (.bool B2) = n2) := hnn2.symm
  have xf := HXc2.out.free
  have x0 := HXc2.out.cell 0 rfl
  have x1 := HXc2.out.cell 1 rfl
  have x2 := HXc2.out.cell 2 rfl
  have x3 := HXc2.out.cell 3 rfl
  have x4 := HXc2.out.cell 4 rfl
  have x5 := HXc2.out.cell 5 rfl
  have y0 := HRc2.out.cell 0 rfl
  have y1 := HRc2.out.cell 1 rfl
  have y2 := HRc2.out.cell 2 rfl
  have y3 := HRc2.out.cell 3 rfl
  have y4 := HRc2.out.cell 4 rfl
  have y5 := HRc2.out.cell 5 rfl
  have yf := HRc2.out.free
  have hne : w.heap.size ≠ w.heap.size + 1 := by omega
  clear hbc2 hnn2 hn2 HXn1 HRn1 HBn1 HXc2 HRc2 HBc2 hsc2
  go_wp2
  rw [HNn2.out]
  obtain ⟨W9, hW9⟩ : ∃ W9, W9 = ((((((n2.setCell ⟨w.heap.size, 0, none⟩ (.string J0)).setCell ⟨w.heap.size, 1, none⟩ (.string J1)).setCell ⟨w.heap.size, 2, none⟩ (.string J2)).setCell ⟨w.heap.size, 3, none⟩ (.bool B0)).setCell ⟨w.heap.size, 4, none⟩ (.bool B1)).setCell ⟨w.heap.size, 5, none⟩ (.bool B2)) := ⟨_, rfl⟩
  have hb9 : But [w.heap.size] n2 W9 := by rw [hW9]; exact setD (setD (setD (setD (setD (setD (But.refl [w.heap.size] n2) 0 _) 1 _) 2 _) 3 _) 4 _) 5 _
  have hB9 : Blk 49 W9 w.heap.size [.string J0, .string J1, .string J2, .bool B0, .bool B1, .bool B2] := by rw [hW9]; exact ((((((HRn2.out.set 0 (.string J0)).set 1 (.string J1)).set 2 (.string J2)).set 3 (.bool B0)).set 4 (.bool B1)).set 5 (.bool B2))
  have HW9 : Hid (((((((n2.setCell ⟨w.heap.size, 0, none⟩ (.string J0)).setCell ⟨w.heap.size, 1, none⟩ (.string J1)).setCell ⟨w.heap.size, 2, none⟩ (.string J2)).setCell ⟨w.heap.size, 3, none⟩ (.bool B0)).setCell ⟨w.heap.size, 4, none⟩ (.bool B1)).setCell ⟨w.heap.size, 5, none⟩ (.bool B2)) = W9) := hW9.symm
  rw [HW9.out]
  clear x0 x1 x2 x3 x4 x5 y0 y1 y2 y3 y4 y5 yf xf hW9
  have hlt := HRn2.out.lt
  have q0 := hB9.cell 0 rfl
  have q1 := hB9.cell 1 rfl
  have q2 := hB9.cell 2 rfl
  have q3 := hB9.cell 3 rfl
  have q4 := hB9.cell 4 rfl
  have q5 := hB9.cell 5 rfl
  refine bodyPost_ret (v := .agg #[.string J0, .string J1, .string J2, .bool B0, .bool B1, .bool B2]) (by simp [results, Tryz.results15, go_sem, q0, q1, q2, q3, q4, q5]) rfl ⟨rfl, HBn2.out.trans (hb9.below (by omega) (fun x hx => by simp at hx; omega))⟩

end Hn
end Go.Proofs.YtlfobdjbnpgchaaGreatDoor

/-
  handle: the document's Plain (written by mkhnl.py)
-/
set_option linter.unusedVariables false
set_option linter.unusedSimpArgs false
set_option maxRecDepth 100000
namespace Go.Proofs.YtlfobdjbnpgchaaGreatDoor
open Go.RowKit Go.Shelf
namespace Hn
open Oc Tg _root_.Go.Proofs.YtlfobdjbnpgchaaGreatDoor.Fd _root_.Go.Proofs.YtlfobdjbnpgchaaGreatDoor.Ck _root_.Go.Proofs.YtlfobdjbnpgchaaGreatDoor.Ms

theorem own_one {B : Nat} (w : World) (hB : B ≤ w.heap.size) : OwnF 52 B (.slice (some ⟨w.heap.size, 0, none⟩) 1 1) [(nCT, plT)] (w.alloc (.cells #[.string ⟨#[67, 111, 110, 116, 101, 110, 116, 45, 84, 121, 112, 101]⟩, .string ⟨#[116, 101, 120, 116, 47, 112, 108, 97, 105, 110, 59, 32, 99, 104, 97, 114, 115, 101, 116, 61, 117, 116, 102, 45, 56]⟩] 52)) := by
  exact ⟨by simp [Fd.encF, Fd.encF1], .inr ⟨w.heap.size, 1, #[.string ⟨#[67, 111, 110, 116, 101, 110, 116, 45, 84, 121, 112, 101]⟩, .string ⟨#[116, 101, 120, 116, 47, 112, 108, 97, 105, 110, 59, 32, 99, 104, 97, 114, 115, 101, 116, 61, 117, 116, 102, 45, 56]⟩], rfl, hB, heap_alloc_new w _, by simp, by decide, by simp, rfl⟩⟩

theorem plainType_any (w : World) : Calls Tryz.prog 33 #[] w fun e w' => e = .returned (.agg #[.string ⟨#[67, 111, 110, 116, 101, 110, 116, 45, 84, 121, 112, 101]⟩, .string ⟨#[116, 101, 120, 116, 47, 112, 108, 97, 105, 110, 59, 32, 99, 104, 97, 114, 115, 101, 116, 61, 117, 116, 102, 45, 56]⟩]) ∧ Below w.heap.size w w' := by
  go_enter Tryz.func33, Tryz.ntmps33
  go_wp2
  refine bodyPost_ret (v := .agg #[.string ⟨#[67, 111, 110, 116, 101, 110, 116, 45, 84, 121, 112, 101]⟩, .string ⟨#[116, 101, 120, 116, 47, 112, 108, 97, 105, 110, 59, 32, 99, 104, 97, 114, 115, 101, 116, 61, 117, 116, 102, 45, 56]⟩]) (by simp [results, Tryz.results33, go_sem]) rfl ⟨rfl, (Below.refl _ w).alloc (Nat.le_refl _) _⟩

set_option maxHeartbeats 4000000 in
theorem rPlain_any (n : Int) (hn : i64 n) (v : Value) (t : List Fl) (hl : t.length ≤ 1000000000) (w : World) (hI : InF v t w) :
    Calls Tryz.prog 12 #[.int .i64 n, v] w fun e w' => ∃ a c, e = .returned (.agg #[.int .i64 n, .string ⟨#[]⟩, .slice a (t.length + 1) c, .string (str (stW n ++ [10]))]) ∧ OwnF 52 w.heap.size (.slice a (t.length + 1) c) ((nCT, plT) :: t) w' ∧ Below w.heap.size w w' := by
  obtain ⟨w1, hw1⟩ : ∃ w1, w1 = w.alloc (.cells #[.int .i64 0, .string ⟨#[]⟩, .slice none 0 0, .string ⟨#[]⟩] 43) := ⟨_, rfl⟩
  have hb1 : Below w.heap.size w w1 := by rw [hw1]; exact (Below.refl _ w).alloc (Nat.le_refl _) _
  have hR1 : Blk 43 w1 w.heap.size [.int .i64 0, .string ⟨#[]⟩, .slice none 0 0, .string ⟨#[]⟩] := by rw [hw1]; exact heap_alloc_new w _
  have HI : Hid (InF v t w) := hI
  have HR1 : Hid (Blk 43 w1 w.heap.size [.int .i64 0, .string ⟨#[]⟩, .slice none 0 0, .string ⟨#[]⟩]) := hR1
  have HB1 : Hid (Below w.heap.size w w1) := hb1
  have HW1 : Hid (w1 = _) := hw1
  have HRs : Hid (Calls _ _ _ _ _) := rReason_any n hn w1
  have hrl := rsL_len n
  have HDg : Hid (∀ W, Calls Tryz.prog 32 #[.int .i64 n] W fun e w' => e = .returned (.string (str (Lib.itoa n))) ∧ Below W.heap.size W w') := fun W => rDigits_any n hn.1 hn.2 W
  have HPt : Hid (∀ W, Calls _ _ _ W _) := fun W => plainType_any W
  have hil : (Lib.itoa n).length ≤ 21 := Lib.itoa_length_le n hn.1 hn.2
  obtain ⟨⟨av, cv, rfl, _⟩, _⟩ := id hI
  clear hw1 hb1 hR1 hI
  go_enter Tryz.func12, Tryz.ntmps12
  go_wp2_with fail
  rw [← HW1.out]
  refine HRs.out.mono ?_
  rintro e w2 ⟨rfl, hb2⟩
  have HB2 : Hid (Below w.heap.size w w2) := bel_tr HB1.out hb2 HB1.out.size
  have HR2 : Hid (Blk 43 w2 w.heap.size [.int .i64 0, .string ⟨#[]⟩, .slice none 0 0, .string ⟨#[]⟩]) := HR1.out.below hb2
  clear hb2 HW1 HRs HB1 HR1
  by_cases hz : rsL n = []
  · have hem : (str (rsL n)).toList.isEmpty = true := empty_of (by rw [str_size, hz]; rfl)
    have hSt : stW n = [83, 116, 97, 116, 117, 115, 32] ++ Lib.itoa n := if_pos hz
    generalize str (rsL n) = RS at *
    go_wp2_with fail
    refine (HDg.out w2).mono ?_
    rintro e w3 ⟨rfl, hb3⟩
    obtain ⟨DG, hDG⟩ : ∃ DG, DG = str (Lib.itoa n) := ⟨_, rfl⟩
    have hdz : DG.size ≤ 21 := by rw [hDG, str_size]; exact hil
    have HDG : Hid (DG = str (Lib.itoa n)) := hDG
    rw [← hDG]
    have hk1 : (⟨#[83, 116, 97, 116, 117, 115, 32]⟩ : ByteArray).size = 7 := rfl
    have hk2 : (⟨#[10]⟩ : ByteArray).size = 1 := rfl
    have hs1 : (⟨#[83, 116, 97, 116, 117, 115, 32]⟩ : ByteArray).size + DG.size ≤ 9223372036854775807 := by rw [hk1]; omega
    have hs2 : ((⟨#[83, 116, 97, 116, 117, 115, 32]⟩ : ByteArray) ++ DG).size + (⟨#[10]⟩ : ByteArray).size ≤ 9223372036854775807 := by rw [ByteArray.size_append, hk1, hk2]; omega
    have HB3 : Hid (Below w.heap.size w w3) := bel_tr HB2.out hb3 HB2.out.size
    have HR3 : Hid (Blk 43 w3 w.heap.size [.int .i64 0, .string ⟨#[]⟩, .slice none 0 0, .string ⟨#[]⟩]) := HR2.out.below hb3
    have HBO : Hid (str (stW n ++ [10]) = ((⟨#[83, 116, 97, 116, 117, 115, 32]⟩ : ByteArray) ++ DG) ++ ⟨#[10]⟩) := (by rw [hSt, HDG.out]; symm; apply eq_list; simp [str] : _ = _)
    clear hb3 hDG hk1 hk2 HDg hem hz hSt HB2 HR2
    go_wp2_with fail
    refine (HPt.out w3).mono ?_
    rintro e w5 ⟨rfl, hb5⟩
    have HB5 : Hid (Below w.heap.size w w5) := bel_tr HB3.out hb5 HB3.out.size
    have HR5 : Hid (Blk 43 w5 w.heap.size [.int .i64 0, .string ⟨#[]⟩, .slice none 0 0, .string ⟨#[]⟩]) := HR3.out.below hb5
    have hO6 : OwnF 52 (w.heap.size + 1) (.slice (some ⟨w5.heap.size, 0, none⟩) 1 1) [(nCT, plT)] (w5.alloc (.cells #[.string ⟨#[67, 111, 110, 116, 101, 110, 116, 45, 84, 121, 112, 101]⟩, .string ⟨#[116, 101, 120, 116, 47, 112, 108, 97, 105, 110, 59, 32, 99, 104, 97, 114, 115, 101, 116, 61, 117, 116, 102, 45, 56]⟩] 52)) := own_one w5 HR5.out.lt
    have hb6 : Below w5.heap.size w5 (w5.alloc (.cells #[.string ⟨#[67, 111, 110, 116, 101, 110, 116, 45, 84, 121, 112, 101]⟩, .string ⟨#[116, 101, 120, 116, 47, 112, 108, 97, 105, 110, 59, 32, 99, 104, 97, 114, 115, 101, 116, 61, 117, 116, 102, 45, 56]⟩] 52)) := (Below.refl _ w5).alloc (Nat.le_refl _) _
    have HO6 : Hid (OwnF 52 (w.heap.size + 1) (.slice (some ⟨w5.heap.size, 0, none⟩) 1 1) [(nCT, plT)] (w5.alloc (.cells #[.string ⟨#[67, 111, 110, 116, 101, 110, 116, 45, 84, 121, 112, 101]⟩, .string ⟨#[116, 101, 120, 116, 47, 112, 108, 97, 105, 110, 59, 32, 99, 104, 97, 114, 115, 101, 116, 61, 117, 116, 102, 45, 56]⟩] 52))) := hO6
    have HB6 : Hid (Below w.heap.size w (w5.alloc (.cells #[.string ⟨#[67, 111, 110, 116, 101, 110, 116, 45, 84, 121, 112, 101]⟩, .string ⟨#[116, 101, 120, 116, 47, 112, 108, 97, 105, 110, 59, 32, 99, 104, 97, 114, 115, 101, 116, 61, 117, 116, 102, 45, 56]⟩] 52))) := bel_tr HB5.out hb6 HB5.out.size
    have HI6 : Hid (InF (.slice av t.length cv) t (w5.alloc (.cells #[.string ⟨#[67, 111, 110, 116, 101, 110, 116, 45, 84, 121, 112, 101]⟩, .string ⟨#[116, 101, 120, 116, 47, 112, 108, 97, 105, 110, 59, 32, 99, 104, 97, 114, 115, 101, 116, 61, 117, 116, 102, 45, 56]⟩] 52))) := (HI.out.below HB6.out : InF _ _ _)
    have HR6 : Hid (Blk 43 (w5.alloc (.cells #[.string ⟨#[67, 111, 110, 116, 101, 110, 116, 45, 84, 121, 112, 101]⟩, .string ⟨#[116, 101, 120, 116, 47, 112, 108, 97, 105, 110, 59, 32, 99, 104, 97, 114, 115, 101, 116, 61, 117, 116, 102, 45, 56]⟩] 52)) w.heap.size [.int .i64 0, .string ⟨#[]⟩, .slice none 0 0, .string ⟨#[]⟩]) := (HR5.out.below hb6 : Blk _ _ _ _)
    have HS6 : Hid (w.heap.size + 1 ≤ (w5.alloc (.cells #[.string ⟨#[67, 111, 110, 116, 101, 110, 116, 45, 84, 121, 112, 101]⟩, .string ⟨#[116, 101, 120, 116, 47, 112, 108, 97, 105, 110, 59, 32, 99, 104, 97, 114, 115, 101, 116, 61, 117, 116, 102, 45, 56]⟩] 52)).heap.size) := HR6.out.lt
    clear hO6 hb6 hb5 HPt HB5 HR5 HB3 HR3
    go_wp2_with (at_builtin; go_must (refine wp_appFs 52 41 infoF2 Tryz.underlying41 rfl (.tmp 15) (.tmp 16) rfl (w.heap.size + 1) _ _ [(nCT, plT)] t rfl HO6.out rfl HI6.out (by simp; omega) HS6.out ?_); intro v9 w9 o9 b9; obtain ⟨a, c, e9⟩ := ownF_form o9; subst e9; have HO9 : Hid (OwnF 52 w.heap.size (.slice a (t.length + 1) c) ((nCT, plT) :: t) w9) := (by have := own_upF (B' := w.heap.size) o9 (by omega); rw [show ([(nCT, plT)] ++ t : List Fl).length = t.length + 1 by simp] at this; exact this : OwnF _ _ _ _ _); have HB9 : Hid (Below w.heap.size w w9) := HB6.out.trans (b9.mono (by omega)); have HR9 : Hid (Blk 43 w9 w.heap.size [.int .i64 0, .string ⟨#[]⟩, .slice none 0 0, .string ⟨#[]⟩]) := ((b9.block _ (Nat.lt_succ_self _)).trans HR6.out : Blk _ _ _ _); have r0 := HR9.out.cell 0 rfl; have r1 := HR9.out.cell 1 rfl; have r2 := HR9.out.cell 2 rfl; have r3 := HR9.out.cell 3 rfl; have rf := HR9.out.free; clear o9 b9)
    rw [HBO.out]
    generalize (((⟨#[83, 116, 97, 116, 117, 115, 32]⟩ : ByteArray) ++ DG) ++ ⟨#[10]⟩) = BX at *
    have hb9 := set4_but w9 w.heap.size (.int .i64 n) (.string ⟨#[]⟩) (.slice a (t.length + 1) c) (.string BX)
    have hlt9 := HR9.out.lt
    obtain ⟨W9, hW9⟩ : ∃ W9, W9 = set4 w9 w.heap.size (.int .i64 n) (.string ⟨#[]⟩) (.slice a (t.length + 1) c) (.string BX) := ⟨_, rfl⟩
    have HL9 : Hid (Below w.heap.size w W9) := (by rw [hW9]; exact HB9.out.trans (hb9.below (by omega) (fun x hx => by simp at hx; omega)) : Below _ _ _)
    have hB9 : Blk 43 W9 w.heap.size [.int .i64 n, .string ⟨#[]⟩, .slice a (t.length + 1) c, .string BX] := by rw [hW9]; exact set4_blk HR9.out _ _ _ _
    have HP9 : Hid (OwnF 52 w.heap.size (.slice a (t.length + 1) c) ((nCT, plT) :: t) W9) := (by rw [hW9]; exact HR9.out.keep HO9.out (by decide) hb9 : OwnF _ _ _ _ _)
    have HW9 : Hid (((((w9.setCell ⟨w.heap.size, 0, none⟩ (.int .i64 n)).setCell ⟨w.heap.size, 1, none⟩ (.string ⟨#[]⟩)).setCell ⟨w.heap.size, 2, none⟩ (.slice a (t.length + 1) c)).setCell ⟨w.heap.size, 3, none⟩ (.string BX)) = W9) := hW9.symm
    rw [HW9.out]
    clear r0 r1 r2 r3 rf hb9 hW9
    have q0 := hB9.cell 0 rfl
    have q1 := hB9.cell 1 rfl
    have q2 := hB9.cell 2 rfl
    have q3 := hB9.cell 3 rfl
    refine bodyPost_ret (v := .agg #[.int .i64 n, .string ⟨#[]⟩, .slice a (t.length + 1) c, .string BX]) (by simp [results, Tryz.results12, go_sem, q0, q1, q2, q3]) rfl ?_
    exact ⟨a, c, rfl, HP9.out, HL9.out⟩

  · have hem : (str (rsL n)).toList.isEmpty = false := nonempty_of (by rw [str_size]; exact fun e => hz (List.length_eq_zero_iff.1 e))
    have hSt : stW n = rsL n := if_neg hz
    obtain ⟨RS, hRS⟩ : ∃ RS, RS = str (rsL n) := ⟨_, rfl⟩
    have HRS : Hid (RS = str (rsL n)) := hRS
    have hrz : RS.size ≤ 100 := by rw [hRS, str_size]; exact hrl
    rw [← hRS] at hem ⊢
    have hk2 : (⟨#[10]⟩ : ByteArray).size = 1 := rfl
    have hs2 : RS.size + (⟨#[10]⟩ : ByteArray).size ≤ 9223372036854775807 := by rw [hk2]; omega
    have HBO : Hid (str (stW n ++ [10]) = RS ++ ⟨#[10]⟩) := (by rw [hSt, HRS.out]; symm; apply eq_list; simp [str] : _ = _)
    clear hRS hk2 HDg hrl hz hSt
    go_wp2_with fail
    refine (HPt.out w2).mono ?_
    rintro e w5 ⟨rfl, hb5⟩
    have HB5 : Hid (Below w.heap.size w w5) := bel_tr HB2.out hb5 HB2.out.size
    have HR5 : Hid (Blk 43 w5 w.heap.size [.int .i64 0, .string ⟨#[]⟩, .slice none 0 0, .string ⟨#[]⟩]) := HR2.out.below hb5
    have hO6 : OwnF 52 (w.heap.size + 1) (.slice (some ⟨w5.heap.size, 0, none⟩) 1 1) [(nCT, plT)] (w5.alloc (.cells #[.string ⟨#[67, 111, 110, 116, 101, 110, 116, 45, 84, 121, 112, 101]⟩, .string ⟨#[116, 101, 120, 116, 47, 112, 108, 97, 105, 110, 59, 32, 99, 104, 97, 114, 115, 101, 116, 61, 117, 116, 102, 45, 56]⟩] 52)) := own_one w5 HR5.out.lt
    have hb6 : Below w5.heap.size w5 (w5.alloc (.cells #[.string ⟨#[67, 111, 110, 116, 101, 110, 116, 45, 84, 121, 112, 101]⟩, .string ⟨#[116, 101, 120, 116, 47, 112, 108, 97, 105, 110, 59, 32, 99, 104, 97, 114, 115, 101, 116, 61, 117, 116, 102, 45, 56]⟩] 52)) := (Below.refl _ w5).alloc (Nat.le_refl _) _
    have HO6 : Hid (OwnF 52 (w.heap.size + 1) (.slice (some ⟨w5.heap.size, 0, none⟩) 1 1) [(nCT, plT)] (w5.alloc (.cells #[.string ⟨#[67, 111, 110, 116, 101, 110, 116, 45, 84, 121, 112, 101]⟩, .string ⟨#[116, 101, 120, 116, 47, 112, 108, 97, 105, 110, 59, 32, 99, 104, 97, 114, 115, 101, 116, 61, 117, 116, 102, 45, 56]⟩] 52))) := hO6
    have HB6 : Hid (Below w.heap.size w (w5.alloc (.cells #[.string ⟨#[67, 111, 110, 116, 101, 110, 116, 45, 84, 121, 112, 101]⟩, .string ⟨#[116, 101, 120, 116, 47, 112, 108, 97, 105, 110, 59, 32, 99, 104, 97, 114, 115, 101, 116, 61, 117, 116, 102, 45, 56]⟩] 52))) := bel_tr HB5.out hb6 HB5.out.size
    have HI6 : Hid (InF (.slice av t.length cv) t (w5.alloc (.cells #[.string ⟨#[67, 111, 110, 116, 101, 110, 116, 45, 84, 121, 112, 101]⟩, .string ⟨#[116, 101, 120, 116, 47, 112, 108, 97, 105, 110, 59, 32, 99, 104, 97, 114, 115, 101, 116, 61, 117, 116, 102, 45, 56]⟩] 52))) := (HI.out.below HB6.out : InF _ _ _)
    have HR6 : Hid (Blk 43 (w5.alloc (.cells #[.string ⟨#[67, 111, 110, 116, 101, 110, 116, 45, 84, 121, 112, 101]⟩, .string ⟨#[116, 101, 120, 116, 47, 112, 108, 97, 105, 110, 59, 32, 99, 104, 97, 114, 115, 101, 116, 61, 117, 116, 102, 45, 56]⟩] 52)) w.heap.size [.int .i64 0, .string ⟨#[]⟩, .slice none 0 0, .string ⟨#[]⟩]) := (HR5.out.below hb6 : Blk _ _ _ _)
    have HS6 : Hid (w.heap.size + 1 ≤ (w5.alloc (.cells #[.string ⟨#[67, 111, 110, 116, 101, 110, 116, 45, 84, 121, 112, 101]⟩, .string ⟨#[116, 101, 120, 116, 47, 112, 108, 97, 105, 110, 59, 32, 99, 104, 97, 114, 115, 101, 116, 61, 117, 116, 102, 45, 56]⟩] 52)).heap.size) := HR6.out.lt
    clear hO6 hb6 hb5 HPt HB5 HR5 HB2 HR2
    go_wp2_with (at_builtin; go_must (refine wp_appFs 52 41 infoF2 Tryz.underlying41 rfl (.tmp 15) (.tmp 16) rfl (w.heap.size + 1) _ _ [(nCT, plT)] t rfl HO6.out rfl HI6.out (by simp; omega) HS6.out ?_); intro v9 w9 o9 b9; obtain ⟨a, c, e9⟩ := ownF_form o9; subst e9; have HO9 : Hid (OwnF 52 w.heap.size (.slice a (t.length + 1) c) ((nCT, plT) :: t) w9) := (by have := own_upF (B' := w.heap.size) o9 (by omega); rw [show ([(nCT, plT)] ++ t : List Fl).length = t.length + 1 by simp] at this; exact this : OwnF _ _ _ _ _); have HB9 : Hid (Below w.heap.size w w9) := HB6.out.trans (b9.mono (by omega)); have HR9 : Hid (Blk 43 w9 w.heap.size [.int .i64 0, .string ⟨#[]⟩, .slice none 0 0, .string ⟨#[]⟩]) := ((b9.block _ (Nat.lt_succ_self _)).trans HR6.out : Blk _ _ _ _); have r0 := HR9.out.cell 0 rfl; have r1 := HR9.out.cell 1 rfl; have r2 := HR9.out.cell 2 rfl; have r3 := HR9.out.cell 3 rfl; have rf := HR9.out.free; clear o9 b9)
    rw [HBO.out]
    generalize (RS ++ ⟨#[10]⟩) = BX at *
    have hb9 := set4_but w9 w.heap.size (.int .i64 n) (.string ⟨#[]⟩) (.slice a (t.length + 1) c) (.string BX)
    have hlt9 := HR9.out.lt
    obtain ⟨W9, hW9⟩ : ∃ W9, W9 = set4 w9 w.heap.size (.int .i64 n) (.string ⟨#[]⟩) (.slice a (t.length + 1) c) (.string BX) := ⟨_, rfl⟩
    have HL9 : Hid (Below w.heap.size w W9) := (by rw [hW9]; exact HB9.out.trans (hb9.below (by omega) (fun x hx => by simp at hx; omega)) : Below _ _ _)
    have hB9 : Blk 43 W9 w.heap.size [.int .i64 n, .string ⟨#[]⟩, .slice a (t.length + 1) c, .string BX] := by rw [hW9]; exact set4_blk HR9.out _ _ _ _
    have HP9 : Hid (OwnF 52 w.heap.size (.slice a (t.length + 1) c) ((nCT, plT) :: t) W9) := (by rw [hW9]; exact HR9.out.keep HO9.out (by decide) hb9 : OwnF _ _ _ _ _)
    have HW9 : Hid (((((w9.setCell ⟨w.heap.size, 0, none⟩ (.int .i64 n)).setCell ⟨w.heap.size, 1, none⟩ (.string ⟨#[]⟩)).setCell ⟨w.heap.size, 2, none⟩ (.slice a (t.length + 1) c)).setCell ⟨w.heap.size, 3, none⟩ (.string BX)) = W9) := hW9.symm
    rw [HW9.out]
    clear r0 r1 r2 r3 rf hb9 hW9
    have q0 := hB9.cell 0 rfl
    have q1 := hB9.cell 1 rfl
    have q2 := hB9.cell 2 rfl
    have q3 := hB9.cell 3 rfl
    refine bodyPost_ret (v := .agg #[.int .i64 n, .string ⟨#[]⟩, .slice a (t.length + 1) c, .string BX]) (by simp [results, Tryz.results12, go_sem, q0, q1, q2, q3]) rfl ?_
    exact ⟨a, c, rfl, HP9.out, HL9.out⟩


end Hn
end Go.Proofs.YtlfobdjbnpgchaaGreatDoor

/-
  handle: the law's same (written by mkhnm.py)
-/
set_option linter.unusedVariables false
set_option linter.unusedSimpArgs false
set_option maxRecDepth 100000
namespace Go.Proofs.YtlfobdjbnpgchaaGreatDoor
open Go.RowKit Go.Shelf
namespace Hn
open Oc Tg _root_.Go.Proofs.YtlfobdjbnpgchaaGreatDoor.Fd _root_.Go.Proofs.YtlfobdjbnpgchaaGreatDoor.Ck _root_.Go.Proofs.YtlfobdjbnpgchaaGreatDoor.Ms

set_option maxHeartbeats 4000000 in
theorem sameR_any (n : Int) (bd : ByteArray) (a a2 : Option Addr) (c c2 : Nat) (t : List Fl) (hl : t.length ≤ 4294967296) (w : World) (h1 : RdF (.slice a t.length c) t w) (h2 : RdF (.slice a2 t.length c2) t w) :
    Calls Tryz.prog 10 #[.agg #[.int .i64 n, .string ⟨#[]⟩, .slice a t.length c, .string bd], .agg #[.int .i64 n, .string ⟨#[]⟩, .slice a2 t.length c2, .string bd]] w fun e w' => e = .returned (.bool true) ∧ Below w.heap.size w w' := by
  obtain ⟨w1, hw1⟩ : ∃ w1, w1 = w.alloc (.cells #[.int .i64 n, .string ⟨#[]⟩, .slice a t.length c, .string bd] 39) := ⟨_, rfl⟩
  have hb1 : Below w.heap.size w w1 := by rw [hw1]; exact (Below.refl _ w).alloc (Nat.le_refl _) _
  have hs1 : w1.heap.size = w.heap.size + 1 := by rw [hw1]; simp
  have hA1 : Blk 39 w1 w.heap.size [.int .i64 n, .string ⟨#[]⟩, .slice a t.length c, .string bd] := by rw [hw1]; exact heap_alloc_new w _
  obtain ⟨w2, hw2⟩ : ∃ w2, w2 = w1.alloc (.cells #[.int .i64 n, .string ⟨#[]⟩, .slice a2 t.length c2, .string bd] 43) := ⟨_, rfl⟩
  have hb2 : Below w1.heap.size w1 w2 := by rw [hw2]; exact (Below.refl _ w1).alloc (Nat.le_refl _) _
  have hB2 : Blk 43 w2 (w.heap.size + 1) [.int .i64 n, .string ⟨#[]⟩, .slice a2 t.length c2, .string bd] := by rw [hw2, ← hs1]; exact heap_alloc_new w1 _
  have hA2 : Blk 39 w2 w.heap.size [.int .i64 n, .string ⟨#[]⟩, .slice a t.length c, .string bd] := hA1.below hb2
  have HB2 : Hid (Below w.heap.size w w2) := bel_tr hb1 hb2 (by omega)
  have HW2 : Hid (w2 = (w.alloc (.cells #[.int .i64 n, .string ⟨#[]⟩, .slice a t.length c, .string bd] 39)).alloc (.cells #[.int .i64 n, .string ⟨#[]⟩, .slice a2 t.length c2, .string bd] 43)) := (by rw [hw2, hw1] : _ = _)
  have HS : Hid (Calls _ _ _ _ _) := same18_any (.slice a t.length c) (.slice a2 t.length c2) t w2 (h1.below HB2.out) (h2.below HB2.out) hl
  have x0 := hA2.cell 0 rfl
  have x1 := hA2.cell 1 rfl
  have x2 := hA2.cell 2 rfl
  have x3 := hA2.cell 3 rfl
  have y0 := hB2.cell 0 rfl
  have y1 := hB2.cell 1 rfl
  have y2 := hB2.cell 2 rfl
  have y3 := hB2.cell 3 rfl
  rw [HW2.out] at x0 x1 x2 x3 y0 y1 y2 y3
  clear hw1 hw2 hb1 hb2 hs1 hA1 hB2 hA2 h1 h2
  go_enter Tryz.func10, Tryz.ntmps10
  go_wp2_with fail
  rw [← HW2.out]
  refine HS.out.mono ?_
  rintro e w3 ⟨rfl, hb3⟩
  have HB3 : Hid (Below w.heap.size w w3) := bel_tr HB2.out hb3 HB2.out.size
  clear hb3 x0 x1 x2 x3 y0 y1 y2 y3 HS HW2
  go_wp2
  refine bodyPost_ret (v := .bool true) (by simp [results, Tryz.results10, go_sem]) rfl ⟨rfl, HB3.out⟩

end Hn
end Go.Proofs.YtlfobdjbnpgchaaGreatDoor
