/- Several texts as one. -/
import Derived.Test.YtfpodnaaappocaaGreatDoorMgT
import Derived.Test.YtfpodnaaappocaaGreatDoorMgQ
import Derived.Test.YtfpodnaaappocaaGreatDoorMgS
import Derived.Lib.ReplaceLaws
/-
  target: isPath, segmentsOf, Segments.
-/
set_option linter.unusedVariables false
set_option linter.unusedSimpArgs false
namespace Go.Proofs.YtfpodnaaappocaaGreatDoor
open Go.RowKit Go.Shelf
attribute [local go_sem] Oper.semAt_some
namespace Tg
open Oc

theorem pre47 (l : List UInt8) : Lib.hasPrefix l [47] = (l.head? == some 47) := by
  unfold Lib.hasPrefix
  cases l with
  | nil => rfl
  | cons c t =>
    by_cases h : c = 47
    · subst h; simp [List.isPrefixOf]
    · have h2 : ¬ 47 = c := fun e => h e.symm
      rw [List.isPrefixOf, List.head?_cons, show ((47 : UInt8) == c) = false from by simpa using h2, Bool.false_and]
      symm
      simpa using h

set_option maxRecDepth 100000 in
set_option maxHeartbeats 1000000 in
theorem isPath_any (s : ByteArray) (hs : s.size ≤ 40000000000) (w : World) :
    Calls Tryz.prog 17 #[.string s] w fun e w' => e = .returned (.bool (isPath s.data.toList)) ∧ Below w.heap.size w w' := by
  have HI : Hid (∀ w, _) := fun w => isOf_any s hs 15 pathOk ok_path path37 w
  have HP : Hid (∀ w, _) := fun w => Tryz.strings_HasPrefix s ⟨#[47]⟩ w
  have e1 : Lib.hasPrefix s.data.toList (⟨#[47]⟩ : ByteArray).data.toList = (s.data.toList.head? == some 47) := pre47 _
  rw [e1] at HP
  unfold isPath
  generalize (s.data.toList.head? == some 47) = a at *
  generalize allOk pathOk s.data.toList = b at *
  clear e1
  cases a with
  | true =>
    go_enter Tryz.func17, Tryz.ntmps17
    go_wp2_with fail
    refine (HP.out _).mono ?_
    rintro e w1 ⟨rfl, rfl⟩
    go_wp2_with fail
    refine (HI.out _).mono ?_
    rintro e w2 ⟨rfl, hb⟩
    go_wp2
    go_ret
    exact ⟨rfl, hb⟩
  | false =>
    go_enter Tryz.func17, Tryz.ntmps17
    go_wp2_with fail
    refine (HP.out _).mono ?_
    rintro e w1 ⟨rfl, rfl⟩
    go_wp2
    go_ret
    exact ⟨rfl, Below.refl _ _⟩

set_option maxRecDepth 100000 in
set_option maxHeartbeats 1000000 in
theorem pieces_any (s p : ByteArray) (w : World) : Calls Tryz.prog 21 #[.string s, .string p] w fun e w' => e = .returned (.func (.func 41) #[] #[.pointer (some ⟨w.heap.size, 0, none⟩), .pointer (some ⟨w.heap.size + 1, 0, none⟩)]) ∧ w' = (w.alloc (.cells #[.string s] 9)).alloc (.cells #[.string p] 9) := by
  go_enter Tryz.func21, Tryz.ntmps21
  go_wp2
  go_ret
  exact ⟨rfl, rfl⟩

set_option maxRecDepth 100000 in
set_option maxHeartbeats 1000000 in
theorem segmentsOf_any (s : ByteArray) (h1 : 1 ≤ s.size) (w : World) : Calls Tryz.prog 18 #[.string s] w fun e w' => e = .returned (.func (.func 41) #[] #[.pointer (some ⟨w.heap.size, 0, none⟩), .pointer (some ⟨w.heap.size + 1, 0, none⟩)]) ∧ w' = (w.alloc (.cells #[.string (s.extract 1 s.size)] 9)).alloc (.cells #[.string ⟨#[47]⟩] 9) := by
  go_enter Tryz.func18, Tryz.ntmps18
  go_wp2_with (go_at_call 21; refine (pieces_any _ _ _).mono ?_; rintro e w1 ⟨rfl, rfl⟩)
  go_ret
  exact ⟨rfl, rfl⟩

theorem pieces_stops (n : Nat) (Bs Bp : Nat) (b : UInt8) (s : ByteArray) (hs : s.size ≤ 4000000000) (w : World) (hm : ML w) (hc : w.cell? ⟨Bs, 0, none⟩ = some (.string s)) (hp : w.cell? ⟨Bp, 0, none⟩ = some (.string ⟨#[b]⟩)) :
    SeqStopsK Fence.wide n Tryz.prog 41 #[.pointer (some ⟨Bs, 0, none⟩), .pointer (some ⟨Bp, 0, none⟩)] (encP (M := s.size)) (Keep3 Bs Bp 0) (fun ys => ys.map Pz.z = splitB b s.data.toList)
      (fun pre => ∃ rest, pre.map Pz.z ++ rest = splitB b s.data.toList) (s.size + 1) w := fun l J Jx W hW hJ _ hY h0 =>
  pieces1_in n l Bs Bp b s hs J Jx (fun pre A B h hb => hJ _ _ _ _ h (grown_of_below hb) (fun r e => by cases e)) hY W (hm.below hW) ((hW.cell (p := ⟨Bs, 0, none⟩) (cell_lt hc)).trans hc) ((hW.cell (p := ⟨Bp, 0, none⟩) (cell_lt hp)).trans hp) h0

theorem OwnRow.below {B : Nat} {e : TypeId} {v : Value} {n : Nat} {xs : List Value} {w w' : World} (h : w.ownsRow B e 1 v n xs) (hb : Below w.heap.size w w') : w'.ownsRow B e 1 v n xs :=
  ⟨h.1, h.2.imp id fun ⟨g, c, cur, e, hg, hh, r⟩ => ⟨g, c, cur, e, hg, (hb.block g (Array.getElem?_eq_some_iff.1 hh).1).trans hh, r⟩⟩
theorem cell_one_new (W : World) (v : Value) (t : TypeId) : ∀ (j : Nat) (u : Value), [v][j]? = some u → (W.alloc (.cells #[v] t)).cell? ((⟨W.heap.size, 0, none⟩ : Addr).add j) = some u := by
  intro j u hj
  match j, hj with
  | 0, hj => simp at hj; subst hj; simp [Addr.add]
def decT (z : List UInt8) : List UInt8 := (decR z).1
theorem decT_len (z : List UInt8) : (decT z).length ≤ z.length := by
  unfold decT decR
  split
  · simp
  · dsimp only
    have := sg_len 0 z
    rw [vals_len]
    exact this

set_option maxRecDepth 100000 in
set_option maxHeartbeats 8000000 in
theorem Segments_any (s : ByteArray) (hs : s.size ≤ 16777216) (w : World) (hm : ML w) :
    Calls Tryz.prog 6 #[.string s] w fun e w' => ∃ v, e = .returned (.tuple #[v, .int .i64 (segR s.data.toList).2]) ∧ OwnS w.heap.size v (segR s.data.toList).1 w' ∧ Below w.heap.size w w' := by
  obtain ⟨i1, hj, hy0, hy1, hy2⟩ := info_parts infoStr
  have HI : Hid (∀ w, _) := fun w => isPath_any s (by omega) w
  cases hp : isPath s.data.toList with
  | false =>
    have hR : segR s.data.toList = ([], 53) := by unfold segR; rw [hp]; rfl
    rw [hR]
    rw [hp] at HI
    clear hR hp
    go_enter Tryz.func6, Tryz.ntmps6
    go_wp2_with fail
    refine (HI.out _).mono ?_
    rintro e w1 ⟨rfl, hb⟩
    go_wp2
    go_ret2
    exact ⟨_, rfl, ownS_nil _ _, hb⟩
  | true =>
    have hR : segR s.data.toList = ((segs s.data.toList).map decT, 0) := by unfold segR; rw [hp]; rfl
    rw [hR]
    rw [hp] at HI
    have h1 : 1 ≤ s.size := by
      have := path_head hp
      rw [← size_list]
      cases h : s.data.toList with
      | nil => rw [h] at this; cases this
      | cons c t => simp
    have hex : (s.extract 1 s.size).data.toList = s.data.toList.drop 1 := by rw [ext_list, List.take_of_length_le (by rw [List.length_drop, size_list]; omega)]
    have hes : (s.extract 1 s.size).size ≤ 16777216 := by rw [← size_list, hex, List.length_drop, size_list]; omega
    have hseg : segs s.data.toList = splitB 47 (s.extract 1 s.size).data.toList := by rw [hex]; rfl
    rw [hseg]
    have HS : Hid (∀ w, _) := fun w => segmentsOf_any s h1 w
    clear hR hp hex hseg
    generalize s.extract 1 s.size = S at *
    refine (callsIn_wide (n := 9)).1 ?_
    refine callsIn_of_wp_marks Tryz.func6 rfl trivial ?_ rfl
    simp only [Tryz.ntmps6, List.size_toArray, List.length_cons, List.length_nil, Nat.reduceAdd, Nat.reduceSub, Array.replicate_succ, Array.replicate_zero, List.push_toArray, List.append_toArray, List.nil_append, List.cons_append]
    have hq : ∀ (k : Nat) (cs : Array Value) (W : World), (binOp .eql 51 (.func (.func k) #[] cs) .nilFunc).run Tryz.prog W = .ok (.bool false) W := fun k cs W => by kernel_rfl
    gi_wp2_with (refine ⟨trivial, ?_⟩; gi_at_call 17; refine (callsIn_wide.2 (HI.out _)).mono ?_; rintro e w1 ⟨rfl, hb1⟩)
    obtain ⟨w4, hw4⟩ : ∃ w4, w4 = ((w1.alloc (.cells #[.slice none 0 0] 22)).alloc (.cells #[.string S] 9)).alloc (.cells #[.string ⟨#[47]⟩] 9) := ⟨_, rfl⟩
    have hsz4 : w4.heap.size = w1.heap.size + 3 := by rw [hw4]; simp
    have b0 : Boxed w4 w1.heap.size 22 (.slice none 0 0) := by rw [hw4]; exact ((Boxed.new w1 _ _).alloc _).alloc _
    have b1 : w4.cell? ⟨w1.heap.size + 1, 0, none⟩ = some (.string S) := by rw [hw4]; have := ((Boxed.new (w1.alloc (.cells #[.slice none 0 0] 22)) 9 (.string S)).alloc (.cells #[.string ⟨#[47]⟩] 9)).cell; rwa [World.size_alloc] at this
    have b2 : w4.cell? ⟨w1.heap.size + 2, 0, none⟩ = some (.string ⟨#[47]⟩) := by rw [hw4]; have := (Boxed.new ((w1.alloc (.cells #[.slice none 0 0] 22)).alloc (.cells #[.string S] 9)) 9 (.string ⟨#[47]⟩)).cell; rwa [World.size_alloc, World.size_alloc] at this
    have hB4 : Below w1.heap.size w1 w4 := by
      rw [hw4]
      exact (((Below.refl _ w1).alloc (Nat.le_refl _) _).alloc (by simp) _).alloc (by simp; omega) _
    have hM4 : ML w4 := (hm.below hb1).below hB4
    have HW4 : Hid (_ = _) := hw4
    have hG := (hm.below hb1).lt
    clear hw4
    gi_wp2_with (refine ⟨trivial, ?_⟩; gi_at_call 18; refine (callsIn_wide.2 (HS.out _)).mono ?_; rintro e w3 ⟨rfl, e3⟩; have e4 := e3.trans HW4.out.symm; subst e4; clear e3)
    simp only [Nat.add_assoc, Nat.reduceAdd]
    clear HW4 HI HS
    have hb0 : Below w.heap.size w w3 := hb1.trans (hB4.mono hb1.size)
    have hn1 := hb1.size
    generalize hN : w1.heap.size = n1 at *
    refine wpIn_rangeFunc_ownG rfl (by omega) (gf := 41) (lb := #[.pointer (some ⟨n1 + 1, 0, none⟩), .pointer (some ⟨n1 + 2, 0, none⟩)]) rfl trivial (enters_of Tryz.func41 (by kernel_rfl) rfl)
      (pieces_stops 8 (n1 + 1) (n1 + 2) 47 S (by omega) _ hM4 b1 b2) keep3_t (keep3_b (by omega) (by omega) (by omega)) (Below.refl _ _) (fun _ => rfl)
      (fun (pre : List (Pz S.size)) W => (∃ v, Boxed W n1 22 v ∧ W.ownsRow (n1 + 3) 9 1 v pre.length (pre.map fun x => Value.string (str (decT x.z))) ∧ True) ∧ (Below w.heap.size w W ∧ n1 + 3 ≤ W.heap.size))
      (fun _ _ _ => False)
      (OwnFrom.and (Own.from (holdsRow_own (n1 + 3) n1 22 9 1 (fun pre : List (Pz S.size) => pre.length) (fun pre => pre.map fun x => Value.string (str (decT x.z))) (fun _ _ => True)) _) (OwnFrom.and (ownFrom_below (Nat.le_refl _) (by omega)) (fun _ _ _ _ h hg _ => Nat.le_trans h hg.size)))
      (fun _ _ _ _ _ hs _ _ => hs)
      ⟨⟨_, b0, World.ownsRow_nil _ _ _ _, trivial⟩, hb0, by omega⟩
      (fun x : Pz S.size => { tmps := #[.string s, undef, .slice none 0 0, .int .i64 0, .pointer (some ⟨n1, 0, none⟩), .string (str x.z), undef, undef, undef, .string s, .bool true, .bool false, .string s, .func (.func 41) #[] #[.pointer (some ⟨n1 + 1, 0, none⟩), .pointer (some ⟨n1 + 2, 0, none⟩)], .string (str x.z), undef, undef, undef, undef, undef, undef, undef, undef, undef, undef, undef], defers := [] }) ?assign ?body ?done ?stop
    case assign =>
      intro l x W K hK
      unfold encP
      gi_wp2
      exact hK
    case body =>
      rintro l pre x W ⟨⟨v, hv, hrow, _⟩, hB, hS⟩ hlt
      have hxl := x.le
      have HD : Hid (∀ W, Calls Tryz.prog 19 #[.string (str x.z)] W fun e W' => e = .returned (.tuple #[.string (str (decT x.z)), .int .i64 ((decR x.z).2.1 : Int), .int .i64 (decR x.z).2.2]) ∧ Below W.heap.size W W') := fun W => by
        have := Decode_any (str x.z) (by rw [str_size]; omega) W
        rw [str_list] at this
        exact this
      have hlv : ∃ a c, v = .slice a pre.length c := by
        rcases hrow.2 with ⟨rfl, e⟩ | ⟨g, c, _, rfl, _⟩
        · exact ⟨none, 0, by rw [e]⟩
        · exact ⟨_, c, rfl⟩
      obtain ⟨av, cv, rfl⟩ := hlv
      generalize str x.z = X at *
      generalize hY : str (decT x.z) = Y at *
      generalize ((decR x.z).2.1 : Int) = q1 at *
      generalize (decR x.z).2.2 = q2 at *
      gi_wp2_with (first | (refine ⟨trivial, ?_⟩; gi_at_call 19; refine ((callsIn_wide.2 (HD.out _)).inRound l).mono ?_; rintro e W1 ⟨rfl, k1⟩; have hv1 := box_below hv k1 hv.lt; have hr1 := OwnRow.below hrow k1; have hs1 := k1.size; have hc := hv1.cell; have hk1 : KeepsOthers W W1 := (Fr.of_below (b := 0) k1 (Nat.le_refl _)).others) | (gi_at_builtin; refine wpListIn_append_own _ rfl _ _ 22 rfl (n1 + 3) 9 i1 (.string ⟨#[]⟩) 1 16 Tryz.underlying22 hj hy0 hy1 hy2 rfl (by decide) _ _ _ rfl (hr1.alloc _) ⟨W1.heap.size, 0, none⟩ 1 1 [.string Y] rfl rfl (cell_one_new _ _ _) (by simp [Value.oneCell']) (by unfold maxLen; omega) (by omega) (by simp; omega) ?_; intro v' w5 hown' hgrow _; obtain ⟨g', cap', rfl⟩ := ownsRow_succ hown'; obtain ⟨hv2, hv3, hr3, hk3, hb3, hbx, hrx, hkp⟩ := coll (n₀ := n1) hv1 (by decide) hr1 (by omega) (by omega) (Nat.le_refl _) hown' hgrow; have hc2 := hv2.cell; have hf2 := hv2.frozen))
      have hG1 : 0 < n1 := hG
      refine ⟨(hk1.trans hk3).from _, ⟨(Keep.below k1 (by omega)).trans (hkp _ (by omega) (by omega)), (Keep.below k1 (by omega)).trans (hkp _ (by omega) (by omega)), (Keep.below k1 (by omega)).trans (hkp _ (by omega) (by omega))⟩, ⟨_, hv3, ?_, trivial⟩, hB.trans ((k1.mono (by omega)).trans (hb3.mono (by omega))), Nat.le_trans hS (Nat.le_trans hs1 hk3.size)⟩
      rw [List.length_append, List.map_append]
      subst hY
      exact hr3
    case done =>
      rintro D ys W hD hys ⟨⟨v, hv, hrow, _⟩, hB, hS⟩ hK
      have hc := hv.cell
      gi_wp2
      refine ⟨by simp, .inl ⟨_, _, rfl, run_takeDeferred hK, ?_⟩⟩
      refine ⟨.tuple #[v, .int .i64 0], by simp [results, Tryz.results6, go_sem], v, rfl, ?_, below_put hB (by omega) _⟩
      have e1 : (splitB 47 S.data.toList).map decT = ys.map (fun x => decT x.z) := by rw [← hys, List.map_map]; rfl
      rw [e1]
      unfold OwnS encL
      rw [List.length_map, List.map_map]
      exact own_mono (ownsRow_putObj hrow _ hK rfl) (by omega)
    case stop =>
      rintro D c pre W _ _ h _
      exact h.elim

end Tg
end Go.Proofs.YtfpodnaaappocaaGreatDoor

/-
  target: decodeSpaces, readPair.
-/
set_option linter.unusedVariables false
set_option linter.unusedSimpArgs false
namespace Go.Proofs.YtfpodnaaappocaaGreatDoor
open Go.RowKit Go.Shelf
attribute [local go_sem] Oper.semAt_some
namespace Tg
open Oc

theorem Replace_sp (s : ByteArray) (hs : s.size ≤ 4000000000) (w : World) (h : ML w) :
    Calls Tryz.prog 57 #[.string s, .string ⟨#[43]⟩, .string ⟨#[32]⟩] w fun e w' => e = .returned (.string (str (s.data.toList.map sp))) ∧ Below w.heap.size w w' := by
  obtain ⟨m, hm⟩ := h
  have hc := Lib.countB_mul_le ⟨#[43]⟩ (by decide) s.size s (Nat.le_refl _)
  rw [show (⟨#[43]⟩ : ByteArray).size = 1 from rfl] at hc
  refine (Tryz.strings_ReplaceAll s ⟨#[43]⟩ ⟨#[32]⟩ m w (by omega) hm (by decide) (by rw [show (⟨#[32]⟩ : ByteArray).size = 1 from rfl]; omega)).mono ?_
  rintro e w' ⟨rfl, hb⟩
  rw [show (⟨#[43]⟩ : ByteArray).data.toList = [43] from rfl, show (⟨#[32]⟩ : ByteArray).data.toList = [32] from rfl, replace_sp]
  exact ⟨rfl, hb⟩

set_option maxRecDepth 100000 in
set_option maxHeartbeats 1000000 in
theorem decodeSpaces_any (s : ByteArray) (hs : s.size ≤ 4000000000) (w : World) (hm : ML w) :
    Calls Tryz.prog 43 #[.string s] w fun e w' => e = .returned (.string (str (spd s.data.toList))) ∧ Below w.heap.size w w' := by
  have HR : Hid (∀ w, ML w → _) := fun w h => Replace_sp s hs w h
  have HD : Hid (∀ w, _) := fun w => Decode_any (str (s.data.toList.map sp)) (by rw [str_size, List.length_map, size_list]; omega) w
  rw [str_list] at HD
  unfold spd
  generalize str (s.data.toList.map sp) = R at *
  generalize decR (s.data.toList.map sp) = D at *
  obtain ⟨D1, D2, D3⟩ := D
  dsimp only at HD ⊢
  go_enter Tryz.func43, Tryz.ntmps43
  go_wp2_with fail
  refine (HR.out _ hm).mono ?_
  rintro e w1 ⟨rfl, hb1⟩
  go_wp2_with fail
  refine (HD.out _).mono ?_
  rintro e w2 ⟨rfl, hb2⟩
  go_wp2
  go_ret
  exact ⟨rfl, hb1.trans (hb2.mono hb1.size)⟩

set_option maxRecDepth 100000 in
set_option maxHeartbeats 1000000 in
theorem readPair_any (s : ByteArray) (hs : s.size ≤ 4000000000) (w : World) (hm : ML w) :
    Calls Tryz.prog 22 #[.string s] w fun e w' => e = .returned (.agg #[.string (str (pairR s.data.toList).1), .string (str (pairR s.data.toList).2.1), .bool (pairR s.data.toList).2.2]) ∧ Below w.heap.size w w' := by
  have hla := cutA_len 61 s.data.toList
  have hlb := cutB_len 61 s.data.toList
  rw [size_list] at hla hlb
  have HC : Hid (∀ w, ML w → _) := fun w h => Cut_one s 61 hs w h
  have HA : Hid (∀ w, ML w → _) := fun w h => decodeSpaces_any (str (cutA 61 s.data.toList)) (by rw [str_size]; omega) w h
  have HB : Hid (∀ w, ML w → _) := fun w h => decodeSpaces_any (str (cutB 61 s.data.toList)) (by rw [str_size]; omega) w h
  rw [str_list] at HA HB
  unfold pairR
  dsimp only
  generalize str (cutA 61 s.data.toList) = a at *
  generalize str (cutB 61 s.data.toList) = b at *
  generalize has 61 s.data.toList = h at *
  generalize str (spd (cutA 61 s.data.toList)) = x at *
  generalize str (spd (cutB 61 s.data.toList)) = y at *
  clear hla hlb
  go_enter Tryz.func22, Tryz.ntmps22
  go_wp2_with fail
  refine (HC.out _ ?_).mono ?_
  · exact hm.below ((Below.refl _ _).alloc (Nat.le_refl _) _)
  rintro e w1 ⟨rfl, hb1⟩
  have hm1 : ML w1 := (hm.below ((Below.refl _ _).alloc (Nat.le_refl _) _)).below hb1
  have hB1 : Below w.heap.size w w1 := ((Below.refl _ w).alloc (Nat.le_refl _) _).trans (hb1.mono (by simp))
  have k0 : w1.cell? ⟨w.heap.size, 0, none⟩ = some (.string ⟨#[]⟩) := (hb1.cell (p := ⟨w.heap.size, 0, none⟩) (by simp)).trans (by simp)
  have f0 : ∀ j : Nat, j < 3 → w1.frozen? ⟨w.heap.size, j, none⟩ = false := fun j hj => (hb1.frozen (p := ⟨w.heap.size, j, none⟩) (by simp)).trans (by simp)
  have k1 : w1.cell? ⟨w.heap.size, 1, none⟩ = some (.string ⟨#[]⟩) := (hb1.cell (p := ⟨w.heap.size, 1, none⟩) (by simp)).trans (by simp)
  have k2 : w1.cell? ⟨w.heap.size, 2, none⟩ = some (.bool false) := (hb1.cell (p := ⟨w.heap.size, 2, none⟩) (by simp)).trans (by simp)
  have hsz : w.heap.size < w1.heap.size := by have := hb1.size; simp at this; omega
  clear hb1
  go_wp2_with fail
  refine (HA.out _ hm1).mono ?_
  rintro e w2 ⟨rfl, hb2⟩
  have hm2 := hm1.below hb2
  go_wp2_with fail
  refine (HB.out _ hm2).mono ?_
  rintro e w3 ⟨rfl, hb3⟩
  have hb := hb2.trans (hb3.mono hb2.size)
  have K0 : w3.cell? ⟨w.heap.size, 0, none⟩ = some (.string ⟨#[]⟩) := (hb.cell (p := ⟨w.heap.size, 0, none⟩) hsz).trans k0
  have K1 : w3.cell? ⟨w.heap.size, 1, none⟩ = some (.string ⟨#[]⟩) := (hb.cell (p := ⟨w.heap.size, 1, none⟩) hsz).trans k1
  have K2 : w3.cell? ⟨w.heap.size, 2, none⟩ = some (.bool false) := (hb.cell (p := ⟨w.heap.size, 2, none⟩) hsz).trans k2
  have F0 : w3.frozen? ⟨w.heap.size, 0, none⟩ = false := (hb.frozen (p := ⟨w.heap.size, 0, none⟩) hsz).trans (f0 0 (by omega))
  have F1 : w3.frozen? ⟨w.heap.size, 1, none⟩ = false := (hb.frozen (p := ⟨w.heap.size, 1, none⟩) hsz).trans (f0 1 (by omega))
  have F2 : w3.frozen? ⟨w.heap.size, 2, none⟩ = false := (hb.frozen (p := ⟨w.heap.size, 2, none⟩) hsz).trans (f0 2 (by omega))
  have hB3 : Below w.heap.size w w3 := hB1.trans (hb.mono hB1.size)
  have hsz3 : w.heap.size < w3.heap.size := Nat.lt_of_lt_of_le hsz hb.size
  clear f0 k0 k1 k2
  go_wp2
  refine bodyPost_ret (v := .agg #[.string x, .string y, .bool h]) (by simp [results, Tryz.results22, go_sem, K0, K1, K2, hsz3]) rfl ⟨rfl, ?_⟩
  exact ((hB3.setCell (Nat.le_refl _) _).setCell (Nat.le_refl _) _).setCell (Nat.le_refl _) _

end Tg
end Go.Proofs.YtfpodnaaappocaaGreatDoor
