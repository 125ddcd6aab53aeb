/-
  The document's Segments; TargetNormal: the walk.
-/
import Derived.Test.YtodgpcohdaejkabGreatDoorGRn
import Derived.Test.YtodgpcohdaejkabGreatDoorGAw
set_option linter.unusedVariables false
set_option linter.unusedSimpArgs false
namespace Go.Proofs.YtodgpcohdaejkabGreatDoor
open Go.RowKit Go.Shelf
namespace Tg
open Oc

theorem owns_free {w : World} {B T S n g cap : Nat} {xs : List Value} (h : w.ownsRow B T S (.slice (some ⟨g, 0, none⟩) n cap) n xs) (j : Nat) : w.frozen? ⟨g, j, none⟩ = false := by
  rcases h.2 with ⟨hv, _⟩ | ⟨g', cap', cur, hv, hb, hg, _⟩
  · cases hv
  · injection hv with e1 e2 e3
    injection e1 with e1
    injection e1 with e1
    subst e1
    exact Lib.frozen_of_heap hg j
theorem owns_set {w : World} {B T S n g cap c : Nat} {xs : List Value} (h : w.ownsRow B T S (.slice (some ⟨g, 0, none⟩) n cap) n xs) (u : Value) : (w.setCell ⟨g, c, none⟩ u).ownsRow B T S (.slice (some ⟨g, 0, none⟩) n cap) n (xs.set c u) := by
  rcases h.2 with ⟨hv, _⟩ | ⟨g', cap', cur, hv, hb, hg, hn, hm, hs, ht⟩
  · cases hv
  · injection hv with e1 e2 e3
    injection e1 with e1
    injection e1 with e1
    subst e1 e3
    refine ⟨by rw [List.length_set]; exact h.1, .inr ⟨g, cap, cur.setIfInBounds c u, rfl, hb, ?_, hn, hm, by rw [Array.size_setIfInBounds]; exact hs, ?_⟩⟩
    · simp [World.setCell, Array.getElem?_modify, hg]
    · rw [Array.toList_setIfInBounds, List.take_set, ht]

def turned (L : List (List UInt8)) (k : Nat) : List (List UInt8) := (L.take k).map decT ++ L.drop k
theorem turned_len (L : List (List UInt8)) (k : Nat) : (turned L k).length = L.length := by
  unfold turned; rw [List.length_append, List.length_map, List.length_take, List.length_drop]; omega
theorem turned_get (L : List (List UInt8)) (k : Nat) (h : k < L.length) : (turned L k).getD k [] = L.getD k [] := by
  unfold turned
  have e : ((L.take k).map decT).length = k := by rw [List.length_map, List.length_take]; omega
  rw [List.getD_eq_getElem?_getD, List.getElem?_append_right (by omega), e, Nat.sub_self, List.getElem?_drop, Nat.add_zero, List.getD_eq_getElem?_getD]
theorem turned_succ (L : List (List UInt8)) (k : Nat) (h : k < L.length) : turned L (k + 1) = (turned L k).set k (decT (L.getD k [])) := by
  unfold turned
  have e : ((L.take k).map decT).length = k := by rw [List.length_map, List.length_take]; omega
  rw [List.set_append, if_neg (by rw [e]; omega), e, Nat.sub_self, List.take_succ_eq_append_getElem h, List.map_append, List.append_assoc, List.drop_eq_getElem_cons h, List.set_cons_zero, List.getD_eq_getElem?_getD, List.getElem?_eq_getElem h]
  rfl

set_option maxRecDepth 100000 in
set_option maxHeartbeats 4000000 in
theorem rSegments_any (s : ByteArray) (hs : s.size ≤ 1300000) (w : World) :
    Calls Tryz.prog 11 #[.string s] w fun e w' => ∃ v, e = .returned (.tuple #[v, .int .i64 (segR s.data.toList).2]) ∧ OwnS w.heap.size v (segR s.data.toList).1 w' ∧ Below w.heap.size w w' := by
  have HI : Hid (∀ w, _) := fun w => rIsPath_any s (by omega) w
  cases hp : isPath s.data.toList with
  | false =>
    have hR : segR s.data.toList = ([], 53) := by unfold segR; rw [hp]; rfl
    rw [hR]
    rw [hp] at HI
    have HE : Hid (_) := ownS_empty w
    clear hR hp
    go_enter Tryz.func11, Tryz.ntmps11
    go_wp2_with fail
    refine (HI.out _).mono ?_
    rintro e w1 ⟨rfl, rfl⟩
    go_wp2
    go_ret2
    exact ⟨_, rfl, HE.out, (Below.refl _ _).alloc (Nat.le_refl _) _⟩
  | true =>
    have hR : segR s.data.toList = ((segs s.data.toList).map decT, 0) := by unfold segR; rw [hp]; rfl
    rw [hR]
    rw [hp] at HI
    have h1 : 1 ≤ s.size := by
      have := path_head hp
      rw [← size_list]
      cases h : s.data.toList with
      | nil => rw [h] at this; cases this
      | cons c t => simp
    have hex : (s.extract 1 s.size).data.toList = s.data.toList.drop 1 := by rw [ext_list, List.take_of_length_le (by rw [List.length_drop, size_list]; omega)]
    have hes : (s.extract 1 s.size).size ≤ 1300000 := by rw [← size_list, hex, List.length_drop, size_list]; omega
    have hseg : splitB 47 (s.extract 1 s.size).data.toList = segs s.data.toList := by rw [hex]; rfl
    have HS : Hid (∀ w, Calls Tryz.prog 25 #[.string (s.extract 1 s.size), .int .u8 47] w fun e w' => ∃ v, e = .returned v ∧ OwnS w.heap.size v (segs s.data.toList) w' ∧ Below w.heap.size w w') := fun w => by
      rw [← hseg]
      exact rsplit_any (s.extract 1 s.size) (by omega) 47 w
    have hLl : (segs s.data.toList).length ≤ 1300001 := by
      have := split_len 47 (s.data.toList.drop 1)
      rw [List.length_drop, size_list] at this
      unfold segs
      omega
    have hLz : ∀ z ∈ segs s.data.toList, z.length ≤ 1300000 := by
      intro z hz
      have h1 := join_splitB (s.data.toList.drop 1)
      have h2 : z.length + 1 ≤ (joinS (splitB 47 (s.data.toList.drop 1))).length := by
        unfold segs at hz
        unfold joinS
        obtain ⟨u, v, e⟩ := List.append_of_mem hz
        rw [e]
        simp
        omega
      rw [h1, List.length_cons, List.length_drop, size_list] at h2
      omega
    have hne := segs_ne s.data.toList
    clear hR hp hex hseg
    generalize segs s.data.toList = L at *
    have HLz : Hid (∀ z ∈ L, z.length ≤ 1300000) := hLz
    clear hLz
    go_enter Tryz.func11, Tryz.ntmps11
    go_wp2_with fail
    refine (HI.out _).mono ?_
    rintro e w1 ⟨rfl, rfl⟩
    go_wp2_with fail
    refine (HS.out _).mono ?_
    rintro e w3 ⟨v4, rfl, ho4, hb3⟩
    have HB3 : Hid (_) := hb3
    have hL0 : 0 < L.length := List.length_pos_iff.2 hne
    obtain ⟨a4, c4, rfl⟩ := ho4.form
    obtain ⟨g4, rfl, hc4, _⟩ := ho4.cell 0 hL0
    have hgl : w1.heap.size ≤ g4 := by
      rcases ho4.2 with ⟨e, _⟩ | ⟨g, c, cur, e, hg, _⟩
      · cases e
      · injection e with e1; injection e1 with e1; injection e1 with e1; omega
    have HO4 : Hid (OwnS w1.heap.size (.slice (some ⟨g4, 0, none⟩) L.length c4) (turned L 0) w3) := by
      show OwnS _ _ _ _
      have : turned L 0 = L := by unfold turned; simp
      rw [this]
      exact ho4
    clear ho4 hb3
    go_wp2
    go_loopw [5] (fun i wr => ∃ k : Nat, k ≤ L.length ∧ i = .int .i64 k ∧ Hid (OwnS w1.heap.size (.slice (some ⟨g4, 0, none⟩) L.length c4) (turned L k) wr) ∧ Hid (Below w1.heap.size w1 wr)) (fun i _ => L.length - (intOf i).toNat)
    case atStart => exact ⟨0, Nat.zero_le _, rfl, HO4, HB3⟩
    case round =>
      obtain ⟨k, hk, rfl, hown, hbl⟩ := hrel
      have hsz := hbl.out.size
      by_cases hlt : k < L.length
      · have hol := hown.out
        have htl := turned_len L k
        rw [← htl] at hol
        obtain ⟨g', e', _, hcell⟩ := hol.cell k (by omega)
        injection e' with e'
        injection e' with e1
        subst e1
        rw [turned_get L k hlt] at hcell
        have hzl : (L.getD k []).length ≤ 1300000 := HLz.out _ (by rw [List.getD_eq_getElem?_getD, List.getElem?_eq_getElem hlt]; exact List.getElem_mem _)
        have HD : Hid (∀ W, Calls Tryz.prog 29 #[.string (str (L.getD k []))] W fun e W' => e = .returned (.tuple #[.string (str (decT (L.getD k []))), .int .i64 ((decR (L.getD k [])).2.1 : Int), .int .i64 (decR (L.getD k [])).2.2]) ∧ Below W.heap.size W W') := fun W => by
          have := rDecode_any (str (L.getD k [])) (by rw [str_size]; omega) W
          rw [str_list] at this
          exact this
        have HTS : Hid (_) := turned_succ L k hlt
        generalize hZ : L.getD k [] = z at *
        generalize hX : str z = X at *
        generalize ((decR z).2.1 : Int) = q1 at *
        generalize (decR z).2.2 = q2 at *
        have HOL : Hid (OwnS w1.heap.size (.slice (some ⟨g4, 0, none⟩) L.length c4) (turned L k) wr) := hown
        clear hol hown
        go_wp2_with (go_at_call 29; refine (HD.out _).mono ?_; rintro e w5 ⟨rfl, k5⟩; have ho5 := HOL.out.below k5; have hr5 : w5.ownsRow w1.heap.size 9 1 (.slice (some ⟨g4, 0, none⟩) L.length c4) L.length (encL (turned L k)) := (by unfold OwnS at ho5; rw [htl] at ho5; exact ho5); have hf5 := owns_free hr5 k; have hc5 : w5.cell? ⟨g4, k, none⟩ = some (.string X) := (k5.cell (p := ⟨g4, k, none⟩) (cell_lt hcell)).trans hcell)
        have hst := owns_set (c := k) hr5 (.string (str (decT z)))
        have HST : Hid (OwnS w1.heap.size (.slice (some ⟨g4, 0, none⟩) L.length c4) (turned L (k + 1)) (w5.setCell ⟨g4, k, none⟩ (.string (str (decT z))))) := by
          show OwnS _ _ _ _
          unfold OwnS
          rw [turned_len, HTS.out]
          have : encL ((turned L k).set k (decT z)) = (encL (turned L k)).set k (.string (str (decT z))) := by unfold encL; rw [List.map_set]
          rw [this]
          exact hst
        have HBL2 : Hid (Below w1.heap.size w1 (w5.setCell ⟨g4, k, none⟩ (.string (str (decT z))))) := (hbl.out.trans (k5.mono hsz)).setCell (p := ⟨g4, k, none⟩) hgl _
        go_roundw
        case rel => exact ⟨k + 1, by omega, by go_num, HST, HBL2⟩
        case measure => simp [intOf]; omega
      · obtain rfl : k = L.length := by omega
        have HF : Hid (OwnS w1.heap.size (.slice (some ⟨g4, 0, none⟩) L.length c4) (L.map decT) wr) := by
          have : turned L L.length = L.map decT := by unfold turned; simp
          rw [← this]
          exact hown.out
        go_wp2
        go_ret2
        exact ⟨_, rfl, HF.out, hbl.out⟩

theorem segR_len (l : List UInt8) : (segR l).1.length ≤ l.length + 1 := by
  unfold segR
  split
  · dsimp only
    rw [List.length_map]
    have := split_len 47 (l.drop 1)
    rw [List.length_drop] at this
    unfold segs
    omega
  · simp

set_option maxRecDepth 100000 in
set_option maxHeartbeats 4000000 in
theorem walk_TargetNormal (s : ByteArray) (hs : s.size ≤ 1048576) (w : World) (hm : ML w) :
    Calls Tryz.prog 3 #[.string s] w fun e w' => e = .returned (.bool true) ∧ Below w.heap.size w w' := by
  have HA : Hid (∀ w, ML w → _) := fun w h => awake_any w h
  have HN : Hid (∀ w, ML w → _) := fun w h => Normal_any s (by omega) w h
  have HR : Hid (∀ w, _) := fun w => rNormal_any s (by omega) w
  have HS : Hid (∀ w, ML w → _) := fun w h => Segments_any s (by omega) w h
  have HT : Hid (∀ w, _) := fun w => rSegments_any s (by omega) w
  have hsl := segR_len s.data.toList
  rw [size_list] at hsl
  generalize normR s.data.toList = R at *
  generalize segR s.data.toList = T at *
  obtain ⟨r1, r2⟩ := R
  obtain ⟨t1, t2⟩ := T
  dsimp only at *
  generalize str r1 = R1 at *
  have HM : Hid (ML w) := hm
  clear hm
  go_enter Tryz.func3, Tryz.ntmps3
  go_wp2_with fail
  refine (HN.out _ HM.out).mono ?_
  rintro e w1 ⟨rfl, h1⟩
  have H1 : Hid (Below w.heap.size w w1) := h1
  clear h1
  go_wp2_with fail
  refine (HR.out _).mono ?_
  rintro e w2 ⟨rfl, h2⟩
  have H2 : Hid (Below w.heap.size w w2) := H1.out.trans (h2.mono H1.out.size)
  clear h2
  go_wp2_with fail
  refine (HS.out _ (HM.out.below H2.out)).mono ?_
  rintro e w3 ⟨v3, rfl, o3, h3⟩
  have H3 : Hid (Below w.heap.size w w3) := H2.out.trans (h3.mono H2.out.size)
  have HO3 : Hid (OwnS w2.heap.size v3 t1 w3) := o3
  clear h3 o3
  go_wp2_with fail
  refine (HT.out _).mono ?_
  rintro e w4 ⟨v4, rfl, o4, h4⟩
  have H4 : Hid (Below w.heap.size w w4) := H3.out.trans (h4.mono H3.out.size)
  have HO4 : Hid (OwnS w3.heap.size v4 t1 w4) := o4
  have HO34 : Hid (OwnS w2.heap.size v3 t1 w4) := OwnS.below HO3.out h4
  clear h4 o4
  go_wp2_with fail
  refine (HA.out _ (HM.out.below H4.out)).mono ?_
  rintro e w5 ⟨rfl, h5⟩
  have H5 : Hid (Below w.heap.size w w5) := H4.out.trans (h5.mono H4.out.size)
  have HO5 : Hid (RdS v4 t1 w5) := (OwnS.below HO4.out h5).rd
  have HO35 : Hid (RdS v3 t1 w5) := (OwnS.below HO34.out h5).rd
  clear h5
  go_wp2_with fail
  refine (same_any v3 v4 t1 t1 w5 HO35.out HO5.out (by omega) (by omega)).mono ?_
  rintro e w6 ⟨rfl, n6, rfl⟩
  rw [decide_eq_true rfl]
  have H6 : Hid (Below w.heap.size w (w5.drewN n6)) := ⟨H5.out.os, H5.out.tape, H5.out.output, H5.out.size, H5.out.block⟩
  go_wp2
  go_ret
  exact ⟨rfl, H6.out⟩

end Tg
end Go.Proofs.YtodgpcohdaejkabGreatDoor
