/-
  The document's reading of a date in a form.
-/
import Derived.Test.YtjngpafokkjkdaaGreatDoorMgC1
set_option linter.unusedVariables false
set_option linter.unusedSimpArgs false
namespace Go.Proofs.YtjngpafokkjkdaaGreatDoor
open Go.RowKit
namespace Bs

theorem dgs_ok_le (l : List UInt8) : ∀ (k a : Nat) (v : Int) (r : Nat × Int), a ≤ l.length → 0 ≤ v → dgs l k a v = .ok r → r.1 ≤ l.length ∧ 0 ≤ r.2 ∧ r.2 + 1 ≤ (v + 1) * 10 ^ k
  | 0, a, v, r, ha, hv, h => by
    unfold dgs at h
    cases h
    simp
    omega
  | k + 1, a, v, r, ha, hv, h => by
    obtain ⟨c, h1, h2, h'⟩ := dgs_un h
    have hlt := (List.getElem?_eq_some_iff.1 h1).1
    have hd := dv_r h2
    have := dgs_ok_le l k (a + 1) (v * 10 + dv c) r (by omega) (by omega) h'
    refine ⟨this.1, this.2.1, Int.le_trans this.2.2 ?_⟩
    rw [Int.pow_succ, ← Int.mul_assoc, Int.mul_right_comm]
    exact Int.mul_le_mul_of_nonneg_right (by omega) (by exact Int.le_of_lt (Int.pow_pos (by omega)))
theorem dgs_er_le (l : List UInt8) : ∀ (k a : Nat) (v : Int) (e : Nat), a ≤ l.length → dgs l k a v = .error e → e ≤ l.length
  | 0, a, v, e, ha, h => by
    unfold dgs at h
    cases h
  | k + 1, a, v, e, ha, h => by
    unfold dgs at h
    split at h
    · rename_i c hc
      have hlt := (List.getElem?_eq_some_iff.1 hc).1
      split at h
      · exact dgs_er_le l k (a + 1) _ e (by omega) h
      · cases h
        exact ha
    · cases h
      exact ha
theorem namR_ok {l : List UInt8} {a : Nat} {ns : List (List UInt8)} {b : Nat} {v : Int} (ha : a ≤ l.length) (h : namR l a ns = .ok (b, v)) : b ≤ l.length ∧ 0 ≤ v ∧ v < ns.length := by
  unfold namR at h
  split at h
  · rename_i i hi
    cases h
    obtain ⟨h1, h2⟩ := nam_of hi
    have := congrArg List.length h2
    rw [List.length_append, List.length_drop, List.length_drop] at this
    refine ⟨?_, by omega, by omega⟩
    by_cases hz : a + (ns.getD i []).length ≤ l.length
    · exact hz
    · omega
  · cases h
theorem namR_er {l : List UInt8} {a : Nat} {ns : List (List UInt8)} {e : Nat} (h : namR l a ns = .error e) : e = a := by
  unfold namR at h
  split at h
  · cases h
  · cases h
    rfl
theorem loS_ok {l : List UInt8} {a : Nat} {b : Nat} {v : Int} (ha : a ≤ l.length) (h : loS l a = .ok (b, v)) : b ≤ l.length ∧ 0 ≤ v ∧ v ≤ 9999 := by
  unfold loS at h
  split at h
  · rename_i h32
    have hlt := (List.getElem?_eq_some_iff.1 h32).1
    have := dgs_ok_le l 1 (a + 1) 0 _ (by omega) (by omega) h
    simp at this
    omega
  · have := dgs_ok_le l 2 a 0 _ ha (by omega) h
    simp at this
    omega
theorem loS_er {l : List UInt8} {a e : Nat} (ha : a ≤ l.length) (h : loS l a = .error e) : e ≤ l.length := by
  unfold loS at h
  split at h
  · rename_i h32
    have hlt := (List.getElem?_eq_some_iff.1 h32).1
    exact dgs_er_le l 1 (a + 1) 0 _ (by omega) h
  · exact dgs_er_le l 2 a 0 _ ha h
theorem rtake_ok {l : List UInt8} {a : Nat} {c : UInt8} {b : Nat} {v : Int} (ha : a ≤ l.length) (h : rtake l a c = .ok (b, v)) : b ≤ l.length ∧ 0 ≤ v ∧ v ≤ 9999 := by
  have d2' : ∀ {b : Nat} {v : Int}, dgs l 2 a 0 = .ok (b, v) → b ≤ l.length ∧ 0 ≤ v ∧ v ≤ 9999 := fun {b v} h => by
    have := dgs_ok_le l 2 a 0 _ ha (by omega) h
    simp at this
    omega
  unfold rtake at h
  split at h
  · have := namR_ok ha h
    have e : shorts.length = 7 := rfl
    omega
  split at h
  · have := namR_ok ha h
    have e : longs.length = 7 := rfl
    omega
  split at h
  · have := namR_ok ha h
    have e : mons.length = 12 := rfl
    omega
  split at h
  · exact d2' h
  split at h
  · exact loS_ok ha h
  split at h
  · have := dgs_ok_le l 4 a 0 _ ha (by omega) h
    simp at this
    omega
  split at h
  · exact d2' h
  split at h
  · exact d2' h
  split at h
  · exact d2' h
  split at h
  · exact d2' h
  split at h
  · rename_i hc
    have hlt := (List.getElem?_eq_some_iff.1 hc).1
    cases h
    omega
  · cases h
theorem rtake_er {l : List UInt8} {a : Nat} {c : UInt8} {e : Nat} (ha : a ≤ l.length) (h : rtake l a c = .error e) : e ≤ l.length := by
  unfold rtake at h
  split at h
  · rw [namR_er h]; exact ha
  split at h
  · rw [namR_er h]; exact ha
  split at h
  · rw [namR_er h]; exact ha
  split at h
  · exact dgs_er_le l 2 a 0 _ ha h
  split at h
  · exact loS_er ha h
  split at h
  · exact dgs_er_le l 4 a 0 _ ha h
  split at h
  · exact dgs_er_le l 2 a 0 _ ha h
  split at h
  · exact dgs_er_le l 2 a 0 _ ha h
  split at h
  · exact dgs_er_le l 2 a 0 _ ha h
  split at h
  · exact dgs_er_le l 2 a 0 _ ha h
  split at h
  · cases h
  · cases h
    exact ha

/-- What was found lies in block P. -/
structure Fcs (w : World) (P : Nat) (st : List Int) : Prop where
  len : st.length = 12
  blk : w.heap[P]? = some (.cells (iv7 st).toArray 89 (0, 0))
theorem Fcs.cell {w : World} {P : Nat} {st : List Int} (h : Fcs w P st) (i : Nat) (hi : i < 12) : w.cell? ⟨P, i, none⟩ = some (.int .i64 (g st i)) := by
  have := h.len
  have e : (iv7 st)[i]? = some (.int .i64 (g st i)) := by
    unfold iv7 g
    rw [List.getElem?_map, List.getD_eq_getElem?_getD, List.getElem?_eq_getElem (by omega)]
    rfl
  simp [World.cell?, h.blk, e]
theorem Fcs.lt {w : World} {P : Nat} {st : List Int} (h : Fcs w P st) : P < w.heap.size := (Array.getElem?_eq_some_iff.1 h.blk).1
theorem Fcs.but {bs : List Nat} {w w' : World} {P : Nat} {st : List Int} (h : Fcs w P st) (b : But bs w w') (hn : P ∉ bs) : Fcs w' P st := ⟨h.len, b.heap h.blk hn⟩
theorem Fcs.bel {w w' : World} {P : Nat} {st : List Int} (h : Fcs w P st) (b : Below w.heap.size w w') : Fcs w' P st := h.but (But.of_below b) (fun e => by cases e)
theorem Fcs.set {w : World} {P : Nat} {st : List Int} (h : Fcs w P st) (i : Nat) (hi : i < 12) (x : Int) : Fcs (w.setCell ⟨P, i, none⟩ (.int .i64 x)) P (st.set i x) := by
  refine ⟨by rw [List.length_set]; exact h.len, ?_⟩
  have hl := h.lt
  have hb := h.blk
  rw [← iv7_set]
  unfold World.setCell
  rw [Array.getElem?_modify, if_pos rfl, hb]
  simp
theorem Fcs.free {w : World} {P : Nat} {st : List Int} (h : Fcs w P st) (i : Nat) : w.frozen? ⟨P, i, none⟩ = false := by
  simp [World.frozen?, h.blk]
theorem Fcs.new (w : World) (st : List Int) (h : st.length = 12) : Fcs (w.alloc (.cells (iv7 st).toArray 89)) w.heap.size st := ⟨h, by rw [heap_alloc_new]⟩
theorem list12 {α : Type} {l : List α} (h : l.length = 12) : ∃ a b c d e f g' h' i j k m, l = [a, b, c, d, e, f, g', h', i, j, k, m] := by
  match l, h with
  | [a, b, c, d, e, f, g', h', i, j, k, m], _ => exact ⟨a, b, c, d, e, f, g', h', i, j, k, m, rfl⟩
def rdR (l : List UInt8) : Except Nat (Nat × List Int) → List Int × Bool × Nat
  | .error e => (z12, false, e)
  | .ok (b, fs) => (fs, b == l.length, b)
theorem u8_ne' {c : UInt8} {k : Nat} (hk : k < 256) (h : c ≠ UInt8.ofNat k) : ((c.toNat : Int) == (k : Int)) = false := by
  have : c.toNat ≠ k := fun e => h (by apply UInt8.toNat_inj.1; simp [e, Nat.mod_eq_of_lt hk])
  simp
  omega
theorem str_at3 (l : List UInt8) (j : Nat) (h : j < (str l).size) : (((str l)[j]).toNat : Int) = ((l.getD j 0).toNat : Int) := by
  rw [← at_lt, str_list]
theorem rput_len (fs : List Int) (c : UInt8) (v a : Int) : (rput fs c v a).length = fs.length := by
  unfold rput
  repeat' split
  all_goals simp
theorem hp_one3 (l : List UInt8) (a : Nat) (c : UInt8) : hp (l.drop a) [c] = decide (l[a]? = some c) := by
  unfold hp
  rw [List.length_cons, List.length_nil]
  apply decide_eq_decide.2
  constructor
  · intro h
    have h0 : (l.drop a)[0]? = some c := by
      have := congrArg (·[0]?) h
      simpa [List.getElem?_take] using this
    rw [List.getElem?_drop] at h0
    simpa using h0
  · intro h
    rw [get_drop h]
    rfl

def z12c : Array Value := #[.int .i64 0, .int .i64 0, .int .i64 0, .int .i64 0, .int .i64 0, .int .i64 0, .int .i64 0, .int .i64 0, .int .i64 0, .int .i64 0, .int .i64 0, .int .i64 0]

set_option maxRecDepth 100000 in
set_option maxHeartbeats 8000000 in
theorem rread_any (l : List UInt8) (form : Int) (hl : l.length ≤ 140737488355328) (hf : I64 form) (w : World) :
    Calls Tryz.prog 47 #[.string (str l), .int .i64 form] w fun e w' => e = .returned (.tuple #[.agg (iv7 (rdR l (rsteps l (patD form) 0 z12)).1).toArray, .bool (rdR l (rsteps l (patD form) 0 z12)).2.1, .int .i64 ((rdR l (rsteps l (patD form) 0 z12)).2.2 : Int)]) ∧ Below w.heap.size w w' := by
  have hs := str_size l
  have HP : Hid (∀ w, Calls Tryz.prog 75 #[.int .i64 form] w fun e w' => e = .returned (.string (str (patL form))) ∧ w' = w) := fun w => rpattern_any form hf w
  have hpl := patL_len form
  have hps := str_size (patL form)
  have HAT : Hid (∀ I (hI : I < (str (patL form)).size), (((str (patL form))[I]).toNat : Int) = (((patL form).getD I 0).toNat : Int)) := fun I hI => str_at3 _ I hI
  have HCT : Hid (∀ I, I < (patL form).length → (str (patL form)).extract I (I + 1) = str [(patL form).getD I 0]) := fun I hI => by
    rw [str_cut, List.take_add_one, List.getElem?_eq_getElem hI, List.getD_eq_getElem?_getD, List.getElem?_eq_getElem hI, List.drop_append]
    simp
    rw [Nat.min_eq_left (by omega)]
    simp
  rw [patD_patL]
  generalize patL form = L at *
  generalize hLS : str L = LS at *
  clear hLS
  obtain ⟨R, hR⟩ : ∃ R, rsteps l L 0 z12 = R := ⟨_, rfl⟩
  rw [hR]
  have HR : Hid (_ = _) := hR
  clear hR
  go_enter Tryz.func47, Tryz.ntmps47
  go_wp2_with fail
  refine (HP.out _).mono ?_
  rintro e W0 ⟨rfl, hW0⟩
  obtain ⟨P0, hP0⟩ : ∃ P0, P0 = w.heap.size := ⟨_, rfl⟩
  have HZ0 : Hid (Fcs W0 P0 z12) := hW0 ▸ hP0 ▸ (Fcs.new w z12 rfl).but ((But.refl [] _).alloc _) (fun e => by cases e)
  have HD0 : Hid (Fcs W0 (P0 + 1) z12) := (by
    have := Fcs.new (w.alloc (.cells (iv7 z12).toArray 89)) z12 rfl
    rw [hW0, hP0]
    rw [show (w.alloc (.cells (iv7 z12).toArray 89)).heap.size = w.heap.size + 1 by simp] at this
    exact this : Fcs W0 (P0 + 1) z12)
  have HB0 : Hid (Below P0 w W0) := hW0 ▸ hP0 ▸ (((But.refl [] w).alloc _).alloc _).to_below
  rw [← hP0]
  have HP0 : Hid (P0 = w.heap.size) := hP0
  clear hW0 hP0
  have HBL : Hid (∀ W, But [P0 + 1] W0 W → Below w.heap.size w W) := fun W b => by
    have e := HP0.out
    rw [← e]
    exact HB0.out.trans (b.below (B := P0) (by have := HB0.out.size; omega) (fun x hx => by simp at hx; omega))
  go_wp2
  go_loopw [9, 10] (fun x n wr => ∃ (I a : Nat) (fs : List Int), I ≤ L.length ∧ a ≤ l.length ∧ x = .int .i64 (a : Int) ∧ n = .int .i64 (I : Int) ∧ Hid (rsteps l (L.drop I) a fs = R) ∧ Hid (Fcs wr (P0 + 1) fs) ∧ Hid (But [P0 + 1] W0 wr)) (fun _ n _ => L.length - (intOf n).toNat)
  case atStart => exact ⟨0, 0, z12, by omega, by omega, rfl, rfl, HR, HD0, But.refl _ _⟩
  case round =>
    clear HD0 HR
    obtain ⟨I, a, fs, hIL, haL, rfl, rfl, HS, HD, HBt⟩ := hrel
    by_cases hlt : I < L.length
    · have eAT := HAT.out I (by omega)
      have ECT : Hid (_ = _) := HCT.out I hlt
      have hst := rsteps_at l hlt a fs
      rw [HS.out] at hst
      have HST0 : Hid (_ = _) := hst
      clear hst HS
      obtain ⟨c, hc⟩ : ∃ c, c = L.getD I 0 := ⟨_, rfl⟩
      rw [← hc] at eAT ECT HST0
      clear hc
      by_cases n119 : c = 119
      · subst n119
        have qq : (((119 : UInt8).toNat : Nat) : Int) = 119 := rfl
        rw [qq] at eAT
        clear qq
        have HCC : Hid (∀ w, Calls Tryz.prog 76 #[.string (str l), .int .i64 (a : Int), .int .i64 7, .int .u8 119] w fun e w' => e = .returned (.tuple #[.int .i64 (pr2 (rtake l a 119)).1, .int .i64 (pr2 (rtake l a 119)).2]) ∧ Below w.heap.size w w') := fun w => by
          rw [show rtake l a 119 = _ from by unfold rtake; rw [if_pos rfl]]
          exact rname_shorts l a hl haL w
        have HRP : Hid (∀ v : Int, rput fs 119 v a = fs.set 0 v) := fun v => by unfold rput; rw [if_pos rfl]
        cases hr : rtake l a 119 with
        | ok r =>
          obtain ⟨b, v⟩ := r
          obtain ⟨r1, r2, r3⟩ := rtake_ok haL hr
          rw [hr] at HST0 HCC
          dsimp only at HST0
          simp only [pr2] at HCC
          rw [HRP.out] at HST0
          clear hr HRP
          go_wp2_with fail
          refine (HCC.out _).mono ?_
          rintro e w2 ⟨rfl, b2⟩
          have HD2 : Hid (Fcs w2 (P0 + 1) fs) := HD.out.bel b2
          have HBt2 : Hid (But [P0 + 1] W0 w2) := HBt.out.trans (But.of_below b2).nil
          clear b2
          have k0 := HD2.out.cell 0 (by omega)
          have f0 := HD2.out.free 0
          go_wp2
          exact ⟨⟨I + 1, b, _, by omega, r1, rfl, by go_num, HST0.out.symm, (HD2.out.set 0 (by omega) _), (HBt2.out.setCell (by simp) _)⟩, by simp [intOf]; omega⟩
        | error e0 =>
          have r1 := rtake_er haL hr
          rw [hr] at HST0 HCC
          dsimp only at HST0
          simp only [pr2] at HCC
          have HER : Hid (R = .error e0) := HST0.out
          clear hr HRP HST0
          go_wp2_with fail
          refine (HCC.out _).mono ?_
          rintro e w2 ⟨rfl, b2⟩
          have HD2 : Hid (Fcs w2 (P0 + 1) fs) := HD.out.bel b2
          have HBt2 : Hid (But [P0 + 1] W0 w2) := HBt.out.trans (But.of_below b2).nil
          clear b2
          have k0 := HD2.out.cell 0 (by omega)
          have f0 := HD2.out.free 0
          have HZ : Hid (Fcs w2 P0 z12) := HZ0.out.but HBt2.out (fun e => by simp at e)
          have HBw : Hid (Below w.heap.size w w2) := HBL.out _ HBt2.out
          have z0 := HZ.out.cell 0 (by omega)
          have y0 := HZ.out.free 0
          have z1 := HZ.out.cell 1 (by omega)
          have y1 := HZ.out.free 1
          have z2 := HZ.out.cell 2 (by omega)
          have y2 := HZ.out.free 2
          have z3 := HZ.out.cell 3 (by omega)
          have y3 := HZ.out.free 3
          have z4 := HZ.out.cell 4 (by omega)
          have y4 := HZ.out.free 4
          have z5 := HZ.out.cell 5 (by omega)
          have y5 := HZ.out.free 5
          have z6 := HZ.out.cell 6 (by omega)
          have y6 := HZ.out.free 6
          have z7 := HZ.out.cell 7 (by omega)
          have y7 := HZ.out.free 7
          have z8 := HZ.out.cell 8 (by omega)
          have y8 := HZ.out.free 8
          have z9 := HZ.out.cell 9 (by omega)
          have y9 := HZ.out.free 9
          have z10 := HZ.out.cell 10 (by omega)
          have y10 := HZ.out.free 10
          have z11 := HZ.out.cell 11 (by omega)
          have y11 := HZ.out.free 11
          simp only [g, z12, List.getD_cons_zero, List.getD_cons_succ] at z0 z1 z2 z3 z4 z5 z6 z7 z8 z9 z10 z11
          go_wp2
          refine bodyPost_ret (v := .tuple #[.agg z12c, .bool false, .int .i64 (e0 : Int)]) (by simp [results, Tryz.results47, go_sem, z12c, *]) rfl ⟨by rw [HER.out]; rfl, ?_⟩
          refine HBw.out.trans (But.below (bs := [P0, P0 + 1]) (B := w.heap.size) ?_ HBw.out.size ?_)
          · iterate 13 refine But.setCell ?_ (by simp) _
            exact But.refl _ _
          · intro x hx
            have := HP0.out
            simp at hx
            omega
      have q119 : ((c.toNat : Int) == 119) = false := u8_ne' (by decide) n119
      by_cases n108 : c = 108
      · subst n108
        have qq : (((108 : UInt8).toNat : Nat) : Int) = 108 := rfl
        rw [qq] at eAT
        clear qq
        have HCC : Hid (∀ w, Calls Tryz.prog 76 #[.string (str l), .int .i64 (a : Int), .int .i64 7, .int .u8 108] w fun e w' => e = .returned (.tuple #[.int .i64 (pr2 (rtake l a 108)).1, .int .i64 (pr2 (rtake l a 108)).2]) ∧ Below w.heap.size w w') := fun w => by
          rw [show rtake l a 108 = _ from by unfold rtake; rw [if_neg n119, if_pos rfl]]
          exact rname_longs l a hl haL w
        have HRP : Hid (∀ v : Int, rput fs 108 v a = fs.set 0 v) := fun v => by unfold rput; rw [if_neg n119, if_pos rfl]
        cases hr : rtake l a 108 with
        | ok r =>
          obtain ⟨b, v⟩ := r
          obtain ⟨r1, r2, r3⟩ := rtake_ok haL hr
          rw [hr] at HST0 HCC
          dsimp only at HST0
          simp only [pr2] at HCC
          rw [HRP.out] at HST0
          clear hr HRP
          go_wp2_with fail
          refine (HCC.out _).mono ?_
          rintro e w2 ⟨rfl, b2⟩
          have HD2 : Hid (Fcs w2 (P0 + 1) fs) := HD.out.bel b2
          have HBt2 : Hid (But [P0 + 1] W0 w2) := HBt.out.trans (But.of_below b2).nil
          clear b2
          have k0 := HD2.out.cell 0 (by omega)
          have f0 := HD2.out.free 0
          go_wp2
          exact ⟨⟨I + 1, b, _, by omega, r1, rfl, by go_num, HST0.out.symm, (HD2.out.set 0 (by omega) _), (HBt2.out.setCell (by simp) _)⟩, by simp [intOf]; omega⟩
        | error e0 =>
          have r1 := rtake_er haL hr
          rw [hr] at HST0 HCC
          dsimp only at HST0
          simp only [pr2] at HCC
          have HER : Hid (R = .error e0) := HST0.out
          clear hr HRP HST0
          go_wp2_with fail
          refine (HCC.out _).mono ?_
          rintro e w2 ⟨rfl, b2⟩
          have HD2 : Hid (Fcs w2 (P0 + 1) fs) := HD.out.bel b2
          have HBt2 : Hid (But [P0 + 1] W0 w2) := HBt.out.trans (But.of_below b2).nil
          clear b2
          have k0 := HD2.out.cell 0 (by omega)
          have f0 := HD2.out.free 0
          have HZ : Hid (Fcs w2 P0 z12) := HZ0.out.but HBt2.out (fun e => by simp at e)
          have HBw : Hid (Below w.heap.size w w2) := HBL.out _ HBt2.out
          have z0 := HZ.out.cell 0 (by omega)
          have y0 := HZ.out.free 0
          have z1 := HZ.out.cell 1 (by omega)
          have y1 := HZ.out.free 1
          have z2 := HZ.out.cell 2 (by omega)
          have y2 := HZ.out.free 2
          have z3 := HZ.out.cell 3 (by omega)
          have y3 := HZ.out.free 3
          have z4 := HZ.out.cell 4 (by omega)
          have y4 := HZ.out.free 4
          have z5 := HZ.out.cell 5 (by omega)
          have y5 := HZ.out.free 5
          have z6 := HZ.out.cell 6 (by omega)
          have y6 := HZ.out.free 6
          have z7 := HZ.out.cell 7 (by omega)
          have y7 := HZ.out.free 7
          have z8 := HZ.out.cell 8 (by omega)
          have y8 := HZ.out.free 8
          have z9 := HZ.out.cell 9 (by omega)
          have y9 := HZ.out.free 9
          have z10 := HZ.out.cell 10 (by omega)
          have y10 := HZ.out.free 10
          have z11 := HZ.out.cell 11 (by omega)
          have y11 := HZ.out.free 11
          simp only [g, z12, List.getD_cons_zero, List.getD_cons_succ] at z0 z1 z2 z3 z4 z5 z6 z7 z8 z9 z10 z11
          go_wp2
          refine bodyPost_ret (v := .tuple #[.agg z12c, .bool false, .int .i64 (e0 : Int)]) (by simp [results, Tryz.results47, go_sem, z12c, *]) rfl ⟨by rw [HER.out]; rfl, ?_⟩
          refine HBw.out.trans (But.below (bs := [P0, P0 + 1]) (B := w.heap.size) ?_ HBw.out.size ?_)
          · iterate 13 refine But.setCell ?_ (by simp) _
            exact But.refl _ _
          · intro x hx
            have := HP0.out
            simp at hx
            omega
      have q108 : ((c.toNat : Int) == 108) = false := u8_ne' (by decide) n108
      by_cases n109 : c = 109
      · subst n109
        have qq : (((109 : UInt8).toNat : Nat) : Int) = 109 := rfl
        rw [qq] at eAT
        clear qq
        have HCC : Hid (∀ w, Calls Tryz.prog 76 #[.string (str l), .int .i64 (a : Int), .int .i64 12, .int .u8 109] w fun e w' => e = .returned (.tuple #[.int .i64 (pr2 (rtake l a 109)).1, .int .i64 (pr2 (rtake l a 109)).2]) ∧ Below w.heap.size w w') := fun w => by
          rw [show rtake l a 109 = _ from by unfold rtake; rw [if_neg n119, if_neg n108, if_pos rfl]]
          exact rname_mons l a hl haL w
        have HRP : Hid (∀ v : Int, rput fs 109 v a = fs.set 1 (v + 1)) := fun v => by unfold rput; rw [if_neg n119, if_neg n108, if_pos rfl]
        cases hr : rtake l a 109 with
        | ok r =>
          obtain ⟨b, v⟩ := r
          obtain ⟨r1, r2, r3⟩ := rtake_ok haL hr
          rw [hr] at HST0 HCC
          dsimp only at HST0
          simp only [pr2] at HCC
          rw [HRP.out] at HST0
          clear hr HRP
          go_wp2_with fail
          refine (HCC.out _).mono ?_
          rintro e w2 ⟨rfl, b2⟩
          have HD2 : Hid (Fcs w2 (P0 + 1) fs) := HD.out.bel b2
          have HBt2 : Hid (But [P0 + 1] W0 w2) := HBt.out.trans (But.of_below b2).nil
          clear b2
          have k1 := HD2.out.cell 1 (by omega)
          have f1 := HD2.out.free 1
          go_wp2
          exact ⟨⟨I + 1, b, _, by omega, r1, rfl, by go_num, HST0.out.symm, (HD2.out.set 1 (by omega) _), (HBt2.out.setCell (by simp) _)⟩, by simp [intOf]; omega⟩
        | error e0 =>
          have r1 := rtake_er haL hr
          rw [hr] at HST0 HCC
          dsimp only at HST0
          simp only [pr2] at HCC
          have HER : Hid (R = .error e0) := HST0.out
          clear hr HRP HST0
          go_wp2_with fail
          refine (HCC.out _).mono ?_
          rintro e w2 ⟨rfl, b2⟩
          have HD2 : Hid (Fcs w2 (P0 + 1) fs) := HD.out.bel b2
          have HBt2 : Hid (But [P0 + 1] W0 w2) := HBt.out.trans (But.of_below b2).nil
          clear b2
          have k1 := HD2.out.cell 1 (by omega)
          have f1 := HD2.out.free 1
          have HZ : Hid (Fcs w2 P0 z12) := HZ0.out.but HBt2.out (fun e => by simp at e)
          have HBw : Hid (Below w.heap.size w w2) := HBL.out _ HBt2.out
          have z0 := HZ.out.cell 0 (by omega)
          have y0 := HZ.out.free 0
          have z1 := HZ.out.cell 1 (by omega)
          have y1 := HZ.out.free 1
          have z2 := HZ.out.cell 2 (by omega)
          have y2 := HZ.out.free 2
          have z3 := HZ.out.cell 3 (by omega)
          have y3 := HZ.out.free 3
          have z4 := HZ.out.cell 4 (by omega)
          have y4 := HZ.out.free 4
          have z5 := HZ.out.cell 5 (by omega)
          have y5 := HZ.out.free 5
          have z6 := HZ.out.cell 6 (by omega)
          have y6 := HZ.out.free 6
          have z7 := HZ.out.cell 7 (by omega)
          have y7 := HZ.out.free 7
          have z8 := HZ.out.cell 8 (by omega)
          have y8 := HZ.out.free 8
          have z9 := HZ.out.cell 9 (by omega)
          have y9 := HZ.out.free 9
          have z10 := HZ.out.cell 10 (by omega)
          have y10 := HZ.out.free 10
          have z11 := HZ.out.cell 11 (by omega)
          have y11 := HZ.out.free 11
          simp only [g, z12, List.getD_cons_zero, List.getD_cons_succ] at z0 z1 z2 z3 z4 z5 z6 z7 z8 z9 z10 z11
          go_wp2
          refine bodyPost_ret (v := .tuple #[.agg z12c, .bool false, .int .i64 (e0 : Int)]) (by simp [results, Tryz.results47, go_sem, z12c, *]) rfl ⟨by rw [HER.out]; rfl, ?_⟩
          refine HBw.out.trans (But.below (bs := [P0, P0 + 1]) (B := w.heap.size) ?_ HBw.out.size ?_)
          · iterate 13 refine But.setCell ?_ (by simp) _
            exact But.refl _ _
          · intro x hx
            have := HP0.out
            simp at hx
            omega
      have q109 : ((c.toNat : Int) == 109) = false := u8_ne' (by decide) n109
      by_cases n100 : c = 100
      · subst n100
        have qq : (((100 : UInt8).toNat : Nat) : Int) = 100 := rfl
        rw [qq] at eAT
        clear qq
        have HCC : Hid (∀ w, Calls Tryz.prog 77 #[.string (str l), .int .i64 (a : Int), .int .i64 2, .bool false] w fun e w' => e = .returned (.tuple #[.int .i64 (pr2 (rtake l a 100)).1, .int .i64 (pr2 (rtake l a 100)).2]) ∧ Below w.heap.size w w') := fun w => by
          rw [show rtake l a 100 = _ from by unfold rtake; rw [if_neg n119, if_neg n108, if_neg n109, if_pos rfl]]
          exact (rnumber_dg l a 2 hl haL (by omega) w).mono (by rintro e w' ⟨rfl, rfl⟩; exact ⟨rfl, Below.refl _ _⟩)
        have HRP : Hid (∀ v : Int, rput fs 100 v a = (fs.set 2 v).set 7 a) := fun v => by unfold rput; rw [if_neg n119, if_neg n108, if_neg n109, if_pos rfl]
        cases hr : rtake l a 100 with
        | ok r =>
          obtain ⟨b, v⟩ := r
          obtain ⟨r1, r2, r3⟩ := rtake_ok haL hr
          rw [hr] at HST0 HCC
          dsimp only at HST0
          simp only [pr2] at HCC
          rw [HRP.out] at HST0
          clear hr HRP
          go_wp2_with fail
          refine (HCC.out _).mono ?_
          rintro e w2 ⟨rfl, b2⟩
          have HD2 : Hid (Fcs w2 (P0 + 1) fs) := HD.out.bel b2
          have HBt2 : Hid (But [P0 + 1] W0 w2) := HBt.out.trans (But.of_below b2).nil
          clear b2
          have k2 := HD2.out.cell 2 (by omega)
          have f2 := HD2.out.free 2
          have k7 := HD2.out.cell 7 (by omega)
          have f7 := HD2.out.free 7
          go_wp2
          exact ⟨⟨I + 1, b, _, by omega, r1, rfl, by go_num, HST0.out.symm, ((HD2.out.set 2 (by omega) _).set 7 (by omega) _), ((HBt2.out.setCell (by simp) _).setCell (by simp) _)⟩, by simp [intOf]; omega⟩
        | error e0 =>
          have r1 := rtake_er haL hr
          rw [hr] at HST0 HCC
          dsimp only at HST0
          simp only [pr2] at HCC
          have HER : Hid (R = .error e0) := HST0.out
          clear hr HRP HST0
          go_wp2_with fail
          refine (HCC.out _).mono ?_
          rintro e w2 ⟨rfl, b2⟩
          have HD2 : Hid (Fcs w2 (P0 + 1) fs) := HD.out.bel b2
          have HBt2 : Hid (But [P0 + 1] W0 w2) := HBt.out.trans (But.of_below b2).nil
          clear b2
          have k2 := HD2.out.cell 2 (by omega)
          have f2 := HD2.out.free 2
          have k7 := HD2.out.cell 7 (by omega)
          have f7 := HD2.out.free 7
          have HZ : Hid (Fcs w2 P0 z12) := HZ0.out.but HBt2.out (fun e => by simp at e)
          have HBw : Hid (Below w.heap.size w w2) := HBL.out _ HBt2.out
          have z0 := HZ.out.cell 0 (by omega)
          have y0 := HZ.out.free 0
          have z1 := HZ.out.cell 1 (by omega)
          have y1 := HZ.out.free 1
          have z2 := HZ.out.cell 2 (by omega)
          have y2 := HZ.out.free 2
          have z3 := HZ.out.cell 3 (by omega)
          have y3 := HZ.out.free 3
          have z4 := HZ.out.cell 4 (by omega)
          have y4 := HZ.out.free 4
          have z5 := HZ.out.cell 5 (by omega)
          have y5 := HZ.out.free 5
          have z6 := HZ.out.cell 6 (by omega)
          have y6 := HZ.out.free 6
          have z7 := HZ.out.cell 7 (by omega)
          have y7 := HZ.out.free 7
          have z8 := HZ.out.cell 8 (by omega)
          have y8 := HZ.out.free 8
          have z9 := HZ.out.cell 9 (by omega)
          have y9 := HZ.out.free 9
          have z10 := HZ.out.cell 10 (by omega)
          have y10 := HZ.out.free 10
          have z11 := HZ.out.cell 11 (by omega)
          have y11 := HZ.out.free 11
          simp only [g, z12, List.getD_cons_zero, List.getD_cons_succ] at z0 z1 z2 z3 z4 z5 z6 z7 z8 z9 z10 z11
          go_wp2
          refine bodyPost_ret (v := .tuple #[.agg z12c, .bool false, .int .i64 (e0 : Int)]) (by simp [results, Tryz.results47, go_sem, z12c, *]) rfl ⟨by rw [HER.out]; rfl, ?_⟩
          refine HBw.out.trans (But.below (bs := [P0, P0 + 1]) (B := w.heap.size) ?_ HBw.out.size ?_)
          · iterate 14 refine But.setCell ?_ (by simp) _
            exact But.refl _ _
          · intro x hx
            have := HP0.out
            simp at hx
            omega
      have q100 : ((c.toNat : Int) == 100) = false := u8_ne' (by decide) n100
      by_cases n101 : c = 101
      · subst n101
        have qq : (((101 : UInt8).toNat : Nat) : Int) = 101 := rfl
        rw [qq] at eAT
        clear qq
        have HCC : Hid (∀ w, Calls Tryz.prog 77 #[.string (str l), .int .i64 (a : Int), .int .i64 2, .bool true] w fun e w' => e = .returned (.tuple #[.int .i64 (pr2 (rtake l a 101)).1, .int .i64 (pr2 (rtake l a 101)).2]) ∧ Below w.heap.size w w') := fun w => by
          rw [show rtake l a 101 = _ from by unfold rtake; rw [if_neg n119, if_neg n108, if_neg n109, if_neg n100, if_pos rfl]]
          exact (rnumber_lo l a hl haL w).mono (by rintro e w' ⟨rfl, rfl⟩; exact ⟨rfl, Below.refl _ _⟩)
        have HRP : Hid (∀ v : Int, rput fs 101 v a = (fs.set 2 v).set 7 a) := fun v => by unfold rput; rw [if_neg n119, if_neg n108, if_neg n109, if_neg n100, if_pos rfl]
        cases hr : rtake l a 101 with
        | ok r =>
          obtain ⟨b, v⟩ := r
          obtain ⟨r1, r2, r3⟩ := rtake_ok haL hr
          rw [hr] at HST0 HCC
          dsimp only at HST0
          simp only [pr2] at HCC
          rw [HRP.out] at HST0
          clear hr HRP
          go_wp2_with fail
          refine (HCC.out _).mono ?_
          rintro e w2 ⟨rfl, b2⟩
          have HD2 : Hid (Fcs w2 (P0 + 1) fs) := HD.out.bel b2
          have HBt2 : Hid (But [P0 + 1] W0 w2) := HBt.out.trans (But.of_below b2).nil
          clear b2
          have k2 := HD2.out.cell 2 (by omega)
          have f2 := HD2.out.free 2
          have k7 := HD2.out.cell 7 (by omega)
          have f7 := HD2.out.free 7
          go_wp2
          exact ⟨⟨I + 1, b, _, by omega, r1, rfl, by go_num, HST0.out.symm, ((HD2.out.set 2 (by omega) _).set 7 (by omega) _), ((HBt2.out.setCell (by simp) _).setCell (by simp) _)⟩, by simp [intOf]; omega⟩
        | error e0 =>
          have r1 := rtake_er haL hr
          rw [hr] at HST0 HCC
          dsimp only at HST0
          simp only [pr2] at HCC
          have HER : Hid (R = .error e0) := HST0.out
          clear hr HRP HST0
          go_wp2_with fail
          refine (HCC.out _).mono ?_
          rintro e w2 ⟨rfl, b2⟩
          have HD2 : Hid (Fcs w2 (P0 + 1) fs) := HD.out.bel b2
          have HBt2 : Hid (But [P0 + 1] W0 w2) := HBt.out.trans (But.of_below b2).nil
          clear b2
          have k2 := HD2.out.cell 2 (by omega)
          have f2 := HD2.out.free 2
          have k7 := HD2.out.cell 7 (by omega)
          have f7 := HD2.out.free 7
          have HZ : Hid (Fcs w2 P0 z12) := HZ0.out.but HBt2.out (fun e => by simp at e)
          have HBw : Hid (Below w.heap.size w w2) := HBL.out _ HBt2.out
          have z0 := HZ.out.cell 0 (by omega)
          have y0 := HZ.out.free 0
          have z1 := HZ.out.cell 1 (by omega)
          have y1 := HZ.out.free 1
          have z2 := HZ.out.cell 2 (by omega)
          have y2 := HZ.out.free 2
          have z3 := HZ.out.cell 3 (by omega)
          have y3 := HZ.out.free 3
          have z4 := HZ.out.cell 4 (by omega)
          have y4 := HZ.out.free 4
          have z5 := HZ.out.cell 5 (by omega)
          have y5 := HZ.out.free 5
          have z6 := HZ.out.cell 6 (by omega)
          have y6 := HZ.out.free 6
          have z7 := HZ.out.cell 7 (by omega)
          have y7 := HZ.out.free 7
          have z8 := HZ.out.cell 8 (by omega)
          have y8 := HZ.out.free 8
          have z9 := HZ.out.cell 9 (by omega)
          have y9 := HZ.out.free 9
          have z10 := HZ.out.cell 10 (by omega)
          have y10 := HZ.out.free 10
          have z11 := HZ.out.cell 11 (by omega)
          have y11 := HZ.out.free 11
          simp only [g, z12, List.getD_cons_zero, List.getD_cons_succ] at z0 z1 z2 z3 z4 z5 z6 z7 z8 z9 z10 z11
          go_wp2
          refine bodyPost_ret (v := .tuple #[.agg z12c, .bool false, .int .i64 (e0 : Int)]) (by simp [results, Tryz.results47, go_sem, z12c, *]) rfl ⟨by rw [HER.out]; rfl, ?_⟩
          refine HBw.out.trans (But.below (bs := [P0, P0 + 1]) (B := w.heap.size) ?_ HBw.out.size ?_)
          · iterate 14 refine But.setCell ?_ (by simp) _
            exact But.refl _ _
          · intro x hx
            have := HP0.out
            simp at hx
            omega
      have q101 : ((c.toNat : Int) == 101) = false := u8_ne' (by decide) n101
      by_cases n121 : c = 121
      · subst n121
        have qq : (((121 : UInt8).toNat : Nat) : Int) = 121 := rfl
        rw [qq] at eAT
        clear qq
        have HCC : Hid (∀ w, Calls Tryz.prog 77 #[.string (str l), .int .i64 (a : Int), .int .i64 4, .bool false] w fun e w' => e = .returned (.tuple #[.int .i64 (pr2 (rtake l a 121)).1, .int .i64 (pr2 (rtake l a 121)).2]) ∧ Below w.heap.size w w') := fun w => by
          rw [show rtake l a 121 = _ from by unfold rtake; rw [if_neg n119, if_neg n108, if_neg n109, if_neg n100, if_neg n101, if_pos rfl]]
          exact (rnumber_dg l a 4 hl haL (by omega) w).mono (by rintro e w' ⟨rfl, rfl⟩; exact ⟨rfl, Below.refl _ _⟩)
        have HRP : Hid (∀ v : Int, rput fs 121 v a = (fs.set 3 v).set 8 a) := fun v => by unfold rput; rw [if_neg n119, if_neg n108, if_neg n109, if_neg n100, if_neg n101, if_pos rfl]
        cases hr : rtake l a 121 with
        | ok r =>
          obtain ⟨b, v⟩ := r
          obtain ⟨r1, r2, r3⟩ := rtake_ok haL hr
          rw [hr] at HST0 HCC
          dsimp only at HST0
          simp only [pr2] at HCC
          rw [HRP.out] at HST0
          clear hr HRP
          go_wp2_with fail
          refine (HCC.out _).mono ?_
          rintro e w2 ⟨rfl, b2⟩
          have HD2 : Hid (Fcs w2 (P0 + 1) fs) := HD.out.bel b2
          have HBt2 : Hid (But [P0 + 1] W0 w2) := HBt.out.trans (But.of_below b2).nil
          clear b2
          have k3 := HD2.out.cell 3 (by omega)
          have f3 := HD2.out.free 3
          have k8 := HD2.out.cell 8 (by omega)
          have f8 := HD2.out.free 8
          go_wp2
          exact ⟨⟨I + 1, b, _, by omega, r1, rfl, by go_num, HST0.out.symm, ((HD2.out.set 3 (by omega) _).set 8 (by omega) _), ((HBt2.out.setCell (by simp) _).setCell (by simp) _)⟩, by simp [intOf]; omega⟩
        | error e0 =>
          have r1 := rtake_er haL hr
          rw [hr] at HST0 HCC
          dsimp only at HST0
          simp only [pr2] at HCC
          have HER : Hid (R = .error e0) := HST0.out
          clear hr HRP HST0
          go_wp2_with fail
          refine (HCC.out _).mono ?_
          rintro e w2 ⟨rfl, b2⟩
          have HD2 : Hid (Fcs w2 (P0 + 1) fs) := HD.out.bel b2
          have HBt2 : Hid (But [P0 + 1] W0 w2) := HBt.out.trans (But.of_below b2).nil
          clear b2
          have k3 := HD2.out.cell 3 (by omega)
          have f3 := HD2.out.free 3
          have k8 := HD2.out.cell 8 (by omega)
          have f8 := HD2.out.free 8
          have HZ : Hid (Fcs w2 P0 z12) := HZ0.out.but HBt2.out (fun e => by simp at e)
          have HBw : Hid (Below w.heap.size w w2) := HBL.out _ HBt2.out
          have z0 := HZ.out.cell 0 (by omega)
          have y0 := HZ.out.free 0
          have z1 := HZ.out.cell 1 (by omega)
          have y1 := HZ.out.free 1
          have z2 := HZ.out.cell 2 (by omega)
          have y2 := HZ.out.free 2
          have z3 := HZ.out.cell 3 (by omega)
          have y3 := HZ.out.free 3
          have z4 := HZ.out.cell 4 (by omega)
          have y4 := HZ.out.free 4
          have z5 := HZ.out.cell 5 (by omega)
          have y5 := HZ.out.free 5
          have z6 := HZ.out.cell 6 (by omega)
          have y6 := HZ.out.free 6
          have z7 := HZ.out.cell 7 (by omega)
          have y7 := HZ.out.free 7
          have z8 := HZ.out.cell 8 (by omega)
          have y8 := HZ.out.free 8
          have z9 := HZ.out.cell 9 (by omega)
          have y9 := HZ.out.free 9
          have z10 := HZ.out.cell 10 (by omega)
          have y10 := HZ.out.free 10
          have z11 := HZ.out.cell 11 (by omega)
          have y11 := HZ.out.free 11
          simp only [g, z12, List.getD_cons_zero, List.getD_cons_succ] at z0 z1 z2 z3 z4 z5 z6 z7 z8 z9 z10 z11
          go_wp2
          refine bodyPost_ret (v := .tuple #[.agg z12c, .bool false, .int .i64 (e0 : Int)]) (by simp [results, Tryz.results47, go_sem, z12c, *]) rfl ⟨by rw [HER.out]; rfl, ?_⟩
          refine HBw.out.trans (But.below (bs := [P0, P0 + 1]) (B := w.heap.size) ?_ HBw.out.size ?_)
          · iterate 14 refine But.setCell ?_ (by simp) _
            exact But.refl _ _
          · intro x hx
            have := HP0.out
            simp at hx
            omega
      have q121 : ((c.toNat : Int) == 121) = false := u8_ne' (by decide) n121
      by_cases n99 : c = 99
      · subst n99
        have qq : (((99 : UInt8).toNat : Nat) : Int) = 99 := rfl
        rw [qq] at eAT
        clear qq
        have HCC : Hid (∀ w, Calls Tryz.prog 77 #[.string (str l), .int .i64 (a : Int), .int .i64 2, .bool false] w fun e w' => e = .returned (.tuple #[.int .i64 (pr2 (rtake l a 99)).1, .int .i64 (pr2 (rtake l a 99)).2]) ∧ Below w.heap.size w w') := fun w => by
          rw [show rtake l a 99 = _ from by unfold rtake; rw [if_neg n119, if_neg n108, if_neg n109, if_neg n100, if_neg n101, if_neg n121, if_pos rfl]]
          exact (rnumber_dg l a 2 hl haL (by omega) w).mono (by rintro e w' ⟨rfl, rfl⟩; exact ⟨rfl, Below.refl _ _⟩)
        have HRP : Hid (∀ v : Int, rput fs 99 v a = (fs.set 3 v).set 8 a) := fun v => by unfold rput; rw [if_neg n119, if_neg n108, if_neg n109, if_neg n100, if_neg n101, if_neg n121, if_pos rfl]
        cases hr : rtake l a 99 with
        | ok r =>
          obtain ⟨b, v⟩ := r
          obtain ⟨r1, r2, r3⟩ := rtake_ok haL hr
          rw [hr] at HST0 HCC
          dsimp only at HST0
          simp only [pr2] at HCC
          rw [HRP.out] at HST0
          clear hr HRP
          go_wp2_with fail
          refine (HCC.out _).mono ?_
          rintro e w2 ⟨rfl, b2⟩
          have HD2 : Hid (Fcs w2 (P0 + 1) fs) := HD.out.bel b2
          have HBt2 : Hid (But [P0 + 1] W0 w2) := HBt.out.trans (But.of_below b2).nil
          clear b2
          have k3 := HD2.out.cell 3 (by omega)
          have f3 := HD2.out.free 3
          have k8 := HD2.out.cell 8 (by omega)
          have f8 := HD2.out.free 8
          go_wp2
          exact ⟨⟨I + 1, b, _, by omega, r1, rfl, by go_num, HST0.out.symm, ((HD2.out.set 3 (by omega) _).set 8 (by omega) _), ((HBt2.out.setCell (by simp) _).setCell (by simp) _)⟩, by simp [intOf]; omega⟩
        | error e0 =>
          have r1 := rtake_er haL hr
          rw [hr] at HST0 HCC
          dsimp only at HST0
          simp only [pr2] at HCC
          have HER : Hid (R = .error e0) := HST0.out
          clear hr HRP HST0
          go_wp2_with fail
          refine (HCC.out _).mono ?_
          rintro e w2 ⟨rfl, b2⟩
          have HD2 : Hid (Fcs w2 (P0 + 1) fs) := HD.out.bel b2
          have HBt2 : Hid (But [P0 + 1] W0 w2) := HBt.out.trans (But.of_below b2).nil
          clear b2
          have k3 := HD2.out.cell 3 (by omega)
          have f3 := HD2.out.free 3
          have k8 := HD2.out.cell 8 (by omega)
          have f8 := HD2.out.free 8
          have HZ : Hid (Fcs w2 P0 z12) := HZ0.out.but HBt2.out (fun e => by simp at e)
          have HBw : Hid (Below w.heap.size w w2) := HBL.out _ HBt2.out
          have z0 := HZ.out.cell 0 (by omega)
          have y0 := HZ.out.free 0
          have z1 := HZ.out.cell 1 (by omega)
          have y1 := HZ.out.free 1
          have z2 := HZ.out.cell 2 (by omega)
          have y2 := HZ.out.free 2
          have z3 := HZ.out.cell 3 (by omega)
          have y3 := HZ.out.free 3
          have z4 := HZ.out.cell 4 (by omega)
          have y4 := HZ.out.free 4
          have z5 := HZ.out.cell 5 (by omega)
          have y5 := HZ.out.free 5
          have z6 := HZ.out.cell 6 (by omega)
          have y6 := HZ.out.free 6
          have z7 := HZ.out.cell 7 (by omega)
          have y7 := HZ.out.free 7
          have z8 := HZ.out.cell 8 (by omega)
          have y8 := HZ.out.free 8
          have z9 := HZ.out.cell 9 (by omega)
          have y9 := HZ.out.free 9
          have z10 := HZ.out.cell 10 (by omega)
          have y10 := HZ.out.free 10
          have z11 := HZ.out.cell 11 (by omega)
          have y11 := HZ.out.free 11
          simp only [g, z12, List.getD_cons_zero, List.getD_cons_succ] at z0 z1 z2 z3 z4 z5 z6 z7 z8 z9 z10 z11
          go_wp2
          refine bodyPost_ret (v := .tuple #[.agg z12c, .bool false, .int .i64 (e0 : Int)]) (by simp [results, Tryz.results47, go_sem, z12c, *]) rfl ⟨by rw [HER.out]; rfl, ?_⟩
          refine HBw.out.trans (But.below (bs := [P0, P0 + 1]) (B := w.heap.size) ?_ HBw.out.size ?_)
          · iterate 14 refine But.setCell ?_ (by simp) _
            exact But.refl _ _
          · intro x hx
            have := HP0.out
            simp at hx
            omega
      have q99 : ((c.toNat : Int) == 99) = false := u8_ne' (by decide) n99
      by_cases n104 : c = 104
      · subst n104
        have qq : (((104 : UInt8).toNat : Nat) : Int) = 104 := rfl
        rw [qq] at eAT
        clear qq
        have HCC : Hid (∀ w, Calls Tryz.prog 77 #[.string (str l), .int .i64 (a : Int), .int .i64 2, .bool false] w fun e w' => e = .returned (.tuple #[.int .i64 (pr2 (rtake l a 104)).1, .int .i64 (pr2 (rtake l a 104)).2]) ∧ Below w.heap.size w w') := fun w => by
          rw [show rtake l a 104 = _ from by unfold rtake; rw [if_neg n119, if_neg n108, if_neg n109, if_neg n100, if_neg n101, if_neg n121, if_neg n99, if_pos rfl]]
          exact (rnumber_dg l a 2 hl haL (by omega) w).mono (by rintro e w' ⟨rfl, rfl⟩; exact ⟨rfl, Below.refl _ _⟩)
        have HRP : Hid (∀ v : Int, rput fs 104 v a = (fs.set 4 v).set 9 a) := fun v => by unfold rput; rw [if_neg n119, if_neg n108, if_neg n109, if_neg n100, if_neg n101, if_neg n121, if_neg n99, if_pos rfl]
        cases hr : rtake l a 104 with
        | ok r =>
          obtain ⟨b, v⟩ := r
          obtain ⟨r1, r2, r3⟩ := rtake_ok haL hr
          rw [hr] at HST0 HCC
          dsimp only at HST0
          simp only [pr2] at HCC
          rw [HRP.out] at HST0
          clear hr HRP
          go_wp2_with fail
          refine (HCC.out _).mono ?_
          rintro e w2 ⟨rfl, b2⟩
          have HD2 : Hid (Fcs w2 (P0 + 1) fs) := HD.out.bel b2
          have HBt2 : Hid (But [P0 + 1] W0 w2) := HBt.out.trans (But.of_below b2).nil
          clear b2
          have k4 := HD2.out.cell 4 (by omega)
          have f4 := HD2.out.free 4
          have k9 := HD2.out.cell 9 (by omega)
          have f9 := HD2.out.free 9
          go_wp2
          exact ⟨⟨I + 1, b, _, by omega, r1, rfl, by go_num, HST0.out.symm, ((HD2.out.set 4 (by omega) _).set 9 (by omega) _), ((HBt2.out.setCell (by simp) _).setCell (by simp) _)⟩, by simp [intOf]; omega⟩
        | error e0 =>
          have r1 := rtake_er haL hr
          rw [hr] at HST0 HCC
          dsimp only at HST0
          simp only [pr2] at HCC
          have HER : Hid (R = .error e0) := HST0.out
          clear hr HRP HST0
          go_wp2_with fail
          refine (HCC.out _).mono ?_
          rintro e w2 ⟨rfl, b2⟩
          have HD2 : Hid (Fcs w2 (P0 + 1) fs) := HD.out.bel b2
          have HBt2 : Hid (But [P0 + 1] W0 w2) := HBt.out.trans (But.of_below b2).nil
          clear b2
          have k4 := HD2.out.cell 4 (by omega)
          have f4 := HD2.out.free 4
          have k9 := HD2.out.cell 9 (by omega)
          have f9 := HD2.out.free 9
          have HZ : Hid (Fcs w2 P0 z12) := HZ0.out.but HBt2.out (fun e => by simp at e)
          have HBw : Hid (Below w.heap.size w w2) := HBL.out _ HBt2.out
          have z0 := HZ.out.cell 0 (by omega)
          have y0 := HZ.out.free 0
          have z1 := HZ.out.cell 1 (by omega)
          have y1 := HZ.out.free 1
          have z2 := HZ.out.cell 2 (by omega)
          have y2 := HZ.out.free 2
          have z3 := HZ.out.cell 3 (by omega)
          have y3 := HZ.out.free 3
          have z4 := HZ.out.cell 4 (by omega)
          have y4 := HZ.out.free 4
          have z5 := HZ.out.cell 5 (by omega)
          have y5 := HZ.out.free 5
          have z6 := HZ.out.cell 6 (by omega)
          have y6 := HZ.out.free 6
          have z7 := HZ.out.cell 7 (by omega)
          have y7 := HZ.out.free 7
          have z8 := HZ.out.cell 8 (by omega)
          have y8 := HZ.out.free 8
          have z9 := HZ.out.cell 9 (by omega)
          have y9 := HZ.out.free 9
          have z10 := HZ.out.cell 10 (by omega)
          have y10 := HZ.out.free 10
          have z11 := HZ.out.cell 11 (by omega)
          have y11 := HZ.out.free 11
          simp only [g, z12, List.getD_cons_zero, List.getD_cons_succ] at z0 z1 z2 z3 z4 z5 z6 z7 z8 z9 z10 z11
          go_wp2
          refine bodyPost_ret (v := .tuple #[.agg z12c, .bool false, .int .i64 (e0 : Int)]) (by simp [results, Tryz.results47, go_sem, z12c, *]) rfl ⟨by rw [HER.out]; rfl, ?_⟩
          refine HBw.out.trans (But.below (bs := [P0, P0 + 1]) (B := w.heap.size) ?_ HBw.out.size ?_)
          · iterate 14 refine But.setCell ?_ (by simp) _
            exact But.refl _ _
          · intro x hx
            have := HP0.out
            simp at hx
            omega
      have q104 : ((c.toNat : Int) == 104) = false := u8_ne' (by decide) n104
      by_cases n105 : c = 105
      · subst n105
        have qq : (((105 : UInt8).toNat : Nat) : Int) = 105 := rfl
        rw [qq] at eAT
        clear qq
        have HCC : Hid (∀ w, Calls Tryz.prog 77 #[.string (str l), .int .i64 (a : Int), .int .i64 2, .bool false] w fun e w' => e = .returned (.tuple #[.int .i64 (pr2 (rtake l a 105)).1, .int .i64 (pr2 (rtake l a 105)).2]) ∧ Below w.heap.size w w') := fun w => by
          rw [show rtake l a 105 = _ from by unfold rtake; rw [if_neg n119, if_neg n108, if_neg n109, if_neg n100, if_neg n101, if_neg n121, if_neg n99, if_neg n104, if_pos rfl]]
          exact (rnumber_dg l a 2 hl haL (by omega) w).mono (by rintro e w' ⟨rfl, rfl⟩; exact ⟨rfl, Below.refl _ _⟩)
        have HRP : Hid (∀ v : Int, rput fs 105 v a = (fs.set 5 v).set 10 a) := fun v => by unfold rput; rw [if_neg n119, if_neg n108, if_neg n109, if_neg n100, if_neg n101, if_neg n121, if_neg n99, if_neg n104, if_pos rfl]
        cases hr : rtake l a 105 with
        | ok r =>
          obtain ⟨b, v⟩ := r
          obtain ⟨r1, r2, r3⟩ := rtake_ok haL hr
          rw [hr] at HST0 HCC
          dsimp only at HST0
          simp only [pr2] at HCC
          rw [HRP.out] at HST0
          clear hr HRP
          go_wp2_with fail
          refine (HCC.out _).mono ?_
          rintro e w2 ⟨rfl, b2⟩
          have HD2 : Hid (Fcs w2 (P0 + 1) fs) := HD.out.bel b2
          have HBt2 : Hid (But [P0 + 1] W0 w2) := HBt.out.trans (But.of_below b2).nil
          clear b2
          have k5 := HD2.out.cell 5 (by omega)
          have f5 := HD2.out.free 5
          have k10 := HD2.out.cell 10 (by omega)
          have f10 := HD2.out.free 10
          go_wp2
          exact ⟨⟨I + 1, b, _, by omega, r1, rfl, by go_num, HST0.out.symm, ((HD2.out.set 5 (by omega) _).set 10 (by omega) _), ((HBt2.out.setCell (by simp) _).setCell (by simp) _)⟩, by simp [intOf]; omega⟩
        | error e0 =>
          have r1 := rtake_er haL hr
          rw [hr] at HST0 HCC
          dsimp only at HST0
          simp only [pr2] at HCC
          have HER : Hid (R = .error e0) := HST0.out
          clear hr HRP HST0
          go_wp2_with fail
          refine (HCC.out _).mono ?_
          rintro e w2 ⟨rfl, b2⟩
          have HD2 : Hid (Fcs w2 (P0 + 1) fs) := HD.out.bel b2
          have HBt2 : Hid (But [P0 + 1] W0 w2) := HBt.out.trans (But.of_below b2).nil
          clear b2
          have k5 := HD2.out.cell 5 (by omega)
          have f5 := HD2.out.free 5
          have k10 := HD2.out.cell 10 (by omega)
          have f10 := HD2.out.free 10
          have HZ : Hid (Fcs w2 P0 z12) := HZ0.out.but HBt2.out (fun e => by simp at e)
          have HBw : Hid (Below w.heap.size w w2) := HBL.out _ HBt2.out
          have z0 := HZ.out.cell 0 (by omega)
          have y0 := HZ.out.free 0
          have z1 := HZ.out.cell 1 (by omega)
          have y1 := HZ.out.free 1
          have z2 := HZ.out.cell 2 (by omega)
          have y2 := HZ.out.free 2
          have z3 := HZ.out.cell 3 (by omega)
          have y3 := HZ.out.free 3
          have z4 := HZ.out.cell 4 (by omega)
          have y4 := HZ.out.free 4
          have z5 := HZ.out.cell 5 (by omega)
          have y5 := HZ.out.free 5
          have z6 := HZ.out.cell 6 (by omega)
          have y6 := HZ.out.free 6
          have z7 := HZ.out.cell 7 (by omega)
          have y7 := HZ.out.free 7
          have z8 := HZ.out.cell 8 (by omega)
          have y8 := HZ.out.free 8
          have z9 := HZ.out.cell 9 (by omega)
          have y9 := HZ.out.free 9
          have z10 := HZ.out.cell 10 (by omega)
          have y10 := HZ.out.free 10
          have z11 := HZ.out.cell 11 (by omega)
          have y11 := HZ.out.free 11
          simp only [g, z12, List.getD_cons_zero, List.getD_cons_succ] at z0 z1 z2 z3 z4 z5 z6 z7 z8 z9 z10 z11
          go_wp2
          refine bodyPost_ret (v := .tuple #[.agg z12c, .bool false, .int .i64 (e0 : Int)]) (by simp [results, Tryz.results47, go_sem, z12c, *]) rfl ⟨by rw [HER.out]; rfl, ?_⟩
          refine HBw.out.trans (But.below (bs := [P0, P0 + 1]) (B := w.heap.size) ?_ HBw.out.size ?_)
          · iterate 14 refine But.setCell ?_ (by simp) _
            exact But.refl _ _
          · intro x hx
            have := HP0.out
            simp at hx
            omega
      have q105 : ((c.toNat : Int) == 105) = false := u8_ne' (by decide) n105
      by_cases n115 : c = 115
      · subst n115
        have qq : (((115 : UInt8).toNat : Nat) : Int) = 115 := rfl
        rw [qq] at eAT
        clear qq
        have HCC : Hid (∀ w, Calls Tryz.prog 77 #[.string (str l), .int .i64 (a : Int), .int .i64 2, .bool false] w fun e w' => e = .returned (.tuple #[.int .i64 (pr2 (rtake l a 115)).1, .int .i64 (pr2 (rtake l a 115)).2]) ∧ Below w.heap.size w w') := fun w => by
          rw [show rtake l a 115 = _ from by unfold rtake; rw [if_neg n119, if_neg n108, if_neg n109, if_neg n100, if_neg n101, if_neg n121, if_neg n99, if_neg n104, if_neg n105, if_pos rfl]]
          exact (rnumber_dg l a 2 hl haL (by omega) w).mono (by rintro e w' ⟨rfl, rfl⟩; exact ⟨rfl, Below.refl _ _⟩)
        have HRP : Hid (∀ v : Int, rput fs 115 v a = (fs.set 6 v).set 11 a) := fun v => by unfold rput; rw [if_neg n119, if_neg n108, if_neg n109, if_neg n100, if_neg n101, if_neg n121, if_neg n99, if_neg n104, if_neg n105, if_pos rfl]
        cases hr : rtake l a 115 with
        | ok r =>
          obtain ⟨b, v⟩ := r
          obtain ⟨r1, r2, r3⟩ := rtake_ok haL hr
          rw [hr] at HST0 HCC
          dsimp only at HST0
          simp only [pr2] at HCC
          rw [HRP.out] at HST0
          clear hr HRP
          go_wp2_with fail
          refine (HCC.out _).mono ?_
          rintro e w2 ⟨rfl, b2⟩
          have HD2 : Hid (Fcs w2 (P0 + 1) fs) := HD.out.bel b2
          have HBt2 : Hid (But [P0 + 1] W0 w2) := HBt.out.trans (But.of_below b2).nil
          clear b2
          have k6 := HD2.out.cell 6 (by omega)
          have f6 := HD2.out.free 6
          have k11 := HD2.out.cell 11 (by omega)
          have f11 := HD2.out.free 11
          go_wp2
          exact ⟨⟨I + 1, b, _, by omega, r1, rfl, by go_num, HST0.out.symm, ((HD2.out.set 6 (by omega) _).set 11 (by omega) _), ((HBt2.out.setCell (by simp) _).setCell (by simp) _)⟩, by simp [intOf]; omega⟩
        | error e0 =>
          have r1 := rtake_er haL hr
          rw [hr] at HST0 HCC
          dsimp only at HST0
          simp only [pr2] at HCC
          have HER : Hid (R = .error e0) := HST0.out
          clear hr HRP HST0
          go_wp2_with fail
          refine (HCC.out _).mono ?_
          rintro e w2 ⟨rfl, b2⟩
          have HD2 : Hid (Fcs w2 (P0 + 1) fs) := HD.out.bel b2
          have HBt2 : Hid (But [P0 + 1] W0 w2) := HBt.out.trans (But.of_below b2).nil
          clear b2
          have k6 := HD2.out.cell 6 (by omega)
          have f6 := HD2.out.free 6
          have k11 := HD2.out.cell 11 (by omega)
          have f11 := HD2.out.free 11
          have HZ : Hid (Fcs w2 P0 z12) := HZ0.out.but HBt2.out (fun e => by simp at e)
          have HBw : Hid (Below w.heap.size w w2) := HBL.out _ HBt2.out
          have z0 := HZ.out.cell 0 (by omega)
          have y0 := HZ.out.free 0
          have z1 := HZ.out.cell 1 (by omega)
          have y1 := HZ.out.free 1
          have z2 := HZ.out.cell 2 (by omega)
          have y2 := HZ.out.free 2
          have z3 := HZ.out.cell 3 (by omega)
          have y3 := HZ.out.free 3
          have z4 := HZ.out.cell 4 (by omega)
          have y4 := HZ.out.free 4
          have z5 := HZ.out.cell 5 (by omega)
          have y5 := HZ.out.free 5
          have z6 := HZ.out.cell 6 (by omega)
          have y6 := HZ.out.free 6
          have z7 := HZ.out.cell 7 (by omega)
          have y7 := HZ.out.free 7
          have z8 := HZ.out.cell 8 (by omega)
          have y8 := HZ.out.free 8
          have z9 := HZ.out.cell 9 (by omega)
          have y9 := HZ.out.free 9
          have z10 := HZ.out.cell 10 (by omega)
          have y10 := HZ.out.free 10
          have z11 := HZ.out.cell 11 (by omega)
          have y11 := HZ.out.free 11
          simp only [g, z12, List.getD_cons_zero, List.getD_cons_succ] at z0 z1 z2 z3 z4 z5 z6 z7 z8 z9 z10 z11
          go_wp2
          refine bodyPost_ret (v := .tuple #[.agg z12c, .bool false, .int .i64 (e0 : Int)]) (by simp [results, Tryz.results47, go_sem, z12c, *]) rfl ⟨by rw [HER.out]; rfl, ?_⟩
          refine HBw.out.trans (But.below (bs := [P0, P0 + 1]) (B := w.heap.size) ?_ HBw.out.size ?_)
          · iterate 14 refine But.setCell ?_ (by simp) _
            exact But.refl _ _
          · intro x hx
            have := HP0.out
            simp at hx
            omega
      have q115 : ((c.toNat : Int) == 115) = false := u8_ne' (by decide) n115
      have hrt : rtake l a c = if l[a]? = some c then .ok (a + 1, 0) else .error a := by unfold rtake; rw [if_neg n119, if_neg n108, if_neg n109, if_neg n100, if_neg n101, if_neg n121, if_neg n99, if_neg n104, if_neg n105, if_neg n115]
      have hrp : ∀ v a' : Int, rput fs c v a' = fs := fun v a' => by unfold rput; rw [if_neg n119, if_neg n108, if_neg n109, if_neg n100, if_neg n101, if_neg n121, if_neg n99, if_neg n104, if_neg n105, if_neg n115]
      have HBG : Hid (∀ w, Calls Tryz.prog 72 #[.string (str l), .int .i64 (a : Int), .string (str [c])] w fun e w' => e = .returned (.bool (decide (l[a]? = some c))) ∧ w' = w) := fun w => by
        have := rbegins_any l [c] a hl haL (by simp) w
        rw [hp_one3] at this
        exact this
      have ECT' := ECT.out
      by_cases hc : l[a]? = some c
      · have hla := (List.getElem?_eq_some_iff.1 hc).1
        rw [hrt, if_pos hc] at HST0
        dsimp only at HST0
        rw [hrp] at HST0
        rw [decide_eq_true hc] at HBG
        clear hrt hrp hc
        generalize str [c] = B at *
        go_wp2_with fail
        refine (HBG.out _).mono ?_
        rintro e w' ⟨rfl, rfl⟩
        go_wp2
        exact ⟨⟨I + 1, a + 1, fs, by omega, by omega, by go_num, by go_num, HST0.out.symm, HD, HBt⟩, by simp [intOf]; omega⟩
      · rw [hrt, if_neg hc] at HST0
        dsimp only at HST0
        rw [decide_eq_false hc] at HBG
        obtain ⟨e0, he0⟩ : ∃ e0, e0 = a := ⟨_, rfl⟩
        have HER : Hid (R = .error e0) := he0 ▸ HST0.out
        clear hrt hrp hc HST0
        subst he0
        have HZ : Hid (Fcs _ P0 z12) := HZ0.out.but HBt.out (fun e => by simp at e)
        have HBw : Hid (Below w.heap.size w _) := HBL.out _ HBt.out
        generalize str [c] = B at *
        have z0 := HZ.out.cell 0 (by omega)
        have y0 := HZ.out.free 0
        have z1 := HZ.out.cell 1 (by omega)
        have y1 := HZ.out.free 1
        have z2 := HZ.out.cell 2 (by omega)
        have y2 := HZ.out.free 2
        have z3 := HZ.out.cell 3 (by omega)
        have y3 := HZ.out.free 3
        have z4 := HZ.out.cell 4 (by omega)
        have y4 := HZ.out.free 4
        have z5 := HZ.out.cell 5 (by omega)
        have y5 := HZ.out.free 5
        have z6 := HZ.out.cell 6 (by omega)
        have y6 := HZ.out.free 6
        have z7 := HZ.out.cell 7 (by omega)
        have y7 := HZ.out.free 7
        have z8 := HZ.out.cell 8 (by omega)
        have y8 := HZ.out.free 8
        have z9 := HZ.out.cell 9 (by omega)
        have y9 := HZ.out.free 9
        have z10 := HZ.out.cell 10 (by omega)
        have y10 := HZ.out.free 10
        have z11 := HZ.out.cell 11 (by omega)
        have y11 := HZ.out.free 11
        simp only [g, z12, List.getD_cons_zero, List.getD_cons_succ] at z0 z1 z2 z3 z4 z5 z6 z7 z8 z9 z10 z11
        go_wp2_with fail
        refine (HBG.out _).mono ?_
        rintro e w' ⟨rfl, rfl⟩
        go_wp2
        refine bodyPost_ret (v := .tuple #[.agg z12c, .bool false, .int .i64 (e0 : Int)]) (by simp [results, Tryz.results47, go_sem, z12c, *]) rfl ⟨by rw [HER.out]; rfl, ?_⟩
        refine HBw.out.trans (But.below (bs := [P0, P0 + 1]) (B := w.heap.size) ?_ HBw.out.size ?_)
        · iterate 12 refine But.setCell ?_ (by simp) _
          exact But.refl _ _
        · intro x hx
          have := HP0.out
          simp at hx
          omega
    · obtain rfl : I = L.length := by omega
      rw [List.drop_length] at HS
      have HOK : Hid (R = .ok (a, fs)) := HS.out.symm
      have HZ : Hid (Fcs _ P0 z12) := HZ0.out.but HBt.out (fun e => by simp at e)
      have HBw : Hid (Below w.heap.size w _) := HBL.out _ HBt.out
      obtain ⟨x0, x1, x2, x3, x4, x5, x6, x7, x8, x9, xa, xb, hfs⟩ := list12 HD.out.len
      subst hfs
      have k0 := HD.out.cell 0 (by omega)
      have k1 := HD.out.cell 1 (by omega)
      have k2 := HD.out.cell 2 (by omega)
      have k3 := HD.out.cell 3 (by omega)
      have k4 := HD.out.cell 4 (by omega)
      have k5 := HD.out.cell 5 (by omega)
      have k6 := HD.out.cell 6 (by omega)
      have k7 := HD.out.cell 7 (by omega)
      have k8 := HD.out.cell 8 (by omega)
      have k9 := HD.out.cell 9 (by omega)
      have k10 := HD.out.cell 10 (by omega)
      have k11 := HD.out.cell 11 (by omega)
      simp only [g, List.getD_cons_zero, List.getD_cons_succ] at k0 k1 k2 k3 k4 k5 k6 k7 k8 k9 k10 k11
      have z0 := HZ.out.cell 0 (by omega)
      have y0 := HZ.out.free 0
      have z1 := HZ.out.cell 1 (by omega)
      have y1 := HZ.out.free 1
      have z2 := HZ.out.cell 2 (by omega)
      have y2 := HZ.out.free 2
      have z3 := HZ.out.cell 3 (by omega)
      have y3 := HZ.out.free 3
      have z4 := HZ.out.cell 4 (by omega)
      have y4 := HZ.out.free 4
      have z5 := HZ.out.cell 5 (by omega)
      have y5 := HZ.out.free 5
      have z6 := HZ.out.cell 6 (by omega)
      have y6 := HZ.out.free 6
      have z7 := HZ.out.cell 7 (by omega)
      have y7 := HZ.out.free 7
      have z8 := HZ.out.cell 8 (by omega)
      have y8 := HZ.out.free 8
      have z9 := HZ.out.cell 9 (by omega)
      have y9 := HZ.out.free 9
      have z10 := HZ.out.cell 10 (by omega)
      have y10 := HZ.out.free 10
      have z11 := HZ.out.cell 11 (by omega)
      have y11 := HZ.out.free 11
      simp only [g, z12, List.getD_cons_zero, List.getD_cons_succ] at z0 z1 z2 z3 z4 z5 z6 z7 z8 z9 z10 z11
      have hbe : ((a : Int) == (l.length : Int)) = (a == l.length) := by
        rw [Bool.eq_iff_iff, beq_iff_eq, beq_iff_eq]
        omega
      go_wp2
      refine bodyPost_ret (v := .tuple #[.agg #[.int .i64 x0, .int .i64 x1, .int .i64 x2, .int .i64 x3, .int .i64 x4, .int .i64 x5, .int .i64 x6, .int .i64 x7, .int .i64 x8, .int .i64 x9, .int .i64 xa, .int .i64 xb], .bool (a == l.length), .int .i64 (a : Int)]) (by simp [results, Tryz.results47, go_sem, *]) rfl ⟨by rw [HOK.out]; rfl, ?_⟩
      refine HBw.out.trans (But.below (bs := [P0, P0 + 1]) (B := w.heap.size) ?_ HBw.out.size ?_)
      · iterate 12 refine But.setCell ?_ (by simp) _
        exact But.refl _ _
      · intro x hx
        have := HP0.out
        simp at hx
        omega

end Bs
end Go.Proofs.YtjngpafokkjkdaaGreatDoor
