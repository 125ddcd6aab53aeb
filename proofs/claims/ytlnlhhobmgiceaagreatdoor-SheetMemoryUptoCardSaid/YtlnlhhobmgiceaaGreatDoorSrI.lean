/-
  sheet: the iterator over the lines of a text.
-/
import Derived.Test.YtlnlhhobmgiceaaGreatDoorSrT
import Derived.Test.YtlnlhhobmgiceaaGreatDoorMgM
set_option linter.unusedVariables false
set_option linter.unusedSimpArgs false
namespace Go.Proofs.YtlnlhhobmgiceaaGreatDoor
open Go.RowKit Go.Shelf
attribute [local go_sem] Oper.semAt_some
namespace Sr
open Oc Tg Mf

/-- A line: where it begins, what it says. -/
structure Lz (M : Nat) where
  a : Nat
  z : List UInt8
  la : a ≤ M
  le : z.length ≤ M
def encL {M : Nat} (x : Lz M) : Array Value := #[.int .i64 (x.a : Int), .string (str x.z)]
abbrev ct (r : List UInt8) := Lib.cut r [13, 10]
theorem ct_len {r : List UInt8} (h : (ct r).2.2 = true) : (ct r).1.length + 2 + (ct r).2.1.length = r.length := by
  unfold ct at *
  unfold Lib.cut at *
  split
  · rename_i hi
    have hp := Lib.index_room r [13, 10] hi
    simp at hp ⊢
    omega
  · rename_i hi
    rw [if_neg hi] at h
    cases h
theorem ct_le (r : List UInt8) : (ct r).2.1.length ≤ r.length := by
  unfold ct
  unfold Lib.cut
  split
  · simp
  · simp
/-- The lines from a place on. -/
def lns : Nat → List UInt8 → Nat → List (Nat × List UInt8)
  | 0, _, _ => []
  | f + 1, r, a => if (ct r).2.2 = true then (a, (ct r).1) :: lns f (ct r).2.1 (a + (ct r).1.length + 2) else []

theorem lns_more : ∀ (f f' : Nat) (r : List UInt8) (a : Nat), r.length < f → r.length < f' → lns f r a = lns f' r a
  | 0, _, _, _, h, _ => by omega
  | _, 0, _, _, _, h => by omega
  | f + 1, f' + 1, r, a, h, h' => by
    unfold lns
    split
    · rename_i he
      have := ct_len he
      rw [lns_more f f' (ct r).2.1 _ (by omega) (by omega)]
    · rfl
def lnsR (r : List UInt8) (a : Nat) : List (Nat × List UInt8) := lns (r.length + 1) r a
theorem lnsR_step {r : List UInt8} (a : Nat) (h : (ct r).2.2 = true) : lnsR r a = (a, (ct r).1) :: lnsR (ct r).2.1 (a + (ct r).1.length + 2) := by
  have := ct_len h
  unfold lnsR
  rw [lns, if_pos h, lns_more r.length ((ct r).2.1.length + 1) _ _ (by omega) (by omega)]
theorem lnsR_end {r : List UInt8} (a : Nat) (h : (ct r).2.2 = false) : lnsR r a = [] := by
  unfold lnsR
  rw [lns, if_neg (by rw [h]; decide)]
def prL {M : Nat} (x : Lz M) : Nat × List UInt8 := (x.a, x.z)
theorem lnsR_len : ∀ (n : Nat) (r : List UInt8) (a : Nat), r.length ≤ n → (lnsR r a).length ≤ r.length
  | n, r, a, hn => by
    cases h : (ct r).2.2 with
    | false => rw [lnsR_end a h]; simp
    | true =>
      have h1 := ct_len h
      rw [lnsR_step a h]
      match n with
      | 0 => omega
      | n + 1 =>
        have := lnsR_len n (ct r).2.1 (a + (ct r).1.length + 2) (by omega)
        simp only [List.length_cons]
        omega

set_option maxRecDepth 100000 in
set_option maxHeartbeats 2000000 in
theorem lines1_in (n : Nat) (l Bs Bp a0 : Nat) (s : ByteArray) (hs : s.size ≤ 4000000000) (ha0 : a0 ≤ s.size) (J Jx : List (Lz s.size) → World → Prop)
    (hJb : ∀ pre W W', J pre W → Below W.heap.size W W' → J pre W')
    (hY : ∀ pre x W, J pre W → pre.length < s.size + 1 → YieldAt Fence.wide (n - 1) Tryz.prog l (encL x) W fun e W' =>
      (e = .returned (.bool true) ∧ J (pre ++ [x]) W' ∧ Keep3 Bs Bp 1 W W') ∨ (e = .returned (.bool false) ∧ Jx (pre ++ [x]) W'))
    (W : World) (hm : ML W) (hBs : W.cell? ⟨Bs, 0, none⟩ = some (.string s)) (hBp : W.cell? ⟨Bp, 0, none⟩ = some (.int .i64 (a0 : Int))) (h0 : J [] W) :
    CallsIn Fence.wide n Tryz.prog 132 #[.func (.yield l) #[] #[], .pointer (some ⟨Bp, 0, none⟩), .pointer (some ⟨Bs, 0, none⟩)] W fun e W' => (∃ v, e = .returned v) ∧
      ((∃ ys : List (Lz s.size), ys.map prL = lnsR (s.data.toList.drop a0) a0 ∧ J ys W') ∨ (∃ pre : List (Lz s.size), (∃ rest, pre.map prL ++ rest = lnsR (s.data.toList.drop a0) a0) ∧ Jx pre W')) := by
  refine callsIn_of_wp Tryz.func132 rfl trivial ?_ rfl
  simp only [Tryz.ntmps132, List.size_toArray, List.length_cons, List.length_nil, Nat.reduceAdd, Nat.reduceSub, Array.replicate_succ, Array.replicate_zero, List.push_toArray, List.append_toArray, List.nil_append, List.cons_append]
  have HM : Hid (ML W) := hm
  have HC : Hid (∀ (t : List UInt8), t.length ≤ s.size → ∀ W, ML W → Calls Tryz.prog 28 #[.string (str t), .string ⟨#[13, 10]⟩] W fun e w' => e = .returned (.tuple #[.string (str (ct t).1), .string (str (ct t).2.1), .bool (ct t).2.2]) ∧ Below (World.heap W).size W w') := fun t ht W h => by
    have := Cut_g (str t) ⟨#[13, 10]⟩ (by rw [str_size]; omega) W h
    rw [str_list] at this
    exact this
  clear hm
  have hlb := cell_lt hBs
  have hlp := cell_lt hBp
  have hex := ext_drop s a0
  have ha1 : (a0 : Int) ≤ (s.size : Int) := by omega
  have ha2 : (0 : Int) ≤ (a0 : Int) := by omega
  have hdl : (s.data.toList.drop a0).length = s.size - a0 := by rw [List.length_drop, size_list]
  have HG : Hid (1 < W.heap.size) := HM.out.lt
  generalize hrr : s.data.toList.drop a0 = RR at *
  clear hrr
  have hRl : RR.length ≤ s.size := by omega
  gi_wp2_with (refine ⟨trivial, (fun h => by cases h), ?_⟩; refine (callsIn_wide.2 (HC.out RR hRl _ HM.out)).mono ?_; rintro e w1 ⟨rfl, hb1⟩)
  have c1 := (hb1.cell (p := ⟨Bs, 0, none⟩) hlb).trans hBs
  have c2 := (hb1.cell (p := ⟨Bp, 0, none⟩) hlp).trans hBp
  have HM1 : Hid (ML w1) := HM.out.below hb1
  have hJ1 := hJb _ _ _ h0 hb1
  clear hb1
  have H0 : Hid (a0 + RR.length ≤ s.size) := (by omega : a0 + RR.length ≤ s.size)
  clear hex
  gi_loopw [4, 5, 6, 7] (fun av lv rv ev wr => ∃ (cur : List UInt8) (a : Nat), av = .int .i64 (a : Int) ∧ lv = .string (str (ct cur).1) ∧ rv = .string (str (ct cur).2.1) ∧ ev = .bool (ct cur).2.2 ∧ ∃ pre : List (Lz s.size), Hid (pre.map prL ++ lnsR cur a = lnsR RR a0) ∧ Hid (a + cur.length ≤ s.size) ∧ J pre wr ∧ wr.cell? ⟨Bp, 0, none⟩ = some (.int .i64 (a0 : Int)) ∧ wr.cell? ⟨Bs, 0, none⟩ = some (.string s) ∧ Hid (ML wr))
    (fun _ _ rv ev _ => (match ev with | .bool true => 1 | _ => 0) + match rv with | .string r => r.size | _ => 0)
  case atStart => exact ⟨RR, a0, rfl, rfl, rfl, rfl, [], (rfl : ([] : List (Lz s.size)).map prL ++ lnsR RR a0 = _), H0, hJ1, c2, c1, HM1⟩
  case round =>
    obtain ⟨cur, a, rfl, rfl, rfl, rfl, pre, hpre, hcl, hJs, hcp, hcs, hml⟩ := hrel
    cases hh : (ct cur).2.2 with
    | true =>
      have hct := ct_len hh
      have hcl' := hcl.out
      have HSP2 : Hid (lnsR cur a = (a, (ct cur).1) :: lnsR (ct cur).2.1 (a + (ct cur).1.length + 2)) := (lnsR_step a hh : _ = _)
      have hplen : pre.length < s.size + 1 := by
        have h1 := congrArg List.length hpre.out
        have h2 := lnsR_len RR.length RR a0 (Nat.le_refl _)
        rw [List.length_append, List.length_map] at h1
        omega
      have hal : (ct cur).1.length ≤ s.size := by omega
      have haa : a ≤ s.size := by omega
      obtain ⟨fn, tmps, assign, body, hy, hR⟩ := hY pre ⟨a, (ct cur).1, haa, hal⟩ wr hJs hplen
      unfold encL at hy
      dsimp only at hy
      have HB : Hid (a + (ct cur).1.length + 2 + (ct cur).2.1.length ≤ s.size) := (by omega : _ ≤ _)
      clear hct hcl'
      generalize (ct cur).1 = A at *
      generalize (ct cur).2.1 = B at *
      have hBs' : B.length ≤ s.size := by have := HB.out; omega
      have hAi : (a : Int) + ((str A).size : Int) + 2 ≤ 4000000000 := by rw [str_size]; have := HB.out; omega
      have hAn : (0 : Int) ≤ (a : Int) := by omega
      gi_wp2
      refine ⟨(fun h => by cases h), hR.mono ?_⟩
      rintro e W3 (⟨rfl, hJ3, hk3⟩ | ⟨rfl, hJx3⟩)
      · have d1 : W3.cell? ⟨Bs, 0, none⟩ = some (.string s) := (hk3.1.cell _).trans hcs
        have d2 : W3.cell? ⟨Bp, 0, none⟩ = some (.int .i64 (a0 : Int)) := (hk3.2.1.cell _).trans hcp
        have HM3 : Hid (ML W3) := hml.out.keep hk3.2.2
        have e1 := cell_lt d1
        have e2 := cell_lt d2
        gi_wp2_with (refine ⟨trivial, (fun h => by cases h), ?_⟩; refine (callsIn_wide.2 (HC.out B hBs' _ HM3.out)).mono ?_; rintro e W4 ⟨rfl, hb4⟩)
        have f1 := (hb4.cell (p := ⟨Bs, 0, none⟩) e1).trans d1
        have f2 := (hb4.cell (p := ⟨Bp, 0, none⟩) e2).trans d2
        have HM4 : Hid (ML W4) := HM3.out.below hb4
        have hJ4 := hJb _ _ _ hJ3 hb4
        have HP1 : Hid ((pre ++ [(⟨a, A, haa, hal⟩ : Lz s.size)]).map prL ++ lnsR B (a + A.length + 2) = lnsR RR a0) := by
          show _ = _
          rw [List.map_append, List.append_assoc]
          have := hpre.out
          rw [HSP2.out] at this
          exact this
        go_roundw
        case rel => exact ⟨B, a + A.length + 2, by rw [str_size]; congr 1, rfl, rfl, rfl, pre ++ [⟨a, A, haa, hal⟩], HP1, HB, hJ4, f2, f1, HM4⟩
        case measure =>
          cases hb : (ct B).2.2 with
          | true =>
            have := ct_len hb
            simp [str_size]
            omega
          | false =>
            have := ct_le B
            simp [str_size]
            omega
      · gi_wp2
        go_end0
        exact ⟨⟨_, rfl⟩, .inr ⟨_, ⟨lnsR B (a + A.length + 2), by rw [List.map_append, List.append_assoc]; have := hpre.out; rw [HSP2.out] at this; exact this⟩, hJx3⟩⟩
    | false =>
      have HSP2 : Hid (lnsR cur a = []) := (lnsR_end a hh : _ = _)
      generalize (ct cur).1 = A at *
      generalize (ct cur).2.1 = B at *
      gi_wp2
      refine ⟨(fun f h => by cases h), ?_⟩
      gi_wp2
      go_end0
      exact ⟨⟨_, rfl⟩, .inl ⟨_, by have := hpre.out; rw [HSP2.out, List.append_nil] at this; exact this, hJs⟩⟩

end Sr
end Go.Proofs.YtlnlhhobmgiceaaGreatDoor
