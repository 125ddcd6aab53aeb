/- Several texts as one. -/
import Derived.Test.YtlnlhhobmgiceaaGreatDoorMgM
import Derived.Lib.IndexMore
/-
  Plain: what the library's cut says of one byte.
-/
set_option linter.unusedVariables false
set_option linter.unusedSimpArgs false
namespace Go.Proofs.YtlnlhhobmgiceaaGreatDoor
namespace Tg

theorem index_cons_one (b c : UInt8) (t : List UInt8) : Lib.index (c :: t) [b] = if c = b then 0 else if Lib.index t [b] = -1 then -1 else Lib.index t [b] + 1 := by
  by_cases h : c = b
  · subst h; simp [Lib.index, List.isPrefixOf]
  · have h2 : ¬ b = c := fun e => h e.symm
    simp [Lib.index, List.isPrefixOf, h, h2]
theorem index_one (b : UInt8) (l : List UInt8) : Lib.index l [b] = if has b l then ((cutA b l).length : Int) else -1 := by
  induction l with
  | nil => rfl
  | cons c t ih =>
    rw [index_cons_one, ih]
    by_cases h : c = b
    · subst h; simp [has, cutA]
    · have h2 : ¬ b = c := fun e => h e.symm
      have e1 : cutA b (c :: t) = c :: cutA b t := by simp [cutA, h]
      have e3 : has b (c :: t) = has b t := by simp [has, h2]
      rw [if_neg h, e1, e3]
      cases has b t with
      | true => simp
      | false => simp
theorem cutA_all (b : UInt8) (l : List UInt8) (h : has b l = false) : cutA b l = l := by
  induction l with
  | nil => rfl
  | cons c t ih =>
    have h' : ¬ b = c ∧ has b t = false := by simpa [has] using h
    have h2 : ¬ c = b := fun e => h'.1 e.symm
    have e1 : cutA b (c :: t) = c :: cutA b t := by simp [cutA, h2]
    rw [e1, ih h'.2]
theorem cutB_none (b : UInt8) (l : List UInt8) (h : has b l = false) : cutB b l = [] := by
  induction l with
  | nil => rfl
  | cons c t ih =>
    have h' : ¬ b = c ∧ has b t = false := by simpa [has] using h
    have h2 : ¬ c = b := fun e => h'.1 e.symm
    have e2 : cutB b (c :: t) = cutB b t := by simp [cutB, h2]
    rw [e2, ih h'.2]
theorem cut_app (b : UInt8) (l : List UInt8) (h : has b l = true) : cutA b l ++ b :: cutB b l = l := by
  induction l with
  | nil => simp [has] at h
  | cons c t ih =>
    by_cases e : c = b
    · subst e; simp [cutA, cutB]
    · have h2 : ¬ b = c := fun x => e x.symm
      have e1 : cutA b (c :: t) = c :: cutA b t := by simp [cutA, e]
      have e2 : cutB b (c :: t) = cutB b t := by simp [cutB, e]
      have e3 : has b t = true := by simpa [has, h2] using h
      rw [e1, e2, List.cons_append, ih e3]
theorem cut_one (b : UInt8) (l : List UInt8) : Lib.cut l [b] = (cutA b l, cutB b l, has b l) := by
  unfold Lib.cut
  rw [index_one]
  cases h : has b l with
  | true =>
    rw [if_pos rfl, if_pos (by omega)]
    have e := cut_app b l h
    generalize cutA b l = A at *
    generalize cutB b l = B at *
    subst e
    simp
  | false =>
    rw [if_neg (by simp)]
    simp [cutA_all b l h, cutB_none b l h]

end Tg
end Go.Proofs.YtlnlhhobmgiceaaGreatDoor

/-
  target: Cut at one byte; parsePlace.
-/
set_option linter.unusedVariables false
set_option linter.unusedSimpArgs false
namespace Go.Proofs.YtlnlhhobmgiceaaGreatDoor
open Go.RowKit Go.Shelf
namespace Tg
open Oc

/-- The library's MaxLen lies. -/
def ML (w : World) : Prop := ∃ m : Int, w.cell? ⟨1, 0, none⟩ = some (.int .i64 m)
theorem ML.below {w w' : World} (h : ML w) (hb : Below w.heap.size w w') : ML w' := by
  obtain ⟨m, hm⟩ := h
  exact ⟨m, (hb.cell (p := ⟨1, 0, none⟩) (cell_lt hm)).trans hm⟩
theorem ML.drew {w : World} (h : ML w) : ML w.drew := h
theorem Cut_one (s : ByteArray) (b : UInt8) (hs : s.size ≤ 4000000000) (w : World) (h : ML w) :
    Calls Tryz.prog 28 #[.string s, .string ⟨#[b]⟩] w fun e w' => e = .returned (.tuple #[.string (str (cutA b s.data.toList)), .string (str (cutB b s.data.toList)), .bool (has b s.data.toList)]) ∧ Below w.heap.size w w' := by
  obtain ⟨m, hm⟩ := h
  refine (Tryz.strings_Cut s ⟨#[b]⟩ m w (by omega) hm).mono ?_
  rintro e w' ⟨rfl, n, rfl⟩
  rw [show (⟨#[b]⟩ : ByteArray).data.toList = [b] from rfl, cut_one]
  exact ⟨rfl, ⟨rfl, rfl, rfl, Nat.le_refl _, fun _ _ => rfl⟩⟩

theorem sg_at (p : Nat) (l : List UInt8) : ∀ x ∈ sg p l, x.at_ < p + l.length := by
  match l with
  | [] => rw [sg_nil]; simp
  | c :: t =>
    intro x hx
    by_cases h : trip (c :: t) = true
    · rw [sg_trip p _ h] at hx
      have h3 := trip_len h
      rcases List.mem_cons.1 hx with rfl | hx
      · simp
      · have := sg_at (p + 3) ((c :: t).drop 3) x hx
        rw [List.length_drop] at this
        omega
    · rw [sg_one p c t (by simpa using h)] at hx
      rcases List.mem_cons.1 hx with rfl | hx
      · simp
      · have := sg_at (p + 1) t x hx
        simp; omega
termination_by l.length
decreasing_by
  · simp; omega
  · simp
theorem chk_le (ok : UInt8 → Bool) (other : Int) (l : List UInt8) : (chk ok other l).1 ≤ l.length := by
  unfold chk
  split
  · rename_i x hx
    have := sg_at 0 l x (List.mem_of_find?_eq_some hx)
    dsimp only
    omega
  · exact Nat.zero_le _
/-- A target, as a value. -/
def tgt (form : Int) (host : List UInt8) (port : Int) (path query : List UInt8) (h : Bool) : Value := .agg #[.int .i64 form, .string (str host), .int .i64 port, .string (str path), .string (str query), .bool h]
def tgt0 : Value := tgt 0 [] 0 [] [] false
/-- Path and query of a target. -/
def placeR (r : List UInt8) : (Nat × Int) := if (chk pathOk 53 (cutA 63 r)).2 ≠ 0 then chk pathOk 53 (cutA 63 r) else if (chk queryOk 54 (cutB 63 r)).2 ≠ 0 then ((cutA 63 r).length + 1 + (chk queryOk 54 (cutB 63 r)).1, (chk queryOk 54 (cutB 63 r)).2) else (0, 0)
def slashed (p : List UInt8) : List UInt8 := if p = [] then [47] else p

end Tg
end Go.Proofs.YtlnlhhobmgiceaaGreatDoor

/-
  target: the iterator over the pieces of a text.
-/
set_option linter.unusedVariables false
set_option linter.unusedSimpArgs false
namespace Go.Proofs.YtlnlhhobmgiceaaGreatDoor
open Go.RowKit Go.Shelf
attribute [local go_sem] Oper.semAt_some
namespace Tg
open Oc

/-- A piece. -/
structure Pz (M : Nat) where
  z : List UInt8
  le : z.length ≤ M
def encP {M : Nat} (x : Pz M) : Array Value := #[.string (str x.z)]
/-- Three blocks lie as they lay. -/
def Keep3 (a b c : Nat) (A B : World) : Prop := Keep a A B ∧ Keep b A B ∧ Keep c A B
theorem keep3_t {a b c : Nat} {A B C : World} (h : Keep3 a b c A B) (k : Keep3 a b c B C) : Keep3 a b c A C := ⟨h.1.trans k.1, h.2.1.trans k.2.1, h.2.2.trans k.2.2⟩
theorem keep3_b {a b c : Nat} {w : World} (ha : a < w.heap.size) (hb : b < w.heap.size) (hc : c < w.heap.size) (W : World) (l : Nat) (o o' : Obj) (hl : w.heap.size ≤ l) (h : W.heap[l]? = some o) (hcc : o.isCells = false) (hw : o.isWalk = false) : Keep3 a b c W (W.putObj l o') :=
  ⟨keepK_b ha W l o o' hl h hcc hw, keepK_b hb W l o o' hl h hcc hw, keepK_b hc W l o o' hl h hcc hw⟩
theorem keep3_fr {a b c B d : Nat} {A C : World} (h : Fr B d A C) (ha : a < B) (hb : b < B) (hc : c < B) (ha' : a ≠ d) (hb' : b ≠ d) (hc' : c ≠ d) : Keep3 a b c A C := ⟨h.keep ha ha', h.keep hb hb', h.keep hc hc'⟩
theorem ML.keep {A B : World} (h : ML A) (k : Keep 1 A B) : ML B := by
  obtain ⟨m, hm⟩ := h
  exact ⟨m, (k.cell 0).trans hm⟩
theorem ML.lt {w : World} (h : ML w) : 1 < w.heap.size := by
  obtain ⟨m, hm⟩ := h
  exact cell_lt hm

set_option maxRecDepth 100000 in
set_option maxHeartbeats 2000000 in
theorem pieces1_in (n : Nat) (l Bs Bp : Nat) (b : UInt8) (s : ByteArray) (hs : s.size ≤ 4000000000) (J Jx : List (Pz s.size) → World → Prop)
    (hJb : ∀ pre W W', J pre W → Below W.heap.size W W' → J pre W')
    (hY : ∀ pre x W, J pre W → pre.length < s.size + 1 → YieldAt Fence.wide (n - 1) Tryz.prog l (encP x) W fun e W' =>
      (e = .returned (.bool true) ∧ J (pre ++ [x]) W' ∧ Keep3 Bs Bp 1 W W') ∨ (e = .returned (.bool false) ∧ Jx (pre ++ [x]) W'))
    (W : World) (hm : ML W) (hBs : W.cell? ⟨Bs, 0, none⟩ = some (.string s)) (hBp : W.cell? ⟨Bp, 0, none⟩ = some (.string ⟨#[b]⟩)) (h0 : J [] W) :
    CallsIn Fence.wide n Tryz.prog 83 #[.func (.yield l) #[] #[], .pointer (some ⟨Bs, 0, none⟩), .pointer (some ⟨Bp, 0, none⟩)] W fun e W' => (∃ v, e = .returned v) ∧
      ((∃ ys : List (Pz s.size), ys.map Pz.z = splitB b s.data.toList ∧ J ys W') ∨ (∃ pre : List (Pz s.size), (∃ rest, pre.map Pz.z ++ rest = splitB b s.data.toList) ∧ Jx pre W')) := by
  refine callsIn_of_wp Tryz.func83 rfl trivial ?_ rfl
  simp only [Tryz.ntmps83, List.size_toArray, List.length_cons, List.length_nil, Nat.reduceAdd, Nat.reduceSub, Array.replicate_succ, Array.replicate_zero, List.push_toArray, List.append_toArray, List.nil_append, List.cons_append]
  have HM : Hid (ML W) := hm
  have HC : Hid (∀ (t : ByteArray), t.size ≤ s.size → ∀ W, ML W → _) := fun t ht W h => Cut_one t b (by omega) W h
  clear hm
  have hlb := cell_lt hBs
  have hlp := cell_lt hBp
  have HG : Hid (1 < W.heap.size) := HM.out.lt
  gi_wp2_with (refine ⟨trivial, (fun h => by cases h), ?_⟩; refine (callsIn_wide.2 (HC.out s (Nat.le_refl _) _ HM.out)).mono ?_; rintro e w1 ⟨rfl, hb1⟩)
  have c1 := (hb1.cell (p := ⟨Bs, 0, none⟩) hlb).trans hBs
  have c2 := (hb1.cell (p := ⟨Bp, 0, none⟩) hlp).trans hBp
  have HM1 : Hid (ML w1) := HM.out.below hb1
  have hJ1 := hJb _ _ _ h0 hb1
  clear hb1
  gi_loopw [4, 5, 6] (fun pv rv mv wr => ∃ cur : List UInt8, pv = .string (str (cutA b cur)) ∧ rv = .string (str (cutB b cur)) ∧ mv = .bool (has b cur) ∧ ∃ pre : List (Pz s.size), Hid (pre.map Pz.z ++ splitB b cur = splitB b s.data.toList) ∧ Hid (cur.length ≤ s.size) ∧ J pre wr ∧ wr.cell? ⟨Bp, 0, none⟩ = some (.string ⟨#[b]⟩) ∧ wr.cell? ⟨Bs, 0, none⟩ = some (.string s) ∧ Hid (ML wr))
    (fun _ rv mv _ => (match mv with | .bool true => 1 | _ => 0) + match rv with | .string r => r.size | _ => 0)
  case atStart => exact ⟨s.data.toList, rfl, rfl, rfl, [], (rfl : ([] : List (Pz s.size)).map Pz.z ++ splitB b s.data.toList = _), (by rw [size_list]; exact Nat.le_refl _ : s.data.toList.length ≤ s.size), hJ1, c2, c1, HM1⟩
  case round =>
    obtain ⟨cur, rfl, rfl, rfl, pre, hpre, hcl, hJs, hcp, hcs, hml⟩ := hrel
    have hal : (cutA b cur).length ≤ s.size := Nat.le_trans (cutA_len b cur) hcl.out
    have hplen : pre.length < s.size + 1 := by
      have h1 := congrArg List.length hpre.out
      have h2 := split_len b s.data.toList
      have h3 := splitB_ne b cur
      rw [List.length_append, List.length_map] at h1
      have h4 : 0 < (splitB b cur).length := List.length_pos_iff.2 h3
      rw [size_list] at h2
      omega
    obtain ⟨fn, tmps, assign, body, hy, hR⟩ := hY pre ⟨cutA b cur, hal⟩ wr hJs hplen
    unfold encP at hy
    dsimp only at hy
    have hsp := split_cut b cur
    have hbl : (cutB b cur).length ≤ cur.length := cutB_len b cur
    have HSP : Hid (_) := hsp
    clear hsp
    have hdec : has b cur = true → (cutB b cur).length < cur.length := by
      intro h
      have := congrArg List.length (cut_app b cur h)
      rw [List.length_append, List.length_cons] at this
      omega
    cases hh : has b cur with
    | true =>
      have hdl := hdec hh
      rw [hh] at HSP
      have HSP2 : Hid (splitB b cur = cutA b cur :: splitB b (cutB b cur)) := (by have := HSP.out; rw [if_pos rfl] at this; exact this : _ = _)
      have HB : Hid (_) := hdl
      clear hdec hdl HSP
      generalize cutA b cur = A at *
      generalize hB : cutB b cur = B at *
      have hBs' : (str B).size ≤ s.size := by rw [str_size]; have := hcl.out; have := HB.out; omega
      gi_wp2
      refine ⟨(fun h => by cases h), hR.mono ?_⟩
      rintro e W3 (⟨rfl, hJ3, hk3⟩ | ⟨rfl, hJx3⟩)
      · have d1 : W3.cell? ⟨Bs, 0, none⟩ = some (.string s) := (hk3.1.cell _).trans hcs
        have d2 : W3.cell? ⟨Bp, 0, none⟩ = some (.string ⟨#[b]⟩) := (hk3.2.1.cell _).trans hcp
        have HM3 : Hid (ML W3) := hml.out.keep hk3.2.2
        have e1 := cell_lt d1
        have e2 := cell_lt d2
        gi_wp2_with (refine ⟨trivial, (fun h => by cases h), ?_⟩; refine (callsIn_wide.2 (HC.out (str B) hBs' _ HM3.out)).mono ?_; rintro e W4 ⟨rfl, hb4⟩)
        have f1 := (hb4.cell (p := ⟨Bs, 0, none⟩) e1).trans d1
        have f2 := (hb4.cell (p := ⟨Bp, 0, none⟩) e2).trans d2
        have HM4 : Hid (ML W4) := HM3.out.below hb4
        have hJ4 := hJb _ _ _ hJ3 hb4
        have HP1 : Hid ((pre ++ [(⟨A, hal⟩ : Pz s.size)]).map Pz.z ++ splitB b B = splitB b s.data.toList) := by
          show _ = _
          rw [List.map_append, List.append_assoc]
          have := hpre.out
          rw [HSP2.out] at this
          exact this
        have HP2 : Hid (B.length ≤ s.size) := by rw [str_size] at hBs'; exact hBs'
        go_roundw
        case rel => exact ⟨B, by rw [str_list], by rw [str_list], by rw [str_list], pre ++ [⟨A, hal⟩], HP1, HP2, hJ4, f2, f1, HM4⟩
        case measure =>
          rw [str_list]
          have h1 := cutB_len b B
          cases hb : has b B with
          | true =>
            have := congrArg List.length (cut_app b B hb)
            rw [List.length_append, List.length_cons] at this
            simp [str_size]
            omega
          | false => simp [str_size]; omega
      · gi_wp2
        go_end0
        exact ⟨⟨_, rfl⟩, .inr ⟨_, ⟨splitB b B, by rw [List.map_append, List.append_assoc]; have := hpre.out; rw [HSP2.out] at this; exact this⟩, hJx3⟩⟩
    | false =>
      rw [hh] at HSP
      have HSP2 : Hid (splitB b cur = [cutA b cur]) := (by have := HSP.out; rw [if_neg (by simp)] at this; exact this : _ = _)
      clear hdec HSP
      generalize cutA b cur = A at *
      generalize cutB b cur = B at *
      gi_wp2
      refine ⟨(fun h => by cases h), hR.mono ?_⟩
      rintro e W3 (⟨rfl, hJ3, hk3⟩ | ⟨rfl, hJx3⟩)
      · gi_wp2
        go_end0
        exact ⟨⟨_, rfl⟩, .inl ⟨_, by rw [List.map_append]; have := hpre.out; rw [HSP2.out] at this; exact this, hJ3⟩⟩
      · gi_wp2
        go_end0
        exact ⟨⟨_, rfl⟩, .inr ⟨_, ⟨[], by rw [List.append_nil, List.map_append]; have := hpre.out; rw [HSP2.out] at this; exact this⟩, hJx3⟩⟩

end Tg
end Go.Proofs.YtlnlhhobmgiceaaGreatDoor
