/- Several texts as one. -/
import Derived.Test.YtejagkpjdfambaaDoorMgH
import Derived.Test.YtejagkpjdfambaaDoorMgK
import Derived.Deep.Strs
import Derived.Test.YtejagkpjdfambaaDoorMgA
import Derived.Lib.IndexMore
/-
  A slice of parameters that came in, read as parameters.
-/
set_option linter.unusedVariables false
set_option linter.unusedSimpArgs false
namespace Go.Proofs.YtejagkpjdfambaaDoor
open Go.ChangeShapes Go.WideShapes Go.RowKit
namespace Oc

theorem cellsP : Tryd.prog.cellsOf 60 = 3 := by kernel_rfl
theorem cells4 : Tryd.prog.cellsOf 4 = 1 := by kernel_rfl
def bulkparams (t : List Prm) : Nat := sumP t
def prmOf {H : Type} (y : DataW H × List MemPlace) : Prm := match y.1 with | .agg [.lit (.string a), .lit (.string b), .lit (.bool c)] => (a, b, c) | _ => ([], [], false)
theorem bulk_prms {H : Type} : ∀ es : List (DataW H × List MemPlace), (∀ y ∈ es, ∃ a b c, y.1 = .agg [.lit (.string a), .lit (.string b), .lit (.bool c)]) → Rows.uptoBulkAll (es.map (·.1)) = sumP (es.map prmOf)
  | [], _ => by simp [sumP, Rows.uptoBulkAll]
  | y :: es, h => by
    have ih := bulk_prms es (fun z hz => h z (List.mem_cons_of_mem _ hz))
    obtain ⟨a, b, c, e⟩ := h y (by simp)
    simp only [sumP, List.map_cons, List.sum_cons, Rows.uptoBulkAll, ih, e, prmOf, szP, Rows.uptoBulk] at ih ⊢
    omega
/-- The form of a slice of none. -/
def NilP (v : Value) (t : List Prm) : Prop := t = [] → v = .slice none 0 0 ∨ ∃ g c, v = .slice (some g) 0 c
theorem len_sumP : ∀ t : List Prm, t.length ≤ sumP t
  | [] => Nat.zero_le _
  | p :: t => by
    have := len_sumP t
    simp only [sumP, List.map_cons, List.sum_cons, List.length_cons, szP] at this ⊢
    omega
theorem prts_len : ∀ {t : List Prm} {x : List UInt8}, prts t = some x → x.length ≤ 2 * sumP t
  | [], x, h => by cases h; exact Nat.zero_le _
  | p :: r, x, h => by
    unfold prts at h
    cases hp : prt1 p with
    | none => rw [hp] at h; cases h
    | some a =>
      rw [hp] at h
      obtain ⟨b, hb, rfl⟩ := Option.map_eq_some_iff.1 h
      have h1 := prt1_len hp
      have h2 := prts_len hb
      show (a ++ b).length ≤ 2 * (szP p + sumP r)
      rw [List.length_append]
      omega
theorem addr_add (g o k : Nat) : Addr.add ⟨g, o, none⟩ k = ⟨g, o + k, none⟩ := by unfold Addr.add; split <;> simp_all
set_option maxRecDepth 100000 in
theorem open_params {H : Type} {enc : TypeId × Value → H} {W : World} {base : Nat} {v : Value} {d : DataW H} {ps : List MemPlace} (hval : Value.okWide Tryd.prog W .any base 23 v)
    (h : DataW.Trod enc Tryd.prog W 0 (fun _ => true) true 23 v d ps) : ∃ t : List Prm, (RdP v t W ∧ NilP v t) ∧ bulkparams t ≤ Rows.uptoBulk d := by
  obtain ⟨a0, len, cap, rfl⟩ := okWide_slice Tryd.underlying23 hval
  obtain ⟨fuel, hf⟩ := h
  rcases DataW.trod_slice Tryd.underlying23 hf with ⟨hcs, hx⟩ | ⟨a, len', cap', elems, rest, n, _, hcs, hx, hb, hl, hm, hlen, hel, _, _⟩
  · simp [Value.cells] at hcs
    obtain ⟨rfl, rfl, rfl⟩ := hcs
    exact ⟨[], ⟨⟨none, 0, rfl, .inl rfl⟩, fun _ => .inl rfl⟩, by simp [bulkparams, sumP]⟩
  · simp [Value.cells] at hcs
    obtain ⟨rfl, rfl, rfl⟩ := hcs
    simp only [Prod.mk.injEq] at hx
    obtain ⟨rfl, rfl⟩ := hx
    have each : ∀ i y, elems[i]? = some y → ∃ (s1 s2 : ByteArray) (b : Bool), y.1 = .agg [.lit (.string s1.data.toList), .lit (.string s2.data.toList), .lit (.bool b)] ∧ W.cell? ((a.add (i * 3)).add 0) = some (.string s1) ∧ W.cell? ((a.add (i * 3)).add 1) = some (.string s2) ∧ W.cell? ((a.add (i * 3)).add 2) = some (.bool b) := by
      intro i y hy
      have hi : i < len := by rw [← hlen]; exact (List.getElem?_eq_some_iff.1 hy).1
      have h1 := hel i hi
      rw [hy, cellsP, Option.bind_eq_some_iff] at h1
      obtain ⟨cs, hcs, ht⟩ := h1
      obtain ⟨_, hcl, hcc⟩ := World.cells?_some hcs
      obtain ⟨y0, y1, y2, m, rfl, _, t0, t1, t2⟩ := Deep.trod_struct3 Tryd.underlying60 ht
      simp only [cells9, cells4, List.drop_zero] at t0 t1 t2
      obtain ⟨s1, e1, r1, _⟩ := DataW.trod_string Tryd.underlying9 t0
      obtain ⟨s2, e2, r2, _⟩ := DataW.trod_string Tryd.underlying9 t1
      obtain ⟨b, e3, r3⟩ := DataW.trod_bool Tryd.underlying4 t2
      subst r1 r2 r3
      match cs, hcl with
      | [c0, c1, c2], _ =>
        simp at e1 e2 e3
        subst e1 e2 e3
        exact ⟨s1, s2, b, rfl, hcc 0 (by omega), hcc 1 (by omega), hcc 2 (by omega)⟩
    refine ⟨elems.map prmOf, ⟨⟨some a, cap, by rw [List.length_map, hlen], ?_⟩, fun e => .inr ⟨a, cap, by have := congrArg List.length e; rw [List.length_map, hlen] at this; rw [this]; rfl⟩⟩, ?_⟩
    · by_cases hl0 : len = 0
      · left
        have : elems = [] := List.length_eq_zero_iff.1 (by omega)
        rw [this]; rfl
      · right
        obtain ⟨g, o, spot⟩ := a
        have hspot : spot = none := by
          obtain ⟨y, hy⟩ : ∃ y, elems[0]? = some y := ⟨elems[0]'(by omega), List.getElem?_eq_getElem (by omega)⟩
          obtain ⟨s1, s2, b, _, c0, _, _⟩ := each 0 y hy
          simpa [Addr.add] using World.cell?_spot c0
        subst hspot
        refine ⟨g, o, rfl, by rw [List.length_map, hlen]; exact hl, fun j hj => ?_⟩
        rw [List.length_map] at hj
        obtain ⟨s1, s2, b, ey, c0, c1, c2⟩ := each j _ (List.getElem?_eq_getElem hj)
        have en : nth (elems.map prmOf) j = (s1.data.toList, s2.data.toList, b) := by
          unfold nth
          rw [List.getD_eq_getElem?_getD, List.getElem?_map, List.getElem?_eq_getElem hj]
          show prmOf elems[j] = _
          unfold prmOf
          rw [ey]
        rw [addr_add, addr_add] at c0 c1 c2
        rw [en]
        dsimp only
        rw [str_self, str_self]
        exact ⟨c0, c1, c2⟩
    · have hb := bulk_prms elems (fun y hy => by
        obtain ⟨i, hi⟩ := List.getElem?_of_mem hy
        obtain ⟨s1, s2, b, ey, _⟩ := each i y hi
        exact ⟨_, _, _, ey⟩)
      simp only [Rows.uptoBulk, hb, bulkparams]
      omega

end Oc
end Go.Proofs.YtejagkpjdfambaaDoor

/-
  Plain mathematics for package target: signs, triples, classes, pieces. Nothing of the program.
-/
set_option linter.unusedVariables false
set_option linter.unusedSimpArgs false
namespace Go.Proofs.YtejagkpjdfambaaDoor
namespace Tg

def hx (c : UInt8) : Bool := Oc.hexI (c.toNat : Int)
def vl (c : UInt8) : Nat := (Oc.valI (c.toNat : Int)).toNat
def byteOf (a b : UInt8) : UInt8 := UInt8.ofNat (vl a * 16 + vl b)
/-- Does a percent triple stand at the front? -/
def trip : List UInt8 → Bool
  | p :: a :: b :: _ => p == 37 && (hx a && hx b)
  | _ => false
theorem trip_len {l : List UInt8} (h : trip l = true) : 3 ≤ l.length := by
  match l, h with
  | p :: a :: b :: t, _ => simp
theorem trip_take (l : List UInt8) : trip (l.take 3) = trip l := by
  match l with
  | [] => rfl
  | [_] => rfl
  | [_, _] => rfl
  | p :: a :: b :: t => rfl
theorem trip_head {c : UInt8} {t : List UInt8} (h : trip (c :: t) = true) : c = 37 := by
  match t, h with
  | a :: b :: t, h => simp [trip] at h; exact h.1
/-- A sign, and its place. -/
structure Sg where
  at_ : Nat
  z : List UInt8
  ok : (z.length = 3 ∧ trip z = true) ∨ (z.length = 1 ∧ trip z = false)
theorem ok3 {l : List UInt8} (h : trip l = true) : ((l.take 3).length = 3 ∧ trip (l.take 3) = true) ∨ ((l.take 3).length = 1 ∧ trip (l.take 3) = false) := by
  have := trip_len h
  exact .inl ⟨by rw [List.length_take]; omega, by rw [trip_take]; exact h⟩
theorem ok1 (c : UInt8) : ([c].length = 3 ∧ trip [c] = true) ∨ ([c].length = 1 ∧ trip [c] = false) := .inr ⟨rfl, rfl⟩
/-- The signs of a text. -/
def sg (p : Nat) (l : List UInt8) : List Sg :=
  match l with
  | [] => []
  | c :: t => if h : trip (c :: t) = true then ⟨p, (c :: t).take 3, ok3 h⟩ :: sg (p + 3) (t.drop 2) else ⟨p, [c], ok1 c⟩ :: sg (p + 1) t
termination_by l.length
decreasing_by
  · simp; omega
  · simp
theorem sg_nil (p : Nat) : sg p [] = [] := by rw [sg]
theorem sg_trip (p : Nat) (l : List UInt8) (h : trip l = true) : sg p l = ⟨p, l.take 3, ok3 h⟩ :: sg (p + 3) (l.drop 3) := by
  match l, h with
  | c :: t, h => rw [sg, dif_pos h]; rfl
theorem sg_one (p : Nat) (c : UInt8) (t : List UInt8) (h : trip (c :: t) = false) : sg p (c :: t) = ⟨p, [c], ok1 c⟩ :: sg (p + 1) t := by
  rw [sg, dif_neg (by simp [h])]
theorem sg_len (p : Nat) (l : List UInt8) : (sg p l).length ≤ l.length := by
  match l with
  | [] => rw [sg_nil]; exact Nat.le_refl _
  | c :: t =>
    by_cases h : trip (c :: t) = true
    · rw [sg_trip p _ h]
      have := sg_len (p + 3) ((c :: t).drop 3)
      simp at this ⊢
      have := trip_len h
      simp at this
      omega
    · rw [sg_one p c t (by simpa using h)]
      have := sg_len (p + 1) t
      simp; omega
termination_by l.length
decreasing_by
  · simp; omega
  · simp
/-- What a sign stands for; its normal form. -/
def valS (x : Sg) : List UInt8 := match x.z with | [_, a, b] => [byteOf a b] | z => z
def unr (c : UInt8) : Bool := Oc.lettI (c.toNat : Int) || Oc.digI (c.toNat : Int) || [45, 46, 95, 126].contains c
def sub (c : UInt8) : Bool := [33, 36, 38, 39, 40, 41, 42, 43, 44, 59, 61].contains c
def col (c : UInt8) : Bool := c == 58 || c == 64
def cls (c : UInt8) : Int := if unr c then 1 else if sub c then 2 else if col c then 4 else if c == 47 then 8 else if c == 63 then 16 else 0
def hd (n : Nat) : UInt8 := [48, 49, 50, 51, 52, 53, 54, 55, 56, 57, 65, 66, 67, 68, 69, 70].getD n 0
def encB (c : UInt8) : List UInt8 := if unr c then [c] else [37, hd (c.toNat / 16), hd (c.toNat % 16)]
def enc (l : List UInt8) : List UInt8 := l.flatMap encB
def bad (x : Sg) : Bool := x.z == [37]
def decR (l : List UInt8) : List UInt8 × Nat × Int := match (sg 0 l).find? bad with | some x => ([], x.at_, 51) | none => ((sg 0 l).flatMap valS, 0, 0)
/-- The first sign that may not stand there, its error. -/
def wrong (ok : UInt8 → Bool) (x : Sg) : Bool := !(x.z.length == 3) && !ok (x.z.headD 0)
def chk (ok : UInt8 → Bool) (other : Int) (l : List UInt8) : Nat × Int := match (sg 0 l).find? (wrong ok) with | some x => (x.at_, if x.z = [37] then 51 else other) | none => (0, 0)
def nt (x : Sg) : List UInt8 := if x.z.length = 3 then enc (valS x) else x.z
def ntr (l : List UInt8) : List UInt8 := (sg 0 l).flatMap nt
def nameOk (c : UInt8) : Bool := unr c || sub c
def pathOk (c : UInt8) : Bool := unr c || sub c || col c || c == 47
def queryOk (c : UInt8) : Bool := unr c || sub c || col c || c == 47 || c == 63

/-- The pieces between a byte. -/
def cutA (b : UInt8) (l : List UInt8) : List UInt8 := l.takeWhile (· != b)
def cutB (b : UInt8) (l : List UInt8) : List UInt8 := (l.dropWhile (· != b)).drop 1
def has (b : UInt8) (l : List UInt8) : Bool := l.contains b
def splitB (b : UInt8) : List UInt8 → List (List UInt8)
  | [] => [[]]
  | c :: t => if c == b then [] :: splitB b t else match splitB b t with | h :: r => (c :: h) :: r | [] => [[c]]
theorem splitB_ne (b : UInt8) (l : List UInt8) : splitB b l ≠ [] := by
  cases l with
  | nil => simp [splitB]
  | cons c t =>
    unfold splitB
    by_cases h : (c == b) = true
    · rw [if_pos h]; simp
    · rw [if_neg h]; split <;> simp
theorem splitB_cons (b c : UInt8) (t : List UInt8) : splitB b (c :: t) = if c == b then [] :: splitB b t else match splitB b t with | h :: r => (c :: h) :: r | [] => [[c]] := rfl
theorem split_cut (b : UInt8) (l : List UInt8) : splitB b l = cutA b l :: if has b l then splitB b (cutB b l) else [] := by
  induction l with
  | nil => rfl
  | cons c t ih =>
    rw [splitB_cons]
    by_cases h : c = b
    · subst h
      simp [cutA, cutB, has]
    · have h2 : ¬ b = c := fun e => h e.symm
      have e1 : cutA b (c :: t) = c :: cutA b t := by simp [cutA, h]
      have e2 : cutB b (c :: t) = cutB b t := by simp [cutB, h]
      have e3 : has b (c :: t) = has b t := by simp [has, h2]
      rw [if_neg (by simpa using h), ih, e1, e2, e3]
theorem split_len (b : UInt8) (l : List UInt8) : (splitB b l).length ≤ l.length + 1 := by
  induction l with
  | nil => simp [splitB]
  | cons c t ih =>
    unfold splitB
    by_cases h : (c == b) = true
    · rw [if_pos h]; simp; omega
    · rw [if_neg h]
      revert ih
      cases splitB b t with
      | nil => simp
      | cons h r => simp; omega
theorem cutA_len (b : UInt8) (l : List UInt8) : (cutA b l).length ≤ l.length := (List.takeWhile_sublist _).length_le
theorem cutB_len (b : UInt8) (l : List UInt8) : (cutB b l).length ≤ l.length := by
  unfold cutB
  have := (List.dropWhile_sublist (fun x => x != b) (l := l)).length_le
  rw [List.length_drop]
  omega

end Tg
end Go.Proofs.YtejagkpjdfambaaDoor

/-
  Plain: what the library's cut says of one byte.
-/
set_option linter.unusedVariables false
set_option linter.unusedSimpArgs false
namespace Go.Proofs.YtejagkpjdfambaaDoor
namespace Tg

theorem index_cons_one (b c : UInt8) (t : List UInt8) : Lib.index (c :: t) [b] = if c = b then 0 else if Lib.index t [b] = -1 then -1 else Lib.index t [b] + 1 := by
  by_cases h : c = b
  · subst h; simp [Lib.index, List.isPrefixOf]
  · have h2 : ¬ b = c := fun e => h e.symm
    simp [Lib.index, List.isPrefixOf, h, h2]
theorem index_one (b : UInt8) (l : List UInt8) : Lib.index l [b] = if has b l then ((cutA b l).length : Int) else -1 := by
  induction l with
  | nil => rfl
  | cons c t ih =>
    rw [index_cons_one, ih]
    by_cases h : c = b
    · subst h; simp [has, cutA]
    · have h2 : ¬ b = c := fun e => h e.symm
      have e1 : cutA b (c :: t) = c :: cutA b t := by simp [cutA, h]
      have e3 : has b (c :: t) = has b t := by simp [has, h2]
      rw [if_neg h, e1, e3]
      cases has b t with
      | true => simp
      | false => simp
theorem cutA_all (b : UInt8) (l : List UInt8) (h : has b l = false) : cutA b l = l := by
  induction l with
  | nil => rfl
  | cons c t ih =>
    have h' : ¬ b = c ∧ has b t = false := by simpa [has] using h
    have h2 : ¬ c = b := fun e => h'.1 e.symm
    have e1 : cutA b (c :: t) = c :: cutA b t := by simp [cutA, h2]
    rw [e1, ih h'.2]
theorem cutB_none (b : UInt8) (l : List UInt8) (h : has b l = false) : cutB b l = [] := by
  induction l with
  | nil => rfl
  | cons c t ih =>
    have h' : ¬ b = c ∧ has b t = false := by simpa [has] using h
    have h2 : ¬ c = b := fun e => h'.1 e.symm
    have e2 : cutB b (c :: t) = cutB b t := by simp [cutB, h2]
    rw [e2, ih h'.2]
theorem cut_app (b : UInt8) (l : List UInt8) (h : has b l = true) : cutA b l ++ b :: cutB b l = l := by
  induction l with
  | nil => simp [has] at h
  | cons c t ih =>
    by_cases e : c = b
    · subst e; simp [cutA, cutB]
    · have h2 : ¬ b = c := fun x => e x.symm
      have e1 : cutA b (c :: t) = c :: cutA b t := by simp [cutA, e]
      have e2 : cutB b (c :: t) = cutB b t := by simp [cutB, e]
      have e3 : has b t = true := by simpa [has, h2] using h
      rw [e1, e2, List.cons_append, ih e3]
theorem cut_one (b : UInt8) (l : List UInt8) : Lib.cut l [b] = (cutA b l, cutB b l, has b l) := by
  unfold Lib.cut
  rw [index_one]
  cases h : has b l with
  | true =>
    rw [if_pos rfl, if_pos (by omega)]
    have e := cut_app b l h
    generalize cutA b l = A at *
    generalize cutB b l = B at *
    subst e
    simp
  | false =>
    rw [if_neg (by simp)]
    simp [cutA_all b l h, cutB_none b l h]

end Tg
end Go.Proofs.YtejagkpjdfambaaDoor
