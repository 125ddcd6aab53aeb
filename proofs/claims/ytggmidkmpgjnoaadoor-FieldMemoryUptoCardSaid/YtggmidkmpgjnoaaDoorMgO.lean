/- Several texts as one. -/
import Derived.Test.YtggmidkmpgjnoaaDoorMgM
import Derived.Test.YtggmidkmpgjnoaaDoorMgD
import Derived.Test.YtggmidkmpgjnoaaDoorMgE
/-
  A strings.Builder: its buffer lies at or beyond B, what is written turns the builder's own block and the buffer alone.
-/
set_option linter.unusedVariables false
set_option linter.unusedSimpArgs false
namespace Go.Proofs.YtggmidkmpgjnoaaDoor
open Go.RowKit Go.Shelf
namespace Fd
open Oc Tg

/-- What a write turns: block b, and blocks at or beyond B that are cells. -/
structure Fr (B b : Nat) (w w' : World) : Prop where
  os : w'.os = w.os
  tape : w'.tape = w.tape
  output : w'.output = w.output
  block : ∀ k, k < B → k ≠ b → w'.heap[k]? = w.heap[k]?
  size : w.heap.size ≤ w'.heap.size
theorem Fr.refl (B b : Nat) (w : World) : Fr B b w w := ⟨rfl, rfl, rfl, fun _ _ _ => rfl, Nat.le_refl _⟩
theorem Fr.trans {B b : Nat} {x y z : World} (h : Fr B b x y) (k : Fr B b y z) : Fr B b x z :=
  ⟨k.os.trans h.os, k.tape.trans h.tape, k.output.trans h.output, fun i hi hb => (k.block i hi hb).trans (h.block i hi hb), Nat.le_trans h.size k.size⟩
theorem Fr.below {B b n : Nat} {w w' : World} (h : Fr B b w w') (hn : n ≤ B) (hb : n ≤ b) : Below n w w' := ⟨h.os, h.tape, h.output, h.size, fun k hk => h.block k (by omega) (by omega)⟩
theorem Fr.of_below {B b : Nat} {w w' : World} (h : Below w.heap.size w w') (hB : B ≤ w.heap.size) : Fr B b w w' :=
  ⟨h.os, h.tape, h.output, fun k hk _ => h.block k (by omega), h.size⟩
theorem Fr.set {B b j : Nat} (w : World) (v : Value) : Fr B b w (w.setCell ⟨b, j, none⟩ v) :=
  ⟨rfl, rfl, rfl, fun k _ hb => Below.heap_setCell _ _ _ _ hb, by simp⟩
theorem Fr.alloc {B b : Nat} (w : World) (o : Obj) (hB : B ≤ w.heap.size) : Fr B b w (w.alloc o) :=
  ⟨rfl, rfl, rfl, fun k hk _ => Lib.alloc_old w o k (by omega), by simp⟩
theorem Fr.grown {B b : Nat} {w w' : World} {v : Value} {n : Nat} {xs : List Value} (hg : w.grownBy w' v.ownBlock) (ho : w.ownsRow B 5 1 v n xs) (hB : B ≤ w.heap.size) : Fr B b w w' :=
  ⟨hg.os, hg.tape, hg.output, fun k hk _ => hg.block k (by omega) (fun e => by have := (ho.lt k e.symm).1; omega), hg.size⟩

end Fd
end Go.Proofs.YtggmidkmpgjnoaaDoor

/-
  check, PrintLine, Print; the document's.
-/
set_option linter.unusedVariables false
set_option linter.unusedSimpArgs false
namespace Go.Proofs.YtggmidkmpgjnoaaDoor
open Go.RowKit Go.Shelf
namespace Fd
open Oc Tg

/-- What is not right of a field. -/
def chkZ (p : Fl) : Int := if isName p.1 then if isValue p.2 then 0 else 61 else 60
def lineP (p : Fl) : List UInt8 := if p.2 = [] then p.1 ++ [58] else p.1 ++ [58] ++ [32] ++ p.2
def printL (p : Fl) : List UInt8 × Int := if chkZ p = 0 then (lineP p, 0) else ([], chkZ p)
def printG : List Fl → List UInt8 → List UInt8 × Int
  | [], acc => (acc, 0)
  | p :: t, acc => if chkZ p = 0 then printG t (acc ++ lineP p ++ [13, 10]) else ([], chkZ p)
def printT (t : List Fl) : List UInt8 × Int := if 100 < t.length then ([], 65) else printG t []
theorem chk_cases (p : Fl) : (chkZ p = 0 ∧ isName p.1 = true ∧ isValue p.2 = true) ∨ (chkZ p = 61 ∧ isName p.1 = true ∧ isValue p.2 = false) ∨ (chkZ p = 60 ∧ isName p.1 = false) := by
  unfold chkZ
  cases h1 : isName p.1 with
  | false => exact .inr (.inr ⟨rfl, rfl⟩)
  | true =>
    cases h2 : isValue p.2 with
    | false => exact .inr (.inl ⟨rfl, rfl, rfl⟩)
    | true => exact .inl ⟨rfl, rfl, rfl⟩
theorem drop_nth (t : List Fl) (k : Nat) (h : k < t.length) : t.drop k = nth t k :: t.drop (k + 1) := by
  rw [List.drop_eq_getElem_cons h]
  unfold nth
  rw [List.getD_eq_getElem?_getD, List.getElem?_eq_getElem h]
  rfl
theorem lineP_len (p : Fl) : (lineP p).length ≤ szF p := by
  unfold lineP szF
  split
  · simp; omega
  · simp; omega
theorem str_app (a b : List UInt8) : str a ++ str b = str (a ++ b) := by
  apply eq_list
  rw [ByteArray.data_append, Array.toList_append, str_list, str_list, str_list]
theorem join_str (a b : ByteArray) : (a ++ b) = str (a.data.toList ++ b.data.toList) := by
  conv => lhs; rw [← str_self a, ← str_self b]
  rw [str_app]

set_option maxRecDepth 100000 in
set_option maxHeartbeats 1000000 in
theorem check_any (p : Fl) (h1 : p.1.length ≤ maxLen) (h2 : p.2.length ≤ maxLen) (w : World) (t : Tab w) :
    Calls Tryd.prog 23 #[.agg #[.string (str p.1), .string (str p.2)]] w fun e w' => e = .returned (.int .i64 (chkZ p)) ∧ Below w.heap.size w w' := by
  obtain ⟨pn, pv⟩ := p
  dsimp only at h1 h2 ⊢
  have hb1 : Below w.heap.size w (w.alloc (.cells #[.string (str pn), .string (str pv)] 46)) := (Below.refl _ w).alloc (Nat.le_refl _) _
  have HN : Hid (Calls Tryd.prog 41 #[.string (str pn)] (w.alloc (.cells #[.string (str pn), .string (str pv)] 46)) fun e w' => e = .returned (.bool (isName pn)) ∧ Below (w.alloc (.cells #[.string (str pn), .string (str pv)] 46)).heap.size (w.alloc (.cells #[.string (str pn), .string (str pv)] 46)) w') := by
    have h := IsName_any (str pn) (by rw [str_size]; exact h1) (w.alloc (.cells #[.string (str pn), .string (str pv)] 46)) (t.below hb1 (Nat.le_refl _))
    rw [str_list] at h
    exact h
  have HV : Hid (∀ w, Calls Tryd.prog 43 #[.string (str pv)] w fun e w' => e = .returned (.bool (isValue pv)) ∧ Below w.heap.size w w') := fun w => by
    have h := IsValue_any (str pv) (by rw [str_size]; exact h2) w
    rw [str_list] at h
    exact h
  have HB1 : Hid (Below _ _ _) := hb1
  have HC : Hid (_) := chk_cases (pn, pv)
  generalize chkZ (pn, pv) = z at *
  generalize str pn = N at *
  generalize str pv = V at *
  dsimp only at HC
  generalize isName pn = b1 at *
  generalize isValue pv = b2 at *
  clear hb1 t h1 h2
  rcases HC.out with ⟨rfl, rfl, rfl⟩ | ⟨rfl, rfl, rfl⟩ | ⟨rfl, rfl⟩
  all_goals clear HC
  · go_enter Tryd.func23, Tryd.ntmps23
    go_wp2_with fail
    refine HN.out.mono ?_
    rintro e w2 ⟨rfl, hb2⟩
    have c1 : w2.cell? ⟨w.heap.size, 1, none⟩ = some (.string V) := by rw [hb2.cell (by simp)]; simp
    have HB2 : Hid (Below w.heap.size w w2) := bel_trans HB1.out hb2
    clear hb2
    go_wp2_with fail
    refine (HV.out _).mono ?_
    rintro e w3 ⟨rfl, hb3⟩
    have HB3 : Hid (Below w.heap.size w w3) := bel_trans HB2.out hb3
    clear hb3
    go_wp2
    go_ret
    exact ⟨rfl, HB3.out⟩
  · go_enter Tryd.func23, Tryd.ntmps23
    go_wp2_with fail
    refine HN.out.mono ?_
    rintro e w2 ⟨rfl, hb2⟩
    have c1 : w2.cell? ⟨w.heap.size, 1, none⟩ = some (.string V) := by rw [hb2.cell (by simp)]; simp
    have HB2 : Hid (Below w.heap.size w w2) := bel_trans HB1.out hb2
    clear hb2
    go_wp2_with fail
    refine (HV.out _).mono ?_
    rintro e w3 ⟨rfl, hb3⟩
    have HB3 : Hid (Below w.heap.size w w3) := bel_trans HB2.out hb3
    clear hb3
    go_wp2
    go_ret
    exact ⟨rfl, HB3.out⟩
  · go_enter Tryd.func23, Tryd.ntmps23
    go_wp2_with fail
    refine HN.out.mono ?_
    rintro e w2 ⟨rfl, hb2⟩
    have HB2 : Hid (Below w.heap.size w w2) := bel_trans HB1.out hb2
    clear hb2
    go_wp2
    go_ret
    exact ⟨rfl, HB2.out⟩

set_option maxRecDepth 100000 in
set_option maxHeartbeats 1000000 in
theorem rPrintLine_any (p : Fl) (h1 : p.1.length ≤ 4000000) (h2 : p.2.length ≤ 4000000) (w : World) :
    Calls Tryd.prog 33 #[.agg #[.string (str p.1), .string (str p.2)]] w fun e w' => e = .returned (.tuple #[.string (str (printL p).1), .int .i64 (printL p).2]) ∧ Below w.heap.size w w' := by
  obtain ⟨pn, pv⟩ := p
  dsimp only at h1 h2 ⊢
  have hb1 : Below w.heap.size w (w.alloc (.cells #[.string (str pn), .string (str pv)] 51)) := (Below.refl _ w).alloc (Nat.le_refl _) _
  have HN : Hid (∀ w, Calls Tryd.prog 26 #[.string (str pn)] w fun e w' => e = .returned (.bool (isName pn)) ∧ w' = w) := fun w => by
    have h := rIsName_any (str pn) (by rw [str_size]; unfold maxLen; omega) w
    rw [str_list] at h
    exact h
  have HV : Hid (∀ w, Calls Tryd.prog 27 #[.string (str pv)] w fun e w' => e = .returned (.bool (isValue pv)) ∧ w' = w) := fun w => by
    have h := rIsValue_any (str pv) (by rw [str_size]; unfold maxLen; omega) w
    rw [str_list] at h
    exact h
  have HB1 : Hid (Below _ _ _) := hb1
  have hn : (str pn).size ≤ 4000000 := by rw [str_size]; exact h1
  have hv : (str pv).size ≤ 4000000 := by rw [str_size]; exact h2
  have E1 : pv = [] → Hid (str (lineP (pn, pv)) = str pn ++ ⟨#[58]⟩) := fun h => by
    show _ = _
    unfold lineP
    rw [if_pos h, ← str_app]
    rfl
  have E2 : pv ≠ [] → Hid (str (lineP (pn, pv)) = str pn ++ ⟨#[58, 32]⟩ ++ str pv) := fun h => by
    show _ = _
    unfold lineP
    rw [if_neg h, ← str_app, List.append_assoc, ← str_app]
    rfl
  have X1 : pv = [] → (str pv).toList.isEmpty = true := fun h => empty_str h
  have X2 : pv ≠ [] → (str pv).toList.isEmpty = false := fun h => nonempty_str h
  unfold printL
  rcases chk_cases (pn, pv) with ⟨hz, hin, hiv⟩ | ⟨hz, hin, hiv⟩ | ⟨hz, hin⟩
  · dsimp only at hin hiv
    rw [hin] at HN
    rw [hiv] at HV
    rw [if_pos hz]
    dsimp only
    clear hz hin hiv
    by_cases hv0 : pv = []
    · have e1 := E1 hv0
      have x1 := X1 hv0
      clear E1 E2 X1 X2 h1 h2 hb1 hv0
      generalize hL : str (lineP (pn, pv)) = L at *
      clear hL
      generalize str pn = N at *
      generalize str pv = V at *
      have HB9 : Hid (Below w.heap.size w (w.alloc (.cells #[.string N, .string V] 51))) := HB1.out
      go_enter Tryd.func33, Tryd.ntmps33
      go_wp2_with fail
      refine (HN.out _).mono ?_
      rintro e w2 ⟨rfl, rfl⟩
      go_wp2_with fail
      refine (HV.out _).mono ?_
      rintro e w3 ⟨rfl, rfl⟩
      go_wp2
      go_ret2
      exact ⟨by rw [e1.out]; rfl, HB9.out⟩
    · have e2 := E2 hv0
      have x2 := X2 hv0
      clear E1 E2 X1 X2 h1 h2 hb1 hv0
      generalize hL : str (lineP (pn, pv)) = L at *
      clear hL
      generalize str pn = N at *
      generalize str pv = V at *
      have HB9 : Hid (Below w.heap.size w (w.alloc (.cells #[.string N, .string V] 51))) := HB1.out
      go_enter Tryd.func33, Tryd.ntmps33
      go_wp2_with fail
      refine (HN.out _).mono ?_
      rintro e w2 ⟨rfl, rfl⟩
      go_wp2_with fail
      refine (HV.out _).mono ?_
      rintro e w3 ⟨rfl, rfl⟩
      go_wp2
      go_ret2
      exact ⟨by rw [e2.out]; rfl, HB9.out⟩
  · dsimp only at hin hiv
    rw [hin] at HN
    rw [hiv] at HV
    rw [hz, if_neg (by decide)]
    dsimp only
    clear hz hin E1 E2 X1 X2 h1 h2 hb1 hiv
    generalize str pn = N at *
    generalize str pv = V at *
    have HB9 : Hid (Below w.heap.size w (w.alloc (.cells #[.string N, .string V] 51))) := HB1.out
    go_enter Tryd.func33, Tryd.ntmps33
    go_wp2_with fail
    refine (HN.out _).mono ?_
    rintro e w2 ⟨rfl, rfl⟩
    go_wp2_with fail
    refine (HV.out _).mono ?_
    rintro e w3 ⟨rfl, rfl⟩
    go_wp2
    go_ret2
    exact ⟨rfl, HB9.out⟩
  · dsimp only at hin
    rw [hin] at HN
    rw [hz, if_neg (by decide)]
    dsimp only
    clear hz hin E1 E2 X1 X2 h1 h2 hb1
    generalize str pn = N at *
    generalize str pv = V at *
    have HB9 : Hid (Below w.heap.size w (w.alloc (.cells #[.string N, .string V] 51))) := HB1.out
    go_enter Tryd.func33, Tryd.ntmps33
    go_wp2_with fail
    refine (HN.out _).mono ?_
    rintro e w2 ⟨rfl, rfl⟩
    go_wp2
    go_ret2
    exact ⟨rfl, HB9.out⟩

end Fd
end Go.Proofs.YtggmidkmpgjnoaaDoor
