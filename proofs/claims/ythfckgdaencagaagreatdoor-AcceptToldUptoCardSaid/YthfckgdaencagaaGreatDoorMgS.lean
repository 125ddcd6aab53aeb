/- Several texts as one. -/
import Derived.Test.YthfckgdaencagaaGreatDoorMgR
import Derived.Test.YthfckgdaencagaaGreatDoorMgE
import Derived.Test.YthfckgdaencagaaGreatDoorMgG
import Derived.Test.YthfckgdaencagaaGreatDoorMgQ
/-
  What lies in the world, and the library's Cut.
-/
set_option linter.unusedVariables false
set_option linter.unusedSimpArgs false
namespace Go.Proofs.YthfckgdaencagaaGreatDoor
open Go.RowKit Go.Shelf
namespace Ac
open Oc Tg

/-- The library's MaxLen lies. -/
def ML (w : World) : Prop := ∃ m : Int, w.cell? ⟨0, 0, none⟩ = some (.int .i64 m)
theorem ML.below {w w' : World} (h : ML w) (hb : Below w.heap.size w w') : ML w' := by
  obtain ⟨m, hm⟩ := h
  exact ⟨m, (hb.cell (p := ⟨0, 0, none⟩) (World.block_lt_of_cell? w _ hm)).trans hm⟩
/-- What the walks lean on: the table of signs, and MaxLen. -/
def Env (w : World) : Prop := Tab w ∧ ML w
theorem Env.below {w w' : World} (h : Env w) (hb : Below w.heap.size w w') : Env w' := ⟨h.1.below hb (Nat.le_refl _), h.2.below hb⟩

theorem Cut_any (s p : ByteArray) (hs : s.size ≤ 4000000000) (w : World) (h : ML w) :
    Calls Tryz.prog 35 #[.string s, .string p] w fun e w' => e = .returned (.tuple #[.string (str (Lib.cut s.data.toList p.data.toList).1), .string (str (Lib.cut s.data.toList p.data.toList).2.1), .bool (Lib.cut s.data.toList p.data.toList).2.2]) ∧ Below w.heap.size w w' := by
  obtain ⟨m, hm⟩ := h
  refine (Tryz.strings_Cut s p m w (by omega) hm).mono ?_
  rintro e w' ⟨rfl, n, rfl⟩
  exact ⟨rfl, ⟨rfl, rfl, rfl, Nat.le_refl _, fun _ _ => rfl⟩⟩
theorem Cut_one (s : ByteArray) (b : UInt8) (hs : s.size ≤ 4000000000) (w : World) (h : ML w) :
    Calls Tryz.prog 35 #[.string s, .string ⟨#[b]⟩] w fun e w' => e = .returned (.tuple #[.string (str (cutA b s.data.toList)), .string (str (cutB b s.data.toList)), .bool (has b s.data.toList)]) ∧ Below w.heap.size w w' := by
  have h := Cut_any s ⟨#[b]⟩ hs w h
  rw [show (⟨#[b]⟩ : ByteArray).data.toList = [b] from rfl, cut_one] at h
  exact h

end Ac
end Go.Proofs.YthfckgdaencagaaGreatDoor

/-
  A media type that came in, by value.
-/
set_option linter.unusedVariables false
set_option linter.unusedSimpArgs false
namespace Go.Proofs.YthfckgdaencagaaGreatDoor
open Go.ChangeShapes Go.WideShapes Go.RowKit
namespace Ac
open Oc

set_option maxRecDepth 100000 in
theorem open_paramsT {H : Type} {enc : TypeId × Value → H} {W : World} {v : Value} {d : DataW H} {ps : List MemPlace} (hval : ∃ a len cap, v = .slice a len cap)
    (h : DataW.Trod enc Tryz.prog W 0 (fun _ => true) true 33 v d ps) : ∃ t : List Prm, (RdP v t W ∧ NilP v t) ∧ bulkparams t ≤ Rows.uptoBulk d := by
  obtain ⟨a0, len, cap, rfl⟩ := hval
  obtain ⟨fuel, hf⟩ := h
  rcases DataW.trod_slice Tryz.underlying33 hf with ⟨hcs, hx⟩ | ⟨a, len', cap', elems, rest, n, _, hcs, hx, hb, hl, hm, hlen, hel, _, _⟩
  · simp [Value.cells] at hcs
    obtain ⟨rfl, rfl, rfl⟩ := hcs
    exact ⟨[], ⟨⟨none, 0, rfl, .inl rfl⟩, fun _ => .inl rfl⟩, by simp [bulkparams, sumP]⟩
  · simp [Value.cells] at hcs
    obtain ⟨rfl, rfl, rfl⟩ := hcs
    simp only [Prod.mk.injEq] at hx
    obtain ⟨rfl, rfl⟩ := hx
    have each : ∀ i y, elems[i]? = some y → ∃ (s1 s2 : ByteArray) (b : Bool), y.1 = .agg [.lit (.string s1.data.toList), .lit (.string s2.data.toList), .lit (.bool b)] ∧ W.cell? ((a.add (i * 3)).add 0) = some (.string s1) ∧ W.cell? ((a.add (i * 3)).add 1) = some (.string s2) ∧ W.cell? ((a.add (i * 3)).add 2) = some (.bool b) := by
      intro i y hy
      have hi : i < len := by rw [← hlen]; exact (List.getElem?_eq_some_iff.1 hy).1
      have h1 := hel i hi
      rw [hy, cellsP, Option.bind_eq_some_iff] at h1
      obtain ⟨cs, hcs, ht⟩ := h1
      obtain ⟨_, hcl, hcc⟩ := World.cells?_some hcs
      obtain ⟨y0, y1, y2, m, rfl, _, t0, t1, t2⟩ := Deep.trod_struct3 Tryz.underlying95 ht
      simp only [cells9, cells4, List.drop_zero] at t0 t1 t2
      obtain ⟨s1, e1, r1, _⟩ := DataW.trod_string Tryz.underlying9 t0
      obtain ⟨s2, e2, r2, _⟩ := DataW.trod_string Tryz.underlying9 t1
      obtain ⟨b, e3, r3⟩ := DataW.trod_bool Tryz.underlying4 t2
      subst r1 r2 r3
      match cs, hcl with
      | [c0, c1, c2], _ =>
        simp at e1 e2 e3
        subst e1 e2 e3
        exact ⟨s1, s2, b, rfl, hcc 0 (by omega), hcc 1 (by omega), hcc 2 (by omega)⟩
    refine ⟨elems.map prmOf, ⟨⟨some a, cap, by rw [List.length_map, hlen], ?_⟩, fun e => .inr ⟨a, cap, by have := congrArg List.length e; rw [List.length_map, hlen] at this; rw [this]; rfl⟩⟩, ?_⟩
    · by_cases hl0 : len = 0
      · left
        have : elems = [] := List.length_eq_zero_iff.1 (by omega)
        rw [this]; rfl
      · right
        obtain ⟨g, o, spot⟩ := a
        have hspot : spot = none := by
          obtain ⟨y, hy⟩ : ∃ y, elems[0]? = some y := ⟨elems[0]'(by omega), List.getElem?_eq_getElem (by omega)⟩
          obtain ⟨s1, s2, b, _, c0, _, _⟩ := each 0 y hy
          simpa [Addr.add] using World.cell?_spot c0
        subst hspot
        refine ⟨g, o, rfl, by rw [List.length_map, hlen]; exact hl, fun j hj => ?_⟩
        rw [List.length_map] at hj
        obtain ⟨s1, s2, b, ey, c0, c1, c2⟩ := each j _ (List.getElem?_eq_getElem hj)
        have en : nth (elems.map prmOf) j = (s1.data.toList, s2.data.toList, b) := by
          unfold nth
          rw [List.getD_eq_getElem?_getD, List.getElem?_map, List.getElem?_eq_getElem hj]
          show prmOf elems[j] = _
          unfold prmOf
          rw [ey]
        rw [addr_add, addr_add] at c0 c1 c2
        rw [en]
        dsimp only
        rw [str_self, str_self]
        exact ⟨c0, c1, c2⟩
    · have hb := bulk_prms elems (fun y hy => by
        obtain ⟨i, hi⟩ := List.getElem?_of_mem hy
        obtain ⟨s1, s2, b, ey, _⟩ := each i y hi
        exact ⟨_, _, _, ey⟩)
      simp only [Rows.uptoBulk, hb, bulkparams]
      omega


theorem cellsM : Tryz.prog.cellsOf 35 = 3 := by kernel_rfl
theorem cellsL : Tryz.prog.cellsOf 33 = 1 := by kernel_rfl
theorem array3 {α : Type} {cs : Array α} (h : cs.size = 3) : ∃ c0 c1 c2, cs = #[c0, c1, c2] := by
  obtain ⟨l⟩ := cs
  match l, h with
  | [c0, c1, c2], _ => exact ⟨c0, c1, c2, rfl⟩

set_option maxRecDepth 100000 in
theorem open_media {H : Type} {enc : TypeId × Value → H} {W : World} {base : Nat} {v : Value} {d : DataW H} {ps : List MemPlace} (hval : Value.okWide Tryz.prog W .any base 35 v)
    (h : DataW.Trod enc Tryz.prog W 0 (fun _ => true) true 35 v d ps) :
    ∃ (A B : ByteArray) (u : Value) (t : List Prm), v = .agg #[.string A, .string B, u] ∧ (RdP u t W ∧ NilP u t) ∧ A.size + B.size + bulkparams t ≤ Rows.uptoBulk d := by
  obtain ⟨cs, rfl, hsz⟩ := okWide_struct Tryz.underlying35 hval
  obtain ⟨c0, c1, c2, rfl⟩ := array3 (hsz.trans cellsM)
  obtain ⟨fuel, hf⟩ := h
  obtain ⟨y0, y1, y2, m, hx, _, t0, t1, t2⟩ := Deep.trod_struct3 Tryz.underlying35 hf
  simp only [cells9, cellsL, Value.cells, List.drop_zero] at t0 t1 t2
  obtain ⟨s1, e1, r1, _⟩ := DataW.trod_string Tryz.underlying9 t0
  obtain ⟨s2, e2, r2, _⟩ := DataW.trod_string Tryz.underlying9 t1
  simp at e1 e2
  subst e1 e2 r1 r2
  have hs2 : ∃ a len cap, c2 = .slice a len cap := by
    rcases DataW.trod_slice Tryz.underlying33 t2 with ⟨hcs, _⟩ | ⟨a, len', cap', elems, rest, n, _, hcs, _⟩
    · simp at hcs; exact ⟨_, _, _, hcs⟩
    · simp at hcs; exact ⟨_, _, _, hcs⟩
  obtain ⟨a2, l2, cap2, rfl⟩ := hs2
  obtain ⟨t, ht, hb⟩ := open_paramsT (enc := enc) (W := W) (v := .slice a2 l2 cap2) (d := y2.1) (ps := y2.2) ⟨_, _, _, rfl⟩ ⟨m, by simpa [Value.cells] using t2⟩
  refine ⟨s1, s2, _, t, rfl, ht, ?_⟩
  have hd : d = .agg [.lit (.string s1.data.toList), .lit (.string s2.data.toList), y2.1] := by
    injection hx
  rw [hd]
  simp only [Rows.uptoBulk, Rows.uptoBulkAll]
  have h1 := size_list s1
  have h2 := size_list s2
  omega

end Ac
end Go.Proofs.YthfckgdaencagaaGreatDoor
