import Derived.Test.YtcelekfokbdmfaaGreatDoorMgF1
import Derived.Test.YtcelekfokbdmfaaGreatDoorMsY
import Derived.Test.YtcelekfokbdmfaaGreatDoorRows
import Derived.Deep.DeepHandedRow
import Derived.Lay
import Derived.Stop.Joined
set_option linter.unusedVariables false
set_option linter.unusedSimpArgs false
namespace Go.Proofs.YtcelekfokbdmfaaGreatDoor
open Go.ChangeShapes Go.WideShapes Go.RowKit
namespace Ms
open Oc _root_.Go.Proofs.YtcelekfokbdmfaaGreatDoor.Fd _root_.Go.Proofs.YtcelekfokbdmfaaGreatDoor.Ck
theorem cellsB : Tryz.prog.cellsOf 4 = 1 := by kernel_rfl
theorem cellsRs : Tryz.prog.cellsOf 24 = 4 := by kernel_rfl
theorem cellsMn : Tryz.prog.cellsOf 27 = 6 := by kernel_rfl
theorem array4 {α : Type} {cs : Array α} (h : cs.size = 4) : ∃ c0 c1 c2 c3, cs = #[c0, c1, c2, c3] := by
  obtain ⟨l⟩ := cs
  match l, h with
  | [c0, c1, c2, c3], _ => exact ⟨c0, c1, c2, c3, rfl⟩
theorem list4 {α : Type} {cs : List α} (h : cs.length = 4) : ∃ c0 c1 c2 c3, cs = [c0, c1, c2, c3] := by
  match cs, h with
  | [c0, c1, c2, c3], _ => exact ⟨c0, c1, c2, c3, rfl⟩
theorem array6 {α : Type} {cs : Array α} (h : cs.size = 6) : ∃ c0 c1 c2 c3 c4 c5, cs = #[c0, c1, c2, c3, c4, c5] := by
  obtain ⟨l⟩ := cs
  match l, h with
  | [c0, c1, c2, c3, c4, c5], _ => exact ⟨c0, c1, c2, c3, c4, c5, rfl⟩
theorem list6 {α : Type} {cs : List α} (h : cs.length = 6) : ∃ c0 c1 c2 c3 c4 c5, cs = [c0, c1, c2, c3, c4, c5] := by
  match cs, h with
  | [c0, c1, c2, c3, c4, c5], _ => exact ⟨c0, c1, c2, c3, c4, c5, rfl⟩
set_option maxRecDepth 100000 in
set_option maxHeartbeats 1000000 in
theorem open_resp {H : Type} {enc : TypeId × Value → H} {W : World} {base : Nat} {v : Value} {d : DataW H} {ps : List MemPlace} (hval : Value.okWide Tryz.prog W .any base 24 v)
    (h : DataW.Trod enc Tryz.prog W 0 (fun _ => true) true 24 v d ps) :
    ∃ (st : Int) (A B : ByteArray) (u : Value) (t : List Fl), v = .agg #[.int .i64 st, .string A, u, .string B] ∧ InF u t W ∧ (Lit.int .i64 st).wf = true ∧ A.size + B.size + bulkfields t ≤ Rows.uptoBulk d := by
  obtain ⟨cs, rfl, hsz⟩ := okWide_struct Tryz.underlying24 hval
  obtain ⟨x0, x1, x2, x3, rfl⟩ := array4 (hsz.trans cellsRs)
  obtain ⟨fuel, hf⟩ := h
  obtain ⟨xs, n, _, hx, hl, hlen, hff⟩ := DataW.trod_struct Tryz.underlying24 hf
  obtain ⟨z0, z1, z2, z3, rfl⟩ := list4 (hlen.trans rfl)
  have f0 := hff 0 _ rfl
  have f1 := hff 1 _ rfl
  have f2 := hff 2 _ rfl
  have f3 := hff 3 _ rfl
  simp [Value.cells, cellsI, cellsS9, cellsSF] at f0 f1 f2 f3
  obtain ⟨a, e0, r0, w0⟩ := DataW.trod_int Tryz.underlying3 f0
  obtain ⟨A, e1, r1, m1⟩ := DataW.trod_string Tryz.underlying9 f1
  obtain ⟨B, e3, r3, m3⟩ := DataW.trod_string Tryz.underlying9 f3
  have hs2 : ∃ a len cap, x2 = .slice a len cap := by
    rcases DataW.trod_slice Tryz.underlying22 f2 with ⟨hcs, _⟩ | ⟨a, len', cap', elems, rest, n, _, hcs, _⟩
    · simp at hcs; exact ⟨_, _, _, hcs⟩
    · simp at hcs; exact ⟨_, _, _, hcs⟩
  obtain ⟨a2, l2, cap2, rfl⟩ := hs2
  obtain ⟨t, ht, hb⟩ := open_fieldsT (enc := enc) (W := W) (v := .slice a2 l2 cap2) (d := z2.1) (ps := z2.2) ⟨_, _, _, rfl⟩ ⟨n, by simpa [Value.cells] using f2⟩
  subst r0 r1 r3
  simp at e0 e1 e3
  subst e0 e1 e3
  have hd : d = .agg [.lit (.int .i64 a), .lit (.string A.data.toList), z2.1, .lit (.string B.data.toList)] := by
    simp at hx
    exact hx.1
  refine ⟨a, A, B, _, t, rfl, ht, w0, ?_⟩
  rw [hd]
  simp only [Rows.uptoBulk, Rows.uptoBulkAll]
  have h1 := size_list A
  have h2 := size_list B
  omega
set_option maxRecDepth 100000 in
set_option maxHeartbeats 1000000 in
theorem open_mann {H : Type} {enc : TypeId × Value → H} {W : World} {base : Nat} {v : Value} {d : DataW H} {ps : List MemPlace} (hval : Value.okWide Tryz.prog W .any base 27 v)
    (h : DataW.Trod enc Tryz.prog W 0 (fun _ => true) true 27 v d ps) :
    ∃ (A : ByteArray) (b1 b2 b3 : Bool) (u1 u2 : Value) (l : List Int) (t : List Fl), v = .agg #[.string A, .bool b1, .bool b2, .bool b3, u1, u2] ∧ ((RdI W u1 l ∧ NilI u1 l) ∧ InF u2 t W) ∧ A.size + l.length + bulkfields t ≤ Rows.uptoBulk d := by
  obtain ⟨cs, rfl, hsz⟩ := okWide_struct Tryz.underlying27 hval
  obtain ⟨x0, x1, x2, x3, x4, x5, rfl⟩ := array6 (hsz.trans cellsMn)
  obtain ⟨fuel, hf⟩ := h
  obtain ⟨xs, n, _, hx, hl, hlen, hff⟩ := DataW.trod_struct Tryz.underlying27 hf
  obtain ⟨z0, z1, z2, z3, z4, z5, rfl⟩ := list6 (hlen.trans rfl)
  have f0 := hff 0 _ rfl
  have f1 := hff 1 _ rfl
  have f2 := hff 2 _ rfl
  have f3 := hff 3 _ rfl
  have f4 := hff 4 _ rfl
  have f5 := hff 5 _ rfl
  simp [Value.cells, cellsB, cellsSI, cellsS9, cellsSF] at f0 f1 f2 f3 f4 f5
  obtain ⟨A, e0, r0, m0⟩ := DataW.trod_string Tryz.underlying9 f0
  obtain ⟨b1, e1, r1⟩ := DataW.trod_bool Tryz.underlying4 f1
  obtain ⟨b2, e2, r2⟩ := DataW.trod_bool Tryz.underlying4 f2
  obtain ⟨b3, e3, r3⟩ := DataW.trod_bool Tryz.underlying4 f3
  have hs4 : (∃ a len cap, x4 = .slice a len cap) ∧ ∀ a c, x4 = .slice a 0 c → x4 = .slice none 0 0 ∨ ∃ g c, x4 = .slice (some g) 0 c := by
    rcases DataW.trod_slice Tryz.underlying25 f4 with ⟨hcs, _⟩ | ⟨a, len', cap', elems, rest, n, _, hcs, _⟩
    · simp at hcs; exact ⟨⟨_, _, _, hcs⟩, fun _ _ _ => .inl hcs⟩
    · simp at hcs
      refine ⟨⟨_, _, _, hcs⟩, fun a' c' e => .inr ?_⟩
      rw [hcs] at e
      injection e with _ e _
      subst e
      exact ⟨_, _, hcs⟩
  have hs5 : ∃ a len cap, x5 = .slice a len cap := by
    rcases DataW.trod_slice Tryz.underlying22 f5 with ⟨hcs, _⟩ | ⟨a, len', cap', elems, rest, n, _, hcs, _⟩
    · simp at hcs; exact ⟨_, _, _, hcs⟩
    · simp at hcs; exact ⟨_, _, _, hcs⟩
  obtain ⟨⟨a4, l4, cap4, rfl⟩, hn4⟩ := hs4
  obtain ⟨a5, l5, cap5, rfl⟩ := hs5
  obtain ⟨l, hl4, hd1⟩ := opened_i (enc := enc) (W := W) (v := .slice a4 l4 cap4) (d := z4.1) (p := z4.2) ⟨_, _, _, rfl⟩ ⟨n, by simpa [Value.cells] using f4⟩
  obtain ⟨t, ht, hb⟩ := open_fieldsT (enc := enc) (W := W) (v := .slice a5 l5 cap5) (d := z5.1) (ps := z5.2) ⟨_, _, _, rfl⟩ ⟨n, by simpa [Value.cells] using f5⟩
  subst r0 r1 r2 r3
  simp at e0 e1 e2 e3
  subst e0 e1 e2 e3
  have hd : d = .agg [.lit (.string A.data.toList), .lit (.bool b1), .lit (.bool b2), .lit (.bool b3), z4.1, z5.1] := by
    simp at hx
    exact hx.1
  have hnl : NilI (.slice a4 l4 cap4) l := fun e => by
    subst e
    obtain ⟨a, c, e, _⟩ := hl4
    exact hn4 a c e
  have hb1 : l.length ≤ Rows.uptoBulk z4.1 := by
    rcases hd1 with ⟨e, rfl⟩ | ⟨es, sp, e, e2⟩
    · simp
    · have := bulk_len es
      rw [e]
      simp only [Rows.uptoBulk]
      omega
  refine ⟨A, b1, b2, b3, _, _, l, t, rfl, ⟨⟨hl4, hnl⟩, ht⟩, ?_⟩
  rw [hd]
  simp only [Rows.uptoBulk, Rows.uptoBulkAll]
  have h1 := size_list A
  omega
end Ms
end Go.Proofs.YtcelekfokbdmfaaGreatDoor
set_option linter.unusedVariables false
namespace Go.Proofs.YtcelekfokbdmfaaGreatDoor
namespace Oc
theorem witness_zip {H : Type} {enc : TypeId × Value → H} {C : Checked} {os : Os} {f : FuncId} {fn : Func} {s : OpenSpec} {conds : List PathCond} {apart : Bool} {laid : List (String × DataW Unit)} (modest : Bool) (w0 : World) (args : Array Value) (hos : w0.os = os)
    (hsh : (w0.forCall (fun _ _ => 0) ⟨#[], args, []⟩).Shaped C.prog)
    (hok : Input.okWideB C.prog (w0.forCall (fun _ _ => 0) ⟨#[], args, []⟩) f ⟨#[], args, []⟩ = true)
    (hrow : s.preRow enc C.prog fn conds apart laid (w0.forCall (fun _ _ => 0) ⟨#[], args, []⟩).memory args) :
    ∃ (w : World) (tape : Tape) (i : Input), w.os = os ∧ (w.forCall tape i).Shaped C.prog ∧ i.vars = [] ∧ Input.okWide C.prog (w.forCall tape i) .any w.heap.size f i ∧
      s.preRow enc C.prog fn conds apart laid (w.forCall tape i).memory i.args ∧ ({ modest := modest } : Assume).holds C.prog (lone (Frame.enter C.prog f i.args .normal) [] (w.forCall tape i)) :=
  ⟨w0, fun _ _ => 0, ⟨#[], args, []⟩, hos, hsh, (Input.okWide_of_okWideB (base := 0) hok).1, (Input.okWide_of_okWideB hok).2, hrow, by
    simp only [Assume.holds]
    exact ⟨by simp, by simp, fun _ => Modest.zero, by simp, by simp⟩⟩
end Oc
end Go.Proofs.YtcelekfokbdmfaaGreatDoor
