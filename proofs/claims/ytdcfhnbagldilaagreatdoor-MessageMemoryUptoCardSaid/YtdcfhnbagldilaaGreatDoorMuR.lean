import Derived.Test.YtdcfhnbagldilaaGreatDoorMgB1
import Derived.Test.YtdcfhnbagldilaaGreatDoorMuQ
set_option linter.unusedVariables false
set_option linter.unusedSimpArgs false
set_option maxRecDepth 100000
namespace Go.Proofs.YtdcfhnbagldilaaGreatDoor
open Go.RowKit Go.Shelf
namespace Ms
open Oc Tg _root_.Go.Proofs.YtdcfhnbagldilaaGreatDoor.Fd _root_.Go.Proofs.YtdcfhnbagldilaaGreatDoor.Ck
def ansD (R : Option (Hd × List UInt8 × List Fl) × Int × Int) (vf vt : Value) : List Value := match R.1 with
  | none => zeroC
  | some x => repD x.1 x.2.1 vf vt
def RpO (FT : Nat) (R : Option (Hd × List UInt8 × List Fl) × Int × Int) (vf vt : Value) (n : Nat) (w : World) : Prop := ∀ x, R.1 = some x → OwnF FT n vf x.1.fs w ∧ OwnF FT n vt x.2.2 w
theorem parW_out (W : BR × List Fl) (z : Nat) (vf vt : Value) : parW W.1 z vf vt = (ansD (outW z W) vf vt, (outW z W).2.1, (outW z W).2.2) := by
  unfold parW outW
  by_cases h : W.1.err ≠ 0
  · rw [if_pos h, if_pos h]; rfl
  · rw [if_neg h, if_neg h]
    by_cases h2 : W.1.done = false
    · rw [if_pos h2, if_pos h2]; rfl
    · rw [if_neg h2, if_neg h2]; rfl
theorem outH_some {z : Nat} {R : HS × Int} {h : Hd} (e : (outH z R).1 = some h) : h.fs = R.1.fs := by
  unfold outH at e
  split at e
  · cases e
  split at e
  · cases e
  · injection e with e
    rw [← e]
theorem outW_some {z : Nat} {W : BR × List Fl} {x : Hd × List UInt8 × List Fl} (e : (outW z W).1 = some x) : x.1.fs = W.1.s.fs ∧ x.2.2 = W.2 := by
  unfold outW at e
  split at e
  · cases e
  split at e
  · cases e
  · injection e with e
    rw [← e]
    exact ⟨rfl, rfl⟩
theorem Parse_doc (me p : ByteArray) (m : Nat) (en : Bool) (hm : m ≤ 9223372036854775807) (hp : p.size ≤ 2147483647) (w : World) (hw : Env w) :
    Calls Tryz.prog 9 #[.string me, .string p, .int .i64 (m : Int), .bool en] w fun e w' => ∃ vf vt, e = .returned (.tuple #[.agg (ansD (docP me.data.toList p m en) vf vt).toArray, .int .i64 (docP me.data.toList p m en).2.1, .int .i64 (docP me.data.toList p m en).2.2]) ∧ RpO 47 (docP me.data.toList p m en) vf vt w.heap.size w' ∧ Below w.heap.size w w' := by
  have hout := out_parse me.data.toList p m en (by omega) (fun h => by
    obtain ⟨n, h1, _⟩ := hRun_len p.data.toList (newH p.data.toList en) (newH_ok p.data.toList en).2.1 h
    exact ⟨n, h1⟩)
  refine (Parse_any me p m en hm hp w hw).mono ?_
  rintro e w' ⟨vf, vt, rfl, ho, ht, hb⟩
  rw [parW_out, hout]
  refine ⟨vf, vt, rfl, fun x hx => ?_, hb⟩
  rw [← hout] at hx
  obtain ⟨e1, e2⟩ := outW_some hx
  rw [e1, e2]
  exact ⟨ho, ht⟩
set_option maxHeartbeats 2000000 in
theorem Parse_neg (me p : ByteArray) (m : Int) (en : Bool) (hm : m < 0) (w : World) :
    Calls Tryz.prog 9 #[.string me, .string p, .int .i64 m, .bool en] w fun e w' => e = .returned (.tuple #[.agg zeroC.toArray, .int .i64 0, .int .i64 1]) ∧ Below w.heap.size w w' := by
  obtain ⟨wR, hwR⟩ : ∃ wR, wR = w.alloc (.cells #[.int .i64 0, .string ⟨#[]⟩, .slice none 0 0, .string ⟨#[]⟩, .int .i64 0, .slice none 0 0, .int .i64 0, .int .i64 0, .bool false] 31) := ⟨_, rfl⟩
  have HB0 : Hid (Below w.heap.size w wR) := (by rw [hwR]; exact (Below.refl _ w).alloc (Nat.le_refl _) _ : Below _ _ _)
  have HR0 : Hid (Blk 31 wR w.heap.size zeroC) := (by rw [hwR]; exact heap_alloc_new w _ : Blk _ _ _ _)
  have HWR : Hid (wR = _) := hwR
  clear hwR
  have r0 := HR0.out.cell 0 rfl
  have r1 := HR0.out.cell 1 rfl
  have r2 := HR0.out.cell 2 rfl
  have r3 := HR0.out.cell 3 rfl
  have r4 := HR0.out.cell 4 rfl
  have r5 := HR0.out.cell 5 rfl
  have r6 := HR0.out.cell 6 rfl
  have r7 := HR0.out.cell 7 rfl
  have r8 := HR0.out.cell 8 rfl
  go_enter Tryz.func9, Tryz.ntmps9
  go_wp2_with fail
  rw [← HWR.out]
  refine bodyPost_ret (v := .tuple #[.agg #[.int .i64 0, .string ⟨#[]⟩, .slice none 0 0, .string ⟨#[]⟩, .int .i64 0, .slice none 0 0, .int .i64 0, .int .i64 0, .bool false], .int .i64 0, .int .i64 1]) (by simp [results, Tryz.results9, go_sem, r0, r1, r2, r3, r4, r5, r6, r7, r8]) rfl ?_
  exact ⟨rfl, HB0.out⟩
end Ms
end Go.Proofs.YtdcfhnbagldilaaGreatDoor
