/-
  The document's Path; TargetPaths: the walk.
-/
import Derived.Test.YtpnijigjlhfklaaGreatDoorGPt
import Derived.Test.YtpnijigjlhfklaaGreatDoorGRe
import Derived.Test.YtpnijigjlhfklaaGreatDoorGRs
import Derived.Test.YtpnijigjlhfklaaGreatDoorGAw
set_option linter.unusedVariables false
set_option linter.unusedSimpArgs false
namespace Go.Proofs.YtpnijigjlhfklaaGreatDoor
open Go.RowKit Go.Shelf
namespace Tg
open Oc

/-- One step of a region that draws: a text appended. -/
theorem step_apS {ops : Array Oper} {o : Oper} {a : Act} {K : Act → World → Prop} {Q : Exit → Act → World → Prop} {E : Prop} (hgd : o.guard = none) (s x : Operand)
    (ho : o.op = .call { callee := .builtin .append, args := #[s, x], argTypes := #[67, 9] }) (B : Nat) (v : Value) (l : List UInt8) (t : ByteArray) (W : World)
    (hs : a.eval s = v) (hown : Ow B v l W) (hx : a.eval x = .string t) (hlen : l.length + t.size ≤ 140737488355328) (hB : B ≤ W.heap.size)
    (h : ∀ v' w', Hid (Ow B v' (l ++ t.data.toList) w') → Hid (Below B W w') → K (a.put o.dst v') w') : if Region.wanted o (yielded ops a.tmps) = true then Oper.wp Tryz.prog o a W K Q else E := by
  obtain ⟨i0, hi, hz0, hz1, hz2⟩ := inf5
  have hw : Region.wanted o (yielded ops a.tmps) = true := by simp [Region.wanted, hgd]
  rw [if_pos hw]
  obtain ⟨v', w', hrun, h1, h2, _⟩ := Lib.run_append_own_string (P := Tryz.prog) (w := W) B 67 9 o.type 5 i0 Tryz.underlying67 Tryz.underlying9 hi hz0 hz1 hz2 v l.length (Lib.byteCells l) hown t (by unfold maxLen; omega) (by omega) hB
  have := h v' w' (by
    show Ow B v' (l ++ t.data.toList) w'
    unfold Ow
    rw [List.length_append, cells_app]
    rw [show Lib.strCells t = Lib.byteCells t.data.toList by rw [← cells_str, str_self]] at h1
    have e : t.data.toList.length = t.size := size_list t
    rw [e]
    exact h1) ((Below.refl B W).grown h2 hB (fun k hk => (World.ownsRow.lt hown k hk).1))
  unfold Oper.wp
  simp [execOp, ho, resolve, invoke, builtin, hs, hx, hrun, Result.andThen]
  exact this

/-- The segments of a path of segments. -/
theorem segR_path (t : List (List UInt8)) (h : t ≠ []) : segR (pathR t) = (t, 0) := by
  unfold pathR
  rw [if_neg h]
  have hno : ∀ z ∈ t.map enc, 47 ∉ z := by
    intro z hz hm
    obtain ⟨u, _, rfl⟩ := List.mem_map.1 hz
    rcases enc_mem u 47 hm with e | e
    · exact absurd e (by decide)
    · rw [unr47] at e; cases e
  have hok : ∀ z ∈ t.map enc, allOk pathOk z = true := by
    intro z hz
    obtain ⟨u, _, rfl⟩ := List.mem_map.1 hz
    exact enc_ok pathOk (fun c hc => unr_path hc) u
  unfold segR
  rw [if_pos (isPath_join _ (by simpa using h) hok), splitB_join _ (by simpa using h) hno, List.map_map]
  congr 1
  conv => rhs; rw [← List.map_id t]
  refine List.map_congr_left fun z _ => ?_
  show (decR (enc z)).1 = id z
  rw [dec_enc]; rfl
theorem segR_slash : segR [47] = ([[]], 0) := by
  have o47 : allOk pathOk [47] = true := by unfold allOk; rw [zs_one 47 [] rfl, zs_nil]; decide +kernel
  have hp : isPath [47] = true := by unfold isPath; rw [o47]; rfl
  unfold segR
  rw [if_pos hp]
  have e : segs [47] = [[]] := rfl
  rw [e, List.map_cons, List.map_nil]
  have hw : whole [] = true := by unfold whole; rw [zs_nil]; rfl
  rw [decR_whole [] hw, zs_nil]
  rfl
theorem pathR_len (t : List (List UInt8)) : (pathR t).length ≤ 1 + t.length + 3 * sumT t := by
  unfold pathR
  split
  · simp; omega
  · have := joinE_len t; omega

end Tg
end Go.Proofs.YtpnijigjlhfklaaGreatDoor
