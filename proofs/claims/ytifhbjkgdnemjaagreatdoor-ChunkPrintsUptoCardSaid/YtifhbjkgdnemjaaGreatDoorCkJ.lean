/-
  chunk: what is done with the next bytes; Feed.
-/
import Derived.Test.YtifhbjkgdnemjaaGreatDoorCkI
import Derived.Test.YtifhbjkgdnemjaaGreatDoorCkH
import Derived.Test.YtifhbjkgdnemjaaGreatDoorMgB
import Derived.Deep.RegionWith
set_option linter.unusedVariables false
set_option linter.unusedSimpArgs false
set_option maxRecDepth 100000
namespace Go.Proofs.YtifhbjkgdnemjaaGreatDoor
open Go.RowKit Go.Shelf Go.Lib
namespace Ck
open Oc Tg _root_.Go.Proofs.YtifhbjkgdnemjaaGreatDoor.Fd

/-- What one call of 'next' does. -/
def Took (s : DS) (k : Nat) (t : ByteArray) (w0 : World) (D : Nat) (bs : List Nat) (w : World) (ex : Ending) (w' : World) : Prop :=
  ∃ (n : Nat) (s' : DS) (bs' : List Nat), ex = .returned (.int .i64 n) ∧ 0 < n ∧ n ≤ t.size ∧ eat s t.data.toList = (n + (eat s' (t.data.toList.drop n)).1, (eat s' (t.data.toList.drop n)).2) ∧ Ok s' (k + n) ∧ Dec w' D s' bs' ∧ Goes bs w bs' w'

theorem list_first (t : ByteArray) (ht : 0 < t.size) : t.data.toList = t.data.toList.getD 0 0 :: t.data.toList.drop 1 := by
  cases h : t.data.toList with
  | nil => have := size_list t; rw [h] at this; simp at this; omega
  | cons c l => rfl
theorem took_one {s s' : DS} {k : Nat} {t : ByteArray} {w0 w w' : World} {D : Nat} {bs bs' : List Nat} (h : Ok s k) (hm : s.mode ≠ 5) (ht : 0 < t.size) (he : bstep s (t.data.toList.getD 0 0) = s') (hd : Dec w' D s' bs') (hg : Goes bs w bs' w') : Took s k t w0 D bs w (.returned (.int .i64 1)) w' := by
  refine ⟨1, s', bs', rfl, by decide, ht, ?_, ?_, hd, hg⟩
  · conv => lhs; rw [list_first t ht]
    rw [eat_cons hm, he, Nat.add_comm]
  · rw [← he]; exact bstep_ok h hm _
theorem byt_first (t : ByteArray) : byt t 0 = ((t.data.toList.getD 0 0).toNat : Int) := rfl

section
variable {w0 w : World} {D k : Nat} {s : DS} {bs : List Nat}

theorem next0 (HB : Base w0 w bs) (H : Dec w D s bs) (hk : Ok s k) (hm : s.mode = 0) (t : ByteArray) (ht : 0 < t.size) (hb : k + t.size ≤ 2147483647) :
    Calls Tryz.prog 39 #[.pointer (some ⟨D, 0, none⟩), .string t] w (Took s k t w0 D bs w) := by
  have hl := hk.len
  refine (inSize_any HB H (by omega) hk.most.1 hk.most.2 t ht _ (byt_first t)).mono ?_
  rintro e w' ⟨rfl, bs', hd, hg⟩
  exact took_one hk (by omega) ht (by unfold bstep; rw [hm]; rfl) hd hg
theorem next1 (HB : Base w0 w bs) (H : Dec w D s bs) (hk : Ok s k) (hm : s.mode = 1) (t : ByteArray) (ht : 0 < t.size) (hb : k + t.size ≤ 2147483647) :
    Calls Tryz.prog 73 #[.pointer (some ⟨D, 0, none⟩), .string t] w (Took s k t w0 D bs w) := by
  have hl := hk.len
  have hp := hk.pos hm
  have hle := hk.left
  obtain ⟨n, hn⟩ : ∃ n : Nat, min (t.size : Int) s.left = (n : Int) := ⟨(min (t.size : Int) s.left).toNat, by omega⟩
  have hxl : (t.data.toList.take n).length = n := by rw [List.length_take, size_list]; omega
  refine (inChunk_any H t n (by omega) (by omega) hn (by omega) (by omega) hle.2 (by omega) hm).mono ?_
  rintro e w' ⟨rfl, bs', hd, hg⟩
  refine ⟨n, _, bs', rfl, by omega, by omega, ?_, ?_, hd, hg⟩
  · conv => lhs; rw [← List.take_append_drop n t.data.toList]
    rw [eat_chunk _ _ s k hk hm (fun e => by rw [e] at hxl; simp at hxl; omega) (by rw [hxl]; omega), hxl]
  · have := inChunk_ok hk hm (t.data.toList.take n) (by rw [hxl]; omega)
    rw [hxl] at this
    exact this
theorem next2 (HB : Base w0 w bs) (H : Dec w D s bs) (hk : Ok s k) (hm : s.mode = 2) (t : ByteArray) (ht : 0 < t.size) (hb : k + t.size ≤ 2147483647) :
    Calls Tryz.prog 92 #[.pointer (some ⟨D, 0, none⟩), .string t] w (Took s k t w0 D bs w) := by
  refine (behindChunk_any H t ht _ (byt_first t)).mono ?_
  rintro e w' ⟨rfl, bs', hd, hg⟩
  exact took_one hk (by omega) ht (by unfold bstep; rw [hm]; rfl) hd hg
theorem next3 (HB : Base w0 w bs) (H : Dec w D s bs) (hk : Ok s k) (hm : s.mode = 3) (t : ByteArray) (ht : 0 < t.size) (hb : k + t.size ≤ 2147483647) :
    Calls Tryz.prog 107 #[.pointer (some ⟨D, 0, none⟩), .string t] w (Took s k t w0 D bs w) := by
  refine (behindReturn_any H t ht _ (byt_first t)).mono ?_
  rintro e w' ⟨rfl, bs', hd, hg⟩
  exact took_one hk (by omega) ht (by unfold bstep; rw [hm]; rfl) hd hg
theorem next4 (HB : Base w0 w bs) (H : Dec w D s bs) (hk : Ok s k) (hm : s.mode = 4) (t : ByteArray) (ht : 0 < t.size) (hb : k + t.size ≤ 2147483647) :
    Calls Tryz.prog 72 #[.pointer (some ⟨D, 0, none⟩), .string t] w (Took s k t w0 D bs w) := by
  have hl := hk.len
  refine (inTrailers_any HB H (by omega) hk.room.1 hk.room.2 hk.fields.1 hk.fields.2 (by omega) t ht _ (byt_first t)).mono ?_
  rintro e w' ⟨rfl, bs', hd, hg⟩
  exact took_one hk (by omega) ht (by unfold bstep; rw [hm]; rfl) hd hg
end

/-- What Feed answers, and what comes of it. -/
def feedS (s : DS) (l : List UInt8) : DS := if s.mode = 5 then s else { (eat s l).2 with total := (eat s l).2.total + (eat s l).1 }
def feedN (s : DS) (l : List UInt8) : Int := if s.mode = 5 then 0 else (eat s l).1
def feedE (s : DS) (l : List UInt8) : Int := if s.mode = 5 then 103 else (eat s l).2.err

theorem neq_fn (k : Nat) (W : World) : (binOp .neq 85 (.func (.func k) #[] #[]) .nilFunc).run Tryz.prog W = .ok (.bool true) W := by kernel_rfl
theorem neq_nil (W : World) : (binOp .neq 85 .nilFunc .nilFunc).run Tryz.prog W = .ok (.bool false) W := by kernel_rfl
theorem eql_fn (k : Nat) (W : World) : (binOp .eql 85 (.func (.func k) #[] #[]) .nilFunc).run Tryz.prog W = .ok (.bool false) W := by kernel_rfl
theorem eql_nil (W : World) : (binOp .eql 85 .nilFunc .nilFunc).run Tryz.prog W = .ok (.bool true) W := by kernel_rfl

end Ck
end Go.Proofs.YtifhbjkgdnemjaaGreatDoor
