/-
  Small letters; tokens and fields; texts that are the same.
-/
import Derived.Test.YtpoefoepmigbeaaDoorStrs
import Derived.Laws.IdiomStrings
import Derived.Deep.QuietTactic
import Derived.BigQuiet
set_option linter.unusedVariables false
set_option linter.unusedSimpArgs false
namespace Go.Proofs.YtpoefoepmigbeaaDoor
open Go.RowKit
namespace Oc

theorem ret_string {a b : ByteArray} (h : a = b) : Ending.returned (.string a) = .returned (.string b) := by rw [h]

/-- A row of bytes in a block: its first n cells hold f, and may be written. -/
structure Row (w : World) (b n : Nat) (f : Nat → Int) : Prop where
  cell : ∀ j, j < n → w.cell? ⟨b, j, none⟩ = some (.int .u8 (f j))
  free : ∀ j, j < n → w.frozen? ⟨b, j, none⟩ = false

theorem Row.set {w : World} {b n : Nat} {f : Nat → Int} (r : Row w b n f) (k : Nat) (hk : k < n) (v : Int) (g : Nat → Int) (hg : ∀ j, j < n → g j = if j = k then v else f j) : Row (w.setCell ⟨b, k, none⟩ (.int .u8 v)) b n g := by
  refine ⟨fun j hj => ?_, fun j hj => by rw [World.frozen?_setCell]; exact r.free j hj⟩
  rw [hg j hj]
  by_cases h : j = k
  · subst h
    rw [if_pos rfl]
    exact World.cell?_setCell_same w _ _ (r.cell j hj)
  · rw [if_neg h, World.cell?_setCell_other w _ _ _ (by intro e; injection e with _ e2; omega)]
    exact r.cell j hj

theorem Row.drewN {w : World} {b n : Nat} {f : Nat → Int} (r : Row w b n f) (q : Nat) : Row (w.drewN q) b n f :=
  ⟨fun j hj => by rw [World.cell?_drewN]; exact r.cell j hj, fun j hj => by rw [World.frozen?_drewN]; exact r.free j hj⟩

theorem bytes_row (w : World) (e : TypeId) (s : ByteArray) : Row (Lib.bytesWorld w e s) w.heap.size s.size (byt s) := by
  refine ⟨fun j hj => bytes_cell w e s j hj, fun j hj => ?_⟩
  unfold World.frozen?
  rw [show (Lib.bytesWorld w e s).heap[w.heap.size]? = _ from Lib.bytesWorld_at_new w e s]
  have hl : s.size ≤ (Lib.bytesCells w e s).size := by simp [Lib.bytesCells]
  simp
  omega

/-- The text whose bytes are these. -/
def str (l : List UInt8) : ByteArray := ⟨l.toArray⟩
theorem str_list (l : List UInt8) : (str l).data.toList = l := by simp [str]
theorem str_size (l : List UInt8) : (str l).size = l.length := by simp [str, ByteArray.size]
theorem str_self (s : ByteArray) : str s.data.toList = s := by simp [str]
theorem str_inj {a b : List UInt8} (h : str a = str b) : a = b := by rw [← str_list a, h, str_list]
theorem size_list (s : ByteArray) : s.data.toList.length = s.size := by simp
theorem eq_list {a b : ByteArray} (h : a.data.toList = b.data.toList) : a = b := by rw [← str_self a, h, str_self]

theorem eq_toList (a b : ByteArray) : (a.toList == b.toList) = decide (a = b) := by
  rw [ByteArray.toList_eq, ByteArray.toList_eq, Bool.eq_iff_iff, beq_iff_eq, decide_eq_true_iff]
  exact ⟨eq_list, fun h => by rw [h]⟩
theorem ne_toList (a b : ByteArray) : (a.toList != b.toList) = !decide (a = b) := by
  rw [bne, eq_toList]

/-- 'string(b)' where b's cells are known. -/
theorem back (w : World) (b n cap : Nat) (f : Nat → Int) (l : List UInt8) (r : Row w b n f) (hn : l.length = n) (hl : ∀ j, j < n → f j = ((l.getD j 0).toNat : Int)) :
    (convert 48 9 (.slice (some ⟨b, 0, none⟩) n cap)).run Tryd.prog w = .ok (.string (str l)) w := by
  subst hn
  refine run_convert_bytes_back w 48 9 5 ⟨b, 0, none⟩ cap l Tryd.underlying48 Tryd.underlying5 Tryd.underlying9 (fun j hj => ?_)
  have h1 := r.cell j hj
  rw [hl j hj, List.getD_eq_getElem?_getD, List.getElem?_eq_getElem hj] at h1
  have ea : Addr.add ⟨b, 0, none⟩ j = ⟨b, j, none⟩ := by unfold Addr.add; split <;> simp_all
  rw [ea]
  exact h1

def lowS (s : ByteArray) : ByteArray := str (lower s.data.toList)
theorem lowS_size (s : ByteArray) : (lowS s).size = s.size := by unfold lowS; rw [str_size]; simp [lower]
theorem lower_getD (l : List UInt8) (j : Nat) (h : j < l.length) : (((lower l).getD j 0).toNat : Int) = lowI ((l.getD j 0).toNat : Int) := by
  unfold lower
  rw [List.getD_eq_getElem?_getD, List.getElem?_map, List.getElem?_eq_getElem h, List.getD_eq_getElem?_getD, List.getElem?_eq_getElem h]
  exact lowB_int _

end Oc
end Go.Proofs.YtpoefoepmigbeaaDoor
