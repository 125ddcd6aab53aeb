/- Several texts as one. -/
import Derived.Test.YthdfgepnadgkjaaGreatDoorZzA
import Derived.Test.YthdfgepnadgkjaaGreatDoorRows
import Derived.WalkKit
import Derived.WalkSpells
import Derived.WalkLawsBesides
import Derived.Lib.ConvBytes
import Derived.Laws.IdiomStrings
import Derived.Deep.QuietTactic
import Derived.BigQuiet
/-
  Contracts of octet's small functions on bytes, and of the document's.
-/
set_option linter.unusedVariables false
set_option linter.unusedSimpArgs false
namespace Go.Proofs.YthdfgepnadgkjaaGreatDoor
open Go.RowKit
namespace Oc

theorem ret_int {k : IntKind} {a b : Int} (h : a = b) : Ending.returned (.int k a) = .returned (.int k b) := by rw [h]
theorem ret_bool {a b : Bool} (h : a = b) : Ending.returned (.bool a) = .returned (.bool b) := by rw [h]

set_option maxHeartbeats 400000 in
theorem lowerByte_any (c : Int) (h0 : 0 ≤ c) (h1 : c ≤ 255) (w : World) :
    Calls Tryz.prog 61 #[.int .u8 c] w fun e w' => e = .returned (.int .u8 (lowI c)) ∧ w' = w := by
  by_cases a : 65 ≤ c
  · by_cases b : c ≤ 90
    · go_enter Tryz.func61, Tryz.ntmps61
      go_wp2
      go_ret
      exact ⟨ret_int (by rw [lowI_up a b]; omega), rfl⟩
    · go_enter Tryz.func61, Tryz.ntmps61
      go_wp2
      go_ret
      exact ⟨ret_int (by rw [lowI_not (by omega)]), rfl⟩
  · go_enter Tryz.func61, Tryz.ntmps61
    go_wp2
    go_ret
    exact ⟨ret_int (by rw [lowI_not (by omega)]), rfl⟩

set_option maxHeartbeats 400000 in
theorem isFieldByte_any (c : Int) (h0 : 0 ≤ c) (h1 : c ≤ 255) (w : World) :
    Calls Tryz.prog 53 #[.int .u8 c] w fun e w' => e = .returned (.bool (fieldI c)) ∧ w' = w := by
  by_cases a : c = 9
  · subst a
    go_enter Tryz.func53, Tryz.ntmps53
    go_wp2
    go_ret
    exact ⟨ret_bool (by decide), rfl⟩
  · have a' : (c == 9) = false := by simp [a]
    by_cases b : 32 ≤ c
    · by_cases d : c = 127
      · subst d
        go_enter Tryz.func53, Tryz.ntmps53
        go_wp2
        go_ret
        exact ⟨ret_bool (by decide), rfl⟩
      · have d' : (c != 127) = true := by simp [d]
        go_enter Tryz.func53, Tryz.ntmps53
        go_wp2
        go_ret
        exact ⟨ret_bool (by unfold fieldI; simp; omega), rfl⟩
    · go_enter Tryz.func53, Tryz.ntmps53
      go_wp2
      go_ret
      exact ⟨ret_bool (by unfold fieldI; simp; omega), rfl⟩

set_option maxHeartbeats 400000 in
theorem IsDigit_any (c : Int) (h0 : 0 ≤ c) (h1 : c ≤ 255) (w : World) :
    Calls Tryz.prog 105 #[.int .u8 c] w fun e w' => e = .returned (.bool (digI c)) ∧ w' = w := by
  rcases (show c < 48 ∨ (48 ≤ c ∧ c ≤ 57) ∨ 57 < c by omega) with h | ⟨h, h'⟩ | h
  · go_enter Tryz.func105, Tryz.ntmps105
    go_wp2
    go_ret
    exact ⟨ret_bool (digI_f (by omega)).symm, rfl⟩
  · go_enter Tryz.func105, Tryz.ntmps105
    go_wp2
    go_ret
    exact ⟨ret_bool (digI_t (by omega)).symm, rfl⟩
  · have g57 : decide (c ≤ 57) = false := by simp; omega
    go_enter Tryz.func105, Tryz.ntmps105
    go_wp2
    go_ret
    exact ⟨ret_bool (digI_f (by omega)).symm, rfl⟩

set_option maxHeartbeats 400000 in
theorem IsHex_any (c : Int) (h0 : 0 ≤ c) (h1 : c ≤ 255) (w : World) :
    Calls Tryz.prog 106 #[.int .u8 c] w fun e w' => e = .returned (.bool (hexI c)) ∧ w' = w := by
  rcases (show c < 48 ∨ (48 ≤ c ∧ c ≤ 57) ∨ (57 < c ∧ c < 65) ∨ (65 ≤ c ∧ c ≤ 70) ∨ (70 < c ∧ c < 97) ∨ (97 ≤ c ∧ c ≤ 102) ∨ 102 < c by omega) with h | ⟨h, h'⟩ | ⟨h, h'⟩ | ⟨h, h'⟩ | ⟨h, h'⟩ | ⟨h, h'⟩ | h
  · go_enter Tryz.func106, Tryz.ntmps106
    go_wp2
    go_ret
    exact ⟨ret_bool (hexI_f (by omega)).symm, rfl⟩
  · go_enter Tryz.func106, Tryz.ntmps106
    go_wp2
    go_ret
    exact ⟨ret_bool (hexI_t (by omega)).symm, rfl⟩
  · have g57 : decide (c ≤ 57) = false := by simp; omega
    go_enter Tryz.func106, Tryz.ntmps106
    go_wp2
    go_ret
    exact ⟨ret_bool (hexI_f (by omega)).symm, rfl⟩
  · have g57 : decide (c ≤ 57) = false := by simp; omega
    go_enter Tryz.func106, Tryz.ntmps106
    go_wp2
    go_ret
    exact ⟨ret_bool (hexI_t (by omega)).symm, rfl⟩
  · have g57 : decide (c ≤ 57) = false := by simp; omega
    have g70 : decide (c ≤ 70) = false := by simp; omega
    go_enter Tryz.func106, Tryz.ntmps106
    go_wp2
    go_ret
    exact ⟨ret_bool (hexI_f (by omega)).symm, rfl⟩
  · have g57 : decide (c ≤ 57) = false := by simp; omega
    have g70 : decide (c ≤ 70) = false := by simp; omega
    go_enter Tryz.func106, Tryz.ntmps106
    go_wp2
    go_ret
    exact ⟨ret_bool (hexI_t (by omega)).symm, rfl⟩
  · have g57 : decide (c ≤ 57) = false := by simp; omega
    have g70 : decide (c ≤ 70) = false := by simp; omega
    have g102 : decide (c ≤ 102) = false := by simp; omega
    go_enter Tryz.func106, Tryz.ntmps106
    go_wp2
    go_ret
    exact ⟨ret_bool (hexI_f (by omega)).symm, rfl⟩

set_option maxHeartbeats 400000 in
theorem digitValue_any (c : Int) (h0 : 0 ≤ c) (h1 : c ≤ 255) (w : World) :
    Calls Tryz.prog 104 #[.int .u8 c] w fun e w' => e = .returned (.int .i64 (valI c)) ∧ w' = w := by
  rcases (show c < 48 ∨ (48 ≤ c ∧ c ≤ 57) ∨ (57 < c ∧ c < 65) ∨ (65 ≤ c ∧ c ≤ 70) ∨ (70 < c ∧ c < 97) ∨ (97 ≤ c ∧ c ≤ 102) ∨ 102 < c by omega) with h | ⟨h, h'⟩ | ⟨h, h'⟩ | ⟨h, h'⟩ | ⟨h, h'⟩ | ⟨h, h'⟩ | h
  · go_enter Tryz.func104, Tryz.ntmps104
    go_wp2
    go_ret
    exact ⟨ret_int (valI_n (hexI_f (by omega))).symm, rfl⟩
  · go_enter Tryz.func104, Tryz.ntmps104
    go_wp2
    go_ret
    exact ⟨ret_int (by rw [valI_d (by omega)]), rfl⟩
  · have g57 : decide (c ≤ 57) = false := by simp; omega
    go_enter Tryz.func104, Tryz.ntmps104
    go_wp2
    go_ret
    exact ⟨ret_int (valI_n (hexI_f (by omega))).symm, rfl⟩
  · have g57 : decide (c ≤ 57) = false := by simp; omega
    go_enter Tryz.func104, Tryz.ntmps104
    go_wp2
    go_ret
    exact ⟨ret_int (by rw [valI_b (by omega)]; omega), rfl⟩
  · have g57 : decide (c ≤ 57) = false := by simp; omega
    have g70 : decide (c ≤ 70) = false := by simp; omega
    go_enter Tryz.func104, Tryz.ntmps104
    go_wp2
    go_ret
    exact ⟨ret_int (valI_n (hexI_f (by omega))).symm, rfl⟩
  · have g57 : decide (c ≤ 57) = false := by simp; omega
    go_enter Tryz.func104, Tryz.ntmps104
    go_wp2
    go_ret
    exact ⟨ret_int (by rw [valI_s (by omega)]; omega), rfl⟩
  · have g57 : decide (c ≤ 57) = false := by simp; omega
    have g70 : decide (c ≤ 70) = false := by simp; omega
    have g102 : decide (c ≤ 102) = false := by simp; omega
    go_enter Tryz.func104, Tryz.ntmps104
    go_wp2
    go_ret
    exact ⟨ret_int (valI_n (hexI_f (by omega))).symm, rfl⟩

set_option maxHeartbeats 400000 in
theorem value_any (c : Int) (h0 : 0 ≤ c) (h1 : c ≤ 255) (hh : hexI c = true) (w : World) :
    Calls Tryz.prog 107 #[.int .u8 c] w fun e w' => e = .returned (.int .i64 (valI c)) ∧ w' = w := by
  have hx := of_decide_eq_true hh
  clear hh
  rcases hx with ⟨h, h'⟩ | ⟨h, h'⟩ | ⟨h, h'⟩
  · go_enter Tryz.func107, Tryz.ntmps107
    go_wp2
    go_ret
    exact ⟨ret_int (by rw [valI_d (by omega)]), rfl⟩
  · go_enter Tryz.func107, Tryz.ntmps107
    go_wp2
    go_ret
    exact ⟨ret_int (by rw [valI_b (by omega)]; omega), rfl⟩
  · go_enter Tryz.func107, Tryz.ntmps107
    go_wp2
    go_ret
    exact ⟨ret_int (by rw [valI_s (by omega)]; omega), rfl⟩

set_option maxHeartbeats 400000 in
theorem IsBlank_any (c : Int) (h0 : 0 ≤ c) (h1 : c ≤ 255) (w : World) :
    Calls Tryz.prog 65 #[.int .u8 c] w fun e w' => e = .returned (.bool (blankI c)) ∧ w' = w := by
  rcases (show c = 32 ∨ c = 9 ∨ (c ≠ 32 ∧ c ≠ 9) by omega) with rfl | rfl | ⟨h, h'⟩
  · go_enter Tryz.func65, Tryz.ntmps65
    go_wp2
    go_ret
    exact ⟨ret_bool (by decide), rfl⟩
  · go_enter Tryz.func65, Tryz.ntmps65
    go_wp2
    go_ret
    exact ⟨ret_bool (by decide), rfl⟩
  · have g1 : (c == 32) = false := by simp; omega
    have g2 : (c == 9) = false := by simp; omega
    go_enter Tryz.func65, Tryz.ntmps65
    go_wp2
    go_ret
    exact ⟨ret_bool (blankI_f (by omega)).symm, rfl⟩

set_option maxHeartbeats 400000 in
theorem IsByte_any (c : Int) (h0 : 0 ≤ c) (h1 : c ≤ 255) (w : World) :
    Calls Tryz.prog 66 #[.int .u8 c] w fun e w' => e = .returned (.bool (fieldI c)) ∧ w' = w := by
  rcases (show c = 9 ∨ c = 127 ∨ (c ≠ 9 ∧ c < 32) ∨ (32 ≤ c ∧ c ≠ 127) by omega) with rfl | rfl | ⟨h, h'⟩ | ⟨h, h'⟩
  · go_enter Tryz.func66, Tryz.ntmps66
    go_wp2
    go_ret
    exact ⟨ret_bool (by decide), rfl⟩
  · go_enter Tryz.func66, Tryz.ntmps66
    go_wp2
    go_ret
    exact ⟨ret_bool (by decide), rfl⟩
  · have g1 : (c == 9) = false := by simp; omega
    go_enter Tryz.func66, Tryz.ntmps66
    go_wp2
    go_ret
    exact ⟨ret_bool (fieldI_f (by omega)).symm, rfl⟩
  · have g1 : (c == 9) = false := by simp; omega
    have g2 : (c != 127) = true := by simp; omega
    go_enter Tryz.func66, Tryz.ntmps66
    go_wp2
    go_ret
    exact ⟨ret_bool (fieldI_t (by omega)).symm, rfl⟩

end Oc
end Go.Proofs.YthdfgepnadgkjaaGreatDoor

/-
  Lists of bytes, and the world behind a conversion of a string.
-/
set_option linter.unusedVariables false
set_option linter.unusedSimpArgs false
namespace Go.Proofs.YthdfgepnadgkjaaGreatDoor
open Go.RowKit
namespace Oc

/-- The byte at a place, as a number. -/
def byt (s : ByteArray) (j : Nat) : Int := ((s.data.toList.getD j 0).toNat : Int)
theorem byt_bd (s : ByteArray) (j : Nat) : 0 ≤ byt s j ∧ byt s j ≤ 255 := by
  unfold byt
  have := (s.data.toList.getD j 0).toNat_lt
  omega
theorem byt_at (s : ByteArray) (j : Nat) (h : j < s.size) : (s[j].toNat : Int) = byt s j := by unfold byt; rw [at_lt s j h]

theorem tw_stop {α : Type} (p : α → Bool) (d : α) : ∀ (l : List α) (k : Nat), k < l.length → (∀ j, j < k → p (l.getD j d) = true) → p (l.getD k d) = false → (l.takeWhile p).length = k
  | [], k, h, _, _ => by simp at h
  | a :: l, 0, _, _, hs => by simp at hs; simp [List.takeWhile_cons, hs]
  | a :: l, k + 1, h, ha, hs => by
    have h0 := ha 0 (by omega)
    simp at h0
    rw [List.takeWhile_cons, h0]
    simp only [if_true, List.length_cons, Nat.add_right_cancel_iff]
    exact tw_stop p d l k (by simpa using h) (fun j hj => by simpa using ha (j + 1) (by omega)) (by simpa using hs)

theorem tw_all {α : Type} (p : α → Bool) (d : α) : ∀ (l : List α), (∀ j, j < l.length → p (l.getD j d) = true) → (l.takeWhile p).length = l.length
  | [], _ => rfl
  | a :: l, ha => by
    have h0 := ha 0 (by simp)
    simp at h0
    rw [List.takeWhile_cons, h0]
    simp only [if_true, List.length_cons, Nat.add_right_cancel_iff]
    exact tw_all p d l (fun j hj => by simpa using ha (j + 1) (by simpa using hj))

theorem all_of {α : Type} (p : α → Bool) (d : α) (l : List α) (h : ∀ j, j < l.length → p (l.getD j d) = true) : l.all p = true := by
  rw [List.all_eq_true]
  intro x hx
  obtain ⟨k, hk, rfl⟩ := List.mem_iff_getElem.1 hx
  have := h k hk
  rwa [List.getD_eq_getElem?_getD, List.getElem?_eq_getElem hk] at this

theorem all_not {α : Type} (p : α → Bool) (d : α) (l : List α) (k : Nat) (hk : k < l.length) (h : p (l.getD k d) = false) : l.all p = false := by
  rw [List.all_eq_false]
  refine ⟨l.getD k d, ?_, fun e => by rw [h] at e; cases e⟩
  rw [List.getD_eq_getElem?_getD, List.getElem?_eq_getElem hk]
  exact List.getElem_mem _

def tokB (c : UInt8) : Bool := tokI (c.toNat : Int)
def fieldB (c : UInt8) : Bool := fieldI (c.toNat : Int)
def blankB (c : UInt8) : Bool := blankI (c.toNat : Int)
def lowB (c : UInt8) : UInt8 := UInt8.ofNat (lowI (c.toNat : Int)).toNat
theorem lowB_int (c : UInt8) : ((lowB c).toNat : Int) = lowI (c.toNat : Int) := by
  have := c.toNat_lt
  have b := lowI_bd (c := (c.toNat : Int)) (by omega) (by omega)
  unfold lowB
  rw [UInt8.toNat_ofNat']
  omega

def tokLen (l : List UInt8) : Nat := (l.takeWhile tokB).length
def isTok (l : List UInt8) : Bool := !l.isEmpty && l.all tokB
def isFld (l : List UInt8) : Bool := l.all fieldB
def lower (l : List UInt8) : List UInt8 := l.map lowB

theorem isTok_len (l : List UInt8) (h : l ≠ []) : isTok l = decide ((tokLen l : Int) = (l.length : Int)) := by
  unfold isTok tokLen
  have h1 : l.isEmpty = false := by simp [h]
  rw [h1]
  cases hb : l.all tokB with
  | true =>
    have := tw_all tokB 0 l (fun j hj => List.all_eq_true.1 hb _ (by rw [List.getD_eq_getElem?_getD, List.getElem?_eq_getElem hj]; exact List.getElem_mem _))
    simp [this]
  | false =>
    simp only [Bool.not_false, Bool.and_false]
    symm
    rw [decide_eq_false_iff_not]
    intro e
    have e' : (l.takeWhile tokB).length = l.length := by omega
    have e2 : l.takeWhile tokB = l := (List.takeWhile_prefix (l := l) tokB).eq_of_length e'
    have e3 : (l.takeWhile tokB).all tokB = true := List.all_takeWhile
    rw [e2, hb] at e3
    cases e3

/-- What was there stays behind a conversion. -/
theorem below_bytes (w : World) (e : TypeId) (s : ByteArray) : Below w.heap.size w (Lib.bytesWorld w e s) :=
  ⟨by simp [Lib.bytesWorld, World.freeze, World.alloc, World.drew, -World.alloc_eq, -World.drew_eq], by simp [Lib.bytesWorld, World.freeze, World.alloc, World.drew, -World.alloc_eq, -World.drew_eq], by simp [Lib.bytesWorld, World.freeze, World.alloc, World.drew, -World.alloc_eq, -World.drew_eq], by rw [Lib.bytesWorld_size]; omega, fun k hk => Lib.bytesWorld_at_old w e s k hk⟩

theorem bytes_cell (w : World) (e : TypeId) (s : ByteArray) (j : Nat) (hj : j < s.size) : (Lib.bytesWorld w e s).cell? ⟨w.heap.size, j, none⟩ = some (.int .u8 (byt s j)) := Lib.bytesWorld_cell w e s j hj

end Oc
end Go.Proofs.YthdfgepnadgkjaaGreatDoor

/-
  Small letters; tokens and fields; texts that are the same.
-/
set_option linter.unusedVariables false
set_option linter.unusedSimpArgs false
namespace Go.Proofs.YthdfgepnadgkjaaGreatDoor
open Go.RowKit
namespace Oc

theorem ret_string {a b : ByteArray} (h : a = b) : Ending.returned (.string a) = .returned (.string b) := by rw [h]

/-- A row of bytes in a block: its first n cells hold f, and may be written. -/
structure Row (w : World) (b n : Nat) (f : Nat → Int) : Prop where
  cell : ∀ j, j < n → w.cell? ⟨b, j, none⟩ = some (.int .u8 (f j))
  free : ∀ j, j < n → w.frozen? ⟨b, j, none⟩ = false

theorem Row.set {w : World} {b n : Nat} {f : Nat → Int} (r : Row w b n f) (k : Nat) (hk : k < n) (v : Int) (g : Nat → Int) (hg : ∀ j, j < n → g j = if j = k then v else f j) : Row (w.setCell ⟨b, k, none⟩ (.int .u8 v)) b n g := by
  refine ⟨fun j hj => ?_, fun j hj => by rw [World.frozen?_setCell]; exact r.free j hj⟩
  rw [hg j hj]
  by_cases h : j = k
  · subst h
    rw [if_pos rfl]
    exact World.cell?_setCell_same w _ _ (r.cell j hj)
  · rw [if_neg h, World.cell?_setCell_other w _ _ _ (by intro e; injection e with _ e2; omega)]
    exact r.cell j hj

theorem Row.drewN {w : World} {b n : Nat} {f : Nat → Int} (r : Row w b n f) (q : Nat) : Row (w.drewN q) b n f :=
  ⟨fun j hj => by rw [World.cell?_drewN]; exact r.cell j hj, fun j hj => by rw [World.frozen?_drewN]; exact r.free j hj⟩

theorem bytes_row (w : World) (e : TypeId) (s : ByteArray) : Row (Lib.bytesWorld w e s) w.heap.size s.size (byt s) := by
  refine ⟨fun j hj => bytes_cell w e s j hj, fun j hj => ?_⟩
  unfold World.frozen?
  rw [show (Lib.bytesWorld w e s).heap[w.heap.size]? = _ from Lib.bytesWorld_at_new w e s]
  have hl : s.size ≤ (Lib.bytesCells w e s).size := by simp [Lib.bytesCells]
  simp
  omega

/-- The text whose bytes are these. -/
def str (l : List UInt8) : ByteArray := ⟨l.toArray⟩
theorem str_list (l : List UInt8) : (str l).data.toList = l := by simp [str]
theorem str_size (l : List UInt8) : (str l).size = l.length := by simp [str, ByteArray.size]
theorem str_self (s : ByteArray) : str s.data.toList = s := by simp [str]
theorem str_inj {a b : List UInt8} (h : str a = str b) : a = b := by rw [← str_list a, h, str_list]
theorem size_list (s : ByteArray) : s.data.toList.length = s.size := by simp
theorem eq_list {a b : ByteArray} (h : a.data.toList = b.data.toList) : a = b := by rw [← str_self a, h, str_self]

theorem eq_toList (a b : ByteArray) : (a.toList == b.toList) = decide (a = b) := by
  rw [ByteArray.toList_eq, ByteArray.toList_eq, Bool.eq_iff_iff, beq_iff_eq, decide_eq_true_iff]
  exact ⟨eq_list, fun h => by rw [h]⟩
theorem ne_toList (a b : ByteArray) : (a.toList != b.toList) = !decide (a = b) := by
  rw [bne, eq_toList]

/-- 'string(b)' where b's cells are known. -/
theorem back (w : World) (b n cap : Nat) (f : Nat → Int) (l : List UInt8) (r : Row w b n f) (hn : l.length = n) (hl : ∀ j, j < n → f j = ((l.getD j 0).toNat : Int)) :
    (convert 68 9 (.slice (some ⟨b, 0, none⟩) n cap)).run Tryz.prog w = .ok (.string (str l)) w := by
  subst hn
  refine run_convert_bytes_back w 68 9 5 ⟨b, 0, none⟩ cap l Tryz.underlying68 Tryz.underlying5 Tryz.underlying9 (fun j hj => ?_)
  have h1 := r.cell j hj
  rw [hl j hj, List.getD_eq_getElem?_getD, List.getElem?_eq_getElem hj] at h1
  have ea : Addr.add ⟨b, 0, none⟩ j = ⟨b, j, none⟩ := by unfold Addr.add; split <;> simp_all
  rw [ea]
  exact h1

def lowS (s : ByteArray) : ByteArray := str (lower s.data.toList)
theorem lowS_size (s : ByteArray) : (lowS s).size = s.size := by unfold lowS; rw [str_size]; simp [lower]
theorem lower_getD (l : List UInt8) (j : Nat) (h : j < l.length) : (((lower l).getD j 0).toNat : Int) = lowI ((l.getD j 0).toNat : Int) := by
  unfold lower
  rw [List.getD_eq_getElem?_getD, List.getElem?_map, List.getElem?_eq_getElem h, List.getD_eq_getElem?_getD, List.getElem?_eq_getElem h]
  exact lowB_int _

set_option maxHeartbeats 400000 in
theorem rLower_any (s : ByteArray) (hs : s.size ≤ maxLen) (w : World) :
    Calls Tryz.prog 40 #[.string s] w fun e w' => e = .returned (.string (lowS s)) ∧ Below w.heap.size w w' := by
  unfold maxLen at hs
  have hcv := fun w => Lib.run_convert_string_bytes (P := Tryz.prog) w 9 68 5 s Tryz.underlying9 Tryz.underlying68 Tryz.underlying5
  have hb := below_bytes w 5 s
  have hr := bytes_row w 5 s
  go_enter Tryz.func40, Tryz.ntmps40
  go_wp2
  go_loopw [4] (fun i wr => ∃ k : Nat, k ≤ s.size ∧ i = .int .i64 k ∧ Hid (Row wr w.heap.size s.size (fun j => if j < k then lowI (byt s j) else byt s j)) ∧ Hid (Below w.heap.size w wr)) (fun i _ => s.size - (intOf i).toNat)
  case atStart => exact ⟨0, Nat.zero_le _, rfl, (by simpa using hr : Row _ _ _ _), hb⟩
  case round =>
    obtain ⟨k, hk, rfl, hrow, hbel⟩ := hrel
    clear hr hb hcv
    by_cases hlt : k < s.size
    · have hck : wr.cell? ⟨w.heap.size, k, none⟩ = some (.int .u8 (byt s k)) := by
        have := hrow.out.cell k hlt
        rwa [if_neg (by omega)] at this
      have hfk := hrow.out.free k hlt
      obtain ⟨b0, b1⟩ := byt_bd s k
      have hnext : ∀ j, j < s.size → (if j < k + 1 then lowI (byt s j) else byt s j) = if j = k then lowI (byt s k) else if j < k then lowI (byt s j) else byt s j := by
        intro j hj
        by_cases hjk : j = k
        · subst hjk; rw [if_pos (by omega), if_pos rfl]
        · rw [if_neg hjk]
          by_cases h2 : j < k
          · rw [if_pos (by omega), if_pos h2]
          · rw [if_neg (by omega), if_neg h2]
      have HN : Hid (∀ j, j < s.size → (if j < k + 1 then lowI (byt s j) else byt s j) = if j = k then lowI (byt s k) else if j < k then lowI (byt s j) else byt s j) := hnext
      clear hnext
      by_cases hup : 65 ≤ byt s k ∧ byt s k ≤ 90
      · obtain ⟨u0, u1⟩ := hup
        have e1 := lowI_up u0 u1
        have E1 : Hid (lowI (byt s k) = byt s k + 32) := e1
        clear e1
        go_wp2
        go_roundw
        case rel => exact ⟨k + 1, by omega, by go_num, hrow.out.set k hlt _ _ (by rw [← E1.out]; exact HN.out), hbel.out.setCell (Nat.le_refl _) _⟩
        case measure => simp [intOf]; omega
      · have E1 : Hid (lowI (byt s k) = byt s k) := lowI_not hup
        have hsame : Hid (Row wr w.heap.size s.size (fun j => if j < k + 1 then lowI (byt s j) else byt s j)) := by
          refine ⟨fun j hj => ?_, hrow.out.free⟩
          rw [hrow.out.cell j hj, HN.out j hj]
          by_cases hjk : j = k
          · subst hjk; rw [if_neg (by omega), if_pos rfl, E1.out]
          · rw [if_neg hjk]
        by_cases u0 : 65 ≤ byt s k
        all_goals
          have u1 : Hid (¬ (65 ≤ byt s k ∧ byt s k ≤ 90)) := hup
          go_wp2
          go_roundw
          case rel => exact ⟨k + 1, by omega, by go_num, hsame.out, hbel.out⟩
          case measure => simp [intOf]; omega
    · have hbk := back wr w.heap.size s.size (grownCap w s.size 0 5) _ (lower s.data.toList) hrow.out (by simp [lower]) (fun j hj => by rw [if_pos (by omega), lower_getD _ _ (by rw [size_list]; exact hj)]; rfl)
      go_wp2
      go_ret
      exact ⟨rfl, hbel.out⟩

set_option maxHeartbeats 400000 in
theorem rSame_any (a b : ByteArray) (ha : a.size ≤ maxLen) (hb : b.size ≤ maxLen) (w : World) :
    Calls Tryz.prog 16 #[.string a, .string b] w fun e w' => e = .returned (.bool (decide (lowS a = lowS b))) ∧ Below w.heap.size w w' := by
  go_enter Tryz.func16, Tryz.ntmps16
  go_wp2_with fail
  refine (rLower_any a ha _).mono ?_
  rintro e w1 ⟨rfl, hb1⟩
  go_wp2_with fail
  refine (rLower_any b hb _).mono ?_
  rintro e w2 ⟨rfl, hb2⟩
  go_wp2
  go_ret
  exact ⟨ret_bool (eq_toList _ _), hb1.trans (hb2.mono hb1.size)⟩

end Oc
end Go.Proofs.YthdfgepnadgkjaaGreatDoor
