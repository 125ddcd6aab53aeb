/-
  Lists of bytes, and the world behind a conversion of a string.
-/
import Derived.Test.YtdbnlpnnfnodnaaGreatDoorLeaf
import Derived.Lib.ConvBytes
set_option linter.unusedVariables false
set_option linter.unusedSimpArgs false
namespace Go.Proofs.YtdbnlpnnfnodnaaGreatDoor
open Go.RowKit
namespace Oc

/-- The byte at a place, as a number. -/
def byt (s : ByteArray) (j : Nat) : Int := ((s.data.toList.getD j 0).toNat : Int)
theorem byt_bd (s : ByteArray) (j : Nat) : 0 ≤ byt s j ∧ byt s j ≤ 255 := by
  unfold byt
  have := (s.data.toList.getD j 0).toNat_lt
  omega
theorem byt_at (s : ByteArray) (j : Nat) (h : j < s.size) : (s[j].toNat : Int) = byt s j := by unfold byt; rw [at_lt s j h]

theorem tw_stop {α : Type} (p : α → Bool) (d : α) : ∀ (l : List α) (k : Nat), k < l.length → (∀ j, j < k → p (l.getD j d) = true) → p (l.getD k d) = false → (l.takeWhile p).length = k
  | [], k, h, _, _ => by simp at h
  | a :: l, 0, _, _, hs => by simp at hs; simp [List.takeWhile_cons, hs]
  | a :: l, k + 1, h, ha, hs => by
    have h0 := ha 0 (by omega)
    simp at h0
    rw [List.takeWhile_cons, h0]
    simp only [if_true, List.length_cons, Nat.add_right_cancel_iff]
    exact tw_stop p d l k (by simpa using h) (fun j hj => by simpa using ha (j + 1) (by omega)) (by simpa using hs)

theorem tw_all {α : Type} (p : α → Bool) (d : α) : ∀ (l : List α), (∀ j, j < l.length → p (l.getD j d) = true) → (l.takeWhile p).length = l.length
  | [], _ => rfl
  | a :: l, ha => by
    have h0 := ha 0 (by simp)
    simp at h0
    rw [List.takeWhile_cons, h0]
    simp only [if_true, List.length_cons, Nat.add_right_cancel_iff]
    exact tw_all p d l (fun j hj => by simpa using ha (j + 1) (by simpa using hj))

theorem all_of {α : Type} (p : α → Bool) (d : α) (l : List α) (h : ∀ j, j < l.length → p (l.getD j d) = true) : l.all p = true := by
  rw [List.all_eq_true]
  intro x hx
  obtain ⟨k, hk, rfl⟩ := List.mem_iff_getElem.1 hx
  have := h k hk
  rwa [List.getD_eq_getElem?_getD, List.getElem?_eq_getElem hk] at this

theorem all_not {α : Type} (p : α → Bool) (d : α) (l : List α) (k : Nat) (hk : k < l.length) (h : p (l.getD k d) = false) : l.all p = false := by
  rw [List.all_eq_false]
  refine ⟨l.getD k d, ?_, fun e => by rw [h] at e; cases e⟩
  rw [List.getD_eq_getElem?_getD, List.getElem?_eq_getElem hk]
  exact List.getElem_mem _

def tokB (c : UInt8) : Bool := tokI (c.toNat : Int)
def fieldB (c : UInt8) : Bool := fieldI (c.toNat : Int)
def blankB (c : UInt8) : Bool := blankI (c.toNat : Int)
def lowB (c : UInt8) : UInt8 := UInt8.ofNat (lowI (c.toNat : Int)).toNat
theorem lowB_int (c : UInt8) : ((lowB c).toNat : Int) = lowI (c.toNat : Int) := by
  have := c.toNat_lt
  have b := lowI_bd (c := (c.toNat : Int)) (by omega) (by omega)
  unfold lowB
  rw [UInt8.toNat_ofNat']
  omega

def tokLen (l : List UInt8) : Nat := (l.takeWhile tokB).length
def isTok (l : List UInt8) : Bool := !l.isEmpty && l.all tokB
def isFld (l : List UInt8) : Bool := l.all fieldB
def lower (l : List UInt8) : List UInt8 := l.map lowB

theorem isTok_len (l : List UInt8) (h : l ≠ []) : isTok l = decide ((tokLen l : Int) = (l.length : Int)) := by
  unfold isTok tokLen
  have h1 : l.isEmpty = false := by simp [h]
  rw [h1]
  cases hb : l.all tokB with
  | true =>
    have := tw_all tokB 0 l (fun j hj => List.all_eq_true.1 hb _ (by rw [List.getD_eq_getElem?_getD, List.getElem?_eq_getElem hj]; exact List.getElem_mem _))
    simp [this]
  | false =>
    simp only [Bool.not_false, Bool.and_false]
    symm
    rw [decide_eq_false_iff_not]
    intro e
    have e' : (l.takeWhile tokB).length = l.length := by omega
    have e2 : l.takeWhile tokB = l := (List.takeWhile_prefix (l := l) tokB).eq_of_length e'
    have e3 : (l.takeWhile tokB).all tokB = true := List.all_takeWhile
    rw [e2, hb] at e3
    cases e3

/-- What was there stays behind a conversion. -/
theorem below_bytes (w : World) (e : TypeId) (s : ByteArray) : Below w.heap.size w (Lib.bytesWorld w e s) :=
  ⟨by simp [Lib.bytesWorld, World.freeze, World.alloc, World.drew, -World.alloc_eq, -World.drew_eq], by simp [Lib.bytesWorld, World.freeze, World.alloc, World.drew, -World.alloc_eq, -World.drew_eq], by simp [Lib.bytesWorld, World.freeze, World.alloc, World.drew, -World.alloc_eq, -World.drew_eq], by rw [Lib.bytesWorld_size]; omega, fun k hk => Lib.bytesWorld_at_old w e s k hk⟩

theorem bytes_cell (w : World) (e : TypeId) (s : ByteArray) (j : Nat) (hj : j < s.size) : (Lib.bytesWorld w e s).cell? ⟨w.heap.size, j, none⟩ = some (.int .u8 (byt s j)) := Lib.bytesWorld_cell w e s j hj

set_option maxHeartbeats 400000 in
theorem tokenLength_any (s : ByteArray) (hs : s.size ≤ maxLen) (w : World) (t : Tab w) :
    Calls Tryz.prog 61 #[.string s] w fun e w' => e = .returned (.int .i64 (tokLen s.data.toList)) ∧ Below w.heap.size w w' := by
  unfold maxLen at hs
  have hcv := fun w => Lib.run_convert_string_bytes (P := Tryz.prog) w 9 67 5 s Tryz.underlying9 Tryz.underlying67 Tryz.underlying5
  have hb := below_bytes w 5 s
  have t' := t.below hb (Nat.le_refl _)
  have hc := bytes_cell w 5 s
  have hl : s.data.toList.length = s.size := by simp
  go_enter Tryz.func61, Tryz.ntmps61
  go_wp2
  go_loop [8] (fun i => ∃ k : Nat, k ≤ s.size ∧ i = .int .i64 k ∧ ∀ j, j < k → tokI (byt s j) = true) (fun i => s.size - (intOf i).toNat)
  case atStart => exact ⟨0, Nat.zero_le _, rfl, fun j hj => by omega⟩
  case round =>
    obtain ⟨k, hk, rfl, hall⟩ := hrel
    by_cases hlt : k < s.size
    · have hck := hc k hlt
      obtain ⟨b0, b1⟩ := byt_bd s k
      cases ht : tokI (byt s k) with
      | true =>
        go_wp2_with (go_at_call 83; refine (isTokenSign_any _ b0 b1 _ t').mono ?_; rintro e w' ⟨rfl, rfl⟩)
        go_round
        case rel =>
          refine ⟨k + 1, by omega, by go_num, fun j hj => ?_⟩
          by_cases hjk : j = k
          · subst hjk; exact ht
          · exact hall j (by omega)
        case measure => simp [intOf]; omega
      | false =>
        go_wp2_with (go_at_call 83; refine (isTokenSign_any _ b0 b1 _ t').mono ?_; rintro e w' ⟨rfl, rfl⟩)
        go_ret
        exact ⟨ret_int (by rw [show tokLen s.data.toList = k from tw_stop tokB 0 _ k (by omega) (fun j hj => hall j hj) ht]), hb⟩
    · go_wp2
      go_ret
      exact ⟨ret_int (by rw [show tokLen s.data.toList = s.size from (tw_all tokB 0 _ (fun j hj => hall j (by omega))).trans hl]), hb⟩

end Oc
end Go.Proofs.YtdbnlpnnfnodnaaGreatDoor
