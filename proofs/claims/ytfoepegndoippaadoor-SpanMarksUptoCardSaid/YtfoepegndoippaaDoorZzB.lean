/- Several texts as one. -/
import Derived.Test.YtfoepegndoippaaDoorZzA
import Derived.Lib.ConvBytes
import Derived.Laws.IdiomStrings
import Derived.Deep.QuietTactic
import Derived.BigQuiet
/-
  Lists of bytes, and the world behind a conversion of a string.
-/
set_option linter.unusedVariables false
set_option linter.unusedSimpArgs false
namespace Go.Proofs.YtfoepegndoippaaDoor
open Go.RowKit
namespace Oc

/-- The byte at a place, as a number. -/
def byt (s : ByteArray) (j : Nat) : Int := ((s.data.toList.getD j 0).toNat : Int)
theorem byt_bd (s : ByteArray) (j : Nat) : 0 ≤ byt s j ∧ byt s j ≤ 255 := by
  unfold byt
  have := (s.data.toList.getD j 0).toNat_lt
  omega
theorem byt_at (s : ByteArray) (j : Nat) (h : j < s.size) : (s[j].toNat : Int) = byt s j := by unfold byt; rw [at_lt s j h]

theorem tw_stop {α : Type} (p : α → Bool) (d : α) : ∀ (l : List α) (k : Nat), k < l.length → (∀ j, j < k → p (l.getD j d) = true) → p (l.getD k d) = false → (l.takeWhile p).length = k
  | [], k, h, _, _ => by simp at h
  | a :: l, 0, _, _, hs => by simp at hs; simp [List.takeWhile_cons, hs]
  | a :: l, k + 1, h, ha, hs => by
    have h0 := ha 0 (by omega)
    simp at h0
    rw [List.takeWhile_cons, h0]
    simp only [if_true, List.length_cons, Nat.add_right_cancel_iff]
    exact tw_stop p d l k (by simpa using h) (fun j hj => by simpa using ha (j + 1) (by omega)) (by simpa using hs)

theorem tw_all {α : Type} (p : α → Bool) (d : α) : ∀ (l : List α), (∀ j, j < l.length → p (l.getD j d) = true) → (l.takeWhile p).length = l.length
  | [], _ => rfl
  | a :: l, ha => by
    have h0 := ha 0 (by simp)
    simp at h0
    rw [List.takeWhile_cons, h0]
    simp only [if_true, List.length_cons, Nat.add_right_cancel_iff]
    exact tw_all p d l (fun j hj => by simpa using ha (j + 1) (by simpa using hj))

theorem all_of {α : Type} (p : α → Bool) (d : α) (l : List α) (h : ∀ j, j < l.length → p (l.getD j d) = true) : l.all p = true := by
  rw [List.all_eq_true]
  intro x hx
  obtain ⟨k, hk, rfl⟩ := List.mem_iff_getElem.1 hx
  have := h k hk
  rwa [List.getD_eq_getElem?_getD, List.getElem?_eq_getElem hk] at this

theorem all_not {α : Type} (p : α → Bool) (d : α) (l : List α) (k : Nat) (hk : k < l.length) (h : p (l.getD k d) = false) : l.all p = false := by
  rw [List.all_eq_false]
  refine ⟨l.getD k d, ?_, fun e => by rw [h] at e; cases e⟩
  rw [List.getD_eq_getElem?_getD, List.getElem?_eq_getElem hk]
  exact List.getElem_mem _

def tokB (c : UInt8) : Bool := tokI (c.toNat : Int)
def fieldB (c : UInt8) : Bool := fieldI (c.toNat : Int)
def blankB (c : UInt8) : Bool := blankI (c.toNat : Int)
def lowB (c : UInt8) : UInt8 := UInt8.ofNat (lowI (c.toNat : Int)).toNat
theorem lowB_int (c : UInt8) : ((lowB c).toNat : Int) = lowI (c.toNat : Int) := by
  have := c.toNat_lt
  have b := lowI_bd (c := (c.toNat : Int)) (by omega) (by omega)
  unfold lowB
  rw [UInt8.toNat_ofNat']
  omega

def tokLen (l : List UInt8) : Nat := (l.takeWhile tokB).length
def isTok (l : List UInt8) : Bool := !l.isEmpty && l.all tokB
def isFld (l : List UInt8) : Bool := l.all fieldB
def lower (l : List UInt8) : List UInt8 := l.map lowB

theorem isTok_len (l : List UInt8) (h : l ≠ []) : isTok l = decide ((tokLen l : Int) = (l.length : Int)) := by
  unfold isTok tokLen
  have h1 : l.isEmpty = false := by simp [h]
  rw [h1]
  cases hb : l.all tokB with
  | true =>
    have := tw_all tokB 0 l (fun j hj => List.all_eq_true.1 hb _ (by rw [List.getD_eq_getElem?_getD, List.getElem?_eq_getElem hj]; exact List.getElem_mem _))
    simp [this]
  | false =>
    simp only [Bool.not_false, Bool.and_false]
    symm
    rw [decide_eq_false_iff_not]
    intro e
    have e' : (l.takeWhile tokB).length = l.length := by omega
    have e2 : l.takeWhile tokB = l := (List.takeWhile_prefix (l := l) tokB).eq_of_length e'
    have e3 : (l.takeWhile tokB).all tokB = true := List.all_takeWhile
    rw [e2, hb] at e3
    cases e3

/-- What was there stays behind a conversion. -/
theorem below_bytes (w : World) (e : TypeId) (s : ByteArray) : Below w.heap.size w (Lib.bytesWorld w e s) :=
  ⟨by simp [Lib.bytesWorld, World.freeze, World.alloc, World.drew, -World.alloc_eq, -World.drew_eq], by simp [Lib.bytesWorld, World.freeze, World.alloc, World.drew, -World.alloc_eq, -World.drew_eq], by simp [Lib.bytesWorld, World.freeze, World.alloc, World.drew, -World.alloc_eq, -World.drew_eq], by rw [Lib.bytesWorld_size]; omega, fun k hk => Lib.bytesWorld_at_old w e s k hk⟩

theorem bytes_cell (w : World) (e : TypeId) (s : ByteArray) (j : Nat) (hj : j < s.size) : (Lib.bytesWorld w e s).cell? ⟨w.heap.size, j, none⟩ = some (.int .u8 (byt s j)) := Lib.bytesWorld_cell w e s j hj

end Oc
end Go.Proofs.YtfoepegndoippaaDoor

/-
  Small letters; tokens and fields; texts that are the same.
-/
set_option linter.unusedVariables false
set_option linter.unusedSimpArgs false
namespace Go.Proofs.YtfoepegndoippaaDoor
open Go.RowKit
namespace Oc

theorem ret_string {a b : ByteArray} (h : a = b) : Ending.returned (.string a) = .returned (.string b) := by rw [h]

/-- A row of bytes in a block: its first n cells hold f, and may be written. -/
structure Row (w : World) (b n : Nat) (f : Nat → Int) : Prop where
  cell : ∀ j, j < n → w.cell? ⟨b, j, none⟩ = some (.int .u8 (f j))
  free : ∀ j, j < n → w.frozen? ⟨b, j, none⟩ = false

theorem Row.set {w : World} {b n : Nat} {f : Nat → Int} (r : Row w b n f) (k : Nat) (hk : k < n) (v : Int) (g : Nat → Int) (hg : ∀ j, j < n → g j = if j = k then v else f j) : Row (w.setCell ⟨b, k, none⟩ (.int .u8 v)) b n g := by
  refine ⟨fun j hj => ?_, fun j hj => by rw [World.frozen?_setCell]; exact r.free j hj⟩
  rw [hg j hj]
  by_cases h : j = k
  · subst h
    rw [if_pos rfl]
    exact World.cell?_setCell_same w _ _ (r.cell j hj)
  · rw [if_neg h, World.cell?_setCell_other w _ _ _ (by intro e; injection e with _ e2; omega)]
    exact r.cell j hj

theorem Row.drewN {w : World} {b n : Nat} {f : Nat → Int} (r : Row w b n f) (q : Nat) : Row (w.drewN q) b n f :=
  ⟨fun j hj => by rw [World.cell?_drewN]; exact r.cell j hj, fun j hj => by rw [World.frozen?_drewN]; exact r.free j hj⟩

theorem bytes_row (w : World) (e : TypeId) (s : ByteArray) : Row (Lib.bytesWorld w e s) w.heap.size s.size (byt s) := by
  refine ⟨fun j hj => bytes_cell w e s j hj, fun j hj => ?_⟩
  unfold World.frozen?
  rw [show (Lib.bytesWorld w e s).heap[w.heap.size]? = _ from Lib.bytesWorld_at_new w e s]
  have hl : s.size ≤ (Lib.bytesCells w e s).size := by simp [Lib.bytesCells]
  simp
  omega

/-- The text whose bytes are these. -/
def str (l : List UInt8) : ByteArray := ⟨l.toArray⟩
theorem str_list (l : List UInt8) : (str l).data.toList = l := by simp [str]
theorem str_size (l : List UInt8) : (str l).size = l.length := by simp [str, ByteArray.size]
theorem str_self (s : ByteArray) : str s.data.toList = s := by simp [str]
theorem str_inj {a b : List UInt8} (h : str a = str b) : a = b := by rw [← str_list a, h, str_list]
theorem size_list (s : ByteArray) : s.data.toList.length = s.size := by simp
theorem eq_list {a b : ByteArray} (h : a.data.toList = b.data.toList) : a = b := by rw [← str_self a, h, str_self]

theorem eq_toList (a b : ByteArray) : (a.toList == b.toList) = decide (a = b) := by
  rw [ByteArray.toList_eq, ByteArray.toList_eq, Bool.eq_iff_iff, beq_iff_eq, decide_eq_true_iff]
  exact ⟨eq_list, fun h => by rw [h]⟩
theorem ne_toList (a b : ByteArray) : (a.toList != b.toList) = !decide (a = b) := by
  rw [bne, eq_toList]

/-- 'string(b)' where b's cells are known. -/
theorem back (w : World) (b n cap : Nat) (f : Nat → Int) (l : List UInt8) (r : Row w b n f) (hn : l.length = n) (hl : ∀ j, j < n → f j = ((l.getD j 0).toNat : Int)) :
    (convert 50 9 (.slice (some ⟨b, 0, none⟩) n cap)).run Tryd.prog w = .ok (.string (str l)) w := by
  subst hn
  refine run_convert_bytes_back w 50 9 5 ⟨b, 0, none⟩ cap l Tryd.underlying50 Tryd.underlying5 Tryd.underlying9 (fun j hj => ?_)
  have h1 := r.cell j hj
  rw [hl j hj, List.getD_eq_getElem?_getD, List.getElem?_eq_getElem hj] at h1
  have ea : Addr.add ⟨b, 0, none⟩ j = ⟨b, j, none⟩ := by unfold Addr.add; split <;> simp_all
  rw [ea]
  exact h1

def lowS (s : ByteArray) : ByteArray := str (lower s.data.toList)
theorem lowS_size (s : ByteArray) : (lowS s).size = s.size := by unfold lowS; rw [str_size]; simp [lower]
theorem lower_getD (l : List UInt8) (j : Nat) (h : j < l.length) : (((lower l).getD j 0).toNat : Int) = lowI ((l.getD j 0).toNat : Int) := by
  unfold lower
  rw [List.getD_eq_getElem?_getD, List.getElem?_map, List.getElem?_eq_getElem h, List.getD_eq_getElem?_getD, List.getElem?_eq_getElem h]
  exact lowB_int _

end Oc
end Go.Proofs.YtfoepegndoippaaDoor

/-
  octet.Same.
-/
set_option linter.unusedVariables false
set_option linter.unusedSimpArgs false
namespace Go.Proofs.YtfoepegndoippaaDoor
open Go.RowKit
namespace Oc

theorem lowS_eq {a b : ByteArray} (hn : a.size = b.size) (h : ∀ j, j < a.size → lowI (byt a j) = lowI (byt b j)) : lowS a = lowS b := by
  unfold lowS
  congr 1
  apply List.ext_getElem
  · simp [lower, hn]
  · intro j h1 h2
    have ha : j < a.data.toList.length := by simpa [lower] using h1
    have hb : j < b.data.toList.length := by simpa [lower] using h2
    have e1 := lower_getD _ j ha
    have e2 := lower_getD _ j hb
    have := h j (by rw [← size_list]; exact ha)
    unfold byt at this
    rw [← e1, ← e2] at this
    rw [List.getD_eq_getElem?_getD, List.getElem?_eq_getElem h1, List.getD_eq_getElem?_getD, List.getElem?_eq_getElem h2] at this
    exact UInt8.toNat_inj.1 (Int.ofNat.inj this)

theorem lowS_ne {a b : ByteArray} (k : Nat) (ha : k < a.size) (hb : k < b.size) (h : lowI (byt a k) ≠ lowI (byt b k)) : lowS a ≠ lowS b := by
  intro e
  have e := str_inj e
  apply h
  have e1 := lower_getD a.data.toList k (by rw [size_list]; exact ha)
  have e2 := lower_getD b.data.toList k (by rw [size_list]; exact hb)
  rw [e] at e1
  exact e1.symm.trans e2

theorem lowS_sizes {a b : ByteArray} (h : a.size ≠ b.size) : lowS a ≠ lowS b := by
  intro e
  have := congrArg ByteArray.size e
  rw [lowS_size, lowS_size] at this
  exact h this

theorem lowI_idem (c : Int) : lowI (lowI c) = lowI c := by unfold lowI; (repeat' split) <;> omega
theorem lowS_byt (s : ByteArray) (j : Nat) (h : j < s.size) : byt (lowS s) j = lowI (byt s j) := by
  unfold byt lowS
  rw [str_list, lower_getD _ _ (by rw [size_list]; exact h)]
theorem lowS_idem (a : ByteArray) : lowS (lowS a) = lowS a := by
  refine lowS_eq (lowS_size a) (fun j hj => ?_)
  rw [lowS_size] at hj
  rw [lowS_byt a j hj, lowI_idem]
theorem bel_trans {w w1 w2 : World} (a : Below w.heap.size w w1) (b : Below w1.heap.size w1 w2) : Below w.heap.size w w2 := a.trans (b.mono a.size)

set_option maxRecDepth 100000 in
set_option maxHeartbeats 400000 in
theorem Same_any (a b : ByteArray) (ha : a.size ≤ maxLen) (hb : b.size ≤ maxLen) (w : World) :
    Calls Tryd.prog 21 #[.string a, .string b] w fun e w' => e = .returned (.bool (decide (lowS a = lowS b))) ∧ Below w.heap.size w w' := by
  unfold maxLen at ha hb
  by_cases hn : a.size = b.size
  · have hcv := fun w => Lib.run_convert_string_bytes (P := Tryd.prog) w 9 50 5 a Tryd.underlying9 Tryd.underlying50 Tryd.underlying5
    have hbel := below_bytes w 5 a
    have hr := bytes_row w 5 a
    have hne : ((a.size : Int) != (b.size : Int)) = false := by simp [hn]
    have HN : Hid (a.size = b.size) := hn
    have hle : a.size ≤ b.size := by omega
    clear hn
    go_enter Tryd.func21, Tryd.ntmps21
    go_wp2
    go_loopw [15] (fun i wr => ∃ k : Nat, k ≤ a.size ∧ i = .int .i64 k ∧ Hid (∀ j, j < k → lowI (byt a j) = lowI (byt b j)) ∧ Hid (Row wr w.heap.size a.size (byt a)) ∧ Hid (Below w.heap.size w wr)) (fun i _ => a.size - (intOf i).toNat)
    case atStart => exact ⟨0, Nat.zero_le _, rfl, (fun j hj => by omega : ∀ j, j < 0 → _), hr, hbel⟩
    case round =>
      obtain ⟨k, hk, rfl, hall, hrow, hbl⟩ := hrel
      clear hr hbel hcv
      by_cases hlt : k < a.size
      · have hck := hrow.out.cell k hlt
        obtain ⟨b0, b1⟩ := byt_bd a k
        have hkb : k < b.size := by omega
        have hby : ((b[k].toNat : Nat) : Int) = byt b k := byt_at b k hkb
        obtain ⟨d0, d1⟩ := byt_bd b k
        cases hc : (lowI (byt a k) != lowI (byt b k)) with
        | false =>
          go_wp2_with fail
          go_quiet ((go_at_call 26; exact Calls.quiet_of_same (lowerByte_any _ (by omega) (by omega) _)))
          go_wp2
          go_roundw
          case rel =>
            refine ⟨k + 1, by omega, by go_num, (fun j hj => ?_ : ∀ j, j < k + 1 → lowI (byt a j) = lowI (byt b j)), hrow.out.drewN _, below_drewN hbl.out _⟩
            by_cases hjk : j = k
            · subst hjk; simpa using hc
            · exact hall.out j (by omega)
          case measure => simp [intOf]; omega
        | true =>
          go_wp2_with fail
          go_quiet ((go_at_call 26; exact Calls.quiet_of_same (lowerByte_any _ (by omega) (by omega) _)))
          go_wp2
          go_ret
          exact ⟨ret_bool (decide_eq_false (lowS_ne k hlt hkb (by simpa using hc))).symm, below_drewN hbl.out _⟩
      · have hfin := lowS_eq HN.out (fun j hj => hall.out j (by omega))
        have HF : Hid (lowS a = lowS b) := hfin
        clear hfin
        go_wp2
        go_ret
        exact ⟨ret_bool (decide_eq_true HF.out).symm, hbl.out⟩
  · have hne : ((a.size : Int) != (b.size : Int)) = true := by simp; omega
    have HN : Hid (lowS a ≠ lowS b) := lowS_sizes hn
    clear hn
    go_enter Tryd.func21, Tryd.ntmps21
    go_wp2
    go_ret
    exact ⟨ret_bool (decide_eq_false HN.out).symm, Below.refl _ _⟩

end Oc
end Go.Proofs.YtfoepegndoippaaDoor
