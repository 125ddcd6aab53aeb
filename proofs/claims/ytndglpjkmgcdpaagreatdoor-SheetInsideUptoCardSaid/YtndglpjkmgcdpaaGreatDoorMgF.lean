/- Several texts as one. -/
import Derived.Test.YtndglpjkmgcdpaaGreatDoorMgE
/-
  A strings.Builder: its buffer lies at or beyond B, what is written turns the builder's own block and the buffer alone.
-/
set_option linter.unusedVariables false
set_option linter.unusedSimpArgs false
namespace Go.Proofs.YtndglpjkmgcdpaaGreatDoor
open Go.RowKit Go.Shelf
namespace Tg
open Oc

/-- What a write turns: block b, and blocks at or beyond B that are cells. -/
structure Fr (B b : Nat) (w w' : World) : Prop where
  os : w'.os = w.os
  tape : w'.tape = w.tape
  output : w'.output = w.output
  block : ∀ k, k < B → k ≠ b → w'.heap[k]? = w.heap[k]?
  others : KeepsOthers w w'
theorem Fr.size {B b : Nat} {w w' : World} (h : Fr B b w w') : w.heap.size ≤ w'.heap.size := h.others.size
theorem Fr.refl (B b : Nat) (w : World) : Fr B b w w := ⟨rfl, rfl, rfl, fun _ _ _ => rfl, KeepsOthers.refl w⟩
theorem Fr.trans {B b : Nat} {x y z : World} (h : Fr B b x y) (k : Fr B b y z) : Fr B b x z :=
  ⟨k.os.trans h.os, k.tape.trans h.tape, k.output.trans h.output, fun i hi hb => (k.block i hi hb).trans (h.block i hi hb), h.others.trans k.others⟩
theorem Fr.keep {B b c : Nat} {w w' : World} (h : Fr B b w w') (hc : c < B) (hb : c ≠ b) : Keep c w w' := h.block c hc hb
theorem Fr.below {B b n : Nat} {w w' : World} (h : Fr B b w w') (hn : n ≤ B) (hb : n ≤ b) : Below n w w' := ⟨h.os, h.tape, h.output, h.size, fun k hk => h.block k (by omega) (by omega)⟩
theorem Fr.of_below {B b : Nat} {w w' : World} (h : Below w.heap.size w w') (hB : B ≤ w.heap.size) : Fr B b w w' :=
  ⟨h.os, h.tape, h.output, fun k hk _ => h.block k (by omega), ⟨h.size, fun k o hk _ => (h.block k (Array.getElem?_eq_some_iff.1 hk).1).trans hk⟩⟩
theorem Fr.set {B b j : Nat} (w : World) (v : Value) : Fr B b w (w.setCell ⟨b, j, none⟩ v) :=
  ⟨rfl, rfl, rfl, fun k _ hb => Below.heap_setCell _ _ _ _ hb, KeepsOthers.setCell w _ v⟩
theorem Fr.alloc {B b : Nat} (w : World) (o : Obj) (hB : B ≤ w.heap.size) : Fr B b w (w.alloc o) :=
  ⟨rfl, rfl, rfl, fun k hk _ => Lib.alloc_old w o k (by omega), KeepsOthers.alloc w o⟩
theorem Fr.grown {B b : Nat} {w w' : World} {v : Value} {n : Nat} {xs : List Value} (hg : w.grownBy w' v.ownBlock) (ho : w.ownsRow B 5 1 v n xs) (hB : B ≤ w.heap.size) : Fr B b w w' :=
  ⟨hg.os, hg.tape, hg.output, fun k hk _ => hg.block k (by omega) (fun e => by have := (ho.lt k e.symm).1; omega), KeepsOthers.of_grownBy hg (fun j o hj ho' => by
    rcases ho.2 with ⟨rfl, _⟩ | ⟨g, cap, cur, rfl, _, hgg, _⟩
    · cases hj
    · simp only [Value.ownBlock, Option.some.injEq] at hj
      subst hj
      rw [hgg] at ho'
      cases ho'
      rfl)⟩

/-- A builder in block b that holds l; its buffer lies at or beyond B. -/
def BdAt (B b : Nat) (p : Value) (l : List Value) (w : World) : Prop :=
  ∃ v, w.heap[b]? = some (.cells #[p, v] 57 (0, 0)) ∧ w.ownsRow B 5 1 v l.length l ∧ v.ownBlock ≠ some b
def Bd (B b : Nat) (l : List Value) (w : World) : Prop := BdAt B b (.pointer none) l w ∨ BdAt B b (.pointer (some ⟨b, 0, none⟩)) l w
theorem Bd.isB {B b : Nat} {l : List Value} {w : World} (h : Bd B b l w) : ∀ C, C ≤ B → C ≤ b → Lib.IsBuilder 57 5 C b l w := by
  intro C h1 h2
  have lower : ∀ {v : Value}, w.ownsRow B 5 1 v l.length l → w.ownsRow C 5 1 v l.length l := fun h => ⟨h.1, h.2.imp id fun ⟨g, c, cur, e, hg, r⟩ => ⟨g, c, cur, e, Nat.le_trans h1 hg, r⟩⟩
  rcases h with ⟨v, a, o, n⟩ | ⟨v, a, o, n⟩
  · exact .inl ⟨h2, v, a, lower o, n⟩
  · exact .inr ⟨h2, v, a, lower o, n⟩
theorem Bd.lt {B b : Nat} {l : List Value} {w : World} (h : Bd B b l w) : b < w.heap.size := by
  rcases h with ⟨v, a, _⟩ | ⟨v, a, _⟩ <;> exact (Array.getElem?_eq_some_iff.1 a).1
theorem BdAt.below {B b : Nat} {p : Value} {l : List Value} {w w' : World} (h : BdAt B b p l w) (hb : Below w.heap.size w w') : BdAt B b p l w' := by
  obtain ⟨v, a, o, n⟩ := h
  refine ⟨v, (hb.block b (Array.getElem?_eq_some_iff.1 a).1).trans a, ⟨o.1, o.2.imp id fun ⟨g, c, cur, e, hg, hh, r⟩ => ⟨g, c, cur, e, hg, (hb.block g (Array.getElem?_eq_some_iff.1 hh).1).trans hh, r⟩⟩, n⟩
theorem Bd.below {B b : Nat} {l : List Value} {w w' : World} (h : Bd B b l w) (hb : Below w.heap.size w w') : Bd B b l w' := h.imp (fun h => h.below hb) (fun h => h.below hb)
theorem Bd.new (w : World) (B : Nat) : Bd B w.heap.size [] (w.alloc (.cells #[.pointer none, .slice none 0 0] 57)) :=
  .inl ⟨.slice none 0 0, World.alloc_heap_new w _, World.ownsRow_nil _ _ _ _, by simp [Value.ownBlock]⟩
/-- It is its own: nothing else turns it. -/
theorem bd_own {β : Type} (B b : Nat) (f : β → List Value) : Own (fun s W => Bd B b (f s) W) := by
  intro s X Y row hs hg hrow
  have key : ∀ p, BdAt B b p (f s) X → BdAt B b p (f s) Y := by
    rintro p ⟨v, a, o, n⟩
    have hb : some b ≠ row := fun e => by
      obtain ⟨o', h1, h2⟩ := hrow b e.symm
      rw [a] at h1; cases h1; cases h2
    refine ⟨v, (hg.block b (Array.getElem?_eq_some_iff.1 a).1 hb).trans a, o.kept hg ?_, n⟩
    rcases o.2 with ⟨rfl, _⟩ | ⟨g, cap, cur, rfl, _, hgg, _⟩
    · exact .inl rfl
    · refine .inr fun e => ?_
      obtain ⟨o', h1, h2⟩ := hrow g e.symm
      rw [hgg] at h1; cases h1; cases h2
  exact hs.imp (key _) (key _)

set_option maxHeartbeats 400000 in
theorem copyCheck_bd (B b : Nat) (l : List Value) (w : World) (h : Bd B b l w) :
    Calls Tryz.prog 45 #[.pointer (some ⟨b, 0, none⟩)] w fun e w' => e = .returned (.tuple #[]) ∧ BdAt B b (.pointer (some ⟨b, 0, none⟩)) l w' ∧ Fr B b w w' := by
  rcases h with h | h
  · have hI : Lib.BuilderAt 57 5 0 b (.pointer none) l w := by
      obtain ⟨v, a, o, n⟩ := h
      exact ⟨Nat.zero_le _, v, a, ⟨o.1, o.2.imp id fun ⟨g, c, cur, e, hg, r⟩ => ⟨g, c, cur, e, Nat.zero_le _, r⟩⟩, n⟩
    refine (copyCheck_fresh b w hI.cell0 hI.shape hI.frozen0).mono ?_
    rintro e w' ⟨rfl, rfl⟩
    refine ⟨rfl, ?_, Fr.set w _⟩
    obtain ⟨v, a, o, n⟩ := h
    refine ⟨v, by simp [World.setCell, Array.getElem?_modify, a], o.kept (grownBy_setCell' w b _) ?_, n⟩
    exact .inr n
  · have hI : Lib.BuilderAt 57 5 0 b (.pointer (some ⟨b, 0, none⟩)) l w := by
      obtain ⟨v, a, o, n⟩ := h
      exact ⟨Nat.zero_le _, v, a, ⟨o.1, o.2.imp id fun ⟨g, c, cur, e, hg, r⟩ => ⟨g, c, cur, e, Nat.zero_le _, r⟩⟩, n⟩
    refine (copyCheck_used b w hI.cell0).mono ?_
    rintro e w' ⟨rfl, rfl⟩
    exact ⟨rfl, h, Fr.refl _ _ _⟩

theorem put_bd {B b : Nat} {p v v' : Value} {l : List Value} {w : World} (hb : w.heap[b]? = some (.cells #[p, v] 57 (0, 0))) (ho : w.ownsRow B 5 1 v' l.length l) : BdAt B b p l (w.setCell ⟨b, 1, none⟩ v') := by
  have hne := Lib.ownBlock_ne ho hb (by decide)
  exact ⟨v', by simp [World.setCell, Array.getElem?_modify, hb], ho.kept (row := some b) ⟨rfl, rfl, rfl, by simp [World.setCell], fun k _ hk => Below.heap_setCell _ _ _ _ (fun e => hk (by simp [e]))⟩ (Or.inr hne), hne⟩

set_option maxHeartbeats 2000000 in
set_option maxRecDepth 100000 in
theorem WriteByte_bd (B b : Nat) (l : List Value) (c : Int) (w : World) (h : Bd B b l w) (hlen : l.length + 1 ≤ 140737488355328) (hBw : B ≤ w.heap.size) :
    Calls Tryz.prog 69 #[.pointer (some ⟨b, 0, none⟩), .int .u8 c] w fun e w' => e = .returned .nilIface ∧ Bd B b (l ++ [.int .u8 c]) w' ∧ Fr B b w w' := by
  obtain ⟨i0, hi, hz0, hz1, hz2⟩ := info_parts infoByte
  go_enter Tryz.func69, Tryz.ntmps69
  go_wp2_with fail
  refine (copyCheck_bd B b l _ h).mono ?_
  rintro e w1 ⟨rfl, h1, hf1⟩
  obtain ⟨v, hbk, hown, hne⟩ := h1
  have c0 : w1.cell? ⟨b, 0, none⟩ = some (.pointer (some ⟨b, 0, none⟩)) := by rw [Lib.cell_of_heap hbk]; rfl
  have c1 : w1.cell? ⟨b, 1, none⟩ = some v := by rw [Lib.cell_of_heap hbk]; rfl
  have hs1 := hf1.size
  have HF1 : Hid (Fr B b w w1) := hf1
  clear hf1
  go_wp2_with (at_builtin; refine wpList_append_own _ rfl _ _ 55 rfl B 5 i0 (.int .u8 0) 1 1 Tryz.underlying55 hi hz0 hz1 hz2 rfl (by decide) _ _ _ rfl (hown.alloc _) ⟨w1.heap.size, 0, none⟩ 1 1 [.int .u8 c] rfl rfl ?c1 ?c2 ?c3 ?c4 ?c5 ?_)
  case c1 =>
    intro j u hj
    match j, hj with
    | 0, hj => simp at hj; subst hj; simp [Addr.add]
  case c2 => intro u hu; simp at hu; subst hu; rfl
  case c3 => unfold maxLen; omega
  case c4 => omega
  case c5 => simp; omega
  intro v' w2 hown' hgrow _
  have hlt : b < w1.heap.size := (Array.getElem?_eq_some_iff.1 hbk).1
  have hb2 : w2.heap[b]? = some (.cells #[.pointer (some ⟨b, 0, none⟩), v] 57 (0, 0)) := by
    rw [hgrow.block b (by simp; omega) (fun e => hne e.symm), Lib.alloc_old w1 _ b hlt]
    exact hbk
  have d0 : w2.cell? ⟨b, 0, none⟩ = some (.pointer (some ⟨b, 0, none⟩)) := by rw [Lib.cell_of_heap hb2]; rfl
  have d1 : w2.cell? ⟨b, 1, none⟩ = some v := by rw [Lib.cell_of_heap hb2]; rfl
  have f1 : w2.frozen? ⟨b, 1, none⟩ = false := Lib.frozen_of_heap hb2 1
  obtain ⟨g, cap, rfl⟩ : ∃ g cap, v' = .slice (some ⟨g, 0, none⟩) (l.length + 1) cap := by
    rcases hown'.2 with ⟨_, h0⟩ | ⟨g, cap, cur, hv, _⟩
    · omega
    · exact ⟨g, cap, hv⟩
  have HF2 : Hid (Fr B b w w2) := (HF1.out.trans (Fr.alloc w1 _ (by omega))).trans (Fr.grown hgrow (hown.alloc _) (by simp; omega))
  go_wp2
  go_ret
  exact ⟨rfl, .inr (put_bd hb2 (by simpa using hown')), HF2.out.trans (Fr.set _ _)⟩

set_option maxHeartbeats 2000000 in
set_option maxRecDepth 100000 in
theorem WriteString_bd (B b : Nat) (l : List Value) (s : ByteArray) (w : World) (h : Bd B b l w) (hlen : l.length + s.size ≤ 140737488355328) (hBw : B ≤ w.heap.size) :
    Calls Tryz.prog 23 #[.pointer (some ⟨b, 0, none⟩), .string s] w fun e w' => e = .returned (.tuple #[.int .i64 s.size, .nilIface]) ∧ Bd B b (l ++ Lib.strCells s) w' ∧ Fr B b w w' := by
  obtain ⟨i0, hi, hz0, hz1, hz2⟩ := info_parts infoByte
  go_enter Tryz.func23, Tryz.ntmps23
  go_wp2_with fail
  refine (copyCheck_bd B b l _ h).mono ?_
  rintro e w1 ⟨rfl, h1, hf1⟩
  obtain ⟨v, hbk, hown, hne⟩ := h1
  have c0 : w1.cell? ⟨b, 0, none⟩ = some (.pointer (some ⟨b, 0, none⟩)) := by rw [Lib.cell_of_heap hbk]; rfl
  have c1 : w1.cell? ⟨b, 1, none⟩ = some v := by rw [Lib.cell_of_heap hbk]; rfl
  have hs1 := hf1.size
  have HF1 : Hid (Fr B b w w1) := hf1
  clear hf1
  go_wp2_with (at_builtin; refine Lib.wpList_append_own_string _ rfl _ _ 55 9 rfl B 5 i0 Tryz.underlying55 Tryz.underlying9 hi hz0 hz1 hz2 _ _ _ rfl hown s rfl ?c3 ?c4 ?c5 ?_)
  case c3 => unfold maxLen; omega
  case c4 => omega
  case c5 => omega
  intro v' w2 hown' hgrow _
  have hlt : b < w1.heap.size := (Array.getElem?_eq_some_iff.1 hbk).1
  have hb2 : w2.heap[b]? = some (.cells #[.pointer (some ⟨b, 0, none⟩), v] 57 (0, 0)) := by
    rw [hgrow.block b hlt (fun e => hne e.symm)]
    exact hbk
  have d0 : w2.cell? ⟨b, 0, none⟩ = some (.pointer (some ⟨b, 0, none⟩)) := by rw [Lib.cell_of_heap hb2]; rfl
  have d1 : w2.cell? ⟨b, 1, none⟩ = some v := by rw [Lib.cell_of_heap hb2]; rfl
  have f1 : w2.frozen? ⟨b, 1, none⟩ = false := Lib.frozen_of_heap hb2 1
  obtain ⟨ao, n', cap, rfl⟩ : ∃ ao n' cap, v' = .slice ao n' cap := by
    rcases hown'.2 with ⟨hv, _⟩ | ⟨g, cap, cur, hv, _⟩
    · exact ⟨_, _, _, hv⟩
    · exact ⟨_, _, _, hv⟩
  have HF2 : Hid (Fr B b w w2) := HF1.out.trans (Fr.grown hgrow hown (by omega))
  go_wp2
  go_ret2
  exact ⟨rfl, .inr (put_bd hb2 (by simpa [Lib.strCells_length] using hown')), HF2.out.trans (Fr.set _ _)⟩

theorem Bd.isF {B b : Nat} {l : List Value} {w : World} (h : Bd B b l w) : Lib.IsBuilderF 57 5 (min B b) b l w :=
  (h.isB _ (Nat.min_le_left _ _) (Nat.min_le_right _ _)).imp Lib.BuilderAtF.of Lib.BuilderAtF.of
theorem String_bd (B b : Nat) (l : List UInt8) (w : World) (h : Bd B b (Lib.byteCells l) w) (hBw : B ≤ w.heap.size) :
    Calls Tryz.prog 24 #[.pointer (some ⟨b, 0, none⟩)] w fun e w' => e = .returned (.string (str l)) ∧ Below (min B b) w w' ∧ Lib.OthersKept 5 (some b) w w' :=
  (Tryz.Builder_String_any_k (min B b) b l w h.isF (Nat.le_trans (Nat.min_le_left _ _) hBw)).mono fun e w' ⟨he, _, hb, ho⟩ => ⟨he, hb, ho⟩
theorem cells_app (l r : List UInt8) : Lib.byteCells (l ++ r) = Lib.byteCells l ++ Lib.byteCells r := by simp [Lib.byteCells]
theorem cells_str (l : List UInt8) : Lib.strCells (str l) = Lib.byteCells l := by simp [Lib.strCells, Lib.byteCells, str]
theorem cells_len (l : List UInt8) : (Lib.byteCells l).length = l.length := by simp [Lib.byteCells]
theorem cells_one (c : UInt8) : Lib.byteCells [c] = [.int .u8 (c.toNat : Int)] := by simp [Lib.byteCells]

end Tg
end Go.Proofs.YtndglpjkmgcdpaaGreatDoor

/-
  target: Encode.
-/
set_option linter.unusedVariables false
set_option linter.unusedSimpArgs false
namespace Go.Proofs.YtndglpjkmgcdpaaGreatDoor
open Go.RowKit Go.Shelf
namespace Tg
open Oc

theorem cls_unr {c : UInt8} (h : unr c = true) : cls c = 1 := by unfold cls; rw [if_pos h]
theorem cls_not {c : UInt8} (h : unr c = false) : (cls c == 1) = false := by
  unfold cls
  rw [if_neg (by simp [h])]
  (repeat' split) <;> decide
theorem take_enc (s : ByteArray) (k : Nat) (h : k < s.size) : enc (s.data.toList.take (k + 1)) = enc (s.data.toList.take k) ++ encB (s.data.toList.getD k 0) := by
  rw [take_snoc s k h, enc_append]; simp [enc]
theorem digits_at (n : Nat) (h : n < 16) : ∀ (h' : n < (⟨#[48, 49, 50, 51, 52, 53, 54, 55, 56, 57, 65, 66, 67, 68, 69, 70]⟩ : ByteArray).size), (⟨#[48, 49, 50, 51, 52, 53, 54, 55, 56, 57, 65, 66, 67, 68, 69, 70]⟩ : ByteArray)[n] = hd n := fun h' => (at_lt _ n h').symm

set_option maxRecDepth 100000 in
set_option maxHeartbeats 4000000 in
theorem Encode_any (s : ByteArray) (hs : s.size ≤ 40000000000) (w : World) :
    Calls Tryz.prog 79 #[.string s] w fun e w' => e = .returned (.string (str (enc s.data.toList))) ∧ Below w.heap.size w w' := by
  have hcv := fun w => Lib.run_convert_string_bytes (P := Tryz.prog) w 9 55 5 s Tryz.underlying9 Tryz.underlying55 Tryz.underlying5
  have hr := bytes_row (w.alloc (.cells #[.pointer none, .slice none 0 0] 57)) 5 s
  have hbb := below_bytes (w.alloc (.cells #[.pointer none, .slice none 0 0] 57)) 5 s
  have hbd := (Bd.new w (w.heap.size + 2)).below hbb
  have hbw : Below w.heap.size w (Lib.bytesWorld (w.alloc (.cells #[.pointer none, .slice none 0 0] 57)) 5 s) := ((Below.refl _ w).alloc (Nat.le_refl _) _).trans (hbb.mono (by simp))
  have hsz : (Lib.bytesWorld (w.alloc (.cells #[.pointer none, .slice none 0 0] 57)) 5 s).heap.size = w.heap.size + 2 := by rw [Lib.bytesWorld_size, World.size_alloc]
  rw [World.size_alloc] at hr
  have HR : Hid (_) := hr
  have HBD : Hid (_) := hbd
  have HBW : Hid (_) := hbw
  have HSZ : Hid (_) := hsz
  clear hr hbd hbw hbb hsz
  go_enter Tryz.func79, Tryz.ntmps79
  go_wp2
  go_loopw [9] (fun i wr => ∃ k : Nat, k ≤ s.size ∧ i = .int .i64 k ∧ Hid (Bd (w.heap.size + 2) w.heap.size (Lib.byteCells (enc (s.data.toList.take k))) wr) ∧ Hid (Keep (w.heap.size + 1) (Lib.bytesWorld (w.alloc (.cells #[.pointer none, .slice none 0 0] 57)) 5 s) wr) ∧ Hid (Below w.heap.size w wr) ∧ Hid (w.heap.size + 2 ≤ wr.heap.size)) (fun i _ => s.size - (intOf i).toNat)
  case atStart => exact ⟨0, Nat.zero_le _, rfl, HBD, (rfl : Keep _ _ _), HBW, (by rw [HSZ.out]; exact Nat.le_refl _ : _ ≤ _)⟩
  case round =>
    obtain ⟨k, hk, rfl, hB, hK, hW, hS⟩ := hrel
    by_cases hlt : k < s.size
    · have hck := (hK.out.cell k).trans (HR.out.cell k hlt)
      have hb1 : (byt s k) = ((s.data.toList.getD k 0).toNat : Int) := rfl
      rw [hb1] at hck
      have HT : Hid (_) := take_enc s k hlt
      generalize s.data.toList.getD k 0 = c at *
      have hel := enc_len (s.data.toList.take k)
      have htl : (s.data.toList.take k).length ≤ s.size := by rw [List.length_take, size_list]; omega
      have HL : Hid (_) := hel
      clear hel
      have hcn := c.toNat_lt
      have HFIN : Hid (∀ w', Bd (w.heap.size + 2) w.heap.size (Lib.byteCells (enc (s.data.toList.take k)) ++ Lib.byteCells (encB c)) w' → Fr (w.heap.size + 2) w.heap.size wr w' → Hid (Bd (w.heap.size + 2) w.heap.size (Lib.byteCells (enc (s.data.toList.take (k + 1)))) w') ∧ Hid (Keep (w.heap.size + 1) (Lib.bytesWorld (w.alloc (.cells #[.pointer none, .slice none 0 0] 57)) 5 s) w') ∧ Hid (Below w.heap.size w w') ∧ Hid (w.heap.size + 2 ≤ w'.heap.size)) := fun w' h1 h2 =>
        ⟨(by rw [HT.out, cells_app]; exact h1 : Bd _ _ _ _), hK.out.trans (h2.keep (by omega) (by omega)), hW.out.trans (h2.below (by omega) (Nat.le_refl _)), Nat.le_trans hS.out h2.size⟩
      cases hu : unr c with
      | true =>
        have he : encB c = [c] := by unfold encB; rw [if_pos hu]
        have hcl := cls_unr hu
        have HC : Hid (∀ w, Calls Tryz.prog 106 #[.int .u8 (c.toNat : Int)] w fun e w' => e = .returned (.int .u8 1) ∧ w' = w) := fun w => by rw [← hcl]; exact classOf_any c w
        rw [he, cells_one] at HFIN
        go_wp2_with (first | (go_at_call 106; refine (HC.out _).mono ?_; rintro e w1 ⟨rfl, rfl⟩) | (go_at_call 69; refine (WriteByte_bd _ _ _ _ _ hB.out (by rw [cells_len]; have := HL.out; omega) hS.out).mono ?_; rintro e w2 ⟨rfl, hB2, hF2⟩; obtain ⟨q1, q2, q3, q4⟩ := HFIN.out _ hB2 hF2))
        go_roundw
        case rel => exact ⟨k + 1, by omega, by go_num, q1, q2, q3, q4⟩
        case measure => simp [intOf]; omega
      | false =>
        have he : encB c = [37, hd (c.toNat / 16), hd (c.toNat % 16)] := by unfold encB; rw [if_neg (by simp [hu])]
        have hcl := cls_not hu
        have HC : Hid (∀ w, Calls Tryz.prog 106 #[.int .u8 (c.toNat : Int)] w fun e w' => e = .returned (.int .u8 (cls c)) ∧ w' = w) := fun w => classOf_any c w
        generalize cls c = v at *
        have e3 : Lib.byteCells (encB c) = [Value.int .u8 37, .int .u8 ((hd (c.toNat / 16)).toNat : Int), .int .u8 ((hd (c.toNat % 16)).toNat : Int)] := by rw [he]; rfl
        rw [e3] at HFIN
        go_wp2_with (first | (go_at_call 106; refine (HC.out _).mono ?_; rintro e w1 ⟨rfl, rfl⟩) | fail)
        refine (WriteByte_bd _ _ _ _ _ hB.out (by rw [cells_len]; have := HL.out; omega) hS.out).mono ?_
        rintro e w2 ⟨rfl, hB2, hF2⟩
        have HB2 : Hid (_) := hB2
        have HF2 : Hid (_) := hF2
        clear hB2 hF2
        go_wp2_with fail
        rw [digits_at (c.toNat / 16) (by omega)]
        refine (WriteByte_bd _ _ _ _ _ HB2.out (by rw [List.length_append, cells_len]; have := HL.out; simp; omega) (Nat.le_trans hS.out HF2.out.size)).mono ?_
        rintro e w3 ⟨rfl, hB3, hF3⟩
        have HB3 : Hid (_) := hB3
        have HF3 : Hid (_) := HF2.out.trans hF3
        clear hB3 hF3 HB2 HF2
        go_wp2_with fail
        rw [digits_at (c.toNat % 16) (by omega)]
        refine (WriteByte_bd _ _ _ _ _ HB3.out (by rw [List.length_append, List.length_append, cells_len]; have := HL.out; simp; omega) (Nat.le_trans hS.out HF3.out.size)).mono ?_
        rintro e w4 ⟨rfl, hB4, hF4⟩
        obtain ⟨q1, q2, q3, q4⟩ := HFIN.out _ (by simpa using hB4) (HF3.out.trans hF4)
        clear hB4 hF4
        go_wp2
        go_roundw
        case rel => exact ⟨k + 1, by omega, by go_num, q1, q2, q3, q4⟩
        case measure => simp [intOf]; omega
    · obtain rfl : k = s.size := by omega
      have hall : s.data.toList.take s.size = s.data.toList := List.take_of_length_le (by rw [size_list]; exact Nat.le_refl _)
      rw [hall] at hB
      clear hall
      go_wp2_with fail
      refine (String_bd _ _ _ _ hB.out hS.out).mono ?_
      rintro e w2 ⟨rfl, hb2, _⟩
      go_wp2
      go_ret
      exact ⟨rfl, hW.out.trans (hb2.mono (by omega))⟩

end Tg
end Go.Proofs.YtndglpjkmgcdpaaGreatDoor

/-
  target: Decode.
-/
set_option linter.unusedVariables false
set_option linter.unusedSimpArgs false
namespace Go.Proofs.YtndglpjkmgcdpaaGreatDoor
open Go.RowKit Go.Shelf
attribute [local go_sem] Oper.semAt_some
namespace Tg
open Oc

theorem box_fr {B b c : Nat} {t : TypeId} {v : Value} {w w' : World} (h : Boxed w c t v) (f : Fr B b w w') (hc : c < B) (hb : c ≠ b) : Boxed w' c t v := (f.block c hc hb).trans h
theorem box_below {n c : Nat} {t : TypeId} {v : Value} {w w' : World} (h : Boxed w c t v) (f : Below n w w') (hc : c < n) : Boxed w' c t v := (f.block c hc).trans h
theorem box_put {W : World} {b D : Nat} {t : TypeId} {v : Value} (h : Boxed W b t v) (hD : b ≠ D) (o : Obj) : (W.putObj D o).cell? ⟨b, 0, none⟩ = some v := by
  have e : (W.putObj D o).heap[b]? = W.heap[b]? := World.putObj_heap_other hD
  exact (World.cell?_of_block (w := W) (w' := W.putObj D o) (a := ⟨b, 0, none⟩) e).trans h.cell
theorem below_put {n : Nat} {w W : World} {D : Nat} (h : Below n w W) (hD : n ≤ D) (o : Obj) : Below n w (W.putObj D o) := ⟨h.os, h.tape, h.output, by have := h.size; simpa [World.putObj] using this, fun k hk => (World.putObj_heap_other (by omega)).trans (h.block k hk)⟩
theorem fr_wide {B b : Nat} {w w' : World} (h : Below w.heap.size w w') (hB : B ≤ w.heap.size) : Fr B b w w' := Fr.of_below h hB
def lastAt (pre : List Sg) : Nat := (pre.getLast?.map Sg.at_).getD 0
theorem lastAt_app (pre : List Sg) (x : Sg) : lastAt (pre ++ [x]) = x.at_ := by simp [lastAt]
theorem valS_one {x : Sg} {c : UInt8} (h : x.z = [c]) : valS x = [c] := by unfold valS; rw [h]
theorem valS_three {x : Sg} {a b c : UInt8} (h : x.z = [a, b, c]) : valS x = [byteOf b c] := by unfold valS; rw [h]
theorem bad_iff (x : Sg) : bad x = true ↔ x.z = [37] := by unfold bad; simp
theorem vals_len (pre : List Sg) : (pre.flatMap valS).length = pre.length := by
  induction pre with
  | nil => rfl
  | cons x r ih => rw [List.flatMap_cons, List.length_append, ih, valS_len]; simp; omega
theorem decR_all (l : List UInt8) (h : ∀ x ∈ sg 0 l, bad x = false) : decR l = ((sg 0 l).flatMap valS, 0, 0) := by
  unfold decR
  rw [List.find?_eq_none.2 (fun x hx => by rw [h x hx]; simp)]
theorem decR_at (l : List UInt8) (pre : List Sg) (x : Sg) (rest : List Sg) (e : pre ++ [x] ++ rest = sg 0 l) (h : ∀ y ∈ pre, bad y = false) (hx : bad x = true) : decR l = ([], x.at_, 51) := by
  unfold decR
  rw [← e, List.append_assoc, List.find?_append, List.find?_eq_none.2 (fun y hy => by rw [h y hy]; simp)]
  simp [hx]

set_option maxRecDepth 100000 in
set_option maxHeartbeats 8000000 in
theorem Decode_any (s : ByteArray) (hs : s.size ≤ 40000000000) (w : World) :
    Calls Tryz.prog 50 #[.string s] w fun e w' => e = .returned (.tuple #[.string (str (decR s.data.toList).1), .int .i64 ((decR s.data.toList).2.1 : Int), .int .i64 (decR s.data.toList).2.2]) ∧ Below w.heap.size w w' := by
  obtain ⟨w5, hw5⟩ : ∃ w5, w5 = (((((w.alloc (.cells #[.string ⟨#[]⟩] 9)).alloc (.cells #[.int .i64 0] 3)).alloc (.cells #[.int .i64 0] 26)).alloc (.cells #[.pointer none, .slice none 0 0] 57)).alloc (.cells #[.string s] 9)) := ⟨_, rfl⟩
  have hsz5 : w5.heap.size = w.heap.size + 5 := by rw [hw5]; simp
  have b0 : Boxed w5 w.heap.size 9 (.string ⟨#[]⟩) := by rw [hw5]; exact ((((Boxed.new w _ _).alloc _).alloc _).alloc _).alloc _
  have b1 : Boxed w5 (w.heap.size + 1) 3 (.int .i64 0) := by rw [hw5]; have := (((Boxed.new (w.alloc (.cells #[.string ⟨#[]⟩] 9)) 3 (.int .i64 0)).alloc (.cells #[.int .i64 0] 26)).alloc (.cells #[.pointer none, .slice none 0 0] 57)).alloc (.cells #[.string s] 9); rwa [World.size_alloc] at this
  have b2 : Boxed w5 (w.heap.size + 2) 26 (.int .i64 0) := by rw [hw5]; have := ((Boxed.new ((w.alloc (.cells #[.string ⟨#[]⟩] 9)).alloc (.cells #[.int .i64 0] 3)) 26 (.int .i64 0)).alloc (.cells #[.pointer none, .slice none 0 0] 57)).alloc (.cells #[.string s] 9); rwa [World.size_alloc, World.size_alloc] at this
  have b3 : Bd (w.heap.size + 5) (w.heap.size + 3) [] w5 := by
    rw [hw5]
    have h := Bd.new (((w.alloc (.cells #[.string ⟨#[]⟩] 9)).alloc (.cells #[.int .i64 0] 3)).alloc (.cells #[.int .i64 0] 26)) (w.heap.size + 5)
    rw [World.size_alloc, World.size_alloc, World.size_alloc] at h
    exact h.below ((Below.refl _ _).alloc (Nat.le_refl _) _)
  have b4 : w5.cell? ⟨w.heap.size + 4, 0, none⟩ = some (.string s) := by
    rw [hw5]
    have h := (Boxed.new ((((w.alloc (.cells #[.string ⟨#[]⟩] 9)).alloc (.cells #[.int .i64 0] 3)).alloc (.cells #[.int .i64 0] 26)).alloc (.cells #[.pointer none, .slice none 0 0] 57)) 9 (.string s)).cell
    rwa [World.size_alloc, World.size_alloc, World.size_alloc, World.size_alloc] at h
  have hB5 : Below w.heap.size w w5 := by
    rw [hw5]
    exact ((((((Below.refl _ w).alloc (Nat.le_refl _) _).alloc (by simp) _).alloc (by simp; omega) _).alloc (by simp; omega) _).alloc (by simp; omega) _)
  have HW5 : Hid (_ = _) := hw5
  refine (callsIn_wide (n := 9)).1 ?_
  refine callsIn_of_wp_marks Tryz.func50 rfl trivial ?_ rfl
  simp only [Tryz.ntmps50, List.size_toArray, List.length_cons, List.length_nil, Nat.reduceAdd, Nat.reduceSub, Array.replicate_succ, Array.replicate_zero, List.push_toArray, List.append_toArray, List.nil_append, List.cons_append]
  have hq : ∀ (k : Nat) (cs : Array Value) (W : World), (binOp .eql 134 (.func (.func k) #[] cs) .nilFunc).run Tryz.prog W = .ok (.bool false) W := fun k cs W => by kernel_rfl
  clear hw5
  gi_wp2_with (refine ⟨trivial, ?_⟩; gi_at_call 72; refine (callsIn_wide.2 (signs_any s _)).mono ?_; rintro e w3 ⟨rfl, e3⟩; have e4 := e3.trans HW5.out.symm; subst e4; clear e3)
  simp only [Nat.add_assoc, Nat.reduceAdd]
  clear HW5
  refine wpIn_rangeFunc_ownG rfl (by omega) (gf := 104) (lb := #[.pointer (some ⟨w.heap.size + 4, 0, none⟩)]) rfl trivial (enters_of Tryz.func104 (by kernel_rfl) rfl)
    (signs_stops 8 (w.heap.size + 4) s (by omega) _ b4) keepK_t (keepK_b (by omega)) (Below.refl _ _) (fun _ => rfl)
    (fun (pre : List Sg) W => (((Boxed W w.heap.size 9 (.string ⟨#[]⟩) ∧ Boxed W (w.heap.size + 1) 3 (.int .i64 0)) ∧ Boxed W (w.heap.size + 2) 26 (.int .i64 0)) ∧ Bd (w.heap.size + 5) (w.heap.size + 3) (Lib.byteCells (pre.flatMap valS)) W) ∧ ((Below w.heap.size w W ∧ w.heap.size + 5 ≤ W.heap.size) ∧ ∀ y ∈ pre, bad y = false))
    (fun c pre W => (((Boxed W w.heap.size 9 (.string ⟨#[]⟩) ∧ Boxed W (w.heap.size + 1) 3 (.int .i64 (lastAt pre : Int))) ∧ Boxed W (w.heap.size + 2) 26 (.int .i64 51)) ∧ ((Below w.heap.size w W ∧ w.heap.size + 5 ≤ W.heap.size) ∧ (c = .ret ∧ ∃ p x, pre = p ++ [x] ∧ bad x = true ∧ ∀ y ∈ p, bad y = false))))
    (OwnFrom.and (OwnFrom.and (OwnFrom.and (OwnFrom.and (Own.from (boxed_own _ _ _) _) (Own.from (boxed_own _ _ _) _)) (Own.from (boxed_own _ _ _) _)) (Own.from (bd_own _ _ (fun pre : List Sg => Lib.byteCells (pre.flatMap valS))) _)) (OwnFrom.and (OwnFrom.and (ownFrom_below (Nat.le_refl _) (by omega)) (fun _ _ _ _ h hg _ => Nat.le_trans h hg.size)) (ownFrom_pure _ _)))
    (fun c => OwnFrom.and (OwnFrom.and (OwnFrom.and (Own.from (boxed_own _ _ _) _) (Own.from (boxed_own _ _ (fun pre : List Sg => .int .i64 (lastAt pre : Int))) _)) (Own.from (boxed_own _ _ _) _)) (OwnFrom.and (OwnFrom.and (ownFrom_below (Nat.le_refl _) (by omega)) (fun _ _ _ _ h hg _ => Nat.le_trans h hg.size)) (ownFrom_pure _ (fun pre : List Sg => c = .ret ∧ ∃ p x, pre = p ++ [x] ∧ bad x = true ∧ ∀ y ∈ p, bad y = false))))
    ⟨⟨⟨⟨b0, b1⟩, b2⟩, b3⟩, ⟨⟨hB5, by omega⟩, fun y hy => by cases hy⟩⟩
    (fun x : Sg => { tmps := #[.string s, undef, .pointer (some ⟨w.heap.size, 0, none⟩), .pointer (some ⟨w.heap.size + 1, 0, none⟩), .pointer (some ⟨w.heap.size + 2, 0, none⟩), .pointer (some ⟨w.heap.size + 3, 0, none⟩), .int .i64 (x.at_ : Int), .string (str x.z), .string s, .func (.func 104) #[] #[.pointer (some ⟨w.heap.size + 4, 0, none⟩)], .int .i64 (x.at_ : Int), .string (str x.z), undef, undef, undef, undef, undef, undef, undef, undef, undef, undef, undef, undef, undef], defers := [] }) ?assign ?body ?done ?stop
  case assign =>
    intro l x W K hK
    unfold encS
    gi_wp2
    exact hK
  case body =>
    rintro l pre x W ⟨⟨⟨⟨c0, c1⟩, c2⟩, c3⟩, ⟨⟨hB, hS⟩, hp⟩⟩ hlt
    obtain ⟨p, z, ok⟩ := x
    dsimp only
    have hvl : (Lib.byteCells (pre.flatMap valS)).length = pre.length := by rw [cells_len, vals_len]
    rcases ok with ⟨h3, ht⟩ | ⟨h1, ht⟩
    · obtain ⟨a, b, c, rfl⟩ : ∃ a b c, z = [a, b, c] := by
        match z, h3 with
        | [a, b, c], _ => exact ⟨a, b, c, rfl⟩
      have hs3 : str [a, b, c] = ⟨#[a, b, c]⟩ := rfl
      rw [hs3]
      have hh : (hx b && hx c) = true := by simp [trip] at ht; simp [ht.2]
      have HT : Hid (∀ W, Calls Tryz.prog 73 #[.string ⟨#[a, b, c]⟩] W fun e W' => e = .returned (.bool true) ∧ Below W.heap.size W W') := fun W => by
        have h := isTriple_any ⟨#[a, b, c]⟩ W
        have e : (decide ((⟨#[a, b, c]⟩ : ByteArray).size = 3) && trip (⟨#[a, b, c]⟩ : ByteArray).data.toList) = true := by rw [show trip (⟨#[a, b, c]⟩ : ByteArray).data.toList = true from ht]; rfl
        rw [e] at h
        exact h
      have HV : Hid (∀ W, _) := fun W => tripleByte_any a b c hh W
      have hvx : valS ⟨p, [a, b, c], .inl ⟨h3, ht⟩⟩ = [byteOf b c] := rfl
      gi_wp2_with (first | (refine ⟨trivial, ?_⟩; gi_at_call 73; refine ((callsIn_wide.2 (HT.out _)).inRound l).mono ?_; rintro e W1 ⟨rfl, k1⟩) | (refine ⟨trivial, ?_⟩; gi_at_call 74; refine ((callsIn_wide.2 (HV.out _)).inRound l).mono ?_; rintro e W2 ⟨rfl, k2⟩) | (refine ⟨trivial, ?_⟩; gi_at_call 69; refine ((callsIn_wide.2 (WriteByte_bd (w.heap.size + 5) (w.heap.size + 3) _ _ _ ((c3.below k1).below k2) (by rw [hvl]; omega) (Nat.le_trans hS (Nat.le_trans k1.size k2.size)))).inRound l).mono ?_; rintro e W3 ⟨rfl, hB3, hF3⟩))
      have hF : Fr (w.heap.size + 5) (w.heap.size + 3) W W3 := ((Fr.of_below k1 hS).trans (Fr.of_below k2 (Nat.le_trans hS k1.size))).trans hF3
      refine ⟨hF.others.from _, hF.keep (by omega) (by omega), ⟨⟨⟨box_fr c0 hF (by omega) (by omega), box_fr c1 hF (by omega) (by omega)⟩, box_fr c2 hF (by omega) (by omega)⟩, ?_⟩, ⟨⟨hB.trans (hF.below (by omega) (by omega)), Nat.le_trans hS hF.size⟩, ?_⟩⟩
      · rw [List.flatMap_append, cells_app, List.flatMap_cons, hvx]
        exact hB3
      · intro y hy
        rcases List.mem_append.1 hy with h | h
        · exact hp y h
        · simp at h; subst h; simp [bad]
    · obtain ⟨a, rfl⟩ : ∃ a, z = [a] := by
        match z, h1 with
        | [a], _ => exact ⟨a, rfl⟩
      have HT : Hid (∀ W, Calls Tryz.prog 73 #[.string (str [a])] W fun e W' => e = .returned (.bool false) ∧ Below W.heap.size W W') := fun W => isTriple_any (str [a]) W
      by_cases ha : a = 37
      · subst ha
        have hs1 : str [37] = ⟨#[37]⟩ := rfl
        rw [hs1] at HT ⊢
        gi_wp2_with (refine ⟨trivial, ?_⟩; gi_at_call 73; refine ((callsIn_wide.2 (HT.out _)).inRound l).mono ?_; rintro e W1 ⟨rfl, k1⟩; have d0 := box_below c0 k1 (by omega); have d1 := box_below c1 k1 (by omega); have d2 := box_below c2 k1 (by omega); have e0 := d0.cell; have e1 := d1.cell; have e2 := d2.cell; have f0 := d0.frozen; have f1 := d1.frozen; have f2 := d2.frozen)
        have hk : Below w.heap.size w W1 := hB.trans (k1.mono (by omega))
        refine ⟨((((Fr.of_below (b := 0) k1 (Nat.le_refl _)).others.trans (KeepsOthers.setCell _ _ _)).trans (KeepsOthers.setCell _ _ _)).trans (KeepsOthers.setCell _ _ _)).from _, ⟨⟨⟨((d0.set _).other (by omega) _).other (by omega) _, ?_⟩, ((d2.other (by omega) _).other (by omega) _).set _⟩, ⟨⟨((hk.setCell (p := ⟨w.heap.size, 0, none⟩) (Nat.le_refl _) _).setCell (p := ⟨w.heap.size + 1, 0, none⟩) (by simp) _).setCell (p := ⟨w.heap.size + 2, 0, none⟩) (by simp) _, ?_⟩, ⟨rfl, pre, _, rfl, rfl, hp⟩⟩⟩⟩
        · rw [lastAt_app]
          exact ((d1.other (by omega) _).set _).other (by omega) _
        · have := k1.size
          simp [World.setCell]
          omega
      · have hne : ((str [a]).toList == [37]) = false := by rw [ByteArray.toList_eq]; simp [str, ha]
        have hvx : valS ⟨p, [a], .inr ⟨h1, ht⟩⟩ = [a] := rfl
        have hz1 : (str [a]).size = 1 := rfl
        gi_wp2_with (first | (refine ⟨trivial, ?_⟩; gi_at_call 73; refine ((callsIn_wide.2 (HT.out _)).inRound l).mono ?_; rintro e W1 ⟨rfl, k1⟩) | (refine ⟨trivial, ?_⟩; gi_at_call 23; refine ((callsIn_wide.2 (WriteString_bd (w.heap.size + 5) (w.heap.size + 3) _ _ _ (c3.below k1) (by rw [hvl, hz1]; omega) (Nat.le_trans hS k1.size))).inRound l).mono ?_; rintro e W3 ⟨rfl, hB3, hF3⟩))
        have hF : Fr (w.heap.size + 5) (w.heap.size + 3) W W3 := (Fr.of_below k1 hS).trans hF3
        refine ⟨hF.others.from _, hF.keep (by omega) (by omega), ⟨⟨⟨box_fr c0 hF (by omega) (by omega), box_fr c1 hF (by omega) (by omega)⟩, box_fr c2 hF (by omega) (by omega)⟩, ?_⟩, ⟨⟨hB.trans (hF.below (by omega) (by omega)), Nat.le_trans hS hF.size⟩, ?_⟩⟩
        · rw [List.flatMap_append, cells_app, List.flatMap_cons, hvx]
          rw [cells_str] at hB3
          exact hB3
        · intro y hy
          rcases List.mem_append.1 hy with h | h
          · exact hp y h
          · simp at h; subst h; simp [bad, ha]
  case done =>
    rintro D ys W hD rfl ⟨⟨⟨⟨c0, c1⟩, c2⟩, c3⟩, ⟨⟨hB, hS⟩, hp⟩⟩ hK
    have hA := decR_all s.data.toList hp
    gi_wp2_with (refine ⟨trivial, ?_⟩; gi_at_call 24; refine (callsIn_wide.2 (String_bd (w.heap.size + 5) (w.heap.size + 3) _ _ c3 hS)).mono ?_; rintro e W1 ⟨rfl, k1, ho⟩; have k1' : Below (w.heap.size + 3) W W1 := k1.mono (by omega); have d0 := box_below c0 k1' (by omega); have d1 := box_below c1 k1' (by omega); have d2 := box_below c2 k1' (by omega); have e0 := d0.cell; have e1 := d1.cell; have e2 := d2.cell; have f0 := d0.frozen; have f1 := d1.frozen; have f2 := d2.frozen)
    have hK1 : W1.heap[D]? = some (Obj.deferred (some [])) := ho D _ hK (by intro e; cases e; omega) (by intro c fz e; cases e)
    have hk : Below w.heap.size w W1 := hB.trans (k1.mono (by omega))
    have g0 := ((d0.set (.string (str ((sg 0 s.data.toList).flatMap valS)))).other (show w.heap.size ≠ w.heap.size + 1 by omega) (.int .i64 0)).other (show w.heap.size ≠ w.heap.size + 2 by omega) (.int .i64 0)
    have g1 := ((d1.other (show w.heap.size + 1 ≠ w.heap.size by omega) (.string (str ((sg 0 s.data.toList).flatMap valS)))).set (.int .i64 0)).other (show w.heap.size + 1 ≠ w.heap.size + 2 by omega) (.int .i64 0)
    have g2 := ((d2.other (show w.heap.size + 2 ≠ w.heap.size by omega) (.string (str ((sg 0 s.data.toList).flatMap valS)))).other (show w.heap.size + 2 ≠ w.heap.size + 1 by omega) (.int .i64 0)).set (.int .i64 0)
    have hkb := ((hk.setCell (p := ⟨w.heap.size, 0, none⟩) (Nat.le_refl _) (.string (str ((sg 0 s.data.toList).flatMap valS)))).setCell (p := ⟨w.heap.size + 1, 0, none⟩) (by simp) (.int .i64 0)).setCell (p := ⟨w.heap.size + 2, 0, none⟩) (by simp) (.int .i64 0)
    have hK2 := (KeepsOthers.setCell ((W1.setCell ⟨w.heap.size, 0, none⟩ (.string (str ((sg 0 s.data.toList).flatMap valS)))).setCell ⟨w.heap.size + 1, 0, none⟩ (.int .i64 0)) ⟨w.heap.size + 2, 0, none⟩ (.int .i64 0)).same D _ ((KeepsOthers.setCell _ _ _).same D _ ((KeepsOthers.setCell _ _ _).same D _ hK1 rfl) rfl) rfl
    generalize (((W1.setCell ⟨w.heap.size, 0, none⟩ (.string (str ((sg 0 s.data.toList).flatMap valS)))).setCell ⟨w.heap.size + 1, 0, none⟩ (.int .i64 0)).setCell ⟨w.heap.size + 2, 0, none⟩ (.int .i64 0)) = W2 at *
    refine ⟨by simp, .inl ⟨_, _, rfl, run_takeDeferred hK2, ?_⟩⟩
    have q0 := box_put g0 (show w.heap.size ≠ D by omega) (.deferred none)
    have q1 := box_put g1 (show w.heap.size + 1 ≠ D by omega) (.deferred none)
    have q2 := box_put g2 (show w.heap.size + 2 ≠ D by omega) (.deferred none)
    rw [hA]
    exact ⟨.tuple #[.string (str ((sg 0 s.data.toList).flatMap valS)), .int .i64 0, .int .i64 0], by simp [results, Tryz.results50, go_sem, q0, q1, q2], rfl, below_put hkb (by omega) _⟩
  case stop =>
    rintro D c pre W hD ⟨rest, hrest⟩ ⟨⟨⟨c0, c1⟩, c2⟩, ⟨⟨hB, hS⟩, ⟨rfl, p, x, rfl, hbx, hp⟩⟩⟩ hK
    rw [lastAt_app] at c1
    have hR := decR_at s.data.toList p x rest hrest hp hbx
    gi_wp2
    refine ⟨by simp, .inl ⟨_, _, rfl, run_takeDeferred hK, ?_⟩⟩
    have q0 := box_put c0 (show w.heap.size ≠ D by omega) (.deferred none)
    have q1 := box_put c1 (show w.heap.size + 1 ≠ D by omega) (.deferred none)
    have q2 := box_put c2 (show w.heap.size + 2 ≠ D by omega) (.deferred none)
    rw [hR]
    exact ⟨.tuple #[.string ⟨#[]⟩, .int .i64 (x.at_ : Int), .int .i64 51], by simp [results, Tryz.results50, go_sem, q0, q1, q2], rfl, below_put hB (by omega) _⟩

end Tg
end Go.Proofs.YtndglpjkmgcdpaaGreatDoor
