/- Several texts as one. -/
import Derived.Test.YtifhbjkgdnemjaaGreatDoorMgC
import Derived.Test.YtifhbjkgdnemjaaGreatDoorMgD
import Derived.Test.YtifhbjkgdnemjaaGreatDoorMgE
import Derived.Test.YtifhbjkgdnemjaaGreatDoorCkK
import Derived.Test.YtifhbjkgdnemjaaGreatDoorCkL
import Derived.Test.YtifhbjkgdnemjaaGreatDoorCkI
import Derived.Test.YtifhbjkgdnemjaaGreatDoorCkM
import Derived.Test.YtifhbjkgdnemjaaGreatDoorSameL
import Derived.Test.YtifhbjkgdnemjaaGreatDoorRows
import Derived.Deep.DeepHandedRow
import Derived.Lay
import Derived.Stop.Joined
/-
  chunk.PrintSize, writeSize, writeChunk.
-/
set_option linter.unusedVariables false
set_option linter.unusedSimpArgs false
set_option maxRecDepth 100000
namespace Go.Proofs.YtifhbjkgdnemjaaGreatDoor
open Go.RowKit Go.Shelf
namespace Ck
open Oc Tg _root_.Go.Proofs.YtifhbjkgdnemjaaGreatDoor.Fd

/-- The table that FormatInt reads lies. -/
def Deb (w : World) : Prop := w.cell? ⟨3, 15, none⟩ = some (.int .u8 4)
theorem Deb.below {w w' : World} (h : Deb w) (b : Below w.heap.size w w') : Deb w' := (b.cell (World.block_lt_of_cell? w _ h)).trans h
theorem Deb.belowB {w w' : World} {B : Nat} (h : Deb w) (b : Below B w w') (hB : w.heap.size ≤ B) : Deb w' := (b.cell (Nat.lt_of_lt_of_le (World.block_lt_of_cell? w _ h) hB)).trans h

theorem prtsLen : ∀ {t : List Prm} {x : List UInt8}, prts t = some x → x.length ≤ 2 * sumP t
  | [], x, h => by cases h; exact Nat.zero_le _
  | p :: r, x, h => by
    unfold prts at h
    cases hp : prt1 p with
    | none => rw [hp] at h; cases h
    | some a =>
      rw [hp] at h
      obtain ⟨b, hb, rfl⟩ := Option.map_eq_some_iff.1 h
      have h1 := prt1_len hp
      have h2 := prtsLen hb
      show (a ++ b).length ≤ 2 * (szP p + sumP r)
      rw [List.length_append]
      omega
/-- A size line, its error. -/
def sizeP (n : Int) (t : List Prm) : List UInt8 × Int :=
  if n < 0 ∨ 1099511627776 < n then ([], 1) else match prts t with
    | none => ([], 15)
    | some x => if 254 < (hexd n.toNat ++ x).length then ([], 100) else (hexd n.toNat ++ x, 0)
theorem sizeP_nil (n : Nat) (h : n ≤ 1099511627776) : sizeP (n : Int) [] = (hexd n, 0) := by
  have hl := hexd_len 10 n (Nat.lt_of_le_of_lt h (by decide))
  unfold sizeP
  rw [if_neg (by omega)]
  simp only [prts, List.append_nil, Int.toNat_natCast]
  rw [if_neg (by omega)]

set_option maxHeartbeats 2000000 in
theorem PrintSize_any (n : Int) (v : Value) (t : List Prm) (w : World) (h : RdP v t w) (hl : t.length ≤ 16777216) (hS : sumP t ≤ 8388608) (tb : Tab w) (td : Deb w) :
    Calls Tryz.prog 10 #[.int .i64 n, v] w fun e w' => e = .returned (.tuple #[.string (str (sizeP n t).1), .int .i64 (sizeP n t).2]) ∧ Below w.heap.size w w' := by
  have HP : Hid (Calls Tryz.prog 25 #[v] w fun e w' => e = .returned (.tuple #[.string (str (printR t).1), .int .i64 (printR t).2]) ∧ Below w.heap.size w w') := Print_any v t w h hl hS tb
  have HD : Hid (Deb w) := td
  clear h tb td
  by_cases h0 : n < 0
  · have HE : Hid (sizeP n t = ([], 1)) := (by unfold sizeP; rw [if_pos (.inl h0)] : sizeP n t = _)
    go_enter Tryz.func10, Tryz.ntmps10
    go_wp2
    go_ret2
    rw [HE.out]
    exact ⟨rfl, Below.refl _ _⟩
  by_cases h1 : 1099511627776 < n
  · have HE : Hid (sizeP n t = ([], 1)) := (by unfold sizeP; rw [if_pos (.inr h1)] : sizeP n t = _)
    go_enter Tryz.func10, Tryz.ntmps10
    go_wp2
    go_ret2
    rw [HE.out]
    exact ⟨rfl, Below.refl _ _⟩
  obtain ⟨k, rfl⟩ : ∃ k : Nat, n = (k : Int) := ⟨n.toNat, by omega⟩
  have hk : k ≤ 1099511627776 := by omega
  have HF : Hid (∀ w, Deb w → Calls Tryz.prog 26 #[.int .i64 (k : Int), .int .i64 16] w fun e w' => e = .returned (.string (str (hexd k))) ∧ Below w.heap.size w w') := fun w h => FormatInt_any k hk w h
  have hlen := hexd_len 10 k (Nat.lt_of_le_of_lt hk (by decide))
  cases hp : prts t with
  | none =>
    have HE : Hid (sizeP k t = ([], 15)) := (by unfold sizeP; rw [if_neg (by omega), hp] : sizeP k t = _)
    have HR : Hid (printR t = ([], 15)) := (by unfold printR; rw [hp] : printR t = _)
    clear hp
    go_enter Tryz.func10, Tryz.ntmps10
    go_wp2_with fail
    refine HP.out.mono ?_
    rintro e w1 ⟨rfl, hb1⟩
    have HB1 : Hid (Below w.heap.size w w1) := hb1
    clear hb1
    rw [HR.out]
    go_wp2
    go_ret2
    rw [HE.out]
    exact ⟨rfl, HB1.out⟩
  | some x =>
    have HR : Hid (printR t = (x, 0)) := (by unfold printR; rw [hp] : printR t = _)
    have hxl : x.length ≤ 16777216 := by
      have := prtsLen hp
      omega
    have HE : Hid (sizeP k t = if 254 < (hexd k ++ x).length then ([], 100) else (hexd k ++ x, 0)) := (by unfold sizeP; rw [if_neg (by omega), hp]; rfl : sizeP k t = _)
    clear hp
    have hs1 := str_size (hexd k)
    have hs2 := str_size x
    have HA : Hid (str (hexd k) ++ str x = str (hexd k ++ x)) := str_app _ _
    have hz : (str (hexd k)).size + (str x).size ≤ 9223372036854775807 := by omega
    have hsz : (str (hexd k) ++ str x).size = (hexd k ++ x).length := by rw [HA.out, str_size]
    have hz2 : ¬ 9223372036854775807 < (str (hexd k)).size + (str x).size := by omega
    generalize hexd k ++ x = L at *
    generalize str (hexd k) = X at *
    go_enter Tryz.func10, Tryz.ntmps10
    go_wp2_with fail
    refine HP.out.mono ?_
    rintro e w1 ⟨rfl, hb1⟩
    have HB1 : Hid (Below w.heap.size w w1) := hb1
    have HD1 : Hid (Deb w1) := HD.out.below hb1
    clear hb1
    rw [HR.out]
    dsimp only
    generalize str x = Y at *
    go_wp2_with fail
    refine (HF.out _ HD1.out).mono ?_
    rintro e w2 ⟨rfl, hb2⟩
    have HB2 : Hid (Below w.heap.size w w2) := bel_trans HB1.out hb2
    clear hb2
    by_cases hbig : 254 < L.length
    · rw [if_pos hbig] at HE
      have hb' : ((254 : Int) < ((X ++ Y).size : Int)) := by rw [hsz]; omega
      go_wp2
      go_ret2
      rw [HE.out]
      exact ⟨rfl, HB2.out⟩
    · rw [if_neg hbig] at HE
      have hb' : ¬ ((254 : Int) < ((X ++ Y).size : Int)) := by rw [hsz]; omega
      go_wp2
      go_ret2
      rw [HE.out]
      exact ⟨by rw [← HA.out]; rfl, HB2.out⟩

/-- A size line with its end. -/
def lineC (n : Nat) : List UInt8 := hexd n ++ [13, 10]
/-- A chunk. -/
def chunkC (t : List UInt8) : List UInt8 := if t = [] then [] else lineC t.length ++ t ++ [13, 10]

set_option maxHeartbeats 2000000 in
theorem writeSize_bd (B b : Nat) (l : List UInt8) (n : Nat) (hn : n ≤ 1099511627776) (w : World) (h : Bd B b (Lib.byteCells l) w) (hl : l.length ≤ 100000000000) (hB : B ≤ w.heap.size) (tb : Tab w) (td : Deb w) :
    Calls Tryz.prog 33 #[.pointer (some ⟨b, 0, none⟩), .int .i64 (n : Int)] w fun e w' => e = .returned (.tuple #[]) ∧ Bd B b (Lib.byteCells (l ++ lineC n)) w' ∧ Fr B b w w' := by
  have hlen := hexd_len 10 n (Nat.lt_of_le_of_lt hn (by decide))
  have HP : Hid (Calls Tryz.prog 10 #[.int .i64 (n : Int), .slice none 0 0] w fun e w' => e = .returned (.tuple #[.string (str (hexd n)), .int .i64 0]) ∧ Below w.heap.size w w') := by
    have := PrintSize_any (n : Int) (.slice none 0 0) [] w ⟨none, 0, rfl, .inl rfl⟩ (by simp) (by simp [sumP]) tb td
    rw [sizeP_nil n hn] at this
    exact this
  have HH : Hid (Bd B b (Lib.byteCells l) w) := h
  clear h tb td
  have h1 : (Lib.byteCells l).length + (str (hexd n)).size ≤ 140737488355328 := by rw [Fd.cells_len, str_size]; omega
  have h2 : (Lib.byteCells l ++ Lib.strCells (str (hexd n))).length + (⟨#[13, 10]⟩ : ByteArray).size ≤ 140737488355328 := by rw [cells_str, ← cells_app, Fd.cells_len, List.length_append]; show _ + 2 ≤ _; omega
  have HE : Hid (Lib.byteCells (l ++ lineC n) = Lib.byteCells l ++ Lib.strCells (str (hexd n)) ++ Lib.strCells ⟨#[13, 10]⟩) := (by
    show _ = _ ++ Lib.strCells (str [13, 10])
    rw [cells_str, cells_str, ← cells_app, ← cells_app]
    unfold lineC
    rw [List.append_assoc] : _ = _)
  have H1 : Hid ((Lib.byteCells l).length + (str (hexd n)).size ≤ 140737488355328) := h1
  have H2 : Hid ((Lib.byteCells l ++ Lib.strCells (str (hexd n))).length + (⟨#[13, 10]⟩ : ByteArray).size ≤ 140737488355328) := h2
  clear h1 h2
  generalize str (hexd n) = X at *
  go_enter Tryz.func33, Tryz.ntmps33
  go_wp2_with fail
  refine HP.out.mono ?_
  rintro e w1 ⟨rfl, hb1⟩
  have HB1 : Hid (Bd B b (Lib.byteCells l) w1) := HH.out.below hb1
  have HF1 : Hid (Fr B b w w1) := Fr.of_below hb1 hB
  have hs1 := hb1.size
  clear hb1
  go_wp2_with fail
  refine (WriteString_bd B b _ X w1 HB1.out H1.out (by omega)).mono ?_
  rintro e w2 ⟨rfl, hb2, hf2⟩
  have HB2 : Hid (Bd B b (Lib.byteCells l ++ Lib.strCells X) w2) := hb2
  have HF2 : Hid (Fr B b w w2) := HF1.out.trans hf2
  have hs2 := hf2.size
  clear hb2 hf2
  go_wp2_with fail
  refine (WriteString_bd B b _ _ w2 HB2.out H2.out (by omega)).mono ?_
  rintro e w3 ⟨rfl, hb3, hf3⟩
  have HB3 : Hid (Bd B b (Lib.byteCells (l ++ lineC n)) w3) := (by rw [HE.out]; exact hb3 : Bd _ _ _ _)
  have HF3 : Hid (Fr B b w w3) := HF2.out.trans hf3
  clear hb3 hf3
  go_wp2
  go_end0
  exact ⟨rfl, HB3.out, HF3.out⟩

end Ck
end Go.Proofs.YtifhbjkgdnemjaaGreatDoor

/-
  chunk: how a text is cut has no part, plain; the law's kind; slices of numbers.
-/
set_option linter.unusedVariables false
set_option linter.unusedSimpArgs false
set_option maxRecDepth 100000
namespace Go.Proofs.YtifhbjkgdnemjaaGreatDoor
open Go.RowKit Go.Shelf
namespace Ck
open Oc Tg _root_.Go.Proofs.YtifhbjkgdnemjaaGreatDoor.Fd

def tot (s : DS) (x : Int) : DS := { s with total := x }
theorem tot_self (s : DS) : tot s s.total = s := rfl
theorem tot_tot (s : DS) (x y : Int) : tot (tot s x) y = tot s y := rfl
theorem fin_tot (s : DS) (x e : Int) : fin (tot s x) e = tot (fin s e) x := rfl
theorem tot_ite (c : Prop) [Decidable c] (a b : DS) (x : Int) : tot (if c then a else b) x = if c then tot a x else tot b x := by split <;> rfl
theorem endSize_tot (s : DS) (x : Int) : endSize (tot s x) = tot (endSize s) x := by
  unfold endSize
  rw [tot_ite, tot_ite, tot_ite, tot_ite]
  rfl
theorem inSize_tot (s : DS) (x : Int) (c : UInt8) : inSize (tot s x) c = tot (inSize s c) x := by
  unfold inSize
  rw [tot_ite, tot_ite, ← endSize_tot]
  rfl
theorem behindChunk_tot (s : DS) (x : Int) (c : UInt8) : behindChunk (tot s x) c = tot (behindChunk s c) x := by
  unfold behindChunk
  rw [tot_ite]
  rfl
theorem behindReturn_tot (s : DS) (x : Int) (c : UInt8) : behindReturn (tot s x) c = tot (behindReturn s c) x := by
  unfold behindReturn
  rw [tot_ite]
  rfl
theorem keep_tot (s : DS) (x : Int) (l : List UInt8) : keep (tot s x) l = tot (keep s l) x := by
  unfold keep
  rw [tot_ite]
  rfl
theorem endTrailer_tot (s : DS) (x : Int) : endTrailer (tot s x) = tot (endTrailer s) x := by
  unfold endTrailer
  rw [tot_ite, tot_ite, tot_ite, ← keep_tot]
  rfl
theorem inTrailers_tot (s : DS) (x : Int) (c : UInt8) : inTrailers (tot s x) c = tot (inTrailers s c) x := by
  unfold inTrailers
  rw [tot_ite, tot_ite, ← endTrailer_tot]
  rfl
theorem bstep_tot (s : DS) (x : Int) (c : UInt8) : bstep (tot s x) c = tot (bstep s c) x := by
  unfold bstep
  have hm : (tot s x).mode = s.mode := rfl
  rw [hm]
  generalize s.mode = m
  match m with
  | 0 => exact inSize_tot s x c
  | 1 => rfl
  | 2 => exact behindChunk_tot s x c
  | 3 => exact behindReturn_tot s x c
  | 4 => exact inTrailers_tot s x c
  | _ + 5 => rfl
theorem eat_tot : ∀ (l : List UInt8) (s : DS) (x : Int), eat (tot s x) l = ((eat s l).1, tot (eat s l).2 x)
  | [], s, x => by rw [eat_nil, eat_nil]
  | c :: l, s, x => by
    by_cases h : s.mode = 5
    · rw [eat_over h, eat_over (s := tot s x) h]
    · rw [eat_cons h, eat_cons (s := tot s x) h, bstep_tot, eat_tot l]

/-- What is left of a text for one that took the first of it, in pieces. -/
structure Part (s0 : DS) (L : List UInt8) (p : Nat) (s : DS) : Prop where
  le : p ≤ L.length
  ok : Ok s p
  total : s.total = p
  eq : eat s0 L = (p + (eat s (L.drop p)).1, tot (eat s (L.drop p)).2 s0.total)
theorem Part.start {s0 : DS} (h : Ok s0 0) (L : List UInt8) (ht : s0.total = 0) : Part s0 L 0 s0 := by
  refine ⟨Nat.zero_le _, h, ht, ?_⟩
  have e := eat_tot (L.drop 0) s0 s0.total
  rw [tot_self] at e
  have e2 := congrArg Prod.snd e
  simp only at e2
  rw [← e2, List.drop_zero, Nat.zero_add]
theorem Part.feed {s0 s : DS} {L : List UInt8} {p : Nat} (h : Part s0 L p s) (hm : s.mode ≠ 5) (k : Nat) (hk : k ≤ (L.drop p).length) :
    Part s0 L (p + (eat s ((L.drop p).take k)).1) (feedS s ((L.drop p).take k)) := by
  have hle := eat_le ((L.drop p).take k) s
  rw [List.length_take] at hle
  have hl := h.le
  rw [List.length_drop] at hk hle
  have ho := eat_ok ((L.drop p).take k) s p h.ok
  have hf : feedS s ((L.drop p).take k) = tot (eat s ((L.drop p).take k)).2 ((eat s ((L.drop p).take k)).2.total + (eat s ((L.drop p).take k)).1) := by unfold feedS; rw [if_neg hm]; rfl
  have htt : (eat s ((L.drop p).take k)).2.total = p := by
    have e := congrArg Prod.snd (eat_tot ((L.drop p).take k) s s.total)
    rw [tot_self] at e
    rw [e]
    exact h.total
  rw [hf, htt]
  refine ⟨by omega, ?_, ?_, ?_⟩
  · exact ⟨ho.mode, ho.most, ho.room, ho.fields, ho.left, ho.pos, ⟨by show (0 : Int) ≤ p + _; omega, by show (p : Int) + _ ≤ ((p + _ : Nat) : Int); omega⟩, ho.len, ho.size, ho.bare, ho.over⟩
  · show (p : Int) + _ = ((p + _ : Nat) : Int); omega
  · rw [h.eq, eat_tot]
    have e1 : eat s (L.drop p) = ((eat s ((L.drop p).take k)).1 + (eat (eat s ((L.drop p).take k)).2 ((L.drop p).drop k)).1, (eat (eat s ((L.drop p).take k)).2 ((L.drop p).drop k)).2) := by
      conv => lhs; rw [← List.take_append_drop k (L.drop p)]
      exact eat_app _ _ _
    rw [e1]
    by_cases h5 : (eat s ((L.drop p).take k)).2.mode = 5
    · rw [eat_over h5, eat_over h5]
      simp only [tot_tot]
      simp
    · have ha := eat_all _ _ h5
      rw [List.length_take, List.length_drop, Nat.min_eq_left hk] at ha
      rw [ha, List.drop_drop]
      simp only [tot_tot]
      rw [Nat.add_assoc]
/-- One that is over, or has taken the rest, is as it would be at once. -/
theorem Part.over {s0 s : DS} {L : List UInt8} {p : Nat} (h : Part s0 L p s) (h0 : s0.mode ≠ 5) (ht : s0.total = 0) (he : eat s (L.drop p) = (0, s)) : feedS s0 L = s ∧ feedN s0 L = p ∧ feedE s0 L = s.err := by
  have e := h.eq
  rw [he] at e
  simp only [Nat.add_zero] at e
  unfold feedS feedN feedE
  rw [if_neg h0, if_neg h0, if_neg h0, e]
  refine ⟨?_, rfl, rfl⟩
  show tot (tot s s0.total) (s0.total + (p : Int)) = s
  rw [ht, tot_tot, Int.zero_add, ← h.total, tot_self]

/-- The value is a slice of these numbers. -/
def RdI (w : World) (v : Value) (l : List Int) : Prop :=
  ∃ a cap, v = .slice a l.length cap ∧ l.length ≤ cap ∧ (∀ x ∈ l, -9223372036854775808 ≤ x ∧ x ≤ 9223372036854775807) ∧ (l = [] ∨ ∃ g o, a = some ⟨g, o, none⟩ ∧ ∀ j x, l[j]? = some x → w.cell? ⟨g, o + j, none⟩ = some (.int .i64 x))
theorem RdI.below {w w' : World} {v : Value} {l : List Int} (h : RdI w v l) (b : Below w.heap.size w w') : RdI w' v l := by
  obtain ⟨a, c, e, h1, h2, h3⟩ := h
  refine ⟨a, c, e, h1, h2, ?_⟩
  rcases h3 with h | ⟨g, o, e, h⟩
  · exact .inl h
  · exact .inr ⟨g, o, e, fun j x hj => (But.of_below b).cell (h j x hj) (fun e => by cases e)⟩

set_option maxHeartbeats 1000000 in
theorem kind_any (w : World) (k n : Int) (hk0 : -9223372036854775808 ≤ k) (hk1 : k ≤ 9223372036854775807) (hn0 : 1 ≤ n) (hn1 : n ≤ 4611686018427387903) : Calls Tryz.prog 21 #[.int .i64 k, .int .i64 n] w fun e w' => ∃ j : Nat, e = .returned (.int .i64 j) ∧ (j : Int) < n ∧ Below w.heap.size w w' := by
  have h1 : -n < k.tmod n := by
    have := Int.lt_tmod_of_pos k (show 0 < n by omega)
    omega
  have h2 : k.tmod n < n := Int.tmod_lt_of_pos k (by omega)
  have h3 : 0 ≤ (k.tmod n + n) % n := Int.emod_nonneg _ (by omega)
  have h4 : (k.tmod n + n) % n < n := Int.emod_lt_of_pos _ (by omega)
  have hz : (n == 0) = false := by simp; omega
  go_enter Tryz.func21, Tryz.ntmps21
  go_wp2
  go_ret
  refine ⟨((k.tmod n + n) % n).toNat, ?_, ?_, Below.refl _ _⟩
  · rw [Int.toNat_of_nonneg h3]; rfl
  · rw [Int.toNat_of_nonneg h3]; exact h4

end Ck
end Go.Proofs.YtifhbjkgdnemjaaGreatDoor

/-
  chunk.writeChunk, printTrailers, Encode.
-/
set_option linter.unusedVariables false
set_option linter.unusedSimpArgs false
set_option maxRecDepth 100000
namespace Go.Proofs.YtifhbjkgdnemjaaGreatDoor
open Go.RowKit Go.Shelf
namespace Ck
open Oc Tg _root_.Go.Proofs.YtifhbjkgdnemjaaGreatDoor.Fd

set_option maxHeartbeats 2000000 in
theorem writeChunk_bd (B b : Nat) (l : List UInt8) (s : ByteArray) (hn : s.size ≤ 1099511627776) (w : World) (h : Bd B b (Lib.byteCells l) w) (hl : l.length ≤ 100000000000) (hB : B ≤ w.heap.size) (tb : Tab w) (td : Deb w) :
    Calls Tryz.prog 32 #[.pointer (some ⟨b, 0, none⟩), .string s] w fun e w' => e = .returned (.tuple #[]) ∧ Bd B b (Lib.byteCells (l ++ chunkC s.data.toList)) w' ∧ Fr B b w w' := by
  by_cases h0 : s.size = 0
  · have he : s.toList.isEmpty = true := empty_of h0
    have hl0 : s.data.toList = [] := List.length_eq_zero_iff.1 (by rw [size_list]; exact h0)
    have HE : Hid (l ++ chunkC s.data.toList = l) := (by unfold chunkC; rw [if_pos hl0, List.append_nil] : _ = _)
    have HH : Hid (Bd B b (Lib.byteCells l) w) := h
    clear h tb td hl0
    go_enter Tryz.func32, Tryz.ntmps32
    go_wp2
    refine bodyPost_ret (results_none rfl _ _ _) rfl ?_
    rw [HE.out]
    exact ⟨rfl, HH.out, Fr.refl _ _ _⟩
  have hne : s.toList.isEmpty = false := by
    cases hb : s.toList.isEmpty with
    | false => rfl
    | true =>
      rw [List.isEmpty_iff, ByteArray.toList_eq] at hb
      exact absurd (by rw [← size_list, hb]; rfl) h0
  have hll : s.data.toList.length = s.size := size_list s
  have hl0 : s.data.toList ≠ [] := fun e => h0 (by rw [← hll, e]; rfl)
  have hlen := hexd_len 10 s.size (Nat.lt_of_le_of_lt hn (by decide))
  have HS : Hid (Calls Tryz.prog 33 #[.pointer (some ⟨b, 0, none⟩), .int .i64 (s.size : Int)] w fun e w' => e = .returned (.tuple #[]) ∧ Bd B b (Lib.byteCells (l ++ lineC s.size)) w' ∧ Fr B b w w') := writeSize_bd B b l s.size hn w h hl hB tb td
  clear h tb td
  have hcl : (lineC s.size).length ≤ 13 := by unfold lineC; rw [List.length_append]; simp; omega
  have H1 : Hid ((Lib.byteCells (l ++ lineC s.size)).length + s.size ≤ 140737488355328) := (by rw [Fd.cells_len, List.length_append]; omega : _ ≤ _)
  have H2 : Hid ((Lib.byteCells (l ++ lineC s.size) ++ Lib.strCells s).length + (⟨#[13, 10]⟩ : ByteArray).size ≤ 140737488355328) := (by rw [List.length_append, Fd.cells_len, List.length_append, Lib.strCells_length]; show _ + 2 ≤ _; omega : _ ≤ _)
  have HE : Hid (Lib.byteCells (l ++ chunkC s.data.toList) = Lib.byteCells (l ++ lineC s.size) ++ Lib.strCells s ++ Lib.strCells ⟨#[13, 10]⟩) := (by
    show _ = _ ++ Lib.strCells (str [13, 10])
    have hs : Lib.strCells s = Lib.byteCells s.data.toList := by rw [← cells_str, str_self]
    rw [hs, cells_str, ← cells_app, ← cells_app]
    unfold chunkC
    rw [if_neg hl0, hll]
    simp only [List.append_assoc] : _ = _)
  clear hcl hl0 hll hlen
  go_enter Tryz.func32, Tryz.ntmps32
  go_wp2_with fail
  refine HS.out.mono ?_
  rintro e w1 ⟨rfl, hb1, hf1⟩
  have HB1 : Hid (Bd B b (Lib.byteCells (l ++ lineC s.size)) w1) := hb1
  have HF1 : Hid (Fr B b w w1) := hf1
  have hs1 := hf1.size
  clear hb1 hf1
  go_wp2_with fail
  refine (WriteString_bd B b _ s w1 HB1.out H1.out (by omega)).mono ?_
  rintro e w2 ⟨rfl, hb2, hf2⟩
  have HB2 : Hid (Bd B b (Lib.byteCells (l ++ lineC s.size) ++ Lib.strCells s) w2) := hb2
  have HF2 : Hid (Fr B b w w2) := HF1.out.trans hf2
  have hs2 := hf2.size
  clear hb2 hf2
  go_wp2_with fail
  refine (WriteString_bd B b _ _ w2 HB2.out H2.out (by omega)).mono ?_
  rintro e w3 ⟨rfl, hb3, hf3⟩
  have HB3 : Hid (Bd B b (Lib.byteCells (l ++ chunkC s.data.toList)) w3) := (by rw [HE.out]; exact hb3 : Bd _ _ _ _)
  have HF3 : Hid (Fr B b w w3) := HF2.out.trans hf3
  clear hb3 hf3
  go_wp2
  go_end0
  exact ⟨rfl, HB3.out, HF3.out⟩

/-- May a field be a trailer? -/
def okT (p : Fl) : Bool := isName p.1 && isValue p.2 && trails p.1
def trailG (t : List Fl) : List UInt8 := t.flatMap fun p => lineP p ++ [13, 10]
/-- A trailer section, its error. -/
def trailP (t : List Fl) : List UInt8 × Int := if t.all okT then (trailG t ++ [13, 10], 0) else ([], 101)
theorem okT_chk {p : Fl} : okT p = (decide (chkZ p = 0) && trails p.1) := by
  unfold okT
  rcases chk_cases p with ⟨h, h1, h2⟩ | ⟨h, h1, h2⟩ | ⟨h, h1⟩
  · rw [h, h1, h2]; rfl
  · rw [h, h1, h2]; rfl
  · rw [h, h1]; simp
theorem trailG_snoc (t : List Fl) (k : Nat) (h : k < t.length) : trailG (t.take (k + 1)) = trailG (t.take k) ++ lineP (Fd.nth t k) ++ [13, 10] := by
  have : t.take (k + 1) = t.take k ++ [Fd.nth t k] := by
    rw [List.take_add_one]
    congr 1
    rw [List.getElem?_eq_getElem h]
    unfold Fd.nth
    rw [List.getD_eq_getElem?_getD, List.getElem?_eq_getElem h]
    rfl
  rw [this]
  unfold trailG
  rw [List.flatMap_append]
  simp
theorem szSum : ∀ (t : List Fl) (k : Nat), k < t.length → szF (Fd.nth t k) ≤ sumF t
  | [], k, h => by simp at h
  | p :: t, 0, _ => by
    show szF p ≤ sumF (p :: t)
    simp [sumF]
  | p :: t, k + 1, h => by
    have := szSum t k (by simpa using h)
    show szF (Fd.nth t k) ≤ sumF (p :: t)
    simp only [sumF, List.map_cons, List.sum_cons] at this ⊢
    omega
theorem all_of (t : List Fl) (h : ∀ j, j < t.length → okT (Fd.nth t j) = true) : t.all okT = true := by
  rw [List.all_eq_true]
  intro p hp
  obtain ⟨j, hj, rfl⟩ := List.mem_iff_getElem.1 hp
  have := h j hj
  unfold Fd.nth at this
  rw [List.getD_eq_getElem?_getD, List.getElem?_eq_getElem hj] at this
  exact this
theorem not_all (t : List Fl) (j : Nat) (hj : j < t.length) (h : okT (Fd.nth t j) = false) : t.all okT = false := by
  rw [List.all_eq_false]
  refine ⟨t[j], List.getElem_mem hj, ?_⟩
  unfold Fd.nth at h
  rw [List.getD_eq_getElem?_getD, List.getElem?_eq_getElem hj] at h
  simpa using h

set_option maxHeartbeats 4000000 in
theorem printTrailers_any (v : Value) (t : List Fl) (hs : sumF t ≤ 1048576) (w : World) (hr : RdF v t w) (tab : Tab w) :
    Calls Tryz.prog 31 #[v] w fun e w' => e = .returned (.tuple #[.string (str (trailP t).1), .int .i64 (trailP t).2]) ∧ Below w.heap.size w w' := by
  have hlen := len_sumF t
  have HR : Hid (RdF v t w) := hr
  have HT : Hid (Tab w) := tab
  obtain ⟨a, c, rfl, _⟩ := hr
  clear tab
  have HBD : Hid (Bd (w.heap.size + 1) w.heap.size (Lib.byteCells (trailG (t.take 0))) (w.alloc (.cells #[.pointer none, .slice none 0 0] 74))) := Bd.new w (w.heap.size + 1)
  go_enter Tryz.func31, Tryz.ntmps31
  go_wp2
  go_loopw [11] (fun i wr => ∃ (k : Nat), k ≤ t.length ∧ i = .int .i64 k ∧ Hid (∀ j, j < k → okT (Fd.nth t j) = true) ∧ Hid ((trailG (t.take k)).length ≤ k * 1048600) ∧ Hid (Bd (w.heap.size + 1) w.heap.size (Lib.byteCells (trailG (t.take k))) wr) ∧ Hid (Below w.heap.size w wr) ∧ Hid (w.heap.size + 1 ≤ wr.heap.size)) (fun i _ => t.length - (intOf i).toNat)
  case atStart => exact ⟨0, Nat.zero_le _, rfl, (fun j hj => by omega : ∀ j, j < 0 → _), (by simp [trailG] : _ ≤ _), HBD, (Below.refl _ w).alloc (Nat.le_refl _) _, (by simp : _ ≤ _)⟩
  case round =>
    obtain ⟨k, hk, rfl, hok, hal, hB, hW, hS⟩ := hrel
    by_cases hlt : k < t.length
    · obtain ⟨a', c', e', hcs⟩ := HR.out.below hW.out
      injection e' with e1 _ e2
      subst e1 e2
      rcases hcs with h | ⟨g, o, rfl, hlc, hcell⟩
      · rw [h] at hlt; simp at hlt
      obtain ⟨p0, p1⟩ := hcell k hlt
      have hz := szSum t k hlt
      have hll := lineP_len (Fd.nth t k)
      have HSn : Hid (trailG (t.take (k + 1)) = trailG (t.take k) ++ lineP (Fd.nth t k) ++ [13, 10]) := trailG_snoc t k hlt
      have NX : okT (Fd.nth t k) = true → Hid (∀ j, j < k + 1 → okT (Fd.nth t j) = true) := fun h j hj => by
        by_cases hjk : j = k
        · subst hjk; exact h
        · exact hok.out j (by omega)
      have BD : okT (Fd.nth t k) = false → Hid (trailP t = ([], 101)) := fun h => (by unfold trailP; rw [not_all t k hlt h]; rfl : trailP t = _)
      have hp1 : (Fd.nth t k).1.length ≤ 1048576 := by unfold szF at hz; omega
      have hp2 : (Fd.nth t k).2.length ≤ 1048576 := by unfold szF at hz; omega
      have HPL : Hid (∀ w, Tab w → Calls Tryz.prog 46 #[.agg #[.string (str (Fd.nth t k).1), .string (str (Fd.nth t k).2)]] w fun e w' => e = .returned (.tuple #[.string (str (printL (Fd.nth t k)).1), .int .i64 (printL (Fd.nth t k)).2]) ∧ Below w.heap.size w w') := fun w tb => PrintLine_any (Fd.nth t k) (by omega) (by omega) w tb
      have HMT : Hid (∀ w, Tab w → Calls Tryz.prog 47 #[.string (str (Fd.nth t k).1)] w fun e w' => e = .returned (.bool (trails (Fd.nth t k).1)) ∧ Below w.heap.size w w') := fun w tb => MayTrail_any _ (by unfold maxLen; omega) w tb
      clear hcell
      have hok2 : okT (Fd.nth t k) = (decide (chkZ (Fd.nth t k) = 0) && trails (Fd.nth t k).1) := okT_chk
      generalize okT (Fd.nth t k) = ok at *
      generalize Fd.nth t k = p at *
      have hx : (lineP p).length ≤ 1048576 := by omega
      have hxs : (str (lineP p)).size ≤ 1048576 := by rw [str_size]; exact hx
      generalize trails p.1 = tr at *
      generalize str p.1 = N at *
      generalize str p.2 = V at *
      have hb1 : Below wr.heap.size wr (wr.alloc (.cells #[.string N, .string V] 39)) := (Below.refl _ wr).alloc (Nat.le_refl _) _
      have HBW : Hid (Below w.heap.size w (wr.alloc (.cells #[.string N, .string V] 39))) := bel_trans hW.out hb1
      have HB1 : Hid (Bd (w.heap.size + 1) w.heap.size (Lib.byteCells (trailG (t.take k))) (wr.alloc (.cells #[.string N, .string V] 39))) := hB.out.below hb1
      have HS1 : Hid (w.heap.size + 1 ≤ (wr.alloc (.cells #[.string N, .string V] 39)).heap.size) := Nat.le_trans hS.out hb1.size
      have hC0 : (wr.alloc (.cells #[.string N, .string V] 39)).cell? ⟨wr.heap.size, 0, none⟩ = some (.string N) := by simp
      have hlw : wr.heap.size < (wr.alloc (.cells #[.string N, .string V] 39)).heap.size := by simp
      have HC0 : Hid ((wr.alloc (.cells #[.string N, .string V] 39)).cell? ⟨wr.heap.size, 0, none⟩ = some (.string N)) := hC0
      clear hb1 hz hll hp1 hp2 hC0 hlw
      by_cases hz0 : chkZ p = 0
      · rw [show printL p = (lineP p, 0) by unfold printL; rw [if_pos hz0]] at HPL
        dsimp only at HPL
        rw [hz0, show decide ((0 : Int) = 0) = true from rfl, Bool.true_and] at hok2
        clear hz0
        subst hok2
        generalize hLP : lineP p = LP at *
        clear hLP
        go_wp2_with fail
        refine (HPL.out _ (HT.out.below HBW.out (Nat.le_refl _))).mono ?_
        rintro e w2 ⟨rfl, hb2⟩
        have HB2 : Hid (Bd (w.heap.size + 1) w.heap.size (Lib.byteCells (trailG (t.take k))) w2) := HB1.out.below hb2
        have HW2 : Hid (Below w.heap.size w w2) := bel_trans HBW.out hb2
        have HS2 : Hid (w.heap.size + 1 ≤ w2.heap.size) := Nat.le_trans HS1.out hb2.size
        have hC2 : w2.cell? ⟨wr.heap.size, 0, none⟩ = some (.string N) := (hb2.cell (World.block_lt_of_cell? _ _ HC0.out)).trans HC0.out
        have HTw : Hid (Tab w2) := HT.out.below HW2.out (Nat.le_refl _)
        clear hb2 HC0 HB1 HBW HS1
        cases ok with
        | false =>
          have bd := BD rfl
          clear NX BD
          go_wp2_with fail
          refine (HMT.out _ HTw.out).mono ?_
          rintro e w3 ⟨rfl, hb3⟩
          have HW3 : Hid (Below w.heap.size w w3) := bel_trans HW2.out hb3
          clear hb3
          go_wp2
          go_ret2
          exact ⟨by rw [bd.out]; rfl, HW3.out⟩
        | true =>
          have nx := NX rfl
          clear NX BD
          go_wp2_with fail
          refine (HMT.out _ HTw.out).mono ?_
          rintro e w3 ⟨rfl, hb3⟩
          have HB3 : Hid (Bd (w.heap.size + 1) w.heap.size (Lib.byteCells (trailG (t.take k))) w3) := HB2.out.below hb3
          have HW3 : Hid (Below w.heap.size w w3) := bel_trans HW2.out hb3
          have HS3 : Hid (w.heap.size + 1 ≤ w3.heap.size) := Nat.le_trans HS2.out hb3.size
          clear hb3 hC2
          go_wp2_with fail
          refine (WriteString_bd _ _ _ _ _ HB3.out (by rw [Fd.cells_len]; have := hal.out; omega) HS3.out).mono ?_
          rintro e w4 ⟨rfl, hB4, hF4⟩
          have HB4 : Hid (Bd (w.heap.size + 1) w.heap.size (Lib.byteCells (trailG (t.take k) ++ LP)) w4) := by
            show Bd _ _ _ _
            rw [cells_app, ← cells_str LP]
            exact hB4
          have HF4 : Hid (Fr (w.heap.size + 1) w.heap.size w3 w4) := hF4
          have HS4 : Hid (w.heap.size + 1 ≤ w4.heap.size) := Nat.le_trans HS3.out hF4.size
          clear hB4 hF4
          go_wp2_with fail
          refine (WriteString_bd _ _ _ _ _ HB4.out (by rw [Fd.cells_len, List.length_append]; have := hal.out; show _ + 2 ≤ _; omega) HS4.out).mono ?_
          rintro e w5 ⟨rfl, hB5, hF5⟩
          have HB5 : Hid (Bd (w.heap.size + 1) w.heap.size (Lib.byteCells (trailG (t.take (k + 1)))) w5) := by
            show Bd _ _ _ _
            rw [HSn.out, cells_app (trailG (t.take k) ++ LP), ← cells_str [13, 10]]
            exact hB5
          have hF := HF4.out.trans hF5
          have HW5 : Hid (Below w.heap.size w w5) := HW3.out.trans (hF.below (by omega) (Nat.le_refl _))
          have HS5 : Hid (w.heap.size + 1 ≤ w5.heap.size) := Nat.le_trans HS3.out hF.size
          have HA5 : Hid ((trailG (t.take (k + 1))).length ≤ (k + 1) * 1048600) := by show _ ≤ _; rw [HSn.out, List.length_append, List.length_append]; have := hal.out; simp; omega
          clear hB5 hF5 hF
          go_wp2
          go_roundw
          case rel => exact ⟨k + 1, by omega, by go_num, nx, HA5, HB5, HW5, HS5⟩
          case measure => simp [intOf]; omega
      · have hzd : decide (chkZ p = 0) = false := by simp [hz0]
        rw [hzd, Bool.false_and] at hok2
        have bd := BD hok2
        rw [show printL p = ([], chkZ p) by unfold printL; rw [if_neg hz0]] at HPL
        dsimp only at HPL
        have hzq : (chkZ p != 0) = true := by simp [hz0]
        clear NX BD hz0 hzd hok2
        generalize chkZ p = z at *
        go_wp2_with fail
        refine (HPL.out _ (HT.out.below HBW.out (Nat.le_refl _))).mono ?_
        rintro e w2 ⟨rfl, hb2⟩
        have HW2 : Hid (Below w.heap.size w w2) := bel_trans HBW.out hb2
        clear hb2
        go_wp2
        go_ret2
        exact ⟨by rw [bd.out]; rfl, HW2.out⟩
    · have hkl : k = t.length := by omega
      have HE : Hid (trailP t = (trailG t ++ [13, 10], 0)) := by
        show _ = _
        unfold trailP
        rw [all_of t (fun j hj => hok.out j (by omega)), if_pos rfl]
      have HB : Hid (Bd (w.heap.size + 1) w.heap.size (Lib.byteCells (trailG t)) wr) := by
        have := hB.out
        rw [hkl, List.take_length] at this
        exact this
      have hal2 : (trailG t).length ≤ t.length * 1048600 := by
        have := hal.out
        rw [hkl, List.take_length] at this
        exact this
      go_wp2_with fail
      refine (WriteString_bd _ _ _ _ _ HB.out (by rw [Fd.cells_len]; show _ + 2 ≤ _; omega) hS.out).mono ?_
      rintro e w2 ⟨rfl, hB2, hF2⟩
      have HB2 : Hid (Bd (w.heap.size + 1) w.heap.size (Lib.byteCells (trailG t ++ [13, 10])) w2) := by
        show Bd _ _ _ _
        rw [cells_app, ← cells_str [13, 10]]
        exact hB2
      have HW2 : Hid (Below w.heap.size w w2) := hW.out.trans (hF2.below (by omega) (Nat.le_refl _))
      have HS2 : Hid (w.heap.size + 1 ≤ w2.heap.size) := Nat.le_trans hS.out hF2.size
      clear hB2 hF2
      go_wp2_with fail
      refine (String_bd _ _ _ _ HB2.out HS2.out).mono ?_
      rintro e w3 ⟨rfl, hb3, _⟩
      have HW3 : Hid (Below w.heap.size w w3) := HW2.out.trans (hb3.mono (by omega))
      clear hb3
      go_wp2
      go_ret2
      exact ⟨by rw [HE.out]; rfl, HW3.out⟩

end Ck
end Go.Proofs.YtifhbjkgdnemjaaGreatDoor

/-
  chunk.Encode.
-/
set_option linter.unusedVariables false
set_option linter.unusedSimpArgs false
set_option maxRecDepth 100000
namespace Go.Proofs.YtifhbjkgdnemjaaGreatDoor
open Go.RowKit Go.Shelf
namespace Ck
open Oc Tg _root_.Go.Proofs.YtifhbjkgdnemjaaGreatDoor.Fd

def nthI (l : List Int) (j : Nat) : Int := l.getD j 0
theorem nthI_some (l : List Int) (j : Nat) (h : j < l.length) : l[j]? = some (nthI l j) := by
  unfold nthI
  rw [List.getD_eq_getElem?_getD, List.getElem?_eq_getElem h]
  rfl
/-- The first of them that is below 1. -/
def lowI1 (l : List Int) : Int := match l.findIdx? (fun x => decide (x < 1)) with | some k => (k : Int) | none => -1
theorem lowI1_at {l : List Int} {k : Nat} (hk : k < l.length) (h : nthI l k < 1) (hno : ∀ j, j < k → ¬ nthI l j < 1) : lowI1 l = k := by
  have : l.findIdx? (fun x => decide (x < 1)) = some k := by
    rw [List.findIdx?_eq_some_iff_getElem]
    have e : ∀ j (hj : j < l.length), l[j] = nthI l j := fun j hj => by unfold nthI; rw [List.getD_eq_getElem?_getD, List.getElem?_eq_getElem hj]; rfl
    refine ⟨hk, by rw [e k hk]; simpa using h, fun j hj => by rw [e j (by omega)]; simpa using hno j hj⟩
  unfold lowI1
  rw [this]
theorem lowI1_no {l : List Int} (h : ∀ j, j < l.length → ¬ nthI l j < 1) : lowI1 l = -1 := by
  have : l.findIdx? (fun x => decide (x < 1)) = none := by
    rw [List.findIdx?_eq_none_iff]
    intro x hx
    obtain ⟨j, hj, rfl⟩ := List.mem_iff_getElem.1 hx
    have := h j hj
    unfold nthI at this
    rw [List.getD_eq_getElem?_getD, List.getElem?_eq_getElem hj] at this
    simpa using this
  unfold lowI1
  rw [this]
theorem lowI1_iff (l : List Int) : lowI1 l = -1 ∨ 0 ≤ lowI1 l := by
  unfold lowI1
  split
  · right; omega
  · left; rfl

set_option maxHeartbeats 1000000 in
theorem Encode1_any (x : Int) (w : World) : Calls Tryz.prog 30 #[.int .i64 x] w fun e w' => e = .returned (.bool (decide (x < 1))) ∧ w' = w := by
  go_enter Tryz.func30, Tryz.ntmps30
  go_wp2
  go_ret
  exact ⟨rfl, rfl⟩

set_option maxHeartbeats 1000000 in
theorem IndexFunc_i (v : Value) (l : List Int) (hl : l.length ≤ 4294967296) (w : World) (hr : RdI w v l) :
    Calls Tryz.prog 45 #[v, .func (.func 30) #[] #[]] w fun e w' => e = .returned (.int .i64 (lowI1 l)) ∧ w' = w := by
  obtain ⟨a, c, rfl, hc, hbd, hr⟩ := hr
  have HR : Hid (l = [] ∨ ∃ g o, a = some ⟨g, o, none⟩ ∧ ∀ j x, l[j]? = some x → w.cell? ⟨g, o + j, none⟩ = some (.int .i64 x)) := hr
  clear hr hbd
  go_enter Tryz.func45, Tryz.ntmps45
  go_wp2
  go_loopw [8] (fun i wr => ∃ k : Nat, k ≤ l.length ∧ i = .int .i64 k ∧ Hid (∀ j, j < k → 1 ≤ nthI l j) ∧ w = wr) (fun i _ => l.length - (intOf i).toNat)
  case atStart => exact ⟨0, Nat.zero_le _, rfl, (fun j hj => by omega : ∀ j, j < 0 → _), rfl⟩
  case round =>
    obtain ⟨k, hk, rfl, hall, rfl⟩ := hrel
    by_cases hlt : k < l.length
    · rcases HR.out with h | ⟨g, o, rfl, hcell⟩
      · rw [h] at hlt; simp at hlt
      have p0 := hcell k _ (nthI_some l k hlt)
      clear hcell
      by_cases hx : nthI l k < 1
      · have HT : Hid (lowI1 l = k) := lowI1_at hlt hx (fun j hj => by have := hall.out j hj; omega)
        have HN : Hid (∀ W, Calls Tryz.prog 30 #[.int .i64 (nthI l k)] W fun e w' => e = .returned (.bool true) ∧ w' = W) := fun W => by
          have := Encode1_any (nthI l k) W
          rw [show decide (nthI l k < 1) = true by simp [hx]] at this
          exact this
        clear hx
        generalize nthI l k = X at *
        go_wp2_with fail
        refine (HN.out _).mono ?_
        rintro e w2 ⟨rfl, hw⟩
        rw [hw]
        clear hw
        go_wp2
        go_ret
        exact ⟨ret_int HT.out.symm, rfl⟩
      · have HF : Hid (∀ j, j < k + 1 → 1 ≤ nthI l j) := (fun j hj => by
          by_cases hjk : j = k
          · subst hjk; omega
          · exact hall.out j (by omega) : ∀ j, j < k + 1 → 1 ≤ nthI l j)
        have HN : Hid (∀ W, Calls Tryz.prog 30 #[.int .i64 (nthI l k)] W fun e w' => e = .returned (.bool false) ∧ w' = W) := fun W => by
          have := Encode1_any (nthI l k) W
          rw [show decide (nthI l k < 1) = false by simp; omega] at this
          exact this
        clear hx
        generalize nthI l k = X at p0 HN
        go_wp2_with fail
        refine (HN.out _).mono ?_
        rintro e w2 ⟨rfl, hw⟩
        rw [hw]
        clear hw
        go_wp2
        go_roundw
        case rel => exact ⟨k + 1, by omega, by go_num, HF, trivial⟩
        case measure => simp [intOf]; omega
    · have HT : Hid (lowI1 l = -1) := lowI1_no (fun j hj => by have := hall.out j (by omega); omega)
      go_wp2
      go_ret
      exact ⟨ret_int HT.out.symm, rfl⟩
set_option maxHeartbeats 1000000 in
theorem ContainsFunc_i (v : Value) (l : List Int) (hl : l.length ≤ 4294967296) (w : World) (hr : RdI w v l) :
    Calls Tryz.prog 29 #[v, .func (.func 30) #[] #[]] w fun e w' => e = .returned (.bool (decide (0 ≤ lowI1 l))) ∧ w' = w := by
  have HI : Hid (Calls Tryz.prog 45 #[v, .func (.func 30) #[] #[]] w fun e w' => e = .returned (.int .i64 (lowI1 l)) ∧ w' = w) := IndexFunc_i v l hl w hr
  obtain ⟨a, c, rfl, _⟩ := hr
  go_enter Tryz.func29, Tryz.ntmps29
  go_wp2_with fail
  refine HI.out.mono ?_
  rintro e w2 ⟨rfl, hw⟩
  rw [hw]
  clear hw
  go_wp2
  go_ret
  exact ⟨rfl, rfl⟩

/-- A body in chunks of these sizes. -/
def cutC : List Int → List UInt8 → List UInt8
  | [], b => chunkC b
  | n :: ns, b => chunkC (b.take n.toNat) ++ cutC ns (b.drop n.toNat)
/-- What Encode answers. -/
def encR (body : List UInt8) (sizes : List Int) (t : List Fl) : List UInt8 × Int :=
  if 0 ≤ lowI1 sizes then ([], 1) else if t.all okT then (cutC sizes body ++ lineC 0 ++ (trailG t ++ [13, 10]), 0) else ([], 101)
theorem chunkC_len (t : List UInt8) (h : t.length ≤ 1099511627776) : (chunkC t).length ≤ t.length + 15 := by
  unfold chunkC
  split
  · simp
  · have := hexd_len 10 t.length (Nat.lt_of_le_of_lt h (by decide))
    unfold lineC
    simp only [List.length_append, List.length_cons, List.length_nil]
    omega
theorem cutC_drop (l : List Int) (k : Nat) (h : k < l.length) (b : List UInt8) : cutC (l.drop k) b = chunkC (b.take (nthI l k).toNat) ++ cutC (l.drop (k + 1)) (b.drop (nthI l k).toNat) := by
  have : l.drop k = nthI l k :: l.drop (k + 1) := by
    rw [List.drop_eq_getElem_cons h]
    unfold nthI
    rw [List.getD_eq_getElem?_getD, List.getElem?_eq_getElem h]
    rfl
  rw [this]
  rfl

theorem nthI_mem (l : List Int) (j : Nat) (h : j < l.length) : nthI l j ∈ l := by
  unfold nthI
  rw [List.getD_eq_getElem?_getD, List.getElem?_eq_getElem h]
  exact List.getElem_mem h
theorem lowI1_hit {l : List Int} {j : Nat} (hj : j < l.length) (h : nthI l j < 1) : 0 ≤ lowI1 l := by
  unfold lowI1
  cases hf : l.findIdx? (fun x => decide (x < 1)) with
  | some k => simp
  | none =>
    rw [List.findIdx?_eq_none_iff] at hf
    have := hf _ (nthI_mem l j hj)
    simp at this
    omega
theorem trailG_len : ∀ t : List Fl, (trailG t).length ≤ 2 * sumF t
  | [] => by simp [trailG]
  | p :: t => by
    have ih := trailG_len t
    have h1 := lineP_len p
    have e : trailG (p :: t) = lineP p ++ [13, 10] ++ trailG t := by simp [trailG]
    have e2 : sumF (p :: t) = szF p + sumF t := by simp [sumF]
    have h3 : 3 ≤ szF p := by unfold szF; omega
    rw [e, e2, List.length_append, List.length_append]
    simp only [List.length_cons, List.length_nil]
    omega

set_option maxHeartbeats 4000000 in
theorem Encode_any (body : ByteArray) (hb : body.size ≤ 1048576) (vs : Value) (l : List Int) (hl : l.length ≤ 1048576) (vt : Value) (t : List Fl) (hs : sumF t ≤ 1048576) (w : World) (hi : RdI w vs l) (hr : RdF vt t w) (tab : Tab w) (td : Deb w) :
    Calls Tryz.prog 14 #[.string body, vs, vt] w fun e w' => e = .returned (.tuple #[.string (str (encR body.data.toList l t).1), .int .i64 (encR body.data.toList l t).2]) ∧ Below w.heap.size w w' := by
  have HC : Hid (Calls Tryz.prog 29 #[vs, .func (.func 30) #[] #[]] w fun e w' => e = .returned (.bool (decide (0 ≤ lowI1 l))) ∧ w' = w) := ContainsFunc_i vs l (by omega) w hi
  have HPT : Hid (Calls Tryz.prog 31 #[vt] w fun e w' => e = .returned (.tuple #[.string (str (trailP t).1), .int .i64 (trailP t).2]) ∧ Below w.heap.size w w') := printTrailers_any vt t hs w hr tab
  have HT : Hid (Tab w) := tab
  have HD : Hid (Deb w) := td
  have HI : Hid (RdI w vs l) := hi
  obtain ⟨a, c, rfl, hlc, hbd, _⟩ := hi
  obtain ⟨a2, c2, rfl, _⟩ := hr
  have HBd : Hid (∀ x ∈ l, -9223372036854775808 ≤ x ∧ x ≤ 9223372036854775807) := hbd
  clear tab td hbd
  have hsl : (trailG t).length ≤ 2 * sumF t := trailG_len t
  by_cases h0 : 0 ≤ lowI1 l
  · have HE : Hid (encR body.data.toList l t = ([], 1)) := (by unfold encR; rw [if_pos h0] : _ = _)
    have hd : decide (0 ≤ lowI1 l) = true := by simp [h0]
    rw [hd] at HC
    clear h0 hd
    go_enter Tryz.func14, Tryz.ntmps14
    go_wp2_with fail
    refine HC.out.mono ?_
    rintro e w2 ⟨rfl, hw⟩
    rw [hw]
    clear hw
    go_wp2
    go_ret2
    rw [HE.out]
    exact ⟨rfl, Below.refl _ _⟩
  have hd : decide (0 ≤ lowI1 l) = false := by simp; omega
  rw [hd] at HC
  have HE : Hid (encR body.data.toList l t = if t.all okT then (cutC l body.data.toList ++ lineC 0 ++ (trailG t ++ [13, 10]), 0) else ([], 101)) := (by unfold encR; rw [if_neg h0] : _ = _)
  have HPos : Hid (∀ j, j < l.length → 1 ≤ nthI l j) := (fun j hj => by
    by_cases h : nthI l j < 1
    · exact absurd (lowI1_hit hj h) h0
    · omega : ∀ j, j < l.length → 1 ≤ nthI l j)
  clear h0 hd
  cases hall : t.all okT with
  | false =>
    have HTP : Hid (trailP t = ([], 101)) := (by unfold trailP; rw [hall]; rfl : _ = _)
    rw [hall] at HE
    rw [HTP.out] at HPT
    go_enter Tryz.func14, Tryz.ntmps14
    go_wp2_with fail
    refine HC.out.mono ?_
    rintro e w2 ⟨rfl, hw⟩
    rw [hw]
    clear hw
    go_wp2_with fail
    refine HPT.out.mono ?_
    rintro e w3 ⟨rfl, hb3⟩
    have HB3 : Hid (Below w.heap.size w w3) := hb3
    clear hb3
    go_wp2
    go_ret2
    rw [HE.out]
    exact ⟨rfl, HB3.out⟩
  | true =>
    have HTP : Hid (trailP t = (trailG t ++ [13, 10], 0)) := (by unfold trailP; rw [hall]; rfl : _ = _)
    rw [hall, if_pos rfl] at HE
    rw [HTP.out] at HPT
    dsimp only at HPT
    have hzs : (str (trailG t ++ [13, 10])).size ≤ 3000000 := by rw [str_size, List.length_append]; simp; omega
    have HCS : Hid (Lib.strCells (str (trailG t ++ [13, 10])) = Lib.byteCells (trailG t ++ [13, 10])) := cells_str _
    generalize str (trailG t ++ [13, 10]) = SEC at *
    go_enter Tryz.func14, Tryz.ntmps14
    go_wp2_with fail
    refine HC.out.mono ?_
    rintro e w2 ⟨rfl, hw⟩
    rw [hw]
    clear hw
    go_wp2_with fail
    refine HPT.out.mono ?_
    rintro e w3 ⟨rfl, hb3⟩
    have HB3 : Hid (Below w.heap.size w w3) := hb3
    have HBD : Hid (Bd (w3.heap.size + 1) w3.heap.size (Lib.byteCells []) (w3.alloc (.cells #[.pointer none, .slice none 0 0] 74))) := Bd.new w3 (w3.heap.size + 1)
    have hs3 := hb3.size
    have HB4 : Hid (Below w.heap.size w (w3.alloc (.cells #[.pointer none, .slice none 0 0] 74))) := hb3.alloc hs3 _
    clear hb3
    go_wp2
    go_loopw [0, 25] (fun bv i wr => ∃ (k : Nat) (B : ByteArray) (acc : List UInt8), k ≤ l.length ∧ i = .int .i64 k ∧ bv = .string B ∧ B.size ≤ 1048576 ∧ Hid (cutC l body.data.toList = acc ++ cutC (l.drop k) B.data.toList) ∧ Hid (acc.length + B.size ≤ k * 15 + 1048576) ∧ Hid (Bd (w3.heap.size + 1) w3.heap.size (Lib.byteCells acc) wr) ∧ Hid (Below w.heap.size w wr) ∧ Hid (w3.heap.size + 1 ≤ wr.heap.size)) (fun _ i _ => l.length - (intOf i).toNat)
    case atStart => exact ⟨0, body, [], Nat.zero_le _, rfl, rfl, hb, (by simp : _ = _), (by simp; omega : _ ≤ _), HBD, HB4, (by simp : _ ≤ _)⟩
    case round =>
      obtain ⟨k, B, acc, hk, rfl, rfl, hBs, hst, hal, hB, hW, hS⟩ := hrel
      by_cases hlt : k < l.length
      · have hp := HPos.out k hlt
        have hmx := (HBd.out _ (nthI_mem l k hlt)).2
        obtain ⟨a', c', e', _, _, hcs⟩ := HI.out.below hW.out
        injection e' with e1 _ e2
        subst e1 e2
        rcases hcs with h | ⟨g, o, rfl, hcell⟩
        · rw [h] at hlt; simp at hlt
        have p0 := hcell k _ (nthI_some l k hlt)
        clear hcell
        have HST : Hid (cutC l body.data.toList = acc ++ chunkC (B.data.toList.take (nthI l k).toNat) ++ cutC (l.drop (k + 1)) (B.data.toList.drop (nthI l k).toNat)) := (by rw [hst.out, cutC_drop l k hlt, List.append_assoc] : _ = _)
        clear hst
        generalize nthI l k = X at *
        obtain ⟨m, hm⟩ : ∃ m : Nat, min X ((B.size : Nat) : Int) = (m : Int) := ⟨(min X ((B.size : Nat) : Int)).toNat, by omega⟩
        have hmle : m ≤ B.size := by omega
        have htk : B.data.toList.take X.toNat = (B.extract 0 m).data.toList := by
          rw [take_ext, str_list]
          by_cases hx : X ≤ ((B.size : Nat) : Int)
          · have : X.toNat = m := by omega
            rw [this]
          · rw [List.take_of_length_le (by rw [size_list]; omega), List.take_of_length_le (by rw [size_list]; omega)]
        have hdr : B.data.toList.drop X.toNat = (B.extract m B.size).data.toList := by
          rw [drop_ext]
          by_cases hx : X ≤ ((B.size : Nat) : Int)
          · have : X.toNat = m := by omega
            rw [this]
          · rw [List.drop_eq_nil_of_le (by rw [size_list]; omega), List.drop_eq_nil_of_le (by rw [size_list]; omega)]
        rw [htk, hdr] at HST
        clear htk hdr
        have hs1 : (B.extract 0 m).size = m := by rw [ByteArray.size_extract]; omega
        have hs2 : (B.extract m B.size).size = B.size - m := by rw [ByteArray.size_extract]; omega
        have hcl := chunkC_len (B.extract 0 m).data.toList (by rw [size_list]; omega)
        rw [size_list] at hcl
        have HTw : Hid (Tab wr) := HT.out.below hW.out (Nat.le_refl _)
        have HDw : Hid (Deb wr) := HD.out.below hW.out
        have HCL : Hid ((chunkC (B.extract 0 m).data.toList).length ≤ m + 15) := (by omega : _ ≤ _)
        have HS2 : Hid ((B.extract m B.size).size = B.size - m) := hs2
        clear hcl hs2
        have HWC : Hid (Calls Tryz.prog 32 #[.pointer (some ⟨w3.heap.size, 0, none⟩), .string (B.extract 0 m)] wr fun e w' => e = .returned (.tuple #[]) ∧ Bd (w3.heap.size + 1) w3.heap.size (Lib.byteCells (acc ++ chunkC (B.extract 0 m).data.toList)) w' ∧ Fr (w3.heap.size + 1) w3.heap.size wr w') := writeChunk_bd _ _ acc (B.extract 0 m) (by omega) wr hB.out (by have := hal.out; omega) hS.out HTw.out HDw.out
        go_wp2_with fail
        refine HWC.out.mono ?_
        rintro e w5 ⟨rfl, hB5, hF5⟩
        have HB5 : Hid (Bd (w3.heap.size + 1) w3.heap.size (Lib.byteCells (acc ++ chunkC (B.extract 0 m).data.toList)) w5) := hB5
        have HW5 : Hid (Below w.heap.size w w5) := hW.out.trans (hF5.below (by omega) (by omega))
        have HS5 : Hid (w3.heap.size + 1 ≤ w5.heap.size) := Nat.le_trans hS.out hF5.size
        clear hB5 hF5
        have HA5 : Hid ((acc ++ chunkC (B.extract 0 m).data.toList).length + (B.extract m B.size).size ≤ (k + 1) * 15 + 1048576) := by
          show _ ≤ _
          rw [List.length_append, HS2.out]
          have := hal.out
          have := HCL.out
          omega
        have hBs2 : (B.extract m B.size).size ≤ 1048576 := by rw [HS2.out]; omega
        go_wp2
        go_roundw
        case rel => exact ⟨k + 1, B.extract m B.size, acc ++ chunkC (B.extract 0 m).data.toList, by omega, by go_num, rfl, hBs2, HST, HA5, HB5, HW5, HS5⟩
        case measure => simp [intOf]; omega
      · have HST : Hid (cutC l body.data.toList = acc ++ chunkC B.data.toList) := (by rw [hst.out, List.drop_eq_nil_of_le (by omega)]; rfl : _ = _)
        clear hst
        have hcl := chunkC_len B.data.toList (by rw [size_list]; omega)
        rw [size_list] at hcl
        have HTw : Hid (Tab wr) := HT.out.below hW.out (Nat.le_refl _)
        have HDw : Hid (Deb wr) := HD.out.below hW.out
        have HCL : Hid ((chunkC B.data.toList).length ≤ B.size + 15) := hcl
        clear hcl
        go_wp2_with fail
        refine (writeChunk_bd _ _ acc B (by omega) wr hB.out (by have := hal.out; omega) hS.out HTw.out HDw.out).mono ?_
        rintro e w5 ⟨rfl, hB5, hF5⟩
        have HB5 : Hid (Bd (w3.heap.size + 1) w3.heap.size (Lib.byteCells (acc ++ chunkC B.data.toList)) w5) := hB5
        have HW5 : Hid (Below w.heap.size w w5) := hW.out.trans (hF5.below (by omega) (by omega))
        have HS5 : Hid (w3.heap.size + 1 ≤ w5.heap.size) := Nat.le_trans hS.out hF5.size
        have HT5 : Hid (Tab w5) := HT.out.below HW5.out (Nat.le_refl _)
        have HD5 : Hid (Deb w5) := HD.out.below HW5.out
        clear hB5 hF5 HTw HDw
        have HA5 : Hid ((acc ++ chunkC B.data.toList).length ≤ 100000000) := by
          show _ ≤ _
          rw [List.length_append]
          have := hal.out
          have := HCL.out
          omega
        rw [← HST.out] at HB5 HA5
        generalize cutC l body.data.toList = CUT at *
        go_wp2_with fail
        refine (writeSize_bd _ _ CUT 0 (by omega) w5 HB5.out (by have := HA5.out; omega) HS5.out HT5.out HD5.out).mono ?_
        rintro e w6 ⟨rfl, hB6, hF6⟩
        have HB6 : Hid (Bd (w3.heap.size + 1) w3.heap.size (Lib.byteCells (CUT ++ lineC 0)) w6) := hB6
        have HW6 : Hid (Below w.heap.size w w6) := HW5.out.trans (hF6.below (by omega) (by omega))
        have HS6 : Hid (w3.heap.size + 1 ≤ w6.heap.size) := Nat.le_trans HS5.out hF6.size
        clear hB6 hF6
        go_wp2_with fail
        refine (WriteString_bd _ _ _ SEC w6 HB6.out (by rw [Fd.cells_len, List.length_append, show (lineC 0).length = 3 by decide +kernel]; have := HA5.out; omega) HS6.out).mono ?_
        rintro e w7 ⟨rfl, hB7, hF7⟩
        have HB7 : Hid (Bd (w3.heap.size + 1) w3.heap.size (Lib.byteCells (CUT ++ lineC 0 ++ (trailG t ++ [13, 10]))) w7) := by
          show Bd _ _ _ _
          rw [cells_app (CUT ++ lineC 0), ← HCS.out]
          exact hB7
        have HW7 : Hid (Below w.heap.size w w7) := HW6.out.trans (hF7.below (by omega) (by omega))
        have HS7 : Hid (w3.heap.size + 1 ≤ w7.heap.size) := Nat.le_trans HS6.out hF7.size
        clear hB7 hF7
        go_wp2_with fail
        refine (String_bd _ _ _ _ HB7.out HS7.out).mono ?_
        rintro e w8 ⟨rfl, hb8, _⟩
        have HW8 : Hid (Below w.heap.size w w8) := HW7.out.trans (hb8.mono (by omega))
        clear hb8
        go_wp2
        go_ret2
        exact ⟨by rw [HE.out, List.append_assoc]; rfl, HW8.out⟩

end Ck
end Go.Proofs.YtifhbjkgdnemjaaGreatDoor

/-
  A text read line by line, and byte by byte: plain.
-/
set_option linter.unusedVariables false
set_option linter.unusedSimpArgs false
set_option maxRecDepth 100000
namespace Go.Proofs.YtifhbjkgdnemjaaGreatDoor
open Go.RowKit Go.Shelf
namespace Ck
open Oc Tg _root_.Go.Proofs.YtifhbjkgdnemjaaGreatDoor.Fd

theorem dropG (l : List UInt8) (a j : Nat) : (l.drop a).getD j 0 = l.getD (a + j) 0 := by
  rw [List.getD_eq_getElem?_getD, List.getD_eq_getElem?_getD, List.getElem?_drop]
def noLf (l : List UInt8) : Prop := ∀ c ∈ l, c ≠ 10
def lineS (s : DS) (l : List UInt8) : DS := { s with line := s.line ++ l }
theorem eat_put0 : ∀ (l r : List UInt8) (s : DS), s.mode = 0 → noLf l → s.line.length + l.length < 256 → eat s (l ++ r) = (l.length + (eat (lineS s l) r).1, (eat (lineS s l) r).2)
  | [], r, s, hm, hn, hl => by simp [lineS]
  | c :: l, r, s, hm, hn, hl => by
    have hc : c ≠ 10 := hn c (by simp)
    simp only [List.length_cons] at hl
    have hb : bstep s c = put s c := by
      unfold bstep; rw [hm]; show inSize s c = _
      unfold inSize; rw [if_neg hc, if_neg (by omega)]
    rw [List.cons_append, eat_cons (by omega), hb, eat_put0 l r (put s c) hm (fun d hd => hn d (by simp [hd])) (by simp [put]; omega)]
    have e : lineS (put s c) l = lineS s (c :: l) := by simp [lineS, put]
    rw [e]
    simp only [List.length_cons, Prod.mk.injEq, and_true]
    omega
/-- A size line that has no end in time. -/
theorem eat_long0 (l r : List UInt8) (s : DS) (hm : s.mode = 0) (hn : noLf l) (h0 : s.line = []) (hl : l.length = 256) : eat s (l ++ r) = (256, fin s 100) := by
  obtain ⟨a, c, rfl⟩ : ∃ a c, l = a ++ [c] := by
    rcases List.eq_nil_or_concat l with h | ⟨a, c, h⟩
    · subst h; simp at hl
    · exact ⟨a, c, by simpa using h⟩
  simp only [List.length_append, List.length_cons, List.length_nil] at hl
  have hc : c ≠ 10 := hn c (by simp)
  rw [List.append_assoc, eat_put0 a _ s hm (fun d hd => hn d (by simp [hd])) (by rw [h0]; simp; omega)]
  have hm' : (lineS s a).mode = 0 := hm
  have hb : bstep (lineS s a) c = fin s 100 := by
    unfold bstep; rw [hm']; show inSize _ c = _
    unfold inSize; rw [if_neg hc, if_pos (by simp [lineS, h0]; omega)]
    rfl
  rw [List.cons_append, List.nil_append, eat_cons (by omega), hb, eat_over (by rfl)]
  simp only [Prod.mk.injEq, and_true]
  omega
/-- A size line that has not ended. -/
theorem eat_open0 (l : List UInt8) (s : DS) (hm : s.mode = 0) (hn : noLf l) (h0 : s.line = []) (hl : l.length < 256) : eat s l = (l.length, lineS s l) := by
  have h := eat_put0 l [] s hm hn (by rw [h0]; simpa using hl)
  rw [List.append_nil, eat_nil] at h
  simpa using h
/-- A size line that ends. -/
theorem eat_line0 (l r : List UInt8) (s : DS) (hm : s.mode = 0) (hn : noLf l) (h0 : s.line = []) (hl : l.length < 256) :
    eat s (l ++ 10 :: r) = (l.length + 1 + (eat (endSize (lineS s (l ++ [10]))) r).1, (eat (endSize (lineS s (l ++ [10]))) r).2) := by
  rw [eat_put0 l _ s hm hn (by rw [h0]; simpa using hl)]
  have hm' : (lineS s l).mode = 0 := hm
  have hb : bstep (lineS s l) 10 = endSize (lineS s (l ++ [10])) := by
    unfold bstep; rw [hm']; show inSize _ _ = _
    unfold inSize; rw [if_pos rfl]
    simp [lineS, put]
  rw [eat_cons (by omega), hb]
  simp only [Prod.mk.injEq, and_true]
  omega
theorem suffix_yes (k : List UInt8) : Lib.hasSuffix (k ++ [13] ++ [10]) crlf = true ∧ Lib.trimSuffix (k ++ [13] ++ [10]) crlf = k := by
  have h : Lib.hasSuffix (k ++ [13] ++ [10]) crlf = true := by
    unfold Lib.hasSuffix crlf
    rw [List.isSuffixOf_iff_suffix]
    exact ⟨k, by simp⟩
  refine ⟨h, ?_⟩
  unfold Lib.trimSuffix
  rw [if_pos h]
  simp [crlf]
theorem suffix_no (l : List UInt8) (h : ∀ k, l ≠ k ++ [13]) : Lib.hasSuffix (l ++ [10]) crlf = false := by
  unfold Lib.hasSuffix crlf
  rw [Bool.eq_false_iff]
  intro e
  rw [List.isSuffixOf_iff_suffix] at e
  obtain ⟨k, hk⟩ := e
  have : (k ++ [13]) ++ [10] = l ++ [10] := by rw [← hk]; simp
  exact h k (List.append_cancel_right this).symm
/-- Whether a line stands rightly: its bytes ahead of the last one end with a return. -/
theorem line_case (l : List UInt8) : (∃ k, l = k ++ [13]) ∨ ((∀ k, l ≠ k ++ [13]) ∧ (l = [] ∨ l.getD (l.length - 1) 0 ≠ 13)) := by
  rcases List.eq_nil_or_concat l with h | ⟨a, c, h⟩
  · subst h; right; exact ⟨fun k e => by simp at e, .inl rfl⟩
  · have h' : l = a ++ [c] := by simpa using h
    by_cases hc : c = 13
    · left; exact ⟨a, by rw [h', hc]⟩
    · right
      refine ⟨fun k e => ?_, .inr ?_⟩
      · rw [h'] at e
        have := (List.append_inj' e rfl).2
        simp at this
        exact hc this
      · rw [h']
        simp [List.getD]
        exact hc

/-- A decoder that has all but a line behind it: b the bytes of chunks so far. -/
def stS (most room fields : Int) (b : List UInt8) : DS := ⟨0, false, 0, most - b.length, room, fields, 0, 0, [], b, []⟩
theorem stS_new (most room fields : Int) : stS most room fields [] = new most room fields := by simp [stS, new]
theorem endSize_bad {s : DS} {l : List UInt8} (h0 : s.line = []) (h : ∀ k, l ≠ k ++ [13]) : endSize (lineS s (l ++ [10])) = fin s 100 := by
  unfold endSize
  rw [if_pos (by unfold right lineS; rw [h0]; exact suffix_no l h)]
  rfl
theorem endSize_yes {s : DS} {k : List UInt8} (h0 : s.line = []) : endSize (lineS s (k ++ [13] ++ [10])) = if (sizeR k).2.2 ≠ 0 then fin s (sizeR k).2.2 else if s.most < (sizeR k).1 then fin s 102 else if (sizeR k).1 = 0 then { s with mode := 4 } else { s with most := s.most - (sizeR k).1, left := (sizeR k).1, mode := 1 } := by
  have e1 : right (lineS s (k ++ [13] ++ [10])) = true := by unfold right lineS; rw [h0]; exact (suffix_yes k).1
  have e2 : said (lineS s (k ++ [13] ++ [10])) = k := by unfold said lineS; rw [h0]; exact (suffix_yes k).2
  have e3 : bare (lineS s (k ++ [13] ++ [10])) = s := by unfold bare lineS; cases s; simp at h0; subst h0; rfl
  unfold endSize
  rw [if_neg (by rw [e1]; decide), e2, e3]
  rfl
/-- Chunks: bytes of one. -/
theorem inChunk_all {most room fields : Int} {b t : List UInt8} {n : Int} (hn : (t.length : Int) = n) :
    inChunk { (stS most room fields b) with most := most - b.length - n, left := n, mode := 1 } t = { (stS most room fields (b ++ t)) with mode := 2 } := by
  unfold inChunk stS
  simp only [List.length_append]
  rw [if_pos (by omega)]
  congr 1 <;> omega
/-- Trailers: a line that has not ended, within the room. -/
theorem eat_put4 : ∀ (l r : List UInt8) (s : DS), s.mode = 4 → noLf l → (l.length : Int) ≤ s.room → eat s (l ++ r) = (l.length + (eat { (lineS s l) with room := s.room - l.length } r).1, (eat { (lineS s l) with room := s.room - l.length } r).2)
  | [], r, s, hm, hn, hl => by simp [lineS]
  | c :: l, r, s, hm, hn, hl => by
    have hc : c ≠ 10 := hn c (by simp)
    simp only [List.length_cons] at hl
    have hb0 : bstep s c = inTrailers s c := by unfold bstep; rw [hm]; rfl
    have hb : bstep s c = put { s with room := s.room - 1 } c := by
      rw [hb0]
      unfold inTrailers; rw [if_neg (by omega), if_neg hc]
    rw [List.cons_append, eat_cons (by omega), hb, eat_put4 l r (put { s with room := s.room - 1 } c) hm (fun d hd => hn d (by simp [hd])) (by simp [put]; omega)]
    have e : ({ (lineS (put { s with room := s.room - 1 } c) l) with room := (put { s with room := s.room - 1 } c).room - l.length } : DS) = { (lineS s (c :: l)) with room := s.room - (c :: l).length } := by
      simp [lineS, put]; omega
    rw [e]
    simp only [List.length_cons, Prod.mk.injEq, and_true]
    omega
/-- No room is left. -/
theorem eat_full4 (c : UInt8) (r : List UInt8) (s : DS) (hm : s.mode = 4) (h : s.room = 0) : eat s (c :: r) = (1, fin s 104) := by
  have hb : bstep s c = fin s 104 := by
    unfold bstep; rw [hm]; show inTrailers s c = _
    unfold inTrailers; rw [if_pos h]
  rw [eat_cons (by omega), hb, eat_over (by rfl)]
/-- A line of the trailer section that ends within the room. -/
theorem eat_line4 (l r : List UInt8) (s : DS) (hm : s.mode = 4) (hn : noLf l) (hl : (l.length : Int) < s.room) :
    eat s (l ++ 10 :: r) = (l.length + 1 + (eat (endTrailer { (lineS s (l ++ [10])) with room := s.room - l.length - 1 }) r).1, (eat (endTrailer { (lineS s (l ++ [10])) with room := s.room - l.length - 1 }) r).2) := by
  rw [eat_put4 l _ s hm hn (by omega)]
  have hb : bstep { (lineS s l) with room := s.room - l.length } 10 = endTrailer { (lineS s (l ++ [10])) with room := s.room - l.length - 1 } := by
    unfold bstep
    show (match s.mode with | 0 => _ | 1 => _ | 2 => _ | 3 => _ | 4 => _ | _ => _) = _
    rw [hm]; show inTrailers _ _ = _
    unfold inTrailers
    rw [if_neg (by show ¬ (s.room - l.length = 0); omega), if_pos rfl]
    simp [lineS, put]
  rw [eat_cons (by show s.mode ≠ 5; omega), hb]
  simp only [Prod.mk.injEq, and_true]
  omega
/-- A decoder at the start of a line of the trailer section: b the body, t the trailers so far, u bytes of the section gone. -/
def stT (most room fields : Int) (b : List UInt8) (t : List Fl) (u : Nat) : DS := ⟨4, false, 0, most - b.length, room - u, fields - t.length, 0, 0, [], b, t⟩
theorem stT_of (most room fields : Int) (b : List UInt8) : { (stS most room fields b) with mode := 4 } = stT most room fields b [] 0 := by simp [stT, stS]
theorem endTrailer_bad {s : DS} {l : List UInt8} {x : Int} (h0 : s.line = []) (h : ∀ k, l ≠ k ++ [13]) : endTrailer { (lineS s (l ++ [10])) with room := x } = fin { s with room := x } 101 := by
  unfold endTrailer
  rw [if_pos (by unfold right lineS; rw [h0]; exact suffix_no l h)]
  rfl
theorem endTrailer_yes {s : DS} {k : List UInt8} {x : Int} (h0 : s.line = []) : endTrailer { (lineS s (k ++ [13] ++ [10])) with room := x } = if k = [] then fin { s with room := x } 0 else if s.fields = 0 then fin { s with room := x } 104 else keep { s with room := x } k := by
  have e1 : right { (lineS s (k ++ [13] ++ [10])) with room := x } = true := by unfold right lineS; rw [h0]; exact (suffix_yes k).1
  have e2 : said { (lineS s (k ++ [13] ++ [10])) with room := x } = k := by unfold said lineS; rw [h0]; exact (suffix_yes k).2
  have e3 : bare { (lineS s (k ++ [13] ++ [10])) with room := x } = { s with room := x } := by unfold bare lineS; cases s; simp at h0; subst h0; rfl
  unfold endTrailer
  rw [if_neg (by rw [e1]; decide), e2, e3]
  rfl
def Sees (x : Nat × DS) (n : Nat) (e : Int) (d : Bool) (b : List UInt8) (t : List Fl) : Prop := x.1 = n ∧ x.2.err = e ∧ x.2.done = d ∧ x.2.body = b ∧ x.2.tr = t
theorem Sees.on {s0 s1 : DS} {L M : List UInt8} {p n : Nat} {e : Int} {d : Bool} {b : List UInt8} {t : List Fl} (h : eat s0 L = (p + (eat s1 M).1, (eat s1 M).2)) (hs : Sees (eat s1 M) n e d b t) : Sees (eat s0 L) (p + n) e d b t := by
  rw [h]
  exact ⟨by rw [hs.1], hs.2⟩
theorem eat_on {s0 s1 s2 : DS} {L M N : List UInt8} {p q : Nat} (h : eat s0 L = (p + (eat s1 M).1, (eat s1 M).2)) (hs : eat s1 M = (q + (eat s2 N).1, (eat s2 N).2)) : eat s0 L = (p + q + (eat s2 N).1, (eat s2 N).2) := by
  rw [h, hs, Nat.add_assoc]
theorem Sees.over {s : DS} (h : s.mode = 5) (r : List UInt8) : Sees (eat s r) 0 s.err s.done s.body s.tr := by
  rw [eat_over h]
  exact ⟨rfl, rfl, rfl, rfl, rfl⟩
theorem noLf_of {M : List UInt8} {k : Nat} (h : ∀ i, i < k → i < M.length → M.getD i 0 ≠ 10) : noLf (M.take k) := fun c hc => by
  obtain ⟨i, hi, rfl⟩ := List.mem_iff_getElem.1 hc
  rw [List.length_take] at hi
  have := h i (by omega) (by omega)
  rw [List.getD_eq_getElem?_getD, List.getElem?_eq_getElem (by omega)] at this
  simpa using this
theorem cut_lf {M : List UInt8} {i : Nat} (hi : i < M.length) (h10 : M.getD i 0 = 10) : M = M.take i ++ 10 :: M.drop (i + 1) := by
  rw [← h10]
  have e := List.drop_eq_getElem_cons hi
  rw [List.getD_eq_getElem?_getD, List.getElem?_eq_getElem hi]
  show M = M.take i ++ (M[i] :: M.drop (i + 1))
  rw [← e, List.take_append_drop]

/-- The state at a size line's start. -/
structure Fresh (s : DS) : Prop where
  line : s.line = []
  done : s.done = false
  err : s.err = 0
theorem open0_long {s : DS} {M : List UInt8} (hm : s.mode = 0) (hf : Fresh s) (hn : ∀ i, i < 256 → i < M.length → M.getD i 0 ≠ 10) (hl : 255 < M.length) : Sees (eat s M) 256 100 false s.body s.tr := by
  have h := eat_long0 (M.take 256) (M.drop 256) s hm (noLf_of hn) hf.line (by rw [List.length_take]; omega)
  rw [List.take_append_drop] at h
  rw [h]
  exact ⟨rfl, rfl, rfl, rfl, rfl⟩
theorem open0_short {s : DS} {M : List UInt8} (hm : s.mode = 0) (hf : Fresh s) (hn : ∀ i, i < 256 → i < M.length → M.getD i 0 ≠ 10) (hl : ¬ 255 < M.length) : Sees (eat s M) M.length 0 false s.body s.tr := by
  have h1 : noLf M := by
    have := noLf_of (M := M) (k := M.length) (fun i h1 h2 => hn i (by omega) h2)
    rwa [List.take_length] at this
  rw [eat_open0 M s hm h1 hf.line (by omega)]
  exact ⟨rfl, hf.err, hf.done, rfl, rfl⟩
theorem line0_bad {s : DS} {l r : List UInt8} (hm : s.mode = 0) (hf : Fresh s) (hn : noLf l) (hl : l.length < 256) (h : ∀ k, l ≠ k ++ [13]) : Sees (eat s (l ++ 10 :: r)) (l.length + 1) 100 false s.body s.tr := by
  rw [eat_line0 l r s hm hn hf.line hl, endSize_bad hf.line h, eat_over (by rfl)]
  exact ⟨rfl, rfl, rfl, rfl, rfl⟩
theorem line0_err {s : DS} {l k r : List UInt8} (hm : s.mode = 0) (hf : Fresh s) (hn : noLf l) (hl : l.length < 256) (h : l = k ++ [13]) (he : (sizeR k).2.2 ≠ 0) : Sees (eat s (l ++ 10 :: r)) (l.length + 1) (sizeR k).2.2 false s.body s.tr := by
  rw [eat_line0 l r s hm hn hf.line hl, h, endSize_yes hf.line, if_pos he, eat_over (by rfl)]
  refine ⟨rfl, rfl, ?_, rfl, rfl⟩
  simpa [fin] using he
theorem line0_much {s : DS} {l k r : List UInt8} (hm : s.mode = 0) (hf : Fresh s) (hn : noLf l) (hl : l.length < 256) (h : l = k ++ [13]) (he : (sizeR k).2.2 = 0) (hb : s.most < (sizeR k).1) : Sees (eat s (l ++ 10 :: r)) (l.length + 1) 102 false s.body s.tr := by
  rw [eat_line0 l r s hm hn hf.line hl, h, endSize_yes hf.line, if_neg (by rw [he]; decide), if_pos hb, eat_over (by rfl)]
  exact ⟨rfl, rfl, rfl, rfl, rfl⟩
theorem line0_last {s : DS} {l k r : List UInt8} (hm : s.mode = 0) (hf : Fresh s) (hn : noLf l) (hl : l.length < 256) (h : l = k ++ [13]) (he : (sizeR k).2.2 = 0) (hb : ¬ s.most < (sizeR k).1) (hz : (sizeR k).1 = 0) :
    eat s (l ++ 10 :: r) = (l.length + 1 + (eat { s with mode := 4 } r).1, (eat { s with mode := 4 } r).2) := by
  rw [eat_line0 l r s hm hn hf.line hl, h, endSize_yes hf.line, if_neg (by rw [he]; decide), if_neg hb, if_pos hz]
theorem line0_chunk {s : DS} {l k r : List UInt8} (hm : s.mode = 0) (hf : Fresh s) (hn : noLf l) (hl : l.length < 256) (h : l = k ++ [13]) (he : (sizeR k).2.2 = 0) (hb : ¬ s.most < (sizeR k).1) (hz : (sizeR k).1 ≠ 0) :
    eat s (l ++ 10 :: r) = (l.length + 1 + (eat { s with most := s.most - (sizeR k).1, left := (sizeR k).1, mode := 1 } r).1, (eat { s with most := s.most - (sizeR k).1, left := (sizeR k).1, mode := 1 } r).2) := by
  rw [eat_line0 l r s hm hn hf.line hl, h, endSize_yes hf.line, if_neg (by rw [he]; decide), if_neg hb, if_neg hz]
theorem eat_chunk' : ∀ (t r : List UInt8) (s : DS), s.mode = 1 → t ≠ [] → (t.length : Int) ≤ s.left → eat s (t ++ r) = (t.length + (eat (inChunk s t) r).1, (eat (inChunk s t) r).2)
  | [], r, s, hm, h0, hl => absurd rfl h0
  | [c], r, s, hm, h0, hl => by
    have hb : bstep s c = inChunk s [c] := by unfold bstep; rw [hm]; rfl
    rw [List.cons_append, List.nil_append, eat_cons (by omega), hb]
    simp only [List.length_cons, List.length_nil, Prod.mk.injEq, and_true]
    omega
  | c :: d :: t, r, s, hm, h0, hl => by
    have hb : bstep s c = inChunk s [c] := by unfold bstep; rw [hm]; rfl
    simp only [List.length_cons] at hl
    have hm1 : (inChunk s [c]).mode = 1 := by
      unfold inChunk
      show (if s.left - (([c] : List UInt8).length : Int) = 0 then 2 else 1) = 1
      rw [if_neg (by simp; omega)]
    have e : inChunk (inChunk s [c]) (d :: t) = inChunk s (c :: d :: t) := by
      unfold inChunk
      simp only [List.length_cons, List.length_nil, List.append_assoc, List.cons_append, List.nil_append]
      congr 1
      · congr 1
        rw [eq_iff_iff]
        omega
      · omega
    rw [List.cons_append, eat_cons (by omega), hb, eat_chunk' (d :: t) r (inChunk s [c]) hm1 (by simp) (by simp [inChunk]; omega), e]
    simp only [List.length_cons, Prod.mk.injEq, and_true]
    omega
/-- Behind a chunk: k of the two bytes of its end are there. -/
def stK (most room fields : Int) (b : List UInt8) (k : Nat) : DS := { (stS most room fields b) with mode := if k = 0 then 2 else if k = 1 then 3 else 0 }
theorem stK_two (most room fields : Int) (b : List UInt8) : stK most room fields b 2 = stS most room fields b := by simp [stK, stS]
theorem chunk_all {most room fields : Int} {b t r : List UInt8} {n : Int} (hn : (t.length : Int) = n) (h0 : t ≠ []) :
    eat { (stS most room fields b) with most := (stS most room fields b).most - n, left := n, mode := 1 } (t ++ r) = (t.length + (eat (stK most room fields (b ++ t) 0) r).1, (eat (stK most room fields (b ++ t) 0) r).2) := by
  rw [eat_chunk' t r _ rfl h0 (by show (t.length : Int) ≤ n; omega)]
  have e : inChunk { (stS most room fields b) with most := (stS most room fields b).most - n, left := n, mode := 1 } t = stK most room fields (b ++ t) 0 := inChunk_all hn
  rw [e]
theorem chunk_part {most room fields : Int} {b t : List UInt8} {n : Int} (hn : (t.length : Int) < n) :
    Sees (eat { (stS most room fields b) with most := (stS most room fields b).most - n, left := n, mode := 1 } t) t.length 0 false (b ++ t) [] := by
  by_cases h0 : t = []
  · subst h0
    rw [eat_nil]
    exact ⟨rfl, rfl, rfl, by simp [stS], rfl⟩
  · have h := eat_chunk' t [] { (stS most room fields b) with most := (stS most room fields b).most - n, left := n, mode := 1 } rfl h0 (by show (t.length : Int) ≤ n; omega)
    rw [List.append_nil, eat_nil] at h
    rw [h]
    exact ⟨rfl, rfl, rfl, rfl, rfl⟩
def retAt (k : Nat) : UInt8 := if k = 0 then 13 else 10
theorem stK_nil (most room fields : Int) (b : List UInt8) (k : Nat) : Sees (eat (stK most room fields b k) []) 0 0 false b [] := by
  rw [eat_nil]
  exact ⟨rfl, rfl, rfl, rfl, rfl⟩
theorem stK_bad (most room fields : Int) (b : List UInt8) (k : Nat) (hk : k < 2) (c : UInt8) (hc : c ≠ retAt k) (r : List UInt8) : Sees (eat (stK most room fields b k) (c :: r)) 1 100 false b [] := by
  match k, hk, hc with
  | 0, _, hc =>
    have hb : bstep (stK most room fields b 0) c = fin { (stK most room fields b 0) with mode := 3 } 100 := by
      show behindChunk _ c = _
      unfold behindChunk
      rw [if_neg (show ¬ c = 13 from hc)]
    rw [eat_cons (by simp [stK]), hb, eat_over (by rfl)]
    exact ⟨rfl, rfl, rfl, rfl, rfl⟩
  | 1, _, hc =>
    have hb : bstep (stK most room fields b 1) c = fin { (stK most room fields b 1) with mode := 0 } 100 := by
      show behindReturn _ c = _
      unfold behindReturn
      rw [if_neg (show ¬ c = 10 from hc)]
    rw [eat_cons (by simp [stK]), hb, eat_over (by rfl)]
    exact ⟨rfl, rfl, rfl, rfl, rfl⟩
theorem stK_on (most room fields : Int) (b : List UInt8) (k : Nat) (hk : k < 2) (r : List UInt8) : eat (stK most room fields b k) (retAt k :: r) = (1 + (eat (stK most room fields b (k + 1)) r).1, (eat (stK most room fields b (k + 1)) r).2) := by
  match k, hk with
  | 0, _ =>
    have hb : bstep (stK most room fields b 0) (retAt 0) = stK most room fields b 1 := by
      show behindChunk _ _ = _
      unfold behindChunk
      rw [if_pos (show retAt 0 = 13 from rfl)]
      rfl
    rw [eat_cons (by simp [stK]), hb, Nat.add_comm]
  | 1, _ =>
    have hb : bstep (stK most room fields b 1) (retAt 1) = stK most room fields b 2 := by
      show behindReturn _ _ = _
      unfold behindReturn
      rw [if_pos (show retAt 1 = 10 from rfl)]
      rfl
    rw [eat_cons (by simp [stK]), hb, Nat.add_comm]
theorem open4_long {m rm f : Int} {b M : List UInt8} {t : List Fl} {u k : Nat} (hk : (k : Int) = rm - u) (hn : ∀ i, i < k → i < M.length → M.getD i 0 ≠ 10) (hl : k < M.length) : Sees (eat (stT m rm f b t u) M) (k + 1) 104 false b t := by
  have h := eat_put4 (M.take k) (M.drop k) (stT m rm f b t u) rfl (noLf_of hn) (by rw [List.length_take]; show _ ≤ rm - (u : Int); omega)
  rw [List.take_append_drop] at h
  rw [h, List.drop_eq_getElem_cons hl, eat_full4 _ _ _ (by rfl) (by show rm - (u : Int) - ((M.take k).length : Int) = 0; rw [List.length_take]; omega)]
  refine ⟨?_, rfl, rfl, rfl, rfl⟩
  show (M.take k).length + 1 = k + 1
  rw [List.length_take]
  omega
theorem open4_short {m rm f : Int} {b M : List UInt8} {t : List Fl} {u : Nat} (hn : ∀ i : Nat, (i : Int) < rm - u → i < M.length → M.getD i 0 ≠ 10) (hl : (M.length : Int) ≤ rm - u) : Sees (eat (stT m rm f b t u) M) M.length 0 false b t := by
  have h1 : noLf M := by
    have := noLf_of (M := M) (k := M.length) (fun i h1 h2 => hn i (by omega) h2)
    rwa [List.take_length] at this
  have h := eat_put4 M [] (stT m rm f b t u) rfl h1 hl
  rw [List.append_nil, eat_nil] at h
  rw [h]
  exact ⟨rfl, rfl, rfl, rfl, rfl⟩
theorem line4_bad {m rm f : Int} {b l r : List UInt8} {t : List Fl} {u : Nat} (hn : noLf l) (hl : (l.length : Int) < rm - u) (h : ∀ k, l ≠ k ++ [13]) : Sees (eat (stT m rm f b t u) (l ++ 10 :: r)) (l.length + 1) 101 false b t := by
  rw [eat_line4 l r (stT m rm f b t u) rfl hn hl, endTrailer_bad rfl h, eat_over (by rfl)]
  exact ⟨rfl, rfl, rfl, rfl, rfl⟩
theorem line4_end {m rm f : Int} {b l r : List UInt8} {t : List Fl} {u : Nat} (hn : noLf l) (hl : (l.length : Int) < rm - u) (h : l = [] ++ [13]) : Sees (eat (stT m rm f b t u) (l ++ 10 :: r)) (l.length + 1) 0 true b t := by
  rw [eat_line4 l r (stT m rm f b t u) rfl hn hl, h, endTrailer_yes rfl, if_pos rfl, eat_over (by rfl)]
  exact ⟨rfl, rfl, rfl, rfl, rfl⟩
theorem line4_many {m rm f : Int} {b l k r : List UInt8} {t : List Fl} {u : Nat} (hn : noLf l) (hl : (l.length : Int) < rm - u) (h : l = k ++ [13]) (h0 : k ≠ []) (hf : f - (t.length : Int) = 0) : Sees (eat (stT m rm f b t u) (l ++ 10 :: r)) (l.length + 1) 104 false b t := by
  rw [eat_line4 l r (stT m rm f b t u) rfl hn hl, h, endTrailer_yes rfl, if_neg h0, if_pos (show (stT m rm f b t u).fields = 0 from hf), eat_over (by rfl)]
  exact ⟨rfl, rfl, rfl, rfl, rfl⟩
theorem line4_not {m rm f : Int} {b l k r : List UInt8} {t : List Fl} {u : Nat} (hn : noLf l) (hl : (l.length : Int) < rm - u) (h : l = k ++ [13]) (h0 : k ≠ []) (hf : f - (t.length : Int) ≠ 0) (hp : (parseL k).2.2 ≠ 0 ∨ trails (parseL k).1.1 = false) : Sees (eat (stT m rm f b t u) (l ++ 10 :: r)) (l.length + 1) 101 false b t := by
  rw [eat_line4 l r (stT m rm f b t u) rfl hn hl, h, endTrailer_yes rfl, if_neg h0, if_neg (show ¬ (stT m rm f b t u).fields = 0 from hf)]
  unfold keep
  rw [if_pos hp, eat_over (by rfl)]
  exact ⟨rfl, rfl, rfl, rfl, rfl⟩
theorem line4_on {m rm f : Int} {b l k r : List UInt8} {t : List Fl} {u : Nat} (hn : noLf l) (hl : (l.length : Int) < rm - u) (h : l = k ++ [13]) (h0 : k ≠ []) (hf : f - (t.length : Int) ≠ 0) (hp : ¬ ((parseL k).2.2 ≠ 0 ∨ trails (parseL k).1.1 = false)) :
    eat (stT m rm f b t u) (l ++ 10 :: r) = (l.length + 1 + (eat (stT m rm f b (t ++ [(parseL k).1]) (u + (l.length + 1))) r).1, (eat (stT m rm f b (t ++ [(parseL k).1]) (u + (l.length + 1))) r).2) := by
  rw [eat_line4 l r (stT m rm f b t u) rfl hn hl, h, endTrailer_yes rfl, if_neg h0, if_neg (show ¬ (stT m rm f b t u).fields = 0 from hf)]
  unfold keep
  rw [if_neg hp]
  have e : ({ ({ (stT m rm f b t u) with room := (stT m rm f b t u).room - ((k ++ [13]).length : Int) - 1 } : DS) with fields := (stT m rm f b t u).fields - 1, tr := t ++ [(parseL k).1] } : DS) = stT m rm f b (t ++ [(parseL k).1]) (u + ((k ++ [13]).length + 1)) := by
    unfold stT
    simp only [List.length_append, List.length_cons, List.length_nil]
    congr 1 <;> omega
  have e2 : ({ ({ (stT m rm f b t u) with room := (stT m rm f b t u).room - ((k ++ [13]).length : Int) - 1 } : DS) with fields := ({ (stT m rm f b t u) with room := (stT m rm f b t u).room - ((k ++ [13]).length : Int) - 1 } : DS).fields - 1, tr := ({ (stT m rm f b t u) with room := (stT m rm f b t u).room - ((k ++ [13]).length : Int) - 1 } : DS).tr ++ [(parseL k).1] } : DS) = stT m rm f b (t ++ [(parseL k).1]) (u + ((k ++ [13]).length + 1)) := e
  rw [e2]

end Ck
end Go.Proofs.YtifhbjkgdnemjaaGreatDoor

/-
  What was encoded is decoded; plain.
-/
set_option linter.unusedVariables false
set_option linter.unusedSimpArgs false
set_option maxRecDepth 100000
namespace Go.Proofs.YtifhbjkgdnemjaaGreatDoor
open Go.RowKit Go.Shelf
namespace Ck
open Oc Tg _root_.Go.Proofs.YtifhbjkgdnemjaaGreatDoor.Fd

theorem hexB_10 {c : UInt8} (h : hexB c = true) : c ≠ 10 := fun e => by rw [e] at h; revert h; decide +kernel
theorem hexd_lf (n : Nat) : noLf (hexd n) := fun c hc => hexB_10 (hexd_hex n c hc)
theorem noLf_app {a b : List UInt8} (h : noLf a) (k : noLf b) : noLf (a ++ b) := fun c hc => by
  rcases List.mem_append.1 hc with h' | h'
  · exact h c h'
  · exact k c h'
theorem noLf_13 : noLf [13] := fun c hc => by simp at hc; subst hc; decide
theorem tok_10 {c : UInt8} (h : tokB c = true) : c ≠ 10 := fun e => by rw [e] at h; revert h; decide +kernel
theorem field_10 {c : UInt8} (h : fieldB c = true) : c ≠ 10 := fun e => by rw [e] at h; revert h; decide +kernel

theorem eat_chunkC {most room fields : Int} {b t : List UInt8} (r : List UInt8) (hl : t.length ≤ 1099511627776) (h : (t.length : Int) ≤ most - b.length) :
    eat (stS most room fields b) (chunkC t ++ r) = ((chunkC t).length + (eat (stS most room fields (b ++ t)) r).1, (eat (stS most room fields (b ++ t)) r).2) := by
  by_cases h0 : t = []
  · subst h0
    simp [chunkC]
  · have hlen := hexd_len 10 t.length (Nat.lt_of_le_of_lt hl (by decide))
    have hs := sizeR_hexd t.length hl
    have hpos : 0 < t.length := List.length_pos_iff.2 h0
    have e : chunkC t ++ r = (hexd t.length ++ [13]) ++ 10 :: (t ++ (retAt 0 :: retAt 1 :: r)) := by
      unfold chunkC lineC
      rw [if_neg h0]
      simp [retAt]
    have el : (chunkC t).length = (hexd t.length ++ [13]).length + 1 + t.length + 1 + 1 := by
      unfold chunkC lineC
      rw [if_neg h0]
      simp only [List.length_append, List.length_cons, List.length_nil]
    have h1 := line0_chunk (s := stS most room fields b) (l := hexd t.length ++ [13]) (k := hexd t.length) (r := t ++ (retAt 0 :: retAt 1 :: r)) rfl ⟨rfl, rfl, rfl⟩ (noLf_app (hexd_lf _) noLf_13) (by rw [List.length_append]; simp; omega) rfl (by rw [hs]) (by rw [hs]; show ¬ most - (b.length : Int) < (t.length : Int); omega) (by rw [hs]; show (t.length : Int) ≠ 0; omega)
    rw [hs] at h1
    have h2 := eat_on h1 (chunk_all (most := most) (room := room) (fields := fields) (b := b) (t := t) (r := retAt 0 :: retAt 1 :: r) (n := (t.length : Int)) rfl h0)
    have h3 := eat_on h2 (stK_on most room fields (b ++ t) 0 (by omega) (retAt 1 :: r))
    have h4 := eat_on h3 (stK_on most room fields (b ++ t) 1 (by omega) r)
    rw [stK_two] at h4
    rw [e, h4, el]
theorem eat_cutC : ∀ {most room fields : Int} (l : List Int) (b t r : List UInt8), t.length ≤ 1099511627776 → (t.length : Int) ≤ most - b.length →
    eat (stS most room fields b) (cutC l t ++ r) = ((cutC l t).length + (eat (stS most room fields (b ++ t)) r).1, (eat (stS most room fields (b ++ t)) r).2)
  | most, room, fields, [], b, t, r, hl, h => eat_chunkC r hl h
  | most, room, fields, n :: l, b, t, r, hl, h => by
    have h1 : (t.take n.toNat).length ≤ t.length := by rw [List.length_take]; omega
    have h2 : (t.drop n.toNat).length = t.length - n.toNat := List.length_drop
    have h3 : (t.take n.toNat).length = min n.toNat t.length := List.length_take
    have e1 := eat_chunkC (most := most) (room := room) (fields := fields) (b := b) (t := t.take n.toNat) (cutC l (t.drop n.toNat) ++ r) (by omega) (by omega)
    have e2 := eat_cutC (most := most) (room := room) (fields := fields) l (b ++ t.take n.toNat) (t.drop n.toNat) r (by omega) (by rw [List.length_append]; omega)
    have e3 := eat_on e1 e2
    have e4 : b ++ t.take n.toNat ++ t.drop n.toNat = b ++ t := by rw [List.append_assoc, List.take_append_drop]
    rw [e4] at e3
    show eat _ ((chunkC (t.take n.toNat) ++ cutC l (t.drop n.toNat)) ++ r) = ((chunkC (t.take n.toNat) ++ cutC l (t.drop n.toNat)).length + _, _)
    rw [List.append_assoc, e3, List.length_append]
theorem lineC_zero : lineC 0 = [48, 13, 10] := by decide +kernel
theorem eat_last {most room fields : Int} {b : List UInt8} (r : List UInt8) (h : (b.length : Int) ≤ most) :
    eat (stS most room fields b) (lineC 0 ++ r) = (3 + (eat (stT most room fields b [] 0) r).1, (eat (stT most room fields b [] 0) r).2) := by
  have hs := sizeR_hexd 0 (by omega)
  have hh : hexd 0 = [48] := by decide +kernel
  rw [hh] at hs
  have h1 := line0_last (s := stS most room fields b) (l := [48, 13]) (k := [48]) (r := r) rfl ⟨rfl, rfl, rfl⟩ (fun c hc => by simp at hc; rcases hc with rfl | rfl <;> decide) (by simp) rfl (by rw [hs]) (by rw [hs]; show ¬ most - (b.length : Int) < ((0 : Nat) : Int); omega) (by rw [hs]; rfl)
  rw [stT_of] at h1
  rw [lineC_zero]
  exact h1

theorem isName_tok {l : List UInt8} (h : isName l = true) : ∀ c ∈ l, tokB c = true := fun c hc => by
  unfold isName isTok at h
  simp only [Bool.and_eq_true, List.all_eq_true] at h
  first | exact h.1.2 c hc | exact h.1.1 c hc | exact h.2.1 c hc | exact h.2.2 c hc
theorem okT_is {p : Fl} (h : okT p = true) : isName p.1 = true ∧ isValue p.2 = true ∧ trails p.1 = true := by
  unfold okT at h
  simp only [Bool.and_eq_true] at h
  exact ⟨h.1.1, h.1.2, h.2⟩
theorem line_10 {p : Fl} (h1 : isName p.1 = true) (h2 : isValue p.2 = true) : noLf (lineP p) := by
  have hv : ∀ c ∈ p.2, c ≠ 10 := fun c hc => by
    unfold isValue isFld at h2
    simp only [Bool.and_eq_true, List.all_eq_true] at h2
    exact field_10 (by first | exact h2.1.2 c hc | exact h2.1.1 c hc | exact h2.2.1 c hc | exact h2.2.2 c hc | exact h2.1 c hc | exact h2.2 c hc | exact h2.1.1.1 c hc | exact h2.1.1.2 c hc)
  intro c hc
  unfold lineP at hc
  split at hc
  · rcases List.mem_append.1 hc with h | h
    · exact tok_10 (isName_tok h1 c h)
    · simp at h; subst h; decide
  · rcases List.mem_append.1 hc with h | h
    · rcases List.mem_append.1 h with h | h
      · rcases List.mem_append.1 h with h | h
        · exact tok_10 (isName_tok h1 c h)
        · simp at h; subst h; decide
      · simp at h; subst h; decide
    · exact hv c h
theorem lineP_ne (p : Fl) : lineP p ≠ [] := by
  unfold lineP
  split <;> simp

theorem eat_trailG : ∀ {m rm f : Int} {b : List UInt8} (t acc : List Fl) (u : Nat) (r : List UInt8), t.all okT = true → ((trailG t).length : Int) + 2 ≤ rm - u → (acc.length : Int) + t.length ≤ f →
    Sees (eat (stT m rm f b acc u) (trailG t ++ [13, 10] ++ r)) ((trailG t).length + 2) 0 true b (acc ++ t)
  | m, rm, f, b, [], acc, u, r, hok, hr, hf => by
    have := line4_end (m := m) (rm := rm) (f := f) (b := b) (l := [13]) (r := r) (t := acc) (u := u) noLf_13 (by simp [trailG] at hr ⊢; omega) rfl
    simp only [List.append_nil]
    exact this
  | m, rm, f, b, p :: t, acc, u, r, hok, hr, hf => by
    rw [List.all_cons, Bool.and_eq_true] at hok
    obtain ⟨k1, k2, k3⟩ := okT_is hok.1
    have hp := parse_line k1 k2
    have e : trailG (p :: t) ++ [13, 10] ++ r = (lineP p ++ [13]) ++ 10 :: (trailG t ++ [13, 10] ++ r) := by simp [trailG]
    have el : (trailG (p :: t)).length = (lineP p ++ [13]).length + 1 + (trailG t).length := by simp [trailG]; omega
    simp only [List.length_cons] at hf
    have h1 := line4_on (m := m) (rm := rm) (f := f) (b := b) (l := lineP p ++ [13]) (k := lineP p) (r := trailG t ++ [13, 10] ++ r) (t := acc) (u := u) (noLf_app (line_10 k1 k2) noLf_13) (by omega) rfl (lineP_ne p) (by omega) (by rw [hp]; simp [k3])
    rw [hp] at h1
    have h2 := eat_trailG (m := m) (rm := rm) (f := f) (b := b) t (acc ++ [p]) (u + ((lineP p ++ [13]).length + 1)) r hok.2 (by omega) (by rw [List.length_append]; simp only [List.length_cons, List.length_nil]; omega)
    have h3 := Sees.on h1 h2
    rw [e, el]
    have e4 : acc ++ [p] ++ t = acc ++ p :: t := by simp
    rw [e4] at h3
    have e5 : (lineP p ++ [13]).length + 1 + ((trailG t).length + 2) = (lineP p ++ [13]).length + 1 + (trailG t).length + 2 := by omega
    rw [e5] at h3
    exact h3

/-- All that is encoded. -/
def encL (body : List UInt8) (l : List Int) (t : List Fl) : List UInt8 := cutC l body ++ lineC 0 ++ (trailG t ++ [13, 10])
theorem encL_len (body : List UInt8) (l : List Int) (t : List Fl) : (encL body l t).length = (cutC l body).length + (3 + ((trailG t).length + 2)) := by
  unfold encL
  simp only [List.length_append, lineC_zero, List.length_cons, List.length_nil]
  omega
theorem encR_yes {body : List UInt8} {l : List Int} {t : List Fl} (hl : ∀ x ∈ l, 1 ≤ x) (ht : t.all okT = true) : encR body l t = (encL body l t, 0) := by
  have : lowI1 l = -1 := lowI1_no (fun j hj => by have := hl _ (nthI_mem l j hj); omega)
  unfold encR
  rw [this, if_neg (by omega), ht, if_pos rfl]
  rfl
theorem eat_enc {most room fields : Int} (body : List UInt8) (l : List Int) (t : List Fl) (r : List UInt8) (hb : body.length ≤ 1099511627776) (hm : (body.length : Int) ≤ most) (ht : t.all okT = true) (hr : ((trailG t).length : Int) + 2 ≤ room) (hf : (t.length : Int) ≤ fields) :
    Sees (eat (new most room fields) (encL body l t ++ r)) (encL body l t).length 0 true body t := by
  have h1 := eat_cutC (most := most) (room := room) (fields := fields) l [] body (lineC 0 ++ (trailG t ++ [13, 10] ++ r)) hb (by simp; omega)
  rw [List.nil_append] at h1
  have h2 := eat_on h1 (eat_last (most := most) (room := room) (fields := fields) (b := body) (trailG t ++ [13, 10] ++ r) hm)
  have h3 := Sees.on h2 (eat_trailG (m := most) (rm := room) (f := fields) (b := body) t [] 0 r ht (by omega) (by simp; omega))
  rw [stS_new] at h3
  rw [encL_len, show encL body l t ++ r = cutC l body ++ (lineC 0 ++ (trailG t ++ [13, 10] ++ r)) by unfold encL; simp]
  rw [Nat.add_assoc] at h3
  exact h3
theorem dec_enc {most room fields : Int} (body : List UInt8) (l : List Int) (t : List Fl) (r : List UInt8) (hb : body.length ≤ 1099511627776) (hm : (body.length : Int) ≤ most) (ht : t.all okT = true) (hr : ((trailG t).length : Int) + 2 ≤ room) (hf : (t.length : Int) ≤ fields) :
    decR most room fields (encL body l t ++ r) = (body, t, ((encL body l t).length : Int), 0) := by
  obtain ⟨h1, h2, h3, h4, h5⟩ := eat_enc (most := most) (room := room) (fields := fields) body l t r hb hm ht hr hf
  unfold decR
  rw [if_neg (by omega), h2, if_neg (by simp), h3, if_neg (by simp), h4, h5, h1]
/-- A beginning of it is open. -/
theorem dec_open {most room fields : Int} (body : List UInt8) (l : List Int) (t : List Fl) (n : Nat) (hn : n < (encL body l t).length) (hb : body.length ≤ 1099511627776) (hm : (body.length : Int) ≤ most) (hm2 : most ≤ 9223372036854775807) (ht : t.all okT = true) (hr : ((trailG t).length : Int) + 2 ≤ room) (hr2 : room ≤ 9223372036854775807) (hf : (t.length : Int) ≤ fields) (hf2 : fields ≤ 9223372036854775807) :
    decR most room fields ((encL body l t).take n) = ([], [], (n : Int), 105) := by
  have hs := eat_enc (most := most) (room := room) (fields := fields) body l t [] hb hm ht hr hf
  rw [List.append_nil] at hs
  have ha := eat_app ((encL body l t).take n) ((encL body l t).drop n) (new most room fields)
  rw [List.take_append_drop] at ha
  have hlen : ((encL body l t).take n).length = n := by rw [List.length_take]; omega
  have hle := eat_le ((encL body l t).take n) (new most room fields)
  have hmode : (eat (new most room fields) ((encL body l t).take n)).2.mode ≠ 5 := fun h5 => by
    rw [eat_over h5] at ha
    have := hs.1
    rw [ha] at this
    simp only [Nat.add_zero] at this
    omega
  have hok := eat_ok ((encL body l t).take n) (new most room fields) 0 (Ok.new most room fields ⟨by omega, hm2⟩ ⟨by omega, hr2⟩ ⟨by omega, hf2⟩)
  obtain ⟨hd, he⟩ := hok.live hmode
  have hall := eat_all _ _ hmode
  unfold decR
  rw [if_neg (by omega), he, if_neg (by simp), hd, if_pos rfl, hall, hlen]

/-- One byte more than may be. -/
theorem chunk_much {most room fields : Int} {b t : List UInt8} (r : List UInt8) (hl : t.length ≤ 1099511627776) (h : most - b.length < (t.length : Int)) (h0 : t ≠ []) :
    ∃ p, 3 ≤ p ∧ p ≤ (chunkC t).length ∧ (chunkC t ++ r).getD (p - 1) 0 = 10 ∧ (eat (stS most room fields b) (chunkC t ++ r)).1 = p ∧ (eat (stS most room fields b) (chunkC t ++ r)).2.err = 102 := by
  have hlen := hexd_len 10 t.length (Nat.lt_of_le_of_lt hl (by decide))
  have hs := sizeR_hexd t.length hl
  have hne := List.length_pos_iff.2 (hexd_ne t.length)
  have e : chunkC t ++ r = (hexd t.length ++ [13]) ++ 10 :: (t ++ (13 :: 10 :: r)) := by
    unfold chunkC lineC
    rw [if_neg h0]
    simp
  have el : (chunkC t).length = (hexd t.length ++ [13]).length + 1 + t.length + 1 + 1 := by
    unfold chunkC lineC
    rw [if_neg h0]
    simp only [List.length_append, List.length_cons, List.length_nil]
  have e2 : (hexd t.length ++ [13]).length = (hexd t.length).length + 1 := by simp
  have h1 := line0_much (s := stS most room fields b) (l := hexd t.length ++ [13]) (k := hexd t.length) (r := t ++ (13 :: 10 :: r)) rfl ⟨rfl, rfl, rfl⟩ (noLf_app (hexd_lf _) noLf_13) (by rw [List.length_append]; simp; omega) rfl (by rw [hs]) (by rw [hs]; show most - (b.length : Int) < (t.length : Int); omega)
  refine ⟨(hexd t.length ++ [13]).length + 1, by omega, by omega, ?_, ?_, ?_⟩
  · rw [e, Nat.add_sub_cancel]
    exact getD_app _ _ _
  · rw [e]; exact h1.1
  · rw [e]; exact h1.2.1
theorem cut_much : ∀ {most room fields : Int} (l : List Int) (b t r : List UInt8), t.length ≤ 1099511627776 → most - b.length < (t.length : Int) → (b.length : Int) ≤ most → 
    ∃ p, 3 ≤ p ∧ p ≤ (cutC l t).length ∧ (cutC l t ++ r).getD (p - 1) 0 = 10 ∧ (eat (stS most room fields b) (cutC l t ++ r)).1 = p ∧ (eat (stS most room fields b) (cutC l t ++ r)).2.err = 102
  | most, room, fields, [], b, t, r, hl, h, hb => chunk_much r hl h (fun e => by subst e; simp at h; omega)
  | most, room, fields, n :: l, b, t, r, hl, h, hb => by
    have h2 : (t.drop n.toNat).length = t.length - n.toNat := List.length_drop
    have h3 : (t.take n.toNat).length = min n.toNat t.length := List.length_take
    have es : cutC (n :: l) t ++ r = chunkC (t.take n.toNat) ++ (cutC l (t.drop n.toNat) ++ r) := by
      show (chunkC (t.take n.toNat) ++ cutC l (t.drop n.toNat)) ++ r = _
      rw [List.append_assoc]
    have el : (cutC (n :: l) t).length = (chunkC (t.take n.toNat)).length + (cutC l (t.drop n.toNat)).length := by
      show (chunkC (t.take n.toNat) ++ cutC l (t.drop n.toNat)).length = _
      rw [List.length_append]
    rw [es, el]
    by_cases hm : most - b.length < ((t.take n.toNat).length : Int)
    · obtain ⟨p, p1, p2, p3, p4, p5⟩ := chunk_much (most := most) (room := room) (fields := fields) (b := b) (t := t.take n.toNat) (cutC l (t.drop n.toNat) ++ r) (by omega) hm (fun e => by rw [e] at hm; simp at hm; omega)
      exact ⟨p, p1, by omega, p3, p4, p5⟩
    · have e1 := eat_chunkC (most := most) (room := room) (fields := fields) (b := b) (t := t.take n.toNat) (cutC l (t.drop n.toNat) ++ r) (by omega) (by omega)
      obtain ⟨p, p1, p2, p3, p4, p5⟩ := cut_much (most := most) (room := room) (fields := fields) l (b ++ t.take n.toNat) (t.drop n.toNat) r (by omega) (by rw [List.length_append]; omega) (by rw [List.length_append]; omega)
      refine ⟨(chunkC (t.take n.toNat)).length + p, by omega, by omega, ?_, ?_, ?_⟩
      · rw [List.getD_eq_getElem?_getD, List.getElem?_append_right (by omega), show (chunkC (t.take n.toNat)).length + p - 1 - (chunkC (t.take n.toNat)).length = p - 1 by omega, ← List.getD_eq_getElem?_getD]
        exact p3
      · rw [e1, p4]
      · rw [e1]; exact p5
theorem dec_much (body : List UInt8) (l : List Int) (hb : body.length ≤ 1099511627776) (h0 : body ≠ []) :
    ∃ p : Nat, 2 ≤ p ∧ p < (encL body l []).length ∧ (encL body l []).getD p 0 = 10 ∧ decR ((body.length : Int) - 1) 2 0 (encL body l []) = ([], [], (p : Int), 102) := by
  have hpos := List.length_pos_iff.2 h0
  obtain ⟨p, p1, p2, p3, p4, p5⟩ := cut_much (most := (body.length : Int) - 1) (room := 2) (fields := 0) l [] body (lineC 0 ++ (trailG [] ++ [13, 10])) hb (by simp; omega) (by simp; omega)
  have e : cutC l body ++ (lineC 0 ++ (trailG [] ++ [13, 10])) = encL body l [] := by unfold encL; rw [List.append_assoc]
  rw [e] at p3 p4 p5
  rw [stS_new] at p4 p5
  refine ⟨p - 1, by omega, by rw [encL_len]; omega, p3, ?_⟩
  unfold decR
  rw [if_neg (by omega), p5, if_pos (by decide), p4]
  congr 3
  omega

end Ck
end Go.Proofs.YtifhbjkgdnemjaaGreatDoor

/-
  The document's MayTrail; the law ChunkTrails.
-/
set_option linter.unusedVariables false
set_option linter.unusedSimpArgs false
set_option maxRecDepth 100000
namespace Go.Proofs.YtifhbjkgdnemjaaGreatDoor
open Go.RowKit Go.Shelf
namespace Ck
open Oc Tg _root_.Go.Proofs.YtifhbjkgdnemjaaGreatDoor.Fd

/-- Is one of them that text? -/
def inL (L : List (List UInt8)) (x : List UInt8) : Bool := L.contains x

set_option maxRecDepth 100000 in
set_option maxHeartbeats 1000000 in
theorem rIn_any (v : Value) (L : List (List UInt8)) (x : List UInt8) (hl : L.length ≤ 1048576) (w : World) (h : RdS v L w) :
    Calls Tryz.prog 67 #[v, .string (str x)] w fun e w' => e = .returned (.bool (inL L x)) ∧ w' = w := by
  have HR : Hid (RdS v L w) := h
  obtain ⟨a, c, rfl, _⟩ := h
  generalize hX : str x = X
  have HX : Hid (X = str x) := hX.symm
  clear hX
  go_enter Tryz.func67, Tryz.ntmps67
  go_wp2
  go_loop [9] (fun i => ∃ k : Nat, k ≤ L.length ∧ i = .int .i64 k ∧ Hid (∀ j, j < k → L.getD j [] ≠ x)) (fun i => L.length - (intOf i).toNat)
  case atStart => exact ⟨0, Nat.zero_le _, rfl, (fun j hj => by omega : ∀ j, j < 0 → _)⟩
  case round =>
    obtain ⟨k, hk, rfl, hall⟩ := hrel
    by_cases hlt : k < L.length
    · obtain ⟨a', c', e', hcs⟩ := HR.out
      injection e' with e1 _ e2
      subst e1 e2
      rcases hcs with h | ⟨g, o, rfl, hlc, hcell⟩
      · rw [h] at hlt; simp at hlt
      have p0 := hcell k hlt
      clear hcell
      by_cases he : L.getD k [] = x
      · have HE : Hid (inL L x = true) := by
          show _ = _
          unfold inL
          rw [List.contains_iff_mem, ← he, List.getD_eq_getElem?_getD, List.getElem?_eq_getElem hlt]
          exact List.getElem_mem hlt
        rw [he, ← HX.out] at p0
        have hq : (X.toList == X.toList) = true := by simp
        go_wp2
        go_ret
        exact ⟨ret_bool HE.out.symm, rfl⟩
      · have HN : Hid (∀ j, j < k + 1 → L.getD j [] ≠ x) := fun j hj => by
          by_cases hjk : j = k
          · subst hjk; exact he
          · exact hall.out j (by omega)
        have hq : ((str (L.getD k [])).toList == X.toList) = false := by
          rw [eq_toList, decide_eq_false_iff_not, HX.out]
          exact fun e => he (str_inj e)
        generalize str (L.getD k []) = Y at *
        go_wp2
        go_round
        case rel => exact ⟨k + 1, by omega, by go_num, HN⟩
        case measure => simp [intOf]; omega
    · have HE : Hid (inL L x = false) := by
        show _ = _
        unfold inL
        cases hc : L.contains x with
        | false => rfl
        | true =>
          rw [List.contains_iff_mem] at hc
          obtain ⟨j, hj, e⟩ := List.mem_iff_getElem.1 hc
          exact absurd (by rw [List.getD_eq_getElem?_getD, List.getElem?_eq_getElem hj, ← e]; rfl) (hall.out j (by omega))
      go_wp2
      go_ret
      exact ⟨ret_bool HE.out.symm, rfl⟩

def never : Array Value := #[.string ⟨#[99, 111, 110, 110, 101, 99, 116, 105, 111, 110]⟩, .string ⟨#[99, 111, 110, 116, 101, 110, 116, 45, 101, 110, 99, 111, 100, 105, 110, 103]⟩, .string ⟨#[99, 111, 110, 116, 101, 110, 116, 45, 108, 101, 110, 103, 116, 104]⟩, .string ⟨#[99, 111, 110, 116, 101, 110, 116, 45, 114, 97, 110, 103, 101]⟩, .string ⟨#[99, 111, 110, 116, 101, 110, 116, 45, 116, 121, 112, 101]⟩, .string ⟨#[101, 120, 112, 101, 99, 116]⟩, .string ⟨#[104, 111, 115, 116]⟩, .string ⟨#[107, 101, 101, 112, 45, 97, 108, 105, 118, 101]⟩, .string ⟨#[116, 101]⟩, .string ⟨#[116, 114, 97, 105, 108, 101, 114]⟩, .string ⟨#[116, 114, 97, 110, 115, 102, 101, 114, 45, 101, 110, 99, 111, 100, 105, 110, 103]⟩, .string ⟨#[117, 112, 103, 114, 97, 100, 101]⟩]
theorem never_at : ∀ j, j < 12 → never[j]? = some (.string (str (heads.getD j []))) := fun j hj => match j, hj with
  | 0, _ => rfl
  | 1, _ => rfl
  | 2, _ => rfl
  | 3, _ => rfl
  | 4, _ => rfl
  | 5, _ => rfl
  | 6, _ => rfl
  | 7, _ => rfl
  | 8, _ => rfl
  | 9, _ => rfl
  | 10, _ => rfl
  | 11, _ => rfl
theorem never_rd (w : World) : RdS (.slice (some ⟨w.heap.size, 0, none⟩) 12 12) heads (w.alloc (.cells never 9)) := by
  refine ⟨_, 12, rfl, .inr ⟨w.heap.size, 0, rfl, by decide, fun j hj => ?_⟩⟩
  rw [cell_of_row _ w.heap.size _ _ _ _ (heap_alloc_new w _), Nat.zero_add]
  exact never_at j hj

set_option maxHeartbeats 1000000 in
theorem rMayTrail_any (l : List UInt8) (hl : l.length ≤ maxLen) (w : World) :
    Calls Tryz.prog 49 #[.string (str l)] w fun e w' => e = .returned (.bool (trails l)) ∧ Below w.heap.size w w' := by
  have HN : Hid (∀ w, Calls Tryz.prog 51 #[.string (str l)] w fun e w' => e = .returned (.bool (isName l)) ∧ w' = w) := fun w => by
    have h := rIsName_any (str l) (by rw [str_size]; exact hl) w
    rw [str_list] at h
    exact h
  have HL : Hid (∀ w, Calls Tryz.prog 68 #[.string (str l)] w fun e w' => e = .returned (.string (str (lower l))) ∧ Below w.heap.size w w') := fun w => by
    have h := Fd.rLower_any (str l) (by rw [str_size]; exact hl) w
    unfold lowS at h
    rw [str_list] at h
    exact h
  have HI : Hid (∀ w1, Below (w.alloc (.cells never 9)).heap.size (w.alloc (.cells never 9)) w1 → Calls Tryz.prog 67 #[.slice (some ⟨w.heap.size, 0, none⟩) 12 12, .string (str (lower l))] w1 fun e w' => e = .returned (.bool (heads.contains (lower l))) ∧ w' = w1) := fun w1 hb => rIn_any _ heads _ (by decide) w1 ((never_rd w).below hb)
  have HBA : Hid (Below w.heap.size w (w.alloc (.cells never 9))) := (Below.refl _ w).alloc (Nat.le_refl _) _
  unfold trails
  generalize isName l = b at *
  generalize heads.contains (lower l) = c at *
  generalize str (lower l) = M at *
  generalize str l = X at *
  clear hl
  unfold never at *
  cases b with
  | false =>
    go_enter Tryz.func49, Tryz.ntmps49
    go_wp2_with fail
    refine (HN.out _).mono ?_
    rintro e w1 ⟨rfl, hw⟩
    rw [hw]
    go_wp2
    go_ret
    exact ⟨ret_bool (by simp), HBA.out⟩
  | true =>
    go_enter Tryz.func49, Tryz.ntmps49
    go_wp2_with fail
    refine (HN.out _).mono ?_
    rintro e w1 ⟨rfl, hw⟩
    rw [hw]
    go_wp2_with fail
    refine (HL.out _).mono ?_
    rintro e w2 ⟨rfl, hb2⟩
    have HB2 : Hid (Below w.heap.size w w2) := bel_trans HBA.out hb2
    have HB2' := HI.out _ hb2
    clear hb2
    have HI2 : Hid (Calls Tryz.prog 67 #[.slice (some ⟨w.heap.size, 0, none⟩) 12 12, .string M] w2 fun e w' => e = .returned (.bool c) ∧ w' = w2) := HB2'
    clear HB2'
    go_wp2_with fail
    refine HI2.out.mono ?_
    rintro e w3 ⟨rfl, hw3⟩
    rw [hw3]
    go_wp2
    go_ret
    exact ⟨ret_bool (by simp), HB2.out⟩

end Ck
end Go.Proofs.YtifhbjkgdnemjaaGreatDoor

/-
  The law's plain and same.
-/
set_option linter.unusedVariables false
set_option linter.unusedSimpArgs false
set_option maxRecDepth 100000
namespace Go.Proofs.YtifhbjkgdnemjaaGreatDoor
open Go.RowKit Go.Shelf
namespace Ck
open Oc Tg _root_.Go.Proofs.YtifhbjkgdnemjaaGreatDoor.Fd

theorem again_drew (w : World) (n q : Nat) : Hid (∃ k, w.drewN (n + q) = w.drewN k) := (⟨_, rfl⟩ : ∃ k, w.drewN (n + q) = w.drewN k)
set_option maxRecDepth 100000 in
set_option maxHeartbeats 1000000 in
theorem same_any (v1 v2 : Value) (t : List Fl) (w : World) (h1 : RdF v1 t w) (h2 : RdF v2 t w) (hl : t.length ≤ 4294967296) :
    Calls Tryz.prog 17 #[v1, v2] w fun e w' => e = .returned (.bool true) ∧ Below w.heap.size w w' := by
  obtain ⟨a1, c1, rfl, h1⟩ := h1
  obtain ⟨a2, c2, rfl, h2⟩ := h2
  have hne : ((t.length : Int) != (t.length : Int)) = false := by simp
  go_enter Tryz.func17, Tryz.ntmps17
  go_wp2
  go_loopw [13] (fun i wr => ∃ k : Nat, k ≤ t.length ∧ i = .int .i64 k ∧ Hid (∃ n, wr = w.drewN n)) (fun i _ => t.length - (intOf i).toNat)
  case atStart => exact ⟨0, Nat.zero_le _, rfl, (⟨0, rfl⟩ : ∃ n, w = w.drewN n)⟩
  case round =>
    obtain ⟨k, hk, rfl, hw⟩ := hrel
    obtain ⟨n, rfl⟩ := hw.out
    clear hw
    by_cases hlt : k < t.length
    · rcases h1 with h | ⟨g1, o1, rfl, hc1, hcell1⟩
      · rw [h] at hlt; simp at hlt
      rcases h2 with h | ⟨g2, o2, rfl, hc2, hcell2⟩
      · rw [h] at hlt; simp at hlt
      obtain ⟨p0, p1⟩ := hcell1 k hlt
      obtain ⟨q0, q1⟩ := hcell2 k hlt
      clear hcell1 hcell2
      generalize str (nth t k).1 = x at p0 q0
      generalize str (nth t k).2 = y at p1 q1
      go_wp2_with fail
      go_quiet (fail)
      go_wp2
      go_roundw
      case rel => exact ⟨k + 1, by omega, by go_num, again_drew w _ _⟩
      case measure => simp [intOf]; omega
    · go_wp2
      go_ret
      exact ⟨rfl, below_drew w n⟩

set_option maxRecDepth 100000 in
set_option maxHeartbeats 2000000 in
theorem plain_any (v : Value) (t : List Fl) (w : World) (h : RdF v t w) (hl : t.length ≤ 16777216) :
    Calls Tryz.prog 16 #[v] w fun e w' => ∃ u, e = .returned u ∧ OwnF 45 w.heap.size u t w' ∧ Below w.heap.size w w' := by
  have HR : Hid (RdF v t w) := h
  obtain ⟨a, c, rfl, _⟩ := h
  go_enter Tryz.func16, Tryz.ntmps16
  go_wp2
  go_loopw [3, 8] (fun ov i wr => ∃ k : Nat, k ≤ t.length ∧ i = .int .i64 k ∧ Hid (OwnF 45 w.heap.size ov (t.take k) wr) ∧ Hid (Below w.heap.size w wr)) (fun _ i _ => t.length - (intOf i).toNat)
  case atStart => exact ⟨0, Nat.zero_le _, rfl, ownF_nil _ _ _, Below.refl _ _⟩
  case round =>
    obtain ⟨k, hk, rfl, hown, hbl⟩ := hrel
    have hsz := hbl.out.size
    by_cases hlt : k < t.length
    · obtain ⟨a', c', e', hcs⟩ := HR.out.below hbl.out
      injection e' with e1 _ e2
      subst e1 e2
      rcases hcs with h | ⟨g, o, rfl, hlc, hcell⟩
      · rw [h] at hlt; simp at hlt
      obtain ⟨p0, p1⟩ := hcell k hlt
      have HTk : Hid (t.take (k + 1) = t.take k ++ [nth t k]) := take_nth t k hlt
      have hlk : (t.take k).length + 1 ≤ 2147483648 := by rw [List.length_take]; omega
      generalize nth t k = p at *
      obtain ⟨pn, pv⟩ := p
      dsimp only at p0 p1
      generalize hn : str pn = N at p0
      generalize hv : str pv = V at p1
      have HN : Hid (N = str pn) := hn.symm
      have HV : Hid (V = str pv) := hv.symm
      have hb1 : Below wr.heap.size wr (wr.alloc (.cells #[.string N, .string V] 39)) := (Below.refl _ wr).alloc (Nat.le_refl _) _
      have HO1 : Hid (OwnF 45 w.heap.size _ (t.take k) (wr.alloc (.cells #[.string N, .string V] 39))) := hown.out.below hb1
      have HB1 : Hid (Below w.heap.size w (wr.alloc (.cells #[.string N, .string V] 39))) := bel_trans hbl.out hb1
      have hs1 : w.heap.size ≤ (wr.alloc (.cells #[.string N, .string V] 39)).heap.size := HB1.out.size
      clear hcell hn hv hb1
      go_wp2_with (at_builtin; go_must (refine wp_appF 45 42 infoF2 Tryz.underlying42 rfl (.tmp 12) (.tmp 18) rfl w.heap.size _ (t.take k) _ (pn, pv) _ _ HN.out HV.out rfl HO1.out _ rfl (by simp) hlk hs1 ?_); intro v6 w6 hown6 hb6)
      have HO6 : Hid (OwnF 45 w.heap.size v6 (t.take (k + 1)) w6) := (by rw [HTk.out]; exact hown6 : OwnF _ _ v6 (t.take (k + 1)) w6)
      have HB6 : Hid (Below w.heap.size w w6) := HB1.out.trans hb6
      clear hown6 hb6
      go_roundw
      case rel => exact ⟨k + 1, by omega, by go_num, HO6, HB6⟩
      case measure => simp [intOf]; omega
    · obtain rfl : k = t.length := by omega
      rw [List.take_length] at hown
      go_wp2
      go_ret
      exact ⟨_, rfl, hown.out, hbl.out⟩

end Ck
end Go.Proofs.YtifhbjkgdnemjaaGreatDoor

/-
  Of the laws: sized, right.
-/
set_option linter.unusedVariables false
set_option linter.unusedSimpArgs false
set_option maxRecDepth 100000
namespace Go.Proofs.YtifhbjkgdnemjaaGreatDoor
open Go.RowKit Go.Shelf
namespace Ck
open Oc Tg _root_.Go.Proofs.YtifhbjkgdnemjaaGreatDoor.Fd

def encI (l : List Int) : List Value := l.map fun x => Value.int .i64 x
/-- A slice of numbers of the call's own. -/
def OwnI (B : Nat) (v : Value) (l : List Int) (w : World) : Prop := w.ownsRow B 3 1 v l.length (encI l)
theorem ownI_nil (B : Nat) (w : World) : OwnI B (.slice none 0 0) [] w := World.ownsRow_nil w B 3 1
theorem infoI : (Tryz.prog.info? 3).map (fun i => (i.zero, i.size, i.bytes)) = some (some (.int .i64 0), 1, 8) := by kernel_rfl
theorem wp_appI {ops : Array Oper} {rest : List Oper} {o : Oper} {a : Act} {Q : Exit → Act → World → Prop} (hgd : o.guard = none) (s x : Operand)
    (ho : o.op = .call { callee := .builtin .append, args := #[s, x], argTypes := #[36, 36] }) (B : Nat) (v : Value) (l : List Int) (W : World) (y : Int)
    (hs : a.eval s = v) (hown : OwnI B v l W) (g : Nat) (hx : a.eval x = .slice (some ⟨g, 0, none⟩) 1 1) (hg : g = W.heap.size) (hlen : l.length + 1 ≤ 2147483648) (hB : B ≤ W.heap.size)
    (h : ∀ v' w', OwnI B v' (l ++ [y]) w' → Below B W w' → wpList Tryz.prog ops Q rest (a.put o.dst v') w') : wpList Tryz.prog ops Q (o :: rest) a (W.alloc (.cells #[.int .i64 y] 3)) := by
  subst hg
  obtain ⟨i0, hi, hz0, hz1, hz2⟩ := info_parts infoI
  refine wpList_append_own _ hgd s x 36 ho B 3 i0 (.int .i64 0) 1 8 Tryz.underlying36 hi hz0 hz1 hz2 rfl (by decide) v l.length _ hs (World.ownsRow.alloc hown _) ⟨W.heap.size, 0, none⟩ 1 1 [.int .i64 y] hx rfl ?_ ?_ ?_ ?_ ?_ ?_
  · intro j u hj
    match j, hj with
    | 0, hj => simp at hj; subst hj; simp [Addr.add]
  · intro u hu
    simp at hu
    subst hu
    rfl
  · unfold maxLen; omega
  · omega
  · simp; omega
  · intro v' w' h1 h2 _
    refine h v' w' ?_ (((Below.refl B W).alloc hB _).grown h2 (by simp; omega) (fun k hk => (World.ownsRow.lt hown k hk).1))
    unfold OwnI encI
    rw [List.map_append, List.length_append]
    exact h1
theorem OwnI.rd {B : Nat} {v : Value} {l : List Int} {w : World} (h : OwnI B v l w) (hl : ∀ x ∈ l, -9223372036854775808 ≤ x ∧ x ≤ 9223372036854775807) : RdI w v l := by
  have hall := h
  rcases h.2 with ⟨hn, h0⟩ | ⟨g, cap, cur, rfl, hb, hg, hc, _⟩
  · have : l = [] := by
      have h1 := h0
      unfold encI at h1
      simpa using h1
    subst this
    exact ⟨none, 0, hn, by simp, hl, .inl rfl⟩
  · refine ⟨some ⟨g, 0, none⟩, cap, rfl, by omega, hl, .inr ⟨g, 0, rfl, fun j x hj => ?_⟩⟩
    have := World.ownsRow.cells hall (g := g) rfl j (.int .i64 x) (by unfold encI; rw [List.getElem?_map, hj]; rfl)
    rw [Nat.zero_add]
    have ea : Addr.add ⟨g, 0, none⟩ j = ⟨g, j, none⟩ := by unfold Addr.add; split <;> simp_all
    rw [ea] at this
    exact this
theorem OwnI.below {B : Nat} {v : Value} {l : List Int} {w w' : World} (h : OwnI B v l w) (b : Below w.heap.size w w') : OwnI B v l w' := (But.of_below b).owns h (fun _ _ e => by cases e)

set_option maxHeartbeats 2000000 in
theorem sized_any (v : Value) (l : List Int) (hl : l.length ≤ 16777216) (w : World) (hr : RdI w v l) :
    Calls Tryz.prog 19 #[v] w fun e w' => ∃ u m, e = .returned u ∧ m.length = l.length ∧ (∀ x ∈ m, 1 ≤ x ∧ x ≤ 5000) ∧ OwnI w.heap.size u m w' ∧ Below w.heap.size w w' := by
  have HR : Hid (RdI w v l) := hr
  obtain ⟨a, c, rfl, hc, hbd, _⟩ := hr
  have HBd : Hid (∀ x ∈ l, -9223372036854775808 ≤ x ∧ x ≤ 9223372036854775807) := hbd
  clear hbd
  go_enter Tryz.func19, Tryz.ntmps19
  go_wp2
  go_loopw [3, 8] (fun ov i wr => ∃ (k : Nat) (m : List Int), k ≤ l.length ∧ i = .int .i64 k ∧ Hid (m.length = k) ∧ Hid (∀ x ∈ m, 1 ≤ x ∧ x ≤ 5000) ∧ Hid (OwnI w.heap.size ov m wr) ∧ Hid (Below w.heap.size w wr)) (fun _ i _ => l.length - (intOf i).toNat)
  case atStart => exact ⟨0, [], Nat.zero_le _, rfl, (rfl : _ = _), (fun x hx => absurd hx (by simp) : ∀ x ∈ ([] : List Int), _), ownI_nil _ _, Below.refl _ _⟩
  case round =>
    obtain ⟨k, m, hk, rfl, hml, hmx, hown, hbl⟩ := hrel
    have hsz := hbl.out.size
    by_cases hlt : k < l.length
    · obtain ⟨a', c', e', _, _, hcs⟩ := HR.out.below hbl.out
      injection e' with e1 _ e2
      subst e1 e2
      rcases hcs with h | ⟨g, o, rfl, hcell⟩
      · rw [h] at hlt; simp at hlt
      have p0 := hcell k _ (nthI_some l k hlt)
      have hb := HBd.out _ (nthI_mem l k hlt)
      clear hcell
      generalize nthI l k = X at *
      go_wp2_with fail
      refine (kind_any wr X 5000 hb.1 hb.2 (by omega) (by omega)).mono ?_
      rintro e w2 ⟨j, rfl, hj, hb2⟩
      have HB2 : Hid (Below w.heap.size w w2) := bel_trans hbl.out hb2
      have HO2 : Hid (OwnI w.heap.size u3 m w2) := hown.out.below hb2
      have hs2 := HB2.out.size
      clear hb2
      have hlk : m.length + 1 ≤ 2147483648 := by rw [hml.out]; omega
      have hjj : (j : Int) + 1 ≤ 5000 := by omega
      have HMx : Hid (∀ x ∈ m ++ [(j : Int) + 1], 1 ≤ x ∧ x ≤ 5000) := (fun x hx => by
        rcases List.mem_append.1 hx with h | h
        · exact hmx.out x h
        · simp at h; subst h; omega : ∀ x ∈ m ++ [(j : Int) + 1], 1 ≤ x ∧ x ≤ 5000)
      have HMl : Hid ((m ++ [(j : Int) + 1]).length = k + 1) := (by rw [List.length_append, hml.out]; rfl : _ = _)
      go_wp2_with (at_builtin; go_must (refine wp_appI rfl (.tmp 12) (.tmp 16) rfl w.heap.size u3 m w2 ((j : Int) + 1) rfl HO2.out _ rfl (by simp) hlk hs2 ?_); intro v6 w6 hown6 hb6)
      have HO6 : Hid (OwnI w.heap.size v6 (m ++ [(j : Int) + 1]) w6) := hown6
      have HB6 : Hid (Below w.heap.size w w6) := HB2.out.trans hb6
      clear hown6 hb6
      go_roundw
      case rel => exact ⟨k + 1, m ++ [(j : Int) + 1], by omega, by go_num, HMl, HMx, HO6, HB6⟩
      case measure => simp [intOf]; omega
    · have hkl : k = l.length := by omega
      go_wp2
      go_ret
      exact ⟨_, m, rfl, by rw [hml.out, hkl], hmx.out, hown.out, hbl.out⟩

set_option maxHeartbeats 2000000 in
theorem rRight_any (p : Fl) (h1 : p.1.length ≤ maxLen) (h2 : p.2.length ≤ maxLen) (w : World) :
    Calls Tryz.prog 36 #[.agg #[.string (str p.1), .string (str p.2)]] w fun e w' => e = .returned (.bool (okT p)) ∧ Below w.heap.size w w' := by
  obtain ⟨pn, pv⟩ := p
  dsimp only at h1 h2 ⊢
  have HOk : Hid (okT (pn, pv) = (trails pn && isValue pv)) := (by
    unfold okT trails
    dsimp only
    cases isName pn <;> simp [Bool.and_comm] : okT (pn, pv) = _)
  have HM : Hid (∀ w, Calls Tryz.prog 49 #[.string (str pn)] w fun e w' => e = .returned (.bool (trails pn)) ∧ Below w.heap.size w w') := fun w => rMayTrail_any pn h1 w
  have HV : Hid (∀ w, Calls Tryz.prog 50 #[.string (str pv)] w fun e w' => e = .returned (.bool (isValue pv)) ∧ Below w.heap.size w w') := fun w => by
    have h := rIsValue_any (str pv) (by rw [str_size]; exact h2) w
    rw [str_list] at h
    exact h.mono (fun e w' ⟨he, hw⟩ => ⟨he, by rw [hw]; exact Below.refl _ _⟩)
  have hb1 : Below w.heap.size w (w.alloc (.cells #[.string (str pn), .string (str pv)] 45)) := (Below.refl _ w).alloc (Nat.le_refl _) _
  have HB1 : Hid (Below w.heap.size w (w.alloc (.cells #[.string (str pn), .string (str pv)] 45))) := hb1
  rw [HOk.out]
  generalize trails pn = tr at *
  generalize isValue pv = iv at *
  generalize str pn = N at *
  generalize str pv = V at *
  have HC1 : Hid ((w.alloc (.cells #[.string N, .string V] 45)).cell? ⟨w.heap.size, 1, none⟩ = some (.string V)) := (by simp : _ = _)
  clear hb1
  go_enter Tryz.func36, Tryz.ntmps36
  go_wp2_with fail
  refine (HM.out _).mono ?_
  rintro e w2 ⟨rfl, hb2⟩
  have HB2 : Hid (Below w.heap.size w w2) := bel_trans HB1.out hb2
  have hC2 : w2.cell? ⟨w.heap.size, 1, none⟩ = some (.string V) := (hb2.cell (World.block_lt_of_cell? _ _ HC1.out)).trans HC1.out
  clear hb2 HC1 HB1
  cases tr with
  | false =>
    go_wp2
    go_ret
    exact ⟨rfl, HB2.out⟩
  | true =>
    go_wp2_with fail
    refine (HV.out _).mono ?_
    rintro e w3 ⟨rfl, hb3⟩
    have HB3 : Hid (Below w.heap.size w w3) := bel_trans HB2.out hb3
    clear hb3
    go_wp2
    go_ret
    exact ⟨rfl, HB3.out⟩

set_option maxHeartbeats 2000000 in
theorem right_any (v : Value) (t : List Fl) (hs : sumF t ≤ 1048576) (w : World) (hr : RdF v t w) :
    Calls Tryz.prog 18 #[v] w fun e w' => e = .returned (.bool (t.all okT)) ∧ Below w.heap.size w w' := by
  have hlen := len_sumF t
  have HP : Hid (Calls Tryz.prog 16 #[v] w fun e w' => ∃ u, e = .returned u ∧ OwnF 45 w.heap.size u t w' ∧ Below w.heap.size w w') := plain_any v t w hr (by omega)
  obtain ⟨a, c, rfl, _⟩ := hr
  go_enter Tryz.func18, Tryz.ntmps18
  go_wp2_with fail
  refine HP.out.mono ?_
  rintro e w1 ⟨u, rfl, ho1, hb1⟩
  have HR : Hid (RdF u t w1) := ho1.rd
  have HB1 : Hid (Below w.heap.size w w1) := hb1
  obtain ⟨a1, c1, rfl, _⟩ := HR.out
  have hs1 := hb1.size
  clear ho1 hb1
  go_wp2
  go_loopw [8] (fun i wr => ∃ (k : Nat), k ≤ t.length ∧ i = .int .i64 k ∧ Hid (∀ j, j < k → okT (Fd.nth t j) = true) ∧ Hid (Below w1.heap.size w1 wr)) (fun i _ => t.length - (intOf i).toNat)
  case atStart => exact ⟨0, Nat.zero_le _, rfl, (fun j hj => by omega : ∀ j, j < 0 → _), Below.refl _ _⟩
  case round =>
    obtain ⟨k, hk, rfl, hok, hbl⟩ := hrel
    by_cases hlt : k < t.length
    · obtain ⟨a', c', e', hcs⟩ := HR.out.below hbl.out
      injection e' with e1 _ e2
      subst e1 e2
      rcases hcs with h | ⟨g, o, rfl, hlc, hcell⟩
      · rw [h] at hlt; simp at hlt
      obtain ⟨p0, p1⟩ := hcell k hlt
      have hz := szSum t k hlt
      have NX : okT (Fd.nth t k) = true → Hid (∀ j, j < k + 1 → okT (Fd.nth t j) = true) := fun h j hj => by
        by_cases hjk : j = k
        · subst hjk; exact h
        · exact hok.out j (by omega)
      have BD : okT (Fd.nth t k) = false → Hid (t.all okT = false) := fun h => not_all t k hlt h
      have HRt : Hid (∀ w, Calls Tryz.prog 36 #[.agg #[.string (str (Fd.nth t k).1), .string (str (Fd.nth t k).2)]] w fun e w' => e = .returned (.bool (okT (Fd.nth t k))) ∧ Below w.heap.size w w') := fun w => rRight_any (Fd.nth t k) (by unfold szF at hz; unfold maxLen; omega) (by unfold szF at hz; unfold maxLen; omega) w
      clear hcell hz
      generalize okT (Fd.nth t k) = ok at *
      generalize str (Fd.nth t k).1 = N at *
      generalize str (Fd.nth t k).2 = V at *
      have HBa : Hid (Below w1.heap.size w1 (wr.alloc (.cells #[.string N, .string V] 45))) := bel_trans hbl.out ((Below.refl _ wr).alloc (Nat.le_refl _) _)
      cases ok with
      | false =>
        have bd := BD rfl
        clear NX BD
        go_wp2_with fail
        refine (HRt.out _).mono ?_
        rintro e w2 ⟨rfl, hb2⟩
        have HB2 : Hid (Below w1.heap.size w1 w2) := bel_trans HBa.out hb2
        clear hb2
        go_wp2
        go_ret
        exact ⟨by rw [bd.out]; rfl, bel_trans HB1.out HB2.out⟩
      | true =>
        have nx := NX rfl
        clear NX BD
        go_wp2_with fail
        refine (HRt.out _).mono ?_
        rintro e w2 ⟨rfl, hb2⟩
        have HB2 : Hid (Below w1.heap.size w1 w2) := bel_trans HBa.out hb2
        clear hb2
        go_wp2
        go_roundw
        case rel => exact ⟨k + 1, by omega, by go_num, nx, HB2⟩
        case measure => simp [intOf]; omega
    · have HE : Hid (t.all okT = true) := all_of t (fun j hj => hok.out j (by omega))
      go_wp2
      go_ret
      exact ⟨by rw [HE.out]; rfl, bel_trans HB1.out hbl.out⟩

end Ck
end Go.Proofs.YtifhbjkgdnemjaaGreatDoor

/-
  For the laws over coded bodies: appends in drawn regions, what was encoded.
-/
set_option linter.unusedVariables false
set_option linter.unusedSimpArgs false
set_option maxRecDepth 100000
namespace Go.Proofs.YtifhbjkgdnemjaaGreatDoor
open Go.RowKit Go.Shelf
namespace Ck
open Oc Tg _root_.Go.Proofs.YtifhbjkgdnemjaaGreatDoor.Fd

/-- All that lay in x lies still. -/
def SB (x W : World) : Prop := Below x.heap.size x W
theorem SB.refl (x : World) : SB x x := Below.refl _ _
theorem SB.drew {x W : World} (h : SB x W) : SB x W.drew := Below.drew h
theorem SB.alloc {x W : World} (h : SB x W) (o : Obj) : SB x (W.alloc o) := Below.alloc h h.size _
theorem SB.on {x W W' : World} (h : SB x W) (b : Below W.heap.size W W') : SB x W' := bel_trans h b
theorem OwnI.zero {B : Nat} {v : Value} {l : List Int} {w : World} (h : OwnI B v l w) : OwnI 0 v l w := by
  refine ⟨h.1, ?_⟩
  rcases h.2 with h | ⟨g, cap, cur, e, _, rest⟩
  · exact .inl h
  · exact .inr ⟨g, cap, cur, e, Nat.zero_le _, rest⟩
theorem ownF_zero {T B : Nat} {v : Value} {l : List Fl} {w : World} (h : OwnF T B v l w) : OwnF T 0 v l w := by
  refine ⟨h.1, ?_⟩
  rcases h.2 with h | ⟨g, cap, cur, e, _, rest⟩
  · exact .inl h
  · exact .inr ⟨g, cap, cur, e, Nat.zero_le _, rest⟩
theorem keepI {B : Nat} {v u : Value} {t : List Fl} {m : List Int} {W w' : World} (hF : OwnF 39 B v t W) (hI : OwnI 0 u m W) (hb : But v.ownBlock.toList W w') : OwnI 0 u m w' :=
  hb.owns hI (fun g hg e => by
    have e' : v.ownBlock = some g := by simpa using e
    exact ne_rows (ownF_zero hF) hI (by decide) e' hg)

/-- A slice of fields appended to one of the call's own, in a region that draws its order. -/
theorem step_appFs {ops : Array Oper} {o : Oper} {a : Act} {K : Act → World → Prop} {Q : Exit → Act → World → Prop} {E' : Prop} (hgd : o.guard = none) (s x : Operand)
    (ho : o.op = .call { callee := .builtin .append, args := #[s, x], argTypes := #[37, 37] }) (B : Nat) (v y : Value) (t u : List Fl) (W : World)
    (hs : a.eval s = v) (hown : OwnF 39 B v t W) (hx : a.eval x = y) (hy : InF y u W) (hlen : t.length + u.length ≤ 2147483648) (hB : B ≤ W.heap.size)
    (h : ∀ v' w', Hid (OwnF 39 B v' (t ++ u) w') → Hid (But v.ownBlock.toList W w') → Hid (Below B W w') → K (a.put o.dst v') w') :
    if Region.wanted o (yielded ops a.tmps) = true then Oper.wp Tryz.prog o a W K Q else E' := by
  rw [if_pos (by simp [Region.wanted, hgd])]
  obtain ⟨i0, hi, hz0, hz1, hz2⟩ := info_parts infoF
  have own' : ∀ (ad : Addr) (c : Nat), y = .slice (some ad) u.length c → (∀ j z, (encF u)[j]? = some z → W.cell? (ad.add j) = some z) → o.wp Tryz.prog a W K Q := by
    intro ad c ey hcell
    refine wp_append_own W s x 37 ho B 39 i0 (.agg #[.string ⟨#[]⟩, .string ⟨#[]⟩]) 2 32 Tryz.underlying37 hi hz0 hz1 hz2 rfl (by decide) v t.length _ hs hown ad u.length c (encF u) (hx.trans ey) (encF_len u) hcell ?_ ?_ ?_ hB ?_
    · intro z hz
      obtain ⟨j, hj⟩ := List.getElem?_of_mem hz
      obtain ⟨_, e⟩ := encF_get u j z hj
      rw [e]
      split <;> rfl
    · unfold maxLen; omega
    · omega
    · intro v' w' h1 h2 _
      refine h v' w' ?_ ((But.refl _ W).grown h2 (fun k hk => by rw [hk]; simp)) ((Below.refl B W).grown h2 hB (fun k hk => (World.ownsRow.lt hown k hk).1))
      show OwnF _ _ _ _ _
      unfold OwnF
      rw [List.length_append, show encF (t ++ u) = encF t ++ encF u by unfold encF; rw [List.flatMap_append]]
      exact h1
  obtain ⟨⟨a2, c2, rfl, hr⟩, hnil⟩ := hy
  by_cases hu : u = []
  · subst hu
    rcases hnil rfl with e | ⟨g, c, e⟩
    · have hrun := run_append_owned_none (P := Tryz.prog) (w := W) B 37 o.type 39 i0 2 Tryz.underlying37 hi v t.length _ hown
      have hx' : a.eval x = .slice none 0 0 := hx.trans e
      unfold Oper.wp
      simp [execOp, ho, resolve, invoke, builtin, hs, hx', hrun, Result.andThen]
      exact h v W (by rw [List.append_nil]; exact hown) (But.refl _ _) (Below.refl _ _)
    · exact own' g c e (fun j z hj => by simp [encF] at hj)
  · rcases hr with hr | ⟨g, o', rfl, hc, hcell⟩
    · exact absurd hr hu
    · refine own' ⟨g, o', none⟩ c2 rfl (fun j z hj => ?_)
      rw [addr_add]
      obtain ⟨hq, e⟩ := encF_get u j z hj
      obtain ⟨h0, h1⟩ := hcell (j / 2) hq
      rw [e]
      by_cases hm : j % 2 = 0
      · rw [if_pos hm]
        rw [show o' + j / 2 * 2 = o' + j by omega] at h0
        exact h0
      · rw [if_neg hm]
        rw [show o' + j / 2 * 2 + 1 = o' + j by omega] at h1
        exact h1

theorem chunkC_ge (t : List UInt8) : t.length ≤ (chunkC t).length := by
  unfold chunkC
  split
  · next h => subst h; simp
  · simp only [List.length_append]; omega
theorem cutC_ge : ∀ (l : List Int) (t : List UInt8), t.length ≤ (cutC l t).length
  | [], t => chunkC_ge t
  | n :: l, t => by
    have h1 := chunkC_ge (t.take n.toNat)
    have h2 := cutC_ge l (t.drop n.toNat)
    show t.length ≤ (chunkC (t.take n.toNat) ++ cutC l (t.drop n.toNat)).length
    rw [List.length_append]
    have h3 : (t.drop n.toNat).length = t.length - n.toNat := List.length_drop
    have h4 : (t.take n.toNat).length = min n.toNat t.length := List.length_take
    omega
theorem cutC_len : ∀ (l : List Int) (t : List UInt8), t.length ≤ 1099511627776 → (cutC l t).length ≤ t.length + 15 * (l.length + 1)
  | [], t, h => by
    have := chunkC_len t h
    show (chunkC t).length ≤ _
    simp only [List.length_nil]
    omega
  | n :: l, t, h => by
    have h2 : (t.drop n.toNat).length = t.length - n.toNat := List.length_drop
    have h3 : (t.take n.toNat).length = min n.toNat t.length := List.length_take
    have e1 := chunkC_len (t.take n.toNat) (by omega)
    have e2 := cutC_len l (t.drop n.toNat) (by omega)
    show (chunkC (t.take n.toNat) ++ cutC l (t.drop n.toNat)).length ≤ _
    rw [List.length_append]
    simp only [List.length_cons]
    omega

/-- Encode of what may be encoded. -/
theorem Encode_right (A : ByteArray) (hA : A.size ≤ 1048576) (u : Value) (m : List Int) (hml : m.length ≤ 1048576) (hmx : ∀ x ∈ m, 1 ≤ x ∧ x ≤ 5000) (v : Value) (t : List Fl) (hs : sumF t ≤ 1048576) (hall : t.all okT = true) (w : World) {B : Nat} (hI : OwnI 0 u m w) (hF : OwnF 39 B v t w) (tab : Tab w) (td : Deb w) :
    Calls Tryz.prog 14 #[.string A, u, v] w fun e w' => ∃ X : ByteArray, e = .returned (.tuple #[.string X, .int .i64 0]) ∧ X.data.toList = encL A.data.toList m t ∧ A.size + 5 ≤ X.size ∧ (trailG t).length + 2 ≤ X.size ∧ X.size ≤ 20000000 ∧ Below w.heap.size w w' := by
  have h := Encode_any A hA u m hml v t hs w (hI.rd (fun x hx => by have := hmx x hx; omega)) hF.rd tab td
  rw [encR_yes (fun x hx => (hmx x hx).1) hall] at h
  have h1 := encL_len A.data.toList m t
  have h2 := cutC_ge m A.data.toList
  have h3 := cutC_len m A.data.toList (by rw [size_list]; omega)
  have h4 := trailG_len t
  have h5 := size_list A
  refine h.mono (fun e w' ⟨he, hb⟩ => ⟨str (encL A.data.toList m t), he, str_list _, ?_, ?_, ?_, hb⟩)
  · rw [str_size]; omega
  · rw [str_size]; omega
  · rw [str_size]; omega

end Ck
end Go.Proofs.YtifhbjkgdnemjaaGreatDoor

/-
  A witness for a row with a condition of its own, at a world whose listed tables are laid.
-/
set_option linter.unusedVariables false
namespace Go.Proofs.YtifhbjkgdnemjaaGreatDoor
namespace Oc

theorem witness_zip {H : Type} {enc : TypeId × Value → H} {C : Checked} {os : Os} {f : FuncId} {fn : Func} {s : OpenSpec} {conds : List PathCond} {apart : Bool} {laid : List (String × DataW Unit)} (modest : Bool) (w0 : World) (args : Array Value) (hos : w0.os = os)
    (hsh : (w0.forCall (fun _ _ => 0) ⟨#[], args, []⟩).Shaped C.prog)
    (hok : Input.okWideB C.prog (w0.forCall (fun _ _ => 0) ⟨#[], args, []⟩) f ⟨#[], args, []⟩ = true)
    (hrow : s.preRow enc C.prog fn conds apart laid (w0.forCall (fun _ _ => 0) ⟨#[], args, []⟩).memory args) :
    ∃ (w : World) (tape : Tape) (i : Input), w.os = os ∧ (w.forCall tape i).Shaped C.prog ∧ i.vars = [] ∧ Input.okWide C.prog (w.forCall tape i) .any w.heap.size f i ∧
      s.preRow enc C.prog fn conds apart laid (w.forCall tape i).memory i.args ∧ ({ modest := modest } : Assume).holds C.prog (lone (Frame.enter C.prog f i.args .normal) [] (w.forCall tape i)) :=
  ⟨w0, fun _ _ => 0, ⟨#[], args, []⟩, hos, hsh, (Input.okWide_of_okWideB (base := 0) hok).1, (Input.okWide_of_okWideB hok).2, hrow, by
    simp only [Assume.holds]
    exact ⟨by simp, by simp, fun _ => Modest.zero, by simp, by simp⟩⟩

end Oc
end Go.Proofs.YtifhbjkgdnemjaaGreatDoor
