/- Several texts as one. -/
import Derived.Test.YtjngpafokkjkdaaGreatDoorMgL
import Derived.Test.YtjngpafokkjkdaaGreatDoorProg
import Derived.Below
import Derived.WalkKit
import Derived.WalkSpells
import Derived.WalkLawsBesides
import Derived.Deep.Draws
import Derived.Laws.OwnMore
import Derived.Deep.RegionLaw
import Derived.Deep.DeepMust
import Derived.Lib.ConvBytes
import Derived.Laws.IdiomStrings
import Derived.Laws.StandIn
import Derived.Lib.ItoaMem
import Derived.Lib.ItoaLen
import Derived.Lib.AppendIntMem
import Derived.Lib.LaidTab
import Derived.Test.YtjngpafokkjkdaaGreatDoorMgE
import Derived.BigQuiet
import Derived.Deep.QuietTactic
import Derived.OneCell
/-
  Worlds that are as they were but for some blocks; rows of bytes; appends; texts.
-/
set_option linter.unusedVariables false
set_option linter.unusedSimpArgs false
namespace Go.Proofs.YtjngpafokkjkdaaGreatDoor
open Go.RowKit
namespace Bs

theorem ret_int {k : IntKind} {a b : Int} (h : a = b) : Ending.returned (.int k a) = .returned (.int k b) := by rw [h]
theorem ret_bool {a b : Bool} (h : a = b) : Ending.returned (.bool a) = .returned (.bool b) := by rw [h]
theorem ret_string {a b : ByteArray} (h : a = b) : Ending.returned (.string a) = .returned (.string b) := by rw [h]

def bv (l : List UInt8) : List Value := l.map fun x => Value.int .u8 (x.toNat : Int)
theorem bv_length (l : List UInt8) : (bv l).length = l.length := by unfold bv; simp
theorem bv_get (l : List UInt8) (i : Nat) : (bv l)[i]? = (l[i]?).map fun x => Value.int .u8 (x.toNat : Int) := by unfold bv; simp
theorem bv_append (a b : List UInt8) : bv (a ++ b) = bv a ++ bv b := by unfold bv; simp
theorem bv_one (l : List UInt8) : ∀ v ∈ bv l, v.oneCell' = true := by
  intro v hv
  unfold bv at hv
  obtain ⟨x, _, rfl⟩ := List.mem_map.1 hv
  rfl

/-- Of what was there nothing has turned but the blocks bs. -/
structure But (bs : List Nat) (w w' : World) : Prop where
  os : w'.os = w.os
  tape : w'.tape = w.tape
  output : w'.output = w.output
  size : w.heap.size ≤ w'.heap.size
  block : ∀ k, k < w.heap.size → k ∉ bs → w'.heap[k]? = w.heap[k]?
theorem But.refl (bs : List Nat) (w : World) : But bs w w := ⟨rfl, rfl, rfl, Nat.le_refl _, fun _ _ _ => rfl⟩
theorem But.trans {bs : List Nat} {a b c : World} (h : But bs a b) (k : But bs b c) : But bs a c :=
  ⟨k.os.trans h.os, k.tape.trans h.tape, k.output.trans h.output, Nat.le_trans h.size k.size, fun i hi hn => (k.block i (Nat.lt_of_lt_of_le hi h.size) hn).trans (h.block i hi hn)⟩
theorem But.mono {bs cs : List Nat} {a b : World} (h : But bs a b) (hs : ∀ x, x ∈ bs → x ∈ cs) : But cs a b := ⟨h.os, h.tape, h.output, h.size, fun i hi hn => h.block i hi (fun e => hn (hs i e))⟩
theorem But.nil {cs : List Nat} {a b : World} (h : But [] a b) : But cs a b := h.mono (fun _ e => by cases e)
theorem But.of_below {w w' : World} (h : Below w.heap.size w w') : But [] w w' := ⟨h.os, h.tape, h.output, h.size, fun k hk _ => h.block k hk⟩
theorem But.to_below {w w' : World} (h : But [] w w') : Below w.heap.size w w' := ⟨h.os, h.tape, h.output, h.size, fun k hk => h.block k hk (fun e => by cases e)⟩
theorem But.below {bs : List Nat} {w w' : World} {B : Nat} (h : But bs w w') (hB : B ≤ w.heap.size) (hb : ∀ x, x ∈ bs → B ≤ x) : Below B w w' :=
  ⟨h.os, h.tape, h.output, h.size, fun k hk => h.block k (by omega) (fun e => by have := hb k e; omega)⟩
theorem But.alloc {bs : List Nat} {a w : World} (h : But bs a w) (o : Obj) : But bs a (w.alloc o) := h.trans ⟨rfl, rfl, rfl, by simp, fun k hk _ => Below.heap_alloc _ _ _ hk⟩
theorem But.setCell {bs : List Nat} {a w : World} (h : But bs a w) {p : Addr} (hp : p.block ∈ bs) (u : Value) : But bs a (w.setCell p u) :=
  h.trans ⟨rfl, rfl, rfl, by simp [World.setCell], fun k hk hn => Below.heap_setCell _ _ _ _ (fun e => hn (e ▸ hp))⟩
theorem But.setRow {bs : List Nat} {a w : World} (h : But bs a w) {g : Nat} (hp : g ∈ bs) (cs : Array Value) : But bs a (w.setRow g cs) :=
  h.trans ⟨rfl, rfl, rfl, by simp [World.setRow], fun k hk hn => setRow_other w g k cs (fun e => hn (e ▸ hp))⟩
theorem But.drew {bs : List Nat} {a w : World} (h : But bs a w) : But bs a w.drew := ⟨h.os, h.tape, h.output, h.size, h.block⟩
theorem But.drewN {bs : List Nat} {a w : World} (h : But bs a w) (q : Nat) : But bs a (w.drewN q) := by
  induction q with
  | zero => exact h
  | succ q ih => exact ih.drew
theorem But.grown {bs : List Nat} {a w w' : World} {row : Option Nat} (h : But bs a w) (hg : w.grownBy w' row) (hr : ∀ k, row = some k → k ∈ bs) : But bs a w' :=
  h.trans ⟨hg.os, hg.tape, hg.output, hg.size, fun k hk hn => hg.block k hk (fun e => hn (hr k e.symm))⟩
theorem But.cell {bs : List Nat} {w w' : World} (h : But bs w w') {p : Addr} {v : Value} (hc : w.cell? p = some v) (hn : p.block ∉ bs) : w'.cell? p = some v := by
  rw [World.cell?_of_block (w := w) (h.block p.block (World.block_lt_of_cell? w _ hc) hn)]
  exact hc
theorem But.heap {bs : List Nat} {w w' : World} (h : But bs w w') {b : Nat} {o : Obj} (hc : w.heap[b]? = some o) (hn : b ∉ bs) : w'.heap[b]? = some o := by
  rw [h.block b (Array.getElem?_eq_some_iff.1 hc).1 hn]
  exact hc
theorem But.owns {bs : List Nat} {w w' : World} (h : But bs w w') {B T S n : Nat} {v : Value} {xs : List Value} (ho : w.ownsRow B T S v n xs) (hn : ∀ g, v.ownBlock = some g → g ∉ bs) : w'.ownsRow B T S v n xs := by
  refine ⟨ho.1, ?_⟩
  rcases ho.2 with hz | ⟨g, cap, cur, rfl, hb, hg, rest⟩
  · exact .inl hz
  · exact .inr ⟨g, cap, cur, rfl, hb, h.heap hg (hn g rfl), rest⟩

theorem bel_drewN {B : Nat} {a w : World} (h : Below B a w) (q : Nat) : Below B a (w.drewN q) := by
  induction q with
  | zero => exact h
  | succ q ih => exact ih.drew
theorem bel_trans {a b c : World} (h : Below a.heap.size a b) (k : Below b.heap.size b c) : Below a.heap.size a c := h.trans (k.mono h.size)

/-- The value is a slice of these bytes. -/
def RdB (w : World) (v : Value) (l : List UInt8) : Prop :=
  ∃ a cap, v = .slice a l.length cap ∧ l.length ≤ cap ∧ (a = none → cap = 0) ∧ (l = [] ∨ ∃ g o, a = some ⟨g, o, none⟩ ∧ ∀ j x, l[j]? = some x → w.cell? ⟨g, o + j, none⟩ = some (.int .u8 (x.toNat : Int)))
theorem RdB.nil (w : World) : RdB w (.slice none 0 0) [] := ⟨none, 0, rfl, Nat.le_refl _, fun _ => rfl, .inl rfl⟩
theorem RdB.but {bs : List Nat} {w w' : World} {v : Value} {l : List UInt8} (h : RdB w v l) (b : But bs w w') (hn : ∀ g, v.ownBlock = some g → g ∉ bs) : RdB w' v l := by
  obtain ⟨a, cap, rfl, hc, hz, h⟩ := h
  refine ⟨a, cap, rfl, hc, hz, ?_⟩
  rcases h with h | ⟨g, o, rfl, h⟩
  · exact .inl h
  · exact .inr ⟨g, o, rfl, fun j x hj => b.cell (h j x hj) (hn g rfl)⟩
theorem RdB.below {w w' : World} {v : Value} {l : List UInt8} (h : RdB w v l) (b : Below w.heap.size w w') : RdB w' v l := h.but (But.of_below b) (fun _ _ e => by cases e)
/-- A row of the call's own is read. -/
theorem RdB.own {w : World} {B T : Nat} {v : Value} {l : List UInt8} (h : w.ownsRow B T 1 v l.length (bv l)) : RdB w v l := by
  rcases h.2 with ⟨rfl, hn⟩ | ⟨g, cap, cur, rfl, hb, hg, hc, hm, hs, ht⟩
  · obtain rfl : l = [] := List.eq_nil_of_length_eq_zero hn
    exact RdB.nil w
  · refine ⟨_, cap, rfl, hc, (fun e => by cases e), .inr ⟨g, 0, rfl, fun j x hj => ?_⟩⟩
    have := World.ownsRow.cells h (g := g) rfl j _ (by rw [bv_get, hj]; rfl)
    rw [Addr.add_lit] at this
    exact this
theorem owns_len {w : World} {B T : Nat} {v : Value} {n : Nat} {l : List UInt8} (h : w.ownsRow B T 1 v n (bv l)) : n = l.length := by
  have := h.1
  rw [bv_length] at this
  omega
theorem RdB.ofOwn {w : World} {B T n : Nat} {v : Value} {l : List UInt8} (h : w.ownsRow B T 1 v n (bv l)) : RdB w v l := by
  have hn := owns_len h
  subst hn
  exact RdB.own h
theorem owns_fresh {w : World} {B T S n : Nat} {v : Value} {xs : List Value} (h : w.ownsRow B T S v n xs) : ∀ g, v.ownBlock = some g → B ≤ g := fun g hg => (World.ownsRow.lt h g hg).1

theorem infoB : (Tryz.prog.info? 5).map (fun i => (i.zero, i.size, i.bytes)) = some (some (.int .u8 0), 1, 1) := by kernel_rfl
theorem sizeB : (Tryz.prog.info? 5).map (·.size) = some 1 := by kernel_rfl

theorem wpList_wanted {P : Program} {ops : Array Oper} {rest : List Oper} {o : Oper} {a : Act} {w : World} {Q : Exit → Act → World → Prop} (hw : Region.wanted o (yielded ops a.tmps) = true)
    (h : o.wp P a w (wpList P ops Q rest) Q) : wpList P ops Q (o :: rest) a w := by
  rw [wpList, if_pos hw]
  exact .inl h

/- Texts. -/
def str (l : List UInt8) : ByteArray := ⟨l.toArray⟩
theorem str_list (l : List UInt8) : (str l).data.toList = l := by simp [str]
theorem str_size (l : List UInt8) : (str l).size = l.length := by simp [str, ByteArray.size]
theorem str_self (s : ByteArray) : str s.data.toList = s := by simp [str]
theorem str_inj {a b : List UInt8} (h : str a = str b) : a = b := by rw [← str_list a, h, str_list]
theorem size_list (s : ByteArray) : s.data.toList.length = s.size := by simp
theorem eq_list {a b : ByteArray} (h : a.data.toList = b.data.toList) : a = b := by rw [← str_self a, h, str_self]
theorem eq_toList (a b : ByteArray) : (a.toList == b.toList) = decide (a = b) := by
  rw [ByteArray.toList_eq, ByteArray.toList_eq, Bool.eq_iff_iff, beq_iff_eq, decide_eq_true_iff]
  exact ⟨eq_list, fun h => by rw [h]⟩
theorem ne_toList (a b : ByteArray) : (a.toList != b.toList) = !decide (a = b) := by
  rw [bne, eq_toList]
theorem at_lt (s : ByteArray) (k : Nat) (h : k < s.size) : s.data.toList.getD k 0 = s[k] := by
  rw [List.getD_eq_getElem?_getD, List.getElem?_eq_getElem (by simpa using h)]
  rfl
/-- The byte at a place, as a number. -/
def byt (s : ByteArray) (j : Nat) : Int := ((s.data.toList.getD j 0).toNat : Int)
theorem byt_bd (s : ByteArray) (j : Nat) : 0 ≤ byt s j ∧ byt s j ≤ 255 := by
  unfold byt
  have := (s.data.toList.getD j 0).toNat_lt
  omega
theorem byt_at (s : ByteArray) (j : Nat) (h : j < s.size) : (s[j].toNat : Int) = byt s j := by unfold byt; rw [at_lt s j h]

/-- 'string(b)' of a slice that is read. -/
theorem back (w : World) (v : Value) (l : List UInt8) (h : RdB w v l) : (convert 128 9 v).run Tryz.prog w = .ok (.string (str l)) w := by
  obtain ⟨a, cap, rfl, hc, hz, hr⟩ := h
  rcases hr with hr | ⟨g, o, rfl, hr⟩
  · subst hr
    cases a with
    | none => rw [run_convert_bytes_string (P := Tryz.prog) w 128 9 5 none _ cap Tryz.underlying128 Tryz.underlying5 Tryz.underlying9]; simp [Conv.bytesToString, Sem.run_pure, str]; rfl
    | some ad =>
      refine run_convert_bytes_back w 128 9 5 ad cap [] Tryz.underlying128 Tryz.underlying5 Tryz.underlying9 (fun j hj => ?_)
      simp at hj
  · refine run_convert_bytes_back w 128 9 5 ⟨g, o, none⟩ cap l Tryz.underlying128 Tryz.underlying5 Tryz.underlying9 (fun j hj => ?_)
    rw [Addr.add_lit]
    exact hr j _ (List.getElem?_eq_getElem hj)

end Bs
end Go.Proofs.YtjngpafokkjkdaaGreatDoor

/-
  Contracts of stamp's calendar, and of the document's.
-/
set_option linter.unusedVariables false
set_option linter.unusedSimpArgs false
namespace Go.Proofs.YtjngpafokkjkdaaGreatDoor
open Go.RowKit
namespace Bs

theorem tm_z (y k : Int) : (y.tmod k = 0) ↔ (y % k = 0) := ⟨fun h => Int.emod_eq_zero_of_dvd (Int.dvd_of_tmod_eq_zero h), fun h => Int.tmod_eq_zero_of_dvd (Int.dvd_of_emod_eq_zero h)⟩
theorem tq {y k : Int} (h : 0 ≤ y) : y.tdiv k = y / k := Int.tdiv_eq_ediv_of_nonneg h
theorem tr {y k : Int} (h : 0 ≤ y) : y.tmod k = y % k := Int.tmod_eq_emod_of_nonneg h
theorem leap_t (y : Int) : leap y = (decide (y.tmod 4 = 0) && !decide (y.tmod 100 = 0) || decide (y.tmod 400 = 0)) := by
  unfold leap
  simp only [tm_z]
  by_cases a : y % 4 = 0 <;> by_cases b : y % 100 = 0 <;> by_cases c : y % 400 = 0 <;> simp [a, b, c]

set_option maxHeartbeats 400000 in
theorem Leap_any (y : Int) (h0 : -9223372036854775808 ≤ y) (h1 : y ≤ 9223372036854775807) (w : World) :
    Calls Tryz.prog 104 #[.int .i64 y] w fun e w' => e = .returned (.bool (leap y)) ∧ w' = w := by
  rw [leap_t]
  by_cases a : y.tmod 4 = 0 <;> by_cases b : y.tmod 100 = 0 <;> by_cases c : y.tmod 400 = 0
  all_goals
    go_enter Tryz.func104, Tryz.ntmps104
    go_wp2
    go_ret
    exact ⟨ret_bool (by simp [a, b, c]), rfl⟩

/- The tables. -/
def pms : List Int := [31, 28, 31, 30, 31, 30, 31, 31, 30, 31, 30, 31]

/-- The tables lie where they were laid. -/
structure Tb (w : World) : Prop where
  l0 : 2 < w.heap.size
  l1 : 0 < w.heap.size
  l2 : 1 < w.heap.size
  l3 : 3 < w.heap.size
  pm : ∀ i : Nat, i < 12 → w.cell? ⟨2, i, none⟩ = some (.int .i64 (pms.getD i 0))
  sd : ∀ i : Nat, i < 7 → w.cell? ⟨0, i, none⟩ = some (.string (str (shorts.getD i [])))
  ld : ∀ i : Nat, i < 7 → w.cell? ⟨1, i, none⟩ = some (.string (str (longs.getD i [])))
  mo : ∀ i : Nat, i < 12 → w.cell? ⟨3, i, none⟩ = some (.string (str (mons.getD i [])))

theorem Tb.below {B : Nat} {w w' : World} (h : Tb w) (b : Below B w w') (hB : w.heap.size ≤ B) : Tb w' := by
  have hs := b.size
  have l0 := h.l0
  have l1 := h.l1
  have l2 := h.l2
  have l3 := h.l3
  exact ⟨by omega, by omega, by omega, by omega, fun i hi => by rw [b.cell (show 2 < B by omega)]; exact h.pm i hi, fun i hi => by rw [b.cell (show 0 < B by omega)]; exact h.sd i hi, fun i hi => by rw [b.cell (show 1 < B by omega)]; exact h.ld i hi, fun i hi => by rw [b.cell (show 3 < B by omega)]; exact h.mo i hi⟩
theorem Tb.bel {w w' : World} (h : Tb w) (b : Below w.heap.size w w') : Tb w' := h.below b (Nat.le_refl _)

def I64 (x : Int) : Prop := -9223372036854775808 ≤ x ∧ x ≤ 9223372036854775807

set_option maxHeartbeats 1000000 in
theorem MonthDays_any (y m : Int) (hy : I64 y) (hm : I64 m) (w : World) (t : Tb w) :
    Calls Tryz.prog 87 #[.int .i64 y, .int .i64 m] w fun e w' => e = .returned (.int .i64 (md y m)) ∧ w' = w := by
  obtain ⟨m0, m1⟩ := hm
  by_cases h : 1 ≤ m ∧ m ≤ 12
  · by_cases h2 : m = 2
    · subst h2
      have c1 : w.cell? ⟨2, 1, none⟩ = some (.int .i64 28) := t.pm 1 (by decide)
      clear t
      cases hl : leap y
      all_goals
        go_enter Tryz.func87, Tryz.ntmps87
        go_wp2_with fail
        refine (Leap_any y hy.1 hy.2 w).mono ?_
        rintro e w' ⟨rfl, rfl⟩
        rw [hl]
        go_wp2
        go_ret
        exact ⟨ret_int (by simp [md, feb, hl]), rfl⟩
    · have ck := t.pm (m - 1).toNat (by omega)
      clear t
      rcases months h.1 h.2 with rfl | rfl | rfl | rfl | rfl | rfl | rfl | rfl | rfl | rfl | rfl | rfl
      all_goals first
        | (exfalso; exact h2 rfl)
        | (simp [pms] at ck
           go_enter Tryz.func87, Tryz.ntmps87
           go_wp2
           go_ret
           exact ⟨rfl, rfl⟩)
  · by_cases h3 : m < 1
    · go_enter Tryz.func87, Tryz.ntmps87
      go_wp2
      go_ret
      exact ⟨ret_int (by unfold md; rw [if_pos (by omega)]), rfl⟩
    · have h4 : 12 < m := by omega
      go_enter Tryz.func87, Tryz.ntmps87
      go_wp2
      go_ret
      exact ⟨ret_int (by unfold md; rw [if_pos (by omega)]), rfl⟩

def daysS (y m d : Int) : Int × Int := if 1 ≤ y ∧ y ≤ 9999 ∧ 1 ≤ d ∧ d ≤ md y m then (dn y m d, 0) else (0, 41)
theorem daysS_ok {y m d : Int} (h : IsD y m d) : daysS y m d = (dn y m d, 0) := if_pos h
theorem daysS_no {y m d : Int} (h : ¬ IsD y m d) : daysS y m d = (0, 41) := if_neg h
theorem ret_two {j k : IntKind} {a b : Int} {r : Int × Int} (h : r = (a, b)) : Ending.returned (.tuple #[.int j a, .int k b]) = .returned (.tuple #[.int j r.1, .int k r.2]) := by rw [h]
theorem ret_pair {j k : IntKind} {a b c d : Int} (h : a = c) (h' : b = d) : Ending.returned (.tuple #[.int j a, .int k b]) = .returned (.tuple #[.int j c, .int k d]) := by rw [h, h']
theorem jan_r {y : Int} (h1 : 1 ≤ y) (h2 : y ≤ 9999) : -719162 ≤ jan y ∧ jan y ≤ 2932896 := by
  have a := jan_mono h1
  have b := jan_mono (a := y) (b := 9999) h2
  rw [jan_one] at a
  have c : jan 9999 = 2932532 := by decide
  omega
theorem cum_r (y m : Int) : 0 ≤ cum y m ∧ cum y m ≤ 366 := by
  have a := cum_nn y m
  by_cases h : m ≤ 13
  · have b := cum_le y m h
    have c := feb_or y
    rw [yd_feb] at b
    omega
  · rw [cum_big (by omega)]
    have c := feb_or y
    omega
theorem jan_q {y : Int} (h : 1 ≤ y) : (y - 1) * 365 + (y - 1).tdiv 4 - (y - 1).tdiv 100 + (y - 1).tdiv 400 - 719162 = jan y := by
  unfold jan
  rw [tq (by omega), tq (by omega), tq (by omega)]

set_option maxRecDepth 100000 in
set_option maxHeartbeats 1000000 in
theorem Days_any (y m d : Int) (hy : I64 y) (hm : I64 m) (hd : I64 d) (w : World) (t : Tb w) :
    Calls Tryz.prog 92 #[.int .i64 y, .int .i64 m, .int .i64 d] w fun e w' => e = .returned (.tuple #[.int .i64 (daysS y m d).1, .int .i64 (daysS y m d).2]) ∧ w' = w := by
  obtain ⟨d0, d1⟩ := hd
  have HM : Hid (∀ k, I64 k → Calls Tryz.prog 87 #[.int .i64 y, .int .i64 k] w fun e w' => e = .returned (.int .i64 (md y k)) ∧ w' = w) := fun k hk => MonthDays_any y k hy hk w t
  clear t
  obtain ⟨y0, y1⟩ := hy
  by_cases h1 : y < 1
  · rw [daysS_no (fun h => by have := h.1; omega)]
    go_enter Tryz.func92, Tryz.ntmps92
    go_wp2
    go_ret2
    exact ⟨rfl, rfl⟩
  by_cases h2 : 9999 < y
  · rw [daysS_no (fun h => by have := h.2.1; omega)]
    go_enter Tryz.func92, Tryz.ntmps92
    go_wp2
    go_ret2
    exact ⟨rfl, rfl⟩
  by_cases h3 : d < 1
  · rw [daysS_no (fun h => by have := h.2.2.1; omega)]
    go_enter Tryz.func92, Tryz.ntmps92
    go_wp2
    go_ret2
    exact ⟨rfl, rfl⟩
  by_cases h4 : md y m < d
  · rw [daysS_no (fun h => by have := h.2.2.2; omega)]
    go_enter Tryz.func92, Tryz.ntmps92
    go_wp2_with fail
    refine (HM.out m hm).mono ?_
    rintro e w' ⟨rfl, rfl⟩
    go_wp2
    go_ret2
    exact ⟨rfl, rfl⟩
  have hI : IsD y m d := ⟨by omega, by omega, by omega, by omega⟩
  rw [daysS_ok hI]
  obtain ⟨m1, m2⟩ := hI.m
  have hj := jan_q (y := y) (by omega)
  have jr := jan_r (y := y) (by omega) (by omega)
  have q1 : 0 ≤ (y - 1).tdiv 4 ∧ (y - 1).tdiv 4 ≤ 2500 := by rw [tq (by omega)]; omega
  have q2 : 0 ≤ (y - 1).tdiv 100 ∧ (y - 1).tdiv 100 ≤ 100 := by rw [tq (by omega)]; omega
  have q3 : 0 ≤ (y - 1).tdiv 400 ∧ (y - 1).tdiv 400 ≤ 25 := by rw [tq (by omega)]; omega
  have HJ : Hid (_ = _) := hj
  clear hj
  go_enter Tryz.func92, Tryz.ntmps92
  go_wp2_with fail
  refine (HM.out m hm).mono ?_
  rintro e w' ⟨rfl, rfl⟩
  go_wp2
  go_loop [9, 10] (fun n i => ∃ k : Int, 1 ≤ k ∧ k ≤ m ∧ n = .int .i64 (jan y + cum y k) ∧ i = .int .i64 k) (fun _ i => (m - intOf i).toNat)
  case atStart => exact ⟨1, by omega, by omega, by rw [cum_one, ← HJ.out]; simp, rfl⟩
  case round =>
    obtain ⟨k, k1, k2, rfl, rfl⟩ := hrel
    have cr := cum_r y k
    have mr := md_le y k
    by_cases hk : k < m
    · go_wp2_with fail
      refine (HM.out k ⟨by omega, by omega⟩).mono ?_
      rintro e w' ⟨rfl, rfl⟩
      go_wp2
      exact ⟨⟨k + 1, by omega, by omega, by rw [cum_succ y k k1 (by omega)]; congr 1; omega, rfl⟩, by simp [intOf]; omega⟩
    · obtain rfl : k = m := by omega
      have ml := md_le y k
      go_wp2
      go_ret2
      exact ⟨ret_pair (by unfold dn; omega) rfl, rfl⟩

end Bs
end Go.Proofs.YtjngpafokkjkdaaGreatDoor

/-
  The date of a moment, and a date's moment.
-/
set_option linter.unusedVariables false
set_option linter.unusedSimpArgs false
namespace Go.Proofs.YtjngpafokkjkdaaGreatDoor
open Go.RowKit
namespace Bs

theorem Tb.alloc {w : World} (h : Tb w) (o : Obj) : Tb (w.alloc o) := h.bel ((But.refl [] w).alloc o).to_below

/-- The block is none of the tables. -/
def NotTb (P : Nat) : Prop := 2 < P ∧ 0 < P ∧ 1 < P ∧ 3 < P
theorem Tb.notTb {w : World} (h : Tb w) {P : Nat} (hP : w.heap.size ≤ P) : NotTb P := by
  have := h.l0
  have := h.l1
  have := h.l2
  have := h.l3
  unfold NotTb
  omega

theorem Tb.butP {P : Nat} {w w' : World} (h : Tb w) (b : But [P] w w') (hn : NotTb P) : Tb w' := by
  have hl : ∀ k, k < P → k ∉ [P] := fun k hk e => by simp at e; omega
  have hs := b.size
  obtain ⟨n0, n1, n2, n3⟩ := hn
  have l0 := h.l0
  have l1 := h.l1
  have l2 := h.l2
  have l3 := h.l3
  exact ⟨by omega, by omega, by omega, by omega, fun i hi => b.cell (h.pm i hi) (hl _ n0), fun i hi => b.cell (h.sd i hi) (hl _ n1), fun i hi => b.cell (h.ld i hi) (hl _ n2), fun i hi => b.cell (h.mo i hi) (hl _ n3)⟩

set_option maxHeartbeats 400000 in
theorem modulo_any (n by' : Int) (hn : I64 n) (h1 : 1 ≤ by') (h2 : by' ≤ 1000000) (w : World) :
    Calls Tryz.prog 91 #[.int .i64 n, .int .i64 by'] w fun e w' => e = .returned (.int .i64 (n % by')) ∧ w' = w := by
  obtain ⟨n0, n1⟩ := hn
  have a1 : -by' < n.tmod by' := Int.lt_tmod_of_pos n (by omega)
  have a2 : n.tmod by' < by' := Int.tmod_lt_of_pos n (by omega)
  have a3 : (n.tmod by' + by').tmod by' = n % by' := by
    rw [tr (by omega), Int.add_emod_right]
    have e : n % by' = (by' * n.tdiv by' + n.tmod by') % by' := by rw [Int.mul_tdiv_add_tmod]
    rw [e, Int.mul_add_emod_self_left]
  have a4 := Int.emod_nonneg n (show by' ≠ 0 by omega)
  have a5 := Int.emod_lt_of_pos n (show 0 < by' by omega)
  have A3 : Hid (_ = _) := a3
  have a6 : 0 ≤ (n.tmod by' + by').tmod by' ∧ (n.tmod by' + by').tmod by' < by' := by rw [a3]; omega
  clear a3
  have hz : ¬ by' = 0 := by omega
  go_enter Tryz.func91, Tryz.ntmps91
  go_wp2
  go_ret
  first | exact ⟨ret_int A3.out, rfl⟩ | exact ⟨ret_int (by rw [← A3.out]; exact (tr (by omega)).symm), rfl⟩

set_option maxHeartbeats 400000 in
theorem weekday_any (n : Int) (h0 : -1000000000 ≤ n) (h1 : n ≤ 1000000000) (w : World) :
    Calls Tryz.prog 88 #[.int .i64 n] w fun e w' => e = .returned (.int .i64 (wday n)) ∧ w' = w := by
  go_enter Tryz.func88, Tryz.ntmps88
  go_wp2_with fail
  refine (modulo_any (n + 3) 7 ⟨by omega, by omega⟩ (by omega) (by omega) w).mono ?_
  rintro e w' ⟨rfl, rfl⟩
  go_wp2
  go_ret
  exact ⟨rfl, rfl⟩

set_option maxHeartbeats 400000 in
theorem momentOf_any (D h m s : Int) (h0 : -1000000 ≤ D) (h1 : D ≤ 3000000) (h2 : 0 ≤ h) (h3 : h ≤ 100) (h4 : 0 ≤ m) (h5 : m ≤ 100) (h6 : 0 ≤ s) (h7 : s ≤ 100) (w : World) :
    Calls Tryz.prog 93 #[.int .i64 D, .int .i64 h, .int .i64 m, .int .i64 s] w fun e w' => e = .returned (.int .i64 (D * 86400 + h * 3600 + m * 60 + s)) ∧ w' = w := by
  go_enter Tryz.func93, Tryz.ntmps93
  go_wp2
  go_ret
  exact ⟨rfl, rfl⟩

set_option maxHeartbeats 400000 in
theorem yearOf_any (n : Int) (h0 : 0 ≤ n) (h1 : n ≤ 4000000) (w : World) :
    Calls Tryz.prog 86 #[.int .i64 n] w fun e w' => e = .returned (.tuple #[.int .i64 (yrOf n).1, .int .i64 (yrOf n).2]) ∧ w' = w := by
  have e1 : n.tdiv 146097 = n / 146097 := tq h0
  have e2 : n.tmod 146097 = n % 146097 := tr h0
  unfold yrOf
  dsimp only
  generalize hr : n / 146097 = r at *
  generalize ha : n % 146097 = a at *
  have a0 : 0 ≤ a ∧ a < 146097 := by omega
  have r0 : 0 ≤ r ∧ r ≤ 100 := by omega
  have e3 : a.tdiv 36524 = a / 36524 := tq a0.1
  generalize hc : min (a / 36524) 3 = c
  have c0 : 0 ≤ c ∧ c ≤ 3 := by omega
  generalize hx1 : a / 36524 = x1 at *
  have hb0 : 0 ≤ a - c * 36524 ∧ a - c * 36524 ≤ 36524 := by omega
  have e4 : (a - c * 36524).tdiv 1461 = (a - c * 36524) / 1461 := tq hb0.1
  have e5 : (a - c * 36524).tmod 1461 = (a - c * 36524) % 1461 := tr hb0.1
  generalize hf : (a - c * 36524) / 1461 = f at *
  generalize hg : (a - c * 36524) % 1461 = g at *
  have f0 : 0 ≤ f ∧ f ≤ 24 := by omega
  have g0 : 0 ≤ g ∧ g ≤ 1460 := by omega
  have e6 : g.tdiv 365 = g / 365 := tq g0.1
  generalize hx2 : g / 365 = x2 at *
  generalize hx : min x2 3 = x at *
  have x0 : 0 ≤ x ∧ x ≤ 3 := by omega
  go_enter Tryz.func86, Tryz.ntmps86
  go_wp2
  all_goals go_ret2
  all_goals
    refine ⟨ret_pair ?_ ?_, rfl⟩
    · omega
    · omega

def dv7 (y m d h i s k : Int) : Value := .agg #[.int .i64 y, .int .i64 m, .int .i64 d, .int .i64 h, .int .i64 i, .int .i64 s, .int .i64 k]
def splitV (t : Int) : Value := dv7 (ymd (t / 86400)).1 (ymd (t / 86400)).2.1 (ymd (t / 86400)).2.2 (t % 86400 / 3600) (t % 86400 % 3600 / 60) (t % 86400 % 60) (wday (t / 86400))
def splitR (t : Int) : Value × Int := if isM t then (splitV t, 0) else (dv7 0 0 0 0 0 0 0, 40)
theorem ret_vi {a b : Value} {k : IntKind} {c d : Int} (h : a = b) (h' : c = d) : Ending.returned (.tuple #[a, .int k c]) = .returned (.tuple #[b, .int k d]) := by rw [h, h']

set_option maxRecDepth 100000 in
set_option maxHeartbeats 1000000 in
theorem Split_any (t : Int) (ht : I64 t) (w : World) (tb : Tb w) :
    Calls Tryz.prog 60 #[.int .i64 t] w fun e w' => e = .returned (.tuple #[(splitR t).1, .int .i64 (splitR t).2]) ∧ Below w.heap.size w w' := by
  obtain ⟨t0, t1⟩ := ht
  have tb1 := tb.alloc (.cells #[.int .i64 0, .int .i64 0, .int .i64 0, .int .i64 0, .int .i64 0, .int .i64 0, .int .i64 0] 104)
  have HM : Hid (∀ y k, I64 y → I64 k → Calls Tryz.prog 87 #[.int .i64 y, .int .i64 k] (w.alloc (.cells #[.int .i64 0, .int .i64 0, .int .i64 0, .int .i64 0, .int .i64 0, .int .i64 0, .int .i64 0] 104)) fun e w' => e = .returned (.int .i64 (md y k)) ∧ w' = (w.alloc (.cells #[.int .i64 0, .int .i64 0, .int .i64 0, .int .i64 0, .int .i64 0, .int .i64 0, .int .i64 0] 104))) := fun y k hy hk => MonthDays_any y k hy hk _ tb1
  clear tb1 tb
  by_cases h1 : t < -62135596800
  · unfold splitR
    rw [if_neg (by unfold isM; omega)]
    go_enter Tryz.func60, Tryz.ntmps60
    go_wp2
    exact bodyPost_ret (v := .tuple #[dv7 0 0 0 0 0 0 0, .int .i64 40]) (by simp [results, Tryz.results60, go_sem, dv7]) rfl ⟨rfl, ((But.refl [] w).alloc _).to_below⟩
  by_cases h2 : 253402300799 < t
  · unfold splitR
    rw [if_neg (by unfold isM; omega)]
    go_enter Tryz.func60, Tryz.ntmps60
    go_wp2
    exact bodyPost_ret (v := .tuple #[dv7 0 0 0 0 0 0 0, .int .i64 40]) (by simp [results, Tryz.results60, go_sem, dv7]) rfl ⟨rfl, ((But.refl [] w).alloc _).to_below⟩
  unfold splitR
  rw [if_pos (by unfold isM; omega)]
  have e1 : (t + 62135596800) / 86400 = t / 86400 + 719162 := by omega
  have e2 : (t + 62135596800) % 86400 = t % 86400 := by omega
  have hyr := yrOf_jan (t / 86400 + 719162) (by omega)
  have hY : ∀ k l : Int, 1 ≤ k → k ≤ 12 → 0 ≤ l → l < md (yrOf (t / 86400 + 719162)).1 k → cum (yrOf (t / 86400 + 719162)).1 k + l = (yrOf (t / 86400 + 719162)).2 → 1 ≤ (yrOf (t / 86400 + 719162)).1 → (yrOf (t / 86400 + 719162)).1 ≤ 9999 → ymd (t / 86400) = ((yrOf (t / 86400 + 719162)).1, k, l + 1) := fun k l k1 k2 l1 l2 hc y1 y2 => ymd_eq ⟨y1, y2, by omega, by omega⟩ (by unfold dn; omega)
  have d1 : -719162 ≤ t / 86400 := by omega
  have d2 : t / 86400 ≤ 2932896 := by omega
  have r1 : 0 ≤ t % 86400 ∧ t % 86400 < 86400 := by omega
  have y1 : 1 ≤ (yrOf (t / 86400 + 719162)).1 := by
    by_cases h : 1 ≤ (yrOf (t / 86400 + 719162)).1
    · exact h
    · have := jan_mono (a := (yrOf (t / 86400 + 719162)).1 + 1) (b := 1) (by omega)
      rw [jan_succ, jan_one] at this
      omega
  have y2 : (yrOf (t / 86400 + 719162)).1 ≤ 9999 := by
    by_cases h : (yrOf (t / 86400 + 719162)).1 ≤ 9999
    · exact h
    · have := jan_mono (a := 10000) (b := (yrOf (t / 86400 + 719162)).1) (by omega)
      rw [jan_end] at this
      omega
  have HYR : Hid (∀ w, Calls Tryz.prog 86 #[.int .i64 (t / 86400 + 719162)] w fun e w' => e = .returned (.tuple #[.int .i64 (yrOf (t / 86400 + 719162)).1, .int .i64 (yrOf (t / 86400 + 719162)).2]) ∧ w' = w) := fun w => yearOf_any _ (by omega) (by omega) w
  have HWD : Hid (∀ w, Calls Tryz.prog 88 #[.int .i64 (t / 86400)] w fun e w' => e = .returned (.int .i64 (wday (t / 86400))) ∧ w' = w) := fun w => weekday_any _ (by omega) (by omega) w
  unfold splitV
  have r4 : 0 ≤ t % 86400 / 3600 ∧ t % 86400 / 3600 ≤ 23 := by omega
  have r5 : 0 ≤ t % 86400 % 3600 := by omega
  generalize (yrOf (t / 86400 + 719162)).1 = Y at *
  generalize (yrOf (t / 86400 + 719162)).2 = L at *
  generalize t / 86400 = D at *
  generalize t % 86400 = R at *
  have l1 : L < 366 := by
    have := feb_or Y
    have := hyr.2.2
    rw [yd_feb] at this
    omega
  have HY : Hid (∀ k l : Int, _) := hY
  clear hY
  go_enter Tryz.func60, Tryz.ntmps60
  go_wp2_with fail
  refine (HYR.out _).mono ?_
  rintro e w' ⟨rfl, rfl⟩
  go_wp2
  go_loop [8, 9] (fun a i => ∃ k l : Int, 1 ≤ k ∧ k ≤ 12 ∧ 0 ≤ l ∧ l ≤ L ∧ Hid (cum Y k + l = L) ∧ a = .int .i64 l ∧ i = .int .i64 k) (fun _ i => (13 - intOf i).toNat)
  case atStart => exact ⟨1, L, by omega, by omega, by omega, by omega, (by rw [cum_one]; omega : cum Y 1 + L = L), rfl, rfl⟩
  case round =>
    obtain ⟨k, l, k1, k2, l0, l2, hc, rfl, rfl⟩ := hrel
    have mr := md_le Y k
    by_cases hk : md Y k ≤ l
    · have hs := cum_succ Y k k1 k2
      have hk13 : k + 1 ≤ 12 := by
        by_cases h : k = 12
        · subst h
          have h13 := cum_13 Y
          have := hc.out
          have := hyr.2.2
          simp only [show (12 : Int) + 1 = 13 from rfl] at hs
          omega
        · omega
      have hc' : cum Y (k + 1) + (l - md Y k) = L := by have := hc.out; omega
      have HC' : Hid _ := hc'
      clear hc' hs hc
      go_wp2_with fail
      refine (HM.out Y k ⟨by omega, by omega⟩ ⟨by omega, by omega⟩).mono ?_
      rintro e w' ⟨rfl, rfl⟩
      go_wp2_with fail
      refine (HM.out Y k ⟨by omega, by omega⟩ ⟨by omega, by omega⟩).mono ?_
      rintro e w' ⟨rfl, rfl⟩
      go_wp2
      exact ⟨⟨k + 1, l - md Y k, by omega, by omega, by omega, by omega, HC', rfl, rfl⟩, by simp [intOf]; omega⟩
    · have HD : Hid (ymd D = (Y, k, l + 1)) := HY.out k l k1 k2 l0 (by omega) hc.out y1 y2
      go_wp2_with fail
      refine (HM.out Y k ⟨by omega, by omega⟩ ⟨by omega, by omega⟩).mono ?_
      rintro e w' ⟨rfl, rfl⟩
      go_wp2_with fail
      have e3 : D + 719162 - 719162 = D := by omega
      try rw [e3]
      refine (HWD.out _).mono ?_
      rintro e w' ⟨rfl, rfl⟩
      go_wp2
      exact bodyPost_ret (v := .tuple #[dv7 Y k (l + 1) (R / 3600) (R % 3600 / 60) (R % 60) (wday D), .int .i64 0]) (by simp [results, Tryz.results60, go_sem, dv7]) rfl ⟨by rw [HD.out], ((But.refl [] w).alloc _).to_below⟩

end Bs
end Go.Proofs.YtjngpafokkjkdaaGreatDoor

/-
  The pieces of a date in memory, and the functions that take them.
-/
set_option linter.unusedVariables false
set_option linter.unusedSimpArgs false
namespace Go.Proofs.YtjngpafokkjkdaaGreatDoor
open Go.RowKit
namespace Bs

def iv (st : List Int) : List Value := st.map fun x => Value.int .i64 x
theorem iv_length (st : List Int) : (iv st).length = st.length := by unfold iv; simp
theorem iv_set (st : List Int) (i : Nat) (x : Int) : (iv st).set i (.int .i64 x) = iv (st.set i x) := by unfold iv; rw [List.map_set]

/-- The pieces lie in block P. -/
structure Pcs (w : World) (P : Nat) (st : List Int) : Prop where
  len : st.length = 14
  blk : w.heap[P]? = some (.cells (iv st).toArray 110 (0, 0))
theorem Pcs.cell {w : World} {P : Nat} {st : List Int} (h : Pcs w P st) (i : Nat) (hi : i < 14) : w.cell? ⟨P, i, none⟩ = some (.int .i64 (g st i)) := by
  have := h.len
  have e : (iv st)[i]? = some (.int .i64 (g st i)) := by
    unfold iv g
    rw [List.getElem?_map, List.getD_eq_getElem?_getD, List.getElem?_eq_getElem (by omega)]
    rfl
  simp [World.cell?, h.blk, e]
theorem Pcs.lt {w : World} {P : Nat} {st : List Int} (h : Pcs w P st) : P < w.heap.size := (Array.getElem?_eq_some_iff.1 h.blk).1
theorem Pcs.but {bs : List Nat} {w w' : World} {P : Nat} {st : List Int} (h : Pcs w P st) (b : But bs w w') (hn : P ∉ bs) : Pcs w' P st := ⟨h.len, b.heap h.blk hn⟩
theorem Pcs.set {w : World} {P : Nat} {st : List Int} (h : Pcs w P st) (i : Nat) (hi : i < 14) (x : Int) : Pcs (w.setCell ⟨P, i, none⟩ (.int .i64 x)) P (st.set i x) := by
  refine ⟨by rw [List.length_set]; exact h.len, ?_⟩
  have hl := h.lt
  have hb := h.blk
  rw [← iv_set]
  unfold World.setCell
  rw [Array.getElem?_modify, if_pos rfl, hb]
  simp
theorem Pcs.free {w : World} {P : Nat} {st : List Int} (h : Pcs w P st) (i : Nat) : w.frozen? ⟨P, i, none⟩ = false := by
  simp [World.frozen?, h.blk]

def pp (P i : Nat) : Value := .pointer (some ⟨P, i, none⟩)
def fnm (k : Nat) : Nat := if k = 0 then 107 else if k = 1 then 108 else 109

/-- The value is the function that takes this piece. -/
def Tk (w : World) (P : Nat) : TK → Value → Prop
  | .ex t, v => ∃ a, v = .func (.func 121) #[] #[pp a 0] ∧ w.cell? ⟨a, 0, none⟩ = some (.string (str t)) ∧ a ≠ P
  | .dg n f, v => ∃ a b, v = .func (.func 120) #[] #[pp a 0, pp b 0] ∧ w.cell? ⟨a, 0, none⟩ = some (pp P (2 * f)) ∧ w.cell? ⟨b, 0, none⟩ = some (.int .i64 (n : Int)) ∧ a ≠ P ∧ b ≠ P
  | .nm k f, v => ∃ a b c, v = .func (.func 119) #[] #[pp a 0, pp b 0, pp c 0] ∧ w.cell? ⟨a, 0, none⟩ = some (.int .i64 ((nms k).length : Int)) ∧ w.cell? ⟨b, 0, none⟩ = some (.func (.func (fnm k)) #[] #[]) ∧ w.cell? ⟨c, 0, none⟩ = some (pp P (2 * f)) ∧ a ≠ P ∧ b ≠ P ∧ c ≠ P
  | .lo f, v => ∃ a b c d, v = .func (.func 122) #[] #[pp a 0, pp b 0] ∧ w.cell? ⟨a, 0, none⟩ = some (.func (.func 120) #[] #[pp c 0, pp d 0]) ∧ w.cell? ⟨b, 0, none⟩ = some (pp P (2 * f)) ∧ w.cell? ⟨c, 0, none⟩ = some (pp P (2 * f)) ∧ w.cell? ⟨d, 0, none⟩ = some (.int .i64 2) ∧ a ≠ P ∧ b ≠ P ∧ c ≠ P ∧ d ≠ P
theorem Tk.but {w w' : World} {P : Nat} {t : TK} {v : Value} (h : Tk w P t v) (b : But [P] w w') : Tk w' P t v := by
  have nm : ∀ a, a ≠ P → a ∉ [P] := fun a ha e => by simp at e; exact ha e
  cases t with
  | ex t => obtain ⟨a, e, h1, n1⟩ := h; exact ⟨a, e, b.cell h1 (nm _ n1), n1⟩
  | dg n f => obtain ⟨a, c, e, h1, h2, n1, n2⟩ := h; exact ⟨a, c, e, b.cell h1 (nm _ n1), b.cell h2 (nm _ n2), n1, n2⟩
  | nm k f => obtain ⟨a, c, d, e, h1, h2, h3, n1, n2, n3⟩ := h; exact ⟨a, c, d, e, b.cell h1 (nm _ n1), b.cell h2 (nm _ n2), b.cell h3 (nm _ n3), n1, n2, n3⟩
  | lo f => obtain ⟨a, c, d, x, e, h1, h2, h3, h4, n1, n2, n3, n4⟩ := h; exact ⟨a, c, d, x, e, b.cell h1 (nm _ n1), b.cell h2 (nm _ n2), b.cell h3 (nm _ n3), b.cell h4 (nm _ n4), n1, n2, n3, n4⟩
theorem Tk.below {w w' : World} {P : Nat} {t : TK} {v : Value} (h : Tk w P t v) (b : Below w.heap.size w w') : Tk w' P t v := h.but (But.of_below b).nil

/-- What a taker says, and leaves. -/
def Took (r : Except Nat (Nat × List Int)) (P : Nat) (e : Ending) (w' : World) : Prop :=
  match r with
  | .ok (b, st) => e = .returned (.tuple #[.int .i64 (b : Int), .bool true]) ∧ Pcs w' P st
  | .error b => e = .returned (.tuple #[.int .i64 (b : Int), .bool false]) ∧ ∃ st, Pcs w' P st

theorem lget {l : List UInt8} {j : Nat} (h : j < l.length) : l[j]? = some (l.getD j 0) := by
  rw [List.getD_eq_getElem?_getD, List.getElem?_eq_getElem h]
  rfl
theorem str_at (l : List UInt8) (j : Nat) (h : j < (str l).size) : (((str l)[j]).toNat : Int) = ((l.getD j 0).toNat : Int) := by
  rw [← at_lt, str_list]

end Bs
end Go.Proofs.YtjngpafokkjkdaaGreatDoor
