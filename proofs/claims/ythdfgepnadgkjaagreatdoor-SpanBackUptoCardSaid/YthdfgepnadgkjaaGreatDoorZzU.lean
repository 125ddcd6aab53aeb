/- Several texts as one. -/
import Derived.Shelf.SlSortCmp.WholeK
import Derived.Ground.SlsfProg
import Derived.Shelf.SlGeneric
import Derived.Shelf.Small.Wraps
import Derived.Test.YthdfgepnadgkjaaGreatDoorProg
import Derived.Test.YthdfgepnadgkjaaGreatDoorZzT
/-
  DERIVED: THE SHELF's CONTRACTS AT THIS DUMP, IN PLAIN WORDS (tools/lay-plain.mjs out of 'TryzShelf.lean', which tools/lay-shelf.mjs wrote): THE SAME DECLARATIONS UNDER THE SAME NAMES: 'import', 'namespace', 'open', 'def', 'theorem' AND NOTHING ELSE: no command of the shelf's: FOR A HAND-IN. Each laying: the table of numbers ('.._ren') and one theorem, a field a fact of the dump's own or the kernel's comparison; each contract: ONE APPLICATION.
-/
namespace Go.Proofs
open Go.Shelf
def Tryz.lays122_ren : Go.Shelf.Ren := ⟨fun | 122 => 23 | 215 => 48 | n => n, fun | 3 => 3 | 4 => 4 | n => n, fun | n => n⟩
theorem Tryz.lays122 : Go.Proofs.Lays.n122 Tryz.prog Tryz.lays122_ren := {
  mixed := by kernel_rfl
  f122 := Tryz.func23.trans (congrArg some (by kernel_rfl))
  f215 := Tryz.func48.trans (congrArg some (by kernel_rfl))
  t3 := Tryz.underlying3
  a3 := Tryz.isAgg3
  z3 := Tryz.sizeOf3
  v3 := Tryz.zeroValue3
  t4 := Tryz.underlying4
  a4 := Tryz.isAgg4
  z4 := Tryz.sizeOf4
  v4 := Tryz.zeroValue4 }
open Go.RowKit in
/-- cmp.Compare at int: "Compare returns -1 if x is less than y, 0 if x equals y, +1 if x is greater than y.": IT RETURNS 'Lib.compareInt x y'; the world is as it was. (LAID: no walk: one application.) -/
theorem Tryz.cmp_Compare_int (x y : Int) (w : World) :
    Calls Tryz.prog 23 #[.int .i64 x, .int .i64 y] w fun e w' => e = .returned (.int .i64 (Lib.compareInt x y)) ∧ w' = w := Any.cmp_Compare_int Tryz.lays122 x y w
def Tryz.laysSortF_ren : Go.Shelf.Ren := ⟨fun | 6 => 21 | 15 => 47 | 14 => 46 | 28 => 76 | 29 => 77 | 20 => 68 | 21 => 69 | 22 => 70 | 23 => 71 | 24 => 72 | 25 => 73 | 26 => 74 | 27 => 75 | 46 => 88 | 47 => 89 | 48 => 90 | 49 => 91 | 50 => 92 | 57 => 108 | n => n, fun | 22 => 22 | 24 => 38 | 25 => 59 | 3 => 3 | 39 => 93 | 0 => 0 | 53 => 119 | 55 => 121 | 4 => 4 | 46 => 113 | 45 => 112 | 50 => 85 | 5 => 5 | 9 => 9 | 66 => 130 | 70 => 134 | 76 => 143 | 77 => 109 | n => n, fun | n => n⟩
theorem Tryz.laysSortF : Go.Proofs.SlLaysF0.n6 Tryz.prog Tryz.laysSortF_ren := {
  mixed := by kernel_rfl
  f6 := ⟨Tryz.f21.name, by decide, Tryz.func21.trans (congrArg some (by kernel_rfl))⟩
  f14 := ⟨Tryz.f46.name, by decide, Tryz.func46.trans (congrArg some (by kernel_rfl))⟩
  f15 := Tryz.func47.trans (congrArg some (by kernel_rfl))
  f20 := ⟨Tryz.f68.name, by decide, Tryz.func68.trans (congrArg some (by kernel_rfl))⟩
  f21 := ⟨Tryz.f69.name, by decide, Tryz.func69.trans (congrArg some (by kernel_rfl))⟩
  f22 := ⟨Tryz.f70.name, by decide, Tryz.func70.trans (congrArg some (by kernel_rfl))⟩
  f23 := ⟨Tryz.f71.name, by decide, Tryz.func71.trans (congrArg some (by kernel_rfl))⟩
  f24 := ⟨Tryz.f72.name, by decide, Tryz.func72.trans (congrArg some (by kernel_rfl))⟩
  f25 := ⟨Tryz.f73.name, by decide, Tryz.func73.trans (congrArg some (by kernel_rfl))⟩
  f26 := ⟨Tryz.f74.name, by decide, Tryz.func74.trans (congrArg some (by kernel_rfl))⟩
  f27 := ⟨Tryz.f75.name, by decide, Tryz.func75.trans (congrArg some (by kernel_rfl))⟩
  f28 := Tryz.func76.trans (congrArg some (by kernel_rfl))
  f29 := Tryz.func77.trans (congrArg some (by kernel_rfl))
  f46 := ⟨Tryz.f88.name, by decide, Tryz.func88.trans (congrArg some (by kernel_rfl))⟩
  f47 := Tryz.func89.trans (congrArg some (by kernel_rfl))
  f48 := Tryz.func90.trans (congrArg some (by kernel_rfl))
  f49 := ⟨Tryz.f91.name, by decide, Tryz.func91.trans (congrArg some (by kernel_rfl))⟩
  f50 := ⟨Tryz.f92.name, by decide, Tryz.func92.trans (congrArg some (by kernel_rfl))⟩
  f57 := ⟨Tryz.f108.name, by decide, Tryz.func108.trans (congrArg some (by kernel_rfl))⟩
  t0 := Tryz.underlying0
  a0 := Tryz.isAgg0
  z0 := Tryz.sizeOf0
  v0 := Tryz.zeroValue0
  t3 := Tryz.underlying3
  a3 := Tryz.isAgg3
  z3 := Tryz.sizeOf3
  v3 := Tryz.zeroValue3
  t4 := Tryz.underlying4
  a4 := Tryz.isAgg4
  z4 := Tryz.sizeOf4
  v4 := Tryz.zeroValue4
  t5 := Tryz.underlying5
  a5 := Tryz.isAgg5
  z5 := Tryz.sizeOf5
  v5 := Tryz.zeroValue5
  t9 := Tryz.underlying9
  a9 := Tryz.isAgg9
  z9 := Tryz.sizeOf9
  v9 := Tryz.zeroValue9
  t22 := Tryz.underlying22
  a22 := Tryz.isAgg22
  z22 := Tryz.sizeOf22
  v22 := Tryz.zeroValue22
  t25 := Tryz.underlying59
  a25 := Tryz.isAgg59
  z25 := Tryz.sizeOf59
  v25 := Tryz.zeroValue59
  t39 := Tryz.underlying93
  a39 := Tryz.isAgg93
  z39 := Tryz.sizeOf93
  v39 := Tryz.zeroValue93
  t45 := Tryz.underlying112
  a45 := Tryz.isAgg112
  z45 := Tryz.sizeOf112
  v45 := Tryz.zeroValue112
  t46 := Tryz.underlying113
  a46 := Tryz.isAgg113
  z46 := Tryz.sizeOf113
  v46 := Tryz.zeroValue113
  t50 := Tryz.underlying85
  a50 := Tryz.isAgg85
  z50 := Tryz.sizeOf85
  v50 := Tryz.zeroValue85
  t53 := Tryz.underlying119
  a53 := Tryz.isAgg119
  z53 := Tryz.sizeOf119
  v53 := Tryz.zeroValue119
  t55 := Tryz.underlying121
  a55 := Tryz.isAgg121
  z55 := Tryz.sizeOf121
  v55 := Tryz.zeroValue121
  t66 := Tryz.underlying130
  a66 := Tryz.isAgg130
  z66 := Tryz.sizeOf130
  v66 := Tryz.zeroValue130
  t70 := Tryz.underlying134
  a70 := Tryz.isAgg134
  z70 := Tryz.sizeOf134
  v70 := Tryz.zeroValue134
  t76 := Tryz.underlying143
  a76 := Tryz.isAgg143
  z76 := Tryz.sizeOf143
  v76 := Tryz.zeroValue143
  t77 := Tryz.underlying109
  a77 := Tryz.isAgg109
  z77 := Tryz.sizeOf109
  v77 := Tryz.zeroValue109 }
end Go.Proofs

/-
  slices.SortFunc at spans, by their beginnings.
-/
set_option linter.unusedVariables false
set_option linter.unusedSimpArgs false
namespace Go.Proofs.YthdfgepnadgkjaaGreatDoor
open Go.RowKit Go.Shelf Go.Proofs Go.Lib
open Go.Sort hiding Below
namespace Sn
open Oc

theorem ltFr (x y : Sp) : ltOf (fun x y : Sp => Lib.compareInt x.1 y.1) x y = decide (x.1 < y.1) := by
  unfold ltOf Lib.compareInt
  by_cases h1 : x.1 < y.1
  · simp [h1]
  · by_cases h2 : y.1 < x.1 <;> simp [h1, h2]
theorem swoFr : SWO (ltOf fun x y : Sp => Lib.compareInt x.1 y.1) where
  irrefl x := by rw [ltFr]; simp
  trans x y z h1 h2 := by rw [ltFr] at *; simp at *; omega
  ntrans x y z h1 h2 := by rw [ltFr] at *; simp at *; omega

set_option maxHeartbeats 1000000 in
theorem byFrom_any (x y : Sp) (W : World) : Calls Tryz.prog 22 #[.agg #[.int .i64 x.1, .int .i64 x.2], .agg #[.int .i64 y.1, .int .i64 y.2]] W fun e w' => e = .returned (.int .i64 (Lib.compareInt x.1 y.1)) ∧ ∃ q os', w' = grow (W.drewN q) os' := by
  have hcon := fun W' => Tryz.cmp_Compare_int x.1 y.1 W'
  generalize Lib.compareInt x.1 y.1 = r at hcon ⊢
  go_enter Tryz.func22, Tryz.ntmps22
  go_wp2_with fail
  refine (hcon _).mono ?_
  rintro e w' ⟨rfl, rfl⟩
  go_wp2
  go_ret
  exact ⟨rfl, 0, _, by rw [alloc_eq_grow, alloc_eq_grow, grow_grow]; rfl⟩

/-- The cells of a row hold these spans, and may be written. -/
def RC (w : World) (g : Nat) (d : List Sp) : Prop := ∀ j, j < d.length → w.cell? ⟨g, j * 2, none⟩ = some (.int .i64 (nthN d j).1) ∧ w.cell? ⟨g, j * 2 + 1, none⟩ = some (.int .i64 (nthN d j).2) ∧ w.frozen? ⟨g, j * 2, none⟩ = false ∧ w.frozen? ⟨g, j * 2 + 1, none⟩ = false
theorem RW.rc {T : Nat} {w : World} {g : Nat} {d t : List Sp} {m : Nat} (h : RW T w g d) (hm : m ≤ d.length) (ht : t = d.take m) : RC w g t := by
  intro j hj
  subst ht
  rw [List.length_take] at hj
  have e : nthN (d.take m) j = nthN d j := by
    unfold nthN
    rw [List.getD_eq_getElem?_getD, List.getD_eq_getElem?_getD, List.getElem?_take, if_pos (by omega)]
  rw [e]
  exact ⟨h.c0 j (by omega), h.c1 j (by omega), h.f _, h.f _⟩
theorem RC.holds {w : World} {g : Nat} {d : List Sp} (h : RC w g d) : HoldsK encN1 2 w g 0 d.toArray := by
  intro t ht
  have hs : (flatK encN1 2 d.toArray).size = d.length * 2 := by simp
  rw [hs] at ht
  have hj : t / 2 < d.length := by omega
  obtain ⟨c0, c1, f0, f1⟩ := h (t / 2) hj
  have en : d.toArray[t / 2]! = nthN d (t / 2) := by
    rw [nthN_mem hj]
    simp [hj]
  rw [get_flatK encN1 2 d.toArray t (by simpa using ht), en]
  rcases (show t % 2 = 0 ∨ t % 2 = 1 by omega) with hr | hr
  · rw [hr, show 0 + t = t / 2 * 2 by omega]
    exact ⟨c0, f0⟩
  · rw [hr, show 0 + t = t / 2 * 2 + 1 by omega]
    exact ⟨c1, f1⟩
theorem rc_of_holds {w : World} {g : Nat} {d : List Sp} (h : HoldsK encN1 2 w g 0 d.toArray) : RC w g d := by
  intro j hj
  have hs : (flatK encN1 2 d.toArray).size = d.length * 2 := by simp
  have en : ∀ t, t / 2 = j → d.toArray[t / 2]! = nthN d j := fun t ht => by
    rw [ht, nthN_mem hj]
    simp [hj]
  obtain ⟨a0, a1⟩ := h (j * 2) (by rw [hs]; omega)
  obtain ⟨b0, b1⟩ := h (j * 2 + 1) (by rw [hs]; omega)
  rw [get_flatK encN1 2 d.toArray _ (by simp; omega), en _ (by omega)] at a0 b0
  rw [show j * 2 % 2 = 0 by omega] at a0
  rw [show (j * 2 + 1) % 2 = 1 by omega] at b0
  rw [Nat.zero_add] at a0 a1 b0 b1
  exact ⟨a0, b0, a1, b1⟩

set_option maxHeartbeats 1000000 in
theorem SortFunc_s (g m c : Nat) (d : List Sp) (hd : d.length = m) (hm : m ≤ 4294967296) (w : World) (hrc : RC w g d) (hg : g < w.heap.size) :
    Calls Tryz.prog 21 #[.slice (some ⟨g, 0, none⟩) m c, .func (.func 22) #[] #[]] w fun e w' => e = .returned (.tuple #[]) ∧ ∃ d' : List Sp, d'.Perm d ∧ (∀ i j, i < j → j < m → (nthN d' i).1 ≤ (nthN d' j).1) ∧ RC w' g d' ∧ Below g w w' := by
  have eg : ∀ args w, (callFunc 22 args).run Tryz.prog w = .ok (.enter 22 args) w := enters_of Tryz.func22 (by kernel_rfl) rfl
  have hcon := AnyQ.slices_SortFunc Tryz.laysSortF 2 Tryz.isAgg38 Tryz.sizeOf38 encN1 (fun _ => rfl) (fun x v hv => by simp [encN1] at hv; rcases hv with rfl | rfl <;> rfl) (fun x y : Sp => Lib.compareInt x.1 y.1) swoFr 22 #[] g 0 c d.toArray w eg (fun _ _ _ _ x y => byFrom_any x y _) hrc.holds hg (by simp; omega)
  have hcon2 : Calls Tryz.prog 21 #[.slice (some ⟨g, 0, none⟩) d.toArray.size c, .func (.func 22) #[] #[]] w _ := hcon
  rw [show d.toArray.size = m by simpa using hd] at hcon2
  refine hcon2.mono ?_
  rintro e w' ⟨rfl, d', n, os, hp, hs, rfl⟩
  obtain ⟨p1, p2, p3⟩ := hp
  have hz : d'.size = m := by rw [p1]; simpa using hd
  have hsz : d.toArray.size = m := by simpa using hd
  have q1 : d'.extract 0 m = d' := by rw [← hz]; exact Array.extract_size
  have q2 : d.toArray.extract 0 m = d.toArray := by rw [← hsz]; exact Array.extract_size
  rw [q1, q2] at p3
  have en : ∀ i, i < m → nthN d'.toList i = d'[i]! := fun i hi => by
    rw [nthN_mem (by simpa [hz] using hi)]
    simp [hz, hi]
  refine ⟨rfl, d'.toList, by simpa using p3, fun i j hij hj => ?_, rc_of_holds ?_, ?_⟩
  · have h := hs i j (Nat.zero_le _) hij hj
    rw [ltFr] at h
    rw [en i (by omega), en j hj]
    simpa using h
  · rw [Array.toArray_toList]
    exact holdsK_sortWorldK_c encN1 2 w g 0 d.toArray d' n os hrc.holds hg p1
  · refine ⟨rfl, rfl, rfl, ?_, fun k hk => ?_⟩
    · exact size_sortWorldK_c encN1 2 w g 0 n d' os
    · have hne : g ≠ k := by omega
      have hkw : k < w.heap.size := by omega
      simp [sortWorldK, putRowK, putRow, mapBlock, grow, ahead, Array.getElem?_append, Array.getElem?_modify, hne, hkw]
      rw [Array.getElem_modify, if_neg hne]

end Sn
end Go.Proofs.YthdfgepnadgkjaaGreatDoor
