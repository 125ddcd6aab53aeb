/- Several texts as one. -/
import Derived.Test.YtclciccgcegpmaaMgD
import Derived.Test.YtclciccgcegpmaaMgE
import Derived.Deep.RegionWith
/-
  The walk of the law RingArgument.
-/
set_option linter.unusedVariables false
set_option linter.unusedSimpArgs false
namespace Go.Proofs.Ytclciccgcegpmaa
open Go.RowKit
namespace Rg

theorem madeP (w : World) (c : Int) (h0 : -9223372036854775808 ≤ c) (h1 : c ≤ 9223372036854775807) : Calls Try.prog 5 #[.int .i64 c] w fun e w' => ∃ p bs cap, e = .returned (.tuple #[.pointer p, .agg #[.int .i64 ((cap : Nat) : Int), .slice none 0 0, .int .i64 0], .bool true]) ∧ RingP w' p bs cap 0 [] ∧ (∀ x ∈ bs, w.heap.size ≤ x) ∧ Below w.heap.size w w' := by
  by_cases h : 1 ≤ c ∧ c ≤ 1048576
  · obtain ⟨cap, rfl⟩ := Int.eq_ofNat_of_zero_le (show 0 ≤ c by omega)
    refine (made_any w cap (by omega) (by omega)).mono ?_
    rintro e w' ⟨rp, sb, rfl, h2, h3, h4, h5⟩
    exact ⟨_, [rp, sb], cap, rfl, .inr ⟨rp, sb, rfl, rfl, h4⟩, by simp; exact ⟨h2, h3⟩, h5⟩
  · refine (made_bad w c h).mono ?_
    rintro e w' ⟨rfl, h5⟩
    exact ⟨none, [], 0, rfl, .inl ⟨rfl, rfl, rfl, rfl, rfl⟩, (fun x hx => by cases hx), h5⟩

end Rg
end Go.Proofs.Ytclciccgcegpmaa

/-
  ring: what the law asks of a ring, as lists of the caller's own.
-/
set_option linter.unusedVariables false
set_option linter.unusedSimpArgs false
namespace Go.Proofs.Ytclciccgcegpmaa
open Go.RowKit
namespace Rg

def kd (k : Int) : Nat := ((k.tmod 4 + 4) % 4).toNat
set_option maxRecDepth 100000 in
theorem kind4 (w : World) (k : Int) (hk0 : -9223372036854775808 ≤ k) (hk1 : k ≤ 9223372036854775807) : Calls Try.prog 7 #[.int .i64 k, .int .i64 4] w fun e w' => e = .returned (.int .i64 ((kd k : Nat) : Int)) ∧ w' = w := by
  have h1 : -4 < k.tmod 4 := by
    have := Int.lt_tmod_of_pos k (show (0 : Int) < 4 by omega)
    omega
  have h2 : k.tmod 4 < 4 := Int.tmod_lt_of_pos k (by omega)
  have h3 : 0 ≤ (k.tmod 4 + 4) % 4 := Int.emod_nonneg _ (by omega)
  go_enter Try.func7, Try.ntmps7
  go_wp2
  go_ret
  refine ⟨?_, rfl⟩
  unfold kd
  rw [Int.toNat_of_nonneg h3]
  rfl

theorem kd_lt (k : Int) : kd k < 4 := by
  unfold kd
  have : (k.tmod 4 + 4) % 4 < 4 := Int.emod_lt_of_pos _ (by omega)
  have : 0 ≤ (k.tmod 4 + 4) % 4 := Int.emod_nonneg _ (by omega)
  omega

/-- The mark of a byte. -/
def mkR (i j : Nat) : Int := wrap64 ((i : Int) + wrap64 ((i : Int) / 256 * ((j : Int) + 1))) % 256
set_option maxRecDepth 100000 in
theorem ringMark_any (i j : Nat) (hi : i ≤ 16777216) (hj : j ≤ 16777216) (w : World) : Calls Try.prog 10 #[.int .i64 (i : Int), .int .i64 (j : Int)] w fun e w' => e = .returned (.int .u8 (mkR i j)) ∧ w' = w := by
  go_enter Try.func10, Try.ntmps10
  go_wp2
  go_ret
  exact ⟨rfl, rfl⟩

/-- The ring's Parts, nil too: both are the caller's own. -/
theorem PartsQ {w : World} {p : Option Addr} {bs : List Nat} {cap h : Nat} {xs : List UInt8} (H : RingP w p bs cap h xs) :
    Calls Try.prog 20 #[.pointer p] w fun e w' => ∃ v u, e = .returned (.tuple #[v, u]) ∧ w'.ownsRow w.heap.size 5 1 v (part1 cap h xs).length (bv (part1 cap h xs)) ∧
      w'.ownsRow w.heap.size 5 1 u (part2 cap h xs).length (bv (part2 cap h xs)) ∧ (∀ g, v.ownBlock = some g → u.ownBlock ≠ some g) ∧ Below w.heap.size w w' := by
  rcases H with ⟨rfl, rfl, rfl, rfl, rfl⟩ | ⟨rp, sb, rfl, rfl, H⟩
  · go_enter Try.func20, Try.ntmps20
    go_wp2
    go_ret2
    exact ⟨_, _, rfl, World.ownsRow_nil _ _ _ _, World.ownsRow_nil _ _ _ _, (fun g hg => by cases hg), Below.refl _ _⟩
  · exact Parts_any H

/-- Rows of bytes, each in a block of its own at or past B; what each holds. -/
structure Ks (B K : Nat) (V : Nat → Value) (X : Nat → List Value) (w : World) : Prop where
  own : ∀ i, i < K → w.ownsRow B 5 1 (V i) (X i).length (X i)
  apart : ∀ i j g, i < K → j < K → i ≠ j → (V i).ownBlock = some g → (V j).ownBlock ≠ some g
  small : ∀ i, i < K → (X i).length ≤ 1048576
  byte : ∀ i, i < K → ∀ x ∈ X i, ∃ z, x = .int .u8 z

theorem ownB {B n : Nat} {v : Value} {l : List UInt8} {w : World} (h : w.ownsRow B 5 1 v n (bv l)) : w.ownsRow B 5 1 v (bv l).length (bv l) := by
  have e : (bv l).length = n := by have := h.1; omega
  rw [e]; exact h
theorem bv_byte (l : List UInt8) : ∀ x ∈ bv l, ∃ z, x = .int .u8 z := fun x hx => by
  unfold bv at hx
  obtain ⟨b, _, rfl⟩ := List.mem_map.1 hx
  exact ⟨_, rfl⟩
theorem Ks.none (B : Nat) (V : Nat → Value) (X : Nat → List Value) (w : World) : Ks B 0 V X w := ⟨fun i h => by omega, fun i j g h => by omega, fun i h => by omega, fun i h => by omega⟩
theorem Ks.but {B K : Nat} {V : Nat → Value} {X : Nat → List Value} {w w' : World} {bs : List Nat} (H : Ks B K V X w) (b : But bs w w') (hd : ∀ i g, i < K → (V i).ownBlock = some g → g ∉ bs) : Ks B K V X w' :=
  ⟨fun i hi => b.owns (H.own i hi) (fun g hg => hd i g hi hg), H.apart, H.small, H.byte⟩
theorem Ks.below {B K : Nat} {V : Nat → Value} {X : Nat → List Value} {w w' : World} (H : Ks B K V X w) (b : Below w.heap.size w w') : Ks B K V X w' := H.but (But.of_below b) (fun _ _ _ _ e => by cases e)
theorem Ks.mono {B B' K : Nat} {V : Nat → Value} {X : Nat → List Value} {w : World} (H : Ks B K V X w) (hB : B' ≤ B) : Ks B' K V X w := ⟨fun i hi => owns_low' (H.own i hi) hB, H.apart, H.small, H.byte⟩
theorem Ks.lt {B K : Nat} {V : Nat → Value} {X : Nat → List Value} {w : World} (H : Ks B K V X w) {i g : Nat} (hi : i < K) (hg : (V i).ownBlock = some g) : B ≤ g ∧ g < w.heap.size := World.ownsRow.lt (H.own i hi) g hg
/-- Rows that came later are laid behind. -/
def lay {α : Type} (K : Nat) (f g : Nat → α) : Nat → α := fun i => if i < K then f i else g (i - K)
theorem Ks.app {B K n : Nat} {V U : Nat → Value} {X Y : Nat → List Value} {w w' : World} (H : Ks B K V X w') (h : ∀ i g, i < K → (V i).ownBlock = some g → g < w.heap.size) (G : Ks w.heap.size n U Y w') (hB : B ≤ w.heap.size) : Ks B (K + n) (lay K V U) (lay K X Y) w' := by
  have a1 : ∀ {α : Type} (f g : Nat → α) i, i < K → lay K f g i = f i := fun f g i hi => by unfold lay; rw [if_pos hi]
  have a2 : ∀ {α : Type} (f g : Nat → α) i, ¬ i < K → lay K f g i = g (i - K) := fun f g i hi => by unfold lay; rw [if_neg hi]
  refine ⟨fun i hi => ?_, fun i j g hi hj hne hg => ?_, fun i hi => ?_, fun i hi => ?_⟩
  · by_cases hk : i < K
    · rw [a1 _ _ _ hk, a1 _ _ _ hk]; exact H.own i hk
    · rw [a2 _ _ _ hk, a2 _ _ _ hk]; exact owns_low' (G.own (i - K) (by omega)) hB
  · by_cases hk : i < K
    · rw [a1 _ _ _ hk] at hg
      by_cases hl : j < K
      · rw [a1 _ _ _ hl]; exact H.apart i j g hk hl hne hg
      · rw [a2 _ _ _ hl]
        intro e
        have := (G.lt (show j - K < n by omega) e).1
        have := h i g hk hg
        omega
    · rw [a2 _ _ _ hk] at hg
      by_cases hl : j < K
      · rw [a1 _ _ _ hl]
        intro e
        have := (G.lt (show i - K < n by omega) hg).1
        have := h j g hl e
        omega
      · rw [a2 _ _ _ hl]; exact G.apart (i - K) (j - K) g (by omega) (by omega) (by omega) hg
  · by_cases hk : i < K
    · rw [a1 _ _ _ hk]; exact H.small i hk
    · rw [a2 _ _ _ hk]; exact G.small (i - K) (by omega)
  · by_cases hk : i < K
    · rw [a1 _ _ _ hk]; exact H.byte i hk
    · rw [a2 _ _ _ hk]; exact G.byte (i - K) (by omega)
/-- One row more. -/
theorem Ks.one {B : Nat} {v : Value} {l : List UInt8} {n : Nat} {w : World} (h : w.ownsRow B 5 1 v n (bv l)) (hl : l.length ≤ 1048576) : Ks B 1 (fun _ => v) (fun _ => bv l) w :=
  ⟨fun i hi => ownB h, fun i j g hi hj hne => by omega, fun i hi => by unfold bv; rw [List.length_map]; exact hl, fun i hi => bv_byte l⟩
theorem Ks.snoc {B K n : Nat} {V : Nat → Value} {X : Nat → List Value} {w w' : World} (H : Ks B K V X w) (b : Below w.heap.size w w') {v : Value} {l : List UInt8} (h : w'.ownsRow w.heap.size 5 1 v n (bv l)) (hl : l.length ≤ 1048576) (hB : B ≤ w.heap.size) : Ks B (K + 1) (lay K V (fun _ => v)) (lay K X (fun _ => bv l)) w' :=
  Ks.app (H.below b) (fun i g hi hg => (H.lt hi hg).2) (Ks.one h hl) hB

end Rg
end Go.Proofs.Ytclciccgcegpmaa

/-
  A slice of calls that came in.
-/
set_option linter.unusedVariables false
set_option linter.unusedSimpArgs false
namespace Go.Proofs.Ytclciccgcegpmaa
open Go.RowKit Go.ChangeShapes Go.WideShapes Go.ChangeAt
namespace Rg

/-- A call: its kind, two numbers, bytes. -/
structure Op where
  k : Int
  i : Int
  n : Int
  p : List UInt8

/-- A call as four cells. -/
structure OpAt (w : World) (g o : Nat) (x : Op) (u : Value) : Prop where
  c0 : w.cell? ⟨g, o, none⟩ = some (.int .i64 x.k)
  c1 : w.cell? ⟨g, o + 1, none⟩ = some (.int .i64 x.i)
  c2 : w.cell? ⟨g, o + 2, none⟩ = some (.int .i64 x.n)
  c3 : w.cell? ⟨g, o + 3, none⟩ = some u
  p : RdB w u x.p
  k0 : -9223372036854775808 ≤ x.k
  k1 : x.k ≤ 9223372036854775807
  i0 : -9223372036854775808 ≤ x.i
  i1 : x.i ≤ 9223372036854775807
  n0 : -9223372036854775808 ≤ x.n
  n1 : x.n ≤ 9223372036854775807
  len : x.p.length ≤ 140737488351232

def RdO (w : World) (v : Value) (os : List Op) : Prop :=
  ∃ a cap, v = .slice a os.length cap ∧ os.length ≤ cap ∧ (os = [] ∨ ∃ g o, a = some ⟨g, o, none⟩ ∧ ∀ j x, os[j]? = some x → ∃ u, OpAt w g (o + j * 4) x u)

theorem cellsO : Try.prog.cellsOf 32 = 4 := by kernel_rfl
set_option maxRecDepth 100000 in
theorem opened_op {H : Type} {enc : TypeId × Value → H} {W : World} {v : Value} {d : DataW H} {p : List MemPlace} {base : Nat} (hok : Value.okWide Try.prog W .any base 22 v)
    (h0 : DataW.Trod enc Try.prog W 0 (fun _ => true) true 22 v d p) (hsz : ∀ n ∈ d.weights Try.prog 22, n ≤ reachBytes) : ∃ os : List Op, RdO W v os ∧ os.length ≤ 9223372036854775807 := by
  obtain ⟨a0, len, cap, rfl⟩ := okWide_slice Try.underlying22 hok
  obtain ⟨fuel, hf⟩ := h0
  have cb : Try.prog.cellsOf 25 = 1 := by kernel_rfl
  have ci : Try.prog.cellsOf 3 = 1 := by kernel_rfl
  rcases DataW.trod_slice Try.underlying22 hf with ⟨hcs, hx⟩ | ⟨a, len', cap', elems, rest, n, _, hcs, hx, hb, hl, hm, hlen, hel, _, _⟩
  · simp [Value.cells] at hcs
    obtain ⟨rfl, rfl, rfl⟩ := hcs
    exact ⟨[], ⟨none, 0, rfl, Nat.le_refl _, .inl rfl⟩, by simp⟩
  · simp [Value.cells] at hcs
    obtain ⟨rfl, rfl, rfl⟩ := hcs
    simp only [Prod.mk.injEq] at hx
    obtain ⟨rfl, rfl⟩ := hx
    by_cases c : len = 0
    · exact ⟨[], ⟨some a, cap, by rw [c]; rfl, by simp, .inl rfl⟩, by simp⟩
    obtain ⟨b, off, spot⟩ := a
    have hspot : spot = none := by
      have h1 := hel 0 (by omega)
      have hy : elems[0]? = some elems[0] := List.getElem?_eq_getElem (by omega)
      rw [hy, cellsO, Option.bind_eq_some_iff] at h1
      obtain ⟨cs, hcs, ht⟩ := h1
      obtain ⟨_, hl4, hcell⟩ := World.cells?_some hcs
      have k0 := hcell 0 (by omega)
      rw [List.getElem?_eq_getElem (by omega)] at k0
      simpa [Addr.add] using World.cell?_spot k0
    subst hspot
    have each : ∀ i, ∃ x : Op, i < len → ∃ u, OpAt W b (off + i * 4) x u := by
      intro i
      by_cases hi : i < len
      · have h1 := hel i hi
        have hy : elems[i]? = some elems[i] := List.getElem?_eq_getElem (by omega)
        rw [hy, cellsO, Option.bind_eq_some_iff] at h1
        obtain ⟨cs, hcs, ht⟩ := h1
        obtain ⟨ys, m, _, hx, hl4, hy4, hfs⟩ := DataW.trod_struct Try.underlying32 ht
        rw [cellsO] at hl4
        have hcell := (World.cells?_some hcs).2.2
        have t0 := hfs 0 _ rfl
        have t1 := hfs 1 _ rfl
        have t2 := hfs 2 _ rfl
        have t3 := hfs 3 _ rfl
        match cs, hl4 with
        | [x0, x1, x2, x3], _ =>
          match ys, hy4 with
          | [y0, y1, y2, y3], _ =>
            simp [ci, cb] at t0 t1 t2 t3
            obtain ⟨m0, e0, q0, w0⟩ := DataW.trod_int Try.underlying3 t0
            obtain ⟨m1, e1, q1, w1⟩ := DataW.trod_int Try.underlying3 t1
            obtain ⟨m2, e2, q2, w2⟩ := DataW.trod_int Try.underlying3 t2
            obtain ⟨v, l, e3, r1, r2⟩ := read_b t3 (fun n hn => hsz n (by
              simp only [DataW.weights, Try.underlying22]
              refine List.mem_cons_of_mem _ (List.mem_append_left _ (weights_all (d := elems[i].1) (List.mem_map_of_mem (List.getElem_mem _)) n ?_))
              rw [hx]
              simp only [DataW.weights, Try.underlying32]
              exact DataW.weights_mem_each (j := 3) rfl rfl n hn))
            simp at e0 e1 e2 e3
            subst e0 e1 e2 e3
            have k0 := hcell 0 (by omega)
            have k1 := hcell 1 (by omega)
            have k2 := hcell 2 (by omega)
            have k3 := hcell 3 (by omega)
            rw [Go.WideShapes.add_plain, Go.WideShapes.add_plain] at k0 k1 k2 k3
            obtain ⟨z0, z0'⟩ := int_wf w0
            obtain ⟨z1, z1'⟩ := int_wf w1
            obtain ⟨z2, z2'⟩ := int_wf w2
            exact ⟨⟨m0, m1, m2, l⟩, fun _ => ⟨_, ⟨k0, k1, k2, k3, r1, z0, z0', z1, z1', z2, z2', r2⟩⟩⟩
      · exact ⟨⟨0, 0, 0, []⟩, fun h => absurd h hi⟩
    obtain ⟨f, hf⟩ := Classical.axiomOfChoice each
    have hl2 : ((List.range len).map f).length = len := by simp
    refine ⟨(List.range len).map f, ⟨some ⟨b, off, none⟩, cap, by rw [hl2], by omega, ?_⟩, by rw [hl2]; unfold maxLen at hm; omega⟩
    right
    refine ⟨b, off, rfl, fun j l hj => ?_⟩
    have hjl : j < len := by
      have := (List.getElem?_eq_some_iff.1 hj).1
      omega
    rw [List.getElem?_map, List.getElem?_range hjl] at hj
    simp only [Option.map_some, Option.some.injEq] at hj
    subst hj
    exact hf j hjl

end Rg
end Go.Proofs.Ytclciccgcegpmaa
