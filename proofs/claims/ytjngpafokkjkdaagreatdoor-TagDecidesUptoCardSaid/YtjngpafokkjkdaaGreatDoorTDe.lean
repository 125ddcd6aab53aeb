/-
  tag: the thing that is decided about; its steps where no time is told.
-/
import Derived.Test.YtjngpafokkjkdaaGreatDoorTDc
set_option linter.unusedVariables false
set_option linter.unusedSimpArgs false
namespace Go.Proofs.YtjngpafokkjkdaaGreatDoor
open Go.RowKit Go.Shelf
namespace Tt
open Oc Tg

/-- A state: there, its tag, tagged, its time, timed. -/
structure St where
  th : Bool
  own : Tg1
  tg : Bool
  tm : Int
  td : Bool
/-- The thing that is decided about lies in a block. -/
def AB (w : World) (g : Nat) (m : List UInt8) (fv : Value) (s : St) (now : Int) : Prop :=
  w.heap[g]? = some (.cells #[.string (str m), fv, .bool s.th, .bool s.own.1, .string (str s.own.2), .bool s.tg, .int .i64 s.tm, .bool s.td, .int .i64 now] 47 (0, 0))
theorem AB.lt {w : World} {g : Nat} {m : List UInt8} {fv : Value} {s : St} {now : Int} (h : AB w g m fv s now) : g < w.heap.size := by
  rcases Nat.lt_or_ge g w.heap.size with h' | h'
  · exact h'
  · unfold AB at h; simp [Array.getElem?_eq_none h'] at h
theorem AB.below {w w' : World} {g : Nat} {m : List UInt8} {fv : Value} {s : St} {now : Int} (h : AB w g m fv s now) (b : Below w.heap.size w w') : AB w' g m fv s now := by
  unfold AB at *
  rw [b.block g (AB.lt h)]
  exact h
theorem AB.c0 {w : World} {g : Nat} {m : List UInt8} {fv : Value} {s : St} {now : Int} (h : AB w g m fv s now) : w.cell? ⟨g, 0, none⟩ = some (.string (str m)) := by have := Lib.cell_of_heap h 0; simpa using this
theorem AB.c1 {w : World} {g : Nat} {m : List UInt8} {fv : Value} {s : St} {now : Int} (h : AB w g m fv s now) : w.cell? ⟨g, 1, none⟩ = some fv := by have := Lib.cell_of_heap h 1; simpa using this
theorem AB.c2 {w : World} {g : Nat} {m : List UInt8} {fv : Value} {s : St} {now : Int} (h : AB w g m fv s now) : w.cell? ⟨g, 2, none⟩ = some (.bool s.th) := by have := Lib.cell_of_heap h 2; simpa using this
theorem AB.c3 {w : World} {g : Nat} {m : List UInt8} {fv : Value} {s : St} {now : Int} (h : AB w g m fv s now) : w.cell? ⟨g, 3, none⟩ = some (.bool s.own.1) := by have := Lib.cell_of_heap h 3; simpa using this
theorem AB.c4 {w : World} {g : Nat} {m : List UInt8} {fv : Value} {s : St} {now : Int} (h : AB w g m fv s now) : w.cell? ⟨g, 4, none⟩ = some (.string (str s.own.2)) := by have := Lib.cell_of_heap h 4; simpa using this
theorem AB.c5 {w : World} {g : Nat} {m : List UInt8} {fv : Value} {s : St} {now : Int} (h : AB w g m fv s now) : w.cell? ⟨g, 5, none⟩ = some (.bool s.tg) := by have := Lib.cell_of_heap h 5; simpa using this
theorem AB.c6 {w : World} {g : Nat} {m : List UInt8} {fv : Value} {s : St} {now : Int} (h : AB w g m fv s now) : w.cell? ⟨g, 6, none⟩ = some (.int .i64 s.tm) := by have := Lib.cell_of_heap h 6; simpa using this
theorem AB.c7 {w : World} {g : Nat} {m : List UInt8} {fv : Value} {s : St} {now : Int} (h : AB w g m fv s now) : w.cell? ⟨g, 7, none⟩ = some (.bool s.td) := by have := Lib.cell_of_heap h 7; simpa using this
theorem AB.c8 {w : World} {g : Nat} {m : List UInt8} {fv : Value} {s : St} {now : Int} (h : AB w g m fv s now) : w.cell? ⟨g, 8, none⟩ = some (.int .i64 now) := by have := Lib.cell_of_heap h 8; simpa using this
/-- What the steps lean on. -/
structure Ask (w : World) (g : Nat) (m : List UInt8) (fv : Value) (fs : List Fd.Fl) (s : St) (now : Int) : Prop where
  ab : AB w g m fv s now
  rd : Fd.RdF fv fs w
  sum : Fd.sumF fs ≤ 1048576
  ml : Fd.ML w
theorem Ask.below {w w' : World} {g : Nat} {m : List UInt8} {fv : Value} {fs : List Fd.Fl} {s : St} {now : Int} (h : Ask w g m fv fs s now) (b : Below w.heap.size w w') : Ask w' g m fv fs s now :=
  ⟨h.ab.below b, h.rd.below b, h.sum, h.ml.below b⟩
def sMatch : List UInt8 := [73, 102, 45, 77, 97, 116, 99, 104]
def sNone : List UInt8 := [73, 102, 45, 78, 111, 110, 101, 45, 77, 97, 116, 99, 104]
def sUnmod : List UInt8 := [73, 102, 45, 85, 110, 109, 111, 100, 105, 102, 105, 101, 100, 45, 83, 105, 110, 99, 101]
def sMod : List UInt8 := [73, 102, 45, 77, 111, 100, 105, 102, 105, 101, 100, 45, 83, 105, 110, 99, 101]
def sRange : List UInt8 := [73, 102, 45, 82, 97, 110, 103, 101]
def readsM (m : List UInt8) : Bool := decide (m = [71, 69, 84]) || decide (m = [72, 69, 65, 68])
def hasF (n : List UInt8) (fs : List Fd.Fl) : Bool := (Fd.findF n fs).2
/-- Does a condition of tags meet the state? -/
def meetsV (lk : Tg1 → Tg1 → Bool) (v : List UInt8) (s : St) : Bool := s.th && ((listT v).2.1 || (s.tg && (listT v).1.any (fun t => lk t s.own)))
def meetsF (lk : Tg1 → Tg1 → Bool) (n : List UInt8) (fs : List Fd.Fl) (s : St) : Bool := meetsV lk (joinF (Fd.vals n fs)) s
theorem join_size {n : List UInt8} {fs : List Fd.Fl} (h : Fd.sumF fs ≤ 1048576) : (str (joinF (Fd.vals n fs))).size ≤ 2000000000 := by
  have h1 := Fd.sumV_filter n fs
  have h2 := Fd.sumL_V (Fd.vals n fs)
  have h3 := joinF_len (Fd.vals n fs)
  rw [str_size]
  omega
theorem tagsR_len (L : List UInt8) : ∀ (f k : Nat) (fl : Bool) (acc : List Tg1), acc.length * 2 ≤ k → k ≤ L.length → (tagsR L f k fl acc).1.length ≤ L.length
  | 0, k, fl, acc, h, hk => by show acc.length ≤ _; omega
  | f + 1, k, fl, acc, h, hk => by
    have hl := frontR_le (L.drop k)
    rw [List.length_drop] at hl
    unfold tagsR
    split
    · split
      · exact tagsR_len L f _ _ _ (by omega) (by omega)
      · split
        · exact tagsR_len L f _ _ _ (by omega) (by omega)
        · split
          · simp
          · split
            · rename_i hf
              have hp := (frontR_pos _ hf).1
              exact tagsR_len L f _ _ _ (by simp; omega) (by omega)
            · simp
    · show acc.length ≤ _; omega
theorem listT_len (l : List UInt8) : (listT l).1.length ≤ l.length := by
  have h := tagsR_len (trim l) ((trim l).length + 1) 0 false [] (by simp) (by omega)
  have h2 := trim_len l
  unfold listT
  split
  · simp
  · split
    · exact Nat.le_trans h h2
    · split <;> simp

set_option maxHeartbeats 1000000 in
theorem has_any (n : List UInt8) (hn : n.length ≤ 100) {g : Nat} {m : List UInt8} {fv : Value} {fs : List Fd.Fl} {s : St} {now : Int} {w : World} (h : Ask w g m fv fs s now) :
    Calls Tryz.prog 43 #[.pointer (some ⟨g, 0, none⟩), .string (str n)] w fun e w' => e = .returned (.bool (hasF n fs)) ∧ Below w.heap.size w w' := by
  have c1 := h.ab.c1
  have hlen := Fd.len_sumF fs
  have hsum := h.sum
  have HF : Hid (Calls _ _ _ _ _) := Fd.Find_any fv fs n (by unfold maxLen; omega) ((Fd.each_sumF fs).mono (by unfold maxLen; omega)) (by omega) w h.rd
  unfold hasF
  clear h
  generalize Fd.findF n fs = F at *
  generalize str n = N at *
  obtain ⟨f1, f2⟩ := F
  dsimp only at *
  generalize str f1 = Q at *
  go_enter Tryz.func43, Tryz.ntmps43
  go_wp2_with fail
  refine HF.out.mono ?_
  rintro e w2 ⟨rfl, hb2⟩
  go_wp2
  go_ret
  exact ⟨rfl, hb2⟩

theorem eq_lit (l k : List UInt8) : ((str l).toList == k) = decide (l = k) := by
  rw [Lib.toList_data, str_list, Bool.eq_iff_iff, beq_iff_eq, decide_eq_true_iff]

set_option maxHeartbeats 1000000 in
theorem reads_any {g : Nat} {m : List UInt8} {fv : Value} {fs : List Fd.Fl} {s : St} {now : Int} {w : World} (h : Ask w g m fv fs s now) :
    Calls Tryz.prog 45 #[.pointer (some ⟨g, 0, none⟩)] w fun e w' => e = .returned (.bool (readsM m)) ∧ Below w.heap.size w w' := by
  have c0 := h.ab.c0
  have q1 := eq_lit m [71, 69, 84]
  have q2 := eq_lit m [72, 69, 65, 68]
  unfold readsM
  clear h
  by_cases h1 : m = [71, 69, 84]
  · rw [decide_eq_true h1] at q1 ⊢
    clear q2
    generalize str m = M at *
    clear h1
    go_enter Tryz.func45, Tryz.ntmps45
    go_wp2
    go_ret
    exact ⟨ret_bool (by simp), Below.refl _ _⟩
  · rw [decide_eq_false h1] at q1 ⊢
    generalize decide (m = [72, 69, 65, 68]) = z at *
    generalize str m = M at *
    clear h1
    have HZ : Hid (_ = z) := q2
    go_enter Tryz.func45, Tryz.ntmps45
    go_wp2
    go_ret
    exact ⟨ret_bool (by simp), Below.refl _ _⟩

set_option maxRecDepth 100000 in
set_option maxHeartbeats 2000000 in
theorem meets_S (n : List UInt8) (hn : n.length ≤ 100) {g : Nat} {m : List UInt8} {fv : Value} {fs : List Fd.Fl} {s : St} {now : Int} {w : World} (h : Ask w g m fv fs s now) :
    Calls Tryz.prog 44 #[.pointer (some ⟨g, 0, none⟩), .string (str n), .func (.func 20) #[] #[]] w fun e w' => e = .returned (.bool (meetsF lkS n fs s)) ∧ Below w.heap.size w w' := by
  obtain ⟨w1, hw1⟩ : ∃ w1, w1 = (w.alloc (.cells #[.pointer (some ⟨g, 0, none⟩)] 69)).alloc (.cells #[.func (.func 20) #[] #[]] 61) := ⟨_, rfl⟩
  have hb1 : Below w.heap.size w w1 := by rw [hw1]; exact ((Below.refl _ w).alloc (Nat.le_refl _) _).alloc (by simp) _
  have HB1 : Hid (Below w.heap.size w w1) := hb1
  have h1 := h.below hb1
  have b1 : w1.cell? ⟨w.heap.size, 0, none⟩ = some (.pointer (some ⟨g, 0, none⟩)) := by rw [hw1]; simp
  have b2 : w1.cell? ⟨w.heap.size + 1, 0, none⟩ = some (.func (.func 20) #[] #[]) := by rw [hw1]; simp
  have HX : Hid (∀ W, Below w1.heap.size w1 W → Box 20 W (w.heap.size + 1) w.heap.size g s.own) := fun W hb => Box.below ⟨b2, b1, h1.ab.c3, h1.ab.c4⟩ hb
  have HJ : Hid (Calls _ _ _ _ _) := Fd.Joined_any fv fs n (by omega) h.sum w1 h1.rd
  have HLs : Hid (∀ W, Below w1.heap.size w1 W → Calls Tryz.prog 69 #[.string (str (joinF (Fd.vals n fs)))] W fun e w' => ∃ v, e = .returned (.tuple #[v, .bool (listT (joinF (Fd.vals n fs))).2.1, .int .i64 ((listT (joinF (Fd.vals n fs))).2.2.1 : Nat), .int .i64 (listT (joinF (Fd.vals n fs))).2.2.2]) ∧ OwnT 26 W.heap.size v (listT (joinF (Fd.vals n fs))).1 w' ∧ Below W.heap.size W w') := fun W hb => by
    have hh := List_any (str (joinF (Fd.vals n fs))) (join_size h.sum) W (h1.ml.below hb)
    rw [str_list] at hh
    exact hh
  have hlen : (listT (joinF (Fd.vals n fs))).1.length ≤ 4294967296 := by
    have a := listT_len (joinF (Fd.vals n fs))
    have b := join_size (n := n) h.sum
    rw [str_size] at b
    omega
  have HCt : Hid (∀ v W, RdT v (listT (joinF (Fd.vals n fs))).1 W → Below w1.heap.size w1 W → Calls Tryz.prog 71 #[v, .func (.func 70) #[] #[.pointer (some ⟨w.heap.size + 1, 0, none⟩), .pointer (some ⟨w.heap.size, 0, none⟩)]] W fun e w' => e = .returned (.bool ((listT (joinF (Fd.vals n fs))).1.any (fun t => lkS t s.own))) ∧ Below W.heap.size W w') := fun v W hr hb => contains_S v _ s.own hlen _ _ g W hr (HX.out W hb)
  have HC1 : Hid (∀ W, Below w1.heap.size w1 W → W.cell? ⟨w.heap.size, 0, none⟩ = some (.pointer (some ⟨g, 0, none⟩)) ∧ W.cell? ⟨g, 1, none⟩ = some fv ∧ W.cell? ⟨g, 2, none⟩ = some (.bool s.th) ∧ W.cell? ⟨g, 5, none⟩ = some (.bool s.tg)) := fun W hb =>
    ⟨by rw [hb.cell (World.block_lt_of_cell? w1 _ b1)]; exact b1, (h1.ab.below hb).c1, (h1.ab.below hb).c2, (h1.ab.below hb).c5⟩
  obtain ⟨k0, k1, k2, k3⟩ := HC1.out w1 (Below.refl _ _)
  have i1 := h.ab.c1
  have i2 := h.ab.c2
  have i3 := h.ab.c5
  have ig := h.ab.lt
  have ig1 : g ≠ w.heap.size := by omega
  have ig2 : g ≠ w.heap.size + 1 := by omega
  rw [hw1] at k0 k1 k2 k3
  have HE : Hid (meetsF lkS n fs s = (s.th && ((listT (joinF (Fd.vals n fs))).2.1 || (s.tg && (listT (joinF (Fd.vals n fs))).1.any (fun t => lkS t s.own))))) := (rfl : _ = _)
  clear h h1 hb1 b1 b2 HX
  generalize meetsF lkS n fs s = RES at *
  generalize (listT (joinF (Fd.vals n fs))).1.any (fun t => lkS t s.own) = ANY at *
  generalize hLT : listT (joinF (Fd.vals n fs)) = LT at *
  clear hLT
  obtain ⟨Lt, Lstar, Ln, Le⟩ := LT
  generalize str (joinF (Fd.vals n fs)) = V at *
  generalize decide (0 < (Fd.vals n fs).length) = HV at *
  generalize str n = NN at *
  obtain ⟨th, own, tg, tm, td⟩ := s
  dsimp only at *
  cases th with
  | false =>
    go_enter Tryz.func44, Tryz.ntmps44
    go_wp2
    go_ret
    exact ⟨ret_bool (by rw [HE.out]; rfl), by rw [← hw1]; exact HB1.out⟩
  | true =>
    go_enter Tryz.func44, Tryz.ntmps44
    go_wp2_with fail
    rw [← hw1]
    refine HJ.out.mono ?_
    rintro e w2 ⟨rfl, hb2⟩
    have HB2 : Hid (Below w1.heap.size w1 w2) := hb2
    clear hb2
    go_wp2_with fail
    refine (HLs.out _ HB2.out).mono ?_
    rintro e w3 ⟨v, rfl, ho, hb3⟩
    have HB3 : Hid (Below w1.heap.size w1 w3) := bel_trans HB2.out hb3
    have HR3 : Hid (RdT v Lt w3) := ho.rd
    obtain ⟨va, vc, rfl⟩ := ho.form
    obtain ⟨j0, j1, j2, j3⟩ := HC1.out w3 HB3.out
    clear hb3 ho k0 k1 k2 k3 hw1
    cases Lstar with
    | true =>
      go_wp2
      go_ret
      exact ⟨ret_bool (by rw [HE.out]; rfl), HB1.out.trans (HB3.out.mono HB1.out.size)⟩
    | false =>
      cases tg with
      | false =>
        go_wp2
        go_ret
        exact ⟨ret_bool (by rw [HE.out]; rfl), HB1.out.trans (HB3.out.mono HB1.out.size)⟩
      | true =>
        go_wp2_with fail
        refine (HCt.out _ _ HR3.out HB3.out).mono ?_
        rintro e w4 ⟨rfl, hb4⟩
        have HB4 : Hid (Below w1.heap.size w1 w4) := bel_trans HB3.out hb4
        clear hb4
        go_wp2
        go_ret
        exact ⟨ret_bool (by rw [HE.out]; rfl), HB1.out.trans (HB4.out.mono HB1.out.size)⟩

set_option maxRecDepth 100000 in
set_option maxHeartbeats 2000000 in
theorem meets_A (n : List UInt8) (hn : n.length ≤ 100) {g : Nat} {m : List UInt8} {fv : Value} {fs : List Fd.Fl} {s : St} {now : Int} {w : World} (h : Ask w g m fv fs s now) :
    Calls Tryz.prog 44 #[.pointer (some ⟨g, 0, none⟩), .string (str n), .func (.func 37) #[] #[]] w fun e w' => e = .returned (.bool (meetsF lkA n fs s)) ∧ Below w.heap.size w w' := by
  obtain ⟨w1, hw1⟩ : ∃ w1, w1 = (w.alloc (.cells #[.pointer (some ⟨g, 0, none⟩)] 69)).alloc (.cells #[.func (.func 37) #[] #[]] 61) := ⟨_, rfl⟩
  have hb1 : Below w.heap.size w w1 := by rw [hw1]; exact ((Below.refl _ w).alloc (Nat.le_refl _) _).alloc (by simp) _
  have HB1 : Hid (Below w.heap.size w w1) := hb1
  have h1 := h.below hb1
  have b1 : w1.cell? ⟨w.heap.size, 0, none⟩ = some (.pointer (some ⟨g, 0, none⟩)) := by rw [hw1]; simp
  have b2 : w1.cell? ⟨w.heap.size + 1, 0, none⟩ = some (.func (.func 37) #[] #[]) := by rw [hw1]; simp
  have HX : Hid (∀ W, Below w1.heap.size w1 W → Box 37 W (w.heap.size + 1) w.heap.size g s.own) := fun W hb => Box.below ⟨b2, b1, h1.ab.c3, h1.ab.c4⟩ hb
  have HJ : Hid (Calls _ _ _ _ _) := Fd.Joined_any fv fs n (by omega) h.sum w1 h1.rd
  have HLs : Hid (∀ W, Below w1.heap.size w1 W → Calls Tryz.prog 69 #[.string (str (joinF (Fd.vals n fs)))] W fun e w' => ∃ v, e = .returned (.tuple #[v, .bool (listT (joinF (Fd.vals n fs))).2.1, .int .i64 ((listT (joinF (Fd.vals n fs))).2.2.1 : Nat), .int .i64 (listT (joinF (Fd.vals n fs))).2.2.2]) ∧ OwnT 26 W.heap.size v (listT (joinF (Fd.vals n fs))).1 w' ∧ Below W.heap.size W w') := fun W hb => by
    have hh := List_any (str (joinF (Fd.vals n fs))) (join_size h.sum) W (h1.ml.below hb)
    rw [str_list] at hh
    exact hh
  have hlen : (listT (joinF (Fd.vals n fs))).1.length ≤ 4294967296 := by
    have a := listT_len (joinF (Fd.vals n fs))
    have b := join_size (n := n) h.sum
    rw [str_size] at b
    omega
  have HCt : Hid (∀ v W, RdT v (listT (joinF (Fd.vals n fs))).1 W → Below w1.heap.size w1 W → Calls Tryz.prog 71 #[v, .func (.func 70) #[] #[.pointer (some ⟨w.heap.size + 1, 0, none⟩), .pointer (some ⟨w.heap.size, 0, none⟩)]] W fun e w' => e = .returned (.bool ((listT (joinF (Fd.vals n fs))).1.any (fun t => lkA t s.own))) ∧ Below W.heap.size W w') := fun v W hr hb => contains_A v _ s.own hlen _ _ g W hr (HX.out W hb)
  have HC1 : Hid (∀ W, Below w1.heap.size w1 W → W.cell? ⟨w.heap.size, 0, none⟩ = some (.pointer (some ⟨g, 0, none⟩)) ∧ W.cell? ⟨g, 1, none⟩ = some fv ∧ W.cell? ⟨g, 2, none⟩ = some (.bool s.th) ∧ W.cell? ⟨g, 5, none⟩ = some (.bool s.tg)) := fun W hb =>
    ⟨by rw [hb.cell (World.block_lt_of_cell? w1 _ b1)]; exact b1, (h1.ab.below hb).c1, (h1.ab.below hb).c2, (h1.ab.below hb).c5⟩
  obtain ⟨k0, k1, k2, k3⟩ := HC1.out w1 (Below.refl _ _)
  have i1 := h.ab.c1
  have i2 := h.ab.c2
  have i3 := h.ab.c5
  have ig := h.ab.lt
  have ig1 : g ≠ w.heap.size := by omega
  have ig2 : g ≠ w.heap.size + 1 := by omega
  rw [hw1] at k0 k1 k2 k3
  have HE : Hid (meetsF lkA n fs s = (s.th && ((listT (joinF (Fd.vals n fs))).2.1 || (s.tg && (listT (joinF (Fd.vals n fs))).1.any (fun t => lkA t s.own))))) := (rfl : _ = _)
  clear h h1 hb1 b1 b2 HX
  generalize meetsF lkA n fs s = RES at *
  generalize (listT (joinF (Fd.vals n fs))).1.any (fun t => lkA t s.own) = ANY at *
  generalize hLT : listT (joinF (Fd.vals n fs)) = LT at *
  clear hLT
  obtain ⟨Lt, Lstar, Ln, Le⟩ := LT
  generalize str (joinF (Fd.vals n fs)) = V at *
  generalize decide (0 < (Fd.vals n fs).length) = HV at *
  generalize str n = NN at *
  obtain ⟨th, own, tg, tm, td⟩ := s
  dsimp only at *
  cases th with
  | false =>
    go_enter Tryz.func44, Tryz.ntmps44
    go_wp2
    go_ret
    exact ⟨ret_bool (by rw [HE.out]; rfl), by rw [← hw1]; exact HB1.out⟩
  | true =>
    go_enter Tryz.func44, Tryz.ntmps44
    go_wp2_with fail
    rw [← hw1]
    refine HJ.out.mono ?_
    rintro e w2 ⟨rfl, hb2⟩
    have HB2 : Hid (Below w1.heap.size w1 w2) := hb2
    clear hb2
    go_wp2_with fail
    refine (HLs.out _ HB2.out).mono ?_
    rintro e w3 ⟨v, rfl, ho, hb3⟩
    have HB3 : Hid (Below w1.heap.size w1 w3) := bel_trans HB2.out hb3
    have HR3 : Hid (RdT v Lt w3) := ho.rd
    obtain ⟨va, vc, rfl⟩ := ho.form
    obtain ⟨j0, j1, j2, j3⟩ := HC1.out w3 HB3.out
    clear hb3 ho k0 k1 k2 k3 hw1
    cases Lstar with
    | true =>
      go_wp2
      go_ret
      exact ⟨ret_bool (by rw [HE.out]; rfl), HB1.out.trans (HB3.out.mono HB1.out.size)⟩
    | false =>
      cases tg with
      | false =>
        go_wp2
        go_ret
        exact ⟨ret_bool (by rw [HE.out]; rfl), HB1.out.trans (HB3.out.mono HB1.out.size)⟩
      | true =>
        go_wp2_with fail
        refine (HCt.out _ _ HR3.out HB3.out).mono ?_
        rintro e w4 ⟨rfl, hb4⟩
        have HB4 : Hid (Below w1.heap.size w1 w4) := bel_trans HB3.out hb4
        clear hb4
        go_wp2
        go_ret
        exact ⟨ret_bool (by rw [HE.out]; rfl), HB1.out.trans (HB4.out.mono HB1.out.size)⟩

end Tt
end Go.Proofs.YtjngpafokkjkdaaGreatDoor
