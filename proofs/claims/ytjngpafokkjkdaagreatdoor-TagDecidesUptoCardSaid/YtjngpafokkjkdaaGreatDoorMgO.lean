/- Several texts as one. -/
import Derived.Test.YtjngpafokkjkdaaGreatDoorTDc
import Derived.Laws.EntriesVeiled
/-
  tag: the thing that is decided about; its steps where no time is told.
-/
set_option linter.unusedVariables false
set_option linter.unusedSimpArgs false
namespace Go.Proofs.YtjngpafokkjkdaaGreatDoor
open Go.RowKit Go.Shelf
namespace Tt
open Oc Tg

/-- A state: there, its tag, tagged, its time, timed. -/
structure St where
  th : Bool
  own : Tg1
  tg : Bool
  tm : Int
  td : Bool
/-- The thing that is decided about lies in a block. -/
def AB (w : World) (g : Nat) (m : List UInt8) (fv : Value) (s : St) (now : Int) : Prop :=
  w.heap[g]? = some (.cells #[.string (str m), fv, .bool s.th, .bool s.own.1, .string (str s.own.2), .bool s.tg, .int .i64 s.tm, .bool s.td, .int .i64 now] 47 (0, 0))
theorem AB.lt {w : World} {g : Nat} {m : List UInt8} {fv : Value} {s : St} {now : Int} (h : AB w g m fv s now) : g < w.heap.size := by
  rcases Nat.lt_or_ge g w.heap.size with h' | h'
  · exact h'
  · unfold AB at h; simp [Array.getElem?_eq_none h'] at h
theorem AB.below {w w' : World} {g : Nat} {m : List UInt8} {fv : Value} {s : St} {now : Int} (h : AB w g m fv s now) (b : Below w.heap.size w w') : AB w' g m fv s now := by
  unfold AB at *
  rw [b.block g (AB.lt h)]
  exact h
theorem AB.c0 {w : World} {g : Nat} {m : List UInt8} {fv : Value} {s : St} {now : Int} (h : AB w g m fv s now) : w.cell? ⟨g, 0, none⟩ = some (.string (str m)) := by have := Lib.cell_of_heap h 0; simpa using this
theorem AB.c1 {w : World} {g : Nat} {m : List UInt8} {fv : Value} {s : St} {now : Int} (h : AB w g m fv s now) : w.cell? ⟨g, 1, none⟩ = some fv := by have := Lib.cell_of_heap h 1; simpa using this
theorem AB.c2 {w : World} {g : Nat} {m : List UInt8} {fv : Value} {s : St} {now : Int} (h : AB w g m fv s now) : w.cell? ⟨g, 2, none⟩ = some (.bool s.th) := by have := Lib.cell_of_heap h 2; simpa using this
theorem AB.c3 {w : World} {g : Nat} {m : List UInt8} {fv : Value} {s : St} {now : Int} (h : AB w g m fv s now) : w.cell? ⟨g, 3, none⟩ = some (.bool s.own.1) := by have := Lib.cell_of_heap h 3; simpa using this
theorem AB.c4 {w : World} {g : Nat} {m : List UInt8} {fv : Value} {s : St} {now : Int} (h : AB w g m fv s now) : w.cell? ⟨g, 4, none⟩ = some (.string (str s.own.2)) := by have := Lib.cell_of_heap h 4; simpa using this
theorem AB.c5 {w : World} {g : Nat} {m : List UInt8} {fv : Value} {s : St} {now : Int} (h : AB w g m fv s now) : w.cell? ⟨g, 5, none⟩ = some (.bool s.tg) := by have := Lib.cell_of_heap h 5; simpa using this
theorem AB.c6 {w : World} {g : Nat} {m : List UInt8} {fv : Value} {s : St} {now : Int} (h : AB w g m fv s now) : w.cell? ⟨g, 6, none⟩ = some (.int .i64 s.tm) := by have := Lib.cell_of_heap h 6; simpa using this
theorem AB.c7 {w : World} {g : Nat} {m : List UInt8} {fv : Value} {s : St} {now : Int} (h : AB w g m fv s now) : w.cell? ⟨g, 7, none⟩ = some (.bool s.td) := by have := Lib.cell_of_heap h 7; simpa using this
theorem AB.c8 {w : World} {g : Nat} {m : List UInt8} {fv : Value} {s : St} {now : Int} (h : AB w g m fv s now) : w.cell? ⟨g, 8, none⟩ = some (.int .i64 now) := by have := Lib.cell_of_heap h 8; simpa using this
/-- What the steps lean on. -/
structure Ask (w : World) (g : Nat) (m : List UInt8) (fv : Value) (fs : List Fd.Fl) (s : St) (now : Int) : Prop where
  ab : AB w g m fv s now
  rd : Fd.RdF fv fs w
  sum : Fd.sumF fs ≤ 1048576
  ml : Fd.ML w
theorem Ask.below {w w' : World} {g : Nat} {m : List UInt8} {fv : Value} {fs : List Fd.Fl} {s : St} {now : Int} (h : Ask w g m fv fs s now) (b : Below w.heap.size w w') : Ask w' g m fv fs s now :=
  ⟨h.ab.below b, h.rd.below b, h.sum, h.ml.below b⟩
def sMatch : List UInt8 := [73, 102, 45, 77, 97, 116, 99, 104]
def sNone : List UInt8 := [73, 102, 45, 78, 111, 110, 101, 45, 77, 97, 116, 99, 104]
def sUnmod : List UInt8 := [73, 102, 45, 85, 110, 109, 111, 100, 105, 102, 105, 101, 100, 45, 83, 105, 110, 99, 101]
def sMod : List UInt8 := [73, 102, 45, 77, 111, 100, 105, 102, 105, 101, 100, 45, 83, 105, 110, 99, 101]
def sRange : List UInt8 := [73, 102, 45, 82, 97, 110, 103, 101]
def readsM (m : List UInt8) : Bool := decide (m = [71, 69, 84]) || decide (m = [72, 69, 65, 68])
def hasF (n : List UInt8) (fs : List Fd.Fl) : Bool := (Fd.findF n fs).2
/-- Does a condition of tags meet the state? -/
def meetsV (lk : Tg1 → Tg1 → Bool) (v : List UInt8) (s : St) : Bool := s.th && ((listT v).2.1 || (s.tg && (listT v).1.any (fun t => lk t s.own)))
def meetsF (lk : Tg1 → Tg1 → Bool) (n : List UInt8) (fs : List Fd.Fl) (s : St) : Bool := meetsV lk (joinF (Fd.vals n fs)) s
theorem join_size {n : List UInt8} {fs : List Fd.Fl} (h : Fd.sumF fs ≤ 1048576) : (str (joinF (Fd.vals n fs))).size ≤ 2000000000 := by
  have h1 := Fd.sumV_filter n fs
  have h2 := Fd.sumL_V (Fd.vals n fs)
  have h3 := joinF_len (Fd.vals n fs)
  rw [str_size]
  omega
theorem tagsR_len (L : List UInt8) : ∀ (f k : Nat) (fl : Bool) (acc : List Tg1), acc.length * 2 ≤ k → k ≤ L.length → (tagsR L f k fl acc).1.length ≤ L.length
  | 0, k, fl, acc, h, hk => by show acc.length ≤ _; omega
  | f + 1, k, fl, acc, h, hk => by
    have hl := frontR_le (L.drop k)
    rw [List.length_drop] at hl
    unfold tagsR
    split
    · split
      · exact tagsR_len L f _ _ _ (by omega) (by omega)
      · split
        · exact tagsR_len L f _ _ _ (by omega) (by omega)
        · split
          · simp
          · split
            · rename_i hf
              have hp := (frontR_pos _ hf).1
              exact tagsR_len L f _ _ _ (by simp; omega) (by omega)
            · simp
    · show acc.length ≤ _; omega
theorem listT_len (l : List UInt8) : (listT l).1.length ≤ l.length := by
  have h := tagsR_len (trim l) ((trim l).length + 1) 0 false [] (by simp) (by omega)
  have h2 := trim_len l
  unfold listT
  split
  · simp
  · split
    · exact Nat.le_trans h h2
    · split <;> simp

set_option maxHeartbeats 1000000 in
theorem has_any (n : List UInt8) (hn : n.length ≤ 100) {g : Nat} {m : List UInt8} {fv : Value} {fs : List Fd.Fl} {s : St} {now : Int} {w : World} (h : Ask w g m fv fs s now) :
    Calls Tryz.prog 43 #[.pointer (some ⟨g, 0, none⟩), .string (str n)] w fun e w' => e = .returned (.bool (hasF n fs)) ∧ Below w.heap.size w w' := by
  have c1 := h.ab.c1
  have hlen := Fd.len_sumF fs
  have hsum := h.sum
  have HF : Hid (Calls _ _ _ _ _) := Fd.Find_any fv fs n (by unfold maxLen; omega) ((Fd.each_sumF fs).mono (by unfold maxLen; omega)) (by omega) w h.rd
  unfold hasF
  clear h
  generalize Fd.findF n fs = F at *
  generalize str n = N at *
  obtain ⟨f1, f2⟩ := F
  dsimp only at *
  generalize str f1 = Q at *
  go_enter Tryz.func43, Tryz.ntmps43
  go_wp2_with fail
  refine HF.out.mono ?_
  rintro e w2 ⟨rfl, hb2⟩
  go_wp2
  go_ret
  exact ⟨rfl, hb2⟩

theorem eq_lit (l k : List UInt8) : ((str l).toList == k) = decide (l = k) := by
  rw [Lib.toList_data, str_list, Bool.eq_iff_iff, beq_iff_eq, decide_eq_true_iff]

set_option maxHeartbeats 1000000 in
theorem reads_any {g : Nat} {m : List UInt8} {fv : Value} {fs : List Fd.Fl} {s : St} {now : Int} {w : World} (h : Ask w g m fv fs s now) :
    Calls Tryz.prog 45 #[.pointer (some ⟨g, 0, none⟩)] w fun e w' => e = .returned (.bool (readsM m)) ∧ Below w.heap.size w w' := by
  have c0 := h.ab.c0
  have q1 := eq_lit m [71, 69, 84]
  have q2 := eq_lit m [72, 69, 65, 68]
  unfold readsM
  clear h
  by_cases h1 : m = [71, 69, 84]
  · rw [decide_eq_true h1] at q1 ⊢
    clear q2
    generalize str m = M at *
    clear h1
    go_enter Tryz.func45, Tryz.ntmps45
    go_wp2
    go_ret
    exact ⟨ret_bool (by simp), Below.refl _ _⟩
  · rw [decide_eq_false h1] at q1 ⊢
    generalize decide (m = [72, 69, 65, 68]) = z at *
    generalize str m = M at *
    clear h1
    have HZ : Hid (_ = z) := q2
    go_enter Tryz.func45, Tryz.ntmps45
    go_wp2
    go_ret
    exact ⟨ret_bool (by simp), Below.refl _ _⟩

set_option maxRecDepth 100000 in
set_option maxHeartbeats 2000000 in
theorem meets_S (n : List UInt8) (hn : n.length ≤ 100) {g : Nat} {m : List UInt8} {fv : Value} {fs : List Fd.Fl} {s : St} {now : Int} {w : World} (h : Ask w g m fv fs s now) :
    Calls Tryz.prog 44 #[.pointer (some ⟨g, 0, none⟩), .string (str n), .func (.func 20) #[] #[]] w fun e w' => e = .returned (.bool (meetsF lkS n fs s)) ∧ Below w.heap.size w w' := by
  obtain ⟨w1, hw1⟩ : ∃ w1, w1 = (w.alloc (.cells #[.pointer (some ⟨g, 0, none⟩)] 69)).alloc (.cells #[.func (.func 20) #[] #[]] 61) := ⟨_, rfl⟩
  have hb1 : Below w.heap.size w w1 := by rw [hw1]; exact ((Below.refl _ w).alloc (Nat.le_refl _) _).alloc (by simp) _
  have HB1 : Hid (Below w.heap.size w w1) := hb1
  have h1 := h.below hb1
  have b1 : w1.cell? ⟨w.heap.size, 0, none⟩ = some (.pointer (some ⟨g, 0, none⟩)) := by rw [hw1]; simp
  have b2 : w1.cell? ⟨w.heap.size + 1, 0, none⟩ = some (.func (.func 20) #[] #[]) := by rw [hw1]; simp
  have HX : Hid (∀ W, Below w1.heap.size w1 W → Box 20 W (w.heap.size + 1) w.heap.size g s.own) := fun W hb => Box.below ⟨b2, b1, h1.ab.c3, h1.ab.c4⟩ hb
  have HJ : Hid (Calls _ _ _ _ _) := Fd.Joined_any fv fs n (by omega) h.sum w1 h1.rd
  have HLs : Hid (∀ W, Below w1.heap.size w1 W → Calls Tryz.prog 69 #[.string (str (joinF (Fd.vals n fs)))] W fun e w' => ∃ v, e = .returned (.tuple #[v, .bool (listT (joinF (Fd.vals n fs))).2.1, .int .i64 ((listT (joinF (Fd.vals n fs))).2.2.1 : Nat), .int .i64 (listT (joinF (Fd.vals n fs))).2.2.2]) ∧ OwnT 26 W.heap.size v (listT (joinF (Fd.vals n fs))).1 w' ∧ Below W.heap.size W w') := fun W hb => by
    have hh := List_any (str (joinF (Fd.vals n fs))) (join_size h.sum) W (h1.ml.below hb)
    rw [str_list] at hh
    exact hh
  have hlen : (listT (joinF (Fd.vals n fs))).1.length ≤ 4294967296 := by
    have a := listT_len (joinF (Fd.vals n fs))
    have b := join_size (n := n) h.sum
    rw [str_size] at b
    omega
  have HCt : Hid (∀ v W, RdT v (listT (joinF (Fd.vals n fs))).1 W → Below w1.heap.size w1 W → Calls Tryz.prog 71 #[v, .func (.func 70) #[] #[.pointer (some ⟨w.heap.size + 1, 0, none⟩), .pointer (some ⟨w.heap.size, 0, none⟩)]] W fun e w' => e = .returned (.bool ((listT (joinF (Fd.vals n fs))).1.any (fun t => lkS t s.own))) ∧ Below W.heap.size W w') := fun v W hr hb => contains_S v _ s.own hlen _ _ g W hr (HX.out W hb)
  have HC1 : Hid (∀ W, Below w1.heap.size w1 W → W.cell? ⟨w.heap.size, 0, none⟩ = some (.pointer (some ⟨g, 0, none⟩)) ∧ W.cell? ⟨g, 1, none⟩ = some fv ∧ W.cell? ⟨g, 2, none⟩ = some (.bool s.th) ∧ W.cell? ⟨g, 5, none⟩ = some (.bool s.tg)) := fun W hb =>
    ⟨by rw [hb.cell (World.block_lt_of_cell? w1 _ b1)]; exact b1, (h1.ab.below hb).c1, (h1.ab.below hb).c2, (h1.ab.below hb).c5⟩
  obtain ⟨k0, k1, k2, k3⟩ := HC1.out w1 (Below.refl _ _)
  have i1 := h.ab.c1
  have i2 := h.ab.c2
  have i3 := h.ab.c5
  have ig := h.ab.lt
  have ig1 : g ≠ w.heap.size := by omega
  have ig2 : g ≠ w.heap.size + 1 := by omega
  rw [hw1] at k0 k1 k2 k3
  have HE : Hid (meetsF lkS n fs s = (s.th && ((listT (joinF (Fd.vals n fs))).2.1 || (s.tg && (listT (joinF (Fd.vals n fs))).1.any (fun t => lkS t s.own))))) := (rfl : _ = _)
  clear h h1 hb1 b1 b2 HX
  generalize meetsF lkS n fs s = RES at *
  generalize (listT (joinF (Fd.vals n fs))).1.any (fun t => lkS t s.own) = ANY at *
  generalize hLT : listT (joinF (Fd.vals n fs)) = LT at *
  clear hLT
  obtain ⟨Lt, Lstar, Ln, Le⟩ := LT
  generalize str (joinF (Fd.vals n fs)) = V at *
  generalize decide (0 < (Fd.vals n fs).length) = HV at *
  generalize str n = NN at *
  obtain ⟨th, own, tg, tm, td⟩ := s
  dsimp only at *
  cases th with
  | false =>
    go_enter Tryz.func44, Tryz.ntmps44
    go_wp2
    go_ret
    exact ⟨ret_bool (by rw [HE.out]; rfl), by rw [← hw1]; exact HB1.out⟩
  | true =>
    go_enter Tryz.func44, Tryz.ntmps44
    go_wp2_with fail
    rw [← hw1]
    refine HJ.out.mono ?_
    rintro e w2 ⟨rfl, hb2⟩
    have HB2 : Hid (Below w1.heap.size w1 w2) := hb2
    clear hb2
    go_wp2_with fail
    refine (HLs.out _ HB2.out).mono ?_
    rintro e w3 ⟨v, rfl, ho, hb3⟩
    have HB3 : Hid (Below w1.heap.size w1 w3) := bel_trans HB2.out hb3
    have HR3 : Hid (RdT v Lt w3) := ho.rd
    obtain ⟨va, vc, rfl⟩ := ho.form
    obtain ⟨j0, j1, j2, j3⟩ := HC1.out w3 HB3.out
    clear hb3 ho k0 k1 k2 k3 hw1
    cases Lstar with
    | true =>
      go_wp2
      go_ret
      exact ⟨ret_bool (by rw [HE.out]; rfl), HB1.out.trans (HB3.out.mono HB1.out.size)⟩
    | false =>
      cases tg with
      | false =>
        go_wp2
        go_ret
        exact ⟨ret_bool (by rw [HE.out]; rfl), HB1.out.trans (HB3.out.mono HB1.out.size)⟩
      | true =>
        go_wp2_with fail
        refine (HCt.out _ _ HR3.out HB3.out).mono ?_
        rintro e w4 ⟨rfl, hb4⟩
        have HB4 : Hid (Below w1.heap.size w1 w4) := bel_trans HB3.out hb4
        clear hb4
        go_wp2
        go_ret
        exact ⟨ret_bool (by rw [HE.out]; rfl), HB1.out.trans (HB4.out.mono HB1.out.size)⟩

set_option maxRecDepth 100000 in
set_option maxHeartbeats 2000000 in
theorem meets_A (n : List UInt8) (hn : n.length ≤ 100) {g : Nat} {m : List UInt8} {fv : Value} {fs : List Fd.Fl} {s : St} {now : Int} {w : World} (h : Ask w g m fv fs s now) :
    Calls Tryz.prog 44 #[.pointer (some ⟨g, 0, none⟩), .string (str n), .func (.func 37) #[] #[]] w fun e w' => e = .returned (.bool (meetsF lkA n fs s)) ∧ Below w.heap.size w w' := by
  obtain ⟨w1, hw1⟩ : ∃ w1, w1 = (w.alloc (.cells #[.pointer (some ⟨g, 0, none⟩)] 69)).alloc (.cells #[.func (.func 37) #[] #[]] 61) := ⟨_, rfl⟩
  have hb1 : Below w.heap.size w w1 := by rw [hw1]; exact ((Below.refl _ w).alloc (Nat.le_refl _) _).alloc (by simp) _
  have HB1 : Hid (Below w.heap.size w w1) := hb1
  have h1 := h.below hb1
  have b1 : w1.cell? ⟨w.heap.size, 0, none⟩ = some (.pointer (some ⟨g, 0, none⟩)) := by rw [hw1]; simp
  have b2 : w1.cell? ⟨w.heap.size + 1, 0, none⟩ = some (.func (.func 37) #[] #[]) := by rw [hw1]; simp
  have HX : Hid (∀ W, Below w1.heap.size w1 W → Box 37 W (w.heap.size + 1) w.heap.size g s.own) := fun W hb => Box.below ⟨b2, b1, h1.ab.c3, h1.ab.c4⟩ hb
  have HJ : Hid (Calls _ _ _ _ _) := Fd.Joined_any fv fs n (by omega) h.sum w1 h1.rd
  have HLs : Hid (∀ W, Below w1.heap.size w1 W → Calls Tryz.prog 69 #[.string (str (joinF (Fd.vals n fs)))] W fun e w' => ∃ v, e = .returned (.tuple #[v, .bool (listT (joinF (Fd.vals n fs))).2.1, .int .i64 ((listT (joinF (Fd.vals n fs))).2.2.1 : Nat), .int .i64 (listT (joinF (Fd.vals n fs))).2.2.2]) ∧ OwnT 26 W.heap.size v (listT (joinF (Fd.vals n fs))).1 w' ∧ Below W.heap.size W w') := fun W hb => by
    have hh := List_any (str (joinF (Fd.vals n fs))) (join_size h.sum) W (h1.ml.below hb)
    rw [str_list] at hh
    exact hh
  have hlen : (listT (joinF (Fd.vals n fs))).1.length ≤ 4294967296 := by
    have a := listT_len (joinF (Fd.vals n fs))
    have b := join_size (n := n) h.sum
    rw [str_size] at b
    omega
  have HCt : Hid (∀ v W, RdT v (listT (joinF (Fd.vals n fs))).1 W → Below w1.heap.size w1 W → Calls Tryz.prog 71 #[v, .func (.func 70) #[] #[.pointer (some ⟨w.heap.size + 1, 0, none⟩), .pointer (some ⟨w.heap.size, 0, none⟩)]] W fun e w' => e = .returned (.bool ((listT (joinF (Fd.vals n fs))).1.any (fun t => lkA t s.own))) ∧ Below W.heap.size W w') := fun v W hr hb => contains_A v _ s.own hlen _ _ g W hr (HX.out W hb)
  have HC1 : Hid (∀ W, Below w1.heap.size w1 W → W.cell? ⟨w.heap.size, 0, none⟩ = some (.pointer (some ⟨g, 0, none⟩)) ∧ W.cell? ⟨g, 1, none⟩ = some fv ∧ W.cell? ⟨g, 2, none⟩ = some (.bool s.th) ∧ W.cell? ⟨g, 5, none⟩ = some (.bool s.tg)) := fun W hb =>
    ⟨by rw [hb.cell (World.block_lt_of_cell? w1 _ b1)]; exact b1, (h1.ab.below hb).c1, (h1.ab.below hb).c2, (h1.ab.below hb).c5⟩
  obtain ⟨k0, k1, k2, k3⟩ := HC1.out w1 (Below.refl _ _)
  have i1 := h.ab.c1
  have i2 := h.ab.c2
  have i3 := h.ab.c5
  have ig := h.ab.lt
  have ig1 : g ≠ w.heap.size := by omega
  have ig2 : g ≠ w.heap.size + 1 := by omega
  rw [hw1] at k0 k1 k2 k3
  have HE : Hid (meetsF lkA n fs s = (s.th && ((listT (joinF (Fd.vals n fs))).2.1 || (s.tg && (listT (joinF (Fd.vals n fs))).1.any (fun t => lkA t s.own))))) := (rfl : _ = _)
  clear h h1 hb1 b1 b2 HX
  generalize meetsF lkA n fs s = RES at *
  generalize (listT (joinF (Fd.vals n fs))).1.any (fun t => lkA t s.own) = ANY at *
  generalize hLT : listT (joinF (Fd.vals n fs)) = LT at *
  clear hLT
  obtain ⟨Lt, Lstar, Ln, Le⟩ := LT
  generalize str (joinF (Fd.vals n fs)) = V at *
  generalize decide (0 < (Fd.vals n fs).length) = HV at *
  generalize str n = NN at *
  obtain ⟨th, own, tg, tm, td⟩ := s
  dsimp only at *
  cases th with
  | false =>
    go_enter Tryz.func44, Tryz.ntmps44
    go_wp2
    go_ret
    exact ⟨ret_bool (by rw [HE.out]; rfl), by rw [← hw1]; exact HB1.out⟩
  | true =>
    go_enter Tryz.func44, Tryz.ntmps44
    go_wp2_with fail
    rw [← hw1]
    refine HJ.out.mono ?_
    rintro e w2 ⟨rfl, hb2⟩
    have HB2 : Hid (Below w1.heap.size w1 w2) := hb2
    clear hb2
    go_wp2_with fail
    refine (HLs.out _ HB2.out).mono ?_
    rintro e w3 ⟨v, rfl, ho, hb3⟩
    have HB3 : Hid (Below w1.heap.size w1 w3) := bel_trans HB2.out hb3
    have HR3 : Hid (RdT v Lt w3) := ho.rd
    obtain ⟨va, vc, rfl⟩ := ho.form
    obtain ⟨j0, j1, j2, j3⟩ := HC1.out w3 HB3.out
    clear hb3 ho k0 k1 k2 k3 hw1
    cases Lstar with
    | true =>
      go_wp2
      go_ret
      exact ⟨ret_bool (by rw [HE.out]; rfl), HB1.out.trans (HB3.out.mono HB1.out.size)⟩
    | false =>
      cases tg with
      | false =>
        go_wp2
        go_ret
        exact ⟨ret_bool (by rw [HE.out]; rfl), HB1.out.trans (HB3.out.mono HB1.out.size)⟩
      | true =>
        go_wp2_with fail
        refine (HCt.out _ _ HR3.out HB3.out).mono ?_
        rintro e w4 ⟨rfl, hb4⟩
        have HB4 : Hid (Below w1.heap.size w1 w4) := bel_trans HB3.out hb4
        clear hb4
        go_wp2
        go_ret
        exact ⟨ret_bool (by rw [HE.out]; rfl), HB1.out.trans (HB4.out.mono HB1.out.size)⟩

end Tt
end Go.Proofs.YtjngpafokkjkdaaGreatDoor

/-
  tag: the steps, Decide; the law's awake.
-/
set_option linter.unusedVariables false
set_option linter.unusedSimpArgs false
namespace Go.Proofs.YtjngpafokkjkdaaGreatDoor
open Go.RowKit Go.Shelf
namespace Tt
open Oc Tg

/-- A world from which these lie at each later one. -/
def AskAt (B : Nat) (w : World) (g : Nat) (m : List UInt8) (fv : Value) (fs : List Fd.Fl) (s : St) (now : Int) : Prop := Ask w g m fv fs s now
def matchV (fs : List Fd.Fl) (s : St) : Int := if hasF sMatch fs = true ∧ meetsF lkS sMatch fs s = false then 412 else 0
def noneV (m : List UInt8) (fs : List Fd.Fl) (s : St) : Int := if meetsF lkA sNone fs s = true then (if readsM m = true then 304 else 412) else 0

set_option maxRecDepth 100000 in
set_option maxHeartbeats 1000000 in
theorem match_any {g : Nat} {m : List UInt8} {fv : Value} {fs : List Fd.Fl} {s : St} {now : Int} {w : World} (h : Ask w g m fv fs s now) :
    Calls Tryz.prog 27 #[.pointer (some ⟨g, 0, none⟩)] w fun e w' => e = .returned (.int .i64 (matchV fs s)) ∧ Below w.heap.size w w' := by
  have HH : Hid (Calls Tryz.prog 43 #[.pointer (some ⟨g, 0, none⟩), .string ⟨#[73, 102, 45, 77, 97, 116, 99, 104]⟩] w fun e w' => e = .returned (.bool (hasF sMatch fs)) ∧ Below w.heap.size w w') := has_any sMatch (by decide) h
  have HM : Hid (∀ W, Below w.heap.size w W → Calls Tryz.prog 44 #[.pointer (some ⟨g, 0, none⟩), .string ⟨#[73, 102, 45, 77, 97, 116, 99, 104]⟩, .func (.func 20) #[] #[]] W fun e w' => e = .returned (.bool (meetsF lkS sMatch fs s)) ∧ Below W.heap.size W w') := fun W hb => meets_S sMatch (by decide) (h.below hb)
  unfold matchV
  clear h
  generalize hasF sMatch fs = a at *
  generalize meetsF lkS sMatch fs s = b at *
  cases a with
  | false =>
    rw [if_neg (by simp)]
    go_enter Tryz.func27, Tryz.ntmps27
    go_wp2_with fail
    refine HH.out.mono ?_
    rintro e w2 ⟨rfl, hb2⟩
    go_wp2
    go_ret
    exact ⟨rfl, hb2⟩
  | true =>
    cases b with
    | true =>
      go_enter Tryz.func27, Tryz.ntmps27
      go_wp2_with fail
      refine HH.out.mono ?_
      rintro e w2 ⟨rfl, hb2⟩
      have HB2 : Hid (Below w.heap.size w w2) := hb2
      clear hb2
      go_wp2_with fail
      refine (HM.out _ HB2.out).mono ?_
      rintro e w3 ⟨rfl, hb3⟩
      go_wp2
      go_ret
      exact ⟨ret_int (by simp), bel_trans HB2.out hb3⟩
    | false =>
      go_enter Tryz.func27, Tryz.ntmps27
      go_wp2_with fail
      refine HH.out.mono ?_
      rintro e w2 ⟨rfl, hb2⟩
      have HB2 : Hid (Below w.heap.size w w2) := hb2
      clear hb2
      go_wp2_with fail
      refine (HM.out _ HB2.out).mono ?_
      rintro e w3 ⟨rfl, hb3⟩
      go_wp2
      go_ret
      exact ⟨ret_int (by simp), bel_trans HB2.out hb3⟩

set_option maxRecDepth 100000 in
set_option maxHeartbeats 1000000 in
theorem noneMatch_any {g : Nat} {m : List UInt8} {fv : Value} {fs : List Fd.Fl} {s : St} {now : Int} {w : World} (h : Ask w g m fv fs s now) :
    Calls Tryz.prog 29 #[.pointer (some ⟨g, 0, none⟩)] w fun e w' => e = .returned (.int .i64 (noneV m fs s)) ∧ Below w.heap.size w w' := by
  have HM : Hid (Calls Tryz.prog 44 #[.pointer (some ⟨g, 0, none⟩), .string ⟨#[73, 102, 45, 78, 111, 110, 101, 45, 77, 97, 116, 99, 104]⟩, .func (.func 37) #[] #[]] w fun e w' => e = .returned (.bool (meetsF lkA sNone fs s)) ∧ Below w.heap.size w w') := meets_A sNone (by decide) h
  have HR : Hid (∀ W, Below w.heap.size w W → Calls Tryz.prog 45 #[.pointer (some ⟨g, 0, none⟩)] W fun e w' => e = .returned (.bool (readsM m)) ∧ Below W.heap.size W w') := fun W hb => reads_any (h.below hb)
  unfold noneV
  clear h
  generalize meetsF lkA sNone fs s = a at *
  generalize readsM m = b at *
  cases a with
  | false =>
    go_enter Tryz.func29, Tryz.ntmps29
    go_wp2_with fail
    refine HM.out.mono ?_
    rintro e w2 ⟨rfl, hb2⟩
    go_wp2
    go_ret
    exact ⟨ret_int (by simp), hb2⟩
  | true =>
    cases b with
    | true =>
      go_enter Tryz.func29, Tryz.ntmps29
      go_wp2_with fail
      refine HM.out.mono ?_
      rintro e w2 ⟨rfl, hb2⟩
      have HB2 : Hid (Below w.heap.size w w2) := hb2
      clear hb2
      go_wp2_with fail
      refine (HR.out _ HB2.out).mono ?_
      rintro e w3 ⟨rfl, hb3⟩
      go_wp2
      go_ret
      exact ⟨ret_int (by simp), bel_trans HB2.out hb3⟩
    | false =>
      go_enter Tryz.func29, Tryz.ntmps29
      go_wp2_with fail
      refine HM.out.mono ?_
      rintro e w2 ⟨rfl, hb2⟩
      have HB2 : Hid (Below w.heap.size w w2) := hb2
      clear hb2
      go_wp2_with fail
      refine (HR.out _ HB2.out).mono ?_
      rintro e w3 ⟨rfl, hb3⟩
      go_wp2
      go_ret
      exact ⟨ret_int (by simp), bel_trans HB2.out hb3⟩

set_option maxRecDepth 100000 in
set_option maxHeartbeats 1000000 in
theorem date_no (n : List UInt8) (hn : n.length ≤ 100) {g : Nat} {m : List UInt8} {fv : Value} {fs : List Fd.Fl} {s : St} {now : Int} {w : World} (h : Ask w g m fv fs s now) (hno : (Fd.vals n fs).length ≠ 1 ∨ s.th = false ∨ s.td = false) :
    Calls Tryz.prog 21 #[.pointer (some ⟨g, 0, none⟩), .string (str n)] w fun e w' => e = .returned (.tuple #[.int .i64 0, .bool false]) ∧ Below w.heap.size w w' := by
  have hlen := Fd.len_sumF fs
  have hsum := h.sum
  have HA : Hid (Calls _ _ _ _ _) := Fd.All_any fv fs n (by omega) ((Fd.each_sumF fs).mono hsum) (by omega) w h.rd
  have c1 := h.ab.c1
  have hvl : (Fd.vals n fs).length ≤ 16777216 := by
    have h1 := Fd.sumV_filter n fs
    omega
  have HC : Hid (∀ W, Below w.heap.size w W → W.cell? ⟨g, 2, none⟩ = some (.bool s.th) ∧ W.cell? ⟨g, 7, none⟩ = some (.bool s.td)) := fun W hb => ⟨(h.ab.below hb).c2, (h.ab.below hb).c7⟩
  clear h hsum hlen
  generalize Fd.vals n fs = V at *
  generalize str n = N at *
  obtain ⟨th, own, tg, tm, td⟩ := s
  dsimp only at *
  by_cases hl : V.length = 1
  · have hl2 : ((V.length : Int) != 1) = false := by simp; omega
    cases th with
    | false =>
      go_enter Tryz.func21, Tryz.ntmps21
      go_wp2_with fail
      refine HA.out.mono ?_
      rintro e w2 ⟨u, rfl, ho, hb2⟩
      obtain ⟨k1, k2⟩ := HC.out w2 hb2
      obtain ⟨ua, uc, rfl⟩ := ho.form
      have HB2 : Hid (Below w.heap.size w w2) := hb2
      clear hb2 ho
      go_wp2
      go_ret2
      exact ⟨rfl, HB2.out⟩
    | true =>
      cases td with
      | true => simp [hl] at hno
      | false =>
        go_enter Tryz.func21, Tryz.ntmps21
        go_wp2_with fail
        refine HA.out.mono ?_
        rintro e w2 ⟨u, rfl, ho, hb2⟩
        obtain ⟨k1, k2⟩ := HC.out w2 hb2
        obtain ⟨ua, uc, rfl⟩ := ho.form
        have HB2 : Hid (Below w.heap.size w w2) := hb2
        clear hb2 ho
        go_wp2
        go_ret2
        exact ⟨rfl, HB2.out⟩
  · have hl2 : ((V.length : Int) != 1) = true := by simp; omega
    go_enter Tryz.func21, Tryz.ntmps21
    go_wp2_with fail
    refine HA.out.mono ?_
    rintro e w2 ⟨u, rfl, ho, hb2⟩
    obtain ⟨ua, uc, rfl⟩ := ho.form
    have HB2 : Hid (Below w.heap.size w w2) := hb2
    clear hb2 ho
    go_wp2
    go_ret2
    exact ⟨rfl, HB2.out⟩

set_option maxRecDepth 100000 in
set_option maxHeartbeats 1000000 in
theorem unmodified_no {g : Nat} {m : List UInt8} {fv : Value} {fs : List Fd.Fl} {s : St} {now : Int} {w : World} (h : Ask w g m fv fs s now) (hno : (Fd.vals sUnmod fs).length ≠ 1 ∨ s.th = false ∨ s.td = false) :
    Calls Tryz.prog 28 #[.pointer (some ⟨g, 0, none⟩)] w fun e w' => e = .returned (.int .i64 0) ∧ Below w.heap.size w w' := by
  have HD : Hid (Calls Tryz.prog 21 #[.pointer (some ⟨g, 0, none⟩), .string ⟨#[73, 102, 45, 85, 110, 109, 111, 100, 105, 102, 105, 101, 100, 45, 83, 105, 110, 99, 101]⟩] w fun e w' => e = .returned (.tuple #[.int .i64 0, .bool false]) ∧ Below w.heap.size w w') := date_no sUnmod (by decide) h hno
  clear h hno
  go_enter Tryz.func28, Tryz.ntmps28
  go_wp2_with fail
  refine HD.out.mono ?_
  rintro e w2 ⟨rfl, hb2⟩
  go_wp2
  go_ret
  exact ⟨rfl, hb2⟩

set_option maxRecDepth 100000 in
set_option maxHeartbeats 1000000 in
theorem modified_no {g : Nat} {m : List UInt8} {fv : Value} {fs : List Fd.Fl} {s : St} {now : Int} {w : World} (h : Ask w g m fv fs s now) (hno : (Fd.vals sMod fs).length ≠ 1 ∨ s.th = false ∨ s.td = false) :
    Calls Tryz.prog 30 #[.pointer (some ⟨g, 0, none⟩)] w fun e w' => e = .returned (.int .i64 0) ∧ Below w.heap.size w w' := by
  have HD : Hid (Calls Tryz.prog 21 #[.pointer (some ⟨g, 0, none⟩), .string ⟨#[73, 102, 45, 77, 111, 100, 105, 102, 105, 101, 100, 45, 83, 105, 110, 99, 101]⟩] w fun e w' => e = .returned (.tuple #[.int .i64 0, .bool false]) ∧ Below w.heap.size w w') := date_no sMod (by decide) h hno
  clear h hno
  go_enter Tryz.func30, Tryz.ntmps30
  go_wp2_with fail
  refine HD.out.mono ?_
  rintro e w2 ⟨rfl, hb2⟩
  go_wp2
  go_ret
  exact ⟨rfl, hb2⟩

set_option maxRecDepth 100000 in
set_option maxHeartbeats 1000000 in
theorem steps_any (g : Nat) (w : World) :
    Calls Tryz.prog 13 #[.pointer (some ⟨g, 0, none⟩)] w fun e w' => e = .returned (.agg #[.func (.func 27) #[.pointer (some ⟨g, 0, none⟩)] #[], .func (.func 28) #[.pointer (some ⟨g, 0, none⟩)] #[], .func (.func 29) #[.pointer (some ⟨g, 0, none⟩)] #[], .func (.func 30) #[.pointer (some ⟨g, 0, none⟩)] #[]]) ∧ Below w.heap.size w w' := by
  go_enter Tryz.func13, Tryz.ntmps13
  go_wp2
  refine bodyPost_ret (v := .agg #[.func (.func 27) #[.pointer (some ⟨g, 0, none⟩)] #[], .func (.func 28) #[.pointer (some ⟨g, 0, none⟩)] #[], .func (.func 29) #[.pointer (some ⟨g, 0, none⟩)] #[], .func (.func 30) #[.pointer (some ⟨g, 0, none⟩)] #[]]) (by simp [results, Tryz.results13, go_sem]) rfl ?_
  refine ⟨rfl, ?_⟩
  repeat (first | exact Below.refl _ _ | refine Below.setCell ?_ (by simp) _ | refine Below.alloc ?_ (by simp) _)

end Tt
end Go.Proofs.YtjngpafokkjkdaaGreatDoor

/-
  The calendar, plain: leap years, months, a day's number, the day with a number.
-/
set_option linter.unusedVariables false
set_option linter.unusedSimpArgs false
namespace Go.Proofs.YtjngpafokkjkdaaGreatDoor
namespace Bs

def leap (y : Int) : Bool := decide ((y % 4 = 0 ∧ y % 100 ≠ 0) ∨ y % 400 = 0)
def feb (y : Int) : Int := if leap y then 29 else 28
def yd (y : Int) : Int := if leap y then 366 else 365
def md (y m : Int) : Int := if m < 1 ∨ 12 < m then 0 else if m = 2 then feb y else if m = 4 ∨ m = 6 ∨ m = 9 ∨ m = 11 then 30 else 31
def cum (y m : Int) : Int :=
  if m ≤ 1 then 0 else if m = 2 then 31 else if m = 3 then 31 + feb y else if m = 4 then 62 + feb y else if m = 5 then 92 + feb y else if m = 6 then 123 + feb y
  else if m = 7 then 153 + feb y else if m = 8 then 184 + feb y else if m = 9 then 215 + feb y else if m = 10 then 245 + feb y else if m = 11 then 276 + feb y else if m = 12 then 306 + feb y else 337 + feb y
def jan (y : Int) : Int := (y - 1) * 365 + (y - 1) / 4 - (y - 1) / 100 + (y - 1) / 400 - 719162
def dn (y m d : Int) : Int := jan y + cum y m + d - 1
def IsD (y m d : Int) : Prop := 1 ≤ y ∧ y ≤ 9999 ∧ 1 ≤ d ∧ d ≤ md y m

theorem feb_or (y : Int) : feb y = 28 ∨ feb y = 29 := by unfold feb; split <;> simp
theorem yd_feb (y : Int) : yd y = 337 + feb y := by unfold yd feb; split <;> simp
theorem leap_iff (y : Int) : leap y = true ↔ ((y % 4 = 0 ∧ y % 100 ≠ 0) ∨ y % 400 = 0) := by unfold leap; simp
theorem jan_succ (y : Int) : jan (y + 1) = jan y + yd y := by
  unfold jan yd
  have h := leap_iff y
  by_cases hl : leap y = true
  · rw [if_pos hl]
    have := h.1 hl
    omega
  · rw [if_neg hl]
    have h2 : ¬ ((y % 4 = 0 ∧ y % 100 ≠ 0) ∨ y % 400 = 0) := fun e => hl (h.2 e)
    omega
theorem jan_mono {a b : Int} (h : a ≤ b) : jan a ≤ jan b := by unfold jan; omega
theorem months {m : Int} (h1 : 1 ≤ m) (h2 : m ≤ 12) : m = 1 ∨ m = 2 ∨ m = 3 ∨ m = 4 ∨ m = 5 ∨ m = 6 ∨ m = 7 ∨ m = 8 ∨ m = 9 ∨ m = 10 ∨ m = 11 ∨ m = 12 := by omega
theorem cum_succ (y m : Int) (h1 : 1 ≤ m) (h2 : m ≤ 12) : cum y (m + 1) = cum y m + md y m := by
  rcases months h1 h2 with rfl | rfl | rfl | rfl | rfl | rfl | rfl | rfl | rfl | rfl | rfl | rfl <;> simp [cum, md] <;> omega
theorem cum_one (y : Int) : cum y 1 = 0 := by simp [cum]
theorem cum_13 (y : Int) : cum y 13 = yd y := by rw [yd_feb]; simp [cum]
theorem md_pos {y m : Int} (h : 0 < md y m) : 1 ≤ m ∧ m ≤ 12 := by
  unfold md at h
  split at h
  · omega
  · omega
theorem md_ge {y m : Int} (h1 : 1 ≤ m) (h2 : m ≤ 12) : 28 ≤ md y m ∧ md y m ≤ 31 := by
  have := feb_or y
  rcases months h1 h2 with rfl | rfl | rfl | rfl | rfl | rfl | rfl | rfl | rfl | rfl | rfl | rfl <;> simp [md] <;> omega
theorem md_le (y m : Int) : 0 ≤ md y m ∧ md y m ≤ 31 := by
  by_cases h : 1 ≤ m ∧ m ≤ 12
  · have := md_ge (y := y) h.1 h.2
    omega
  · unfold md
    rw [if_pos (by omega)]
    omega
theorem cum_big {y m : Int} (h : 12 < m) : cum y m = 337 + feb y := by
  unfold cum
  rw [if_neg (by omega), if_neg (by omega), if_neg (by omega), if_neg (by omega), if_neg (by omega), if_neg (by omega), if_neg (by omega), if_neg (by omega), if_neg (by omega), if_neg (by omega), if_neg (by omega), if_neg (by omega)]
theorem cum_small {y m : Int} (h : m ≤ 1) : cum y m = 0 := by
  unfold cum
  rw [if_pos h]
theorem cum_nn (y m : Int) : 0 ≤ cum y m := by
  have := feb_or y
  rcases (by omega : m ≤ 1 ∨ 12 < m ∨ (1 ≤ m ∧ m ≤ 12)) with h | h | ⟨h1, h2⟩
  · rw [cum_small h]
    omega
  · rw [cum_big h]
    omega
  · rcases months h1 h2 with rfl | rfl | rfl | rfl | rfl | rfl | rfl | rfl | rfl | rfl | rfl | rfl <;> simp [cum] <;> omega
theorem cum_mono {y a b : Int} (h0 : 1 ≤ a) (h : a ≤ b) (hb : b ≤ 13) : cum y a ≤ cum y b := by
  obtain ⟨k, hk⟩ : ∃ k : Nat, b = a + k := ⟨(b - a).toNat, by omega⟩
  subst hk
  clear h
  induction k with
  | zero => simp
  | succ k ih =>
    have h1 := ih (by omega)
    have h2 := cum_succ y (a + k) (by omega) (by omega)
    have h3 := md_le y (a + k)
    have e : a + ((k + 1 : Nat) : Int) = a + k + 1 := by omega
    rw [e, h2]
    omega
theorem cum_le (y m : Int) (h : m ≤ 13) : cum y m ≤ yd y := by
  by_cases h1 : 1 ≤ m
  · have := cum_mono (y := y) h1 h (Int.le_refl 13)
    rw [cum_13] at this
    exact this
  · have : cum y m = 0 := by unfold cum; rw [if_pos (by omega)]
    have := feb_or y
    rw [yd_feb]
    omega
theorem IsD.m {y m d : Int} (h : IsD y m d) : 1 ≤ m ∧ m ≤ 12 := by
  obtain ⟨_, _, h3, h4⟩ := h
  exact md_pos (y := y) (by omega)
theorem IsD.lo {y m d : Int} (h : IsD y m d) : jan y ≤ dn y m d := by
  have := cum_nn y m
  obtain ⟨_, _, h3, h4⟩ := h
  unfold dn
  omega
theorem IsD.hi {y m d : Int} (h : IsD y m d) : dn y m d < jan (y + 1) := by
  obtain ⟨h1, h2⟩ := h.m
  obtain ⟨_, _, h3, h4⟩ := h
  have a := cum_succ y m h1 h2
  have b := cum_le y (m + 1) (by omega)
  rw [jan_succ]
  unfold dn
  omega
/-- The later day has the greater number. -/
theorem dn_lt {y m d y' m' d' : Int} (h : IsD y m d) (h' : IsD y' m' d') (hl : y < y' ∨ (y = y' ∧ (m < m' ∨ (m = m' ∧ d < d')))) : dn y m d < dn y' m' d' := by
  rcases hl with hl | ⟨rfl, hl⟩
  · have a := h.hi
    have b := h'.lo
    have c := jan_mono (a := y + 1) (b := y') (by omega)
    omega
  · obtain ⟨h1, h2⟩ := h.m
    obtain ⟨h1', h2'⟩ := h'.m
    obtain ⟨_, _, h3, h4⟩ := h
    obtain ⟨_, _, h3', h4'⟩ := h'
    unfold dn
    rcases hl with hl | ⟨rfl, hl⟩
    · have a := cum_succ y m h1 h2
      have b := cum_mono (y := y) (a := m + 1) (b := m') (by omega) (by omega) (by omega)
      omega
    · omega
theorem dn_inj {y m d y' m' d' : Int} (h : IsD y m d) (h' : IsD y' m' d') (he : dn y m d = dn y' m' d') : y = y' ∧ m = m' ∧ d = d' := by
  rcases (by omega : (y < y' ∨ (y = y' ∧ (m < m' ∨ (m = m' ∧ d < d')))) ∨ (y' < y ∨ (y' = y ∧ (m' < m ∨ (m' = m ∧ d' < d)))) ∨ (y = y' ∧ m = m' ∧ d = d')) with a | a | a
  · have := dn_lt h h' a
    omega
  · have := dn_lt h' h a
    omega
  · exact a
theorem jan_one : jan 1 = -719162 := by decide
theorem jan_end : jan 10000 = 2932897 := by decide
theorem jan_1970 : jan 1970 = 0 := by decide
theorem dn_range {y m d : Int} (h : IsD y m d) : -719162 ≤ dn y m d ∧ dn y m d ≤ 2932896 := by
  have a := h.lo
  have b := h.hi
  obtain ⟨h1, h2, _, _⟩ := h
  have c := jan_mono (a := 1) (b := y) h1
  have d := jan_mono (a := y + 1) (b := 10000) (by omega)
  rw [jan_one] at c
  rw [jan_end] at d
  omega

/- The day with a number. -/
def yrOf (n : Int) : Int × Int :=
  let r := n / 146097
  let a := n % 146097
  let c := min (a / 36524) 3
  let b := a - c * 36524
  let f := b / 1461
  let g := b % 1461
  let x := min (g / 365) 3
  (1 + r * 400 + c * 100 + f * 4 + x, g - x * 365)
theorem yrOf_jan (n : Int) (h : 0 ≤ n) : jan (yrOf n).1 + (yrOf n).2 = n - 719162 ∧ 0 ≤ (yrOf n).2 ∧ (yrOf n).2 < yd (yrOf n).1 := by
  unfold yrOf
  dsimp only
  generalize hr : n / 146097 = r
  generalize ha : n % 146097 = a
  generalize hc : min (a / 36524) 3 = c
  generalize hb : a - c * 36524 = b
  generalize hf : b / 1461 = f
  generalize hg : b % 1461 = g
  generalize hx : min (g / 365) 3 = x
  have c0 : 0 ≤ c ∧ c ≤ 3 := by omega
  have x0 : 0 ≤ x ∧ x ≤ 3 := by omega
  have b0 : 0 ≤ b ∧ b ≤ 36524 ∧ (c < 3 → b < 36524) := by omega
  have f0 : 0 ≤ f ∧ f ≤ 24 := by omega
  have g0 : 0 ≤ g ∧ g ≤ 1460 := by omega
  have hn : n = 146097 * r + 36524 * c + 1461 * f + g := by omega
  have l0 : 0 ≤ g - x * 365 ∧ g - x * 365 ≤ 365 ∧ (g - x * 365 = 365 → x = 3 ∧ g = 1460) := by omega
  have q4 : (1 + r * 400 + c * 100 + f * 4 + x - 1) / 4 = r * 100 + c * 25 + f := by omega
  have q100 : (1 + r * 400 + c * 100 + f * 4 + x - 1) / 100 = r * 4 + c := by omega
  have q400 : (1 + r * 400 + c * 100 + f * 4 + x - 1) / 400 = r := by omega
  have hl := leap_iff (1 + r * 400 + c * 100 + f * 4 + x)
  refine ⟨?_, by omega, ?_⟩
  · unfold jan
    rw [q4, q100, q400]
    omega
  · unfold yd
    by_cases he : g - x * 365 = 365
    · obtain ⟨rfl, rfl⟩ := l0.2.2 he
      have hfc : f < 24 ∨ c = 3 := by omega
      have : leap (1 + r * 400 + c * 100 + f * 4 + 3) = true := hl.2 (by omega)
      rw [if_pos this]
      omega
    · split <;> omega
def moOf (y : Int) : Nat → Int → Int → Int × Int
  | 0, m, l => (m, l)
  | k + 1, m, l => if md y m ≤ l then moOf y k (m + 1) (l - md y m) else (m, l)
theorem moOf_is (y : Int) : ∀ (k : Nat) (m l : Int), m = 13 - (k : Int) → k ≤ 12 → 0 ≤ l → cum y m + l < yd y → 1 ≤ (moOf y k m l).1 ∧ (moOf y k m l).1 ≤ 12 ∧ 0 ≤ (moOf y k m l).2 ∧ (moOf y k m l).2 < md y (moOf y k m l).1 ∧ cum y (moOf y k m l).1 + (moOf y k m l).2 = cum y m + l := by
  intro k
  induction k with
  | zero =>
    intro m l hm _ h0 hl
    simp only [Int.ofNat_zero, Int.natCast_zero, Int.sub_zero] at hm
    subst hm
    rw [cum_13] at hl
    omega
  | succ k ih =>
    intro m l hm hk h0 hl
    unfold moOf
    have hs := cum_succ y m (by omega) (by omega)
    split
    · have := ih (m + 1) (l - md y m) (by omega) (by omega) (by omega) (by omega)
      omega
    · dsimp only
      omega
def ymd (D : Int) : Int × Int × Int :=
  let a := yrOf (D + 719162)
  let b := moOf a.1 12 1 a.2
  (a.1, b.1, b.2 + 1)
theorem ymd_is {D : Int} (h1 : -719162 ≤ D) (h2 : D ≤ 2932896) : IsD (ymd D).1 (ymd D).2.1 (ymd D).2.2 ∧ dn (ymd D).1 (ymd D).2.1 (ymd D).2.2 = D := by
  unfold ymd
  dsimp only
  obtain ⟨a1, a2, a3⟩ := yrOf_jan (D + 719162) (by omega)
  have b := moOf_is (yrOf (D + 719162)).1 12 1 (yrOf (D + 719162)).2 (by decide) (by decide) a2 (by rw [cum_one]; omega)
  rw [cum_one] at b
  generalize yrOf (D + 719162) = Y at *
  generalize moOf Y.1 12 1 Y.2 = M at *
  have y1 : 1 ≤ Y.1 := by
    by_cases h : 1 ≤ Y.1
    · exact h
    · have := jan_mono (a := Y.1 + 1) (b := 1) (by omega)
      rw [jan_succ, jan_one] at this
      omega
  have y2 : Y.1 ≤ 9999 := by
    by_cases h : Y.1 ≤ 9999
    · exact h
    · have := jan_mono (a := 10000) (b := Y.1) (by omega)
      rw [jan_end] at this
      omega
  refine ⟨⟨y1, y2, by omega, by omega⟩, ?_⟩
  unfold dn
  omega
theorem ymd_of {y m d : Int} (h : IsD y m d) : ymd (dn y m d) = (y, m, d) := by
  have r := dn_range h
  obtain ⟨a, b⟩ := ymd_is r.1 r.2
  obtain ⟨e1, e2, e3⟩ := dn_inj a h b
  exact Prod.ext e1 (Prod.ext e2 e3)
theorem ymd_eq {y m d D : Int} (h : IsD y m d) (e : dn y m d = D) : ymd D = (y, m, d) := e ▸ ymd_of h
def wday (D : Int) : Int := (D + 3) % 7
theorem wday_r (D : Int) : 0 ≤ wday D ∧ wday D < 7 := by unfold wday; omega

end Bs
end Go.Proofs.YtjngpafokkjkdaaGreatDoor
