/- Several texts as one. -/
import Derived.Test.YthdfgepnadgkjaaGreatDoorPcF
import Derived.Test.YthdfgepnadgkjaaGreatDoorZzR
import Derived.Test.YthdfgepnadgkjaaGreatDoorZzP
/-
  span: Pieces.
-/
set_option linter.unusedVariables false
set_option linter.unusedSimpArgs false
namespace Go.Proofs.YthdfgepnadgkjaaGreatDoor
open Go.RowKit Go.Shelf
namespace Sn
open Oc Tg Ac

theorem OwnC.mono {T B B' : Nat} {v : Value} {t : List Pc} {w : World} (h : OwnC T B' v t w) (hB : B ≤ B') : OwnC T B v t w := by
  refine ⟨h.1, ?_⟩
  rcases h.2 with hn | ⟨k, cap, cur, rfl, hb, rest⟩
  · exact .inl hn
  · exact .inr ⟨k, cap, cur, rfl, by omega, rest⟩
/-- What Pieces answers: the pieces, the place, the error. -/
def pcsR (bd l : List UInt8) : List Pc × Int × Int :=
  if bndR bd = true then
    if (goA (opB bd) (clB bd) l (l.length + 1) 0 []).2.1 ≠ 0 then ([], ((goA (opB bd) (clB bd) l (l.length + 1) 0 []).2.2 : Int), (goA (opB bd) (clB bd) l (l.length + 1) 0 []).2.1)
    else ((goA (opB bd) (clB bd) l (l.length + 1) 0 []).1, 0, 0)
  else ([], 0, 92)

set_option maxRecDepth 100000 in
set_option maxHeartbeats 1500000 in
theorem Pieces_any (bd : List UInt8) (hbd : bd.length ≤ 1048576) (s : ByteArray) (hs : s.size ≤ 1000000000) (w0 : World) (hml : ML w0) (hpw : Pow w0) (w : World) (hb : Below w0.heap.size w0 w) :
    Calls Tryz.prog 10 #[.string (str bd), .string s] w fun e w' => ∃ lv, e = .returned (.tuple #[lv, .int .i64 (pcsR bd s.data.toList).2.1, .int .i64 (pcsR bd s.data.toList).2.2]) ∧ OwnC 40 w.heap.size lv (pcsR bd s.data.toList).1 w' ∧ Below w.heap.size w w' := by
  have hsl : s.data.toList.length = s.size := size_list s
  have HBd : Hid (∀ W, Calls Tryz.prog 26 #[.string (str bd)] W fun e w' => e = .returned (.bool (bndR bd)) ∧ Below (World.heap W).size W w') := fun W => by
    have := isBoundary_any (str bd) (by rw [str_size]; omega) W
    rw [str_list] at this
    exact this
  have HOp : Hid (∀ W, Calls _ _ _ W _) := fun W => opening_any bd (by omega) W
  have HCl : Hid (∀ W, Calls _ _ _ W _) := fun W => closing_any bd (by omega) W
  have hlo : (opB bd).length ≤ 4000000 := by unfold opB; simp; omega
  have hlc : (clB bd).length ≤ 4000000 := by unfold clB; simp; omega
  have HPs : Hid (∀ (g : Nat) W, w0.heap.size ≤ g → Below w0.heap.size w0 W → RB W g s 0 → Calls _ _ _ W _) := fun g W h1 h2 h3 => pieces_any g s hs (opB bd) (clB bd) hlo hlc w0 hml hpw h1 W h2 h3
  obtain ⟨R, HR⟩ : ∃ R, Hid (R = pcsR bd s.data.toList) := ⟨_, rfl⟩
  have HRd : Hid (R = _) := HR.out.trans (by unfold pcsR; exact rfl)
  rw [← HR.out]
  rw [hsl] at HRd
  clear HR
  have HB0 : Hid (Below w0.heap.size w0 w) := hb
  generalize goA (opB bd) (clB bd) s.data.toList (s.size + 1) 0 [] = G at *
  obtain ⟨gl, ge, ga⟩ := G
  dsimp only at HRd HPs
  generalize str (opB bd) = OP at *
  generalize str (clB bd) = CL at *
  generalize str bd = BD at *
  generalize bndR bd = b at *
  clear hb hsl hlo hlc
  go_enter Tryz.func10, Tryz.ntmps10
  go_wp2_with fail
  refine (HBd.out _).mono ?_
  rintro e w1 ⟨rfl, hb1⟩
  have HB1 : Hid (Below w.heap.size w w1) := hb1
  clear hb1
  cases b with
  | false =>
    have HQ : Hid (R = _) := (by rw [HRd.out]; simp : R = ([], 0, 92))
    go_wp2
    go_ret3
    rw [HQ.out]
    exact ⟨_, rfl, ownC_nil _ _ _, HB1.out⟩
  | true =>
    go_wp2_with fail
    refine (HOp.out _).mono ?_
    rintro e w2 ⟨rfl, hw2⟩
    rw [hw2]
    clear hw2
    go_wp2_with fail
    refine (HCl.out _).mono ?_
    rintro e w2 ⟨rfl, hw2⟩
    rw [hw2]
    clear hw2
    go_wp2_with fail
    obtain ⟨w3, hw3⟩ : ∃ w3, w3 = w1.alloc (.cells #[.string s, .int .i64 0] 78) := ⟨_, rfl⟩
    have hb3 : Below w1.heap.size w1 w3 := by rw [hw3]; exact (Below.refl _ w1).alloc (Nat.le_refl _) _
    have hr3 : RB w3 w1.heap.size s 0 := by rw [hw3]; exact heap_alloc_new w1 _
    have hB3 : Below w.heap.size w w3 := HB1.out.trans (hb3.mono HB1.out.size)
    have hw1 : w.heap.size ≤ w1.heap.size := HB1.out.size
    have hw0 : w0.heap.size ≤ w.heap.size := HB0.out.size
    rw [← hw3]
    clear hw3
    refine (HPs.out w1.heap.size w3 (by omega) (HB0.out.trans (hB3.mono hw0)) hr3).mono ?_
    rintro e w4 ⟨lv, rfl, hO4, hr4, hc4⟩
    have HR4 : Hid (RB w4 w1.heap.size s ga) := hr4
    have HB4 : Hid (Below w.heap.size w w4) := hB3.trans (hc4.below hw1 hB3.size)
    have HO4 : Hid (ge = 0 → OwnC 40 w3.heap.size lv gl w4) := hO4
    have HZ3 : Hid (w.heap.size ≤ w3.heap.size) := hB3.size
    have c0 := HR4.out.c0
    have c1 := HR4.out.c1
    clear hr4 hc4 hO4 hr3 hb3 hB3
    by_cases hge : ge = 0
    · subst hge
      have HQ : Hid (R = _) := (by rw [HRd.out]; simp : R = (gl, 0, 0))
      have HO5 : Hid (OwnC 40 w.heap.size lv gl w4) := (HO4.out rfl).mono HZ3.out
      clear HO4
      go_wp2
      go_ret3
      rw [HQ.out]
      exact ⟨_, rfl, HO5.out, HB4.out⟩
    · have HQ : Hid (R = _) := (by rw [HRd.out]; simp [hge] : R = ([], (ga : Int), ge))
      go_wp2
      go_quiet (fail)
      go_wp2
      go_ret3
      rw [HQ.out]
      exact ⟨_, rfl, ownC_nil _ _ _, bel_drewN HB4.out _⟩

end Sn
end Go.Proofs.YthdfgepnadgkjaaGreatDoor

/-
  The document's starts, cut.
-/
set_option linter.unusedVariables false
set_option linter.unusedSimpArgs false
namespace Go.Proofs.YthdfgepnadgkjaaGreatDoor
open Go.RowKit Go.Shelf
namespace Sn
open Oc Tg Ac

def shrt (r t : List UInt8) : Bool := decide (r.length < t.length) && Lib.hasPrefix t r

end Sn
end Go.Proofs.YthdfgepnadgkjaaGreatDoor

/-
  The document's line.
-/
set_option linter.unusedVariables false
set_option linter.unusedSimpArgs false
namespace Go.Proofs.YthdfgepnadgkjaaGreatDoor
open Go.RowKit Go.Shelf
namespace Sn
open Oc Tg Ac

/-- A line of the document's: the value, the length behind which the next begins, the error. -/
def dlnR (r h : List UInt8) : List UInt8 × Nat × Int :=
  if shrt r h = true then ([], 0, 94) else if Lib.hasPrefix r h = false then ([], 0, 93) else
  if shrt ((r.drop h.length).drop ((r.drop h.length).takeWhile fieldB).length) [13, 10] = true then ([], 0, 94)
  else if Lib.hasPrefix ((r.drop h.length).drop ((r.drop h.length).takeWhile fieldB).length) [13, 10] = false then ([], 0, 93)
  else ((r.drop h.length).takeWhile fieldB, h.length + ((r.drop h.length).takeWhile fieldB).length + 2, 0)
theorem getD_drop9 (l : List UInt8) (p j : Nat) : (l.drop p).getD j 0 = l.getD (p + j) 0 := by
  simp [List.getD_eq_getElem?_getD, List.getElem?_drop]

end Sn
end Go.Proofs.YthdfgepnadgkjaaGreatDoor
