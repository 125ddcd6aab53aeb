/-
  The function that takes a day of two digits, or of a blank and a digit.
-/
import Derived.Test.YtjngpafokkjkdaaGreatDoorTNm
import Derived.Test.YtjngpafokkjkdaaGreatDoorTMk
set_option linter.unusedVariables false
set_option linter.unusedSimpArgs false
namespace Go.Proofs.YtjngpafokkjkdaaGreatDoor
open Go.RowKit
namespace Bs

theorem hp_one (l : List UInt8) (a : Nat) (c : UInt8) : hp (l.drop a) [c] = decide (l[a]? = some c) := by
  unfold hp
  congr 1
  cases h : l[a]? with
  | none =>
    rw [List.drop_eq_nil_of_le (by simpa using h)]
    simp
  | some x =>
    have hl : a < l.length := by
      have := List.getElem?_eq_some_iff.1 h
      exact this.1
    rw [List.drop_eq_getElem_cons hl]
    have : l[a] = x := by
      have := List.getElem?_eq_some_iff.1 h
      exact this.2
    simp [this]
def loR (l : List UInt8) (a : Nat) (st : List Int) (f : Nat) : Except Nat (Nat × List Int) := if l[a]? = some 32 then dgR st f a (dgs l 1 (a + 1) 0) else dgR st f a (dgs l 2 a 0)

set_option maxRecDepth 100000 in
set_option maxHeartbeats 1000000 in
theorem loose1_any (l : List UInt8) (f at' a b c d P : Nat) (st : List Int) (hl : l.length ≤ 140737488355328) (hf : f < 7) (ha : at' ≤ l.length) (w : World) (hp' : Pcs w P st)
    (ca : w.cell? ⟨a, 0, none⟩ = some (.func (.func 120) #[] #[pp c 0, pp d 0])) (cb : w.cell? ⟨b, 0, none⟩ = some (pp P (2 * f))) (cc : w.cell? ⟨c, 0, none⟩ = some (pp P (2 * f))) (cd : w.cell? ⟨d, 0, none⟩ = some (.int .i64 2))
    (na : a ≠ P) (nb : b ≠ P) (nc : c ≠ P) (nd : d ≠ P) :
    Calls Tryz.prog 122 #[.string (str l), .int .i64 (at' : Int), pp a 0, pp b 0] w fun e w' => Took (loR l at' st f) P e w' ∧ But [P] w w' := by
  have hs : (str l).size = l.length := str_size l
  have HE : Hid ((str l).extract at' l.length = str (l.drop at')) := str_drop l at' ha
  have e32 : (⟨#[32]⟩ : ByteArray) = str [32] := rfl
  have HP : Hid (Pcs w P st) := hp'
  have hlt := hp'.lt
  by_cases h : l[at']? = some 32
  · have hlt2 : at' < l.length := (List.getElem?_eq_some_iff.1 h).1
    have HC : Hid (∀ w, Calls Tryz.prog 89 #[.string ((str l).extract at' l.length), .string ⟨#[32]⟩] w fun e w' => e = .returned (.bool true) ∧ w' = w) := fun w => by
      rw [HE.out, e32]
      have := HasPrefix_any (l.drop at') [32] w
      rw [hp_one, decide_eq_true h] at this
      exact this
    have HR : Hid (loR l at' st f = dgR st f at' (dgs l 1 (at' + 1) 0)) := if_pos h
    have HD : Hid (Calls Tryz.prog 110 #[.int .i64 ((1 : Nat) : Int), pp P (2 * f)] w fun e w' => ∃ v, e = .returned v ∧ Tk w' P (.dg 1 f) v ∧ Below w.heap.size w w') := digits_any 1 f P w hlt
    clear hp' h ca cc cd
    unfold pp at *
    go_enter Tryz.func122, Tryz.ntmps122
    go_wp2_with fail
    refine (HC.out _).mono ?_
    rintro e w0 ⟨rfl, rfl⟩
    go_wp2_with fail
    refine Calls.mono HD.out ?_
    rintro e w1 ⟨v, rfl, ⟨x, y, rfl, k1, k2, nx, ny⟩, hb1⟩
    have HB1 : Hid (Below w0.heap.size w0 w1) := hb1
    have hp1 : Pcs w1 P st := HP.out.but (But.of_below hb1) (fun e => by cases e)
    have cb1 := (But.of_below hb1).cell cb (fun e => by cases e)
    clear hb1
    go_wp2_with fail
    refine (digits1_any l 1 f (at' + 1) x y P st hl (by omega) hf (by omega) w1 hp1 k1 k2 nx ny).mono ?_
    rintro e w2 ⟨htook, hb2⟩
    have HB2 : Hid (But [P] w1 w2) := hb2
    have cb2 := hb2.cell cb1 (fun e => by simp at e; exact nb e)
    clear hb2 k1 k2 hp1
    cases hdg : dgs l 1 (at' + 1) 0 with
    | error q =>
      rw [hdg] at htook
      obtain ⟨rfl, st', hp2⟩ := htook
      have z0 := hp2.cell (2 * f + 1) (by omega)
      have z1 := hp2.free (2 * f + 1)
      have HP2 : Hid (Pcs w2 P st') := hp2
      clear hp2
      unfold pp at *
      go_wp2
      go_ret2
      exact ⟨by rw [HR.out, hdg]; exact ⟨rfl, _, HP2.out.set (2 * f + 1) (by omega) _⟩, ((But.of_below HB1.out).nil.trans HB2.out).setCell (by simp) _⟩
    | ok qv =>
      obtain ⟨q, v⟩ := qv
      rw [hdg] at htook
      obtain ⟨rfl, hp2⟩ := htook
      have z0 := hp2.cell (2 * f + 1) (by omega)
      have z1 := hp2.free (2 * f + 1)
      have HP2 : Hid (Pcs w2 P _) := hp2
      clear hp2
      unfold pp at *
      go_wp2
      go_ret2
      refine ⟨?_, ((But.of_below HB1.out).nil.trans HB2.out).setCell (by simp) _⟩
      rw [HR.out, hdg]
      have := HP2.out.set (2 * f + 1) (by omega) (at' : Int)
      rw [put_at] at this
      exact ⟨rfl, this⟩
  · have HC : Hid (∀ w, Calls Tryz.prog 89 #[.string ((str l).extract at' l.length), .string ⟨#[32]⟩] w fun e w' => e = .returned (.bool false) ∧ w' = w) := fun w => by
      rw [HE.out, e32]
      have := HasPrefix_any (l.drop at') [32] w
      rw [hp_one, decide_eq_false h] at this
      exact this
    have HR : Hid (loR l at' st f = dgR st f at' (dgs l 2 at' 0)) := if_neg h
    have HD : Hid (Calls Tryz.prog 120 #[.string (str l), .int .i64 (at' : Int), pp c 0, pp d 0] w fun e w' => Took (dgR st f at' (dgs l 2 at' 0)) P e w' ∧ But [P] w w') := digits1_any l 2 f at' c d P st hl (by omega) hf ha w hp' cc cd nc nd
    clear hp' h cb cc cd
    unfold pp at *
    go_enter Tryz.func122, Tryz.ntmps122
    go_wp2_with fail
    refine (HC.out _).mono ?_
    rintro e w0 ⟨rfl, rfl⟩
    go_wp2_with fail
    refine Calls.mono HD.out ?_
    rintro e w2 ⟨htook, hb2⟩
    have HB2 : Hid (But [P] w0 w2) := hb2
    clear hb2
    cases hdg : dgs l 2 at' 0 with
    | error q =>
      rw [hdg] at htook
      obtain ⟨rfl, hp2⟩ := htook
      have HP2 : Hid (∃ st, Pcs w2 P st) := hp2
      clear hp2
      go_wp2
      go_ret2
      exact ⟨by rw [HR.out, hdg]; exact ⟨rfl, HP2.out⟩, HB2.out⟩
    | ok qv =>
      obtain ⟨q, v⟩ := qv
      rw [hdg] at htook
      obtain ⟨rfl, hp2⟩ := htook
      have HP2 : Hid (Pcs w2 P _) := hp2
      clear hp2
      go_wp2
      go_ret2
      exact ⟨by rw [HR.out, hdg]; exact ⟨rfl, HP2.out⟩, HB2.out⟩

end Bs
end Go.Proofs.YtjngpafokkjkdaaGreatDoor
