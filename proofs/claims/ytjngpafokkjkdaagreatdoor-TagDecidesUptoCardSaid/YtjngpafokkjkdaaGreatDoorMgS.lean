/- Several texts as one. -/
import Derived.Test.YtjngpafokkjkdaaGreatDoorMgR
import Derived.Deep.RegionWith
import Derived.Test.YtjngpafokkjkdaaGreatDoorMgQ
import Derived.WalkMore
import Derived.Shelf.Abstract
/-
  The function that takes a day of two digits, or of a blank and a digit.
-/
set_option linter.unusedVariables false
set_option linter.unusedSimpArgs false
namespace Go.Proofs.YtjngpafokkjkdaaGreatDoor
open Go.RowKit
namespace Bs

theorem hp_one (l : List UInt8) (a : Nat) (c : UInt8) : hp (l.drop a) [c] = decide (l[a]? = some c) := by
  unfold hp
  congr 1
  cases h : l[a]? with
  | none =>
    rw [List.drop_eq_nil_of_le (by simpa using h)]
    simp
  | some x =>
    have hl : a < l.length := by
      have := List.getElem?_eq_some_iff.1 h
      exact this.1
    rw [List.drop_eq_getElem_cons hl]
    have : l[a] = x := by
      have := List.getElem?_eq_some_iff.1 h
      exact this.2
    simp [this]
def loR (l : List UInt8) (a : Nat) (st : List Int) (f : Nat) : Except Nat (Nat × List Int) := if l[a]? = some 32 then dgR st f a (dgs l 1 (a + 1) 0) else dgR st f a (dgs l 2 a 0)

set_option maxRecDepth 100000 in
set_option maxHeartbeats 1000000 in
theorem loose1_any (l : List UInt8) (f at' a b c d P : Nat) (st : List Int) (hl : l.length ≤ 140737488355328) (hf : f < 7) (ha : at' ≤ l.length) (w : World) (hp' : Pcs w P st)
    (ca : w.cell? ⟨a, 0, none⟩ = some (.func (.func 120) #[] #[pp c 0, pp d 0])) (cb : w.cell? ⟨b, 0, none⟩ = some (pp P (2 * f))) (cc : w.cell? ⟨c, 0, none⟩ = some (pp P (2 * f))) (cd : w.cell? ⟨d, 0, none⟩ = some (.int .i64 2))
    (na : a ≠ P) (nb : b ≠ P) (nc : c ≠ P) (nd : d ≠ P) :
    Calls Tryz.prog 122 #[.string (str l), .int .i64 (at' : Int), pp a 0, pp b 0] w fun e w' => Took (loR l at' st f) P e w' ∧ But [P] w w' := by
  have hs : (str l).size = l.length := str_size l
  have HE : Hid ((str l).extract at' l.length = str (l.drop at')) := str_drop l at' ha
  have e32 : (⟨#[32]⟩ : ByteArray) = str [32] := rfl
  have HP : Hid (Pcs w P st) := hp'
  have hlt := hp'.lt
  by_cases h : l[at']? = some 32
  · have hlt2 : at' < l.length := (List.getElem?_eq_some_iff.1 h).1
    have HC : Hid (∀ w, Calls Tryz.prog 89 #[.string ((str l).extract at' l.length), .string ⟨#[32]⟩] w fun e w' => e = .returned (.bool true) ∧ w' = w) := fun w => by
      rw [HE.out, e32]
      have := HasPrefix_any (l.drop at') [32] w
      rw [hp_one, decide_eq_true h] at this
      exact this
    have HR : Hid (loR l at' st f = dgR st f at' (dgs l 1 (at' + 1) 0)) := if_pos h
    have HD : Hid (Calls Tryz.prog 110 #[.int .i64 ((1 : Nat) : Int), pp P (2 * f)] w fun e w' => ∃ v, e = .returned v ∧ Tk w' P (.dg 1 f) v ∧ Below w.heap.size w w') := digits_any 1 f P w hlt
    clear hp' h ca cc cd
    unfold pp at *
    go_enter Tryz.func122, Tryz.ntmps122
    go_wp2_with fail
    refine (HC.out _).mono ?_
    rintro e w0 ⟨rfl, rfl⟩
    go_wp2_with fail
    refine Calls.mono HD.out ?_
    rintro e w1 ⟨v, rfl, ⟨x, y, rfl, k1, k2, nx, ny⟩, hb1⟩
    have HB1 : Hid (Below w0.heap.size w0 w1) := hb1
    have hp1 : Pcs w1 P st := HP.out.but (But.of_below hb1) (fun e => by cases e)
    have cb1 := (But.of_below hb1).cell cb (fun e => by cases e)
    clear hb1
    go_wp2_with fail
    refine (digits1_any l 1 f (at' + 1) x y P st hl (by omega) hf (by omega) w1 hp1 k1 k2 nx ny).mono ?_
    rintro e w2 ⟨htook, hb2⟩
    have HB2 : Hid (But [P] w1 w2) := hb2
    have cb2 := hb2.cell cb1 (fun e => by simp at e; exact nb e)
    clear hb2 k1 k2 hp1
    cases hdg : dgs l 1 (at' + 1) 0 with
    | error q =>
      rw [hdg] at htook
      obtain ⟨rfl, st', hp2⟩ := htook
      have z0 := hp2.cell (2 * f + 1) (by omega)
      have z1 := hp2.free (2 * f + 1)
      have HP2 : Hid (Pcs w2 P st') := hp2
      clear hp2
      unfold pp at *
      go_wp2
      go_ret2
      exact ⟨by rw [HR.out, hdg]; exact ⟨rfl, _, HP2.out.set (2 * f + 1) (by omega) _⟩, ((But.of_below HB1.out).nil.trans HB2.out).setCell (by simp) _⟩
    | ok qv =>
      obtain ⟨q, v⟩ := qv
      rw [hdg] at htook
      obtain ⟨rfl, hp2⟩ := htook
      have z0 := hp2.cell (2 * f + 1) (by omega)
      have z1 := hp2.free (2 * f + 1)
      have HP2 : Hid (Pcs w2 P _) := hp2
      clear hp2
      unfold pp at *
      go_wp2
      go_ret2
      refine ⟨?_, ((But.of_below HB1.out).nil.trans HB2.out).setCell (by simp) _⟩
      rw [HR.out, hdg]
      have := HP2.out.set (2 * f + 1) (by omega) (at' : Int)
      rw [put_at] at this
      exact ⟨rfl, this⟩
  · have HC : Hid (∀ w, Calls Tryz.prog 89 #[.string ((str l).extract at' l.length), .string ⟨#[32]⟩] w fun e w' => e = .returned (.bool false) ∧ w' = w) := fun w => by
      rw [HE.out, e32]
      have := HasPrefix_any (l.drop at') [32] w
      rw [hp_one, decide_eq_false h] at this
      exact this
    have HR : Hid (loR l at' st f = dgR st f at' (dgs l 2 at' 0)) := if_neg h
    have HD : Hid (Calls Tryz.prog 120 #[.string (str l), .int .i64 (at' : Int), pp c 0, pp d 0] w fun e w' => Took (dgR st f at' (dgs l 2 at' 0)) P e w' ∧ But [P] w w') := digits1_any l 2 f at' c d P st hl (by omega) hf ha w hp' cc cd nc nd
    clear hp' h cb cc cd
    unfold pp at *
    go_enter Tryz.func122, Tryz.ntmps122
    go_wp2_with fail
    refine (HC.out _).mono ?_
    rintro e w0 ⟨rfl, rfl⟩
    go_wp2_with fail
    refine Calls.mono HD.out ?_
    rintro e w2 ⟨htook, hb2⟩
    have HB2 : Hid (But [P] w0 w2) := hb2
    clear hb2
    cases hdg : dgs l 2 at' 0 with
    | error q =>
      rw [hdg] at htook
      obtain ⟨rfl, hp2⟩ := htook
      have HP2 : Hid (∃ st, Pcs w2 P st) := hp2
      clear hp2
      go_wp2
      go_ret2
      exact ⟨by rw [HR.out, hdg]; exact ⟨rfl, HP2.out⟩, HB2.out⟩
    | ok qv =>
      obtain ⟨q, v⟩ := qv
      rw [hdg] at htook
      obtain ⟨rfl, hp2⟩ := htook
      have HP2 : Hid (Pcs w2 P _) := hp2
      clear hp2
      go_wp2
      go_ret2
      exact ⟨by rw [HR.out, hdg]; exact ⟨rfl, HP2.out⟩, HB2.out⟩

end Bs
end Go.Proofs.YtjngpafokkjkdaaGreatDoor

/-
  A slice of takers.
-/
set_option linter.unusedVariables false
set_option linter.unusedSimpArgs false
namespace Go.Proofs.YtjngpafokkjkdaaGreatDoor
open Go.RowKit
namespace Bs

/-- The slice holds the takers of these pieces. -/
def Tks (w : World) (P : Nat) (ts : List TK) (v : Value) : Prop :=
  ∃ gb, v = .slice (some ⟨gb, 0, none⟩) ts.length ts.length ∧ gb ≠ P ∧ ∀ i t, ts[i]? = some t → ∃ u, w.cell? ⟨gb, i, none⟩ = some u ∧ Tk w P t u

end Bs
end Go.Proofs.YtjngpafokkjkdaaGreatDoor

/-
  A text held against its form.
-/
set_option linter.unusedVariables false
set_option linter.unusedSimpArgs false
namespace Go.Proofs.YtjngpafokkjkdaaGreatDoor
open Go.RowKit
namespace Bs

def okT : TK → Prop
  | .ex t => t.length ≤ 100
  | .dg n f => n ≤ 4 ∧ f < 7
  | .lo f => f < 7
  | .nm k f => k ≤ 2 ∧ f < 7
theorem take1_dg (l : List UInt8) (a : Nat) (st : List Int) (n f : Nat) : take1 l a st (.dg n f) = dgR st f a (dgs l n a 0) := by
  unfold take1
  dsimp only
  cases dgs l n a 0 with
  | error e => rfl
  | ok x => rfl
theorem take1_lo (l : List UInt8) (a : Nat) (st : List Int) (f : Nat) : take1 l a st (.lo f) = loR l a st f := by
  unfold take1 loR
  dsimp only
  split
  · cases dgs l 1 (a + 1) 0 with
    | error e => rfl
    | ok x => rfl
  · cases dgs l 2 a 0 with
    | error e => rfl
    | ok x => rfl
theorem take1_nm (l : List UInt8) (a : Nat) (st : List Int) (k f : Nat) : take1 l a st (.nm k f) = nmR st f a (nms k) (nam l a (nms k)) := by
  unfold take1
  dsimp only
  cases nam l a (nms k) with
  | none => rfl
  | some x => rfl

theorem exs_le (l : List UInt8) : ∀ (t : List UInt8) (a b : Nat), a ≤ l.length → exs l t a = .ok b → b ≤ l.length
  | [], a, b, h, e => by cases e; exact h
  | c :: t, a, b, h, e => by
    unfold exs at e
    split at e
    · rename_i hc
      have := (List.getElem?_eq_some_iff.1 hc).1
      exact exs_le l t (a + 1) b (by omega) e
    · cases e
theorem exs_le' (l : List UInt8) : ∀ (t : List UInt8) (a b : Nat), a ≤ l.length → exs l t a = .error b → b ≤ l.length
  | [], a, b, h, e => by cases e
  | c :: t, a, b, h, e => by
    unfold exs at e
    split at e
    · rename_i hc
      have := (List.getElem?_eq_some_iff.1 hc).1
      exact exs_le' l t (a + 1) b (by omega) e
    · cases e; exact h
theorem dgs_le (l : List UInt8) : ∀ (n a : Nat) (v : Int) (r : Nat × Int), a ≤ l.length → dgs l n a v = .ok r → r.1 ≤ l.length
  | 0, a, v, r, h, e => by cases e; exact h
  | n + 1, a, v, r, h, e => by
    unfold dgs at e
    split at e
    · rename_i c hc
      have := (List.getElem?_eq_some_iff.1 hc).1
      split at e
      · exact dgs_le l n (a + 1) _ r (by omega) e
      · cases e
    · cases e
theorem hp_len {l t : List UInt8} (h : hp l t = true) : t.length ≤ l.length := by
  have := of_decide_eq_true h
  have := congrArg List.length this
  rw [List.length_take] at this
  omega
theorem take1_le (l : List UInt8) (a : Nat) (st : List Int) (t : TK) (r : Nat × List Int) (h : a ≤ l.length) (e : take1 l a st t = .ok r) : r.1 ≤ l.length := by
  have hd : ∀ n a' f, a' ≤ l.length → dgR st f a (dgs l n a' 0) = .ok r → r.1 ≤ l.length := by
    intro n a' f ha e
    cases hg : dgs l n a' 0 with
    | error x => rw [hg] at e; cases e
    | ok x => rw [hg] at e; cases e; exact dgs_le l n a' 0 x ha hg
  cases t with
  | ex t =>
    unfold take1 at e
    dsimp only at e
    cases hx : exs l t a with
    | error x => rw [hx] at e; cases e
    | ok x => rw [hx] at e; cases e; exact exs_le l t a x h hx
  | dg n f => rw [take1_dg] at e; exact hd n a f h e
  | lo f =>
    rw [take1_lo] at e
    unfold loR at e
    split at e
    · rename_i hc
      have := (List.getElem?_eq_some_iff.1 hc).1
      exact hd 1 (a + 1) f (by omega) e
    · exact hd 2 a f h e
  | nm k f =>
    rw [take1_nm] at e
    cases hn : nam l a (nms k) with
    | none => rw [hn] at e; cases e
    | some i =>
      rw [hn] at e
      cases e
      unfold nam at hn
      obtain ⟨hi, hh, _⟩ := List.findIdx?_eq_some_iff_getElem.1 hn
      have := hp_len hh
      rw [List.length_drop] at this
      show a + ((nms k).getD i []).length ≤ l.length
      rw [List.getD_eq_getElem?_getD, List.getElem?_eq_getElem hi]
      show a + ((nms k)[i]).length ≤ l.length
      omega

theorem taker_calls (t : TK) (ok : okT t) (l : List UInt8) (a : Nat) (st : List Int) (P : Nat) (w : World) (v : Value) (hl : l.length ≤ 140737488355328) (ha : a ≤ l.length) (hv : Tk w P t v) (hp' : Pcs w P st) (tb : Tb w) (nt : NotTb P) :
    ∃ F caps, v = .func (.func F) #[] caps ∧ Enters Tryz.prog F ∧ Calls Tryz.prog F (#[.string (str l), .int .i64 (a : Int)] ++ caps) w fun e w' => Took (take1 l a st t) P e w' ∧ But [P] w w' := by
  cases t with
  | ex t =>
    obtain ⟨x, rfl, h1, n1⟩ := hv
    refine ⟨_, _, rfl, enters_of Tryz.func121 (by kernel_rfl) rfl, (exactly1_any l t a x hl ok ha w h1).mono ?_⟩
    rintro e w' ⟨rfl, hb⟩
    refine ⟨?_, hb.nil⟩
    have hpw := hp'.but hb (fun e => by cases e)
    unfold take1
    dsimp only
    cases exs l t a with
    | error e => exact ⟨rfl, st, hpw⟩
    | ok b => exact ⟨rfl, hpw⟩
  | dg n f =>
    obtain ⟨x, y, rfl, h1, h2, n1, n2⟩ := hv
    rw [take1_dg]
    exact ⟨_, _, rfl, enters_of Tryz.func120 (by kernel_rfl) rfl, digits1_any l n f a x y P st hl ok.1 ok.2 ha w hp' h1 h2 n1 n2⟩
  | lo f =>
    obtain ⟨x, y, c, d, rfl, h1, h2, h3, h4, n1, n2, n3, n4⟩ := hv
    rw [take1_lo]
    exact ⟨_, _, rfl, enters_of Tryz.func122 (by kernel_rfl) rfl, loose1_any l f a x y c d P st hl ok ha w hp' h1 h2 h3 h4 n1 n2 n3 n4⟩
  | nm k f =>
    obtain ⟨x, y, c, rfl, h1, h2, h3, n1, n2, n3⟩ := hv
    rw [take1_nm]
    obtain ⟨hk, hf⟩ := ok
    rcases (by omega : k = 0 ∨ k = 1 ∨ k = 2) with rfl | rfl | rfl
    · exact ⟨_, _, rfl, enters_of Tryz.func119 (by kernel_rfl) rfl, name1_0 l f a x y c P st hl hf ha w tb hp' h1 h2 h3 n2 nt⟩
    · exact ⟨_, _, rfl, enters_of Tryz.func119 (by kernel_rfl) rfl, name1_1 l f a x y c P st hl hf ha w tb hp' h1 h2 h3 n2 nt⟩
    · exact ⟨_, _, rfl, enters_of Tryz.func119 (by kernel_rfl) rfl, name1_2 l f a x y c P st hl hf ha w tb hp' h1 h2 h3 n2 nt⟩

/-- What walk says, and leaves. -/
def WTook (l : List UInt8) (r : Except Nat (Nat × List Int)) (P : Nat) (e : Ending) (w' : World) : Prop :=
  match r with
  | .ok (b, st) => e = .returned (.tuple #[.int .i64 (b : Int), .bool (decide (b = l.length))]) ∧ Pcs w' P st
  | .error b => e = .returned (.tuple #[.int .i64 (b : Int), .bool false]) ∧ ∃ st, Pcs w' P st
theorem tks_ok {form : Int} : ∀ t, t ∈ tks form → okT t := by
  have h1 : ∀ t ∈ tkL, okT t := by simp [tkL, okT]
  have h2 : ∀ t ∈ tkP, okT t := by simp [tkP, okT]
  have h3 : ∀ t ∈ tkF, okT t := by simp [tkF, okT]
  unfold tks
  split
  · exact h1
  · split
    · exact h2
    · exact h3
theorem tks_len (form : Int) : (tks form).length ≤ 14 := by
  unfold tks
  split
  · decide
  · split <;> decide
theorem takes_step (l : List UInt8) (ts : List TK) (k : Nat) (t : TK) (h : ts[k]? = some t) (a : Nat) (st : List Int) : takes l (ts.drop k) a st = match take1 l a st t with
    | .ok (b, st') => takes l (ts.drop (k + 1)) b st'
    | .error e => .error e := by
  obtain ⟨hk, rfl⟩ := List.getElem?_eq_some_iff.1 h
  rw [List.drop_eq_getElem_cons hk]
  rfl

set_option maxRecDepth 100000 in
set_option maxHeartbeats 1000000 in
theorem walk_any (l : List UInt8) (form : Int) (P : Nat) (w : World) (hl : l.length ≤ 140737488355328) (st : List Int) (hp' : Pcs w P st) (tb : Tb w) (nt : NotTb P)
    (CT : Hid (∀ w, P < w.heap.size → Calls Tryz.prog 90 #[.int .i64 form, pp P 0] w fun e w' => ∃ v, e = .returned v ∧ Tks w' P (tks form) v ∧ Below w.heap.size w w')) :
    Calls Tryz.prog 62 #[.string (str l), .int .i64 form, pp P 0] w fun e w' => WTook l (takes l (tks form) 0 st) P e w' ∧ But [P] w w' := by
  have hs : (str l).size = l.length := str_size l
  have hlt := hp'.lt
  have HP : Hid (Pcs w P st) := hp'
  have HT : Hid (Tb w ∧ NotTb P) := ⟨tb, nt⟩
  clear hp' tb nt
  have HOK : Hid (∀ t, t ∈ tks form → okT t) := fun t => tks_ok t
  have hlen := tks_len form
  unfold pp at *
  generalize tks form = ts at *
  go_enter Tryz.func62, Tryz.ntmps62
  go_wp2
  go_step3
  go_wp2
  go_step3
  go_wp2_with fail
  refine (CT.out w hlt).mono ?_
  rintro e w1 ⟨v, rfl, ⟨gb, rfl, ng, hg⟩, b1⟩
  have HG : Hid (∀ i t, ts[i]? = some t → ∃ u, w1.cell? ⟨gb, i, none⟩ = some u ∧ Tk w1 P t u) := hg
  have HB1 : Hid (Below w.heap.size w w1) := b1
  have HP1 : Hid (Pcs w1 P st) := HP.out.but (But.of_below b1) (fun e => by cases e)
  clear hg b1 HP
  go_wp2
  go_loopw [8, 9, 16] (fun x y i wr => ∃ (k q : Nat) (st' : List Int), k ≤ ts.length ∧ q ≤ l.length ∧ x = .int .i64 (q : Int) ∧ y = .bool true ∧ i = .int .i64 (k : Int) ∧ Hid (takes l (ts.drop k) q st' = takes l ts 0 st) ∧ Hid (Pcs wr P st') ∧ Hid (But [P] w1 wr)) (fun _ _ i _ => ts.length - (intOf i).toNat)
  case atStart => exact ⟨0, 0, st, by omega, by omega, rfl, rfl, rfl, (rfl : takes l (ts.drop 0) 0 st = takes l ts 0 st), HP1.out, But.refl _ _⟩
  case round =>
    obtain ⟨k, q, st', hk, hq, rfl, rfl, rfl, he, hpc, hb⟩ := hrel
    by_cases hkn : k < ts.length
    · have htk : ts[k]? = some ts[k] := List.getElem?_eq_getElem hkn
      obtain ⟨u, hu, hTk⟩ := HG.out k _ htk
      have hu' := hb.out.cell hu (fun e => by simp at e; exact ng e)
      have hst := takes_step l ts k _ htk q st'
      rw [he.out] at hst
      have hTb : Tb wr := (HT.out.1.bel HB1.out).butP hb.out HT.out.2
      have hle := take1_le l q st' ts[k]
      obtain ⟨F, caps, rfl, hent, hcall⟩ := taker_calls ts[k] (HOK.out _ (List.getElem_mem hkn)) l q st' P wr u hl hq (hTk.but hb.out) hpc.out hTb HT.out.2
      have HCALL : Hid (Calls Tryz.prog F (#[.string (str l), .int .i64 (q : Int)] ++ caps) wr fun e w' => Took (take1 l q st' ts[k]) P e w' ∧ But [P] wr w') := hcall
      have HLE : Hid (∀ r, q ≤ l.length → take1 l q st' ts[k] = .ok r → r.1 ≤ l.length) := hle
      have HST : Hid (_ = _) := hst
      clear hcall hst hTb hu hTk htk hle
      unfold Enters at hent
      generalize ts[k] = t at *
      go_wp2_with fail
      refine Calls.mono HCALL.out ?_
      rintro e w2 ⟨htook, hb2⟩
      have HB2 : Hid (But [P] w1 w2) := hb.out.trans hb2
      clear hb2
      cases htake : take1 l q st' t with
      | error x =>
        rw [htake] at htook
        have HST' : Hid (takes l ts 0 st = .error x) := by
          have := HST.out
          rw [htake] at this
          exact this
        obtain ⟨rfl, hp2⟩ := htook
        have HP2 : Hid (∃ st, Pcs w2 P st) := hp2
        clear hp2
        go_wp2
        rw [Exit.noGoto_ret]; go_ret2
        exact ⟨by rw [HST'.out]; exact ⟨rfl, HP2.out⟩, (But.of_below HB1.out).nil.trans HB2.out⟩
      | ok r =>
        obtain ⟨x, st2⟩ := r
        have hxl : x ≤ l.length := HLE.out _ hq htake
        rw [htake] at htook
        have HST' : Hid (takes l (ts.drop (k + 1)) x st2 = takes l ts 0 st) := by
          have := HST.out
          rw [htake] at this
          exact this.symm
        obtain ⟨rfl, hp2⟩ := htook
        have HP2 : Hid (Pcs w2 P st2) := hp2
        clear hp2 htake HST
        go_wp2
        exact ⟨⟨k + 1, x, st2, by omega, hxl, rfl, rfl, by go_num, HST', HP2, HB2⟩, by simp [intOf]; omega⟩
    · obtain rfl : k = ts.length := by omega
      have HE : Hid (takes l ts 0 st = .ok (q, st')) := by
        have := he.out
        rw [List.drop_length] at this
        exact this.symm
      by_cases hql : q = l.length
      · have hd : ((q : Int) == (l.length : Int)) = true := by simp [hql]
        go_wp2
        rw [Exit.noGoto_ret]; go_ret2
        refine ⟨?_, (But.of_below HB1.out).nil.trans hb.out⟩
        rw [HE.out]
        exact ⟨by rw [decide_eq_true hql]; rfl, hpc.out⟩
      · have hd : ((q : Int) == (l.length : Int)) = false := by simp; omega
        go_wp2
        rw [Exit.noGoto_ret]; go_ret2
        refine ⟨?_, (But.of_below HB1.out).nil.trans hb.out⟩
        rw [HE.out]
        exact ⟨by rw [decide_eq_false hql]; rfl, hpc.out⟩

end Bs
end Go.Proofs.YtjngpafokkjkdaaGreatDoor
