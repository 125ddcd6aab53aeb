/-
  The document's reading of a date, letter by letter, plain: the same as the takers'.
-/
import Derived.Test.YtjngpafokkjkdaaGreatDoorWPlain4
set_option linter.unusedVariables false
set_option linter.unusedSimpArgs false
namespace Go.Proofs.YtjngpafokkjkdaaGreatDoor
namespace Bs

def tkc (c : UInt8) : TK :=
  if c = 119 then .nm 0 0 else if c = 108 then .nm 1 0 else if c = 109 then .nm 2 2 else if c = 100 then .dg 2 1 else if c = 101 then .lo 1
  else if c = 121 then .dg 4 3 else if c = 99 then .dg 2 3 else if c = 104 then .dg 2 4 else if c = 105 then .dg 2 5 else if c = 115 then .dg 2 6 else .ex [c]
def namR (l : List UInt8) (a : Nat) (ns : List (List UInt8)) : Except Nat (Nat × Int) := match nam l a ns with
  | some i => .ok (a + (ns.getD i []).length, (i : Int))
  | none => .error a
def loS (l : List UInt8) (a : Nat) : Except Nat (Nat × Int) := if l[a]? = some 32 then dgs l 1 (a + 1) 0 else dgs l 2 a 0
def rtake (l : List UInt8) (a : Nat) (c : UInt8) : Except Nat (Nat × Int) :=
  if c = 119 then namR l a shorts else if c = 108 then namR l a longs else if c = 109 then namR l a mons else if c = 100 then dgs l 2 a 0 else if c = 101 then loS l a
  else if c = 121 then dgs l 4 a 0 else if c = 99 then dgs l 2 a 0 else if c = 104 then dgs l 2 a 0 else if c = 105 then dgs l 2 a 0 else if c = 115 then dgs l 2 a 0
  else if l[a]? = some c then .ok (a + 1, 0) else .error a
def rput (fs : List Int) (c : UInt8) (v a : Int) : List Int :=
  if c = 119 then fs.set 0 v else if c = 108 then fs.set 0 v else if c = 109 then fs.set 1 (v + 1) else if c = 100 then (fs.set 2 v).set 7 a else if c = 101 then (fs.set 2 v).set 7 a
  else if c = 121 then (fs.set 3 v).set 8 a else if c = 99 then (fs.set 3 v).set 8 a else if c = 104 then (fs.set 4 v).set 9 a else if c = 105 then (fs.set 5 v).set 10 a else if c = 115 then (fs.set 6 v).set 11 a else fs
def tput (st : List Int) (c : UInt8) (v a : Int) : List Int :=
  if c = 119 then put st 0 v a else if c = 108 then put st 0 v a else if c = 109 then put st 2 v a else if c = 100 then put st 1 v a else if c = 101 then put st 1 v a
  else if c = 121 then put st 3 v a else if c = 99 then put st 3 v a else if c = 104 then put st 4 v a else if c = 105 then put st 5 v a else if c = 115 then put st 6 v a else st
def rsteps (l : List UInt8) : List UInt8 → Nat → List Int → Except Nat (Nat × List Int)
  | [], a, fs => .ok (a, fs)
  | c :: cs, a, fs => match rtake l a c with
    | .ok (b, v) => rsteps l cs b (rput fs c v a)
    | .error e => .error e
theorem take1_c (l : List UInt8) (a : Nat) (st : List Int) (c : UInt8) : take1 l a st (tkc c) = match rtake l a c with
    | .ok (b, v) => .ok (b, tput st c v a)
    | .error e => .error e := by
  unfold tkc rtake tput
  by_cases h1 : c = 119
  · simp only [if_pos h1, take1, namR, nms]
    cases nam l a shorts <;> rfl
  by_cases h2 : c = 108
  · simp only [if_neg h1, if_pos h2, take1, namR, nms]
    cases nam l a longs <;> rfl
  by_cases h3 : c = 109
  · simp only [if_neg h1, if_neg h2, if_pos h3, take1, namR, nms]
    cases nam l a mons <;> rfl
  by_cases h4 : c = 100
  · simp only [if_neg h1, if_neg h2, if_neg h3, if_pos h4, take1]
    rfl
  by_cases h5 : c = 101
  · simp only [if_neg h1, if_neg h2, if_neg h3, if_neg h4, if_pos h5, take1, loS]
    split <;> rfl
  by_cases h6 : c = 121
  · simp only [if_neg h1, if_neg h2, if_neg h3, if_neg h4, if_neg h5, if_pos h6, take1]
    rfl
  by_cases h7 : c = 99
  · simp only [if_neg h1, if_neg h2, if_neg h3, if_neg h4, if_neg h5, if_neg h6, if_pos h7, take1]
    rfl
  by_cases h8 : c = 104
  · simp only [if_neg h1, if_neg h2, if_neg h3, if_neg h4, if_neg h5, if_neg h6, if_neg h7, if_pos h8, take1]
    rfl
  by_cases h9 : c = 105
  · simp only [if_neg h1, if_neg h2, if_neg h3, if_neg h4, if_neg h5, if_neg h6, if_neg h7, if_neg h8, if_pos h9, take1]
    rfl
  by_cases h10 : c = 115
  · simp only [if_neg h1, if_neg h2, if_neg h3, if_neg h4, if_neg h5, if_neg h6, if_neg h7, if_neg h8, if_neg h9, if_pos h10, take1]
    rfl
  · simp only [if_neg h1, if_neg h2, if_neg h3, if_neg h4, if_neg h5, if_neg h6, if_neg h7, if_neg h8, if_neg h9, if_neg h10, take1, exs]
    by_cases h : l[a]? = some c
    · simp only [if_pos h]
    · simp only [if_neg h]

def fsOf (seen : Bool) (st : List Int) : List Int := [g st 0, if seen then g st 4 + 1 else 0, g st 2, g st 6, g st 8, g st 10, g st 12, g st 3, g st 7, g st 9, g st 11, g st 13]
def z12 : List Int := [0, 0, 0, 0, 0, 0, 0, 0, 0, 0, 0, 0]
theorem list14 {α : Type} {l : List α} (h : l.length = 14) : ∃ a b c d e f g' h' i j k m n o, l = [a, b, c, d, e, f, g', h', i, j, k, m, n, o] := by
  match l, h with
  | [a, b, c, d, e, f, g', h', i, j, k, m, n, o], _ => exact ⟨a, b, c, d, e, f, g', h', i, j, k, m, n, o, rfl⟩
theorem tput_len {st : List Int} (c : UInt8) (v a : Int) (h : st.length = 14) : (tput st c v a).length = 14 := by
  unfold tput put
  repeat' split
  all_goals simp [h]
theorem rput_fs {st : List Int} (h : st.length = 14) (seen : Bool) (c : UInt8) (v a : Int) : rput (fsOf seen st) c v a = fsOf (seen || c == 109) (tput st c v a) := by
  obtain ⟨x0, x1, x2, x3, x4, x5, x6, x7, x8, x9, xa, xb, xc, xd, rfl⟩ := list14 h
  unfold rput tput
  by_cases h1 : c = 119
  · simp only [if_pos h1]
    subst h1
    simp [fsOf, put, g]
  by_cases h2 : c = 108
  · simp only [if_neg h1, if_pos h2]
    subst h2
    simp [fsOf, put, g]
  by_cases h3 : c = 109
  · simp only [if_neg h1, if_neg h2, if_pos h3]
    subst h3
    simp [fsOf, put, g]
  have hc : (c == 109) = false := by simpa using h3
  rw [hc, Bool.or_false]
  by_cases h4 : c = 100
  · simp only [if_neg h1, if_neg h2, if_neg h3, if_pos h4]
    simp [fsOf, put, g]
  by_cases h5 : c = 101
  · simp only [if_neg h1, if_neg h2, if_neg h3, if_neg h4, if_pos h5]
    simp [fsOf, put, g]
  by_cases h6 : c = 121
  · simp only [if_neg h1, if_neg h2, if_neg h3, if_neg h4, if_neg h5, if_pos h6]
    simp [fsOf, put, g]
  by_cases h7 : c = 99
  · simp only [if_neg h1, if_neg h2, if_neg h3, if_neg h4, if_neg h5, if_neg h6, if_pos h7]
    simp [fsOf, put, g]
  by_cases h8 : c = 104
  · simp only [if_neg h1, if_neg h2, if_neg h3, if_neg h4, if_neg h5, if_neg h6, if_neg h7, if_pos h8]
    simp [fsOf, put, g]
  by_cases h9 : c = 105
  · simp only [if_neg h1, if_neg h2, if_neg h3, if_neg h4, if_neg h5, if_neg h6, if_neg h7, if_neg h8, if_pos h9]
    simp [fsOf, put, g]
  by_cases h10 : c = 115
  · simp only [if_neg h1, if_neg h2, if_neg h3, if_neg h4, if_neg h5, if_neg h6, if_neg h7, if_neg h8, if_neg h9, if_pos h10]
    simp [fsOf, put, g]
  · simp only [if_neg h1, if_neg h2, if_neg h3, if_neg h4, if_neg h5, if_neg h6, if_neg h7, if_neg h8, if_neg h9, if_neg h10]
theorem rsteps_takes (l : List UInt8) : ∀ (cs : List UInt8) (a : Nat) (st : List Int) (seen : Bool), st.length = 14 → rsteps l cs a (fsOf seen st) = match takes l (cs.map tkc) a st with
    | .ok (b, st') => .ok (b, fsOf (seen || cs.contains 109) st')
    | .error e => .error e
  | [], a, st, seen, h => by simp [rsteps, takes]
  | c :: cs, a, st, seen, h => by
    rw [List.map_cons]
    unfold rsteps takes
    rw [take1_c]
    cases hr : rtake l a c with
    | error e => rfl
    | ok r =>
      obtain ⟨b, v⟩ := r
      dsimp only
      rw [rput_fs h, rsteps_takes l cs b (tput st c v a) (seen || c == 109) (tput_len c v a h)]
      have e : (seen || c == 109 || cs.contains 109) = (seen || (c :: cs).contains 109) := by
        rw [List.contains_cons, Bool.or_assoc]
        have : (c == 109) = (109 == c) := by
          rw [Bool.eq_iff_iff, beq_iff_eq, beq_iff_eq]
          exact eq_comm
        rw [this]
      rw [e]
theorem takes_ok {l : List UInt8} {t : TK} {ts : List TK} {a : Nat} {st : List Int} {b : Nat} {st' : List Int} (h : take1 l a st t = .ok (b, st')) : takes l (t :: ts) a st = takes l ts b st' := takes_cons h
theorem takes_er {l : List UInt8} {t : TK} {ts : List TK} {a : Nat} {st : List Int} {e : Nat} (h : take1 l a st t = .error e) : takes l (t :: ts) a st = .error e := by
  conv => lhs; unfold takes
  rw [h]
theorem takes_ex2 (l : List UInt8) (c d : UInt8) (t : List UInt8) (ts : List TK) (a : Nat) (st : List Int) : takes l (.ex (c :: d :: t) :: ts) a st = takes l (.ex [c] :: .ex (d :: t) :: ts) a st := by
  by_cases h : l[a]? = some c
  · have e0 : exs l [c] a = .ok (a + 1) := by simp only [exs, if_pos h]
    have e1 : exs l (c :: d :: t) a = exs l (d :: t) (a + 1) := by
      conv => lhs; unfold exs
      rw [if_pos h]
    rw [takes_ok (t := .ex [c]) (b := a + 1) (st' := st) (by simp only [take1, e0])]
    cases hr : exs l (d :: t) (a + 1) with
    | ok b => rw [takes_ok (t := .ex (c :: d :: t)) (b := b) (st' := st) (by simp only [take1, e1, hr]), takes_ok (t := .ex (d :: t)) (b := b) (st' := st) (by simp only [take1, hr])]
    | error e => rw [takes_er (t := .ex (c :: d :: t)) (e := e) (by simp only [take1, e1, hr]), takes_er (t := .ex (d :: t)) (e := e) (by simp only [take1, hr])]
  · have e0 : exs l [c] a = .error a := by simp only [exs, if_neg h]
    have e1 : exs l (c :: d :: t) a = .error a := by
      unfold exs
      rw [if_neg h]
    rw [takes_er (t := .ex (c :: d :: t)) (e := a) (by simp only [take1, e1]), takes_er (t := .ex [c]) (e := a) (by simp only [take1, e0])]
def patD (form : Int) : List UInt8 := if form = 0 then [119, 44, 32, 100, 32, 109, 32, 121, 32, 104, 58, 105, 58, 115, 32, 71, 77, 84] else if form = 1 then [108, 44, 32, 100, 45, 109, 45, 99, 32, 104, 58, 105, 58, 115, 32, 71, 77, 84] else [119, 32, 109, 32, 101, 32, 104, 58, 105, 58, 115, 32, 121]
theorem takes_congr {l : List UInt8} {ts us : List TK} (h : ∀ a st, takes l ts a st = takes l us a st) (t : TK) (a : Nat) (st : List Int) : takes l (t :: ts) a st = takes l (t :: us) a st := by
  unfold takes
  cases take1 l a st t with
  | error e => rfl
  | ok r =>
    obtain ⟨b, st'⟩ := r
    exact h b st'
theorem pat_takes {form : Int} (hf : form = 0 ∨ form = 1 ∨ form = 2) (l : List UInt8) (a : Nat) (st : List Int) : takes l ((patD form).map tkc) a st = takes l (tks form) a st := by
  rcases hf with rfl | rfl | rfl
  · show takes l [.nm 0 0, .ex [44], .ex [32], .dg 2 1, .ex [32], .nm 2 2, .ex [32], .dg 4 3, .ex [32], .dg 2 4, .ex [58], .dg 2 5, .ex [58], .dg 2 6, .ex [32], .ex [71], .ex [77], .ex [84]] a st = takes l tkF a st
    unfold tkF
    refine takes_congr (fun a st => ?_) _ a st
    rw [takes_ex2]
    refine takes_congr (fun a st => ?_) _ a st
    refine takes_congr (fun a st => ?_) _ a st
    refine takes_congr (fun a st => ?_) _ a st
    refine takes_congr (fun a st => ?_) _ a st
    refine takes_congr (fun a st => ?_) _ a st
    refine takes_congr (fun a st => ?_) _ a st
    refine takes_congr (fun a st => ?_) _ a st
    refine takes_congr (fun a st => ?_) _ a st
    refine takes_congr (fun a st => ?_) _ a st
    refine takes_congr (fun a st => ?_) _ a st
    refine takes_congr (fun a st => ?_) _ a st
    refine takes_congr (fun a st => ?_) _ a st
    refine takes_congr (fun a st => ?_) _ a st
    rw [takes_ex2]
    refine takes_congr (fun a st => ?_) _ a st
    rw [takes_ex2]
    refine takes_congr (fun a st => ?_) _ a st
    rw [takes_ex2]
  · show takes l [.nm 1 0, .ex [44], .ex [32], .dg 2 1, .ex [45], .nm 2 2, .ex [45], .dg 2 3, .ex [32], .dg 2 4, .ex [58], .dg 2 5, .ex [58], .dg 2 6, .ex [32], .ex [71], .ex [77], .ex [84]] a st = takes l tkL a st
    unfold tkL
    refine takes_congr (fun a st => ?_) _ a st
    rw [takes_ex2]
    refine takes_congr (fun a st => ?_) _ a st
    refine takes_congr (fun a st => ?_) _ a st
    refine takes_congr (fun a st => ?_) _ a st
    refine takes_congr (fun a st => ?_) _ a st
    refine takes_congr (fun a st => ?_) _ a st
    refine takes_congr (fun a st => ?_) _ a st
    refine takes_congr (fun a st => ?_) _ a st
    refine takes_congr (fun a st => ?_) _ a st
    refine takes_congr (fun a st => ?_) _ a st
    refine takes_congr (fun a st => ?_) _ a st
    refine takes_congr (fun a st => ?_) _ a st
    refine takes_congr (fun a st => ?_) _ a st
    refine takes_congr (fun a st => ?_) _ a st
    rw [takes_ex2]
    refine takes_congr (fun a st => ?_) _ a st
    rw [takes_ex2]
    refine takes_congr (fun a st => ?_) _ a st
    rw [takes_ex2]
  · rfl
theorem read_pat {form : Int} (hf : form = 0 ∨ form = 1 ∨ form = 2) (l : List UInt8) : rsteps l (patD form) 0 z12 = match takes l (tks form) 0 z14 with
    | .ok (b, st) => .ok (b, fsOf true st)
    | .error e => .error e := by
  have h := rsteps_takes l (patD form) 0 z14 false rfl
  rw [pat_takes hf] at h
  have e : (false || (patD form).contains 109) = true := by rcases hf with rfl | rfl | rfl <;> decide
  rw [e] at h
  exact h
theorem rsteps_at (l : List UInt8) {L : List UInt8} {I : Nat} (h : I < L.length) (a : Nat) (fs : List Int) : rsteps l (L.drop I) a fs = match rtake l a (L.getD I 0) with
    | .ok (b, v) => rsteps l (L.drop (I + 1)) b (rput fs (L.getD I 0) v a)
    | .error e => .error e := by
  rw [List.drop_eq_getElem_cons h, List.getD_eq_getElem?_getD, List.getElem?_eq_getElem h]
  rfl

end Bs
end Go.Proofs.YtjngpafokkjkdaaGreatDoor
