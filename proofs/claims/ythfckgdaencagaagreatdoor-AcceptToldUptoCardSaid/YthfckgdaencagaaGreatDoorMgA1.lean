/- Several texts as one. -/
import Derived.Test.YthfckgdaencagaaGreatDoorAMe
import Derived.Test.YthfckgdaencagaaGreatDoorMgZ
import Derived.Test.YthfckgdaencagaaGreatDoorMgJ
import Derived.Deep.QuietTactic
import Derived.Maps.AppendAt
import Derived.Test.YthfckgdaencagaaGreatDoorMgD
/-
  Words with qualities: plainly; slices of them.
-/
set_option linter.unusedVariables false
set_option linter.unusedSimpArgs false
namespace Go.Proofs.YthfckgdaencagaaGreatDoor
open Go.RowKit Go.Shelf
namespace Ac
open Oc Tg

/-- A word with its quality. -/
abbrev Wt := List UInt8 × Int
def encW1 (p : Wt) : List Value := [.string (str p.1), .int .i64 p.2]
def encW (ps : List Wt) : List Value := ps.flatMap encW1
theorem encW_snoc (ps : List Wt) (p : Wt) : encW (ps ++ [p]) = encW ps ++ encW1 p := by unfold encW; rw [List.flatMap_append]; simp
theorem encW_len : ∀ ps : List Wt, (encW ps).length = ps.length * 2
  | [] => rfl
  | p :: ps => by
    have := encW_len ps
    unfold encW at *
    rw [List.flatMap_cons, List.length_append, this, List.length_cons]
    show 2 + _ = _
    omega
/-- A slice of parameters (of the type T) of the call's own. -/
def OwnW (T B : Nat) (v : Value) (ps : List Wt) (w : World) : Prop := w.ownsRow B T 2 v ps.length (encW ps)
theorem ownW_nil (T B : Nat) (w : World) : OwnW T B (.slice none 0 0) [] w := World.ownsRow_nil w B T 2
theorem ownW_empty {B : Nat} (T : Nat) (w : World) (hB : B ≤ w.heap.size) : OwnW T B (.slice (some ⟨w.heap.size, 0, none⟩) 0 0) [] (w.alloc (.cells #[] T)) :=
  ⟨by simp [encW], .inr ⟨w.heap.size, 0, #[], rfl, hB, heap_alloc_new w _, by simp, by decide, by simp, by simp [encW]⟩⟩
theorem OwnW.below {T B : Nat} {v : Value} {t : List Wt} {w w' : World} (h : OwnW T B v t w) (b : Below w.heap.size w w') : OwnW T B v t w' := by
  refine ⟨h.1, ?_⟩
  rcases h.2 with hn | ⟨g, cap, cur, rfl, hb, hg, rest⟩
  · exact .inl hn
  · refine .inr ⟨g, cap, cur, rfl, hb, ?_, rest⟩
    have hlt : g < w.heap.size := by
      rcases Nat.lt_or_ge g w.heap.size with h | h
      · exact h
      · simp [Array.getElem?_eq_none h] at hg
    rw [b.block g hlt]
    exact hg

theorem OwnW.mono {T B B' : Nat} {v : Value} {t : List Wt} {w : World} (h : OwnW T B v t w) (hB : B' ≤ B) : OwnW T B' v t w := by
  refine ⟨h.1, ?_⟩
  rcases h.2 with hn | ⟨g, cap, cur, rfl, hb, rest⟩
  · exact .inl hn
  · exact .inr ⟨g, cap, cur, rfl, by omega, rest⟩
/-- A parameter appended to a slice of the call's own. -/
theorem wp_appW {ops : Array Oper} {rest : List Oper} {o : Oper} {a : Act} {Q : Exit → Act → World → Prop} (T S : Nat) (hinfo : (Tryz.prog.info? T).map (fun i => (i.zero, i.size, i.bytes)) = some (some (.agg #[.string ⟨#[]⟩, .int .i64 0]), 2, 24))
    (hund : Tryz.prog.underlying S = some (.slice T)) (hgd : o.guard = none) (s x : Operand)
    (ho : o.op = .call { callee := .builtin .append, args := #[s, x], argTypes := #[S, S] }) (B : Nat) (v : Value) (t : List Wt) (W : World) (p : Wt) (n1 : ByteArray) (n2 : Int) (h1 : n1 = str p.1) (h2 : n2 = p.2)
    (hs : a.eval s = v) (hown : OwnW T B v t W) (g : Nat) (hx : a.eval x = .slice (some ⟨g, 0, none⟩) 1 1) (hg : g = W.heap.size) (hlen : t.length + 1 ≤ 2147483648) (hB : B ≤ W.heap.size)
    (h : ∀ v' w', OwnW T B v' (t ++ [p]) w' → Below B W w' → wpList Tryz.prog ops Q rest (a.put o.dst v') w') : wpList Tryz.prog ops Q (o :: rest) a (W.alloc (.cells #[.string n1, .int .i64 n2] T)) := by
  subst h1 h2 hg
  obtain ⟨i0, hi, hz0, hz1, hz2⟩ := info_parts hinfo
  refine wpList_append_own _ hgd s x S ho B T i0 (.agg #[.string ⟨#[]⟩, .int .i64 0]) 2 24 hund hi hz0 hz1 hz2 rfl (by decide) v t.length _ hs (World.ownsRow.alloc hown _) ⟨W.heap.size, 0, none⟩ 1 1 (encW1 p) hx rfl ?_ ?_ ?_ ?_ ?_ ?_
  · intro j u hj
    unfold encW1 at hj
    match j, hj with
    | 0, hj => simp at hj; subst hj; simp [Addr.add]
    | 1, hj => simp at hj; subst hj; simp [Addr.add]
  · intro u hu
    unfold encW1 at hu
    simp at hu
    rcases hu with rfl | rfl <;> rfl
  · unfold maxLen; omega
  · omega
  · simp; omega
  · intro v' w' h1 h2 _
    refine h v' w' ?_ (((Below.refl B W).alloc hB _).grown h2 (by simp; omega) (fun k hk => (World.ownsRow.lt hown k hk).1))
    unfold OwnW
    rw [encW_snoc, List.length_append]
    exact h1

/-- What the first q says. -/
def wq (ps : List Prm) : Int × Int := match ps.find? isQ with | none => (1000, 0) | some p => qual p.2.1
/-- A word with its quality, or an error. -/
def wt (l : List UInt8) : Wt × Int := match wrd l with
  | none => (([], 0), 10)
  | some x => if (wq x.2).2 = 0 then ((lower x.1, (wq x.2).1), 0) else (([], 0), (wq x.2).2)
def wts : List (List UInt8) → List Wt × Int
  | [] => ([], 0)
  | x :: r => if (wt x).2 ≠ 0 then ([], (wt x).2) else if (wts r).2 ≠ 0 then ([], (wts r).2) else ((wt x).1 :: (wts r).1, 0)
def weightsR (l : List UInt8) : List Wt × Int := if (listR l).2 ≠ 0 then ([], (listR l).2) else wts (listR l).1
theorem wts_err : ∀ (t : List (List UInt8)) (k : Nat), k < t.length → (∀ j, j < k → (wt (t.getD j [])).2 = 0) → (wt (t.getD k [])).2 ≠ 0 → wts t = ([], (wt (t.getD k [])).2)
  | [], k, h, _, _ => by simp at h
  | x :: t, 0, _, _, h => by
    have h' : (wt x).2 ≠ 0 := h
    unfold wts
    rw [if_pos h']
    rfl
  | x :: t, k + 1, hk, hall, h => by
    have h0 : (wt x).2 = 0 := hall 0 (by omega)
    have ih := wts_err t k (by simpa using hk) (fun j hj => hall (j + 1) (by omega)) h
    have e : (x :: t).getD (k + 1) [] = t.getD k [] := by simp
    rw [e] at h ⊢
    unfold wts
    rw [if_neg (by simp [h0]), ih, if_pos h]
theorem wts_ok : ∀ (t : List (List UInt8)), (∀ j, j < t.length → (wt (t.getD j [])).2 = 0) → wts t = (t.map (fun x => (wt x).1), 0)
  | [], _ => rfl
  | x :: t, hall => by
    have h0 : (wt x).2 = 0 := hall 0 (by simp)
    have ih := wts_ok t (fun j hj => hall (j + 1) (by simpa using hj))
    unfold wts
    rw [if_neg (by simp [h0]), ih, if_neg (by simp)]
    rfl
theorem take_wt (t : List (List UInt8)) (k : Nat) (hk : k < t.length) : (t.take (k + 1)).map (fun x => (wt x).1) = (t.take k).map (fun x => (wt x).1) ++ [(wt (t.getD k [])).1] := by
  rw [List.take_succ_eq_append_getElem hk, List.map_append, List.getD_eq_getElem?_getD, List.getElem?_eq_getElem hk]
  rfl
/-- Parameters without a value have the empty text. -/
def Bare (ps : List Prm) : Prop := ∀ p ∈ ps, p.2.2 = false → p.2.1 = []
theorem pstep_bare (r : List UInt8) (x : Nat × List Prm) (h : pstep r = some (some x)) : Bare x.2 := by
  unfold pstep at h
  split at h
  · obtain ⟨y, hy, e⟩ := Option.map_eq_some_iff.1 h
    cases e
    intro p hp hb
    split at hp
    · cases hp
    · simp at hp
      subst hp
      unfold rp at hy
      split at hy
      · obtain ⟨z, hz, e⟩ := Option.map_eq_some_iff.1 hy
        cases e
        cases hb
      · cases hy
        rfl
  · cases h
theorem pgo_bare : ∀ (f : Nat) (r : List UInt8) (y : List Prm × Nat), pgo f r = some y → Bare y.1
  | 0, r, y, h => by cases h
  | f + 1, r, y, h => by
    rw [pgo] at h
    cases hp : pstep r with
    | none => rw [hp] at h; cases h
    | some o =>
      rw [hp] at h
      cases o with
      | none =>
        cases h
        intro p hp
        cases hp
      | some x =>
        have he := pstep_bare r x hp
        obtain ⟨z, hz, e⟩ := Option.map_eq_some_iff.1 h
        have ih := pgo_bare f _ z hz
        cases e
        intro p hp
        rcases List.mem_append.1 hp with h | h
        · exact he p h
        · exact ih p h
theorem params_bare (l : List UInt8) : Bare (paramsR l).1 := by
  unfold paramsR
  cases h : prm l with
  | none => intro p hp; cases hp
  | some y => exact pgo_bare _ _ _ h

end Ac
end Go.Proofs.YthfckgdaencagaaGreatDoor

/-
  The document's Quality.
-/
set_option linter.unusedVariables false
set_option linter.unusedSimpArgs false
namespace Go.Proofs.YthfckgdaencagaaGreatDoor
open Go.RowKit
namespace Ac
open Oc Tg

theorem dig_val {c : Int} (h : digI c = true) : valI c < 10 := by
  unfold digI at h
  unfold valI
  rw [if_pos (by simpa using h)]
  have : 48 ≤ c ∧ c ≤ 57 := by simpa using h
  omega
theorem ndig_val {c : Int} (h : digI c = false) : 10 ≤ valI c := by
  unfold digI at h
  unfold valI
  rw [if_neg (by simpa using h)]
  (repeat' split) <;> omega
theorem list_cons (s : ByteArray) (h : 0 < s.size) : s.data.toList = s.data.toList.getD 0 0 :: s.data.toList.drop 1 := by
  cases e : s.data.toList with
  | nil => have := size_list s; rw [e] at this; simp at this; omega
  | cons a r => simp
theorem list_cons2 (s : ByteArray) (h : 1 < s.size) : s.data.toList = s.data.toList.getD 0 0 :: s.data.toList.getD 1 0 :: s.data.toList.drop 2 := by
  match e : s.data.toList with
  | [] => have := size_list s; rw [e] at this; simp at this; omega
  | [a] => have := size_list s; rw [e] at this; simp at this; omega
  | a :: b :: r => simp
theorem u8_ne {a b : UInt8} (h : (a.toNat : Int) ≠ (b.toNat : Int)) : a ≠ b := fun e => h (by rw [e])

set_option maxRecDepth 100000 in
set_option maxHeartbeats 1000000 in
theorem rQuality_any (s : ByteArray) (hs : s.size ≤ maxLen) (w : World) :
    Calls Tryz.prog 34 #[.string s] w fun e w' => e = .returned (.tuple #[.int .i64 (qual s.data.toList).1, .int .i64 (qual s.data.toList).2]) ∧ w' = w := by
  by_cases h0 : s.size = 0
  · have he : s.toList.isEmpty = true := by
      rw [Lib.toList_data, List.length_eq_zero_iff.1 ((size_list s).trans h0)]; rfl
    have hq : qual s.data.toList = (0, 71) := by rw [List.length_eq_zero_iff.1 ((size_list s).trans h0)]; exact qual_nil
    rw [hq]
    go_enter Tryz.func34, Tryz.ntmps34
    go_wp2
    go_ret2
    exact ⟨rfl, rfl⟩
  have he : s.toList.isEmpty = false := by
    rw [Lib.toList_data]
    cases e : s.data.toList with
    | nil => have := size_list s; rw [e] at this; simp at this; omega
    | cons _ _ => rfl
  have hby : ((s[0]'(by omega)).toNat : Int) = byt s 0 := byt_at s 0 (by omega)
  have hgl := list_cons s (by omega)
  by_cases h01 : byt s 0 ≠ 48 ∧ byt s 0 ≠ 49
  · have hq : qual s.data.toList = (0, 71) := by
      rw [hgl]
      exact qual_first _ _ (u8_ne h01.1) (u8_ne h01.2)
    rw [hq]
    have n0 : (byt s 0 != 48) = true := by simp [h01.1]
    have n1 : (byt s 0 != 49) = true := by simp [h01.2]
    go_enter Tryz.func34, Tryz.ntmps34
    go_wp2
    go_ret2
    exact ⟨rfl, rfl⟩
  have hor : byt s 0 = 48 ∨ byt s 0 = 49 := by omega
  have hp : ((byt s 0 != 48) && (byt s 0 != 49)) = false := by rcases hor with h | h <;> simp [h]
  have hpick : (if (byt s 0 != 48) = true then (byt s 0 != 49) else false) = false := by rcases hor with h | h <;> simp [h]
  by_cases h5 : 5 < s.size
  · have hq : qual s.data.toList = (0, 71) := by
      rw [list_cons2 s (by omega)]
      exact qual_long _ _ _ (by rw [List.length_drop, size_list]; omega)
    rw [hq]
    have q5 : decide ((5 : Int) < (s.size : Int)) = true := decide_eq_true (by omega)
    rcases hor with ho | ho
    all_goals
      rw [ho] at hby
      go_enter Tryz.func34, Tryz.ntmps34
      go_wp2
      go_ret2
      exact ⟨rfl, rfl⟩
  have q5 : decide ((5 : Int) < (s.size : Int)) = false := decide_eq_false (by omega)
  by_cases h1 : 1 < s.size ∧ byt s 1 ≠ 46
  · have hq : qual s.data.toList = (0, 71) := by
      rw [list_cons2 s (by omega)]
      exact qual_second _ _ _ (u8_ne h1.2)
    rw [hq]
    have q1 : decide ((1 : Int) < (s.size : Int)) = true := decide_eq_true (by omega)
    have hb1 : ((s[1]'(by omega)).toNat : Int) = byt s 1 := byt_at s 1 (by omega)
    have n1 : (byt s 1 != 46) = true := by simp [h1.2]
    have h1s := h1.1
    rcases hor with ho | ho
    all_goals
      rw [ho] at hby
      go_enter Tryz.func34, Tryz.ntmps34
      go_wp2
      go_ret2
      exact ⟨rfl, rfl⟩
  have HEnd : Hid ((∀ j, 2 ≤ j → j < s.size → valI (byt s j) < 10) → qual s.data.toList = (if 1000 < (if byt s 0 = 49 then 1000 else 0) + qacc s.data.toList 3 then (0, 71) else ((if byt s 0 = 49 then 1000 else 0) + qacc s.data.toList 3, 0))) := by
    show _ → _
    intro hall
    have e49 : (byt s 0 = 49) = (s.data.toList.getD 0 0 = 49) := by
      apply propext
      constructor
      · intro h; exact UInt8.toNat_inj.1 (by show _ = 49; unfold byt at h; omega)
      · intro h; unfold byt; rw [h]; rfl
    rw [qual_end s.data.toList (s.data.toList.getD 0 0) (by rw [hgl]; rfl) ?_ (by rw [size_list]; omega) ?_ ?_]
    · simp only [e49]
    · rcases hor with h | h
      · exact .inl (UInt8.toNat_inj.1 (by show _ = 48; unfold byt at h; omega))
      · exact .inr (UInt8.toNat_inj.1 (by show _ = 49; unfold byt at h; omega))
    · intro hl
      rw [size_list] at hl
      have : byt s 1 = 46 := by omega
      exact UInt8.toNat_inj.1 (by show _ = 46; unfold byt at this; omega)
    · intro j hj hl
      rw [size_list] at hl
      exact hall j hj hl
  have HBad : Hid (∀ j, 2 ≤ j → j < s.size → 10 ≤ valI (byt s j) → qual s.data.toList = (0, 71)) := by
    show ∀ j, _
    intro j hj hl hv
    rw [list_cons2 s (by omega)]
    refine qual_digit _ _ _ (s.data.toList.getD j 0) ?_ hv
    rw [List.getD_eq_getElem?_getD, List.getElem?_eq_getElem (by simpa using hl)]
    have : (s.data.toList.drop 2)[j - 2]'(by rw [List.length_drop, size_list]; omega) = s.data.toList[j]'(by simpa using hl) := by
      rw [List.getElem_drop]; congr 1; omega
    rw [Option.getD_some, ← this]
    exact List.getElem_mem _
  have h1p : (1 < s.size → byt s 1 = 46) := by omega
  have q1 : s.size = 1 ∨ (1 < s.size ∧ byt s 1 = 46) := by omega
  clear h1 h01 hgl h1p
  have HQ : Hid (∃ q, q = qual s.data.toList) := ⟨_, rfl⟩
  have HDg : Hid (∀ k, qdig s.data.toList k = if 2 + k < s.size then byt s (2 + k) - 48 else 0) := by
    show ∀ k, _
    intro k
    unfold qdig byt
    rw [size_list]
  have HAcc : Hid (∀ k, qacc s.data.toList (k + 1) = 10 * qacc s.data.toList k + qdig s.data.toList k) := (fun k => rfl : ∀ k, qacc s.data.toList (k + 1) = _)
  have HA0 : Hid (qacc s.data.toList 0 = 0) := rfl
  have hall5 : s.size ≤ 5 := by omega
  clear h5
  generalize qual s.data.toList = Q at *
  generalize hA : qacc s.data.toList = A at *
  generalize hG : qdig s.data.toList = G at *
  clear hA hG
  have qs1 : ∃ b1 : Bool, decide ((1 : Int) < (s.size : Int)) = b1 ∧ (b1 = true → ∃ h : 1 < s.size, ((s[1]'h).toNat : Int) = 46) := by
    rcases q1 with h | ⟨h, hd⟩
    · exact ⟨false, decide_eq_false (by omega), fun h => by cases h⟩
    · exact ⟨true, decide_eq_true (by omega), fun _ => ⟨h, (byt_at s 1 h).trans hd⟩⟩
  clear q1
  obtain ⟨b1, hb1, hb1s⟩ := qs1
  rcases hor with ho | ho
  all_goals
    rw [ho] at hby
    have HO : Hid (byt s 0 = _) := ho
    clear ho hp hpick
    cases b1
  all_goals (try obtain ⟨hl1, hd1⟩ := hb1s rfl)
  all_goals
    clear hb1s
    go_enter Tryz.func34, Tryz.ntmps34
    go_wp2
    go_loop [4, 5] (fun nv iv => ∃ (k : Nat) (n : Int), k ≤ 3 ∧ iv = .int .i64 ((2 : Int) + k) ∧ nv = .int .i64 n ∧ 0 ≤ n ∧ n ≤ 999 ∧ Hid (n < 10 ^ k) ∧ Hid (n = A k) ∧ Hid (∀ j, 2 ≤ j → j < 2 + k → j < s.size → valI (byt s j) < 10)) (fun _ iv => 5 - (intOf iv).toNat)
    case atStart => exact ⟨0, 0, by omega, rfl, rfl, by omega, by omega, (by decide : (0 : Int) < 10 ^ 0), HA0.out.symm, (fun j h1 h2 _ => by omega : ∀ j, 2 ≤ j → j < 2 + 0 → j < s.size → valI (byt s j) < 10)⟩
    case round =>
      obtain ⟨k, n, hk, rfl, rfl, n0, n1, hp, hst, hall⟩ := hrel
      by_cases hk3 : k < 3
      · have hn99 : n ≤ 99 := by
          have := hp.out
          rcases (show k = 0 ∨ k = 1 ∨ k = 2 by omega) with rfl | rfl | rfl <;> omega
        have HP : Hid (∀ d : Int, 0 ≤ d → d ≤ 9 → 10 * n + d < 10 ^ (k + 1)) := by
          show ∀ d : Int, _
          intro d h0 h9
          have := hp.out
          rw [Int.pow_succ]
          omega
        have c5 : decide ((2 : Int) + (k : Int) < 5) = true := decide_eq_true (by omega)
        by_cases hlt : 2 + k < s.size
        · have cl : decide ((2 : Int) + (k : Int) < (s.size : Int)) = true := decide_eq_true (by omega)
          have hbk : ((s[2 + k]'hlt).toNat : Int) = byt s (2 + k) := byt_at s (2 + k) hlt
          obtain ⟨b0, b255⟩ := byt_bd s (2 + k)
          have HG : Hid (G k = byt s (2 + k) - 48) := (by rw [HDg.out, if_pos hlt] : G k = _)
          have HBd : Hid (10 ≤ valI (byt s (2 + k)) → Q = (0, 71)) := HBad.out (2 + k) (by omega) hlt
          generalize hc : byt s (2 + k) = c at *
          have Hc : Hid (byt s (2 + k) = c) := hc
          clear hc
          have HI := IsDigit_any c b0 b255 w
          cases hd : digI c
          · rw [hd] at HI
            have HF := HBd.out (ndig_val hd)
            go_wp2_with (go_at_call 54; refine HI.mono ?_; rintro e w2 ⟨rfl, rfl⟩)
            go_ret2
            rw [HF]
            exact ⟨rfl, rfl⟩
          · rw [hd] at HI
            have hr : 48 ≤ c ∧ c ≤ 57 := by unfold digI at hd; simpa using hd
            obtain ⟨r0, r9⟩ := hr
            have HV := dig_val hd
            go_wp2_with (go_at_call 54; refine HI.mono ?_; rintro e w2 ⟨rfl, rfl⟩)
            go_round
            case measure => simp [intOf]; omega
            case rel =>
              refine ⟨k + 1, 10 * n + (c - 48), by omega, by simp; omega, rfl, by omega, by omega, HP.out (c - 48) (by omega) (by omega), ?_, ?_⟩
              · show _ = _
                rw [HAcc.out, ← hst.out, HG.out]
              · show ∀ j, _
                intro j h1 h2 h3
                by_cases hj : j = 2 + k
                · subst hj; rw [Hc.out]; exact HV
                · exact hall.out j h1 (by omega) h3
        · have cl : decide ((2 : Int) + (k : Int) < (s.size : Int)) = false := decide_eq_false (by omega)
          have HG : Hid (G k = 0) := (by rw [HDg.out, if_neg hlt] : G k = _)
          go_wp2
          go_round
          case measure => simp [intOf]; omega
          case rel =>
            refine ⟨k + 1, 10 * n, by omega, by simp; omega, by simp, by omega, by omega, (by have := HP.out 0 (by omega) (by omega); simpa using this : 10 * n < 10 ^ (k + 1)), ?_, ?_⟩
            · show _ = _
              rw [HAcc.out, ← hst.out, HG.out]; simp
            · show ∀ j, _
              intro j h1 h2 h3
              exact hall.out j h1 (by omega) h3
      · obtain rfl : k = 3 := by omega
        have HE := HEnd.out (fun j h1 h2 => hall.out j h1 (by omega) h2)
        rw [HO.out, ← hst.out] at HE
        have HE' : Hid (Q = _) := HE
        clear HE HEnd HBad HAcc HDg HA0
        have g2 : decide ((1000 : Int) < n) = false := decide_eq_false (by omega)
        rcases (show n = 0 ∨ 0 < n by omega) with hn | hn
        · subst hn
          have g1 : decide ((1000 : Int) < 0 + 1000) = false := decide_eq_false (by omega)
          go_wp2
          go_ret2
          rw [HE'.out]
          first
            | (rw [if_neg (by first | (simp; done) | (simp; omega))]; exact ⟨by simp, rfl⟩)
            | (rw [if_neg (by first | (simp; done) | (simp; omega))]; exact ⟨by simp [Int.add_comm], rfl⟩)
        · have g1 : decide ((1000 : Int) < n + 1000) = true := decide_eq_true (by omega)
          go_wp2
          go_ret2
          rw [HE'.out]
          first
            | (rw [if_neg (by first | (simp; done) | (simp; omega))]; exact ⟨by simp, rfl⟩)
            | (rw [if_pos (by simp; omega)]; exact ⟨rfl, rfl⟩)

end Ac
end Go.Proofs.YthfckgdaencagaaGreatDoor
