/- Several texts as one. -/
import Derived.Test.YtlnlhhobmgiceaaGreatDoorMgC
import Derived.Lib.SlTrimSet
import Derived.Lib.IndexBytes
import Derived.Shelf.Strings.Builder1
/-
  Texts without the blanks around.
-/
set_option linter.unusedVariables false
set_option linter.unusedSimpArgs false
namespace Go.Proofs.YtlnlhhobmgiceaaGreatDoor
open Go.RowKit
namespace Oc

def trimL (l : List UInt8) : List UInt8 := l.dropWhile blankB
def trimR (l : List UInt8) : List UInt8 := (l.reverse.dropWhile blankB).reverse
def trim (l : List UInt8) : List UInt8 := trimR (trimL l)

theorem trimL_cons (x : UInt8) (l : List UInt8) : trimL (x :: l) = if blankB x then trimL l else x :: l := by
  unfold trimL; rw [List.dropWhile_cons]
theorem trimR_snoc (l : List UInt8) (x : UInt8) : trimR (l ++ [x]) = if blankB x then trimR l else l ++ [x] := by
  unfold trimR
  rw [List.reverse_append]
  show (List.dropWhile blankB (x :: l.reverse)).reverse = _
  rw [List.dropWhile_cons]
  split
  · rfl
  · simp
theorem trimR_nil : trimR [] = [] := rfl
theorem trimR_blank : ∀ l : List UInt8, l.all blankB = true → trimR l = [] := by
  intro l h
  unfold trimR
  have : List.dropWhile blankB l.reverse = [] := by
    have e : List.dropWhile blankB (l.reverse ++ []) = List.dropWhile blankB [] := List.dropWhile_append_of_pos (fun y hy => List.all_eq_true.1 h y (by simpa using hy))
    simpa using e
  rw [this]; rfl
theorem dropWhile_append_right (p : UInt8 → Bool) : ∀ (a b : List UInt8), a.all p = false → (a ++ b).dropWhile p = a.dropWhile p ++ b
  | [], b, h => by simp at h
  | x :: a, b, h => by
    rw [List.cons_append, List.dropWhile_cons, List.dropWhile_cons]
    cases hx : p x with
    | true =>
      have : a.all p = false := by simpa [hx] using h
      simp only [if_true]
      exact dropWhile_append_right p a b this
    | false => simp
theorem trimR_cons (x : UInt8) (l : List UInt8) : trimR (x :: l) = if l.all blankB then (if blankB x then [] else [x]) else x :: trimR l := by
  unfold trimR
  rw [List.reverse_cons]
  by_cases h : l.all blankB = true
  · rw [if_pos h]
    have e : List.dropWhile blankB (l.reverse ++ [x]) = List.dropWhile blankB [x] := List.dropWhile_append_of_pos (fun y hy => List.all_eq_true.1 h y (by simpa using hy))
    rw [e, List.dropWhile_cons]
    split <;> rfl
  · rw [if_neg h]
    have h' : l.reverse.all blankB = false := by
      rw [List.all_reverse]
      simpa using h
    rw [dropWhile_append_right blankB _ _ h']
    simp
theorem trim_comm : ∀ l : List UInt8, trimL (trimR l) = trimR (trimL l)
  | [] => rfl
  | x :: l => by
    have ih := trim_comm l
    rw [trimL_cons, trimR_cons]
    cases hx : blankB x with
    | true =>
      rw [if_pos rfl]
      by_cases h : l.all blankB = true
      · rw [if_pos h, if_pos rfl, ← ih, trimR_blank l h]
      · rw [if_neg h, trimL_cons, hx, if_pos rfl]
        exact ih
    | false =>
      rw [if_neg (show ¬ (false = true) by simp), if_neg (show ¬ (false = true) by simp), trimR_cons, hx, if_neg (show ¬ (false = true) by simp)]
      by_cases h : l.all blankB = true
      · rw [if_pos h, trimL_cons, hx, if_neg (by simp)]
      · rw [if_neg h, trimL_cons, hx, if_neg (by simp)]
theorem blank_set (c : UInt8) : ([32, 9] : List UInt8).contains c = blankB c := by
  have := c.toNat_lt
  unfold blankB blankI
  rw [Bool.eq_iff_iff, decide_eq_true_iff]
  simp only [List.contains_cons, List.contains_nil, Bool.or_false, Bool.or_eq_true, beq_iff_eq]
  constructor
  · rintro (rfl | rfl)
    · exact .inl rfl
    · exact .inr rfl
  · rintro (h | h)
    · exact .inl (UInt8.toNat_inj.1 (by show c.toNat = 32; omega))
    · exact .inr (UInt8.toNat_inj.1 (by show c.toNat = 9; omega))
theorem trimS_eq (l : List UInt8) : Lib.trimS l [32, 9] = trim l := by
  have e : (fun c => ([32, 9] : List UInt8).contains c) = blankB := funext blank_set
  unfold Lib.trimS Lib.trimLeftS Lib.trimRightS
  rw [e]
  exact trim_comm l
theorem trimLeftS_eq (l : List UInt8) : Lib.trimLeftS l [32, 9] = trimL l := by
  have e : (fun c => ([32, 9] : List UInt8).contains c) = blankB := funext blank_set
  unfold Lib.trimLeftS
  rw [e]
  rfl
theorem dropWhile_le (p : UInt8 → Bool) : ∀ l : List UInt8, (l.dropWhile p).length ≤ l.length
  | [] => Nat.le_refl _
  | x :: l => by
    rw [List.dropWhile_cons]
    split
    · have := dropWhile_le p l
      simp
      omega
    · exact Nat.le_refl _
theorem trimL_le (l : List UInt8) : (trimL l).length ≤ l.length := dropWhile_le _ _
theorem trimR_le (l : List UInt8) : (trimR l).length ≤ l.length := by
  unfold trimR
  rw [List.length_reverse]
  have := dropWhile_le blankB l.reverse
  simpa using this
theorem trim_le (l : List UInt8) : (trim l).length ≤ l.length := Nat.le_trans (trimR_le _) (trimL_le _)

def strLenV : Value → Nat | .string t => t.size | _ => 0

theorem cons_of {t : ByteArray} (h : ¬ t.size = 0) : t.data.toList = t.data.toList.getD 0 0 :: t.data.toList.drop 1 := by
  cases e : t.data.toList with
  | nil => exact absurd e (list_ne h)
  | cons a l => rfl
theorem snoc_of {t : ByteArray} (h : ¬ t.size = 0) : t.data.toList = t.data.toList.take (t.size - 1) ++ [t.data.toList.getD (t.size - 1) 0] := by
  have := take_snoc t (t.size - 1) (by omega)
  rw [show t.size - 1 + 1 = t.size by omega, List.take_of_length_le (by simp)] at this
  exact this
theorem tail_list (t : ByteArray) : (t.extract 1 t.size).data.toList = t.data.toList.drop 1 := Lib.extract_to_end t 1
theorem init_list (t : ByteArray) : (t.extract 0 (t.size - 1)).data.toList = t.data.toList.take (t.size - 1) := by rw [Lib.extract_data]; simp

set_option maxRecDepth 100000 in
set_option maxHeartbeats 400000 in
theorem rTrim_any (s : ByteArray) (hs : s.size ≤ maxLen) (w : World) :
    Calls Tryz.prog 16 #[.string s] w fun e w' => e = .returned (.string (str (trim s.data.toList))) ∧ w' = w := by
  unfold maxLen at hs
  go_enter Tryz.func16, Tryz.ntmps16
  go_wp2
  go_loop [0] (fun v => ∃ t : ByteArray, v = .string t ∧ t.size ≤ s.size ∧ Hid (trimL t.data.toList = trimL s.data.toList)) (fun v => strLenV v)
  case atStart => exact ⟨s, rfl, Nat.le_refl _, rfl⟩
  case round =>
    obtain ⟨t, rfl, hle, hst⟩ := hrel
    have out : ∀ t : ByteArray, trimL t.data.toList = t.data.toList → trimL t.data.toList = trimL s.data.toList → trim s.data.toList = trimR t.data.toList := by
      intro t h1 h2
      unfold trim
      rw [← h2, h1]
    by_cases hz : t.size = 0
    · have he := empty_of hz
      have HE : Hid (trim s.data.toList = trimR t.data.toList) := out t (by rw [List.length_eq_zero_iff.1 ((size_list t).trans hz)]; rfl) hst.out
      clear out hz
      go_wp2
      go_loop [0] (fun v => ∃ u : ByteArray, v = .string u ∧ u.size ≤ s.size ∧ Hid (trimR u.data.toList = trim s.data.toList)) (fun v => strLenV v)
      case atStart => exact ⟨t, rfl, hle, HE.out.symm⟩
      case round =>
        clear hst hle HE
        obtain ⟨u, rfl, hle, hst⟩ := hrel
        by_cases hz : u.size = 0
        · have he := empty_of hz
          have HE : Hid (u = str (trim s.data.toList)) := by
            have e := List.length_eq_zero_iff.1 ((size_list u).trans hz)
            have h := hst.out
            rw [e] at h
            show u = _
            rw [← h, ← str_self u, e]
            rfl
          clear hz
          go_wp2
          go_ret
          exact ⟨ret_string HE.out, rfl⟩
        · have he := nonempty_of hz
          have hby : ((u[u.size - 1].toNat : Nat) : Int) = byt u (u.size - 1) := byt_at u (u.size - 1) (by omega)
          have hpos : 0 < u.size := by omega
          have hcast : ((u.size : Int) - 1) = ((u.size - 1 : Nat) : Int) := by omega
          obtain ⟨b0, b1⟩ := byt_bd u (u.size - 1)
          have HS := snoc_of hz
          have HR : Hid (trimR u.data.toList = if blankB (u.data.toList.getD (u.size - 1) 0) then trimR (u.data.toList.take (u.size - 1)) else u.data.toList) := by
            show trimR u.data.toList = _
            conv => lhs; rw [HS]
            rw [trimR_snoc, ← HS]
          clear HS
          cases hb : blankI (byt u (u.size - 1)) with
          | true =>
            have HI : Hid (trimR (u.extract 0 (u.size - 1)).data.toList = trim s.data.toList) := by
              show trimR _ = _
              have h := HR.out
              rw [show blankB (u.data.toList.getD (u.size - 1) 0) = true from hb, if_pos rfl, hst.out] at h
              rw [init_list]
              exact h.symm
            go_wp2_with (go_at_call 41; refine (IsBlank_any _ (by omega) (by omega) _).mono ?_; rintro e w' ⟨rfl, rfl⟩)
            go_round
            case rel => exact ⟨u.extract 0 (u.size - 1), rfl, by simp; omega, HI⟩
            case measure => simp [strLenV]; omega
          | false =>
            have HE : Hid (u = str (trim s.data.toList)) := by
              have h := HR.out
              rw [show blankB (u.data.toList.getD (u.size - 1) 0) = false from hb, if_neg (by simp), hst.out] at h
              show u = _
              rw [h, str_self]
            go_wp2_with (go_at_call 41; refine (IsBlank_any _ (by omega) (by omega) _).mono ?_; rintro e w' ⟨rfl, rfl⟩)
            go_ret
            exact ⟨ret_string HE.out, rfl⟩
    · have he := nonempty_of hz
      have hby : ((t[0].toNat : Nat) : Int) = byt t 0 := byt_at t 0 (by omega)
      have hpos : 0 < t.size := by omega
      obtain ⟨b0, b1⟩ := byt_bd t 0
      have HS := cons_of hz
      have HL : Hid (trimL t.data.toList = if blankB (t.data.toList.getD 0 0) then trimL (t.data.toList.drop 1) else t.data.toList) := by
        show trimL t.data.toList = _
        conv => lhs; rw [HS]
        rw [trimL_cons, ← HS]
      clear HS
      cases hb : blankI (byt t 0) with
      | true =>
        have HI : Hid (trimL (t.extract 1 t.size).data.toList = trimL s.data.toList) := by
          show trimL _ = _
          have h := HL.out
          rw [show blankB (t.data.toList.getD 0 0) = true from hb, if_pos rfl, hst.out] at h
          rw [tail_list]
          exact h.symm
        clear out
        go_wp2_with (go_at_call 41; refine (IsBlank_any _ (by omega) (by omega) _).mono ?_; rintro e w' ⟨rfl, rfl⟩)
        go_round
        case rel => exact ⟨t.extract 1 t.size, rfl, by simp; omega, HI⟩
        case measure => simp [strLenV]; omega
      | false =>
        have HE : Hid (trim s.data.toList = trimR t.data.toList) := out t (by
          have h := HL.out
          rwa [show blankB (t.data.toList.getD 0 0) = false from hb, if_neg (by simp)] at h) hst.out
        clear out
        go_wp2_with (go_at_call 41; refine (IsBlank_any _ (by omega) (by omega) _).mono ?_; rintro e w' ⟨rfl, rfl⟩)
        clear hby hpos HL hb he hz
        go_loop [0] (fun v => ∃ u : ByteArray, v = .string u ∧ u.size ≤ s.size ∧ Hid (trimR u.data.toList = trim s.data.toList)) (fun v => strLenV v)
        case atStart => exact ⟨t, rfl, hle, HE.out.symm⟩
        case round =>
          clear hst hle HE
          obtain ⟨u, rfl, hle, hst⟩ := hrel
          by_cases hz : u.size = 0
          · have he := empty_of hz
            have HE : Hid (u = str (trim s.data.toList)) := by
              have e := List.length_eq_zero_iff.1 ((size_list u).trans hz)
              have h := hst.out
              rw [e] at h
              show u = _
              rw [← h, ← str_self u, e]
              rfl
            clear hz
            go_wp2
            go_ret
            exact ⟨ret_string HE.out, rfl⟩
          · have he := nonempty_of hz
            have hby : ((u[u.size - 1].toNat : Nat) : Int) = byt u (u.size - 1) := byt_at u (u.size - 1) (by omega)
            have hpos : 0 < u.size := by omega
            have hcast : ((u.size : Int) - 1) = ((u.size - 1 : Nat) : Int) := by omega
            obtain ⟨b0, b1⟩ := byt_bd u (u.size - 1)
            have HS := snoc_of hz
            have HR : Hid (trimR u.data.toList = if blankB (u.data.toList.getD (u.size - 1) 0) then trimR (u.data.toList.take (u.size - 1)) else u.data.toList) := by
              show trimR u.data.toList = _
              conv => lhs; rw [HS]
              rw [trimR_snoc, ← HS]
            clear HS
            cases hb : blankI (byt u (u.size - 1)) with
            | true =>
              have HI : Hid (trimR (u.extract 0 (u.size - 1)).data.toList = trim s.data.toList) := by
                show trimR _ = _
                have h := HR.out
                rw [show blankB (u.data.toList.getD (u.size - 1) 0) = true from hb, if_pos rfl, hst.out] at h
                rw [init_list]
                exact h.symm
              go_wp2_with (go_at_call 41; refine (IsBlank_any _ (by omega) (by omega) _).mono ?_; rintro e w' ⟨rfl, rfl⟩)
              go_round
              case rel => exact ⟨u.extract 0 (u.size - 1), rfl, by simp; omega, HI⟩
              case measure => simp [strLenV]; omega
            | false =>
              have HE : Hid (u = str (trim s.data.toList)) := by
                have h := HR.out
                rw [show blankB (u.data.toList.getD (u.size - 1) 0) = false from hb, if_neg (by simp), hst.out] at h
                show u = _
                rw [h, str_self]
              go_wp2_with (go_at_call 41; refine (IsBlank_any _ (by omega) (by omega) _).mono ?_; rintro e w' ⟨rfl, rfl⟩)
              go_ret
              exact ⟨ret_string HE.out, rfl⟩

end Oc
end Go.Proofs.YtlnlhhobmgiceaaGreatDoor

/-
  Lists, plainly: over lists of bytes.
-/
set_option linter.unusedVariables false
set_option linter.unusedSimpArgs false
namespace Go.Proofs.YtlnlhhobmgiceaaGreatDoor
namespace Oc

/-- An element that is not empty comes ahead. -/
def addEl (x : List UInt8) (t : List (List UInt8)) : List (List UInt8) := if x = [] then t else x :: t
/-- The elements: what stands since the last comma, and what is left; by fuel. -/
def lgo : Nat → List UInt8 → List UInt8 → Option (List (List UInt8))
  | 0, _, _ => none
  | f + 1, cur, [] => some (addEl (trim cur) [])
  | f + 1, cur, c :: r =>
    if c = 44 then (lgo f [] r).map (addEl (trim cur))
    else if c = 34 then (if qlen (c :: r) = 0 then none else lgo f (cur ++ (c :: r).take (qlen (c :: r))) ((c :: r).drop (qlen (c :: r))))
    else lgo f (cur ++ [c]) r
def lst (cur r : List UInt8) : Option (List (List UInt8)) := lgo (r.length + 1) cur r

theorem lgo_fuel : ∀ (n : Nat) (r : List UInt8) (f : Nat) (cur : List UInt8), r.length ≤ n → r.length < f → lgo f cur r = lst cur r
  | n, [], 0, cur, _, h => by simp at h
  | n, [], f + 1, cur, _, _ => rfl
  | 0, c :: r, f, cur, h, _ => by simp at h
  | n + 1, c :: r, 0, cur, _, h => by simp at h
  | n + 1, c :: r, f + 1, cur, hn, hf => by
    have hl : r.length ≤ n := by simpa using hn
    have hf' : r.length < f := by simpa using hf
    unfold lst
    show lgo (f + 1) cur (c :: r) = lgo (r.length + 1 + 1) cur (c :: r)
    rw [lgo, lgo]
    by_cases h44 : c = 44
    · rw [if_pos h44, if_pos h44, lgo_fuel n r f [] hl hf', lgo_fuel n r (r.length + 1) [] hl (by omega)]
    · rw [if_neg h44, if_neg h44]
      by_cases h34 : c = 34
      · rw [if_pos h34, if_pos h34]
        by_cases hq : qlen (c :: r) = 0
        · rw [if_pos hq, if_pos hq]
        · rw [if_neg hq, if_neg hq]
          have hd : ((c :: r).drop (qlen (c :: r))).length ≤ r.length := by
            rw [List.length_drop]
            simp
            omega
          rw [lgo_fuel n _ f _ (by omega) (by omega), lgo_fuel n _ (r.length + 1) _ (by omega) (by omega)]
      · rw [if_neg h34, if_neg h34, lgo_fuel n r f _ hl hf', lgo_fuel n r (r.length + 1) _ hl (by omega)]

theorem lst_nil (cur : List UInt8) : lst cur [] = some (addEl (trim cur) []) := rfl
theorem lst_comma (cur r : List UInt8) (c : UInt8) (h : c = 44) : lst cur (c :: r) = (lst [] r).map (addEl (trim cur)) := by
  unfold lst
  show lgo (r.length + 1 + 1) cur (c :: r) = _
  rw [lgo, if_pos h]
theorem lst_bad (cur r : List UInt8) (c : UInt8) (h : c = 34) (hq : qlen (c :: r) = 0) : lst cur (c :: r) = none := by
  unfold lst
  show lgo (r.length + 1 + 1) cur (c :: r) = _
  rw [lgo, if_neg (by rw [h]; decide), if_pos h, if_pos hq]
theorem lst_quote (cur r : List UInt8) (c : UInt8) (h : c = 34) (hq : ¬ qlen (c :: r) = 0) : lst cur (c :: r) = lst (cur ++ (c :: r).take (qlen (c :: r))) ((c :: r).drop (qlen (c :: r))) := by
  have hd : ((c :: r).drop (qlen (c :: r))).length ≤ r.length := by
    rw [List.length_drop]
    simp
    omega
  rw [← lgo_fuel ((c :: r).drop (qlen (c :: r))).length _ (r.length + 1) _ (Nat.le_refl _) (by omega)]
  unfold lst
  show lgo (r.length + 1 + 1) cur (c :: r) = _
  rw [lgo, if_neg (by rw [h]; decide), if_pos h, if_neg hq]
theorem lst_on (cur r : List UInt8) (c : UInt8) (h : c ≠ 44) (h2 : c ≠ 34) : lst cur (c :: r) = lst (cur ++ [c]) r := by
  unfold lst
  show lgo (r.length + 1 + 1) cur (c :: r) = _
  rw [lgo, if_neg h, if_neg h2]

/-- What List answers. -/
def listR (l : List UInt8) : List (List UInt8) × Int := match lst [] l with | some t => (t, 0) | none => ([], 14)
theorem listR_some {l : List UInt8} {t : List (List UInt8)} (h : lst [] l = some t) : listR l = (t, 0) := by unfold listR; rw [h]
theorem listR_none {l : List UInt8} (h : lst [] l = none) : listR l = ([], 14) := by unfold listR; rw [h]
theorem addEl_none {x : List UInt8} (h : x = []) (t : List (List UInt8)) : addEl x t = t := by unfold addEl; rw [if_pos h]
theorem addEl_some {x : List UInt8} (h : x ≠ []) (t : List (List UInt8)) : addEl x t = x :: t := by unfold addEl; rw [if_neg h]
theorem addEl_app (x : List UInt8) (t : List (List UInt8)) : addEl x t = addEl x [] ++ t := by unfold addEl; split <;> simp

/-! What follows -/
theorem scan_append : ∀ (l x : List UInt8) (e : Bool) (k : Nat), qscan e l = some k → qscan e (l ++ x) = some k
  | [], x, e, k, h => by simp [qscan] at h
  | c :: l, x, e, k, h => by
    rw [List.cons_append]
    rw [qscan] at h ⊢
    split at h
    · cases h
    · rename_i hf
      rw [if_neg hf]
      split at h
      · rename_i he
        rw [if_pos he]
        obtain ⟨j, hj, rfl⟩ := Option.map_eq_some_iff.1 h
        rw [scan_append l x _ j hj]
        rfl
      · rename_i he
        rw [if_neg he]
        split at h
        · rename_i h92
          rw [if_pos h92]
          obtain ⟨j, hj, rfl⟩ := Option.map_eq_some_iff.1 h
          rw [scan_append l x _ j hj]
          rfl
        · rename_i h92
          rw [if_neg h92]
          split at h
          · rename_i h34
            rw [if_pos h34]
            exact h
          · rename_i h34
            rw [if_neg h34]
            obtain ⟨j, hj, rfl⟩ := Option.map_eq_some_iff.1 h
            rw [scan_append l x _ j hj]
            rfl
theorem qlen_append (l x : List UInt8) (h : ¬ qlen l = 0) : qlen (l ++ x) = qlen l := by
  cases l with
  | nil => exact absurd rfl h
  | cons c l =>
    rw [List.cons_append, qlen_cons, qlen_cons]
    rw [qlen_cons] at h
    by_cases hc : c = 34
    · rw [if_pos hc] at h ⊢
      rw [if_pos hc]
      cases hq : qscan false l with
      | none => rw [hq] at h; exact absurd rfl h
      | some k => rw [scan_append l x false k hq]
    · rw [if_neg hc] at h; exact absurd rfl h

theorem lst_split : ∀ (n : Nat) (a : List UInt8) (cur b : List UInt8) (t : List (List UInt8)), a.length ≤ n → lst cur a = some t → lst cur (a ++ 44 :: b) = (lst [] b).map (t ++ ·)
  | n, [], cur, b, t, _, h => by
    rw [lst_nil] at h
    cases h
    rw [List.nil_append, lst_comma _ _ _ rfl]
    congr 1
    funext x
    exact addEl_app _ x
  | 0, c :: a, cur, b, t, hn, _ => by simp at hn
  | n + 1, c :: a, cur, b, t, hn, h => by
    have hl : a.length ≤ n := by simpa using hn
    rw [List.cons_append]
    by_cases h44 : c = 44
    · rw [lst_comma _ _ _ h44] at h ⊢
      obtain ⟨u, hu, rfl⟩ := Option.map_eq_some_iff.1 h
      rw [lst_split n a [] b u hl hu, Option.map_map]
      congr 1
      funext x
      show addEl _ (u ++ x) = addEl _ u ++ x
      unfold addEl
      split <;> rfl
    · by_cases h34 : c = 34
      · by_cases hq : qlen (c :: a) = 0
        · rw [lst_bad _ _ _ h34 hq] at h; cases h
        · rw [lst_quote _ _ _ h34 hq] at h
          have e := qlen_append (c :: a) (44 :: b) hq
          rw [List.cons_append] at e
          rw [lst_quote _ _ _ h34 (by rw [e]; exact hq), e]
          have hb := qlen_bd (c :: a)
          have e1 : (c :: (a ++ 44 :: b)).take (qlen (c :: a)) = (c :: a).take (qlen (c :: a)) := by
            rw [← List.cons_append, List.take_append_of_le_length hb.1]
          have e2 : (c :: (a ++ 44 :: b)).drop (qlen (c :: a)) = (c :: a).drop (qlen (c :: a)) ++ 44 :: b := by
            rw [← List.cons_append, List.drop_append_of_le_length hb.1]
          rw [e1, e2]
          exact lst_split n _ _ b t (by rw [List.length_drop]; simp; omega) h
      · rw [lst_on _ _ _ h44 h34] at h ⊢
        exact lst_split n a _ b t hl h

theorem trim_blank (l : List UInt8) : trim (32 :: l) = trim l := by
  unfold trim
  rw [trimL_cons, if_pos (by decide)]
theorem lst_blank : ∀ (n : Nat) (r cur : List UInt8), r.length ≤ n → lst (32 :: cur) r = lst cur r
  | n, [], cur, _ => by rw [lst_nil, lst_nil, trim_blank]
  | 0, c :: r, cur, h => by simp at h
  | n + 1, c :: r, cur, h => by
    have hl : r.length ≤ n := by simpa using h
    by_cases h44 : c = 44
    · rw [lst_comma _ _ _ h44, lst_comma _ _ _ h44, trim_blank]
    · by_cases h34 : c = 34
      · by_cases hq : qlen (c :: r) = 0
        · rw [lst_bad _ _ _ h34 hq, lst_bad _ _ _ h34 hq]
        · rw [lst_quote _ _ _ h34 hq, lst_quote _ _ _ h34 hq, List.cons_append]
          exact lst_blank n _ _ (by rw [List.length_drop]; simp; omega)
      · rw [lst_on _ _ _ h44 h34, lst_on _ _ _ h44 h34, List.cons_append]
        exact lst_blank n r _ hl

end Oc
end Go.Proofs.YtlnlhhobmgiceaaGreatDoor

/-
  A strings.Builder of one's own: a byte written. The frame says that rows with a mark (conversions of strings) stay.
-/
set_option linter.unusedVariables false
set_option linter.unusedSimpArgs false
namespace Go.Proofs.YtlnlhhobmgiceaaGreatDoor
open Go.RowKit Go.Shelf
namespace Oc

theorem sizeB : (Tryz.prog.info? 92).map (·.size) = some 2 := by kernel_rfl
theorem liesB : liesAt Tryz.prog Tryz.prog.depth 92 (2 / Tryz.prog.cellsOf 92) 0 92 1 = true := by kernel_rfl

theorem infoByte : (Tryz.prog.info? 5).map (fun i => (i.zero, i.size, i.bytes)) = some (some (.int .u8 0), 1, 1) := by kernel_rfl

/-- Rows with a mark stay as they are. -/
def Marked (w w' : World) : Prop := ∀ (k : Nat) (C : Array Value) (t : TypeId) (m : Nat × Nat), w.heap[k]? = some (Obj.cells C t m) → m ≠ (0, 0) → w'.heap[k]? = w.heap[k]?
theorem Marked.refl (w : World) : Marked w w := fun _ _ _ _ _ _ => rfl
theorem Marked.trans {a b c : World} (h : Marked a b) (g : Marked b c) : Marked a c := fun k C t m hk hm => by
  have h1 := h k C t m hk hm
  rw [g k C t m (h1.trans hk) hm, h1]

set_option maxHeartbeats 1000000 in
set_option maxRecDepth 100000 in
theorem copyCheck_used (b : Nat) (w : World) (h0 : w.cell? ⟨b, 0, none⟩ = some (.pointer (some ⟨b, 0, none⟩))) :
    Calls Tryz.prog 81 #[.pointer (some ⟨b, 0, none⟩)] w fun e w' => e = .returned (.tuple #[]) ∧ w' = w := by
  obtain ⟨j, hj, _⟩ := Option.map_eq_some_iff.1 sizeB
  go_enter Tryz.func81, Tryz.ntmps81
  go_wp2
  rw [Lib.run_neq_ptr_same w _ Tryz.underlying90 hj]
  go_wp2
  go_end0
  exact ⟨rfl, rfl⟩

set_option maxHeartbeats 1000000 in
set_option maxRecDepth 100000 in
theorem copyCheck_fresh (b : Nat) (w : World) (h0 : w.cell? ⟨b, 0, none⟩ = some (.pointer none)) (hsh : w.shape? b = some (92, 2)) (hfz : w.frozen? ⟨b, 0, none⟩ = false) :
    Calls Tryz.prog 81 #[.pointer (some ⟨b, 0, none⟩)] w fun e w' => e = .returned (.tuple #[]) ∧ w' = w.setCell ⟨b, 0, none⟩ (.pointer (some ⟨b, 0, none⟩)) := by
  obtain ⟨j, hj, hjs⟩ := Option.map_eq_some_iff.1 sizeB
  go_enter Tryz.func81, Tryz.ntmps81
  go_wp2
  rw [Lib.run_to_unsafe w ⟨b, 0, none⟩ Tryz.underlying90 Tryz.underlying143 hj (by rw [hjs]; decide) hsh (Nat.zero_lt_succ 1)]
  simp only [Result.andThen]
  rw [Oper.upon_value]
  go_wp2
  rw [run_callFunc_extern Tryz.func106 (by kernel_rfl) (by kernel_rfl) (by kernel_rfl) (e := Extern.AbiNoEscape.same) (by kernel_rfl)]
  rw [Lib.run_noEscape]
  simp only [Result.andThen]
  rw [Oper.upon_value]
  go_wp2
  rw [Lib.run_from_unsafe w ⟨b, 0, none⟩ Tryz.underlying143 Tryz.underlying90 hj hsh liesB]
  simp only [Result.andThen]
  rw [Oper.upon_value]
  go_wp2
  go_end0
  exact ⟨rfl, rfl⟩

theorem marked_set {w : World} {b j : Nat} {cs : Array Value} {T : TypeId} (hb : w.heap[b]? = some (.cells cs T (0, 0))) (v : Value) : Marked w (w.setCell ⟨b, j, none⟩ v) := by
  intro k C t m hk hm
  refine Below.heap_setCell _ _ _ _ (fun e => ?_)
  have e : k = b := e
  subst e
  rw [hb] at hk
  simp only [Option.some.injEq, Obj.cells.injEq] at hk
  exact hm hk.2.2.symm
theorem marked_grown {w w' : World} {B : Nat} {v : Value} {n : Nat} {xs : List Value} (hg : w.grownBy w' v.ownBlock) (ho : w.ownsRow B 5 1 v n xs) : Marked w w' := by
  intro k C t m hk hm
  have hlt : k < w.heap.size := by
    rcases Nat.lt_or_ge k w.heap.size with h | h
    · exact h
    · simp [Array.getElem?_eq_none h] at hk
  refine hg.block k hlt (fun e => ?_)
  rcases ho.2 with ⟨rfl, _⟩ | ⟨g, cap, cur, rfl, _, hgg, _⟩
  · simp [Value.ownBlock] at e
  · simp only [Value.ownBlock, Option.some.injEq] at e
    subst e
    rw [hgg] at hk
    simp only [Option.some.injEq, Obj.cells.injEq] at hk
    exact hm hk.2.2.symm
theorem marked_alloc (w : World) (o : Obj) : Marked w (w.alloc o) := by
  intro k C t m hk hm
  have hlt : k < w.heap.size := by
    rcases Nat.lt_or_ge k w.heap.size with h | h
    · exact h
    · simp [Array.getElem?_eq_none h] at hk
  exact Lib.alloc_old w o k hlt

theorem copyCheck_any (B b : Nat) (bs : List Value) (w : World) (h : Lib.IsBuilder 92 5 B b bs w) :
    Calls Tryz.prog 81 #[.pointer (some ⟨b, 0, none⟩)] w fun e w' => e = .returned (.tuple #[]) ∧ (Lib.BuilderAt 92 5 B b (.pointer (some ⟨b, 0, none⟩)) bs w' ∧ Below B w w' ∧ Marked w w') := by
  rcases h with h | h
  · refine (copyCheck_fresh b w h.cell0 h.shape h.frozen0).mono ?_
    rintro e w' ⟨rfl, rfl⟩
    refine ⟨rfl, h.used _, (Below.refl B w).setCell (p := ⟨b, 0, none⟩) h.1 _, ?_⟩
    obtain ⟨_, v, hb, _⟩ := h
    exact marked_set hb _
  · refine (copyCheck_used b w h.cell0).mono ?_
    rintro e w' ⟨rfl, rfl⟩
    exact ⟨rfl, h, Below.refl B _, Marked.refl _⟩

set_option maxHeartbeats 2000000 in
set_option maxRecDepth 100000 in
theorem WriteByte_any (B b : Nat) (bs : List Value) (c : Int) (w : World) (h : Lib.IsBuilder 92 5 B b bs w) (hlen : bs.length + 1 ≤ 140737488355328) (hBw : B ≤ w.heap.size) :
    Calls Tryz.prog 51 #[.pointer (some ⟨b, 0, none⟩), .int .u8 c] w fun e w' => e = .returned .nilIface ∧ (Lib.BuilderAt 92 5 B b (.pointer (some ⟨b, 0, none⟩)) (bs ++ [.int .u8 c]) w' ∧ Below B w w' ∧ Marked w w') := by
  obtain ⟨i0, hi, hz0, hz1, hz2⟩ := info_parts infoByte
  go_enter Tryz.func51, Tryz.ntmps51
  go_wp2_with fail
  refine (copyCheck_any B b bs _ h).mono ?_
  rintro e w1 ⟨rfl, h1, hb1, hm1⟩
  obtain ⟨hB, v, hbk, hown, hne⟩ := h1
  have c0 : w1.cell? ⟨b, 0, none⟩ = some (.pointer (some ⟨b, 0, none⟩)) := by rw [Lib.cell_of_heap hbk]; rfl
  have c1 : w1.cell? ⟨b, 1, none⟩ = some v := by rw [Lib.cell_of_heap hbk]; rfl
  have HM1 : Hid (Marked w w1) := hm1
  clear hm1
  go_wp2_with (at_builtin; refine wpList_append_own _ rfl _ _ 78 rfl B 5 i0 (.int .u8 0) 1 1 Tryz.underlying78 hi hz0 hz1 hz2 rfl (by decide) _ _ _ rfl (hown.alloc _) ⟨w1.heap.size, 0, none⟩ 1 1 [.int .u8 c] rfl rfl ?c1 ?c2 ?c3 ?c4 ?c5 ?_)
  case c1 =>
    intro j u hj
    match j, hj with
    | 0, hj => simp at hj; subst hj; simp [Addr.add]
  case c2 => intro u hu; simp at hu; subst hu; rfl
  case c3 => unfold maxLen; omega
  case c4 => omega
  case c5 => have := hb1.size; simp; omega
  intro v' w2 hown' hgrow _
  have hlt : b < w1.heap.size := by
    rcases Nat.lt_or_ge b w1.heap.size with h' | h'
    · exact h'
    · simp [Array.getElem?_eq_none h'] at hbk
  have hb2 : w2.heap[b]? = some (.cells #[.pointer (some ⟨b, 0, none⟩), v] 92 (0, 0)) := by
    rw [hgrow.block b (by simp; omega) (fun e => hne e.symm), Lib.alloc_old w1 _ b hlt]
    exact hbk
  have d0 : w2.cell? ⟨b, 0, none⟩ = some (.pointer (some ⟨b, 0, none⟩)) := by rw [Lib.cell_of_heap hb2]; rfl
  have d1 : w2.cell? ⟨b, 1, none⟩ = some v := by rw [Lib.cell_of_heap hb2]; rfl
  have f1 : w2.frozen? ⟨b, 1, none⟩ = false := Lib.frozen_of_heap hb2 1
  obtain ⟨g, cap, rfl⟩ : ∃ g cap, v' = .slice (some ⟨g, 0, none⟩) (bs.length + 1) cap := by
    rcases hown'.2 with ⟨_, h0⟩ | ⟨g, cap, cur, hv, _⟩
    · omega
    · exact ⟨g, cap, hv⟩
  have HM2 : Hid (Marked w w2) := (HM1.out.trans (marked_alloc w1 _)).trans (marked_grown hgrow (hown.alloc _))
  go_wp2
  go_ret
  refine ⟨rfl, ?_, ?_, ?_⟩
  · exact Lib.BuilderAt.put (T := 92) (e := 5) hB hb2 (bs' := bs ++ [.int .u8 c]) (by simpa using hown') (by decide)
  · exact ((hb1.alloc (by have := hb1.size; omega) _).grown hgrow (by have := hb1.size; simp; omega) (fun k hk => (hown.lt k hk).1)).setCell (p := ⟨b, 1, none⟩) hB _
  · exact HM2.out.trans (marked_set hb2 _)

end Oc
end Go.Proofs.YtlnlhhobmgiceaaGreatDoor
