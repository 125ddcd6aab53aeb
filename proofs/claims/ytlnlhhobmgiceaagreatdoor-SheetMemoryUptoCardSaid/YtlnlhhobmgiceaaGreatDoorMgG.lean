/- Several texts as one. -/
import Derived.Test.YtlnlhhobmgiceaaGreatDoorMgC
import Derived.Lib.SlTrimSet
import Derived.Lib.IndexBytes
import Derived.Test.YtlnlhhobmgiceaaGreatDoorMgD
/-
  Texts without the blanks around.
-/
set_option linter.unusedVariables false
set_option linter.unusedSimpArgs false
namespace Go.Proofs.YtlnlhhobmgiceaaGreatDoor
open Go.RowKit
namespace Oc

def trimL (l : List UInt8) : List UInt8 := l.dropWhile blankB
def trimR (l : List UInt8) : List UInt8 := (l.reverse.dropWhile blankB).reverse
def trim (l : List UInt8) : List UInt8 := trimR (trimL l)

theorem trimL_cons (x : UInt8) (l : List UInt8) : trimL (x :: l) = if blankB x then trimL l else x :: l := by
  unfold trimL; rw [List.dropWhile_cons]
theorem trimR_snoc (l : List UInt8) (x : UInt8) : trimR (l ++ [x]) = if blankB x then trimR l else l ++ [x] := by
  unfold trimR
  rw [List.reverse_append]
  show (List.dropWhile blankB (x :: l.reverse)).reverse = _
  rw [List.dropWhile_cons]
  split
  · rfl
  · simp
theorem trimR_nil : trimR [] = [] := rfl
theorem trimR_blank : ∀ l : List UInt8, l.all blankB = true → trimR l = [] := by
  intro l h
  unfold trimR
  have : List.dropWhile blankB l.reverse = [] := by
    have e : List.dropWhile blankB (l.reverse ++ []) = List.dropWhile blankB [] := List.dropWhile_append_of_pos (fun y hy => List.all_eq_true.1 h y (by simpa using hy))
    simpa using e
  rw [this]; rfl
theorem dropWhile_append_right (p : UInt8 → Bool) : ∀ (a b : List UInt8), a.all p = false → (a ++ b).dropWhile p = a.dropWhile p ++ b
  | [], b, h => by simp at h
  | x :: a, b, h => by
    rw [List.cons_append, List.dropWhile_cons, List.dropWhile_cons]
    cases hx : p x with
    | true =>
      have : a.all p = false := by simpa [hx] using h
      simp only [if_true]
      exact dropWhile_append_right p a b this
    | false => simp
theorem trimR_cons (x : UInt8) (l : List UInt8) : trimR (x :: l) = if l.all blankB then (if blankB x then [] else [x]) else x :: trimR l := by
  unfold trimR
  rw [List.reverse_cons]
  by_cases h : l.all blankB = true
  · rw [if_pos h]
    have e : List.dropWhile blankB (l.reverse ++ [x]) = List.dropWhile blankB [x] := List.dropWhile_append_of_pos (fun y hy => List.all_eq_true.1 h y (by simpa using hy))
    rw [e, List.dropWhile_cons]
    split <;> rfl
  · rw [if_neg h]
    have h' : l.reverse.all blankB = false := by
      rw [List.all_reverse]
      simpa using h
    rw [dropWhile_append_right blankB _ _ h']
    simp
theorem trim_comm : ∀ l : List UInt8, trimL (trimR l) = trimR (trimL l)
  | [] => rfl
  | x :: l => by
    have ih := trim_comm l
    rw [trimL_cons, trimR_cons]
    cases hx : blankB x with
    | true =>
      rw [if_pos rfl]
      by_cases h : l.all blankB = true
      · rw [if_pos h, if_pos rfl, ← ih, trimR_blank l h]
      · rw [if_neg h, trimL_cons, hx, if_pos rfl]
        exact ih
    | false =>
      rw [if_neg (show ¬ (false = true) by simp), if_neg (show ¬ (false = true) by simp), trimR_cons, hx, if_neg (show ¬ (false = true) by simp)]
      by_cases h : l.all blankB = true
      · rw [if_pos h, trimL_cons, hx, if_neg (by simp)]
      · rw [if_neg h, trimL_cons, hx, if_neg (by simp)]
theorem blank_set (c : UInt8) : ([32, 9] : List UInt8).contains c = blankB c := by
  have := c.toNat_lt
  unfold blankB blankI
  rw [Bool.eq_iff_iff, decide_eq_true_iff]
  simp only [List.contains_cons, List.contains_nil, Bool.or_false, Bool.or_eq_true, beq_iff_eq]
  constructor
  · rintro (rfl | rfl)
    · exact .inl rfl
    · exact .inr rfl
  · rintro (h | h)
    · exact .inl (UInt8.toNat_inj.1 (by show c.toNat = 32; omega))
    · exact .inr (UInt8.toNat_inj.1 (by show c.toNat = 9; omega))
theorem trimS_eq (l : List UInt8) : Lib.trimS l [32, 9] = trim l := by
  have e : (fun c => ([32, 9] : List UInt8).contains c) = blankB := funext blank_set
  unfold Lib.trimS Lib.trimLeftS Lib.trimRightS
  rw [e]
  exact trim_comm l
theorem trimLeftS_eq (l : List UInt8) : Lib.trimLeftS l [32, 9] = trimL l := by
  have e : (fun c => ([32, 9] : List UInt8).contains c) = blankB := funext blank_set
  unfold Lib.trimLeftS
  rw [e]
  rfl
theorem dropWhile_le (p : UInt8 → Bool) : ∀ l : List UInt8, (l.dropWhile p).length ≤ l.length
  | [] => Nat.le_refl _
  | x :: l => by
    rw [List.dropWhile_cons]
    split
    · have := dropWhile_le p l
      simp
      omega
    · exact Nat.le_refl _
theorem trimL_le (l : List UInt8) : (trimL l).length ≤ l.length := dropWhile_le _ _
theorem trimR_le (l : List UInt8) : (trimR l).length ≤ l.length := by
  unfold trimR
  rw [List.length_reverse]
  have := dropWhile_le blankB l.reverse
  simpa using this
theorem trim_le (l : List UInt8) : (trim l).length ≤ l.length := Nat.le_trans (trimR_le _) (trimL_le _)

def strLenV : Value → Nat | .string t => t.size | _ => 0

theorem cons_of {t : ByteArray} (h : ¬ t.size = 0) : t.data.toList = t.data.toList.getD 0 0 :: t.data.toList.drop 1 := by
  cases e : t.data.toList with
  | nil => exact absurd e (list_ne h)
  | cons a l => rfl
theorem snoc_of {t : ByteArray} (h : ¬ t.size = 0) : t.data.toList = t.data.toList.take (t.size - 1) ++ [t.data.toList.getD (t.size - 1) 0] := by
  have := take_snoc t (t.size - 1) (by omega)
  rw [show t.size - 1 + 1 = t.size by omega, List.take_of_length_le (by simp)] at this
  exact this
theorem tail_list (t : ByteArray) : (t.extract 1 t.size).data.toList = t.data.toList.drop 1 := Lib.extract_to_end t 1
theorem init_list (t : ByteArray) : (t.extract 0 (t.size - 1)).data.toList = t.data.toList.take (t.size - 1) := by rw [Lib.extract_data]; simp

set_option maxRecDepth 100000 in
set_option maxHeartbeats 400000 in
theorem rTrim_any (s : ByteArray) (hs : s.size ≤ maxLen) (w : World) :
    Calls Tryz.prog 16 #[.string s] w fun e w' => e = .returned (.string (str (trim s.data.toList))) ∧ w' = w := by
  unfold maxLen at hs
  go_enter Tryz.func16, Tryz.ntmps16
  go_wp2
  go_loop [0] (fun v => ∃ t : ByteArray, v = .string t ∧ t.size ≤ s.size ∧ Hid (trimL t.data.toList = trimL s.data.toList)) (fun v => strLenV v)
  case atStart => exact ⟨s, rfl, Nat.le_refl _, rfl⟩
  case round =>
    obtain ⟨t, rfl, hle, hst⟩ := hrel
    have out : ∀ t : ByteArray, trimL t.data.toList = t.data.toList → trimL t.data.toList = trimL s.data.toList → trim s.data.toList = trimR t.data.toList := by
      intro t h1 h2
      unfold trim
      rw [← h2, h1]
    by_cases hz : t.size = 0
    · have he := empty_of hz
      have HE : Hid (trim s.data.toList = trimR t.data.toList) := out t (by rw [List.length_eq_zero_iff.1 ((size_list t).trans hz)]; rfl) hst.out
      clear out hz
      go_wp2
      go_loop [0] (fun v => ∃ u : ByteArray, v = .string u ∧ u.size ≤ s.size ∧ Hid (trimR u.data.toList = trim s.data.toList)) (fun v => strLenV v)
      case atStart => exact ⟨t, rfl, hle, HE.out.symm⟩
      case round =>
        clear hst hle HE
        obtain ⟨u, rfl, hle, hst⟩ := hrel
        by_cases hz : u.size = 0
        · have he := empty_of hz
          have HE : Hid (u = str (trim s.data.toList)) := by
            have e := List.length_eq_zero_iff.1 ((size_list u).trans hz)
            have h := hst.out
            rw [e] at h
            show u = _
            rw [← h, ← str_self u, e]
            rfl
          clear hz
          go_wp2
          go_ret
          exact ⟨ret_string HE.out, rfl⟩
        · have he := nonempty_of hz
          have hby : ((u[u.size - 1].toNat : Nat) : Int) = byt u (u.size - 1) := byt_at u (u.size - 1) (by omega)
          have hpos : 0 < u.size := by omega
          have hcast : ((u.size : Int) - 1) = ((u.size - 1 : Nat) : Int) := by omega
          obtain ⟨b0, b1⟩ := byt_bd u (u.size - 1)
          have HS := snoc_of hz
          have HR : Hid (trimR u.data.toList = if blankB (u.data.toList.getD (u.size - 1) 0) then trimR (u.data.toList.take (u.size - 1)) else u.data.toList) := by
            show trimR u.data.toList = _
            conv => lhs; rw [HS]
            rw [trimR_snoc, ← HS]
          clear HS
          cases hb : blankI (byt u (u.size - 1)) with
          | true =>
            have HI : Hid (trimR (u.extract 0 (u.size - 1)).data.toList = trim s.data.toList) := by
              show trimR _ = _
              have h := HR.out
              rw [show blankB (u.data.toList.getD (u.size - 1) 0) = true from hb, if_pos rfl, hst.out] at h
              rw [init_list]
              exact h.symm
            go_wp2_with (go_at_call 41; refine (IsBlank_any _ (by omega) (by omega) _).mono ?_; rintro e w' ⟨rfl, rfl⟩)
            go_round
            case rel => exact ⟨u.extract 0 (u.size - 1), rfl, by simp; omega, HI⟩
            case measure => simp [strLenV]; omega
          | false =>
            have HE : Hid (u = str (trim s.data.toList)) := by
              have h := HR.out
              rw [show blankB (u.data.toList.getD (u.size - 1) 0) = false from hb, if_neg (by simp), hst.out] at h
              show u = _
              rw [h, str_self]
            go_wp2_with (go_at_call 41; refine (IsBlank_any _ (by omega) (by omega) _).mono ?_; rintro e w' ⟨rfl, rfl⟩)
            go_ret
            exact ⟨ret_string HE.out, rfl⟩
    · have he := nonempty_of hz
      have hby : ((t[0].toNat : Nat) : Int) = byt t 0 := byt_at t 0 (by omega)
      have hpos : 0 < t.size := by omega
      obtain ⟨b0, b1⟩ := byt_bd t 0
      have HS := cons_of hz
      have HL : Hid (trimL t.data.toList = if blankB (t.data.toList.getD 0 0) then trimL (t.data.toList.drop 1) else t.data.toList) := by
        show trimL t.data.toList = _
        conv => lhs; rw [HS]
        rw [trimL_cons, ← HS]
      clear HS
      cases hb : blankI (byt t 0) with
      | true =>
        have HI : Hid (trimL (t.extract 1 t.size).data.toList = trimL s.data.toList) := by
          show trimL _ = _
          have h := HL.out
          rw [show blankB (t.data.toList.getD 0 0) = true from hb, if_pos rfl, hst.out] at h
          rw [tail_list]
          exact h.symm
        clear out
        go_wp2_with (go_at_call 41; refine (IsBlank_any _ (by omega) (by omega) _).mono ?_; rintro e w' ⟨rfl, rfl⟩)
        go_round
        case rel => exact ⟨t.extract 1 t.size, rfl, by simp; omega, HI⟩
        case measure => simp [strLenV]; omega
      | false =>
        have HE : Hid (trim s.data.toList = trimR t.data.toList) := out t (by
          have h := HL.out
          rwa [show blankB (t.data.toList.getD 0 0) = false from hb, if_neg (by simp)] at h) hst.out
        clear out
        go_wp2_with (go_at_call 41; refine (IsBlank_any _ (by omega) (by omega) _).mono ?_; rintro e w' ⟨rfl, rfl⟩)
        clear hby hpos HL hb he hz
        go_loop [0] (fun v => ∃ u : ByteArray, v = .string u ∧ u.size ≤ s.size ∧ Hid (trimR u.data.toList = trim s.data.toList)) (fun v => strLenV v)
        case atStart => exact ⟨t, rfl, hle, HE.out.symm⟩
        case round =>
          clear hst hle HE
          obtain ⟨u, rfl, hle, hst⟩ := hrel
          by_cases hz : u.size = 0
          · have he := empty_of hz
            have HE : Hid (u = str (trim s.data.toList)) := by
              have e := List.length_eq_zero_iff.1 ((size_list u).trans hz)
              have h := hst.out
              rw [e] at h
              show u = _
              rw [← h, ← str_self u, e]
              rfl
            clear hz
            go_wp2
            go_ret
            exact ⟨ret_string HE.out, rfl⟩
          · have he := nonempty_of hz
            have hby : ((u[u.size - 1].toNat : Nat) : Int) = byt u (u.size - 1) := byt_at u (u.size - 1) (by omega)
            have hpos : 0 < u.size := by omega
            have hcast : ((u.size : Int) - 1) = ((u.size - 1 : Nat) : Int) := by omega
            obtain ⟨b0, b1⟩ := byt_bd u (u.size - 1)
            have HS := snoc_of hz
            have HR : Hid (trimR u.data.toList = if blankB (u.data.toList.getD (u.size - 1) 0) then trimR (u.data.toList.take (u.size - 1)) else u.data.toList) := by
              show trimR u.data.toList = _
              conv => lhs; rw [HS]
              rw [trimR_snoc, ← HS]
            clear HS
            cases hb : blankI (byt u (u.size - 1)) with
            | true =>
              have HI : Hid (trimR (u.extract 0 (u.size - 1)).data.toList = trim s.data.toList) := by
                show trimR _ = _
                have h := HR.out
                rw [show blankB (u.data.toList.getD (u.size - 1) 0) = true from hb, if_pos rfl, hst.out] at h
                rw [init_list]
                exact h.symm
              go_wp2_with (go_at_call 41; refine (IsBlank_any _ (by omega) (by omega) _).mono ?_; rintro e w' ⟨rfl, rfl⟩)
              go_round
              case rel => exact ⟨u.extract 0 (u.size - 1), rfl, by simp; omega, HI⟩
              case measure => simp [strLenV]; omega
            | false =>
              have HE : Hid (u = str (trim s.data.toList)) := by
                have h := HR.out
                rw [show blankB (u.data.toList.getD (u.size - 1) 0) = false from hb, if_neg (by simp), hst.out] at h
                show u = _
                rw [h, str_self]
              go_wp2_with (go_at_call 41; refine (IsBlank_any _ (by omega) (by omega) _).mono ?_; rintro e w' ⟨rfl, rfl⟩)
              go_ret
              exact ⟨ret_string HE.out, rfl⟩

end Oc
end Go.Proofs.YtlnlhhobmgiceaaGreatDoor

/-
  octet.Trim, by strings.Trim.
-/
set_option linter.unusedVariables false
set_option linter.unusedSimpArgs false
namespace Go.Proofs.YtlnlhhobmgiceaaGreatDoor
open Go.RowKit Go.Shelf Go.Lib
namespace Oc

set_option maxHeartbeats 1000000 in
theorem Trim_any (s : ByteArray) (hs : s.size ≤ maxLen) (w : World) :
    Calls Tryz.prog 27 #[.string s] w fun e w' => e = .returned (.string (str (trim s.data.toList))) ∧ Below w.heap.size w w' := by
  have hcon := Any.strings_Trim_laid Tryz.lays160 (by kernel_rfl) s ⟨#[32, 9]⟩ w hs (by decide) (ascii_of_all (by decide))
  change Calls Tryz.prog 60 _ _ (fun e w' => e = .returned (.string ⟨(Lib.trimS s.data.toList [32, 9]).toArray⟩) ∧ Below w.heap.size w w') at hcon
  rw [trimS_eq] at hcon
  change Calls Tryz.prog 60 _ _ (fun e w' => e = .returned (.string (str (trim s.data.toList))) ∧ Below w.heap.size w w') at hcon
  generalize str (trim s.data.toList) = r at hcon ⊢
  have HC : Hid (Calls Tryz.prog 60 #[.string s, .string ⟨#[32, 9]⟩] w (fun e w' => e = .returned (.string r) ∧ Below w.heap.size w w')) := hcon
  clear hcon
  go_enter Tryz.func27, Tryz.ntmps27
  go_wp2_with fail
  refine HC.out.mono ?_
  rintro e w' ⟨rfl, hB⟩
  go_wp2
  go_ret
  exact ⟨rfl, hB⟩

end Oc
end Go.Proofs.YtlnlhhobmgiceaaGreatDoor
