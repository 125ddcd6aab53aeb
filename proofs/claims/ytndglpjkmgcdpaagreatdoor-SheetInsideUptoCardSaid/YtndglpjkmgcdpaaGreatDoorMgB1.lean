/- Several texts as one. -/
import Derived.Test.YtndglpjkmgcdpaaGreatDoorSrU
import Derived.Test.YtndglpjkmgcdpaaGreatDoorMgA1
import Derived.Test.YtndglpjkmgcdpaaGreatDoorMgA
import Derived.Test.YtndglpjkmgcdpaaGreatDoorMgB
import Derived.Test.YtndglpjkmgcdpaaGreatDoorSrX
import Derived.Deep.QuietTactic
/-
  sheet: where a body is taken, each part's bytes stand in it, and none has the mark's line (plain).
-/
set_option linter.unusedVariables false
set_option linter.unusedSimpArgs false
namespace Go.Proofs.YtndglpjkmgcdpaaGreatDoor
open Go.RowKit Go.Shelf
namespace Sr
open Oc Tg Mf

/-- A part's bytes stand in the text with the mark's line behind, which stands in none of them. -/
def Ins (l mk : List UInt8) (p : Pt.P5) : Prop := Lib.contains l (p.b ++ ([13, 10] ++ mk)) = true ∧ Lib.contains p.b ([13, 10] ++ mk) = false
theorem contains_of {l p : List UInt8} {i : Nat} (hp : p ≠ []) (h : Lib.occAt l p i = true) : Lib.contains l p = true := (contains_iff l p hp).2 ⟨i, h⟩
theorem byt_ins (l mk : List UInt8) (f z : Nat) (h : (bytP (l.drop f) mk z).2.1 = none) (x : Pt.P5) : Ins l mk { x with b := (bytP (l.drop f) mk z).1 } := by
  have hs := Lib.index_spec (l.drop f) ([13, 10] ++ mk)
  unfold bytP at h ⊢
  rcases hs with ⟨hi, _⟩ | ⟨i, hi, hil, ho, hn⟩
  · have : (Lib.cut (l.drop f) ([13, 10] ++ mk)).2.2 = false := by unfold Lib.cut; rw [hi]; rfl
    rw [if_neg (by rw [this]; decide)] at h
    cases h
  · have hc : Lib.cut (l.drop f) ([13, 10] ++ mk) = ((l.drop f).take i, (l.drop f).drop (i + ([13, 10] ++ mk).length), true) := by unfold Lib.cut; rw [hi, if_pos (by omega), Int.toNat_natCast]
    rw [hc, if_pos rfl]
    unfold Ins
    dsimp only
    have hpre : ([13, 10] ++ mk) <+: (l.drop f).drop i := List.isPrefixOf_iff_prefix.1 ho
    refine ⟨contains_of (i := f) (by simp) ?_, ?_⟩
    · unfold Lib.occAt
      rw [List.isPrefixOf_iff_prefix]
      obtain ⟨t, ht⟩ := hpre
      exact ⟨t, by rw [List.append_assoc, ht, List.take_append_drop]⟩
    · cases hb : Lib.contains ((l.drop f).take i) ([13, 10] ++ mk) with
      | false => rfl
      | true =>
        obtain ⟨j, hj⟩ := (contains_iff _ _ (by simp)).1 hb
        unfold Lib.occAt at hj
        have hj2 := List.isPrefixOf_iff_prefix.1 hj
        have hlen := hj2.length_le
        rw [List.length_drop, List.length_take] at hlen
        simp only [List.length_append, List.length_cons, List.length_nil] at hlen
        have hji : j < i := by omega
        have hnj := hn j hji
        unfold Lib.occAt at hnj
        have : ([13, 10] ++ mk) <+: (l.drop f).drop j := by
          refine hj2.trans ?_
          rw [List.drop_take]
          exact List.take_prefix _ _
        rw [List.isPrefixOf_iff_prefix.2 this] at hnj
        cases hnj
theorem fldP_err (z : Nat) : ∀ (ls : List (Nat × List UInt8)) (x : Pt.P5) (d t : Bool) (u n : Int), (fldP z ls x d t).2.1 = some (u, n) → n ≠ 0
  | [], _, _, _, u, n, h => by
    unfold fldP at h
    injection h with h
    injection h with _ h
    omega
  | (a, l) :: r, x, d, t, u, n, h => by
    unfold fldP at h
    split at h
    · rename_i k
      injection h with h
      injection h with _ h
      rw [← h]
      exact k
    · split at h
      · cases h
      · exact fldP_err z r _ _ _ u n h
theorem bytP_err (r mk : List UInt8) (z : Nat) (u n : Int) (h : (bytP r mk z).2.1 = some (u, n)) : n ≠ 0 := by
  unfold bytP at h
  split at h
  · cases h
  · injection h with h
    injection h with _ h
    omega
theorem prtP_err (l mk : List UInt8) (a : Nat) (u n : Int) (h : (prtP l mk a).2.1 = some (u, n)) : n ≠ 0 := by
  unfold prtP at h
  split at h
  · exact fldP_err _ _ _ _ _ u n h
  · split at h
    · injection h with h
      injection h with _ h
      omega
    · exact bytP_err _ _ _ u n h
theorem prtP_ins (l mk : List UInt8) (a : Nat) (h : (prtP l mk a).2.1 = none) : Ins l mk (prtP l mk a).1 := by
  unfold prtP at h ⊢
  split
  · rename_i k
    rw [if_pos k] at h
    exact absurd h k
  · rename_i k
    rw [if_neg k] at h
    split
    · rename_i k2
      rw [if_pos k2] at h
      cases h
    · rename_i k2
      rw [if_neg k2] at h
      exact byt_ins l mk _ _ h _
theorem tkP_err (l : List UInt8) (a k : Nat) (last : Bool) (u n : Int) (h : (tkP l a k last).2.1 = some (u, n)) : n ≠ 0 := by
  unfold tkP at h
  split at h
  · cases h
  · split at h
    · cases h
    · split at h
      · injection h with h
        injection h with _ h
        omega
      · injection h with h
        injection h with _ h
        omega
theorem tkP_last (l : List UInt8) (a k : Nat) (last : Bool) (h : (tkP l a k last).1 = true) : last = true := by
  unfold tkP at h
  split at h
  · cases h
  · split at h
    · rename_i k2
      exact k2.1
    · split at h <;> cases h
/-- What is answered is right. -/
def Right (l mk : List UInt8) (most : Nat) (R : List Pt.P5 × Option (Int × Int)) : Prop :=
  (R.2 = none → 1 ≤ R.1.length ∧ R.1.length ≤ most ∧ ∀ p ∈ R.1, Ins l mk p) ∧ (∀ u n, R.2 = some (u, n) → n ≠ 0 ∧ R.1 = [])
theorem prsP_right (l mk : List UInt8) (most : Nat) : ∀ (f : Nat) (ps : List Pt.P5) (a : Nat), a + mk.length ≤ l.length → l.length + 1 ≤ f + a → ps.length ≤ most → (∀ p ∈ ps, Ins l mk p) → Right l mk most (prsP l mk most f ps a)
  | 0, ps, a, h1, h2, _, _ => by omega
  | f + 1, ps, a, h1, h2, h3, h4 => by
    rw [prsP]
    split
    · exact ⟨fun h => (by rename_i k; exact absurd h k), fun u n h => ⟨tkP_err _ _ _ _ u n h, rfl⟩⟩
    · rename_i k1
      have k1' : (tkP l a mk.length (decide (0 < ps.length))).2.1 = none := by simpa using k1
      split
      · rename_i k2
        have := tkP_last _ _ _ _ k2
        exact ⟨fun _ => ⟨Nat.succ_le_of_lt (by simpa using this), h3, h4⟩, fun u n h => (by cases h)⟩
      · rename_i k2
        have k2' : (tkP l a mk.length (decide (0 < ps.length))).1 = false := by simpa using k2
        obtain ⟨t1, t2⟩ := tkP_in l a mk.length _ h1 k1' k2'
        split
        · exact ⟨fun h => (by cases h), fun u n h => (by injection h with h; injection h with _ h; exact ⟨by omega, rfl⟩)⟩
        · rename_i k3
          split
          · exact ⟨fun h => (by rename_i k; exact absurd h k), fun u n h => ⟨prtP_err _ _ _ u n h, rfl⟩⟩
          · rename_i k4
            have k4' : (prtP l mk (tkP l a mk.length (decide (0 < ps.length))).2.2).2.1 = none := by simpa using k4
            have hi := prtP_in l mk _ t2 k4'
            refine prsP_right l mk most f _ _ hi.2 (by omega) (by rw [List.length_append]; simp; omega) ?_
            intro p hp
            rcases List.mem_append.1 hp with hp | hp
            · exact h4 p hp
            · rw [List.mem_singleton.1 hp]
              exact prtP_ins l mk _ k4'
theorem preP_in (l mk : List UInt8) (h : (preP l mk).1 = none) : (preP l mk).2 + mk.length ≤ l.length := by
  unfold preP at h ⊢
  split
  · rename_i k
    have := (List.isPrefixOf_iff_prefix.1 k).length_le
    dsimp only
    omega
  · rename_i k
    rw [if_neg k] at h
    exact bytP_in _ _ _ h
theorem allP_right (l mk : List UInt8) (most : Nat) : Right l mk most (allP l mk most) := by
  unfold allP
  split
  · refine ⟨fun h => (by rename_i k; exact absurd h k), fun u n h => ⟨?_, rfl⟩⟩
    dsimp only at h
    unfold preP at h
    split at h
    · cases h
    · exact bytP_err _ _ _ u n h
  · rename_i k
    have k' : (preP l mk).1 = none := by simpa using k
    exact prsP_right l mk most _ [] _ (preP_in l mk k') (by omega) (by simp) (fun p hp => by cases hp)
theorem parR_ok (b s : List UInt8) (most : Int) (h : (parR b s most).2.2 = 0) : 1 ≤ (parR b s most).1.length ∧ ((parR b s most).1.length : Int) ≤ most ∧ ∀ p ∈ (parR b s most).1, Ins s ([45, 45] ++ b) p := by
  have hr := allP_right s ([45, 45] ++ b) most.toNat
  unfold parR at h ⊢
  split
  · rename_i k
    rw [if_pos k] at h
    cases h
  · rename_i k
    rw [if_neg k] at h
    split
    · rename_i k2
      rw [if_pos k2] at h
      cases h
    · rename_i k2
      rw [if_neg k2] at h
      dsimp only at h ⊢
      generalize allP s ([45, 45] ++ b) most.toNat = A at *
      obtain ⟨ps, er⟩ := A
      cases er with
      | none =>
        obtain ⟨h1, h2, h3⟩ := hr.1 rfl
        dsimp only at h1 h2 h3 ⊢
        exact ⟨h1, by omega, h3⟩
      | some q =>
        obtain ⟨u, n⟩ := q
        exact absurd h (hr.2 u n rfl).1
theorem parR_bad (b s : List UInt8) (most : Int) (h : (parR b s most).2.2 ≠ 0) : (parR b s most).1 = [] := by
  have hr := allP_right s ([45, 45] ++ b) most.toNat
  unfold parR at h ⊢
  split
  · rfl
  · rename_i k
    rw [if_neg k] at h
    split
    · rfl
    · rename_i k2
      rw [if_neg k2] at h
      dsimp only at h ⊢
      generalize allP s ([45, 45] ++ b) most.toNat = A at *
      obtain ⟨ps, er⟩ := A
      cases er with
      | none => exact absurd rfl h
      | some q =>
        obtain ⟨u, n⟩ := q
        exact (hr.2 u n rfl).2

end Sr
end Go.Proofs.YtndglpjkmgcdpaaGreatDoor

/-
  The document's Stands (out of tplsht's MfB).
-/
set_option linter.unusedVariables false
set_option linter.unusedSimpArgs false
namespace Go.Proofs.YtndglpjkmgcdpaaGreatDoor
open Go.RowKit Go.Shelf
namespace Mf
open Oc Tg

theorem ext_list2 (s : ByteArray) (a b : Nat) : (s.extract a b).data.toList = (s.data.toList.drop a).take (b - a) := by
  rw [ByteArray.data_extract, Array.toList_extract, List.extract_eq_take_drop]
theorem occ_ext (b s : ByteArray) (k : Nat) : ((b.extract k (k + s.size)).toList == s.toList) = Lib.occAt b.data.toList s.data.toList k := by
  rw [eq_toList]
  unfold Lib.occAt
  rw [Bool.eq_iff_iff, decide_eq_true_iff, List.isPrefixOf_iff_prefix, List.prefix_iff_eq_take, size_list]
  constructor
  · intro h
    have := congrArg (fun x : ByteArray => x.data.toList) h
    rw [ext_list2, Nat.add_sub_cancel_left] at this
    exact this.symm
  · intro h
    apply eq_list
    rw [ext_list2, Nat.add_sub_cancel_left]
    exact h.symm

set_option maxRecDepth 100000 in
set_option maxHeartbeats 1000000 in
theorem Stands_any (b s : ByteArray) (hb : b.size ≤ 16777216) (h0 : 0 < s.size) (hs : s.size ≤ 16777216) (w : World) :
    Calls Tryz.prog 14 #[.string b, .string s] w fun e w' => e = .returned (.bool (Lib.contains b.data.toList s.data.toList)) ∧ w' = w := by
  have HH : Hid (∀ k, k ≤ b.size → Lib.NoOcc b.data.toList s.data.toList k → Lib.occAt b.data.toList s.data.toList k = true → Lib.contains b.data.toList s.data.toList = true) := fun k hk hn ho => by
    unfold Lib.contains
    rw [Lib.index_hit hn (by rw [size_list]; exact hk) ho]
    simp
  have HP : Hid (∀ k, Lib.NoOcc b.data.toList s.data.toList k → b.size < k + s.size → Lib.contains b.data.toList s.data.toList = false) := fun k hn hk => by
    unfold Lib.contains
    rw [Lib.index_past (by intro e; rw [← size_list, e] at h0; simp at h0) hn (by rw [size_list, size_list]; exact hk)]
    rfl
  have HO : Hid (∀ k, ((b.extract k (k + s.size)).toList == s.toList) = Lib.occAt b.data.toList s.data.toList k) := fun k => occ_ext b s k
  have HSu : Hid (∀ k, Lib.NoOcc b.data.toList s.data.toList k → Lib.occAt b.data.toList s.data.toList k = false → Lib.NoOcc b.data.toList s.data.toList (k + 1)) := fun k hn ho j hj => by
    by_cases e : j = k
    · rw [e]; exact ho
    · exact hn j (by omega)
  generalize Lib.contains b.data.toList s.data.toList = M at *
  go_enter Tryz.func14, Tryz.ntmps14
  go_wp2
  go_loop [5] (fun i => ∃ k : Nat, k ≤ b.size + 1 ∧ i = .int .i64 k ∧ Hid (Lib.NoOcc b.data.toList s.data.toList k)) (fun i => b.size + 1 - (intOf i).toNat)
  case atStart => exact ⟨0, Nat.zero_le _, rfl, Lib.NoOcc.zero _ _⟩
  case round =>
    obtain ⟨k, hk, rfl, hn⟩ := hrel
    by_cases hle : k + s.size ≤ b.size
    · have hle' : (k : Int) + (s.size : Int) ≤ (b.size : Int) := by omega
      have hok := HO.out k
      have HT : Hid (Lib.occAt b.data.toList s.data.toList k = true → M = true) := HH.out k (by omega) hn.out
      have HF : Hid (Lib.occAt b.data.toList s.data.toList k = false → Lib.NoOcc b.data.toList s.data.toList (k + 1)) := HSu.out k hn.out
      generalize Lib.occAt b.data.toList s.data.toList k = o at *
      cases o with
      | true =>
        have hM : Hid (M = true) := HT.out rfl
        clear HT HF
        go_wp2
        go_ret
        rw [hM.out]
        exact ⟨rfl, rfl⟩
      | false =>
        have HN : Hid (Lib.NoOcc b.data.toList s.data.toList (k + 1)) := HF.out rfl
        clear HT HF
        go_wp2
        go_round
        case rel => exact ⟨k + 1, by omega, by go_num, HN⟩
        case measure => simp [intOf]; omega
    · have hM : Hid (M = false) := HP.out k hn.out (by omega)
      have hle' : ¬ (k : Int) + (s.size : Int) ≤ (b.size : Int) := by omega
      go_wp2
      go_ret
      rw [hM.out]
      exact ⟨rfl, rfl⟩

end Mf
end Go.Proofs.YtndglpjkmgcdpaaGreatDoor

/-
  The law SheetInside, walked.
-/
set_option linter.unusedVariables false
set_option linter.unusedSimpArgs false
namespace Go.Proofs.YtndglpjkmgcdpaaGreatDoor
open Go.RowKit Go.Shelf
namespace Sr
open Oc Tg Mf

theorem nthT_mem (t : List Pt.P5) (k : Nat) (h : k < t.length) : Pt.nthT t k ∈ t := by
  unfold Pt.nthT
  rw [List.getD_eq_getElem?_getD, List.getElem?_eq_getElem h]
  exact List.getElem_mem h
theorem prsP_len1 (l mk : List UInt8) (most : Nat) : ∀ (f : Nat) (ps : List Pt.P5) (a : Nat), (prsP l mk most f ps a).1.length ≤ ps.length + f
  | 0, ps, a => by simp [prsP]
  | f + 1, ps, a => by
    rw [prsP]
    split
    · simp
    · split
      · simp
      · split
        · simp
        · split
          · simp
          · have := prsP_len1 l mk most f (ps ++ [(prtP l mk (tkP l a mk.length (decide (0 < ps.length))).2.2).1]) (prtP l mk (tkP l a mk.length (decide (0 < ps.length))).2.2).2.2
            rw [List.length_append] at this
            simp at this
            omega
theorem parR_len1 (b s : List UInt8) (most : Int) : (parR b s most).1.length ≤ s.length + 1 := by
  unfold parR
  split
  · simp
  · split
    · simp
    · dsimp only
      unfold allP
      split
      · simp
      · have := prsP_len1 s ([45, 45] ++ b) most.toNat (s.length + 1) [] (preP s ([45, 45] ++ b)).2
        simp at this
        simpa using this
theorem ins_small {l mk : List UInt8} {p : Pt.P5} (h : Ins l mk p) : p.b.length ≤ l.length := by
  obtain ⟨i, hi⟩ := (contains_iff _ _ (by simp)).1 h.1
  have := (List.isPrefixOf_iff_prefix.1 hi).length_le
  rw [List.length_drop, List.length_append] at this
  omega

theorem stands_ins (b s : ByteArray) (p : Pt.P5) (hb : b.size ≤ 1048576) (hs : s.size ≤ 1048576) (h : Ins s.data.toList ([45, 45] ++ b.data.toList) p) :
    (str p.b).size ≤ 1048576 ∧ (∀ W, Calls Tryz.prog 14 #[.string s, .string (str p.b ++ ⟨#[13, 10, 45, 45]⟩ ++ b)] W fun e w' => e = .returned (.bool true) ∧ w' = W) ∧ (∀ W, Calls Tryz.prog 14 #[.string (str p.b), .string (⟨#[13, 10, 45, 45]⟩ ++ b)] W fun e w' => e = .returned (.bool false) ∧ w' = W) := by
  have h1 := ins_small h
  rw [size_list] at h1
  have hz : (str p.b).size ≤ 1048576 := by rw [str_size]; omega
  have hk : (⟨#[13, 10, 45, 45]⟩ : ByteArray).size = 4 := rfl
  refine ⟨hz, fun W => ?_, fun W => ?_⟩
  · have := Stands_any s (str p.b ++ ⟨#[13, 10, 45, 45]⟩ ++ b) (by omega) (by simp [ByteArray.size_append]; omega) (by simp [ByteArray.size_append]; omega) W
    rw [show (str p.b ++ ⟨#[13, 10, 45, 45]⟩ ++ b).data.toList = p.b ++ ([13, 10] ++ ([45, 45] ++ b.data.toList)) by simp [ByteArray.data_append, str], h.1] at this
    exact this
  · have := Stands_any (str p.b) (⟨#[13, 10, 45, 45]⟩ ++ b) (by omega) (by simp [ByteArray.size_append]; omega) (by simp [ByteArray.size_append]; omega) W
    rw [show ((⟨#[13, 10, 45, 45]⟩ : ByteArray) ++ b).data.toList = [13, 10] ++ ([45, 45] ++ b.data.toList) by simp [ByteArray.data_append], str_list, h.2] at this
    exact this

set_option maxRecDepth 100000 in
set_option maxHeartbeats 1000000 in
theorem walk_SheetInside (b s : ByteArray) (most : Int) (hb : b.size ≤ 1048576) (hs : s.size ≤ 1048576) (hm : most < 9223372036854775808) (w : World) (ht : Tab w) (hml : ML w) (hg : Er.Gw w) :
    Calls Tryz.prog 4 #[.string b, .string s, .int .i64 most] w fun e w' => e = .returned (.bool true) ∧ Below w.heap.size w w' := by
  have HP : Hid (Calls _ _ _ w _) := Parse_any b s most hb (by omega) hm w ht hml ⟨ht, hml⟩ hg
  have HR : Hid (∀ W, Calls _ _ _ W _) := fun W => rParse_any b s most hb (by omega) hm W
  have HA : Hid (∀ W, ML W → Calls _ _ _ W _) := fun W h => awake15_any W h
  have hl := parR_len1 b.data.toList s.data.toList most
  rw [size_list] at hl
  have HM : Hid (ML w) := hml
  have HOk : Hid ((parR b.data.toList s.data.toList most).2.2 = 0 → _) := parR_ok b.data.toList s.data.toList most
  have HBad : Hid ((parR b.data.toList s.data.toList most).2.2 ≠ 0 → _) := parR_bad b.data.toList s.data.toList most
  generalize parR b.data.toList s.data.toList most = R at *
  obtain ⟨ps, r1, r2⟩ := R
  unfold Ans at HR
  dsimp only at HP HR hl HOk HBad
  clear ht hml hg
  by_cases h2 : r2 = 0
  · subst h2
    obtain ⟨hn1, hn2, hin⟩ := HOk.out rfl
    have HIn : Hid (∀ k, k < ps.length → Ins s.data.toList ([45, 45] ++ b.data.toList) (Pt.nthT ps k)) := fun k hk => hin _ (nthT_mem ps k hk)
    clear hin HOk HBad HR
    have c1 : decide ((ps.length : Int) < 1) = false := by simp; omega
    have c2 : decide (most < (ps.length : Int)) = false := by simp; omega
    go_enter Tryz.func4, Tryz.ntmps4
    go_wp2_with fail
    refine HP.out.mono ?_
    rintro e w1 ⟨v1, rfl, o1, k1⟩
    have HB1 : Hid (Below w.heap.size w w1) := k1
    have HR1 : Hid (Pt.RdT v1 ps w1) := o1.rd
    clear o1 k1 HP
    obtain ⟨a1, cp1, rfl, hcell⟩ := HR1.out
    have HC1 : Hid (ps = [] ∨ ∃ g o, a1 = some ⟨g, o, none⟩ ∧ ps.length ≤ cp1 ∧ ∀ j, j < ps.length → Pt.CellT w1 g (o + j * 5) (Pt.nthT ps j)) := hcell
    clear hcell HR1
    have HSt : Hid (∀ k, k < ps.length → (str (Pt.nthT ps k).b).size ≤ 1048576 ∧ (∀ W, Calls Tryz.prog 14 #[.string s, .string (str (Pt.nthT ps k).b ++ ⟨#[13, 10, 45, 45]⟩ ++ b)] W fun e w' => e = .returned (.bool true) ∧ w' = W) ∧ (∀ W, Calls Tryz.prog 14 #[.string (str (Pt.nthT ps k).b), .string (⟨#[13, 10, 45, 45]⟩ ++ b)] W fun e w' => e = .returned (.bool false) ∧ w' = W)) := fun k hk => stands_ins b s _ hb hs (HIn.out k hk)
    clear HIn
    go_wp2
    go_loopw [13] (fun iv wr => ∃ k : Nat, k ≤ ps.length ∧ iv = .int .i64 (k : Int) ∧ Hid (∃ n, wr = w1.drewN n)) (fun iv _ => ps.length - (intOf iv).toNat)
    case atStart => exact ⟨0, Nat.zero_le _, rfl, (⟨0, rfl⟩ : ∃ n, w1 = w1.drewN n)⟩
    case round =>
      obtain ⟨k, hk, rfl, hw⟩ := hrel
      obtain ⟨n, rfl⟩ := hw.out
      clear hw
      by_cases hlt : k < ps.length
      · rcases HC1.out with h | ⟨g1, o1, rfl, hc1, hcell1⟩
        · rw [h] at hlt; simp at hlt
        obtain ⟨p0, p1, p2, p3, p4⟩ := hcell1 k hlt
        obtain ⟨hz, S1, S2⟩ := HSt.out k hlt
        have HS1 : Hid (∀ W, _) := S1
        have HS2 : Hid (∀ W, _) := S2
        clear hcell1 p0 p1 p2 p4 S1 S2
        generalize str (Pt.nthT ps k).b = x3 at *
        obtain ⟨z3, hz3⟩ : ∃ z, x3.size = z := ⟨_, rfl⟩
        obtain ⟨zb, hzb⟩ : ∃ z, b.size = z := ⟨_, rfl⟩
        have a1 : ¬ (9223372036854775807 < z3 + 4) := by omega
        have a2 : ¬ (9223372036854775807 < z3 + 4 + zb) := by omega
        have a3 : ¬ (9223372036854775807 < 4 + zb) := by omega
        have hk4 : (⟨#[13, 10, 45, 45]⟩ : ByteArray).size = 4 := rfl
        clear hb hz
        go_wp2_with fail
        generalize (⟨#[13, 10, 45, 45]⟩ : ByteArray) = K4 at *
        refine (HS1.out _).mono ?_
        rintro e w2 ⟨rfl, hw2⟩
        rw [hw2]
        clear hw2
        go_wp2_with fail
        refine (HS2.out _).mono ?_
        rintro e w2 ⟨rfl, hw2⟩
        rw [hw2]
        clear hw2
        go_wp2
        go_roundw
        case rel => exact ⟨k + 1, by omega, by go_num, (⟨n, rfl⟩ : ∃ m, w1.drewN n = w1.drewN m)⟩
        case measure => simp [intOf]; omega
      · obtain rfl : k = ps.length := by omega
        have HB2 : Hid (Below w.heap.size w (w1.drewN n)) := below_drewN HB1.out _
        go_wp2_with fail
        refine (HA.out _ (HM.out.below HB2.out)).mono ?_
        rintro e w3 ⟨rfl, k3⟩
        have HB3 : Hid (Below w.heap.size w w3) := HB2.out.trans (k3.mono HB2.out.size)
        clear k3 HB2
        go_wp2
        go_ret
        exact ⟨rfl, HB3.out⟩
  · have hps := HBad.out h2
    subst hps
    have c2 : (r2 != 0) = true := by simp [h2]
    clear HOk HBad
    go_enter Tryz.func4, Tryz.ntmps4
    go_wp2_with fail
    refine HP.out.mono ?_
    rintro e w1 ⟨v1, rfl, o1, k1⟩
    have HB1 : Hid (Below w.heap.size w w1) := k1
    have HR1 : Hid (Pt.RdT v1 [] w1) := o1.rd
    clear o1 k1 HP
    obtain ⟨a1, cp1, rfl, hcell⟩ := HR1.out
    clear hcell HR1
    go_wp2_with fail
    refine (HR.out _).mono ?_
    rintro e w2 ⟨v2, rfl, o2, k2⟩
    have HB2 : Hid (Below w.heap.size w w2) := HB1.out.trans (k2.mono HB1.out.size)
    clear o2 k2 HR HB1
    go_wp2_with fail
    refine (HA.out _ (HM.out.below HB2.out)).mono ?_
    rintro e w3 ⟨rfl, k3⟩
    have HB3 : Hid (Below w.heap.size w w3) := HB2.out.trans (k3.mono HB2.out.size)
    clear k3 HB2
    go_wp2
    go_ret
    exact ⟨rfl, HB3.out⟩

end Sr
end Go.Proofs.YtndglpjkmgcdpaaGreatDoor
