/-
  message: the document's Reason.
-/
import Derived.Test.YtcelekfokbdmfaaGreatDoorMgW
import Derived.Deep.RegionHeld3
set_option linter.unusedVariables false
set_option linter.unusedSimpArgs false
set_option maxRecDepth 100000
namespace Go.Proofs.YtcelekfokbdmfaaGreatDoor
open Go.RowKit Go.Shelf
namespace Ms
open Oc Tg _root_.Go.Proofs.YtcelekfokbdmfaaGreatDoor.Fd _root_.Go.Proofs.YtcelekfokbdmfaaGreatDoor.Ck

/-- Where the search stands: behind the entries of some codes, some bytes into the next. -/
structure At12 (n : Int) (f i : Nat) (a : List Int) (c : Int) (b : List Int) : Prop where
  codes : codes = a ++ c :: b
  off : f = (flat a).length
  in' : f ≤ i ∧ i ≤ f + (ent c).length
  none : ∀ k ∈ a, n ≠ k
theorem At12.tab {n : Int} {f i : Nat} {a : List Int} {c : Int} {b : List Int} (h : At12 n f i a c b) : rTab = flat a ++ (ent c ++ (124 :: flat b)) := by
  unfold rTab
  rw [h.codes, flat_app]
  show flat a ++ ((ent c ++ [124]) ++ flat b) = _
  simp
theorem At12.mem {n : Int} {f i : Nat} {a : List Int} {c : Int} {b : List Int} (h : At12 n f i a c b) : c ∈ Ms.codes := by rw [h.codes]; simp
theorem At12.lt {n : Int} {f i : Nat} {a : List Int} {c : Int} {b : List Int} (h : At12 n f i a c b) : f + (ent c).length < 787 := by
  have := congrArg List.length h.tab
  rw [tab_len] at this
  simp only [List.length_append, List.length_cons] at this
  have := h.off
  omega
theorem At12.byte {n : Int} {f i : Nat} {a : List Int} {c : Int} {b : List Int} (h : At12 n f i a c b) : (i < f + (ent c).length → rTab.getD i 0 ≠ 124) ∧ (i = f + (ent c).length → rTab.getD i 0 = 124) := by
  have ho := h.off
  obtain ⟨h1, h2⟩ := h.in'
  rw [h.tab]
  constructor
  · intro hi
    rw [List.getD_eq_getElem?_getD, List.getElem?_append_right (by omega), ← ho, List.getElem?_append_left (by omega)]
    have hlt : i - f < (ent c).length := by omega
    rw [List.getElem?_eq_getElem hlt]
    exact ent_bar c h.mem _ (List.getElem_mem hlt)
  · intro hi
    rw [List.getD_eq_getElem?_getD, List.getElem?_append_right (by omega), ← ho, List.getElem?_append_right (by omega), show i - f - (ent c).length = 0 by omega]
    rfl
theorem At12.cut {n : Int} {f i : Nat} {a : List Int} {c : Int} {b : List Int} (h : At12 n f i a c b) (hi : i = f + (ent c).length) : (rTab.drop f).take 3 = (ent c).take 3 ∧ (rTab.drop (f + 4)).take (i - (f + 4)) = rsL c ∧ f + 4 ≤ i := by
  have ho := h.off
  have el : (ent c).length = 4 + (rsL c).length := by unfold ent; simp; omega
  have hd : rTab.drop f = ent c ++ (124 :: flat b) := by
    rw [h.tab, ho, List.drop_left']
    rfl
  refine ⟨?_, ?_, by omega⟩
  · rw [hd, List.take_append_of_le_length (by omega)]
  · rw [← List.drop_drop, hd, List.drop_append_of_le_length (by omega), show i - (f + 4) = (rsL c).length by omega]
    have : (ent c).drop 4 = rsL c := rfl
    rw [this, List.take_left']
    rfl
theorem At12.next {n : Int} {f i : Nat} {a : List Int} {c c' : Int} {b : List Int} (h : At12 n f i a c (c' :: b)) (hi : i = f + (ent c).length) (hn : n ≠ c) : At12 n (i + 1) (i + 1) (a ++ [c]) c' b := by
  refine ⟨by rw [h.codes]; simp, ?_, ⟨Nat.le_refl _, by omega⟩, ?_⟩
  · rw [flat_app, List.length_append, ← h.off]
    show _ = f + ((ent c ++ [124]) ++ []).length
    simp
    omega
  · intro k hk
    simp at hk
    rcases hk with hk | rfl
    · exact h.none k hk
    · exact hn
theorem At12.last {n : Int} {f i : Nat} {a : List Int} {c : Int} (h : At12 n f i a c []) (hi : i = f + (ent c).length) (hn : n ≠ c) : i + 1 = 787 ∧ ∀ k ∈ Ms.codes, n ≠ k := by
  constructor
  · have := congrArg List.length h.tab
    rw [tab_len] at this
    simp only [List.length_append, List.length_cons] at this
    have h2 := h.off
    have h3 : (flat []).length = 0 := rfl
    omega
  · rw [h.codes]
    intro k hk
    simp at hk
    rcases hk with hk | rfl
    · exact h.none k hk
    · exact hn
theorem At12.first (n : Int) : At12 n 0 0 [] 100 Ms.codes.tail := ⟨rfl, rfl, ⟨Nat.le_refl _, Nat.zero_le _⟩, fun k hk => by cases hk⟩

/-- How the loop stands. -/
def Lp12 (n : Int) (f i : Nat) : Prop := (∃ a c b, At12 n f i a c b) ∨ (i = 787 ∧ ∀ k ∈ codes, n ≠ k)

set_option maxHeartbeats 4000000 in
theorem rReason_any (n : Int) (hn : i64 n) (w : World) :
    Calls Tryz.prog 41 #[.int .i64 n] w fun e w' => e = .returned (.string (str (rsL n))) ∧ Below w.heap.size w w' := by
  obtain ⟨K, hK⟩ : ∃ K : ByteArray, K = str rTab := ⟨_, rfl⟩
  have hKz : K.size = 787 := by rw [hK, str_size, tab_len]
  have hKl : K.data.toList = rTab := by rw [hK, str_list]
  have HDg : Hid (∀ W, Calls Tryz.prog 42 #[.int .i64 n] W fun e w' => e = .returned (.string (str (dgR n))) ∧ Below (World.heap W).size W w') := fun W => rDigits12_any n hn W
  have HKl : Hid (K.data.toList = rTab) := hKl
  have key : ∀ x y : List UInt8, List.append x y = rTab → (⟨(List.append x y).toArray⟩ : ByteArray) = K := fun x y h => by rw [h, hK]; rfl
  have key2 : ∀ x y : List UInt8, x ++ y = rTab → (⟨(x ++ y).toArray⟩ : ByteArray) = K := fun x y h => by rw [h, hK]; rfl
  have HKey : Hid (∀ x y : List UInt8, List.append x y = rTab → (⟨(List.append x y).toArray⟩ : ByteArray) = K) := key
  have HKey2 : Hid (∀ x y : List UInt8, x ++ y = rTab → (⟨(x ++ y).toArray⟩ : ByteArray) = K) := key2
  clear hKl hK key key2
  go_enter Tryz.func41, Tryz.ntmps41
  go_wp2
  first | rw [HKey.out] | rw [HKey2.out] | (go_show; fail "no")
  rotate_left
  · kernel_rfl
  go_loopw [4, 5] (fun fv iv wr => ∃ f i : Nat, fv = .int .i64 (f : Int) ∧ iv = .int .i64 (i : Int) ∧ i ≤ 787 ∧ Hid (Lp12 n f i) ∧ Hid (Below w.heap.size w wr)) (fun _ iv _ => 787 - (intOf iv).toNat)
  case atStart => exact ⟨0, 0, rfl, rfl, by omega, .inl ⟨_, _, _, At12.first n⟩, Below.refl _ _⟩
  case round =>
    obtain ⟨f, i, rfl, rfl, hi, hlp, hb⟩ := hrel
    clear HKey HKey2
    rcases hlp.out with ⟨a, c, b, hA⟩ | ⟨h787, hno⟩
    case inr =>
      have HQ : Hid (rsL n = []) := rsL_none hno
      subst h787
      clear hno hlp
      go_wp2
      go_ret
      exact ⟨by rw [HQ.out]; rfl, hb.out⟩
    have hlt := hA.lt
    have hin := hA.in'
    have hiz : i < K.size := by omega
    have hil : (i : Int) < (787 : Int) := by omega
    have hbyte : (((K[i]'hiz).toNat : Nat) : Int) = ((rTab.getD i 0).toNat : Int) := by
      rw [byt_at K i hiz]
      unfold byt
      rw [HKl.out]
    obtain ⟨hb1, hb2⟩ := hA.byte
    have HA : Hid (At12 n f i a c b) := hA
    clear hlp
    by_cases hend : i < f + (ent c).length
    · have hne := hb1 hend
      have hx : (((rTab.getD i 0).toNat : Int) != 124) = true := by
        simp only [bne_iff_ne, ne_eq]
        intro e
        exact hne (UInt8.toNat_inj.1 (by show (rTab.getD i 0).toNat = 124; omega))
      have HN : Hid (Lp12 n f (i + 1)) := .inl ⟨a, c, b, hA.codes, hA.off, ⟨by omega, by omega⟩, hA.none⟩
      clear hb1 hb2 hne hA hend hlt hin
      generalize ((rTab.getD i 0).toNat : Int) = x at *
      go_wp2
      go_roundw
      case rel => exact ⟨f, i + 1, rfl, by go_num, by omega, HN, hb⟩
      case measure => simp [intOf]; omega
    · have hie : i = f + (ent c).length := by omega
      have hx : (rTab.getD i 0).toNat = 124 := by rw [hb2 hie]; rfl
      rw [hx] at hbyte
      obtain ⟨k1, k2, k3⟩ := hA.cut hie
      have e1 : K.extract f (f + 3) = str ((ent c).take 3) := by
        apply eq_list
        rw [str_list, Lib.extract_data, HKl.out, show f + 3 - f = 3 by omega]
        exact k1
      have e2 : K.extract (f + 4) i = str (rsL c) := by
        apply eq_list
        rw [str_list, Lib.extract_data, HKl.out]
        exact k2
      have hcd := code_is (n := n) hA.mem
      have HNx : Hid (n ≠ c → Lp12 n (i + 1) (i + 1) ∧ i + 1 ≤ 787) := fun hnc => by
        cases hbq : b with
        | nil =>
          rw [hbq] at hA
          obtain ⟨q1, q2⟩ := hA.last hie hnc
          exact ⟨.inr ⟨q1, q2⟩, by omega⟩
        | cons c' b' =>
          rw [hbq] at hA
          exact ⟨.inl ⟨_, _, _, hA.next hie hnc⟩, by omega⟩
      have hf3 : f + 3 ≤ K.size := by omega
      have j1 : (f : Int) + 3 ≤ 787 := by omega
      have j2 : (0 : Int) ≤ (f : Int) + 3 := by omega
      have j3 : ((f : Int) + 3).toNat = f + 3 := by omega
      have j4 : (f : Int) + 4 ≤ (i : Int) := by omega
      have j5 : ((f : Int) + 4).toNat = f + 4 := by omega
      have j6 : (f : Int) ≤ (f : Int) + 3 := by omega
      have j7 : IntKind.i64.wrap ((f : Int) + 3) = (f : Int) + 3 := by rw [IntKind.wrap_i64]; omega
      have HB : Hid (Below w.heap.size w wr.drew) := hb.out.drew
      clear hb1 hb2 hA k1 k2 hx hie hend hin hlt
      have hts : ((str ((ent c).take 3)).toList == (str (dgR n)).toList) = decide (n = c) := by
        rw [ByteArray.toList_eq, ByteArray.toList_eq, str_list, str_list, Bool.eq_iff_iff, beq_iff_eq, decide_eq_true_iff]
        exact hcd
      have HRc : Hid (n = c → str (rsL c) = str (rsL n)) := fun h => by rw [h]
      clear hcd
      generalize str ((ent c).take 3) = X at *
      generalize str (dgR n) = Y at *
      generalize str (rsL c) = Z at *
      generalize hdq : decide (n = c) = d at *
      have HD : Hid (decide (n = c) = d) := hdq
      clear hdq
      go_wp2_with fail
      go_region_law (go_simp; go_at_call 42; refine (HDg.out _).mono ?_; rintro e w2 ⟨rfl, hb2⟩; have HB : Hid (Below w.heap.size w w2) := bel_trans HB.out hb2; clear hb2; dsimp only)
      all_goals
        cases d with
        | true =>
          have hnc : n = c := of_decide_eq_true HD.out
          have HQ : Hid (Z = str (rsL n)) := HRc.out hnc
          clear hnc
          go_wp2
          go_ret
          exact ⟨by rw [← HQ.out]; rfl, HB.out⟩
        | false =>
          have hnc : n ≠ c := of_decide_eq_false HD.out
          obtain ⟨q1, q2⟩ := HNx.out hnc
          have HQ : Hid (Lp12 n (i + 1) (i + 1)) := q1
          clear hnc q1
          go_wp2
          go_roundw
          case rel => exact ⟨i + 1, i + 1, by go_num, by go_num, q2, HQ, HB⟩
          case measure => simp [intOf]; omega

end Ms
end Go.Proofs.YtcelekfokbdmfaaGreatDoor
